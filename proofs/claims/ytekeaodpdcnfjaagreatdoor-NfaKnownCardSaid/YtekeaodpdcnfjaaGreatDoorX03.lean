/- Texts of the proof, put together: what it uses. -/
import Derived.WalkKit
import Derived.WalkSpells
import Derived.Maps.OwnSet
import Derived.Test.YtekeaodpdcnfjaaGreatDoorProg
import Derived.WalkLawsBesides
import Derived.BigQuiet
import Derived.Deep.QuietTactic
import Derived.Laws.OwnMore
import Derived.Laws.BitsAllLaws
import Derived.Deep.RegionHeld3
import Derived.Deep.RegionWith
import Derived.Deep.AppendLies
import Derived.OwnWalk
import Derived.KernelRfl
import Derived.Lib.AppendZerosOnto
import Derived.DeepKeys4
import Derived.LaidEqlPtr
import Derived.Test.YtekeaodpdcnfjaaGreatDoorX00
import Derived.Test.YtekeaodpdcnfjaaGreatDoorX01
import Derived.Test.YtekeaodpdcnfjaaGreatDoorX02
set_option maxRecDepth 100000
set_option maxHeartbeats 16000000
namespace Go.Proofs.YtekeaodpdcnfjaaGreatDoor
open Go.RowKit Go.Maps
def adOf (a:Option Addr) (i:Nat):Addr:=match a with
 | some x=>x.add i
 | none=>⟨0,0,none⟩
theorem qh(g o i:Nat):(⟨g,o,none⟩:Addr).add i=⟨g,o+i,none⟩:=by unfold Addr.add;split <;> simp_all
theorem q6z{P:Program}{e:TypeId}(h:(P.info? e).map (·.size)=some 1)(w:World):(sizeOf e).run P w=.ok 1 w:=by
 cases hq:P.info? e with
 | none=>simp[hq]at h
 | some i=>simp[hq]at h;simp[sizeOf,typeInfo,hq,h]
theorem q1c{P:Program}{T e:TypeId}(hu:P.underlying T=some (.slice e))(hs:(P.info? e).map (·.size)=some 1){a:Option Addr}{cap n:Nat}(hn:a=none→n=0)(k:Nat)(w:World)(hk:k<n) :
  (Instr.indexAt T (.slice a n cap) (.int .i64 k)).run P w=.ok (.pointer (some (adOf a k))) w:=by
 cases a with
 | none=>have:=hn rfl;omega
 | some x=>simp[Instr.indexAt,run_underlying hu,asIntOf,q6z hs,hk,adOf,Result.andThen,go_sem]
structure IntSl (P:Program) (T:TypeId) (q:IntKind) (w:World) (a:Option Addr) (len cap:Nat) (zs:List Int):Prop where
 hlen:zs.length=len
 hcap:len≤cap
 bd:cap≤maxLen
 idx:∀ (n k:Nat) (w:World),k<n→n≤len→(Instr.indexAt T (.slice a n cap) (.int .i64 k)).run P w=.ok (.pointer (some (adOf a k))) w
 cell:∀ k,k<len→w.cell? (adOf a k)=some (.int q (zs.getD k 0))
 blk:∀ k,k<len→(adOf a k).block<w.heap.size
 nn:a=none→cap=0
theorem IntSl.later{P:Program}{T:TypeId}{q:IntKind}{w w':World}{a:Option Addr}{len cap:Nat}{zs:List Int}(h:IntSl P T q w a len cap zs){B:Nat}(hb:Below B w w')(hB:∀ k,k<len→(adOf a k).block<B):IntSl P T q w' a len cap zs :=
 ⟨h.hlen,h.hcap,h.bd,h.idx,fun k hk=>(hb.cell (hB k hk)).trans (h.cell k hk),fun k hk=>Nat.lt_of_lt_of_le (h.blk k hk) hb.size,h.nn⟩
theorem IntSl.up{P:Program}{T:TypeId}{q:IntKind}{w w':World}{a:Option Addr}{len cap:Nat}{zs:List Int}(h:IntSl P T q w a len cap zs)(hb:Below w.heap.size w w'):IntSl P T q w' a len cap zs:=h.later hb h.blk
theorem IntSl.drewN{P:Program}{T:TypeId}{q:IntKind}{w:World}{a:Option Addr}{len cap:Nat}{zs:List Int}(h:IntSl P T q w a len cap zs)(n:Nat):IntSl P T q (w.drewN n) a len cap zs:=h.up (below_drewN (Below.refl _ _) n)
theorem q4r{zs:List Int}{k:Nat}(h:k<zs.length):zs.take (k+1)=zs.take k++[zs.getD k 0]:=by
 rw[List.take_add_one,List.getElem?_eq_getElem h];simp[List.getD_eq_getElem?_getD,List.getElem?_eq_getElem h]
theorem q4U{xs ys:List Int}{k:Nat}(hx:k<xs.length)(hy:k<ys.length)(h:xs.take k=ys.take k)(he:xs.getD k 0=ys.getD k 0):xs.take (k+1)=ys.take (k+1):=by
 rw[q4r hx,q4r hy,h,he]
theorem qbl{P:Program}{T:TypeId}{w:World}:IntSl P T .u8 w none 0 0 [] :=
 ⟨rfl,Nat.le_refl _,Nat.zero_le _,fun m k w hk hm=>absurd hk (by omega),fun k hk=>absurd hk (by omega),fun k hk=>absurd hk (by omega),fun _=>rfl⟩
theorem q4q{P:Program}{T e:TypeId}{w:World}{base n:Nat}{v:Value}{zs:List Int}(h:w.ownsRow base e 1 v n (zs.map (Value.int .u8)))(hu:P.underlying T=some (.slice e))(hs:(P.info? e).map (·.size)=some 1) :
  ∃ a cap,v=.slice a n cap∧IntSl P T .u8 w a n cap zs∧∀ k,k<n→base≤(adOf a k).block:=by
 obtain ⟨hl,h⟩:=h
 simp at hl
 rcases h with ⟨rfl,rfl⟩ | ⟨g,cap,cur,rfl,hg,hcell,hnc,hcm,hsz,htk⟩
 ·have:zs=[]:=List.eq_nil_of_length_eq_zero hl
  subst this
  exact ⟨none,0,rfl,qbl,fun k hk=>absurd hk (by omega)⟩
 ·have had:∀ k,adOf (some ⟨g,0,none⟩) k=⟨g,k,none⟩:=fun k=>by simp[adOf,qh]
  have hlt:g<w.heap.size:=(Array.getElem?_eq_some_iff.1 hcell).1
  refine ⟨some ⟨g,0,none⟩,cap,rfl,⟨hl,hnc,hcm,fun m k w hk hm=>q1c hu hs (by simp) k w hk,fun k hk=>?_,fun k hk=>by rw[had];exact hlt,by simp⟩,fun k hk=>by rw[had];exact hg⟩
  rw[had]
  have hk2:(cur.toList.take (n*1))[k]? = some (.int .u8 (zs.getD k 0)):=by
   rw[htk];simp[List.getD_eq_getElem?_getD,List.getElem?_eq_getElem (show k<zs.length by omega)]
  rw[List.getElem?_take,if_pos (by omega)]at hk2
  simp[World.cell?,hcell]
  simpa using hk2
theorem q1E{w:World}{base e size n:Nat}{v:Value}{xs:List Value}(h:w.ownsRow base e size v n xs):∀ k,v.ownBlock=some k→base≤k:=by
 obtain ⟨_,h⟩:=h
 rcases h with ⟨rfl,_⟩ | ⟨g,cap,cur,rfl,hg,_⟩
 ·intro k hk;simp[Value.ownBlock]at hk
 ·intro k hk;simp[Value.ownBlock]at hk;omega
theorem qc(w:World)(o:Obj):Below w.heap.size w (w.alloc o):=(Below.refl _ _).alloc (Nat.le_refl _) _
theorem qd{w w1 w2:World}(h:Below w.heap.size w w1)(k:Below w1.heap.size w1 w2):Below w.heap.size w w2:=h.trans (k.mono h.size)
theorem qal{P:Program}{e:TypeId}(h:(P.info? e).map (·.size)=some 2)(w:World):(sizeOf e).run P w=.ok 2 w:=by
 cases hq:P.info? e with
 | none=>simp[hq]at h
 | some i=>simp[hq]at h;simp[sizeOf,typeInfo,hq,h]
theorem qbI{w:World}{base e size n:Nat}{v:Value}{xs:List Value}(h:w.ownsRow base e size v n xs)(m:Nat):(w.drewN m).ownsRow base e size v n xs:=by
 refine ⟨h.1,?_⟩
 rcases h.2 with hn | ⟨g,cap,cur,h1,h2,h3,h4⟩
 ·exact Or.inl hn
 ·have hb:=below_drewN (Below.refl (g+1) w) m
  exact Or.inr ⟨g,cap,cur,h1,h2,(hb.block g (by omega)).trans h3,h4⟩
theorem q1z{w w':World}{base e size n:Nat}{v:Value}{xs:List Value}(h:w.ownsRow base e size v n xs)(hb:Below w.heap.size w w'):w'.ownsRow base e size v n xs:=by
 refine ⟨h.1,?_⟩
 rcases h.2 with hn | ⟨g,cap,cur,h1,h2,h3,h4⟩
 ·exact Or.inl hn
 ·exact Or.inr ⟨g,cap,cur,h1,h2,(hb.block g (Array.getElem?_eq_some_iff.1 h3).1).trans h3,h4⟩
theorem qm{w0 w1:World}{p:Addr}{v:Value}(h:w0.cell? p=some v)(hb:Below w0.heap.size w0 w1):w1.cell? p=some v:=(hb.cell (World.block_lt_of_cell? _ _ h)).trans h
theorem qb{W:World}{g:Nat}{arr:Array Value}{e:TypeId}(h:W.heap[g]? = some (.cells arr e (0,0)))(j:Nat):W.cell? ⟨g,j,none⟩=arr[j]? := by simp[World.cell?,h]
theorem q3l(x:Addr)(n:Nat):(x.add n).block=x.block:=by unfold Addr.add;split <;> rfl
theorem qao(x:Addr)(m n:Nat):(x.add m).add n=x.add (m+n):=by
 unfold Addr.add
 by_cases h:n=0
 ·subst h;simp
 ·have h2:¬ (m+n=0):=fun e=>h (by omega)
  rw[if_neg h,if_neg h2];split <;> simp_all [Nat.add_assoc]
abbrev iU (l:List Nat):List Int:=l.map fun (x:Nat)=>(x:Int)
abbrev USl (w:World) (a:Option Addr) (len cap:Nat) (l:List Nat):Prop:=IntSl Tryz.prog 26 .u64 w a len cap (iU l)
theorem USl.len{w:World}{a:Option Addr}{len cap:Nat}{l:List Nat}(h:USl w a len cap l):len=l.length:=by
 have:=h.hlen
 simp[iU]at this
 omega
def Sm (l:List Nat):Prop:=∀ x∈l,x<2 ^ 64
theorem q2D:(Tryz.prog.info? 46).map (·.size)=some 1:=by kernel_rfl
theorem q58{w:World}:USl w none 0 0 [] :=
 ⟨rfl,Nat.le_refl _,Nat.zero_le _,fun m k w hk hm=>absurd hk (by omega),fun k hk=>absurd hk (by omega),fun k hk=>absurd hk (by omega),fun _=>rfl⟩
theorem q1K(l:List Nat)(w:World)(hl:l.length≤2000):USl (w.alloc (.cells ((iU l).map (Value.int .u64)).toArray 46)) (some ⟨w.heap.size,0,none⟩) l.length l.length l:=by
 have had:∀ k,adOf (some ⟨w.heap.size,0,none⟩) k=⟨w.heap.size,k,none⟩:=fun k=>by simp[adOf,qh]
 have hr:=(MapKept.heap_alloc w (.cells ((iU l).map (Value.int .u64)).toArray 46)).1
 refine ⟨by simp,Nat.le_refl _,by unfold maxLen;omega,fun m k w hk hm=>q1c Tryz.underlying26 q2D (by simp) k w hk,fun k hk=>?_,fun k hk=>?_,by simp⟩
 ·rw[had,qb hr k]
  simp[List.getD_eq_getElem?_getD,hk]
 ·rw[had]
  exact (Array.getElem?_eq_some_iff.1 hr).1
def LE (E:Nat) (r:List Nat) (w:World) (e:Ending) (w':World):Prop:=∃ (a:Option Addr) (c:Nat),e=.returned (.tuple #[.slice a r.length c,.int .i64 (E:Int)])∧USl w' a r.length c r∧Below w.heap.size w w'
def BR (b:Bool) (w:World) (e:Ending) (w':World):Prop:=e=.returned (.bool b)∧Below w.heap.size w w'
theorem qbP(x y:Nat)(hx:x<18446744073709551616)(hy:y<18446744073709551616):(x &&& (18446744073709551615 - y)=0)↔y ||| x=y:=by
 have hb:∀ i,(18446744073709551615 - y).testBit i=(decide (i<64) && !y.testBit i):=fun i=>by
  have:=Nat.testBit_two_pow_sub_succ (n:=64) (x:=y) (by exact hy) i
  rw[show 2 ^ 64 - (y+1)=18446744073709551615 - y by omega]at this
  exact this
 constructor
 ·intro h
  refine Nat.eq_of_testBit_eq fun i=>?_
  have:=congrArg (fun z=>z.testBit i) h
  simp only[Nat.testBit_and,hb,Nat.zero_testBit]at this
  rw[Nat.testBit_or]
  by_cases hi:i<64
  ·simp[hi]at this
   cases h1:y.testBit i <;> cases h2:x.testBit i <;> simp_all
  ·have:x.testBit i=false:=Nat.testBit_lt_two_pow (Nat.lt_of_lt_of_le hx (by rw[show (18446744073709551616:Nat)=2 ^ 64 from rfl];exact Nat.pow_le_pow_right (by decide) (by omega)))
   rw[this];simp
 ·intro h
  refine Nat.eq_of_testBit_eq fun i=>?_
  have:=congrArg (fun z=>z.testBit i) h
  simp only[Nat.testBit_or]at this
  rw[Nat.testBit_and,hb,Nat.zero_testBit]
  cases h1:y.testBit i <;> cases h2:x.testBit i <;> simp_all
theorem or_wi{x y:Nat}:y ||| x=y↔Wi x y:=by
 rw[q1Z]
 constructor
 ·intro h i hi
  rw[← h,Nat.testBit_or,hi,Bool.or_true]
 ·intro h
  apply Nat.eq_of_testBit_eq
  intro i
  rw[Nat.testBit_or]
  cases hx:x.testBit i with
  | false=>rw[Bool.or_false]
  | true=>rw[h i hx];rfl
theorem qdY(x y:Nat)(hx:x<2 ^ 64)(hy:y<2 ^ 64):bits .andNot .u64 (x:Int) (y:Int)=0↔Wi x y:=by
 rw[u64_andNot_nat x y hx hy,← or_wi,← qbP x y hx hy]
 omega
theorem q6j(x y:Nat)(hx:x<2 ^ 64)(hy:y<2 ^ 64)(w:World):Calls Tryz.prog 136 #[.int .u64 (x:Int),.int .u64 (y:Int)] w fun e w'=>e=.returned (.bool (decide (Wi x y)))∧w'=w:=by
 have h:=qdY x y hx hy
 generalize hz:bits .andNot .u64 (x:Int) (y:Int)=z at *
 have HD:Hid ((z == 0)=decide (Wi x y)):=by
  show _=_
  rw[Bool.eq_iff_iff,beq_iff_eq,decide_eq_true_iff]
  exact h
 clear h
 go_enter Tryz.func136,Tryz.ntmps136
 go_wp2
 go_ret
 exact ⟨by rw[← HD.out];rfl,rfl⟩
theorem q2n(a:Option Addr)(n c:Nat)(l:List Nat)(h:Nat)(w:World)(hS:USl w a n c l)(sL:Sm l)(hh:h<2 ^ 64) :
  Calls Tryz.prog 116 #[.slice a n c,.int .u64 (h:Int)] w (BR (hoB l h) w):=by
 have hb0:=hS.bd
 have hb1:=hS.hcap
 unfold maxLen at hb0
 have hln:=hS.len
 have HL:Hid (n=l.length):=hln
 have hidx:=fun (k:Nat) (w:World) (h:k<n)=>hS.idx n k w h (Nat.le_refl _)
 have hcell:∀ k,k<n→w.cell? (adOf a k)=some (.int .u64 ((l.getD k 0:Nat):Int)):=fun k hk=>by
  rw[hS.cell k hk]
  congr 2
  simp only[List.getD_eq_getElem?_getD,iU,List.getElem?_map]
  cases l[k]? <;> rfl
 have HW:Hid (∀ k,k<n→∀ w',Calls Tryz.prog 136 #[.int .u64 ((l.getD k 0:Nat):Int),.int .u64 (h:Int)] w' fun e w''=>e=.returned (.bool (decide (Wi (l.getD k 0) h)))∧w''=w'):=fun k hk w'=>q6j _ h (by
  have hk':k<l.length:=by omega
  rw[List.getD_eq_getElem?_getD,List.getElem?_eq_getElem hk']
  exact sL _ (List.getElem_mem hk')) hh w'
 clear hS sL hln
 go_enter Tryz.func116,Tryz.ntmps116
 go_wp2
 go_loopw [9] (fun i wr=>∃ k:Nat,k≤n∧i=.int .i64 (k:Int)∧Hid (∀ j,j<k→¬ Wi (l.getD j 0) h)∧wr=w) (fun i _=>n - (intOf i).toNat)
 case atStart=>exact ⟨0,Nat.zero_le _,rfl,fun j hj=>absurd hj (by omega),rfl⟩
 case round =>
  obtain ⟨k,hk,rfl,HU,rfl⟩:=hrel
  by_cases hlt:k<n
  ·have hc:=hcell k hlt
   have hx:=fun w'=>hidx k w' hlt
   have hw:=HW.out k hlt
   have HY:Hid (¬ Wi (l.getD k 0) h→∀ j,j<k+1→¬ Wi (l.getD j 0) h):=fun hn j hj=>by
    by_cases e:j=k
    ·subst e;exact hn
    ·exact HU.out j (by omega)
   have HN:Hid (Wi (l.getD k 0) h→hoB l h=true):=fun hn=>by
    have hk':k<l.length:=by rw[← HL.out];exact hlt
    refine decide_eq_true ⟨l.getD k 0,?_,hn⟩
    rw[List.getD_eq_getElem?_getD,List.getElem?_eq_getElem hk']
    exact List.getElem_mem hk'
   generalize l.getD k 0=x at *
   clear hcell hidx
   by_cases hwi:Wi x h
   ·rw[decide_eq_true hwi]at hw
    have HZ:Hid (hoB l h=true):=HN.out hwi
    clear hwi HN HY
    go_wp2_with fail
    refine (hw _).mono ?_
    rintro e w1 ⟨rfl,rfl⟩
    go_wp2_with fail
    go_ret
    exact ⟨by rw[HZ.out];rfl,Below.refl _ _⟩
   ·rw[decide_eq_false hwi]at hw
    have HZ:Hid (∀ j,j<k+1→¬ Wi (l.getD j 0) h):=HY.out hwi
    clear hwi HN HY
    go_wp2_with fail
    refine (hw _).mono ?_
    rintro e w1 ⟨rfl,rfl⟩
    go_wp2_with fail
    go_roundw
    case rel=>exact ⟨k+1,by omega,by go_num,HZ,by first | trivial | rfl⟩
    case measure=>simp[intOf];omega
  ·have HZ:Hid (hoB l h=false):=by
    refine decide_eq_false ?_
    rintro ⟨s,hs,hw⟩
    obtain ⟨j,hj,rfl⟩:=List.getElem_of_mem hs
    have:=HU.out j (by have:=HL.out;omega)
    rw[List.getD_eq_getElem?_getD,List.getElem?_eq_getElem hj]at this
    exact this hw
   go_wp2
   go_ret
   exact ⟨by rw[HZ.out];rfl,Below.refl _ _⟩
def encT (ts:List Tk):List Value:=ts.flatMap fun t=>[.int .u8 (t.1:Int),.int .u8 (t.2:Int)]
theorem q7I(t:Tk)(ts:List Tk):encT (t::ts)=.int .u8 (t.1:Int) :: .int .u8 (t.2:Int)::encT ts:=rfl
theorem q39:∀ ts:List Tk,(encT ts).length=ts.length*2
 | []=>rfl
 | t::ts=>by rw[q7I];simp[q39 ts];omega
theorem q5x:∀ (ts:List Tk) (k:Nat) (h:k<ts.length),(encT ts)[2*k]? = some (.int .u8 (ts[k].1:Int))∧(encT ts)[2*k+1]? = some (.int .u8 (ts[k].2:Int))
 | [],k,h=>absurd h (by simp)
 | t::ts,0,_=>⟨rfl,rfl⟩
 | t::ts,k+1,h=>by
  have:=q5x ts k (by simpa using h)
  rw[q7I,show 2*(k+1)=2*k+1+1 by omega,show 2*k+1+1+1=(2*k+1)+1+1 by omega]
  simpa using this
structure TkSl (w:World) (a:Option Addr) (len cap:Nat) (ts:List Tk):Prop where
 hlen:ts.length=len
 hcap:len≤cap
 bd:cap≤maxLen
 nn:a=none→cap=0
 c0:∀ x,a=some x→∀ k (h:k<ts.length),w.cell? (x.add (2*k))=some (.int .u8 (ts[k].1:Int))
 c1:∀ x,a=some x→∀ k (h:k<ts.length),w.cell? (x.add (2*k+1))=some (.int .u8 (ts[k].2:Int))
 ok:∀ t∈ts,t.1<256∧t.2<256
theorem TkSl.some_of{w:World}{a:Option Addr}{len cap:Nat}{ts:List Tk}(h:TkSl w a len cap ts)(hl:0<len):∃ x,a=some x:=by
 cases a with
 | none=>have:=h.nn rfl;have:=h.hcap;omega
 | some x=>exact ⟨x,rfl⟩
theorem TkSl.lt{w:World}{x:Addr}{len cap:Nat}{ts:List Tk}(h:TkSl w (some x) len cap ts)(hl:0<len):x.block<w.heap.size:=by
 have h0:=h.c0 x rfl 0 (by have:=h.hlen;omega)
 have:=World.block_lt_of_cell? _ _ h0
 rwa [q3l]at this
theorem TkSl.keep{w w':World}{a:Option Addr}{len cap:Nat}{ts:List Tk}(h:TkSl w a len cap ts)(hk:∀ p v,w.cell? p=some v→(∀ x,a=some x→p.block=x.block)→w'.cell? p=some v):TkSl w' a len cap ts :=
 ⟨h.hlen,h.hcap,h.bd,h.nn,fun x hx k hk'=>hk _ _ (h.c0 x hx k hk') (fun y hy=>by rw[q3l];rw[hx]at hy;injection hy with hy;rw[hy]),fun x hx k hk'=>hk _ _ (h.c1 x hx k hk') (fun y hy=>by rw[q3l];rw[hx]at hy;injection hy with hy;rw[hy]),h.ok⟩
theorem TkSl.up{w w':World}{a:Option Addr}{len cap:Nat}{ts:List Tk}(h:TkSl w a len cap ts)(hb:Below w.heap.size w w'):TkSl w' a len cap ts :=
 h.keep fun _ _ hp _=>qm hp hb
theorem TkSl.nil{w:World}:TkSl w none 0 0 [] :=
 ⟨rfl,Nat.le_refl _,Nat.zero_le _,fun _=>rfl,fun x hx=>(by cases hx),fun x hx=>(by cases hx),fun t ht=>(by simp at ht)⟩
theorem TkSl.at{w:World}{a:Option Addr}{len cap:Nat}{ts:List Tk}(h:TkSl w a len cap ts){P:Program}{T e:TypeId}(hu:P.underlying T=some (.slice e))(hs:(P.info? e).map (·.size)=some 2)(k:Nat)(hk:k<len) :
  ∃ g o s,(∀ (n:Nat) (w':World),k<n→(Instr.indexAt T (.slice a n cap) (.int .i64 k)).run P w'=.ok (.pointer (some ⟨g,o,s⟩)) w')∧w.cell? ⟨g,o,s⟩=some (.int .u8 ((ts[k]'(by rw[h.hlen];exact hk)).1:Int))∧w.cell? ⟨g,o+1,none⟩=some (.int .u8 ((ts[k]'(by rw[h.hlen];exact hk)).2:Int))∧g<w.heap.size∧∀ x,a=some x→x.block=g:=by
 obtain ⟨x,rfl⟩:=h.some_of (by omega)
 have hkl:k<ts.length:=by rw[h.hlen];exact hk
 have e0:=h.c0 x rfl k hkl
 have e1:=h.c1 x rfl k hkl
 have hlt:=h.lt (by omega)
 rw[← qao]at e1
 have hb:=q3l x (2*k)
 have hrun:∀ (n:Nat) (w':World),k<n→(Instr.indexAt T (.slice (some x) n cap) (.int .i64 k)).run P w'=.ok (.pointer (some (x.add (2*k)))) w':=fun n w' hn=>by
  simp[Instr.indexAt,run_underlying hu,asIntOf,qal hs,hn,Result.andThen,go_sem,Nat.mul_comm]
 generalize x.add (2*k)=y at *
 obtain ⟨g,o,s⟩:=y
 refine ⟨g,o,s,hrun,e0,?_,?_,?_⟩
 ·simpa [Addr.add] using e1
 ·dsimp only at hb;omega
 ·intro z hz;injection hz with hz;rw[← hz];exact hb.symm
theorem qe0{w:World}{base e n:Nat}{v:Value}{ts:List Tk}(h:w.ownsRow base e 2 v n (encT ts))(hok:∀ t∈ts,t.1<256∧t.2<256) :
  ∃ a cap,v=.slice a n cap∧TkSl w a n cap ts∧∀ x,a=some x→base≤x.block∧v.ownBlock=some x.block:=by
 obtain ⟨hl,h⟩:=h
 rw[q39]at hl
 have hl':ts.length=n:=by omega
 rcases h with ⟨rfl,rfl⟩ | ⟨g,cap,cur,rfl,hg,hcell,hnc,hcm,hsz,htk⟩
 ·obtain rfl:=List.eq_nil_of_length_eq_zero hl'
  exact ⟨none,0,rfl,TkSl.nil,fun x hx=>by cases hx⟩
 ·have key:∀ j,j<n*2→w.cell? ⟨g,j,none⟩=(encT ts)[j]? := fun j hj=>by
   rw[← htk,List.getElem?_take,if_pos hj]
   simp[World.cell?,hcell]
  refine ⟨some ⟨g,0,none⟩,cap,rfl,⟨hl',hnc,hcm,fun hn=>(nomatch hn),fun x hx k hk=>?_,fun x hx k hk=>?_,hok⟩,fun x hx=>by injection hx with hx;subst hx;exact ⟨hg,rfl⟩⟩
  ·injection hx with hx;subst hx
   rw[qh,Nat.zero_add,key _ (by omega)];exact (q5x ts k hk).1
  ·injection hx with hx;subst hx
   rw[qh,Nat.zero_add,key _ (by omega)];exact (q5x ts k hk).2
theorem q1M:(Tryz.prog.info? 43).map (·.size)=some 2:=by kernel_rfl
structure Fr (w w':World) (F F':Nat→Prop):Prop where
 os:w'.os=w.os
 tape:w'.tape=w.tape
 output:w'.output=w.output
 size:w.heap.size≤w'.heap.size
 keep:∀ k,k<w.heap.size→¬ F k→w'.heap[k]? = w.heap[k]?
 foot:∀ k,F' k→F k∨w.heap.size≤k
theorem Fr.below{w w':World}{F F':Nat→Prop}{B:Nat}(h:Fr w w' F F')(hF:∀ k,F k→B≤k)(hB:B≤w.heap.size):Below B w w' :=
 ⟨h.os,h.tape,h.output,h.size,fun k hk=>h.keep k (by omega) (fun hf=>by have:=hF k hf;omega)⟩
theorem Fr.ge{w w':World}{F F':Nat→Prop}{B:Nat}(h:Fr w w' F F')(hF:∀ k,F k→B≤k)(hB:B≤w.heap.size):∀ k,F' k→B≤k:=fun k hk=>by
 rcases h.foot k hk with h1 | h1
 ·exact hF k h1
 ·omega
theorem Fr.out{w w':World}{F F':Nat→Prop}(h:Fr w w' F F'){k:Nat}(hk:¬ F k)(hl:k<w.heap.size):¬ F' k:=fun hf=>by
 rcases h.foot k hf with h1 | h1
 ·exact hk h1
 ·omega
theorem Fr.tks{w w':World}{F F':Nat→Prop}(h:Fr w w' F F'){a:Option Addr}{len cap:Nat}{ts:List Tk}(hT:TkSl w a len cap ts)(hf:0<len→∀ x,a=some x→¬ F x.block):TkSl w' a len cap ts:=by
 by_cases hl0:len=0
 ·have hnil:ts=[]:=List.eq_nil_of_length_eq_zero (by rw[hT.hlen];exact hl0)
  subst hnil
  exact ⟨hT.hlen,hT.hcap,hT.bd,hT.nn,fun x hx k hk=>absurd hk (by simp),fun x hx k hk=>absurd hk (by simp),hT.ok⟩
 have hl:0<len:=by omega
 cases a with
 | none=>exact ⟨hT.hlen,hT.hcap,hT.bd,hT.nn,fun x hx=>(by cases hx),fun x hx=>(by cases hx),hT.ok⟩
 | some y =>
  refine hT.keep fun p v hp hx=>?_
  have e:=hx y rfl
  have hl2:=World.block_lt_of_cell? _ _ hp
  have:=h.keep p.block hl2 (by rw[e];exact hf hl y rfl)
  unfold World.cell? at hp ⊢
  rw[this];exact hp
theorem Fr.own{w w':World}{F F':Nat→Prop}(h:Fr w w' F F'){base e size n:Nat}{v:Value}{xs:List Value}(ho:w.ownsRow base e size v n xs)(hf:∀ k,v.ownBlock=some k→¬ F k):w'.ownsRow base e size v n xs:=by
 obtain ⟨hl,ho⟩:=ho
 refine ⟨hl,ho.imp id ?_⟩
 rintro ⟨g,cap,cur,rfl,hg,hcell,r⟩
 exact ⟨g,cap,cur,rfl,hg,(h.keep g (Array.getElem?_eq_some_iff.1 hcell).1 (hf g rfl)).trans hcell,r⟩
theorem Fr.trans{w w1 w2:World}{F F1 F2:Nat→Prop}(h:Fr w w1 F F1)(k:Fr w1 w2 F1 F2):Fr w w2 F F2:=by
 refine ⟨k.os.trans h.os,k.tape.trans h.tape,k.output.trans h.output,Nat.le_trans h.size k.size,fun j hj hF=>?_,fun j hj=>?_⟩
 ·exact (k.keep j (Nat.lt_of_lt_of_le hj h.size) (h.out hF hj)).trans (h.keep j hj hF)
 ·rcases k.foot j hj with h1 | h1
  ·exact h.foot j h1
  ·exact Or.inr (Nat.le_trans h.size h1)
theorem Fr.ofBelow{w w':World}{F:Nat→Prop}(h:Below w.heap.size w w'):Fr w w' F F:=⟨h.os,h.tape,h.output,h.size,fun k hk _=>h.block k hk,fun _ hk=>Or.inl hk⟩
theorem Fr.cell{w w':World}{F F':Nat→Prop}(h:Fr w w' F F'){p:Addr}{v:Value}(hc:w.cell? p=some v)(hf:¬ F p.block):w'.cell? p=some v:=by
 have:=h.keep p.block (World.block_lt_of_cell? _ _ hc) hf
 unfold World.cell? at hc ⊢
 rw[this];exact hc
theorem Fr.intSl{w w':World}{F F':Nat→Prop}(h:Fr w w' F F'){P:Program}{T:TypeId}{q:IntKind}{a:Option Addr}{len cap:Nat}{zs:List Int}(hS:IntSl P T q w a len cap zs)(hf:∀ k,k<len→¬ F (adOf a k).block):IntSl P T q w' a len cap zs :=
 ⟨hS.hlen,hS.hcap,hS.bd,hS.idx,fun k hk=>h.cell (hS.cell k hk) (hf k hk),fun k hk=>Nat.lt_of_lt_of_le (hS.blk k hk) h.size,hS.nn⟩
structure BoSl (w:World) (a:Option Addr) (len cap:Nat) (bs:List Bool):Prop where
 hlen:bs.length=len
 hcap:len≤cap
 bd:cap≤maxLen
 nn:a=none→cap=0
 c:∀ x,a=some x→∀ k (h:k<bs.length),w.cell? (x.add k)=some (.bool bs[k])
theorem BoSl.some_of{w:World}{a:Option Addr}{len cap:Nat}{bs:List Bool}(h:BoSl w a len cap bs)(hl:0<len):∃ x,a=some x:=by
 cases a with
 | none=>have:=h.nn rfl;have:=h.hcap;omega
 | some x=>exact ⟨x,rfl⟩
theorem BoSl.up{w w':World}{a:Option Addr}{len cap:Nat}{bs:List Bool}(h:BoSl w a len cap bs)(hb:Below w.heap.size w w'):BoSl w' a len cap bs :=
 ⟨h.hlen,h.hcap,h.bd,h.nn,fun x hx k hk=>qm (h.c x hx k hk) hb⟩
theorem BoSl.nil{w:World}:BoSl w none 0 0 []:=⟨rfl,Nat.le_refl _,Nat.zero_le _,fun _=>rfl,fun x hx=>(by cases hx)⟩
theorem qae:(Tryz.prog.info? 4).map (·.size)=some 1:=by kernel_rfl
theorem BoSl.at{w:World}{a:Option Addr}{len cap:Nat}{bs:List Bool}(h:BoSl w a len cap bs)(k:Nat)(hk:k<len) :
  (∀ (n:Nat) (w':World),k<n→(Instr.indexAt 28 (.slice a n cap) (.int .i64 k)).run Tryz.prog w'=.ok (.pointer (some (adOf a k))) w')∧w.cell? (adOf a k)=some (.bool (bs[k]'(by rw[h.hlen];exact hk))):=by
 obtain ⟨x,rfl⟩:=h.some_of (by omega)
 refine ⟨fun n w' hn=>q1c Tryz.underlying28 qae (by simp) k w' hn,h.c x rfl k (by rw[h.hlen];exact hk)⟩
theorem qdZ{w:World}{base e n:Nat}{v:Value}{bs:List Bool}(h:w.ownsRow base e 1 v n (bs.map Value.bool)):∃ a cap,v=.slice a n cap∧BoSl w a n cap bs:=by
 obtain ⟨hl,h⟩:=h
 simp at hl
 rcases h with ⟨rfl,rfl⟩ | ⟨g,cap,cur,rfl,hg,hcell,hnc,hcm,hsz,htk⟩
 ·obtain rfl:=List.eq_nil_of_length_eq_zero hl
  exact ⟨none,0,rfl,BoSl.nil⟩
 ·refine ⟨some ⟨g,0,none⟩,cap,rfl,hl,hnc,hcm,fun h=>(by cases h),fun x hx k hk=>?_⟩
  injection hx with hx;subst hx
  have e1:(cur.toList.take (n*1))[k]? = some (.bool bs[k]):=by rw[htk];simp[hk]
  rw[List.getElem?_take,if_pos (by omega)]at e1
  rw[qh,Nat.zero_add]
  simp[World.cell?,hcell]
  simpa using e1
theorem q77(a:Option Addr)(len cap:Nat)(xs:List Bool)(a':Option Addr)(len' cap':Nat)(ys:List Bool)(w:World)(hS:BoSl w a len cap xs)(hO:BoSl w a' len' cap' ys) :
  Calls Tryz.prog 29 #[.slice a len cap,.slice a' len' cap'] w fun e w'=>e=.returned (.bool (decide (xs=ys)))∧Below w.heap.size w w':=by
 have hb0:=hS.bd
 have hb1:=hS.hcap
 have hb2:=hO.bd
 have hb3:=hO.hcap
 unfold maxLen at hb0 hb2
 by_cases hll:len=len'
 ·subst hll
  go_enter Tryz.func29,Tryz.ntmps29
  go_wp2
  go_loopw [5] (fun i wr=>∃ k:Nat,k≤len∧i=.int .i64 k∧Hid (xs.take k=ys.take k)∧Hid (Below w.heap.size w wr)) (fun i _=>len - (intOf i).toNat)
  case atStart=>exact ⟨0,Nat.zero_le _,rfl,by show _=_;simp,Below.refl _ _⟩
  case round =>
   obtain ⟨k,hk,rfl,HU,hwr⟩:=hrel
   by_cases hlt:k<len
   ·obtain ⟨hi1,hx0⟩:=(hS.up hwr.out).at k hlt
    obtain ⟨hi2,hy0⟩:=(hO.up hwr.out).at k hlt
    have hidx:=fun w'=>hi1 len w' hlt
    have hidx':=fun w'=>hi2 len w' hlt
    clear hi1 hi2
    have hxl:k<xs.length:=by rw[hS.hlen];exact hlt
    have hyl:k<ys.length:=by rw[hO.hlen];exact hlt
    have HN:Hid (xs[k]=ys[k]→xs.take (k+1)=ys.take (k+1)):=fun h=>by
     rw[List.take_add_one,List.take_add_one,List.getElem?_eq_getElem hxl,List.getElem?_eq_getElem hyl,HU.out,h]
    have HM:Hid (xs[k]≠ys[k]→decide (xs=ys)=false):=fun h=>decide_eq_false (fun e=>h (by subst e;rfl))
    generalize xs[k]=x at *
    generalize ys[k]=y at *
    cases x <;> cases y
    all_goals
     go_wp2_with fail
     go_quiet (fail)
    ·have HN2:Hid _:=HN.out (by simp)
     go_wp2
     go_roundw
     case rel=>exact ⟨k+1,by omega,by go_num,HN2,below_drewN hwr.out nq⟩
     case measure=>simp[intOf];omega
    ·have HM2:Hid _:=HM.out (by decide)
     go_wp2
     go_ret
     exact ⟨by rw[HM2.out];rfl,below_drewN hwr.out nq⟩
    ·have HM2:Hid _:=HM.out (by decide)
     go_wp2
     go_ret
     exact ⟨by rw[HM2.out];rfl,below_drewN hwr.out nq⟩
    ·have HN2:Hid _:=HN.out (by simp)
     go_wp2
     go_roundw
     case rel=>exact ⟨k+1,by omega,by go_num,HN2,below_drewN hwr.out nq⟩
     case measure=>simp[intOf];omega
   ·have hx:Hid (decide (xs=ys)=true):=by
     have:=HU.out
     rw[List.take_of_length_le (by rw[hS.hlen];omega),List.take_of_length_le (by rw[hO.hlen];omega)]at this
     exact decide_eq_true this
    go_wp2
    go_ret
    exact ⟨by rw[hx.out];rfl,hwr.out⟩
 ·have hx:Hid (decide (xs=ys)=false):=decide_eq_false (fun e=>hll (by rw[← hS.hlen,← hO.hlen,e]))
  have hll':((len:Int) != (len':Int))=true:=by simp;omega
  clear hll
  go_enter Tryz.func29,Tryz.ntmps29
  go_wp2
  go_ret
  exact ⟨by rw[hx.out];rfl,Below.refl _ _⟩
theorem q2s(a:Option Addr)(len cap:Nat)(xs:List Int)(a':Option Addr)(len' cap':Nat)(ys:List Int)(w:World)
  (hS:IntSl Tryz.prog 27 .i64 w a len cap xs) (hO:IntSl Tryz.prog 27 .i64 w a' len' cap' ys) :
  Calls Tryz.prog 12 #[.slice a len cap,.slice a' len' cap'] w fun e w'=>e=.returned (.bool (decide (xs=ys)))∧∃ n,w'=w.drewN n:=by
 have hb0:=hS.bd
 have hb1:=hS.hcap
 have hb2:=hO.bd
 have hb3:=hO.hcap
 unfold maxLen at hb0 hb2
 by_cases hll:len=len'
 ·subst hll
  have hidx:=fun (k:Nat) (w:World) (h:k<len)=>hS.idx len k w h (Nat.le_refl _)
  have hidx':=fun (k:Nat) (w:World) (h:k<len)=>hO.idx len k w h (Nat.le_refl _)
  go_enter Tryz.func12,Tryz.ntmps12
  go_wp2
  go_loopw [5] (fun i wr=>∃ k:Nat,k≤len∧i=.int .i64 k∧Hid (xs.take k=ys.take k)∧Hid (∃ n,wr=w.drewN n)) (fun i _=>len - (intOf i).toNat)
  case atStart=>exact ⟨0,Nat.zero_le _,rfl,by show _=_;simp,0,rfl⟩
  case round =>
   obtain ⟨k,hk,rfl,HU,hwr⟩:=hrel
   by_cases hlt:k<len
   ·have hS':IntSl Tryz.prog 27 .i64 wr a len cap xs:=by obtain ⟨n,hn⟩:=hwr.out;rw[hn];exact hS.drewN n
    have hO':IntSl Tryz.prog 27 .i64 wr a' len cap' ys:=by obtain ⟨n,hn⟩:=hwr.out;rw[hn];exact hO.drewN n
    have hck:=hS'.cell k hlt
    have hck':=hO'.cell k hlt
    have HN:Hid (xs.getD k 0=ys.getD k 0→xs.take (k+1)=ys.take (k+1)):=fun h=>q4U (by rw[hS.hlen];exact hlt) (by rw[hO.hlen];exact hlt) HU.out h
    have HM:Hid (xs.getD k 0≠ys.getD k 0→decide (xs=ys)=false):=fun h=>decide_eq_false (fun e=>h (by rw[e]))
    clear hS' hO'
    generalize xs.getD k 0=x at *
    generalize ys.getD k 0=y at *
    go_wp2
    go_quiet (fail)
    rcases Bool.eq_false_or_eq_true (x != y) with ht | ht
    ·go_wp2
     go_ret
     obtain ⟨n,hn⟩:=hwr.out
     exact ⟨by rw[HM.out (by simpa using ht)];rfl,n+nq,by rw[hn,World.drewN_drewN]⟩
    ·have HN2:Hid _:=HN.out (by simpa using ht)
     go_wp2
     go_roundw
     case rel =>
      obtain ⟨n,hn⟩:=hwr.out
      exact ⟨k+1,by omega,by go_num,HN2,n+nq,by rw[hn,World.drewN_drewN]⟩
     case measure=>simp[intOf];omega
   ·have hx:Hid (decide (xs=ys)=true):=by
     have:=HU.out
     rw[List.take_of_length_le (by rw[hS.hlen];omega),List.take_of_length_le (by rw[hO.hlen];omega)]at this
     exact decide_eq_true this
    go_wp2
    go_ret
    exact ⟨by rw[hx.out];rfl,hwr.out⟩
 ·have hx:Hid (decide (xs=ys)=false):=decide_eq_false (fun e=>hll (by rw[← hS.hlen,← hO.hlen,e]))
  have hll':((len:Int) != (len':Int))=true:=by simp;omega
  clear hll
  go_enter Tryz.func12,Tryz.ntmps12
  go_wp2
  go_ret
  exact ⟨by rw[hx.out];rfl,0,rfl⟩
def tbV (t:Nat):Value:=.pointer (some ⟨t,0,none⟩)
def itV (x:It):Value:=.agg #[.int .u8 (x.op:Int),.int .u8 (x.p:Int),.int .i64 x.a,.int .i64 x.b]
theorem qu{w:World}{base e size n:Nat}{v:Value}{xs:List Value}(h:w.ownsRow base e size v n xs):∀ k,v.ownBlock=some k→k<w.heap.size:=by
 intro k hk
 rcases h.2 with ⟨rfl,_⟩ | ⟨g,cap,cur,rfl,_,hcell,_⟩
 ·cases hk
 ·injection hk with hk
  dsimp only at hk
  subst hk
  exact (Array.getElem?_eq_some_iff.1 hcell).1
theorem qb9{w:World}{ops:Array Oper}{rest:List Oper}{o:Oper}{a:Act}{Q:Exit→Act→World→Prop}{T E:TypeId}{z:Value}{bt:Nat}(hu:Tryz.prog.underlying T=some (.slice E))(hin:(Tryz.prog.info? E).map (fun i=>(i.zero,i.size,i.bytes))=some (some z,1,bt))(hzs:z.cells.size=1)(hbt:bt≤1000)(hgd:o.guard=none)(s x:Operand)
  (ho:o.op=.call { callee:=.builtin .append,args:=#[s,x],argTypes:=#[T,T] }) (base:Nat)
  (v:Value) (n:Nat) (xs:List Value) (y:Value) (g:Nat) (hs:a.eval s=v) (hx:a.eval x=.slice (some ⟨g,0,none⟩) 1 1) (hown:w.ownsRow base E 1 v n xs)
  (hB:w.cell? ⟨g,0,none⟩=some y) (h1:y.oneCell'=true) (hn:n≤1000000) (hbase:base≤w.heap.size)
  (h:∀ v' w',w'.ownsRow base E 1 v' (n+1) (xs++[y])→w.grownBy w' v.ownBlock→(v'.ownBlock=v.ownBlock∨v'.ownBlock=some w.heap.size)→wpList Tryz.prog ops Q rest (a.put o.dst v') w'):wpList Tryz.prog ops Q (o::rest) a w:=by
 obtain ⟨i,hi,hz0,hz1,hz2⟩:=info_parts hin
 have hb:(n+1)*bt≤(1000000+1)*1000:=Nat.mul_le_mul (by omega) hbt
 refine wpList_append_own_at w hgd s x T ho base E i _ 1 bt hu hi hz0 hz1 hz2 hzs (by decide) v n _ hs hown ⟨g,0,none⟩ 1 1 [y] hx rfl ?_ ?_ (by unfold maxLen;omega) (by omega) hbase ?_
 ·intro j u hj
  match j with
  | 0=>simp at hj;rw[← hj,qh];exact hB
  | j+1=>simp at hj
 ·intro u hu'
  simp at hu'
  subst hu'
  exact h1
 ·intro v' w' e1 e2 _ e3
  exact h v' w' e1 e2 e3
def ItOk (x:It):Prop:=x.op<256∧x.p<256∧-1≤x.a∧x.a<100000000∧-1≤x.b∧x.b<100000000
def klI (x:It):Lit:=.string (keyBytes [.int .u8 (x.op:Int),.int .u8 (x.p:Int),.int .i64 x.a,.int .i64 x.b])
theorem q8k:laidOutB Tryz.prog=true:=by kernel_rfl
theorem q5o:Tryz.prog.keyType 140=true:=by kernel_rfl
theorem q34:Keyed Tryz.prog 140:=Keyed.of_law (deep_law_laid q8k (m:=3) (by omega) (of_decide_eq_true (by kernel_rfl)) (by kernel_rfl) (by kernel_rfl))
theorem q78:∃ n,Tryz.prog.types.size+1=n+2:=⟨Tryz.prog.types.size - 1,by have:0<Tryz.prog.types.size:=of_decide_eq_true (by kernel_rfl);omega⟩
theorem q6M:Tryz.prog.cellsOf 140=4:=by kernel_rfl
theorem q88:Tryz.prog.cellsOf 41=1:=by kernel_rfl
theorem q89:Tryz.prog.cellsOf 5=1:=by kernel_rfl
theorem q6L:Tryz.prog.cellsOf 3=1:=by kernel_rfl
theorem q2f(x:It)(h:ItOk x):keyOf Tryz.prog 140 (itV x)=some (klI x):=by
 obtain ⟨h1,h2,h3,h4,h5,h6⟩:=h
 obtain ⟨n,hn⟩:=q78
 have w1:(Lit.int .u8 (x.op:Int)).wf=true:=WalkArith.wf_u8 (by omega)
 have w2:(Lit.int .u8 (x.p:Int)).wf=true:=WalkArith.wf_u8 (by omega)
 have w3:(Lit.int .i64 x.a).wf=true:=WalkArith.wf_i64 (by omega)
 have w4:(Lit.int .i64 x.b).wf=true:=WalkArith.wf_i64 (by omega)
 unfold keyOf itV klI
 rw[Tryz.underlying140,hn]
 simp[q5o,Value.formed,Tryz.underlying140,q6M,Value.cells,Program.keyLits,q88,q89,q6L,Tryz.underlying41,Tryz.underlying5,Tryz.underlying3,w1,w2,w3,w4]
theorem qd3{x y:It}(h:itV x=itV y):x=y:=by
 unfold itV at h
 obtain ⟨a,b,c,d⟩:=x
 obtain ⟨a',b',c',d'⟩:=y
 simp at h
 obtain ⟨h1,h2,h3,h4⟩:=h
 simp only[It.mk.injEq]
 omega
theorem q4B{x y:It}(hx:ItOk x)(hy:ItOk y)(h:klI x=klI y):x=y :=
 qd3 (q34.inj (q2f x hx) (by rw[h];exact q2f y hy))
theorem q7l(x:It):WideAt.IsKeyLit (klI x):=trivial
def NumOf (w:World) (b n:Nat) (f:It→Option Nat):Prop :=
 ∃ D:DataW Unit,w.ownsMap Tryz.prog 140 (plainElem Tryz.prog 3) b n D∧Tidy D∧Maps.size D=n∧∀ x,ItOk x→has D (klI x)=(f x).isSome∧∀ j,f x=some j→D.atKey (klI x) (.lit (.int .i64 0))=.lit (.int .i64 (j:Int))
theorem NumOf.lt{w:World}{b n:Nat}{f:It→Option Nat}(h:NumOf w b n f):b<w.heap.size:=by
 obtain ⟨D,h,_⟩:=h;exact h.lt
theorem NumOf.far{w w':World}{b n:Nat}{f:It→Option Nat}(h:NumOf w b n f)(hb:w'.heap[b]? = w.heap[b]?):NumOf w' b n f:=by
 obtain ⟨D,⟨es,clock,h1,h2⟩,r⟩:=h
 exact ⟨D,⟨es,clock,hb.trans h1,h2⟩,r⟩
theorem NumOf.isMap{w:World}{b n:Nat}{f:It→Option Nat}(h:NumOf w b n f):∃ es c,w.heap[b]? = some (.map es c):=by
 obtain ⟨D,⟨es,clock,h1,h2⟩,r⟩:=h
 exact ⟨es,clock,h1⟩
theorem NumOf.alike{w:World}{b n:Nat}{f g:It→Option Nat}(h:NumOf w b n f)(hg:∀ x,ItOk x→f x=g x):NumOf w b n g:=by
 obtain ⟨D,h1,h2,h3,h4⟩:=h
 exact ⟨D,h1,h2,h3,fun x hx=>by rw[← hg x hx];exact h4 x hx⟩
theorem q9F(w:World):NumOf (w.alloc (.map #[] 0)) w.heap.size 0 (fun _=>none) :=
 ⟨.map [],World.ownsMap_made _ _ _ _,tidy_empty,rfl,fun x _=>⟨rfl,fun j hj=>by cases hj⟩⟩
theorem q9e(w:World):(zeroValue 3).run Tryz.prog w=.ok (.int .i64 0) w:=by kernel_rfl
theorem NumOf.look{w:World}{b n:Nat}{f:It→Option Nat}(h:NumOf w b n f){x:It}(hx:ItOk x) :
  (Instr.lookup 100 (.map (some b)) (itV x) true).run Tryz.prog w=.ok (.tuple #[.int .i64 (((f x).getD 0:Nat):Int),.bool (f x).isSome]) w:=by
 obtain ⟨D,h1,h2,h3,h4⟩:=h
 obtain ⟨hh,ha⟩:=h4 x hx
 obtain ⟨v,ps,hrun,hv⟩:=h1.look_ok q34 Tryz.underlying100 (q9e w) (plainElem_int Tryz.underlying3 (by decide)) (q2f x hx)
 obtain ⟨c,rfl,hc,hwc⟩:=plainElem_int_inv Tryz.underlying3 hv
 have hc':D.atKey (klI x) (.lit (.int .i64 0))=.lit (.int .i64 c):=congrArg Prod.fst hc
 rw[hrun,hh]
 cases hf:f x with
 | none =>
  rw[hf]at hh
  rw[atKey_of_not_has hh]at hc'
  injection hc' with hc'
  injection hc' with _ hc'
  subst hc'
  rfl
 | some j =>
  rw[ha j hf]at hc'
  injection hc' with hc'
  injection hc' with _ hc'
  subst hc'
  rfl
theorem NumOf.put{w:World}{b n:Nat}{f:It→Option Nat}(h:NumOf w b n f)(hn:n≤100000000){x:It}(hx:ItOk x)(hf:f x=none)(j:Nat)(hj:j≤100000000) :
  ∃ w',(Instr.mapUpdate 100 (.map (some b)) (itV x) (.int .i64 (j:Int))).run Tryz.prog w=.ok () w'∧NumOf w' b (n+1) (fun y=>if y=x then some j else f y)∧w.grownBy w' (some b):=by
 obtain ⟨D,h1,h2,h3,h4⟩:=h
 obtain ⟨hh,_⟩:=h4 x hx
 rw[hf]at hh
 obtain ⟨w',hrun,hown,hg⟩:=h1.update q34 Tryz.underlying100 (by unfold maxLen;omega) (q2f x hx) (plainElem_int (a:=(j:Int)) Tryz.underlying3 (WalkArith.wf_i64 (by omega)))
 refine ⟨w',hrun,⟨_,hown,h2.put (q7l x) _,?_,fun y hy=>?_⟩,hg⟩
 ·rw[size_put h2,hh,h3];rfl
 ·dsimp only
  by_cases e:y=x
  ·subst e
   rw[if_pos rfl]
   refine ⟨has_put_same h2.isMap (q7l y) _,fun i hi=>?_⟩
   injection hi with hi
   subst hi
   exact atKey_put_same h2.isMap (q7l y) _ _
  ·have ne:klI y≠klI x:=fun he=>e (q4B hy hx he)
   rw[if_neg e,has_put_other ne]
   refine ⟨(h4 y hy).1,fun i hi=>?_⟩
   rw[atKey_put_other ne]
   exact (h4 y hy).2 i hi
theorem NumOf.drop{w:World}{b n:Nat}{f:It→Option Nat}(h:NumOf w b n f){x:It}(hx:ItOk x)(hf:(f x).isSome=true)(ty:TypeId) :
  ∃ w',(Builtin.delete_ #[100,140] ty #[.map (some b),itV x]).run Tryz.prog w=.ok (.tuple #[]) w'∧NumOf w' b (n - 1) (fun y=>if y=x then none else f y)∧w.grownBy w' (some b):=by
 obtain ⟨D,h1,h2,h3,h4⟩:=h
 obtain ⟨hh,_⟩:=h4 x hx
 rw[hf]at hh
 obtain ⟨w',hrun,hown,ht⟩:=h1.drop q34 Tryz.underlying100 (q2f x hx) ty
 have hsz:Maps.size (D.del (klI x))=n - 1:=by
  have:=size_del (k:=klI x) h2
  rw[hh]at this
  simp at this
  omega
 have hown':w'.ownsMap Tryz.prog 140 (plainElem Tryz.prog 3) b (n - 1) (D.del (klI x)):=by
  obtain ⟨es,clock,g1,g2,g3,g4⟩:=hown
  refine ⟨es,clock,g1,g2,?_,g4⟩
  rw[← hsz,g4]
  simp[Maps.size,length_sorted]
 refine ⟨w',hrun,⟨_,hown',h2.del _,hsz,fun y hy=>?_⟩,ht.grown⟩
 dsimp only
 by_cases e:y=x
 ·subst e
  rw[if_pos rfl]
  exact ⟨has_del_same,fun i hi=>by cases hi⟩
 ·have ne:klI y≠klI x:=fun he=>e (q4B hy hx he)
  rw[if_neg e,has_del_other ne]
  refine ⟨(h4 y hy).1,fun i hi=>?_⟩
  rw[atKey_del_other ne]
  exact (h4 y hy).2 i hi
def encI (l:List It):List Value:=l.flatMap fun x=>[.int .u8 (x.op:Int),.int .u8 (x.p:Int),.int .i64 x.a,.int .i64 x.b]
theorem q7H(x:It)(l:List It):encI (x::l)=.int .u8 (x.op:Int) :: .int .u8 (x.p:Int) :: .int .i64 x.a :: .int .i64 x.b::encI l:=rfl
theorem q5k(xs ys:List It):encI (xs++ys)=encI xs++encI ys:=by simp[encI]
theorem q5w:∀ l:List It,(encI l).length=l.length*4
 | []=>rfl
 | t::ts=>by rw[q7H];simp[q5w ts];omega
theorem q43:∀ (l:List It) (k:Nat) (h:k<l.length),(encI l)[4*k]? = some (.int .u8 (l[k].op:Int))∧(encI l)[4*k+1]? = some (.int .u8 (l[k].p:Int))∧(encI l)[4*k+2]? = some (.int .i64 l[k].a)∧(encI l)[4*k+3]? = some (.int .i64 l[k].b)
 | [],k,h=>absurd h (by simp)
 | t::ts,0,_=>⟨rfl,rfl,rfl,rfl⟩
 | t::ts,k+1,h=>by
  have:=q43 ts k (by simpa using h)
  rw[q7H,show 4*(k+1)=4*k+1+1+1+1 by omega,show 4*k+1+1+1+1+1=(4*k+1)+1+1+1+1 by omega,show 4*k+1+1+1+1+2=(4*k+2)+1+1+1+1 by omega,show 4*k+1+1+1+1+3=(4*k+3)+1+1+1+1 by omega]
  simpa using this
theorem qbe(l:List It)(n:Nat):(encI l).take (n*4)=encI (l.take n):=by
 by_cases h:n≤l.length
 ·have e:encI l=encI (l.take n)++encI (l.drop n):=by rw[← q5k,List.take_append_drop]
  have hl:(encI (l.take n)).length=n*4:=by rw[q5w,List.length_take,Nat.min_eq_left h]
  rw[e,← hl,List.take_left]
 ·rw[List.take_of_length_le (by rw[q5w];omega),List.take_of_length_le (by omega)]
theorem q9m(x:It):∀ u∈encI [x],u.oneCell'=true:=by
 intro u hu
 simp[encI]at hu
 rcases hu with rfl | rfl | rfl | rfl <;> rfl
theorem q1p:(Tryz.prog.info? 140).map (·.size)=some 4:=by kernel_rfl
theorem q8c:(Tryz.prog.info? 140).map (fun i=>(i.zero,i.size,i.bytes))=some (some (.agg #[.int .u8 0,.int .u8 0,.int .i64 0,.int .i64 0]),4,24):=by kernel_rfl
def posI (items:List It) (x:It):Option Nat:=items.findIdx? (· = x)
theorem q2d{items:List It}(hn:items.Nodup){x:It}{j:Nat}:posI items x=some j↔items[j]? = some x:=by
 unfold posI
 rw[List.findIdx?_eq_some_iff_getElem,List.getElem?_eq_some_iff]
 constructor
 ·rintro ⟨hj,h,_⟩
  exact ⟨hj,by simpa using h⟩
 ·rintro ⟨hj,h⟩
  refine ⟨hj,by simpa using h,fun i hi=>?_⟩
  intro he
  have he':items[i]=x:=by simpa using he
  have:=(List.getElem_inj hn).1 (he'.trans h.symm)
  omega
theorem q1u{items:List It}{x:It}:posI items x=none↔x ∉ items:=by
 unfold posI
 rw[List.findIdx?_eq_none_iff]
 constructor
 ·intro h hx
  simpa using h x hx
 ·intro h y hy
  simp
  rintro rfl
  exact h hy
theorem qdr{items:List It}{x:It}{j:Nat}(h:posI items x=some j):j<items.length:=by
 unfold posI at h
 exact (List.findIdx?_eq_some_iff_getElem.1 h).1
structure TabI (w:World) (F:Nat→Prop) (t:Nat) (items:List It):Prop where
 nd:items.Nodup
 few:items.length≤4096
 ok:∀ x∈items,ItOk x
 ex:∃ v mb,w.heap[t]? = some (.cells #[tbV t,v,.map (some mb)] 175 (0,0))∧w.ownsRow 0 140 4 v items.length (encI items)∧NumOf w mb items.length (posI items)∧∀ k,F k↔(k=t∨k=mb∨v.ownBlock=some k)
theorem TabI.lt{w:World}{F:Nat→Prop}{t:Nat}{items:List It}(h:TabI w F t items):∀ k,F k→k<w.heap.size:=by
 obtain ⟨v,mb,h1,h2,h3,h4⟩:=h.ex
 intro k hk
 rcases (h4 k).1 hk with rfl | rfl | hk
 ·exact (Array.getElem?_eq_some_iff.1 h1).1
 ·exact h3.lt
 ·exact qu h2 k hk
theorem qj{w w':World}{base e size n:Nat}{v:Value}{xs:List Value}(h:w.ownsRow base e size v n xs)(hb:∀ k,v.ownBlock=some k→w'.heap[k]? = w.heap[k]?):w'.ownsRow base e size v n xs:=by
 obtain ⟨hl,h⟩:=h
 refine ⟨hl,h.imp id ?_⟩
 rintro ⟨g,cap,cur,rfl,hg,hcell,r⟩
 exact ⟨g,cap,cur,rfl,hg,(hb g rfl).trans hcell,r⟩
theorem TabI.far{w w':World}{F:Nat→Prop}{t:Nat}{items:List It}(h:TabI w F t items)(hb:∀ k,F k→w'.heap[k]? = w.heap[k]?):TabI w' F t items:=by
 obtain ⟨v,mb,h1,h2,h3,h4⟩:=h.ex
 exact ⟨h.nd,h.few,h.ok,v,mb,(hb t ((h4 t).2 (Or.inl rfl))).trans h1,qj h2 (fun k hk=>hb k ((h4 k).2 (Or.inr (Or.inr hk)))),h3.far (hb mb ((h4 mb).2 (Or.inr (Or.inl rfl)))),h4⟩
theorem TabI.up{w w':World}{F:Nat→Prop}{t:Nat}{items:List It}(h:TabI w F t items)(hb:Below w.heap.size w w'):TabI w' F t items:=h.far fun k hk=>hb.block k (h.lt k hk)
theorem Fr.same{w w':World}{F:Nat→Prop}(hb:Below w.heap.size w w'):Fr w w' F F:=⟨hb.os,hb.tape,hb.output,hb.size,fun k hk _=>hb.block k hk,fun _ hk=>Or.inl hk⟩
structure TabR (w:World) (t:Nat) (a:Option Addr) (n cap mb:Nat) (items:List It):Prop where
 hn:items.length=n
 hc:n≤cap
 bd:cap≤maxLen
 nn:a=none→cap=0
 blk:w.heap[t]? = some (.cells #[tbV t,.slice a n cap,.map (some mb)] 175 (0,0))
 row:w.ownsRow 0 140 4 (.slice a n cap) n (encI items)
 num:NumOf w mb n (posI items)
theorem TabI.read{w:World}{F:Nat→Prop}{t:Nat}{items:List It}(h:TabI w F t items):∃ a cap mb,TabR w t a items.length cap mb items∧∀ k,F k↔(k=t∨k=mb∨(Value.slice a items.length cap).ownBlock=some k):=by
 obtain ⟨v,mb,h1,h2,h3,h4⟩:=h.ex
 rcases h2.2 with ⟨rfl,e0⟩ | ⟨g,cap,cur,rfl,_,_,hnc,hcm,_⟩
 ·obtain rfl:items=[]:=List.eq_nil_of_length_eq_zero e0
  exact ⟨none,0,mb,⟨rfl,Nat.le_refl _,Nat.zero_le _,fun _=>rfl,h1,h2,h3⟩,h4⟩
 ·exact ⟨some ⟨g,0,none⟩,cap,mb,⟨rfl,hnc,hcm,fun e=>(by cases e),h1,h2,h3⟩,h4⟩
theorem TabR.c0{w:World}{t n cap mb:Nat}{a:Option Addr}{items:List It}(h:TabR w t a n cap mb items):w.cell? ⟨t,0,none⟩=some (.pointer (some ⟨t,0,none⟩)):=qb h.blk 0
theorem TabR.c1{w:World}{t n cap mb:Nat}{a:Option Addr}{items:List It}(h:TabR w t a n cap mb items):w.cell? ⟨t,1,none⟩=some (.slice a n cap):=qb h.blk 1
theorem TabR.c2{w:World}{t n cap mb:Nat}{a:Option Addr}{items:List It}(h:TabR w t a n cap mb items):w.cell? ⟨t,2,none⟩=some (.map (some mb)):=qb h.blk 2
theorem q1h{P:Program}{e:TypeId}{s:Nat}(h:(P.info? e).map (·.size)=some s)(w:World):(sizeOf e).run P w=.ok s w:=by
 cases hq:P.info? e with
 | none=>simp[hq]at h
 | some i=>simp[hq]at h;simp[sizeOf,typeInfo,hq,h]
theorem TabR.at{w:World}{t n cap mb:Nat}{a:Option Addr}{items:List It}(h:TabR w t a n cap mb items)(k:Nat)(hk:k<items.length) :
  ∃ g o,(∀ w',(Instr.indexAt 99 (.slice a n cap) (.int .i64 (k:Int))).run Tryz.prog w'=.ok (.pointer (some ⟨g,o,none⟩)) w')∧w.cell? ⟨g,o,none⟩=some (.int .u8 (items[k].op:Int))∧w.cell? ⟨g,o+1,none⟩=some (.int .u8 (items[k].p:Int))∧w.cell? ⟨g,o+2,none⟩=some (.int .i64 items[k].a)∧w.cell? ⟨g,o+3,none⟩=some (.int .i64 items[k].b):=by
 have hn:=h.hn
 rcases h.row.2 with ⟨e,e0⟩ | ⟨g,cap',cur,e,_,hcell,hnc,_,hsz,htk⟩
 ·omega
 ·injection e with e1 _ e3
  subst e1 e3
  have key:∀ j,j<n*4→w.cell? ⟨g,j,none⟩=(encI items)[j]? := fun j hj=>by
   rw[← htk,List.getElem?_take,if_pos hj]
   simp[World.cell?,hcell]
  have hkn:k<n:=by omega
  obtain ⟨q0,q1,q2,q3⟩:=q43 items k hk
  refine ⟨g,4*k,fun w'=>?_,?_,?_,?_,?_⟩
  ·simp[Instr.indexAt,run_underlying Tryz.underlying99,asIntOf,q1h q1p,hkn,Result.andThen,go_sem,qh,Nat.mul_comm]
  ·rw[key _ (by omega)];exact q0
  ·rw[key _ (by omega)];exact q1
  ·rw[key _ (by omega)];exact q2
  ·rw[key _ (by omega)];exact q3
theorem q6i(op:Nat)(w:World)(hop:op≤23)(h3:op≠3)(h9:op≠9)(h10:op≠10):Calls Tryz.prog 130 #[.int .u8 (op:Int)] w fun e w'=>e=.returned (.int .i64 (takO op:Int))∧w'=w:=by
 rcases q5L hop with rfl | rfl | rfl | rfl | rfl | rfl | rfl | rfl | rfl | rfl | rfl | rfl | rfl | rfl | rfl | rfl | rfl | rfl | rfl | rfl | rfl | rfl | rfl | rfl <;> first | exact absurd rfl h3 | exact absurd rfl h9 | exact absurd rfl h10 |
 ·go_enter Tryz.func130,Tryz.ntmps130
  go_wp2
  go_ret
  exact ⟨rfl,rfl⟩
theorem q9b : ∃ j, Tryz.prog.info? 175 = some j := by
  cases h : Tryz.prog.info? 175 with
  | some j => exact ⟨j, rfl⟩
  | none => exact absurd h (by have : (Tryz.prog.info? 175).isSome = true := by kernel_rfl
                               intro e; rw [e] at this; cases this)
theorem q8w(a:Addr)(w:World):(binOp .eql 135 (.pointer (some a)) (.pointer (some a))).run Tryz.prog w=.ok (.bool true) w:=by
 obtain ⟨j,hj⟩:=q9b
 exact run_eql_ptr_same w a Tryz.underlying135 hj
theorem q2N{w:World}{t n cap mb:Nat}{a:Option Addr}{items:List It}(h:TabR w t a n cap mb items):Calls Tryz.prog 105 #[.pointer (some ⟨t,0,none⟩)] w fun e w'=>e=.returned (.bool true)∧w'=w:=by
 have c0:=h.c0
 have hp:=fun w=>q8w ⟨t,0,none⟩ w
 clear h
 go_enter Tryz.func105,Tryz.ntmps105
 go_wp2
 go_ret
 exact ⟨rfl,rfl⟩
theorem qcE(w:World)(t:Nat)(ht:t=w.heap.size+1):TabI ((w.alloc (.map #[] 0)).alloc (.cells #[.pointer (some ⟨t,0,none⟩),.slice none 0 0,.map (some w.heap.size)] 175)) (fun k=>k=t∨k=w.heap.size) t []:=by
 have h1:((w.alloc (.map #[] 0)).alloc (.cells #[.pointer (some ⟨t,0,none⟩),.slice none 0 0,.map (some w.heap.size)] 175)).heap[t]? = some (.cells #[.pointer (some ⟨t,0,none⟩),.slice none 0 0,.map (some w.heap.size)] 175 (0,0)):=by
  have:=(MapKept.heap_alloc (w.alloc (.map #[] 0)) (.cells #[.pointer (some ⟨t,0,none⟩),.slice none 0 0,.map (some w.heap.size)] 175)).1
  rw[show (w.alloc (.map #[] 0)).heap.size=t by simp;omega]at this
  exact this
 have h2:NumOf ((w.alloc (.map #[] 0)).alloc (.cells #[.pointer (some ⟨t,0,none⟩),.slice none 0 0,.map (some w.heap.size)] 175)) w.heap.size 0 (posI []):=((q9F w).far ((qc (w.alloc (.map #[] 0)) _).block w.heap.size (by simp))).alike fun x _=>rfl
 refine ⟨by simp,by simp,fun x hx=>(by simp at hx),.slice none 0 0,w.heap.size,h1,⟨rfl,Or.inl ⟨rfl,rfl⟩⟩,h2,fun k=>?_⟩
 constructor
 ·rintro (h | h)
  ·exact Or.inl h
  ·exact Or.inr (Or.inl h)
 ·rintro (h | h | h)
  ·exact Or.inl h
  ·exact Or.inr h
  ·cases h
theorem q8C(w:World):Calls Tryz.prog 71 #[] w fun e w'=>∃ t F,e=.returned (tbV t)∧TabI w' F t []∧(∀ k,F k→w.heap.size≤k)∧Below w.heap.size w w':=by
 have hmm:=@run_makeMap Tryz.prog
 go_enter Tryz.func71,Tryz.ntmps71
 go_wp2
 go_ret
 refine ⟨w.heap.size+1,_,rfl,qcE w _ rfl,fun k hk=>?_,?_⟩
 ·rcases hk with rfl | rfl
  ·omega
  ·exact Nat.le_refl _
 ·exact qd (qc w _) (qc _ _)
theorem q8B{w:World}{F:Nat→Prop}{t:Nat}{items:List It}(h:TabI w F t items):Calls Tryz.prog 73 #[.pointer (some ⟨t,0,none⟩)] w fun e w'=>e=.returned (.int .i64 (items.length:Int))∧w'=w:=by
 obtain ⟨a,cap,mb,hr,_⟩:=h.read
 have c1:=hr.c1
 have hm:=q2N hr
 clear h hr
 go_enter Tryz.func73,Tryz.ntmps73
 go_wp2_with (go_at_call 105;refine hm.mono ?_;rintro e w' ⟨rfl,rfl⟩)
 go_ret
 exact ⟨rfl,rfl⟩
theorem q9c{w:World}{t n cap mb:Nat}{a:Option Addr}{items:List It}(h:TabR w t a n cap mb items)(i:Nat)(hi:i<n):Calls Tryz.prog 111 #[.pointer (some ⟨t,0,none⟩),.int .i64 (i:Int)] w fun e w'=>e=.returned (.int .i64 0)∧w'=w:=by
 have c1:=h.c1
 have hm:=q2N h
 have h1:¬ (n:Int)≤(i:Int):=by omega
 have h2:¬ (i:Int)<0:=by omega
 clear h
 go_enter Tryz.func111,Tryz.ntmps111
 go_wp2_with (go_at_call 105;refine hm.mono ?_;rintro e w' ⟨rfl,rfl⟩)
 go_ret
 exact ⟨rfl,rfl⟩
theorem TabR.up{w w':World}{t n cap mb:Nat}{a:Option Addr}{items:List It}(h:TabR w t a n cap mb items)(hb:Below w.heap.size w w'):TabR w' t a n cap mb items :=
 ⟨h.hn,h.hc,h.bd,h.nn,(hb.block t (Array.getElem?_eq_some_iff.1 h.blk).1).trans h.blk,q1z h.row hb,h.num.far (hb.block mb h.num.lt)⟩
theorem q7c{w:World}{F:Nat→Prop}{t:Nat}{items:List It}(h:TabI w F t items)(i:Nat)(x:It)(hx:items[i]? = some x):Calls Tryz.prog 74 #[.pointer (some ⟨t,0,none⟩),.int .i64 (i:Int)] w fun e w'=>e=.returned (.tuple #[itV x,.int .i64 0])∧Below w.heap.size w w':=by
 obtain ⟨a,cap,mb,hr,_⟩:=h.read
 obtain ⟨hi,rfl⟩:=List.getElem?_eq_some_iff.1 hx
 have hb:=qc w (.cells #[.int .u8 0,.int .u8 0,.int .i64 0,.int .i64 0] 140)
 have hr1:=hr.up hb
 have c1:=hr1.c1
 have hf:=q9c hr1 i hi
 obtain ⟨g,o,hio,q0,q1,q2,q3⟩:=hr1.at i hi
 generalize items[i]=x at *
 obtain ⟨op,p,xa,xb⟩:=x
 dsimp only at q0 q1 q2 q3
 clear h hr hr1
 go_enter Tryz.func74,Tryz.ntmps74
 go_wp2_with (go_at_call 111;refine hf.mono ?_;rintro e w' ⟨rfl,rfl⟩)
 refine bodyPost_ret (v:=.tuple #[.agg #[.int .u8 (op:Int),.int .u8 (p:Int),.int .i64 xa,.int .i64 xb],.int .i64 0]) (by simp[results,Tryz.results74,go_sem]) rfl ⟨rfl,qc _ _⟩
def NsSl (w:World) (a:Option Addr) (len cap:Nat) (ns:List Nat):Prop:=IntSl Tryz.prog 27 .i64 w a len cap (ns.map fun n:Nat=>(n:Int))
theorem NsSl.at{w:World}{a:Option Addr}{len cap:Nat}{ns:List Nat}(h:NsSl w a len cap ns)(k:Nat)(hk:k<ns.length):∃ g o s,(∀ w',(Instr.indexAt 27 (.slice a len cap) (.int .i64 (k:Int))).run Tryz.prog w'=.ok (.pointer (some ⟨g,o,s⟩)) w')∧w.cell? ⟨g,o,s⟩=some (.int .i64 (ns[k]:Int)):=by
 have hl:=h.hlen
 rw[List.length_map]at hl
 have h1:=fun w'=>h.idx len k w' (by omega) (Nat.le_refl _)
 have h2:=h.cell k (by omega)
 rw[show (ns.map fun n:Nat=>(n:Int)).getD k 0=(ns[k]:Int) by simp[List.getD,hk]]at h2
 generalize adOf a k=y at *
 obtain ⟨g,o,s⟩:=y
 exact ⟨g,o,s,h1,h2⟩
theorem NsSl.up{w w':World}{a:Option Addr}{len cap:Nat}{ns:List Nat}(h:NsSl w a len cap ns)(hb:Below w.heap.size w w'):NsSl w' a len cap ns:=IntSl.up h hb
theorem q5t(op p:Nat)(a:Option Addr)(len cap:Nat)(ns:List Nat)(w:World)(hN:NsSl w a len cap ns)(hl:len≤2):Calls Tryz.prog 131 #[.agg #[.int .u8 (op:Int),.int .u8 (p:Int)],.slice a len cap] w fun e w'=>e=.returned (itV (itemOf (op,p) ns))∧Below w.heap.size w w':=by
 have hlen:ns.length=len:=by have:=hN.hlen;rwa [List.length_map]at this
 subst hlen
 have hb:∀ u v:Int,Below w.heap.size w (((w.alloc (.cells #[.int .u8 (op:Int),.int .u8 (p:Int)] 43)).alloc (.cells #[.int .u8 0,.int .u8 0,.int .i64 0,.int .i64 0] 140)).alloc (.cells #[.int .u8 (op:Int),.int .u8 (p:Int),.int .i64 u,.int .i64 v] 140)):=fun u v=>qd (qd (qc w _) (qc _ _)) (qc _ _)
 have fin:∀ u v:Int,Below w.heap.size w (((w.alloc (.cells #[.int .u8 (op:Int),.int .u8 (p:Int)] 43)).alloc (.cells #[.int .u8 (op:Int),.int .u8 (p:Int),.int .i64 u,.int .i64 v] 140)).alloc (.cells #[.int .u8 (op:Int),.int .u8 (p:Int),.int .i64 u,.int .i64 v] 140)):=fun u v=>qd (qd (qc w _) (qc _ _)) (qc _ _)
 match ns,hl,hN with
 | [],_,hN =>
  clear hN hb
  go_enter Tryz.func131,Tryz.ntmps131
  go_wp2
  refine bodyPost_ret (v:=.agg #[.int .u8 (op:Int),.int .u8 (p:Int),.int .i64 (-1),.int .i64 (-1)]) (by simp[results,Tryz.results131,go_sem]) rfl ⟨rfl,fin _ _⟩
 | [x],_,hN =>
  obtain ⟨g,o,s,hi,hc⟩:=(hN.up (hb (-1) (-1))).at 0 (by simp)
  have hi':∀ w',(Instr.indexAt 27 (.slice a 1 cap) (.int .i64 0)).run Tryz.prog w'=.ok (.pointer (some ⟨g,o,s⟩)) w':=hi
  dsimp only[List.getElem_cons_zero]at hc
  clear hN hb hi
  go_enter Tryz.func131,Tryz.ntmps131
  go_wp2
  refine bodyPost_ret (v:=.agg #[.int .u8 (op:Int),.int .u8 (p:Int),.int .i64 (x:Int),.int .i64 (-1)]) (by simp[results,Tryz.results131,go_sem]) rfl ⟨rfl,fin _ _⟩
 | [x,y],_,hN =>
  obtain ⟨g,o,s,hi,hc⟩:=(hN.up (hb (-1) (-1))).at 0 (by simp)
  obtain ⟨g2,o2,s2,hi2,hc2⟩:=(hN.up (hb x (-1))).at 1 (by simp)
  have hi':∀ w',(Instr.indexAt 27 (.slice a 2 cap) (.int .i64 0)).run Tryz.prog w'=.ok (.pointer (some ⟨g,o,s⟩)) w':=hi
  have hi2':∀ w',(Instr.indexAt 27 (.slice a 2 cap) (.int .i64 1)).run Tryz.prog w'=.ok (.pointer (some ⟨g2,o2,s2⟩)) w':=hi2
  dsimp only[List.getElem_cons_zero,List.getElem_cons_succ]at hc hc2
  clear hN hb hi hi2
  go_enter Tryz.func131,Tryz.ntmps131
  go_wp2
  refine bodyPost_ret (v:=.agg #[.int .u8 (op:Int),.int .u8 (p:Int),.int .i64 (x:Int),.int .i64 (y:Int)]) (by simp[results,Tryz.results131,go_sem]) rfl ⟨rfl,fin _ _⟩
 | _::_::_::_,h,_=>simp at h
end Go.Proofs.YtekeaodpdcnfjaaGreatDoor
