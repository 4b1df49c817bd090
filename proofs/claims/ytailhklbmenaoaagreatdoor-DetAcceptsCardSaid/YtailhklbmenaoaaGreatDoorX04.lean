/- Texts of the proof, put together: what it uses. -/
import Derived.WalkKit
import Derived.WalkSpells
import Derived.Maps.OwnSet
import Derived.Test.YtailhklbmenaoaaGreatDoorProg
import Derived.WalkLawsBesides
import Derived.BigQuiet
import Derived.Deep.QuietTactic
import Derived.Laws.OwnMore
import Derived.Laws.BitsAllLaws
import Derived.Deep.RegionHeld3
import Derived.Deep.RegionWith
import Derived.Deep.AppendLies
import Derived.OwnWalk
import Derived.KernelRfl
import Derived.Lib.AppendZerosOnto
import Derived.DeepKeys4
import Derived.LaidEqlPtr
import Derived.StringKeys
import Derived.Laws.CopyRow
import Derived.Test.YtailhklbmenaoaaGreatDoorX01
import Derived.Test.YtailhklbmenaoaaGreatDoorX02
set_option maxRecDepth 100000
set_option maxHeartbeats 16000000
namespace Go.Proofs.YtailhklbmenaoaaGreatDoor
open Go.RowKit Go.Maps
def adOf (a:Option Addr) (i:Nat):Addr:=match a with
 |some x=>x.add i
 |none=>⟨0,0,none⟩
theorem qg(g o i:Nat):(⟨g,o,none⟩:Addr).add i=⟨g,o+i,none⟩:=by unfold Addr.add;split<;>simp_all
theorem q8A{P:Program}{e:TypeId}(h:(P.info? e).map (·.size)=some 1)(w:World):(sizeOf e).run P w=.ok 1 w:=by
 cases hq:P.info? e with
 |none=>simp[hq]at h
 |some i=>simp[hq]at h;simp[sizeOf,typeInfo,hq,h]
theorem q1a{P:Program}{T e:TypeId}(hu:P.underlying T=some (.slice e))(hs:(P.info? e).map (·.size)=some 1){a:Option Addr}{cap n:Nat}(hn:a=none->n=0)(k:Nat)(w:World)(hk:k<n):
  (Instr.indexAt T (.slice a n cap) (.int .i64 k)).run P w=.ok (.pointer (some (adOf a k))) w:=by
 cases a with
 |none=>have:=hn rfl;omega
 |some x=>simp[Instr.indexAt,run_underlying hu,asIntOf,q8A hs,hk,adOf,Result.andThen,go_sem]
structure IntSl (P:Program) (T:TypeId) (q:IntKind) (w:World) (a:Option Addr) (len cap:Nat) (zs:List Int):Prop where
 hlen:zs.length=len
 hcap:len<=cap
 bd:cap<=maxLen
 idx:∀(n k:Nat) (w:World),k<n->n<=len->(Instr.indexAt T (.slice a n cap) (.int .i64 k)).run P w=.ok (.pointer (some (adOf a k))) w
 cell:∀k,k<len->w.cell? (adOf a k)=some (.int q (zs.getD k 0))
 blk:∀k,k<len->(adOf a k).block<w.heap.size
 nn:a=none->cap=0
theorem IntSl.later{P:Program}{T:TypeId}{q:IntKind}{w w':World}{a:Option Addr}{len cap:Nat}{zs:List Int}(h:IntSl P T q w a len cap zs){B:Nat}(hb:Below B w w')(hB:∀k,k<len->(adOf a k).block<B):IntSl P T q w' a len cap zs :=
 ⟨h.hlen,h.hcap,h.bd,h.idx,fun k hk=>(hb.cell (hB k hk)).trans (h.cell k hk),fun k hk=>Nat.lt_of_lt_of_le (h.blk k hk) hb.size,h.nn⟩
theorem IntSl.up{P:Program}{T:TypeId}{q:IntKind}{w w':World}{a:Option Addr}{len cap:Nat}{zs:List Int}(h:IntSl P T q w a len cap zs)(hb:Below w.heap.size w w'):IntSl P T q w' a len cap zs:=h.later hb h.blk
theorem IntSl.drewN{P:Program}{T:TypeId}{q:IntKind}{w:World}{a:Option Addr}{len cap:Nat}{zs:List Int}(h:IntSl P T q w a len cap zs)(n:Nat):IntSl P T q (w.drewN n) a len cap zs:=h.up (below_drewN (Below.refl _ _) n)
theorem q5D{zs:List Int}{k:Nat}(h:k<zs.length):zs.take (k+1)=zs.take k++[zs.getD k 0]:=by
 rw[List.take_add_one,List.getElem?_eq_getElem h];simp[List.getD_eq_getElem?_getD,List.getElem?_eq_getElem h]
theorem q6e{xs ys:List Int}{k:Nat}(hx:k<xs.length)(hy:k<ys.length)(h:xs.take k=ys.take k)(he:xs.getD k 0=ys.getD k 0):xs.take (k+1)=ys.take (k+1):=by
 rw[q5D hx,q5D hy,h,he]
def enc8 (cur:List Int):Array Value:=(cur.map (Value.int .u8)).toArray
def RowAt (w:World) (e:TypeId) (g:Nat) (cur:List Int):Prop:=w.heap[g]? =some (.cells (enc8 cur) e (0,0))
theorem qgl(cur:List Int)(i:Nat)(h:i<cur.length):(enc8 cur)[i]? =some (.int .u8 (cur.getD i 0)):=by
 simp[enc8,List.getD_eq_getElem?_getD,List.getElem?_eq_getElem h]
theorem RowAt.cell{w:World}{e:TypeId}{g:Nat}{cur:List Int}(h:RowAt w e g cur){i:Nat}(hi:i<cur.length):w.cell? ⟨g,i,none⟩=some (.int .u8 (cur.getD i 0)):=by
 unfold RowAt at h;simp[World.cell?,h];exact qgl cur i hi
theorem RowAt.lt{w:World}{e:TypeId}{g:Nat}{cur:List Int}(h:RowAt w e g cur):g<w.heap.size:=(Array.getElem?_eq_some_iff.1 h).1
theorem RowAt.new(w:World)(e:TypeId)(cur:List Int):RowAt (w.alloc (.cells (enc8 cur) e)) e w.heap.size cur:=by
 exact(MapKept.heap_alloc w _).1
theorem RowAt.intSl{P:Program}{T e:TypeId}{w:World}{g n:Nat}{cur:List Int}(h:RowAt w e g cur)(hu:P.underlying T=some (.slice e))(hs:(P.info? e).map (·.size)=some 1)(hn:n<=cur.length)(hm:cur.length<=maxLen):
  IntSl P T .u8 w (some ⟨g,0,none⟩) n cur.length (cur.take n):=by
 have had:∀k,adOf (some ⟨g,0,none⟩) k=⟨g,k,none⟩:=fun k=>by simp[adOf,qg]
 refine⟨by simp;omega,hn,hm,fun m k w hk hm=>q1a hu hs (by simp) k w hk,fun k hk=>?_,fun k hk=>?_,by simp⟩
 ·rw[had,h.cell (by omega)];simp[List.getD_eq_getElem?_getD,hk]
 ·rw[had];exact h.lt
theorem q4b{P:Program}{T:TypeId}{w:World}:IntSl P T .u8 w none 0 0 [] :=
 ⟨rfl,Nat.le_refl _,Nat.zero_le _,fun m k w hk hm=>absurd hk (by omega),fun k hk=>absurd hk (by omega),fun k hk=>absurd hk (by omega),fun _=>rfl⟩
theorem q5C{P:Program}{T e:TypeId}{w:World}{base n:Nat}{v:Value}{zs:List Int}(h:w.ownsRow base e 1 v n (zs.map (Value.int .u8)))(hu:P.underlying T=some (.slice e))(hs:(P.info? e).map (·.size)=some 1):
  ∃a cap,v=.slice a n cap/\IntSl P T .u8 w a n cap zs/\∀k,k<n->base<=(adOf a k).block:=by
 obtain⟨hl,h⟩:=h;simp at hl
 rcases h with⟨rfl,rfl⟩|⟨g,cap,cur,rfl,hg,hcell,hnc,hcm,hsz,htk⟩
 ·have:zs=[]:=List.eq_nil_of_length_eq_zero hl
  subst this;exact⟨none,0,rfl,q4b,fun k hk=>absurd hk (by omega)⟩
 ·have had:∀k,adOf (some ⟨g,0,none⟩) k=⟨g,k,none⟩:=fun k=>by simp[adOf,qg]
  have hlt:g<w.heap.size:=(Array.getElem?_eq_some_iff.1 hcell).1
  refine⟨some ⟨g,0,none⟩,cap,rfl,⟨hl,hnc,hcm,fun m k w hk hm=>q1a hu hs (by simp) k w hk,fun k hk=>?_,fun k hk=>by rw[had];exact hlt,by simp⟩,fun k hk=>by rw[had];exact hg⟩
  rw[had]
  have hk2:(cur.toList.take (n*1))[k]? =some (.int .u8 (zs.getD k 0)):=by
   rw[htk];simp[List.getD_eq_getElem?_getD,List.getElem?_eq_getElem (show k<zs.length by omega)]
  rw[List.getElem?_take,if_pos (by omega)]at hk2
  simp[World.cell?,hcell]
  simpa using hk2
theorem q3o{w:World}{base e size n:Nat}{v:Value}{xs:List Value}(h:w.ownsRow base e size v n xs):∀k,v.ownBlock=some k->base<=k:=by
 obtain⟨_,h⟩:=h;rcases h with⟨rfl,_⟩|⟨g,cap,cur,rfl,hg,_⟩
 ·intro k hk;simp[Value.ownBlock]at hk
 ·intro k hk;simp[Value.ownBlock]at hk;omega
theorem qc(w:World)(o:Obj):Below w.heap.size w (w.alloc o):=(Below.refl _ _).alloc (Nat.le_refl _) _
theorem qd{w w1 w2:World}(h:Below w.heap.size w w1)(k:Below w1.heap.size w1 w2):Below w.heap.size w w2:=h.trans (k.mono h.size)
theorem qcm(x y:Nat):((x:Int)==(y:Int))=decide (x=y):=by
 by_cases h:x=y
 ·simp[h]
 ·rw[decide_eq_false h,beq_eq_false_iff_ne];omega
def Blk (w:World) (g:Nat) (t:TypeId) (a b:Nat):Prop:=w.heap[g]? =some (.cells #[.int .u8 (a:Int),.int .u8 (b:Int)] t (0,0))
theorem Blk.new(w:World)(t:TypeId)(a b:Nat):Blk (w.alloc (.cells #[.int .u8 (a:Int),.int .u8 (b:Int)] t)) w.heap.size t a b:=(MapKept.heap_alloc w _).1
theorem Blk.lt{w:World}{g:Nat}{t:TypeId}{a b:Nat}(h:Blk w g t a b):g<w.heap.size:=(Array.getElem?_eq_some_iff.1 h).1
theorem Blk.up{w w':World}{g:Nat}{t:TypeId}{a b:Nat}(h:Blk w g t a b)(hb:Below w.heap.size w w'):Blk w' g t a b:=(hb.block g h.lt).trans h
theorem Blk.al{w:World}{g:Nat}{t:TypeId}{a b:Nat}(h:Blk w g t a b)(o:Obj):Blk (w.alloc o) g t a b:=h.up (qc w o)
theorem Blk.c0{w:World}{g:Nat}{t:TypeId}{a b:Nat}(h:Blk w g t a b):w.cell? ⟨g,0,none⟩=some (.int .u8 (a:Int)):=by unfold Blk at h;simp[World.cell?,h]
theorem Blk.c1{w:World}{g:Nat}{t:TypeId}{a b:Nat}(h:Blk w g t a b):w.cell? ⟨g,1,none⟩=some (.int .u8 (b:Int)):=by unfold Blk at h;simp[World.cell?,h]
theorem q4m{P:Program}{e:TypeId}(h:(P.info? e).map (·.size)=some 2)(w:World):(sizeOf e).run P w=.ok 2 w:=by
 cases hq:P.info? e with
 |none=>simp[hq]at h
 |some i=>simp[hq]at h;simp[sizeOf,typeInfo,hq,h]
theorem qhM{P:Program}{T e:TypeId}(hu:P.underlying T=some (.slice e))(hs:(P.info? e).map (·.size)=some 2){g cap n:Nat}(k:Nat)(w:World)(hk:k<n):
  (Instr.indexAt T (.slice (some ⟨g,0,none⟩) n cap) (.int .i64 k)).run P w=.ok (.pointer (some ⟨g,2*k,none⟩)) w:=by
 simp[Instr.indexAt,run_underlying hu,asIntOf,q4m hs,hk,Result.andThen,go_sem,qg,Nat.mul_comm]
theorem qdN(a b:Int):∀u∈[Value.int .u8 a,Value.int .u8 b],u.oneCell'=true:=by
 intro u hu;simp at hu;rcases hu with rfl|rfl<;>rfl
theorem qgT{w:World}{base e size n:Nat}{v:Value}{xs:List Value}(h:w.ownsRow base e size v n xs){p:Addr}(hp:p.block<base)(u:Value):(w.setCell p u).ownsRow base e size v n xs:=by
 refine⟨h.1,?_⟩
 rcases h.2 with hn|⟨g,cap,cur,h1,h2,h3,h4⟩
 ·exact Or.inl hn
 ·exact Or.inr ⟨g,cap,cur,h1,h2,(Below.heap_setCell w p u g (by omega)).trans h3,h4⟩
theorem qfM{w:World}{base e size n:Nat}{v:Value}{xs:List Value}(h:w.ownsRow base e size v n xs)(m:Nat):(w.drewN m).ownsRow base e size v n xs:=by
 refine⟨h.1,?_⟩
 rcases h.2 with hn|⟨g,cap,cur,h1,h2,h3,h4⟩
 ·exact Or.inl hn
 ·have hb:=below_drewN (Below.refl (g+1) w) m
  exact Or.inr ⟨g,cap,cur,h1,h2,(hb.block g (by omega)).trans h3,h4⟩
theorem q1b{w w':World}{base e size n:Nat}{v:Value}{xs:List Value}(h:w.ownsRow base e size v n xs)(hb:Below w.heap.size w w'):w'.ownsRow base e size v n xs:=by
 refine⟨h.1,?_⟩
 rcases h.2 with hn|⟨g,cap,cur,h1,h2,h3,h4⟩
 ·exact Or.inl hn
 ·exact Or.inr ⟨g,cap,cur,h1,h2,(hb.block g (Array.getElem?_eq_some_iff.1 h3).1).trans h3,h4⟩
theorem qfL{w:World}{base base' e size n:Nat}{v:Value}{xs:List Value}(h:w.ownsRow base e size v n xs)(hb:base'<=base):w.ownsRow base' e size v n xs:=by
 refine⟨h.1,?_⟩
 rcases h.2 with hn|⟨g,cap,cur,h1,h2,h3,h4⟩
 ·exact Or.inl hn
 ·exact Or.inr ⟨g,cap,cur,h1,Nat.le_trans hb h2,h3,h4⟩
theorem qn{w0 w1:World}{p:Addr}{v:Value}(h:w0.cell? p=some v)(hb:Below w0.heap.size w0 w1):w1.cell? p=some v:=(hb.cell (World.block_lt_of_cell? _ _ h)).trans h
theorem q1B{w0 w1:World}{p:Addr}{v:Value}{row:Option Nat}(h:w0.cell? p=some v)(hb:w0.grownBy w1 row)(hne:some p.block≠row):w1.cell? p=some v:=(hb.cell_far p (World.block_lt_of_cell? _ _ h) hne).trans h
theorem qb{W:World}{g:Nat}{arr:Array Value}{e:TypeId}(h:W.heap[g]? =some (.cells arr e (0,0)))(j:Nat):W.cell? ⟨g,j,none⟩=arr[j]? := by simp[World.cell?,h]
theorem q1Z(x:Addr)(n:Nat):(x.add n).block=x.block:=by unfold Addr.add;split<;>rfl
theorem q9E(x:Addr)(m n:Nat):(x.add m).add n=x.add (m+n):=by
 unfold Addr.add;by_cases h:n=0
 ·subst h;simp
 ·have h2:¬(m+n=0):=fun e=>h (by omega)
  rw[if_neg h,if_neg h2];split<;>simp_all [Nat.add_assoc]
theorem q4n{P:Program}{e:TypeId}(h:(P.info? e).map (·.size)=some 3)(w:World):(sizeOf e).run P w=.ok 3 w:=by
 cases hq:P.info? e with
 |none=>simp[hq]at h
 |some i=>simp[hq]at h;simp[sizeOf,typeInfo,hq,h]
theorem bqn{α:Type}[BEq α][LawfulBEq α]{a b:α}:(a==b)=false↔a≠b:=beq_eq_false_iff_ne
theorem aes{α:Type}{xs:Array α}{i:Nat}{b:α}(h:xs[i]? =some b):∃h:i<xs.size,xs[i]=b:=Array.getElem?_eq_some_iff.1 h
theorem mha(w:World)(o:Obj):(w.alloc o).heap[w.heap.size]? =some o/\∀r':Nat,r'<w.heap.size->(w.alloc o).heap[r']? =w.heap[r']?:=MapKept.heap_alloc w o
theorem lge{α:Type}{l:List α}{i:Nat}(h:i<l.length):l[i]? =some l[i]:=List.getElem?_eq_getElem h
theorem hiq{P:Prop}(h:P):Hid P:=h
theorem nqf(a:Nat)(k:Int)(h:¬(a:Int)=k):((a:Int)==k)=false:=by rw[bqn];exact h
theorem nlr{n:Nat}:n<=n:=Nat.le_refl n
def encT (ts:List Tk):List Value:=ts.flatMap fun t=>[.int .u8 (t.1:Int),.int .u8 (t.2:Int)]
theorem qah(t:Tk)(ts:List Tk):encT (t::ts)=.int .u8 (t.1:Int) :: .int .u8 (t.2:Int)::encT ts:=rfl
theorem qdB(xs ys:List Tk):encT (xs++ys)=encT xs++encT ys:=by simp[encT]
theorem q51:∀ts:List Tk,(encT ts).length=ts.length*2
 | []=>rfl
 |t::ts=>by rw[qah];simp[q51 ts];omega
theorem q3P:∀(ts:List Tk) (k:Nat) (h:k<ts.length),(encT ts)[2*k]? =some (.int .u8 (ts[k].1:Int))/\(encT ts)[2*k+1]? =some (.int .u8 (ts[k].2:Int))
 | [],k,h=>absurd h (by simp)
 |t::ts,0,_=>⟨rfl,rfl⟩
 |t::ts,k+1,h=>by
  have:=q3P ts k (by simpa using h)
  rw[qah,show 2*(k+1)=2*k+1+1 by omega,show 2*k+1+1+1=(2*k+1)+1+1 by omega]
  simpa using this
theorem qgo(ts:List Tk):∀u∈encT ts,u.oneCell'=true:=by
 intro u hu;unfold encT at hu;obtain⟨c,_,hc⟩:=List.mem_flatMap.1 hu;exact qdN _ _ u hc
structure TkSl (w:World) (a:Option Addr) (len cap:Nat) (ts:List Tk):Prop where
 hlen:ts.length=len
 hcap:len<=cap
 bd:cap<=maxLen
 nn:a=none->cap=0
 c0:∀x,a=some x->∀k (h:k<ts.length),w.cell? (x.add (2*k))=some (.int .u8 (ts[k].1:Int))
 c1:∀x,a=some x->∀k (h:k<ts.length),w.cell? (x.add (2*k+1))=some (.int .u8 (ts[k].2:Int))
 ok:∀t∈ts,t.1<256/\t.2<256
theorem TkSl.some_of{w:World}{a:Option Addr}{len cap:Nat}{ts:List Tk}(h:TkSl w a len cap ts)(hl:0<len):∃x,a=some x:=by
 cases a with
 |none=>have:=h.nn rfl;have:=h.hcap;omega
 |some x=>exact⟨x,rfl⟩
theorem TkSl.lt{w:World}{x:Addr}{len cap:Nat}{ts:List Tk}(h:TkSl w (some x) len cap ts)(hl:0<len):x.block<w.heap.size:=by
 have h0:=h.c0 x rfl 0 (by have:=h.hlen;omega)
 have:=World.block_lt_of_cell? _ _ h0
 rwa [q1Z]at this
theorem TkSl.keep{w w':World}{a:Option Addr}{len cap:Nat}{ts:List Tk}(h:TkSl w a len cap ts)(hk:∀p v,w.cell? p=some v->(∀x,a=some x->p.block=x.block)->w'.cell? p=some v):TkSl w' a len cap ts :=
 ⟨h.hlen,h.hcap,h.bd,h.nn,fun x hx k hk'=>hk _ _ (h.c0 x hx k hk') (fun y hy=>by rw[q1Z];rw[hx]at hy;injection hy with hy;rw[hy]),fun x hx k hk'=>hk _ _ (h.c1 x hx k hk') (fun y hy=>by rw[q1Z];rw[hx]at hy;injection hy with hy;rw[hy]),h.ok⟩
theorem TkSl.up{w w':World}{a:Option Addr}{len cap:Nat}{ts:List Tk}(h:TkSl w a len cap ts)(hb:Below w.heap.size w w'):TkSl w' a len cap ts :=
 h.keep fun _ _ hp _=>qn hp hb
theorem TkSl.nil{w:World}:TkSl w none 0 0 [] :=
 ⟨rfl,Nat.le_refl _,Nat.zero_le _,fun _=>rfl,fun x hx=>(by cases hx),fun x hx=>(by cases hx),fun t ht=>(by simp at ht)⟩
theorem TkSl.at{w:World}{a:Option Addr}{len cap:Nat}{ts:List Tk}(h:TkSl w a len cap ts){P:Program}{T e:TypeId}(hu:P.underlying T=some (.slice e))(hs:(P.info? e).map (·.size)=some 2)(k:Nat)(hk:k<len):
  ∃g o s,(∀(n:Nat) (w':World),k<n->(Instr.indexAt T (.slice a n cap) (.int .i64 k)).run P w'=.ok (.pointer (some ⟨g,o,s⟩)) w')/\w.cell? ⟨g,o,s⟩=some (.int .u8 ((ts[k]'(by rw[h.hlen];exact hk)).1:Int))/\w.cell? ⟨g,o+1,none⟩=some (.int .u8 ((ts[k]'(by rw[h.hlen];exact hk)).2:Int))/\g<w.heap.size/\∀x,a=some x->x.block=g:=by
 obtain⟨x,rfl⟩:=h.some_of (by omega)
 have hkl:k<ts.length:=by rw[h.hlen];exact hk
 have e0:=h.c0 x rfl k hkl;have e1:=h.c1 x rfl k hkl;have hlt:=h.lt (by omega)
 rw[<-q9E]at e1;have hb:=q1Z x (2*k)
 have hrun:∀(n:Nat) (w':World),k<n->(Instr.indexAt T (.slice (some x) n cap) (.int .i64 k)).run P w'=.ok (.pointer (some (x.add (2*k)))) w':=fun n w' hn=>by
  simp[Instr.indexAt,run_underlying hu,asIntOf,q4m hs,hn,Result.andThen,go_sem,Nat.mul_comm]
 generalize x.add (2*k)=y at *;obtain⟨g,o,s⟩:=y;refine⟨g,o,s,hrun,e0,?_,?_,?_⟩
 ·simpa [Addr.add] using e1
 ·dsimp only at hb;omega
 ·intro z hz;injection hz with hz;rw[<-hz];exact hb.symm
theorem qj3{w:World}{base e n:Nat}{v:Value}{ts:List Tk}(h:w.ownsRow base e 2 v n (encT ts))(hok:∀t∈ts,t.1<256/\t.2<256):
  ∃a cap,v=.slice a n cap/\TkSl w a n cap ts/\∀x,a=some x->base<=x.block/\v.ownBlock=some x.block:=by
 obtain⟨hl,h⟩:=h;rw[q51]at hl;have hl':ts.length=n:=by omega
 rcases h with⟨rfl,rfl⟩|⟨g,cap,cur,rfl,hg,hcell,hnc,hcm,hsz,htk⟩
 ·obtain rfl:=List.eq_nil_of_length_eq_zero hl'
  exact⟨none,0,rfl,TkSl.nil,fun x hx=>by cases hx⟩
 ·have key:∀j,j<n*2->w.cell? ⟨g,j,none⟩=(encT ts)[j]? := fun j hj=>by
   rw[<-htk,List.getElem?_take,if_pos hj];simp[World.cell?,hcell]
  refine⟨some ⟨g,0,none⟩,cap,rfl,⟨hl',hnc,hcm,fun hn=>(nomatch hn),fun x hx k hk=>?_,fun x hx k hk=>?_,hok⟩,fun x hx=>by injection hx with hx;subst hx;exact⟨hg,rfl⟩⟩
  ·injection hx with hx;subst hx
   rw[qg,Nat.zero_add,key _ (by omega)];exact(q3P ts k hk).1
  ·injection hx with hx;subst hx
   rw[qg,Nat.zero_add,key _ (by omega)];exact(q3P ts k hk).2
theorem q1G:(Tryz.prog.info? 90).map (·.size)=some 2:=by kernel_rfl
theorem qbL:(Tryz.prog.info? 90).map (fun i=>(i.zero,i.size,i.bytes))=some (some (.agg #[.int .u8 0,.int .u8 0]),2,2):=by kernel_rfl
theorem TkSl.cells{w:World}{x:Addr}{len cap:Nat}{ts:List Tk}(h:TkSl w (some x) len cap ts):∀j u,(encT ts)[j]? =some u->w.cell? (x.add j)=some u:=by
 intro j u hj;have hjl:=(List.getElem?_eq_some_iff.1 hj).1
 rw[q51]at hjl;rcases Nat.mod_two_eq_zero_or_one j with h0|h0
 ·obtain⟨k,rfl⟩:∃k,j=2*k:=⟨j / 2,by omega⟩
  rw[(q3P ts k (by omega)).1]at hj
  rw[<-hj];exact h.c0 x rfl k (by omega)
 ·obtain⟨k,rfl⟩:∃k,j=2*k+1:=⟨j / 2,by omega⟩
  rw[(q3P ts k (by omega)).2]at hj
  rw[<-hj];exact h.c1 x rfl k (by omega)
theorem qdx{w:World}{o:Oper}{a:Act}{K:Act->World->Prop}{Q:Exit->Act->World->Prop}(s x:Operand)
  (ho:o.op=.call { callee:=.builtin .append,args:=#[s,x],argTypes:=#[22,22] }) (base:Nat)
  (v:Value) (xs ys:List Tk) (b:Option Addr) (len cap:Nat) (hs:a.eval s=v) (hx:a.eval x=.slice b len cap) (hown:w.ownsRow base 90 2 v xs.length (encT xs)) (hT:TkSl w b len cap ys)
  (hn:xs.length<=10000000) (hm:ys.length<=10000000) (hbase:base<=w.heap.size)
  (h:∀v' w',w'.ownsRow base 90 2 v' (xs++ys).length (encT (xs++ys))->w.grownBy w' v.ownBlock->K (a.put o.dst v') w'):o.wp Tryz.prog a w K Q:=by
 obtain⟨i,hi,hz0,hz1,hz2⟩:=info_parts qbL;have hl:=hT.hlen
 cases b with
 |none=>
  have hc:=hT.nn rfl;have hcl:=hT.hcap;obtain rfl:len=0:=by omega
  subst hc;have hy:ys=[]:=List.eq_nil_of_length_eq_zero hl;subst hy;have hrun:=run_append_owned_none (P:=Tryz.prog) w base 22 o.type 90 i 2 Tryz.underlying22 hi v xs.length (encT xs) hown;unfold Oper.wp execOp;simp only[ho,resolve,invoke,builtin,Sem.run_bind,Sem.run_pure,Result.andThen_ok,List.map_toArray,List.map_cons,List.map_nil,hs,hx,hrun]
  exact h v w (by rw[List.append_nil];exact hown) (World.grownBy.refl _ _)
 |some y=>
  refine wp_append_own w s x 22 ho base 90 i _ 2 2 Tryz.underlying22 hi hz0 hz1 hz2 rfl (by decide) v xs.length _ hs hown y len cap (encT ys) hx (by rw[q51,hl]) hT.cells (qgo ys) (by unfold maxLen;omega) (by omega) hbase ?_
  intro v' w' h1 h2 _;exact h v' w' (by rw[qdB,List.length_append,hl];exact h1) h2
theorem q42{w:World}{ops:Array Oper}{rest:List Oper}{o:Oper}{a:Act}{Q:Exit->Act->World->Prop}(hgd:o.guard=none)(s x:Operand)
  (ho:o.op=.call { callee:=.builtin .append,args:=#[s,x],argTypes:=#[22,22] }) (base:Nat)
  (v:Value) (xs ys:List Tk) (b:Option Addr) (len cap:Nat) (hs:a.eval s=v) (hx:a.eval x=.slice b len cap) (hown:w.ownsRow base 90 2 v xs.length (encT xs)) (hT:TkSl w b len cap ys)
  (hn:xs.length<=10000000) (hm:ys.length<=10000000) (hbase:base<=w.heap.size)
  (h:∀v' w',w'.ownsRow base 90 2 v' (xs++ys).length (encT (xs++ys))->w.grownBy w' v.ownBlock->wpList Tryz.prog ops Q rest (a.put o.dst v') w'):wpList Tryz.prog ops Q (o::rest) a w :=
 wpList_plain hgd fun _ hK=>qdx s x ho base v xs ys b len cap hs hx hown hT hn hm hbase fun v' w' h1 h2=>hK _ _ (h v' w' h1 h2)
structure Fr (w w':World) (F F':Nat->Prop):Prop where
 os:w'.os=w.os
 tape:w'.tape=w.tape
 output:w'.output=w.output
 size:w.heap.size<=w'.heap.size
 keep:∀k,k<w.heap.size->¬F k->w'.heap[k]? =w.heap[k]?
 foot:∀k,F' k->F k\/w.heap.size<=k
theorem Fr.below{w w':World}{F F':Nat->Prop}{B:Nat}(h:Fr w w' F F')(hF:∀k,F k->B<=k)(hB:B<=w.heap.size):Below B w w' :=
 ⟨h.os,h.tape,h.output,h.size,fun k hk=>h.keep k (by omega) (fun hf=>by have:=hF k hf;omega)⟩
theorem Fr.ge{w w':World}{F F':Nat->Prop}{B:Nat}(h:Fr w w' F F')(hF:∀k,F k->B<=k)(hB:B<=w.heap.size):∀k,F' k->B<=k:=fun k hk=>by
 rcases h.foot k hk with h1|h1
 ·exact hF k h1
 ·omega
theorem Fr.out{w w':World}{F F':Nat->Prop}(h:Fr w w' F F'){k:Nat}(hk:¬F k)(hl:k<w.heap.size):¬F' k:=fun hf=>by
 rcases h.foot k hf with h1|h1
 ·exact hk h1
 ·omega
theorem Fr.tks{w w':World}{F F':Nat->Prop}(h:Fr w w' F F'){a:Option Addr}{len cap:Nat}{ts:List Tk}(hT:TkSl w a len cap ts)(hf:0<len->∀x,a=some x->¬F x.block):TkSl w' a len cap ts:=by
 by_cases hl0:len=0
 ·have hnil:ts=[]:=List.eq_nil_of_length_eq_zero (by rw[hT.hlen];exact hl0)
  subst hnil;exact⟨hT.hlen,hT.hcap,hT.bd,hT.nn,fun x hx k hk=>absurd hk (by simp),fun x hx k hk=>absurd hk (by simp),hT.ok⟩
 have hl:0<len:=by omega
 cases a with
 |none=>exact⟨hT.hlen,hT.hcap,hT.bd,hT.nn,fun x hx=>(by cases hx),fun x hx=>(by cases hx),hT.ok⟩
 |some y=>
  refine hT.keep fun p v hp hx=>?_
  have e:=hx y rfl;have hl2:=World.block_lt_of_cell? _ _ hp;have:=h.keep p.block hl2 (by rw[e];exact hf hl y rfl)
  unfold World.cell? at hp ⊢;rw[this];exact hp
theorem Fr.own{w w':World}{F F':Nat->Prop}(h:Fr w w' F F'){base e size n:Nat}{v:Value}{xs:List Value}(ho:w.ownsRow base e size v n xs)(hf:∀k,v.ownBlock=some k->¬F k):w'.ownsRow base e size v n xs:=by
 obtain⟨hl,ho⟩:=ho;refine⟨hl,ho.imp id ?_⟩
 rintro⟨g,cap,cur,rfl,hg,hcell,r⟩
 exact⟨g,cap,cur,rfl,hg,(h.keep g (aes hcell).1 (hf g rfl)).trans hcell,r⟩
theorem Fr.trans{w w1 w2:World}{F F1 F2:Nat->Prop}(h:Fr w w1 F F1)(k:Fr w1 w2 F1 F2):Fr w w2 F F2:=by
 refine⟨k.os.trans h.os,k.tape.trans h.tape,k.output.trans h.output,Nat.le_trans h.size k.size,fun j hj hF=>?_,fun j hj=>?_⟩
 ·exact(k.keep j (Nat.lt_of_lt_of_le hj h.size) (h.out hF hj)).trans (h.keep j hj hF)
 ·rcases k.foot j hj with h1|h1
  ·exact h.foot j h1
  ·exact Or.inr (Nat.le_trans h.size h1)
theorem Fr.ofBelow{w w':World}{F:Nat->Prop}(h:Below w.heap.size w w'):Fr w w' F F:=⟨h.os,h.tape,h.output,h.size,fun k hk _=>h.block k hk,fun _ hk=>Or.inl hk⟩
theorem Fr.cell{w w':World}{F F':Nat->Prop}(h:Fr w w' F F'){p:Addr}{v:Value}(hc:w.cell? p=some v)(hf:¬F p.block):w'.cell? p=some v:=by
 have:=h.keep p.block (World.block_lt_of_cell? _ _ hc) hf
 unfold World.cell? at hc ⊢;rw[this];exact hc
theorem Fr.intSl{w w':World}{F F':Nat->Prop}(h:Fr w w' F F'){P:Program}{T:TypeId}{q:IntKind}{a:Option Addr}{len cap:Nat}{zs:List Int}(hS:IntSl P T q w a len cap zs)(hf:∀k,k<len->¬F (adOf a k).block):IntSl P T q w' a len cap zs :=
 ⟨hS.hlen,hS.hcap,hS.bd,hS.idx,fun k hk=>h.cell (hS.cell k hk) (hf k hk),fun k hk=>Nat.lt_of_lt_of_le (hS.blk k hk) h.size,hS.nn⟩
abbrev iU (l:List Nat):List Int:=l.map fun (x:Nat)=>(x:Int)
abbrev USl (w:World) (a:Option Addr) (len cap:Nat) (l:List Nat):Prop:=IntSl Tryz.prog 46 .u64 w a len cap (iU l)
theorem USl.len{w:World}{a:Option Addr}{len cap:Nat}{l:List Nat}(h:USl w a len cap l):len=l.length:=by
 have:=h.hlen
 simp[iU]at this
 omega
def Sm (l:List Nat):Prop:=∀x∈l,x<2 ^ 64
theorem q3h:(Tryz.prog.info? 55).map (·.size)=some 1:=by kernel_rfl
theorem q6u{w:World}:USl w none 0 0 [] :=
 ⟨rfl,nlr,Nat.zero_le _,fun m k w hk hm=>absurd hk (by omega),fun k hk=>absurd hk (by omega),fun k hk=>absurd hk (by omega),fun _=>rfl⟩
theorem q3M(l:List Nat)(w:World)(hl:l.length<=2000):USl (w.alloc (.cells ((iU l).map (Value.int .u64)).toArray 55)) (some ⟨w.heap.size,0,none⟩) l.length l.length l:=by
 have had:∀k,adOf (some ⟨w.heap.size,0,none⟩) k=⟨w.heap.size,k,none⟩:=fun k=>by simp[adOf,qg]
 have hr:=(MapKept.heap_alloc w (.cells ((iU l).map (Value.int .u64)).toArray 55)).1;refine⟨by simp,Nat.le_refl _,by unfold maxLen;omega,fun m k w hk hm=>q1a Tryz.underlying46 q3h (by simp) k w hk,fun k hk=>?_,fun k hk=>?_,by simp⟩
 ·rw[had,qb hr k]
  simp[List.getD_eq_getElem?_getD,hk]
 ·rw[had]
  exact(aes hr).1
theorem q9w(a:Option Addr)(len cap:Nat)(xs:List Int)(a':Option Addr)(len' cap':Nat)(ys:List Int)(w:World)
  (hS:IntSl Tryz.prog 46 .u64 w a len cap xs) (hO:IntSl Tryz.prog 46 .u64 w a' len' cap' ys):
  Calls Tryz.prog 22 #[.slice a len cap,.slice a' len' cap'] w fun e w'=>e=.returned (.bool (decide (xs=ys)))/\∃n,w'=w.drewN n:=by
 have hb0:=hS.bd;have hb1:=hS.hcap;have hb2:=hO.bd;have hb3:=hO.hcap;unfold maxLen at hb0 hb2;by_cases hll:len=len'
 ·subst hll
  have hidx:=fun (k:Nat) (w:World) (h:k<len)=>hS.idx len k w h nlr
  have hidx':=fun (k:Nat) (w:World) (h:k<len)=>hO.idx len k w h nlr
  go_enter Tryz.func22,Tryz.ntmps22
  go_wp2
  go_loopw [5] (fun i wr=>∃k:Nat,k<=len/\i=.int .i64 k/\Hid (xs.take k=ys.take k)/\Hid (∃n,wr=w.drewN n)) (fun i _=>len-(intOf i).toNat)
  case atStart=>exact⟨0,Nat.zero_le _,rfl,by show _=_;simp,0,rfl⟩
  case round=>
   obtain⟨k,hk,rfl,HU,hwr⟩:=hrel;by_cases hlt:k<len
   ·have hS':IntSl Tryz.prog 46 .u64 wr a len cap xs:=by obtain⟨n,hn⟩:=hwr.out;rw[hn];exact hS.drewN n
    have hO':IntSl Tryz.prog 46 .u64 wr a' len cap' ys:=by obtain⟨n,hn⟩:=hwr.out;rw[hn];exact hO.drewN n
    have hck:=hS'.cell k hlt;have hck':=hO'.cell k hlt;have HN:Hid (xs.getD k 0=ys.getD k 0->xs.take (k+1)=ys.take (k+1)):=fun h=>q6e (by rw[hS.hlen];exact hlt) (by rw[hO.hlen];exact hlt) HU.out h
    have HM:Hid (xs.getD k 0≠ys.getD k 0->decide (xs=ys)=false):=fun h=>decide_eq_false (fun e=>h (by rw[e]))
    clear hS' hO';generalize xs.getD k 0=x at *;generalize ys.getD k 0=y at *;go_wp2
    go_quiet (fail)
    rcases Bool.eq_false_or_eq_true (x != y) with ht|ht
    ·go_wp2
     go_ret
     obtain⟨n,hn⟩:=hwr.out;exact⟨by rw[HM.out (by simpa using ht)];rfl,n+nq,by rw[hn,World.drewN_drewN]⟩
    ·have HN2:Hid _:=HN.out (by simpa using ht)
     go_wp2
     go_roundw
     case rel=>
      obtain⟨n,hn⟩:=hwr.out;exact⟨k+1,by omega,by go_num,HN2,n+nq,by rw[hn,World.drewN_drewN]⟩
     case measure=>simp[intOf];omega
   ·have hx:Hid (decide (xs=ys)=true):=by
     have:=HU.out
     rw[List.take_of_length_le (by rw[hS.hlen];omega),List.take_of_length_le (by rw[hO.hlen];omega)]at this
     exact decide_eq_true this
    go_wp2;go_ret
    exact⟨by rw[hx.out];rfl,hwr.out⟩
 ·have hx:Hid (decide (xs=ys)=false):=decide_eq_false (fun e=>hll (by rw[<-hS.hlen,<-hO.hlen,e]))
  have hll':((len:Int) != (len':Int))=true:=by simp;omega
  clear hll;go_enter Tryz.func22,Tryz.ntmps22
  go_wp2;go_ret
  exact⟨by rw[hx.out];rfl,0,rfl⟩
def LE (E:Nat) (r:List Nat) (w:World) (e:Ending) (w':World):Prop:=∃(a:Option Addr) (c:Nat),e=.returned (.tuple #[.slice a r.length c,.int .i64 (E:Int)])/\USl w' a r.length c r/\Below w.heap.size w w'
def BR (b:Bool) (w:World) (e:Ending) (w':World):Prop:=e=.returned (.bool b)/\Below w.heap.size w w'
theorem qfW(x y:Nat)(hx:x<18446744073709551616)(hy:y<18446744073709551616):(x &&& (18446744073709551615-y)=0)↔y ||| x=y:=by
 have hb:∀i,(18446744073709551615-y).testBit i=(decide (i<64) && !y.testBit i):=fun i=>by
  have:=Nat.testBit_two_pow_sub_succ (n:=64) (x:=y) (by exact hy) i
  rw[show 2 ^ 64-(y+1)=18446744073709551615-y by omega]at this
  exact this
 constructor
 ·intro h
  refine Nat.eq_of_testBit_eq fun i=>?_
  have:=congrArg (fun z=>z.testBit i) h
  simp only[Nat.testBit_and,hb,Nat.zero_testBit]at this
  rw[Nat.testBit_or];by_cases hi:i<64
  ·simp[hi]at this
   cases h1:y.testBit i<;>cases h2:x.testBit i<;>simp_all
  ·have:x.testBit i=false:=Nat.testBit_lt_two_pow (Nat.lt_of_lt_of_le hx (by rw[show (18446744073709551616:Nat)=2 ^ 64 from rfl];exact Nat.pow_le_pow_right (by decide) (by omega)))
   rw[this];simp
 ·intro h
  refine Nat.eq_of_testBit_eq fun i=>?_
  have:=congrArg (fun z=>z.testBit i) h
  simp only[Nat.testBit_or]at this
  rw[Nat.testBit_and,hb,Nat.zero_testBit]
  cases h1:y.testBit i<;>cases h2:x.testBit i<;>simp_all
theorem or_wi{x y:Nat}:y ||| x=y↔Wi x y:=by
 rw[q2t]
 constructor
 ·intro h i hi
  rw[<-h,Nat.testBit_or,hi,Bool.or_true]
 ·intro h
  apply Nat.eq_of_testBit_eq
  intro i;rw[Nat.testBit_or]
  cases hx:x.testBit i with
  |false=>rw[Bool.or_false]
  |true=>rw[h i hx];rfl
theorem qj0(x y:Nat)(hx:x<2 ^ 64)(hy:y<2 ^ 64):bits .andNot .u64 (x:Int) (y:Int)=0↔Wi x y:=by
 rw[u64_andNot_nat x y hx hy,<-or_wi,<-qfW x y hx hy]
 omega
theorem q8g(x y:Nat)(hx:x<2 ^ 64)(hy:y<2 ^ 64)(w:World):Calls Tryz.prog 89 #[.int .u64 (x:Int),.int .u64 (y:Int)] w fun e w'=>e=.returned (.bool (decide (Wi x y)))/\w'=w:=by
 have h:=qj0 x y hx hy;generalize hz:bits .andNot .u64 (x:Int) (y:Int)=z at *
 have HD:Hid ((z==0)=decide (Wi x y)):=by
  show _=_
  rw[Bool.eq_iff_iff,beq_iff_eq,decide_eq_true_iff];exact h
 clear h;go_enter Tryz.func89,Tryz.ntmps89
 go_wp2;go_ret
 exact⟨by rw[<-HD.out];rfl,rfl⟩
theorem q2W(a:Option Addr)(n c:Nat)(l:List Nat)(h:Nat)(w:World)(hS:USl w a n c l)(sL:Sm l)(hh:h<2 ^ 64):
  Calls Tryz.prog 62 #[.slice a n c,.int .u64 (h:Int)] w (BR (hoB l h) w):=by
 have hb0:=hS.bd;have hb1:=hS.hcap;unfold maxLen at hb0;have hln:=hS.len;have HL:=hiq hln;have hidx:=fun (k:Nat) (w:World) (h:k<n)=>hS.idx n k w h nlr
 have hcell:∀k,k<n->w.cell? (adOf a k)=some (.int .u64 ((l.getD k 0:Nat):Int)):=fun k hk=>by
  rw[hS.cell k hk]
  congr 2
  simp only[List.getD_eq_getElem?_getD,iU,List.getElem?_map]
  cases l[k]?<;>rfl
 have HW:Hid (∀k,k<n->∀w',Calls Tryz.prog 89 #[.int .u64 ((l.getD k 0:Nat):Int),.int .u64 (h:Int)] w' fun e w''=>e=.returned (.bool (decide (Wi (l.getD k 0) h)))/\w''=w'):=fun k hk w'=>q8g _ h (by
  have hk':k<l.length:=by omega
  rw[List.getD_eq_getElem?_getD,lge hk'];exact sL _ (List.getElem_mem hk')) hh w'
 clear hS sL hln;go_enter Tryz.func62,Tryz.ntmps62
 go_wp2
 go_loopw [9] (fun i wr=>∃k:Nat,k<=n/\i=.int .i64 (k:Int)/\Hid (∀j,j<k->¬Wi (l.getD j 0) h)/\wr=w) (fun i _=>n-(intOf i).toNat)
 case atStart=>exact⟨0,Nat.zero_le _,rfl,fun j hj=>absurd hj (by omega),rfl⟩
 case round=>
  obtain⟨k,hk,rfl,HU,rfl⟩:=hrel;by_cases hlt:k<n
  ·have hc:=hcell k hlt
   have hx:=fun w'=>hidx k w' hlt
   have hw:=HW.out k hlt
   have HY:Hid (¬Wi (l.getD k 0) h->∀j,j<k+1->¬Wi (l.getD j 0) h):=fun hn j hj=>by
    by_cases e:j=k
    ·subst e;exact hn
    ·exact HU.out j (by omega)
   have HN:Hid (Wi (l.getD k 0) h->hoB l h=true):=fun hn=>by
    have hk':k<l.length:=by rw[<-HL.out];exact hlt
    refine decide_eq_true ⟨l.getD k 0,?_,hn⟩
    rw[List.getD_eq_getElem?_getD,lge hk'];exact List.getElem_mem hk'
   generalize l.getD k 0=x at *;clear hcell hidx;by_cases hwi:Wi x h
   ·rw[decide_eq_true hwi]at hw
    have HZ:Hid (hoB l h=true):=HN.out hwi;clear hwi HN HY
    go_wp2_with fail
    refine (hw _).mono ?_
    rintro e w1 ⟨rfl,rfl⟩
    go_wp2_with fail
    go_ret
    exact⟨by rw[HZ.out];rfl,Below.refl _ _⟩
   ·rw[decide_eq_false hwi]at hw
    have HZ:Hid (∀j,j<k+1->¬Wi (l.getD j 0) h):=HY.out hwi;clear hwi HN HY
    go_wp2_with fail
    refine (hw _).mono ?_
    rintro e w1 ⟨rfl,rfl⟩
    go_wp2_with fail
    go_roundw
    case rel=>exact⟨k+1,by omega,by go_num,HZ,by first|trivial|rfl⟩
    case measure=>simp[intOf];omega
  ·have HZ:Hid (hoB l h=false):=by
    refine decide_eq_false ?_
    rintro⟨s,hs,hw⟩
    obtain⟨j,hj,rfl⟩:=List.getElem_of_mem hs;have:=HU.out j (by have:=HL.out;omega)
    rw[List.getD_eq_getElem?_getD,lge hj]at this;exact this hw
   go_wp2;go_ret
   exact⟨by rw[HZ.out];rfl,Below.refl _ _⟩
structure BoSl (w:World) (a:Option Addr) (len cap:Nat) (bs:List Bool):Prop where
 hlen:bs.length=len
 hcap:len<=cap
 bd:cap<=maxLen
 nn:a=none->cap=0
 c:∀x,a=some x->∀k (h:k<bs.length),w.cell? (x.add k)=some (.bool bs[k])
theorem BoSl.some_of{w:World}{a:Option Addr}{len cap:Nat}{bs:List Bool}(h:BoSl w a len cap bs)(hl:0<len):∃x,a=some x:=by
 cases a with
 |none=>have:=h.nn rfl;have:=h.hcap;omega
 |some x=>exact⟨x,rfl⟩
theorem BoSl.up{w w':World}{a:Option Addr}{len cap:Nat}{bs:List Bool}(h:BoSl w a len cap bs)(hb:Below w.heap.size w w'):BoSl w' a len cap bs :=
 ⟨h.hlen,h.hcap,h.bd,h.nn,fun x hx k hk=>qn (h.c x hx k hk) hb⟩
theorem BoSl.nil{w:World}:BoSl w none 0 0 []:=⟨rfl,nlr,Nat.zero_le _,fun _=>rfl,fun x hx=>(by cases hx)⟩
theorem q6G:(Tryz.prog.info? 4).map (·.size)=some 1:=by kernel_rfl
theorem BoSl.at{w:World}{a:Option Addr}{len cap:Nat}{bs:List Bool}(h:BoSl w a len cap bs)(k:Nat)(hk:k<len):
  (∀(n:Nat) (w':World),k<n->(Instr.indexAt 28 (.slice a n cap) (.int .i64 k)).run Tryz.prog w'=.ok (.pointer (some (adOf a k))) w')/\w.cell? (adOf a k)=some (.bool (bs[k]'(by rw[h.hlen];exact hk))):=by
 obtain⟨x,rfl⟩:=h.some_of (by omega)
 refine⟨fun n w' hn=>q1a Tryz.underlying28 q6G (by simp) k w' hn,h.c x rfl k (by rw[h.hlen];exact hk)⟩
theorem qj1{w:World}{base e n:Nat}{v:Value}{bs:List Bool}(h:w.ownsRow base e 1 v n (bs.map Value.bool)):∃a cap,v=.slice a n cap/\BoSl w a n cap bs:=by
 obtain⟨hl,h⟩:=h;simp at hl
 rcases h with⟨rfl,rfl⟩|⟨g,cap,cur,rfl,hg,hcell,hnc,hcm,hsz,htk⟩
 ·obtain rfl:=List.eq_nil_of_length_eq_zero hl
  exact⟨none,0,rfl,BoSl.nil⟩
 ·refine⟨some ⟨g,0,none⟩,cap,rfl,hl,hnc,hcm,fun h=>(by cases h),fun x hx k hk=>?_⟩
  injection hx with hx;subst hx
  have e1:(cur.toList.take (n*1))[k]? =some (.bool bs[k]):=by rw[htk];simp[hk]
  rw[List.getElem?_take,if_pos (by omega)]at e1
  rw[qg,Nat.zero_add];simp[World.cell?,hcell]
  simpa using e1
theorem q9u(a:Option Addr)(len cap:Nat)(xs:List Bool)(a':Option Addr)(len' cap':Nat)(ys:List Bool)(w:World)(hS:BoSl w a len cap xs)(hO:BoSl w a' len' cap' ys):
  Calls Tryz.prog 42 #[.slice a len cap,.slice a' len' cap'] w fun e w'=>e=.returned (.bool (decide (xs=ys)))/\Below w.heap.size w w':=by
 have hb0:=hS.bd;have hb1:=hS.hcap;have hb2:=hO.bd;have hb3:=hO.hcap;unfold maxLen at hb0 hb2;by_cases hll:len=len'
 ·subst hll
  go_enter Tryz.func42,Tryz.ntmps42
  go_wp2
  go_loopw [5] (fun i wr=>∃k:Nat,k<=len/\i=.int .i64 k/\Hid (xs.take k=ys.take k)/\Hid (Below w.heap.size w wr)) (fun i _=>len-(intOf i).toNat)
  case atStart=>exact⟨0,Nat.zero_le _,rfl,by show _=_;simp,Below.refl _ _⟩
  case round=>
   obtain⟨k,hk,rfl,HU,hwr⟩:=hrel;by_cases hlt:k<len
   ·obtain⟨hi1,hx0⟩:=(hS.up hwr.out).at k hlt
    obtain⟨hi2,hy0⟩:=(hO.up hwr.out).at k hlt;have hidx:=fun w'=>hi1 len w' hlt
    have hidx':=fun w'=>hi2 len w' hlt
    clear hi1 hi2;have hxl:k<xs.length:=by rw[hS.hlen];exact hlt
    have hyl:k<ys.length:=by rw[hO.hlen];exact hlt
    have HN:Hid (xs[k]=ys[k]->xs.take (k+1)=ys.take (k+1)):=fun h=>by
     rw[List.take_add_one,List.take_add_one,lge hxl,lge hyl,HU.out,h]
    have HM:Hid (xs[k]≠ys[k]->decide (xs=ys)=false):=fun h=>decide_eq_false (fun e=>h (by subst e;rfl))
    generalize xs[k]=x at *;generalize ys[k]=y at *
    cases x<;>cases y
    all_goals
     go_wp2_with fail
     go_quiet (fail)
    ·have HN2:Hid _:=HN.out (by simp)
     go_wp2
     go_roundw
     case rel=>exact⟨k+1,by omega,by go_num,HN2,below_drewN hwr.out nq⟩
     case measure=>simp[intOf];omega
    ·have HM2:Hid _:=HM.out (by decide)
     go_wp2;go_ret
     exact⟨by rw[HM2.out];rfl,below_drewN hwr.out nq⟩
    ·have HM2:Hid _:=HM.out (by decide)
     go_wp2;go_ret
     exact⟨by rw[HM2.out];rfl,below_drewN hwr.out nq⟩
    ·have HN2:Hid _:=HN.out (by simp)
     go_wp2
     go_roundw
     case rel=>exact⟨k+1,by omega,by go_num,HN2,below_drewN hwr.out nq⟩
     case measure=>simp[intOf];omega
   ·have hx:Hid (decide (xs=ys)=true):=by
     have:=HU.out
     rw[List.take_of_length_le (by rw[hS.hlen];omega),List.take_of_length_le (by rw[hO.hlen];omega)]at this
     exact decide_eq_true this
    go_wp2;go_ret
    exact⟨by rw[hx.out];rfl,hwr.out⟩
 ·have hx:Hid (decide (xs=ys)=false):=decide_eq_false (fun e=>hll (by rw[<-hS.hlen,<-hO.hlen,e]))
  have hll':((len:Int) != (len':Int))=true:=by simp;omega
  clear hll;go_enter Tryz.func42,Tryz.ntmps42
  go_wp2;go_ret
  exact⟨by rw[hx.out];rfl,Below.refl _ _⟩
def kpCells (p:Kp):Array Value:=#[.int .u8 (p.k:Int),.int .i64 (p.b:Int),.int .i64 (p.d:Int)]
def KpBlk (w:World) (g:Nat) (t:TypeId) (p:Kp):Prop:=w.heap[g]? =some (.cells (kpCells p) t (0,0))
theorem KpBlk.new(w:World)(t:TypeId)(p:Kp):KpBlk (w.alloc (.cells (kpCells p) t)) w.heap.size t p:=(mha w _).1
theorem KpBlk.lt{w:World}{g:Nat}{t:TypeId}{p:Kp}(h:KpBlk w g t p):g<w.heap.size:=(aes h).1
theorem KpBlk.up{w w':World}{g:Nat}{t:TypeId}{p:Kp}(h:KpBlk w g t p)(hb:Below w.heap.size w w'):KpBlk w' g t p:=(hb.block g h.lt).trans h
theorem KpBlk.c0{w:World}{g:Nat}{t:TypeId}{p:Kp}(h:KpBlk w g t p):w.cell? ⟨g,0,none⟩=some (.int .u8 (p.k:Int)):=by unfold KpBlk at h;simp[World.cell?,h,kpCells]
theorem KpBlk.c1{w:World}{g:Nat}{t:TypeId}{p:Kp}(h:KpBlk w g t p):w.cell? ⟨g,1,none⟩=some (.int .i64 (p.b:Int)):=by unfold KpBlk at h;simp[World.cell?,h,kpCells]
theorem KpBlk.c2{w:World}{g:Nat}{t:TypeId}{p:Kp}(h:KpBlk w g t p):w.cell? ⟨g,2,none⟩=some (.int .i64 (p.d:Int)):=by unfold KpBlk at h;simp[World.cell?,h,kpCells]
theorem KpBlk.fz{w:World}{g:Nat}{t:TypeId}{p:Kp}(h:KpBlk w g t p)(i:Nat):w.frozen? ⟨g,i,none⟩=false:=frozen_of_row w g i _ t h
theorem KpBlk.set0{w:World}{g:Nat}{t:TypeId}{p:Kp}(h:KpBlk w g t p)(x:Nat):KpBlk (w.setCell ⟨g,0,none⟩ (.int .u8 (x:Int))) g t { p with k:=x }:=heap_setCell_same w g 0 _ t (.int .u8 (x:Int)) h
theorem KpBlk.set1{w:World}{g:Nat}{t:TypeId}{p:Kp}(h:KpBlk w g t p)(x:Nat):KpBlk (w.setCell ⟨g,1,none⟩ (.int .i64 (x:Int))) g t { p with b:=x }:=heap_setCell_same w g 1 _ t (.int .i64 (x:Int)) h
theorem KpBlk.set2{w:World}{g:Nat}{t:TypeId}{p:Kp}(h:KpBlk w g t p)(x:Nat):KpBlk (w.setCell ⟨g,2,none⟩ (.int .i64 (x:Int))) g t { p with d:=x }:=heap_setCell_same w g 2 _ t (.int .i64 (x:Int)) h
theorem KpBlk.store{w:World}{g:Nat}{t:TypeId}{p:Kp}(h:KpBlk w g t p)(q:Kp):KpBlk (((w.setCell ⟨g,0,none⟩ (.int .u8 (q.k:Int))).setCell ⟨g,1,none⟩ (.int .i64 (q.b:Int))).setCell ⟨g,2,none⟩ (.int .i64 (q.d:Int))) g t q:=((h.set0 q.k).set1 q.b).set2 q.d
theorem q3g(p:Kp)(want:Nat)(w:World):
  Calls Tryz.prog 64 #[.agg (kpCells p),.int .u8 (want:Int)] w fun e w'=>e=.returned (.bool (isK p.k want))/\Below w.heap.size w w':=by
 obtain⟨k,b,d⟩:=p;dsimp only[kpCells]
 by_cases h4:want=4
 ·subst h4
  go_enter Tryz.func64,Tryz.ntmps64
  go_wp2;go_ret
  exact⟨rfl,qc _ _⟩
 ·by_cases h1:want=1
  ·subst h1
   have HX:Hid (isK k 1=(decide (k=1) || decide (k=2))):=rfl;by_cases k1:k=1
   ·subst k1
    go_enter Tryz.func64,Tryz.ntmps64
    go_wp2;go_ret
    exact⟨rfl,qc _ _⟩
   ·have q1:((k:Int)==1)=false:=by rw[bqn];omega
    by_cases k2:k=2
    ·subst k2
     go_enter Tryz.func64,Tryz.ntmps64
     go_wp2;go_ret
     exact⟨rfl,qc _ _⟩
    ·have q2:((k:Int)==2)=false:=by rw[bqn];omega
     have HZ:Hid (isK k 1=false):=by show _=_;rw[HX.out];simp[k1,k2]
     go_enter Tryz.func64,Tryz.ntmps64
     go_wp2;go_ret
     exact⟨by rw[HZ.out];rfl,qc _ _⟩
  ·have q4:((want:Int)==4)=false:=by rw[bqn];omega
   have q1:((want:Int)==1)=false:=by rw[bqn];omega
   have HX:Hid (isK k want=decide (k=want)):=by show _=_;unfold isK;rw[if_neg h4,if_neg h1]
   have q:((k:Int)==(want:Int))=decide (k=want):=qcm k want;go_enter Tryz.func64,Tryz.ntmps64
   go_wp2;go_ret
   exact⟨by rw[HX.out];rfl,qc _ _⟩
theorem q95(op p:Nat)(w:World):
  Calls Tryz.prog 91 #[.agg #[.int .u8 (op:Int),.int .u8 (p:Int)]] w fun e w'=>e=.returned (.bool (mayB op p))/\Below w.heap.size w w':=by
 by_cases h2:op=2
 ·subst h2
  have HX:Hid (mayB 2 p=decide (p<8)):=rfl;have q:decide ((p:Int)<8)=decide (p<8):=by rw[decide_eq_decide];omega
  go_enter Tryz.func91,Tryz.ntmps91
  go_wp2;go_ret
  exact⟨by rw[HX.out];rfl,qc _ _⟩
 ·have q2:((op:Int)==2)=false:=by rw[bqn];omega
  have HX:Hid (mayB op p=(decide (op<=23)&&decide (p=0))):=by show _=_;unfold mayB;rw[if_neg h2]
  by_cases h23:op<=23
  ·have q3:(op:Int)<=23:=by omega
   have q0:((p:Int)==0)=decide (p=0):=qcm p 0;go_enter Tryz.func91,Tryz.ntmps91
   go_wp2;go_ret
   exact⟨by rw[HX.out,decide_eq_true h23];rfl,qc _ _⟩
  ·have q3:decide ((op:Int)<=23)=false:=decide_eq_false (by omega)
   go_enter Tryz.func91,Tryz.ntmps91
   go_wp2;go_ret
   exact⟨by rw[HX.out,decide_eq_false h23];rfl,qc _ _⟩
theorem al3(w:World)(A B C:Obj):(((w.alloc A).alloc B).alloc C).heap[w.heap.size]? =some A/\(((w.alloc A).alloc B).alloc C).heap[w.heap.size+1]? =some B/\(((w.alloc A).alloc B).alloc C).heap[w.heap.size+1+1]? =some C/\Below w.heap.size w (((w.alloc A).alloc B).alloc C):=by
 have h1:=(MapKept.heap_alloc w A).1;have h2:=(MapKept.heap_alloc (w.alloc A) B).1;have h3:=(MapKept.heap_alloc ((w.alloc A).alloc B) C).1;have e1:(w.alloc A).heap.size=w.heap.size+1:=by simp
 have e2:((w.alloc A).alloc B).heap.size=w.heap.size+1+1:=by simp
 have b1:=qc (w.alloc A) B;have b2:=qc ((w.alloc A).alloc B) C;rw[e1]at h2 b1;rw[e2]at h3 b2;refine⟨?_,?_,h3,?_⟩
 ·rw[b2.block _ (by omega),b1.block _ (by omega)];exact h1
 ·rw[b2.block _ (by omega)];exact h2
 ·exact((qc w A).alloc (by omega) B).alloc (by omega) C
theorem qbb(p t:Kp)(K:Nat)(w:World)(ht:t.d<=1000000)(hm:¬p.d<t.d+1)(HK:Hid (K=if p.k=2/\t.k≠2 then 1 else p.k)):
  Calls Tryz.prog 92 #[.agg (kpCells p),.agg (kpCells t)] w fun e w'=>e=.returned (.agg (kpCells ⟨K,t.b,p.d⟩))/\Below w.heap.size w w':=by
 obtain⟨k,b,d⟩:=p;obtain⟨k',b',d'⟩:=t;dsimp only[kpCells]at *
 have hw1:IntKind.i64.wrap ((d':Int)+1)=((d'+1:Nat):Int):=by rw[IntKind.wrap_i64];omega
 have hi:=fun w=>q3g ⟨k',b',d'⟩ 2 w
 dsimp only[kpCells]at hi
 have HZ:Hid (isK k' 2=decide (k'=2)):=rfl;by_cases hk:k=2
 ·subst hk
  have H3:=al3 w (.cells #[.int .u8 2,.int .i64 (b':Int),.int .i64 ((d:Int))] 88) (.cells #[.int .u8 (k':Int),.int .i64 (b':Int),.int .i64 (d':Int)] 88) (.cells #[.int .u8 0,.int .i64 0,.int .i64 0] 88);generalize isK k' 2=z at *;go_enter Tryz.func92,Tryz.ntmps92
  go_wp2_with fail
  refine (hi _).mono ?_
  rintro e w2 ⟨rfl,hw2⟩
  have hA:KpBlk w2 w.heap.size 88 ⟨2,b',d⟩:=KpBlk.up H3.1 hw2;have hC:KpBlk w2 (w.heap.size+1+1) 88 ⟨0,0,0⟩:=KpBlk.up H3.2.2.1 hw2;have hb2:=qd H3.2.2.2 hw2;clear hw2 H3;have hA0:=hA.c0;have hA1:=hA.c1;have hA2:=hA.c2;have hAf:=hA.fz;have hC0:=hC.c0;have hC1:=hC.c1;have hC2:=hC.c2;have hCf:=hC.fz
  cases z with
  |false=>
   have HK1:Hid (K=1):=by
    have h1:¬k'=2:=of_decide_eq_false HZ.out.symm;have h2:=HK.out;rw[if_pos ⟨trivial,h1⟩]at h2;exact h2
   go_wp2;refine bodyPost_ret (v:=.agg #[.int .u8 1,.int .i64 (b':Int),.int .i64 ((d:Int))]) (by simp[results,Tryz.results92,go_sem,hC0,hC1,hC2]) rfl ⟨by rw[HK1.out];rfl,?_⟩
   exact(((hb2.setCell (by dsimp only;omega) _).setCell (by dsimp only;omega) _).setCell (by dsimp only;omega) _).setCell (by dsimp only;omega) _
  |true=>
   have HK1:Hid (K=2):=by
    have h1:k'=2:=of_decide_eq_true HZ.out.symm;have h2:=HK.out;rw[if_neg (fun h=>h.2 h1)]at h2;exact h2
   go_wp2;refine bodyPost_ret (v:=.agg #[.int .u8 2,.int .i64 (b':Int),.int .i64 ((d:Int))]) (by simp[results,Tryz.results92,go_sem,hC0,hC1,hC2]) rfl ⟨by rw[HK1.out];rfl,?_⟩
   exact((hb2.setCell (by dsimp only;omega) _).setCell (by dsimp only;omega) _).setCell (by dsimp only;omega) _
 ·have hk2:((k:Int)==2)=false:=by rw[bqn];omega
  have HK1:Hid (K=k):=by
   have h2:=HK.out;rw[if_neg (fun h=>hk h.1)]at h2;exact h2
  have H3:=(al3 w (.cells #[.int .u8 (k:Int),.int .i64 (b':Int),.int .i64 ((d:Int))] 88) (.cells #[.int .u8 (k':Int),.int .i64 (b':Int),.int .i64 (d':Int)] 88) (.cells #[.int .u8 (k:Int),.int .i64 (b':Int),.int .i64 ((d:Int))] 88)).2.2.2;go_enter Tryz.func92,Tryz.ntmps92
  go_wp2;refine bodyPost_ret (v:=.agg #[.int .u8 (k:Int),.int .i64 (b':Int),.int .i64 ((d:Int))]) (by simp[results,Tryz.results92,go_sem]) rfl ⟨by rw[HK1.out];first|done|rfl,H3⟩
theorem q9g(p t:Kp)(K:Nat)(w:World)(ht:t.d<=1000000)(hm:p.d<t.d+1)(HK:Hid (K=if p.k=2/\t.k≠2 then 1 else p.k)):
  Calls Tryz.prog 92 #[.agg (kpCells p),.agg (kpCells t)] w fun e w'=>e=.returned (.agg (kpCells ⟨K,t.b,t.d+1⟩))/\Below w.heap.size w w':=by
 obtain⟨k,b,d⟩:=p;obtain⟨k',b',d'⟩:=t;dsimp only[kpCells]at *
 have hw1:IntKind.i64.wrap ((d':Int)+1)=((d'+1:Nat):Int):=by rw[IntKind.wrap_i64];omega
 have hi:=fun w=>q3g ⟨k',b',d'⟩ 2 w
 dsimp only[kpCells]at hi
 have HZ:Hid (isK k' 2=decide (k'=2)):=rfl;by_cases hk:k=2
 ·subst hk
  have H3:=al3 w (.cells #[.int .u8 2,.int .i64 (b':Int),.int .i64 ((d':Int)+1)] 88) (.cells #[.int .u8 (k':Int),.int .i64 (b':Int),.int .i64 (d':Int)] 88) (.cells #[.int .u8 0,.int .i64 0,.int .i64 0] 88);generalize isK k' 2=z at *;go_enter Tryz.func92,Tryz.ntmps92
  go_wp2_with fail
  refine (hi _).mono ?_
  rintro e w2 ⟨rfl,hw2⟩
  have hA:KpBlk w2 w.heap.size 88 ⟨2,b',d'+1⟩:=KpBlk.up H3.1 hw2;have hC:KpBlk w2 (w.heap.size+1+1) 88 ⟨0,0,0⟩:=KpBlk.up H3.2.2.1 hw2;have hb2:=qd H3.2.2.2 hw2;clear hw2 H3;have hA0:=hA.c0;have hA1:=hA.c1;have hA2:=hA.c2;have hAf:=hA.fz;have hC0:=hC.c0;have hC1:=hC.c1;have hC2:=hC.c2;have hCf:=hC.fz
  cases z with
  |false=>
   have HK1:Hid (K=1):=by
    have h1:¬k'=2:=of_decide_eq_false HZ.out.symm;have h2:=HK.out;rw[if_pos ⟨trivial,h1⟩]at h2;exact h2
   go_wp2;refine bodyPost_ret (v:=.agg #[.int .u8 1,.int .i64 (b':Int),.int .i64 ((d':Int)+1)]) (by simp[results,Tryz.results92,go_sem,hC0,hC1,hC2]) rfl ⟨by rw[HK1.out];rfl,?_⟩
   exact(((hb2.setCell (by dsimp only;omega) _).setCell (by dsimp only;omega) _).setCell (by dsimp only;omega) _).setCell (by dsimp only;omega) _
  |true=>
   have HK1:Hid (K=2):=by
    have h1:k'=2:=of_decide_eq_true HZ.out.symm;have h2:=HK.out;rw[if_neg (fun h=>h.2 h1)]at h2;exact h2
   go_wp2;refine bodyPost_ret (v:=.agg #[.int .u8 2,.int .i64 (b':Int),.int .i64 ((d':Int)+1)]) (by simp[results,Tryz.results92,go_sem,hC0,hC1,hC2]) rfl ⟨by rw[HK1.out];rfl,?_⟩
   exact((hb2.setCell (by dsimp only;omega) _).setCell (by dsimp only;omega) _).setCell (by dsimp only;omega) _
 ·have hk2:((k:Int)==2)=false:=by rw[bqn];omega
  have HK1:Hid (K=k):=by
   have h2:=HK.out;rw[if_neg (fun h=>hk h.1)]at h2;exact h2
  have H3:=(al3 w (.cells #[.int .u8 (k:Int),.int .i64 (b':Int),.int .i64 ((d':Int)+1)] 88) (.cells #[.int .u8 (k':Int),.int .i64 (b':Int),.int .i64 (d':Int)] 88) (.cells #[.int .u8 (k:Int),.int .i64 (b':Int),.int .i64 ((d':Int)+1)] 88)).2.2.2;go_enter Tryz.func92,Tryz.ntmps92
  go_wp2;refine bodyPost_ret (v:=.agg #[.int .u8 (k:Int),.int .i64 (b':Int),.int .i64 ((d':Int)+1)]) (by simp[results,Tryz.results92,go_sem]) rfl ⟨by rw[HK1.out];first|done|rfl,H3⟩
theorem qba(p t:Kp)(w:World)(ht:t.d<=1000000):
  Calls Tryz.prog 92 #[.agg (kpCells p),.agg (kpCells t)] w fun e w'=>e=.returned (.agg (kpCells (overK p t)))/\Below w.heap.size w w':=by
 by_cases hm:p.d<t.d+1
 ·have e:overK p t=⟨if p.k=2/\t.k≠2 then 1 else p.k,t.b,t.d+1⟩:=by unfold overK;rw[Nat.max_eq_right (by omega)]
  rw[e];exact q9g p t _ w ht hm rfl
 ·have e:overK p t=⟨if p.k=2/\t.k≠2 then 1 else p.k,t.b,p.d⟩:=by unfold overK;rw[Nat.max_eq_left (by omega)]
  rw[e];exact qbb p t _ w ht hm rfl
theorem q2l(g o k:Nat):(adOf (some ⟨g,o,none⟩) k).block=g:=by simp[adOf,qg]
theorem q77(op:Nat)(w:World)(hop:op<=23):
  Calls Tryz.prog 90 #[.int .u8 (op:Int)] w fun e w'=>∃a,e=.returned (.tuple #[.slice a (takesK op).length (takesK op).length,.int .u8 (putsK op:Int)])/\IntSl Tryz.prog 145 .u8 w' a (takesK op).length (takesK op).length ((takesK op).map Int.ofNat)/\Below w.heap.size w w'/\∀k,k<(takesK op).length->w.heap.size<=(adOf a k).block:=by
 rcases q2y hop with rfl|rfl|rfl|rfl|rfl|rfl|rfl|rfl|rfl|rfl|rfl|rfl|rfl|rfl|rfl|rfl|rfl|rfl|rfl|rfl|rfl|rfl|rfl|rfl <;>
 ·go_enter Tryz.func90,Tryz.ntmps90
  go_wp2;go_ret2
  first
  |exact⟨none,rfl,q4b,Below.refl _ _,fun k hk=>absurd hk (Nat.not_lt_zero _)⟩
  |exact⟨some ⟨w.heap.size,0,none⟩,rfl,(RowAt.new w 64 [1]).intSl Tryz.underlying145 (by kernel_rfl) nlr (by decide),qc _ _,fun k _=>Nat.le_of_eq (q2l _ _ _).symm⟩
  |exact⟨some ⟨w.heap.size,0,none⟩,rfl,(RowAt.new w 64 [2]).intSl Tryz.underlying145 (by kernel_rfl) nlr (by decide),qc _ _,fun k _=>Nat.le_of_eq (q2l _ _ _).symm⟩
  |exact⟨some ⟨w.heap.size,0,none⟩,rfl,(RowAt.new w 64 [3]).intSl Tryz.underlying145 (by kernel_rfl) nlr (by decide),qc _ _,fun k _=>Nat.le_of_eq (q2l _ _ _).symm⟩
  |exact⟨some ⟨w.heap.size,0,none⟩,rfl,(RowAt.new w 64 [1,1]).intSl Tryz.underlying145 (by kernel_rfl) nlr (by decide),qc _ _,fun k _=>Nat.le_of_eq (q2l _ _ _).symm⟩
  |exact⟨some ⟨w.heap.size,0,none⟩,rfl,(RowAt.new w 64 [3,1]).intSl Tryz.underlying145 (by kernel_rfl) nlr (by decide),qc _ _,fun k _=>Nat.le_of_eq (q2l _ _ _).symm⟩
  |exact⟨some ⟨w.heap.size,0,none⟩,rfl,(RowAt.new w 64 [3,3]).intSl Tryz.underlying145 (by kernel_rfl) nlr (by decide),qc _ _,fun k _=>Nat.le_of_eq (q2l _ _ _).symm⟩
theorem q9x(op:Nat)(w:World):
  Calls Tryz.prog 90 #[.int .u8 (op:Int)] w fun e w'=>∃a,e=.returned (.tuple #[.slice a (takesK op).length (takesK op).length,.int .u8 (putsK op:Int)])/\IntSl Tryz.prog 145 .u8 w' a (takesK op).length (takesK op).length ((takesK op).map Int.ofNat)/\Below w.heap.size w w'/\∀k,k<(takesK op).length->w.heap.size<=(adOf a k).block:=by
 by_cases hop:op<=23
 ·exact q77 op w hop
 ·have HT:Hid (takesK op=[]):=by
   show _=_
   unfold takesK
   repeat rw[if_neg (by omega)]
  have HP:Hid (putsK op=0):=by
   show _=_
   unfold putsK
   repeat rw[if_neg (by omega)]
  have q:∀n:Nat,n<=23->((op:Int)==(n:Int))=false:=fun n hn=>by rw[bqn];omega
  have q0:=q 0 (by decide)
  have q1:=q 1 (by decide)
  have q2:=q 2 (by decide)
  have q3:=q 3 (by decide)
  have q4:=q 4 (by decide)
  have q5:=q 5 (by decide)
  have q6:=q 6 (by decide)
  have q7:=q 7 (by decide)
  have q8:=q 8 (by decide)
  have q9:=q 9 (by decide)
  have q10:=q 10 (by decide)
  have q11:=q 11 (by decide)
  have q12:=q 12 (by decide)
  have q13:=q 13 (by decide)
  have q14:=q 14 (by decide)
  have q15:=q 15 (by decide)
  have q16:=q 16 (by decide)
  have q17:=q 17 (by decide)
  have q18:=q 18 (by decide)
  have q19:=q 19 (by decide)
  have q20:=q 20 (by decide)
  have q21:=q 21 (by decide)
  have q22:=q 22 (by decide)
  have q23:=q 23 (by decide)
  clear q;go_enter Tryz.func90,Tryz.ntmps90
  go_wp2;go_ret2
  rw[HT.out,HP.out];exact⟨none,rfl,q4b,Below.refl _ _,fun k hk=>absurd hk (Nat.not_lt_zero _)⟩
def RowI (w:World) (e:TypeId) (g:Nat) (cur:List Int):Prop:=w.heap[g]? =some (.cells (cur.map (Value.int .i64)).toArray e (0,0))
theorem RowI.lt{w:World}{e:TypeId}{g:Nat}{cur:List Int}(h:RowI w e g cur):g<w.heap.size:=(aes h).1
theorem RowI.cell{w:World}{e:TypeId}{g:Nat}{cur:List Int}(h:RowI w e g cur){i:Nat}(hi:i<cur.length):w.cell? ⟨g,i,none⟩=some (.int .i64 (cur.getD i 0)):=by
 unfold RowI at h;simp[World.cell?,h,List.getD_eq_getElem?_getD,List.getElem?_eq_getElem hi]
theorem RowI.owns{w:World}{e:TypeId}{g base n:Nat}{cur:List Int}(h:RowI w e g cur)(hb:base<=g)(hl:cur.length=n)(hm:n<=maxLen):w.ownsRow base e 1 (.slice (some ⟨g,0,none⟩) n n) n (cur.map (Value.int .i64)) :=
 ⟨by simp[hl],Or.inr ⟨g,n,_,rfl,hb,h,Nat.le_refl _,hm,by simp[hl],by rw[Nat.mul_one,List.take_of_length_le (by simp[hl])]⟩⟩
theorem qbK:(Tryz.prog.info? 3).map (fun i=>(i.zero,i.size,i.bytes))=some (some (.int .i64 0),1,8):=by kernel_rfl
theorem q2S:(Tryz.prog.info? 3).map (·.size)=some 1:=by kernel_rfl
theorem q9v(a:Option Addr)(len cap:Nat)(xs:List Int)(a':Option Addr)(len' cap':Nat)(ys:List Int)(w:World)
  (hS:IntSl Tryz.prog 29 .i64 w a len cap xs) (hO:IntSl Tryz.prog 29 .i64 w a' len' cap' ys):
  Calls Tryz.prog 43 #[.slice a len cap,.slice a' len' cap'] w fun e w'=>e=.returned (.bool (decide (xs=ys)))/\∃n,w'=w.drewN n:=by
 have hb0:=hS.bd;have hb1:=hS.hcap;have hb2:=hO.bd;have hb3:=hO.hcap;unfold maxLen at hb0 hb2;by_cases hll:len=len'
 ·subst hll
  have hidx:=fun (k:Nat) (w:World) (h:k<len)=>hS.idx len k w h nlr
  have hidx':=fun (k:Nat) (w:World) (h:k<len)=>hO.idx len k w h nlr
  go_enter Tryz.func43,Tryz.ntmps43
  go_wp2
  go_loopw [5] (fun i wr=>∃k:Nat,k<=len/\i=.int .i64 k/\Hid (xs.take k=ys.take k)/\Hid (∃n,wr=w.drewN n)) (fun i _=>len-(intOf i).toNat)
  case atStart=>exact⟨0,Nat.zero_le _,rfl,by show _=_;simp,0,rfl⟩
  case round=>
   obtain⟨k,hk,rfl,HU,hwr⟩:=hrel;by_cases hlt:k<len
   ·have hS':IntSl Tryz.prog 29 .i64 wr a len cap xs:=by obtain⟨n,hn⟩:=hwr.out;rw[hn];exact hS.drewN n
    have hO':IntSl Tryz.prog 29 .i64 wr a' len cap' ys:=by obtain⟨n,hn⟩:=hwr.out;rw[hn];exact hO.drewN n
    have hck:=hS'.cell k hlt;have hck':=hO'.cell k hlt;have HN:Hid (xs.getD k 0=ys.getD k 0->xs.take (k+1)=ys.take (k+1)):=fun h=>q6e (by rw[hS.hlen];exact hlt) (by rw[hO.hlen];exact hlt) HU.out h
    have HM:Hid (xs.getD k 0≠ys.getD k 0->decide (xs=ys)=false):=fun h=>decide_eq_false (fun e=>h (by rw[e]))
    clear hS' hO';generalize xs.getD k 0=x at *;generalize ys.getD k 0=y at *;go_wp2
    go_quiet (fail)
    rcases Bool.eq_false_or_eq_true (x != y) with ht|ht
    ·go_wp2
     go_ret
     obtain⟨n,hn⟩:=hwr.out;exact⟨by rw[HM.out (by simpa using ht)];rfl,n+nq,by rw[hn,World.drewN_drewN]⟩
    ·have HN2:Hid _:=HN.out (by simpa using ht)
     go_wp2
     go_roundw
     case rel=>
      obtain⟨n,hn⟩:=hwr.out;exact⟨k+1,by omega,by go_num,HN2,n+nq,by rw[hn,World.drewN_drewN]⟩
     case measure=>simp[intOf];omega
   ·have hx:Hid (decide (xs=ys)=true):=by
     have:=HU.out
     rw[List.take_of_length_le (by rw[hS.hlen];omega),List.take_of_length_le (by rw[hO.hlen];omega)]at this
     exact decide_eq_true this
    go_wp2;go_ret
    exact⟨by rw[hx.out];rfl,hwr.out⟩
 ·have hx:Hid (decide (xs=ys)=false):=decide_eq_false (fun e=>hll (by rw[<-hS.hlen,<-hO.hlen,e]))
  have hll':((len:Int) != (len':Int))=true:=by simp;omega
  clear hll;go_enter Tryz.func43,Tryz.ntmps43
  go_wp2;go_ret
  exact⟨by rw[hx.out];rfl,0,rfl⟩
theorem qig{P:Program}{T e:TypeId}{w:World}{base n:Nat}{v:Value}{zs:List Int}(h:w.ownsRow base e 1 v n (zs.map (Value.int .i64)))(hu:P.underlying T=some (.slice e))(hs:(P.info? e).map (·.size)=some 1):
  ∃a cap,v=.slice a n cap/\IntSl P T .i64 w a n cap zs/\(∀k,k<n->base<=(adOf a k).block)/\∀x,a=some x->x.block<w.heap.size:=by
 obtain⟨hl,h⟩:=h;simp at hl
 rcases h with⟨rfl,rfl⟩|⟨g,cap,cur,rfl,hg,hcell,hnc,hcm,hsz,htk⟩
 ·have:zs=[]:=List.eq_nil_of_length_eq_zero hl
  subst this;exact⟨none,0,rfl,⟨rfl,nlr,Nat.zero_le _,fun m k w hk hm=>absurd hk (by omega),fun k hk=>absurd hk (by omega),fun k hk=>absurd hk (by omega),fun _=>rfl⟩,fun k hk=>absurd hk (by omega),fun x hx=>by cases hx⟩
 ·have had:∀k,adOf (some ⟨g,0,none⟩) k=⟨g,k,none⟩:=fun k=>by simp[adOf,qg]
  have hlt:g<w.heap.size:=(aes hcell).1
  refine⟨some ⟨g,0,none⟩,cap,rfl,⟨hl,hnc,hcm,fun m k w hk hm=>q1a hu hs (by simp) k w hk,fun k hk=>?_,fun k hk=>by rw[had];exact hlt,by simp⟩,fun k hk=>by rw[had];exact hg,fun x hx=>by injection hx with hx;rw[<-hx];exact hlt⟩
  rw[had]
  have hk2:(cur.toList.take (n*1))[k]? =some (.int .i64 (zs.getD k 0)):=by
   rw[htk];simp[List.getD_eq_getElem?_getD,List.getElem?_eq_getElem (show k<zs.length by omega)]
  rw[List.getElem?_take,if_pos (by omega)]at hk2
  simp[World.cell?,hcell]
  simpa using hk2
def tbV (t:Nat):Value:=.pointer (some ⟨t,0,none⟩)
def itV (x:It):Value:=.agg #[.int .u8 (x.op:Int),.int .u8 (x.p:Int),.int .i64 x.a,.int .i64 x.b]
theorem qS{w:World}{base e size n:Nat}{v:Value}{xs:List Value}(h:w.ownsRow base e size v n xs):∀k,v.ownBlock=some k->k<w.heap.size:=by
 intro k hk;rcases h.2 with⟨rfl,_⟩|⟨g,cap,cur,rfl,_,hcell,_⟩
 ·cases hk
 ·injection hk with hk
  dsimp only at hk
  subst hk;exact(aes hcell).1
theorem qf8{w:World}{ops:Array Oper}{rest:List Oper}{o:Oper}{a:Act}{Q:Exit->Act->World->Prop}{T E:TypeId}{z:Value}{bt:Nat}(hu:Tryz.prog.underlying T=some (.slice E))(hin:(Tryz.prog.info? E).map (fun i=>(i.zero,i.size,i.bytes))=some (some z,1,bt))(hzs:z.cells.size=1)(hbt:bt<=1000)(hgd:o.guard=none)(s x:Operand)
  (ho:o.op=.call { callee:=.builtin .append,args:=#[s,x],argTypes:=#[T,T] }) (base:Nat)
  (v:Value) (n:Nat) (xs:List Value) (y:Value) (g:Nat) (hs:a.eval s=v) (hx:a.eval x=.slice (some ⟨g,0,none⟩) 1 1) (hown:w.ownsRow base E 1 v n xs)
  (hB:w.cell? ⟨g,0,none⟩=some y) (h1:y.oneCell'=true) (hn:n<=1000000) (hbase:base<=w.heap.size)
  (h:∀v' w',w'.ownsRow base E 1 v' (n+1) (xs++[y])->w.grownBy w' v.ownBlock->(v'.ownBlock=v.ownBlock\/v'.ownBlock=some w.heap.size)->wpList Tryz.prog ops Q rest (a.put o.dst v') w'):wpList Tryz.prog ops Q (o::rest) a w:=by
 obtain⟨i,hi,hz0,hz1,hz2⟩:=info_parts hin;have hb:(n+1)*bt<=(1000000+1)*1000:=Nat.mul_le_mul (by omega) hbt
 refine wpList_append_own_at w hgd s x T ho base E i _ 1 bt hu hi hz0 hz1 hz2 hzs (by decide) v n _ hs hown ⟨g,0,none⟩ 1 1 [y] hx rfl ?_ ?_ (by unfold maxLen;omega) (by omega) hbase ?_
 ·intro j u hj
  match j with
  | 0=>simp at hj;rw[<-hj,qg];exact hB
  |j+1=>simp at hj
 ·intro u hu'
  simp at hu'
  subst hu';exact h1
 ·intro v' w' e1 e2 _ e3
  exact h v' w' e1 e2 e3
def ItOk (x:It):Prop:=x.op<256/\x.p<256/\-1<=x.a/\x.a<100000000/\-1<=x.b/\x.b<100000000
def klI (x:It):Lit:=.string (keyBytes [.int .u8 (x.op:Int),.int .u8 (x.p:Int),.int .i64 x.a,.int .i64 x.b])
theorem qb4:laidOutB Tryz.prog=true:=by kernel_rfl
theorem q6T:Tryz.prog.keyType 162=true:=by kernel_rfl
theorem q3I:Keyed Tryz.prog 162:=Keyed.of_law (deep_law_laid qb4 (m:=3) (by omega) (of_decide_eq_true (by kernel_rfl)) (by kernel_rfl) (by kernel_rfl))
theorem q9y:∃n,Tryz.prog.types.size+1=n+2:=⟨Tryz.prog.types.size-1,by have:0<Tryz.prog.types.size:=of_decide_eq_true (by kernel_rfl);omega⟩
theorem q8Q:Tryz.prog.cellsOf 162=4:=by kernel_rfl
theorem qaP:Tryz.prog.cellsOf 53=1:=by kernel_rfl
theorem qaR:Tryz.prog.cellsOf 5=1:=by kernel_rfl
theorem q8P:Tryz.prog.cellsOf 3=1:=by kernel_rfl
theorem q2L(x:It)(h:ItOk x):keyOf Tryz.prog 162 (itV x)=some (klI x):=by
 obtain⟨h1,h2,h3,h4,h5,h6⟩:=h;obtain⟨n,hn⟩:=q9y;have w1:(Lit.int .u8 (x.op:Int)).wf=true:=WalkArith.wf_u8 (by omega)
 have w2:(Lit.int .u8 (x.p:Int)).wf=true:=WalkArith.wf_u8 (by omega)
 have w3:(Lit.int .i64 x.a).wf=true:=WalkArith.wf_i64 (by omega)
 have w4:(Lit.int .i64 x.b).wf=true:=WalkArith.wf_i64 (by omega)
 unfold keyOf itV klI;rw[Tryz.underlying162,hn];simp[q6T,Value.formed,Tryz.underlying162,q8Q,Value.cells,Program.keyLits,qaP,qaR,q8P,Tryz.underlying53,Tryz.underlying5,Tryz.underlying3,w1,w2,w3,w4]
theorem qhT{x y:It}(h:itV x=itV y):x=y:=by
 unfold itV at h;obtain⟨a,b,c,d⟩:=x;obtain⟨a',b',c',d'⟩:=y;simp at h
 obtain⟨h1,h2,h3,h4⟩:=h;simp only[It.mk.injEq]
 omega
theorem q5N{x y:It}(hx:ItOk x)(hy:ItOk y)(h:klI x=klI y):x=y :=
 qhT (q3I.inj (q2L x hx) (by rw[h];exact q2L y hy))
theorem q9P(x:It):WideAt.IsKeyLit (klI x):=trivial
def NumOf (w:World) (b n:Nat) (f:It->Option Nat):Prop :=
 ∃D:DataW Unit,w.ownsMap Tryz.prog 162 (plainElem Tryz.prog 3) b n D/\Tidy D/\Maps.size D=n/\∀x,ItOk x->has D (klI x)=(f x).isSome/\∀j,f x=some j->D.atKey (klI x) (.lit (.int .i64 0))=.lit (.int .i64 (j:Int))
theorem NumOf.lt{w:World}{b n:Nat}{f:It->Option Nat}(h:NumOf w b n f):b<w.heap.size:=by
 obtain⟨D,h,_⟩:=h;exact h.lt
theorem NumOf.far{w w':World}{b n:Nat}{f:It->Option Nat}(h:NumOf w b n f)(hb:w'.heap[b]? =w.heap[b]?):NumOf w' b n f:=by
 obtain⟨D,⟨es,clock,h1,h2⟩,r⟩:=h;exact⟨D,⟨es,clock,hb.trans h1,h2⟩,r⟩
theorem NumOf.isMap{w:World}{b n:Nat}{f:It->Option Nat}(h:NumOf w b n f):∃es c,w.heap[b]? =some (.map es c):=by
 obtain⟨D,⟨es,clock,h1,h2⟩,r⟩:=h;exact⟨es,clock,h1⟩
theorem NumOf.alike{w:World}{b n:Nat}{f g:It->Option Nat}(h:NumOf w b n f)(hg:∀x,ItOk x->f x=g x):NumOf w b n g:=by
 obtain⟨D,h1,h2,h3,h4⟩:=h;exact⟨D,h1,h2,h3,fun x hx=>by rw[<-hg x hx];exact h4 x hx⟩
theorem qcM(w:World):NumOf (w.alloc (.map #[] 0)) w.heap.size 0 (fun _=>none) :=
 ⟨.map [],World.ownsMap_made _ _ _ _,tidy_empty,rfl,fun x _=>⟨rfl,fun j hj=>by cases hj⟩⟩
theorem qci(w:World):(zeroValue 3).run Tryz.prog w=.ok (.int .i64 0) w:=by kernel_rfl
theorem NumOf.look{w:World}{b n:Nat}{f:It->Option Nat}(h:NumOf w b n f){x:It}(hx:ItOk x):
  (Instr.lookup 123 (.map (some b)) (itV x) true).run Tryz.prog w=.ok (.tuple #[.int .i64 (((f x).getD 0:Nat):Int),.bool (f x).isSome]) w:=by
 obtain⟨D,h1,h2,h3,h4⟩:=h;obtain⟨hh,ha⟩:=h4 x hx;obtain⟨v,ps,hrun,hv⟩:=h1.look_ok q3I Tryz.underlying123 (qci w) (plainElem_int Tryz.underlying3 (by decide)) (q2L x hx)
 obtain⟨c,rfl,hc,hwc⟩:=plainElem_int_inv Tryz.underlying3 hv;have hc':D.atKey (klI x) (.lit (.int .i64 0))=.lit (.int .i64 c):=congrArg Prod.fst hc;rw[hrun,hh]
 cases hf:f x with
 |none=>
  rw[hf]at hh;rw[atKey_of_not_has hh]at hc';injection hc' with hc';injection hc' with _ hc';subst hc'
  rfl
 |some j=>
  rw[ha j hf]at hc';injection hc' with hc';injection hc' with _ hc';subst hc'
  rfl
theorem NumOf.put{w:World}{b n:Nat}{f:It->Option Nat}(h:NumOf w b n f)(hn:n<=100000000){x:It}(hx:ItOk x)(hf:f x=none)(j:Nat)(hj:j<=100000000):
  ∃w',(Instr.mapUpdate 123 (.map (some b)) (itV x) (.int .i64 (j:Int))).run Tryz.prog w=.ok () w'/\NumOf w' b (n+1) (fun y=>if y=x then some j else f y)/\w.grownBy w' (some b):=by
 obtain⟨D,h1,h2,h3,h4⟩:=h;obtain⟨hh,_⟩:=h4 x hx;rw[hf]at hh;obtain⟨w',hrun,hown,hg⟩:=h1.update q3I Tryz.underlying123 (by unfold maxLen;omega) (q2L x hx) (plainElem_int (a:=(j:Int)) Tryz.underlying3 (WalkArith.wf_i64 (by omega)))
 refine⟨w',hrun,⟨_,hown,h2.put (q9P x) _,?_,fun y hy=>?_⟩,hg⟩
 ·rw[size_put h2,hh,h3];rfl
 ·dsimp only
  by_cases e:y=x
  ·subst e
   rw[if_pos rfl];refine⟨has_put_same h2.isMap (q9P y) _,fun i hi=>?_⟩
   injection hi with hi;subst hi;exact atKey_put_same h2.isMap (q9P y) _ _
  ·have ne:klI y≠klI x:=fun he=>e (q5N hy hx he)
   rw[if_neg e,has_put_other ne];refine⟨(h4 y hy).1,fun i hi=>?_⟩
   rw[atKey_put_other ne];exact(h4 y hy).2 i hi
theorem NumOf.drop{w:World}{b n:Nat}{f:It->Option Nat}(h:NumOf w b n f){x:It}(hx:ItOk x)(hf:(f x).isSome=true)(ty:TypeId):
  ∃w',(Builtin.delete_ #[123,162] ty #[.map (some b),itV x]).run Tryz.prog w=.ok (.tuple #[]) w'/\NumOf w' b (n-1) (fun y=>if y=x then none else f y)/\w.grownBy w' (some b):=by
 obtain⟨D,h1,h2,h3,h4⟩:=h;obtain⟨hh,_⟩:=h4 x hx;rw[hf]at hh;obtain⟨w',hrun,hown,ht⟩:=h1.drop q3I Tryz.underlying123 (q2L x hx) ty
 have hsz:Maps.size (D.del (klI x))=n-1:=by
  have:=size_del (k:=klI x) h2
  rw[hh]at this;simp at this
  omega
 have hown':w'.ownsMap Tryz.prog 162 (plainElem Tryz.prog 3) b (n-1) (D.del (klI x)):=by
  obtain⟨es,clock,g1,g2,g3,g4⟩:=hown;refine⟨es,clock,g1,g2,?_,g4⟩
  rw[<-hsz,g4];simp[Maps.size,length_sorted]
 refine⟨w',hrun,⟨_,hown',h2.del _,hsz,fun y hy=>?_⟩,ht.grown⟩
 dsimp only
 by_cases e:y=x
 ·subst e
  rw[if_pos rfl];exact⟨has_del_same,fun i hi=>by cases hi⟩
 ·have ne:klI y≠klI x:=fun he=>e (q5N hy hx he)
  rw[if_neg e,has_del_other ne];refine⟨(h4 y hy).1,fun i hi=>?_⟩
  rw[atKey_del_other ne];exact(h4 y hy).2 i hi
def encI (l:List It):List Value:=l.flatMap fun x=>[.int .u8 (x.op:Int),.int .u8 (x.p:Int),.int .i64 x.a,.int .i64 x.b]
theorem qaf(x:It)(l:List It):encI (x::l)=.int .u8 (x.op:Int) :: .int .u8 (x.p:Int) :: .int .i64 x.a :: .int .i64 x.b::encI l:=rfl
theorem q6K(xs ys:List It):encI (xs++ys)=encI xs++encI ys:=by simp[encI]
theorem q7b:∀l:List It,(encI l).length=l.length*4
 | []=>rfl
 |t::ts=>by rw[qaf];simp[q7b ts];omega
theorem q4Z:∀(l:List It) (k:Nat) (h:k<l.length),(encI l)[4*k]? =some (.int .u8 (l[k].op:Int))/\(encI l)[4*k+1]? =some (.int .u8 (l[k].p:Int))/\(encI l)[4*k+2]? =some (.int .i64 l[k].a)/\(encI l)[4*k+3]? =some (.int .i64 l[k].b)
 | [],k,h=>absurd h (by simp)
 |t::ts,0,_=>⟨rfl,rfl,rfl,rfl⟩
 |t::ts,k+1,h=>by
  have:=q4Z ts k (by simpa using h)
  rw[qaf,show 4*(k+1)=4*k+1+1+1+1 by omega,show 4*k+1+1+1+1+1=(4*k+1)+1+1+1+1 by omega,show 4*k+1+1+1+1+2=(4*k+2)+1+1+1+1 by omega,show 4*k+1+1+1+1+3=(4*k+3)+1+1+1+1 by omega]
  simpa using this
theorem qfg(l:List It)(n:Nat):(encI l).take (n*4)=encI (l.take n):=by
 by_cases h:n<=l.length
 ·have e:encI l=encI (l.take n)++encI (l.drop n):=by rw[<-q6K,List.take_append_drop]
  have hl:(encI (l.take n)).length=n*4:=by rw[q7b,List.length_take,Nat.min_eq_left h]
  rw[e,<-hl,List.take_left]
 ·rw[List.take_of_length_le (by rw[q7b];omega),List.take_of_length_le (by omega)]
theorem qcv(x:It):∀u∈encI [x],u.oneCell'=true:=by
 intro u hu;simp[encI]at hu
 rcases hu with rfl|rfl|rfl|rfl<;>rfl
theorem q1L:(Tryz.prog.info? 162).map (·.size)=some 4:=by kernel_rfl
theorem qaW:(Tryz.prog.info? 162).map (fun i=>(i.zero,i.size,i.bytes))=some (some (.agg #[.int .u8 0,.int .u8 0,.int .i64 0,.int .i64 0]),4,24):=by kernel_rfl
def posI (items:List It) (x:It):Option Nat:=items.findIdx? (· = x)
theorem q2J{items:List It}(hn:items.Nodup){x:It}{j:Nat}:posI items x=some j↔items[j]? =some x:=by
 unfold posI;rw[List.findIdx?_eq_some_iff_getElem,List.getElem?_eq_some_iff]
 constructor
 ·rintro⟨hj,h,_⟩
  exact⟨hj,by simpa using h⟩
 ·rintro⟨hj,h⟩
  refine⟨hj,by simpa using h,fun i hi=>?_⟩
  intro he;have he':items[i]=x:=by simpa using he
  have:=(List.getElem_inj hn).1 (he'.trans h.symm)
  omega
theorem q1R{items:List It}{x:It}:posI items x=none↔x ∉ items:=by
 unfold posI;rw[List.findIdx?_eq_none_iff]
 constructor
 ·intro h hx
  simpa using h x hx
 ·intro h y hy
  simp
  rintro rfl
  exact h hy
theorem qij{items:List It}{x:It}{j:Nat}(h:posI items x=some j):j<items.length:=by
 unfold posI at h;exact(List.findIdx?_eq_some_iff_getElem.1 h).1
structure TabI (w:World) (F:Nat->Prop) (t:Nat) (items:List It):Prop where
 nd:items.Nodup
 few:items.length<=4096
 ok:∀x∈items,ItOk x
 ex:∃v mb,w.heap[t]? =some (.cells #[tbV t,v,.map (some mb)] 205 (0,0))/\w.ownsRow 0 162 4 v items.length (encI items)/\NumOf w mb items.length (posI items)/\∀k,F k↔(k=t\/k=mb\/v.ownBlock=some k)
theorem TabI.lt{w:World}{F:Nat->Prop}{t:Nat}{items:List It}(h:TabI w F t items):∀k,F k->k<w.heap.size:=by
 obtain⟨v,mb,h1,h2,h3,h4⟩:=h.ex;intro k hk;rcases (h4 k).1 hk with rfl|rfl|hk
 ·exact(aes h1).1
 ·exact h3.lt
 ·exact qS h2 k hk
theorem qs{w w':World}{base e size n:Nat}{v:Value}{xs:List Value}(h:w.ownsRow base e size v n xs)(hb:∀k,v.ownBlock=some k->w'.heap[k]? =w.heap[k]?):w'.ownsRow base e size v n xs:=by
 obtain⟨hl,h⟩:=h;refine⟨hl,h.imp id ?_⟩
 rintro⟨g,cap,cur,rfl,hg,hcell,r⟩
 exact⟨g,cap,cur,rfl,hg,(hb g rfl).trans hcell,r⟩
theorem TabI.far{w w':World}{F:Nat->Prop}{t:Nat}{items:List It}(h:TabI w F t items)(hb:∀k,F k->w'.heap[k]? =w.heap[k]?):TabI w' F t items:=by
 obtain⟨v,mb,h1,h2,h3,h4⟩:=h.ex;exact⟨h.nd,h.few,h.ok,v,mb,(hb t ((h4 t).2 (Or.inl rfl))).trans h1,qs h2 (fun k hk=>hb k ((h4 k).2 (Or.inr (Or.inr hk)))),h3.far (hb mb ((h4 mb).2 (Or.inr (Or.inl rfl)))),h4⟩
theorem TabI.up{w w':World}{F:Nat->Prop}{t:Nat}{items:List It}(h:TabI w F t items)(hb:Below w.heap.size w w'):TabI w' F t items:=h.far fun k hk=>hb.block k (h.lt k hk)
theorem Fr.same{w w':World}{F:Nat->Prop}(hb:Below w.heap.size w w'):Fr w w' F F:=⟨hb.os,hb.tape,hb.output,hb.size,fun k hk _=>hb.block k hk,fun _ hk=>Or.inl hk⟩
structure TabR (w:World) (t:Nat) (a:Option Addr) (n cap mb:Nat) (items:List It):Prop where
 hn:items.length=n
 hc:n<=cap
 bd:cap<=maxLen
 nn:a=none->cap=0
 blk:w.heap[t]? =some (.cells #[tbV t,.slice a n cap,.map (some mb)] 205 (0,0))
 row:w.ownsRow 0 162 4 (.slice a n cap) n (encI items)
 num:NumOf w mb n (posI items)
theorem TabI.read{w:World}{F:Nat->Prop}{t:Nat}{items:List It}(h:TabI w F t items):∃a cap mb,TabR w t a items.length cap mb items/\∀k,F k↔(k=t\/k=mb\/(Value.slice a items.length cap).ownBlock=some k):=by
 obtain⟨v,mb,h1,h2,h3,h4⟩:=h.ex;rcases h2.2 with⟨rfl,e0⟩|⟨g,cap,cur,rfl,_,_,hnc,hcm,_⟩
 ·obtain rfl:items=[]:=List.eq_nil_of_length_eq_zero e0
  exact⟨none,0,mb,⟨rfl,nlr,Nat.zero_le _,fun _=>rfl,h1,h2,h3⟩,h4⟩
 ·exact⟨some ⟨g,0,none⟩,cap,mb,⟨rfl,hnc,hcm,fun e=>(by cases e),h1,h2,h3⟩,h4⟩
theorem TabR.c0{w:World}{t n cap mb:Nat}{a:Option Addr}{items:List It}(h:TabR w t a n cap mb items):w.cell? ⟨t,0,none⟩=some (.pointer (some ⟨t,0,none⟩)):=qb h.blk 0
theorem TabR.c1{w:World}{t n cap mb:Nat}{a:Option Addr}{items:List It}(h:TabR w t a n cap mb items):w.cell? ⟨t,1,none⟩=some (.slice a n cap):=qb h.blk 1
theorem TabR.c2{w:World}{t n cap mb:Nat}{a:Option Addr}{items:List It}(h:TabR w t a n cap mb items):w.cell? ⟨t,2,none⟩=some (.map (some mb)):=qb h.blk 2
theorem q1c{P:Program}{e:TypeId}{s:Nat}(h:(P.info? e).map (·.size)=some s)(w:World):(sizeOf e).run P w=.ok s w:=by
 cases hq:P.info? e with
 |none=>simp[hq]at h
 |some i=>simp[hq]at h;simp[sizeOf,typeInfo,hq,h]
theorem TabR.at{w:World}{t n cap mb:Nat}{a:Option Addr}{items:List It}(h:TabR w t a n cap mb items)(k:Nat)(hk:k<items.length):
  ∃g o,(∀w',(Instr.indexAt 122 (.slice a n cap) (.int .i64 (k:Int))).run Tryz.prog w'=.ok (.pointer (some ⟨g,o,none⟩)) w')/\w.cell? ⟨g,o,none⟩=some (.int .u8 (items[k].op:Int))/\w.cell? ⟨g,o+1,none⟩=some (.int .u8 (items[k].p:Int))/\w.cell? ⟨g,o+2,none⟩=some (.int .i64 items[k].a)/\w.cell? ⟨g,o+3,none⟩=some (.int .i64 items[k].b):=by
 have hn:=h.hn;rcases h.row.2 with⟨e,e0⟩|⟨g,cap',cur,e,_,hcell,hnc,_,hsz,htk⟩
 ·omega
 ·injection e with e1 _ e3
  subst e1 e3
  have key:∀j,j<n*4->w.cell? ⟨g,j,none⟩=(encI items)[j]? := fun j hj=>by
   rw[<-htk,List.getElem?_take,if_pos hj];simp[World.cell?,hcell]
  have hkn:k<n:=by omega
  obtain⟨q0,q1,q2,q3⟩:=q4Z items k hk;refine⟨g,4*k,fun w'=>?_,?_,?_,?_,?_⟩
  ·simp[Instr.indexAt,run_underlying Tryz.underlying122,asIntOf,q1c q1L,hkn,Result.andThen,go_sem,qg,Nat.mul_comm]
  ·rw[key _ (by omega)];exact q0
  ·rw[key _ (by omega)];exact q1
  ·rw[key _ (by omega)];exact q2
  ·rw[key _ (by omega)];exact q3
theorem q8f(op:Nat)(w:World)(hop:op<=23)(h3:op≠3)(h9:op≠9)(h10:op≠10):Calls Tryz.prog 157 #[.int .u8 (op:Int)] w fun e w'=>e=.returned (.int .i64 (takO op:Int))/\w'=w:=by
 rcases q2y hop with rfl|rfl|rfl|rfl|rfl|rfl|rfl|rfl|rfl|rfl|rfl|rfl|rfl|rfl|rfl|rfl|rfl|rfl|rfl|rfl|rfl|rfl|rfl|rfl<;>first|exact absurd rfl h3|exact absurd rfl h9|exact absurd rfl h10 |
 ·go_enter Tryz.func157,Tryz.ntmps157
  go_wp2;go_ret
  exact⟨rfl,rfl⟩
theorem qce : ∃ j, Tryz.prog.info? 205 = some j := by
  cases h : Tryz.prog.info? 205 with
  |some j=> exact ⟨j, rfl⟩
  | none => exact absurd h (by have : (Tryz.prog.info? 205).isSome = true := by kernel_rfl
                               intro e; rw [e] at this; cases this)
theorem qbl(a:Addr)(w:World):(binOp .eql 178 (.pointer (some a)) (.pointer (some a))).run Tryz.prog w=.ok (.bool true) w:=by
 obtain⟨j,hj⟩:=qce;exact run_eql_ptr_same w a Tryz.underlying178 hj
theorem q3s{w:World}{t n cap mb:Nat}{a:Option Addr}{items:List It}(h:TabR w t a n cap mb items):Calls Tryz.prog 143 #[.pointer (some ⟨t,0,none⟩)] w fun e w'=>e=.returned (.bool true)/\w'=w:=by
 have c0:=h.c0;have hp:=fun w=>qbl ⟨t,0,none⟩ w
 clear h;go_enter Tryz.func143,Tryz.ntmps143
 go_wp2;go_ret
 exact⟨rfl,rfl⟩
theorem qhg(w:World)(t:Nat)(ht:t=w.heap.size+1):TabI ((w.alloc (.map #[] 0)).alloc (.cells #[.pointer (some ⟨t,0,none⟩),.slice none 0 0,.map (some w.heap.size)] 205)) (fun k=>k=t\/k=w.heap.size) t []:=by
 have h1:((w.alloc (.map #[] 0)).alloc (.cells #[.pointer (some ⟨t,0,none⟩),.slice none 0 0,.map (some w.heap.size)] 205)).heap[t]? =some (.cells #[.pointer (some ⟨t,0,none⟩),.slice none 0 0,.map (some w.heap.size)] 205 (0,0)):=by
  have:=(mha (w.alloc (.map #[] 0)) (.cells #[.pointer (some ⟨t,0,none⟩),.slice none 0 0,.map (some w.heap.size)] 205)).1
  rw[show (w.alloc (.map #[] 0)).heap.size=t by simp;omega]at this
  exact this
 have h2:NumOf ((w.alloc (.map #[] 0)).alloc (.cells #[.pointer (some ⟨t,0,none⟩),.slice none 0 0,.map (some w.heap.size)] 205)) w.heap.size 0 (posI []):=((qcM w).far ((qc (w.alloc (.map #[] 0)) _).block w.heap.size (by simp))).alike fun x _=>rfl
 refine⟨by simp,by simp,fun x hx=>(by simp at hx),.slice none 0 0,w.heap.size,h1,⟨rfl,Or.inl ⟨rfl,rfl⟩⟩,h2,fun k=>?_⟩
 constructor
 ·rintro (h|h)
  ·exact Or.inl h
  ·exact Or.inr (Or.inl h)
 ·rintro (h|h|h)
  ·exact Or.inl h
  ·exact Or.inr h
  ·cases h
theorem qbw(w:World):Calls Tryz.prog 118 #[] w fun e w'=>∃t F,e=.returned (tbV t)/\TabI w' F t []/\(∀k,F k->w.heap.size<=k)/\Below w.heap.size w w':=by
 have hmm:=@run_makeMap Tryz.prog;go_enter Tryz.func118,Tryz.ntmps118
 go_wp2;go_ret
 refine⟨w.heap.size+1,_,rfl,qhg w _ rfl,fun k hk=>?_,?_⟩
 ·rcases hk with rfl|rfl
  ·omega
  ·exact Nat.le_refl _
 ·exact qd (qc w _) (qc _ _)
theorem qbv{w:World}{F:Nat->Prop}{t:Nat}{items:List It}(h:TabI w F t items):Calls Tryz.prog 120 #[.pointer (some ⟨t,0,none⟩)] w fun e w'=>e=.returned (.int .i64 (items.length:Int))/\w'=w:=by
 obtain⟨a,cap,mb,hr,_⟩:=h.read;have c1:=hr.c1;have hm:=q3s hr;clear h hr;go_enter Tryz.func120,Tryz.ntmps120
 go_wp2_with (go_at_call 143;refine hm.mono ?_;rintro e w' ⟨rfl,rfl⟩)
 go_ret
 exact⟨rfl,rfl⟩
theorem qcg{w:World}{t n cap mb:Nat}{a:Option Addr}{items:List It}(h:TabR w t a n cap mb items)(i:Nat)(hi:i<n):Calls Tryz.prog 148 #[.pointer (some ⟨t,0,none⟩),.int .i64 (i:Int)] w fun e w'=>e=.returned (.int .i64 0)/\w'=w:=by
 have c1:=h.c1;have hm:=q3s h;have h1:¬(n:Int)<=(i:Int):=by omega
 have h2:¬(i:Int)<0:=by omega
 clear h;go_enter Tryz.func148,Tryz.ntmps148
 go_wp2_with (go_at_call 143;refine hm.mono ?_;rintro e w' ⟨rfl,rfl⟩)
 go_ret
 exact⟨rfl,rfl⟩
theorem TabR.up{w w':World}{t n cap mb:Nat}{a:Option Addr}{items:List It}(h:TabR w t a n cap mb items)(hb:Below w.heap.size w w'):TabR w' t a n cap mb items :=
 ⟨h.hn,h.hc,h.bd,h.nn,(hb.block t (aes h.blk).1).trans h.blk,q1b h.row hb,h.num.far (hb.block mb h.num.lt)⟩
theorem q9C{w:World}{F:Nat->Prop}{t:Nat}{items:List It}(h:TabI w F t items)(i:Nat)(x:It)(hx:items[i]? =some x):Calls Tryz.prog 121 #[.pointer (some ⟨t,0,none⟩),.int .i64 (i:Int)] w fun e w'=>e=.returned (.tuple #[itV x,.int .i64 0])/\Below w.heap.size w w':=by
 obtain⟨a,cap,mb,hr,_⟩:=h.read;obtain⟨hi,rfl⟩:=List.getElem?_eq_some_iff.1 hx;have hb:=qc w (.cells #[.int .u8 0,.int .u8 0,.int .i64 0,.int .i64 0] 162);have hr1:=hr.up hb;have c1:=hr1.c1;have hf:=qcg hr1 i hi;obtain⟨g,o,hio,q0,q1,q2,q3⟩:=hr1.at i hi;generalize items[i]=x at *;obtain⟨op,p,xa,xb⟩:=x;dsimp only at q0 q1 q2 q3
 clear h hr hr1;go_enter Tryz.func121,Tryz.ntmps121
 go_wp2_with (go_at_call 148;refine hf.mono ?_;rintro e w' ⟨rfl,rfl⟩)
 refine bodyPost_ret (v:=.tuple #[.agg #[.int .u8 (op:Int),.int .u8 (p:Int),.int .i64 xa,.int .i64 xb],.int .i64 0]) (by simp[results,Tryz.results121,go_sem]) rfl ⟨rfl,qc _ _⟩
def NsSl (w:World) (a:Option Addr) (len cap:Nat) (ns:List Nat):Prop:=IntSl Tryz.prog 29 .i64 w a len cap (ns.map fun n:Nat=>(n:Int))
theorem NsSl.at{w:World}{a:Option Addr}{len cap:Nat}{ns:List Nat}(h:NsSl w a len cap ns)(k:Nat)(hk:k<ns.length):∃g o s,(∀w',(Instr.indexAt 29 (.slice a len cap) (.int .i64 (k:Int))).run Tryz.prog w'=.ok (.pointer (some ⟨g,o,s⟩)) w')/\w.cell? ⟨g,o,s⟩=some (.int .i64 (ns[k]:Int)):=by
 have hl:=h.hlen;rw[List.length_map]at hl;have h1:=fun w'=>h.idx len k w' (by omega) nlr
 have h2:=h.cell k (by omega)
 rw[show (ns.map fun n:Nat=>(n:Int)).getD k 0=(ns[k]:Int) by simp[List.getD,hk]]at h2
 generalize adOf a k=y at *;obtain⟨g,o,s⟩:=y;exact⟨g,o,s,h1,h2⟩
theorem NsSl.up{w w':World}{a:Option Addr}{len cap:Nat}{ns:List Nat}(h:NsSl w a len cap ns)(hb:Below w.heap.size w w'):NsSl w' a len cap ns:=IntSl.up h hb
theorem q78(op p:Nat)(a:Option Addr)(len cap:Nat)(ns:List Nat)(w:World)(hN:NsSl w a len cap ns)(hl:len<=2):Calls Tryz.prog 158 #[.agg #[.int .u8 (op:Int),.int .u8 (p:Int)],.slice a len cap] w fun e w'=>e=.returned (itV (itemOf (op,p) ns))/\Below w.heap.size w w':=by
 have hlen:ns.length=len:=by have:=hN.hlen;rwa [List.length_map]at this
 subst hlen;have hb:∀u v:Int,Below w.heap.size w (((w.alloc (.cells #[.int .u8 (op:Int),.int .u8 (p:Int)] 90)).alloc (.cells #[.int .u8 0,.int .u8 0,.int .i64 0,.int .i64 0] 162)).alloc (.cells #[.int .u8 (op:Int),.int .u8 (p:Int),.int .i64 u,.int .i64 v] 162)):=fun u v=>qd (qd (qc w _) (qc _ _)) (qc _ _)
 have fin:∀u v:Int,Below w.heap.size w (((w.alloc (.cells #[.int .u8 (op:Int),.int .u8 (p:Int)] 90)).alloc (.cells #[.int .u8 (op:Int),.int .u8 (p:Int),.int .i64 u,.int .i64 v] 162)).alloc (.cells #[.int .u8 (op:Int),.int .u8 (p:Int),.int .i64 u,.int .i64 v] 162)):=fun u v=>qd (qd (qc w _) (qc _ _)) (qc _ _)
 match ns,hl,hN with
 | [],_,hN=>
  clear hN hb;go_enter Tryz.func158,Tryz.ntmps158
  go_wp2;refine bodyPost_ret (v:=.agg #[.int .u8 (op:Int),.int .u8 (p:Int),.int .i64 (-1),.int .i64 (-1)]) (by simp[results,Tryz.results158,go_sem]) rfl ⟨rfl,fin _ _⟩
 | [x],_,hN=>
  obtain⟨g,o,s,hi,hc⟩:=(hN.up (hb (-1) (-1))).at 0 (by simp)
  have hi':∀w',(Instr.indexAt 29 (.slice a 1 cap) (.int .i64 0)).run Tryz.prog w'=.ok (.pointer (some ⟨g,o,s⟩)) w':=hi;dsimp only[List.getElem_cons_zero]at hc
  clear hN hb hi;go_enter Tryz.func158,Tryz.ntmps158
  go_wp2;refine bodyPost_ret (v:=.agg #[.int .u8 (op:Int),.int .u8 (p:Int),.int .i64 (x:Int),.int .i64 (-1)]) (by simp[results,Tryz.results158,go_sem]) rfl ⟨rfl,fin _ _⟩
 | [x,y],_,hN=>
  obtain⟨g,o,s,hi,hc⟩:=(hN.up (hb (-1) (-1))).at 0 (by simp)
  obtain⟨g2,o2,s2,hi2,hc2⟩:=(hN.up (hb x (-1))).at 1 (by simp)
  have hi':∀w',(Instr.indexAt 29 (.slice a 2 cap) (.int .i64 0)).run Tryz.prog w'=.ok (.pointer (some ⟨g,o,s⟩)) w':=hi;have hi2':∀w',(Instr.indexAt 29 (.slice a 2 cap) (.int .i64 1)).run Tryz.prog w'=.ok (.pointer (some ⟨g2,o2,s2⟩)) w':=hi2;dsimp only[List.getElem_cons_zero,List.getElem_cons_succ]at hc hc2
  clear hN hb hi hi2;go_enter Tryz.func158,Tryz.ntmps158
  go_wp2;refine bodyPost_ret (v:=.agg #[.int .u8 (op:Int),.int .u8 (p:Int),.int .i64 (x:Int),.int .i64 (y:Int)]) (by simp[results,Tryz.results158,go_sem]) rfl ⟨rfl,fin _ _⟩
 |_::_::_::_,h,_=>simp at h
def SOk (x:ByteArray):Prop:=x.size<=100000000
def klS (x:ByteArray):Lit:=.string x.data.toList
theorem q4h:Keyed Tryz.prog 9:=string_keyed Tryz.underlying9
theorem q4R(x:ByteArray)(h:SOk x):keyOf Tryz.prog 9 (.string x)=some (klS x):=WideMaps.keyOf_string_mk Tryz.underlying9 (by unfold SOk at h;unfold maxLen;omega)
theorem qdZ{x y:ByteArray}(h:klS x=klS y):x=y:=by
 injection h with h;obtain⟨⟨x⟩⟩:=x;obtain⟨⟨y⟩⟩:=y;simp at h
 rw[h]
theorem q9R(x:ByteArray):WideAt.IsKeyLit (klS x):=trivial
def NumS (w:World) (b n:Nat) (f:ByteArray->Option Nat):Prop :=
 ∃D:DataW Unit,w.ownsMap Tryz.prog 9 (plainElem Tryz.prog 3) b n D/\Tidy D/\Maps.size D=n/\∀x,SOk x->has D (klS x)=(f x).isSome/\∀j,f x=some j->D.atKey (klS x) (.lit (.int .i64 0))=.lit (.int .i64 (j:Int))
theorem NumS.lt{w:World}{b n:Nat}{f:ByteArray->Option Nat}(h:NumS w b n f):b<w.heap.size:=by
 obtain⟨D,h,_⟩:=h;exact h.lt
theorem NumS.far{w w':World}{b n:Nat}{f:ByteArray->Option Nat}(h:NumS w b n f)(hb:w'.heap[b]? =w.heap[b]?):NumS w' b n f:=by
 obtain⟨D,⟨es,clock,h1,h2⟩,r⟩:=h;exact⟨D,⟨es,clock,hb.trans h1,h2⟩,r⟩
theorem NumS.isMap{w:World}{b n:Nat}{f:ByteArray->Option Nat}(h:NumS w b n f):∃es c,w.heap[b]? =some (.map es c):=by
 obtain⟨D,⟨es,clock,h1,h2⟩,r⟩:=h;exact⟨es,clock,h1⟩
theorem NumS.alike{w:World}{b n:Nat}{f g:ByteArray->Option Nat}(h:NumS w b n f)(hg:∀x,SOk x->f x=g x):NumS w b n g:=by
 obtain⟨D,h1,h2,h3,h4⟩:=h;exact⟨D,h1,h2,h3,fun x hx=>by rw[<-hg x hx];exact h4 x hx⟩
theorem qau(w:World):NumS (w.alloc (.map #[] 0)) w.heap.size 0 (fun _=>none) :=
 ⟨.map [],World.ownsMap_made _ _ _ _,tidy_empty,rfl,fun x _=>⟨rfl,fun j hj=>by cases hj⟩⟩
theorem qby(w:World):(zeroValue 3).run Tryz.prog w=.ok (.int .i64 0) w:=by kernel_rfl
theorem NumS.look{w:World}{b n:Nat}{f:ByteArray->Option Nat}(h:NumS w b n f){x:ByteArray}(hx:SOk x):
  (Instr.lookup 76 (.map (some b)) (.string x) true).run Tryz.prog w=.ok (.tuple #[.int .i64 (((f x).getD 0:Nat):Int),.bool (f x).isSome]) w:=by
 obtain⟨D,h1,h2,h3,h4⟩:=h;obtain⟨hh,ha⟩:=h4 x hx;obtain⟨v,ps,hrun,hv⟩:=h1.look_ok q4h Tryz.underlying76 (qby w) (plainElem_int Tryz.underlying3 (by decide)) (q4R x hx)
 obtain⟨c,rfl,hc,hwc⟩:=plainElem_int_inv Tryz.underlying3 hv;have hc':D.atKey (klS x) (.lit (.int .i64 0))=.lit (.int .i64 c):=congrArg Prod.fst hc;rw[hrun,hh]
 cases hf:f x with
 |none=>
  rw[hf]at hh;rw[atKey_of_not_has hh]at hc';injection hc' with hc';injection hc' with _ hc';subst hc'
  rfl
 |some j=>
  rw[ha j hf]at hc';injection hc' with hc';injection hc' with _ hc';subst hc'
  rfl
theorem NumS.put{w:World}{b n:Nat}{f:ByteArray->Option Nat}(h:NumS w b n f)(hn:n<=4096){x:ByteArray}(hx:SOk x)(hf:f x=none)(j:Nat)(hj:j<=4096):
  ∃w',(Instr.mapUpdate 76 (.map (some b)) (.string x) (.int .i64 (j:Int))).run Tryz.prog w=.ok () w'/\NumS w' b (n+1) (fun y=>if y=x then some j else f y)/\w.grownBy w' (some b):=by
 obtain⟨D,h1,h2,h3,h4⟩:=h;obtain⟨hh,_⟩:=h4 x hx;rw[hf]at hh;obtain⟨w',hrun,hown,hg⟩:=h1.update q4h Tryz.underlying76 (by unfold maxLen;omega) (q4R x hx) (plainElem_int (a:=(j:Int)) Tryz.underlying3 (WalkArith.wf_i64 (by omega)))
 refine⟨w',hrun,⟨_,hown,h2.put (q9R x) _,?_,fun y hy=>?_⟩,hg⟩
 ·rw[size_put h2,hh,h3];rfl
 ·dsimp only
  by_cases e:y=x
  ·subst e
   rw[if_pos rfl];refine⟨has_put_same h2.isMap (q9R y) _,fun i hi=>?_⟩
   injection hi with hi;subst hi;exact atKey_put_same h2.isMap (q9R y) _ _
  ·have ne:klS y≠klS x:=fun he=>e (qdZ he)
   rw[if_neg e,has_put_other ne];refine⟨(h4 y hy).1,fun i hi=>?_⟩
   rw[atKey_put_other ne];exact(h4 y hy).2 i hi
theorem NumS.drop{w:World}{b n:Nat}{f:ByteArray->Option Nat}(h:NumS w b n f){x:ByteArray}(hx:SOk x)(hf:(f x).isSome=true)(ty:TypeId):
  ∃w',(Builtin.delete_ #[76,9] ty #[.map (some b),.string x]).run Tryz.prog w=.ok (.tuple #[]) w'/\NumS w' b (n-1) (fun y=>if y=x then none else f y)/\w.grownBy w' (some b):=by
 obtain⟨D,h1,h2,h3,h4⟩:=h;obtain⟨hh,_⟩:=h4 x hx;rw[hf]at hh;obtain⟨w',hrun,hown,ht⟩:=h1.drop q4h Tryz.underlying76 (q4R x hx) ty
 have hsz:Maps.size (D.del (klS x))=n-1:=by
  have:=size_del (k:=klS x) h2
  rw[hh]at this;simp at this
  omega
 have hown':w'.ownsMap Tryz.prog 9 (plainElem Tryz.prog 3) b (n-1) (D.del (klS x)):=by
  obtain⟨es,clock,g1,g2,g3,g4⟩:=hown;refine⟨es,clock,g1,g2,?_,g4⟩
  rw[<-hsz,g4];simp[Maps.size,length_sorted]
 refine⟨w',hrun,⟨_,hown',h2.del _,hsz,fun y hy=>?_⟩,ht.grown⟩
 dsimp only
 by_cases e:y=x
 ·subst e
  rw[if_pos rfl];exact⟨has_del_same,fun i hi=>by cases hi⟩
 ·have ne:klS y≠klS x:=fun he=>e (qdZ he)
  rw[if_neg e,has_del_other ne];refine⟨(h4 y hy).1,fun i hi=>?_⟩
  rw[atKey_del_other ne];exact(h4 y hy).2 i hi
theorem q7Q(op:Nat)(w:World)(hop:op<=23):Calls Tryz.prog 46 #[.int .u8 (op:Int)] w fun e w'=>e=.returned (.int .i64 (takO op:Int))/\w'=w:=by
 rcases q2y hop with rfl|rfl|rfl|rfl|rfl|rfl|rfl|rfl|rfl|rfl|rfl|rfl|rfl|rfl|rfl|rfl|rfl|rfl|rfl|rfl|rfl|rfl|rfl|rfl <;>
 ·go_enter Tryz.func46,Tryz.ntmps46
  go_wp2;go_ret
  exact⟨rfl,rfl⟩
theorem qX(k:Nat)(w:World)(hk:k<=2):Calls Tryz.prog 48 #[.int .u8 (k:Int),.int .u8 0] w fun e w'=>e=.returned (.bool (isN k 0))/\w'=w:=by
 have:k=0\/k=1\/k=2:=by omega
 rcases this with rfl|rfl|rfl <;>
 ·go_enter Tryz.func48,Tryz.ntmps48
  go_wp2;go_ret
  exact⟨rfl,rfl⟩
def KdSl (w:World) (a:Option Addr) (len cap:Nat) (ks:List Nat):Prop:=IntSl Tryz.prog 91 .u8 w a len cap (ks.map fun o:Nat=>(o:Int))
theorem q1I{w:World}{a:Option Addr}{cap x:Nat}{r:List Nat}{n:Nat}(h:KdSl w a (n+1) cap (x::r)):∃A,(∀w',(Instr.indexAt 91 (.slice a (n+1) cap) (.int .i64 0)).run Tryz.prog w'=.ok (.pointer (some A)) w')/\w.cell? A=some (.int .u8 (x:Int)):=⟨adOf a 0,fun w'=>IntSl.idx h (n+1) 0 w' (by omega) nlr,IntSl.cell h 0 (by omega)⟩
theorem q3l{w:World}{a:Option Addr}{cap x y:Nat}{r:List Nat}{n:Nat}(h:KdSl w a (n+2) cap (x::y::r)):∃A,(∀w',(Instr.indexAt 91 (.slice a (n+2) cap) (.int .i64 1)).run Tryz.prog w'=.ok (.pointer (some A)) w')/\w.cell? A=some (.int .u8 (y:Int)):=⟨adOf a 1,fun w'=>IntSl.idx h (n+2) 1 w' (by omega) nlr,IntSl.cell h 1 (by omega)⟩
theorem q1M(w:World):Calls Tryz.prog 48 #[.int .u8 0,.int .u8 0] w fun e w'=>e=.returned (.bool true)/\w'=w:=qX 0 w (by decide)
theorem q1N(w:World):Calls Tryz.prog 48 #[.int .u8 1,.int .u8 0] w fun e w'=>e=.returned (.bool true)/\w'=w:=qX 1 w (by decide)
theorem q1O(w:World):Calls Tryz.prog 48 #[.int .u8 2,.int .u8 0] w fun e w'=>e=.returned (.bool false)/\w'=w:=qX 2 w (by decide)
def PutR (op:Nat) (ks:List Nat) (w:World) (e:Ending) (w':World):Prop:=e=.returned (.tuple #[.int .u8 (kiMade op ks:Int),.bool (kiFit op ks)])/\∃m,w'=w.drewN m
theorem qdd(a:Option Addr)(n c:Nat)(w:World):Calls Tryz.prog 47 #[.int .u8 0,.slice a n c] w (PutR 0 [] w):=by
 go_enter Tryz.func47,Tryz.ntmps47
 go_wp2;go_ret2
 exact⟨rfl,0,rfl⟩
theorem qde(a:Option Addr)(n c:Nat)(w:World):Calls Tryz.prog 47 #[.int .u8 1,.slice a n c] w (PutR 1 [] w):=by
 go_enter Tryz.func47,Tryz.ntmps47
 go_wp2;go_ret2
 exact⟨rfl,0,rfl⟩
theorem qdf(a:Option Addr)(n c:Nat)(w:World):Calls Tryz.prog 47 #[.int .u8 2,.slice a n c] w (PutR 2 [] w):=by
 go_enter Tryz.func47,Tryz.ntmps47
 go_wp2;go_ret2
 exact⟨rfl,0,rfl⟩
theorem qdg(a:Option Addr)(n c:Nat)(w:World):Calls Tryz.prog 47 #[.int .u8 4,.slice a n c] w (PutR 4 [] w):=by
 go_enter Tryz.func47,Tryz.ntmps47
 go_wp2;go_ret2
 exact⟨rfl,0,rfl⟩
theorem qdh(a:Option Addr)(n c:Nat)(w:World):Calls Tryz.prog 47 #[.int .u8 5,.slice a n c] w (PutR 5 [] w):=by
 go_enter Tryz.func47,Tryz.ntmps47
 go_wp2;go_ret2
 exact⟨rfl,0,rfl⟩
theorem qdi(a:Option Addr)(c x:Nat)(w:World)(hx:x<=2)(h:KdSl w a 1 c [x]):Calls Tryz.prog 47 #[.int .u8 6,.slice a 1 c] w (PutR 6 [x] w):=by
 obtain⟨⟨g0,o0,s0⟩,i0,c0⟩:=q1I h;have hi:=fun w'=>qX x w' hx
 clear h;have:x=0\/x=1\/x=2:=by omega
 rcases this with rfl|rfl|rfl <;>
 ·clear hx
  go_enter Tryz.func47,Tryz.ntmps47
  go_wp2
  go_quiet (fail)
  go_wp2;go_ret2
  exact⟨rfl,by first|exact⟨0,rfl⟩|exact⟨_,rfl⟩⟩
theorem qdj(a:Option Addr)(c x:Nat)(w:World)(hx:x<=2)(h:KdSl w a 1 c [x]):Calls Tryz.prog 47 #[.int .u8 7,.slice a 1 c] w (PutR 7 [x] w):=by
 obtain⟨⟨g0,o0,s0⟩,i0,c0⟩:=q1I h;have hi:=fun w'=>qX x w' hx
 clear h;have:x=0\/x=1\/x=2:=by omega
 rcases this with rfl|rfl|rfl <;>
 ·clear hx
  go_enter Tryz.func47,Tryz.ntmps47
  go_wp2_with (go_at_call 48;refine (hi _).mono ?_;rintro e w' ⟨rfl,rfl⟩)
  go_ret2
  exact⟨rfl,by first|exact⟨0,rfl⟩|exact⟨_,rfl⟩⟩
theorem qdk(a:Option Addr)(c x:Nat)(w:World)(hx:x<=2)(h:KdSl w a 1 c [x]):Calls Tryz.prog 47 #[.int .u8 8,.slice a 1 c] w (PutR 8 [x] w):=by
 obtain⟨⟨g0,o0,s0⟩,i0,c0⟩:=q1I h;have hi:=fun w'=>qX x w' hx
 clear h;have:x=0\/x=1\/x=2:=by omega
 rcases this with rfl|rfl|rfl <;>
 ·clear hx
  go_enter Tryz.func47,Tryz.ntmps47
  go_wp2_with (go_at_call 48;refine (hi _).mono ?_;rintro e w' ⟨rfl,rfl⟩)
  go_ret2
  exact⟨rfl,by first|exact⟨0,rfl⟩|exact⟨_,rfl⟩⟩
theorem qbU(a:Option Addr)(c x:Nat)(w:World)(hx:x<=2)(h:KdSl w a 1 c [x]):Calls Tryz.prog 47 #[.int .u8 19,.slice a 1 c] w (PutR 19 [x] w):=by
 obtain⟨⟨g0,o0,s0⟩,i0,c0⟩:=q1I h;have hi:=fun w'=>qX x w' hx
 clear h;have:x=0\/x=1\/x=2:=by omega
 rcases this with rfl|rfl|rfl <;>
 ·clear hx
  go_enter Tryz.func47,Tryz.ntmps47
  go_wp2
  go_quiet (fail)
  go_wp2;go_ret2
  exact⟨rfl,by first|exact⟨0,rfl⟩|exact⟨_,rfl⟩⟩
theorem qbV(a:Option Addr)(c x:Nat)(w:World)(hx:x<=2)(h:KdSl w a 1 c [x]):Calls Tryz.prog 47 #[.int .u8 20,.slice a 1 c] w (PutR 20 [x] w):=by
 obtain⟨⟨g0,o0,s0⟩,i0,c0⟩:=q1I h;have hi:=fun w'=>qX x w' hx
 clear h;have:x=0\/x=1\/x=2:=by omega
 rcases this with rfl|rfl|rfl <;>
 ·clear hx
  go_enter Tryz.func47,Tryz.ntmps47
  go_wp2_with (go_at_call 48;refine (hi _).mono ?_;rintro e w' ⟨rfl,rfl⟩)
  go_ret2
  exact⟨rfl,by first|exact⟨0,rfl⟩|exact⟨_,rfl⟩⟩
theorem qbY(a:Option Addr)(c x:Nat)(w:World)(hx:x<=2)(h:KdSl w a 1 c [x]):Calls Tryz.prog 47 #[.int .u8 23,.slice a 1 c] w (PutR 23 [x] w):=by
 obtain⟨⟨g0,o0,s0⟩,i0,c0⟩:=q1I h;have hi:=fun w'=>qX x w' hx
 clear h;have:x=0\/x=1\/x=2:=by omega
 rcases this with rfl|rfl|rfl <;>
 ·clear hx
  go_enter Tryz.func47,Tryz.ntmps47
  go_wp2
  go_quiet (fail)
  go_wp2;go_ret2
  exact⟨rfl,by first|exact⟨0,rfl⟩|exact⟨_,rfl⟩⟩
theorem qbO(a:Option Addr)(c x y:Nat)(w:World)(hx:x<=2)(hy:y<=2)(h:KdSl w a 2 c [x,y]):Calls Tryz.prog 47 #[.int .u8 11,.slice a 2 c] w (PutR 11 [x,y] w):=by
 obtain⟨⟨g0,o0,s0⟩,i0,c0⟩:=q1I h;obtain⟨⟨g1,o1,s1⟩,i1,c1⟩:=q3l h;have h0:=q1M;have h1:=q1N;have h2:=q1O;clear h;have hxx:x=0\/x=1\/x=2:=by omega
 have hyy:y=0\/y=1\/y=2:=by omega
 rcases hxx with rfl|rfl|rfl<;>rcases hyy with rfl|rfl|rfl <;>
 ·clear hx hy
  go_enter Tryz.func47,Tryz.ntmps47
  go_wp2_with (go_at_call 48;(with_reducible first|refine (h0 _).mono ?_|refine (h1 _).mono ?_|refine (h2 _).mono ?_);rintro e w' ⟨rfl,rfl⟩)
  go_ret2
  exact⟨rfl,by first|exact⟨0,rfl⟩|exact⟨_,rfl⟩⟩
theorem qbP(a:Option Addr)(c x y:Nat)(w:World)(hx:x<=2)(hy:y<=2)(h:KdSl w a 2 c [x,y]):Calls Tryz.prog 47 #[.int .u8 12,.slice a 2 c] w (PutR 12 [x,y] w):=by
 obtain⟨⟨g0,o0,s0⟩,i0,c0⟩:=q1I h;obtain⟨⟨g1,o1,s1⟩,i1,c1⟩:=q3l h;have h0:=q1M;have h1:=q1N;have h2:=q1O;clear h;have hxx:x=0\/x=1\/x=2:=by omega
 have hyy:y=0\/y=1\/y=2:=by omega
 rcases hxx with rfl|rfl|rfl<;>rcases hyy with rfl|rfl|rfl <;>
 ·clear hx hy
  go_enter Tryz.func47,Tryz.ntmps47
  go_wp2_with (go_at_call 48;(with_reducible first|refine (h0 _).mono ?_|refine (h1 _).mono ?_|refine (h2 _).mono ?_);rintro e w' ⟨rfl,rfl⟩)
  go_ret2
  exact⟨rfl,by first|exact⟨0,rfl⟩|exact⟨_,rfl⟩⟩
theorem qbQ(a:Option Addr)(c x y:Nat)(w:World)(hx:x<=2)(hy:y<=2)(h:KdSl w a 2 c [x,y]):Calls Tryz.prog 47 #[.int .u8 15,.slice a 2 c] w (PutR 15 [x,y] w):=by
 obtain⟨⟨g0,o0,s0⟩,i0,c0⟩:=q1I h;obtain⟨⟨g1,o1,s1⟩,i1,c1⟩:=q3l h;have h0:=q1M;have h1:=q1N;have h2:=q1O;clear h;have hxx:x=0\/x=1\/x=2:=by omega
 have hyy:y=0\/y=1\/y=2:=by omega
 rcases hxx with rfl|rfl|rfl<;>rcases hyy with rfl|rfl|rfl <;>
 ·clear hx hy
  go_enter Tryz.func47,Tryz.ntmps47
  go_wp2_with (go_at_call 48;(with_reducible first|refine (h0 _).mono ?_|refine (h1 _).mono ?_|refine (h2 _).mono ?_);rintro e w' ⟨rfl,rfl⟩)
  go_ret2
  exact⟨rfl,by first|exact⟨0,rfl⟩|exact⟨_,rfl⟩⟩
theorem qbR(a:Option Addr)(c x y:Nat)(w:World)(hx:x<=2)(hy:y<=2)(h:KdSl w a 2 c [x,y]):Calls Tryz.prog 47 #[.int .u8 16,.slice a 2 c] w (PutR 16 [x,y] w):=by
 obtain⟨⟨g0,o0,s0⟩,i0,c0⟩:=q1I h;obtain⟨⟨g1,o1,s1⟩,i1,c1⟩:=q3l h;have h0:=q1M;have h1:=q1N;have h2:=q1O;clear h;have hxx:x=0\/x=1\/x=2:=by omega
 have hyy:y=0\/y=1\/y=2:=by omega
 rcases hxx with rfl|rfl|rfl<;>rcases hyy with rfl|rfl|rfl <;>
 ·clear hx hy
  go_enter Tryz.func47,Tryz.ntmps47
  go_wp2_with (go_at_call 48;(with_reducible first|refine (h0 _).mono ?_|refine (h1 _).mono ?_|refine (h2 _).mono ?_);rintro e w' ⟨rfl,rfl⟩)
  go_ret2
  exact⟨rfl,by first|exact⟨0,rfl⟩|exact⟨_,rfl⟩⟩
theorem qbS(a:Option Addr)(c x y:Nat)(w:World)(hx:x<=2)(hy:y<=2)(h:KdSl w a 2 c [x,y]):Calls Tryz.prog 47 #[.int .u8 17,.slice a 2 c] w (PutR 17 [x,y] w):=by
 obtain⟨⟨g0,o0,s0⟩,i0,c0⟩:=q1I h;obtain⟨⟨g1,o1,s1⟩,i1,c1⟩:=q3l h;have h0:=q1M;have h1:=q1N;have h2:=q1O;clear h;have hxx:x=0\/x=1\/x=2:=by omega
 have hyy:y=0\/y=1\/y=2:=by omega
 rcases hxx with rfl|rfl|rfl<;>rcases hyy with rfl|rfl|rfl <;>
 ·clear hx hy
  go_enter Tryz.func47,Tryz.ntmps47
  go_wp2_with (go_at_call 48;(with_reducible first|refine (h0 _).mono ?_|refine (h1 _).mono ?_|refine (h2 _).mono ?_);rintro e w' ⟨rfl,rfl⟩)
  go_ret2
  exact⟨rfl,by first|exact⟨0,rfl⟩|exact⟨_,rfl⟩⟩
theorem qbT(a:Option Addr)(c x y:Nat)(w:World)(hx:x<=2)(hy:y<=2)(h:KdSl w a 2 c [x,y]):Calls Tryz.prog 47 #[.int .u8 18,.slice a 2 c] w (PutR 18 [x,y] w):=by
 obtain⟨⟨g0,o0,s0⟩,i0,c0⟩:=q1I h;obtain⟨⟨g1,o1,s1⟩,i1,c1⟩:=q3l h;have h0:=q1M;have h1:=q1N;have h2:=q1O;clear h;have hxx:x=0\/x=1\/x=2:=by omega
 have hyy:y=0\/y=1\/y=2:=by omega
 rcases hxx with rfl|rfl|rfl<;>rcases hyy with rfl|rfl|rfl <;>
 ·clear hx hy
  go_enter Tryz.func47,Tryz.ntmps47
  go_wp2_with (go_at_call 48;(with_reducible first|refine (h0 _).mono ?_|refine (h1 _).mono ?_|refine (h2 _).mono ?_);rintro e w' ⟨rfl,rfl⟩)
  go_ret2
  exact⟨rfl,by first|exact⟨0,rfl⟩|exact⟨_,rfl⟩⟩
theorem qbW(a:Option Addr)(c x y:Nat)(w:World)(hx:x<=2)(hy:y<=2)(h:KdSl w a 2 c [x,y]):Calls Tryz.prog 47 #[.int .u8 21,.slice a 2 c] w (PutR 21 [x,y] w):=by
 obtain⟨⟨g0,o0,s0⟩,i0,c0⟩:=q1I h;obtain⟨⟨g1,o1,s1⟩,i1,c1⟩:=q3l h;have h0:=q1M;have h1:=q1N;have h2:=q1O;clear h;have hxx:x=0\/x=1\/x=2:=by omega
 have hyy:y=0\/y=1\/y=2:=by omega
 rcases hxx with rfl|rfl|rfl<;>rcases hyy with rfl|rfl|rfl <;>
 ·clear hx hy
  go_enter Tryz.func47,Tryz.ntmps47
  go_wp2
  go_quiet (fail)
  go_wp2;go_ret2
  exact⟨rfl,by first|exact⟨0,rfl⟩|exact⟨_,rfl⟩⟩
theorem qbX(a:Option Addr)(c x y:Nat)(w:World)(hx:x<=2)(hy:y<=2)(h:KdSl w a 2 c [x,y]):Calls Tryz.prog 47 #[.int .u8 22,.slice a 2 c] w (PutR 22 [x,y] w):=by
 obtain⟨⟨g0,o0,s0⟩,i0,c0⟩:=q1I h;obtain⟨⟨g1,o1,s1⟩,i1,c1⟩:=q3l h;have h0:=q1M;have h1:=q1N;have h2:=q1O;clear h;have hxx:x=0\/x=1\/x=2:=by omega
 have hyy:y=0\/y=1\/y=2:=by omega
 rcases hxx with rfl|rfl|rfl<;>rcases hyy with rfl|rfl|rfl <;>
 ·clear hx hy
  go_enter Tryz.func47,Tryz.ntmps47
  go_wp2
  go_quiet (fail)
  go_wp2;go_ret2
  exact⟨rfl,by first|exact⟨0,rfl⟩|exact⟨_,rfl⟩⟩
theorem qcr{ts:List Tk}{k:Nat}(h:k<ts.length)(hp:fewL false (ts.take k)=true):fewL false (ts.take (k+1))=fewAt (lastP false (ts.take k)) ts[k].1 ts[k].2:=by
 rw[List.take_add_one,lge h]
 show fewL false (ts.take k++[ts[k]])=_
 rw[q36,hp,q3R,Bool.true_and]
theorem q9G{ts:List Tk}{k:Nat}(h:fewL false (ts.take k)=false):fewL false ts=false:=by
 have:fewL false (ts.take k++ts.drop k)=false:=by rw[q36,h,Bool.false_and]
 rwa [List.take_append_drop]at this
theorem qi1{ts:List Tk}{k:Nat}(h:k+1<=ts.length):lastP false (ts.take (k+1))=decide ((ts[k]'(by omega)).1=2):=by
 rw[List.take_add_one,lge (by omega)]
 show lastP false (ts.take k++[ts[k]])=_
 rw[q58]
theorem few_a{b:Bool}{op p:Nat}(h:op≠2)(h3:op≠3)(h9:op≠9)(h10:op≠10)(h13:op≠13)(h14:op≠14)(h6:op=6->b=true):fewAt b op p=(decide (op<=23)&&decide (p=0)):=by
 unfold fewAt;rw[if_neg h,if_neg (by omega),if_neg]
 rintro⟨e,e'⟩
 rw[h6 e]at e'
 cases e'
theorem qb0(a:Option Addr)(len cap:Nat)(ts:List Tk)(w:World)(hT:TkSl w a len cap ts)(hln:len<=1000000):
  Calls Tryz.prog 26 #[.slice a len cap] w fun e w'=>e=.returned (.bool (fewL false ts))/\Below w.heap.size w w':=by
 have hlen:=hT.hlen;have HT:=hiq hT;have HLEN:=hiq hlen;clear hT hlen;go_enter Tryz.func26,Tryz.ntmps26
 go_wp2
 go_loopw [7] (fun i wr=>∃k:Nat,k<=len/\i=.int .i64 k/\Hid (fewL false (ts.take k)=true)/\Hid (Below w.heap.size w wr)) (fun i _=>len-(intOf i).toNat)
 case atStart=>exact⟨0,Nat.zero_le _,rfl,rfl,Below.refl _ _⟩
 case round=>
  obtain⟨k,hk,rfl,HF,HW⟩:=hrel;by_cases hlt:k<len
  ·have hxl:k<ts.length:=by have:=HLEN.out;omega
   obtain⟨g1,o1,s1,hi1,hx0,hx1,hg1,_⟩:=(HT.out.up HW.out).at Tryz.underlying22 q1G k hlt;have hidx:=fun w'=>hi1 len w' hlt
   clear hi1;have HNX:Hid (fewL false (ts.take (k+1))=fewAt (lastP false (ts.take k)) ts[k].1 ts[k].2):=qcr hxl HF.out;have HOFF:Hid (fewL false (ts.take (k+1))=false->fewL false ts=false):=fun h=>q9G h
   have hpv:k=0\/∃j,j+1=k/\∃(g2 o2:Nat) (s2:_) (q:Nat),(∀w',(Instr.indexAt 22 (.slice a len cap) (.int .i64 (j:Int))).run Tryz.prog w'=.ok (.pointer (some ⟨g2,o2,s2⟩)) w')/\wr.cell? ⟨g2,o2,s2⟩=some (.int .u8 (q:Int))/\lastP false (ts.take k)=decide (q=2):=by
    cases k with
    |zero=>exact Or.inl rfl
    |succ j=>
     obtain⟨g2,o2,s2,hi2,hy0,_,_⟩:=(HT.out.up HW.out).at Tryz.underlying22 q1G j (by omega)
     exact Or.inr ⟨j,rfl,g2,o2,s2,_,fun w'=>hi2 len w' (by omega),hy0,qi1 (by omega)⟩
   have HPV:Hid _:=hpv;clear hpv;have HB1:Hid (Below w.heap.size w (wr.alloc (.cells #[.int .u8 (ts[k].1:Int),.int .u8 (ts[k].2:Int)] 90))):=qd HW.out (qc _ _);generalize ts[k]=q at *;obtain⟨op,p⟩:=q;dsimp only at hx0 hx1 HNX HB1
   by_cases e2:op=2
   ·subst e2
    clear HPV;have HNX2:Hid (fewL false (ts.take (k+1))=decide (p<8)):=HNX.out;clear HNX;by_cases hp:p<8
    ·have HZ:Hid (fewL false (ts.take (k+1))=true):=HNX2.out.trans (decide_eq_true hp)
     have q8:¬(8:Int)<=(p:Int):=by omega
     go_wp2
     go_roundw
     case rel=>exact⟨k+1,by omega,by go_num,HZ,HB1⟩
     case measure=>simp[intOf]<;>omega
    ·have HZ:Hid (fewL false (ts.take (k+1))=false):=HNX2.out.trans (decide_eq_false hp)
     have q8:(8:Int)<=(p:Int):=by omega
     go_wp2;go_ret
     exact⟨by rw[HOFF.out HZ.out];rfl,HB1.out⟩
   have q2:((op:Int)==2)=false:=by rw[bqn];omega
   by_cases e3:op=3
   ·subst e3
    have HZ:Hid (fewL false (ts.take (k+1))=false):=HNX.out;clear HPV HNX q2;go_wp2;go_ret
    exact⟨by rw[HOFF.out HZ.out];rfl,HB1.out⟩
   by_cases e9:op=9
   ·subst e9
    have HZ:Hid (fewL false (ts.take (k+1))=false):=HNX.out;clear HPV HNX q2;go_wp2;go_ret
    exact⟨by rw[HOFF.out HZ.out];rfl,HB1.out⟩
   by_cases e10:op=10
   ·subst e10
    have HZ:Hid (fewL false (ts.take (k+1))=false):=HNX.out;clear HPV HNX q2;go_wp2;go_ret
    exact⟨by rw[HOFF.out HZ.out];rfl,HB1.out⟩
   by_cases e13:op=13
   ·subst e13
    have HZ:Hid (fewL false (ts.take (k+1))=false):=HNX.out;clear HPV HNX q2;go_wp2;go_ret
    exact⟨by rw[HOFF.out HZ.out];rfl,HB1.out⟩
   by_cases e14:op=14
   ·subst e14
    have HZ:Hid (fewL false (ts.take (k+1))=false):=HNX.out;clear HPV HNX q2;go_wp2;go_ret
    exact⟨by rw[HOFF.out HZ.out];rfl,HB1.out⟩
   have q3:((op:Int)==3)=false:=by rw[bqn];omega
   have q9:((op:Int)==9)=false:=by rw[bqn];omega
   have q10:((op:Int)==10)=false:=by rw[bqn];omega
   have q13:((op:Int)==13)=false:=by rw[bqn];omega
   have q14:((op:Int)==14)=false:=by rw[bqn];omega
   by_cases e6:op=6
   ·subst e6
    clear q2 q3 q9 q10 q13 q14;rcases HPV.out with hk0|⟨j,hjk,g2,o2,s2,q,hj,hc,hl⟩
    ·have HZ:Hid (fewL false (ts.take (k+1))=false):=by show _=_;rw[HNX.out,hk0];rfl
     have hn0:((k:Int)==0)=true:=by rw[beq_iff_eq];omega
     clear hk0;clear HPV HNX;go_wp2;go_ret
     exact⟨by rw[HOFF.out HZ.out];rfl,HB1.out⟩
    ·have hsub:IntKind.i64.wrap ((k:Int)-1)=(j:Int):=by rw[IntKind.wrap_i64];omega
     have hn0:((k:Int)==0)=false:=by rw[bqn];omega
     have HL:Hid _:=hl;clear hl HPV;have hcA:∀o,(wr.alloc o).cell? ⟨g2,o2,s2⟩=some (.int .u8 (q:Int)):=fun o=>qn hc (qc _ _)
     by_cases hq:q=2
     ·subst hq
      have hfa:=few_a (b:=true) (op:=6) (p:=p) (by decide) (by decide) (by decide) (by decide) (by decide) (by decide) (fun _=>rfl)
      have HNX2:Hid (fewL false (ts.take (k+1))=decide (p=0)):=by show _=_;rw[HNX.out,HL.out];exact hfa
      clear HNX hfa HL;by_cases hp:p=0
      ·subst hp
       have HZ:Hid (fewL false (ts.take (k+1))=true):=HNX2.out;go_wp2
       go_roundw
       case rel=>exact⟨k+1,by omega,by go_num,HZ,HB1⟩
       case measure=>simp[intOf]<;>omega
      ·have HZ:Hid (fewL false (ts.take (k+1))=false):=HNX2.out.trans (decide_eq_false hp)
       have q0:((p:Int)==0)=false:=by rw[bqn];omega
       have q0n:((p:Int) != 0)=true:=by rw[bne_iff_ne];omega
       go_wp2;go_ret
       exact⟨by rw[HOFF.out HZ.out];rfl,HB1.out⟩
     ·have HZ:Hid (fewL false (ts.take (k+1))=false):=by show _=_;rw[HNX.out,HL.out,decide_eq_false hq];rfl
      have qq:((q:Int)==2)=false:=by rw[bqn];omega
      have qqn:((q:Int) != 2)=true:=by rw[bne_iff_ne];omega
      clear HNX HL;go_wp2;go_ret
      exact⟨by rw[HOFF.out HZ.out];rfl,HB1.out⟩
   have q6:((op:Int)==6)=false:=by rw[bqn];omega
   have HNX2:Hid (fewL false (ts.take (k+1))=(decide (op<=23)&&decide (p=0))):=HNX.out.trans (few_a e2 e3 e9 e10 e13 e14 (fun h=>absurd h e6))
   clear HNX HPV;by_cases h23:op<=23
   ·have q23:¬(23:Int)<(op:Int):=by omega
    by_cases hp:p=0
    ·subst hp
     have HZ:Hid (fewL false (ts.take (k+1))=true):=by show _=_;rw[HNX2.out,decide_eq_true h23];rfl
     go_wp2
     go_roundw
     case rel=>exact⟨k+1,by omega,by go_num,HZ,HB1⟩
     case measure=>simp[intOf]<;>omega
    ·have HZ:Hid (fewL false (ts.take (k+1))=false):=by show _=_;rw[HNX2.out,decide_eq_false hp,Bool.and_false]
     have q0:((p:Int)==0)=false:=by rw[bqn];omega
     have q0n:((p:Int) != 0)=true:=by rw[bne_iff_ne];omega
     go_wp2;go_ret
     exact⟨by rw[HOFF.out HZ.out];rfl,HB1.out⟩
   ·have q23:(23:Int)<(op:Int):=by omega
    have HZ:Hid (fewL false (ts.take (k+1))=false):=by show _=_;rw[HNX2.out,decide_eq_false h23];rfl
    go_wp2;go_ret
    exact⟨by rw[HOFF.out HZ.out];rfl,HB1.out⟩
  ·obtain rfl:k=len:=by omega
   have HZ:Hid (fewL false ts=true):=by
    show _=_
    have:=HF.out
    rwa [List.take_of_length_le (by have:=HLEN.out;omega)]at this
   go_wp2;go_ret
   exact⟨by rw[HZ.out];rfl,HW.out⟩
def encGd (ts:List Gd):List Value:=ts.flatMap fun t=>[.int .i64 t.1,.int .i64 t.2.1,.int .i64 t.2.2]
theorem q8j(t:Gd)(ts:List Gd):encGd (t::ts)=.int .i64 t.1 :: .int .i64 t.2.1 :: .int .i64 t.2.2::encGd ts:=rfl
theorem q3O(xs ys:List Gd):encGd (xs++ys)=encGd xs++encGd ys:=by simp[encGd]
theorem q2A:∀ts:List Gd,(encGd ts).length=ts.length*3
 | []=>rfl
 |t::ts=>by rw[q8j];simp[q2A ts];omega
theorem q1p:∀(ts:List Gd) (k:Nat) (h:k<ts.length),(encGd ts)[3*k]? =some (.int .i64 ts[k].1)/\(encGd ts)[3*k+1]? =some (.int .i64 ts[k].2.1)/\(encGd ts)[3*k+2]? =some (.int .i64 ts[k].2.2)
 | [],k,h=>absurd h (by simp)
 |t::ts,0,_=>⟨rfl,rfl,rfl⟩
 |t::ts,k+1,h=>by
  have:=q1p ts k (by simpa using h)
  rw[q8j,show 3*(k+1)=3*k+1+1+1 by omega,show 3*k+1+1+1+1=(3*k+1)+1+1+1 by omega,show 3*k+1+1+1+2=(3*k+2)+1+1+1 by omega]
  simpa using this
theorem qae(ts:List Gd):∀u∈encGd ts,u.oneCell'=true:=by
 intro u hu;unfold encGd at hu;obtain⟨c,_,hc⟩:=List.mem_flatMap.1 hu;simp at hc
 rcases hc with rfl|rfl|rfl<;>rfl
def I64 (z:Int):Prop:=-9223372036854775808<=z/\z<9223372036854775808
def GdOk (t:Gd):Prop:=I64 t.1/\I64 t.2.1/\I64 t.2.2
structure NdSl (w:World) (a:Option Addr) (len cap:Nat) (ts:List Gd):Prop where
 hlen:ts.length=len
 hcap:len<=cap
 bd:cap<=maxLen
 nn:a=none->cap=0
 c0:∀x,a=some x->∀k (h:k<ts.length),w.cell? (x.add (3*k))=some (.int .i64 ts[k].1)
 c1:∀x,a=some x->∀k (h:k<ts.length),w.cell? (x.add (3*k+1))=some (.int .i64 ts[k].2.1)
 c2:∀x,a=some x->∀k (h:k<ts.length),w.cell? (x.add (3*k+2))=some (.int .i64 ts[k].2.2)
 ok:∀t∈ts,GdOk t
theorem NdSl.some_of{w:World}{a:Option Addr}{len cap:Nat}{ts:List Gd}(h:NdSl w a len cap ts)(hl:0<len):∃x,a=some x:=by
 cases a with
 |none=>have:=h.nn rfl;have:=h.hcap;omega
 |some x=>exact⟨x,rfl⟩
theorem NdSl.lt{w:World}{x:Addr}{len cap:Nat}{ts:List Gd}(h:NdSl w (some x) len cap ts)(hl:0<len):x.block<w.heap.size:=by
 have h0:=h.c0 x rfl 0 (by have:=h.hlen;omega)
 have:=World.block_lt_of_cell? _ _ h0
 rwa [q1Z]at this
theorem NdSl.keep{w w':World}{a:Option Addr}{len cap:Nat}{ts:List Gd}(h:NdSl w a len cap ts)(hk:∀p v,w.cell? p=some v->(∀x,a=some x->p.block=x.block)->w'.cell? p=some v):NdSl w' a len cap ts:=by
 have hb:∀x,a=some x->∀m,∀y,a=some y->(x.add m).block=y.block:=fun x hx m y hy=>by rw[q1Z];rw[hx]at hy;injection hy with hy;rw[hy]
 exact⟨h.hlen,h.hcap,h.bd,h.nn,fun x hx k hk'=>hk _ _ (h.c0 x hx k hk') (hb x hx _),fun x hx k hk'=>hk _ _ (h.c1 x hx k hk') (hb x hx _),fun x hx k hk'=>hk _ _ (h.c2 x hx k hk') (hb x hx _),h.ok⟩
theorem NdSl.up{w w':World}{a:Option Addr}{len cap:Nat}{ts:List Gd}(h:NdSl w a len cap ts)(hb:Below w.heap.size w w'):NdSl w' a len cap ts :=
 h.keep fun _ _ hp _=>qn hp hb
theorem NdSl.nil{w:World}:NdSl w none 0 0 [] :=
 ⟨rfl,Nat.le_refl _,Nat.zero_le _,fun _=>rfl,fun x hx=>(by cases hx),fun x hx=>(by cases hx),fun x hx=>(by cases hx),fun t ht=>(by simp at ht)⟩
theorem NdSl.at{w:World}{a:Option Addr}{len cap:Nat}{ts:List Gd}(h:NdSl w a len cap ts){P:Program}{T e:TypeId}(hu:P.underlying T=some (.slice e))(hs:(P.info? e).map (·.size)=some 3)(k:Nat)(hk:k<len):
  ∃g o s,(∀(n:Nat) (w':World),k<n->(Instr.indexAt T (.slice a n cap) (.int .i64 k)).run P w'=.ok (.pointer (some ⟨g,o,s⟩)) w')/\w.cell? ⟨g,o,s⟩=some (.int .i64 (ts.getD k (0,0,0)).1)/\w.cell? ⟨g,o+1,none⟩=some (.int .i64 (ts.getD k (0,0,0)).2.1)/\w.cell? ⟨g,o+2,none⟩=some (.int .i64 (ts.getD k (0,0,0)).2.2)/\g<w.heap.size/\(∀x,a=some x->x.block=g)/\GdOk (ts.getD k (0,0,0)):=by
 obtain⟨x,rfl⟩:=h.some_of (by omega)
 have hkl:k<ts.length:=by rw[h.hlen];exact hk
 have e0:=h.c0 x rfl k hkl;have e1:=h.c1 x rfl k hkl;have e2:=h.c2 x rfl k hkl;have eok:=h.ok _ (List.getElem_mem hkl);have ex:ts[k]=ts.getD k (0,0,0):=by simp[List.getD_eq_getElem?_getD,List.getElem?_eq_getElem hkl]
 rw[ex]at e0 e1 e2 eok;have hlt:=h.lt (by omega)
 rw[<-q9E]at e1 e2;have hb:=q1Z x (3*k)
 have hrun:∀(n:Nat) (w':World),k<n->(Instr.indexAt T (.slice (some x) n cap) (.int .i64 k)).run P w'=.ok (.pointer (some (x.add (3*k)))) w':=fun n w' hn=>by
  simp[Instr.indexAt,run_underlying hu,asIntOf,q4n hs,hn,Result.andThen,go_sem,Nat.mul_comm]
 generalize x.add (3*k)=y at *;obtain⟨g,o,s⟩:=y;refine⟨g,o,s,hrun,e0,?_,?_,?_,?_,eok⟩
 ·simpa [Addr.add] using e1
 ·simpa [Addr.add] using e2
 ·dsimp only at hb;omega
 ·intro z hz;injection hz with hz;rw[<-hz];exact hb.symm
theorem qfJ{w:World}{base e n:Nat}{v:Value}{ts:List Gd}(h:w.ownsRow base e 3 v n (encGd ts))(hok:∀t∈ts,GdOk t):
  ∃a cap,v=.slice a n cap/\NdSl w a n cap ts/\∀x,a=some x->base<=x.block/\v.ownBlock=some x.block:=by
 obtain⟨hl,h⟩:=h;rw[q2A]at hl;have hl':ts.length=n:=by omega
 rcases h with⟨rfl,rfl⟩|⟨g,cap,cur,rfl,hg,hcell,hnc,hcm,hsz,htk⟩
 ·obtain rfl:=List.eq_nil_of_length_eq_zero hl'
  exact⟨none,0,rfl,NdSl.nil,fun x hx=>by cases hx⟩
 ·have key:∀j,j<n*3->w.cell? ⟨g,j,none⟩=(encGd ts)[j]? := fun j hj=>by
   rw[<-htk,List.getElem?_take,if_pos hj];simp[World.cell?,hcell]
  refine⟨some ⟨g,0,none⟩,cap,rfl,⟨hl',hnc,hcm,fun hn=>(by cases hn),fun x hx k hk=>?_,fun x hx k hk=>?_,fun x hx k hk=>?_,hok⟩,fun x hx=>by injection hx with hx;subst hx;exact⟨hg,rfl⟩⟩
  ·injection hx with hx;subst hx
   rw[qg,Nat.zero_add,key _ (by omega)];exact(q1p ts k hk).1
  ·injection hx with hx;subst hx
   rw[qg,Nat.zero_add,key _ (by omega)];exact(q1p ts k hk).2.1
  ·injection hx with hx;subst hx
   rw[qg,Nat.zero_add,key _ (by omega)];exact(q1p ts k hk).2.2
theorem q1v:(Tryz.prog.info? 57).map (·.size)=some 3:=by kernel_rfl
theorem q5o:(Tryz.prog.info? 57).map (fun i=>(i.zero,i.size,i.bytes))=some (some (.agg #[.int .i64 0,.int .i64 0,.int .i64 0]),3,24):=by kernel_rfl
theorem NdSl.cells{w:World}{x:Addr}{len cap:Nat}{ts:List Gd}(h:NdSl w (some x) len cap ts):∀j u,(encGd ts)[j]? =some u->w.cell? (x.add j)=some u:=by
 intro j u hj;have hjl:=(List.getElem?_eq_some_iff.1 hj).1
 rw[q2A]at hjl;obtain⟨k,h0⟩:∃k,j=3*k\/j=3*k+1\/j=3*k+2:=⟨j / 3,by omega⟩
 rcases h0 with rfl|rfl|rfl
 ·rw[(q1p ts k (by omega)).1]at hj
  rw[<-hj];exact h.c0 x rfl k (by omega)
 ·rw[(q1p ts k (by omega)).2.1]at hj
  rw[<-hj];exact h.c1 x rfl k (by omega)
 ·rw[(q1p ts k (by omega)).2.2]at hj
  rw[<-hj];exact h.c2 x rfl k (by omega)
theorem qdw{w:World}{o:Oper}{a:Act}{K:Act->World->Prop}{Q:Exit->Act->World->Prop}(s x:Operand)
  (ho:o.op=.call { callee:=.builtin .append,args:=#[s,x],argTypes:=#[30,30] }) (base:Nat)
  (v:Value) (xs ys:List Gd) (b:Option Addr) (len cap:Nat) (hs:a.eval s=v) (hx:a.eval x=.slice b len cap) (hown:w.ownsRow base 57 3 v xs.length (encGd xs)) (hT:NdSl w b len cap ys)
  (hn:xs.length<=1000000) (hm:ys.length<=1000000) (hbase:base<=w.heap.size)
  (h:∀v' w',w'.ownsRow base 57 3 v' (xs++ys).length (encGd (xs++ys))->w.grownBy w' v.ownBlock->K (a.put o.dst v') w'):o.wp Tryz.prog a w K Q:=by
 obtain⟨i,hi,hz0,hz1,hz2⟩:=info_parts q5o;have hl:=hT.hlen
 cases b with
 |none=>
  have hc:=hT.nn rfl;have hcl:=hT.hcap;obtain rfl:len=0:=by omega
  subst hc;have hy:ys=[]:=List.eq_nil_of_length_eq_zero hl;subst hy;have hrun:=run_append_owned_none (P:=Tryz.prog) w base 30 o.type 57 i 3 Tryz.underlying30 hi v xs.length (encGd xs) hown;unfold Oper.wp execOp;simp only[ho,resolve,invoke,builtin,Sem.run_bind,Sem.run_pure,Result.andThen_ok,List.map_toArray,List.map_cons,List.map_nil,hs,hx,hrun]
  exact h v w (by rw[List.append_nil];exact hown) (World.grownBy.refl _ _)
 |some y=>
  refine wp_append_own w s x 30 ho base 57 i _ 3 24 Tryz.underlying30 hi hz0 hz1 hz2 rfl (by decide) v xs.length _ hs hown y len cap (encGd ys) hx (by rw[q2A,hl]) hT.cells (qae ys) (by unfold maxLen;omega) (by omega) hbase ?_
  intro v' w' h1 h2 _;exact h v' w' (by rw[q3O,List.length_append,hl];exact h1) h2
theorem q7E{w:World}{ops:Array Oper}{rest:List Oper}{o:Oper}{a:Act}{Q:Exit->Act->World->Prop}(hgd:o.guard=none)(s x:Operand)
  (ho:o.op=.call { callee:=.builtin .append,args:=#[s,x],argTypes:=#[30,30] }) (base:Nat)
  (v:Value) (xs ys:List Gd) (b:Option Addr) (len cap:Nat) (hs:a.eval s=v) (hx:a.eval x=.slice b len cap) (hown:w.ownsRow base 57 3 v xs.length (encGd xs)) (hT:NdSl w b len cap ys)
  (hn:xs.length<=1000000) (hm:ys.length<=1000000) (hbase:base<=w.heap.size)
  (h:∀v' w',w'.ownsRow base 57 3 v' (xs++ys).length (encGd (xs++ys))->w.grownBy w' v.ownBlock->wpList Tryz.prog ops Q rest (a.put o.dst v') w'):wpList Tryz.prog ops Q (o::rest) a w :=
 wpList_plain hgd fun _ hK=>qdw s x ho base v xs ys b len cap hs hx hown hT hn hm hbase fun v' w' h1 h2=>hK _ _ (h v' w' h1 h2)
theorem q8D{cs:List Gd}{k:Nat}(h:k<cs.length):cs.take (k+1)=cs.take k++[cs.getD k (0,0,0)]:=by
 rw[List.take_add_one,List.getElem?_eq_getElem h];simp[List.getD_eq_getElem?_getD,List.getElem?_eq_getElem h]
theorem qeZ{xs ys:List Gd}{k:Nat}(hx:k<xs.length)(hy:k<ys.length)(h:xs.take k=ys.take k)(he:xs.getD k (0,0,0)=ys.getD k (0,0,0)):xs.take (k+1)=ys.take (k+1):=by
 rw[q8D hx,q8D hy,h,he]
theorem q7L : ∃ f0 f1 f2,(Tryz.prog.fieldsOf 57).toList = [f0,f1,f2] ∧ (f0.name = "P" ∧ f0.type = 3 ∧ f0.offset = 0) ∧ (f1.name = "Lo" ∧ f1.type = 3 ∧ f1.offset = 1) ∧ (f2.name = "Hi" ∧ f2.type = 3 ∧ f2.offset = 2) := by
 have hfl : (Tryz.prog.fieldsOf 57).toList.map (fun f => (f.name,f.type,f.offset)) = [("P",3,0),("Lo",3,1),("Hi",3,2)] := by kernel_rfl
 cases hl:(Tryz.prog.fieldsOf 57).toList with
 |nil=>rw[hl]at hfl;simp at hfl
 |cons f0 r=>
  cases r with
  |nil=>rw[hl]at hfl;simp at hfl
  |cons f1 r=>
   cases r with
   |nil=>rw[hl]at hfl;simp at hfl
   |cons f2 r=>
    rw[hl]at hfl;simp at hfl
    obtain⟨h0,h1,h2,rfl⟩:=hfl;exact⟨f0,f1,f2,rfl,h0,h1,h2⟩
theorem qbF(x0 x1 x2 y0 y1 y2:Int)(w:World):(binOp .eql 57 (.agg #[.int .i64 x0,.int .i64 x1,.int .i64 x2]) (.agg #[.int .i64 y0,.int .i64 y1,.int .i64 y2])).run Tryz.prog w=.ok (.bool (decide (((x0,x1,x2):Gd)=(y0,y1,y2)))) w:=by
 have ht:Tryz.prog.underlying 57=some (.struct (Tryz.prog.fieldsOf 57)):=by kernel_rfl
 have hp:Tryz.prog.stoodInHeld 57=false:=by kernel_rfl
 rw[run_eql_struct,run_equalIn_agg _ 9999 _ _ _ ht hp];obtain⟨f0,f1,f2,hl,⟨a1,a2,a3⟩,⟨b1,b2,b3⟩,⟨c1,c2,c3⟩⟩:=q7L;rw[hl];by_cases h0:x0=y0
 ·by_cases h1:x1=y1
  ·by_cases h2:x2=y2
   ·simp[Op.eqFields,a1,a2,a3,b1,b2,b3,c1,c2,c3,go_sem,h0,h1,h2,run_equalIn_int _ 9998 _ _ _ _ _ Tryz.underlying3]
   ·simp[Op.eqFields,a1,a2,a3,b1,b2,b3,c1,c2,c3,go_sem,h0,h1,h2,run_equalIn_int _ 9998 _ _ _ _ _ Tryz.underlying3]
  ·simp[Op.eqFields,a1,a2,a3,b1,b2,b3,go_sem,h0,h1,run_equalIn_int _ 9998 _ _ _ _ _ Tryz.underlying3]
 ·simp[Op.eqFields,a1,a2,a3,go_sem,h0,run_equalIn_int _ 9998 _ _ _ _ _ Tryz.underlying3]
theorem qc3(x0 x1 x2 y0 y1 y2:Int)(w:World):(binOp .neq 57 (.agg #[.int .i64 x0,.int .i64 x1,.int .i64 x2]) (.agg #[.int .i64 y0,.int .i64 y1,.int .i64 y2])).run Tryz.prog w=.ok (.bool (!decide (((x0,x1,x2):Gd)=(y0,y1,y2)))) w:=by
 have h:=qbF x0 x1 x2 y0 y1 y2 w;rw[run_eql_struct]at h;rw[run_neq_struct]
 cases hr:(Op.equalIn 10000 57 (.agg #[.int .i64 x0,.int .i64 x1,.int .i64 x2]) (.agg #[.int .i64 y0,.int .i64 y1,.int .i64 y2])).run Tryz.prog w with
 |ok b w1=>
  rw[hr]at h;simp[Result.andThen]at h ⊢
  obtain⟨rfl,rfl⟩:=h;exact⟨rfl,rfl⟩
 |halt x w1=>rw[hr]at h;simp[Result.andThen]at h
theorem q89(a:Option Addr)(len cap:Nat)(xs:List Gd)(a':Option Addr)(len' cap':Nat)(ys:List Gd)(w:World)
  (hS:NdSl w a len cap xs) (hO:NdSl w a' len' cap' ys):
  Calls Tryz.prog 44 #[.slice a len cap,.slice a' len' cap'] w fun e w'=>e=.returned (.bool (decide (xs=ys)))/\Below w.heap.size w w':=by
 have hb0:=hS.bd;have hb1:=hS.hcap;have hb2:=hO.bd;have hb3:=hO.hcap;unfold maxLen at hb0 hb2;by_cases hll:len=len'
 ·subst hll
  go_enter Tryz.func44,Tryz.ntmps44
  go_wp2
  go_loopw [5] (fun i wr=>∃k:Nat,k<=len/\i=.int .i64 k/\Hid (xs.take k=ys.take k)/\Hid (Below w.heap.size w wr)) (fun i _=>len-(intOf i).toNat)
  case atStart=>exact⟨0,Nat.zero_le _,rfl,by show _=_;simp,Below.refl _ _⟩
  case round=>
   obtain⟨k,hk,rfl,HU,hwr⟩:=hrel;by_cases hlt:k<len
   ·obtain⟨g1,o1,s1,hi1,hx0,hx1,hx2,_,_,_⟩:=(hS.up hwr.out).at Tryz.underlying30 q1v k hlt
    obtain⟨g2,o2,s2,hi2,hy0,hy1,hy2,_,_,_⟩:=(hO.up hwr.out).at Tryz.underlying30 q1v k hlt;have hidx:=fun w'=>hi1 len w' hlt
    have hidx':=fun w'=>hi2 len w' hlt
    clear hi1 hi2;have HN:Hid (xs.getD k (0,0,0)=ys.getD k (0,0,0)->xs.take (k+1)=ys.take (k+1)):=fun h=>qeZ (by rw[hS.hlen];exact hlt) (by rw[hO.hlen];exact hlt) HU.out h
    have HM:Hid (xs.getD k (0,0,0)≠ys.getD k (0,0,0)->decide (xs=ys)=false):=fun h=>decide_eq_false (fun e=>h (by rw[e]))
    generalize xs.getD k (0,0,0)=x at *;generalize ys.getD k (0,0,0)=y at *;obtain⟨x0,x1,x2⟩:=x;obtain⟨y0,y1,y2⟩:=y;have hne:=qc3 x0 x1 x2 y0 y1 y2;have HD:Hid (∀b,decide (((x0,x1,x2):Gd)=(y0,y1,y2))=b->b=true->((x0,x1,x2):Gd)=(y0,y1,y2)):=fun b h1 h2=>of_decide_eq_true (h1.trans h2)
    have HE:Hid (∀b,decide (((x0,x1,x2):Gd)=(y0,y1,y2))=b->b=false->((x0,x1,x2):Gd)≠(y0,y1,y2)):=fun b h1 h2=>of_decide_eq_false (h1.trans h2)
    generalize hq:decide (((x0,x1,x2):Gd)=(y0,y1,y2))=q at hne
    go_wp2_with fail
    go_quiet (fail)
    cases q with
    |false=>
     have HM2:Hid _:=HM.out (HE.out false hq rfl);go_wp2;go_ret
     exact⟨by rw[HM2.out];rfl,below_drewN hwr.out nq⟩
    |true=>
     have HN2:Hid _:=HN.out (HD.out true hq rfl);go_wp2
     go_roundw
     case rel=>exact⟨k+1,by omega,by go_num,HN2,below_drewN hwr.out nq⟩
     case measure=>simp[intOf];omega
   ·have hx:Hid (decide (xs=ys)=true):=by
     have:=HU.out
     rw[List.take_of_length_le (by rw[hS.hlen];omega),List.take_of_length_le (by rw[hO.hlen];omega)]at this
     exact decide_eq_true this
    go_wp2;go_ret
    exact⟨by rw[hx.out];rfl,hwr.out⟩
 ·have hx:Hid (decide (xs=ys)=false):=decide_eq_false (fun e=>hll (by rw[<-hS.hlen,<-hO.hlen,e]))
  have hll':((len:Int) != (len':Int))=true:=by simp;omega
  clear hll;go_enter Tryz.func44,Tryz.ntmps44
  go_wp2;go_ret
  exact⟨by rw[hx.out];rfl,Below.refl _ _⟩
def ndV (x:Gd):Value:=.agg #[.int .i64 x.1,.int .i64 x.2.1,.int .i64 x.2.2]
def klG (x:Gd):Lit:=.string (keyBytes [.int .i64 x.1,.int .i64 x.2.1,.int .i64 x.2.2])
theorem qb3:laidOutB Tryz.prog=true:=by kernel_rfl
theorem q6U:Tryz.prog.keyType 57=true:=by kernel_rfl
theorem q3J:Keyed Tryz.prog 57:=Keyed.of_law (deep_law_laid qb3 (m:=3) (by omega) (of_decide_eq_true (by kernel_rfl)) (by kernel_rfl) (by kernel_rfl))
theorem q8a:∃n,Tryz.prog.types.size+1=n+2:=⟨Tryz.prog.types.size-1,by have:0<Tryz.prog.types.size:=of_decide_eq_true (by kernel_rfl);omega⟩
theorem q8R:Tryz.prog.cellsOf 57=3:=by kernel_rfl
theorem q8O:Tryz.prog.cellsOf 3=1:=by kernel_rfl
theorem q2O(x:Gd)(h:GdOk x):keyOf Tryz.prog 57 (ndV x)=some (klG x):=by
 obtain⟨⟨h1,h2⟩,⟨h3,h4⟩,⟨h5,h6⟩⟩:=h;obtain⟨n,hn⟩:=q8a;have w1:(Lit.int .i64 x.1).wf=true:=WalkArith.wf_i64 (by omega)
 have w2:(Lit.int .i64 x.2.1).wf=true:=WalkArith.wf_i64 (by omega)
 have w3:(Lit.int .i64 x.2.2).wf=true:=WalkArith.wf_i64 (by omega)
 unfold keyOf ndV klG;rw[Tryz.underlying57,hn];simp[q6U,Value.formed,Tryz.underlying57,q8R,Value.cells,Program.keyLits,q8O,Tryz.underlying3,w1,w2,w3]
theorem qi8{x y:Gd}(h:ndV x=ndV y):x=y:=by
 unfold ndV at h;obtain⟨a,b,c⟩:=x;obtain⟨a',b',c'⟩:=y;simp at h
 obtain⟨h1,h2,h3⟩:=h;rw[h1,h2,h3]
theorem q5M{x y:Gd}(hx:GdOk x)(hy:GdOk y)(h:klG x=klG y):x=y :=
 qi8 (q3J.inj (q2O x hx) (by rw[h];exact q2O y hy))
theorem q9O(x:Gd):WideAt.IsKeyLit (klG x):=trivial
def NumG (w:World) (b n:Nat) (f:Gd->Option Nat):Prop :=
 ∃D:DataW Unit,w.ownsMap Tryz.prog 57 (plainElem Tryz.prog 3) b n D/\Tidy D/\Maps.size D=n/\∀x,GdOk x->has D (klG x)=(f x).isSome/\∀j,f x=some j->D.atKey (klG x) (.lit (.int .i64 0))=.lit (.int .i64 (j:Int))
theorem NumG.lt{w:World}{b n:Nat}{f:Gd->Option Nat}(h:NumG w b n f):b<w.heap.size:=by
 obtain⟨D,h,_⟩:=h;exact h.lt
theorem NumG.far{w w':World}{b n:Nat}{f:Gd->Option Nat}(h:NumG w b n f)(hb:w'.heap[b]? =w.heap[b]?):NumG w' b n f:=by
 obtain⟨D,⟨es,clock,h1,h2⟩,r⟩:=h;exact⟨D,⟨es,clock,hb.trans h1,h2⟩,r⟩
theorem NumG.isMap{w:World}{b n:Nat}{f:Gd->Option Nat}(h:NumG w b n f):∃es c,w.heap[b]? =some (.map es c):=by
 obtain⟨D,⟨es,clock,h1,h2⟩,r⟩:=h;exact⟨es,clock,h1⟩
theorem NumG.alike{w:World}{b n:Nat}{f g:Gd->Option Nat}(h:NumG w b n f)(hg:∀x,GdOk x->f x=g x):NumG w b n g:=by
 obtain⟨D,h1,h2,h3,h4⟩:=h;exact⟨D,h1,h2,h3,fun x hx=>by rw[<-hg x hx];exact h4 x hx⟩
theorem qfC(w:World):NumG (w.alloc (.map #[] 0)) w.heap.size 0 (fun _=>none) :=
 ⟨.map [],World.ownsMap_made _ _ _ _,tidy_empty,rfl,fun x _=>⟨rfl,fun j hj=>by cases hj⟩⟩
theorem qbx(w:World):(zeroValue 3).run Tryz.prog w=.ok (.int .i64 0) w:=by kernel_rfl
theorem NumG.look{w:World}{b n:Nat}{f:Gd->Option Nat}(h:NumG w b n f){x:Gd}(hx:GdOk x):
  (Instr.lookup 104 (.map (some b)) (ndV x) true).run Tryz.prog w=.ok (.tuple #[.int .i64 (((f x).getD 0:Nat):Int),.bool (f x).isSome]) w:=by
 obtain⟨D,h1,h2,h3,h4⟩:=h;obtain⟨hh,ha⟩:=h4 x hx;obtain⟨v,ps,hrun,hv⟩:=h1.look_ok q3J Tryz.underlying104 (qbx w) (plainElem_int Tryz.underlying3 (by decide)) (q2O x hx)
 obtain⟨c,rfl,hc,hwc⟩:=plainElem_int_inv Tryz.underlying3 hv;have hc':D.atKey (klG x) (.lit (.int .i64 0))=.lit (.int .i64 c):=congrArg Prod.fst hc;rw[hrun,hh]
 cases hf:f x with
 |none=>
  rw[hf]at hh;rw[atKey_of_not_has hh]at hc';injection hc' with hc';injection hc' with _ hc';subst hc'
  rfl
 |some j=>
  rw[ha j hf]at hc';injection hc' with hc';injection hc' with _ hc';subst hc'
  rfl
theorem NumG.put{w:World}{b n:Nat}{f:Gd->Option Nat}(h:NumG w b n f)(hn:n<=100000000){x:Gd}(hx:GdOk x)(hf:f x=none)(j:Nat)(hj:j<=100000000):
  ∃w',(Instr.mapUpdate 104 (.map (some b)) (ndV x) (.int .i64 (j:Int))).run Tryz.prog w=.ok () w'/\NumG w' b (n+1) (fun y=>if y=x then some j else f y)/\w.grownBy w' (some b):=by
 obtain⟨D,h1,h2,h3,h4⟩:=h;obtain⟨hh,_⟩:=h4 x hx;rw[hf]at hh;obtain⟨w',hrun,hown,hg⟩:=h1.update q3J Tryz.underlying104 (by unfold maxLen;omega) (q2O x hx) (plainElem_int (a:=(j:Int)) Tryz.underlying3 (WalkArith.wf_i64 (by omega)))
 refine⟨w',hrun,⟨_,hown,h2.put (q9O x) _,?_,fun y hy=>?_⟩,hg⟩
 ·rw[size_put h2,hh,h3];rfl
 ·dsimp only
  by_cases e:y=x
  ·subst e
   rw[if_pos rfl];refine⟨has_put_same h2.isMap (q9O y) _,fun i hi=>?_⟩
   injection hi with hi;subst hi;exact atKey_put_same h2.isMap (q9O y) _ _
  ·have ne:klG y≠klG x:=fun he=>e (q5M hy hx he)
   rw[if_neg e,has_put_other ne];refine⟨(h4 y hy).1,fun i hi=>?_⟩
   rw[atKey_put_other ne];exact(h4 y hy).2 i hi
theorem NumG.drop{w:World}{b n:Nat}{f:Gd->Option Nat}(h:NumG w b n f){x:Gd}(hx:GdOk x)(hf:(f x).isSome=true)(ty:TypeId):
  ∃w',(Builtin.delete_ #[104,57] ty #[.map (some b),ndV x]).run Tryz.prog w=.ok (.tuple #[]) w'/\NumG w' b (n-1) (fun y=>if y=x then none else f y)/\w.grownBy w' (some b):=by
 obtain⟨D,h1,h2,h3,h4⟩:=h;obtain⟨hh,_⟩:=h4 x hx;rw[hf]at hh;obtain⟨w',hrun,hown,ht⟩:=h1.drop q3J Tryz.underlying104 (q2O x hx) ty
 have hsz:Maps.size (D.del (klG x))=n-1:=by
  have:=size_del (k:=klG x) h2
  rw[hh]at this;simp at this
  omega
 have hown':w'.ownsMap Tryz.prog 57 (plainElem Tryz.prog 3) b (n-1) (D.del (klG x)):=by
  obtain⟨es,clock,g1,g2,g3,g4⟩:=hown;refine⟨es,clock,g1,g2,?_,g4⟩
  rw[<-hsz,g4];simp[Maps.size,length_sorted]
 refine⟨w',hrun,⟨_,hown',h2.del _,hsz,fun y hy=>?_⟩,ht.grown⟩
 dsimp only
 by_cases e:y=x
 ·subst e
  rw[if_pos rfl];exact⟨has_del_same,fun i hi=>by cases hi⟩
 ·have ne:klG y≠klG x:=fun he=>e (q5M hy hx he)
  rw[if_neg e,has_del_other ne];refine⟨(h4 y hy).1,fun i hi=>?_⟩
  rw[atKey_del_other ne];exact(h4 y hy).2 i hi
def posG (N:List Gd) (x:Gd):Option Nat:=if x∈N then some (N.idxOf x) else none
theorem q2n{N:List Gd}{x:Gd}(h:x∈N):posG N x=some (N.idxOf x):=if_pos h
theorem q2g{N:List Gd}{x:Gd}(h:x ∉ N):posG N x=none:=if_neg h
theorem qfR{N:List Gd}{x:Gd}(hx:x ∉ N)(y:Gd):(if y=x then some N.length else posG N y)=posG (N++[x]) y:=by
 by_cases e:y=x
 ·subst e
  rw[if_pos rfl,q2n (by simp),qdV hx]
 ·rw[if_neg e]
  by_cases hm:y∈N
  ·rw[q2n hm,q2n (by simp[hm]),qdW (List.prefix_append _ _) hm]
  ·rw[q2g hm,q2g (by simp[hm,e])]
def outG (N:List Gd) (n i:Nat) (y:Gd):Option Nat:=(posG N y).bind fun j=>if n<=j/\j<n+i then none else some j
theorem qav(N:List Gd)(n:Nat)(y:Gd):posG N y=outG N n 0 y:=by
 unfold outG
 cases posG N y with
 |none=>rfl
 |some j=>simp only[Option.bind_some];rw[if_neg (by omega)]
theorem q6j{N:List Gd}(hn:N.Nodup){i:Nat}{x:Gd}(h:N[i]? =some x):x∈N/\N.idxOf x=i:=by
 obtain⟨hi,e⟩:=List.getElem?_eq_some_iff.1 h;have hm:x∈N:=e ▸ List.getElem_mem hi;refine⟨hm,?_⟩
 have hl:=List.idxOf_lt_length_of_mem hm;have h1:N[N.idxOf x]=N[i]:=by rw[e];simp
 exact(List.getElem_inj hn).1 h1
theorem qfD{N:List Gd}(hn:N.Nodup){n i:Nat}{x:Gd}(h:N[n+i]? =some x)(y:Gd):(if y=x then none else outG N n i y)=outG N n (i+1) y:=by
 obtain⟨hm,hx⟩:=q6j hn h;unfold outG;by_cases e:y=x
 ·subst e
  rw[if_pos rfl,q2n hm,hx];simp only[Option.bind_some]
  rw[if_pos (by omega)]
 ·rw[if_neg e]
  by_cases hy:y∈N
  ·rw[q2n hy]
   have hne:N.idxOf y≠n+i:=fun he=>e (by
    have:=q9I hy
    rw[he,h]at this;injection this with this;exact this.symm)
   simp only[Option.bind_some]
   by_cases c:n<=N.idxOf y/\N.idxOf y<n+i
   ·rw[if_pos c,if_pos (by omega)]
   ·rw[if_neg c,if_neg (by omega)]
  ·rw[q2g hy];rfl
theorem qeR{N:List Gd}(hn:N.Nodup){n i:Nat}{x:Gd}(h:N[n+i]? =some x):(outG N n i x).isSome=true:=by
 obtain⟨hm,hx⟩:=q6j hn h;unfold outG;rw[q2n hm,hx];simp only[Option.bind_some]
 rw[if_neg (by omega)]
 rfl
theorem qgP{N:List Gd}(hn:N.Nodup){n:Nat}(h:n<=N.length)(y:Gd):outG N n (N.length-n) y=posG (N.take n) y:=by
 unfold outG;by_cases hy:y∈N
 ·rw[q2n hy]
  have hl:=List.idxOf_lt_length_of_mem hy;simp only[Option.bind_some]
  by_cases c:N.idxOf y<n
  ·rw[if_neg (by omega)]
   have hg:(N.take n)[N.idxOf y]? =some y:=by rw[List.getElem?_take,if_pos c];exact q9I hy
   obtain⟨h1,h2⟩:=q6j (hn.sublist (List.take_sublist n N)) hg;rw[q2n h1,h2]
  ·rw[if_pos (by omega)]
   refine (q2g fun hm=>?_).symm
   obtain⟨i,hi⟩:=List.mem_iff_getElem?.1 hm;rw[List.getElem?_take]at hi;by_cases ci:i<n
   ·rw[if_pos ci]at hi
    have:=(q6j hn hi).2
    omega
   ·rw[if_neg ci]at hi;cases hi
 ·rw[q2g hy,q2g (fun hm=>hy (List.mem_of_mem_take hm))];rfl
theorem q9W{P:Program}{T e:TypeId}{w:World}{base n:Nat}{v:Value}{zs:List Int}(h:w.ownsRow base e 1 v n (zs.map (Value.int .i64)))(hu:P.underlying T=some (.slice e))(hs:(P.info? e).map (·.size)=some 1):
  ∃a cap,v=.slice a n cap/\IntSl P T .i64 w a n cap zs/\(∀k,k<n->base<=(adOf a k).block)/\∀x,a=some x->x.block<w.heap.size:=by
 obtain⟨hl,h⟩:=h;simp at hl
 rcases h with⟨rfl,rfl⟩|⟨g,cap,cur,rfl,hg,hcell,hnc,hcm,hsz,htk⟩
 ·have:zs=[]:=List.eq_nil_of_length_eq_zero hl
  subst this;exact⟨none,0,rfl,⟨rfl,nlr,Nat.zero_le _,fun m k w hk hm=>absurd hk (by omega),fun k hk=>absurd hk (by omega),fun k hk=>absurd hk (by omega),fun _=>rfl⟩,fun k hk=>absurd hk (by omega),fun x hx=>by cases hx⟩
 ·have had:∀k,adOf (some ⟨g,0,none⟩) k=⟨g,k,none⟩:=fun k=>by simp[adOf,qg]
  have hlt:g<w.heap.size:=(aes hcell).1
  refine⟨some ⟨g,0,none⟩,cap,rfl,⟨hl,hnc,hcm,fun m k w hk hm=>q1a hu hs (by simp) k w hk,fun k hk=>?_,fun k hk=>by rw[had];exact hlt,by simp⟩,fun k hk=>by rw[had];exact hg,fun x hx=>by injection hx with hx;rw[<-hx];exact hlt⟩
  rw[had]
  have hk2:(cur.toList.take (n*1))[k]? =some (.int .i64 (zs.getD k 0)):=by
   rw[htk];simp[List.getD_eq_getElem?_getD,List.getElem?_eq_getElem (show k<zs.length by omega)]
  rw[List.getElem?_take,if_pos (by omega)]at hk2
  simp[World.cell?,hcell]
  simpa using hk2
theorem q6o{w:World}{base e size n:Nat}{v:Value}{xs:List Value}(h:w.ownsRow base e size v n xs):∃a c,v=.slice a n c:=by
 rcases h.2 with⟨rfl,rfl⟩|⟨g,cap,cur,rfl,_⟩
 ·exact⟨none,0,rfl⟩
 ·exact⟨_,cap,rfl⟩
def goV:Option Int->Value
 |some q=>.tuple #[.int .i64 q,.bool true]
 |none=>.tuple #[.int .i64 0,.bool false]
theorem qhJ{N:List Gd}{x k:Nat}{r:Int}(h:0<=r)(hl:(N.length:Int)<=r):goG N x k r=none:=by
 have h0:¬r<0:=by omega
 cases k with
 |zero=>simp[goG,h0]
 |succ k=>
  have:N[r.toNat]? =none:=List.getElem?_eq_none (by omega)
  simp[goG,h0,this]
theorem qcy{N:List Gd}{x:Nat}{r:Int}(h:0<=r):goG N x 0 r=none:=by
 have h0:¬r<0:=by omega
 simp[goG,h0]
theorem qhI{N:List Gd}{x k i:Nat}(h:¬(0<=(N.getD i (0,0,0)).1/\(N.getD i (0,0,0)).1<=7)):goG N x k (i:Int)=none:=by
 cases k with
 |zero=>exact qcy (by omega)
 |succ k=>
  have h0:¬(i:Int)<0:=by omega
  rcases e:N[i]? with _|⟨P,lo,hi⟩
  ·simp[goG,h0,e]
  ·simp only[List.getD_eq_getElem?_getD,e,Option.getD_some]at h
   simp only[goG,h0,if_false,Int.toNat_natCast,e,if_neg h]
theorem qgu{N:List Gd}{x k i:Nat}{P lo hi:Int}(hl:i<N.length)(e:N.getD i (0,0,0)=(P,lo,hi))(h0:0<=P)(h7:P<=7):goG N x (k+1) (i:Int)=goG N x k (if x.testBit P.toNat then hi else lo):=by
 refine qcz (P:=P) (lo:=lo) (hi:=hi) ?_ h0 h7
 rw[<-e];simp[List.getD_eq_getElem?_getD,List.getElem?_eq_getElem hl]
abbrev ZSl (w:World) (a:Option Addr) (len cap:Nat) (l:List Int):Prop:=IntSl Tryz.prog 29 .i64 w a len cap l
theorem qiv(n:Nat)(h:n<=8):wrap64 ((2:Int) ^ n)=((2 ^ n:Nat):Int):=by
 have h1:(2:Nat) ^ n<=2 ^ 8:=Nat.pow_le_pow_right (by decide) h
 rw[show (2:Int) ^ n=((2 ^ n:Nat):Int) by simp]
 unfold wrap64;generalize (2:Nat) ^ n=q at *
 omega
theorem q4j{w w':World}(h:∃n,w'=w.drewN n):Below w.heap.size w w':=by obtain⟨n,rfl⟩:=h;exact below_drewN (Below.refl _ _) n
theorem RowI.zsl{P:Program}{T e:TypeId}{w:World}{g n:Nat}{cur:List Int}(h:RowI w e g cur)(hu:P.underlying T=some (.slice e))(hs:(P.info? e).map (·.size)=some 1)(hn:n<=cur.length)(hm:cur.length<=maxLen):
  IntSl P T .i64 w (some ⟨g,0,none⟩) n cur.length (cur.take n):=by
 have had:∀k,adOf (some ⟨g,0,none⟩) k=⟨g,k,none⟩:=fun k=>by simp[adOf,qg]
 refine⟨by simp;omega,hn,hm,fun m k w hk hm=>q1a hu hs (by simp) k w hk,fun k hk=>?_,fun k hk=>?_,by simp⟩
 ·rw[had,h.cell (by omega)];simp[List.getD_eq_getElem?_getD,hk]
 ·rw[had];exact h.lt
structure AuB (w:World) (g:Nat) (p:Int) (aA:Option Addr) (nA cA:Nat) (aG:Option Addr) (nG cG:Nat) (aN:Option Addr) (nN cN:Nat):Prop where
 c0:w.cell? ⟨g,0,none⟩=some (.int .i64 p)
 c1:w.cell? ⟨g,1,none⟩=some (.slice aA nA cA)
 c2:w.cell? ⟨g,2,none⟩=some (.slice aG nG cG)
 c3:w.cell? ⟨g,3,none⟩=some (.slice aN nN cN)
theorem AuB.up{w w':World}{g:Nat}{p:Int}{aA:Option Addr}{nA cA:Nat}{aG:Option Addr}{nG cG:Nat}{aN:Option Addr}{nN cN:Nat}(h:AuB w g p aA nA cA aG nG cG aN nN cN)(hb:Below w.heap.size w w'):AuB w' g p aA nA cA aG nG cG aN nN cN:=⟨qn h.c0 hb,qn h.c1 hb,qn h.c2 hb,qn h.c3 hb⟩
theorem q3C(w:World)(p:Int)(aA:Option Addr)(nA cA:Nat)(aG:Option Addr)(nG cG:Nat)(aN:Option Addr)(nN cN:Nat):AuB (w.alloc (.cells #[.int .i64 p,.slice aA nA cA,.slice aG nG cG,.slice aN nN cN] 32 (0,0))) w.heap.size p aA nA cA aG nG cG aN nN cN:=by
 have h:=(mha w (.cells #[.int .i64 p,.slice aA nA cA,.slice aG nG cG,.slice aN nN cN] 32 (0,0))).1;exact⟨qb h 0,qb h 1,qb h 2,qb h 3⟩
theorem qdy(w:World)(o:Obj):(w.alloc o).heap.size=w.heap.size+1:=by simp
theorem q88(p:Int)(aA:Option Addr)(nA cA:Nat)(aG:Option Addr)(nG cG:Nat)(aN:Option Addr)(nN cN:Nat)(bA:Option Addr)(dA:Nat)(bG:Option Addr)(dG:Nat)(bN:Option Addr)(dN:Nat)(bs:List Bool)(gs:List Int)(N:List Gd)(w:World)
  (h1:BoSl w aA nA cA bs) (h2:ZSl w aG nG cG gs) (h3:NdSl w aN nN cN N) (k1:BoSl w bA nA dA bs) (k2:ZSl w bG nG dG gs) (k3:NdSl w bN nN dN N):
  Calls Tryz.prog 21 #[.agg #[.int .i64 p,.slice aA nA cA,.slice aG nG cG,.slice aN nN cN],.agg #[.int .i64 p,.slice bA nA dA,.slice bG nG dG,.slice bN nN dN]] w fun e w'=>e=.returned (.bool true)/\Below w.heap.size w w':=by
 have HA0:Hid _:=q3C w p aA nA cA aG nG cG aN nN cN;have HB0:Hid _:=qc w (.cells #[.int .i64 p,.slice aA nA cA,.slice aG nG cG,.slice aN nN cN] 32 (0,0))
 have HS1:Hid (∀w',Below w.heap.size w w'->Calls Tryz.prog 42 #[.slice aA nA cA,.slice bA nA dA] w' fun e w2=>e=.returned (.bool true)/\Below w'.heap.size w' w2):=fun w' hb=>by
  have:=q9u aA nA cA bs bA nA dA bs w' (h1.up hb) (k1.up hb)
  simpa using this
 have HS2:Hid (∀w',Below w.heap.size w w'->Calls Tryz.prog 43 #[.slice aG nG cG,.slice bG nG dG] w' fun e w2=>e=.returned (.bool true)/\Below w'.heap.size w' w2):=fun w' hb=>
  (q9v aG nG cG gs bG nG dG gs w' (h2.up hb) (k2.up hb)).mono fun e w2 ⟨he,hn⟩=>⟨by rw[he];simp,q4j hn⟩
 have HS3:Hid (∀w',Below w.heap.size w w'->Calls Tryz.prog 44 #[.slice aN nN cN,.slice bN nN dN] w' fun e w2=>e=.returned (.bool true)/\Below w'.heap.size w' w2):=fun w' hb=>by
  have:=q89 aN nN cN N bN nN dN N w' (h3.up hb) (k3.up hb)
  simpa using this
 clear h1 h2 h3 k1 k2 k3;generalize hw1:w.alloc (.cells #[.int .i64 p,.slice aA nA cA,.slice aG nG cG,.slice aN nN cN] 32 (0,0))=w1 at *;have Hw1:Hid _:=hw1;have HA1:Hid _:=q3C w1 p bA nA dA bG nG dG bN nN dN;have HBn:Hid _:=qc w1 (.cells #[.int .i64 p,.slice bA nA dA,.slice bG nG dG,.slice bN nN dN] 32 (0,0));have HB1:Hid _:=qd HB0.out HBn.out;have HA2:Hid _:=HA0.out.up HBn.out;obtain⟨c0,c1,c2,c3⟩:=HA2.out;obtain⟨d0,d1,d2,d3⟩:=HA1.out;have j1:=HS1.out _ HB1.out;rw[<-hw1]at c0 c1 c2 c3 d0 d1 d2 d3 j1;clear hw1;go_enter Tryz.func21,Tryz.ntmps21
 go_wp2_with fail
 refine j1.mono ?_
 rw[Hw1.out];rintro e w2 ⟨rfl,hb2⟩
 have HA3:Hid _:=HA2.out.up hb2;have HA4:=HA1.out.up hb2;rw[<-Hw1.out,qdy]at HA4;have HA4:Hid _:=HA4;have HB2:Hid _:=HB1.out.trans (hb2.mono HB1.out.size);clear c0 c1 c2 c3 d0 d1 d2 d3 j1 hb2;have j2:=HS2.out _ HB2.out;obtain⟨c0,c1,c2,c3⟩:=HA3.out;obtain⟨d0,d1,d2,d3⟩:=HA4.out
 go_wp2_with fail
 refine j2.mono ?_
 rintro e w3 ⟨rfl,hb3⟩
 have HA5:Hid _:=HA3.out.up hb3;have HA6:Hid _:=HA4.out.up hb3;have HB3:Hid _:=HB2.out.trans (hb3.mono HB2.out.size);clear c0 c1 c2 c3 d0 d1 d2 d3 j2 hb3;have j3:=HS3.out _ HB3.out;obtain⟨c0,c1,c2,c3⟩:=HA5.out;obtain⟨d0,d1,d2,d3⟩:=HA6.out
 go_wp2_with fail
 refine j3.mono ?_
 rintro e w4 ⟨rfl,hb4⟩
 have HB4:Hid _:=HB3.out.trans (hb4.mono HB3.out.size);clear c0 c1 c2 c3 d0 d1 d2 d3 j3 hb4;go_wp2;go_ret
 exact⟨rfl,HB4.out⟩
def BoRow (w:World) (g:Nat) (bs:List Bool):Prop:=w.heap[g]? =some (.cells (bs.map Value.bool).toArray 4 (0,0))
def zB (k:Nat):List Bool:=List.replicate k false
theorem madeB(n:Nat):madeCells #[.bool false] n=((zB n).map Value.bool).toArray:=by
 apply Array.ext_getElem?
 intro i;by_cases h:i<n
 ·simp[madeCells,zB,h,Nat.mod_one]
 ·simp[madeCells,zB,h]
theorem qbH:(Tryz.prog.info? 4).map (fun i=>(i.zero,i.size,i.bytes))=some (some (.bool false),1,1):=by kernel_rfl
theorem qdl(l c:Nat)(L C:Int)(hl:L=l)(hc:C=c)(hlc:l<=c)(hb:c<=1000000)(w:World):
  (Instr.makeSlice 28 (.int .i64 L) (.int .i64 C)).run Tryz.prog w=.ok (.slice (some ⟨w.heap.size,0,none⟩) l c) (w.alloc (.cells ((zB c).map Value.bool).toArray 4)):=by
 obtain⟨i,hi,hz0,hz1,hz2⟩:=info_parts qbH;have:=run_make (P:=Tryz.prog) w 28 4 i (.bool false) Tryz.underlying28 hi hz0 .i64 .i64 L C (by omega) (by omega) (by rw[hz2];omega) (by omega)
 rw[this,hl,hc,hz1,<-madeB];simp only[Int.toNat_natCast,Nat.mul_one]
 rfl
end Go.Proofs.YtailhklbmenaoaaGreatDoor
