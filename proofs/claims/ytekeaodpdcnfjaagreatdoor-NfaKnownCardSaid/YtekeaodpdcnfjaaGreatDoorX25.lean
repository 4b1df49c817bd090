/- Texts of the proof, put together: what it uses. -/
import Derived.Test.YtekeaodpdcnfjaaGreatDoorX19
import Derived.Test.YtekeaodpdcnfjaaGreatDoorX24
set_option maxRecDepth 100000
set_option maxHeartbeats 16000000
namespace Go.Proofs.YtekeaodpdcnfjaaGreatDoor
open Go.RowKit Go.Maps
def pcI (r:PcU):Value:=.slice r.a r.len r.cap
def RwI (w:World) (g:Nat) (rs:List PcU):Prop:=w.heap[g]? = some (.cells (rs.map pcI).toArray 27 (0,0))
theorem RwI.lt{w:World}{g:Nat}{rs:List PcU}(h:RwI w g rs):g<w.heap.size:=(Array.getElem?_eq_some_iff.1 h).1
theorem RwI.cell{w:World}{g:Nat}{rs:List PcU}(h:RwI w g rs){i:Nat}{r:PcU}(hi:rs[i]? = some r):w.cell? ⟨g,i,none⟩=some (.slice r.a r.len r.cap):=by
 unfold RwI at h
 rw[qb h i]
 simp[hi,pcI]
theorem RwI.fz{w:World}{g:Nat}{rs:List PcU}(h:RwI w g rs)(i:Nat):w.frozen? ⟨g,i,none⟩=false:=frozen_of_row w g i _ _ h
theorem RwI.set{w:World}{g:Nat}{rs:List PcU}(h:RwI w g rs)(i:Nat)(r:PcU):RwI (w.setCell ⟨g,i,none⟩ (.slice r.a r.len r.cap)) g (rs.set i r):=by
 unfold RwI at h ⊢
 rw[heap_setCell_same w g i _ _ _ h]
 congr 2
 simp[pcI]
theorem q8x:(Tryz.prog.info? 27).map (·.size)=some 1:=by kernel_rfl
theorem q8d:(Tryz.prog.info? 27).map (fun i=>(i.zero,i.size,i.bytes))=some (some (.slice none 0 0),1,24):=by kernel_rfl
theorem q5g(g n i:Nat)(hi:i<n)(w:World):(Instr.indexAt 47 (.slice (some ⟨g,0,none⟩) n n) (.int .i64 (i:Int))).run Tryz.prog w=.ok (.pointer (some ⟨g,i,none⟩)) w:=by
 simp[Instr.indexAt,run_underlying Tryz.underlying47,asIntOf,q1h q8x,hi,Result.andThen,go_sem,qh]
def nilI:PcU:=⟨none,0,0,[]⟩
theorem qdf(n:Nat):madeCells #[.slice none 0 0] n=Array.replicate n (Value.slice none 0 0):=by
 unfold madeCells
 apply Array.ext
 ·simp
 ·intro i h1 h2
  simp[Nat.mod_one]
theorem q90(l:Nat)(hb:l≤100000)(w:World) :
  (Instr.makeSlice 47 (.int .i64 (l:Int)) (.int .i64 (l:Int))).run Tryz.prog w=.ok (.slice (some ⟨w.heap.size,0,none⟩) l l) (w.alloc (.cells (Array.replicate l (Value.slice none 0 0)) 27)):=by
 obtain ⟨i,hi,hz0,hz1,hz2⟩:=info_parts q8d
 have:=run_make (P:=Tryz.prog) w 47 27 i (.slice none 0 0) Tryz.underlying47 hi hz0 .i64 .i64 (l:Int) (l:Int) (by omega) (by omega) (by rw[hz2];omega) (by omega)
 rw[this,hz1]
 simp only[Int.toNat_natCast,Nat.mul_one]
 have e:(Value.slice none 0 0).cells=#[.slice none 0 0]:=rfl
 rw[e,qdf]
theorem RwI.made(w:World)(l:Nat):RwI (w.alloc (.cells (Array.replicate l (Value.slice none 0 0)) 27)) w.heap.size (List.replicate l nilI):=by
 unfold RwI
 rw[(MapKept.heap_alloc w _).1]
 simp[pcI,nilI]
structure IsU (B:Nat) (w:World) (G:Nat→Prop) (r:PcU):Prop where
 sl:ISl w r.a r.len r.cap r.ts
 bd:r.len≤1024
 nf:∀ k,k<r.len→¬ G (adOf r.a k).block
 lo:∀ k,k<r.len→B≤(adOf r.a k).block
theorem IsU.fr{B:Nat}{w w':World}{G G':Nat→Prop}{r:PcU}(h:IsU B w G r)(fr:Fr w w' G G'):IsU B w' G' r:=⟨fr.intSl h.sl h.nf,h.bd,fun k hk=>fr.out (h.nf k hk) (h.sl.blk k hk),h.lo⟩
theorem IsU.len{B:Nat}{w:World}{G:Nat→Prop}{r:PcU}(h:IsU B w G r):r.len=r.ts.length:=q50 h.sl
theorem IsU.off{B:Nat}{w:World}{G:Nat→Prop}{r:PcU}(h:IsU B w G r){g i:Nat}{v:Value}(hg:∀ k,k<r.len→(adOf r.a k).block≠g):IsU B (w.setCell ⟨g,i,none⟩ v) G r:=by
 have s:=h.sl
 refine ⟨⟨s.hlen,s.hcap,s.bd,s.idx,fun k hk=>?_,fun k hk=>Nat.lt_of_lt_of_le (s.blk k hk) (by simp),s.nn⟩,h.bd,h.nf,h.lo⟩
 have:=s.cell k hk
 unfold World.cell? at this ⊢
 rw[Below.heap_setCell _ _ _ _ (fun e=>hg k hk e)];exact this
theorem IsU.row{B:Nat}{w:World}{G:Nat→Prop}{r:PcU}(h:IsU B w G r){g:Nat}{rs:List PcU}(hr:RwI w g rs):∀ k,k<r.len→(adOf r.a k).block≠g:=fun k hk e=>by
 have hc:=h.sl.cell k hk
 unfold World.cell? at hc
 unfold RwI at hr
 rw[e,hr]at hc
 cases hq:rs[(adOf r.a k).off]? with
 | none=>simp[hq]at hc
 | some y=>simp[hq,pcI]at hc
theorem qcS{B:Nat}{w w':World}{G:Nat→Prop}{l:List Nat}{e:Ending}(hB:B≤w.heap.size)(hF:∀ k,G k→k<w.heap.size)(hl:l.length≤1024)(h:CloI l w e w'):Below w.heap.size w w'∧∃ a c,e=.returned (.slice a l.length c)∧IsU B w' G ⟨a,l.length,c,l⟩:=by
 refine ⟨h.1,?_⟩
 rcases h.2 with ⟨rfl,p,rfl⟩ | ⟨G2,t,_,rfl,hS,h1,h2⟩
 ·exact ⟨p,0,rfl,⟨⟨rfl,Nat.le_refl _,Nat.zero_le _,fun m k w hk hm=>absurd hk (by simp at hm;omega),fun k hk=>absurd hk (by simp),fun k hk=>absurd hk (by simp),fun _=>rfl⟩,hl,fun k hk=>absurd hk (by simp),fun k hk=>absurd hk (by simp)⟩⟩
 ·refine ⟨_,G2,rfl,hS.isl rfl rfl h1 h2,hl,fun k hk e=>?_,fun k hk=>?_⟩
  ·have:=hF _ e
   simp[adOf,qh]at this
   omega
  ·simp[adOf,qh]
   omega
theorem FinP.pre{M M':Mt}(h:M <+: M'){s:Nat}(hb:BdL [s] M.length):FinP M' [s]↔FinP M [s]:=(q2J h hb 0).symm
theorem MkP.grow{M M':Mt}{S:List Nat}{fs:List Bool}(h:MkP M S fs)(hk:StK S M)(hp:M <+: M'):MkP M' S fs:=by
 refine ⟨h.fl,fun j c hc=>?_,h.sm,h.few⟩
 have hj:j<S.length:=by have:=(List.getElem?_eq_some_iff.1 hc).1;have:=h.fl;omega
 have hm:atS S j∈S:=by
  unfold atS
  rw[List.getD_eq_getElem?_getD,List.getElem?_eq_getElem hj]
  exact List.getElem_mem hj
 rw[FinP.pre hp (hk.bd _ hm)]
 exact h.fi j c hc
section
variable {T0:Tr} {q:Option Addr} {d B:Nat} {w:World} {G:Nat→Prop} {b n ak:Nat} {l0:List Nat} {M:Mt} {vT:Value} {S:List Nat} {rv:List Value}
theorem MkO.step(h:MkO T0 q d B w G b n ak l0 M vT S rv)(hk:StK S M)(hT:Tab64 w){s x:Nat}(hb:BdL [s] M.length)(hx:x<256) :
  ∃ p,w.cell? ⟨b,0,none⟩=some (.pointer (some ⟨p,0,none⟩))∧w.cell? ⟨b,7,none⟩=some (.int .i64 (ak:Int))∧Calls Tryz.prog 54 #[.pointer (some ⟨p,0,none⟩),.slice (some ⟨w.heap.size,0,none⟩) 1 1,.int .u8 (x:Int)] (w.alloc (.cells #[.int .u64 (s:Int)] 46)) fun e w'=>∃ G',Fr w w' G G' ∧
   ((stepM fuelN x [s] [] M=none∧e=.returned (.tuple #[.slice none 0 0,.int .i64 9]))∨∃ L M' q' d',stepM fuelN x [s] [] M=some (L,M')∧e=.returned (.tuple #[.slice q' L.length d',.int .i64 0])∧USl w' q' L.length d' L∧(∀ k,k<L.length→¬ G' (adOf q' k).block)∧MkO T0 q d B w' G' b n ak l0 M' vT S rv):=by
 obtain ⟨F,p,mp,vS,vF,vN,fs,hr,hp,hG⟩:=h
 refine ⟨p,hr.cp,hr.ca,?_⟩
 have hb1:=qc w (.cells #[.int .u64 (s:Int)] 46)
 have hr1:=hr.up hb1
 obtain ⟨items,hP⟩:=hr1.prg
 have hT1:=hT.up hb1
 have htl:=World.block_lt_of_cell? _ _ (hT1 0 (by decide))
 have hlt:∀ k,F k→k<w.heap.size:=fun k hk=>hr.lt k (Or.inl hk)
 refine (q6U hx hP.o hT1 hP.g (some ⟨w.heap.size,0,none⟩) 1 [s] ⟨⟨q1K [s] w (by simp),fun j hj e=>by have:=hlt _ e;simp[adOf,qh]at this⟩,by simp,hb⟩).mono ?_
 rintro e w' ⟨F',i',fr,⟨hs,rfl,hO⟩ | ⟨L,M',q',d',hs,rfl,hU,hO,hnw⟩⟩
 ·obtain ⟨_,f2⟩:=hr1.fr ⟨i',hO,hP.u.fr fr,hP.l,fr.out hP.g htl⟩ fr
  exact ⟨_,(Fr.ofBelow hb1).trans (f2.alike (fun k hk=>(hG k).2 hk) (fun k hk=>hk)),Or.inl ⟨hs,rfl⟩⟩
 ·have ag:=q2m fuelN x [s] [] M M' L hb hs
  obtain ⟨r2,f2⟩:=hr1.fr ⟨i',hO,hP.u.fr fr,hP.l,fr.out hP.g htl⟩ fr
  refine ⟨FM F' b mp vS vF vN,(Fr.ofBelow hb1).trans (f2.alike (fun k hk=>(hG k).2 hk) (fun k hk=>hk)),Or.inr ⟨L,M',q',d',hs,rfl,hU.sl,fun k hk e=>?_,F',p,mp,vS,vF,vN,fs,r2,hp.grow hk ag.1,fun k=>Iff.rfl⟩⟩
  rcases e with e | e
  ·exact hU.nf k hk e
  ·have h1:=hnw k hk
   have h2:=hr.lt _ (Or.inr e)
   have h3:=hb1.size
   omega
end
def RoQ (T0:Tr) (q:Option Addr) (d B:Nat) (w:World) (G:Nat→Prop) (b n ak:Nat) (l0:List Nat) (M:Mt) (vT:Value) (S:List Nat) (rv:List Value) (X:Nat→Prop) (s m:Nat) (e:Ending) (w':World):Prop :=
 ∃ G',Fr w w' G G'∧((∃ E:Nat,E≠0∧rowM s (List.range m) [] S M=.error E∧e=.returned (.tuple #[.slice none 0 0,.int .i64 (E:Int)]))∨∃ cs S1 M1,rowM s (List.range m) [] S M=.ok (cs.map PcU.ts,S1,M1)∧cs.length=m∧e=.returned (.tuple #[.slice (some ⟨w.heap.size,0,none⟩) m m,.int .i64 0])∧MkO T0 q d B w' G' b n ak l0 M1 vT S1 rv∧RwI w' w.heap.size cs∧¬ G' w.heap.size∧(∀ c∈cs,IsU B w' G' c)∧StK S1 M1∧PrM X M1)
structure RoI (T0:Tr) (q:Option Addr) (d B:Nat) (w:World) (G:Nat→Prop) (b n ak:Nat) (l0:List Nat) (M:Mt) (vT:Value) (S:List Nat) (rv:List Value) (X:Nat→Prop) (s m x:Nat) (wr:World) (G':Nat→Prop) (S':List Nat) (M':Mt) (acc:List PcU):Prop where
 fr:Fr w wr G G'
 o:MkO T0 q d B wr G' b n ak l0 M' vT S' rv
 row:RwI wr w.heap.size (acc++List.replicate (m - x) nilI)
 ng:¬ G' w.heap.size
 al:acc.length=x
 ls:∀ c∈acc,IsU B wr G' c
 j:RowJ X s (acc.map PcU.ts) S' M'
 rr:rowM s (List.range m) [] S M=rowM s (List.range' x (m - x)) (acc.map PcU.ts) S' M'
theorem Fr.new{w w':World}{G G':Nat→Prop}(f1:Fr w w' G G'){g:Nat}(hg:w.heap.size≤g)(i:Nat)(v:Value):Fr w (w'.setCell ⟨g,i,none⟩ v) G G' :=
 ⟨f1.os,f1.tape,f1.output,by have:=f1.size;simp;exact this,fun z hz hn=>(Below.heap_setCell _ _ _ _ fun e=>by have e2:z=g:=e;omega).trans (f1.keep z hz hn),f1.foot⟩
theorem q6w{x m:Nat}(h:x<m):List.range' x (m - x)=x::List.range' (x+1) (m - (x+1)):=by
 rw[show m - x=(m - (x+1))+1 by omega,List.range'_succ]
section
variable {T0:Tr} {q:Option Addr} {d B:Nat} {w wr w':World} {G G' G2:Nat→Prop} {b n ak:Nat} {l0:List Nat} {M M' M2:Mt} {vT:Value} {S S' S2:List Nat} {rv:List Value} {X:Nat→Prop} {s m x:Nat} {acc:List PcU}
theorem RoI.put(h:RoI T0 q d B w G b n ak l0 M vT S rv X s m x wr G' S' M' acc)(hB:B≤w.heap.size)(hx:x<m)(fr:Fr wr w' G' G2)(hO:MkO T0 q d B w' G2 b n ak l0 M2 vT S2 rv)(r:PcU)(hr:IsU B w' G2 r)(hj:RowJ X s ((acc++[r]).map PcU.ts) S2 M2)(hrr:rowM s (x::List.range' (x+1) (m - (x+1))) (acc.map PcU.ts) S' M'=rowM s (List.range' (x+1) (m - (x+1))) ((acc++[r]).map PcU.ts) S2 M2) :
  (∃ v,w'.cell? ⟨w.heap.size,x,none⟩=some v)∧w'.frozen? ⟨w.heap.size,x,none⟩=false∧RoI T0 q d B w G b n ak l0 M vT S rv X s m (x+1) (w'.setCell ⟨w.heap.size,x,none⟩ (.slice r.a r.len r.cap)) G2 S2 M2 (acc++[r]):=by
 have hgl:=h.row.lt
 have hrow:RwI w' w.heap.size (acc++List.replicate (m - x) nilI):=(fr.keep _ hgl h.ng).trans h.row
 have hng:=fr.out h.ng hgl
 refine ⟨⟨_,hrow.cell (i:=x) (r:=nilI) ?_⟩,hrow.fz x,?_,hO.off hng hB x _,?_,hng,by simp[h.al],fun c hc=>?_,hj,by rw[h.rr,q6w hx];exact hrr⟩
 ·rw[List.getElem?_append_right (by rw[h.al];exact Nat.le_refl _),h.al,Nat.sub_self,List.getElem?_replicate,if_pos (by omega)]
 ·exact (h.fr.trans fr).new (Nat.le_refl _) _ _
 ·have:=hrow.set x r
  have e2:(acc++List.replicate (m - x) nilI).set x r=acc++[r]++List.replicate (m - (x+1)) nilI:=by
   rw[List.set_append_right _ _ (by rw[h.al];exact Nat.le_refl _),h.al,Nat.sub_self,show m - x=(m - (x+1))+1 by omega,List.replicate_succ,List.set_cons_zero,List.append_assoc]
   rfl
  rw[e2]at this
  exact this
 ·have hcu:IsU B w' G2 c:=by
   rcases List.mem_append.1 hc with hc | hc
   ·exact (h.ls c hc).fr fr
   ·have:c=r:=by simpa using hc
    subst this;exact hr
  exact hcu.off (hcu.row hrow)
end
theorem q99{T0:Tr}{q:Option Addr}{d B:Nat}{w:World}{G:Nat→Prop}{b n ak:Nat}{l0:List Nat}{M:Mt}{vT:Value}{S:List Nat}{rv:List Value}{X:Nat→Prop}(h:MkO T0 q d B w G b n ak l0 M vT S rv)(hk:StK S M)(hp:PrM X M)(hlk:∀ x,Like X (x &&& ak) x)(ha:ak<256)(hn:n≤8)(hT:Tab64 w)(hg:¬ G tabG)(s:Nat)(hs:s∈S) :
  Calls Tryz.prog 35 #[.pointer (some ⟨b,0,none⟩),.int .u64 (s:Int)] w (RoQ T0 q d B w G b n ak l0 M vT S rv X s (2 ^ n)):=by
 obtain ⟨Q,hQ⟩:∃ Q:Ending→World→Prop,Q=RoQ T0 q d B w G b n ak l0 M vT S rv X s (2 ^ n):=⟨_,rfl⟩
 have HQ:Hid (∀ e w',RoQ T0 q d B w G b n ak l0 M vT S rv X s (2 ^ n) e w'→Q e w'):=fun e w' h=>by rw[hQ];exact h
 rw[← hQ]
 have hm2:2 ^ n≤256:=Nat.pow_le_pow_right (n:=2) (by decide) hn
 have HW:Hid (wrap64 ((2:Int) ^ n)=((2 ^ n:Nat):Int)):=by
  show _=_
  rw[show ((2:Int) ^ n)=((2 ^ n:Nat):Int) by simp]
  generalize 2 ^ n=y at hm2 ⊢
  unfold wrap64
  omega
 have hmin:min n 64=n:=by omega
 have hmk:=q90 (2 ^ n) (by omega) w
 have hc1:w.cell? ⟨b,1,none⟩=some (.int .i64 (n:Int)):=by
  obtain ⟨F,p,mp,vS,vF,vN,fs,hr,_,_⟩:=h
  exact hr.cn
 have hb1:=qc w (.cells (Array.replicate (2 ^ n) (Value.slice none 0 0)) 27)
 have HI0:Hid (RoI T0 q d B w G b n ak l0 M vT S rv X s (2 ^ n) 0 (w.alloc (.cells (Array.replicate (2 ^ n) (Value.slice none 0 0)) 27)) G S M []):=⟨Fr.ofBelow hb1,h.up hb1,by simpa using RwI.made w (2 ^ n),fun e=>Nat.lt_irrefl _ (h.lt _ e),rfl,fun c hc=>(by cases hc),RowJ.start hk hp hs,by rw[List.range_eq_range'];rfl⟩
 have HTB:Hid (∀ wr G',Fr w wr G G'→Tab64 wr):=fun wr G' fr=>hT.fr fr hg
 have HB:Hid _:=h.Bs
 have HLK:Hid _:=hlk
 have hs64:s<2 ^ 64:=by
  obtain ⟨F,p,mp,vS,vF,vN,fs,hr,hp,_⟩:=h
  exact hp.sm s hs
 clear h hk hp hlk hT hg hs hQ hb1 hs64
 generalize hM:(2 ^ n:Nat)=m at *
 generalize hZ:Array.replicate m (Value.slice none 0 0)=Z at *
 clear hM hZ
 go_enter Tryz.func35,Tryz.ntmps35
 go_wp2
 rw[HW.out,hmk]
 go_wp2
 go_loopw [21] (fun j wr=>∃ (x:Nat) (G':Nat→Prop) (S':List Nat) (M':Mt) (acc:List PcU),x≤m∧j=.int .i64 (x:Int)∧Hid (RoI T0 q d B w G b n ak l0 M vT S rv X s m x wr G' S' M' acc)) (fun j _=>m - (intOf j).toNat)
 case atStart=>exact ⟨0,G,S,M,[],Nat.zero_le _,rfl,HI0⟩
 case round =>
  clear HI0 hmk hc1 hmin HW
  obtain ⟨x,G',S',M',acc,hx,rfl,HI⟩:=hrel
  by_cases hlt:x<m
  ·have hx8:x<256:=by omega
   have hand:=qaj x ak (by omega) (by omega)
   have hlea:x &&& ak≤x:=Nat.and_le_left
   have hcv:IntKind.u8.wrap (x:Int)=(x:Int):=by rw[IntKind.wrap_u8];omega
   obtain ⟨p,cp,ca,js⟩:=HI.out.o.step HI.out.j.st (HTB.out _ _ HI.out.fr) HI.out.j.bd hx8
   have hixx:=fun w'=>q5g w.heap.size m x hlt w'
   have hra:=q6w hlt
   by_cases hal:x &&& ak=x
   ·have hne:(((x &&& ak:Nat):Int) != (x:Int))=false:=by rw[hal];simp
    have HN:Hid (∀ (e:Ending) (w':World),(∃ G2,Fr wr w' G' G2∧((stepM fuelN x [s] [] M'=none∧e=.returned (.tuple #[.slice none 0 0,.int .i64 9]))∨∃ L M2 q' d',stepM fuelN x [s] [] M'=some (L,M2)∧e=.returned (.tuple #[.slice q' L.length d',.int .i64 0])∧USl w' q' L.length d' L∧(∀ k,k<L.length→¬ G2 (adOf q' k).block)∧MkO T0 q d B w' G2 b n ak l0 M2 vT S' rv)) →
      (e=.returned (.tuple #[.slice none 0 0,.int .i64 9])∧Q (.returned (.tuple #[.slice none 0 0,.int .i64 9])) w')∨∃ q' L' d',e=.returned (.tuple #[.slice q' L' d',.int .i64 0])∧Calls Tryz.prog 33 #[.pointer (some ⟨b,0,none⟩),.slice q' L' d'] w' fun e2 w2=>∃ v,w2.cell? ⟨w.heap.size,x,none⟩=some v∧w2.frozen? ⟨w.heap.size,x,none⟩=false ∧
       ((e2=.returned (.tuple #[.slice none 0 0,.int .i64 10])∧Q (.returned (.tuple #[.slice none 0 0,.int .i64 10])) (w2.setCell ⟨w.heap.size,x,none⟩ (.slice none 0 0)))∨∃ a c L,e2=.returned (.tuple #[.slice a L c,.int .i64 0])∧∃ G3 S3 M3 acc3,RoI T0 q d B w G b n ak l0 M vT S rv X s m (x+1) (w2.setCell ⟨w.heap.size,x,none⟩ (.slice a L c)) G3 S3 M3 acc3)):=fun e w' hq=>by
     obtain ⟨G2,fr,⟨h1,he⟩ | ⟨L,M2,q',d',h1,he,hU,hnf,hO⟩⟩:=hq
     ·refine Or.inl ⟨he,HQ.out _ _ ⟨G2,HI.out.fr.trans fr,Or.inl ⟨9,by decide,?_,rfl⟩⟩⟩
      rw[HI.out.rr,hra]
      unfold rowM
      simp only[h1]
     ·refine Or.inr ⟨q',L.length,d',he,?_⟩
      obtain ⟨e1,_⟩:=q7z HI.out.j.st.good HI.out.j.bd h1
      have hsm:Sm L:=qR e1.bd e1.good.few
      have hln:=q9P fuelN x [s] [] (by simp) h1
      refine (q3k hO q' L.length d' L hU hnf hsm hln).mono ?_
      rintro e2 w2 ⟨G3,f3,h5⟩
      have hgl:=HI.out.row.lt
      have hrow:RwI w2 w.heap.size (acc++List.replicate (m - x) nilI):=((fr.trans f3).keep _ hgl HI.out.ng).trans HI.out.row
      have hcell:=hrow.cell (i:=x) (r:=nilI) (by rw[List.getElem?_append_right (by rw[HI.out.al];exact Nat.le_refl _),HI.out.al,Nat.sub_self,List.getElem?_replicate,if_pos (by omega)])
      refine ⟨_,hcell,hrow.fz x,?_⟩
      rcases h5 with ⟨h6,rfl,-⟩ | ⟨r,S3,h6,hrl,rfl,hO3,hrow3,hng3⟩
      ·refine Or.inl ⟨rfl,HQ.out _ _ ⟨G3,((HI.out.fr.trans fr).trans f3).new (Nat.le_refl _) _ _,Or.inl ⟨10,by decide,?_,rfl⟩⟩⟩
       rw[HI.out.rr,hra]
       unfold rowM
       simp only[h1,h6]
      ·have hmap:(acc++[(⟨some ⟨w'.heap.size,0,none⟩,L.length,L.length,r⟩:PcU)]).map PcU.ts=acc.map PcU.ts++[r]:=by simp
       have hma:(acc.map PcU.ts).length=x:=by simp[HI.out.al]
       have hI:IsU B w2 G3 ⟨some ⟨w'.heap.size,0,none⟩,L.length,L.length,r⟩:=by
        refine ⟨⟨by simp[hrl],Nat.le_refl _,by show L.length≤maxLen;unfold maxLen;omega,fun m k w hk hm=>q1c Tryz.underlying27 q1L (by simp) k w hk,fun k hk=>?_,fun k hk=>?_,by simp⟩,hln,fun k hk=>?_,fun k hk=>?_⟩
        ·simp only[adOf,qh,Nat.zero_add]
         exact hrow3.cell (by simp[hrl];exact hk)
        ·simp only[adOf,qh]
         exact hrow3.lt
        ·simp only[adOf,qh]
         exact hng3
        ·simp only[adOf,qh]
         exact hO.Bs
       have hjs:=HI.out.j.step (L:=L) (r:=r) (S1:=S3) (M1:=M2) (by rw[hma];exact h1) h6
       rw[← hmap]at hjs
       obtain ⟨_,_,h9⟩:=HI.out.put HB.out hlt (fr.trans f3) hO3 _ hI hjs (by
        rw[hmap]
        conv=>lhs;unfold rowM
        simp only[h1,h6])
       exact Or.inr ⟨_,_,_,rfl,G3,S3,M2,_,h9⟩
    clear HI hra hal HTB HLK HB hlea
    go_wp2_with fail
    refine js.mono ?_
    intro e w3 hq
    rcases HN.out e w3 hq with ⟨rfl,hr⟩ | ⟨q3,L3,d3,rfl,jt⟩
    ·have HR:Hid _:=hr
     clear js hq hr HN
     go_wp2
     exact HR.out
    ·clear js hq HN cp ca hand hne
     go_wp2_with fail
     refine jt.mono ?_
     rintro e w4 ⟨v4,cv,zv,⟨rfl,hr⟩ | ⟨a4,c4,L4,rfl,G4,S4,M4,acc4,hI4⟩⟩
     ·have HR:Hid _:=hr
      clear jt hr
      go_wp2
      exact HR.out
     ·have HI4:Hid _:=hI4
      clear jt hI4
      go_wp2
      go_roundw
      case rel=>exact ⟨x+1,G4,S4,M4,acc4,by omega,by go_num,HI4⟩
      case measure=>simp[intOf] <;> omega
   ·have hne:(((x &&& ak:Nat):Int) != (x:Int))=true:=by simp;omega
    have hal2:x &&& ak<acc.length:=by rw[HI.out.al];omega
    obtain ⟨r0,hr0⟩:∃ r0,acc[x &&& ak]? = some r0:=⟨_,List.getElem?_eq_getElem hal2⟩
    have hga:(acc++List.replicate (m - x) nilI)[x &&& ak]? = some r0:=by rw[List.getElem?_append_left hal2];exact hr0
    have hcr:=HI.out.row.cell hga
    have hiu:=HI.out.ls r0 (List.mem_of_getElem? hr0)
    have hixa:=fun w'=>q5g w.heap.size m (x &&& ak) (by omega) w'
    have jc:=q5U r0.a r0.len r0.cap r0.ts wr hiu.sl (by have:=hiu.bd;omega)
    have HN:Hid (∀ e w',CloI r0.ts wr e w'→∃ a c L v,e=.returned (.slice a L c)∧w'.cell? ⟨w.heap.size,x,none⟩=some v∧w'.frozen? ⟨w.heap.size,x,none⟩=false∧∃ acc2,RoI T0 q d B w G b n ak l0 M vT S rv X s m (x+1) (w'.setCell ⟨w.heap.size,x,none⟩ (.slice a L c)) G' S' M' acc2):=fun e w' hq=>by
     obtain ⟨hb,a,c,he,hI⟩:=qcS HI.out.o.Bs HI.out.o.lt (by rw[← hiu.len];exact hiu.bd) hq
     have hmap:(acc++[(⟨a,r0.ts.length,c,r0.ts⟩:PcU)]).map PcU.ts=acc.map PcU.ts++[r0.ts]:=by simp
     have hma:(acc.map PcU.ts).length=x:=by simp[HI.out.al]
     have hla:(acc.map PcU.ts)[x &&& ak]? = some r0.ts:=by rw[List.getElem?_map,hr0];rfl
     have hjj:=HI.out.j.alike (y:=x &&& ak) (r:=r0.ts) (by rw[hma];exact HLK.out x) hla (List.range' (x+1) (m - (x+1)))
     rw[hma,← hmap]at hjj
     obtain ⟨⟨v,h1⟩,h2,h3⟩:=HI.out.put HB.out hlt (Fr.ofBelow hb) (HI.out.o.up hb) _ hI hjj.2 hjj.1
     exact ⟨a,c,_,v,he,h1,h2,_,h3⟩
    clear js hiu hga hal2 HI hra hal hr0 HTB HLK HB hlea
    generalize x &&& ak=y at *
    obtain ⟨ra,rl,rc,rt⟩:=r0
    dsimp only at *
    go_wp2_with fail
    refine jc.mono ?_
    intro e w3 hq
    obtain ⟨a3,c3,L3,v3,rfl,cv,zv,acc2,hI2⟩:=HN.out e w3 hq
    have HI2:Hid _:=hI2
    clear jc hq HN hI2 hcr hixa cp ca hand hne
    go_wp2
    go_roundw
    case rel=>exact ⟨x+1,G',S',M',acc2,by omega,by go_num,HI2⟩
    case measure=>simp[intOf] <;> omega
  ·obtain rfl:x=m:=by omega
   have HR:Hid (Q (.returned (.tuple #[.slice (some ⟨w.heap.size,0,none⟩) x x,.int .i64 0])) wr):=HQ.out _ _ ⟨G',HI.out.fr,Or.inr ⟨acc,S',M',by rw[HI.out.rr,Nat.sub_self];rfl,HI.out.al,rfl,HI.out.o,by
    have:=HI.out.row
    rw[Nat.sub_self]at this
    simpa using this,HI.out.ng,HI.out.ls,HI.out.j.st,HI.out.j.pr⟩⟩
   clear HI
   go_wp2
   exact HR.out
structure RwR where
 g:Nat
 cs:List PcU
def rwV (m:Nat) (r:RwR):Value:=.slice (some ⟨r.g,0,none⟩) m m
def rwL (r:RwR):List (List Nat):=r.cs.map PcU.ts
structure RwAt (B:Nat) (w:World) (G:Nat→Prop) (m:Nat) (r:RwR):Prop where
 row:RwI w r.g r.cs
 ng:¬ G r.g
 ge:B≤r.g
 len:r.cs.length=m
 ls:∀ c∈r.cs,IsU B w G c
theorem RwAt.fr{B:Nat}{w w':World}{G G':Nat→Prop}{m:Nat}{r:RwR}(h:RwAt B w G m r)(fr:Fr w w' G G'):RwAt B w' G' m r:=⟨(fr.keep _ h.row.lt h.ng).trans h.row,fr.out h.ng h.row.lt,h.ge,h.len,fun c hc=>(h.ls c hc).fr fr⟩
theorem q8K:(Tryz.prog.info? 47).map (fun i=>(i.zero,i.size,i.bytes))=some (some (.slice none 0 0),1,24):=by kernel_rfl
section
variable {T0:Tr} {q:Option Addr} {d B:Nat} {w w':World} {G G':Nat→Prop} {b n ak:Nat} {l0:List Nat} {M:Mt} {vT:Value} {S:List Nat} {rv:List Value}
theorem MkO.states(h:MkO T0 q d B w G b n ak l0 M vT S rv):∃ a c,w.cell? ⟨b,2,none⟩=some (.slice a S.length c)∧USl w a S.length c S:=by
 obtain ⟨F,p,mp,vS,vF,vN,fs,hr,hp,hG⟩:=h
 obtain ⟨a,c,rfl,hU⟩:=q3T hr.rs
 exact ⟨a,c,hr.cS,hU⟩
theorem MkO.next(h:MkO T0 q d B w G b n ak l0 M vT S rv)(y:Value):∃ a c,w.cell? ⟨b,5,none⟩=some (.slice a rv.length c)∧(w.alloc (.cells #[y] 47)).ownsRow B 47 1 (.slice a rv.length c) rv.length rv ∧
  ∀ w5 v',(w.alloc (.cells #[y] 47)).grownBy w5 (Value.slice a rv.length c).ownBlock→w5.ownsRow B 47 1 v' (rv.length+1) (rv++[y])→(v'.ownBlock=(Value.slice a rv.length c).ownBlock∨v'.ownBlock=some (w.heap.size+1)) →
   w5.cell? ⟨b,5,none⟩=some (.slice a rv.length c)∧w5.frozen? ⟨b,5,none⟩=false∧∃ G',MkO T0 q d B (w5.setCell ⟨b,5,none⟩ v') G' b n ak l0 M vT S (rv++[y])∧Fr w (w5.setCell ⟨b,5,none⟩ v') G G':=by
 obtain ⟨F,p,mp,vS,vF,vN,fs,hr,hp,hG⟩:=h
 obtain ⟨a,c,rfl⟩:=q2c hr.rn
 refine ⟨a,c,hr.cN,World.ownsRow.alloc hr.rn _,fun w5 v' hg ho hl=>?_⟩
 obtain ⟨m1,m2,m3⟩:=hr.growN (rv':=rv++[y]) (qc w _) hg (by rw[List.length_append];exact ho) (by simpa using hl)
 exact ⟨qb m1 5,frozen_of_row w5 b 5 _ _ m1,_,⟨F,p,mp,vS,vF,v',fs,m2,hp,fun k=>Iff.rfl⟩,m3.alike (fun k hk=>(hG k).2 hk) (fun k hk=>hk)⟩
end
def GoQ (T0:Tr) (q:Option Addr) (d B:Nat) (w:World) (G:Nat→Prop) (b n ak:Nat) (l0:List Nat) (M:Mt) (t0:PcU) (S:List Nat) (e:Ending) (w':World):Prop :=
 ∃ G',Fr w w' G G'∧((∃ E:Nat,E≠0∧allM n 256 [] S M=.error E∧e=.returned (.int .i64 (E:Int)))∨∃ (rs:List RwR) (S1:List Nat) (M1:Mt),allM n 256 [] S M=.ok (rs.map rwL,S1,M1)∧e=.returned (.int .i64 0)∧MkO T0 q d B w' G' b n ak l0 M1 (pcI t0) S1 (rs.map (rwV (2 ^ n)))∧(∀ r∈rs,RwAt B w' G' (2 ^ n) r)∧IsU B w' G' t0)
structure GoI (T0:Tr) (q:Option Addr) (d B:Nat) (w:World) (G:Nat→Prop) (b n ak:Nat) (l0:List Nat) (M:Mt) (t0:PcU) (S:List Nat) (X:Nat→Prop) (k:Nat) (wr:World) (G':Nat→Prop) (S':List Nat) (M':Mt) (rs:List RwR):Prop where
 fr:Fr w wr G G'
 o:MkO T0 q d B wr G' b n ak l0 M' (pcI t0) S' (rs.map (rwV (2 ^ n)))
 kl:rs.length=k
 rows:∀ r∈rs,RwAt B wr G' (2 ^ n) r
 t:IsU B wr G' t0
 st:StK S' M'
 pr:PrM X M'
 le:k≤S'.length
 rr:allM n 256 [] S M=allM n (256 - k) (rs.map rwL) S' M'
theorem q91{T0:Tr}{q:Option Addr}{d B:Nat}{w:World}{G:Nat→Prop}{b n ak:Nat}{l0:List Nat}{M:Mt}{t0:PcU}{S:List Nat}{X:Nat→Prop}(h:MkO T0 q d B w G b n ak l0 M (pcI t0) S [])(ht:IsU B w G t0)(hk:StK S M)(hp:PrM X M)(hlk:∀ x,Like X (x &&& ak) x)(ha:ak<256)(hn:n≤8)(hT:Tab64 w)(hg:¬ G tabG) :
  Calls Tryz.prog 15 #[.pointer (some ⟨b,0,none⟩)] w (GoQ T0 q d B w G b n ak l0 M t0 S):=by
 obtain ⟨Q,hQ⟩:∃ Q:Ending→World→Prop,Q=GoQ T0 q d B w G b n ak l0 M t0 S:=⟨_,rfl⟩
 have HQ:Hid (∀ e w',GoQ T0 q d B w G b n ak l0 M t0 S e w'→Q e w'):=fun e w' h=>by rw[hQ];exact h
 rw[← hQ]
 have HI0:Hid (GoI T0 q d B w G b n ak l0 M t0 S X 0 w G S M []):=⟨Fr.ofBelow (Below.refl _ _),h,rfl,fun r hr=>(by cases hr),ht,hk,hp,Nat.zero_le _,rfl⟩
 have HTB:Hid (∀ wr G',Fr w wr G G'→Tab64 wr∧¬ G' tabG):=fun wr G' fr=>⟨hT.fr fr hg,fr.out hg (World.block_lt_of_cell? _ _ (hT 0 (by decide)))⟩
 have HLK:Hid _:=hlk
 clear h ht hk hp hlk hT hg hQ
 go_enter Tryz.func15,Tryz.ntmps15
 go_wp2
 go_loopw [3] (fun j wr=>∃ (k:Nat) (G':Nat→Prop) (S':List Nat) (M':Mt) (rs:List RwR),k≤256∧j=.int .i64 (k:Int)∧Hid (GoI T0 q d B w G b n ak l0 M t0 S X k wr G' S' M' rs)) (fun j _=>256 - (intOf j).toNat)
 case atStart=>exact ⟨0,G,S,M,[],Nat.zero_le _,rfl,HI0⟩
 case round =>
  clear HI0
  obtain ⟨k,G',S',M',rs,hk,rfl,HI⟩:=hrel
  obtain ⟨aS,cS,c2,hU⟩:=HI.out.o.states
  have hf:=HI.out.st.few
  by_cases hlt:k<S'.length
  ·have hkl:=hlt
   have hidx:=fun w'=>hU.idx S'.length k w' hlt (Nat.le_refl _)
   have hce:=hU.cell k hlt
   have hat:(iU S').getD k 0=((atS S' k:Nat):Int):=by simp[iU,atS,List.getD_eq_getElem?_getD,List.getElem?_eq_getElem hlt]
   rw[hat]at hce
   have hmem:atS S' k∈S':=by
    unfold atS
    rw[List.getD_eq_getElem?_getD,List.getElem?_eq_getElem hlt]
    exact List.getElem_mem hlt
   have jr:=q99 HI.out.o HI.out.st HI.out.pr HLK.out ha hn (HTB.out _ _ HI.out.fr).1 (HTB.out _ _ HI.out.fr).2 (atS S' k) hmem
   have hall:allM n (256 - k) (rs.map rwL) S' M'=match rowM (atS S' k) (List.range (2 ^ n)) [] S' M' with
     | .error e=>.error e
     | .ok (row,S1,M1)=>allM n (256 - (k+1)) (rs.map rwL++[row]) S1 M1:=by
    rw[show 256 - k=(256 - (k+1))+1 by omega]
    conv=>lhs;unfold allM
    rw[if_pos (by simp[HI.out.kl];exact hlt)]
    simp only[List.length_map,HI.out.kl]
    cases rowM (atS S' k) (List.range (2 ^ n)) [] S' M' <;> rfl
   have HN:Hid (∀ e w',RoQ T0 q d B wr G' b n ak l0 M' (pcI t0) S' (rs.map (rwV (2 ^ n))) X (atS S' k) (2 ^ n) e w'→(∃ E:Int,e=.returned (.tuple #[.slice none 0 0,.int .i64 E])∧(E != 0)=true∧Q (.returned (.int .i64 E)) w') ∨
     ∃ a c mm,e=.returned (.tuple #[.slice (some ⟨wr.heap.size,0,none⟩) mm mm,.int .i64 0])∧w'.cell? ⟨b,5,none⟩=some (.slice a k c)∧(∃ rv,(w'.alloc (.cells #[.slice (some ⟨wr.heap.size,0,none⟩) mm mm] 47)).ownsRow B 47 1 (.slice a k c) k rv ∧
      ∀ w5 v',(w'.alloc (.cells #[.slice (some ⟨wr.heap.size,0,none⟩) mm mm] 47)).grownBy w5 (Value.slice a k c).ownBlock→w5.ownsRow B 47 1 v' (k+1) (rv++[.slice (some ⟨wr.heap.size,0,none⟩) mm mm])→(v'.ownBlock=(Value.slice a k c).ownBlock∨v'.ownBlock=some (w'.heap.size+1)) →
       w5.cell? ⟨b,5,none⟩=some (.slice a k c)∧w5.frozen? ⟨b,5,none⟩=false∧∃ G2 S2 M2 rs2,GoI T0 q d B w G b n ak l0 M t0 S X (k+1) (w5.setCell ⟨b,5,none⟩ v') G2 S2 M2 rs2)∧B≤w'.heap.size):=fun e w' hq=>by
    obtain ⟨G2,fr,⟨E,h0,h1,he⟩ | ⟨cs,S1,M1,h1,hcl,he,hO,hrow,hng,hls,hst,hpr⟩⟩:=hq
    ·refine Or.inl ⟨E,he,by simpa using h0,HQ.out _ _ ⟨G2,HI.out.fr.trans fr,Or.inl ⟨E,h0,?_,rfl⟩⟩⟩
     rw[HI.out.rr,hall,h1]
    ·obtain ⟨a,c,h2,h3,h4⟩:=hO.next (.slice (some ⟨wr.heap.size,0,none⟩) (2 ^ n) (2 ^ n))
     have hrl:(rs.map (rwV (2 ^ n))).length=k:=by simp[HI.out.kl]
     rw[hrl]at h2 h3 h4
     refine Or.inr ⟨a,c,2 ^ n,he,h2,⟨_,h3,fun w5 v' g1 g2 g3=>?_⟩,hO.Bs⟩
     obtain ⟨k1,k2,G3,k3,f3⟩:=h4 w5 v' g1 g2 g3
     have f13:=fr.trans f3
     refine ⟨k1,k2,G3,S1,M1,rs++[⟨wr.heap.size,cs⟩],HI.out.fr.trans f13,by rw[List.map_append];exact k3,by simp[HI.out.kl],fun r hr=>?_,HI.out.t.fr f13,hst,hpr,?_,?_⟩
     ·rcases List.mem_append.1 hr with hr | hr
      ·exact (HI.out.rows r hr).fr f13
      ·have:r=⟨wr.heap.size,cs⟩:=by simpa using hr
       subst this
       exact RwAt.fr ⟨hrow,hng,HI.out.o.Bs,hcl,hls⟩ f3
     ·have:=(q7w HI.out.st (HI.out.st.bd _ hmem) h1).pre.length_le
      omega
     ·rw[HI.out.rr,hall,h1,List.map_append]
      rfl
   clear hall hmem hat HI HTB HLK
   generalize atS S' k=s at *
   generalize hL:S'.length=L at *
   generalize adOf aS k=ad at *
   obtain ⟨ga,oa,sa⟩:=ad
   clear hU hL hkl
   go_wp2_with fail
   refine jr.mono ?_
   intro e w3 hq
   rcases HN.out e w3 hq with ⟨E,rfl,hne,hr⟩ | ⟨a3,c3,mm,rfl,c5,⟨rv,hO3,hN3⟩,hB3⟩
   ·have HR:Hid _:=hr
    clear jr hq hr HN
    go_wp2
    exact HR.out
   ·have HN3:Hid _:=hN3
    have hc3:(w3.alloc (.cells #[.slice (some ⟨wr.heap.size,0,none⟩) mm mm] 47)).cell? ⟨w3.heap.size,0,none⟩=some (.slice (some ⟨wr.heap.size,0,none⟩) mm mm):=qb (MapKept.heap_alloc w3 _).1 0
    clear jr hq HN hN3 hidx hce c2
    go_wp2_with (at_builtin;refine q2G Tryz.underlying29 q8K rfl (by decide) rfl _ _ rfl B _ k rv (.slice (some ⟨wr.heap.size,0,none⟩) mm mm) w3.heap.size rfl rfl hO3 hc3 rfl (by omega) (by simp;omega) ?_)
    intro v7 w7 hown7 hgr7 hloc7
    obtain ⟨a7,k7,rfl⟩:=qx hown7
    obtain ⟨c7,z7,G7,S7,M7,rs7,hI7⟩:=HN3.out w7 _ hgr7 hown7 (by simpa using hloc7)
    have HI7:Hid _:=hI7
    clear hown7 hgr7 hloc7 hI7 HN3 hO3 hc3 c5
    go_wp2
    go_roundw
    case rel=>exact ⟨k+1,G7,S7,M7,rs7,by omega,by go_num,HI7⟩
    case measure=>simp[intOf] <;> omega
  ·have HR:Hid (Q (.returned (.int .i64 0)) wr):=by
    have e1:allM n (256 - k) (rs.map rwL) S' M'=.ok (rs.map rwL,S',M'):=by
     cases hc:256 - k with
     | zero=>rfl
     | succ f =>
      unfold allM
      rw[if_neg (by simp[HI.out.kl];omega)]
    exact HQ.out _ _ ⟨G',HI.out.fr,Or.inr ⟨rs,S',M',by rw[HI.out.rr,e1],rfl,HI.out.o,HI.out.rows,HI.out.t⟩⟩
   have hlb:¬ k<S'.length:=hlt
   clear HI hU
   generalize S'.length=L at *
   go_wp2
   exact HR.out
noncomputable def mmE (n:Int) (ts:List Tk):Int:=if 0≤n∧n≤8 then (if chkE ts≠0 then (chkE ts:Int) else if bitsL ts >>> n.toNat=0 then 0 else 2) else 2
theorem q5I{T:Tr}(h:KT T):∀ t∈T.flat,t.2≤7:=fun t ht=>(q1v T h.1 t ht).2
theorem q7x(x k:Nat):((x:Int) / 2 ^ k)=((x >>> k:Nat):Int):=by
 rw[Nat.shiftRight_eq_div_pow]
 simp
theorem q6l{ts:List Tk}(h:∀ t∈ts,t.2≤7):bitsL ts<256:=by
 have:=q5j h ts.length
 rwa [List.take_length]at this
theorem q5p(n:Int)(a:Option Addr)(len cap:Nat)(ts:List Tk)(w:World)(hT:TkSl w a len cap ts) :
  Calls Tryz.prog 13 #[.int .i64 n,.slice a len cap] w fun e w'=>e=.returned (.int .i64 (mmE n ts))∧Below w.heap.size w w':=by
 have jc:=q3w n w
 have je:=q6T a len cap ts w hT
 have HT:Hid _:=hT
 have HL:Hid _:=hT.hlen
 obtain ⟨E,hE⟩:∃ E,E=mmE n ts:=⟨_,rfl⟩
 rw[← hE]
 have HE:Hid _:=hE
 clear hT hE
 by_cases hn:0≤n∧n≤8
 ·rw[decide_eq_true hn.1,decide_eq_true hn.2]at jc
  obtain ⟨h0,h8⟩:=hn
  obtain ⟨k,rfl⟩:=Int.eq_ofNat_of_zero_le h0
  have hk8:k≤8:=by omega
  go_enter Tryz.func13,Tryz.ntmps13
  go_wp2_with fail
  refine jc.mono ?_
  rintro e w1 ⟨rfl,rfl⟩
  clear jc
  go_wp2_with fail
  refine je.mono ?_
  rintro e w1 ⟨hb1,⟨hc,rfl⟩ | ⟨T,bb,kT,hts,hc,rfl,-⟩⟩
  ·have e1:E=(chkE ts:Int):=by rw[HE.out];unfold mmE;rw[if_pos ⟨h0,h8⟩,if_pos hc]
   have hne:(((chkE ts:Nat):Int) != 0)=true:=by simp;omega
   have HB1:Hid _:=hb1
   rw[← e1]at hne ⊢
   clear je hc hb1 HE e1
   go_wp2
   go_ret
   exact ⟨rfl,HB1.out⟩
  ·have h7:∀ t∈ts,t.2≤7:=by rw[hts];exact q5I kT
   have hsz:len≤1000000:=by have:=(qbc hc).1;have:=HL.out;omega
   have jb:=q4f a len cap ts w1 (HT.out.up hb1) h7 hsz
   have hsm:=q6l h7
   have HB1:Hid _:=hb1
   have e1:E=if bitsL ts >>> k=0 then 0 else 2:=by rw[HE.out];unfold mmE;rw[if_pos ⟨h0,h8⟩,if_neg (by omega)];rfl
   have HE1:Hid _:=e1
   clear je hb1 HE e1 h7 kT hts hc
   generalize bitsL ts=x at *
   go_wp2_with fail
   refine jb.mono ?_
   rintro e w2 ⟨rfl,hb2⟩
   have HB2:Hid _:=qd HB1.out hb2
   clear jb hb2
   by_cases hx:x >>> k=0
   ·have hd:((x:Int) / 2 ^ k != 0)=false:=by rw[q7x,hx];rfl
    have e2:E=0:=by rw[HE1.out,if_pos hx]
    subst e2
    go_wp2
    go_ret
    exact ⟨rfl,HB2.out⟩
   ·have hd:((x:Int) / 2 ^ k != 0)=true:=by
     rw[q7x,bne_iff_ne]
     omega
    have e2:E=2:=by rw[HE1.out,if_neg hx]
    subst e2
    go_wp2
    go_ret
    exact ⟨rfl,HB2.out⟩
 ·have e1:E=2:=by rw[HE.out];unfold mmE;rw[if_neg hn]
  subst e1
  have hf:(decide (0≤n)&&decide (n≤8))=false:=by
   rw[Bool.and_eq_false_iff,decide_eq_false_iff_not,decide_eq_false_iff_not]
   omega
  rw[hf]at jc
  clear je HE
  go_enter Tryz.func13,Tryz.ntmps13
  go_wp2_with fail
  refine jc.mono ?_
  rintro e w1 ⟨rfl,rfl⟩
  clear jc
  go_wp2
  go_ret
  exact ⟨rfl,Below.refl _ _⟩
section
variable {T0:Tr} {q:Option Addr} {d B:Nat} {w:World} {G:Nat→Prop} {b n ak:Nat} {l0:List Nat} {M:Mt} {vT:Value} {S:List Nat} {rv:List Value}
theorem MkO.setT(h:MkO T0 q d B w G b n ak l0 M vT S rv)(v:Value):(∃ u,w.cell? ⟨b,3,none⟩=some u)∧w.frozen? ⟨b,3,none⟩=false∧MkO T0 q d B (w.setCell ⟨b,3,none⟩ v) G b n ak l0 M v S rv∧Fr w (w.setCell ⟨b,3,none⟩ v) G G:=by
 obtain ⟨F,p,mp,vS,vF,vN,fs,hr,hp,hG⟩:=h
 obtain ⟨m2,m3⟩:=hr.setT v
 exact ⟨⟨_,hr.cT⟩,hr.fz 3,⟨F,p,mp,vS,vF,vN,fs,m2,hp,hG⟩,m3.alike (fun k hk=>(hG k).2 hk) (fun k hk=>(hG k).1 hk)⟩
end
theorem qdV{T:Tr}{q:Option Addr}{d:Nat}{w w2 w4:World}{F:Nat→Prop}{p n ak:Nat}{l0:List Nat}{M:Mt}{items:List It}(hp:PrgAt w2 F p l0 M T q d items)(hF:∀ k,F k→w.heap.size≤k)(hw:w.heap.size≤w2.heap.size)(hb4:Below (w2.alloc (.map #[] 0)).heap.size (w2.alloc (.map #[] 0)) w4) :
  ∃ G,MkO T q d w2.heap.size (w4.alloc (.cells (mkA p n (.slice none 0 0) (.slice none 0 0) (.slice none 0 0) (.slice none 0 0) w2.heap.size ak) 58)) G w4.heap.size n ak l0 M (.slice none 0 0) [] []∧(∀ k,G k→w.heap.size≤k):=by
 have hbm:=qc w2 (.map #[] 0)
 have hb24:Below w2.heap.size w2 w4:=hbm.trans (hb4.mono hbm.size)
 have hbn:=qc w4 (.cells (mkA p n (.slice none 0 0) (.slice none 0 0) (.slice none 0 0) (.slice none 0 0) w2.heap.size ak) 58)
 have hb25:=qd hb24 hbn
 have h4:w2.heap.size<w4.heap.size:=by have:=hb4.size;simp at this;omega
 have hnum:NumU (w4.alloc (.cells (mkA p n (.slice none 0 0) (.slice none 0 0) (.slice none 0 0) (.slice none 0 0) w2.heap.size ak) 58)) w2.heap.size 0 (posN []):=by
  refine NumU.far (w:=w2.alloc (.map #[] 0)) ((qbB w2).alike fun x _=>rfl) ?_
  exact (hbn.block _ h4).trans (hb4.block _ (by simp))
 have hnil:∀ (e:TypeId) (w':World),w'.ownsRow w2.heap.size e 1 (.slice none 0 0) 0 []:=fun e w'=>⟨rfl,Or.inl ⟨rfl,rfl⟩⟩
 refine ⟨FM F w4.heap.size w2.heap.size (.slice none 0 0) (.slice none 0 0) (.slice none 0 0),⟨F,p,w2.heap.size,_,_,_,[],⟨⟨items,hp.o.up hb25,hp.u.up hb25,hp.l,hp.g⟩,(MapKept.heap_alloc w4 _).1,hnil _ _,hnil _ _,hnil _ _,hnum,fun k hk=>hp.u.sl.blk k hk,Nat.le_of_lt h4,Nat.le_refl _,fun k hk hFk=>?_⟩,⟨rfl,fun j c hc=>(by simp at hc),fun s hs=>(by cases hs),by simp⟩,fun k=>Iff.rfl⟩,fun k hk=>?_⟩
 ·have hl:=hp.o.lt k hFk
  rcases hk with hk | hk | hk | hk | hk
  ·omega
  ·omega
  ·cases hk
  ·cases hk
  ·cases hk
 ·rcases hk with hk | hk | hk | hk | hk | hk
  ·exact hF k hk
  ·omega
  ·omega
  ·cases hk
  ·cases hk
  ·cases hk
def BeQ (w:World) (ts:List Tk) (n:Nat) (e:Ending) (w':World):Prop:=Below w.heap.size w w'∧∃ T,KT T∧ts=T.flat ∧
 ((∃ (E:Nat) (v:Option Addr),E≠0∧nfaM T n=.error E∧e=.returned (.tuple #[.pointer v,.int .i64 (E:Int)])) ∨
  ∃ q d B G b l0 M t0 S,needM T []=some (l0,M)∧putS l0 []=some (t0.ts,S)∧e=.returned (.tuple #[.pointer (some ⟨b,0,none⟩),.int .i64 0])∧MkO T q d B w' G b n (bitsL ts) l0 M (pcI t0) S []∧IsU B w' G t0∧StK S M∧PrM (PrX ts) M∧(∀ k,G k→w.heap.size≤k)∧w.heap.size≤B)
theorem q6J(n:Nat)(a:Option Addr)(len cap:Nat)(ts:List Tk)(w:World)(hT:TkSl w a len cap ts)(hc0:chkE ts=0)(htab:Tab64 w) :
  Calls Tryz.prog 14 #[.int .i64 (n:Int),.slice a len cap] w (BeQ w ts n):=by
 obtain ⟨Q,hQ⟩:∃ Q:Ending→World→Prop,Q=BeQ w ts n:=⟨_,rfl⟩
 have HQ:Hid (∀ e w',BeQ w ts n e w'→Q e w'):=fun e w' h=>by rw[hQ];exact h
 rw[← hQ]
 have jn:=q8n a len cap ts w hT
 have hmm:=@run_makeMap Tryz.prog
 have HT:Hid _:=hT
 have HTB:Hid _:=htab
 have HC0:Hid _:=hc0
 have hsz:len≤1000000:=by have:=(qbc hc0).1;have:=hT.hlen;omega
 clear hT htab hQ hc0
 go_enter Tryz.func14,Tryz.ntmps14
 go_wp2_with fail
 refine jn.mono ?_
 rintro e w2 ⟨hb2,⟨hc,_⟩ | ⟨T,kT,hts,_,⟨hn,rfl⟩ | ⟨l0,M,p,F,q,d,items,hn,rfl,hO,hU,hF⟩⟩⟩
 ·exact absurd HC0.out hc
 ·have HR:Hid (Q (.returned (.tuple #[.pointer none,.int .i64 9])) w2):=HQ.out _ _ ⟨hb2,T,kT,hts,Or.inl ⟨9,none,by decide,by unfold nfaM;rw[hn],rfl⟩⟩
  clear jn hb2 kT hts hn
  go_wp2
  exact HR.out
 ·have htl:=World.block_lt_of_cell? _ _ (HTB.out 0 (by decide))
  have hl0:LstH l0:=⟨qR (qT T q5B kT hn).1.bd hO.few,q1N T hn⟩
  have hp:PrgAt w2 F p l0 M T q d items:=⟨hO,hU,hl0,fun e=>Nat.lt_irrefl _ (Nat.lt_of_lt_of_le htl (hF _ e))⟩
  have h7:∀ t∈ts,t.2≤7:=by rw[hts];exact q5I kT
  have hbm:Below w2.heap.size w2 (w2.alloc (.map #[] 0)):=qc w2 _
  have jb:=q4f a len cap ts (w2.alloc (.map #[] 0)) (HT.out.up (qd hb2 hbm)) h7 hsz
  have HNX:Hid (∀ w4,Below (w2.alloc (.map #[] 0)).heap.size (w2.alloc (.map #[] 0)) w4→Calls Tryz.prog 34 #[.pointer (some ⟨p,0,none⟩)] (w4.alloc (.cells (mkA p n (.slice none 0 0) (.slice none 0 0) (.slice none 0 0) (.slice none 0 0) w2.heap.size (bitsL ts)) 58)) fun e w6=>∃ a6 c6 L6,e=.returned (.slice a6 L6 c6) ∧
    Calls Tryz.prog 33 #[.pointer (some ⟨w4.heap.size,0,none⟩),.slice a6 L6 c6] w6 fun e w7=>∃ u E a7 n7 c7,e=.returned (.tuple #[.slice a7 n7 c7,.int .i64 E])∧w7.cell? ⟨w4.heap.size,3,none⟩=some u∧w7.frozen? ⟨w4.heap.size,3,none⟩=false∧Q (.returned (.tuple #[.pointer (some ⟨w4.heap.size,0,none⟩),.int .i64 E])) (w7.setCell ⟨w4.heap.size,3,none⟩ (.slice a7 n7 c7))):=fun w4 hb4=>by
   obtain ⟨G,hM,hGe⟩:=qdV (w:=w) (n:=n) (ak:=bitsL ts) hp hF hb2.size hb4
   have hb24:Below w2.heap.size w2 w4:=hbm.trans (hb4.mono hbm.size)
   have hb25:=qd hb24 (qc w4 (.cells (mkA p n (.slice none 0 0) (.slice none 0 0) (.slice none 0 0) (.slice none 0 0) w2.heap.size (bitsL ts)) 58))
   refine (q6b (hO.up hb25) (hU.up hb25) hl0.few).mono ?_
   intro e w6 hcl
   obtain ⟨hb6,a6,c6,rfl,hU6⟩:=qdG hM.lt hcl
   refine ⟨a6,c6,_,rfl,?_⟩
   have hM6:=hM.up hb6
   refine (q3k hM6 a6 l0.length c6 l0 hU6.sl hU6.nf hl0.sm hl0.few).mono ?_
   rintro e w7 ⟨G7,f7,h7⟩
   have hb26:=qd hb25 hb6
   have hbw6:=qd hb2 hb26
   have hstk:∀ st S,putS l0 []=some (st,S)→StK S M:=fun st S h=>by
    obtain ⟨e,_⟩:=qT T q5B kT hn
    have k:=q2e h
    exact ⟨e.good,fun z hz=>(k.mem z hz).elim (fun h=>by cases h) (fun h=>q6k e.bd h),k.few (by simp)⟩
   rcases h7 with ⟨h8,rfl,S2,hO7⟩ | ⟨r,S1,h8,hrl,rfl,hO7,hrow7,hng7⟩
   ·obtain ⟨⟨u,hu⟩,hz,_,f8⟩:=hO7.setT (.slice none 0 0)
    have hbb:Below w.heap.size w (w7.setCell ⟨w4.heap.size,3,none⟩ (.slice none 0 0)):=hbw6.trans ((f7.trans f8).below hGe hbw6.size)
    exact ⟨u,10,_,_,_,rfl,hu,hz,HQ.out _ _ ⟨hbb,T,kT,hts,Or.inl ⟨10,_,by decide,by unfold nfaM;simp only[hn,h8],rfl⟩⟩⟩
   ·obtain ⟨⟨u,hu⟩,hz,hMs,f8⟩:=hO7.setT (.slice (some ⟨w6.heap.size,0,none⟩) l0.length l0.length)
    have hI:IsU w2.heap.size w7 G7 ⟨some ⟨w6.heap.size,0,none⟩,l0.length,l0.length,r⟩:=by
     refine ⟨⟨by simp[hrl],Nat.le_refl _,by show l0.length≤maxLen;have:=hl0.few;unfold maxLen;omega,fun m k w hk hm=>q1c Tryz.underlying27 q1L (by simp) k w hk,fun k hk=>?_,fun k hk=>?_,by simp⟩,hl0.few,fun k hk=>?_,fun k hk=>?_⟩
     ·simp only[adOf,qh,Nat.zero_add]
      exact hrow7.cell (by simp[hrl];exact hk)
     ·simp only[adOf,qh]
      exact hrow7.lt
     ·simp only[adOf,qh]
      exact hng7
     ·simp only[adOf,qh]
      exact hb26.size
    have f68:=f7.trans f8
    have hbb:Below w.heap.size w (w7.setCell ⟨w4.heap.size,3,none⟩ (.slice (some ⟨w6.heap.size,0,none⟩) l0.length l0.length)):=hbw6.trans (f68.below hGe hbw6.size)
    refine ⟨u,0,_,_,_,rfl,hu,hz,HQ.out _ _ ⟨hbb,T,kT,hts,Or.inr ⟨q,d,_,G7,_,l0,M,⟨some ⟨w6.heap.size,0,none⟩,l0.length,l0.length,r⟩,S1,hn,h8,rfl,hMs,hI.fr f8,hstk _ _ h8,?_,f68.ge hGe hbw6.size,hb2.size⟩⟩⟩
    exact q1S T (by rw[hts];exact fun p hp=>hp) (fun f hf=>(by cases hf)) hn
  clear jn hb2 kT hts hn hO hU hF htl hl0 hp h7 hbm
  unfold pgV
  generalize bitsL ts=ak at *
  go_wp2_with fail
  refine jb.mono ?_
  rintro e w4 ⟨rfl,hb4⟩
  have js:=HNX.out w4 hb4
  unfold mkA at js
  clear jb hb4 HNX
  go_wp2_with fail
  refine js.mono ?_
  rintro e w6 ⟨a6,c6,L6,rfl,jt⟩
  clear js
  go_wp2_with fail
  refine jt.mono ?_
  rintro e w7 ⟨u,E,a7,n7,c7,rfl,hu,hz,hq⟩
  have HR:Hid _:=hq
  clear jt hq
  go_wp2
  exact HR.out
end Go.Proofs.YtekeaodpdcnfjaaGreatDoor
