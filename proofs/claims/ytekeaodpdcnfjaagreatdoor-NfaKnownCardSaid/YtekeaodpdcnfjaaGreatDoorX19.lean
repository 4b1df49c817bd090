/- Texts of the proof, put together: what it uses. -/
import Derived.Test.YtekeaodpdcnfjaaGreatDoorX03
import Derived.Test.YtekeaodpdcnfjaaGreatDoorX06
import Derived.Test.YtekeaodpdcnfjaaGreatDoorX08
import Derived.Test.YtekeaodpdcnfjaaGreatDoorX10
import Derived.Test.YtekeaodpdcnfjaaGreatDoorX15
set_option maxRecDepth 100000
set_option maxHeartbeats 16000000
namespace Go.Proofs.YtekeaodpdcnfjaaGreatDoor
open Go.RowKit Go.Maps
theorem qaU(a b:Nat)(ha:a<4611686018427387904)(hb:b<4611686018427387904):bits .or .i64 (a:Int) (b:Int)=((a ||| b:Nat):Int):=by
 have hx:a ||| b<2 ^ 62:=Nat.or_lt_two_pow (by omega) (by omega)
 show IntKind.i64.wrap ((BitVec.ofInt 64 (a:Int) ||| BitVec.ofInt 64 (b:Int)).toNat:Int)=_
 rw[BitVec.toNat_or,ofInt_u64 a (by omega),ofInt_u64 b (by omega),IntKind.wrap_i64]
 omega
theorem qaj(a b:Nat)(ha:a<4611686018427387904)(hb:b<4611686018427387904):bits .and .i64 (a:Int) (b:Int)=((a &&& b:Nat):Int):=by
 have hx:a &&& b<2 ^ 62:=Nat.and_lt_two_pow _ (by omega)
 show IntKind.i64.wrap ((BitVec.ofInt 64 (a:Int) &&& BitVec.ofInt 64 (b:Int)).toNat:Int)=_
 rw[BitVec.toNat_and,ofInt_u64 a (by omega),ofInt_u64 b (by omega),IntKind.wrap_i64]
 omega
theorem q3w(n:Int)(w:World):Calls Tryz.prog 21 #[.int .i64 n] w fun e w'=>e=.returned (.bool (decide (0≤n)&&decide (n≤8)))∧w'=w:=by
 by_cases h1:0≤n
 ·have b1:decide (0≤n)=true:=decide_eq_true h1
  go_enter Tryz.func21,Tryz.ntmps21
  go_wp2
  go_ret
  simp[h1]
 ·have b1:decide (0≤n)=false:=decide_eq_false h1
  go_enter Tryz.func21,Tryz.ntmps21
  go_wp2
  go_ret
  simp
theorem qaR{ts:List Tk}{k:Nat}(h:k<ts.length):bitsL (ts.take (k+1))=if ts[k].1=2 then bitsL (ts.take k) ||| 2 ^ ts[k].2 else bitsL (ts.take k):=by
 rw[List.take_add_one,List.getElem?_eq_getElem h]
 exact qbb _ _
theorem q5j{ts:List Tk}(h:∀ t∈ts,t.2≤7)(k:Nat):bitsL (ts.take k)<256:=qcR (n:=8) fun p hp=>by
 have:=h _ (List.mem_of_mem_take hp)
 dsimp only at this
 omega
theorem pow7{p:Nat}(h:p≤7):(2:Nat) ^ p≤128:=Nat.pow_le_pow_right (n:=2) (by decide) h
theorem q4f(a:Option Addr)(len cap:Nat)(ts:List Tk)(w:World)(hT:TkSl w a len cap ts)(h7:∀ t∈ts,t.2≤7)(hsz:len≤1000000) :
  Calls Tryz.prog 31 #[.slice a len cap] w fun e w'=>e=.returned (.int .i64 (bitsL ts:Int))∧Below w.heap.size w w':=by
 have hlen:=hT.hlen
 have HT:Hid _:=hT
 have H7:Hid _:=h7
 clear hT h7
 go_enter Tryz.func31,Tryz.ntmps31
 go_wp2
 go_loopw [3,8] (fun m j wr=>∃ (k:Nat),k≤len∧j=.int .i64 k∧m=.int .i64 (bitsL (ts.take k):Int)∧Hid (Below w.heap.size w wr)) (fun _ j _=>len - (intOf j).toNat)
 case atStart=>exact ⟨0,Nat.zero_le _,rfl,rfl,Below.refl _ _⟩
 case round =>
  obtain ⟨k,hk,rfl,rfl,hbk⟩:=hrel
  by_cases hlt:k<len
  ·have hkl:k<ts.length:=by omega
   obtain ⟨g,o,s,hidx0,hc0,hc1,hgw,_⟩:=(HT.out.up hbk.out).at Tryz.underlying22 q1M k hlt
   have hidx:=fun w'=>hidx0 len w' hlt
   have hp7:=H7.out ts[k] (List.getElem_mem hkl)
   have hsm:=q5j H7.out k
   have HN:Hid _:=qaR hkl
   clear hidx0
   generalize ts[k]=t at *
   generalize bitsL (ts.take k)=x at *
   obtain ⟨op,pp⟩:=t
   dsimp only at *
   by_cases h2:op=2
   ·subst h2
    have hmin:min pp 64=pp:=by omega
    have HP:=pow7 hp7
    have HSH:Hid (wrap64 ((2:Int) ^ pp)=(2:Int) ^ pp):=by
     show _=_
     rw[show ((2:Int) ^ pp)=((2 ^ pp:Nat):Int) by simp]
     generalize 2 ^ pp=y at HP ⊢
     unfold wrap64
     omega
    have HOR:Hid _:=qaU x (2 ^ pp) (by omega) (by omega)
    have HN2:Hid (bitsL (ts.take (k+1))=x ||| 2 ^ pp):=by show _=_;rw[HN.out];rfl
    go_wp2
    go_roundw
    case rel =>
     refine ⟨k+1,by omega,by go_num,?_,hbk.out.alloc hbk.out.size _⟩
     rw[HN2.out,← HOR.out]
     simp
     rw[HSH.out]
    case measure=>simp[intOf];omega
   ·have HN2:Hid (bitsL (ts.take (k+1))=x):=by
     show _=_
     rw[HN.out,if_neg h2]
    have h2':((op:Int) == 2)=false:=by rw[beq_eq_false_iff_ne];omega
    go_wp2
    go_roundw
    case rel=>exact ⟨k+1,by omega,by go_num,by rw[HN2.out],hbk.out.alloc hbk.out.size _⟩
    case measure=>simp[intOf];omega
  ·obtain rfl:k=len:=by omega
   have HF:Hid (bitsL (ts.take k)=bitsL ts):=by show _=_;rw[List.take_of_length_le (by omega)]
   go_wp2
   go_ret
   exact ⟨by rw[HF.out];rfl,hbk.out⟩
theorem q27{P:Program}{T e:TypeId}(q:IntKind)(hu:P.underlying T=some (.slice e))(hs:(P.info? e).map (·.size)=some 1){a:Option Addr}{cap n:Nat}(hn:a=none→n=0)(k:Nat)(w:World)(hk:k<n) :
  (Instr.indexAt T (.slice a n cap) (.int q k)).run P w=.ok (.pointer (some (adOf a k))) w:=by
 cases a with
 | none=>have:=hn rfl;omega
 | some x=>simp[Instr.indexAt,run_underlying hu,asIntOf,q6z hs,hk,adOf,Result.andThen,go_sem]
structure VSl (w:World) (a:Option Addr) (len cap:Nat) (vs:List Value):Prop where
 hlen:vs.length=len
 nn:a=none→len=0
 bd:len≤1000000
 cell:∀ (k:Nat) (v:Value),vs[k]? = some v→w.cell? (adOf a k)=some v
theorem VSl.up{w w':World}{a:Option Addr}{len cap:Nat}{vs:List Value}(h:VSl w a len cap vs)(hb:Below w.heap.size w w'):VSl w' a len cap vs:=⟨h.hlen,h.nn,h.bd,fun k v hv=>qm (h.cell k v hv) hb⟩
theorem qdq{w:World}{base e n:Nat}{v:Value}{xs:List Value}(h:w.ownsRow base e 1 v n xs)(hb:n≤1000000):∃ a cap,v=.slice a n cap∧VSl w a n cap xs:=by
 obtain ⟨hl,h⟩:=h
 rw[Nat.mul_one]at hl
 rcases h with ⟨rfl,rfl⟩ | ⟨g,cap,cur,rfl,hg,hcell,hnc,hcm,hsz,htk⟩
 ·obtain rfl:=List.eq_nil_of_length_eq_zero hl
  exact ⟨none,0,rfl,rfl,fun _=>rfl,Nat.zero_le _,fun k v hv=>by simp at hv⟩
 ·refine ⟨some ⟨g,0,none⟩,cap,rfl,hl,fun h=>(by cases h),hb,fun k v hv=>?_⟩
  have hk:k<n:=by have:=(List.getElem?_eq_some_iff.1 hv).1;omega
  have e1:(cur.toList.take (n*1))[k]? = some v:=by rw[htk];exact hv
  rw[List.getElem?_take,if_pos (by omega)]at e1
  simp[adOf,qh,World.cell?,hcell]
  simpa using e1
def LIs (w:World) (v:Value) (l:List Nat):Prop:=∃ a c,v=.slice a l.length c∧l.length≤1000000∧ISl w a l.length c l
def LLs (w:World) (v:Value) (ll:List (List Nat)):Prop:=∃ a c us,v=.slice a ll.length c∧VSl w a ll.length c us∧∀ (k:Nat) (l:List Nat),ll[k]? = some l→∃ u,us[k]? = some u∧LIs w u l
def L3s (w:World) (v:Value) (rows:List (List (List Nat))):Prop:=∃ a c us,v=.slice a rows.length c∧VSl w a rows.length c us∧∀ (k:Nat) (ll:List (List Nat)),rows[k]? = some ll→∃ u,us[k]? = some u∧LLs w u ll
theorem LIs.up{w w':World}{v:Value}{l:List Nat}(h:LIs w v l)(hb:Below w.heap.size w w'):LIs w' v l:=by
 obtain ⟨a,c,h1,h2,h3⟩:=h
 exact ⟨a,c,h1,h2,h3.up hb⟩
theorem LLs.up{w w':World}{v:Value}{l:List (List Nat)}(h:LLs w v l)(hb:Below w.heap.size w w'):LLs w' v l:=by
 obtain ⟨a,c,us,h1,h2,h3⟩:=h
 exact ⟨a,c,us,h1,h2.up hb,fun k l hl=>(h3 k l hl).imp fun u hu=>⟨hu.1,hu.2.up hb⟩⟩
theorem L3s.up{w w':World}{v:Value}{l:List (List (List Nat))}(h:L3s w v l)(hb:Below w.heap.size w w'):L3s w' v l:=by
 obtain ⟨a,c,us,h1,h2,h3⟩:=h
 exact ⟨a,c,us,h1,h2.up hb,fun k l hl=>(h3 k l hl).imp fun u hu=>⟨hu.1,hu.2.up hb⟩⟩
def IsSl (v:Value):Prop:=∃ a n c,v=.slice a n c
def nfV (n:Nat) (vS vT vF vN:Value):Value:=.agg #[.int .i64 (n:Int),vS,vT,vF,vN]
def nfO (n:Nat) (vS vT vF vN:Value):Obj:=.cells #[.int .i64 (n:Int),vS,vT,vF,vN] 31 (0,0)
structure NfAt (w:World) (vS vT vF vN:Value) (S st:List Nat) (fs:List Bool) (rows:List (List (List Nat))):Prop where
 s:∃ a c,vS=.slice a S.length c∧USl w a S.length c S
 t:LIs w vT st
 f:∃ a c,vF=.slice a fs.length c∧BoSl w a fs.length c fs
 nx:L3s w vN rows
theorem NfAt.up{w w':World}{vS vT vF vN:Value}{S st:List Nat}{fs:List Bool}{rows:List (List (List Nat))}(h:NfAt w vS vT vF vN S st fs rows)(hb:Below w.heap.size w w'):NfAt w' vS vT vF vN S st fs rows:=by
 obtain ⟨a,c,h1,h2⟩:=h.s
 obtain ⟨a2,c2,h3,h4⟩:=h.f
 exact ⟨⟨a,c,h1,h2.up hb⟩,h.t.up hb,⟨a2,c2,h3,h4.up hb⟩,h.nx.up hb⟩
structure NfK (n:Nat) (S st:List Nat) (fs:List Bool) (rows:List (List (List Nat))):Prop where
 n8:n≤8
 few:S.length≤256
 fl:fs.length=S.length
 rl:rows.length=S.length
 st:∀ q∈st,q<S.length
 row:∀ (q:Nat) (row:List (List Nat)),rows[q]? = some row→row.length=2 ^ n∧∀ (x:Nat) (l:List Nat),row[x]? = some l→∀ j∈l,j<S.length
theorem q2E(n:Nat)(aS:Option Addr)(N cS:Nat)(vT vF vN:Value)(v:Value)(l:List Nat)(w:World)(hT:IsSl vT)(hF:IsSl vF)(hX:IsSl vN)(hl:LIs w v l)(hlt:∀ q∈l,q<N) :
  Calls Tryz.prog 22 #[nfV n (.slice aS N cS) vT vF vN,v] w fun e w'=>e=.returned (.bool true)∧Below w.heap.size w w':=by
 obtain ⟨a,c,rfl,bdl,hI⟩:=hl
 obtain ⟨aT,nT,cT,rfl⟩:=hT
 obtain ⟨aF,nF,cF,rfl⟩:=hF
 obtain ⟨aN,nN,cN,rfl⟩:=hX
 have hb0:=qc w (nfO n (.slice aS N cS) (.slice aT nT cT) (.slice aF nF cF) (.slice aN nN cN))
 have hblk:=(MapKept.heap_alloc w (nfO n (.slice aS N cS) (.slice aT nT cT) (.slice aF nF cF) (.slice aN nN cN))).1
 have c1:(w.alloc (nfO n (.slice aS N cS) (.slice aT nT cT) (.slice aF nF cF) (.slice aN nN cN))).cell? ⟨w.heap.size,1,none⟩=some (.slice aS N cS):=qb hblk 1
 have HI:Hid _:=hI.up hb0
 have HB:Hid _:=hb0
 have HLT:Hid _:=hlt
 clear hI hb0 hblk hlt
 unfold nfV
 unfold nfO at *
 generalize hL:l.length=L at *
 have HL:Hid _:=hL
 clear hL
 go_enter Tryz.func22,Tryz.ntmps22
 go_wp2
 go_loopw [9] (fun j wr=>∃ (k:Nat),k≤L∧j=.int .i64 (k:Int)∧wr=w.alloc (.cells #[.int .i64 (n:Int),.slice aS N cS,.slice aT nT cT,.slice aF nF cF,.slice aN nN cN] 31 (0,0))) (fun j _=>L - (intOf j).toNat)
 case atStart=>exact ⟨0,Nat.zero_le _,rfl,rfl⟩
 case round =>
  obtain ⟨k,hk,rfl,rfl⟩:=hrel
  by_cases hlt:k<L
  ·have hidx:=fun w'=>HI.out.idx L k w' hlt (Nat.le_refl _)
   have hce:=HI.out.cell k hlt
   have hkl:k<l.length:=by have:=HL.out;omega
   have hgd:(iU l).getD k 0=((l[k]:Nat):Int):=by simp[iU,List.getD_eq_getElem?_getD,List.getElem?_eq_getElem hkl]
   rw[hgd]at hce
   have hq:=HLT.out l[k] (List.getElem_mem hkl)
   have d1:decide (((l[k]:Nat):Int)<0)=false:=decide_eq_false (by omega)
   have d2:decide ((N:Int)≤((l[k]:Nat):Int))=false:=decide_eq_false (by omega)
   clear hgd
   generalize l[k]=x at *
   generalize adOf a k=ad at *
   obtain ⟨ga,oa,sa⟩:=ad
   go_wp2
   go_roundw
   case rel=>exact ⟨k+1,by omega,by go_num,trivial⟩
   case measure=>simp[intOf];omega
  ·obtain rfl:k=L:=by omega
   go_wp2
   go_ret
   exact ⟨rfl,HB.out⟩
theorem q2j:(Tryz.prog.info? 27).map (·.size)=some 1:=by kernel_rfl
theorem q20:(Tryz.prog.info? 47).map (·.size)=some 1:=by kernel_rfl
theorem pow8{n:Nat}(h:n≤8):(2:Nat) ^ n≤256:=Nat.pow_le_pow_right (n:=2) (by decide) h
theorem shl8{n:Nat}(h:n≤8):IntKind.i64.wrap (2 ^ n)=((2 ^ n:Nat):Int):=by
 have HP:=pow8 h
 rw[IntKind.wrap_i64,show ((2:Int) ^ n)=((2 ^ n:Nat):Int) by simp]
 generalize 2 ^ n=y at HP ⊢
 omega
structure NfB (w:World) (g n:Nat) (aS:Option Addr) (N cS:Nat) (aT:Option Addr) (nT cT:Nat) (aF:Option Addr) (nF cF:Nat) (aN:Option Addr) (nN cN:Nat):Prop where
 c0:w.cell? ⟨g,0,none⟩=some (.int .i64 (n:Int))
 c1:w.cell? ⟨g,1,none⟩=some (.slice aS N cS)
 c2:w.cell? ⟨g,2,none⟩=some (.slice aT nT cT)
 c3:w.cell? ⟨g,3,none⟩=some (.slice aF nF cF)
 c4:w.cell? ⟨g,4,none⟩=some (.slice aN nN cN)
theorem NfB.up{w w':World}{g n:Nat}{aS:Option Addr}{N cS:Nat}{aT:Option Addr}{nT cT:Nat}{aF:Option Addr}{nF cF:Nat}{aN:Option Addr}{nN cN:Nat}(h:NfB w g n aS N cS aT nT cT aF nF cF aN nN cN)(hb:Below w.heap.size w w'):NfB w' g n aS N cS aT nT cT aF nF cF aN nN cN:=⟨qm h.c0 hb,qm h.c1 hb,qm h.c2 hb,qm h.c3 hb,qm h.c4 hb⟩
theorem q1j(w:World)(n:Nat)(aS:Option Addr)(N cS:Nat)(aT:Option Addr)(nT cT:Nat)(aF:Option Addr)(nF cF:Nat)(aN:Option Addr)(nN cN:Nat):NfB (w.alloc (.cells #[.int .i64 (n:Int),.slice aS N cS,.slice aT nT cT,.slice aF nF cF,.slice aN nN cN] 31 (0,0))) w.heap.size n aS N cS aT nT cT aF nF cF aN nN cN:=by
 have h:=(MapKept.heap_alloc w (.cells #[.int .i64 (n:Int),.slice aS N cS,.slice aT nT cT,.slice aF nF cF,.slice aN nN cN] 31 (0,0))).1
 exact ⟨qb h 0,qb h 1,qb h 2,qb h 3,qb h 4⟩
theorem q5b(n:Nat)(aS:Option Addr)(N cS:Nat)(vT vF vN:Value)(v:Value)(ll:List (List Nat))(w:World)(hT:IsSl vT)(hF:IsSl vF)(hX:IsSl vN)(hl:LLs w v ll)(hn:n≤8)(hlen:ll.length=2 ^ n)(hlt:∀ (x:Nat) (l:List Nat),ll[x]? = some l→∀ q∈l,q<N) :
  Calls Tryz.prog 23 #[nfV n (.slice aS N cS) vT vF vN,v] w fun e w'=>e=.returned (.bool true)∧Below w.heap.size w w':=by
 obtain ⟨a,c,us,rfl,hV,hu⟩:=hl
 obtain ⟨aT,nT,cT,rfl⟩:=hT
 obtain ⟨aF,nF,cF,rfl⟩:=hF
 obtain ⟨aN,nN,cN,rfl⟩:=hX
 have HNB:Hid _:=q1j w n aS N cS aT nT cT aF nF cF aN nN cN
 have HB0:Hid _:=qc w (.cells #[.int .i64 (n:Int),.slice aS N cS,.slice aT nT cT,.slice aF nF cF,.slice aN nN cN] 31 (0,0))
 have c0:=HNB.out.c0
 have hsh:=shl8 hn
 have hmin:min n 64=n:=by omega
 have hpl:((ll.length:Int) != ((2 ^ n:Nat):Int))=false:=by rw[hlen];simp
 have HV:Hid _:=hV
 have HU:Hid _:=hu
 have HLT:Hid _:=hlt
 have bdl:=hV.bd
 have HNN:Hid _:=hV.nn
 clear hV hu hlt hlen
 generalize hL:ll.length=L at *
 have HL:Hid _:=hL
 clear hL
 have HA:Hid (∀ w' u l,LIs w' u l→(∀ q∈l,q<N)→Calls Tryz.prog 22 #[.agg #[.int .i64 (n:Int),.slice aS N cS,.slice aT nT cT,.slice aF nF cF,.slice aN nN cN],u] w' fun e w2=>e=.returned (.bool true)∧Below w'.heap.size w' w2):=fun w' u l h1 h2=>q2E n aS N cS _ _ _ u l w' ⟨_,_,_,rfl⟩ ⟨_,_,_,rfl⟩ ⟨_,_,_,rfl⟩ h1 h2
 unfold nfV
 generalize hm:(2 ^ n:Nat)=m at *
 clear hm
 go_enter Tryz.func23,Tryz.ntmps23
 go_wp2
 go_loopw [15] (fun j wr=>∃ (k:Nat),k≤L∧j=.int .i64 (k:Int)∧Hid (NfB wr w.heap.size n aS N cS aT nT cT aF nF cF aN nN cN)∧Hid (Below w.heap.size w wr)) (fun j _=>L - (intOf j).toNat)
 case atStart=>exact ⟨0,Nat.zero_le _,rfl,HNB,HB0⟩
 case round =>
  clear HNB HB0 c0
  obtain ⟨k,hk,rfl,HNB,HB⟩:=hrel
  by_cases hlt:k<L
  ·have hidx:=fun w'=>q27 (P:=Tryz.prog) (a:=a) (cap:=c) .i64 Tryz.underlying47 q2j HNN.out k w' hlt
   have hkl:k<ll.length:=by have:=HL.out;omega
   obtain ⟨u,hu,hli⟩:=HU.out k ll[k] (List.getElem?_eq_getElem hkl)
   have hce:=(HV.out.up HB.out).cell k u hu
   obtain ⟨c0,c1,c2,c3,c4⟩:=HNB.out
   have ja:=HA.out wr u ll[k] (hli.up HB.out) (HLT.out k _ (List.getElem?_eq_getElem hkl))
   clear hu
   obtain ⟨au,cu,rfl,_⟩:=hli
   generalize adOf a k=ad at *
   obtain ⟨ga,oa,sa⟩:=ad
   go_wp2_with fail
   refine ja.mono ?_
   rintro e w2 ⟨rfl,hb2⟩
   have HN2:Hid _:=HNB.out.up hb2
   have HB2:Hid _:=qd HB.out hb2
   clear ja hb2 HNB HB c0 c1 c2 c3 c4 hce
   go_wp2
   go_roundw
   case rel=>exact ⟨k+1,by omega,by go_num,HN2,HB2⟩
   case measure=>simp[intOf];omega
  ·obtain rfl:k=L:=by omega
   go_wp2
   go_ret
   exact ⟨rfl,HB.out⟩
theorem q61(n:Nat)(vS vT vF vN:Value)(S st:List Nat)(fs:List Bool)(rows:List (List (List Nat)))(w:World)(h:NfAt w vS vT vF vN S st fs rows)(k:NfK n S st fs rows) :
  Calls Tryz.prog 9 #[nfV n vS vT vF vN] w fun e w'=>e=.returned (.int .i64 0)∧Below w.heap.size w w':=by
 obtain ⟨aS,cS,rfl,-⟩:=h.s
 obtain ⟨aT,cT,hvT,-⟩:=h.t
 subst hvT
 obtain ⟨aF,cF,rfl,-⟩:=h.f
 obtain ⟨aN,cN,us,rfl,hV,hu⟩:=h.nx
 have HNB:Hid _:=q1j w n aS S.length cS aT st.length cT aF fs.length cF aN rows.length cN
 have HB0:Hid _:=qc w (.cells #[.int .i64 (n:Int),.slice aS S.length cS,.slice aT st.length cT,.slice aF fs.length cF,.slice aN rows.length cN] 31 (0,0))
 have jc:=q3w (n:Int) (w.alloc (.cells #[.int .i64 (n:Int),.slice aS S.length cS,.slice aT st.length cT,.slice aF fs.length cF,.slice aN rows.length cN] 31 (0,0)))
 rw[decide_eq_true (show (0:Int)≤(n:Int) by omega),decide_eq_true (show (n:Int)≤8 by have:=k.n8;omega)]at jc
 have ja:=q2E n aS S.length cS (.slice aT st.length cT) (.slice aF fs.length cF) (.slice aN rows.length cN) (.slice aT st.length cT) st (w.alloc (.cells #[.int .i64 (n:Int),.slice aS S.length cS,.slice aT st.length cT,.slice aF fs.length cF,.slice aN rows.length cN] 31 (0,0))) ⟨_,_,_,rfl⟩ ⟨_,_,_,rfl⟩ ⟨_,_,_,rfl⟩ (h.t.up HB0.out) k.st
 have HR:Hid (∀ w' u ll,LLs w' u ll→ll∈rows→Calls Tryz.prog 23 #[.agg #[.int .i64 (n:Int),.slice aS S.length cS,.slice aT st.length cT,.slice aF fs.length cF,.slice aN rows.length cN],u] w' fun e w2=>e=.returned (.bool true)∧Below w'.heap.size w' w2):=fun w' u ll h1 h2=>by
  obtain ⟨q,hq⟩:=List.mem_iff_getElem?.1 h2
  obtain ⟨h3,h4⟩:=k.row q ll hq
  exact q5b n aS S.length cS _ _ _ u ll w' ⟨_,_,_,rfl⟩ ⟨_,_,_,rfl⟩ ⟨_,_,_,rfl⟩ h1 k.n8 h3 h4
 have HV:Hid _:=hV
 have HU:Hid _:=hu
 have bdl:=hV.bd
 have HNN:Hid _:=hV.nn
 obtain ⟨c0,c1,c2,c3,c4⟩:=HNB.out
 have fl:=k.fl
 have rl:=k.rl
 have few:=k.few
 clear h k hV hu
 unfold nfV at *
 generalize hL:S.length=N at *
 generalize hL2:fs.length=Nf at *
 generalize hL3:rows.length=L at *
 have HL:Hid _:=hL3
 subst fl
 subst rl
 clear hL hL2 hL3
 have d1:decide ((256:Int)<(L:Int))=false:=decide_eq_false (by omega)
 have d2:((L:Int) != (L:Int))=false:=by simp
 go_enter Tryz.func9,Tryz.ntmps9
 go_wp2_with fail
 refine jc.mono ?_
 rintro e w1 ⟨rfl,rfl⟩
 clear jc
 go_wp2_with fail
 refine ja.mono ?_
 rintro e w1 ⟨rfl,hb1⟩
 have HN1:Hid _:=HNB.out.up hb1
 have HB1:Hid _:=qd HB0.out hb1
 clear ja hb1 HNB HB0 c0 c1 c2 c3 c4
 obtain ⟨c0,c1,c2,c3,c4⟩:=HN1.out
 go_wp2
 go_loopw [41] (fun j wr=>∃ (k:Nat),k≤L∧j=.int .i64 (k:Int)∧Hid (NfB wr w.heap.size n aS L cS aT st.length cT aF L cF aN L cN)∧Hid (Below w.heap.size w wr)) (fun j _=>L - (intOf j).toNat)
 case atStart=>exact ⟨0,Nat.zero_le _,rfl,HN1,HB1⟩
 case round =>
  clear HN1 HB1 c0 c1 c2 c3 c4
  obtain ⟨k,hk,rfl,HNB,HB⟩:=hrel
  by_cases hlt:k<L
  ·have hidx:=fun w'=>q27 (P:=Tryz.prog) (a:=aN) (cap:=cN) .i64 Tryz.underlying29 q20 HNN.out k w' hlt
   have hkl:k<rows.length:=by have:=HL.out;omega
   obtain ⟨u,hu,hli⟩:=HU.out k rows[k] (List.getElem?_eq_getElem hkl)
   have hce:=(HV.out.up HB.out).cell k u hu
   obtain ⟨c0,c1,c2,c3,c4⟩:=HNB.out
   have ja:=HR.out wr u rows[k] (hli.up HB.out) (List.getElem_mem hkl)
   clear hu
   obtain ⟨au,cu,us2,rfl,-⟩:=hli
   generalize adOf aN k=ad at *
   obtain ⟨ga,oa,sa⟩:=ad
   go_wp2_with fail
   refine ja.mono ?_
   rintro e w2 ⟨rfl,hb2⟩
   have HN2:Hid _:=HNB.out.up hb2
   have HB2:Hid _:=qd HB.out hb2
   clear ja hb2 HNB HB c0 c1 c2 c3 c4 hce
   go_wp2
   go_roundw
   case rel=>exact ⟨k+1,by omega,by go_num,HN2,HB2⟩
   case measure=>simp[intOf];omega
  ·obtain rfl:k=L:=by omega
   go_wp2
   go_ret
   exact ⟨rfl,HB.out⟩
def SoAtI (w:World) (g:Nat) (d:Array Int) (t:List Int):Prop:=w.heap[g]? = some (.cells ((d.toList++t).map (Value.int .i64)).toArray 3 (0,0))
theorem SoAtI.lt{w:World}{g:Nat}{d:Array Int}{t:List Int}(h:SoAtI w g d t):g<w.heap.size:=(Array.getElem?_eq_some_iff.1 h).1
theorem q50{w:World}{a:Option Addr}{n c:Nat}{l:List Nat}(h:ISl w a n c l):n=l.length:=by
 have:=h.hlen
 simp at this
 exact this.symm
theorem SoAtI.cell{w:World}{g:Nat}{d:Array Int}{t:List Int}(h:SoAtI w g d t){i:Nat}(hi:i<d.size):w.cell? ⟨g,i,none⟩=some (.int .i64 d[i]!):=by
 rw[qb h]
 simp[List.getElem?_append_left,hi]
theorem qbm{w:World}{a:Addr}{n c:Nat}{l:List Nat}(h:ISl w (some a) n c l):∀ j u,((iU l).map (Value.int .i64))[j]? = some u→w.cell? (a.add j)=some u:=by
 intro j u hj
 have hjl:j<(iU l).length:=by have:=(List.getElem?_eq_some_iff.1 hj).1;simpa using this
 have hc:=h.cell j (by rw[← h.hlen];exact hjl)
 have e:u=.int .i64 ((iU l).getD j 0):=by
  rw[List.getElem?_map,List.getElem?_eq_getElem hjl]at hj
  rw[List.getD_eq_getElem?_getD,List.getElem?_eq_getElem hjl]
  simpa using hj.symm
 rw[e];exact hc
theorem qdC(m:Nat):(Builtin.zeroCells (Value.int .i64 0).cells m).toList=List.replicate m (Value.int .i64 0):=by
 have hc:(Value.int .i64 0).cells=#[.int .i64 0]:=rfl
 unfold Builtin.zeroCells
 rw[hc]
 refine List.ext_getElem (by simp) fun i h1 h2=>?_
 simp[Nat.mod_one]
theorem q4z{w:World}{ops:Array Oper}{rest:List Oper}{o:Oper}{a:Act}{Q:Exit→Act→World→Prop}(hgd:o.guard=none)(s y:Operand)
  (ho:o.op=.call { callee:=.builtin .append,args:=#[s,y],argTypes:=#[27,27] }) (g:Nat) (x:Addr) (n c:Nat) (l:List Nat) (hs:a.eval s=.slice (some ⟨g,0,none⟩) 0 0) (hy:a.eval y=.slice (some x) n c) (hU:ISl w (some x) n c l) (h0:0<n) (hn:n≤1000000)
  (h:∀ G w',n≤G→G≤maxLen→SoAtI w' w.heap.size (iU l).toArray (List.replicate (G - n) 0)→Below w.heap.size w w'→wpList Tryz.prog ops Q rest (a.put o.dst (.slice (some ⟨w.heap.size,0,none⟩) n G)) w'):wpList Tryz.prog ops Q (o::rest) a w:=by
 refine wpList_plain hgd fun _ hK=>?_
 obtain ⟨i0,hi,hz0,hz1,hz2⟩:=info_parts q33
 have hln:=(q50 hU)
 have hrun:∀ ty,(Builtin.append_ #[27,27] ty #[.slice (some ⟨g,0,none⟩) 0 0,.slice (some x) n c]).run Tryz.prog w=.ok (.slice (some ⟨w.heap.size,0,none⟩) n (grownCap w n 0 3)) (w.drew.alloc (.cells (((iU l).map (Value.int .i64)).toArray++Builtin.zeroCells (Value.int .i64 0).cells (grownCap w n 0 3 - n)) 3)):=fun ty=>by
  have h:=run_append_grow (P:=Tryz.prog) w 27 ty 3 i0 (.int .i64 0) Tryz.underlying27 hi hz0 ⟨g,0,none⟩ 0 0 [] (by simp) (fun j v hj=>by simp at hj) x n c ((iU l).map (Value.int .i64)) (by rw[hz1];simp[hln]) (qbm hU) (by omega) (by omega) (growslice_fits (by omega) (by rw[hz2];omega))
  simpa using h
 have hG:=grownCap_ge w n 0 3
 have hG2:=grownCap_le_maxLen w n 0 3 (by unfold maxLen;omega)
 have hr:=hrun o.type
 clear hrun
 generalize grownCap w n 0 3=G at *
 have HB:Below w.heap.size w (w.drew.alloc (.cells (((iU l).map (Value.int .i64)).toArray++Builtin.zeroCells (Value.int .i64 0).cells (G - n)) 3)):=(Below.refl _ w).drew.alloc (Nat.le_refl _) _
 have HS:SoAtI (w.drew.alloc (.cells (((iU l).map (Value.int .i64)).toArray++Builtin.zeroCells (Value.int .i64 0).cells (G - n)) 3)) w.heap.size (iU l).toArray (List.replicate (G - n) 0):=by
  have h1:=(MapKept.heap_alloc w.drew (.cells (((iU l).map (Value.int .i64)).toArray++Builtin.zeroCells (Value.int .i64 0).cells (G - n)) 3)).1
  show _=_
  refine h1.trans ?_
  refine congrArg some (congrArg (fun c=>Obj.cells c 3 (0,0)) (Array.toList_inj.1 ?_))
  rw[Array.toList_append,List.map_append,List.map_replicate,qdC]
 generalize (w.drew.alloc (.cells (((iU l).map (Value.int .i64)).toArray++Builtin.zeroCells (Value.int .i64 0).cells (G - n)) 3))=w2 at *
 unfold Oper.wp execOp
 simp only[ho,resolve,invoke,builtin,Sem.run_bind,Sem.run_pure,Result.andThen_ok,List.map_toArray,List.map_cons,List.map_nil,hs,hy,hr]
 exact hK _ _ (h G w2 hG hG2 HS HB)
def CloI (l:List Nat) (w:World) (e:Ending) (w':World):Prop :=
 Below w.heap.size w w'∧((l=[]∧∃ p,e=.returned (.slice p 0 0))∨∃ G t,l≠[]∧e=.returned (.slice (some ⟨w.heap.size+1,0,none⟩) l.length G)∧SoAtI w' (w.heap.size+1) (iU l).toArray t∧l.length≤G∧G≤maxLen)
theorem q5U(a:Option Addr)(n c:Nat)(l:List Nat)(w:World)(hS:ISl w a n c l)(hn:n≤1000000) :
  Calls Tryz.prog 53 #[.slice a n c] w (CloI l w):=by
 have hln:=(q50 hS)
 cases a with
 | none =>
  have hc0:=hS.nn rfl
  have hn0:n=0:=by have:=hS.hcap;omega
  subst hc0 hn0
  have hl:l=[]:=List.eq_nil_of_length_eq_zero hln.symm
  subst hl
  clear hln hS hn
  have hnil:=fun w=>_root_.Go.run_eql_slice_nil (P:=Tryz.prog) w 27 3 none 0 0 Tryz.underlying27
  dsimp only[Option.isNone]at hnil
  go_enter Tryz.func53,Tryz.ntmps53
  go_wp2
  go_ret
  exact ⟨Below.refl _ _,Or.inl ⟨rfl,none,rfl⟩⟩
 | some x =>
  obtain ⟨i0,hi,hz0,hz1,hz2⟩:=info_parts q33
  have hnil:=fun w=>_root_.Go.run_eql_slice_nil (P:=Tryz.prog) w 27 3 (some x) n c Tryz.underlying27
  dsimp only[Option.isNone]at hnil
  by_cases h0:n=0
  ·subst h0
   have hl:l=[]:=List.eq_nil_of_length_eq_zero hln.symm
   subst hl
   have hown:=q3Q w 3
   have HI:Hid (Tryz.prog.info? 3=some i0):=hi
   have HZ1:Hid (i0.size=1):=hz1
   have HB:Hid (∀ w1,(w.alloc (.cells #[] 3)).grownBy w1 (some w.heap.size)→Below w.heap.size w w1):=fun w1 h2=>((Below.refl _ _).alloc (Nat.le_refl _) _).grown h2 (by simp) (fun k hk=>by cases hk;exact Nat.le_refl _)
   clear hi hz0 hz1 hz2 hS hln hn
   go_enter Tryz.func53,Tryz.ntmps53
   go_wp2_with (at_builtin;refine wpList_append_fits_any _ rfl _ _ 27 rfl w.heap.size 3 i0 1 Tryz.underlying27 HI.out HZ1.out w.heap.size 0 0 [] rfl hown (some x) 0 c [] rfl rfl (fun h=>by cases h) (fun _ _ j u hj=>by simp at hj) (fun _ h=>by cases h) (Nat.le_refl _) ?_)
   intro w1 hown1 hgrow1
   have HE:=HB.out w1 hgrow1
   clear hown1 hgrow1 hown
   go_wp2
   go_ret
   exact ⟨HE,Or.inl ⟨rfl,_,rfl⟩⟩
  ·have hl0:l≠[]:=fun e=>h0 (by rw[hln,e];rfl)
   have HL:Hid (n=l.length):=hln
   have HU:Hid _:=hS.up (qc w (.cells #[] 3))
   clear hi hz0 hz1 hz2 hS hln
   go_enter Tryz.func53,Tryz.ntmps53
   go_wp2_with (at_builtin;refine q4z rfl _ _ rfl w.heap.size x n c l rfl rfl HU.out (by omega) hn ?_)
   intro G w2 hG hG2 HS HB
   have HS2:Hid _:=HS
   have HB2:Hid (Below w.heap.size w w2):=(qc w (.cells #[] 3)).trans (HB.mono (Nat.le_succ _))
   have hgl:Hid (n≤G∧G≤maxLen):=⟨hG,hG2⟩
   clear HS HB hG hG2 HU
   go_wp2
   go_ret
   exact ⟨HB2.out,Or.inr ⟨G,List.replicate (G - n) 0,hl0,by rw[← HL.out];simp,HS2.out,by rw[← HL.out];exact hgl.out.1,hgl.out.2⟩⟩
theorem SoAtI.isl{w:World}{g n G:Nat}{s:List Nat}{d:Array Int}{t:List Int}(h:SoAtI w g d t)(hd:d.toList=iU s)(hn:s.length=n)(hG:n≤G)(hm:G≤maxLen):ISl w (some ⟨g,0,none⟩) n G s:=by
 have had:∀ k,adOf (some ⟨g,0,none⟩) k=⟨g,k,none⟩:=fun k=>by simp[adOf,qh]
 have hsz:d.size=n:=by rw[← Array.length_toList,hd];simpa using hn
 refine ⟨by simp[hn],hG,hm,fun m k w hk hm=>q1c Tryz.underlying27 q1L (by simp) k w hk,fun k hk=>?_,fun k hk=>?_,by simp⟩
 ·rw[had,h.cell (by omega:k<d.size)]
  congr 2
  rw[← hd,List.getD_eq_getElem?_getD]
  simp[show k<d.size by omega]
 ·rw[had];exact h.lt
end Go.Proofs.YtekeaodpdcnfjaaGreatDoor
