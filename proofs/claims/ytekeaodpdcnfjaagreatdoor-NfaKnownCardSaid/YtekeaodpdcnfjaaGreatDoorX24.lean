/- Texts of the proof, put together: what it uses. -/
import Derived.Deep.RegionLaw
import Derived.Test.YtekeaodpdcnfjaaGreatDoorX10
import Derived.Test.YtekeaodpdcnfjaaGreatDoorX11
import Derived.Test.YtekeaodpdcnfjaaGreatDoorX15
import Derived.Test.YtekeaodpdcnfjaaGreatDoorX23
set_option maxRecDepth 100000
set_option maxHeartbeats 16000000
namespace Go.Proofs.YtekeaodpdcnfjaaGreatDoor
open Go.RowKit Go.Maps
def HeldN (M:Mt) (k h:Nat):Prop:=h<2 ^ k∧∀ j,h.testBit j=true↔j<k∧SatM [] M 0 j
theorem qbk(M:Mt):HeldN M 0 0:=⟨by decide,fun j=>by simp⟩
theorem qc6{M:Mt}{k h:Nat}(hh:HeldN M k h)(hs:SatM [] M 0 k):HeldN M (k+1) (h ||| 2 ^ k):=by
 refine ⟨Nat.or_lt_two_pow (Nat.lt_of_lt_of_le hh.1 (Nat.pow_le_pow_right (by decide) (by omega))) (Nat.pow_lt_pow_right (by decide) (by omega)),fun j=>?_⟩
 rw[Nat.testBit_or,Bool.or_eq_true,hh.2 j,Nat.testBit_two_pow]
 constructor
 ·rintro (⟨h1,h2⟩ | h1)
  ·exact ⟨by omega,h2⟩
  ·have:k=j:=by simpa using h1
   subst this
   exact ⟨by omega,hs⟩
 ·rintro ⟨h1,h2⟩
  by_cases e:j<k
  ·exact Or.inl ⟨e,h2⟩
  ·have:k=j:=by omega
   exact Or.inr (by simpa using this)
theorem qcW{M:Mt}{k h:Nat}(hh:HeldN M k h)(hs:¬ SatM [] M 0 k):HeldN M (k+1) h:=by
 refine ⟨Nat.lt_of_lt_of_le hh.1 (Nat.pow_le_pow_right (by decide) (by omega)),fun j=>?_⟩
 rw[hh.2 j]
 constructor
 ·rintro ⟨h1,h2⟩
  exact ⟨by omega,h2⟩
 ·rintro ⟨h1,h2⟩
  by_cases e:j<k
  ·exact ⟨e,h2⟩
  ·have:j=k:=by omega
   subst this
   exact absurd h2 hs
theorem qc5{M:Mt}{h:Nat}{l:List Nat}(hh:HeldN M M.length h):hoB l h=true↔FinP M l:=by
 show decide (HoP l h)=true↔_
 rw[decide_eq_true_iff]
 unfold FinP LsP HoP
 constructor
 ·rintro ⟨s,hs,hw⟩
  exact ⟨s,hs,fun k hk=>((hh.2 k).1 (q1Z.1 hw k hk)).2⟩
 ·rintro ⟨s,hs,hw⟩
  refine ⟨s,hs,q1Z.2 fun k hk=>(hh.2 k).2 ⟨?_,hw k hk⟩⟩
  obtain ⟨T,_,h2,_⟩:=hw k hk
  exact (List.getElem?_eq_some_iff.1 h2).1
theorem PgR.metAt{T0:Tr}{w w2:World}{G:Nat→Prop}{p mn:Nat}{va:Option Addr}{m vc:Nat}{vs:Value}{items:List It}{met:List Nat}{M:Mt}(h:PgR T0 w G p mn (.slice va m vc) vs items met M)(hof:∀ f∈M,∃ S,KT S∧InC T0 S∧f=S.flat)(hb:Below w.heap.size w w2)(k:Nat)(hk:k<m)(hm:met.length=m):∃ g o j S,(∀ w',(Instr.indexAt 27 (.slice va m vc) (.int .i64 (k:Int))).run Tryz.prog w'=.ok (.pointer (some ⟨g,o,none⟩)) w')∧w2.cell? ⟨g,o,none⟩=some (.int .i64 ((j:Nat):Int))∧Rep items j S∧KT S∧M[k]? = some S.flat:=by
 have hkm:k<met.length:=by omega
 obtain ⟨S,hrep,hMk⟩:=h.met.2 k met[k] (List.getElem?_eq_getElem hkm)
 obtain ⟨S2,k2,i2,e2⟩:=hof S.flat (List.mem_of_getElem? hMk)
 have hw:S.WF:=by
  obtain ⟨S3,h3,h4⟩:=h.po.cov _ hrep.lt
  have:=Rep.tree hrep h3
  subst this
  rcases q2y h.po.t0.kt h4 with q | q <;> exact q.wf
 have e:=q5y hw k2.wf e2
 subst e
 rcases (q1z h.row hb).2 with ⟨e,e0⟩ | ⟨g,cap,cur,e,_,hcell,hnc,hcm,hsz,htk⟩
 ·omega
 ·injection e with e1 e2 e3
  subst e1 e3
  refine ⟨g,k,met[k],S,fun w'=>?_,?_,hrep,k2,hMk⟩
  ·simp[Instr.indexAt,run_underlying Tryz.underlying27,asIntOf,q1h (show (Tryz.prog.info? 3).map (·.size)=some 1 by kernel_rfl),hk,Result.andThen,go_sem,qh]
  ·rw[qb hcell k]
   have:cur.toList[k]? = (encM met)[k]? := by rw[← htk,List.getElem?_take,if_pos (by omega)]
   rw[← Array.getElem?_toList,this]
   simp[encM,hkm]
theorem q65{T0:Tr}{p:Nat}{vs:Value}{w:World}{F:Nat→Prop}{items:List It}{M:Mt}(h:PgO T0 w F p vs items M)(a:Option Addr)(c:Nat)(l:List Nat)(hU:USl w a l.length c l)(sm:Sm l) :
  Calls Tryz.prog 82 #[.pointer (some ⟨p,0,none⟩),.slice a l.length c] w fun e w'=>(∃ b,e=.returned (.bool b)∧(b=true↔FinP M l))∧Below w.heap.size w w':=by
 have jm:=q2p h
 obtain ⟨G,mn,vm,met,hr,hF⟩:=h.ex
 have je:=q3B hr.po
 have c5:=hr.c5
 obtain ⟨ma,mc,rfl⟩:=qx hr.row
 have hml:met.length=M.length:=hr.met.1
 have hfew:M.length≤64:=h.few
 have hm64:met.length≤64:=by omega
 have HH:Hid _:=h
 have HR:Hid _:=hr
 have HU:Hid _:=hU
 have HSM:Hid (Sm l):=sm
 have HML:Hid (met.length=M.length):=hml
 have HC5:Hid _:=c5
 clear h hr hF hU sm hml c5
 generalize hmm:met.length=m at *
 have HM:Hid (met.length=m):=hmm
 clear hmm
 generalize hil0:items.length=il at *
 have HIL:Hid (items.length=il):=hil0
 clear hil0
 generalize hn0:l.length=n at *
 have HNN:Hid (l.length=n):=hn0
 clear hn0
 go_enter Tryz.func82,Tryz.ntmps82
 go_wp2_with fail
 refine jm.mono ?_
 rintro e w1 ⟨rfl,hw1⟩
 obtain rfl:=hw1.symm
 clear jm
 go_wp2_with fail
 refine je.mono ?_
 rintro e w2 ⟨rfl,⟨bs,hEL,hEb⟩,hb2⟩
 have c5:w2.cell? ⟨p,5,none⟩=some (.slice ma m mc):=qm HC5.out hb2
 have HEL:Hid (EndL items bs):=hEL
 have HEB:Hid (EbAt w2 w.heap.size bs):=hEb
 have HB2:Hid (Below w.heap.size w w2):=hb2
 clear je hEL hEb hb2
 go_wp2
 go_loopw [6,21] (fun v i wr=>∃ (k hd:Nat),k≤m∧i=.int .i64 (k:Int)∧v=.int .u64 (hd:Int)∧wr=w2∧Hid (HeldN M k hd)) (fun _ i _=>m - (intOf i).toNat)
 case atStart=>exact ⟨0,0,Nat.zero_le _,rfl,rfl,rfl,qbk M⟩
 case round =>
  clear c5
  obtain ⟨k,hd,hk,rfl,rfl,rfl,HHD⟩:=hrel
  by_cases hlt:k<m
  ·obtain ⟨g,o,j,S,hidx,hcj,hrep,kS,hMk⟩:=HR.out.metAt HH.out.of HB2.out k hlt HM.out
   have hbj:=HEL.out.all j S hrep
   have hjl:j<bs.length:=(List.getElem?_eq_some_iff.1 hbj).1
   have hil:bs.length=items.length:=HEL.out.len
   have hcb:=HEB.out.cell hbj
   have hsat:SatM [] M 0 k↔endB S=true:=(q4S kS hMk).trans ((qU S).1 kS).symm
   have hix:=fun w'=>q2Q w.heap.size il j (by have:=HIL.out;omega) w'
   have HE:Hid (bits BinOp.or IntKind.u64 (hd:Int) (IntKind.u64.wrap (2 ^ k))=((hd ||| 2 ^ k:Nat):Int)):=by
    have h1:(2:Nat) ^ k<2 ^ 64:=Nat.pow_lt_pow_right (by decide) (by omega)
    have h2:hd<2 ^ 64:=Nat.lt_of_lt_of_le HHD.out.1 (Nat.pow_le_pow_right (by decide) (by omega))
    have e3:IntKind.u64.wrap (2 ^ k)=((2 ^ k:Nat):Int):=by
     rw[IntKind.wrap_u64,show ((2:Int) ^ k)=((2 ^ k:Nat):Int) by simp]
     generalize 2 ^ k=y at h1 ⊢
     omega
    show _=_
    rw[e3]
    exact u64_or_nat _ _ h2 h1
   cases hv:endB S with
   | true =>
    rw[hv]at hcb hsat
    have HN:Hid (HeldN M (k+1) (hd ||| 2 ^ k)):=qc6 HHD.out (hsat.2 rfl)
    clear hsat HHD hrep kS hMk hbj hjl hil hv
    have hmin:min k 64=k:=by omega
    go_wp2
    go_roundw
    case rel=>exact ⟨k+1,hd ||| 2 ^ k,by omega,by go_num,congrArg (Value.int .u64) HE.out,by first | trivial | rfl,HN⟩
    case measure=>simp[intOf] <;> omega
   | false =>
    rw[hv]at hcb hsat
    have HN:Hid (HeldN M (k+1) hd):=qcW HHD.out (fun e=>by have:=hsat.1 e;cases this)
    clear hsat HHD hrep kS hMk hbj hjl hil hv HE
    go_wp2
    go_roundw
    case rel=>exact ⟨k+1,hd,by omega,by go_num,rfl,by first | trivial | rfl,HN⟩
    case measure=>simp[intOf] <;> omega
  ·obtain rfl:k=m:=by omega
   have hdm:HeldN M M.length hd:=by have:=HHD.out;rw[show k=M.length by have:=HML.out;omega]at this;exact this
   have h2:hd<2 ^ 64:=Nat.lt_of_lt_of_le hdm.1 (Nat.pow_le_pow_right (by decide) (by omega))
   have jh:=q2n a l.length c l hd wr ((show USl w a l.length c l by rw[HNN.out];exact HU.out).up HB2.out) HSM.out h2
   rw[HNN.out]at jh
   have HFI:Hid (hoB l hd=true↔FinP M l):=qc5 hdm
   clear HHD hdm h2
   go_wp2_with fail
   refine jh.mono ?_
   rintro e w4 ⟨rfl,hb4⟩
   have HB4:Hid (Below w.heap.size w w4):=qd HB2.out hb4
   clear jh hb4
   generalize hoB l hd=bb at *
   go_wp2
   go_ret
   exact ⟨⟨bb,rfl,HFI.out⟩,HB4.out⟩
theorem PtN.at{w1 W:World}{B b:Nat}{vi:Value}{mp:Nat}{vt:Value}{T:Tr}{items:List It}{n g:Nat}(kT:KT T)(hsz:T.size≤2048)(h:PtN w1 B b vi mp vt T items n)(hb:Below w1.heap.size w1 W)(hg:W.heap[g]? = some (.cells #[vi,.map (some mp),vt] 103 (0,0))) :
  PtO T W (FP g mp vi vt) g 103 [] items:=by
 have hR:PtR W g 103 [] vi mp vt items (noTx items.length) items.length (posI items) :=
  ⟨Or.inl rfl,hg,q1z h.r.ri hb,q1z h.r.rt hb,h.r.num.far (hb.block mp h.r.num.lt)⟩
 refine ⟨⟨kT,hsz⟩,h.k.low,h.k.cov,noTx items.length,⟨h.k.nd,by simp[noTx],by have:=h.k.few;omega,h.ok,fun s hs=>?_,vi,mp,vt,hR,fun k=>Iff.rfl⟩,fun j S hr=>Or.inl ?_⟩
 ·have:=List.eq_of_mem_replicate hs
  subst this
  unfold SOk
  decide
 ·unfold noTx
  rw[List.getElem?_replicate,if_pos hr.lt]
theorem q6T(a:Option Addr)(len cap:Nat)(ts:List Tk)(w:World)(hT:TkSl w a len cap ts) :
  Calls Tryz.prog 30 #[.slice a len cap] w fun e w'=>Below w.heap.size w w' ∧
   ((chkE ts≠0∧e=.returned (.tuple #[.bool false,.int .i64 (chkE ts:Int)]))∨∃ T b,KT T∧ts=T.flat∧chkE ts=0∧e=.returned (.tuple #[.bool b,.int .i64 0])∧(b=true↔(semTr [] T).1 0)):=by
 have jp:=q2P a len cap ts w hT
 obtain ⟨Q,hQ⟩:∃ Q:Ending→World→Prop,Q=fun e w'=>Below w.heap.size w w'∧((chkE ts≠0∧e=.returned (.tuple #[.bool false,.int .i64 (chkE ts:Int)]))∨∃ T b,KT T∧ts=T.flat∧chkE ts=0∧e=.returned (.tuple #[.bool b,.int .i64 0])∧(b=true↔(semTr [] T).1 0)):=⟨_,rfl⟩
 have HQ:Hid (∀ e w',Below w.heap.size w w'→((chkE ts≠0∧e=.returned (.tuple #[.bool false,.int .i64 (chkE ts:Int)]))∨∃ T b,KT T∧ts=T.flat∧chkE ts=0∧e=.returned (.tuple #[.bool b,.int .i64 0])∧(b=true↔(semTr [] T).1 0))→Q e w'):=fun e w' h1 h2=>by rw[hQ];exact ⟨h1,h2⟩
 rw[← hQ]
 clear hT hQ
 go_enter Tryz.func30,Tryz.ntmps30
 go_wp2_with fail
 refine jp.mono ?_
 rintro e w1 ⟨hb1,⟨hc,rfl⟩ | ⟨hc,T,items,n,b,vi,mp,vt,kT,hsz,hts,hN,rfl⟩⟩
 ·have hne:(((chkE ts:Nat):Int) != 0)=true:=by simp;omega
  have HC:Hid _:=hc
  have HB1:Hid _:=hb1
  clear jp hc hb1
  generalize hE:chkE ts=E at *
  have HE:Hid _:=hE
  clear hE
  go_wp2
  exact HQ.out _ _ (qd HB1.out (qc _ _)) (Or.inl ⟨HC.out,rfl⟩)
 ·obtain ⟨ai,ci,rfl⟩:=qx hN.r.ri
  obtain ⟨at',ct,rfl⟩:=qx hN.r.rt
  have hbn:=qc w1 (.cells #[.slice ai items.length ci,.map (some mp),.slice at' (noTx items.length).length ct] 103)
  have hO:=hN.at kT hsz hbn (MapKept.heap_alloc w1 _).1
  have je:=q3B hO
  have hfew:items.length≤2048:=hN.k.few
  have hlt:=hN.k.rep.lt
  have HREP:Hid _:=hN.k.rep
  have HEB:Hid (endB T=true↔(semTr [] T).1 0):=(qU T).1 kT
  have HB1:Hid _:=qd hb1 hbn
  have HC:Hid _:=hc
  have HTS:Hid _:=hts
  have HKT:Hid _:=kT
  have hz:(w1.alloc (.cells #[.slice ai items.length ci,.map (some mp),.slice at' (noTx items.length).length ct] 103)).heap.size=w1.heap.size+1:=by simp
  rw[hz]at je
  clear jp hc hb1 hN hts hbn hO kT hsz hz
  generalize hil:items.length=il at *
  have HIL:Hid _:=hil
  clear hil
  go_wp2_with fail
  refine je.mono ?_
  rintro e w2 ⟨rfl,⟨bs,hEL,hEb⟩,hb2⟩
  have hbn:=hEL.all n T HREP.out
  have hcb:=hEb.cell hbn
  have hix:=fun w'=>q2Q (w1.heap.size+1) il n hlt w'
  have HB2:Hid (Below w.heap.size w w2):=HB1.out.trans (hb2.mono (by have:=HB1.out.size;simp at this;omega))
  clear je hEL hEb hb2 hbn
  generalize endB T=v at *
  go_wp2
  exact HQ.out _ _ HB2.out (Or.inr ⟨T,v,HKT.out,HTS.out,HC.out,rfl,HEB.out⟩)
structure PrgAt (w:World) (F:Nat→Prop) (p:Nat) (l0:List Nat) (M:Mt) (T0:Tr) (q:Option Addr) (d:Nat) (items:List It):Prop where
 o:PgO T0 w F p (.slice q l0.length d) items M
 u:US w F q l0.length d l0
 l:LstH l0
 g:¬ F tabG
theorem qdG{w w':World}{F:Nat→Prop}{l:List Nat}{e:Ending}(hF:∀ k,F k→k<w.heap.size)(h:CloU l w e w'):Below w.heap.size w w'∧∃ a c,e=.returned (.slice a l.length c)∧US w' F a l.length c l:=by
 refine ⟨h.1,?_⟩
 rcases h.2 with ⟨rfl,p,rfl⟩ | ⟨G,t,_,rfl,hS,h1,h2⟩
 ·exact ⟨p,0,rfl,⟨⟨rfl,Nat.le_refl _,Nat.zero_le _,fun m k w hk hm=>absurd hk (by simp at hm;omega),fun k hk=>absurd hk (by simp),fun k hk=>absurd hk (by simp),fun _=>rfl⟩,fun k hk=>absurd hk (by simp)⟩⟩
 ·refine ⟨_,G,rfl,hS.usl rfl rfl h1 h2,fun k hk e=>?_⟩
  have:=hF _ e
  simp[adOf,qh]at this
  omega
def mkA (p n:Nat) (vS vT vF vN:Value) (mp ak:Nat):Array Value:=#[.pointer (some ⟨p,0,none⟩),.int .i64 (n:Int),vS,vT,vF,vN,.map (some mp),.int .i64 (ak:Int)]
def OwB (b mp:Nat) (vS vF vN:Value) (k:Nat):Prop:=k=b∨k=mp∨vS.ownBlock=some k∨vF.ownBlock=some k∨vN.ownBlock=some k
def FM (F:Nat→Prop) (b mp:Nat) (vS vF vN:Value) (k:Nat):Prop:=F k∨OwB b mp vS vF vN k
theorem PrgAt.far{w w':World}{F:Nat→Prop}{p:Nat}{l0:List Nat}{M:Mt}{T0:Tr}{q:Option Addr}{d:Nat}{items:List It}(h:PrgAt w F p l0 M T0 q d items)(hs:w.heap.size≤w'.heap.size)(hF:∀ k,F k→w'.heap[k]? = w.heap[k]?)(hS:∀ k,k<l0.length→w'.heap[(adOf q k).block]? = w.heap[(adOf q k).block]?):PrgAt w' F p l0 M T0 q d items:=by
 refine ⟨h.o.far hF,⟨⟨h.u.sl.hlen,h.u.sl.hcap,h.u.sl.bd,h.u.sl.idx,fun k hk=>?_,fun k hk=>Nat.lt_of_lt_of_le (h.u.sl.blk k hk) hs,h.u.sl.nn⟩,h.u.nf⟩,h.l,h.g⟩
 have:=h.u.sl.cell k hk
 unfold World.cell? at this ⊢
 rw[hS k hk];exact this
structure MkR (T0:Tr) (q:Option Addr) (d B:Nat) (w:World) (F:Nat→Prop) (b p n ak mp:Nat) (l0:List Nat) (M:Mt) (vS vT vF vN:Value) (S:List Nat) (fs:List Bool) (rv:List Value) (nm:Nat) (f:Nat→Option Nat):Prop where
 prg:∃ items,PrgAt w F p l0 M T0 q d items
 blk:w.heap[b]? = some (.cells (mkA p n vS vT vF vN mp ak) 58 (0,0))
 rs:w.ownsRow B 46 1 vS S.length ((iU S).map (Value.int .u64))
 rf:w.ownsRow B 4 1 vF fs.length (fs.map Value.bool)
 rn:w.ownsRow B 47 1 vN rv.length rv
 num:NumU w mp nm f
 sb:∀ k,k<l0.length→(adOf q k).block<B
 bB:B≤b
 mB:B≤mp
 nF:∀ k,OwB b mp vS vF vN k→¬ F k
section
variable {T0:Tr} {q:Option Addr} {d B:Nat} {w w':World} {F F':Nat→Prop} {b p n ak mp nm:Nat} {l0:List Nat} {M M':Mt} {vS vT vF vN:Value} {S:List Nat} {fs:List Bool} {rv:List Value} {f:Nat→Option Nat}
theorem MkR.lt(h:MkR T0 q d B w F b p n ak mp l0 M vS vT vF vN S fs rv nm f):∀ k,FM F b mp vS vF vN k→k<w.heap.size:=fun k hk=>by
 rcases hk with hk | hk | hk | hk | hk | hk
 ·obtain ⟨items,hp⟩:=h.prg;exact hp.o.lt k hk
 ·subst hk;exact (Array.getElem?_eq_some_iff.1 h.blk).1
 ·subst hk;exact h.num.lt
 ·exact qu h.rs k hk
 ·exact qu h.rf k hk
 ·exact qu h.rn k hk
theorem MkR.ge(h:MkR T0 q d B w F b p n ak mp l0 M vS vT vF vN S fs rv nm f):∀ k,OwB b mp vS vF vN k→B≤k:=fun k hk=>by
 rcases hk with hk | hk | hk | hk | hk
 ·subst hk;exact h.bB
 ·subst hk;exact h.mB
 ·exact q1E h.rs k hk
 ·exact q1E h.rf k hk
 ·exact q1E h.rn k hk
theorem MkR.far(h:MkR T0 q d B w F b p n ak mp l0 M vS vT vF vN S fs rv nm f)(hs:w.heap.size≤w'.heap.size)(hb:∀ k,FM F b mp vS vF vN k→w'.heap[k]? = w.heap[k]?)(hS:∀ k,k<l0.length→w'.heap[(adOf q k).block]? = w.heap[(adOf q k).block]?):MkR T0 q d B w' F b p n ak mp l0 M vS vT vF vN S fs rv nm f:=by
 obtain ⟨items,hp⟩:=h.prg
 exact ⟨⟨items,hp.far hs (fun k hk=>hb k (Or.inl hk)) hS⟩,(hb b (Or.inr (Or.inl rfl))).trans h.blk,qj h.rs fun k hk=>hb k (Or.inr (Or.inr (Or.inr (Or.inl hk)))),qj h.rf fun k hk=>hb k (Or.inr (Or.inr (Or.inr (Or.inr (Or.inl hk))))),qj h.rn fun k hk=>hb k (Or.inr (Or.inr (Or.inr (Or.inr (Or.inr hk))))),h.num.far (hb mp (Or.inr (Or.inr (Or.inl rfl)))),h.sb,h.bB,h.mB,h.nF⟩
theorem MkR.slt(h:MkR T0 q d B w F b p n ak mp l0 M vS vT vF vN S fs rv nm f){k:Nat}(hk:k<l0.length):(adOf q k).block<w.heap.size:=by
 obtain ⟨items,hp⟩:=h.prg
 exact hp.u.sl.blk k hk
theorem MkR.up(h:MkR T0 q d B w F b p n ak mp l0 M vS vT vF vN S fs rv nm f)(hb:Below w.heap.size w w'):MkR T0 q d B w' F b p n ak mp l0 M vS vT vF vN S fs rv nm f:=h.far hb.size (fun k hk=>hb.block k (h.lt k hk)) (fun _ hk=>hb.block _ (h.slt hk))
theorem MkR.fr(h:MkR T0 q d B w F b p n ak mp l0 M vS vT vF vN S fs rv nm f)(hP:∃ items,PrgAt w' F' p l0 M' T0 q d items)(fr:Fr w w' F F'):MkR T0 q d B w' F' b p n ak mp l0 M' vS vT vF vN S fs rv nm f∧Fr w w' (FM F b mp vS vF vN) (FM F' b mp vS vF vN):=by
 have st:∀ k,OwB b mp vS vF vN k→w'.heap[k]? = w.heap[k]? := fun k hk=>fr.keep k (h.lt k (Or.inr hk)) (h.nF k hk)
 refine ⟨⟨hP,(st b (Or.inl rfl)).trans h.blk,qj h.rs fun k hk=>st k (Or.inr (Or.inr (Or.inl hk))),qj h.rf fun k hk=>st k (Or.inr (Or.inr (Or.inr (Or.inl hk)))),qj h.rn fun k hk=>st k (Or.inr (Or.inr (Or.inr (Or.inr hk)))),h.num.far (st mp (Or.inr (Or.inl rfl))),h.sb,h.bB,h.mB,fun k hk=>fr.out (h.nF k hk) (h.lt k (Or.inr hk))⟩,fr.os,fr.tape,fr.output,fr.size,fun k hk hF=>fr.keep k hk fun e=>hF (Or.inl e),fun k hk=>?_⟩
 rcases hk with hk | hk
 ·exact (fr.foot k hk).imp Or.inl id
 ·exact Or.inl (Or.inr hk)
theorem MkR.cp(h:MkR T0 q d B w F b p n ak mp l0 M vS vT vF vN S fs rv nm f):w.cell? ⟨b,0,none⟩=some (.pointer (some ⟨p,0,none⟩)):=qb h.blk 0
theorem MkR.cn(h:MkR T0 q d B w F b p n ak mp l0 M vS vT vF vN S fs rv nm f):w.cell? ⟨b,1,none⟩=some (.int .i64 (n:Int)):=qb h.blk 1
theorem MkR.cS(h:MkR T0 q d B w F b p n ak mp l0 M vS vT vF vN S fs rv nm f):w.cell? ⟨b,2,none⟩=some vS:=qb h.blk 2
theorem MkR.cT(h:MkR T0 q d B w F b p n ak mp l0 M vS vT vF vN S fs rv nm f):w.cell? ⟨b,3,none⟩=some vT:=qb h.blk 3
theorem MkR.cF(h:MkR T0 q d B w F b p n ak mp l0 M vS vT vF vN S fs rv nm f):w.cell? ⟨b,4,none⟩=some vF:=qb h.blk 4
theorem MkR.cN(h:MkR T0 q d B w F b p n ak mp l0 M vS vT vF vN S fs rv nm f):w.cell? ⟨b,5,none⟩=some vN:=qb h.blk 5
theorem MkR.cm(h:MkR T0 q d B w F b p n ak mp l0 M vS vT vF vN S fs rv nm f):w.cell? ⟨b,6,none⟩=some (.map (some mp)):=qb h.blk 6
theorem MkR.ca(h:MkR T0 q d B w F b p n ak mp l0 M vS vT vF vN S fs rv nm f):w.cell? ⟨b,7,none⟩=some (.int .i64 (ak:Int)):=qb h.blk 7
theorem MkR.fz(h:MkR T0 q d B w F b p n ak mp l0 M vS vT vF vN S fs rv nm f)(j:Nat):w.frozen? ⟨b,j,none⟩=false:=frozen_of_row w b j _ _ h.blk
theorem MkR.bm(h:MkR T0 q d B w F b p n ak mp l0 M vS vT vF vN S fs rv nm f):b≠mp:=fun e=>by
 obtain ⟨es,c,hm⟩:=h.num.isMap
 rw[← e,h.blk]at hm
 cases hm
theorem MkR.bl(h:MkR T0 q d B w F b p n ak mp l0 M vS vT vF vN S fs rv nm f):b<w.heap.size:=h.lt b (Or.inr (Or.inl rfl))
theorem MkR.Sb(h:MkR T0 q d B w F b p n ak mp l0 M vS vT vF vN S fs rv nm f):vS.ownBlock≠some b:=q12 h.rs h.blk fun cs e=>by injection e with _ e _;exact absurd e (by decide)
theorem MkR.Fb(h:MkR T0 q d B w F b p n ak mp l0 M vS vT vF vN S fs rv nm f):vF.ownBlock≠some b:=q12 h.rf h.blk fun cs e=>by injection e with _ e _;exact absurd e (by decide)
theorem MkR.Nb(h:MkR T0 q d B w F b p n ak mp l0 M vS vT vF vN S fs rv nm f):vN.ownBlock≠some b:=q12 h.rn h.blk fun cs e=>by injection e with _ e _;exact absurd e (by decide)
theorem MkR.Sm(h:MkR T0 q d B w F b p n ak mp l0 M vS vT vF vN S fs rv nm f):vS.ownBlock≠some mp:=by
 obtain ⟨es,c,hm⟩:=h.num.isMap
 exact q12 h.rs hm fun cs e=>by cases e
theorem MkR.Fm(h:MkR T0 q d B w F b p n ak mp l0 M vS vT vF vN S fs rv nm f):vF.ownBlock≠some mp:=by
 obtain ⟨es,c,hm⟩:=h.num.isMap
 exact q12 h.rf hm fun cs e=>by cases e
theorem MkR.Nm(h:MkR T0 q d B w F b p n ak mp l0 M vS vT vF vN S fs rv nm f):vN.ownBlock≠some mp:=by
 obtain ⟨es,c,hm⟩:=h.num.isMap
 exact q12 h.rn hm fun cs e=>by cases e
theorem q5N{w:World}{B1 B2 e1 e2 n1 n2:Nat}{v1 v2:Value}{x1 x2:List Value}(h1:w.ownsRow B1 e1 1 v1 n1 x1)(h2:w.ownsRow B2 e2 1 v2 n2 x2)(hne:e1≠e2):∀ k,v1.ownBlock=some k→v2.ownBlock≠some k:=fun k hk=>by
 rcases h1.2 with ⟨rfl,_⟩ | ⟨g,cap,cur,rfl,_,hc,_⟩
 ·cases hk
 ·have e:g=k:=by injection hk
  subst e
  exact q12 h2 hc fun cs e=>by injection e with _ e _;exact hne e
theorem MkR.SF(h:MkR T0 q d B w F b p n ak mp l0 M vS vT vF vN S fs rv nm f):∀ k,vS.ownBlock=some k→vF.ownBlock≠some k:=q5N h.rs h.rf (by decide)
theorem MkR.SN(h:MkR T0 q d B w F b p n ak mp l0 M vS vT vF vN S fs rv nm f):∀ k,vS.ownBlock=some k→vN.ownBlock≠some k:=q5N h.rs h.rn (by decide)
theorem MkR.FN(h:MkR T0 q d B w F b p n ak mp l0 M vS vT vF vN S fs rv nm f):∀ k,vF.ownBlock=some k→vN.ownBlock≠some k:=q5N h.rf h.rn (by decide)
theorem MkR.put{nm':Nat}{f':Nat→Option Nat}(h:MkR T0 q d B w F b p n ak mp l0 M vS vT vF vN S fs rv nm f)(hg:w.grownBy w' (some mp))(hn:NumU w' mp nm' f'):MkR T0 q d B w' F b p n ak mp l0 M vS vT vF vN S fs rv nm' f'∧Fr w w' (FM F b mp vS vF vN) (FM F b mp vS vF vN):=by
 have st:∀ k,k<w.heap.size→k≠mp→w'.heap[k]? = w.heap[k]? := fun k hk hne=>hg.block k hk (fun e=>hne (by injection e))
 obtain ⟨items,hp⟩:=h.prg
 refine ⟨⟨⟨items,hp.far hg.size (fun k hk=>st k (hp.o.lt k hk) fun e=>h.nF mp (Or.inr (Or.inl rfl)) (e ▸ hk)) fun k hk=>st _ (h.slt hk) fun e=>by have:=h.sb k hk;have:=h.mB;omega⟩,(st b h.bl h.bm).trans h.blk,qj h.rs fun k hk=>st k (qu h.rs k hk) (fun e=>h.Sm (e ▸ hk)),qj h.rf fun k hk=>st k (qu h.rf k hk) (fun e=>h.Fm (e ▸ hk)),qj h.rn fun k hk=>st k (qu h.rn k hk) (fun e=>h.Nm (e ▸ hk)),hn,h.sb,h.bB,h.mB,h.nF⟩,hg.os,hg.tape,hg.output,hg.size,fun k hk hF=>st k hk fun e=>hF (Or.inr (Or.inr (Or.inl e))),fun _ hk=>Or.inl hk⟩
theorem MkR.setT(h:MkR T0 q d B w F b p n ak mp l0 M vS vT vF vN S fs rv nm f)(v:Value):MkR T0 q d B (w.setCell ⟨b,3,none⟩ v) F b p n ak mp l0 M vS v vF vN S fs rv nm f∧Fr w (w.setCell ⟨b,3,none⟩ v) (FM F b mp vS vF vN) (FM F b mp vS vF vN):=by
 have s6:∀ k,k≠b→(w.setCell ⟨b,3,none⟩ v).heap[k]? = w.heap[k]? := fun k hk=>Below.heap_setCell _ _ _ _ hk
 obtain ⟨items,hp⟩:=h.prg
 refine ⟨⟨⟨items,hp.far (by simp) (fun k hk=>s6 k fun e=>h.nF b (Or.inl rfl) (e ▸ hk)) fun k hk=>s6 _ fun e=>by have:=h.sb k hk;have:=h.bB;omega⟩,?_,qj h.rs fun k hk=>s6 k (fun e=>h.Sb (e ▸ hk)),qj h.rf fun k hk=>s6 k (fun e=>h.Fb (e ▸ hk)),qj h.rn fun k hk=>s6 k (fun e=>h.Nb (e ▸ hk)),h.num.far (s6 mp h.bm.symm),h.sb,h.bB,h.mB,h.nF⟩,rfl,rfl,rfl,by simp,fun k hk hF=>s6 k fun e=>hF (Or.inr (Or.inl e)),fun _ hk=>Or.inl hk⟩
 rw[heap_setCell_same w b 3 _ _ _ h.blk];rfl
theorem MkR.growS{w1 w5:World}{vS':Value}{S':List Nat}(h:MkR T0 q d B w F b p n ak mp l0 M vS vT vF vN S fs rv nm f)(hb1:Below w.heap.size w w1)(hg:w1.grownBy w5 vS.ownBlock)(ho:w5.ownsRow B 46 1 vS' S'.length ((iU S').map (Value.int .u64)))(hl:vS'.ownBlock=vS.ownBlock∨vS'.ownBlock=some w1.heap.size) :
  w5.heap[b]? = some (.cells (mkA p n vS vT vF vN mp ak) 58 (0,0))∧MkR T0 q d B (w5.setCell ⟨b,2,none⟩ vS') F b p n ak mp l0 M vS' vT vF vN S' fs rv nm f∧Fr w (w5.setCell ⟨b,2,none⟩ vS') (FM F b mp vS vF vN) (FM F b mp vS' vF vN):=by
 have hs1:=hb1.size
 have hs:=hg.size
 have st:∀ k,k<w.heap.size→vS.ownBlock≠some k→w5.heap[k]? = w.heap[k]? := fun k hk hne=>(hg.block k (by omega) (fun e=>hne e.symm)).trans (hb1.block k hk)
 have h5:=(st b h.bl h.Sb).trans h.blk
 have hvb:vS'.ownBlock≠some b:=fun e=>by
  rcases hl with e2 | e2
  ·rw[e2]at e;exact h.Sb e
  ·rw[e2]at e;injection e with e;have:=h.bl;omega
 have s6:∀ k,k≠b→(w5.setCell ⟨b,2,none⟩ vS').heap[k]? = w5.heap[k]? := fun k hk=>Below.heap_setCell _ _ _ _ hk
 have sk:∀ k,k<w.heap.size→vS.ownBlock≠some k→k≠b→(w5.setCell ⟨b,2,none⟩ vS').heap[k]? = w.heap[k]? := fun k h1 h2 h3=>(s6 k h3).trans (st k h1 h2)
 obtain ⟨items,hp⟩:=h.prg
 refine ⟨h5,⟨⟨items,hp.far (by simp;omega) (fun k hk=>sk k (hp.o.lt k hk) (fun e=>h.nF k (Or.inr (Or.inr (Or.inl e))) hk) fun e=>h.nF b (Or.inl rfl) (e ▸ hk)) fun k hk=>sk _ (h.slt hk) (fun e=>by have:=h.sb k hk;have:=h.ge _ (Or.inr (Or.inr (Or.inl e)));omega) fun e=>by have:=h.sb k hk;have:=h.bB;omega⟩,?_,qj ho fun k hk=>s6 k (fun e=>hvb (e ▸ hk)),qj h.rf fun k hk=>(s6 k (fun e=>h.Fb (e ▸ hk))).trans (st k (qu h.rf k hk) (fun e=>h.SF k e hk)),qj h.rn fun k hk=>(s6 k (fun e=>h.Nb (e ▸ hk))).trans (st k (qu h.rn k hk) (fun e=>h.SN k e hk)),h.num.far ((s6 mp h.bm.symm).trans (st mp h.num.lt h.Sm)),h.sb,h.bB,h.mB,fun k hk hF=>?_⟩,hg.os.trans hb1.os,hg.tape.trans hb1.tape,hg.output.trans hb1.output,?_,fun k hk hF=>?_,fun k hk=>?_⟩
 ·rw[heap_setCell_same w5 b 2 _ _ _ h5];rfl
 ·have hF2:=hp.o.lt k hF
  rcases hk with hk | hk | hk | hk | hk
  ·exact h.nF k (Or.inl hk) hF
  ·exact h.nF k (Or.inr (Or.inl hk)) hF
  ·rcases hl with e | e
   ·rw[e]at hk;exact h.nF k (Or.inr (Or.inr (Or.inl hk))) hF
   ·rw[e]at hk;injection hk with hk;omega
  ·exact h.nF k (Or.inr (Or.inr (Or.inr (Or.inl hk)))) hF
  ·exact h.nF k (Or.inr (Or.inr (Or.inr (Or.inr hk)))) hF
 ·simp;omega
 ·exact sk k hk (fun e=>hF (Or.inr (Or.inr (Or.inr (Or.inl e))))) fun e=>hF (Or.inr (Or.inl e))
 ·rcases hk with hk | hk | hk | hk | hk | hk
  ·exact Or.inl (Or.inl hk)
  ·exact Or.inl (Or.inr (Or.inl hk))
  ·exact Or.inl (Or.inr (Or.inr (Or.inl hk)))
  ·rcases hl with e | e
   ·rw[e]at hk;exact Or.inl (Or.inr (Or.inr (Or.inr (Or.inl hk))))
   ·rw[e]at hk;injection hk with hk;right;omega
  ·exact Or.inl (Or.inr (Or.inr (Or.inr (Or.inr (Or.inl hk)))))
  ·exact Or.inl (Or.inr (Or.inr (Or.inr (Or.inr (Or.inr hk)))))
theorem MkR.growF{w1 w5:World}{vF':Value}{fs':List Bool}(h:MkR T0 q d B w F b p n ak mp l0 M vS vT vF vN S fs rv nm f)(hb1:Below w.heap.size w w1)(hg:w1.grownBy w5 vF.ownBlock)(ho:w5.ownsRow B 4 1 vF' fs'.length (fs'.map Value.bool))(hl:vF'.ownBlock=vF.ownBlock∨vF'.ownBlock=some w1.heap.size) :
  w5.heap[b]? = some (.cells (mkA p n vS vT vF vN mp ak) 58 (0,0))∧MkR T0 q d B (w5.setCell ⟨b,4,none⟩ vF') F b p n ak mp l0 M vS vT vF' vN S fs' rv nm f∧Fr w (w5.setCell ⟨b,4,none⟩ vF') (FM F b mp vS vF vN) (FM F b mp vS vF' vN):=by
 have hs1:=hb1.size
 have hs:=hg.size
 have st:∀ k,k<w.heap.size→vF.ownBlock≠some k→w5.heap[k]? = w.heap[k]? := fun k hk hne=>(hg.block k (by omega) (fun e=>hne e.symm)).trans (hb1.block k hk)
 have h5:=(st b h.bl h.Fb).trans h.blk
 have hvb:vF'.ownBlock≠some b:=fun e=>by
  rcases hl with e2 | e2
  ·rw[e2]at e;exact h.Fb e
  ·rw[e2]at e;injection e with e;have:=h.bl;omega
 have s6:∀ k,k≠b→(w5.setCell ⟨b,4,none⟩ vF').heap[k]? = w5.heap[k]? := fun k hk=>Below.heap_setCell _ _ _ _ hk
 have sk:∀ k,k<w.heap.size→vF.ownBlock≠some k→k≠b→(w5.setCell ⟨b,4,none⟩ vF').heap[k]? = w.heap[k]? := fun k h1 h2 h3=>(s6 k h3).trans (st k h1 h2)
 obtain ⟨items,hp⟩:=h.prg
 refine ⟨h5,⟨⟨items,hp.far (by simp;omega) (fun k hk=>sk k (hp.o.lt k hk) (fun e=>h.nF k (Or.inr (Or.inr (Or.inr (Or.inl e)))) hk) fun e=>h.nF b (Or.inl rfl) (e ▸ hk)) fun k hk=>sk _ (h.slt hk) (fun e=>by have:=h.sb k hk;have:=h.ge _ (Or.inr (Or.inr (Or.inr (Or.inl e))));omega) fun e=>by have:=h.sb k hk;have:=h.bB;omega⟩,?_,qj h.rs fun k hk=>(s6 k (fun e=>h.Sb (e ▸ hk))).trans (st k (qu h.rs k hk) (fun e=>h.SF k hk e)),qj ho fun k hk=>s6 k (fun e=>hvb (e ▸ hk)),qj h.rn fun k hk=>(s6 k (fun e=>h.Nb (e ▸ hk))).trans (st k (qu h.rn k hk) (fun e=>h.FN k e hk)),h.num.far ((s6 mp h.bm.symm).trans (st mp h.num.lt h.Fm)),h.sb,h.bB,h.mB,fun k hk hF=>?_⟩,hg.os.trans hb1.os,hg.tape.trans hb1.tape,hg.output.trans hb1.output,?_,fun k hk hF=>?_,fun k hk=>?_⟩
 ·rw[heap_setCell_same w5 b 4 _ _ _ h5];rfl
 ·have hF2:=hp.o.lt k hF
  rcases hk with hk | hk | hk | hk | hk
  ·exact h.nF k (Or.inl hk) hF
  ·exact h.nF k (Or.inr (Or.inl hk)) hF
  ·exact h.nF k (Or.inr (Or.inr (Or.inl hk))) hF
  ·rcases hl with e | e
   ·rw[e]at hk;exact h.nF k (Or.inr (Or.inr (Or.inr (Or.inl hk)))) hF
   ·rw[e]at hk;injection hk with hk;omega
  ·exact h.nF k (Or.inr (Or.inr (Or.inr (Or.inr hk)))) hF
 ·simp;omega
 ·exact sk k hk (fun e=>hF (Or.inr (Or.inr (Or.inr (Or.inr (Or.inl e)))))) fun e=>hF (Or.inr (Or.inl e))
 ·rcases hk with hk | hk | hk | hk | hk | hk
  ·exact Or.inl (Or.inl hk)
  ·exact Or.inl (Or.inr (Or.inl hk))
  ·exact Or.inl (Or.inr (Or.inr (Or.inl hk)))
  ·exact Or.inl (Or.inr (Or.inr (Or.inr (Or.inl hk))))
  ·rcases hl with e | e
   ·rw[e]at hk;exact Or.inl (Or.inr (Or.inr (Or.inr (Or.inr (Or.inl hk)))))
   ·rw[e]at hk;injection hk with hk;right;omega
  ·exact Or.inl (Or.inr (Or.inr (Or.inr (Or.inr (Or.inr hk)))))
theorem MkR.growN{w1 w5:World}{vN':Value}{rv':List Value}(h:MkR T0 q d B w F b p n ak mp l0 M vS vT vF vN S fs rv nm f)(hb1:Below w.heap.size w w1)(hg:w1.grownBy w5 vN.ownBlock)(ho:w5.ownsRow B 47 1 vN' rv'.length rv')(hl:vN'.ownBlock=vN.ownBlock∨vN'.ownBlock=some w1.heap.size) :
  w5.heap[b]? = some (.cells (mkA p n vS vT vF vN mp ak) 58 (0,0))∧MkR T0 q d B (w5.setCell ⟨b,5,none⟩ vN') F b p n ak mp l0 M vS vT vF vN' S fs rv' nm f∧Fr w (w5.setCell ⟨b,5,none⟩ vN') (FM F b mp vS vF vN) (FM F b mp vS vF vN'):=by
 have hs1:=hb1.size
 have hs:=hg.size
 have st:∀ k,k<w.heap.size→vN.ownBlock≠some k→w5.heap[k]? = w.heap[k]? := fun k hk hne=>(hg.block k (by omega) (fun e=>hne e.symm)).trans (hb1.block k hk)
 have h5:=(st b h.bl h.Nb).trans h.blk
 have hvb:vN'.ownBlock≠some b:=fun e=>by
  rcases hl with e2 | e2
  ·rw[e2]at e;exact h.Nb e
  ·rw[e2]at e;injection e with e;have:=h.bl;omega
 have s6:∀ k,k≠b→(w5.setCell ⟨b,5,none⟩ vN').heap[k]? = w5.heap[k]? := fun k hk=>Below.heap_setCell _ _ _ _ hk
 have sk:∀ k,k<w.heap.size→vN.ownBlock≠some k→k≠b→(w5.setCell ⟨b,5,none⟩ vN').heap[k]? = w.heap[k]? := fun k h1 h2 h3=>(s6 k h3).trans (st k h1 h2)
 obtain ⟨items,hp⟩:=h.prg
 refine ⟨h5,⟨⟨items,hp.far (by simp;omega) (fun k hk=>sk k (hp.o.lt k hk) (fun e=>h.nF k (Or.inr (Or.inr (Or.inr (Or.inr e)))) hk) fun e=>h.nF b (Or.inl rfl) (e ▸ hk)) fun k hk=>sk _ (h.slt hk) (fun e=>by have:=h.sb k hk;have:=h.ge _ (Or.inr (Or.inr (Or.inr (Or.inr e))));omega) fun e=>by have:=h.sb k hk;have:=h.bB;omega⟩,?_,qj h.rs fun k hk=>(s6 k (fun e=>h.Sb (e ▸ hk))).trans (st k (qu h.rs k hk) (fun e=>h.SN k hk e)),qj h.rf fun k hk=>(s6 k (fun e=>h.Fb (e ▸ hk))).trans (st k (qu h.rf k hk) (fun e=>h.FN k hk e)),qj ho fun k hk=>s6 k (fun e=>hvb (e ▸ hk)),h.num.far ((s6 mp h.bm.symm).trans (st mp h.num.lt h.Nm)),h.sb,h.bB,h.mB,fun k hk hF=>?_⟩,hg.os.trans hb1.os,hg.tape.trans hb1.tape,hg.output.trans hb1.output,?_,fun k hk hF=>?_,fun k hk=>?_⟩
 ·rw[heap_setCell_same w5 b 5 _ _ _ h5];rfl
 ·have hF2:=hp.o.lt k hF
  rcases hk with hk | hk | hk | hk | hk
  ·exact h.nF k (Or.inl hk) hF
  ·exact h.nF k (Or.inr (Or.inl hk)) hF
  ·exact h.nF k (Or.inr (Or.inr (Or.inl hk))) hF
  ·exact h.nF k (Or.inr (Or.inr (Or.inr (Or.inl hk)))) hF
  ·rcases hl with e | e
   ·rw[e]at hk;exact h.nF k (Or.inr (Or.inr (Or.inr (Or.inr hk)))) hF
   ·rw[e]at hk;injection hk with hk;omega
 ·simp;omega
 ·exact sk k hk (fun e=>hF (Or.inr (Or.inr (Or.inr (Or.inr (Or.inr e)))))) fun e=>hF (Or.inr (Or.inl e))
 ·rcases hk with hk | hk | hk | hk | hk | hk
  ·exact Or.inl (Or.inl hk)
  ·exact Or.inl (Or.inr (Or.inl hk))
  ·exact Or.inl (Or.inr (Or.inr (Or.inl hk)))
  ·exact Or.inl (Or.inr (Or.inr (Or.inr (Or.inl hk))))
  ·exact Or.inl (Or.inr (Or.inr (Or.inr (Or.inr (Or.inl hk)))))
  ·rcases hl with e | e
   ·rw[e]at hk;exact Or.inl (Or.inr (Or.inr (Or.inr (Or.inr (Or.inr hk)))))
   ·rw[e]at hk;injection hk with hk;right;omega
end
def put1 (s:Nat) (S:List Nat):Option (Nat×List Nat):=if s∈S then some (S.idxOf s,S) else if 256≤S.length then none else some (S.length,S++[s])
theorem qbN{s:Nat}{S:List Nat}(h:put1 s S=none)(L:List Nat):putS (s::L) S=none:=by
 unfold put1 at h
 unfold putS
 split at h
 ·cases h
 ·rename_i hm
  split at h
  ·rename_i h2
   rw[if_neg hm,if_pos h2]
  ·cases h
theorem qbO{s j:Nat}{S S1:List Nat}(h:put1 s S=some (j,S1))(L:List Nat):putS (s::L) S=(putS L S1).map fun x=>(j::x.1,x.2):=by
 unfold put1 at h
 conv=>lhs;unfold putS
 split at h
 ·rename_i hm
  injection h with h;injection h with h1 h2
  subst h1 h2
  rw[if_pos hm]
  cases putS L S <;> rfl
 ·rename_i hm
  split at h
  ·cases h
  ·rename_i h2
   injection h with h;injection h with h1 h3
   subst h1 h3
   rw[if_neg hm,if_neg h2]
   cases putS L (S++[s]) <;> rfl
def posN (S:List Nat) (x:Nat):Option Nat:=if x∈S then some (S.idxOf x) else none
theorem qbL{S:List Nat}{x:Nat}(h:x ∉ S)(y:Nat):(if y=x then some S.length else posN S y)=posN (S++[x]) y:=by
 unfold posN
 by_cases e:y=x
 ·subst e
  rw[if_pos rfl,if_pos (by simp),List.idxOf_append,if_neg h]
  simp
 ·rw[if_neg e]
  by_cases hm:y∈S
  ·rw[if_pos hm,if_pos (by simp[hm]),List.idxOf_append,if_pos hm]
  ·rw[if_neg hm,if_neg (by simp[hm,e])]
structure MkP (M:Mt) (S:List Nat) (fs:List Bool):Prop where
 fl:fs.length=S.length
 fi:∀ (j:Nat) (c:Bool),fs[j]? = some c→(c=true↔FinP M [atS S j])
 sm:∀ s∈S,s<2 ^ 64
 few:S.length≤256
theorem MkP.more{M:Mt}{S:List Nat}{fs:List Bool}(h:MkP M S fs){s:Nat}(hs:s<2 ^ 64)(hl:S.length<256){c:Bool}(hc:c=true↔FinP M [s]):MkP M (S++[s]) (fs++[c]):=by
 refine ⟨by simp[h.fl],fun j x hx=>?_,fun z hz=>?_,by simp;omega⟩
 ·rcases q5A hx with hx | ⟨rfl,rfl⟩
  ·have hj:j<S.length:=by have:=(List.getElem?_eq_some_iff.1 hx).1;have:=h.fl;omega
   rw[q2W (List.prefix_append S [s]) hj]
   exact h.fi j x hx
  ·rw[h.fl]
   have:atS (S++[s]) S.length=s:=by
    unfold atS
    rw[List.getD_eq_getElem?_getD,List.getElem?_append_right (Nat.le_refl _)]
    simp
   rw[this];exact hc
 ·rcases List.mem_append.1 hz with hz | hz
  ·exact h.sm z hz
  ·have:z=s:=by simpa using hz
   subst this;exact hs
def MkO (T0:Tr) (q:Option Addr) (d B:Nat) (w:World) (G:Nat→Prop) (b n ak:Nat) (l0:List Nat) (M:Mt) (vT:Value) (S:List Nat) (rv:List Value):Prop :=
 ∃ F p mp vS vF vN fs,MkR T0 q d B w F b p n ak mp l0 M vS vT vF vN S fs rv S.length (posN S)∧MkP M S fs∧∀ k,G k↔FM F b mp vS vF vN k
def StQ (T0:Tr) (q:Option Addr) (d B:Nat) (w:World) (G:Nat→Prop) (b n ak:Nat) (l0:List Nat) (M:Mt) (vT:Value) (S:List Nat) (rv:List Value) (s:Nat) (e:Ending) (w':World):Prop :=
 ∃ G',Fr w w' G G'∧((put1 s S=none∧e=.returned (.tuple #[.int .i64 0,.int .i64 10])∧MkO T0 q d B w' G' b n ak l0 M vT S rv)∨∃ j S1,put1 s S=some (j,S1)∧e=.returned (.tuple #[.int .i64 (j:Int),.int .i64 0])∧MkO T0 q d B w' G' b n ak l0 M vT S1 rv)
theorem q8I:(Tryz.prog.info? 4).map (fun i=>(i.zero,i.size,i.bytes))=some (some (.bool false),1,1):=by kernel_rfl
theorem q8f:(Tryz.prog.info? 46).map (fun i=>(i.zero,i.size,i.bytes))=some (some (.int .u64 0),1,8):=by kernel_rfl
theorem qcC{w:World}{ops:Array Oper}{o:Oper}{a:Act}{K:Act→World→Prop}{Q:Exit→Act→World→Prop}{X:Prop}{T E:TypeId}{z:Value}{bt:Nat}(hu:Tryz.prog.underlying T=some (.slice E))(hin:(Tryz.prog.info? E).map (fun i=>(i.zero,i.size,i.bytes))=some (some z,1,bt))(hzs:z.cells.size=1)(hbt:bt≤1000)(hw:Region.wanted o (yielded ops a.tmps)=true)(s x:Operand)
  (ho:o.op=.call { callee:=.builtin .append,args:=#[s,x],argTypes:=#[T,T] }) (base:Nat)
  (v:Value) (n:Nat) (xs:List Value) (y:Value) (g:Nat) (hs:a.eval s=v) (hx:a.eval x=.slice (some ⟨g,0,none⟩) 1 1) (hown:w.ownsRow base E 1 v n xs)
  (hB:w.cell? ⟨g,0,none⟩=some y) (h1:y.oneCell'=true) (hn:n≤100000000) (hbase:base≤w.heap.size)
  (h:∀ v' w',w'.ownsRow base E 1 v' (n+1) (xs++[y])→w.grownBy w' v.ownBlock→(v'.ownBlock=v.ownBlock∨v'.ownBlock=some w.heap.size)→K (a.put o.dst v') w') :
  if Region.wanted o (yielded ops a.tmps)=true then Oper.wp Tryz.prog o a w K Q else X:=by
 rw[if_pos hw]
 obtain ⟨i,hi,hz0,hz1,hz2⟩:=info_parts hin
 have hb:(n+1)*bt≤(100000000+1)*1000:=Nat.mul_le_mul (by omega) hbt
 obtain ⟨v',w',hr,h2,h3,_,h5⟩:=run_append_own_at (P:=Tryz.prog) w base T o.type E i _ 1 bt hu hi hz0 hz1 hz2 hzs (by decide) v n _ hown ⟨g,0,none⟩ 1 1 [y] rfl (fun j u hj=>by
  match j with
  | 0=>simp at hj;rw[← hj,qh];exact hB
  | j+1=>simp at hj) (fun u hu=>by simp at hu;subst hu;exact h1) (by unfold maxLen;omega) (by omega) hbase
 unfold Oper.wp execOp
 simp only[ho,resolve,invoke,builtin,Sem.run_bind,Sem.run_pure,Result.andThen_ok,List.map_toArray,List.map_cons,List.map_nil,hs,hx,hr]
 exact h v' w' h2 h3 h5
theorem q7a{T0:Tr}{q:Option Addr}{d B:Nat}{w:World}{G:Nat→Prop}{b n ak:Nat}{l0:List Nat}{M:Mt}{vT:Value}{S:List Nat}{rv:List Value}(h:MkO T0 q d B w G b n ak l0 M vT S rv)(s:Nat)(hs:s<2 ^ 64) :
  Calls Tryz.prog 50 #[.pointer (some ⟨b,0,none⟩),.int .u64 (s:Int)] w (StQ T0 q d B w G b n ak l0 M vT S rv s):=by
 obtain ⟨Q,hQ⟩:∃ Q:Ending→World→Prop,Q=StQ T0 q d B w G b n ak l0 M vT S rv s:=⟨_,rfl⟩
 have HQ:Hid (∀ e w',StQ T0 q d B w G b n ak l0 M vT S rv s e w'→Q e w'):=fun e w' h=>by rw[hQ];exact h
 rw[← hQ]
 have HO:Hid _:=h
 obtain ⟨F,p,mp,vS,vF,vN,fs,hr,hp,hG⟩:=h
 have cm:=hr.cm
 have hlook:=hr.num.look hs
 by_cases hm:s∈S
 ·have e1:posN S s=some (S.idxOf s):=by unfold posN;rw[if_pos hm]
  rw[e1]at hlook
  have HR:Hid (Q (.returned (.tuple #[.int .i64 ((S.idxOf s:Nat):Int),.int .i64 0])) w):=HQ.out _ _ ⟨G,Fr.ofBelow (Below.refl _ _),Or.inr ⟨_,S,by unfold put1;rw[if_pos hm],rfl,HO.out⟩⟩
  dsimp only[Option.getD_some,Option.isSome_some]at hlook
  generalize S.idxOf s=j at *
  clear hr hp hG HO hQ
  go_enter Tryz.func50,Tryz.ntmps50
  go_wp2
  exact HR.out
 ·have e1:posN S s=none:=by unfold posN;rw[if_neg hm]
  rw[e1]at hlook
  dsimp only[Option.getD_none,Option.isSome_none]at hlook
  obtain ⟨aS,kS,rfl⟩:=q2c hr.rs
  have cS:=hr.cS
  by_cases hL:S.length=256
  ·have HR:Hid (Q (.returned (.tuple #[.int .i64 0,.int .i64 10])) w):=HQ.out _ _ ⟨G,Fr.ofBelow (Below.refl _ _),Or.inl ⟨by unfold put1;rw[if_neg hm,if_pos (by omega)],rfl,HO.out⟩⟩
   have he:((S.length:Int) == 256)=true:=by rw[hL];rfl
   clear hr hp hG HO hQ HQ hL
   generalize S.length=L at *
   go_enter Tryz.func50,Tryz.ntmps50
   go_wp2
   exact HR.out
  ·have hlt:S.length<256:=by have:=hp.few;omega
   obtain ⟨w4,hrun,hn4,hg4⟩:=hr.num.put (by omega) hs e1 S.length (by omega)
   obtain ⟨hp4,fr4⟩:=hr.put hg4 (hn4.alike fun y _=>qbL hm y)
   obtain ⟨aF,kF,rfl⟩:=q2c hr.rf
   have HP4:Hid _:=hp4
   have HF4:Hid _:=fr4
   have d2:=hp4.cS
   have hc7:(w4.alloc (.cells #[.int .u64 (s:Int)] 46)).cell? ⟨w4.heap.size,0,none⟩=some (.int .u64 (s:Int)):=qb (MapKept.heap_alloc w4 _).1 0
   have hO7:=World.ownsRow.alloc hp4.rs (.cells #[.int .u64 (s:Int)] 46)
   have hBs:B≤w4.heap.size:=Nat.le_trans hp4.bB (Nat.le_of_lt hp4.bl)
   have HPP:Hid (∀ w8 w9 c w5 v' vS',MkR T0 q d B w8 F b p n ak mp l0 M vS' vT (.slice aF fs.length kF) vN (S++[s]) fs rv (S.length+1) (posN (S++[s]))→Fr w w8 (FM F b mp (.slice aS S.length kS) (.slice aF fs.length kF) vN) (FM F b mp vS' (.slice aF fs.length kF) vN)→Below w8.heap.size w8 w9→(c=true↔FinP M [s])→(w9.alloc (.cells #[.bool c] 4)).grownBy w5 (Value.slice aF fs.length kF).ownBlock→w5.ownsRow B 4 1 v' (fs.length+1) (fs.map Value.bool++[.bool c])→(v'.ownBlock=(Value.slice aF fs.length kF).ownBlock∨v'.ownBlock=some (w9.heap.size+1)) →
     w5.cell? ⟨b,4,none⟩=some (.slice aF fs.length kF)∧w5.frozen? ⟨b,4,none⟩=false∧w5.cell? ⟨b,0,none⟩=some (.pointer (some ⟨p,0,none⟩))∧(w5.setCell ⟨b,4,none⟩ v').cell? ⟨b,0,none⟩=some (.pointer (some ⟨p,0,none⟩))∧Q (.returned (.tuple #[.int .i64 (S.length:Int),.int .i64 0])) (w5.setCell ⟨b,4,none⟩ v')):=fun w8 w9 c w5 v' vS' h8 f8 hb9 hc hg ho hl=>by
    have hbn:Below w8.heap.size w8 (w9.alloc (.cells #[.bool c] 4)):=hb9.trans ((qc w9 _).mono hb9.size)
    obtain ⟨m1,m2,m3⟩:=h8.growF (fs':=fs++[c]) hbn hg (by rw[List.length_append,List.map_append];exact ho) (by simpa using hl)
    refine ⟨qb m1 4,frozen_of_row w5 b 4 _ _ m1,qb m1 0,m2.cp,HQ.out _ _ ⟨_,(f8.trans m3).alike (fun k hk=>(hG k).2 hk) (fun k hk=>hk),Or.inr ⟨S.length,S++[s],by unfold put1;rw[if_neg hm,if_neg (by omega)],rfl,F,p,mp,_,_,vN,fs++[c],?_,hp.more hs hlt hc,fun k=>Iff.rfl⟩⟩⟩
    rw[List.length_append]
    exact m2
   have HGS:Hid (∀ w5 v',(w4.alloc (.cells #[.int .u64 (s:Int)] 46)).grownBy w5 (Value.slice aS S.length kS).ownBlock→w5.ownsRow B 46 1 v' (S.length+1) ((iU S).map (Value.int .u64)++[.int .u64 (s:Int)])→(v'.ownBlock=(Value.slice aS S.length kS).ownBlock∨v'.ownBlock=some (w4.heap.size+1)) →
     w5.cell? ⟨b,2,none⟩=some (.slice aS S.length kS)∧w5.frozen? ⟨b,2,none⟩=false∧MkR T0 q d B (w5.setCell ⟨b,2,none⟩ v') F b p n ak mp l0 M v' vT (.slice aF fs.length kF) vN (S++[s]) fs rv (S.length+1) (posN (S++[s]))∧Fr w (w5.setCell ⟨b,2,none⟩ v') (FM F b mp (.slice aS S.length kS) (.slice aF fs.length kF) vN) (FM F b mp v' (.slice aF fs.length kF) vN)):=fun w5 v' hg ho hl=>by
    obtain ⟨m1,m2,m3⟩:=HP4.out.growS (S':=S++[s]) (qc w4 _) hg (by rw[List.length_append,q7M,List.map_append];exact ho) (by simpa using hl)
    exact ⟨qb m1 2,frozen_of_row w5 b 2 _ _ m1,m2,HF4.out.trans m3⟩
   have HSM:Hid (s<2 ^ 64):=hs
   have hlf:fs.length<256:=by have:=hp.fl;omega
   have hne:((S.length:Int) == 256)=false:=by simp;omega
   clear hr hp hG HO hQ hn4 hg4 hp4 fr4 HP4 HF4
   generalize hLs:S.length=L at *
   generalize hLf:fs.length=Lf at *
   have HLF:Hid (fs.length=Lf):=hLf
   clear hLs hLf
   go_enter Tryz.func50,Tryz.ntmps50
   go_wp2_with (at_builtin;refine q2G Tryz.underlying26 q8f rfl (by decide) rfl _ _ rfl B _ L ((iU S).map (Value.int .u64)) (.int .u64 (s:Int)) w4.heap.size rfl rfl hO7 hc7 rfl (by omega) (by simp;omega) ?_)
   intro v7 w7 hown7 hgr7 hloc7
   obtain ⟨a7,k7,rfl⟩:=qx hown7
   obtain ⟨c7,z7,m7,f7⟩:=HGS.out w7 _ hgr7 (by simpa [iU] using hown7) (by simpa using hloc7)
   have HM7:Hid _:=m7
   have HF7:Hid _:=f7
   clear hown7 hgr7 hloc7 m7 f7 HGS hO7 hc7 d2 hrun hlook cm cS
   go_wp2
   generalize w7.setCell ⟨b,2,none⟩ (.slice a7 (L+1) k7)=w8 at *
   have c0:=HM7.out.cp
   have c4:=HM7.out.cF
   have hb8:Below w8.heap.size w8 ((w8.alloc (.cells #[.int .u64 (s:Int)] 46)).drew):=(Below.refl _ w8).drew.alloc (Nat.le_refl _) _
   have c4a:(w8.alloc (.cells #[.int .u64 (s:Int)] 46)).drew.cell? ⟨b,4,none⟩=some (.slice aF Lf kF):=qm c4 hb8
   have c0a:(w8.alloc (.cells #[.int .u64 (s:Int)] 46)).drew.cell? ⟨b,0,none⟩=some (.pointer (some ⟨p,0,none⟩)):=qm c0 hb8
   have hBw:B≤w8.heap.size:=Nat.le_trans HM7.out.bB (Nat.le_of_lt HM7.out.bl)
   have jf:Calls Tryz.prog 82 #[.pointer (some ⟨p,0,none⟩),.slice (some ⟨w8.heap.size,0,none⟩) 1 1] ((w8.alloc (.cells #[.int .u64 (s:Int)] 46)).drew) fun e w9=>∃ c,e=.returned (.bool c)∧Hid (c=true↔FinP M [s])∧Hid (Below w8.heap.size w8 w9)∧w9.cell? ⟨b,0,none⟩=some (.pointer (some ⟨p,0,none⟩))∧(w9.alloc (.cells #[.bool c] 4)).cell? ⟨b,0,none⟩=some (.pointer (some ⟨p,0,none⟩))∧w9.cell? ⟨b,4,none⟩=some (.slice aF Lf kF)∧(w9.alloc (.cells #[.bool c] 4)).cell? ⟨b,4,none⟩=some (.slice aF Lf kF)∧(w9.alloc (.cells #[.bool c] 4)).ownsRow B 4 1 (.slice aF Lf kF) Lf (fs.map Value.bool)∧(w9.alloc (.cells #[.bool c] 4)).cell? ⟨w9.heap.size,0,none⟩=some (.bool c)∧B≤w9.heap.size:=by
    obtain ⟨items,hp⟩:=HM7.out.prg
    have hrf:=HM7.out.rf
    refine (q65 (hp.o.up hb8) (some ⟨w8.heap.size,0,none⟩) 1 [s] (q1K [s] w8.drew (by simp)) (fun x hx=>by have:x=s:=(by simpa using hx);subst this;exact HSM.out)).mono ?_
    rintro e w9 ⟨⟨c,rfl,hc⟩,hb9⟩
    have hbb:=qd hb8 hb9
    rw[HLF.out]at hrf
    have hr9:w9.ownsRow B 4 1 (.slice aF Lf kF) Lf (fs.map Value.bool):=qj hrf fun k hk=>hbb.block k (qu hrf k hk)
    exact ⟨c,rfl,hc,hbb,qm c0 hbb,qm (qm c0 hbb) (qc w9 _),qm c4 hbb,qm (qm c4 hbb) (qc w9 _),World.ownsRow.alloc hr9 _,qb (MapKept.heap_alloc w9 _).1 0,Nat.le_trans hBw hbb.size⟩
   clear hb8
   have c0d:w8.drew.cell? ⟨b,0,none⟩=some (.pointer (some ⟨p,0,none⟩)):=c0
   go_region_law (first
    | (revert hO9;intro hO9;refine qcC Tryz.underlying28 q8I rfl (by decide) rfl _ _ rfl B (.slice aF Lf kF) Lf (fs.map Value.bool) (.bool c) w9.heap.size rfl rfl hO9 hc9 rfl (by omega) (by simp;omega) ?_;intro v5 w5 hown5 hgr5 hloc5;obtain ⟨a5,k5,rfl⟩:=qx hown5;have m5:=HPP.out w8 w9 c w5 _ _ HM7.out HF7.out HB9.out HC.out hgr5 hown5 (by simpa using hloc5);have c5:=m5.1;have z5:=m5.2.1;have c05:=m5.2.2.1;have c06:=m5.2.2.2.1;have HR5:Hid _:=m5.2.2.2.2;clear m5)
    | (revert jf;intro jf;go_simp;(with_reducible refine jf.mono ?_);rintro e w9 ⟨c,rfl,HC,HB9,c09,c09b,c49,c49b,hO9,hc9,hB9⟩;dsimp only)
    | fail)
   all_goals
    clear jf c0 c4 c0a c4a c0d c09 c09b c49 c49b hO9 hc9 c5 z5 c05 c06 hown5 hgr5 hloc5
    go_wp2
    exact HR5.out
section
variable {T0:Tr} {q:Option Addr} {d B:Nat} {w w':World} {G G':Nat→Prop} {b n ak:Nat} {l0:List Nat} {M:Mt} {vT:Value} {S:List Nat} {rv:List Value}
theorem MkO.lt(h:MkO T0 q d B w G b n ak l0 M vT S rv):∀ k,G k→k<w.heap.size:=fun k hk=>by
 obtain ⟨F,p,mp,vS,vF,vN,fs,hr,_,hG⟩:=h
 exact hr.lt k ((hG k).1 hk)
theorem MkO.Bs(h:MkO T0 q d B w G b n ak l0 M vT S rv):B≤w.heap.size:=by
 obtain ⟨F,p,mp,vS,vF,vN,fs,hr,_,hG⟩:=h
 exact Nat.le_trans hr.bB (Nat.le_of_lt hr.bl)
theorem MkO.up(h:MkO T0 q d B w G b n ak l0 M vT S rv)(hb:Below w.heap.size w w'):MkO T0 q d B w' G b n ak l0 M vT S rv:=by
 obtain ⟨F,p,mp,vS,vF,vN,fs,hr,hp,hG⟩:=h
 exact ⟨F,p,mp,vS,vF,vN,fs,hr.up hb,hp,hG⟩
theorem MkO.off(h:MkO T0 q d B w G b n ak l0 M vT S rv){g:Nat}(hg:¬ G g)(hB:B≤g)(i:Nat)(v:Value):MkO T0 q d B (w.setCell ⟨g,i,none⟩ v) G b n ak l0 M vT S rv:=by
 obtain ⟨F,p,mp,vS,vF,vN,fs,hr,hp,hG⟩:=h
 refine ⟨F,p,mp,vS,vF,vN,fs,hr.far (by simp) (fun k hk=>Below.heap_setCell _ _ _ _ fun e=>hg (by have e2:k=g:=e;exact e2 ▸ (hG k).2 hk)) (fun k hk=>Below.heap_setCell _ _ _ _ fun e=>?_),hp,hG⟩
 have:=hr.sb k hk
 have e2:(adOf q k).block=g:=e
 omega
end
def SsQ (T0:Tr) (q:Option Addr) (d B:Nat) (w:World) (G:Nat→Prop) (b n ak:Nat) (l0:List Nat) (M:Mt) (vT:Value) (S:List Nat) (rv:List Value) (l:List Nat) (e:Ending) (w':World):Prop :=
 ∃ G',Fr w w' G G'∧((putS l S=none∧e=.returned (.tuple #[.slice none 0 0,.int .i64 10])∧∃ S2,MkO T0 q d B w' G' b n ak l0 M vT S2 rv)∨∃ r S1,putS l S=some (r,S1)∧r.length=l.length∧e=.returned (.tuple #[.slice (some ⟨w.heap.size,0,none⟩) l.length l.length,.int .i64 0])∧MkO T0 q d B w' G' b n ak l0 M vT S1 rv∧RowI w' 3 w.heap.size (iU r)∧¬ G' w.heap.size)
structure SsI (T0:Tr) (q:Option Addr) (d B:Nat) (w:World) (G:Nat→Prop) (b n ak:Nat) (l0:List Nat) (M:Mt) (vT:Value) (S:List Nat) (rv:List Value) (l:List Nat) (k:Nat) (wr:World) (G':Nat→Prop) (S' acc:List Nat):Prop where
 fr:Fr w wr G G'
 o:MkO T0 q d B wr G' b n ak l0 M vT S' rv
 row:RowI wr 3 w.heap.size (iU (acc++List.replicate (l.length - k) 0))
 ng:¬ G' w.heap.size
 al:acc.length=k
 rr:putS l S=(putS (l.drop k) S').map fun x=>(acc++x.1,x.2)
theorem q3k{T0:Tr}{q:Option Addr}{d B:Nat}{w:World}{G:Nat→Prop}{b n ak:Nat}{l0:List Nat}{M:Mt}{vT:Value}{S:List Nat}{rv:List Value}(h:MkO T0 q d B w G b n ak l0 M vT S rv)(a:Option Addr)(len cap:Nat)(l:List Nat)(hU:USl w a len cap l)(hnf:∀ k,k<len→¬ G (adOf a k).block)(hs:Sm l)(hl:len≤1024) :
  Calls Tryz.prog 33 #[.pointer (some ⟨b,0,none⟩),.slice a len cap] w (SsQ T0 q d B w G b n ak l0 M vT S rv l):=by
 obtain ⟨Q,hQ⟩:∃ Q:Ending→World→Prop,Q=SsQ T0 q d B w G b n ak l0 M vT S rv l:=⟨_,rfl⟩
 have HQ:Hid (∀ e w',SsQ T0 q d B w G b n ak l0 M vT S rv l e w'→Q e w'):=fun e w' h=>by rw[hQ];exact h
 rw[← hQ]
 have hln:l.length=len:=hU.len.symm
 have hmk:=q8l len (by omega) w
 rw[madeI]at hmk
 obtain ⟨Z,hZ⟩:∃ Z,Z=((List.replicate len (0:Int)).map (Value.int .i64)).toArray:=⟨_,rfl⟩
 rw[← hZ]at hmk
 have hb1:=qc w (.cells Z 3)
 have HI0:Hid (SsI T0 q d B w G b n ak l0 M vT S rv l 0 (w.alloc (.cells Z 3)) G S []):=⟨Fr.ofBelow hb1,h.up hb1,by
  show _=_
  rw[(MapKept.heap_alloc w _).1,hln,hZ];simp[iU],fun e=>Nat.lt_irrefl _ (h.lt _ e),rfl,by simp⟩
 have HU:Hid _:=hU
 have HNF:Hid _:=hnf
 have HS:Hid _:=hs
 have HB:Hid _:=h.Bs
 have HLN:Hid _:=hln
 have hixg:∀ k,k<len→∀ w',(Instr.indexAt 27 (.slice (some ⟨w.heap.size,0,none⟩) len len) (.int .i64 (k:Int))).run Tryz.prog w'=.ok (.pointer (some ⟨w.heap.size,k,none⟩)) w':=fun k hk w'=>by
  have:=q1c (P:=Tryz.prog) Tryz.underlying27 q1L (a:=some ⟨w.heap.size,0,none⟩) (n:=len) (cap:=len) (by simp) k w' hk
  simpa [adOf,qh] using this
 have HIX:Hid _:=hixg
 clear h hU hnf hs hQ hb1 hln hixg hZ
 go_enter Tryz.func33,Tryz.ntmps33
 go_wp2
 go_loopw [16] (fun j wr=>∃ (k:Nat) (G':Nat→Prop) (S' acc:List Nat),k≤len∧j=.int .i64 (k:Int)∧Hid (SsI T0 q d B w G b n ak l0 M vT S rv l k wr G' S' acc)) (fun j _=>len - (intOf j).toNat)
 case atStart=>exact ⟨0,G,S,[],Nat.zero_le _,rfl,HI0⟩
 case round =>
  clear HI0 hmk
  obtain ⟨k,G',S',acc,hk,rfl,HI⟩:=hrel
  have HLEN:Hid (l.length=len):=HLN.out
  by_cases hlt:k<len
  ·have hkl:k<l.length:=by have:=HLN.out;omega
   have hUr:USl wr a len cap l:=HI.out.fr.intSl HU.out HNF.out
   have hidx:=fun w'=>hUr.idx len k w' hlt (Nat.le_refl _)
   have hce:=hUr.cell k hlt
   have hgd:(iU l).getD k 0=((l[k]:Nat):Int):=by simp[iU,List.getD_eq_getElem?_getD,List.getElem?_eq_getElem hkl]
   rw[hgd]at hce
   have hsk:=HS.out l[k] (List.getElem_mem hkl)
   have js:=q7a HI.out.o l[k] hsk
   have HDK:Hid _:=List.drop_eq_getElem_cons hkl
   have HN:Hid (∀ e w',StQ T0 q d B wr G' b n ak l0 M vT S' rv l[k] e w'→(e=.returned (.tuple #[.int .i64 0,.int .i64 10])∧Q (.returned (.tuple #[.slice none 0 0,.int .i64 10])) w')∨∃ j G2 S2 v,e=.returned (.tuple #[.int .i64 ((j:Nat):Int),.int .i64 0])∧w'.cell? ⟨w.heap.size,k,none⟩=some v∧w'.frozen? ⟨w.heap.size,k,none⟩=false∧SsI T0 q d B w G b n ak l0 M vT S rv l (k+1) (w'.setCell ⟨w.heap.size,k,none⟩ (.int .i64 ((j:Nat):Int))) G2 S2 (acc++[j])):=fun e w' hq=>by
    obtain ⟨G2,fr,⟨h1,he,hO⟩ | ⟨j,S2,h1,he,hO⟩⟩:=hq
    ·refine Or.inl ⟨he,HQ.out _ _ ⟨G2,HI.out.fr.trans fr,Or.inl ⟨?_,rfl,_,hO⟩⟩⟩
     rw[HI.out.rr,HDK.out,qbN h1];rfl
    ·have hgl:=HI.out.row.lt
     have hrow:RowI w' 3 w.heap.size (iU (acc++List.replicate (l.length - k) 0)):=(fr.keep _ hgl HI.out.ng).trans HI.out.row
     have hng:=fr.out HI.out.ng hgl
     have hBg:B≤w.heap.size:=HB.out
     refine Or.inr ⟨j,G2,S2,_,he,hrow.cell (i:=k) (by simp[iU,HI.out.al];omega),hrow.frozen k,?_,hO.off hng hBg k _,?_,hng,by simp[HI.out.al],?_⟩
     ·have f1:=HI.out.fr.trans fr
      exact ⟨f1.os,f1.tape,f1.output,by have:=f1.size;simp;exact this,fun z hz hn=>(Below.heap_setCell _ _ _ _ fun e=>by have e2:z=w.heap.size:=e;omega).trans (f1.keep z hz hn),f1.foot⟩
     ·have:=hrow.set k (j:Int)
      have e2:(iU (acc++List.replicate (l.length - k) 0)).set k (j:Int)=iU (acc++[j]++List.replicate (l.length - (k+1)) 0):=by
       rw[qdK,List.set_append_right _ _ (by rw[HI.out.al];exact Nat.le_refl _),HI.out.al,Nat.sub_self,show l.length - k=(l.length - (k+1))+1 by omega,List.replicate_succ,List.set_cons_zero,List.append_assoc]
       rfl
      rw[e2]at this
      exact this
     ·rw[HI.out.rr,HDK.out,qbO h1,Option.map_map]
      congr 1
      funext x
      simp
   have hixk:=HIX.out k hlt
   clear hUr hsk hgd HI
   generalize l[k]=s at *
   generalize adOf a k=ad at *
   obtain ⟨ga,oa,sa⟩:=ad
   go_wp2_with fail
   refine js.mono ?_
   intro e w3 hq
   rcases HN.out e w3 hq with ⟨rfl,hr⟩ | ⟨j,G2,S2,v,rfl,cv,zv,hI2⟩
   ·have HR:Hid _:=hr
    clear js hq hr HN
    go_wp2
    exact HR.out
   ·have HI2:Hid _:=hI2
    clear js hq HN hI2 hce hidx
    go_wp2
    go_roundw
    case rel=>exact ⟨k+1,G2,S2,acc++[j],by omega,by go_num,HI2⟩
    case measure=>simp[intOf] <;> omega
  ·obtain rfl:k=len:=by omega
   have HR:Hid (Q (.returned (.tuple #[.slice (some ⟨w.heap.size,0,none⟩) k k,.int .i64 0])) wr):=HQ.out _ _ ⟨G',HI.out.fr,Or.inr ⟨acc,S',by rw[HI.out.rr,List.drop_of_length_le (by have:=HLN.out;omega)];simp[putS],by rw[HI.out.al,HLN.out],by rw[HLN.out],HI.out.o,by
    have:=HI.out.row
    rw[show l.length - k=0 by have:=HLN.out;omega]at this
    simpa using this,HI.out.ng⟩⟩
   clear HI
   go_wp2
   exact HR.out
end Go.Proofs.YtekeaodpdcnfjaaGreatDoor
