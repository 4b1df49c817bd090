/- Texts of the proof, put together: what it uses. -/
import Derived.Test.YtekeaodpdcnfjaaGreatDoorX25
set_option maxRecDepth 100000
set_option maxHeartbeats 16000000
namespace Go.Proofs.YtekeaodpdcnfjaaGreatDoor
open Go.RowKit Go.Maps
theorem q9t{w w':World}{a:Option Addr}{n c:Nat}{l:List Nat}(s:ISl w a n c l)(hs:w.heap.size≤w'.heap.size)(hk:∀ k,k<n→w'.heap[(adOf a k).block]? = w.heap[(adOf a k).block]?):ISl w' a n c l:=by
 refine ⟨s.hlen,s.hcap,s.bd,s.idx,fun k hk2=>?_,fun k hk2=>Nat.lt_of_lt_of_le (s.blk k hk2) hs,s.nn⟩
 have:=s.cell k hk2
 unfold World.cell? at this ⊢
 rw[hk k hk2];exact this
theorem IsU.lis{B:Nat}{w w':World}{G:Nat→Prop}{r:PcU}(h:IsU B w G r)(hs:w.heap.size≤w'.heap.size)(hw:∀ k,B≤k→w'.heap[k]? = w.heap[k]?):LIs w' (pcI r) r.ts:=by
 have hl:=h.len
 have hb:=h.bd
 have:=q9t h.sl hs fun k hk=>hw _ (h.lo k hk)
 rw[hl]at this
 exact ⟨r.a,r.cap,by unfold pcI;rw[hl],by omega,this⟩
theorem RwAt.lls{B:Nat}{w w':World}{G:Nat→Prop}{m:Nat}{r:RwR}(h:RwAt B w G m r)(hm:m≤256)(hs:w.heap.size≤w'.heap.size)(hw:∀ k,B≤k→w'.heap[k]? = w.heap[k]?):LLs w' (rwV m r) (rwL r):=by
 have hl:(rwL r).length=m:=by unfold rwL;rw[List.length_map,h.len]
 have hrow:RwI w' r.g r.cs:=(hw _ h.ge).trans h.row
 refine ⟨some ⟨r.g,0,none⟩,m,r.cs.map pcI,by rw[hl];rfl,⟨by simp[hl,h.len],fun e=>(by cases e),by omega,fun k v hv=>?_⟩,fun k l hl2=>?_⟩
 ·rw[List.getElem?_map]at hv
  cases hc:r.cs[k]? with
  | none=>rw[hc]at hv;cases hv
  | some c =>
   rw[hc]at hv
   injection hv with hv
   subst hv
   simp only[adOf,qh,Nat.zero_add]
   exact hrow.cell hc
 ·unfold rwL at hl2
  rw[List.getElem?_map]at hl2
  cases hc:r.cs[k]? with
  | none=>rw[hc]at hl2;cases hl2
  | some c =>
   rw[hc]at hl2
   injection hl2 with hl2
   subst hl2
   exact ⟨pcI c,by rw[List.getElem?_map,hc];rfl,(h.ls c (List.mem_of_getElem? hc)).lis hs hw⟩
theorem MkO.nfAt{T0:Tr}{q:Option Addr}{d B:Nat}{w:World}{G:Nat→Prop}{b n ak:Nat}{l0:List Nat}{M:Mt}{t0:PcU}{S:List Nat}{rs:List RwR}{m:Nat}(h:MkO T0 q d B w G b n ak l0 M (pcI t0) S (rs.map (rwV m)))(hr:∀ r∈rs,RwAt B w G m r)(ht:IsU B w G t0)(hm:m≤256)(hrl:rs.length≤256) :
  ∃ aS cS aT nT cT aF nF cF aN nN cN fs,w.cell? ⟨b,1,none⟩=some (.int .i64 (n:Int))∧w.cell? ⟨b,2,none⟩=some (.slice aS S.length cS)∧w.cell? ⟨b,3,none⟩=some (.slice aT nT cT)∧w.cell? ⟨b,4,none⟩=some (.slice aF nF cF)∧w.cell? ⟨b,5,none⟩=some (.slice aN nN cN)∧MkP M S fs ∧
   ∀ w',w.heap.size≤w'.heap.size→(∀ k,B≤k→w'.heap[k]? = w.heap[k]?)→NfAt w' (.slice aS S.length cS) (.slice aT nT cT) (.slice aF nF cF) (.slice aN nN cN) S t0.ts fs (rs.map rwL):=by
 obtain ⟨F,p,mp,vS,vF,vN,fs,hk,hp,hG⟩:=h
 obtain ⟨aS,cS,rfl⟩:=q2c hk.rs
 obtain ⟨aF,cF,rfl⟩:=q2c hk.rf
 obtain ⟨aN,cN,rfl⟩:=q2c hk.rn
 have hcT:=hk.cT
 unfold pcI at hcT
 refine ⟨aS,cS,t0.a,t0.len,t0.cap,aF,fs.length,cF,aN,_,cN,fs,hk.cn,hk.cS,hcT,hk.cF,hk.cN,hp,fun w' hs hw=>⟨?_,ht.lis hs hw,?_,?_⟩⟩
 ·obtain ⟨a,c,h1,h2⟩:=q3T (qj (w':=w') hk.rs fun k hk2=>hw k (q1E hk.rs k hk2))
  exact ⟨a,c,h1,h2⟩
 ·obtain ⟨a,c,h1,h2⟩:=qdZ (qj (w':=w') hk.rf fun k hk2=>hw k (q1E hk.rf k hk2))
  exact ⟨a,c,h1,h2⟩
 ·obtain ⟨a,c,h1,h2⟩:=qdq (qj (w':=w') hk.rn fun k hk2=>hw k (q1E hk.rn k hk2)) (by simp;omega)
  have hl:(rs.map rwL).length=(rs.map (rwV m)).length:=by simp
  refine ⟨a,c,rs.map (rwV m),by rw[hl];exact h1,by rw[hl];exact h2,fun k ll hll=>?_⟩
  rw[List.getElem?_map]at hll
  cases hc:rs[k]? with
  | none=>rw[hc]at hll;cases hll
  | some r =>
   rw[hc]at hll
   injection hll with hll
   subst hll
   exact ⟨rwV m r,by rw[List.getElem?_map,hc];rfl,(hr r (List.mem_of_getElem? hc)).lls hm hs hw⟩
def nilN:Value:=nfV 0 (.slice none 0 0) (.slice none 0 0) (.slice none 0 0) (.slice none 0 0)
structure NofK (n:Nat) (ts:List Tk) (T:Tr) (S st:List Nat) (fs:List Bool) (rows:List (List (List Nat))) (M:Mt):Prop where
 kt:KT T
 fl:ts=T.flat
 of:nfaM T n=.ok (S,st,rows,M)
 ok:NfK n S st fs rows
 fin:∀ q,q<S.length→(fs.getD q false=true↔FinP M [atS S q])
def NofR (n:Int) (ts:List Tk) (w:World) (e:Ending) (w':World):Prop:=Below w.heap.size w w' ∧
 ((∃ E:Int,E≠0∧e=.returned (.tuple #[nilN,.int .i64 E])∧(mmE n ts=E∨(mmE n ts=0∧∃ T,∃ E':Nat,KT T∧ts=T.flat∧nfaM T n.toNat=.error E'∧E=(E':Int)))) ∨
  ∃ T S st fs rows M vS vT vF vN,mmE n ts=0∧NofK n.toNat ts T S st fs rows M∧e=.returned (.tuple #[nfV n.toNat vS vT vF vN,.int .i64 0])∧NfAt w' vS vT vF vN S st fs rows)
theorem qdp{n:Nat}{ts:List Tk}{T:Tr}{S st:List Nat}{fs:List Bool}{rows:List (List (List Nat))}{M:Mt}(hn:n≤8)(kt:KT T)(fl:ts=T.flat)(of:nfaM T n=.ok (S,st,rows,M))(hp:MkP M S fs):NofK n ts T S st fs rows M:=by
 obtain ⟨h1,h2,h3⟩:=qbv kt of
 have hfin:∀ q,q<S.length→(fs.getD q false=true↔FinP M [atS S q]):=fun q hq=>by
  have hq2:q<fs.length:=by rw[hp.fl];exact hq
  rw[List.getD_eq_getElem?_getD,List.getElem?_eq_getElem hq2]
  exact hp.fi q _ (List.getElem?_eq_getElem hq2)
 obtain ⟨l0,hA⟩:=h3 (fun q=>fs.getD q false) hfin
 refine ⟨kt,fl,of,⟨hn,h1.ok.few,hp.fl,h2,hA.st_lt,fun q row hq=>⟨(h1.row q row hq).1,fun x l hl j hj=>?_⟩⟩,hfin⟩
 obtain ⟨hr1,hr2⟩:=h1.row q row hq
 have hx:x<2 ^ n:=by rw[← hr1];exact (List.getElem?_eq_some_iff.1 hl).1
 obtain ⟨r,h5,_,h6⟩:=hr2 x hx
 rw[h5]at hl
 injection hl with hl
 subst hl
 exact h6 j hj
def NZ (w:World) (g:Nat):Prop:=w.heap[g]? = some (.cells #[.int .i64 0,.slice none 0 0,.slice none 0 0,.slice none 0 0,.slice none 0 0] 31 (0,0))
theorem NZ.up{w w':World}{g:Nat}(h:NZ w g)(hb:Below w.heap.size w w'):NZ w' g:=(hb.block g (Array.getElem?_eq_some_iff.1 h).1).trans h
def five (w:World) (g:Nat) (v0 v1 v2 v3 v4:Value):World:=((((w.setCell ⟨g,0,none⟩ v0).setCell ⟨g,1,none⟩ v1).setCell ⟨g,2,none⟩ v2).setCell ⟨g,3,none⟩ v3).setCell ⟨g,4,none⟩ v4
theorem qc1(w:World)(g:Nat)(v0 v1 v2 v3 v4:Value){k:Nat}(h:k≠g):(five w g v0 v1 v2 v3 v4).heap[k]? = w.heap[k]? := by
 unfold five
 rw[Below.heap_setCell _ _ _ _ h,Below.heap_setCell _ _ _ _ h,Below.heap_setCell _ _ _ _ h,Below.heap_setCell _ _ _ _ h,Below.heap_setCell _ _ _ _ h]
theorem q44{B:Nat}{w w2:World}{g:Nat}(hb:Below B w w2)(hg:B≤g)(v0 v1 v2 v3 v4:Value):Below B w (five w2 g v0 v1 v2 v3 v4) :=
 ((((hb.setCell (p:=⟨g,0,none⟩) hg v0).setCell (p:=⟨g,1,none⟩) hg v1).setCell (p:=⟨g,2,none⟩) hg v2).setCell (p:=⟨g,3,none⟩) hg v3).setCell (p:=⟨g,4,none⟩) hg v4
theorem qci{n:Int}{ts:List Tk}(h:mmE n ts=0):∃ k:Nat,n=(k:Int)∧k≤8∧chkE ts=0∧bitsL ts >>> k=0:=by
 unfold mmE at h
 by_cases h1:0≤n∧n≤8
 ·rw[if_pos h1]at h
  by_cases h2:chkE ts≠0
  ·rw[if_pos h2]at h;omega
  ·rw[if_neg h2]at h
   obtain ⟨k,rfl⟩:=Int.eq_ofNat_of_zero_le h1.1
   by_cases h3:bitsL ts >>> k=0
   ·exact ⟨k,rfl,by omega,by omega,h3⟩
   ·rw[Int.toNat_natCast,if_neg h3]at h;omega
 ·rw[if_neg h1]at h;omega
theorem q1F(n:Int)(a:Option Addr)(len cap:Nat)(ts:List Tk)(w:World)(hT:TkSl w a len cap ts)(htab:Tab64 w) :
  Calls Tryz.prog 6 #[.int .i64 n,.slice a len cap] w (NofR n ts w):=by
 obtain ⟨Q,hQ⟩:∃ Q:Ending→World→Prop,Q=NofR n ts w:=⟨_,rfl⟩
 have HQ:Hid (∀ e w',NofR n ts w e w'→Q e w'):=fun e w' h=>by rw[hQ];exact h
 rw[← hQ]
 have hb1:=qc w (.cells #[.int .i64 0,.slice none 0 0,.slice none 0 0,.slice none 0 0,.slice none 0 0] 31)
 have HZ1:Hid (NZ (w.alloc (.cells #[.int .i64 0,.slice none 0 0,.slice none 0 0,.slice none 0 0,.slice none 0 0] 31)) w.heap.size):=(MapKept.heap_alloc w _).1
 have jm:=q5p n a len cap ts (w.alloc (.cells #[.int .i64 0,.slice none 0 0,.slice none 0 0,.slice none 0 0,.slice none 0 0] 31)) (hT.up hb1)
 have HT:Hid _:=hT
 have HTB:Hid _:=htab
 have HB1:Hid _:=hb1
 obtain ⟨E,hE⟩:∃ E,E=mmE n ts:=⟨_,rfl⟩
 rw[← hE]at jm
 have HE:Hid _:=hE
 clear hT htab hQ hb1 hE
 by_cases h0:E=0
 ·subst h0
  obtain ⟨k,rfl,hk8,hc0,hbs⟩:=qci HE.out.symm
  have HR9:Hid (∀ w2 (E:Int),Below w.heap.size w w2→E≠0→(∃ T,∃ E':Nat,KT T∧ts=T.flat∧nfaM T k=.error E'∧E=(E':Int))→Q (.returned (.tuple #[nilN,.int .i64 E])) (five w2 w.heap.size (.int .i64 0) (.slice none 0 0) (.slice none 0 0) (.slice none 0 0) (.slice none 0 0))):=fun w2 E hb hne h=>HQ.out _ _ ⟨q44 hb (Nat.le_refl _) _ _ _ _ _,Or.inl ⟨E,hne,rfl,Or.inr ⟨HE.out.symm,by simpa using h⟩⟩⟩
  go_enter Tryz.func6,Tryz.ntmps6
  go_wp2_with fail
  refine jm.mono ?_
  rintro e w2 ⟨rfl,hb2⟩
  have hbw2:=qd HB1.out hb2
  have jb:=q6J k a len cap ts w2 (HT.out.up hbw2) hc0 (Tab64.up (w:=w) HTB.out hbw2)
  have HZ2:Hid _:=NZ.up HZ1.out hb2
  have HBW2:Hid _:=hbw2
  clear jm hb2 hbw2 HZ1
  go_wp2_with fail
  refine jb.mono ?_
  rintro e w3 ⟨hb3,T,kT,hts,⟨E,v,hne,hnf,rfl⟩ | ⟨q,d,B,G,b,l0,M,t0,S,hn,hpu,rfl,hM,hI,hst,hpr,hGe,hBw⟩⟩
  ·have HR:Hid _:=HR9.out w3 (E:Int) (qd HBW2.out hb3) (by omega) ⟨T,E,kT,hts,hnf,rfl⟩
   have hz3:=NZ.up (w:=w2) (g:=w.heap.size) HZ2.out hb3
   have z0:w3.cell? ⟨w.heap.size,0,none⟩=some (.int .i64 0):=qb hz3 0
   have z1:w3.cell? ⟨w.heap.size,1,none⟩=some (.slice none 0 0):=qb hz3 1
   have z2:w3.cell? ⟨w.heap.size,2,none⟩=some (.slice none 0 0):=qb hz3 2
   have z3:w3.cell? ⟨w.heap.size,3,none⟩=some (.slice none 0 0):=qb hz3 3
   have z4:w3.cell? ⟨w.heap.size,4,none⟩=some (.slice none 0 0):=qb hz3 4
   have f0:w3.frozen? ⟨w.heap.size,0,none⟩=false:=frozen_of_row w3 _ 0 _ _ hz3
   have f1:w3.frozen? ⟨w.heap.size,1,none⟩=false:=frozen_of_row w3 _ 1 _ _ hz3
   have f2:w3.frozen? ⟨w.heap.size,2,none⟩=false:=frozen_of_row w3 _ 2 _ _ hz3
   have f3:w3.frozen? ⟨w.heap.size,3,none⟩=false:=frozen_of_row w3 _ 3 _ _ hz3
   have f4:w3.frozen? ⟨w.heap.size,4,none⟩=false:=frozen_of_row w3 _ 4 _ _ hz3
   have hneb:(((E:Nat):Int) != 0)=true:=by simp;omega
   clear jb hz3 hb3 kT hts hnf HR9 HZ2
   go_wp2
   refine bodyPost_ret (v:=.tuple #[nilN,.int .i64 (E:Int)]) (by simp[results,Tryz.results6,go_sem,nilN,nfV,z0,z1,z2,z3,z4]) rfl ?_
   exact HR.out
  ·have h7:∀ t∈ts,t.2≤7:=by rw[hts];exact q5I kT
   have hbw3:=qd HBW2.out hb3
   have htl:=World.block_lt_of_cell? _ _ (HTB.out 0 (by decide))
   have hng:¬ G tabG:=fun e=>Nat.lt_irrefl _ (Nat.lt_of_lt_of_le (Nat.lt_of_lt_of_le htl HBW2.out.size) (hGe _ e))
   have jg:=q91 hM hI hst hpr (fun x=>qcg ts x) (q6l h7) hk8 (Tab64.up (w:=w) HTB.out hbw3) hng
   have hzl:=(Array.getElem?_eq_some_iff.1 (NZ.up (w:=w2) (g:=w.heap.size) HZ2.out hb3)).1
   have hg2:w.heap.size<w2.heap.size:=(Array.getElem?_eq_some_iff.1 HZ2.out).1
   have HGO:Hid (∀ e w4,GoQ T q d B w3 G b k (bitsL ts) l0 M t0 S e w4→NZ w4 w.heap.size∧((∃ E:Nat,e=.returned (.int .i64 (E:Int))∧E≠0∧Q (.returned (.tuple #[nilN,.int .i64 (E:Int)])) (five w4 w.heap.size (.int .i64 0) (.slice none 0 0) (.slice none 0 0) (.slice none 0 0) (.slice none 0 0))) ∨
     ∃ aS nS cS aT nT cT aF nF cF aN nN cN,e=.returned (.int .i64 0)∧w4.cell? ⟨b,1,none⟩=some (.int .i64 (k:Int))∧w4.cell? ⟨b,2,none⟩=some (.slice aS nS cS)∧w4.cell? ⟨b,3,none⟩=some (.slice aT nT cT)∧w4.cell? ⟨b,4,none⟩=some (.slice aF nF cF)∧w4.cell? ⟨b,5,none⟩=some (.slice aN nN cN) ∧
      Q (.returned (.tuple #[nfV k (.slice aS nS cS) (.slice aT nT cT) (.slice aF nF cF) (.slice aN nN cN),.int .i64 0])) (five w4 w.heap.size (.int .i64 (k:Int)) (.slice aS nS cS) (.slice aT nT cT) (.slice aF nF cF) (.slice aN nN cN)))):=fun e w4 hq=>by
    obtain ⟨G4,fr,hq⟩:=hq
    have hnz:NZ w4 w.heap.size:=(fr.keep _ hzl fun e=>by have:=hGe _ e;omega).trans (NZ.up (w:=w2) (g:=w.heap.size) HZ2.out hb3)
    have hb4:Below w.heap.size w w4:=hbw3.trans (fr.below (fun j hj=>Nat.le_trans HBW2.out.size (hGe j hj)) hbw3.size)
    refine ⟨hnz,?_⟩
    rcases hq with ⟨E,hne,hal,rfl⟩ | ⟨rs,S1,M1,hal,rfl,hM4,hrs,hI4⟩
    ·exact Or.inl ⟨E,rfl,hne,HR9.out w4 (E:Int) hb4 (by omega) ⟨T,E,kT,hts,by unfold nfaM;simp only[hn,hpu,hal],rfl⟩⟩
    ·have hnf:nfaM T k=.ok (S1,t0.ts,rs.map rwL,M1):=by unfold nfaM;simp only[hn,hpu,hal]
     obtain ⟨hA,hAl,_⟩:=qbv kT hnf
     have hpw:2 ^ k≤256:=Nat.pow_le_pow_right (n:=2) (by decide) hk8
     obtain ⟨aS,cS,aT,nT,cT,aF,nF,cF,aN,nN,cN,fs,c1,c2,c3,c4,c5,hp,hN⟩:=hM4.nfAt hrs hI4 hpw (by have:=hA.ok.few;simp at hAl;omega)
     refine Or.inr ⟨aS,_,cS,aT,nT,cT,aF,nF,cF,aN,nN,cN,rfl,c1,c2,c3,c4,c5,HQ.out _ _ ⟨q44 hb4 (Nat.le_refl _) _ _ _ _ _,Or.inr ⟨T,S1,t0.ts,fs,rs.map rwL,M1,_,_,_,_,HE.out.symm,qdp hk8 kT hts hnf hp,rfl,hN _ (by unfold five;simp) fun j hj=>qc1 _ _ _ _ _ _ _ (by omega)⟩⟩⟩
   clear jb hM hI hst hpr hGe hBw hb3 kT hts hn hpu h7 hbw3 htl hng hzl hg2 HZ2 HR9
   go_wp2_with fail
   refine jg.mono ?_
   intro e w4 hq
   obtain ⟨hz3,⟨E,rfl,hne,hr⟩ | ⟨aS,nS,cS,aT,nT,cT,aF,nF,cF,aN,nN,cN,rfl,c1,c2,c3,c4,c5,hr⟩⟩:=HGO.out e w4 hq
   ·have HR:Hid _:=hr
    have z0:w4.cell? ⟨w.heap.size,0,none⟩=some (.int .i64 0):=qb hz3 0
    have z1:w4.cell? ⟨w.heap.size,1,none⟩=some (.slice none 0 0):=qb hz3 1
    have z2:w4.cell? ⟨w.heap.size,2,none⟩=some (.slice none 0 0):=qb hz3 2
    have z3:w4.cell? ⟨w.heap.size,3,none⟩=some (.slice none 0 0):=qb hz3 3
    have z4:w4.cell? ⟨w.heap.size,4,none⟩=some (.slice none 0 0):=qb hz3 4
    have f0:w4.frozen? ⟨w.heap.size,0,none⟩=false:=frozen_of_row w4 _ 0 _ _ hz3
    have f1:w4.frozen? ⟨w.heap.size,1,none⟩=false:=frozen_of_row w4 _ 1 _ _ hz3
    have f2:w4.frozen? ⟨w.heap.size,2,none⟩=false:=frozen_of_row w4 _ 2 _ _ hz3
    have f3:w4.frozen? ⟨w.heap.size,3,none⟩=false:=frozen_of_row w4 _ 3 _ _ hz3
    have f4:w4.frozen? ⟨w.heap.size,4,none⟩=false:=frozen_of_row w4 _ 4 _ _ hz3
    have hneb:(((E:Nat):Int) != 0)=true:=by simp;omega
    clear jg hq hz3 hr HGO
    go_wp2
    refine bodyPost_ret (v:=.tuple #[nilN,.int .i64 (E:Int)]) (by simp[results,Tryz.results6,go_sem,nilN,nfV,z0,z1,z2,z3,z4]) rfl ?_
    exact HR.out
   ·have HR:Hid _:=hr
    have z0:w4.cell? ⟨w.heap.size,0,none⟩=some (.int .i64 0):=qb hz3 0
    have z1:w4.cell? ⟨w.heap.size,1,none⟩=some (.slice none 0 0):=qb hz3 1
    have z2:w4.cell? ⟨w.heap.size,2,none⟩=some (.slice none 0 0):=qb hz3 2
    have z3:w4.cell? ⟨w.heap.size,3,none⟩=some (.slice none 0 0):=qb hz3 3
    have z4:w4.cell? ⟨w.heap.size,4,none⟩=some (.slice none 0 0):=qb hz3 4
    have f0:w4.frozen? ⟨w.heap.size,0,none⟩=false:=frozen_of_row w4 _ 0 _ _ hz3
    have f1:w4.frozen? ⟨w.heap.size,1,none⟩=false:=frozen_of_row w4 _ 1 _ _ hz3
    have f2:w4.frozen? ⟨w.heap.size,2,none⟩=false:=frozen_of_row w4 _ 2 _ _ hz3
    have f3:w4.frozen? ⟨w.heap.size,3,none⟩=false:=frozen_of_row w4 _ 3 _ _ hz3
    have f4:w4.frozen? ⟨w.heap.size,4,none⟩=false:=frozen_of_row w4 _ 4 _ _ hz3
    clear jg hq hz3 hr HGO
    go_wp2
    refine bodyPost_ret (v:=.tuple #[nfV k (.slice aS nS cS) (.slice aT nT cT) (.slice aF nF cF) (.slice aN nN cN),.int .i64 0]) (by simp[results,Tryz.results6,go_sem,nfV,z0,z1,z2,z3,z4]) rfl ?_
    exact HR.out
 ·have hneb:(E != 0)=true:=by simp;exact h0
  have HR9:Hid (∀ w2,Below w.heap.size w w2→Q (.returned (.tuple #[nilN,.int .i64 E])) (five w2 w.heap.size (.int .i64 0) (.slice none 0 0) (.slice none 0 0) (.slice none 0 0) (.slice none 0 0))):=fun w2 hb=>HQ.out _ _ ⟨q44 hb (Nat.le_refl _) _ _ _ _ _,Or.inl ⟨E,h0,rfl,Or.inl HE.out.symm⟩⟩
  go_enter Tryz.func6,Tryz.ntmps6
  go_wp2_with fail
  refine jm.mono ?_
  rintro e w3 ⟨rfl,hb2⟩
  have HR:Hid _:=HR9.out w3 (qd HB1.out hb2)
  have hz3:=NZ.up HZ1.out hb2
  have z0:w3.cell? ⟨w.heap.size,0,none⟩=some (.int .i64 0):=qb hz3 0
  have z1:w3.cell? ⟨w.heap.size,1,none⟩=some (.slice none 0 0):=qb hz3 1
  have z2:w3.cell? ⟨w.heap.size,2,none⟩=some (.slice none 0 0):=qb hz3 2
  have z3:w3.cell? ⟨w.heap.size,3,none⟩=some (.slice none 0 0):=qb hz3 3
  have z4:w3.cell? ⟨w.heap.size,4,none⟩=some (.slice none 0 0):=qb hz3 4
  have f0:w3.frozen? ⟨w.heap.size,0,none⟩=false:=frozen_of_row w3 _ 0 _ _ hz3
  have f1:w3.frozen? ⟨w.heap.size,1,none⟩=false:=frozen_of_row w3 _ 1 _ _ hz3
  have f2:w3.frozen? ⟨w.heap.size,2,none⟩=false:=frozen_of_row w3 _ 2 _ _ hz3
  have f3:w3.frozen? ⟨w.heap.size,3,none⟩=false:=frozen_of_row w3 _ 3 _ _ hz3
  have f4:w3.frozen? ⟨w.heap.size,4,none⟩=false:=frozen_of_row w3 _ 4 _ _ hz3
  clear jm hb2 hz3 HZ1 HR9
  go_wp2
  refine bodyPost_ret (v:=.tuple #[nilN,.int .i64 E]) (by simp[results,Tryz.results6,go_sem,nilN,nfV,z0,z1,z2,z3,z4]) rfl ?_
  exact HR.out
end Go.Proofs.YtekeaodpdcnfjaaGreatDoor
