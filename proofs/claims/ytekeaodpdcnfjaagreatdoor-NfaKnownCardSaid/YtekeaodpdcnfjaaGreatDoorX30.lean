/- Texts of the proof, put together: what it uses. -/
import Derived.Deep.RegionHeld3
import Derived.OwnWalk
import Derived.Deep.DeepCutAuto
import Derived.Test.YtekeaodpdcnfjaaGreatDoorX00
import Derived.Test.YtekeaodpdcnfjaaGreatDoorX03
import Derived.Test.YtekeaodpdcnfjaaGreatDoorX12
import Derived.Test.YtekeaodpdcnfjaaGreatDoorX27
import Derived.Test.YtekeaodpdcnfjaaGreatDoorX28
import Derived.Test.YtekeaodpdcnfjaaGreatDoorX29
set_option maxRecDepth 100000
set_option maxHeartbeats 16000000
namespace Go.Proofs.YtekeaodpdcnfjaaGreatDoor
open Go.RowKit Go.Maps Go.Sort Go.Shelf
theorem PlD.keys{w:World}{b n:Nat}{D:DataW Value}{ks:List Nat}(h:PlD D ks)(ho:w.ownsMap Tryz.prog 3 anyElem b n D){ss:List Int}(hp:ss.Perm (intKeys D)):∃ rs:List Nat,ss.mergeSort (fun x y=>decide (x≤y))=iU rs∧(∀ i,i∈rs↔i∈ks)∧rs.Nodup∧rs.length=ss.length:=by
 obtain ⟨es,rfl,hpw,hkey⟩:=ho.entries q1w
 have hk:∀ p∈es,∃ i∈ks,p.1=klN i:=fun p hp=>(h.hs p.1).1 (by
  rw[has_eq,List.any_eq_true]
  exact ⟨p,hp,WideAt.sameKey_self (hkey p hp)⟩)
 have hm:(ss.mergeSort fun x y=>decide (x≤y)).Perm (intKeys (.map es)):=(List.mergeSort_perm ss _).trans hp
 have hmem:∀ x,x∈ss.mergeSort (fun x y=>decide (x≤y))↔∃ i∈ks,(i:Int)=x:=fun x=>by
  rw[hm.mem_iff]
  unfold intKeys
  dsimp only
  rw[List.mem_map]
  constructor
  ·rintro ⟨p,hp,rfl⟩
   obtain ⟨i,hi,e⟩:=hk p hp
   exact ⟨i,hi,by rw[e];rfl⟩
  ·rintro ⟨i,hi,rfl⟩
   have h2:=(h.hs (klN i)).2 ⟨i,hi,rfl⟩
   rw[has_eq,List.any_eq_true]at h2
   obtain ⟨p,hp,e⟩:=h2
   obtain ⟨j,hj,e2⟩:=hk p hp
   have:j=i:=by
    by_cases hne:klN j=klN i
    ·exact q51 hne
    ·rw[e2,sameKey_ne hne]at e
     cases e
   subst this
   exact ⟨p,hp,by rw[e2];rfl⟩
 have hnd:(ss.mergeSort fun x y=>decide (x≤y)).Nodup:=by
  rw[hm.nodup_iff]
  unfold intKeys
  dsimp only
  unfold List.Nodup
  rw[List.pairwise_map]
  refine hpw.imp_of_mem fun {p r} hp hr hne e=>hne ?_
  obtain ⟨i,_,e1⟩:=hk p hp
  obtain ⟨j,_,e2⟩:=hk r hr
  rw[e1,e2]at e ⊢
  have:(i:Int)=(j:Int):=e
  rw[show i=j by omega]
 have hlen:=(List.mergeSort_perm ss fun x y=>decide (x≤y)).length_eq
 generalize ss.mergeSort (fun x y=>decide (x≤y))=X at *
 have hX:iU (X.map Int.toNat)=X:=by
  unfold iU
  rw[List.map_map]
  conv=>rhs;rw[← List.map_id X]
  refine List.map_congr_left fun x hx=>?_
  obtain ⟨i,_,rfl⟩:=(hmem x).1 hx
  simp
 refine ⟨X.map Int.toNat,hX.symm,fun i=>?_,?_,by simp[hlen]⟩
 ·rw[List.mem_map]
  constructor
  ·rintro ⟨x,hx,rfl⟩
   obtain ⟨j,hj,rfl⟩:=(hmem x).1 hx
   simpa using hj
  ·intro hi
   exact ⟨(i:Int),(hmem _).2 ⟨i,hi,rfl⟩,by simp⟩
 ·unfold List.Nodup
  rw[List.pairwise_map]
  refine List.Pairwise.imp_of_mem (fun {x y} hx hy hne e=>hne ?_) hnd
  obtain ⟨i,_,rfl⟩:=(hmem x).1 hx
  obtain ⟨j,_,rfl⟩:=(hmem y).1 hy
  simp at e
  rw[e]
theorem qag(m:Nat):AnyZI.SortsIn Tryz.prog Tryz.sortedP_ren Fence.wide m :=
 ⟨fun blk off cap ss W hH hblk hsz=>callsIn_wide.2 (AnyM.slices_Sort_int q6e blk off cap ss W hH hblk hsz),fun p cap W=>callsIn_wide.2 (AnyM.slices_Sort_int_none q6e p cap W)⟩
theorem q8h(mb:Option Nat)(W:World):Calls Tryz.prog 26 #[.map mb] W fun e w'=>e=.returned (.func (.func 43) #[] #[.pointer (some ⟨W.heap.size,0,none⟩)])∧w'=W.alloc (.cells #[.map mb] 75) :=
 (callsIn_wide (n:=5)).1 (AnyZI.keys_in q5Y Fence.wide 5 trivial rfl mb W)
theorem q6f(b nn:Nat)(D0:DataW Value)(w:World)(hown:w.ownsMap Tryz.prog 3 anyElem b nn D0)(hmax:Maps.size D0≤1000000) :
  Calls Tryz.prog 25 #[.func (.func 43) #[] #[.pointer (some ⟨w.heap.size,0,none⟩)]] (w.alloc (.cells #[.map (some b)] 75)) fun e w'=>∃ (v:Value) (ss:List Int),e=.returned v∧ss.Perm (intKeys D0) ∧
   w'.ownsRow (w.alloc (.cells #[.map (some b)] 75)).heap.size 3 1 v ss.length ((ss.mergeSort (fun x y=>decide (x≤y))).map encZ)∧(v=.slice none 0 0↔ss=[])∧Below (w.alloc (.cells #[.map (some b)] 75)).heap.size (w.alloc (.cells #[.map (some b)] 75)) w':=by
 have hbl:=hown.lt
 have hseq:SeqGives Fence.wide 2 Tryz.prog 43 #[.pointer (some ⟨w.heap.size,0,none⟩)] encZ (fun ss=>ss.Perm (intKeys D0)) (Maps.size D0) (w.alloc (.cells #[.map (some b)] 75)) :=
  AnyZI.keys_gives (ρ := Tryz.keysP_ren) { q5Y with } Fence.wide _ trivial rfl (by omega) w.heap.size b nn D0 _ (by simp) (by simp) (by
   obtain ⟨es,clock,hb,Ft,hs,hD⟩:=hown
   exact ⟨es,clock,(Below.heap_alloc _ _ b hbl).trans hb,Ft,hs,hD⟩)
 exact (callsIn_wide (n:=5)).1 (AnyZI.sorted_in q9a Fence.wide 5 trivial trivial trivial trivial rfl (by omega) (qag _) (enters_of Tryz.func42 (by kernel_rfl) rfl) 43 #[.pointer (some ⟨w.heap.size,0,none⟩)] trivial (enters_of Tryz.func43 (by kernel_rfl) rfl) _ _ (by unfold maxLen;omega) (by omega) _ hseq)
def RuR (nx:Nat→Nat→List Nat) (st t:List Nat) (w:World) (e:Ending) (w':World):Prop:=∃ a c rs,e=.returned (.tuple #[.slice a rs.length c,.int .i64 0])∧ISl w' a rs.length c rs∧(∀ i,i∈rs↔i∈goN nx t st)∧rs.Nodup∧rs.length≤256∧Below w.heap.size w w'
theorem q4x(n:Nat)(vS vT vF vN:Value)(S st:List Nat)(fs:List Bool)(rows:List (List (List Nat)))(d:Option Addr)(m c:Nat)(zs:List Int)(w:World)(h:NfAt w vS vT vF vN S st fs rows)(hk:NfK n S st fs rows)(hL:LtSl w d m c zs)(hm:m≤1024)(hz:∀ x∈zN zs,x<2 ^ n) :
  Calls Tryz.prog 10 #[nfV n vS vT vF vN,.slice d m c] w (RuR (nxR rows) st (zN zs) w):=by
 obtain ⟨Q,hQ⟩:∃ Q:Ending→World→Prop,Q=RuR (nxR rows) st (zN zs) w:=⟨_,rfl⟩
 have HQ:Hid (∀ e w',RuR (nxR rows) st (zN zs) w e w'→Q e w'):=fun e w' h=>by rw[hQ];exact h
 rw[← hQ]
 obtain ⟨aS,cS,rfl,-⟩:=h.s
 obtain ⟨aT,cT,hvT,-⟩:=h.t
 subst hvT
 obtain ⟨aF,cF,rfl,-⟩:=h.f
 obtain ⟨aN,cN,us,rfl,-⟩:=h.nx
 have hb0:=qc w (.cells #[.int .i64 (n:Int),.slice aS S.length cS,.slice aT st.length cT,.slice aF fs.length cF,.slice aN rows.length cN] 31 (0,0))
 have hNB:=q1j w n aS S.length cS aT st.length cT aF fs.length cF aN rows.length cN
 have jm:=q60 n _ _ _ _ S st fs rows d m c zs _ (h.up hb0) hk (hL.up hb0) hm hz
 have HB0:Hid _:=hb0
 have HNB:Hid _:=hNB
 obtain ⟨c0,c1,c2,c3,c4⟩:=hNB
 have HRE:Hid (∀ w',Below w.heap.size w w'→Calls Tryz.prog 27 #[nfV n (.slice aS S.length cS) (.slice aT st.length cT) (.slice aF fs.length cF) (.slice aN rows.length cN),.slice d m c] w' (ReQ (nxR rows) st (zN zs) w')):=fun w' hb=>q76 n _ _ _ _ S st fs rows d m c zs w' (h.up hb) hk (hL.up hb) hm hz
 clear h hk hL hz hb0 hQ
 unfold nfV at *
 generalize S.length=nS at *
 generalize st.length=nT at *
 generalize fs.length=nF at *
 generalize rows.length=nN at *
 go_enter Tryz.func10,Tryz.ntmps10
 go_wp2_with fail
 refine jm.mono ?_
 rintro e w1 ⟨rfl,hb1⟩
 have hbb:=qd HB0.out hb1
 have jr:=HRE.out w1 hbb
 obtain ⟨d0,d1,d2,d3,d4⟩:=HNB.out.up hb1
 have HBB:Hid _:=hbb
 clear jm hb1 hbb c0 c1 c2 c3 c4 HRE HNB
 go_wp2_with fail
 refine jr.mono ?_
 rintro e w2 ⟨hh,ks,rfl,⟨D,hown,hD⟩,hmem,hb2⟩
 have jk:=q8h (some hh) w2
 have js:=q6f hh ks.length D w2 hown (by rw[hD.sz];have:=hD.few;omega)
 have HNX:Hid (∀ v (ss:List Int) w4,ss.Perm (intKeys D)→w4.ownsRow (w2.alloc (.cells #[.map (some hh)] 75)).heap.size 3 1 v ss.length ((ss.mergeSort (fun x y=>decide (x≤y))).map encZ)→Below (w2.alloc (.cells #[.map (some hh)] 75)).heap.size (w2.alloc (.cells #[.map (some hh)] 75)) w4→∃ a4 n4 c4,v=.slice a4 n4 c4∧Q (.returned (.tuple #[.slice a4 n4 c4,.int .i64 0])) w4):=fun v ss w4 h1 h2 h3=>by
  obtain ⟨rs,e1,e2,e3,e4⟩:=hD.keys hown h1
  rw[e1,← e4]at h2
  obtain ⟨a4,c4,rfl,hI⟩:=qaw h2
  have hl:rs.length≤256:=q7T 256 rs e3 fun x hx=>hD.lt x ((e2 x).1 hx)
  exact ⟨a4,_,c4,rfl,HQ.out _ _ ⟨a4,c4,rs,rfl,hI,fun i=>(e2 i).trans (hmem i),e3,hl,qd (qd (qd HBB.out hb2) (qc w2 _)) h3⟩⟩
 clear jr hown hD hmem hb2 d0 d1 d2 d3 d4
 go_wp2_with fail
 refine jk.mono ?_
 rintro e w3 ⟨rfl,rfl⟩
 clear jk
 go_wp2_with fail
 refine js.mono ?_
 rintro e w4 ⟨v,ss,rfl,h1,h2,-,h3⟩
 obtain ⟨a4,n4,c4,rfl,hr⟩:=HNX.out v ss w4 h1 h2 h3
 have HR:Hid _:=hr
 clear js h1 h2 h3 HNX hr
 go_wp2
 exact HR.out
end Go.Proofs.YtekeaodpdcnfjaaGreatDoor
namespace Go.Proofs.YtekeaodpdcnfjaaGreatDoor
open Go.RowKit Go.Maps
theorem q86(s g:Nat)(aF:Option Addr)(nF cF:Nat)(fs:List Bool)(w:World)(hF:BoSl w aF nF cF fs)(hs:s<nF)(hc:w.cell? ⟨g,3,none⟩=some (.slice aF nF cF)) :
  Calls Tryz.prog 20 #[.int .i64 (s:Int),.pointer (some ⟨g,0,none⟩)] w fun e w'=>e=.returned (.bool (fs.getD s false))∧w'=w:=by
 obtain ⟨hix0,hce⟩:=hF.at s hs
 have hix:=fun w'=>hix0 nF w' hs
 have hsl:s<fs.length:=by rw[hF.hlen];exact hs
 have hg:fs.getD s false=fs[s]:=by rw[List.getD_eq_getElem?_getD,List.getElem?_eq_getElem hsl];rfl
 rw[← hg]at hce
 clear hF hix0 hg hsl
 generalize fs.getD s false=b at *
 generalize adOf aF s=ad at *
 obtain ⟨ga,oa,sa⟩:=ad
 go_enter Tryz.func20,Tryz.ntmps20
 go_wp2
 go_ret
 exact ⟨rfl,rfl⟩
theorem q5W(g:Nat)(a:Option Addr)(L c:Nat)(rs:List Nat)(aF:Option Addr)(nF cF:Nat)(fs:List Bool)(w:World)(hI:ISl w a L c rs)(hF:BoSl w aF nF cF fs)(hs:∀ q∈rs,q<nF)(hl:L≤1000000)(hc:w.cell? ⟨g,3,none⟩=some (.slice aF nF cF)) :
  Calls Tryz.prog 40 #[.slice a L c,.func (.func 20) #[] #[.pointer (some ⟨g,0,none⟩)]] w fun e w'=>w'=w∧∃ i:Int,e=.returned (.int .i64 i)∧(decide (0≤i)=true↔∃ q∈rs,fs.getD q false=true):=by
 have HI:Hid _:=hI
 have HLEN:Hid _:=q50 hI
 have HA:Hid (∀ q∈rs,Calls Tryz.prog 20 #[.int .i64 (q:Int),.pointer (some ⟨g,0,none⟩)] w fun e w'=>e=.returned (.bool (fs.getD q false))∧w'=w):=fun q hq=>q86 q g aF nF cF fs w hF (hs q hq) hc
 clear hI hF hs hc
 go_enter Tryz.func40,Tryz.ntmps40
 go_wp2
 go_loopw [8] (fun j wr=>∃ (k:Nat),k≤L∧j=.int .i64 (k:Int)∧wr=w∧Hid (∀ q∈rs.take k,fs.getD q false=false)) (fun j _=>L - (intOf j).toNat)
 case atStart=>exact ⟨0,Nat.zero_le _,rfl,rfl,fun q hq=>(by simp at hq)⟩
 case round =>
  obtain ⟨k,hk,rfl,rfl,HN⟩:=hrel
  by_cases hlt:k<L
  ·have hkl:k<rs.length:=by have:=HLEN.out;omega
   have hidx:=fun w'=>HI.out.idx L k w' hlt (Nat.le_refl _)
   have hce:=HI.out.cell k hlt
   have hgd:(iU rs).getD k 0=((rs[k]:Nat):Int):=by simp[iU,List.getD_eq_getElem?_getD,List.getElem?_eq_getElem hkl]
   rw[hgd]at hce
   have ja:=HA.out rs[k] (List.getElem_mem hkl)
   have HT:Hid (rs.take (k+1)=rs.take k++[rs[k]]):=by show _=_;rw[List.take_add_one,List.getElem?_eq_getElem hkl];rfl
   have HM:Hid (rs[k]∈rs):=List.getElem_mem hkl
   generalize rs[k]=q at *
   obtain ⟨b,hb⟩:∃ b,b=fs.getD q false:=⟨_,rfl⟩
   rw[← hb]at ja
   have HBB:Hid _:=hb
   clear hgd hb
   generalize adOf a k=ad at *
   obtain ⟨ga,oa,sa⟩:=ad
   go_wp2_with fail
   refine ja.mono ?_
   rintro e w2 ⟨rfl,rfl⟩
   clear ja
   cases b with
   | true =>
    go_wp2
    go_ret
    exact ⟨rfl,(k:Int),rfl,⟨fun _=>⟨q,HM.out,HBB.out.symm⟩,fun _=>decide_eq_true (by omega)⟩⟩
   | false =>
    have HN2:Hid (∀ q∈rs.take (k+1),fs.getD q false=false):=fun y hy=>by
     rw[HT.out]at hy
     rcases List.mem_append.1 hy with hy | hy
     ·exact HN.out y hy
     ·have:y=q:=by simpa using hy
      subst this
      exact HBB.out.symm
    go_wp2
    go_roundw
    case rel=>exact ⟨k+1,by omega,by go_num,trivial,HN2⟩
    case measure=>simp[intOf] <;> omega
  ·obtain rfl:k=L:=by omega
   have HR:Hid (¬ ∃ q∈rs,fs.getD q false=true):=fun ⟨q,hq,e⟩=>by
    have:=HN.out q (by rw[List.take_of_length_le (by rw[HLEN.out];exact Nat.le_refl _)];exact hq)
    rw[this]at e;cases e
   go_wp2
   go_ret
   exact ⟨rfl,-1,rfl,⟨fun h=>absurd h (by decide),fun h=>absurd h HR.out⟩⟩
theorem q6N(g:Nat)(a:Option Addr)(L c:Nat)(rs:List Nat)(aF:Option Addr)(nF cF:Nat)(fs:List Bool)(w:World)(hI:ISl w a L c rs)(hF:BoSl w aF nF cF fs)(hs:∀ q∈rs,q<nF)(hl:L≤1000000)(hc:w.cell? ⟨g,3,none⟩=some (.slice aF nF cF)) :
  Calls Tryz.prog 19 #[.slice a L c,.func (.func 20) #[] #[.pointer (some ⟨g,0,none⟩)]] w fun e w'=>w'=w∧∃ b,e=.returned (.bool b)∧(b=true↔∃ q∈rs,fs.getD q false=true):=by
 have ji:=q5W g a L c rs aF nF cF fs w hI hF hs hl hc
 clear hI hF hs hc
 go_enter Tryz.func19,Tryz.ntmps19
 go_wp2_with fail
 refine ji.mono ?_
 rintro e w1 ⟨rfl,i,rfl,hi⟩
 have HI:Hid _:=hi
 clear ji hi
 go_wp2
 go_ret
 exact ⟨rfl,decide (0≤i),rfl,HI.out⟩
def AcR (nx:Nat→Nat→List Nat) (st:List Nat) (fs:List Bool) (t:List Nat) (w:World) (e:Ending) (w':World):Prop:=∃ b,e=.returned (.tuple #[.bool b,.int .i64 0])∧(b=true↔∃ q∈goN nx t st,fs.getD q false=true)∧Below w.heap.size w w'
theorem q32(n:Nat)(vS vT vF vN:Value)(S st:List Nat)(fs:List Bool)(rows:List (List (List Nat)))(d:Option Addr)(m c:Nat)(zs:List Int)(w:World)(h:NfAt w vS vT vF vN S st fs rows)(hk:NfK n S st fs rows)(hL:LtSl w d m c zs)(hm:m≤1024)(hz:∀ x∈zN zs,x<2 ^ n) :
  Calls Tryz.prog 8 #[nfV n vS vT vF vN,.slice d m c] w (AcR (nxR rows) st fs (zN zs) w):=by
 obtain ⟨Q,hQ⟩:∃ Q:Ending→World→Prop,Q=AcR (nxR rows) st fs (zN zs) w:=⟨_,rfl⟩
 have HQ:Hid (∀ e w',AcR (nxR rows) st fs (zN zs) w e w'→Q e w'):=fun e w' h=>by rw[hQ];exact h
 rw[← hQ]
 obtain ⟨aS,cS,rfl,-⟩:=h.s
 obtain ⟨aT,cT,hvT,-⟩:=h.t
 subst hvT
 obtain ⟨aF,cF,rfl,hBo⟩:=h.f
 obtain ⟨aN,cN,us,rfl,-⟩:=h.nx
 have hb0:=qc w (.cells #[.int .i64 (n:Int),.slice aS S.length cS,.slice aT st.length cT,.slice aF fs.length cF,.slice aN rows.length cN] 31 (0,0))
 have hNB:=q1j w n aS S.length cS aT st.length cT aF fs.length cF aN rows.length cN
 have jm:=q4x n _ _ _ _ S st fs rows d m c zs _ (h.up hb0) hk (hL.up hb0) hm hz
 have HB0:Hid _:=hb0
 have HNB:Hid _:=hNB
 have HBO:Hid _:=hBo
 obtain ⟨c0,c1,c2,c3,c4⟩:=hNB
 have HGL:Hid (∀ s,s∈goN (nxR rows) (zN zs) st→s<fs.length):=fun s hs=>by rw[hk.fl];exact go_lt hk (zN zs) st hz hk.st s hs
 clear h hk hL hz hb0 hQ hBo
 unfold nfV at *
 generalize S.length=nS at *
 generalize st.length=nT at *
 generalize fs.length=nF at *
 generalize rows.length=nN at *
 go_enter Tryz.func8,Tryz.ntmps8
 go_wp2_with fail
 refine jm.mono ?_
 rintro e w1 ⟨a1,k1,rs,rfl,hI,hmem,-,hl,hb1⟩
 have hbb:=qd HB0.out hb1
 have jc:=q6N w.heap.size a1 rs.length k1 rs aF nF cF fs w1 hI (HBO.out.up hbb) (fun q hq=>HGL.out q ((hmem q).1 hq)) (by omega) (HNB.out.up hb1).c3
 have HBB:Hid _:=hbb
 have HM:Hid _:=hmem
 clear jm hb1 hbb c0 c1 c2 c3 c4 HNB hI hmem hl
 generalize rs.length=L at *
 go_wp2_with fail
 refine jc.mono ?_
 rintro e w2 ⟨rfl,b,rfl,hb⟩
 have HR:Hid (Q (.returned (.tuple #[.bool b,.int .i64 0])) w2):=HQ.out _ _ ⟨b,rfl,hb.trans ⟨fun ⟨q,hq,e⟩=>⟨q,(HM.out q).1 hq,e⟩,fun ⟨q,hq,e⟩=>⟨q,(HM.out q).2 hq,e⟩⟩,HBB.out⟩
 clear jc hb
 go_wp2
 exact HR.out
theorem q53{n:Nat}{ts:List Tk}{T:Tr}(kT:KT T)(h:ts=T.flat)(hl:ts.length≤2048)(hn:n≤8)(hb:bitsL ts >>> n=0):mmE (n:Int) ts=0:=by
 have hc:chkE ts=0:=q25.2 ⟨hl,T,kT.wf,kT.np,kT.kr,h⟩
 unfold mmE
 rw[if_pos ⟨by omega,by omega⟩,if_neg (by omega),Int.toNat_natCast,if_pos hb]
theorem NofR.known{n:Nat}{ts:List Tk}{w w':World}{e:Ending}(h:NofR (n:Int) ts w e w'){T:Tr}{S st:List Nat}{rows:List (List (List Nat))}{M:Mt}(kT:KT T)(hf:ts=T.flat)(hm:mmE (n:Int) ts=0)(hn:nfaM T n=.ok (S,st,rows,M)) :
  ∃ vS vT vF vN fs,e=.returned (.tuple #[nfV n vS vT vF vN,.int .i64 0])∧NfAt w' vS vT vF vN S st fs rows∧NfK n S st fs rows∧(∀ q,q<S.length→(fs.getD q false=true↔FinP M [atS S q]))∧Below w.heap.size w w':=by
 rcases h with ⟨hb,⟨E,h0,_,h1 | ⟨_,T1,E1,kT1,hf1,hn1,rfl⟩⟩ | ⟨T1,S1,st1,fs,rows1,M1,vS,vT,vF,vN,_,hK,rfl,hA⟩⟩
 ·exact absurd (h1.symm.trans hm) h0
 ·have e:=q9T kT kT1 (hf.symm.trans hf1)
  subst e
  rw[Int.toNat_natCast,hn]at hn1
  cases hn1
 ·have e:=q9T kT hK.kt (hf.symm.trans hK.fl)
  subst e
  have h2:=hK.of
  rw[Int.toNat_natCast,hn]at h2
  injection h2 with h2;injection h2 with h3 h4;injection h4 with h4 h5;injection h5 with h5 h6
  subst h3 h4 h5 h6
  have h7:=hK.ok
  rw[Int.toNat_natCast]at h7
  exact ⟨vS,vT,vF,vN,fs,by rw[Int.toNat_natCast],hA,h7,hK.fin,hb⟩
theorem q30(T:List Tk)(w:World)(hl:T.length≤100)(hok:∀ t∈T,t.1<256∧t.2<256):TkSl (w.alloc (.cells (encT T).toArray 43)) (some ⟨w.heap.size,0,none⟩) T.length T.length T:=by
 have hs:(encT T).toArray.size=T.length*2:=by rw[List.size_toArray,q39]
 have h1:(w.alloc (.cells (encT T).toArray 43)).ownsRow w.heap.size 43 2 (.slice (some ⟨w.heap.size,0,none⟩) T.length T.length) T.length (encT T):=⟨q39 T,Or.inr ⟨w.heap.size,T.length,_,rfl,Nat.le_refl _,(MapKept.heap_alloc w _).1,Nat.le_refl _,by unfold maxLen;omega,hs,by rw[← q39 T,List.take_length]⟩⟩
 obtain ⟨a,c,e,t,_⟩:=qe0 h1 hok
 injection e with e1 _ e3
 subst e1 e3
 exact t
theorem qdx:goN (nxR [[[],[0],[1],[1]],[[1],[1],[1],[1]]]) (zN [1,2]) [0]=[1]:=by decide
theorem qdy:goN (nxR [[[],[0],[1],[1]],[[1],[1],[1],[1]]]) (zN [1,1]) [0]=[0]:=by decide
theorem qdE{nx:Nat→Nat→List Nat}{st:List Nat}{fs:List Bool}{t:List Nat}{w w':World}{e:Ending}{q:Nat}(h:AcR nx st fs t w e w')(hg:goN nx t st=[q])(hf:fs.getD q false=true):e=.returned (.tuple #[.bool true,.int .i64 0])∧Below w.heap.size w w':=by
 obtain ⟨b,rfl,hb,hw⟩:=h
 have:b=true:=hb.2 ⟨q,by rw[hg];simp,hf⟩
 subst this
 exact ⟨rfl,hw⟩
theorem ac_no{nx:Nat→Nat→List Nat}{st:List Nat}{fs:List Bool}{t:List Nat}{w w':World}{e:Ending}{q:Nat}(h:AcR nx st fs t w e w')(hg:goN nx t st=[q])(hf:¬ fs.getD q false=true):e=.returned (.tuple #[.bool false,.int .i64 0])∧Below w.heap.size w w':=by
 obtain ⟨b,rfl,hb,hw⟩:=h
 have:b=false:=by
  cases b with
  | false=>rfl
  | true =>
   obtain ⟨z,hz,hq⟩:=hb.1 rfl
   rw[hg]at hz
   have:z=q:=by simpa using hz
   subst this
   exact absurd hq hf
 subst this
 exact ⟨rfl,hw⟩
theorem q62(w:World)(hT:Tab64 w):Calls Tryz.prog 5 #[] w (BR true w):=by
 obtain ⟨w1,hw1⟩:∃ w1,w1=w.alloc (.cells #[.int .u8 2,.int .u8 0,.int .u8 2,.int .u8 1,.int .u8 15,.int .u8 0] 43):=⟨_,rfl⟩
 have b1:Below w.heap.size w w1:=by rw[hw1];exact qc _ _
 have t1:TkSl w1 (some ⟨w.heap.size,0,none⟩) 3 3 [(2,0),(2,1),(15,0)]:=by rw[hw1];exact q30 [(2,0),(2,1),(15,0)] w (by decide) (by decide)
 have js:=q1F 2 _ _ _ _ w1 t1 (hT.up b1)
 have hmm:mmE ((2:Nat):Int) [(2,0),(2,1),(15,0)]=0:=q53 q9x rfl (by decide) (by decide) (by decide)
 have HA1:Hid (∀ e w',NofR 2 [(2,0),(2,1),(15,0)] w1 e w'→∃ vS vT vF vN fs,e=.returned (.tuple #[nfV 2 vS vT vF vN,.int .i64 0])∧NfAt w' vS vT vF vN [1,0] [0] fs [[[],[0],[1],[1]],[[1],[1],[1],[1]]]∧NfK 2 [1,0] [0] fs [[[],[0],[1],[1]],[[1],[1],[1],[1]]]∧(∀ q,q<2→(fs.getD q false=true↔FinP [[(2,0),(2,1),(15,0)]] [atS [1,0] q]))∧Below w1.heap.size w1 w'):=fun e w' h=>NofR.known (n:=2) h q9x rfl hmm nk4
 have HB1:Hid _:=b1
 have HW1:Hid _:=hw1
 clear hT hmm hw1 b1 t1
 go_enter Tryz.func5,Tryz.ntmps5
 go_wp2_with fail
 rw[← HW1.out]
 refine js.mono ?_
 intro e w2 hq
 obtain ⟨vS,vT,vF,vN,fs,rfl,hN,hK,hfin,hb2⟩:=HA1.out e w2 hq
 obtain ⟨aS,cS,rfl,-⟩:=hN.s
 obtain ⟨aT,cT,hvT,-⟩:=hN.t
 subst hvT
 obtain ⟨aF,cF,rfl,-⟩:=hN.f
 obtain ⟨aN,cN,us,rfl,-⟩:=hN.nx
 have hy:fs.getD 1 false=true:=(hfin 1 (by decide)).2 (q7J _)
 have hn:¬ fs.getD 0 false=true:=fun e=>qdz ((hfin 0 (by decide)).1 e)
 obtain ⟨w3,hw3⟩:∃ w3,w3=w2.alloc (.cells #[.int .i64 2,.slice aS 2 cS,.slice aT 1 cT,.slice aF fs.length cF,.slice aN 2 cN] 31 (0,0)):=⟨_,rfl⟩
 have b3:Below w2.heap.size w2 w3:=by rw[hw3];exact qc _ _
 have z3:w3.heap.size=w2.heap.size+1:=by rw[hw3];simp
 have nb3:NfB w3 w2.heap.size 2 aS 2 cS aT 1 cT aF fs.length cF aN 2 cN:=by rw[hw3];exact q1j w2 2 aS 2 cS aT 1 cT aF fs.length cF aN 2 cN
 have hb4:=qc w3 (.cells #[.int .u8 1,.int .u8 2] 25)
 have l4:LtSl (w3.alloc (.cells #[.int .u8 1,.int .u8 2] 25)) (some ⟨w2.heap.size+1,0,none⟩) 2 2 [1,2]:=by rw[← z3];exact q3t [1,2] w3 (by decide) (by decide)
 have j2:=q32 2 _ _ _ _ [1,0] [0] fs [[[],[0],[1],[1]],[[1],[1],[1],[1]]] _ 2 2 [1,2] _ ((hN.up b3).up hb4) hK l4 (by decide) (by decide)
 have HY:Hid (∀ e w',AcR (nxR [[[],[0],[1],[1]],[[1],[1],[1],[1]]]) [0] fs (zN [1,2]) (w3.alloc (.cells #[.int .u8 1,.int .u8 2] 25)) e w'→e=.returned (.tuple #[.bool true,.int .i64 0])∧Below w3.heap.size w3 w'):=fun e w' h=>(qdE h qdx hy).imp id fun h=>hb4.trans (h.mono hb4.size)
 have HB3:Hid _:=qd (qd HB1.out hb2) b3
 have HNX:Hid (∀ w',Below w3.heap.size w3 w'→Calls Tryz.prog 8 #[.agg #[.int .i64 2,.slice aS 2 cS,.slice aT 1 cT,.slice aF fs.length cF,.slice aN 2 cN],.slice (some ⟨w'.heap.size,0,none⟩) 2 2] (w'.alloc (.cells #[.int .u8 1,.int .u8 1] 25)) fun e w2=>e=.returned (.tuple #[.bool false,.int .i64 0])∧Below w'.heap.size w' w2):=fun w' hb=>by
  have hb5:=qc w' (.cells #[.int .u8 1,.int .u8 1] 25)
  exact (q32 2 _ _ _ _ [1,0] [0] fs [[[],[0],[1],[1]],[[1],[1],[1],[1]]] _ 2 2 [1,1] _ (((hN.up b3).up hb).up hb5) hK (q3t [1,1] w' (by decide) (by decide)) (by decide) (by decide)).mono fun e w2 h=>(ac_no h qdy hn).imp id fun h=>hb5.trans (h.mono hb5.size)
 have HNB:Hid _:=nb3
 have HW3:Hid _:=hw3
 have HZ3:Hid _:=z3
 obtain ⟨c0,c1,c2,c3,c4⟩:=nb3
 clear js hq hN hK hfin hb2 hy hn hw3 b3 z3 hb4 l4
 unfold nfV at *
 dsimp only[List.length_cons,List.length_nil,Nat.reduceAdd]at *
 generalize fs.length=nF at *
 go_wp2_with fail
 rw[← HW3.out]
 refine j2.mono ?_
 intro e w5 hq
 obtain ⟨rfl,hb5⟩:=HY.out e w5 hq
 have j3:=HNX.out w5 hb5
 obtain ⟨d0,d1,d2,d3,d4⟩:=HNB.out.up hb5
 have HB5:Hid _:=qd HB3.out hb5
 clear j2 hq hb5 HY HNX c0 c1 c2 c3 c4
 go_wp2_with fail
 refine j3.mono ?_
 rintro e w6 ⟨rfl,hb6⟩
 have HB6:Hid _:=qd HB5.out hb6
 clear j3 hb6
 go_wp2
 go_ret
 exact ⟨rfl,HB6.out⟩
theorem q6d(a:Option Addr)(len cap:Nat)(xs:List Int)(a':Option Addr)(len' cap':Nat)(ys:List Int)(w:World)
  (hS:IntSl Tryz.prog 26 .u64 w a len cap xs) (hO:IntSl Tryz.prog 26 .u64 w a' len' cap' ys) :
  Calls Tryz.prog 28 #[.slice a len cap,.slice a' len' cap'] w fun e w'=>e=.returned (.bool (decide (xs=ys)))∧∃ n,w'=w.drewN n:=by
 have hb0:=hS.bd
 have hb1:=hS.hcap
 have hb2:=hO.bd
 have hb3:=hO.hcap
 unfold maxLen at hb0 hb2
 by_cases hll:len=len'
 ·subst hll
  have hidx:=fun (k:Nat) (w:World) (h:k<len)=>hS.idx len k w h (Nat.le_refl _)
  have hidx':=fun (k:Nat) (w:World) (h:k<len)=>hO.idx len k w h (Nat.le_refl _)
  go_enter Tryz.func28,Tryz.ntmps28
  go_wp2
  go_loopw [5] (fun i wr=>∃ k:Nat,k≤len∧i=.int .i64 k∧Hid (xs.take k=ys.take k)∧Hid (∃ n,wr=w.drewN n)) (fun i _=>len - (intOf i).toNat)
  case atStart=>exact ⟨0,Nat.zero_le _,rfl,by show _=_;simp,0,rfl⟩
  case round =>
   obtain ⟨k,hk,rfl,HU,hwr⟩:=hrel
   by_cases hlt:k<len
   ·have hS':IntSl Tryz.prog 26 .u64 wr a len cap xs:=by obtain ⟨n,hn⟩:=hwr.out;rw[hn];exact hS.drewN n
    have hO':IntSl Tryz.prog 26 .u64 wr a' len cap' ys:=by obtain ⟨n,hn⟩:=hwr.out;rw[hn];exact hO.drewN n
    have hck:=hS'.cell k hlt
    have hck':=hO'.cell k hlt
    have HN:Hid (xs.getD k 0=ys.getD k 0→xs.take (k+1)=ys.take (k+1)):=fun h=>q4U (by rw[hS.hlen];exact hlt) (by rw[hO.hlen];exact hlt) HU.out h
    have HM:Hid (xs.getD k 0≠ys.getD k 0→decide (xs=ys)=false):=fun h=>decide_eq_false (fun e=>h (by rw[e]))
    clear hS' hO'
    generalize xs.getD k 0=x at *
    generalize ys.getD k 0=y at *
    go_wp2
    go_quiet (fail)
    rcases Bool.eq_false_or_eq_true (x != y) with ht | ht
    ·go_wp2
     go_ret
     obtain ⟨n,hn⟩:=hwr.out
     exact ⟨by rw[HM.out (by simpa using ht)];rfl,n+nq,by rw[hn,World.drewN_drewN]⟩
    ·have HN2:Hid _:=HN.out (by simpa using ht)
     go_wp2
     go_roundw
     case rel =>
      obtain ⟨n,hn⟩:=hwr.out
      exact ⟨k+1,by omega,by go_num,HN2,n+nq,by rw[hn,World.drewN_drewN]⟩
     case measure=>simp[intOf];omega
   ·have hx:Hid (decide (xs=ys)=true):=by
     have:=HU.out
     rw[List.take_of_length_le (by rw[hS.hlen];omega),List.take_of_length_le (by rw[hO.hlen];omega)]at this
     exact decide_eq_true this
    go_wp2
    go_ret
    exact ⟨by rw[hx.out];rfl,hwr.out⟩
 ·have hx:Hid (decide (xs=ys)=false):=decide_eq_false (fun e=>hll (by rw[← hS.hlen,← hO.hlen,e]))
  have hll':((len:Int) != (len':Int))=true:=by simp;omega
  clear hll
  go_enter Tryz.func28,Tryz.ntmps28
  go_wp2
  go_ret
  exact ⟨by rw[hx.out];rfl,0,rfl⟩
theorem q1W(w:World)(n:Nat):Below w.heap.size w (w.drewN n):=below_drewN (Below.refl _ _) n
theorem L3s.row{w:World}{v:Value}{rows:List (List (List Nat))}(h:L3s w v rows){q:Nat}(hq:q<rows.length):∃ a c a2 c2,v=.slice a rows.length c∧(a=none→rows.length=0)∧w.cell? (adOf a q)=some (.slice a2 rows[q].length c2)∧(a2=none→rows[q].length=0)∧rows[q].length≤1000000∧∀ (x:Nat) (hx:x<rows[q].length),∃ u,w.cell? (adOf a2 x)=some u∧LIs w u rows[q][x]:=by
 obtain ⟨a,c,us,h1,h2,h3⟩:=h
 obtain ⟨u,hu,a2,c2,us2,h4,h5,h6⟩:=h3 q rows[q] (List.getElem?_eq_getElem hq)
 refine ⟨a,c,a2,c2,h1,h2.nn,by rw[← h4];exact h2.cell q u hu,h5.nn,h5.bd,fun x hx=>?_⟩
 obtain ⟨u2,hu2,h7⟩:=h6 x rows[q][x] (List.getElem?_eq_getElem hx)
 exact ⟨u2,h5.cell x u2 hu2,h7⟩
theorem q6S(n:Nat)(vS vT vF vN uS uT uF uN:Value)(S st:List Nat)(fs:List Bool)(rows:List (List (List Nat)))(w:World)(h:NfAt w vS vT vF vN S st fs rows)(h':NfAt w uS uT uF uN S st fs rows)(hl:rows.length≤1000) :
  Calls Tryz.prog 11 #[nfV n vS vT vF vN,nfV n uS uT uF uN] w (BR true w):=by
 have HA:Hid _:=h
 have HA':Hid _:=h'
 obtain ⟨aS,cS,rfl,hS⟩:=h.s
 obtain ⟨aT,cT,hvT,-,hT⟩:=h.t
 subst hvT
 obtain ⟨aF,cF,rfl,hF⟩:=h.f
 obtain ⟨aN,cN,us,rfl,-⟩:=h.nx
 obtain ⟨bS,dS,rfl,hS'⟩:=h'.s
 obtain ⟨bT,dT,hvT,-,hT'⟩:=h'.t
 subst hvT
 obtain ⟨bF,dF,rfl,hF'⟩:=h'.f
 obtain ⟨bN,dN,us',rfl,-⟩:=h'.nx
 obtain ⟨w1,hw1⟩:∃ w1,w1=w.alloc (.cells #[.int .i64 (n:Int),.slice aS S.length cS,.slice aT st.length cT,.slice aF fs.length cF,.slice aN rows.length cN] 31 (0,0)):=⟨_,rfl⟩
 obtain ⟨w2,hw2⟩:∃ w2,w2=w1.alloc (.cells #[.int .i64 (n:Int),.slice bS S.length dS,.slice bT st.length dT,.slice bF fs.length dF,.slice bN rows.length dN] 31 (0,0)):=⟨_,rfl⟩
 have b1:Below w.heap.size w w1:=by rw[hw1];exact qc _ _
 have b2:Below w1.heap.size w1 w2:=by rw[hw2];exact qc _ _
 have z1:w1.heap.size=w.heap.size+1:=by rw[hw1];simp
 have hnb:NfB w2 w.heap.size n aS S.length cS aT st.length cT aF fs.length cF aN rows.length cN:=NfB.up (by rw[hw1];exact q1j w n aS S.length cS aT st.length cT aF fs.length cF aN rows.length cN) b2
 have hnb':NfB w2 (w.heap.size+1) n bS S.length dS bT st.length dT bF fs.length dF bN rows.length dN:=by rw[← z1,hw2];exact q1j w1 n bS S.length dS bT st.length dT bF fs.length dF bN rows.length dN
 have hbw:=qd b1 b2
 have js:=q6d aS S.length cS _ bS S.length dS _ w2 (hS.up hbw) (hS'.up hbw)
 rw[decide_eq_true rfl]at js
 have js2:Calls Tryz.prog 28 #[.slice aS S.length cS,.slice bS S.length dS] w2 fun e w'=>e=.returned (.bool true)∧Below w2.heap.size w2 w':=js.mono fun e w' ⟨h1,n,hn⟩=>⟨h1,by rw[hn];exact q1W _ _⟩
 clear js
 have JI:Hid (∀ w',Below w.heap.size w w'→Calls Tryz.prog 12 #[.slice aT st.length cT,.slice bT st.length dT] w' fun e w''=>e=.returned (.bool true)∧Below w'.heap.size w' w''):=fun w' hb=>by
  have:=q2s aT st.length cT _ bT st.length dT _ w' (hT.up hb) (hT'.up hb)
  rw[decide_eq_true rfl]at this
  exact this.mono fun e w2 ⟨h1,n,hn⟩=>⟨h1,by rw[hn];exact q1W _ _⟩
 have JB:Hid (∀ w',Below w.heap.size w w'→Calls Tryz.prog 29 #[.slice aF fs.length cF,.slice bF fs.length dF] w' fun e w''=>e=.returned (.bool true)∧Below w'.heap.size w' w''):=fun w' hb=>by
  have:=q77 aF fs.length cF _ bF fs.length dF _ w' (hF.up hb) (hF'.up hb)
  rw[decide_eq_true rfl]at this
  exact this
 have HNB:Hid _:=hnb
 have HNB':Hid _:=hnb'
 have HBW:Hid _:=hbw
 have HW1:Hid _:=hw1
 have HW2:Hid _:=hw2
 obtain ⟨c0,c1,c2,c3,c4⟩:=hnb
 obtain ⟨e0,e1,e2,e3,e4⟩:=hnb'
 have hnn:((n:Int) != (n:Int))=false:=by simp
 clear h h' hS hT hF hS' hT' hF' hw1 hw2 b1 b2 z1 hbw
 unfold nfV
 generalize S.length=nS at *
 generalize st.length=nT at *
 generalize fs.length=nF at *
 generalize hRL:rows.length=L at *
 have HRL:Hid _:=hRL
 have hLL:((L:Int) != (L:Int))=false:=by simp
 clear hRL
 go_enter Tryz.func11,Tryz.ntmps11
 go_wp2_with fail
 rw[← HW1.out,← HW2.out]
 refine js2.mono ?_
 rintro e w3 ⟨rfl,hb3⟩
 have ji:=JI.out w3 (qd HBW.out hb3)
 have H3:Hid _:=HNB.out.up hb3
 have H3':Hid _:=HNB'.out.up hb3
 have HB3:Hid _:=qd HBW.out hb3
 clear js2 hb3 c0 c1 c2 c3 c4 e0 e1 e2 e3 e4 HNB HNB' HBW
 obtain ⟨c0,c1,c2,c3,c4⟩:=H3.out
 obtain ⟨e0,e1,e2,e3,e4⟩:=H3'.out
 go_wp2_with fail
 refine ji.mono ?_
 rintro e w4 ⟨rfl,hb4⟩
 have jb:=JB.out w4 (qd HB3.out hb4)
 have H4:Hid _:=H3.out.up hb4
 have H4':Hid _:=H3'.out.up hb4
 have HB4:Hid _:=qd HB3.out hb4
 clear ji hb4 c0 c1 c2 c3 c4 e0 e1 e2 e3 e4 H3 H3' HB3
 obtain ⟨c0,c1,c2,c3,c4⟩:=H4.out
 obtain ⟨e0,e1,e2,e3,e4⟩:=H4'.out
 go_wp2_with fail
 refine jb.mono ?_
 rintro e w5 ⟨rfl,hb5⟩
 have H5:Hid _:=H4.out.up hb5
 have H5':Hid _:=H4'.out.up hb5
 have HB5:Hid _:=qd HB4.out hb5
 clear jb hb5 c0 c1 c2 c3 c4 e0 e1 e2 e3 e4 H4 H4' HB4 JI JB
 obtain ⟨c0,c1,c2,c3,c4⟩:=H5.out
 obtain ⟨e0,e1,e2,e3,e4⟩:=H5'.out
 go_wp2
 go_loopw [5] (fun i wr=>∃ (q:Nat),q≤L∧i=.int .i64 (q:Int)∧Hid (Below w5.heap.size w5 wr)) (fun i _=>L - (intOf i).toNat)
 case atStart=>exact ⟨0,Nat.zero_le _,rfl,Below.refl _ _⟩
 case round =>
  clear c0 c1 c2 c3 c4 e0 e1 e2 e3 e4
  obtain ⟨q,hq,rfl,HB⟩:=hrel
  have c4:=(H5.out.up HB.out).c4
  have e4:=(H5'.out.up HB.out).c4
  by_cases hlt:q<L
  ·have hbr:=qd HB5.out HB.out
   have hqr:q<rows.length:=by have:=HRL.out;omega
   obtain ⟨aN2,cN2,a2,k2,hv,hn1,hc1,hn2,hbd,hli⟩:=(HA.out.up hbr).nx.row hqr
   obtain ⟨rfl,rfl⟩:aN=aN2∧cN=cN2:=by injection hv with h1 _ h3;exact ⟨h1,h3⟩
   obtain ⟨bN2,dN2,b2,l2,hv',hn1',hc1',hn2',-,hli'⟩:=(HA'.out.up hbr).nx.row hqr
   obtain ⟨rfl,rfl⟩:bN=bN2∧dN=dN2:=by injection hv' with h1 _ h3;exact ⟨h1,h3⟩
   rw[HRL.out]at hn1 hn1'
   have hix:=fun w'=>q27 (P:=Tryz.prog) (a:=aN) (cap:=cN) .i64 Tryz.underlying29 q20 hn1 q w' hlt
   have hix':=fun w'=>q27 (P:=Tryz.prog) (a:=bN) (cap:=dN) .i64 Tryz.underlying29 q20 hn1' q w' hlt
   obtain ⟨R,hR⟩:∃ R,R=rows[q]:=⟨_,rfl⟩
   rw[← hR]at hc1 hc1' hn2 hn2' hbd
   have HLI:Hid (∀ (x:Nat) (l:List Nat),R[x]? = some l→∃ u,wr.cell? (adOf a2 x)=some u∧LIs wr u l):=fun x l hx=>by
    subst hR
    obtain ⟨hx1,rfl⟩:=List.getElem?_eq_some_iff.1 hx
    exact hli x hx1
   have HLI':Hid (∀ (x:Nat) (l:List Nat),R[x]? = some l→∃ u,wr.cell? (adOf b2 x)=some u∧LIs wr u l):=fun x l hx=>by
    subst hR
    obtain ⟨hx1,rfl⟩:=List.getElem?_eq_some_iff.1 hx
    exact hli' x hx1
   have hRR:((R.length:Int) != (R.length:Int))=false:=by simp
   generalize hML:R.length=m at *
   have HML:Hid _:=hML
   clear hv hv' hli hli' hR hqr hML
   generalize hgq:adOf aN q=adq at *
   obtain ⟨gq,oq,sq⟩:=adq
   generalize hgq':adOf bN q=adq' at *
   obtain ⟨gq',oq',sq'⟩:=adq'
   clear hgq hgq'
   go_wp2
   go_quiet (fail)
   go_wp2
   obtain ⟨W0,hW0⟩:∃ W0,W0=wr:=⟨_,rfl⟩
   subst hW0
   go_loopw [6] (fun i w8=>∃ (x:Nat),x≤m∧i=.int .i64 (x:Int)∧Hid (Below W0.heap.size W0 w8)) (fun i _=>m - (intOf i).toNat)
   case atStart=>exact ⟨0,Nat.zero_le _,rfl,q1W W0 nq⟩
   case round =>
    obtain ⟨x,hx,rfl,HD⟩:=hrel
    have c4x:=qm c4 HD.out
    have e4x:=qm e4 HD.out
    have hc1x:=qm hc1 HD.out
    have hc1y:=qm hc1' HD.out
    by_cases hltx:x<m
    ·have hxR:x<R.length:=by have:=HML.out;omega
     obtain ⟨u,hu,lu⟩:=HLI.out x R[x] (List.getElem?_eq_getElem hxR)
     obtain ⟨u',hu',lu'⟩:=HLI'.out x R[x] (List.getElem?_eq_getElem hxR)
     have hux:=qm hu HD.out
     have huy:=qm hu' HD.out
     obtain ⟨pa,pc,rfl,-,hI⟩:=lu
     obtain ⟨pa',pc',rfl,-,hI'⟩:=lu'
     have hixx:=fun w'=>q27 (P:=Tryz.prog) (a:=a2) (cap:=k2) .i64 Tryz.underlying47 q2j hn2 x w' hltx
     have hixx':=fun w'=>q27 (P:=Tryz.prog) (a:=b2) (cap:=l2) .i64 Tryz.underlying47 q2j hn2' x w' hltx
     have hsm:∀ n9,Calls Tryz.prog 12 #[.slice pa R[x].length pc,.slice pa' R[x].length pc'] (wr.drewN n9) fun e w'=>e=.returned (.bool true)∧∃ n,w'=(wr.drewN n9).drewN n:=fun n9=>by
      have:=q2s pa R[x].length pc _ pa' R[x].length pc' _ (wr.drewN n9) ((hI.up HD.out).drewN n9) ((hI'.up HD.out).drewN n9)
      rw[decide_eq_true rfl]at this
      exact this
     have HSM:Hid _:=hsm
     clear hI hI' hsm hu hu'
     generalize R[x].length=rl at *
     generalize adOf a2 x=adx at *
     obtain ⟨gx,ox,sx⟩:=adx
     generalize adOf b2 x=adx' at *
     obtain ⟨gx',ox',sx'⟩:=adx'
     go_wp2
     go_quiet ((go_at_call 12;exact Calls.quiet_of (HSM.out _)))
     have HD2:Hid (Below W0.heap.size W0 (wr.drewN nq)):=qd HD.out (q1W wr nq)
     go_wp2
     go_roundw
     case rel=>exact ⟨x+1,by omega,by go_num,HD2⟩
     case measure=>simp[intOf] <;> omega
    ·obtain rfl:x=m:=by omega
     have HB8:Hid (Below w5.heap.size w5 wr):=qd HB.out HD.out
     go_wp2
     go_roundw
     case rel=>exact ⟨q+1,by omega,by go_num,HB8⟩
     case measure=>simp[intOf] <;> omega
  ·obtain rfl:q=L:=by omega
   have HF:Hid _:=qd HB5.out HB.out
   go_wp2
   go_ret
   exact ⟨rfl,HF.out⟩
end Go.Proofs.YtekeaodpdcnfjaaGreatDoor
