/- Texts of the proof, put together: what it uses. -/
import Derived.Test.YtekeaodpdcnfjaaGreatDoorZ03
import Derived.Test.YtekeaodpdcnfjaaGreatDoorZ11
import Derived.Test.YtekeaodpdcnfjaaGreatDoorZ12
import Derived.Test.YtekeaodpdcnfjaaGreatDoorZ13
set_option maxRecDepth 100000
set_option maxHeartbeats 16000000
namespace Go.Proofs.YtekeaodpdcnfjaaGreatDoor
open Go.RowKit Go.Maps Go.Sort Go.Shelf
theorem PlD.keys{w:World}{b n:Nat}{D:DataW Value}{ks:List Nat}(h:PlD D ks)(ho:w.ownsMap Tryz.prog 3 anyElem b n D){ss:List Int}(hp:ss.Perm (intKeys D)):∃rs:List Nat,ss.mergeSort (fun x y=>decide (x<=y))=iU rs/\(∀i,i∈rs↔i∈ks)/\rs.Nodup/\rs.length=ss.length:=by
 obtain⟨es,rfl,hpw,hkey⟩:=ho.entries q1V
 have hk:∀p∈es,∃i∈ks,p.1=klN i:=fun p hp=>(h.hs p.1).1 (by
  rw[has_eq,List.any_eq_true];exact⟨p,hp,WideAt.sameKey_self (hkey p hp)⟩)
 have hm:(ss.mergeSort fun x y=>decide (x<=y)).Perm (intKeys (.map es)):=(List.mergeSort_perm ss _).trans hp
 have hmem:∀x,x∈ss.mergeSort (fun x y=>decide (x<=y))↔∃i∈ks,(i:Int)=x:=fun x=>by
  rw[hm.mem_iff];unfold intKeys;dsimp only
  rw[List.mem_map]
  constructor
  ·rintro⟨p,hp,rfl⟩
   obtain⟨i,hi,e⟩:=hk p hp;exact⟨i,hi,by rw[e];rfl⟩
  ·rintro⟨i,hi,rfl⟩
   have h2:=(h.hs (klN i)).2 ⟨i,hi,rfl⟩;rw[has_eq,List.any_eq_true]at h2;obtain⟨p,hp,e⟩:=h2;obtain⟨j,hj,e2⟩:=hk p hp
   have:j=i:=by
    by_cases hne:klN j=klN i
    ·exact q5W hne
    ·rw[e2,sameKey_ne hne]at e
     cases e
   subst this;exact⟨p,hp,by rw[e2];rfl⟩
 have hnd:(ss.mergeSort fun x y=>decide (x<=y)).Nodup:=by
  rw[hm.nodup_iff];unfold intKeys;dsimp only
  unfold List.Nodup;rw[List.pairwise_map];refine hpw.imp_of_mem fun {p r} hp hr hne e=>hne ?_
  obtain⟨i,_,e1⟩:=hk p hp;obtain⟨j,_,e2⟩:=hk r hr;rw[e1,e2]at e ⊢;have:(i:Int)=(j:Int):=e
  rw[show i=j by omega]
 have hlen:=(List.mergeSort_perm ss fun x y=>decide (x<=y)).length_eq
 generalize ss.mergeSort (fun x y=>decide (x<=y))=X at *
 have hX:iU (X.map Int.toNat)=X:=by
  unfold iU;rw[List.map_map]
  conv=>rhs;rw[<- List.map_id X]
  refine List.map_congr_left fun x hx=>?_
  obtain⟨i,_,rfl⟩:=(hmem x).1 hx;simp
 refine⟨X.map Int.toNat,hX.symm,fun i=>?_,?_,by simp[hlen]⟩
 ·rw[List.mem_map]
  constructor
  ·rintro⟨x,hx,rfl⟩
   obtain⟨j,hj,rfl⟩:=(hmem x).1 hx;simpa using hj
  ·intro hi
   exact⟨(i:Int),(hmem _).2 ⟨i,hi,rfl⟩,by simp⟩
 ·unfold List.Nodup
  rw[List.pairwise_map];refine List.Pairwise.imp_of_mem (fun {x y} hx hy hne e=>hne ?_) hnd
  obtain⟨i,_,rfl⟩:=(hmem x).1 hx;obtain⟨j,_,rfl⟩:=(hmem y).1 hy;simp at e
  rw[e]
theorem qcK(m:Nat):AnyZI.SortsIn Tryz.prog Tryz.sortedP_ren Fence.wide m :=
 ⟨fun blk off cap ss W hH hblk hsz=>callsIn_wide.2 (AnyM.slices_Sort_int q7V blk off cap ss W hH hblk hsz),fun p cap W=>callsIn_wide.2 (AnyM.slices_Sort_int_none q7V p cap W)⟩
theorem qai(mb:Option Nat)(W:World):Calls Tryz.prog 26 #[.map mb] W fun e w'=>e=.returned (.func (.func 43) #[] #[.pointer (some ⟨W.heap.size,0,none⟩)])/\w'=W.alloc (.cells #[.map mb] 75) :=
 (callsIn_wide (n:=5)).1 (AnyZI.keys_in q7o Fence.wide 5 trivial rfl mb W)
theorem q7W(b nn:Nat)(D0:DataW Value)(w:World)(hown:w.ownsMap Tryz.prog 3 anyElem b nn D0)(hmax:Maps.size D0<=1000000):
  Calls Tryz.prog 25 #[.func (.func 43) #[] #[.pointer (some ⟨w.heap.size,0,none⟩)]] (w.alloc (.cells #[.map (some b)] 75)) fun e w'=>∃(v:Value) (ss:List Int),e=.returned v/\ss.Perm (intKeys D0) /\
   w'.ownsRow (w.alloc (.cells #[.map (some b)] 75)).heap.size 3 1 v ss.length ((ss.mergeSort (fun x y=>decide (x<=y))).map encZ)/\(v=.slice none 0 0↔ss=[])/\Below (w.alloc (.cells #[.map (some b)] 75)).heap.size (w.alloc (.cells #[.map (some b)] 75)) w':=by
 have hbl:=hown.lt
 have hseq:SeqGives Fence.wide 2 Tryz.prog 43 #[.pointer (some ⟨w.heap.size,0,none⟩)] encZ (fun ss=>ss.Perm (intKeys D0)) (Maps.size D0) (w.alloc (.cells #[.map (some b)] 75)) :=
  AnyZI.keys_gives (ρ := Tryz.keysP_ren) { q7o with } Fence.wide _ trivial rfl (by omega) w.heap.size b nn D0 _ (by simp) (by simp) (by
   obtain⟨es,clock,hb,Ft,hs,hD⟩:=hown;exact⟨es,clock,(Below.heap_alloc _ _ b hbl).trans hb,Ft,hs,hD⟩)
 exact(callsIn_wide (n:=5)).1 (AnyZI.sorted_in qbs Fence.wide 5 trivial trivial trivial trivial rfl (by omega) (qcK _) (enters_of Tryz.func42 (by kernel_rfl) rfl) 43 #[.pointer (some ⟨w.heap.size,0,none⟩)] trivial (enters_of Tryz.func43 (by kernel_rfl) rfl) _ _ (by unfold maxLen;omega) (by omega) _ hseq)
def RuR (nx:Nat->Nat->List Nat) (st t:List Nat) (w:World) (e:Ending) (w':World):Prop:=∃a c rs,e=.returned (.tuple #[.slice a rs.length c,.int .i64 0])/\ISl w' a rs.length c rs/\(∀i,i∈rs↔i∈goN nx t st)/\rs.Nodup/\rs.length<=256/\Below w.heap.size w w'
theorem qaP(n:Nat)(vS vT vF vN:Value)(S st:List Nat)(fs:List Bool)(rows:List (List (List Nat)))(d:Option Addr)(m c:Nat)(zs:List Int)(w:World)(h:NfAt w vS vT vF vN S st fs rows)(hk:NfK n S st fs rows)(hL:LtSl w d m c zs)(hm:m<=1024)(hz:∀x∈zN zs,x<2 ^ n):
  Calls Tryz.prog 10 #[nfV n vS vT vF vN,.slice d m c] w (RuR (nxR rows) st (zN zs) w):=by
 obtain⟨Q,hQ⟩:∃Q:Ending->World->Prop,Q=RuR (nxR rows) st (zN zs) w:=⟨_,rfl⟩
 have HQ:Hid (∀e w',RuR (nxR rows) st (zN zs) w e w'->Q e w'):=fun e w' h=>by rw[hQ];exact h
 rw[<- hQ];obtain⟨aS,cS,rfl,-⟩:=h.s;obtain⟨aT,cT,hvT,-⟩:=h.t;subst hvT;obtain⟨aF,cF,rfl,-⟩:=h.f;obtain⟨aN,cN,us,rfl,-⟩:=h.nx;have hb0:=qc w (.cells #[.int .i64 (n:Int),.slice aS S.length cS,.slice aT st.length cT,.slice aF fs.length cF,.slice aN rows.length cN] 31 (0,0));have hNB:=q2H w n aS S.length cS aT st.length cT aF fs.length cF aN rows.length cN;have jm:=q7q n _ _ _ _ S st fs rows d m c zs _ (h.up hb0) hk (hL.up hb0) hm hz;have HB0:Hid _:=hb0;have HNB:Hid _:=hNB;obtain⟨c0,c1,c2,c3,c4⟩:=hNB;have HRE:Hid (∀w',Below w.heap.size w w'->Calls Tryz.prog 27 #[nfV n (.slice aS S.length cS) (.slice aT st.length cT) (.slice aF fs.length cF) (.slice aN rows.length cN),.slice d m c] w' (ReQ (nxR rows) st (zN zs) w')):=fun w' hb=>q91 n _ _ _ _ S st fs rows d m c zs w' (h.up hb) hk (hL.up hb) hm hz
 clear h hk hL hz hb0 hQ;unfold nfV at *;generalize S.length=nS at *;generalize st.length=nT at *;generalize fs.length=nF at *;generalize rows.length=nN at *;go_enter Tryz.func10,Tryz.ntmps10
 go_wp2_with fail
 refine jm.mono ?_
 rintro e w1 ⟨rfl,hb1⟩
 have hbb:=qd HB0.out hb1;have jr:=HRE.out w1 hbb;obtain⟨d0,d1,d2,d3,d4⟩:=HNB.out.up hb1;have HBB:Hid _:=hbb;clear jm hb1 hbb c0 c1 c2 c3 c4 HRE HNB
 go_wp2_with fail
 refine jr.mono ?_
 rintro e w2 ⟨hh,ks,rfl,⟨D,hown,hD⟩,hmem,hb2⟩
 have jk:=qai (some hh) w2;have js:=q7W hh ks.length D w2 hown (by rw[hD.sz];have:=hD.few;omega)
 have HNX:Hid (∀v (ss:List Int) w4,ss.Perm (intKeys D)->w4.ownsRow (w2.alloc (.cells #[.map (some hh)] 75)).heap.size 3 1 v ss.length ((ss.mergeSort (fun x y=>decide (x<=y))).map encZ)->Below (w2.alloc (.cells #[.map (some hh)] 75)).heap.size (w2.alloc (.cells #[.map (some hh)] 75)) w4->∃a4 n4 c4,v=.slice a4 n4 c4/\Q (.returned (.tuple #[.slice a4 n4 c4,.int .i64 0])) w4):=fun v ss w4 h1 h2 h3=>by
  obtain⟨rs,e1,e2,e3,e4⟩:=hD.keys hown h1;rw[e1,<- e4]at h2;obtain⟨a4,c4,rfl,hI⟩:=qd8 h2;have hl:rs.length<=256:=q9Q 256 rs e3 fun x hx=>hD.lt x ((e2 x).1 hx)
  exact⟨a4,_,c4,rfl,HQ.out _ _ ⟨a4,c4,rs,rfl,hI,fun i=>(e2 i).trans (hmem i),e3,hl,qd (qd (qd HBB.out hb2) (qc w2 _)) h3⟩⟩
 clear jr hown hD hmem hb2 d0 d1 d2 d3 d4
 go_wp2_with fail
 refine jk.mono ?_
 rintro e w3 ⟨rfl,rfl⟩
 clear jk
 go_wp2_with fail
 refine js.mono ?_
 rintro e w4 ⟨v,ss,rfl,h1,h2,-,h3⟩
 obtain⟨a4,n4,c4,rfl,hr⟩:=HNX.out v ss w4 h1 h2 h3;have HR:Hid _:=hr;clear js h1 h2 h3 HNX hr;go_wp2;exact HR.out
end Go.Proofs.YtekeaodpdcnfjaaGreatDoor
namespace Go.Proofs.YtekeaodpdcnfjaaGreatDoor
open Go.RowKit Go.Maps
theorem qa5(s g:Nat)(aF:Option Addr)(nF cF:Nat)(fs:List Bool)(w:World)(hF:BoSl w aF nF cF fs)(hs:s<nF)(hc:w.cell? ⟨g,3,none⟩=some (.slice aF nF cF)):
  Calls Tryz.prog 20 #[.int .i64 (s:Int),.pointer (some ⟨g,0,none⟩)] w fun e w'=>e=.returned (.bool (fs.getD s false))/\w'=w:=by
 obtain⟨hix0,hce⟩:=hF.at s hs;have hix:=fun w'=>hix0 nF w' hs
 have hsl:s<fs.length:=by rw[hF.hlen];exact hs
 have hg:fs.getD s false=fs[s]:=by rw[List.getD_eq_getElem?_getD,lge hsl];rfl
 rw[<- hg]at hce;clear hF hix0 hg hsl;generalize fs.getD s false=b at *;generalize adOf aF s=ad at *;obtain⟨ga,oa,sa⟩:=ad;go_enter Tryz.func20,Tryz.ntmps20
 go_wp2;go_ret
 exact⟨rfl,rfl⟩
theorem q7m(g:Nat)(a:Option Addr)(L c:Nat)(rs:List Nat)(aF:Option Addr)(nF cF:Nat)(fs:List Bool)(w:World)(hI:ISl w a L c rs)(hF:BoSl w aF nF cF fs)(hs:∀q∈rs,q<nF)(hl:L<=1000000)(hc:w.cell? ⟨g,3,none⟩=some (.slice aF nF cF)):
  Calls Tryz.prog 40 #[.slice a L c,.func (.func 20) #[] #[.pointer (some ⟨g,0,none⟩)]] w fun e w'=>w'=w/\∃i:Int,e=.returned (.int .i64 i)/\(decide (0<=i)=true↔∃q∈rs,fs.getD q false=true):=by
 have HI:Hid _:=hI;have HLEN:Hid _:=q5V hI;have HA:Hid (∀q∈rs,Calls Tryz.prog 20 #[.int .i64 (q:Int),.pointer (some ⟨g,0,none⟩)] w fun e w'=>e=.returned (.bool (fs.getD q false))/\w'=w):=fun q hq=>qa5 q g aF nF cF fs w hF (hs q hq) hc
 clear hI hF hs hc;go_enter Tryz.func40,Tryz.ntmps40
 go_wp2
 go_loopw [8] (fun j wr=>∃(k:Nat),k<=L/\j=.int .i64 (k:Int)/\wr=w/\Hid (∀q∈rs.take k,fs.getD q false=false)) (fun j _=>L - (intOf j).toNat)
 case atStart=>exact⟨0,Nat.zero_le _,rfl,rfl,fun q hq=>(by simp at hq)⟩
 case round =>
  obtain⟨k,hk,rfl,rfl,HN⟩:=hrel;by_cases hlt:k<L
  ·have hkl:k<rs.length:=by have:=HLEN.out;omega
   have hidx:=fun w'=>HI.out.idx L k w' hlt (Nat.le_refl _)
   have hce:=HI.out.cell k hlt;have hgd:(iU rs).getD k 0=((rs[k]:Nat):Int):=by simp[iU,List.getD_eq_getElem?_getD,List.getElem?_eq_getElem hkl]
   rw[hgd]at hce;have ja:=HA.out rs[k] (List.getElem_mem hkl);have HT:Hid (rs.take (k+1)=rs.take k++[rs[k]]):=by show _=_;rw[List.take_add_one,lge hkl];rfl
   have HM:Hid (rs[k]∈rs):=List.getElem_mem hkl;generalize rs[k]=q at *;obtain⟨b,hb⟩:∃b,b=fs.getD q false:=⟨_,rfl⟩
   rw[<- hb]at ja;have HBB:Hid _:=hb;clear hgd hb;generalize adOf a k=ad at *;obtain⟨ga,oa,sa⟩:=ad
   go_wp2_with fail
   refine ja.mono ?_
   rintro e w2 ⟨rfl,rfl⟩
   clear ja
   cases b with
   | true =>
    go_wp2;go_ret
    exact⟨rfl,(k:Int),rfl,⟨fun _=>⟨q,HM.out,HBB.out.symm⟩,fun _=>decide_eq_true (by omega)⟩⟩
   | false =>
    have HN2:Hid (∀q∈rs.take (k+1),fs.getD q false=false):=fun y hy=>by
     rw[HT.out]at hy;rcases List.mem_append.1 hy with hy|hy
     ·exact HN.out y hy
     ·have:y=q:=by simpa using hy
      subst this;exact HBB.out.symm
    go_wp2
    go_roundw
    case rel=>exact⟨k+1,by omega,by go_num,trivial,HN2⟩
    case measure=>simp[intOf] <;> omega
  ·obtain rfl:k=L:=by omega
   have HR:Hid (¬ ∃q∈rs,fs.getD q false=true):=fun⟨q,hq,e⟩=>by
    have:=HN.out q (by rw[List.take_of_length_le (by rw[HLEN.out];exact Nat.le_refl _)];exact hq)
    rw[this]at e;cases e
   go_wp2;go_ret
   exact⟨rfl,-1,rfl,⟨fun h=>absurd h (by decide),fun h=>absurd h HR.out⟩⟩
theorem q8w(g:Nat)(a:Option Addr)(L c:Nat)(rs:List Nat)(aF:Option Addr)(nF cF:Nat)(fs:List Bool)(w:World)(hI:ISl w a L c rs)(hF:BoSl w aF nF cF fs)(hs:∀q∈rs,q<nF)(hl:L<=1000000)(hc:w.cell? ⟨g,3,none⟩=some (.slice aF nF cF)):
  Calls Tryz.prog 19 #[.slice a L c,.func (.func 20) #[] #[.pointer (some ⟨g,0,none⟩)]] w fun e w'=>w'=w/\∃b,e=.returned (.bool b)/\(b=true↔∃q∈rs,fs.getD q false=true):=by
 have ji:=q7m g a L c rs aF nF cF fs w hI hF hs hl hc;clear hI hF hs hc;go_enter Tryz.func19,Tryz.ntmps19
 go_wp2_with fail
 refine ji.mono ?_
 rintro e w1 ⟨rfl,i,rfl,hi⟩
 have HI:Hid _:=hi;clear ji hi;go_wp2;go_ret
 exact⟨rfl,decide (0<=i),rfl,HI.out⟩
def AcR (nx:Nat->Nat->List Nat) (st:List Nat) (fs:List Bool) (t:List Nat) (w:World) (e:Ending) (w':World):Prop:=∃b,e=.returned (.tuple #[.bool b,.int .i64 0])/\(b=true↔∃q∈goN nx t st,fs.getD q false=true)/\Below w.heap.size w w'
theorem q2u(n:Nat)(vS vT vF vN:Value)(S st:List Nat)(fs:List Bool)(rows:List (List (List Nat)))(d:Option Addr)(m c:Nat)(zs:List Int)(w:World)(h:NfAt w vS vT vF vN S st fs rows)(hk:NfK n S st fs rows)(hL:LtSl w d m c zs)(hm:m<=1024)(hz:∀x∈zN zs,x<2 ^ n):
  Calls Tryz.prog 8 #[nfV n vS vT vF vN,.slice d m c] w (AcR (nxR rows) st fs (zN zs) w):=by
 obtain⟨Q,hQ⟩:∃Q:Ending->World->Prop,Q=AcR (nxR rows) st fs (zN zs) w:=⟨_,rfl⟩
 have HQ:Hid (∀e w',AcR (nxR rows) st fs (zN zs) w e w'->Q e w'):=fun e w' h=>by rw[hQ];exact h
 rw[<- hQ];obtain⟨aS,cS,rfl,-⟩:=h.s;obtain⟨aT,cT,hvT,-⟩:=h.t;subst hvT;obtain⟨aF,cF,rfl,hBo⟩:=h.f;obtain⟨aN,cN,us,rfl,-⟩:=h.nx;have hb0:=qc w (.cells #[.int .i64 (n:Int),.slice aS S.length cS,.slice aT st.length cT,.slice aF fs.length cF,.slice aN rows.length cN] 31 (0,0));have hNB:=q2H w n aS S.length cS aT st.length cT aF fs.length cF aN rows.length cN;have jm:=qaP n _ _ _ _ S st fs rows d m c zs _ (h.up hb0) hk (hL.up hb0) hm hz;have HB0:Hid _:=hb0;have HNB:Hid _:=hNB;have HBO:Hid _:=hBo;obtain⟨c0,c1,c2,c3,c4⟩:=hNB;have HGL:Hid (∀s,s∈goN (nxR rows) (zN zs) st->s<fs.length):=fun s hs=>by rw[hk.fl];exact go_lt hk (zN zs) st hz hk.st s hs
 clear h hk hL hz hb0 hQ hBo;unfold nfV at *;generalize S.length=nS at *;generalize st.length=nT at *;generalize fs.length=nF at *;generalize rows.length=nN at *;go_enter Tryz.func8,Tryz.ntmps8
 go_wp2_with fail
 refine jm.mono ?_
 rintro e w1 ⟨a1,k1,rs,rfl,hI,hmem,-,hl,hb1⟩
 have hbb:=qd HB0.out hb1;have jc:=q8w w.heap.size a1 rs.length k1 rs aF nF cF fs w1 hI (HBO.out.up hbb) (fun q hq=>HGL.out q ((hmem q).1 hq)) (by omega) (HNB.out.up hb1).c3
 have HBB:Hid _:=hbb;have HM:Hid _:=hmem;clear jm hb1 hbb c0 c1 c2 c3 c4 HNB hI hmem hl;generalize rs.length=L at *
 go_wp2_with fail
 refine jc.mono ?_
 rintro e w2 ⟨rfl,b,rfl,hb⟩
 have HR:Hid (Q (.returned (.tuple #[.bool b,.int .i64 0])) w2):=HQ.out _ _ ⟨b,rfl,hb.trans ⟨fun⟨q,hq,e⟩=>⟨q,(HM.out q).1 hq,e⟩,fun⟨q,hq,e⟩=>⟨q,(HM.out q).2 hq,e⟩⟩,HBB.out⟩
 clear jc hb;go_wp2;exact HR.out
theorem qgI{n:Nat}{ts:List Tk}{T:Tr}(kT:KT T)(h:ts=T.flat)(hl:ts.length<=2048)(hn:n<=8)(hb:bitsL ts >>> n=0):mmE (n:Int) ts=0:=by
 have hc:chkE ts=0:=q30.2 ⟨hl,T,kT.wf,kT.np,kT.kr,h⟩;unfold mmE;rw[if_pos ⟨by omega,by omega⟩,if_neg (by omega),Int.toNat_natCast,if_pos hb]
theorem NofR.known{n:Nat}{ts:List Tk}{w w':World}{e:Ending}(h:NofR (n:Int) ts w e w'){T:Tr}{S st:List Nat}{rows:List (List (List Nat))}{M:Mt}(kT:KT T)(hf:ts=T.flat)(hm:mmE (n:Int) ts=0)(hn:nfaM T n=.ok (S,st,rows,M)):
  ∃vS vT vF vN fs,e=.returned (.tuple #[nfV n vS vT vF vN,.int .i64 0])/\NfAt w' vS vT vF vN S st fs rows/\NfK n S st fs rows/\(∀q,q<S.length->(fs.getD q false=true↔FinP M [atS S q]))/\Below w.heap.size w w':=by
 rcases h with⟨hb,⟨E,h0,_,h1|⟨_,T1,E1,kT1,hf1,hn1,rfl⟩⟩|⟨T1,S1,st1,fs,rows1,M1,vS,vT,vF,vN,_,hK,rfl,hA⟩⟩
 ·exact absurd (h1.symm.trans hm) h0
 ·have e:=qch kT kT1 (hf.symm.trans hf1)
  subst e;rw[Int.toNat_natCast,hn]at hn1
  cases hn1
 ·have e:=qch kT hK.kt (hf.symm.trans hK.fl)
  subst e;have h2:=hK.of;rw[Int.toNat_natCast,hn]at h2;injection h2 with h2;injection h2 with h3 h4;injection h4 with h4 h5;injection h5 with h5 h6
  subst h3 h4 h5 h6;have h7:=hK.ok;rw[Int.toNat_natCast]at h7;exact⟨vS,vT,vF,vN,fs,by rw[Int.toNat_natCast],hA,h7,hK.fin,hb⟩
theorem qh6(T:List Tk)(w:World)(hl:T.length<=100)(hok:∀t∈T,t.1<256/\t.2<256):TkSl (w.alloc (.cells (encT T).toArray 43)) (some ⟨w.heap.size,0,none⟩) T.length T.length T:=by
 have hs:(encT T).toArray.size=T.length*2:=by rw[List.size_toArray,q3K]
 have h1:(w.alloc (.cells (encT T).toArray 43)).ownsRow w.heap.size 43 2 (.slice (some ⟨w.heap.size,0,none⟩) T.length T.length) T.length (encT T):=⟨q3K T,Or.inr ⟨w.heap.size,T.length,_,rfl,Nat.le_refl _,(MapKept.heap_alloc w _).1,Nat.le_refl _,by unfold maxLen;omega,hs,by rw[<- q3K T,List.take_length]⟩⟩
 obtain⟨a,c,e,t,_⟩:=qhB h1 hok;injection e with e1 _ e3;subst e1 e3;exact t
theorem qh8:goN (nxR [[[],[0],[1],[1]],[[1],[1],[1],[1]]]) (zN [1,2]) [0]=[1]:=by decide
theorem qh9:goN (nxR [[[],[0],[1],[1]],[[1],[1],[1],[1]]]) (zN [1,1]) [0]=[0]:=by decide
theorem qhf{nx:Nat->Nat->List Nat}{st:List Nat}{fs:List Bool}{t:List Nat}{w w':World}{e:Ending}{q:Nat}(h:AcR nx st fs t w e w')(hg:goN nx t st=[q])(hf:fs.getD q false=true):e=.returned (.tuple #[.bool true,.int .i64 0])/\Below w.heap.size w w':=by
 obtain⟨b,rfl,hb,hw⟩:=h;have:b=true:=hb.2 ⟨q,by rw[hg];simp,hf⟩
 subst this;exact⟨rfl,hw⟩
theorem ac_no{nx:Nat->Nat->List Nat}{st:List Nat}{fs:List Bool}{t:List Nat}{w w':World}{e:Ending}{q:Nat}(h:AcR nx st fs t w e w')(hg:goN nx t st=[q])(hf:¬ fs.getD q false=true):e=.returned (.tuple #[.bool false,.int .i64 0])/\Below w.heap.size w w':=by
 obtain⟨b,rfl,hb,hw⟩:=h
 have:b=false:=by
  cases b with
  | false=>rfl
  | true =>
   obtain⟨z,hz,hq⟩:=hb.1 rfl;rw[hg]at hz;have:z=q:=by simpa using hz
   subst this;exact absurd hq hf
 subst this;exact⟨rfl,hw⟩
theorem q7K(w:World)(hT:Tab64 w):Calls Tryz.prog 5 #[] w (BR true w):=by
 obtain⟨w1,hw1⟩:∃w1,w1=w.alloc (.cells #[.int .u8 2,.int .u8 0,.int .u8 2,.int .u8 1,.int .u8 15,.int .u8 0] 43):=⟨_,rfl⟩
 have b1:Below w.heap.size w w1:=by rw[hw1];exact qc _ _
 have t1:TkSl w1 (some ⟨w.heap.size,0,none⟩) 3 3 [(2,0),(2,1),(15,0)]:=by rw[hw1];exact qh6 [(2,0),(2,1),(15,0)] w (by decide) (by decide)
 have js:=q6d 2 _ _ _ _ w1 t1 (hT.up b1);have hmm:mmE ((2:Nat):Int) [(2,0),(2,1),(15,0)]=0:=qgI qbT rfl (by decide) (by decide) (by decide)
 have HA1:Hid (∀e w',NofR 2 [(2,0),(2,1),(15,0)] w1 e w'->∃vS vT vF vN fs,e=.returned (.tuple #[nfV 2 vS vT vF vN,.int .i64 0])/\NfAt w' vS vT vF vN [1,0] [0] fs [[[],[0],[1],[1]],[[1],[1],[1],[1]]]/\NfK 2 [1,0] [0] fs [[[],[0],[1],[1]],[[1],[1],[1],[1]]]/\(∀q,q<2->(fs.getD q false=true↔FinP [[(2,0),(2,1),(15,0)]] [atS [1,0] q]))/\Below w1.heap.size w1 w'):=fun e w' h=>NofR.known (n:=2) h qbT rfl hmm nk4
 have HB1:Hid _:=b1;have HW1:Hid _:=hw1;clear hT hmm hw1 b1 t1;go_enter Tryz.func5,Tryz.ntmps5
 go_wp2_with fail
 rw[<- HW1.out];refine js.mono ?_
 intro e w2 hq;obtain⟨vS,vT,vF,vN,fs,rfl,hN,hK,hfin,hb2⟩:=HA1.out e w2 hq;obtain⟨aS,cS,rfl,-⟩:=hN.s;obtain⟨aT,cT,hvT,-⟩:=hN.t;subst hvT;obtain⟨aF,cF,rfl,-⟩:=hN.f;obtain⟨aN,cN,us,rfl,-⟩:=hN.nx;have hy:fs.getD 1 false=true:=(hfin 1 (by decide)).2 (qeg _)
 have hn:¬ fs.getD 0 false=true:=fun e=>qha ((hfin 0 (by decide)).1 e)
 obtain⟨w3,hw3⟩:∃w3,w3=w2.alloc (.cells #[.int .i64 2,.slice aS 2 cS,.slice aT 1 cT,.slice aF fs.length cF,.slice aN 2 cN] 31 (0,0)):=⟨_,rfl⟩
 have b3:Below w2.heap.size w2 w3:=by rw[hw3];exact qc _ _
 have z3:w3.heap.size=w2.heap.size+1:=by rw[hw3];simp
 have nb3:NfB w3 w2.heap.size 2 aS 2 cS aT 1 cT aF fs.length cF aN 2 cN:=by rw[hw3];exact q2H w2 2 aS 2 cS aT 1 cT aF fs.length cF aN 2 cN
 have hb4:=qc w3 (.cells #[.int .u8 1,.int .u8 2] 25);have l4:LtSl (w3.alloc (.cells #[.int .u8 1,.int .u8 2] 25)) (some ⟨w2.heap.size+1,0,none⟩) 2 2 [1,2]:=by rw[<- z3];exact q6g [1,2] w3 (by decide) (by decide)
 have j2:=q2u 2 _ _ _ _ [1,0] [0] fs [[[],[0],[1],[1]],[[1],[1],[1],[1]]] _ 2 2 [1,2] _ ((hN.up b3).up hb4) hK l4 (by decide) (by decide)
 have HY:Hid (∀e w',AcR (nxR [[[],[0],[1],[1]],[[1],[1],[1],[1]]]) [0] fs (zN [1,2]) (w3.alloc (.cells #[.int .u8 1,.int .u8 2] 25)) e w'->e=.returned (.tuple #[.bool true,.int .i64 0])/\Below w3.heap.size w3 w'):=fun e w' h=>(qhf h qh8 hy).imp id fun h=>hb4.trans (h.mono hb4.size)
 have HB3:Hid _:=qd (qd HB1.out hb2) b3
 have HNX:Hid (∀w',Below w3.heap.size w3 w'->Calls Tryz.prog 8 #[.agg #[.int .i64 2,.slice aS 2 cS,.slice aT 1 cT,.slice aF fs.length cF,.slice aN 2 cN],.slice (some ⟨w'.heap.size,0,none⟩) 2 2] (w'.alloc (.cells #[.int .u8 1,.int .u8 1] 25)) fun e w2=>e=.returned (.tuple #[.bool false,.int .i64 0])/\Below w'.heap.size w' w2):=fun w' hb=>by
  have hb5:=qc w' (.cells #[.int .u8 1,.int .u8 1] 25);exact(q2u 2 _ _ _ _ [1,0] [0] fs [[[],[0],[1],[1]],[[1],[1],[1],[1]]] _ 2 2 [1,1] _ (((hN.up b3).up hb).up hb5) hK (q6g [1,1] w' (by decide) (by decide)) (by decide) (by decide)).mono fun e w2 h=>(ac_no h qh9 hn).imp id fun h=>hb5.trans (h.mono hb5.size)
 have HNB:Hid _:=nb3;have HW3:Hid _:=hw3;have HZ3:Hid _:=z3;obtain⟨c0,c1,c2,c3,c4⟩:=nb3;clear js hq hN hK hfin hb2 hy hn hw3 b3 z3 hb4 l4;unfold nfV at *;dsimp only[List.length_cons,List.length_nil,Nat.reduceAdd]at *
 generalize fs.length=nF at *
 go_wp2_with fail
 rw[<- HW3.out];refine j2.mono ?_
 intro e w5 hq;obtain⟨rfl,hb5⟩:=HY.out e w5 hq;have j3:=HNX.out w5 hb5;obtain⟨d0,d1,d2,d3,d4⟩:=HNB.out.up hb5;have HB5:Hid _:=qd HB3.out hb5;clear j2 hq hb5 HY HNX c0 c1 c2 c3 c4
 go_wp2_with fail
 refine j3.mono ?_
 rintro e w6 ⟨rfl,hb6⟩
 have HB6:Hid _:=qd HB5.out hb6;clear j3 hb6;go_wp2;go_ret
 exact⟨rfl,HB6.out⟩
theorem qaX:(Tryz.prog.info? 25).map (fun i=>(i.zero,i.size,i.bytes))=some (some (.int .u8 0),1,1):=by kernel_rfl
def cutL (n:Nat) (zs:List Int):List Int:=zs.map fun z=>((z.toNat &&& (2 ^ n - 1):Nat):Int)
theorem qgg{n:Nat}{zs:List Int}{i z:Nat}(h:i<zs.length)(hz:zs[i]=(z:Int)):(cutL n zs).take (i+1)=(cutL n zs).take i++[((z &&& (2 ^ n - 1):Nat):Int)]:=by
 have hl:i<(cutL n zs).length:=by simp[cutL];exact h
 rw[List.take_add_one,List.getElem?_eq_getElem hl];simp[cutL,hz]
theorem qgH{z k:Nat}(hz:z<256)(hk:k<=3):bits BinOp.and IntKind.u8 (z:Int) (IntKind.u8.wrap (IntKind.u8.wrap (2 ^ k) - 1))=((z &&& (2 ^ k - 1):Nat):Int):=by
 have h1:IntKind.u8.wrap (IntKind.u8.wrap (2 ^ k) - 1)=((2 ^ k - 1:Nat):Int):=by
  rcases (by omega:k=0\/k=1\/k=2\/k=3) with rfl|rfl|rfl|rfl <;> decide
 have h2:2 ^ k - 1<256:=by
  rcases (by omega:k=0\/k=1\/k=2\/k=3) with rfl|rfl|rfl|rfl <;> decide
 rw[h1,u8_and_nat z _ hz h2]
theorem qcN(z k:Nat):z &&& (2 ^ k - 1)<2 ^ k:=by
 rw[Nat.and_two_pow_sub_one_eq_mod];exact Nat.mod_lt _ (Nat.two_pow_pos k)
theorem qe8{n:Nat}(zs:List Int):∀x∈zN (cutL n zs),x<2 ^ n:=fun x hx=>by
 unfold zN cutL at hx;rw[List.map_map,List.mem_map]at hx;obtain⟨z,_,rfl⟩:=hx
 show (((z.toNat &&& (2 ^ n - 1):Nat):Int)).toNat<2 ^ n
 rw[Int.toNat_natCast];exact qcN _ _
theorem qgR{P:Program}{T e:TypeId}{q:IntKind}{w:World}{base n:Nat}{v:Value}{zs:List Int}(h:w.ownsRow base e 1 v n (zs.map (Value.int q)))(hu:P.underlying T=some (.slice e))(hs:(P.info? e).map (·.size)=some 1):∃a cap,v=.slice a n cap/\IntSl P T q w a n cap zs:=by
 obtain⟨hl,h⟩:=h;simp at hl
 rcases h with⟨rfl,rfl⟩|⟨g,cap,cur,rfl,hg,hcell,hnc,hcm,hsz,htk⟩
 ·have:zs=[]:=List.eq_nil_of_length_eq_zero hl
  subst this;exact⟨none,0,rfl,⟨rfl,Nat.le_refl _,Nat.zero_le _,fun m k w hk hm=>absurd hk (by omega),fun k hk=>absurd hk (by omega),fun k hk=>absurd hk (by omega),fun _=>rfl⟩⟩
 ·have had:∀k,adOf (some ⟨g,0,none⟩) k=⟨g,k,none⟩:=fun k=>by simp[adOf,qg]
  have hlt:g<w.heap.size:=(aes hcell).1
  refine⟨some ⟨g,0,none⟩,cap,rfl,⟨hl,hnc,hcm,fun m k w hk hm=>qX hu hs (by simp) k w hk,fun k hk=>?_,fun k hk=>by rw[had];exact hlt,by simp⟩⟩
  rw[had]
  have hk2:(cur.toList.take (n*1))[k]? = some (.int q (zs.getD k 0)):=by
   rw[htk];simp[List.getD_eq_getElem?_getD,List.getElem?_eq_getElem (show k<zs.length by omega)]
  rw[List.getElem?_take,if_pos (by omega)]at hk2
  simp[World.cell?,hcell]
  simpa using hk2
theorem AllR.two{ts:List Tk}{zs:List Int}{w w':World}{e:Ending}(h:AllR ts zs w e w'):∃v E,e=.returned (.tuple #[v,.int .i64 E])/\Below w.heap.size w w'/\(E=0->∃bs a c,v=.slice a bs.length c/\BoSl w' a bs.length c bs/\ValB (zN zs) ts bs):=by
 obtain⟨v,E,rfl,hb,h|⟨rfl,_,_,bs,ho,hv⟩⟩:=h
 ·exact⟨v,E,rfl,hb,fun h0=>absurd h0 h.1⟩
 ·obtain⟨a,c,rfl,hB⟩:=qeC ho
  exact⟨_,0,rfl,hb,fun _=>⟨bs,a,c,rfl,hB,hv⟩⟩
theorem NofR.two{k:Nat}{ts:List Tk}{w w':World}{e:Ending}(h:NofR (k:Int) ts w e w'):∃(n':Nat) (aS:Option Addr) (nS cS:Nat) (aT:Option Addr) (nT cT:Nat) (aF:Option Addr) (nF cF:Nat) (aN:Option Addr) (nN cN:Nat) (E:Int),e=.returned (.tuple #[.agg #[.int .i64 (n':Int),.slice aS nS cS,.slice aT nT cT,.slice aF nF cF,.slice aN nN cN],.int .i64 E])/\Below w.heap.size w w' /\
  (E=0->n'=k/\∃T S st fs rows M,NofK k ts T S st fs rows M/\NfAt w' (.slice aS nS cS) (.slice aT nT cT) (.slice aF nF cF) (.slice aN nN cN) S st fs rows):=by
 rcases h with⟨hb,⟨E,h0,rfl,_⟩|⟨T1,S1,st1,fs,rows1,M1,vS,vT,vF,vN,_,hK,rfl,hA⟩⟩
 ·exact⟨0,none,0,0,none,0,0,none,0,0,none,0,0,E,rfl,hb,fun h=>absurd h h0⟩
 ·obtain⟨aS,cS,rfl,-⟩:=hA.s
  obtain⟨aT,cT,hvT,-⟩:=hA.t;subst hvT;obtain⟨aF,cF,rfl,-⟩:=hA.f;obtain⟨aN,cN,us,rfl,-⟩:=hA.nx;rw[Int.toNat_natCast]at hK ⊢;exact⟨k,aS,_,cS,aT,_,cT,aF,_,cF,aN,_,cN,0,rfl,hb,fun _=>⟨rfl,T1,S1,st1,fs,rows1,M1,hK,hA⟩⟩
theorem NofK.acc{n:Nat}{ts:List Tk}{T:Tr}{S st:List Nat}{fs:List Bool}{rows:List (List (List Nat))}{M:Mt}(h:NofK n ts T S st fs rows M){t:List Nat}(ht:∀x∈t,x<2 ^ n):(∃q∈goN (nxR rows) t st,fs.getD q false=true)↔(semTr t T).1 0:=by
 obtain⟨_,_,h3⟩:=qc0 h.kt h.of;obtain⟨l0,hA⟩:=h3 (fun q=>fs.getD q false) h.fin
 exact hA.acc h.kt ht
theorem qbq:(Tryz.prog.info? 25).map (·.size)=some 1:=by kernel_rfl
theorem q7L(n:Int)(a:Option Addr)(la ca:Nat)(xs:List Tk)(d:Option Addr)(m c:Nat)(zs:List Int)(w:World)(hT:Tab64 w)(hA:TkSl w a la ca xs)(hL:LtSl w d m c zs):
  Calls Tryz.prog 3 #[.int .i64 n,.slice a la ca,.slice d m c] w (BR true w):=by
 have HT:Hid (Tab64 w):=hT;have HA:Hid (TkSl w a la ca xs):=hA;have HL:Hid (LtSl w d m c zs):=hL;have HLN:Hid (zs.length=m):=hL.sl.hlen;have j0:=q7K w hT;clear hT hA hL;go_enter Tryz.func3,Tryz.ntmps3
 go_wp2_with fail
 refine j0.mono ?_
 rintro e w0 ⟨rfl,hb⟩
 have HB0:Hid (Below w.heap.size w w0):=hb;clear j0 hb;by_cases c1:n<0
 case pos =>
  have c1b:decide (n<0)=true:=decide_eq_true c1
  go_wp2_with fail
  go_ret
  exact⟨rfl,HB0.out⟩
 have c1b:decide (n<0)=false:=decide_eq_false c1;by_cases c2:3<n
 case pos =>
  have c2b:decide (3<n)=true:=decide_eq_true c2
  go_wp2_with fail
  go_ret
  exact⟨rfl,HB0.out⟩
 have c2b:decide (3<n)=false:=decide_eq_false c2;by_cases c3:(150:Int)<(la:Int)
 case pos =>
  have c3b:decide ((150:Int)<(la:Int))=true:=decide_eq_true c3
  go_wp2_with fail
  go_ret
  exact⟨rfl,HB0.out⟩
 have c3b:decide ((150:Int)<(la:Int))=false:=decide_eq_false c3;by_cases c4:(30:Int)<(m:Int)
 case pos =>
  have c4b:decide ((30:Int)<(m:Int))=true:=decide_eq_true c4
  go_wp2_with fail
  go_ret
  exact⟨rfl,HB0.out⟩
 have c4b:decide ((30:Int)<(m:Int))=false:=decide_eq_false c4;obtain⟨k,rfl⟩:=Int.eq_ofNat_of_zero_le (by omega:0<=n)
 have hk3:k<=3:=by omega
 clear c1 c2;go_wp2
 go_loopw [8,9] (fun v j wr=>∃(i:Nat),i<=m/\j=.int .i64 (i:Int)/\Hid (wr.ownsRow w0.heap.size 25 1 v i (((cutL k zs).take i).map (Value.int .u8)))/\Hid (Below w0.heap.size w0 wr)) (fun _ j _=>m - (intOf j).toNat)
 case atStart=>exact⟨0,Nat.zero_le _,rfl,⟨rfl,Or.inl ⟨rfl,rfl⟩⟩,Below.refl _ _⟩
 case round =>
  obtain⟨i,hi,rfl,HO,HB⟩:=hrel;by_cases hlt:i<m
  ·have hiz:i<zs.length:=by have:=HLN.out;omega
   have hS:=HL.out.sl.up (qd HB0.out HB.out);have hidx:=fun w'=>hS.idx m i w' hlt (Nat.le_refl _)
   have hce:=hS.cell i hlt;have hok:=HL.out.ok zs[i] (List.getElem_mem hiz);have hgd:zs.getD i 0=zs[i]:=by simp[List.getD,hiz]
   rw[hgd]at hce;obtain⟨z,hzx⟩:=Int.eq_ofNat_of_zero_le hok.1;rw[hzx]at hce;obtain⟨av,cv,rfl⟩:=q2m HO.out;generalize adOf d i=ad at *;obtain⟨ga,oa,sa⟩:=ad;have HMK:Hid _:=qgH (z:=z) (k:=k) (by omega) hk3
   have HTK:Hid _:=qgg (n:=k) hiz hzx;have hO8:(wr.alloc (.cells #[.int .u8 (bits BinOp.and IntKind.u8 (z:Int) (IntKind.u8.wrap (IntKind.u8.wrap (2 ^ k) - 1)))] 25)).drew.ownsRow w0.heap.size 25 1 (.slice av i cv) i (((cutL k zs).take i).map (Value.int .u8)):=World.ownsRow.alloc HO.out _;have hc8:(wr.alloc (.cells #[.int .u8 (bits BinOp.and IntKind.u8 (z:Int) (IntKind.u8.wrap (IntKind.u8.wrap (2 ^ k) - 1)))] 25)).drew.cell? ⟨wr.heap.size,0,none⟩=some (.int .u8 (bits BinOp.and IntKind.u8 (z:Int) (IntKind.u8.wrap (IntKind.u8.wrap (2 ^ k) - 1)))):=qb (MapKept.heap_alloc wr _).1 0;have hw0:w0.heap.size<=wr.heap.size:=HB.out.size;clear hS hok hgd hzx;go_wp2
   go_region_law ((refine qcd Tryz.underlying23 qaX rfl (by decide) rfl _ _ rfl w0.heap.size (.slice av i cv) i _ _ wr.heap.size rfl rfl hO8 hc8 rfl (by omega) (by simp;omega) ?_;intro v5 w5 hown5 hgr5 hloc5;obtain⟨a5,k5,rfl⟩:=qE hown5))
   all_goals
    have HO5:Hid (w5.ownsRow w0.heap.size 25 1 (.slice a5 (i+1) k5) (i+1) (((cutL k zs).take (i+1)).map (Value.int .u8))):=by
     show _
     rw[HTK.out,List.map_append];have h5:=hown5;rw[HMK.out]at h5;exact h5
    have HB5:Hid (Below w0.heap.size w0 w5):=by
     have h1:=HB.out.trans ((qc wr (.cells #[.int .u8 (bits BinOp.and IntKind.u8 (z:Int) (IntKind.u8.wrap (IntKind.u8.wrap (2 ^ k) - 1)))] 25)).mono hw0);exact h1.drew.grown hgr5 (by simp;omega) (fun j hj=>q1Q hO8 j hj)
    clear hO8 hc8 hown5 hgr5 hloc5 hce hidx;go_wp2
    go_roundw
    case rel=>exact⟨i+1,by omega,by go_num,HO5,HB5⟩
    case measure=>simp[intOf] <;> omega
  ·obtain rfl:i=m:=by omega
   have hfull:(cutL k zs).take i=cutL k zs:=List.take_of_length_le (by simp[cutL,HLN.out])
   have ho:=HO.out;rw[hfull]at ho;obtain⟨a8,c8,rfl,hS8⟩:=qgR (P:=Tryz.prog) ho Tryz.underlying23 qbq;have hsm:∀x∈zN (cutL k zs),x<2 ^ k:=qe8 zs;have hpw:2 ^ k<=8:=Nat.pow_le_pow_right (n:=2) (by decide) hk3
   have HL8:Hid (LtSl wr a8 i c8 (cutL k zs)):=⟨hS8,fun z hz=>by
    have h0:0<=z:=by
     unfold cutL at hz;obtain⟨y,_,rfl⟩:=List.mem_map.1 hz
     omega
    have:=hsm z.toNat (List.mem_map.2 ⟨z,hz,rfl⟩)
    omega⟩
   have HSM:Hid _:=hsm;have hbw:=qd HB0.out HB.out;have HBW:Hid _:=hbw;have jo:=q6d (k:Int) a la ca xs wr (HA.out.up hbw) (HT.out.up hbw);clear hfull ho hS8 hsm hpw hbw HO HB HL HT
   go_wp2_with fail
   refine jo.mono ?_
   intro e w2 hq;obtain⟨n',aS,nS,cS,aT,nT,cT,aF,nF,cF,aN,nN,cN,E,rfl,hb2,hE⟩:=hq.two;have HE:Hid _:=hE;obtain⟨w3,hw3⟩:∃w3,w3=w2.alloc (.cells #[.int .i64 (n':Int),.slice aS nS cS,.slice aT nT cT,.slice aF nF cF,.slice aN nN cN] 31 (0,0)):=⟨_,rfl⟩
   have b3:Below w2.heap.size w2 w3:=by rw[hw3];exact qc _ _
   have nb3:NfB w3 w2.heap.size n' aS nS cS aT nT cT aF nF cF aN nN cN:=by rw[hw3];exact q2H w2 n' aS nS cS aT nT cT aF nF cF aN nN cN
   have hb23:=qd hb2 b3;have HB3:Hid _:=qd HBW.out hb23;have HBX:Hid _:=hb23;have HB23:Hid _:=b3;have ja:=qao a la ca xs a8 i c8 (cutL k zs) w3 (HA.out.up HB3.out) (HL8.out.up hb23);have HNB:Hid _:=nb3;have HW3:Hid _:=hw3;clear jo hq hE hw3 b3 nb3 hb2 hb23
   go_wp2_with fail
   rw[<- HW3.out];refine ja.mono ?_
   intro e w5 hq;obtain⟨v5,E5,rfl,hb5,hM⟩:=hq.two;have HM:Hid _:=hM;have HB5:Hid _:=qd HB3.out hb5;have HB35:Hid _:=hb5;clear ja hq hM hb5;by_cases dE:E=0
   case neg =>
    have dE':((E:Int) != 0)=true:=by simpa using dE
    go_wp2_with fail
    go_ret
    exact⟨rfl,HB5.out⟩
   subst dE;by_cases d5:E5=0
   case neg =>
    have d5':((E5:Int) != 0)=true:=by simpa using d5
    go_wp2_with fail
    go_ret
    exact⟨rfl,HB5.out⟩
   subst d5;obtain⟨rfl,T,S,st,fs,rows,M,hK,hN⟩:=HE.out rfl;obtain⟨bs,ab,cb,rfl,hBo,hV⟩:=HM.out rfl;have hcl:(cutL n' zs).length=i:=by simp[cutL,HLN.out]
   rw[hK.fl]at hV;obtain⟨hbl,hbv⟩:=qg6 hK.kt.wf hV;rw[qz,hcl]at hbl;have hN5:=(hN.up HB23.out).up HB35.out;have HN5:Hid _:=hN5;have HOK:Hid _:=hK.ok;have HACC:Hid _:=hK.acc HSM.out;have j6:=q2u n' _ _ _ _ S st fs rows a8 i c8 (cutL n' zs) w5 hN5 hK.ok ((HL8.out.up HBX.out).up HB35.out) (by omega) HSM.out
   have hb0l:0<bs.length:=by omega
   have hbv0:=hbv 0 hb0l;obtain⟨hz1,hz2⟩:=hBo.at 0 hb0l;have hiz:∀w',(Instr.indexAt 28 (.slice ab (i+1) cb) (.int .i64 0)).run Tryz.prog w'=.ok (.pointer (some (adOf ab 0))) w':=fun w'=>hz1 (i+1) w' (by omega)
   obtain⟨b0,hb0⟩:∃b0,b0=bs[0]:=⟨_,rfl⟩
   rw[<- hb0]at hz2 hbv0;have HV0:Hid _:=hbv0;have HZ2:Hid _:=hz2;rw[hbl];have HCK:Hid (∀w',Below w5.heap.size w5 w'->Calls Tryz.prog 9 #[.agg #[.int .i64 (n':Int),.slice aS nS cS,.slice aT nT cT,.slice aF nF cF,.slice aN nN cN]] w' fun e w2=>e=.returned (.int .i64 0)/\Below w'.heap.size w' w2):=fun w' hb=>q3W n' _ _ _ _ S st fs rows w' (HN5.out.up hb) HOK.out
   have hlen:(((i+1:Nat):Int) == (i:Int)+1)=true:=by simp
   have HNB5:Hid _:=HNB.out.up HB35.out;obtain⟨e0,e1,e2,e3,e4⟩:=HNB5.out;clear hN hN5 hK hBo hV hbl hbv hz1 hz2 hbv0 hb0 hb0l hcl HE HM HA HL8 HSM HBW HB3 HBX HB23 HNB HOK HN5 HB35 HLN;unfold nfV at j6;generalize adOf ab 0=ad at *;obtain⟨ga,oa,sa⟩:=ad
   go_wp2_with fail
   refine j6.mono ?_
   rintro e w6 ⟨b6,rfl,hb6,hbl6⟩
   have hbb:b6=b0:=Bool.eq_iff_iff.2 (hb6.trans (HACC.out.trans HV0.out.symm));subst hbb;have jk:=HCK.out w6 hbl6;obtain⟨f0,f1,f2,f3,f4⟩:=HNB5.out.up hbl6;have hz6:=qp HZ2.out hbl6;have HZ6:Hid _:=hz6;have HB6:Hid _:=qd HB5.out hbl6;clear j6 hb6 hbl6 HCK HZ2 HNB5 HACC HV0 e0 e1 e2 e3 e4 hz6
   go_wp2_with fail
   refine jk.mono ?_
   rintro e w7 ⟨rfl,hb7⟩
   have hz7:=qp HZ6.out hb7;have HB7:Hid _:=qd HB6.out hb7;clear jk hb7 f0 f1 f2 f3 f4;go_wp2;go_ret
   exact⟨by simp,HB7.out⟩
end Go.Proofs.YtekeaodpdcnfjaaGreatDoor
