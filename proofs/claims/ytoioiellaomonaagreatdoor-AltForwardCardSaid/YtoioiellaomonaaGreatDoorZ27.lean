import Derived.Lib.AppendZerosOnto
import Derived.Deep.DeepCutAuto
import Derived.Test.YtoioiellaomonaaGreatDoorZ03
import Derived.Test.YtoioiellaomonaaGreatDoorZ06
import Derived.Test.YtoioiellaomonaaGreatDoorZ11
import Derived.Test.YtoioiellaomonaaGreatDoorZ20
import Derived.Test.YtoioiellaomonaaGreatDoorZ21
import Derived.Test.YtoioiellaomonaaGreatDoorZ26
set_option maxRecDepth 100000
set_option maxHeartbeats 16000000
namespace Go.Proofs.YtoioiellaomonaaGreatDoor
open Go.RowKit Go.Maps Proofs.Tryz
variable {T:Tr}{t l0 l L cur:List Nat}{M:Mt}{ts:List Tk}{zs:List Int}{q a la:Option Addr}{d p g i x c base n cap len lc:Nat}{w w1 w' wr:World}{F F':Nat->Prop}{rs:List gX}{r:gX}{vs:List Value}{X:List Nat->Mt->Prop}{E:Int}{vb:Value}{R:Option (List (List Nat))}
def vs0:List Value:=List.replicate 256 (.slice none 0 0)
theorem qhX:vs0.length=256:=List.length_replicate
theorem bN(x:Nat):pR vs0 x=.slice none 0 0:=by
 unfold pR vs0;rw[List.getD_eq_getElem?_getD,List.getElem?_replicate]
 split<;>rfl
theorem qbp:zeroCells58=(Value.pointer none::List.replicate 256 (Value.slice none 0 0)).toArray:=by kernel_rfl
theorem qbo(p:Nat):zeroCells58.setIfInBounds 0 (.pointer (some ⟨p,0,none⟩))=KR p vs0:=by
 rw[qbp,List.setIfInBounds_toArray]
 rfl
def bO(w:World)(ts:List Tk)(zs:List Int)(e:Ending)(w':World):Prop:=Below w.heap.size w w'/\((xu ts zs≠0/\e=.returned (.tuple #[.pointer none,.int .i64 (xu ts zs)])) \/
 (xu ts zs=0/\∃T,KT T/\ts=T.flat/\((eU T (zN zs)=none/\e=.returned (.tuple #[.pointer none,.int .i64 9])) \/
  ∃l0 M c p q d F vs Ls,eU T (zN zs)=some (l0,M)/\e=.returned (.tuple #[.pointer (some ⟨c,0,none⟩),.int .i64 0])/\oC T q d w w' F c p l0 M vs Ls/\∀y,y<256->y∈zN zs->(Ls y).length=M.length)))
theorem x4(h:aH T []=some (l0,M)):eU T t=(dF aV (bP t) 64 0 M).map fun M'=>(l0,M'):=by
 unfold eU;rw[h]
theorem qeG(h:aH T []=none):eU T t=none:=by
 unfold eU;rw[h]
theorem x5(h:xu ts zs=0):bM ts=0/\wU zs=0:=by
 unfold xu at h;by_cases hc:bM ts=0
 ·rw[if_neg (by omega)]at h;exact⟨hc,h⟩
 ·rw[if_pos hc]at h;omega
theorem Ef(h:∀z∈zs,0<=z/\z<256):∀x∈zN zs,x<256:=fun x hx=>by
 unfold zN at hx;obtain⟨z,hz,rfl⟩:=List.mem_map.1 hx;have:=h z hz
 omega
theorem qi3{aj:List It}(hp:oV w1 F p l0 M T q d aj)(hb:Below w.heap.size w w1)(hF:∀k,F k->w.heap.size<=k)(hT:fK w):
  oC T q d w (w1.alloc (.cells (KR p vs0) 58)) F w1.heap.size p l0 M vs0 (fun _=>[]):=by
 have hbn:=qd w1 (.cells (KR p vs0) 58);have hlt:=hp.o.lt;refine⟨⟨⟨aj,hp.o.up hbn,hp.u.up hbn,hp.l,hp.g⟩,(MapKept.heap_alloc w1 _).1,qhX,fun x hx=>?_,fun x y k hx hy hne hk=>?_,fun k hk=>hp.u.sl.blk k hk,fun k hk=>⟨fun e=>by have:=hlt k hk;omega,fun x hx e=>?_⟩,fun x hx r hr=>(by cases hr),fun x hx k r hr=>(by simp at hr)⟩,hF,hb.size,qe hb hbn,hT⟩
 ·rw[bN];exact⟨rfl,Or.inl ⟨rfl,rfl⟩⟩
 ·rw[bN]at hk;cases hk
 ·rw[bN]at e;cases e
theorem q67(a:Option Addr)(len cap:Nat)(ts:List Tk)(b:Option Addr)(m c:Nat)(zs:List Int)(w:World)(hS:bG w a len cap ts)(hL:lX w b m c zs)(hT:fK w):
  Calls prog 13 #[.slice a len cap,.slice b m c] w (bO w ts zs):=by
 have jc:=q7X a len cap ts b m c zs w hS hL;obtain⟨Q,hQ⟩:∃Q:Ending->World->Prop,Q=bO w ts zs:=⟨_,rfl⟩
 have HQ:Hid (∀e w',bO w ts zs e w'->Q e w'):=fun e w' h=>by rw[hQ];exact h
 rw[<-hQ];have HS:Hid _:=hS;have HL:Hid _:=hL;have HT:Hid _:=hT;obtain⟨E,hE⟩:∃E,E=xu ts zs:=⟨_,rfl⟩
 rw[<-hE]at jc;have HE:Hid _:=hE;clear hS hL hT hQ hE;by_cases h0:E=0
 ·go_enter func13,ntmps13
  subst h0
  go_wp2_with fail
  refine jc.mono ?_
  rintro e w1 ⟨rfl,hb1⟩
  have jn:=qaJ a len cap ts w1 (HS.out.up hb1);have HB1:Hid _:=hb1;obtain⟨hc0,ht0⟩:=x5 HE.out.symm;have JJ:Hid _:=hc0;clear jc hb1 hc0 ht0
  go_wp2_with fail
  refine jn.mono ?_
  rintro e w2 ⟨hb2,⟨hc,_⟩|⟨T,kT,hts,_,⟨hn,rfl⟩|⟨l0,M,p,F,q,d,aj,hn,rfl,hO,hU,hF⟩⟩⟩
  ·exact absurd JJ.out hc
  ·have HR:Hid (Q (.returned (.tuple #[.pointer none,.int .i64 9])) w2):=HQ.out _ _ ⟨qe HB1.out hb2,Or.inr ⟨HE.out.symm,T,kT,hts,Or.inl ⟨qeG hn,rfl⟩⟩⟩
   clear jn hb2 kT hts hn;go_wp2;exact HR.out
  ·have htl:=World.block_lt_of_cell? _ _ (HT.out 0 (by decide))
   have hg2:∀k,F k->w.heap.size<=k:=fun k hk=>Nat.le_trans HB1.out.size (hF k hk)
   have hp:oV w2 F p l0 M T q d aj:=⟨hO,hU,⟨yU (xI T WA kT hn).1.bd hO.few,G5 T hn⟩,fun e=>Nat.lt_irrefl _ (Nat.lt_of_lt_of_le htl (hg2 _ e))⟩
   have hcl:=qi3 hp (qe HB1.out hb2) hg2 HT.out;have jl:=q66 b m c zs _ (HL.out.up hcl.bel);have dL:Hid _:=hcl;have HZ:Hid _:=Ef HL.out.ok
   have iy:Hid (∀e w',Vk T q d w w2.heap.size p l0 (zN zs) (dF aV (bP (zN zs)) 64 0 M) e w'->(e=.returned (.int .i64 9)/\Q (.returned (.tuple #[.pointer none,.int .i64 9])) w')\/(e=.returned (.int .i64 0)/\Q (.returned (.tuple #[.pointer (some ⟨w2.heap.size,0,none⟩),.int .i64 0])) w')):=fun e w' h=>by
    rcases h with⟨h1,h2,h3⟩|⟨M',F',vs',Vl,h1,h2,h3,h4⟩
    ·exact Or.inl ⟨h2,HQ.out _ _ ⟨h3,Or.inr ⟨HE.out.symm,T,kT,hts,Or.inl ⟨by rw[x4 hn,h1];rfl,rfl⟩⟩⟩⟩
    ·exact Or.inr ⟨h2,HQ.out _ _ ⟨h3.bel,Or.inr ⟨HE.out.symm,T,kT,hts,Or.inr ⟨l0,M',_,p,q,d,F',vs',Vl,by rw[x4 hn,h1];rfl,rfl,h3,h4⟩⟩⟩⟩
   clear jn hb2 kT hts hn hO hU hF htl hg2 hp hcl;unfold P7
   go_wp2_with fail
   rw[qbo];generalize KR p vs0=CA at *;refine jl.mono ?_
   rintro e w3 ⟨rfl,hb3⟩
   have jg:=q5Z (dL.out.up hb3) (zN zs) HZ.out;clear jl hb3;generalize stB (zN zs)=SB at *
   go_wp2_with fail
   refine jg.mono ?_
   intro e w4 hq;rcases iy.out e w4 hq with⟨rfl,h2⟩|⟨rfl,h2⟩
   ·have HR:Hid _:=h2
    clear hq h2 jg;go_wp2;exact HR.out
   ·have HR:Hid _:=h2
    clear hq h2 jg;go_wp2;exact HR.out
 ·have hne:(E != 0)=true:=by simp;exact h0
  have H0:Hid _:=h0;go_enter func13,ntmps13
  go_wp2_with fail
  refine jc.mono ?_
  rintro e w1 ⟨rfl,hb1⟩
  have HR:Hid (Q (.returned (.tuple #[.pointer none,.int .i64 E])) w1):=HQ.out _ _ ⟨hb1,Or.inl ⟨by rw[<-HE.out];exact H0.out,by rw[HE.out]⟩⟩
  clear jc hb1;go_wp2;exact HR.out
def uM(w:World)(g:Nat)(rs:List gX):Prop:=w.heap[g]? =some (.cells (rs.map oq).toArray 36 (0,0))
theorem uM.lt(h:uM w g rs):g<w.heap.size:=(lC h).1
theorem uM.cell(h:uM w g rs)(hi:rs[i]? =some r):w.cell? ⟨g,i,none⟩=some (.slice r.a r.len r.cap):=by
 unfold uM at h;rw[qc h i];simp[hi,oq]
theorem uM.fz(h:uM w g rs)(i:Nat):w.frozen? ⟨g,i,none⟩=false:=frozen_of_row w g i _ _ h
theorem uM.set(h:uM w g rs)(i:Nat)(r:gX):uM (w.setCell ⟨g,i,none⟩ (.slice r.a r.len r.cap)) g (rs.set i r):=by
 unfold uM at h ⊢;rw[heap_setCell_same w g i _ _ _ h]
 congr 2
 simp[oq]
theorem x6:(prog.info? 36).map (·.size)=some 1:=by kernel_rfl
theorem x7(g n i:Nat)(hi:i<n)(w:World):(Instr.indexAt 27 (.slice (some ⟨g,0,none⟩) n n) (.int .i64 i)).run prog w=.ok (.pointer (some ⟨g,i,none⟩)) w:=by
 simp[Instr.indexAt,run_underlying underlying27,asIntOf,qU x6,hi,Result.andThen,go_sem,qi]
def Eh:gX:=⟨none,0,0,[]⟩
theorem qif(n:Nat):madeCells #[.slice none 0 0] n=Array.replicate n (Value.slice none 0 0):=by
 unfold madeCells
 apply Array.ext
 ·simp
 ·intro i h1 h2
  simp[Nat.mod_one]
theorem qdy(l:Nat)(hb:l<=100000)(w:World):
  (Instr.makeSlice 27 (.int .i64 l) (.int .i64 l)).run prog w=.ok (.slice (some ⟨w.heap.size,0,none⟩) l l) (w.alloc (.cells (Array.replicate l (Value.slice none 0 0)) 36)):=by
 obtain⟨i,hi,hz0,hz1,hz2⟩:=info_parts uB;have:=run_make (P:=prog) w 27 36 i (.slice none 0 0) underlying27 hi hz0 .i64 .i64 (l:Int) (l:Int) (by omega) (by omega) (by rw[hz2];omega) (by omega)
 rw[this,hz1];simp only[Int.toNat_natCast,Nat.mul_one]
 have e:(Value.slice none 0 0).cells=#[.slice none 0 0]:=rfl;rw[e,qif]
theorem uM.made(w:World)(l:Nat):uM (w.alloc (.cells (Array.replicate l (Value.slice none 0 0)) 36)) w.heap.size (List.replicate l Eh):=by
 unfold uM;rw[(MapKept.heap_alloc w _).1];simp[oq,Eh]
structure GI(w:World)(F:Nat->Prop)(g:Nat)(r:gX):Prop where
 us:US w F r.a r.len r.cap r.ts
 ap:∀k,k<r.len->(aG r.a k).block≠g
 uf:zo w r.a r.len
structure GK(T0:Tr)(q:Option Addr)(d:Nat)(w0:World)(c p:Nat)(l0:List Nat)(M:Mt)(vs:List Value)(Ls:Nat->List gX)(t:List Nat)(R:Option (List (List Nat)))(g k:Nat)(w:World)(F:Nat->Prop)(rs:List gX):Prop where
 s:oC T0 q d w0 w F c p l0 M vs Ls
 row:uM w g rs
 len:rs.length=t.length+1
 ng:¬F g
 gc:c<g
 Vu:∀y,y<256->(pR vs y).ownBlock≠some g
 lg:∀y,y<256->∀r∈Ls y,∀j,j<r.len->(aG r.a j).block≠g
 nw:∀(j:Nat)(r:gX),j<=k->rs[j]? =some r->∀i,i<r.len->c<(aG r.a i).block
 dj:∀(i j:Nat)(r s:gX),i<j->j<=k->rs[i]? =some r->rs[j]? =some s->∀x y,x<r.len->y<s.len->(aG r.a x).block≠(aG s.a y).block
 all:∀(j:Nat)(r:gX),j<=k->rs[j]? =some r->GI w F g r
 now:∃r,rs[k]? =some r/\r.ts.length<=1024/\jJ r.ts M.length/\R=(gJ M r.ts (t.drop k)).map fun tl=>(rs.take k).map (·.ts)++tl
section
variable {T0:Tr}{q:Option Addr}{d:Nat}{w0 w w':World}{F F':Nat->Prop}{c p:Nat}{l0:List Nat}{M:Mt}{vs:List Value}{Ls:Nat->List gX}{t:List Nat}{R:Option (List (List Nat))}{g k:Nat}{rs:List gX}
theorem GI.fr{r:gX}(h:GI w F g r)(fr:Fr w w' F F'):GI w' F' g r:=⟨h.us.fr fr,h.ap,h.uf.far fun k hk=>fr.keep _ (h.us.sl.blk k hk) (h.us.nf k hk)⟩
theorem oC.row(h:oC T0 q d w0 w F c p l0 M vs Ls)(ng:¬F g)(gc:c<g)(Vu:∀y,y<256->(pR vs y).ownBlock≠some g)(hl:∀y,y<256->∀r∈Ls y,∀j,j<r.len->(aG r.a j).block≠g)(j:Nat)(v:Value):oC T0 q d w0 (w.setCell ⟨g,j,none⟩ v) F c p l0 M vs Ls:=by
 have st:∀k,k≠g->(w.setCell ⟨g,j,none⟩ v).heap[k]? =w.heap[k]? := fun k hk=>Below.heap_setCell _ _ _ _ hk
 have hsz:w.heap.size<=(w.setCell ⟨g,j,none⟩ v).heap.size:=by simp
 obtain⟨aj,hp⟩:=h.o.EO;refine⟨⟨⟨aj,hp.far hsz (fun k hk=>st k fun e=>ng (e ▸ hk)) (fun k hk=>st _ fun e=>by have:=h.o.sb k hk;omega)⟩,(st c (by omega)).trans h.o.blk,h.o.vl,fun x hx=>qz (h.o.row x hx) fun k hk=>st k fun e=>Vu x hx (e ▸ hk),h.o.Nq,h.o.sb,h.o.nc,fun x hx r hr=>⟨(h.o.lst x hx r hr).us.same hsz (fun k hk=>st _ (hl x hx r hr k hk)) (h.o.lst x hx r hr).us.nf,(h.o.lst x hx r hr).ap⟩,h.o.dn⟩,h.ge,h.gc,?_,h.tab⟩
 exact IQ h.bel _ _ (Nat.le_trans h.gc (Nat.le_of_lt gc))
theorem GI.set(h:GI w F g r)(j:Nat)(v:Value):GI (w.setCell ⟨g,j,none⟩ v) F g r :=
 ⟨h.us.same (by simp) (fun k hk=>Below.heap_setCell _ _ _ _ (h.ap k hk)) h.us.nf,h.ap,h.uf.far fun k hk=>Below.heap_setCell _ _ _ _ (h.ap k hk)⟩
theorem GK.next{r2:gX}(h:GK T0 q d w0 c p l0 M vs Ls t R g k w F rs)(hx:t[k]? =some x)(hP:∃aj,oV w' F' p l0 M T0 q d aj)(fr:Fr w w' F F')(hU:US w' F' r2.a r2.len r2.cap r2.ts)(hnw:∀j,j<r2.len->w.heap.size<=(aG r2.a j).block)(bR:zo w' r2.a r2.len)
  (hs:∀r,rs[k]? =some r->stepM aV x r.ts [] M=some (r2.ts,M)):
  GK T0 q d w0 c p l0 M vs Ls t R g (k+1) (w'.setCell ⟨g,k+1,none⟩ (.slice r2.a r2.len r2.cap)) F' (rs.set (k+1) r2):=by
 have hkt:k<t.length:=(List.getElem?_eq_some_iff.1 hx).1
 have hgl:=h.row.lt;have x8:=fr.out h.ng hgl;have row':uM w' g rs:=(fr.keep g hgl h.ng).trans h.row;obtain⟨r,hr,hl,hb,hR⟩:=h.now;have hst:=hs r hr;have hk1:k+1<rs.length:=by rw[h.len];omega
 refine⟨(h.s.fr hP fr (List.prefix_refl _)).row x8 h.gc h.Vu h.lg _ _,row'.set (k+1) r2,by simp[h.len],x8,h.gc,h.Vu,h.lg,fun j r3 hj hr3 i hi=>?_,fun i j r4 r5 hij hj hr4 Ny x2 y2 hx2 hy2=>?_,fun j r3 hj hr3=>?_,r2,by rw[List.getElem?_set_self hk1],fx aV x r.ts [] (by simp) hst,(Ub h.s.good hb hst).1.bd,?_⟩
 ·by_cases e:j=k+1
  ·subst e
   rw[List.getElem?_set_self hk1]at hr3;injection hr3 with hr3;subst hr3;have:=hnw i hi
   have:=h.s.o.IV
   omega
  ·rw[List.getElem?_set_ne (fun h=>e h.symm)]at hr3
   exact h.nw j r3 (by omega) hr3 i hi
 ·have e1:¬k+1=i:=by omega
  rw[List.getElem?_set_ne e1]at hr4;by_cases e:j=k+1
  ·subst e
   rw[List.getElem?_set_self hk1]at Ny;injection Ny with Ny;subst Ny;have h1:=hnw y2 hy2;have h2:=(h.all i r4 (by omega) hr4).us.sl.blk x2 hx2
   omega
  ·rw[List.getElem?_set_ne (fun h=>e h.symm)]at Ny
   exact h.dj i j r4 r5 hij (by omega) hr4 Ny x2 y2 hx2 hy2
 ·refine GI.set ?_ _ _
  by_cases e:j=k+1
  ·subst e
   rw[List.getElem?_set_self hk1]at hr3;injection hr3 with hr3;subst hr3;exact⟨hU,fun j hj e=>by have:=hnw j hj;omega,bR⟩
  ·rw[List.getElem?_set_ne (fun h=>e h.symm)]at hr3
   exact(h.all j r3 (by omega) hr3).fr fr
 ·have hd:t.drop k=x::t.drop (k+1):=by
   obtain⟨h1,h2⟩:=List.getElem?_eq_some_iff.1 hx;rw[List.drop_eq_getElem_cons h1,h2]
  rw[hR,hd,gJ,hst];have hkl:k<rs.length:=by omega
  have ht:(rs.set (k+1) r2).take (k+1)=rs.take k++[r]:=by
   rw[List.take_set_of_le bZ,List.take_add_one,hr]
   rfl
  rw[ht]
  show Option.map _ ((gJ M r2.ts (t.drop (k+1))).map (r.ts :: ·))=_
  cases gJ M r2.ts (t.drop (k+1)) with
  |none=>rfl
  |some tl=>simp
theorem GK.fin(h:GK T0 q d w0 c p l0 M vs Ls t R g t.length w F rs):R=some (rs.map (·.ts)):=by
 obtain⟨r,hr,_,_,hR⟩:=h.now;rw[hR,List.drop_length,gJ]
 have:rs=rs.take t.length++[r]:=by
  have h1:rs.take (t.length+1)=rs:=List.take_of_length_le (by rw[h.len];omega)
  rw[List.take_add_one,hr]at h1;exact h1.symm
 simp only[Option.map_some,Option.some.injEq]
 conv=>rhs;rw[this]
 simp
end
def Vw(T0:Tr)(q:Option Addr)(d:Nat)(w0:World)(c p:Nat)(l0:List Nat)(M:Mt)(vs:List Value)(Ls:Nat->List gX)(t:List Nat)(R:Option (List (List Nat)))(e:Ending)(w':World):Prop :=
 (R=none/\e=.returned (.tuple #[.slice none 0 0,.int .i64 9])/\Below w0.heap.size w0 w') \/
 ∃rs g F',R=some (rs.map (·.ts))/\e=.returned (.tuple #[.slice (some ⟨g,0,none⟩) (t.length+1) (t.length+1),.int .i64 0])/\GK T0 q d w0 c p l0 M vs Ls t R g t.length w' F' rs
theorem yd{T0:Tr}{w0:World}{Ls:Nat->List gX}(h:oC T0 q d w0 w F c p l0 M vs Ls)(b:Option Addr)(m cc:Nat)(zs:List Int)(hL:lX w0 b m cc zs)(hm:m<=1024)(hC:Closed aV (bP (zN zs)) M)(hbd:jJ l0 M.length):
  Calls prog 14 #[.pointer (some ⟨c,0,none⟩),.slice b m cc] w (Vw T0 q d w0 c p l0 M vs Ls (zN zs) (gJ M l0 (zN zs))):=by
 have hlen:=hL.sl.hlen;obtain⟨t,ht⟩:∃t,t=zN zs:=⟨_,rfl⟩
 have htl:t.length=m:=by rw[ht,H9];exact hlen
 rw[<-ht];obtain⟨R,hR⟩:∃R,R=gJ M l0 t:=⟨_,rfl⟩
 rw[<-hR];obtain⟨Q,hQ⟩:∃Q:Ending->World->Prop,Q=Vw T0 q d w0 c p l0 M vs Ls t R:=⟨_,rfl⟩
 have HQ:Hid (∀e w',Vw T0 q d w0 c p l0 M vs Ls t R e w'->Q e w'):=fun e w' h=>by rw[hQ];exact h
 rw[<-hQ];have hmk:(Instr.makeSlice 27 (.int .i64 ((m:Int)+1)) (.int .i64 ((m:Int)+1))).run prog w=.ok (.slice (some ⟨w.heap.size,0,none⟩) (m+1) (m+1)) (w.alloc (.cells (Array.replicate (m+1) (Value.slice none 0 0)) 36)):=qdy (m+1) (by omega) w
 have hb1:=qd w (.cells (Array.replicate (m+1) (Value.slice none 0 0)) 36);have h1:=h.up hb1;obtain⟨aj,hp⟩:=h1.o.EO;have Lm:=q8h hp.o hp.u hp.l.few;have c0:(w.alloc (.cells (Array.replicate (m+1) (Value.slice none 0 0)) 36)).cell? ⟨c,0,none⟩=some (.pointer (some ⟨p,0,none⟩)):=h1.o.c0;have wY:Hid (∀i:Nat,i<m+1->∀w',(Instr.indexAt 27 (.slice (some ⟨w.heap.size,0,none⟩) (m+1) (m+1)) (.int .i64 i)).run prog w'=.ok (.pointer (some ⟨w.heap.size,i,none⟩)) w'):=fun i hi w'=>x7 w.heap.size (m+1) i hi w'
 have hi0:∀w',(Instr.indexAt 27 (.slice (some ⟨w.heap.size,0,none⟩) (m+1) (m+1)) (.int .i64 0)).run prog w'=.ok (.pointer (some ⟨w.heap.size,0,none⟩)) w':=fun w'=>wY.out 0 (by omega) w'
 have HST:Hid (∀e w',Dj l0 (w.alloc (.cells (Array.replicate (m+1) (Value.slice none 0 0)) 36)) e w'->∃a0 k0,e=.returned (.slice a0 l0.length k0)/\w'.cell? ⟨w.heap.size,0,none⟩=some (.slice none 0 0)/\w'.frozen? ⟨w.heap.size,0,none⟩=false/\∃rs,GK T0 q d w0 c p l0 M vs Ls t R w.heap.size 0 (w'.setCell ⟨w.heap.size,0,none⟩ (.slice a0 l0.length k0)) F rs):=fun e w' hc=>by
  obtain⟨hbw,a0,k0,he,hU⟩:=qi4 hp.o.lt hc
  have hnew:∀j,j<l0.length->(aG a0 j).block≠w.heap.size:=fun j hj e2=>by
   rcases hc.2 with⟨e3,_⟩|⟨G,t3,_,e3,_⟩
   ·rw[e3]at hj;simp at hj
   ·rw[he]at e3
    injection e3 with e3;injection e3 with e4 _ _;rw[e4]at e2;simp[aG,qi]at e2
    try omega
  have hrow:uM w' w.heap.size (List.replicate (m+1) Eh):=(hbw.block _ (by simp)).trans (uM.made w (m+1))
  have hcl:=h1.up hbw;have QI:¬F w.heap.size:=fun e=>Nat.lt_irrefl _ (h.flt _ e)
  have hgc:c<w.heap.size:=h.o.IV;have Tt:∀y,y<256->(pR vs y).ownBlock≠some w.heap.size:=fun y hy e=>Nat.lt_irrefl _ (h.o.KW hy e)
  have ye:∀y,y<256->∀r∈Ls y,∀j,j<r.len->(aG r.a j).block≠w.heap.size:=fun y hy r hr j hj e=>by
   have:=(h.o.lst y hy r hr).us.sl.blk j hj
   omega
  refine⟨a0,k0,he,hrow.cell (i:=0) (r:=Eh) (by simp),hrow.fz 0,(List.replicate (m+1) Eh).set 0 ⟨a0,l0.length,k0,l0⟩,hcl.row QI hgc Tt ye _ _,hrow.set 0 ⟨a0,l0.length,k0,l0⟩,by simp[htl],QI,hgc,Tt,ye,fun j r hj hr i hi=>?_,fun i j r r' hij hj=>absurd hij (by omega),fun j r hj hr=>?_,⟨a0,l0.length,k0,l0⟩,by simp,hp.l.few,hbd,by rw[hR];simp⟩
  ·obtain rfl:j=0:=by omega
   rw[List.getElem?_set_self (by simp)]at hr
   injection hr with hr;subst hr;rcases hc.2 with⟨e3,_⟩|⟨G,t3,_,e3,_⟩
   ·rw[e3]at hi;simp at hi
   ·rw[he]at e3
    injection e3 with e3;injection e3 with e4 _ _;rw[e4];simp[aG,qi]
    try omega
  ·obtain rfl:j=0:=by omega
   rw[List.getElem?_set_self (by simp)]at hr
   injection hr with hr;subst hr;refine GI.set ⟨hU,hnew,?_⟩ _ _
   rcases hc.2 with⟨e3,_⟩|⟨G,t3,_,e3,hso,_⟩
   ·exact fun k hk=>by rw[e3]at hk;simp at hk
   ·rw[he]at e3
    injection e3 with e3;injection e3 with e4 _ _;subst e4;intro k _
    show World.frozen? _ (aG (some ⟨_,0,none⟩) k)=false
    rw[show aG (some ⟨(w.alloc (.cells (Array.replicate (m+1) (Value.slice none 0 0)) 36)).heap.size+1,0,none⟩) k=⟨(w.alloc (.cells (Array.replicate (m+1) (Value.slice none 0 0)) 36)).heap.size+1,k,none⟩ by simp[aG,qi]]
    exact frozen_of_row _ _ k _ _ hso
 have HL:Hid _:=hL;have HC:Hid (Closed aV (bP t) M):=by rw[ht];exact hC
 have KF:=aX ht;have Ac:=aX htl;have Tq:=aX hlen;clear h h1 hb1 hp hL hC hbd hlen ht htl hR hQ;generalize l0.length=L0 at *;go_enter func14,ntmps14
 go_wp2_with fail
 refine Lm.mono ?_
 intro e w2 hq;obtain⟨a0,k0,rfl,cg,zg,rs0,yf⟩:=HST.out e w2 hq;have rW:Hid _:=yf;clear Lm hq yf HST c0 hmk;go_wp2
 go_loopw [24] (fun i wr=>∃(k:Nat) (Fj:Nat->Prop) (rs:List gX),k<=m/\i=.int .i64 k/\Hid (GK T0 q d w0 c p l0 M vs Ls t R w.heap.size k wr Fj rs)) (fun i _=>m-(intOf i).toNat)
 case atStart=>exact⟨0,F,rs0,Nat.zero_le _,rfl,rW⟩
 case round=>
  clear rW cg zg hi0;obtain⟨k,Fj,rs,hk,rfl,HF⟩:=hrel;by_cases hlt:k<m
  ·have hkz:k<zs.length:=by have:=Tq.out;omega
   have hS:=HL.out.sl.up HF.out.s.bel;have bS:=fun w'=>hS.idx m k w' hlt bZ
   have hce:=hS.cell k hlt;have hok:=HL.out.ok zs[k] (List.getElem_mem hkz);have hgd:zs.getD k 0=zs[k]:=by simp[List.getD,hkz]
   rw[hgd]at hce;obtain⟨x,hx⟩:=Int.eq_ofNat_of_zero_le hok.1;have xq:x<256:=by omega
   have bX:Hid (t[k]? =some x):=by
    show _=_
    rw[KF.out];simp[zN,hkz,hx]
   rw[hx]at hce;obtain⟨r,hr,hrl,hrb,hRR⟩:=HF.out.now;have IY:=HF.out.all k r bZ hr;have hrn:r.len=r.ts.length:=IY.us.sl.len;have hcg:wr.cell? ⟨w.heap.size,k,none⟩=some (.slice r.a r.ts.length r.cap):=by rw[<-hrn];exact HF.out.row.cell hr
   have b8:=wY.out k (by omega)
   have yk:∀w',(Instr.indexAt 27 (.slice (some ⟨w.heap.size,0,none⟩) (m+1) (m+1)) (.int .i64 ((k:Int)+1))).run prog w'=.ok (.pointer (some ⟨w.heap.size,k+1,none⟩)) w':=fun w'=>wY.out (k+1) (by omega) w'
   have c0:wr.cell? ⟨c,0,none⟩=some (.pointer (some ⟨p,0,none⟩)):=HF.out.s.o.c0;have hbd:Below wr.heap.size wr wr.drew:=(Below.refl _ _).drew;have sd:=HF.out.s.up hbd;obtain⟨aj,hp⟩:=sd.o.EO;have hrU:US wr.drew Fj r.a r.ts.length r.cap r.ts:=by have:=(IY.us.up hbd);rw[hrn]at this;exact this
   have Gx:=sX xq hp.o (sd.tab.up sd.bel) hp.g r.a r.cap r.ts ⟨hrU,hrl,hrb⟩;have htl:=World.block_lt_of_cell? _ _ ((sd.tab.up sd.bel) 0 (by decide))
   have hdk:t.drop k=x::t.drop (k+1):=by
    obtain⟨h1,h2⟩:=List.getElem?_eq_some_iff.1 bX.out;rw[List.drop_eq_getElem_cons h1,h2]
   have hxl:x∈bP t:=Ye.2 ⟨xq,List.mem_of_getElem? bX.out⟩
   cases hst:stepM aV x r.ts [] M with
   |none=>
    have js:Calls prog 28 #[.pointer (some ⟨p,0,none⟩),.slice r.a r.ts.length r.cap,.int .u8 x] wr.drew fun e w'=>e=.returned (.tuple #[.slice none 0 0,.int .i64 9])/\Q (.returned (.tuple #[.slice none 0 0,.int .i64 9])) w':=Gx.mono fun e w' hq=>by
     obtain⟨F',i',fr,⟨_,he,_⟩|⟨L,M',q',d',h1,_⟩⟩:=hq
     ·exact⟨he,HQ.out _ _ (Or.inl ⟨by rw[hRR,hdk,gJ,hst];rfl,rfl,sd.bel.trans (fr.below sd.ge sd.bel.size)⟩)⟩
     ·rw[hst]at h1;cases h1
    clear Gx sd hp htl hrU IY hrn hst hdk hRR hS hok hgd hx hbd HF;generalize r.ts.length=RL at *;generalize aG b k=ad at *;obtain⟨ga,oa,sa⟩:=ad
    go_upto_region 20 with fail
    go_region_with (first
     | (revert js;intro js;go_at_call 28;(with_reducible refine js.mono ?_);rintro e w3 ⟨rfl,hq2⟩;have HE:Hid _:=hq2)
     |fail)
    all_goals
     clear js;go_wp2;exact HE.out
   |some z=>
    obtain⟨L,M2⟩:=z;have e2:=HC.out.step hxl r.ts [] hrb hst;subst e2
    have js:Calls prog 28 #[.pointer (some ⟨p,0,none⟩),.slice r.a r.ts.length r.cap,.int .u8 x] wr.drew fun e w3=>∃q2 d2 L2 F2 v,e=.returned (.tuple #[.slice q2 L2 d2,.int .i64 0])/\w3.cell? ⟨w.heap.size,k+1,none⟩=some v/\w3.frozen? ⟨w.heap.size,k+1,none⟩=false/\Hid (∃Tv,GK T0 q d w0 c p l0 M2 vs Ls t R w.heap.size (k+1) (w3.setCell ⟨w.heap.size,k+1,none⟩ (.slice q2 L2 d2)) F2 Tv):=Gx.mono fun e w3 hq=>by
     obtain⟨F2,i2,fr,⟨h1,_⟩|⟨L1,M1,q2,d2,h1,he,hU,hO,hnw,bR⟩⟩:=hq
     ·rw[hst]at h1;cases h1
     ·rw[hst]at h1
      injection h1 with h1;injection h1 with h1 h2;subst h1 h2;have hgl:=HF.out.row.lt;have hk1:k+1<rs.length:=by rw[HF.out.len,Ac.out];omega
      have hrow:uM w3 w.heap.size rs:=(fr.keep _ hgl HF.out.ng).trans HF.out.row;exact⟨q2,d2,L.length,F2,_,he,hrow.cell (kU hk1),hrow.fz _,_,HF.out.next (r2:=⟨q2,L.length,d2,L⟩) bX.out ⟨i2,hO,hp.u.fr fr,hp.l,fr.out hp.g htl⟩ ((Fr.au hbd).trans fr) hU hnw bR (fun r' hr'=>by rw[hr]at hr';injection hr' with hr';subst hr';exact hst)⟩
    clear Gx sd hp htl hrU IY hrn hst hdk hRR hS hok hgd hx hbd HF;generalize r.ts.length=RL at *;generalize aG b k=ad at *;obtain⟨ga,oa,sa⟩:=ad
    go_upto_region 20 with fail
    go_region_with (first
     | (revert js;intro js;go_at_call 28;(with_reducible refine js.mono ?_);rintro e w3 ⟨q2,d2,L2,F2,v,rfl,cv,zv,yl⟩)
     |fail)
    all_goals
     clear js hcg hce c0 bS b8;obtain⟨Tv,hN3⟩:=yl.out;have YR:Hid _:=hN3;clear hN3 yl;go_wp2
     go_roundw
     case rel=>exact⟨k+1,F2,Tv,by omega,by go_num,YR⟩
     case measure=>simp[intOf]<;>omega
  ·obtain rfl:k=m:=by omega
   have hf:=HF.out;rw[<-Ac.out]at hf;have HE:Hid (Q (.returned (.tuple #[.slice (some ⟨w.heap.size,0,none⟩) (k+1) (k+1),.int .i64 0])) wr):=HQ.out _ _ (Or.inr ⟨rs,w.heap.size,Fj,hf.fin,by rw[Ac.out],hf⟩)
   clear hf HF;go_wp2;exact HE.out
def wG(ts:List Tk)(zs:List Int)(X:List Nat->Mt->Prop)(E:Int):Prop:=E≠0/\((xu ts zs≠0/\E=xu ts zs)\/(xu ts zs=0/\E=9/\∃T,KT T/\ts=T.flat/\(eU T (zN zs)=none\/∃l0 M,eU T (zN zs)=some (l0,M)/\X l0 M)))
structure xw(ts:List Tk)(zs:List Int)(T:Tr)(l0:List Nat)(M:Mt):Prop where
 kt:KT T
 fl:ts=T.flat
 ah:xu ts zs=0
 cl:eU T (zN zs)=some (l0,M)
theorem xw.k(h:xw ts zs T l0 M):oO T (zN zs) l0 M:=qeH h.kt h.cl
theorem xw.m(h:xw ts zs T l0 M):zs.length<=1024:=by
 have h0:=(x5 h.ah).2;unfold wU at h0;by_cases h1:1024<zs.length
 ·rw[if_pos h1]at h0;omega
 ·omega
theorem xw.bd(h:xw ts zs T l0 M):jJ l0 M.length:=by
 obtain⟨M0,hn,hp⟩:=h.k.ex;exact(xI T WA h.kt hn).1.bd.mono hp.length_le
theorem ym(a:Option Addr)(len cap:Nat)(ts:List Tk)(b:Option Addr)(m c:Nat)(zs:List Int)(w:World)(hS:bG w a len cap ts)(hL:lX w b m c zs)(hT:fK w):
  Calls prog 13 #[.slice a len cap,.slice b m c] w fun e w'=>(∃E,(∀X,wG ts zs X E)/\(E != 0)=true/\e=.returned (.tuple #[.pointer none,.int .i64 E])/\Below w.heap.size w w') \/
   ∃T l0 M k p q d F vs Ls,xw ts zs T l0 M/\e=.returned (.tuple #[.pointer (some ⟨k,0,none⟩),.int .i64 0])/\oC T q d w w' F k p l0 M vs Ls/\∀y,y<256->y∈zN zs->(Ls y).length=M.length:=by
 refine (q67 a len cap ts b m c zs w hS hL hT).mono ?_
 rintro e w' ⟨hb,⟨h1,rfl⟩|⟨h1,T,kT,hts,⟨h2,rfl⟩|⟨l0,M,k,p,q,d,F,vs,Ls,h2,rfl,h3,h4⟩⟩⟩
 ·exact Or.inl ⟨_,fun X=>⟨h1,Or.inl ⟨h1,rfl⟩⟩,by simpa using h1,rfl,hb⟩
 ·exact Or.inl ⟨9,fun X=>⟨by decide,Or.inr ⟨h1,rfl,T,kT,hts,Or.inl h2⟩⟩,rfl,rfl,hb⟩
 ·exact Or.inr ⟨T,l0,M,k,p,q,d,F,vs,Ls,⟨kT,hts,h1,h2⟩,rfl,h3,h4⟩
def b9(ts:List Tk)(zs:List Int)(w:World)(e:Ending)(w':World):Prop:=Below w.heap.size w w' /\
 ((∃E,wG ts zs (fun l0 M=>gJ M l0 (zN zs)=none) E/\e=.returned (.tuple #[.slice none 0 0,.int .i64 E])) \/
  ∃T l0 M g rs,xw ts zs T l0 M/\gJ M l0 (zN zs)=some (rs.map (·.ts))/\e=.returned (.tuple #[.slice (some ⟨g,0,none⟩) (zs.length+1) (zs.length+1),.int .i64 0])/\uM w' g rs/\rs.length=zs.length+1/\(∀r∈rs,fH w' r.a r.len r.cap r.ts/\Sm r.ts) /\
   w.heap.size<=g/\(∀r∈rs,∀i,i<r.len->w.heap.size<=(aG r.a i).block/\(aG r.a i).block≠g)/\(∀(i j:Nat)(r s:gX),i<j->rs[i]? =some r->rs[j]? =some s->∀x y,x<r.len->y<s.len->(aG r.a x).block≠(aG s.a y).block) /\
   ∀r∈rs,∀i,i<r.len->w'.frozen? (aG r.a i)=false)
theorem yn{M:Mt}(hM:dM M){xs:List Nat}(hC:Closed aV xs M):∀{t l:List Nat}{ls:List (List Nat)},(∀x∈t,x∈xs)->jJ l M.length->gJ M l t=some ls->∀l2∈ls,jJ l2 M.length
 | [],l,ls,_,hl,h,l2,h2=>by
  unfold gJ at h;injection h with h;subst h;have:l2=l:=by simpa using h2
  subst this;exact hl
 |x::t,l,ls,hx,hl,h,l2,h2=>by
  unfold gJ at h
  split at h
  ·cases h
  ·rename_i L M1 hs
   have e:=hC.step (hx x (by simp)) l [] hl hs
   subst e
   cases hf:gJ M1 L t with
   |none=>rw[hf]at h;cases h
   |some ls1=>
    rw[hf]at h;injection h with h;subst h;rcases List.mem_cons.1 h2 with rfl|h3
    ·exact hl
    ·exact yn hM hC (fun y hy=>hx y (by simp[hy])) (Ub hM hl hs).1.bd hf l2 h3
theorem xw.sm(h:xw ts zs T l0 M)(h8:∀x∈zN zs,x<256){ls:List (List Nat)}(hf:gJ M l0 (zN zs)=some ls):∀l∈ls,Sm l:=fun l hl=>
 yU (yn h.k.cl.good h.k.cl (fun x hx=>Ye.2 ⟨h8 x hx,hx⟩) h.bd hf l hl) h.k.cl.good.few
theorem q7l(a:Option Addr)(len cap:Nat)(ts:List Tk)(b:Option Addr)(m c:Nat)(zs:List Int)(w:World)(hS:bG w a len cap ts)(hL:lX w b m c zs)(hT:fK w):
  Calls prog 7 #[.slice a len cap,.slice b m c] w (b9 ts zs w):=by
 have jc:=ym a len cap ts b m c zs w hS hL hT;obtain⟨Q,hQ⟩:∃Q:Ending->World->Prop,Q=b9 ts zs w:=⟨_,rfl⟩
 have HQ:Hid (∀e w',b9 ts zs w e w'->Q e w'):=fun e w' h=>by rw[hQ];exact h
 rw[<-hQ];have HL:Hid _:=hL;clear hS hL hT hQ;go_enter func7,ntmps7
 go_wp2_with fail
 refine jc.mono ?_
 rintro e w1 (⟨E,hE,hne,rfl,hb⟩|⟨T,l0,M,k,p,q,d,F,vs,Ls,hA,rfl,hC,hf⟩)
 ·have HE:Hid (Q (.returned (.tuple #[.slice none 0 0,.int .i64 E])) w1):=HQ.out _ _ ⟨hb,Or.inl ⟨E,hE _,rfl⟩⟩
  clear jc hE hb;go_wp2;exact HE.out
 ·have hm:m=zs.length:=HL.out.sl.hlen.symm
  have jf:=yd hC b m c zs HL.out (by rw[hm];exact hA.m) hA.k.cl hA.bd
  have JL:Hid (∀e w',Vw T q d w k p l0 M vs Ls (zN zs) (gJ M l0 (zN zs)) e w'->∃v E,e=.returned (.tuple #[v,.int .i64 E])/\Q (.returned (.tuple #[v,.int .i64 E])) w'):=fun e w' hq=>by
   rcases hq with⟨h1,rfl,hb⟩|⟨rs,g,F',h1,rfl,hF⟩
   ·exact⟨_,_,rfl,HQ.out _ _ ⟨hb,Or.inl ⟨9,⟨by decide,Or.inr ⟨hA.ah,rfl,T,hA.kt,hA.fl,Or.inr ⟨l0,M,hA.cl,h1⟩⟩⟩,rfl⟩⟩⟩
   ·refine⟨_,_,rfl,HQ.out _ _ ⟨hF.s.bel,Or.inr ⟨T,l0,M,g,rs,hA,h1,by rw[H9],hF.row,by rw[hF.len,H9],fun r hr=>?_,Nat.le_trans hF.s.gc (Nat.le_of_lt hF.gc),fun r hr i hi=>?_,fun i j r r' hij h3 h4=>hF.dj i j r r' hij (by have:=(List.getElem?_eq_some_iff.1 h4).1;have:=hF.len;omega) h3 h4,fun r hr i hi=>?_⟩⟩⟩
    all_goals obtain⟨j,hj,e⟩:=List.getElem_of_mem hr
    all_goals have hj2:j<=(zN zs).length:=by have:=hF.len;omega
    ·refine⟨(hF.all j r hj2 (by rw[kU hj,e])).us.sl,hA.sm (Ef HL.out.ok) h1 _ (List.mem_map.2 ⟨r,hr,rfl⟩)⟩
    ·have hr2:rs[j]? =some r:=by rw[kU hj,e]
     have h5:=hF.nw j r hj2 hr2 i hi;exact⟨by have:=hF.s.gc;omega,(hF.all j r hj2 hr2).ap i hi⟩
    ·exact(hF.all j r hj2 (by rw[kU hj,e])).uf i hi
  clear jc hA hC hf hm
  go_wp2_with fail
  refine jf.mono ?_
  intro e w2 hq;obtain⟨v,E,rfl,h2⟩:=JL.out e w2 hq;have HE:Hid _:=h2;clear jf hq h2 JL;go_wp2;exact HE.out
def Vx(ts:List Tk)(zs:List Int)(w:World)(e:Ending)(w':World):Prop:=Below w.heap.size w w' /\
 ((∃E,wG ts zs (fun l0 M=>gJ M l0 (zN zs)=none) E/\e=.returned (.tuple #[.bool false,.int .i64 E])) \/
  ∃T l0 M ls v,xw ts zs T l0 M/\gJ M l0 (zN zs)=some ls/\e=.returned (.tuple #[.bool v,.int .i64 0])/\(v=true↔xJ M (ls.getD zs.length [])))
theorem qbj(a:Option Addr)(len cap:Nat)(ts:List Tk)(b:Option Addr)(m c:Nat)(zs:List Int)(w:World)(hS:bG w a len cap ts)(hL:lX w b m c zs)(hT:fK w):
  Calls prog 9 #[.slice a len cap,.slice b m c] w (Vx ts zs w):=by
 have jc:=ym a len cap ts b m c zs w hS hL hT;obtain⟨Q,hQ⟩:∃Q:Ending->World->Prop,Q=Vx ts zs w:=⟨_,rfl⟩
 have HQ:Hid (∀e w',Vx ts zs w e w'->Q e w'):=fun e w' h=>by rw[hQ];exact h
 rw[<-hQ];have HL:Hid _:=hL;clear hS hL hT hQ;go_enter func9,ntmps9
 go_wp2_with fail
 refine jc.mono ?_
 rintro e w1 (⟨E,hE,hne,rfl,hb⟩|⟨T,l0,M,k,p,q,d,F,vs,Ls,hA,rfl,hC,hf⟩)
 ·have HE:Hid (Q (.returned (.tuple #[.bool false,.int .i64 E])) w1):=HQ.out _ _ ⟨hb,Or.inl ⟨E,hE _,rfl⟩⟩
  clear jc hE hb;go_wp2;exact HE.out
 ·have hm:m=zs.length:=HL.out.sl.hlen.symm
  have jf:=yd hC b m c zs HL.out (by rw[hm];exact hA.m) hA.k.cl hA.bd
  have Tq:Hid ((zN zs).length=m):=by show _=_;rw[H9,hm]
  have HA:Hid _:=hA;have HM:=aX hm;clear jc hA hC hf hm
  go_wp2_with fail
  refine jf.mono ?_
  rintro e w2 (⟨h1,rfl,hb⟩|⟨rs,g,F',h1,rfl,hF⟩)
  ·have HE:Hid (Q (.returned (.tuple #[.bool false,.int .i64 9])) w2):=HQ.out _ _ ⟨hb,Or.inl ⟨9,⟨by decide,Or.inr ⟨HA.out.ah,rfl,T,HA.out.kt,HA.out.fl,Or.inr ⟨l0,M,HA.out.cl,h1⟩⟩⟩,rfl⟩⟩
   clear jf h1 hb;go_wp2;exact HE.out
  ·have hlen:=hF.len
   rw[Tq.out]at hlen hF ⊢;have hml:m<rs.length:=by omega
   have hr:rs[m]? =some rs[m]:=kU hml
   obtain⟨r,hre⟩:∃r,r=rs[m]:=⟨_,rfl⟩
   rw[<-hre]at hr;have IY:=hF.all m r bZ hr;have hrn:r.len=r.ts.length:=IY.us.sl.len;have hcg:w2.cell? ⟨g,m,none⟩=some (.slice r.a r.ts.length r.cap):=by rw[<-hrn];exact hF.row.cell hr
   have hixm:=fun w'=>x7 g (m+1) m (by omega) w'
   have c0:w2.cell? ⟨k,0,none⟩=some (.pointer (some ⟨p,0,none⟩)):=hF.s.o.c0;have hbd:Below w2.heap.size w2 w2.drew:=(Below.refl _ _).drew;have sd:=hF.s.up hbd;obtain⟨aj,hp⟩:=sd.o.EO;have hsm:Sm r.ts:=HA.out.sm (Ef HL.out.ok) h1 _ (List.mem_map.2 ⟨r,List.mem_of_getElem? hr,rfl⟩);have hU:fH w2.drew r.a r.ts.length r.cap r.ts:=by have:=IY.us.sl.up hbd;rw[hrn]at this;exact this
   have hls:(rs.map (·.ts)).getD zs.length []=r.ts:=by rw[<-HM.out,List.getD_eq_getElem?_getD,List.getElem?_map,hr];rfl
   have jF:Calls prog 19 #[.pointer (some ⟨p,0,none⟩),.slice r.a r.ts.length r.cap] w2.drew fun e w3=>∃v,e=.returned (.bool v)/\Q (.returned (.tuple #[.bool v,.int .i64 0])) w3:=(q8c hp.o r.a r.cap r.ts hU hsm).mono fun e w3 ⟨⟨v,he,hv⟩,hb3⟩=>⟨v,he,HQ.out _ _ ⟨qe sd.bel hb3,Or.inr ⟨T,l0,M,_,v,HA.out,h1,rfl,by rw[hls];exact hv⟩⟩⟩
   clear jf h1 hF hlen hml hr hre IY hrn hbd sd hp hsm hU hls;generalize r.ts.length=RL at *
   go_upto_region 20 with fail
   go_region_with (first
    | (revert jF;intro jF;go_at_call 19;(with_reducible refine jF.mono ?_);rintro e w3 ⟨v,rfl,hq3⟩;have HE:Hid _:=hq3)
    |fail)
   all_goals
    clear jF;go_wp2;go_ret2
    exact HE.out
theorem wG.not(h:wG ts zs X E)(hA:xw ts zs T l0 M)(hX:¬X l0 M):False:=by
 rcases h.2 with⟨h1,_⟩|⟨_,_,S,kS,hts,h2⟩
 ·exact h1 hA.ah
 ·have e:=mT hA.kt kS (hA.fl.symm.trans hts)
  subst e;rcases h2 with h2|⟨l1,M1,h2,h3⟩
  ·rw[hA.cl]at h2;cases h2
  ·rw[hA.cl]at h2
   injection h2 with h2;injection h2 with h4 h5;subst h4 h5;exact hX h3
theorem xw.same{S:Tr}{l1:List Nat}{M1:Mt}(h:xw ts zs T l0 M)(k:xw ts zs S l1 M1):T=S/\l0=l1/\M=M1:=by
 have e:=mT h.kt k.kt (h.fl.symm.trans k.fl);subst e;have h2:=k.cl;rw[h.cl]at h2;injection h2 with h2;injection h2 with h4 h5;exact⟨rfl,h4,h5⟩
theorem Tz{x y:Bool}(h:x=true↔y=true):Ending.returned (Value.bool x)=Ending.returned (Value.bool y):=by rw[Bool.eq_iff_iff.2 h]
def Bz(len m:Nat):Bool:=decide (len<=200)&&(decide (m<=30) || decide (1024<m))&&decide (m<=1033)
theorem q7Z(a:Option Addr)(len cap:Nat)(b:Option Addr)(m c:Nat)(w:World):Calls prog 4 #[.slice a len cap,.slice b m c] w fun e w'=>e=.returned (.bool (Bz len m))/\w'=w:=by
 unfold Bz;by_cases h1:len<=200
 ·by_cases h2:m<=30
  ·have h4:m<=1033:=by omega
   go_enter func4,ntmps4
   go_wp2;go_ret
   exact⟨Tz (by first|exact Iff.rfl|(simp;done)|(simp;omega)),rfl⟩
  ·by_cases h3:1024<m
   ·by_cases h4:m<=1033
    ·go_enter func4,ntmps4
     go_wp2;go_ret
     exact⟨Tz (by first|exact Iff.rfl|(simp;done)|(simp;omega)),rfl⟩
    ·go_enter func4,ntmps4
     go_wp2;go_ret
     exact⟨Tz (by first|exact Iff.rfl|(simp;done)|(simp;omega)),rfl⟩
   ·go_enter func4,ntmps4
    go_wp2;go_ret
    exact⟨Tz (by first|exact Iff.rfl|(simp;done)|(simp;omega)),rfl⟩
 ·go_enter func4,ntmps4
  go_wp2;go_ret
  exact⟨Tz (by first|exact Iff.rfl|(simp;done)|(simp;omega)),rfl⟩
theorem q8q(a:Option Addr)(len cap:Nat)(xs:List Int)(a':Option Addr)(len' cap':Nat)(ys:List Int)(w:World)
  (hS:dh prog 36 .u64 w a len cap xs) (hO:dh prog 36 .u64 w a' len' cap' ys):
  Calls prog 20 #[.slice a len cap,.slice a' len' cap'] w fun e w'=>e=.returned (.bool (decide (xs=ys)))/\∃n,w'=w.drewN n:=by
 have hb0:=hS.bd;have hb1:=hS.hcap;have hb2:=hO.bd;have hb3:=hO.hcap;unfold maxLen at hb0 hb2;by_cases hll:len=len'
 ·subst hll
  have hidx:=fun (k:Nat) (w:World) (h:k<len)=>hS.idx len k w h bZ
  have hidx':=fun (k:Nat) (w:World) (h:k<len)=>hO.idx len k w h bZ
  go_enter func20,ntmps20
  go_wp2
  go_loopw [5] (fun i wr=>∃k:Nat,k<=len/\i=.int .i64 k/\Hid (xs.take k=ys.take k)/\Hid (∃n,wr=w.drewN n)) (fun i _=>len-(intOf i).toNat)
  case atStart=>exact⟨0,Nat.zero_le _,rfl,by show _=_;simp,0,rfl⟩
  case round=>
   obtain⟨k,hk,rfl,HU,hwr⟩:=hrel;by_cases hlt:k<len
   ·have hS':dh prog 36 .u64 wr a len cap xs:=by obtain⟨n,hn⟩:=hwr.out;rw[hn];exact hS.drewN n
    have Sl:dh prog 36 .u64 wr a' len cap' ys:=by obtain⟨n,hn⟩:=hwr.out;rw[hn];exact hO.drewN n
    have hck:=hS'.cell k hlt;have FX:=Sl.cell k hlt;have HN:Hid (xs.getD k 0=ys.getD k 0->xs.take (k+1)=ys.take (k+1)):=fun h=>fL (by rw[hS.hlen];exact hlt) (by rw[hO.hlen];exact hlt) HU.out h
    have HM:Hid (xs.getD k 0≠ys.getD k 0->decide (xs=ys)=false):=fun h=>decide_eq_false (fun e=>h (by rw[e]))
    clear hS' Sl;generalize xs.getD k 0=x at *;generalize ys.getD k 0=y at *;go_wp2
    go_quiet (fail)
    rcases Bool.eq_false_or_eq_true (x != y) with ht|ht
    ·go_wp2
     go_ret
     obtain⟨n,hn⟩:=hwr.out;exact⟨by rw[HM.out (by simpa using ht)];rfl,n+nq,by rw[hn,World.drewN_drewN]⟩
    ·have BG:Hid _:=HN.out (by simpa using ht)
     go_wp2
     go_roundw
     case rel=>
      obtain⟨n,hn⟩:=hwr.out;exact⟨k+1,by omega,by go_num,BG,n+nq,by rw[hn,World.drewN_drewN]⟩
     case measure=>simp[intOf];omega
   ·have hx:Hid (decide (xs=ys)=true):=by
     have:=HU.out
     rw[List.take_of_length_le (by rw[hS.hlen];omega),List.take_of_length_le (by rw[hO.hlen];omega)]at this
     exact decide_eq_true this
    go_wp2;go_ret
    exact⟨by rw[hx.out];rfl,hwr.out⟩
 ·have hx:Hid (decide (xs=ys)=false):=decide_eq_false (fun e=>hll (by rw[<-hS.hlen,<-hO.hlen,e]))
  have Jk:((len:Int) != (len':Int))=true:=by simp;omega
  clear hll;go_enter func20,ntmps20
  go_wp2;go_ret
  exact⟨by rw[hx.out];rfl,0,rfl⟩
def BA(w:World)(g:Nat):Prop:=∃cur,w.heap[g]? =some (.cells cur 36 (0,0))/\∀(i:Nat)(u:Value),cur[i]? =some u->∃a l c,u=.slice a l c
theorem BA.lt(h:BA w g):g<w.heap.size:=by obtain⟨cur,h,_⟩:=h;exact(lC h).1
theorem BA.ne(h:BA w g){p:Addr}{k:IntKind}{z:Int}(hc:w.cell? p=some (.int k z)):p.block≠g:=fun e=>by
 obtain⟨cur,h1,h2⟩:=h;unfold World.cell? at hc;rw[e,h1]at hc;dsimp only at hc
 split at hc
 ·cases hc
 ·obtain⟨a,l,c,h3⟩:=h2 _ _ hc
  cases h3
structure yG(w:World)(base g n cap:Nat)(vs:List Value):Prop where
 sb:BA w g
 ge:base<=g
 own:w.ownsRow base 36 1 (.slice (some ⟨g,0,none⟩) n cap) n vs
theorem BA.far(h:BA w g)(hb:w'.heap[g]? =w.heap[g]?):BA w' g:=by
 obtain⟨cur,h1,h2⟩:=h;exact⟨cur,hb.trans h1,h2⟩
theorem yG.up(h:yG w base g n cap vs)(hb:Below w.heap.size w w'):yG w' base g n cap vs:=⟨h.sb.far (hb.block g h.sb.lt),h.ge,qC h.own hb⟩
theorem yG.fr(h:yG w base g n cap vs)(f:Fr w w' F F')(hg:¬F g):yG w' base g n cap vs :=
 ⟨h.sb.far (f.keep g h.sb.lt hg),h.ge,f.own h.own (fun k hk=>by injection hk with hk;dsimp only at hk;subst hk;exact hg)⟩
theorem yG.one(w:World)(base:Nat)(y:Option Addr)(l c:Nat)(hb:base<=w.heap.size):yG (w.alloc (.cells #[.slice y l c] 36)) base w.heap.size 1 1 [.slice y l c]:=by
 have h:=(dO w (.cells #[.slice y l c] 36)).1;refine⟨⟨_,h,fun i u hi=>?_⟩,hb,⟨rfl,.inr ⟨w.heap.size,1,_,rfl,hb,h,bZ,by decide,rfl,rfl⟩⟩⟩
 match i with
 | 0=>simp at hi;exact⟨y,l,c,hi.symm⟩
 |i+1=>simp at hi
theorem qdm:(prog.info? 36).map (fun i=>(i.zero,i.size,i.bytes))=some (some (.slice none 0 0),1,24):=by kernel_rfl
theorem qe8{k:Nat}{u:Value}(h:(Builtin.zeroCells (Value.slice none 0 0).cells k)[i]? =some u):∃a l c,u=.slice a l c:=by
 have h1:=(lC h)
 obtain⟨h2,h3⟩:=h1;have e:(Value.slice none 0 0).cells=#[.slice none 0 0]:=rfl;simp only[Builtin.zeroCells,e]at h3
 simp[Nat.mod_one]at h3
 exact⟨none,0,0,h3.symm⟩
theorem qdE(hO:yG w base g n cap vs)(ty:TypeId)(g':Nat)(y:Option Addr)(l c:Nat)(hc:w.cell? ⟨g',0,none⟩=some (.slice y l c))(hn:n+1<=2000000)(hb:base<=w.heap.size):
  ∃g2 cap2 w',(Builtin.append_ #[27,27] ty #[.slice (some ⟨g,0,none⟩) n cap,.slice (some ⟨g',0,none⟩) 1 1]).run prog w=.ok (.slice (some ⟨g2,0,none⟩) (n+1) cap2) w'/\yG w' base g2 (n+1) cap2 (vs++[.slice y l c])/\w.grownBy w' (some g)/\(g2=g\/g2=w.heap.size):=by
 obtain⟨i,hi,hz0,hz1,hz2⟩:=info_parts qdm
 have hnews:∀(j:Nat)(u:Value),[Value.slice y l c][j]? =some u->w.cell? ((⟨g',0,none⟩:Addr).add j)=some u:=fun j u hj=>by
  match j with
  | 0=>simp at hj;rw[<-hj,qi];exact hc
  |j+1=>simp at hj
 have h1:∀u∈[Value.slice y l c],u.oneCell'=true:=fun u hu=>by simp at hu;subst hu;rfl
 have hl:[Value.slice y l c].length=1*i.size:=by rw[hz1];rfl
 rcases hO.own.2 with⟨e,_⟩|⟨g0,cap0,cur,e,hbg,hg,hnc,hcm,hcs,htake⟩
 ·cases e
 injection e with e1 _ e3;injection e1 with e1;injection e1 with e1;subst e1;subst e3
 have hsl:∀(j:Nat)(u:Value),cur[j]? =some u->∃a l c,u=.slice a l c:=by
  obtain⟨cur2,h2,h3⟩:=hO.sb;rw[hg]at h2;injection h2 with h2;injection h2 with h2 _ _;rw[h2];exact h3
 have hvl:vs.length=n:=by have:=hO.own.1;omega
 by_cases hroom:n+1<=cap
 ·have hfit:n*i.size+[Value.slice y l c].length<=cur.size:=by rw[hz1,hcs];simp;omega
  have hr:=run_append_room (P:=prog) w 27 ty 36 i underlying27 hi g n cap cur hg ⟨g',0,none⟩ 1 1 [.slice y l c] hl hnews h1 hroom hfit;rw[hz1]at hr;have hh:=setRow_heap w g cur (cur.toList.take (n*1)++[Value.slice y l c]++cur.toList.drop (n*1+[Value.slice y l c].length)).toArray 36 (0,0) hg;refine⟨g,cap,_,hr,⟨⟨_,hh,fun j u hj=>?_⟩,hO.ge,⟨by simp[hvl],.inr ⟨g,cap,_,rfl,hbg,hh,hroom,hcm,?_,?_⟩⟩⟩,⟨rfl,rfl,rfl,by simp,fun k _ hk=>setRow_other w g k _ (fun e=>hk (by rw[e]))⟩,.inl rfl⟩
  ·have hm:u∈cur.toList.take (n*1)++[Value.slice y l c]++cur.toList.drop (n*1+[Value.slice y l c].length):=List.mem_of_getElem? (by simpa using hj)
   rcases List.mem_append.1 hm with hm|hm
   ·rcases List.mem_append.1 hm with hm|hm
    ·obtain⟨q,hq⟩:=List.mem_iff_getElem?.1 (List.mem_of_mem_take hm)
     exact hsl q u (by simpa using hq)
    ·simp at hm;exact⟨y,l,c,hm⟩
   ·obtain⟨q,hq⟩:=List.mem_iff_getElem?.1 (List.mem_of_mem_drop hm)
    exact hsl q u (by simpa using hq)
  ·simp;omega
  ·rw[htake,Nat.mul_one]
   have:(vs++[Value.slice y l c]).length=n+1:=by simp[hvl]
   rw[<-this];simp only[List.append_assoc]
   rw[<-List.append_assoc];exact List.take_left
 ·have holds:∀j u,vs[j]? =some u->w.cell? ((⟨g,0,none⟩:Addr).add j)=some u:=hO.own.cells (g:=g) rfl
  have hr:=run_append_grow (P:=prog) w 27 ty 36 i _ underlying27 hi hz0 ⟨g,0,none⟩ n cap vs (by rw[hz1];omega) holds ⟨g',0,none⟩ 1 1 [.slice y l c] hl hnews (by omega) (by omega) (growslice_fits (by omega) (by rw[hz2];omega))
  have hge:=grownCap_ge w (n+1) cap 36;have hcm2:grownCap w (n+1) cap 36<=maxLen:=grownCap_le_maxLen w (n+1) cap 36 (by unfold maxLen;omega)
  have hh:=heap_alloc_new w.drew (.cells (vs.toArray++[Value.slice y l c].toArray++Builtin.zeroCells (Value.slice none 0 0).cells (grownCap w (n+1) cap 36-(n+1))) 36);refine⟨w.heap.size,_,_,hr,⟨⟨_,hh,fun j u hj=>?_⟩,hb,⟨by simp[hvl],.inr ⟨w.heap.size,_,_,rfl,hb,hh,hge,hcm2,?_,?_⟩⟩⟩,⟨rfl,rfl,rfl,by simp,fun k hk _=>heap_alloc_old w.drew _ hk⟩,.inr rfl⟩
  ·rw[Array.getElem?_append]at hj
   split at hj
   ·rw[Array.getElem?_append]at hj
    split at hj
    ·have hj':vs[j]? =some u:=by simpa using hj
     have:=holds j u hj'
     rw[qi,Nat.zero_add,qc hg]at this;exact hsl j u this
    ·have:=Array.mem_of_getElem? hj
     simp at this
     exact⟨y,l,c,this⟩
   ·exact qe8 hj
  ·simp only[Array.size_append,List.size_toArray,size_zeroCells,hvl]
   simp[Value.cells]
   omega
  ·simp only[Array.toList_append,Nat.mul_one]
   have:(vs++[Value.slice y l c]).length=n+1:=by simp[hvl]
   rw[<-this];exact List.take_left
theorem q8U{w:World}{ops:Array Oper}{rest:List Oper}{o:Oper}{a:Act}{Q:Exit->Act->World->Prop}(hgd:o.guard=none)(s x:Operand)
  (ho:o.op=.call { callee:=.builtin .append,args:=#[s,x],argTypes:=#[27,27] }) (base g n cap:Nat) (vs:List Value) (hs:a.eval s=.slice (some ⟨g,0,none⟩) n cap) (hO:yG w base g n cap vs)
  (g':Nat) (y:Option Addr) (l c:Nat) (hx:a.eval x=.slice (some ⟨g',0,none⟩) 1 1) (hc:w.cell? ⟨g',0,none⟩=some (.slice y l c)) (hn:n+1<=2000000) (hb:base<=w.heap.size)
  (h:∀g2 cap2 w',yG w' base g2 (n+1) cap2 (vs++[.slice y l c])->w.grownBy w' (some g)->(g2=g\/g2=w.heap.size)->wpList prog ops Q rest (a.put o.dst (.slice (some ⟨g2,0,none⟩) (n+1) cap2)) w'):wpList prog ops Q (o::rest) a w :=
 wpList_plain hgd fun _ hK=>by
  obtain⟨g2,cap2,w',hr,h2,h3,h4⟩:=qdE hO o.type g' y l c hc hn hb;unfold Oper.wp execOp;simp only[ho,resolve,invoke,builtin,Sem.run_bind,Sem.run_pure,Result.andThen_ok,List.map_toArray,List.map_cons,List.map_nil,hs,hx,hr]
  exact hK _ _ (h g2 cap2 w' h2 h3 h4)
theorem fH.ni(h:fH w a len cap l)(hb:w.grownBy w' (some g))(hs:BA w g):fH w' a len cap l :=
 ⟨h.hlen,h.hcap,h.bd,h.idx,fun k hk=>WJ (h.cell k hk) hb (fun e=>hs.ne (h.cell k hk) (by injection e)),fun k hk=>Nat.lt_of_lt_of_le (h.blk k hk) hb.size,h.nn⟩
theorem bG.ni(h:bG w a len cap ts)(hb:w.grownBy w' (some g))(hs:BA w g):bG w' a len cap ts :=
 ⟨h.hlen,h.hcap,h.bd,h.nn,fun x hx k hk=>WJ (h.c0 x hx k hk) hb (fun e=>hs.ne (h.c0 x hx k hk) (by injection e)),fun x hx k hk=>WJ (h.c1 x hx k hk) hb (fun e=>hs.ne (h.c1 x hx k hk) (by injection e)),h.ok⟩
theorem RP.ni{er:Nat}(h:RP w F p M er vb)(hb:w.grownBy w' (some g))(hs:BA w g)(hg:¬F g):RP w' F p M er vb:=by
 obtain⟨vm,rows,h⟩:=h;have kp:∀q,F q->w'.heap[q]? =w.heap[q]? := fun q hq=>hb.block q (h.flt q hq) (fun e=>by injection e with e;exact hg (e ▸ hq))
 refine⟨vm,rows,(kp p ((h.foot p).2 (.inl rfl))).trans h.blk,?_,h.foot,fun i f hf=>?_,h.few⟩
 ·refine⟨h.row.1,?_⟩
  rcases h.row.2 with hn|⟨gr,cap,cur,h1,h2,h3,h4⟩
  ·exact .inl hn
  ·exact .inr ⟨gr,cap,cur,h1,h2,(kp gr ((h.foot gr).2 (.inr (by rw[h1];rfl)))).trans h3,h4⟩
 ·obtain⟨a,n,c,h1,h2,h3⟩:=h.met i f hf
  exact⟨a,n,c,h1,h2.ni hb hs,h3⟩
theorem Aq(ts:List Tk)(zs:List Int):jH ts zs=xu ts zs:=by
 unfold jH xu;by_cases h:bM ts=0
 ·rw[if_pos h,if_neg (by simp[h])]
 ·rw[if_neg h,if_pos h]
theorem IZ{m:Nat}(h:jJ l m):∀s∈l,s<2 ^ m:=fun s hs=>Nat.lt_pow_two_of_testBit s fun i hi=>by
 cases hb:s.testBit i
 ·rfl
 ·have:=h s hs i hb;omega
theorem qhc(hM:dM M)(hb:jJ l M.length):mZ M l=true↔xJ M l:=by
 unfold mZ xJ kZ;rw[List.any_eq_true];have h64:=hM.few
 have key:∀k,k<M.length->(gG M k=true↔gy [] M 0 k):=fun k hk=>by
  obtain⟨T,kT,h1,h2⟩:=qgl hM hk;unfold gG;rw[h2];exact((zW T).1 kT).trans (Oy kT h1).symm
 constructor
 ·rintro⟨s,hs,h⟩
  refine⟨s,hs,fun k hk=>?_⟩
  have IG:=hb s hs k hk;exact(key k IG).1 (List.all_eq_true.1 h k (qS.2 ⟨by omega,hk⟩))
 ·rintro⟨s,hs,h⟩
  refine⟨s,hs,List.all_eq_true.2 fun k hk=>?_⟩
  have h2:=(qS.1 hk).2;exact(key k (hb s hs k h2)).2 (h k h2)
def Vy(ts:List Tk)(zs:List Int)(w:World)(e:Ending)(w':World):Prop:=Below w.heap.size w w' /\
 ((∃E,wG ts zs (fun l0 M=>gJ M l0 (zN zs)=none) E/\e=.returned (.tuple #[.slice none 0 0,.bool false,.int .i64 E])) \/
  ∃(T:Tr) (l0:List Nat) (M:Mt) (g cap:Nat) (rs:List gX) (is:Bool),xw ts zs T l0 M/\gJ M l0 (zN zs)=some (rs.map (·.ts))/\e=.returned (.tuple #[.slice (some ⟨g,0,none⟩) (zs.length+1) cap,.bool is,.int .i64 0])/\rs.length=zs.length+1/\w'.ownsRow w.heap.size 36 1 (.slice (some ⟨g,0,none⟩) (zs.length+1) cap) (zs.length+1) (rs.map oq) /\
   (∀r∈rs,fH w' r.a r.len r.cap r.ts/\Sm r.ts/\∀i,i<r.len->w.heap.size<=(aG r.a i).block)/\(is=true↔xJ M ((rs.map (·.ts)).getD zs.length [])))
structure ER(T:Tr)(M:Mt)(t:List Nat)(R:Option (List (List Nat)))(p:Nat)(vb:Value)(w wr:World)(F:Nat->Prop)(k g cap:Nat)(rs:List gX)(la:Option Addr)(lc:Nat)(cur:List Nat):Prop where
 rp:RP wr F p M 0 vb
 ge:∀q,F q->w.heap.size<=q
 bel:Below w.heap.size w wr
 len:rs.length=k+1
 own:yG wr w.heap.size g (k+1) cap (rs.map oq)
 nf:¬F g
 us:∀r∈rs,eP wr F r.a r.cap r.ts/\r.len=r.ts.length
 nw:∀r∈rs,∀i,i<r.len->w.heap.size<=(aG r.a i).block
 last:rs[k]? =some ⟨la,cur.length,lc,cur⟩
 bd:jJ cur M.length
 now:R=(gJ M cur (t.drop k)).map fun tl=>(rs.take k).map (·.ts)++tl
theorem eP.ni{w w':World}{g:Nat}{F:Nat->Prop}{a:Option Addr}{c:Nat}{L:List Nat}(h:eP w F a c L)(hb:w.grownBy w' (some g))(hs:BA w g):eP w' F a c L:=⟨fH.ni h.sl hb hs,h.off,h.sm,h.few⟩
theorem eP.cj(h:eP w F a c L)(hb:Below w.heap.size w w'):eP w' F a c L:=⟨h.sl.up hb,h.off,h.sm,h.few⟩
theorem ER.next{w1 w7:World}{F':Nat->Prop}{k:Nat}(h:ER T M t R p vb w wr F k g cap rs la lc cur)(hx:t[k]? =some x)(hst:stepM aV x cur [] M=some (L,M))(hbd:jJ L M.length)
  (yo:RP w1 F' p M 0 vb) {a:Option Addr} {c:Nat} (hU:eP w1 F' a c L) (hnw:∀i,i<L.length->wr.heap.size<=(aG a i).block) (f:Fr wr w1 F F') {o:Obj} {g2 cap2:Nat} (hO:yG w7 w.heap.size g2 (k+1+1) cap2 (rs.map oq++[.slice a L.length c])) (hg:(w1.alloc o).grownBy w7 (some g)) (hl:g2=g\/g2=(w1.alloc o).heap.size):
  ER T M t R p vb w w7 F' (k+1) g2 cap2 (rs++[⟨a,L.length,c,L⟩]) a c L:=by
 have TA:¬F' g:=f.out h.nf h.own.sb.lt;have hs1:BA (w1.alloc o) g:=((h.own.fr f h.nf).up (qd w1 o)).sb;have hb1:Below w.heap.size w w1:=h.bel.trans (f.below h.ge h.bel.size);have hb2:=qe hb1 (qd w1 o);have hkl:=h.len;have hkr:k<rs.length:=by omega
 refine⟨(yo.up (qd w1 o)).ni hg hs1 TA,f.ge h.ge h.bel.size,hb2.grown hg hb2.size (fun q e=>by injection e with e;subst e;exact h.own.ge),by simp[h.len],?_,?_,fun r hr=>?_,fun r hr i hi=>?_,?_,hbd,?_⟩
 ·rw[List.map_append];exact hO
 ·rcases hl with e|e
  ·rw[e];exact TA
  ·intro hf
   have:=yo.flt _ hf
   simp at e
   omega
 ·rcases List.mem_append.1 hr with hr|hr
  ·obtain⟨h1,h2⟩:=h.us r hr
   exact⟨((h1.fr f).cj (qd w1 o)).ni hg hs1,h2⟩
  ·simp only[List.mem_singleton]at hr
   subst hr;exact⟨(hU.cj (qd w1 o)).ni hg hs1,rfl⟩
 ·rcases List.mem_append.1 hr with hr|hr
  ·exact h.nw r hr i hi
  ·simp only[List.mem_singleton]at hr
   subst hr;exact Nat.le_trans h.bel.size (hnw i hi)
 ·rw[List.getElem?_append_right (by omega),h.len,Nat.sub_self];rfl
 ·have hd:t.drop k=x::t.drop (k+1):=by
   obtain⟨h1,h2⟩:=List.getElem?_eq_some_iff.1 hx;rw[List.drop_eq_getElem_cons h1,h2]
  have ht:(rs++[(⟨a,L.length,c,L⟩:gX)]).take (k+1)=rs:=by rw[List.take_append_of_le_length (by omega),List.take_of_length_le (by omega)]
  have hr:rs=rs.take k++[⟨la,cur.length,lc,cur⟩]:=by
   have h1:rs.take (k+1)=rs:=List.take_of_length_le (by omega)
   rw[List.take_add_one,h.last]at h1;exact h1.symm
  rw[h.now,hd,gJ,hst,ht]
  conv=>rhs;rw[hr]
  show Option.map _ ((gJ M L (t.drop (k+1))).map (cur :: ·))=_
  cases gJ M L (t.drop (k+1)) with
  |none=>rfl
  |some tl=>simp
theorem ER.fin(h:ER T M t R p vb w wr F t.length g cap rs la lc cur):R=some (rs.map (·.ts))/\(rs.map (·.ts)).getD t.length []=cur:=by
 have hr:rs=rs.take t.length++[⟨la,cur.length,lc,cur⟩]:=by
  have h1:rs.take (t.length+1)=rs:=List.take_of_length_le (by rw[h.len];exact bZ)
  rw[List.take_add_one,h.last]at h1;exact h1.symm
 constructor
 ·rw[h.now,List.drop_length,gJ]
  conv=>rhs;rw[hr]
  simp
 ·rw[List.getD_eq_getElem?_getD,List.getElem?_map,h.last];rfl
theorem qbV{k:Nat}(h:ER T M t R p vb w wr F k g cap rs la lc cur)(hC:oO T t l0 M)(kT:KT T)(hsz:T.size<=200)(hin:vG T M)(hx:t[k]? =some x)(h8:x<256):
  ∃Q,Calls prog 17 #[.pointer (some ⟨p,0,none⟩),.slice la cur.length lc,.int .u8 x] wr Q /\
   ∀e w1,Q e w1->(e=.returned (.tuple #[.slice none 0 0,.int .i64 9])/\R=none/\Below w.heap.size w w1) \/
    ∃(L:List Nat) (a:Option Addr) (c:Nat),e=.returned (.tuple #[.slice a L.length c,.int .i64 0])/\yG (w1.alloc (.cells #[.slice a L.length c] 36)) w.heap.size g (k+1) cap (rs.map oq)/\w.heap.size<=(w1.alloc (.cells #[.slice a L.length c] 36)).heap.size /\
     ∀g2 cap2 w7,yG w7 w.heap.size g2 (k+1+1) cap2 (rs.map oq++[.slice a L.length c])->(w1.alloc (.cells #[.slice a L.length c] 36)).grownBy w7 (some g)->(g2=g\/g2=(w1.alloc (.cells #[.slice a L.length c] 36)).heap.size) ->
      ∃F' rs',ER T M t R p vb w w7 F' (k+1) g2 cap2 rs' a c L:=by
 have hm:x∈t:=List.mem_of_getElem? hx;have hrl:=h.us _ (List.mem_of_getElem? h.last);refine⟨_,xp p vb F M 0 la lc cur x wr h.rp hrl.1 (IZ h.bd) (xF kT hsz h8 hin),?_⟩
 rintro e w1 (⟨L,M1,F1,a1,c1,hs,rfl,p1,u1,m1,f1,hnw⟩|⟨hs,rfl,F1,f1⟩)
 ·right
  have hM1:=hC.cl.step (Ye.2 ⟨h8,hm⟩) cur [] h.bd hs;subst hM1;have hb1:Below w.heap.size w w1:=h.bel.trans (f1.below h.ge h.bel.size);refine⟨L,a1,c1,rfl,(h.own.fr f1 h.nf).up (qd _ _),Nat.le_trans hb1.size (by simp),fun g2 cap2 w7 h1 h2 h3=>⟨F1,_,h.next hx hs (Ub hC.cl.good h.bd hs).1.bd p1 u1 hnw f1 h1 h2 h3⟩⟩
 ·left
  refine⟨rfl,?_,h.bel.trans (f1.below h.ge h.bel.size)⟩
  have hd:t.drop k=x::t.drop (k+1):=by
   obtain⟨h1,h2⟩:=List.getElem?_eq_some_iff.1 hx;rw[List.drop_eq_getElem_cons h1,h2]
  rw[h.now,hd,gJ,hs];rfl
theorem qaV{k:Nat}(h:ER T M t R p vb w wr F k g cap rs la lc cur)(hC:oO T t l0 M)(hsz:T.size<=200)(hin:vG T M):
  Calls prog 18 #[.pointer (some ⟨p,0,none⟩),.slice la cur.length lc] wr fun e w'=>e=.returned (.bool (mZ M cur))/\Below wr.heap.size wr w' :=
 q8j p vb F M 0 la lc cur wr h.rp hC.cl.good (fun f hf=>by
  obtain⟨S,_,hS,rfl⟩:=hin f hf;have:=Vr hsz hS
  rw[<-qQ];omega) (h.us _ (List.mem_of_getElem? h.last)).1.sl (IZ h.bd)
theorem q77(a:Option Addr)(len cap:Nat)(ts:List Tk)(d:Option Addr)(m c:Nat)(zs:List Int)(w:World)(hT:bG w a len cap ts)(hL:lX w d m c zs)(hsz:ts.length<=200):
  Calls prog 8 #[.slice a len cap,.slice d m c] w (Vy ts zs w):=by
 have jc:=q7u a len cap ts d m c zs w hT hL hsz;obtain⟨Q,hQ⟩:∃Q:Ending->World->Prop,Q=Vy ts zs w:=⟨_,rfl⟩
 have HQ:Hid (∀e w',Vy ts zs w e w'->Q e w'):=fun e w' h=>by rw[hQ];exact h
 rw[<-hQ];have HL:Hid _:=hL;have pX:Hid (zs.length=m):=hL.sl.hlen;have HSZ:Hid _:=hsz;have hmb:=Nat.le_trans hL.sl.hcap hL.sl.bd;unfold maxLen at hmb;clear hQ hT hL hsz;go_enter func8,ntmps8
 go_wp2_with fail
 refine jc.mono ?_
 rintro e w1 ⟨hb1,⟨hck,rfl⟩|⟨hck,T,kT,hts,⟨hcl,rfl⟩|⟨l0,M,F,p,a1,c1,hcl,rfl,Vz,hU,hin,hge⟩⟩⟩
 ·have HE:Hid (Q (.returned (.tuple #[.slice none 0 0,.bool false,.int .i64 (jH ts zs)])) w1):=HQ.out _ _ ⟨hb1,.inl ⟨_,⟨hck,.inl ⟨by rw[<-Aq];exact hck,Aq ts zs⟩⟩,rfl⟩⟩
  have hne:(jH ts zs != 0)=true:=by simpa using hck
  clear jc hb1 hck HQ;generalize jH ts zs=E at *;go_wp2;go_ret3
  exact HE.out
 ·have HE:Hid (Q (.returned (.tuple #[.slice none 0 0,.bool false,.int .i64 9])) w1):=HQ.out _ _ ⟨hb1,.inl ⟨9,⟨by decide,.inr ⟨by rw[<-Aq];exact hck,rfl,T,kT,hts,.inl hcl⟩⟩,rfl⟩⟩
  clear jc hb1 hck HQ;go_wp2;go_ret3
  exact HE.out
 ·have ck:xw ts zs T l0 M:=⟨kT,hts,by rw[<-Aq];exact hck,hcl⟩
  have Nz:Hid _:=ck;have KX:Hid _:=hin;have EN:Hid _:=kT;have EL:Hid (T.size<=200):=by show _<=_;rw[qQ,<-hts];exact HSZ.out
  obtain⟨t,ht⟩:∃t,t=zN zs:=⟨_,rfl⟩
  have KF:=aX ht;have Ac:Hid (t.length=m):=by show _=_;rw[ht,H9];exact pX.out
  obtain⟨R,hR⟩:∃R,R=gJ M l0 t:=⟨_,rfl⟩
  have HRR:Hid (R=gJ M l0 (zN zs)):=by show _=_;rw[hR,ht]
  have js:=q8o p a1 l0.length c1 F M 0 w1 Vz
  have Nh:Hid (ER T M t R p (.slice a1 l0.length c1) w (w1.alloc (.cells #[.slice a1 l0.length c1] 36)) F 0 w1.heap.size 1 [⟨a1,l0.length,c1,l0⟩] a1 c1 l0) :=
   ⟨Vz.up (qd _ _),hge,qe hb1 (qd _ _),rfl,yG.one w1 w.heap.size a1 l0.length c1 hb1.size,fun hf=>by have:=Vz.flt _ hf;omega,fun r hr=>by simp only[List.mem_singleton]at hr;subst hr;exact⟨hU.cj (qd _ _),rfl⟩,fun r hr i hi=>by simp only[List.mem_singleton]at hr;subst hr;exact hU.nw i hi,rfl,ck.bd,by rw[hR];simp⟩
  clear jc hck hts hcl Vz hU hin hge hb1 ck ht hR kT;generalize hn0:l0.length=n0 at js Nh
  have wY:Hid (∀k (w':World),k<m->(Instr.indexAt 23 (.slice d m c) (.int .i64 k)).run prog w'=.ok (.pointer (some (aG d k))) w'):=fun k w' h=>HL.out.sl.idx _ k w' h bZ
  have dL:Hid (∀k w',k<m->Below w.heap.size w w'->∃x:Nat,x<256/\t[k]? =some x/\w'.cell? (aG d k)=some (.int .u8 x)):=fun k w' h hb=>by
   have hk:k<zs.length:=by have:=pX.out;omega
   have hv:=HL.out.ok _ (List.getElem_mem hk);refine⟨zs[k].toNat,by omega,by rw[KF.out];simp[zN,List.getElem?_eq_getElem hk],?_⟩
   rw[(HL.out.up hb).sl.cell k h,List.getD_eq_getElem?_getD,kU hk,Option.getD_some]
   congr 2
   omega
  have Dw:Hid (oO T t l0 M):=by rw[KF.out];exact Nz.out.k
  have U9:=aX hn0;clear hn0;have hm4:m<=1024:=by have:=Nz.out.m;have:=pX.out;omega
  go_wp2_with fail
  refine js.mono ?_
  rintro e w2 ⟨rfl,rfl⟩
  clear js
  go_wp2_with fail
  go_loopw [9,10,11] (fun l o i wr=>∃(k g cap:Nat) (rs:List gX) (F:Nat->Prop) (la:Option Addr) (lc n:Nat) (cur:List Nat),k<=m/\l=.slice la n lc/\o=.slice (some ⟨g,0,none⟩) (k+1) cap/\i=.int .i64 k/\Hid (cur.length=n)/\Hid (ER T M t R p (.slice a1 n0 c1) w wr F k g cap rs la lc cur)) (fun _ _ i _=>m-(intOf i).toNat)
  case atStart=>exact⟨0,_,1,_,_,a1,c1,n0,l0,Nat.zero_le _,rfl,rfl,rfl,U9,Nh⟩
  case round=>
   obtain⟨k,g,cap,rs,F2,la,lc,n,cur,hk,rfl,rfl,rfl,HN,HR⟩:=hrel;clear Nh;by_cases hlt:k<m
   ·obtain⟨x,hx,htx,hcx⟩:=dL.out k wr hlt HR.out.bel
    have hi:=fun w'=>wY.out k w' hlt
    obtain⟨Qs,Lm,hst⟩:=qbV HR.out Dw.out EN.out EL.out KX.out htx hx;rw[HN.out]at Lm;have HST:Hid _:=hst;clear hst htx;generalize aG d k=ad at *;obtain⟨g0,o0,s0⟩:=ad
    go_wp2_with fail
    (with_reducible refine Lm.mono ?_)
    intro e w5 hq;rcases HST.out e w5 hq with⟨rfl,yp,hb5⟩|⟨L,a5,c5,rfl,hO,hsz5,hnx⟩
    ·have HE:Hid (Q (.returned (.tuple #[.slice none 0 0,.bool false,.int .i64 9])) w5):=HQ.out _ _ ⟨hb5,.inl ⟨9,⟨by decide,.inr ⟨Nz.out.ah,rfl,T,EN.out,Nz.out.fl,.inr ⟨l0,M,Nz.out.cl,by show gJ M l0 (zN zs)=none;rw[<-HRR.out];exact yp⟩⟩⟩,rfl⟩⟩
     clear yp hb5 hq Lm HST;go_wp2;go_ret3
     exact HE.out
    ·generalize Tn:L.length=n5 at hO hsz5 hnx ⊢
     have SN:=aX Tn;have HO:Hid _:=hO;have fQ:Hid _:=hnx;have hsz:w.heap.size<=(w5.alloc (.cells #[.slice a5 n5 c5] 36)).heap.size:=hsz5;clear Tn hO hnx hsz5 hq Lm HST
     go_wp2_with (at_builtin;refine q8U rfl _ _ rfl w.heap.size g (k+1) cap (rs.map oq) rfl HO.out w5.heap.size a5 n5 c5 rfl (qc (dO w5 _).1 0) (by omega) hsz ?_)
     intro g7 TB w7 ho hgr uS;obtain⟨F7,rs7,yq⟩:=fQ.out g7 TB w7 ho hgr (by simpa using uS)
     have HR7:Hid _:=yq;clear yq ho hgr uS fQ HO;go_wp2
     go_roundw
     case rel=>exact⟨k+1,g7,TB,rs7,F7,a5,c5,n5,L,by omega,rfl,rfl,by go_num,SN,HR7⟩
     case measure=>simp[intOf];omega
   ·obtain rfl:k=m:=by omega
    have jf:=qaV HR.out Dw.out EL.out KX.out;rw[HN.out]at jf
    go_wp2_with fail
    (with_reducible refine jf.mono ?_)
    rintro e w6 ⟨rfl,hb6⟩
    have HE:Hid (Q (.returned (.tuple #[.slice (some ⟨g,0,none⟩) (k+1) cap,.bool (mZ M cur),.int .i64 0])) w6):=by
     have hR:=HR.out;rw[<-Ac.out]at hR;obtain⟨f1,f2⟩:=hR.fin;have hR:=HR.out;have hl:=pX.out;refine HQ.out _ _ ⟨qe hR.bel hb6,.inr ⟨T,l0,M,g,cap,rs,mZ M cur,Nz.out,?_,by rw[hl],by rw[hl];exact hR.len,?_,fun r hr=>⟨?_,(hR.us r hr).1.sm,hR.nw r hr⟩,?_⟩⟩
     ·rw[<-HRR.out];exact f1
     ·rw[hl];exact qC hR.own.own hb6
     ·rw[(hR.us r hr).2];exact(hR.us r hr).1.sl.up hb6
     ·rw[hl,<-Ac.out,f2]
      exact qhc Dw.out.cl.good hR.bd
    clear hb6 jf;generalize mZ M cur=fb at *;go_wp2;go_ret3
    exact HE.out
def cn(ts:List Tk)(zs:List Int)(w:World)(e:Ending)(w':World):Prop:=Below w.heap.size w w' /\
 ((∃E,wG ts zs (fun l0 M=>gJ M l0 (zN zs)=none) E/\e=.returned (.tuple #[.slice none 0 0,.int .i64 E])) \/
  ∃(T:Tr) (l0:List Nat) (M:Mt) (g:Nat) (rs:List gX),xw ts zs T l0 M/\gJ M l0 (zN zs)=some (rs.map (·.ts))/\e=.returned (.tuple #[.slice (some ⟨g,0,none⟩) (zs.length+1) (zs.length+1),.int .i64 0])/\uM w' g rs/\rs.length=zs.length+1/\(∀r∈rs,fH w' r.a r.len r.cap r.ts/\Sm r.ts) /\
   w.heap.size<=g/\(∀r∈rs,∀i,i<r.len->w.heap.size<=(aG r.a i).block/\(aG r.a i).block≠g)/\(∀(i j:Nat)(r s:gX),i<j->rs[i]? =some r->rs[j]? =some s->∀x y,x<r.len->y<s.len->(aG r.a x).block≠(aG s.a y).block) /\
   ∀r∈rs,∀i,i<r.len->w'.frozen? (aG r.a i)=false)
theorem wG.val(h:wG ts zs X E):E=if xu ts zs=0 then 9 else xu ts zs:=by
 rcases h.2 with⟨h1,rfl⟩|⟨h1,rfl,_⟩
 ·rw[if_neg h1]
 ·rw[if_pos h1]
structure o7(w:World)(a:Option Addr)(n cap g:Nat)(rs:List gX):Prop where
 idx:∀(k:Nat)(w':World),k<n->(Instr.indexAt 27 (.slice a n cap) (.int .i64 k)).run prog w'=.ok (.pointer (some ⟨g,k,none⟩)) w'
 len:rs.length=n
 cell:∀(k:Nat)(r:gX),rs[k]? =some r->w.cell? ⟨g,k,none⟩=some (.slice r.a r.len r.cap)
 us:∀r∈rs,fH w r.a r.len r.cap r.ts
theorem o7.up{w w':World}{a:Option Addr}{n cap g:Nat}{rs:List gX}(h:o7 w a n cap g rs)(hb:Below w.heap.size w w'):o7 w' a n cap g rs :=
 ⟨h.idx,h.len,fun k r hr=>(Fr.au (F:=fun _=>False) hb).cell (h.cell k r hr) (fun x=>x),fun r hr=>(h.us r hr).up hb⟩
theorem o7.none(w:World)(g:Nat):o7 w none 0 0 g []:=⟨fun k w' hk=>absurd hk (by omega),rfl,fun k r hr=>by simp at hr,fun r hr=>by simp at hr⟩
theorem cq(g n cap i:Nat)(hi:i<n)(w:World):(Instr.indexAt 27 (.slice (some ⟨g,0,none⟩) n cap) (.int .i64 i)).run prog w=.ok (.pointer (some ⟨g,i,none⟩)) w:=by
 simp[Instr.indexAt,run_underlying underlying27,asIntOf,qU x6,hi,Result.andThen,go_sem,qi]
def Dk(rs:List gX)(k q:Nat):Prop:=∃(j:Nat) (r:gX) (x:Nat),j<k/\rs[j]? =some r/\x<r.len/\(aG r.a x).block=q
theorem Dk.mono{k k' q:Nat}(h:Dk rs k q)(hk:k<=k'):Dk rs k' q:=by
 obtain⟨j,r,x,h1,h2⟩:=h;exact⟨j,r,x,by omega,h2⟩
theorem Fr.wide(h:Fr w w' F F)(hF:∀k,F k->F' k):Fr w w' F' F':=⟨h.os,h.tape,h.output,h.size,fun k hk hn=>h.keep k hk (fun e=>hn (hF k e)),fun _ hk=>Or.inl hk⟩
theorem Fr.fz(h:Fr w w' F F'){p:Addr}{v:Value}(hc:w.cell? p=some v)(hf:¬F p.block)(hz:w.frozen? p=false):w'.frozen? p=false:=by
 have:=h.keep p.block (World.block_lt_of_cell? _ _ hc) hf
 unfold World.frozen? at hz ⊢;rw[this];exact hz
theorem qi7(w:World)(p q:Addr)(v:Value)(h:w.frozen? q=false):(w.setCell p v).frozen? q=false:=by
 by_cases e:q.block=p.block
 ·unfold World.frozen? World.setCell at *
  dsimp only
  rw[e]at h ⊢;rw[Array.getElem?_modify,if_pos rfl]
  cases hh:w.heap[p.block]? with
  |none=>rfl
  |some o=>
   rw[hh]at h
   cases o<;>first|exact h|rfl
 ·unfold World.frozen? at *
  rw[Below.heap_setCell _ _ _ _ e];exact h
theorem qhn(w:World)(p q:Addr)(y:Int)(h:∃z,w.cell? q=some (.int .u64 z)):∃z,(w.setCell p (.int .u64 y)).cell? q=some (.int .u64 z):=by
 obtain⟨z,h⟩:=h;by_cases e:q.block=p.block
 ·unfold World.cell? World.setCell at *
  dsimp only
  rw[e]at h ⊢;rw[Array.getElem?_modify,if_pos rfl]
  cases hh:w.heap[p.block]? with
  |none=>rw[hh]at h;cases h
  |some o=>
   rw[hh]at h
   cases o with
   |cells c el fz=>
    dsimp only[Option.map]at h ⊢
    by_cases hs:q.spot.isSome=true
    ·rw[if_pos hs]at h;cases h
    ·rw[if_neg hs]at h ⊢
     by_cases hp:p.spot.isSome=true
     ·rw[if_pos hp];exact⟨z,h⟩
     ·rw[if_neg hp,Array.getElem?_setIfInBounds]
      by_cases ho:p.off=q.off
      ·rw[if_pos ho]
       have:=(lC h).1
       rw[if_pos (by omega)]
       exact⟨y,rfl⟩
      ·rw[if_neg ho];exact⟨z,h⟩
   |_=>cases h
 ·refine⟨z,?_⟩
  unfold World.cell? at *;rw[Below.heap_setCell _ _ _ _ e];exact h
structure cy(w1 W:World)(n:Nat)(aa:Option Addr)(ca ga:Nat)(ra:List gX)(ab:Option Addr)(cb gb:Nat)(rb:List gX)(ac:Option Addr)(cc gc:Nat)(rc:List gX):Prop where
 A:o7 W aa n ca ga ra
 B:o7 W ab n cb gb rb
 C:o7 W ac n cc gc rc
 eb:rb.map (·.ts)=ra.map (·.ts)
 ec:rc.map (·.ts)=ra.map (·.ts)
 few:n<=1025
 ge:∀k q,Dk ra k q->w1.heap.size<=q
 na:∀k,0<n->¬Dk ra k ga
 nb:∀k,0<n->¬Dk ra k gb
 nc:∀k,0<n->¬Dk ra k gc
 oa:∀(k:Nat)(r:gX),ra[k]? =some r->∀x,x<r.len->¬Dk ra k (aG r.a x).block
 ob:∀r∈rb,∀k x,x<r.len->¬Dk ra k (aG r.a x).block
 oc:∀r∈rc,∀k x,x<r.len->¬Dk ra k (aG r.a x).block
 uf:∀r∈ra,∀x,x<r.len->W.frozen? (aG r.a x)=false
theorem VA{k q:Nat}:¬Dk [] k q:=fun⟨j,r,x,_,h,_⟩=>by simp at h
theorem qi0{w2 w3 w4 w5:World}{e1 e2 e3 e4:Ending}(h1:cn ts zs w1 e1 w2)(h2:cn ts zs w2 e2 w3)(h3:Vy ts zs w3 e3 w4)(h4:Vx ts zs w4 e4 w5):
  ∃(E:Int) (is:Bool) (n:Nat) (aa:Option Addr) (ca ga:Nat) (ra:List gX) (ab:Option Addr) (cb gb:Nat) (rb:List gX) (ac:Option Addr) (cc gc:Nat) (rc:List gX),
   e1=.returned (.tuple #[.slice aa n ca,.int .i64 E])/\e2=.returned (.tuple #[.slice ab n cb,.int .i64 E])/\e3=.returned (.tuple #[.slice ac n cc,.bool is,.int .i64 E])/\e4=.returned (.tuple #[.bool is,.int .i64 E])/\cy w1 w5 n aa ca ga ra ab cb gb rb ac cc gc rc:=by
 obtain⟨b1,h1⟩:=h1;obtain⟨b2,h2⟩:=h2;obtain⟨b3,h3⟩:=h3;obtain⟨b4,h4⟩:=h4;rcases h1 with⟨E,hE,rfl⟩|⟨T,l0,M,g,rs,hA,hf,rfl,hR,hl,hU,hg,hn,hd,hz⟩
 ·have ev:=hE.val
  rcases h2 with⟨E2,hE2,rfl⟩|⟨T,l0,M,g,rs,hA,hf,_⟩
  ·rcases h3 with⟨E3,cz,rfl⟩|⟨T,l0,M,g,c,rs,is,hA,hf,_⟩
   ·rcases h4 with⟨E4,cE,rfl⟩|⟨T,l0,M,ls,v,hA,hf,_⟩
    ·have e2:=hE2.val
     have e3:=cz.val;have e4:=cE.val;rw[<-ev]at e2 e3 e4;subst e2 e3 e4;exact⟨E4,false,0,none,0,0,[],none,0,0,[],none,0,0,[],rfl,rfl,rfl,rfl,⟨o7.none _ _,o7.none _ _,o7.none _ _,rfl,rfl,by omega,fun k q h=>absurd h VA,fun k _=>VA,fun k _=>VA,fun k _=>VA,fun k r hr=>by simp at hr,fun r hr=>by simp at hr,fun r hr=>by simp at hr,fun r hr=>by simp at hr⟩⟩
    ·exact(hE.not hA (by rw[hf];intro h;cases h)).elim
   ·exact(hE.not hA (by rw[hf];intro h;cases h)).elim
  ·exact(hE.not hA (by rw[hf];intro h;cases h)).elim
 ·have hno:¬(fun l0 M=>gJ M l0 (zN zs)=none) l0 M:=by show ¬gJ M l0 (zN zs)=none;rw[hf];intro h;cases h
  rcases h2 with⟨E2,hE2,rfl⟩|⟨T2,l2,M2,g2,Tv,hA2,hf2,rfl,hR2,hl2,iY,hg2,hn2,hd2,hz2⟩
  ·exact(hE2.not hA hno).elim
  rcases h3 with⟨E3,cz,rfl⟩|⟨T3,l3,M3,g3,c3,rs3,is,hA3,hf3,rfl,hl3,hO3,nT,hi3⟩
  ·exact(cz.not hA hno).elim
  rcases h4 with⟨E4,cE,rfl⟩|⟨T4,l4,M4,ls4,v4,hA4,hf4,rfl,hv4⟩
  ·exact(cE.not hA hno).elim
  obtain⟨rfl,rfl,rfl⟩:=hA.same hA2;obtain⟨rfl,rfl,rfl⟩:=hA.same hA3;obtain⟨rfl,rfl,rfl⟩:=hA.same hA4;rw[hf]at hf2 hf3 hf4;injection hf2 with hf2;injection hf3 with hf3;injection hf4 with hf4
  have ev:is=v4:=by
   rw[Bool.eq_iff_iff,hi3,hv4,<-hf3,hf4]
  subst ev;have hm:=hA.m;have b23:=qe b2 b3;have yr:=qe b23 b4;have b34:=qe b3 b4
  have NC:∀k q,Dk rs k q->w1.heap.size<=q/\q<w2.heap.size/\q≠g:=by
   rintro k q ⟨j,r,x,h1,h2,h3,rfl⟩
   have hr:=List.mem_of_getElem? h2;exact⟨(hn r hr x h3).1,(hU r hr).1.blk x h3,(hn r hr x h3).2⟩
  have hg3:w3.heap.size<=g3:=by
   rcases hO3.2 with⟨e,_⟩|⟨g0,cap0,cur,e,hbg,_⟩
   ·cases e
   ·injection e with e1 _ _
    injection e1 with e1;injection e1 with e1;rw[e1];exact hbg
  have s2:=b2.size;refine⟨0,is,zs.length+1,_,_,g,rs,_,_,g2,Tv,_,_,g3,rs3,rfl,rfl,rfl,rfl,⟨?_,?_,?_,hf2.symm,hf3.symm,by omega,fun k q h=>(NC k q h).1,fun k _ h=>(NC k _ h).2.2 rfl,fun k _ h=>?_,fun k _ h=>?_,?_,?_,?_,?_⟩⟩
  ·exact o7.up ⟨fun k w' hk=>cq _ _ _ k hk w',hl,fun k r hr=>hR.cell hr,fun r hr=>(hU r hr).1⟩ yr
  ·exact o7.up ⟨fun k w' hk=>cq _ _ _ k hk w',hl2,fun k r hr=>hR2.cell hr,fun r hr=>(iY r hr).1⟩ b34
  ·refine o7.up ⟨fun k w' hk=>cq _ _ _ k hk w',hl3,fun k r hr=>?_,fun r hr=>(nT r hr).1⟩ b4
   have:=hO3.cells (g:=g3) rfl k (oq r) (by rw[List.getElem?_map,hr];rfl)
   rw[qi,Nat.zero_add]at this;exact this
  ·have:=(NC k _ h).2.1;omega
  ·have:=(NC k _ h).2.1;omega
  ·rintro k r hr x hx ⟨j,r2,y,h1,h2,h3,h4⟩
   exact hd j k r2 r h1 h2 hr y x h3 hx h4
  ·intro r hr k x hx h
   have h5:=(NC k _ h).2.1;have h6:=(hn2 r hr x hx).1
   omega
  ·intro r hr k x hx h
   have h5:=(NC k _ h).2.1;have h6:=(nT r hr).2.2 x hx
   omega
  ·intro r hr x hx
   exact(Fr.au (F:=fun _=>False) yr).fz ((hU r hr).1.cell x hx) (fun h=>h) (hz r hr x hx)
end Go.Proofs.YtoioiellaomonaaGreatDoor
