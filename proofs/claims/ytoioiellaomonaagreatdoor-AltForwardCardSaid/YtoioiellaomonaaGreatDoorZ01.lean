import Derived.Laws.BitsAllLaws
import Derived.Test.YtoioiellaomonaaGreatDoorZ00
set_option maxRecDepth 100000
set_option maxHeartbeats 16000000
namespace Go.Proofs.YtoioiellaomonaaGreatDoor
variable {ts:List Tk}{k n m:Nat}{T:Tr}
def mkT(k:Tk)(a:List Tr):Tr :=
 match a with
 | []=>.leaf k
 | [c]=>.un k c
 |c::d::_=>.bin k c d
def kY(st:List Tr)(k:Tk):List Tr:=st.take (st.length-gu k)++[mkT k (st.drop (st.length-gu k))]
def gS(ts:List Tk)(st:List Tr):List Tr:=ts.foldl kY st
theorem TU(a b:List Tk)(st:List Tr):gS (a++b) st=gS b (gS a st):=by unfold gS;rw[List.foldl_append]
theorem Av(h:k<ts.length)(st:List Tr):gS (ts.take (k+1)) st=kY (gS (ts.take k) st) ts[k]:=by
 rw[List.take_add_one,List.getElem?_eq_getElem h,TU];rfl
theorem GU:∀T:Tr,T.WF->∀st,gS T.flat st=st++[T]
 | .leaf (op,p),h,st=>by
  have e:=Ci h.1;have hd:=Ei st [] 0 rfl;rw[List.append_nil]at hd
  show kY st (op,p)=_
  unfold kY;rw[e,hd.1,hd.2];rfl
 | .un (op,p) c,h,st=>by
  have e:=Ci h.1;have hd:=Ei st [c] 1 rfl
  show gS (c.flat++[(op,p)]) st=_
  rw[TU,GU c h.2.2]
  show kY _ (op,p)=_
  unfold kY;rw[e,hd.1,hd.2];rfl
 | .bin (op,p) c d,h,st=>by
  have e:=Ci h.1;have hd:=Ei st [c,d] 2 rfl
  show gS (c.flat++d.flat++[(op,p)]) st=_
  rw[TU,TU,GU c h.2.2.1,GU d h.2.2.2]
  show kY _ (op,p)=_
  rw[show st++[c]++[d]=st++[c,d] by simp]
  unfold kY;rw[e,hd.1,hd.2];rfl
theorem VU:∀(ts:List Tk)(st:List Tr)(js:List Kq),st.length=js.length->(gS ts st).length=(jS ts js).length
 | [],st,js,h=>h
 |k::ts,st,js,h=>by
  show (gS ts (kY st k)).length=(jS ts (oG js k)).length
  refine VU ts _ _ ?_
  unfold kY oG;simp[h]
structure sD(ts:List Tk)(T:Tr):Prop where
 few:ts.length<=2048
 ok:∀k (h:k<ts.length),(∃m,bI ts[k]=some m)/\gu ts[k]<=(gS (ts.take k) []).length
 fin:gS ts []=[T]
theorem Cj(h:T.WF)(hl:T.flat.length<=2048):sD T.flat T:=by
 obtain⟨_,h2⟩:=NK T h [] (2*wt T) (Nat.le_refl _);refine⟨hl,fun k hk=>⟨(h2 k hk).tk,?_⟩,GU T h []⟩
 rw[VU _ [] [] rfl];exact(h2 k hk).le
def kB(T:Tr)(b:Bool):List Tk:=if b then (aZ T).2.flat else (aZ T).1.flat
def tn(x y:Nat)(b:Bool):Nat:=if b then y else x
theorem VW(c:Tr)(b:Bool):kB (.un (6,0) c) b=kB c (!b):=by cases b<;>rfl
theorem VX(c:Tr)(b:Bool):kB (.un (7,0) c) b=kB c b++[]++[(tn 7 8 b,0)]:=by cases b<;>simp[kB,aZ,Tr.flat,tn]
theorem VY(c:Tr)(b:Bool):kB (.un (8,0) c) b=kB c b++[]++[(tn 8 7 b,0)]:=by cases b<;>simp[kB,aZ,Tr.flat,tn]
theorem VZ(c:Tr)(b:Bool):kB (.un (9,0) c) b=[(tn 0 1 b,0)]++kB c b++[(tn 15 16 b,0)]:=by cases b<;>simp[kB,aZ,Tr.flat,tn]
theorem NT(c:Tr)(b:Bool):kB (.un (10,0) c) b=[(tn 1 0 b,0)]++kB c b++[(tn 16 15 b,0)]:=by cases b<;>simp[kB,aZ,Tr.flat,tn]
theorem NU(c:Tr)(b:Bool):kB (.un (19,0) c) b=kB c false++[]++[(19,0)]:=by cases b<;>simp[kB,aZ,Tr.flat]
theorem NV(c:Tr)(b:Bool):kB (.un (20,0) c) b=kB c false++[]++[(20,0)]:=by cases b<;>simp[kB,aZ,Tr.flat]
theorem NW(c:Tr)(b:Bool):kB (.un (23,0) c) b=kB c false++[]++[(23,0)]:=by cases b<;>simp[kB,aZ,Tr.flat]
theorem NY(c d:Tr)(b:Bool):kB (.bin (11,0) c d) b=kB c b++kB d b++[(tn 11 12 b,0)]:=by cases b<;>simp[kB,aZ,Tr.flat,tn]
theorem NZ(c d:Tr)(b:Bool):kB (.bin (12,0) c d) b=kB c b++kB d b++[(tn 12 11 b,0)]:=by cases b<;>simp[kB,aZ,Tr.flat,tn]
theorem N7(c d:Tr)(b:Bool):kB (.bin (13,0) c d) b=kB c (!b)++kB d b++[(tn 12 11 b,0)]:=by cases b<;>simp[kB,aZ,Tr.flat,tn]
theorem N8(c d:Tr)(b:Bool):kB (.bin (14,0) c d) b=(kB c false++kB d b++[(11,0)])++(kB c true++kB d (!b)++[(11,0)])++[(12,0)]:=by cases b<;>simp[kB,aZ,Tr.flat]
theorem N9(c d:Tr)(b:Bool):kB (.bin (15,0) c d) b=kB c b++kB d b++[(tn 15 16 b,0)]:=by cases b<;>simp[kB,aZ,Tr.flat,tn]
theorem Oa(c d:Tr)(b:Bool):kB (.bin (16,0) c d) b=kB c b++kB d b++[(tn 16 15 b,0)]:=by cases b<;>simp[kB,aZ,Tr.flat,tn]
theorem Ob(c d:Tr)(b:Bool):kB (.bin (17,0) c d) b=kB c false++kB d b++[(tn 17 18 b,0)]:=by cases b<;>simp[kB,aZ,Tr.flat,tn]
theorem Oc(c d:Tr)(b:Bool):kB (.bin (18,0) c d) b=kB c false++kB d b++[(tn 18 17 b,0)]:=by cases b<;>simp[kB,aZ,Tr.flat,tn]
theorem Oe(c d:Tr)(b:Bool):kB (.bin (21,0) c d) b=kB c false++kB d false++[(21,0)]:=by cases b<;>simp[kB,aZ,Tr.flat]
theorem Og(c d:Tr)(b:Bool):kB (.bin (22,0) c d) b=kB c false++kB d false++[(22,0)]:=by cases b<;>simp[kB,aZ,Tr.flat]
theorem Ax(h:T.WF)(hp:aB T=true):(aZ T).2=(aZ T).1:=by
 match T,h,hp with
 | .leaf (op,p),h,hp=>rcases qG h with⟨rfl,_⟩|⟨rfl,rfl|rfl|rfl|rfl|rfl⟩<;>cases hp
 | .un (op,p) c,h,hp=>
  obtain⟨rfl,_,_,ho⟩:=qw h;rcases ho with rfl|rfl|rfl|rfl|rfl|rfl|rfl|rfl<;>first|rfl|cases hp
 | .bin (op,p) c d,h,hp=>
  obtain⟨rfl,_,_,_,ho⟩:=qt h;rcases ho with rfl|rfl|rfl|rfl|rfl|rfl|rfl|rfl|rfl|rfl<;>first|rfl|cases hp
theorem Em(h:T.WF)(b:Bool):(kB T b).length<=2*wt T:=by
 cases hp:aB T with
 |false=>
  have:=NJ h
  have e:(rZ T).2=(aZ T).2.flat:=by show (if aB T then [] else _)=_;rw[hp];rfl
  rw[e]at this
  cases b with
  |false=>exact this.1
  |true=>exact this.2
 |true=>
  have e:kB T b=(aZ T).1.flat:=by
   cases b with
   |false=>rfl
   |true=>show (aZ T).2.flat=_;rw[Ax h hp]
  rw[e];have:=(NJ h).1
  exact this
structure It where
 op:Nat
 p:Nat
 a:Int
 b:Int
deriving DecidableEq
variable {aj:List It}{x:It}
def bg(k:Tk)(args:List Nat):It:=match args with
 | []=>⟨k.1,k.2,-1,-1⟩
 | [x]=>⟨k.1,k.2,(x:Int),-1⟩
 |x::y::_=>⟨k.1,k.2,(x:Int),(y:Int)⟩
def iQ(aj:List It)(x:It):List It×Nat:=match aj.findIdx? (· = x) with
 |some j=>(aj,j)
 |none=>(aj++[x],aj.length)
theorem En(aj:List It)(x:It):(∃j,iQ aj x=(aj,j)/\aj[j]? =some x)\/(iQ aj x=(aj++[x],aj.length)/\x ∉ aj):=by
 unfold iQ
 cases h:aj.findIdx? (· = x) with
 |none=>
  refine Or.inr ⟨rfl,fun hx=>?_⟩
  have:=List.findIdx?_eq_none_iff.1 h x hx
  simp at this
 |some j=>
  refine Or.inl ⟨j,rfl,?_⟩
  obtain⟨hj,h1,_⟩:=List.findIdx?_eq_some_iff_getElem.1 h;rw[List.getElem?_eq_getElem hj];simpa using h1
def aT(aj:List It):Tr->List It×Nat
 | .leaf k=>iQ aj (bg k [])
 | .un k c=>iQ (aT aj c).1 (bg k [(aT aj c).2])
 | .bin k c d=>iQ (aT (aT aj c).1 d).1 (bg k [(aT aj c).2,(aT (aT aj c).1 d).2])
inductive Rep (aj:List It):Nat->Tr->Prop where
 |leaf {n:Nat} {k:Tk}:aj[n]? =some (bg k [])->Rep aj n (.leaf k)
 |un {n m:Nat} {k:Tk} {c:Tr}:aj[n]? =some (bg k [m])->m<n->Rep aj m c->Rep aj n (.un k c)
 |bin {n m l:Nat} {k:Tk} {c d:Tr}:aj[n]? =some (bg k [m,l])->m<n->l<n->Rep aj m c->Rep aj l d->Rep aj n (.bin k c d)
theorem Rep.lt(h:Rep aj n T):n<aj.length:=by
 cases h with
 |leaf h=>exact(List.getElem?_eq_some_iff.1 h).1
 |un h _ _=>exact(List.getElem?_eq_some_iff.1 h).1
 |bin h _ _ _ _=>exact(List.getElem?_eq_some_iff.1 h).1
theorem V3(l:List It)(h:aj[n]? =some x):(aj++l)[n]? =some x:=by
 rw[List.getElem?_append_left (List.getElem?_eq_some_iff.1 h).1];exact h
theorem Rep.more(l:List It)(h:Rep aj n T):Rep (aj++l) n T:=by
 induction h with
 |leaf h=>exact .leaf (V3 l h)
 |un h h1 _ ih=>exact .un (V3 l h) h1 ih
 |bin h h1 h2 _ _ ih jh=>exact .bin (V3 l h) h1 h2 ih jh
theorem EU{k k':Tk}{a a':List Nat}(h:bg k a=bg k' a'):k=k'/\a.take 2=a'.take 2:=by
 obtain⟨k1,k2⟩:=k;obtain⟨k1',k2'⟩:=k'
 have ho:k1=k1'/\k2=k2'/\(bg (k1,k2) a).a=(bg (k1',k2') a').a/\(bg (k1,k2) a).b=(bg (k1',k2') a').b:=by
  refine⟨?_,?_,by rw[h],by rw[h]⟩
  ·have:=congrArg It.op h
   match a,a' with
   | [],[]=>exact this
   | [],[_]=>exact this
   | [],_::_::_=>exact this
   | [_],[]=>exact this
   | [_],[_]=>exact this
   | [_],_::_::_=>exact this
   |_::_::_,[]=>exact this
   |_::_::_,[_]=>exact this
   |_::_::_,_::_::_=>exact this
  ·have:=congrArg It.p h
   match a,a' with
   | [],[]=>exact this
   | [],[_]=>exact this
   | [],_::_::_=>exact this
   | [_],[]=>exact this
   | [_],[_]=>exact this
   | [_],_::_::_=>exact this
   |_::_::_,[]=>exact this
   |_::_::_,[_]=>exact this
   |_::_::_,_::_::_=>exact this
 obtain⟨rfl,rfl,ha,hb⟩:=ho;refine⟨rfl,?_⟩
 match a,a',ha,hb with
 | [],[],_,_=>rfl
 | [],[y],ha,_=>exact absurd (show (-1:Int)=(y:Int) from ha) (by omega)
 | [],y::_::_,ha,_=>exact absurd (show (-1:Int)=(y:Int) from ha) (by omega)
 | [x],[],ha,_=>exact absurd (show (x:Int)=-1 from ha) (by omega)
 | [x],[y],ha,_=>
  have:(x:Int)=(y:Int):=ha
  have e:x=y:=by omega
  rw[e]
 | [x],_::z::_,_,hb=>exact absurd (show (-1:Int)=(z:Int) from hb) (by omega)
 |x::_::_,[],ha,_=>exact absurd (show (x:Int)=-1 from ha) (by omega)
 |_::z::_,[_],_,hb=>exact absurd (show (z:Int)=-1 from hb) (by omega)
 |x::z::_,y::t::_,ha,hb=>
  have h1:(x:Int)=(y:Int):=ha;have h2:(z:Int)=(t:Int):=hb;have e1:x=y:=by omega
  have e2:z=t:=by omega
  subst e1 e2;simp
theorem Rep.tree{aj:List It}:∀{T T':Tr}{n:Nat},Rep aj n T->Rep aj n T'->T=T'
 | .leaf k,T',n,.leaf h,h'=>by
  cases h' with
  |leaf h2=>rw[h]at h2;injection h2 with h2;rw[(EU h2).1]
  |un h2 _ _=>rw[h]at h2;injection h2 with h2;have:=(EU h2).2;simp at this
  |bin h2 _ _ _ _=>rw[h]at h2;injection h2 with h2;have:=(EU h2).2;simp at this
 | .un k c,T',n,.un h _ hc,h'=>by
  cases h' with
  |leaf h2=>rw[h]at h2;injection h2 with h2;have:=(EU h2).2;simp at this
  |un h2 _ hc2=>
   rw[h]at h2;injection h2 with h2
   have:=EU h2
   simp at this
   obtain⟨e1,e2⟩:=this;subst e1 e2;rw[Rep.tree hc hc2]
  |bin h2 _ _ _ _=>rw[h]at h2;injection h2 with h2;have:=(EU h2).2;simp at this
 | .bin k c d,T',n,.bin h _ _ hc hd,h'=>by
  cases h' with
  |leaf h2=>rw[h]at h2;injection h2 with h2;have:=(EU h2).2;simp at this
  |un h2 _ _=>rw[h]at h2;injection h2 with h2;have:=(EU h2).2;simp at this
  |bin h2 _ _ hc2 hd2=>
   rw[h]at h2;injection h2 with h2
   have:=EU h2
   simp at this
   obtain⟨e1,e2,e3⟩:=this;subst e1 e2 e3;rw[Rep.tree hc hc2,Rep.tree hd hd2]
theorem Oh(hn:aj.Nodup){i j:Nat}(h:aj[i]? =some x)(h':aj[j]? =some x):i=j:=by
 obtain⟨hi,e1⟩:=List.getElem?_eq_some_iff.1 h;obtain⟨hj,e2⟩:=List.getElem?_eq_some_iff.1 h';exact(List.getElem_inj hn).1 (e1.trans e2.symm)
theorem Rep.num{aj:List It}(hn:aj.Nodup):∀{T:Tr}{n m:Nat},Rep aj n T->Rep aj m T->n=m
 | .leaf k,n,m,.leaf h,.leaf h'=>Oh hn h h'
 | .un k c,n,m,.un h _ hc,.un h' _ hc'=>by
  have e:=Rep.num hn hc hc';subst e;exact Oh hn h h'
 | .bin k c d,n,m,.bin h _ _ hc hd,.bin h' _ _ hc' hd'=>by
  have e:=Rep.num hn hc hc';have e':=Rep.num hn hd hd';subst e e';exact Oh hn h h'
theorem I9(aj:List It)(x:It):∃l,(iQ aj x).1=aj++l/\l.length<=1:=by
 rcases En aj x with⟨j,e,_⟩|⟨e,_⟩
 ·exact⟨[],by rw[e,List.append_nil],by simp⟩
 ·exact⟨[x],by rw[e],by simp⟩
theorem V4(aj:List It)(x:It):(iQ aj x).1[(iQ aj x).2]? =some x:=by
 rcases En aj x with⟨j,e,h⟩|⟨e,_⟩
 ·rw[e];exact h
 ·rw[e];simp
theorem V5(hn:aj.Nodup)(x:It):(iQ aj x).1.Nodup:=by
 rcases En aj x with⟨j,e,h⟩|⟨e,hx⟩
 ·rw[e];exact hn
 ·rw[e];exact List.nodup_append.2 ⟨hn,by simp,fun a ha b hb=>by simp at hb;subst hb;exact fun e=>hx (e ▸ ha)⟩
def Low(aj:List It):Prop:=∀(n:Nat)(x:It),aj[n]? =some x->x.a<(n:Int)/\x.b<(n:Int)
theorem TV(h:Low aj)(ha:x.a<(aj.length:Int))(hb:x.b<(aj.length:Int)):Low (iQ aj x).1:=by
 rcases En aj x with⟨j,e,_⟩|⟨e,_⟩
 ·rw[e];exact h
 ·rw[e]
  intro n y hy;by_cases hn:n<aj.length
  ·rw[List.getElem?_append_left hn]at hy;exact h n y hy
  ·have hn2:=(List.getElem?_eq_some_iff.1 hy).1
   simp at hn2
   obtain rfl:n=aj.length:=by omega
   simp at hy
   subst hy;exact⟨ha,hb⟩
structure Ins(aj:List It)(T:Tr)(r:List It×Nat):Prop where
 rep:Rep r.1 r.2 T
 pre:∃l,r.1=aj++l/\l.length<=T.size
 nodup:r.1.Nodup
 low:Low r.1
theorem V6(h:Low aj){k:Tk}(e:aj[n]? =some (bg k [m])):m<n:=by
 have:=(h n _ e).1
 simp[bg]at this
 exact this
theorem V7(h:Low aj){l:Nat}{k:Tk}(e:aj[n]? =some (bg k [m,l])):m<n/\l<n:=by
 have:=h n _ e
 simp[bg]at this
 exact this
theorem zO:∀(T:Tr)(aj:List It),aj.Nodup->Low aj->Ins aj T (aT aj T)
 | .leaf k,aj,hn,hl=>by
  have hlow:=TV (x:=bg k []) hl (by show (-1:Int)<_;omega) (by show (-1:Int)<_;omega)
  exact⟨.leaf (V4 _ _),I9 _ _,V5 hn _,hlow⟩
 | .un k c,aj,hn,hl=>by
  have ih:=zO c aj hn hl;have hlt:=ih.rep.lt;obtain⟨l,e,hll⟩:=ih.pre;have hlow:=TV (x:=bg k [(aT aj c).2]) ih.low (by show ((aT aj c).2:Int)<_;omega) (by show (-1:Int)<_;omega)
  obtain⟨l',e',hl'⟩:=I9 (aT aj c).1 (bg k [(aT aj c).2]);have hat:=V4 (aT aj c).1 (bg k [(aT aj c).2]);refine⟨?_,⟨l++l',?_,?_⟩,V5 ih.nodup _,hlow⟩
  ·refine .un hat (V6 hlow hat) ?_
   show Rep (iQ (aT aj c).1 (bg k [(aT aj c).2])).1 _ _
   rw[e'];exact ih.rep.more _
  ·show (iQ (aT aj c).1 (bg k [(aT aj c).2])).1=_
   rw[e',e,List.append_assoc]
  ·simp[Tr.size];omega
 | .bin k c d,aj,hn,hl=>by
  have ih:=zO c aj hn hl;have jh:=zO d (aT aj c).1 ih.nodup ih.low;have hlt:=ih.rep.lt;have hlt2:=jh.rep.lt;obtain⟨l,e,hll⟩:=ih.pre;obtain⟨l2,e2,AE⟩:=jh.pre;have hge:(aT aj c).1.length<=(aT (aT aj c).1 d).1.length:=by rw[e2];simp
  have hlow:=TV (x:=bg k [(aT aj c).2,(aT (aT aj c).1 d).2]) jh.low (by show ((aT aj c).2:Int)<_;omega) (by show ((aT (aT aj c).1 d).2:Int)<_;omega)
  obtain⟨l',e',hl'⟩:=I9 (aT (aT aj c).1 d).1 (bg k [(aT aj c).2,(aT (aT aj c).1 d).2]);have hat:=V4 (aT (aT aj c).1 d).1 (bg k [(aT aj c).2,(aT (aT aj c).1 d).2]);have Oi:=V7 hlow hat;refine⟨?_,⟨l++l2++l',?_,?_⟩,V5 jh.nodup _,hlow⟩
  ·refine .bin hat Oi.1 Oi.2 ?_ ?_
   ·show Rep (iQ (aT (aT aj c).1 d).1 (bg k [(aT aj c).2,(aT (aT aj c).1 d).2])).1 _ _
    rw[e',e2,List.append_assoc];exact ih.rep.more _
   ·show Rep (iQ (aT (aT aj c).1 d).1 (bg k [(aT aj c).2,(aT (aT aj c).1 d).2])).1 _ _
    rw[e'];exact jh.rep.more _
  ·show (iQ (aT (aT aj c).1 d).1 (bg k [(aT aj c).2,(aT (aT aj c).1 d).2])).1=_
   rw[e',e2,e,List.append_assoc,List.append_assoc,List.append_assoc]
  ·simp[Tr.size];omega
theorem V8(hn:aj.Nodup)(h:aj[n]? =some x):iQ aj x=(aj,n):=by
 rcases En aj x with⟨j,e,h'⟩|⟨_,hx⟩
 ·rw[e,Oh hn h' h]
 ·exact absurd (List.mem_of_getElem? h) hx
theorem TW{aj:List It}(hn:aj.Nodup):∀{T:Tr}{n:Nat},Rep aj n T->aT aj T=(aj,n)
 | .leaf k,n,.leaf h=>V8 hn h
 | .un k c,n,.un h _ hc=>by
  have ih:=TW hn hc
  show iQ (aT aj c).1 (bg k [(aT aj c).2])=_
  rw[ih];exact V8 hn h
 | .bin k c d,n,.bin h _ _ hc hd=>by
  have ih:=TW hn hc;have jh:=TW hn hd
  show iQ (aT (aT aj c).1 d).1 (bg k [(aT aj c).2,(aT (aT aj c).1 d).2])=_
  rw[ih];dsimp only
  rw[jh];exact V8 hn h
def iT(s:List It×List Nat)(k:Tk):List It×List Nat:=((iQ s.1 (bg k (s.2.drop (s.2.length-gu k)))).1,s.2.take (s.2.length-gu k)++[(iQ s.1 (bg k (s.2.drop (s.2.length-gu k)))).2])
def vK(ts:List Tk)(s:List It×List Nat):List It×List Nat:=ts.foldl iT s
theorem qa2(a b:List Tk)(s:List It×List Nat):vK (a++b) s=vK b (vK a s):=by unfold vK;rw[List.foldl_append]
theorem q5z:∀T:Tr,T.WF->∀aj st,vK T.flat (aj,st)=((aT aj T).1,st++[(aT aj T).2])
 | .leaf (op,p),h,aj,st=>by
  have e:=Ci h.1;have hd:=Ei st [] 0 rfl;rw[List.append_nil]at hd
  show iT (aj,st) (op,p)=_
  unfold iT;dsimp only
  rw[e,hd.1,hd.2];rfl
 | .un (op,p) c,h,aj,st=>by
  have e:=Ci h.1;have hd:=Ei st [(aT aj c).2] 1 rfl
  show vK (c.flat++[(op,p)]) (aj,st)=_
  rw[qa2,q5z c h.2.2]
  show iT _ (op,p)=_
  unfold iT;dsimp only
  rw[e,hd.1,hd.2];rfl
 | .bin (op,p) c d,h,aj,st=>by
  have e:=Ci h.1;have hd:=Ei st [(aT aj c).2,(aT (aT aj c).1 d).2] 2 rfl
  show vK (c.flat++d.flat++[(op,p)]) (aj,st)=_
  rw[qa2,qa2,q5z c h.2.2.1,q5z d h.2.2.2]
  show iT _ (op,p)=_
  rw[show st++[(aT aj c).2]++[(aT (aT aj c).1 d).2]=st++[(aT aj c).2,(aT (aT aj c).1 d).2] by simp]
  unfold iT;dsimp only
  rw[e,hd.1,hd.2];rfl
def Whole(aj:List It):Prop:=∀n,n<aj.length->∃T:Tr,Rep aj n T
theorem V9(h:Whole aj)(hx:x ∉ aj->∃T,Rep (aj++[x]) aj.length T):Whole (iQ aj x).1:=by
 rcases En aj x with⟨j,e,_⟩|⟨e,hn⟩
 ·rw[e];exact h
 ·rw[e]
  intro n hlt;by_cases hn2:n<aj.length
  ·obtain⟨T,hT⟩:=h n hn2
   exact⟨T,hT.more _⟩
  ·simp at hlt
   obtain rfl:n=aj.length:=by omega
   exact hx hn
theorem TY:∀(T:Tr)(aj:List It),aj.Nodup->Low aj->Whole aj->Whole (aT aj T).1
 | .leaf k,aj,_,_,hw=>V9 hw fun _=>⟨.leaf k,.leaf (by simp)⟩
 | .un k c,aj,hn,hl,hw=>by
  have ih:=zO c aj hn hl;have iw:=TY c aj hn hl hw;exact V9 iw fun _=>⟨.un k c,.un (by simp) ih.rep.lt (ih.rep.more _)⟩
 | .bin k c d,aj,hn,hl,hw=>by
  have ih:=zO c aj hn hl;have iw:=TY c aj hn hl hw;have jh:=zO d _ ih.nodup ih.low;have jw:=TY d _ ih.nodup ih.low iw;obtain⟨l,e,_⟩:=jh.pre;have hc:Rep (aT (aT aj c).1 d).1 (aT aj c).2 c:=by rw[e];exact ih.rep.more _
  exact V9 jw fun _=>⟨.bin k c d,.bin (by simp) hc.lt jh.rep.lt (hc.more _) (jh.rep.more _)⟩
structure TabIs(aj:List It):Prop where
 nodup:aj.Nodup
 low:Low aj
 whole:Whole aj
 few:aj.length<=4096
theorem dr:TabIs []:=⟨by simp,fun n x h=>(by simp at h),fun n h=>(by simp at h),by simp⟩
def kI(aj:List It)(ts:List Tk):List It:=(vK ts (aj,[])).1
def kN(aj:List It)(ts:List Tk):Nat:=(vK ts (aj,[])).2.getLast?.getD 0
theorem Wh(h:T.WF)(aj:List It):kI aj T.flat=(aT aj T).1/\kN aj T.flat=(aT aj T).2:=by
 unfold kI kN;rw[q5z T h];exact⟨rfl,by simp⟩
noncomputable def iI (aj:List It) (ts:List Tk):Nat:=if bM ts≠0 then bM ts else if 4096<(kI aj ts).length then 3 else 0
noncomputable def jZ (aj:List It) (ts:List Tk):List It:=if iI aj ts=0 then kI aj ts else aj
noncomputable def kH (aj:List It) (ts:List Tk):Nat:=if iI aj ts=0 then kN aj ts else 0
noncomputable def xC (aj:List It) (ts:List Tk):Bool:=decide (bM ts=0)&&decide (kI aj ts=aj)
noncomputable def GV (aj:List It) (ts:List Tk):Nat:=if xC aj ts=true then kN aj ts else 0
structure Kept(aj:List It)(ts:List Tk)(n:Nat)(aI:List It):Prop where
 is:TabIs aI
 pre:∃l,aI=aj++l
 rep:∃T:Tr,T.WF/\aB T=false/\ts=T.flat/\Rep aI n T
 lt:n<aI.length
 again:iI aI ts=0/\jZ aI ts=aI/\kH aI ts=n
 find:xC aI ts=true/\GV aI ts=n
theorem kept(h:TabIs aj)(he:iI aj ts=0):Kept aj ts (kH aj ts) (jZ aj ts):=by
 have hI:jZ aj ts=kI aj ts:=if_pos he;have hN:kH aj ts=kN aj ts:=if_pos he
 have hc:bM ts=0:=by
  unfold iI at he;by_cases hc:bM ts=0
  ·exact hc
  ·rw[if_pos hc]at he;exact absurd he hc
 have hl:¬4096<(kI aj ts).length:=by
  intro hl;unfold iI at he;rw[if_neg (by omega),if_pos hl]at he
  cases he
 rw[hI,hN];obtain⟨hts,T,hW,hp,hk,rfl⟩:=LJ.1 hc;obtain⟨e1,e2⟩:=Wh hW aj;rw[e1]at hl;have ins:=zO T aj h.nodup h.low;have hw:=TY T aj h.nodup h.low h.whole;rw[e1,e2];obtain⟨f1,f2⟩:=Wh hW (aT aj T).1;have there:=TW ins.nodup ins.rep;rw[there]at f1 f2;have hE:iI (aT aj T).1 T.flat=0:=by unfold iI;rw[if_neg (by omega),f1,if_neg hl]
 refine⟨⟨ins.nodup,ins.low,hw,by omega⟩,?_,⟨T,hW,hp,rfl,ins.rep⟩,ins.rep.lt,⟨hE,?_,?_⟩,?_,?_⟩
 ·obtain⟨l,e,_⟩:=ins.pre
  exact⟨l,e⟩
 ·unfold jZ;rw[if_pos hE,f1]
 ·unfold kH;rw[if_pos hE,f2]
 ·unfold xC;rw[f1,hc];simp
 ·have:xC (aT aj T).1 T.flat=true:=by unfold xC;rw[f1,hc];simp
  unfold GV;rw[if_pos this,f2]
theorem Wj{S:Tr}(hT:T.WF)(hS:S.WF)(h:T.flat=S.flat):T=S:=by
 have h1:=GU T hT [];have h2:=GU S hS [];rw[h,h2]at h1;simpa using h1.symm
abbrev Cm:=List It->It->Option (List It×Nat)
def kJ(fd:Cm)(s:List It×List Nat)(k:Tk):Option (List It×List Nat):=(fd s.1 (bg k (s.2.drop (s.2.length-gu k)))).map fun r=>(r.1,s.2.take (s.2.length-gu k)++[r.2])
def nS(fd:Cm):List Tk->List It×List Nat->Option (List It×List Nat)
 | [],s=>some s
 |k::r,s=>(kJ fd s k).bind (nS fd r)
theorem Wn(fd:Cm):∀(a b:List Tk)(s:List It×List Nat),nS fd (a++b) s=(nS fd a s).bind (nS fd b)
 | [],b,s=>rfl
 |k::a,b,s=>by
  show (kJ fd s k).bind (nS fd (a++b))=((kJ fd s k).bind (nS fd a)).bind (nS fd b)
  cases kJ fd s k with
  |none=>rfl
  |some t=>exact Wn fd a b t
theorem AG(fd:Cm)(h:k<ts.length){s t:List It×List Nat}(hs:nS fd (ts.take k) s=some t):nS fd (ts.take (k+1)) s=kJ fd t ts[k]:=by
 rw[List.take_add_one,List.getElem?_eq_getElem h]
 show nS fd (ts.take k++[ts[k]]) s=_
 rw[Wn,hs]
 show (kJ fd t ts[k]).bind (nS fd [])=_
 cases kJ fd t ts[k]<;>rfl
theorem AH(fd:Cm){s:List It×List Nat}(h:nS fd (ts.take k) s=none):nS fd ts s=none:=by
 have:nS fd (ts.take k++ts.drop k) s=none:=by rw[Wn,h];rfl
 rwa [List.take_append_drop]at this
theorem dt(fd:Cm):∀(ts:List Tk)(s t:List It×List Nat)(g:List Tr),s.2.length=g.length->nS fd ts s=some t->t.2.length=(gS ts g).length
 | [],s,t,g,h,e=>by injection e with e;subst e;exact h
 |k::ts,s,t,g,h,e=>by
  have e':(kJ fd s k).bind (nS fd ts)=some t:=e
  cases hn:kJ fd s k with
  |none=>rw[hn]at e';cases e'
  |some u=>
   rw[hn]at e'
   show t.2.length=(gS ts (kY g k)).length
   refine dt fd ts u t _ ?_ e'
   unfold kJ at hn
   cases hf:fd s.1 (bg k (s.2.drop (s.2.length-gu k))) with
   |none=>rw[hf]at hn;cases hn
   |some r=>
    rw[hf]at hn;injection hn with hn;subst hn;unfold kY;simp[h]
structure Oj(fd:Cm):Prop where
 lt:∀{aj x r},fd aj x=some r->r.2<r.1.length
 pre:∀{aj x r},fd aj x=some r->∃l,r.1=aj++l
def vM(aj:List It)(x:It):Option (List It×Nat):=match aj.findIdx? (· = x) with
 |some j=>some (aj,j)
 |none=>if aj.length=4096 then none else some (aj++[x],aj.length)
theorem AK:Oj vM:=by
 refine⟨fun {aj x r} h=>?_,fun {aj x r} h=>?_⟩
 ·unfold vM at h
  split at h
  ·rename_i j hj
   injection h with h;subst h;exact(List.findIdx?_eq_some_iff_getElem.1 hj).1
  ·split at h
   ·cases h
   ·injection h with h
    subst h;simp
 ·unfold vM at h
  split at h
  ·injection h with h
   subst h;exact⟨[],by simp⟩
  ·split at h
   ·cases h
   ·injection h with h
    subst h;exact⟨[x],rfl⟩
theorem AN(aj:List It)(x:It)(hl:aj.length<=4096):vM aj x=if (iQ aj x).1.length<=4096 then some (iQ aj x) else none:=by
 unfold vM iQ
 cases aj.findIdx? (· = x) with
 |some j=>simp only;rw[if_pos hl]
 |none=>
  simp only[List.length_append,List.length_cons,List.length_nil]
  by_cases e:aj.length=4096
  ·rw[if_pos e,if_neg (by omega)]
  ·rw[if_neg e,if_pos (by omega)]
theorem du:∀(ts:List Tk)(s:List It×List Nat),∃l,(vK ts s).1=s.1++l
 | [],s=>⟨[],by simp[vK]⟩
 |k::ts,s=>by
  obtain⟨l,h⟩:=du ts (iT s k);obtain⟨l',h',_⟩:=I9 s.1 (bg k (s.2.drop (s.2.length-gu k)));refine⟨l'++l,?_⟩
  show (vK ts (iT s k)).1=_
  rw[h,show (iT s k).1=s.1++l' from h',List.append_assoc]
theorem Wp:∀(ts:List Tk)(s:List It×List Nat),s.1.length<=4096->nS vM ts s=if (vK ts s).1.length<=4096 then some (vK ts s) else none
 | [],s,h=>by show some s=_;rw[show vK [] s=s from rfl,if_pos h]
 |k::ts,s,h=>by
  show (kJ vM s k).bind (nS vM ts)=_
  rw[show vK (k::ts) s=vK ts (iT s k) from rfl];unfold kJ;rw[AN _ _ h];by_cases c:(iQ s.1 (bg k (s.2.drop (s.2.length-gu k)))).1.length<=4096
  ·rw[if_pos c]
   show nS vM ts (iT s k)=_
   exact Wp ts _ c
  ·rw[if_neg c]
   obtain⟨l,hl⟩:=du ts (iT s k);rw[if_neg]
   ·rfl
   ·rw[hl,List.length_append]
    have:(iT s k).1.length=(iQ s.1 (bg k (s.2.drop (s.2.length-gu k)))).1.length:=rfl
    omega
theorem AW(x k:Nat)(hx:x<18446744073709551616):(Go.bits .and .u64 ((x:Int) / 2 ^ k) 1==1)=x.testBit k:=by
 have e:((x:Int) / 2 ^ k)=((x / 2 ^ k:Nat):Int):=by simp
 have hd:x / 2 ^ k<=x:=Nat.div_le_self _ _;rw[e];have:=u64_and_nat (x / 2 ^ k) 1 (by omega) (by decide)
 rw[show ((1:Nat):Int)=1 from rfl]at this;rw[this,Nat.and_one_is_mod,Nat.testBit_eq_decide_div_mod_eq];have:((x / 2 ^ k % 2:Nat):Int)=1↔x / 2 ^ k % 2=1:=by omega
 by_cases h:x / 2 ^ k % 2=1<;>simp[h]<;>omega
end Go.Proofs.YtoioiellaomonaaGreatDoor
