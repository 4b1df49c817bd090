import Derived.WalkKit
import Derived.WalkSpells
import Derived.Maps.OwnSet
import Derived.Test.YtoioiellaomonaaGreatDoorProg
import Derived.WalkLawsBesides
import Derived.BigQuiet
import Derived.Deep.QuietTactic
import Derived.Lib.TrailingZeros
import Derived.Test.YtoioiellaomonaaGreatDoorZ00
import Derived.Test.YtoioiellaomonaaGreatDoorZ01
set_option maxRecDepth 100000
set_option maxHeartbeats 16000000
namespace Go.Proofs.YtoioiellaomonaaGreatDoor
open Go.RowKit Go.Maps
theorem Wq{B g:Nat}{a w:World}(h:Below B a w)(hg:B<=g)(cs:Array Value):Below B a (w.setRow g cs) :=
 h.trans ⟨rfl,rfl,rfl,by simp,fun k hk=>setRow_other _ _ _ _ (by omega)⟩
end Go.Proofs.YtoioiellaomonaaGreatDoor
namespace Go.Proofs.YtoioiellaomonaaGreatDoor
variable {a b l r r' s t L:List Nat}{c d T:Tr}{x p k i m n op:Nat}{and:Bool}{ts:List Tk}
abbrev Wi(a b:Nat):Prop:=a &&& b=a
theorem Eo{a b:Nat}:Wi a b↔∀i,a.testBit i=true->b.testBit i=true:=by
 unfold Wi
 constructor
 ·intro h i hi
  have:=congrArg (fun x=>x.testBit i) h
  simp only[Nat.testBit_and,hi,Bool.true_and]at this
  exact this
 ·intro h
  apply Nat.eq_of_testBit_eq
  intro i;rw[Nat.testBit_and]
  cases ha:a.testBit i with
  |false=>rfl
  |true=>rw[h i ha];rfl
theorem Ja(a:Nat):Wi a a:=Eo.2 fun _ h=>h
theorem Ol{a b c:Nat}(h:Wi a b)(k:Wi b c):Wi a c:=Eo.2 fun i hi=>Eo.1 k i (Eo.1 h i hi)
theorem dx{a b:Nat}(h:Wi a b)(k:Wi b a):a=b:=by
 apply Nat.eq_of_testBit_eq
 intro i
 cases ha:a.testBit i with
 |true=>exact(Eo.1 h i ha).symm
 |false=>
  cases hb:b.testBit i with
  |false=>rfl
  |true=>rw[Eo.1 k i hb]at ha;cases ha
theorem CG{a b:Nat}(h:Wi a b):a<=b:=by
 unfold Wi at h;rw[<-h];exact Nat.and_le_right
abbrev uN(l:List Nat)(h:Nat):Prop:=∃s∈l,Wi s h
def yI(l:List Nat)(h:Nat):Bool:=decide (uN l h)
abbrev xE(l:List Nat)(x:Nat):Prop:=x∈l/\∀y∈l,Wi y x->y=x
structure kE(l r:List Nat):Prop where
 up:r.Pairwise (· < ·)
 mem:∀x,x∈r↔xE l x
theorem q32:∀{a b:List Nat},a.Pairwise (· < ·)->b.Pairwise (· < ·)->(∀x,x∈a↔x∈b)->a=b
 | [],[],_,_,_=>rfl
 | [],y::b,_,_,h=>absurd ((h y).2 (by simp)) (by simp)
 |x::a,[],_,_,h=>absurd ((h x).1 (by simp)) (by simp)
 |x::a,y::b,ha,hb,h=>by
  obtain⟨ha1,ha2⟩:=List.pairwise_cons.1 ha;obtain⟨hb1,hb2⟩:=List.pairwise_cons.1 hb
  have e:x=y:=by
   have h1:=(h x).1 (by simp)
   have h2:=(h y).2 (by simp)
   rcases List.mem_cons.1 h1 with h1|h1
   ·exact h1
   ·rcases List.mem_cons.1 h2 with h2|h2
    ·exact h2.symm
    ·have:=hb1 x h1
     have:=ha1 y h2
     omega
  subst e;refine congrArg (x :: ·) (q32 ha2 hb2 fun z=>?_)
  constructor
  ·intro hz
   rcases List.mem_cons.1 ((h z).1 (by simp[hz])) with e|e
   ·have:=ha1 z hz;omega
   ·exact e
  ·intro hz
   rcases List.mem_cons.1 ((h z).2 (by simp[hz])) with e|e
   ·have:=hb1 z hz;omega
   ·exact e
theorem kE.one(h:kE l r)(h':kE l r'):r=r':=q32 h.up h'.up fun x=>(h.mem x).trans (h'.mem x).symm
theorem dy(l:List Nat):∀(n x:Nat),x<=n->x∈l->∃y,xE l y/\Wi y x:=by
 intro n
 induction n with
 |zero=>
  intro x hx hm;obtain rfl:x=0:=by omega
  exact⟨0,⟨hm,fun y hy hw=>by have:=CG hw;omega⟩,Ja 0⟩
 |succ n ih=>
  intro x hx hm;by_cases h:xE l x
  ·exact⟨x,h,Ja x⟩
  ·have:∃y∈l,Wi y x/\y≠x:=by
    apply Classical.byContradiction
    intro hc
    apply h
    refine⟨hm,fun y hy hw=>?_⟩
    apply Classical.byContradiction
    intro he;exact hc ⟨y,hy,hw,he⟩
   obtain⟨y,hy,hw,hne⟩:=this;have:=CG hw
   obtain⟨z,hz,hzw⟩:=ih y (by omega) hy
   exact⟨z,hz,Ol hzw hw⟩
theorem kE.holds(h:kE l r)(held:Nat):uN r held↔uN l held:=by
 constructor
 ·rintro⟨s,hs,hw⟩
  exact⟨s,((h.mem s).1 hs).1,hw⟩
 ·rintro⟨s,hs,hw⟩
  obtain⟨y,hy,Om⟩:=dy l s s (Nat.le_refl _) hs;exact⟨y,(h.mem y).2 hy,Ol Om hw⟩
theorem dC(h:∀held,uN a held↔uN b held)(hx:xE a x):xE b x:=by
 obtain⟨s,hs,hw⟩:=(h x).1 ⟨x,hx.1,Ja x⟩;obtain⟨t,ht,hw2⟩:=(h s).2 ⟨s,hs,Ja s⟩;have e:=hx.2 t ht (Ol hw2 hw);subst e;have e:=dx hw hw2;subst e;refine⟨hs,fun y hy Om=>?_⟩
 obtain⟨u,hu,dE⟩:=(h y).2 ⟨y,hy,Ja y⟩;have e:=hx.2 u hu (Ol dE Om);subst e;exact dx Om dE
theorem A0(h:kE a r)(h':kE b r')(hs:∀held,uN a held↔uN b held):r=r' :=
 q32 h.up h'.up fun x=>by
  rw[h.mem,h'.mem];exact⟨dC hs,dC fun held=>(hs held).symm⟩
theorem A1{h:Nat}:uN (a++b) h↔uN a h\/uN b h:=by
 unfold uN
 constructor
 ·rintro⟨s,hs,hw⟩
  rcases List.mem_append.1 hs with hs|hs
  ·exact Or.inl ⟨s,hs,hw⟩
  ·exact Or.inr ⟨s,hs,hw⟩
 ·rintro (⟨s,hs,hw⟩|⟨s,hs,hw⟩)
  ·exact⟨s,by simp[hs],hw⟩
  ·exact⟨s,by simp[hs],hw⟩
def dI(a b:List Nat):List Nat:=a.flatMap fun x=>b.map fun y=>x ||| y
theorem Oo(a b:List Nat):(dI a b).length=a.length*b.length:=by
 unfold dI
 induction a with
 |nil=>simp
 |cons x a ih=>rw[List.flatMap_cons,List.length_append,ih,List.length_map,List.length_cons,Nat.succ_mul];omega
def vN(x:Nat):List Nat->List Nat
 | []=>[x]
 |y::r=>if x<y then x::y::r else if x=y then y::r else y::vN x r
theorem Ws(x z:Nat):∀l:List Nat,z∈vN x l↔z=x\/z∈l
 | []=>by simp[vN]
 |y::r=>by
  unfold vN
  split
  ·simp
  ·split
   ·rename_i h1 h2;subst h2;simp
   ·simp only[List.mem_cons,Ws x z r]
    constructor
    ·rintro (h|h|h)
     ·exact Or.inr (Or.inl h)
     ·exact Or.inl h
     ·exact Or.inr (Or.inr h)
    ·rintro (h|h|h)
     ·exact Or.inr (Or.inl h)
     ·exact Or.inl h
     ·exact Or.inr (Or.inr h)
theorem ef(x:Nat):∀l:List Nat,l.Pairwise (· < ·)->(vN x l).Pairwise (· < ·)
 | [],_=>by simp[vN]
 |y::r,h=>by
  obtain⟨h1,h2⟩:=List.pairwise_cons.1 h;unfold vN
  split
  ·rename_i hx
   refine List.pairwise_cons.2 ⟨fun z hz=>?_,h⟩
   rcases List.mem_cons.1 hz with rfl|hz
   ·exact hx
   ·have:=h1 z hz;omega
  ·split
   ·exact h
   ·rename_i hx hy
    refine List.pairwise_cons.2 ⟨fun z hz=>?_,ef x r h2⟩
    rcases (Ws x z r).1 hz with rfl|hz
    ·omega
    ·exact h1 z hz
def uO(l:List Nat):List Nat:=l.foldr vN []
theorem eg(z:Nat):∀l:List Nat,z∈uO l↔z∈l
 | []=>by simp[uO]
 |x::l=>by
  show z∈vN x (uO l)↔_
  rw[Ws,eg z l,List.mem_cons]
theorem ei:∀l:List Nat,(uO l).Pairwise (· < ·)
 | []=>by simp[uO]
 |x::l=>ef x _ (ei l)
def aJ(l:List Nat):List Nat:=(uO l).filter fun x=>decide (xE l x)
theorem EW(l:List Nat):kE l (aJ l):=by
 refine⟨(ei l).filter _,fun x=>?_⟩
 unfold aJ;rw[List.mem_filter,eg,decide_eq_true_eq];exact⟨fun h=>h.2,fun h=>⟨h.1,h⟩⟩
theorem ek(h:kE l r):r=aJ l:=h.one (EW l)
theorem en(hs:∀held,uN a held↔uN b held):aJ a=aJ b:=A0 (EW a) (EW b) hs
theorem A2(l:List Nat)(held:Nat):uN (aJ l) held↔uN l held:=(EW l).holds held
theorem LP(h:x∈aJ l):x∈l:=((EW l).mem x).1 h |>.1
theorem ew:∀{a l:List Nat},a.Pairwise (· < ·)->(∀x∈a,x∈l)->a.length<=l.length
 | [],_,_,_=>Nat.zero_le _
 |x::a,l,h,hs=>by
  obtain⟨h1,h2⟩:=List.pairwise_cons.1 h;have hm:=hs x (by simp)
  have:=ew (l:=l.erase x) h2 (fun y hy=>by
   have:=h1 y hy
   exact(List.mem_erase_of_ne (by omega)).2 (hs y (by simp[hy])))
  rw[List.length_erase_of_mem hm]at this;have hp:=List.length_pos_of_mem hm;simp only[List.length_cons]
  omega
theorem Oq(l:List Nat):(aJ l).length<=l.length:=ew (EW l).up fun _ hx=>LP hx
theorem Ot{a b:Nat}(ha:a<2 ^ 64)(hb:b<2 ^ 64):a ||| b<2 ^ 64:=Nat.or_lt_two_pow ha hb
theorem A3{p:List Nat}(hx:∀y∈p,y<=x):aJ (p++[x])=if yI (aJ p) x then aJ p else aJ p++[x]:=by
 have hh:yI (aJ p) x=true↔uN p x:=by
  unfold yI;rw[decide_eq_true_iff];exact A2 p x
 split
 ·rename_i h
  obtain⟨s,hs,hw⟩:=hh.1 h;refine en fun held=>?_
  rw[A1]
  constructor
  ·rintro (h1|⟨y,hy,h1⟩)
   ·exact h1
   ·rcases List.mem_singleton.1 hy with rfl
    exact⟨s,hs,Ol hw h1⟩
  ·exact Or.inl
 ·rename_i h
  have hn:¬uN p x:=fun k=>h (hh.2 k)
  have hxp:x ∉ p:=fun k=>hn ⟨x,k,Ja x⟩
  symm
  refine ek ⟨?_,fun y=>?_⟩
  ·refine List.pairwise_append.2 ⟨(EW p).up,List.pairwise_singleton _ _,fun y hy z hz=>?_⟩
   rcases List.mem_singleton.1 hz with rfl
   have h1:=LP hy;have h2:=hx y h1;have h3:y≠z:=fun e=>hxp (e ▸ h1)
   omega
  ·rw[List.mem_append,(EW p).mem,List.mem_singleton]
   constructor
   ·rintro (⟨h1,h2⟩|rfl)
    ·refine⟨by simp[h1],fun z hz hw=>?_⟩
     rcases List.mem_append.1 hz with hz|hz
     ·exact h2 z hz hw
     ·rcases List.mem_singleton.1 hz with rfl
      have:=CG hw
      have:=hx y h1
      omega
    ·refine⟨by simp,fun z hz hw=>?_⟩
     rcases List.mem_append.1 hz with hz|hz
     ·exact absurd ⟨z,hz,hw⟩ hn
     ·exact List.mem_singleton.1 hz
   ·rintro⟨h1,h2⟩
    rcases List.mem_append.1 h1 with h1|h1
    ·exact Or.inl ⟨h1,fun z hz hw=>h2 z (by simp[hz]) hw⟩
    ·exact Or.inr (List.mem_singleton.1 h1)
theorem A4(hs:s.Pairwise (· <= ·))(hk:k<s.length):aJ (s.take (k+1))=if yI (aJ (s.take k)) (s.getD k 0) then aJ (s.take k) else aJ (s.take k)++[s.getD k 0]:=by
 have e:s.take (k+1)=s.take k++[s.getD k 0]:=by
  rw[List.take_add_one,List.getElem?_eq_getElem hk,List.getD_eq_getElem?_getD,List.getElem?_eq_getElem hk];rfl
 rw[e];refine A3 fun y hy=>?_
 obtain⟨j,hj,rfl⟩:=List.getElem_of_mem hy;rw[List.length_take]at hj;rw[List.getElem_take,List.getD_eq_getElem?_getD,List.getElem?_eq_getElem hk];exact List.pairwise_iff_getElem.1 hs j k (by omega) hk (by omega)
theorem A5(h:s.Perm l):aJ s=aJ l:=en fun held=>by
 unfold uN
 constructor
 ·rintro⟨x,hx,hw⟩;exact⟨x,h.mem_iff.1 hx,hw⟩
 ·rintro⟨x,hx,hw⟩;exact⟨x,h.mem_iff.2 hx,hw⟩
theorem eA(hk:k<a.length):dI (a.take (k+1)) b=dI (a.take k) b++b.map fun y=>a.getD k 0 ||| y:=by
 have e:a.take (k+1)=a.take k++[a.getD k 0]:=by
  rw[List.take_add_one,List.getElem?_eq_getElem hk,List.getD_eq_getElem?_getD,List.getElem?_eq_getElem hk];rfl
 rw[e];unfold dI;rw[List.flatMap_append];simp
theorem eB{j:Nat}(hj:j<b.length):((b.take (j+1)).map fun y=>x ||| y)=((b.take j).map fun y=>x ||| y)++[x ||| b.getD j 0]:=by
 have e:b.take (j+1)=b.take j++[b.getD j 0]:=by
  rw[List.take_add_one,List.getElem?_eq_getElem hj,List.getD_eq_getElem?_getD,List.getElem?_eq_getElem hj];rfl
 rw[e,List.map_append];rfl
theorem A6{d:List Int}(hp:d.Perm (l.map fun (x:Nat)=>(x:Int)))(hu:d.Pairwise (· <= ·)):∃s:List Nat,d=(s.map fun (x:Nat)=>(x:Int))/\s.Perm l/\s.Pairwise (· <= ·):=by
 have h0:∀x∈d,((x.toNat:Nat):Int)=x:=fun x hx=>by
  obtain⟨y,_,rfl⟩:=List.mem_map.1 (hp.mem_iff.1 hx);simp
 have e:d=((d.map Int.toNat).map fun (x:Nat)=>(x:Int)):=by
  rw[List.map_map]
  conv=>lhs;rw[<-List.map_id d]
  refine List.map_congr_left fun x hx=>?_
  exact(h0 x hx).symm
 refine⟨d.map Int.toNat,e,?_,?_⟩
 ·have:=hp.map Int.toNat
  rw[List.map_map]at this;simpa [Function.comp_def] using this
 ·rw[List.pairwise_map]
  exact hu.imp fun h=>by omega
def aY(s:Nat):List Nat:=(List.range 64).filter fun i=>s.testBit i
theorem qS{s:Nat}:i∈aY s↔i<64/\s.testBit i=true:=by
 unfold aY;rw[List.mem_filter,List.mem_range]
theorem Wu(s:Nat):(aY s).Pairwise (· < ·):=List.pairwise_lt_range.filter _
theorem A7:aY 0=[]:=by
 unfold aY;rw[List.filter_eq_nil_iff];intro i _;rw[Nat.zero_testBit];simp
theorem eC(s:Nat):(aY s).length<=64:=by
 unfold aY;exact Nat.le_trans (List.length_filter_le _ _) (by simp)
theorem eD(x:Nat)(h0:x≠0)(h:x<2 ^ 64):Lib.ctz 64 x<64/\x.testBit (Lib.ctz 64 x)=true/\∀i,i<Lib.ctz 64 x->x.testBit i=false:=by
 obtain⟨m,hm,hk⟩:=Lib.ctzFrom_spec 64 x (by omega) h
 have e:Lib.ctz 64 x=Lib.ctzFrom 64 x:=by simp[Lib.ctz,h0]
 rw[e];generalize Lib.ctzFrom 64 x=k at *;refine⟨hk,?_,fun i hi=>?_⟩
 ·rw[hm,Nat.mul_comm,Nat.testBit_mul_two_pow]
  simp[Nat.testBit_zero]
 ·rw[hm,Nat.mul_comm,Nat.testBit_mul_two_pow]
  simp;omega
def oH(x k:Nat):Nat:=x &&& (18446744073709551615-2 ^ k)
theorem Wv(hk:k<64):(oH x k).testBit i=(x.testBit i&&(decide (i<64) && !decide (k=i))):=by
 unfold oH;have hb:=Nat.testBit_two_pow_sub_succ (n:=64) (x:=2 ^ k) (Nat.pow_lt_pow_right (by decide) hk) i
 rw[show 2 ^ 64-(2 ^ k+1)=18446744073709551615-2 ^ k by omega]at hb
 rw[Nat.testBit_and,hb,Nat.testBit_two_pow]
theorem eE(x k:Nat):oH x k<=x:=Nat.and_le_left
theorem Be(hk:k<64)(h:x.testBit k=true):oH x k<x:=by
 refine Nat.lt_of_le_of_ne (eE x k) fun e=>?_
 have:=Wv (x:=x) (k:=k) (i:=k) hk
 rw[e,h]at this;simp at this
theorem Bi(h0:x≠0)(h:x<2 ^ 64):aY x=Lib.ctz 64 x::aY (oH x (Lib.ctz 64 x)):=by
 obtain⟨hk,hb,hl⟩:=eD x h0 h;generalize Lib.ctz 64 x=k at *;refine q32 (Wu x) (List.pairwise_cons.2 ⟨fun i hi=>?_,Wu _⟩) fun i=>?_
 ·obtain⟨h1,h2⟩:=qS.1 hi
  rw[Wv hk]at h2;simp at h2
  have h3:¬i<k:=fun hlt=>by rw[hl i hlt]at h2;simp at h2
  omega
 ·rw[List.mem_cons,qS,qS,Wv hk]
  constructor
  ·rintro⟨h1,h2⟩
   by_cases e:i=k
   ·exact Or.inl e
   ·refine Or.inr ⟨h1,?_⟩
    rw[h2,decide_eq_true h1,decide_eq_false (by omega)];rfl
  ·rintro (rfl|⟨h1,h2⟩)
   ·exact⟨hk,hb⟩
   ·exact⟨h1,by rw[Bool.and_eq_true]at h2;exact h2.1⟩
abbrev Mt:=List (List Tk)
variable {M M':Mt}
abbrev Rt:=Option (List Nat×Mt)
def bindM(r:Rt)(k:List Nat->Mt->Rt):Rt:=match r with
 |some (l,M)=>k l M
 |none=>none
theorem qg{r:Rt}{k:List Nat->Mt->Rt}{z:List Nat×Mt}(h:bindM r k=some z):∃l M,r=some (l,M)/\k l M=some z:=by
 cases r with
 |none=>cases h
 |some y=>obtain⟨l,M⟩:=y;exact⟨l,M,rfl,h⟩
def dQ(f:List Tk)(M:Mt):Rt:=match M.findIdx? (· == f) with
 |some i=>some ([2 ^ i],M)
 |none=>if M.length<64 then some ([2 ^ M.length],M++[f]) else none
def andM(a b:List Nat):Option (List Nat):=if a.length*b.length<=1024 then some (aJ (dI a b)) else none
def orM(a b:List Nat):Option (List Nat):=if a.length+b.length<=1024 then some (aJ (a++b)) else none
def bF(and:Bool)(a b:List Nat)(M:Mt):Rt:=(if and then andM a b else orM a b).map fun l=>(l,M)
def bU(b:Bool):List Nat:=if b then [0] else []
def aH:Tr->Mt->Rt
 | .leaf k,M=>if k.1=0 then some ([0],M) else if k.1=1 then some ([],M) else dQ (Tr.leaf k).flat M
 | .un k c,M=>dQ (Tr.un k c).flat M
 | .bin k c d,M=>if k.1=11\/k.1=12 then bindM (aH c M) fun a M1=>bindM (aH d M1) fun b M2=>bF (k.1==11) a b M2 else dQ (Tr.bin k c d).flat M
def jR(x:Nat):Tr->Bool
 | .leaf k=>if k.1=0 then true else if k.1=1 then false else x.testBit k.2
 | .un _ c=>!jR x c
 | .bin k c d=>if k.1=11 then jR x c&&jR x d else if k.1=12 then jR x c || jR x d else if k.1=13 then !jR x c || jR x d else jR x c==jR x d
def aO(box:Bool):Nat:=if box then 18 else 17
def zQ:Nat->Tr ⊕ (Bool×Tr×List Nat×Tr)->Nat->Mt->Rt
 | 0,_,_,_=>none
 |n+1,.inl T,x,M=>match T with
  | .leaf k=>some (bU (if k.1=2 then x.testBit k.2 else k.1==0 || k.1==4),M)
  | .un k c=>if k.1=6 then some (bU (!jR x c),M)
   else if k.1=7 then bindM (aH (.leaf (4,0)) M) fun a M1=>bindM (aH c M1) fun b M2=>bF true a b M2
   else bindM (aH (.leaf (5,0)) M) fun a M1=>bindM (aH c M1) fun b M2=>bF false a b M2
  | .bin k c d=>if k.1=11\/k.1=12 then bindM (zQ n (.inl c) x M) fun a M1=>bindM (zQ n (.inl d) x M1) fun b M2=>bF (k.1==11) a b M2
   else if k.1=15\/k.1=16 then bindM (zQ n (.inl d) x M) fun b M1=>bindM (zQ n (.inl c) x M1) fun a M2=>bindM (aH (.bin k c d) M2) fun u M3=>bindM (bF (k.1==15) a u M3) fun v M4=>bF (k.1==16) b v M4
   else bindM (zQ n (.inl d) x M) fun s M1=>zQ n (.inr (k.1==18,c,s,d)) x M1
 |n+1,.inr (box,r,s,f),x,M=>match r with
  | .leaf _=>none
  | .un k c=>if k.1=19 then (if jR x c then aH f M else some (bU box,M))
   else if k.1=20 then bindM (zQ n (.inl (if box then (aZ c).2 else c)) x M) fun a M1=>bF (!box) a s M1
   else bindM (zQ n (.inr (box,c,bU box,.bin (aO box,0) (.un k c) f)) x M) fun a M1=>bF box s a M1
  | .bin k c d=>if k.1=21 then bindM (zQ n (.inr (box,c,s,f)) x M) fun a M1=>bindM (zQ n (.inr (box,d,s,f)) x M1) fun b M2=>bF box a b M2
   else bindM (zQ n (.inr (box,d,s,f)) x M) fun a M1=>zQ n (.inr (box,c,a,.bin (aO box,0) d f)) x M1
def eu(n:Nat)(T:Tr)(x:Nat)(M:Mt):Rt:=zQ n (.inl T) x M
def fO(n:Nat)(box:Bool)(r:Tr)(s:List Nat)(f:Tr)(x:Nat)(M:Mt):Rt:=zQ n (.inr (box,r,s,f)) x M
theorem Jb(T:Tr)(x:Nat)(M:Mt):eu 0 T x M=none:=rfl
theorem EX(n:Nat)(k:Tk)(x:Nat)(M:Mt):eu (n+1) (.leaf k) x M=some (bU (if k.1=2 then x.testBit k.2 else k.1==0 || k.1==4),M):=rfl
theorem CJ(n:Nat)(k:Tk)(c:Tr)(x:Nat)(M:Mt):eu (n+1) (.un k c) x M=if k.1=6 then some (bU (!jR x c),M)
  else if k.1=7 then bindM (aH (.leaf (4,0)) M) fun a M1=>bindM (aH c M1) fun b M2=>bF true a b M2
  else bindM (aH (.leaf (5,0)) M) fun a M1=>bindM (aH c M1) fun b M2=>bF false a b M2:=rfl
theorem zS(n:Nat)(k:Tk)(c d:Tr)(x:Nat)(M:Mt):eu (n+1) (.bin k c d) x M=if k.1=11\/k.1=12 then bindM (eu n c x M) fun a M1=>bindM (eu n d x M1) fun b M2=>bF (k.1==11) a b M2
  else if k.1=15\/k.1=16 then bindM (eu n d x M) fun b M1=>bindM (eu n c x M1) fun a M2=>bindM (aH (.bin k c d) M2) fun u M3=>bindM (bF (k.1==15) a u M3) fun v M4=>bF (k.1==16) b v M4
  else bindM (eu n d x M) fun s M1=>fO n (k.1==18) c s d x M1:=rfl
theorem LQ(box:Bool)(r:Tr)(s:List Nat)(f:Tr)(x:Nat)(M:Mt):fO 0 box r s f x M=none:=rfl
theorem Ou(n:Nat)(box:Bool)(k:Tk)(s:List Nat)(f:Tr)(x:Nat)(M:Mt):fO (n+1) box (.leaf k) s f x M=none:=rfl
theorem BD(n:Nat)(box:Bool)(k:Tk)(c:Tr)(s:List Nat)(f:Tr)(x:Nat)(M:Mt):fO (n+1) box (.un k c) s f x M=if k.1=19 then (if jR x c then aH f M else some (bU box,M))
  else if k.1=20 then bindM (eu n (if box then (aZ c).2 else c) x M) fun a M1=>bF (!box) a s M1
  else bindM (fO n box c (bU box) (.bin (aO box,0) (.un k c) f) x M) fun a M1=>bF box s a M1:=rfl
theorem CO(n:Nat)(box:Bool)(k:Tk)(c d:Tr)(s:List Nat)(f:Tr)(x:Nat)(M:Mt):fO (n+1) box (.bin k c d) s f x M=if k.1=21 then bindM (fO n box c s f x M) fun a M1=>bindM (fO n box d s f x M1) fun b M2=>bF box a b M2
  else bindM (fO n box d s f x M) fun a M1=>fO n box c a (.bin (aO box,0) d f) x M1:=rfl
def kZ(l:List Nat)(P:Nat->Prop):Prop:=∃s∈l,∀k,s.testBit k=true->P k
theorem eN(l:List Nat)(P:Nat->Prop):kZ (aJ l) P↔kZ l P:=by
 constructor
 ·rintro⟨s,hs,h⟩
  exact⟨s,LP hs,h⟩
 ·rintro⟨s,hs,h⟩
  obtain⟨y,hy,hw⟩:=dy l s s (Nat.le_refl _) hs;exact⟨y,((EW l).mem y).2 hy,fun k hk=>h k (Eo.1 hw k hk)⟩
theorem Bm(a b:List Nat)(P:Nat->Prop):kZ (a++b) P↔kZ a P\/kZ b P:=by
 unfold kZ
 constructor
 ·rintro⟨s,hs,h⟩
  rcases List.mem_append.1 hs with hs|hs
  ·exact Or.inl ⟨s,hs,h⟩
  ·exact Or.inr ⟨s,hs,h⟩
 ·rintro (⟨s,hs,h⟩|⟨s,hs,h⟩)
  ·exact⟨s,by simp[hs],h⟩
  ·exact⟨s,by simp[hs],h⟩
theorem Bn(a b:List Nat)(P:Nat->Prop):kZ (dI a b) P↔kZ a P/\kZ b P:=by
 unfold kZ dI
 constructor
 ·rintro⟨s,hs,h⟩
  obtain⟨x,hx,hs⟩:=List.mem_flatMap.1 hs;obtain⟨y,hy,rfl⟩:=List.mem_map.1 hs;exact⟨⟨x,hx,fun k hk=>h k (by rw[Nat.testBit_or,hk];rfl)⟩,⟨y,hy,fun k hk=>h k (by rw[Nat.testBit_or,hk,Bool.or_true])⟩⟩
 ·rintro⟨⟨x,hx,h1⟩,y,hy,h2⟩
  refine⟨x ||| y,List.mem_flatMap.2 ⟨x,hx,List.mem_map.2 ⟨y,hy,rfl⟩⟩,fun k hk=>?_⟩
  rw[Nat.testBit_or,Bool.or_eq_true]at hk;rcases hk with hk|hk
  ·exact h1 k hk
  ·exact h2 k hk
theorem Jc(b:Bool)(P:Nat->Prop):kZ (bU b) P↔b=true:=by
 unfold kZ bU
 cases b with
 |false=>simp
 |true=>exact⟨fun _=>rfl,fun _=>⟨0,by simp,fun k hk=>by rw[Nat.zero_testBit]at hk;cases hk⟩⟩
theorem eO(i:Nat)(P:Nat->Prop):kZ [2 ^ i] P↔P i:=by
 unfold kZ
 constructor
 ·rintro⟨s,hs,h⟩
  rcases List.mem_singleton.1 hs with rfl
  exact h i (by rw[Nat.testBit_two_pow];simp)
 ·intro h
  refine⟨2 ^ i,by simp,fun k hk=>?_⟩
  rw[Nat.testBit_two_pow]at hk;have:i=k:=by simpa using hk
  exact this ▸ h
theorem Br{P Q:Nat->Prop}(h:∀s∈l,∀k,s.testBit k=true->(P k↔Q k)):kZ l P↔kZ l Q :=
 ⟨fun⟨s,hs,k⟩=>⟨s,hs,fun j hj=>(h s hs j hj).1 (k j hj)⟩,fun⟨s,hs,k⟩=>⟨s,hs,fun j hj=>(h s hs j hj).2 (k j hj)⟩⟩
def jJ(l:List Nat)(m:Nat):Prop:=∀s∈l,∀k,s.testBit k=true->k<m
theorem jJ.mono(h:jJ l m)(hn:m<=n):jJ l n:=fun s hs k hk=>Nat.lt_of_lt_of_le (h s hs k hk) hn
theorem eR(h:jJ l m):jJ (aJ l) m:=fun s hs=>h s (LP hs)
theorem Bt(h:jJ a m)(k:jJ b m):jJ (a++b) m:=fun s hs=>by
 rcases List.mem_append.1 hs with hs|hs
 ·exact h s hs
 ·exact k s hs
theorem BB(h:jJ a m)(k:jJ b m):jJ (dI a b) m:=fun s hs j hj=>by
 obtain⟨x,hx,hs⟩:=List.mem_flatMap.1 hs;obtain⟨y,hy,rfl⟩:=List.mem_map.1 hs;rw[Nat.testBit_or,Bool.or_eq_true]at hj;rcases hj with hj|hj
 ·exact h x hx j hj
 ·exact k y hy j hj
theorem BF(b:Bool)(m:Nat):jJ (bU b) m:=fun s hs k hk=>by
 unfold bU at hs
 cases b with
 |false=>simp at hs
 |true=>simp at hs;subst hs;rw[Nat.zero_testBit]at hk;cases hk
theorem Ua(h:i<m):jJ [2 ^ i] m:=fun s hs k hk=>by
 rcases List.mem_singleton.1 hs with rfl
 rw[Nat.testBit_two_pow]at hk;have:i=k:=by simpa using hk
 omega
theorem qu(h:bF and a b M=some (l,M')):M'=M/\l=if and then aJ (dI a b) else aJ (a++b):=by
 unfold bF at h
 cases and with
 |true=>
  simp only[if_true]at h ⊢
  unfold andM at h
  split at h
  ·simp at h;exact⟨h.2.symm,h.1.symm⟩
  ·simp at h
 |false=>
  simp only[Bool.false_eq_true,if_false]at h ⊢
  unfold orM at h
  split at h
  ·simp at h;exact⟨h.2.symm,h.1.symm⟩
  ·simp at h
theorem Ov(h:bF and a b M=some (l,M'))(P:Nat->Prop):kZ l P↔if and then kZ a P/\kZ b P else kZ a P\/kZ b P:=by
 rw[(qu h).2]
 cases and with
 |true=>simp only[if_true];rw[eN,Bn]
 |false=>simp only[Bool.false_eq_true,if_false];rw[eN,Bm]
theorem LU(h:bF and a b M=some (l,M'))(ha:jJ a m)(hb:jJ b m):jJ l m:=by
 rw[(qu h).2]
 cases and with
 |true=>exact eR (BB ha hb)
 |false=>exact eR (Bt ha hb)
structure KT(T:Tr):Prop where
 wf:T.WF
 np:aB T=false
 kr:bC T=true
structure KP(T:Tr):Prop where
 wf:T.WF
 Ox:aB T=true
 kr:bC T=true
theorem BE(t:List Nat){S:Tr}(h:T.WF)(k:S.WF)(e:T.flat=S.flat):ay t T=ay t S:=(NG t T h).same (e ▸ NG t S k)
structure dM(M:Mt):Prop where
 Wx:∀f∈M,∃T,KT T/\f=T.flat
 few:M.length<=64
def gy(t:List Nat)(M:Mt)(i k:Nat):Prop:=∃T,KT T/\M[k]? =some T.flat/\(ay t T).1 i
theorem Oy(hT:KT T)(h:M[k]? =some T.flat):gy t M i k↔(ay t T).1 i:=by
 constructor
 ·rintro⟨S,hS,h1,h2⟩
  rw[h]at h1;injection h1 with h1;rw[BE t hT.wf hS.wf h1];exact h2
 ·intro h2
  exact⟨T,hT,h,h2⟩
theorem eT(h:M <+: M')(hk:k<M.length):M'[k]? =M[k]? := by
 obtain⟨r,rfl⟩:=h;rw[List.getElem?_append_left hk]
theorem eV(h:M <+: M')(hk:k<M.length):gy t M i k↔gy t M' i k:=by
 unfold gy;rw[eT h hk]
theorem Jd(h:M <+: M')(hl:jJ l M.length)(i:Nat):kZ l (gy t M i)↔kZ l (gy t M' i):=Br fun s hs k hk=>eV h (hl s hs k hk)
structure Ext(M:Mt)(L:List Nat)(M':Mt):Prop where
 pre:M <+: M'
 good:dM M'
 bd:jJ L M'.length
theorem EY(h:M <+: M'):M.length<=M'.length:=h.length_le
theorem Wy(hM:dM M)(hT:KT T)(h:dQ T.flat M=some (L,M')):Ext M L M'/\∀t i,kZ L (gy t M' i)↔(ay t T).1 i:=by
 unfold dQ at h
 split at h
 ·rename_i i hi
  injection h with h;injection h with h1 h2;subst h1 h2;obtain⟨hlt,he,_⟩:=List.findIdx?_eq_some_iff_getElem.1 hi;have he':M[i]? =some T.flat:=by rw[List.getElem?_eq_getElem hlt];simpa using he
  exact⟨⟨List.prefix_refl _,hM,Ua hlt⟩,fun t j=>by rw[eO];exact Oy hT he'⟩
 ·split at h
  ·rename_i hl
   injection h with h;injection h with h1 h2;subst h1 h2;refine⟨⟨List.prefix_append _ _,⟨fun f hf=>?_,by rw[List.length_append];simp;omega⟩,Ua (by rw[List.length_append];simp)⟩,fun t j=>?_⟩
   ·rcases List.mem_append.1 hf with hf|hf
    ·exact hM.Wx f hf
    ·exact⟨T,hT,List.mem_singleton.1 hf⟩
   ·rw[eO]
    exact Oy hT (by simp)
  ·cases h
theorem Je{M1 M2:Mt}(h:bF and a b M2=some (l,M'))(h1:Ext M a M1)(h2:Ext M1 b M2):Ext M l M'/\∀t i,kZ l (gy t M' i)↔if and then kZ a (gy t M1 i)/\kZ b (gy t M2 i) else kZ a (gy t M1 i)\/kZ b (gy t M2 i):=by
 have e:=(qu h).1;subst e;refine⟨⟨h1.pre.trans h2.pre,h2.good,LU h (h1.bd.mono (EY h2.pre)) h2.bd⟩,fun t i=>?_⟩
 rw[Ov h,Jd h2.pre h1.bd]
theorem qB(h:KT (.bin (op,p) c d))(ho:op=11\/op=12\/op=15\/op=16):KT c/\KT d:=by
 obtain⟨rfl,hc,hd,hf,_⟩:=qt h.wf;have hk:=h.kr;simp only[bC,Bool.and_eq_true]at hk
 have hn:aB c=false/\aB d=false:=by
  rcases ho with rfl|rfl|rfl|rfl<;>simpa [bf] using hf
 exact⟨⟨hc,hn.1,hk.2.1⟩,⟨hd,hn.2,hk.2.2⟩⟩
theorem uP(h:KT (.bin (op,p) c d))(ho:op=17\/op=18):KP c/\KT d:=by
 obtain⟨rfl,hc,hd,hf,_⟩:=qt h.wf;have hk:=h.kr;simp only[bC,Bool.and_eq_true]at hk
 have hn:aB c=true/\aB d=false:=by
  rcases ho with rfl|rfl<;>simpa [bf] using hf
 exact⟨⟨hc,hn.1,hk.2.1⟩,⟨hd,hn.2,hk.2.2⟩⟩
theorem xG(h:KT (.bin (op,p) c d)):p=0/\(op=11\/op=12\/op=15\/op=16\/op=17\/op=18):=by
 obtain⟨rfl,hc,hd,hf,ho⟩:=qt h.wf;have hk:=h.kr;have hp:=h.np;refine⟨rfl,?_⟩
 rcases ho with rfl|rfl|rfl|rfl|rfl|rfl|rfl|rfl|rfl|rfl
 ·simp
 ·simp
 ·simp[bC]at hk
 ·simp[bC]at hk
 ·simp
 ·simp
 ·simp
 ·simp
 ·cases hp
 ·cases hp
theorem ku(h:KT (.un (op,p) c)):p=0/\((op=6/\∃q,c=.leaf (2,q))\/((op=7\/op=8)/\KT c)):=by
 obtain⟨rfl,hc,hf,ho⟩:=qw h.wf;have hk:=h.kr;have hp:=h.np;refine⟨rfl,?_⟩
 rcases ho with rfl|rfl|rfl|rfl|rfl|rfl|rfl|rfl
 ·refine Or.inl ⟨rfl,?_⟩
  match c,hk with
  | .leaf (o,q),hk=>simp[bC]at hk;exact⟨q,by rw[hk]⟩
  | .un _ _,hk=>simp[bC]at hk
  | .bin _ _ _,hk=>simp[bC]at hk
 ·refine Or.inr ⟨Or.inl rfl,hc,by simpa [bV] using hf,by simpa [bC] using hk⟩
 ·refine Or.inr ⟨Or.inr rfl,hc,by simpa [bV] using hf,by simpa [bC] using hk⟩
 ·simp[bC]at hk
 ·simp[bC]at hk
 ·cases hp
 ·cases hp
 ·cases hp
theorem Aw(h:KT (.leaf (op,p))):(op=2/\p<=7)\/(p=0/\(op=0\/op=1\/op=4\/op=5)):=by
 have hk:=h.kr;rcases qG h.wf with h1|⟨h1,rfl|rfl|rfl|rfl|rfl⟩
 ·exact Or.inl h1
 ·exact Or.inr ⟨h1,by simp⟩
 ·exact Or.inr ⟨h1,by simp⟩
 ·simp[bC]at hk
 ·exact Or.inr ⟨h1,by simp⟩
 ·exact Or.inr ⟨h1,by simp⟩
theorem kC(h:KP (.un (op,p) c)):p=0/\((op=19/\c.WF/\bD c=true)\/(op=20/\KT c)\/(op=23/\KP c)):=by
 obtain⟨rfl,hc,hf,ho⟩:=qw h.wf;have hk:=h.kr;have hp:=h.Ox;refine⟨rfl,?_⟩
 rcases ho with rfl|rfl|rfl|rfl|rfl|rfl|rfl|rfl
 ·cases hp
 ·cases hp
 ·cases hp
 ·cases hp
 ·cases hp
 ·simp[bV]at hf
  exact Or.inl ⟨rfl,hc,hf.2⟩
 ·exact Or.inr (Or.inl ⟨rfl,hc,by simpa [bV] using hf,by simpa [bC] using hk⟩)
 ·exact Or.inr (Or.inr ⟨rfl,hc,by simpa [bV] using hf,by simpa [bC] using hk⟩)
theorem xH(h:KP (.bin (op,p) c d)):p=0/\(op=21\/op=22)/\KP c/\KP d:=by
 obtain⟨rfl,hc,hd,hf,ho⟩:=qt h.wf;have hk:=h.kr;have hp:=h.Ox;simp only[bC,Bool.and_eq_true]at hk
 refine⟨rfl,?_⟩
 rcases ho with rfl|rfl|rfl|rfl|rfl|rfl|rfl|rfl|rfl|rfl
 ·cases hp
 ·cases hp
 ·cases hp
 ·cases hp
 ·cases hp
 ·cases hp
 ·cases hp
 ·cases hp
 ·have hn:aB c=true/\aB d=true:=by simpa [bf] using hf
  exact⟨Or.inl rfl,⟨hc,hn.1,hk.2.1⟩,⟨hd,hn.2,hk.2.2⟩⟩
 ·have hn:aB c=true/\aB d=true:=by simpa [bf] using hf
  exact⟨Or.inr rfl,⟨hc,hn.1,hk.2.1⟩,⟨hd,hn.2,hk.2.2⟩⟩
theorem EZ{k:Tk}(h:KP (.leaf k)):False:=by
 obtain⟨op,p⟩:=k;have hp:=h.Ox;rcases qG h.wf with⟨rfl,_⟩|⟨_,rfl|rfl|rfl|rfl|rfl⟩<;>cases hp
theorem zT{r f:Tr}(hr:KP r)(hf:KT f)(box:Bool):KT (.bin (aO box,0) r f):=by
 refine⟨qJ ?_ ?_ hr.wf hf.wf,?_,?_⟩
 ·cases box<;>rfl
 ·cases box<;>simp[aO,bf,hr.Ox,hf.np]
 ·cases box<;>rfl
 ·cases box<;>simp[aO,bC,hr.kr,hf.kr]
theorem GX(op:Nat)(h:op=4\/op=5):KT (.leaf (op,0)):=by
 rcases h with rfl|rfl
 ·exact⟨qT rfl (by decide),rfl,rfl⟩
 ·exact⟨qT rfl (by decide),rfl,rfl⟩
theorem GY(h:KT T):KT (aZ T).2:=⟨(NI T h.wf).w2 h.np,(NI T h.wf).p2 h.np,(zL T h.wf).2 h.np⟩
theorem xI:∀(T:Tr){M M':Mt}{L:List Nat},dM M->KT T->aH T M=some (L,M')->Ext M L M'/\∀t i,kZ L (gy t M' i)↔(ay t T).1 i
 | .leaf (op,p),M,M',L,hM,hT,h=>by
  unfold aH at h;dsimp only at h
  split at h
  ·rename_i h0
   injection h with h;injection h with h1 h2;subst h1 h2
   refine⟨⟨List.prefix_refl _,hM,BF true _⟩,fun t i=>?_⟩
   have:=Jc true (gy t M i)
   simp only[bU,if_true]at this
   rw[this];simp[ay,bH,iG,h0]
  ·split at h
   ·rename_i h0 h1
    injection h with h;injection h with h2 h3;subst h2 h3
    refine⟨⟨List.prefix_refl _,hM,BF false _⟩,fun t i=>?_⟩
    have:=Jc false (gy t M i)
    simp only[bU,Bool.false_eq_true,if_false]at this
    rw[this];simp[ay,bH,iG,h1]
   ·exact Wy hM hT h
 | .un k c,M,M',L,hM,hT,h=>Wy hM hT h
 | .bin (op,p) c d,M,M',L,hM,hT,h=>by
  unfold aH at h;dsimp only at h
  split at h
  ·rename_i ho
   obtain⟨a,M1,ha,h⟩:=qg h;obtain⟨b,M2,hb,h⟩:=qg h;obtain⟨kc,kd⟩:=qB hT (by rcases ho with h|h<;>simp[h])
   obtain⟨e1,s1⟩:=xI c hM kc ha;obtain⟨e2,s2⟩:=xI d e1.good kd hb;obtain⟨e3,s3⟩:=Je h e1 e2;refine⟨e3,fun t i=>?_⟩
   rw[s3,s1,s2];rcases ho with rfl|rfl
   ·simp[ay,bH,cZ]
   ·simp[ay,bH,cZ]
  ·exact Wy hM hT h
theorem LV{t:List Nat}{i x:Nat}(hx:t[i]? =some x):∀T:Tr,T.WF->aB T=false->bD T=true->(jR x T=true↔(ay t T).1 i)
 | .leaf (op,p),h,_,hp=>by
  have hi:i<t.length:=(List.getElem?_eq_some_iff.1 hx).1
  have hg:t.getD i 0=x:=by rw[List.getD_eq_getElem?_getD,hx];rfl
  rw[VI]at hp;rcases qG h with⟨rfl,_⟩|⟨_,rfl|rfl|rfl|rfl|rfl⟩
  ·rw[show (ay t (Tr.leaf (2,p))).1 i=(i<t.length/\(t.getD i 0).testBit p=true) from rfl,hg,show jR x (Tr.leaf (2,p))=x.testBit p from rfl]
   exact⟨fun h=>⟨hi,h⟩,fun h=>h.2⟩
  ·simp[jR,ay,bH,iG]
  ·simp[jR,ay,bH,iG]
  ·simp[aU]at hp
  ·simp[aU]at hp
  ·simp[aU]at hp
 | .un (op,p) c,h,hq,hp=>by
  obtain⟨rfl,hc,hf,ho⟩:=qw h;rw[q16]at hp;simp only[Bool.and_eq_true]at hp
  rcases ho with rfl|rfl|rfl|rfl|rfl|rfl|rfl|rfl
  ·have ih:=LV hx c hc (by simpa [bV] using hf) hp.2
   simp only[jR,ay,bH,uy,if_true]
   rw[<-ih];simp
  ·simp[aU]at hp
  ·simp[aU]at hp
  ·simp[aU]at hp
  ·simp[aU]at hp
  ·cases hq
  ·cases hq
  ·cases hq
 | .bin (op,p) c d,h,hq,hp=>by
  obtain⟨rfl,hc,hd,hf,ho⟩:=qt h;rw[qn]at hp;simp only[Bool.and_eq_true]at hp
  have ih:=fun hn=>LV hx c hc hn hp.2.1
  have jh:=fun hn=>LV hx d hd hn hp.2.2
  rcases ho with rfl|rfl|rfl|rfl|rfl|rfl|rfl|rfl|rfl|rfl
  ·have hn:aB c=false/\aB d=false:=by simpa [bf] using hf
   simp[jR,ay,bH,cZ,<-ih hn.1,<-jh hn.2]
  ·have hn:aB c=false/\aB d=false:=by simpa [bf] using hf
   simp[jR,ay,bH,cZ,<-ih hn.1,<-jh hn.2]
  ·have hn:aB c=false/\aB d=false:=by simpa [bf] using hf
   simp only[jR,ay,bH,cZ,<-ih hn.1,<-jh hn.2]
   cases jR x c<;>cases jR x d<;>simp
  ·have hn:aB c=false/\aB d=false:=by simpa [bf] using hf
   simp only[jR,ay,bH,cZ,<-ih hn.1,<-jh hn.2]
   cases jR x c<;>cases jR x d<;>simp
  ·simp[aU]at hp
  ·simp[aU]at hp
  ·simp[aU]at hp
  ·simp[aU]at hp
  ·cases hq
  ·cases hq
def kK(w:Nat->Nat->Prop)(i:Nat)(S:Prop)(F:Nat->Prop):Prop:=(w i i/\S)\/∃k,i<k/\w i k/\F k
def nD(w:Nat->Nat->Prop)(i:Nat)(S:Prop)(F:Nat->Prop):Prop:=(w i i->S)/\∀k,i<k->w i k->F k
theorem Oz(w:Nat->Nat->Prop)(i:Nat)(S:Prop)(F:Nat->Prop):nD w i S F↔¬kK w i (¬S) (fun k=>¬F k):=by
 unfold nD kK
 constructor
 ·rintro⟨h1,h2⟩ (⟨h3,h4⟩|⟨k,h3,h4,h5⟩)
  ·exact h4 (h1 h3)
  ·exact h5 (h2 k h3 h4)
 ·intro h
  refine⟨fun h1=>?_,fun k h1 h2=>?_⟩
  ·exact Classical.byContradiction fun h2=>h (Or.inl ⟨h1,h2⟩)
  ·exact Classical.byContradiction fun h3=>h (Or.inr ⟨k,h1,h2,h3⟩)
theorem eW{w:Nat->Nat->Prop}{S S':Prop}{F F':Nat->Prop}(h:S↔S')(k:∀j,F j↔F' j):kK w i S F↔kK w i S' F':=by
 unfold kK;rw[h]
 constructor
 ·rintro (h1|⟨j,h1,h2,h3⟩)
  ·exact Or.inl h1
  ·exact Or.inr ⟨j,h1,h2,(k j).1 h3⟩
 ·rintro (h1|⟨j,h1,h2,h3⟩)
  ·exact Or.inl h1
  ·exact Or.inr ⟨j,h1,h2,(k j).2 h3⟩
def Ep(n:Nat)(w:Nat->Nat->Prop):Prop:=∀i k,i<=n->w i k->i<=k/\k<=n
theorem eZ{a b:Nat->Nat->Prop}(ha:Ep n a)(hb:Ep n b)(hi:i<=n)(S:Prop)(F:Nat->Prop):
  kK (fun i k=>∃j,a i j/\b j k) i S F↔kK a i (kK b i S F) (fun j=>∃k,b j k/\F k):=by
 unfold kK
 constructor
 ·rintro (⟨⟨j,h1,h2⟩,h3⟩|⟨k,h0,⟨j,h1,h2⟩,h3⟩)
  ·have e1:=ha i j hi h1
   have e2:=hb j i e1.2 h2;have:j=i:=by omega
   subst this;exact Or.inl ⟨h1,Or.inl ⟨h2,h3⟩⟩
  ·by_cases e:j=i
   ·subst e
    exact Or.inl ⟨h1,Or.inr ⟨k,h0,h2,h3⟩⟩
   ·have e1:=ha i j hi h1
    exact Or.inr ⟨j,by omega,h1,k,h2,h3⟩
 ·rintro (⟨h1,⟨h2,h3⟩|⟨k,h0,h2,h3⟩⟩|⟨j,h0,h1,k,h2,h3⟩)
  ·exact Or.inl ⟨⟨i,h1,h2⟩,h3⟩
  ·exact Or.inr ⟨k,h0,⟨i,h1,h2⟩,h3⟩
  ·have e1:=ha i j hi h1
   have e2:=hb j k e1.2 h2;exact Or.inr ⟨k,by omega,⟨j,h1,h2⟩,h3⟩
theorem fe{a:Nat->Nat->Prop}{n:Nat}(ha:Ep n a):∀(m i k:Nat),i<=n->i<k->gZ a m i k->∃j,i<j/\a i j/\∃m,gZ a m j k
 | 0,i,k,_,hk,h=>by simp only[gZ]at h;omega
 |m+1,i,k,hi,hk,h=>by
  obtain⟨j,h1,h2⟩:=h;have e1:=ha i j hi h1;by_cases e:j=i
  ·subst e
   exact fe ha m j k hi hk h2
  ·exact⟨j,by omega,h1,m,h2⟩
theorem fh{a:Nat->Nat->Prop}(ha:Ep n a)(hi:i<=n)(S:Prop)(F:Nat->Prop):
  kK (fun i k=>∃m,gZ a m i k) i S F↔S\/kK a i False (fun j=>∃k,(∃m,gZ a m j k)/\F k):=by
 unfold kK
 constructor
 ·rintro (⟨_,h⟩|⟨k,h0,⟨m,h1⟩,h2⟩)
  ·exact Or.inl h
  ·obtain⟨j,h3,h4,h5⟩:=fe ha m i k hi h0 h1
   exact Or.inr (Or.inr ⟨j,h3,h4,k,h5,h2⟩)
 ·rintro (h|⟨_,h⟩|⟨j,h0,h1,k,⟨m,h2⟩,h3⟩)
  ·exact Or.inl ⟨⟨0,rfl⟩,h⟩
  ·cases h
  ·have e1:=ha i j hi h1
   have e2:j<=k/\k<=n:=VE (fun i k hi h=>ha i k hi h) m j k e1.2 h2
   exact Or.inr ⟨k,by omega,⟨m+1,j,h1,h2⟩,h3⟩
theorem BS{a b:Nat->Nat->Prop}(ha:Ep n a)(hb:Ep n b)(hi:i<=n)(S:Prop)(F:Nat->Prop):
  nD (fun i k=>∃j,a i j/\b j k) i S F↔nD a i (nD b i S F) (fun j=>∀k,b j k->F k):=by
 rw[Oz,eZ ha hb hi,Oz a];refine not_congr (eW ?_ fun j=>?_)
 ·rw[Oz,Classical.not_not]
 ·exact⟨fun⟨k,h1,h2⟩ h=>h2 (h k h1),fun h=>Classical.byContradiction fun h2=>h fun k hk=>Classical.byContradiction fun h3=>h2 ⟨k,hk,h3⟩⟩
theorem BV{a:Nat->Nat->Prop}(ha:Ep n a)(hi:i<=n)(S:Prop)(F:Nat->Prop):
  nD (fun i k=>∃m,gZ a m i k) i S F↔S/\nD a i True (fun j=>∀k,(∃m,gZ a m j k)->F k):=by
 rw[Oz,fh ha hi,Oz a]
 have e:kK a i False (fun j=>∃k,(∃m,gZ a m j k)/\¬F k)↔kK a i (¬True) (fun j=>¬∀k,(∃m,gZ a m j k)->F k):=eW (by simp) fun j=>
  ⟨fun⟨k,h1,h2⟩ h=>h2 (h k h1),fun h=>Classical.byContradiction fun h2=>h fun k hk=>Classical.byContradiction fun h3=>h2 ⟨k,hk,h3⟩⟩
 rw[e]
 constructor
 ·intro h
  exact⟨Classical.byContradiction fun h1=>h (Or.inl h1),fun h1=>h (Or.inr h1)⟩
 ·rintro⟨h1,h2⟩ (h|h)
  ·exact h h1
  ·exact h2 h
def yT(box:Bool)(w:Nat->Nat->Prop)(i:Nat)(S:Prop)(F:Nat->Prop):Prop:=if box then nD w i S F else kK w i S F
theorem LW(t:List Nat){r:Tr}(h:r.WF):Ep t.length (ay t r).2:=fun i k hi hw=>ET t r h i k hi hw
theorem BW(t:List Nat)(i:Nat):(ay t (.leaf (4,0))).1 i↔i<t.length:=Iff.rfl
theorem B0(t:List Nat)(i:Nat):(ay t (.leaf (5,0))).1 i↔i=t.length:=Iff.rfl
def zU(n:Nat):Prop:=∀(T:Tr)(x:Nat)(M M':Mt)(L:List Nat),dM M->KT T->eu n T x M=some (L,M')->Ext M L M'/\∀(t:List Nat)(i:Nat),t[i]? =some x->(kZ L (gy t M' (i+1))↔(ay t T).1 i)
def zV(n:Nat):Prop:=∀(box:Bool)(r f:Tr)(s:List Nat)(x:Nat)(M M':Mt)(L:List Nat),dM M->KP r->KT f->jJ s M.length->fO n box r s f x M=some (L,M')->Ext M L M'/\∀(t:List Nat)(i:Nat),t[i]? =some x->(kZ L (gy t M' (i+1))↔yT box (ay t r).2 i (kZ s (gy t M (i+1))) fun k=>(ay t f).1 k)
theorem B1(hi:i<t.length)(c d:Tr):(ay t (.bin (15,0) c d)).1 i↔(ay t d).1 i\/((ay t c).1 i/\(ay t (.bin (15,0) c d)).1 (i+1)):=by
 show (∃j,i<=j/\j<t.length/\(ay t d).1 j/\∀k,i<=k->k<j->(ay t c).1 k)↔_\/(_/\∃j,i+1<=j/\j<t.length/\(ay t d).1 j/\∀k,i+1<=k->k<j->(ay t c).1 k)
 constructor
 ·rintro⟨j,h1,h2,h3,h4⟩
  by_cases e:j=i
  ·subst e;exact Or.inl h3
  ·exact Or.inr ⟨h4 i (Nat.le_refl _) (by omega),j,by omega,h2,h3,fun k hk hj=>h4 k (by omega) hj⟩
 ·rintro (h|⟨h0,j,h1,h2,h3,h4⟩)
  ·exact⟨i,Nat.le_refl _,hi,h,fun k h1 h2=>by omega⟩
  ·refine⟨j,by omega,h2,h3,fun k hk hj=>?_⟩
   by_cases e:k=i
   ·subst e;exact h0
   ·exact h4 k (by omega) hj
theorem B2(hi:i<t.length)(c d:Tr):(ay t (.bin (16,0) c d)).1 i↔(ay t d).1 i/\((ay t c).1 i\/(ay t (.bin (16,0) c d)).1 (i+1)):=by
 show (∀j,i<=j->j<t.length->(ay t d).1 j\/∃k,i<=k/\k<j/\(ay t c).1 k)↔_/\(_\/∀j,i+1<=j->j<t.length->(ay t d).1 j\/∃k,i+1<=k/\k<j/\(ay t c).1 k)
 constructor
 ·intro h
  refine⟨?_,?_⟩
  ·rcases h i (Nat.le_refl _) hi with h1|⟨k,h1,h2,_⟩
   ·exact h1
   ·omega
  ·by_cases h0:(ay t c).1 i
   ·exact Or.inl h0
   ·refine Or.inr fun j h1 h2=>?_
    rcases h j (by omega) h2 with h3|⟨k,h3,h4,h5⟩
    ·exact Or.inl h3
    ·by_cases e:k=i
     ·subst e;exact absurd h5 h0
     ·exact Or.inr ⟨k,by omega,h4,h5⟩
 ·rintro⟨h0,h⟩ j h1 h2
  by_cases e:j=i
  ·subst e;exact Or.inl h0
  ·rcases h with h|h
   ·exact Or.inr ⟨i,Nat.le_refl _,by omega,h⟩
   ·rcases h j (by omega) h2 with h3|⟨k,h3,h4,h5⟩
    ·exact Or.inl h3
    ·exact Or.inr ⟨k,by omega,h4,h5⟩
theorem B5(w:Nat->Nat->Prop)(hw:Ep n w)(hi:i<=n)(F:Nat->Prop):kK w i (F i) F↔∃k,w i k/\F k:=by
 unfold kK
 constructor
 ·rintro (⟨h1,h2⟩|⟨k,_,h1,h2⟩)
  ·exact⟨i,h1,h2⟩
  ·exact⟨k,h1,h2⟩
 ·rintro⟨k,h1,h2⟩
  by_cases e:k=i
  ·subst e;exact Or.inl ⟨h1,h2⟩
  ·have:=hw i k hi h1
   exact Or.inr ⟨k,by omega,h1,h2⟩
theorem B6(w:Nat->Nat->Prop)(hw:Ep n w)(hi:i<=n)(F:Nat->Prop):nD w i (F i) F↔∀k,w i k->F k:=by
 unfold nD
 constructor
 ·rintro⟨h1,h2⟩ k hk
  by_cases e:k=i
  ·subst e;exact h1 hk
  ·have:=hw i k hi hk
   exact h2 k (by omega) hk
 ·intro h
  exact⟨fun h1=>h i h1,fun k _ h1=>h k h1⟩
theorem B7(hA:zU n)(hP:zV n):zU (n+1):=by
 intro T x M M' L hM hT h
 match T,hT,h with
 | .leaf (op,p),hT,h=>
  (first|rw[EX]at h|rw[CJ]at h|rw[zS]at h|rw[Jb]at h)
  injection h with h;injection h with h1 h2;subst h1 h2
  refine⟨⟨List.prefix_refl _,hM,BF _ _⟩,fun t i hx=>?_⟩
  have hi:i<t.length:=(List.getElem?_eq_some_iff.1 hx).1
  have hg:t.getD i 0=x:=by rw[List.getD_eq_getElem?_getD,hx];rfl
  rw[Jc];rcases Aw hT with⟨rfl,_⟩|⟨_,rfl|rfl|rfl|rfl⟩
  ·rw[show (ay t (Tr.leaf (2,p))).1 i=(i<t.length/\(t.getD i 0).testBit p=true) from rfl,hg]
   simp[hi]
  ·simp[ay,bH,iG]
  ·simp[ay,bH,iG]
  ·simp[ay,bH,iG,hi]
  ·simp[ay,bH,iG];omega
 | .un (op,p) c,hT,h=>
  (first|rw[EX]at h|rw[CJ]at h|rw[zS]at h|rw[Jb]at h)
  dsimp only at h
  rcases ku hT with⟨rfl,⟨rfl,q,rfl⟩|⟨ho,hc⟩⟩
  ·rw[if_pos rfl]at h
   injection h with h;injection h with h1 h2;subst h1 h2
   refine⟨⟨List.prefix_refl _,hM,BF _ _⟩,fun t i hx=>?_⟩
   have hl:(Tr.leaf (2,q)).WF:=hT.wf.2.2;have:=LV hx (.leaf (2,q)) hl rfl rfl
   rw[Jc]
   show _↔¬(ay t (.leaf (2,q))).1 i
   rw[<-this];simp
  ·rcases ho with rfl|rfl
   ·rw[if_neg (by decide),if_pos rfl]at h
    obtain⟨a,M1,ha,h⟩:=qg h;obtain⟨b,M2,hb,h⟩:=qg h;obtain⟨e1,s1⟩:=xI _ hM (GX 4 (Or.inl rfl)) ha;obtain⟨e2,s2⟩:=xI c e1.good hc hb;obtain⟨e3,s3⟩:=Je h e1 e2;refine⟨e3,fun t i hx=>?_⟩
    rw[s3,s1,s2,BW];simp only[if_true]
    exact Iff.rfl
   ·rw[if_neg (by decide),if_neg (by decide)]at h
    obtain⟨a,M1,ha,h⟩:=qg h;obtain⟨b,M2,hb,h⟩:=qg h;obtain⟨e1,s1⟩:=xI _ hM (GX 5 (Or.inr rfl)) ha;obtain⟨e2,s2⟩:=xI c e1.good hc hb;obtain⟨e3,s3⟩:=Je h e1 e2;refine⟨e3,fun t i hx=>?_⟩
    have hi:i<t.length:=(List.getElem?_eq_some_iff.1 hx).1
    rw[s3,s1,s2,B0];simp only[Bool.false_eq_true,if_false]
    show _↔(i+1<t.length->(ay t c).1 (i+1))
    constructor
    ·rintro (h|h) hlt
     ·omega
     ·exact h
    ·intro h
     by_cases e:i+1=t.length
     ·exact Or.inl e
     ·exact Or.inr (h (by omega))
 | .bin (op,p) c d,hT,h=>
  (first|rw[EX]at h|rw[CJ]at h|rw[zS]at h|rw[Jb]at h)
  dsimp only at h
  obtain⟨rfl,ho⟩:=xG hT
  split at h
  ·rename_i ho2
   obtain⟨a,M1,ha,h⟩:=qg h;obtain⟨b,M2,hb,h⟩:=qg h;obtain⟨kc,kd⟩:=qB hT (by rcases ho2 with h|h<;>simp[h])
   obtain⟨e1,s1⟩:=hA c x M M1 a hM kc ha;obtain⟨e2,s2⟩:=hA d x M1 M2 b e1.good kd hb;obtain⟨e3,s3⟩:=Je h e1 e2;refine⟨e3,fun t i hx=>?_⟩
   rw[s3,s1 t i hx,s2 t i hx];rcases ho2 with rfl|rfl
   ·simp[ay,bH,cZ]
   ·simp[ay,bH,cZ]
  ·split at h
   ·rename_i ho1 ho2
    obtain⟨b,M1,hb,h⟩:=qg h;obtain⟨a,M2,ha,h⟩:=qg h;obtain⟨u,M3,hu,h⟩:=qg h;obtain⟨v,M4,hv,h⟩:=qg h;obtain⟨kc,kd⟩:=qB hT (by rcases ho2 with h|h<;>simp[h])
    obtain⟨e1,s1⟩:=hA d x M M1 b hM kd hb;obtain⟨e2,s2⟩:=hA c x M1 M2 a e1.good kc ha;obtain⟨e3,s3⟩:=xI _ e2.good hT hu;obtain⟨e4,s4⟩:=Je hv e2 e3;obtain⟨e5,s5⟩:=Je h e1 e4;refine⟨e5,fun t i hx=>?_⟩
    have hi:i<t.length:=(List.getElem?_eq_some_iff.1 hx).1
    rw[s5,s4,s1 t i hx,s2 t i hx,s3];rcases ho2 with rfl|rfl
    ·rw[B1 hi];simp
    ·rw[B2 hi];simp
   ·rename_i ho1 ho2
    obtain⟨s,M1,hs,h⟩:=qg h;have ho3:op=17\/op=18:=by omega
    obtain⟨kc,kd⟩:=uP hT ho3;obtain⟨e1,s1⟩:=hA d x M M1 s hM kd hs;obtain⟨e2,s2⟩:=hP (op==18) c d s x M1 M' L e1.good kc kd e1.bd h;refine⟨⟨e1.pre.trans e2.pre,e2.good,e2.bd⟩,fun t i hx=>?_⟩
    have hi:i<t.length:=(List.getElem?_eq_some_iff.1 hx).1
    have hf:=LW t kc.wf;rw[s2 t i hx,s1 t i hx];unfold yT;rcases ho3 with rfl|rfl
    ·simp only[show ((17:Nat)==18)=false from rfl,Bool.false_eq_true,if_false]
     exact B5 _ hf (by omega) _
    ·simp only[show ((18:Nat)==18)=true from rfl,if_true]
     exact B6 _ hf (by omega) _
theorem B8(hA:zU n)(hP:zV n):zV (n+1):=by
 intro box r f s x M M' L hM hr hf hs h
 match r,hr,h with
 | .leaf k,hr,h=>exact(EZ hr).elim
 | .un (op,p) c,hr,h=>
  (first|rw[Ou]at h|rw[BD]at h|rw[CO]at h|rw[LQ]at h)
  dsimp only at h
  rcases kC hr with⟨rfl,⟨rfl,hc,hpl⟩|⟨rfl,hc⟩|⟨rfl,hc⟩⟩
  ·rw[if_pos rfl]at h
   have hnp:aB c=false:=by
    have hf1:=(qw hr.wf).2.2.1;simp[bV]at hf1
    exact hf1.1
   split at h
   ·rename_i hv
    obtain⟨e1,s1⟩:=xI f hM hf h;refine⟨e1,fun t i hx=>?_⟩
    have hi:i<t.length:=(List.getElem?_eq_some_iff.1 hx).1
    have hg:=(LV hx c hc hnp hpl).1 hv;rw[s1];unfold yT nD kK;have hw:∀k,(ay t (.un (19,0) c)).2 i k↔k=i+1:=fun k=>⟨fun h=>h.1,fun h=>⟨h,hi,hg⟩⟩
    cases box with
    |true=>
     simp only[if_true,hw]
     exact⟨fun h=>⟨fun e=>by omega,fun k _ e=>by rw[e];exact h⟩,fun h=>h.2 (i+1) (by omega) rfl⟩
    |false=>
     simp only[Bool.false_eq_true,if_false,hw]
     exact⟨fun h=>Or.inr ⟨i+1,by omega,rfl,h⟩,fun h=>by
      rcases h with⟨e,_⟩|⟨k,_,rfl,h⟩
      ·omega
      ·exact h⟩
   ·rename_i hv
    injection h with h;injection h with h1 h2;subst h1 h2
    refine⟨⟨List.prefix_refl _,hM,BF _ _⟩,fun t i hx=>?_⟩
    have hg:¬(ay t c).1 i:=fun h=>hv ((LV hx c hc hnp hpl).2 h)
    rw[Jc];unfold yT nD kK;have hw:∀k,¬(ay t (.un (19,0) c)).2 i k:=fun k h=>hg h.2.2
    cases box with
    |true=>simp[hw]
    |false=>simp[hw]
  ·rw[if_neg (by decide),if_pos rfl]at h
   obtain⟨a,M1,ha,h⟩:=qg h
   have hk:KT (if box then (aZ c).2 else c):=by
    cases box
    ·exact hc
    ·exact GY hc
   obtain⟨e1,s1⟩:=hA _ x M M1 a hM hk ha;have e:=(qu h).1;subst e;refine⟨⟨e1.pre,e1.good,LU h e1.bd (hs.mono (EY e1.pre))⟩,fun t i hx=>?_⟩
   have hi:i<t.length:=(List.getElem?_eq_some_iff.1 hx).1
   rw[Ov h,s1 t i hx,<-Jd e1.pre hs];unfold yT nD kK;have hw:∀k,(ay t (.un (20,0) c)).2 i k↔k=i/\(ay t c).1 i:=fun k=>Iff.rfl
   cases box with
   |true=>
    simp only[if_true,hw,Bool.not_true,Bool.false_eq_true,if_false]
    rw[(TL t c hc.wf).f2 hc.np i (by omega)]
    constructor
    ·rintro (h1|h1)
     ·exact⟨fun h=>absurd h.2 h1,fun k hk h=>absurd h.2 h1⟩
     ·exact⟨fun _=>h1,fun k hk h=>by omega⟩
    ·rintro⟨h1,_⟩
     by_cases h2:(ay t c).1 i
     ·exact Or.inr (h1 ⟨trivial,h2⟩)
     ·exact Or.inl h2
   |false=>
    simp only[Bool.false_eq_true,if_false,hw,Bool.not_false,if_true]
    constructor
    ·rintro⟨h1,h2⟩;exact Or.inl ⟨⟨trivial,h1⟩,h2⟩
    ·rintro (⟨⟨_,h1⟩,h2⟩|⟨k,hk,⟨e,_⟩,_⟩)
     ·exact⟨h1,h2⟩
     ·omega
  ·rw[if_neg (by decide),if_neg (by decide)]at h
   obtain⟨a,M1,ha,h⟩:=qg h;obtain⟨e1,s1⟩:=hP box c _ (bU box) x M M1 a hM hc (zT hr hf box) (BF _ _) ha;have e:=(qu h).1;subst e;refine⟨⟨e1.pre,e1.good,LU h (hs.mono (EY e1.pre)) e1.bd⟩,fun t i hx=>?_⟩
   have hi:i<t.length:=(List.getElem?_eq_some_iff.1 hx).1
   have hfw:=LW t hc.wf;rw[Ov h,s1 t i hx,<-Jd e1.pre hs,Jc]
   cases box with
   |true=>
    simp only[if_true]
    show _↔nD (fun i k=>∃m,gZ (ay t c).2 m i k) i _ _
    rw[BV hfw (by omega)]
    refine and_congr_right fun _=>?_
    exact Iff.rfl
   |false=>
    simp only[Bool.false_eq_true,if_false]
    show _↔kK (fun i k=>∃m,gZ (ay t c).2 m i k) i _ _
    rw[fh hfw (by omega)]
    refine or_congr_right ?_
    exact Iff.rfl
 | .bin (op,p) c d,hr,h=>
  (first|rw[Ou]at h|rw[BD]at h|rw[CO]at h|rw[LQ]at h)
  dsimp only at h
  obtain⟨rfl,ho,kc,kd⟩:=xH hr;rcases ho with rfl|rfl
  ·rw[if_pos rfl]at h
   obtain⟨a,M1,ha,h⟩:=qg h;obtain⟨b,M2,hb,h⟩:=qg h;obtain⟨e1,s1⟩:=hP box c f s x M M1 a hM kc hf hs ha;obtain⟨e2,s2⟩:=hP box d f s x M1 M2 b e1.good kd hf (hs.mono (EY e1.pre)) hb;obtain⟨e3,s3⟩:=Je h e1 e2;refine⟨e3,fun t i hx=>?_⟩
   rw[s3,s1 t i hx,s2 t i hx,<-Jd e1.pre hs];unfold yT
   cases box with
   |true=>
    simp only[if_true]
    unfold nD
    show _↔((ay t c).2 i i\/(ay t d).2 i i->_)/\∀k,i<k->(ay t c).2 i k\/(ay t d).2 i k->_
    constructor
    ·rintro⟨⟨h1,h2⟩,h3,h4⟩
     exact⟨fun h=>h.elim h1 h3,fun k hk h=>h.elim (h2 k hk) (h4 k hk)⟩
    ·rintro⟨h1,h2⟩
     exact⟨⟨fun h=>h1 (Or.inl h),fun k hk h=>h2 k hk (Or.inl h)⟩,fun h=>h1 (Or.inr h),fun k hk h=>h2 k hk (Or.inr h)⟩
   |false=>
    simp only[Bool.false_eq_true,if_false]
    unfold kK
    show _↔(((ay t c).2 i i\/(ay t d).2 i i)/\_)\/∃k,i<k/\((ay t c).2 i k\/(ay t d).2 i k)/\_
    constructor
    ·rintro ((⟨h1,h2⟩|⟨k,h0,h1,h2⟩)|⟨h1,h2⟩|⟨k,h0,h1,h2⟩)
     ·exact Or.inl ⟨Or.inl h1,h2⟩
     ·exact Or.inr ⟨k,h0,Or.inl h1,h2⟩
     ·exact Or.inl ⟨Or.inr h1,h2⟩
     ·exact Or.inr ⟨k,h0,Or.inr h1,h2⟩
    ·rintro (⟨h1|h1,h2⟩|⟨k,h0,h1|h1,h2⟩)
     ·exact Or.inl (Or.inl ⟨h1,h2⟩)
     ·exact Or.inr (Or.inl ⟨h1,h2⟩)
     ·exact Or.inl (Or.inr ⟨k,h0,h1,h2⟩)
     ·exact Or.inr (Or.inr ⟨k,h0,h1,h2⟩)
  ·rw[if_neg (by decide)]at h
   obtain⟨a,M1,ha,h⟩:=qg h;obtain⟨e1,s1⟩:=hP box d f s x M M1 a hM kd hf hs ha;obtain⟨e2,s2⟩:=hP box c _ a x M1 M' L e1.good kc (zT kd hf box) e1.bd h;refine⟨⟨e1.pre.trans e2.pre,e2.good,e2.bd⟩,fun t i hx=>?_⟩
   have hi:i<t.length:=(List.getElem?_eq_some_iff.1 hx).1
   rw[s2 t i hx,s1 t i hx];unfold yT
   cases box with
   |true=>
    simp only[if_true]
    show _↔nD (fun i k=>∃j,(ay t c).2 i j/\(ay t d).2 j k) i _ _
    rw[BS (LW t kc.wf) (LW t kd.wf) (by omega)]
    exact Iff.rfl
   |false=>
    simp only[Bool.false_eq_true,if_false]
    show _↔kK (fun i k=>∃j,(ay t c).2 i j/\(ay t d).2 j k) i _ _
    rw[eZ (LW t kc.wf) (LW t kd.wf) (by omega)]
    exact Iff.rfl
theorem Jf:∀n,zU n/\zV n
 | 0=>⟨fun T x M M' L _ _ h=>(by (first|rw[EX]at h|rw[CJ]at h|rw[zS]at h|rw[Jb]at h);cases h),fun box r f s x M M' L _ _ _ _ h=>(by (first|rw[Ou]at h|rw[BD]at h|rw[CO]at h|rw[LQ]at h);cases h)⟩
 |n+1=>⟨B7 (Jf n).1 (Jf n).2,B8 (Jf n).1 (Jf n).2⟩
def lY(f:List Tk):Tr:=(gS f []).getLast?.getD (.leaf (0,0))
theorem GZ(h:T.WF):lY T.flat=T:=by
 unfold lY;rw[GU T h []];rfl
def jI(n x:Nat):List Nat->List Nat->Mt->Rt
 | [],m,M=>some (m,M)
 |k::ks,m,M=>bindM (eu n (lY (M.getD k [])) x M) fun a M1=>bindM (bF true m a M1) fun b M2=>jI n x ks b M2
def stepM(n x:Nat):List Nat->List Nat->Mt->Rt
 | [],out,M=>some (out,M)
 |s::ss,out,M=>bindM (jI n x (aY s) [0] M) fun m M1=>bindM (bF false out m M1) fun o M2=>stepM n x ss o M2
theorem fj(n x:Nat):∀(ks m:List Nat)(M M':Mt)(L:List Nat),dM M->jJ m M.length->(∀k∈ks,k<M.length)->jI n x ks m M=some (L,M')->Ext M L M'/\∀(t:List Nat)(i:Nat),t[i]? =some x->(kZ L (gy t M' (i+1))↔kZ m (gy t M (i+1))/\∀k∈ks,gy t M i k)
 | [],m,M,M',L,hM,hm,_,h=>by
  unfold jI at h;injection h with h;injection h with h1 h2;subst h1 h2
  exact⟨⟨List.prefix_refl _,hM,hm⟩,fun t i _=>by simp⟩
 |k::ks,m,M,M',L,hM,hm,hk,h=>by
  unfold jI at h;obtain⟨a,M1,ha,h2⟩:=qg h;obtain⟨b,M2,hb,h3⟩:=qg h2;have hkl:=hk k (by simp)
  have hget:M[k]? =some (M.getD k []):=by rw[List.getD_eq_getElem?_getD,List.getElem?_eq_getElem hkl];rfl
  obtain⟨T,hT,hf⟩:=hM.Wx (M.getD k []) (List.mem_of_getElem? hget);rw[hf,GZ hT.wf]at ha;rw[hf]at hget;obtain⟨e1,s1⟩:=(Jf n).1 T x M M1 a hM hT ha;have e:=(qu hb).1;subst e;have hbd:=LU hb (hm.mono (EY e1.pre)) e1.bd;obtain⟨e2,s2⟩:=fj n x ks b _ M' L e1.good hbd (fun j hj=>Nat.lt_of_lt_of_le (hk j (by simp[hj])) (EY e1.pre)) h3
  refine⟨⟨e1.pre.trans e2.pre,e2.good,e2.bd⟩,fun t i hx=>?_⟩
  rw[s2 t i hx,Ov hb,s1 t i hx,<-Jd e1.pre hm];simp only[if_true]
  have hs:∀j∈ks,(gy t M2 i j↔gy t M i j):=fun j hj=>(eV e1.pre (hk j (by simp[hj]))).symm
  rw[<-Oy (t:=t) (i:=i) hT hget]
  constructor
  ·rintro⟨⟨h1,h2⟩,h3⟩
   refine⟨h1,fun j hj=>?_⟩
   rcases List.mem_cons.1 hj with rfl|hj
   ·exact h2
   ·exact(hs j hj).1 (h3 j hj)
  ·rintro⟨h1,h2⟩
   exact⟨⟨h1,h2 k (by simp)⟩,fun j hj=>(hs j hj).2 (h2 j (by simp[hj]))⟩
theorem fq{s:Nat}(hm:m<=64)(h:∀k,s.testBit k=true->k<m)(P:Nat->Prop):(∀k∈aY s,P k)↔∀k,s.testBit k=true->P k:=by
 constructor
 ·intro h1 k hk
  exact h1 k (qS.2 ⟨Nat.lt_of_lt_of_le (h k hk) hm,hk⟩)
 ·intro h1 k hk
  exact h1 k (qS.1 hk).2
theorem fu(n x:Nat):∀(l out:List Nat)(M M':Mt)(L:List Nat),dM M->jJ out M.length->jJ l M.length->stepM n x l out M=some (L,M')->Ext M L M'/\∀(t:List Nat)(i:Nat),t[i]? =some x->(kZ L (gy t M' (i+1))↔kZ out (gy t M (i+1))\/kZ l (gy t M i))
 | [],out,M,M',L,hM,ho,_,h=>by
  unfold stepM at h;injection h with h;injection h with h1 h2;subst h1 h2
  exact⟨⟨List.prefix_refl _,hM,ho⟩,fun t i _=>⟨Or.inl,fun h=>h.elim id fun⟨s,hs,_⟩=>by cases hs⟩⟩
 |s::ss,out,M,M',L,hM,ho,hl,h=>by
  unfold stepM at h;obtain⟨m,M1,hm,h2⟩:=qg h;obtain⟨o,M2,hq,h3⟩:=qg h2;have hs0:=hl s (by simp)
  obtain⟨e1,s1⟩:=fj n x (aY s) [0] M M1 m hM (BF true _) (fun k hk=>hs0 k (qS.1 hk).2) hm
  have e:=(qu hq).1;subst e;have hbd:=LU hq (ho.mono (EY e1.pre)) e1.bd;obtain⟨e2,s2⟩:=fu n x ss o _ M' L e1.good hbd (fun z hz k hk=>Nat.lt_of_lt_of_le (hl z (by simp[hz]) k hk) (EY e1.pre)) h3
  refine⟨⟨e1.pre.trans e2.pre,e2.good,e2.bd⟩,fun t i hx=>?_⟩
  have hy:kZ [0] (gy t M (i+1)):=(Jc true _).2 rfl;rw[s2 t i hx,Ov hq,s1 t i hx,<-Jd e1.pre ho,<-Jd e1.pre (fun z hz=>hl z (by simp[hz])),fq hM.few hs0]
  simp only[Bool.false_eq_true,if_false]
  constructor
  ·rintro ((h1|⟨_,h1⟩)|⟨z,hz,h1⟩)
   ·exact Or.inl h1
   ·exact Or.inr ⟨s,by simp,h1⟩
   ·exact Or.inr ⟨z,by simp[hz],h1⟩
  ·rintro (h1|⟨z,hz,h1⟩)
   ·exact Or.inl (Or.inl h1)
   ·rcases List.mem_cons.1 hz with rfl|hz
    ·exact Or.inl (Or.inr ⟨hy,h1⟩)
    ·exact Or.inr ⟨z,hz,h1⟩
theorem Ub(hM:dM M)(hl:jJ l M.length)(h:stepM n x l [] M=some (L,M')):Ext M L M'/\∀(t:List Nat)(i:Nat),t[i]? =some x->(kZ L (gy t M' (i+1))↔kZ l (gy t M i)):=by
 obtain⟨e,s⟩:=fu n x l [] M M' L hM (fun z hz=>by cases hz) hl h
 refine⟨e,fun t i hx=>?_⟩
 rw[s t i hx];exact⟨fun h=>h.elim (fun⟨z,hz,_⟩=>by cases hz) id,Or.inr⟩
def xJ(M:Mt)(l:List Nat):Prop:=kZ l (gy [] M 0)
theorem WA:dM []:=⟨fun f hf=>(by cases hf),by simp⟩
def Again(g:Mt->Rt):Prop:=∀M L M1,g M=some (L,M1)->M <+: M1/\∀M2,M1 <+: M2->g M2=some (L,M2)
theorem q30(l:List Nat):Again fun M=>some (l,M):=fun M L M1 h=>by
 injection h with h;injection h with h1 h2;subst h1 h2
 exact⟨List.prefix_refl _,fun M2 _=>rfl⟩
theorem q1n(and:Bool)(a b:List Nat):Again fun M=>bF and a b M:=fun M L M1 h=>by
 have e:=(qu h).1;subst e;refine⟨List.prefix_refl _,fun M2 _=>?_⟩
 show bF and a b M2=_
 unfold bF at h ⊢
 cases hq:(if and then andM a b else orM a b) with
 |none=>rw[hq]at h;cases h
 |some q=>
  rw[hq]at h;injection h with h;injection h with h1 h2
  rw[<-h1];rfl
theorem qF{g:Mt->Rt}{k:List Nat->Mt->Rt}(hg:Again g)(hk:∀l,Again (k l)):Again fun M=>bindM (g M) k:=fun M L M1 h=>by
 obtain⟨a,Ma,ha,h2⟩:=qg h;obtain⟨p1,q1⟩:=hg M a Ma ha;obtain⟨p2,q2⟩:=hk a Ma L M1 h2;refine⟨p1.trans p2,fun M2 h3=>?_⟩
 show bindM (g M2) k=_
 rw[q1 M2 (p2.trans h3)];exact q2 M2 h3
theorem WB(f:List Tk):Again (dQ f):=fun M L M1 h=>by
 unfold dQ at h
 split at h
 ·rename_i i hi
  injection h with h;injection h with h1 h2;subst h1 h2
  refine⟨List.prefix_refl _,fun M2 hp=>?_⟩
  obtain⟨r,rfl⟩:=hp;unfold dQ;rw[List.findIdx?_append,hi];rfl
 ·rename_i hi
  split at h
  ·injection h with h;injection h with h1 h2;subst h1 h2
   refine⟨List.prefix_append _ _,fun M2 hp=>?_⟩
   obtain⟨r,rfl⟩:=hp;unfold dQ;rw[List.append_assoc,List.findIdx?_append,hi];simp[List.findIdx?_cons]
  ·cases h
theorem q1z:∀T:Tr,Again (aH T)
 | .leaf k=>by
  intro M L M1 h;by_cases h0:k.1=0
  ·have e:aH (.leaf k)=fun M=>some ([0],M):=by funext M;unfold aH;rw[if_pos h0]
   rw[e]at h ⊢;exact q30 [0] M L M1 h
  ·by_cases h1:k.1=1
   ·have e:aH (.leaf k)=fun M=>some ([],M):=by funext M;unfold aH;rw[if_neg h0,if_pos h1]
    rw[e]at h ⊢;exact q30 [] M L M1 h
   ·have e:aH (.leaf k)=dQ (Tr.leaf k).flat:=by funext M;unfold aH;rw[if_neg h0,if_neg h1]
    rw[e]at h ⊢;exact WB _ M L M1 h
 | .un k c=>fun M L M1 h=>WB (Tr.un k c).flat M L M1 h
 | .bin k c d=>by
  by_cases h0:k.1=11\/k.1=12
  ·have e:aH (.bin k c d)=fun M=>bindM (aH c M) fun a M1=>bindM (aH d M1) fun b M2=>bF (k.1==11) a b M2:=by funext M;rw[aH,if_pos h0]
   rw[e];exact qF (q1z c) fun a=>qF (q1z d) fun b=>q1n _ a b
  ·have e:aH (.bin k c d)=dQ (Tr.bin k c d).flat:=by funext M;rw[aH,if_neg h0]
   rw[e];exact WB _
theorem WC:Again fun _=>none:=fun M L M1 h=>by cases h
theorem Uc(x:Nat):∀n,(∀T,Again (eu n T x))/\(∀box r s f,Again (fO n box r s f x))
 | 0=>⟨fun T=>by rw[show eu 0 T x=fun _=>none by funext M;rw[Jb]];exact WC,fun box r s f=>by rw[show fO 0 box r s f x=fun _=>none by funext M;rw[LQ]];exact WC⟩
 |n+1=>by
  obtain⟨ih,jh⟩:=Uc x n;refine⟨fun T=>?_,fun box r s f=>?_⟩
  ·match T with
   | .leaf k=>
    rw[show eu (n+1) (.leaf k) x=fun M=>some (bU (if k.1=2 then x.testBit k.2 else k.1==0 || k.1==4),M) by funext M;rw[EX]]
    exact q30 _
   | .un k c=>
    by_cases h6:k.1=6
    ·rw[show eu (n+1) (.un k c) x=fun M=>some (bU (!jR x c),M) by funext M;rw[CJ,if_pos h6]]
     exact q30 _
    ·by_cases h7:k.1=7
     ·rw[show eu (n+1) (.un k c) x=fun M=>bindM (aH (.leaf (4,0)) M) fun a M1=>bindM (aH c M1) fun b M2=>bF true a b M2 by funext M;rw[CJ,if_neg h6,if_pos h7]]
      exact qF (q1z _) fun a=>qF (q1z _) fun b=>q1n _ a b
     ·rw[show eu (n+1) (.un k c) x=fun M=>bindM (aH (.leaf (5,0)) M) fun a M1=>bindM (aH c M1) fun b M2=>bF false a b M2 by funext M;rw[CJ,if_neg h6,if_neg h7]]
      exact qF (q1z _) fun a=>qF (q1z _) fun b=>q1n _ a b
   | .bin k c d=>
    by_cases h1:k.1=11\/k.1=12
    ·rw[show eu (n+1) (.bin k c d) x=fun M=>bindM (eu n c x M) fun a M1=>bindM (eu n d x M1) fun b M2=>bF (k.1==11) a b M2 by funext M;rw[zS,if_pos h1]]
     exact qF (ih c) fun a=>qF (ih d) fun b=>q1n _ a b
    ·by_cases h2:k.1=15\/k.1=16
     ·rw[show eu (n+1) (.bin k c d) x=fun M=>bindM (eu n d x M) fun b M1=>bindM (eu n c x M1) fun a M2=>bindM (aH (.bin k c d) M2) fun u M3=>bindM (bF (k.1==15) a u M3) fun v M4=>bF (k.1==16) b v M4 by funext M;rw[zS,if_neg h1,if_pos h2]]
      exact qF (ih d) fun b=>qF (ih c) fun a=>qF (q1z _) fun u=>qF (q1n _ a u) fun v=>q1n _ b v
     ·rw[show eu (n+1) (.bin k c d) x=fun M=>bindM (eu n d x M) fun s M1=>fO n (k.1==18) c s d x M1 by funext M;rw[zS,if_neg h1,if_neg h2]]
      exact qF (ih d) fun s=>jh _ c s d
  ·match r with
   | .leaf k=>rw[show fO (n+1) box (.leaf k) s f x=fun _=>none by funext M;rw[Ou]];exact WC
   | .un k c=>
    by_cases h1:k.1=19
    ·by_cases hv:jR x c=true
     ·rw[show fO (n+1) box (.un k c) s f x=aH f by funext M;rw[BD,if_pos h1,if_pos hv]]
      exact q1z f
     ·rw[show fO (n+1) box (.un k c) s f x=fun M=>some (bU box,M) by funext M;rw[BD,if_pos h1,if_neg hv]]
      exact q30 _
    ·by_cases h2:k.1=20
     ·rw[show fO (n+1) box (.un k c) s f x=fun M=>bindM (eu n (if box then (aZ c).2 else c) x M) fun a M1=>bF (!box) a s M1 by funext M;rw[BD,if_neg h1,if_pos h2]]
      exact qF (ih _) fun a=>q1n _ a s
     ·rw[show fO (n+1) box (.un k c) s f x=fun M=>bindM (fO n box c (bU box) (.bin (aO box,0) (.un k c) f) x M) fun a M1=>bF box s a M1 by funext M;rw[BD,if_neg h1,if_neg h2]]
      exact qF (jh _ _ _ _) fun a=>q1n _ s a
   | .bin k c d=>
    by_cases h1:k.1=21
    ·rw[show fO (n+1) box (.bin k c d) s f x=fun M=>bindM (fO n box c s f x M) fun a M1=>bindM (fO n box d s f x M1) fun b M2=>bF box a b M2 by funext M;rw[CO,if_pos h1]]
     exact qF (jh _ _ _ _) fun a=>qF (jh _ _ _ _) fun b=>q1n _ a b
    ·rw[show fO (n+1) box (.bin k c d) s f x=fun M=>bindM (fO n box d s f x M) fun a M1=>fO n box c a (.bin (aO box,0) d f) x M1 by funext M;rw[CO,if_neg h1]]
     exact qF (jh _ _ _ _) fun a=>jh _ _ _ _
theorem B9(h:M <+: M')(hk:k<M.length):M'.getD k []=M.getD k []:=by
 rw[List.getD_eq_getElem?_getD,List.getD_eq_getElem?_getD,eT h hk]
theorem Cd(h:eu n T x M=some (L,M')):M <+: M':=((Uc x n).1 T M L M' h).1
theorem WE(n x:Nat):∀(ks m:List Nat)(M M1:Mt)(L:List Nat),(∀k∈ks,k<M.length)->jI n x ks m M=some (L,M1)->M <+: M1/\∀M2,M1 <+: M2->jI n x ks m M2=some (L,M2)
 | [],m,M,M1,L,_,h=>by
  unfold jI at h;injection h with h;injection h with h1 h2;subst h1 h2
  exact⟨List.prefix_refl _,fun M2 _=>rfl⟩
 |k::ks,m,M,M1,L,hk,h=>by
  unfold jI at h;obtain⟨a,Ma,ha,h2⟩:=qg h;obtain⟨b,Mb,hb,h3⟩:=qg h2;obtain⟨p1,q1⟩:=(Uc x n).1 _ M a Ma ha;obtain⟨p2,q2⟩:=q1n true m a Ma b Mb hb;obtain⟨p3,q3⟩:=WE n x ks b Mb M1 L (fun j hj=>Nat.lt_of_lt_of_le (hk j (by simp[hj])) ((p1.trans p2).length_le)) h3
  refine⟨(p1.trans p2).trans p3,fun M2 hp=>?_⟩
  unfold jI;rw[B9 (((p1.trans p2).trans p3).trans hp) (hk k (by simp)),q1 M2 ((p2.trans p3).trans hp)]
  show bindM (bF true m a M2) _=_
  rw[show bF true m a M2=some (b,M2) from q2 M2 (p3.trans hp)];exact q3 M2 hp
theorem Ud(n x:Nat):∀(l out:List Nat)(M M1:Mt)(L:List Nat),jJ l M.length->stepM n x l out M=some (L,M1)->M <+: M1/\∀M2,M1 <+: M2->stepM n x l out M2=some (L,M2)
 | [],out,M,M1,L,_,h=>by
  unfold stepM at h;injection h with h;injection h with h1 h2;subst h1 h2
  exact⟨List.prefix_refl _,fun M2 _=>rfl⟩
 |s::ss,out,M,M1,L,hl,h=>by
  unfold stepM at h;obtain⟨a,Ma,ha,h2⟩:=qg h;obtain⟨b,Mb,hb,h3⟩:=qg h2;obtain⟨p1,q1⟩:=WE n x (aY s) [0] M Ma a (fun k hk=>hl s (by simp) k (qS.1 hk).2) ha
  obtain⟨p2,q2⟩:=q1n false out a Ma b Mb hb;obtain⟨p3,q3⟩:=Ud n x ss b Mb M1 L (fun z hz k hk=>Nat.lt_of_lt_of_le (hl z (by simp[hz]) k hk) ((p1.trans p2).length_le)) h3
  refine⟨(p1.trans p2).trans p3,fun M2 hp=>?_⟩
  unfold stepM;rw[q1 M2 ((p2.trans p3).trans hp)]
  show bindM (bF false out a M2) _=_
  rw[show bF false out a M2=some (b,M2) from q2 M2 (p3.trans hp)];exact q3 M2 hp
def aV:Nat:=5000
theorem Es(h:bF and a b M=some (l,M')):l.length<=1024:=by
 have h2:=(qu h).2;unfold bF at h
 cases and with
 |true=>
  simp only[if_true]at h h2
  unfold andM at h
  split at h
  ·rename_i hl
   rw[h2];exact Nat.le_trans (Oq _) (by rw[Oo];exact hl)
  ·cases h
 |false=>
  simp only[Bool.false_eq_true,if_false]at h h2
  unfold orM at h
  split at h
  ·rename_i hl
   rw[h2];exact Nat.le_trans (Oq _) (by rw[List.length_append];exact hl)
  ·cases h
theorem WG{f:List Tk}(h:dQ f M=some (l,M')):l.length<=1024:=by
 unfold dQ at h
 split at h
 ·injection h with h;injection h with h1 h2;subst h1;simp
 ·split at h
  ·injection h with h;injection h with h1 h2;subst h1;simp
  ·cases h
theorem G5:∀(T:Tr){M M':Mt}{l:List Nat},aH T M=some (l,M')->l.length<=1024
 | .leaf k,M,M',l,h=>by
  unfold aH at h
  split at h
  ·injection h with h;injection h with h1 h2;subst h1;simp
  ·split at h
   ·injection h with h;injection h with h1 h2;subst h1;simp
   ·exact WG h
 | .un k c,M,M',l,h=>WG h
 | .bin k c d,M,M',l,h=>by
  unfold aH at h
  split at h
  ·obtain⟨a,M1,_,h2⟩:=qg h
   obtain⟨b,M2,_,h3⟩:=qg h2;exact Es h3
  ·exact WG h
theorem fx(n x:Nat):∀(l out:List Nat){M M':Mt}{L:List Nat},out.length<=1024->stepM n x l out M=some (L,M')->L.length<=1024
 | [],out,M,M',L,ho,h=>by
  unfold stepM at h;injection h with h;injection h with h1 h2;subst h1;exact ho
 |s::ss,out,M,M',L,_,h=>by
  unfold stepM at h;obtain⟨m,M1,_,h2⟩:=qg h;obtain⟨o,M2,ho,h3⟩:=qg h2;exact fx n x ss o (Es ho) h3
theorem yU(h:jJ l m)(hm:m<=64):∀x∈l,x<2 ^ 64:=fun x hx=>
 Nat.lt_pow_two_of_testBit x fun i hi=>by
  cases ht:x.testBit i with
  |false=>rfl
  |true=>have:=h x hx i ht;omega
theorem Cf(h:oD ts):∃T,KT T/\ts=T.flat:=by
 obtain⟨T,h1,h2,h3,h4⟩:=h;exact⟨T,⟨h1,h2,h3⟩,h4⟩
theorem CH(h:bM ts=0):ts.length<=2048/\∃T,KT T/\ts=T.flat:=by
 obtain⟨h1,h2⟩:=LJ.1 h;exact⟨h1,Cf h2⟩
def hgt:Tr->Nat
 | .leaf _=>1
 | .un k c=>if k.1=6 then 1 else hgt c+1
 | .bin _ c d=>max (hgt c) (hgt d)+1
theorem LX:∀T:Tr,hgt T<=T.size
 | .leaf _=>Nat.le_refl _
 | .un k c=>by
  have:=LX c
  unfold hgt Tr.size
  split<;>omega
 | .bin k c d=>by
  have:=LX c
  have:=LX d
  have:=VB c
  have:=VB d
  unfold hgt Tr.size
  omega
theorem LY(T:Tr):0<hgt T:=by
 cases T with
 |leaf k=>exact Nat.one_pos
 |un k c=>unfold hgt;split<;>omega
 |bin k c d=>unfold hgt;omega
theorem yJ:∀T:Tr,KT T->hgt (aZ T).2=hgt T
 | .leaf (op,p),hT=>by
  rcases Aw hT with⟨rfl,_⟩|⟨rfl,rfl|rfl|rfl|rfl⟩<;>rfl
 | .un (op,p) c,hT=>by
  rcases ku hT with⟨rfl,⟨rfl,q,rfl⟩|⟨ho,hc⟩⟩
  ·rfl
  ·have ih:=yJ c hc
   rcases ho with rfl|rfl
   ·show hgt (aZ c).2+1=hgt c+1
    rw[ih]
   ·show hgt (aZ c).2+1=hgt c+1
    rw[ih]
 | .bin (op,p) c d,hT=>by
  obtain⟨rfl,ho⟩:=xG hT;rcases ho with rfl|rfl|rfl|rfl|rfl|rfl
  ·obtain⟨kc,kd⟩:=qB hT (by simp)
   show max (hgt (aZ c).2) (hgt (aZ d).2)+1=_
   rw[yJ c kc,yJ d kd];rfl
  ·obtain⟨kc,kd⟩:=qB hT (by simp)
   show max (hgt (aZ c).2) (hgt (aZ d).2)+1=_
   rw[yJ c kc,yJ d kd];rfl
  ·obtain⟨kc,kd⟩:=qB hT (by simp)
   show max (hgt (aZ c).2) (hgt (aZ d).2)+1=_
   rw[yJ c kc,yJ d kd];rfl
  ·obtain⟨kc,kd⟩:=qB hT (by simp)
   show max (hgt (aZ c).2) (hgt (aZ d).2)+1=_
   rw[yJ c kc,yJ d kd];rfl
  ·obtain⟨kc,kd⟩:=uP hT (by simp)
   show max (hgt (aZ c).1) (hgt (aZ d).2)+1=_
   rw[(Ar c kc.wf kc.kr).1,yJ d kd];rfl
  ·obtain⟨kc,kd⟩:=uP hT (by simp)
   show max (hgt (aZ c).1) (hgt (aZ d).2)+1=_
   rw[(Ar c kc.wf kc.kr).1,yJ d kd];rfl
def bW:Tr->Bool
 | .leaf k=>k.1==0 || k.1==5
 | .un k c=>if k.1=6 then true else if k.1=20 then bW c else k.1==8 || k.1==23
 | .bin k c d=>if k.1=11 then bW c&&bW d else if k.1=12 then bW c || bW d else if k.1=16 then true else if k.1=17 then bW c&&bW d else if k.1=18 then !bW c || bW d
  else if k.1=21 then bW c || bW d else if k.1=22 then bW c&&bW d else false
theorem WH{r:Tr}(h:KP r)(hw:(ay [] r).2 0 k):k=0:=by
 have:=ET [] r h.wf 0 k (Nat.le_refl _) hw
 simp at this
 omega
theorem zW:∀T:Tr,(KT T->(bW T=true↔(ay [] T).1 0))/\(KP T->(bW T=true↔(ay [] T).2 0 0))
 | .leaf (op,p)=>by
  refine⟨fun hT=>?_,fun hT=>(EZ hT).elim⟩
  rcases Aw hT with⟨rfl,_⟩|⟨rfl,rfl|rfl|rfl|rfl⟩<;>simp[bW,ay,bH,iG]
 | .un (op,p) c=>by
  refine⟨fun hT=>?_,fun hT=>?_⟩
  ·rcases ku hT with⟨rfl,⟨rfl,q,rfl⟩|⟨ho,hc⟩⟩
   ·simp[bW,ay,bH,uy,iG]
   ·rcases ho with rfl|rfl
    ·simp[bW,ay,bH,uy]
    ·simp[bW,ay,bH,uy]
  ·rcases kC hT with⟨rfl,⟨rfl,hc,hpl⟩|⟨rfl,hc⟩|⟨rfl,hc⟩⟩
   ·simp[bW,ay,bH,zK]
   ·have ih:=(zW c).1 hc
    simp only[bW,ay,bH,zK]
    simpa using ih
   ·simp only[bW,ay,bH,zK]
    simp
    exact⟨0,rfl⟩
 | .bin (op,p) c d=>by
  refine⟨fun hT=>?_,fun hT=>?_⟩
  ·obtain⟨rfl,ho⟩:=xG hT
   rcases ho with rfl|rfl|rfl|rfl|rfl|rfl
   ·obtain⟨kc,kd⟩:=qB hT (by simp)
    simp[bW,ay,bH,cZ,(zW c).1 kc,(zW d).1 kd]
   ·obtain⟨kc,kd⟩:=qB hT (by simp)
    simp[bW,ay,bH,cZ,(zW c).1 kc,(zW d).1 kd]
   ·simp[bW,ay,bH,cZ]
   ·simp[bW,ay,bH,cZ]
   ·obtain⟨kc,kd⟩:=uP hT (by simp)
    have ic:=(zW c).2 kc;have id:=(zW d).1 kd
    show (bW c&&bW d)=true↔∃k,(ay [] c).2 0 k/\(ay [] d).1 k
    rw[Bool.and_eq_true,ic,id];exact⟨fun h=>⟨0,h⟩,fun⟨k,h1,h2⟩=>by have e:=WH kc h1;subst e;exact⟨h1,h2⟩⟩
   ·obtain⟨kc,kd⟩:=uP hT (by simp)
    have ic:=(zW c).2 kc;have id:=(zW d).1 kd
    show (!bW c || bW d)=true↔∀k,(ay [] c).2 0 k->(ay [] d).1 k
    constructor
    ·intro h k h1
     have e:=WH kc h1;subst e;rw[ic.2 h1]at h;simp at h
     exact id.1 h
    ·intro h
     cases hc:bW c with
     |false=>rfl
     |true=>simp;exact id.2 (h 0 (ic.1 hc))
  ·obtain⟨rfl,ho,kc,kd⟩:=xH hT
   have ic:=(zW c).2 kc;have id:=(zW d).2 kd;rcases ho with rfl|rfl
   ·simp[bW,ay,bH,vJ,ic,id]
   ·show (bW c&&bW d)=true↔∃j,(ay [] c).2 0 j/\(ay [] d).2 j 0
    rw[Bool.and_eq_true,ic,id];exact⟨fun h=>⟨0,h⟩,fun⟨k,h1,h2⟩=>by have e:=WH kc h1;subst e;exact⟨h1,h2⟩⟩
end Go.Proofs.YtoioiellaomonaaGreatDoor
