/- Texts of the proof, put together: what it uses. -/
import Derived.WalkKit
import Derived.WalkSpells
import Derived.Maps.OwnSet
import Derived.Test.YtekeaodpdcnfjaaGreatDoorProg
import Derived.WalkLawsBesides
import Derived.BigQuiet
import Derived.Deep.QuietTactic
import Derived.Lib.TrailingZeros
import Derived.Test.YtekeaodpdcnfjaaGreatDoorZ00
set_option maxRecDepth 100000
set_option maxHeartbeats 16000000
namespace Go.Proofs.YtekeaodpdcnfjaaGreatDoor
abbrev Wi (a b:Nat):Prop:=a &&& b=a
theorem q2s{a b:Nat}:Wi a b↔∀i,a.testBit i=true->b.testBit i=true:=by
 unfold Wi
 constructor
 ·intro h i hi
  have:=congrArg (fun x=>x.testBit i) h
  simp only[Nat.testBit_and,hi,Bool.true_and]at this
  exact this
 ·intro h
  apply Nat.eq_of_testBit_eq
  intro i;rw[Nat.testBit_and]
  cases ha:a.testBit i with
  | false=>rfl
  | true=>rw[h i ha];rfl
theorem q3D(a:Nat):Wi a a:=q2s.2 fun _ h=>h
theorem q3U{a b c:Nat}(h:Wi a b)(k:Wi b c):Wi a c:=q2s.2 fun i hi=>q2s.1 k i (q2s.1 h i hi)
theorem qdo{a b:Nat}(h:Wi a b)(k:Wi b a):a=b:=by
 apply Nat.eq_of_testBit_eq
 intro i
 cases ha:a.testBit i with
 | true=>exact(q2s.1 h i ha).symm
 | false =>
  cases hb:b.testBit i with
  | false=>rfl
  | true=>rw[q2s.1 k i hb]at ha;cases ha
theorem wi_le{a b:Nat}(h:Wi a b):a<=b:=by
 unfold Wi at h;rw[<- h];exact Nat.and_le_right
abbrev HoP (l:List Nat) (h:Nat):Prop:=∃s∈l,Wi s h
def hoB (l:List Nat) (h:Nat):Bool:=decide (HoP l h)
abbrev Mini (l:List Nat) (x:Nat):Prop:=x∈l/\∀y∈l,Wi y x->y=x
structure IsLeast (l r:List Nat):Prop where
 up:r.Pairwise (· < ·)
 mem:∀x,x∈r↔Mini l x
theorem q3u:∀{a b:List Nat},a.Pairwise (· < ·)->b.Pairwise (· < ·)->(∀x,x∈a↔x∈b)->a=b
 | [],[],_,_,_=>rfl
 | [],y::b,_,_,h=>absurd ((h y).2 (by simp)) (by simp)
 | x::a,[],_,_,h=>absurd ((h x).1 (by simp)) (by simp)
 | x::a,y::b,ha,hb,h=>by
  obtain⟨ha1,ha2⟩:=List.pairwise_cons.1 ha;obtain⟨hb1,hb2⟩:=List.pairwise_cons.1 hb
  have e:x=y:=by
   have h1:=(h x).1 (by simp)
   have h2:=(h y).2 (by simp)
   rcases List.mem_cons.1 h1 with h1|h1
   ·exact h1
   ·rcases List.mem_cons.1 h2 with h2|h2
    ·exact h2.symm
    ·have:=hb1 x h1
     have:=ha1 y h2
     omega
  subst e;refine congrArg (x :: ·) (q3u ha2 hb2 fun z=>?_)
  constructor
  ·intro hz
   rcases List.mem_cons.1 ((h z).1 (by simp[hz])) with e|e
   ·have:=ha1 z hz;omega
   ·exact e
  ·intro hz
   rcases List.mem_cons.1 ((h z).2 (by simp[hz])) with e|e
   ·have:=hb1 z hz;omega
   ·exact e
theorem IsLeast.one{l r r':List Nat}(h:IsLeast l r)(h':IsLeast l r'):r=r':=q3u h.up h'.up fun x=>(h.mem x).trans (h'.mem x).symm
theorem q8a(l:List Nat):∀(n x:Nat),x<=n->x∈l->∃y,Mini l y/\Wi y x:=by
 intro n
 induction n with
 | zero =>
  intro x hx hm;obtain rfl:x=0:=by omega
  exact⟨0,⟨hm,fun y hy hw=>by have:=wi_le hw;omega⟩,q3D 0⟩
 | succ n ih =>
  intro x hx hm;by_cases h:Mini l x
  ·exact⟨x,h,q3D x⟩
  ·have:∃y∈l,Wi y x/\y≠x:=by
    apply Classical.byContradiction
    intro hc
    apply h
    refine⟨hm,fun y hy hw=>?_⟩
    apply Classical.byContradiction
    intro he;exact hc ⟨y,hy,hw,he⟩
   obtain⟨y,hy,hw,hne⟩:=this;have:=wi_le hw
   obtain⟨z,hz,hzw⟩:=ih y (by omega) hy
   exact⟨z,hz,q3U hzw hw⟩
theorem IsLeast.holds{l r:List Nat}(h:IsLeast l r)(held:Nat):HoP r held↔HoP l held:=by
 constructor
 ·rintro⟨s,hs,hw⟩
  exact⟨s,((h.mem s).1 hs).1,hw⟩
 ·rintro⟨s,hs,hw⟩
  obtain⟨y,hy,hyw⟩:=q8a l s s (Nat.le_refl _) hs;exact⟨y,(h.mem y).2 hy,q3U hyw hw⟩
theorem q9P{a b:List Nat}(h:∀held,HoP a held↔HoP b held){x:Nat}(hx:Mini a x):Mini b x:=by
 obtain⟨s,hs,hw⟩:=(h x).1 ⟨x,hx.1,q3D x⟩;obtain⟨t,ht,hw2⟩:=(h s).2 ⟨s,hs,q3D s⟩;have e:=hx.2 t ht (q3U hw2 hw);subst e;have e:=qdo hw hw2;subst e;refine⟨hs,fun y hy hyw=>?_⟩
 obtain⟨u,hu,huw⟩:=(h y).2 ⟨y,hy,q3D y⟩;have e:=hx.2 u hu (q3U huw hyw);subst e;exact qdo hyw huw
theorem qep{a b r r':List Nat}(h:IsLeast a r)(h':IsLeast b r')(hs:∀held,HoP a held↔HoP b held):r=r' :=
 q3u h.up h'.up fun x=>by
  rw[h.mem,h'.mem];exact⟨q9P hs,q9P fun held=>(hs held).symm⟩
theorem qdB{a b:List Nat}{h:Nat}:HoP (a++b) h↔HoP a h\/HoP b h:=by
 unfold HoP
 constructor
 ·rintro⟨s,hs,hw⟩
  rcases List.mem_append.1 hs with hs|hs
  ·exact Or.inl ⟨s,hs,hw⟩
  ·exact Or.inr ⟨s,hs,hw⟩
 ·rintro (⟨s,hs,hw⟩|⟨s,hs,hw⟩)
  ·exact⟨s,by simp[hs],hw⟩
  ·exact⟨s,by simp[hs],hw⟩
def uniL (a b:List Nat):List Nat:=a.flatMap fun x=>b.map fun y=>x ||| y
theorem q4e(a b:List Nat):(uniL a b).length=a.length*b.length:=by
 unfold uniL
 induction a with
 | nil=>simp
 | cons x a ih=>rw[List.flatMap_cons,List.length_append,ih,List.length_map,List.length_cons,Nat.succ_mul];omega
def insU (x:Nat):List Nat->List Nat
 | []=>[x]
 | y::r=>if x<y then x::y::r else if x=y then y::r else y::insU x r
theorem q75(x z:Nat):∀l:List Nat,z∈insU x l↔z=x\/z∈l
 | []=>by simp[insU]
 | y::r=>by
  unfold insU
  split
  ·simp
  ·split
   ·rename_i h1 h2;subst h2;simp
   ·simp only[List.mem_cons,q75 x z r]
    constructor
    ·rintro (h|h|h)
     ·exact Or.inr (Or.inl h)
     ·exact Or.inl h
     ·exact Or.inr (Or.inr h)
    ·rintro (h|h|h)
     ·exact Or.inr (Or.inl h)
     ·exact Or.inl h
     ·exact Or.inr (Or.inr h)
theorem qd5(x:Nat):∀l:List Nat,l.Pairwise (· < ·)->(insU x l).Pairwise (· < ·)
 | [],_=>by simp[insU]
 | y::r,h=>by
  obtain⟨h1,h2⟩:=List.pairwise_cons.1 h;unfold insU
  split
  ·rename_i hx
   refine List.pairwise_cons.2 ⟨fun z hz=>?_,h⟩
   rcases List.mem_cons.1 hz with rfl|hz
   ·exact hx
   ·have:=h1 z hz;omega
  ·split
   ·exact h
   ·rename_i hx hy
    refine List.pairwise_cons.2 ⟨fun z hz=>?_,qd5 x r h2⟩
    rcases (q75 x z r).1 hz with rfl|hz
    ·omega
    ·exact h1 z hz
def sortU (l:List Nat):List Nat:=l.foldr insU []
theorem q9Z(z:Nat):∀l:List Nat,z∈sortU l↔z∈l
 | []=>by simp[sortU]
 | x::l=>by
  show z∈insU x (sortU l)↔_
  rw[q75,q9Z z l,List.mem_cons]
theorem qca:∀l:List Nat,(sortU l).Pairwise (· < ·)
 | []=>by simp[sortU]
 | x::l=>qd5 x _ (qca l)
def leastL (l:List Nat):List Nat:=(sortU l).filter fun x=>decide (Mini l x)
theorem q1P(l:List Nat):IsLeast l (leastL l):=by
 refine⟨(qca l).filter _,fun x=>?_⟩
 unfold leastL;rw[List.mem_filter,q9Z,decide_eq_true_eq];exact⟨fun h=>h.2,fun h=>⟨h.1,h⟩⟩
theorem qeo{l r:List Nat}(h:IsLeast l r):r=leastL l:=h.one (q1P l)
theorem q89{a b:List Nat}(hs:∀held,HoP a held↔HoP b held):leastL a=leastL b:=qep (q1P a) (q1P b) hs
theorem qbU(l:List Nat)(held:Nat):HoP (leastL l) held↔HoP l held:=(q1P l).holds held
theorem q2R{l:List Nat}{x:Nat}(h:x∈leastL l):x∈l:=((q1P l).mem x).1 h |>.1
theorem q8f:∀{a l:List Nat},a.Pairwise (· < ·)->(∀x∈a,x∈l)->a.length<=l.length
 | [],_,_,_=>Nat.zero_le _
 | x::a,l,h,hs=>by
  obtain⟨h1,h2⟩:=List.pairwise_cons.1 h;have hm:=hs x (by simp)
  have:=q8f (l:=l.erase x) h2 (fun y hy=>by
   have:=h1 y hy
   exact(List.mem_erase_of_ne (by omega)).2 (hs y (by simp[hy])))
  rw[List.length_erase_of_mem hm]at this;have hp:=List.length_pos_of_mem hm;simp only[List.length_cons]
  omega
theorem q4X(l:List Nat):(leastL l).length<=l.length:=q8f (q1P l).up fun _ hx=>q2R hx
theorem or_lt{a b:Nat}(ha:a<2 ^ 64)(hb:b<2 ^ 64):a ||| b<2 ^ 64:=Nat.or_lt_two_pow ha hb
theorem qdJ{p:List Nat}{x:Nat}(hx:∀y∈p,y<=x):leastL (p++[x])=if hoB (leastL p) x then leastL p else leastL p++[x]:=by
 have hh:hoB (leastL p) x=true↔HoP p x:=by
  unfold hoB;rw[decide_eq_true_iff];exact qbU p x
 split
 ·rename_i h
  obtain⟨s,hs,hw⟩:=hh.1 h;refine q89 fun held=>?_
  rw[qdB]
  constructor
  ·rintro (h1|⟨y,hy,h1⟩)
   ·exact h1
   ·rcases List.mem_singleton.1 hy with rfl
    exact⟨s,hs,q3U hw h1⟩
  ·exact Or.inl
 ·rename_i h
  have hn:¬ HoP p x:=fun k=>h (hh.2 k)
  have hxp:x ∉ p:=fun k=>hn ⟨x,k,q3D x⟩
  symm
  refine qeo ⟨?_,fun y=>?_⟩
  ·refine List.pairwise_append.2 ⟨(q1P p).up,List.pairwise_singleton _ _,fun y hy z hz=>?_⟩
   rcases List.mem_singleton.1 hz with rfl
   have h1:=q2R hy;have h2:=hx y h1;have h3:y≠z:=fun e=>hxp (e ▸ h1)
   omega
  ·rw[List.mem_append,(q1P p).mem,List.mem_singleton]
   constructor
   ·rintro (⟨h1,h2⟩|rfl)
    ·refine⟨by simp[h1],fun z hz hw=>?_⟩
     rcases List.mem_append.1 hz with hz|hz
     ·exact h2 z hz hw
     ·rcases List.mem_singleton.1 hz with rfl
      have:=wi_le hw
      have:=hx y h1
      omega
    ·refine⟨by simp,fun z hz hw=>?_⟩
     rcases List.mem_append.1 hz with hz|hz
     ·exact absurd ⟨z,hz,hw⟩ hn
     ·exact List.mem_singleton.1 hz
   ·rintro⟨h1,h2⟩
    rcases List.mem_append.1 h1 with h1|h1
    ·exact Or.inl ⟨h1,fun z hz hw=>h2 z (by simp[hz]) hw⟩
    ·exact Or.inr (List.mem_singleton.1 h1)
theorem qdL{s:List Nat}(hs:s.Pairwise (· <= ·)){k:Nat}(hk:k<s.length):leastL (s.take (k+1))=if hoB (leastL (s.take k)) (s.getD k 0) then leastL (s.take k) else leastL (s.take k)++[s.getD k 0]:=by
 have e:s.take (k+1)=s.take k++[s.getD k 0]:=by
  rw[List.take_add_one,List.getElem?_eq_getElem hk,List.getD_eq_getElem?_getD,List.getElem?_eq_getElem hk];rfl
 rw[e];refine qdJ fun y hy=>?_
 obtain⟨j,hj,rfl⟩:=List.getElem_of_mem hy;rw[List.length_take]at hj;rw[List.getElem_take,List.getD_eq_getElem?_getD,List.getElem?_eq_getElem hk];exact List.pairwise_iff_getElem.1 hs j k (by omega) hk (by omega)
theorem qdK{s l:List Nat}(h:s.Perm l):leastL s=leastL l:=q89 fun held=>by
 unfold HoP
 constructor
 ·rintro⟨x,hx,hw⟩;exact⟨x,h.mem_iff.1 hx,hw⟩
 ·rintro⟨x,hx,hw⟩;exact⟨x,h.mem_iff.2 hx,hw⟩
theorem qg3{a b:List Nat}{k:Nat}(hk:k<a.length):uniL (a.take (k+1)) b=uniL (a.take k) b++b.map fun y=>a.getD k 0 ||| y:=by
 have e:a.take (k+1)=a.take k++[a.getD k 0]:=by
  rw[List.take_add_one,List.getElem?_eq_getElem hk,List.getD_eq_getElem?_getD,List.getElem?_eq_getElem hk];rfl
 rw[e];unfold uniL;rw[List.flatMap_append];simp
theorem qfr{b:List Nat}{x j:Nat}(hj:j<b.length):((b.take (j+1)).map fun y=>x ||| y)=((b.take j).map fun y=>x ||| y)++[x ||| b.getD j 0]:=by
 have e:b.take (j+1)=b.take j++[b.getD j 0]:=by
  rw[List.take_add_one,List.getElem?_eq_getElem hj,List.getD_eq_getElem?_getD,List.getElem?_eq_getElem hj];rfl
 rw[e,List.map_append];rfl
theorem qfI{l:List Nat}{d:List Int}(hp:d.Perm (l.map fun (x:Nat)=>(x:Int)))(hu:d.Pairwise (· <= ·)):∃s:List Nat,d=(s.map fun (x:Nat)=>(x:Int))/\s.Perm l/\s.Pairwise (· <= ·):=by
 have h0:∀x∈d,((x.toNat:Nat):Int)=x:=fun x hx=>by
  obtain⟨y,_,rfl⟩:=List.mem_map.1 (hp.mem_iff.1 hx);simp
 have e:d=((d.map Int.toNat).map fun (x:Nat)=>(x:Int)):=by
  rw[List.map_map]
  conv=>lhs;rw[<- List.map_id d]
  refine List.map_congr_left fun x hx=>?_
  exact(h0 x hx).symm
 refine⟨d.map Int.toNat,e,?_,?_⟩
 ·have:=hp.map Int.toNat
  rw[List.map_map]at this;simpa [Function.comp_def] using this
 ·rw[List.pairwise_map]
  exact hu.imp fun h=>by omega
def itemsL (s:Nat):List Nat:=(List.range 64).filter fun i=>s.testBit i
theorem q1B{s i:Nat}:i∈itemsL s↔i<64/\s.testBit i=true:=by
 unfold itemsL;rw[List.mem_filter,List.mem_range]
theorem q9I(s:Nat):(itemsL s).Pairwise (· < ·):=List.pairwise_lt_range.filter _
theorem qcT:itemsL 0=[]:=by
 unfold itemsL;rw[List.filter_eq_nil_iff];intro i _;rw[Nat.zero_testBit];simp
theorem q85(s:Nat):(itemsL s).length<=64:=by
 unfold itemsL;exact Nat.le_trans (List.length_filter_le _ _) (by simp)
theorem qbV(x:Nat)(h0:x≠0)(h:x<2 ^ 64):Lib.ctz 64 x<64/\x.testBit (Lib.ctz 64 x)=true/\∀i,i<Lib.ctz 64 x->x.testBit i=false:=by
 obtain⟨m,hm,hk⟩:=Lib.ctzFrom_spec 64 x (by omega) h
 have e:Lib.ctz 64 x=Lib.ctzFrom 64 x:=by simp[Lib.ctz,h0]
 rw[e];generalize Lib.ctzFrom 64 x=k at *;refine⟨hk,?_,fun i hi=>?_⟩
 ·rw[hm,Nat.mul_comm,Nat.testBit_mul_two_pow]
  simp[Nat.testBit_zero]
 ·rw[hm,Nat.mul_comm,Nat.testBit_mul_two_pow]
  simp;omega
def dropB (x k:Nat):Nat:=x &&& (18446744073709551615 - 2 ^ k)
theorem q5E{x k i:Nat}(hk:k<64):(dropB x k).testBit i=(x.testBit i&&(decide (i<64) && !decide (k=i))):=by
 unfold dropB;have hb:=Nat.testBit_two_pow_sub_succ (n:=64) (x:=2 ^ k) (Nat.pow_lt_pow_right (by decide) hk) i
 rw[show 2 ^ 64 - (2 ^ k+1)=18446744073709551615 - 2 ^ k by omega]at hb
 rw[Nat.testBit_and,hb,Nat.testBit_two_pow]
theorem qbC(x k:Nat):dropB x k<=x:=Nat.and_le_left
theorem qf6{x k:Nat}(hk:k<64)(h:x.testBit k=true):dropB x k<x:=by
 refine Nat.lt_of_le_of_ne (qbC x k) fun e=>?_
 have:=q5E (x:=x) (k:=k) (i:=k) hk
 rw[e,h]at this;simp at this
theorem qdD{x:Nat}(h0:x≠0)(h:x<2 ^ 64):itemsL x=Lib.ctz 64 x::itemsL (dropB x (Lib.ctz 64 x)):=by
 obtain⟨hk,hb,hl⟩:=qbV x h0 h;generalize Lib.ctz 64 x=k at *;refine q3u (q9I x) (List.pairwise_cons.2 ⟨fun i hi=>?_,q9I _⟩) fun i=>?_
 ·obtain⟨h1,h2⟩:=q1B.1 hi
  rw[q5E hk]at h2;simp at h2
  have h3:¬ i<k:=fun hlt=>by rw[hl i hlt]at h2;simp at h2
  omega
 ·rw[List.mem_cons,q1B,q1B,q5E hk]
  constructor
  ·rintro⟨h1,h2⟩
   by_cases e:i=k
   ·exact Or.inl e
   ·refine Or.inr ⟨h1,?_⟩
    rw[h2,decide_eq_true h1,decide_eq_false (by omega)];rfl
  ·rintro (rfl|⟨h1,h2⟩)
   ·exact⟨hk,hb⟩
   ·exact⟨h1,by rw[Bool.and_eq_true]at h2;exact h2.1⟩
abbrev Mt:=List (List Tk)
abbrev Rt:=Option (List Nat×Mt)
def bindM (r:Rt) (k:List Nat->Mt->Rt):Rt:=match r with
 | some (l,M)=>k l M
 | none=>none
theorem qe{r:Rt}{k:List Nat->Mt->Rt}{z:List Nat×Mt}(h:bindM r k=some z):∃l M,r=some (l,M)/\k l M=some z:=by
 cases r with
 | none=>cases h
 | some y=>obtain⟨l,M⟩:=y;exact⟨l,M,rfl,h⟩
def meetM (f:List Tk) (M:Mt):Rt:=match M.findIdx? (· == f) with
 | some i=>some ([2 ^ i],M)
 | none=>if M.length<64 then some ([2 ^ M.length],M++[f]) else none
def andM (a b:List Nat):Option (List Nat):=if a.length*b.length<=1024 then some (leastL (uniL a b)) else none
def orM (a b:List Nat):Option (List Nat):=if a.length+b.length<=1024 then some (leastL (a++b)) else none
def twoM (and:Bool) (a b:List Nat) (M:Mt):Rt:=(if and then andM a b else orM a b).map fun l=>(l,M)
def yesM (b:Bool):List Nat:=if b then [0] else []
def needM:Tr->Mt->Rt
 | .leaf k,M=>if k.1=0 then some ([0],M) else if k.1=1 then some ([],M) else meetM (Tr.leaf k).flat M
 | .un k c,M=>meetM (Tr.un k c).flat M
 | .bin k c d,M=>if k.1=11\/k.1=12 then bindM (needM c M) fun a M1=>bindM (needM d M1) fun b M2=>twoM (k.1 == 11) a b M2 else meetM (Tr.bin k c d).flat M
def plV (x:Nat):Tr->Bool
 | .leaf k=>if k.1=0 then true else if k.1=1 then false else x.testBit k.2
 | .un _ c=>!plV x c
 | .bin k c d=>if k.1=11 then plV x c&&plV x d else if k.1=12 then plV x c || plV x d else if k.1=13 then !plV x c || plV x d else plV x c == plV x d
def modeO (box:Bool):Nat:=if box then 18 else 17
def goM:Nat->Tr ⊕ (Bool×Tr×List Nat×Tr)->Nat->Mt->Rt
 | 0,_,_,_=>none
 | n+1,.inl T,x,M=>match T with
  | .leaf k=>some (yesM (if k.1=2 then x.testBit k.2 else k.1 == 0 || k.1 == 4),M)
  | .un k c=>if k.1=6 then some (yesM (!plV x c),M)
   else if k.1=7 then bindM (needM (.leaf (4,0)) M) fun a M1=>bindM (needM c M1) fun b M2=>twoM true a b M2
   else bindM (needM (.leaf (5,0)) M) fun a M1=>bindM (needM c M1) fun b M2=>twoM false a b M2
  | .bin k c d=>if k.1=11\/k.1=12 then bindM (goM n (.inl c) x M) fun a M1=>bindM (goM n (.inl d) x M1) fun b M2=>twoM (k.1 == 11) a b M2
   else if k.1=15\/k.1=16 then bindM (goM n (.inl d) x M) fun b M1=>bindM (goM n (.inl c) x M1) fun a M2=>bindM (needM (.bin k c d) M2) fun u M3=>bindM (twoM (k.1 == 15) a u M3) fun v M4=>twoM (k.1 == 16) b v M4
   else bindM (goM n (.inl d) x M) fun s M1=>goM n (.inr (k.1 == 18,c,s,d)) x M1
 | n+1,.inr (box,r,s,f),x,M=>match r with
  | .leaf _=>none
  | .un k c=>if k.1=19 then (if plV x c then needM f M else some (yesM box,M))
   else if k.1=20 then bindM (goM n (.inl (if box then (kTr c).2 else c)) x M) fun a M1=>twoM (!box) a s M1
   else bindM (goM n (.inr (box,c,yesM box,.bin (modeO box,0) (.un k c) f)) x M) fun a M1=>twoM box s a M1
  | .bin k c d=>if k.1=21 then bindM (goM n (.inr (box,c,s,f)) x M) fun a M1=>bindM (goM n (.inr (box,d,s,f)) x M1) fun b M2=>twoM box a b M2
   else bindM (goM n (.inr (box,d,s,f)) x M) fun a M1=>goM n (.inr (box,c,a,.bin (modeO box,0) d f)) x M1
def aftM (n:Nat) (T:Tr) (x:Nat) (M:Mt):Rt:=goM n (.inl T) x M
def pthM (n:Nat) (box:Bool) (r:Tr) (s:List Nat) (f:Tr) (x:Nat) (M:Mt):Rt:=goM n (.inr (box,r,s,f)) x M
theorem qN(T:Tr)(x:Nat)(M:Mt):aftM 0 T x M=none:=rfl
theorem qK(n:Nat)(k:Tk)(x:Nat)(M:Mt):aftM (n+1) (.leaf k) x M=some (yesM (if k.1=2 then x.testBit k.2 else k.1 == 0 || k.1 == 4),M):=rfl
theorem qQ(n:Nat)(k:Tk)(c:Tr)(x:Nat)(M:Mt):aftM (n+1) (.un k c) x M=if k.1=6 then some (yesM (!plV x c),M)
  else if k.1=7 then bindM (needM (.leaf (4,0)) M) fun a M1=>bindM (needM c M1) fun b M2=>twoM true a b M2
  else bindM (needM (.leaf (5,0)) M) fun a M1=>bindM (needM c M1) fun b M2=>twoM false a b M2:=rfl
theorem qB(n:Nat)(k:Tk)(c d:Tr)(x:Nat)(M:Mt):aftM (n+1) (.bin k c d) x M=if k.1=11\/k.1=12 then bindM (aftM n c x M) fun a M1=>bindM (aftM n d x M1) fun b M2=>twoM (k.1 == 11) a b M2
  else if k.1=15\/k.1=16 then bindM (aftM n d x M) fun b M1=>bindM (aftM n c x M1) fun a M2=>bindM (needM (.bin k c d) M2) fun u M3=>bindM (twoM (k.1 == 15) a u M3) fun v M4=>twoM (k.1 == 16) b v M4
  else bindM (aftM n d x M) fun s M1=>pthM n (k.1 == 18) c s d x M1:=rfl
theorem q1l(box:Bool)(r:Tr)(s:List Nat)(f:Tr)(x:Nat)(M:Mt):pthM 0 box r s f x M=none:=rfl
theorem q1k(n:Nat)(box:Bool)(k:Tk)(s:List Nat)(f:Tr)(x:Nat)(M:Mt):pthM (n+1) box (.leaf k) s f x M=none:=rfl
theorem q1b(n:Nat)(box:Bool)(k:Tk)(c:Tr)(s:List Nat)(f:Tr)(x:Nat)(M:Mt):pthM (n+1) box (.un k c) s f x M=if k.1=19 then (if plV x c then needM f M else some (yesM box,M))
  else if k.1=20 then bindM (aftM n (if box then (kTr c).2 else c) x M) fun a M1=>twoM (!box) a s M1
  else bindM (pthM n box c (yesM box) (.bin (modeO box,0) (.un k c) f) x M) fun a M1=>twoM box s a M1:=rfl
theorem qU(n:Nat)(box:Bool)(k:Tk)(c d:Tr)(s:List Nat)(f:Tr)(x:Nat)(M:Mt):pthM (n+1) box (.bin k c d) s f x M=if k.1=21 then bindM (pthM n box c s f x M) fun a M1=>bindM (pthM n box d s f x M1) fun b M2=>twoM box a b M2
  else bindM (pthM n box d s f x M) fun a M1=>pthM n box c a (.bin (modeO box,0) d f) x M1:=rfl
def LsP (l:List Nat) (P:Nat->Prop):Prop:=∃s∈l,∀k,s.testBit k=true->P k
theorem q9O(l:List Nat)(P:Nat->Prop):LsP (leastL l) P↔LsP l P:=by
 constructor
 ·rintro⟨s,hs,h⟩
  exact⟨s,q2R hs,h⟩
 ·rintro⟨s,hs,h⟩
  obtain⟨y,hy,hw⟩:=q8a l s s (Nat.le_refl _) hs;exact⟨y,((q1P l).mem y).2 hy,fun k hk=>h k (q2s.1 hw k hk)⟩
theorem qdN(a b:List Nat)(P:Nat->Prop):LsP (a++b) P↔LsP a P\/LsP b P:=by
 unfold LsP
 constructor
 ·rintro⟨s,hs,h⟩
  rcases List.mem_append.1 hs with hs|hs
  ·exact Or.inl ⟨s,hs,h⟩
  ·exact Or.inr ⟨s,hs,h⟩
 ·rintro (⟨s,hs,h⟩|⟨s,hs,h⟩)
  ·exact⟨s,by simp[hs],h⟩
  ·exact⟨s,by simp[hs],h⟩
theorem qgD(a b:List Nat)(P:Nat->Prop):LsP (uniL a b) P↔LsP a P/\LsP b P:=by
 unfold LsP uniL
 constructor
 ·rintro⟨s,hs,h⟩
  obtain⟨x,hx,hs⟩:=List.mem_flatMap.1 hs;obtain⟨y,hy,rfl⟩:=List.mem_map.1 hs;exact⟨⟨x,hx,fun k hk=>h k (by rw[Nat.testBit_or,hk];rfl)⟩,⟨y,hy,fun k hk=>h k (by rw[Nat.testBit_or,hk,Bool.or_true])⟩⟩
 ·rintro⟨⟨x,hx,h1⟩,y,hy,h2⟩
  refine⟨x ||| y,List.mem_flatMap.2 ⟨x,hx,List.mem_map.2 ⟨y,hy,rfl⟩⟩,fun k hk=>?_⟩
  rw[Nat.testBit_or,Bool.or_eq_true]at hk;rcases hk with hk|hk
  ·exact h1 k hk
  ·exact h2 k hk
theorem q2G(b:Bool)(P:Nat->Prop):LsP (yesM b) P↔b=true:=by
 unfold LsP yesM
 cases b with
 | false=>simp
 | true=>exact⟨fun _=>rfl,fun _=>⟨0,by simp,fun k hk=>by rw[Nat.zero_testBit]at hk;cases hk⟩⟩
theorem q9k(i:Nat)(P:Nat->Prop):LsP [2 ^ i] P↔P i:=by
 unfold LsP
 constructor
 ·rintro⟨s,hs,h⟩
  rcases List.mem_singleton.1 hs with rfl
  exact h i (by rw[Nat.testBit_two_pow];simp)
 ·intro h
  refine⟨2 ^ i,by simp,fun k hk=>?_⟩
  rw[Nat.testBit_two_pow]at hk;have:i=k:=by simpa using hk
  exact this ▸ h
theorem q9N{l:List Nat}{P Q:Nat->Prop}(h:∀s∈l,∀k,s.testBit k=true->(P k↔Q k)):LsP l P↔LsP l Q :=
 ⟨fun⟨s,hs,k⟩=>⟨s,hs,fun j hj=>(h s hs j hj).1 (k j hj)⟩,fun⟨s,hs,k⟩=>⟨s,hs,fun j hj=>(h s hs j hj).2 (k j hj)⟩⟩
def BdL (l:List Nat) (m:Nat):Prop:=∀s∈l,∀k,s.testBit k=true->k<m
theorem BdL.mono{l:List Nat}{m n:Nat}(h:BdL l m)(hn:m<=n):BdL l n:=fun s hs k hk=>Nat.lt_of_lt_of_le (h s hs k hk) hn
theorem q9x{l:List Nat}{m:Nat}(h:BdL l m):BdL (leastL l) m:=fun s hs=>h s (q2R hs)
theorem qdv{a b:List Nat}{m:Nat}(h:BdL a m)(k:BdL b m):BdL (a++b) m:=fun s hs=>by
 rcases List.mem_append.1 hs with hs|hs
 ·exact h s hs
 ·exact k s hs
theorem qgb{a b:List Nat}{m:Nat}(h:BdL a m)(k:BdL b m):BdL (uniL a b) m:=fun s hs j hj=>by
 obtain⟨x,hx,hs⟩:=List.mem_flatMap.1 hs;obtain⟨y,hy,rfl⟩:=List.mem_map.1 hs;rw[Nat.testBit_or,Bool.or_eq_true]at hj;rcases hj with hj|hj
 ·exact h x hx j hj
 ·exact k y hy j hj
theorem q1m(b:Bool)(m:Nat):BdL (yesM b) m:=fun s hs k hk=>by
 unfold yesM at hs
 cases b with
 | false=>simp at hs
 | true=>simp at hs;subst hs;rw[Nat.zero_testBit]at hk;cases hk
theorem qd2{i m:Nat}(h:i<m):BdL [2 ^ i] m:=fun s hs k hk=>by
 rcases List.mem_singleton.1 hs with rfl
 rw[Nat.testBit_two_pow]at hk;have:i=k:=by simpa using hk
 omega
theorem qx{and:Bool}{a b:List Nat}{M M':Mt}{l:List Nat}(h:twoM and a b M=some (l,M')):M'=M/\l=if and then leastL (uniL a b) else leastL (a++b):=by
 unfold twoM at h
 cases and with
 | true =>
  simp only[if_true]at h ⊢
  unfold andM at h
  split at h
  ·simp at h;exact⟨h.2.symm,h.1.symm⟩
  ·simp at h
 | false =>
  simp only[Bool.false_eq_true,if_false]at h ⊢
  unfold orM at h
  split at h
  ·simp at h;exact⟨h.2.symm,h.1.symm⟩
  ·simp at h
theorem q5P{and:Bool}{a b:List Nat}{M M':Mt}{l:List Nat}(h:twoM and a b M=some (l,M'))(P:Nat->Prop):LsP l P↔if and then LsP a P/\LsP b P else LsP a P\/LsP b P:=by
 rw[(qx h).2]
 cases and with
 | true=>simp only[if_true];rw[q9O,qgD]
 | false=>simp only[Bool.false_eq_true,if_false];rw[q9O,qdN]
theorem q3S{and:Bool}{a b:List Nat}{M M':Mt}{l:List Nat}(h:twoM and a b M=some (l,M')){m:Nat}(ha:BdL a m)(hb:BdL b m):BdL l m:=by
 rw[(qx h).2]
 cases and with
 | true=>exact q9x (qgb ha hb)
 | false=>exact q9x (qdv ha hb)
structure KT (T:Tr):Prop where
 wf:T.WF
 np:pathT T=false
 kr:kerT T=true
structure KP (T:Tr):Prop where
 wf:T.WF
 isp:pathT T=true
 kr:kerT T=true
theorem qfK(t:List Nat){T S:Tr}(h:T.WF)(k:S.WF)(e:T.flat=S.flat):semTr t T=semTr t S:=(q31 t T h).same (e ▸ q31 t S k)
structure GoodM (M:Mt):Prop where
 ker:∀f∈M,∃T,KT T/\f=T.flat
 few:M.length<=64
def SatM (t:List Nat) (M:Mt) (i k:Nat):Prop:=∃T,KT T/\M[k]? = some T.flat/\(semTr t T).1 i
theorem q5N{t:List Nat}{M:Mt}{i k:Nat}{T:Tr}(hT:KT T)(h:M[k]? = some T.flat):SatM t M i k↔(semTr t T).1 i:=by
 constructor
 ·rintro⟨S,hS,h1,h2⟩
  rw[h]at h1;injection h1 with h1;rw[qfK t hT.wf hS.wf h1];exact h2
 ·intro h2
  exact⟨T,hT,h,h2⟩
theorem qdd{M M':Mt}(h:M <+: M'){k:Nat}(hk:k<M.length):M'[k]? = M[k]? := by
 obtain⟨r,rfl⟩:=h;rw[List.getElem?_append_left hk]
theorem qdf{t:List Nat}{M M':Mt}(h:M <+: M'){i k:Nat}(hk:k<M.length):SatM t M i k↔SatM t M' i k:=by
 unfold SatM;rw[qdd h hk]
theorem q2f{t:List Nat}{M M':Mt}(h:M <+: M'){l:List Nat}(hl:BdL l M.length)(i:Nat):LsP l (SatM t M i)↔LsP l (SatM t M' i):=q9N fun s hs k hk=>qdf h (hl s hs k hk)
structure Ext (M:Mt) (L:List Nat) (M':Mt):Prop where
 pre:M <+: M'
 good:GoodM M'
 bd:BdL L M'.length
theorem q1F{M M':Mt}(h:M <+: M'):M.length<=M'.length:=h.length_le
theorem q9m{T:Tr}{M M':Mt}{L:List Nat}(hM:GoodM M)(hT:KT T)(h:meetM T.flat M=some (L,M')):Ext M L M'/\∀t i,LsP L (SatM t M' i)↔(semTr t T).1 i:=by
 unfold meetM at h
 split at h
 ·rename_i i hi
  injection h with h;injection h with h1 h2;subst h1 h2;obtain⟨hlt,he,_⟩:=List.findIdx?_eq_some_iff_getElem.1 hi;have he':M[i]? = some T.flat:=by rw[List.getElem?_eq_getElem hlt];simpa using he
  exact⟨⟨List.prefix_refl _,hM,qd2 hlt⟩,fun t j=>by rw[q9k];exact q5N hT he'⟩
 ·split at h
  ·rename_i hl
   injection h with h;injection h with h1 h2;subst h1 h2;refine⟨⟨List.prefix_append _ _,⟨fun f hf=>?_,by rw[List.length_append];simp;omega⟩,qd2 (by rw[List.length_append];simp)⟩,fun t j=>?_⟩
   ·rcases List.mem_append.1 hf with hf|hf
    ·exact hM.ker f hf
    ·exact⟨T,hT,List.mem_singleton.1 hf⟩
   ·rw[q9k]
    exact q5N hT (by simp)
  ·cases h
theorem q3a{and:Bool}{a b:List Nat}{M M1 M2 M':Mt}{l:List Nat}(h:twoM and a b M2=some (l,M'))(h1:Ext M a M1)(h2:Ext M1 b M2):Ext M l M'/\∀t i,LsP l (SatM t M' i)↔if and then LsP a (SatM t M1 i)/\LsP b (SatM t M2 i) else LsP a (SatM t M1 i)\/LsP b (SatM t M2 i):=by
 have e:=(qx h).1;subst e;refine⟨⟨h1.pre.trans h2.pre,h2.good,q3S h (h1.bd.mono (q1F h2.pre)) h2.bd⟩,fun t i=>?_⟩
 rw[q5P h,q2f h2.pre h1.bd]
theorem qI{op p:Nat}{c d:Tr}(h:KT (.bin (op,p) c d))(ho:op=11\/op=12\/op=15\/op=16):KT c/\KT d:=by
 obtain⟨rfl,hc,hd,hf,_⟩:=qF h.wf;have hk:=h.kr;simp only[kerT,Bool.and_eq_true]at hk
 have hn:pathT c=false/\pathT d=false:=by
  rcases ho with rfl|rfl|rfl|rfl <;> simpa [fit2T] using hf
 exact⟨⟨hc,hn.1,hk.2.1⟩,⟨hd,hn.2,hk.2.2⟩⟩
theorem q1z{op p:Nat}{c d:Tr}(h:KT (.bin (op,p) c d))(ho:op=17\/op=18):KP c/\KT d:=by
 obtain⟨rfl,hc,hd,hf,_⟩:=qF h.wf;have hk:=h.kr;simp only[kerT,Bool.and_eq_true]at hk
 have hn:pathT c=true/\pathT d=false:=by
  rcases ho with rfl|rfl <;> simpa [fit2T] using hf
 exact⟨⟨hc,hn.1,hk.2.1⟩,⟨hd,hn.2,hk.2.2⟩⟩
theorem q1J{op p:Nat}{c d:Tr}(h:KT (.bin (op,p) c d)):p=0/\(op=11\/op=12\/op=15\/op=16\/op=17\/op=18):=by
 obtain⟨rfl,hc,hd,hf,ho⟩:=qF h.wf;have hk:=h.kr;have hp:=h.np;refine⟨rfl,?_⟩
 rcases ho with rfl|rfl|rfl|rfl|rfl|rfl|rfl|rfl|rfl|rfl
 ·simp
 ·simp
 ·simp[kerT]at hk
 ·simp[kerT]at hk
 ·simp
 ·simp
 ·simp
 ·simp
 ·cases hp
 ·cases hp
theorem kt_un{op p:Nat}{c:Tr}(h:KT (.un (op,p) c)):p=0/\((op=6/\∃q,c=.leaf (2,q))\/((op=7\/op=8)/\KT c)):=by
 obtain⟨rfl,hc,hf,ho⟩:=qL h.wf;have hk:=h.kr;have hp:=h.np;refine⟨rfl,?_⟩
 rcases ho with rfl|rfl|rfl|rfl|rfl|rfl|rfl|rfl
 ·refine Or.inl ⟨rfl,?_⟩
  match c,hk with
  | .leaf (o,q),hk=>simp[kerT]at hk;exact⟨q,by rw[hk]⟩
  | .un _ _,hk=>simp[kerT]at hk
  | .bin _ _ _,hk=>simp[kerT]at hk
 ·refine Or.inr ⟨Or.inl rfl,hc,by simpa [fit1T] using hf,by simpa [kerT] using hk⟩
 ·refine Or.inr ⟨Or.inr rfl,hc,by simpa [fit1T] using hf,by simpa [kerT] using hk⟩
 ·simp[kerT]at hk
 ·simp[kerT]at hk
 ·cases hp
 ·cases hp
 ·cases hp
theorem q1X{op p:Nat}(h:KT (.leaf (op,p))):(op=2/\p<=7)\/(p=0/\(op=0\/op=1\/op=4\/op=5)):=by
 have hk:=h.kr;rcases qV h.wf with h1|⟨h1,rfl|rfl|rfl|rfl|rfl⟩
 ·exact Or.inl h1
 ·exact Or.inr ⟨h1,by simp⟩
 ·exact Or.inr ⟨h1,by simp⟩
 ·simp[kerT]at hk
 ·exact Or.inr ⟨h1,by simp⟩
 ·exact Or.inr ⟨h1,by simp⟩
theorem kp_un{op p:Nat}{c:Tr}(h:KP (.un (op,p) c)):p=0/\((op=19/\c.WF/\plainT c=true)\/(op=20/\KT c)\/(op=23/\KP c)):=by
 obtain⟨rfl,hc,hf,ho⟩:=qL h.wf;have hk:=h.kr;have hp:=h.isp;refine⟨rfl,?_⟩
 rcases ho with rfl|rfl|rfl|rfl|rfl|rfl|rfl|rfl
 ·cases hp
 ·cases hp
 ·cases hp
 ·cases hp
 ·cases hp
 ·simp[fit1T]at hf
  exact Or.inl ⟨rfl,hc,hf.2⟩
 ·exact Or.inr (Or.inl ⟨rfl,hc,by simpa [fit1T] using hf,by simpa [kerT] using hk⟩)
 ·exact Or.inr (Or.inr ⟨rfl,hc,by simpa [fit1T] using hf,by simpa [kerT] using hk⟩)
theorem q1y{op p:Nat}{c d:Tr}(h:KP (.bin (op,p) c d)):p=0/\(op=21\/op=22)/\KP c/\KP d:=by
 obtain⟨rfl,hc,hd,hf,ho⟩:=qF h.wf;have hk:=h.kr;have hp:=h.isp;simp only[kerT,Bool.and_eq_true]at hk
 refine⟨rfl,?_⟩
 rcases ho with rfl|rfl|rfl|rfl|rfl|rfl|rfl|rfl|rfl|rfl
 ·cases hp
 ·cases hp
 ·cases hp
 ·cases hp
 ·cases hp
 ·cases hp
 ·cases hp
 ·cases hp
 ·have hn:pathT c=true/\pathT d=true:=by simpa [fit2T] using hf
  exact⟨Or.inl rfl,⟨hc,hn.1,hk.2.1⟩,⟨hd,hn.2,hk.2.2⟩⟩
 ·have hn:pathT c=true/\pathT d=true:=by simpa [fit2T] using hf
  exact⟨Or.inr rfl,⟨hc,hn.1,hk.2.1⟩,⟨hd,hn.2,hk.2.2⟩⟩
theorem q2D{k:Tk}(h:KP (.leaf k)):False:=by
 obtain⟨op,p⟩:=k;have hp:=h.isp;rcases qV h.wf with⟨rfl,_⟩|⟨_,rfl|rfl|rfl|rfl|rfl⟩ <;> cases hp
theorem q2E{r f:Tr}(hr:KP r)(hf:KT f)(box:Bool):KT (.bin (modeO box,0) r f):=by
 refine⟨qH ?_ ?_ hr.wf hf.wf,?_,?_⟩
 ·cases box <;> rfl
 ·cases box <;> simp[modeO,fit2T,hr.isp,hf.np]
 ·cases box <;> rfl
 ·cases box <;> simp[modeO,kerT,hr.kr,hf.kr]
theorem q2F(op:Nat)(h:op=4\/op=5):KT (.leaf (op,0)):=by
 rcases h with rfl|rfl
 ·exact⟨qR rfl (by decide),rfl,rfl⟩
 ·exact⟨qR rfl (by decide),rfl,rfl⟩
theorem q3i{T:Tr}(h:KT T):KT (kTr T).2:=⟨(kOk T h.wf).w2 h.np,(kOk T h.wf).p2 h.np,(ker_k T h.wf).2 h.np⟩
theorem qZ:∀(T:Tr) {M M':Mt} {L:List Nat},GoodM M->KT T->needM T M=some (L,M')->Ext M L M'/\∀t i,LsP L (SatM t M' i)↔(semTr t T).1 i
 | .leaf (op,p),M,M',L,hM,hT,h=>by
  unfold needM at h;dsimp only at h
  split at h
  ·rename_i h0
   injection h with h;injection h with h1 h2;subst h1 h2
   refine⟨⟨List.prefix_refl _,hM,q1m true _⟩,fun t i=>?_⟩
   have:=q2G true (SatM t M i)
   simp only[yesM,if_true]at this
   rw[this];simp[semTr,semT,leafV,h0]
  ·split at h
   ·rename_i h0 h1
    injection h with h;injection h with h2 h3;subst h2 h3
    refine⟨⟨List.prefix_refl _,hM,q1m false _⟩,fun t i=>?_⟩
    have:=q2G false (SatM t M i)
    simp only[yesM,Bool.false_eq_true,if_false]at this
    rw[this];simp[semTr,semT,leafV,h1]
   ·exact q9m hM hT h
 | .un k c,M,M',L,hM,hT,h=>q9m hM hT h
 | .bin (op,p) c d,M,M',L,hM,hT,h=>by
  unfold needM at h;dsimp only at h
  split at h
  ·rename_i ho
   obtain⟨a,M1,ha,h⟩:=qe h;obtain⟨b,M2,hb,h⟩:=qe h;obtain⟨kc,kd⟩:=qI hT (by rcases ho with h|h <;> simp[h])
   obtain⟨e1,s1⟩:=qZ c hM kc ha;obtain⟨e2,s2⟩:=qZ d e1.good kd hb;obtain⟨e3,s3⟩:=q3a h e1 e2;refine⟨e3,fun t i=>?_⟩
   rw[s3,s1,s2];rcases ho with rfl|rfl
   ·simp[semTr,semT,binV]
   ·simp[semTr,semT,binV]
  ·exact q9m hM hT h
theorem q38{t:List Nat}{i x:Nat}(hx:t[i]? = some x):∀T:Tr,T.WF->pathT T=false->plainT T=true->(plV x T=true↔(semTr t T).1 i)
 | .leaf (op,p),h,_,hp=>by
  have hi:i<t.length:=(List.getElem?_eq_some_iff.1 hx).1
  have hg:t.getD i 0=x:=by rw[List.getD_eq_getElem?_getD,hx];rfl
  rw[q8c]at hp;rcases qV h with⟨rfl,_⟩|⟨_,rfl|rfl|rfl|rfl|rfl⟩
  ·rw[show (semTr t (Tr.leaf (2,p))).1 i=(i<t.length/\(t.getD i 0).testBit p=true) from rfl,hg,show plV x (Tr.leaf (2,p))=x.testBit p from rfl]
   exact⟨fun h=>⟨hi,h⟩,fun h=>h.2⟩
  ·simp[plV,semTr,semT,leafV]
  ·simp[plV,semTr,semT,leafV]
  ·simp[plainB]at hp
  ·simp[plainB]at hp
  ·simp[plainB]at hp
 | .un (op,p) c,h,hq,hp=>by
  obtain⟨rfl,hc,hf,ho⟩:=qL h;rw[q1e]at hp;simp only[Bool.and_eq_true]at hp
  rcases ho with rfl|rfl|rfl|rfl|rfl|rfl|rfl|rfl
  ·have ih:=q38 hx c hc (by simpa [fit1T] using hf) hp.2
   simp only[plV,semTr,semT,unV,if_true]
   rw[<- ih];simp
  ·simp[plainB]at hp
  ·simp[plainB]at hp
  ·simp[plainB]at hp
  ·simp[plainB]at hp
  ·cases hq
  ·cases hq
  ·cases hq
 | .bin (op,p) c d,h,hq,hp=>by
  obtain⟨rfl,hc,hd,hf,ho⟩:=qF h;rw[qr]at hp;simp only[Bool.and_eq_true]at hp
  have ih:=fun hn=>q38 hx c hc hn hp.2.1
  have jh:=fun hn=>q38 hx d hd hn hp.2.2
  rcases ho with rfl|rfl|rfl|rfl|rfl|rfl|rfl|rfl|rfl|rfl
  ·have hn:pathT c=false/\pathT d=false:=by simpa [fit2T] using hf
   simp[plV,semTr,semT,binV,<- ih hn.1,<- jh hn.2]
  ·have hn:pathT c=false/\pathT d=false:=by simpa [fit2T] using hf
   simp[plV,semTr,semT,binV,<- ih hn.1,<- jh hn.2]
  ·have hn:pathT c=false/\pathT d=false:=by simpa [fit2T] using hf
   simp only[plV,semTr,semT,binV,<- ih hn.1,<- jh hn.2]
   cases plV x c <;> cases plV x d <;> simp
  ·have hn:pathT c=false/\pathT d=false:=by simpa [fit2T] using hf
   simp only[plV,semTr,semT,binV,<- ih hn.1,<- jh hn.2]
   cases plV x c <;> cases plV x d <;> simp
  ·simp[plainB]at hp
  ·simp[plainB]at hp
  ·simp[plainB]at hp
  ·simp[plainB]at hp
  ·cases hq
  ·cases hq
def wayD (w:Nat->Nat->Prop) (i:Nat) (S:Prop) (F:Nat->Prop):Prop:=(w i i/\S)\/∃k,i<k/\w i k/\F k
def wayB (w:Nat->Nat->Prop) (i:Nat) (S:Prop) (F:Nat->Prop):Prop:=(w i i->S)/\∀k,i<k->w i k->F k
theorem q3T(w:Nat->Nat->Prop)(i:Nat)(S:Prop)(F:Nat->Prop):wayB w i S F↔¬ wayD w i (¬ S) (fun k=>¬ F k):=by
 unfold wayB wayD
 constructor
 ·rintro⟨h1,h2⟩ (⟨h3,h4⟩|⟨k,h3,h4,h5⟩)
  ·exact h4 (h1 h3)
  ·exact h5 (h2 k h3 h4)
 ·intro h
  refine⟨fun h1=>?_,fun k h1 h2=>?_⟩
  ·exact Classical.byContradiction fun h2=>h (Or.inl ⟨h1,h2⟩)
  ·exact Classical.byContradiction fun h3=>h (Or.inr ⟨k,h1,h2,h3⟩)
theorem q8n{w:Nat->Nat->Prop}{i:Nat}{S S':Prop}{F F':Nat->Prop}(h:S↔S')(k:∀j,F j↔F' j):wayD w i S F↔wayD w i S' F':=by
 unfold wayD;rw[h]
 constructor
 ·rintro (h1|⟨j,h1,h2,h3⟩)
  ·exact Or.inl h1
  ·exact Or.inr ⟨j,h1,h2,(k j).1 h3⟩
 ·rintro (h1|⟨j,h1,h2,h3⟩)
  ·exact Or.inl h1
  ·exact Or.inr ⟨j,h1,h2,(k j).2 h3⟩
def Fwd (n:Nat) (w:Nat->Nat->Prop):Prop:=∀i k,i<=n->w i k->i<=k/\k<=n
theorem qck{a b:Nat->Nat->Prop}{n i:Nat}(ha:Fwd n a)(hb:Fwd n b)(hi:i<=n)(S:Prop)(F:Nat->Prop):
  wayD (fun i k=>∃j,a i j/\b j k) i S F↔wayD a i (wayD b i S F) (fun j=>∃k,b j k/\F k):=by
 unfold wayD
 constructor
 ·rintro (⟨⟨j,h1,h2⟩,h3⟩|⟨k,h0,⟨j,h1,h2⟩,h3⟩)
  ·have e1:=ha i j hi h1
   have e2:=hb j i e1.2 h2;have:j=i:=by omega
   subst this;exact Or.inl ⟨h1,Or.inl ⟨h2,h3⟩⟩
  ·by_cases e:j=i
   ·subst e
    exact Or.inl ⟨h1,Or.inr ⟨k,h0,h2,h3⟩⟩
   ·have e1:=ha i j hi h1
    exact Or.inr ⟨j,by omega,h1,k,h2,h3⟩
 ·rintro (⟨h1,⟨h2,h3⟩|⟨k,h0,h2,h3⟩⟩|⟨j,h0,h1,k,h2,h3⟩)
  ·exact Or.inl ⟨⟨i,h1,h2⟩,h3⟩
  ·exact Or.inr ⟨k,h0,⟨i,h1,h2⟩,h3⟩
  ·have e1:=ha i j hi h1
   have e2:=hb j k e1.2 h2;exact Or.inr ⟨k,by omega,⟨j,h1,h2⟩,h3⟩
theorem q8i{a:Nat->Nat->Prop}{n:Nat}(ha:Fwd n a):∀(m i k:Nat),i<=n->i<k->stepsP a m i k->∃j,i<j/\a i j/\∃m,stepsP a m j k
 | 0,i,k,_,hk,h=>by simp only[stepsP]at h;omega
 | m+1,i,k,hi,hk,h=>by
  obtain⟨j,h1,h2⟩:=h;have e1:=ha i j hi h1;by_cases e:j=i
  ·subst e
   exact q8i ha m j k hi hk h2
  ·exact⟨j,by omega,h1,m,h2⟩
theorem qa4{a:Nat->Nat->Prop}{n i:Nat}(ha:Fwd n a)(hi:i<=n)(S:Prop)(F:Nat->Prop):
  wayD (fun i k=>∃m,stepsP a m i k) i S F↔S\/wayD a i False (fun j=>∃k,(∃m,stepsP a m j k)/\F k):=by
 unfold wayD
 constructor
 ·rintro (⟨_,h⟩|⟨k,h0,⟨m,h1⟩,h2⟩)
  ·exact Or.inl h
  ·obtain⟨j,h3,h4,h5⟩:=q8i ha m i k hi h0 h1
   exact Or.inr (Or.inr ⟨j,h3,h4,k,h5,h2⟩)
 ·rintro (h|⟨_,h⟩|⟨j,h0,h1,k,⟨m,h2⟩,h3⟩)
  ·exact Or.inl ⟨⟨0,rfl⟩,h⟩
  ·cases h
  ·have e1:=ha i j hi h1
   have e2:j<=k/\k<=n:=q52 (fun i k hi h=>ha i k hi h) m j k e1.2 h2
   exact Or.inr ⟨k,by omega,⟨m+1,j,h1,h2⟩,h3⟩
theorem qg7{a b:Nat->Nat->Prop}{n i:Nat}(ha:Fwd n a)(hb:Fwd n b)(hi:i<=n)(S:Prop)(F:Nat->Prop):
  wayB (fun i k=>∃j,a i j/\b j k) i S F↔wayB a i (wayB b i S F) (fun j=>∀k,b j k->F k):=by
 rw[q3T,qck ha hb hi,q3T a];refine not_congr (q8n ?_ fun j=>?_)
 ·rw[q3T,Classical.not_not]
 ·exact⟨fun⟨k,h1,h2⟩ h=>h2 (h k h1),fun h=>Classical.byContradiction fun h2=>h fun k hk=>Classical.byContradiction fun h3=>h2 ⟨k,hk,h3⟩⟩
theorem qeZ{a:Nat->Nat->Prop}{n i:Nat}(ha:Fwd n a)(hi:i<=n)(S:Prop)(F:Nat->Prop):
  wayB (fun i k=>∃m,stepsP a m i k) i S F↔S/\wayB a i True (fun j=>∀k,(∃m,stepsP a m j k)->F k):=by
 rw[q3T,qa4 ha hi,q3T a]
 have e:wayD a i False (fun j=>∃k,(∃m,stepsP a m j k)/\¬ F k)↔wayD a i (¬ True) (fun j=>¬ ∀k,(∃m,stepsP a m j k)->F k):=q8n (by simp) fun j =>
  ⟨fun⟨k,h1,h2⟩ h=>h2 (h k h1),fun h=>Classical.byContradiction fun h2=>h fun k hk=>Classical.byContradiction fun h3=>h2 ⟨k,hk,h3⟩⟩
 rw[e]
 constructor
 ·intro h
  exact⟨Classical.byContradiction fun h1=>h (Or.inl h1),fun h1=>h (Or.inr h1)⟩
 ·rintro⟨h1,h2⟩ (h|h)
  ·exact h h1
  ·exact h2 h
def wayS (box:Bool) (w:Nat->Nat->Prop) (i:Nat) (S:Prop) (F:Nat->Prop):Prop:=if box then wayB w i S F else wayD w i S F
theorem q4x(t:List Nat){r:Tr}(h:r.WF):Fwd t.length (semTr t r).2:=fun i k hi hw=>q1j t r h i k hi hw
theorem qgE(t:List Nat)(i:Nat):(semTr t (.leaf (4,0))).1 i↔i<t.length:=Iff.rfl
theorem qgF(t:List Nat)(i:Nat):(semTr t (.leaf (5,0))).1 i↔i=t.length:=Iff.rfl
def AftOk (n:Nat):Prop:=∀(T:Tr) (x:Nat) (M M':Mt) (L:List Nat),GoodM M->KT T->aftM n T x M=some (L,M')->Ext M L M'/\∀(t:List Nat) (i:Nat),t[i]? = some x->(LsP L (SatM t M' (i+1))↔(semTr t T).1 i)
def PthOk (n:Nat):Prop:=∀(box:Bool) (r f:Tr) (s:List Nat) (x:Nat) (M M':Mt) (L:List Nat),GoodM M->KP r->KT f->BdL s M.length->pthM n box r s f x M=some (L,M')->Ext M L M'/\∀(t:List Nat) (i:Nat),t[i]? = some x->(LsP L (SatM t M' (i+1))↔wayS box (semTr t r).2 i (LsP s (SatM t M (i+1))) fun k=>(semTr t f).1 k)
theorem qdZ{t:List Nat}{i:Nat}(hi:i<t.length)(c d:Tr):(semTr t (.bin (15,0) c d)).1 i↔(semTr t d).1 i\/((semTr t c).1 i/\(semTr t (.bin (15,0) c d)).1 (i+1)):=by
 show (∃j,i<=j/\j<t.length/\(semTr t d).1 j/\∀k,i<=k->k<j->(semTr t c).1 k)↔_\/(_/\∃j,i+1<=j/\j<t.length/\(semTr t d).1 j/\∀k,i+1<=k->k<j->(semTr t c).1 k)
 constructor
 ·rintro⟨j,h1,h2,h3,h4⟩
  by_cases e:j=i
  ·subst e;exact Or.inl h3
  ·exact Or.inr ⟨h4 i (Nat.le_refl _) (by omega),j,by omega,h2,h3,fun k hk hj=>h4 k (by omega) hj⟩
 ·rintro (h|⟨h0,j,h1,h2,h3,h4⟩)
  ·exact⟨i,Nat.le_refl _,hi,h,fun k h1 h2=>by omega⟩
  ·refine⟨j,by omega,h2,h3,fun k hk hj=>?_⟩
   by_cases e:k=i
   ·subst e;exact h0
   ·exact h4 k (by omega) hj
theorem qc7{t:List Nat}{i:Nat}(hi:i<t.length)(c d:Tr):(semTr t (.bin (16,0) c d)).1 i↔(semTr t d).1 i/\((semTr t c).1 i\/(semTr t (.bin (16,0) c d)).1 (i+1)):=by
 show (∀j,i<=j->j<t.length->(semTr t d).1 j\/∃k,i<=k/\k<j/\(semTr t c).1 k)↔_/\(_\/∀j,i+1<=j->j<t.length->(semTr t d).1 j\/∃k,i+1<=k/\k<j/\(semTr t c).1 k)
 constructor
 ·intro h
  refine⟨?_,?_⟩
  ·rcases h i (Nat.le_refl _) hi with h1|⟨k,h1,h2,_⟩
   ·exact h1
   ·omega
  ·by_cases h0:(semTr t c).1 i
   ·exact Or.inl h0
   ·refine Or.inr fun j h1 h2=>?_
    rcases h j (by omega) h2 with h3|⟨k,h3,h4,h5⟩
    ·exact Or.inl h3
    ·by_cases e:k=i
     ·subst e;exact absurd h5 h0
     ·exact Or.inr ⟨k,by omega,h4,h5⟩
 ·rintro⟨h0,h⟩ j h1 h2
  by_cases e:j=i
  ·subst e;exact Or.inl h0
  ·rcases h with h|h
   ·exact Or.inr ⟨i,Nat.le_refl _,by omega,h⟩
   ·rcases h j (by omega) h2 with h3|⟨k,h3,h4,h5⟩
    ·exact Or.inl h3
    ·exact Or.inr ⟨k,by omega,h4,h5⟩
theorem qhc(w:Nat->Nat->Prop){n i:Nat}(hw:Fwd n w)(hi:i<=n)(F:Nat->Prop):wayD w i (F i) F↔∃k,w i k/\F k:=by
 unfold wayD
 constructor
 ·rintro (⟨h1,h2⟩|⟨k,_,h1,h2⟩)
  ·exact⟨i,h1,h2⟩
  ·exact⟨k,h1,h2⟩
 ·rintro⟨k,h1,h2⟩
  by_cases e:k=i
  ·subst e;exact Or.inl ⟨h1,h2⟩
  ·have:=hw i k hi h1
   exact Or.inr ⟨k,by omega,h1,h2⟩
theorem qg8(w:Nat->Nat->Prop){n i:Nat}(hw:Fwd n w)(hi:i<=n)(F:Nat->Prop):wayB w i (F i) F↔∀k,w i k->F k:=by
 unfold wayB
 constructor
 ·rintro⟨h1,h2⟩ k hk
  by_cases e:k=i
  ·subst e;exact h1 hk
  ·have:=hw i k hi hk
   exact h2 k (by omega) hk
 ·intro h
  exact⟨fun h1=>h i h1,fun k _ h1=>h k h1⟩
theorem qf4{n:Nat}(hA:AftOk n)(hP:PthOk n):AftOk (n+1):=by
 intro T x M M' L hM hT h
 match T,hT,h with
 | .leaf (op,p),hT,h =>
  (first|rw[qK]at h|rw[qQ]at h|rw[qB]at h|rw[qN]at h)
  injection h with h;injection h with h1 h2;subst h1 h2
  refine⟨⟨List.prefix_refl _,hM,q1m _ _⟩,fun t i hx=>?_⟩
  have hi:i<t.length:=(List.getElem?_eq_some_iff.1 hx).1
  have hg:t.getD i 0=x:=by rw[List.getD_eq_getElem?_getD,hx];rfl
  rw[q2G];rcases q1X hT with⟨rfl,_⟩|⟨_,rfl|rfl|rfl|rfl⟩
  ·rw[show (semTr t (Tr.leaf (2,p))).1 i=(i<t.length/\(t.getD i 0).testBit p=true) from rfl,hg]
   simp[hi]
  ·simp[semTr,semT,leafV]
  ·simp[semTr,semT,leafV]
  ·simp[semTr,semT,leafV,hi]
  ·simp[semTr,semT,leafV];omega
 | .un (op,p) c,hT,h =>
  (first|rw[qK]at h|rw[qQ]at h|rw[qB]at h|rw[qN]at h)
  dsimp only at h
  rcases kt_un hT with⟨rfl,⟨rfl,q,rfl⟩|⟨ho,hc⟩⟩
  ·rw[if_pos rfl]at h
   injection h with h;injection h with h1 h2;subst h1 h2
   refine⟨⟨List.prefix_refl _,hM,q1m _ _⟩,fun t i hx=>?_⟩
   have hl:(Tr.leaf (2,q)).WF:=hT.wf.2.2;have:=q38 hx (.leaf (2,q)) hl rfl rfl
   rw[q2G]
   show _↔¬ (semTr t (.leaf (2,q))).1 i
   rw[<- this];simp
  ·rcases ho with rfl|rfl
   ·rw[if_neg (by decide),if_pos rfl]at h
    obtain⟨a,M1,ha,h⟩:=qe h;obtain⟨b,M2,hb,h⟩:=qe h;obtain⟨e1,s1⟩:=qZ _ hM (q2F 4 (Or.inl rfl)) ha;obtain⟨e2,s2⟩:=qZ c e1.good hc hb;obtain⟨e3,s3⟩:=q3a h e1 e2;refine⟨e3,fun t i hx=>?_⟩
    rw[s3,s1,s2,qgE];simp only[if_true]
    exact Iff.rfl
   ·rw[if_neg (by decide),if_neg (by decide)]at h
    obtain⟨a,M1,ha,h⟩:=qe h;obtain⟨b,M2,hb,h⟩:=qe h;obtain⟨e1,s1⟩:=qZ _ hM (q2F 5 (Or.inr rfl)) ha;obtain⟨e2,s2⟩:=qZ c e1.good hc hb;obtain⟨e3,s3⟩:=q3a h e1 e2;refine⟨e3,fun t i hx=>?_⟩
    have hi:i<t.length:=(List.getElem?_eq_some_iff.1 hx).1
    rw[s3,s1,s2,qgF];simp only[Bool.false_eq_true,if_false]
    show _↔(i+1<t.length->(semTr t c).1 (i+1))
    constructor
    ·rintro (h|h) hlt
     ·omega
     ·exact h
    ·intro h
     by_cases e:i+1=t.length
     ·exact Or.inl e
     ·exact Or.inr (h (by omega))
 | .bin (op,p) c d,hT,h =>
  (first|rw[qK]at h|rw[qQ]at h|rw[qB]at h|rw[qN]at h)
  dsimp only at h
  obtain⟨rfl,ho⟩:=q1J hT
  split at h
  ·rename_i ho2
   obtain⟨a,M1,ha,h⟩:=qe h;obtain⟨b,M2,hb,h⟩:=qe h;obtain⟨kc,kd⟩:=qI hT (by rcases ho2 with h|h <;> simp[h])
   obtain⟨e1,s1⟩:=hA c x M M1 a hM kc ha;obtain⟨e2,s2⟩:=hA d x M1 M2 b e1.good kd hb;obtain⟨e3,s3⟩:=q3a h e1 e2;refine⟨e3,fun t i hx=>?_⟩
   rw[s3,s1 t i hx,s2 t i hx];rcases ho2 with rfl|rfl
   ·simp[semTr,semT,binV]
   ·simp[semTr,semT,binV]
  ·split at h
   ·rename_i ho1 ho2
    obtain⟨b,M1,hb,h⟩:=qe h;obtain⟨a,M2,ha,h⟩:=qe h;obtain⟨u,M3,hu,h⟩:=qe h;obtain⟨v,M4,hv,h⟩:=qe h;obtain⟨kc,kd⟩:=qI hT (by rcases ho2 with h|h <;> simp[h])
    obtain⟨e1,s1⟩:=hA d x M M1 b hM kd hb;obtain⟨e2,s2⟩:=hA c x M1 M2 a e1.good kc ha;obtain⟨e3,s3⟩:=qZ _ e2.good hT hu;obtain⟨e4,s4⟩:=q3a hv e2 e3;obtain⟨e5,s5⟩:=q3a h e1 e4;refine⟨e5,fun t i hx=>?_⟩
    have hi:i<t.length:=(List.getElem?_eq_some_iff.1 hx).1
    rw[s5,s4,s1 t i hx,s2 t i hx,s3];rcases ho2 with rfl|rfl
    ·rw[qdZ hi];simp
    ·rw[qc7 hi];simp
   ·rename_i ho1 ho2
    obtain⟨s,M1,hs,h⟩:=qe h;have ho3:op=17\/op=18:=by omega
    obtain⟨kc,kd⟩:=q1z hT ho3;obtain⟨e1,s1⟩:=hA d x M M1 s hM kd hs;obtain⟨e2,s2⟩:=hP (op == 18) c d s x M1 M' L e1.good kc kd e1.bd h;refine⟨⟨e1.pre.trans e2.pre,e2.good,e2.bd⟩,fun t i hx=>?_⟩
    have hi:i<t.length:=(List.getElem?_eq_some_iff.1 hx).1
    have hf:=q4x t kc.wf;rw[s2 t i hx,s1 t i hx];unfold wayS;rcases ho3 with rfl|rfl
    ·simp only[show ((17:Nat) == 18)=false from rfl,Bool.false_eq_true,if_false]
     exact qhc _ hf (by omega) _
    ·simp only[show ((18:Nat) == 18)=true from rfl,if_true]
     exact qg8 _ hf (by omega) _
theorem qfE{n:Nat}(hA:AftOk n)(hP:PthOk n):PthOk (n+1):=by
 intro box r f s x M M' L hM hr hf hs h
 match r,hr,h with
 | .leaf k,hr,h=>exact(q2D hr).elim
 | .un (op,p) c,hr,h =>
  (first|rw[q1k]at h|rw[q1b]at h|rw[qU]at h|rw[q1l]at h)
  dsimp only at h
  rcases kp_un hr with⟨rfl,⟨rfl,hc,hpl⟩|⟨rfl,hc⟩|⟨rfl,hc⟩⟩
  ·rw[if_pos rfl]at h
   have hnp:pathT c=false:=by
    have hf1:=(qL hr.wf).2.2.1;simp[fit1T]at hf1
    exact hf1.1
   split at h
   ·rename_i hv
    obtain⟨e1,s1⟩:=qZ f hM hf h;refine⟨e1,fun t i hx=>?_⟩
    have hi:i<t.length:=(List.getElem?_eq_some_iff.1 hx).1
    have hg:=(q38 hx c hc hnp hpl).1 hv;rw[s1];unfold wayS wayB wayD;have hw:∀k,(semTr t (.un (19,0) c)).2 i k↔k=i+1:=fun k=>⟨fun h=>h.1,fun h=>⟨h,hi,hg⟩⟩
    cases box with
    | true =>
     simp only[if_true,hw]
     exact⟨fun h=>⟨fun e=>by omega,fun k _ e=>by rw[e];exact h⟩,fun h=>h.2 (i+1) (by omega) rfl⟩
    | false =>
     simp only[Bool.false_eq_true,if_false,hw]
     exact⟨fun h=>Or.inr ⟨i+1,by omega,rfl,h⟩,fun h=>by
      rcases h with⟨e,_⟩|⟨k,_,rfl,h⟩
      ·omega
      ·exact h⟩
   ·rename_i hv
    injection h with h;injection h with h1 h2;subst h1 h2
    refine⟨⟨List.prefix_refl _,hM,q1m _ _⟩,fun t i hx=>?_⟩
    have hg:¬ (semTr t c).1 i:=fun h=>hv ((q38 hx c hc hnp hpl).2 h)
    rw[q2G];unfold wayS wayB wayD;have hw:∀k,¬ (semTr t (.un (19,0) c)).2 i k:=fun k h=>hg h.2.2
    cases box with
    | true=>simp[hw]
    | false=>simp[hw]
  ·rw[if_neg (by decide),if_pos rfl]at h
   obtain⟨a,M1,ha,h⟩:=qe h
   have hk:KT (if box then (kTr c).2 else c):=by
    cases box
    ·exact hc
    ·exact q3i hc
   obtain⟨e1,s1⟩:=hA _ x M M1 a hM hk ha;have e:=(qx h).1;subst e;refine⟨⟨e1.pre,e1.good,q3S h e1.bd (hs.mono (q1F e1.pre))⟩,fun t i hx=>?_⟩
   have hi:i<t.length:=(List.getElem?_eq_some_iff.1 hx).1
   rw[q5P h,s1 t i hx,<- q2f e1.pre hs];unfold wayS wayB wayD;have hw:∀k,(semTr t (.un (20,0) c)).2 i k↔k=i/\(semTr t c).1 i:=fun k=>Iff.rfl
   cases box with
   | true =>
    simp only[if_true,hw,Bool.not_true,Bool.false_eq_true,if_false]
    rw[(kMn t c hc.wf).f2 hc.np i (by omega)]
    constructor
    ·rintro (h1|h1)
     ·exact⟨fun h=>absurd h.2 h1,fun k hk h=>absurd h.2 h1⟩
     ·exact⟨fun _=>h1,fun k hk h=>by omega⟩
    ·rintro⟨h1,_⟩
     by_cases h2:(semTr t c).1 i
     ·exact Or.inr (h1 ⟨trivial,h2⟩)
     ·exact Or.inl h2
   | false =>
    simp only[Bool.false_eq_true,if_false,hw,Bool.not_false,if_true]
    constructor
    ·rintro⟨h1,h2⟩;exact Or.inl ⟨⟨trivial,h1⟩,h2⟩
    ·rintro (⟨⟨_,h1⟩,h2⟩|⟨k,hk,⟨e,_⟩,_⟩)
     ·exact⟨h1,h2⟩
     ·omega
  ·rw[if_neg (by decide),if_neg (by decide)]at h
   obtain⟨a,M1,ha,h⟩:=qe h;obtain⟨e1,s1⟩:=hP box c _ (yesM box) x M M1 a hM hc (q2E hr hf box) (q1m _ _) ha;have e:=(qx h).1;subst e;refine⟨⟨e1.pre,e1.good,q3S h (hs.mono (q1F e1.pre)) e1.bd⟩,fun t i hx=>?_⟩
   have hi:i<t.length:=(List.getElem?_eq_some_iff.1 hx).1
   have hfw:=q4x t hc.wf;rw[q5P h,s1 t i hx,<- q2f e1.pre hs,q2G]
   cases box with
   | true =>
    simp only[if_true]
    show _↔wayB (fun i k=>∃m,stepsP (semTr t c).2 m i k) i _ _
    rw[qeZ hfw (by omega)]
    refine and_congr_right fun _=>?_
    exact Iff.rfl
   | false =>
    simp only[Bool.false_eq_true,if_false]
    show _↔wayD (fun i k=>∃m,stepsP (semTr t c).2 m i k) i _ _
    rw[qa4 hfw (by omega)]
    refine or_congr_right ?_
    exact Iff.rfl
 | .bin (op,p) c d,hr,h =>
  (first|rw[q1k]at h|rw[q1b]at h|rw[qU]at h|rw[q1l]at h)
  dsimp only at h
  obtain⟨rfl,ho,kc,kd⟩:=q1y hr;rcases ho with rfl|rfl
  ·rw[if_pos rfl]at h
   obtain⟨a,M1,ha,h⟩:=qe h;obtain⟨b,M2,hb,h⟩:=qe h;obtain⟨e1,s1⟩:=hP box c f s x M M1 a hM kc hf hs ha;obtain⟨e2,s2⟩:=hP box d f s x M1 M2 b e1.good kd hf (hs.mono (q1F e1.pre)) hb;obtain⟨e3,s3⟩:=q3a h e1 e2;refine⟨e3,fun t i hx=>?_⟩
   rw[s3,s1 t i hx,s2 t i hx,<- q2f e1.pre hs];unfold wayS
   cases box with
   | true =>
    simp only[if_true]
    unfold wayB
    show _↔((semTr t c).2 i i\/(semTr t d).2 i i->_)/\∀k,i<k->(semTr t c).2 i k\/(semTr t d).2 i k->_
    constructor
    ·rintro⟨⟨h1,h2⟩,h3,h4⟩
     exact⟨fun h=>h.elim h1 h3,fun k hk h=>h.elim (h2 k hk) (h4 k hk)⟩
    ·rintro⟨h1,h2⟩
     exact⟨⟨fun h=>h1 (Or.inl h),fun k hk h=>h2 k hk (Or.inl h)⟩,fun h=>h1 (Or.inr h),fun k hk h=>h2 k hk (Or.inr h)⟩
   | false =>
    simp only[Bool.false_eq_true,if_false]
    unfold wayD
    show _↔(((semTr t c).2 i i\/(semTr t d).2 i i)/\_)\/∃k,i<k/\((semTr t c).2 i k\/(semTr t d).2 i k)/\_
    constructor
    ·rintro ((⟨h1,h2⟩|⟨k,h0,h1,h2⟩)|⟨h1,h2⟩|⟨k,h0,h1,h2⟩)
     ·exact Or.inl ⟨Or.inl h1,h2⟩
     ·exact Or.inr ⟨k,h0,Or.inl h1,h2⟩
     ·exact Or.inl ⟨Or.inr h1,h2⟩
     ·exact Or.inr ⟨k,h0,Or.inr h1,h2⟩
    ·rintro (⟨h1|h1,h2⟩|⟨k,h0,h1|h1,h2⟩)
     ·exact Or.inl (Or.inl ⟨h1,h2⟩)
     ·exact Or.inr (Or.inl ⟨h1,h2⟩)
     ·exact Or.inl (Or.inr ⟨k,h0,h1,h2⟩)
     ·exact Or.inr (Or.inr ⟨k,h0,h1,h2⟩)
  ·rw[if_neg (by decide)]at h
   obtain⟨a,M1,ha,h⟩:=qe h;obtain⟨e1,s1⟩:=hP box d f s x M M1 a hM kd hf hs ha;obtain⟨e2,s2⟩:=hP box c _ a x M1 M' L e1.good kc (q2E kd hf box) e1.bd h;refine⟨⟨e1.pre.trans e2.pre,e2.good,e2.bd⟩,fun t i hx=>?_⟩
   have hi:i<t.length:=(List.getElem?_eq_some_iff.1 hx).1
   rw[s2 t i hx,s1 t i hx];unfold wayS
   cases box with
   | true =>
    simp only[if_true]
    show _↔wayB (fun i k=>∃j,(semTr t c).2 i j/\(semTr t d).2 j k) i _ _
    rw[qg7 (q4x t kc.wf) (q4x t kd.wf) (by omega)]
    exact Iff.rfl
   | false =>
    simp only[Bool.false_eq_true,if_false]
    show _↔wayD (fun i k=>∃j,(semTr t c).2 i j/\(semTr t d).2 j k) i _ _
    rw[qck (q4x t kc.wf) (q4x t kd.wf) (by omega)]
    exact Iff.rfl
theorem q2l:∀n,AftOk n/\PthOk n
 | 0=>⟨fun T x M M' L _ _ h=>(by (first|rw[qK]at h|rw[qQ]at h|rw[qB]at h|rw[qN]at h);cases h),fun box r f s x M M' L _ _ _ _ h=>(by (first|rw[q1k]at h|rw[q1b]at h|rw[qU]at h|rw[q1l]at h);cases h)⟩
 | n+1=>⟨qf4 (q2l n).1 (q2l n).2,qfE (q2l n).1 (q2l n).2⟩
def growT (f:List Tk):Tr:=(gS f []).getLast?.getD (.leaf (0,0))
theorem q2B{T:Tr}(h:T.WF):growT T.flat=T:=by
 unfold growT;rw[q34 T h []];rfl
def setM (n x:Nat):List Nat->List Nat->Mt->Rt
 | [],m,M=>some (m,M)
 | k::ks,m,M=>bindM (aftM n (growT (M.getD k [])) x M) fun a M1=>bindM (twoM true m a M1) fun b M2=>setM n x ks b M2
def stepM (n x:Nat):List Nat->List Nat->Mt->Rt
 | [],out,M=>some (out,M)
 | s::ss,out,M=>bindM (setM n x (itemsL s) [0] M) fun m M1=>bindM (twoM false out m M1) fun o M2=>stepM n x ss o M2
theorem q8g(n x:Nat):∀(ks m:List Nat) (M M':Mt) (L:List Nat),GoodM M->BdL m M.length->(∀k∈ks,k<M.length)->setM n x ks m M=some (L,M')->Ext M L M'/\∀(t:List Nat) (i:Nat),t[i]? = some x->(LsP L (SatM t M' (i+1))↔LsP m (SatM t M (i+1))/\∀k∈ks,SatM t M i k)
 | [],m,M,M',L,hM,hm,_,h=>by
  unfold setM at h;injection h with h;injection h with h1 h2;subst h1 h2
  exact⟨⟨List.prefix_refl _,hM,hm⟩,fun t i _=>by simp⟩
 | k::ks,m,M,M',L,hM,hm,hk,h=>by
  unfold setM at h;obtain⟨a,M1,ha,h2⟩:=qe h;obtain⟨b,M2,hb,h3⟩:=qe h2;have hkl:=hk k (by simp)
  have hget:M[k]? = some (M.getD k []):=by rw[List.getD_eq_getElem?_getD,List.getElem?_eq_getElem hkl];rfl
  obtain⟨T,hT,hf⟩:=hM.ker (M.getD k []) (List.mem_of_getElem? hget);rw[hf,q2B hT.wf]at ha;rw[hf]at hget;obtain⟨e1,s1⟩:=(q2l n).1 T x M M1 a hM hT ha;have e:=(qx hb).1;subst e;have hbd:=q3S hb (hm.mono (q1F e1.pre)) e1.bd;obtain⟨e2,s2⟩:=q8g n x ks b _ M' L e1.good hbd (fun j hj=>Nat.lt_of_lt_of_le (hk j (by simp[hj])) (q1F e1.pre)) h3
  refine⟨⟨e1.pre.trans e2.pre,e2.good,e2.bd⟩,fun t i hx=>?_⟩
  rw[s2 t i hx,q5P hb,s1 t i hx,<- q2f e1.pre hm];simp only[if_true]
  have hs:∀j∈ks,(SatM t M2 i j↔SatM t M i j):=fun j hj=>(qdf e1.pre (hk j (by simp[hj]))).symm
  rw[<- q5N (t:=t) (i:=i) hT hget]
  constructor
  ·rintro⟨⟨h1,h2⟩,h3⟩
   refine⟨h1,fun j hj=>?_⟩
   rcases List.mem_cons.1 hj with rfl|hj
   ·exact h2
   ·exact(hs j hj).1 (h3 j hj)
  ·rintro⟨h1,h2⟩
   exact⟨⟨h1,h2 k (by simp)⟩,fun j hj=>(hs j hj).2 (h2 j (by simp[hj]))⟩
theorem q9J{s m:Nat}(hm:m<=64)(h:∀k,s.testBit k=true->k<m)(P:Nat->Prop):(∀k∈itemsL s,P k)↔∀k,s.testBit k=true->P k:=by
 constructor
 ·intro h1 k hk
  exact h1 k (q1B.2 ⟨Nat.lt_of_lt_of_le (h k hk) hm,hk⟩)
 ·intro h1 k hk
  exact h1 k (q1B.1 hk).2
theorem qcb(n x:Nat):∀(l out:List Nat) (M M':Mt) (L:List Nat),GoodM M->BdL out M.length->BdL l M.length->stepM n x l out M=some (L,M')->Ext M L M'/\∀(t:List Nat) (i:Nat),t[i]? = some x->(LsP L (SatM t M' (i+1))↔LsP out (SatM t M (i+1))\/LsP l (SatM t M i))
 | [],out,M,M',L,hM,ho,_,h=>by
  unfold stepM at h;injection h with h;injection h with h1 h2;subst h1 h2
  exact⟨⟨List.prefix_refl _,hM,ho⟩,fun t i _=>⟨Or.inl,fun h=>h.elim id fun⟨s,hs,_⟩=>by cases hs⟩⟩
 | s::ss,out,M,M',L,hM,ho,hl,h=>by
  unfold stepM at h;obtain⟨m,M1,hm,h2⟩:=qe h;obtain⟨o,M2,hq,h3⟩:=qe h2;have hs0:=hl s (by simp)
  obtain⟨e1,s1⟩:=q8g n x (itemsL s) [0] M M1 m hM (q1m true _) (fun k hk=>hs0 k (q1B.1 hk).2) hm
  have e:=(qx hq).1;subst e;have hbd:=q3S hq (ho.mono (q1F e1.pre)) e1.bd;obtain⟨e2,s2⟩:=qcb n x ss o _ M' L e1.good hbd (fun z hz k hk=>Nat.lt_of_lt_of_le (hl z (by simp[hz]) k hk) (q1F e1.pre)) h3
  refine⟨⟨e1.pre.trans e2.pre,e2.good,e2.bd⟩,fun t i hx=>?_⟩
  have hy:LsP [0] (SatM t M (i+1)):=(q2G true _).2 rfl;rw[s2 t i hx,q5P hq,s1 t i hx,<- q2f e1.pre ho,<- q2f e1.pre (fun z hz=>hl z (by simp[hz])),q9J hM.few hs0]
  simp only[Bool.false_eq_true,if_false]
  constructor
  ·rintro ((h1|⟨_,h1⟩)|⟨z,hz,h1⟩)
   ·exact Or.inl h1
   ·exact Or.inr ⟨s,by simp,h1⟩
   ·exact Or.inr ⟨z,by simp[hz],h1⟩
  ·rintro (h1|⟨z,hz,h1⟩)
   ·exact Or.inl (Or.inl h1)
   ·rcases List.mem_cons.1 hz with rfl|hz
    ·exact Or.inl (Or.inr ⟨hy,h1⟩)
    ·exact Or.inr ⟨z,hz,h1⟩
theorem q61{n x:Nat}{l:List Nat}{M M':Mt}{L:List Nat}(hM:GoodM M)(hl:BdL l M.length)(h:stepM n x l [] M=some (L,M')):Ext M L M'/\∀(t:List Nat) (i:Nat),t[i]? = some x->(LsP L (SatM t M' (i+1))↔LsP l (SatM t M i)):=by
 obtain⟨e,s⟩:=qcb n x l [] M M' L hM (fun z hz=>by cases hz) hl h
 refine⟨e,fun t i hx=>?_⟩
 rw[s t i hx];exact⟨fun h=>h.elim (fun⟨z,hz,_⟩=>by cases hz) id,Or.inr⟩
theorem qh0(t:List Nat)(M:Mt)(k:Nat):SatM t M t.length k↔SatM [] M 0 k:=by
 unfold SatM
 constructor
 ·rintro⟨T,hT,h1,h2⟩
  refine⟨T,hT,h1,?_⟩
  have:=(q4v t t.length (Nat.le_refl _) T hT.wf 0 (by omega)).1
  rw[List.drop_length,Nat.zero_add]at this;exact this.2 h2
 ·rintro⟨T,hT,h1,h2⟩
  refine⟨T,hT,h1,?_⟩
  have:=(q4v t t.length (Nat.le_refl _) T hT.wf 0 (by omega)).1
  rw[List.drop_length,Nat.zero_add]at this;exact this.1 h2
def FinP (M:Mt) (l:List Nat):Prop:=LsP l (SatM [] M 0)
theorem qbF(t:List Nat)(M:Mt)(l:List Nat):LsP l (SatM t M t.length)↔FinP M l:=q9N fun _ _ k _=>qh0 t M k
structure At (t:List Nat) (T:Tr) (i:Nat) (l:List Nat) (M:Mt):Prop where
 good:GoodM M
 bd:BdL l M.length
 says:LsP l (SatM t M i)↔(semTr t T).1 0
theorem q4T:GoodM []:=⟨fun f hf=>(by cases hf),by simp⟩
def Pr (X:Nat->Prop) (f:List Tk):Prop:=∀p,(2,p)∈f->X p
def Like (X:Nat->Prop) (x y:Nat):Prop:=∀p,X p->x.testBit p=y.testBit p
theorem pr_un{X:Nat->Prop}{k:Tk}{c:Tr}(h:Pr X (Tr.un k c).flat):Pr X c.flat:=fun p hp=>h p (by simp[Tr.flat,hp])
theorem qJ{X:Nat->Prop}{k:Tk}{c d:Tr}(h:Pr X (Tr.bin k c d).flat):Pr X c.flat/\Pr X d.flat:=⟨fun p hp=>h p (by simp[Tr.flat,hp]),fun p hp=>h p (by simp[Tr.flat,hp])⟩
theorem qS{X:Nat->Prop}{a b:List Tk}:Pr X (a++b)↔Pr X a/\Pr X b :=
 ⟨fun h=>⟨fun p hp=>h p (by simp[hp]),fun p hp=>h p (by simp[hp])⟩,fun h p hp=>(List.mem_append.1 hp).elim (h.1 p) (h.2 p)⟩
theorem qT{X:Nat->Prop}{op p:Nat}(h:op≠2):Pr X [(op,p)]:=fun q hq=>by
 simp at hq
 exact absurd hq.1.symm h
theorem qdc{X:Nat->Prop}{r f:Tr}(box:Bool)(hr:Pr X r.flat)(hf:Pr X f.flat):Pr X (Tr.bin (modeO box,0) r f).flat :=
 qS.2 ⟨qS.2 ⟨hr,hf⟩,qT (by cases box <;> decide)⟩
theorem pr_k{X:Nat->Prop}:∀T:Tr,T.WF->Pr X T.flat->Pr X (kTr T).1.flat/\Pr X (kTr T).2.flat
 | .leaf (op,p),hw,h=>by
  rcases qV hw with⟨rfl,_⟩|⟨rfl,rfl|rfl|rfl|rfl|rfl⟩
  ·exact⟨h,qS.2 ⟨h,qT (by decide)⟩⟩
  all_goals refine⟨fun q hq=>?_,fun q hq=>?_⟩ <;> simp[kTr,Tr.flat]at hq
 | .un (op,p) c,hw,h=>by
  obtain⟨rfl,hc,hf,ho⟩:=qL hw;obtain⟨i1,i2⟩:=pr_k c hc (pr_un h);rcases ho with rfl|rfl|rfl|rfl|rfl|rfl|rfl|rfl
  ·exact⟨i2,i1⟩
  ·exact⟨qS.2 ⟨i1,qT (by decide)⟩,qS.2 ⟨i2,qT (by decide)⟩⟩
  ·exact⟨qS.2 ⟨i1,qT (by decide)⟩,qS.2 ⟨i2,qT (by decide)⟩⟩
  ·exact⟨qS.2 ⟨qS.2 ⟨qT (by decide),i1⟩,qT (by decide)⟩,qS.2 ⟨qS.2 ⟨qT (by decide),i2⟩,qT (by decide)⟩⟩
  ·exact⟨qS.2 ⟨qS.2 ⟨qT (by decide),i1⟩,qT (by decide)⟩,qS.2 ⟨qS.2 ⟨qT (by decide),i2⟩,qT (by decide)⟩⟩
  ·exact⟨qS.2 ⟨i1,qT (by decide)⟩,qS.2 ⟨i1,qT (by decide)⟩⟩
  ·exact⟨qS.2 ⟨i1,qT (by decide)⟩,qS.2 ⟨i1,qT (by decide)⟩⟩
  ·exact⟨qS.2 ⟨i1,qT (by decide)⟩,qS.2 ⟨i1,qT (by decide)⟩⟩
 | .bin (op,p) c d,hw,h=>by
  obtain⟨rfl,hc,hd,hf,ho⟩:=qF hw;obtain⟨i1,i2⟩:=pr_k c hc (qJ h).1;obtain⟨j1,j2⟩:=pr_k d hd (qJ h).2;have two:∀{a b:Tr} (o:Nat),o≠2->Pr X a.flat->Pr X b.flat->Pr X (Tr.bin (o,0) a b).flat:=fun o ho ha hb=>qS.2 ⟨qS.2 ⟨ha,hb⟩,qT ho⟩
  rcases ho with rfl|rfl|rfl|rfl|rfl|rfl|rfl|rfl|rfl|rfl
  ·exact⟨two 11 (by decide) i1 j1,two 12 (by decide) i2 j2⟩
  ·exact⟨two 12 (by decide) i1 j1,two 11 (by decide) i2 j2⟩
  ·exact⟨two 12 (by decide) i2 j1,two 11 (by decide) i1 j2⟩
  ·exact⟨two 12 (by decide) (two 11 (by decide) i1 j1) (two 11 (by decide) i2 j2),two 12 (by decide) (two 11 (by decide) i1 j2) (two 11 (by decide) i2 j1)⟩
  ·exact⟨two 15 (by decide) i1 j1,two 16 (by decide) i2 j2⟩
  ·exact⟨two 16 (by decide) i1 j1,two 15 (by decide) i2 j2⟩
  ·exact⟨two 17 (by decide) i1 j1,two 18 (by decide) i1 j2⟩
  ·exact⟨two 18 (by decide) i1 j1,two 17 (by decide) i1 j2⟩
  ·exact⟨two 21 (by decide) i1 j1,two 21 (by decide) i1 j1⟩
  ·exact⟨two 22 (by decide) i1 j1,two 22 (by decide) i1 j1⟩
theorem q4z{X:Nat->Prop}{x y:Nat}(hx:Like X x y):∀T:Tr,T.WF->pathT T=false->plainT T=true->Pr X T.flat->plV x T=plV y T
 | .leaf (op,p),hw,_,hp,h=>by
  rw[q8c]at hp;rcases qV hw with⟨rfl,_⟩|⟨rfl,rfl|rfl|rfl|rfl|rfl⟩
  ·exact hx p (h p (by simp[Tr.flat]))
  ·rfl
  ·rfl
  ·simp[plainB]at hp
  ·simp[plainB]at hp
  ·simp[plainB]at hp
 | .un (op,p) c,hw,hq,hp,h=>by
  obtain⟨rfl,hc,hf,ho⟩:=qL hw;rw[q1e]at hp;simp only[Bool.and_eq_true]at hp
  have hn:pathT c=false:=by
   rcases ho with rfl|rfl|rfl|rfl|rfl|rfl|rfl|rfl
   ·simpa [fit1T] using hf
   ·simpa [fit1T] using hf
   ·simpa [fit1T] using hf
   ·simpa [fit1T] using hf
   ·simpa [fit1T] using hf
   ·cases hq
   ·cases hq
   ·cases hq
  unfold plV;rw[q4z hx c hc hn hp.2 (pr_un h)]
 | .bin (op,p) c d,hw,hq,hp,h=>by
  obtain⟨rfl,hc,hd,hf,ho⟩:=qF hw;rw[qr]at hp;simp only[Bool.and_eq_true]at hp
  have hn:pathT c=false/\pathT d=false:=by
   rcases ho with rfl|rfl|rfl|rfl|rfl|rfl|rfl|rfl|rfl|rfl
   ·simpa [fit2T] using hf
   ·simpa [fit2T] using hf
   ·simpa [fit2T] using hf
   ·simpa [fit2T] using hf
   ·simp[plainB]at hp
   ·simp[plainB]at hp
   ·simp[plainB]at hp
   ·simp[plainB]at hp
   ·cases hq
   ·cases hq
  unfold plV;rw[q4z hx c hc hn.1 hp.2.1 (qJ h).1,q4z hx d hd hn.2 hp.2.2 (qJ h).2]
theorem q9M{X:Nat->Prop}{x y:Nat}(hx:Like X x y):∀n,(∀T M,KT T->Pr X T.flat->aftM n T x M=aftM n T y M)/\(∀box r s f M,KP r->Pr X r.flat->pthM n box r s f x M=pthM n box r s f y M)
 | 0=>⟨fun _ _ _ _=>rfl,fun _ _ _ _ _ _ _=>rfl⟩
 | n+1=>by
  obtain⟨ih,jh⟩:=q9M hx n;refine⟨fun T M hT h=>?_,fun box r s f M hr h=>?_⟩
  ·match T,hT,h with
   | .leaf (op,p),hT,h =>
    (first|rw[qK,qK]|rw[qQ,qQ]|rw[qB,qB]|rw[qN,qN])
    dsimp only
    by_cases e:op=2
    ·subst e
     rw[hx p (h p (by simp[Tr.flat]))]
    ·rw[if_neg e,if_neg e]
   | .un (op,p) c,hT,h =>
    (first|rw[qK,qK]|rw[qQ,qQ]|rw[qB,qB]|rw[qN,qN])
    dsimp only
    rcases kt_un hT with⟨rfl,⟨rfl,q,rfl⟩|⟨ho,hc⟩⟩
    ·rw[if_pos rfl,if_pos rfl,q4z hx _ hT.wf.2.2 rfl rfl (pr_un h)]
    ·rcases ho with rfl|rfl <;> rfl
   | .bin (op,p) c d,hT,h =>
    (first|rw[qK,qK]|rw[qQ,qQ]|rw[qB,qB]|rw[qN,qN])
    dsimp only
    obtain⟨rfl,ho⟩:=q1J hT
    split
    ·rename_i ho2
     obtain⟨kc,kd⟩:=qI hT (by rcases ho2 with h|h <;> simp[h])
     rw[ih c M kc (qJ h).1];exact congrArg _ (funext fun a=>funext fun M1=>by rw[ih d M1 kd (qJ h).2])
    ·split
     ·rename_i ho1 ho2
      obtain⟨kc,kd⟩:=qI hT (by rcases ho2 with h|h <;> simp[h])
      rw[ih d M kd (qJ h).2];exact congrArg _ (funext fun a=>funext fun M1=>by rw[ih c M1 kc (qJ h).1])
     ·obtain⟨kc,kd⟩:=q1z hT (by omega)
      rw[ih d M kd (qJ h).2];exact congrArg _ (funext fun a=>funext fun M1=>by rw[jh _ c a d M1 kc (qJ h).1])
  ·match r,hr,h with
   | .leaf k,hr,h=>exact(q2D hr).elim
   | .un (op,p) c,hr,h =>
    (first|rw[q1k,q1k]|rw[q1b,q1b]|rw[qU,qU]|rw[q1l,q1l])
    dsimp only
    rcases kp_un hr with⟨rfl,⟨rfl,hc,hpl⟩|⟨rfl,hc⟩|⟨rfl,hc⟩⟩
    ·have hnp:pathT c=false:=by
      have hf1:=(qL hr.wf).2.2.1;simp[fit1T]at hf1
      exact hf1.1
     rw[if_pos rfl,if_pos rfl,q4z hx c hc hnp hpl (pr_un h)]
    ·show bindM (aftM n (if box then (kTr c).2 else c) x M) _=bindM (aftM n (if box then (kTr c).2 else c) y M) _
     rw[ih (if box then (kTr c).2 else c) M (by
      cases box
      ·exact hc
      ·exact q3i hc) (by
      cases box
      ·exact pr_un h
      ·exact(pr_k c hc.wf (pr_un h)).2)]
    ·rw[if_neg (by decide),if_neg (by decide),if_neg (by decide),if_neg (by decide),jh box c _ _ M hc (pr_un h)]
   | .bin (op,p) c d,hr,h =>
    (first|rw[q1k,q1k]|rw[q1b,q1b]|rw[qU,qU]|rw[q1l,q1l])
    dsimp only
    obtain⟨rfl,ho,kc,kd⟩:=q1y hr;rcases ho with rfl|rfl
    ·rw[if_pos rfl,if_pos rfl,jh box c s f M kc (qJ h).1]
     exact congrArg _ (funext fun a=>funext fun M1=>by rw[jh box d s f M1 kd (qJ h).2])
    ·rw[if_neg (by decide),if_neg (by decide),jh box d s f M kd (qJ h).2]
     exact congrArg _ (funext fun a=>funext fun M1=>by rw[jh box c a _ M1 kc (qJ h).1])
def PrM (X:Nat->Prop) (M:Mt):Prop:=∀f∈M,Pr X f
theorem q9q{X:Nat->Prop}{f:List Tk}{M M':Mt}{L:List Nat}(hf:Pr X f)(hM:PrM X M)(h:meetM f M=some (L,M')):PrM X M':=by
 unfold meetM at h
 split at h
 ·injection h with h;injection h with h1 h2;subst h1 h2;exact hM
 ·split at h
  ·injection h with h;injection h with h1 h2;subst h1 h2
   intro g hg;rcases List.mem_append.1 hg with hg|hg
   ·exact hM g hg
   ·rw[List.mem_singleton.1 hg];exact hf
  ·cases h
theorem q2n{X:Nat->Prop}:∀(T:Tr) {M M':Mt} {L:List Nat},Pr X T.flat->PrM X M->needM T M=some (L,M')->PrM X M'
 | .leaf (op,p),M,M',L,hT,hM,h=>by
  unfold needM at h;dsimp only at h
  split at h
  ·injection h with h;injection h with h1 h2;subst h1 h2;exact hM
  ·split at h
   ·injection h with h;injection h with h1 h2;subst h1 h2;exact hM
   ·exact q9q hT hM h
 | .un k c,M,M',L,hT,hM,h=>q9q hT hM h
 | .bin (op,p) c d,M,M',L,hT,hM,h=>by
  unfold needM at h;dsimp only at h
  split at h
  ·obtain⟨a,M1,ha,h2⟩:=qe h
   obtain⟨b,M2,hb,h3⟩:=qe h2;rw[(qx h3).1];exact q2n d (qJ hT).2 (q2n c (qJ hT).1 hM ha) hb
  ·exact q9q hT hM h
theorem q9p{X:Nat->Prop}{x:Nat}:∀n,(∀T M M' L,KT T->Pr X T.flat->PrM X M->aftM n T x M=some (L,M')->PrM X M')/\(∀box r s f M M' L,KP r->Pr X r.flat->Pr X f.flat->PrM X M->pthM n box r s f x M=some (L,M')->PrM X M')
 | 0=>⟨fun T M M' L _ _ _ h=>(by (first|rw[qK]at h|rw[qQ]at h|rw[qB]at h|rw[qN]at h);cases h),fun box r s f M M' L _ _ _ _ h=>(by (first|rw[q1k]at h|rw[q1b]at h|rw[qU]at h|rw[q1l]at h);cases h)⟩
 | n+1=>by
  obtain⟨ih,jh⟩:=q9p (X:=X) (x:=x) n;refine⟨fun T M M' L hT hp hM h=>?_,fun box r s f M M' L hr hp hf hM h=>?_⟩
  ·match T,hT,hp,h with
   | .leaf (op,p),hT,hp,h =>
    (first|rw[qK]at h|rw[qQ]at h|rw[qB]at h|rw[qN]at h)
    injection h with h;injection h with h1 h2;subst h1 h2;exact hM
   | .un (op,p) c,hT,hp,h =>
    (first|rw[qK]at h|rw[qQ]at h|rw[qB]at h|rw[qN]at h)
    dsimp only at h
    split at h
    ·injection h with h;injection h with h1 h2;subst h1 h2;exact hM
    ·split at h
     ·obtain⟨a,M1,ha,h2⟩:=qe h
      obtain⟨b,M2,hb,h3⟩:=qe h2;rw[(qx h3).1];exact q2n c (pr_un hp) (q2n _ (qT (by decide)) hM ha) hb
     ·obtain⟨a,M1,ha,h2⟩:=qe h
      obtain⟨b,M2,hb,h3⟩:=qe h2;rw[(qx h3).1];exact q2n c (pr_un hp) (q2n _ (qT (by decide)) hM ha) hb
   | .bin (op,p) c d,hT,hp,h =>
    (first|rw[qK]at h|rw[qQ]at h|rw[qB]at h|rw[qN]at h)
    dsimp only at h
    obtain⟨rfl,ho⟩:=q1J hT
    split at h
    ·rename_i ho2
     obtain⟨kc,kd⟩:=qI hT (by rcases ho2 with h|h <;> simp[h])
     obtain⟨a,M1,ha,h2⟩:=qe h;obtain⟨b,M2,hb,h3⟩:=qe h2;rw[(qx h3).1];exact ih d M1 M2 b kd (qJ hp).2 (ih c M M1 a kc (qJ hp).1 hM ha) hb
    ·split at h
     ·rename_i ho1 ho2
      obtain⟨kc,kd⟩:=qI hT (by rcases ho2 with h|h <;> simp[h])
      obtain⟨b,M1,hb,h2⟩:=qe h;obtain⟨a,M2,ha,h3⟩:=qe h2;obtain⟨u,M3,hu,h4⟩:=qe h3;obtain⟨v,M4,hv,h5⟩:=qe h4;rw[(qx h5).1,(qx hv).1];exact q2n _ hp (ih c M1 M2 a kc (qJ hp).1 (ih d M M1 b kd (qJ hp).2 hM hb) ha) hu
     ·obtain⟨kc,kd⟩:=q1z hT (by omega)
      obtain⟨s,M1,hs,h2⟩:=qe h;exact jh _ c s d M1 M' L kc (qJ hp).1 (qJ hp).2 (ih d M M1 s kd (qJ hp).2 hM hs) h2
  ·match r,hr,hp,h with
   | .leaf k,hr,hp,h=>exact(q2D hr).elim
   | .un (op,p) c,hr,hp,h =>
    (first|rw[q1k]at h|rw[q1b]at h|rw[qU]at h|rw[q1l]at h)
    dsimp only at h
    rcases kp_un hr with⟨rfl,⟨rfl,hc,hpl⟩|⟨rfl,hc⟩|⟨rfl,hc⟩⟩
    ·rw[if_pos rfl]at h
     split at h
     ·exact q2n f hf hM h
     ·injection h with h;injection h with h1 h2;subst h1 h2;exact hM
    ·rw[if_neg (by decide),if_pos rfl]at h
     obtain⟨a,M1,ha,h2⟩:=qe h;rw[(qx h2).1];refine ih _ M M1 a ?_ ?_ hM ha
     ·cases box
      ·exact hc
      ·exact q3i hc
     ·cases box
      ·exact pr_un hp
      ·exact(pr_k c hc.wf (pr_un hp)).2
    ·rw[if_neg (by decide),if_neg (by decide)]at h
     obtain⟨a,M1,ha,h2⟩:=qe h;rw[(qx h2).1];exact jh box c _ _ M M1 a hc (pr_un hp) (qdc box hp hf) hM ha
   | .bin (op,p) c d,hr,hp,h =>
    (first|rw[q1k]at h|rw[q1b]at h|rw[qU]at h|rw[q1l]at h)
    dsimp only at h
    obtain⟨rfl,ho,kc,kd⟩:=q1y hr;rcases ho with rfl|rfl
    ·rw[if_pos rfl]at h
     obtain⟨a,M1,ha,h2⟩:=qe h;obtain⟨b,M2,hb,h3⟩:=qe h2;rw[(qx h3).1];exact jh box d s f M1 M2 b kd (qJ hp).2 hf (jh box c s f M M1 a kc (qJ hp).1 hf hM ha) hb
    ·rw[if_neg (by decide)]at h
     obtain⟨a,M1,ha,h2⟩:=qe h;exact jh box c a _ M1 M' L kc (qJ hp).1 (qdc box (qJ hp).2 hf) (jh box d s f M M1 a kd (qJ hp).2 hf hM ha) h2
def Again (g:Mt->Rt):Prop:=∀M L M1,g M=some (L,M1)->M <+: M1/\∀M2,M1 <+: M2->g M2=some (L,M2)
theorem q2Q(l:List Nat):Again fun M=>some (l,M):=fun M L M1 h=>by
 injection h with h;injection h with h1 h2;subst h1 h2
 exact⟨List.prefix_refl _,fun M2 _=>rfl⟩
theorem q1s(and:Bool)(a b:List Nat):Again fun M=>twoM and a b M:=fun M L M1 h=>by
 have e:=(qx h).1;subst e;refine⟨List.prefix_refl _,fun M2 _=>?_⟩
 show twoM and a b M2=_
 unfold twoM at h ⊢
 cases hq:(if and then andM a b else orM a b) with
 | none=>rw[hq]at h;cases h
 | some q =>
  rw[hq]at h;injection h with h;injection h with h1 h2
  rw[<- h1];rfl
theorem qD{g:Mt->Rt}{k:List Nat->Mt->Rt}(hg:Again g)(hk:∀l,Again (k l)):Again fun M=>bindM (g M) k:=fun M L M1 h=>by
 obtain⟨a,Ma,ha,h2⟩:=qe h;obtain⟨p1,q1⟩:=hg M a Ma ha;obtain⟨p2,q2⟩:=hk a Ma L M1 h2;refine⟨p1.trans p2,fun M2 h3=>?_⟩
 show bindM (g M2) k=_
 rw[q1 M2 (p2.trans h3)];exact q2 M2 h3
theorem q4O(f:List Tk):Again (meetM f):=fun M L M1 h=>by
 unfold meetM at h
 split at h
 ·rename_i i hi
  injection h with h;injection h with h1 h2;subst h1 h2
  refine⟨List.prefix_refl _,fun M2 hp=>?_⟩
  obtain⟨r,rfl⟩:=hp;unfold meetM;rw[List.findIdx?_append,hi];rfl
 ·rename_i hi
  split at h
  ·injection h with h;injection h with h1 h2;subst h1 h2
   refine⟨List.prefix_append _ _,fun M2 hp=>?_⟩
   obtain⟨r,rfl⟩:=hp;unfold meetM;rw[List.append_assoc,List.findIdx?_append,hi];simp[List.findIdx?_cons]
  ·cases h
theorem q1A:∀T:Tr,Again (needM T)
 | .leaf k=>by
  intro M L M1 h;by_cases h0:k.1=0
  ·have e:needM (.leaf k)=fun M=>some ([0],M):=by funext M;unfold needM;rw[if_pos h0]
   rw[e]at h ⊢;exact q2Q [0] M L M1 h
  ·by_cases h1:k.1=1
   ·have e:needM (.leaf k)=fun M=>some ([],M):=by funext M;unfold needM;rw[if_neg h0,if_pos h1]
    rw[e]at h ⊢;exact q2Q [] M L M1 h
   ·have e:needM (.leaf k)=meetM (Tr.leaf k).flat:=by funext M;unfold needM;rw[if_neg h0,if_neg h1]
    rw[e]at h ⊢;exact q4O _ M L M1 h
 | .un k c=>fun M L M1 h=>q4O (Tr.un k c).flat M L M1 h
 | .bin k c d=>by
  by_cases h0:k.1=11\/k.1=12
  ·have e:needM (.bin k c d)=fun M=>bindM (needM c M) fun a M1=>bindM (needM d M1) fun b M2=>twoM (k.1 == 11) a b M2:=by funext M;rw[needM,if_pos h0]
   rw[e];exact qD (q1A c) fun a=>qD (q1A d) fun b=>q1s _ a b
  ·have e:needM (.bin k c d)=meetM (Tr.bin k c d).flat:=by funext M;rw[needM,if_neg h0]
   rw[e];exact q4O _
theorem q4P:Again fun _=>none:=fun M L M1 h=>by cases h
theorem q4N(x:Nat):∀n,(∀T,Again (aftM n T x))/\(∀box r s f,Again (pthM n box r s f x))
 | 0=>⟨fun T=>by rw[show aftM 0 T x=fun _=>none by funext M;rw[qN]];exact q4P,fun box r s f=>by rw[show pthM 0 box r s f x=fun _=>none by funext M;rw[q1l]];exact q4P⟩
 | n+1=>by
  obtain⟨ih,jh⟩:=q4N x n;refine⟨fun T=>?_,fun box r s f=>?_⟩
  ·match T with
   | .leaf k =>
    rw[show aftM (n+1) (.leaf k) x=fun M=>some (yesM (if k.1=2 then x.testBit k.2 else k.1 == 0 || k.1 == 4),M) by funext M;rw[qK]]
    exact q2Q _
   | .un k c =>
    by_cases h6:k.1=6
    ·rw[show aftM (n+1) (.un k c) x=fun M=>some (yesM (!plV x c),M) by funext M;rw[qQ,if_pos h6]]
     exact q2Q _
    ·by_cases h7:k.1=7
     ·rw[show aftM (n+1) (.un k c) x=fun M=>bindM (needM (.leaf (4,0)) M) fun a M1=>bindM (needM c M1) fun b M2=>twoM true a b M2 by funext M;rw[qQ,if_neg h6,if_pos h7]]
      exact qD (q1A _) fun a=>qD (q1A _) fun b=>q1s _ a b
     ·rw[show aftM (n+1) (.un k c) x=fun M=>bindM (needM (.leaf (5,0)) M) fun a M1=>bindM (needM c M1) fun b M2=>twoM false a b M2 by funext M;rw[qQ,if_neg h6,if_neg h7]]
      exact qD (q1A _) fun a=>qD (q1A _) fun b=>q1s _ a b
   | .bin k c d =>
    by_cases h1:k.1=11\/k.1=12
    ·rw[show aftM (n+1) (.bin k c d) x=fun M=>bindM (aftM n c x M) fun a M1=>bindM (aftM n d x M1) fun b M2=>twoM (k.1 == 11) a b M2 by funext M;rw[qB,if_pos h1]]
     exact qD (ih c) fun a=>qD (ih d) fun b=>q1s _ a b
    ·by_cases h2:k.1=15\/k.1=16
     ·rw[show aftM (n+1) (.bin k c d) x=fun M=>bindM (aftM n d x M) fun b M1=>bindM (aftM n c x M1) fun a M2=>bindM (needM (.bin k c d) M2) fun u M3=>bindM (twoM (k.1 == 15) a u M3) fun v M4=>twoM (k.1 == 16) b v M4 by funext M;rw[qB,if_neg h1,if_pos h2]]
      exact qD (ih d) fun b=>qD (ih c) fun a=>qD (q1A _) fun u=>qD (q1s _ a u) fun v=>q1s _ b v
     ·rw[show aftM (n+1) (.bin k c d) x=fun M=>bindM (aftM n d x M) fun s M1=>pthM n (k.1 == 18) c s d x M1 by funext M;rw[qB,if_neg h1,if_neg h2]]
      exact qD (ih d) fun s=>jh _ c s d
  ·match r with
   | .leaf k=>rw[show pthM (n+1) box (.leaf k) s f x=fun _=>none by funext M;rw[q1k]];exact q4P
   | .un k c =>
    by_cases h1:k.1=19
    ·by_cases hv:plV x c=true
     ·rw[show pthM (n+1) box (.un k c) s f x=needM f by funext M;rw[q1b,if_pos h1,if_pos hv]]
      exact q1A f
     ·rw[show pthM (n+1) box (.un k c) s f x=fun M=>some (yesM box,M) by funext M;rw[q1b,if_pos h1,if_neg hv]]
      exact q2Q _
    ·by_cases h2:k.1=20
     ·rw[show pthM (n+1) box (.un k c) s f x=fun M=>bindM (aftM n (if box then (kTr c).2 else c) x M) fun a M1=>twoM (!box) a s M1 by funext M;rw[q1b,if_neg h1,if_pos h2]]
      exact qD (ih _) fun a=>q1s _ a s
     ·rw[show pthM (n+1) box (.un k c) s f x=fun M=>bindM (pthM n box c (yesM box) (.bin (modeO box,0) (.un k c) f) x M) fun a M1=>twoM box s a M1 by funext M;rw[q1b,if_neg h1,if_neg h2]]
      exact qD (jh _ _ _ _) fun a=>q1s _ s a
   | .bin k c d =>
    by_cases h1:k.1=21
    ·rw[show pthM (n+1) box (.bin k c d) s f x=fun M=>bindM (pthM n box c s f x M) fun a M1=>bindM (pthM n box d s f x M1) fun b M2=>twoM box a b M2 by funext M;rw[qU,if_pos h1]]
     exact qD (jh _ _ _ _) fun a=>qD (jh _ _ _ _) fun b=>q1s _ a b
    ·rw[show pthM (n+1) box (.bin k c d) s f x=fun M=>bindM (pthM n box d s f x M) fun a M1=>pthM n box c a (.bin (modeO box,0) d f) x M1 by funext M;rw[qU,if_neg h1]]
     exact qD (jh _ _ _ _) fun a=>jh _ _ _ _
theorem qgi{M M':Mt}(h:M <+: M'){k:Nat}(hk:k<M.length):M'.getD k []=M.getD k []:=by
 rw[List.getD_eq_getElem?_getD,List.getD_eq_getElem?_getD,qdd h hk]
theorem q9X(n x:Nat):∀(ks m:List Nat) (M M1:Mt) (L:List Nat),(∀k∈ks,k<M.length)->setM n x ks m M=some (L,M1)->M <+: M1/\∀M2,M1 <+: M2->setM n x ks m M2=some (L,M2)
 | [],m,M,M1,L,_,h=>by
  unfold setM at h;injection h with h;injection h with h1 h2;subst h1 h2
  exact⟨List.prefix_refl _,fun M2 _=>rfl⟩
 | k::ks,m,M,M1,L,hk,h=>by
  unfold setM at h;obtain⟨a,Ma,ha,h2⟩:=qe h;obtain⟨b,Mb,hb,h3⟩:=qe h2;obtain⟨p1,q1⟩:=(q4N x n).1 _ M a Ma ha;obtain⟨p2,q2⟩:=q1s true m a Ma b Mb hb;obtain⟨p3,q3⟩:=q9X n x ks b Mb M1 L (fun j hj=>Nat.lt_of_lt_of_le (hk j (by simp[hj])) ((p1.trans p2).length_le)) h3
  refine⟨(p1.trans p2).trans p3,fun M2 hp=>?_⟩
  unfold setM;rw[qgi (((p1.trans p2).trans p3).trans hp) (hk k (by simp)),q1 M2 ((p2.trans p3).trans hp)]
  show bindM (twoM true m a M2) _=_
  rw[show twoM true m a M2=some (b,M2) from q2 M2 (p3.trans hp)];exact q3 M2 hp
theorem q2S(n x:Nat):∀(l out:List Nat) (M M1:Mt) (L:List Nat),BdL l M.length->stepM n x l out M=some (L,M1)->M <+: M1/\∀M2,M1 <+: M2->stepM n x l out M2=some (L,M2)
 | [],out,M,M1,L,_,h=>by
  unfold stepM at h;injection h with h;injection h with h1 h2;subst h1 h2
  exact⟨List.prefix_refl _,fun M2 _=>rfl⟩
 | s::ss,out,M,M1,L,hl,h=>by
  unfold stepM at h;obtain⟨a,Ma,ha,h2⟩:=qe h;obtain⟨b,Mb,hb,h3⟩:=qe h2;obtain⟨p1,q1⟩:=q9X n x (itemsL s) [0] M Ma a (fun k hk=>hl s (by simp) k (q1B.1 hk).2) ha
  obtain⟨p2,q2⟩:=q1s false out a Ma b Mb hb;obtain⟨p3,q3⟩:=q2S n x ss b Mb M1 L (fun z hz k hk=>Nat.lt_of_lt_of_le (hl z (by simp[hz]) k hk) ((p1.trans p2).length_le)) h3
  refine⟨(p1.trans p2).trans p3,fun M2 hp=>?_⟩
  unfold stepM;rw[q1 M2 ((p2.trans p3).trans hp)]
  show bindM (twoM false out a M2) _=_
  rw[show twoM false out a M2=some (b,M2) from q2 M2 (p3.trans hp)];exact q3 M2 hp
theorem qc8{X:Nat->Prop}{x y:Nat}(hx:Like X x y)(n:Nat):∀(ks m:List Nat) (M:Mt),GoodM M->PrM X M->(∀k∈ks,k<M.length)->BdL m M.length->setM n x ks m M=setM n y ks m M
 | [],m,M,_,_,_,_=>rfl
 | k::ks,m,M,hM,hp,hk,hm=>by
  have hkl:=hk k (by simp)
  have hget:M[k]? = some (M.getD k []):=by rw[List.getD_eq_getElem?_getD,List.getElem?_eq_getElem hkl];rfl
  have hmem:=List.mem_of_getElem? hget;obtain⟨T,hT,hf⟩:=hM.ker _ hmem;have hpT:Pr X T.flat:=hf ▸ hp _ hmem;unfold setM;rw[hf,q2B hT.wf,(q9M hx n).1 T M hT hpT]
  cases ha:aftM n T y M with
  | none=>rfl
  | some z =>
   obtain⟨a,M1⟩:=z
   show bindM (twoM true m a M1) _=bindM (twoM true m a M1) _
   cases hb:twoM true m a M1 with
   | none=>rfl
   | some q =>
    obtain⟨b,M2⟩:=q
    show setM n x ks b M2=setM n y ks b M2
    have e:=(qx hb).1;subst e;obtain⟨e1,_⟩:=(q2l n).1 T y M _ a hM hT ha;exact qc8 hx n ks b _ e1.good ((q9p n).1 T M _ a hT hpT hp ha) (fun j hj=>Nat.lt_of_lt_of_le (hk j (by simp[hj])) (q1F e1.pre)) (q3S hb (hm.mono (q1F e1.pre)) e1.bd)
theorem qc9{X:Nat->Prop}(n x:Nat):∀(ks m:List Nat) (M M':Mt) (L:List Nat),GoodM M->PrM X M->(∀k∈ks,k<M.length)->setM n x ks m M=some (L,M')->PrM X M'
 | [],m,M,M',L,_,hp,_,h=>by
  unfold setM at h;injection h with h;injection h with h1 h2;subst h1 h2
  exact hp
 | k::ks,m,M,M',L,hM,hp,hk,h=>by
  have hkl:=hk k (by simp)
  have hget:M[k]? = some (M.getD k []):=by rw[List.getD_eq_getElem?_getD,List.getElem?_eq_getElem hkl];rfl
  have hmem:=List.mem_of_getElem? hget;obtain⟨T,hT,hf⟩:=hM.ker _ hmem;have hpT:Pr X T.flat:=hf ▸ hp _ hmem;unfold setM at h;rw[hf,q2B hT.wf]at h;obtain⟨a,Ma,ha,h2⟩:=qe h;obtain⟨b,Mb,hb,h3⟩:=qe h2;have e:=(qx hb).1;subst e;obtain⟨e1,_⟩:=(q2l n).1 T x M _ a hM hT ha;exact qc9 n x ks b _ M' L e1.good ((q9p n).1 T M _ a hT hpT hp ha) (fun j hj=>Nat.lt_of_lt_of_le (hk j (by simp[hj])) (q1F e1.pre)) h3
theorem qdh{X:Nat->Prop}(n x:Nat):∀(l out:List Nat) (M M':Mt) (L:List Nat),GoodM M->PrM X M->BdL l M.length->stepM n x l out M=some (L,M')->PrM X M'
 | [],out,M,M',L,_,hp,_,h=>by
  unfold stepM at h;injection h with h;injection h with h1 h2;subst h1 h2
  exact hp
 | s::ss,out,M,M',L,hM,hp,hl,h=>by
  unfold stepM at h;obtain⟨a,Ma,ha,h2⟩:=qe h;obtain⟨b,Mb,hb,h3⟩:=qe h2;have hks:∀k∈itemsL s,k<M.length:=fun k hk=>hl s (by simp) k (q1B.1 hk).2
  obtain⟨e1,_⟩:=q8g n x (itemsL s) [0] M Ma a hM (q1m true _) hks ha;have e:=(qx hb).1;subst e;exact qdh n x ss b _ M' L e1.good (qc9 n x _ _ M _ a hM hp hks ha) (fun z hz k hk=>Nat.lt_of_lt_of_le (hl z (by simp[hz]) k hk) (q1F e1.pre)) h3
theorem qa0{X:Nat->Prop}{x y:Nat}(hx:Like X x y)(n:Nat):∀(l out:List Nat) (M:Mt),GoodM M->PrM X M->BdL l M.length->stepM n x l out M=stepM n y l out M
 | [],out,M,_,_,_=>rfl
 | s::ss,out,M,hM,hp,hl=>by
  have hks:∀k∈itemsL s,k<M.length:=fun k hk=>hl s (by simp) k (q1B.1 hk).2
  unfold stepM;rw[qc8 hx n (itemsL s) [0] M hM hp hks (q1m true _)]
  cases ha:setM n y (itemsL s) [0] M with
  | none=>rfl
  | some z =>
   obtain⟨a,M1⟩:=z
   show bindM (twoM false out a M1) _=bindM (twoM false out a M1) _
   cases hb:twoM false out a M1 with
   | none=>rfl
   | some q =>
    obtain⟨b,M2⟩:=q
    show stepM n x ss b M2=stepM n y ss b M2
    have e:=(qx hb).1;subst e;obtain⟨e1,_⟩:=q8g n y (itemsL s) [0] M _ a hM (q1m true _) hks ha;exact qa0 hx n ss b _ e1.good (qc9 n y _ _ M _ a hM hp hks ha) (fun z hz k hk=>Nat.lt_of_lt_of_le (hl z (by simp[hz]) k hk) (q1F e1.pre))
def fuelN:Nat:=5000
theorem q2a{and:Bool}{a b:List Nat}{M M':Mt}{l:List Nat}(h:twoM and a b M=some (l,M')):l.length<=1024:=by
 have h2:=(qx h).2;unfold twoM at h
 cases and with
 | true =>
  simp only[if_true]at h h2
  unfold andM at h
  split at h
  ·rename_i hl
   rw[h2];exact Nat.le_trans (q4X _) (by rw[q4e];exact hl)
  ·cases h
 | false =>
  simp only[Bool.false_eq_true,if_false]at h h2
  unfold orM at h
  split at h
  ·rename_i hl
   rw[h2];exact Nat.le_trans (q4X _) (by rw[List.length_append];exact hl)
  ·cases h
theorem q7b{f:List Tk}{M M':Mt}{l:List Nat}(h:meetM f M=some (l,M')):l.length<=1024:=by
 unfold meetM at h
 split at h
 ·injection h with h;injection h with h1 h2;subst h1;simp
 ·split at h
  ·injection h with h;injection h with h1 h2;subst h1;simp
  ·cases h
theorem q2g:∀(T:Tr) {M M':Mt} {l:List Nat},needM T M=some (l,M')->l.length<=1024
 | .leaf k,M,M',l,h=>by
  unfold needM at h
  split at h
  ·injection h with h;injection h with h1 h2;subst h1;simp
  ·split at h
   ·injection h with h;injection h with h1 h2;subst h1;simp
   ·exact q7b h
 | .un k c,M,M',l,h=>q7b h
 | .bin k c d,M,M',l,h=>by
  unfold needM at h
  split at h
  ·obtain⟨a,M1,_,h2⟩:=qe h
   obtain⟨b,M2,_,h3⟩:=qe h2;exact q2a h3
  ·exact q7b h
theorem qcc(n x:Nat):∀(l out:List Nat) {M M':Mt} {L:List Nat},out.length<=1024->stepM n x l out M=some (L,M')->L.length<=1024
 | [],out,M,M',L,ho,h=>by
  unfold stepM at h;injection h with h;injection h with h1 h2;subst h1;exact ho
 | s::ss,out,M,M',L,_,h=>by
  unfold stepM at h;obtain⟨m,M1,_,h2⟩:=qe h;obtain⟨o,M2,ho,h3⟩:=qe h2;exact qcc n x ss o (q2a ho) h3
theorem q1d{l:List Nat}{m:Nat}(h:BdL l m)(hm:m<=64):∀x∈l,x<2 ^ 64:=fun x hx =>
 Nat.lt_pow_two_of_testBit x fun i hi=>by
  cases ht:x.testBit i with
  | false=>rfl
  | true=>have:=h x hx i ht;omega
theorem qfj{ts:List Tk}(h:IsKer ts):∃T,KT T/\ts=T.flat:=by
 obtain⟨T,h1,h2,h3,h4⟩:=h;exact⟨T,⟨h1,h2,h3⟩,h4⟩
theorem qe7{ts:List Tk}(h:chkE ts=0):ts.length<=2048/\∃T,KT T/\ts=T.flat:=by
 obtain⟨h1,h2⟩:=q30.1 h;exact⟨h1,qfj h2⟩
theorem qg6{t:List Nat}{T:Tr}(h:T.WF){bs:List Bool}(hv:ValB t T.flat bs):bs.length=t.length+1/\∀i (hi:i<bs.length),(bs[i]=true↔(semTr t T).1 i):=⟨hv.1,fun i hi=>hv.2 _ (q31 t T h) i hi⟩
def hgt:Tr->Nat
 | .leaf _=>1
 | .un k c=>if k.1=6 then 1 else hgt c+1
 | .bin _ c d=>max (hgt c) (hgt d)+1
theorem q35:∀T:Tr,hgt T<=T.size
 | .leaf _=>Nat.le_refl _
 | .un k c=>by
  have:=q35 c
  unfold hgt Tr.size
  split <;> omega
 | .bin k c d=>by
  have:=q35 c
  have:=q35 d
  have:=q7g c
  have:=q7g d
  unfold hgt Tr.size
  omega
theorem q5Q(T:Tr):0<hgt T:=by
 cases T with
 | leaf k=>exact Nat.one_pos
 | un k c=>unfold hgt;split <;> omega
 | bin k c d=>unfold hgt;omega
theorem q1n:∀T:Tr,KT T->hgt (kTr T).2=hgt T
 | .leaf (op,p),hT=>by
  rcases q1X hT with⟨rfl,_⟩|⟨rfl,rfl|rfl|rfl|rfl⟩ <;> rfl
 | .un (op,p) c,hT=>by
  rcases kt_un hT with⟨rfl,⟨rfl,q,rfl⟩|⟨ho,hc⟩⟩
  ·rfl
  ·have ih:=q1n c hc
   rcases ho with rfl|rfl
   ·show hgt (kTr c).2+1=hgt c+1
    rw[ih]
   ·show hgt (kTr c).2+1=hgt c+1
    rw[ih]
 | .bin (op,p) c d,hT=>by
  obtain⟨rfl,ho⟩:=q1J hT;rcases ho with rfl|rfl|rfl|rfl|rfl|rfl
  ·obtain⟨kc,kd⟩:=qI hT (by simp)
   show max (hgt (kTr c).2) (hgt (kTr d).2)+1=_
   rw[q1n c kc,q1n d kd];rfl
  ·obtain⟨kc,kd⟩:=qI hT (by simp)
   show max (hgt (kTr c).2) (hgt (kTr d).2)+1=_
   rw[q1n c kc,q1n d kd];rfl
  ·obtain⟨kc,kd⟩:=qI hT (by simp)
   show max (hgt (kTr c).2) (hgt (kTr d).2)+1=_
   rw[q1n c kc,q1n d kd];rfl
  ·obtain⟨kc,kd⟩:=qI hT (by simp)
   show max (hgt (kTr c).2) (hgt (kTr d).2)+1=_
   rw[q1n c kc,q1n d kd];rfl
  ·obtain⟨kc,kd⟩:=q1z hT (by simp)
   show max (hgt (kTr c).1) (hgt (kTr d).2)+1=_
   rw[(q1v c kc.wf kc.kr).1,q1n d kd];rfl
  ·obtain⟨kc,kd⟩:=q1z hT (by simp)
   show max (hgt (kTr c).1) (hgt (kTr d).2)+1=_
   rw[(q1v c kc.wf kc.kr).1,q1n d kd];rfl
def endB:Tr->Bool
 | .leaf k=>k.1 == 0 || k.1 == 5
 | .un k c=>if k.1=6 then true else if k.1=20 then endB c else k.1 == 8 || k.1 == 23
 | .bin k c d=>if k.1=11 then endB c&&endB d else if k.1=12 then endB c || endB d else if k.1=16 then true else if k.1=17 then endB c&&endB d else if k.1=18 then !endB c || endB d
  else if k.1=21 then endB c || endB d else if k.1=22 then endB c&&endB d else false
theorem qbD{r:Tr}(h:KP r){k:Nat}(hw:(semTr [] r).2 0 k):k=0:=by
 have:=q1j [] r h.wf 0 k (Nat.le_refl _) hw
 simp at this
 omega
theorem q1g:∀T:Tr,(KT T->(endB T=true↔(semTr [] T).1 0))/\(KP T->(endB T=true↔(semTr [] T).2 0 0))
 | .leaf (op,p)=>by
  refine⟨fun hT=>?_,fun hT=>(q2D hT).elim⟩
  rcases q1X hT with⟨rfl,_⟩|⟨rfl,rfl|rfl|rfl|rfl⟩ <;> simp[endB,semTr,semT,leafV]
 | .un (op,p) c=>by
  refine⟨fun hT=>?_,fun hT=>?_⟩
  ·rcases kt_un hT with⟨rfl,⟨rfl,q,rfl⟩|⟨ho,hc⟩⟩
   ·simp[endB,semTr,semT,unV,leafV]
   ·rcases ho with rfl|rfl
    ·simp[endB,semTr,semT,unV]
    ·simp[endB,semTr,semT,unV]
  ·rcases kp_un hT with⟨rfl,⟨rfl,hc,hpl⟩|⟨rfl,hc⟩|⟨rfl,hc⟩⟩
   ·simp[endB,semTr,semT,unY]
   ·have ih:=(q1g c).1 hc
    simp only[endB,semTr,semT,unY]
    simpa using ih
   ·simp only[endB,semTr,semT,unY]
    simp
    exact⟨0,rfl⟩
 | .bin (op,p) c d=>by
  refine⟨fun hT=>?_,fun hT=>?_⟩
  ·obtain⟨rfl,ho⟩:=q1J hT
   rcases ho with rfl|rfl|rfl|rfl|rfl|rfl
   ·obtain⟨kc,kd⟩:=qI hT (by simp)
    simp[endB,semTr,semT,binV,(q1g c).1 kc,(q1g d).1 kd]
   ·obtain⟨kc,kd⟩:=qI hT (by simp)
    simp[endB,semTr,semT,binV,(q1g c).1 kc,(q1g d).1 kd]
   ·simp[endB,semTr,semT,binV]
   ·simp[endB,semTr,semT,binV]
   ·obtain⟨kc,kd⟩:=q1z hT (by simp)
    have ic:=(q1g c).2 kc;have id:=(q1g d).1 kd
    show (endB c&&endB d)=true↔∃k,(semTr [] c).2 0 k/\(semTr [] d).1 k
    rw[Bool.and_eq_true,ic,id];exact⟨fun h=>⟨0,h⟩,fun⟨k,h1,h2⟩=>by have e:=qbD kc h1;subst e;exact⟨h1,h2⟩⟩
   ·obtain⟨kc,kd⟩:=q1z hT (by simp)
    have ic:=(q1g c).2 kc;have id:=(q1g d).1 kd
    show (!endB c || endB d)=true↔∀k,(semTr [] c).2 0 k->(semTr [] d).1 k
    constructor
    ·intro h k h1
     have e:=qbD kc h1;subst e;rw[ic.2 h1]at h;simp at h
     exact id.1 h
    ·intro h
     cases hc:endB c with
     | false=>rfl
     | true=>simp;exact id.2 (h 0 (ic.1 hc))
  ·obtain⟨rfl,ho,kc,kd⟩:=q1y hT
   have ic:=(q1g c).2 kc;have id:=(q1g d).2 kd;rcases ho with rfl|rfl
   ·simp[endB,semTr,semT,binY,ic,id]
   ·show (endB c&&endB d)=true↔∃j,(semTr [] c).2 0 j/\(semTr [] d).2 j 0
    rw[Bool.and_eq_true,ic,id];exact⟨fun h=>⟨0,h⟩,fun⟨k,h1,h2⟩=>by have e:=qbD kc h1;subst e;exact⟨h1,h2⟩⟩
theorem q5L(n:Nat)(box:Bool)(c:Tr)(s:List Nat)(f:Tr)(x:Nat)(M:Mt):pthM (n+1) box (.un (20,0) c) s f x M=bindM (aftM n (if box then (kTr c).2 else c) x M) fun a M1=>twoM (!box) a s M1:=rfl
theorem q5I(x:Nat):∀n,(∀T,KT T->hgt T<=n->aftM n T x=aftM (n+1) T x)/\(∀box r s f,KP r->hgt r<=n->pthM n box r s f x=pthM (n+1) box r s f x)
 | 0=>⟨fun T _ h=>absurd (q5Q T) (by omega),fun box r s f _ h=>absurd (q5Q r) (by omega)⟩
 | n+1=>by
  obtain⟨ih,jh⟩:=q5I x n;refine⟨fun T hT h=>?_,fun box r s f hr h=>?_⟩
  ·match T,hT,h with
   | .leaf k,hT,h=>funext M;rw[qK,qK]
   | .un (op,p) c,hT,h=>funext M;rw[qQ,qQ]
   | .bin (op,p) c d,hT,h =>
    obtain⟨rfl,ho⟩:=q1J hT;have h2:max (hgt c) (hgt d)+1<=n+1:=h
    funext M
    rw[qB,qB];by_cases h11:op=11\/op=12
    ·obtain⟨kc,kd⟩:=qI hT (by rcases h11 with h|h <;> simp[h])
     rw[if_pos h11,if_pos h11,ih c kc (by omega),ih d kd (by omega)]
    ·rw[if_neg h11,if_neg h11]
     by_cases h15:op=15\/op=16
     ·obtain⟨kc,kd⟩:=qI hT (by rcases h15 with h|h <;> simp[h])
      rw[if_pos h15,if_pos h15,ih c kc (by omega),ih d kd (by omega)]
     ·obtain⟨kc,kd⟩:=q1z hT (by omega)
      rw[if_neg h15,if_neg h15,ih d kd (by omega)]
      congr 1
      funext s M1
      rw[jh _ c s d kc (by omega)]
  ·match r,hr,h with
   | .leaf k,hr,h=>exact(q2D hr).elim
   | .un (op,p) c,hr,h =>
    funext M
    rw[q1b,q1b];rcases kp_un hr with⟨rfl,⟨rfl,hc,hpl⟩|⟨rfl,hc⟩|⟨rfl,hc⟩⟩
    ·rw[if_pos rfl,if_pos rfl]
    ·have h2:hgt c+1<=n+1:=h
     have hz:∀b:Bool,aftM n (if b then (kTr c).2 else c) x=aftM (n+1) (if b then (kTr c).2 else c) x:=fun b=>by
      cases b
      ·exact ih c hc (by omega)
      ·exact ih _ (q3i hc) (by rw[if_pos rfl,q1n c hc];omega)
     show pthM (n+1) box (.un (20,0) c) s f x M=pthM (n+1+1) box (.un (20,0) c) s f x M
     rw[q5L,q5L,hz box]
    ·have h2:hgt c+1<=n+1:=h
     rw[if_neg (by decide),if_neg (by decide),if_neg (by decide),if_neg (by decide),jh _ c _ _ hc (by omega)]
   | .bin (op,p) c d,hr,h =>
    obtain⟨rfl,ho,kc,kd⟩:=q1y hr;have h2:max (hgt c) (hgt d)+1<=n+1:=h
    funext M
    rw[qU,qU];rcases ho with rfl|rfl
    ·rw[if_pos rfl,if_pos rfl,jh _ c _ _ kc (by omega),jh _ d _ _ kd (by omega)]
    ·rw[if_neg (by decide),if_neg (by decide),jh _ d _ _ kd (by omega)]
     congr 1
     funext a M1
     rw[jh _ c _ _ kc (by omega)]
theorem qbz{x:Nat}{T:Tr}(hT:KT T){n:Nat}(h:hgt T<=n):∀k,aftM n T x=aftM (n+k) T x
 | 0=>rfl
 | k+1=>(qbz hT h k).trans ((q5I x (n+k)).1 T hT (by omega))
theorem qc6{x:Nat}{box:Bool}{r:Tr}{s:List Nat}{f:Tr}(hr:KP r){n:Nat}(h:hgt r<=n):∀k,pthM n box r s f x=pthM (n+k) box r s f x
 | 0=>rfl
 | k+1=>(qc6 hr h k).trans ((q5I x (n+k)).2 box r s f hr (by omega))
def aftC (T:Tr) (x:Nat) (M:Mt):Rt:=aftM (hgt T) T x M
def pthC (box:Bool) (r:Tr) (s:List Nat) (f:Tr) (x:Nat) (M:Mt):Rt:=pthM (hgt r) box r s f x M
theorem aft_C{x n:Nat}{T:Tr}(hT:KT T)(h:hgt T<=n):aftM n T x=aftC T x:=by
 have:=qbz (x:=x) hT (Nat.le_refl (hgt T)) (n - hgt T)
 rw[show hgt T+(n - hgt T)=n by omega]at this
 rw[<- this];rfl
theorem pth_C{x n:Nat}{box:Bool}{r:Tr}{s:List Nat}{f:Tr}(hr:KP r)(h:hgt r<=n):pthM n box r s f x=pthC box r s f x:=by
 have:=qc6 (x:=x) (box:=box) (s:=s) (f:=f) hr (Nat.le_refl (hgt r)) (n - hgt r)
 rw[show hgt r+(n - hgt r)=n by omega]at this
 rw[<- this];rfl
theorem q5D(k:Tk)(x:Nat)(M:Mt):aftC (.leaf k) x M=some (yesM (if k.1=2 then x.testBit k.2 else k.1 == 0 || k.1 == 4),M):=rfl
theorem qf2(p:Nat)(c:Tr)(x:Nat)(M:Mt):aftC (.un (6,p) c) x M=some (yesM (!plV x c),M):=rfl
theorem qe1{op:Nat}(ho:op=7\/op=8)(c:Tr)(x:Nat)(M:Mt):aftC (.un (op,0) c) x M=bindM (needM (.leaf (if op=7 then 4 else 5,0)) M) fun a M1=>bindM (needM c M1) fun b M2=>twoM (op == 7) a b M2:=by
 unfold aftC;rcases ho with rfl|rfl <;> rfl
theorem q6S{op:Nat}{c d:Tr}(hT:KT (.bin (op,0) c d))(ho:op=11\/op=12)(x:Nat)(M:Mt):aftC (.bin (op,0) c d) x M=bindM (aftC c x M) fun a M1=>bindM (aftC d x M1) fun b M2=>twoM (op == 11) a b M2:=by
 obtain⟨kc,kd⟩:=qI hT (by rcases ho with h|h <;> simp[h])
 unfold aftC;rw[show hgt (.bin (op,0) c d)=max (hgt c) (hgt d)+1 from rfl,qB,if_pos ho,aft_C kc (by omega),aft_C kd (by omega)];rfl
theorem qdu{op:Nat}{c d:Tr}(hT:KT (.bin (op,0) c d))(ho:op=15\/op=16)(x:Nat)(M:Mt):aftC (.bin (op,0) c d) x M=bindM (aftC d x M) fun b M1=>bindM (aftC c x M1) fun a M2=>bindM (needM (.bin (op,0) c d) M2) fun u M3=>bindM (twoM (op == 15) a u M3) fun v M4=>twoM (op == 16) b v M4:=by
 obtain⟨kc,kd⟩:=qI hT (by rcases ho with h|h <;> simp[h])
 unfold aftC;rw[show hgt (.bin (op,0) c d)=max (hgt c) (hgt d)+1 from rfl,qB,if_neg (by dsimp only;omega),if_pos ho,aft_C kc (by omega),aft_C kd (by omega)];rfl
theorem qf3{op:Nat}{c d:Tr}(hT:KT (.bin (op,0) c d))(ho:op=17\/op=18)(x:Nat)(M:Mt):aftC (.bin (op,0) c d) x M=bindM (aftC d x M) fun s M1=>pthC (op == 18) c s d x M1:=by
 obtain⟨kc,kd⟩:=q1z hT ho;unfold aftC;rw[show hgt (.bin (op,0) c d)=max (hgt c) (hgt d)+1 from rfl,qB,if_neg (by dsimp only;omega),if_neg (by dsimp only;omega),aft_C kd (by omega)]
 congr 1
 funext s M1
 rw[pth_C kc (by omega)]
theorem q9U(box:Bool)(c:Tr)(s:List Nat)(f:Tr)(x:Nat)(M:Mt):pthC box (.un (19,0) c) s f x M=if plV x c then needM f M else some (yesM box,M):=rfl
theorem q9V{box:Bool}{c:Tr}(hr:KP (.un (20,0) c))(s:List Nat)(f:Tr)(x:Nat)(M:Mt):pthC box (.un (20,0) c) s f x M=bindM (aftC (if box then (kTr c).2 else c) x M) fun a M1=>twoM (!box) a s M1:=by
 obtain⟨_,⟨h,_⟩|⟨_,hc⟩|⟨h,_⟩⟩:=kp_un hr
 ·cases h
 ·unfold pthC
  rw[show hgt (.un (20,0) c)=hgt c+1 from rfl,q5L]
  have hz:∀b:Bool,aftM (hgt c) (if b then (kTr c).2 else c) x=aftC (if b then (kTr c).2 else c) x:=fun b=>by
   cases b
   ·exact aft_C hc (Nat.le_refl _)
   ·exact aft_C (q3i hc) (by rw[if_pos rfl,q1n c hc];exact Nat.le_refl _)
  rw[hz box]
 ·cases h
theorem q9T{box:Bool}{c:Tr}(hr:KP (.un (23,0) c))(s:List Nat)(f:Tr)(x:Nat)(M:Mt):pthC box (.un (23,0) c) s f x M=bindM (pthC box c (yesM box) (.bin (modeO box,0) (.un (23,0) c) f) x M) fun a M1=>twoM box s a M1:=by
 obtain⟨_,⟨h,_⟩|⟨h,_⟩|⟨_,hc⟩⟩:=kp_un hr
 ·cases h
 ·cases h
 ·unfold pthC
  rw[show hgt (.un (23,0) c)=hgt c+1 from rfl,q1b,if_neg (by decide),if_neg (by decide)]
theorem q9S{box:Bool}{c d:Tr}(hr:KP (.bin (21,0) c d))(s:List Nat)(f:Tr)(x:Nat)(M:Mt):pthC box (.bin (21,0) c d) s f x M=bindM (pthC box c s f x M) fun a M1=>bindM (pthC box d s f x M1) fun b M2=>twoM box a b M2:=by
 obtain⟨_,_,kc,kd⟩:=q1y hr;unfold pthC;rw[show hgt (.bin (21,0) c d)=max (hgt c) (hgt d)+1 from rfl,qU,if_pos rfl,pth_C kc (by omega),pth_C kd (by omega)];rfl
theorem qc5{box:Bool}{c d:Tr}(hr:KP (.bin (22,0) c d))(s:List Nat)(f:Tr)(x:Nat)(M:Mt):pthC box (.bin (22,0) c d) s f x M=bindM (pthC box d s f x M) fun a M1=>pthC box c a (.bin (modeO box,0) d f) x M1:=by
 obtain⟨_,_,kc,kd⟩:=q1y hr;unfold pthC;rw[show hgt (.bin (22,0) c d)=max (hgt c) (hgt d)+1 from rfl,qU,if_neg (by decide),pth_C kd (by omega)]
 congr 1
 funext a M1
 rw[pth_C kc (by omega)];rfl
theorem qe3(T:Tr)(x:Nat):Again (aftC T x):=(q4N x _).1 T
theorem q5X{c:Tr}(h:KP (.un (19,0) c)):KT c/\plainT c=true:=by
 obtain⟨_,hc,hf,_⟩:=qL h.wf;have hk:=h.kr;simp[fit1T]at hf
 exact⟨⟨hc,hf.1,by simpa [kerT] using hk⟩,hf.2⟩
theorem qdl(and a b:Bool)(M:Mt):twoM and (yesM a) (yesM b) M=some (yesM (if and then a&&b else a || b),M):=by
 have h:(if and then andM (yesM a) (yesM b) else orM (yesM a) (yesM b))=some (yesM (if and then a&&b else a || b)):=by
  cases and <;> cases a <;> cases b <;> decide +kernel
 unfold twoM;rw[h];rfl
theorem q3f{x:Nat}:∀{T:Tr} (M:Mt),KT T->plainT T=true->aftC T x M=some (yesM (plV x T),M)
 | .leaf (op,p),M,hT,hp=>by
  rw[q5D];rcases q1X hT with⟨rfl,_⟩|⟨rfl,rfl|rfl|rfl|rfl⟩
  ·rfl
  ·rfl
  ·rfl
  ·cases hp
  ·cases hp
 | .un (op,p) c,M,hT,hp=>by
  rcases kt_un hT with⟨rfl,⟨rfl,q,rfl⟩|⟨ho,hc⟩⟩
  ·rfl
  ·rcases ho with rfl|rfl <;> cases hp
 | .bin (op,p) c d,M,hT,hp=>by
  obtain⟨rfl,ho⟩:=q1J hT;rcases ho with rfl|rfl|rfl|rfl|rfl|rfl
  ·obtain⟨kc,kd⟩:=qI hT (by simp)
   obtain⟨pc,pd⟩:plainT c=true/\plainT d=true:=by rw[qr]at hp;simpa [plainB] using hp
   rw[q6S hT (by simp),q3f M kc pc]
   show bindM (aftC d x M) _=_
   rw[q3f M kd pd];exact qdl true (plV x c) (plV x d) M
  ·obtain⟨kc,kd⟩:=qI hT (by simp)
   obtain⟨pc,pd⟩:plainT c=true/\plainT d=true:=by rw[qr]at hp;simpa [plainB] using hp
   rw[q6S hT (by simp),q3f M kc pc]
   show bindM (aftC d x M) _=_
   rw[q3f M kd pd];exact qdl false (plV x c) (plV x d) M
  ·rw[qr]at hp;simp[plainB]at hp
  ·rw[qr]at hp;simp[plainB]at hp
  ·rw[qr]at hp;simp[plainB]at hp
  ·rw[qr]at hp;simp[plainB]at hp
def subL:Tr->List Tr
 | .leaf k=>[.leaf k]
 | .un k c=>.un k c::subL c
 | .bin k c d=>.bin k c d::(subL c++subL d)
theorem sub_self(T:Tr):T∈subL T:=by cases T <;> simp[subL]
theorem q62:∀T:Tr,(subL T).length=T.size
 | .leaf k=>rfl
 | .un k c=>by simp[subL,Tr.size,q62 c]
 | .bin k c d=>by simp[subL,Tr.size,q62 c,q62 d]
theorem q39:∀{T S:Tr},S∈subL T->S.size<=T.size
 | .leaf k,S,h=>by simp[subL]at h;subst h;exact Nat.le_refl _
 | .un k c,S,h=>by
  simp[subL]at h
  rcases h with rfl|h
  ·exact Nat.le_refl _
  ·have:=q39 h;show _<=c.size+1;omega
 | .bin k c d,S,h=>by
  simp[subL]at h
  rcases h with rfl|h|h
  ·exact Nat.le_refl _
  ·have:=q39 h;show _<=c.size+d.size+1;omega
  ·have:=q39 h;show _<=c.size+d.size+1;omega
theorem q2h:∀{T S R:Tr},S∈subL T->R∈subL S->R∈subL T
 | .leaf k,S,R,h,k2=>by simp[subL]at h;subst h;exact k2
 | .un k c,S,R,h,k2=>by
  simp only[subL,List.mem_cons]at h ⊢
  rcases h with rfl|h
  ·simpa [subL] using k2
  ·exact Or.inr (q2h h k2)
 | .bin k c d,S,R,h,k2=>by
  simp only[subL,List.mem_cons,List.mem_append]at h ⊢
  rcases h with rfl|h|h
  ·simpa [subL] using k2
  ·exact Or.inr (Or.inl (q2h h k2))
  ·exact Or.inr (Or.inr (q2h h k2))
theorem q3l{T c:Tr}{k:Tk}(h:.un k c∈subL T):c∈subL T:=q2h h (by simp[subL,sub_self])
theorem q1q{T c d:Tr}{k:Tk}(h:.bin k c d∈subL T):c∈subL T/\d∈subL T:=⟨q2h h (by simp[subL,sub_self]),q2h h (by simp[subL,sub_self])⟩
theorem q3R:∀{T S:Tr},KT T\/KP T->S∈subL T->KT S\/KP S
 | .leaf k,S,hT,h=>by simp[subL]at h;subst h;exact hT
 | .un (op,p) c,S,hT,h=>by
  simp only[subL,List.mem_cons]at h
  rcases h with rfl|h
  ·exact hT
  ·refine q3R ?_ h
   rcases hT with hT|hT
   ·rcases kt_un hT with⟨_,⟨rfl,q,rfl⟩|⟨_,hc⟩⟩
    ·refine Or.inl ?_
     obtain⟨_,hc,hf,_⟩:=qL hT.wf;exact⟨hc,rfl,rfl⟩
    ·exact Or.inl hc
   ·rcases kp_un hT with⟨rfl,⟨rfl,_⟩|⟨_,hc⟩|⟨_,hc⟩⟩
    ·exact Or.inl (q5X hT).1
    ·exact Or.inl hc
    ·exact Or.inr hc
 | .bin (op,p) c d,S,hT,h=>by
  simp only[subL,List.mem_cons,List.mem_append]at h
  have hcd:(KT c\/KP c)/\(KT d\/KP d):=by
   rcases hT with hT|hT
   ·obtain⟨rfl,ho⟩:=q1J hT
    by_cases hw:op=17\/op=18
    ·obtain⟨a,b⟩:=q1z hT hw;exact⟨Or.inr a,Or.inl b⟩
    ·obtain⟨a,b⟩:=qI hT (by omega);exact⟨Or.inl a,Or.inl b⟩
   ·obtain⟨_,_,a,b⟩:=q1y hT;exact⟨Or.inr a,Or.inr b⟩
  rcases h with rfl|h|h
  ·exact hT
  ·exact q3R hcd.1 h
  ·exact q3R hcd.2 h
def pws (box:Bool):Tr->Tr->List Tr
 | .leaf _,_=>[]
 | .un k c,f=>if k.1=23 then .bin (modeO box,0) (.un k c) f::pws box c (.bin (modeO box,0) (.un k c) f) else []
 | .bin k c d,f=>if k.1=21 then pws box c f++pws box d f else if k.1=22 then .bin (modeO box,0) d f::(pws box d f++pws box c (.bin (modeO box,0) d f)) else []
theorem q3A(box:Bool):∀(r f:Tr),(pws box r f).length<=r.size
 | .leaf _,_=>Nat.zero_le _
 | .un k c,f=>by
  unfold pws Tr.size
  split
  ·have:=q3A box c (.bin (modeO box,0) (.un k c) f)
   simp;omega
  ·simp
 | .bin k c d,f=>by
  unfold pws Tr.size
  split
  ·have:=q3A box c f
   have:=q3A box d f
   simp;omega
  ·split
   ·have:=q3A box d f
    have:=q3A box c (.bin (modeO box,0) d f)
    simp;omega
   ·simp
theorem q3k(box:Bool):∀{r f T:Tr},T∈pws box r f->∃q F,T=.bin (modeO box,0) q F/\q∈subL r/\(F=f\/F∈pws box r f)/\∀X,X∈pws box q F->X∈pws box r f
 | .leaf _,f,T,h=>by simp[pws]at h
 | .un k c,f,T,h=>by
  unfold pws at h
  split at h
  ·rename_i hk
   have e:pws box (.un k c) f=.bin (modeO box,0) (.un k c) f::pws box c (.bin (modeO box,0) (.un k c) f):=by rw[pws,if_pos hk]
   rcases List.mem_cons.1 h with rfl|h
   ·exact⟨_,f,rfl,sub_self _,Or.inl rfl,fun X hX=>hX⟩
   ·obtain⟨q,F,rfl,h1,h2,h3⟩:=q3k box h
    refine⟨q,F,rfl,by simp[subL,h1],Or.inr ?_,fun X hX=>?_⟩
    ·rw[e]
     rcases h2 with rfl|h2
     ·exact List.mem_cons_self ..
     ·exact List.mem_cons_of_mem _ h2
    ·rw[e];exact List.mem_cons_of_mem _ (h3 X hX)
  ·simp at h
 | .bin k c d,f,T,h=>by
  unfold pws at h
  split at h
  ·rename_i hk
   have e:pws box (.bin k c d) f=pws box c f++pws box d f:=by rw[pws,if_pos hk]
   rcases List.mem_append.1 h with h|h
   ·obtain⟨q,F,rfl,h1,h2,h3⟩:=q3k box h
    refine⟨q,F,rfl,by simp[subL,h1],h2.imp id fun h=>?_,fun X hX=>?_⟩
    ·rw[e];exact List.mem_append.2 (Or.inl h)
    ·rw[e];exact List.mem_append.2 (Or.inl (h3 X hX))
   ·obtain⟨q,F,rfl,h1,h2,h3⟩:=q3k box h
    refine⟨q,F,rfl,by simp[subL,h1],h2.imp id fun h=>?_,fun X hX=>?_⟩
    ·rw[e];exact List.mem_append.2 (Or.inr h)
    ·rw[e];exact List.mem_append.2 (Or.inr (h3 X hX))
  ·split at h
   ·rename_i hk1 hk
    have e:pws box (.bin k c d) f=.bin (modeO box,0) d f::(pws box d f++pws box c (.bin (modeO box,0) d f)):=by rw[pws,if_neg hk1,if_pos hk]
    rcases List.mem_cons.1 h with rfl|h
    ·refine⟨d,f,rfl,by simp[subL,sub_self],Or.inl rfl,fun X hX=>?_⟩
     rw[e];exact List.mem_cons_of_mem _ (List.mem_append.2 (Or.inl hX))
    ·rcases List.mem_append.1 h with h|h
     ·obtain⟨q,F,rfl,h1,h2,h3⟩:=q3k box h
      refine⟨q,F,rfl,by simp[subL,h1],h2.imp id fun h=>?_,fun X hX=>?_⟩
      ·rw[e];exact List.mem_cons_of_mem _ (List.mem_append.2 (Or.inl h))
      ·rw[e];exact List.mem_cons_of_mem _ (List.mem_append.2 (Or.inl (h3 X hX)))
     ·obtain⟨q,F,rfl,h1,h2,h3⟩:=q3k box h
      refine⟨q,F,rfl,by simp[subL,h1],Or.inr ?_,fun X hX=>?_⟩
      ·rw[e]
       rcases h2 with rfl|h2
       ·exact List.mem_cons_self ..
       ·exact List.mem_cons_of_mem _ (List.mem_append.2 (Or.inr h2))
      ·rw[e];exact List.mem_cons_of_mem _ (List.mem_append.2 (Or.inr (h3 X hX)))
   ·simp at h
theorem q4E(box:Bool){R:Nat}:∀{r f T:Tr},r.size<=R->T∈pws box r f->T.size<=f.size+r.size*(R+2)
 | .leaf _,f,T,_,h=>by simp[pws]at h
 | .un k c,f,T,hR,h=>by
  have hs:(Tr.un k c).size=c.size+1:=rfl;have hm:(c.size+1)*(R+2)=c.size*(R+2)+(R+2):=Nat.succ_mul _ _;unfold pws at h
  split at h
  ·rcases List.mem_cons.1 h with rfl|h
   ·show c.size+1+f.size+1<=_
    rw[hs,hm];omega
   ·have:=q4E box (R:=R) (by omega) h
    have e:(Tr.bin (modeO box,0) (.un k c) f).size=c.size+1+f.size+1:=rfl;rw[hs,hm];omega
  ·simp at h
 | .bin k c d,f,T,hR,h=>by
  have hs:(Tr.bin k c d).size=c.size+d.size+1:=rfl;have hm:(c.size+d.size+1)*(R+2)=c.size*(R+2)+d.size*(R+2)+(R+2):=by rw[Nat.add_mul,Nat.add_mul,Nat.one_mul]
  unfold pws at h
  split at h
  ·rcases List.mem_append.1 h with h|h
   ·have:=q4E box (R:=R) (by omega) h
    rw[hs,hm];omega
   ·have:=q4E box (R:=R) (by omega) h
    rw[hs,hm];omega
  ·split at h
   ·have e:(Tr.bin (modeO box,0) d f).size=d.size+f.size+1:=rfl
    rcases List.mem_cons.1 h with rfl|h
    ·rw[e,hs,hm];omega
    ·rcases List.mem_append.1 h with h|h
     ·have:=q4E box (R:=R) (by omega) h
      rw[hs,hm];omega
     ·have:=q4E box (R:=R) (by omega) h
      rw[hs,hm];omega
   ·simp at h
theorem q3z(box:Bool){R:Nat}:∀{r f T:Tr},hgt r<=R->T∈pws box r f->hgt T<=hgt r+max R (hgt f)+1
 | .leaf _,f,T,_,h=>by simp[pws]at h
 | .un k c,f,T,hR,h=>by
  unfold pws at h
  split at h
  ·rename_i hk
   have hs:hgt (.un k c)=hgt c+1:=by rw[hgt,if_neg (by omega)]
   rcases List.mem_cons.1 h with rfl|h
   ·show max (hgt (.un k c)) (hgt f)+1<=_
    omega
   ·have:=q3z box (R:=R) (by omega) h
    have e:hgt (.bin (modeO box,0) (.un k c) f)=max (hgt (.un k c)) (hgt f)+1:=rfl
    omega
  ·simp at h
 | .bin k c d,f,T,hR,h=>by
  have hs:hgt (.bin k c d)=max (hgt c) (hgt d)+1:=rfl;unfold pws at h
  split at h
  ·rcases List.mem_append.1 h with h|h
   ·have:=q3z box (R:=R) (by omega) h
    omega
   ·have:=q3z box (R:=R) (by omega) h
    omega
  ·split at h
   ·have e:hgt (.bin (modeO box,0) d f)=max (hgt d) (hgt f)+1:=rfl
    rcases List.mem_cons.1 h with rfl|h
    ·omega
    ·rcases List.mem_append.1 h with h|h
     ·have:=q3z box (R:=R) (by omega) h
      omega
     ·have:=q3z box (R:=R) (by omega) h
      omega
   ·simp at h
def In0 (T0 T:Tr):Prop:=T∈subL T0\/(∃S,S∈subL T0/\KT S/\T=(kTr S).2)\/T=.leaf (4,0)\/T=.leaf (5,0)
def InC (T0 T:Tr):Prop:=In0 T0 T\/∃box r f,In0 T0 (.bin (modeO box,0) r f)/\T∈pws box r f
theorem qhy{S c:Tr}{k:Tk}(hS:KT S)(h:(kTr S).2=.un k c):(∃q,S=.leaf (2,q)/\c=S)\/∃d,(∃k2,S=.un k2 d)/\KT d/\c=(kTr d).2:=by
 match S,hS,h with
 | .leaf (op,p),hS,h =>
  rcases q1X hS with⟨rfl,_⟩|⟨rfl,rfl|rfl|rfl|rfl⟩
  ·injection h with h1 h2
   exact Or.inl ⟨p,rfl,h2.symm⟩
  ·cases h
  ·cases h
  ·cases h
  ·cases h
 | .un (op,p) d,hS,h =>
  rcases kt_un hS with⟨rfl,⟨rfl,q,rfl⟩|⟨ho,hd⟩⟩
  ·cases h
  ·refine Or.inr ⟨d,⟨_,rfl⟩,hd,?_⟩
   rcases ho with rfl|rfl
   ·injection h with h1 h2;exact h2.symm
   ·injection h with h1 h2;exact h2.symm
 | .bin (op,p) a b,hS,h =>
  obtain⟨rfl,ho⟩:=q1J hS;rcases ho with rfl|rfl|rfl|rfl|rfl|rfl <;> cases h
theorem qgK{S c d:Tr}{k:Tk}(hS:KT S)(h:(kTr S).2=.bin k c d):∃op a b,S=.bin (op,0) a b/\KT b/\d=(kTr b).2/\((KP a/\c=a/\((op=17/\k=(18,0))\/(op=18/\k=(17,0))))\/(KT a/\c=(kTr a).2/\k.1≠17/\k.1≠18)):=by
 match S,hS,h with
 | .leaf (op,p),hS,h =>
  rcases q1X hS with⟨rfl,_⟩|⟨rfl,rfl|rfl|rfl|rfl⟩ <;> cases h
 | .un (op,p) e,hS,h =>
  rcases kt_un hS with⟨rfl,⟨rfl,q,rfl⟩|⟨ho,hd⟩⟩
  ·cases h
  ·rcases ho with rfl|rfl <;> cases h
 | .bin (op,p) a b,hS,h =>
  obtain⟨rfl,ho⟩:=q1J hS;refine⟨op,a,b,rfl,?_⟩
  by_cases hw:op=17\/op=18
  ·obtain⟨ka,kb⟩:=q1z hS hw
   have e:=(q1v a ka.wf ka.kr).1;rcases hw with rfl|rfl
   ·injection h with h1 h2 h3
    exact⟨kb,h3.symm,Or.inl ⟨ka,by rw[<- h2,e],Or.inl ⟨rfl,h1.symm⟩⟩⟩
   ·injection h with h1 h2 h3
    exact⟨kb,h3.symm,Or.inl ⟨ka,by rw[<- h2,e],Or.inr ⟨rfl,h1.symm⟩⟩⟩
  ·obtain⟨ka,kb⟩:=qI hS (by omega)
   have ho4:op=11\/op=12\/op=15\/op=16:=by omega
   rcases ho4 with rfl|rfl|rfl|rfl
   ·injection h with h1 h2 h3;subst h1;exact⟨kb,h3.symm,Or.inr ⟨ka,h2.symm,by decide,by decide⟩⟩
   ·injection h with h1 h2 h3;subst h1;exact⟨kb,h3.symm,Or.inr ⟨ka,h2.symm,by decide,by decide⟩⟩
   ·injection h with h1 h2 h3;subst h1;exact⟨kb,h3.symm,Or.inr ⟨ka,h2.symm,by decide,by decide⟩⟩
   ·injection h with h1 h2 h3;subst h1;exact⟨kb,h3.symm,Or.inr ⟨ka,h2.symm,by decide,by decide⟩⟩
theorem qbN{T0 T:Tr}(h0:KT T0)(h:In0 T0 T):KT T\/KP T:=by
 rcases h with h|⟨S,hS,kS,rfl⟩|rfl|rfl
 ·exact q3R (Or.inl h0) h
 ·exact Or.inl (q3i kS)
 ·exact Or.inl (q2F 4 (by simp))
 ·exact Or.inl (q2F 5 (by simp))
theorem qhm{T0 c:Tr}{k:Tk}(h:In0 T0 (.un k c)):In0 T0 c:=by
 rcases h with h|⟨S,hS,kS,e⟩|e|e
 ·exact Or.inl (q3l h)
 ·rcases qhy kS e.symm with⟨q,rfl,rfl⟩|⟨d,⟨k2,rfl⟩,kd,rfl⟩
  ·exact Or.inl hS
  ·exact Or.inr (Or.inl ⟨d,q3l hS,kd,rfl⟩)
 ·cases e
 ·cases e
theorem q5S{T0 c d:Tr}{k:Tk}(h:In0 T0 (.bin k c d)):In0 T0 c/\In0 T0 d/\(k.1=17\/k.1=18->c∈subL T0):=by
 rcases h with h|⟨S,hS,kS,e⟩|e|e
 ·exact⟨Or.inl (q1q h).1,Or.inl (q1q h).2,fun _=>(q1q h).1⟩
 ·obtain⟨op,a,b,rfl,kb,rfl,⟨ka,rfl,ho⟩|⟨ka,rfl,n1,n2⟩⟩:=qgK kS e.symm
  ·exact⟨Or.inl (q1q hS).1,Or.inr (Or.inl ⟨b,(q1q hS).2,kb,rfl⟩),fun _=>(q1q hS).1⟩
  ·exact⟨Or.inr (Or.inl ⟨a,(q1q hS).1,ka,rfl⟩),Or.inr (Or.inl ⟨b,(q1q hS).2,kb,rfl⟩),fun h=>by omega⟩
 ·cases e
 ·cases e
theorem q4Y(box:Bool):modeO box=17\/modeO box=18:=by cases box <;> simp[modeO]
theorem qft{a b:Bool}(h:modeO a=modeO b):a=b:=by cases a <;> cases b <;> simp[modeO]at h ⊢
theorem qfh(T0:Tr):InC T0 T0:=Or.inl (Or.inl (sub_self _))
theorem q74{T0:Tr}{op:Nat}(h:op=4\/op=5):InC T0 (.leaf (op,0)):=by
 rcases h with rfl|rfl
 ·exact Or.inl (Or.inr (Or.inr (Or.inl rfl)))
 ·exact Or.inl (Or.inr (Or.inr (Or.inr rfl)))
theorem q5T{T0 S:Tr}(h:S∈subL T0)(k:KT S):InC T0 (kTr S).2:=Or.inl (Or.inr (Or.inl ⟨S,h,k,rfl⟩))
theorem q5U{T0 S:Tr}(h:S∈subL T0):InC T0 S:=Or.inl (Or.inl h)
theorem qhn{T0 c:Tr}{k:Tk}(h:InC T0 (.un k c)):InC T0 c:=by
 rcases h with h|⟨box,r,f,h1,h2⟩
 ·exact Or.inl (qhm h)
 ·obtain⟨q,F,e,_⟩:=q3k box h2
  cases e
theorem qd4{T0 c d:Tr}{k:Tk}(h:InC T0 (.bin k c d)):InC T0 c/\InC T0 d/\(k.1=17\/k.1=18->c∈subL T0):=by
 rcases h with h|⟨box,r,f,h1,h2⟩
 ·obtain⟨a,b,e⟩:=q5S h
  exact⟨Or.inl a,Or.inl b,e⟩
 ·obtain⟨q,F,e,hq,hF,_⟩:=q3k box h2
  injection e with e1 e2 e3;subst e1 e2 e3;obtain⟨a,b,e⟩:=q5S h1;have hs:=q2h (e (q4Y box)) hq;refine⟨q5U hs,?_,fun _=>hs⟩
  rcases hF with rfl|hF
  ·exact Or.inl b
  ·exact Or.inr ⟨box,r,f,h1,hF⟩
theorem qgp{T0 r f:Tr}{box:Bool}(h:InC T0 (.bin (modeO box,0) r f)):∀T,T∈pws box r f->InC T0 T:=by
 intro T hT;rcases h with h|⟨b2,r2,f2,h1,h2⟩
 ·exact Or.inr ⟨box,r,f,h,hT⟩
 ·obtain⟨q,F,e,hq,hF,hsub⟩:=q3k b2 h2
  injection e with e1 e2 e3;injection e1 with e1;have:=qft e1
  subst this e2 e3;exact Or.inr ⟨box,r2,f2,h1,hsub T hT⟩
theorem q36{T0 T:Tr}(h0:KT T0)(h:InC T0 T):KT T\/KP T:=by
 rcases h with h|⟨box,r,f,h1,h2⟩
 ·exact qbN h0 h
 ·have hr:KT (.bin (modeO box,0) r f):=by
   rcases qbN h0 h1 with h|h
   ·exact h
   ·obtain⟨_,ho,_⟩:=q1y h
    rcases q4Y box with e|e <;> omega
  obtain⟨kr,kf⟩:=q1z hr (q4Y box);clear h1 hr
  have key:∀(r f T:Tr),KP r->KT f->T∈pws box r f->KT T:=by
   intro r
   induction r with
   | leaf k=>intro f T hr;exact(q2D hr).elim
   | un k c ih =>
    intro f T hr hf hT;unfold pws at hT
    split at hT
    ·rename_i hk
     obtain⟨op,p⟩:=k;dsimp only at hk
     subst hk
     have kc:KP c:=by
      rcases kp_un hr with⟨_,⟨h,_⟩|⟨h,_⟩|⟨_,h⟩⟩
      ·cases h
      ·cases h
      ·exact h
     have hm:=q2E hr hf box;rcases List.mem_cons.1 hT with rfl|hT
     ·exact hm
     ·exact ih _ T kc hm hT
    ·simp at hT
   | bin k c d ihc ihd =>
    intro f T hr hf hT;obtain⟨op,p⟩:=k;obtain⟨_,_,kc,kd⟩:=q1y hr;unfold pws at hT
    split at hT
    ·rcases List.mem_append.1 hT with hT|hT
     ·exact ihc f T kc hf hT
     ·exact ihd f T kd hf hT
    ·split at hT
     ·have hm:=q2E kd hf box
      rcases List.mem_cons.1 hT with rfl|hT
      ·exact hm
      ·rcases List.mem_append.1 hT with hT|hT
       ·exact ihd f T kd hf hT
       ·exact ihc _ T kc hm hT
     ·simp at hT
  exact Or.inl (key r f T kr kf h2)
theorem q3N:∀T:Tr,KT T->(kTr T).2.size<=2*T.size
 | .leaf (op,p),hT=>by rcases q1X hT with⟨rfl,_⟩|⟨rfl,rfl|rfl|rfl|rfl⟩ <;> simp[kTr,Tr.size]
 | .un (op,p) c,hT=>by
  rcases kt_un hT with⟨rfl,⟨rfl,q,rfl⟩|⟨ho,hc⟩⟩
  ·simp[kTr,Tr.size]
  ·have ih:=q3N c hc
   rcases ho with rfl|rfl
   ·show (kTr c).2.size+1<=2*(c.size+1);omega
   ·show (kTr c).2.size+1<=2*(c.size+1);omega
 | .bin (op,p) c d,hT=>by
  obtain⟨rfl,ho⟩:=q1J hT;by_cases hw:op=17\/op=18
  ·obtain⟨kc,kd⟩:=q1z hT hw
   have e:=(q1v c kc.wf kc.kr).1;have ih:=q3N d kd;rcases hw with rfl|rfl
   ·show (kTr c).1.size+(kTr d).2.size+1<=2*(c.size+d.size+1);rw[e];omega
   ·show (kTr c).1.size+(kTr d).2.size+1<=2*(c.size+d.size+1);rw[e];omega
  ·obtain⟨kc,kd⟩:=qI hT (by omega)
   have ic:=q3N c kc;have ih:=q3N d kd;have ho4:op=11\/op=12\/op=15\/op=16:=by omega
   rcases ho4 with rfl|rfl|rfl|rfl
   ·show (kTr c).2.size+(kTr d).2.size+1<=2*(c.size+d.size+1);omega
   ·show (kTr c).2.size+(kTr d).2.size+1<=2*(c.size+d.size+1);omega
   ·show (kTr c).2.size+(kTr d).2.size+1<=2*(c.size+d.size+1);omega
   ·show (kTr c).2.size+(kTr d).2.size+1<=2*(c.size+d.size+1);omega
theorem q73{T0 T:Tr}(h2:T0.size<=2048)(h:In0 T0 T):T.size<=4096/\hgt T<=2048:=by
 rcases h with h|⟨S,hS,kS,rfl⟩|rfl|rfl
 ·have:=q39 h
  have:=q35 T
  omega
 ·have:=q39 hS
  have:=q3N S kS
  rw[q1n S kS];have:=q35 S
  omega
 ·simp[Tr.size,hgt]
 ·simp[Tr.size,hgt]
theorem q4U{T0 T:Tr}(h2:T0.size<=2048)(h:InC T0 T):T.size<=20000000/\hgt T<=5000:=by
 rcases h with h|⟨box,r,f,h1,h3⟩
 ·have:=q73 h2 h
  omega
 ·have hr:=q39 ((q5S h1).2.2 (q4Y box))
  have hf:=q73 h2 (q5S h1).2.1;have a:=q4E box (R:=2048) (by omega) h3
  have hg:=q35 r;have b:=q3z box (R:=2048) (by omega) h3
  have:r.size*(2048+2)<=2048*(2048+2):=Nat.mul_le_mul_right _ (by omega)
  omega
def allC (T0:Tr):List Tr :=
 let A:=subL T0++(((subL T0).filter fun T=>!pathT T).map (fun T=>(kTr T).2)++[Tr.leaf (4,0),Tr.leaf (5,0)])
 A++A.flatMap fun T=>match T with | .bin k r f=>pws (k.1 == 18) r f|_=>[]
theorem qgo{T0 T:Tr}(h:InC T0 T):T∈allC T0:=by
 have key:∀T,In0 T0 T->T∈subL T0++(((subL T0).filter fun T=>!pathT T).map (fun T=>(kTr T).2)++[Tr.leaf (4,0),Tr.leaf (5,0)]):=by
  intro T h;rcases h with h|⟨S,hS,kS,rfl⟩|rfl|rfl
  ·exact List.mem_append.2 (Or.inl h)
  ·exact List.mem_append.2 (Or.inr (List.mem_append.2 (Or.inl (List.mem_map.2 ⟨S,List.mem_filter.2 ⟨hS,by simp[kS.np]⟩,rfl⟩))))
  ·simp
  ·simp
 unfold allC;rcases h with h|⟨box,r,f,h1,h2⟩
 ·exact List.mem_append.2 (Or.inl (key T h))
 ·refine List.mem_append.2 (Or.inr (List.mem_flatMap.2 ⟨_,key _ h1,?_⟩))
  show T∈pws ((modeO box) == 18) r f
  rw[show (modeO box == 18)=box by cases box <;> rfl]
  exact h2
theorem q6m{α β : Type}(g:α -> List β)(B:Nat):∀l:List α,(∀x∈l,(g x).length<=B)->(l.flatMap g).length<=l.length*B
 | [],_=>by simp
 | x::l,h=>by
  have h1:=h x (by simp)
  have h2:=q6m g B l fun y hy=>h y (by simp[hy])
  rw[List.flatMap_cons,List.length_append,List.length_cons,Nat.add_mul]
  omega
theorem qga{T0:Tr}(h0:KT T0)(h2:T0.size<=2048):(allC T0).length<=20000000:=by
 unfold allC
 have hA:(subL T0++(((subL T0).filter fun T=>!pathT T).map (fun T=>(kTr T).2)++[Tr.leaf (4,0),Tr.leaf (5,0)])).length<=4098:=by
  have:=q62 T0
  have:=List.length_filter_le (fun T=>!pathT T) (subL T0)
  simp only[List.length_append,List.length_map,List.length_cons,List.length_nil]
  omega
 have hin:∀T∈subL T0++(((subL T0).filter fun T=>!pathT T).map (fun T=>(kTr T).2)++[Tr.leaf (4,0),Tr.leaf (5,0)]),In0 T0 T:=by
  intro T hT;rcases List.mem_append.1 hT with h|h
  ·exact Or.inl h
  ·rcases List.mem_append.1 h with h|h
   ·obtain⟨S,hS,rfl⟩:=List.mem_map.1 h
    obtain⟨h1,h3⟩:=List.mem_filter.1 hS
    have hk:KT S:=by
     rcases q3R (Or.inl h0) h1 with k|k
     ·exact k
     ·rw[k.isp]at h3;cases h3
    exact Or.inr (Or.inl ⟨S,h1,hk,rfl⟩)
   ·simp at h
    rcases h with rfl|rfl
    ·exact Or.inr (Or.inr (Or.inl rfl))
    ·exact Or.inr (Or.inr (Or.inr rfl))
 have hB:=q6m (fun T:Tr=>match T with | .bin k r f=>pws (k.1 == 18) r f|_=>[]) 4096 _ (fun T hT=>by
  have:=(q73 h2 (hin T hT)).1
  cases T with
  | leaf k=>exact Nat.zero_le _
  | un k c=>exact Nat.zero_le _
  | bin k r f =>
   have:=q3A (k.1 == 18) r f
   have e:(Tr.bin k r f).size=r.size+f.size+1:=rfl
   show (pws (k.1 == 18) r f).length<=4096
   omega)
 rw[List.length_append];generalize (subL T0++(((subL T0).filter fun T=>!pathT T).map (fun T=>(kTr T).2)++[Tr.leaf (4,0),Tr.leaf (5,0)]))=A at *;have:A.length*4096<=4098*4096:=Nat.mul_le_mul_right _ hA
 omega
theorem q50{α : Type}:∀{l m:List α},l.Nodup->(∀x∈l,x∈m)->l.length<=m.length
 | [],m,_,_=>Nat.zero_le _
 | x::l,m,hn,h=>by
  obtain⟨a,b,rfl⟩:=List.append_of_mem (h x (by simp))
  rw[List.nodup_cons]at hn
  have:=q50 (m:=a++b) hn.2 fun y hy=>by
   have:=h y (by simp[hy])
   simp at this ⊢
   rcases this with h1|rfl|h1
   ·exact Or.inl h1
   ·exact absurd hy hn.1
   ·exact Or.inr h1
  simp at this ⊢
  omega
theorem q4A{l:List Nat}{P:Nat->Prop}:LsP l P↔∃s∈l,LsP [s] P :=
 ⟨fun⟨s,hs,h⟩=>⟨s,hs,s,by simp,h⟩,fun⟨s,hs,z,hz,h⟩=>by
  have:z=s:=by simpa using hz
  subst this;exact⟨z,hs,h⟩⟩
def Arc (x s:Nat) (L:List Nat) (Mf:Mt):Prop:=∃M1 M2,GoodM M1/\BdL [s] M1.length/\stepM fuelN x [s] [] M1=some (L,M2)/\M2 <+: Mf
theorem Arc.mono{x s:Nat}{L:List Nat}{M M':Mt}(h:Arc x s L M)(hp:M <+: M'):Arc x s L M':=by
 obtain⟨M1,M2,h1,h2,h3,h4⟩:=h;exact⟨M1,M2,h1,h2,h3,h4.trans hp⟩
theorem Arc.says{x s:Nat}{L:List Nat}{Mf:Mt}(h:Arc x s L Mf){t:List Nat}{i:Nat}(hx:t[i]? = some x):LsP L (SatM t Mf (i+1))↔LsP [s] (SatM t Mf i):=by
 obtain⟨M1,M2,h1,h2,h3,h4⟩:=h;obtain⟨e,hs⟩:=q61 h1 h2 h3;rw[<- q2f h4 e.bd,<- q2f (e.pre.trans h4) h2];exact hs t i hx
def goN (nx:Nat->Nat->List Nat):List Nat->List Nat->List Nat
 | [],qs=>qs
 | x::t,qs=>goN nx t (qs.flatMap fun q=>nx q x)
structure Aut (T:Tr) (n:Nat) (S l0 st:List Nat) (nx:Nat->Nat->List Nat) (fi:Nat->Bool) (Mf:Mt):Prop where
 need:∃M0,needM T []=some (l0,M0)/\M0 <+: Mf
 st_lt:∀q∈st,q<S.length
 st_is:st.map (fun q=>S.getD q 0)=l0
 arc:∀q,q<S.length->∀x,x<2 ^ n->Arc x (S.getD q 0) ((nx q x).map fun r=>S.getD r 0) Mf/\∀r∈nx q x,r<S.length
 fin:∀q,q<S.length->(fi q=true↔FinP Mf [S.getD q 0])
theorem Aut.at{T:Tr}{n:Nat}{S l0 st:List Nat}{nx:Nat->Nat->List Nat}{fi:Nat->Bool}{Mf:Mt}(h:Aut T n S l0 st nx fi Mf){t:List Nat}(ht:∀x∈t,x<2 ^ n):∀(s:List Nat) (i:Nat) (qs:List Nat),t.drop i=s->i<=t.length->(∀q∈qs,q<S.length)->((∃q∈goN nx s qs,fi q=true)↔LsP (qs.map fun q=>S.getD q 0) (SatM t Mf i))
 | [],i,qs,hd,hi,hq=>by
  have e:i=t.length:=by
   have:=congrArg List.length hd
   simp at this;omega
  subst e;rw[q4A];unfold goN
  constructor
  ·rintro⟨q,hm,hf⟩
   exact⟨_,List.mem_map.2 ⟨q,hm,rfl⟩,(qbF t Mf _).2 ((h.fin q (hq q hm)).1 hf)⟩
  ·rintro⟨s,hs,hl⟩
   obtain⟨q,hm,rfl⟩:=List.mem_map.1 hs;exact⟨q,hm,(h.fin q (hq q hm)).2 ((qbF t Mf _).1 hl)⟩
 | x::s,i,qs,hd,hi,hq=>by
  have hlt:i<t.length:=by
   have:=congrArg List.length hd
   simp at this;omega
  have hx:t[i]? = some x:=by
   have:=congrArg (fun l=>l[0]?) hd
   simpa using this
  have hx2:x<2 ^ n:=ht x (List.mem_of_getElem? hx)
  have hd2:t.drop (i+1)=s:=by
   rw[<- List.drop_drop,hd];rfl
  have ih:=h.at ht s (i+1) (qs.flatMap fun q=>nx q x) hd2 hlt (fun r hr=>by
   obtain⟨p,hp,hr⟩:=List.mem_flatMap.1 hr;exact(h.arc p (hq p hp) x hx2).2 r hr)
  unfold goN;rw[ih,q4A,q4A (l:=qs.map _)]
  constructor
  ·rintro⟨z,hz,hl⟩
   obtain⟨r,hr,rfl⟩:=List.mem_map.1 hz;obtain⟨p,hp,hr⟩:=List.mem_flatMap.1 hr;exact⟨_,List.mem_map.2 ⟨p,hp,rfl⟩,((h.arc p (hq p hp) x hx2).1.says hx).1 (q4A.2 ⟨_,List.mem_map.2 ⟨r,hr,rfl⟩,hl⟩)⟩
  ·rintro⟨z,hz,hl⟩
   obtain⟨p,hp,rfl⟩:=List.mem_map.1 hz;obtain⟨y,hy,hl2⟩:=q4A.1 (((h.arc p (hq p hp) x hx2).1.says hx).2 hl);obtain⟨r,hr,rfl⟩:=List.mem_map.1 hy;exact⟨_,List.mem_map.2 ⟨r,List.mem_flatMap.2 ⟨p,hp,hr⟩,rfl⟩,hl2⟩
theorem Aut.acc{T:Tr}{n:Nat}{S l0 st:List Nat}{nx:Nat->Nat->List Nat}{fi:Nat->Bool}{Mf:Mt}(h:Aut T n S l0 st nx fi Mf)(kT:KT T){t:List Nat}(ht:∀x∈t,x<2 ^ n):(∃q∈goN nx t st,fi q=true)↔(semTr t T).1 0:=by
 rw[h.at ht t 0 st rfl (Nat.zero_le _) h.st_lt,h.st_is];obtain⟨M0,hn,hp⟩:=h.need;obtain⟨e,hs⟩:=qZ T q4T kT hn;rw[<- q2f hp e.bd];exact hs t 0
def putS:List Nat->List Nat->Option (List Nat×List Nat)
 | [],S=>some ([],S)
 | s::L,S=>if s∈S then (match putS L S with
   | none=>none
   | some (r,S1)=>some (S.idxOf s::r,S1)) else if 256<=S.length then none else match putS L (S++[s]) with
   | none=>none
   | some (r,S1)=>some (S.length::r,S1)
abbrev atS (S:List Nat) (q:Nat):Nat:=S.getD q 0
theorem q3x{S S1:List Nat}(h:S <+: S1){q:Nat}(hq:q<S.length):atS S1 q=atS S q:=by
 obtain⟨k,rfl⟩:=h;unfold atS;rw[List.getD_eq_getElem?_getD,List.getD_eq_getElem?_getD,List.getElem?_append_left hq]
theorem q9l{S S1:List Nat}(h:S <+: S1){r:List Nat}(hr:∀q∈r,q<S.length):r.map (atS S1)=r.map (atS S):=List.map_congr_left fun q hq=>q3x h (hr q hq)
theorem qhl{S:List Nat}{s:Nat}(h:s∈S):S.idxOf s<S.length/\atS S (S.idxOf s)=s:=by
 have hl:=List.idxOf_lt_length_of_mem h;refine⟨hl,?_⟩
 unfold atS;rw[List.getD_eq_getElem?_getD,List.getElem?_eq_getElem hl];exact List.getElem_idxOf hl
structure PutK (L S r S1:List Nat):Prop where
 pre:S <+: S1
 lt:∀q∈r,q<S1.length
 is:r.map (atS S1)=L
 mem:∀s∈S1,s∈S\/s∈L
 few:S.length<=256->S1.length<=256
theorem q2K:∀{L S r S1:List Nat},putS L S=some (r,S1)->PutK L S r S1
 | [],S,r,S1,h=>by
  unfold putS at h;injection h with h;injection h with h1 h2
  subst h1 h2;exact⟨List.prefix_refl _,fun q hq=>(by cases hq),rfl,fun s hs=>Or.inl hs,fun h=>h⟩
 | s::L,S,r,S1,h=>by
  unfold putS at h
  split at h
  ·rename_i hm
   cases hp:putS L S with
   | none=>rw[hp]at h;cases h
   | some v =>
    obtain⟨r2,S2⟩:=v;rw[hp]at h;injection h with h;injection h with h1 h2
    subst h1 h2;have k:=q2K hp;obtain⟨hi,he⟩:=qhl hm;refine⟨k.pre,fun q hq=>?_,?_,fun z hz=>(k.mem z hz).imp id (fun h=>by simp[h]),k.few⟩
    ·rcases List.mem_cons.1 hq with rfl|hq
     ·exact Nat.lt_of_lt_of_le hi k.pre.length_le
     ·exact k.lt q hq
    ·rw[List.map_cons,k.is,q3x k.pre hi,he]
  ·rename_i hm
   split at h
   ·cases h
   ·rename_i hlen
    cases hp:putS L (S++[s]) with
    | none=>rw[hp]at h;cases h
    | some v =>
     obtain⟨r2,S2⟩:=v;rw[hp]at h;injection h with h;injection h with h1 h2
     subst h1 h2;have k:=q2K hp;have hl:S.length<(S++[s]).length:=by simp
     refine⟨(List.prefix_append _ _).trans k.pre,fun q hq=>?_,?_,fun z hz=>?_,fun _=>k.few (by simp;omega)⟩
     ·rcases List.mem_cons.1 hq with rfl|hq
      ·exact Nat.lt_of_lt_of_le hl k.pre.length_le
      ·exact k.lt q hq
     ·rw[List.map_cons,k.is,q3x k.pre hl]
      unfold atS;rw[List.getD_eq_getElem?_getD,List.getElem?_append_right (Nat.le_refl _)];simp
     ·rcases k.mem z hz with h|h
      ·rcases List.mem_append.1 h with h|h
       ·exact Or.inl h
       ·exact Or.inr (by simp at h;simp[h])
      ·exact Or.inr (by simp[h])
def rowM (s:Nat):List Nat->List (List Nat)->List Nat->Mt->Except Nat (List (List Nat)×List Nat×Mt)
 | [],acc,S,M=>.ok (acc,S,M)
 | x::xs,acc,S,M=>match stepM fuelN x [s] [] M with
  | none=>.error 9
  | some (L,M1)=>match putS L S with
   | none=>.error 10
   | some (r,S1)=>rowM s xs (acc++[r]) S1 M1
structure StK (S:List Nat) (M:Mt):Prop where
 good:GoodM M
 bd:∀z∈S,BdL [z] M.length
 few:S.length<=256
theorem q81{L:List Nat}{m z:Nat}(h:BdL L m)(hz:z∈L):BdL [z] m:=fun s hs=>by
 have:s=z:=by simpa using hs
 subst this;exact h s hz
structure RowK (s:Nat) (xs:List Nat) (acc:List (List Nat)) (S:List Nat) (M:Mt) (acc1:List (List Nat)) (S1:List Nat) (M1:Mt):Prop where
 ok:StK S1 M1
 pre:S <+: S1
 pre2:M <+: M1
 ex:∃rs,acc1=acc++rs/\rs.length=xs.length/\∀(i x:Nat),xs[i]? = some x->∃r,rs[i]? = some r/\Arc x s (r.map (atS S1)) M1/\∀q∈r,q<S1.length
theorem q9r{s:Nat}:∀{xs:List Nat} {acc:List (List Nat)} {S:List Nat} {M:Mt} {acc1:List (List Nat)} {S1:List Nat} {M1:Mt},StK S M->BdL [s] M.length->rowM s xs acc S M=.ok (acc1,S1,M1)->RowK s xs acc S M acc1 S1 M1
 | [],acc,S,M,acc1,S1,M1,hk,_,h=>by
  unfold rowM at h;injection h with h;injection h with h1 h2;injection h2 with h2 h3
  subst h1 h2 h3;exact⟨hk,List.prefix_refl _,List.prefix_refl _,[],by simp,rfl,fun i x hx=>by simp at hx⟩
 | x::xs,acc,S,M,acc1,S1,M1,hk,hs,h=>by
  unfold rowM at h
  cases hm:stepM fuelN x [s] [] M with
  | none=>rw[hm]at h;cases h
  | some v =>
   obtain⟨L,M2⟩:=v;rw[hm]at h
   cases hp:putS L S with
   | none=>simp only[hp]at h;cases h
   | some u =>
    obtain⟨r,S2⟩:=u;simp only[hp]at h
    obtain⟨e,_⟩:=q61 hk.good hs hm;have k:=q2K hp;have hk2:StK S2 M2:=⟨e.good,fun z hz=>(k.mem z hz).elim (fun h=>(hk.bd z h).mono e.pre.length_le) (fun h=>q81 e.bd h),k.few hk.few⟩
    obtain⟨o,p1,p2,rs,ha,hl,hx⟩:=q9r hk2 (hs.mono e.pre.length_le) h;refine⟨o,k.pre.trans p1,e.pre.trans p2,r::rs,by rw[ha];simp,by simp[hl],fun i y hy=>?_⟩
    cases i with
    | zero =>
     have:x=y:=by simpa using hy
     subst this;refine⟨r,rfl,⟨M,M2,hk.good,hs,?_,p2⟩,fun q hq=>Nat.lt_of_lt_of_le (k.lt q hq) p1.length_le⟩
     rw[q9l p1 k.lt,k.is];exact hm
    | succ i=>exact hx i y (by simpa using hy)
def allM (n:Nat):Nat->List (List (List Nat))->List Nat->Mt->Except Nat (List (List (List Nat))×List Nat×Mt)
 | 0,rows,S,M=>.ok (rows,S,M)
 | f+1,rows,S,M=>if rows.length<S.length then (match rowM (atS S rows.length) (List.range (2 ^ n)) [] S M with
   | .error e=>.error e
   | .ok (row,S1,M1)=>allM n f (rows++[row]) S1 M1) else .ok (rows,S,M)
structure AllK (n:Nat) (rows:List (List (List Nat))) (S:List Nat) (M:Mt):Prop where
 ok:StK S M
 le:rows.length<=S.length
 row:∀(q:Nat) (row:List (List Nat)),rows[q]? = some row->row.length=2 ^ n/\∀x,x<2 ^ n->∃r,row[x]? = some r/\Arc x (atS S q) (r.map (atS S)) M/\∀j∈r,j<S.length
theorem AllK.next{n:Nat}{rows:List (List (List Nat))}{S:List Nat}{M:Mt}(h:AllK n rows S M)(hlt:rows.length<S.length){row:List (List Nat)}{S1:List Nat}{M1:Mt}(hr:rowM (atS S rows.length) (List.range (2 ^ n)) [] S M=.ok (row,S1,M1)):AllK n (rows++[row]) S1 M1/\S <+: S1/\M <+: M1:=by
 have hm:atS S rows.length∈S:=by
  unfold atS;rw[List.getD_eq_getElem?_getD,List.getElem?_eq_getElem hlt];exact List.getElem_mem hlt
 obtain⟨o,p1,p2,rs,ha,hl,hx⟩:=q9r h.ok (h.ok.bd _ hm) hr;rw[List.nil_append]at ha;subst ha;refine⟨⟨o,by simp;exact Nat.lt_of_lt_of_le hlt p1.length_le,fun q rw2 hq=>?_⟩,p1,p2⟩
 by_cases hqr:q<rows.length
 ·rw[List.getElem?_append_left hqr]at hq
  obtain⟨h1,h2⟩:=h.row q rw2 hq;refine⟨h1,fun x hx2=>?_⟩
  obtain⟨r,hr1,hr2,hr3⟩:=h2 x hx2;refine⟨r,hr1,?_,fun j hj=>Nat.lt_of_lt_of_le (hr3 j hj) p1.length_le⟩
  rw[q9l p1 hr3,q3x p1 (Nat.lt_trans hqr hlt)];exact hr2.mono p2
 ·have hqe:q=rows.length:=by
   have:=(List.getElem?_eq_some_iff.1 hq).1
   simp at this;omega
  subst hqe;rw[List.getElem?_append_right (Nat.le_refl _)]at hq;have:row=rw2:=by simpa using hq
  subst this;refine⟨by simpa using hl,fun x hx2=>?_⟩
  obtain⟨r,hr1,hr2,hr3⟩:=hx x x (by simp[hx2])
  exact⟨r,hr1,by rw[q3x p1 hlt];exact hr2,hr3⟩
theorem qd1{n:Nat}:∀{f:Nat} {rows:List (List (List Nat))} {S:List Nat} {M:Mt} {rows1:List (List (List Nat))} {S1:List Nat} {M1:Mt},AllK n rows S M->256<=f+rows.length->allM n f rows S M=.ok (rows1,S1,M1)->AllK n rows1 S1 M1/\rows1.length=S1.length/\S <+: S1/\M <+: M1
 | 0,rows,S,M,rows1,S1,M1,hk,hf,h=>by
  unfold allM at h;injection h with h;injection h with h1 h2;injection h2 with h2 h3
  subst h1 h2 h3;exact⟨hk,by have:=hk.le;have:=hk.ok.few;omega,List.prefix_refl _,List.prefix_refl _⟩
 | f+1,rows,S,M,rows1,S1,M1,hk,hf,h=>by
  unfold allM at h
  split at h
  ·rename_i hlt
   cases hr:rowM (atS S rows.length) (List.range (2 ^ n)) [] S M with
   | error e=>rw[hr]at h;cases h
   | ok v =>
    obtain⟨row,S2,M2⟩:=v;rw[hr]at h;obtain⟨k,p1,p2⟩:=hk.next hlt hr;obtain⟨h1,h2,h3,h4⟩:=qd1 k (by simp;omega) h
    exact⟨h1,h2,p1.trans h3,p2.trans h4⟩
  ·injection h with h;injection h with h1 h2;injection h2 with h2 h3
   subst h1 h2 h3;exact⟨hk,by have:=hk.le;omega,List.prefix_refl _,List.prefix_refl _⟩
def nfaM (T:Tr) (n:Nat):Except Nat (List Nat×List Nat×List (List (List Nat))×Mt):=match needM T [] with
 | none=>.error 9
 | some (l0,M)=>match putS l0 [] with
  | none=>.error 10
  | some (st,S)=>match allM n 256 [] S M with
   | .error e=>.error e
   | .ok (rows,S1,M1)=>.ok (S1,st,rows,M1)
abbrev nxR (rows:List (List (List Nat))) (q x:Nat):List Nat:=(rows.getD q []).getD x []
theorem qc0{T:Tr}{n:Nat}{S st:List Nat}{rows:List (List (List Nat))}{M:Mt}(kT:KT T)(h:nfaM T n=.ok (S,st,rows,M)):AllK n rows S M/\rows.length=S.length/\∀fi:Nat->Bool,(∀q,q<S.length->(fi q=true↔FinP M [atS S q]))->∃l0,Aut T n S l0 st (nxR rows) fi M:=by
 unfold nfaM at h
 cases hn:needM T [] with
 | none=>rw[hn]at h;cases h
 | some v =>
  obtain⟨l0,M0⟩:=v;rw[hn]at h
  cases hp:putS l0 [] with
  | none=>simp only[hp]at h;cases h
  | some u =>
   obtain⟨st0,S0⟩:=u;simp only[hp]at h
   cases ha:allM n 256 [] S0 M0 with
   | error e=>simp only[ha]at h;cases h
   | ok y =>
    obtain⟨rows0,S1,M1⟩:=y;simp only[ha]at h
    injection h with h;injection h with h1 h2;injection h2 with h2 h3;injection h3 with h3 h4
    subst h1 h2 h3 h4;obtain⟨e,_⟩:=qZ T q4T kT hn;have k:=q2K hp;have hk0:AllK n [] S0 M0:=⟨⟨e.good,fun z hz=>(k.mem z hz).elim (fun h=>by cases h) (fun h=>q81 e.bd h),k.few (by simp)⟩,by simp,fun q row hq=>by simp at hq⟩
    obtain⟨h1,h2,h3,h4⟩:=qd1 hk0 (by simp) ha
    refine⟨h1,h2,fun fi hfi=>⟨l0,⟨M0,hn,h4⟩,fun q hq=>Nat.lt_of_lt_of_le (k.lt q hq) h3.length_le,?_,fun q hq x hx=>?_,hfi⟩⟩
    ·exact(q9l h3 k.lt).trans k.is
    ·have hq2:rows0[q]? = some rows0[q]:=List.getElem?_eq_getElem (by omega)
     obtain⟨_,hrow⟩:=h1.row q _ hq2;obtain⟨r,hr1,hr2,hr3⟩:=hrow x hx
     have:nxR rows0 q x=r:=by
      unfold nxR;rw[List.getD_eq_getElem?_getD,List.getD_eq_getElem?_getD,hq2,Option.getD_some,hr1,Option.getD_some]
     rw[this];exact⟨hr2,hr3⟩
def untT:Tr:=.bin (15,0) (.leaf (2,0)) (.leaf (2,1))
theorem qbT:KT untT:=⟨⟨rfl,rfl,⟨rfl,rfl⟩,rfl,rfl⟩,rfl,rfl⟩
theorem qeg(M:Mt):FinP M [0]:=(q2G true _).2 rfl
theorem qeh{T:Tr}(h:KT T):FinP [T.flat] [1]↔endB T=true:=by
 unfold FinP;rw[show ([1]:List Nat)=[2 ^ 0] from rfl,q9k,q5N h (by rfl)]
 exact((q1g T).1 h).symm
theorem qha:¬ FinP [untT.flat] [1]:=fun h=>by
 have:=(qeh qbT).1 h
 exact absurd this (by decide)
theorem qch{T S:Tr}(hT:KT T)(hS:KT S)(h:T.flat=S.flat):T=S:=by
 have h1:=q2B hT.wf;rw[h,q2B hS.wf]at h1;exact h1.symm
theorem nk4:nfaM untT 2=.ok ([1,0],[0],[[[],[0],[1],[1]],[[1],[1],[1],[1]]],[[(2,0),(2,1),(15,0)]]):=by kernel_rfl
theorem q9H{S S2:List Nat}(h:S <+: S2){s:Nat}(hs:s∈S):S2.idxOf s=S.idxOf s:=by
 obtain⟨k,rfl⟩:=h;rw[List.idxOf_append,if_pos hs]
theorem q3t:∀{L S r S1:List Nat},putS L S=some (r,S1)->∀S2,S1 <+: S2->putS L S2=some (r,S2)
 | [],S,r,S1,h,S2,_=>by
  unfold putS at h;injection h with h;injection h with h1 h2
  subst h1
  rfl
 | s::L,S,r,S1,h,S2,h2=>by
  have k:=q2K h;unfold putS at h
  split at h
  ·rename_i hm
   cases hp:putS L S with
   | none=>rw[hp]at h;cases h
   | some v =>
    obtain⟨r2,S3⟩:=v;rw[hp]at h;injection h with h;injection h with h1 h3
    subst h1 h3;have hm2:s∈S2:=(k.pre.trans h2).subset hm;unfold putS;rw[if_pos hm2,q3t hp S2 h2,q9H (k.pre.trans h2) hm]
  ·rename_i hm
   split at h
   ·cases h
   ·cases hp:putS L (S++[s]) with
    | none=>rw[hp]at h;cases h
    | some v =>
     obtain⟨r2,S3⟩:=v;rw[hp]at h;injection h with h;injection h with h1 h3
     subst h1 h3;have k2:=q2K hp;have hm1:s∈S++[s]:=by simp
     have hm2:s∈S2:=(k2.pre.trans h2).subset hm1;unfold putS;rw[if_pos hm2,q3t hp S2 h2,q9H (k2.pre.trans h2) hm1,List.idxOf_append,if_neg hm];simp
structure RowJ (X:Nat->Prop) (s:Nat) (acc:List (List Nat)) (S:List Nat) (M:Mt):Prop where
 st:StK S M
 pr:PrM X M
 bd:BdL [s] M.length
 dn:∀(x:Nat) (r:List Nat),acc[x]? = some r->∃L,stepM fuelN x [s] [] M=some (L,M)/\putS L S=some (r,S)
theorem RowJ.start{X:Nat->Prop}{s:Nat}{S:List Nat}{M:Mt}(h:StK S M)(hp:PrM X M)(hs:s∈S):RowJ X s [] S M:=⟨h,hp,h.bd s hs,fun x r hx=>by simp at hx⟩
theorem q71{α : Type}{acc:List α}{r y:α}{x:Nat}(h:(acc++[r])[x]? = some y):acc[x]? = some y\/x=acc.length/\y=r:=by
 by_cases hx:x<acc.length
 ·rw[List.getElem?_append_left hx]at h;exact Or.inl h
 ·have h2:=(List.getElem?_eq_some_iff.1 h).1
  simp at h2
  have:x=acc.length:=by omega
  subst this;rw[List.getElem?_append_right (Nat.le_refl _)]at h;simp at h
  exact Or.inr ⟨rfl,h.symm⟩
theorem RowJ.alike{X:Nat->Prop}{s:Nat}{acc:List (List Nat)}{S:List Nat}{M:Mt}(h:RowJ X s acc S M){y:Nat}{r:List Nat}(hxy:Like X y acc.length)(hr:acc[y]? = some r)(xs:List Nat):rowM s (acc.length::xs) acc S M=rowM s xs (acc++[r]) S M/\RowJ X s (acc++[r]) S M:=by
 obtain⟨L,h1,h2⟩:=h.dn y r hr;have h3:stepM fuelN acc.length [s] [] M=some (L,M):=by rw[<- qa0 hxy fuelN [s] [] M h.st.good h.pr h.bd];exact h1
 refine⟨?_,h.st,h.pr,h.bd,fun x z hx=>?_⟩
 ·conv=>lhs;unfold rowM
  simp only[h3,h2]
 ·rcases q71 hx with hx|⟨rfl,rfl⟩
  ·exact h.dn x z hx
  ·exact⟨L,h3,h2⟩
theorem RowJ.step{X:Nat->Prop}{s:Nat}{acc:List (List Nat)}{S:List Nat}{M:Mt}(h:RowJ X s acc S M){L r S1:List Nat}{M1:Mt}(hs:stepM fuelN acc.length [s] [] M=some (L,M1))(hp:putS L S=some (r,S1)):RowJ X s (acc++[r]) S1 M1:=by
 obtain⟨e,_⟩:=q61 h.st.good h.bd hs;obtain⟨hpre,hag⟩:=q2S fuelN acc.length [s] [] M M1 L h.bd hs;have k:=q2K hp;refine⟨⟨e.good,fun z hz=>(k.mem z hz).elim (fun g=>(h.st.bd z g).mono e.pre.length_le) (fun g=>q81 e.bd g),k.few h.st.few⟩,qdh fuelN acc.length [s] [] M M1 L h.st.good h.pr h.bd hs,h.bd.mono e.pre.length_le,fun x z hx=>?_⟩
 rcases q71 hx with hx|⟨rfl,rfl⟩
 ·obtain⟨L2,h1,h2⟩:=h.dn x z hx
  exact⟨L2,(q2S fuelN x [s] [] M M L2 h.bd h1).2 M1 hpre,q3t h2 S1 k.pre⟩
 ·exact⟨L,hag M1 (List.prefix_refl _),q3t hp S1 (List.prefix_refl _)⟩
def bitsL (ts:List Tk):Nat:=ts.foldl (fun a t=>if t.1=2 then a ||| 2 ^ t.2 else a) 0
theorem qe6(ts:List Tk)(t:Tk):bitsL (ts++[t])=if t.1=2 then bitsL ts ||| 2 ^ t.2 else bitsL ts:=by
 unfold bitsL;rw[List.foldl_append];rfl
theorem q9y(p:Nat):∀(ts:List Tk) (a:Nat),(ts.foldl (fun a t=>if t.1=2 then a ||| 2 ^ t.2 else a) a).testBit p=true↔a.testBit p=true\/(2,p)∈ts
 | [],a=>by simp
 | (o,q)::ts,a=>by
  rw[List.foldl_cons,q9y p ts];by_cases ho:o=2
  ·subst ho
   rw[if_pos rfl,Nat.testBit_or,Bool.or_eq_true,Nat.testBit_two_pow];simp only[decide_eq_true_eq,List.mem_cons,Prod.mk.injEq,true_and,or_assoc,@eq_comm _ q p]
  ·rw[if_neg (by simpa using ho)]
   simp[Ne.symm ho]
theorem q9z(ts:List Tk)(p:Nat):(bitsL ts).testBit p=true↔(2,p)∈ts:=by
 unfold bitsL;rw[q9y];simp
def PrX (ts:List Tk) (p:Nat):Prop:=(2,p)∈ts
theorem qfq(ts:List Tk)(x:Nat):Like (PrX ts) (x &&& bitsL ts) x:=fun p hp=>by
 rw[Nat.testBit_and,(q9z ts p).2 hp,Bool.and_true]
theorem qgc{ts:List Tk}{n:Nat}(h:∀p,(2,p)∈ts->p<n):bitsL ts<2 ^ n:=by
 refine Nat.lt_pow_two_of_testBit _ fun i hi=>?_
 cases hb:(bitsL ts).testBit i with
 | false=>rfl
 | true=>exact absurd (h i ((q9z ts i).1 hb)) (by omega)
theorem q4V:∀(T:Tr) (items:List It),items.Nodup->Low items->∀n,n<(insT items T).1.length->n<items.length\/∃S,Rep (insT items T).1 n S/\S∈subL T
 | .leaf k,items,hn,hl,n,hlt=>by
  have ok:=q1u (.leaf k) items hn hl;by_cases h:n<items.length
  ·exact Or.inl h
  ·obtain⟨l,e,hl1⟩:=q2x items (itemOf k [])
   have e2:(insT items (.leaf k)).1=items++l:=e;rcases q1r items (itemOf k []) with⟨j,e3,_⟩|⟨e3,_⟩
   ·exfalso
    have:(insT items (.leaf k)).1=items:=congrArg Prod.fst e3
    rw[this]at hlt;exact h hlt
   ·have e4:(insT items (.leaf k))=(items++[itemOf k []],items.length):=e3
    rw[e4]at hlt ok ⊢;simp at hlt
    obtain rfl:n=items.length:=by omega
    exact Or.inr ⟨_,ok.rep,sub_self _⟩
 | .un k c,items,hn,hl,n,hlt=>by
  have ok:=q1u (.un k c) items hn hl;have ih:=q1u c items hn hl;have key:(insT items (.un k c))=addI (insT items c).1 (itemOf k [(insT items c).2]):=rfl;by_cases h:n<(insT items c).1.length
  ·refine (q4V c items hn hl n h).imp id ?_
   rintro⟨S,h1,h2⟩
   refine⟨S,?_,by simp[subL,h2]⟩
   obtain⟨l,e,_⟩:=q2x (insT items c).1 (itemOf k [(insT items c).2]);rw[key,e];exact h1.more l
  ·rcases q1r (insT items c).1 (itemOf k [(insT items c).2]) with⟨j,e3,_⟩|⟨e3,_⟩
   ·exfalso
    rw[key,e3]at hlt;exact h hlt
   ·rw[key,e3]at hlt ok ⊢
    simp at hlt
    obtain rfl:n=(insT items c).1.length:=by omega
    exact Or.inr ⟨_,ok.rep,sub_self _⟩
 | .bin k c d,items,hn,hl,n,hlt=>by
  have ok:=q1u (.bin k c d) items hn hl;have ih:=q1u c items hn hl;have jh:=q1u d _ ih.nodup ih.low;have key:(insT items (.bin k c d))=addI (insT (insT items c).1 d).1 (itemOf k [(insT items c).2,(insT (insT items c).1 d).2]):=rfl;obtain⟨l,e,_⟩:=q2x (insT (insT items c).1 d).1 (itemOf k [(insT items c).2,(insT (insT items c).1 d).2]);by_cases h:n<(insT (insT items c).1 d).1.length
  ·rcases q4V d _ ih.nodup ih.low n h with h1|⟨S,h1,h2⟩
   ·refine (q4V c items hn hl n h1).imp id ?_
    rintro⟨S,h3,h4⟩
    refine⟨S,?_,by simp[subL,h4]⟩
    obtain⟨l2,e2,_⟩:=jh.pre;rw[key,e,e2,List.append_assoc];exact h3.more _
   ·refine Or.inr ⟨S,?_,by simp[subL,h2]⟩
    rw[key,e];exact h1.more l
  ·rcases q1r (insT (insT items c).1 d).1 (itemOf k [(insT items c).2,(insT (insT items c).1 d).2]) with⟨j,e3,_⟩|⟨e3,_⟩
   ·exfalso
    rw[key,e3]at hlt;exact h hlt
   ·rw[key,e3]at hlt ok ⊢
    simp at hlt
    obtain rfl:n=(insT (insT items c).1 d).1.length:=by omega
    exact Or.inr ⟨_,ok.rep,sub_self _⟩
structure PtK (T:Tr) (items:List It) (n:Nat):Prop where
 nd:items.Nodup
 low:Low items
 few:items.length<=2048
 cov:∀n,n<items.length->∃S,Rep items n S/\InC T S
 rep:Rep items n T
theorem q48:∀T:Tr,T.size=T.flat.length
 | .leaf k=>rfl
 | .un k c=>by simp[Tr.size,Tr.flat,q48 c]
 | .bin k c d=>by simp[Tr.size,Tr.flat,q48 c,q48 d];omega
theorem qfn{ts:List Tk}(hc:chkE ts=0):∃T,KT T/\T.size<=2048/\ts=T.flat/\keepE [] ts=0/\PtK T (keepI [] ts) (keepN [] ts):=by
 obtain⟨hts,T,hW,hp,hk,rfl⟩:=q30.1 hc;have hsz:T.size<=2048:=by rw[q48];exact hts
 have hl0:Low []:=fun n x h=>(by simp at h)
 obtain⟨e1,e2⟩:=q9d hW [];have ok:=q1u T [] (by simp) hl0
 obtain⟨l,el,hll⟩:=ok.pre;have hlen:(insT [] T).1.length<=2048:=by rw[el];simp;omega
 have hE:keepE [] T.flat=0:=by unfold keepE;rw[if_neg (by omega),e1,if_neg (by omega)]
 have hI:keepI [] T.flat=(insT [] T).1:=by unfold keepI;rw[if_pos hE,e1]
 have hN:keepN [] T.flat=(insT [] T).2:=by unfold keepN;rw[if_pos hE,e2]
 refine⟨T,⟨hW,hp,hk⟩,hsz,rfl,hE,?_⟩
 rw[hI,hN];refine⟨ok.nodup,ok.low,hlen,fun n hn=>?_,ok.rep⟩
 rcases q4V T [] (by simp) hl0 n hn with h|⟨S,h1,h2⟩
 ·simp at h
 ·exact⟨S,h1,q5U h2⟩
end Go.Proofs.YtekeaodpdcnfjaaGreatDoor
