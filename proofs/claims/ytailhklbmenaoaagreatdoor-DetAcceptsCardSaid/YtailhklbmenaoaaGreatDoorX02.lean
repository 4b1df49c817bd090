/- Texts of the proof, put together: what it uses. -/
import Derived.WalkKit
import Derived.WalkSpells
import Derived.Maps.OwnSet
import Derived.Test.YtailhklbmenaoaaGreatDoorProg
import Derived.WalkLawsBesides
import Derived.BigQuiet
import Derived.Deep.QuietTactic
import Derived.Lib.TrailingZeros
import Derived.Test.YtailhklbmenaoaaGreatDoorX01
set_option maxRecDepth 100000
set_option maxHeartbeats 16000000
namespace Go.Proofs.YtailhklbmenaoaaGreatDoor
abbrev Wi (a b:Nat):Prop:=a &&& b=a
theorem q2t{a b:Nat}:Wi a b↔∀i,a.testBit i=true->b.testBit i=true:=by
 unfold Wi
 constructor
 ·intro h i hi
  have:=congrArg (fun x=>x.testBit i) h
  simp only[Nat.testBit_and,hi,Bool.true_and]at this
  exact this
 ·intro h
  apply Nat.eq_of_testBit_eq
  intro i;rw[Nat.testBit_and]
  cases ha:a.testBit i with
  |false=>rfl
  |true=>rw[h i ha];rfl
theorem q3H(a:Nat):Wi a a:=q2t.2 fun _ h=>h
theorem q41{a b c:Nat}(h:Wi a b)(k:Wi b c):Wi a c:=q2t.2 fun i hi=>q2t.1 k i (q2t.1 h i hi)
theorem qeh{a b:Nat}(h:Wi a b)(k:Wi b a):a=b:=by
 apply Nat.eq_of_testBit_eq
 intro i
 cases ha:a.testBit i with
 |true=>exact(q2t.1 h i ha).symm
 |false=>
  cases hb:b.testBit i with
  |false=>rfl
  |true=>rw[q2t.1 k i hb]at ha;cases ha
theorem wi_le{a b:Nat}(h:Wi a b):a<=b:=by
 unfold Wi at h;rw[<-h];exact Nat.and_le_right
abbrev HoP (l:List Nat) (h:Nat):Prop:=∃s∈l,Wi s h
def hoB (l:List Nat) (h:Nat):Bool:=decide (HoP l h)
abbrev Mini (l:List Nat) (x:Nat):Prop:=x∈l/\∀y∈l,Wi y x->y=x
structure IsLeast (l r:List Nat):Prop where
 up:r.Pairwise (· < ·)
 mem:∀x,x∈r↔Mini l x
theorem q3y:∀{a b:List Nat},a.Pairwise (· < ·)->b.Pairwise (· < ·)->(∀x,x∈a↔x∈b)->a=b
 | [],[],_,_,_=>rfl
 | [],y::b,_,_,h=>absurd ((h y).2 (by simp)) (by simp)
 |x::a,[],_,_,h=>absurd ((h x).1 (by simp)) (by simp)
 |x::a,y::b,ha,hb,h=>by
  obtain⟨ha1,ha2⟩:=List.pairwise_cons.1 ha;obtain⟨hb1,hb2⟩:=List.pairwise_cons.1 hb
  have e:x=y:=by
   have h1:=(h x).1 (by simp)
   have h2:=(h y).2 (by simp)
   rcases List.mem_cons.1 h1 with h1|h1
   ·exact h1
   ·rcases List.mem_cons.1 h2 with h2|h2
    ·exact h2.symm
    ·have:=hb1 x h1
     have:=ha1 y h2
     omega
  subst e;refine congrArg (x :: ·) (q3y ha2 hb2 fun z=>?_)
  constructor
  ·intro hz
   rcases List.mem_cons.1 ((h z).1 (by simp[hz])) with e|e
   ·have:=ha1 z hz;omega
   ·exact e
  ·intro hz
   rcases List.mem_cons.1 ((h z).2 (by simp[hz])) with e|e
   ·have:=hb1 z hz;omega
   ·exact e
theorem IsLeast.one{l r r':List Nat}(h:IsLeast l r)(h':IsLeast l r'):r=r':=q3y h.up h'.up fun x=>(h.mem x).trans (h'.mem x).symm
theorem q8r(l:List Nat):∀(n x:Nat),x<=n->x∈l->∃y,Mini l y/\Wi y x:=by
 intro n
 induction n with
 |zero=>
  intro x hx hm;obtain rfl:x=0:=by omega
  exact⟨0,⟨hm,fun y hy hw=>by have:=wi_le hw;omega⟩,q3H 0⟩
 |succ n ih=>
  intro x hx hm;by_cases h:Mini l x
  ·exact⟨x,h,q3H x⟩
  ·have:∃y∈l,Wi y x/\y≠x:=by
    apply Classical.byContradiction
    intro hc
    apply h
    refine⟨hm,fun y hy hw=>?_⟩
    apply Classical.byContradiction
    intro he;exact hc ⟨y,hy,hw,he⟩
   obtain⟨y,hy,hw,hne⟩:=this;have:=wi_le hw
   obtain⟨z,hz,hzw⟩:=ih y (by omega) hy
   exact⟨z,hz,q41 hzw hw⟩
theorem IsLeast.holds{l r:List Nat}(h:IsLeast l r)(held:Nat):HoP r held↔HoP l held:=by
 constructor
 ·rintro⟨s,hs,hw⟩
  exact⟨s,((h.mem s).1 hs).1,hw⟩
 ·rintro⟨s,hs,hw⟩
  obtain⟨y,hy,hyw⟩:=q8r l s s (Nat.le_refl _) hs;exact⟨y,(h.mem y).2 hy,q41 hyw hw⟩
theorem qat{a b:List Nat}(h:∀held,HoP a held↔HoP b held){x:Nat}(hx:Mini a x):Mini b x:=by
 obtain⟨s,hs,hw⟩:=(h x).1 ⟨x,hx.1,q3H x⟩;obtain⟨t,ht,hw2⟩:=(h s).2 ⟨s,hs,q3H s⟩;have e:=hx.2 t ht (q41 hw2 hw);subst e;have e:=qeh hw hw2;subst e;refine⟨hs,fun y hy hyw=>?_⟩
 obtain⟨u,hu,huw⟩:=(h y).2 ⟨y,hy,q3H y⟩;have e:=hx.2 u hu (q41 huw hyw);subst e;exact qeh hyw huw
theorem qfv{a b r r':List Nat}(h:IsLeast a r)(h':IsLeast b r')(hs:∀held,HoP a held↔HoP b held):r=r' :=
 q3y h.up h'.up fun x=>by
  rw[h.mem,h'.mem];exact⟨qat hs,qat fun held=>(hs held).symm⟩
theorem qeB{a b:List Nat}{h:Nat}:HoP (a++b) h↔HoP a h\/HoP b h:=by
 unfold HoP
 constructor
 ·rintro⟨s,hs,hw⟩
  rcases List.mem_append.1 hs with hs|hs
  ·exact Or.inl ⟨s,hs,hw⟩
  ·exact Or.inr ⟨s,hs,hw⟩
 ·rintro (⟨s,hs,hw⟩|⟨s,hs,hw⟩)
  ·exact⟨s,by simp[hs],hw⟩
  ·exact⟨s,by simp[hs],hw⟩
def uniL (a b:List Nat):List Nat:=a.flatMap fun x=>b.map fun y=>x ||| y
theorem q4p(a b:List Nat):(uniL a b).length=a.length*b.length:=by
 unfold uniL
 induction a with
 |nil=>simp
 |cons x a ih=>rw[List.flatMap_cons,List.length_append,ih,List.length_map,List.length_cons,Nat.succ_mul];omega
def insU (x:Nat):List Nat->List Nat
 | []=>[x]
 |y::r=>if x<y then x::y::r else if x=y then y::r else y::insU x r
theorem q7m(x z:Nat):∀l:List Nat,z∈insU x l↔z=x\/z∈l
 | []=>by simp[insU]
 |y::r=>by
  unfold insU
  split
  ·simp
  ·split
   ·rename_i h1 h2;subst h2;simp
   ·simp only[List.mem_cons,q7m x z r]
    constructor
    ·rintro (h|h|h)
     ·exact Or.inr (Or.inl h)
     ·exact Or.inl h
     ·exact Or.inr (Or.inr h)
    ·rintro (h|h|h)
     ·exact Or.inr (Or.inl h)
     ·exact Or.inl h
     ·exact Or.inr (Or.inr h)
theorem qdY(x:Nat):∀l:List Nat,l.Pairwise (· < ·)->(insU x l).Pairwise (· < ·)
 | [],_=>by simp[insU]
 |y::r,h=>by
  obtain⟨h1,h2⟩:=List.pairwise_cons.1 h;unfold insU
  split
  ·rename_i hx
   refine List.pairwise_cons.2 ⟨fun z hz=>?_,h⟩
   rcases List.mem_cons.1 hz with rfl|hz
   ·exact hx
   ·have:=h1 z hz;omega
  ·split
   ·exact h
   ·rename_i hx hy
    refine List.pairwise_cons.2 ⟨fun z hz=>?_,qdY x r h2⟩
    rcases (q7m x z r).1 hz with rfl|hz
    ·omega
    ·exact h1 z hz
def sortU (l:List Nat):List Nat:=l.foldr insU []
theorem qaE(z:Nat):∀l:List Nat,z∈sortU l↔z∈l
 | []=>by simp[sortU]
 |x::l=>by
  show z∈insU x (sortU l)↔_
  rw[q7m,qaE z l,List.mem_cons]
theorem qcV:∀l:List Nat,(sortU l).Pairwise (· < ·)
 | []=>by simp[sortU]
 |x::l=>qdY x _ (qcV l)
def leastL (l:List Nat):List Nat:=(sortU l).filter fun x=>decide (Mini l x)
theorem q1Q(l:List Nat):IsLeast l (leastL l):=by
 refine⟨(qcV l).filter _,fun x=>?_⟩
 unfold leastL;rw[List.mem_filter,qaE,decide_eq_true_eq];exact⟨fun h=>h.2,fun h=>⟨h.1,h⟩⟩
theorem qfu{l r:List Nat}(h:IsLeast l r):r=leastL l:=h.one (q1Q l)
theorem q59{a b:List Nat}(hs:∀held,HoP a held↔HoP b held):leastL a=leastL b:=qfv (q1Q a) (q1Q b) hs
theorem q68(l:List Nat)(held:Nat):HoP (leastL l) held↔HoP l held:=(q1Q l).holds held
theorem q67(l:List Nat):leastL (leastL l)=leastL l:=q59 fun held=>q68 l held
theorem q2U{l:List Nat}{x:Nat}(h:x∈leastL l):x∈l:=((q1Q l).mem x).1 h |>.1
theorem q8y:∀{a l:List Nat},a.Pairwise (· < ·)->(∀x∈a,x∈l)->a.length<=l.length
 | [],_,_,_=>Nat.zero_le _
 |x::a,l,h,hs=>by
  obtain⟨h1,h2⟩:=List.pairwise_cons.1 h;have hm:=hs x (by simp)
  have:=q8y (l:=l.erase x) h2 (fun y hy=>by
   have:=h1 y hy
   exact(List.mem_erase_of_ne (by omega)).2 (hs y (by simp[hy])))
  rw[List.length_erase_of_mem hm]at this;have hp:=List.length_pos_of_mem hm;simp only[List.length_cons]
  omega
theorem q5a(l:List Nat):(leastL l).length<=l.length:=q8y (q1Q l).up fun _ hx=>q2U hx
theorem qeJ:leastL []=[]:=rfl
theorem or_lt{a b:Nat}(ha:a<2 ^ 64)(hb:b<2 ^ 64):a ||| b<2 ^ 64:=Nat.or_lt_two_pow ha hb
theorem q8q{p:List Nat}{x:Nat}(hx:∀y∈p,y<=x):leastL (p++[x])=if hoB (leastL p) x then leastL p else leastL p++[x]:=by
 have hh:hoB (leastL p) x=true↔HoP p x:=by
  unfold hoB;rw[decide_eq_true_iff];exact q68 p x
 split
 ·rename_i h
  obtain⟨s,hs,hw⟩:=hh.1 h;refine q59 fun held=>?_
  rw[qeB]
  constructor
  ·rintro (h1|⟨y,hy,h1⟩)
   ·exact h1
   ·rcases List.mem_singleton.1 hy with rfl
    exact⟨s,hs,q41 hw h1⟩
  ·exact Or.inl
 ·rename_i h
  have hn:¬HoP p x:=fun k=>h (hh.2 k)
  have hxp:x ∉ p:=fun k=>hn ⟨x,k,q3H x⟩
  symm
  refine qfu ⟨?_,fun y=>?_⟩
  ·refine List.pairwise_append.2 ⟨(q1Q p).up,List.pairwise_singleton _ _,fun y hy z hz=>?_⟩
   rcases List.mem_singleton.1 hz with rfl
   have h1:=q2U hy;have h2:=hx y h1;have h3:y≠z:=fun e=>hxp (e ▸ h1)
   omega
  ·rw[List.mem_append,(q1Q p).mem,List.mem_singleton]
   constructor
   ·rintro (⟨h1,h2⟩|rfl)
    ·refine⟨by simp[h1],fun z hz hw=>?_⟩
     rcases List.mem_append.1 hz with hz|hz
     ·exact h2 z hz hw
     ·rcases List.mem_singleton.1 hz with rfl
      have:=wi_le hw
      have:=hx y h1
      omega
    ·refine⟨by simp,fun z hz hw=>?_⟩
     rcases List.mem_append.1 hz with hz|hz
     ·exact absurd ⟨z,hz,hw⟩ hn
     ·exact List.mem_singleton.1 hz
   ·rintro⟨h1,h2⟩
    rcases List.mem_append.1 h1 with h1|h1
    ·exact Or.inl ⟨h1,fun z hz hw=>h2 z (by simp[hz]) hw⟩
    ·exact Or.inr (List.mem_singleton.1 h1)
theorem qeL{s:List Nat}(hs:s.Pairwise (· <= ·)){k:Nat}(hk:k<s.length):leastL (s.take (k+1))=if hoB (leastL (s.take k)) (s.getD k 0) then leastL (s.take k) else leastL (s.take k)++[s.getD k 0]:=by
 have e:s.take (k+1)=s.take k++[s.getD k 0]:=by
  rw[List.take_add_one,List.getElem?_eq_getElem hk,List.getD_eq_getElem?_getD,List.getElem?_eq_getElem hk];rfl
 rw[e];refine q8q fun y hy=>?_
 obtain⟨j,hj,rfl⟩:=List.getElem_of_mem hy;rw[List.length_take]at hj;rw[List.getElem_take,List.getD_eq_getElem?_getD,List.getElem?_eq_getElem hk];exact List.pairwise_iff_getElem.1 hs j k (by omega) hk (by omega)
theorem qeK{s l:List Nat}(h:s.Perm l):leastL s=leastL l:=q59 fun held=>by
 unfold HoP
 constructor
 ·rintro⟨x,hx,hw⟩;exact⟨x,h.mem_iff.1 hx,hw⟩
 ·rintro⟨x,hx,hw⟩;exact⟨x,h.mem_iff.2 hx,hw⟩
theorem qhp{a b:List Nat}{k:Nat}(hk:k<a.length):uniL (a.take (k+1)) b=uniL (a.take k) b++b.map fun y=>a.getD k 0 ||| y:=by
 have e:a.take (k+1)=a.take k++[a.getD k 0]:=by
  rw[List.take_add_one,List.getElem?_eq_getElem hk,List.getD_eq_getElem?_getD,List.getElem?_eq_getElem hk];rfl
 rw[e];unfold uniL;rw[List.flatMap_append];simp
theorem qgK{b:List Nat}{x j:Nat}(hj:j<b.length):((b.take (j+1)).map fun y=>x ||| y)=((b.take j).map fun y=>x ||| y)++[x ||| b.getD j 0]:=by
 have e:b.take (j+1)=b.take j++[b.getD j 0]:=by
  rw[List.take_add_one,List.getElem?_eq_getElem hj,List.getD_eq_getElem?_getD,List.getElem?_eq_getElem hj];rfl
 rw[e,List.map_append];rfl
theorem qh2{l:List Nat}{d:List Int}(hp:d.Perm (l.map fun (x:Nat)=>(x:Int)))(hu:d.Pairwise (· <= ·)):∃s:List Nat,d=(s.map fun (x:Nat)=>(x:Int))/\s.Perm l/\s.Pairwise (· <= ·):=by
 have h0:∀x∈d,((x.toNat:Nat):Int)=x:=fun x hx=>by
  obtain⟨y,_,rfl⟩:=List.mem_map.1 (hp.mem_iff.1 hx);simp
 have e:d=((d.map Int.toNat).map fun (x:Nat)=>(x:Int)):=by
  rw[List.map_map]
  conv=>lhs;rw[<-List.map_id d]
  refine List.map_congr_left fun x hx=>?_
  exact(h0 x hx).symm
 refine⟨d.map Int.toNat,e,?_,?_⟩
 ·have:=hp.map Int.toNat
  rw[List.map_map]at this;simpa [Function.comp_def] using this
 ·rw[List.pairwise_map]
  exact hu.imp fun h=>by omega
abbrev Mt:=List (List Tk)
abbrev Rt:=Option (List Nat×Mt)
def bindM (r:Rt) (k:List Nat->Mt->Rt):Rt:=match r with
 |some (l,M)=>k l M
 |none=>none
theorem qe{r:Rt}{k:List Nat->Mt->Rt}{z:List Nat×Mt}(h:bindM r k=some z):∃l M,r=some (l,M)/\k l M=some z:=by
 cases r with
 |none=>cases h
 |some y=>obtain⟨l,M⟩:=y;exact⟨l,M,rfl,h⟩
def meetM (f:List Tk) (M:Mt):Rt:=match M.findIdx? (· == f) with
 |some i=>some ([2 ^ i],M)
 |none=>if M.length<64 then some ([2 ^ M.length],M++[f]) else none
def andM (a b:List Nat):Option (List Nat):=if a.length*b.length<=1024 then some (leastL (uniL a b)) else none
def orM (a b:List Nat):Option (List Nat):=if a.length+b.length<=1024 then some (leastL (a++b)) else none
def twoM (and:Bool) (a b:List Nat) (M:Mt):Rt:=(if and then andM a b else orM a b).map fun l=>(l,M)
def yesM (b:Bool):List Nat:=if b then [0] else []
def needM:Tr->Mt->Rt
 | .leaf k,M=>if k.1=0 then some ([0],M) else if k.1=1 then some ([],M) else meetM (Tr.leaf k).flat M
 | .un k c,M=>meetM (Tr.un k c).flat M
 | .bin k c d,M=>if k.1=11\/k.1=12 then bindM (needM c M) fun a M1=>bindM (needM d M1) fun b M2=>twoM (k.1==11) a b M2 else meetM (Tr.bin k c d).flat M
def plV (x:Nat):Tr->Bool
 | .leaf k=>if k.1=0 then true else if k.1=1 then false else x.testBit k.2
 | .un _ c=>!plV x c
 | .bin k c d=>if k.1=11 then plV x c&&plV x d else if k.1=12 then plV x c || plV x d else if k.1=13 then !plV x c || plV x d else plV x c==plV x d
def modeO (box:Bool):Nat:=if box then 18 else 17
def goM:Nat->Tr ⊕ (Bool×Tr×List Nat×Tr)->Nat->Mt->Rt
 | 0,_,_,_=>none
 |n+1,.inl T,x,M=>match T with
  | .leaf k=>some (yesM (if k.1=2 then x.testBit k.2 else k.1==0 || k.1==4),M)
  | .un k c=>if k.1=6 then some (yesM (!plV x c),M)
   else if k.1=7 then bindM (needM (.leaf (4,0)) M) fun a M1=>bindM (needM c M1) fun b M2=>twoM true a b M2
   else bindM (needM (.leaf (5,0)) M) fun a M1=>bindM (needM c M1) fun b M2=>twoM false a b M2
  | .bin k c d=>if k.1=11\/k.1=12 then bindM (goM n (.inl c) x M) fun a M1=>bindM (goM n (.inl d) x M1) fun b M2=>twoM (k.1==11) a b M2
   else if k.1=15\/k.1=16 then bindM (goM n (.inl d) x M) fun b M1=>bindM (goM n (.inl c) x M1) fun a M2=>bindM (needM (.bin k c d) M2) fun u M3=>bindM (twoM (k.1==15) a u M3) fun v M4=>twoM (k.1==16) b v M4
   else bindM (goM n (.inl d) x M) fun s M1=>goM n (.inr (k.1==18,c,s,d)) x M1
 |n+1,.inr (box,r,s,f),x,M=>match r with
  | .leaf _=>none
  | .un k c=>if k.1=19 then (if plV x c then needM f M else some (yesM box,M))
   else if k.1=20 then bindM (goM n (.inl (if box then (kTr c).2 else c)) x M) fun a M1=>twoM (!box) a s M1
   else bindM (goM n (.inr (box,c,yesM box,.bin (modeO box,0) (.un k c) f)) x M) fun a M1=>twoM box s a M1
  | .bin k c d=>if k.1=21 then bindM (goM n (.inr (box,c,s,f)) x M) fun a M1=>bindM (goM n (.inr (box,d,s,f)) x M1) fun b M2=>twoM box a b M2
   else bindM (goM n (.inr (box,d,s,f)) x M) fun a M1=>goM n (.inr (box,c,a,.bin (modeO box,0) d f)) x M1
def aftM (n:Nat) (T:Tr) (x:Nat) (M:Mt):Rt:=goM n (.inl T) x M
def pthM (n:Nat) (box:Bool) (r:Tr) (s:List Nat) (f:Tr) (x:Nat) (M:Mt):Rt:=goM n (.inr (box,r,s,f)) x M
theorem qI(T:Tr)(x:Nat)(M:Mt):aftM 0 T x M=none:=rfl
theorem qF(n:Nat)(k:Tk)(x:Nat)(M:Mt):aftM (n+1) (.leaf k) x M=some (yesM (if k.1=2 then x.testBit k.2 else k.1==0 || k.1==4),M):=rfl
theorem qL(n:Nat)(k:Tk)(c:Tr)(x:Nat)(M:Mt):aftM (n+1) (.un k c) x M=if k.1=6 then some (yesM (!plV x c),M)
  else if k.1=7 then bindM (needM (.leaf (4,0)) M) fun a M1=>bindM (needM c M1) fun b M2=>twoM true a b M2
  else bindM (needM (.leaf (5,0)) M) fun a M1=>bindM (needM c M1) fun b M2=>twoM false a b M2:=rfl
theorem qw(n:Nat)(k:Tk)(c d:Tr)(x:Nat)(M:Mt):aftM (n+1) (.bin k c d) x M=if k.1=11\/k.1=12 then bindM (aftM n c x M) fun a M1=>bindM (aftM n d x M1) fun b M2=>twoM (k.1==11) a b M2
  else if k.1=15\/k.1=16 then bindM (aftM n d x M) fun b M1=>bindM (aftM n c x M1) fun a M2=>bindM (needM (.bin k c d) M2) fun u M3=>bindM (twoM (k.1==15) a u M3) fun v M4=>twoM (k.1==16) b v M4
  else bindM (aftM n d x M) fun s M1=>pthM n (k.1==18) c s d x M1:=rfl
theorem q1i(box:Bool)(r:Tr)(s:List Nat)(f:Tr)(x:Nat)(M:Mt):pthM 0 box r s f x M=none:=rfl
theorem q1h(n:Nat)(box:Bool)(k:Tk)(s:List Nat)(f:Tr)(x:Nat)(M:Mt):pthM (n+1) box (.leaf k) s f x M=none:=rfl
theorem qW(n:Nat)(box:Bool)(k:Tk)(c:Tr)(s:List Nat)(f:Tr)(x:Nat)(M:Mt):pthM (n+1) box (.un k c) s f x M=if k.1=19 then (if plV x c then needM f M else some (yesM box,M))
  else if k.1=20 then bindM (aftM n (if box then (kTr c).2 else c) x M) fun a M1=>twoM (!box) a s M1
  else bindM (pthM n box c (yesM box) (.bin (modeO box,0) (.un k c) f) x M) fun a M1=>twoM box s a M1:=rfl
theorem qQ(n:Nat)(box:Bool)(k:Tk)(c d:Tr)(s:List Nat)(f:Tr)(x:Nat)(M:Mt):pthM (n+1) box (.bin k c d) s f x M=if k.1=21 then bindM (pthM n box c s f x M) fun a M1=>bindM (pthM n box d s f x M1) fun b M2=>twoM box a b M2
  else bindM (pthM n box d s f x M) fun a M1=>pthM n box c a (.bin (modeO box,0) d f) x M1:=rfl
def LsP (l:List Nat) (P:Nat->Prop):Prop:=∃s∈l,∀k,s.testBit k=true->P k
theorem qas(l:List Nat)(P:Nat->Prop):LsP (leastL l) P↔LsP l P:=by
 constructor
 ·rintro⟨s,hs,h⟩
  exact⟨s,q2U hs,h⟩
 ·rintro⟨s,hs,h⟩
  obtain⟨y,hy,hw⟩:=q8r l s s (Nat.le_refl _) hs;exact⟨y,((q1Q l).mem y).2 hy,fun k hk=>h k (q2t.1 hw k hk)⟩
theorem qeN(a b:List Nat)(P:Nat->Prop):LsP (a++b) P↔LsP a P\/LsP b P:=by
 unfold LsP
 constructor
 ·rintro⟨s,hs,h⟩
  rcases List.mem_append.1 hs with hs|hs
  ·exact Or.inl ⟨s,hs,h⟩
  ·exact Or.inr ⟨s,hs,h⟩
 ·rintro (⟨s,hs,h⟩|⟨s,hs,h⟩)
  ·exact⟨s,by simp[hs],h⟩
  ·exact⟨s,by simp[hs],h⟩
theorem qi2(a b:List Nat)(P:Nat->Prop):LsP (uniL a b) P↔LsP a P/\LsP b P:=by
 unfold LsP uniL
 constructor
 ·rintro⟨s,hs,h⟩
  obtain⟨x,hx,hs⟩:=List.mem_flatMap.1 hs;obtain⟨y,hy,rfl⟩:=List.mem_map.1 hs;exact⟨⟨x,hx,fun k hk=>h k (by rw[Nat.testBit_or,hk];rfl)⟩,⟨y,hy,fun k hk=>h k (by rw[Nat.testBit_or,hk,Bool.or_true])⟩⟩
 ·rintro⟨⟨x,hx,h1⟩,y,hy,h2⟩
  refine⟨x ||| y,List.mem_flatMap.2 ⟨x,hx,List.mem_map.2 ⟨y,hy,rfl⟩⟩,fun k hk=>?_⟩
  rw[Nat.testBit_or,Bool.or_eq_true]at hk;rcases hk with hk|hk
  ·exact h1 k hk
  ·exact h2 k hk
theorem q2G(b:Bool)(P:Nat->Prop):LsP (yesM b) P↔b=true:=by
 unfold LsP yesM
 cases b with
 |false=>simp
 |true=>exact⟨fun _=>rfl,fun _=>⟨0,by simp,fun k hk=>by rw[Nat.zero_testBit]at hk;cases hk⟩⟩
theorem q9T(i:Nat)(P:Nat->Prop):LsP [2 ^ i] P↔P i:=by
 unfold LsP
 constructor
 ·rintro⟨s,hs,h⟩
  rcases List.mem_singleton.1 hs with rfl
  exact h i (by rw[Nat.testBit_two_pow];simp)
 ·intro h
  refine⟨2 ^ i,by simp,fun k hk=>?_⟩
  rw[Nat.testBit_two_pow]at hk;have:i=k:=by simpa using hk
  exact this ▸ h
theorem qar{l:List Nat}{P Q:Nat->Prop}(h:∀s∈l,∀k,s.testBit k=true->(P k↔Q k)):LsP l P↔LsP l Q :=
 ⟨fun⟨s,hs,k⟩=>⟨s,hs,fun j hj=>(h s hs j hj).1 (k j hj)⟩,fun⟨s,hs,k⟩=>⟨s,hs,fun j hj=>(h s hs j hj).2 (k j hj)⟩⟩
def BdL (l:List Nat) (m:Nat):Prop:=∀s∈l,∀k,s.testBit k=true->k<m
theorem BdL.mono{l:List Nat}{m n:Nat}(h:BdL l m)(hn:m<=n):BdL l n:=fun s hs k hk=>Nat.lt_of_lt_of_le (h s hs k hk) hn
theorem qaa{l:List Nat}{m:Nat}(h:BdL l m):BdL (leastL l) m:=fun s hs=>h s (q2U hs)
theorem qeu{a b:List Nat}{m:Nat}(h:BdL a m)(k:BdL b m):BdL (a++b) m:=fun s hs=>by
 rcases List.mem_append.1 hs with hs|hs
 ·exact h s hs
 ·exact k s hs
theorem qhy{a b:List Nat}{m:Nat}(h:BdL a m)(k:BdL b m):BdL (uniL a b) m:=fun s hs j hj=>by
 obtain⟨x,hx,hs⟩:=List.mem_flatMap.1 hs;obtain⟨y,hy,rfl⟩:=List.mem_map.1 hs;rw[Nat.testBit_or,Bool.or_eq_true]at hj;rcases hj with hj|hj
 ·exact h x hx j hj
 ·exact k y hy j hj
theorem q1j(b:Bool)(m:Nat):BdL (yesM b) m:=fun s hs k hk=>by
 unfold yesM at hs
 cases b with
 |false=>simp at hs
 |true=>simp at hs;subst hs;rw[Nat.zero_testBit]at hk;cases hk
theorem qdP{i m:Nat}(h:i<m):BdL [2 ^ i] m:=fun s hs k hk=>by
 rcases List.mem_singleton.1 hs with rfl
 rw[Nat.testBit_two_pow]at hk;have:i=k:=by simpa using hk
 omega
theorem qr{and:Bool}{a b:List Nat}{M M':Mt}{l:List Nat}(h:twoM and a b M=some (l,M')):M'=M/\l=if and then leastL (uniL a b) else leastL (a++b):=by
 unfold twoM at h
 cases and with
 |true=>
  simp only[if_true]at h ⊢
  unfold andM at h
  split at h
  ·simp at h;exact⟨h.2.symm,h.1.symm⟩
  ·simp at h
 |false=>
  simp only[Bool.false_eq_true,if_false]at h ⊢
  unfold orM at h
  split at h
  ·simp at h;exact⟨h.2.symm,h.1.symm⟩
  ·simp at h
theorem q6f{and:Bool}{a b:List Nat}{M M':Mt}{l:List Nat}(h:twoM and a b M=some (l,M'))(P:Nat->Prop):LsP l P↔if and then LsP a P/\LsP b P else LsP a P\/LsP b P:=by
 rw[(qr h).2]
 cases and with
 |true=>simp only[if_true];rw[qas,qi2]
 |false=>simp only[Bool.false_eq_true,if_false];rw[qas,qeN]
theorem q3Z{and:Bool}{a b:List Nat}{M M':Mt}{l:List Nat}(h:twoM and a b M=some (l,M')){m:Nat}(ha:BdL a m)(hb:BdL b m):BdL l m:=by
 rw[(qr h).2]
 cases and with
 |true=>exact qaa (qhy ha hb)
 |false=>exact qaa (qeu ha hb)
structure KT (T:Tr):Prop where
 wf:T.WF
 np:pathT T=false
 kr:kerT T=true
structure KP (T:Tr):Prop where
 wf:T.WF
 isp:pathT T=true
 kr:kerT T=true
theorem qh4(t:List Nat){T S:Tr}(h:T.WF)(k:S.WF)(e:T.flat=S.flat):semTr t T=semTr t S:=(q35 t T h).same (e ▸ q35 t S k)
structure GoodM (M:Mt):Prop where
 ker:∀f∈M,∃T,KT T/\f=T.flat
 few:M.length<=64
def SatM (t:List Nat) (M:Mt) (i k:Nat):Prop:=∃T,KT T/\M[k]? =some T.flat/\(semTr t T).1 i
theorem q6c{t:List Nat}{M:Mt}{i k:Nat}{T:Tr}(hT:KT T)(h:M[k]? =some T.flat):SatM t M i k↔(semTr t T).1 i:=by
 constructor
 ·rintro⟨S,hS,h1,h2⟩
  rw[h]at h1;injection h1 with h1;rw[qh4 t hT.wf hS.wf h1];exact h2
 ·intro h2
  exact⟨T,hT,h,h2⟩
theorem qe6{M M':Mt}(h:M <+: M'){k:Nat}(hk:k<M.length):M'[k]? =M[k]? := by
 obtain⟨r,rfl⟩:=h;rw[List.getElem?_append_left hk]
theorem qe8{t:List Nat}{M M':Mt}(h:M <+: M'){i k:Nat}(hk:k<M.length):SatM t M i k↔SatM t M' i k:=by
 unfold SatM;rw[qe6 h hk]
theorem q3n{t:List Nat}{M M':Mt}(h:M <+: M'){l:List Nat}(hl:BdL l M.length)(i:Nat):LsP l (SatM t M i)↔LsP l (SatM t M' i):=qar fun s hs k hk=>qe8 h (hl s hs k hk)
structure Ext (M:Mt) (L:List Nat) (M':Mt):Prop where
 pre:M <+: M'
 good:GoodM M'
 bd:BdL L M'.length
theorem q1u{M M':Mt}(h:M <+: M'):M.length<=M'.length:=h.length_le
theorem q9U{T:Tr}{M M':Mt}{L:List Nat}(hM:GoodM M)(hT:KT T)(h:meetM T.flat M=some (L,M')):Ext M L M'/\∀t i,LsP L (SatM t M' i)↔(semTr t T).1 i:=by
 unfold meetM at h
 split at h
 ·rename_i i hi
  injection h with h;injection h with h1 h2;subst h1 h2;obtain⟨hlt,he,_⟩:=List.findIdx?_eq_some_iff_getElem.1 hi;have he':M[i]? =some T.flat:=by rw[List.getElem?_eq_getElem hlt];simpa using he
  exact⟨⟨List.prefix_refl _,hM,qdP hlt⟩,fun t j=>by rw[q9T];exact q6c hT he'⟩
 ·split at h
  ·rename_i hl
   injection h with h;injection h with h1 h2;subst h1 h2;refine⟨⟨List.prefix_append _ _,⟨fun f hf=>?_,by rw[List.length_append];simp;omega⟩,qdP (by rw[List.length_append];simp)⟩,fun t j=>?_⟩
   ·rcases List.mem_append.1 hf with hf|hf
    ·exact hM.ker f hf
    ·exact⟨T,hT,List.mem_singleton.1 hf⟩
   ·rw[q9T]
    exact q6c hT (by simp)
  ·cases h
theorem q3f{and:Bool}{a b:List Nat}{M M1 M2 M':Mt}{l:List Nat}(h:twoM and a b M2=some (l,M'))(h1:Ext M a M1)(h2:Ext M1 b M2):Ext M l M'/\∀t i,LsP l (SatM t M' i)↔if and then LsP a (SatM t M1 i)/\LsP b (SatM t M2 i) else LsP a (SatM t M1 i)\/LsP b (SatM t M2 i):=by
 have e:=(qr h).1;subst e;refine⟨⟨h1.pre.trans h2.pre,h2.good,q3Z h (h1.bd.mono (q1u h2.pre)) h2.bd⟩,fun t i=>?_⟩
 rw[q6f h,q3n h2.pre h1.bd]
theorem qD{op p:Nat}{c d:Tr}(h:KT (.bin (op,p) c d))(ho:op=11\/op=12\/op=15\/op=16):KT c/\KT d:=by
 obtain⟨rfl,hc,hd,hf,_⟩:=qz h.wf;have hk:=h.kr;simp only[kerT,Bool.and_eq_true]at hk
 have hn:pathT c=false/\pathT d=false:=by
  rcases ho with rfl|rfl|rfl|rfl<;>simpa [fit2T] using hf
 exact⟨⟨hc,hn.1,hk.2.1⟩,⟨hd,hn.2,hk.2.2⟩⟩
theorem q1z{op p:Nat}{c d:Tr}(h:KT (.bin (op,p) c d))(ho:op=17\/op=18):KP c/\KT d:=by
 obtain⟨rfl,hc,hd,hf,_⟩:=qz h.wf;have hk:=h.kr;simp only[kerT,Bool.and_eq_true]at hk
 have hn:pathT c=true/\pathT d=false:=by
  rcases ho with rfl|rfl<;>simpa [fit2T] using hf
 exact⟨⟨hc,hn.1,hk.2.1⟩,⟨hd,hn.2,hk.2.2⟩⟩
theorem q1J{op p:Nat}{c d:Tr}(h:KT (.bin (op,p) c d)):p=0/\(op=11\/op=12\/op=15\/op=16\/op=17\/op=18):=by
 obtain⟨rfl,hc,hd,hf,ho⟩:=qz h.wf;have hk:=h.kr;have hp:=h.np;refine⟨rfl,?_⟩
 rcases ho with rfl|rfl|rfl|rfl|rfl|rfl|rfl|rfl|rfl|rfl
 ·simp
 ·simp
 ·simp[kerT]at hk
 ·simp[kerT]at hk
 ·simp
 ·simp
 ·simp
 ·simp
 ·cases hp
 ·cases hp
theorem kt_un{op p:Nat}{c:Tr}(h:KT (.un (op,p) c)):p=0/\((op=6/\∃q,c=.leaf (2,q))\/((op=7\/op=8)/\KT c)):=by
 obtain⟨rfl,hc,hf,ho⟩:=qG h.wf;have hk:=h.kr;have hp:=h.np;refine⟨rfl,?_⟩
 rcases ho with rfl|rfl|rfl|rfl|rfl|rfl|rfl|rfl
 ·refine Or.inl ⟨rfl,?_⟩
  match c,hk with
  | .leaf (o,q),hk=>simp[kerT]at hk;exact⟨q,by rw[hk]⟩
  | .un _ _,hk=>simp[kerT]at hk
  | .bin _ _ _,hk=>simp[kerT]at hk
 ·refine Or.inr ⟨Or.inl rfl,hc,by simpa [fit1T] using hf,by simpa [kerT] using hk⟩
 ·refine Or.inr ⟨Or.inr rfl,hc,by simpa [fit1T] using hf,by simpa [kerT] using hk⟩
 ·simp[kerT]at hk
 ·simp[kerT]at hk
 ·cases hp
 ·cases hp
 ·cases hp
theorem q1X{op p:Nat}(h:KT (.leaf (op,p))):(op=2/\p<=7)\/(p=0/\(op=0\/op=1\/op=4\/op=5)):=by
 have hk:=h.kr;rcases qR h.wf with h1|⟨h1,rfl|rfl|rfl|rfl|rfl⟩
 ·exact Or.inl h1
 ·exact Or.inr ⟨h1,by simp⟩
 ·exact Or.inr ⟨h1,by simp⟩
 ·simp[kerT]at hk
 ·exact Or.inr ⟨h1,by simp⟩
 ·exact Or.inr ⟨h1,by simp⟩
theorem kp_un{op p:Nat}{c:Tr}(h:KP (.un (op,p) c)):p=0/\((op=19/\c.WF/\plainT c=true)\/(op=20/\KT c)\/(op=23/\KP c)):=by
 obtain⟨rfl,hc,hf,ho⟩:=qG h.wf;have hk:=h.kr;have hp:=h.isp;refine⟨rfl,?_⟩
 rcases ho with rfl|rfl|rfl|rfl|rfl|rfl|rfl|rfl
 ·cases hp
 ·cases hp
 ·cases hp
 ·cases hp
 ·cases hp
 ·simp[fit1T]at hf
  exact Or.inl ⟨rfl,hc,hf.2⟩
 ·exact Or.inr (Or.inl ⟨rfl,hc,by simpa [fit1T] using hf,by simpa [kerT] using hk⟩)
 ·exact Or.inr (Or.inr ⟨rfl,hc,by simpa [fit1T] using hf,by simpa [kerT] using hk⟩)
theorem q1y{op p:Nat}{c d:Tr}(h:KP (.bin (op,p) c d)):p=0/\(op=21\/op=22)/\KP c/\KP d:=by
 obtain⟨rfl,hc,hd,hf,ho⟩:=qz h.wf;have hk:=h.kr;have hp:=h.isp;simp only[kerT,Bool.and_eq_true]at hk
 refine⟨rfl,?_⟩
 rcases ho with rfl|rfl|rfl|rfl|rfl|rfl|rfl|rfl|rfl|rfl
 ·cases hp
 ·cases hp
 ·cases hp
 ·cases hp
 ·cases hp
 ·cases hp
 ·cases hp
 ·cases hp
 ·have hn:pathT c=true/\pathT d=true:=by simpa [fit2T] using hf
  exact⟨Or.inl rfl,⟨hc,hn.1,hk.2.1⟩,⟨hd,hn.2,hk.2.2⟩⟩
 ·have hn:pathT c=true/\pathT d=true:=by simpa [fit2T] using hf
  exact⟨Or.inr rfl,⟨hc,hn.1,hk.2.1⟩,⟨hd,hn.2,hk.2.2⟩⟩
theorem q2D{k:Tk}(h:KP (.leaf k)):False:=by
 obtain⟨op,p⟩:=k;have hp:=h.isp;rcases qR h.wf with⟨rfl,_⟩|⟨_,rfl|rfl|rfl|rfl|rfl⟩<;>cases hp
theorem q2E{r f:Tr}(hr:KP r)(hf:KT f)(box:Bool):KT (.bin (modeO box,0) r f):=by
 refine⟨qC ?_ ?_ hr.wf hf.wf,?_,?_⟩
 ·cases box<;>rfl
 ·cases box<;>simp[modeO,fit2T,hr.isp,hf.np]
 ·cases box<;>rfl
 ·cases box<;>simp[modeO,kerT,hr.kr,hf.kr]
theorem q2F(op:Nat)(h:op=4\/op=5):KT (.leaf (op,0)):=by
 rcases h with rfl|rfl
 ·exact⟨qN rfl (by decide),rfl,rfl⟩
 ·exact⟨qN rfl (by decide),rfl,rfl⟩
theorem q3m{T:Tr}(h:KT T):KT (kTr T).2:=⟨(kOk T h.wf).w2 h.np,(kOk T h.wf).p2 h.np,(ker_k T h.wf).2 h.np⟩
theorem qV:∀(T:Tr) {M M':Mt} {L:List Nat},GoodM M->KT T->needM T M=some (L,M')->Ext M L M'/\∀t i,LsP L (SatM t M' i)↔(semTr t T).1 i
 | .leaf (op,p),M,M',L,hM,hT,h=>by
  unfold needM at h;dsimp only at h
  split at h
  ·rename_i h0
   injection h with h;injection h with h1 h2;subst h1 h2
   refine⟨⟨List.prefix_refl _,hM,q1j true _⟩,fun t i=>?_⟩
   have:=q2G true (SatM t M i)
   simp only[yesM,if_true]at this
   rw[this];simp[semTr,semT,leafV,h0]
  ·split at h
   ·rename_i h0 h1
    injection h with h;injection h with h2 h3;subst h2 h3
    refine⟨⟨List.prefix_refl _,hM,q1j false _⟩,fun t i=>?_⟩
    have:=q2G false (SatM t M i)
    simp only[yesM,Bool.false_eq_true,if_false]at this
    rw[this];simp[semTr,semT,leafV,h1]
   ·exact q9U hM hT h
 | .un k c,M,M',L,hM,hT,h=>q9U hM hT h
 | .bin (op,p) c d,M,M',L,hM,hT,h=>by
  unfold needM at h;dsimp only at h
  split at h
  ·rename_i ho
   obtain⟨a,M1,ha,h⟩:=qe h;obtain⟨b,M2,hb,h⟩:=qe h;obtain⟨kc,kd⟩:=qD hT (by rcases ho with h|h<;>simp[h])
   obtain⟨e1,s1⟩:=qV c hM kc ha;obtain⟨e2,s2⟩:=qV d e1.good kd hb;obtain⟨e3,s3⟩:=q3f h e1 e2;refine⟨e3,fun t i=>?_⟩
   rw[s3,s1,s2];rcases ho with rfl|rfl
   ·simp[semTr,semT,binV]
   ·simp[semTr,semT,binV]
  ·exact q9U hM hT h
theorem q3d{t:List Nat}{i x:Nat}(hx:t[i]? =some x):∀T:Tr,T.WF->pathT T=false->plainT T=true->(plV x T=true↔(semTr t T).1 i)
 | .leaf (op,p),h,_,hp=>by
  have hi:i<t.length:=(List.getElem?_eq_some_iff.1 hx).1
  have hg:t.getD i 0=x:=by rw[List.getD_eq_getElem?_getD,hx];rfl
  rw[q8u]at hp;rcases qR h with⟨rfl,_⟩|⟨_,rfl|rfl|rfl|rfl|rfl⟩
  ·rw[show (semTr t (Tr.leaf (2,p))).1 i=(i<t.length/\(t.getD i 0).testBit p=true) from rfl,hg,show plV x (Tr.leaf (2,p))=x.testBit p from rfl]
   exact⟨fun h=>⟨hi,h⟩,fun h=>h.2⟩
  ·simp[plV,semTr,semT,leafV]
  ·simp[plV,semTr,semT,leafV]
  ·simp[plainB]at hp
  ·simp[plainB]at hp
  ·simp[plainB]at hp
 | .un (op,p) c,h,hq,hp=>by
  obtain⟨rfl,hc,hf,ho⟩:=qG h;rw[qY]at hp;simp only[Bool.and_eq_true]at hp
  rcases ho with rfl|rfl|rfl|rfl|rfl|rfl|rfl|rfl
  ·have ih:=q3d hx c hc (by simpa [fit1T] using hf) hp.2
   simp only[plV,semTr,semT,unV,if_true]
   rw[<-ih];simp
  ·simp[plainB]at hp
  ·simp[plainB]at hp
  ·simp[plainB]at hp
  ·simp[plainB]at hp
  ·cases hq
  ·cases hq
  ·cases hq
 | .bin (op,p) c d,h,hq,hp=>by
  obtain⟨rfl,hc,hd,hf,ho⟩:=qz h;rw[qm]at hp;simp only[Bool.and_eq_true]at hp
  have ih:=fun hn=>q3d hx c hc hn hp.2.1
  have jh:=fun hn=>q3d hx d hd hn hp.2.2
  rcases ho with rfl|rfl|rfl|rfl|rfl|rfl|rfl|rfl|rfl|rfl
  ·have hn:pathT c=false/\pathT d=false:=by simpa [fit2T] using hf
   simp[plV,semTr,semT,binV,<-ih hn.1,<-jh hn.2]
  ·have hn:pathT c=false/\pathT d=false:=by simpa [fit2T] using hf
   simp[plV,semTr,semT,binV,<-ih hn.1,<-jh hn.2]
  ·have hn:pathT c=false/\pathT d=false:=by simpa [fit2T] using hf
   simp only[plV,semTr,semT,binV,<-ih hn.1,<-jh hn.2]
   cases plV x c<;>cases plV x d<;>simp
  ·have hn:pathT c=false/\pathT d=false:=by simpa [fit2T] using hf
   simp only[plV,semTr,semT,binV,<-ih hn.1,<-jh hn.2]
   cases plV x c<;>cases plV x d<;>simp
  ·simp[plainB]at hp
  ·simp[plainB]at hp
  ·simp[plainB]at hp
  ·simp[plainB]at hp
  ·cases hq
  ·cases hq
def wayD (w:Nat->Nat->Prop) (i:Nat) (S:Prop) (F:Nat->Prop):Prop:=(w i i/\S)\/∃k,i<k/\w i k/\F k
def wayB (w:Nat->Nat->Prop) (i:Nat) (S:Prop) (F:Nat->Prop):Prop:=(w i i->S)/\∀k,i<k->w i k->F k
theorem q40(w:Nat->Nat->Prop)(i:Nat)(S:Prop)(F:Nat->Prop):wayB w i S F↔¬wayD w i (¬S) (fun k=>¬F k):=by
 unfold wayB wayD
 constructor
 ·rintro⟨h1,h2⟩ (⟨h3,h4⟩|⟨k,h3,h4,h5⟩)
  ·exact h4 (h1 h3)
  ·exact h5 (h2 k h3 h4)
 ·intro h
  refine⟨fun h1=>?_,fun k h1 h2=>?_⟩
  ·exact Classical.byContradiction fun h2=>h (Or.inl ⟨h1,h2⟩)
  ·exact Classical.byContradiction fun h3=>h (Or.inr ⟨k,h1,h2,h3⟩)
theorem q8J{w:Nat->Nat->Prop}{i:Nat}{S S':Prop}{F F':Nat->Prop}(h:S↔S')(k:∀j,F j↔F' j):wayD w i S F↔wayD w i S' F':=by
 unfold wayD;rw[h]
 constructor
 ·rintro (h1|⟨j,h1,h2,h3⟩)
  ·exact Or.inl h1
  ·exact Or.inr ⟨j,h1,h2,(k j).1 h3⟩
 ·rintro (h1|⟨j,h1,h2,h3⟩)
  ·exact Or.inl h1
  ·exact Or.inr ⟨j,h1,h2,(k j).2 h3⟩
def Fwd (n:Nat) (w:Nat->Nat->Prop):Prop:=∀i k,i<=n->w i k->i<=k/\k<=n
theorem qd4{a b:Nat->Nat->Prop}{n i:Nat}(ha:Fwd n a)(hb:Fwd n b)(hi:i<=n)(S:Prop)(F:Nat->Prop):
  wayD (fun i k=>∃j,a i j/\b j k) i S F↔wayD a i (wayD b i S F) (fun j=>∃k,b j k/\F k):=by
 unfold wayD
 constructor
 ·rintro (⟨⟨j,h1,h2⟩,h3⟩|⟨k,h0,⟨j,h1,h2⟩,h3⟩)
  ·have e1:=ha i j hi h1
   have e2:=hb j i e1.2 h2;have:j=i:=by omega
   subst this;exact Or.inl ⟨h1,Or.inl ⟨h2,h3⟩⟩
  ·by_cases e:j=i
   ·subst e
    exact Or.inl ⟨h1,Or.inr ⟨k,h0,h2,h3⟩⟩
   ·have e1:=ha i j hi h1
    exact Or.inr ⟨j,by omega,h1,k,h2,h3⟩
 ·rintro (⟨h1,⟨h2,h3⟩|⟨k,h0,h2,h3⟩⟩|⟨j,h0,h1,k,h2,h3⟩)
  ·exact Or.inl ⟨⟨i,h1,h2⟩,h3⟩
  ·exact Or.inr ⟨k,h0,⟨i,h1,h2⟩,h3⟩
  ·have e1:=ha i j hi h1
   have e2:=hb j k e1.2 h2;exact Or.inr ⟨k,by omega,⟨j,h1,h2⟩,h3⟩
theorem q8C{a:Nat->Nat->Prop}{n:Nat}(ha:Fwd n a):∀(m i k:Nat),i<=n->i<k->stepsP a m i k->∃j,i<j/\a i j/\∃m,stepsP a m j k
 | 0,i,k,_,hk,h=>by simp only[stepsP]at h;omega
 |m+1,i,k,hi,hk,h=>by
  obtain⟨j,h1,h2⟩:=h;have e1:=ha i j hi h1;by_cases e:j=i
  ·subst e
   exact q8C ha m j k hi hk h2
  ·exact⟨j,by omega,h1,m,h2⟩
theorem qaK{a:Nat->Nat->Prop}{n i:Nat}(ha:Fwd n a)(hi:i<=n)(S:Prop)(F:Nat->Prop):
  wayD (fun i k=>∃m,stepsP a m i k) i S F↔S\/wayD a i False (fun j=>∃k,(∃m,stepsP a m j k)/\F k):=by
 unfold wayD
 constructor
 ·rintro (⟨_,h⟩|⟨k,h0,⟨m,h1⟩,h2⟩)
  ·exact Or.inl h
  ·obtain⟨j,h3,h4,h5⟩:=q8C ha m i k hi h0 h1
   exact Or.inr (Or.inr ⟨j,h3,h4,k,h5,h2⟩)
 ·rintro (h|⟨_,h⟩|⟨j,h0,h1,k,⟨m,h2⟩,h3⟩)
  ·exact Or.inl ⟨⟨0,rfl⟩,h⟩
  ·cases h
  ·have e1:=ha i j hi h1
   have e2:j<=k/\k<=n:=q5g (fun i k hi h=>ha i k hi h) m j k e1.2 h2
   exact Or.inr ⟨k,by omega,⟨m+1,j,h1,h2⟩,h3⟩
theorem qht{a b:Nat->Nat->Prop}{n i:Nat}(ha:Fwd n a)(hb:Fwd n b)(hi:i<=n)(S:Prop)(F:Nat->Prop):
  wayB (fun i k=>∃j,a i j/\b j k) i S F↔wayB a i (wayB b i S F) (fun j=>∀k,b j k->F k):=by
 rw[q40,qd4 ha hb hi,q40 a];refine not_congr (q8J ?_ fun j=>?_)
 ·rw[q40,Classical.not_not]
 ·exact⟨fun⟨k,h1,h2⟩ h=>h2 (h k h1),fun h=>Classical.byContradiction fun h2=>h fun k hk=>Classical.byContradiction fun h3=>h2 ⟨k,hk,h3⟩⟩
theorem qg9{a:Nat->Nat->Prop}{n i:Nat}(ha:Fwd n a)(hi:i<=n)(S:Prop)(F:Nat->Prop):
  wayB (fun i k=>∃m,stepsP a m i k) i S F↔S/\wayB a i True (fun j=>∀k,(∃m,stepsP a m j k)->F k):=by
 rw[q40,qaK ha hi,q40 a]
 have e:wayD a i False (fun j=>∃k,(∃m,stepsP a m j k)/\¬F k)↔wayD a i (¬True) (fun j=>¬∀k,(∃m,stepsP a m j k)->F k):=q8J (by simp) fun j=>
  ⟨fun⟨k,h1,h2⟩ h=>h2 (h k h1),fun h=>Classical.byContradiction fun h2=>h fun k hk=>Classical.byContradiction fun h3=>h2 ⟨k,hk,h3⟩⟩
 rw[e]
 constructor
 ·intro h
  exact⟨Classical.byContradiction fun h1=>h (Or.inl h1),fun h1=>h (Or.inr h1)⟩
 ·rintro⟨h1,h2⟩ (h|h)
  ·exact h h1
  ·exact h2 h
def wayS (box:Bool) (w:Nat->Nat->Prop) (i:Nat) (S:Prop) (F:Nat->Prop):Prop:=if box then wayB w i S F else wayD w i S F
theorem q4I(t:List Nat){r:Tr}(h:r.WF):Fwd t.length (semTr t r).2:=fun i k hi hw=>q1g t r h i k hi hw
theorem qi3(t:List Nat)(i:Nat):(semTr t (.leaf (4,0))).1 i↔i<t.length:=Iff.rfl
theorem qi4(t:List Nat)(i:Nat):(semTr t (.leaf (5,0))).1 i↔i=t.length:=Iff.rfl
def AftOk (n:Nat):Prop:=∀(T:Tr) (x:Nat) (M M':Mt) (L:List Nat),GoodM M->KT T->aftM n T x M=some (L,M')->Ext M L M'/\∀(t:List Nat) (i:Nat),t[i]? =some x->(LsP L (SatM t M' (i+1))↔(semTr t T).1 i)
def PthOk (n:Nat):Prop:=∀(box:Bool) (r f:Tr) (s:List Nat) (x:Nat) (M M':Mt) (L:List Nat),GoodM M->KP r->KT f->BdL s M.length->pthM n box r s f x M=some (L,M')->Ext M L M'/\∀(t:List Nat) (i:Nat),t[i]? =some x->(LsP L (SatM t M' (i+1))↔wayS box (semTr t r).2 i (LsP s (SatM t M (i+1))) fun k=>(semTr t f).1 k)
theorem qf2{t:List Nat}{i:Nat}(hi:i<t.length)(c d:Tr):(semTr t (.bin (15,0) c d)).1 i↔(semTr t d).1 i\/((semTr t c).1 i/\(semTr t (.bin (15,0) c d)).1 (i+1)):=by
 show (∃j,i<=j/\j<t.length/\(semTr t d).1 j/\∀k,i<=k->k<j->(semTr t c).1 k)↔_\/(_/\∃j,i+1<=j/\j<t.length/\(semTr t d).1 j/\∀k,i+1<=k->k<j->(semTr t c).1 k)
 constructor
 ·rintro⟨j,h1,h2,h3,h4⟩
  by_cases e:j=i
  ·subst e;exact Or.inl h3
  ·exact Or.inr ⟨h4 i (Nat.le_refl _) (by omega),j,by omega,h2,h3,fun k hk hj=>h4 k (by omega) hj⟩
 ·rintro (h|⟨h0,j,h1,h2,h3,h4⟩)
  ·exact⟨i,Nat.le_refl _,hi,h,fun k h1 h2=>by omega⟩
  ·refine⟨j,by omega,h2,h3,fun k hk hj=>?_⟩
   by_cases e:k=i
   ·subst e;exact h0
   ·exact h4 k (by omega) hj
theorem qcR{t:List Nat}{i:Nat}(hi:i<t.length)(c d:Tr):(semTr t (.bin (16,0) c d)).1 i↔(semTr t d).1 i/\((semTr t c).1 i\/(semTr t (.bin (16,0) c d)).1 (i+1)):=by
 show (∀j,i<=j->j<t.length->(semTr t d).1 j\/∃k,i<=k/\k<j/\(semTr t c).1 k)↔_/\(_\/∀j,i+1<=j->j<t.length->(semTr t d).1 j\/∃k,i+1<=k/\k<j/\(semTr t c).1 k)
 constructor
 ·intro h
  refine⟨?_,?_⟩
  ·rcases h i (Nat.le_refl _) hi with h1|⟨k,h1,h2,_⟩
   ·exact h1
   ·omega
  ·by_cases h0:(semTr t c).1 i
   ·exact Or.inl h0
   ·refine Or.inr fun j h1 h2=>?_
    rcases h j (by omega) h2 with h3|⟨k,h3,h4,h5⟩
    ·exact Or.inl h3
    ·by_cases e:k=i
     ·subst e;exact absurd h5 h0
     ·exact Or.inr ⟨k,by omega,h4,h5⟩
 ·rintro⟨h0,h⟩ j h1 h2
  by_cases e:j=i
  ·subst e;exact Or.inl h0
  ·rcases h with h|h
   ·exact Or.inr ⟨i,Nat.le_refl _,by omega,h⟩
   ·rcases h j (by omega) h2 with h3|⟨k,h3,h4,h5⟩
    ·exact Or.inl h3
    ·exact Or.inr ⟨k,by omega,h4,h5⟩
theorem qiC(w:Nat->Nat->Prop){n i:Nat}(hw:Fwd n w)(hi:i<=n)(F:Nat->Prop):wayD w i (F i) F↔∃k,w i k/\F k:=by
 unfold wayD
 constructor
 ·rintro (⟨h1,h2⟩|⟨k,_,h1,h2⟩)
  ·exact⟨i,h1,h2⟩
  ·exact⟨k,h1,h2⟩
 ·rintro⟨k,h1,h2⟩
  by_cases e:k=i
  ·subst e;exact Or.inl ⟨h1,h2⟩
  ·have:=hw i k hi h1
   exact Or.inr ⟨k,by omega,h1,h2⟩
theorem qhu(w:Nat->Nat->Prop){n i:Nat}(hw:Fwd n w)(hi:i<=n)(F:Nat->Prop):wayB w i (F i) F↔∀k,w i k->F k:=by
 unfold wayB
 constructor
 ·rintro⟨h1,h2⟩ k hk
  by_cases e:k=i
  ·subst e;exact h1 hk
  ·have:=hw i k hi hk
   exact h2 k (by omega) hk
 ·intro h
  exact⟨fun h1=>h i h1,fun k _ h1=>h k h1⟩
theorem qgg{n:Nat}(hA:AftOk n)(hP:PthOk n):AftOk (n+1):=by
 intro T x M M' L hM hT h
 match T,hT,h with
 | .leaf (op,p),hT,h=>
  (first|rw[qF]at h|rw[qL]at h|rw[qw]at h|rw[qI]at h)
  injection h with h;injection h with h1 h2;subst h1 h2
  refine⟨⟨List.prefix_refl _,hM,q1j _ _⟩,fun t i hx=>?_⟩
  have hi:i<t.length:=(List.getElem?_eq_some_iff.1 hx).1
  have hg:t.getD i 0=x:=by rw[List.getD_eq_getElem?_getD,hx];rfl
  rw[q2G];rcases q1X hT with⟨rfl,_⟩|⟨_,rfl|rfl|rfl|rfl⟩
  ·rw[show (semTr t (Tr.leaf (2,p))).1 i=(i<t.length/\(t.getD i 0).testBit p=true) from rfl,hg]
   simp[hi]
  ·simp[semTr,semT,leafV]
  ·simp[semTr,semT,leafV]
  ·simp[semTr,semT,leafV,hi]
  ·simp[semTr,semT,leafV];omega
 | .un (op,p) c,hT,h=>
  (first|rw[qF]at h|rw[qL]at h|rw[qw]at h|rw[qI]at h)
  dsimp only at h
  rcases kt_un hT with⟨rfl,⟨rfl,q,rfl⟩|⟨ho,hc⟩⟩
  ·rw[if_pos rfl]at h
   injection h with h;injection h with h1 h2;subst h1 h2
   refine⟨⟨List.prefix_refl _,hM,q1j _ _⟩,fun t i hx=>?_⟩
   have hl:(Tr.leaf (2,q)).WF:=hT.wf.2.2;have:=q3d hx (.leaf (2,q)) hl rfl rfl
   rw[q2G]
   show _↔¬(semTr t (.leaf (2,q))).1 i
   rw[<-this];simp
  ·rcases ho with rfl|rfl
   ·rw[if_neg (by decide),if_pos rfl]at h
    obtain⟨a,M1,ha,h⟩:=qe h;obtain⟨b,M2,hb,h⟩:=qe h;obtain⟨e1,s1⟩:=qV _ hM (q2F 4 (Or.inl rfl)) ha;obtain⟨e2,s2⟩:=qV c e1.good hc hb;obtain⟨e3,s3⟩:=q3f h e1 e2;refine⟨e3,fun t i hx=>?_⟩
    rw[s3,s1,s2,qi3];simp only[if_true]
    exact Iff.rfl
   ·rw[if_neg (by decide),if_neg (by decide)]at h
    obtain⟨a,M1,ha,h⟩:=qe h;obtain⟨b,M2,hb,h⟩:=qe h;obtain⟨e1,s1⟩:=qV _ hM (q2F 5 (Or.inr rfl)) ha;obtain⟨e2,s2⟩:=qV c e1.good hc hb;obtain⟨e3,s3⟩:=q3f h e1 e2;refine⟨e3,fun t i hx=>?_⟩
    have hi:i<t.length:=(List.getElem?_eq_some_iff.1 hx).1
    rw[s3,s1,s2,qi4];simp only[Bool.false_eq_true,if_false]
    show _↔(i+1<t.length->(semTr t c).1 (i+1))
    constructor
    ·rintro (h|h) hlt
     ·omega
     ·exact h
    ·intro h
     by_cases e:i+1=t.length
     ·exact Or.inl e
     ·exact Or.inr (h (by omega))
 | .bin (op,p) c d,hT,h=>
  (first|rw[qF]at h|rw[qL]at h|rw[qw]at h|rw[qI]at h)
  dsimp only at h
  obtain⟨rfl,ho⟩:=q1J hT
  split at h
  ·rename_i ho2
   obtain⟨a,M1,ha,h⟩:=qe h;obtain⟨b,M2,hb,h⟩:=qe h;obtain⟨kc,kd⟩:=qD hT (by rcases ho2 with h|h<;>simp[h])
   obtain⟨e1,s1⟩:=hA c x M M1 a hM kc ha;obtain⟨e2,s2⟩:=hA d x M1 M2 b e1.good kd hb;obtain⟨e3,s3⟩:=q3f h e1 e2;refine⟨e3,fun t i hx=>?_⟩
   rw[s3,s1 t i hx,s2 t i hx];rcases ho2 with rfl|rfl
   ·simp[semTr,semT,binV]
   ·simp[semTr,semT,binV]
  ·split at h
   ·rename_i ho1 ho2
    obtain⟨b,M1,hb,h⟩:=qe h;obtain⟨a,M2,ha,h⟩:=qe h;obtain⟨u,M3,hu,h⟩:=qe h;obtain⟨v,M4,hv,h⟩:=qe h;obtain⟨kc,kd⟩:=qD hT (by rcases ho2 with h|h<;>simp[h])
    obtain⟨e1,s1⟩:=hA d x M M1 b hM kd hb;obtain⟨e2,s2⟩:=hA c x M1 M2 a e1.good kc ha;obtain⟨e3,s3⟩:=qV _ e2.good hT hu;obtain⟨e4,s4⟩:=q3f hv e2 e3;obtain⟨e5,s5⟩:=q3f h e1 e4;refine⟨e5,fun t i hx=>?_⟩
    have hi:i<t.length:=(List.getElem?_eq_some_iff.1 hx).1
    rw[s5,s4,s1 t i hx,s2 t i hx,s3];rcases ho2 with rfl|rfl
    ·rw[qf2 hi];simp
    ·rw[qcR hi];simp
   ·rename_i ho1 ho2
    obtain⟨s,M1,hs,h⟩:=qe h;have ho3:op=17\/op=18:=by omega
    obtain⟨kc,kd⟩:=q1z hT ho3;obtain⟨e1,s1⟩:=hA d x M M1 s hM kd hs;obtain⟨e2,s2⟩:=hP (op==18) c d s x M1 M' L e1.good kc kd e1.bd h;refine⟨⟨e1.pre.trans e2.pre,e2.good,e2.bd⟩,fun t i hx=>?_⟩
    have hi:i<t.length:=(List.getElem?_eq_some_iff.1 hx).1
    have hf:=q4I t kc.wf;rw[s2 t i hx,s1 t i hx];unfold wayS;rcases ho3 with rfl|rfl
    ·simp only[show ((17:Nat)==18)=false from rfl,Bool.false_eq_true,if_false]
     exact qiC _ hf (by omega) _
    ·simp only[show ((18:Nat)==18)=true from rfl,if_true]
     exact qhu _ hf (by omega) _
theorem qgY{n:Nat}(hA:AftOk n)(hP:PthOk n):PthOk (n+1):=by
 intro box r f s x M M' L hM hr hf hs h
 match r,hr,h with
 | .leaf k,hr,h=>exact(q2D hr).elim
 | .un (op,p) c,hr,h=>
  (first|rw[q1h]at h|rw[qW]at h|rw[qQ]at h|rw[q1i]at h)
  dsimp only at h
  rcases kp_un hr with⟨rfl,⟨rfl,hc,hpl⟩|⟨rfl,hc⟩|⟨rfl,hc⟩⟩
  ·rw[if_pos rfl]at h
   have hnp:pathT c=false:=by
    have hf1:=(qG hr.wf).2.2.1;simp[fit1T]at hf1
    exact hf1.1
   split at h
   ·rename_i hv
    obtain⟨e1,s1⟩:=qV f hM hf h;refine⟨e1,fun t i hx=>?_⟩
    have hi:i<t.length:=(List.getElem?_eq_some_iff.1 hx).1
    have hg:=(q3d hx c hc hnp hpl).1 hv;rw[s1];unfold wayS wayB wayD;have hw:∀k,(semTr t (.un (19,0) c)).2 i k↔k=i+1:=fun k=>⟨fun h=>h.1,fun h=>⟨h,hi,hg⟩⟩
    cases box with
    |true=>
     simp only[if_true,hw]
     exact⟨fun h=>⟨fun e=>by omega,fun k _ e=>by rw[e];exact h⟩,fun h=>h.2 (i+1) (by omega) rfl⟩
    |false=>
     simp only[Bool.false_eq_true,if_false,hw]
     exact⟨fun h=>Or.inr ⟨i+1,by omega,rfl,h⟩,fun h=>by
      rcases h with⟨e,_⟩|⟨k,_,rfl,h⟩
      ·omega
      ·exact h⟩
   ·rename_i hv
    injection h with h;injection h with h1 h2;subst h1 h2
    refine⟨⟨List.prefix_refl _,hM,q1j _ _⟩,fun t i hx=>?_⟩
    have hg:¬(semTr t c).1 i:=fun h=>hv ((q3d hx c hc hnp hpl).2 h)
    rw[q2G];unfold wayS wayB wayD;have hw:∀k,¬(semTr t (.un (19,0) c)).2 i k:=fun k h=>hg h.2.2
    cases box with
    |true=>simp[hw]
    |false=>simp[hw]
  ·rw[if_neg (by decide),if_pos rfl]at h
   obtain⟨a,M1,ha,h⟩:=qe h
   have hk:KT (if box then (kTr c).2 else c):=by
    cases box
    ·exact hc
    ·exact q3m hc
   obtain⟨e1,s1⟩:=hA _ x M M1 a hM hk ha;have e:=(qr h).1;subst e;refine⟨⟨e1.pre,e1.good,q3Z h e1.bd (hs.mono (q1u e1.pre))⟩,fun t i hx=>?_⟩
   have hi:i<t.length:=(List.getElem?_eq_some_iff.1 hx).1
   rw[q6f h,s1 t i hx,<-q3n e1.pre hs];unfold wayS wayB wayD;have hw:∀k,(semTr t (.un (20,0) c)).2 i k↔k=i/\(semTr t c).1 i:=fun k=>Iff.rfl
   cases box with
   |true=>
    simp only[if_true,hw,Bool.not_true,Bool.false_eq_true,if_false]
    rw[(kMn t c hc.wf).f2 hc.np i (by omega)]
    constructor
    ·rintro (h1|h1)
     ·exact⟨fun h=>absurd h.2 h1,fun k hk h=>absurd h.2 h1⟩
     ·exact⟨fun _=>h1,fun k hk h=>by omega⟩
    ·rintro⟨h1,_⟩
     by_cases h2:(semTr t c).1 i
     ·exact Or.inr (h1 ⟨trivial,h2⟩)
     ·exact Or.inl h2
   |false=>
    simp only[Bool.false_eq_true,if_false,hw,Bool.not_false,if_true]
    constructor
    ·rintro⟨h1,h2⟩;exact Or.inl ⟨⟨trivial,h1⟩,h2⟩
    ·rintro (⟨⟨_,h1⟩,h2⟩|⟨k,hk,⟨e,_⟩,_⟩)
     ·exact⟨h1,h2⟩
     ·omega
  ·rw[if_neg (by decide),if_neg (by decide)]at h
   obtain⟨a,M1,ha,h⟩:=qe h;obtain⟨e1,s1⟩:=hP box c _ (yesM box) x M M1 a hM hc (q2E hr hf box) (q1j _ _) ha;have e:=(qr h).1;subst e;refine⟨⟨e1.pre,e1.good,q3Z h (hs.mono (q1u e1.pre)) e1.bd⟩,fun t i hx=>?_⟩
   have hi:i<t.length:=(List.getElem?_eq_some_iff.1 hx).1
   have hfw:=q4I t hc.wf;rw[q6f h,s1 t i hx,<-q3n e1.pre hs,q2G]
   cases box with
   |true=>
    simp only[if_true]
    show _↔wayB (fun i k=>∃m,stepsP (semTr t c).2 m i k) i _ _
    rw[qg9 hfw (by omega)]
    refine and_congr_right fun _=>?_
    exact Iff.rfl
   |false=>
    simp only[Bool.false_eq_true,if_false]
    show _↔wayD (fun i k=>∃m,stepsP (semTr t c).2 m i k) i _ _
    rw[qaK hfw (by omega)]
    refine or_congr_right ?_
    exact Iff.rfl
 | .bin (op,p) c d,hr,h=>
  (first|rw[q1h]at h|rw[qW]at h|rw[qQ]at h|rw[q1i]at h)
  dsimp only at h
  obtain⟨rfl,ho,kc,kd⟩:=q1y hr;rcases ho with rfl|rfl
  ·rw[if_pos rfl]at h
   obtain⟨a,M1,ha,h⟩:=qe h;obtain⟨b,M2,hb,h⟩:=qe h;obtain⟨e1,s1⟩:=hP box c f s x M M1 a hM kc hf hs ha;obtain⟨e2,s2⟩:=hP box d f s x M1 M2 b e1.good kd hf (hs.mono (q1u e1.pre)) hb;obtain⟨e3,s3⟩:=q3f h e1 e2;refine⟨e3,fun t i hx=>?_⟩
   rw[s3,s1 t i hx,s2 t i hx,<-q3n e1.pre hs];unfold wayS
   cases box with
   |true=>
    simp only[if_true]
    unfold wayB
    show _↔((semTr t c).2 i i\/(semTr t d).2 i i->_)/\∀k,i<k->(semTr t c).2 i k\/(semTr t d).2 i k->_
    constructor
    ·rintro⟨⟨h1,h2⟩,h3,h4⟩
     exact⟨fun h=>h.elim h1 h3,fun k hk h=>h.elim (h2 k hk) (h4 k hk)⟩
    ·rintro⟨h1,h2⟩
     exact⟨⟨fun h=>h1 (Or.inl h),fun k hk h=>h2 k hk (Or.inl h)⟩,fun h=>h1 (Or.inr h),fun k hk h=>h2 k hk (Or.inr h)⟩
   |false=>
    simp only[Bool.false_eq_true,if_false]
    unfold wayD
    show _↔(((semTr t c).2 i i\/(semTr t d).2 i i)/\_)\/∃k,i<k/\((semTr t c).2 i k\/(semTr t d).2 i k)/\_
    constructor
    ·rintro ((⟨h1,h2⟩|⟨k,h0,h1,h2⟩)|⟨h1,h2⟩|⟨k,h0,h1,h2⟩)
     ·exact Or.inl ⟨Or.inl h1,h2⟩
     ·exact Or.inr ⟨k,h0,Or.inl h1,h2⟩
     ·exact Or.inl ⟨Or.inr h1,h2⟩
     ·exact Or.inr ⟨k,h0,Or.inr h1,h2⟩
    ·rintro (⟨h1|h1,h2⟩|⟨k,h0,h1|h1,h2⟩)
     ·exact Or.inl (Or.inl ⟨h1,h2⟩)
     ·exact Or.inr (Or.inl ⟨h1,h2⟩)
     ·exact Or.inl (Or.inr ⟨k,h0,h1,h2⟩)
     ·exact Or.inr (Or.inr ⟨k,h0,h1,h2⟩)
  ·rw[if_neg (by decide)]at h
   obtain⟨a,M1,ha,h⟩:=qe h;obtain⟨e1,s1⟩:=hP box d f s x M M1 a hM kd hf hs ha;obtain⟨e2,s2⟩:=hP box c _ a x M1 M' L e1.good kc (q2E kd hf box) e1.bd h;refine⟨⟨e1.pre.trans e2.pre,e2.good,e2.bd⟩,fun t i hx=>?_⟩
   have hi:i<t.length:=(List.getElem?_eq_some_iff.1 hx).1
   rw[s2 t i hx,s1 t i hx];unfold wayS
   cases box with
   |true=>
    simp only[if_true]
    show _↔wayB (fun i k=>∃j,(semTr t c).2 i j/\(semTr t d).2 j k) i _ _
    rw[qht (q4I t kc.wf) (q4I t kd.wf) (by omega)]
    exact Iff.rfl
   |false=>
    simp only[Bool.false_eq_true,if_false]
    show _↔wayD (fun i k=>∃j,(semTr t c).2 i j/\(semTr t d).2 j k) i _ _
    rw[qd4 (q4I t kc.wf) (q4I t kd.wf) (by omega)]
    exact Iff.rfl
theorem q2m:∀n,AftOk n/\PthOk n
 | 0=>⟨fun T x M M' L _ _ h=>(by (first|rw[qF]at h|rw[qL]at h|rw[qw]at h|rw[qI]at h);cases h),fun box r f s x M M' L _ _ _ _ h=>(by (first|rw[q1h]at h|rw[qW]at h|rw[qQ]at h|rw[q1i]at h);cases h)⟩
 |n+1=>⟨qgg (q2m n).1 (q2m n).2,qgY (q2m n).1 (q2m n).2⟩
def itemsL (s:Nat):List Nat:=(List.range 64).filter fun i=>s.testBit i
theorem q1C{s i:Nat}:i∈itemsL s↔i<64/\s.testBit i=true:=by
 unfold itemsL;rw[List.mem_filter,List.mem_range]
theorem qal(s:Nat):(itemsL s).Pairwise (· < ·):=List.pairwise_lt_range.filter _
theorem qdF:itemsL 0=[]:=by
 unfold itemsL;rw[List.filter_eq_nil_iff];intro i _;rw[Nat.zero_testBit];simp
theorem q8m(s:Nat):(itemsL s).length<=64:=by
 unfold itemsL;exact Nat.le_trans (List.length_filter_le _ _) (by simp)
theorem qcG(x:Nat)(h0:x≠0)(h:x<2 ^ 64):Lib.ctz 64 x<64/\x.testBit (Lib.ctz 64 x)=true/\∀i,i<Lib.ctz 64 x->x.testBit i=false:=by
 obtain⟨m,hm,hk⟩:=Lib.ctzFrom_spec 64 x (by omega) h
 have e:Lib.ctz 64 x=Lib.ctzFrom 64 x:=by simp[Lib.ctz,h0]
 rw[e];generalize Lib.ctzFrom 64 x=k at *;refine⟨hk,?_,fun i hi=>?_⟩
 ·rw[hm,Nat.mul_comm,Nat.testBit_mul_two_pow]
  simp[Nat.testBit_zero]
 ·rw[hm,Nat.mul_comm,Nat.testBit_mul_two_pow]
  simp;omega
def dropB (x k:Nat):Nat:=x &&& (18446744073709551615-2 ^ k)
theorem q60{x k i:Nat}(hk:k<64):(dropB x k).testBit i=(x.testBit i&&(decide (i<64) && !decide (k=i))):=by
 unfold dropB;have hb:=Nat.testBit_two_pow_sub_succ (n:=64) (x:=2 ^ k) (Nat.pow_lt_pow_right (by decide) hk) i
 rw[show 2 ^ 64-(2 ^ k+1)=18446744073709551615-2 ^ k by omega]at hb
 rw[Nat.testBit_and,hb,Nat.testBit_two_pow]
theorem qco(x k:Nat):dropB x k<=x:=Nat.and_le_left
theorem qgk{x k:Nat}(hk:k<64)(h:x.testBit k=true):dropB x k<x:=by
 refine Nat.lt_of_le_of_ne (qco x k) fun e=>?_
 have:=q60 (x:=x) (k:=k) (i:=k) hk
 rw[e,h]at this;simp at this
theorem qeD{x:Nat}(h0:x≠0)(h:x<2 ^ 64):itemsL x=Lib.ctz 64 x::itemsL (dropB x (Lib.ctz 64 x)):=by
 obtain⟨hk,hb,hl⟩:=qcG x h0 h;generalize Lib.ctz 64 x=k at *;refine q3y (qal x) (List.pairwise_cons.2 ⟨fun i hi=>?_,qal _⟩) fun i=>?_
 ·obtain⟨h1,h2⟩:=q1C.1 hi
  rw[q60 hk]at h2;simp at h2
  have h3:¬i<k:=fun hlt=>by rw[hl i hlt]at h2;simp at h2
  omega
 ·rw[List.mem_cons,q1C,q1C,q60 hk]
  constructor
  ·rintro⟨h1,h2⟩
   by_cases e:i=k
   ·exact Or.inl e
   ·refine Or.inr ⟨h1,?_⟩
    rw[h2,decide_eq_true h1,decide_eq_false (by omega)];rfl
  ·rintro (rfl|⟨h1,h2⟩)
   ·exact⟨hk,hb⟩
   ·exact⟨h1,by rw[Bool.and_eq_true]at h2;exact h2.1⟩
def growT (f:List Tk):Tr:=(gS f []).getLast?.getD (.leaf (0,0))
theorem q3k{T:Tr}(h:T.WF):growT T.flat=T:=by
 unfold growT;rw[q38 T h []];rfl
def setM (n x:Nat):List Nat->List Nat->Mt->Rt
 | [],m,M=>some (m,M)
 |k::ks,m,M=>bindM (aftM n (growT (M.getD k [])) x M) fun a M1=>bindM (twoM true m a M1) fun b M2=>setM n x ks b M2
def stepM (n x:Nat):List Nat->List Nat->Mt->Rt
 | [],out,M=>some (out,M)
 |s::ss,out,M=>bindM (setM n x (itemsL s) [0] M) fun m M1=>bindM (twoM false out m M1) fun o M2=>stepM n x ss o M2
theorem q8z(n x:Nat):∀(ks m:List Nat) (M M':Mt) (L:List Nat),GoodM M->BdL m M.length->(∀k∈ks,k<M.length)->setM n x ks m M=some (L,M')->Ext M L M'/\∀(t:List Nat) (i:Nat),t[i]? =some x->(LsP L (SatM t M' (i+1))↔LsP m (SatM t M (i+1))/\∀k∈ks,SatM t M i k)
 | [],m,M,M',L,hM,hm,_,h=>by
  unfold setM at h;injection h with h;injection h with h1 h2;subst h1 h2
  exact⟨⟨List.prefix_refl _,hM,hm⟩,fun t i _=>by simp⟩
 |k::ks,m,M,M',L,hM,hm,hk,h=>by
  unfold setM at h;obtain⟨a,M1,ha,h2⟩:=qe h;obtain⟨b,M2,hb,h3⟩:=qe h2;have hkl:=hk k (by simp)
  have hget:M[k]? =some (M.getD k []):=by rw[List.getD_eq_getElem?_getD,List.getElem?_eq_getElem hkl];rfl
  obtain⟨T,hT,hf⟩:=hM.ker (M.getD k []) (List.mem_of_getElem? hget);rw[hf,q3k hT.wf]at ha;rw[hf]at hget;obtain⟨e1,s1⟩:=(q2m n).1 T x M M1 a hM hT ha;have e:=(qr hb).1;subst e;have hbd:=q3Z hb (hm.mono (q1u e1.pre)) e1.bd;obtain⟨e2,s2⟩:=q8z n x ks b _ M' L e1.good hbd (fun j hj=>Nat.lt_of_lt_of_le (hk j (by simp[hj])) (q1u e1.pre)) h3
  refine⟨⟨e1.pre.trans e2.pre,e2.good,e2.bd⟩,fun t i hx=>?_⟩
  rw[s2 t i hx,q6f hb,s1 t i hx,<-q3n e1.pre hm];simp only[if_true]
  have hs:∀j∈ks,(SatM t M2 i j↔SatM t M i j):=fun j hj=>(qe8 e1.pre (hk j (by simp[hj]))).symm
  rw[<-q6c (t:=t) (i:=i) hT hget]
  constructor
  ·rintro⟨⟨h1,h2⟩,h3⟩
   refine⟨h1,fun j hj=>?_⟩
   rcases List.mem_cons.1 hj with rfl|hj
   ·exact h2
   ·exact(hs j hj).1 (h3 j hj)
  ·rintro⟨h1,h2⟩
   exact⟨⟨h1,h2 k (by simp)⟩,fun j hj=>(hs j hj).2 (h2 j (by simp[hj]))⟩
theorem qam{s m:Nat}(hm:m<=64)(h:∀k,s.testBit k=true->k<m)(P:Nat->Prop):(∀k∈itemsL s,P k)↔∀k,s.testBit k=true->P k:=by
 constructor
 ·intro h1 k hk
  exact h1 k (q1C.2 ⟨Nat.lt_of_lt_of_le (h k hk) hm,hk⟩)
 ·intro h1 k hk
  exact h1 k (q1C.1 hk).2
theorem qcW(n x:Nat):∀(l out:List Nat) (M M':Mt) (L:List Nat),GoodM M->BdL out M.length->BdL l M.length->stepM n x l out M=some (L,M')->Ext M L M'/\∀(t:List Nat) (i:Nat),t[i]? =some x->(LsP L (SatM t M' (i+1))↔LsP out (SatM t M (i+1))\/LsP l (SatM t M i))
 | [],out,M,M',L,hM,ho,_,h=>by
  unfold stepM at h;injection h with h;injection h with h1 h2;subst h1 h2
  exact⟨⟨List.prefix_refl _,hM,ho⟩,fun t i _=>⟨Or.inl,fun h=>h.elim id fun⟨s,hs,_⟩=>by cases hs⟩⟩
 |s::ss,out,M,M',L,hM,ho,hl,h=>by
  unfold stepM at h;obtain⟨m,M1,hm,h2⟩:=qe h;obtain⟨o,M2,hq,h3⟩:=qe h2;have hs0:=hl s (by simp)
  obtain⟨e1,s1⟩:=q8z n x (itemsL s) [0] M M1 m hM (q1j true _) (fun k hk=>hs0 k (q1C.1 hk).2) hm
  have e:=(qr hq).1;subst e;have hbd:=q3Z hq (ho.mono (q1u e1.pre)) e1.bd;obtain⟨e2,s2⟩:=qcW n x ss o _ M' L e1.good hbd (fun z hz k hk=>Nat.lt_of_lt_of_le (hl z (by simp[hz]) k hk) (q1u e1.pre)) h3
  refine⟨⟨e1.pre.trans e2.pre,e2.good,e2.bd⟩,fun t i hx=>?_⟩
  have hy:LsP [0] (SatM t M (i+1)):=(q2G true _).2 rfl;rw[s2 t i hx,q6f hq,s1 t i hx,<-q3n e1.pre ho,<-q3n e1.pre (fun z hz=>hl z (by simp[hz])),qam hM.few hs0]
  simp only[Bool.false_eq_true,if_false]
  constructor
  ·rintro ((h1|⟨_,h1⟩)|⟨z,hz,h1⟩)
   ·exact Or.inl h1
   ·exact Or.inr ⟨s,by simp,h1⟩
   ·exact Or.inr ⟨z,by simp[hz],h1⟩
  ·rintro (h1|⟨z,hz,h1⟩)
   ·exact Or.inl (Or.inl h1)
   ·rcases List.mem_cons.1 hz with rfl|hz
    ·exact Or.inl (Or.inr ⟨hy,h1⟩)
    ·exact Or.inr ⟨z,hz,h1⟩
theorem q4P{n x:Nat}{l:List Nat}{M M':Mt}{L:List Nat}(hM:GoodM M)(hl:BdL l M.length)(h:stepM n x l [] M=some (L,M')):Ext M L M'/\∀(t:List Nat) (i:Nat),t[i]? =some x->(LsP L (SatM t M' (i+1))↔LsP l (SatM t M i)):=by
 obtain⟨e,s⟩:=qcW n x l [] M M' L hM (fun z hz=>by cases hz) hl h
 refine⟨e,fun t i hx=>?_⟩
 rw[s t i hx];exact⟨fun h=>h.elim (fun⟨z,hz,_⟩=>by cases hz) id,Or.inr⟩
theorem q5e{n x:Nat}:∀{l out:List Nat} {M M':Mt} {L:List Nat},out=leastL out->stepM n x l out M=some (L,M')->L=leastL L
 | [],out,M,M',L,ho,h=>by
  unfold stepM at h;injection h with h;injection h with h1 h2;subst h1 h2
  exact ho
 |s::ss,out,M,M',L,_,h=>by
  unfold stepM at h;obtain⟨m,M1,_,h⟩:=qe h;obtain⟨o,M2,hq,h⟩:=qe h;refine q5e ?_ h
  rw[(qr hq).2];simp only[Bool.false_eq_true,if_false]
  exact(q67 _).symm
theorem qip(t:List Nat)(M:Mt)(k:Nat):SatM t M t.length k↔SatM [] M 0 k:=by
 unfold SatM
 constructor
 ·rintro⟨T,hT,h1,h2⟩
  refine⟨T,hT,h1,?_⟩
  have:=(q4H t t.length (Nat.le_refl _) T hT.wf 0 (by omega)).1
  rw[List.drop_length,Nat.zero_add]at this;exact this.2 h2
 ·rintro⟨T,hT,h1,h2⟩
  refine⟨T,hT,h1,?_⟩
  have:=(q4H t t.length (Nat.le_refl _) T hT.wf 0 (by omega)).1
  rw[List.drop_length,Nat.zero_add]at this;exact this.1 h2
def FinP (M:Mt) (l:List Nat):Prop:=LsP l (SatM [] M 0)
theorem qgq(t:List Nat)(M:Mt)(l:List Nat):LsP l (SatM t M t.length)↔FinP M l:=qar fun _ _ k _=>qip t M k
structure At (t:List Nat) (T:Tr) (i:Nat) (l:List Nat) (M:Mt):Prop where
 good:GoodM M
 bd:BdL l M.length
 says:LsP l (SatM t M i)↔(semTr t T).1 0
theorem q54:GoodM []:=⟨fun f hf=>(by cases hf),by simp⟩
theorem At.start{t:List Nat}{T:Tr}{l:List Nat}{M:Mt}(hT:KT T)(h:needM T []=some (l,M)):At t T 0 l M:=by
 obtain⟨e,s⟩:=qV T q54 hT h;exact⟨e.good,e.bd,s t 0⟩
theorem At.step{t:List Nat}{T:Tr}{i n x:Nat}{l l':List Nat}{M M':Mt}(h:At t T i l M)(hx:t[i]? =some x)(hs:stepM n x l [] M=some (l',M')):At t T (i+1) l' M':=by
 obtain⟨e,s⟩:=q4P h.good h.bd hs;exact⟨e.good,e.bd,(s t i hx).trans h.says⟩
theorem At.fin{t:List Nat}{T:Tr}{l:List Nat}{M:Mt}(h:At t T t.length l M):FinP M l↔(semTr t T).1 0:=(qgq t M l).symm.trans h.says
def Pr (X:Nat->Prop) (f:List Tk):Prop:=∀p,(2,p)∈f->X p
def Like (X:Nat->Prop) (x y:Nat):Prop:=∀p,X p->x.testBit p=y.testBit p
theorem pr_un{X:Nat->Prop}{k:Tk}{c:Tr}(h:Pr X (Tr.un k c).flat):Pr X c.flat:=fun p hp=>h p (by simp[Tr.flat,hp])
theorem qE{X:Nat->Prop}{k:Tk}{c d:Tr}(h:Pr X (Tr.bin k c d).flat):Pr X c.flat/\Pr X d.flat:=⟨fun p hp=>h p (by simp[Tr.flat,hp]),fun p hp=>h p (by simp[Tr.flat,hp])⟩
theorem qO{X:Nat->Prop}{a b:List Tk}:Pr X (a++b)↔Pr X a/\Pr X b :=
 ⟨fun h=>⟨fun p hp=>h p (by simp[hp]),fun p hp=>h p (by simp[hp])⟩,fun h p hp=>(List.mem_append.1 hp).elim (h.1 p) (h.2 p)⟩
theorem qP{X:Nat->Prop}{op p:Nat}(h:op≠2):Pr X [(op,p)]:=fun q hq=>by
 simp at hq
 exact absurd hq.1.symm h
theorem qe5{X:Nat->Prop}{r f:Tr}(box:Bool)(hr:Pr X r.flat)(hf:Pr X f.flat):Pr X (Tr.bin (modeO box,0) r f).flat :=
 qO.2 ⟨qO.2 ⟨hr,hf⟩,qP (by cases box<;>decide)⟩
theorem pr_k{X:Nat->Prop}:∀T:Tr,T.WF->Pr X T.flat->Pr X (kTr T).1.flat/\Pr X (kTr T).2.flat
 | .leaf (op,p),hw,h=>by
  rcases qR hw with⟨rfl,_⟩|⟨rfl,rfl|rfl|rfl|rfl|rfl⟩
  ·exact⟨h,qO.2 ⟨h,qP (by decide)⟩⟩
  all_goals refine⟨fun q hq=>?_,fun q hq=>?_⟩<;>simp[kTr,Tr.flat]at hq
 | .un (op,p) c,hw,h=>by
  obtain⟨rfl,hc,hf,ho⟩:=qG hw;obtain⟨i1,i2⟩:=pr_k c hc (pr_un h);rcases ho with rfl|rfl|rfl|rfl|rfl|rfl|rfl|rfl
  ·exact⟨i2,i1⟩
  ·exact⟨qO.2 ⟨i1,qP (by decide)⟩,qO.2 ⟨i2,qP (by decide)⟩⟩
  ·exact⟨qO.2 ⟨i1,qP (by decide)⟩,qO.2 ⟨i2,qP (by decide)⟩⟩
  ·exact⟨qO.2 ⟨qO.2 ⟨qP (by decide),i1⟩,qP (by decide)⟩,qO.2 ⟨qO.2 ⟨qP (by decide),i2⟩,qP (by decide)⟩⟩
  ·exact⟨qO.2 ⟨qO.2 ⟨qP (by decide),i1⟩,qP (by decide)⟩,qO.2 ⟨qO.2 ⟨qP (by decide),i2⟩,qP (by decide)⟩⟩
  ·exact⟨qO.2 ⟨i1,qP (by decide)⟩,qO.2 ⟨i1,qP (by decide)⟩⟩
  ·exact⟨qO.2 ⟨i1,qP (by decide)⟩,qO.2 ⟨i1,qP (by decide)⟩⟩
  ·exact⟨qO.2 ⟨i1,qP (by decide)⟩,qO.2 ⟨i1,qP (by decide)⟩⟩
 | .bin (op,p) c d,hw,h=>by
  obtain⟨rfl,hc,hd,hf,ho⟩:=qz hw;obtain⟨i1,i2⟩:=pr_k c hc (qE h).1;obtain⟨j1,j2⟩:=pr_k d hd (qE h).2;have two:∀{a b:Tr} (o:Nat),o≠2->Pr X a.flat->Pr X b.flat->Pr X (Tr.bin (o,0) a b).flat:=fun o ho ha hb=>qO.2 ⟨qO.2 ⟨ha,hb⟩,qP ho⟩
  rcases ho with rfl|rfl|rfl|rfl|rfl|rfl|rfl|rfl|rfl|rfl
  ·exact⟨two 11 (by decide) i1 j1,two 12 (by decide) i2 j2⟩
  ·exact⟨two 12 (by decide) i1 j1,two 11 (by decide) i2 j2⟩
  ·exact⟨two 12 (by decide) i2 j1,two 11 (by decide) i1 j2⟩
  ·exact⟨two 12 (by decide) (two 11 (by decide) i1 j1) (two 11 (by decide) i2 j2),two 12 (by decide) (two 11 (by decide) i1 j2) (two 11 (by decide) i2 j1)⟩
  ·exact⟨two 15 (by decide) i1 j1,two 16 (by decide) i2 j2⟩
  ·exact⟨two 16 (by decide) i1 j1,two 15 (by decide) i2 j2⟩
  ·exact⟨two 17 (by decide) i1 j1,two 18 (by decide) i1 j2⟩
  ·exact⟨two 18 (by decide) i1 j1,two 17 (by decide) i1 j2⟩
  ·exact⟨two 21 (by decide) i1 j1,two 21 (by decide) i1 j1⟩
  ·exact⟨two 22 (by decide) i1 j1,two 22 (by decide) i1 j1⟩
theorem q4J{X:Nat->Prop}{x y:Nat}(hx:Like X x y):∀T:Tr,T.WF->pathT T=false->plainT T=true->Pr X T.flat->plV x T=plV y T
 | .leaf (op,p),hw,_,hp,h=>by
  rw[q8u]at hp;rcases qR hw with⟨rfl,_⟩|⟨rfl,rfl|rfl|rfl|rfl|rfl⟩
  ·exact hx p (h p (by simp[Tr.flat]))
  ·rfl
  ·rfl
  ·simp[plainB]at hp
  ·simp[plainB]at hp
  ·simp[plainB]at hp
 | .un (op,p) c,hw,hq,hp,h=>by
  obtain⟨rfl,hc,hf,ho⟩:=qG hw;rw[qY]at hp;simp only[Bool.and_eq_true]at hp
  have hn:pathT c=false:=by
   rcases ho with rfl|rfl|rfl|rfl|rfl|rfl|rfl|rfl
   ·simpa [fit1T] using hf
   ·simpa [fit1T] using hf
   ·simpa [fit1T] using hf
   ·simpa [fit1T] using hf
   ·simpa [fit1T] using hf
   ·cases hq
   ·cases hq
   ·cases hq
  unfold plV;rw[q4J hx c hc hn hp.2 (pr_un h)]
 | .bin (op,p) c d,hw,hq,hp,h=>by
  obtain⟨rfl,hc,hd,hf,ho⟩:=qz hw;rw[qm]at hp;simp only[Bool.and_eq_true]at hp
  have hn:pathT c=false/\pathT d=false:=by
   rcases ho with rfl|rfl|rfl|rfl|rfl|rfl|rfl|rfl|rfl|rfl
   ·simpa [fit2T] using hf
   ·simpa [fit2T] using hf
   ·simpa [fit2T] using hf
   ·simpa [fit2T] using hf
   ·simp[plainB]at hp
   ·simp[plainB]at hp
   ·simp[plainB]at hp
   ·simp[plainB]at hp
   ·cases hq
   ·cases hq
  unfold plV;rw[q4J hx c hc hn.1 hp.2.1 (qE h).1,q4J hx d hd hn.2 hp.2.2 (qE h).2]
theorem qaq{X:Nat->Prop}{x y:Nat}(hx:Like X x y):∀n,(∀T M,KT T->Pr X T.flat->aftM n T x M=aftM n T y M)/\(∀box r s f M,KP r->Pr X r.flat->pthM n box r s f x M=pthM n box r s f y M)
 | 0=>⟨fun _ _ _ _=>rfl,fun _ _ _ _ _ _ _=>rfl⟩
 |n+1=>by
  obtain⟨ih,jh⟩:=qaq hx n;refine⟨fun T M hT h=>?_,fun box r s f M hr h=>?_⟩
  ·match T,hT,h with
   | .leaf (op,p),hT,h=>
    (first|rw[qF,qF]|rw[qL,qL]|rw[qw,qw]|rw[qI,qI])
    dsimp only
    by_cases e:op=2
    ·subst e
     rw[hx p (h p (by simp[Tr.flat]))]
    ·rw[if_neg e,if_neg e]
   | .un (op,p) c,hT,h=>
    (first|rw[qF,qF]|rw[qL,qL]|rw[qw,qw]|rw[qI,qI])
    dsimp only
    rcases kt_un hT with⟨rfl,⟨rfl,q,rfl⟩|⟨ho,hc⟩⟩
    ·rw[if_pos rfl,if_pos rfl,q4J hx _ hT.wf.2.2 rfl rfl (pr_un h)]
    ·rcases ho with rfl|rfl<;>rfl
   | .bin (op,p) c d,hT,h=>
    (first|rw[qF,qF]|rw[qL,qL]|rw[qw,qw]|rw[qI,qI])
    dsimp only
    obtain⟨rfl,ho⟩:=q1J hT
    split
    ·rename_i ho2
     obtain⟨kc,kd⟩:=qD hT (by rcases ho2 with h|h<;>simp[h])
     rw[ih c M kc (qE h).1];exact congrArg _ (funext fun a=>funext fun M1=>by rw[ih d M1 kd (qE h).2])
    ·split
     ·rename_i ho1 ho2
      obtain⟨kc,kd⟩:=qD hT (by rcases ho2 with h|h<;>simp[h])
      rw[ih d M kd (qE h).2];exact congrArg _ (funext fun a=>funext fun M1=>by rw[ih c M1 kc (qE h).1])
     ·obtain⟨kc,kd⟩:=q1z hT (by omega)
      rw[ih d M kd (qE h).2];exact congrArg _ (funext fun a=>funext fun M1=>by rw[jh _ c a d M1 kc (qE h).1])
  ·match r,hr,h with
   | .leaf k,hr,h=>exact(q2D hr).elim
   | .un (op,p) c,hr,h=>
    (first|rw[q1h,q1h]|rw[qW,qW]|rw[qQ,qQ]|rw[q1i,q1i])
    dsimp only
    rcases kp_un hr with⟨rfl,⟨rfl,hc,hpl⟩|⟨rfl,hc⟩|⟨rfl,hc⟩⟩
    ·have hnp:pathT c=false:=by
      have hf1:=(qG hr.wf).2.2.1;simp[fit1T]at hf1
      exact hf1.1
     rw[if_pos rfl,if_pos rfl,q4J hx c hc hnp hpl (pr_un h)]
    ·show bindM (aftM n (if box then (kTr c).2 else c) x M) _=bindM (aftM n (if box then (kTr c).2 else c) y M) _
     rw[ih (if box then (kTr c).2 else c) M (by
      cases box
      ·exact hc
      ·exact q3m hc) (by
      cases box
      ·exact pr_un h
      ·exact(pr_k c hc.wf (pr_un h)).2)]
    ·rw[if_neg (by decide),if_neg (by decide),if_neg (by decide),if_neg (by decide),jh box c _ _ M hc (pr_un h)]
   | .bin (op,p) c d,hr,h=>
    (first|rw[q1h,q1h]|rw[qW,qW]|rw[qQ,qQ]|rw[q1i,q1i])
    dsimp only
    obtain⟨rfl,ho,kc,kd⟩:=q1y hr;rcases ho with rfl|rfl
    ·rw[if_pos rfl,if_pos rfl,jh box c s f M kc (qE h).1]
     exact congrArg _ (funext fun a=>funext fun M1=>by rw[jh box d s f M1 kd (qE h).2])
    ·rw[if_neg (by decide),if_neg (by decide),jh box d s f M kd (qE h).2]
     exact congrArg _ (funext fun a=>funext fun M1=>by rw[jh box c a _ M1 kc (qE h).1])
def PrM (X:Nat->Prop) (M:Mt):Prop:=∀f∈M,Pr X f
theorem qa2{X:Nat->Prop}{f:List Tk}{M M':Mt}{L:List Nat}(hf:Pr X f)(hM:PrM X M)(h:meetM f M=some (L,M')):PrM X M':=by
 unfold meetM at h
 split at h
 ·injection h with h;injection h with h1 h2;subst h1 h2;exact hM
 ·split at h
  ·injection h with h;injection h with h1 h2;subst h1 h2
   intro g hg;rcases List.mem_append.1 hg with hg|hg
   ·exact hM g hg
   ·rw[List.mem_singleton.1 hg];exact hf
  ·cases h
theorem q2o{X:Nat->Prop}:∀(T:Tr) {M M':Mt} {L:List Nat},Pr X T.flat->PrM X M->needM T M=some (L,M')->PrM X M'
 | .leaf (op,p),M,M',L,hT,hM,h=>by
  unfold needM at h;dsimp only at h
  split at h
  ·injection h with h;injection h with h1 h2;subst h1 h2;exact hM
  ·split at h
   ·injection h with h;injection h with h1 h2;subst h1 h2;exact hM
   ·exact qa2 hT hM h
 | .un k c,M,M',L,hT,hM,h=>qa2 hT hM h
 | .bin (op,p) c d,M,M',L,hT,hM,h=>by
  unfold needM at h;dsimp only at h
  split at h
  ·obtain⟨a,M1,ha,h2⟩:=qe h
   obtain⟨b,M2,hb,h3⟩:=qe h2;rw[(qr h3).1];exact q2o d (qE hT).2 (q2o c (qE hT).1 hM ha) hb
  ·exact qa2 hT hM h
theorem qa1{X:Nat->Prop}{x:Nat}:∀n,(∀T M M' L,KT T->Pr X T.flat->PrM X M->aftM n T x M=some (L,M')->PrM X M')/\(∀box r s f M M' L,KP r->Pr X r.flat->Pr X f.flat->PrM X M->pthM n box r s f x M=some (L,M')->PrM X M')
 | 0=>⟨fun T M M' L _ _ _ h=>(by (first|rw[qF]at h|rw[qL]at h|rw[qw]at h|rw[qI]at h);cases h),fun box r s f M M' L _ _ _ _ h=>(by (first|rw[q1h]at h|rw[qW]at h|rw[qQ]at h|rw[q1i]at h);cases h)⟩
 |n+1=>by
  obtain⟨ih,jh⟩:=qa1 (X:=X) (x:=x) n;refine⟨fun T M M' L hT hp hM h=>?_,fun box r s f M M' L hr hp hf hM h=>?_⟩
  ·match T,hT,hp,h with
   | .leaf (op,p),hT,hp,h=>
    (first|rw[qF]at h|rw[qL]at h|rw[qw]at h|rw[qI]at h)
    injection h with h;injection h with h1 h2;subst h1 h2;exact hM
   | .un (op,p) c,hT,hp,h=>
    (first|rw[qF]at h|rw[qL]at h|rw[qw]at h|rw[qI]at h)
    dsimp only at h
    split at h
    ·injection h with h;injection h with h1 h2;subst h1 h2;exact hM
    ·split at h
     ·obtain⟨a,M1,ha,h2⟩:=qe h
      obtain⟨b,M2,hb,h3⟩:=qe h2;rw[(qr h3).1];exact q2o c (pr_un hp) (q2o _ (qP (by decide)) hM ha) hb
     ·obtain⟨a,M1,ha,h2⟩:=qe h
      obtain⟨b,M2,hb,h3⟩:=qe h2;rw[(qr h3).1];exact q2o c (pr_un hp) (q2o _ (qP (by decide)) hM ha) hb
   | .bin (op,p) c d,hT,hp,h=>
    (first|rw[qF]at h|rw[qL]at h|rw[qw]at h|rw[qI]at h)
    dsimp only at h
    obtain⟨rfl,ho⟩:=q1J hT
    split at h
    ·rename_i ho2
     obtain⟨kc,kd⟩:=qD hT (by rcases ho2 with h|h<;>simp[h])
     obtain⟨a,M1,ha,h2⟩:=qe h;obtain⟨b,M2,hb,h3⟩:=qe h2;rw[(qr h3).1];exact ih d M1 M2 b kd (qE hp).2 (ih c M M1 a kc (qE hp).1 hM ha) hb
    ·split at h
     ·rename_i ho1 ho2
      obtain⟨kc,kd⟩:=qD hT (by rcases ho2 with h|h<;>simp[h])
      obtain⟨b,M1,hb,h2⟩:=qe h;obtain⟨a,M2,ha,h3⟩:=qe h2;obtain⟨u,M3,hu,h4⟩:=qe h3;obtain⟨v,M4,hv,h5⟩:=qe h4;rw[(qr h5).1,(qr hv).1];exact q2o _ hp (ih c M1 M2 a kc (qE hp).1 (ih d M M1 b kd (qE hp).2 hM hb) ha) hu
     ·obtain⟨kc,kd⟩:=q1z hT (by omega)
      obtain⟨s,M1,hs,h2⟩:=qe h;exact jh _ c s d M1 M' L kc (qE hp).1 (qE hp).2 (ih d M M1 s kd (qE hp).2 hM hs) h2
  ·match r,hr,hp,h with
   | .leaf k,hr,hp,h=>exact(q2D hr).elim
   | .un (op,p) c,hr,hp,h=>
    (first|rw[q1h]at h|rw[qW]at h|rw[qQ]at h|rw[q1i]at h)
    dsimp only at h
    rcases kp_un hr with⟨rfl,⟨rfl,hc,hpl⟩|⟨rfl,hc⟩|⟨rfl,hc⟩⟩
    ·rw[if_pos rfl]at h
     split at h
     ·exact q2o f hf hM h
     ·injection h with h;injection h with h1 h2;subst h1 h2;exact hM
    ·rw[if_neg (by decide),if_pos rfl]at h
     obtain⟨a,M1,ha,h2⟩:=qe h;rw[(qr h2).1];refine ih _ M M1 a ?_ ?_ hM ha
     ·cases box
      ·exact hc
      ·exact q3m hc
     ·cases box
      ·exact pr_un hp
      ·exact(pr_k c hc.wf (pr_un hp)).2
    ·rw[if_neg (by decide),if_neg (by decide)]at h
     obtain⟨a,M1,ha,h2⟩:=qe h;rw[(qr h2).1];exact jh box c _ _ M M1 a hc (pr_un hp) (qe5 box hp hf) hM ha
   | .bin (op,p) c d,hr,hp,h=>
    (first|rw[q1h]at h|rw[qW]at h|rw[qQ]at h|rw[q1i]at h)
    dsimp only at h
    obtain⟨rfl,ho,kc,kd⟩:=q1y hr;rcases ho with rfl|rfl
    ·rw[if_pos rfl]at h
     obtain⟨a,M1,ha,h2⟩:=qe h;obtain⟨b,M2,hb,h3⟩:=qe h2;rw[(qr h3).1];exact jh box d s f M1 M2 b kd (qE hp).2 hf (jh box c s f M M1 a kc (qE hp).1 hf hM ha) hb
    ·rw[if_neg (by decide)]at h
     obtain⟨a,M1,ha,h2⟩:=qe h;exact jh box c a _ M1 M' L kc (qE hp).1 (qe5 box (qE hp).2 hf) (jh box d s f M M1 a kd (qE hp).2 hf hM ha) h2
def Again (g:Mt->Rt):Prop:=∀M L M1,g M=some (L,M1)->M <+: M1/\∀M2,M1 <+: M2->g M2=some (L,M2)
theorem q2T(l:List Nat):Again fun M=>some (l,M):=fun M L M1 h=>by
 injection h with h;injection h with h1 h2;subst h1 h2
 exact⟨List.prefix_refl _,fun M2 _=>rfl⟩
theorem q1o(and:Bool)(a b:List Nat):Again fun M=>twoM and a b M:=fun M L M1 h=>by
 have e:=(qr h).1;subst e;refine⟨List.prefix_refl _,fun M2 _=>?_⟩
 show twoM and a b M2=_
 unfold twoM at h ⊢
 cases hq:(if and then andM a b else orM a b) with
 |none=>rw[hq]at h;cases h
 |some q=>
  rw[hq]at h;injection h with h;injection h with h1 h2
  rw[<-h1];rfl
theorem qx{g:Mt->Rt}{k:List Nat->Mt->Rt}(hg:Again g)(hk:∀l,Again (k l)):Again fun M=>bindM (g M) k:=fun M L M1 h=>by
 obtain⟨a,Ma,ha,h2⟩:=qe h;obtain⟨p1,q1⟩:=hg M a Ma ha;obtain⟨p2,q2⟩:=hk a Ma L M1 h2;refine⟨p1.trans p2,fun M2 h3=>?_⟩
 show bindM (g M2) k=_
 rw[q1 M2 (p2.trans h3)];exact q2 M2 h3
theorem q4X(f:List Tk):Again (meetM f):=fun M L M1 h=>by
 unfold meetM at h
 split at h
 ·rename_i i hi
  injection h with h;injection h with h1 h2;subst h1 h2
  refine⟨List.prefix_refl _,fun M2 hp=>?_⟩
  obtain⟨r,rfl⟩:=hp;unfold meetM;rw[List.findIdx?_append,hi];rfl
 ·rename_i hi
  split at h
  ·injection h with h;injection h with h1 h2;subst h1 h2
   refine⟨List.prefix_append _ _,fun M2 hp=>?_⟩
   obtain⟨r,rfl⟩:=hp;unfold meetM;rw[List.append_assoc,List.findIdx?_append,hi];simp[List.findIdx?_cons]
  ·cases h
theorem q1A:∀T:Tr,Again (needM T)
 | .leaf k=>by
  intro M L M1 h;by_cases h0:k.1=0
  ·have e:needM (.leaf k)=fun M=>some ([0],M):=by funext M;unfold needM;rw[if_pos h0]
   rw[e]at h ⊢;exact q2T [0] M L M1 h
  ·by_cases h1:k.1=1
   ·have e:needM (.leaf k)=fun M=>some ([],M):=by funext M;unfold needM;rw[if_neg h0,if_pos h1]
    rw[e]at h ⊢;exact q2T [] M L M1 h
   ·have e:needM (.leaf k)=meetM (Tr.leaf k).flat:=by funext M;unfold needM;rw[if_neg h0,if_neg h1]
    rw[e]at h ⊢;exact q4X _ M L M1 h
 | .un k c=>fun M L M1 h=>q4X (Tr.un k c).flat M L M1 h
 | .bin k c d=>by
  by_cases h0:k.1=11\/k.1=12
  ·have e:needM (.bin k c d)=fun M=>bindM (needM c M) fun a M1=>bindM (needM d M1) fun b M2=>twoM (k.1==11) a b M2:=by funext M;rw[needM,if_pos h0]
   rw[e];exact qx (q1A c) fun a=>qx (q1A d) fun b=>q1o _ a b
  ·have e:needM (.bin k c d)=meetM (Tr.bin k c d).flat:=by funext M;rw[needM,if_neg h0]
   rw[e];exact q4X _
theorem q4Y:Again fun _=>none:=fun M L M1 h=>by cases h
theorem q4W(x:Nat):∀n,(∀T,Again (aftM n T x))/\(∀box r s f,Again (pthM n box r s f x))
 | 0=>⟨fun T=>by rw[show aftM 0 T x=fun _=>none by funext M;rw[qI]];exact q4Y,fun box r s f=>by rw[show pthM 0 box r s f x=fun _=>none by funext M;rw[q1i]];exact q4Y⟩
 |n+1=>by
  obtain⟨ih,jh⟩:=q4W x n;refine⟨fun T=>?_,fun box r s f=>?_⟩
  ·match T with
   | .leaf k=>
    rw[show aftM (n+1) (.leaf k) x=fun M=>some (yesM (if k.1=2 then x.testBit k.2 else k.1==0 || k.1==4),M) by funext M;rw[qF]]
    exact q2T _
   | .un k c=>
    by_cases h6:k.1=6
    ·rw[show aftM (n+1) (.un k c) x=fun M=>some (yesM (!plV x c),M) by funext M;rw[qL,if_pos h6]]
     exact q2T _
    ·by_cases h7:k.1=7
     ·rw[show aftM (n+1) (.un k c) x=fun M=>bindM (needM (.leaf (4,0)) M) fun a M1=>bindM (needM c M1) fun b M2=>twoM true a b M2 by funext M;rw[qL,if_neg h6,if_pos h7]]
      exact qx (q1A _) fun a=>qx (q1A _) fun b=>q1o _ a b
     ·rw[show aftM (n+1) (.un k c) x=fun M=>bindM (needM (.leaf (5,0)) M) fun a M1=>bindM (needM c M1) fun b M2=>twoM false a b M2 by funext M;rw[qL,if_neg h6,if_neg h7]]
      exact qx (q1A _) fun a=>qx (q1A _) fun b=>q1o _ a b
   | .bin k c d=>
    by_cases h1:k.1=11\/k.1=12
    ·rw[show aftM (n+1) (.bin k c d) x=fun M=>bindM (aftM n c x M) fun a M1=>bindM (aftM n d x M1) fun b M2=>twoM (k.1==11) a b M2 by funext M;rw[qw,if_pos h1]]
     exact qx (ih c) fun a=>qx (ih d) fun b=>q1o _ a b
    ·by_cases h2:k.1=15\/k.1=16
     ·rw[show aftM (n+1) (.bin k c d) x=fun M=>bindM (aftM n d x M) fun b M1=>bindM (aftM n c x M1) fun a M2=>bindM (needM (.bin k c d) M2) fun u M3=>bindM (twoM (k.1==15) a u M3) fun v M4=>twoM (k.1==16) b v M4 by funext M;rw[qw,if_neg h1,if_pos h2]]
      exact qx (ih d) fun b=>qx (ih c) fun a=>qx (q1A _) fun u=>qx (q1o _ a u) fun v=>q1o _ b v
     ·rw[show aftM (n+1) (.bin k c d) x=fun M=>bindM (aftM n d x M) fun s M1=>pthM n (k.1==18) c s d x M1 by funext M;rw[qw,if_neg h1,if_neg h2]]
      exact qx (ih d) fun s=>jh _ c s d
  ·match r with
   | .leaf k=>rw[show pthM (n+1) box (.leaf k) s f x=fun _=>none by funext M;rw[q1h]];exact q4Y
   | .un k c=>
    by_cases h1:k.1=19
    ·by_cases hv:plV x c=true
     ·rw[show pthM (n+1) box (.un k c) s f x=needM f by funext M;rw[qW,if_pos h1,if_pos hv]]
      exact q1A f
     ·rw[show pthM (n+1) box (.un k c) s f x=fun M=>some (yesM box,M) by funext M;rw[qW,if_pos h1,if_neg hv]]
      exact q2T _
    ·by_cases h2:k.1=20
     ·rw[show pthM (n+1) box (.un k c) s f x=fun M=>bindM (aftM n (if box then (kTr c).2 else c) x M) fun a M1=>twoM (!box) a s M1 by funext M;rw[qW,if_neg h1,if_pos h2]]
      exact qx (ih _) fun a=>q1o _ a s
     ·rw[show pthM (n+1) box (.un k c) s f x=fun M=>bindM (pthM n box c (yesM box) (.bin (modeO box,0) (.un k c) f) x M) fun a M1=>twoM box s a M1 by funext M;rw[qW,if_neg h1,if_neg h2]]
      exact qx (jh _ _ _ _) fun a=>q1o _ s a
   | .bin k c d=>
    by_cases h1:k.1=21
    ·rw[show pthM (n+1) box (.bin k c d) s f x=fun M=>bindM (pthM n box c s f x M) fun a M1=>bindM (pthM n box d s f x M1) fun b M2=>twoM box a b M2 by funext M;rw[qQ,if_pos h1]]
     exact qx (jh _ _ _ _) fun a=>qx (jh _ _ _ _) fun b=>q1o _ a b
    ·rw[show pthM (n+1) box (.bin k c d) s f x=fun M=>bindM (pthM n box d s f x M) fun a M1=>pthM n box c a (.bin (modeO box,0) d f) x M1 by funext M;rw[qQ,if_neg h1]]
     exact qx (jh _ _ _ _) fun a=>jh _ _ _ _
theorem qhG{M M':Mt}(h:M <+: M'){k:Nat}(hk:k<M.length):M'.getD k []=M.getD k []:=by
 rw[List.getD_eq_getElem?_getD,List.getD_eq_getElem?_getD,qe6 h hk]
theorem qaC(n x:Nat):∀(ks m:List Nat) (M M1:Mt) (L:List Nat),(∀k∈ks,k<M.length)->setM n x ks m M=some (L,M1)->M <+: M1/\∀M2,M1 <+: M2->setM n x ks m M2=some (L,M2)
 | [],m,M,M1,L,_,h=>by
  unfold setM at h;injection h with h;injection h with h1 h2;subst h1 h2
  exact⟨List.prefix_refl _,fun M2 _=>rfl⟩
 |k::ks,m,M,M1,L,hk,h=>by
  unfold setM at h;obtain⟨a,Ma,ha,h2⟩:=qe h;obtain⟨b,Mb,hb,h3⟩:=qe h2;obtain⟨p1,q1⟩:=(q4W x n).1 _ M a Ma ha;obtain⟨p2,q2⟩:=q1o true m a Ma b Mb hb;obtain⟨p3,q3⟩:=qaC n x ks b Mb M1 L (fun j hj=>Nat.lt_of_lt_of_le (hk j (by simp[hj])) ((p1.trans p2).length_le)) h3
  refine⟨(p1.trans p2).trans p3,fun M2 hp=>?_⟩
  unfold setM;rw[qhG (((p1.trans p2).trans p3).trans hp) (hk k (by simp)),q1 M2 ((p2.trans p3).trans hp)]
  show bindM (twoM true m a M2) _=_
  rw[show twoM true m a M2=some (b,M2) from q2 M2 (p3.trans hp)];exact q3 M2 hp
theorem q2V(n x:Nat):∀(l out:List Nat) (M M1:Mt) (L:List Nat),BdL l M.length->stepM n x l out M=some (L,M1)->M <+: M1/\∀M2,M1 <+: M2->stepM n x l out M2=some (L,M2)
 | [],out,M,M1,L,_,h=>by
  unfold stepM at h;injection h with h;injection h with h1 h2;subst h1 h2
  exact⟨List.prefix_refl _,fun M2 _=>rfl⟩
 |s::ss,out,M,M1,L,hl,h=>by
  unfold stepM at h;obtain⟨a,Ma,ha,h2⟩:=qe h;obtain⟨b,Mb,hb,h3⟩:=qe h2;obtain⟨p1,q1⟩:=qaC n x (itemsL s) [0] M Ma a (fun k hk=>hl s (by simp) k (q1C.1 hk).2) ha
  obtain⟨p2,q2⟩:=q1o false out a Ma b Mb hb;obtain⟨p3,q3⟩:=q2V n x ss b Mb M1 L (fun z hz k hk=>Nat.lt_of_lt_of_le (hl z (by simp[hz]) k hk) ((p1.trans p2).length_le)) h3
  refine⟨(p1.trans p2).trans p3,fun M2 hp=>?_⟩
  unfold stepM;rw[q1 M2 ((p2.trans p3).trans hp)]
  show bindM (twoM false out a M2) _=_
  rw[show twoM false out a M2=some (b,M2) from q2 M2 (p3.trans hp)];exact q3 M2 hp
theorem qcT{X:Nat->Prop}{x y:Nat}(hx:Like X x y)(n:Nat):∀(ks m:List Nat) (M:Mt),GoodM M->PrM X M->(∀k∈ks,k<M.length)->BdL m M.length->setM n x ks m M=setM n y ks m M
 | [],m,M,_,_,_,_=>rfl
 |k::ks,m,M,hM,hp,hk,hm=>by
  have hkl:=hk k (by simp)
  have hget:M[k]? =some (M.getD k []):=by rw[List.getD_eq_getElem?_getD,List.getElem?_eq_getElem hkl];rfl
  have hmem:=List.mem_of_getElem? hget;obtain⟨T,hT,hf⟩:=hM.ker _ hmem;have hpT:Pr X T.flat:=hf ▸ hp _ hmem;unfold setM;rw[hf,q3k hT.wf,(qaq hx n).1 T M hT hpT]
  cases ha:aftM n T y M with
  |none=>rfl
  |some z=>
   obtain⟨a,M1⟩:=z
   show bindM (twoM true m a M1) _=bindM (twoM true m a M1) _
   cases hb:twoM true m a M1 with
   |none=>rfl
   |some q=>
    obtain⟨b,M2⟩:=q
    show setM n x ks b M2=setM n y ks b M2
    have e:=(qr hb).1;subst e;obtain⟨e1,_⟩:=(q2m n).1 T y M _ a hM hT ha;exact qcT hx n ks b _ e1.good ((qa1 n).1 T M _ a hT hpT hp ha) (fun j hj=>Nat.lt_of_lt_of_le (hk j (by simp[hj])) (q1u e1.pre)) (q3Z hb (hm.mono (q1u e1.pre)) e1.bd)
theorem qcU{X:Nat->Prop}(n x:Nat):∀(ks m:List Nat) (M M':Mt) (L:List Nat),GoodM M->PrM X M->(∀k∈ks,k<M.length)->setM n x ks m M=some (L,M')->PrM X M'
 | [],m,M,M',L,_,hp,_,h=>by
  unfold setM at h;injection h with h;injection h with h1 h2;subst h1 h2
  exact hp
 |k::ks,m,M,M',L,hM,hp,hk,h=>by
  have hkl:=hk k (by simp)
  have hget:M[k]? =some (M.getD k []):=by rw[List.getD_eq_getElem?_getD,List.getElem?_eq_getElem hkl];rfl
  have hmem:=List.mem_of_getElem? hget;obtain⟨T,hT,hf⟩:=hM.ker _ hmem;have hpT:Pr X T.flat:=hf ▸ hp _ hmem;unfold setM at h;rw[hf,q3k hT.wf]at h;obtain⟨a,Ma,ha,h2⟩:=qe h;obtain⟨b,Mb,hb,h3⟩:=qe h2;have e:=(qr hb).1;subst e;obtain⟨e1,_⟩:=(q2m n).1 T x M _ a hM hT ha;exact qcU n x ks b _ M' L e1.good ((qa1 n).1 T M _ a hT hpT hp ha) (fun j hj=>Nat.lt_of_lt_of_le (hk j (by simp[hj])) (q1u e1.pre)) h3
theorem qea{X:Nat->Prop}(n x:Nat):∀(l out:List Nat) (M M':Mt) (L:List Nat),GoodM M->PrM X M->BdL l M.length->stepM n x l out M=some (L,M')->PrM X M'
 | [],out,M,M',L,_,hp,_,h=>by
  unfold stepM at h;injection h with h;injection h with h1 h2;subst h1 h2
  exact hp
 |s::ss,out,M,M',L,hM,hp,hl,h=>by
  unfold stepM at h;obtain⟨a,Ma,ha,h2⟩:=qe h;obtain⟨b,Mb,hb,h3⟩:=qe h2;have hks:∀k∈itemsL s,k<M.length:=fun k hk=>hl s (by simp) k (q1C.1 hk).2
  obtain⟨e1,_⟩:=q8z n x (itemsL s) [0] M Ma a hM (q1j true _) hks ha;have e:=(qr hb).1;subst e;exact qea n x ss b _ M' L e1.good (qcU n x _ _ M _ a hM hp hks ha) (fun z hz k hk=>Nat.lt_of_lt_of_le (hl z (by simp[hz]) k hk) (q1u e1.pre)) h3
theorem qaF{X:Nat->Prop}{x y:Nat}(hx:Like X x y)(n:Nat):∀(l out:List Nat) (M:Mt),GoodM M->PrM X M->BdL l M.length->stepM n x l out M=stepM n y l out M
 | [],out,M,_,_,_=>rfl
 |s::ss,out,M,hM,hp,hl=>by
  have hks:∀k∈itemsL s,k<M.length:=fun k hk=>hl s (by simp) k (q1C.1 hk).2
  unfold stepM;rw[qcT hx n (itemsL s) [0] M hM hp hks (q1j true _)]
  cases ha:setM n y (itemsL s) [0] M with
  |none=>rfl
  |some z=>
   obtain⟨a,M1⟩:=z
   show bindM (twoM false out a M1) _=bindM (twoM false out a M1) _
   cases hb:twoM false out a M1 with
   |none=>rfl
   |some q=>
    obtain⟨b,M2⟩:=q
    show stepM n x ss b M2=stepM n y ss b M2
    have e:=(qr hb).1;subst e;obtain⟨e1,_⟩:=q8z n y (itemsL s) [0] M _ a hM (q1j true _) hks ha;exact qaF hx n ss b _ e1.good (qcU n y _ _ M _ a hM hp hks ha) (fun z hz k hk=>Nat.lt_of_lt_of_le (hl z (by simp[hz]) k hk) (q1u e1.pre))
def fuelN:Nat:=5000
theorem q2c{and:Bool}{a b:List Nat}{M M':Mt}{l:List Nat}(h:twoM and a b M=some (l,M')):l.length<=1024:=by
 have h2:=(qr h).2;unfold twoM at h
 cases and with
 |true=>
  simp only[if_true]at h h2
  unfold andM at h
  split at h
  ·rename_i hl
   rw[h2];exact Nat.le_trans (q5a _) (by rw[q4p];exact hl)
  ·cases h
 |false=>
  simp only[Bool.false_eq_true,if_false]at h h2
  unfold orM at h
  split at h
  ·rename_i hl
   rw[h2];exact Nat.le_trans (q5a _) (by rw[List.length_append];exact hl)
  ·cases h
theorem q7r{f:List Tk}{M M':Mt}{l:List Nat}(h:meetM f M=some (l,M')):l.length<=1024:=by
 unfold meetM at h
 split at h
 ·injection h with h;injection h with h1 h2;subst h1;simp
 ·split at h
  ·injection h with h;injection h with h1 h2;subst h1;simp
  ·cases h
theorem q1U:∀(T:Tr) {M M':Mt} {l:List Nat},needM T M=some (l,M')->l.length<=1024
 | .leaf k,M,M',l,h=>by
  unfold needM at h
  split at h
  ·injection h with h;injection h with h1 h2;subst h1;simp
  ·split at h
   ·injection h with h;injection h with h1 h2;subst h1;simp
   ·exact q7r h
 | .un k c,M,M',l,h=>q7r h
 | .bin k c d,M,M',l,h=>by
  unfold needM at h
  split at h
  ·obtain⟨a,M1,_,h2⟩:=qe h
   obtain⟨b,M2,_,h3⟩:=qe h2;exact q2c h3
  ·exact q7r h
theorem q5f(n x:Nat):∀(l out:List Nat) {M M':Mt} {L:List Nat},out.length<=1024->stepM n x l out M=some (L,M')->L.length<=1024
 | [],out,M,M',L,ho,h=>by
  unfold stepM at h;injection h with h;injection h with h1 h2;subst h1;exact ho
 |s::ss,out,M,M',L,_,h=>by
  unfold stepM at h;obtain⟨m,M1,_,h2⟩:=qe h;obtain⟨o,M2,ho,h3⟩:=qe h2;exact q5f n x ss o (q2c ho) h3
theorem qT{l:List Nat}{m:Nat}(h:BdL l m)(hm:m<=64):∀x∈l,x<2 ^ 64:=fun x hx=>
 Nat.lt_pow_two_of_testBit x fun i hi=>by
  cases ht:x.testBit i with
  |false=>rfl
  |true=>have:=h x hx i ht;omega
theorem qgB{ts:List Tk}(h:IsKer ts):∃T,KT T/\ts=T.flat:=by
 obtain⟨T,h1,h2,h3,h4⟩:=h;exact⟨T,⟨h1,h2,h3⟩,h4⟩
theorem qfc{ts:List Tk}(h:chkE ts=0):ts.length<=2048/\∃T,KT T/\ts=T.flat:=by
 obtain⟨h1,h2⟩:=q34.1 h;exact⟨h1,qgB h2⟩
theorem qd3{t:List Nat}{T:Tr}(h:T.WF){bs:List Bool}(hv:ValB t T.flat bs):bs.length=t.length+1/\∀i (hi:i<bs.length),(bs[i]=true↔(semTr t T).1 i):=⟨hv.1,fun i hi=>hv.2 _ (q35 t T h) i hi⟩
def hgt:Tr->Nat
 | .leaf _=>1
 | .un k c=>if k.1=6 then 1 else hgt c+1
 | .bin _ c d=>max (hgt c) (hgt d)+1
theorem q39:∀T:Tr,hgt T<=T.size
 | .leaf _=>Nat.le_refl _
 | .un k c=>by
  have:=q39 c
  unfold hgt Tr.size
  split<;>omega
 | .bin k c d=>by
  have:=q39 c
  have:=q39 d
  have:=q7z c
  have:=q7z d
  unfold hgt Tr.size
  omega
theorem q6i(T:Tr):0<hgt T:=by
 cases T with
 |leaf k=>exact Nat.one_pos
 |un k c=>unfold hgt;split<;>omega
 |bin k c d=>unfold hgt;omega
theorem q1l:∀T:Tr,KT T->hgt (kTr T).2=hgt T
 | .leaf (op,p),hT=>by
  rcases q1X hT with⟨rfl,_⟩|⟨rfl,rfl|rfl|rfl|rfl⟩<;>rfl
 | .un (op,p) c,hT=>by
  rcases kt_un hT with⟨rfl,⟨rfl,q,rfl⟩|⟨ho,hc⟩⟩
  ·rfl
  ·have ih:=q1l c hc
   rcases ho with rfl|rfl
   ·show hgt (kTr c).2+1=hgt c+1
    rw[ih]
   ·show hgt (kTr c).2+1=hgt c+1
    rw[ih]
 | .bin (op,p) c d,hT=>by
  obtain⟨rfl,ho⟩:=q1J hT;rcases ho with rfl|rfl|rfl|rfl|rfl|rfl
  ·obtain⟨kc,kd⟩:=qD hT (by simp)
   show max (hgt (kTr c).2) (hgt (kTr d).2)+1=_
   rw[q1l c kc,q1l d kd];rfl
  ·obtain⟨kc,kd⟩:=qD hT (by simp)
   show max (hgt (kTr c).2) (hgt (kTr d).2)+1=_
   rw[q1l c kc,q1l d kd];rfl
  ·obtain⟨kc,kd⟩:=qD hT (by simp)
   show max (hgt (kTr c).2) (hgt (kTr d).2)+1=_
   rw[q1l c kc,q1l d kd];rfl
  ·obtain⟨kc,kd⟩:=qD hT (by simp)
   show max (hgt (kTr c).2) (hgt (kTr d).2)+1=_
   rw[q1l c kc,q1l d kd];rfl
  ·obtain⟨kc,kd⟩:=q1z hT (by simp)
   show max (hgt (kTr c).1) (hgt (kTr d).2)+1=_
   rw[(q1w c kc.wf kc.kr).1,q1l d kd];rfl
  ·obtain⟨kc,kd⟩:=q1z hT (by simp)
   show max (hgt (kTr c).1) (hgt (kTr d).2)+1=_
   rw[(q1w c kc.wf kc.kr).1,q1l d kd];rfl
def endB:Tr->Bool
 | .leaf k=>k.1==0 || k.1==5
 | .un k c=>if k.1=6 then true else if k.1=20 then endB c else k.1==8 || k.1==23
 | .bin k c d=>if k.1=11 then endB c&&endB d else if k.1=12 then endB c || endB d else if k.1=16 then true else if k.1=17 then endB c&&endB d else if k.1=18 then !endB c || endB d
  else if k.1=21 then endB c || endB d else if k.1=22 then endB c&&endB d else false
theorem qcp{r:Tr}(h:KP r){k:Nat}(hw:(semTr [] r).2 0 k):k=0:=by
 have:=q1g [] r h.wf 0 k (Nat.le_refl _) hw
 simp at this
 omega
theorem q1k:∀T:Tr,(KT T->(endB T=true↔(semTr [] T).1 0))/\(KP T->(endB T=true↔(semTr [] T).2 0 0))
 | .leaf (op,p)=>by
  refine⟨fun hT=>?_,fun hT=>(q2D hT).elim⟩
  rcases q1X hT with⟨rfl,_⟩|⟨rfl,rfl|rfl|rfl|rfl⟩<;>simp[endB,semTr,semT,leafV]
 | .un (op,p) c=>by
  refine⟨fun hT=>?_,fun hT=>?_⟩
  ·rcases kt_un hT with⟨rfl,⟨rfl,q,rfl⟩|⟨ho,hc⟩⟩
   ·simp[endB,semTr,semT,unV,leafV]
   ·rcases ho with rfl|rfl
    ·simp[endB,semTr,semT,unV]
    ·simp[endB,semTr,semT,unV]
  ·rcases kp_un hT with⟨rfl,⟨rfl,hc,hpl⟩|⟨rfl,hc⟩|⟨rfl,hc⟩⟩
   ·simp[endB,semTr,semT,unY]
   ·have ih:=(q1k c).1 hc
    simp only[endB,semTr,semT,unY]
    simpa using ih
   ·simp only[endB,semTr,semT,unY]
    simp
    exact⟨0,rfl⟩
 | .bin (op,p) c d=>by
  refine⟨fun hT=>?_,fun hT=>?_⟩
  ·obtain⟨rfl,ho⟩:=q1J hT
   rcases ho with rfl|rfl|rfl|rfl|rfl|rfl
   ·obtain⟨kc,kd⟩:=qD hT (by simp)
    simp[endB,semTr,semT,binV,(q1k c).1 kc,(q1k d).1 kd]
   ·obtain⟨kc,kd⟩:=qD hT (by simp)
    simp[endB,semTr,semT,binV,(q1k c).1 kc,(q1k d).1 kd]
   ·simp[endB,semTr,semT,binV]
   ·simp[endB,semTr,semT,binV]
   ·obtain⟨kc,kd⟩:=q1z hT (by simp)
    have ic:=(q1k c).2 kc;have id:=(q1k d).1 kd
    show (endB c&&endB d)=true↔∃k,(semTr [] c).2 0 k/\(semTr [] d).1 k
    rw[Bool.and_eq_true,ic,id];exact⟨fun h=>⟨0,h⟩,fun⟨k,h1,h2⟩=>by have e:=qcp kc h1;subst e;exact⟨h1,h2⟩⟩
   ·obtain⟨kc,kd⟩:=q1z hT (by simp)
    have ic:=(q1k c).2 kc;have id:=(q1k d).1 kd
    show (!endB c || endB d)=true↔∀k,(semTr [] c).2 0 k->(semTr [] d).1 k
    constructor
    ·intro h k h1
     have e:=qcp kc h1;subst e;rw[ic.2 h1]at h;simp at h
     exact id.1 h
    ·intro h
     cases hc:endB c with
     |false=>rfl
     |true=>simp;exact id.2 (h 0 (ic.1 hc))
  ·obtain⟨rfl,ho,kc,kd⟩:=q1y hT
   have ic:=(q1k c).2 kc;have id:=(q1k d).2 kd;rcases ho with rfl|rfl
   ·simp[endB,semTr,semT,binY,ic,id]
   ·show (endB c&&endB d)=true↔∃j,(semTr [] c).2 0 j/\(semTr [] d).2 j 0
    rw[Bool.and_eq_true,ic,id];exact⟨fun h=>⟨0,h⟩,fun⟨k,h1,h2⟩=>by have e:=qcp kc h1;subst e;exact⟨h1,h2⟩⟩
theorem At.pre{t:List Nat}{T:Tr}{l:List Nat}{M M':Mt}{i:Nat}(hA:At t T i l M)(hp:M <+: M')(hM:GoodM M'):At t T i l M':=⟨hM,hA.bd.mono (q1u hp),(q3n hp hA.bd i).symm.trans hA.says⟩
abbrev Gd:=Int×Int×Int
def adM:Nat->Int->(Nat->Nat)->List Gd->Int×List Gd
 | 0,_,f,N=>(-1-(f 0:Int),N)
 |k+1,p,f,N=>
  let a:=adM k (p+1) (fun i=>f (2*i)) N
  let b:=adM k (p+1) (fun i=>f (2*i+1)) a.2
  if a.1=b.1 then (a.1,b.2)
  else ((b.2.idxOf (p,a.1,b.1):Int),if (p,a.1,b.1)∈b.2 then b.2 else b.2++[(p,a.1,b.1)])
theorem qgc(p:Int)(f:Nat->Nat)(N:List Gd):adM 0 p f N=(-1-(f 0:Int),N):=rfl
theorem q32(k:Nat)(p:Int)(f:Nat->Nat)(N:List Gd){a b:Int}{N1 N2:List Gd}(h1:adM k (p+1) (fun i=>f (2*i)) N=(a,N1))(h2:adM k (p+1) (fun i=>f (2*i+1)) N1=(b,N2)):
  adM (k+1) p f N=if a=b then (a,N2) else ((N2.idxOf (p,a,b):Int),if (p,a,b)∈N2 then N2 else N2++[(p,a,b)]):=by
 simp only[adM,h1,h2]
def goG (N:List Gd) (x:Nat):Nat->Int->Option Int
 | 0,r=>if r<0 then some (-1-r) else none
 |k+1,r=>if r<0 then some (-1-r) else
  match N[r.toNat]? with
  |none=>none
  |some (P,lo,hi)=>if 0<=P/\P<=7 then goG N x k (if x.testBit P.toNat then hi else lo) else none
theorem qdU{N:List Gd}{x:Nat}{r:Int}(h:r<0):∀k,goG N x k r=some (-1-r)
 | 0=>by simp[goG,h]
 |k+1=>by simp[goG,h]
theorem qcz{N:List Gd}{x k i:Nat}{P lo hi:Int}(h:N[i]? =some (P,lo,hi))(h0:0<=P)(h7:P<=7):goG N x (k+1) (i:Int)=goG N x k (if x.testBit P.toNat then hi else lo):=by
 have hi:¬(i:Int)<0:=by omega
 simp[goG,hi,h,h0,h7]
def FitG (m:Nat) (N:List Gd) (a:Nat) (p:Int) (r:Int):Prop :=
 (r<0/\-(m:Int)<=r)\/∃i,r=((i:Nat):Int)/\i<a/\∃nd,N[i]? =some nd/\p<nd.1
structure WfG (n m:Nat) (N:List Gd):Prop where
 node:∀(i:Nat) (P lo hi:Int),N[i]? =some (P,lo,hi)->0<=P/\P<n/\lo≠hi/\FitG m N i P lo/\FitG m N i P hi
 once:N.Nodup
theorem WfG.nil(n m:Nat):WfG n m []:=⟨fun i P lo hi h=>by simp at h,by simp⟩
theorem qcO{α : Type}{N N':List α}(h:N <+: N'){i:Nat}{a:α}(e:N[i]? =some a):N'[i]? =some a:=by
 obtain⟨t,rfl⟩:=h;have:=(List.getElem?_eq_some_iff.1 e).1
 rw[List.getElem?_append_left this];exact e
theorem FitG.mono{m:Nat}{N N':List Gd}{a a':Nat}{p p' r:Int}(h:FitG m N a p r)(hN:N <+: N')(ha:a<=a')(hp:p'<=p):FitG m N' a' p' r:=by
 rcases h with h|⟨i,e,hi,nd,hn,hq⟩
 ·exact .inl h
 ·exact .inr ⟨i,e,by omega,nd,qcO hN hn,by omega⟩
theorem q9I{N:List Gd}{nd:Gd}(h:nd∈N):N[N.idxOf nd]? =some nd:=by
 have hl:=List.idxOf_lt_length_of_mem h;rw[List.getElem?_eq_getElem hl];simp
theorem qdW{N N':List Gd}(h:N <+: N'){nd:Gd}(hm:nd∈N):N'.idxOf nd=N.idxOf nd:=by
 obtain⟨t,rfl⟩:=h;simp[List.idxOf_append,hm]
theorem qdV{N:List Gd}{nd:Gd}(h:nd ∉ N):(N++[nd]).idxOf nd=N.length:=by
 simp[List.idxOf_append,h]
theorem q9J{N:List Gd}{nd:Gd}(h:nd ∉ N):N.idxOf nd=N.length:=List.idxOf_eq_length h
theorem WfG.push{n m:Nat}{N:List Gd}(h:WfG n m N){P lo hi:Int}(h0:0<=P)(hn:P<n)(hd:lo≠hi)(hl:FitG m N N.length P lo)(hh:FitG m N N.length P hi)(ho:(P,lo,hi) ∉ N):WfG n m (N++[(P,lo,hi)]):=by
 have hp:N <+: N++[(P,lo,hi)]:=List.prefix_append _ _;refine⟨fun i P' lo' hi' e=>?_,?_⟩
 ·by_cases hi1:i<N.length
  ·rw[List.getElem?_append_left hi1]at e
   obtain⟨g0,g1,g2,g3,g4⟩:=h.node i _ _ _ e;exact⟨g0,g1,g2,g3.mono hp (Nat.le_refl _) (Int.le_refl _),g4.mono hp (Nat.le_refl _) (Int.le_refl _)⟩
  ·rw[List.getElem?_append_right (by omega)]at e
   have hz:i-N.length=0:=by
    have:=(List.getElem?_eq_some_iff.1 e).1
    simp at this;omega
   have hi2:i=N.length:=by omega
   subst hi2;simp at e
   obtain⟨rfl,rfl,rfl⟩:=e;exact⟨h0,hn,hd,hl.mono hp (Nat.le_refl _) (Int.le_refl _),hh.mono hp (Nat.le_refl _) (Int.le_refl _)⟩
 ·rw[List.nodup_append]
  refine⟨h.once,by simp,fun a ha b hb=>?_⟩
  simp at hb;subst hb
  intro e;exact ho (e ▸ ha)
structure AdR (n m k:Nat) (p:Int) (f:Nat->Nat) (N:List Gd) (r:Int) (N':List Gd):Prop where
 pre:N <+: N'
 wf:WfG n m N'
 fit:FitG m N' N'.length (p-1) r
 len:N'.length+1<=N.length+2 ^ k
 goes:∀(N2:List Gd) (x j:Nat),N' <+: N2->k<=j->goG N2 x j r=some ((f (x / 2 ^ p.toNat % 2 ^ k):Nat):Int)
 again:∀N2:List Gd,N' <+: N2->adM k p f N2=(r,N2)
theorem qgv(y k:Nat):y % 2 ^ (k+1)=2*(y / 2 % 2 ^ k)+y % 2:=by
 rw[Nat.pow_succ,Nat.mul_comm,Nat.mod_mul];omega
theorem ad_ok{n m:Nat}(hn:n<=8):∀(k:Nat) (p:Int) (f:Nat->Nat) (N:List Gd),0<=p->p+k=n->(∀i,i<2 ^ k->f i<m)->WfG n m N->AdR n m k p f N (adM k p f N).1 (adM k p f N).2
 | 0,p,f,N,h0,hp,hf,hw=>by
  have:=hf 0 (by simp)
  refine⟨List.prefix_rfl,hw,.inl ⟨by simp[adM];omega,by simp[adM];omega⟩,by simp[adM],fun N2 x j _ _=>?_,fun N2 _=>by simp[adM]⟩
  rw[qgc,qdU (by simp;omega)]
  simp[Nat.mod_one];omega
 |k+1,p,f,N,h0,hp,hf,hw=>by
  have e2:2 ^ (k+1)=2*2 ^ k:=by rw[Nat.pow_succ];omega
  have hA:=ad_ok hn k (p+1) (fun i=>f (2*i)) N (by omega) (by omega) (fun i hi=>hf _ (by omega)) hw
  rcases e1:adM k (p+1) (fun i=>f (2*i)) N with⟨a,N1⟩
  rw[e1]at hA;have hB:=ad_ok hn k (p+1) (fun i=>f (2*i+1)) N1 (by omega) (by omega) (fun i hi=>hf _ (by omega)) hA.wf
  rcases e3:adM k (p+1) (fun i=>f (2*i+1)) N1 with⟨b,N2⟩
  rw[e3]at hB;dsimp only at hA hB
  rw[q32 k p f N e1 e3];have hpn:(p+1).toNat=p.toNat+1:=by omega
  have hx:∀x:Nat,x / 2 ^ p.toNat % 2 ^ (k+1)=2*(x / 2 ^ (p+1).toNat % 2 ^ k)+x / 2 ^ p.toNat % 2:=fun x=>by
   rw[qgv,hpn,Nat.pow_succ,<-Nat.div_div_eq_div_mul]
  have hA':=hA.fit.mono hB.pre hB.pre.length_le (Int.le_refl _);have hgA:∀(N3:List Gd) (x j:Nat),N2 <+: N3->k<=j->goG N3 x j a=some ((f (2*(x / 2 ^ (p+1).toNat % 2 ^ k)):Nat):Int):=fun N3 x j hN hj=>hA.goes N3 x j (hB.pre.trans hN) hj
  have hgB:∀(N3:List Gd) (x j:Nat),N2 <+: N3->k<=j->goG N3 x j b=some ((f (2*(x / 2 ^ (p+1).toNat % 2 ^ k)+1):Nat):Int):=fun N3 x j hN hj=>hB.goes N3 x j hN hj
  have hlen:N2.length+2<=N.length+2 ^ (k+1):=by have:=hA.len;have:=hB.len;omega
  by_cases hab:a=b
  ·rw[if_pos hab]
   subst hab;refine⟨hA.pre.trans hB.pre,hB.wf,hB.fit.mono List.prefix_rfl (Nat.le_refl _) (by omega),(by dsimp only;omega),fun N3 x j hN hj=>?_,fun N3 hN=>?_⟩
   ·rw[hx]
    rcases Nat.mod_two_eq_zero_or_one (x / 2 ^ p.toNat) with h2|h2<;>rw[h2]
    ·exact hgA N3 x j hN (by omega)
    ·exact hgB N3 x j hN (by omega)
   ·rw[q32 k p f N3 (hA.again N3 (hB.pre.trans hN)) (hB.again N3 hN),if_pos rfl]
  ·rw[if_neg hab]
   generalize hnd:((p,a,b):Gd)=nd
   have hq:∃N',(if nd∈N2 then N2 else N2++[nd])=N'/\N2 <+: N'/\nd∈N'/\N'.idxOf nd=N2.idxOf nd/\N'.length+1<=N.length+2 ^ (k+1)/\WfG n m N':=by
    by_cases hm:nd∈N2
    ·exact⟨N2,if_pos hm,List.prefix_rfl,hm,rfl,by omega,hB.wf⟩
    ·refine⟨N2++[nd],if_neg hm,List.prefix_append _ _,by simp,by rw[qdV hm,q9J hm],by simp;omega,?_⟩
     subst hnd;exact hB.wf.push h0 (by omega) hab (hA'.mono List.prefix_rfl (Nat.le_refl _) (by omega)) (hB.fit.mono List.prefix_rfl (Nat.le_refl _) (by omega)) hm
   obtain⟨N',eN,hp1,hmm,hix,hl,hwf⟩:=hq;dsimp only
   rw[eN,<-hix];have hget:=q9I hmm;refine⟨(hA.pre.trans hB.pre).trans hp1,hwf,.inr ⟨_,rfl,List.idxOf_lt_length_of_mem hmm,nd,hget,by subst hnd;simp;omega⟩,hl,fun N3 x j hN hj=>?_,fun N3 hN=>?_⟩
   ·obtain⟨j,rfl⟩:∃j',j=j'+1:=⟨j-1,by omega⟩
    have hg:=qcO hN hget;subst hnd;rw[qcz hg h0 (by omega),hx,Nat.testBit_eq_decide_div_mod_eq]
    rcases Nat.mod_two_eq_zero_or_one (x / 2 ^ p.toNat) with h2|h2<;>rw[h2]
    ·simpa using hgA N3 x j (hp1.trans hN) (by omega)
    ·simpa using hgB N3 x j (hp1.trans hN) (by omega)
   ·rw[q32 k p f N3 (hA.again N3 ((hB.pre.trans hp1).trans hN)) (hB.again N3 (hp1.trans hN)),if_neg hab,hnd]
    have hm3:nd∈N3:=hN.subset hmm;rw[if_pos hm3,qdW hN hmm]
def fnL (l:List Nat):Nat->Nat:=fun i=>l.getD i 0
theorem qcu{l:List Nat}{m:Nat}(h:∀v∈l,v<m){i:Nat}(hi:i<l.length):fnL l i<m:=by
 simp only[fnL,List.getD_eq_getElem?_getD,List.getElem?_eq_getElem hi,Option.getD_some]
 exact h _ (List.getElem_mem hi)
structure BkG (n m:Nat) (N:List Gd) (K:List (List Nat)) (R:List Int):Prop where
 wf:WfG n m N
 len:R.length=K.length
 it:∀(i:Nat) (l:List Nat) (r:Int),K[i]? =some l->R[i]? =some r->l.length=2 ^ n/\FitG m N N.length (-1) r/\(∀(N2:List Gd) (x:Nat),N <+: N2->x<2 ^ n->goG N2 x 8 r=some ((fnL l x:Nat):Int))/\∀N2:List Gd,N <+: N2->adM n 0 (fnL l) N2=(r,N2)
 few:N.length<=K.length*2 ^ n
theorem BkG.nil(n m:Nat):BkG n m [] [] []:=⟨WfG.nil n m,rfl,fun i l r h=>by simp at h,by simp⟩
theorem BkG.add{n m:Nat}{N:List Gd}{K:List (List Nat)}{R:List Int}(h:BkG n m N K R)(hn:n<=8){l:List Nat}(hl:l.length=2 ^ n)(hm:∀v∈l,v<m){r:Int}{N':List Gd}(e:adM n 0 (fnL l) N=(r,N')):BkG n m N' (K++[l]) (R++[r]):=by
 have a:=ad_ok hn n 0 (fnL l) N (by omega) (by omega) (fun i hi=>qcu hm (by omega)) h.wf
 rw[e]at a;dsimp only at a
 refine⟨a.wf,by simp[h.len],fun i k s hk hs=>?_,?_⟩
 ·by_cases hi:i<K.length
  ·rw[List.getElem?_append_left hi]at hk
   rw[List.getElem?_append_left (by rw[h.len];exact hi)]at hs
   obtain⟨h1,h2,h3,h4⟩:=h.it i k s hk hs;exact⟨h1,h2.mono a.pre a.pre.length_le (Int.le_refl _),fun N2 x hN hx=>h3 N2 x (a.pre.trans hN) hx,fun N2 hN=>h4 N2 (a.pre.trans hN)⟩
  ·have hz:i=K.length:=by
    have:=(List.getElem?_eq_some_iff.1 hk).1
    simp at this;omega
   subst hz;rw[List.getElem?_append_right (Nat.le_refl _)]at hk;rw[List.getElem?_append_right (by rw[h.len];exact Nat.le_refl _)]at hs
   simp[h.len]at hk hs
   subst hk;subst hs
   refine⟨hl,a.fit.mono List.prefix_rfl (Nat.le_refl _) (by omega),fun N2 x hN hx=>?_,a.again⟩
   have:=a.goes N2 x 8 hN (by omega)
   simpa [Nat.mod_eq_of_lt hx] using this
 ·have h1:=a.len
  have h2:=h.few;simp only[List.length_append,List.length_cons,List.length_nil,Nat.add_mul]
  omega
structure MayG (props:Int) (ns:Nat) (N:List Gd) (gs:List Int):Prop where
 p0:0<=props
 p8:props<=8
 s1:1<=ns
 s2:ns<=256
 len:gs.length=ns
 few:N.length<=4096
 node:∀(i:Nat) (P lo hi:Int),N[i]? =some (P,lo,hi)->0<=P/\P<props/\lo≠hi/\FitG ns N i P lo/\FitG ns N i P hi
 once:N.Nodup
 gd:∀g∈gs,FitG ns N N.length (-1) g
theorem FitG.more{m m':Nat}{N:List Gd}{a:Nat}{p r:Int}(h:FitG m N a p r)(hm:m<=m'):FitG m' N a p r:=by
 rcases h with⟨h1,h2⟩|h
 ·exact .inl ⟨h1,by omega⟩
 ·exact .inr h
theorem BkG.may{n m ns:Nat}{N:List Gd}{K:List (List Nat)}{R:List Int}(h:BkG n m N K R)(hn:n<=8)(h1:1<=ns)(h2:ns<=256)(hm:m<=ns){gs:List Int}(hg:gs.length=ns)(hr:∀g∈gs,g=-1\/g∈R)(hN:N.length<=4096):MayG n ns N gs:=by
 refine⟨by omega,by omega,h1,h2,hg,hN,fun i P lo hi e=>?_,h.wf.once,fun g hm1=>?_⟩
 ·obtain⟨g0,g1,g2,g3,g4⟩:=h.wf.node i P lo hi e
  exact⟨g0,g1,g2,g3.more hm,g4.more hm⟩
 ·rcases hr g hm1 with rfl|hg1
  ·exact .inl ⟨by omega,by omega⟩
  ·obtain⟨i,hi⟩:=List.mem_iff_getElem?.1 hg1
   have hi1:=(List.getElem?_eq_some_iff.1 hi).1
   have hi2:i<K.length:=by rw[<-h.len];exact hi1
   exact(h.it i _ g (List.getElem?_eq_getElem hi2) hi).2.1.more hm
def addG (n:Nat) (N:List Gd) (l:List Int):(Int×Int)×List Gd :=
 if l.length≠2 ^ n\/¬∀v∈l,0<=v/\v<=1048575 then ((0,2),N)
 else if 4096<(adM n 0 (fnL (l.map Int.toNat)) N).2.length then ((0,11),N)
 else (((adM n 0 (fnL (l.map Int.toNat)) N).1,0),(adM n 0 (fnL (l.map Int.toNat)) N).2)
def evL:List Nat->List Nat
 |a::_::l=>a::evL l
 | [a]=>[a]
 | []=>[]
def odL:List Nat->List Nat
 |_::b::l=>b::odL l
 | [_]=>[]
 | []=>[]
theorem qcq:∀(l:List Nat) (k:Nat),l.length=2*k->(evL l).length=k/\(odL l).length=k
 |a::b::l,k,h=>by
  have h1:=qcq l (k-1) (by simp at h;omega)
  simp only[List.length_cons]at h
  exact⟨by simp[evL,h1.1];omega,by simp[odL,h1.2];omega⟩
 | [a],k,h=>by simp at h;omega
 | [],k,h=>by
  have:k=0:=by simp at h;omega
  subst this;exact⟨rfl,rfl⟩
theorem ev_at:∀(l:List Nat) (i:Nat),fnL (evL l) i=fnL l (2*i)
 |a::b::l,0=>by simp[evL,fnL]
 |a::b::l,i+1=>by
  have:=ev_at l i
  simp only[fnL,List.getD_eq_getElem?_getD]at this
  simp[evL,fnL,Nat.mul_add,this]
 | [a],i=>by cases i<;>simp[evL,fnL,Nat.mul_add]
 | [],i=>by simp[evL,fnL]
theorem od_at:∀(l:List Nat) (i:Nat),fnL (odL l) i=fnL l (2*i+1)
 |a::b::l,0=>by simp[odL,fnL]
 |a::b::l,i+1=>by
  have:=od_at l i
  simp only[fnL,List.getD_eq_getElem?_getD]at this
  simp[odL,fnL,Nat.mul_add,this]
 | [a],i=>by simp[odL,fnL]
 | [],i=>by simp[odL,fnL]
theorem qes(k:Nat)(p:Int)(l:List Nat)(N:List Gd){a b:Int}{N1 N2:List Gd}(h1:adM k (p+1) (fnL (evL l)) N=(a,N1))(h2:adM k (p+1) (fnL (odL l)) N1=(b,N2)):
  adM (k+1) p (fnL l) N=if a=b then (a,N2) else ((N2.idxOf (p,a,b):Int),if (p,a,b)∈N2 then N2 else N2++[(p,a,b)]):=by
 have e1:fnL (evL l)=fun i=>fnL l (2*i):=funext (ev_at l)
 have e2:fnL (odL l)=fun i=>fnL l (2*i+1):=funext (od_at l)
 rw[e1]at h1;rw[e2]at h2
 exact q32 k p (fnL l) N h1 h2
theorem q3N:∀(k:Nat) (p:Int) (f:Nat->Nat) (N:List Gd),N <+: (adM k p f N).2/\(adM k p f N).2.length+1<=N.length+2 ^ k
 | 0,p,f,N=>by simp[adM]
 |k+1,p,f,N=>by
  have hA:=q3N k (p+1) (fun i=>f (2*i)) N
  rcases e1:adM k (p+1) (fun i=>f (2*i)) N with⟨a,N1⟩
  have hB:=q3N k (p+1) (fun i=>f (2*i+1)) N1
  rcases e2:adM k (p+1) (fun i=>f (2*i+1)) N1 with⟨b,N2⟩
  rw[e1]at hA;rw[e2]at hB
  dsimp only at hA hB
  have e3:2 ^ (k+1)=2*2 ^ k:=by rw[Nat.pow_succ];omega
  rw[q32 k p f N e1 e2]
  split
  ·exact⟨hA.1.trans hB.1,by dsimp only;omega⟩
  ·dsimp only
   split
   ·exact⟨hA.1.trans hB.1,by omega⟩
   ·exact⟨(hA.1.trans hB.1).trans (List.prefix_append _ _),by simp;omega⟩
def putD (L:List Nat) (S:List (List Nat)):Option (Nat×List (List Nat)):=if L∈S then some (S.idxOf L,S) else if 256<=S.length then none else some (S.length,S++[L])
def rowD (l:List Nat):List Nat->List Nat->List (List Nat)->Mt->Except Nat (List Nat×List (List Nat)×Mt)
 | [],acc,S,M=>.ok (acc,S,M)
 |x::xs,acc,S,M=>match stepM fuelN x l [] M with
  |none=>.error 9
  |some (L,M1)=>match putD L S with
   |none=>.error 10
   |some (q,S1)=>rowD l xs (acc++[q]) S1 M1
abbrev atD (S:List (List Nat)) (q:Nat):List Nat:=S.getD q []
theorem q4G{S S1:List (List Nat)}(h:S <+: S1){q:Nat}(hq:q<S.length):atD S1 q=atD S q:=by
 obtain⟨k,rfl⟩:=h;unfold atD;rw[List.getD_eq_getElem?_getD,List.getD_eq_getElem?_getD,List.getElem?_append_left hq]
theorem q6g{S:List (List Nat)}{q:Nat}(h:q<S.length):atD S q∈S:=by
 unfold atD;rw[List.getD_eq_getElem?_getD,List.getElem?_eq_getElem h];exact List.getElem_mem h
def metF:Nat->List Nat->Option Nat
 |m,[]=>some m
 |m,v::vs=>if m<v then none else metF (if v=m then m+1 else m) vs
theorem q4l:∀(a b:List Nat) (m:Nat),metF m (a++b)=(metF m a).bind fun k=>metF k b
 | [],b,m=>rfl
 |v::a,b,m=>by
  simp only[List.cons_append,metF]
  split
  ·rfl
  ·exact q4l a b _
theorem BkG.more{n m m':Nat}{N:List Gd}{K:List (List Nat)}{R:List Int}(h:BkG n m N K R)(hm:m<=m'):BkG n m' N K R :=
 ⟨⟨fun i P lo hi e=>by obtain⟨g0,g1,g2,g3,g4⟩:=h.wf.node i P lo hi e;exact⟨g0,g1,g2,g3.more hm,g4.more hm⟩,h.wf.once⟩,h.len,fun i l r hl hr=>by obtain⟨a1,a2,a3,a4⟩:=h.it i l r hl hr;exact⟨a1,a2.more hm,a3,a4⟩,h.few⟩
structure StD (S:List (List Nat)) (M:Mt):Prop where
 good:GoodM M
 bd:∀z∈S,BdL z M.length
 least:∀z∈S,z=leastL z
 short:∀z∈S,z.length<=1024
 once:S.Nodup
 few:S.length<=256
structure PutD (L:List Nat) (S:List (List Nat)) (q:Nat) (S1:List (List Nat)):Prop where
 pre:S <+: S1
 lt:q<S1.length
 is:atD S1 q=L
 mem:∀s∈S1,s∈S\/s=L
 once:S.Nodup->S1.Nodup
 few:S.length<=256->S1.length<=256
 met:metF S.length [q]=some S1.length
theorem qa3{L:List Nat}{S:List (List Nat)}{q:Nat}{S1:List (List Nat)}(h:putD L S=some (q,S1)):PutD L S q S1:=by
 unfold putD at h
 split at h
 ·rename_i hm
  injection h with h;injection h with h1 h2
  subst h1 h2;have hl:=List.idxOf_lt_length_of_mem hm;refine⟨List.prefix_refl _,hl,?_,fun s hs=>.inl hs,id,id,?_⟩
  ·unfold atD
   rw[List.getD_eq_getElem?_getD,List.getElem?_eq_getElem hl];exact List.getElem_idxOf hl
  ·simp only[metF]
   rw[if_neg (by omega),if_neg (by omega)]
 ·rename_i hm
  split at h
  ·cases h
  ·rename_i hlen
   injection h with h;injection h with h1 h2
   subst h1 h2;refine⟨List.prefix_append _ _,by simp,?_,fun s hs=>?_,fun ho=>?_,fun _=>by simp;omega,?_⟩
   ·unfold atD
    rw[List.getD_eq_getElem?_getD,List.getElem?_append_right (Nat.le_refl _)];simp
   ·rcases List.mem_append.1 hs with h|h
    ·exact .inl h
    ·simp at h;exact .inr h
   ·exact List.nodup_append.2 ⟨ho,by simp,fun a ha b hb=>by simp at hb;subst hb;exact fun e=>hm (e ▸ ha)⟩
   ·simp[metF]
def ArcD (x:Nat) (l L:List Nat) (M:Mt):Prop:=∀M2,M <+: M2->stepM fuelN x l [] M2=some (L,M2)
theorem ArcD.mono{x:Nat}{l L:List Nat}{M M':Mt}(h:ArcD x l L M)(hp:M <+: M'):ArcD x l L M':=fun M2 h2=>h M2 (hp.trans h2)
structure RowD (l:List Nat) (xs acc:List Nat) (S:List (List Nat)) (M:Mt) (acc1:List Nat) (S1:List (List Nat)) (M1:Mt):Prop where
 ok:StD S1 M1
 pre:S <+: S1
 pre2:M <+: M1
 ex:∃rs,acc1=acc++rs/\rs.length=xs.length/\metF S.length rs=some S1.length/\∀(i x:Nat),xs[i]? =some x->∃q,rs[i]? =some q/\q<S1.length/\ArcD x l (atD S1 q) M1
theorem qa4{l:List Nat}:∀{xs acc:List Nat} {S:List (List Nat)} {M:Mt} {acc1:List Nat} {S1:List (List Nat)} {M1:Mt},StD S M->BdL l M.length->rowD l xs acc S M=.ok (acc1,S1,M1)->RowD l xs acc S M acc1 S1 M1
 | [],acc,S,M,acc1,S1,M1,hk,_,h=>by
  unfold rowD at h;injection h with h;injection h with h1 h2;injection h2 with h2 h3
  subst h1 h2 h3;exact⟨hk,List.prefix_refl _,List.prefix_refl _,[],by simp,rfl,rfl,fun i x hx=>by simp at hx⟩
 |x::xs,acc,S,M,acc1,S1,M1,hk,hs,h=>by
  unfold rowD at h
  cases hm:stepM fuelN x l [] M with
  |none=>rw[hm]at h;cases h
  |some v=>
   obtain⟨L,M2⟩:=v;rw[hm]at h
   cases hp:putD L S with
   |none=>simp only[hp]at h;cases h
   |some u=>
    obtain⟨q,S2⟩:=u;simp only[hp]at h
    obtain⟨e,_⟩:=q4P hk.good hs hm;have hL:=q5e (out:=[]) (by rfl) hm
    have k:=qa3 hp;have hk2:StD S2 M2:=⟨e.good,fun z hz=>(k.mem z hz).elim (fun h=>(hk.bd z h).mono e.pre.length_le) (fun h=>by rw[h];exact e.bd),fun z hz=>(k.mem z hz).elim (hk.least z) (fun h=>by rw[h];exact hL),fun z hz=>(k.mem z hz).elim (hk.short z) (fun h=>by rw[h];exact q5f _ _ _ _ (by simp) hm),k.once hk.once,k.few hk.few⟩
    obtain⟨o,p1,p2,rs,ha,hl,hmt,hx⟩:=qa4 hk2 (hs.mono e.pre.length_le) h;refine⟨o,k.pre.trans p1,e.pre.trans p2,q::rs,by rw[ha];simp,by simp[hl],?_,fun i y hy=>?_⟩
    ·rw[show q::rs=[q]++rs from rfl,q4l,k.met]
     exact hmt
    ·cases i with
     |zero=>
      have:x=y:=by simpa using hy
      subst this;refine⟨q,rfl,Nat.lt_of_lt_of_le k.lt p1.length_le,fun M3 h3=>?_⟩
      rw[q4G p1 k.lt,k.is];exact(q2V fuelN x l [] M M2 L hs hm).2 M3 (p2.trans h3)
     |succ i=>exact hx i y (by simpa using hy)
def allD (n:Nat):Nat->List Int->List Gd->List (List Nat)->Mt->Except Nat (List Int×List Gd×List (List Nat)×Mt)
 | 0,R,N,S,M=>.ok (R,N,S,M)
 |f+1,R,N,S,M=>if R.length<S.length then (match rowD (atD S R.length) (List.range (2 ^ n)) [] S M with
   | .error e=>.error e
   | .ok (row,S1,M1)=>if 4096<(adM n 0 (fnL row) N).2.length then .error 11 else allD n f (R++[(adM n 0 (fnL row) N).1]) (adM n 0 (fnL row) N).2 S1 M1) else .ok (R,N,S,M)
structure AllD (n:Nat) (K:List (List Nat)) (R:List Int) (N:List Gd) (S:List (List Nat)) (M:Mt):Prop where
 ok:StD S M
 le:R.length<=S.length
 bk:BkG n S.length N K R
 fn:N.length<=4096
 met:∃m0,metF 1 (K.take 0).flatten=some m0/\metF 1 K.flatten=some S.length
 ahead:∀q,q<K.length->∃m,metF 1 (K.take q).flatten=some m/\q<m
 row:∀(q:Nat) (row:List Nat),K[q]? =some row->row.length=2 ^ n/\∀x,x<2 ^ n->∃r,row[x]? =some r/\r<S.length/\ArcD x (atD S q) (atD S r) M
theorem AllD.next{n:Nat}(hn:n<=8){K:List (List Nat)}{R:List Int}{N:List Gd}{S:List (List Nat)}{M:Mt}(h:AllD n K R N S M)(hlt:R.length<S.length){row:List Nat}{S1:List (List Nat)}{M1:Mt}(hr:rowD (atD S R.length) (List.range (2 ^ n)) [] S M=.ok (row,S1,M1))(hf:(adM n 0 (fnL row) N).2.length<=4096):
  AllD n (K++[row]) (R++[(adM n 0 (fnL row) N).1]) (adM n 0 (fnL row) N).2 S1 M1/\S <+: S1/\M <+: M1:=by
 obtain⟨o,p1,p2,rs,ha,hl,hmt,hx⟩:=qa4 h.ok (h.ok.bd _ (q6g hlt)) hr;rw[List.nil_append]at ha;subst ha;have hKR:=h.bk.len;have hl2:row.length=2 ^ n:=by simpa using hl
 have h256:∀v∈row,v<S1.length:=fun v hv=>by
  obtain⟨i,hi⟩:=List.mem_iff_getElem?.1 hv;have hil:=(List.getElem?_eq_some_iff.1 hi).1
  obtain⟨q,hq1,hq2,_⟩:=hx i i (by simp[show i<2 ^ n by omega])
  rw[hi]at hq1;injection hq1 with hq1
  omega
 obtain⟨m0,hm0,hm1⟩:=h.met;refine⟨⟨o,by simp;exact Nat.lt_of_lt_of_le hlt p1.length_le,(h.bk.more p1.length_le).add hn hl2 h256 rfl,hf,⟨m0,by simpa using hm0,?_⟩,fun q hq=>?_,fun q rw2 hq=>?_⟩,p1,p2⟩
 ·rw[List.flatten_append,q4l,hm1]
  simpa using hmt
 ·by_cases hqr:q<K.length
  ·rw[List.take_append_of_le_length (by omega)]
   exact h.ahead q hqr
  ·have hqe:q=K.length:=by simp at hq;omega
   subst hqe;refine⟨S.length,?_,by omega⟩
   rw[List.take_append_of_le_length (Nat.le_refl _),List.take_of_length_le (Nat.le_refl _)];exact hm1
 ·by_cases hqr:q<K.length
  ·rw[List.getElem?_append_left hqr]at hq
   obtain⟨h1,h2⟩:=h.row q rw2 hq;refine⟨h1,fun x hx2=>?_⟩
   obtain⟨r,hr1,hr2,hr3⟩:=h2 x hx2;refine⟨r,hr1,Nat.lt_of_lt_of_le hr2 p1.length_le,?_⟩
   rw[q4G p1 hr2,q4G p1 (by omega)]
   exact hr3.mono p2
  ·have hqe:q=K.length:=by
    have:=(List.getElem?_eq_some_iff.1 hq).1
    simp at this;omega
   subst hqe;rw[List.getElem?_append_right (Nat.le_refl _)]at hq;have:row=rw2:=by simpa using hq
   subst this;refine⟨hl2,fun x hx2=>?_⟩
   obtain⟨r,hr1,hr2,hr3⟩:=hx x x (by simp[hx2])
   exact⟨r,hr1,hr2,by rw[q4G p1 (by omega),<-hKR];exact hr3⟩
theorem qdO{n:Nat}(hn:n<=8):∀{f:Nat} {K:List (List Nat)} {R:List Int} {N:List Gd} {S:List (List Nat)} {M:Mt} {R1:List Int} {N1:List Gd} {S1:List (List Nat)} {M1:Mt},AllD n K R N S M->256<=f+R.length->allD n f R N S M=.ok (R1,N1,S1,M1)->∃K1,AllD n K1 R1 N1 S1 M1/\R1.length=S1.length/\S <+: S1/\M <+: M1
 | 0,K,R,N,S,M,R1,N1,S1,M1,hk,hf,h=>by
  unfold allD at h;injection h with h;injection h with h1 h2;injection h2 with h2 h3;injection h3 with h3 h4
  subst h1 h2 h3 h4;exact⟨K,hk,by have:=hk.le;have:=hk.ok.few;omega,List.prefix_refl _,List.prefix_refl _⟩
 |f+1,K,R,N,S,M,R1,N1,S1,M1,hk,hf,h=>by
  unfold allD at h
  split at h
  ·rename_i hlt
   cases hr:rowD (atD S R.length) (List.range (2 ^ n)) [] S M with
   |error e=>rw[hr]at h;cases h
   |ok v=>
    obtain⟨row,S2,M2⟩:=v;simp only[hr]at h
    split at h
    ·cases h
    ·rename_i h4
     obtain⟨k,p1,p2⟩:=hk.next hn hlt hr (by omega)
     obtain⟨K1,h1,h2,h3,h4⟩:=qdO hn k (by simp;omega) h
     exact⟨K1,h1,h2,p1.trans h3,p2.trans h4⟩
  ·injection h with h;injection h with h1 h2;injection h2 with h2 h3;injection h3 with h3 h4
   subst h1 h2 h3 h4;exact⟨K,hk,by have:=hk.le;omega,List.prefix_refl _,List.prefix_refl _⟩
def detM (T:Tr) (n:Nat):Except Nat (List Int×List Gd×List (List Nat)×Mt):=match needM T [] with
 |none=>.error 9
 |some (l0,M)=>allD n 256 [] [] [l0] M
structure DetK (T:Tr) (n:Nat) (R:List Int) (N:List Gd) (S:List (List Nat)) (M:Mt):Prop where
 all:∃K,AllD n K R N S M
 len:R.length=S.length
 zero:∃l0 M0,needM T []=some (l0,M0)/\atD S 0=l0/\M0 <+: M/\0<S.length
theorem q69(x:Nat):[x]=leastL [x]:=by
 have h:=q8q (p:=[]) (x:=x) (fun y hy=>by simp at hy)
 rw[qeJ,List.nil_append]at h;rw[h,if_neg (by simp[hoB])]
theorem q5b{f:List Tk}{M M':Mt}{l:List Nat}(h:meetM f M=some (l,M')):l=leastL l:=by
 unfold meetM at h
 split at h
 ·injection h with h;injection h with h1 h2;subst h1;exact q69 _
 ·split at h
  ·injection h with h;injection h with h1 h2;subst h1;exact q69 _
  ·cases h
theorem qg8{and:Bool}{a b:List Nat}{M M':Mt}{l:List Nat}(h:twoM and a b M=some (l,M')):l=leastL l:=by
 rw[(qr h).2]
 cases and<;>exact(q67 _).symm
theorem q8s(T:Tr){M M':Mt}{l:List Nat}(h:needM T M=some (l,M')):l=leastL l:=by
 cases T with
 |leaf k=>
  unfold needM at h
  split at h
  ·injection h with h;injection h with h1 h2;subst h1;exact q69 _
  ·split at h
   ·injection h with h;injection h with h1 h2;subst h1;rfl
   ·exact q5b h
 |un k c=>unfold needM at h;exact q5b h
 |bin k c d=>
  unfold needM at h
  split at h
  ·obtain⟨a,M1,_,h⟩:=qe h
   obtain⟨b,M2,_,h⟩:=qe h;exact qg8 h
  ·exact q5b h
theorem qiH{T:Tr}{n:Nat}(hn:n<=8)(kT:KT T){R:List Int}{N:List Gd}{S:List (List Nat)}{M:Mt}(h:detM T n=.ok (R,N,S,M)):DetK T n R N S M:=by
 unfold detM at h
 cases hnd:needM T [] with
 |none=>rw[hnd]at h;cases h
 |some v=>
  obtain⟨l0,M0⟩:=v;rw[hnd]at h;obtain⟨e,_⟩:=qV T q54 kT hnd;have hk0:AllD n [] [] [] [l0] M0:=⟨⟨e.good,fun z hz=>by simp at hz;rw[hz];exact e.bd,fun z hz=>by simp at hz;rw[hz];exact q8s T hnd,fun z hz=>by simp at hz;rw[hz];exact q1U T hnd,by simp,by simp⟩,by simp,BkG.nil n _,by simp,⟨1,rfl,rfl⟩,fun q hq=>by simp at hq,fun q row hq=>by simp at hq⟩
  obtain⟨K1,h1,h2,h3,h4⟩:=qdO hn hk0 (by simp) h
  refine⟨⟨K1,h1⟩,h2,l0,M0,hnd,?_,h4,by have:=h3.length_le;simp at this;omega⟩
  rw[q4G h3 (by simp)];rfl
def runD (N:List Gd) (R:List Int):Nat->List Nat->Option Nat
 |q,[]=>some q
 |q,x::t=>match goG N x 8 (R.getD q 0) with
  |some v=>runD N R v.toNat t
  |none=>none
theorem DetK.go{T:Tr}{n:Nat}{R:List Int}{N:List Gd}{S:List (List Nat)}{M:Mt}(h:DetK T n R N S M){q x:Nat}(hq:q<S.length)(hx:x<2 ^ n):∃r,goG N x 8 (R.getD q 0)=some ((r:Nat):Int)/\r<S.length/\stepM fuelN x (atD S q) [] M=some (atD S r,M):=by
 obtain⟨K,hA⟩:=h.all;have hKR:=hA.bk.len;have hqR:q<R.length:=by rw[h.len];exact hq
 have hqK:q<K.length:=by omega
 have eK:K[q]? =some K[q]:=List.getElem?_eq_getElem hqK
 have eR:R[q]? =some (R.getD q 0):=by rw[List.getD_eq_getElem?_getD,List.getElem?_eq_getElem hqR];rfl
 obtain⟨hl,hrow⟩:=hA.row q _ eK;obtain⟨r,hr1,hr2,hr3⟩:=hrow x hx;obtain⟨_,_,hg,_⟩:=hA.bk.it q _ _ eK eR;refine⟨r,?_,hr2,hr3 M (List.prefix_refl _)⟩
 rw[hg N x (List.prefix_refl _) hx];unfold fnL;rw[List.getD_eq_getElem?_getD,hr1];rfl
theorem DetK.run{T:Tr}{n:Nat}{R:List Int}{N:List Gd}{S:List (List Nat)}{M:Mt}(h:DetK T n R N S M){t:List Nat}(ht:∀x∈t,x<2 ^ n):∀(s:List Nat) (i q:Nat),t.drop i=s->i<=t.length->q<S.length->At t T i (atD S q) M->∃q',runD N R q s=some q'/\q'<S.length/\At t T t.length (atD S q') M
 | [],i,q,hd,hi,hq,hA=>by
  have e:i=t.length:=by
   have:=congrArg List.length hd
   simp at this;omega
  subst e;exact⟨q,rfl,hq,hA⟩
 |x::s,i,q,hd,hi,hq,hA=>by
  have hlt:i<t.length:=by
   have:=congrArg List.length hd
   simp at this;omega
  have hx:t[i]? =some x:=by
   have:=congrArg (fun l=>l[0]?) hd
   simpa using this
  have hd2:t.drop (i+1)=s:=by rw[<-List.drop_drop,hd];rfl
  obtain⟨r,hr1,hr2,hr3⟩:=h.go hq (ht x (List.mem_of_getElem? hx));obtain⟨q',h1,h2,h3⟩:=h.run ht s (i+1) r hd2 hlt hr2 (hA.step hx hr3);refine⟨q',?_,h2,h3⟩
  unfold runD;rw[hr1];exact h1
theorem DetK.start{T:Tr}{n:Nat}{R:List Int}{N:List Gd}{S:List (List Nat)}{M:Mt}(h:DetK T n R N S M)(kT:KT T)(t:List Nat):At t T 0 (atD S 0) M:=by
 obtain⟨l0,M0,hn,e,hp,_⟩:=h.zero;obtain⟨K,hA⟩:=h.all;rw[e];exact(At.start kT hn).pre hp hA.ok.good
theorem DetK.acc{T:Tr}{n:Nat}{R:List Int}{N:List Gd}{S:List (List Nat)}{M:Mt}(h:DetK T n R N S M)(kT:KT T){t:List Nat}(ht:∀x∈t,x<2 ^ n):∃q,runD N R 0 t=some q/\q<S.length/\(FinP M (atD S q)↔(semTr t T).1 0):=by
 obtain⟨_,_,_,_,_,hpos⟩:=h.zero;obtain⟨q,h1,h2,h3⟩:=h.run ht t 0 0 rfl (Nat.zero_le _) hpos (h.start kT t);exact⟨q,h1,h2,h3.fin⟩
theorem DetK.acc0{T:Tr}{n:Nat}{R:List Int}{N:List Gd}{S:List (List Nat)}{M:Mt}(h:DetK T n R N S M)(kT:KT T):FinP M (atD S 0)↔(semTr [] T).1 0:=(h.start kT []).fin
theorem DetK.may{T:Tr}{n:Nat}{R:List Int}{N:List Gd}{S:List (List Nat)}{M:Mt}(h:DetK T n R N S M)(hn:n<=8):MayG n S.length N R:=by
 obtain⟨K,hA⟩:=h.all;obtain⟨_,_,_,_,_,hpos⟩:=h.zero;exact hA.bk.may hn hpos hA.ok.few (Nat.le_refl _) h.len (fun g hg=>.inr hg) hA.fn
theorem qfm(M:Mt):FinP M [0]:=(q2G true _).2 rfl
theorem qfn{T:Tr}(h:KT T):FinP [T.flat] [1]↔endB T=true:=by
 unfold FinP;rw[show ([1]:List Nat)=[2 ^ 0] from rfl,q9T,q6c h (by rfl)]
 exact((q1k T).1 h).symm
def p0T:Tr:=.leaf (2,0)
theorem kt_p0:KT p0T:=⟨⟨rfl,rfl⟩,rfl,rfl⟩
theorem q7i{α : Type}{acc:List α}{r y:α}{x:Nat}(h:(acc++[r])[x]? =some y):acc[x]? =some y\/x=acc.length/\y=r:=by
 by_cases hx:x<acc.length
 ·rw[List.getElem?_append_left hx]at h;exact Or.inl h
 ·have h2:=(List.getElem?_eq_some_iff.1 h).1
  simp at h2
  have:x=acc.length:=by omega
  subst this;rw[List.getElem?_append_right (Nat.le_refl _)]at h;simp at h
  exact Or.inr ⟨rfl,h.symm⟩
def bitsL (ts:List Tk):Nat:=ts.foldl (fun a t=>if t.1=2 then a ||| 2 ^ t.2 else a) 0
theorem qfa(ts:List Tk)(t:Tk):bitsL (ts++[t])=if t.1=2 then bitsL ts ||| 2 ^ t.2 else bitsL ts:=by
 unfold bitsL;rw[List.foldl_append];rfl
theorem qab(p:Nat):∀(ts:List Tk) (a:Nat),(ts.foldl (fun a t=>if t.1=2 then a ||| 2 ^ t.2 else a) a).testBit p=true↔a.testBit p=true\/(2,p)∈ts
 | [],a=>by simp
 | (o,q)::ts,a=>by
  rw[List.foldl_cons,qab p ts];by_cases ho:o=2
  ·subst ho
   rw[if_pos rfl,Nat.testBit_or,Bool.or_eq_true,Nat.testBit_two_pow];simp only[decide_eq_true_eq,List.mem_cons,Prod.mk.injEq,true_and,or_assoc,@eq_comm _ q p]
  ·rw[if_neg (by simpa using ho)]
   simp[Ne.symm ho]
theorem qac(ts:List Tk)(p:Nat):(bitsL ts).testBit p=true↔(2,p)∈ts:=by
 unfold bitsL;rw[qab];simp
def PrX (ts:List Tk) (p:Nat):Prop:=(2,p)∈ts
theorem qgJ(ts:List Tk)(x:Nat):Like (PrX ts) (x &&& bitsL ts) x:=fun p hp=>by
 rw[Nat.testBit_and,(qac ts p).2 hp,Bool.and_true]
theorem qhz{ts:List Tk}{n:Nat}(h:∀p,(2,p)∈ts->p<n):bitsL ts<2 ^ n:=by
 refine Nat.lt_pow_two_of_testBit _ fun i hi=>?_
 cases hb:(bitsL ts).testBit i with
 |false=>rfl
 |true=>exact absurd (h i ((qac ts i).1 hb)) (by omega)
theorem q6a(n:Nat)(box:Bool)(c:Tr)(s:List Nat)(f:Tr)(x:Nat)(M:Mt):pthM (n+1) box (.un (20,0) c) s f x M=bindM (aftM n (if box then (kTr c).2 else c) x M) fun a M1=>twoM (!box) a s M1:=rfl
theorem q64(x:Nat):∀n,(∀T,KT T->hgt T<=n->aftM n T x=aftM (n+1) T x)/\(∀box r s f,KP r->hgt r<=n->pthM n box r s f x=pthM (n+1) box r s f x)
 | 0=>⟨fun T _ h=>absurd (q6i T) (by omega),fun box r s f _ h=>absurd (q6i r) (by omega)⟩
 |n+1=>by
  obtain⟨ih,jh⟩:=q64 x n;refine⟨fun T hT h=>?_,fun box r s f hr h=>?_⟩
  ·match T,hT,h with
   | .leaf k,hT,h=>funext M;rw[qF,qF]
   | .un (op,p) c,hT,h=>funext M;rw[qL,qL]
   | .bin (op,p) c d,hT,h=>
    obtain⟨rfl,ho⟩:=q1J hT;have h2:max (hgt c) (hgt d)+1<=n+1:=h
    funext M
    rw[qw,qw];by_cases h11:op=11\/op=12
    ·obtain⟨kc,kd⟩:=qD hT (by rcases h11 with h|h<;>simp[h])
     rw[if_pos h11,if_pos h11,ih c kc (by omega),ih d kd (by omega)]
    ·rw[if_neg h11,if_neg h11]
     by_cases h15:op=15\/op=16
     ·obtain⟨kc,kd⟩:=qD hT (by rcases h15 with h|h<;>simp[h])
      rw[if_pos h15,if_pos h15,ih c kc (by omega),ih d kd (by omega)]
     ·obtain⟨kc,kd⟩:=q1z hT (by omega)
      rw[if_neg h15,if_neg h15,ih d kd (by omega)]
      congr 1
      funext s M1
      rw[jh _ c s d kc (by omega)]
  ·match r,hr,h with
   | .leaf k,hr,h=>exact(q2D hr).elim
   | .un (op,p) c,hr,h=>
    funext M
    rw[qW,qW];rcases kp_un hr with⟨rfl,⟨rfl,hc,hpl⟩|⟨rfl,hc⟩|⟨rfl,hc⟩⟩
    ·rw[if_pos rfl,if_pos rfl]
    ·have h2:hgt c+1<=n+1:=h
     have hz:∀b:Bool,aftM n (if b then (kTr c).2 else c) x=aftM (n+1) (if b then (kTr c).2 else c) x:=fun b=>by
      cases b
      ·exact ih c hc (by omega)
      ·exact ih _ (q3m hc) (by rw[if_pos rfl,q1l c hc];omega)
     show pthM (n+1) box (.un (20,0) c) s f x M=pthM (n+1+1) box (.un (20,0) c) s f x M
     rw[q6a,q6a,hz box]
    ·have h2:hgt c+1<=n+1:=h
     rw[if_neg (by decide),if_neg (by decide),if_neg (by decide),if_neg (by decide),jh _ c _ _ hc (by omega)]
   | .bin (op,p) c d,hr,h=>
    obtain⟨rfl,ho,kc,kd⟩:=q1y hr;have h2:max (hgt c) (hgt d)+1<=n+1:=h
    funext M
    rw[qQ,qQ];rcases ho with rfl|rfl
    ·rw[if_pos rfl,if_pos rfl,jh _ c _ _ kc (by omega),jh _ d _ _ kd (by omega)]
    ·rw[if_neg (by decide),if_neg (by decide),jh _ d _ _ kd (by omega)]
     congr 1
     funext a M1
     rw[jh _ c _ _ kc (by omega)]
theorem qck{x:Nat}{T:Tr}(hT:KT T){n:Nat}(h:hgt T<=n):∀k,aftM n T x=aftM (n+k) T x
 | 0=>rfl
 |k+1=>(qck hT h k).trans ((q64 x (n+k)).1 T hT (by omega))
theorem qcQ{x:Nat}{box:Bool}{r:Tr}{s:List Nat}{f:Tr}(hr:KP r){n:Nat}(h:hgt r<=n):∀k,pthM n box r s f x=pthM (n+k) box r s f x
 | 0=>rfl
 |k+1=>(qcQ hr h k).trans ((q64 x (n+k)).2 box r s f hr (by omega))
def aftC (T:Tr) (x:Nat) (M:Mt):Rt:=aftM (hgt T) T x M
def pthC (box:Bool) (r:Tr) (s:List Nat) (f:Tr) (x:Nat) (M:Mt):Rt:=pthM (hgt r) box r s f x M
theorem aft_C{x n:Nat}{T:Tr}(hT:KT T)(h:hgt T<=n):aftM n T x=aftC T x:=by
 have:=qck (x:=x) hT (Nat.le_refl (hgt T)) (n-hgt T)
 rw[show hgt T+(n-hgt T)=n by omega]at this
 rw[<-this];rfl
theorem pth_C{x n:Nat}{box:Bool}{r:Tr}{s:List Nat}{f:Tr}(hr:KP r)(h:hgt r<=n):pthM n box r s f x=pthC box r s f x:=by
 have:=qcQ (x:=x) (box:=box) (s:=s) (f:=f) hr (Nat.le_refl (hgt r)) (n-hgt r)
 rw[show hgt r+(n-hgt r)=n by omega]at this
 rw[<-this];rfl
theorem q5Z(k:Tk)(x:Nat)(M:Mt):aftC (.leaf k) x M=some (yesM (if k.1=2 then x.testBit k.2 else k.1==0 || k.1==4),M):=rfl
theorem qge(p:Nat)(c:Tr)(x:Nat)(M:Mt):aftC (.un (6,p) c) x M=some (yesM (!plV x c),M):=rfl
theorem qf4{op:Nat}(ho:op=7\/op=8)(c:Tr)(x:Nat)(M:Mt):aftC (.un (op,0) c) x M=bindM (needM (.leaf (if op=7 then 4 else 5,0)) M) fun a M1=>bindM (needM c M1) fun b M2=>twoM (op==7) a b M2:=by
 unfold aftC;rcases ho with rfl|rfl<;>rfl
theorem q7a{op:Nat}{c d:Tr}(hT:KT (.bin (op,0) c d))(ho:op=11\/op=12)(x:Nat)(M:Mt):aftC (.bin (op,0) c d) x M=bindM (aftC c x M) fun a M1=>bindM (aftC d x M1) fun b M2=>twoM (op==11) a b M2:=by
 obtain⟨kc,kd⟩:=qD hT (by rcases ho with h|h<;>simp[h])
 unfold aftC;rw[show hgt (.bin (op,0) c d)=max (hgt c) (hgt d)+1 from rfl,qw,if_pos ho,aft_C kc (by omega),aft_C kd (by omega)];rfl
theorem qet{op:Nat}{c d:Tr}(hT:KT (.bin (op,0) c d))(ho:op=15\/op=16)(x:Nat)(M:Mt):aftC (.bin (op,0) c d) x M=bindM (aftC d x M) fun b M1=>bindM (aftC c x M1) fun a M2=>bindM (needM (.bin (op,0) c d) M2) fun u M3=>bindM (twoM (op==15) a u M3) fun v M4=>twoM (op==16) b v M4:=by
 obtain⟨kc,kd⟩:=qD hT (by rcases ho with h|h<;>simp[h])
 unfold aftC;rw[show hgt (.bin (op,0) c d)=max (hgt c) (hgt d)+1 from rfl,qw,if_neg (by dsimp only;omega),if_pos ho,aft_C kc (by omega),aft_C kd (by omega)];rfl
theorem qgf{op:Nat}{c d:Tr}(hT:KT (.bin (op,0) c d))(ho:op=17\/op=18)(x:Nat)(M:Mt):aftC (.bin (op,0) c d) x M=bindM (aftC d x M) fun s M1=>pthC (op==18) c s d x M1:=by
 obtain⟨kc,kd⟩:=q1z hT ho;unfold aftC;rw[show hgt (.bin (op,0) c d)=max (hgt c) (hgt d)+1 from rfl,qw,if_neg (by dsimp only;omega),if_neg (by dsimp only;omega),aft_C kd (by omega)]
 congr 1
 funext s M1
 rw[pth_C kc (by omega)]
theorem qaz(box:Bool)(c:Tr)(s:List Nat)(f:Tr)(x:Nat)(M:Mt):pthC box (.un (19,0) c) s f x M=if plV x c then needM f M else some (yesM box,M):=rfl
theorem qaA{box:Bool}{c:Tr}(hr:KP (.un (20,0) c))(s:List Nat)(f:Tr)(x:Nat)(M:Mt):pthC box (.un (20,0) c) s f x M=bindM (aftC (if box then (kTr c).2 else c) x M) fun a M1=>twoM (!box) a s M1:=by
 obtain⟨_,⟨h,_⟩|⟨_,hc⟩|⟨h,_⟩⟩:=kp_un hr
 ·cases h
 ·unfold pthC
  rw[show hgt (.un (20,0) c)=hgt c+1 from rfl,q6a]
  have hz:∀b:Bool,aftM (hgt c) (if b then (kTr c).2 else c) x=aftC (if b then (kTr c).2 else c) x:=fun b=>by
   cases b
   ·exact aft_C hc (Nat.le_refl _)
   ·exact aft_C (q3m hc) (by rw[if_pos rfl,q1l c hc];exact Nat.le_refl _)
  rw[hz box]
 ·cases h
theorem qay{box:Bool}{c:Tr}(hr:KP (.un (23,0) c))(s:List Nat)(f:Tr)(x:Nat)(M:Mt):pthC box (.un (23,0) c) s f x M=bindM (pthC box c (yesM box) (.bin (modeO box,0) (.un (23,0) c) f) x M) fun a M1=>twoM box s a M1:=by
 obtain⟨_,⟨h,_⟩|⟨h,_⟩|⟨_,hc⟩⟩:=kp_un hr
 ·cases h
 ·cases h
 ·unfold pthC
  rw[show hgt (.un (23,0) c)=hgt c+1 from rfl,qW,if_neg (by decide),if_neg (by decide)]
theorem qax{box:Bool}{c d:Tr}(hr:KP (.bin (21,0) c d))(s:List Nat)(f:Tr)(x:Nat)(M:Mt):pthC box (.bin (21,0) c d) s f x M=bindM (pthC box c s f x M) fun a M1=>bindM (pthC box d s f x M1) fun b M2=>twoM box a b M2:=by
 obtain⟨_,_,kc,kd⟩:=q1y hr;unfold pthC;rw[show hgt (.bin (21,0) c d)=max (hgt c) (hgt d)+1 from rfl,qQ,if_pos rfl,pth_C kc (by omega),pth_C kd (by omega)];rfl
theorem qcP{box:Bool}{c d:Tr}(hr:KP (.bin (22,0) c d))(s:List Nat)(f:Tr)(x:Nat)(M:Mt):pthC box (.bin (22,0) c d) s f x M=bindM (pthC box d s f x M) fun a M1=>pthC box c a (.bin (modeO box,0) d f) x M1:=by
 obtain⟨_,_,kc,kd⟩:=q1y hr;unfold pthC;rw[show hgt (.bin (22,0) c d)=max (hgt c) (hgt d)+1 from rfl,qQ,if_neg (by decide),pth_C kd (by omega)]
 congr 1
 funext a M1
 rw[pth_C kc (by omega)];rfl
theorem qf6(T:Tr)(x:Nat):Again (aftC T x):=(q4W x _).1 T
theorem q6n{c:Tr}(h:KP (.un (19,0) c)):KT c/\plainT c=true:=by
 obtain⟨_,hc,hf,_⟩:=qG h.wf;have hk:=h.kr;simp[fit1T]at hf
 exact⟨⟨hc,hf.1,by simpa [kerT] using hk⟩,hf.2⟩
theorem qee(and a b:Bool)(M:Mt):twoM and (yesM a) (yesM b) M=some (yesM (if and then a&&b else a || b),M):=by
 have h:(if and then andM (yesM a) (yesM b) else orM (yesM a) (yesM b))=some (yesM (if and then a&&b else a || b)):=by
  cases and<;>cases a<;>cases b<;>decide +kernel
 unfold twoM;rw[h];rfl
theorem q3j{x:Nat}:∀{T:Tr} (M:Mt),KT T->plainT T=true->aftC T x M=some (yesM (plV x T),M)
 | .leaf (op,p),M,hT,hp=>by
  rw[q5Z];rcases q1X hT with⟨rfl,_⟩|⟨rfl,rfl|rfl|rfl|rfl⟩
  ·rfl
  ·rfl
  ·rfl
  ·cases hp
  ·cases hp
 | .un (op,p) c,M,hT,hp=>by
  rcases kt_un hT with⟨rfl,⟨rfl,q,rfl⟩|⟨ho,hc⟩⟩
  ·rfl
  ·rcases ho with rfl|rfl<;>cases hp
 | .bin (op,p) c d,M,hT,hp=>by
  obtain⟨rfl,ho⟩:=q1J hT;rcases ho with rfl|rfl|rfl|rfl|rfl|rfl
  ·obtain⟨kc,kd⟩:=qD hT (by simp)
   obtain⟨pc,pd⟩:plainT c=true/\plainT d=true:=by rw[qm]at hp;simpa [plainB] using hp
   rw[q7a hT (by simp),q3j M kc pc]
   show bindM (aftC d x M) _=_
   rw[q3j M kd pd];exact qee true (plV x c) (plV x d) M
  ·obtain⟨kc,kd⟩:=qD hT (by simp)
   obtain⟨pc,pd⟩:plainT c=true/\plainT d=true:=by rw[qm]at hp;simpa [plainB] using hp
   rw[q7a hT (by simp),q3j M kc pc]
   show bindM (aftC d x M) _=_
   rw[q3j M kd pd];exact qee false (plV x c) (plV x d) M
  ·rw[qm]at hp;simp[plainB]at hp
  ·rw[qm]at hp;simp[plainB]at hp
  ·rw[qm]at hp;simp[plainB]at hp
  ·rw[qm]at hp;simp[plainB]at hp
def subL:Tr->List Tr
 | .leaf k=>[.leaf k]
 | .un k c=>.un k c::subL c
 | .bin k c d=>.bin k c d::(subL c++subL d)
theorem sub_self(T:Tr):T∈subL T:=by cases T<;>simp[subL]
theorem q6s:∀T:Tr,(subL T).length=T.size
 | .leaf k=>rfl
 | .un k c=>by simp[subL,Tr.size,q6s c]
 | .bin k c d=>by simp[subL,Tr.size,q6s c,q6s d]
theorem q3e:∀{T S:Tr},S∈subL T->S.size<=T.size
 | .leaf k,S,h=>by simp[subL]at h;subst h;exact Nat.le_refl _
 | .un k c,S,h=>by
  simp[subL]at h
  rcases h with rfl|h
  ·exact Nat.le_refl _
  ·have:=q3e h;show _<=c.size+1;omega
 | .bin k c d,S,h=>by
  simp[subL]at h
  rcases h with rfl|h|h
  ·exact Nat.le_refl _
  ·have:=q3e h;show _<=c.size+d.size+1;omega
  ·have:=q3e h;show _<=c.size+d.size+1;omega
theorem q2i:∀{T S R:Tr},S∈subL T->R∈subL S->R∈subL T
 | .leaf k,S,R,h,k2=>by simp[subL]at h;subst h;exact k2
 | .un k c,S,R,h,k2=>by
  simp only[subL,List.mem_cons]at h ⊢
  rcases h with rfl|h
  ·simpa [subL] using k2
  ·exact Or.inr (q2i h k2)
 | .bin k c d,S,R,h,k2=>by
  simp only[subL,List.mem_cons,List.mem_append]at h ⊢
  rcases h with rfl|h|h
  ·simpa [subL] using k2
  ·exact Or.inr (Or.inl (q2i h k2))
  ·exact Or.inr (Or.inr (q2i h k2))
theorem q3r{T c:Tr}{k:Tk}(h:.un k c∈subL T):c∈subL T:=q2i h (by simp[subL,sub_self])
theorem q1m{T c d:Tr}{k:Tk}(h:.bin k c d∈subL T):c∈subL T/\d∈subL T:=⟨q2i h (by simp[subL,sub_self]),q2i h (by simp[subL,sub_self])⟩
theorem q3Y:∀{T S:Tr},KT T\/KP T->S∈subL T->KT S\/KP S
 | .leaf k,S,hT,h=>by simp[subL]at h;subst h;exact hT
 | .un (op,p) c,S,hT,h=>by
  simp only[subL,List.mem_cons]at h
  rcases h with rfl|h
  ·exact hT
  ·refine q3Y ?_ h
   rcases hT with hT|hT
   ·rcases kt_un hT with⟨_,⟨rfl,q,rfl⟩|⟨_,hc⟩⟩
    ·refine Or.inl ?_
     obtain⟨_,hc,hf,_⟩:=qG hT.wf;exact⟨hc,rfl,rfl⟩
    ·exact Or.inl hc
   ·rcases kp_un hT with⟨rfl,⟨rfl,_⟩|⟨_,hc⟩|⟨_,hc⟩⟩
    ·exact Or.inl (q6n hT).1
    ·exact Or.inl hc
    ·exact Or.inr hc
 | .bin (op,p) c d,S,hT,h=>by
  simp only[subL,List.mem_cons,List.mem_append]at h
  have hcd:(KT c\/KP c)/\(KT d\/KP d):=by
   rcases hT with hT|hT
   ·obtain⟨rfl,ho⟩:=q1J hT
    by_cases hw:op=17\/op=18
    ·obtain⟨a,b⟩:=q1z hT hw;exact⟨Or.inr a,Or.inl b⟩
    ·obtain⟨a,b⟩:=qD hT (by omega);exact⟨Or.inl a,Or.inl b⟩
   ·obtain⟨_,_,a,b⟩:=q1y hT;exact⟨Or.inr a,Or.inr b⟩
  rcases h with rfl|h|h
  ·exact hT
  ·exact q3Y hcd.1 h
  ·exact q3Y hcd.2 h
def pws (box:Bool):Tr->Tr->List Tr
 | .leaf _,_=>[]
 | .un k c,f=>if k.1=23 then .bin (modeO box,0) (.un k c) f::pws box c (.bin (modeO box,0) (.un k c) f) else []
 | .bin k c d,f=>if k.1=21 then pws box c f++pws box d f else if k.1=22 then .bin (modeO box,0) d f::(pws box d f++pws box c (.bin (modeO box,0) d f)) else []
theorem q3F(box:Bool):∀(r f:Tr),(pws box r f).length<=r.size
 | .leaf _,_=>Nat.zero_le _
 | .un k c,f=>by
  unfold pws Tr.size
  split
  ·have:=q3F box c (.bin (modeO box,0) (.un k c) f)
   simp;omega
  ·simp
 | .bin k c d,f=>by
  unfold pws Tr.size
  split
  ·have:=q3F box c f
   have:=q3F box d f
   simp;omega
  ·split
   ·have:=q3F box d f
    have:=q3F box c (.bin (modeO box,0) d f)
    simp;omega
   ·simp
theorem q3q(box:Bool):∀{r f T:Tr},T∈pws box r f->∃q F,T=.bin (modeO box,0) q F/\q∈subL r/\(F=f\/F∈pws box r f)/\∀X,X∈pws box q F->X∈pws box r f
 | .leaf _,f,T,h=>by simp[pws]at h
 | .un k c,f,T,h=>by
  unfold pws at h
  split at h
  ·rename_i hk
   have e:pws box (.un k c) f=.bin (modeO box,0) (.un k c) f::pws box c (.bin (modeO box,0) (.un k c) f):=by rw[pws,if_pos hk]
   rcases List.mem_cons.1 h with rfl|h
   ·exact⟨_,f,rfl,sub_self _,Or.inl rfl,fun X hX=>hX⟩
   ·obtain⟨q,F,rfl,h1,h2,h3⟩:=q3q box h
    refine⟨q,F,rfl,by simp[subL,h1],Or.inr ?_,fun X hX=>?_⟩
    ·rw[e]
     rcases h2 with rfl|h2
     ·exact List.mem_cons_self ..
     ·exact List.mem_cons_of_mem _ h2
    ·rw[e];exact List.mem_cons_of_mem _ (h3 X hX)
  ·simp at h
 | .bin k c d,f,T,h=>by
  unfold pws at h
  split at h
  ·rename_i hk
   have e:pws box (.bin k c d) f=pws box c f++pws box d f:=by rw[pws,if_pos hk]
   rcases List.mem_append.1 h with h|h
   ·obtain⟨q,F,rfl,h1,h2,h3⟩:=q3q box h
    refine⟨q,F,rfl,by simp[subL,h1],h2.imp id fun h=>?_,fun X hX=>?_⟩
    ·rw[e];exact List.mem_append.2 (Or.inl h)
    ·rw[e];exact List.mem_append.2 (Or.inl (h3 X hX))
   ·obtain⟨q,F,rfl,h1,h2,h3⟩:=q3q box h
    refine⟨q,F,rfl,by simp[subL,h1],h2.imp id fun h=>?_,fun X hX=>?_⟩
    ·rw[e];exact List.mem_append.2 (Or.inr h)
    ·rw[e];exact List.mem_append.2 (Or.inr (h3 X hX))
  ·split at h
   ·rename_i hk1 hk
    have e:pws box (.bin k c d) f=.bin (modeO box,0) d f::(pws box d f++pws box c (.bin (modeO box,0) d f)):=by rw[pws,if_neg hk1,if_pos hk]
    rcases List.mem_cons.1 h with rfl|h
    ·refine⟨d,f,rfl,by simp[subL,sub_self],Or.inl rfl,fun X hX=>?_⟩
     rw[e];exact List.mem_cons_of_mem _ (List.mem_append.2 (Or.inl hX))
    ·rcases List.mem_append.1 h with h|h
     ·obtain⟨q,F,rfl,h1,h2,h3⟩:=q3q box h
      refine⟨q,F,rfl,by simp[subL,h1],h2.imp id fun h=>?_,fun X hX=>?_⟩
      ·rw[e];exact List.mem_cons_of_mem _ (List.mem_append.2 (Or.inl h))
      ·rw[e];exact List.mem_cons_of_mem _ (List.mem_append.2 (Or.inl (h3 X hX)))
     ·obtain⟨q,F,rfl,h1,h2,h3⟩:=q3q box h
      refine⟨q,F,rfl,by simp[subL,h1],Or.inr ?_,fun X hX=>?_⟩
      ·rw[e]
       rcases h2 with rfl|h2
       ·exact List.mem_cons_self ..
       ·exact List.mem_cons_of_mem _ (List.mem_append.2 (Or.inr h2))
      ·rw[e];exact List.mem_cons_of_mem _ (List.mem_append.2 (Or.inr (h3 X hX)))
   ·simp at h
theorem q4N(box:Bool){R:Nat}:∀{r f T:Tr},r.size<=R->T∈pws box r f->T.size<=f.size+r.size*(R+2)
 | .leaf _,f,T,_,h=>by simp[pws]at h
 | .un k c,f,T,hR,h=>by
  have hs:(Tr.un k c).size=c.size+1:=rfl;have hm:(c.size+1)*(R+2)=c.size*(R+2)+(R+2):=Nat.succ_mul _ _;unfold pws at h
  split at h
  ·rcases List.mem_cons.1 h with rfl|h
   ·show c.size+1+f.size+1<=_
    rw[hs,hm];omega
   ·have:=q4N box (R:=R) (by omega) h
    have e:(Tr.bin (modeO box,0) (.un k c) f).size=c.size+1+f.size+1:=rfl;rw[hs,hm];omega
  ·simp at h
 | .bin k c d,f,T,hR,h=>by
  have hs:(Tr.bin k c d).size=c.size+d.size+1:=rfl;have hm:(c.size+d.size+1)*(R+2)=c.size*(R+2)+d.size*(R+2)+(R+2):=by rw[Nat.add_mul,Nat.add_mul,Nat.one_mul]
  unfold pws at h
  split at h
  ·rcases List.mem_append.1 h with h|h
   ·have:=q4N box (R:=R) (by omega) h
    rw[hs,hm];omega
   ·have:=q4N box (R:=R) (by omega) h
    rw[hs,hm];omega
  ·split at h
   ·have e:(Tr.bin (modeO box,0) d f).size=d.size+f.size+1:=rfl
    rcases List.mem_cons.1 h with rfl|h
    ·rw[e,hs,hm];omega
    ·rcases List.mem_append.1 h with h|h
     ·have:=q4N box (R:=R) (by omega) h
      rw[hs,hm];omega
     ·have:=q4N box (R:=R) (by omega) h
      rw[hs,hm];omega
   ·simp at h
theorem q3E(box:Bool){R:Nat}:∀{r f T:Tr},hgt r<=R->T∈pws box r f->hgt T<=hgt r+max R (hgt f)+1
 | .leaf _,f,T,_,h=>by simp[pws]at h
 | .un k c,f,T,hR,h=>by
  unfold pws at h
  split at h
  ·rename_i hk
   have hs:hgt (.un k c)=hgt c+1:=by rw[hgt,if_neg (by omega)]
   rcases List.mem_cons.1 h with rfl|h
   ·show max (hgt (.un k c)) (hgt f)+1<=_
    omega
   ·have:=q3E box (R:=R) (by omega) h
    have e:hgt (.bin (modeO box,0) (.un k c) f)=max (hgt (.un k c)) (hgt f)+1:=rfl
    omega
  ·simp at h
 | .bin k c d,f,T,hR,h=>by
  have hs:hgt (.bin k c d)=max (hgt c) (hgt d)+1:=rfl;unfold pws at h
  split at h
  ·rcases List.mem_append.1 h with h|h
   ·have:=q3E box (R:=R) (by omega) h
    omega
   ·have:=q3E box (R:=R) (by omega) h
    omega
  ·split at h
   ·have e:hgt (.bin (modeO box,0) d f)=max (hgt d) (hgt f)+1:=rfl
    rcases List.mem_cons.1 h with rfl|h
    ·omega
    ·rcases List.mem_append.1 h with h|h
     ·have:=q3E box (R:=R) (by omega) h
      omega
     ·have:=q3E box (R:=R) (by omega) h
      omega
   ·simp at h
def In0 (T0 T:Tr):Prop:=T∈subL T0\/(∃S,S∈subL T0/\KT S/\T=(kTr S).2)\/T=.leaf (4,0)\/T=.leaf (5,0)
def InC (T0 T:Tr):Prop:=In0 T0 T\/∃box r f,In0 T0 (.bin (modeO box,0) r f)/\T∈pws box r f
theorem qiZ{S c:Tr}{k:Tk}(hS:KT S)(h:(kTr S).2=.un k c):(∃q,S=.leaf (2,q)/\c=S)\/∃d,(∃k2,S=.un k2 d)/\KT d/\c=(kTr d).2:=by
 match S,hS,h with
 | .leaf (op,p),hS,h=>
  rcases q1X hS with⟨rfl,_⟩|⟨rfl,rfl|rfl|rfl|rfl⟩
  ·injection h with h1 h2
   exact Or.inl ⟨p,rfl,h2.symm⟩
  ·cases h
  ·cases h
  ·cases h
  ·cases h
 | .un (op,p) d,hS,h=>
  rcases kt_un hS with⟨rfl,⟨rfl,q,rfl⟩|⟨ho,hd⟩⟩
  ·cases h
  ·refine Or.inr ⟨d,⟨_,rfl⟩,hd,?_⟩
   rcases ho with rfl|rfl
   ·injection h with h1 h2;exact h2.symm
   ·injection h with h1 h2;exact h2.symm
 | .bin (op,p) a b,hS,h=>
  obtain⟨rfl,ho⟩:=q1J hS;rcases ho with rfl|rfl|rfl|rfl|rfl|rfl<;>cases h
theorem qi9{S c d:Tr}{k:Tk}(hS:KT S)(h:(kTr S).2=.bin k c d):∃op a b,S=.bin (op,0) a b/\KT b/\d=(kTr b).2/\((KP a/\c=a/\((op=17/\k=(18,0))\/(op=18/\k=(17,0))))\/(KT a/\c=(kTr a).2/\k.1≠17/\k.1≠18)):=by
 match S,hS,h with
 | .leaf (op,p),hS,h=>
  rcases q1X hS with⟨rfl,_⟩|⟨rfl,rfl|rfl|rfl|rfl⟩<;>cases h
 | .un (op,p) e,hS,h=>
  rcases kt_un hS with⟨rfl,⟨rfl,q,rfl⟩|⟨ho,hd⟩⟩
  ·cases h
  ·rcases ho with rfl|rfl<;>cases h
 | .bin (op,p) a b,hS,h=>
  obtain⟨rfl,ho⟩:=q1J hS;refine⟨op,a,b,rfl,?_⟩
  by_cases hw:op=17\/op=18
  ·obtain⟨ka,kb⟩:=q1z hS hw
   have e:=(q1w a ka.wf ka.kr).1;rcases hw with rfl|rfl
   ·injection h with h1 h2 h3
    exact⟨kb,h3.symm,Or.inl ⟨ka,by rw[<-h2,e],Or.inl ⟨rfl,h1.symm⟩⟩⟩
   ·injection h with h1 h2 h3
    exact⟨kb,h3.symm,Or.inl ⟨ka,by rw[<-h2,e],Or.inr ⟨rfl,h1.symm⟩⟩⟩
  ·obtain⟨ka,kb⟩:=qD hS (by omega)
   have ho4:op=11\/op=12\/op=15\/op=16:=by omega
   rcases ho4 with rfl|rfl|rfl|rfl
   ·injection h with h1 h2 h3;subst h1;exact⟨kb,h3.symm,Or.inr ⟨ka,h2.symm,by decide,by decide⟩⟩
   ·injection h with h1 h2 h3;subst h1;exact⟨kb,h3.symm,Or.inr ⟨ka,h2.symm,by decide,by decide⟩⟩
   ·injection h with h1 h2 h3;subst h1;exact⟨kb,h3.symm,Or.inr ⟨ka,h2.symm,by decide,by decide⟩⟩
   ·injection h with h1 h2 h3;subst h1;exact⟨kb,h3.symm,Or.inr ⟨ka,h2.symm,by decide,by decide⟩⟩
theorem qcB{T0 T:Tr}(h0:KT T0)(h:In0 T0 T):KT T\/KP T:=by
 rcases h with h|⟨S,hS,kS,rfl⟩|rfl|rfl
 ·exact q3Y (Or.inl h0) h
 ·exact Or.inl (q3m kS)
 ·exact Or.inl (q2F 4 (by simp))
 ·exact Or.inl (q2F 5 (by simp))
theorem qiL{T0 c:Tr}{k:Tk}(h:In0 T0 (.un k c)):In0 T0 c:=by
 rcases h with h|⟨S,hS,kS,e⟩|e|e
 ·exact Or.inl (q3r h)
 ·rcases qiZ kS e.symm with⟨q,rfl,rfl⟩|⟨d,⟨k2,rfl⟩,kd,rfl⟩
  ·exact Or.inl hS
  ·exact Or.inr (Or.inl ⟨d,q3r hS,kd,rfl⟩)
 ·cases e
 ·cases e
theorem q6k{T0 c d:Tr}{k:Tk}(h:In0 T0 (.bin k c d)):In0 T0 c/\In0 T0 d/\(k.1=17\/k.1=18->c∈subL T0):=by
 rcases h with h|⟨S,hS,kS,e⟩|e|e
 ·exact⟨Or.inl (q1m h).1,Or.inl (q1m h).2,fun _=>(q1m h).1⟩
 ·obtain⟨op,a,b,rfl,kb,rfl,⟨ka,rfl,ho⟩|⟨ka,rfl,n1,n2⟩⟩:=qi9 kS e.symm
  ·exact⟨Or.inl (q1m hS).1,Or.inr (Or.inl ⟨b,(q1m hS).2,kb,rfl⟩),fun _=>(q1m hS).1⟩
  ·exact⟨Or.inr (Or.inl ⟨a,(q1m hS).1,ka,rfl⟩),Or.inr (Or.inl ⟨b,(q1m hS).2,kb,rfl⟩),fun h=>by omega⟩
 ·cases e
 ·cases e
theorem q5c(box:Bool):modeO box=17\/modeO box=18:=by cases box<;>simp[modeO]
theorem qgL{a b:Bool}(h:modeO a=modeO b):a=b:=by cases a<;>cases b<;>simp[modeO]at h ⊢
theorem qgz(T0:Tr):InC T0 T0:=Or.inl (Or.inl (sub_self _))
theorem q7l{T0:Tr}{op:Nat}(h:op=4\/op=5):InC T0 (.leaf (op,0)):=by
 rcases h with rfl|rfl
 ·exact Or.inl (Or.inr (Or.inr (Or.inl rfl)))
 ·exact Or.inl (Or.inr (Or.inr (Or.inr rfl)))
theorem q6l{T0 S:Tr}(h:S∈subL T0)(k:KT S):InC T0 (kTr S).2:=Or.inl (Or.inr (Or.inl ⟨S,h,k,rfl⟩))
theorem q6m{T0 S:Tr}(h:S∈subL T0):InC T0 S:=Or.inl (Or.inl h)
theorem qiM{T0 c:Tr}{k:Tk}(h:InC T0 (.un k c)):InC T0 c:=by
 rcases h with h|⟨box,r,f,h1,h2⟩
 ·exact Or.inl (qiL h)
 ·obtain⟨q,F,e,_⟩:=q3q box h2
  cases e
theorem qdX{T0 c d:Tr}{k:Tk}(h:InC T0 (.bin k c d)):InC T0 c/\InC T0 d/\(k.1=17\/k.1=18->c∈subL T0):=by
 rcases h with h|⟨box,r,f,h1,h2⟩
 ·obtain⟨a,b,e⟩:=q6k h
  exact⟨Or.inl a,Or.inl b,e⟩
 ·obtain⟨q,F,e,hq,hF,_⟩:=q3q box h2
  injection e with e1 e2 e3;subst e1 e2 e3;obtain⟨a,b,e⟩:=q6k h1;have hs:=q2i (e (q5c box)) hq;refine⟨q6m hs,?_,fun _=>hs⟩
  rcases hF with rfl|hF
  ·exact Or.inl b
  ·exact Or.inr ⟨box,r,f,h1,hF⟩
theorem qhP{T0 r f:Tr}{box:Bool}(h:InC T0 (.bin (modeO box,0) r f)):∀T,T∈pws box r f->InC T0 T:=by
 intro T hT;rcases h with h|⟨b2,r2,f2,h1,h2⟩
 ·exact Or.inr ⟨box,r,f,h,hT⟩
 ·obtain⟨q,F,e,hq,hF,hsub⟩:=q3q b2 h2
  injection e with e1 e2 e3;injection e1 with e1;have:=qgL e1
  subst this e2 e3;exact Or.inr ⟨box,r2,f2,h1,hsub T hT⟩
theorem q3a{T0 T:Tr}(h0:KT T0)(h:InC T0 T):KT T\/KP T:=by
 rcases h with h|⟨box,r,f,h1,h2⟩
 ·exact qcB h0 h
 ·have hr:KT (.bin (modeO box,0) r f):=by
   rcases qcB h0 h1 with h|h
   ·exact h
   ·obtain⟨_,ho,_⟩:=q1y h
    rcases q5c box with e|e<;>omega
  obtain⟨kr,kf⟩:=q1z hr (q5c box);clear h1 hr
  have key:∀(r f T:Tr),KP r->KT f->T∈pws box r f->KT T:=by
   intro r
   induction r with
   |leaf k=>intro f T hr;exact(q2D hr).elim
   |un k c ih=>
    intro f T hr hf hT;unfold pws at hT
    split at hT
    ·rename_i hk
     obtain⟨op,p⟩:=k;dsimp only at hk
     subst hk
     have kc:KP c:=by
      rcases kp_un hr with⟨_,⟨h,_⟩|⟨h,_⟩|⟨_,h⟩⟩
      ·cases h
      ·cases h
      ·exact h
     have hm:=q2E hr hf box;rcases List.mem_cons.1 hT with rfl|hT
     ·exact hm
     ·exact ih _ T kc hm hT
    ·simp at hT
   |bin k c d ihc ihd=>
    intro f T hr hf hT;obtain⟨op,p⟩:=k;obtain⟨_,_,kc,kd⟩:=q1y hr;unfold pws at hT
    split at hT
    ·rcases List.mem_append.1 hT with hT|hT
     ·exact ihc f T kc hf hT
     ·exact ihd f T kd hf hT
    ·split at hT
     ·have hm:=q2E kd hf box
      rcases List.mem_cons.1 hT with rfl|hT
      ·exact hm
      ·rcases List.mem_append.1 hT with hT|hT
       ·exact ihd f T kd hf hT
       ·exact ihc _ T kc hm hT
     ·simp at hT
  exact Or.inl (key r f T kr kf h2)
theorem q3T:∀T:Tr,KT T->(kTr T).2.size<=2*T.size
 | .leaf (op,p),hT=>by rcases q1X hT with⟨rfl,_⟩|⟨rfl,rfl|rfl|rfl|rfl⟩<;>simp[kTr,Tr.size]
 | .un (op,p) c,hT=>by
  rcases kt_un hT with⟨rfl,⟨rfl,q,rfl⟩|⟨ho,hc⟩⟩
  ·simp[kTr,Tr.size]
  ·have ih:=q3T c hc
   rcases ho with rfl|rfl
   ·show (kTr c).2.size+1<=2*(c.size+1);omega
   ·show (kTr c).2.size+1<=2*(c.size+1);omega
 | .bin (op,p) c d,hT=>by
  obtain⟨rfl,ho⟩:=q1J hT;by_cases hw:op=17\/op=18
  ·obtain⟨kc,kd⟩:=q1z hT hw
   have e:=(q1w c kc.wf kc.kr).1;have ih:=q3T d kd;rcases hw with rfl|rfl
   ·show (kTr c).1.size+(kTr d).2.size+1<=2*(c.size+d.size+1);rw[e];omega
   ·show (kTr c).1.size+(kTr d).2.size+1<=2*(c.size+d.size+1);rw[e];omega
  ·obtain⟨kc,kd⟩:=qD hT (by omega)
   have ic:=q3T c kc;have ih:=q3T d kd;have ho4:op=11\/op=12\/op=15\/op=16:=by omega
   rcases ho4 with rfl|rfl|rfl|rfl
   ·show (kTr c).2.size+(kTr d).2.size+1<=2*(c.size+d.size+1);omega
   ·show (kTr c).2.size+(kTr d).2.size+1<=2*(c.size+d.size+1);omega
   ·show (kTr c).2.size+(kTr d).2.size+1<=2*(c.size+d.size+1);omega
   ·show (kTr c).2.size+(kTr d).2.size+1<=2*(c.size+d.size+1);omega
theorem q7k{T0 T:Tr}(h2:T0.size<=2048)(h:In0 T0 T):T.size<=4096/\hgt T<=2048:=by
 rcases h with h|⟨S,hS,kS,rfl⟩|rfl|rfl
 ·have:=q3e h
  have:=q39 T
  omega
 ·have:=q3e hS
  have:=q3T S kS
  rw[q1l S kS];have:=q39 S
  omega
 ·simp[Tr.size,hgt]
 ·simp[Tr.size,hgt]
theorem q55{T0 T:Tr}(h2:T0.size<=2048)(h:InC T0 T):T.size<=20000000/\hgt T<=5000:=by
 rcases h with h|⟨box,r,f,h1,h3⟩
 ·have:=q7k h2 h
  omega
 ·have hr:=q3e ((q6k h1).2.2 (q5c box))
  have hf:=q7k h2 (q6k h1).2.1;have a:=q4N box (R:=2048) (by omega) h3
  have hg:=q39 r;have b:=q3E box (R:=2048) (by omega) h3
  have:r.size*(2048+2)<=2048*(2048+2):=Nat.mul_le_mul_right _ (by omega)
  omega
def allC (T0:Tr):List Tr :=
 let A:=subL T0++(((subL T0).filter fun T=>!pathT T).map (fun T=>(kTr T).2)++[Tr.leaf (4,0),Tr.leaf (5,0)])
 A++A.flatMap fun T=>match T with | .bin k r f=>pws (k.1==18) r f|_=>[]
theorem qhO{T0 T:Tr}(h:InC T0 T):T∈allC T0:=by
 have key:∀T,In0 T0 T->T∈subL T0++(((subL T0).filter fun T=>!pathT T).map (fun T=>(kTr T).2)++[Tr.leaf (4,0),Tr.leaf (5,0)]):=by
  intro T h;rcases h with h|⟨S,hS,kS,rfl⟩|rfl|rfl
  ·exact List.mem_append.2 (Or.inl h)
  ·exact List.mem_append.2 (Or.inr (List.mem_append.2 (Or.inl (List.mem_map.2 ⟨S,List.mem_filter.2 ⟨hS,by simp[kS.np]⟩,rfl⟩))))
  ·simp
  ·simp
 unfold allC;rcases h with h|⟨box,r,f,h1,h2⟩
 ·exact List.mem_append.2 (Or.inl (key T h))
 ·refine List.mem_append.2 (Or.inr (List.mem_flatMap.2 ⟨_,key _ h1,?_⟩))
  show T∈pws ((modeO box)==18) r f
  rw[show (modeO box==18)=box by cases box<;>rfl]
  exact h2
theorem q6L{α β : Type}(g:α -> List β)(B:Nat):∀l:List α,(∀x∈l,(g x).length<=B)->(l.flatMap g).length<=l.length*B
 | [],_=>by simp
 |x::l,h=>by
  have h1:=h x (by simp)
  have h2:=q6L g B l fun y hy=>h y (by simp[hy])
  rw[List.flatMap_cons,List.length_append,List.length_cons,Nat.add_mul]
  omega
theorem qhx{T0:Tr}(h0:KT T0)(h2:T0.size<=2048):(allC T0).length<=20000000:=by
 unfold allC
 have hA:(subL T0++(((subL T0).filter fun T=>!pathT T).map (fun T=>(kTr T).2)++[Tr.leaf (4,0),Tr.leaf (5,0)])).length<=4098:=by
  have:=q6s T0
  have:=List.length_filter_le (fun T=>!pathT T) (subL T0)
  simp only[List.length_append,List.length_map,List.length_cons,List.length_nil]
  omega
 have hin:∀T∈subL T0++(((subL T0).filter fun T=>!pathT T).map (fun T=>(kTr T).2)++[Tr.leaf (4,0),Tr.leaf (5,0)]),In0 T0 T:=by
  intro T hT;rcases List.mem_append.1 hT with h|h
  ·exact Or.inl h
  ·rcases List.mem_append.1 h with h|h
   ·obtain⟨S,hS,rfl⟩:=List.mem_map.1 h
    obtain⟨h1,h3⟩:=List.mem_filter.1 hS
    have hk:KT S:=by
     rcases q3Y (Or.inl h0) h1 with k|k
     ·exact k
     ·rw[k.isp]at h3;cases h3
    exact Or.inr (Or.inl ⟨S,h1,hk,rfl⟩)
   ·simp at h
    rcases h with rfl|rfl
    ·exact Or.inr (Or.inr (Or.inl rfl))
    ·exact Or.inr (Or.inr (Or.inr rfl))
 have hB:=q6L (fun T:Tr=>match T with | .bin k r f=>pws (k.1==18) r f|_=>[]) 4096 _ (fun T hT=>by
  have:=(q7k h2 (hin T hT)).1
  cases T with
  |leaf k=>exact Nat.zero_le _
  |un k c=>exact Nat.zero_le _
  |bin k r f=>
   have:=q3F (k.1==18) r f
   have e:(Tr.bin k r f).size=r.size+f.size+1:=rfl
   show (pws (k.1==18) r f).length<=4096
   omega)
 rw[List.length_append];generalize (subL T0++(((subL T0).filter fun T=>!pathT T).map (fun T=>(kTr T).2)++[Tr.leaf (4,0),Tr.leaf (5,0)]))=A at *;have:A.length*4096<=4098*4096:=Nat.mul_le_mul_right _ hA
 omega
theorem q7s{α : Type}:∀{l m:List α},l.Nodup->(∀x∈l,x∈m)->l.length<=m.length
 | [],m,_,_=>Nat.zero_le _
 |x::l,m,hn,h=>by
  obtain⟨a,b,rfl⟩:=List.append_of_mem (h x (by simp))
  rw[List.nodup_cons]at hn
  have:=q7s (m:=a++b) hn.2 fun y hy=>by
   have:=h y (by simp[hy])
   simp at this ⊢
   rcases this with h1|rfl|h1
   ·exact Or.inl h1
   ·exact absurd hy hn.1
   ·exact Or.inr h1
  simp at this ⊢
  omega
theorem q56:∀(T:Tr) (items:List It),items.Nodup->Low items->∀n,n<(insT items T).1.length->n<items.length\/∃S,Rep (insT items T).1 n S/\S∈subL T
 | .leaf k,items,hn,hl,n,hlt=>by
  have ok:=q1t (.leaf k) items hn hl;by_cases h:n<items.length
  ·exact Or.inl h
  ·obtain⟨l,e,hl1⟩:=q2x items (itemOf k [])
   have e2:(insT items (.leaf k)).1=items++l:=e;rcases q1n items (itemOf k []) with⟨j,e3,_⟩|⟨e3,_⟩
   ·exfalso
    have:(insT items (.leaf k)).1=items:=congrArg Prod.fst e3
    rw[this]at hlt;exact h hlt
   ·have e4:(insT items (.leaf k))=(items++[itemOf k []],items.length):=e3
    rw[e4]at hlt ok ⊢;simp at hlt
    obtain rfl:n=items.length:=by omega
    exact Or.inr ⟨_,ok.rep,sub_self _⟩
 | .un k c,items,hn,hl,n,hlt=>by
  have ok:=q1t (.un k c) items hn hl;have ih:=q1t c items hn hl;have key:(insT items (.un k c))=addI (insT items c).1 (itemOf k [(insT items c).2]):=rfl;by_cases h:n<(insT items c).1.length
  ·refine (q56 c items hn hl n h).imp id ?_
   rintro⟨S,h1,h2⟩
   refine⟨S,?_,by simp[subL,h2]⟩
   obtain⟨l,e,_⟩:=q2x (insT items c).1 (itemOf k [(insT items c).2]);rw[key,e];exact h1.more l
  ·rcases q1n (insT items c).1 (itemOf k [(insT items c).2]) with⟨j,e3,_⟩|⟨e3,_⟩
   ·exfalso
    rw[key,e3]at hlt;exact h hlt
   ·rw[key,e3]at hlt ok ⊢
    simp at hlt
    obtain rfl:n=(insT items c).1.length:=by omega
    exact Or.inr ⟨_,ok.rep,sub_self _⟩
 | .bin k c d,items,hn,hl,n,hlt=>by
  have ok:=q1t (.bin k c d) items hn hl;have ih:=q1t c items hn hl;have jh:=q1t d _ ih.nodup ih.low;have key:(insT items (.bin k c d))=addI (insT (insT items c).1 d).1 (itemOf k [(insT items c).2,(insT (insT items c).1 d).2]):=rfl;obtain⟨l,e,_⟩:=q2x (insT (insT items c).1 d).1 (itemOf k [(insT items c).2,(insT (insT items c).1 d).2]);by_cases h:n<(insT (insT items c).1 d).1.length
  ·rcases q56 d _ ih.nodup ih.low n h with h1|⟨S,h1,h2⟩
   ·refine (q56 c items hn hl n h1).imp id ?_
    rintro⟨S,h3,h4⟩
    refine⟨S,?_,by simp[subL,h4]⟩
    obtain⟨l2,e2,_⟩:=jh.pre;rw[key,e,e2,List.append_assoc];exact h3.more _
   ·refine Or.inr ⟨S,?_,by simp[subL,h2]⟩
    rw[key,e];exact h1.more l
  ·rcases q1n (insT (insT items c).1 d).1 (itemOf k [(insT items c).2,(insT (insT items c).1 d).2]) with⟨j,e3,_⟩|⟨e3,_⟩
   ·exfalso
    rw[key,e3]at hlt;exact h hlt
   ·rw[key,e3]at hlt ok ⊢
    simp at hlt
    obtain rfl:n=(insT (insT items c).1 d).1.length:=by omega
    exact Or.inr ⟨_,ok.rep,sub_self _⟩
structure PtK (T:Tr) (items:List It) (n:Nat):Prop where
 nd:items.Nodup
 low:Low items
 few:items.length<=2048
 cov:∀n,n<items.length->∃S,Rep items n S/\InC T S
 rep:Rep items n T
theorem q4g:∀T:Tr,T.size=T.flat.length
 | .leaf k=>rfl
 | .un k c=>by simp[Tr.size,Tr.flat,q4g c]
 | .bin k c d=>by simp[Tr.size,Tr.flat,q4g c,q4g d];omega
theorem qgF{ts:List Tk}(hc:chkE ts=0):∃T,KT T/\T.size<=2048/\ts=T.flat/\keepE [] ts=0/\PtK T (keepI [] ts) (keepN [] ts):=by
 obtain⟨hts,T,hW,hp,hk,rfl⟩:=q34.1 hc;have hsz:T.size<=2048:=by rw[q4g];exact hts
 have hl0:Low []:=fun n x h=>(by simp at h)
 obtain⟨e1,e2⟩:=q9L hW [];have ok:=q1t T [] (by simp) hl0
 obtain⟨l,el,hll⟩:=ok.pre;have hlen:(insT [] T).1.length<=2048:=by rw[el];simp;omega
 have hE:keepE [] T.flat=0:=by unfold keepE;rw[if_neg (by omega),e1,if_neg (by omega)]
 have hI:keepI [] T.flat=(insT [] T).1:=by unfold keepI;rw[if_pos hE,e1]
 have hN:keepN [] T.flat=(insT [] T).2:=by unfold keepN;rw[if_pos hE,e2]
 refine⟨T,⟨hW,hp,hk⟩,hsz,rfl,hE,?_⟩
 rw[hI,hN];refine⟨ok.nodup,ok.low,hlen,fun n hn=>?_,ok.rep⟩
 rcases q56 T [] (by simp) hl0 n hn with h|⟨S,h1,h2⟩
 ·simp at h
 ·exact⟨S,h1,q6m h2⟩
theorem dk1:detM p0T 1=.ok ([0,-2,-3],[(0,-2,-3)],[[1],[],[0]],[[(2,0)]]):=by kernel_rfl
end Go.Proofs.YtailhklbmenaoaaGreatDoor
