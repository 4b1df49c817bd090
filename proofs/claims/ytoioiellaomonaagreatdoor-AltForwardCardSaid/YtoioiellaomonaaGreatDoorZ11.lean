import Derived.Test.YtoioiellaomonaaGreatDoorZ01
import Derived.Test.YtoioiellaomonaaGreatDoorZ02
set_option maxRecDepth 100000
set_option maxHeartbeats 16000000
namespace Go.Proofs.YtoioiellaomonaaGreatDoor
variable {x n op j i:Nat}{T r f c d S T0:Tr}{box:Bool}{k:Tk}{xs l t ys out:List Nat}{M M':Mt}
theorem XW(n:Nat)(box:Bool)(c:Tr)(s:List Nat)(f:Tr)(x:Nat)(M:Mt):fO (n+1) box (.un (20,0) c) s f x M=bindM (eu n (if box then (aZ c).2 else c) x M) fun a M1=>bF (!box) a s M1:=rfl
theorem XY(x:Nat):∀n,(∀T,KT T->hgt T<=n->eu n T x=eu (n+1) T x)/\(∀box r s f,KP r->hgt r<=n->fO n box r s f x=fO (n+1) box r s f x)
 | 0=>⟨fun T _ h=>absurd (LY T) (by omega),fun box r s f _ h=>absurd (LY r) (by omega)⟩
 |n+1=>by
  obtain⟨ih,jh⟩:=XY x n;refine⟨fun T hT h=>?_,fun box r s f hr h=>?_⟩
  ·match T,hT,h with
   | .leaf k,hT,h=>funext M;rw[EX,EX]
   | .un (op,p) c,hT,h=>funext M;rw[CJ,CJ]
   | .bin (op,p) c d,hT,h=>
    obtain⟨rfl,ho⟩:=xG hT;have h2:max (hgt c) (hgt d)+1<=n+1:=h
    funext M
    rw[zS,zS];by_cases h11:op=11\/op=12
    ·obtain⟨kc,kd⟩:=qB hT (by rcases h11 with h|h<;>simp[h])
     rw[if_pos h11,if_pos h11,ih c kc (by omega),ih d kd (by omega)]
    ·rw[if_neg h11,if_neg h11]
     by_cases h15:op=15\/op=16
     ·obtain⟨kc,kd⟩:=qB hT (by rcases h15 with h|h<;>simp[h])
      rw[if_pos h15,if_pos h15,ih c kc (by omega),ih d kd (by omega)]
     ·obtain⟨kc,kd⟩:=uP hT (by omega)
      rw[if_neg h15,if_neg h15,ih d kd (by omega)]
      congr 1
      funext s M1
      rw[jh _ c s d kc (by omega)]
  ·match r,hr,h with
   | .leaf k,hr,h=>exact(EZ hr).elim
   | .un (op,p) c,hr,h=>
    funext M
    rw[BD,BD];rcases kC hr with⟨rfl,⟨rfl,hc,hpl⟩|⟨rfl,hc⟩|⟨rfl,hc⟩⟩
    ·rw[if_pos rfl,if_pos rfl]
    ·have h2:hgt c+1<=n+1:=h
     have hz:∀b:Bool,eu n (if b then (aZ c).2 else c) x=eu (n+1) (if b then (aZ c).2 else c) x:=fun b=>by
      cases b
      ·exact ih c hc (by omega)
      ·exact ih _ (GY hc) (by rw[if_pos rfl,yJ c hc];omega)
     show fO (n+1) box (.un (20,0) c) s f x M=fO (n+1+1) box (.un (20,0) c) s f x M
     rw[XW,XW,hz box]
    ·have h2:hgt c+1<=n+1:=h
     rw[if_neg (by decide),if_neg (by decide),if_neg (by decide),if_neg (by decide),jh _ c _ _ hc (by omega)]
   | .bin (op,p) c d,hr,h=>
    obtain⟨rfl,ho,kc,kd⟩:=xH hr;have h2:max (hgt c) (hgt d)+1<=n+1:=h
    funext M
    rw[CO,CO];rcases ho with rfl|rfl
    ·rw[if_pos rfl,if_pos rfl,jh _ c _ _ kc (by omega),jh _ d _ _ kd (by omega)]
    ·rw[if_neg (by decide),if_neg (by decide),jh _ d _ _ kd (by omega)]
     congr 1
     funext a M1
     rw[jh _ c _ _ kc (by omega)]
theorem mq{x:Nat}{T:Tr}(hT:KT T){n:Nat}(h:hgt T<=n):∀k,eu n T x=eu (n+k) T x
 | 0=>rfl
 |k+1=>(mq hT h k).trans ((XY x (n+k)).1 T hT (by omega))
theorem mA{x:Nat}{box:Bool}{r:Tr}{s:List Nat}{f:Tr}(hr:KP r){n:Nat}(h:hgt r<=n):∀k,fO n box r s f x=fO (n+k) box r s f x
 | 0=>rfl
 |k+1=>(mA hr h k).trans ((XY x (n+k)).2 box r s f hr (by omega))
def bK(T:Tr)(x:Nat)(M:Mt):Rt:=eu (hgt T) T x M
def dH(box:Bool)(r:Tr)(s:List Nat)(f:Tr)(x:Nat)(M:Mt):Rt:=fO (hgt r) box r s f x M
theorem oN(hT:KT T)(h:hgt T<=n):eu n T x=bK T x:=by
 have:=mq (x:=x) hT (Nat.le_refl (hgt T)) (n-hgt T)
 rw[show hgt T+(n-hgt T)=n by omega]at this
 rw[<-this];rfl
theorem yc{s:List Nat}(hr:KP r)(h:hgt r<=n):fO n box r s f x=dH box r s f x:=by
 have:=mA (x:=x) (box:=box) (s:=s) (f:=f) hr (Nat.le_refl (hgt r)) (n-hgt r)
 rw[show hgt r+(n-hgt r)=n by omega]at this
 rw[<-this];rfl
theorem XZ(k:Tk)(x:Nat)(M:Mt):bK (.leaf k) x M=some (bU (if k.1=2 then x.testBit k.2 else k.1==0 || k.1==4),M):=rfl
theorem qg9(p:Nat)(c:Tr)(x:Nat)(M:Mt):bK (.un (6,p) c) x M=some (bU (!jR x c),M):=rfl
theorem X0(ho:op=7\/op=8)(c:Tr)(x:Nat)(M:Mt):bK (.un (op,0) c) x M=bindM (aH (.leaf (if op=7 then 4 else 5,0)) M) fun a M1=>bindM (aH c M1) fun b M2=>bF (op==7) a b M2:=by
 unfold bK;rcases ho with rfl|rfl<;>rfl
theorem P8(hT:KT (.bin (op,0) c d))(ho:op=11\/op=12)(x:Nat)(M:Mt):bK (.bin (op,0) c d) x M=bindM (bK c x M) fun a M1=>bindM (bK d x M1) fun b M2=>bF (op==11) a b M2:=by
 obtain⟨kc,kd⟩:=qB hT (by rcases ho with h|h<;>simp[h])
 unfold bK;rw[show hgt (.bin (op,0) c d)=max (hgt c) (hgt d)+1 from rfl,zS,if_pos ho,oN kc (by omega),oN kd (by omega)];rfl
theorem X3(hT:KT (.bin (op,0) c d))(ho:op=15\/op=16)(x:Nat)(M:Mt):bK (.bin (op,0) c d) x M=bindM (bK d x M) fun b M1=>bindM (bK c x M1) fun a M2=>bindM (aH (.bin (op,0) c d) M2) fun u M3=>bindM (bF (op==15) a u M3) fun v M4=>bF (op==16) b v M4:=by
 obtain⟨kc,kd⟩:=qB hT (by rcases ho with h|h<;>simp[h])
 unfold bK;rw[show hgt (.bin (op,0) c d)=max (hgt c) (hgt d)+1 from rfl,zS,if_neg (by dsimp only;omega),if_pos ho,oN kc (by omega),oN kd (by omega)];rfl
theorem X6(hT:KT (.bin (op,0) c d))(ho:op=17\/op=18)(x:Nat)(M:Mt):bK (.bin (op,0) c d) x M=bindM (bK d x M) fun s M1=>dH (op==18) c s d x M1:=by
 obtain⟨kc,kd⟩:=uP hT ho;unfold bK;rw[show hgt (.bin (op,0) c d)=max (hgt c) (hgt d)+1 from rfl,zS,if_neg (by dsimp only;omega),if_neg (by dsimp only;omega),oN kd (by omega)]
 congr 1
 funext s M1
 rw[yc kc (by omega)]
theorem UC(box:Bool)(c:Tr)(s:List Nat)(f:Tr)(x:Nat)(M:Mt):dH box (.un (19,0) c) s f x M=if jR x c then aH f M else some (bU box,M):=rfl
theorem UD(hr:KP (.un (20,0) c))(s:List Nat)(f:Tr)(x:Nat)(M:Mt):dH box (.un (20,0) c) s f x M=bindM (bK (if box then (aZ c).2 else c) x M) fun a M1=>bF (!box) a s M1:=by
 obtain⟨_,⟨h,_⟩|⟨_,hc⟩|⟨h,_⟩⟩:=kC hr
 ·cases h
 ·unfold dH
  rw[show hgt (.un (20,0) c)=hgt c+1 from rfl,XW]
  have hz:∀b:Bool,eu (hgt c) (if b then (aZ c).2 else c) x=bK (if b then (aZ c).2 else c) x:=fun b=>by
   cases b
   ·exact oN hc (Nat.le_refl _)
   ·exact oN (GY hc) (by rw[if_pos rfl,yJ c hc];exact Nat.le_refl _)
  rw[hz box]
 ·cases h
theorem X7(hr:KP (.un (23,0) c))(s:List Nat)(f:Tr)(x:Nat)(M:Mt):dH box (.un (23,0) c) s f x M=bindM (dH box c (bU box) (.bin (aO box,0) (.un (23,0) c) f) x M) fun a M1=>bF box s a M1:=by
 obtain⟨_,⟨h,_⟩|⟨h,_⟩|⟨_,hc⟩⟩:=kC hr
 ·cases h
 ·cases h
 ·unfold dH
  rw[show hgt (.un (23,0) c)=hgt c+1 from rfl,BD,if_neg (by decide),if_neg (by decide)]
theorem X8(hr:KP (.bin (21,0) c d))(s:List Nat)(f:Tr)(x:Nat)(M:Mt):dH box (.bin (21,0) c d) s f x M=bindM (dH box c s f x M) fun a M1=>bindM (dH box d s f x M1) fun b M2=>bF box a b M2:=by
 obtain⟨_,_,kc,kd⟩:=xH hr;unfold dH;rw[show hgt (.bin (21,0) c d)=max (hgt c) (hgt d)+1 from rfl,CO,if_pos rfl,yc kc (by omega),yc kd (by omega)];rfl
theorem X9(hr:KP (.bin (22,0) c d))(s:List Nat)(f:Tr)(x:Nat)(M:Mt):dH box (.bin (22,0) c d) s f x M=bindM (dH box d s f x M) fun a M1=>dH box c a (.bin (aO box,0) d f) x M1:=by
 obtain⟨_,_,kc,kd⟩:=xH hr;unfold dH;rw[show hgt (.bin (22,0) c d)=max (hgt c) (hgt d)+1 from rfl,CO,if_neg (by decide),yc kd (by omega)]
 congr 1
 funext a M1
 rw[yc kc (by omega)];rfl
theorem qfd(T:Tr)(x:Nat):Again (bK T x):=(Uc x _).1 T
theorem UE(h:KP (.un (19,0) c)):KT c/\bD c=true:=by
 obtain⟨_,hc,hf,_⟩:=qw h.wf;have hk:=h.kr;simp[bV]at hf
 exact⟨⟨hc,hf.1,by simpa [bC] using hk⟩,hf.2⟩
theorem mB(and a b:Bool)(M:Mt):bF and (bU a) (bU b) M=some (bU (if and then a&&b else a || b),M):=by
 have h:(if and then andM (bU a) (bU b) else orM (bU a) (bU b))=some (bU (if and then a&&b else a || b)):=by
  cases and<;>cases a<;>cases b<;>decide +kernel
 unfold bF;rw[h];rfl
theorem P9{x:Nat}:∀{T:Tr}(M:Mt),KT T->bD T=true->bK T x M=some (bU (jR x T),M)
 | .leaf (op,p),M,hT,hp=>by
  rw[XZ];rcases Aw hT with⟨rfl,_⟩|⟨rfl,rfl|rfl|rfl|rfl⟩
  ·rfl
  ·rfl
  ·rfl
  ·cases hp
  ·cases hp
 | .un (op,p) c,M,hT,hp=>by
  rcases ku hT with⟨rfl,⟨rfl,q,rfl⟩|⟨ho,hc⟩⟩
  ·rfl
  ·rcases ho with rfl|rfl<;>cases hp
 | .bin (op,p) c d,M,hT,hp=>by
  obtain⟨rfl,ho⟩:=xG hT;rcases ho with rfl|rfl|rfl|rfl|rfl|rfl
  ·obtain⟨kc,kd⟩:=qB hT (by simp)
   obtain⟨pc,pd⟩:bD c=true/\bD d=true:=by rw[qn]at hp;simpa [aU] using hp
   rw[P8 hT (by simp),P9 M kc pc]
   show bindM (bK d x M) _=_
   rw[P9 M kd pd];exact mB true (jR x c) (jR x d) M
  ·obtain⟨kc,kd⟩:=qB hT (by simp)
   obtain⟨pc,pd⟩:bD c=true/\bD d=true:=by rw[qn]at hp;simpa [aU] using hp
   rw[P8 hT (by simp),P9 M kc pc]
   show bindM (bK d x M) _=_
   rw[P9 M kd pd];exact mB false (jR x c) (jR x d) M
  ·rw[qn]at hp;simp[aU]at hp
  ·rw[qn]at hp;simp[aU]at hp
  ·rw[qn]at hp;simp[aU]at hp
  ·rw[qn]at hp;simp[aU]at hp
def bY:Tr->List Tr
 | .leaf k=>[.leaf k]
 | .un k c=>.un k c::bY c
 | .bin k c d=>.bin k c d::(bY c++bY d)
theorem sub_self(T:Tr):T∈bY T:=by cases T<;>simp[bY]
theorem UF:∀T:Tr,(bY T).length=T.size
 | .leaf k=>rfl
 | .un k c=>by simp[bY,Tr.size,UF c]
 | .bin k c d=>by simp[bY,Tr.size,UF c,UF d]
theorem BH:∀{T S:Tr},S∈bY T->S.size<=T.size
 | .leaf k,S,h=>by simp[bY]at h;subst h;exact Nat.le_refl _
 | .un k c,S,h=>by
  simp[bY]at h
  rcases h with rfl|h
  ·exact Nat.le_refl _
  ·have:=BH h;show _<=c.size+1;omega
 | .bin k c d,S,h=>by
  simp[bY]at h
  rcases h with rfl|h|h
  ·exact Nat.le_refl _
  ·have:=BH h;show _<=c.size+d.size+1;omega
  ·have:=BH h;show _<=c.size+d.size+1;omega
theorem JE:∀{T S R:Tr},S∈bY T->R∈bY S->R∈bY T
 | .leaf k,S,R,h,k2=>by simp[bY]at h;subst h;exact k2
 | .un k c,S,R,h,k2=>by
  simp only[bY,List.mem_cons]at h ⊢
  rcases h with rfl|h
  ·simpa [bY] using k2
  ·exact Or.inr (JE h k2)
 | .bin k c d,S,R,h,k2=>by
  simp only[bY,List.mem_cons,List.mem_append]at h ⊢
  rcases h with rfl|h|h
  ·simpa [bY] using k2
  ·exact Or.inr (Or.inl (JE h k2))
  ·exact Or.inr (Or.inr (JE h k2))
theorem EC(h:.un k c∈bY T):c∈bY T:=JE h (by simp[bY,sub_self])
theorem yg(h:.bin k c d∈bY T):c∈bY T/\d∈bY T:=⟨JE h (by simp[bY,sub_self]),JE h (by simp[bY,sub_self])⟩
theorem Qa:∀{T S:Tr},KT T\/KP T->S∈bY T->KT S\/KP S
 | .leaf k,S,hT,h=>by simp[bY]at h;subst h;exact hT
 | .un (op,p) c,S,hT,h=>by
  simp only[bY,List.mem_cons]at h
  rcases h with rfl|h
  ·exact hT
  ·refine Qa ?_ h
   rcases hT with hT|hT
   ·rcases ku hT with⟨_,⟨rfl,q,rfl⟩|⟨_,hc⟩⟩
    ·refine Or.inl ?_
     obtain⟨_,hc,hf,_⟩:=qw hT.wf;exact⟨hc,rfl,rfl⟩
    ·exact Or.inl hc
   ·rcases kC hT with⟨rfl,⟨rfl,_⟩|⟨_,hc⟩|⟨_,hc⟩⟩
    ·exact Or.inl (UE hT).1
    ·exact Or.inl hc
    ·exact Or.inr hc
 | .bin (op,p) c d,S,hT,h=>by
  simp only[bY,List.mem_cons,List.mem_append]at h
  have hcd:(KT c\/KP c)/\(KT d\/KP d):=by
   rcases hT with hT|hT
   ·obtain⟨rfl,ho⟩:=xG hT
    by_cases hw:op=17\/op=18
    ·obtain⟨a,b⟩:=uP hT hw;exact⟨Or.inr a,Or.inl b⟩
    ·obtain⟨a,b⟩:=qB hT (by omega);exact⟨Or.inl a,Or.inl b⟩
   ·obtain⟨_,_,a,b⟩:=xH hT;exact⟨Or.inr a,Or.inr b⟩
  rcases h with rfl|h|h
  ·exact hT
  ·exact Qa hcd.1 h
  ·exact Qa hcd.2 h
def iK(box:Bool):Tr->Tr->List Tr
 | .leaf _,_=>[]
 | .un k c,f=>if k.1=23 then .bin (aO box,0) (.un k c) f::iK box c (.bin (aO box,0) (.un k c) f) else []
 | .bin k c d,f=>if k.1=21 then iK box c f++iK box d f else if k.1=22 then .bin (aO box,0) d f::(iK box d f++iK box c (.bin (aO box,0) d f)) else []
theorem MG(box:Bool):∀(r f:Tr),(iK box r f).length<=r.size
 | .leaf _,_=>Nat.zero_le _
 | .un k c,f=>by
  unfold iK Tr.size
  split
  ·have:=MG box c (.bin (aO box,0) (.un k c) f)
   simp;omega
  ·simp
 | .bin k c d,f=>by
  unfold iK Tr.size
  split
  ·have:=MG box c f
   have:=MG box d f
   simp;omega
  ·split
   ·have:=MG box d f
    have:=MG box c (.bin (aO box,0) d f)
    simp;omega
   ·simp
theorem Ie(box:Bool):∀{r f T:Tr},T∈iK box r f->∃q F,T=.bin (aO box,0) q F/\q∈bY r/\(F=f\/F∈iK box r f)/\∀X,X∈iK box q F->X∈iK box r f
 | .leaf _,f,T,h=>by simp[iK]at h
 | .un k c,f,T,h=>by
  unfold iK at h
  split at h
  ·rename_i hk
   have e:iK box (.un k c) f=.bin (aO box,0) (.un k c) f::iK box c (.bin (aO box,0) (.un k c) f):=by rw[iK,if_pos hk]
   rcases List.mem_cons.1 h with rfl|h
   ·exact⟨_,f,rfl,sub_self _,Or.inl rfl,fun X hX=>hX⟩
   ·obtain⟨q,F,rfl,h1,h2,h3⟩:=Ie box h
    refine⟨q,F,rfl,by simp[bY,h1],Or.inr ?_,fun X hX=>?_⟩
    ·rw[e]
     rcases h2 with rfl|h2
     ·exact List.mem_cons_self ..
     ·exact List.mem_cons_of_mem _ h2
    ·rw[e];exact List.mem_cons_of_mem _ (h3 X hX)
  ·simp at h
 | .bin k c d,f,T,h=>by
  unfold iK at h
  split at h
  ·rename_i hk
   have e:iK box (.bin k c d) f=iK box c f++iK box d f:=by rw[iK,if_pos hk]
   rcases List.mem_append.1 h with h|h
   ·obtain⟨q,F,rfl,h1,h2,h3⟩:=Ie box h
    refine⟨q,F,rfl,by simp[bY,h1],h2.imp id fun h=>?_,fun X hX=>?_⟩
    ·rw[e];exact List.mem_append.2 (Or.inl h)
    ·rw[e];exact List.mem_append.2 (Or.inl (h3 X hX))
   ·obtain⟨q,F,rfl,h1,h2,h3⟩:=Ie box h
    refine⟨q,F,rfl,by simp[bY,h1],h2.imp id fun h=>?_,fun X hX=>?_⟩
    ·rw[e];exact List.mem_append.2 (Or.inr h)
    ·rw[e];exact List.mem_append.2 (Or.inr (h3 X hX))
  ·split at h
   ·rename_i hk1 hk
    have e:iK box (.bin k c d) f=.bin (aO box,0) d f::(iK box d f++iK box c (.bin (aO box,0) d f)):=by rw[iK,if_neg hk1,if_pos hk]
    rcases List.mem_cons.1 h with rfl|h
    ·refine⟨d,f,rfl,by simp[bY,sub_self],Or.inl rfl,fun X hX=>?_⟩
     rw[e];exact List.mem_cons_of_mem _ (List.mem_append.2 (Or.inl hX))
    ·rcases List.mem_append.1 h with h|h
     ·obtain⟨q,F,rfl,h1,h2,h3⟩:=Ie box h
      refine⟨q,F,rfl,by simp[bY,h1],h2.imp id fun h=>?_,fun X hX=>?_⟩
      ·rw[e];exact List.mem_cons_of_mem _ (List.mem_append.2 (Or.inl h))
      ·rw[e];exact List.mem_cons_of_mem _ (List.mem_append.2 (Or.inl (h3 X hX)))
     ·obtain⟨q,F,rfl,h1,h2,h3⟩:=Ie box h
      refine⟨q,F,rfl,by simp[bY,h1],Or.inr ?_,fun X hX=>?_⟩
      ·rw[e]
       rcases h2 with rfl|h2
       ·exact List.mem_cons_self ..
       ·exact List.mem_cons_of_mem _ (List.mem_append.2 (Or.inr h2))
      ·rw[e];exact List.mem_cons_of_mem _ (List.mem_append.2 (Or.inr (h3 X hX)))
   ·simp at h
theorem JF(box:Bool){R:Nat}:∀{r f T:Tr},r.size<=R->T∈iK box r f->T.size<=f.size+r.size*(R+2)
 | .leaf _,f,T,_,h=>by simp[iK]at h
 | .un k c,f,T,hR,h=>by
  have hs:(Tr.un k c).size=c.size+1:=rfl;have hm:(c.size+1)*(R+2)=c.size*(R+2)+(R+2):=Nat.succ_mul _ _;unfold iK at h
  split at h
  ·rcases List.mem_cons.1 h with rfl|h
   ·show c.size+1+f.size+1<=_
    rw[hs,hm];omega
   ·have:=JF box (R:=R) (by omega) h
    have e:(Tr.bin (aO box,0) (.un k c) f).size=c.size+1+f.size+1:=rfl;rw[hs,hm];omega
  ·simp at h
 | .bin k c d,f,T,hR,h=>by
  have hs:(Tr.bin k c d).size=c.size+d.size+1:=rfl;have hm:(c.size+d.size+1)*(R+2)=c.size*(R+2)+d.size*(R+2)+(R+2):=by rw[Nat.add_mul,Nat.add_mul,Nat.one_mul]
  unfold iK at h
  split at h
  ·rcases List.mem_append.1 h with h|h
   ·have:=JF box (R:=R) (by omega) h
    rw[hs,hm];omega
   ·have:=JF box (R:=R) (by omega) h
    rw[hs,hm];omega
  ·split at h
   ·have e:(Tr.bin (aO box,0) d f).size=d.size+f.size+1:=rfl
    rcases List.mem_cons.1 h with rfl|h
    ·rw[e,hs,hm];omega
    ·rcases List.mem_append.1 h with h|h
     ·have:=JF box (R:=R) (by omega) h
      rw[hs,hm];omega
     ·have:=JF box (R:=R) (by omega) h
      rw[hs,hm];omega
   ·simp at h
theorem MH(box:Bool){R:Nat}:∀{r f T:Tr},hgt r<=R->T∈iK box r f->hgt T<=hgt r+max R (hgt f)+1
 | .leaf _,f,T,_,h=>by simp[iK]at h
 | .un k c,f,T,hR,h=>by
  unfold iK at h
  split at h
  ·rename_i hk
   have hs:hgt (.un k c)=hgt c+1:=by rw[hgt,if_neg (by omega)]
   rcases List.mem_cons.1 h with rfl|h
   ·show max (hgt (.un k c)) (hgt f)+1<=_
    omega
   ·have:=MH box (R:=R) (by omega) h
    have e:hgt (.bin (aO box,0) (.un k c) f)=max (hgt (.un k c)) (hgt f)+1:=rfl
    omega
  ·simp at h
 | .bin k c d,f,T,hR,h=>by
  have hs:hgt (.bin k c d)=max (hgt c) (hgt d)+1:=rfl;unfold iK at h
  split at h
  ·rcases List.mem_append.1 h with h|h
   ·have:=MH box (R:=R) (by omega) h
    omega
   ·have:=MH box (R:=R) (by omega) h
    omega
  ·split at h
   ·have e:hgt (.bin (aO box,0) d f)=max (hgt d) (hgt f)+1:=rfl
    rcases List.mem_cons.1 h with rfl|h
    ·omega
    ·rcases List.mem_append.1 h with h|h
     ·have:=MH box (R:=R) (by omega) h
      omega
     ·have:=MH box (R:=R) (by omega) h
      omega
   ·simp at h
def BI(T0 T:Tr):Prop:=T∈bY T0\/(∃S,S∈bY T0/\KT S/\T=(aZ S).2)\/T=.leaf (4,0)\/T=.leaf (5,0)
def jD(T0 T:Tr):Prop:=BI T0 T\/∃box r f,BI T0 (.bin (aO box,0) r f)/\T∈iK box r f
theorem qij(hS:KT S)(h:(aZ S).2=.un k c):(∃q,S=.leaf (2,q)/\c=S)\/∃d,(∃k2,S=.un k2 d)/\KT d/\c=(aZ d).2:=by
 match S,hS,h with
 | .leaf (op,p),hS,h=>
  rcases Aw hS with⟨rfl,_⟩|⟨rfl,rfl|rfl|rfl|rfl⟩
  ·injection h with h1 h2
   exact Or.inl ⟨p,rfl,h2.symm⟩
  ·cases h
  ·cases h
  ·cases h
  ·cases h
 | .un (op,p) d,hS,h=>
  rcases ku hS with⟨rfl,⟨rfl,q,rfl⟩|⟨ho,hd⟩⟩
  ·cases h
  ·refine Or.inr ⟨d,⟨_,rfl⟩,hd,?_⟩
   rcases ho with rfl|rfl
   ·injection h with h1 h2;exact h2.symm
   ·injection h with h1 h2;exact h2.symm
 | .bin (op,p) a b,hS,h=>
  obtain⟨rfl,ho⟩:=xG hS;rcases ho with rfl|rfl|rfl|rfl|rfl|rfl<;>cases h
theorem qhA(hS:KT S)(h:(aZ S).2=.bin k c d):∃op a b,S=.bin (op,0) a b/\KT b/\d=(aZ b).2/\((KP a/\c=a/\((op=17/\k=(18,0))\/(op=18/\k=(17,0))))\/(KT a/\c=(aZ a).2/\k.1≠17/\k.1≠18)):=by
 match S,hS,h with
 | .leaf (op,p),hS,h=>
  rcases Aw hS with⟨rfl,_⟩|⟨rfl,rfl|rfl|rfl|rfl⟩<;>cases h
 | .un (op,p) e,hS,h=>
  rcases ku hS with⟨rfl,⟨rfl,q,rfl⟩|⟨ho,hd⟩⟩
  ·cases h
  ·rcases ho with rfl|rfl<;>cases h
 | .bin (op,p) a b,hS,h=>
  obtain⟨rfl,ho⟩:=xG hS;refine⟨op,a,b,rfl,?_⟩
  by_cases hw:op=17\/op=18
  ·obtain⟨ka,kb⟩:=uP hS hw
   have e:=(Ar a ka.wf ka.kr).1;rcases hw with rfl|rfl
   ·injection h with h1 h2 h3
    exact⟨kb,h3.symm,Or.inl ⟨ka,by rw[<-h2,e],Or.inl ⟨rfl,h1.symm⟩⟩⟩
   ·injection h with h1 h2 h3
    exact⟨kb,h3.symm,Or.inl ⟨ka,by rw[<-h2,e],Or.inr ⟨rfl,h1.symm⟩⟩⟩
  ·obtain⟨ka,kb⟩:=qB hS (by omega)
   have wV:op=11\/op=12\/op=15\/op=16:=by omega
   rcases wV with rfl|rfl|rfl|rfl
   ·injection h with h1 h2 h3;subst h1;exact⟨kb,h3.symm,Or.inr ⟨ka,h2.symm,by decide,by decide⟩⟩
   ·injection h with h1 h2 h3;subst h1;exact⟨kb,h3.symm,Or.inr ⟨ka,h2.symm,by decide,by decide⟩⟩
   ·injection h with h1 h2 h3;subst h1;exact⟨kb,h3.symm,Or.inr ⟨ka,h2.symm,by decide,by decide⟩⟩
   ·injection h with h1 h2 h3;subst h1;exact⟨kb,h3.symm,Or.inr ⟨ka,h2.symm,by decide,by decide⟩⟩
theorem mC(h0:KT T0)(h:BI T0 T):KT T\/KP T:=by
 rcases h with h|⟨S,hS,kS,rfl⟩|rfl|rfl
 ·exact Qa (Or.inl h0) h
 ·exact Or.inl (GY kS)
 ·exact Or.inl (GX 4 (by simp))
 ·exact Or.inl (GX 5 (by simp))
theorem qi9(h:BI T0 (.un k c)):BI T0 c:=by
 rcases h with h|⟨S,hS,kS,e⟩|e|e
 ·exact Or.inl (EC h)
 ·rcases qij kS e.symm with⟨q,rfl,rfl⟩|⟨d,⟨k2,rfl⟩,kd,rfl⟩
  ·exact Or.inl hS
  ·exact Or.inr (Or.inl ⟨d,EC hS,kd,rfl⟩)
 ·cases e
 ·cases e
theorem MI(h:BI T0 (.bin k c d)):BI T0 c/\BI T0 d/\(k.1=17\/k.1=18->c∈bY T0):=by
 rcases h with h|⟨S,hS,kS,e⟩|e|e
 ·exact⟨Or.inl (yg h).1,Or.inl (yg h).2,fun _=>(yg h).1⟩
 ·obtain⟨op,a,b,rfl,kb,rfl,⟨ka,rfl,ho⟩|⟨ka,rfl,n1,n2⟩⟩:=qhA kS e.symm
  ·exact⟨Or.inl (yg hS).1,Or.inr (Or.inl ⟨b,(yg hS).2,kb,rfl⟩),fun _=>(yg hS).1⟩
  ·exact⟨Or.inr (Or.inl ⟨a,(yg hS).1,ka,rfl⟩),Or.inr (Or.inl ⟨b,(yg hS).2,kb,rfl⟩),fun h=>by omega⟩
 ·cases e
 ·cases e
theorem Qb(box:Bool):aO box=17\/aO box=18:=by cases box<;>simp[aO]
theorem qgz{a b:Bool}(h:aO a=aO b):a=b:=by cases a<;>cases b<;>simp[aO]at h ⊢
theorem mE(T0:Tr):jD T0 T0:=Or.inl (Or.inl (sub_self _))
theorem Qc(h:op=4\/op=5):jD T0 (.leaf (op,0)):=by
 rcases h with rfl|rfl
 ·exact Or.inl (Or.inr (Or.inr (Or.inl rfl)))
 ·exact Or.inl (Or.inr (Or.inr (Or.inr rfl)))
theorem MJ(h:S∈bY T0)(k:KT S):jD T0 (aZ S).2:=Or.inl (Or.inr (Or.inl ⟨S,h,k,rfl⟩))
theorem MK(h:S∈bY T0):jD T0 S:=Or.inl (Or.inl h)
theorem Ya(h:jD T0 (.un k c)):jD T0 c:=by
 rcases h with h|⟨box,r,f,h1,h2⟩
 ·exact Or.inl (qi9 h)
 ·obtain⟨q,F,e,_⟩:=Ie box h2
  cases e
theorem ML(h:jD T0 (.bin k c d)):jD T0 c/\jD T0 d/\(k.1=17\/k.1=18->c∈bY T0):=by
 rcases h with h|⟨box,r,f,h1,h2⟩
 ·obtain⟨a,b,e⟩:=MI h
  exact⟨Or.inl a,Or.inl b,e⟩
 ·obtain⟨q,F,e,hq,hF,_⟩:=Ie box h2
  injection e with e1 e2 e3;subst e1 e2 e3;obtain⟨a,b,e⟩:=MI h1;have hs:=JE (e (Qb box)) hq;refine⟨MK hs,?_,fun _=>hs⟩
  rcases hF with rfl|hF
  ·exact Or.inl b
  ·exact Or.inr ⟨box,r,f,h1,hF⟩
theorem mH(h:jD T0 (.bin (aO box,0) r f)):∀T,T∈iK box r f->jD T0 T:=by
 intro T hT;rcases h with h|⟨b2,r2,f2,h1,h2⟩
 ·exact Or.inr ⟨box,r,f,h,hT⟩
 ·obtain⟨q,F,e,hq,hF,hsub⟩:=Ie b2 h2
  injection e with e1 e2 e3;injection e1 with e1;have:=qgz e1
  subst this e2 e3;exact Or.inr ⟨box,r2,f2,h1,hsub T hT⟩
theorem MN(h0:KT T0)(h:jD T0 T):KT T\/KP T:=by
 rcases h with h|⟨box,r,f,h1,h2⟩
 ·exact mC h0 h
 ·have hr:KT (.bin (aO box,0) r f):=by
   rcases mC h0 h1 with h|h
   ·exact h
   ·obtain⟨_,ho,_⟩:=xH h
    rcases Qb box with e|e<;>omega
  obtain⟨kr,kf⟩:=uP hr (Qb box);clear h1 hr
  have key:∀(r f T:Tr),KP r->KT f->T∈iK box r f->KT T:=by
   intro r
   induction r with
   |leaf k=>intro f T hr;exact(EZ hr).elim
   |un k c ih=>
    intro f T hr hf hT;unfold iK at hT
    split at hT
    ·rename_i hk
     obtain⟨op,p⟩:=k;dsimp only at hk
     subst hk
     have kc:KP c:=by
      rcases kC hr with⟨_,⟨h,_⟩|⟨h,_⟩|⟨_,h⟩⟩
      ·cases h
      ·cases h
      ·exact h
     have hm:=zT hr hf box;rcases List.mem_cons.1 hT with rfl|hT
     ·exact hm
     ·exact ih _ T kc hm hT
    ·simp at hT
   |bin k c d mI mK=>
    intro f T hr hf hT;obtain⟨op,p⟩:=k;obtain⟨_,_,kc,kd⟩:=xH hr;unfold iK at hT
    split at hT
    ·rcases List.mem_append.1 hT with hT|hT
     ·exact mI f T kc hf hT
     ·exact mK f T kd hf hT
    ·split at hT
     ·have hm:=zT kd hf box
      rcases List.mem_cons.1 hT with rfl|hT
      ·exact hm
      ·rcases List.mem_append.1 hT with hT|hT
       ·exact mK f T kd hf hT
       ·exact mI _ T kc hm hT
     ·simp at hT
  exact Or.inl (key r f T kr kf h2)
theorem JG:∀T:Tr,KT T->(aZ T).2.size<=2*T.size
 | .leaf (op,p),hT=>by rcases Aw hT with⟨rfl,_⟩|⟨rfl,rfl|rfl|rfl|rfl⟩<;>simp[aZ,Tr.size]
 | .un (op,p) c,hT=>by
  rcases ku hT with⟨rfl,⟨rfl,q,rfl⟩|⟨ho,hc⟩⟩
  ·simp[aZ,Tr.size]
  ·have ih:=JG c hc
   rcases ho with rfl|rfl
   ·show (aZ c).2.size+1<=2*(c.size+1);omega
   ·show (aZ c).2.size+1<=2*(c.size+1);omega
 | .bin (op,p) c d,hT=>by
  obtain⟨rfl,ho⟩:=xG hT;by_cases hw:op=17\/op=18
  ·obtain⟨kc,kd⟩:=uP hT hw
   have e:=(Ar c kc.wf kc.kr).1;have ih:=JG d kd;rcases hw with rfl|rfl
   ·show (aZ c).1.size+(aZ d).2.size+1<=2*(c.size+d.size+1);rw[e];omega
   ·show (aZ c).1.size+(aZ d).2.size+1<=2*(c.size+d.size+1);rw[e];omega
  ·obtain⟨kc,kd⟩:=qB hT (by omega)
   have ic:=JG c kc;have ih:=JG d kd;have wV:op=11\/op=12\/op=15\/op=16:=by omega
   rcases wV with rfl|rfl|rfl|rfl
   ·show (aZ c).2.size+(aZ d).2.size+1<=2*(c.size+d.size+1);omega
   ·show (aZ c).2.size+(aZ d).2.size+1<=2*(c.size+d.size+1);omega
   ·show (aZ c).2.size+(aZ d).2.size+1<=2*(c.size+d.size+1);omega
   ·show (aZ c).2.size+(aZ d).2.size+1<=2*(c.size+d.size+1);omega
theorem Yb(h2:T0.size<=2048)(h:BI T0 T):T.size<=4096/\hgt T<=2048:=by
 rcases h with h|⟨S,hS,kS,rfl⟩|rfl|rfl
 ·have:=BH h
  have:=LX T
  omega
 ·have:=BH hS
  have:=JG S kS
  rw[yJ S kS];have:=LX S
  omega
 ·simp[Tr.size,hgt]
 ·simp[Tr.size,hgt]
theorem Qd(h2:T0.size<=2048)(h:jD T0 T):T.size<=20000000/\hgt T<=5000:=by
 rcases h with h|⟨box,r,f,h1,h3⟩
 ·have:=Yb h2 h
  omega
 ·have hr:=BH ((MI h1).2.2 (Qb box))
  have hf:=Yb h2 (MI h1).2.1;have a:=JF box (R:=2048) (by omega) h3
  have hg:=LX r;have b:=MH box (R:=2048) (by omega) h3
  have:r.size*(2048+2)<=2048*(2048+2):=Nat.mul_le_mul_right _ (by omega)
  omega
def Dn(T0:Tr):List Tr :=
 let A:=bY T0++(((bY T0).filter fun T=>!aB T).map (fun T=>(aZ T).2)++[Tr.leaf (4,0),Tr.leaf (5,0)])
 A++A.flatMap fun T=>match T with | .bin k r f=>iK (k.1==18) r f|_=>[]
theorem qhj(h:jD T0 T):T∈Dn T0:=by
 have key:∀T,BI T0 T->T∈bY T0++(((bY T0).filter fun T=>!aB T).map (fun T=>(aZ T).2)++[Tr.leaf (4,0),Tr.leaf (5,0)]):=by
  intro T h;rcases h with h|⟨S,hS,kS,rfl⟩|rfl|rfl
  ·exact List.mem_append.2 (Or.inl h)
  ·exact List.mem_append.2 (Or.inr (List.mem_append.2 (Or.inl (List.mem_map.2 ⟨S,List.mem_filter.2 ⟨hS,by simp[kS.np]⟩,rfl⟩))))
  ·simp
  ·simp
 unfold Dn;rcases h with h|⟨box,r,f,h1,h2⟩
 ·exact List.mem_append.2 (Or.inl (key T h))
 ·refine List.mem_append.2 (Or.inr (List.mem_flatMap.2 ⟨_,key _ h1,?_⟩))
  show T∈iK ((aO box)==18) r f
  rw[show (aO box==18)=box by cases box<;>rfl]
  exact h2
theorem mL{α β : Type}(g:α -> List β)(B:Nat):∀l:List α,(∀x∈l,(g x).length<=B)->(l.flatMap g).length<=l.length*B
 | [],_=>by simp
 |x::l,h=>by
  have h1:=h x (by simp)
  have h2:=mL g B l fun y hy=>h y (by simp[hy])
  rw[List.flatMap_cons,List.length_append,List.length_cons,Nat.add_mul]
  omega
theorem qh7(h0:KT T0)(h2:T0.size<=2048):(Dn T0).length<=20000000:=by
 unfold Dn
 have hA:(bY T0++(((bY T0).filter fun T=>!aB T).map (fun T=>(aZ T).2)++[Tr.leaf (4,0),Tr.leaf (5,0)])).length<=4098:=by
  have:=UF T0
  have:=List.length_filter_le (fun T=>!aB T) (bY T0)
  simp only[List.length_append,List.length_map,List.length_cons,List.length_nil]
  omega
 have hin:∀T∈bY T0++(((bY T0).filter fun T=>!aB T).map (fun T=>(aZ T).2)++[Tr.leaf (4,0),Tr.leaf (5,0)]),BI T0 T:=by
  intro T hT;rcases List.mem_append.1 hT with h|h
  ·exact Or.inl h
  ·rcases List.mem_append.1 h with h|h
   ·obtain⟨S,hS,rfl⟩:=List.mem_map.1 h
    obtain⟨h1,h3⟩:=List.mem_filter.1 hS
    have hk:KT S:=by
     rcases Qa (Or.inl h0) h1 with k|k
     ·exact k
     ·rw[k.Ox]at h3;cases h3
    exact Or.inr (Or.inl ⟨S,h1,hk,rfl⟩)
   ·simp at h
    rcases h with rfl|rfl
    ·exact Or.inr (Or.inr (Or.inl rfl))
    ·exact Or.inr (Or.inr (Or.inr rfl))
 have hB:=mL (fun T:Tr=>match T with | .bin k r f=>iK (k.1==18) r f|_=>[]) 4096 _ (fun T hT=>by
  have:=(Yb h2 (hin T hT)).1
  cases T with
  |leaf k=>exact Nat.zero_le _
  |un k c=>exact Nat.zero_le _
  |bin k r f=>
   have:=MG (k.1==18) r f
   have e:(Tr.bin k r f).size=r.size+f.size+1:=rfl
   show (iK (k.1==18) r f).length<=4096
   omega)
 rw[List.length_append];generalize (bY T0++(((bY T0).filter fun T=>!aB T).map (fun T=>(aZ T).2)++[Tr.leaf (4,0),Tr.leaf (5,0)]))=A at *;have:A.length*4096<=4098*4096:=Nat.mul_le_mul_right _ hA
 omega
theorem Yc{α : Type}:∀{l m:List α},l.Nodup->(∀x∈l,x∈m)->l.length<=m.length
 | [],m,_,_=>Nat.zero_le _
 |x::l,m,hn,h=>by
  obtain⟨a,b,rfl⟩:=List.append_of_mem (h x (by simp))
  rw[List.nodup_cons]at hn
  have:=Yc (m:=a++b) hn.2 fun y hy=>by
   have:=h y (by simp[hy])
   simp at this ⊢
   rcases this with h1|rfl|h1
   ·exact Or.inl h1
   ·exact absurd hy hn.1
   ·exact Or.inr h1
  simp at this ⊢
  omega
theorem UG:∀(T:Tr)(aj:List It),aj.Nodup->Low aj->∀n,n<(aT aj T).1.length->n<aj.length\/∃S,Rep (aT aj T).1 n S/\S∈bY T
 | .leaf k,aj,hn,hl,n,hlt=>by
  have ok:=zO (.leaf k) aj hn hl;by_cases h:n<aj.length
  ·exact Or.inl h
  ·obtain⟨l,e,hl1⟩:=I9 aj (bg k [])
   have e2:(aT aj (.leaf k)).1=aj++l:=e;rcases En aj (bg k []) with⟨j,e3,_⟩|⟨e3,_⟩
   ·exfalso
    have:(aT aj (.leaf k)).1=aj:=congrArg Prod.fst e3
    rw[this]at hlt;exact h hlt
   ·have e4:(aT aj (.leaf k))=(aj++[bg k []],aj.length):=e3
    rw[e4]at hlt ok ⊢;simp at hlt
    obtain rfl:n=aj.length:=by omega
    exact Or.inr ⟨_,ok.rep,sub_self _⟩
 | .un k c,aj,hn,hl,n,hlt=>by
  have ok:=zO (.un k c) aj hn hl;have ih:=zO c aj hn hl;have key:(aT aj (.un k c))=iQ (aT aj c).1 (bg k [(aT aj c).2]):=rfl;by_cases h:n<(aT aj c).1.length
  ·refine (UG c aj hn hl n h).imp id ?_
   rintro⟨S,h1,h2⟩
   refine⟨S,?_,by simp[bY,h2]⟩
   obtain⟨l,e,_⟩:=I9 (aT aj c).1 (bg k [(aT aj c).2]);rw[key,e];exact h1.more l
  ·rcases En (aT aj c).1 (bg k [(aT aj c).2]) with⟨j,e3,_⟩|⟨e3,_⟩
   ·exfalso
    rw[key,e3]at hlt;exact h hlt
   ·rw[key,e3]at hlt ok ⊢
    simp at hlt
    obtain rfl:n=(aT aj c).1.length:=by omega
    exact Or.inr ⟨_,ok.rep,sub_self _⟩
 | .bin k c d,aj,hn,hl,n,hlt=>by
  have ok:=zO (.bin k c d) aj hn hl;have ih:=zO c aj hn hl;have jh:=zO d _ ih.nodup ih.low;have key:(aT aj (.bin k c d))=iQ (aT (aT aj c).1 d).1 (bg k [(aT aj c).2,(aT (aT aj c).1 d).2]):=rfl;obtain⟨l,e,_⟩:=I9 (aT (aT aj c).1 d).1 (bg k [(aT aj c).2,(aT (aT aj c).1 d).2]);by_cases h:n<(aT (aT aj c).1 d).1.length
  ·rcases UG d _ ih.nodup ih.low n h with h1|⟨S,h1,h2⟩
   ·refine (UG c aj hn hl n h1).imp id ?_
    rintro⟨S,h3,h4⟩
    refine⟨S,?_,by simp[bY,h4]⟩
    obtain⟨l2,e2,_⟩:=jh.pre;rw[key,e,e2,List.append_assoc];exact h3.more _
   ·refine Or.inr ⟨S,?_,by simp[bY,h2]⟩
    rw[key,e];exact h1.more l
  ·rcases En (aT (aT aj c).1 d).1 (bg k [(aT aj c).2,(aT (aT aj c).1 d).2]) with⟨j,e3,_⟩|⟨e3,_⟩
   ·exfalso
    rw[key,e3]at hlt;exact h hlt
   ·rw[key,e3]at hlt ok ⊢
    simp at hlt
    obtain rfl:n=(aT (aT aj c).1 d).1.length:=by omega
    exact Or.inr ⟨_,ok.rep,sub_self _⟩
structure mN(T:Tr)(aj:List It)(n:Nat):Prop where
 nd:aj.Nodup
 low:Low aj
 few:aj.length<=2048
 BJ:∀n,n<aj.length->∃S,Rep aj n S/\jD T S
 rep:Rep aj n T
theorem qQ:∀T:Tr,T.size=T.flat.length
 | .leaf k=>rfl
 | .un k c=>by simp[Tr.size,Tr.flat,qQ c]
 | .bin k c d=>by simp[Tr.size,Tr.flat,qQ c,qQ d];omega
theorem qgv{ts:List Tk}(hc:bM ts=0):∃T,KT T/\T.size<=2048/\ts=T.flat/\iI [] ts=0/\mN T (jZ [] ts) (kH [] ts):=by
 obtain⟨hts,T,hW,hp,hk,rfl⟩:=LJ.1 hc;have hsz:T.size<=2048:=by rw[qQ];exact hts
 have hl0:Low []:=fun n x h=>(by simp at h)
 obtain⟨e1,e2⟩:=Wh hW [];have ok:=zO T [] (by simp) hl0
 obtain⟨l,el,hll⟩:=ok.pre;have hlen:(aT [] T).1.length<=2048:=by rw[el];simp;omega
 have hE:iI [] T.flat=0:=by unfold iI;rw[if_neg (by omega),e1,if_neg (by omega)]
 have hI:jZ [] T.flat=(aT [] T).1:=by unfold jZ;rw[if_pos hE,e1]
 have hN:kH [] T.flat=(aT [] T).2:=by unfold kH;rw[if_pos hE,e2]
 refine⟨T,⟨hW,hp,hk⟩,hsz,rfl,hE,?_⟩
 rw[hI,hN];refine⟨ok.nodup,ok.low,hlen,fun n hn=>?_,ok.rep⟩
 rcases UG T [] (by simp) hl0 n hn with h|⟨S,h1,h2⟩
 ·simp at h
 ·exact⟨S,h1,MK h2⟩
def jU(n k:Nat):List Nat->Mt->Option Mt
 | [],M=>some M
 |x::xs,M=>match stepM n x [2 ^ k] [] M with
  |none=>none
  |some (_,M1)=>jU n k xs M1
def dF(n:Nat)(xs:List Nat):Nat->Nat->Mt->Option Mt
 | 0,_,M=>some M
 |f+1,k,M=>if k<M.length then (match jU n k xs M with
  |none=>none
  |some M1=>dF n xs f (k+1) M1) else some M
def sU(n:Nat)(xs:List Nat)(k:Nat)(M:Mt):Prop:=∀x∈xs,∃L,∀M2,M <+: M2->stepM n x [2 ^ k] [] M2=some (L,M2)
theorem sU.mono{k:Nat}(h:sU n xs k M)(hp:M <+: M'):sU n xs k M':=fun x hx=>by
 obtain⟨L,hL⟩:=h x hx;exact⟨L,fun M2 h2=>hL M2 (hp.trans h2)⟩
theorem mR(n k:Nat):∀(xs:List Nat){M M':Mt},dM M->k<M.length->jU n k xs M=some M'->M <+: M'/\dM M'/\sU n xs k M'
 | [],M,M',hM,_,h=>by
  unfold jU at h;injection h with h;subst h;exact⟨List.prefix_refl _,hM,fun x hx=>by cases hx⟩
 |x::xs,M,M',hM,hk,h=>by
  unfold jU at h
  split at h
  ·cases h
  ·rename_i L M1 hs
   have hb:jJ [2 ^ k] M.length:=Ua hk;obtain⟨e,_⟩:=Ub hM hb hs;obtain⟨p1,q1⟩:=Ud n x [2 ^ k] [] M M1 L hb hs;obtain⟨p2,g2,d2⟩:=mR n k xs e.good (Nat.lt_of_lt_of_le hk (EY p1)) h;refine⟨p1.trans p2,g2,fun y hy=>?_⟩
   rcases List.mem_cons.1 hy with rfl|hy
   ·exact⟨L,fun M2 h2=>q1 M2 (p2.trans h2)⟩
   ·exact d2 y hy
theorem mS(n:Nat)(xs:List Nat):∀(f k:Nat){M M':Mt},dM M->64<=f+k->(∀j,j<k->sU n xs j M)->dF n xs f k M=some M'->M <+: M'/\dM M'/\∀j,j<M'.length->sU n xs j M'
 | 0,k,M,M',hM,hf,hd,h=>by
  unfold dF at h;injection h with h;subst h;exact⟨List.prefix_refl _,hM,fun j hj=>hd j (by have:=hM.few;omega)⟩
 |f+1,k,M,M',hM,hf,hd,h=>by
  unfold dF at h
  split at h
  ·rename_i hk
   split at h
   ·cases h
   ·rename_i M1 hc
    obtain⟨p1,g1,d1⟩:=mR n k xs hM hk hc
    obtain⟨p2,g2,d2⟩:=mS n xs f (k+1) g1 (by omega) (fun j hj=>by
     by_cases e:j=k
     ·subst e;exact d1
     ·exact(hd j (by omega)).mono p1) h
    exact⟨p1.trans p2,g2,d2⟩
  ·rename_i hk
   injection h with h;subst h;exact⟨List.prefix_refl _,hM,fun j hj=>hd j (by omega)⟩
structure Closed(n:Nat)(xs:List Nat)(M:Mt):Prop where
 good:dM M
 done:∀j,j<M.length->sU n xs j M
theorem qfi(hT:KT T)(hn:aH T []=some (l,M))(h:dF n xs 64 0 M=some M'):Closed n xs M'/\M <+: M':=by
 obtain⟨e,_⟩:=xI T WA hT hn;obtain⟨p,g,d⟩:=mS n xs 64 0 e.good (by omega) (fun j hj=>absurd hj (by omega)) h
 exact⟨⟨g,d⟩,p⟩
theorem Closed.one(h:Closed n xs M)(hj:j<M.length)(hx:x∈xs):∃L,stepM n x [2 ^ j] [] M=some (L,M):=by
 obtain⟨L,hL⟩:=h.done j hj x hx;exact⟨L,hL M (List.prefix_refl _)⟩
theorem Closed.aft(h:Closed n xs M)(hj:j<M.length)(hx:x∈xs):∃a,eu n (lY (M.getD j [])) x M=some (a,M):=by
 obtain⟨L,hL⟩:=h.one hj hx;unfold stepM at hL;obtain⟨m,M1,h1,h2⟩:=qg hL;obtain⟨o,M2,h3,h4⟩:=qg h2;unfold stepM at h4;injection h4 with h4;injection h4 with _ h5;have Yd:j<64:=Nat.lt_of_lt_of_le hj h.good.few
 have hit:aY (2 ^ j)=[j]:=by
  refine q32 (Wu _) (List.pairwise_singleton _ _) fun i=>?_
  rw[qS,Nat.testBit_two_pow,List.mem_singleton]
  constructor
  ·rintro⟨_,h⟩
   have:j=i:=by simpa using h
   exact this.symm
  ·rintro rfl
   exact⟨Yd,by simp⟩
 rw[hit]at h1;unfold jI at h1;obtain⟨a,Ma,ha,h6⟩:=qg h1;obtain⟨b,Mb,hb,h7⟩:=qg h6;unfold jI at h7;injection h7 with h7;injection h7 with _ h8;refine⟨a,?_⟩
 rw[ha,<-(qu hb).1,h8,<-(qu h3).1,h5]
theorem Closed.set{n:Nat}{xs:List Nat}{M:Mt}(h:Closed n xs M){x:Nat}(hx:x∈xs):∀(ks m:List Nat){L:List Nat}{M':Mt},(∀k∈ks,k<M.length)->jI n x ks m M=some (L,M')->M'=M
 | [],m,L,M',_,hs=>by
  unfold jI at hs;injection hs with hs;injection hs with _ hs;exact hs.symm
 |k::ks,m,L,M',hk,hs=>by
  unfold jI at hs;obtain⟨a,Ma,ha,h2⟩:=qg hs;obtain⟨b,Mb,hb,h3⟩:=qg h2;obtain⟨a',ha'⟩:=h.aft (hk k (by simp)) hx
  rw[ha']at ha;injection ha with ha;injection ha with _ ha;subst ha;have e:=(qu hb).1;subst e;exact h.set hx ks b (fun j hj=>hk j (by simp[hj])) h3
theorem Closed.step{n:Nat}{xs:List Nat}{M:Mt}(h:Closed n xs M){x:Nat}(hx:x∈xs):∀(l out:List Nat){L:List Nat}{M':Mt},jJ l M.length->stepM n x l out M=some (L,M')->M'=M
 | [],out,L,M',_,hs=>by
  unfold stepM at hs;injection hs with hs;injection hs with _ hs;exact hs.symm
 |s::ss,out,L,M',hl,hs=>by
  unfold stepM at hs;obtain⟨a,Ma,ha,h2⟩:=qg hs;obtain⟨b,Mb,hb,h3⟩:=qg h2;have e1:=h.set hx (aY s) [0] (fun k hk=>hl s (by simp) k (qS.1 hk).2) ha
  subst e1;have e:=(qu hb).1;subst e;exact h.step hx ss b (fun z hz=>hl z (by simp[hz])) h3
def bP(t:List Nat):List Nat:=(List.range 256).filter fun x=>decide (x∈t)
theorem Ye:x∈bP t↔x<256/\x∈t:=by simp[bP]
def eU(T:Tr)(t:List Nat):Option (List Nat×Mt):=match aH T [] with
 |none=>none
 |some (l0,M)=>(dF aV (bP t) 64 0 M).map fun M'=>(l0,M')
structure oO(T:Tr)(t l0:List Nat)(M':Mt):Prop where
 ex:∃M,aH T []=some (l0,M)/\M <+: M'
 cl:Closed aV (bP t) M'
theorem qeH{l0:List Nat}(kT:KT T)(h:eU T t=some (l0,M')):oO T t l0 M':=by
 unfold eU at h
 split at h
 ·cases h
 ·rename_i l1 M hn
  cases hc:dF aV (bP t) 64 0 M with
  |none=>rw[hc]at h;cases h
  |some M1=>
   rw[hc]at h;injection h with h;injection h with h1 h2;subst h1 h2;obtain⟨c,p⟩:=qfi kT hn hc;exact⟨⟨M,hn,p⟩,c⟩
def gJ(M:Mt):List Nat->List Nat->Option (List (List Nat))
 |l,[]=>some [l]
 |l,x::t=>match stepM aV x l [] M with
  |none=>none
  |some (L,_)=>(gJ M L t).map (l :: ·)
theorem qgl(hM:dM M){k:Nat}(hk:k<M.length):∃T,KT T/\M[k]? =some T.flat/\lY (M.getD k [])=T:=by
 obtain⟨T,kT,e⟩:=hM.1 M[k] (List.getElem_mem hk);have h1:M[k]? =some T.flat:=by rw[List.getElem?_eq_getElem hk,e]
 refine⟨T,kT,h1,?_⟩
 rw[List.getD_eq_getElem?_getD,h1];exact GZ kT.wf
def pU(t:List Nat)(x:Nat):List Nat:=(List.range' x (256-x)).filter fun y=>decide (y∈t)
theorem qeZ(t:List Nat):pU t 0=bP t:=by
 unfold pU bP;rw[List.range_eq_range']
theorem qfD(t:List Nat):pU t 256=[]:=rfl
theorem Yf(t:List Nat)(hx:x<256):pU t x=if x∈t then x::pU t (x+1) else pU t (x+1):=by
 unfold pU;obtain⟨m,hm⟩:∃m,256-x=m+1:=⟨255-x,by omega⟩
 rw[hm,show 256-(x+1)=m by omega,List.range'_succ,List.filter_cons]
 by_cases h:x∈t<;>simp[h]
theorem Yg(n:Nat)(xs:List Nat)(f:Nat){k:Nat}(h:M.length<=k):dF n xs f k M=some M:=by
 cases f with
 |zero=>rfl
 |succ f=>unfold dF;rw[if_neg (by omega)]
def pV(xs:List Nat)(k f:Nat)(ys:List Nat)(M:Mt):Option Mt:=match jU aV k ys M with
 |none=>none
 |some M1=>dF aV xs f (k+1) M1
theorem qdW(xs:List Nat)(f k:Nat)(h:k<M.length):dF aV xs (f+1) k M=pV xs k f xs M:=by
 rw[dF,if_pos h];rfl
theorem qg1(xs:List Nat)(k f:Nat)(M:Mt):pV xs k f [] M=dF aV xs f (k+1) M:=rfl
theorem qf7{k f:Nat}(h:stepM aV x [2 ^ k] [] M=none):pV xs k f (x::ys) M=none:=by
 unfold pV jU;rw[h]
theorem qf8{k f:Nat}{L:List Nat}{M1:Mt}(h:stepM aV x [2 ^ k] [] M=some (L,M1)):pV xs k f (x::ys) M=pV xs k f ys M1:=by
 unfold pV;rw[jU,h]
theorem mT(hT:KT T)(hS:KT S)(h:T.flat=S.flat):T=S:=by
 have h1:=GZ hT.wf;rw[h,GZ hS.wf]at h1;exact h1.symm
theorem qgM{k:Nat}(h:out.Pairwise (· < ·))(hx:x ∉ out)(hk:k<=out.length)(h1:∀j,k<=j->j<out.length->x<out.getD j 0)(h2:k=0\/¬x<out.getD (k-1) 0):(out.take k++x::out.drop k).Pairwise (· < ·):=by
 have hg:∀j (hj:j<out.length),out.getD j 0=out[j]:=fun j hj=>by rw[List.getD_eq_getElem?_getD,List.getElem?_eq_getElem hj];rfl
 have hr:∀i j (hi:i<out.length) (hj:j<out.length),i<j->out[i]<out[j]:=fun i j hi hj hij=>List.pairwise_iff_getElem.1 h i j hi hj hij
 have hlo:∀y∈out.take k,y<x:=fun y hy=>by
  obtain⟨i,hi,rfl⟩:=List.getElem_of_mem hy;rw[List.length_take]at hi;rw[List.getElem_take];have hil:i<out.length:=by omega
  have hkl:k-1<out.length:=by omega
  rcases h2 with h2|h2
  ·omega
  ·rw[hg _ hkl]at h2
   have hne:out[k-1]≠x:=fun e=>hx (e ▸ List.getElem_mem hkl)
   by_cases e:i=k-1
   ·subst e;omega
   ·have:=hr i (k-1) hil hkl (by omega)
    omega
 have hhi:∀y∈out.drop k,x<y:=fun y hy=>by
  obtain⟨i,hi,rfl⟩:=List.getElem_of_mem hy;rw[List.length_drop]at hi;rw[List.getElem_drop];have:=h1 (k+i) (by omega) (by omega)
  rw[hg _ (by omega)]at this
  exact this
 refine List.pairwise_append.2 ⟨h.sublist (List.take_sublist _ _),List.pairwise_cons.2 ⟨fun y hy=>hhi y hy,h.sublist (List.drop_sublist _ _)⟩,fun a ha b hb=>?_⟩
 rcases List.mem_cons.1 hb with rfl|hb
 ·exact hlo a ha
 ·exact Nat.lt_trans (hlo a ha) (hhi b hb)
theorem qhL{k z:Nat}:z∈out.take k++x::out.drop k↔z=x\/z∈out:=by
 rw[List.mem_append,List.mem_cons];have e:z∈out↔z∈out.take k\/z∈out.drop k:=by rw[<-List.mem_append,List.take_append_drop]
 rw[e]
 constructor
 ·rintro (h|h|h)
  ·exact Or.inr (Or.inl h)
  ·exact Or.inl h
  ·exact Or.inr (Or.inr h)
 ·rintro (h|h|h)
  ·exact Or.inr (Or.inl h)
  ·exact Or.inl h
  ·exact Or.inr (Or.inr h)
structure lK(l:List Nat)(i:Nat)(out:List Nat):Prop where
 up:out.Pairwise (· < ·)
 mem:∀z,z∈out↔xE l z/\∃k,k<i/\l[k]? =some z
theorem lK.start(l:List Nat):lK l 0 []:=⟨List.Pairwise.nil,fun z=>⟨fun h=>(by cases h),fun⟨_,k,hk,_⟩=>(by omega)⟩⟩
def Dp(l:List Nat)(i:Nat):Prop:=∀k,k<l.length->¬(Wi (l.getD k 0) (l.getD i 0)/\(l.getD k 0≠l.getD i 0\/k<i))
theorem Yh(hi:i<l.length):Dp l i↔xE l (l.getD i 0)/\∀k,k<i->l.getD k 0≠l.getD i 0:=by
 have hg:∀j (hj:j<l.length),l.getD j 0=l[j]:=fun j hj=>by rw[List.getD_eq_getElem?_getD,List.getElem?_eq_getElem hj];rfl
 constructor
 ·intro h
  refine⟨⟨by rw[hg i hi];exact List.getElem_mem hi,fun y hy hw=>?_⟩,fun k hk e=>h k (by omega) ⟨by rw[e];exact Ja _,Or.inr hk⟩⟩
  obtain⟨k,hk,rfl⟩:=List.getElem_of_mem hy;by_cases e:l[k]=l.getD i 0
  ·exact e
  ·exact absurd ⟨by rw[hg k hk];exact hw,Or.inl (by rw[hg k hk];exact e)⟩ (h k hk)
 ·rintro⟨⟨_,hm⟩,hf⟩ k hk ⟨hw,ho⟩
  have e:=hm (l.getD k 0) (by rw[hg k hk];exact List.getElem_mem hk) hw
  rcases ho with h|h
  ·exact h e
  ·exact hf k h e
theorem lK.skip(h:lK l i out)(hi:i<l.length)(hn:¬Dp l i):lK l (i+1) out:=by
 have hg:∀j (hj:j<l.length),l[j]? =some (l.getD j 0):=fun j hj=>by rw[List.getD_eq_getElem?_getD,List.getElem?_eq_getElem hj];rfl
 refine⟨h.up,fun z=>(h.mem z).trans ⟨fun⟨h1,k,hk,h2⟩=>⟨h1,k,by omega,h2⟩,fun⟨h1,k,hk,h2⟩=>⟨h1,?_⟩⟩⟩
 by_cases e:k=i
 ·subst e
  rw[hg k hi]at h2;injection h2 with h2;subst h2;rw[Yh hi]at hn;by_cases hf:∀j,j<k->l.getD j 0≠l.getD k 0
  ·exact absurd ⟨h1,hf⟩ hn
  ·obtain⟨j,hj⟩:=Classical.not_forall.1 hf
   obtain⟨hj1,hj2⟩:=Classical.not_imp.1 hj;exact⟨j,hj1,by rw[hg j (by omega),Classical.not_not.1 hj2]⟩
 ·exact⟨k,by omega,h2⟩
theorem lK.new(h:lK l i out)(hi:i<l.length)(hn:Dp l i):l.getD i 0 ∉ out:=fun hm=>by
 obtain⟨_,k,hk,h2⟩:=(h.mem _).1 hm;refine ((Yh hi).1 hn).2 k hk ?_
 rw[List.getD_eq_getElem?_getD,h2];rfl
theorem lK.put(h:lK l i out)(hi:i<l.length)(hn:Dp l i){k:Nat}(hk:k<=out.length)(h1:∀j,k<=j->j<out.length->l.getD i 0<out.getD j 0)(h2:k=0\/¬l.getD i 0<out.getD (k-1) 0):lK l (i+1) (out.take k++l.getD i 0::out.drop k):=by
 have hg:∀j (hj:j<l.length),l[j]? =some (l.getD j 0):=fun j hj=>by rw[List.getD_eq_getElem?_getD,List.getElem?_eq_getElem hj];rfl
 refine⟨qgM h.up (h.new hi hn) hk h1 h2,fun z=>?_⟩
 rw[qhL,h.mem z]
 constructor
 ·rintro (rfl|⟨h1,j,hj,h2⟩)
  ·exact⟨((Yh hi).1 hn).1,i,by omega,hg i hi⟩
  ·exact⟨h1,j,by omega,h2⟩
 ·rintro⟨h3,j,hj,h4⟩
  by_cases e:j=i
  ·subst e
   rw[hg j hi]at h4;injection h4 with h4;exact Or.inl h4.symm
  ·exact Or.inr ⟨h3,j,by omega,h4⟩
theorem lK.fin(h:lK l l.length out):out=aJ l:=ek ⟨h.up,fun z=>(h.mem z).trans ⟨fun h=>h.1,fun hm=>⟨hm,by
 obtain⟨k,hk,e⟩:=List.getElem_of_mem hm.1;exact⟨k,hk,by rw[List.getElem?_eq_getElem hk,e]⟩⟩⟩⟩
end Go.Proofs.YtoioiellaomonaaGreatDoor
