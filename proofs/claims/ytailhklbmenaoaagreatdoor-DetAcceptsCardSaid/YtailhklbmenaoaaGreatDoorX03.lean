/- Texts of the proof, put together: what it uses. -/
import Derived.Lib.ItoaNum
import Derived.Test.YtailhklbmenaoaaGreatDoorX02
set_option maxRecDepth 100000
set_option maxHeartbeats 16000000
namespace Go.Proofs.YtailhklbmenaoaaGreatDoor
theorem q8l{S S2:List (List Nat)}(h:S <+: S2){s:List Nat}(hs:s∈S):S2.idxOf s=S.idxOf s:=by
 obtain⟨k,rfl⟩:=h;rw[List.idxOf_append,if_pos hs]
theorem q8v{L:List Nat}{S:List (List Nat)}{q:Nat}{S1:List (List Nat)}(h:putD L S=some (q,S1))(S2:List (List Nat))(h2:S1 <+: S2):putD L S2=some (q,S2):=by
 unfold putD at h
 split at h
 ·rename_i hm
  injection h with h;injection h with h1 h3
  subst h1 h3;unfold putD;rw[if_pos (h2.subset hm),q8l h2 hm]
 ·rename_i hm
  split at h
  ·cases h
  ·injection h with h;injection h with h1 h3
   subst h1 h3;have hm1:L∈S++[L]:=by simp
   unfold putD;rw[if_pos (h2.subset hm1),q8l h2 hm1,List.idxOf_append,if_neg hm];simp
structure RowE (X:Nat->Prop) (l:List Nat) (acc:List Nat) (S:List (List Nat)) (M:Mt):Prop where
 st:StD S M
 pr:PrM X M
 bd:BdL l M.length
 dn:∀(x r:Nat),acc[x]? =some r->∃L,stepM fuelN x l [] M=some (L,M)/\putD L S=some (r,S)
theorem RowE.start{X:Nat->Prop}{l:List Nat}{S:List (List Nat)}{M:Mt}(h:StD S M)(hp:PrM X M)(hs:BdL l M.length):RowE X l [] S M:=⟨h,hp,hs,fun x r hx=>by simp at hx⟩
theorem RowE.alike{X:Nat->Prop}{l acc:List Nat}{S:List (List Nat)}{M:Mt}(h:RowE X l acc S M){y r:Nat}(hxy:Like X y acc.length)(hr:acc[y]? =some r)(xs:List Nat):rowD l (acc.length::xs) acc S M=rowD l xs (acc++[r]) S M/\RowE X l (acc++[r]) S M:=by
 obtain⟨L,h1,h2⟩:=h.dn y r hr;have h3:stepM fuelN acc.length l [] M=some (L,M):=by rw[<-qaF hxy fuelN l [] M h.st.good h.pr h.bd];exact h1
 refine⟨?_,h.st,h.pr,h.bd,fun x z hx=>?_⟩
 ·conv=>lhs;unfold rowD
  simp only[h3,h2]
 ·rcases q7i hx with hx|⟨rfl,rfl⟩
  ·exact h.dn x z hx
  ·exact⟨L,h3,h2⟩
theorem StD.put{S S1:List (List Nat)}{M M1:Mt}(h:StD S M){l L:List Nat}{x q:Nat}(hb:BdL l M.length)(hs:stepM fuelN x l [] M=some (L,M1))(hp:putD L S=some (q,S1)):StD S1 M1:=by
 obtain⟨e,_⟩:=q4P h.good hb hs;have k:=qa3 hp;have hL:=q5e (out:=[]) (by rfl) hs
 exact⟨e.good,fun z hz=>(k.mem z hz).elim (fun g=>(h.bd z g).mono e.pre.length_le) (fun g=>by rw[g];exact e.bd),fun z hz=>(k.mem z hz).elim (h.least z) (fun g=>by rw[g];exact hL),fun z hz=>(k.mem z hz).elim (h.short z) (fun g=>by rw[g];exact q5f _ _ _ _ (by simp) hs),k.once h.once,k.few h.few⟩
theorem RowE.step{X:Nat->Prop}{l acc:List Nat}{S S1:List (List Nat)}{M M1:Mt}(h:RowE X l acc S M){L:List Nat}{r:Nat}(hs:stepM fuelN acc.length l [] M=some (L,M1))(hp:putD L S=some (r,S1)):RowE X l (acc++[r]) S1 M1:=by
 obtain⟨e,_⟩:=q4P h.st.good h.bd hs;obtain⟨hpre,hag⟩:=q2V fuelN acc.length l [] M M1 L h.bd hs;have k:=qa3 hp;refine⟨h.st.put h.bd hs hp,qea fuelN acc.length l [] M M1 L h.st.good h.pr h.bd hs,h.bd.mono e.pre.length_le,fun x z hx=>?_⟩
 rcases q7i hx with hx|⟨rfl,rfl⟩
 ·obtain⟨L2,h1,h2⟩:=h.dn x z hx
  exact⟨L2,(q2V fuelN x l [] M M L2 h.bd h1).2 M1 hpre,q8v h2 S1 k.pre⟩
 ·exact⟨L,hag M1 (List.prefix_refl _),q8v hp S1 (List.prefix_refl _)⟩
def txtD:List Nat->List UInt8
 | []=>[]
 |s::L=>Lib.decDigits s++32::txtD L
theorem qaI:∀(L:List Nat) (s:Nat),txtD (L++[s])=txtD L++(Lib.decDigits s++[32])
 | [],s=>rfl
 |z::L,s=>by
  show Lib.decDigits z++32::txtD (L++[s])=_
  rw[qaI L s];simp[txtD]
theorem qhD(u:Nat):∀d∈Lib.decDigits u,48<=d.toNat:=by
 induction u using Nat.strongRecOn with
 |_ u ih=>
  intro d hd;rw[Lib.decDigits]at hd
  split at hd
  ·rename_i h
   have:d=UInt8.ofNat (48+u):=by simpa using hd
   subst this;simp;omega
  ·rename_i h
   rcases List.mem_append.1 hd with hd|hd
   ·exact ih (u / 10) (by omega) d hd
   ·have:d=UInt8.ofNat (48+u % 10):=by simpa using hd
    subst this;simp;omega
theorem qfe(u:Nat):(32:UInt8) ∉ Lib.decDigits u:=fun h=>absurd (qhD u _ h) (by decide)
theorem qdR(u:Nat):(Lib.decDigits u).foldl (fun a d=>a*10+(d.toNat-48)) 0=u:=by
 induction u using Nat.strongRecOn with
 |_ u ih=>
  rw[Lib.decDigits]
  split
  ·rename_i h
   simp;omega
  ·rename_i h
   rw[List.foldl_append,ih (u / 10) (by omega)]
   simp;omega
theorem qhC{u v:Nat}(h:Lib.decDigits u=Lib.decDigits v):u=v:=by rw[<-qdR u,h,qdR]
theorem qe3:∀{p q x y:List UInt8},(32:UInt8) ∉ p->(32:UInt8) ∉ q->p++32::x=q++32::y->p=q/\x=y
 | [],[],x,y,_,_,h=>by simpa using h
 | [],b::q,x,y,_,hq,h=>by
  simp at h hq
  exact absurd h.1 hq.1
 |a::p,[],x,y,hp,_,h=>by
  simp at h hp
  exact absurd h.1.symm hp.1
 |a::p,b::q,x,y,hp,hq,h=>by
  simp only[List.cons_append,List.cons.injEq]at h
  obtain⟨h1,h2⟩:=h;have:=qe3 (fun e=>hp (List.mem_cons_of_mem _ e)) (fun e=>hq (List.mem_cons_of_mem _ e)) h2
  exact⟨by rw[h1,this.1],this.2⟩
theorem q7B:∀{L K:List Nat},txtD L=txtD K->L=K
 | [],[],_=>rfl
 | [],b::K,h=>by simp[txtD]at h
 |a::L,[],h=>by simp[txtD]at h
 |a::L,b::K,h=>by
  obtain⟨h1,h2⟩:=qe3 (qfe a) (qfe b) h;rw[qhC h1,q7B h2]
theorem qe0:∀(k u:Nat),u<10 ^ (k+1)->Lib.nDigits u<=k+1
 | 0,u,h=>by rw[Lib.nDigits_small (by simpa using h)];exact Nat.le_refl _
 |k+1,u,h=>by
  by_cases h10:u<10
  ·rw[Lib.nDigits_small h10];omega
  ·rw[Lib.nDigits_big h10]
   have:=qe0 k (u / 10) (by rw[Nat.pow_succ]at h;omega)
   omega
theorem qdQ{u:Nat}(h:u<2 ^ 64):(Lib.decDigits u).length<=20:=by
 rw[Lib.decDigits_length];exact qe0 19 u (by omega)
theorem q7C:∀(L:List Nat),(∀s∈L,s<2 ^ 64)->(txtD L).length<=21*L.length
 | [],_=>Nat.zero_le _
 |s::L,h=>by
  have h1:=qdQ (h s (List.mem_cons_self ..));have h2:=q7C L fun z hz=>h z (List.mem_cons_of_mem _ hz)
  simp[txtD]
  omega
def txS (L:List Nat):ByteArray:=⟨(txtD L).toArray⟩
theorem qd0(L:List Nat):(txS L).data.toList=txtD L:=by simp[txS]
theorem qjb{x:ByteArray}{L:List Nat}(h:x.data.toList=txtD L):x=txS L:=by
 obtain⟨⟨l⟩⟩:=x;unfold txS;simp at h
 rw[h]
def posT (S:List (List Nat)) (x:ByteArray):Option Nat:=if x.data.toList∈S.map txtD then some ((S.map txtD).idxOf x.data.toList) else none
theorem qe4{S:List (List Nat)}{L:List Nat}(h:L∈S):posT S (txS L)=some (S.idxOf L):=by
 unfold posT;rw[qd0,if_pos (List.mem_map.2 ⟨L,h,rfl⟩)]
 congr 1
 induction S with
 |nil=>cases h
 |cons z S ih=>
  rw[List.map_cons];by_cases e:z=L
  ·subst e;simp
  ·have e2:txtD z≠txtD L:=fun h=>e (q7B h)
   have hm:L∈S:=by
    rcases List.mem_cons.1 h with h|h
    ·exact absurd h.symm e
    ·exact h
   have b1:(z==L)=false:=by simpa using e
   have b2:(txtD z==txtD L)=false:=by simpa using e2
   rw[List.idxOf_cons,List.idxOf_cons,b1,b2,ih hm]
theorem q7v{S:List (List Nat)}{L:List Nat}(h:L ∉ S):posT S (txS L)=none:=by
 unfold posT;rw[qd0,if_neg];intro hm;obtain⟨K,hK,e⟩:=List.mem_map.1 hm;exact h (q7B e ▸ hK)
theorem qfS{S:List (List Nat)}{L:List Nat}(h:L ∉ S)(y:ByteArray):(if y=txS L then some S.length else posT S y)=posT (S++[L]) y:=by
 by_cases e:y=txS L
 ·subst e
  rw[if_pos rfl,qe4 (by simp),List.idxOf_append,if_neg h]
  simp
 ·rw[if_neg e]
  have e2:y.data.toList≠txtD L:=fun h=>e (qjb h)
  unfold posT;rw[List.map_append];by_cases hm:y.data.toList∈S.map txtD
  ·rw[if_pos hm,if_pos (List.mem_append_left _ hm),List.idxOf_append,if_pos hm]
  ·rw[if_neg hm,if_neg]
   intro hm2;rcases List.mem_append.1 hm2 with h1|h1
   ·exact hm h1
   ·exact e2 (by simpa using h1)
abbrev DtV:=Except Nat (List Int×List Gd×List (List Nat)×Mt)
structure DetX (n:Int) (ts:List Tk) (x:DtV):Prop where
 far:¬(0<=n/\n<=8)->x=.error 2
 chk:0<=n/\n<=8->chkE ts≠0->x=.error (chkE ts)
 arg:0<=n/\n<=8->chkE ts=0->¬bitsL ts >>> n.toNat=0->x=.error 2
 det:0<=n/\n<=8->chkE ts=0->bitsL ts >>> n.toNat=0->x=detM (growT ts) n.toNat
theorem DetX.one{n:Int}{ts:List Tk}{x y:DtV}(h:DetX n ts x)(k:DetX n ts y):x=y:=by
 by_cases h1:0<=n/\n<=8
 ·by_cases h2:chkE ts=0
  ·by_cases h3:bitsL ts >>> n.toNat=0
   ·rw[h.det h1 h2 h3,k.det h1 h2 h3]
   ·rw[h.arg h1 h2 h3,k.arg h1 h2 h3]
  ·rw[h.chk h1 h2,k.chk h1 h2]
 ·rw[h.far h1,k.far h1]
theorem DetX.ofFar{n:Int}{ts:List Tk}(h:¬(0<=n/\n<=8)):DetX n ts (.error 2):=⟨fun _=>rfl,fun k=>absurd k h,fun k=>absurd k h,fun k=>absurd k h⟩
theorem DetX.ofChk{n:Int}{ts:List Tk}(h:0<=n/\n<=8)(hc:chkE ts≠0):DetX n ts (.error (chkE ts)):=⟨fun k=>absurd h k,fun _ _=>rfl,fun _ k=>absurd k hc,fun _ k=>absurd k hc⟩
theorem DetX.ofArg{n:Int}{ts:List Tk}(h:0<=n/\n<=8)(hc:chkE ts=0)(hb:¬bitsL ts >>> n.toNat=0):DetX n ts (.error 2):=⟨fun k=>absurd h k,fun _ k=>absurd hc k,fun _ _ _=>rfl,fun _ _ k=>absurd k hb⟩
theorem DetX.ofDet{n:Int}{ts:List Tk}(h:0<=n/\n<=8)(hc:chkE ts=0)(hb:bitsL ts >>> n.toNat=0){T:Tr}(kT:KT T)(hts:ts=T.flat){x:DtV}(hx:detM T n.toNat=x):DetX n ts x:=by
 refine⟨fun k=>absurd h k,fun _ k=>absurd hc k,fun _ _ k=>absurd hb k,fun _ _ _=>?_⟩
 rw[hts,q3k kT.1,hx]
theorem qcS{l:List Nat}:∀{xs acc:List Nat} {S:List (List Nat)} {M:Mt} {E:Nat},rowD l xs acc S M=.error E->E=9\/E=10
 | [],acc,S,M,E,h=>by unfold rowD at h;cases h
 |x::xs,acc,S,M,E,h=>by
  unfold rowD at h
  cases hm:stepM fuelN x l [] M with
  |none=>rw[hm]at h;injection h with h;exact Or.inl h.symm
  |some v=>
   obtain⟨L,M2⟩:=v;rw[hm]at h
   cases hp:putD L S with
   |none=>simp only[hp]at h;injection h with h;exact Or.inr h.symm
   |some u=>
    obtain⟨q,S2⟩:=u;simp only[hp]at h
    exact qcS h
theorem qcl{n:Nat}:∀{f:Nat} {R:List Int} {N:List Gd} {S:List (List Nat)} {M:Mt} {E:Nat},allD n f R N S M=.error E->E=9\/E=10\/E=11
 | 0,R,N,S,M,E,h=>by unfold allD at h;cases h
 |f+1,R,N,S,M,E,h=>by
  unfold allD at h
  split at h
  ·cases hr:rowD (atD S R.length) (List.range (2 ^ n)) [] S M with
   |error e=>
    rw[hr]at h;injection h with h;subst h;rcases qcS hr with h|h
    ·exact Or.inl h
    ·exact Or.inr (Or.inl h)
   |ok v=>
    obtain⟨row,S2,M2⟩:=v;simp only[hr]at h
    split at h
    ·injection h with h;exact Or.inr (Or.inr h.symm)
    ·exact qcl h
  ·cases h
theorem qgj{T:Tr}{n E:Nat}(h:detM T n=.error E):E=9\/E=10\/E=11:=by
 unfold detM at h
 cases hn:needM T [] with
 |none=>rw[hn]at h;injection h with h;exact Or.inl h.symm
 |some v=>rw[hn]at h;exact qcl h
theorem DetX.ok{n:Int}{ts:List Tk}{R:List Int}{N:List Gd}{S:List (List Nat)}{M:Mt}(h:DetX n ts (.ok (R,N,S,M))):(0<=n/\n<=8)/\chkE ts=0/\bitsL ts >>> n.toNat=0/\detM (growT ts) n.toNat=.ok (R,N,S,M):=by
 have h1:0<=n/\n<=8:=Decidable.by_contra fun k=>by cases h.far k
 have h2:chkE ts=0:=Decidable.by_contra fun k=>by cases h.chk h1 k
 have h3:bitsL ts >>> n.toNat=0:=Decidable.by_contra fun k=>by cases h.arg h1 h2 k
 exact⟨h1,h2,h3,(h.det h1 h2 h3).symm⟩
theorem DetX.bad{n:Int}{ts:List Tk}{E:Nat}(h:DetX n ts (.error E))(hc:chkE ts=0):E=2\/E=9\/E=10\/E=11:=by
 by_cases h1:0<=n/\n<=8
 ·by_cases h3:bitsL ts >>> n.toNat=0
  ·exact Or.inr (qgj (h.det h1 hc h3).symm)
  ·have:=h.arg h1 hc h3
   injection this with this;exact Or.inl this
 ·have:=h.far h1
  injection this with this;exact Or.inl this
theorem qf7{T:Tr}(kT:KT T){l0:List Nat}{M:Mt}(hnd:needM T []=some (l0,M))(n:Nat):AllD n [] [] [] [l0] M:=by
 obtain⟨e,_⟩:=qV T q54 kT hnd;exact⟨⟨e.good,fun z hz=>by simp at hz;rw[hz];exact e.bd,fun z hz=>by simp at hz;rw[hz];exact q8s T hnd,fun z hz=>by simp at hz;rw[hz];exact q1U T hnd,by simp,by simp⟩,by simp,BkG.nil n _,by simp,⟨1,rfl,rfl⟩,fun q hq=>by simp at hq,fun q row hq=>by simp at hq⟩
end Go.Proofs.YtailhklbmenaoaaGreatDoor
