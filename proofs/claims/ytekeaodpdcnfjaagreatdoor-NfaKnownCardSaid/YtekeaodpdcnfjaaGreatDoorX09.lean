/- Texts of the proof, put together: what it uses. -/
import Derived.Test.YtekeaodpdcnfjaaGreatDoorX01
import Derived.Test.YtekeaodpdcnfjaaGreatDoorX02
set_option maxRecDepth 100000
set_option maxHeartbeats 16000000
namespace Go.Proofs.YtekeaodpdcnfjaaGreatDoor
def growT (f:List Tk):Tr:=(gS f []).getLast?.getD (.leaf (0,0))
theorem q26{T:Tr}(h:T.WF):growT T.flat=T:=by
 unfold growT
 rw[q2w T h []];rfl
def setM (n x:Nat):List Nat→List Nat→Mt→Rt
 | [],m,M=>some (m,M)
 | k::ks,m,M=>bindM (aftM n (growT (M.getD k [])) x M) fun a M1=>bindM (twoM true m a M1) fun b M2=>setM n x ks b M2
def stepM (n x:Nat):List Nat→List Nat→Mt→Rt
 | [],out,M=>some (out,M)
 | s::ss,out,M=>bindM (setM n x (itemsL s) [0] M) fun m M1=>bindM (twoM false out m M1) fun o M2=>stepM n x ss o M2
theorem q6y(n x:Nat):∀ (ks m:List Nat) (M M':Mt) (L:List Nat),GoodM M→BdL m M.length→(∀ k∈ks,k<M.length)→setM n x ks m M=some (L,M')→Ext M L M'∧∀ (t:List Nat) (i:Nat),t[i]? = some x→(LsP L (SatM t M' (i+1))↔LsP m (SatM t M (i+1))∧∀ k∈ks,SatM t M i k)
 | [],m,M,M',L,hM,hm,_,h=>by
  unfold setM at h
  injection h with h;injection h with h1 h2;subst h1 h2
  exact ⟨⟨List.prefix_refl _,hM,hm⟩,fun t i _=>by simp⟩
 | k::ks,m,M,M',L,hM,hm,hk,h=>by
  unfold setM at h
  obtain ⟨a,M1,ha,h2⟩:=qe h
  obtain ⟨b,M2,hb,h3⟩:=qe h2
  have hkl:=hk k (by simp)
  have hget:M[k]? = some (M.getD k []):=by rw[List.getD_eq_getElem?_getD,List.getElem?_eq_getElem hkl];rfl
  obtain ⟨T,hT,hf⟩:=hM.ker (M.getD k []) (List.mem_of_getElem? hget)
  rw[hf,q26 hT.wf]at ha
  rw[hf]at hget
  obtain ⟨e1,s1⟩:=(q1R n).1 T x M M1 a hM hT ha
  have e:=(qp hb).1
  subst e
  have hbd:=q3g hb (hm.mono (q1k e1.pre)) e1.bd
  obtain ⟨e2,s2⟩:=q6y n x ks b _ M' L e1.good hbd (fun j hj=>Nat.lt_of_lt_of_le (hk j (by simp[hj])) (q1k e1.pre)) h3
  refine ⟨⟨e1.pre.trans e2.pre,e2.good,e2.bd⟩,fun t i hx=>?_⟩
  rw[s2 t i hx,q4V hb,s1 t i hx,← q2J e1.pre hm]
  simp only[if_true]
  have hs:∀ j∈ks,(SatM t M2 i j↔SatM t M i j):=fun j hj=>(qaD e1.pre (hk j (by simp[hj]))).symm
  rw[← q4S (t:=t) (i:=i) hT hget]
  constructor
  ·rintro ⟨⟨h1,h2⟩,h3⟩
   refine ⟨h1,fun j hj=>?_⟩
   rcases List.mem_cons.1 hj with rfl | hj
   ·exact h2
   ·exact (hs j hj).1 (h3 j hj)
  ·rintro ⟨h1,h2⟩
   exact ⟨⟨h1,h2 k (by simp)⟩,fun j hj=>(hs j hj).2 (h2 j (by simp[hj]))⟩
theorem q7P{s m:Nat}(hm:m≤64)(h:∀ k,s.testBit k=true→k<m)(P:Nat→Prop):(∀ k∈itemsL s,P k)↔∀ k,s.testBit k=true→P k:=by
 constructor
 ·intro h1 k hk
  exact h1 k (q1g.2 ⟨Nat.lt_of_lt_of_le (h k hk) hm,hk⟩)
 ·intro h1 k hk
  exact h1 k (q1g.1 hk).2
theorem q9O(n x:Nat):∀ (l out:List Nat) (M M':Mt) (L:List Nat),GoodM M→BdL out M.length→BdL l M.length→stepM n x l out M=some (L,M')→Ext M L M'∧∀ (t:List Nat) (i:Nat),t[i]? = some x→(LsP L (SatM t M' (i+1))↔LsP out (SatM t M (i+1))∨LsP l (SatM t M i))
 | [],out,M,M',L,hM,ho,_,h=>by
  unfold stepM at h
  injection h with h;injection h with h1 h2;subst h1 h2
  exact ⟨⟨List.prefix_refl _,hM,ho⟩,fun t i _=>⟨Or.inl,fun h=>h.elim id fun ⟨s,hs,_⟩=>by cases hs⟩⟩
 | s::ss,out,M,M',L,hM,ho,hl,h=>by
  unfold stepM at h
  obtain ⟨m,M1,hm,h2⟩:=qe h
  obtain ⟨o,M2,hq,h3⟩:=qe h2
  have hs0:=hl s (by simp)
  obtain ⟨e1,s1⟩:=q6y n x (itemsL s) [0] M M1 m hM (qZ true _) (fun k hk=>hs0 k (q1g.1 hk).2) hm
  have e:=(qp hq).1
  subst e
  have hbd:=q3g hq (ho.mono (q1k e1.pre)) e1.bd
  obtain ⟨e2,s2⟩:=q9O n x ss o _ M' L e1.good hbd (fun z hz k hk=>Nat.lt_of_lt_of_le (hl z (by simp[hz]) k hk) (q1k e1.pre)) h3
  refine ⟨⟨e1.pre.trans e2.pre,e2.good,e2.bd⟩,fun t i hx=>?_⟩
  have hy:LsP [0] (SatM t M (i+1)):=(q2b true _).2 rfl
  rw[s2 t i hx,q4V hq,s1 t i hx,← q2J e1.pre ho,← q2J e1.pre (fun z hz=>hl z (by simp[hz])),q7P hM.few hs0]
  simp only[Bool.false_eq_true,if_false]
  constructor
  ·rintro ((h1 | ⟨_,h1⟩) | ⟨z,hz,h1⟩)
   ·exact Or.inl h1
   ·exact Or.inr ⟨s,by simp,h1⟩
   ·exact Or.inr ⟨z,by simp[hz],h1⟩
  ·rintro (h1 | ⟨z,hz,h1⟩)
   ·exact Or.inl (Or.inl h1)
   ·rcases List.mem_cons.1 hz with rfl | hz
    ·exact Or.inl (Or.inr ⟨hy,h1⟩)
    ·exact Or.inr ⟨z,hz,h1⟩
theorem q7z{n x:Nat}{l:List Nat}{M M':Mt}{L:List Nat}(hM:GoodM M)(hl:BdL l M.length)(h:stepM n x l [] M=some (L,M')):Ext M L M'∧∀ (t:List Nat) (i:Nat),t[i]? = some x→(LsP L (SatM t M' (i+1))↔LsP l (SatM t M i)):=by
 obtain ⟨e,s⟩:=q9O n x l [] M M' L hM (fun z hz=>by cases hz) hl h
 refine ⟨e,fun t i hx=>?_⟩
 rw[s t i hx]
 exact ⟨fun h=>h.elim (fun ⟨z,hz,_⟩=>by cases hz) id,Or.inr⟩
def FinP (M:Mt) (l:List Nat):Prop:=LsP l (SatM [] M 0)
theorem q5B:GoodM []:=⟨fun f hf=>(by cases hf),by simp⟩
def Pr (X:Nat→Prop) (f:List Tk):Prop:=∀ p,(2,p)∈f→X p
def Like (X:Nat→Prop) (x y:Nat):Prop:=∀ p,X p→x.testBit p=y.testBit p
theorem pr_un{X:Nat→Prop}{k:Tk}{c:Tr}(h:Pr X (Tr.un k c).flat):Pr X c.flat:=fun p hp=>h p (by simp[Tr.flat,hp])
theorem qC{X:Nat→Prop}{k:Tk}{c d:Tr}(h:Pr X (Tr.bin k c d).flat):Pr X c.flat∧Pr X d.flat:=⟨fun p hp=>h p (by simp[Tr.flat,hp]),fun p hp=>h p (by simp[Tr.flat,hp])⟩
theorem qK{X:Nat→Prop}{a b:List Tk}:Pr X (a++b)↔Pr X a∧Pr X b :=
 ⟨fun h=>⟨fun p hp=>h p (by simp[hp]),fun p hp=>h p (by simp[hp])⟩,fun h p hp=>(List.mem_append.1 hp).elim (h.1 p) (h.2 p)⟩
theorem qL{X:Nat→Prop}{op p:Nat}(h:op≠2):Pr X [(op,p)]:=fun q hq=>by
 simp at hq
 exact absurd hq.1.symm h
theorem qaA{X:Nat→Prop}{r f:Tr}(box:Bool)(hr:Pr X r.flat)(hf:Pr X f.flat):Pr X (Tr.bin (modeO box,0) r f).flat :=
 qK.2 ⟨qK.2 ⟨hr,hf⟩,qL (by cases box <;> decide)⟩
theorem pr_k{X:Nat→Prop}:∀ T:Tr,T.WF→Pr X T.flat→Pr X (kTr T).1.flat∧Pr X (kTr T).2.flat
 | .leaf (op,p),hw,h=>by
  rcases qN hw with ⟨rfl,_⟩ | ⟨rfl,rfl | rfl | rfl | rfl | rfl⟩
  ·exact ⟨h,qK.2 ⟨h,qL (by decide)⟩⟩
  all_goals refine ⟨fun q hq=>?_,fun q hq=>?_⟩ <;> simp[kTr,Tr.flat]at hq
 | .un (op,p) c,hw,h=>by
  obtain ⟨rfl,hc,hf,ho⟩:=qE hw
  obtain ⟨i1,i2⟩:=pr_k c hc (pr_un h)
  rcases ho with rfl | rfl | rfl | rfl | rfl | rfl | rfl | rfl
  ·exact ⟨i2,i1⟩
  ·exact ⟨qK.2 ⟨i1,qL (by decide)⟩,qK.2 ⟨i2,qL (by decide)⟩⟩
  ·exact ⟨qK.2 ⟨i1,qL (by decide)⟩,qK.2 ⟨i2,qL (by decide)⟩⟩
  ·exact ⟨qK.2 ⟨qK.2 ⟨qL (by decide),i1⟩,qL (by decide)⟩,qK.2 ⟨qK.2 ⟨qL (by decide),i2⟩,qL (by decide)⟩⟩
  ·exact ⟨qK.2 ⟨qK.2 ⟨qL (by decide),i1⟩,qL (by decide)⟩,qK.2 ⟨qK.2 ⟨qL (by decide),i2⟩,qL (by decide)⟩⟩
  ·exact ⟨qK.2 ⟨i1,qL (by decide)⟩,qK.2 ⟨i1,qL (by decide)⟩⟩
  ·exact ⟨qK.2 ⟨i1,qL (by decide)⟩,qK.2 ⟨i1,qL (by decide)⟩⟩
  ·exact ⟨qK.2 ⟨i1,qL (by decide)⟩,qK.2 ⟨i1,qL (by decide)⟩⟩
 | .bin (op,p) c d,hw,h=>by
  obtain ⟨rfl,hc,hd,hf,ho⟩:=qy hw
  obtain ⟨i1,i2⟩:=pr_k c hc (qC h).1
  obtain ⟨j1,j2⟩:=pr_k d hd (qC h).2
  have two:∀ {a b:Tr} (o:Nat),o≠2→Pr X a.flat→Pr X b.flat→Pr X (Tr.bin (o,0) a b).flat:=fun o ho ha hb=>qK.2 ⟨qK.2 ⟨ha,hb⟩,qL ho⟩
  rcases ho with rfl | rfl | rfl | rfl | rfl | rfl | rfl | rfl | rfl | rfl
  ·exact ⟨two 11 (by decide) i1 j1,two 12 (by decide) i2 j2⟩
  ·exact ⟨two 12 (by decide) i1 j1,two 11 (by decide) i2 j2⟩
  ·exact ⟨two 12 (by decide) i2 j1,two 11 (by decide) i1 j2⟩
  ·exact ⟨two 12 (by decide) (two 11 (by decide) i1 j1) (two 11 (by decide) i2 j2),two 12 (by decide) (two 11 (by decide) i1 j2) (two 11 (by decide) i2 j1)⟩
  ·exact ⟨two 15 (by decide) i1 j1,two 16 (by decide) i2 j2⟩
  ·exact ⟨two 16 (by decide) i1 j1,two 15 (by decide) i2 j2⟩
  ·exact ⟨two 17 (by decide) i1 j1,two 18 (by decide) i1 j2⟩
  ·exact ⟨two 18 (by decide) i1 j1,two 17 (by decide) i1 j2⟩
  ·exact ⟨two 21 (by decide) i1 j1,two 21 (by decide) i1 j1⟩
  ·exact ⟨two 22 (by decide) i1 j1,two 22 (by decide) i1 j1⟩
theorem q3N{X:Nat→Prop}{x y:Nat}(hx:Like X x y):∀ T:Tr,T.WF→pathT T=false→plainT T=true→Pr X T.flat→plV x T=plV y T
 | .leaf (op,p),hw,_,hp,h=>by
  rw[q6v]at hp
  rcases qN hw with ⟨rfl,_⟩ | ⟨rfl,rfl | rfl | rfl | rfl | rfl⟩
  ·exact hx p (h p (by simp[Tr.flat]))
  ·rfl
  ·rfl
  ·simp[plainB]at hp
  ·simp[plainB]at hp
  ·simp[plainB]at hp
 | .un (op,p) c,hw,hq,hp,h=>by
  obtain ⟨rfl,hc,hf,ho⟩:=qE hw
  rw[qS]at hp
  simp only[Bool.and_eq_true]at hp
  have hn:pathT c=false:=by
   rcases ho with rfl | rfl | rfl | rfl | rfl | rfl | rfl | rfl
   ·simpa [fit1T] using hf
   ·simpa [fit1T] using hf
   ·simpa [fit1T] using hf
   ·simpa [fit1T] using hf
   ·simpa [fit1T] using hf
   ·cases hq
   ·cases hq
   ·cases hq
  unfold plV
  rw[q3N hx c hc hn hp.2 (pr_un h)]
 | .bin (op,p) c d,hw,hq,hp,h=>by
  obtain ⟨rfl,hc,hd,hf,ho⟩:=qy hw
  rw[ql]at hp
  simp only[Bool.and_eq_true]at hp
  have hn:pathT c=false∧pathT d=false:=by
   rcases ho with rfl | rfl | rfl | rfl | rfl | rfl | rfl | rfl | rfl | rfl
   ·simpa [fit2T] using hf
   ·simpa [fit2T] using hf
   ·simpa [fit2T] using hf
   ·simpa [fit2T] using hf
   ·simp[plainB]at hp
   ·simp[plainB]at hp
   ·simp[plainB]at hp
   ·simp[plainB]at hp
   ·cases hq
   ·cases hq
  unfold plV
  rw[q3N hx c hc hn.1 hp.2.1 (qC h).1,q3N hx d hd hn.2 hp.2.2 (qC h).2]
theorem q7Q{X:Nat→Prop}{x y:Nat}(hx:Like X x y):∀ n,(∀ T M,KT T→Pr X T.flat→aftM n T x M=aftM n T y M)∧(∀ box r s f M,KP r→Pr X r.flat→pthM n box r s f x M=pthM n box r s f y M)
 | 0=>⟨fun _ _ _ _=>rfl,fun _ _ _ _ _ _ _=>rfl⟩
 | n+1=>by
  obtain ⟨ih,jh⟩:=q7Q hx n
  refine ⟨fun T M hT h=>?_,fun box r s f M hr h=>?_⟩
  ·match T,hT,h with
   | .leaf (op,p),hT,h =>
    (first | rw[qD,qD] | rw[qI,qI] | rw[qt,qt] | rw[qG,qG])
    dsimp only
    by_cases e:op=2
    ·subst e
     rw[hx p (h p (by simp[Tr.flat]))]
    ·rw[if_neg e,if_neg e]
   | .un (op,p) c,hT,h =>
    (first | rw[qD,qD] | rw[qI,qI] | rw[qt,qt] | rw[qG,qG])
    dsimp only
    rcases kt_un hT with ⟨rfl,⟨rfl,q,rfl⟩ | ⟨ho,hc⟩⟩
    ·rw[if_pos rfl,if_pos rfl,q3N hx _ hT.wf.2.2 rfl rfl (pr_un h)]
    ·rcases ho with rfl | rfl <;> rfl
   | .bin (op,p) c d,hT,h =>
    (first | rw[qD,qD] | rw[qI,qI] | rw[qt,qt] | rw[qG,qG])
    dsimp only
    obtain ⟨rfl,ho⟩:=q1n hT
    split
    ·rename_i ho2
     obtain ⟨kc,kd⟩:=qB hT (by rcases ho2 with h | h <;> simp[h])
     rw[ih c M kc (qC h).1]
     exact congrArg _ (funext fun a=>funext fun M1=>by rw[ih d M1 kd (qC h).2])
    ·split
     ·rename_i ho1 ho2
      obtain ⟨kc,kd⟩:=qB hT (by rcases ho2 with h | h <;> simp[h])
      rw[ih d M kd (qC h).2]
      exact congrArg _ (funext fun a=>funext fun M1=>by rw[ih c M1 kc (qC h).1])
     ·obtain ⟨kc,kd⟩:=q1e hT (by omega)
      rw[ih d M kd (qC h).2]
      exact congrArg _ (funext fun a=>funext fun M1=>by rw[jh _ c a d M1 kc (qC h).1])
  ·match r,hr,h with
   | .leaf k,hr,h=>exact (q28 hr).elim
   | .un (op,p) c,hr,h =>
    (first | rw[qX,qX] | rw[qP,qP] | rw[qM,qM] | rw[qY,qY])
    dsimp only
    rcases kp_un hr with ⟨rfl,⟨rfl,hc,hpl⟩ | ⟨rfl,hc⟩ | ⟨rfl,hc⟩⟩
    ·have hnp:pathT c=false:=by
      have hf1:=(qE hr.wf).2.2.1
      simp[fit1T]at hf1
      exact hf1.1
     rw[if_pos rfl,if_pos rfl,q3N hx c hc hnp hpl (pr_un h)]
    ·show bindM (aftM n (if box then (kTr c).2 else c) x M) _=bindM (aftM n (if box then (kTr c).2 else c) y M) _
     rw[ih (if box then (kTr c).2 else c) M (by
      cases box
      ·exact hc
      ·exact q2I hc) (by
      cases box
      ·exact pr_un h
      ·exact (pr_k c hc.wf (pr_un h)).2)]
    ·rw[if_neg (by decide),if_neg (by decide),if_neg (by decide),if_neg (by decide),jh box c _ _ M hc (pr_un h)]
   | .bin (op,p) c d,hr,h =>
    (first | rw[qX,qX] | rw[qP,qP] | rw[qM,qM] | rw[qY,qY])
    dsimp only
    obtain ⟨rfl,ho,kc,kd⟩:=q1d hr
    rcases ho with rfl | rfl
    ·rw[if_pos rfl,if_pos rfl,jh box c s f M kc (qC h).1]
     exact congrArg _ (funext fun a=>funext fun M1=>by rw[jh box d s f M1 kd (qC h).2])
    ·rw[if_neg (by decide),if_neg (by decide),jh box d s f M kd (qC h).2]
     exact congrArg _ (funext fun a=>funext fun M1=>by rw[jh box c a _ M1 kc (qC h).1])
def PrM (X:Nat→Prop) (M:Mt):Prop:=∀ f∈M,Pr X f
theorem q7v{X:Nat→Prop}{f:List Tk}{M M':Mt}{L:List Nat}(hf:Pr X f)(hM:PrM X M)(h:meetM f M=some (L,M')):PrM X M':=by
 unfold meetM at h
 split at h
 ·injection h with h;injection h with h1 h2;subst h1 h2;exact hM
 ·split at h
  ·injection h with h;injection h with h1 h2;subst h1 h2
   intro g hg
   rcases List.mem_append.1 hg with hg | hg
   ·exact hM g hg
   ·rw[List.mem_singleton.1 hg];exact hf
  ·cases h
theorem q1S{X:Nat→Prop}:∀ (T:Tr) {M M':Mt} {L:List Nat},Pr X T.flat→PrM X M→needM T M=some (L,M')→PrM X M'
 | .leaf (op,p),M,M',L,hT,hM,h=>by
  unfold needM at h
  dsimp only at h
  split at h
  ·injection h with h;injection h with h1 h2;subst h1 h2;exact hM
  ·split at h
   ·injection h with h;injection h with h1 h2;subst h1 h2;exact hM
   ·exact q7v hT hM h
 | .un k c,M,M',L,hT,hM,h=>q7v hT hM h
 | .bin (op,p) c d,M,M',L,hT,hM,h=>by
  unfold needM at h
  dsimp only at h
  split at h
  ·obtain ⟨a,M1,ha,h2⟩:=qe h
   obtain ⟨b,M2,hb,h3⟩:=qe h2
   rw[(qp h3).1]
   exact q1S d (qC hT).2 (q1S c (qC hT).1 hM ha) hb
  ·exact q7v hT hM h
theorem q7u{X:Nat→Prop}{x:Nat}:∀ n,(∀ T M M' L,KT T→Pr X T.flat→PrM X M→aftM n T x M=some (L,M')→PrM X M')∧(∀ box r s f M M' L,KP r→Pr X r.flat→Pr X f.flat→PrM X M→pthM n box r s f x M=some (L,M')→PrM X M')
 | 0=>⟨fun T M M' L _ _ _ h=>(by (first | rw[qD]at h | rw[qI]at h | rw[qt]at h | rw[qG]at h);cases h),fun box r s f M M' L _ _ _ _ h=>(by (first | rw[qX]at h | rw[qP]at h | rw[qM]at h | rw[qY]at h);cases h)⟩
 | n+1=>by
  obtain ⟨ih,jh⟩:=q7u (X:=X) (x:=x) n
  refine ⟨fun T M M' L hT hp hM h=>?_,fun box r s f M M' L hr hp hf hM h=>?_⟩
  ·match T,hT,hp,h with
   | .leaf (op,p),hT,hp,h =>
    (first | rw[qD]at h | rw[qI]at h | rw[qt]at h | rw[qG]at h)
    injection h with h;injection h with h1 h2;subst h1 h2;exact hM
   | .un (op,p) c,hT,hp,h =>
    (first | rw[qD]at h | rw[qI]at h | rw[qt]at h | rw[qG]at h)
    dsimp only at h
    split at h
    ·injection h with h;injection h with h1 h2;subst h1 h2;exact hM
    ·split at h
     ·obtain ⟨a,M1,ha,h2⟩:=qe h
      obtain ⟨b,M2,hb,h3⟩:=qe h2
      rw[(qp h3).1]
      exact q1S c (pr_un hp) (q1S _ (qL (by decide)) hM ha) hb
     ·obtain ⟨a,M1,ha,h2⟩:=qe h
      obtain ⟨b,M2,hb,h3⟩:=qe h2
      rw[(qp h3).1]
      exact q1S c (pr_un hp) (q1S _ (qL (by decide)) hM ha) hb
   | .bin (op,p) c d,hT,hp,h =>
    (first | rw[qD]at h | rw[qI]at h | rw[qt]at h | rw[qG]at h)
    dsimp only at h
    obtain ⟨rfl,ho⟩:=q1n hT
    split at h
    ·rename_i ho2
     obtain ⟨kc,kd⟩:=qB hT (by rcases ho2 with h | h <;> simp[h])
     obtain ⟨a,M1,ha,h2⟩:=qe h
     obtain ⟨b,M2,hb,h3⟩:=qe h2
     rw[(qp h3).1]
     exact ih d M1 M2 b kd (qC hp).2 (ih c M M1 a kc (qC hp).1 hM ha) hb
    ·split at h
     ·rename_i ho1 ho2
      obtain ⟨kc,kd⟩:=qB hT (by rcases ho2 with h | h <;> simp[h])
      obtain ⟨b,M1,hb,h2⟩:=qe h
      obtain ⟨a,M2,ha,h3⟩:=qe h2
      obtain ⟨u,M3,hu,h4⟩:=qe h3
      obtain ⟨v,M4,hv,h5⟩:=qe h4
      rw[(qp h5).1,(qp hv).1]
      exact q1S _ hp (ih c M1 M2 a kc (qC hp).1 (ih d M M1 b kd (qC hp).2 hM hb) ha) hu
     ·obtain ⟨kc,kd⟩:=q1e hT (by omega)
      obtain ⟨s,M1,hs,h2⟩:=qe h
      exact jh _ c s d M1 M' L kc (qC hp).1 (qC hp).2 (ih d M M1 s kd (qC hp).2 hM hs) h2
  ·match r,hr,hp,h with
   | .leaf k,hr,hp,h=>exact (q28 hr).elim
   | .un (op,p) c,hr,hp,h =>
    (first | rw[qX]at h | rw[qP]at h | rw[qM]at h | rw[qY]at h)
    dsimp only at h
    rcases kp_un hr with ⟨rfl,⟨rfl,hc,hpl⟩ | ⟨rfl,hc⟩ | ⟨rfl,hc⟩⟩
    ·rw[if_pos rfl]at h
     split at h
     ·exact q1S f hf hM h
     ·injection h with h;injection h with h1 h2;subst h1 h2;exact hM
    ·rw[if_neg (by decide),if_pos rfl]at h
     obtain ⟨a,M1,ha,h2⟩:=qe h
     rw[(qp h2).1]
     refine ih _ M M1 a ?_ ?_ hM ha
     ·cases box
      ·exact hc
      ·exact q2I hc
     ·cases box
      ·exact pr_un hp
      ·exact (pr_k c hc.wf (pr_un hp)).2
    ·rw[if_neg (by decide),if_neg (by decide)]at h
     obtain ⟨a,M1,ha,h2⟩:=qe h
     rw[(qp h2).1]
     exact jh box c _ _ M M1 a hc (pr_un hp) (qaA box hp hf) hM ha
   | .bin (op,p) c d,hr,hp,h =>
    (first | rw[qX]at h | rw[qP]at h | rw[qM]at h | rw[qY]at h)
    dsimp only at h
    obtain ⟨rfl,ho,kc,kd⟩:=q1d hr
    rcases ho with rfl | rfl
    ·rw[if_pos rfl]at h
     obtain ⟨a,M1,ha,h2⟩:=qe h
     obtain ⟨b,M2,hb,h3⟩:=qe h2
     rw[(qp h3).1]
     exact jh box d s f M1 M2 b kd (qC hp).2 hf (jh box c s f M M1 a kc (qC hp).1 hf hM ha) hb
    ·rw[if_neg (by decide)]at h
     obtain ⟨a,M1,ha,h2⟩:=qe h
     exact jh box c a _ M1 M' L kc (qC hp).1 (qaA box (qC hp).2 hf) (jh box d s f M M1 a kd (qC hp).2 hf hM ha) h2
def Again (g:Mt→Rt):Prop:=∀ M L M1,g M=some (L,M1)→M <+: M1∧∀ M2,M1 <+: M2→g M2=some (L,M2)
theorem q2k(l:List Nat):Again fun M=>some (l,M):=fun M L M1 h=>by
 injection h with h;injection h with h1 h2;subst h1 h2
 exact ⟨List.prefix_refl _,fun M2 _=>rfl⟩
theorem q17(and:Bool)(a b:List Nat):Again fun M=>twoM and a b M:=fun M L M1 h=>by
 have e:=(qp h).1
 subst e
 refine ⟨List.prefix_refl _,fun M2 _=>?_⟩
 show twoM and a b M2=_
 unfold twoM at h ⊢
 cases hq:(if and then andM a b else orM a b) with
 | none=>rw[hq]at h;cases h
 | some q =>
  rw[hq]at h
  injection h with h;injection h with h1 h2
  rw[← h1];rfl
theorem qw{g:Mt→Rt}{k:List Nat→Mt→Rt}(hg:Again g)(hk:∀ l,Again (k l)):Again fun M=>bindM (g M) k:=fun M L M1 h=>by
 obtain ⟨a,Ma,ha,h2⟩:=qe h
 obtain ⟨p1,q1⟩:=hg M a Ma ha
 obtain ⟨p2,q2⟩:=hk a Ma L M1 h2
 refine ⟨p1.trans p2,fun M2 h3=>?_⟩
 show bindM (g M2) k=_
 rw[q1 M2 (p2.trans h3)]
 exact q2 M2 h3
theorem q41(f:List Tk):Again (meetM f):=fun M L M1 h=>by
 unfold meetM at h
 split at h
 ·rename_i i hi
  injection h with h;injection h with h1 h2;subst h1 h2
  refine ⟨List.prefix_refl _,fun M2 hp=>?_⟩
  obtain ⟨r,rfl⟩:=hp
  unfold meetM
  rw[List.findIdx?_append,hi];rfl
 ·rename_i hi
  split at h
  ·injection h with h;injection h with h1 h2;subst h1 h2
   refine ⟨List.prefix_append _ _,fun M2 hp=>?_⟩
   obtain ⟨r,rfl⟩:=hp
   unfold meetM
   rw[List.append_assoc,List.findIdx?_append,hi]
   simp[List.findIdx?_cons]
  ·cases h
theorem q1f:∀ T:Tr,Again (needM T)
 | .leaf k=>by
  intro M L M1 h
  by_cases h0:k.1=0
  ·have e:needM (.leaf k)=fun M=>some ([0],M):=by funext M;unfold needM;rw[if_pos h0]
   rw[e]at h ⊢
   exact q2k [0] M L M1 h
  ·by_cases h1:k.1=1
   ·have e:needM (.leaf k)=fun M=>some ([],M):=by funext M;unfold needM;rw[if_neg h0,if_pos h1]
    rw[e]at h ⊢
    exact q2k [] M L M1 h
   ·have e:needM (.leaf k)=meetM (Tr.leaf k).flat:=by funext M;unfold needM;rw[if_neg h0,if_neg h1]
    rw[e]at h ⊢
    exact q41 _ M L M1 h
 | .un k c=>fun M L M1 h=>q41 (Tr.un k c).flat M L M1 h
 | .bin k c d=>by
  by_cases h0:k.1=11∨k.1=12
  ·have e:needM (.bin k c d)=fun M=>bindM (needM c M) fun a M1=>bindM (needM d M1) fun b M2=>twoM (k.1 == 11) a b M2:=by funext M;rw[needM,if_pos h0]
   rw[e]
   exact qw (q1f c) fun a=>qw (q1f d) fun b=>q17 _ a b
  ·have e:needM (.bin k c d)=meetM (Tr.bin k c d).flat:=by funext M;rw[needM,if_neg h0]
   rw[e]
   exact q41 _
theorem q42:Again fun _=>none:=fun M L M1 h=>by cases h
theorem q40(x:Nat):∀ n,(∀ T,Again (aftM n T x))∧(∀ box r s f,Again (pthM n box r s f x))
 | 0=>⟨fun T=>by rw[show aftM 0 T x=fun _=>none by funext M;rw[qG]];exact q42,fun box r s f=>by rw[show pthM 0 box r s f x=fun _=>none by funext M;rw[qY]];exact q42⟩
 | n+1=>by
  obtain ⟨ih,jh⟩:=q40 x n
  refine ⟨fun T=>?_,fun box r s f=>?_⟩
  ·match T with
   | .leaf k =>
    rw[show aftM (n+1) (.leaf k) x=fun M=>some (yesM (if k.1=2 then x.testBit k.2 else k.1 == 0 || k.1 == 4),M) by funext M;rw[qD]]
    exact q2k _
   | .un k c =>
    by_cases h6:k.1=6
    ·rw[show aftM (n+1) (.un k c) x=fun M=>some (yesM (!plV x c),M) by funext M;rw[qI,if_pos h6]]
     exact q2k _
    ·by_cases h7:k.1=7
     ·rw[show aftM (n+1) (.un k c) x=fun M=>bindM (needM (.leaf (4,0)) M) fun a M1=>bindM (needM c M1) fun b M2=>twoM true a b M2 by funext M;rw[qI,if_neg h6,if_pos h7]]
      exact qw (q1f _) fun a=>qw (q1f _) fun b=>q17 _ a b
     ·rw[show aftM (n+1) (.un k c) x=fun M=>bindM (needM (.leaf (5,0)) M) fun a M1=>bindM (needM c M1) fun b M2=>twoM false a b M2 by funext M;rw[qI,if_neg h6,if_neg h7]]
      exact qw (q1f _) fun a=>qw (q1f _) fun b=>q17 _ a b
   | .bin k c d =>
    by_cases h1:k.1=11∨k.1=12
    ·rw[show aftM (n+1) (.bin k c d) x=fun M=>bindM (aftM n c x M) fun a M1=>bindM (aftM n d x M1) fun b M2=>twoM (k.1 == 11) a b M2 by funext M;rw[qt,if_pos h1]]
     exact qw (ih c) fun a=>qw (ih d) fun b=>q17 _ a b
    ·by_cases h2:k.1=15∨k.1=16
     ·rw[show aftM (n+1) (.bin k c d) x=fun M=>bindM (aftM n d x M) fun b M1=>bindM (aftM n c x M1) fun a M2=>bindM (needM (.bin k c d) M2) fun u M3=>bindM (twoM (k.1 == 15) a u M3) fun v M4=>twoM (k.1 == 16) b v M4 by funext M;rw[qt,if_neg h1,if_pos h2]]
      exact qw (ih d) fun b=>qw (ih c) fun a=>qw (q1f _) fun u=>qw (q17 _ a u) fun v=>q17 _ b v
     ·rw[show aftM (n+1) (.bin k c d) x=fun M=>bindM (aftM n d x M) fun s M1=>pthM n (k.1 == 18) c s d x M1 by funext M;rw[qt,if_neg h1,if_neg h2]]
      exact qw (ih d) fun s=>jh _ c s d
  ·match r with
   | .leaf k=>rw[show pthM (n+1) box (.leaf k) s f x=fun _=>none by funext M;rw[qX]];exact q42
   | .un k c =>
    by_cases h1:k.1=19
    ·by_cases hv:plV x c=true
     ·rw[show pthM (n+1) box (.un k c) s f x=needM f by funext M;rw[qP,if_pos h1,if_pos hv]]
      exact q1f f
     ·rw[show pthM (n+1) box (.un k c) s f x=fun M=>some (yesM box,M) by funext M;rw[qP,if_pos h1,if_neg hv]]
      exact q2k _
    ·by_cases h2:k.1=20
     ·rw[show pthM (n+1) box (.un k c) s f x=fun M=>bindM (aftM n (if box then (kTr c).2 else c) x M) fun a M1=>twoM (!box) a s M1 by funext M;rw[qP,if_neg h1,if_pos h2]]
      exact qw (ih _) fun a=>q17 _ a s
     ·rw[show pthM (n+1) box (.un k c) s f x=fun M=>bindM (pthM n box c (yesM box) (.bin (modeO box,0) (.un k c) f) x M) fun a M1=>twoM box s a M1 by funext M;rw[qP,if_neg h1,if_neg h2]]
      exact qw (jh _ _ _ _) fun a=>q17 _ s a
   | .bin k c d =>
    by_cases h1:k.1=21
    ·rw[show pthM (n+1) box (.bin k c d) s f x=fun M=>bindM (pthM n box c s f x M) fun a M1=>bindM (pthM n box d s f x M1) fun b M2=>twoM box a b M2 by funext M;rw[qM,if_pos h1]]
     exact qw (jh _ _ _ _) fun a=>qw (jh _ _ _ _) fun b=>q17 _ a b
    ·rw[show pthM (n+1) box (.bin k c d) s f x=fun M=>bindM (pthM n box d s f x M) fun a M1=>pthM n box c a (.bin (modeO box,0) d f) x M1 by funext M;rw[qM,if_neg h1]]
     exact qw (jh _ _ _ _) fun a=>jh _ _ _ _
theorem qcV{M M':Mt}(h:M <+: M'){k:Nat}(hk:k<M.length):M'.getD k []=M.getD k []:=by
 rw[List.getD_eq_getElem?_getD,List.getD_eq_getElem?_getD,qaB h hk]
theorem q7Z(n x:Nat):∀ (ks m:List Nat) (M M1:Mt) (L:List Nat),(∀ k∈ks,k<M.length)→setM n x ks m M=some (L,M1)→M <+: M1∧∀ M2,M1 <+: M2→setM n x ks m M2=some (L,M2)
 | [],m,M,M1,L,_,h=>by
  unfold setM at h
  injection h with h;injection h with h1 h2;subst h1 h2
  exact ⟨List.prefix_refl _,fun M2 _=>rfl⟩
 | k::ks,m,M,M1,L,hk,h=>by
  unfold setM at h
  obtain ⟨a,Ma,ha,h2⟩:=qe h
  obtain ⟨b,Mb,hb,h3⟩:=qe h2
  obtain ⟨p1,q1⟩:=(q40 x n).1 _ M a Ma ha
  obtain ⟨p2,q2⟩:=q17 true m a Ma b Mb hb
  obtain ⟨p3,q3⟩:=q7Z n x ks b Mb M1 L (fun j hj=>Nat.lt_of_lt_of_le (hk j (by simp[hj])) ((p1.trans p2).length_le)) h3
  refine ⟨(p1.trans p2).trans p3,fun M2 hp=>?_⟩
  unfold setM
  rw[qcV (((p1.trans p2).trans p3).trans hp) (hk k (by simp)),q1 M2 ((p2.trans p3).trans hp)]
  show bindM (twoM true m a M2) _=_
  rw[show twoM true m a M2=some (b,M2) from q2 M2 (p3.trans hp)]
  exact q3 M2 hp
theorem q2m(n x:Nat):∀ (l out:List Nat) (M M1:Mt) (L:List Nat),BdL l M.length→stepM n x l out M=some (L,M1)→M <+: M1∧∀ M2,M1 <+: M2→stepM n x l out M2=some (L,M2)
 | [],out,M,M1,L,_,h=>by
  unfold stepM at h
  injection h with h;injection h with h1 h2;subst h1 h2
  exact ⟨List.prefix_refl _,fun M2 _=>rfl⟩
 | s::ss,out,M,M1,L,hl,h=>by
  unfold stepM at h
  obtain ⟨a,Ma,ha,h2⟩:=qe h
  obtain ⟨b,Mb,hb,h3⟩:=qe h2
  obtain ⟨p1,q1⟩:=q7Z n x (itemsL s) [0] M Ma a (fun k hk=>hl s (by simp) k (q1g.1 hk).2) ha
  obtain ⟨p2,q2⟩:=q17 false out a Ma b Mb hb
  obtain ⟨p3,q3⟩:=q2m n x ss b Mb M1 L (fun z hz k hk=>Nat.lt_of_lt_of_le (hl z (by simp[hz]) k hk) ((p1.trans p2).length_le)) h3
  refine ⟨(p1.trans p2).trans p3,fun M2 hp=>?_⟩
  unfold stepM
  rw[q1 M2 ((p2.trans p3).trans hp)]
  show bindM (twoM false out a M2) _=_
  rw[show twoM false out a M2=some (b,M2) from q2 M2 (p3.trans hp)]
  exact q3 M2 hp
theorem q9L{X:Nat→Prop}{x y:Nat}(hx:Like X x y)(n:Nat):∀ (ks m:List Nat) (M:Mt),GoodM M→PrM X M→(∀ k∈ks,k<M.length)→BdL m M.length→setM n x ks m M=setM n y ks m M
 | [],m,M,_,_,_,_=>rfl
 | k::ks,m,M,hM,hp,hk,hm=>by
  have hkl:=hk k (by simp)
  have hget:M[k]? = some (M.getD k []):=by rw[List.getD_eq_getElem?_getD,List.getElem?_eq_getElem hkl];rfl
  have hmem:=List.mem_of_getElem? hget
  obtain ⟨T,hT,hf⟩:=hM.ker _ hmem
  have hpT:Pr X T.flat:=hf ▸ hp _ hmem
  unfold setM
  rw[hf,q26 hT.wf,(q7Q hx n).1 T M hT hpT]
  cases ha:aftM n T y M with
  | none=>rfl
  | some z =>
   obtain ⟨a,M1⟩:=z
   show bindM (twoM true m a M1) _=bindM (twoM true m a M1) _
   cases hb:twoM true m a M1 with
   | none=>rfl
   | some q =>
    obtain ⟨b,M2⟩:=q
    show setM n x ks b M2=setM n y ks b M2
    have e:=(qp hb).1
    subst e
    obtain ⟨e1,_⟩:=(q1R n).1 T y M _ a hM hT ha
    exact q9L hx n ks b _ e1.good ((q7u n).1 T M _ a hT hpT hp ha) (fun j hj=>Nat.lt_of_lt_of_le (hk j (by simp[hj])) (q1k e1.pre)) (q3g hb (hm.mono (q1k e1.pre)) e1.bd)
theorem q9M{X:Nat→Prop}(n x:Nat):∀ (ks m:List Nat) (M M':Mt) (L:List Nat),GoodM M→PrM X M→(∀ k∈ks,k<M.length)→setM n x ks m M=some (L,M')→PrM X M'
 | [],m,M,M',L,_,hp,_,h=>by
  unfold setM at h
  injection h with h;injection h with h1 h2;subst h1 h2
  exact hp
 | k::ks,m,M,M',L,hM,hp,hk,h=>by
  have hkl:=hk k (by simp)
  have hget:M[k]? = some (M.getD k []):=by rw[List.getD_eq_getElem?_getD,List.getElem?_eq_getElem hkl];rfl
  have hmem:=List.mem_of_getElem? hget
  obtain ⟨T,hT,hf⟩:=hM.ker _ hmem
  have hpT:Pr X T.flat:=hf ▸ hp _ hmem
  unfold setM at h
  rw[hf,q26 hT.wf]at h
  obtain ⟨a,Ma,ha,h2⟩:=qe h
  obtain ⟨b,Mb,hb,h3⟩:=qe h2
  have e:=(qp hb).1
  subst e
  obtain ⟨e1,_⟩:=(q1R n).1 T x M _ a hM hT ha
  exact q9M n x ks b _ M' L e1.good ((q7u n).1 T M _ a hT hpT hp ha) (fun j hj=>Nat.lt_of_lt_of_le (hk j (by simp[hj])) (q1k e1.pre)) h3
theorem qaE{X:Nat→Prop}(n x:Nat):∀ (l out:List Nat) (M M':Mt) (L:List Nat),GoodM M→PrM X M→BdL l M.length→stepM n x l out M=some (L,M')→PrM X M'
 | [],out,M,M',L,_,hp,_,h=>by
  unfold stepM at h
  injection h with h;injection h with h1 h2;subst h1 h2
  exact hp
 | s::ss,out,M,M',L,hM,hp,hl,h=>by
  unfold stepM at h
  obtain ⟨a,Ma,ha,h2⟩:=qe h
  obtain ⟨b,Mb,hb,h3⟩:=qe h2
  have hks:∀ k∈itemsL s,k<M.length:=fun k hk=>hl s (by simp) k (q1g.1 hk).2
  obtain ⟨e1,_⟩:=q6y n x (itemsL s) [0] M Ma a hM (qZ true _) hks ha
  have e:=(qp hb).1
  subst e
  exact qaE n x ss b _ M' L e1.good (q9M n x _ _ M _ a hM hp hks ha) (fun z hz k hk=>Nat.lt_of_lt_of_le (hl z (by simp[hz]) k hk) (q1k e1.pre)) h3
theorem q82{X:Nat→Prop}{x y:Nat}(hx:Like X x y)(n:Nat):∀ (l out:List Nat) (M:Mt),GoodM M→PrM X M→BdL l M.length→stepM n x l out M=stepM n y l out M
 | [],out,M,_,_,_=>rfl
 | s::ss,out,M,hM,hp,hl=>by
  have hks:∀ k∈itemsL s,k<M.length:=fun k hk=>hl s (by simp) k (q1g.1 hk).2
  unfold stepM
  rw[q9L hx n (itemsL s) [0] M hM hp hks (qZ true _)]
  cases ha:setM n y (itemsL s) [0] M with
  | none=>rfl
  | some z =>
   obtain ⟨a,M1⟩:=z
   show bindM (twoM false out a M1) _=bindM (twoM false out a M1) _
   cases hb:twoM false out a M1 with
   | none=>rfl
   | some q =>
    obtain ⟨b,M2⟩:=q
    show stepM n x ss b M2=stepM n y ss b M2
    have e:=(qp hb).1
    subst e
    obtain ⟨e1,_⟩:=q6y n y (itemsL s) [0] M _ a hM (qZ true _) hks ha
    exact q82 hx n ss b _ e1.good (q9M n y _ _ M _ a hM hp hks ha) (fun z hz k hk=>Nat.lt_of_lt_of_le (hl z (by simp[hz]) k hk) (q1k e1.pre))
def fuelN:Nat:=5000
theorem q1H{and:Bool}{a b:List Nat}{M M':Mt}{l:List Nat}(h:twoM and a b M=some (l,M')):l.length≤1024:=by
 have h2:=(qp h).2
 unfold twoM at h
 cases and with
 | true =>
  simp only[if_true]at h h2
  unfold andM at h
  split at h
  ·rename_i hl
   rw[h2]
   exact Nat.le_trans (q48 _) (by rw[q3u];exact hl)
  ·cases h
 | false =>
  simp only[Bool.false_eq_true,if_false]at h h2
  unfold orM at h
  split at h
  ·rename_i hl
   rw[h2]
   exact Nat.le_trans (q48 _) (by rw[List.length_append];exact hl)
  ·cases h
theorem q5K{f:List Tk}{M M':Mt}{l:List Nat}(h:meetM f M=some (l,M')):l.length≤1024:=by
 unfold meetM at h
 split at h
 ·injection h with h;injection h with h1 h2;subst h1;simp
 ·split at h
  ·injection h with h;injection h with h1 h2;subst h1;simp
  ·cases h
theorem q1N:∀ (T:Tr) {M M':Mt} {l:List Nat},needM T M=some (l,M')→l.length≤1024
 | .leaf k,M,M',l,h=>by
  unfold needM at h
  split at h
  ·injection h with h;injection h with h1 h2;subst h1;simp
  ·split at h
   ·injection h with h;injection h with h1 h2;subst h1;simp
   ·exact q5K h
 | .un k c,M,M',l,h=>q5K h
 | .bin k c d,M,M',l,h=>by
  unfold needM at h
  split at h
  ·obtain ⟨a,M1,_,h2⟩:=qe h
   obtain ⟨b,M2,_,h3⟩:=qe h2
   exact q1H h3
  ·exact q5K h
theorem q9P(n x:Nat):∀ (l out:List Nat) {M M':Mt} {L:List Nat},out.length≤1024→stepM n x l out M=some (L,M')→L.length≤1024
 | [],out,M,M',L,ho,h=>by
  unfold stepM at h
  injection h with h;injection h with h1 h2;subst h1;exact ho
 | s::ss,out,M,M',L,_,h=>by
  unfold stepM at h
  obtain ⟨m,M1,_,h2⟩:=qe h
  obtain ⟨o,M2,ho,h3⟩:=qe h2
  exact q9P n x ss o (q1H ho) h3
theorem qR{l:List Nat}{m:Nat}(h:BdL l m)(hm:m≤64):∀ x∈l,x<2 ^ 64:=fun x hx =>
 Nat.lt_pow_two_of_testBit x fun i hi=>by
  cases ht:x.testBit i with
  | false=>rfl
  | true=>have:=h x hx i ht;omega
theorem qc9{ts:List Tk}(h:IsKer ts):∃ T,KT T∧ts=T.flat:=by
 obtain ⟨T,h1,h2,h3,h4⟩:=h
 exact ⟨T,⟨h1,h2,h3⟩,h4⟩
theorem qbc{ts:List Tk}(h:chkE ts=0):ts.length≤2048∧∃ T,KT T∧ts=T.flat:=by
 obtain ⟨h1,h2⟩:=q25.1 h
 exact ⟨h1,qc9 h2⟩
def hgt:Tr→Nat
 | .leaf _=>1
 | .un k c=>if k.1=6 then 1 else hgt c+1
 | .bin _ c d=>max (hgt c) (hgt d)+1
theorem q2x:∀ T:Tr,hgt T≤T.size
 | .leaf _=>Nat.le_refl _
 | .un k c=>by
  have:=q2x c
  unfold hgt Tr.size
  split <;> omega
 | .bin k c d=>by
  have:=q2x c
  have:=q2x d
  have:=q5Q c
  have:=q5Q d
  unfold hgt Tr.size
  omega
theorem q4W(T:Tr):0<hgt T:=by
 cases T with
 | leaf k=>exact Nat.one_pos
 | un k c=>unfold hgt;split <;> omega
 | bin k c d=>unfold hgt;omega
theorem q11:∀ T:Tr,KT T→hgt (kTr T).2=hgt T
 | .leaf (op,p),hT=>by
  rcases q1y hT with ⟨rfl,_⟩ | ⟨rfl,rfl | rfl | rfl | rfl⟩ <;> rfl
 | .un (op,p) c,hT=>by
  rcases kt_un hT with ⟨rfl,⟨rfl,q,rfl⟩ | ⟨ho,hc⟩⟩
  ·rfl
  ·have ih:=q11 c hc
   rcases ho with rfl | rfl
   ·show hgt (kTr c).2+1=hgt c+1
    rw[ih]
   ·show hgt (kTr c).2+1=hgt c+1
    rw[ih]
 | .bin (op,p) c d,hT=>by
  obtain ⟨rfl,ho⟩:=q1n hT
  rcases ho with rfl | rfl | rfl | rfl | rfl | rfl
  ·obtain ⟨kc,kd⟩:=qB hT (by simp)
   show max (hgt (kTr c).2) (hgt (kTr d).2)+1=_
   rw[q11 c kc,q11 d kd];rfl
  ·obtain ⟨kc,kd⟩:=qB hT (by simp)
   show max (hgt (kTr c).2) (hgt (kTr d).2)+1=_
   rw[q11 c kc,q11 d kd];rfl
  ·obtain ⟨kc,kd⟩:=qB hT (by simp)
   show max (hgt (kTr c).2) (hgt (kTr d).2)+1=_
   rw[q11 c kc,q11 d kd];rfl
  ·obtain ⟨kc,kd⟩:=qB hT (by simp)
   show max (hgt (kTr c).2) (hgt (kTr d).2)+1=_
   rw[q11 c kc,q11 d kd];rfl
  ·obtain ⟨kc,kd⟩:=q1e hT (by simp)
   show max (hgt (kTr c).1) (hgt (kTr d).2)+1=_
   rw[(q1a c kc.wf kc.kr).1,q11 d kd];rfl
  ·obtain ⟨kc,kd⟩:=q1e hT (by simp)
   show max (hgt (kTr c).1) (hgt (kTr d).2)+1=_
   rw[(q1a c kc.wf kc.kr).1,q11 d kd];rfl
def endB:Tr→Bool
 | .leaf k=>k.1 == 0 || k.1 == 5
 | .un k c=>if k.1=6 then true else if k.1=20 then endB c else k.1 == 8 || k.1 == 23
 | .bin k c d=>if k.1=11 then endB c&&endB d else if k.1=12 then endB c || endB d else if k.1=16 then true else if k.1=17 then endB c&&endB d else if k.1=18 then !endB c || endB d
  else if k.1=21 then endB c || endB d else if k.1=22 then endB c&&endB d else false
theorem q9j{r:Tr}(h:KP r){k:Nat}(hw:(semTr [] r).2 0 k):k=0:=by
 have:=q1T [] r h.wf 0 k (Nat.le_refl _) hw
 simp at this
 omega
theorem qU:∀ T:Tr,(KT T→(endB T=true↔(semTr [] T).1 0))∧(KP T→(endB T=true↔(semTr [] T).2 0 0))
 | .leaf (op,p)=>by
  refine ⟨fun hT=>?_,fun hT=>(q28 hT).elim⟩
  rcases q1y hT with ⟨rfl,_⟩ | ⟨rfl,rfl | rfl | rfl | rfl⟩ <;> simp[endB,semTr,semT,leafV]
 | .un (op,p) c=>by
  refine ⟨fun hT=>?_,fun hT=>?_⟩
  ·rcases kt_un hT with ⟨rfl,⟨rfl,q,rfl⟩ | ⟨ho,hc⟩⟩
   ·simp[endB,semTr,semT,unV,leafV]
   ·rcases ho with rfl | rfl
    ·simp[endB,semTr,semT,unV]
    ·simp[endB,semTr,semT,unV]
  ·rcases kp_un hT with ⟨rfl,⟨rfl,hc,hpl⟩ | ⟨rfl,hc⟩ | ⟨rfl,hc⟩⟩
   ·simp[endB,semTr,semT,unY]
   ·have ih:=(qU c).1 hc
    simp only[endB,semTr,semT,unY]
    simpa using ih
   ·simp only[endB,semTr,semT,unY]
    simp
    exact ⟨0,rfl⟩
 | .bin (op,p) c d=>by
  refine ⟨fun hT=>?_,fun hT=>?_⟩
  ·obtain ⟨rfl,ho⟩:=q1n hT
   rcases ho with rfl | rfl | rfl | rfl | rfl | rfl
   ·obtain ⟨kc,kd⟩:=qB hT (by simp)
    simp[endB,semTr,semT,binV,(qU c).1 kc,(qU d).1 kd]
   ·obtain ⟨kc,kd⟩:=qB hT (by simp)
    simp[endB,semTr,semT,binV,(qU c).1 kc,(qU d).1 kd]
   ·simp[endB,semTr,semT,binV]
   ·simp[endB,semTr,semT,binV]
   ·obtain ⟨kc,kd⟩:=q1e hT (by simp)
    have ic:=(qU c).2 kc
    have id:=(qU d).1 kd
    show (endB c&&endB d)=true↔∃ k,(semTr [] c).2 0 k∧(semTr [] d).1 k
    rw[Bool.and_eq_true,ic,id]
    exact ⟨fun h=>⟨0,h⟩,fun ⟨k,h1,h2⟩=>by have e:=q9j kc h1;subst e;exact ⟨h1,h2⟩⟩
   ·obtain ⟨kc,kd⟩:=q1e hT (by simp)
    have ic:=(qU c).2 kc
    have id:=(qU d).1 kd
    show (!endB c || endB d)=true↔∀ k,(semTr [] c).2 0 k→(semTr [] d).1 k
    constructor
    ·intro h k h1
     have e:=q9j kc h1
     subst e
     rw[ic.2 h1]at h
     simp at h
     exact id.1 h
    ·intro h
     cases hc:endB c with
     | false=>rfl
     | true=>simp;exact id.2 (h 0 (ic.1 hc))
  ·obtain ⟨rfl,ho,kc,kd⟩:=q1d hT
   have ic:=(qU c).2 kc
   have id:=(qU d).2 kd
   rcases ho with rfl | rfl
   ·simp[endB,semTr,semT,binY,ic,id]
   ·show (endB c&&endB d)=true↔∃ j,(semTr [] c).2 0 j∧(semTr [] d).2 j 0
    rw[Bool.and_eq_true,ic,id]
    exact ⟨fun h=>⟨0,h⟩,fun ⟨k,h1,h2⟩=>by have e:=q9j kc h1;subst e;exact ⟨h1,h2⟩⟩
theorem q4Q(n:Nat)(box:Bool)(c:Tr)(s:List Nat)(f:Tr)(x:Nat)(M:Mt):pthM (n+1) box (.un (20,0) c) s f x M=bindM (aftM n (if box then (kTr c).2 else c) x M) fun a M1=>twoM (!box) a s M1:=rfl
theorem q4O(x:Nat):∀ n,(∀ T,KT T→hgt T≤n→aftM n T x=aftM (n+1) T x)∧(∀ box r s f,KP r→hgt r≤n→pthM n box r s f x=pthM (n+1) box r s f x)
 | 0=>⟨fun T _ h=>absurd (q4W T) (by omega),fun box r s f _ h=>absurd (q4W r) (by omega)⟩
 | n+1=>by
  obtain ⟨ih,jh⟩:=q4O x n
  refine ⟨fun T hT h=>?_,fun box r s f hr h=>?_⟩
  ·match T,hT,h with
   | .leaf k,hT,h=>funext M;rw[qD,qD]
   | .un (op,p) c,hT,h=>funext M;rw[qI,qI]
   | .bin (op,p) c d,hT,h =>
    obtain ⟨rfl,ho⟩:=q1n hT
    have h2:max (hgt c) (hgt d)+1≤n+1:=h
    funext M
    rw[qt,qt]
    by_cases h11:op=11∨op=12
    ·obtain ⟨kc,kd⟩:=qB hT (by rcases h11 with h | h <;> simp[h])
     rw[if_pos h11,if_pos h11,ih c kc (by omega),ih d kd (by omega)]
    ·rw[if_neg h11,if_neg h11]
     by_cases h15:op=15∨op=16
     ·obtain ⟨kc,kd⟩:=qB hT (by rcases h15 with h | h <;> simp[h])
      rw[if_pos h15,if_pos h15,ih c kc (by omega),ih d kd (by omega)]
     ·obtain ⟨kc,kd⟩:=q1e hT (by omega)
      rw[if_neg h15,if_neg h15,ih d kd (by omega)]
      congr 1
      funext s M1
      rw[jh _ c s d kc (by omega)]
  ·match r,hr,h with
   | .leaf k,hr,h=>exact (q28 hr).elim
   | .un (op,p) c,hr,h =>
    funext M
    rw[qP,qP]
    rcases kp_un hr with ⟨rfl,⟨rfl,hc,hpl⟩ | ⟨rfl,hc⟩ | ⟨rfl,hc⟩⟩
    ·rw[if_pos rfl,if_pos rfl]
    ·have h2:hgt c+1≤n+1:=h
     have hz:∀ b:Bool,aftM n (if b then (kTr c).2 else c) x=aftM (n+1) (if b then (kTr c).2 else c) x:=fun b=>by
      cases b
      ·exact ih c hc (by omega)
      ·exact ih _ (q2I hc) (by rw[if_pos rfl,q11 c hc];omega)
     show pthM (n+1) box (.un (20,0) c) s f x M=pthM (n+1+1) box (.un (20,0) c) s f x M
     rw[q4Q,q4Q,hz box]
    ·have h2:hgt c+1≤n+1:=h
     rw[if_neg (by decide),if_neg (by decide),if_neg (by decide),if_neg (by decide),jh _ c _ _ hc (by omega)]
   | .bin (op,p) c d,hr,h =>
    obtain ⟨rfl,ho,kc,kd⟩:=q1d hr
    have h2:max (hgt c) (hgt d)+1≤n+1:=h
    funext M
    rw[qM,qM]
    rcases ho with rfl | rfl
    ·rw[if_pos rfl,if_pos rfl,jh _ c _ _ kc (by omega),jh _ d _ _ kd (by omega)]
    ·rw[if_neg (by decide),if_neg (by decide),jh _ d _ _ kd (by omega)]
     congr 1
     funext a M1
     rw[jh _ c _ _ kc (by omega)]
theorem q9g{x:Nat}{T:Tr}(hT:KT T){n:Nat}(h:hgt T≤n):∀ k,aftM n T x=aftM (n+k) T x
 | 0=>rfl
 | k+1=>(q9g hT h k).trans ((q4O x (n+k)).1 T hT (by omega))
theorem q9I{x:Nat}{box:Bool}{r:Tr}{s:List Nat}{f:Tr}(hr:KP r){n:Nat}(h:hgt r≤n):∀ k,pthM n box r s f x=pthM (n+k) box r s f x
 | 0=>rfl
 | k+1=>(q9I hr h k).trans ((q4O x (n+k)).2 box r s f hr (by omega))
def aftC (T:Tr) (x:Nat) (M:Mt):Rt:=aftM (hgt T) T x M
def pthC (box:Bool) (r:Tr) (s:List Nat) (f:Tr) (x:Nat) (M:Mt):Rt:=pthM (hgt r) box r s f x M
theorem aft_C{x n:Nat}{T:Tr}(hT:KT T)(h:hgt T≤n):aftM n T x=aftC T x:=by
 have:=q9g (x:=x) hT (Nat.le_refl (hgt T)) (n - hgt T)
 rw[show hgt T+(n - hgt T)=n by omega]at this
 rw[← this];rfl
theorem pth_C{x n:Nat}{box:Bool}{r:Tr}{s:List Nat}{f:Tr}(hr:KP r)(h:hgt r≤n):pthM n box r s f x=pthC box r s f x:=by
 have:=q9I (x:=x) (box:=box) (s:=s) (f:=f) hr (Nat.le_refl (hgt r)) (n - hgt r)
 rw[show hgt r+(n - hgt r)=n by omega]at this
 rw[← this];rfl
theorem q4J(k:Tk)(x:Nat)(M:Mt):aftC (.leaf k) x M=some (yesM (if k.1=2 then x.testBit k.2 else k.1 == 0 || k.1 == 4),M):=rfl
theorem qbV(p:Nat)(c:Tr)(x:Nat)(M:Mt):aftC (.un (6,p) c) x M=some (yesM (!plV x c),M):=rfl
theorem qb6{op:Nat}(ho:op=7∨op=8)(c:Tr)(x:Nat)(M:Mt):aftC (.un (op,0) c) x M=bindM (needM (.leaf (if op=7 then 4 else 5,0)) M) fun a M1=>bindM (needM c M1) fun b M2=>twoM (op == 7) a b M2:=by
 unfold aftC
 rcases ho with rfl | rfl <;> rfl
theorem q5v{op:Nat}{c d:Tr}(hT:KT (.bin (op,0) c d))(ho:op=11∨op=12)(x:Nat)(M:Mt):aftC (.bin (op,0) c d) x M=bindM (aftC c x M) fun a M1=>bindM (aftC d x M1) fun b M2=>twoM (op == 11) a b M2:=by
 obtain ⟨kc,kd⟩:=qB hT (by rcases ho with h | h <;> simp[h])
 unfold aftC
 rw[show hgt (.bin (op,0) c d)=max (hgt c) (hgt d)+1 from rfl,qt,if_pos ho,aft_C kc (by omega),aft_C kd (by omega)];rfl
theorem qaO{op:Nat}{c d:Tr}(hT:KT (.bin (op,0) c d))(ho:op=15∨op=16)(x:Nat)(M:Mt):aftC (.bin (op,0) c d) x M=bindM (aftC d x M) fun b M1=>bindM (aftC c x M1) fun a M2=>bindM (needM (.bin (op,0) c d) M2) fun u M3=>bindM (twoM (op == 15) a u M3) fun v M4=>twoM (op == 16) b v M4:=by
 obtain ⟨kc,kd⟩:=qB hT (by rcases ho with h | h <;> simp[h])
 unfold aftC
 rw[show hgt (.bin (op,0) c d)=max (hgt c) (hgt d)+1 from rfl,qt,if_neg (by dsimp only;omega),if_pos ho,aft_C kc (by omega),aft_C kd (by omega)];rfl
theorem qbW{op:Nat}{c d:Tr}(hT:KT (.bin (op,0) c d))(ho:op=17∨op=18)(x:Nat)(M:Mt):aftC (.bin (op,0) c d) x M=bindM (aftC d x M) fun s M1=>pthC (op == 18) c s d x M1:=by
 obtain ⟨kc,kd⟩:=q1e hT ho
 unfold aftC
 rw[show hgt (.bin (op,0) c d)=max (hgt c) (hgt d)+1 from rfl,qt,if_neg (by dsimp only;omega),if_neg (by dsimp only;omega),aft_C kd (by omega)]
 congr 1
 funext s M1
 rw[pth_C kc (by omega)]
theorem q7X(box:Bool)(c:Tr)(s:List Nat)(f:Tr)(x:Nat)(M:Mt):pthC box (.un (19,0) c) s f x M=if plV x c then needM f M else some (yesM box,M):=rfl
theorem q7Y{box:Bool}{c:Tr}(hr:KP (.un (20,0) c))(s:List Nat)(f:Tr)(x:Nat)(M:Mt):pthC box (.un (20,0) c) s f x M=bindM (aftC (if box then (kTr c).2 else c) x M) fun a M1=>twoM (!box) a s M1:=by
 obtain ⟨_,⟨h,_⟩ | ⟨_,hc⟩ | ⟨h,_⟩⟩:=kp_un hr
 ·cases h
 ·unfold pthC
  rw[show hgt (.un (20,0) c)=hgt c+1 from rfl,q4Q]
  have hz:∀ b:Bool,aftM (hgt c) (if b then (kTr c).2 else c) x=aftC (if b then (kTr c).2 else c) x:=fun b=>by
   cases b
   ·exact aft_C hc (Nat.le_refl _)
   ·exact aft_C (q2I hc) (by rw[if_pos rfl,q11 c hc];exact Nat.le_refl _)
  rw[hz box]
 ·cases h
theorem q7W{box:Bool}{c:Tr}(hr:KP (.un (23,0) c))(s:List Nat)(f:Tr)(x:Nat)(M:Mt):pthC box (.un (23,0) c) s f x M=bindM (pthC box c (yesM box) (.bin (modeO box,0) (.un (23,0) c) f) x M) fun a M1=>twoM box s a M1:=by
 obtain ⟨_,⟨h,_⟩ | ⟨h,_⟩ | ⟨_,hc⟩⟩:=kp_un hr
 ·cases h
 ·cases h
 ·unfold pthC
  rw[show hgt (.un (23,0) c)=hgt c+1 from rfl,qP,if_neg (by decide),if_neg (by decide)]
theorem q7V{box:Bool}{c d:Tr}(hr:KP (.bin (21,0) c d))(s:List Nat)(f:Tr)(x:Nat)(M:Mt):pthC box (.bin (21,0) c d) s f x M=bindM (pthC box c s f x M) fun a M1=>bindM (pthC box d s f x M1) fun b M2=>twoM box a b M2:=by
 obtain ⟨_,_,kc,kd⟩:=q1d hr
 unfold pthC
 rw[show hgt (.bin (21,0) c d)=max (hgt c) (hgt d)+1 from rfl,qM,if_pos rfl,pth_C kc (by omega),pth_C kd (by omega)];rfl
theorem q9H{box:Bool}{c d:Tr}(hr:KP (.bin (22,0) c d))(s:List Nat)(f:Tr)(x:Nat)(M:Mt):pthC box (.bin (22,0) c d) s f x M=bindM (pthC box d s f x M) fun a M1=>pthC box c a (.bin (modeO box,0) d f) x M1:=by
 obtain ⟨_,_,kc,kd⟩:=q1d hr
 unfold pthC
 rw[show hgt (.bin (22,0) c d)=max (hgt c) (hgt d)+1 from rfl,qM,if_neg (by decide),pth_C kd (by omega)]
 congr 1
 funext a M1
 rw[pth_C kc (by omega)];rfl
theorem qb8(T:Tr)(x:Nat):Again (aftC T x):=(q40 x _).1 T
theorem q52{c:Tr}(h:KP (.un (19,0) c)):KT c∧plainT c=true:=by
 obtain ⟨_,hc,hf,_⟩:=qE h.wf
 have hk:=h.kr
 simp[fit1T]at hf
 exact ⟨⟨hc,hf.1,by simpa [kerT] using hk⟩,hf.2⟩
theorem qaG(and a b:Bool)(M:Mt):twoM and (yesM a) (yesM b) M=some (yesM (if and then a&&b else a || b),M):=by
 have h:(if and then andM (yesM a) (yesM b) else orM (yesM a) (yesM b))=some (yesM (if and then a&&b else a || b)):=by
  cases and <;> cases a <;> cases b <;> decide +kernel
 unfold twoM
 rw[h];rfl
theorem q2F{x:Nat}:∀ {T:Tr} (M:Mt),KT T→plainT T=true→aftC T x M=some (yesM (plV x T),M)
 | .leaf (op,p),M,hT,hp=>by
  rw[q4J]
  rcases q1y hT with ⟨rfl,_⟩ | ⟨rfl,rfl | rfl | rfl | rfl⟩
  ·rfl
  ·rfl
  ·rfl
  ·cases hp
  ·cases hp
 | .un (op,p) c,M,hT,hp=>by
  rcases kt_un hT with ⟨rfl,⟨rfl,q,rfl⟩ | ⟨ho,hc⟩⟩
  ·rfl
  ·rcases ho with rfl | rfl <;> cases hp
 | .bin (op,p) c d,M,hT,hp=>by
  obtain ⟨rfl,ho⟩:=q1n hT
  rcases ho with rfl | rfl | rfl | rfl | rfl | rfl
  ·obtain ⟨kc,kd⟩:=qB hT (by simp)
   obtain ⟨pc,pd⟩:plainT c=true∧plainT d=true:=by rw[ql]at hp;simpa [plainB] using hp
   rw[q5v hT (by simp),q2F M kc pc]
   show bindM (aftC d x M) _=_
   rw[q2F M kd pd]
   exact qaG true (plV x c) (plV x d) M
  ·obtain ⟨kc,kd⟩:=qB hT (by simp)
   obtain ⟨pc,pd⟩:plainT c=true∧plainT d=true:=by rw[ql]at hp;simpa [plainB] using hp
   rw[q5v hT (by simp),q2F M kc pc]
   show bindM (aftC d x M) _=_
   rw[q2F M kd pd]
   exact qaG false (plV x c) (plV x d) M
  ·rw[ql]at hp;simp[plainB]at hp
  ·rw[ql]at hp;simp[plainB]at hp
  ·rw[ql]at hp;simp[plainB]at hp
  ·rw[ql]at hp;simp[plainB]at hp
end Go.Proofs.YtekeaodpdcnfjaaGreatDoor
