/- Texts of the proof, put together: what it uses. -/
import Derived.Test.YtekeaodpdcnfjaaGreatDoorX02
import Derived.Test.YtekeaodpdcnfjaaGreatDoorX09
set_option maxRecDepth 100000
set_option maxHeartbeats 16000000
namespace Go.Proofs.YtekeaodpdcnfjaaGreatDoor
def subL:Tr→List Tr
 | .leaf k=>[.leaf k]
 | .un k c=>.un k c::subL c
 | .bin k c d=>.bin k c d::(subL c++subL d)
theorem sub_self(T:Tr):T∈subL T:=by cases T <;> simp[subL]
theorem q56:∀ T:Tr,(subL T).length=T.size
 | .leaf k=>rfl
 | .un k c=>by simp[subL,Tr.size,q56 c]
 | .bin k c d=>by simp[subL,Tr.size,q56 c,q56 d]
theorem q2B:∀ {T S:Tr},S∈subL T→S.size≤T.size
 | .leaf k,S,h=>by simp[subL]at h;subst h;exact Nat.le_refl _
 | .un k c,S,h=>by
  simp[subL]at h
  rcases h with rfl | h
  ·exact Nat.le_refl _
  ·have:=q2B h;show _≤c.size+1;omega
 | .bin k c d,S,h=>by
  simp[subL]at h
  rcases h with rfl | h | h
  ·exact Nat.le_refl _
  ·have:=q2B h;show _≤c.size+d.size+1;omega
  ·have:=q2B h;show _≤c.size+d.size+1;omega
theorem q1O:∀ {T S R:Tr},S∈subL T→R∈subL S→R∈subL T
 | .leaf k,S,R,h,k2=>by simp[subL]at h;subst h;exact k2
 | .un k c,S,R,h,k2=>by
  simp only[subL,List.mem_cons]at h ⊢
  rcases h with rfl | h
  ·simpa [subL] using k2
  ·exact Or.inr (q1O h k2)
 | .bin k c d,S,R,h,k2=>by
  simp only[subL,List.mem_cons,List.mem_append]at h ⊢
  rcases h with rfl | h | h
  ·simpa [subL] using k2
  ·exact Or.inr (Or.inl (q1O h k2))
  ·exact Or.inr (Or.inr (q1O h k2))
theorem q2M{T c:Tr}{k:Tk}(h:.un k c∈subL T):c∈subL T:=q1O h (by simp[subL,sub_self])
theorem q15{T c d:Tr}{k:Tk}(h:.bin k c d∈subL T):c∈subL T∧d∈subL T:=⟨q1O h (by simp[subL,sub_self]),q1O h (by simp[subL,sub_self])⟩
theorem q3f:∀ {T S:Tr},KT T∨KP T→S∈subL T→KT S∨KP S
 | .leaf k,S,hT,h=>by simp[subL]at h;subst h;exact hT
 | .un (op,p) c,S,hT,h=>by
  simp only[subL,List.mem_cons]at h
  rcases h with rfl | h
  ·exact hT
  ·refine q3f ?_ h
   rcases hT with hT | hT
   ·rcases kt_un hT with ⟨_,⟨rfl,q,rfl⟩ | ⟨_,hc⟩⟩
    ·refine Or.inl ?_
     obtain ⟨_,hc,hf,_⟩:=qE hT.wf
     exact ⟨hc,rfl,rfl⟩
    ·exact Or.inl hc
   ·rcases kp_un hT with ⟨rfl,⟨rfl,_⟩ | ⟨_,hc⟩ | ⟨_,hc⟩⟩
    ·exact Or.inl (q52 hT).1
    ·exact Or.inl hc
    ·exact Or.inr hc
 | .bin (op,p) c d,S,hT,h=>by
  simp only[subL,List.mem_cons,List.mem_append]at h
  have hcd:(KT c∨KP c)∧(KT d∨KP d):=by
   rcases hT with hT | hT
   ·obtain ⟨rfl,ho⟩:=q1n hT
    by_cases hw:op=17∨op=18
    ·obtain ⟨a,b⟩:=q1e hT hw;exact ⟨Or.inr a,Or.inl b⟩
    ·obtain ⟨a,b⟩:=qB hT (by omega);exact ⟨Or.inl a,Or.inl b⟩
   ·obtain ⟨_,_,a,b⟩:=q1d hT;exact ⟨Or.inr a,Or.inr b⟩
  rcases h with rfl | h | h
  ·exact hT
  ·exact q3f hcd.1 h
  ·exact q3f hcd.2 h
def pws (box:Bool):Tr→Tr→List Tr
 | .leaf _,_=>[]
 | .un k c,f=>if k.1=23 then .bin (modeO box,0) (.un k c) f::pws box c (.bin (modeO box,0) (.un k c) f) else []
 | .bin k c d,f=>if k.1=21 then pws box c f++pws box d f else if k.1=22 then .bin (modeO box,0) d f::(pws box d f++pws box c (.bin (modeO box,0) d f)) else []
theorem q2Z(box:Bool):∀ (r f:Tr),(pws box r f).length≤r.size
 | .leaf _,_=>Nat.zero_le _
 | .un k c,f=>by
  unfold pws Tr.size
  split
  ·have:=q2Z box c (.bin (modeO box,0) (.un k c) f)
   simp;omega
  ·simp
 | .bin k c d,f=>by
  unfold pws Tr.size
  split
  ·have:=q2Z box c f
   have:=q2Z box d f
   simp;omega
  ·split
   ·have:=q2Z box d f
    have:=q2Z box c (.bin (modeO box,0) d f)
    simp;omega
   ·simp
theorem q2L(box:Bool):∀ {r f T:Tr},T∈pws box r f→∃ q F,T=.bin (modeO box,0) q F∧q∈subL r∧(F=f∨F∈pws box r f)∧∀ X,X∈pws box q F→X∈pws box r f
 | .leaf _,f,T,h=>by simp[pws]at h
 | .un k c,f,T,h=>by
  unfold pws at h
  split at h
  ·rename_i hk
   have e:pws box (.un k c) f=.bin (modeO box,0) (.un k c) f::pws box c (.bin (modeO box,0) (.un k c) f):=by rw[pws,if_pos hk]
   rcases List.mem_cons.1 h with rfl | h
   ·exact ⟨_,f,rfl,sub_self _,Or.inl rfl,fun X hX=>hX⟩
   ·obtain ⟨q,F,rfl,h1,h2,h3⟩:=q2L box h
    refine ⟨q,F,rfl,by simp[subL,h1],Or.inr ?_,fun X hX=>?_⟩
    ·rw[e]
     rcases h2 with rfl | h2
     ·exact List.mem_cons_self ..
     ·exact List.mem_cons_of_mem _ h2
    ·rw[e];exact List.mem_cons_of_mem _ (h3 X hX)
  ·simp at h
 | .bin k c d,f,T,h=>by
  unfold pws at h
  split at h
  ·rename_i hk
   have e:pws box (.bin k c d) f=pws box c f++pws box d f:=by rw[pws,if_pos hk]
   rcases List.mem_append.1 h with h | h
   ·obtain ⟨q,F,rfl,h1,h2,h3⟩:=q2L box h
    refine ⟨q,F,rfl,by simp[subL,h1],h2.imp id fun h=>?_,fun X hX=>?_⟩
    ·rw[e];exact List.mem_append.2 (Or.inl h)
    ·rw[e];exact List.mem_append.2 (Or.inl (h3 X hX))
   ·obtain ⟨q,F,rfl,h1,h2,h3⟩:=q2L box h
    refine ⟨q,F,rfl,by simp[subL,h1],h2.imp id fun h=>?_,fun X hX=>?_⟩
    ·rw[e];exact List.mem_append.2 (Or.inr h)
    ·rw[e];exact List.mem_append.2 (Or.inr (h3 X hX))
  ·split at h
   ·rename_i hk1 hk
    have e:pws box (.bin k c d) f=.bin (modeO box,0) d f::(pws box d f++pws box c (.bin (modeO box,0) d f)):=by rw[pws,if_neg hk1,if_pos hk]
    rcases List.mem_cons.1 h with rfl | h
    ·refine ⟨d,f,rfl,by simp[subL,sub_self],Or.inl rfl,fun X hX=>?_⟩
     rw[e];exact List.mem_cons_of_mem _ (List.mem_append.2 (Or.inl hX))
    ·rcases List.mem_append.1 h with h | h
     ·obtain ⟨q,F,rfl,h1,h2,h3⟩:=q2L box h
      refine ⟨q,F,rfl,by simp[subL,h1],h2.imp id fun h=>?_,fun X hX=>?_⟩
      ·rw[e];exact List.mem_cons_of_mem _ (List.mem_append.2 (Or.inl h))
      ·rw[e];exact List.mem_cons_of_mem _ (List.mem_append.2 (Or.inl (h3 X hX)))
     ·obtain ⟨q,F,rfl,h1,h2,h3⟩:=q2L box h
      refine ⟨q,F,rfl,by simp[subL,h1],Or.inr ?_,fun X hX=>?_⟩
      ·rw[e]
       rcases h2 with rfl | h2
       ·exact List.mem_cons_self ..
       ·exact List.mem_cons_of_mem _ (List.mem_append.2 (Or.inr h2))
      ·rw[e];exact List.mem_cons_of_mem _ (List.mem_append.2 (Or.inr (h3 X hX)))
   ·simp at h
theorem q3R(box:Bool){R:Nat}:∀ {r f T:Tr},r.size≤R→T∈pws box r f→T.size≤f.size+r.size*(R+2)
 | .leaf _,f,T,_,h=>by simp[pws]at h
 | .un k c,f,T,hR,h=>by
  have hs:(Tr.un k c).size=c.size+1:=rfl
  have hm:(c.size+1)*(R+2)=c.size*(R+2)+(R+2):=Nat.succ_mul _ _
  unfold pws at h
  split at h
  ·rcases List.mem_cons.1 h with rfl | h
   ·show c.size+1+f.size+1≤_
    rw[hs,hm];omega
   ·have:=q3R box (R:=R) (by omega) h
    have e:(Tr.bin (modeO box,0) (.un k c) f).size=c.size+1+f.size+1:=rfl
    rw[hs,hm];omega
  ·simp at h
 | .bin k c d,f,T,hR,h=>by
  have hs:(Tr.bin k c d).size=c.size+d.size+1:=rfl
  have hm:(c.size+d.size+1)*(R+2)=c.size*(R+2)+d.size*(R+2)+(R+2):=by rw[Nat.add_mul,Nat.add_mul,Nat.one_mul]
  unfold pws at h
  split at h
  ·rcases List.mem_append.1 h with h | h
   ·have:=q3R box (R:=R) (by omega) h
    rw[hs,hm];omega
   ·have:=q3R box (R:=R) (by omega) h
    rw[hs,hm];omega
  ·split at h
   ·have e:(Tr.bin (modeO box,0) d f).size=d.size+f.size+1:=rfl
    rcases List.mem_cons.1 h with rfl | h
    ·rw[e,hs,hm];omega
    ·rcases List.mem_append.1 h with h | h
     ·have:=q3R box (R:=R) (by omega) h
      rw[hs,hm];omega
     ·have:=q3R box (R:=R) (by omega) h
      rw[hs,hm];omega
   ·simp at h
theorem q2Y(box:Bool){R:Nat}:∀ {r f T:Tr},hgt r≤R→T∈pws box r f→hgt T≤hgt r+max R (hgt f)+1
 | .leaf _,f,T,_,h=>by simp[pws]at h
 | .un k c,f,T,hR,h=>by
  unfold pws at h
  split at h
  ·rename_i hk
   have hs:hgt (.un k c)=hgt c+1:=by rw[hgt,if_neg (by omega)]
   rcases List.mem_cons.1 h with rfl | h
   ·show max (hgt (.un k c)) (hgt f)+1≤_
    omega
   ·have:=q2Y box (R:=R) (by omega) h
    have e:hgt (.bin (modeO box,0) (.un k c) f)=max (hgt (.un k c)) (hgt f)+1:=rfl
    omega
  ·simp at h
 | .bin k c d,f,T,hR,h=>by
  have hs:hgt (.bin k c d)=max (hgt c) (hgt d)+1:=rfl
  unfold pws at h
  split at h
  ·rcases List.mem_append.1 h with h | h
   ·have:=q2Y box (R:=R) (by omega) h
    omega
   ·have:=q2Y box (R:=R) (by omega) h
    omega
  ·split at h
   ·have e:hgt (.bin (modeO box,0) d f)=max (hgt d) (hgt f)+1:=rfl
    rcases List.mem_cons.1 h with rfl | h
    ·omega
    ·rcases List.mem_append.1 h with h | h
     ·have:=q2Y box (R:=R) (by omega) h
      omega
     ·have:=q2Y box (R:=R) (by omega) h
      omega
   ·simp at h
def In0 (T0 T:Tr):Prop:=T∈subL T0∨(∃ S,S∈subL T0∧KT S∧T=(kTr S).2)∨T=.leaf (4,0)∨T=.leaf (5,0)
def InC (T0 T:Tr):Prop:=In0 T0 T∨∃ box r f,In0 T0 (.bin (modeO box,0) r f)∧T∈pws box r f
theorem qdX{S c:Tr}{k:Tk}(hS:KT S)(h:(kTr S).2=.un k c):(∃ q,S=.leaf (2,q)∧c=S)∨∃ d,(∃ k2,S=.un k2 d)∧KT d∧c=(kTr d).2:=by
 match S,hS,h with
 | .leaf (op,p),hS,h =>
  rcases q1y hS with ⟨rfl,_⟩ | ⟨rfl,rfl | rfl | rfl | rfl⟩
  ·injection h with h1 h2
   exact Or.inl ⟨p,rfl,h2.symm⟩
  ·cases h
  ·cases h
  ·cases h
  ·cases h
 | .un (op,p) d,hS,h =>
  rcases kt_un hS with ⟨rfl,⟨rfl,q,rfl⟩ | ⟨ho,hd⟩⟩
  ·cases h
  ·refine Or.inr ⟨d,⟨_,rfl⟩,hd,?_⟩
   rcases ho with rfl | rfl
   ·injection h with h1 h2;exact h2.symm
   ·injection h with h1 h2;exact h2.symm
 | .bin (op,p) a b,hS,h =>
  obtain ⟨rfl,ho⟩:=q1n hS
  rcases ho with rfl | rfl | rfl | rfl | rfl | rfl <;> cases h
theorem qdj{S c d:Tr}{k:Tk}(hS:KT S)(h:(kTr S).2=.bin k c d):∃ op a b,S=.bin (op,0) a b∧KT b∧d=(kTr b).2∧((KP a∧c=a∧((op=17∧k=(18,0))∨(op=18∧k=(17,0))))∨(KT a∧c=(kTr a).2∧k.1≠17∧k.1≠18)):=by
 match S,hS,h with
 | .leaf (op,p),hS,h =>
  rcases q1y hS with ⟨rfl,_⟩ | ⟨rfl,rfl | rfl | rfl | rfl⟩ <;> cases h
 | .un (op,p) e,hS,h =>
  rcases kt_un hS with ⟨rfl,⟨rfl,q,rfl⟩ | ⟨ho,hd⟩⟩
  ·cases h
  ·rcases ho with rfl | rfl <;> cases h
 | .bin (op,p) a b,hS,h =>
  obtain ⟨rfl,ho⟩:=q1n hS
  refine ⟨op,a,b,rfl,?_⟩
  by_cases hw:op=17∨op=18
  ·obtain ⟨ka,kb⟩:=q1e hS hw
   have e:=(q1a a ka.wf ka.kr).1
   rcases hw with rfl | rfl
   ·injection h with h1 h2 h3
    exact ⟨kb,h3.symm,Or.inl ⟨ka,by rw[← h2,e],Or.inl ⟨rfl,h1.symm⟩⟩⟩
   ·injection h with h1 h2 h3
    exact ⟨kb,h3.symm,Or.inl ⟨ka,by rw[← h2,e],Or.inr ⟨rfl,h1.symm⟩⟩⟩
  ·obtain ⟨ka,kb⟩:=qB hS (by omega)
   have ho4:op=11∨op=12∨op=15∨op=16:=by omega
   rcases ho4 with rfl | rfl | rfl | rfl
   ·injection h with h1 h2 h3;subst h1;exact ⟨kb,h3.symm,Or.inr ⟨ka,h2.symm,by decide,by decide⟩⟩
   ·injection h with h1 h2 h3;subst h1;exact ⟨kb,h3.symm,Or.inr ⟨ka,h2.symm,by decide,by decide⟩⟩
   ·injection h with h1 h2 h3;subst h1;exact ⟨kb,h3.symm,Or.inr ⟨ka,h2.symm,by decide,by decide⟩⟩
   ·injection h with h1 h2 h3;subst h1;exact ⟨kb,h3.symm,Or.inr ⟨ka,h2.symm,by decide,by decide⟩⟩
theorem q9r{T0 T:Tr}(h0:KT T0)(h:In0 T0 T):KT T∨KP T:=by
 rcases h with h | ⟨S,hS,kS,rfl⟩ | rfl | rfl
 ·exact q3f (Or.inl h0) h
 ·exact Or.inl (q2I kS)
 ·exact Or.inl (q2a 4 (by simp))
 ·exact Or.inl (q2a 5 (by simp))
theorem qdM{T0 c:Tr}{k:Tk}(h:In0 T0 (.un k c)):In0 T0 c:=by
 rcases h with h | ⟨S,hS,kS,e⟩ | e | e
 ·exact Or.inl (q2M h)
 ·rcases qdX kS e.symm with ⟨q,rfl,rfl⟩ | ⟨d,⟨k2,rfl⟩,kd,rfl⟩
  ·exact Or.inl hS
  ·exact Or.inr (Or.inl ⟨d,q2M hS,kd,rfl⟩)
 ·cases e
 ·cases e
theorem q4X{T0 c d:Tr}{k:Tk}(h:In0 T0 (.bin k c d)):In0 T0 c∧In0 T0 d∧(k.1=17∨k.1=18→c∈subL T0):=by
 rcases h with h | ⟨S,hS,kS,e⟩ | e | e
 ·exact ⟨Or.inl (q15 h).1,Or.inl (q15 h).2,fun _=>(q15 h).1⟩
 ·obtain ⟨op,a,b,rfl,kb,rfl,⟨ka,rfl,ho⟩ | ⟨ka,rfl,n1,n2⟩⟩:=qdj kS e.symm
  ·exact ⟨Or.inl (q15 hS).1,Or.inr (Or.inl ⟨b,(q15 hS).2,kb,rfl⟩),fun _=>(q15 hS).1⟩
  ·exact ⟨Or.inr (Or.inl ⟨a,(q15 hS).1,ka,rfl⟩),Or.inr (Or.inl ⟨b,(q15 hS).2,kb,rfl⟩),fun h=>by omega⟩
 ·cases e
 ·cases e
theorem q49(box:Bool):modeO box=17∨modeO box=18:=by cases box <;> simp[modeO]
theorem qcj{a b:Bool}(h:modeO a=modeO b):a=b:=by cases a <;> cases b <;> simp[modeO]at h ⊢
theorem qc7(T0:Tr):InC T0 T0:=Or.inl (Or.inl (sub_self _))
theorem q5D{T0:Tr}{op:Nat}(h:op=4∨op=5):InC T0 (.leaf (op,0)):=by
 rcases h with rfl | rfl
 ·exact Or.inl (Or.inr (Or.inr (Or.inl rfl)))
 ·exact Or.inl (Or.inr (Or.inr (Or.inr rfl)))
theorem q4Y{T0 S:Tr}(h:S∈subL T0)(k:KT S):InC T0 (kTr S).2:=Or.inl (Or.inr (Or.inl ⟨S,h,k,rfl⟩))
theorem q4Z{T0 S:Tr}(h:S∈subL T0):InC T0 S:=Or.inl (Or.inl h)
theorem qdN{T0 c:Tr}{k:Tk}(h:InC T0 (.un k c)):InC T0 c:=by
 rcases h with h | ⟨box,r,f,h1,h2⟩
 ·exact Or.inl (qdM h)
 ·obtain ⟨q,F,e,_⟩:=q2L box h2
  cases e
theorem qas{T0 c d:Tr}{k:Tk}(h:InC T0 (.bin k c d)):InC T0 c∧InC T0 d∧(k.1=17∨k.1=18→c∈subL T0):=by
 rcases h with h | ⟨box,r,f,h1,h2⟩
 ·obtain ⟨a,b,e⟩:=q4X h
  exact ⟨Or.inl a,Or.inl b,e⟩
 ·obtain ⟨q,F,e,hq,hF,_⟩:=q2L box h2
  injection e with e1 e2 e3
  subst e1 e2 e3
  obtain ⟨a,b,e⟩:=q4X h1
  have hs:=q1O (e (q49 box)) hq
  refine ⟨q4Z hs,?_,fun _=>hs⟩
  rcases hF with rfl | hF
  ·exact Or.inl b
  ·exact Or.inr ⟨box,r,f,h1,hF⟩
theorem qcY{T0 r f:Tr}{box:Bool}(h:InC T0 (.bin (modeO box,0) r f)):∀ T,T∈pws box r f→InC T0 T:=by
 intro T hT
 rcases h with h | ⟨b2,r2,f2,h1,h2⟩
 ·exact Or.inr ⟨box,r,f,h,hT⟩
 ·obtain ⟨q,F,e,hq,hF,hsub⟩:=q2L b2 h2
  injection e with e1 e2 e3
  injection e1 with e1
  have:=qcj e1
  subst this e2 e3
  exact Or.inr ⟨box,r2,f2,h1,hsub T hT⟩
theorem q2y{T0 T:Tr}(h0:KT T0)(h:InC T0 T):KT T∨KP T:=by
 rcases h with h | ⟨box,r,f,h1,h2⟩
 ·exact q9r h0 h
 ·have hr:KT (.bin (modeO box,0) r f):=by
   rcases q9r h0 h1 with h | h
   ·exact h
   ·obtain ⟨_,ho,_⟩:=q1d h
    rcases q49 box with e | e <;> omega
  obtain ⟨kr,kf⟩:=q1e hr (q49 box)
  clear h1 hr
  have key:∀ (r f T:Tr),KP r→KT f→T∈pws box r f→KT T:=by
   intro r
   induction r with
   | leaf k=>intro f T hr;exact (q28 hr).elim
   | un k c ih =>
    intro f T hr hf hT
    unfold pws at hT
    split at hT
    ·rename_i hk
     obtain ⟨op,p⟩:=k
     dsimp only at hk
     subst hk
     have kc:KP c:=by
      rcases kp_un hr with ⟨_,⟨h,_⟩ | ⟨h,_⟩ | ⟨_,h⟩⟩
      ·cases h
      ·cases h
      ·exact h
     have hm:=q29 hr hf box
     rcases List.mem_cons.1 hT with rfl | hT
     ·exact hm
     ·exact ih _ T kc hm hT
    ·simp at hT
   | bin k c d ihc ihd =>
    intro f T hr hf hT
    obtain ⟨op,p⟩:=k
    obtain ⟨_,_,kc,kd⟩:=q1d hr
    unfold pws at hT
    split at hT
    ·rcases List.mem_append.1 hT with hT | hT
     ·exact ihc f T kc hf hT
     ·exact ihd f T kd hf hT
    ·split at hT
     ·have hm:=q29 kd hf box
      rcases List.mem_cons.1 hT with rfl | hT
      ·exact hm
      ·rcases List.mem_append.1 hT with hT | hT
       ·exact ihd f T kd hf hT
       ·exact ihc _ T kc hm hT
     ·simp at hT
  exact Or.inl (key r f T kr kf h2)
theorem q3c:∀ T:Tr,KT T→(kTr T).2.size≤2*T.size
 | .leaf (op,p),hT=>by rcases q1y hT with ⟨rfl,_⟩ | ⟨rfl,rfl | rfl | rfl | rfl⟩ <;> simp[kTr,Tr.size]
 | .un (op,p) c,hT=>by
  rcases kt_un hT with ⟨rfl,⟨rfl,q,rfl⟩ | ⟨ho,hc⟩⟩
  ·simp[kTr,Tr.size]
  ·have ih:=q3c c hc
   rcases ho with rfl | rfl
   ·show (kTr c).2.size+1≤2*(c.size+1);omega
   ·show (kTr c).2.size+1≤2*(c.size+1);omega
 | .bin (op,p) c d,hT=>by
  obtain ⟨rfl,ho⟩:=q1n hT
  by_cases hw:op=17∨op=18
  ·obtain ⟨kc,kd⟩:=q1e hT hw
   have e:=(q1a c kc.wf kc.kr).1
   have ih:=q3c d kd
   rcases hw with rfl | rfl
   ·show (kTr c).1.size+(kTr d).2.size+1≤2*(c.size+d.size+1);rw[e];omega
   ·show (kTr c).1.size+(kTr d).2.size+1≤2*(c.size+d.size+1);rw[e];omega
  ·obtain ⟨kc,kd⟩:=qB hT (by omega)
   have ic:=q3c c kc
   have ih:=q3c d kd
   have ho4:op=11∨op=12∨op=15∨op=16:=by omega
   rcases ho4 with rfl | rfl | rfl | rfl
   ·show (kTr c).2.size+(kTr d).2.size+1≤2*(c.size+d.size+1);omega
   ·show (kTr c).2.size+(kTr d).2.size+1≤2*(c.size+d.size+1);omega
   ·show (kTr c).2.size+(kTr d).2.size+1≤2*(c.size+d.size+1);omega
   ·show (kTr c).2.size+(kTr d).2.size+1≤2*(c.size+d.size+1);omega
theorem q5C{T0 T:Tr}(h2:T0.size≤2048)(h:In0 T0 T):T.size≤4096∧hgt T≤2048:=by
 rcases h with h | ⟨S,hS,kS,rfl⟩ | rfl | rfl
 ·have:=q2B h
  have:=q2x T
  omega
 ·have:=q2B hS
  have:=q3c S kS
  rw[q11 S kS]
  have:=q2x S
  omega
 ·simp[Tr.size,hgt]
 ·simp[Tr.size,hgt]
theorem q45{T0 T:Tr}(h2:T0.size≤2048)(h:InC T0 T):T.size≤20000000∧hgt T≤5000:=by
 rcases h with h | ⟨box,r,f,h1,h3⟩
 ·have:=q5C h2 h
  omega
 ·have hr:=q2B ((q4X h1).2.2 (q49 box))
  have hf:=q5C h2 (q4X h1).2.1
  have a:=q3R box (R:=2048) (by omega) h3
  have hg:=q2x r
  have b:=q2Y box (R:=2048) (by omega) h3
  have:r.size*(2048+2)≤2048*(2048+2):=Nat.mul_le_mul_right _ (by omega)
  omega
def allC (T0:Tr):List Tr :=
 let A:=subL T0++(((subL T0).filter fun T=>!pathT T).map (fun T=>(kTr T).2)++[Tr.leaf (4,0),Tr.leaf (5,0)])
 A++A.flatMap fun T=>match T with | .bin k r f=>pws (k.1 == 18) r f | _=>[]
theorem qcX{T0 T:Tr}(h:InC T0 T):T∈allC T0:=by
 have key:∀ T,In0 T0 T→T∈subL T0++(((subL T0).filter fun T=>!pathT T).map (fun T=>(kTr T).2)++[Tr.leaf (4,0),Tr.leaf (5,0)]):=by
  intro T h
  rcases h with h | ⟨S,hS,kS,rfl⟩ | rfl | rfl
  ·exact List.mem_append.2 (Or.inl h)
  ·exact List.mem_append.2 (Or.inr (List.mem_append.2 (Or.inl (List.mem_map.2 ⟨S,List.mem_filter.2 ⟨hS,by simp[kS.np]⟩,rfl⟩))))
  ·simp
  ·simp
 unfold allC
 rcases h with h | ⟨box,r,f,h1,h2⟩
 ·exact List.mem_append.2 (Or.inl (key T h))
 ·refine List.mem_append.2 (Or.inr (List.mem_flatMap.2 ⟨_,key _ h1,?_⟩))
  show T∈pws ((modeO box) == 18) r f
  rw[show (modeO box == 18)=box by cases box <;> rfl]
  exact h2
theorem q5l{α β : Type}(g:α → List β)(B:Nat):∀ l:List α,(∀ x∈l,(g x).length≤B)→(l.flatMap g).length≤l.length*B
 | [],_=>by simp
 | x::l,h=>by
  have h1:=h x (by simp)
  have h2:=q5l g B l fun y hy=>h y (by simp[hy])
  rw[List.flatMap_cons,List.length_append,List.length_cons,Nat.add_mul]
  omega
theorem qcP{T0:Tr}(h0:KT T0)(h2:T0.size≤2048):(allC T0).length≤20000000:=by
 unfold allC
 have hA:(subL T0++(((subL T0).filter fun T=>!pathT T).map (fun T=>(kTr T).2)++[Tr.leaf (4,0),Tr.leaf (5,0)])).length≤4098:=by
  have:=q56 T0
  have:=List.length_filter_le (fun T=>!pathT T) (subL T0)
  simp only[List.length_append,List.length_map,List.length_cons,List.length_nil]
  omega
 have hin:∀ T∈subL T0++(((subL T0).filter fun T=>!pathT T).map (fun T=>(kTr T).2)++[Tr.leaf (4,0),Tr.leaf (5,0)]),In0 T0 T:=by
  intro T hT
  rcases List.mem_append.1 hT with h | h
  ·exact Or.inl h
  ·rcases List.mem_append.1 h with h | h
   ·obtain ⟨S,hS,rfl⟩:=List.mem_map.1 h
    obtain ⟨h1,h3⟩:=List.mem_filter.1 hS
    have hk:KT S:=by
     rcases q3f (Or.inl h0) h1 with k | k
     ·exact k
     ·rw[k.isp]at h3;cases h3
    exact Or.inr (Or.inl ⟨S,h1,hk,rfl⟩)
   ·simp at h
    rcases h with rfl | rfl
    ·exact Or.inr (Or.inr (Or.inl rfl))
    ·exact Or.inr (Or.inr (Or.inr rfl))
 have hB:=q5l (fun T:Tr=>match T with | .bin k r f=>pws (k.1 == 18) r f | _=>[]) 4096 _ (fun T hT=>by
  have:=(q5C h2 (hin T hT)).1
  cases T with
  | leaf k=>exact Nat.zero_le _
  | un k c=>exact Nat.zero_le _
  | bin k r f =>
   have:=q2Z (k.1 == 18) r f
   have e:(Tr.bin k r f).size=r.size+f.size+1:=rfl
   show (pws (k.1 == 18) r f).length≤4096
   omega)
 rw[List.length_append]
 generalize (subL T0++(((subL T0).filter fun T=>!pathT T).map (fun T=>(kTr T).2)++[Tr.leaf (4,0),Tr.leaf (5,0)]))=A at *
 have:A.length*4096≤4098*4096:=Nat.mul_le_mul_right _ hA
 omega
theorem q4b{α : Type}:∀ {l m:List α},l.Nodup→(∀ x∈l,x∈m)→l.length≤m.length
 | [],m,_,_=>Nat.zero_le _
 | x::l,m,hn,h=>by
  obtain ⟨a,b,rfl⟩:=List.append_of_mem (h x (by simp))
  rw[List.nodup_cons]at hn
  have:=q4b (m:=a++b) hn.2 fun y hy=>by
   have:=h y (by simp[hy])
   simp at this ⊢
   rcases this with h1 | rfl | h1
   ·exact Or.inl h1
   ·exact absurd hy hn.1
   ·exact Or.inr h1
  simp at this ⊢
  omega
def Arc (x s:Nat) (L:List Nat) (Mf:Mt):Prop:=∃ M1 M2,GoodM M1∧BdL [s] M1.length∧stepM fuelN x [s] [] M1=some (L,M2)∧M2 <+: Mf
theorem Arc.mono{x s:Nat}{L:List Nat}{M M':Mt}(h:Arc x s L M)(hp:M <+: M'):Arc x s L M':=by
 obtain ⟨M1,M2,h1,h2,h3,h4⟩:=h
 exact ⟨M1,M2,h1,h2,h3,h4.trans hp⟩
def goN (nx:Nat→Nat→List Nat):List Nat→List Nat→List Nat
 | [],qs=>qs
 | x::t,qs=>goN nx t (qs.flatMap fun q=>nx q x)
structure Aut (T:Tr) (n:Nat) (S l0 st:List Nat) (nx:Nat→Nat→List Nat) (fi:Nat→Bool) (Mf:Mt):Prop where
 need:∃ M0,needM T []=some (l0,M0)∧M0 <+: Mf
 st_lt:∀ q∈st,q<S.length
 st_is:st.map (fun q=>S.getD q 0)=l0
 arc:∀ q,q<S.length→∀ x,x<2 ^ n→Arc x (S.getD q 0) ((nx q x).map fun r=>S.getD r 0) Mf∧∀ r∈nx q x,r<S.length
 fin:∀ q,q<S.length→(fi q=true↔FinP Mf [S.getD q 0])
def putS:List Nat→List Nat→Option (List Nat×List Nat)
 | [],S=>some ([],S)
 | s::L,S=>if s∈S then (match putS L S with
   | none=>none
   | some (r,S1)=>some (S.idxOf s::r,S1)) else if 256≤S.length then none else match putS L (S++[s]) with
   | none=>none
   | some (r,S1)=>some (S.length::r,S1)
abbrev atS (S:List Nat) (q:Nat):Nat:=S.getD q 0
theorem q2W{S S1:List Nat}(h:S <+: S1){q:Nat}(hq:q<S.length):atS S1 q=atS S q:=by
 obtain ⟨k,rfl⟩:=h
 unfold atS
 rw[List.getD_eq_getElem?_getD,List.getD_eq_getElem?_getD,List.getElem?_append_left hq]
theorem q7q{S S1:List Nat}(h:S <+: S1){r:List Nat}(hr:∀ q∈r,q<S.length):r.map (atS S1)=r.map (atS S):=List.map_congr_left fun q hq=>q2W h (hr q hq)
theorem qdL{S:List Nat}{s:Nat}(h:s∈S):S.idxOf s<S.length∧atS S (S.idxOf s)=s:=by
 have hl:=List.idxOf_lt_length_of_mem h
 refine ⟨hl,?_⟩
 unfold atS
 rw[List.getD_eq_getElem?_getD,List.getElem?_eq_getElem hl]
 exact List.getElem_idxOf hl
structure PutK (L S r S1:List Nat):Prop where
 pre:S <+: S1
 lt:∀ q∈r,q<S1.length
 is:r.map (atS S1)=L
 mem:∀ s∈S1,s∈S∨s∈L
 few:S.length≤256→S1.length≤256
theorem q2e:∀ {L S r S1:List Nat},putS L S=some (r,S1)→PutK L S r S1
 | [],S,r,S1,h=>by
  unfold putS at h
  injection h with h;injection h with h1 h2
  subst h1 h2
  exact ⟨List.prefix_refl _,fun q hq=>(by cases hq),rfl,fun s hs=>Or.inl hs,fun h=>h⟩
 | s::L,S,r,S1,h=>by
  unfold putS at h
  split at h
  ·rename_i hm
   cases hp:putS L S with
   | none=>rw[hp]at h;cases h
   | some v =>
    obtain ⟨r2,S2⟩:=v
    rw[hp]at h
    injection h with h;injection h with h1 h2
    subst h1 h2
    have k:=q2e hp
    obtain ⟨hi,he⟩:=qdL hm
    refine ⟨k.pre,fun q hq=>?_,?_,fun z hz=>(k.mem z hz).imp id (fun h=>by simp[h]),k.few⟩
    ·rcases List.mem_cons.1 hq with rfl | hq
     ·exact Nat.lt_of_lt_of_le hi k.pre.length_le
     ·exact k.lt q hq
    ·rw[List.map_cons,k.is,q2W k.pre hi,he]
  ·rename_i hm
   split at h
   ·cases h
   ·rename_i hlen
    cases hp:putS L (S++[s]) with
    | none=>rw[hp]at h;cases h
    | some v =>
     obtain ⟨r2,S2⟩:=v
     rw[hp]at h
     injection h with h;injection h with h1 h2
     subst h1 h2
     have k:=q2e hp
     have hl:S.length<(S++[s]).length:=by simp
     refine ⟨(List.prefix_append _ _).trans k.pre,fun q hq=>?_,?_,fun z hz=>?_,fun _=>k.few (by simp;omega)⟩
     ·rcases List.mem_cons.1 hq with rfl | hq
      ·exact Nat.lt_of_lt_of_le hl k.pre.length_le
      ·exact k.lt q hq
     ·rw[List.map_cons,k.is,q2W k.pre hl]
      unfold atS
      rw[List.getD_eq_getElem?_getD,List.getElem?_append_right (Nat.le_refl _)]
      simp
     ·rcases k.mem z hz with h | h
      ·rcases List.mem_append.1 h with h | h
       ·exact Or.inl h
       ·exact Or.inr (by simp at h;simp[h])
      ·exact Or.inr (by simp[h])
def rowM (s:Nat):List Nat→List (List Nat)→List Nat→Mt→Except Nat (List (List Nat)×List Nat×Mt)
 | [],acc,S,M=>.ok (acc,S,M)
 | x::xs,acc,S,M=>match stepM fuelN x [s] [] M with
  | none=>.error 9
  | some (L,M1)=>match putS L S with
   | none=>.error 10
   | some (r,S1)=>rowM s xs (acc++[r]) S1 M1
structure StK (S:List Nat) (M:Mt):Prop where
 good:GoodM M
 bd:∀ z∈S,BdL [z] M.length
 few:S.length≤256
theorem q6k{L:List Nat}{m z:Nat}(h:BdL L m)(hz:z∈L):BdL [z] m:=fun s hs=>by
 have:s=z:=by simpa using hs
 subst this;exact h s hz
structure RowK (s:Nat) (xs:List Nat) (acc:List (List Nat)) (S:List Nat) (M:Mt) (acc1:List (List Nat)) (S1:List Nat) (M1:Mt):Prop where
 ok:StK S1 M1
 pre:S <+: S1
 pre2:M <+: M1
 ex:∃ rs,acc1=acc++rs∧rs.length=xs.length∧∀ (i x:Nat),xs[i]? = some x→∃ r,rs[i]? = some r∧Arc x s (r.map (atS S1)) M1∧∀ q∈r,q<S1.length
theorem q7w{s:Nat}:∀ {xs:List Nat} {acc:List (List Nat)} {S:List Nat} {M:Mt} {acc1:List (List Nat)} {S1:List Nat} {M1:Mt},StK S M→BdL [s] M.length→rowM s xs acc S M=.ok (acc1,S1,M1)→RowK s xs acc S M acc1 S1 M1
 | [],acc,S,M,acc1,S1,M1,hk,_,h=>by
  unfold rowM at h
  injection h with h;injection h with h1 h2;injection h2 with h2 h3
  subst h1 h2 h3
  exact ⟨hk,List.prefix_refl _,List.prefix_refl _,[],by simp,rfl,fun i x hx=>by simp at hx⟩
 | x::xs,acc,S,M,acc1,S1,M1,hk,hs,h=>by
  unfold rowM at h
  cases hm:stepM fuelN x [s] [] M with
  | none=>rw[hm]at h;cases h
  | some v =>
   obtain ⟨L,M2⟩:=v
   rw[hm]at h
   cases hp:putS L S with
   | none=>simp only[hp]at h;cases h
   | some u =>
    obtain ⟨r,S2⟩:=u
    simp only[hp]at h
    obtain ⟨e,_⟩:=q7z hk.good hs hm
    have k:=q2e hp
    have hk2:StK S2 M2:=⟨e.good,fun z hz=>(k.mem z hz).elim (fun h=>(hk.bd z h).mono e.pre.length_le) (fun h=>q6k e.bd h),k.few hk.few⟩
    obtain ⟨o,p1,p2,rs,ha,hl,hx⟩:=q7w hk2 (hs.mono e.pre.length_le) h
    refine ⟨o,k.pre.trans p1,e.pre.trans p2,r::rs,by rw[ha];simp,by simp[hl],fun i y hy=>?_⟩
    cases i with
    | zero =>
     have:x=y:=by simpa using hy
     subst this
     refine ⟨r,rfl,⟨M,M2,hk.good,hs,?_,p2⟩,fun q hq=>Nat.lt_of_lt_of_le (k.lt q hq) p1.length_le⟩
     rw[q7q p1 k.lt,k.is];exact hm
    | succ i=>exact hx i y (by simpa using hy)
def allM (n:Nat):Nat→List (List (List Nat))→List Nat→Mt→Except Nat (List (List (List Nat))×List Nat×Mt)
 | 0,rows,S,M=>.ok (rows,S,M)
 | f+1,rows,S,M=>if rows.length<S.length then (match rowM (atS S rows.length) (List.range (2 ^ n)) [] S M with
   | .error e=>.error e
   | .ok (row,S1,M1)=>allM n f (rows++[row]) S1 M1) else .ok (rows,S,M)
structure AllK (n:Nat) (rows:List (List (List Nat))) (S:List Nat) (M:Mt):Prop where
 ok:StK S M
 le:rows.length≤S.length
 row:∀ (q:Nat) (row:List (List Nat)),rows[q]? = some row→row.length=2 ^ n∧∀ x,x<2 ^ n→∃ r,row[x]? = some r∧Arc x (atS S q) (r.map (atS S)) M∧∀ j∈r,j<S.length
theorem AllK.next{n:Nat}{rows:List (List (List Nat))}{S:List Nat}{M:Mt}(h:AllK n rows S M)(hlt:rows.length<S.length){row:List (List Nat)}{S1:List Nat}{M1:Mt}(hr:rowM (atS S rows.length) (List.range (2 ^ n)) [] S M=.ok (row,S1,M1)):AllK n (rows++[row]) S1 M1∧S <+: S1∧M <+: M1:=by
 have hm:atS S rows.length∈S:=by
  unfold atS
  rw[List.getD_eq_getElem?_getD,List.getElem?_eq_getElem hlt]
  exact List.getElem_mem hlt
 obtain ⟨o,p1,p2,rs,ha,hl,hx⟩:=q7w h.ok (h.ok.bd _ hm) hr
 rw[List.nil_append]at ha
 subst ha
 refine ⟨⟨o,by simp;exact Nat.lt_of_lt_of_le hlt p1.length_le,fun q rw2 hq=>?_⟩,p1,p2⟩
 by_cases hqr:q<rows.length
 ·rw[List.getElem?_append_left hqr]at hq
  obtain ⟨h1,h2⟩:=h.row q rw2 hq
  refine ⟨h1,fun x hx2=>?_⟩
  obtain ⟨r,hr1,hr2,hr3⟩:=h2 x hx2
  refine ⟨r,hr1,?_,fun j hj=>Nat.lt_of_lt_of_le (hr3 j hj) p1.length_le⟩
  rw[q7q p1 hr3,q2W p1 (Nat.lt_trans hqr hlt)]
  exact hr2.mono p2
 ·have hqe:q=rows.length:=by
   have:=(List.getElem?_eq_some_iff.1 hq).1
   simp at this;omega
  subst hqe
  rw[List.getElem?_append_right (Nat.le_refl _)]at hq
  have:row=rw2:=by simpa using hq
  subst this
  refine ⟨by simpa using hl,fun x hx2=>?_⟩
  obtain ⟨r,hr1,hr2,hr3⟩:=hx x x (by simp[hx2])
  exact ⟨r,hr1,by rw[q2W p1 hlt];exact hr2,hr3⟩
theorem qap{n:Nat}:∀ {f:Nat} {rows:List (List (List Nat))} {S:List Nat} {M:Mt} {rows1:List (List (List Nat))} {S1:List Nat} {M1:Mt},AllK n rows S M→256≤f+rows.length→allM n f rows S M=.ok (rows1,S1,M1)→AllK n rows1 S1 M1∧rows1.length=S1.length∧S <+: S1∧M <+: M1
 | 0,rows,S,M,rows1,S1,M1,hk,hf,h=>by
  unfold allM at h
  injection h with h;injection h with h1 h2;injection h2 with h2 h3
  subst h1 h2 h3
  exact ⟨hk,by have:=hk.le;have:=hk.ok.few;omega,List.prefix_refl _,List.prefix_refl _⟩
 | f+1,rows,S,M,rows1,S1,M1,hk,hf,h=>by
  unfold allM at h
  split at h
  ·rename_i hlt
   cases hr:rowM (atS S rows.length) (List.range (2 ^ n)) [] S M with
   | error e=>rw[hr]at h;cases h
   | ok v =>
    obtain ⟨row,S2,M2⟩:=v
    rw[hr]at h
    obtain ⟨k,p1,p2⟩:=hk.next hlt hr
    obtain ⟨h1,h2,h3,h4⟩:=qap k (by simp;omega) h
    exact ⟨h1,h2,p1.trans h3,p2.trans h4⟩
  ·injection h with h;injection h with h1 h2;injection h2 with h2 h3
   subst h1 h2 h3
   exact ⟨hk,by have:=hk.le;omega,List.prefix_refl _,List.prefix_refl _⟩
def nfaM (T:Tr) (n:Nat):Except Nat (List Nat×List Nat×List (List (List Nat))×Mt):=match needM T [] with
 | none=>.error 9
 | some (l0,M)=>match putS l0 [] with
  | none=>.error 10
  | some (st,S)=>match allM n 256 [] S M with
   | .error e=>.error e
   | .ok (rows,S1,M1)=>.ok (S1,st,rows,M1)
abbrev nxR (rows:List (List (List Nat))) (q x:Nat):List Nat:=(rows.getD q []).getD x []
theorem qbv{T:Tr}{n:Nat}{S st:List Nat}{rows:List (List (List Nat))}{M:Mt}(kT:KT T)(h:nfaM T n=.ok (S,st,rows,M)):AllK n rows S M∧rows.length=S.length∧∀ fi:Nat→Bool,(∀ q,q<S.length→(fi q=true↔FinP M [atS S q]))→∃ l0,Aut T n S l0 st (nxR rows) fi M:=by
 unfold nfaM at h
 cases hn:needM T [] with
 | none=>rw[hn]at h;cases h
 | some v =>
  obtain ⟨l0,M0⟩:=v
  rw[hn]at h
  cases hp:putS l0 [] with
  | none=>simp only[hp]at h;cases h
  | some u =>
   obtain ⟨st0,S0⟩:=u
   simp only[hp]at h
   cases ha:allM n 256 [] S0 M0 with
   | error e=>simp only[ha]at h;cases h
   | ok y =>
    obtain ⟨rows0,S1,M1⟩:=y
    simp only[ha]at h
    injection h with h;injection h with h1 h2;injection h2 with h2 h3;injection h3 with h3 h4
    subst h1 h2 h3 h4
    obtain ⟨e,_⟩:=qT T q5B kT hn
    have k:=q2e hp
    have hk0:AllK n [] S0 M0:=⟨⟨e.good,fun z hz=>(k.mem z hz).elim (fun h=>by cases h) (fun h=>q6k e.bd h),k.few (by simp)⟩,by simp,fun q row hq=>by simp at hq⟩
    obtain ⟨h1,h2,h3,h4⟩:=qap hk0 (by simp) ha
    refine ⟨h1,h2,fun fi hfi=>⟨l0,⟨M0,hn,h4⟩,fun q hq=>Nat.lt_of_lt_of_le (k.lt q hq) h3.length_le,?_,fun q hq x hx=>?_,hfi⟩⟩
    ·exact (q7q h3 k.lt).trans k.is
    ·have hq2:rows0[q]? = some rows0[q]:=List.getElem?_eq_getElem (by omega)
     obtain ⟨_,hrow⟩:=h1.row q _ hq2
     obtain ⟨r,hr1,hr2,hr3⟩:=hrow x hx
     have:nxR rows0 q x=r:=by
      unfold nxR
      rw[List.getD_eq_getElem?_getD,List.getD_eq_getElem?_getD,hq2,Option.getD_some,hr1,Option.getD_some]
     rw[this]
     exact ⟨hr2,hr3⟩
def untT:Tr:=.bin (15,0) (.leaf (2,0)) (.leaf (2,1))
theorem q9x:KT untT:=⟨⟨rfl,rfl,⟨rfl,rfl⟩,rfl,rfl⟩,rfl,rfl⟩
theorem q7J(M:Mt):FinP M [0]:=(q2b true _).2 rfl
theorem q7K{T:Tr}(h:KT T):FinP [T.flat] [1]↔endB T=true:=by
 unfold FinP
 rw[show ([1]:List Nat)=[2 ^ 0] from rfl,q7p,q4S h (by rfl)]
 exact ((qU T).1 h).symm
theorem qdz:¬ FinP [untT.flat] [1]:=fun h=>by
 have:=(q7K q9x).1 h
 exact absurd this (by decide)
theorem q9T{T S:Tr}(hT:KT T)(hS:KT S)(h:T.flat=S.flat):T=S:=by
 have h1:=q26 hT.wf
 rw[h,q26 hS.wf]at h1
 exact h1.symm
def p0T:Tr:=.leaf (2,0)
def falT:Tr:=.leaf (1,0)
def nx0T:Tr:=.un (7,0) (.leaf (2,0))
theorem kt_p0:KT p0T:=⟨⟨rfl,rfl⟩,rfl,rfl⟩
theorem qbp:KT falT:=⟨⟨rfl,rfl⟩,rfl,rfl⟩
theorem qbq:KT nx0T:=⟨⟨rfl,rfl,rfl,rfl⟩,rfl,rfl⟩
theorem nk1:nfaM p0T 1=.ok ([1,0],[0],[[[],[1]],[[1],[1]]],[[(2,0)]]):=by kernel_rfl
theorem nk2:nfaM falT 0=.ok ([],[],[],[]):=by kernel_rfl
theorem nk3:nfaM nx0T 1=.ok ([1,6,0],[0],[[[1],[1]],[[],[2]],[[2],[2]]],[[(2,0),(7,0)],[(4,0)],[(2,0)]]):=by kernel_rfl
theorem nk4:nfaM untT 2=.ok ([1,0],[0],[[[],[0],[1],[1]],[[1],[1],[1],[1]]],[[(2,0),(2,1),(15,0)]]):=by kernel_rfl
theorem q7N{S S2:List Nat}(h:S <+: S2){s:Nat}(hs:s∈S):S2.idxOf s=S.idxOf s:=by
 obtain ⟨k,rfl⟩:=h
 rw[List.idxOf_append,if_pos hs]
theorem q2S:∀ {L S r S1:List Nat},putS L S=some (r,S1)→∀ S2,S1 <+: S2→putS L S2=some (r,S2)
 | [],S,r,S1,h,S2,_=>by
  unfold putS at h
  injection h with h;injection h with h1 h2
  subst h1
  rfl
 | s::L,S,r,S1,h,S2,h2=>by
  have k:=q2e h
  unfold putS at h
  split at h
  ·rename_i hm
   cases hp:putS L S with
   | none=>rw[hp]at h;cases h
   | some v =>
    obtain ⟨r2,S3⟩:=v
    rw[hp]at h
    injection h with h;injection h with h1 h3
    subst h1 h3
    have hm2:s∈S2:=(k.pre.trans h2).subset hm
    unfold putS
    rw[if_pos hm2,q2S hp S2 h2,q7N (k.pre.trans h2) hm]
  ·rename_i hm
   split at h
   ·cases h
   ·cases hp:putS L (S++[s]) with
    | none=>rw[hp]at h;cases h
    | some v =>
     obtain ⟨r2,S3⟩:=v
     rw[hp]at h
     injection h with h;injection h with h1 h3
     subst h1 h3
     have k2:=q2e hp
     have hm1:s∈S++[s]:=by simp
     have hm2:s∈S2:=(k2.pre.trans h2).subset hm1
     unfold putS
     rw[if_pos hm2,q2S hp S2 h2,q7N (k2.pre.trans h2) hm1,List.idxOf_append,if_neg hm]
     simp
structure RowJ (X:Nat→Prop) (s:Nat) (acc:List (List Nat)) (S:List Nat) (M:Mt):Prop where
 st:StK S M
 pr:PrM X M
 bd:BdL [s] M.length
 dn:∀ (x:Nat) (r:List Nat),acc[x]? = some r→∃ L,stepM fuelN x [s] [] M=some (L,M)∧putS L S=some (r,S)
theorem RowJ.start{X:Nat→Prop}{s:Nat}{S:List Nat}{M:Mt}(h:StK S M)(hp:PrM X M)(hs:s∈S):RowJ X s [] S M:=⟨h,hp,h.bd s hs,fun x r hx=>by simp at hx⟩
theorem q5A{α : Type}{acc:List α}{r y:α}{x:Nat}(h:(acc++[r])[x]? = some y):acc[x]? = some y∨x=acc.length∧y=r:=by
 by_cases hx:x<acc.length
 ·rw[List.getElem?_append_left hx]at h;exact Or.inl h
 ·have h2:=(List.getElem?_eq_some_iff.1 h).1
  simp at h2
  have:x=acc.length:=by omega
  subst this
  rw[List.getElem?_append_right (Nat.le_refl _)]at h
  simp at h
  exact Or.inr ⟨rfl,h.symm⟩
theorem RowJ.alike{X:Nat→Prop}{s:Nat}{acc:List (List Nat)}{S:List Nat}{M:Mt}(h:RowJ X s acc S M){y:Nat}{r:List Nat}(hxy:Like X y acc.length)(hr:acc[y]? = some r)(xs:List Nat):rowM s (acc.length::xs) acc S M=rowM s xs (acc++[r]) S M∧RowJ X s (acc++[r]) S M:=by
 obtain ⟨L,h1,h2⟩:=h.dn y r hr
 have h3:stepM fuelN acc.length [s] [] M=some (L,M):=by rw[← q82 hxy fuelN [s] [] M h.st.good h.pr h.bd];exact h1
 refine ⟨?_,h.st,h.pr,h.bd,fun x z hx=>?_⟩
 ·conv=>lhs;unfold rowM
  simp only[h3,h2]
 ·rcases q5A hx with hx | ⟨rfl,rfl⟩
  ·exact h.dn x z hx
  ·exact ⟨L,h3,h2⟩
theorem RowJ.step{X:Nat→Prop}{s:Nat}{acc:List (List Nat)}{S:List Nat}{M:Mt}(h:RowJ X s acc S M){L r S1:List Nat}{M1:Mt}(hs:stepM fuelN acc.length [s] [] M=some (L,M1))(hp:putS L S=some (r,S1)):RowJ X s (acc++[r]) S1 M1:=by
 obtain ⟨e,_⟩:=q7z h.st.good h.bd hs
 obtain ⟨hpre,hag⟩:=q2m fuelN acc.length [s] [] M M1 L h.bd hs
 have k:=q2e hp
 refine ⟨⟨e.good,fun z hz=>(k.mem z hz).elim (fun g=>(h.st.bd z g).mono e.pre.length_le) (fun g=>q6k e.bd g),k.few h.st.few⟩,qaE fuelN acc.length [s] [] M M1 L h.st.good h.pr h.bd hs,h.bd.mono e.pre.length_le,fun x z hx=>?_⟩
 rcases q5A hx with hx | ⟨rfl,rfl⟩
 ·obtain ⟨L2,h1,h2⟩:=h.dn x z hx
  exact ⟨L2,(q2m fuelN x [s] [] M M L2 h.bd h1).2 M1 hpre,q2S h2 S1 k.pre⟩
 ·exact ⟨L,hag M1 (List.prefix_refl _),q2S hp S1 (List.prefix_refl _)⟩
def bitsL (ts:List Tk):Nat:=ts.foldl (fun a t=>if t.1=2 then a ||| 2 ^ t.2 else a) 0
theorem qbb(ts:List Tk)(t:Tk):bitsL (ts++[t])=if t.1=2 then bitsL ts ||| 2 ^ t.2 else bitsL ts:=by
 unfold bitsL
 rw[List.foldl_append];rfl
theorem q7E(p:Nat):∀ (ts:List Tk) (a:Nat),(ts.foldl (fun a t=>if t.1=2 then a ||| 2 ^ t.2 else a) a).testBit p=true↔a.testBit p=true∨(2,p)∈ts
 | [],a=>by simp
 | (o,q)::ts,a=>by
  rw[List.foldl_cons,q7E p ts]
  by_cases ho:o=2
  ·subst ho
   rw[if_pos rfl,Nat.testBit_or,Bool.or_eq_true,Nat.testBit_two_pow]
   simp only[decide_eq_true_eq,List.mem_cons,Prod.mk.injEq,true_and,or_assoc,@eq_comm _ q p]
  ·rw[if_neg (by simpa using ho)]
   simp[Ne.symm ho]
theorem q7F(ts:List Tk)(p:Nat):(bitsL ts).testBit p=true↔(2,p)∈ts:=by
 unfold bitsL
 rw[q7E]
 simp
def PrX (ts:List Tk) (p:Nat):Prop:=(2,p)∈ts
theorem qcg(ts:List Tk)(x:Nat):Like (PrX ts) (x &&& bitsL ts) x:=fun p hp=>by
 rw[Nat.testBit_and,(q7F ts p).2 hp,Bool.and_true]
theorem qcR{ts:List Tk}{n:Nat}(h:∀ p,(2,p)∈ts→p<n):bitsL ts<2 ^ n:=by
 refine Nat.lt_pow_two_of_testBit _ fun i hi=>?_
 cases hb:(bitsL ts).testBit i with
 | false=>rfl
 | true=>exact absurd (h i ((q7F ts i).1 hb)) (by omega)
theorem q46:∀ (T:Tr) (items:List It),items.Nodup→Low items→∀ n,n<(insT items T).1.length→n<items.length∨∃ S,Rep (insT items T).1 n S∧S∈subL T
 | .leaf k,items,hn,hl,n,hlt=>by
  have ok:=q19 (.leaf k) items hn hl
  by_cases h:n<items.length
  ·exact Or.inl h
  ·obtain ⟨l,e,hl1⟩:=q24 items (itemOf k [])
   have e2:(insT items (.leaf k)).1=items++l:=e
   rcases q16 items (itemOf k []) with ⟨j,e3,_⟩ | ⟨e3,_⟩
   ·exfalso
    have:(insT items (.leaf k)).1=items:=congrArg Prod.fst e3
    rw[this]at hlt;exact h hlt
   ·have e4:(insT items (.leaf k))=(items++[itemOf k []],items.length):=e3
    rw[e4]at hlt ok ⊢
    simp at hlt
    obtain rfl:n=items.length:=by omega
    exact Or.inr ⟨_,ok.rep,sub_self _⟩
 | .un k c,items,hn,hl,n,hlt=>by
  have ok:=q19 (.un k c) items hn hl
  have ih:=q19 c items hn hl
  have key:(insT items (.un k c))=addI (insT items c).1 (itemOf k [(insT items c).2]):=rfl
  by_cases h:n<(insT items c).1.length
  ·refine (q46 c items hn hl n h).imp id ?_
   rintro ⟨S,h1,h2⟩
   refine ⟨S,?_,by simp[subL,h2]⟩
   obtain ⟨l,e,_⟩:=q24 (insT items c).1 (itemOf k [(insT items c).2])
   rw[key,e]
   exact h1.more l
  ·rcases q16 (insT items c).1 (itemOf k [(insT items c).2]) with ⟨j,e3,_⟩ | ⟨e3,_⟩
   ·exfalso
    rw[key,e3]at hlt;exact h hlt
   ·rw[key,e3]at hlt ok ⊢
    simp at hlt
    obtain rfl:n=(insT items c).1.length:=by omega
    exact Or.inr ⟨_,ok.rep,sub_self _⟩
 | .bin k c d,items,hn,hl,n,hlt=>by
  have ok:=q19 (.bin k c d) items hn hl
  have ih:=q19 c items hn hl
  have jh:=q19 d _ ih.nodup ih.low
  have key:(insT items (.bin k c d))=addI (insT (insT items c).1 d).1 (itemOf k [(insT items c).2,(insT (insT items c).1 d).2]):=rfl
  obtain ⟨l,e,_⟩:=q24 (insT (insT items c).1 d).1 (itemOf k [(insT items c).2,(insT (insT items c).1 d).2])
  by_cases h:n<(insT (insT items c).1 d).1.length
  ·rcases q46 d _ ih.nodup ih.low n h with h1 | ⟨S,h1,h2⟩
   ·refine (q46 c items hn hl n h1).imp id ?_
    rintro ⟨S,h3,h4⟩
    refine ⟨S,?_,by simp[subL,h4]⟩
    obtain ⟨l2,e2,_⟩:=jh.pre
    rw[key,e,e2,List.append_assoc]
    exact h3.more _
   ·refine Or.inr ⟨S,?_,by simp[subL,h2]⟩
    rw[key,e]
    exact h1.more l
  ·rcases q16 (insT (insT items c).1 d).1 (itemOf k [(insT items c).2,(insT (insT items c).1 d).2]) with ⟨j,e3,_⟩ | ⟨e3,_⟩
   ·exfalso
    rw[key,e3]at hlt;exact h hlt
   ·rw[key,e3]at hlt ok ⊢
    simp at hlt
    obtain rfl:n=(insT (insT items c).1 d).1.length:=by omega
    exact Or.inr ⟨_,ok.rep,sub_self _⟩
structure PtK (T:Tr) (items:List It) (n:Nat):Prop where
 nd:items.Nodup
 low:Low items
 few:items.length≤2048
 cov:∀ n,n<items.length→∃ S,Rep items n S∧InC T S
 rep:Rep items n T
theorem q3r:∀ T:Tr,T.size=T.flat.length
 | .leaf k=>rfl
 | .un k c=>by simp[Tr.size,Tr.flat,q3r c]
 | .bin k c d=>by simp[Tr.size,Tr.flat,q3r c,q3r d];omega
theorem qcd{ts:List Tk}(hc:chkE ts=0):∃ T,KT T∧T.size≤2048∧ts=T.flat∧keepE [] ts=0∧PtK T (keepI [] ts) (keepN [] ts):=by
 obtain ⟨hts,T,hW,hp,hk,rfl⟩:=q25.1 hc
 have hsz:T.size≤2048:=by rw[q3r];exact hts
 have hl0:Low []:=fun n x h=>(by simp at h)
 obtain ⟨e1,e2⟩:=q7i hW []
 have ok:=q19 T [] (by simp) hl0
 obtain ⟨l,el,hll⟩:=ok.pre
 have hlen:(insT [] T).1.length≤2048:=by rw[el];simp;omega
 have hE:keepE [] T.flat=0:=by unfold keepE;rw[if_neg (by omega),e1,if_neg (by omega)]
 have hI:keepI [] T.flat=(insT [] T).1:=by unfold keepI;rw[if_pos hE,e1]
 have hN:keepN [] T.flat=(insT [] T).2:=by unfold keepN;rw[if_pos hE,e2]
 refine ⟨T,⟨hW,hp,hk⟩,hsz,rfl,hE,?_⟩
 rw[hI,hN]
 refine ⟨ok.nodup,ok.low,hlen,fun n hn=>?_,ok.rep⟩
 rcases q46 T [] (by simp) hl0 n hn with h | ⟨S,h1,h2⟩
 ·simp at h
 ·exact ⟨S,h1,q4Z h2⟩
end Go.Proofs.YtekeaodpdcnfjaaGreatDoor
