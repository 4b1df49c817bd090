import Derived.WalkKit
set_option maxRecDepth 100000
set_option maxHeartbeats 16000000
namespace Go.Proofs.YtoioiellaomonaaGreatDoor
variable {n op p m:Nat}{A A':Nat->Prop}
abbrev Tk:=Nat×Nat
variable {t:Tk}{ts:List Tk}
structure Pt where
 path:Bool
 plain:Bool
 dep:Nat
 yH:Nat
def bI(t:Tk):Option Nat :=
 if 23<t.1\/(t.1≠2/\t.2≠0)\/(t.1=2/\7<t.2) then none
 else if t.1<=5 then some 0
 else if t.1<=10\/t.1=19\/t.1=20\/t.1=23 then some 1
 else some 2
theorem TF(h:bI t=some n):n<=2:=by
 unfold bI at h
 split at h
 ·cases h
 ·split at h
  ·cases h;decide
  ·split at h<;>(cases h;decide)
def dw(op:Nat):Bool:=decide (19<=op)
def aU(op:Nat):Bool:=decide (op<=2) || decide (op=6) || (decide (11<=op)&&decide (op<=14))
def bT(op:Nat)(a:List Pt):Bool :=
 if op=17\/op=18 then (match a with | [x,y]=>x.path && !y.path|_=>false)
 else if op=19 then (match a with | [x]=>!x.path&&x.plain|_=>false)
 else if op=21\/op=22 then (match a with | [x,y]=>x.path&&y.path|_=>false)
 else if op=23 then (match a with | [x]=>x.path|_=>false)
 else a.all fun x=>!x.path
def dZ(t:Tk)(a:List Pt)(i:Nat):Pt :=
 ⟨dw t.1,aU t.1&&a.all (·.plain),a.foldl (fun d x=>max d (x.dep+1)) 1,match a with | []=>i|x::_=>x.yH⟩
def dG:List Tk->Nat->List Pt->Option (List Pt×List Pt)
 | [],_,st=>some ([],st)
 |t::r,i,st=>
  match bI t with
  |none=>none
  |some n=>
   if st.length<n then none
   else if bT t.1 (st.drop (st.length-n)) then
    (dG r (i+1) (st.take (st.length-n)++[dZ t (st.drop (st.length-n)) i])).map fun x=>(dZ t (st.drop (st.length-n)) i::x.1,x.2)
   else none
inductive Tr where
 |leaf (t:Tk):Tr
 |un (t:Tk) (c:Tr):Tr
 |bin (t:Tk) (c d:Tr):Tr
variable {c d:Tr}
namespace Tr
def flat:Tr->List Tk
 |leaf t=>[t]
 |un t c=>c.flat++[t]
 |bin t c d=>c.flat++d.flat++[t]
def size:Tr->Nat
 |leaf _=>1
 |un _ c=>c.size+1
 |bin _ c d=>c.size+d.size+1
def part:Tr->Nat->Pt
 |leaf t,o=>dZ t [] o
 |un t c,o=>dZ t [c.part o] (o+c.size)
 |bin t c d,o=>dZ t [c.part o,d.part (o+c.size)] (o+c.size+d.size)
def parts:Tr->Nat->List Pt
 |leaf t,o=>[dZ t [] o]
 |un t c,o=>c.parts o++[dZ t [c.part o] (o+c.size)]
 |bin t c d,o=>c.parts o++d.parts (o+c.size)++[dZ t [c.part o,d.part (o+c.size)] (o+c.size+d.size)]
def WF:Tr->Prop
 |leaf t=>bI t=some 0/\bT t.1 []=true
 |un t c=>bI t=some 1/\bT t.1 [c.part 0]=true/\c.WF
 |bin t c d=>bI t=some 2/\bT t.1 [c.part 0,d.part 0]=true/\c.WF/\d.WF
end Tr
theorem LC:∀t:Tr,t.flat.length=t.size
 | .leaf _=>rfl
 | .un _ c=>by simp[Tr.flat,Tr.size,LC c]
 | .bin _ c d=>by simp[Tr.flat,Tr.size,LC c,LC d];omega
theorem VB:∀t:Tr,0<t.size
 | .leaf _=>Nat.one_pos
 | .un _ _=>Nat.succ_pos _
 | .bin _ _ _=>Nat.succ_pos _
theorem Ce:∀(t:Tr)(o:Nat),(t.part o).path=(t.part 0).path/\(t.part o).plain=(t.part 0).plain/\(t.part o).dep=(t.part 0).dep
 | .leaf _,_=>⟨rfl,rfl,rfl⟩
 | .un t c,o=>by
  have h:=Ce c o;simp[Tr.part,dZ,h.2.1,h.2.2]
 | .bin t c d,o=>by
  have h:=Ce c o;have h2:=Ce d (o+c.size);have h3:=Ce d (0+c.size);simp[Tr.part,dZ,h.2.1,h.2.2,h2.2.1,h2.2.2]
  simp at h3
  simp[h3.2.1,h3.2.2]
theorem cK{a b:List Pt}(h:a.map (fun x=>(x.path,x.plain))=b.map (fun x=>(x.path,x.plain))):bT op a=bT op b:=by
 have hl:a.length=b.length:=by simpa using congrArg List.length h
 match a,b,hl with
 | [],[],_=>rfl
 | [x],[y],_=>simp at h;simp[bT,h.1,h.2]
 | [x,x'],[y,y'],_=>simp at h;simp[bT,h.1.1,h.2.1]
 |x::x'::x''::r,y::y'::y''::r',_=>
  unfold bT
  split
  ·rfl
  ·split
   ·rfl
   ·split
    ·rfl
    ·split
     ·rfl
     ·have:∀l:List Pt,l.all (fun x=>!x.path)=(l.map (fun x=>(x.path,x.plain))).all (fun q=>!q.1):=fun l=>by simp[List.all_map,Function.comp_def]
      rw[this,this,h]
theorem cN(o:Nat):bT t.1 [c.part o]=bT t.1 [c.part 0]:=cK (by simp[(Ce c o).1,(Ce c o).2.1])
theorem cQ(o o':Nat):bT t.1 [c.part o,d.part o']=bT t.1 [c.part 0,d.part 0]:=cK (by simp[(Ce c o).1,(Ce c o).2.1,(Ce d o').1,(Ce d o').2.1])
theorem cT(st:List Pt)(x:Pt):(st++[x]).drop ((st++[x]).length-1)=[x]:=by
 rw[List.length_append];simp
theorem cV(st:List Pt)(x:Pt):(st++[x]).take ((st++[x]).length-1)=st:=by
 rw[List.length_append];simp
theorem cX(st:List Pt)(x y:Pt):(st++[x]++[y]).drop ((st++[x]++[y]).length-2)=[x,y]:=by
 have:(st++[x]++[y]).length-2=st.length:=by simp
 rw[this,List.append_assoc,List.drop_left];rfl
theorem cY(st:List Pt)(x y:Pt):(st++[x]++[y]).take ((st++[x]++[y]).length-2)=st:=by
 have:(st++[x]++[y]).length-2=st.length:=by simp
 rw[this,List.append_assoc,List.take_left]
theorem q4z:∀(t:Tr),t.WF->∀(r:List Tk)(i:Nat)(st:List Pt),dG (t.flat++r) i st=(dG r (i+t.size) (st++[t.part i])).map fun x=>(t.parts i++x.1,x.2)
 | .leaf t,h,r,i,st=>by
  show dG (t::r) i st=_
  rw[dG,h.1];have hd:st.drop (st.length-0)=[]:=by simp
  have ht:st.take (st.length-0)=st:=by simp
  simp only[hd,ht,h.2,if_true]
  rw[if_neg (by omega)]
  rfl
 | .un t c,h,r,i,st=>by
  show dG (c.flat++[t]++r) i st=_
  rw[List.append_assoc,q4z c h.2.2]
  show Option.map _ (dG (t::r) _ _)=_
  rw[dG,h.1];simp only[cT,cV]
  rw[if_neg (by simp),cN,if_pos h.2.1,Option.map_map]
  simp only[Tr.size,Tr.part,Tr.parts,Nat.add_assoc]
  congr 1
  funext x
  simp
 | .bin t c d,h,r,i,st=>by
  show dG (c.flat++d.flat++[t]++r) i st=_
  rw[List.append_assoc,List.append_assoc,q4z c h.2.2.1,q4z d h.2.2.2]
  show Option.map _ (Option.map _ (dG (t::r) _ _))=_
  rw[dG,h.1];simp only[cX,cY]
  rw[if_neg (by simp),cQ,if_pos h.2.1,Option.map_map,Option.map_map]
  simp only[Tr.size,Tr.part,Tr.parts,Nat.add_assoc]
  congr 1
  funext x
  simp
def stk:List Tr->Nat->List Pt
 | [],_=>[]
 |t::r,o=>t.part o::stk r (o+t.size)
def nP(ts:List Tr):List Tk:=ts.flatMap Tr.flat
def dB:List Tr->Nat
 | []=>0
 |t::r=>t.size+dB r
def jT:List Tr->Nat->List Pt
 | [],_=>[]
 |t::r,o=>t.parts o++jT r (o+t.size)
theorem ES:∀(xs ys:List Tr),dB (xs++ys)=dB xs+dB ys
 | [],ys=>by simp[dB]
 |t::r,ys=>by simp only[List.cons_append,dB,ES r ys];omega
theorem q22:∀(xs ys:List Tr)(o:Nat),stk (xs++ys) o=stk xs o++stk ys (o+dB xs)
 | [],ys,o=>by simp[stk,dB]
 |t::r,ys,o=>by simp only[List.cons_append,stk,q22 r ys,dB,Nat.add_assoc]
theorem I5:∀(xs ys:List Tr)(o:Nat),jT (xs++ys) o=jT xs o++jT ys (o+dB xs)
 | [],ys,o=>by simp[jT,dB]
 |t::r,ys,o=>by simp only[List.cons_append,jT,I5 r ys,dB,Nat.add_assoc,List.append_assoc]
theorem c8:∀(xs:List Tr)(o:Nat),(stk xs o).length=xs.length
 | [],_=>rfl
 |t::r,o=>by simp[stk,c8 r]
theorem LD(xs ys:List Tr):nP (xs++ys)=nP xs++nP ys:=by simp[nP]
theorem ze:∀(l:List Tk)(ts:List Tr)(all s:List Pt),(∀t∈ts,t.WF)->dG l (dB ts) (stk ts 0)=some (all,s) ->
  ∃ts':List Tr,(∀t∈ts',t.WF)/\nP ts'=nP ts++l/\s=stk ts' 0/\jT ts' 0=jT ts 0++all:=by
 intro l
 induction l with
 |nil=>
  intro ts all s hw h;unfold dG at h;injection h with h;injection h with h1 h2;subst h1 h2;exact⟨ts,hw,by simp,rfl,by simp⟩
 |cons t r ih=>
  intro ts all s hw h;rw[dG]at h
  cases ht:bI t with
  |none=>rw[ht]at h;cases h
  |some n=>
   rw[ht]at h;simp only at h
   by_cases hl:(stk ts 0).length<n
   ·rw[if_pos hl]at h;cases h
   ·rw[if_neg hl]at h
    by_cases hf:bT t.1 ((stk ts 0).drop ((stk ts 0).length-n))=true
    ·rw[if_pos hf]at h
     cases hr:dG r (dB ts+1) ((stk ts 0).take ((stk ts 0).length-n)++[dZ t ((stk ts 0).drop ((stk ts 0).length-n)) (dB ts)]) with
     |none=>rw[hr]at h;cases h
     |some x=>
      rw[hr]at h;obtain⟨all',s'⟩:=x;injection h with h;injection h with h1 h2;subst h1 h2;have hn:=TF ht;rw[c8]at hl
      match n,hn with
      | 0,_=>
       have hd:(stk ts 0).drop ((stk ts 0).length-0)=[]:=by simp
       have htk:(stk ts 0).take ((stk ts 0).length-0)=stk ts 0:=by simp
       rw[hd]at hf hr ⊢;rw[htk]at hr;have e1:stk ts 0++[dZ t [] (dB ts)]=stk (ts++[.leaf t]) 0:=by rw[q22];simp[stk,Tr.part]
       have e2:dB ts+1=dB (ts++[.leaf t]):=by rw[ES];rfl
       rw[e1,e2]at hr
       obtain⟨ts',h1,h2,h3,h4⟩:=ih (ts++[.leaf t]) _ _ (fun x hx=>by
        rcases List.mem_append.1 hx with hx|hx
        ·exact hw x hx
        ·rw[List.mem_singleton.1 hx];exact⟨ht,hf⟩) hr
       refine⟨ts',h1,by rw[h2,LD];simp[nP,Tr.flat],h3,?_⟩
       rw[h4,I5];simp[jT,Tr.parts]
      | 1,_=>
       rcases List.eq_nil_or_concat ts with h0|⟨ts0,c,h0⟩
       ·subst h0;simp at hl
       ·rw[List.concat_eq_append]at h0
        subst h0;have es:stk (ts0++[c]) 0=stk ts0 0++[c.part (dB ts0)]:=by rw[q22];simp[stk]
        rw[es,cT]at hf hr ⊢;rw[cV]at hr;have ez:dB (ts0++[c])=dB ts0+c.size:=by rw[ES];rfl
        rw[ez]at hr ⊢;have e1:stk ts0 0++[dZ t [c.part (dB ts0)] (dB ts0+c.size)]=stk (ts0++[.un t c]) 0:=by rw[q22];simp[stk,Tr.part]
        have e2:dB ts0+c.size+1=dB (ts0++[.un t c]):=by rw[ES];simp[dB,Tr.size];omega
        rw[e1,e2]at hr
        obtain⟨ts',h1,h2,h3,h4⟩:=ih (ts0++[.un t c]) _ _ (fun x hx=>by
         rcases List.mem_append.1 hx with hx|hx
         ·exact hw x (List.mem_append_left _ hx)
         ·rw[List.mem_singleton.1 hx];exact⟨ht,by rw[cN]at hf;exact hf,hw c (by simp)⟩) hr
        refine⟨ts',h1,by rw[h2,LD,LD];simp[nP,Tr.flat],h3,?_⟩
        rw[h4,I5,I5];simp[jT,Tr.parts]
      | 2,_=>
       rcases List.eq_nil_or_concat ts with h0|⟨zj,d,h0⟩
       ·subst h0;simp at hl
       ·rw[List.concat_eq_append]at h0
        subst h0;rcases List.eq_nil_or_concat zj with h0|⟨ts0,c,h0⟩
        ·subst h0;simp at hl
        ·rw[List.concat_eq_append]at h0
         subst h0;have es:stk (ts0++[c]++[d]) 0=stk ts0 0++[c.part (dB ts0)]++[d.part (dB ts0+c.size)]:=by rw[q22,q22];simp[stk,ES,dB]
         rw[es,cX]at hf hr ⊢;rw[cY]at hr;have ez:dB (ts0++[c]++[d])=dB ts0+c.size+d.size:=by rw[ES,ES];simp[dB]
         rw[ez]at hr ⊢;have e1:stk ts0 0++[dZ t [c.part (dB ts0),d.part (dB ts0+c.size)] (dB ts0+c.size+d.size)]=stk (ts0++[.bin t c d]) 0:=by rw[q22];simp[stk,Tr.part]
         have e2:dB ts0+c.size+d.size+1=dB (ts0++[.bin t c d]):=by rw[ES];simp[dB,Tr.size];omega
         rw[e1,e2]at hr
         obtain⟨ts',h1,h2,h3,h4⟩:=ih (ts0++[.bin t c d]) _ _ (fun x hx=>by
          rcases List.mem_append.1 hx with hx|hx
          ·exact hw x (List.mem_append_left _ (List.mem_append_left _ hx))
          ·rw[List.mem_singleton.1 hx];exact⟨ht,by rw[cQ]at hf;exact hf,hw c (by simp),hw d (by simp)⟩) hr
         refine⟨ts',h1,by rw[h2,LD,LD,LD];simp[nP,Tr.flat],h3,?_⟩
         rw[h4,I5,I5,I5];simp[jT,Tr.parts,ES,dB]
    ·rw[if_neg hf]at h;cases h
theorem TG{l:List Tk}{all:List Pt}{p:Pt}:dG l 0 []=some (all,[p])↔∃t:Tr,t.WF/\l=t.flat/\all=t.parts 0/\p=t.part 0:=by
 constructor
 ·intro h
  obtain⟨ts,h1,h2,h3,h4⟩:=ze l [] all [p] (fun t ht=>by simp at ht) h
  match ts,h3 with
  | [],h3=>cases h3
  | [t],h3=>
   injection h3 with h3 _;refine⟨t,h1 t (by simp),?_,?_,h3⟩
   ·simpa [nP] using h2.symm
   ·simpa [jT] using h4.symm
  |t::t'::r,h3=>simp[stk]at h3
 ·rintro⟨t,hw,rfl,rfl,rfl⟩
  have:=q4z t hw [] 0 []
  rw[List.append_nil]at this;rw[this];simp[dG]
structure Kp where
 k:Nat
 b:Nat
 d:Nat
def kindOf(p:Pt):Nat:=if p.path then 3 else if p.plain then 2 else 1
def kp(p:Pt):Kp:=⟨kindOf p,p.yH,p.dep⟩
theorem ND(h:op<=23):op=0\/op=1\/op=2\/op=3\/op=4\/op=5\/op=6\/op=7\/op=8\/op=9\/op=10\/op=11\/op=12\/op=13\/op=14\/op=15\/op=16\/op=17\/op=18\/op=19\/op=20\/op=21\/op=22\/op=23:=by omega
def vI(p:Pt):Prop:=p.path=true->p.plain=false
theorem zm(t:Tk)(a:List Pt)(i:Nat):vI (dZ t a i):=by
 intro h;unfold dZ dw at h;dsimp only at h
 have h1:19<=t.1:=of_decide_eq_true h
 show (aU t.1&&_)=false
 have:aU t.1=false:=by unfold aU;simp;omega
 rw[this];rfl
abbrev Sv:=(Nat->Prop)×(Nat->Nat->Prop)
variable {v u x y x' y':Sv}
def gZ(w:Nat->Nat->Prop):Nat->Nat->Nat->Prop
 | 0,i,k=>i=k
 |m+1,i,k=>∃j,w i j/\gZ w m j k
def iG(t:List Nat)(op p i:Nat):Prop :=
 if op=0 then True else if op=1 then False else if op=2 then i<t.length/\(t.getD i 0).testBit p=true
 else if op=3 then i+1=t.length else if op=4 then i<t.length else i=t.length
def uy(n op:Nat)(a:Nat->Prop)(i:Nat):Prop :=
 if op=6 then ¬a i else if op=7 then i+1<n/\a (i+1) else if op=8 then (i+1<n->a (i+1))
 else if op=9 then ∃j,i<=j/\j<n/\a j else ∀j,i<=j->j<n->a j
def zK(n op:Nat)(v:Sv)(i k:Nat):Prop :=
 if op=19 then k=i+1/\i<n/\v.1 i else if op=20 then k=i/\v.1 i else ∃m,gZ v.2 m i k
def cZ(n op:Nat)(x y:Sv)(i:Nat):Prop :=
 if op=11 then x.1 i/\y.1 i else if op=12 then x.1 i\/y.1 i else if op=13 then (x.1 i->y.1 i) else if op=14 then (x.1 i↔y.1 i)
 else if op=15 then ∃j,i<=j/\j<n/\y.1 j/\∀k,i<=k->k<j->x.1 k
 else if op=16 then ∀j,i<=j->j<n->y.1 j\/∃k,i<=k/\k<j/\x.1 k
 else if op=17 then ∃k,x.2 i k/\y.1 k else ∀k,x.2 i k->y.1 k
def vJ(op:Nat)(x y:Sv)(i k:Nat):Prop:=if op=21 then x.2 i k\/y.2 i k else ∃j,x.2 i j/\y.2 j k
def bH(t:List Nat)(op p:Nat)(a:List Sv):Sv :=
 match a with
 | []=>(iG t op p,fun _ _=>False)
 | [x]=>(uy t.length op x.1,zK t.length op x)
 |x::y::_=>(cZ t.length op x y,vJ op x y)
def gu(t:Tk):Nat:=(bI t).getD 0
def rO(t:List Nat)(st:List Sv)(k:Tk):List Sv:=st.take (st.length-gu k)++[bH t k.1 k.2 (st.drop (st.length-gu k))]
def xA(t:List Nat)(ts:List Tk)(st:List Sv):List Sv:=ts.foldl (rO t) st
theorem VD(t:List Nat)(a b:List Tk)(st:List Sv):xA t (a++b) st=xA t b (xA t a st):=by unfold xA;rw[List.foldl_append]
def Cl(t:List Nat)(ts:List Tk)(v:Sv):Prop:=∀st,xA t ts st=st++[v]
theorem Cl.same{t:List Nat}(h:Cl t ts v)(k:Cl t ts u):v=u:=by
 have:=h []
 rw[k []]at this;simpa using this.symm
theorem Cl.leaf(t:List Nat)(h:bI (op,p)=some 0):Cl t [(op,p)] (bH t op p []):=fun st=>by
 have e:gu (op,p)=0:=by unfold gu;rw[h];rfl
 simp[xA,rO,e]
theorem Cl.un{t:List Nat}(k:Cl t ts v)(h:bI (op,p)=some 1):Cl t (ts++[(op,p)]) (bH t op p [v]):=fun st=>by
 have e:gu (op,p)=1:=by unfold gu;rw[h];rfl
 rw[VD,k st];simp[xA,rO,e]
theorem Cl.bin{t:List Nat}{xs ys:List Tk}(k:Cl t xs v)(l:Cl t ys u)(h:bI (op,p)=some 2):Cl t (xs++ys++[(op,p)]) (bH t op p [v,u]):=fun st=>by
 have e:gu (op,p)=2:=by unfold gu;rw[h];rfl
 rw[VD,VD,k st,l];have e1:(st++[v]++[u]).length-2=st.length:=by simp
 have e2:(st++[v]++[u]).take st.length=st:=by simp
 have e3:(st++[v]++[u]).drop st.length=[v,u]:=by simp
 simp only[xA,List.foldl_cons,List.foldl_nil,rO,e,e1,e2,e3]
def ay(t:List Nat):Tr->Sv
 | .leaf k=>bH t k.1 k.2 []
 | .un k c=>bH t k.1 k.2 [ay t c]
 | .bin k c d=>bH t k.1 k.2 [ay t c,ay t d]
theorem NG(t:List Nat):∀T:Tr,T.WF->Cl t T.flat (ay t T)
 | .leaf _,h=>Cl.leaf t h.1
 | .un _ c,h=>(NG t c h.2.2).un h.1
 | .bin _ c d,h=>(NG t c h.2.2.1).bin (NG t d h.2.2.2) h.1
theorem VE{w:Nat->Nat->Prop}{n:Nat}(hw:∀i k,i<=n->w i k->i<=k/\k<=n):∀(m i k:Nat),i<=n->gZ w m i k->i<=k/\k<=n
 | 0,i,k,hi,h=>by have:i=k:=h;omega
 |m+1,i,k,hi,h=>by
  obtain⟨j,h1,h2⟩:=h;have:=hw i j hi h1
  have:=VE hw m j k this.2 h2
  omega
theorem ET(t:List Nat):∀T:Tr,T.WF->∀i k,i<=t.length->(ay t T).2 i k->i<=k/\k<=t.length
 | .leaf _,_,i,k,_,h=>by simp[ay,bH]at h
 | .un q c,hT,i,k,hi,h=>by
  simp only[ay,bH,zK]at h
  split at h
  ·omega
  ·split at h
   ·omega
   ·obtain⟨m,hm⟩:=h
    exact VE (ET t c hT.2.2) m i k hi hm
 | .bin q c d,hT,i,k,hi,h=>by
  simp only[ay,bH,vJ]at h
  split at h
  ·rcases h with h|h
   ·exact ET t c hT.2.2.1 i k hi h
   ·exact ET t d hT.2.2.2 i k hi h
  ·obtain⟨j,h1,h2⟩:=h
   have:=ET t c hT.2.2.1 i j hi h1
   have:=ET t d hT.2.2.2 j k this.2 h2
   omega
section
variable (t:List Nat)(x y z:Sv)(i:Nat)
theorem de:(bH t 9 0 [x]).1 i↔(bH t 15 0 [bH t 0 0 [],x]).1 i:=by
 simp[bH,uy,cZ,iG]
theorem df:(bH t 10 0 [x]).1 i↔(bH t 16 0 [bH t 1 0 [],x]).1 i:=by
 simp[bH,uy,cZ,iG]
theorem zr:(bH t 3 0 []).1 i↔(bH t 11 0 [bH t 4 0 [],bH t 8 0 [bH t 1 0 []]]).1 i:=by
 simp[bH,uy,cZ,iG];omega
end
theorem Ei{α : Type}(st r:List α)(m:Nat)(h:r.length=m):(st++r).drop ((st++r).length-m)=r/\(st++r).take ((st++r).length-m)=st:=by
 have:(st++r).length-m=st.length:=by simp;omega
 rw[this];simp
theorem Ci{k:Tk}(h:bI k=some m):gu k=m:=by unfold gu;rw[h];rfl
theorem VF{a b:List Tk}{P:List Tk->Tk->Prop}(h1:∀k (h:k<a.length),P (a.take k) a[k])(h2:∀k (h:k<b.length),P (a++b.take k) b[k]):∀k (h:k<(a++b).length),P ((a++b).take k) (a++b)[k]:=by
 intro k h;by_cases hk:k<a.length
 ·have e1:(a++b).take k=a.take k:=by rw[List.take_append_of_le_length (by omega)]
  have e2:(a++b)[k]=a[k]:=List.getElem_append_left hk;rw[e1,e2];exact h1 k hk
 ·have e1:(a++b).take k=a++b.take (k-a.length):=by rw[List.take_append,List.take_of_length_le (by omega)]
  have e2:(a++b)[k]=b[k-a.length]'(by simp at h;omega):=List.getElem_append_right (by omega)
  rw[e1,e2];exact h2 _ _
abbrev Kq:=List Tk×List Tk
def zt(op p:Nat)(a:List Kq):Kq :=
 match a with
 | []=>if op=0 then ([(0,0)],[(1,0)]) else if op=1 then ([(1,0)],[(0,0)]) else if op=2 then ([(2,p)],[(2,p),(6,0)]) else if op=3 then ([(4,0),(1,0),(8,0),(11,0)],[(5,0),(0,0),(7,0),(12,0)]) else if op=4 then ([(4,0)],[(5,0)]) else ([(5,0)],[(4,0)])
 | [x]=>if op=6 then (x.2,x.1) else if op=7 then (x.1++[(7,0)],x.2++[(8,0)]) else if op=8 then (x.1++[(8,0)],x.2++[(7,0)])
  else if op=9 then ([(0,0)]++x.1++[(15,0)],[(1,0)]++x.2++[(16,0)]) else if op=10 then ([(1,0)]++x.1++[(16,0)],[(0,0)]++x.2++[(15,0)]) else (x.1++[(op,0)],x.1++[(op,0)])
 |x::y::_=>if op=11 then (x.1++y.1++[(11,0)],x.2++y.2++[(12,0)]) else if op=12 then (x.1++y.1++[(12,0)],x.2++y.2++[(11,0)])
  else if op=13 then (x.2++y.1++[(12,0)],x.1++y.2++[(11,0)])
  else if op=14 then ((x.1++y.1++[(11,0)])++(x.2++y.2++[(11,0)])++[(12,0)],(x.1++y.2++[(11,0)])++(x.2++y.1++[(11,0)])++[(12,0)])
  else if op=15 then (x.1++y.1++[(15,0)],x.2++y.2++[(16,0)]) else if op=16 then (x.1++y.1++[(16,0)],x.2++y.2++[(15,0)])
  else if op=17 then (x.1++y.1++[(17,0)],x.1++y.2++[(18,0)]) else if op=18 then (x.1++y.1++[(18,0)],x.1++y.2++[(17,0)])
  else (x.1++y.1++[(op,0)],x.1++y.1++[(op,0)])
def NH(st:List Kq)(k:Tk):List Kq:=st.take (st.length-gu k)++[zt k.1 k.2 (st.drop (st.length-gu k))]
def kS(ts:List Tk)(st:List Kq):List Kq:=ts.foldl NH st
def aZ:Tr->Tr×Tr
 | .leaf (op,p)=>if op=0 then (.leaf (0,0),.leaf (1,0)) else if op=1 then (.leaf (1,0),.leaf (0,0)) else if op=2 then (.leaf (2,p),.un (6,0) (.leaf (2,p)))
  else if op=3 then (.bin (11,0) (.leaf (4,0)) (.un (8,0) (.leaf (1,0))),.bin (12,0) (.leaf (5,0)) (.un (7,0) (.leaf (0,0)))) else if op=4 then (.leaf (4,0),.leaf (5,0)) else (.leaf (5,0),.leaf (4,0))
 | .un (op,_) c=>if op=6 then ((aZ c).2,(aZ c).1) else if op=7 then (.un (7,0) (aZ c).1,.un (8,0) (aZ c).2) else if op=8 then (.un (8,0) (aZ c).1,.un (7,0) (aZ c).2)
  else if op=9 then (.bin (15,0) (.leaf (0,0)) (aZ c).1,.bin (16,0) (.leaf (1,0)) (aZ c).2) else if op=10 then (.bin (16,0) (.leaf (1,0)) (aZ c).1,.bin (15,0) (.leaf (0,0)) (aZ c).2)
  else (.un (op,0) (aZ c).1,.un (op,0) (aZ c).1)
 | .bin (op,_) c d=>if op=11 then (.bin (11,0) (aZ c).1 (aZ d).1,.bin (12,0) (aZ c).2 (aZ d).2) else if op=12 then (.bin (12,0) (aZ c).1 (aZ d).1,.bin (11,0) (aZ c).2 (aZ d).2)
  else if op=13 then (.bin (12,0) (aZ c).2 (aZ d).1,.bin (11,0) (aZ c).1 (aZ d).2)
  else if op=14 then (.bin (12,0) (.bin (11,0) (aZ c).1 (aZ d).1) (.bin (11,0) (aZ c).2 (aZ d).2),.bin (12,0) (.bin (11,0) (aZ c).1 (aZ d).2) (.bin (11,0) (aZ c).2 (aZ d).1))
  else if op=15 then (.bin (15,0) (aZ c).1 (aZ d).1,.bin (16,0) (aZ c).2 (aZ d).2) else if op=16 then (.bin (16,0) (aZ c).1 (aZ d).1,.bin (15,0) (aZ c).2 (aZ d).2)
  else if op=17 then (.bin (17,0) (aZ c).1 (aZ d).1,.bin (18,0) (aZ c).1 (aZ d).2) else if op=18 then (.bin (18,0) (aZ c).1 (aZ d).1,.bin (17,0) (aZ c).1 (aZ d).2)
  else (.bin (op,0) (aZ c).1 (aZ d).1,.bin (op,0) (aZ c).1 (aZ d).1)
def aB(T:Tr):Bool:=(T.part 0).path
def bD(T:Tr):Bool:=(T.part 0).plain
theorem TI(k:Tk):aB (.leaf k)=dw k.1:=rfl
theorem VG(k:Tk)(c:Tr):aB (.un k c)=dw k.1:=rfl
theorem VH(k:Tk)(c d:Tr):aB (.bin k c d)=dw k.1:=rfl
theorem VI(k:Tk):bD (.leaf k)=aU k.1:=by simp[bD,Tr.part,dZ]
theorem q16(k:Tk)(c:Tr):bD (.un k c)=(aU k.1&&bD c):=by simp[bD,Tr.part,dZ]
theorem qn(k:Tk)(c d:Tr):bD (.bin k c d)=(aU k.1&&(bD c&&bD d)):=by
 have:=Ce d (0+c.size)
 simp[bD,Tr.part,dZ]at this ⊢
 rw[this.2.1]
def bV(op:Nat)(c:Tr):Bool:=if op=19 then !aB c&&bD c else if op=23 then aB c else !aB c
def bf(op:Nat)(c d:Tr):Bool:=if op=17\/op=18 then aB c && !aB d else if op=21\/op=22 then aB c&&aB d else !aB c && !aB d
theorem GL(h:bI (op,p)=some 1):bT op [c.part 0]=bV op c:=by
 have h1:¬(op=17\/op=18)/\¬(op=21\/op=22):=by
  unfold bI at h;dsimp only at h
  split at h
  ·cases h
  ·split at h
   ·cases h
   ·split at h
    ·omega
    ·cases h
 unfold bT bV aB bD;rw[if_neg h1.1]
 split
 ·rfl
 ·rw[if_neg h1.2]
  split
  ·rfl
  ·simp
theorem GN(h:bI (op,p)=some 2):bT op [c.part 0,d.part 0]=bf op c d:=by
 have h1:¬op=19/\¬op=23:=by
  unfold bI at h;dsimp only at h
  split at h
  ·cases h
  ·split at h
   ·cases h
   ·split at h
    ·cases h
    ·omega
 unfold bT bf aB
 split
 ·rfl
 ·rw[if_neg h1.1]
  split
  ·rfl
  ·rw[if_neg h1.2]
   simp
theorem qT(h:bI (op,p)=some 0)(h2:op<=5):(Tr.leaf (op,p)).WF:=by
 refine⟨h,?_⟩
 unfold bT;dsimp only
 rw[if_neg (by omega),if_neg (by omega),if_neg (by omega),if_neg (by omega)]
 rfl
theorem nR(h:bI (op,0)=some 1)(hf:bV op c=true)(hc:c.WF):(Tr.un (op,0) c).WF:=⟨h,(GL h).trans hf,hc⟩
theorem qJ(h:bI (op,0)=some 2)(hf:bf op c d=true)(hc:c.WF)(hd:d.WF):(Tr.bin (op,0) c d).WF:=⟨h,(GN h).trans hf,hc,hd⟩
structure zw(T:Tr):Prop where
 w1:(aZ T).1.WF
 p1:aB (aZ T).1=aB T
 l1:bD T=true->bD (aZ T).1=true
 w2:aB T=false->(aZ T).2.WF
 p2:aB T=false->aB (aZ T).2=false
 l2:aB T=false->bD T=true->bD (aZ T).2=true
theorem VJ(h:bI (op,p)=some m):(op<=5/\m=0/\(op≠2->p=0)/\p<=7)\/((6<=op/\op<=10\/op=19\/op=20\/op=23)/\m=1/\p=0)\/((11<=op/\op<=18\/op=21\/op=22)/\m=2/\p=0):=by
 unfold bI at h;dsimp only at h
 split at h
 ·cases h
 ·next h0=>
  split at h
  ·cases h;exact Or.inl ⟨by omega,rfl,by omega,by omega⟩
  ·split at h
   ·cases h;exact Or.inr (Or.inl ⟨by omega,rfl,by omega⟩)
   ·cases h;exact Or.inr (Or.inr ⟨by omega,rfl,by omega⟩)
theorem di(h:p<=7):bI (2,p)=some 0:=by
 unfold bI;dsimp only
 rw[if_neg (by omega),if_pos (by omega)]
theorem qG(h:(Tr.leaf (op,p)).WF):(op=2/\p<=7)\/(p=0/\(op=0\/op=1\/op=3\/op=4\/op=5)):=by
 rcases VJ h.1 with⟨h1,_,h3,h4⟩|⟨_,h,_⟩|⟨_,h,_⟩
 ·by_cases e:op=2
  ·exact Or.inl ⟨e,h4⟩
  ·exact Or.inr ⟨h3 e,by omega⟩
 ·cases h
 ·cases h
theorem qw(h:(Tr.un (op,p) c).WF):p=0/\c.WF/\bV op c=true/\(op=6\/op=7\/op=8\/op=9\/op=10\/op=19\/op=20\/op=23):=by
 have hf:=(GL h.1).symm.trans h.2.1;rcases VJ h.1 with⟨_,h,_⟩|⟨h1,_,h3⟩|⟨_,h,_⟩
 ·cases h
 ·exact⟨h3,h.2.2,hf,by omega⟩
 ·cases h
theorem qt(h:(Tr.bin (op,p) c d).WF):p=0/\c.WF/\d.WF/\bf op c d=true/\(op=11\/op=12\/op=13\/op=14\/op=15\/op=16\/op=17\/op=18\/op=21\/op=22):=by
 have hf:=(GN h.1).symm.trans h.2.1;rcases VJ h.1 with⟨_,h,_⟩|⟨_,h,_⟩|⟨h1,_,h3⟩
 ·cases h
 ·cases h
 ·exact⟨h3,h.2.2.1,h.2.2.2,hf,by omega⟩
theorem NI:∀T:Tr,T.WF->zw T
 | .leaf (op,p),h=>by
  rcases qG h with⟨rfl,hp⟩|⟨rfl,rfl|rfl|rfl|rfl|rfl⟩
  ·exact⟨qT (di hp) (by decide),rfl,fun _=>rfl,fun _=>nR rfl rfl (qT (di hp) (by decide)),fun _=>rfl,fun _ _=>rfl⟩
  ·exact⟨qT rfl (by decide),rfl,fun _=>rfl,fun _=>qT rfl (by decide),fun _=>rfl,fun _ _=>rfl⟩
  ·exact⟨qT rfl (by decide),rfl,fun _=>rfl,fun _=>qT rfl (by decide),fun _=>rfl,fun _ _=>rfl⟩
  ·exact⟨qJ rfl rfl (qT rfl (by decide)) (nR rfl rfl (qT rfl (by decide))),rfl,fun h=>(by cases h),fun _=>qJ rfl rfl (qT rfl (by decide)) (nR rfl rfl (qT rfl (by decide))),fun _=>rfl,fun _ h=>(by cases h)⟩
  ·exact⟨qT rfl (by decide),rfl,fun h=>(by cases h),fun _=>qT rfl (by decide),fun _=>rfl,fun _ h=>(by cases h)⟩
  ·exact⟨qT rfl (by decide),rfl,fun h=>(by cases h),fun _=>qT rfl (by decide),fun _=>rfl,fun _ h=>(by cases h)⟩
 | .un (op,p) c,h=>by
  obtain⟨rfl,hc,hf,ho⟩:=qw h;have ih:=NI c hc;rcases ho with rfl|rfl|rfl|rfl|rfl|rfl|rfl|rfl
  ·have hn:aB c=false:=by simpa [bV] using hf
   have q1:=ih.p1.trans hn;have q2:=ih.p2 hn;exact⟨ih.w2 hn,q2,fun h=>ih.l2 hn (by rw[q16]at h;simpa [aU] using h),fun _=>ih.w1,fun _=>q1,fun _ h=>ih.l1 (by rw[q16]at h;simpa [aU] using h)⟩
  ·have hn:aB c=false:=by simpa [bV] using hf
   have q1:=ih.p1.trans hn;have q2:=ih.p2 hn;exact⟨nR (op:=7) rfl (by simp[bV,q1]) ih.w1,rfl,fun h=>by rw[q16]at h;simp[aU]at h,fun _=>nR (op:=8) rfl (by simp[bV,q2]) (ih.w2 hn),fun _=>rfl,fun _ h=>by rw[q16]at h;simp[aU]at h⟩
  ·have hn:aB c=false:=by simpa [bV] using hf
   have q1:=ih.p1.trans hn;have q2:=ih.p2 hn;exact⟨nR (op:=8) rfl (by simp[bV,q1]) ih.w1,rfl,fun h=>by rw[q16]at h;simp[aU]at h,fun _=>nR (op:=7) rfl (by simp[bV,q2]) (ih.w2 hn),fun _=>rfl,fun _ h=>by rw[q16]at h;simp[aU]at h⟩
  ·have hn:aB c=false:=by simpa [bV] using hf
   have q1:=ih.p1.trans hn;have q2:=ih.p2 hn;exact⟨qJ (op:=15) rfl (by simp[bf,q1,TI,dw]) (qT (op:=0) rfl (by decide)) ih.w1,rfl,fun h=>by rw[q16]at h;simp[aU]at h,fun _=>qJ (op:=16) rfl (by simp[bf,q2,TI,dw]) (qT (op:=1) rfl (by decide)) (ih.w2 hn),fun _=>rfl,fun _ h=>by rw[q16]at h;simp[aU]at h⟩
  ·have hn:aB c=false:=by simpa [bV] using hf
   have q1:=ih.p1.trans hn;have q2:=ih.p2 hn;exact⟨qJ (op:=16) rfl (by simp[bf,q1,TI,dw]) (qT (op:=1) rfl (by decide)) ih.w1,rfl,fun h=>by rw[q16]at h;simp[aU]at h,fun _=>qJ (op:=15) rfl (by simp[bf,q2,TI,dw]) (qT (op:=0) rfl (by decide)) (ih.w2 hn),fun _=>rfl,fun _ h=>by rw[q16]at h;simp[aU]at h⟩
  ·have hn:aB c=false/\bD c=true:=by simpa [bV] using hf
   have q1:=ih.p1.trans hn.1;exact⟨nR (op:=19) rfl (by simp[bV,q1,ih.l1 hn.2]) ih.w1,rfl,fun h=>by rw[q16]at h;simp[aU]at h,fun h=>(by cases h),fun h=>(by cases h),fun h=>(by cases h)⟩
  ·have hn:aB c=false:=by simpa [bV] using hf
   have q1:=ih.p1.trans hn;exact⟨nR (op:=20) rfl (by simp[bV,q1]) ih.w1,rfl,fun h=>by rw[q16]at h;simp[aU]at h,fun h=>(by cases h),fun h=>(by cases h),fun h=>(by cases h)⟩
  ·have hn:aB c=true:=by simpa [bV] using hf
   have q1:=ih.p1.trans hn;exact⟨nR (op:=23) rfl (by simp[bV,q1]) ih.w1,rfl,fun h=>by rw[q16]at h;simp[aU]at h,fun h=>(by cases h),fun h=>(by cases h),fun h=>(by cases h)⟩
 | .bin (op,p) c d,h=>by
  obtain⟨rfl,hc,hd,hf,ho⟩:=qt h;have ih:=NI c hc;have jh:=NI d hd;rcases ho with rfl|rfl|rfl|rfl|rfl|rfl|rfl|rfl|rfl|rfl
  ·have hn:aB c=false/\aB d=false:=by simpa [bf] using hf
   have q1:=ih.p1.trans hn.1;have q2:=ih.p2 hn.1;have r1:=jh.p1.trans hn.2;have r2:=jh.p2 hn.2;have hp:bD (.bin (11,0) c d)=true->bD c=true/\bD d=true:=fun h=>by rw[qn]at h;simpa [aU] using h
   refine⟨qJ (op:=11) rfl (by simp[bf,q1,r1]) ih.w1 jh.w1,rfl,fun h=>?_,fun _=>qJ (op:=12) rfl (by simp[bf,q2,r2]) (ih.w2 hn.1) (jh.w2 hn.2),fun _=>rfl,fun _ h=>?_⟩
   ·obtain⟨h1,h2⟩:=hp h
    have hp:=And.intro h1 h2
    show bD (.bin (11,0) _ _)=true
    rw[qn,ih.l1 hp.1,jh.l1 hp.2];rfl
   ·obtain⟨h1,h2⟩:=hp h
    have hp:=And.intro h1 h2
    show bD (.bin (12,0) _ _)=true
    rw[qn,ih.l2 hn.1 hp.1,jh.l2 hn.2 hp.2];rfl
  ·have hn:aB c=false/\aB d=false:=by simpa [bf] using hf
   have q1:=ih.p1.trans hn.1;have q2:=ih.p2 hn.1;have r1:=jh.p1.trans hn.2;have r2:=jh.p2 hn.2;have hp:bD (.bin (12,0) c d)=true->bD c=true/\bD d=true:=fun h=>by rw[qn]at h;simpa [aU] using h
   refine⟨qJ (op:=12) rfl (by simp[bf,q1,r1]) ih.w1 jh.w1,rfl,fun h=>?_,fun _=>qJ (op:=11) rfl (by simp[bf,q2,r2]) (ih.w2 hn.1) (jh.w2 hn.2),fun _=>rfl,fun _ h=>?_⟩
   ·obtain⟨h1,h2⟩:=hp h
    have hp:=And.intro h1 h2
    show bD (.bin (12,0) _ _)=true
    rw[qn,ih.l1 hp.1,jh.l1 hp.2];rfl
   ·obtain⟨h1,h2⟩:=hp h
    have hp:=And.intro h1 h2
    show bD (.bin (11,0) _ _)=true
    rw[qn,ih.l2 hn.1 hp.1,jh.l2 hn.2 hp.2];rfl
  ·have hn:aB c=false/\aB d=false:=by simpa [bf] using hf
   have q1:=ih.p1.trans hn.1;have q2:=ih.p2 hn.1;have r1:=jh.p1.trans hn.2;have r2:=jh.p2 hn.2;have hp:bD (.bin (13,0) c d)=true->bD c=true/\bD d=true:=fun h=>by rw[qn]at h;simpa [aU] using h
   refine⟨qJ (op:=12) rfl (by simp[bf,q2,r1]) (ih.w2 hn.1) jh.w1,rfl,fun h=>?_,fun _=>qJ (op:=11) rfl (by simp[bf,q1,r2]) ih.w1 (jh.w2 hn.2),fun _=>rfl,fun _ h=>?_⟩
   ·obtain⟨h1,h2⟩:=hp h
    have hp:=And.intro h1 h2
    show bD (.bin (12,0) _ _)=true
    rw[qn,ih.l2 hn.1 hp.1,jh.l1 hp.2];rfl
   ·obtain⟨h1,h2⟩:=hp h
    have hp:=And.intro h1 h2
    show bD (.bin (11,0) _ _)=true
    rw[qn,ih.l1 hp.1,jh.l2 hn.2 hp.2];rfl
  ·have hn:aB c=false/\aB d=false:=by simpa [bf] using hf
   have q1:=ih.p1.trans hn.1;have q2:=ih.p2 hn.1;have r1:=jh.p1.trans hn.2;have r2:=jh.p2 hn.2;have hp:bD (.bin (14,0) c d)=true->bD c=true/\bD d=true:=fun h=>by rw[qn]at h;simpa [aU] using h
   refine⟨qJ (op:=12) rfl rfl (qJ (op:=11) rfl (by simp[bf,q1,r1]) ih.w1 jh.w1) (qJ (op:=11) rfl (by simp[bf,q2,r2]) (ih.w2 hn.1) (jh.w2 hn.2)),rfl,fun h=>?_,fun _=>qJ (op:=12) rfl rfl (qJ (op:=11) rfl (by simp[bf,q1,r2]) ih.w1 (jh.w2 hn.2)) (qJ (op:=11) rfl (by simp[bf,q2,r1]) (ih.w2 hn.1) jh.w1),fun _=>rfl,fun _ h=>?_⟩
   ·obtain⟨h1,h2⟩:=hp h
    have hp:=And.intro h1 h2
    show bD (.bin (12,0) (.bin (11,0) _ _) (.bin (11,0) _ _))=true
    rw[qn,qn,qn,ih.l1 hp.1,jh.l1 hp.2,ih.l2 hn.1 hp.1,jh.l2 hn.2 hp.2];rfl
   ·obtain⟨h1,h2⟩:=hp h
    have hp:=And.intro h1 h2
    show bD (.bin (12,0) (.bin (11,0) _ _) (.bin (11,0) _ _))=true
    rw[qn,qn,qn,ih.l1 hp.1,jh.l2 hn.2 hp.2,ih.l2 hn.1 hp.1,jh.l1 hp.2];rfl
  ·have hn:aB c=false/\aB d=false:=by simpa [bf] using hf
   have q1:=ih.p1.trans hn.1;have q2:=ih.p2 hn.1;have r1:=jh.p1.trans hn.2;have r2:=jh.p2 hn.2;exact⟨qJ (op:=15) rfl (by simp[bf,q1,r1]) ih.w1 jh.w1,rfl,fun h=>by rw[qn]at h;simp[aU]at h,fun _=>qJ (op:=16) rfl (by simp[bf,q2,r2]) (ih.w2 hn.1) (jh.w2 hn.2),fun _=>rfl,fun _ h=>by rw[qn]at h;simp[aU]at h⟩
  ·have hn:aB c=false/\aB d=false:=by simpa [bf] using hf
   have q1:=ih.p1.trans hn.1;have q2:=ih.p2 hn.1;have r1:=jh.p1.trans hn.2;have r2:=jh.p2 hn.2;exact⟨qJ (op:=16) rfl (by simp[bf,q1,r1]) ih.w1 jh.w1,rfl,fun h=>by rw[qn]at h;simp[aU]at h,fun _=>qJ (op:=15) rfl (by simp[bf,q2,r2]) (ih.w2 hn.1) (jh.w2 hn.2),fun _=>rfl,fun _ h=>by rw[qn]at h;simp[aU]at h⟩
  ·have hn:aB c=true/\aB d=false:=by simpa [bf] using hf
   have q1:=ih.p1.trans hn.1;have r1:=jh.p1.trans hn.2;have r2:=jh.p2 hn.2;exact⟨qJ (op:=17) rfl (by simp[bf,q1,r1]) ih.w1 jh.w1,rfl,fun h=>by rw[qn]at h;simp[aU]at h,fun _=>qJ (op:=18) rfl (by simp[bf,q1,r2]) ih.w1 (jh.w2 hn.2),fun _=>rfl,fun _ h=>by rw[qn]at h;simp[aU]at h⟩
  ·have hn:aB c=true/\aB d=false:=by simpa [bf] using hf
   have q1:=ih.p1.trans hn.1;have r1:=jh.p1.trans hn.2;have r2:=jh.p2 hn.2;exact⟨qJ (op:=18) rfl (by simp[bf,q1,r1]) ih.w1 jh.w1,rfl,fun h=>by rw[qn]at h;simp[aU]at h,fun _=>qJ (op:=17) rfl (by simp[bf,q1,r2]) ih.w1 (jh.w2 hn.2),fun _=>rfl,fun _ h=>by rw[qn]at h;simp[aU]at h⟩
  ·have hn:aB c=true/\aB d=true:=by simpa [bf] using hf
   have q1:=ih.p1.trans hn.1;have r1:=jh.p1.trans hn.2;exact⟨qJ (op:=21) rfl (by simp[bf,q1,r1]) ih.w1 jh.w1,rfl,fun h=>by rw[qn]at h;simp[aU]at h,fun h=>(by cases h),fun h=>(by cases h),fun h=>(by cases h)⟩
  ·have hn:aB c=true/\aB d=true:=by simpa [bf] using hf
   have q1:=ih.p1.trans hn.1;have r1:=jh.p1.trans hn.2;exact⟨qJ (op:=22) rfl (by simp[bf,q1,r1]) ih.w1 jh.w1,rfl,fun h=>by rw[qn]at h;simp[aU]at h,fun h=>(by cases h),fun h=>(by cases h),fun h=>(by cases h)⟩
section
variable {t:List Nat}
structure zE(t:List Nat)(T:Tr):Prop where
 f1:aB T=false->∀i,i<=t.length->((ay t (aZ T).1).1 i↔(ay t T).1 i)
 f2:aB T=false->∀i,i<=t.length->((ay t (aZ T).2).1 i↔¬(ay t T).1 i)
 w1:aB T=true->∀i,i<=t.length->∀k,((ay t (aZ T).1).2 i k↔(ay t T).2 i k)
theorem dp(h:∀i,i<=n->(A' i↔¬A i))(i:Nat):(uy n 7 A' i↔¬uy n 8 A i)/\(uy n 8 A' i↔¬uy n 7 A i):=by
 simp[uy]
 constructor
 ·intro h1;exact h _ (by omega)
 ·constructor
  ·intro h1 h2;exact(h _ (by omega)).1 (h1 h2)
  ·intro h1 h2;exact(h _ (by omega)).2 (h1 h2)
theorem dq(ho:op=7\/op=8)(h:∀i,i<=n->(A' i↔A i))(i:Nat):uy n op A' i↔uy n op A i:=by
 rcases ho with rfl|rfl
 ·simp[uy];intro h1;exact h _ (by omega)
 ·simp[uy]
  constructor
  ·intro h1 h2;exact(h _ (by omega)).1 (h1 h2)
  ·intro h1 h2;exact(h _ (by omega)).2 (h1 h2)
theorem TJ(hx:∀i,i<=n->(x'.1 i↔x.1 i))(hy:∀i,i<=n->(y'.1 i↔y.1 i))(i:Nat):(cZ n 15 x' y' i↔cZ n 15 x y i)/\(cZ n 16 x' y' i↔cZ n 16 x y i):=by
 simp[cZ]
 constructor
 ·constructor
  ·rintro⟨j,h1,h2,h3,h4⟩;exact⟨j,h1,h2,(hy j (by omega)).1 h3,fun k k1 k2=>(hx k (by omega)).1 (h4 k k1 k2)⟩
  ·rintro⟨j,h1,h2,h3,h4⟩;exact⟨j,h1,h2,(hy j (by omega)).2 h3,fun k k1 k2=>(hx k (by omega)).2 (h4 k k1 k2)⟩
 ·constructor
  ·intro h j h1 h2
   rcases h j h1 h2 with h|⟨k,k1,k2,k3⟩
   ·exact Or.inl ((hy j (by omega)).1 h)
   ·exact Or.inr ⟨k,k1,k2,(hx k (by omega)).1 k3⟩
  ·intro h j h1 h2
   rcases h j h1 h2 with h|⟨k,k1,k2,k3⟩
   ·exact Or.inl ((hy j (by omega)).2 h)
   ·exact Or.inr ⟨k,k1,k2,(hx k (by omega)).2 k3⟩
theorem TK(hx:∀i,i<=n->(x'.1 i↔¬x.1 i))(hy:∀i,i<=n->(y'.1 i↔¬y.1 i))(i:Nat):(cZ n 15 x' y' i↔¬cZ n 16 x y i)/\(cZ n 16 x' y' i↔¬cZ n 15 x y i):=by
 simp[cZ]
 constructor
 ·constructor
  ·rintro⟨j,h1,h2,h3,h4⟩
   exact⟨j,h1,h2,(hy j (by omega)).1 h3,fun k k1 k2=>(hx k (by omega)).1 (h4 k k1 k2)⟩
  ·rintro⟨j,h1,h2,h3,h4⟩
   exact⟨j,h1,h2,(hy j (by omega)).2 h3,fun k k1 k2=>(hx k (by omega)).2 (h4 k k1 k2)⟩
 ·constructor
  ·intro h j h1 h2 h3
   rcases h j h1 h2 with h|⟨k,k1,k2,k3⟩
   ·exact absurd h3 ((hy j (by omega)).1 h)
   ·exact⟨k,k1,k2,(hx k (by omega)).1 k3⟩
  ·intro h j h1 h2
   by_cases h3:y.1 j
   ·obtain⟨k,k1,k2,k3⟩:=h j h1 h2 h3
    exact Or.inr ⟨k,k1,k2,(hx k (by omega)).2 k3⟩
   ·exact Or.inl ((hy j (by omega)).2 h3)
end
theorem TL(t:List Nat):∀T:Tr,T.WF->zE t T
 | .leaf (op,p),h=>by
  rcases qG h with⟨rfl,hp⟩|⟨rfl,rfl|rfl|rfl|rfl|rfl⟩
  ·exact⟨fun _ _ _=>Iff.rfl,fun _ i _=>by show (bH t 6 0 [bH t 2 p []]).1 i↔_;simp[bH,uy,ay],fun h=>(by cases h)⟩
  ·exact⟨fun _ _ _=>Iff.rfl,fun _ i _=>by show (bH t 1 0 []).1 i↔¬(bH t 0 0 []).1 i;simp[bH,iG],fun h=>(by cases h)⟩
  ·exact⟨fun _ _ _=>Iff.rfl,fun _ i _=>by show (bH t 0 0 []).1 i↔¬(bH t 1 0 []).1 i;simp[bH,iG],fun h=>(by cases h)⟩
  ·refine⟨fun _ i hi=>(zr t i).symm,fun _ i hi=>?_,fun h=>(by cases h)⟩
   show (bH t 12 0 [bH t 5 0 [],bH t 7 0 [bH t 0 0 []]]).1 i↔¬(bH t 3 0 []).1 i
   simp[bH,uy,cZ,iG];omega
  ·exact⟨fun _ _ _=>Iff.rfl,fun _ i hi=>by show (bH t 5 0 []).1 i↔¬(bH t 4 0 []).1 i;simp[bH,iG];omega,fun h=>(by cases h)⟩
  ·exact⟨fun _ _ _=>Iff.rfl,fun _ i hi=>by show (bH t 4 0 []).1 i↔¬(bH t 5 0 []).1 i;simp[bH,iG];omega,fun h=>(by cases h)⟩
 | .un (op,p) c,h=>by
  obtain⟨rfl,hc,hf,ho⟩:=qw h;have ih:=TL t c hc;have hwi:=ET t c hc;rcases ho with rfl|rfl|rfl|rfl|rfl|rfl|rfl|rfl
  ·have hn:aB c=false:=by simpa [bV] using hf
   have f1:=ih.f1 hn;have f2:=ih.f2 hn;refine⟨fun _ i hi=>?_,fun _ i hi=>?_,fun h=>(by cases h)⟩
   ·show (ay t (aZ c).2).1 i↔(bH t 6 0 [ay t c]).1 i
    rw[f2 i hi];simp[bH,uy]
   ·show (ay t (aZ c).1).1 i↔¬(bH t 6 0 [ay t c]).1 i
    rw[f1 i hi];simp[bH,uy]
  ·have hn:aB c=false:=by simpa [bV] using hf
   exact⟨fun _ i hi=>dq (Or.inl rfl) (ih.f1 hn) i,fun _ i hi=>(dp (ih.f2 hn) i).2,fun h=>(by cases h)⟩
  ·have hn:aB c=false:=by simpa [bV] using hf
   exact⟨fun _ i hi=>dq (Or.inr rfl) (ih.f1 hn) i,fun _ i hi=>(dp (ih.f2 hn) i).1,fun h=>(by cases h)⟩
  ·have hn:aB c=false:=by simpa [bV] using hf
   refine⟨fun _ i hi=>?_,fun _ i hi=>?_,fun h=>(by cases h)⟩
   ·exact(TJ (x:=bH t 0 0 []) (x':=bH t 0 0 []) (fun _ _=>Iff.rfl) (ih.f1 hn) i).1.trans (de t _ i).symm
   ·have:=(TK (n:=t.length) (x:=bH t 0 0 []) (x':=bH t 1 0 []) (fun j _=>by simp[bH,iG]) (ih.f2 hn) i).2
    exact this.trans (not_congr (de t _ i).symm)
  ·have hn:aB c=false:=by simpa [bV] using hf
   refine⟨fun _ i hi=>?_,fun _ i hi=>?_,fun h=>(by cases h)⟩
   ·exact(TJ (x:=bH t 1 0 []) (x':=bH t 1 0 []) (fun _ _=>Iff.rfl) (ih.f1 hn) i).2.trans (df t _ i).symm
   ·have:=(TK (n:=t.length) (x:=bH t 1 0 []) (x':=bH t 0 0 []) (fun j _=>by simp[bH,iG]) (ih.f2 hn) i).1
    exact this.trans (not_congr (df t _ i).symm)
  ·have hn:aB c=false/\bD c=true:=by simpa [bV] using hf
   refine⟨fun h=>(by cases h),fun h=>(by cases h),fun _ i hi k=>?_⟩
   show zK t.length 19 (ay t (aZ c).1) i k↔zK t.length 19 (ay t c) i k
   simp only[zK,if_true]
   rw[ih.f1 hn.1 i hi]
  ·have hn:aB c=false:=by simpa [bV] using hf
   refine⟨fun h=>(by cases h),fun h=>(by cases h),fun _ i hi k=>?_⟩
   show zK t.length 20 (ay t (aZ c).1) i k↔zK t.length 20 (ay t c) i k
   simp only[zK,if_neg (show ¬(20=19) by decide),if_true]
   rw[ih.f1 hn i hi]
  ·have hn:aB c=true:=by simpa [bV] using hf
   refine⟨fun h=>(by cases h),fun h=>(by cases h),fun _ i hi k=>?_⟩
   show zK t.length 23 (ay t (aZ c).1) i k↔zK t.length 23 (ay t c) i k
   simp only[zK,if_neg (show ¬(23=19) by decide),if_neg (show ¬(23=20) by decide)]
   have hst:∀m i k,i<=t.length->(gZ (ay t (aZ c).1).2 m i k↔gZ (ay t c).2 m i k):=by
    intro m
    induction m with
    |zero=>intro i k _;exact Iff.rfl
    |succ m im=>
     intro i k hi
     constructor
     ·rintro⟨j,h1,h2⟩
      have h1':=(ih.w1 hn i hi j).1 h1;exact⟨j,h1',(im j k (hwi i j hi h1').2).1 h2⟩
     ·rintro⟨j,h1,h2⟩
      exact⟨j,(ih.w1 hn i hi j).2 h1,(im j k (hwi i j hi h1).2).2 h2⟩
   exact exists_congr fun m=>hst m i k hi
 | .bin (op,p) c d,h=>by
  obtain⟨rfl,hc,hd,hf,ho⟩:=qt h;have ih:=TL t c hc;have jh:=TL t d hd;have hwi:=ET t c hc;rcases ho with rfl|rfl|rfl|rfl|rfl|rfl|rfl|rfl|rfl|rfl
  ·have hn:aB c=false/\aB d=false:=by simpa [bf] using hf
   refine⟨fun _ i hi=>?_,fun _ i hi=>?_,fun h=>(by cases h)⟩
   ·show cZ t.length 11 (ay t (aZ c).1) (ay t (aZ d).1) i↔cZ t.length 11 (ay t c) (ay t d) i
    simp only[cZ,if_true];rw[ih.f1 hn.1 i hi,jh.f1 hn.2 i hi]
   ·show cZ t.length 12 (ay t (aZ c).2) (ay t (aZ d).2) i↔¬cZ t.length 11 (ay t c) (ay t d) i
    simp only[cZ,if_neg (show ¬(12=11) by decide),if_true];rw[ih.f2 hn.1 i hi,jh.f2 hn.2 i hi]
    by_cases hx:(ay t c).1 i<;>simp[hx]
  ·have hn:aB c=false/\aB d=false:=by simpa [bf] using hf
   refine⟨fun _ i hi=>?_,fun _ i hi=>?_,fun h=>(by cases h)⟩
   ·show cZ t.length 12 (ay t (aZ c).1) (ay t (aZ d).1) i↔cZ t.length 12 (ay t c) (ay t d) i
    simp only[cZ,if_neg (show ¬(12=11) by decide),if_true];rw[ih.f1 hn.1 i hi,jh.f1 hn.2 i hi]
   ·show cZ t.length 11 (ay t (aZ c).2) (ay t (aZ d).2) i↔¬cZ t.length 12 (ay t c) (ay t d) i
    simp only[cZ,if_neg (show ¬(12=11) by decide),if_true];rw[ih.f2 hn.1 i hi,jh.f2 hn.2 i hi]
    exact not_or.symm
  ·have hn:aB c=false/\aB d=false:=by simpa [bf] using hf
   refine⟨fun _ i hi=>?_,fun _ i hi=>?_,fun h=>(by cases h)⟩
   ·show cZ t.length 12 (ay t (aZ c).2) (ay t (aZ d).1) i↔cZ t.length 13 (ay t c) (ay t d) i
    simp only[cZ,if_neg (show ¬(12=11) by decide),if_neg (show ¬(13=11) by decide),if_neg (show ¬(13=12) by decide),if_true];rw[ih.f2 hn.1 i hi,jh.f1 hn.2 i hi]
    by_cases hx:(ay t c).1 i<;>simp[hx]
   ·show cZ t.length 11 (ay t (aZ c).1) (ay t (aZ d).2) i↔¬cZ t.length 13 (ay t c) (ay t d) i
    simp only[cZ,if_neg (show ¬(13=11) by decide),if_neg (show ¬(13=12) by decide),if_true];rw[ih.f1 hn.1 i hi,jh.f2 hn.2 i hi]
    by_cases hx:(ay t c).1 i<;>simp[hx]
  ·have hn:aB c=false/\aB d=false:=by simpa [bf] using hf
   refine⟨fun _ i hi=>?_,fun _ i hi=>?_,fun h=>(by cases h)⟩
   ·show cZ t.length 12 (bH t 11 0 [ay t (aZ c).1,ay t (aZ d).1]) (bH t 11 0 [ay t (aZ c).2,ay t (aZ d).2]) i↔cZ t.length 14 (ay t c) (ay t d) i
    simp only[bH,cZ,if_neg (show ¬(12=11) by decide),if_neg (show ¬(14=11) by decide),if_neg (show ¬(14=12) by decide),if_neg (show ¬(14=13) by decide),if_true]
    rw[ih.f1 hn.1 i hi,jh.f1 hn.2 i hi,ih.f2 hn.1 i hi,jh.f2 hn.2 i hi];by_cases hx:(ay t c).1 i<;>by_cases hy:(ay t d).1 i<;>simp[hx,hy]
   ·show cZ t.length 12 (bH t 11 0 [ay t (aZ c).1,ay t (aZ d).2]) (bH t 11 0 [ay t (aZ c).2,ay t (aZ d).1]) i↔¬cZ t.length 14 (ay t c) (ay t d) i
    simp only[bH,cZ,if_neg (show ¬(12=11) by decide),if_neg (show ¬(14=11) by decide),if_neg (show ¬(14=12) by decide),if_neg (show ¬(14=13) by decide),if_true]
    rw[ih.f1 hn.1 i hi,jh.f1 hn.2 i hi,ih.f2 hn.1 i hi,jh.f2 hn.2 i hi];by_cases hx:(ay t c).1 i<;>by_cases hy:(ay t d).1 i<;>simp[hx,hy]
  ·have hn:aB c=false/\aB d=false:=by simpa [bf] using hf
   exact⟨fun _ i hi=>(TJ (ih.f1 hn.1) (jh.f1 hn.2) i).1,fun _ i hi=>(TK (ih.f2 hn.1) (jh.f2 hn.2) i).2,fun h=>(by cases h)⟩
  ·have hn:aB c=false/\aB d=false:=by simpa [bf] using hf
   exact⟨fun _ i hi=>(TJ (ih.f1 hn.1) (jh.f1 hn.2) i).2,fun _ i hi=>(TK (ih.f2 hn.1) (jh.f2 hn.2) i).1,fun h=>(by cases h)⟩
  ·have hn:aB c=true/\aB d=false:=by simpa [bf] using hf
   refine⟨fun _ i hi=>?_,fun _ i hi=>?_,fun h=>(by cases h)⟩
   ·show cZ t.length 17 (ay t (aZ c).1) (ay t (aZ d).1) i↔cZ t.length 17 (ay t c) (ay t d) i
    simp[cZ]
    constructor
    ·rintro⟨k,h1,h2⟩
     have h1':=(ih.w1 hn.1 i hi k).1 h1;exact⟨k,h1',(jh.f1 hn.2 k (hwi i k hi h1').2).1 h2⟩
    ·rintro⟨k,h1,h2⟩
     exact⟨k,(ih.w1 hn.1 i hi k).2 h1,(jh.f1 hn.2 k (hwi i k hi h1).2).2 h2⟩
   ·show cZ t.length 18 (ay t (aZ c).1) (ay t (aZ d).2) i↔¬cZ t.length 17 (ay t c) (ay t d) i
    simp[cZ]
    constructor
    ·intro h k h1
     exact(jh.f2 hn.2 k (hwi i k hi h1).2).1 (h k ((ih.w1 hn.1 i hi k).2 h1))
    ·intro h k h1
     have h1':=(ih.w1 hn.1 i hi k).1 h1;exact(jh.f2 hn.2 k (hwi i k hi h1').2).2 (h k h1')
  ·have hn:aB c=true/\aB d=false:=by simpa [bf] using hf
   refine⟨fun _ i hi=>?_,fun _ i hi=>?_,fun h=>(by cases h)⟩
   ·show cZ t.length 18 (ay t (aZ c).1) (ay t (aZ d).1) i↔cZ t.length 18 (ay t c) (ay t d) i
    simp[cZ]
    constructor
    ·intro h k h1
     exact(jh.f1 hn.2 k (hwi i k hi h1).2).1 (h k ((ih.w1 hn.1 i hi k).2 h1))
    ·intro h k h1
     have h1':=(ih.w1 hn.1 i hi k).1 h1;exact(jh.f1 hn.2 k (hwi i k hi h1').2).2 (h k h1')
   ·show cZ t.length 17 (ay t (aZ c).1) (ay t (aZ d).2) i↔¬cZ t.length 18 (ay t c) (ay t d) i
    simp[cZ]
    constructor
    ·rintro⟨k,h1,h2⟩
     have h1':=(ih.w1 hn.1 i hi k).1 h1;exact⟨k,h1',(jh.f2 hn.2 k (hwi i k hi h1').2).1 h2⟩
    ·rintro⟨k,h1,h2⟩
     exact⟨k,(ih.w1 hn.1 i hi k).2 h1,(jh.f2 hn.2 k (hwi i k hi h1).2).2 h2⟩
  ·have hn:aB c=true/\aB d=true:=by simpa [bf] using hf
   refine⟨fun h=>(by cases h),fun h=>(by cases h),fun _ i hi k=>?_⟩
   show vJ 21 (ay t (aZ c).1) (ay t (aZ d).1) i k↔vJ 21 (ay t c) (ay t d) i k
   simp only[vJ,if_true];rw[ih.w1 hn.1 i hi k,jh.w1 hn.2 i hi k]
  ·have hn:aB c=true/\aB d=true:=by simpa [bf] using hf
   refine⟨fun h=>(by cases h),fun h=>(by cases h),fun _ i hi k=>?_⟩
   show vJ 22 (ay t (aZ c).1) (ay t (aZ d).1) i k↔vJ 22 (ay t c) (ay t d) i k
   simp only[vJ,if_neg (show ¬(22=21) by decide)]
   constructor
   ·rintro⟨j,h1,h2⟩
    have h1':=(ih.w1 hn.1 i hi j).1 h1;exact⟨j,h1',(jh.w1 hn.2 j (hwi i j hi h1').2 k).1 h2⟩
   ·rintro⟨j,h1,h2⟩
    exact⟨j,(ih.w1 hn.1 i hi j).2 h1,(jh.w1 hn.2 j (hwi i j hi h1).2 k).2 h2⟩
def bC:Tr->Bool
 | .leaf (op,_)=>op != 3
 | .un (op,_) c=>if op=6 then (match c with | .leaf (o,_)=>o==2|_=>false) else (op==7 || op==8 || op==19 || op==20 || op==23)&&bC c
 | .bin (op,_) c d=>(op != 13&&op != 14)&&(bC c&&bC d)
theorem zL:∀T:Tr,T.WF->bC (aZ T).1=true/\(aB T=false->bC (aZ T).2=true)
 | .leaf (op,p),h=>by
  rcases qG h with⟨rfl,hp⟩|⟨rfl,rfl|rfl|rfl|rfl|rfl⟩<;>exact⟨rfl,fun _=>rfl⟩
 | .un (op,p) c,h=>by
  obtain⟨rfl,hc,hf,ho⟩:=qw h;have ih:=zL c hc;rcases ho with rfl|rfl|rfl|rfl|rfl|rfl|rfl|rfl
  ·have hn:aB c=false:=by simpa [bV] using hf
   exact⟨ih.2 hn,fun _=>ih.1⟩
  ·have hn:aB c=false:=by simpa [bV] using hf
   exact⟨by show bC (.un (7,0) _)=true;simp[bC,ih.1],fun _=>by show bC (.un (8,0) _)=true;simp[bC,ih.2 hn]⟩
  ·have hn:aB c=false:=by simpa [bV] using hf
   exact⟨by show bC (.un (8,0) _)=true;simp[bC,ih.1],fun _=>by show bC (.un (7,0) _)=true;simp[bC,ih.2 hn]⟩
  ·have hn:aB c=false:=by simpa [bV] using hf
   exact⟨by show bC (.bin (15,0) _ _)=true;simp[bC,ih.1],fun _=>by show bC (.bin (16,0) _ _)=true;simp[bC,ih.2 hn]⟩
  ·have hn:aB c=false:=by simpa [bV] using hf
   exact⟨by show bC (.bin (16,0) _ _)=true;simp[bC,ih.1],fun _=>by show bC (.bin (15,0) _ _)=true;simp[bC,ih.2 hn]⟩
  ·exact⟨by show bC (.un (19,0) _)=true;simp[bC,ih.1],fun h=>(by cases h)⟩
  ·exact⟨by show bC (.un (20,0) _)=true;simp[bC,ih.1],fun h=>(by cases h)⟩
  ·exact⟨by show bC (.un (23,0) _)=true;simp[bC,ih.1],fun h=>(by cases h)⟩
 | .bin (op,p) c d,h=>by
  obtain⟨rfl,hc,hd,hf,ho⟩:=qt h;have ih:=zL c hc;have jh:=zL d hd;rcases ho with rfl|rfl|rfl|rfl|rfl|rfl|rfl|rfl|rfl|rfl
  ·have hn:aB c=false/\aB d=false:=by simpa [bf] using hf
   exact⟨by show bC (.bin (11,0) _ _)=true;simp[bC,ih.1,jh.1],fun _=>by show bC (.bin (12,0) _ _)=true;simp[bC,ih.2 hn.1,jh.2 hn.2]⟩
  ·have hn:aB c=false/\aB d=false:=by simpa [bf] using hf
   exact⟨by show bC (.bin (12,0) _ _)=true;simp[bC,ih.1,jh.1],fun _=>by show bC (.bin (11,0) _ _)=true;simp[bC,ih.2 hn.1,jh.2 hn.2]⟩
  ·have hn:aB c=false/\aB d=false:=by simpa [bf] using hf
   exact⟨by show bC (.bin (12,0) _ _)=true;simp[bC,ih.2 hn.1,jh.1],fun _=>by show bC (.bin (11,0) _ _)=true;simp[bC,ih.1,jh.2 hn.2]⟩
  ·have hn:aB c=false/\aB d=false:=by simpa [bf] using hf
   exact⟨by show bC (.bin (12,0) (.bin (11,0) _ _) (.bin (11,0) _ _))=true;simp[bC,ih.1,jh.1,ih.2 hn.1,jh.2 hn.2],fun _=>by show bC (.bin (12,0) (.bin (11,0) _ _) (.bin (11,0) _ _))=true;simp[bC,ih.1,jh.1,ih.2 hn.1,jh.2 hn.2]⟩
  ·have hn:aB c=false/\aB d=false:=by simpa [bf] using hf
   exact⟨by show bC (.bin (15,0) _ _)=true;simp[bC,ih.1,jh.1],fun _=>by show bC (.bin (16,0) _ _)=true;simp[bC,ih.2 hn.1,jh.2 hn.2]⟩
  ·have hn:aB c=false/\aB d=false:=by simpa [bf] using hf
   exact⟨by show bC (.bin (16,0) _ _)=true;simp[bC,ih.1,jh.1],fun _=>by show bC (.bin (15,0) _ _)=true;simp[bC,ih.2 hn.1,jh.2 hn.2]⟩
  ·have hn:aB c=true/\aB d=false:=by simpa [bf] using hf
   exact⟨by show bC (.bin (17,0) _ _)=true;simp[bC,ih.1,jh.1],fun _=>by show bC (.bin (18,0) _ _)=true;simp[bC,ih.1,jh.2 hn.2]⟩
  ·have hn:aB c=true/\aB d=false:=by simpa [bf] using hf
   exact⟨by show bC (.bin (18,0) _ _)=true;simp[bC,ih.1,jh.1],fun _=>by show bC (.bin (17,0) _ _)=true;simp[bC,ih.1,jh.2 hn.2]⟩
  ·exact⟨by show bC (.bin (21,0) _ _)=true;simp[bC,ih.1,jh.1],fun h=>(by cases h)⟩
  ·exact⟨by show bC (.bin (22,0) _ _)=true;simp[bC,ih.1,jh.1],fun h=>(by cases h)⟩
theorem Ar:∀T:Tr,T.WF->bC T=true->(aZ T).1=T/\(aB T=false->(aZ (aZ T).2).2=T)
 | .leaf (op,p),h,hk=>by
  rcases qG h with⟨rfl,hp⟩|⟨rfl,rfl|rfl|rfl|rfl|rfl⟩
  ·exact⟨rfl,fun _=>rfl⟩
  ·exact⟨rfl,fun _=>rfl⟩
  ·exact⟨rfl,fun _=>rfl⟩
  ·cases hk
  ·exact⟨rfl,fun _=>rfl⟩
  ·exact⟨rfl,fun _=>rfl⟩
 | .un (op,p) c,h,hk=>by
  obtain⟨rfl,hc,hf,ho⟩:=qw h;rcases ho with rfl|rfl|rfl|rfl|rfl|rfl|rfl|rfl
  ·match c,hk with
   | .leaf (o,q),hk=>
    obtain rfl:o=2:=by simpa [bC] using hk
    exact⟨rfl,fun _=>rfl⟩
  ·have hn:aB c=false:=by simpa [bV] using hf
   have ih:=Ar c hc (by simpa [bC] using hk)
   exact⟨congrArg (Tr.un (7,0)) ih.1,fun _=>congrArg (Tr.un (7,0)) (ih.2 hn)⟩
  ·have hn:aB c=false:=by simpa [bV] using hf
   have ih:=Ar c hc (by simpa [bC] using hk)
   exact⟨congrArg (Tr.un (8,0)) ih.1,fun _=>congrArg (Tr.un (8,0)) (ih.2 hn)⟩
  ·simp[bC]at hk
  ·simp[bC]at hk
  ·have ih:=Ar c hc (by simpa [bC] using hk)
   exact⟨congrArg (Tr.un (19,0)) ih.1,fun h=>(by cases h)⟩
  ·have ih:=Ar c hc (by simpa [bC] using hk)
   exact⟨congrArg (Tr.un (20,0)) ih.1,fun h=>(by cases h)⟩
  ·have ih:=Ar c hc (by simpa [bC] using hk)
   exact⟨congrArg (Tr.un (23,0)) ih.1,fun h=>(by cases h)⟩
 | .bin (op,p) c d,h,hk=>by
  obtain⟨rfl,hc,hd,hf,ho⟩:=qt h
  have hkk:bC c=true/\bC d=true:=by
   have:=hk
   simp[bC]at this
   exact this.2
  have ih:=Ar c hc hkk.1;have jh:=Ar d hd hkk.2;have two:∀(op:Nat){a b a' b':Tr},a=a'->b=b'->Tr.bin (op,0) a b=Tr.bin (op,0) a' b':=fun op a b a' b' h1 h2=>by rw[h1,h2]
  rcases ho with rfl|rfl|rfl|rfl|rfl|rfl|rfl|rfl|rfl|rfl
  ·have hn:aB c=false/\aB d=false:=by simpa [bf] using hf
   exact⟨two 11 ih.1 jh.1,fun _=>two 11 (ih.2 hn.1) (jh.2 hn.2)⟩
  ·have hn:aB c=false/\aB d=false:=by simpa [bf] using hf
   exact⟨two 12 ih.1 jh.1,fun _=>two 12 (ih.2 hn.1) (jh.2 hn.2)⟩
  ·simp[bC]at hk
  ·simp[bC]at hk
  ·have hn:aB c=false/\aB d=false:=by simpa [bf] using hf
   exact⟨two 15 ih.1 jh.1,fun _=>two 15 (ih.2 hn.1) (jh.2 hn.2)⟩
  ·have hn:aB c=false/\aB d=false:=by simpa [bf] using hf
   exact⟨two 16 ih.1 jh.1,fun _=>two 16 (ih.2 hn.1) (jh.2 hn.2)⟩
  ·have hn:aB c=true/\aB d=false:=by simpa [bf] using hf
   exact⟨two 17 ih.1 jh.1,fun _=>two 17 (by rw[ih.1,ih.1]) (jh.2 hn.2)⟩
  ·have hn:aB c=true/\aB d=false:=by simpa [bf] using hf
   exact⟨two 18 ih.1 jh.1,fun _=>two 18 (by rw[ih.1,ih.1]) (jh.2 hn.2)⟩
  ·exact⟨two 21 ih.1 jh.1,fun h=>(by cases h)⟩
  ·exact⟨two 22 ih.1 jh.1,fun h=>(by cases h)⟩
def oD(ts:List Tk):Prop:=∃T:Tr,T.WF/\aB T=false/\bC T=true/\ts=T.flat
open Classical in
noncomputable def bM (ts:List Tk):Nat:=if 2048<ts.length then 3 else if oD ts then 0 else 7
theorem LJ:bM ts=0↔ts.length<=2048/\oD ts:=by
 unfold bM
 split
 ·exact⟨fun h=>(by cases h),fun h=>absurd h.1 (by omega)⟩
 ·split
  ·next h1 h2=>exact⟨fun _=>⟨by omega,h2⟩,fun _=>rfl⟩
  ·next h1 h2=>exact⟨fun h=>(by cases h),fun h=>absurd h.2 h2⟩
def I7(op:Nat):List Nat :=
 if op=3 then [4,1,8,11] else if op<=5 then [op] else if op=6 then [25] else if op=7 then [24,7] else if op=8 then [24,8]
 else if op=9 then [0,24,15] else if op=10 then [1,24,16] else if op=13 then [25,26,12] else if op=14 then [24,26,11,25,27,11,12]
 else if op=19\/op=20\/op=23 then [24,op] else [24,26,op]
def I8(op:Nat):List Nat :=
 if op=0 then [1] else if op=1 then [0] else if op=2 then [2,6] else if op=3 then [5,0,7,12] else if op=4 then [5] else if op=5 then [4]
 else if op=6 then [24] else if op=7 then [25,8] else if op=8 then [25,7] else if op=9 then [1,25,16] else if op=10 then [0,25,15]
 else if op=11 then [25,27,12] else if op=12 then [25,27,11] else if op=13 then [24,27,11] else if op=14 then [24,27,11,25,26,11,12]
 else if op=15 then [25,27,16] else if op=16 then [25,27,15] else if op=17 then [24,27,18] else if op=18 then [24,27,17] else []
def VK(k:Tk)(a:List Kq)(o:Nat):List Tk :=
 if o=24 then (a.getD 0 ([],[])).1 else if o=25 then (a.getD 0 ([],[])).2 else if o=26 then (a.getD 1 ([],[])).1 else if o=27 then (a.getD 1 ([],[])).2
 else if o=2 then [k] else [(o,0)]
def TM(ops:List Nat)(k:Tk)(a:List Kq):List Tk:=ops.flatMap (VK k a)
def GR(k:Tk)(a:List Kq):Kq:=(TM (I7 k.1) k a,TM (I8 k.1) k a)
def oG(st:List Kq)(k:Tk):List Kq:=st.take (st.length-gu k)++[GR k (st.drop (st.length-gu k))]
def jS(ts:List Tk)(st:List Kq):List Kq:=ts.foldl oG st
theorem TN(a b:List Tk)(st:List Kq):jS (a++b) st=jS b (jS a st):=by unfold jS;rw[List.foldl_append]
def rZ(T:Tr):Kq:=((aZ T).1.flat,if aB T then [] else (aZ T).2.flat)
theorem VL(h:(Tr.leaf (op,p)).WF):GR (op,p) []=rZ (.leaf (op,p)):=by
 rcases qG h with⟨rfl,hp⟩|⟨rfl,rfl|rfl|rfl|rfl|rfl⟩<;>rfl
theorem VN(h:(Tr.un (op,p) c).WF):GR (op,p) [rZ c]=rZ (.un (op,p) c):=by
 obtain⟨rfl,hc,hf,ho⟩:=qw h;rcases ho with rfl|rfl|rfl|rfl|rfl|rfl|rfl|rfl<;>simp[bV]at hf<;>simp[GR,TM,VK,I7,I8,rZ,aZ,Tr.flat,VG,dw,hf]
theorem VO(h:(Tr.bin (op,p) c d).WF):GR (op,p) [rZ c,rZ d]=rZ (.bin (op,p) c d):=by
 obtain⟨rfl,hc,hd,hf,ho⟩:=qt h;rcases ho with rfl|rfl|rfl|rfl|rfl|rfl|rfl|rfl|rfl|rfl<;>simp[bf]at hf<;>simp[GR,TM,VK,I7,I8,rZ,aZ,Tr.flat,VH,dw,hf]
def s1(T:Tr):Nat:=(aZ T).1.flat.length
def s2(T:Tr):Nat:=(aZ T).2.flat.length
theorem zP(h:(Tr.leaf (op,p)).WF):s2 (.leaf (op,p))<=2*s1 (.leaf (op,p))/\s1 (.leaf (op,p))<=2*s2 (.leaf (op,p)):=by
 rcases qG h with⟨rfl,hp⟩|⟨rfl,rfl|rfl|rfl|rfl|rfl⟩<;>simp[s1,s2,aZ,Tr.flat]
theorem TP:∀T:Tr,T.WF->aB T=false->s2 T<=2*s1 T/\s1 T<=2*s2 T
 | .leaf (op,p),h,_=>zP h
 | .un (op,p) c,h,hp=>by
  obtain⟨rfl,hc,hf,ho⟩:=qw h;have ih:=TP c hc;unfold s1 s2 at ih ⊢;rcases ho with rfl|rfl|rfl|rfl|rfl|rfl|rfl|rfl<;>simp[bV]at hf<;>simp[VG,dw]at hp<;>(have ih:=ih hf;simp[aZ,Tr.flat];omega)
 | .bin (op,p) c d,h,hp=>by
  obtain⟨rfl,hc,hd,hf,ho⟩:=qt h;have ih:=TP c hc;have jh:=TP d hd;unfold s1 s2 at ih jh ⊢;rcases ho with rfl|rfl|rfl|rfl|rfl|rfl|rfl|rfl|rfl|rfl<;>simp[bf]at hf<;>simp[VH,dw]at hp<;>simp only[hf,forall_const]at ih jh<;>(simp[aZ,Tr.flat];omega)
def wt(T:Tr):Nat:=if aB T then s1 T else min (s1 T) (s2 T)
theorem xB(h:(Tr.un (op,p) c).WF):wt c<=wt (.un (op,p) c):=by
 obtain⟨rfl,hc,hf,ho⟩:=qw h;unfold wt s1 s2;rcases ho with rfl|rfl|rfl|rfl|rfl|rfl|rfl|rfl<;>simp[bV]at hf<;>(simp[VG,dw,aZ,Tr.flat,hf];try omega)
theorem TQ(h:(Tr.bin (op,p) c d).WF):wt c<=wt (.bin (op,p) c d)/\wt d<=wt (.bin (op,p) c d):=by
 obtain⟨rfl,hc,hd,hf,ho⟩:=qt h;unfold wt s1 s2;rcases ho with rfl|rfl|rfl|rfl|rfl|rfl|rfl|rfl|rfl|rfl<;>simp[bf]at hf<;>(simp[VH,dw,aZ,Tr.flat,hf];omega)
theorem NJ{T:Tr}(h:T.WF):(rZ T).1.length<=2*wt T/\(rZ T).2.length<=2*wt T:=by
 unfold rZ wt
 cases hp:aB T with
 |true=>simp[s1];omega
 |false=>
  have:=TP T h hp
  unfold s1 s2 at *;simp
  omega
structure Ej(B:Nat)(st:List Kq)(q:Tk):Prop where
 tk:∃m,bI q=some m
 le:gu q<=st.length
 l1:(GR q (st.drop (st.length-gu q))).1.length<=B
 l2:(GR q (st.drop (st.length-gu q))).2.length<=B
theorem NK:∀T:Tr,T.WF->∀(st:List Kq)(B:Nat),2*wt T<=B->jS T.flat st=st++[rZ T]/\∀k (h:k<T.flat.length),Ej B (jS (T.flat.take k) st) T.flat[k]
 | .leaf (op,p),hT,st,B,hB=>by
  have e:=Ci hT.1;have hd:=Ei st [] 0 rfl;rw[List.append_nil]at hd;have hw:=NJ hT;refine⟨?_,fun k h=>?_⟩
  ·show oG st (op,p)=_
   unfold oG;rw[e,hd.1,hd.2,VL hT]
  ·have hk:k=0:=by simp[Tr.flat]at h;exact h
   subst hk
   show Ej B st (op,p)
   refine⟨⟨0,hT.1⟩,by rw[e];exact Nat.zero_le _,?_,?_⟩
   ·rw[e,hd.1,VL hT];omega
   ·rw[e,hd.1,VL hT];omega
 | .un (op,p) c,hT,st,B,hB=>by
  have e:=Ci hT.1;have hw:=NJ hT;have hwc:=xB hT;obtain⟨h1,h2⟩:=NK c hT.2.2 st B (by omega)
  have hd:=Ei st [rZ c] 1 rfl;refine⟨?_,?_⟩
  ·show jS (c.flat++[(op,p)]) st=_
   rw[TN,h1]
   show oG _ (op,p)=_
   unfold oG;rw[e,hd.1,hd.2,VN hT]
  ·show ∀k (h:k<(c.flat++[(op,p)]).length),Ej B (jS ((c.flat++[(op,p)]).take k) st) (c.flat++[(op,p)])[k]
   refine VF (P:=fun l x=>Ej B (jS l st) x) h2 fun k h=>?_
   have hk:k=0:=by simp at h;exact h
   subst hk
   show Ej B (jS (c.flat++[]) st) (op,p)
   rw[List.append_nil,h1];refine⟨⟨1,hT.1⟩,by rw[e];simp,?_,?_⟩
   ·rw[e,hd.1,VN hT];omega
   ·rw[e,hd.1,VN hT];omega
 | .bin (op,p) c d,hT,st,B,hB=>by
  have e:=Ci hT.1;have hw:=NJ hT;have hwc:=TQ hT;obtain⟨h1,h2⟩:=NK c hT.2.2.1 st B (by omega)
  obtain⟨h3,h4⟩:=NK d hT.2.2.2 (st++[rZ c]) B (by omega)
  have hd:=Ei st [rZ c,rZ d] 2 rfl;rw[show st++[rZ c,rZ d]=st++[rZ c]++[rZ d] by simp]at hd
  have h5:jS (c.flat++d.flat) st=st++[rZ c]++[rZ d]:=by rw[TN,h1,h3]
  refine⟨?_,?_⟩
  ·show jS (c.flat++d.flat++[(op,p)]) st=_
   rw[TN,h5]
   show oG _ (op,p)=_
   unfold oG;rw[e,hd.1,hd.2,VO hT]
  ·show ∀k (h:k<(c.flat++d.flat++[(op,p)]).length),Ej B (jS ((c.flat++d.flat++[(op,p)]).take k) st) (c.flat++d.flat++[(op,p)])[k]
   refine VF (P:=fun l x=>Ej B (jS l st) x) (VF (P:=fun l x=>Ej B (jS l st) x) h2 fun k h=>?_) fun k h=>?_
   ·show Ej B (jS (c.flat++d.flat.take k) st) d.flat[k]
    rw[TN,h1];exact h4 k h
   ·have hk:k=0:=by simp at h;exact h
    subst hk
    show Ej B (jS (c.flat++d.flat++[]) st) (op,p)
    rw[List.append_nil,h5];refine⟨⟨2,hT.1⟩,by rw[e];simp,?_,?_⟩
    ·rw[e,hd.1,VO hT];omega
    ·rw[e,hd.1,VO hT];omega
def gV(b:Bool)(op p:Nat):Bool :=
 if op=2 then decide (p<8) else if op=3\/op=9\/op=10\/op=13\/op=14 then false else if op=6/\b=false then false else decide (op<=23)&&decide (p=0)
def dD:Bool->List Tk->Bool
 |_,[]=>true
 |b,k::r=>gV b k.1 k.2&&dD (decide (k.1=2)) r
def gW(b:Bool)(l:List Tk):Bool:=match l.getLast? with|none=>b|some k=>decide (k.1=2)
theorem VP(b:Bool)(l:List Tk)(k:Tk):gW b (l++[k])=decide (k.1=2):=by simp[gW]
theorem zR(b:Bool)(l:List Tk)(k:Tk):gW b (k::l)=gW (decide (k.1=2)) l:=by
 cases l with
 |nil=>rfl
 |cons x l=>
  have:∃y,(x::l).getLast? = some y:=⟨_,List.getLast?_eq_some_getLast (by simp)⟩
  obtain⟨y,hy⟩:=this;simp[gW,List.getLast?_cons_cons,hy]
theorem LK:∀(b:Bool)(l r:List Tk),dD b (l++r)=(dD b l&&dD (gW b l) r)
 |b,[],r=>by simp[dD,gW]
 |b,k::l,r=>by
  show (gV b k.1 k.2&&dD _ (l++r))=((gV b k.1 k.2&&dD _ l)&&_)
  rw[LK,zR,Bool.and_assoc]
theorem NM(b:Bool)(k:Tk):dD b [k]=gV b k.1 k.2:=by simp[dD]
def zM:Tr->Bool
 | .leaf k=>decide (k.1=2)
 | .un k _=>decide (k.1=2)
 | .bin k _ _=>decide (k.1=2)
theorem LM:∀T:Tr,T.WF->∀b,dD b T.flat=bC T/\gW b T.flat=zM T
 | .leaf (op,p),h,b=>by
  rcases qG h with⟨rfl,hp⟩|⟨rfl,rfl|rfl|rfl|rfl|rfl⟩
  ·refine⟨?_,rfl⟩
   show dD b [(2,p)]=true
   rw[NM];simp[gV];omega
  all_goals exact⟨by show dD b [_]=_;rw[NM];simp[gV,bC],rfl⟩
 | .un (op,p) c,h,b=>by
  obtain⟨rfl,hc,hf,ho⟩:=qw h;have ih:=LM c hc b;refine⟨?_,by show gW b (c.flat++_)=_;rw[VP];rfl⟩
  show dD b (c.flat++[(op,0)])=_
  rw[LK,ih.1,ih.2,NM];rcases ho with rfl|rfl|rfl|rfl|rfl|rfl|rfl|rfl
  ·match c,hc with
   | .leaf (o,q),_=>by_cases e:o=2<;>simp[gV,bC,zM,e]
   | .un (o,q) c,hc=>
    obtain⟨_,_,_,ho⟩:=qw hc;have e:¬o=2:=by omega
    simp[gV,bC,zM,e]
   | .bin (o,q) c d,hc=>
    obtain⟨_,_,_,_,ho⟩:=qt hc;have e:¬o=2:=by omega
    simp[gV,bC,zM,e]
  all_goals simp[gV,bC]
 | .bin (op,p) c d,h,b=>by
  obtain⟨rfl,hc,hd,hf,ho⟩:=qt h;have ih:=LM c hc b;have jh:=LM d hd;refine⟨?_,by show gW b (c.flat++d.flat++_)=_;rw[VP];rfl⟩
  show dD b (c.flat++d.flat++[(op,0)])=_
  rw[LK,LK,ih.1,(jh _).1,NM];rcases ho with rfl|rfl|rfl|rfl|rfl|rfl|rfl|rfl|rfl|rfl<;>simp[gV,bC]
def kd(p:Pt):Nat:=if p.path then 2 else if p.plain then 1 else 0
def Au(k want:Nat):Bool:=decide (k=want) || (decide (k=1)&&decide (want=0))
def iL(op:Nat)(a:List Nat):Nat :=
 if op<=2 then 1 else if op<=5 then 0 else if op=6 then 1 else if op<=8 then 0 else if op=11\/op=12 then (if a.getD 0 0=1/\a.getD 1 0=1 then 1 else 0) else if op<=18 then 0 else 2
def lI(op:Nat)(a:List Nat):Bool :=
 if op<=5 then true else if op=6 then decide (a.getD 0 0=1) else if op<=8 then Au (a.getD 0 0) 0 else if op<=16 then Au (a.getD 0 0) 0&&Au (a.getD 1 0) 0
 else if op<=18 then decide (a.getD 0 0=2)&&Au (a.getD 1 0) 0 else if op=19 then decide (a.getD 0 0=1) else if op=20 then Au (a.getD 0 0) 0 else if op=23 then decide (a.getD 0 0=2)
 else decide (a.getD 0 0=2)&&decide (a.getD 1 0=2)
def iH(op:Nat):Nat:=if op<=5 then 0 else if op<=10\/op=19\/op=20\/op=23 then 1 else 2
theorem TS(op:Nat):(iH op=0/\op<=5)\/(iH op=1/\5<op/\(op<=10\/op=19\/op=20\/op=23))\/(iH op=2/\5<op/\¬(op<=10\/op=19\/op=20\/op=23)):=by
 unfold iH
 split
 ·exact Or.inl ⟨rfl,by assumption⟩
 ·split
  ·exact Or.inr (Or.inl ⟨rfl,by omega,by assumption⟩)
  ·exact Or.inr (Or.inr ⟨rfl,by omega,by assumption⟩)
theorem NP(h:0=iH op)(n3:op≠3):op=0\/op=1\/op=2\/op=4\/op=5:=by rcases TS op with⟨h1,h2⟩|⟨h1,h2⟩|⟨h1,h2⟩<;>omega
theorem NQ(h:1=iH op)(n6:op≠6)(n9:op≠9)(n10:op≠10):op=7\/op=8\/op=19\/op=20\/op=23:=by rcases TS op with⟨h1,h2⟩|⟨h1,h2⟩|⟨h1,h2⟩<;>omega
theorem NR(h:2=iH op)(h23:op<=23)(n13:op≠13)(n14:op≠14):op=11\/op=12\/op=15\/op=16\/op=17\/op=18\/op=21\/op=22:=by rcases TS op with⟨h1,h2⟩|⟨h1,h2⟩|⟨h1,h2⟩<;>omega
theorem TT(op:Nat):iH op<=2:=by rcases TS op with⟨h1,h2⟩|⟨h1,h2⟩|⟨h1,h2⟩<;>omega
def su:List Tk->List Nat->Option (List Nat)
 | [],st=>some st
 |k::r,st=>if st.length<iH k.1 then none else if lI k.1 (st.drop (st.length-iH k.1))=true then su r (st.take (st.length-iH k.1)++[iL k.1 (st.drop (st.length-iH k.1))]) else none
theorem VQ{b:Bool}(h:gV b op p=true):bI (op,p)=some (iH op)/\op<=23/\op≠3/\op≠9/\op≠10/\op≠13/\op≠14/\(op=6->b=true):=by
 have hs:(op=2/\p<8)\/(op≠2/\op<=23/\p=0/\op≠3/\op≠9/\op≠10/\op≠13/\op≠14/\(op=6->b=true)):=by
  unfold gV at h
  split at h
  ·exact Or.inl ⟨by assumption,by simpa using h⟩
  ·split at h
   ·cases h
   ·split at h
    ·cases h
    ·rename_i h1 h2 h3
     simp at h
     refine Or.inr ⟨h1,h.1,h.2,by omega,by omega,by omega,by omega,by omega,fun e=>?_⟩
     cases b with
     |true=>rfl
     |false=>exact absurd ⟨e,rfl⟩ h3
 have h1:¬(23<op\/(op≠2/\p≠0)\/(op=2/\7<p)):=by rcases hs with⟨h1,h2⟩|⟨h1,h2,h3,_⟩<;>omega
 refine⟨?_,by omega,?_,?_,?_,?_,?_,?_⟩
 ·unfold bI iH
  dsimp only
  rw[if_neg h1]
  split
  ·rfl
  ·split<;>rfl
 all_goals rcases hs with⟨e1,e2⟩|⟨e1,e2,e3,e4,e5,e6,e7,e8,e9⟩<;>first|assumption|omega
theorem VR(p:Pt)(h:vI p):(kd p=2/\p.path=true/\p.plain=false)\/(kd p=1/\p.path=false/\p.plain=true)\/(kd p=0/\p.path=false/\p.plain=false):=by
 unfold vI at h;unfold kd
 cases h1:p.path<;>cases h2:p.plain<;>simp_all
theorem Ab{x:Pt}(h:vI x)(ho:op=7\/op=8\/op=19\/op=20\/op=23\/(op=6/\kd x=1))(i p:Nat):lI op [kd x]=bT op [x]/\(bT op [x]=true->iL op [kd x]=kd (dZ (op,p) [x] i)):=by
 rcases VR x h with⟨e,e1,e2⟩|⟨e,e1,e2⟩|⟨e,e1,e2⟩<;>rw[e]at ho ⊢<;>rcases ho with rfl|rfl|rfl|rfl|rfl|⟨rfl,h0⟩<;>first|(exact absurd h0 (by decide))|(simp[lI,iL,bT,dZ,kd,Au,dw,aU,e1,e2])
theorem An{x y:Pt}(h:vI x)(h':vI y)(ho:op=11\/op=12\/op=15\/op=16\/op=17\/op=18\/op=21\/op=22)(i p:Nat):lI op [kd x,kd y]=bT op [x,y]/\(bT op [x,y]=true->iL op [kd x,kd y]=kd (dZ (op,p) [x,y] i)):=by
 rcases VR x h with⟨e,e1,e2⟩|⟨e,e1,e2⟩|⟨e,e1,e2⟩<;>rcases VR y h' with⟨f,f1,f2⟩|⟨f,f1,f2⟩|⟨f,f1,f2⟩<;>rw[e,f]<;>rcases ho with rfl|rfl|rfl|rfl|rfl|rfl|rfl|rfl<;>simp[lI,iL,bT,dZ,kd,Au,dw,aU,e1,e2,f1,f2]
theorem Ao(ho:op=0\/op=1\/op=2\/op=4\/op=5)(i:Nat):lI op []=true/\bT op []=true/\iL op []=kd (dZ (op,p) [] i):=by
 rcases ho with rfl|rfl|rfl|rfl|rfl<;>simp[lI,iL,bT,dZ,kd,dw,aU]
theorem VT:∀(l:List Tk)(b:Bool)(i:Nat)(st:List Pt),dD b l=true->(∀x∈st,vI x)->(b=true->∃r x,st=r++[x]/\kd x=1)->su l (st.map kd)=(dG l i st).map fun x=>x.2.map kd
 | [],_,_,st,_,_,_=>rfl
 | (op,p)::r,b,i,st,hf,hs,hb=>by
  have hf':(gV b op p&&dD (decide (op=2)) r)=true:=hf;rw[Bool.and_eq_true]at hf';obtain⟨hf1,hf2⟩:=hf';obtain⟨ht,h23,n3,n9,n10,n13,n14,n6⟩:=VQ hf1;unfold su dG;rw[ht];dsimp only
  rw[List.length_map];by_cases hl:st.length<iH op
  ·rw[if_pos hl,if_pos hl];rfl
  rw[if_neg hl,if_neg hl,<-List.map_drop,<-List.map_take];have hsd:∀x∈st.drop (st.length-iH op),vI x:=fun x hx=>hs x (List.mem_of_mem_drop hx)
  have hst:∀x∈st.take (st.length-iH op),vI x:=fun x hx=>hs x (List.mem_of_mem_take hx)
  have hal:(st.drop (st.length-iH op)).length=iH op:=by simp;omega
  have h6:op=6->∃x,st.drop (st.length-iH op)=[x]/\kd x=1:=fun e=>by
   obtain⟨r',x,e1,e2⟩:=hb (n6 e);refine⟨x,?_,e2⟩
   subst e1 e;exact(Ei r' [x] 1 rfl).1
  generalize st.drop (st.length-iH op)=a at *;generalize st.take (st.length-iH op)=rest at *
  have key:lI op (a.map kd)=bT op a/\(bT op a=true->iL op (a.map kd)=kd (dZ (op,p) a i)):=by
   match a,hal,hsd,h6 with
   | [],hal,_,_=>
    have:=Ao (p:=p) (NP hal n3) i
    exact⟨this.1.trans this.2.1.symm,fun _=>this.2.2⟩
   | [x],hal,hsd,h6=>
    have h7:op=7\/op=8\/op=19\/op=20\/op=23\/(op=6/\kd x=1):=by
     by_cases e:op=6
     ·obtain⟨y,e1,e2⟩:=h6 e
      injection e1 with e1 _;subst e1;exact Or.inr (Or.inr (Or.inr (Or.inr (Or.inr ⟨e,e2⟩))))
     ·rcases NQ hal e n9 n10 with e|e|e|e|e
      ·exact Or.inl e
      ·exact Or.inr (Or.inl e)
      ·exact Or.inr (Or.inr (Or.inl e))
      ·exact Or.inr (Or.inr (Or.inr (Or.inl e)))
      ·exact Or.inr (Or.inr (Or.inr (Or.inr (Or.inl e))))
    exact Ab (hsd x (by simp)) h7 i p
   | [x,y],hal,hsd,_=>
    exact An (hsd x (by simp)) (hsd y (by simp)) (NR hal h23 n13 n14) i p
   |_::_::_::_,hal,_,_=>have:=TT op;simp at hal;omega
  rw[key.1];by_cases hfit:bT op a=true
  ·rw[if_pos hfit,if_pos hfit,key.2 hfit,show rest.map kd++[kd (dZ (op,p) a i)]=(rest++[dZ (op,p) a i]).map kd by simp]
   rw[VT r _ (i+1) (rest++[dZ (op,p) a i]) hf2 ?_ ?_]
   ·cases dG r (i+1) (rest++[dZ (op,p) a i])<;>rfl
   ·intro x hx
    rcases List.mem_append.1 hx with hx|hx
    ·exact hst x hx
    ·simp at hx;subst hx;exact zm _ _ _
   ·intro e
    simp at e
    subst e;refine⟨rest,_,rfl,?_⟩
    match a,hal with
    | [],_=>rfl
  ·rw[if_neg hfit,if_neg hfit];rfl
def nV(ts:List Tk):Bool:=match su ts [] with|some [x]=>Au x 0|_=>false
theorem NS(ts:List Tk):oD ts↔dD false ts=true/\nV ts=true:=by
 constructor
 ·rintro⟨T,hT,hp,hk,rfl⟩
  have h1:dD false T.flat=true:=((LM T hT false).1).trans hk;refine⟨h1,?_⟩
  unfold nV;have:=VT T.flat false 0 [] h1 (fun x hx=>(by simp at hx)) (fun h=>(by cases h))
  rw[TG.2 ⟨T,hT,rfl,rfl,rfl⟩]at this;rw[show su T.flat []=some [kd (T.part 0)] from this];have hp':(T.part 0).path=false:=hp;simp[kd,hp',Au]
 ·rintro⟨h1,h2⟩
  unfold nV at h2;have:=VT ts false 0 [] h1 (fun x hx=>(by simp at hx)) (fun h=>(by cases h))
  rw[show su ts []=_ from this]at h2
  cases hr:dG ts 0 [] with
  |none=>rw[hr]at h2;simp at h2
  |some x=>
   obtain⟨all,st⟩:=x;rw[hr]at h2
   match st,h2,hr with
   | [],h2,_=>simp at h2
   | [p],h2,hr=>
    obtain⟨T,hT,rfl,rfl,rfl⟩:=TG.1 hr;refine⟨T,hT,?_,?_,rfl⟩
    ·cases hb:aB T with
     |false=>rfl
     |true=>
      unfold aB at hb;simp[kd,hb,Au]at h2
    ·rw[<-(LM T hT false).1];exact h1
   |_::_::_,h2,_=>simp at h2
end Go.Proofs.YtoioiellaomonaaGreatDoor
