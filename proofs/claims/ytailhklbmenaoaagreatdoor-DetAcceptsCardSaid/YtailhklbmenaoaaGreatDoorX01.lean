/- Texts of the proof, put together: what it uses. -/
import Derived.WalkKit
import Derived.Laws.BitsAllLaws
set_option maxRecDepth 100000
set_option maxHeartbeats 16000000
namespace Go.Proofs.YtailhklbmenaoaaGreatDoor
abbrev Tk:=Nat×Nat
structure Pt where
 path:Bool
 plain:Bool
 dep:Nat
 frm:Nat
def takesN (t:Tk):Option Nat :=
 if 23<t.1\/(t.1≠2/\t.2≠0)\/(t.1=2/\7<t.2) then none
 else if t.1<=5 then some 0
 else if t.1<=10\/t.1=19\/t.1=20\/t.1=23 then some 1
 else some 2
theorem qg5{t:Tk}{n:Nat}(h:takesN t=some n):n<=2:=by
 unfold takesN at h
 split at h
 ·cases h
 ·split at h
  ·cases h;decide
  ·split at h<;>(cases h;decide)
def isPathB (op:Nat):Bool:=decide (19<=op)
def plainB (op:Nat):Bool:=decide (op<=2) || decide (op=6) || (decide (11<=op)&&decide (op<=14))
def fitsP (op:Nat) (a:List Pt):Bool :=
 if op=17\/op=18 then (match a with | [x,y]=>x.path && !y.path|_=>false)
 else if op=19 then (match a with | [x]=>!x.path&&x.plain|_=>false)
 else if op=21\/op=22 then (match a with | [x,y]=>x.path&&y.path|_=>false)
 else if op=23 then (match a with | [x]=>x.path|_=>false)
 else a.all fun x=>!x.path
def putP (t:Tk) (a:List Pt) (i:Nat):Pt :=
 ⟨isPathB t.1,plainB t.1&&a.all (·.plain),a.foldl (fun d x=>max d (x.dep+1)) 1,match a with | []=>i|x::_=>x.frm⟩
def readP:List Tk->Nat->List Pt->Option (List Pt×List Pt)
 | [],_,st=>some ([],st)
 |t::r,i,st=>
  match takesN t with
  |none=>none
  |some n=>
   if st.length<n then none
   else if fitsP t.1 (st.drop (st.length-n)) then
    (readP r (i+1) (st.take (st.length-n)++[putP t (st.drop (st.length-n)) i])).map fun x=>(putP t (st.drop (st.length-n)) i::x.1,x.2)
   else none
inductive Tr where
 |leaf (t:Tk):Tr
 |un (t:Tk) (c:Tr):Tr
 |bin (t:Tk) (c d:Tr):Tr
namespace Tr
def flat:Tr->List Tk
 |leaf t=>[t]
 |un t c=>c.flat++[t]
 |bin t c d=>c.flat++d.flat++[t]
def size:Tr->Nat
 |leaf _=>1
 |un _ c=>c.size+1
 |bin _ c d=>c.size+d.size+1
def part:Tr->Nat->Pt
 |leaf t,o=>putP t [] o
 |un t c,o=>putP t [c.part o] (o+c.size)
 |bin t c d,o=>putP t [c.part o,d.part (o+c.size)] (o+c.size+d.size)
def parts:Tr->Nat->List Pt
 |leaf t,o=>[putP t [] o]
 |un t c,o=>c.parts o++[putP t [c.part o] (o+c.size)]
 |bin t c d,o=>c.parts o++d.parts (o+c.size)++[putP t [c.part o,d.part (o+c.size)] (o+c.size+d.size)]
def WF:Tr->Prop
 |leaf t=>takesN t=some 0/\fitsP t.1 []=true
 |un t c=>takesN t=some 1/\fitsP t.1 [c.part 0]=true/\c.WF
 |bin t c d=>takesN t=some 2/\fitsP t.1 [c.part 0,d.part 0]=true/\c.WF/\d.WF
end Tr
theorem q37:∀t:Tr,t.flat.length=t.size
 | .leaf _=>rfl
 | .un _ c=>by simp[Tr.flat,Tr.size,q37 c]
 | .bin _ c d=>by simp[Tr.flat,Tr.size,q37 c,q37 d];omega
theorem q2I:∀(t:Tr) (o:Nat),(t.parts o).length=t.size
 | .leaf _,_=>rfl
 | .un _ c,o=>by simp[Tr.parts,Tr.size,q2I c]
 | .bin _ c d,o=>by simp[Tr.parts,Tr.size,q2I c,q2I d];omega
theorem q7z:∀t:Tr,0<t.size
 | .leaf _=>Nat.one_pos
 | .un _ _=>Nat.succ_pos _
 | .bin _ _ _=>Nat.succ_pos _
theorem q1d:∀(t:Tr) (o:Nat),(t.part o).path=(t.part 0).path/\(t.part o).plain=(t.part 0).plain/\(t.part o).dep=(t.part 0).dep
 | .leaf _,_=>⟨rfl,rfl,rfl⟩
 | .un t c,o=>by
  have h:=q1d c o;simp[Tr.part,putP,h.2.1,h.2.2]
 | .bin t c d,o=>by
  have h:=q1d c o;have h2:=q1d d (o+c.size);have h3:=q1d d (0+c.size);simp[Tr.part,putP,h.2.1,h.2.2,h2.2.1,h2.2.2]
  simp at h3
  simp[h3.2.1,h3.2.2]
theorem qaj{op:Nat}{a b:List Pt}(h:a.map (fun x=>(x.path,x.plain))=b.map (fun x=>(x.path,x.plain))):fitsP op a=fitsP op b:=by
 have hl:a.length=b.length:=by simpa using congrArg List.length h
 match a,b,hl with
 | [],[],_=>rfl
 | [x],[y],_=>simp at h;simp[fitsP,h.1,h.2]
 | [x,x'],[y,y'],_=>simp at h;simp[fitsP,h.1.1,h.2.1]
 |x::x'::x''::r,y::y'::y''::r',_=>
  unfold fitsP
  split
  ·rfl
  ·split
   ·rfl
   ·split
    ·rfl
    ·split
     ·rfl
     ·have:∀l:List Pt,l.all (fun x=>!x.path)=(l.map (fun x=>(x.path,x.plain))).all (fun q=>!q.1):=fun l=>by simp[List.all_map,Function.comp_def]
      rw[this,this,h]
theorem qdT{t:Tk}{c:Tr}(o:Nat):fitsP t.1 [c.part o]=fitsP t.1 [c.part 0]:=qaj (by simp[(q1d c o).1,(q1d c o).2.1])
theorem qct{t:Tk}{c d:Tr}(o o':Nat):fitsP t.1 [c.part o,d.part o']=fitsP t.1 [c.part 0,d.part 0]:=qaj (by simp[(q1d c o).1,(q1d c o).2.1,(q1d d o').1,(q1d d o').2.1])
theorem qad(st:List Pt)(x:Pt):(st++[x]).drop ((st++[x]).length-1)=[x]:=by
 rw[List.length_append];simp
theorem q8F(st:List Pt)(x:Pt):(st++[x]).take ((st++[x]).length-1)=st:=by
 rw[List.length_append];simp
theorem q8i(st:List Pt)(x y:Pt):(st++[x]++[y]).drop ((st++[x]++[y]).length-2)=[x,y]:=by
 have:(st++[x]++[y]).length-2=st.length:=by simp
 rw[this,List.append_assoc,List.drop_left];rfl
theorem q8G(st:List Pt)(x y:Pt):(st++[x]++[y]).take ((st++[x]++[y]).length-2)=st:=by
 have:(st++[x]++[y]).length-2=st.length:=by simp
 rw[this,List.append_assoc,List.take_left]
theorem q4f:∀(t:Tr),t.WF->∀(r:List Tk) (i:Nat) (st:List Pt),readP (t.flat++r) i st=(readP r (i+t.size) (st++[t.part i])).map fun x=>(t.parts i++x.1,x.2)
 | .leaf t,h,r,i,st=>by
  show readP (t::r) i st=_
  rw[readP,h.1];have hd:st.drop (st.length-0)=[]:=by simp
  have ht:st.take (st.length-0)=st:=by simp
  simp only[hd,ht,h.2,if_true]
  rw[if_neg (by omega)]
  rfl
 | .un t c,h,r,i,st=>by
  show readP (c.flat++[t]++r) i st=_
  rw[List.append_assoc,q4f c h.2.2]
  show Option.map _ (readP (t::r) _ _)=_
  rw[readP,h.1];simp only[qad,q8F]
  rw[if_neg (by simp),qdT,if_pos h.2.1,Option.map_map]
  simp only[Tr.size,Tr.part,Tr.parts,Nat.add_assoc]
  congr 1
  funext x
  simp
 | .bin t c d,h,r,i,st=>by
  show readP (c.flat++d.flat++[t]++r) i st=_
  rw[List.append_assoc,List.append_assoc,q4f c h.2.2.1,q4f d h.2.2.2]
  show Option.map _ (Option.map _ (readP (t::r) _ _))=_
  rw[readP,h.1];simp only[q8i,q8G]
  rw[if_neg (by simp),qct,if_pos h.2.1,Option.map_map,Option.map_map]
  simp only[Tr.size,Tr.part,Tr.parts,Nat.add_assoc]
  congr 1
  funext x
  simp
def stk:List Tr->Nat->List Pt
 | [],_=>[]
 |t::r,o=>t.part o::stk r (o+t.size)
def flatA (ts:List Tr):List Tk:=ts.flatMap Tr.flat
def sizeA:List Tr->Nat
 | []=>0
 |t::r=>t.size+sizeA r
def partsA:List Tr->Nat->List Pt
 | [],_=>[]
 |t::r,o=>t.parts o++partsA r (o+t.size)
theorem q1e:∀(xs ys:List Tr),sizeA (xs++ys)=sizeA xs+sizeA ys
 | [],ys=>by simp[sizeA]
 |t::r,ys=>by simp only[List.cons_append,sizeA,q1e r ys];omega
theorem q25:∀(xs ys:List Tr) (o:Nat),stk (xs++ys) o=stk xs o++stk ys (o+sizeA xs)
 | [],ys,o=>by simp[stk,sizeA]
 |t::r,ys,o=>by simp only[List.cons_append,stk,q25 r ys,sizeA,Nat.add_assoc]
theorem q1x:∀(xs ys:List Tr) (o:Nat),partsA (xs++ys) o=partsA xs o++partsA ys (o+sizeA xs)
 | [],ys,o=>by simp[partsA,sizeA]
 |t::r,ys,o=>by simp only[List.cons_append,partsA,q1x r ys,sizeA,Nat.add_assoc,List.append_assoc]
theorem qeb:∀(xs:List Tr) (o:Nat),(stk xs o).length=xs.length
 | [],_=>rfl
 |t::r,o=>by simp[stk,qeb r]
theorem q1W(xs ys:List Tr):flatA (xs++ys)=flatA xs++flatA ys:=by simp[flatA]
theorem qeW:∀(l:List Tk) (ts:List Tr) (all s:List Pt),(∀t∈ts,t.WF)->readP l (sizeA ts) (stk ts 0)=some (all,s) ->
  ∃ts':List Tr,(∀t∈ts',t.WF)/\flatA ts'=flatA ts++l/\s=stk ts' 0/\partsA ts' 0=partsA ts 0++all:=by
 intro l
 induction l with
 |nil=>
  intro ts all s hw h;unfold readP at h;injection h with h;injection h with h1 h2;subst h1 h2;exact⟨ts,hw,by simp,rfl,by simp⟩
 |cons t r ih=>
  intro ts all s hw h;rw[readP]at h
  cases ht:takesN t with
  |none=>rw[ht]at h;cases h
  |some n=>
   rw[ht]at h;simp only at h
   by_cases hl:(stk ts 0).length<n
   ·rw[if_pos hl]at h;cases h
   ·rw[if_neg hl]at h
    by_cases hf:fitsP t.1 ((stk ts 0).drop ((stk ts 0).length-n))=true
    ·rw[if_pos hf]at h
     cases hr:readP r (sizeA ts+1) ((stk ts 0).take ((stk ts 0).length-n)++[putP t ((stk ts 0).drop ((stk ts 0).length-n)) (sizeA ts)]) with
     |none=>rw[hr]at h;cases h
     |some x=>
      rw[hr]at h;obtain⟨all',s'⟩:=x;injection h with h;injection h with h1 h2;subst h1 h2;have hn:=qg5 ht;rw[qeb]at hl
      match n,hn with
      | 0,_=>
       have hd:(stk ts 0).drop ((stk ts 0).length-0)=[]:=by simp
       have htk:(stk ts 0).take ((stk ts 0).length-0)=stk ts 0:=by simp
       rw[hd]at hf hr ⊢;rw[htk]at hr;have e1:stk ts 0++[putP t [] (sizeA ts)]=stk (ts++[.leaf t]) 0:=by rw[q25];simp[stk,Tr.part]
       have e2:sizeA ts+1=sizeA (ts++[.leaf t]):=by rw[q1e];rfl
       rw[e1,e2]at hr
       obtain⟨ts',h1,h2,h3,h4⟩:=ih (ts++[.leaf t]) _ _ (fun x hx=>by
        rcases List.mem_append.1 hx with hx|hx
        ·exact hw x hx
        ·rw[List.mem_singleton.1 hx];exact⟨ht,hf⟩) hr
       refine⟨ts',h1,by rw[h2,q1W];simp[flatA,Tr.flat],h3,?_⟩
       rw[h4,q1x];simp[partsA,Tr.parts]
      | 1,_=>
       rcases List.eq_nil_or_concat ts with h0|⟨ts0,c,h0⟩
       ·subst h0;simp at hl
       ·rw[List.concat_eq_append]at h0
        subst h0;have es:stk (ts0++[c]) 0=stk ts0 0++[c.part (sizeA ts0)]:=by rw[q25];simp[stk]
        rw[es,qad]at hf hr ⊢;rw[q8F]at hr;have ez:sizeA (ts0++[c])=sizeA ts0+c.size:=by rw[q1e];rfl
        rw[ez]at hr ⊢;have e1:stk ts0 0++[putP t [c.part (sizeA ts0)] (sizeA ts0+c.size)]=stk (ts0++[.un t c]) 0:=by rw[q25];simp[stk,Tr.part]
        have e2:sizeA ts0+c.size+1=sizeA (ts0++[.un t c]):=by rw[q1e];simp[sizeA,Tr.size];omega
        rw[e1,e2]at hr
        obtain⟨ts',h1,h2,h3,h4⟩:=ih (ts0++[.un t c]) _ _ (fun x hx=>by
         rcases List.mem_append.1 hx with hx|hx
         ·exact hw x (List.mem_append_left _ hx)
         ·rw[List.mem_singleton.1 hx];exact⟨ht,by rw[qdT]at hf;exact hf,hw c (by simp)⟩) hr
        refine⟨ts',h1,by rw[h2,q1W,q1W];simp[flatA,Tr.flat],h3,?_⟩
        rw[h4,q1x,q1x];simp[partsA,Tr.parts]
      | 2,_=>
       rcases List.eq_nil_or_concat ts with h0|⟨ts1,d,h0⟩
       ·subst h0;simp at hl
       ·rw[List.concat_eq_append]at h0
        subst h0;rcases List.eq_nil_or_concat ts1 with h0|⟨ts0,c,h0⟩
        ·subst h0;simp at hl
        ·rw[List.concat_eq_append]at h0
         subst h0;have es:stk (ts0++[c]++[d]) 0=stk ts0 0++[c.part (sizeA ts0)]++[d.part (sizeA ts0+c.size)]:=by rw[q25,q25];simp[stk,q1e,sizeA]
         rw[es,q8i]at hf hr ⊢;rw[q8G]at hr;have ez:sizeA (ts0++[c]++[d])=sizeA ts0+c.size+d.size:=by rw[q1e,q1e];simp[sizeA]
         rw[ez]at hr ⊢;have e1:stk ts0 0++[putP t [c.part (sizeA ts0),d.part (sizeA ts0+c.size)] (sizeA ts0+c.size+d.size)]=stk (ts0++[.bin t c d]) 0:=by rw[q25];simp[stk,Tr.part]
         have e2:sizeA ts0+c.size+d.size+1=sizeA (ts0++[.bin t c d]):=by rw[q1e];simp[sizeA,Tr.size];omega
         rw[e1,e2]at hr
         obtain⟨ts',h1,h2,h3,h4⟩:=ih (ts0++[.bin t c d]) _ _ (fun x hx=>by
          rcases List.mem_append.1 hx with hx|hx
          ·exact hw x (List.mem_append_left _ (List.mem_append_left _ hx))
          ·rw[List.mem_singleton.1 hx];exact⟨ht,by rw[qct]at hf;exact hf,hw c (by simp),hw d (by simp)⟩) hr
         refine⟨ts',h1,by rw[h2,q1W,q1W,q1W];simp[flatA,Tr.flat],h3,?_⟩
         rw[h4,q1x,q1x,q1x];simp[partsA,Tr.parts,q1e,sizeA]
    ·rw[if_neg hf]at h;cases h
theorem q3X{l:List Tk}{all:List Pt}{p:Pt}:readP l 0 []=some (all,[p])↔∃t:Tr,t.WF/\l=t.flat/\all=t.parts 0/\p=t.part 0:=by
 constructor
 ·intro h
  obtain⟨ts,h1,h2,h3,h4⟩:=qeW l [] all [p] (fun t ht=>by simp at ht) h
  match ts,h3 with
  | [],h3=>cases h3
  | [t],h3=>
   injection h3 with h3 _;refine⟨t,h1 t (by simp),?_,?_,h3⟩
   ·simpa [flatA] using h2.symm
   ·simpa [partsA] using h4.symm
  |t::t'::r,h3=>simp[stk]at h3
 ·rintro⟨t,hw,rfl,rfl,rfl⟩
  have:=q4f t hw [] 0 []
  rw[List.append_nil]at this;rw[this];simp[readP]
theorem qeU:∀(t:Tr) (o:Nat),∃q,t.parts o=q++[t.part o]/\q.length+1=t.size
 | .leaf t,o=>⟨[],rfl,rfl⟩
 | .un t c,o=>⟨c.parts o,rfl,by rw[q2I];rfl⟩
 | .bin t c d,o=>⟨c.parts o++d.parts (o+c.size),rfl,by rw[List.length_append,q2I,q2I];rfl⟩
structure Kp where
 k:Nat
 b:Nat
 d:Nat
def kindOf (p:Pt):Nat:=if p.path then 3 else if p.plain then 2 else 1
def kp (p:Pt):Kp:=⟨kindOf p,p.frm,p.dep⟩
def isK (k want:Nat):Bool:=if want=4 then true else if want=1 then (decide (k=1) || decide (k=2)) else decide (k=want)
def overK (p t:Kp):Kp:=⟨if p.k=2/\t.k≠2 then 1 else p.k,t.b,max p.d (t.d+1)⟩
def takesK (op:Nat):List Nat :=
 if op<=5 then [] else if op<=10 then [1] else if op<=16 then [1,1] else if op<=18 then [3,1] else if op=19 then [2] else if op=20 then [1] else if op<=22 then [3,3] else if op=23 then [3] else []
def putsK (op:Nat):Nat :=
 if op<=2 then 2 else if op<=5 then 1 else if op=6 then 2 else if op<=10 then 1 else if op<=14 then 2 else if op<=18 then 1 else if op<=23 then 3 else 0
def mayB (op p:Nat):Bool:=if op=2 then decide (p<8) else (decide (op<=23)&&decide (p=0))
theorem q2y{op:Nat}(h:op<=23):op=0\/op=1\/op=2\/op=3\/op=4\/op=5\/op=6\/op=7\/op=8\/op=9\/op=10\/op=11\/op=12\/op=13\/op=14\/op=15\/op=16\/op=17\/op=18\/op=19\/op=20\/op=21\/op=22\/op=23:=by omega
theorem q2s (op p : Nat) : takesN (op, p) = if mayB op p then some (takesK op).length else none := by
  by_cases h : op ≤ 23
  · rcases q2y h with rfl | rfl | rfl | rfl | rfl | rfl | rfl | rfl | rfl | rfl | rfl | rfl | rfl | rfl | rfl | rfl | rfl | rfl | rfl | rfl | rfl | rfl | rfl | rfl <;>
    first
    | (by_cases hp : p = 0<;>simp [takesN, mayB, takesK, hp]<;>done)
    | (by_cases hp : p < 8
       · simp [takesN, mayB, takesK, hp, show ¬7 < p by omega]
       · simp [takesN, mayB, hp, show 7 < p by omega])
  · have h1 : mayB op p = false := by unfold mayB; rw [if_neg (by omega)]; simp; omega
    unfold takesN
    rw [h1, if_pos (Or.inl (by simpa using h))]; rfl
theorem qg4(op:Nat):(takesK op).length<=2:=by
 unfold takesK
 repeat' split
 all_goals simp
def Sane (p:Pt):Prop:=p.path=true->p.plain=false
theorem qaB(t:Tk)(a:List Pt)(i:Nat):Sane (putP t a i):=by
 intro h;unfold putP isPathB at h;dsimp only at h
 have h1:19<=t.1:=of_decide_eq_true h
 show (plainB t.1&&_)=false
 have:plainB t.1=false:=by unfold plainB;simp;omega
 rw[this];rfl
theorem q66(p:Pt):isK (kindOf p) 1=!p.path:=by
 obtain⟨a,b,c,d⟩:=p
 cases a<;>cases b<;>rfl
theorem qao(p:Pt):isK (kindOf p) 3=p.path:=by
 obtain⟨a,b,c,d⟩:=p
 cases a<;>cases b<;>rfl
theorem qeH(p:Pt)(h:Sane p):isK (kindOf p) 2=(!p.path&&p.plain):=by
 obtain⟨a,b,c,d⟩:=p
 cases a<;>cases b<;>first|rfl|exact absurd (h rfl) (by simp)
def fitsK:List Nat->List Kp->Bool
 | [],[]=>true
 |w::ws,x::xs=>isK x.k w&&fitsK ws xs
 |_,_=>false
def madeK (m:Kp) (xs:List Kp):Kp:=xs.foldr (fun x m=>overK m x) m
theorem qdD {op p n : Nat} {args : List Pt} (h : takesN (op, p) = some n) (hl : args.length = n) (hs : ∀ x ∈ args, Sane x) : fitsK (takesK op) (args.map kp) = fitsP op args := by
  rw [q2s] at h
  have hm : mayB op p = true := by
    cases hq : mayB op p with
    |true=> rfl
    |false=> rw [hq] at h; cases h
  rw [hm] at h
  injection h with h
  have hop : op ≤ 23 := by unfold mayB at hm; split at hm<;>simp at hm<;>omega
  rcases q2y hop with rfl | rfl | rfl | rfl | rfl | rfl | rfl | rfl | rfl | rfl | rfl | rfl | rfl | rfl | rfl | rfl | rfl | rfl | rfl | rfl | rfl | rfl | rfl | rfl <;>
  (simp [takesK] at h
   subst h
   first
   | (obtain rfl := List.eq_nil_of_length_eq_zero hl; rfl)
   | (obtain ⟨x, rfl⟩ := List.length_eq_one_iff.1 hl
      have hx := hs x (by simp)
      simp [takesK, fitsK, fitsP, kp, q66, qao, qeH _ hx])
   | (obtain ⟨x, y, rfl⟩ : ∃ x y, args = [x, y] := by
        match args, hl with
        | [x, y], _=> exact ⟨x, y, rfl⟩
      simp [takesK, fitsK, fitsP, kp, q66, qao]))
theorem qeO {op p n : Nat} {args : List Pt} {i : Nat} (h : takesN (op, p) = some n) (hl : args.length = n) (hf : fitsP op args = true) (hs : ∀ x ∈ args, Sane x) : madeK ⟨putsK op, i, 1⟩ (args.map kp) = kp (putP (op, p) args i) := by
  rw [q2s] at h
  have hm : mayB op p = true := by
    cases hq : mayB op p with
    |true=> rfl
    |false=> rw [hq] at h; cases h
  rw [hm] at h
  injection h with h
  have hop : op ≤ 23 := by unfold mayB at hm; split at hm<;>simp at hm<;>omega
  rcases q2y hop with rfl | rfl | rfl | rfl | rfl | rfl | rfl | rfl | rfl | rfl | rfl | rfl | rfl | rfl | rfl | rfl | rfl | rfl | rfl | rfl | rfl | rfl | rfl | rfl <;>
  (simp [takesK] at h
   subst h
   first
   | (obtain rfl := List.eq_nil_of_length_eq_zero hl; rfl)
   | (obtain ⟨x, rfl⟩ := List.length_eq_one_iff.1 hl
      obtain ⟨a, b, c, d⟩ := x
      simp [fitsP] at hf
      cases a<;>cases b <;>
      first
      | (exfalso; simp at hf; done)
      | (simp [madeK, overK, kp, kindOf, putP, putsK, isPathB, plainB]; done)
      | (simp [madeK, overK, kp, kindOf, putP, putsK, isPathB, plainB]; omega))
   | (obtain ⟨x, y, rfl⟩ : ∃ x y, args = [x, y] := by
        match args, hl with
        | [x, y], _=> exact ⟨x, y, rfl⟩
      obtain ⟨a, b, c, d⟩ := x
      obtain ⟨a', b', c', d'⟩ := y
      simp [fitsP] at hf
      cases a<;>cases b<;>cases a'<;>cases b' <;>
      first
      | (exfalso; simp at hf; done)
      | (simp [madeK, overK, kp, kindOf, putP, putsK, isPathB, plainB]; done)
      | (simp [madeK, overK, kp, kindOf, putP, putsK, isPathB, plainB]; omega)))
def oneK (st:List Pt) (want:Nat):Bool:=match st with | [p]=>isK (kindOf p) want|_=>false
def lookOf (r:Option (List Pt×List Pt)) (want:Nat):Nat :=
 match r with
 |some (_,[p])=>if isK (kindOf p) want then (if 64<p.dep then 8 else 0) else 7
 |_=>7
def lookE (ts:List Tk) (want:Nat):Nat:=if 512<ts.length then 3 else lookOf (readP ts 0 []) want
def allP (ts:List Tk):List Pt:=match readP ts 0 [] with|some x=>x.1|none=>[]
theorem qeM{ts:List Tk}{want:Nat}:lookE ts want=0↔ts.length<=512/\∃t:Tr,t.WF/\ts=t.flat/\isK (kindOf (t.part 0)) want=true/\(t.part 0).dep<=64:=by
 constructor
 ·intro h
  unfold lookE at h
  split at h
  ·cases h
  ·next hl=>
   refine⟨by omega,?_⟩
   unfold lookOf at h
   split at h
   ·next all p hr=>
    obtain⟨t,h1,h2,h3,h4⟩:=q3X.1 hr;subst h4
    split at h
    ·next hk=>
     split at h
     ·cases h
     ·exact⟨t,h1,h2,hk,by omega⟩
    ·cases h
   ·cases h
 ·rintro⟨hl,t,hw,rfl,hk,hd⟩
  unfold lookE;rw[if_neg (by omega),q3X.2 ⟨t,hw,rfl,rfl,rfl⟩]
  unfold lookOf;simp only
  rw[if_pos hk,if_neg (by omega)]
abbrev Sv:=(Nat->Prop)×(Nat->Nat->Prop)
def stepsP (w:Nat->Nat->Prop):Nat->Nat->Nat->Prop
 | 0,i,k=>i=k
 |m+1,i,k=>∃j,w i j/\stepsP w m j k
def leafV (t:List Nat) (op p i:Nat):Prop :=
 if op=0 then True else if op=1 then False else if op=2 then i<t.length/\(t.getD i 0).testBit p=true
 else if op=3 then i+1=t.length else if op=4 then i<t.length else i=t.length
def unV (n op:Nat) (a:Nat->Prop) (i:Nat):Prop :=
 if op=6 then ¬a i else if op=7 then i+1<n/\a (i+1) else if op=8 then (i+1<n->a (i+1))
 else if op=9 then ∃j,i<=j/\j<n/\a j else ∀j,i<=j->j<n->a j
def unY (n op:Nat) (v:Sv) (i k:Nat):Prop :=
 if op=19 then k=i+1/\i<n/\v.1 i else if op=20 then k=i/\v.1 i else ∃m,stepsP v.2 m i k
def binV (n op:Nat) (x y:Sv) (i:Nat):Prop :=
 if op=11 then x.1 i/\y.1 i else if op=12 then x.1 i\/y.1 i else if op=13 then (x.1 i->y.1 i) else if op=14 then (x.1 i↔y.1 i)
 else if op=15 then ∃j,i<=j/\j<n/\y.1 j/\∀k,i<=k->k<j->x.1 k
 else if op=16 then ∀j,i<=j->j<n->y.1 j\/∃k,i<=k/\k<j/\x.1 k
 else if op=17 then ∃k,x.2 i k/\y.1 k else ∀k,x.2 i k->y.1 k
def binY (op:Nat) (x y:Sv) (i k:Nat):Prop:=if op=21 then x.2 i k\/y.2 i k else ∃j,x.2 i j/\y.2 j k
def semT (t:List Nat) (op p:Nat) (a:List Sv):Sv :=
 match a with
 | []=>(leafV t op p,fun _ _=>False)
 | [x]=>(unV t.length op x.1,unY t.length op x)
 |x::y::_=>(binV t.length op x y,binY op x y)
def takC (t:Tk):Nat:=(takesN t).getD 0
def semStep (t:List Nat) (st:List Sv) (k:Tk):List Sv:=st.take (st.length-takC k)++[semT t k.1 k.2 (st.drop (st.length-takC k))]
def semS (t:List Nat) (ts:List Tk) (st:List Sv):List Sv:=ts.foldl (semStep t) st
theorem q7w(t:List Nat)(a b:List Tk)(st:List Sv):semS t (a++b) st=semS t b (semS t a st):=by unfold semS;rw[List.foldl_append]
def Cl (t:List Nat) (ts:List Tk) (v:Sv):Prop:=∀st,semS t ts st=st++[v]
theorem Cl.same{t:List Nat}{ts:List Tk}{v u:Sv}(h:Cl t ts v)(k:Cl t ts u):v=u:=by
 have:=h []
 rw[k []]at this;simpa using this.symm
theorem Cl.leaf(t:List Nat){op p:Nat}(h:takesN (op,p)=some 0):Cl t [(op,p)] (semT t op p []):=fun st=>by
 have e:takC (op,p)=0:=by unfold takC;rw[h];rfl
 simp[semS,semStep,e]
theorem Cl.un{t:List Nat}{ts:List Tk}{v:Sv}(k:Cl t ts v){op p:Nat}(h:takesN (op,p)=some 1):Cl t (ts++[(op,p)]) (semT t op p [v]):=fun st=>by
 have e:takC (op,p)=1:=by unfold takC;rw[h];rfl
 rw[q7w,k st];simp[semS,semStep,e]
theorem Cl.bin{t:List Nat}{xs ys:List Tk}{v u:Sv}(k:Cl t xs v)(l:Cl t ys u){op p:Nat}(h:takesN (op,p)=some 2):Cl t (xs++ys++[(op,p)]) (semT t op p [v,u]):=fun st=>by
 have e:takC (op,p)=2:=by unfold takC;rw[h];rfl
 rw[q7w,q7w,k st,l];have e1:(st++[v]++[u]).length-2=st.length:=by simp
 have e2:(st++[v]++[u]).take st.length=st:=by simp
 have e3:(st++[v]++[u]).drop st.length=[v,u]:=by simp
 simp only[semS,List.foldl_cons,List.foldl_nil,semStep,e,e1,e2,e3]
def semTr (t:List Nat):Tr->Sv
 | .leaf k=>semT t k.1 k.2 []
 | .un k c=>semT t k.1 k.2 [semTr t c]
 | .bin k c d=>semT t k.1 k.2 [semTr t c,semTr t d]
theorem q35(t:List Nat):∀T:Tr,T.WF->Cl t T.flat (semTr t T)
 | .leaf _,h=>Cl.leaf t h.1
 | .un _ c,h=>(q35 t c h.2.2).un h.1
 | .bin _ c d,h=>(q35 t c h.2.2.1).bin (q35 t d h.2.2.2) h.1
theorem q5g{w:Nat->Nat->Prop}{n:Nat}(hw:∀i k,i<=n->w i k->i<=k/\k<=n):∀(m i k:Nat),i<=n->stepsP w m i k->i<=k/\k<=n
 | 0,i,k,hi,h=>by have:i=k:=h;omega
 |m+1,i,k,hi,h=>by
  obtain⟨j,h1,h2⟩:=h;have:=hw i j hi h1
  have:=q5g hw m j k this.2 h2
  omega
theorem q1g(t:List Nat):∀T:Tr,T.WF->∀i k,i<=t.length->(semTr t T).2 i k->i<=k/\k<=t.length
 | .leaf _,_,i,k,_,h=>by simp[semTr,semT]at h
 | .un q c,hT,i,k,hi,h=>by
  simp only[semTr,semT,unY]at h
  split at h
  ·omega
  ·split at h
   ·omega
   ·obtain⟨m,hm⟩:=h
    exact q5g (q1g t c hT.2.2) m i k hi hm
 | .bin q c d,hT,i,k,hi,h=>by
  simp only[semTr,semT,binY]at h
  split at h
  ·rcases h with h|h
   ·exact q1g t c hT.2.2.1 i k hi h
   ·exact q1g t d hT.2.2.2 i k hi h
  ·obtain⟨j,h1,h2⟩:=h
   have:=q1g t c hT.2.2.1 i j hi h1
   have:=q1g t d hT.2.2.2 j k this.2 h2
   omega
section
variable (t:List Nat) (x y z:Sv) (i:Nat)
theorem q61:(semT t 9 0 [x]).1 i↔(semT t 15 0 [semT t 0 0 [],x]).1 i:=by
 simp[semT,unV,binV,leafV]
theorem q5B:(semT t 10 0 [x]).1 i↔(semT t 16 0 [semT t 1 0 [],x]).1 i:=by
 simp[semT,unV,binV,leafV]
theorem qff:(semT t 3 0 []).1 i↔(semT t 11 0 [semT t 4 0 [],semT t 8 0 [semT t 1 0 []]]).1 i:=by
 simp[semT,unV,binV,leafV];omega
end
theorem q4o{w u:Nat->Nat->Prop}{k n:Nat}(hw:∀i j,i+k<=n->(u i j↔w (i+k) (j+k)))(hin:∀i j,i<=n->w i j->i<=j/\j<=n):∀(m i j:Nat),i+k<=n->(stepsP u m i j↔stepsP w m (i+k) (j+k))
 | 0,i,j,_=>by show i=j↔i+k=j+k;omega
 |m+1,i,j,hi=>by
  constructor
  ·rintro⟨l,h1,h2⟩
   have h1':=(hw i l hi).1 h1;have:=hin _ _ hi h1'
   exact⟨l+k,h1',(q4o hw hin m l j this.2).1 h2⟩
  ·rintro⟨l,h1,h2⟩
   have hl:=hin _ _ hi h1;obtain⟨q,rfl⟩:∃q,l=q+k:=⟨l-k,by omega⟩
   exact⟨q,(hw i q hi).2 h1,(q4o hw hin m q j hl.2).2 h2⟩
theorem q4H(t:List Nat)(k:Nat)(hk:k<=t.length):∀T:Tr,T.WF->∀i,i+k<=t.length->((semTr (t.drop k) T).1 i↔(semTr t T).1 (i+k))/\∀j,((semTr (t.drop k) T).2 i j↔(semTr t T).2 (i+k) (j+k))
 | .leaf q,_,i,hi=>by
  have hl:(t.drop k).length=t.length-k:=by simp
  refine⟨?_,fun j=>by simp[semTr,semT]⟩
  simp only[semTr,semT,leafV,hl]
  have hg:(t.drop k).getD i 0=t.getD (i+k) 0:=by simp[List.getD_eq_getElem?_getD,Nat.add_comm]
  rw[hg]
  split
  ·exact Iff.rfl
  ·split
   ·exact Iff.rfl
   ·split
    ·constructor<;>(rintro⟨h1,h2⟩;exact⟨by omega,h2⟩)
    ·split
     ·omega
     ·split<;>omega
 | .un q c,hT,i,hi=>by
  have hl:(t.drop k).length=t.length-k:=by simp
  have ih:=q4H t k hk c hT.2.2;refine⟨?_,fun j=>?_⟩
  ·simp only[semTr,semT,unV,hl]
   split
   ·rw[(ih i hi).1]
   ·split
    ·constructor
     ·rintro⟨h1,h2⟩
      exact⟨by omega,by have:=((ih (i+1) (by omega)).1).1 h2;rwa [show i+1+k=i+k+1 by omega]at this⟩
     ·rintro⟨h1,h2⟩
      refine⟨by omega,((ih (i+1) (by omega)).1).2 ?_⟩
      rwa [show i+1+k=i+k+1 by omega]
    ·split
     ·constructor
      ·intro h h1
       have:=((ih (i+1) (by omega)).1).1 (h (by omega));rwa [show i+1+k=i+k+1 by omega]at this
      ·intro h h1
       refine ((ih (i+1) (by omega)).1).2 ?_
       rw[show i+1+k=i+k+1 by omega];exact h (by omega)
     ·split
      ·constructor
       ·rintro⟨j,h1,h2,h3⟩;exact⟨j+k,by omega,by omega,((ih j (by omega)).1).1 h3⟩
       ·rintro⟨j,h1,h2,h3⟩
        obtain⟨j,rfl⟩:∃q,j=q+k:=⟨j-k,by omega⟩
        exact⟨j,by omega,by omega,((ih j (by omega)).1).2 h3⟩
      ·constructor
       ·intro h j h1 h2
        obtain⟨j,rfl⟩:∃q,j=q+k:=⟨j-k,by omega⟩
        exact((ih j (by omega)).1).1 (h j (by omega) (by omega))
       ·intro h j h1 h2;exact((ih j (by omega)).1).2 (h (j+k) (by omega) (by omega))
  ·simp only[semTr,semT,unY,hl]
   split
   ·constructor
    ·rintro⟨h1,h2,h3⟩;exact⟨by omega,by omega,(ih i hi).1.1 h3⟩
    ·rintro⟨h1,h2,h3⟩;exact⟨by omega,by omega,(ih i hi).1.2 h3⟩
   ·split
    ·constructor
     ·rintro⟨h1,h2⟩;exact⟨by omega,(ih i hi).1.1 h2⟩
     ·rintro⟨h1,h2⟩;exact⟨by omega,(ih i hi).1.2 h2⟩
    ·have hs:=fun m=>q4o (u:=(semTr (t.drop k) c).2) (w:=(semTr t c).2) (k:=k) (n:=t.length) (fun a b ha=>(ih a ha).2 b) (q1g t c hT.2.2) m i j hi
     constructor
     ·rintro⟨m,h⟩;exact⟨m,(hs m).1 h⟩
     ·rintro⟨m,h⟩;exact⟨m,(hs m).2 h⟩
 | .bin q c d,hT,i,hi=>by
  have hl:(t.drop k).length=t.length-k:=by simp
  have ic:=q4H t k hk c hT.2.2.1;have id:=q4H t k hk d hT.2.2.2;have wc:=q1g t c hT.2.2.1;have wd:=q1g t d hT.2.2.2;refine⟨?_,fun j=>?_⟩
  ·simp only[semTr,semT,binV,hl]
   split
   ·rw[(ic i hi).1,(id i hi).1]
   ·split
    ·rw[(ic i hi).1,(id i hi).1]
    ·split
     ·rw[(ic i hi).1,(id i hi).1]
     ·split
      ·rw[(ic i hi).1,(id i hi).1]
      ·split
       ·constructor
        ·rintro⟨j,h1,h2,h3,h4⟩
         refine⟨j+k,by omega,by omega,(id j (by omega)).1.1 h3,fun l l1 l2=>?_⟩
         obtain⟨l,rfl⟩:∃q,l=q+k:=⟨l-k,by omega⟩
         exact(ic l (by omega)).1.1 (h4 l (by omega) (by omega))
        ·rintro⟨j,h1,h2,h3,h4⟩
         obtain⟨j,rfl⟩:∃q,j=q+k:=⟨j-k,by omega⟩
         exact⟨j,by omega,by omega,(id j (by omega)).1.2 h3,fun l l1 l2=>(ic l (by omega)).1.2 (h4 (l+k) (by omega) (by omega))⟩
       ·split
        ·constructor
         ·intro h j h1 h2
          obtain⟨j,rfl⟩:∃q,j=q+k:=⟨j-k,by omega⟩
          rcases h j (by omega) (by omega) with h|⟨l,l1,l2,l3⟩
          ·exact Or.inl ((id j (by omega)).1.1 h)
          ·exact Or.inr ⟨l+k,by omega,by omega,(ic l (by omega)).1.1 l3⟩
         ·intro h j h1 h2
          rcases h (j+k) (by omega) (by omega) with h|⟨l,l1,l2,l3⟩
          ·exact Or.inl ((id j (by omega)).1.2 h)
          ·obtain⟨l,rfl⟩:∃q,l=q+k:=⟨l-k,by omega⟩
           exact Or.inr ⟨l,by omega,by omega,(ic l (by omega)).1.2 l3⟩
        ·split
         ·constructor
          ·rintro⟨j,h1,h2⟩
           have h1':=((ic i hi).2 j).1 h1;have:=wc _ _ hi h1'
           exact⟨j+k,h1',(id j this.2).1.1 h2⟩
          ·rintro⟨j,h1,h2⟩
           have:=wc _ _ hi h1
           obtain⟨j,rfl⟩:∃q,j=q+k:=⟨j-k,by omega⟩
           exact⟨j,((ic i hi).2 j).2 h1,(id j this.2).1.2 h2⟩
         ·constructor
          ·intro h j h1
           have:=wc _ _ hi h1
           obtain⟨j,rfl⟩:∃q,j=q+k:=⟨j-k,by omega⟩
           exact(id j this.2).1.1 (h j (((ic i hi).2 j).2 h1))
          ·intro h j h1
           have h1':=((ic i hi).2 j).1 h1;have:=wc _ _ hi h1'
           exact(id j this.2).1.2 (h (j+k) h1')
  ·simp only[semTr,semT,binY]
   split
   ·rw[(ic i hi).2 j,(id i hi).2 j]
   ·constructor
    ·rintro⟨l,h1,h2⟩
     have h1':=((ic i hi).2 l).1 h1;have:=wc _ _ hi h1'
     exact⟨l+k,h1',((id l this.2).2 j).1 h2⟩
    ·rintro⟨l,h1,h2⟩
     have:=wc _ _ hi h1
     obtain⟨l,rfl⟩:∃q,l=q+k:=⟨l-k,by omega⟩
     exact⟨l,((ic i hi).2 l).2 h1,((id l this.2).2 j).2 h2⟩
def ValB (t:List Nat) (ts:List Tk) (bs:List Bool):Prop:=bs.length=t.length+1/\∀v,Cl t ts v->∀i (h:i<bs.length),(bs[i]=true↔v.1 i)
abbrev Sk:=Bool×Sv
def fitK (op:Nat) (a:List Bool):Bool :=
 if op=17\/op=18 then a == [true,false] else if op=21\/op=22 then a == [true,true] else if op=23 then a == [true] else a.all (!·)
def skT (t:List Nat) (k:Tk) (a:List Sk):Sk:=(isPathB k.1,semT t k.1 k.2 (a.map (·.2)))
def skStep (t:List Nat) (st:List Sk) (k:Tk):List Sk:=st.take (st.length-takC k)++[skT t k (st.drop (st.length-takC k))]
def skS (t:List Nat) (ts:List Tk) (st:List Sk):List Sk:=ts.foldl (skStep t) st
theorem q3G(t:List Nat)(a b:List Tk)(st:List Sk):skS t (a++b) st=skS t b (skS t a st):=by unfold skS;rw[List.foldl_append]
theorem qhb(t:List Nat){ts:List Tk}{k:Nat}(h:k<ts.length)(st:List Sk):skS t (ts.take (k+1)) st=skStep t (skS t (ts.take k) st) ts[k]:=by
 rw[List.take_add_one,List.getElem?_eq_getElem h,q3G];rfl
def InW (n:Nat) (x:Sk):Prop:=∀i k,i<=n->x.2.2 i k->i<=k/\k<=n
def OkAt (n:Nat) (st:List Sk) (k:Tk):Prop:=∃m,takesN k=some m/\m<=st.length/\fitK k.1 ((st.drop (st.length-m)).map (·.1))=true/\∀x∈st,InW n x
theorem qcs{op:Nat}{a:List Pt}(h:fitsP op a=true):fitK op (a.map (·.path))=true:=by
 unfold fitsP at h;unfold fitK
 split at h
 ·rename_i h1
  rw[if_pos h1]
  split at h
  ·simp at h ⊢;simpa using h
  ·cases h
 ·rename_i h1
  rw[if_neg h1]
  split at h
  ·rename_i h2
   subst h2;rw[if_neg (by decide),if_neg (by decide)]
   split at h
   ·simp at h ⊢;exact h.1
   ·cases h
  ·split at h
   ·rename_i h2 h3
    rw[if_pos h3]
    split at h
    ·simp at h ⊢;simpa using h
    ·cases h
   ·rename_i h2 h3
    rw[if_neg h3]
    split at h
    ·rename_i h4
     rw[if_pos h4]
     split at h
     ·simp at h ⊢;simpa using h
     ·cases h
    ·rename_i h4
     rw[if_neg h4];simpa [List.all_map,Function.comp_def] using h
theorem qe9(t:List Nat)(k:Tk)(st:List Sk):skS t [k] st=skStep t st k:=rfl
theorem qZ{α : Type}(st r:List α)(m:Nat)(h:r.length=m):(st++r).drop ((st++r).length-m)=r/\(st++r).take ((st++r).length-m)=st:=by
 have:(st++r).length-m=st.length:=by simp;omega
 rw[this];simp
theorem q1S{k:Tk}{m:Nat}(h:takesN k=some m):takC k=m:=by unfold takC;rw[h];rfl
theorem q2B{a b:List Tk}{P:List Tk->Tk->Prop}(h1:∀k (h:k<a.length),P (a.take k) a[k])(h2:∀k (h:k<b.length),P (a++b.take k) b[k]):∀k (h:k<(a++b).length),P ((a++b).take k) (a++b)[k]:=by
 intro k h;by_cases hk:k<a.length
 ·have e1:(a++b).take k=a.take k:=by rw[List.take_append_of_le_length (by omega)]
  have e2:(a++b)[k]=a[k]:=List.getElem_append_left hk;rw[e1,e2];exact h1 k hk
 ·have e1:(a++b).take k=a++b.take (k-a.length):=by rw[List.take_append,List.take_of_length_le (by omega)]
  have e2:(a++b)[k]=b[k-a.length]'(by simp at h;omega):=List.getElem_append_right (by omega)
  rw[e1,e2];exact h2 _ _
theorem q6r(t:List Nat):∀T:Tr,T.WF->∀st:List Sk,(∀x∈st,InW t.length x)->skS t T.flat st=st++[((T.part 0).path,semTr t T)]/\∀k (h:k<T.flat.length),OkAt t.length (skS t (T.flat.take k) st) T.flat[k]
 | .leaf q,hT,st,hst=>by
  have e:=q1S hT.1;refine⟨?_,fun k h=>?_⟩
  ·show skStep t st q=_
   have:=qZ st [] 0 rfl
   rw[List.append_nil]at this;unfold skStep;rw[e,this.1,this.2]
   rfl
  ·have hk:k=0:=by simp[Tr.flat]at h;exact h
   subst hk;refine⟨0,hT.1,Nat.zero_le _,?_,hst⟩
   have:=(qZ st [] 0 rfl).1
   rw[List.append_nil]at this
   show fitK _ ((st.drop (st.length-0)).map _)=true
   rw[this];exact qcs hT.2
 | .un q c,hT,st,hst=>by
  have e:=q1S hT.1;obtain⟨h1,h2⟩:=q6r t c hT.2.2 st hst;have hin:InW t.length ((c.part 0).path,semTr t c):=q1g t c hT.2.2;have hd:=qZ st [((c.part 0).path,semTr t c)] 1 rfl;refine⟨?_,?_⟩
  ·show skS t (c.flat++[q]) st=_
   rw[q3G,h1,qe9];unfold skStep;rw[e,hd.1,hd.2]
   rfl
  ·show ∀k (h:k<(c.flat++[q]).length),OkAt t.length (skS t ((c.flat++[q]).take k) st) (c.flat++[q])[k]
   refine q2B (P:=fun l x=>OkAt t.length (skS t l st) x) h2 fun k h=>?_
   have hk:k=0:=by simp at h;exact h
   subst hk
   show OkAt t.length (skS t (c.flat++[]) st) q
   rw[List.append_nil,h1];refine⟨1,hT.1,by simp,?_,fun x hx=>?_⟩
   ·rw[hd.1]
    exact qcs (a:=[c.part 0]) hT.2.1
   ·rcases List.mem_append.1 hx with hx|hx
    ·exact hst x hx
    ·simp at hx;subst hx;exact hin
 | .bin q c d,hT,st,hst=>by
  have e:=q1S hT.1;obtain⟨h1,h2⟩:=q6r t c hT.2.2.1 st hst;have hin:InW t.length ((c.part 0).path,semTr t c):=q1g t c hT.2.2.1;have hin2:InW t.length ((d.part 0).path,semTr t d):=q1g t d hT.2.2.2
  have hst2:∀x∈st++[((c.part 0).path,semTr t c)],InW t.length x:=fun x hx=>by
   rcases List.mem_append.1 hx with hx|hx
   ·exact hst x hx
   ·simp at hx;subst hx;exact hin
  obtain⟨h3,h4⟩:=q6r t d hT.2.2.2 _ hst2;have hd:=qZ st [((c.part 0).path,semTr t c),((d.part 0).path,semTr t d)] 2 rfl;have he:st++[((c.part 0).path,semTr t c)]++[((d.part 0).path,semTr t d)]=st++[((c.part 0).path,semTr t c),((d.part 0).path,semTr t d)]:=by simp
  rw[he]at h3;refine⟨?_,?_⟩
  ·show skS t (c.flat++d.flat++[q]) st=_
   rw[q3G,q3G,h1,h3,qe9];unfold skStep;rw[e,hd.1,hd.2]
   rfl
  ·show ∀k (h:k<(c.flat++d.flat++[q]).length),OkAt t.length (skS t ((c.flat++d.flat++[q]).take k) st) (c.flat++d.flat++[q])[k]
   refine q2B (P:=fun l x=>OkAt t.length (skS t l st) x) (q2B (P:=fun l x=>OkAt t.length (skS t l st) x) h2 fun k h=>?_) fun k h=>?_
   ·show OkAt t.length (skS t (c.flat++d.flat.take k) st) _
    rw[q3G,h1];exact h4 k h
   ·have hk:k=0:=by simp at h;exact h
    subst hk
    show OkAt t.length (skS t (c.flat++d.flat++[]) st) q
    rw[List.append_nil,q3G,h1,h3];refine⟨2,hT.1,by simp,?_,fun x hx=>?_⟩
    ·rw[hd.1]
     exact qcs (a:=[c.part 0,d.part 0]) hT.2.1
    ·rcases List.mem_append.1 hx with hx|hx
     ·exact hst x hx
     ·simp at hx
      rcases hx with rfl|rfl
      ·exact hin
      ·exact hin2
theorem qiw(t:List Nat){ts:List Tk}{want:Nat}(h:lookE ts want=0):∃(v:Sv) (b:Bool),Cl t ts v/\skS t ts []=[(b,v)]/\(want=1->b=false)/\(want=3->b=true)/\InW t.length (b,v)/\ts.length<=512/\∀k (h:k<ts.length),OkAt t.length (skS t (ts.take k) []) ts[k]:=by
 obtain⟨hl,T,hT,rfl,hk,_⟩:=qeM.1 h;obtain⟨h1,h2⟩:=q6r t T hT [] (fun x hx=>by simp at hx)
 refine⟨semTr t T,(T.part 0).path,q35 t T hT,h1,?_,?_,q1g t T hT,hl,h2⟩
 ·rintro rfl
  cases hb:(T.part 0).path with
  |false=>rfl
  |true=>unfold isK kindOf at hk;rw[hb]at hk;cases hk
 ·rintro rfl
  cases hb:(T.part 0).path with
  |true=>rfl
  |false=>unfold isK kindOf at hk;rw[hb]at hk;revert hk;cases (T.part 0).plain<;>simp
abbrev Kq:=List Tk×List Tk
def kOp (op p:Nat) (a:List Kq):Kq :=
 match a with
 | []=>if op=0 then ([(0,0)],[(1,0)]) else if op=1 then ([(1,0)],[(0,0)]) else if op=2 then ([(2,p)],[(2,p),(6,0)]) else if op=3 then ([(4,0),(1,0),(8,0),(11,0)],[(5,0),(0,0),(7,0),(12,0)]) else if op=4 then ([(4,0)],[(5,0)]) else ([(5,0)],[(4,0)])
 | [x]=>if op=6 then (x.2,x.1) else if op=7 then (x.1++[(7,0)],x.2++[(8,0)]) else if op=8 then (x.1++[(8,0)],x.2++[(7,0)])
  else if op=9 then ([(0,0)]++x.1++[(15,0)],[(1,0)]++x.2++[(16,0)]) else if op=10 then ([(1,0)]++x.1++[(16,0)],[(0,0)]++x.2++[(15,0)]) else (x.1++[(op,0)],x.1++[(op,0)])
 |x::y::_=>if op=11 then (x.1++y.1++[(11,0)],x.2++y.2++[(12,0)]) else if op=12 then (x.1++y.1++[(12,0)],x.2++y.2++[(11,0)])
  else if op=13 then (x.2++y.1++[(12,0)],x.1++y.2++[(11,0)])
  else if op=14 then ((x.1++y.1++[(11,0)])++(x.2++y.2++[(11,0)])++[(12,0)],(x.1++y.2++[(11,0)])++(x.2++y.1++[(11,0)])++[(12,0)])
  else if op=15 then (x.1++y.1++[(15,0)],x.2++y.2++[(16,0)]) else if op=16 then (x.1++y.1++[(16,0)],x.2++y.2++[(15,0)])
  else if op=17 then (x.1++y.1++[(17,0)],x.1++y.2++[(18,0)]) else if op=18 then (x.1++y.1++[(18,0)],x.1++y.2++[(17,0)])
  else (x.1++y.1++[(op,0)],x.1++y.1++[(op,0)])
def kStep (st:List Kq) (k:Tk):List Kq:=st.take (st.length-takC k)++[kOp k.1 k.2 (st.drop (st.length-takC k))]
def kS (ts:List Tk) (st:List Kq):List Kq:=ts.foldl kStep st
def kL (ts:List Tk):Kq:=(kS ts []).getLast?.getD ([],[])
def kTr:Tr->Tr×Tr
 | .leaf (op,p)=>if op=0 then (.leaf (0,0),.leaf (1,0)) else if op=1 then (.leaf (1,0),.leaf (0,0)) else if op=2 then (.leaf (2,p),.un (6,0) (.leaf (2,p)))
  else if op=3 then (.bin (11,0) (.leaf (4,0)) (.un (8,0) (.leaf (1,0))),.bin (12,0) (.leaf (5,0)) (.un (7,0) (.leaf (0,0)))) else if op=4 then (.leaf (4,0),.leaf (5,0)) else (.leaf (5,0),.leaf (4,0))
 | .un (op,_) c=>if op=6 then ((kTr c).2,(kTr c).1) else if op=7 then (.un (7,0) (kTr c).1,.un (8,0) (kTr c).2) else if op=8 then (.un (8,0) (kTr c).1,.un (7,0) (kTr c).2)
  else if op=9 then (.bin (15,0) (.leaf (0,0)) (kTr c).1,.bin (16,0) (.leaf (1,0)) (kTr c).2) else if op=10 then (.bin (16,0) (.leaf (1,0)) (kTr c).1,.bin (15,0) (.leaf (0,0)) (kTr c).2)
  else (.un (op,0) (kTr c).1,.un (op,0) (kTr c).1)
 | .bin (op,_) c d=>if op=11 then (.bin (11,0) (kTr c).1 (kTr d).1,.bin (12,0) (kTr c).2 (kTr d).2) else if op=12 then (.bin (12,0) (kTr c).1 (kTr d).1,.bin (11,0) (kTr c).2 (kTr d).2)
  else if op=13 then (.bin (12,0) (kTr c).2 (kTr d).1,.bin (11,0) (kTr c).1 (kTr d).2)
  else if op=14 then (.bin (12,0) (.bin (11,0) (kTr c).1 (kTr d).1) (.bin (11,0) (kTr c).2 (kTr d).2),.bin (12,0) (.bin (11,0) (kTr c).1 (kTr d).2) (.bin (11,0) (kTr c).2 (kTr d).1))
  else if op=15 then (.bin (15,0) (kTr c).1 (kTr d).1,.bin (16,0) (kTr c).2 (kTr d).2) else if op=16 then (.bin (16,0) (kTr c).1 (kTr d).1,.bin (15,0) (kTr c).2 (kTr d).2)
  else if op=17 then (.bin (17,0) (kTr c).1 (kTr d).1,.bin (18,0) (kTr c).1 (kTr d).2) else if op=18 then (.bin (18,0) (kTr c).1 (kTr d).1,.bin (17,0) (kTr c).1 (kTr d).2)
  else (.bin (op,0) (kTr c).1 (kTr d).1,.bin (op,0) (kTr c).1 (kTr d).1)
def pathT (T:Tr):Bool:=(T.part 0).path
def plainT (T:Tr):Bool:=(T.part 0).plain
theorem q4e(k:Tk):pathT (.leaf k)=isPathB k.1:=rfl
theorem qa0(k:Tk)(c:Tr):pathT (.un k c)=isPathB k.1:=rfl
theorem q7u(k:Tk)(c d:Tr):pathT (.bin k c d)=isPathB k.1:=rfl
theorem q8u(k:Tk):plainT (.leaf k)=plainB k.1:=by simp[plainT,Tr.part,putP]
theorem qY(k:Tk)(c:Tr):plainT (.un k c)=(plainB k.1&&plainT c):=by simp[plainT,Tr.part,putP]
theorem qm(k:Tk)(c d:Tr):plainT (.bin k c d)=(plainB k.1&&(plainT c&&plainT d)):=by
 have:=q1d d (0+c.size)
 simp[plainT,Tr.part,putP]at this ⊢
 rw[this.2.1]
def fit1T (op:Nat) (c:Tr):Bool:=if op=19 then !pathT c&&plainT c else if op=23 then pathT c else !pathT c
def fit2T (op:Nat) (c d:Tr):Bool:=if op=17\/op=18 then pathT c && !pathT d else if op=21\/op=22 then pathT c&&pathT d else !pathT c && !pathT d
theorem fits1{op p:Nat}{c:Tr}(h:takesN (op,p)=some 1):fitsP op [c.part 0]=fit1T op c:=by
 have h1:¬(op=17\/op=18)/\¬(op=21\/op=22):=by
  unfold takesN at h;dsimp only at h
  split at h
  ·cases h
  ·split at h
   ·cases h
   ·split at h
    ·omega
    ·cases h
 unfold fitsP fit1T pathT plainT;rw[if_neg h1.1]
 split
 ·rfl
 ·rw[if_neg h1.2]
  split
  ·rfl
  ·simp
theorem fits2{op p:Nat}{c d:Tr}(h:takesN (op,p)=some 2):fitsP op [c.part 0,d.part 0]=fit2T op c d:=by
 have h1:¬op=19/\¬op=23:=by
  unfold takesN at h;dsimp only at h
  split at h
  ·cases h
  ·split at h
   ·cases h
   ·split at h
    ·cases h
    ·omega
 unfold fitsP fit2T pathT
 split
 ·rfl
 ·rw[if_neg h1.1]
  split
  ·rfl
  ·rw[if_neg h1.2]
   simp
theorem qN{op p:Nat}(h:takesN (op,p)=some 0)(h2:op<=5):(Tr.leaf (op,p)).WF:=by
 refine⟨h,?_⟩
 unfold fitsP;dsimp only
 rw[if_neg (by omega),if_neg (by omega),if_neg (by omega),if_neg (by omega)]
 rfl
theorem wf_un{op:Nat}{c:Tr}(h:takesN (op,0)=some 1)(hf:fit1T op c=true)(hc:c.WF):(Tr.un (op,0) c).WF:=⟨h,(fits1 h).trans hf,hc⟩
theorem qC{op:Nat}{c d:Tr}(h:takesN (op,0)=some 2)(hf:fit2T op c d=true)(hc:c.WF)(hd:d.WF):(Tr.bin (op,0) c d).WF:=⟨h,(fits2 h).trans hf,hc,hd⟩
structure KOk (T:Tr):Prop where
 w1:(kTr T).1.WF
 p1:pathT (kTr T).1=pathT T
 l1:plainT T=true->plainT (kTr T).1=true
 w2:pathT T=false->(kTr T).2.WF
 p2:pathT T=false->pathT (kTr T).2=false
 l2:pathT T=false->plainT T=true->plainT (kTr T).2=true
theorem qcY{op p m:Nat}(h:takesN (op,p)=some m):(op<=5/\m=0/\(op≠2->p=0)/\p<=7)\/((6<=op/\op<=10\/op=19\/op=20\/op=23)/\m=1/\p=0)\/((11<=op/\op<=18\/op=21\/op=22)/\m=2/\p=0):=by
 unfold takesN at h;dsimp only at h
 split at h
 ·cases h
 ·next h0=>
  split at h
  ·cases h;exact Or.inl ⟨by omega,rfl,by omega,by omega⟩
  ·split at h
   ·cases h;exact Or.inr (Or.inl ⟨by omega,rfl,by omega⟩)
   ·cases h;exact Or.inr (Or.inr ⟨by omega,rfl,by omega⟩)
theorem q8H{p:Nat}(h:p<=7):takesN (2,p)=some 0:=by
 unfold takesN;dsimp only
 rw[if_neg (by omega),if_pos (by omega)]
theorem qR{op p:Nat}(h:(Tr.leaf (op,p)).WF):(op=2/\p<=7)\/(p=0/\(op=0\/op=1\/op=3\/op=4\/op=5)):=by
 rcases qcY h.1 with⟨h1,_,h3,h4⟩|⟨_,h,_⟩|⟨_,h,_⟩
 ·by_cases e:op=2
  ·exact Or.inl ⟨e,h4⟩
  ·exact Or.inr ⟨h3 e,by omega⟩
 ·cases h
 ·cases h
theorem qG{op p:Nat}{c:Tr}(h:(Tr.un (op,p) c).WF):p=0/\c.WF/\fit1T op c=true/\(op=6\/op=7\/op=8\/op=9\/op=10\/op=19\/op=20\/op=23):=by
 have hf:=(fits1 h.1).symm.trans h.2.1;rcases qcY h.1 with⟨_,h,_⟩|⟨h1,_,h3⟩|⟨_,h,_⟩
 ·cases h
 ·exact⟨h3,h.2.2,hf,by omega⟩
 ·cases h
theorem qz{op p:Nat}{c d:Tr}(h:(Tr.bin (op,p) c d).WF):p=0/\c.WF/\d.WF/\fit2T op c d=true/\(op=11\/op=12\/op=13\/op=14\/op=15\/op=16\/op=17\/op=18\/op=21\/op=22):=by
 have hf:=(fits2 h.1).symm.trans h.2.1;rcases qcY h.1 with⟨_,h,_⟩|⟨_,h,_⟩|⟨h1,_,h3⟩
 ·cases h
 ·cases h
 ·exact⟨h3,h.2.2.1,h.2.2.2,hf,by omega⟩
theorem kOk:∀T:Tr,T.WF->KOk T
 | .leaf (op,p),h=>by
  rcases qR h with⟨rfl,hp⟩|⟨rfl,rfl|rfl|rfl|rfl|rfl⟩
  ·exact⟨qN (q8H hp) (by decide),rfl,fun _=>rfl,fun _=>wf_un rfl rfl (qN (q8H hp) (by decide)),fun _=>rfl,fun _ _=>rfl⟩
  ·exact⟨qN rfl (by decide),rfl,fun _=>rfl,fun _=>qN rfl (by decide),fun _=>rfl,fun _ _=>rfl⟩
  ·exact⟨qN rfl (by decide),rfl,fun _=>rfl,fun _=>qN rfl (by decide),fun _=>rfl,fun _ _=>rfl⟩
  ·exact⟨qC rfl rfl (qN rfl (by decide)) (wf_un rfl rfl (qN rfl (by decide))),rfl,fun h=>(by cases h),fun _=>qC rfl rfl (qN rfl (by decide)) (wf_un rfl rfl (qN rfl (by decide))),fun _=>rfl,fun _ h=>(by cases h)⟩
  ·exact⟨qN rfl (by decide),rfl,fun h=>(by cases h),fun _=>qN rfl (by decide),fun _=>rfl,fun _ h=>(by cases h)⟩
  ·exact⟨qN rfl (by decide),rfl,fun h=>(by cases h),fun _=>qN rfl (by decide),fun _=>rfl,fun _ h=>(by cases h)⟩
 | .un (op,p) c,h=>by
  obtain⟨rfl,hc,hf,ho⟩:=qG h;have ih:=kOk c hc;rcases ho with rfl|rfl|rfl|rfl|rfl|rfl|rfl|rfl
  ·have hn:pathT c=false:=by simpa [fit1T] using hf
   have q1:=ih.p1.trans hn;have q2:=ih.p2 hn;exact⟨ih.w2 hn,q2,fun h=>ih.l2 hn (by rw[qY]at h;simpa [plainB] using h),fun _=>ih.w1,fun _=>q1,fun _ h=>ih.l1 (by rw[qY]at h;simpa [plainB] using h)⟩
  ·have hn:pathT c=false:=by simpa [fit1T] using hf
   have q1:=ih.p1.trans hn;have q2:=ih.p2 hn;exact⟨wf_un (op:=7) rfl (by simp[fit1T,q1]) ih.w1,rfl,fun h=>by rw[qY]at h;simp[plainB]at h,fun _=>wf_un (op:=8) rfl (by simp[fit1T,q2]) (ih.w2 hn),fun _=>rfl,fun _ h=>by rw[qY]at h;simp[plainB]at h⟩
  ·have hn:pathT c=false:=by simpa [fit1T] using hf
   have q1:=ih.p1.trans hn;have q2:=ih.p2 hn;exact⟨wf_un (op:=8) rfl (by simp[fit1T,q1]) ih.w1,rfl,fun h=>by rw[qY]at h;simp[plainB]at h,fun _=>wf_un (op:=7) rfl (by simp[fit1T,q2]) (ih.w2 hn),fun _=>rfl,fun _ h=>by rw[qY]at h;simp[plainB]at h⟩
  ·have hn:pathT c=false:=by simpa [fit1T] using hf
   have q1:=ih.p1.trans hn;have q2:=ih.p2 hn;exact⟨qC (op:=15) rfl (by simp[fit2T,q1,q4e,isPathB]) (qN (op:=0) rfl (by decide)) ih.w1,rfl,fun h=>by rw[qY]at h;simp[plainB]at h,fun _=>qC (op:=16) rfl (by simp[fit2T,q2,q4e,isPathB]) (qN (op:=1) rfl (by decide)) (ih.w2 hn),fun _=>rfl,fun _ h=>by rw[qY]at h;simp[plainB]at h⟩
  ·have hn:pathT c=false:=by simpa [fit1T] using hf
   have q1:=ih.p1.trans hn;have q2:=ih.p2 hn;exact⟨qC (op:=16) rfl (by simp[fit2T,q1,q4e,isPathB]) (qN (op:=1) rfl (by decide)) ih.w1,rfl,fun h=>by rw[qY]at h;simp[plainB]at h,fun _=>qC (op:=15) rfl (by simp[fit2T,q2,q4e,isPathB]) (qN (op:=0) rfl (by decide)) (ih.w2 hn),fun _=>rfl,fun _ h=>by rw[qY]at h;simp[plainB]at h⟩
  ·have hn:pathT c=false/\plainT c=true:=by simpa [fit1T] using hf
   have q1:=ih.p1.trans hn.1;exact⟨wf_un (op:=19) rfl (by simp[fit1T,q1,ih.l1 hn.2]) ih.w1,rfl,fun h=>by rw[qY]at h;simp[plainB]at h,fun h=>(by cases h),fun h=>(by cases h),fun h=>(by cases h)⟩
  ·have hn:pathT c=false:=by simpa [fit1T] using hf
   have q1:=ih.p1.trans hn;exact⟨wf_un (op:=20) rfl (by simp[fit1T,q1]) ih.w1,rfl,fun h=>by rw[qY]at h;simp[plainB]at h,fun h=>(by cases h),fun h=>(by cases h),fun h=>(by cases h)⟩
  ·have hn:pathT c=true:=by simpa [fit1T] using hf
   have q1:=ih.p1.trans hn;exact⟨wf_un (op:=23) rfl (by simp[fit1T,q1]) ih.w1,rfl,fun h=>by rw[qY]at h;simp[plainB]at h,fun h=>(by cases h),fun h=>(by cases h),fun h=>(by cases h)⟩
 | .bin (op,p) c d,h=>by
  obtain⟨rfl,hc,hd,hf,ho⟩:=qz h;have ih:=kOk c hc;have jh:=kOk d hd;rcases ho with rfl|rfl|rfl|rfl|rfl|rfl|rfl|rfl|rfl|rfl
  ·have hn:pathT c=false/\pathT d=false:=by simpa [fit2T] using hf
   have q1:=ih.p1.trans hn.1;have q2:=ih.p2 hn.1;have r1:=jh.p1.trans hn.2;have r2:=jh.p2 hn.2;have hp:plainT (.bin (11,0) c d)=true->plainT c=true/\plainT d=true:=fun h=>by rw[qm]at h;simpa [plainB] using h
   refine⟨qC (op:=11) rfl (by simp[fit2T,q1,r1]) ih.w1 jh.w1,rfl,fun h=>?_,fun _=>qC (op:=12) rfl (by simp[fit2T,q2,r2]) (ih.w2 hn.1) (jh.w2 hn.2),fun _=>rfl,fun _ h=>?_⟩
   ·obtain⟨h1,h2⟩:=hp h
    have hp:=And.intro h1 h2
    show plainT (.bin (11,0) _ _)=true
    rw[qm,ih.l1 hp.1,jh.l1 hp.2];rfl
   ·obtain⟨h1,h2⟩:=hp h
    have hp:=And.intro h1 h2
    show plainT (.bin (12,0) _ _)=true
    rw[qm,ih.l2 hn.1 hp.1,jh.l2 hn.2 hp.2];rfl
  ·have hn:pathT c=false/\pathT d=false:=by simpa [fit2T] using hf
   have q1:=ih.p1.trans hn.1;have q2:=ih.p2 hn.1;have r1:=jh.p1.trans hn.2;have r2:=jh.p2 hn.2;have hp:plainT (.bin (12,0) c d)=true->plainT c=true/\plainT d=true:=fun h=>by rw[qm]at h;simpa [plainB] using h
   refine⟨qC (op:=12) rfl (by simp[fit2T,q1,r1]) ih.w1 jh.w1,rfl,fun h=>?_,fun _=>qC (op:=11) rfl (by simp[fit2T,q2,r2]) (ih.w2 hn.1) (jh.w2 hn.2),fun _=>rfl,fun _ h=>?_⟩
   ·obtain⟨h1,h2⟩:=hp h
    have hp:=And.intro h1 h2
    show plainT (.bin (12,0) _ _)=true
    rw[qm,ih.l1 hp.1,jh.l1 hp.2];rfl
   ·obtain⟨h1,h2⟩:=hp h
    have hp:=And.intro h1 h2
    show plainT (.bin (11,0) _ _)=true
    rw[qm,ih.l2 hn.1 hp.1,jh.l2 hn.2 hp.2];rfl
  ·have hn:pathT c=false/\pathT d=false:=by simpa [fit2T] using hf
   have q1:=ih.p1.trans hn.1;have q2:=ih.p2 hn.1;have r1:=jh.p1.trans hn.2;have r2:=jh.p2 hn.2;have hp:plainT (.bin (13,0) c d)=true->plainT c=true/\plainT d=true:=fun h=>by rw[qm]at h;simpa [plainB] using h
   refine⟨qC (op:=12) rfl (by simp[fit2T,q2,r1]) (ih.w2 hn.1) jh.w1,rfl,fun h=>?_,fun _=>qC (op:=11) rfl (by simp[fit2T,q1,r2]) ih.w1 (jh.w2 hn.2),fun _=>rfl,fun _ h=>?_⟩
   ·obtain⟨h1,h2⟩:=hp h
    have hp:=And.intro h1 h2
    show plainT (.bin (12,0) _ _)=true
    rw[qm,ih.l2 hn.1 hp.1,jh.l1 hp.2];rfl
   ·obtain⟨h1,h2⟩:=hp h
    have hp:=And.intro h1 h2
    show plainT (.bin (11,0) _ _)=true
    rw[qm,ih.l1 hp.1,jh.l2 hn.2 hp.2];rfl
  ·have hn:pathT c=false/\pathT d=false:=by simpa [fit2T] using hf
   have q1:=ih.p1.trans hn.1;have q2:=ih.p2 hn.1;have r1:=jh.p1.trans hn.2;have r2:=jh.p2 hn.2;have hp:plainT (.bin (14,0) c d)=true->plainT c=true/\plainT d=true:=fun h=>by rw[qm]at h;simpa [plainB] using h
   refine⟨qC (op:=12) rfl rfl (qC (op:=11) rfl (by simp[fit2T,q1,r1]) ih.w1 jh.w1) (qC (op:=11) rfl (by simp[fit2T,q2,r2]) (ih.w2 hn.1) (jh.w2 hn.2)),rfl,fun h=>?_,fun _=>qC (op:=12) rfl rfl (qC (op:=11) rfl (by simp[fit2T,q1,r2]) ih.w1 (jh.w2 hn.2)) (qC (op:=11) rfl (by simp[fit2T,q2,r1]) (ih.w2 hn.1) jh.w1),fun _=>rfl,fun _ h=>?_⟩
   ·obtain⟨h1,h2⟩:=hp h
    have hp:=And.intro h1 h2
    show plainT (.bin (12,0) (.bin (11,0) _ _) (.bin (11,0) _ _))=true
    rw[qm,qm,qm,ih.l1 hp.1,jh.l1 hp.2,ih.l2 hn.1 hp.1,jh.l2 hn.2 hp.2];rfl
   ·obtain⟨h1,h2⟩:=hp h
    have hp:=And.intro h1 h2
    show plainT (.bin (12,0) (.bin (11,0) _ _) (.bin (11,0) _ _))=true
    rw[qm,qm,qm,ih.l1 hp.1,jh.l2 hn.2 hp.2,ih.l2 hn.1 hp.1,jh.l1 hp.2];rfl
  ·have hn:pathT c=false/\pathT d=false:=by simpa [fit2T] using hf
   have q1:=ih.p1.trans hn.1;have q2:=ih.p2 hn.1;have r1:=jh.p1.trans hn.2;have r2:=jh.p2 hn.2;exact⟨qC (op:=15) rfl (by simp[fit2T,q1,r1]) ih.w1 jh.w1,rfl,fun h=>by rw[qm]at h;simp[plainB]at h,fun _=>qC (op:=16) rfl (by simp[fit2T,q2,r2]) (ih.w2 hn.1) (jh.w2 hn.2),fun _=>rfl,fun _ h=>by rw[qm]at h;simp[plainB]at h⟩
  ·have hn:pathT c=false/\pathT d=false:=by simpa [fit2T] using hf
   have q1:=ih.p1.trans hn.1;have q2:=ih.p2 hn.1;have r1:=jh.p1.trans hn.2;have r2:=jh.p2 hn.2;exact⟨qC (op:=16) rfl (by simp[fit2T,q1,r1]) ih.w1 jh.w1,rfl,fun h=>by rw[qm]at h;simp[plainB]at h,fun _=>qC (op:=15) rfl (by simp[fit2T,q2,r2]) (ih.w2 hn.1) (jh.w2 hn.2),fun _=>rfl,fun _ h=>by rw[qm]at h;simp[plainB]at h⟩
  ·have hn:pathT c=true/\pathT d=false:=by simpa [fit2T] using hf
   have q1:=ih.p1.trans hn.1;have r1:=jh.p1.trans hn.2;have r2:=jh.p2 hn.2;exact⟨qC (op:=17) rfl (by simp[fit2T,q1,r1]) ih.w1 jh.w1,rfl,fun h=>by rw[qm]at h;simp[plainB]at h,fun _=>qC (op:=18) rfl (by simp[fit2T,q1,r2]) ih.w1 (jh.w2 hn.2),fun _=>rfl,fun _ h=>by rw[qm]at h;simp[plainB]at h⟩
  ·have hn:pathT c=true/\pathT d=false:=by simpa [fit2T] using hf
   have q1:=ih.p1.trans hn.1;have r1:=jh.p1.trans hn.2;have r2:=jh.p2 hn.2;exact⟨qC (op:=18) rfl (by simp[fit2T,q1,r1]) ih.w1 jh.w1,rfl,fun h=>by rw[qm]at h;simp[plainB]at h,fun _=>qC (op:=17) rfl (by simp[fit2T,q1,r2]) ih.w1 (jh.w2 hn.2),fun _=>rfl,fun _ h=>by rw[qm]at h;simp[plainB]at h⟩
  ·have hn:pathT c=true/\pathT d=true:=by simpa [fit2T] using hf
   have q1:=ih.p1.trans hn.1;have r1:=jh.p1.trans hn.2;exact⟨qC (op:=21) rfl (by simp[fit2T,q1,r1]) ih.w1 jh.w1,rfl,fun h=>by rw[qm]at h;simp[plainB]at h,fun h=>(by cases h),fun h=>(by cases h),fun h=>(by cases h)⟩
  ·have hn:pathT c=true/\pathT d=true:=by simpa [fit2T] using hf
   have q1:=ih.p1.trans hn.1;have r1:=jh.p1.trans hn.2;exact⟨qC (op:=22) rfl (by simp[fit2T,q1,r1]) ih.w1 jh.w1,rfl,fun h=>by rw[qm]at h;simp[plainB]at h,fun h=>(by cases h),fun h=>(by cases h),fun h=>(by cases h)⟩
section
variable {t:List Nat}
structure KMn (t:List Nat) (T:Tr):Prop where
 f1:pathT T=false->∀i,i<=t.length->((semTr t (kTr T).1).1 i↔(semTr t T).1 i)
 f2:pathT T=false->∀i,i<=t.length->((semTr t (kTr T).2).1 i↔¬(semTr t T).1 i)
 w1:pathT T=true->∀i,i<=t.length->∀k,((semTr t (kTr T).1).2 i k↔(semTr t T).2 i k)
theorem qfB{n:Nat}{A A':Nat->Prop}(h:∀i,i<=n->(A' i↔¬A i))(i:Nat):(unV n 7 A' i↔¬unV n 8 A i)/\(unV n 8 A' i↔¬unV n 7 A i):=by
 simp[unV]
 constructor
 ·intro h1;exact h _ (by omega)
 ·constructor
  ·intro h1 h2;exact(h _ (by omega)).1 (h1 h2)
  ·intro h1 h2;exact(h _ (by omega)).2 (h1 h2)
theorem qe7{n op:Nat}{A A':Nat->Prop}(ho:op=7\/op=8)(h:∀i,i<=n->(A' i↔A i))(i:Nat):unV n op A' i↔unV n op A i:=by
 rcases ho with rfl|rfl
 ·simp[unV];intro h1;exact h _ (by omega)
 ·simp[unV]
  constructor
  ·intro h1 h2;exact(h _ (by omega)).1 (h1 h2)
  ·intro h1 h2;exact(h _ (by omega)).2 (h1 h2)
theorem q3z{n:Nat}{x y x' y':Sv}(hx:∀i,i<=n->(x'.1 i↔x.1 i))(hy:∀i,i<=n->(y'.1 i↔y.1 i))(i:Nat):(binV n 15 x' y' i↔binV n 15 x y i)/\(binV n 16 x' y' i↔binV n 16 x y i):=by
 simp[binV]
 constructor
 ·constructor
  ·rintro⟨j,h1,h2,h3,h4⟩;exact⟨j,h1,h2,(hy j (by omega)).1 h3,fun k k1 k2=>(hx k (by omega)).1 (h4 k k1 k2)⟩
  ·rintro⟨j,h1,h2,h3,h4⟩;exact⟨j,h1,h2,(hy j (by omega)).2 h3,fun k k1 k2=>(hx k (by omega)).2 (h4 k k1 k2)⟩
 ·constructor
  ·intro h j h1 h2
   rcases h j h1 h2 with h|⟨k,k1,k2,k3⟩
   ·exact Or.inl ((hy j (by omega)).1 h)
   ·exact Or.inr ⟨k,k1,k2,(hx k (by omega)).1 k3⟩
  ·intro h j h1 h2
   rcases h j h1 h2 with h|⟨k,k1,k2,k3⟩
   ·exact Or.inl ((hy j (by omega)).2 h)
   ·exact Or.inr ⟨k,k1,k2,(hx k (by omega)).2 k3⟩
theorem q4d{n:Nat}{x y x' y':Sv}(hx:∀i,i<=n->(x'.1 i↔¬x.1 i))(hy:∀i,i<=n->(y'.1 i↔¬y.1 i))(i:Nat):(binV n 15 x' y' i↔¬binV n 16 x y i)/\(binV n 16 x' y' i↔¬binV n 15 x y i):=by
 simp[binV]
 constructor
 ·constructor
  ·rintro⟨j,h1,h2,h3,h4⟩
   exact⟨j,h1,h2,(hy j (by omega)).1 h3,fun k k1 k2=>(hx k (by omega)).1 (h4 k k1 k2)⟩
  ·rintro⟨j,h1,h2,h3,h4⟩
   exact⟨j,h1,h2,(hy j (by omega)).2 h3,fun k k1 k2=>(hx k (by omega)).2 (h4 k k1 k2)⟩
 ·constructor
  ·intro h j h1 h2 h3
   rcases h j h1 h2 with h|⟨k,k1,k2,k3⟩
   ·exact absurd h3 ((hy j (by omega)).1 h)
   ·exact⟨k,k1,k2,(hx k (by omega)).1 k3⟩
  ·intro h j h1 h2
   by_cases h3:y.1 j
   ·obtain⟨k,k1,k2,k3⟩:=h j h1 h2 h3
    exact Or.inr ⟨k,k1,k2,(hx k (by omega)).2 k3⟩
   ·exact Or.inl ((hy j (by omega)).2 h3)
end
theorem kMn(t:List Nat):∀T:Tr,T.WF->KMn t T
 | .leaf (op,p),h=>by
  rcases qR h with⟨rfl,hp⟩|⟨rfl,rfl|rfl|rfl|rfl|rfl⟩
  ·exact⟨fun _ _ _=>Iff.rfl,fun _ i _=>by show (semT t 6 0 [semT t 2 p []]).1 i↔_;simp[semT,unV,semTr],fun h=>(by cases h)⟩
  ·exact⟨fun _ _ _=>Iff.rfl,fun _ i _=>by show (semT t 1 0 []).1 i↔¬(semT t 0 0 []).1 i;simp[semT,leafV],fun h=>(by cases h)⟩
  ·exact⟨fun _ _ _=>Iff.rfl,fun _ i _=>by show (semT t 0 0 []).1 i↔¬(semT t 1 0 []).1 i;simp[semT,leafV],fun h=>(by cases h)⟩
  ·refine⟨fun _ i hi=>(qff t i).symm,fun _ i hi=>?_,fun h=>(by cases h)⟩
   show (semT t 12 0 [semT t 5 0 [],semT t 7 0 [semT t 0 0 []]]).1 i↔¬(semT t 3 0 []).1 i
   simp[semT,unV,binV,leafV];omega
  ·exact⟨fun _ _ _=>Iff.rfl,fun _ i hi=>by show (semT t 5 0 []).1 i↔¬(semT t 4 0 []).1 i;simp[semT,leafV];omega,fun h=>(by cases h)⟩
  ·exact⟨fun _ _ _=>Iff.rfl,fun _ i hi=>by show (semT t 4 0 []).1 i↔¬(semT t 5 0 []).1 i;simp[semT,leafV];omega,fun h=>(by cases h)⟩
 | .un (op,p) c,h=>by
  obtain⟨rfl,hc,hf,ho⟩:=qG h;have ih:=kMn t c hc;have hwi:=q1g t c hc;rcases ho with rfl|rfl|rfl|rfl|rfl|rfl|rfl|rfl
  ·have hn:pathT c=false:=by simpa [fit1T] using hf
   have f1:=ih.f1 hn;have f2:=ih.f2 hn;refine⟨fun _ i hi=>?_,fun _ i hi=>?_,fun h=>(by cases h)⟩
   ·show (semTr t (kTr c).2).1 i↔(semT t 6 0 [semTr t c]).1 i
    rw[f2 i hi];simp[semT,unV]
   ·show (semTr t (kTr c).1).1 i↔¬(semT t 6 0 [semTr t c]).1 i
    rw[f1 i hi];simp[semT,unV]
  ·have hn:pathT c=false:=by simpa [fit1T] using hf
   exact⟨fun _ i hi=>qe7 (Or.inl rfl) (ih.f1 hn) i,fun _ i hi=>(qfB (ih.f2 hn) i).2,fun h=>(by cases h)⟩
  ·have hn:pathT c=false:=by simpa [fit1T] using hf
   exact⟨fun _ i hi=>qe7 (Or.inr rfl) (ih.f1 hn) i,fun _ i hi=>(qfB (ih.f2 hn) i).1,fun h=>(by cases h)⟩
  ·have hn:pathT c=false:=by simpa [fit1T] using hf
   refine⟨fun _ i hi=>?_,fun _ i hi=>?_,fun h=>(by cases h)⟩
   ·exact(q3z (x:=semT t 0 0 []) (x':=semT t 0 0 []) (fun _ _=>Iff.rfl) (ih.f1 hn) i).1.trans (q61 t _ i).symm
   ·have:=(q4d (n:=t.length) (x:=semT t 0 0 []) (x':=semT t 1 0 []) (fun j _=>by simp[semT,leafV]) (ih.f2 hn) i).2
    exact this.trans (not_congr (q61 t _ i).symm)
  ·have hn:pathT c=false:=by simpa [fit1T] using hf
   refine⟨fun _ i hi=>?_,fun _ i hi=>?_,fun h=>(by cases h)⟩
   ·exact(q3z (x:=semT t 1 0 []) (x':=semT t 1 0 []) (fun _ _=>Iff.rfl) (ih.f1 hn) i).2.trans (q5B t _ i).symm
   ·have:=(q4d (n:=t.length) (x:=semT t 1 0 []) (x':=semT t 0 0 []) (fun j _=>by simp[semT,leafV]) (ih.f2 hn) i).1
    exact this.trans (not_congr (q5B t _ i).symm)
  ·have hn:pathT c=false/\plainT c=true:=by simpa [fit1T] using hf
   refine⟨fun h=>(by cases h),fun h=>(by cases h),fun _ i hi k=>?_⟩
   show unY t.length 19 (semTr t (kTr c).1) i k↔unY t.length 19 (semTr t c) i k
   simp only[unY,if_true]
   rw[ih.f1 hn.1 i hi]
  ·have hn:pathT c=false:=by simpa [fit1T] using hf
   refine⟨fun h=>(by cases h),fun h=>(by cases h),fun _ i hi k=>?_⟩
   show unY t.length 20 (semTr t (kTr c).1) i k↔unY t.length 20 (semTr t c) i k
   simp only[unY,if_neg (show ¬(20=19) by decide),if_true]
   rw[ih.f1 hn i hi]
  ·have hn:pathT c=true:=by simpa [fit1T] using hf
   refine⟨fun h=>(by cases h),fun h=>(by cases h),fun _ i hi k=>?_⟩
   show unY t.length 23 (semTr t (kTr c).1) i k↔unY t.length 23 (semTr t c) i k
   simp only[unY,if_neg (show ¬(23=19) by decide),if_neg (show ¬(23=20) by decide)]
   have hst:∀m i k,i<=t.length->(stepsP (semTr t (kTr c).1).2 m i k↔stepsP (semTr t c).2 m i k):=by
    intro m
    induction m with
    |zero=>intro i k _;exact Iff.rfl
    |succ m im=>
     intro i k hi
     constructor
     ·rintro⟨j,h1,h2⟩
      have h1':=(ih.w1 hn i hi j).1 h1;exact⟨j,h1',(im j k (hwi i j hi h1').2).1 h2⟩
     ·rintro⟨j,h1,h2⟩
      exact⟨j,(ih.w1 hn i hi j).2 h1,(im j k (hwi i j hi h1).2).2 h2⟩
   exact exists_congr fun m=>hst m i k hi
 | .bin (op,p) c d,h=>by
  obtain⟨rfl,hc,hd,hf,ho⟩:=qz h;have ih:=kMn t c hc;have jh:=kMn t d hd;have hwi:=q1g t c hc;rcases ho with rfl|rfl|rfl|rfl|rfl|rfl|rfl|rfl|rfl|rfl
  ·have hn:pathT c=false/\pathT d=false:=by simpa [fit2T] using hf
   refine⟨fun _ i hi=>?_,fun _ i hi=>?_,fun h=>(by cases h)⟩
   ·show binV t.length 11 (semTr t (kTr c).1) (semTr t (kTr d).1) i↔binV t.length 11 (semTr t c) (semTr t d) i
    simp only[binV,if_true];rw[ih.f1 hn.1 i hi,jh.f1 hn.2 i hi]
   ·show binV t.length 12 (semTr t (kTr c).2) (semTr t (kTr d).2) i↔¬binV t.length 11 (semTr t c) (semTr t d) i
    simp only[binV,if_neg (show ¬(12=11) by decide),if_true];rw[ih.f2 hn.1 i hi,jh.f2 hn.2 i hi]
    by_cases hx:(semTr t c).1 i<;>simp[hx]
  ·have hn:pathT c=false/\pathT d=false:=by simpa [fit2T] using hf
   refine⟨fun _ i hi=>?_,fun _ i hi=>?_,fun h=>(by cases h)⟩
   ·show binV t.length 12 (semTr t (kTr c).1) (semTr t (kTr d).1) i↔binV t.length 12 (semTr t c) (semTr t d) i
    simp only[binV,if_neg (show ¬(12=11) by decide),if_true];rw[ih.f1 hn.1 i hi,jh.f1 hn.2 i hi]
   ·show binV t.length 11 (semTr t (kTr c).2) (semTr t (kTr d).2) i↔¬binV t.length 12 (semTr t c) (semTr t d) i
    simp only[binV,if_neg (show ¬(12=11) by decide),if_true];rw[ih.f2 hn.1 i hi,jh.f2 hn.2 i hi]
    exact not_or.symm
  ·have hn:pathT c=false/\pathT d=false:=by simpa [fit2T] using hf
   refine⟨fun _ i hi=>?_,fun _ i hi=>?_,fun h=>(by cases h)⟩
   ·show binV t.length 12 (semTr t (kTr c).2) (semTr t (kTr d).1) i↔binV t.length 13 (semTr t c) (semTr t d) i
    simp only[binV,if_neg (show ¬(12=11) by decide),if_neg (show ¬(13=11) by decide),if_neg (show ¬(13=12) by decide),if_true];rw[ih.f2 hn.1 i hi,jh.f1 hn.2 i hi]
    by_cases hx:(semTr t c).1 i<;>simp[hx]
   ·show binV t.length 11 (semTr t (kTr c).1) (semTr t (kTr d).2) i↔¬binV t.length 13 (semTr t c) (semTr t d) i
    simp only[binV,if_neg (show ¬(13=11) by decide),if_neg (show ¬(13=12) by decide),if_true];rw[ih.f1 hn.1 i hi,jh.f2 hn.2 i hi]
    by_cases hx:(semTr t c).1 i<;>simp[hx]
  ·have hn:pathT c=false/\pathT d=false:=by simpa [fit2T] using hf
   refine⟨fun _ i hi=>?_,fun _ i hi=>?_,fun h=>(by cases h)⟩
   ·show binV t.length 12 (semT t 11 0 [semTr t (kTr c).1,semTr t (kTr d).1]) (semT t 11 0 [semTr t (kTr c).2,semTr t (kTr d).2]) i↔binV t.length 14 (semTr t c) (semTr t d) i
    simp only[semT,binV,if_neg (show ¬(12=11) by decide),if_neg (show ¬(14=11) by decide),if_neg (show ¬(14=12) by decide),if_neg (show ¬(14=13) by decide),if_true]
    rw[ih.f1 hn.1 i hi,jh.f1 hn.2 i hi,ih.f2 hn.1 i hi,jh.f2 hn.2 i hi];by_cases hx:(semTr t c).1 i<;>by_cases hy:(semTr t d).1 i<;>simp[hx,hy]
   ·show binV t.length 12 (semT t 11 0 [semTr t (kTr c).1,semTr t (kTr d).2]) (semT t 11 0 [semTr t (kTr c).2,semTr t (kTr d).1]) i↔¬binV t.length 14 (semTr t c) (semTr t d) i
    simp only[semT,binV,if_neg (show ¬(12=11) by decide),if_neg (show ¬(14=11) by decide),if_neg (show ¬(14=12) by decide),if_neg (show ¬(14=13) by decide),if_true]
    rw[ih.f1 hn.1 i hi,jh.f1 hn.2 i hi,ih.f2 hn.1 i hi,jh.f2 hn.2 i hi];by_cases hx:(semTr t c).1 i<;>by_cases hy:(semTr t d).1 i<;>simp[hx,hy]
  ·have hn:pathT c=false/\pathT d=false:=by simpa [fit2T] using hf
   exact⟨fun _ i hi=>(q3z (ih.f1 hn.1) (jh.f1 hn.2) i).1,fun _ i hi=>(q4d (ih.f2 hn.1) (jh.f2 hn.2) i).2,fun h=>(by cases h)⟩
  ·have hn:pathT c=false/\pathT d=false:=by simpa [fit2T] using hf
   exact⟨fun _ i hi=>(q3z (ih.f1 hn.1) (jh.f1 hn.2) i).2,fun _ i hi=>(q4d (ih.f2 hn.1) (jh.f2 hn.2) i).1,fun h=>(by cases h)⟩
  ·have hn:pathT c=true/\pathT d=false:=by simpa [fit2T] using hf
   refine⟨fun _ i hi=>?_,fun _ i hi=>?_,fun h=>(by cases h)⟩
   ·show binV t.length 17 (semTr t (kTr c).1) (semTr t (kTr d).1) i↔binV t.length 17 (semTr t c) (semTr t d) i
    simp[binV]
    constructor
    ·rintro⟨k,h1,h2⟩
     have h1':=(ih.w1 hn.1 i hi k).1 h1;exact⟨k,h1',(jh.f1 hn.2 k (hwi i k hi h1').2).1 h2⟩
    ·rintro⟨k,h1,h2⟩
     exact⟨k,(ih.w1 hn.1 i hi k).2 h1,(jh.f1 hn.2 k (hwi i k hi h1).2).2 h2⟩
   ·show binV t.length 18 (semTr t (kTr c).1) (semTr t (kTr d).2) i↔¬binV t.length 17 (semTr t c) (semTr t d) i
    simp[binV]
    constructor
    ·intro h k h1
     exact(jh.f2 hn.2 k (hwi i k hi h1).2).1 (h k ((ih.w1 hn.1 i hi k).2 h1))
    ·intro h k h1
     have h1':=(ih.w1 hn.1 i hi k).1 h1;exact(jh.f2 hn.2 k (hwi i k hi h1').2).2 (h k h1')
  ·have hn:pathT c=true/\pathT d=false:=by simpa [fit2T] using hf
   refine⟨fun _ i hi=>?_,fun _ i hi=>?_,fun h=>(by cases h)⟩
   ·show binV t.length 18 (semTr t (kTr c).1) (semTr t (kTr d).1) i↔binV t.length 18 (semTr t c) (semTr t d) i
    simp[binV]
    constructor
    ·intro h k h1
     exact(jh.f1 hn.2 k (hwi i k hi h1).2).1 (h k ((ih.w1 hn.1 i hi k).2 h1))
    ·intro h k h1
     have h1':=(ih.w1 hn.1 i hi k).1 h1;exact(jh.f1 hn.2 k (hwi i k hi h1').2).2 (h k h1')
   ·show binV t.length 17 (semTr t (kTr c).1) (semTr t (kTr d).2) i↔¬binV t.length 18 (semTr t c) (semTr t d) i
    simp[binV]
    constructor
    ·rintro⟨k,h1,h2⟩
     have h1':=(ih.w1 hn.1 i hi k).1 h1;exact⟨k,h1',(jh.f2 hn.2 k (hwi i k hi h1').2).1 h2⟩
    ·rintro⟨k,h1,h2⟩
     exact⟨k,(ih.w1 hn.1 i hi k).2 h1,(jh.f2 hn.2 k (hwi i k hi h1).2).2 h2⟩
  ·have hn:pathT c=true/\pathT d=true:=by simpa [fit2T] using hf
   refine⟨fun h=>(by cases h),fun h=>(by cases h),fun _ i hi k=>?_⟩
   show binY 21 (semTr t (kTr c).1) (semTr t (kTr d).1) i k↔binY 21 (semTr t c) (semTr t d) i k
   simp only[binY,if_true];rw[ih.w1 hn.1 i hi k,jh.w1 hn.2 i hi k]
  ·have hn:pathT c=true/\pathT d=true:=by simpa [fit2T] using hf
   refine⟨fun h=>(by cases h),fun h=>(by cases h),fun _ i hi k=>?_⟩
   show binY 22 (semTr t (kTr c).1) (semTr t (kTr d).1) i k↔binY 22 (semTr t c) (semTr t d) i k
   simp only[binY,if_neg (show ¬(22=21) by decide)]
   constructor
   ·rintro⟨j,h1,h2⟩
    have h1':=(ih.w1 hn.1 i hi j).1 h1;exact⟨j,h1',(jh.w1 hn.2 j (hwi i j hi h1').2 k).1 h2⟩
   ·rintro⟨j,h1,h2⟩
    exact⟨j,(ih.w1 hn.1 i hi j).2 h1,(jh.w1 hn.2 j (hwi i j hi h1).2 k).2 h2⟩
def kerT:Tr->Bool
 | .leaf (op,_)=>op != 3
 | .un (op,_) c=>if op=6 then (match c with | .leaf (o,_)=>o==2|_=>false) else (op==7 || op==8 || op==19 || op==20 || op==23)&&kerT c
 | .bin (op,_) c d=>(op != 13&&op != 14)&&(kerT c&&kerT d)
theorem ker_k:∀T:Tr,T.WF->kerT (kTr T).1=true/\(pathT T=false->kerT (kTr T).2=true)
 | .leaf (op,p),h=>by
  rcases qR h with⟨rfl,hp⟩|⟨rfl,rfl|rfl|rfl|rfl|rfl⟩<;>exact⟨rfl,fun _=>rfl⟩
 | .un (op,p) c,h=>by
  obtain⟨rfl,hc,hf,ho⟩:=qG h;have ih:=ker_k c hc;rcases ho with rfl|rfl|rfl|rfl|rfl|rfl|rfl|rfl
  ·have hn:pathT c=false:=by simpa [fit1T] using hf
   exact⟨ih.2 hn,fun _=>ih.1⟩
  ·have hn:pathT c=false:=by simpa [fit1T] using hf
   exact⟨by show kerT (.un (7,0) _)=true;simp[kerT,ih.1],fun _=>by show kerT (.un (8,0) _)=true;simp[kerT,ih.2 hn]⟩
  ·have hn:pathT c=false:=by simpa [fit1T] using hf
   exact⟨by show kerT (.un (8,0) _)=true;simp[kerT,ih.1],fun _=>by show kerT (.un (7,0) _)=true;simp[kerT,ih.2 hn]⟩
  ·have hn:pathT c=false:=by simpa [fit1T] using hf
   exact⟨by show kerT (.bin (15,0) _ _)=true;simp[kerT,ih.1],fun _=>by show kerT (.bin (16,0) _ _)=true;simp[kerT,ih.2 hn]⟩
  ·have hn:pathT c=false:=by simpa [fit1T] using hf
   exact⟨by show kerT (.bin (16,0) _ _)=true;simp[kerT,ih.1],fun _=>by show kerT (.bin (15,0) _ _)=true;simp[kerT,ih.2 hn]⟩
  ·exact⟨by show kerT (.un (19,0) _)=true;simp[kerT,ih.1],fun h=>(by cases h)⟩
  ·exact⟨by show kerT (.un (20,0) _)=true;simp[kerT,ih.1],fun h=>(by cases h)⟩
  ·exact⟨by show kerT (.un (23,0) _)=true;simp[kerT,ih.1],fun h=>(by cases h)⟩
 | .bin (op,p) c d,h=>by
  obtain⟨rfl,hc,hd,hf,ho⟩:=qz h;have ih:=ker_k c hc;have jh:=ker_k d hd;rcases ho with rfl|rfl|rfl|rfl|rfl|rfl|rfl|rfl|rfl|rfl
  ·have hn:pathT c=false/\pathT d=false:=by simpa [fit2T] using hf
   exact⟨by show kerT (.bin (11,0) _ _)=true;simp[kerT,ih.1,jh.1],fun _=>by show kerT (.bin (12,0) _ _)=true;simp[kerT,ih.2 hn.1,jh.2 hn.2]⟩
  ·have hn:pathT c=false/\pathT d=false:=by simpa [fit2T] using hf
   exact⟨by show kerT (.bin (12,0) _ _)=true;simp[kerT,ih.1,jh.1],fun _=>by show kerT (.bin (11,0) _ _)=true;simp[kerT,ih.2 hn.1,jh.2 hn.2]⟩
  ·have hn:pathT c=false/\pathT d=false:=by simpa [fit2T] using hf
   exact⟨by show kerT (.bin (12,0) _ _)=true;simp[kerT,ih.2 hn.1,jh.1],fun _=>by show kerT (.bin (11,0) _ _)=true;simp[kerT,ih.1,jh.2 hn.2]⟩
  ·have hn:pathT c=false/\pathT d=false:=by simpa [fit2T] using hf
   exact⟨by show kerT (.bin (12,0) (.bin (11,0) _ _) (.bin (11,0) _ _))=true;simp[kerT,ih.1,jh.1,ih.2 hn.1,jh.2 hn.2],fun _=>by show kerT (.bin (12,0) (.bin (11,0) _ _) (.bin (11,0) _ _))=true;simp[kerT,ih.1,jh.1,ih.2 hn.1,jh.2 hn.2]⟩
  ·have hn:pathT c=false/\pathT d=false:=by simpa [fit2T] using hf
   exact⟨by show kerT (.bin (15,0) _ _)=true;simp[kerT,ih.1,jh.1],fun _=>by show kerT (.bin (16,0) _ _)=true;simp[kerT,ih.2 hn.1,jh.2 hn.2]⟩
  ·have hn:pathT c=false/\pathT d=false:=by simpa [fit2T] using hf
   exact⟨by show kerT (.bin (16,0) _ _)=true;simp[kerT,ih.1,jh.1],fun _=>by show kerT (.bin (15,0) _ _)=true;simp[kerT,ih.2 hn.1,jh.2 hn.2]⟩
  ·have hn:pathT c=true/\pathT d=false:=by simpa [fit2T] using hf
   exact⟨by show kerT (.bin (17,0) _ _)=true;simp[kerT,ih.1,jh.1],fun _=>by show kerT (.bin (18,0) _ _)=true;simp[kerT,ih.1,jh.2 hn.2]⟩
  ·have hn:pathT c=true/\pathT d=false:=by simpa [fit2T] using hf
   exact⟨by show kerT (.bin (18,0) _ _)=true;simp[kerT,ih.1,jh.1],fun _=>by show kerT (.bin (17,0) _ _)=true;simp[kerT,ih.1,jh.2 hn.2]⟩
  ·exact⟨by show kerT (.bin (21,0) _ _)=true;simp[kerT,ih.1,jh.1],fun h=>(by cases h)⟩
  ·exact⟨by show kerT (.bin (22,0) _ _)=true;simp[kerT,ih.1,jh.1],fun h=>(by cases h)⟩
theorem q1w:∀T:Tr,T.WF->kerT T=true->(kTr T).1=T/\(pathT T=false->(kTr (kTr T).2).2=T)
 | .leaf (op,p),h,hk=>by
  rcases qR h with⟨rfl,hp⟩|⟨rfl,rfl|rfl|rfl|rfl|rfl⟩
  ·exact⟨rfl,fun _=>rfl⟩
  ·exact⟨rfl,fun _=>rfl⟩
  ·exact⟨rfl,fun _=>rfl⟩
  ·cases hk
  ·exact⟨rfl,fun _=>rfl⟩
  ·exact⟨rfl,fun _=>rfl⟩
 | .un (op,p) c,h,hk=>by
  obtain⟨rfl,hc,hf,ho⟩:=qG h;rcases ho with rfl|rfl|rfl|rfl|rfl|rfl|rfl|rfl
  ·match c,hk with
   | .leaf (o,q),hk=>
    obtain rfl:o=2:=by simpa [kerT] using hk
    exact⟨rfl,fun _=>rfl⟩
  ·have hn:pathT c=false:=by simpa [fit1T] using hf
   have ih:=q1w c hc (by simpa [kerT] using hk)
   exact⟨congrArg (Tr.un (7,0)) ih.1,fun _=>congrArg (Tr.un (7,0)) (ih.2 hn)⟩
  ·have hn:pathT c=false:=by simpa [fit1T] using hf
   have ih:=q1w c hc (by simpa [kerT] using hk)
   exact⟨congrArg (Tr.un (8,0)) ih.1,fun _=>congrArg (Tr.un (8,0)) (ih.2 hn)⟩
  ·simp[kerT]at hk
  ·simp[kerT]at hk
  ·have ih:=q1w c hc (by simpa [kerT] using hk)
   exact⟨congrArg (Tr.un (19,0)) ih.1,fun h=>(by cases h)⟩
  ·have ih:=q1w c hc (by simpa [kerT] using hk)
   exact⟨congrArg (Tr.un (20,0)) ih.1,fun h=>(by cases h)⟩
  ·have ih:=q1w c hc (by simpa [kerT] using hk)
   exact⟨congrArg (Tr.un (23,0)) ih.1,fun h=>(by cases h)⟩
 | .bin (op,p) c d,h,hk=>by
  obtain⟨rfl,hc,hd,hf,ho⟩:=qz h
  have hkk:kerT c=true/\kerT d=true:=by
   have:=hk
   simp[kerT]at this
   exact this.2
  have ih:=q1w c hc hkk.1;have jh:=q1w d hd hkk.2;have two:∀(op:Nat) {a b a' b':Tr},a=a'->b=b'->Tr.bin (op,0) a b=Tr.bin (op,0) a' b':=fun op a b a' b' h1 h2=>by rw[h1,h2]
  rcases ho with rfl|rfl|rfl|rfl|rfl|rfl|rfl|rfl|rfl|rfl
  ·have hn:pathT c=false/\pathT d=false:=by simpa [fit2T] using hf
   exact⟨two 11 ih.1 jh.1,fun _=>two 11 (ih.2 hn.1) (jh.2 hn.2)⟩
  ·have hn:pathT c=false/\pathT d=false:=by simpa [fit2T] using hf
   exact⟨two 12 ih.1 jh.1,fun _=>two 12 (ih.2 hn.1) (jh.2 hn.2)⟩
  ·simp[kerT]at hk
  ·simp[kerT]at hk
  ·have hn:pathT c=false/\pathT d=false:=by simpa [fit2T] using hf
   exact⟨two 15 ih.1 jh.1,fun _=>two 15 (ih.2 hn.1) (jh.2 hn.2)⟩
  ·have hn:pathT c=false/\pathT d=false:=by simpa [fit2T] using hf
   exact⟨two 16 ih.1 jh.1,fun _=>two 16 (ih.2 hn.1) (jh.2 hn.2)⟩
  ·have hn:pathT c=true/\pathT d=false:=by simpa [fit2T] using hf
   exact⟨two 17 ih.1 jh.1,fun _=>two 17 (by rw[ih.1,ih.1]) (jh.2 hn.2)⟩
  ·have hn:pathT c=true/\pathT d=false:=by simpa [fit2T] using hf
   exact⟨two 18 ih.1 jh.1,fun _=>two 18 (by rw[ih.1,ih.1]) (jh.2 hn.2)⟩
  ·exact⟨two 21 ih.1 jh.1,fun h=>(by cases h)⟩
  ·exact⟨two 22 ih.1 jh.1,fun h=>(by cases h)⟩
def IsKer (ts:List Tk):Prop:=∃T:Tr,T.WF/\pathT T=false/\kerT T=true/\ts=T.flat
open Classical in
noncomputable def chkE (ts:List Tk):Nat:=if 2048<ts.length then 3 else if IsKer ts then 0 else 7
theorem q34{ts:List Tk}:chkE ts=0↔ts.length<=2048/\IsKer ts:=by
 unfold chkE
 split
 ·exact⟨fun h=>(by cases h),fun h=>absurd h.1 (by omega)⟩
 ·split
  ·next h1 h2=>exact⟨fun _=>⟨by omega,h2⟩,fun _=>rfl⟩
  ·next h1 h2=>exact⟨fun h=>(by cases h),fun h=>absurd h.2 h2⟩
def rOwn (op:Nat):List Nat :=
 if op=3 then [4,1,8,11] else if op<=5 then [op] else if op=6 then [25] else if op=7 then [24,7] else if op=8 then [24,8]
 else if op=9 then [0,24,15] else if op=10 then [1,24,16] else if op=13 then [25,26,12] else if op=14 then [24,26,11,25,27,11,12]
 else if op=19\/op=20\/op=23 then [24,op] else [24,26,op]
def rNeg (op:Nat):List Nat :=
 if op=0 then [1] else if op=1 then [0] else if op=2 then [2,6] else if op=3 then [5,0,7,12] else if op=4 then [5] else if op=5 then [4]
 else if op=6 then [24] else if op=7 then [25,8] else if op=8 then [25,7] else if op=9 then [1,25,16] else if op=10 then [0,25,15]
 else if op=11 then [25,27,12] else if op=12 then [25,27,11] else if op=13 then [24,27,11] else if op=14 then [24,27,11,25,26,11,12]
 else if op=15 then [25,27,16] else if op=16 then [25,27,15] else if op=17 then [24,27,18] else if op=18 then [24,27,17] else []
def wr1 (k:Tk) (a:List Kq) (o:Nat):List Tk :=
 if o=24 then (a.getD 0 ([],[])).1 else if o=25 then (a.getD 0 ([],[])).2 else if o=26 then (a.getD 1 ([],[])).1 else if o=27 then (a.getD 1 ([],[])).2
 else if o=2 then [k] else [(o,0)]
def wrS (ops:List Nat) (k:Tk) (a:List Kq):List Tk:=ops.flatMap (wr1 k a)
def jOp (k:Tk) (a:List Kq):Kq:=(wrS (rOwn k.1) k a,wrS (rNeg k.1) k a)
def jStep (st:List Kq) (k:Tk):List Kq:=st.take (st.length-takC k)++[jOp k (st.drop (st.length-takC k))]
def jS (ts:List Tk) (st:List Kq):List Kq:=ts.foldl jStep st
theorem q8n(a b:List Tk)(st:List Kq):jS (a++b) st=jS b (jS a st):=by unfold jS;rw[List.foldl_append]
def jFl (T:Tr):Kq:=((kTr T).1.flat,if pathT T then [] else (kTr T).2.flat)
theorem q7n{op p:Nat}(h:(Tr.leaf (op,p)).WF):jOp (op,p) []=jFl (.leaf (op,p)):=by
 rcases qR h with⟨rfl,hp⟩|⟨rfl,rfl|rfl|rfl|rfl|rfl⟩<;>rfl
theorem qcD{op p:Nat}{c:Tr}(h:(Tr.un (op,p) c).WF):jOp (op,p) [jFl c]=jFl (.un (op,p) c):=by
 obtain⟨rfl,hc,hf,ho⟩:=qG h;rcases ho with rfl|rfl|rfl|rfl|rfl|rfl|rfl|rfl<;>simp[fit1T]at hf<;>simp[jOp,wrS,wr1,rOwn,rNeg,jFl,kTr,Tr.flat,qa0,isPathB,hf]
theorem q9K{op p:Nat}{c d:Tr}(h:(Tr.bin (op,p) c d).WF):jOp (op,p) [jFl c,jFl d]=jFl (.bin (op,p) c d):=by
 obtain⟨rfl,hc,hd,hf,ho⟩:=qz h;rcases ho with rfl|rfl|rfl|rfl|rfl|rfl|rfl|rfl|rfl|rfl<;>simp[fit2T]at hf<;>simp[jOp,wrS,wr1,rOwn,rNeg,jFl,kTr,Tr.flat,q7u,isPathB,hf]
def s1 (T:Tr):Nat:=(kTr T).1.flat.length
def s2 (T:Tr):Nat:=(kTr T).2.flat.length
theorem qj8{op p:Nat}(h:(Tr.leaf (op,p)).WF):s2 (.leaf (op,p))<=2*s1 (.leaf (op,p))/\s1 (.leaf (op,p))<=2*s2 (.leaf (op,p)):=by
 rcases qR h with⟨rfl,hp⟩|⟨rfl,rfl|rfl|rfl|rfl|rfl⟩<;>simp[s1,s2,kTr,Tr.flat]
theorem dbl:∀T:Tr,T.WF->pathT T=false->s2 T<=2*s1 T/\s1 T<=2*s2 T
 | .leaf (op,p),h,_=>qj8 h
 | .un (op,p) c,h,hp=>by
  obtain⟨rfl,hc,hf,ho⟩:=qG h;have ih:=dbl c hc;unfold s1 s2 at ih ⊢;rcases ho with rfl|rfl|rfl|rfl|rfl|rfl|rfl|rfl<;>simp[fit1T]at hf<;>simp[qa0,isPathB]at hp<;>(have ih:=ih hf;simp[kTr,Tr.flat];omega)
 | .bin (op,p) c d,h,hp=>by
  obtain⟨rfl,hc,hd,hf,ho⟩:=qz h;have ih:=dbl c hc;have jh:=dbl d hd;unfold s1 s2 at ih jh ⊢;rcases ho with rfl|rfl|rfl|rfl|rfl|rfl|rfl|rfl|rfl|rfl<;>simp[fit2T]at hf<;>simp[q7u,isPathB]at hp<;>simp only[hf,forall_const]at ih jh<;>(simp[kTr,Tr.flat];omega)
def wt (T:Tr):Nat:=if pathT T then s1 T else min (s1 T) (s2 T)
theorem wt_un{op p:Nat}{c:Tr}(h:(Tr.un (op,p) c).WF):wt c<=wt (.un (op,p) c):=by
 obtain⟨rfl,hc,hf,ho⟩:=qG h;unfold wt s1 s2;rcases ho with rfl|rfl|rfl|rfl|rfl|rfl|rfl|rfl<;>simp[fit1T]at hf<;>(simp[qa0,isPathB,kTr,Tr.flat,hf];try omega)
theorem qjg{op p:Nat}{c d:Tr}(h:(Tr.bin (op,p) c d).WF):wt c<=wt (.bin (op,p) c d)/\wt d<=wt (.bin (op,p) c d):=by
 obtain⟨rfl,hc,hd,hf,ho⟩:=qz h;unfold wt s1 s2;rcases ho with rfl|rfl|rfl|rfl|rfl|rfl|rfl|rfl|rfl|rfl<;>simp[fit2T]at hf<;>(simp[q7u,isPathB,kTr,Tr.flat,hf];omega)
theorem qd5{T:Tr}(h:T.WF):(jFl T).1.length<=2*wt T/\(jFl T).2.length<=2*wt T:=by
 unfold jFl wt
 cases hp:pathT T with
 |true=>simp[s1];omega
 |false=>
  have:=dbl T h hp
  unfold s1 s2 at *;simp
  omega
structure JOk (B:Nat) (st:List Kq) (q:Tk):Prop where
 tk:∃m,takesN q=some m
 le:takC q<=st.length
 l1:(jOp q (st.drop (st.length-takC q))).1.length<=B
 l2:(jOp q (st.drop (st.length-takC q))).2.length<=B
theorem q8o:∀T:Tr,T.WF->∀(st:List Kq) (B:Nat),2*wt T<=B->jS T.flat st=st++[jFl T]/\∀k (h:k<T.flat.length),JOk B (jS (T.flat.take k) st) T.flat[k]
 | .leaf (op,p),hT,st,B,hB=>by
  have e:=q1S hT.1;have hd:=qZ st [] 0 rfl;rw[List.append_nil]at hd;have hw:=qd5 hT;refine⟨?_,fun k h=>?_⟩
  ·show jStep st (op,p)=_
   unfold jStep;rw[e,hd.1,hd.2,q7n hT]
  ·have hk:k=0:=by simp[Tr.flat]at h;exact h
   subst hk
   show JOk B st (op,p)
   refine⟨⟨0,hT.1⟩,by rw[e];exact Nat.zero_le _,?_,?_⟩
   ·rw[e,hd.1,q7n hT];omega
   ·rw[e,hd.1,q7n hT];omega
 | .un (op,p) c,hT,st,B,hB=>by
  have e:=q1S hT.1;have hw:=qd5 hT;have hwc:=wt_un hT;obtain⟨h1,h2⟩:=q8o c hT.2.2 st B (by omega)
  have hd:=qZ st [jFl c] 1 rfl;refine⟨?_,?_⟩
  ·show jS (c.flat++[(op,p)]) st=_
   rw[q8n,h1]
   show jStep _ (op,p)=_
   unfold jStep;rw[e,hd.1,hd.2,qcD hT]
  ·show ∀k (h:k<(c.flat++[(op,p)]).length),JOk B (jS ((c.flat++[(op,p)]).take k) st) (c.flat++[(op,p)])[k]
   refine q2B (P:=fun l x=>JOk B (jS l st) x) h2 fun k h=>?_
   have hk:k=0:=by simp at h;exact h
   subst hk
   show JOk B (jS (c.flat++[]) st) (op,p)
   rw[List.append_nil,h1];refine⟨⟨1,hT.1⟩,by rw[e];simp,?_,?_⟩
   ·rw[e,hd.1,qcD hT];omega
   ·rw[e,hd.1,qcD hT];omega
 | .bin (op,p) c d,hT,st,B,hB=>by
  have e:=q1S hT.1;have hw:=qd5 hT;have hwc:=qjg hT;obtain⟨h1,h2⟩:=q8o c hT.2.2.1 st B (by omega)
  obtain⟨h3,h4⟩:=q8o d hT.2.2.2 (st++[jFl c]) B (by omega)
  have hd:=qZ st [jFl c,jFl d] 2 rfl;rw[show st++[jFl c,jFl d]=st++[jFl c]++[jFl d] by simp]at hd
  have h5:jS (c.flat++d.flat) st=st++[jFl c]++[jFl d]:=by rw[q8n,h1,h3]
  refine⟨?_,?_⟩
  ·show jS (c.flat++d.flat++[(op,p)]) st=_
   rw[q8n,h5]
   show jStep _ (op,p)=_
   unfold jStep;rw[e,hd.1,hd.2,q9K hT]
  ·show ∀k (h:k<(c.flat++d.flat++[(op,p)]).length),JOk B (jS ((c.flat++d.flat++[(op,p)]).take k) st) (c.flat++d.flat++[(op,p)])[k]
   refine q2B (P:=fun l x=>JOk B (jS l st) x) (q2B (P:=fun l x=>JOk B (jS l st) x) h2 fun k h=>?_) fun k h=>?_
   ·show JOk B (jS (c.flat++d.flat.take k) st) d.flat[k]
    rw[q8n,h1];exact h4 k h
   ·have hk:k=0:=by simp at h;exact h
    subst hk
    show JOk B (jS (c.flat++d.flat++[]) st) (op,p)
    rw[List.append_nil,h5];refine⟨⟨2,hT.1⟩,by rw[e];simp,?_,?_⟩
    ·rw[e,hd.1,q9K hT];omega
    ·rw[e,hd.1,q9K hT];omega
def fewAt (b:Bool) (op p:Nat):Bool :=
 if op=2 then decide (p<8) else if op=3\/op=9\/op=10\/op=13\/op=14 then false else if op=6/\b=false then false else decide (op<=23)&&decide (p=0)
def fewL:Bool->List Tk->Bool
 |_,[]=>true
 |b,k::r=>fewAt b k.1 k.2&&fewL (decide (k.1=2)) r
def lastP (b:Bool) (l:List Tk):Bool:=match l.getLast? with|none=>b|some k=>decide (k.1=2)
theorem q58(b:Bool)(l:List Tk)(k:Tk):lastP b (l++[k])=decide (k.1=2):=by simp[lastP]
theorem qeI(b:Bool)(l:List Tk)(k:Tk):lastP b (k::l)=lastP (decide (k.1=2)) l:=by
 cases l with
 |nil=>rfl
 |cons x l=>
  have:∃y,(x::l).getLast? = some y:=⟨_,List.getLast?_eq_some_getLast (by simp)⟩
  obtain⟨y,hy⟩:=this;simp[lastP,List.getLast?_cons_cons,hy]
theorem q36:∀(b:Bool) (l r:List Tk),fewL b (l++r)=(fewL b l&&fewL (lastP b l) r)
 |b,[],r=>by simp[fewL,lastP]
 |b,k::l,r=>by
  show (fewAt b k.1 k.2&&fewL _ (l++r))=((fewAt b k.1 k.2&&fewL _ l)&&_)
  rw[q36,qeI,Bool.and_assoc]
theorem q3R(b:Bool)(k:Tk):fewL b [k]=fewAt b k.1 k.2:=by simp[fewL]
def rootP:Tr->Bool
 | .leaf k=>decide (k.1=2)
 | .un k _=>decide (k.1=2)
 | .bin k _ _=>decide (k.1=2)
theorem q3S:∀T:Tr,T.WF->∀b,fewL b T.flat=kerT T/\lastP b T.flat=rootP T
 | .leaf (op,p),h,b=>by
  rcases qR h with⟨rfl,hp⟩|⟨rfl,rfl|rfl|rfl|rfl|rfl⟩
  ·refine⟨?_,rfl⟩
   show fewL b [(2,p)]=true
   rw[q3R];simp[fewAt];omega
  all_goals exact⟨by show fewL b [_]=_;rw[q3R];simp[fewAt,kerT],rfl⟩
 | .un (op,p) c,h,b=>by
  obtain⟨rfl,hc,hf,ho⟩:=qG h;have ih:=q3S c hc b;refine⟨?_,by show lastP b (c.flat++_)=_;rw[q58];rfl⟩
  show fewL b (c.flat++[(op,0)])=_
  rw[q36,ih.1,ih.2,q3R];rcases ho with rfl|rfl|rfl|rfl|rfl|rfl|rfl|rfl
  ·match c,hc with
   | .leaf (o,q),_=>by_cases e:o=2<;>simp[fewAt,kerT,rootP,e]
   | .un (o,q) c,hc=>
    obtain⟨_,_,_,ho⟩:=qG hc;have e:¬o=2:=by omega
    simp[fewAt,kerT,rootP,e]
   | .bin (o,q) c d,hc=>
    obtain⟨_,_,_,_,ho⟩:=qz hc;have e:¬o=2:=by omega
    simp[fewAt,kerT,rootP,e]
  all_goals simp[fewAt,kerT]
 | .bin (op,p) c d,h,b=>by
  obtain⟨rfl,hc,hd,hf,ho⟩:=qz h;have ih:=q3S c hc b;have jh:=q3S d hd;refine⟨?_,by show lastP b (c.flat++d.flat++_)=_;rw[q58];rfl⟩
  show fewL b (c.flat++d.flat++[(op,0)])=_
  rw[q36,q36,ih.1,(jh _).1,q3R];rcases ho with rfl|rfl|rfl|rfl|rfl|rfl|rfl|rfl|rfl|rfl<;>simp[fewAt,kerT]
def kd (p:Pt):Nat:=if p.path then 2 else if p.plain then 1 else 0
def isN (k want:Nat):Bool:=decide (k=want) || (decide (k=1)&&decide (want=0))
def kiMade (op:Nat) (a:List Nat):Nat :=
 if op<=2 then 1 else if op<=5 then 0 else if op=6 then 1 else if op<=8 then 0 else if op=11\/op=12 then (if a.getD 0 0=1/\a.getD 1 0=1 then 1 else 0) else if op<=18 then 0 else 2
def kiFit (op:Nat) (a:List Nat):Bool :=
 if op<=5 then true else if op=6 then decide (a.getD 0 0=1) else if op<=8 then isN (a.getD 0 0) 0 else if op<=16 then isN (a.getD 0 0) 0&&isN (a.getD 1 0) 0
 else if op<=18 then decide (a.getD 0 0=2)&&isN (a.getD 1 0) 0 else if op=19 then decide (a.getD 0 0=1) else if op=20 then isN (a.getD 0 0) 0 else if op=23 then decide (a.getD 0 0=2)
 else decide (a.getD 0 0=2)&&decide (a.getD 1 0=2)
def takO (op:Nat):Nat:=if op<=5 then 0 else if op<=10\/op=19\/op=20\/op=23 then 1 else 2
theorem q3A(op:Nat):(takO op=0/\op<=5)\/(takO op=1/\5<op/\(op<=10\/op=19\/op=20\/op=23))\/(takO op=2/\5<op/\¬(op<=10\/op=19\/op=20\/op=23)):=by
 unfold takO
 split
 ·exact Or.inl ⟨rfl,by assumption⟩
 ·split
  ·exact Or.inr (Or.inl ⟨rfl,by omega,by assumption⟩)
  ·exact Or.inr (Or.inr ⟨rfl,by omega,by assumption⟩)
theorem arm0{op:Nat}(h:0=takO op)(n3:op≠3):op=0\/op=1\/op=2\/op=4\/op=5:=by rcases q3A op with⟨h1,h2⟩|⟨h1,h2⟩|⟨h1,h2⟩<;>omega
theorem arm1{op:Nat}(h:1=takO op)(n6:op≠6)(n9:op≠9)(n10:op≠10):op=7\/op=8\/op=19\/op=20\/op=23:=by rcases q3A op with⟨h1,h2⟩|⟨h1,h2⟩|⟨h1,h2⟩<;>omega
theorem arm2{op:Nat}(h:2=takO op)(h23:op<=23)(n13:op≠13)(n14:op≠14):op=11\/op=12\/op=15\/op=16\/op=17\/op=18\/op=21\/op=22:=by rcases q3A op with⟨h1,h2⟩|⟨h1,h2⟩|⟨h1,h2⟩<;>omega
theorem q6t(op:Nat):takO op<=2:=by rcases q3A op with⟨h1,h2⟩|⟨h1,h2⟩|⟨h1,h2⟩<;>omega
def kiS:List Tk->List Nat->Option (List Nat)
 | [],st=>some st
 |k::r,st=>if st.length<takO k.1 then none else if kiFit k.1 (st.drop (st.length-takO k.1))=true then kiS r (st.take (st.length-takO k.1)++[kiMade k.1 (st.drop (st.length-takO k.1))]) else none
theorem q62{b:Bool}{op p:Nat}(h:fewAt b op p=true):takesN (op,p)=some (takO op)/\op<=23/\op≠3/\op≠9/\op≠10/\op≠13/\op≠14/\(op=6->b=true):=by
 have hs:(op=2/\p<8)\/(op≠2/\op<=23/\p=0/\op≠3/\op≠9/\op≠10/\op≠13/\op≠14/\(op=6->b=true)):=by
  unfold fewAt at h
  split at h
  ·exact Or.inl ⟨by assumption,by simpa using h⟩
  ·split at h
   ·cases h
   ·split at h
    ·cases h
    ·rename_i h1 h2 h3
     simp at h
     refine Or.inr ⟨h1,h.1,h.2,by omega,by omega,by omega,by omega,by omega,fun e=>?_⟩
     cases b with
     |true=>rfl
     |false=>exact absurd ⟨e,rfl⟩ h3
 have h1:¬(23<op\/(op≠2/\p≠0)\/(op=2/\7<p)):=by rcases hs with⟨h1,h2⟩|⟨h1,h2,h3,_⟩<;>omega
 refine⟨?_,by omega,?_,?_,?_,?_,?_,?_⟩
 ·unfold takesN takO
  dsimp only
  rw[if_neg h1]
  split
  ·rfl
  ·split<;>rfl
 all_goals rcases hs with⟨e1,e2⟩|⟨e1,e2,e3,e4,e5,e6,e7,e8,e9⟩<;>first|assumption|omega
theorem q7o(p:Pt)(h:Sane p):(kd p=2/\p.path=true/\p.plain=false)\/(kd p=1/\p.path=false/\p.plain=true)\/(kd p=0/\p.path=false/\p.plain=false):=by
 unfold Sane at h;unfold kd
 cases h1:p.path<;>cases h2:p.plain<;>simp_all
theorem qiP{op:Nat}{x:Pt}(h:Sane x)(ho:op=7\/op=8\/op=19\/op=20\/op=23\/(op=6/\kd x=1))(i p:Nat):kiFit op [kd x]=fitsP op [x]/\(fitsP op [x]=true->kiMade op [kd x]=kd (putP (op,p) [x] i)):=by
 rcases q7o x h with⟨e,e1,e2⟩|⟨e,e1,e2⟩|⟨e,e1,e2⟩<;>rw[e]at ho ⊢<;>rcases ho with rfl|rfl|rfl|rfl|rfl|⟨rfl,h0⟩<;>first|(exact absurd h0 (by decide))|(simp[kiFit,kiMade,fitsP,putP,kd,isN,isPathB,plainB,e1,e2])
theorem qiQ{op:Nat}{x y:Pt}(h:Sane x)(h':Sane y)(ho:op=11\/op=12\/op=15\/op=16\/op=17\/op=18\/op=21\/op=22)(i p:Nat):kiFit op [kd x,kd y]=fitsP op [x,y]/\(fitsP op [x,y]=true->kiMade op [kd x,kd y]=kd (putP (op,p) [x,y] i)):=by
 rcases q7o x h with⟨e,e1,e2⟩|⟨e,e1,e2⟩|⟨e,e1,e2⟩<;>rcases q7o y h' with⟨f,f1,f2⟩|⟨f,f1,f2⟩|⟨f,f1,f2⟩<;>rw[e,f]<;>rcases ho with rfl|rfl|rfl|rfl|rfl|rfl|rfl|rfl<;>simp[kiFit,kiMade,fitsP,putP,kd,isN,isPathB,plainB,e1,e2,f1,f2]
theorem qhY{op p:Nat}(ho:op=0\/op=1\/op=2\/op=4\/op=5)(i:Nat):kiFit op []=true/\fitsP op []=true/\kiMade op []=kd (putP (op,p) [] i):=by
 rcases ho with rfl|rfl|rfl|rfl|rfl<;>simp[kiFit,kiMade,fitsP,putP,kd,isPathB,plainB]
theorem q9N:∀(l:List Tk) (b:Bool) (i:Nat) (st:List Pt),fewL b l=true->(∀x∈st,Sane x)->(b=true->∃r x,st=r++[x]/\kd x=1)->kiS l (st.map kd)=(readP l i st).map fun x=>x.2.map kd
 | [],_,_,st,_,_,_=>rfl
 | (op,p)::r,b,i,st,hf,hs,hb=>by
  have hf':(fewAt b op p&&fewL (decide (op=2)) r)=true:=hf;rw[Bool.and_eq_true]at hf';obtain⟨hf1,hf2⟩:=hf';obtain⟨ht,h23,n3,n9,n10,n13,n14,n6⟩:=q62 hf1;unfold kiS readP;rw[ht];dsimp only
  rw[List.length_map];by_cases hl:st.length<takO op
  ·rw[if_pos hl,if_pos hl];rfl
  rw[if_neg hl,if_neg hl,<-List.map_drop,<-List.map_take];have hsd:∀x∈st.drop (st.length-takO op),Sane x:=fun x hx=>hs x (List.mem_of_mem_drop hx)
  have hst:∀x∈st.take (st.length-takO op),Sane x:=fun x hx=>hs x (List.mem_of_mem_take hx)
  have hal:(st.drop (st.length-takO op)).length=takO op:=by simp;omega
  have h6:op=6->∃x,st.drop (st.length-takO op)=[x]/\kd x=1:=fun e=>by
   obtain⟨r',x,e1,e2⟩:=hb (n6 e);refine⟨x,?_,e2⟩
   subst e1 e;exact(qZ r' [x] 1 rfl).1
  generalize st.drop (st.length-takO op)=a at *;generalize st.take (st.length-takO op)=rest at *
  have key:kiFit op (a.map kd)=fitsP op a/\(fitsP op a=true->kiMade op (a.map kd)=kd (putP (op,p) a i)):=by
   match a,hal,hsd,h6 with
   | [],hal,_,_=>
    have:=qhY (p:=p) (arm0 hal n3) i
    exact⟨this.1.trans this.2.1.symm,fun _=>this.2.2⟩
   | [x],hal,hsd,h6=>
    have h7:op=7\/op=8\/op=19\/op=20\/op=23\/(op=6/\kd x=1):=by
     by_cases e:op=6
     ·obtain⟨y,e1,e2⟩:=h6 e
      injection e1 with e1 _;subst e1;exact Or.inr (Or.inr (Or.inr (Or.inr (Or.inr ⟨e,e2⟩))))
     ·rcases arm1 hal e n9 n10 with e|e|e|e|e
      ·exact Or.inl e
      ·exact Or.inr (Or.inl e)
      ·exact Or.inr (Or.inr (Or.inl e))
      ·exact Or.inr (Or.inr (Or.inr (Or.inl e)))
      ·exact Or.inr (Or.inr (Or.inr (Or.inr (Or.inl e))))
    exact qiP (hsd x (by simp)) h7 i p
   | [x,y],hal,hsd,_=>
    exact qiQ (hsd x (by simp)) (hsd y (by simp)) (arm2 hal h23 n13 n14) i p
   |_::_::_::_,hal,_,_=>have:=q6t op;simp at hal;omega
  rw[key.1];by_cases hfit:fitsP op a=true
  ·rw[if_pos hfit,if_pos hfit,key.2 hfit,show rest.map kd++[kd (putP (op,p) a i)]=(rest++[putP (op,p) a i]).map kd by simp]
   rw[q9N r _ (i+1) (rest++[putP (op,p) a i]) hf2 ?_ ?_]
   ·cases readP r (i+1) (rest++[putP (op,p) a i])<;>rfl
   ·intro x hx
    rcases List.mem_append.1 hx with hx|hx
    ·exact hst x hx
    ·simp at hx;subst hx;exact qaB _ _ _
   ·intro e
    simp at e
    subst e;refine⟨rest,_,rfl,?_⟩
    match a,hal with
    | [],_=>rfl
  ·rw[if_neg hfit,if_neg hfit];rfl
def kiOk (ts:List Tk):Bool:=match kiS ts [] with|some [x]=>isN x 0|_=>false
theorem q4c(ts:List Tk):IsKer ts↔fewL false ts=true/\kiOk ts=true:=by
 constructor
 ·rintro⟨T,hT,hp,hk,rfl⟩
  have h1:fewL false T.flat=true:=((q3S T hT false).1).trans hk;refine⟨h1,?_⟩
  unfold kiOk;have:=q9N T.flat false 0 [] h1 (fun x hx=>(by simp at hx)) (fun h=>(by cases h))
  rw[q3X.2 ⟨T,hT,rfl,rfl,rfl⟩]at this;rw[show kiS T.flat []=some [kd (T.part 0)] from this];have hp':(T.part 0).path=false:=hp;simp[kd,hp',isN]
 ·rintro⟨h1,h2⟩
  unfold kiOk at h2;have:=q9N ts false 0 [] h1 (fun x hx=>(by simp at hx)) (fun h=>(by cases h))
  rw[show kiS ts []=_ from this]at h2
  cases hr:readP ts 0 [] with
  |none=>rw[hr]at h2;simp at h2
  |some x=>
   obtain⟨all,st⟩:=x;rw[hr]at h2
   match st,h2,hr with
   | [],h2,_=>simp at h2
   | [p],h2,hr=>
    obtain⟨T,hT,rfl,rfl,rfl⟩:=q3X.1 hr;refine⟨T,hT,?_,?_,rfl⟩
    ·cases hb:pathT T with
     |false=>rfl
     |true=>
      unfold pathT at hb;simp[kd,hb,isN]at h2
    ·rw[<-(q3S T hT false).1];exact h1
   |_::_::_,h2,_=>simp at h2
def mkT (k:Tk) (a:List Tr):Tr :=
 match a with
 | []=>.leaf k
 | [c]=>.un k c
 |c::d::_=>.bin k c d
def gStep (st:List Tr) (k:Tk):List Tr:=st.take (st.length-takC k)++[mkT k (st.drop (st.length-takC k))]
def gS (ts:List Tk) (st:List Tr):List Tr:=ts.foldl gStep st
theorem qcx(a b:List Tk)(st:List Tr):gS (a++b) st=gS b (gS a st):=by unfold gS;rw[List.foldl_append]
theorem q38:∀T:Tr,T.WF->∀st,gS T.flat st=st++[T]
 | .leaf (op,p),h,st=>by
  have e:=q1S h.1;have hd:=qZ st [] 0 rfl;rw[List.append_nil]at hd
  show gStep st (op,p)=_
  unfold gStep;rw[e,hd.1,hd.2];rfl
 | .un (op,p) c,h,st=>by
  have e:=q1S h.1;have hd:=qZ st [c] 1 rfl
  show gS (c.flat++[(op,p)]) st=_
  rw[qcx,q38 c h.2.2]
  show gStep _ (op,p)=_
  unfold gStep;rw[e,hd.1,hd.2];rfl
 | .bin (op,p) c d,h,st=>by
  have e:=q1S h.1;have hd:=qZ st [c,d] 2 rfl
  show gS (c.flat++d.flat++[(op,p)]) st=_
  rw[qcx,qcx,q38 c h.2.2.1,q38 d h.2.2.2]
  show gStep _ (op,p)=_
  rw[show st++[c]++[d]=st++[c,d] by simp]
  unfold gStep;rw[e,hd.1,hd.2];rfl
theorem qfp:∀(ts:List Tk) (st:List Tr) (js:List Kq),st.length=js.length->(gS ts st).length=(jS ts js).length
 | [],st,js,h=>h
 |k::ts,st,js,h=>by
  show (gS ts (gStep st k)).length=(jS ts (jStep js k)).length
  refine qfp ts _ _ ?_
  unfold gStep jStep;simp[h]
structure GGood (ts:List Tk) (T:Tr):Prop where
 few:ts.length<=2048
 ok:∀k (h:k<ts.length),(∃m,takesN ts[k]=some m)/\takC ts[k]<=(gS (ts.take k) []).length
 fin:gS ts []=[T]
theorem ggood{T:Tr}(h:T.WF)(hl:T.flat.length<=2048):GGood T.flat T:=by
 obtain⟨_,h2⟩:=q8o T h [] (2*wt T) (Nat.le_refl _);refine⟨hl,fun k hk=>⟨(h2 k hk).tk,?_⟩,q38 T h []⟩
 rw[qfp _ [] [] rfl];exact(h2 k hk).le
def tn (x y:Nat) (b:Bool):Nat:=if b then y else x
structure It where
 op:Nat
 p:Nat
 a:Int
 b:Int
deriving DecidableEq
def itemOf (k:Tk) (args:List Nat):It:=match args with
 | []=>⟨k.1,k.2,-1,-1⟩
 | [x]=>⟨k.1,k.2,(x:Int),-1⟩
 |x::y::_=>⟨k.1,k.2,(x:Int),(y:Int)⟩
def addI (items:List It) (x:It):List It×Nat:=match items.findIdx? (· = x) with
 |some j=>(items,j)
 |none=>(items++[x],items.length)
theorem q1n(items:List It)(x:It):(∃j,addI items x=(items,j)/\items[j]? =some x)\/(addI items x=(items++[x],items.length)/\x ∉ items):=by
 unfold addI
 cases h:items.findIdx? (· = x) with
 |none=>
  refine Or.inr ⟨rfl,fun hx=>?_⟩
  have:=List.findIdx?_eq_none_iff.1 h x hx
  simp at this
 |some j=>
  refine Or.inl ⟨j,rfl,?_⟩
  obtain⟨hj,h1,_⟩:=List.findIdx?_eq_some_iff_getElem.1 h;rw[List.getElem?_eq_getElem hj];simpa using h1
def insT (items:List It):Tr->List It×Nat
 | .leaf k=>addI items (itemOf k [])
 | .un k c=>addI (insT items c).1 (itemOf k [(insT items c).2])
 | .bin k c d=>addI (insT (insT items c).1 d).1 (itemOf k [(insT items c).2,(insT (insT items c).1 d).2])
inductive Rep (items:List It):Nat->Tr->Prop where
 |leaf {n:Nat} {k:Tk}:items[n]? =some (itemOf k [])->Rep items n (.leaf k)
 |un {n m:Nat} {k:Tk} {c:Tr}:items[n]? =some (itemOf k [m])->m<n->Rep items m c->Rep items n (.un k c)
 |bin {n m l:Nat} {k:Tk} {c d:Tr}:items[n]? =some (itemOf k [m,l])->m<n->l<n->Rep items m c->Rep items l d->Rep items n (.bin k c d)
theorem Rep.lt{items:List It}{n:Nat}{T:Tr}(h:Rep items n T):n<items.length:=by
 cases h with
 |leaf h=>exact(List.getElem?_eq_some_iff.1 h).1
 |un h _ _=>exact(List.getElem?_eq_some_iff.1 h).1
 |bin h _ _ _ _=>exact(List.getElem?_eq_some_iff.1 h).1
theorem q7h{items:List It}{n:Nat}{x:It}(l:List It)(h:items[n]? =some x):(items++l)[n]? =some x:=by
 rw[List.getElem?_append_left (List.getElem?_eq_some_iff.1 h).1];exact h
theorem Rep.more{items:List It}(l:List It){n:Nat}{T:Tr}(h:Rep items n T):Rep (items++l) n T:=by
 induction h with
 |leaf h=>exact .leaf (q7h l h)
 |un h h1 _ ih=>exact .un (q7h l h) h1 ih
 |bin h h1 h2 _ _ ih jh=>exact .bin (q7h l h) h1 h2 ih jh
theorem q24{k k':Tk}{a a':List Nat}(h:itemOf k a=itemOf k' a'):k=k'/\a.take 2=a'.take 2:=by
 obtain⟨k1,k2⟩:=k;obtain⟨k1',k2'⟩:=k'
 have ho:k1=k1'/\k2=k2'/\(itemOf (k1,k2) a).a=(itemOf (k1',k2') a').a/\(itemOf (k1,k2) a).b=(itemOf (k1',k2') a').b:=by
  refine⟨?_,?_,by rw[h],by rw[h]⟩
  ·have:=congrArg It.op h
   match a,a' with
   | [],[]=>exact this
   | [],[_]=>exact this
   | [],_::_::_=>exact this
   | [_],[]=>exact this
   | [_],[_]=>exact this
   | [_],_::_::_=>exact this
   |_::_::_,[]=>exact this
   |_::_::_,[_]=>exact this
   |_::_::_,_::_::_=>exact this
  ·have:=congrArg It.p h
   match a,a' with
   | [],[]=>exact this
   | [],[_]=>exact this
   | [],_::_::_=>exact this
   | [_],[]=>exact this
   | [_],[_]=>exact this
   | [_],_::_::_=>exact this
   |_::_::_,[]=>exact this
   |_::_::_,[_]=>exact this
   |_::_::_,_::_::_=>exact this
 obtain⟨rfl,rfl,ha,hb⟩:=ho;refine⟨rfl,?_⟩
 match a,a',ha,hb with
 | [],[],_,_=>rfl
 | [],[y],ha,_=>exact absurd (show (-1:Int)=(y:Int) from ha) (by omega)
 | [],y::_::_,ha,_=>exact absurd (show (-1:Int)=(y:Int) from ha) (by omega)
 | [x],[],ha,_=>exact absurd (show (x:Int)=-1 from ha) (by omega)
 | [x],[y],ha,_=>
  have:(x:Int)=(y:Int):=ha
  have e:x=y:=by omega
  rw[e]
 | [x],_::z::_,_,hb=>exact absurd (show (-1:Int)=(z:Int) from hb) (by omega)
 |x::_::_,[],ha,_=>exact absurd (show (x:Int)=-1 from ha) (by omega)
 |_::z::_,[_],_,hb=>exact absurd (show (z:Int)=-1 from hb) (by omega)
 |x::z::_,y::t::_,ha,hb=>
  have h1:(x:Int)=(y:Int):=ha;have h2:(z:Int)=(t:Int):=hb;have e1:x=y:=by omega
  have e2:z=t:=by omega
  subst e1 e2;simp
theorem Rep.tree{items:List It}:∀{T T':Tr} {n:Nat},Rep items n T->Rep items n T'->T=T'
 | .leaf k,T',n,.leaf h,h'=>by
  cases h' with
  |leaf h2=>rw[h]at h2;injection h2 with h2;rw[(q24 h2).1]
  |un h2 _ _=>rw[h]at h2;injection h2 with h2;have:=(q24 h2).2;simp at this
  |bin h2 _ _ _ _=>rw[h]at h2;injection h2 with h2;have:=(q24 h2).2;simp at this
 | .un k c,T',n,.un h _ hc,h'=>by
  cases h' with
  |leaf h2=>rw[h]at h2;injection h2 with h2;have:=(q24 h2).2;simp at this
  |un h2 _ hc2=>
   rw[h]at h2;injection h2 with h2
   have:=q24 h2
   simp at this
   obtain⟨e1,e2⟩:=this;subst e1 e2;rw[Rep.tree hc hc2]
  |bin h2 _ _ _ _=>rw[h]at h2;injection h2 with h2;have:=(q24 h2).2;simp at this
 | .bin k c d,T',n,.bin h _ _ hc hd,h'=>by
  cases h' with
  |leaf h2=>rw[h]at h2;injection h2 with h2;have:=(q24 h2).2;simp at this
  |un h2 _ _=>rw[h]at h2;injection h2 with h2;have:=(q24 h2).2;simp at this
  |bin h2 _ _ hc2 hd2=>
   rw[h]at h2;injection h2 with h2
   have:=q24 h2
   simp at this
   obtain⟨e1,e2,e3⟩:=this;subst e1 e2 e3;rw[Rep.tree hc hc2,Rep.tree hd hd2]
theorem q3V{items:List It}(hn:items.Nodup){i j:Nat}{x:It}(h:items[i]? =some x)(h':items[j]? =some x):i=j:=by
 obtain⟨hi,e1⟩:=List.getElem?_eq_some_iff.1 h;obtain⟨hj,e2⟩:=List.getElem?_eq_some_iff.1 h';exact(List.getElem_inj hn).1 (e1.trans e2.symm)
theorem Rep.num{items:List It}(hn:items.Nodup):∀{T:Tr} {n m:Nat},Rep items n T->Rep items m T->n=m
 | .leaf k,n,m,.leaf h,.leaf h'=>q3V hn h h'
 | .un k c,n,m,.un h _ hc,.un h' _ hc'=>by
  have e:=Rep.num hn hc hc';subst e;exact q3V hn h h'
 | .bin k c d,n,m,.bin h _ _ hc hd,.bin h' _ _ hc' hd'=>by
  have e:=Rep.num hn hc hc';have e':=Rep.num hn hd hd';subst e e';exact q3V hn h h'
theorem q2x(items:List It)(x:It):∃l,(addI items x).1=items++l/\l.length<=1:=by
 rcases q1n items x with⟨j,e,_⟩|⟨e,_⟩
 ·exact⟨[],by rw[e,List.append_nil],by simp⟩
 ·exact⟨[x],by rw[e],by simp⟩
theorem q9D(items:List It)(x:It):(addI items x).1[(addI items x).2]? =some x:=by
 rcases q1n items x with⟨j,e,h⟩|⟨e,_⟩
 ·rw[e];exact h
 ·rw[e];simp
theorem q4T{items:List It}(hn:items.Nodup)(x:It):(addI items x).1.Nodup:=by
 rcases q1n items x with⟨j,e,h⟩|⟨e,hx⟩
 ·rw[e];exact hn
 ·rw[e];exact List.nodup_append.2 ⟨hn,by simp,fun a ha b hb=>by simp at hb;subst hb;exact fun e=>hx (e ▸ ha)⟩
def Low (items:List It):Prop:=∀(n:Nat) (x:It),items[n]? =some x->x.a<(n:Int)/\x.b<(n:Int)
theorem q4S{items:List It}(h:Low items){x:It}(ha:x.a<(items.length:Int))(hb:x.b<(items.length:Int)):Low (addI items x).1:=by
 rcases q1n items x with⟨j,e,_⟩|⟨e,_⟩
 ·rw[e];exact h
 ·rw[e]
  intro n y hy;by_cases hn:n<items.length
  ·rw[List.getElem?_append_left hn]at hy;exact h n y hy
  ·have hn2:=(List.getElem?_eq_some_iff.1 hy).1
   simp at hn2
   obtain rfl:n=items.length:=by omega
   simp at hy
   subst hy;exact⟨ha,hb⟩
structure Ins (items:List It) (T:Tr) (r:List It×Nat):Prop where
 rep:Rep r.1 r.2 T
 pre:∃l,r.1=items++l/\l.length<=T.size
 nodup:r.1.Nodup
 low:Low r.1
theorem qcH{items:List It}(h:Low items){n m:Nat}{k:Tk}(e:items[n]? =some (itemOf k [m])):m<n:=by
 have:=(h n _ e).1
 simp[itemOf]at this
 exact this
theorem q9S{items:List It}(h:Low items){n m l:Nat}{k:Tk}(e:items[n]? =some (itemOf k [m,l])):m<n/\l<n:=by
 have:=h n _ e
 simp[itemOf]at this
 exact this
theorem q1t:∀(T:Tr) (items:List It),items.Nodup->Low items->Ins items T (insT items T)
 | .leaf k,items,hn,hl=>by
  have hlow:=q4S (x:=itemOf k []) hl (by show (-1:Int)<_;omega) (by show (-1:Int)<_;omega)
  exact⟨.leaf (q9D _ _),q2x _ _,q4T hn _,hlow⟩
 | .un k c,items,hn,hl=>by
  have ih:=q1t c items hn hl;have hlt:=ih.rep.lt;obtain⟨l,e,hll⟩:=ih.pre;have hlow:=q4S (x:=itemOf k [(insT items c).2]) ih.low (by show ((insT items c).2:Int)<_;omega) (by show (-1:Int)<_;omega)
  obtain⟨l',e',hl'⟩:=q2x (insT items c).1 (itemOf k [(insT items c).2]);have hat:=q9D (insT items c).1 (itemOf k [(insT items c).2]);refine⟨?_,⟨l++l',?_,?_⟩,q4T ih.nodup _,hlow⟩
  ·refine .un hat (qcH hlow hat) ?_
   show Rep (addI (insT items c).1 (itemOf k [(insT items c).2])).1 _ _
   rw[e'];exact ih.rep.more _
  ·show (addI (insT items c).1 (itemOf k [(insT items c).2])).1=_
   rw[e',e,List.append_assoc]
  ·simp[Tr.size];omega
 | .bin k c d,items,hn,hl=>by
  have ih:=q1t c items hn hl;have jh:=q1t d (insT items c).1 ih.nodup ih.low;have hlt:=ih.rep.lt;have hlt2:=jh.rep.lt;obtain⟨l,e,hll⟩:=ih.pre;obtain⟨l2,e2,hll2⟩:=jh.pre;have hge:(insT items c).1.length<=(insT (insT items c).1 d).1.length:=by rw[e2];simp
  have hlow:=q4S (x:=itemOf k [(insT items c).2,(insT (insT items c).1 d).2]) jh.low (by show ((insT items c).2:Int)<_;omega) (by show ((insT (insT items c).1 d).2:Int)<_;omega)
  obtain⟨l',e',hl'⟩:=q2x (insT (insT items c).1 d).1 (itemOf k [(insT items c).2,(insT (insT items c).1 d).2]);have hat:=q9D (insT (insT items c).1 d).1 (itemOf k [(insT items c).2,(insT (insT items c).1 d).2]);have hll3:=q9S hlow hat;refine⟨?_,⟨l++l2++l',?_,?_⟩,q4T jh.nodup _,hlow⟩
  ·refine .bin hat hll3.1 hll3.2 ?_ ?_
   ·show Rep (addI (insT (insT items c).1 d).1 (itemOf k [(insT items c).2,(insT (insT items c).1 d).2])).1 _ _
    rw[e',e2,List.append_assoc];exact ih.rep.more _
   ·show Rep (addI (insT (insT items c).1 d).1 (itemOf k [(insT items c).2,(insT (insT items c).1 d).2])).1 _ _
    rw[e'];exact jh.rep.more _
  ·show (addI (insT (insT items c).1 d).1 (itemOf k [(insT items c).2,(insT (insT items c).1 d).2])).1=_
   rw[e',e2,e,List.append_assoc,List.append_assoc,List.append_assoc]
  ·simp[Tr.size];omega
theorem q4U{items:List It}(hn:items.Nodup){n:Nat}{x:It}(h:items[n]? =some x):addI items x=(items,n):=by
 rcases q1n items x with⟨j,e,h'⟩|⟨_,hx⟩
 ·rw[e,q3V hn h' h]
 ·exact absurd (List.mem_of_getElem? h) hx
theorem q4a{items:List It}(hn:items.Nodup):∀{T:Tr} {n:Nat},Rep items n T->insT items T=(items,n)
 | .leaf k,n,.leaf h=>q4U hn h
 | .un k c,n,.un h _ hc=>by
  have ih:=q4a hn hc
  show addI (insT items c).1 (itemOf k [(insT items c).2])=_
  rw[ih];exact q4U hn h
 | .bin k c d,n,.bin h _ _ hc hd=>by
  have ih:=q4a hn hc;have jh:=q4a hn hd
  show addI (insT (insT items c).1 d).1 (itemOf k [(insT items c).2,(insT (insT items c).1 d).2])=_
  rw[ih];dsimp only
  rw[jh];exact q4U hn h
def tkStep (s:List It×List Nat) (k:Tk):List It×List Nat:=((addI s.1 (itemOf k (s.2.drop (s.2.length-takC k)))).1,s.2.take (s.2.length-takC k)++[(addI s.1 (itemOf k (s.2.drop (s.2.length-takC k)))).2])
def tkS (ts:List Tk) (s:List It×List Nat):List It×List Nat:=ts.foldl tkStep s
theorem qa7(a b:List Tk)(s:List It×List Nat):tkS (a++b) s=tkS b (tkS a s):=by unfold tkS;rw[List.foldl_append]
theorem q5h:∀T:Tr,T.WF->∀items st,tkS T.flat (items,st)=((insT items T).1,st++[(insT items T).2])
 | .leaf (op,p),h,items,st=>by
  have e:=q1S h.1;have hd:=qZ st [] 0 rfl;rw[List.append_nil]at hd
  show tkStep (items,st) (op,p)=_
  unfold tkStep;dsimp only
  rw[e,hd.1,hd.2];rfl
 | .un (op,p) c,h,items,st=>by
  have e:=q1S h.1;have hd:=qZ st [(insT items c).2] 1 rfl
  show tkS (c.flat++[(op,p)]) (items,st)=_
  rw[qa7,q5h c h.2.2]
  show tkStep _ (op,p)=_
  unfold tkStep;dsimp only
  rw[e,hd.1,hd.2];rfl
 | .bin (op,p) c d,h,items,st=>by
  have e:=q1S h.1;have hd:=qZ st [(insT items c).2,(insT (insT items c).1 d).2] 2 rfl
  show tkS (c.flat++d.flat++[(op,p)]) (items,st)=_
  rw[qa7,qa7,q5h c h.2.2.1,q5h d h.2.2.2]
  show tkStep _ (op,p)=_
  rw[show st++[(insT items c).2]++[(insT (insT items c).1 d).2]=st++[(insT items c).2,(insT (insT items c).1 d).2] by simp]
  unfold tkStep;dsimp only
  rw[e,hd.1,hd.2];rfl
def Whole (items:List It):Prop:=∀n,n<items.length->∃T:Tr,Rep items n T
theorem q4V{items:List It}(h:Whole items){x:It}(hx:x ∉ items->∃T,Rep (items++[x]) items.length T):Whole (addI items x).1:=by
 rcases q1n items x with⟨j,e,_⟩|⟨e,hn⟩
 ·rw[e];exact h
 ·rw[e]
  intro n hlt;by_cases hn2:n<items.length
  ·obtain⟨T,hT⟩:=h n hn2
   exact⟨T,hT.more _⟩
  ·simp at hlt
   obtain rfl:n=items.length:=by omega
   exact hx hn
theorem q3x:∀(T:Tr) (items:List It),items.Nodup->Low items->Whole items->Whole (insT items T).1
 | .leaf k,items,_,_,hw=>q4V hw fun _=>⟨.leaf k,.leaf (by simp)⟩
 | .un k c,items,hn,hl,hw=>by
  have ih:=q1t c items hn hl;have iw:=q3x c items hn hl hw;exact q4V iw fun _=>⟨.un k c,.un (by simp) ih.rep.lt (ih.rep.more _)⟩
 | .bin k c d,items,hn,hl,hw=>by
  have ih:=q1t c items hn hl;have iw:=q3x c items hn hl hw;have jh:=q1t d _ ih.nodup ih.low;have jw:=q3x d _ ih.nodup ih.low iw;obtain⟨l,e,_⟩:=jh.pre;have hc:Rep (insT (insT items c).1 d).1 (insT items c).2 c:=by rw[e];exact ih.rep.more _
  exact q4V jw fun _=>⟨.bin k c d,.bin (by simp) hc.lt jh.rep.lt (hc.more _) (jh.rep.more _)⟩
structure TabIs (items:List It):Prop where
 nodup:items.Nodup
 low:Low items
 whole:Whole items
 few:items.length<=4096
theorem qaG:TabIs []:=⟨by simp,fun n x h=>(by simp at h),fun n h=>(by simp at h),by simp⟩
def kI (items:List It) (ts:List Tk):List It:=(tkS ts (items,[])).1
def kN (items:List It) (ts:List Tk):Nat:=(tkS ts (items,[])).2.getLast?.getD 0
theorem q9L{T:Tr}(h:T.WF)(items:List It):kI items T.flat=(insT items T).1/\kN items T.flat=(insT items T).2:=by
 unfold kI kN;rw[q5h T h];exact⟨rfl,by simp⟩
noncomputable def keepE (items:List It) (ts:List Tk):Nat:=if chkE ts≠0 then chkE ts else if 4096<(kI items ts).length then 3 else 0
noncomputable def keepI (items:List It) (ts:List Tk):List It:=if keepE items ts=0 then kI items ts else items
noncomputable def keepN (items:List It) (ts:List Tk):Nat:=if keepE items ts=0 then kN items ts else 0
noncomputable def findB (items:List It) (ts:List Tk):Bool:=decide (chkE ts=0)&&decide (kI items ts=items)
noncomputable def findN (items:List It) (ts:List Tk):Nat:=if findB items ts=true then kN items ts else 0
structure Kept (items:List It) (ts:List Tk) (n:Nat) (items':List It):Prop where
 is:TabIs items'
 pre:∃l,items'=items++l
 rep:∃T:Tr,T.WF/\pathT T=false/\ts=T.flat/\Rep items' n T
 lt:n<items'.length
 again:keepE items' ts=0/\keepI items' ts=items'/\keepN items' ts=n
 find:findB items' ts=true/\findN items' ts=n
theorem kept{items:List It}(h:TabIs items){ts:List Tk}(he:keepE items ts=0):Kept items ts (keepN items ts) (keepI items ts):=by
 have hI:keepI items ts=kI items ts:=if_pos he;have hN:keepN items ts=kN items ts:=if_pos he
 have hc:chkE ts=0:=by
  unfold keepE at he;by_cases hc:chkE ts=0
  ·exact hc
  ·rw[if_pos hc]at he;exact absurd he hc
 have hl:¬4096<(kI items ts).length:=by
  intro hl;unfold keepE at he;rw[if_neg (by omega),if_pos hl]at he
  cases he
 rw[hI,hN];obtain⟨hts,T,hW,hp,hk,rfl⟩:=q34.1 hc;obtain⟨e1,e2⟩:=q9L hW items;rw[e1]at hl;have ins:=q1t T items h.nodup h.low;have hw:=q3x T items h.nodup h.low h.whole;rw[e1,e2];obtain⟨f1,f2⟩:=q9L hW (insT items T).1;have there:=q4a ins.nodup ins.rep;rw[there]at f1 f2;have hE:keepE (insT items T).1 T.flat=0:=by unfold keepE;rw[if_neg (by omega),f1,if_neg hl]
 refine⟨⟨ins.nodup,ins.low,hw,by omega⟩,?_,⟨T,hW,hp,rfl,ins.rep⟩,ins.rep.lt,⟨hE,?_,?_⟩,?_,?_⟩
 ·obtain⟨l,e,_⟩:=ins.pre
  exact⟨l,e⟩
 ·unfold keepI;rw[if_pos hE,f1]
 ·unfold keepN;rw[if_pos hE,f2]
 ·unfold findB;rw[f1,hc];simp
 ·have:findB (insT items T).1 T.flat=true:=by unfold findB;rw[f1,hc];simp
  unfold findN;rw[if_pos this,f2]
theorem q7f{T S:Tr}(hT:T.WF)(hS:S.WF)(h:T.flat=S.flat):T=S:=by
 have h1:=q38 T hT [];have h2:=q38 S hS [];rw[h,h2]at h1;simpa using h1.symm
abbrev Fnd:=List It->It->Option (List It×Nat)
def nStep (fd:Fnd) (s:List It×List Nat) (k:Tk):Option (List It×List Nat):=(fd s.1 (itemOf k (s.2.drop (s.2.length-takC k)))).map fun r=>(r.1,s.2.take (s.2.length-takC k)++[r.2])
def nS (fd:Fnd):List Tk->List It×List Nat->Option (List It×List Nat)
 | [],s=>some s
 |k::r,s=>(nStep fd s k).bind (nS fd r)
theorem qcK(fd:Fnd):∀(a b:List Tk) (s:List It×List Nat),nS fd (a++b) s=(nS fd a s).bind (nS fd b)
 | [],b,s=>rfl
 |k::a,b,s=>by
  show (nStep fd s k).bind (nS fd (a++b))=((nStep fd s k).bind (nS fd a)).bind (nS fd b)
  cases nStep fd s k with
  |none=>rfl
  |some t=>exact qcK fd a b t
theorem qi7(fd:Fnd){ts:List Tk}{k:Nat}(h:k<ts.length){s t:List It×List Nat}(hs:nS fd (ts.take k) s=some t):nS fd (ts.take (k+1)) s=nStep fd t ts[k]:=by
 rw[List.take_add_one,List.getElem?_eq_getElem h]
 show nS fd (ts.take k++[ts[k]]) s=_
 rw[qcK,hs]
 show (nStep fd t ts[k]).bind (nS fd [])=_
 cases nStep fd t ts[k]<;>rfl
theorem qiX(fd:Fnd){ts:List Tk}{k:Nat}{s:List It×List Nat}(h:nS fd (ts.take k) s=none):nS fd ts s=none:=by
 have:nS fd (ts.take k++ts.drop k) s=none:=by rw[qcK,h];rfl
 rwa [List.take_append_drop]at this
theorem qfw(fd:Fnd):∀(ts:List Tk) (s t:List It×List Nat) (g:List Tr),s.2.length=g.length->nS fd ts s=some t->t.2.length=(gS ts g).length
 | [],s,t,g,h,e=>by injection e with e;subst e;exact h
 |k::ts,s,t,g,h,e=>by
  have e':(nStep fd s k).bind (nS fd ts)=some t:=e
  cases hn:nStep fd s k with
  |none=>rw[hn]at e';cases e'
  |some u=>
   rw[hn]at e'
   show t.2.length=(gS ts (gStep g k)).length
   refine qfw fd ts u t _ ?_ e'
   unfold nStep at hn
   cases hf:fd s.1 (itemOf k (s.2.drop (s.2.length-takC k))) with
   |none=>rw[hf]at hn;cases hn
   |some r=>
    rw[hf]at hn;injection hn with hn;subst hn;unfold gStep;simp[h]
structure FdOk (fd:Fnd):Prop where
 lt:∀{items x r},fd items x=some r->r.2<r.1.length
 pre:∀{items x r},fd items x=some r->∃l,r.1=items++l
def kpF (items:List It) (x:It):Option (List It×Nat):=match items.findIdx? (· = x) with
 |some j=>some (items,j)
 |none=>if items.length=4096 then none else some (items++[x],items.length)
theorem qiR:FdOk kpF:=by
 refine⟨fun {items x r} h=>?_,fun {items x r} h=>?_⟩
 ·unfold kpF at h
  split at h
  ·rename_i j hj
   injection h with h;subst h;exact(List.findIdx?_eq_some_iff_getElem.1 hj).1
  ·split at h
   ·cases h
   ·injection h with h
    subst h;simp
 ·unfold kpF at h
  split at h
  ·injection h with h
   subst h;exact⟨[],by simp⟩
  ·split at h
   ·cases h
   ·injection h with h
    subst h;exact⟨[x],rfl⟩
theorem qi0(items:List It)(x:It)(hl:items.length<=4096):kpF items x=if (addI items x).1.length<=4096 then some (addI items x) else none:=by
 unfold kpF addI
 cases items.findIdx? (· = x) with
 |some j=>simp only;rw[if_pos hl]
 |none=>
  simp only[List.length_append,List.length_cons,List.length_nil]
  by_cases e:items.length=4096
  ·rw[if_pos e,if_neg (by omega)]
  ·rw[if_neg e,if_pos (by omega)]
theorem qcZ:∀(ts:List Tk) (s:List It×List Nat),∃l,(tkS ts s).1=s.1++l
 | [],s=>⟨[],by simp[tkS]⟩
 |k::ts,s=>by
  obtain⟨l,h⟩:=qcZ ts (tkStep s k);obtain⟨l',h',_⟩:=q2x s.1 (itemOf k (s.2.drop (s.2.length-takC k)));refine⟨l'++l,?_⟩
  show (tkS ts (tkStep s k)).1=_
  rw[h,show (tkStep s k).1=s.1++l' from h',List.append_assoc]
theorem q9V:∀(ts:List Tk) (s:List It×List Nat),s.1.length<=4096->nS kpF ts s=if (tkS ts s).1.length<=4096 then some (tkS ts s) else none
 | [],s,h=>by show some s=_;rw[show tkS [] s=s from rfl,if_pos h]
 |k::ts,s,h=>by
  show (nStep kpF s k).bind (nS kpF ts)=_
  rw[show tkS (k::ts) s=tkS ts (tkStep s k) from rfl];unfold nStep;rw[qi0 _ _ h];by_cases c:(addI s.1 (itemOf k (s.2.drop (s.2.length-takC k)))).1.length<=4096
  ·rw[if_pos c]
   show nS kpF ts (tkStep s k)=_
   exact q9V ts _ c
  ·rw[if_neg c]
   obtain⟨l,hl⟩:=qcZ ts (tkStep s k);rw[if_neg]
   ·rfl
   ·rw[hl,List.length_append]
    have:(tkStep s k).1.length=(addI s.1 (itemOf k (s.2.drop (s.2.length-takC k)))).1.length:=rfl
    omega
def hasW (ws:List Nat) (k:Nat):Bool:=(ws.getD (k / 64) 0).testBit (k % 64)
def putW (ws:List Nat) (k:Nat):List Nat:=ws.set (k / 64) (ws.getD (k / 64) 0 ||| 2 ^ (k % 64))
def joinT (ws us:List Nat) (p m:Nat):List Nat:=ws.mapIdx fun i x=>if p<=i/\i<m then x ||| us.getD i 0 else x
def OkW (W:Nat) (ws:List Nat):Prop:=ws.length=W/\∀i,ws.getD i 0<18446744073709551616
theorem two64:(18446744073709551616:Nat)=2 ^ 64:=by decide
theorem OkW.zero(W:Nat):OkW W (List.replicate W 0):=⟨by simp,fun i=>by simp[List.getD_eq_getElem?_getD,List.getElem?_replicate];split<;>simp⟩
theorem q2C(W k:Nat):hasW (List.replicate W 0) k=false:=by
 unfold hasW;simp only[List.getD_eq_getElem?_getD,List.getElem?_replicate]
 split<;>simp
theorem q7g(ws:List Nat)(i x j:Nat):(ws.set i x).getD j 0=if i=j/\i<ws.length then x else ws.getD j 0:=by
 simp only[List.getD_eq_getElem?_getD,List.getElem?_set]
 by_cases h:i=j
 ·subst h
  by_cases h2:i<ws.length
  ·simp[h2]
  ·rw[if_pos rfl,if_neg h2,if_neg (by omega)];simp[List.getElem?_eq_none (by omega:ws.length<=i)]
 ·simp[h]
theorem OkW.put{W:Nat}{ws:List Nat}(h:OkW W ws){k:Nat}:OkW W (putW ws k):=by
 refine⟨by unfold putW;rw[List.length_set];exact h.1,fun i=>?_⟩
 unfold putW;rw[q7g]
 split
 ·rw[two64]
  refine Nat.or_lt_two_pow (by rw[<-two64];exact h.2 _) (Nat.pow_lt_pow_right (by decide) (by omega))
 ·exact h.2 i
theorem q7j{W:Nat}{ws:List Nat}(h:OkW W ws){k:Nat}(hk:k / 64<W)(j:Nat):hasW (putW ws k) j=(hasW ws j || decide (j=k)):=by
 unfold hasW putW;rw[q7g];by_cases e:k / 64=j / 64
 ·rw[if_pos ⟨e,by rw[h.1];exact hk⟩,e,Nat.testBit_or,Nat.testBit_two_pow]
  have:(k % 64=j % 64)↔j=k:=by omega
  simp[this]
 ·rw[if_neg (fun h=>e h.1)]
  have:¬j=k:=fun h=>e (by rw[h])
  simp[this]
theorem q2f(ws us:List Nat)(p m:Nat):(joinT ws us p m).length=ws.length:=by simp[joinT]
theorem q1E(ws us:List Nat)(p m i:Nat):(joinT ws us p m).getD i 0=if p<=i/\i<m/\i<ws.length then ws.getD i 0 ||| us.getD i 0 else ws.getD i 0:=by
 unfold joinT;simp only[List.getD_eq_getElem?_getD,List.getElem?_mapIdx]
 by_cases h:i<ws.length
 ·rw[List.getElem?_eq_getElem h]
  simp only[Option.map_some,Option.getD_some]
  by_cases h2:p<=i/\i<m
  ·rw[if_pos h2,if_pos ⟨h2.1,h2.2,h⟩]
  ·rw[if_neg h2,if_neg (fun h3=>h2 ⟨h3.1,h3.2.1⟩)]
 ·rw[List.getElem?_eq_none (show ws.length<=i by omega),if_neg (by omega)]
  rfl
theorem qa5{xs ys:List Nat}(hl:xs.length=ys.length)(h:∀i,xs.getD i 0=ys.getD i 0):xs=ys:=by
 refine List.ext_getElem hl fun i h1 h2=>?_
 have:=h i
 simpa [List.getD_eq_getElem?_getD,h1,h2] using this
theorem qan(ws us:List Nat)(p:Nat):joinT ws us p p=ws:=qa5 (q2f ..) fun i=>by rw[q1E,if_neg (by omega)]
theorem qeF(ws us:List Nat)(p m:Nat)(h:p<=m)(hm:m<ws.length):joinT ws us p (m+1)=(joinT ws us p m).set m (ws.getD m 0 ||| us.getD m 0):=by
 refine qa5 (by simp[q2f]) fun i=>?_
 rw[q7g,q1E,q1E,q2f];by_cases e:m=i
 ·subst e
  rw[if_pos ⟨h,Nat.lt_succ_self _,hm⟩,if_pos ⟨rfl,hm⟩]
 ·rw[if_neg (show ¬(m=i/\m<ws.length) from fun h=>e h.1)]
  by_cases q:p<=i/\i<m/\i<ws.length
  ·rw[if_pos q,if_pos ⟨q.1,by omega,q.2.2⟩]
  ·rw[if_neg q,if_neg (fun q2=>q ⟨q2.1,by omega,q2.2.2⟩)]
theorem qeG{ws us:List Nat}{p m:Nat}(h:ws.getD m 0 ||| us.getD m 0=ws.getD m 0)(hp:p<=m)(hm:m<ws.length):joinT ws us p (m+1)=joinT ws us p m:=by
 refine qa5 (by simp[q2f]) fun i=>?_
 rw[q1E,q1E];by_cases e:i=m
 ·subst e
  rw[if_pos ⟨hp,Nat.lt_succ_self _,hm⟩,if_neg (by omega),h]
 ·by_cases q:p<=i/\i<m/\i<ws.length
  ·rw[if_pos q,if_pos ⟨q.1,by omega,q.2.2⟩]
  ·rw[if_neg q,if_neg (fun q2=>q ⟨q2.1,by omega,q2.2.2⟩)]
def joinW (ws us:List Nat) (p:Nat):List Nat:=joinT ws us p ws.length
theorem OkW.join{W:Nat}{ws us:List Nat}(h:OkW W ws)(k:OkW W us)(p m:Nat):OkW W (joinT ws us p m):=by
 refine⟨by rw[q2f];exact h.1,fun i=>?_⟩
 rw[q1E]
 split
 ·rw[two64]
  exact Nat.or_lt_two_pow (by rw[<-two64];exact h.2 _) (by rw[<-two64];exact k.2 _)
 ·exact h.2 i
theorem q49{W:Nat}{ws us:List Nat}(h:OkW W ws)(k:OkW W us)(q j:Nat)(hq:∀j,hasW us j=true->q<=j):hasW (joinW ws us (q / 64)) j=(hasW ws j || hasW us j):=by
 unfold joinW hasW;rw[q1E];by_cases h1:j / 64<ws.length
 ·by_cases h2:q / 64<=j / 64
  ·rw[if_pos ⟨h2,h1,h1⟩,Nat.testBit_or]
  ·rw[if_neg (fun h=>h2 h.1)]
   have:hasW us j=false:=by
    cases hb:hasW us j with
    |false=>rfl
    |true=>have:=hq j hb;omega
   unfold hasW at this;rw[this,Bool.or_false]
 ·rw[if_neg (fun h=>h1 h.2.1)]
  have e:us.getD (j / 64) 0=0:=by
   rw[List.getD_eq_getElem?_getD,List.getElem?_eq_none (by rw[k.1];rw[h.1]at h1;omega)];rfl
  rw[e];simp
theorem qeE(ws us:List Nat)(p m i:Nat):ws.getD i 0<=(joinT ws us p m).getD i 0:=by
 rw[q1E]
 split
 ·exact Nat.left_le_or
 ·exact Nat.le_refl _
theorem qg2:∀{xs ys:List Nat},xs.length=ys.length->(∀i,xs.getD i 0<=ys.getD i 0)->xs.sum<=ys.sum/\(xs≠ys->xs.sum<ys.sum)
 | [],[],_,_=>⟨Nat.le_refl _,fun h=>absurd rfl h⟩
 |x::xs,y::ys,hl,h=>by
  have h0:x<=y:=h 0;obtain⟨h1,h2⟩:=qg2 (xs:=xs) (ys:=ys) (by simpa using hl) fun i=>h (i+1)
  simp only[List.sum_cons]
  refine⟨by omega,fun hne=>?_⟩
  by_cases e:x=y
  ·subst e
   have:=h2 (fun e=>hne (by rw[e]))
   omega
  ·omega
 | [],_::_,hl,_=>by simp at hl
 |_::_,[],hl,_=>by simp at hl
theorem qg1:∀{ws:List Nat} {B:Nat},(∀i,ws.getD i 0<=B)->ws.sum<=ws.length*B
 | [],_,_=>by simp
 |x::xs,B,h=>by
  have h0:x<=B:=h 0;have:=qg1 (ws:=xs) (B:=B) fun i=>h (i+1)
  simp only[List.sum_cons,List.length_cons,Nat.add_mul,Nat.one_mul]
  omega
def tot (P:Nat) (rs:Nat->List Nat):Nat:=match P with
 | 0=>0
 |P+1=>tot P rs+(rs P).sum
def upd (rs:Nat->List Nat) (i:Nat) (x:List Nat):Nat->List Nat:=fun j=>if j=i then x else rs j
theorem q26(rs:Nat->List Nat)(i:Nat)(x:List Nat):upd rs i x i=x:=if_pos rfl
theorem q1T(rs:Nat->List Nat){i j:Nat}(x:List Nat)(h:j≠i):upd rs i x j=rs j:=if_neg h
theorem qhq(rs:Nat->List Nat)(i:Nat):upd rs i (rs i)=rs:=by funext j;unfold upd;split<;>simp_all
theorem qec:∀(P:Nat) (rs:Nat->List Nat) (i:Nat) (x:List Nat),P<=i->tot P (upd rs i x)=tot P rs
 | 0,_,_,_,_=>rfl
 |P+1,rs,i,x,h=>by
  unfold tot;rw[qec P rs i x (by omega),q1T _ _ (by omega)]
theorem qed:∀(P:Nat) (rs:Nat->List Nat) (i:Nat) (x:List Nat),i<P->tot P (upd rs i x)+(rs i).sum=tot P rs+x.sum
 | 0,_,_,_,h=>by omega
 |P+1,rs,i,x,h=>by
  unfold tot;by_cases e:i=P
  ·subst e
   rw[qec _ _ _ _ (Nat.le_refl _),q26];omega
  ·have:=qed P rs i x (by omega)
   rw[q1T _ _ (by omega:P≠i)];omega
theorem qg6{W:Nat}:∀(P:Nat) (rs:Nat->List Nat),(∀i,i<P->OkW W (rs i))->tot P rs<=P*(W*18446744073709551616)
 | 0,_,_=>by unfold tot;omega
 |P+1,rs,h=>by
  unfold tot;have h1:=qg6 P rs fun i hi=>h i (by omega)
  have h2:=qg1 (ws:=rs P) (B:=18446744073709551616) fun i=>Nat.le_of_lt ((h P (by omega)).2 i)
  rw[(h P (by omega)).1]at h2
  rw[Nat.add_mul,Nat.one_mul];omega
theorem qiz(x k:Nat)(hx:x<18446744073709551616):(Go.bits .and .u64 ((x:Int) / 2 ^ k) 1==1)=x.testBit k:=by
 have e:((x:Int) / 2 ^ k)=((x / 2 ^ k:Nat):Int):=by simp
 have hd:x / 2 ^ k<=x:=Nat.div_le_self _ _;rw[e];have:=u64_and_nat (x / 2 ^ k) 1 (by omega) (by decide)
 rw[show ((1:Nat):Int)=1 from rfl]at this;rw[this,Nat.and_one_is_mod,Nat.testBit_eq_decide_div_mod_eq];have:((x / 2 ^ k % 2:Nat):Int)=1↔x / 2 ^ k % 2=1:=by omega
 by_cases h:x / 2 ^ k % 2=1<;>simp[h]<;>omega
theorem qdz(x y:Nat)(hx:x<18446744073709551616)(hy:y<18446744073709551616):(x &&& (18446744073709551615-y)=0)↔y ||| x=y:=by
 have hb:∀i,(18446744073709551615-y).testBit i=(decide (i<64) && !y.testBit i):=fun i=>by
  have:=Nat.testBit_two_pow_sub_succ (n:=64) (x:=y) (by rw[<-two64];exact hy) i
  rw[show 2 ^ 64-(y+1)=18446744073709551615-y by omega]at this
  exact this
 constructor
 ·intro h
  refine Nat.eq_of_testBit_eq fun i=>?_
  have:=congrArg (fun z=>z.testBit i) h
  simp only[Nat.testBit_and,hb,Nat.zero_testBit]at this
  rw[Nat.testBit_or];by_cases hi:i<64
  ·simp[hi]at this
   cases h1:y.testBit i<;>cases h2:x.testBit i<;>simp_all
  ·have:x.testBit i=false:=Nat.testBit_lt_two_pow (Nat.lt_of_lt_of_le hx (by rw[two64];exact Nat.pow_le_pow_right (by decide) (by omega)))
   rw[this];simp
 ·intro h
  refine Nat.eq_of_testBit_eq fun i=>?_
  have:=congrArg (fun z=>z.testBit i) h
  simp only[Nat.testBit_or]at this
  rw[Nat.testBit_and,hb,Nat.zero_testBit]
  cases h1:y.testBit i<;>cases h2:x.testBit i<;>simp_all
end Go.Proofs.YtailhklbmenaoaaGreatDoor
