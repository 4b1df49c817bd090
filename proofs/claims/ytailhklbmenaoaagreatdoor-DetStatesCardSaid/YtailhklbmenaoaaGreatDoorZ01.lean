/- Texts of the proof, put together: what it uses. -/
import Derived.WalkKit
set_option maxRecDepth 100000
set_option maxHeartbeats 16000000
namespace Go.Proofs.YtailhklbmenaoaaGreatDoor
abbrev Tk := Nat × Nat
structure Pt where
 path : Bool
 plain : Bool
 dep : Nat
 frm : Nat
def takesN (t : Tk) : Option Nat :=
 if 23 < t.1 ∨ (t.1 ≠ 2 ∧ t.2 ≠ 0) ∨ (t.1 = 2 ∧ 7 < t.2) then none
 else if t.1 ≤ 5 then some 0
 else if t.1 ≤ 10 ∨ t.1 = 19 ∨ t.1 = 20 ∨ t.1 = 23 then some 1
 else some 2
theorem qe7 {t : Tk} {n : Nat} (h : takesN t = some n) : n ≤ 2 := by
 unfold takesN at h
 split at h
 ·cases h
 ·split at h
  ·cases h; decide
  ·split at h <;> (cases h; decide)
def isPathB (op : Nat) : Bool := decide (19 ≤ op)
def plainB (op : Nat) : Bool := decide (op ≤ 2) || decide (op = 6) || (decide (11 ≤ op) && decide (op ≤ 14))
def fitsP (op : Nat) (a : List Pt) : Bool :=
 if op = 17 ∨ op = 18 then (match a with | [x,y] => x.path && !y.path | _ => false)
 else if op = 19 then (match a with | [x] => !x.path && x.plain | _ => false)
 else if op = 21 ∨ op = 22 then (match a with | [x,y] => x.path && y.path | _ => false)
 else if op = 23 then (match a with | [x] => x.path | _ => false)
 else a.all fun x => !x.path
def putP (t : Tk) (a : List Pt) (i : Nat) : Pt :=
 ⟨isPathB t.1,plainB t.1 && a.all (·.plain),a.foldl (fun d x => max d (x.dep + 1)) 1,match a with | [] => i | x :: _ => x.frm⟩
def readP : List Tk → Nat → List Pt → Option (List Pt × List Pt)
 | [],_,st => some ([],st)
 | t :: r,i,st =>
  match takesN t with
  | none => none
  | some n =>
   if st.length < n then none
   else if fitsP t.1 (st.drop (st.length - n)) then
    (readP r (i + 1) (st.take (st.length - n) ++ [putP t (st.drop (st.length - n)) i])).map fun x => (putP t (st.drop (st.length - n)) i :: x.1,x.2)
   else none
inductive Tr where
 | leaf (t : Tk) : Tr
 | un (t : Tk) (c : Tr) : Tr
 | bin (t : Tk) (c d : Tr) : Tr
namespace Tr
def flat : Tr → List Tk
 | leaf t => [t]
 | un t c => c.flat ++ [t]
 | bin t c d => c.flat ++ d.flat ++ [t]
def size : Tr → Nat
 | leaf _ => 1
 | un _ c => c.size + 1
 | bin _ c d => c.size + d.size + 1
def part : Tr → Nat → Pt
 | leaf t,o => putP t [] o
 | un t c,o => putP t [c.part o] (o + c.size)
 | bin t c d,o => putP t [c.part o,d.part (o + c.size)] (o + c.size + d.size)
def parts : Tr → Nat → List Pt
 | leaf t,o => [putP t [] o]
 | un t c,o => c.parts o ++ [putP t [c.part o] (o + c.size)]
 | bin t c d,o => c.parts o ++ d.parts (o + c.size) ++ [putP t [c.part o,d.part (o + c.size)] (o + c.size + d.size)]
def WF : Tr → Prop
 | leaf t => takesN t = some 0 ∧ fitsP t.1 [] = true
 | un t c => takesN t = some 1 ∧ fitsP t.1 [c.part 0] = true ∧ c.WF
 | bin t c d => takesN t = some 2 ∧ fitsP t.1 [c.part 0,d.part 0] = true ∧ c.WF ∧ d.WF
end Tr
theorem q2M : ∀ t : Tr,t.flat.length = t.size
 | .leaf _ => rfl
 | .un _ c => by simp [Tr.flat,Tr.size,q2M c]
 | .bin _ c d => by simp [Tr.flat,Tr.size,q2M c,q2M d]; omega
theorem q6y : ∀ t : Tr,0 < t.size
 | .leaf _ => Nat.one_pos
 | .un _ _ => Nat.succ_pos _
 | .bin _ _ _ => Nat.succ_pos _
theorem qZ : ∀ (t : Tr) (o : Nat),(t.part o).path = (t.part 0).path ∧ (t.part o).plain = (t.part 0).plain ∧ (t.part o).dep = (t.part 0).dep
 | .leaf _,_ => ⟨rfl,rfl,rfl⟩
 | .un t c,o => by
  have h := qZ c o
  simp [Tr.part,putP,h.2.1,h.2.2]
 | .bin t c d,o => by
  have h := qZ c o
  have h2 := qZ d (o + c.size)
  have h3 := qZ d (0 + c.size)
  simp [Tr.part,putP,h.2.1,h.2.2,h2.2.1,h2.2.2]
  simp at h3
  simp [h3.2.1,h3.2.2]
theorem q8V {op : Nat} {a b : List Pt} (h : a.map (fun x => (x.path,x.plain)) = b.map (fun x => (x.path,x.plain))) : fitsP op a = fitsP op b := by
 have hl : a.length = b.length := by simpa using congrArg List.length h
 match a,b,hl with
 | [],[],_ => rfl
 | [x],[y],_ => simp at h; simp [fitsP,h.1,h.2]
 | [x,x'],[y,y'],_ => simp at h; simp [fitsP,h.1.1,h.2.1]
 | x :: x' :: x'' :: r,y :: y' :: y'' :: r',_ =>
  unfold fitsP
  split
  ·rfl
  ·split
   ·rfl
   ·split
    ·rfl
    ·split
     ·rfl
     ·have : ∀ l : List Pt,l.all (fun x => !x.path) = (l.map (fun x => (x.path,x.plain))).all (fun q => !q.1) := fun l => by simp [List.all_map,Function.comp_def]
      rw [this,this,h]
theorem qcd {t : Tk} {c : Tr} (o : Nat) : fitsP t.1 [c.part o] = fitsP t.1 [c.part 0] := q8V (by simp [(qZ c o).1,(qZ c o).2.1])
theorem qaW {t : Tk} {c d : Tr} (o o' : Nat) : fitsP t.1 [c.part o,d.part o'] = fitsP t.1 [c.part 0,d.part 0] := q8V (by simp [(qZ c o).1,(qZ c o).2.1,(qZ d o').1,(qZ d o').2.1])
theorem q8P (st : List Pt) (x : Pt) : (st ++ [x]).drop ((st ++ [x]).length - 1) = [x] := by
 rw [List.length_append]; simp
theorem q7x (st : List Pt) (x : Pt) : (st ++ [x]).take ((st ++ [x]).length - 1) = st := by
 rw [List.length_append]; simp
theorem q7d (st : List Pt) (x y : Pt) : (st ++ [x] ++ [y]).drop ((st ++ [x] ++ [y]).length - 2) = [x,y] := by
 have : (st ++ [x] ++ [y]).length - 2 = st.length := by simp
 rw [this,List.append_assoc,List.drop_left]; rfl
theorem q7y (st : List Pt) (x y : Pt) : (st ++ [x] ++ [y]).take ((st ++ [x] ++ [y]).length - 2) = st := by
 have : (st ++ [x] ++ [y]).length - 2 = st.length := by simp
 rw [this,List.append_assoc,List.take_left]
theorem q3P : ∀ (t : Tr),t.WF → ∀ (r : List Tk) (i : Nat) (st : List Pt),readP (t.flat ++ r) i st = (readP r (i + t.size) (st ++ [t.part i])).map fun x => (t.parts i ++ x.1,x.2)
 | .leaf t,h,r,i,st => by
  show readP (t :: r) i st = _
  rw [readP,h.1]
  have hd : st.drop (st.length - 0) = [] := by simp
  have ht : st.take (st.length - 0) = st := by simp
  simp only [hd,ht,h.2,if_true]
  rw [if_neg (by omega)]
  rfl
 | .un t c,h,r,i,st => by
  show readP (c.flat ++ [t] ++ r) i st = _
  rw [List.append_assoc,q3P c h.2.2]
  show Option.map _ (readP (t :: r) _ _) = _
  rw [readP,h.1]
  simp only [q8P,q7x]
  rw [if_neg (by simp),qcd,if_pos h.2.1,Option.map_map]
  simp only [Tr.size,Tr.part,Tr.parts,Nat.add_assoc]
  congr 1
  funext x
  simp
 | .bin t c d,h,r,i,st => by
  show readP (c.flat ++ d.flat ++ [t] ++ r) i st = _
  rw [List.append_assoc,List.append_assoc,q3P c h.2.2.1,q3P d h.2.2.2]
  show Option.map _ (Option.map _ (readP (t :: r) _ _)) = _
  rw [readP,h.1]
  simp only [q7d,q7y]
  rw [if_neg (by simp),qaW,if_pos h.2.1,Option.map_map,Option.map_map]
  simp only [Tr.size,Tr.part,Tr.parts,Nat.add_assoc]
  congr 1
  funext x
  simp
def stk : List Tr → Nat → List Pt
 | [],_ => []
 | t :: r,o => t.part o :: stk r (o + t.size)
def flatA (ts : List Tr) : List Tk := ts.flatMap Tr.flat
def sizeA : List Tr → Nat
 | [] => 0
 | t :: r => t.size + sizeA r
def partsA : List Tr → Nat → List Pt
 | [],_ => []
 | t :: r,o => t.parts o ++ partsA r (o + t.size)
theorem q11 : ∀ (xs ys : List Tr),sizeA (xs ++ ys) = sizeA xs + sizeA ys
 | [],ys => by simp [sizeA]
 | t :: r,ys => by simp only [List.cons_append,sizeA,q11 r ys]; omega
theorem q1K : ∀ (xs ys : List Tr) (o : Nat),stk (xs ++ ys) o = stk xs o ++ stk ys (o + sizeA xs)
 | [],ys,o => by simp [stk,sizeA]
 | t :: r,ys,o => by simp only [List.cons_append,stk,q1K r ys,sizeA,Nat.add_assoc]
theorem q1i : ∀ (xs ys : List Tr) (o : Nat),partsA (xs ++ ys) o = partsA xs o ++ partsA ys (o + sizeA xs)
 | [],ys,o => by simp [partsA,sizeA]
 | t :: r,ys,o => by simp only [List.cons_append,partsA,q1i r ys,sizeA,Nat.add_assoc,List.append_assoc]
theorem qcy : ∀ (xs : List Tr) (o : Nat),(stk xs o).length = xs.length
 | [],_ => rfl
 | t :: r,o => by simp [stk,qcy r]
theorem q1E (xs ys : List Tr) : flatA (xs ++ ys) = flatA xs ++ flatA ys := by simp [flatA]
theorem qd5 : ∀ (l : List Tk) (ts : List Tr) (all s : List Pt),(∀ t ∈ ts,t.WF) → readP l (sizeA ts) (stk ts 0) = some (all,s) →
  ∃ ts' : List Tr,(∀ t ∈ ts',t.WF) ∧ flatA ts' = flatA ts ++ l ∧ s = stk ts' 0 ∧ partsA ts' 0 = partsA ts 0 ++ all := by
 intro l
 induction l with
 | nil =>
  intro ts all s hw h
  unfold readP at h
  injection h with h
  injection h with h1 h2
  subst h1 h2
  exact ⟨ts,hw,by simp,rfl,by simp⟩
 | cons t r ih =>
  intro ts all s hw h
  rw [readP] at h
  cases ht : takesN t with
  | none => rw [ht] at h; cases h
  | some n =>
   rw [ht] at h
   simp only at h
   by_cases hl : (stk ts 0).length < n
   ·rw [if_pos hl] at h; cases h
   ·rw [if_neg hl] at h
    by_cases hf : fitsP t.1 ((stk ts 0).drop ((stk ts 0).length - n)) = true
    ·rw [if_pos hf] at h
     cases hr : readP r (sizeA ts + 1) ((stk ts 0).take ((stk ts 0).length - n) ++ [putP t ((stk ts 0).drop ((stk ts 0).length - n)) (sizeA ts)]) with
     | none => rw [hr] at h; cases h
     | some x =>
      rw [hr] at h
      obtain ⟨all',s'⟩ := x
      injection h with h
      injection h with h1 h2
      subst h1 h2
      have hn := qe7 ht
      rw [qcy] at hl
      match n,hn with
      | 0,_ =>
       have hd : (stk ts 0).drop ((stk ts 0).length - 0) = [] := by simp
       have htk : (stk ts 0).take ((stk ts 0).length - 0) = stk ts 0 := by simp
       rw [hd] at hf hr ⊢
       rw [htk] at hr
       have e1 : stk ts 0 ++ [putP t [] (sizeA ts)] = stk (ts ++ [.leaf t]) 0 := by rw [q1K]; simp [stk,Tr.part]
       have e2 : sizeA ts + 1 = sizeA (ts ++ [.leaf t]) := by rw [q11]; rfl
       rw [e1,e2] at hr
       obtain ⟨ts',h1,h2,h3,h4⟩ := ih (ts ++ [.leaf t]) _ _ (fun x hx => by
        rcases List.mem_append.1 hx with hx | hx
        ·exact hw x hx
        ·rw [List.mem_singleton.1 hx]; exact ⟨ht,hf⟩) hr
       refine ⟨ts',h1,by rw [h2,q1E]; simp [flatA,Tr.flat],h3,?_⟩
       rw [h4,q1i]; simp [partsA,Tr.parts]
      | 1,_ =>
       rcases List.eq_nil_or_concat ts with h0 | ⟨ts0,c,h0⟩
       ·subst h0; simp at hl
       ·rw [List.concat_eq_append] at h0
        subst h0
        have es : stk (ts0 ++ [c]) 0 = stk ts0 0 ++ [c.part (sizeA ts0)] := by rw [q1K]; simp [stk]
        rw [es,q8P] at hf hr ⊢
        rw [q7x] at hr
        have ez : sizeA (ts0 ++ [c]) = sizeA ts0 + c.size := by rw [q11]; rfl
        rw [ez] at hr ⊢
        have e1 : stk ts0 0 ++ [putP t [c.part (sizeA ts0)] (sizeA ts0 + c.size)] = stk (ts0 ++ [.un t c]) 0 := by rw [q1K]; simp [stk,Tr.part]
        have e2 : sizeA ts0 + c.size + 1 = sizeA (ts0 ++ [.un t c]) := by rw [q11]; simp [sizeA,Tr.size]; omega
        rw [e1,e2] at hr
        obtain ⟨ts',h1,h2,h3,h4⟩ := ih (ts0 ++ [.un t c]) _ _ (fun x hx => by
         rcases List.mem_append.1 hx with hx | hx
         ·exact hw x (List.mem_append_left _ hx)
         ·rw [List.mem_singleton.1 hx]; exact ⟨ht,by rw [qcd] at hf; exact hf,hw c (by simp)⟩) hr
        refine ⟨ts',h1,by rw [h2,q1E,q1E]; simp [flatA,Tr.flat],h3,?_⟩
        rw [h4,q1i,q1i]; simp [partsA,Tr.parts]
      | 2,_ =>
       rcases List.eq_nil_or_concat ts with h0 | ⟨ts1,d,h0⟩
       ·subst h0; simp at hl
       ·rw [List.concat_eq_append] at h0
        subst h0
        rcases List.eq_nil_or_concat ts1 with h0 | ⟨ts0,c,h0⟩
        ·subst h0; simp at hl
        ·rw [List.concat_eq_append] at h0
         subst h0
         have es : stk (ts0 ++ [c] ++ [d]) 0 = stk ts0 0 ++ [c.part (sizeA ts0)] ++ [d.part (sizeA ts0 + c.size)] := by rw [q1K,q1K]; simp [stk,q11,sizeA]
         rw [es,q7d] at hf hr ⊢
         rw [q7y] at hr
         have ez : sizeA (ts0 ++ [c] ++ [d]) = sizeA ts0 + c.size + d.size := by rw [q11,q11]; simp [sizeA]
         rw [ez] at hr ⊢
         have e1 : stk ts0 0 ++ [putP t [c.part (sizeA ts0),d.part (sizeA ts0 + c.size)] (sizeA ts0 + c.size + d.size)] = stk (ts0 ++ [.bin t c d]) 0 := by rw [q1K]; simp [stk,Tr.part]
         have e2 : sizeA ts0 + c.size + d.size + 1 = sizeA (ts0 ++ [.bin t c d]) := by rw [q11]; simp [sizeA,Tr.size]; omega
         rw [e1,e2] at hr
         obtain ⟨ts',h1,h2,h3,h4⟩ := ih (ts0 ++ [.bin t c d]) _ _ (fun x hx => by
          rcases List.mem_append.1 hx with hx | hx
          ·exact hw x (List.mem_append_left _ (List.mem_append_left _ hx))
          ·rw [List.mem_singleton.1 hx]; exact ⟨ht,by rw [qaW] at hf; exact hf,hw c (by simp),hw d (by simp)⟩) hr
         refine ⟨ts',h1,by rw [h2,q1E,q1E,q1E]; simp [flatA,Tr.flat],h3,?_⟩
         rw [h4,q1i,q1i,q1i]; simp [partsA,Tr.parts,q11,sizeA]
    ·rw [if_neg hf] at h; cases h
theorem qbl {l : List Tk} {all : List Pt} {p : Pt} : readP l 0 [] = some (all,[p]) ↔ ∃ t : Tr,t.WF ∧ l = t.flat ∧ all = t.parts 0 ∧ p = t.part 0 := by
 constructor
 ·intro h
  obtain ⟨ts,h1,h2,h3,h4⟩ := qd5 l [] all [p] (fun t ht => by simp at ht) h
  match ts,h3 with
  | [],h3 => cases h3
  | [t],h3 =>
   injection h3 with h3 _
   refine ⟨t,h1 t (by simp),?_,?_,h3⟩
   ·simpa [flatA] using h2.symm
   ·simpa [partsA] using h4.symm
  | t :: t' :: r,h3 => simp [stk] at h3
 ·rintro ⟨t,hw,rfl,rfl,rfl⟩
  have := q3P t hw [] 0 []
  rw [List.append_nil] at this
  rw [this]; simp [readP]
theorem q6t {op : Nat} (h : op ≤ 23) : op = 0 ∨ op = 1 ∨ op = 2 ∨ op = 3 ∨ op = 4 ∨ op = 5 ∨ op = 6 ∨ op = 7 ∨ op = 8 ∨ op = 9 ∨ op = 10 ∨ op = 11 ∨ op = 12 ∨ op = 13 ∨ op = 14 ∨ op = 15 ∨ op = 16 ∨ op = 17 ∨ op = 18 ∨ op = 19 ∨ op = 20 ∨ op = 21 ∨ op = 22 ∨ op = 23 := by omega
def Sane (p : Pt) : Prop := p.path = true → p.plain = false
theorem qe1 (t : Tk) (a : List Pt) (i : Nat) : Sane (putP t a i) := by
 intro h
 unfold putP isPathB at h
 dsimp only at h
 have h1 : 19 ≤ t.1 := of_decide_eq_true h
 show (plainB t.1 && _) = false
 have : plainB t.1 = false := by unfold plainB; simp; omega
 rw [this]; rfl
abbrev Sv := (Nat → Prop) × (Nat → Nat → Prop)
def stepsP (w : Nat → Nat → Prop) : Nat → Nat → Nat → Prop
 | 0,i,k => i = k
 | m + 1,i,k => ∃ j,w i j ∧ stepsP w m j k
def leafV (t : List Nat) (op p i : Nat) : Prop :=
 if op = 0 then True else if op = 1 then False else if op = 2 then i < t.length ∧ (t.getD i 0).testBit p = true
 else if op = 3 then i + 1 = t.length else if op = 4 then i < t.length else i = t.length
def unV (n op : Nat) (a : Nat → Prop) (i : Nat) : Prop :=
 if op = 6 then ¬ a i else if op = 7 then i + 1 < n ∧ a (i + 1) else if op = 8 then (i + 1 < n → a (i + 1))
 else if op = 9 then ∃ j,i ≤ j ∧ j < n ∧ a j else ∀ j,i ≤ j → j < n → a j
def unY (n op : Nat) (v : Sv) (i k : Nat) : Prop :=
 if op = 19 then k = i + 1 ∧ i < n ∧ v.1 i else if op = 20 then k = i ∧ v.1 i else ∃ m,stepsP v.2 m i k
def binV (n op : Nat) (x y : Sv) (i : Nat) : Prop :=
 if op = 11 then x.1 i ∧ y.1 i else if op = 12 then x.1 i ∨ y.1 i else if op = 13 then (x.1 i → y.1 i) else if op = 14 then (x.1 i ↔ y.1 i)
 else if op = 15 then ∃ j,i ≤ j ∧ j < n ∧ y.1 j ∧ ∀ k,i ≤ k → k < j → x.1 k
 else if op = 16 then ∀ j,i ≤ j → j < n → y.1 j ∨ ∃ k,i ≤ k ∧ k < j ∧ x.1 k
 else if op = 17 then ∃ k,x.2 i k ∧ y.1 k else ∀ k,x.2 i k → y.1 k
def binY (op : Nat) (x y : Sv) (i k : Nat) : Prop := if op = 21 then x.2 i k ∨ y.2 i k else ∃ j,x.2 i j ∧ y.2 j k
def semT (t : List Nat) (op p : Nat) (a : List Sv) : Sv :=
 match a with
 | [] => (leafV t op p,fun _ _ => False)
 | [x] => (unV t.length op x.1,unY t.length op x)
 | x :: y :: _ => (binV t.length op x y,binY op x y)
def takC (t : Tk) : Nat := (takesN t).getD 0
def semStep (t : List Nat) (st : List Sv) (k : Tk) : List Sv := st.take (st.length - takC k) ++ [semT t k.1 k.2 (st.drop (st.length - takC k))]
def semS (t : List Nat) (ts : List Tk) (st : List Sv) : List Sv := ts.foldl (semStep t) st
theorem q6w (t : List Nat) (a b : List Tk) (st : List Sv) : semS t (a ++ b) st = semS t b (semS t a st) := by unfold semS; rw [List.foldl_append]
def Cl (t : List Nat) (ts : List Tk) (v : Sv) : Prop := ∀ st,semS t ts st = st ++ [v]
theorem Cl.same {t : List Nat} {ts : List Tk} {v u : Sv} (h : Cl t ts v) (k : Cl t ts u) : v = u := by
 have := h []
 rw [k []] at this
 simpa using this.symm
theorem Cl.leaf (t : List Nat) {op p : Nat} (h : takesN (op,p) = some 0) : Cl t [(op,p)] (semT t op p []) := fun st => by
 have e : takC (op,p) = 0 := by unfold takC; rw [h]; rfl
 simp [semS,semStep,e]
theorem Cl.un {t : List Nat} {ts : List Tk} {v : Sv} (k : Cl t ts v) {op p : Nat} (h : takesN (op,p) = some 1) : Cl t (ts ++ [(op,p)]) (semT t op p [v]) := fun st => by
 have e : takC (op,p) = 1 := by unfold takC; rw [h]; rfl
 rw [q6w,k st]
 simp [semS,semStep,e]
theorem Cl.bin {t : List Nat} {xs ys : List Tk} {v u : Sv} (k : Cl t xs v) (l : Cl t ys u) {op p : Nat} (h : takesN (op,p) = some 2) : Cl t (xs ++ ys ++ [(op,p)]) (semT t op p [v,u]) := fun st => by
 have e : takC (op,p) = 2 := by unfold takC; rw [h]; rfl
 rw [q6w,q6w,k st,l]
 have e1 : (st ++ [v] ++ [u]).length - 2 = st.length := by simp
 have e2 : (st ++ [v] ++ [u]).take st.length = st := by simp
 have e3 : (st ++ [v] ++ [u]).drop st.length = [v,u] := by simp
 simp only [semS,List.foldl_cons,List.foldl_nil,semStep,e,e1,e2,e3]
def semTr (t : List Nat) : Tr → Sv
 | .leaf k => semT t k.1 k.2 []
 | .un k c => semT t k.1 k.2 [semTr t c]
 | .bin k c d => semT t k.1 k.2 [semTr t c,semTr t d]
theorem q47 (t : List Nat) : ∀ T : Tr,T.WF → Cl t T.flat (semTr t T)
 | .leaf _,h => Cl.leaf t h.1
 | .un _ c,h => (q47 t c h.2.2).un h.1
 | .bin _ c d,h => (q47 t c h.2.2.1).bin (q47 t d h.2.2.2) h.1
theorem q6z {w : Nat → Nat → Prop} {n : Nat} (hw : ∀ i k,i ≤ n → w i k → i ≤ k ∧ k ≤ n) : ∀ (m i k : Nat),i ≤ n → stepsP w m i k → i ≤ k ∧ k ≤ n
 | 0,i,k,hi,h => by have : i = k := h; omega
 | m + 1,i,k,hi,h => by
  obtain ⟨j,h1,h2⟩ := h
  have := hw i j hi h1
  have := q6z hw m j k this.2 h2
  omega
theorem q22 (t : List Nat) : ∀ T : Tr,T.WF → ∀ i k,i ≤ t.length → (semTr t T).2 i k → i ≤ k ∧ k ≤ t.length
 | .leaf _,_,i,k,_,h => by simp [semTr,semT] at h
 | .un q c,hT,i,k,hi,h => by
  simp only [semTr,semT,unY] at h
  split at h
  ·omega
  ·split at h
   ·omega
   ·obtain ⟨m,hm⟩ := h
    exact q6z (q22 t c hT.2.2) m i k hi hm
 | .bin q c d,hT,i,k,hi,h => by
  simp only [semTr,semT,binY] at h
  split at h
  ·rcases h with h | h
   ·exact q22 t c hT.2.2.1 i k hi h
   ·exact q22 t d hT.2.2.2 i k hi h
  ·obtain ⟨j,h1,h2⟩ := h
   have := q22 t c hT.2.2.1 i j hi h1
   have := q22 t d hT.2.2.2 j k this.2 h2
   omega
section
variable (t : List Nat) (x y z : Sv) (i : Nat)
theorem q5i : (semT t 9 0 [x]).1 i ↔ (semT t 15 0 [semT t 0 0 [],x]).1 i := by
 simp [semT,unV,binV,leafV]
theorem q4W : (semT t 10 0 [x]).1 i ↔ (semT t 16 0 [semT t 1 0 [],x]).1 i := by
 simp [semT,unV,binV,leafV]
theorem qdm : (semT t 3 0 []).1 i ↔ (semT t 11 0 [semT t 4 0 [],semT t 8 0 [semT t 1 0 []]]).1 i := by
 simp [semT,unV,binV,leafV]; omega
end
theorem q1O {α : Type} (st r : List α) (m : Nat) (h : r.length = m) : (st ++ r).drop ((st ++ r).length - m) = r ∧ (st ++ r).take ((st ++ r).length - m) = st := by
 have : (st ++ r).length - m = st.length := by simp; omega
 rw [this]; simp
theorem q28 {k : Tk} {m : Nat} (h : takesN k = some m) : takC k = m := by unfold takC; rw [h]; rfl
theorem q5m {a b : List Tk} {P : List Tk → Tk → Prop} (h1 : ∀ k (h : k < a.length),P (a.take k) a[k]) (h2 : ∀ k (h : k < b.length),P (a ++ b.take k) b[k]) : ∀ k (h : k < (a ++ b).length),P ((a ++ b).take k) (a ++ b)[k] := by
 intro k h
 by_cases hk : k < a.length
 ·have e1 : (a ++ b).take k = a.take k := by rw [List.take_append_of_le_length (by omega)]
  have e2 : (a ++ b)[k] = a[k] := List.getElem_append_left hk
  rw [e1,e2]; exact h1 k hk
 ·have e1 : (a ++ b).take k = a ++ b.take (k - a.length) := by rw [List.take_append,List.take_of_length_le (by omega)]
  have e2 : (a ++ b)[k] = b[k - a.length]'(by simp at h; omega) := List.getElem_append_right (by omega)
  rw [e1,e2]; exact h2 _ _
abbrev Kq := List Tk × List Tk
def kOp (op p : Nat) (a : List Kq) : Kq :=
 match a with
 | [] => if op = 0 then ([(0,0)],[(1,0)]) else if op = 1 then ([(1,0)],[(0,0)]) else if op = 2 then ([(2,p)],[(2,p),(6,0)]) else if op = 3 then ([(4,0),(1,0),(8,0),(11,0)],[(5,0),(0,0),(7,0),(12,0)]) else if op = 4 then ([(4,0)],[(5,0)]) else ([(5,0)],[(4,0)])
 | [x] => if op = 6 then (x.2,x.1) else if op = 7 then (x.1 ++ [(7,0)],x.2 ++ [(8,0)]) else if op = 8 then (x.1 ++ [(8,0)],x.2 ++ [(7,0)])
  else if op = 9 then ([(0,0)] ++ x.1 ++ [(15,0)],[(1,0)] ++ x.2 ++ [(16,0)]) else if op = 10 then ([(1,0)] ++ x.1 ++ [(16,0)],[(0,0)] ++ x.2 ++ [(15,0)]) else (x.1 ++ [(op,0)],x.1 ++ [(op,0)])
 | x :: y :: _ => if op = 11 then (x.1 ++ y.1 ++ [(11,0)],x.2 ++ y.2 ++ [(12,0)]) else if op = 12 then (x.1 ++ y.1 ++ [(12,0)],x.2 ++ y.2 ++ [(11,0)])
  else if op = 13 then (x.2 ++ y.1 ++ [(12,0)],x.1 ++ y.2 ++ [(11,0)])
  else if op = 14 then ((x.1 ++ y.1 ++ [(11,0)]) ++ (x.2 ++ y.2 ++ [(11,0)]) ++ [(12,0)],(x.1 ++ y.2 ++ [(11,0)]) ++ (x.2 ++ y.1 ++ [(11,0)]) ++ [(12,0)])
  else if op = 15 then (x.1 ++ y.1 ++ [(15,0)],x.2 ++ y.2 ++ [(16,0)]) else if op = 16 then (x.1 ++ y.1 ++ [(16,0)],x.2 ++ y.2 ++ [(15,0)])
  else if op = 17 then (x.1 ++ y.1 ++ [(17,0)],x.1 ++ y.2 ++ [(18,0)]) else if op = 18 then (x.1 ++ y.1 ++ [(18,0)],x.1 ++ y.2 ++ [(17,0)])
  else (x.1 ++ y.1 ++ [(op,0)],x.1 ++ y.1 ++ [(op,0)])
def kStep (st : List Kq) (k : Tk) : List Kq := st.take (st.length - takC k) ++ [kOp k.1 k.2 (st.drop (st.length - takC k))]
def kS (ts : List Tk) (st : List Kq) : List Kq := ts.foldl kStep st
def kL (ts : List Tk) : Kq := (kS ts []).getLast?.getD ([],[])
def kTr : Tr → Tr × Tr
 | .leaf (op,p) => if op = 0 then (.leaf (0,0),.leaf (1,0)) else if op = 1 then (.leaf (1,0),.leaf (0,0)) else if op = 2 then (.leaf (2,p),.un (6,0) (.leaf (2,p)))
  else if op = 3 then (.bin (11,0) (.leaf (4,0)) (.un (8,0) (.leaf (1,0))),.bin (12,0) (.leaf (5,0)) (.un (7,0) (.leaf (0,0)))) else if op = 4 then (.leaf (4,0),.leaf (5,0)) else (.leaf (5,0),.leaf (4,0))
 | .un (op,_) c => if op = 6 then ((kTr c).2,(kTr c).1) else if op = 7 then (.un (7,0) (kTr c).1,.un (8,0) (kTr c).2) else if op = 8 then (.un (8,0) (kTr c).1,.un (7,0) (kTr c).2)
  else if op = 9 then (.bin (15,0) (.leaf (0,0)) (kTr c).1,.bin (16,0) (.leaf (1,0)) (kTr c).2) else if op = 10 then (.bin (16,0) (.leaf (1,0)) (kTr c).1,.bin (15,0) (.leaf (0,0)) (kTr c).2)
  else (.un (op,0) (kTr c).1,.un (op,0) (kTr c).1)
 | .bin (op,_) c d => if op = 11 then (.bin (11,0) (kTr c).1 (kTr d).1,.bin (12,0) (kTr c).2 (kTr d).2) else if op = 12 then (.bin (12,0) (kTr c).1 (kTr d).1,.bin (11,0) (kTr c).2 (kTr d).2)
  else if op = 13 then (.bin (12,0) (kTr c).2 (kTr d).1,.bin (11,0) (kTr c).1 (kTr d).2)
  else if op = 14 then (.bin (12,0) (.bin (11,0) (kTr c).1 (kTr d).1) (.bin (11,0) (kTr c).2 (kTr d).2),.bin (12,0) (.bin (11,0) (kTr c).1 (kTr d).2) (.bin (11,0) (kTr c).2 (kTr d).1))
  else if op = 15 then (.bin (15,0) (kTr c).1 (kTr d).1,.bin (16,0) (kTr c).2 (kTr d).2) else if op = 16 then (.bin (16,0) (kTr c).1 (kTr d).1,.bin (15,0) (kTr c).2 (kTr d).2)
  else if op = 17 then (.bin (17,0) (kTr c).1 (kTr d).1,.bin (18,0) (kTr c).1 (kTr d).2) else if op = 18 then (.bin (18,0) (kTr c).1 (kTr d).1,.bin (17,0) (kTr c).1 (kTr d).2)
  else (.bin (op,0) (kTr c).1 (kTr d).1,.bin (op,0) (kTr c).1 (kTr d).1)
def pathT (T : Tr) : Bool := (T.part 0).path
def plainT (T : Tr) : Bool := (T.part 0).plain
theorem q3O (k : Tk) : pathT (.leaf k) = isPathB k.1 := rfl
theorem q8C (k : Tk) (c : Tr) : pathT (.un k c) = isPathB k.1 := rfl
theorem q6u (k : Tk) (c d : Tr) : pathT (.bin k c d) = isPathB k.1 := rfl
theorem q7p (k : Tk) : plainT (.leaf k) = plainB k.1 := by simp [plainT,Tr.part,putP]
theorem qV (k : Tk) (c : Tr) : plainT (.un k c) = (plainB k.1 && plainT c) := by simp [plainT,Tr.part,putP]
theorem qm (k : Tk) (c d : Tr) : plainT (.bin k c d) = (plainB k.1 && (plainT c && plainT d)) := by
 have := qZ d (0 + c.size)
 simp [plainT,Tr.part,putP] at this ⊢
 rw [this.2.1]
def fit1T (op : Nat) (c : Tr) : Bool := if op = 19 then !pathT c && plainT c else if op = 23 then pathT c else !pathT c
def fit2T (op : Nat) (c d : Tr) : Bool := if op = 17 ∨ op = 18 then pathT c && !pathT d else if op = 21 ∨ op = 22 then pathT c && pathT d else !pathT c && !pathT d
theorem fits1 {op p : Nat} {c : Tr} (h : takesN (op,p) = some 1) : fitsP op [c.part 0] = fit1T op c := by
 have h1 : ¬ (op = 17 ∨ op = 18) ∧ ¬ (op = 21 ∨ op = 22) := by
  unfold takesN at h
  dsimp only at h
  split at h
  ·cases h
  ·split at h
   ·cases h
   ·split at h
    ·omega
    ·cases h
 unfold fitsP fit1T pathT plainT
 rw [if_neg h1.1]
 split
 ·rfl
 ·rw [if_neg h1.2]
  split
  ·rfl
  ·simp
theorem fits2 {op p : Nat} {c d : Tr} (h : takesN (op,p) = some 2) : fitsP op [c.part 0,d.part 0] = fit2T op c d := by
 have h1 : ¬ op = 19 ∧ ¬ op = 23 := by
  unfold takesN at h
  dsimp only at h
  split at h
  ·cases h
  ·split at h
   ·cases h
   ·split at h
    ·cases h
    ·omega
 unfold fitsP fit2T pathT
 split
 ·rfl
 ·rw [if_neg h1.1]
  split
  ·rfl
  ·rw [if_neg h1.2]
   simp
theorem qL {op p : Nat} (h : takesN (op,p) = some 0) (h2 : op ≤ 5) : (Tr.leaf (op,p)).WF := by
 refine ⟨h,?_⟩
 unfold fitsP
 dsimp only
 rw [if_neg (by omega),if_neg (by omega),if_neg (by omega),if_neg (by omega)]
 rfl
theorem wf_un {op : Nat} {c : Tr} (h : takesN (op,0) = some 1) (hf : fit1T op c = true) (hc : c.WF) : (Tr.un (op,0) c).WF := ⟨h,(fits1 h).trans hf,hc⟩
theorem qA {op : Nat} {c d : Tr} (h : takesN (op,0) = some 2) (hf : fit2T op c d = true) (hc : c.WF) (hd : d.WF) : (Tr.bin (op,0) c d).WF := ⟨h,(fits2 h).trans hf,hc,hd⟩
structure KOk (T : Tr) : Prop where
 w1 : (kTr T).1.WF
 p1 : pathT (kTr T).1 = pathT T
 l1 : plainT T = true → plainT (kTr T).1 = true
 w2 : pathT T = false → (kTr T).2.WF
 p2 : pathT T = false → pathT (kTr T).2 = false
 l2 : pathT T = false → plainT T = true → plainT (kTr T).2 = true
theorem qbt {op p m : Nat} (h : takesN (op,p) = some m) : (op ≤ 5 ∧ m = 0 ∧ (op ≠ 2 → p = 0) ∧ p ≤ 7) ∨ ((6 ≤ op ∧ op ≤ 10 ∨ op = 19 ∨ op = 20 ∨ op = 23) ∧ m = 1 ∧ p = 0) ∨ ((11 ≤ op ∧ op ≤ 18 ∨ op = 21 ∨ op = 22) ∧ m = 2 ∧ p = 0) := by
 unfold takesN at h
 dsimp only at h
 split at h
 ·cases h
 ·next h0 =>
  split at h
  ·cases h; exact Or.inl ⟨by omega,rfl,by omega,by omega⟩
  ·split at h
   ·cases h; exact Or.inr (Or.inl ⟨by omega,rfl,by omega⟩)
   ·cases h; exact Or.inr (Or.inr ⟨by omega,rfl,by omega⟩)
theorem q7z {p : Nat} (h : p ≤ 7) : takesN (2,p) = some 0 := by
 unfold takesN
 dsimp only
 rw [if_neg (by omega),if_pos (by omega)]
theorem qQ {op p : Nat} (h : (Tr.leaf (op,p)).WF) : (op = 2 ∧ p ≤ 7) ∨ (p = 0 ∧ (op = 0 ∨ op = 1 ∨ op = 3 ∨ op = 4 ∨ op = 5)) := by
 rcases qbt h.1 with ⟨h1,_,h3,h4⟩ | ⟨_,h,_⟩ | ⟨_,h,_⟩
 ·by_cases e : op = 2
  ·exact Or.inl ⟨e,h4⟩
  ·exact Or.inr ⟨h3 e,by omega⟩
 ·cases h
 ·cases h
theorem qE {op p : Nat} {c : Tr} (h : (Tr.un (op,p) c).WF) : p = 0 ∧ c.WF ∧ fit1T op c = true ∧ (op = 6 ∨ op = 7 ∨ op = 8 ∨ op = 9 ∨ op = 10 ∨ op = 19 ∨ op = 20 ∨ op = 23) := by
 have hf := (fits1 h.1).symm.trans h.2.1
 rcases qbt h.1 with ⟨_,h,_⟩ | ⟨h1,_,h3⟩ | ⟨_,h,_⟩
 ·cases h
 ·exact ⟨h3,h.2.2,hf,by omega⟩
 ·cases h
theorem qy {op p : Nat} {c d : Tr} (h : (Tr.bin (op,p) c d).WF) : p = 0 ∧ c.WF ∧ d.WF ∧ fit2T op c d = true ∧ (op = 11 ∨ op = 12 ∨ op = 13 ∨ op = 14 ∨ op = 15 ∨ op = 16 ∨ op = 17 ∨ op = 18 ∨ op = 21 ∨ op = 22) := by
 have hf := (fits2 h.1).symm.trans h.2.1
 rcases qbt h.1 with ⟨_,h,_⟩ | ⟨_,h,_⟩ | ⟨h1,_,h3⟩
 ·cases h
 ·cases h
 ·exact ⟨h3,h.2.2.1,h.2.2.2,hf,by omega⟩
theorem kOk : ∀ T : Tr,T.WF → KOk T
 | .leaf (op,p),h => by
  rcases qQ h with ⟨rfl,hp⟩ | ⟨rfl,rfl | rfl | rfl | rfl | rfl⟩
  ·exact ⟨qL (q7z hp) (by decide),rfl,fun _ => rfl,fun _ => wf_un rfl rfl (qL (q7z hp) (by decide)),fun _ => rfl,fun _ _ => rfl⟩
  ·exact ⟨qL rfl (by decide),rfl,fun _ => rfl,fun _ => qL rfl (by decide),fun _ => rfl,fun _ _ => rfl⟩
  ·exact ⟨qL rfl (by decide),rfl,fun _ => rfl,fun _ => qL rfl (by decide),fun _ => rfl,fun _ _ => rfl⟩
  ·exact ⟨qA rfl rfl (qL rfl (by decide)) (wf_un rfl rfl (qL rfl (by decide))),rfl,fun h => (by cases h),fun _ => qA rfl rfl (qL rfl (by decide)) (wf_un rfl rfl (qL rfl (by decide))),fun _ => rfl,fun _ h => (by cases h)⟩
  ·exact ⟨qL rfl (by decide),rfl,fun h => (by cases h),fun _ => qL rfl (by decide),fun _ => rfl,fun _ h => (by cases h)⟩
  ·exact ⟨qL rfl (by decide),rfl,fun h => (by cases h),fun _ => qL rfl (by decide),fun _ => rfl,fun _ h => (by cases h)⟩
 | .un (op,p) c,h => by
  obtain ⟨rfl,hc,hf,ho⟩ := qE h
  have ih := kOk c hc
  rcases ho with rfl | rfl | rfl | rfl | rfl | rfl | rfl | rfl
  ·have hn : pathT c = false := by simpa [fit1T] using hf
   have q1 := ih.p1.trans hn
   have q2 := ih.p2 hn
   exact ⟨ih.w2 hn,q2,fun h => ih.l2 hn (by rw [qV] at h; simpa [plainB] using h),fun _ => ih.w1,fun _ => q1,fun _ h => ih.l1 (by rw [qV] at h; simpa [plainB] using h)⟩
  ·have hn : pathT c = false := by simpa [fit1T] using hf
   have q1 := ih.p1.trans hn
   have q2 := ih.p2 hn
   exact ⟨wf_un (op := 7) rfl (by simp [fit1T,q1]) ih.w1,rfl,fun h => by rw [qV] at h; simp [plainB] at h,fun _ => wf_un (op := 8) rfl (by simp [fit1T,q2]) (ih.w2 hn),fun _ => rfl,fun _ h => by rw [qV] at h; simp [plainB] at h⟩
  ·have hn : pathT c = false := by simpa [fit1T] using hf
   have q1 := ih.p1.trans hn
   have q2 := ih.p2 hn
   exact ⟨wf_un (op := 8) rfl (by simp [fit1T,q1]) ih.w1,rfl,fun h => by rw [qV] at h; simp [plainB] at h,fun _ => wf_un (op := 7) rfl (by simp [fit1T,q2]) (ih.w2 hn),fun _ => rfl,fun _ h => by rw [qV] at h; simp [plainB] at h⟩
  ·have hn : pathT c = false := by simpa [fit1T] using hf
   have q1 := ih.p1.trans hn
   have q2 := ih.p2 hn
   exact ⟨qA (op := 15) rfl (by simp [fit2T,q1,q3O,isPathB]) (qL (op := 0) rfl (by decide)) ih.w1,rfl,fun h => by rw [qV] at h; simp [plainB] at h,fun _ => qA (op := 16) rfl (by simp [fit2T,q2,q3O,isPathB]) (qL (op := 1) rfl (by decide)) (ih.w2 hn),fun _ => rfl,fun _ h => by rw [qV] at h; simp [plainB] at h⟩
  ·have hn : pathT c = false := by simpa [fit1T] using hf
   have q1 := ih.p1.trans hn
   have q2 := ih.p2 hn
   exact ⟨qA (op := 16) rfl (by simp [fit2T,q1,q3O,isPathB]) (qL (op := 1) rfl (by decide)) ih.w1,rfl,fun h => by rw [qV] at h; simp [plainB] at h,fun _ => qA (op := 15) rfl (by simp [fit2T,q2,q3O,isPathB]) (qL (op := 0) rfl (by decide)) (ih.w2 hn),fun _ => rfl,fun _ h => by rw [qV] at h; simp [plainB] at h⟩
  ·have hn : pathT c = false ∧ plainT c = true := by simpa [fit1T] using hf
   have q1 := ih.p1.trans hn.1
   exact ⟨wf_un (op := 19) rfl (by simp [fit1T,q1,ih.l1 hn.2]) ih.w1,rfl,fun h => by rw [qV] at h; simp [plainB] at h,fun h => (by cases h),fun h => (by cases h),fun h => (by cases h)⟩
  ·have hn : pathT c = false := by simpa [fit1T] using hf
   have q1 := ih.p1.trans hn
   exact ⟨wf_un (op := 20) rfl (by simp [fit1T,q1]) ih.w1,rfl,fun h => by rw [qV] at h; simp [plainB] at h,fun h => (by cases h),fun h => (by cases h),fun h => (by cases h)⟩
  ·have hn : pathT c = true := by simpa [fit1T] using hf
   have q1 := ih.p1.trans hn
   exact ⟨wf_un (op := 23) rfl (by simp [fit1T,q1]) ih.w1,rfl,fun h => by rw [qV] at h; simp [plainB] at h,fun h => (by cases h),fun h => (by cases h),fun h => (by cases h)⟩
 | .bin (op,p) c d,h => by
  obtain ⟨rfl,hc,hd,hf,ho⟩ := qy h
  have ih := kOk c hc
  have jh := kOk d hd
  rcases ho with rfl | rfl | rfl | rfl | rfl | rfl | rfl | rfl | rfl | rfl
  ·have hn : pathT c = false ∧ pathT d = false := by simpa [fit2T] using hf
   have q1 := ih.p1.trans hn.1
   have q2 := ih.p2 hn.1
   have r1 := jh.p1.trans hn.2
   have r2 := jh.p2 hn.2
   have hp : plainT (.bin (11,0) c d) = true → plainT c = true ∧ plainT d = true := fun h => by rw [qm] at h; simpa [plainB] using h
   refine ⟨qA (op := 11) rfl (by simp [fit2T,q1,r1]) ih.w1 jh.w1,rfl,fun h => ?_,fun _ => qA (op := 12) rfl (by simp [fit2T,q2,r2]) (ih.w2 hn.1) (jh.w2 hn.2),fun _ => rfl,fun _ h => ?_⟩
   ·obtain ⟨h1,h2⟩ := hp h
    have hp := And.intro h1 h2
    show plainT (.bin (11,0) _ _) = true
    rw [qm,ih.l1 hp.1,jh.l1 hp.2]; rfl
   ·obtain ⟨h1,h2⟩ := hp h
    have hp := And.intro h1 h2
    show plainT (.bin (12,0) _ _) = true
    rw [qm,ih.l2 hn.1 hp.1,jh.l2 hn.2 hp.2]; rfl
  ·have hn : pathT c = false ∧ pathT d = false := by simpa [fit2T] using hf
   have q1 := ih.p1.trans hn.1
   have q2 := ih.p2 hn.1
   have r1 := jh.p1.trans hn.2
   have r2 := jh.p2 hn.2
   have hp : plainT (.bin (12,0) c d) = true → plainT c = true ∧ plainT d = true := fun h => by rw [qm] at h; simpa [plainB] using h
   refine ⟨qA (op := 12) rfl (by simp [fit2T,q1,r1]) ih.w1 jh.w1,rfl,fun h => ?_,fun _ => qA (op := 11) rfl (by simp [fit2T,q2,r2]) (ih.w2 hn.1) (jh.w2 hn.2),fun _ => rfl,fun _ h => ?_⟩
   ·obtain ⟨h1,h2⟩ := hp h
    have hp := And.intro h1 h2
    show plainT (.bin (12,0) _ _) = true
    rw [qm,ih.l1 hp.1,jh.l1 hp.2]; rfl
   ·obtain ⟨h1,h2⟩ := hp h
    have hp := And.intro h1 h2
    show plainT (.bin (11,0) _ _) = true
    rw [qm,ih.l2 hn.1 hp.1,jh.l2 hn.2 hp.2]; rfl
  ·have hn : pathT c = false ∧ pathT d = false := by simpa [fit2T] using hf
   have q1 := ih.p1.trans hn.1
   have q2 := ih.p2 hn.1
   have r1 := jh.p1.trans hn.2
   have r2 := jh.p2 hn.2
   have hp : plainT (.bin (13,0) c d) = true → plainT c = true ∧ plainT d = true := fun h => by rw [qm] at h; simpa [plainB] using h
   refine ⟨qA (op := 12) rfl (by simp [fit2T,q2,r1]) (ih.w2 hn.1) jh.w1,rfl,fun h => ?_,fun _ => qA (op := 11) rfl (by simp [fit2T,q1,r2]) ih.w1 (jh.w2 hn.2),fun _ => rfl,fun _ h => ?_⟩
   ·obtain ⟨h1,h2⟩ := hp h
    have hp := And.intro h1 h2
    show plainT (.bin (12,0) _ _) = true
    rw [qm,ih.l2 hn.1 hp.1,jh.l1 hp.2]; rfl
   ·obtain ⟨h1,h2⟩ := hp h
    have hp := And.intro h1 h2
    show plainT (.bin (11,0) _ _) = true
    rw [qm,ih.l1 hp.1,jh.l2 hn.2 hp.2]; rfl
  ·have hn : pathT c = false ∧ pathT d = false := by simpa [fit2T] using hf
   have q1 := ih.p1.trans hn.1
   have q2 := ih.p2 hn.1
   have r1 := jh.p1.trans hn.2
   have r2 := jh.p2 hn.2
   have hp : plainT (.bin (14,0) c d) = true → plainT c = true ∧ plainT d = true := fun h => by rw [qm] at h; simpa [plainB] using h
   refine ⟨qA (op := 12) rfl rfl (qA (op := 11) rfl (by simp [fit2T,q1,r1]) ih.w1 jh.w1) (qA (op := 11) rfl (by simp [fit2T,q2,r2]) (ih.w2 hn.1) (jh.w2 hn.2)),rfl,fun h => ?_,fun _ => qA (op := 12) rfl rfl (qA (op := 11) rfl (by simp [fit2T,q1,r2]) ih.w1 (jh.w2 hn.2)) (qA (op := 11) rfl (by simp [fit2T,q2,r1]) (ih.w2 hn.1) jh.w1),fun _ => rfl,fun _ h => ?_⟩
   ·obtain ⟨h1,h2⟩ := hp h
    have hp := And.intro h1 h2
    show plainT (.bin (12,0) (.bin (11,0) _ _) (.bin (11,0) _ _)) = true
    rw [qm,qm,qm,ih.l1 hp.1,jh.l1 hp.2,ih.l2 hn.1 hp.1,jh.l2 hn.2 hp.2]; rfl
   ·obtain ⟨h1,h2⟩ := hp h
    have hp := And.intro h1 h2
    show plainT (.bin (12,0) (.bin (11,0) _ _) (.bin (11,0) _ _)) = true
    rw [qm,qm,qm,ih.l1 hp.1,jh.l2 hn.2 hp.2,ih.l2 hn.1 hp.1,jh.l1 hp.2]; rfl
  ·have hn : pathT c = false ∧ pathT d = false := by simpa [fit2T] using hf
   have q1 := ih.p1.trans hn.1
   have q2 := ih.p2 hn.1
   have r1 := jh.p1.trans hn.2
   have r2 := jh.p2 hn.2
   exact ⟨qA (op := 15) rfl (by simp [fit2T,q1,r1]) ih.w1 jh.w1,rfl,fun h => by rw [qm] at h; simp [plainB] at h,fun _ => qA (op := 16) rfl (by simp [fit2T,q2,r2]) (ih.w2 hn.1) (jh.w2 hn.2),fun _ => rfl,fun _ h => by rw [qm] at h; simp [plainB] at h⟩
  ·have hn : pathT c = false ∧ pathT d = false := by simpa [fit2T] using hf
   have q1 := ih.p1.trans hn.1
   have q2 := ih.p2 hn.1
   have r1 := jh.p1.trans hn.2
   have r2 := jh.p2 hn.2
   exact ⟨qA (op := 16) rfl (by simp [fit2T,q1,r1]) ih.w1 jh.w1,rfl,fun h => by rw [qm] at h; simp [plainB] at h,fun _ => qA (op := 15) rfl (by simp [fit2T,q2,r2]) (ih.w2 hn.1) (jh.w2 hn.2),fun _ => rfl,fun _ h => by rw [qm] at h; simp [plainB] at h⟩
  ·have hn : pathT c = true ∧ pathT d = false := by simpa [fit2T] using hf
   have q1 := ih.p1.trans hn.1
   have r1 := jh.p1.trans hn.2
   have r2 := jh.p2 hn.2
   exact ⟨qA (op := 17) rfl (by simp [fit2T,q1,r1]) ih.w1 jh.w1,rfl,fun h => by rw [qm] at h; simp [plainB] at h,fun _ => qA (op := 18) rfl (by simp [fit2T,q1,r2]) ih.w1 (jh.w2 hn.2),fun _ => rfl,fun _ h => by rw [qm] at h; simp [plainB] at h⟩
  ·have hn : pathT c = true ∧ pathT d = false := by simpa [fit2T] using hf
   have q1 := ih.p1.trans hn.1
   have r1 := jh.p1.trans hn.2
   have r2 := jh.p2 hn.2
   exact ⟨qA (op := 18) rfl (by simp [fit2T,q1,r1]) ih.w1 jh.w1,rfl,fun h => by rw [qm] at h; simp [plainB] at h,fun _ => qA (op := 17) rfl (by simp [fit2T,q1,r2]) ih.w1 (jh.w2 hn.2),fun _ => rfl,fun _ h => by rw [qm] at h; simp [plainB] at h⟩
  ·have hn : pathT c = true ∧ pathT d = true := by simpa [fit2T] using hf
   have q1 := ih.p1.trans hn.1
   have r1 := jh.p1.trans hn.2
   exact ⟨qA (op := 21) rfl (by simp [fit2T,q1,r1]) ih.w1 jh.w1,rfl,fun h => by rw [qm] at h; simp [plainB] at h,fun h => (by cases h),fun h => (by cases h),fun h => (by cases h)⟩
  ·have hn : pathT c = true ∧ pathT d = true := by simpa [fit2T] using hf
   have q1 := ih.p1.trans hn.1
   have r1 := jh.p1.trans hn.2
   exact ⟨qA (op := 22) rfl (by simp [fit2T,q1,r1]) ih.w1 jh.w1,rfl,fun h => by rw [qm] at h; simp [plainB] at h,fun h => (by cases h),fun h => (by cases h),fun h => (by cases h)⟩
section
variable {t : List Nat}
structure KMn (t : List Nat) (T : Tr) : Prop where
 f1 : pathT T = false → ∀ i,i ≤ t.length → ((semTr t (kTr T).1).1 i ↔ (semTr t T).1 i)
 f2 : pathT T = false → ∀ i,i ≤ t.length → ((semTr t (kTr T).2).1 i ↔ ¬ (semTr t T).1 i)
 w1 : pathT T = true → ∀ i,i ≤ t.length → ∀ k,((semTr t (kTr T).1).2 i k ↔ (semTr t T).2 i k)
theorem qdM {n : Nat} {A A' : Nat → Prop} (h : ∀ i,i ≤ n → (A' i ↔ ¬ A i)) (i : Nat) : (unV n 7 A' i ↔ ¬ unV n 8 A i) ∧ (unV n 8 A' i ↔ ¬ unV n 7 A i) := by
 simp [unV]
 constructor
 ·intro h1; exact h _ (by omega)
 ·constructor
  ·intro h1 h2; exact (h _ (by omega)).1 (h1 h2)
  ·intro h1 h2; exact (h _ (by omega)).2 (h1 h2)
theorem qcv {n op : Nat} {A A' : Nat → Prop} (ho : op = 7 ∨ op = 8) (h : ∀ i,i ≤ n → (A' i ↔ A i)) (i : Nat) : unV n op A' i ↔ unV n op A i := by
 rcases ho with rfl | rfl
 ·simp [unV]; intro h1; exact h _ (by omega)
 ·simp [unV]
  constructor
  ·intro h1 h2; exact (h _ (by omega)).1 (h1 h2)
  ·intro h1 h2; exact (h _ (by omega)).2 (h1 h2)
theorem q39 {n : Nat} {x y x' y' : Sv} (hx : ∀ i,i ≤ n → (x'.1 i ↔ x.1 i)) (hy : ∀ i,i ≤ n → (y'.1 i ↔ y.1 i)) (i : Nat) : (binV n 15 x' y' i ↔ binV n 15 x y i) ∧ (binV n 16 x' y' i ↔ binV n 16 x y i) := by
 simp [binV]
 constructor
 ·constructor
  ·rintro ⟨j,h1,h2,h3,h4⟩; exact ⟨j,h1,h2,(hy j (by omega)).1 h3,fun k k1 k2 => (hx k (by omega)).1 (h4 k k1 k2)⟩
  ·rintro ⟨j,h1,h2,h3,h4⟩; exact ⟨j,h1,h2,(hy j (by omega)).2 h3,fun k k1 k2 => (hx k (by omega)).2 (h4 k k1 k2)⟩
 ·constructor
  ·intro h j h1 h2
   rcases h j h1 h2 with h | ⟨k,k1,k2,k3⟩
   ·exact Or.inl ((hy j (by omega)).1 h)
   ·exact Or.inr ⟨k,k1,k2,(hx k (by omega)).1 k3⟩
  ·intro h j h1 h2
   rcases h j h1 h2 with h | ⟨k,k1,k2,k3⟩
   ·exact Or.inl ((hy j (by omega)).2 h)
   ·exact Or.inr ⟨k,k1,k2,(hx k (by omega)).2 k3⟩
theorem q3N {n : Nat} {x y x' y' : Sv} (hx : ∀ i,i ≤ n → (x'.1 i ↔ ¬ x.1 i)) (hy : ∀ i,i ≤ n → (y'.1 i ↔ ¬ y.1 i)) (i : Nat) : (binV n 15 x' y' i ↔ ¬ binV n 16 x y i) ∧ (binV n 16 x' y' i ↔ ¬ binV n 15 x y i) := by
 simp [binV]
 constructor
 ·constructor
  ·rintro ⟨j,h1,h2,h3,h4⟩
   exact ⟨j,h1,h2,(hy j (by omega)).1 h3,fun k k1 k2 => (hx k (by omega)).1 (h4 k k1 k2)⟩
  ·rintro ⟨j,h1,h2,h3,h4⟩
   exact ⟨j,h1,h2,(hy j (by omega)).2 h3,fun k k1 k2 => (hx k (by omega)).2 (h4 k k1 k2)⟩
 ·constructor
  ·intro h j h1 h2 h3
   rcases h j h1 h2 with h | ⟨k,k1,k2,k3⟩
   ·exact absurd h3 ((hy j (by omega)).1 h)
   ·exact ⟨k,k1,k2,(hx k (by omega)).1 k3⟩
  ·intro h j h1 h2
   by_cases h3 : y.1 j
   ·obtain ⟨k,k1,k2,k3⟩ := h j h1 h2 h3
    exact Or.inr ⟨k,k1,k2,(hx k (by omega)).2 k3⟩
   ·exact Or.inl ((hy j (by omega)).2 h3)
end
theorem kMn (t : List Nat) : ∀ T : Tr,T.WF → KMn t T
 | .leaf (op,p),h => by
  rcases qQ h with ⟨rfl,hp⟩ | ⟨rfl,rfl | rfl | rfl | rfl | rfl⟩
  ·exact ⟨fun _ _ _ => Iff.rfl,fun _ i _ => by show (semT t 6 0 [semT t 2 p []]).1 i ↔ _; simp [semT,unV,semTr],fun h => (by cases h)⟩
  ·exact ⟨fun _ _ _ => Iff.rfl,fun _ i _ => by show (semT t 1 0 []).1 i ↔ ¬ (semT t 0 0 []).1 i; simp [semT,leafV],fun h => (by cases h)⟩
  ·exact ⟨fun _ _ _ => Iff.rfl,fun _ i _ => by show (semT t 0 0 []).1 i ↔ ¬ (semT t 1 0 []).1 i; simp [semT,leafV],fun h => (by cases h)⟩
  ·refine ⟨fun _ i hi => (qdm t i).symm,fun _ i hi => ?_,fun h => (by cases h)⟩
   show (semT t 12 0 [semT t 5 0 [],semT t 7 0 [semT t 0 0 []]]).1 i ↔ ¬ (semT t 3 0 []).1 i
   simp [semT,unV,binV,leafV]; omega
  ·exact ⟨fun _ _ _ => Iff.rfl,fun _ i hi => by show (semT t 5 0 []).1 i ↔ ¬ (semT t 4 0 []).1 i; simp [semT,leafV]; omega,fun h => (by cases h)⟩
  ·exact ⟨fun _ _ _ => Iff.rfl,fun _ i hi => by show (semT t 4 0 []).1 i ↔ ¬ (semT t 5 0 []).1 i; simp [semT,leafV]; omega,fun h => (by cases h)⟩
 | .un (op,p) c,h => by
  obtain ⟨rfl,hc,hf,ho⟩ := qE h
  have ih := kMn t c hc
  have hwi := q22 t c hc
  rcases ho with rfl | rfl | rfl | rfl | rfl | rfl | rfl | rfl
  ·have hn : pathT c = false := by simpa [fit1T] using hf
   have f1 := ih.f1 hn
   have f2 := ih.f2 hn
   refine ⟨fun _ i hi => ?_,fun _ i hi => ?_,fun h => (by cases h)⟩
   ·show (semTr t (kTr c).2).1 i ↔ (semT t 6 0 [semTr t c]).1 i
    rw [f2 i hi]; simp [semT,unV]
   ·show (semTr t (kTr c).1).1 i ↔ ¬ (semT t 6 0 [semTr t c]).1 i
    rw [f1 i hi]; simp [semT,unV]
  ·have hn : pathT c = false := by simpa [fit1T] using hf
   exact ⟨fun _ i hi => qcv (Or.inl rfl) (ih.f1 hn) i,fun _ i hi => (qdM (ih.f2 hn) i).2,fun h => (by cases h)⟩
  ·have hn : pathT c = false := by simpa [fit1T] using hf
   exact ⟨fun _ i hi => qcv (Or.inr rfl) (ih.f1 hn) i,fun _ i hi => (qdM (ih.f2 hn) i).1,fun h => (by cases h)⟩
  ·have hn : pathT c = false := by simpa [fit1T] using hf
   refine ⟨fun _ i hi => ?_,fun _ i hi => ?_,fun h => (by cases h)⟩
   ·exact (q39 (x := semT t 0 0 []) (x' := semT t 0 0 []) (fun _ _ => Iff.rfl) (ih.f1 hn) i).1.trans (q5i t _ i).symm
   ·have := (q3N (n := t.length) (x := semT t 0 0 []) (x' := semT t 1 0 []) (fun j _ => by simp [semT,leafV]) (ih.f2 hn) i).2
    exact this.trans (not_congr (q5i t _ i).symm)
  ·have hn : pathT c = false := by simpa [fit1T] using hf
   refine ⟨fun _ i hi => ?_,fun _ i hi => ?_,fun h => (by cases h)⟩
   ·exact (q39 (x := semT t 1 0 []) (x' := semT t 1 0 []) (fun _ _ => Iff.rfl) (ih.f1 hn) i).2.trans (q4W t _ i).symm
   ·have := (q3N (n := t.length) (x := semT t 1 0 []) (x' := semT t 0 0 []) (fun j _ => by simp [semT,leafV]) (ih.f2 hn) i).1
    exact this.trans (not_congr (q4W t _ i).symm)
  ·have hn : pathT c = false ∧ plainT c = true := by simpa [fit1T] using hf
   refine ⟨fun h => (by cases h),fun h => (by cases h),fun _ i hi k => ?_⟩
   show unY t.length 19 (semTr t (kTr c).1) i k ↔ unY t.length 19 (semTr t c) i k
   simp only [unY,if_true]
   rw [ih.f1 hn.1 i hi]
  ·have hn : pathT c = false := by simpa [fit1T] using hf
   refine ⟨fun h => (by cases h),fun h => (by cases h),fun _ i hi k => ?_⟩
   show unY t.length 20 (semTr t (kTr c).1) i k ↔ unY t.length 20 (semTr t c) i k
   simp only [unY,if_neg (show ¬ (20 = 19) by decide),if_true]
   rw [ih.f1 hn i hi]
  ·have hn : pathT c = true := by simpa [fit1T] using hf
   refine ⟨fun h => (by cases h),fun h => (by cases h),fun _ i hi k => ?_⟩
   show unY t.length 23 (semTr t (kTr c).1) i k ↔ unY t.length 23 (semTr t c) i k
   simp only [unY,if_neg (show ¬ (23 = 19) by decide),if_neg (show ¬ (23 = 20) by decide)]
   have hst : ∀ m i k,i ≤ t.length → (stepsP (semTr t (kTr c).1).2 m i k ↔ stepsP (semTr t c).2 m i k) := by
    intro m
    induction m with
    | zero => intro i k _; exact Iff.rfl
    | succ m im =>
     intro i k hi
     constructor
     ·rintro ⟨j,h1,h2⟩
      have h1' := (ih.w1 hn i hi j).1 h1
      exact ⟨j,h1',(im j k (hwi i j hi h1').2).1 h2⟩
     ·rintro ⟨j,h1,h2⟩
      exact ⟨j,(ih.w1 hn i hi j).2 h1,(im j k (hwi i j hi h1).2).2 h2⟩
   exact exists_congr fun m => hst m i k hi
 | .bin (op,p) c d,h => by
  obtain ⟨rfl,hc,hd,hf,ho⟩ := qy h
  have ih := kMn t c hc
  have jh := kMn t d hd
  have hwi := q22 t c hc
  rcases ho with rfl | rfl | rfl | rfl | rfl | rfl | rfl | rfl | rfl | rfl
  ·have hn : pathT c = false ∧ pathT d = false := by simpa [fit2T] using hf
   refine ⟨fun _ i hi => ?_,fun _ i hi => ?_,fun h => (by cases h)⟩
   ·show binV t.length 11 (semTr t (kTr c).1) (semTr t (kTr d).1) i ↔ binV t.length 11 (semTr t c) (semTr t d) i
    simp only [binV,if_true]; rw [ih.f1 hn.1 i hi,jh.f1 hn.2 i hi]
   ·show binV t.length 12 (semTr t (kTr c).2) (semTr t (kTr d).2) i ↔ ¬ binV t.length 11 (semTr t c) (semTr t d) i
    simp only [binV,if_neg (show ¬ (12 = 11) by decide),if_true]; rw [ih.f2 hn.1 i hi,jh.f2 hn.2 i hi]
    by_cases hx : (semTr t c).1 i <;> simp [hx]
  ·have hn : pathT c = false ∧ pathT d = false := by simpa [fit2T] using hf
   refine ⟨fun _ i hi => ?_,fun _ i hi => ?_,fun h => (by cases h)⟩
   ·show binV t.length 12 (semTr t (kTr c).1) (semTr t (kTr d).1) i ↔ binV t.length 12 (semTr t c) (semTr t d) i
    simp only [binV,if_neg (show ¬ (12 = 11) by decide),if_true]; rw [ih.f1 hn.1 i hi,jh.f1 hn.2 i hi]
   ·show binV t.length 11 (semTr t (kTr c).2) (semTr t (kTr d).2) i ↔ ¬ binV t.length 12 (semTr t c) (semTr t d) i
    simp only [binV,if_neg (show ¬ (12 = 11) by decide),if_true]; rw [ih.f2 hn.1 i hi,jh.f2 hn.2 i hi]
    exact not_or.symm
  ·have hn : pathT c = false ∧ pathT d = false := by simpa [fit2T] using hf
   refine ⟨fun _ i hi => ?_,fun _ i hi => ?_,fun h => (by cases h)⟩
   ·show binV t.length 12 (semTr t (kTr c).2) (semTr t (kTr d).1) i ↔ binV t.length 13 (semTr t c) (semTr t d) i
    simp only [binV,if_neg (show ¬ (12 = 11) by decide),if_neg (show ¬ (13 = 11) by decide),if_neg (show ¬ (13 = 12) by decide),if_true]; rw [ih.f2 hn.1 i hi,jh.f1 hn.2 i hi]
    by_cases hx : (semTr t c).1 i <;> simp [hx]
   ·show binV t.length 11 (semTr t (kTr c).1) (semTr t (kTr d).2) i ↔ ¬ binV t.length 13 (semTr t c) (semTr t d) i
    simp only [binV,if_neg (show ¬ (13 = 11) by decide),if_neg (show ¬ (13 = 12) by decide),if_true]; rw [ih.f1 hn.1 i hi,jh.f2 hn.2 i hi]
    by_cases hx : (semTr t c).1 i <;> simp [hx]
  ·have hn : pathT c = false ∧ pathT d = false := by simpa [fit2T] using hf
   refine ⟨fun _ i hi => ?_,fun _ i hi => ?_,fun h => (by cases h)⟩
   ·show binV t.length 12 (semT t 11 0 [semTr t (kTr c).1,semTr t (kTr d).1]) (semT t 11 0 [semTr t (kTr c).2,semTr t (kTr d).2]) i ↔ binV t.length 14 (semTr t c) (semTr t d) i
    simp only [semT,binV,if_neg (show ¬ (12 = 11) by decide),if_neg (show ¬ (14 = 11) by decide),if_neg (show ¬ (14 = 12) by decide),if_neg (show ¬ (14 = 13) by decide),if_true]
    rw [ih.f1 hn.1 i hi,jh.f1 hn.2 i hi,ih.f2 hn.1 i hi,jh.f2 hn.2 i hi]
    by_cases hx : (semTr t c).1 i <;> by_cases hy : (semTr t d).1 i <;> simp [hx,hy]
   ·show binV t.length 12 (semT t 11 0 [semTr t (kTr c).1,semTr t (kTr d).2]) (semT t 11 0 [semTr t (kTr c).2,semTr t (kTr d).1]) i ↔ ¬ binV t.length 14 (semTr t c) (semTr t d) i
    simp only [semT,binV,if_neg (show ¬ (12 = 11) by decide),if_neg (show ¬ (14 = 11) by decide),if_neg (show ¬ (14 = 12) by decide),if_neg (show ¬ (14 = 13) by decide),if_true]
    rw [ih.f1 hn.1 i hi,jh.f1 hn.2 i hi,ih.f2 hn.1 i hi,jh.f2 hn.2 i hi]
    by_cases hx : (semTr t c).1 i <;> by_cases hy : (semTr t d).1 i <;> simp [hx,hy]
  ·have hn : pathT c = false ∧ pathT d = false := by simpa [fit2T] using hf
   exact ⟨fun _ i hi => (q39 (ih.f1 hn.1) (jh.f1 hn.2) i).1,fun _ i hi => (q3N (ih.f2 hn.1) (jh.f2 hn.2) i).2,fun h => (by cases h)⟩
  ·have hn : pathT c = false ∧ pathT d = false := by simpa [fit2T] using hf
   exact ⟨fun _ i hi => (q39 (ih.f1 hn.1) (jh.f1 hn.2) i).2,fun _ i hi => (q3N (ih.f2 hn.1) (jh.f2 hn.2) i).1,fun h => (by cases h)⟩
  ·have hn : pathT c = true ∧ pathT d = false := by simpa [fit2T] using hf
   refine ⟨fun _ i hi => ?_,fun _ i hi => ?_,fun h => (by cases h)⟩
   ·show binV t.length 17 (semTr t (kTr c).1) (semTr t (kTr d).1) i ↔ binV t.length 17 (semTr t c) (semTr t d) i
    simp [binV]
    constructor
    ·rintro ⟨k,h1,h2⟩
     have h1' := (ih.w1 hn.1 i hi k).1 h1
     exact ⟨k,h1',(jh.f1 hn.2 k (hwi i k hi h1').2).1 h2⟩
    ·rintro ⟨k,h1,h2⟩
     exact ⟨k,(ih.w1 hn.1 i hi k).2 h1,(jh.f1 hn.2 k (hwi i k hi h1).2).2 h2⟩
   ·show binV t.length 18 (semTr t (kTr c).1) (semTr t (kTr d).2) i ↔ ¬ binV t.length 17 (semTr t c) (semTr t d) i
    simp [binV]
    constructor
    ·intro h k h1
     exact (jh.f2 hn.2 k (hwi i k hi h1).2).1 (h k ((ih.w1 hn.1 i hi k).2 h1))
    ·intro h k h1
     have h1' := (ih.w1 hn.1 i hi k).1 h1
     exact (jh.f2 hn.2 k (hwi i k hi h1').2).2 (h k h1')
  ·have hn : pathT c = true ∧ pathT d = false := by simpa [fit2T] using hf
   refine ⟨fun _ i hi => ?_,fun _ i hi => ?_,fun h => (by cases h)⟩
   ·show binV t.length 18 (semTr t (kTr c).1) (semTr t (kTr d).1) i ↔ binV t.length 18 (semTr t c) (semTr t d) i
    simp [binV]
    constructor
    ·intro h k h1
     exact (jh.f1 hn.2 k (hwi i k hi h1).2).1 (h k ((ih.w1 hn.1 i hi k).2 h1))
    ·intro h k h1
     have h1' := (ih.w1 hn.1 i hi k).1 h1
     exact (jh.f1 hn.2 k (hwi i k hi h1').2).2 (h k h1')
   ·show binV t.length 17 (semTr t (kTr c).1) (semTr t (kTr d).2) i ↔ ¬ binV t.length 18 (semTr t c) (semTr t d) i
    simp [binV]
    constructor
    ·rintro ⟨k,h1,h2⟩
     have h1' := (ih.w1 hn.1 i hi k).1 h1
     exact ⟨k,h1',(jh.f2 hn.2 k (hwi i k hi h1').2).1 h2⟩
    ·rintro ⟨k,h1,h2⟩
     exact ⟨k,(ih.w1 hn.1 i hi k).2 h1,(jh.f2 hn.2 k (hwi i k hi h1).2).2 h2⟩
  ·have hn : pathT c = true ∧ pathT d = true := by simpa [fit2T] using hf
   refine ⟨fun h => (by cases h),fun h => (by cases h),fun _ i hi k => ?_⟩
   show binY 21 (semTr t (kTr c).1) (semTr t (kTr d).1) i k ↔ binY 21 (semTr t c) (semTr t d) i k
   simp only [binY,if_true]; rw [ih.w1 hn.1 i hi k,jh.w1 hn.2 i hi k]
  ·have hn : pathT c = true ∧ pathT d = true := by simpa [fit2T] using hf
   refine ⟨fun h => (by cases h),fun h => (by cases h),fun _ i hi k => ?_⟩
   show binY 22 (semTr t (kTr c).1) (semTr t (kTr d).1) i k ↔ binY 22 (semTr t c) (semTr t d) i k
   simp only [binY,if_neg (show ¬ (22 = 21) by decide)]
   constructor
   ·rintro ⟨j,h1,h2⟩
    have h1' := (ih.w1 hn.1 i hi j).1 h1
    exact ⟨j,h1',(jh.w1 hn.2 j (hwi i j hi h1').2 k).1 h2⟩
   ·rintro ⟨j,h1,h2⟩
    exact ⟨j,(ih.w1 hn.1 i hi j).2 h1,(jh.w1 hn.2 j (hwi i j hi h1).2 k).2 h2⟩
end Go.Proofs.YtailhklbmenaoaaGreatDoor
