/- Texts of the proof, put together: what it uses. -/
import Derived.Test.YtailhklbmenaoaaGreatDoorZ02
import Derived.Test.YtailhklbmenaoaaGreatDoorZ05
set_option maxRecDepth 100000
set_option maxHeartbeats 16000000
namespace Go.Proofs.YtailhklbmenaoaaGreatDoor
def subL : Tr → List Tr
 | .leaf k => [.leaf k]
 | .un k c => .un k c :: subL c
 | .bin k c d => .bin k c d :: (subL c ++ subL d)
theorem sub_self (T : Tr) : T ∈ subL T := by cases T <;> simp [subL]
theorem q5F : ∀ T : Tr,(subL T).length = T.size
 | .leaf k => rfl
 | .un k c => by simp [subL,Tr.size,q5F c]
 | .bin k c d => by simp [subL,Tr.size,q5F c,q5F d]
theorem q2S : ∀ {T S : Tr},S ∈ subL T → S.size ≤ T.size
 | .leaf k,S,h => by simp [subL] at h; subst h; exact Nat.le_refl _
 | .un k c,S,h => by
  simp [subL] at h
  rcases h with rfl | h
  ·exact Nat.le_refl _
  ·have := q2S h; show _ ≤ c.size + 1; omega
 | .bin k c d,S,h => by
  simp [subL] at h
  rcases h with rfl | h | h
  ·exact Nat.le_refl _
  ·have := q2S h; show _ ≤ c.size + d.size + 1; omega
  ·have := q2S h; show _ ≤ c.size + d.size + 1; omega
theorem q1W : ∀ {T S R : Tr},S ∈ subL T → R ∈ subL S → R ∈ subL T
 | .leaf k,S,R,h,k2 => by simp [subL] at h; subst h; exact k2
 | .un k c,S,R,h,k2 => by
  simp only [subL,List.mem_cons] at h ⊢
  rcases h with rfl | h
  ·simpa [subL] using k2
  ·exact Or.inr (q1W h k2)
 | .bin k c d,S,R,h,k2 => by
  simp only [subL,List.mem_cons,List.mem_append] at h ⊢
  rcases h with rfl | h | h
  ·simpa [subL] using k2
  ·exact Or.inr (Or.inl (q1W h k2))
  ·exact Or.inr (Or.inr (q1W h k2))
theorem q31 {T c : Tr} {k : Tk} (h : .un k c ∈ subL T) : c ∈ subL T := q1W h (by simp [subL,sub_self])
theorem q19 {T c d : Tr} {k : Tk} (h : .bin k c d ∈ subL T) : c ∈ subL T ∧ d ∈ subL T := ⟨q1W h (by simp [subL,sub_self]),q1W h (by simp [subL,sub_self])⟩
theorem q3x : ∀ {T S : Tr},KT T ∨ KP T → S ∈ subL T → KT S ∨ KP S
 | .leaf k,S,hT,h => by simp [subL] at h; subst h; exact hT
 | .un (op,p) c,S,hT,h => by
  simp only [subL,List.mem_cons] at h
  rcases h with rfl | h
  ·exact hT
  ·refine q3x ?_ h
   rcases hT with hT | hT
   ·rcases kt_un hT with ⟨_,⟨rfl,q,rfl⟩ | ⟨_,hc⟩⟩
    ·refine Or.inl ?_
     obtain ⟨_,hc,hf,_⟩ := qE hT.wf
     exact ⟨hc,rfl,rfl⟩
    ·exact Or.inl hc
   ·rcases kp_un hT with ⟨rfl,⟨rfl,_⟩ | ⟨_,hc⟩ | ⟨_,hc⟩⟩
    ·exact Or.inl (q5A hT).1
    ·exact Or.inl hc
    ·exact Or.inr hc
 | .bin (op,p) c d,S,hT,h => by
  simp only [subL,List.mem_cons,List.mem_append] at h
  have hcd : (KT c ∨ KP c) ∧ (KT d ∨ KP d) := by
   rcases hT with hT | hT
   ·obtain ⟨rfl,ho⟩ := q1t hT
    by_cases hw : op = 17 ∨ op = 18
    ·obtain ⟨a,b⟩ := q1l hT hw; exact ⟨Or.inr a,Or.inl b⟩
    ·obtain ⟨a,b⟩ := qB hT (by omega); exact ⟨Or.inl a,Or.inl b⟩
   ·obtain ⟨_,_,a,b⟩ := q1k hT; exact ⟨Or.inr a,Or.inr b⟩
  rcases h with rfl | h | h
  ·exact hT
  ·exact q3x hcd.1 h
  ·exact q3x hcd.2 h
def pws (box : Bool) : Tr → Tr → List Tr
 | .leaf _,_ => []
 | .un k c,f => if k.1 = 23 then .bin (modeO box,0) (.un k c) f :: pws box c (.bin (modeO box,0) (.un k c) f) else []
 | .bin k c d,f => if k.1 = 21 then pws box c f ++ pws box d f else if k.1 = 22 then .bin (modeO box,0) d f :: (pws box d f ++ pws box c (.bin (modeO box,0) d f)) else []
theorem q3d (box : Bool) : ∀ (r f : Tr),(pws box r f).length ≤ r.size
 | .leaf _,_ => Nat.zero_le _
 | .un k c,f => by
  unfold pws Tr.size
  split
  ·have := q3d box c (.bin (modeO box,0) (.un k c) f)
   simp; omega
  ·simp
 | .bin k c d,f => by
  unfold pws Tr.size
  split
  ·have := q3d box c f
   have := q3d box d f
   simp; omega
  ·split
   ·have := q3d box d f
    have := q3d box c (.bin (modeO box,0) d f)
    simp; omega
   ·simp
theorem q30 (box : Bool) : ∀ {r f T : Tr},T ∈ pws box r f → ∃ q F,T = .bin (modeO box,0) q F ∧ q ∈ subL r ∧ (F = f ∨ F ∈ pws box r f) ∧ ∀ X,X ∈ pws box q F → X ∈ pws box r f
 | .leaf _,f,T,h => by simp [pws] at h
 | .un k c,f,T,h => by
  unfold pws at h
  split at h
  ·rename_i hk
   have e : pws box (.un k c) f = .bin (modeO box,0) (.un k c) f :: pws box c (.bin (modeO box,0) (.un k c) f) := by rw [pws,if_pos hk]
   rcases List.mem_cons.1 h with rfl | h
   ·exact ⟨_,f,rfl,sub_self _,Or.inl rfl,fun X hX => hX⟩
   ·obtain ⟨q,F,rfl,h1,h2,h3⟩ := q30 box h
    refine ⟨q,F,rfl,by simp [subL,h1],Or.inr ?_,fun X hX => ?_⟩
    ·rw [e]
     rcases h2 with rfl | h2
     ·exact List.mem_cons_self ..
     ·exact List.mem_cons_of_mem _ h2
    ·rw [e]; exact List.mem_cons_of_mem _ (h3 X hX)
  ·simp at h
 | .bin k c d,f,T,h => by
  unfold pws at h
  split at h
  ·rename_i hk
   have e : pws box (.bin k c d) f = pws box c f ++ pws box d f := by rw [pws,if_pos hk]
   rcases List.mem_append.1 h with h | h
   ·obtain ⟨q,F,rfl,h1,h2,h3⟩ := q30 box h
    refine ⟨q,F,rfl,by simp [subL,h1],h2.imp id fun h => ?_,fun X hX => ?_⟩
    ·rw [e]; exact List.mem_append.2 (Or.inl h)
    ·rw [e]; exact List.mem_append.2 (Or.inl (h3 X hX))
   ·obtain ⟨q,F,rfl,h1,h2,h3⟩ := q30 box h
    refine ⟨q,F,rfl,by simp [subL,h1],h2.imp id fun h => ?_,fun X hX => ?_⟩
    ·rw [e]; exact List.mem_append.2 (Or.inr h)
    ·rw [e]; exact List.mem_append.2 (Or.inr (h3 X hX))
  ·split at h
   ·rename_i hk1 hk
    have e : pws box (.bin k c d) f = .bin (modeO box,0) d f :: (pws box d f ++ pws box c (.bin (modeO box,0) d f)) := by rw [pws,if_neg hk1,if_pos hk]
    rcases List.mem_cons.1 h with rfl | h
    ·refine ⟨d,f,rfl,by simp [subL,sub_self],Or.inl rfl,fun X hX => ?_⟩
     rw [e]; exact List.mem_cons_of_mem _ (List.mem_append.2 (Or.inl hX))
    ·rcases List.mem_append.1 h with h | h
     ·obtain ⟨q,F,rfl,h1,h2,h3⟩ := q30 box h
      refine ⟨q,F,rfl,by simp [subL,h1],h2.imp id fun h => ?_,fun X hX => ?_⟩
      ·rw [e]; exact List.mem_cons_of_mem _ (List.mem_append.2 (Or.inl h))
      ·rw [e]; exact List.mem_cons_of_mem _ (List.mem_append.2 (Or.inl (h3 X hX)))
     ·obtain ⟨q,F,rfl,h1,h2,h3⟩ := q30 box h
      refine ⟨q,F,rfl,by simp [subL,h1],Or.inr ?_,fun X hX => ?_⟩
      ·rw [e]
       rcases h2 with rfl | h2
       ·exact List.mem_cons_self ..
       ·exact List.mem_cons_of_mem _ (List.mem_append.2 (Or.inr h2))
      ·rw [e]; exact List.mem_cons_of_mem _ (List.mem_append.2 (Or.inr (h3 X hX)))
   ·simp at h
theorem q4e (box : Bool) {R : Nat} : ∀ {r f T : Tr},r.size ≤ R → T ∈ pws box r f → T.size ≤ f.size + r.size * (R + 2)
 | .leaf _,f,T,_,h => by simp [pws] at h
 | .un k c,f,T,hR,h => by
  have hs : (Tr.un k c).size = c.size + 1 := rfl
  have hm : (c.size + 1) * (R + 2) = c.size * (R + 2) + (R + 2) := Nat.succ_mul _ _
  unfold pws at h
  split at h
  ·rcases List.mem_cons.1 h with rfl | h
   ·show c.size + 1 + f.size + 1 ≤ _
    rw [hs,hm]; omega
   ·have := q4e box (R := R) (by omega) h
    have e : (Tr.bin (modeO box,0) (.un k c) f).size = c.size + 1 + f.size + 1 := rfl
    rw [hs,hm]; omega
  ·simp at h
 | .bin k c d,f,T,hR,h => by
  have hs : (Tr.bin k c d).size = c.size + d.size + 1 := rfl
  have hm : (c.size + d.size + 1) * (R + 2) = c.size * (R + 2) + d.size * (R + 2) + (R + 2) := by rw [Nat.add_mul,Nat.add_mul,Nat.one_mul]
  unfold pws at h
  split at h
  ·rcases List.mem_append.1 h with h | h
   ·have := q4e box (R := R) (by omega) h
    rw [hs,hm]; omega
   ·have := q4e box (R := R) (by omega) h
    rw [hs,hm]; omega
  ·split at h
   ·have e : (Tr.bin (modeO box,0) d f).size = d.size + f.size + 1 := rfl
    rcases List.mem_cons.1 h with rfl | h
    ·rw [e,hs,hm]; omega
    ·rcases List.mem_append.1 h with h | h
     ·have := q4e box (R := R) (by omega) h
      rw [hs,hm]; omega
     ·have := q4e box (R := R) (by omega) h
      rw [hs,hm]; omega
   ·simp at h
theorem q3c (box : Bool) {R : Nat} : ∀ {r f T : Tr},hgt r ≤ R → T ∈ pws box r f → hgt T ≤ hgt r + max R (hgt f) + 1
 | .leaf _,f,T,_,h => by simp [pws] at h
 | .un k c,f,T,hR,h => by
  unfold pws at h
  split at h
  ·rename_i hk
   have hs : hgt (.un k c) = hgt c + 1 := by rw [hgt,if_neg (by omega)]
   rcases List.mem_cons.1 h with rfl | h
   ·show max (hgt (.un k c)) (hgt f) + 1 ≤ _
    omega
   ·have := q3c box (R := R) (by omega) h
    have e : hgt (.bin (modeO box,0) (.un k c) f) = max (hgt (.un k c)) (hgt f) + 1 := rfl
    omega
  ·simp at h
 | .bin k c d,f,T,hR,h => by
  have hs : hgt (.bin k c d) = max (hgt c) (hgt d) + 1 := rfl
  unfold pws at h
  split at h
  ·rcases List.mem_append.1 h with h | h
   ·have := q3c box (R := R) (by omega) h
    omega
   ·have := q3c box (R := R) (by omega) h
    omega
  ·split at h
   ·have e : hgt (.bin (modeO box,0) d f) = max (hgt d) (hgt f) + 1 := rfl
    rcases List.mem_cons.1 h with rfl | h
    ·omega
    ·rcases List.mem_append.1 h with h | h
     ·have := q3c box (R := R) (by omega) h
      omega
     ·have := q3c box (R := R) (by omega) h
      omega
   ·simp at h
def In0 (T0 T : Tr) : Prop := T ∈ subL T0 ∨ (∃ S,S ∈ subL T0 ∧ KT S ∧ T = (kTr S).2) ∨ T = .leaf (4,0) ∨ T = .leaf (5,0)
def InC (T0 T : Tr) : Prop := In0 T0 T ∨ ∃ box r f,In0 T0 (.bin (modeO box,0) r f) ∧ T ∈ pws box r f
theorem qgI {S c : Tr} {k : Tk} (hS : KT S) (h : (kTr S).2 = .un k c) : (∃ q,S = .leaf (2,q) ∧ c = S) ∨ ∃ d,(∃ k2,S = .un k2 d) ∧ KT d ∧ c = (kTr d).2 := by
 match S,hS,h with
 | .leaf (op,p),hS,h =>
  rcases q1F hS with ⟨rfl,_⟩ | ⟨rfl,rfl | rfl | rfl | rfl⟩
  ·injection h with h1 h2
   exact Or.inl ⟨p,rfl,h2.symm⟩
  ·cases h
  ·cases h
  ·cases h
  ·cases h
 | .un (op,p) d,hS,h =>
  rcases kt_un hS with ⟨rfl,⟨rfl,q,rfl⟩ | ⟨ho,hd⟩⟩
  ·cases h
  ·refine Or.inr ⟨d,⟨_,rfl⟩,hd,?_⟩
   rcases ho with rfl | rfl
   ·injection h with h1 h2; exact h2.symm
   ·injection h with h1 h2; exact h2.symm
 | .bin (op,p) a b,hS,h =>
  obtain ⟨rfl,ho⟩ := q1t hS
  rcases ho with rfl | rfl | rfl | rfl | rfl | rfl <;> cases h
theorem qfW {S c d : Tr} {k : Tk} (hS : KT S) (h : (kTr S).2 = .bin k c d) : ∃ op a b,S = .bin (op,0) a b ∧ KT b ∧ d = (kTr b).2 ∧ ((KP a ∧ c = a ∧ ((op = 17 ∧ k = (18,0)) ∨ (op = 18 ∧ k = (17,0)))) ∨ (KT a ∧ c = (kTr a).2 ∧ k.1 ≠ 17 ∧ k.1 ≠ 18)) := by
 match S,hS,h with
 | .leaf (op,p),hS,h =>
  rcases q1F hS with ⟨rfl,_⟩ | ⟨rfl,rfl | rfl | rfl | rfl⟩ <;> cases h
 | .un (op,p) e,hS,h =>
  rcases kt_un hS with ⟨rfl,⟨rfl,q,rfl⟩ | ⟨ho,hd⟩⟩
  ·cases h
  ·rcases ho with rfl | rfl <;> cases h
 | .bin (op,p) a b,hS,h =>
  obtain ⟨rfl,ho⟩ := q1t hS
  refine ⟨op,a,b,rfl,?_⟩
  by_cases hw : op = 17 ∨ op = 18
  ·obtain ⟨ka,kb⟩ := q1l hS hw
   have e := (q1h a ka.wf ka.kr).1
   rcases hw with rfl | rfl
   ·injection h with h1 h2 h3
    exact ⟨kb,h3.symm,Or.inl ⟨ka,by rw [← h2,e],Or.inl ⟨rfl,h1.symm⟩⟩⟩
   ·injection h with h1 h2 h3
    exact ⟨kb,h3.symm,Or.inl ⟨ka,by rw [← h2,e],Or.inr ⟨rfl,h1.symm⟩⟩⟩
  ·obtain ⟨ka,kb⟩ := qB hS (by omega)
   have ho4 : op = 11 ∨ op = 12 ∨ op = 15 ∨ op = 16 := by omega
   rcases ho4 with rfl | rfl | rfl | rfl
   ·injection h with h1 h2 h3; subst h1; exact ⟨kb,h3.symm,Or.inr ⟨ka,h2.symm,by decide,by decide⟩⟩
   ·injection h with h1 h2 h3; subst h1; exact ⟨kb,h3.symm,Or.inr ⟨ka,h2.symm,by decide,by decide⟩⟩
   ·injection h with h1 h2 h3; subst h1; exact ⟨kb,h3.symm,Or.inr ⟨ka,h2.symm,by decide,by decide⟩⟩
   ·injection h with h1 h2 h3; subst h1; exact ⟨kb,h3.symm,Or.inr ⟨ka,h2.symm,by decide,by decide⟩⟩
theorem qb4 {T0 T : Tr} (h0 : KT T0) (h : In0 T0 T) : KT T ∨ KP T := by
 rcases h with h | ⟨S,hS,kS,rfl⟩ | rfl | rfl
 ·exact q3x (Or.inl h0) h
 ·exact Or.inl (q2Y kS)
 ·exact Or.inl (q2k 4 (by simp))
 ·exact Or.inl (q2k 5 (by simp))
theorem qgt {T0 c : Tr} {k : Tk} (h : In0 T0 (.un k c)) : In0 T0 c := by
 rcases h with h | ⟨S,hS,kS,e⟩ | e | e
 ·exact Or.inl (q31 h)
 ·rcases qgI kS e.symm with ⟨q,rfl,rfl⟩ | ⟨d,⟨k2,rfl⟩,kd,rfl⟩
  ·exact Or.inl hS
  ·exact Or.inr (Or.inl ⟨d,q31 hS,kd,rfl⟩)
 ·cases e
 ·cases e
theorem q5x {T0 c d : Tr} {k : Tk} (h : In0 T0 (.bin k c d)) : In0 T0 c ∧ In0 T0 d ∧ (k.1 = 17 ∨ k.1 = 18 → c ∈ subL T0) := by
 rcases h with h | ⟨S,hS,kS,e⟩ | e | e
 ·exact ⟨Or.inl (q19 h).1,Or.inl (q19 h).2,fun _ => (q19 h).1⟩
 ·obtain ⟨op,a,b,rfl,kb,rfl,⟨ka,rfl,ho⟩ | ⟨ka,rfl,n1,n2⟩⟩ := qfW kS e.symm
  ·exact ⟨Or.inl (q19 hS).1,Or.inr (Or.inl ⟨b,(q19 hS).2,kb,rfl⟩),fun _ => (q19 hS).1⟩
  ·exact ⟨Or.inr (Or.inl ⟨a,(q19 hS).1,ka,rfl⟩),Or.inr (Or.inl ⟨b,(q19 hS).2,kb,rfl⟩),fun h => by omega⟩
 ·cases e
 ·cases e
theorem q4A (box : Bool) : modeO box = 17 ∨ modeO box = 18 := by cases box <;> simp [modeO]
theorem qeH {a b : Bool} (h : modeO a = modeO b) : a = b := by cases a <;> cases b <;> simp [modeO] at h ⊢
theorem qeu (T0 : Tr) : InC T0 T0 := Or.inl (Or.inl (sub_self _))
theorem q6k {T0 : Tr} {op : Nat} (h : op = 4 ∨ op = 5) : InC T0 (.leaf (op,0)) := by
 rcases h with rfl | rfl
 ·exact Or.inl (Or.inr (Or.inr (Or.inl rfl)))
 ·exact Or.inl (Or.inr (Or.inr (Or.inr rfl)))
theorem q5y {T0 S : Tr} (h : S ∈ subL T0) (k : KT S) : InC T0 (kTr S).2 := Or.inl (Or.inr (Or.inl ⟨S,h,k,rfl⟩))
theorem q5z {T0 S : Tr} (h : S ∈ subL T0) : InC T0 S := Or.inl (Or.inl h)
theorem qgu {T0 c : Tr} {k : Tk} (h : InC T0 (.un k c)) : InC T0 c := by
 rcases h with h | ⟨box,r,f,h1,h2⟩
 ·exact Or.inl (qgt h)
 ·obtain ⟨q,F,e,_⟩ := q30 box h2
  cases e
theorem qci {T0 c d : Tr} {k : Tk} (h : InC T0 (.bin k c d)) : InC T0 c ∧ InC T0 d ∧ (k.1 = 17 ∨ k.1 = 18 → c ∈ subL T0) := by
 rcases h with h | ⟨box,r,f,h1,h2⟩
 ·obtain ⟨a,b,e⟩ := q5x h
  exact ⟨Or.inl a,Or.inl b,e⟩
 ·obtain ⟨q,F,e,hq,hF,_⟩ := q30 box h2
  injection e with e1 e2 e3
  subst e1 e2 e3
  obtain ⟨a,b,e⟩ := q5x h1
  have hs := q1W (e (q4A box)) hq
  refine ⟨q5z hs,?_,fun _ => hs⟩
  rcases hF with rfl | hF
  ·exact Or.inl b
  ·exact Or.inr ⟨box,r,f,h1,hF⟩
theorem qfz {T0 r f : Tr} {box : Bool} (h : InC T0 (.bin (modeO box,0) r f)) : ∀ T,T ∈ pws box r f → InC T0 T := by
 intro T hT
 rcases h with h | ⟨b2,r2,f2,h1,h2⟩
 ·exact Or.inr ⟨box,r,f,h,hT⟩
 ·obtain ⟨q,F,e,hq,hF,hsub⟩ := q30 b2 h2
  injection e with e1 e2 e3
  injection e1 with e1
  have := qeH e1
  subst this e2 e3
  exact Or.inr ⟨box,r2,f2,h1,hsub T hT⟩
theorem q2P {T0 T : Tr} (h0 : KT T0) (h : InC T0 T) : KT T ∨ KP T := by
 rcases h with h | ⟨box,r,f,h1,h2⟩
 ·exact qb4 h0 h
 ·have hr : KT (.bin (modeO box,0) r f) := by
   rcases qb4 h0 h1 with h | h
   ·exact h
   ·obtain ⟨_,ho,_⟩ := q1k h
    rcases q4A box with e | e <;> omega
  obtain ⟨kr,kf⟩ := q1l hr (q4A box)
  clear h1 hr
  have key : ∀ (r f T : Tr),KP r → KT f → T ∈ pws box r f → KT T := by
   intro r
   induction r with
   | leaf k => intro f T hr; exact (q2i hr).elim
   | un k c ih =>
    intro f T hr hf hT
    unfold pws at hT
    split at hT
    ·rename_i hk
     obtain ⟨op,p⟩ := k
     dsimp only at hk
     subst hk
     have kc : KP c := by
      rcases kp_un hr with ⟨_,⟨h,_⟩ | ⟨h,_⟩ | ⟨_,h⟩⟩
      ·cases h
      ·cases h
      ·exact h
     have hm := q2j hr hf box
     rcases List.mem_cons.1 hT with rfl | hT
     ·exact hm
     ·exact ih _ T kc hm hT
    ·simp at hT
   | bin k c d ihc ihd =>
    intro f T hr hf hT
    obtain ⟨op,p⟩ := k
    obtain ⟨_,_,kc,kd⟩ := q1k hr
    unfold pws at hT
    split at hT
    ·rcases List.mem_append.1 hT with hT | hT
     ·exact ihc f T kc hf hT
     ·exact ihd f T kd hf hT
    ·split at hT
     ·have hm := q2j kd hf box
      rcases List.mem_cons.1 hT with rfl | hT
      ·exact hm
      ·rcases List.mem_append.1 hT with hT | hT
       ·exact ihd f T kd hf hT
       ·exact ihc _ T kc hm hT
     ·simp at hT
  exact Or.inl (key r f T kr kf h2)
theorem q3t : ∀ T : Tr,KT T → (kTr T).2.size ≤ 2 * T.size
 | .leaf (op,p),hT => by rcases q1F hT with ⟨rfl,_⟩ | ⟨rfl,rfl | rfl | rfl | rfl⟩ <;> simp [kTr,Tr.size]
 | .un (op,p) c,hT => by
  rcases kt_un hT with ⟨rfl,⟨rfl,q,rfl⟩ | ⟨ho,hc⟩⟩
  ·simp [kTr,Tr.size]
  ·have ih := q3t c hc
   rcases ho with rfl | rfl
   ·show (kTr c).2.size + 1 ≤ 2 * (c.size + 1); omega
   ·show (kTr c).2.size + 1 ≤ 2 * (c.size + 1); omega
 | .bin (op,p) c d,hT => by
  obtain ⟨rfl,ho⟩ := q1t hT
  by_cases hw : op = 17 ∨ op = 18
  ·obtain ⟨kc,kd⟩ := q1l hT hw
   have e := (q1h c kc.wf kc.kr).1
   have ih := q3t d kd
   rcases hw with rfl | rfl
   ·show (kTr c).1.size + (kTr d).2.size + 1 ≤ 2 * (c.size + d.size + 1); rw [e]; omega
   ·show (kTr c).1.size + (kTr d).2.size + 1 ≤ 2 * (c.size + d.size + 1); rw [e]; omega
  ·obtain ⟨kc,kd⟩ := qB hT (by omega)
   have ic := q3t c kc
   have ih := q3t d kd
   have ho4 : op = 11 ∨ op = 12 ∨ op = 15 ∨ op = 16 := by omega
   rcases ho4 with rfl | rfl | rfl | rfl
   ·show (kTr c).2.size + (kTr d).2.size + 1 ≤ 2 * (c.size + d.size + 1); omega
   ·show (kTr c).2.size + (kTr d).2.size + 1 ≤ 2 * (c.size + d.size + 1); omega
   ·show (kTr c).2.size + (kTr d).2.size + 1 ≤ 2 * (c.size + d.size + 1); omega
   ·show (kTr c).2.size + (kTr d).2.size + 1 ≤ 2 * (c.size + d.size + 1); omega
theorem q6j {T0 T : Tr} (h2 : T0.size ≤ 2048) (h : In0 T0 T) : T.size ≤ 4096 ∧ hgt T ≤ 2048 := by
 rcases h with h | ⟨S,hS,kS,rfl⟩ | rfl | rfl
 ·have := q2S h
  have := q2O T
  omega
 ·have := q2S hS
  have := q3t S kS
  rw [q18 S kS]
  have := q2O S
  omega
 ·simp [Tr.size,hgt]
 ·simp [Tr.size,hgt]
theorem q4u {T0 T : Tr} (h2 : T0.size ≤ 2048) (h : InC T0 T) : T.size ≤ 20000000 ∧ hgt T ≤ 5000 := by
 rcases h with h | ⟨box,r,f,h1,h3⟩
 ·have := q6j h2 h
  omega
 ·have hr := q2S ((q5x h1).2.2 (q4A box))
  have hf := q6j h2 (q5x h1).2.1
  have a := q4e box (R := 2048) (by omega) h3
  have hg := q2O r
  have b := q3c box (R := 2048) (by omega) h3
  have : r.size * (2048 + 2) ≤ 2048 * (2048 + 2) := Nat.mul_le_mul_right _ (by omega)
  omega
def allC (T0 : Tr) : List Tr :=
 let A := subL T0 ++ (((subL T0).filter fun T => !pathT T).map (fun T => (kTr T).2) ++ [Tr.leaf (4,0),Tr.leaf (5,0)])
 A ++ A.flatMap fun T => match T with | .bin k r f => pws (k.1 == 18) r f | _ => []
theorem qfy {T0 T : Tr} (h : InC T0 T) : T ∈ allC T0 := by
 have key : ∀ T,In0 T0 T → T ∈ subL T0 ++ (((subL T0).filter fun T => !pathT T).map (fun T => (kTr T).2) ++ [Tr.leaf (4,0),Tr.leaf (5,0)]) := by
  intro T h
  rcases h with h | ⟨S,hS,kS,rfl⟩ | rfl | rfl
  ·exact List.mem_append.2 (Or.inl h)
  ·exact List.mem_append.2 (Or.inr (List.mem_append.2 (Or.inl (List.mem_map.2 ⟨S,List.mem_filter.2 ⟨hS,by simp [kS.np]⟩,rfl⟩))))
  ·simp
  ·simp
 unfold allC
 rcases h with h | ⟨box,r,f,h1,h2⟩
 ·exact List.mem_append.2 (Or.inl (key T h))
 ·refine List.mem_append.2 (Or.inr (List.mem_flatMap.2 ⟨_,key _ h1,?_⟩))
  show T ∈ pws ((modeO box) == 18) r f
  rw [show (modeO box == 18) = box by cases box <;> rfl]
  exact h2
theorem q5V {α β : Type} (g : α → List β) (B : Nat) : ∀ l : List α,(∀ x ∈ l,(g x).length ≤ B) → (l.flatMap g).length ≤ l.length * B
 | [],_ => by simp
 | x :: l,h => by
  have h1 := h x (by simp)
  have h2 := q5V g B l fun y hy => h y (by simp [hy])
  rw [List.flatMap_cons,List.length_append,List.length_cons,Nat.add_mul]
  omega
theorem qfj {T0 : Tr} (h0 : KT T0) (h2 : T0.size ≤ 2048) : (allC T0).length ≤ 20000000 := by
 unfold allC
 have hA : (subL T0 ++ (((subL T0).filter fun T => !pathT T).map (fun T => (kTr T).2) ++ [Tr.leaf (4,0),Tr.leaf (5,0)])).length ≤ 4098 := by
  have := q5F T0
  have := List.length_filter_le (fun T => !pathT T) (subL T0)
  simp only [List.length_append,List.length_map,List.length_cons,List.length_nil]
  omega
 have hin : ∀ T ∈ subL T0 ++ (((subL T0).filter fun T => !pathT T).map (fun T => (kTr T).2) ++ [Tr.leaf (4,0),Tr.leaf (5,0)]),In0 T0 T := by
  intro T hT
  rcases List.mem_append.1 hT with h | h
  ·exact Or.inl h
  ·rcases List.mem_append.1 h with h | h
   ·obtain ⟨S,hS,rfl⟩ := List.mem_map.1 h
    obtain ⟨h1,h3⟩ := List.mem_filter.1 hS
    have hk : KT S := by
     rcases q3x (Or.inl h0) h1 with k | k
     ·exact k
     ·rw [k.isp] at h3; cases h3
    exact Or.inr (Or.inl ⟨S,h1,hk,rfl⟩)
   ·simp at h
    rcases h with rfl | rfl
    ·exact Or.inr (Or.inr (Or.inl rfl))
    ·exact Or.inr (Or.inr (Or.inr rfl))
 have hB := q5V (fun T : Tr => match T with | .bin k r f => pws (k.1 == 18) r f | _ => []) 4096 _ (fun T hT => by
  have := (q6j h2 (hin T hT)).1
  cases T with
  | leaf k => exact Nat.zero_le _
  | un k c => exact Nat.zero_le _
  | bin k r f =>
   have := q3d (k.1 == 18) r f
   have e : (Tr.bin k r f).size = r.size + f.size + 1 := rfl
   show (pws (k.1 == 18) r f).length ≤ 4096
   omega)
 rw [List.length_append]
 generalize (subL T0 ++ (((subL T0).filter fun T => !pathT T).map (fun T => (kTr T).2) ++ [Tr.leaf (4,0),Tr.leaf (5,0)])) = A at *
 have : A.length * 4096 ≤ 4098 * 4096 := Nat.mul_le_mul_right _ hA
 omega
theorem q6s {α : Type} : ∀ {l m : List α},l.Nodup → (∀ x ∈ l,x ∈ m) → l.length ≤ m.length
 | [],m,_,_ => Nat.zero_le _
 | x :: l,m,hn,h => by
  obtain ⟨a,b,rfl⟩ := List.append_of_mem (h x (by simp))
  rw [List.nodup_cons] at hn
  have := q6s (m := a ++ b) hn.2 fun y hy => by
   have := h y (by simp [hy])
   simp at this ⊢
   rcases this with h1 | rfl | h1
   ·exact Or.inl h1
   ·exact absurd hy hn.1
   ·exact Or.inr h1
  simp at this ⊢
  omega
theorem q4v : ∀ (T : Tr) (items : List It),items.Nodup → Low items → ∀ n,n < (insT items T).1.length → n < items.length ∨ ∃ S,Rep (insT items T).1 n S ∧ S ∈ subL T
 | .leaf k,items,hn,hl,n,hlt => by
  have ok := q1f (.leaf k) items hn hl
  by_cases h : n < items.length
  ·exact Or.inl h
  ·obtain ⟨l,e,hl1⟩ := q2e items (itemOf k [])
   have e2 : (insT items (.leaf k)).1 = items ++ l := e
   rcases q1b items (itemOf k []) with ⟨j,e3,_⟩ | ⟨e3,_⟩
   ·exfalso
    have : (insT items (.leaf k)).1 = items := congrArg Prod.fst e3
    rw [this] at hlt; exact h hlt
   ·have e4 : (insT items (.leaf k)) = (items ++ [itemOf k []],items.length) := e3
    rw [e4] at hlt ok ⊢
    simp at hlt
    obtain rfl : n = items.length := by omega
    exact Or.inr ⟨_,ok.rep,sub_self _⟩
 | .un k c,items,hn,hl,n,hlt => by
  have ok := q1f (.un k c) items hn hl
  have ih := q1f c items hn hl
  have key : (insT items (.un k c)) = addI (insT items c).1 (itemOf k [(insT items c).2]) := rfl
  by_cases h : n < (insT items c).1.length
  ·refine (q4v c items hn hl n h).imp id ?_
   rintro ⟨S,h1,h2⟩
   refine ⟨S,?_,by simp [subL,h2]⟩
   obtain ⟨l,e,_⟩ := q2e (insT items c).1 (itemOf k [(insT items c).2])
   rw [key,e]
   exact h1.more l
  ·rcases q1b (insT items c).1 (itemOf k [(insT items c).2]) with ⟨j,e3,_⟩ | ⟨e3,_⟩
   ·exfalso
    rw [key,e3] at hlt; exact h hlt
   ·rw [key,e3] at hlt ok ⊢
    simp at hlt
    obtain rfl : n = (insT items c).1.length := by omega
    exact Or.inr ⟨_,ok.rep,sub_self _⟩
 | .bin k c d,items,hn,hl,n,hlt => by
  have ok := q1f (.bin k c d) items hn hl
  have ih := q1f c items hn hl
  have jh := q1f d _ ih.nodup ih.low
  have key : (insT items (.bin k c d)) = addI (insT (insT items c).1 d).1 (itemOf k [(insT items c).2,(insT (insT items c).1 d).2]) := rfl
  obtain ⟨l,e,_⟩ := q2e (insT (insT items c).1 d).1 (itemOf k [(insT items c).2,(insT (insT items c).1 d).2])
  by_cases h : n < (insT (insT items c).1 d).1.length
  ·rcases q4v d _ ih.nodup ih.low n h with h1 | ⟨S,h1,h2⟩
   ·refine (q4v c items hn hl n h1).imp id ?_
    rintro ⟨S,h3,h4⟩
    refine ⟨S,?_,by simp [subL,h4]⟩
    obtain ⟨l2,e2,_⟩ := jh.pre
    rw [key,e,e2,List.append_assoc]
    exact h3.more _
   ·refine Or.inr ⟨S,?_,by simp [subL,h2]⟩
    rw [key,e]
    exact h1.more l
  ·rcases q1b (insT (insT items c).1 d).1 (itemOf k [(insT items c).2,(insT (insT items c).1 d).2]) with ⟨j,e3,_⟩ | ⟨e3,_⟩
   ·exfalso
    rw [key,e3] at hlt; exact h hlt
   ·rw [key,e3] at hlt ok ⊢
    simp at hlt
    obtain rfl : n = (insT (insT items c).1 d).1.length := by omega
    exact Or.inr ⟨_,ok.rep,sub_self _⟩
structure PtK (T : Tr) (items : List It) (n : Nat) : Prop where
 nd : items.Nodup
 low : Low items
 few : items.length ≤ 2048
 cov : ∀ n,n < items.length → ∃ S,Rep items n S ∧ InC T S
 rep : Rep items n T
theorem q3Q : ∀ T : Tr,T.size = T.flat.length
 | .leaf k => rfl
 | .un k c => by simp [Tr.size,Tr.flat,q3Q c]
 | .bin k c d => by simp [Tr.size,Tr.flat,q3Q c,q3Q d]; omega
theorem qeA {ts : List Tk} (hc : chkE ts = 0) : ∃ T,KT T ∧ T.size ≤ 2048 ∧ ts = T.flat ∧ keepE [] ts = 0 ∧ PtK T (keepI [] ts) (keepN [] ts) := by
 obtain ⟨hts,T,hW,hp,hk,rfl⟩ := q2K.1 hc
 have hsz : T.size ≤ 2048 := by rw [q3Q]; exact hts
 have hl0 : Low [] := fun n x h => (by simp at h)
 obtain ⟨e1,e2⟩ := q8o hW []
 have ok := q1f T [] (by simp) hl0
 obtain ⟨l,el,hll⟩ := ok.pre
 have hlen : (insT [] T).1.length ≤ 2048 := by rw [el]; simp; omega
 have hE : keepE [] T.flat = 0 := by unfold keepE; rw [if_neg (by omega),e1,if_neg (by omega)]
 have hI : keepI [] T.flat = (insT [] T).1 := by unfold keepI; rw [if_pos hE,e1]
 have hN : keepN [] T.flat = (insT [] T).2 := by unfold keepN; rw [if_pos hE,e2]
 refine ⟨T,⟨hW,hp,hk⟩,hsz,rfl,hE,?_⟩
 rw [hI,hN]
 refine ⟨ok.nodup,ok.low,hlen,fun n hn => ?_,ok.rep⟩
 rcases q4v T [] (by simp) hl0 n hn with h | ⟨S,h1,h2⟩
 ·simp at h
 ·exact ⟨S,h1,q5z h2⟩
def truT : Tr := .leaf (0,0)
theorem qdz : KT truT := ⟨⟨rfl,rfl⟩,rfl,rfl⟩
theorem dk1 : detM p0T 1 = .ok ([0,-2,-3],[(0,-2,-3)],[[1],[],[0]],[[(2,0)]]) := by kernel_rfl
theorem dk2 : detM truT 0 = .ok ([-1],[],[[0]],[]) := by kernel_rfl
def dkOf : Except Nat (List Int × List Gd × List (List Nat) × Mt) → Option (List (List Nat)) | .ok (_,_,S,_) => some S | .error _ => none
def dkErr : Except Nat (List Int × List Gd × List (List Nat) × Mt) → Nat | .ok _ => 0 | .error e => e
theorem dk3 : dkOf (detM untT 2) = some [[1],[],[0]] := by kernel_rfl
def nextN : Nat → Tr | 0 => .leaf (2,0) | k + 1 => .un (7,0) (nextN k)
theorem dk4 : dkErr (detM (nextN 70) 1) = 9 := by kernel_rfl
end Go.Proofs.YtailhklbmenaoaaGreatDoor
