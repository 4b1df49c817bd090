/- Texts of the proof, put together: what it uses. -/
import Derived.Test.YtailhklbmenaoaaGreatDoorZ01
set_option maxRecDepth 100000
set_option maxHeartbeats 16000000
namespace Go.Proofs.YtailhklbmenaoaaGreatDoor
def kerT : Tr → Bool
 | .leaf (op,_) => op != 3
 | .un (op,_) c => if op = 6 then (match c with | .leaf (o,_) => o == 2 | _ => false) else (op == 7 || op == 8 || op == 19 || op == 20 || op == 23) && kerT c
 | .bin (op,_) c d => (op != 13 && op != 14) && (kerT c && kerT d)
theorem ker_k : ∀ T : Tr,T.WF → kerT (kTr T).1 = true ∧ (pathT T = false → kerT (kTr T).2 = true)
 | .leaf (op,p),h => by
  rcases qQ h with ⟨rfl,hp⟩ | ⟨rfl,rfl | rfl | rfl | rfl | rfl⟩ <;> exact ⟨rfl,fun _ => rfl⟩
 | .un (op,p) c,h => by
  obtain ⟨rfl,hc,hf,ho⟩ := qE h
  have ih := ker_k c hc
  rcases ho with rfl | rfl | rfl | rfl | rfl | rfl | rfl | rfl
  ·have hn : pathT c = false := by simpa [fit1T] using hf
   exact ⟨ih.2 hn,fun _ => ih.1⟩
  ·have hn : pathT c = false := by simpa [fit1T] using hf
   exact ⟨by show kerT (.un (7,0) _) = true; simp [kerT,ih.1],fun _ => by show kerT (.un (8,0) _) = true; simp [kerT,ih.2 hn]⟩
  ·have hn : pathT c = false := by simpa [fit1T] using hf
   exact ⟨by show kerT (.un (8,0) _) = true; simp [kerT,ih.1],fun _ => by show kerT (.un (7,0) _) = true; simp [kerT,ih.2 hn]⟩
  ·have hn : pathT c = false := by simpa [fit1T] using hf
   exact ⟨by show kerT (.bin (15,0) _ _) = true; simp [kerT,ih.1],fun _ => by show kerT (.bin (16,0) _ _) = true; simp [kerT,ih.2 hn]⟩
  ·have hn : pathT c = false := by simpa [fit1T] using hf
   exact ⟨by show kerT (.bin (16,0) _ _) = true; simp [kerT,ih.1],fun _ => by show kerT (.bin (15,0) _ _) = true; simp [kerT,ih.2 hn]⟩
  ·exact ⟨by show kerT (.un (19,0) _) = true; simp [kerT,ih.1],fun h => (by cases h)⟩
  ·exact ⟨by show kerT (.un (20,0) _) = true; simp [kerT,ih.1],fun h => (by cases h)⟩
  ·exact ⟨by show kerT (.un (23,0) _) = true; simp [kerT,ih.1],fun h => (by cases h)⟩
 | .bin (op,p) c d,h => by
  obtain ⟨rfl,hc,hd,hf,ho⟩ := qy h
  have ih := ker_k c hc
  have jh := ker_k d hd
  rcases ho with rfl | rfl | rfl | rfl | rfl | rfl | rfl | rfl | rfl | rfl
  ·have hn : pathT c = false ∧ pathT d = false := by simpa [fit2T] using hf
   exact ⟨by show kerT (.bin (11,0) _ _) = true; simp [kerT,ih.1,jh.1],fun _ => by show kerT (.bin (12,0) _ _) = true; simp [kerT,ih.2 hn.1,jh.2 hn.2]⟩
  ·have hn : pathT c = false ∧ pathT d = false := by simpa [fit2T] using hf
   exact ⟨by show kerT (.bin (12,0) _ _) = true; simp [kerT,ih.1,jh.1],fun _ => by show kerT (.bin (11,0) _ _) = true; simp [kerT,ih.2 hn.1,jh.2 hn.2]⟩
  ·have hn : pathT c = false ∧ pathT d = false := by simpa [fit2T] using hf
   exact ⟨by show kerT (.bin (12,0) _ _) = true; simp [kerT,ih.2 hn.1,jh.1],fun _ => by show kerT (.bin (11,0) _ _) = true; simp [kerT,ih.1,jh.2 hn.2]⟩
  ·have hn : pathT c = false ∧ pathT d = false := by simpa [fit2T] using hf
   exact ⟨by show kerT (.bin (12,0) (.bin (11,0) _ _) (.bin (11,0) _ _)) = true; simp [kerT,ih.1,jh.1,ih.2 hn.1,jh.2 hn.2],fun _ => by show kerT (.bin (12,0) (.bin (11,0) _ _) (.bin (11,0) _ _)) = true; simp [kerT,ih.1,jh.1,ih.2 hn.1,jh.2 hn.2]⟩
  ·have hn : pathT c = false ∧ pathT d = false := by simpa [fit2T] using hf
   exact ⟨by show kerT (.bin (15,0) _ _) = true; simp [kerT,ih.1,jh.1],fun _ => by show kerT (.bin (16,0) _ _) = true; simp [kerT,ih.2 hn.1,jh.2 hn.2]⟩
  ·have hn : pathT c = false ∧ pathT d = false := by simpa [fit2T] using hf
   exact ⟨by show kerT (.bin (16,0) _ _) = true; simp [kerT,ih.1,jh.1],fun _ => by show kerT (.bin (15,0) _ _) = true; simp [kerT,ih.2 hn.1,jh.2 hn.2]⟩
  ·have hn : pathT c = true ∧ pathT d = false := by simpa [fit2T] using hf
   exact ⟨by show kerT (.bin (17,0) _ _) = true; simp [kerT,ih.1,jh.1],fun _ => by show kerT (.bin (18,0) _ _) = true; simp [kerT,ih.1,jh.2 hn.2]⟩
  ·have hn : pathT c = true ∧ pathT d = false := by simpa [fit2T] using hf
   exact ⟨by show kerT (.bin (18,0) _ _) = true; simp [kerT,ih.1,jh.1],fun _ => by show kerT (.bin (17,0) _ _) = true; simp [kerT,ih.1,jh.2 hn.2]⟩
  ·exact ⟨by show kerT (.bin (21,0) _ _) = true; simp [kerT,ih.1,jh.1],fun h => (by cases h)⟩
  ·exact ⟨by show kerT (.bin (22,0) _ _) = true; simp [kerT,ih.1,jh.1],fun h => (by cases h)⟩
theorem q1h : ∀ T : Tr,T.WF → kerT T = true → (kTr T).1 = T ∧ (pathT T = false → (kTr (kTr T).2).2 = T)
 | .leaf (op,p),h,hk => by
  rcases qQ h with ⟨rfl,hp⟩ | ⟨rfl,rfl | rfl | rfl | rfl | rfl⟩
  ·exact ⟨rfl,fun _ => rfl⟩
  ·exact ⟨rfl,fun _ => rfl⟩
  ·exact ⟨rfl,fun _ => rfl⟩
  ·cases hk
  ·exact ⟨rfl,fun _ => rfl⟩
  ·exact ⟨rfl,fun _ => rfl⟩
 | .un (op,p) c,h,hk => by
  obtain ⟨rfl,hc,hf,ho⟩ := qE h
  rcases ho with rfl | rfl | rfl | rfl | rfl | rfl | rfl | rfl
  ·match c,hk with
   | .leaf (o,q),hk =>
    obtain rfl : o = 2 := by simpa [kerT] using hk
    exact ⟨rfl,fun _ => rfl⟩
  ·have hn : pathT c = false := by simpa [fit1T] using hf
   have ih := q1h c hc (by simpa [kerT] using hk)
   exact ⟨congrArg (Tr.un (7,0)) ih.1,fun _ => congrArg (Tr.un (7,0)) (ih.2 hn)⟩
  ·have hn : pathT c = false := by simpa [fit1T] using hf
   have ih := q1h c hc (by simpa [kerT] using hk)
   exact ⟨congrArg (Tr.un (8,0)) ih.1,fun _ => congrArg (Tr.un (8,0)) (ih.2 hn)⟩
  ·simp [kerT] at hk
  ·simp [kerT] at hk
  ·have ih := q1h c hc (by simpa [kerT] using hk)
   exact ⟨congrArg (Tr.un (19,0)) ih.1,fun h => (by cases h)⟩
  ·have ih := q1h c hc (by simpa [kerT] using hk)
   exact ⟨congrArg (Tr.un (20,0)) ih.1,fun h => (by cases h)⟩
  ·have ih := q1h c hc (by simpa [kerT] using hk)
   exact ⟨congrArg (Tr.un (23,0)) ih.1,fun h => (by cases h)⟩
 | .bin (op,p) c d,h,hk => by
  obtain ⟨rfl,hc,hd,hf,ho⟩ := qy h
  have hkk : kerT c = true ∧ kerT d = true := by
   have := hk
   simp [kerT] at this
   exact this.2
  have ih := q1h c hc hkk.1
  have jh := q1h d hd hkk.2
  have two : ∀ (op : Nat) {a b a' b' : Tr},a = a' → b = b' → Tr.bin (op,0) a b = Tr.bin (op,0) a' b' := fun op a b a' b' h1 h2 => by rw [h1,h2]
  rcases ho with rfl | rfl | rfl | rfl | rfl | rfl | rfl | rfl | rfl | rfl
  ·have hn : pathT c = false ∧ pathT d = false := by simpa [fit2T] using hf
   exact ⟨two 11 ih.1 jh.1,fun _ => two 11 (ih.2 hn.1) (jh.2 hn.2)⟩
  ·have hn : pathT c = false ∧ pathT d = false := by simpa [fit2T] using hf
   exact ⟨two 12 ih.1 jh.1,fun _ => two 12 (ih.2 hn.1) (jh.2 hn.2)⟩
  ·simp [kerT] at hk
  ·simp [kerT] at hk
  ·have hn : pathT c = false ∧ pathT d = false := by simpa [fit2T] using hf
   exact ⟨two 15 ih.1 jh.1,fun _ => two 15 (ih.2 hn.1) (jh.2 hn.2)⟩
  ·have hn : pathT c = false ∧ pathT d = false := by simpa [fit2T] using hf
   exact ⟨two 16 ih.1 jh.1,fun _ => two 16 (ih.2 hn.1) (jh.2 hn.2)⟩
  ·have hn : pathT c = true ∧ pathT d = false := by simpa [fit2T] using hf
   exact ⟨two 17 ih.1 jh.1,fun _ => two 17 (by rw [ih.1,ih.1]) (jh.2 hn.2)⟩
  ·have hn : pathT c = true ∧ pathT d = false := by simpa [fit2T] using hf
   exact ⟨two 18 ih.1 jh.1,fun _ => two 18 (by rw [ih.1,ih.1]) (jh.2 hn.2)⟩
  ·exact ⟨two 21 ih.1 jh.1,fun h => (by cases h)⟩
  ·exact ⟨two 22 ih.1 jh.1,fun h => (by cases h)⟩
def IsKer (ts : List Tk) : Prop := ∃ T : Tr,T.WF ∧ pathT T = false ∧ kerT T = true ∧ ts = T.flat
open Classical in
noncomputable def chkE (ts : List Tk) : Nat := if 2048 < ts.length then 3 else if IsKer ts then 0 else 7
theorem q2K {ts : List Tk} : chkE ts = 0 ↔ ts.length ≤ 2048 ∧ IsKer ts := by
 unfold chkE
 split
 ·exact ⟨fun h => (by cases h),fun h => absurd h.1 (by omega)⟩
 ·split
  ·next h1 h2 => exact ⟨fun _ => ⟨by omega,h2⟩,fun _ => rfl⟩
  ·next h1 h2 => exact ⟨fun h => (by cases h),fun h => absurd h.2 h2⟩
def rOwn (op : Nat) : List Nat :=
 if op = 3 then [4,1,8,11] else if op ≤ 5 then [op] else if op = 6 then [25] else if op = 7 then [24,7] else if op = 8 then [24,8]
 else if op = 9 then [0,24,15] else if op = 10 then [1,24,16] else if op = 13 then [25,26,12] else if op = 14 then [24,26,11,25,27,11,12]
 else if op = 19 ∨ op = 20 ∨ op = 23 then [24,op] else [24,26,op]
def rNeg (op : Nat) : List Nat :=
 if op = 0 then [1] else if op = 1 then [0] else if op = 2 then [2,6] else if op = 3 then [5,0,7,12] else if op = 4 then [5] else if op = 5 then [4]
 else if op = 6 then [24] else if op = 7 then [25,8] else if op = 8 then [25,7] else if op = 9 then [1,25,16] else if op = 10 then [0,25,15]
 else if op = 11 then [25,27,12] else if op = 12 then [25,27,11] else if op = 13 then [24,27,11] else if op = 14 then [24,27,11,25,26,11,12]
 else if op = 15 then [25,27,16] else if op = 16 then [25,27,15] else if op = 17 then [24,27,18] else if op = 18 then [24,27,17] else []
def wr1 (k : Tk) (a : List Kq) (o : Nat) : List Tk :=
 if o = 24 then (a.getD 0 ([],[])).1 else if o = 25 then (a.getD 0 ([],[])).2 else if o = 26 then (a.getD 1 ([],[])).1 else if o = 27 then (a.getD 1 ([],[])).2
 else if o = 2 then [k] else [(o,0)]
def wrS (ops : List Nat) (k : Tk) (a : List Kq) : List Tk := ops.flatMap (wr1 k a)
def jOp (k : Tk) (a : List Kq) : Kq := (wrS (rOwn k.1) k a,wrS (rNeg k.1) k a)
def jStep (st : List Kq) (k : Tk) : List Kq := st.take (st.length - takC k) ++ [jOp k (st.drop (st.length - takC k))]
def jS (ts : List Tk) (st : List Kq) : List Kq := ts.foldl jStep st
theorem q7h (a b : List Tk) (st : List Kq) : jS (a ++ b) st = jS b (jS a st) := by unfold jS; rw [List.foldl_append]
def jFl (T : Tr) : Kq := ((kTr T).1.flat,if pathT T then [] else (kTr T).2.flat)
theorem q6m {op p : Nat} (h : (Tr.leaf (op,p)).WF) : jOp (op,p) [] = jFl (.leaf (op,p)) := by
 rcases qQ h with ⟨rfl,hp⟩ | ⟨rfl,rfl | rfl | rfl | rfl | rfl⟩ <;> rfl
theorem qb7 {op p : Nat} {c : Tr} (h : (Tr.un (op,p) c).WF) : jOp (op,p) [jFl c] = jFl (.un (op,p) c) := by
 obtain ⟨rfl,hc,hf,ho⟩ := qE h
 rcases ho with rfl | rfl | rfl | rfl | rfl | rfl | rfl | rfl <;> simp [fit1T] at hf <;> simp [jOp,wrS,wr1,rOwn,rNeg,jFl,kTr,Tr.flat,q8C,isPathB,hf]
theorem q8n {op p : Nat} {c d : Tr} (h : (Tr.bin (op,p) c d).WF) : jOp (op,p) [jFl c,jFl d] = jFl (.bin (op,p) c d) := by
 obtain ⟨rfl,hc,hd,hf,ho⟩ := qy h
 rcases ho with rfl | rfl | rfl | rfl | rfl | rfl | rfl | rfl | rfl | rfl <;> simp [fit2T] at hf <;> simp [jOp,wrS,wr1,rOwn,rNeg,jFl,kTr,Tr.flat,q6u,isPathB,hf]
def s1 (T : Tr) : Nat := (kTr T).1.flat.length
def s2 (T : Tr) : Nat := (kTr T).2.flat.length
theorem qgO {op p : Nat} (h : (Tr.leaf (op,p)).WF) : s2 (.leaf (op,p)) ≤ 2 * s1 (.leaf (op,p)) ∧ s1 (.leaf (op,p)) ≤ 2 * s2 (.leaf (op,p)) := by
 rcases qQ h with ⟨rfl,hp⟩ | ⟨rfl,rfl | rfl | rfl | rfl | rfl⟩ <;> simp [s1,s2,kTr,Tr.flat]
theorem dbl : ∀ T : Tr,T.WF → pathT T = false → s2 T ≤ 2 * s1 T ∧ s1 T ≤ 2 * s2 T
 | .leaf (op,p),h,_ => qgO h
 | .un (op,p) c,h,hp => by
  obtain ⟨rfl,hc,hf,ho⟩ := qE h
  have ih := dbl c hc
  unfold s1 s2 at ih ⊢
  rcases ho with rfl | rfl | rfl | rfl | rfl | rfl | rfl | rfl <;> simp [fit1T] at hf <;> simp [q8C,isPathB] at hp <;> (have ih := ih hf; simp [kTr,Tr.flat]; omega)
 | .bin (op,p) c d,h,hp => by
  obtain ⟨rfl,hc,hd,hf,ho⟩ := qy h
  have ih := dbl c hc
  have jh := dbl d hd
  unfold s1 s2 at ih jh ⊢
  rcases ho with rfl | rfl | rfl | rfl | rfl | rfl | rfl | rfl | rfl | rfl <;> simp [fit2T] at hf <;> simp [q6u,isPathB] at hp <;> simp only [hf,forall_const] at ih jh <;> (simp [kTr,Tr.flat]; omega)
def wt (T : Tr) : Nat := if pathT T then s1 T else min (s1 T) (s2 T)
theorem wt_un {op p : Nat} {c : Tr} (h : (Tr.un (op,p) c).WF) : wt c ≤ wt (.un (op,p) c) := by
 obtain ⟨rfl,hc,hf,ho⟩ := qE h
 unfold wt s1 s2
 rcases ho with rfl | rfl | rfl | rfl | rfl | rfl | rfl | rfl <;> simp [fit1T] at hf <;> (simp [q8C,isPathB,kTr,Tr.flat,hf]; try omega)
theorem qgV {op p : Nat} {c d : Tr} (h : (Tr.bin (op,p) c d).WF) : wt c ≤ wt (.bin (op,p) c d) ∧ wt d ≤ wt (.bin (op,p) c d) := by
 obtain ⟨rfl,hc,hd,hf,ho⟩ := qy h
 unfold wt s1 s2
 rcases ho with rfl | rfl | rfl | rfl | rfl | rfl | rfl | rfl | rfl | rfl <;> simp [fit2T] at hf <;> (simp [q6u,isPathB,kTr,Tr.flat,hf]; omega)
theorem qbz {T : Tr} (h : T.WF) : (jFl T).1.length ≤ 2 * wt T ∧ (jFl T).2.length ≤ 2 * wt T := by
 unfold jFl wt
 cases hp : pathT T with
 | true => simp [s1]; omega
 | false =>
  have := dbl T h hp
  unfold s1 s2 at *
  simp
  omega
structure JOk (B : Nat) (st : List Kq) (q : Tk) : Prop where
 tk : ∃ m,takesN q = some m
 le : takC q ≤ st.length
 l1 : (jOp q (st.drop (st.length - takC q))).1.length ≤ B
 l2 : (jOp q (st.drop (st.length - takC q))).2.length ≤ B
theorem q7i : ∀ T : Tr,T.WF → ∀ (st : List Kq) (B : Nat),2 * wt T ≤ B → jS T.flat st = st ++ [jFl T] ∧ ∀ k (h : k < T.flat.length),JOk B (jS (T.flat.take k) st) T.flat[k]
 | .leaf (op,p),hT,st,B,hB => by
  have e := q28 hT.1
  have hd := q1O st [] 0 rfl
  rw [List.append_nil] at hd
  have hw := qbz hT
  refine ⟨?_,fun k h => ?_⟩
  ·show jStep st (op,p) = _
   unfold jStep
   rw [e,hd.1,hd.2,q6m hT]
  ·have hk : k = 0 := by simp [Tr.flat] at h; exact h
   subst hk
   show JOk B st (op,p)
   refine ⟨⟨0,hT.1⟩,by rw [e]; exact Nat.zero_le _,?_,?_⟩
   ·rw [e,hd.1,q6m hT]; omega
   ·rw [e,hd.1,q6m hT]; omega
 | .un (op,p) c,hT,st,B,hB => by
  have e := q28 hT.1
  have hw := qbz hT
  have hwc := wt_un hT
  obtain ⟨h1,h2⟩ := q7i c hT.2.2 st B (by omega)
  have hd := q1O st [jFl c] 1 rfl
  refine ⟨?_,?_⟩
  ·show jS (c.flat ++ [(op,p)]) st = _
   rw [q7h,h1]
   show jStep _ (op,p) = _
   unfold jStep
   rw [e,hd.1,hd.2,qb7 hT]
  ·show ∀ k (h : k < (c.flat ++ [(op,p)]).length),JOk B (jS ((c.flat ++ [(op,p)]).take k) st) (c.flat ++ [(op,p)])[k]
   refine q5m (P := fun l x => JOk B (jS l st) x) h2 fun k h => ?_
   have hk : k = 0 := by simp at h; exact h
   subst hk
   show JOk B (jS (c.flat ++ []) st) (op,p)
   rw [List.append_nil,h1]
   refine ⟨⟨1,hT.1⟩,by rw [e]; simp,?_,?_⟩
   ·rw [e,hd.1,qb7 hT]; omega
   ·rw [e,hd.1,qb7 hT]; omega
 | .bin (op,p) c d,hT,st,B,hB => by
  have e := q28 hT.1
  have hw := qbz hT
  have hwc := qgV hT
  obtain ⟨h1,h2⟩ := q7i c hT.2.2.1 st B (by omega)
  obtain ⟨h3,h4⟩ := q7i d hT.2.2.2 (st ++ [jFl c]) B (by omega)
  have hd := q1O st [jFl c,jFl d] 2 rfl
  rw [show st ++ [jFl c,jFl d] = st ++ [jFl c] ++ [jFl d] by simp] at hd
  have h5 : jS (c.flat ++ d.flat) st = st ++ [jFl c] ++ [jFl d] := by rw [q7h,h1,h3]
  refine ⟨?_,?_⟩
  ·show jS (c.flat ++ d.flat ++ [(op,p)]) st = _
   rw [q7h,h5]
   show jStep _ (op,p) = _
   unfold jStep
   rw [e,hd.1,hd.2,q8n hT]
  ·show ∀ k (h : k < (c.flat ++ d.flat ++ [(op,p)]).length),JOk B (jS ((c.flat ++ d.flat ++ [(op,p)]).take k) st) (c.flat ++ d.flat ++ [(op,p)])[k]
   refine q5m (P := fun l x => JOk B (jS l st) x) (q5m (P := fun l x => JOk B (jS l st) x) h2 fun k h => ?_) fun k h => ?_
   ·show JOk B (jS (c.flat ++ d.flat.take k) st) d.flat[k]
    rw [q7h,h1]; exact h4 k h
   ·have hk : k = 0 := by simp at h; exact h
    subst hk
    show JOk B (jS (c.flat ++ d.flat ++ []) st) (op,p)
    rw [List.append_nil,h5]
    refine ⟨⟨2,hT.1⟩,by rw [e]; simp,?_,?_⟩
    ·rw [e,hd.1,q8n hT]; omega
    ·rw [e,hd.1,q8n hT]; omega
def fewAt (b : Bool) (op p : Nat) : Bool :=
 if op = 2 then decide (p < 8) else if op = 3 ∨ op = 9 ∨ op = 10 ∨ op = 13 ∨ op = 14 then false else if op = 6 ∧ b = false then false else decide (op ≤ 23) && decide (p = 0)
def fewL : Bool → List Tk → Bool
 | _,[] => true
 | b,k :: r => fewAt b k.1 k.2 && fewL (decide (k.1 = 2)) r
def lastP (b : Bool) (l : List Tk) : Bool := match l.getLast? with | none => b | some k => decide (k.1 = 2)
theorem q4w (b : Bool) (l : List Tk) (k : Tk) : lastP b (l ++ [k]) = decide (k.1 = 2) := by simp [lastP]
theorem qcW (b : Bool) (l : List Tk) (k : Tk) : lastP b (k :: l) = lastP (decide (k.1 = 2)) l := by
 cases l with
 | nil => rfl
 | cons x l =>
  have : ∃ y,(x :: l).getLast? = some y := ⟨_,List.getLast?_eq_some_getLast (by simp)⟩
  obtain ⟨y,hy⟩ := this
  simp [lastP,List.getLast?_cons_cons,hy]
theorem q2L : ∀ (b : Bool) (l r : List Tk),fewL b (l ++ r) = (fewL b l && fewL (lastP b l) r)
 | b,[],r => by simp [fewL,lastP]
 | b,k :: l,r => by
  show (fewAt b k.1 k.2 && fewL _ (l ++ r)) = ((fewAt b k.1 k.2 && fewL _ l) && _)
  rw [q2L,qcW,Bool.and_assoc]
theorem q3q (b : Bool) (k : Tk) : fewL b [k] = fewAt b k.1 k.2 := by simp [fewL]
def rootP : Tr → Bool
 | .leaf k => decide (k.1 = 2)
 | .un k _ => decide (k.1 = 2)
 | .bin k _ _ => decide (k.1 = 2)
theorem q3r : ∀ T : Tr,T.WF → ∀ b,fewL b T.flat = kerT T ∧ lastP b T.flat = rootP T
 | .leaf (op,p),h,b => by
  rcases qQ h with ⟨rfl,hp⟩ | ⟨rfl,rfl | rfl | rfl | rfl | rfl⟩
  ·refine ⟨?_,rfl⟩
   show fewL b [(2,p)] = true
   rw [q3q]; simp [fewAt]; omega
  all_goals exact ⟨by show fewL b [_] = _; rw [q3q]; simp [fewAt,kerT],rfl⟩
 | .un (op,p) c,h,b => by
  obtain ⟨rfl,hc,hf,ho⟩ := qE h
  have ih := q3r c hc b
  refine ⟨?_,by show lastP b (c.flat ++ _) = _; rw [q4w]; rfl⟩
  show fewL b (c.flat ++ [(op,0)]) = _
  rw [q2L,ih.1,ih.2,q3q]
  rcases ho with rfl | rfl | rfl | rfl | rfl | rfl | rfl | rfl
  ·match c,hc with
   | .leaf (o,q),_ => by_cases e : o = 2 <;> simp [fewAt,kerT,rootP,e]
   | .un (o,q) c,hc =>
    obtain ⟨_,_,_,ho⟩ := qE hc
    have e : ¬ o = 2 := by omega
    simp [fewAt,kerT,rootP,e]
   | .bin (o,q) c d,hc =>
    obtain ⟨_,_,_,_,ho⟩ := qy hc
    have e : ¬ o = 2 := by omega
    simp [fewAt,kerT,rootP,e]
  all_goals simp [fewAt,kerT]
 | .bin (op,p) c d,h,b => by
  obtain ⟨rfl,hc,hd,hf,ho⟩ := qy h
  have ih := q3r c hc b
  have jh := q3r d hd
  refine ⟨?_,by show lastP b (c.flat ++ d.flat ++ _) = _; rw [q4w]; rfl⟩
  show fewL b (c.flat ++ d.flat ++ [(op,0)]) = _
  rw [q2L,q2L,ih.1,(jh _).1,q3q]
  rcases ho with rfl | rfl | rfl | rfl | rfl | rfl | rfl | rfl | rfl | rfl <;> simp [fewAt,kerT]
def kd (p : Pt) : Nat := if p.path then 2 else if p.plain then 1 else 0
def isN (k want : Nat) : Bool := decide (k = want) || (decide (k = 1) && decide (want = 0))
def kiMade (op : Nat) (a : List Nat) : Nat :=
 if op ≤ 2 then 1 else if op ≤ 5 then 0 else if op = 6 then 1 else if op ≤ 8 then 0 else if op = 11 ∨ op = 12 then (if a.getD 0 0 = 1 ∧ a.getD 1 0 = 1 then 1 else 0) else if op ≤ 18 then 0 else 2
def kiFit (op : Nat) (a : List Nat) : Bool :=
 if op ≤ 5 then true else if op = 6 then decide (a.getD 0 0 = 1) else if op ≤ 8 then isN (a.getD 0 0) 0 else if op ≤ 16 then isN (a.getD 0 0) 0 && isN (a.getD 1 0) 0
 else if op ≤ 18 then decide (a.getD 0 0 = 2) && isN (a.getD 1 0) 0 else if op = 19 then decide (a.getD 0 0 = 1) else if op = 20 then isN (a.getD 0 0) 0 else if op = 23 then decide (a.getD 0 0 = 2)
 else decide (a.getD 0 0 = 2) && decide (a.getD 1 0 = 2)
def takO (op : Nat) : Nat := if op ≤ 5 then 0 else if op ≤ 10 ∨ op = 19 ∨ op = 20 ∨ op = 23 then 1 else 2
theorem q3a (op : Nat) : (takO op = 0 ∧ op ≤ 5) ∨ (takO op = 1 ∧ 5 < op ∧ (op ≤ 10 ∨ op = 19 ∨ op = 20 ∨ op = 23)) ∨ (takO op = 2 ∧ 5 < op ∧ ¬ (op ≤ 10 ∨ op = 19 ∨ op = 20 ∨ op = 23)) := by
 unfold takO
 split
 ·exact Or.inl ⟨rfl,by assumption⟩
 ·split
  ·exact Or.inr (Or.inl ⟨rfl,by omega,by assumption⟩)
  ·exact Or.inr (Or.inr ⟨rfl,by omega,by assumption⟩)
theorem arm0 {op : Nat} (h : 0 = takO op) (n3 : op ≠ 3) : op = 0 ∨ op = 1 ∨ op = 2 ∨ op = 4 ∨ op = 5 := by rcases q3a op with ⟨h1,h2⟩ | ⟨h1,h2⟩ | ⟨h1,h2⟩ <;> omega
theorem arm1 {op : Nat} (h : 1 = takO op) (n6 : op ≠ 6) (n9 : op ≠ 9) (n10 : op ≠ 10) : op = 7 ∨ op = 8 ∨ op = 19 ∨ op = 20 ∨ op = 23 := by rcases q3a op with ⟨h1,h2⟩ | ⟨h1,h2⟩ | ⟨h1,h2⟩ <;> omega
theorem arm2 {op : Nat} (h : 2 = takO op) (h23 : op ≤ 23) (n13 : op ≠ 13) (n14 : op ≠ 14) : op = 11 ∨ op = 12 ∨ op = 15 ∨ op = 16 ∨ op = 17 ∨ op = 18 ∨ op = 21 ∨ op = 22 := by rcases q3a op with ⟨h1,h2⟩ | ⟨h1,h2⟩ | ⟨h1,h2⟩ <;> omega
theorem q5G (op : Nat) : takO op ≤ 2 := by rcases q3a op with ⟨h1,h2⟩ | ⟨h1,h2⟩ | ⟨h1,h2⟩ <;> omega
def kiS : List Tk → List Nat → Option (List Nat)
 | [],st => some st
 | k :: r,st => if st.length < takO k.1 then none else if kiFit k.1 (st.drop (st.length - takO k.1)) = true then kiS r (st.take (st.length - takO k.1) ++ [kiMade k.1 (st.drop (st.length - takO k.1))]) else none
theorem q5j {b : Bool} {op p : Nat} (h : fewAt b op p = true) : takesN (op,p) = some (takO op) ∧ op ≤ 23 ∧ op ≠ 3 ∧ op ≠ 9 ∧ op ≠ 10 ∧ op ≠ 13 ∧ op ≠ 14 ∧ (op = 6 → b = true) := by
 have hs : (op = 2 ∧ p < 8) ∨ (op ≠ 2 ∧ op ≤ 23 ∧ p = 0 ∧ op ≠ 3 ∧ op ≠ 9 ∧ op ≠ 10 ∧ op ≠ 13 ∧ op ≠ 14 ∧ (op = 6 → b = true)) := by
  unfold fewAt at h
  split at h
  ·exact Or.inl ⟨by assumption,by simpa using h⟩
  ·split at h
   ·cases h
   ·split at h
    ·cases h
    ·rename_i h1 h2 h3
     simp at h
     refine Or.inr ⟨h1,h.1,h.2,by omega,by omega,by omega,by omega,by omega,fun e => ?_⟩
     cases b with
     | true => rfl
     | false => exact absurd ⟨e,rfl⟩ h3
 have h1 : ¬ (23 < op ∨ (op ≠ 2 ∧ p ≠ 0) ∨ (op = 2 ∧ 7 < p)) := by rcases hs with ⟨h1,h2⟩ | ⟨h1,h2,h3,_⟩ <;> omega
 refine ⟨?_,by omega,?_,?_,?_,?_,?_,?_⟩
 ·unfold takesN takO
  dsimp only
  rw [if_neg h1]
  split
  ·rfl
  ·split <;> rfl
 all_goals rcases hs with ⟨e1,e2⟩ | ⟨e1,e2,e3,e4,e5,e6,e7,e8,e9⟩ <;> first | assumption | omega
theorem q6n (p : Pt) (h : Sane p) : (kd p = 2 ∧ p.path = true ∧ p.plain = false) ∨ (kd p = 1 ∧ p.path = false ∧ p.plain = true) ∨ (kd p = 0 ∧ p.path = false ∧ p.plain = false) := by
 unfold Sane at h
 unfold kd
 cases h1 : p.path <;> cases h2 : p.plain <;> simp_all
theorem qgw {op : Nat} {x : Pt} (h : Sane x) (ho : op = 7 ∨ op = 8 ∨ op = 19 ∨ op = 20 ∨ op = 23 ∨ (op = 6 ∧ kd x = 1)) (i p : Nat) : kiFit op [kd x] = fitsP op [x] ∧ (fitsP op [x] = true → kiMade op [kd x] = kd (putP (op,p) [x] i)) := by
 rcases q6n x h with ⟨e,e1,e2⟩ | ⟨e,e1,e2⟩ | ⟨e,e1,e2⟩ <;> rw [e] at ho ⊢ <;> rcases ho with rfl | rfl | rfl | rfl | rfl | ⟨rfl,h0⟩ <;> first | (exact absurd h0 (by decide)) | (simp [kiFit,kiMade,fitsP,putP,kd,isN,isPathB,plainB,e1,e2])
theorem qgx {op : Nat} {x y : Pt} (h : Sane x) (h' : Sane y) (ho : op = 11 ∨ op = 12 ∨ op = 15 ∨ op = 16 ∨ op = 17 ∨ op = 18 ∨ op = 21 ∨ op = 22) (i p : Nat) : kiFit op [kd x,kd y] = fitsP op [x,y] ∧ (fitsP op [x,y] = true → kiMade op [kd x,kd y] = kd (putP (op,p) [x,y] i)) := by
 rcases q6n x h with ⟨e,e1,e2⟩ | ⟨e,e1,e2⟩ | ⟨e,e1,e2⟩ <;> rcases q6n y h' with ⟨f,f1,f2⟩ | ⟨f,f1,f2⟩ | ⟨f,f1,f2⟩ <;> rw [e,f] <;> rcases ho with rfl | rfl | rfl | rfl | rfl | rfl | rfl | rfl <;> simp [kiFit,kiMade,fitsP,putP,kd,isN,isPathB,plainB,e1,e2,f1,f2]
theorem qfI {op p : Nat} (ho : op = 0 ∨ op = 1 ∨ op = 2 ∨ op = 4 ∨ op = 5) (i : Nat) : kiFit op [] = true ∧ fitsP op [] = true ∧ kiMade op [] = kd (putP (op,p) [] i) := by
 rcases ho with rfl | rfl | rfl | rfl | rfl <;> simp [kiFit,kiMade,fitsP,putP,kd,isPathB,plainB]
theorem q8q : ∀ (l : List Tk) (b : Bool) (i : Nat) (st : List Pt),fewL b l = true → (∀ x ∈ st,Sane x) → (b = true → ∃ r x,st = r ++ [x] ∧ kd x = 1) → kiS l (st.map kd) = (readP l i st).map fun x => x.2.map kd
 | [],_,_,st,_,_,_ => rfl
 | (op,p) :: r,b,i,st,hf,hs,hb => by
  have hf' : (fewAt b op p && fewL (decide (op = 2)) r) = true := hf
  rw [Bool.and_eq_true] at hf'
  obtain ⟨hf1,hf2⟩ := hf'
  obtain ⟨ht,h23,n3,n9,n10,n13,n14,n6⟩ := q5j hf1
  unfold kiS readP
  rw [ht]
  dsimp only
  rw [List.length_map]
  by_cases hl : st.length < takO op
  ·rw [if_pos hl,if_pos hl]; rfl
  rw [if_neg hl,if_neg hl,← List.map_drop,← List.map_take]
  have hsd : ∀ x ∈ st.drop (st.length - takO op),Sane x := fun x hx => hs x (List.mem_of_mem_drop hx)
  have hst : ∀ x ∈ st.take (st.length - takO op),Sane x := fun x hx => hs x (List.mem_of_mem_take hx)
  have hal : (st.drop (st.length - takO op)).length = takO op := by simp; omega
  have h6 : op = 6 → ∃ x,st.drop (st.length - takO op) = [x] ∧ kd x = 1 := fun e => by
   obtain ⟨r',x,e1,e2⟩ := hb (n6 e)
   refine ⟨x,?_,e2⟩
   subst e1 e
   exact (q1O r' [x] 1 rfl).1
  generalize st.drop (st.length - takO op) = a at *
  generalize st.take (st.length - takO op) = rest at *
  have key : kiFit op (a.map kd) = fitsP op a ∧ (fitsP op a = true → kiMade op (a.map kd) = kd (putP (op,p) a i)) := by
   match a,hal,hsd,h6 with
   | [],hal,_,_ =>
    have := qfI (p := p) (arm0 hal n3) i
    exact ⟨this.1.trans this.2.1.symm,fun _ => this.2.2⟩
   | [x],hal,hsd,h6 =>
    have h7 : op = 7 ∨ op = 8 ∨ op = 19 ∨ op = 20 ∨ op = 23 ∨ (op = 6 ∧ kd x = 1) := by
     by_cases e : op = 6
     ·obtain ⟨y,e1,e2⟩ := h6 e
      injection e1 with e1 _
      subst e1
      exact Or.inr (Or.inr (Or.inr (Or.inr (Or.inr ⟨e,e2⟩))))
     ·rcases arm1 hal e n9 n10 with e | e | e | e | e
      ·exact Or.inl e
      ·exact Or.inr (Or.inl e)
      ·exact Or.inr (Or.inr (Or.inl e))
      ·exact Or.inr (Or.inr (Or.inr (Or.inl e)))
      ·exact Or.inr (Or.inr (Or.inr (Or.inr (Or.inl e))))
    exact qgw (hsd x (by simp)) h7 i p
   | [x,y],hal,hsd,_ =>
    exact qgx (hsd x (by simp)) (hsd y (by simp)) (arm2 hal h23 n13 n14) i p
   | _ :: _ :: _ :: _,hal,_,_ => have := q5G op; simp at hal; omega
  rw [key.1]
  by_cases hfit : fitsP op a = true
  ·rw [if_pos hfit,if_pos hfit,key.2 hfit,show rest.map kd ++ [kd (putP (op,p) a i)] = (rest ++ [putP (op,p) a i]).map kd by simp]
   rw [q8q r _ (i + 1) (rest ++ [putP (op,p) a i]) hf2 ?_ ?_]
   ·cases readP r (i + 1) (rest ++ [putP (op,p) a i]) <;> rfl
   ·intro x hx
    rcases List.mem_append.1 hx with hx | hx
    ·exact hst x hx
    ·simp at hx; subst hx; exact qe1 _ _ _
   ·intro e
    simp at e
    subst e
    refine ⟨rest,_,rfl,?_⟩
    match a,hal with
    | [],_ => rfl
  ·rw [if_neg hfit,if_neg hfit]; rfl
def kiOk (ts : List Tk) : Bool := match kiS ts [] with | some [x] => isN x 0 | _ => false
theorem q3L (ts : List Tk) : IsKer ts ↔ fewL false ts = true ∧ kiOk ts = true := by
 constructor
 ·rintro ⟨T,hT,hp,hk,rfl⟩
  have h1 : fewL false T.flat = true := ((q3r T hT false).1).trans hk
  refine ⟨h1,?_⟩
  unfold kiOk
  have := q8q T.flat false 0 [] h1 (fun x hx => (by simp at hx)) (fun h => (by cases h))
  rw [qbl.2 ⟨T,hT,rfl,rfl,rfl⟩] at this
  rw [show kiS T.flat [] = some [kd (T.part 0)] from this]
  have hp' : (T.part 0).path = false := hp
  simp [kd,hp',isN]
 ·rintro ⟨h1,h2⟩
  unfold kiOk at h2
  have := q8q ts false 0 [] h1 (fun x hx => (by simp at hx)) (fun h => (by cases h))
  rw [show kiS ts [] = _ from this] at h2
  cases hr : readP ts 0 [] with
  | none => rw [hr] at h2; simp at h2
  | some x =>
   obtain ⟨all,st⟩ := x
   rw [hr] at h2
   match st,h2,hr with
   | [],h2,_ => simp at h2
   | [p],h2,hr =>
    obtain ⟨T,hT,rfl,rfl,rfl⟩ := qbl.1 hr
    refine ⟨T,hT,?_,?_,rfl⟩
    ·cases hb : pathT T with
     | false => rfl
     | true =>
      unfold pathT at hb
      simp [kd,hb,isN] at h2
    ·rw [← (q3r T hT false).1]; exact h1
   | _ :: _ :: _,h2,_ => simp at h2
def mkT (k : Tk) (a : List Tr) : Tr :=
 match a with
 | [] => .leaf k
 | [c] => .un k c
 | c :: d :: _ => .bin k c d
def gStep (st : List Tr) (k : Tk) : List Tr := st.take (st.length - takC k) ++ [mkT k (st.drop (st.length - takC k))]
def gS (ts : List Tk) (st : List Tr) : List Tr := ts.foldl gStep st
theorem qb0 (a b : List Tk) (st : List Tr) : gS (a ++ b) st = gS b (gS a st) := by unfold gS; rw [List.foldl_append]
theorem q2N : ∀ T : Tr,T.WF → ∀ st,gS T.flat st = st ++ [T]
 | .leaf (op,p),h,st => by
  have e := q28 h.1
  have hd := q1O st [] 0 rfl
  rw [List.append_nil] at hd
  show gStep st (op,p) = _
  unfold gStep
  rw [e,hd.1,hd.2]; rfl
 | .un (op,p) c,h,st => by
  have e := q28 h.1
  have hd := q1O st [c] 1 rfl
  show gS (c.flat ++ [(op,p)]) st = _
  rw [qb0,q2N c h.2.2]
  show gStep _ (op,p) = _
  unfold gStep
  rw [e,hd.1,hd.2]; rfl
 | .bin (op,p) c d,h,st => by
  have e := q28 h.1
  have hd := q1O st [c,d] 2 rfl
  show gS (c.flat ++ d.flat ++ [(op,p)]) st = _
  rw [qb0,qb0,q2N c h.2.2.1,q2N d h.2.2.2]
  show gStep _ (op,p) = _
  rw [show st ++ [c] ++ [d] = st ++ [c,d] by simp]
  unfold gStep
  rw [e,hd.1,hd.2]; rfl
theorem qdt : ∀ (ts : List Tk) (st : List Tr) (js : List Kq),st.length = js.length → (gS ts st).length = (jS ts js).length
 | [],st,js,h => h
 | k :: ts,st,js,h => by
  show (gS ts (gStep st k)).length = (jS ts (jStep js k)).length
  refine qdt ts _ _ ?_
  unfold gStep jStep
  simp [h]
structure GGood (ts : List Tk) (T : Tr) : Prop where
 few : ts.length ≤ 2048
 ok : ∀ k (h : k < ts.length),(∃ m,takesN ts[k] = some m) ∧ takC ts[k] ≤ (gS (ts.take k) []).length
 fin : gS ts [] = [T]
theorem ggood {T : Tr} (h : T.WF) (hl : T.flat.length ≤ 2048) : GGood T.flat T := by
 obtain ⟨_,h2⟩ := q7i T h [] (2 * wt T) (Nat.le_refl _)
 refine ⟨hl,fun k hk => ⟨(h2 k hk).tk,?_⟩,q2N T h []⟩
 rw [qdt _ [] [] rfl]
 exact (h2 k hk).le
def tn (x y : Nat) (b : Bool) : Nat := if b then y else x
structure It where
 op : Nat
 p : Nat
 a : Int
 b : Int
deriving DecidableEq
def itemOf (k : Tk) (args : List Nat) : It := match args with
 | [] => ⟨k.1,k.2,-1,-1⟩
 | [x] => ⟨k.1,k.2,(x : Int),-1⟩
 | x :: y :: _ => ⟨k.1,k.2,(x : Int),(y : Int)⟩
def addI (items : List It) (x : It) : List It × Nat := match items.findIdx? (· = x) with
 | some j => (items,j)
 | none => (items ++ [x],items.length)
theorem q1b (items : List It) (x : It) : (∃ j,addI items x = (items,j) ∧ items[j]? = some x) ∨ (addI items x = (items ++ [x],items.length) ∧ x ∉ items) := by
 unfold addI
 cases h : items.findIdx? (· = x) with
 | none =>
  refine Or.inr ⟨rfl,fun hx => ?_⟩
  have := List.findIdx?_eq_none_iff.1 h x hx
  simp at this
 | some j =>
  refine Or.inl ⟨j,rfl,?_⟩
  obtain ⟨hj,h1,_⟩ := List.findIdx?_eq_some_iff_getElem.1 h
  rw [List.getElem?_eq_getElem hj]
  simpa using h1
def insT (items : List It) : Tr → List It × Nat
 | .leaf k => addI items (itemOf k [])
 | .un k c => addI (insT items c).1 (itemOf k [(insT items c).2])
 | .bin k c d => addI (insT (insT items c).1 d).1 (itemOf k [(insT items c).2,(insT (insT items c).1 d).2])
inductive Rep (items : List It) : Nat → Tr → Prop where
 | leaf {n : Nat} {k : Tk} : items[n]? = some (itemOf k []) → Rep items n (.leaf k)
 | un {n m : Nat} {k : Tk} {c : Tr} : items[n]? = some (itemOf k [m]) → m < n → Rep items m c → Rep items n (.un k c)
 | bin {n m l : Nat} {k : Tk} {c d : Tr} : items[n]? = some (itemOf k [m,l]) → m < n → l < n → Rep items m c → Rep items l d → Rep items n (.bin k c d)
theorem Rep.lt {items : List It} {n : Nat} {T : Tr} (h : Rep items n T) : n < items.length := by
 cases h with
 | leaf h => exact (List.getElem?_eq_some_iff.1 h).1
 | un h _ _ => exact (List.getElem?_eq_some_iff.1 h).1
 | bin h _ _ _ _ => exact (List.getElem?_eq_some_iff.1 h).1
theorem q6g {items : List It} {n : Nat} {x : It} (l : List It) (h : items[n]? = some x) : (items ++ l)[n]? = some x := by
 rw [List.getElem?_append_left (List.getElem?_eq_some_iff.1 h).1]; exact h
theorem Rep.more {items : List It} (l : List It) {n : Nat} {T : Tr} (h : Rep items n T) : Rep (items ++ l) n T := by
 induction h with
 | leaf h => exact .leaf (q6g l h)
 | un h h1 _ ih => exact .un (q6g l h) h1 ih
 | bin h h1 h2 _ _ ih jh => exact .bin (q6g l h) h1 h2 ih jh
theorem q1J {k k' : Tk} {a a' : List Nat} (h : itemOf k a = itemOf k' a') : k = k' ∧ a.take 2 = a'.take 2 := by
 obtain ⟨k1,k2⟩ := k
 obtain ⟨k1',k2'⟩ := k'
 have ho : k1 = k1' ∧ k2 = k2' ∧ (itemOf (k1,k2) a).a = (itemOf (k1',k2') a').a ∧ (itemOf (k1,k2) a).b = (itemOf (k1',k2') a').b := by
  refine ⟨?_,?_,by rw [h],by rw [h]⟩
  ·have := congrArg It.op h
   match a,a' with
   | [],[] => exact this
   | [],[_] => exact this
   | [],_ :: _ :: _ => exact this
   | [_],[] => exact this
   | [_],[_] => exact this
   | [_],_ :: _ :: _ => exact this
   | _ :: _ :: _,[] => exact this
   | _ :: _ :: _,[_] => exact this
   | _ :: _ :: _,_ :: _ :: _ => exact this
  ·have := congrArg It.p h
   match a,a' with
   | [],[] => exact this
   | [],[_] => exact this
   | [],_ :: _ :: _ => exact this
   | [_],[] => exact this
   | [_],[_] => exact this
   | [_],_ :: _ :: _ => exact this
   | _ :: _ :: _,[] => exact this
   | _ :: _ :: _,[_] => exact this
   | _ :: _ :: _,_ :: _ :: _ => exact this
 obtain ⟨rfl,rfl,ha,hb⟩ := ho
 refine ⟨rfl,?_⟩
 match a,a',ha,hb with
 | [],[],_,_ => rfl
 | [],[y],ha,_ => exact absurd (show (-1 : Int) = (y : Int) from ha) (by omega)
 | [],y :: _ :: _,ha,_ => exact absurd (show (-1 : Int) = (y : Int) from ha) (by omega)
 | [x],[],ha,_ => exact absurd (show (x : Int) = -1 from ha) (by omega)
 | [x],[y],ha,_ =>
  have : (x : Int) = (y : Int) := ha
  have e : x = y := by omega
  rw [e]
 | [x],_ :: z :: _,_,hb => exact absurd (show (-1 : Int) = (z : Int) from hb) (by omega)
 | x :: _ :: _,[],ha,_ => exact absurd (show (x : Int) = -1 from ha) (by omega)
 | _ :: z :: _,[_],_,hb => exact absurd (show (z : Int) = -1 from hb) (by omega)
 | x :: z :: _,y :: t :: _,ha,hb =>
  have h1 : (x : Int) = (y : Int) := ha
  have h2 : (z : Int) = (t : Int) := hb
  have e1 : x = y := by omega
  have e2 : z = t := by omega
  subst e1 e2
  simp
theorem Rep.tree {items : List It} : ∀ {T T' : Tr} {n : Nat},Rep items n T → Rep items n T' → T = T'
 | .leaf k,T',n,.leaf h,h' => by
  cases h' with
  | leaf h2 => rw [h] at h2; injection h2 with h2; rw [(q1J h2).1]
  | un h2 _ _ => rw [h] at h2; injection h2 with h2; have := (q1J h2).2; simp at this
  | bin h2 _ _ _ _ => rw [h] at h2; injection h2 with h2; have := (q1J h2).2; simp at this
 | .un k c,T',n,.un h _ hc,h' => by
  cases h' with
  | leaf h2 => rw [h] at h2; injection h2 with h2; have := (q1J h2).2; simp at this
  | un h2 _ hc2 =>
   rw [h] at h2; injection h2 with h2
   have := q1J h2
   simp at this
   obtain ⟨e1,e2⟩ := this
   subst e1 e2
   rw [Rep.tree hc hc2]
  | bin h2 _ _ _ _ => rw [h] at h2; injection h2 with h2; have := (q1J h2).2; simp at this
 | .bin k c d,T',n,.bin h _ _ hc hd,h' => by
  cases h' with
  | leaf h2 => rw [h] at h2; injection h2 with h2; have := (q1J h2).2; simp at this
  | un h2 _ _ => rw [h] at h2; injection h2 with h2; have := (q1J h2).2; simp at this
  | bin h2 _ _ hc2 hd2 =>
   rw [h] at h2; injection h2 with h2
   have := q1J h2
   simp at this
   obtain ⟨e1,e2,e3⟩ := this
   subst e1 e2 e3
   rw [Rep.tree hc hc2,Rep.tree hd hd2]
theorem q3v {items : List It} (hn : items.Nodup) {i j : Nat} {x : It} (h : items[i]? = some x) (h' : items[j]? = some x) : i = j := by
 obtain ⟨hi,e1⟩ := List.getElem?_eq_some_iff.1 h
 obtain ⟨hj,e2⟩ := List.getElem?_eq_some_iff.1 h'
 exact (List.getElem_inj hn).1 (e1.trans e2.symm)
theorem Rep.num {items : List It} (hn : items.Nodup) : ∀ {T : Tr} {n m : Nat},Rep items n T → Rep items m T → n = m
 | .leaf k,n,m,.leaf h,.leaf h' => q3v hn h h'
 | .un k c,n,m,.un h _ hc,.un h' _ hc' => by
  have e := Rep.num hn hc hc'
  subst e
  exact q3v hn h h'
 | .bin k c d,n,m,.bin h _ _ hc hd,.bin h' _ _ hc' hd' => by
  have e := Rep.num hn hc hc'
  have e' := Rep.num hn hd hd'
  subst e e'
  exact q3v hn h h'
theorem q2e (items : List It) (x : It) : ∃ l,(addI items x).1 = items ++ l ∧ l.length ≤ 1 := by
 rcases q1b items x with ⟨j,e,_⟩ | ⟨e,_⟩
 ·exact ⟨[],by rw [e,List.append_nil],by simp⟩
 ·exact ⟨[x],by rw [e],by simp⟩
theorem q8g (items : List It) (x : It) : (addI items x).1[(addI items x).2]? = some x := by
 rcases q1b items x with ⟨j,e,h⟩ | ⟨e,_⟩
 ·rw [e]; exact h
 ·rw [e]; simp
theorem q4j {items : List It} (hn : items.Nodup) (x : It) : (addI items x).1.Nodup := by
 rcases q1b items x with ⟨j,e,h⟩ | ⟨e,hx⟩
 ·rw [e]; exact hn
 ·rw [e]; exact List.nodup_append.2 ⟨hn,by simp,fun a ha b hb => by simp at hb; subst hb; exact fun e => hx (e ▸ ha)⟩
def Low (items : List It) : Prop := ∀ (n : Nat) (x : It),items[n]? = some x → x.a < (n : Int) ∧ x.b < (n : Int)
theorem q4i {items : List It} (h : Low items) {x : It} (ha : x.a < (items.length : Int)) (hb : x.b < (items.length : Int)) : Low (addI items x).1 := by
 rcases q1b items x with ⟨j,e,_⟩ | ⟨e,_⟩
 ·rw [e]; exact h
 ·rw [e]
  intro n y hy
  by_cases hn : n < items.length
  ·rw [List.getElem?_append_left hn] at hy; exact h n y hy
  ·have hn2 := (List.getElem?_eq_some_iff.1 hy).1
   simp at hn2
   obtain rfl : n = items.length := by omega
   simp at hy
   subst hy
   exact ⟨ha,hb⟩
structure Ins (items : List It) (T : Tr) (r : List It × Nat) : Prop where
 rep : Rep r.1 r.2 T
 pre : ∃ l,r.1 = items ++ l ∧ l.length ≤ T.size
 nodup : r.1.Nodup
 low : Low r.1
theorem qbb {items : List It} (h : Low items) {n m : Nat} {k : Tk} (e : items[n]? = some (itemOf k [m])) : m < n := by
 have := (h n _ e).1
 simp [itemOf] at this
 exact this
theorem q8v {items : List It} (h : Low items) {n m l : Nat} {k : Tk} (e : items[n]? = some (itemOf k [m,l])) : m < n ∧ l < n := by
 have := h n _ e
 simp [itemOf] at this
 exact this
theorem q1f : ∀ (T : Tr) (items : List It),items.Nodup → Low items → Ins items T (insT items T)
 | .leaf k,items,hn,hl => by
  have hlow := q4i (x := itemOf k []) hl (by show (-1 : Int) < _; omega) (by show (-1 : Int) < _; omega)
  exact ⟨.leaf (q8g _ _),q2e _ _,q4j hn _,hlow⟩
 | .un k c,items,hn,hl => by
  have ih := q1f c items hn hl
  have hlt := ih.rep.lt
  obtain ⟨l,e,hll⟩ := ih.pre
  have hlow := q4i (x := itemOf k [(insT items c).2]) ih.low (by show ((insT items c).2 : Int) < _; omega) (by show (-1 : Int) < _; omega)
  obtain ⟨l',e',hl'⟩ := q2e (insT items c).1 (itemOf k [(insT items c).2])
  have hat := q8g (insT items c).1 (itemOf k [(insT items c).2])
  refine ⟨?_,⟨l ++ l',?_,?_⟩,q4j ih.nodup _,hlow⟩
  ·refine .un hat (qbb hlow hat) ?_
   show Rep (addI (insT items c).1 (itemOf k [(insT items c).2])).1 _ _
   rw [e']; exact ih.rep.more _
  ·show (addI (insT items c).1 (itemOf k [(insT items c).2])).1 = _
   rw [e',e,List.append_assoc]
  ·simp [Tr.size]; omega
 | .bin k c d,items,hn,hl => by
  have ih := q1f c items hn hl
  have jh := q1f d (insT items c).1 ih.nodup ih.low
  have hlt := ih.rep.lt
  have hlt2 := jh.rep.lt
  obtain ⟨l,e,hll⟩ := ih.pre
  obtain ⟨l2,e2,hll2⟩ := jh.pre
  have hge : (insT items c).1.length ≤ (insT (insT items c).1 d).1.length := by rw [e2]; simp
  have hlow := q4i (x := itemOf k [(insT items c).2,(insT (insT items c).1 d).2]) jh.low (by show ((insT items c).2 : Int) < _; omega) (by show ((insT (insT items c).1 d).2 : Int) < _; omega)
  obtain ⟨l',e',hl'⟩ := q2e (insT (insT items c).1 d).1 (itemOf k [(insT items c).2,(insT (insT items c).1 d).2])
  have hat := q8g (insT (insT items c).1 d).1 (itemOf k [(insT items c).2,(insT (insT items c).1 d).2])
  have hll3 := q8v hlow hat
  refine ⟨?_,⟨l ++ l2 ++ l',?_,?_⟩,q4j jh.nodup _,hlow⟩
  ·refine .bin hat hll3.1 hll3.2 ?_ ?_
   ·show Rep (addI (insT (insT items c).1 d).1 (itemOf k [(insT items c).2,(insT (insT items c).1 d).2])).1 _ _
    rw [e',e2,List.append_assoc]; exact ih.rep.more _
   ·show Rep (addI (insT (insT items c).1 d).1 (itemOf k [(insT items c).2,(insT (insT items c).1 d).2])).1 _ _
    rw [e']; exact jh.rep.more _
  ·show (addI (insT (insT items c).1 d).1 (itemOf k [(insT items c).2,(insT (insT items c).1 d).2])).1 = _
   rw [e',e2,e,List.append_assoc,List.append_assoc,List.append_assoc]
  ·simp [Tr.size]; omega
theorem q4k {items : List It} (hn : items.Nodup) {n : Nat} {x : It} (h : items[n]? = some x) : addI items x = (items,n) := by
 rcases q1b items x with ⟨j,e,h'⟩ | ⟨_,hx⟩
 ·rw [e,q3v hn h' h]
 ·exact absurd (List.mem_of_getElem? h) hx
theorem q3K {items : List It} (hn : items.Nodup) : ∀ {T : Tr} {n : Nat},Rep items n T → insT items T = (items,n)
 | .leaf k,n,.leaf h => q4k hn h
 | .un k c,n,.un h _ hc => by
  have ih := q3K hn hc
  show addI (insT items c).1 (itemOf k [(insT items c).2]) = _
  rw [ih]
  exact q4k hn h
 | .bin k c d,n,.bin h _ _ hc hd => by
  have ih := q3K hn hc
  have jh := q3K hn hd
  show addI (insT (insT items c).1 d).1 (itemOf k [(insT items c).2,(insT (insT items c).1 d).2]) = _
  rw [ih]
  dsimp only
  rw [jh]
  exact q4k hn h
def tkStep (s : List It × List Nat) (k : Tk) : List It × List Nat := ((addI s.1 (itemOf k (s.2.drop (s.2.length - takC k)))).1,s.2.take (s.2.length - takC k) ++ [(addI s.1 (itemOf k (s.2.drop (s.2.length - takC k)))).2])
def tkS (ts : List Tk) (s : List It × List Nat) : List It × List Nat := ts.foldl tkStep s
theorem q8J (a b : List Tk) (s : List It × List Nat) : tkS (a ++ b) s = tkS b (tkS a s) := by unfold tkS; rw [List.foldl_append]
theorem q4F : ∀ T : Tr,T.WF → ∀ items st,tkS T.flat (items,st) = ((insT items T).1,st ++ [(insT items T).2])
 | .leaf (op,p),h,items,st => by
  have e := q28 h.1
  have hd := q1O st [] 0 rfl
  rw [List.append_nil] at hd
  show tkStep (items,st) (op,p) = _
  unfold tkStep
  dsimp only
  rw [e,hd.1,hd.2]; rfl
 | .un (op,p) c,h,items,st => by
  have e := q28 h.1
  have hd := q1O st [(insT items c).2] 1 rfl
  show tkS (c.flat ++ [(op,p)]) (items,st) = _
  rw [q8J,q4F c h.2.2]
  show tkStep _ (op,p) = _
  unfold tkStep
  dsimp only
  rw [e,hd.1,hd.2]; rfl
 | .bin (op,p) c d,h,items,st => by
  have e := q28 h.1
  have hd := q1O st [(insT items c).2,(insT (insT items c).1 d).2] 2 rfl
  show tkS (c.flat ++ d.flat ++ [(op,p)]) (items,st) = _
  rw [q8J,q8J,q4F c h.2.2.1,q4F d h.2.2.2]
  show tkStep _ (op,p) = _
  rw [show st ++ [(insT items c).2] ++ [(insT (insT items c).1 d).2] = st ++ [(insT items c).2,(insT (insT items c).1 d).2] by simp]
  unfold tkStep
  dsimp only
  rw [e,hd.1,hd.2]; rfl
def Whole (items : List It) : Prop := ∀ n,n < items.length → ∃ T : Tr,Rep items n T
theorem q4l {items : List It} (h : Whole items) {x : It} (hx : x ∉ items → ∃ T,Rep (items ++ [x]) items.length T) : Whole (addI items x).1 := by
 rcases q1b items x with ⟨j,e,_⟩ | ⟨e,hn⟩
 ·rw [e]; exact h
 ·rw [e]
  intro n hlt
  by_cases hn2 : n < items.length
  ·obtain ⟨T,hT⟩ := h n hn2
   exact ⟨T,hT.more _⟩
  ·simp at hlt
   obtain rfl : n = items.length := by omega
   exact hx hn
theorem q37 : ∀ (T : Tr) (items : List It),items.Nodup → Low items → Whole items → Whole (insT items T).1
 | .leaf k,items,_,_,hw => q4l hw fun _ => ⟨.leaf k,.leaf (by simp)⟩
 | .un k c,items,hn,hl,hw => by
  have ih := q1f c items hn hl
  have iw := q37 c items hn hl hw
  exact q4l iw fun _ => ⟨.un k c,.un (by simp) ih.rep.lt (ih.rep.more _)⟩
 | .bin k c d,items,hn,hl,hw => by
  have ih := q1f c items hn hl
  have iw := q37 c items hn hl hw
  have jh := q1f d _ ih.nodup ih.low
  have jw := q37 d _ ih.nodup ih.low iw
  obtain ⟨l,e,_⟩ := jh.pre
  have hc : Rep (insT (insT items c).1 d).1 (insT items c).2 c := by rw [e]; exact ih.rep.more _
  exact q4l jw fun _ => ⟨.bin k c d,.bin (by simp) hc.lt jh.rep.lt (hc.more _) (jh.rep.more _)⟩
structure TabIs (items : List It) : Prop where
 nodup : items.Nodup
 low : Low items
 whole : Whole items
 few : items.length ≤ 4096
theorem q9g : TabIs [] := ⟨by simp,fun n x h => (by simp at h),fun n h => (by simp at h),by simp⟩
def kI (items : List It) (ts : List Tk) : List It := (tkS ts (items,[])).1
def kN (items : List It) (ts : List Tk) : Nat := (tkS ts (items,[])).2.getLast?.getD 0
theorem q8o {T : Tr} (h : T.WF) (items : List It) : kI items T.flat = (insT items T).1 ∧ kN items T.flat = (insT items T).2 := by
 unfold kI kN
 rw [q4F T h]
 exact ⟨rfl,by simp⟩
noncomputable def keepE (items : List It) (ts : List Tk) : Nat := if chkE ts ≠ 0 then chkE ts else if 4096 < (kI items ts).length then 3 else 0
noncomputable def keepI (items : List It) (ts : List Tk) : List It := if keepE items ts = 0 then kI items ts else items
noncomputable def keepN (items : List It) (ts : List Tk) : Nat := if keepE items ts = 0 then kN items ts else 0
noncomputable def findB (items : List It) (ts : List Tk) : Bool := decide (chkE ts = 0) && decide (kI items ts = items)
noncomputable def findN (items : List It) (ts : List Tk) : Nat := if findB items ts = true then kN items ts else 0
structure Kept (items : List It) (ts : List Tk) (n : Nat) (items' : List It) : Prop where
 is : TabIs items'
 pre : ∃ l,items' = items ++ l
 rep : ∃ T : Tr,T.WF ∧ pathT T = false ∧ ts = T.flat ∧ Rep items' n T
 lt : n < items'.length
 again : keepE items' ts = 0 ∧ keepI items' ts = items' ∧ keepN items' ts = n
 find : findB items' ts = true ∧ findN items' ts = n
theorem kept {items : List It} (h : TabIs items) {ts : List Tk} (he : keepE items ts = 0) : Kept items ts (keepN items ts) (keepI items ts) := by
 have hI : keepI items ts = kI items ts := if_pos he
 have hN : keepN items ts = kN items ts := if_pos he
 have hc : chkE ts = 0 := by
  unfold keepE at he
  by_cases hc : chkE ts = 0
  ·exact hc
  ·rw [if_pos hc] at he; exact absurd he hc
 have hl : ¬ 4096 < (kI items ts).length := by
  intro hl
  unfold keepE at he
  rw [if_neg (by omega),if_pos hl] at he
  cases he
 rw [hI,hN]
 obtain ⟨hts,T,hW,hp,hk,rfl⟩ := q2K.1 hc
 obtain ⟨e1,e2⟩ := q8o hW items
 rw [e1] at hl
 have ins := q1f T items h.nodup h.low
 have hw := q37 T items h.nodup h.low h.whole
 rw [e1,e2]
 obtain ⟨f1,f2⟩ := q8o hW (insT items T).1
 have there := q3K ins.nodup ins.rep
 rw [there] at f1 f2
 have hE : keepE (insT items T).1 T.flat = 0 := by unfold keepE; rw [if_neg (by omega),f1,if_neg hl]
 refine ⟨⟨ins.nodup,ins.low,hw,by omega⟩,?_,⟨T,hW,hp,rfl,ins.rep⟩,ins.rep.lt,⟨hE,?_,?_⟩,?_,?_⟩
 ·obtain ⟨l,e,_⟩ := ins.pre
  exact ⟨l,e⟩
 ·unfold keepI; rw [if_pos hE,f1]
 ·unfold keepN; rw [if_pos hE,f2]
 ·unfold findB; rw [f1,hc]; simp
 ·have : findB (insT items T).1 T.flat = true := by unfold findB; rw [f1,hc]; simp
  unfold findN; rw [if_pos this,f2]
theorem q6f {T S : Tr} (hT : T.WF) (hS : S.WF) (h : T.flat = S.flat) : T = S := by
 have h1 := q2N T hT []
 have h2 := q2N S hS []
 rw [h,h2] at h1
 simpa using h1.symm
abbrev Fnd := List It → It → Option (List It × Nat)
def nStep (fd : Fnd) (s : List It × List Nat) (k : Tk) : Option (List It × List Nat) := (fd s.1 (itemOf k (s.2.drop (s.2.length - takC k)))).map fun r => (r.1,s.2.take (s.2.length - takC k) ++ [r.2])
def nS (fd : Fnd) : List Tk → List It × List Nat → Option (List It × List Nat)
 | [],s => some s
 | k :: r,s => (nStep fd s k).bind (nS fd r)
theorem qbe (fd : Fnd) : ∀ (a b : List Tk) (s : List It × List Nat),nS fd (a ++ b) s = (nS fd a s).bind (nS fd b)
 | [],b,s => rfl
 | k :: a,b,s => by
  show (nStep fd s k).bind (nS fd (a ++ b)) = ((nStep fd s k).bind (nS fd a)).bind (nS fd b)
  cases nStep fd s k with
  | none => rfl
  | some t => exact qbe fd a b t
theorem qfT (fd : Fnd) {ts : List Tk} {k : Nat} (h : k < ts.length) {s t : List It × List Nat} (hs : nS fd (ts.take k) s = some t) : nS fd (ts.take (k + 1)) s = nStep fd t ts[k] := by
 rw [List.take_add_one,List.getElem?_eq_getElem h]
 show nS fd (ts.take k ++ [ts[k]]) s = _
 rw [qbe,hs]
 show (nStep fd t ts[k]).bind (nS fd []) = _
 cases nStep fd t ts[k] <;> rfl
theorem qgG (fd : Fnd) {ts : List Tk} {k : Nat} {s : List It × List Nat} (h : nS fd (ts.take k) s = none) : nS fd ts s = none := by
 have : nS fd (ts.take k ++ ts.drop k) s = none := by rw [qbe,h]; rfl
 rwa [List.take_append_drop] at this
theorem qdF (fd : Fnd) : ∀ (ts : List Tk) (s t : List It × List Nat) (g : List Tr),s.2.length = g.length → nS fd ts s = some t → t.2.length = (gS ts g).length
 | [],s,t,g,h,e => by injection e with e; subst e; exact h
 | k :: ts,s,t,g,h,e => by
  have e' : (nStep fd s k).bind (nS fd ts) = some t := e
  cases hn : nStep fd s k with
  | none => rw [hn] at e'; cases e'
  | some u =>
   rw [hn] at e'
   show t.2.length = (gS ts (gStep g k)).length
   refine qdF fd ts u t _ ?_ e'
   unfold nStep at hn
   cases hf : fd s.1 (itemOf k (s.2.drop (s.2.length - takC k))) with
   | none => rw [hf] at hn; cases hn
   | some r =>
    rw [hf] at hn
    injection hn with hn
    subst hn
    unfold gStep
    simp [h]
structure FdOk (fd : Fnd) : Prop where
 lt : ∀ {items x r},fd items x = some r → r.2 < r.1.length
 pre : ∀ {items x r},fd items x = some r → ∃ l,r.1 = items ++ l
def kpF (items : List It) (x : It) : Option (List It × Nat) := match items.findIdx? (· = x) with
 | some j => some (items,j)
 | none => if items.length = 4096 then none else some (items ++ [x],items.length)
theorem qgy : FdOk kpF := by
 refine ⟨fun {items x r} h => ?_,fun {items x r} h => ?_⟩
 ·unfold kpF at h
  split at h
  ·rename_i j hj
   injection h with h
   subst h
   exact (List.findIdx?_eq_some_iff_getElem.1 hj).1
  ·split at h
   ·cases h
   ·injection h with h
    subst h
    simp
 ·unfold kpF at h
  split at h
  ·injection h with h
   subst h
   exact ⟨[],by simp⟩
  ·split at h
   ·cases h
   ·injection h with h
    subst h
    exact ⟨[x],rfl⟩
theorem qfK (items : List It) (x : It) (hl : items.length ≤ 4096) : kpF items x = if (addI items x).1.length ≤ 4096 then some (addI items x) else none := by
 unfold kpF addI
 cases items.findIdx? (· = x) with
 | some j => simp only; rw [if_pos hl]
 | none =>
  simp only [List.length_append,List.length_cons,List.length_nil]
  by_cases e : items.length = 4096
  ·rw [if_pos e,if_neg (by omega)]
  ·rw [if_neg e,if_pos (by omega)]
theorem qbu : ∀ (ts : List Tk) (s : List It × List Nat),∃ l,(tkS ts s).1 = s.1 ++ l
 | [],s => ⟨[],by simp [tkS]⟩
 | k :: ts,s => by
  obtain ⟨l,h⟩ := qbu ts (tkStep s k)
  obtain ⟨l',h',_⟩ := q2e s.1 (itemOf k (s.2.drop (s.2.length - takC k)))
  refine ⟨l' ++ l,?_⟩
  show (tkS ts (tkStep s k)).1 = _
  rw [h,show (tkStep s k).1 = s.1 ++ l' from h',List.append_assoc]
theorem q8y : ∀ (ts : List Tk) (s : List It × List Nat),s.1.length ≤ 4096 → nS kpF ts s = if (tkS ts s).1.length ≤ 4096 then some (tkS ts s) else none
 | [],s,h => by show some s = _; rw [show tkS [] s = s from rfl,if_pos h]
 | k :: ts,s,h => by
  show (nStep kpF s k).bind (nS kpF ts) = _
  rw [show tkS (k :: ts) s = tkS ts (tkStep s k) from rfl]
  unfold nStep
  rw [qfK _ _ h]
  by_cases c : (addI s.1 (itemOf k (s.2.drop (s.2.length - takC k)))).1.length ≤ 4096
  ·rw [if_pos c]
   show nS kpF ts (tkStep s k) = _
   exact q8y ts _ c
  ·rw [if_neg c]
   obtain ⟨l,hl⟩ := qbu ts (tkStep s k)
   rw [if_neg]
   ·rfl
   ·rw [hl,List.length_append]
    have : (tkStep s k).1.length = (addI s.1 (itemOf k (s.2.drop (s.2.length - takC k)))).1.length := rfl
    omega
end Go.Proofs.YtailhklbmenaoaaGreatDoor
