/- Texts of the proof, put together: what it uses. -/
import Derived.WalkKit
import Derived.WalkSpells
import Derived.Maps.OwnSet
import Derived.Test.YtailhklbmenaoaaGreatDoorProg
import Derived.WalkLawsBesides
import Derived.BigQuiet
import Derived.Deep.QuietTactic
import Derived.Test.YtailhklbmenaoaaGreatDoorZ02
import Derived.Test.YtailhklbmenaoaaGreatDoorZ03
set_option maxRecDepth 100000
set_option maxHeartbeats 16000000
namespace Go.Proofs.YtailhklbmenaoaaGreatDoor
def growT (f : List Tk) : Tr := (gS f []).getLast?.getD (.leaf (0,0))
theorem q2h {T : Tr} (h : T.WF) : growT T.flat = T := by
 unfold growT
 rw [q2N T h []]; rfl
def setM (n x : Nat) : List Nat → List Nat → Mt → Rt
 | [],m,M => some (m,M)
 | k :: ks,m,M => bindM (aftM n (growT (M.getD k [])) x M) fun a M1 => bindM (twoM true m a M1) fun b M2 => setM n x ks b M2
def stepM (n x : Nat) : List Nat → List Nat → Mt → Rt
 | [],out,M => some (out,M)
 | s :: ss,out,M => bindM (setM n x (itemsL s) [0] M) fun m M1 => bindM (twoM false out m M1) fun o M2 => stepM n x ss o M2
theorem q7t (n x : Nat) : ∀ (ks m : List Nat) (M M' : Mt) (L : List Nat),GoodM M → BdL m M.length → (∀ k ∈ ks,k < M.length) → setM n x ks m M = some (L,M') → Ext M L M' ∧ ∀ (t : List Nat) (i : Nat),t[i]? = some x → (LsP L (SatM t M' (i + 1)) ↔ LsP m (SatM t M (i + 1)) ∧ ∀ k ∈ ks,SatM t M i k)
 | [],m,M,M',L,hM,hm,_,h => by
  unfold setM at h
  injection h with h; injection h with h1 h2; subst h1 h2
  exact ⟨⟨List.prefix_refl _,hM,hm⟩,fun t i _ => by simp⟩
 | k :: ks,m,M,M',L,hM,hm,hk,h => by
  unfold setM at h
  obtain ⟨a,M1,ha,h2⟩ := qf h
  obtain ⟨b,M2,hb,h3⟩ := qf h2
  have hkl := hk k (by simp)
  have hget : M[k]? = some (M.getD k []) := by rw [List.getD_eq_getElem?_getD,List.getElem?_eq_getElem hkl]; rfl
  obtain ⟨T,hT,hf⟩ := hM.ker (M.getD k []) (List.mem_of_getElem? hget)
  rw [hf,q2h hT.wf] at ha
  rw [hf] at hget
  obtain ⟨e1,s1⟩ := (q1Z n).1 T x M M1 a hM hT ha
  have e := (qr hb).1
  subst e
  have hbd := q3z hb (hm.mono (q1q e1.pre)) e1.bd
  obtain ⟨e2,s2⟩ := q7t n x ks b _ M' L e1.good hbd (fun j hj => Nat.lt_of_lt_of_le (hk j (by simp [hj])) (q1q e1.pre)) h3
  refine ⟨⟨e1.pre.trans e2.pre,e2.good,e2.bd⟩,fun t i hx => ?_⟩
  rw [s2 t i hx,q5u hb,s1 t i hx,← q3s e1.pre hm]
  simp only [if_true]
  have hs : ∀ j ∈ ks,(SatM t M2 i j ↔ SatM t M i j) := fun j hj => (qcw e1.pre (hk j (by simp [hj]))).symm
  rw [← q5s (t := t) (i := i) hT hget]
  constructor
  ·rintro ⟨⟨h1,h2⟩,h3⟩
   refine ⟨h1,fun j hj => ?_⟩
   rcases List.mem_cons.1 hj with rfl | hj
   ·exact h2
   ·exact (hs j hj).1 (h3 j hj)
  ·rintro ⟨h1,h2⟩
   exact ⟨⟨h1,h2 k (by simp)⟩,fun j hj => (hs j hj).2 (h2 j (by simp [hj]))⟩
theorem q8Y {s m : Nat} (hm : m ≤ 64) (h : ∀ k,s.testBit k = true → k < m) (P : Nat → Prop) : (∀ k ∈ itemsL s,P k) ↔ ∀ k,s.testBit k = true → P k := by
 constructor
 ·intro h1 k hk
  exact h1 k (q1n.2 ⟨Nat.lt_of_lt_of_le (h k hk) hm,hk⟩)
 ·intro h1 k hk
  exact h1 k (q1n.1 hk).2
theorem qbr (n x : Nat) : ∀ (l out : List Nat) (M M' : Mt) (L : List Nat),GoodM M → BdL out M.length → BdL l M.length → stepM n x l out M = some (L,M') → Ext M L M' ∧ ∀ (t : List Nat) (i : Nat),t[i]? = some x → (LsP L (SatM t M' (i + 1)) ↔ LsP out (SatM t M (i + 1)) ∨ LsP l (SatM t M i))
 | [],out,M,M',L,hM,ho,_,h => by
  unfold stepM at h
  injection h with h; injection h with h1 h2; subst h1 h2
  exact ⟨⟨List.prefix_refl _,hM,ho⟩,fun t i _ => ⟨Or.inl,fun h => h.elim id fun ⟨s,hs,_⟩ => by cases hs⟩⟩
 | s :: ss,out,M,M',L,hM,ho,hl,h => by
  unfold stepM at h
  obtain ⟨m,M1,hm,h2⟩ := qf h
  obtain ⟨o,M2,hq,h3⟩ := qf h2
  have hs0 := hl s (by simp)
  obtain ⟨e1,s1⟩ := q7t n x (itemsL s) [0] M M1 m hM (q16 true _) (fun k hk => hs0 k (q1n.1 hk).2) hm
  have e := (qr hq).1
  subst e
  have hbd := q3z hq (ho.mono (q1q e1.pre)) e1.bd
  obtain ⟨e2,s2⟩ := qbr n x ss o _ M' L e1.good hbd (fun z hz k hk => Nat.lt_of_lt_of_le (hl z (by simp [hz]) k hk) (q1q e1.pre)) h3
  refine ⟨⟨e1.pre.trans e2.pre,e2.good,e2.bd⟩,fun t i hx => ?_⟩
  have hy : LsP [0] (SatM t M (i + 1)) := (q2l true _).2 rfl
  rw [s2 t i hx,q5u hq,s1 t i hx,← q3s e1.pre ho,← q3s e1.pre (fun z hz => hl z (by simp [hz])),q8Y hM.few hs0]
  simp only [Bool.false_eq_true,if_false]
  constructor
  ·rintro ((h1 | ⟨_,h1⟩) | ⟨z,hz,h1⟩)
   ·exact Or.inl h1
   ·exact Or.inr ⟨s,by simp,h1⟩
   ·exact Or.inr ⟨z,by simp [hz],h1⟩
  ·rintro (h1 | ⟨z,hz,h1⟩)
   ·exact Or.inl (Or.inl h1)
   ·rcases List.mem_cons.1 hz with rfl | hz
    ·exact Or.inl (Or.inr ⟨hy,h1⟩)
    ·exact Or.inr ⟨z,hz,h1⟩
theorem q5E {n x : Nat} {l : List Nat} {M M' : Mt} {L : List Nat} (hM : GoodM M) (hl : BdL l M.length) (h : stepM n x l [] M = some (L,M')) : Ext M L M' ∧ ∀ (t : List Nat) (i : Nat),t[i]? = some x → (LsP L (SatM t M' (i + 1)) ↔ LsP l (SatM t M i)) := by
 obtain ⟨e,s⟩ := qbr n x l [] M M' L hM (fun z hz => by cases hz) hl h
 refine ⟨e,fun t i hx => ?_⟩
 rw [s t i hx]
 exact ⟨fun h => h.elim (fun ⟨z,hz,_⟩ => by cases hz) id,Or.inr⟩
theorem q4C {n x : Nat} : ∀ {l out : List Nat} {M M' : Mt} {L : List Nat},out = leastL out → stepM n x l out M = some (L,M') → L = leastL L
 | [],out,M,M',L,ho,h => by
  unfold stepM at h
  injection h with h; injection h with h1 h2; subst h1 h2
  exact ho
 | s :: ss,out,M,M',L,_,h => by
  unfold stepM at h
  obtain ⟨m,M1,_,h⟩ := qf h
  obtain ⟨o,M2,hq,h⟩ := qf h
  refine q4C ?_ h
  rw [(qr hq).2]
  simp only [Bool.false_eq_true,if_false]
  exact (q5n _).symm
def FinP (M : Mt) (l : List Nat) : Prop := LsP l (SatM [] M 0)
theorem q6i : GoodM [] := ⟨fun f hf => (by cases hf),by simp⟩
def Pr (X : Nat → Prop) (f : List Tk) : Prop := ∀ p,(2,p) ∈ f → X p
def Like (X : Nat → Prop) (x y : Nat) : Prop := ∀ p,X p → x.testBit p = y.testBit p
theorem pr_un {X : Nat → Prop} {k : Tk} {c : Tr} (h : Pr X (Tr.un k c).flat) : Pr X c.flat := fun p hp => h p (by simp [Tr.flat,hp])
theorem qC {X : Nat → Prop} {k : Tk} {c d : Tr} (h : Pr X (Tr.bin k c d).flat) : Pr X c.flat ∧ Pr X d.flat := ⟨fun p hp => h p (by simp [Tr.flat,hp]),fun p hp => h p (by simp [Tr.flat,hp])⟩
theorem qN {X : Nat → Prop} {a b : List Tk} : Pr X (a ++ b) ↔ Pr X a ∧ Pr X b :=
 ⟨fun h => ⟨fun p hp => h p (by simp [hp]),fun p hp => h p (by simp [hp])⟩,fun h p hp => (List.mem_append.1 hp).elim (h.1 p) (h.2 p)⟩
theorem qO {X : Nat → Prop} {op p : Nat} (h : op ≠ 2) : Pr X [(op,p)] := fun q hq => by
 simp at hq
 exact absurd hq.1.symm h
theorem qct {X : Nat → Prop} {r f : Tr} (box : Bool) (hr : Pr X r.flat) (hf : Pr X f.flat) : Pr X (Tr.bin (modeO box,0) r f).flat :=
 qN.2 ⟨qN.2 ⟨hr,hf⟩,qO (by cases box <;> decide)⟩
theorem pr_k {X : Nat → Prop} : ∀ T : Tr,T.WF → Pr X T.flat → Pr X (kTr T).1.flat ∧ Pr X (kTr T).2.flat
 | .leaf (op,p),hw,h => by
  rcases qQ hw with ⟨rfl,_⟩ | ⟨rfl,rfl | rfl | rfl | rfl | rfl⟩
  ·exact ⟨h,qN.2 ⟨h,qO (by decide)⟩⟩
  all_goals refine ⟨fun q hq => ?_,fun q hq => ?_⟩ <;> simp [kTr,Tr.flat] at hq
 | .un (op,p) c,hw,h => by
  obtain ⟨rfl,hc,hf,ho⟩ := qE hw
  obtain ⟨i1,i2⟩ := pr_k c hc (pr_un h)
  rcases ho with rfl | rfl | rfl | rfl | rfl | rfl | rfl | rfl
  ·exact ⟨i2,i1⟩
  ·exact ⟨qN.2 ⟨i1,qO (by decide)⟩,qN.2 ⟨i2,qO (by decide)⟩⟩
  ·exact ⟨qN.2 ⟨i1,qO (by decide)⟩,qN.2 ⟨i2,qO (by decide)⟩⟩
  ·exact ⟨qN.2 ⟨qN.2 ⟨qO (by decide),i1⟩,qO (by decide)⟩,qN.2 ⟨qN.2 ⟨qO (by decide),i2⟩,qO (by decide)⟩⟩
  ·exact ⟨qN.2 ⟨qN.2 ⟨qO (by decide),i1⟩,qO (by decide)⟩,qN.2 ⟨qN.2 ⟨qO (by decide),i2⟩,qO (by decide)⟩⟩
  ·exact ⟨qN.2 ⟨i1,qO (by decide)⟩,qN.2 ⟨i1,qO (by decide)⟩⟩
  ·exact ⟨qN.2 ⟨i1,qO (by decide)⟩,qN.2 ⟨i1,qO (by decide)⟩⟩
  ·exact ⟨qN.2 ⟨i1,qO (by decide)⟩,qN.2 ⟨i1,qO (by decide)⟩⟩
 | .bin (op,p) c d,hw,h => by
  obtain ⟨rfl,hc,hd,hf,ho⟩ := qy hw
  obtain ⟨i1,i2⟩ := pr_k c hc (qC h).1
  obtain ⟨j1,j2⟩ := pr_k d hd (qC h).2
  have two : ∀ {a b : Tr} (o : Nat),o ≠ 2 → Pr X a.flat → Pr X b.flat → Pr X (Tr.bin (o,0) a b).flat := fun o ho ha hb => qN.2 ⟨qN.2 ⟨ha,hb⟩,qO ho⟩
  rcases ho with rfl | rfl | rfl | rfl | rfl | rfl | rfl | rfl | rfl | rfl
  ·exact ⟨two 11 (by decide) i1 j1,two 12 (by decide) i2 j2⟩
  ·exact ⟨two 12 (by decide) i1 j1,two 11 (by decide) i2 j2⟩
  ·exact ⟨two 12 (by decide) i2 j1,two 11 (by decide) i1 j2⟩
  ·exact ⟨two 12 (by decide) (two 11 (by decide) i1 j1) (two 11 (by decide) i2 j2),two 12 (by decide) (two 11 (by decide) i1 j2) (two 11 (by decide) i2 j1)⟩
  ·exact ⟨two 15 (by decide) i1 j1,two 16 (by decide) i2 j2⟩
  ·exact ⟨two 16 (by decide) i1 j1,two 15 (by decide) i2 j2⟩
  ·exact ⟨two 17 (by decide) i1 j1,two 18 (by decide) i1 j2⟩
  ·exact ⟨two 18 (by decide) i1 j1,two 17 (by decide) i1 j2⟩
  ·exact ⟨two 21 (by decide) i1 j1,two 21 (by decide) i1 j1⟩
  ·exact ⟨two 22 (by decide) i1 j1,two 22 (by decide) i1 j1⟩
theorem q49 {X : Nat → Prop} {x y : Nat} (hx : Like X x y) : ∀ T : Tr,T.WF → pathT T = false → plainT T = true → Pr X T.flat → plV x T = plV y T
 | .leaf (op,p),hw,_,hp,h => by
  rw [q7p] at hp
  rcases qQ hw with ⟨rfl,_⟩ | ⟨rfl,rfl | rfl | rfl | rfl | rfl⟩
  ·exact hx p (h p (by simp [Tr.flat]))
  ·rfl
  ·rfl
  ·simp [plainB] at hp
  ·simp [plainB] at hp
  ·simp [plainB] at hp
 | .un (op,p) c,hw,hq,hp,h => by
  obtain ⟨rfl,hc,hf,ho⟩ := qE hw
  rw [qV] at hp
  simp only [Bool.and_eq_true] at hp
  have hn : pathT c = false := by
   rcases ho with rfl | rfl | rfl | rfl | rfl | rfl | rfl | rfl
   ·simpa [fit1T] using hf
   ·simpa [fit1T] using hf
   ·simpa [fit1T] using hf
   ·simpa [fit1T] using hf
   ·simpa [fit1T] using hf
   ·cases hq
   ·cases hq
   ·cases hq
  unfold plV
  rw [q49 hx c hc hn hp.2 (pr_un h)]
 | .bin (op,p) c d,hw,hq,hp,h => by
  obtain ⟨rfl,hc,hd,hf,ho⟩ := qy hw
  rw [qm] at hp
  simp only [Bool.and_eq_true] at hp
  have hn : pathT c = false ∧ pathT d = false := by
   rcases ho with rfl | rfl | rfl | rfl | rfl | rfl | rfl | rfl | rfl | rfl
   ·simpa [fit2T] using hf
   ·simpa [fit2T] using hf
   ·simpa [fit2T] using hf
   ·simpa [fit2T] using hf
   ·simp [plainB] at hp
   ·simp [plainB] at hp
   ·simp [plainB] at hp
   ·simp [plainB] at hp
   ·cases hq
   ·cases hq
  unfold plV
  rw [q49 hx c hc hn.1 hp.2.1 (qC h).1,q49 hx d hd hn.2 hp.2.2 (qC h).2]
theorem q90 {X : Nat → Prop} {x y : Nat} (hx : Like X x y) : ∀ n,(∀ T M,KT T → Pr X T.flat → aftM n T x M = aftM n T y M) ∧ (∀ box r s f M,KP r → Pr X r.flat → pthM n box r s f x M = pthM n box r s f y M)
 | 0 => ⟨fun _ _ _ _ => rfl,fun _ _ _ _ _ _ _ => rfl⟩
 | n + 1 => by
  obtain ⟨ih,jh⟩ := q90 hx n
  refine ⟨fun T M hT h => ?_,fun box r s f M hr h => ?_⟩
  ·match T,hT,h with
   | .leaf (op,p),hT,h =>
    (first | rw [qD,qD] | rw [qJ,qJ] | rw [qw,qw] | rw [qH,qH])
    dsimp only
    by_cases e : op = 2
    ·subst e
     rw [hx p (h p (by simp [Tr.flat]))]
    ·rw [if_neg e,if_neg e]
   | .un (op,p) c,hT,h =>
    (first | rw [qD,qD] | rw [qJ,qJ] | rw [qw,qw] | rw [qH,qH])
    dsimp only
    rcases kt_un hT with ⟨rfl,⟨rfl,q,rfl⟩ | ⟨ho,hc⟩⟩
    ·rw [if_pos rfl,if_pos rfl,q49 hx _ hT.wf.2.2 rfl rfl (pr_un h)]
    ·rcases ho with rfl | rfl <;> rfl
   | .bin (op,p) c d,hT,h =>
    (first | rw [qD,qD] | rw [qJ,qJ] | rw [qw,qw] | rw [qH,qH])
    dsimp only
    obtain ⟨rfl,ho⟩ := q1t hT
    split
    ·rename_i ho2
     obtain ⟨kc,kd⟩ := qB hT (by rcases ho2 with h | h <;> simp [h])
     rw [ih c M kc (qC h).1]
     exact congrArg _ (funext fun a => funext fun M1 => by rw [ih d M1 kd (qC h).2])
    ·split
     ·rename_i ho1 ho2
      obtain ⟨kc,kd⟩ := qB hT (by rcases ho2 with h | h <;> simp [h])
      rw [ih d M kd (qC h).2]
      exact congrArg _ (funext fun a => funext fun M1 => by rw [ih c M1 kc (qC h).1])
     ·obtain ⟨kc,kd⟩ := q1l hT (by omega)
      rw [ih d M kd (qC h).2]
      exact congrArg _ (funext fun a => funext fun M1 => by rw [jh _ c a d M1 kc (qC h).1])
  ·match r,hr,h with
   | .leaf k,hr,h => exact (q2i hr).elim
   | .un (op,p) c,hr,h =>
    (first | rw [q12,q12] | rw [qT,qT] | rw [qP,qP] | rw [q15,q15])
    dsimp only
    rcases kp_un hr with ⟨rfl,⟨rfl,hc,hpl⟩ | ⟨rfl,hc⟩ | ⟨rfl,hc⟩⟩
    ·have hnp : pathT c = false := by
      have hf1 := (qE hr.wf).2.2.1
      simp [fit1T] at hf1
      exact hf1.1
     rw [if_pos rfl,if_pos rfl,q49 hx c hc hnp hpl (pr_un h)]
    ·show bindM (aftM n (if box then (kTr c).2 else c) x M) _ = bindM (aftM n (if box then (kTr c).2 else c) y M) _
     rw [ih (if box then (kTr c).2 else c) M (by
      cases box
      ·exact hc
      ·exact q2Y hc) (by
      cases box
      ·exact pr_un h
      ·exact (pr_k c hc.wf (pr_un h)).2)]
    ·rw [if_neg (by decide),if_neg (by decide),if_neg (by decide),if_neg (by decide),jh box c _ _ M hc (pr_un h)]
   | .bin (op,p) c d,hr,h =>
    (first | rw [q12,q12] | rw [qT,qT] | rw [qP,qP] | rw [q15,q15])
    dsimp only
    obtain ⟨rfl,ho,kc,kd⟩ := q1k hr
    rcases ho with rfl | rfl
    ·rw [if_pos rfl,if_pos rfl,jh box c s f M kc (qC h).1]
     exact congrArg _ (funext fun a => funext fun M1 => by rw [jh box d s f M1 kd (qC h).2])
    ·rw [if_neg (by decide),if_neg (by decide),jh box d s f M kd (qC h).2]
     exact congrArg _ (funext fun a => funext fun M1 => by rw [jh box c a _ M1 kc (qC h).1])
def PrM (X : Nat → Prop) (M : Mt) : Prop := ∀ f ∈ M,Pr X f
theorem q8E {X : Nat → Prop} {f : List Tk} {M M' : Mt} {L : List Nat} (hf : Pr X f) (hM : PrM X M) (h : meetM f M = some (L,M')) : PrM X M' := by
 unfold meetM at h
 split at h
 ·injection h with h; injection h with h1 h2; subst h1 h2; exact hM
 ·split at h
  ·injection h with h; injection h with h1 h2; subst h1 h2
   intro g hg
   rcases List.mem_append.1 hg with hg | hg
   ·exact hM g hg
   ·rw [List.mem_singleton.1 hg]; exact hf
  ·cases h
theorem q21 {X : Nat → Prop} : ∀ (T : Tr) {M M' : Mt} {L : List Nat},Pr X T.flat → PrM X M → needM T M = some (L,M') → PrM X M'
 | .leaf (op,p),M,M',L,hT,hM,h => by
  unfold needM at h
  dsimp only at h
  split at h
  ·injection h with h; injection h with h1 h2; subst h1 h2; exact hM
  ·split at h
   ·injection h with h; injection h with h1 h2; subst h1 h2; exact hM
   ·exact q8E hT hM h
 | .un k c,M,M',L,hT,hM,h => q8E hT hM h
 | .bin (op,p) c d,M,M',L,hT,hM,h => by
  unfold needM at h
  dsimp only at h
  split at h
  ·obtain ⟨a,M1,ha,h2⟩ := qf h
   obtain ⟨b,M2,hb,h3⟩ := qf h2
   rw [(qr h3).1]
   exact q21 d (qC hT).2 (q21 c (qC hT).1 hM ha) hb
  ·exact q8E hT hM h
theorem q8D {X : Nat → Prop} {x : Nat} : ∀ n,(∀ T M M' L,KT T → Pr X T.flat → PrM X M → aftM n T x M = some (L,M') → PrM X M') ∧ (∀ box r s f M M' L,KP r → Pr X r.flat → Pr X f.flat → PrM X M → pthM n box r s f x M = some (L,M') → PrM X M')
 | 0 => ⟨fun T M M' L _ _ _ h => (by (first | rw [qD] at h | rw [qJ] at h | rw [qw] at h | rw [qH] at h); cases h),fun box r s f M M' L _ _ _ _ h => (by (first | rw [q12] at h | rw [qT] at h | rw [qP] at h | rw [q15] at h); cases h)⟩
 | n + 1 => by
  obtain ⟨ih,jh⟩ := q8D (X := X) (x := x) n
  refine ⟨fun T M M' L hT hp hM h => ?_,fun box r s f M M' L hr hp hf hM h => ?_⟩
  ·match T,hT,hp,h with
   | .leaf (op,p),hT,hp,h =>
    (first | rw [qD] at h | rw [qJ] at h | rw [qw] at h | rw [qH] at h)
    injection h with h; injection h with h1 h2; subst h1 h2; exact hM
   | .un (op,p) c,hT,hp,h =>
    (first | rw [qD] at h | rw [qJ] at h | rw [qw] at h | rw [qH] at h)
    dsimp only at h
    split at h
    ·injection h with h; injection h with h1 h2; subst h1 h2; exact hM
    ·split at h
     ·obtain ⟨a,M1,ha,h2⟩ := qf h
      obtain ⟨b,M2,hb,h3⟩ := qf h2
      rw [(qr h3).1]
      exact q21 c (pr_un hp) (q21 _ (qO (by decide)) hM ha) hb
     ·obtain ⟨a,M1,ha,h2⟩ := qf h
      obtain ⟨b,M2,hb,h3⟩ := qf h2
      rw [(qr h3).1]
      exact q21 c (pr_un hp) (q21 _ (qO (by decide)) hM ha) hb
   | .bin (op,p) c d,hT,hp,h =>
    (first | rw [qD] at h | rw [qJ] at h | rw [qw] at h | rw [qH] at h)
    dsimp only at h
    obtain ⟨rfl,ho⟩ := q1t hT
    split at h
    ·rename_i ho2
     obtain ⟨kc,kd⟩ := qB hT (by rcases ho2 with h | h <;> simp [h])
     obtain ⟨a,M1,ha,h2⟩ := qf h
     obtain ⟨b,M2,hb,h3⟩ := qf h2
     rw [(qr h3).1]
     exact ih d M1 M2 b kd (qC hp).2 (ih c M M1 a kc (qC hp).1 hM ha) hb
    ·split at h
     ·rename_i ho1 ho2
      obtain ⟨kc,kd⟩ := qB hT (by rcases ho2 with h | h <;> simp [h])
      obtain ⟨b,M1,hb,h2⟩ := qf h
      obtain ⟨a,M2,ha,h3⟩ := qf h2
      obtain ⟨u,M3,hu,h4⟩ := qf h3
      obtain ⟨v,M4,hv,h5⟩ := qf h4
      rw [(qr h5).1,(qr hv).1]
      exact q21 _ hp (ih c M1 M2 a kc (qC hp).1 (ih d M M1 b kd (qC hp).2 hM hb) ha) hu
     ·obtain ⟨kc,kd⟩ := q1l hT (by omega)
      obtain ⟨s,M1,hs,h2⟩ := qf h
      exact jh _ c s d M1 M' L kc (qC hp).1 (qC hp).2 (ih d M M1 s kd (qC hp).2 hM hs) h2
  ·match r,hr,hp,h with
   | .leaf k,hr,hp,h => exact (q2i hr).elim
   | .un (op,p) c,hr,hp,h =>
    (first | rw [q12] at h | rw [qT] at h | rw [qP] at h | rw [q15] at h)
    dsimp only at h
    rcases kp_un hr with ⟨rfl,⟨rfl,hc,hpl⟩ | ⟨rfl,hc⟩ | ⟨rfl,hc⟩⟩
    ·rw [if_pos rfl] at h
     split at h
     ·exact q21 f hf hM h
     ·injection h with h; injection h with h1 h2; subst h1 h2; exact hM
    ·rw [if_neg (by decide),if_pos rfl] at h
     obtain ⟨a,M1,ha,h2⟩ := qf h
     rw [(qr h2).1]
     refine ih _ M M1 a ?_ ?_ hM ha
     ·cases box
      ·exact hc
      ·exact q2Y hc
     ·cases box
      ·exact pr_un hp
      ·exact (pr_k c hc.wf (pr_un hp)).2
    ·rw [if_neg (by decide),if_neg (by decide)] at h
     obtain ⟨a,M1,ha,h2⟩ := qf h
     rw [(qr h2).1]
     exact jh box c _ _ M M1 a hc (pr_un hp) (qct box hp hf) hM ha
   | .bin (op,p) c d,hr,hp,h =>
    (first | rw [q12] at h | rw [qT] at h | rw [qP] at h | rw [q15] at h)
    dsimp only at h
    obtain ⟨rfl,ho,kc,kd⟩ := q1k hr
    rcases ho with rfl | rfl
    ·rw [if_pos rfl] at h
     obtain ⟨a,M1,ha,h2⟩ := qf h
     obtain ⟨b,M2,hb,h3⟩ := qf h2
     rw [(qr h3).1]
     exact jh box d s f M1 M2 b kd (qC hp).2 hf (jh box c s f M M1 a kc (qC hp).1 hf hM ha) hb
    ·rw [if_neg (by decide)] at h
     obtain ⟨a,M1,ha,h2⟩ := qf h
     exact jh box c a _ M1 M' L kc (qC hp).1 (qct box (qC hp).2 hf) (jh box d s f M M1 a kd (qC hp).2 hf hM ha) h2
def Again (g : Mt → Rt) : Prop := ∀ M L M1,g M = some (L,M1) → M <+: M1 ∧ ∀ M2,M1 <+: M2 → g M2 = some (L,M2)
theorem q2x (l : List Nat) : Again fun M => some (l,M) := fun M L M1 h => by
 injection h with h; injection h with h1 h2; subst h1 h2
 exact ⟨List.prefix_refl _,fun M2 _ => rfl⟩
theorem q1c (and : Bool) (a b : List Nat) : Again fun M => twoM and a b M := fun M L M1 h => by
 have e := (qr h).1
 subst e
 refine ⟨List.prefix_refl _,fun M2 _ => ?_⟩
 show twoM and a b M2 = _
 unfold twoM at h ⊢
 cases hq : (if and then andM a b else orM a b) with
 | none => rw [hq] at h; cases h
 | some q =>
  rw [hq] at h
  injection h with h; injection h with h1 h2
  rw [← h1]; rfl
theorem qx {g : Mt → Rt} {k : List Nat → Mt → Rt} (hg : Again g) (hk : ∀ l,Again (k l)) : Again fun M => bindM (g M) k := fun M L M1 h => by
 obtain ⟨a,Ma,ha,h2⟩ := qf h
 obtain ⟨p1,q1⟩ := hg M a Ma ha
 obtain ⟨p2,q2⟩ := hk a Ma L M1 h2
 refine ⟨p1.trans p2,fun M2 h3 => ?_⟩
 show bindM (g M2) k = _
 rw [q1 M2 (p2.trans h3)]
 exact q2 M2 h3
theorem q4n (f : List Tk) : Again (meetM f) := fun M L M1 h => by
 unfold meetM at h
 split at h
 ·rename_i i hi
  injection h with h; injection h with h1 h2; subst h1 h2
  refine ⟨List.prefix_refl _,fun M2 hp => ?_⟩
  obtain ⟨r,rfl⟩ := hp
  unfold meetM
  rw [List.findIdx?_append,hi]; rfl
 ·rename_i hi
  split at h
  ·injection h with h; injection h with h1 h2; subst h1 h2
   refine ⟨List.prefix_append _ _,fun M2 hp => ?_⟩
   obtain ⟨r,rfl⟩ := hp
   unfold meetM
   rw [List.append_assoc,List.findIdx?_append,hi]
   simp [List.findIdx?_cons]
  ·cases h
theorem q1m : ∀ T : Tr,Again (needM T)
 | .leaf k => by
  intro M L M1 h
  by_cases h0 : k.1 = 0
  ·have e : needM (.leaf k) = fun M => some ([0],M) := by funext M; unfold needM; rw [if_pos h0]
   rw [e] at h ⊢
   exact q2x [0] M L M1 h
  ·by_cases h1 : k.1 = 1
   ·have e : needM (.leaf k) = fun M => some ([],M) := by funext M; unfold needM; rw [if_neg h0,if_pos h1]
    rw [e] at h ⊢
    exact q2x [] M L M1 h
   ·have e : needM (.leaf k) = meetM (Tr.leaf k).flat := by funext M; unfold needM; rw [if_neg h0,if_neg h1]
    rw [e] at h ⊢
    exact q4n _ M L M1 h
 | .un k c => fun M L M1 h => q4n (Tr.un k c).flat M L M1 h
 | .bin k c d => by
  by_cases h0 : k.1 = 11 ∨ k.1 = 12
  ·have e : needM (.bin k c d) = fun M => bindM (needM c M) fun a M1 => bindM (needM d M1) fun b M2 => twoM (k.1 == 11) a b M2 := by funext M; rw [needM,if_pos h0]
   rw [e]
   exact qx (q1m c) fun a => qx (q1m d) fun b => q1c _ a b
  ·have e : needM (.bin k c d) = meetM (Tr.bin k c d).flat := by funext M; rw [needM,if_neg h0]
   rw [e]
   exact q4n _
theorem q4o : Again fun _ => none := fun M L M1 h => by cases h
theorem q4m (x : Nat) : ∀ n,(∀ T,Again (aftM n T x)) ∧ (∀ box r s f,Again (pthM n box r s f x))
 | 0 => ⟨fun T => by rw [show aftM 0 T x = fun _ => none by funext M; rw [qH]]; exact q4o,fun box r s f => by rw [show pthM 0 box r s f x = fun _ => none by funext M; rw [q15]]; exact q4o⟩
 | n + 1 => by
  obtain ⟨ih,jh⟩ := q4m x n
  refine ⟨fun T => ?_,fun box r s f => ?_⟩
  ·match T with
   | .leaf k =>
    rw [show aftM (n + 1) (.leaf k) x = fun M => some (yesM (if k.1 = 2 then x.testBit k.2 else k.1 == 0 || k.1 == 4),M) by funext M; rw [qD]]
    exact q2x _
   | .un k c =>
    by_cases h6 : k.1 = 6
    ·rw [show aftM (n + 1) (.un k c) x = fun M => some (yesM (!plV x c),M) by funext M; rw [qJ,if_pos h6]]
     exact q2x _
    ·by_cases h7 : k.1 = 7
     ·rw [show aftM (n + 1) (.un k c) x = fun M => bindM (needM (.leaf (4,0)) M) fun a M1 => bindM (needM c M1) fun b M2 => twoM true a b M2 by funext M; rw [qJ,if_neg h6,if_pos h7]]
      exact qx (q1m _) fun a => qx (q1m _) fun b => q1c _ a b
     ·rw [show aftM (n + 1) (.un k c) x = fun M => bindM (needM (.leaf (5,0)) M) fun a M1 => bindM (needM c M1) fun b M2 => twoM false a b M2 by funext M; rw [qJ,if_neg h6,if_neg h7]]
      exact qx (q1m _) fun a => qx (q1m _) fun b => q1c _ a b
   | .bin k c d =>
    by_cases h1 : k.1 = 11 ∨ k.1 = 12
    ·rw [show aftM (n + 1) (.bin k c d) x = fun M => bindM (aftM n c x M) fun a M1 => bindM (aftM n d x M1) fun b M2 => twoM (k.1 == 11) a b M2 by funext M; rw [qw,if_pos h1]]
     exact qx (ih c) fun a => qx (ih d) fun b => q1c _ a b
    ·by_cases h2 : k.1 = 15 ∨ k.1 = 16
     ·rw [show aftM (n + 1) (.bin k c d) x = fun M => bindM (aftM n d x M) fun b M1 => bindM (aftM n c x M1) fun a M2 => bindM (needM (.bin k c d) M2) fun u M3 => bindM (twoM (k.1 == 15) a u M3) fun v M4 => twoM (k.1 == 16) b v M4 by funext M; rw [qw,if_neg h1,if_pos h2]]
      exact qx (ih d) fun b => qx (ih c) fun a => qx (q1m _) fun u => qx (q1c _ a u) fun v => q1c _ b v
     ·rw [show aftM (n + 1) (.bin k c d) x = fun M => bindM (aftM n d x M) fun s M1 => pthM n (k.1 == 18) c s d x M1 by funext M; rw [qw,if_neg h1,if_neg h2]]
      exact qx (ih d) fun s => jh _ c s d
  ·match r with
   | .leaf k => rw [show pthM (n + 1) box (.leaf k) s f x = fun _ => none by funext M; rw [q12]]; exact q4o
   | .un k c =>
    by_cases h1 : k.1 = 19
    ·by_cases hv : plV x c = true
     ·rw [show pthM (n + 1) box (.un k c) s f x = needM f by funext M; rw [qT,if_pos h1,if_pos hv]]
      exact q1m f
     ·rw [show pthM (n + 1) box (.un k c) s f x = fun M => some (yesM box,M) by funext M; rw [qT,if_pos h1,if_neg hv]]
      exact q2x _
    ·by_cases h2 : k.1 = 20
     ·rw [show pthM (n + 1) box (.un k c) s f x = fun M => bindM (aftM n (if box then (kTr c).2 else c) x M) fun a M1 => twoM (!box) a s M1 by funext M; rw [qT,if_neg h1,if_pos h2]]
      exact qx (ih _) fun a => q1c _ a s
     ·rw [show pthM (n + 1) box (.un k c) s f x = fun M => bindM (pthM n box c (yesM box) (.bin (modeO box,0) (.un k c) f) x M) fun a M1 => twoM box s a M1 by funext M; rw [qT,if_neg h1,if_neg h2]]
      exact qx (jh _ _ _ _) fun a => q1c _ s a
   | .bin k c d =>
    by_cases h1 : k.1 = 21
    ·rw [show pthM (n + 1) box (.bin k c d) s f x = fun M => bindM (pthM n box c s f x M) fun a M1 => bindM (pthM n box d s f x M1) fun b M2 => twoM box a b M2 by funext M; rw [qP,if_pos h1]]
     exact qx (jh _ _ _ _) fun a => qx (jh _ _ _ _) fun b => q1c _ a b
    ·rw [show pthM (n + 1) box (.bin k c d) s f x = fun M => bindM (pthM n box d s f x M) fun a M1 => pthM n box c a (.bin (modeO box,0) d f) x M1 by funext M; rw [qP,if_neg h1]]
     exact qx (jh _ _ _ _) fun a => jh _ _ _ _
theorem qfu {M M' : Mt} (h : M <+: M') {k : Nat} (hk : k < M.length) : M'.getD k [] = M.getD k [] := by
 rw [List.getD_eq_getElem?_getD,List.getD_eq_getElem?_getD,qcu h hk]
theorem q9c (n x : Nat) : ∀ (ks m : List Nat) (M M1 : Mt) (L : List Nat),(∀ k ∈ ks,k < M.length) → setM n x ks m M = some (L,M1) → M <+: M1 ∧ ∀ M2,M1 <+: M2 → setM n x ks m M2 = some (L,M2)
 | [],m,M,M1,L,_,h => by
  unfold setM at h
  injection h with h; injection h with h1 h2; subst h1 h2
  exact ⟨List.prefix_refl _,fun M2 _ => rfl⟩
 | k :: ks,m,M,M1,L,hk,h => by
  unfold setM at h
  obtain ⟨a,Ma,ha,h2⟩ := qf h
  obtain ⟨b,Mb,hb,h3⟩ := qf h2
  obtain ⟨p1,q1⟩ := (q4m x n).1 _ M a Ma ha
  obtain ⟨p2,q2⟩ := q1c true m a Ma b Mb hb
  obtain ⟨p3,q3⟩ := q9c n x ks b Mb M1 L (fun j hj => Nat.lt_of_lt_of_le (hk j (by simp [hj])) ((p1.trans p2).length_le)) h3
  refine ⟨(p1.trans p2).trans p3,fun M2 hp => ?_⟩
  unfold setM
  rw [qfu (((p1.trans p2).trans p3).trans hp) (hk k (by simp)),q1 M2 ((p2.trans p3).trans hp)]
  show bindM (twoM true m a M2) _ = _
  rw [show twoM true m a M2 = some (b,M2) from q2 M2 (p3.trans hp)]
  exact q3 M2 hp
theorem q2A (n x : Nat) : ∀ (l out : List Nat) (M M1 : Mt) (L : List Nat),BdL l M.length → stepM n x l out M = some (L,M1) → M <+: M1 ∧ ∀ M2,M1 <+: M2 → stepM n x l out M2 = some (L,M2)
 | [],out,M,M1,L,_,h => by
  unfold stepM at h
  injection h with h; injection h with h1 h2; subst h1 h2
  exact ⟨List.prefix_refl _,fun M2 _ => rfl⟩
 | s :: ss,out,M,M1,L,hl,h => by
  unfold stepM at h
  obtain ⟨a,Ma,ha,h2⟩ := qf h
  obtain ⟨b,Mb,hb,h3⟩ := qf h2
  obtain ⟨p1,q1⟩ := q9c n x (itemsL s) [0] M Ma a (fun k hk => hl s (by simp) k (q1n.1 hk).2) ha
  obtain ⟨p2,q2⟩ := q1c false out a Ma b Mb hb
  obtain ⟨p3,q3⟩ := q2A n x ss b Mb M1 L (fun z hz k hk => Nat.lt_of_lt_of_le (hl z (by simp [hz]) k hk) ((p1.trans p2).length_le)) h3
  refine ⟨(p1.trans p2).trans p3,fun M2 hp => ?_⟩
  unfold stepM
  rw [q1 M2 ((p2.trans p3).trans hp)]
  show bindM (twoM false out a M2) _ = _
  rw [show twoM false out a M2 = some (b,M2) from q2 M2 (p3.trans hp)]
  exact q3 M2 hp
theorem qbn {X : Nat → Prop} {x y : Nat} (hx : Like X x y) (n : Nat) : ∀ (ks m : List Nat) (M : Mt),GoodM M → PrM X M → (∀ k ∈ ks,k < M.length) → BdL m M.length → setM n x ks m M = setM n y ks m M
 | [],m,M,_,_,_,_ => rfl
 | k :: ks,m,M,hM,hp,hk,hm => by
  have hkl := hk k (by simp)
  have hget : M[k]? = some (M.getD k []) := by rw [List.getD_eq_getElem?_getD,List.getElem?_eq_getElem hkl]; rfl
  have hmem := List.mem_of_getElem? hget
  obtain ⟨T,hT,hf⟩ := hM.ker _ hmem
  have hpT : Pr X T.flat := hf ▸ hp _ hmem
  unfold setM
  rw [hf,q2h hT.wf,(q90 hx n).1 T M hT hpT]
  cases ha : aftM n T y M with
  | none => rfl
  | some z =>
   obtain ⟨a,M1⟩ := z
   show bindM (twoM true m a M1) _ = bindM (twoM true m a M1) _
   cases hb : twoM true m a M1 with
   | none => rfl
   | some q =>
    obtain ⟨b,M2⟩ := q
    show setM n x ks b M2 = setM n y ks b M2
    have e := (qr hb).1
    subst e
    obtain ⟨e1,_⟩ := (q1Z n).1 T y M _ a hM hT ha
    exact qbn hx n ks b _ e1.good ((q8D n).1 T M _ a hT hpT hp ha) (fun j hj => Nat.lt_of_lt_of_le (hk j (by simp [hj])) (q1q e1.pre)) (q3z hb (hm.mono (q1q e1.pre)) e1.bd)
theorem qbo {X : Nat → Prop} (n x : Nat) : ∀ (ks m : List Nat) (M M' : Mt) (L : List Nat),GoodM M → PrM X M → (∀ k ∈ ks,k < M.length) → setM n x ks m M = some (L,M') → PrM X M'
 | [],m,M,M',L,_,hp,_,h => by
  unfold setM at h
  injection h with h; injection h with h1 h2; subst h1 h2
  exact hp
 | k :: ks,m,M,M',L,hM,hp,hk,h => by
  have hkl := hk k (by simp)
  have hget : M[k]? = some (M.getD k []) := by rw [List.getD_eq_getElem?_getD,List.getElem?_eq_getElem hkl]; rfl
  have hmem := List.mem_of_getElem? hget
  obtain ⟨T,hT,hf⟩ := hM.ker _ hmem
  have hpT : Pr X T.flat := hf ▸ hp _ hmem
  unfold setM at h
  rw [hf,q2h hT.wf] at h
  obtain ⟨a,Ma,ha,h2⟩ := qf h
  obtain ⟨b,Mb,hb,h3⟩ := qf h2
  have e := (qr hb).1
  subst e
  obtain ⟨e1,_⟩ := (q1Z n).1 T x M _ a hM hT ha
  exact qbo n x ks b _ M' L e1.good ((q8D n).1 T M _ a hT hpT hp ha) (fun j hj => Nat.lt_of_lt_of_le (hk j (by simp [hj])) (q1q e1.pre)) h3
theorem qcx {X : Nat → Prop} (n x : Nat) : ∀ (l out : List Nat) (M M' : Mt) (L : List Nat),GoodM M → PrM X M → BdL l M.length → stepM n x l out M = some (L,M') → PrM X M'
 | [],out,M,M',L,_,hp,_,h => by
  unfold stepM at h
  injection h with h; injection h with h1 h2; subst h1 h2
  exact hp
 | s :: ss,out,M,M',L,hM,hp,hl,h => by
  unfold stepM at h
  obtain ⟨a,Ma,ha,h2⟩ := qf h
  obtain ⟨b,Mb,hb,h3⟩ := qf h2
  have hks : ∀ k ∈ itemsL s,k < M.length := fun k hk => hl s (by simp) k (q1n.1 hk).2
  obtain ⟨e1,_⟩ := q7t n x (itemsL s) [0] M Ma a hM (q16 true _) hks ha
  have e := (qr hb).1
  subst e
  exact qcx n x ss b _ M' L e1.good (qbo n x _ _ M _ a hM hp hks ha) (fun z hz k hk => Nat.lt_of_lt_of_le (hl z (by simp [hz]) k hk) (q1q e1.pre)) h3
theorem q9f {X : Nat → Prop} {x y : Nat} (hx : Like X x y) (n : Nat) : ∀ (l out : List Nat) (M : Mt),GoodM M → PrM X M → BdL l M.length → stepM n x l out M = stepM n y l out M
 | [],out,M,_,_,_ => rfl
 | s :: ss,out,M,hM,hp,hl => by
  have hks : ∀ k ∈ itemsL s,k < M.length := fun k hk => hl s (by simp) k (q1n.1 hk).2
  unfold stepM
  rw [qbn hx n (itemsL s) [0] M hM hp hks (q16 true _)]
  cases ha : setM n y (itemsL s) [0] M with
  | none => rfl
  | some z =>
   obtain ⟨a,M1⟩ := z
   show bindM (twoM false out a M1) _ = bindM (twoM false out a M1) _
   cases hb : twoM false out a M1 with
   | none => rfl
   | some q =>
    obtain ⟨b,M2⟩ := q
    show stepM n x ss b M2 = stepM n y ss b M2
    have e := (qr hb).1
    subst e
    obtain ⟨e1,_⟩ := q7t n y (itemsL s) [0] M _ a hM (q16 true _) hks ha
    exact q9f hx n ss b _ e1.good (qbo n y _ _ M _ a hM hp hks ha) (fun z hz k hk => Nat.lt_of_lt_of_le (hl z (by simp [hz]) k hk) (q1q e1.pre))
def fuelN : Nat := 5000
theorem q1Q {and : Bool} {a b : List Nat} {M M' : Mt} {l : List Nat} (h : twoM and a b M = some (l,M')) : l.length ≤ 1024 := by
 have h2 := (qr h).2
 unfold twoM at h
 cases and with
 | true =>
  simp only [if_true] at h h2
  unfold andM at h
  split at h
  ·rename_i hl
   rw [h2]
   exact Nat.le_trans (q4y _) (by rw [q3S]; exact hl)
  ·cases h
 | false =>
  simp only [Bool.false_eq_true,if_false] at h h2
  unfold orM at h
  split at h
  ·rename_i hl
   rw [h2]
   exact Nat.le_trans (q4y _) (by rw [List.length_append]; exact hl)
  ·cases h
theorem q6q {f : List Tk} {M M' : Mt} {l : List Nat} (h : meetM f M = some (l,M')) : l.length ≤ 1024 := by
 unfold meetM at h
 split at h
 ·injection h with h; injection h with h1 h2; subst h1; simp
 ·split at h
  ·injection h with h; injection h with h1 h2; subst h1; simp
  ·cases h
theorem q1B : ∀ (T : Tr) {M M' : Mt} {l : List Nat},needM T M = some (l,M') → l.length ≤ 1024
 | .leaf k,M,M',l,h => by
  unfold needM at h
  split at h
  ·injection h with h; injection h with h1 h2; subst h1; simp
  ·split at h
   ·injection h with h; injection h with h1 h2; subst h1; simp
   ·exact q6q h
 | .un k c,M,M',l,h => q6q h
 | .bin k c d,M,M',l,h => by
  unfold needM at h
  split at h
  ·obtain ⟨a,M1,_,h2⟩ := qf h
   obtain ⟨b,M2,_,h3⟩ := qf h2
   exact q1Q h3
  ·exact q6q h
theorem q4D (n x : Nat) : ∀ (l out : List Nat) {M M' : Mt} {L : List Nat},out.length ≤ 1024 → stepM n x l out M = some (L,M') → L.length ≤ 1024
 | [],out,M,M',L,ho,h => by
  unfold stepM at h
  injection h with h; injection h with h1 h2; subst h1; exact ho
 | s :: ss,out,M,M',L,_,h => by
  unfold stepM at h
  obtain ⟨m,M1,_,h2⟩ := qf h
  obtain ⟨o,M2,ho,h3⟩ := qf h2
  exact q4D n x ss o (q1Q ho) h3
theorem qM {l : List Nat} {m : Nat} (h : BdL l m) (hm : m ≤ 64) : ∀ x ∈ l,x < 2 ^ 64 := fun x hx =>
 Nat.lt_pow_two_of_testBit x fun i hi => by
  cases ht : x.testBit i with
  | false => rfl
  | true => have := h x hx i ht; omega
theorem qb6 {ts : List Tk} (h : IsKer ts) : ∃ T,KT T ∧ ts = T.flat := by
 obtain ⟨T,h1,h2,h3,h4⟩ := h
 exact ⟨T,⟨h1,h2,h3⟩,h4⟩
theorem qdj {ts : List Tk} (h : chkE ts = 0) : ts.length ≤ 2048 ∧ ∃ T,KT T ∧ ts = T.flat := by
 obtain ⟨h1,h2⟩ := q2K.1 h
 exact ⟨h1,qb6 h2⟩
def hgt : Tr → Nat
 | .leaf _ => 1
 | .un k c => if k.1 = 6 then 1 else hgt c + 1
 | .bin _ c d => max (hgt c) (hgt d) + 1
theorem q2O : ∀ T : Tr,hgt T ≤ T.size
 | .leaf _ => Nat.le_refl _
 | .un k c => by
  have := q2O c
  unfold hgt Tr.size
  split <;> omega
 | .bin k c d => by
  have := q2O c
  have := q2O d
  have := q6y c
  have := q6y d
  unfold hgt Tr.size
  omega
theorem q5v (T : Tr) : 0 < hgt T := by
 cases T with
 | leaf k => exact Nat.one_pos
 | un k c => unfold hgt; split <;> omega
 | bin k c d => unfold hgt; omega
theorem q18 : ∀ T : Tr,KT T → hgt (kTr T).2 = hgt T
 | .leaf (op,p),hT => by
  rcases q1F hT with ⟨rfl,_⟩ | ⟨rfl,rfl | rfl | rfl | rfl⟩ <;> rfl
 | .un (op,p) c,hT => by
  rcases kt_un hT with ⟨rfl,⟨rfl,q,rfl⟩ | ⟨ho,hc⟩⟩
  ·rfl
  ·have ih := q18 c hc
   rcases ho with rfl | rfl
   ·show hgt (kTr c).2 + 1 = hgt c + 1
    rw [ih]
   ·show hgt (kTr c).2 + 1 = hgt c + 1
    rw [ih]
 | .bin (op,p) c d,hT => by
  obtain ⟨rfl,ho⟩ := q1t hT
  rcases ho with rfl | rfl | rfl | rfl | rfl | rfl
  ·obtain ⟨kc,kd⟩ := qB hT (by simp)
   show max (hgt (kTr c).2) (hgt (kTr d).2) + 1 = _
   rw [q18 c kc,q18 d kd]; rfl
  ·obtain ⟨kc,kd⟩ := qB hT (by simp)
   show max (hgt (kTr c).2) (hgt (kTr d).2) + 1 = _
   rw [q18 c kc,q18 d kd]; rfl
  ·obtain ⟨kc,kd⟩ := qB hT (by simp)
   show max (hgt (kTr c).2) (hgt (kTr d).2) + 1 = _
   rw [q18 c kc,q18 d kd]; rfl
  ·obtain ⟨kc,kd⟩ := qB hT (by simp)
   show max (hgt (kTr c).2) (hgt (kTr d).2) + 1 = _
   rw [q18 c kc,q18 d kd]; rfl
  ·obtain ⟨kc,kd⟩ := q1l hT (by simp)
   show max (hgt (kTr c).1) (hgt (kTr d).2) + 1 = _
   rw [(q1h c kc.wf kc.kr).1,q18 d kd]; rfl
  ·obtain ⟨kc,kd⟩ := q1l hT (by simp)
   show max (hgt (kTr c).1) (hgt (kTr d).2) + 1 = _
   rw [(q1h c kc.wf kc.kr).1,q18 d kd]; rfl
def endB : Tr → Bool
 | .leaf k => k.1 == 0 || k.1 == 5
 | .un k c => if k.1 = 6 then true else if k.1 = 20 then endB c else k.1 == 8 || k.1 == 23
 | .bin k c d => if k.1 = 11 then endB c && endB d else if k.1 = 12 then endB c || endB d else if k.1 = 16 then true else if k.1 = 17 then endB c && endB d else if k.1 = 18 then !endB c || endB d
  else if k.1 = 21 then endB c || endB d else if k.1 = 22 then endB c && endB d else false
theorem qaT {r : Tr} (h : KP r) {k : Nat} (hw : (semTr [] r).2 0 k) : k = 0 := by
 have := q22 [] r h.wf 0 k (Nat.le_refl _) hw
 simp at this
 omega
theorem q17 : ∀ T : Tr,(KT T → (endB T = true ↔ (semTr [] T).1 0)) ∧ (KP T → (endB T = true ↔ (semTr [] T).2 0 0))
 | .leaf (op,p) => by
  refine ⟨fun hT => ?_,fun hT => (q2i hT).elim⟩
  rcases q1F hT with ⟨rfl,_⟩ | ⟨rfl,rfl | rfl | rfl | rfl⟩ <;> simp [endB,semTr,semT,leafV]
 | .un (op,p) c => by
  refine ⟨fun hT => ?_,fun hT => ?_⟩
  ·rcases kt_un hT with ⟨rfl,⟨rfl,q,rfl⟩ | ⟨ho,hc⟩⟩
   ·simp [endB,semTr,semT,unV,leafV]
   ·rcases ho with rfl | rfl
    ·simp [endB,semTr,semT,unV]
    ·simp [endB,semTr,semT,unV]
  ·rcases kp_un hT with ⟨rfl,⟨rfl,hc,hpl⟩ | ⟨rfl,hc⟩ | ⟨rfl,hc⟩⟩
   ·simp [endB,semTr,semT,unY]
   ·have ih := (q17 c).1 hc
    simp only [endB,semTr,semT,unY]
    simpa using ih
   ·simp only [endB,semTr,semT,unY]
    simp
    exact ⟨0,rfl⟩
 | .bin (op,p) c d => by
  refine ⟨fun hT => ?_,fun hT => ?_⟩
  ·obtain ⟨rfl,ho⟩ := q1t hT
   rcases ho with rfl | rfl | rfl | rfl | rfl | rfl
   ·obtain ⟨kc,kd⟩ := qB hT (by simp)
    simp [endB,semTr,semT,binV,(q17 c).1 kc,(q17 d).1 kd]
   ·obtain ⟨kc,kd⟩ := qB hT (by simp)
    simp [endB,semTr,semT,binV,(q17 c).1 kc,(q17 d).1 kd]
   ·simp [endB,semTr,semT,binV]
   ·simp [endB,semTr,semT,binV]
   ·obtain ⟨kc,kd⟩ := q1l hT (by simp)
    have ic := (q17 c).2 kc
    have id := (q17 d).1 kd
    show (endB c && endB d) = true ↔ ∃ k,(semTr [] c).2 0 k ∧ (semTr [] d).1 k
    rw [Bool.and_eq_true,ic,id]
    exact ⟨fun h => ⟨0,h⟩,fun ⟨k,h1,h2⟩ => by have e := qaT kc h1; subst e; exact ⟨h1,h2⟩⟩
   ·obtain ⟨kc,kd⟩ := q1l hT (by simp)
    have ic := (q17 c).2 kc
    have id := (q17 d).1 kd
    show (!endB c || endB d) = true ↔ ∀ k,(semTr [] c).2 0 k → (semTr [] d).1 k
    constructor
    ·intro h k h1
     have e := qaT kc h1
     subst e
     rw [ic.2 h1] at h
     simp at h
     exact id.1 h
    ·intro h
     cases hc : endB c with
     | false => rfl
     | true => simp; exact id.2 (h 0 (ic.1 hc))
  ·obtain ⟨rfl,ho,kc,kd⟩ := q1k hT
   have ic := (q17 c).2 kc
   have id := (q17 d).2 kd
   rcases ho with rfl | rfl
   ·simp [endB,semTr,semT,binY,ic,id]
   ·show (endB c && endB d) = true ↔ ∃ j,(semTr [] c).2 0 j ∧ (semTr [] d).2 j 0
    rw [Bool.and_eq_true,ic,id]
    exact ⟨fun h => ⟨0,h⟩,fun ⟨k,h1,h2⟩ => by have e := qaT kc h1; subst e; exact ⟨h1,h2⟩⟩
abbrev Gd := Int × Int × Int
def adM : Nat → Int → (Nat → Nat) → List Gd → Int × List Gd
 | 0,_,f,N => (-1 - (f 0 : Int),N)
 | k + 1,p,f,N =>
  let a := adM k (p + 1) (fun i => f (2 * i)) N
  let b := adM k (p + 1) (fun i => f (2 * i + 1)) a.2
  if a.1 = b.1 then (a.1,b.2)
  else ((b.2.idxOf (p,a.1,b.1) : Int),if (p,a.1,b.1) ∈ b.2 then b.2 else b.2 ++ [(p,a.1,b.1)])
theorem qea (p : Int) (f : Nat → Nat) (N : List Gd) : adM 0 p f N = (-1 - (f 0 : Int),N) := rfl
theorem q2H (k : Nat) (p : Int) (f : Nat → Nat) (N : List Gd) {a b : Int} {N1 N2 : List Gd} (h1 : adM k (p + 1) (fun i => f (2 * i)) N = (a,N1)) (h2 : adM k (p + 1) (fun i => f (2 * i + 1)) N1 = (b,N2)) :
  adM (k + 1) p f N = if a = b then (a,N2) else ((N2.idxOf (p,a,b) : Int),if (p,a,b) ∈ N2 then N2 else N2 ++ [(p,a,b)]) := by
 simp only [adM,h1,h2]
def goG (N : List Gd) (x : Nat) : Nat → Int → Option Int
 | 0,r => if r < 0 then some (-1 - r) else none
 | k + 1,r => if r < 0 then some (-1 - r) else
  match N[r.toNat]? with
  | none => none
  | some (P,lo,hi) => if 0 ≤ P ∧ P ≤ 7 then goG N x k (if x.testBit P.toNat then hi else lo) else none
theorem qce {N : List Gd} {x : Nat} {r : Int} (h : r < 0) : ∀ k,goG N x k r = some (-1 - r)
 | 0 => by simp [goG,h]
 | k + 1 => by simp [goG,h]
theorem qb2 {N : List Gd} {x k i : Nat} {P lo hi : Int} (h : N[i]? = some (P,lo,hi)) (h0 : 0 ≤ P) (h7 : P ≤ 7) : goG N x (k + 1) (i : Int) = goG N x k (if x.testBit P.toNat then hi else lo) := by
 have hi : ¬ (i : Int) < 0 := by omega
 simp [goG,hi,h,h0,h7]
def FitG (m : Nat) (N : List Gd) (a : Nat) (p : Int) (r : Int) : Prop :=
 (r < 0 ∧ -(m : Int) ≤ r) ∨ ∃ i,r = ((i : Nat) : Int) ∧ i < a ∧ ∃ nd,N[i]? = some nd ∧ p < nd.1
structure WfG (n m : Nat) (N : List Gd) : Prop where
 node : ∀ (i : Nat) (P lo hi : Int),N[i]? = some (P,lo,hi) → 0 ≤ P ∧ P < n ∧ lo ≠ hi ∧ FitG m N i P lo ∧ FitG m N i P hi
 once : N.Nodup
theorem WfG.nil (n m : Nat) : WfG n m [] := ⟨fun i P lo hi h => by simp at h,by simp⟩
theorem qbi {α : Type} {N N' : List α} (h : N <+: N') {i : Nat} {a : α} (e : N[i]? = some a) : N'[i]? = some a := by
 obtain ⟨t,rfl⟩ := h
 have := (List.getElem?_eq_some_iff.1 e).1
 rw [List.getElem?_append_left this]; exact e
theorem FitG.mono {m : Nat} {N N' : List Gd} {a a' : Nat} {p p' r : Int} (h : FitG m N a p r) (hN : N <+: N') (ha : a ≤ a') (hp : p' ≤ p) : FitG m N' a' p' r := by
 rcases h with h | ⟨i,e,hi,nd,hn,hq⟩
 ·exact .inl h
 ·exact .inr ⟨i,e,by omega,nd,qbi hN hn,by omega⟩
theorem q8l {N : List Gd} {nd : Gd} (h : nd ∈ N) : N[N.idxOf nd]? = some nd := by
 have hl := List.idxOf_lt_length_of_mem h
 rw [List.getElem?_eq_getElem hl]; simp
theorem qch {N N' : List Gd} (h : N <+: N') {nd : Gd} (hm : nd ∈ N) : N'.idxOf nd = N.idxOf nd := by
 obtain ⟨t,rfl⟩ := h
 simp [List.idxOf_append,hm]
theorem qcg {N : List Gd} {nd : Gd} (h : nd ∉ N) : (N ++ [nd]).idxOf nd = N.length := by
 simp [List.idxOf_append,h]
theorem q8m {N : List Gd} {nd : Gd} (h : nd ∉ N) : N.idxOf nd = N.length := List.idxOf_eq_length h
theorem WfG.push {n m : Nat} {N : List Gd} (h : WfG n m N) {P lo hi : Int} (h0 : 0 ≤ P) (hn : P < n) (hd : lo ≠ hi) (hl : FitG m N N.length P lo) (hh : FitG m N N.length P hi) (ho : (P,lo,hi) ∉ N) : WfG n m (N ++ [(P,lo,hi)]) := by
 have hp : N <+: N ++ [(P,lo,hi)] := List.prefix_append _ _
 refine ⟨fun i P' lo' hi' e => ?_,?_⟩
 ·by_cases hi1 : i < N.length
  ·rw [List.getElem?_append_left hi1] at e
   obtain ⟨g0,g1,g2,g3,g4⟩ := h.node i _ _ _ e
   exact ⟨g0,g1,g2,g3.mono hp (Nat.le_refl _) (Int.le_refl _),g4.mono hp (Nat.le_refl _) (Int.le_refl _)⟩
  ·rw [List.getElem?_append_right (by omega)] at e
   have hz : i - N.length = 0 := by
    have := (List.getElem?_eq_some_iff.1 e).1
    simp at this; omega
   have hi2 : i = N.length := by omega
   subst hi2
   simp at e
   obtain ⟨rfl,rfl,rfl⟩ := e
   exact ⟨h0,hn,hd,hl.mono hp (Nat.le_refl _) (Int.le_refl _),hh.mono hp (Nat.le_refl _) (Int.le_refl _)⟩
 ·rw [List.nodup_append]
  refine ⟨h.once,by simp,fun a ha b hb => ?_⟩
  simp at hb; subst hb
  intro e; exact ho (e ▸ ha)
structure AdR (n m k : Nat) (p : Int) (f : Nat → Nat) (N : List Gd) (r : Int) (N' : List Gd) : Prop where
 pre : N <+: N'
 wf : WfG n m N'
 fit : FitG m N' N'.length (p - 1) r
 len : N'.length + 1 ≤ N.length + 2 ^ k
 goes : ∀ (N2 : List Gd) (x j : Nat),N' <+: N2 → k ≤ j → goG N2 x j r = some ((f (x / 2 ^ p.toNat % 2 ^ k) : Nat) : Int)
 again : ∀ N2 : List Gd,N' <+: N2 → adM k p f N2 = (r,N2)
theorem qeq (y k : Nat) : y % 2 ^ (k + 1) = 2 * (y / 2 % 2 ^ k) + y % 2 := by
 rw [Nat.pow_succ,Nat.mul_comm,Nat.mod_mul]; omega
theorem ad_ok {n m : Nat} (hn : n ≤ 8) : ∀ (k : Nat) (p : Int) (f : Nat → Nat) (N : List Gd),0 ≤ p → p + k = n → (∀ i,i < 2 ^ k → f i < m) → WfG n m N → AdR n m k p f N (adM k p f N).1 (adM k p f N).2
 | 0,p,f,N,h0,hp,hf,hw => by
  have := hf 0 (by simp)
  refine ⟨List.prefix_rfl,hw,.inl ⟨by simp [adM]; omega,by simp [adM]; omega⟩,by simp [adM],fun N2 x j _ _ => ?_,fun N2 _ => by simp [adM]⟩
  rw [qea,qce (by simp; omega)]
  simp [Nat.mod_one]; omega
 | k + 1,p,f,N,h0,hp,hf,hw => by
  have e2 : 2 ^ (k + 1) = 2 * 2 ^ k := by rw [Nat.pow_succ]; omega
  have hA := ad_ok hn k (p + 1) (fun i => f (2 * i)) N (by omega) (by omega) (fun i hi => hf _ (by omega)) hw
  rcases e1 : adM k (p + 1) (fun i => f (2 * i)) N with ⟨a,N1⟩
  rw [e1] at hA
  have hB := ad_ok hn k (p + 1) (fun i => f (2 * i + 1)) N1 (by omega) (by omega) (fun i hi => hf _ (by omega)) hA.wf
  rcases e3 : adM k (p + 1) (fun i => f (2 * i + 1)) N1 with ⟨b,N2⟩
  rw [e3] at hB
  dsimp only at hA hB
  rw [q2H k p f N e1 e3]
  have hpn : (p + 1).toNat = p.toNat + 1 := by omega
  have hx : ∀ x : Nat,x / 2 ^ p.toNat % 2 ^ (k + 1) = 2 * (x / 2 ^ (p + 1).toNat % 2 ^ k) + x / 2 ^ p.toNat % 2 := fun x => by
   rw [qeq,hpn,Nat.pow_succ,← Nat.div_div_eq_div_mul]
  have hA' := hA.fit.mono hB.pre hB.pre.length_le (Int.le_refl _)
  have hgA : ∀ (N3 : List Gd) (x j : Nat),N2 <+: N3 → k ≤ j → goG N3 x j a = some ((f (2 * (x / 2 ^ (p + 1).toNat % 2 ^ k)) : Nat) : Int) := fun N3 x j hN hj => hA.goes N3 x j (hB.pre.trans hN) hj
  have hgB : ∀ (N3 : List Gd) (x j : Nat),N2 <+: N3 → k ≤ j → goG N3 x j b = some ((f (2 * (x / 2 ^ (p + 1).toNat % 2 ^ k) + 1) : Nat) : Int) := fun N3 x j hN hj => hB.goes N3 x j hN hj
  have hlen : N2.length + 2 ≤ N.length + 2 ^ (k + 1) := by have := hA.len; have := hB.len; omega
  by_cases hab : a = b
  ·rw [if_pos hab]
   subst hab
   refine ⟨hA.pre.trans hB.pre,hB.wf,hB.fit.mono List.prefix_rfl (Nat.le_refl _) (by omega),(by dsimp only; omega),fun N3 x j hN hj => ?_,fun N3 hN => ?_⟩
   ·rw [hx]
    rcases Nat.mod_two_eq_zero_or_one (x / 2 ^ p.toNat) with h2 | h2 <;> rw [h2]
    ·exact hgA N3 x j hN (by omega)
    ·exact hgB N3 x j hN (by omega)
   ·rw [q2H k p f N3 (hA.again N3 (hB.pre.trans hN)) (hB.again N3 hN),if_pos rfl]
  ·rw [if_neg hab]
   generalize hnd : ((p,a,b) : Gd) = nd
   have hq : ∃ N',(if nd ∈ N2 then N2 else N2 ++ [nd]) = N' ∧ N2 <+: N' ∧ nd ∈ N' ∧ N'.idxOf nd = N2.idxOf nd ∧ N'.length + 1 ≤ N.length + 2 ^ (k + 1) ∧ WfG n m N' := by
    by_cases hm : nd ∈ N2
    ·exact ⟨N2,if_pos hm,List.prefix_rfl,hm,rfl,by omega,hB.wf⟩
    ·refine ⟨N2 ++ [nd],if_neg hm,List.prefix_append _ _,by simp,by rw [qcg hm,q8m hm],by simp; omega,?_⟩
     subst hnd
     exact hB.wf.push h0 (by omega) hab (hA'.mono List.prefix_rfl (Nat.le_refl _) (by omega)) (hB.fit.mono List.prefix_rfl (Nat.le_refl _) (by omega)) hm
   obtain ⟨N',eN,hp1,hmm,hix,hl,hwf⟩ := hq
   dsimp only
   rw [eN,← hix]
   have hget := q8l hmm
   refine ⟨(hA.pre.trans hB.pre).trans hp1,hwf,.inr ⟨_,rfl,List.idxOf_lt_length_of_mem hmm,nd,hget,by subst hnd; simp; omega⟩,hl,fun N3 x j hN hj => ?_,fun N3 hN => ?_⟩
   ·obtain ⟨j,rfl⟩ : ∃ j',j = j' + 1 := ⟨j - 1,by omega⟩
    have hg := qbi hN hget
    subst hnd
    rw [qb2 hg h0 (by omega),hx,Nat.testBit_eq_decide_div_mod_eq]
    rcases Nat.mod_two_eq_zero_or_one (x / 2 ^ p.toNat) with h2 | h2 <;> rw [h2]
    ·simpa using hgA N3 x j (hp1.trans hN) (by omega)
    ·simpa using hgB N3 x j (hp1.trans hN) (by omega)
   ·rw [q2H k p f N3 (hA.again N3 ((hB.pre.trans hp1).trans hN)) (hB.again N3 (hp1.trans hN)),if_neg hab,hnd]
    have hm3 : nd ∈ N3 := hN.subset hmm
    rw [if_pos hm3,qch hN hmm]
end Go.Proofs.YtailhklbmenaoaaGreatDoor
