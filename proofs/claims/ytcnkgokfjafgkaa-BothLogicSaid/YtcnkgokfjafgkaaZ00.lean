/- Texts of the proof, put together: what it uses. -/
import Derived.WalkKit
import Derived.WalkSpells
import Derived.Maps.OwnSet
import Derived.Test.YtcnkgokfjafgkaaProg
import Derived.WalkLawsBesides
import Derived.BigQuiet
import Derived.Deep.QuietTactic
set_option maxRecDepth 100000
set_option maxHeartbeats 16000000
namespace Go.Proofs.Ytcnkgokfjafgkaa
open Go.RowKit Go.Maps
theorem qz {B g : Nat} {a w : World} (h : Below B a w) (hg : B ≤ g) (cs : Array Value) : Below B a (w.setRow g cs) :=
 h.trans ⟨rfl,rfl,rfl,by simp,fun k hk => setRow_other _ _ _ _ (by omega)⟩
end Go.Proofs.Ytcnkgokfjafgkaa
namespace Go.Proofs.Ytcnkgokfjafgkaa
abbrev Gd := Int × Int × Int
def adM : Nat → Int → (Nat → Nat) → List Gd → Int × List Gd
 | 0,_,f,N => (-1 - (f 0 : Int),N)
 | k + 1,p,f,N =>
  let a := adM k (p + 1) (fun i => f (2 * i)) N
  let b := adM k (p + 1) (fun i => f (2 * i + 1)) a.2
  if a.1 = b.1 then (a.1,b.2)
  else ((b.2.idxOf (p,a.1,b.1) : Int),if (p,a.1,b.1) ∈ b.2 then b.2 else b.2 ++ [(p,a.1,b.1)])
theorem q8Q (p : Int) (f : Nat → Nat) (N : List Gd) : adM 0 p f N = (-1 - (f 0 : Int),N) := rfl
theorem qU (k : Nat) (p : Int) (f : Nat → Nat) (N : List Gd) {a b : Int} {N1 N2 : List Gd} (h1 : adM k (p + 1) (fun i => f (2 * i)) N = (a,N1)) (h2 : adM k (p + 1) (fun i => f (2 * i + 1)) N1 = (b,N2)) :
  adM (k + 1) p f N = if a = b then (a,N2) else ((N2.idxOf (p,a,b) : Int),if (p,a,b) ∈ N2 then N2 else N2 ++ [(p,a,b)]) := by
 simp only [adM,h1,h2]
theorem q27 : ∀ (k : Nat) (p : Int) (f g : Nat → Nat) (N : List Gd),(∀ i,i < 2 ^ k → f i = g i) → adM k p f N = adM k p g N
 | 0,p,f,g,N,h => by simp [adM,h 0 (by simp)]
 | k + 1,p,f,g,N,h => by
  have e : 2 ^ (k + 1) = 2 * 2 ^ k := by rw [Nat.pow_succ]; omega
  have h1 := q27 k (p + 1) (fun i => f (2 * i)) (fun i => g (2 * i)) N (fun i hi => h _ (by omega))
  have h2 := q27 k (p + 1) (fun i => f (2 * i + 1)) (fun i => g (2 * i + 1)) (adM k (p + 1) (fun i => g (2 * i)) N).2 (fun i hi => h _ (by omega))
  simp only [adM,h1,h2]
def goG (N : List Gd) (x : Nat) : Nat → Int → Option Int
 | 0,r => if r < 0 then some (-1 - r) else none
 | k + 1,r => if r < 0 then some (-1 - r) else
  match N[r.toNat]? with
  | none => none
  | some (P,lo,hi) => if 0 ≤ P ∧ P ≤ 7 then goG N x k (if x.testBit P.toNat then hi else lo) else none
theorem q1t {N : List Gd} {x : Nat} {r : Int} (h : r < 0) : ∀ k,goG N x k r = some (-1 - r)
 | 0 => by simp [goG,h]
 | k + 1 => by simp [goG,h]
theorem q1a {N : List Gd} {x k i : Nat} {P lo hi : Int} (h : N[i]? = some (P,lo,hi)) (h0 : 0 ≤ P) (h7 : P ≤ 7) : goG N x (k + 1) (i : Int) = goG N x k (if x.testBit P.toNat then hi else lo) := by
 have hi : ¬ (i : Int) < 0 := by omega
 simp [goG,hi,h,h0,h7]
def FitG (m : Nat) (N : List Gd) (a : Nat) (p : Int) (r : Int) : Prop :=
 (r < 0 ∧ -(m : Int) ≤ r) ∨ ∃ i,r = ((i : Nat) : Int) ∧ i < a ∧ ∃ nd,N[i]? = some nd ∧ p < nd.1
structure WfG (n m : Nat) (N : List Gd) : Prop where
 node : ∀ (i : Nat) (P lo hi : Int),N[i]? = some (P,lo,hi) → 0 ≤ P ∧ P < n ∧ lo ≠ hi ∧ FitG m N i P lo ∧ FitG m N i P hi
 once : N.Nodup
theorem WfG.nil (n m : Nat) : WfG n m [] := ⟨fun i P lo hi h => by simp at h,by simp⟩
theorem q66 {α : Type} {N N' : List α} (h : N <+: N') {i : Nat} {a : α} (e : N[i]? = some a) : N'[i]? = some a := by
 obtain ⟨t,rfl⟩ := h
 have := (List.getElem?_eq_some_iff.1 e).1
 rw [List.getElem?_append_left this]; exact e
theorem FitG.mono {m : Nat} {N N' : List Gd} {a a' : Nat} {p p' r : Int} (h : FitG m N a p r) (hN : N <+: N') (ha : a ≤ a') (hp : p' ≤ p) : FitG m N' a' p' r := by
 rcases h with h | ⟨i,e,hi,nd,hn,hq⟩
 ·exact .inl h
 ·exact .inr ⟨i,e,by omega,nd,q66 hN hn,by omega⟩
theorem q4u {N : List Gd} {nd : Gd} (h : nd ∈ N) : N[N.idxOf nd]? = some nd := by
 have hl := List.idxOf_lt_length_of_mem h
 rw [List.getElem?_eq_getElem hl]; simp
theorem q6X {N N' : List Gd} (h : N <+: N') {nd : Gd} (hm : nd ∈ N) : N'.idxOf nd = N.idxOf nd := by
 obtain ⟨t,rfl⟩ := h
 simp [List.idxOf_append,hm]
theorem q6W {N : List Gd} {nd : Gd} (h : nd ∉ N) : (N ++ [nd]).idxOf nd = N.length := by
 simp [List.idxOf_append,h]
theorem q3a {N : List Gd} {nd : Gd} (h : nd ∉ N) : N.idxOf nd = N.length := List.idxOf_eq_length h
theorem WfG.push {n m : Nat} {N : List Gd} (h : WfG n m N) {P lo hi : Int} (h0 : 0 ≤ P) (hn : P < n) (hd : lo ≠ hi) (hl : FitG m N N.length P lo) (hh : FitG m N N.length P hi) (ho : (P,lo,hi) ∉ N) : WfG n m (N ++ [(P,lo,hi)]) := by
 have hp : N <+: N ++ [(P,lo,hi)] := List.prefix_append _ _
 refine ⟨fun i P' lo' hi' e => ?_,?_⟩
 ·by_cases hi1 : i < N.length
  ·rw [List.getElem?_append_left hi1] at e
   obtain ⟨g0,g1,g2,g3,g4⟩ := h.node i _ _ _ e
   exact ⟨g0,g1,g2,g3.mono hp (Nat.le_refl _) (Int.le_refl _),g4.mono hp (Nat.le_refl _) (Int.le_refl _)⟩
  ·rw [List.getElem?_append_right (by omega)] at e
   have hz : i - N.length = 0 := by
    have := (List.getElem?_eq_some_iff.1 e).1
    simp at this; omega
   have hi2 : i = N.length := by omega
   subst hi2
   simp at e
   obtain ⟨rfl,rfl,rfl⟩ := e
   exact ⟨h0,hn,hd,hl.mono hp (Nat.le_refl _) (Int.le_refl _),hh.mono hp (Nat.le_refl _) (Int.le_refl _)⟩
 ·rw [List.nodup_append]
  refine ⟨h.once,by simp,fun a ha b hb => ?_⟩
  simp at hb; subst hb
  intro e; exact ho (e ▸ ha)
structure AdR (n m k : Nat) (p : Int) (f : Nat → Nat) (N : List Gd) (r : Int) (N' : List Gd) : Prop where
 pre : N <+: N'
 wf : WfG n m N'
 fit : FitG m N' N'.length (p - 1) r
 len : N'.length + 1 ≤ N.length + 2 ^ k
 goes : ∀ (N2 : List Gd) (x j : Nat),N' <+: N2 → k ≤ j → goG N2 x j r = some ((f (x / 2 ^ p.toNat % 2 ^ k) : Nat) : Int)
 again : ∀ N2 : List Gd,N' <+: N2 → adM k p f N2 = (r,N2)
theorem q99 (y k : Nat) : y % 2 ^ (k + 1) = 2 * (y / 2 % 2 ^ k) + y % 2 := by
 rw [Nat.pow_succ,Nat.mul_comm,Nat.mod_mul]; omega
theorem ad_ok {n m : Nat} (hn : n ≤ 8) : ∀ (k : Nat) (p : Int) (f : Nat → Nat) (N : List Gd),0 ≤ p → p + k = n → (∀ i,i < 2 ^ k → f i < m) → WfG n m N → AdR n m k p f N (adM k p f N).1 (adM k p f N).2
 | 0,p,f,N,h0,hp,hf,hw => by
  have := hf 0 (by simp)
  refine ⟨List.prefix_rfl,hw,.inl ⟨by simp [adM]; omega,by simp [adM]; omega⟩,by simp [adM],fun N2 x j _ _ => ?_,fun N2 _ => by simp [adM]⟩
  rw [q8Q,q1t (by simp; omega)]
  simp [Nat.mod_one]; omega
 | k + 1,p,f,N,h0,hp,hf,hw => by
  have e2 : 2 ^ (k + 1) = 2 * 2 ^ k := by rw [Nat.pow_succ]; omega
  have hA := ad_ok hn k (p + 1) (fun i => f (2 * i)) N (by omega) (by omega) (fun i hi => hf _ (by omega)) hw
  rcases e1 : adM k (p + 1) (fun i => f (2 * i)) N with ⟨a,N1⟩
  rw [e1] at hA
  have hB := ad_ok hn k (p + 1) (fun i => f (2 * i + 1)) N1 (by omega) (by omega) (fun i hi => hf _ (by omega)) hA.wf
  rcases e3 : adM k (p + 1) (fun i => f (2 * i + 1)) N1 with ⟨b,N2⟩
  rw [e3] at hB
  dsimp only at hA hB
  rw [qU k p f N e1 e3]
  have hpn : (p + 1).toNat = p.toNat + 1 := by omega
  have hx : ∀ x : Nat,x / 2 ^ p.toNat % 2 ^ (k + 1) = 2 * (x / 2 ^ (p + 1).toNat % 2 ^ k) + x / 2 ^ p.toNat % 2 := fun x => by
   rw [q99,hpn,Nat.pow_succ,← Nat.div_div_eq_div_mul]
  have hA' := hA.fit.mono hB.pre hB.pre.length_le (Int.le_refl _)
  have hgA : ∀ (N3 : List Gd) (x j : Nat),N2 <+: N3 → k ≤ j → goG N3 x j a = some ((f (2 * (x / 2 ^ (p + 1).toNat % 2 ^ k)) : Nat) : Int) := fun N3 x j hN hj => hA.goes N3 x j (hB.pre.trans hN) hj
  have hgB : ∀ (N3 : List Gd) (x j : Nat),N2 <+: N3 → k ≤ j → goG N3 x j b = some ((f (2 * (x / 2 ^ (p + 1).toNat % 2 ^ k) + 1) : Nat) : Int) := fun N3 x j hN hj => hB.goes N3 x j hN hj
  have hlen : N2.length + 2 ≤ N.length + 2 ^ (k + 1) := by have := hA.len; have := hB.len; omega
  by_cases hab : a = b
  ·rw [if_pos hab]
   subst hab
   refine ⟨hA.pre.trans hB.pre,hB.wf,hB.fit.mono List.prefix_rfl (Nat.le_refl _) (by omega),(by dsimp only; omega),fun N3 x j hN hj => ?_,fun N3 hN => ?_⟩
   ·rw [hx]
    rcases Nat.mod_two_eq_zero_or_one (x / 2 ^ p.toNat) with h2 | h2 <;> rw [h2]
    ·exact hgA N3 x j hN (by omega)
    ·exact hgB N3 x j hN (by omega)
   ·rw [qU k p f N3 (hA.again N3 (hB.pre.trans hN)) (hB.again N3 hN),if_pos rfl]
  ·rw [if_neg hab]
   generalize hnd : ((p,a,b) : Gd) = nd
   have hq : ∃ N',(if nd ∈ N2 then N2 else N2 ++ [nd]) = N' ∧ N2 <+: N' ∧ nd ∈ N' ∧ N'.idxOf nd = N2.idxOf nd ∧ N'.length + 1 ≤ N.length + 2 ^ (k + 1) ∧ WfG n m N' := by
    by_cases hm : nd ∈ N2
    ·exact ⟨N2,if_pos hm,List.prefix_rfl,hm,rfl,by omega,hB.wf⟩
    ·refine ⟨N2 ++ [nd],if_neg hm,List.prefix_append _ _,by simp,by rw [q6W hm,q3a hm],by simp; omega,?_⟩
     subst hnd
     exact hB.wf.push h0 (by omega) hab (hA'.mono List.prefix_rfl (Nat.le_refl _) (by omega)) (hB.fit.mono List.prefix_rfl (Nat.le_refl _) (by omega)) hm
   obtain ⟨N',eN,hp1,hmm,hix,hl,hwf⟩ := hq
   dsimp only
   rw [eN,← hix]
   have hget := q4u hmm
   refine ⟨(hA.pre.trans hB.pre).trans hp1,hwf,.inr ⟨_,rfl,List.idxOf_lt_length_of_mem hmm,nd,hget,by subst hnd; simp; omega⟩,hl,fun N3 x j hN hj => ?_,fun N3 hN => ?_⟩
   ·obtain ⟨j,rfl⟩ : ∃ j',j = j' + 1 := ⟨j - 1,by omega⟩
    have hg := q66 hN hget
    subst hnd
    rw [q1a hg h0 (by omega),hx,Nat.testBit_eq_decide_div_mod_eq]
    rcases Nat.mod_two_eq_zero_or_one (x / 2 ^ p.toNat) with h2 | h2 <;> rw [h2]
    ·simpa using hgA N3 x j (hp1.trans hN) (by omega)
    ·simpa using hgB N3 x j (hp1.trans hN) (by omega)
   ·rw [qU k p f N3 (hA.again N3 ((hB.pre.trans hp1).trans hN)) (hB.again N3 (hp1.trans hN)),if_neg hab,hnd]
    have hm3 : nd ∈ N3 := hN.subset hmm
    rw [if_pos hm3,q6X hN hmm]
def tabT (N : List Gd) (r : Int) : Nat → Option (List Int)
 | 0 => some []
 | k + 1 => (tabT N r k).bind fun l => (goG N k 8 r).map fun v => l ++ [v]
theorem q7g {N : List Gd} {r : Int} {f : Nat → Int} : ∀ (k : Nat),(∀ x,x < k → goG N x 8 r = some (f x)) → tabT N r k = some ((List.range k).map f)
 | 0,_ => rfl
 | k + 1,h => by
  have h1 := q7g k (fun x hx => h x (by omega))
  simp only [tabT,h1,h k (by omega),List.range_succ]
  simp
theorem q59 {N : List Gd} {r : Int} {i : Nat} (h : goG N i 8 r = none) : ∀ (k : Nat),i < k → tabT N r k = none
 | 0,hi => by omega
 | k + 1,hi => by
  by_cases e : i = k
  ·subst e; simp only [tabT,h]; cases tabT N r i <;> rfl
  ·have h1 := q59 h k (by omega)
   simp only [tabT,h1]; rfl
def fnL (l : List Nat) : Nat → Nat := fun i => l.getD i 0
theorem q3X {l : List Nat} {m : Nat} (h : ∀ v ∈ l,v < m) {i : Nat} (hi : i < l.length) : fnL l i < m := by
 simp only [fnL,List.getD_eq_getElem?_getD,List.getElem?_eq_getElem hi,Option.getD_some]
 exact h _ (List.getElem_mem hi)
structure BkG (n m : Nat) (N : List Gd) (K : List (List Nat)) (R : List Int) : Prop where
 wf : WfG n m N
 len : R.length = K.length
 it : ∀ (i : Nat) (l : List Nat) (r : Int),K[i]? = some l → R[i]? = some r → l.length = 2 ^ n ∧ FitG m N N.length (-1) r ∧ (∀ (N2 : List Gd) (x : Nat),N <+: N2 → x < 2 ^ n → goG N2 x 8 r = some ((fnL l x : Nat) : Int)) ∧ ∀ N2 : List Gd,N <+: N2 → adM n 0 (fnL l) N2 = (r,N2)
 few : N.length ≤ K.length * 2 ^ n
theorem BkG.nil (n m : Nat) : BkG n m [] [] [] := ⟨WfG.nil n m,rfl,fun i l r h => by simp at h,by simp⟩
theorem BkG.add {n m : Nat} {N : List Gd} {K : List (List Nat)} {R : List Int} (h : BkG n m N K R) (hn : n ≤ 8) {l : List Nat} (hl : l.length = 2 ^ n) (hm : ∀ v ∈ l,v < m) {r : Int} {N' : List Gd} (e : adM n 0 (fnL l) N = (r,N')) : BkG n m N' (K ++ [l]) (R ++ [r]) := by
 have a := ad_ok hn n 0 (fnL l) N (by omega) (by omega) (fun i hi => q3X hm (by omega)) h.wf
 rw [e] at a
 dsimp only at a
 refine ⟨a.wf,by simp [h.len],fun i k s hk hs => ?_,?_⟩
 ·by_cases hi : i < K.length
  ·rw [List.getElem?_append_left hi] at hk
   rw [List.getElem?_append_left (by rw [h.len]; exact hi)] at hs
   obtain ⟨h1,h2,h3,h4⟩ := h.it i k s hk hs
   exact ⟨h1,h2.mono a.pre a.pre.length_le (Int.le_refl _),fun N2 x hN hx => h3 N2 x (a.pre.trans hN) hx,fun N2 hN => h4 N2 (a.pre.trans hN)⟩
  ·have hz : i = K.length := by
    have := (List.getElem?_eq_some_iff.1 hk).1
    simp at this; omega
   subst hz
   rw [List.getElem?_append_right (Nat.le_refl _)] at hk
   rw [List.getElem?_append_right (by rw [h.len]; exact Nat.le_refl _)] at hs
   simp [h.len] at hk hs
   subst hk; subst hs
   refine ⟨hl,a.fit.mono List.prefix_rfl (Nat.le_refl _) (by omega),fun N2 x hN hx => ?_,a.again⟩
   have := a.goes N2 x 8 hN (by omega)
   simpa [Nat.mod_eq_of_lt hx] using this
 ·have h1 := a.len
  have h2 := h.few
  simp only [List.length_append,List.length_cons,List.length_nil,Nat.add_mul]
  omega
structure MayG (props : Int) (ns : Nat) (N : List Gd) (gs : List Int) : Prop where
 p0 : 0 ≤ props
 p8 : props ≤ 8
 s1 : 1 ≤ ns
 s2 : ns ≤ 256
 len : gs.length = ns
 few : N.length ≤ 4096
 node : ∀ (i : Nat) (P lo hi : Int),N[i]? = some (P,lo,hi) → 0 ≤ P ∧ P < props ∧ lo ≠ hi ∧ FitG ns N i P lo ∧ FitG ns N i P hi
 once : N.Nodup
 gd : ∀ g ∈ gs,FitG ns N N.length (-1) g
theorem FitG.more {m m' : Nat} {N : List Gd} {a : Nat} {p r : Int} (h : FitG m N a p r) (hm : m ≤ m') : FitG m' N a p r := by
 rcases h with ⟨h1,h2⟩ | h
 ·exact .inl ⟨h1,by omega⟩
 ·exact .inr h
theorem BkG.may {n m ns : Nat} {N : List Gd} {K : List (List Nat)} {R : List Int} (h : BkG n m N K R) (hn : n ≤ 8) (h1 : 1 ≤ ns) (h2 : ns ≤ 256) (hm : m ≤ ns) {gs : List Int} (hg : gs.length = ns) (hr : ∀ g ∈ gs,g = -1 ∨ g ∈ R) (hN : N.length ≤ 4096) : MayG n ns N gs := by
 refine ⟨by omega,by omega,h1,h2,hg,hN,fun i P lo hi e => ?_,h.wf.once,fun g hm1 => ?_⟩
 ·obtain ⟨g0,g1,g2,g3,g4⟩ := h.wf.node i P lo hi e
  exact ⟨g0,g1,g2,g3.more hm,g4.more hm⟩
 ·rcases hr g hm1 with rfl | hg1
  ·exact .inl ⟨by omega,by omega⟩
  ·obtain ⟨i,hi⟩ := List.mem_iff_getElem?.1 hg1
   have hi1 := (List.getElem?_eq_some_iff.1 hi).1
   have hi2 : i < K.length := by rw [← h.len]; exact hi1
   exact (h.it i _ g (List.getElem?_eq_getElem hi2) hi).2.1.more hm
def addG (n : Nat) (N : List Gd) (l : List Int) : (Int × Int) × List Gd :=
 if l.length ≠ 2 ^ n ∨ ¬ ∀ v ∈ l,0 ≤ v ∧ v ≤ 1048575 then ((0,2),N)
 else if 4096 < (adM n 0 (fnL (l.map Int.toNat)) N).2.length then ((0,11),N)
 else (((adM n 0 (fnL (l.map Int.toNat)) N).1,0),(adM n 0 (fnL (l.map Int.toNat)) N).2)
def evL : List Nat → List Nat
 | a :: _ :: l => a :: evL l
 | [a] => [a]
 | [] => []
def odL : List Nat → List Nat
 | _ :: b :: l => b :: odL l
 | [_] => []
 | [] => []
theorem q5T : ∀ (l : List Nat) (k : Nat),l.length = 2 * k → (evL l).length = k ∧ (odL l).length = k
 | a :: b :: l,k,h => by
  have h1 := q5T l (k - 1) (by simp at h; omega)
  simp only [List.length_cons] at h
  exact ⟨by simp [evL,h1.1]; omega,by simp [odL,h1.2]; omega⟩
 | [a],k,h => by simp at h; omega
 | [],k,h => by
  have : k = 0 := by simp at h; omega
  subst this; exact ⟨rfl,rfl⟩
theorem ev_at : ∀ (l : List Nat) (i : Nat),fnL (evL l) i = fnL l (2 * i)
 | a :: b :: l,0 => by simp [evL,fnL]
 | a :: b :: l,i + 1 => by
  have := ev_at l i
  simp only [fnL,List.getD_eq_getElem?_getD] at this
  simp [evL,fnL,Nat.mul_add,this]
 | [a],i => by cases i <;> simp [evL,fnL,Nat.mul_add]
 | [],i => by simp [evL,fnL]
theorem od_at : ∀ (l : List Nat) (i : Nat),fnL (odL l) i = fnL l (2 * i + 1)
 | a :: b :: l,0 => by simp [odL,fnL]
 | a :: b :: l,i + 1 => by
  have := od_at l i
  simp only [fnL,List.getD_eq_getElem?_getD] at this
  simp [odL,fnL,Nat.mul_add,this]
 | [a],i => by simp [odL,fnL]
 | [],i => by simp [odL,fnL]
theorem q7B (k : Nat) (p : Int) (l : List Nat) (N : List Gd) {a b : Int} {N1 N2 : List Gd} (h1 : adM k (p + 1) (fnL (evL l)) N = (a,N1)) (h2 : adM k (p + 1) (fnL (odL l)) N1 = (b,N2)) :
  adM (k + 1) p (fnL l) N = if a = b then (a,N2) else ((N2.idxOf (p,a,b) : Int),if (p,a,b) ∈ N2 then N2 else N2 ++ [(p,a,b)]) := by
 have e1 := funext (ev_at l)
 have e2 := funext (od_at l)
 rw [e1] at h1; rw [e2] at h2
 exact qU k p (fnL l) N h1 h2
theorem q1R : ∀ (k : Nat) (p : Int) (f : Nat → Nat) (N : List Gd),N <+: (adM k p f N).2 ∧ (adM k p f N).2.length + 1 ≤ N.length + 2 ^ k
 | 0,p,f,N => by simp [adM]
 | k + 1,p,f,N => by
  have hA := q1R k (p + 1) (fun i => f (2 * i)) N
  rcases e1 : adM k (p + 1) (fun i => f (2 * i)) N with ⟨a,N1⟩
  have hB := q1R k (p + 1) (fun i => f (2 * i + 1)) N1
  rcases e2 : adM k (p + 1) (fun i => f (2 * i + 1)) N1 with ⟨b,N2⟩
  rw [e1] at hA; rw [e2] at hB
  dsimp only at hA hB
  have e3 : 2 ^ (k + 1) = 2 * 2 ^ k := by rw [Nat.pow_succ]; omega
  rw [qU k p f N e1 e2]
  split
  ·exact ⟨hA.1.trans hB.1,by dsimp only; omega⟩
  ·dsimp only
   split
   ·exact ⟨hA.1.trans hB.1,by omega⟩
   ·exact ⟨(hA.1.trans hB.1).trans (List.prefix_append _ _),by simp; omega⟩
def trP (R : List (List Nat)) (s l : Nat) : Nat := (R.getD s []).getD l 0
def runP (R : List (List Nat)) (s : Nat) (t : List Nat) : Nat := t.foldl (trP R) s
theorem qO (R : List (List Nat)) (s l : Nat) (t : List Nat) : runP R s (l :: t) = runP R (trP R s l) t := rfl
theorem qP (R : List (List Nat)) (s l : Nat) (t : List Nat) : runP R s (t ++ [l]) = trP R (runP R s t) l := by simp [runP]
structure RowsP (n K : Nat) (R : List (List Nat)) : Prop where
 len : R.length = n
 row : ∀ s,s < n → (R.getD s []).length = K
 lt : ∀ s l,s < n → l < K → trP R s l < n
theorem RowsP.run {n K : Nat} {R : List (List Nat)} (h : RowsP n K R) : ∀ (t : List Nat) (s : Nat),s < n → (∀ l ∈ t,l < K) → runP R s t < n
 | [],s,hs,_ => hs
 | l :: t,s,hs,ht => by
  rw [qO]
  exact h.run t _ (h.lt s l hs (ht l (by simp))) (fun x hx => ht x (by simp [hx]))
theorem q2m {m : Nat} {props : Int} {N : List Gd} (hp : props ≤ 8) (hN : ∀ (i : Nat) (P lo hi : Int),N[i]? = some (P,lo,hi) → 0 ≤ P ∧ P < props ∧ lo ≠ hi ∧ FitG m N i P lo ∧ FitG m N i P hi) (x : Nat) :
  ∀ (k a : Nat) (p r : Int),FitG m N a p r → 7 - p ≤ k → ∃ v : Nat,v < m ∧ goG N x k r = some (v : Int)
 | k,a,p,r,.inl ⟨h1,h2⟩,_ => ⟨(-1 - r).toNat,by omega,by rw [q1t h1]; congr 1; omega⟩
 | 0,a,p,r,.inr ⟨i,e,hi,nd,hn,hq⟩,hk => by
  obtain ⟨P,lo,hi'⟩ := nd
  have := hN i P lo hi' hn
  dsimp only at hq
  omega
 | k + 1,a,p,r,.inr ⟨i,e,hi,nd,hn,hq⟩,hk => by
  obtain ⟨P,lo,hi'⟩ := nd
  obtain ⟨h0,h1,_,h3,h4⟩ := hN i P lo hi' hn
  dsimp only at hq
  subst e
  rw [q1a hn h0 (by omega)]
  split
  ·exact q2m hp hN x k i P hi' h4 (by omega)
  ·exact q2m hp hN x k i P lo h3 (by omega)
def rowG (N : List Gd) (K : Nat) (r : Int) : List Nat := (List.range K).map fun x => ((goG N x 8 r).getD 0).toNat
def rowsG (N : List Gd) (gs : List Int) (K : Nat) : List (List Nat) := gs.map (rowG N K)
theorem q1w {N : List Gd} {gs : List Int} {K s : Nat} (h : s < gs.length) : (rowsG N gs K).getD s [] = rowG N K (gs.getD s 0) := by
 simp [rowsG,List.getD_eq_getElem?_getD,List.getElem?_eq_getElem h]
theorem q7c {N : List Gd} {K x : Nat} {r : Int} (h : x < K) : (rowG N K r).getD x 0 = ((goG N x 8 r).getD 0).toNat := by
 simp [rowG,List.getD_eq_getElem?_getD,h]
theorem q2x (N : List Gd) (K : Nat) (r : Int) : (rowG N K r).length = K := by simp [rowG]
theorem MayG.go {p : Int} {ns : Nat} {N : List Gd} {gs : List Int} (h : MayG p ns N gs) {s : Nat} (hs : s < ns) (x : Nat) : ∃ v : Nat,v < ns ∧ goG N x 8 (gs.getD s 0) = some (v : Int) := by
 have hl := h.len
 have hm : gs.getD s 0 ∈ gs := by
  rw [List.getD_eq_getElem?_getD,List.getElem?_eq_getElem (by omega),Option.getD_some]
  exact List.getElem_mem _
 exact q2m h.p8 h.node x 8 N.length (-1) _ (h.gd _ hm) (by omega)
theorem MayG.tr {p : Int} {ns : Nat} {N : List Gd} {gs : List Int} (h : MayG p ns N gs) {K s x : Nat} (hs : s < ns) (hx : x < K) : goG N x 8 (gs.getD s 0) = some ((trP (rowsG N gs K) s x : Nat) : Int) := by
 obtain ⟨v,hv,e⟩ := h.go hs x
 have hl := h.len
 rw [trP,q1w (by omega),q7c hx,e]
 simp
theorem MayG.rows {p : Int} {ns : Nat} {N : List Gd} {gs : List Int} (h : MayG p ns N gs) (K : Nat) : RowsP ns K (rowsG N gs K) := by
 have hl := h.len
 refine ⟨by simp [rowsG,hl],fun s hs => by rw [q1w (by omega),q2x],fun s l hs hlk => ?_⟩
 obtain ⟨v,hv,e⟩ := h.go hs l
 rw [trP,q1w (by omega),q7c hlk,e]
 simpa using hv
theorem MayG.tab {p : Int} {ns : Nat} {N : List Gd} {gs : List Int} (h : MayG p ns N gs) {K s : Nat} (hs : s < ns) : tabT N (gs.getD s 0) K = some (((rowsG N gs K).getD s []).map Int.ofNat) := by
 have hl := h.len
 rw [q1w (by omega),q7g (f := fun x => ((trP (rowsG N gs K) s x : Nat) : Int)) K (fun x hx => h.tr hs hx),rowG,List.map_map]
 congr 1
 apply List.map_congr_left
 intro x hx
 have hx' := List.mem_range.1 hx
 have e := h.tr hs hx'
 simp only [Function.comp_apply,e,Option.getD_some,Int.toNat_natCast]
 rfl
def keysP (f : Nat → List Nat) : Nat → List (List Nat)
 | 0 => []
 | k + 1 => if f k ∈ keysP f k then keysP f k else keysP f k ++ [f k]
theorem qN (f : Nat → List Nat) : ∀ (k : Nat) (a : List Nat),a ∈ keysP f k ↔ ∃ s,s < k ∧ f s = a
 | 0,a => by simp [keysP]
 | k + 1,a => by
  have ih := qN f k
  constructor
  ·intro h
   unfold keysP at h
   split at h
   ·obtain ⟨s,hs,e⟩ := (ih a).1 h; exact ⟨s,by omega,e⟩
   ·rcases List.mem_append.1 h with h | h
    ·obtain ⟨s,hs,e⟩ := (ih a).1 h; exact ⟨s,by omega,e⟩
    ·simp at h; exact ⟨k,by omega,h.symm⟩
  ·rintro ⟨s,hs,rfl⟩
   unfold keysP
   by_cases e : s = k
   ·subst e
    split
    ·assumption
    ·simp
   ·have := (ih (f s)).2 ⟨s,by omega,rfl⟩
    split
    ·exact this
    ·simp [this]
theorem q1f (f : Nat → List Nat) : ∀ k,(keysP f k).length ≤ k
 | 0 => by simp [keysP]
 | k + 1 => by
  have := q1f f k
  unfold keysP
  split
  ·omega
  ·simp; omega
theorem q4Y (f : Nat → List Nat) : ∀ {k n : Nat}, k ≤ n → keysP f k <+: keysP f n
  | k, 0, h => by have : k = 0 := by omega
                  subst this; exact List.prefix_rfl
  | k, n + 1, h => by
    by_cases e : k = n + 1
    · subst e; exact List.prefix_rfl
    · have := q4Y f (k := k) (n := n) (by omega)
      refine this.trans ?_
      rw [keysP]
      split
      · exact List.prefix_rfl
      · exact List.prefix_append _ _
theorem q9a {N N' : List (List Nat)} (h : N <+: N') {a : List Nat} (hm : a ∈ N) : N'.idxOf a = N.idxOf a := by
 obtain ⟨t,rfl⟩ := h
 simp [List.idxOf_append,hm]
def ofP (f : Nat → List Nat) (k : Nat) : List Nat := (List.range k).map fun s => (keysP f k).idxOf (f s)
theorem q1v (f : Nat → List Nat) (k : Nat) : (ofP f k).length = k := by simp [ofP]
theorem q43 (f : Nat → List Nat) {k s : Nat} (h : s < k) : (ofP f k).getD s 0 = (keysP f k).idxOf (f s) := by
 simp [ofP,List.getD_eq_getElem?_getD,h]
theorem qaV (f : Nat → List Nat) {k s : Nat} (h : s < k) : (ofP f k).getD s 0 < (keysP f k).length := by
 rw [q43 f h]; exact List.idxOf_lt_length_of_mem ((qN f k _).2 ⟨s,h,rfl⟩)
theorem q7a (f : Nat → List Nat) {k s : Nat} (h : s < k) : (ofP f k).getD s 0 < k := Nat.lt_of_lt_of_le (qaV f h) (q1f f k)
theorem q34 (f : Nat → List Nat) {k s t : Nat} (hs : s < k) (ht : t < k) : (ofP f k).getD s 0 = (ofP f k).getD t 0 ↔ f s = f t := by
 rw [q43 f hs,q43 f ht]
 constructor
 ·intro e
  have h1 := (qN f k _).2 ⟨s,hs,rfl⟩
  have h2 := (qN f k _).2 ⟨t,ht,rfl⟩
  have l2 := List.idxOf_lt_length_of_mem h2
  have e1 : (keysP f k)[(keysP f k).idxOf (f s)] = f s := by simp
  have e2 : (keysP f k)[(keysP f k).idxOf (f t)] = f t := by simp
  rw [← e1,← e2]
  congr 1
 ·intro e; rw [e]
theorem q3Z (f : Nat → List Nat) (g : Nat → List Nat) : ∀ (n : Nat),(∀ s t,s < n → t < n → g s = g t → f s = f t) → (keysP f n).length ≤ (keysP g n).length ∧ ((keysP f n).length = (keysP g n).length → ∀ s t,s < n → t < n → f s = f t → g s = g t)
 | 0,_ => ⟨by simp [keysP],fun _ s t hs => by omega⟩
 | n + 1,h => by
  obtain ⟨h1,h2⟩ := q3Z f g n (fun s t hs ht => h s t (by omega) (by omega))
  by_cases hg : g n ∈ keysP g n
  ·obtain ⟨u,hu,eu⟩ := (qN g n _).1 hg
   have hfu := h u n (by omega) (by omega) eu
   have hf : f n ∈ keysP f n := (qN f n _).2 ⟨u,hu,hfu⟩
   simp only [keysP,if_pos hf,if_pos hg]
   refine ⟨h1,fun e s t hs ht hst => ?_⟩
   have h3 := h2 e
   have key : ∀ t,t < n → f t = f n → g t = g n := fun t ht e1 => (h3 t u ht hu (e1.trans hfu.symm)).trans eu
   by_cases es : s = n
   ·subst es
    by_cases et : t = s
    ·rw [et]
    ·exact (key t (by omega) hst.symm).symm
   ·by_cases et : t = n
    ·subst et; exact key s (by omega) hst
    ·exact h3 s t (by omega) (by omega) hst
  ·by_cases hf : f n ∈ keysP f n
   ·simp only [keysP,if_pos hf,if_neg hg,List.length_append,List.length_cons,List.length_nil]
    exact ⟨by omega,fun e => by omega⟩
   ·simp only [keysP,if_neg hf,if_neg hg,List.length_append,List.length_cons,List.length_nil]
    refine ⟨by omega,fun e s t hs ht hst => ?_⟩
    have h3 := h2 (by omega)
    have key : ∀ t,t < n → f t ≠ f n := fun t ht e1 => hf ((qN f n _).2 ⟨t,ht,e1⟩)
    by_cases es : s = n
    ·subst es
     by_cases et : t = s
     ·rw [et]
     ·exact absurd hst.symm (key t (by omega))
    ·by_cases et : t = n
     ·subst et; exact absurd hst (key s (by omega))
     ·exact h3 s t (by omega) (by omega) hst
def kindP (bs : List Bool) (s : Nat) : List Nat := (if bs.getD s false then 1 else 0) :: List.replicate 256 0
def sigP (R : List (List Nat)) (c : List Nat) (s : Nat) : List Nat := (c.getD s 0 :: (R.getD s []).map fun t => c.getD t 0) ++ List.replicate (256 - (R.getD s []).length) 0
theorem q4Z (bs : List Bool) (s : Nat) : (kindP bs s).length = 257 := by
 rw [kindP,List.length_cons,List.length_replicate]
theorem q5Z {bs : List Bool} {s t : Nat} : kindP bs s = kindP bs t ↔ bs.getD s false = bs.getD t false := by
 constructor
 ·intro h
  have := (List.cons.inj h).1
  cases h1 : bs.getD s false <;> cases h2 : bs.getD t false <;> rw [h1,h2] at this <;> first | rfl | exact absurd this (by decide)
 ·intro h; unfold kindP; rw [h]
theorem q9M {n K : Nat} {R : List (List Nat)} (h : RowsP n K R) (hK : K ≤ 256) (c : List Nat) {s : Nat} (hs : s < n) : (sigP R c s).length = 257 := by
 have := h.row s hs
 rw [sigP,List.length_append,List.length_cons,List.length_map,List.length_replicate,this]
 omega
theorem qag {A B : List Nat} {K : Nat} (f : Nat → Nat) (hA : A.length = K) (hB : B.length = K) : A.map f = B.map f ↔ ∀ l,l < K → f (A.getD l 0) = f (B.getD l 0) := by
 constructor
 ·intro e l hl
  have h1 : l < (A.map f).length := by rw [List.length_map]; omega
  have h2 : l < (B.map f).length := by rw [List.length_map]; omega
  have : (A.map f)[l] = (B.map f)[l] := by simp only [e]
  simpa [List.getD_eq_getElem?_getD,List.getElem?_eq_getElem (show l < A.length by omega),List.getElem?_eq_getElem (show l < B.length by omega)] using this
 ·intro e
  apply List.ext_getElem
  ·rw [List.length_map,List.length_map,hA,hB]
  ·intro l hl hl'
   rw [List.length_map] at hl hl'
   have := e l (by omega)
   simpa [List.getD_eq_getElem?_getD,List.getElem?_eq_getElem hl,List.getElem?_eq_getElem hl'] using this
theorem qaE {n K : Nat} {R : List (List Nat)} (h : RowsP n K R) (c : List Nat) {s t : Nat} (hs : s < n) (ht : t < n) : sigP R c s = sigP R c t ↔ c.getD s 0 = c.getD t 0 ∧ ∀ l,l < K → c.getD (trP R s l) 0 = c.getD (trP R t l) 0 := by
 have h1 := h.row s hs
 have h2 := h.row t ht
 unfold sigP
 rw [h1,h2,List.append_cancel_right_eq,List.cons.injEq,qag (fun t => c.getD t 0) h1 h2]
 exact Iff.rfl
def clsP (R : List (List Nat)) (bs : List Bool) (n : Nat) : Nat → List Nat
 | 0 => ofP (kindP bs) n
 | k + 1 => ofP (sigP R (clsP R bs n k)) n
def manyP (R : List (List Nat)) (bs : List Bool) (n : Nat) : Nat → Nat
 | 0 => (keysP (kindP bs) n).length
 | k + 1 => (keysP (sigP R (clsP R bs n k)) n).length
theorem q5N (R : List (List Nat)) (bs : List Bool) (n k : Nat) : (clsP R bs n k).length = n := by cases k <;> simp [clsP,q1v]
theorem q6M (R : List (List Nat)) (bs : List Bool) (n k : Nat) {s : Nat} (h : s < n) : (clsP R bs n k).getD s 0 < n := by
 cases k
 ·exact q7a _ h
 ·exact q7a _ h
theorem q9f (R : List (List Nat)) (bs : List Bool) (n k : Nat) : manyP R bs n k ≤ n := by
 cases k
 ·exact q1f _ _
 ·exact q1f _ _
variable {n K : Nat} {R : List (List Nat)} {bs : List Bool}
theorem q2j (h : RowsP n K R) (k : Nat) {s t : Nat} (hs : s < n) (ht : t < n) : (clsP R bs n (k + 1)).getD s 0 = (clsP R bs n (k + 1)).getD t 0 ↔ (clsP R bs n k).getD s 0 = (clsP R bs n k).getD t 0 ∧ ∀ l,l < K → (clsP R bs n k).getD (trP R s l) 0 = (clsP R bs n k).getD (trP R t l) 0 := by
 rw [clsP,q34 _ hs ht,qaE h _ hs ht]
theorem q50 (k : Nat) : ∃ f : Nat → List Nat,manyP R bs n k = (keysP f n).length ∧ ∀ s t,s < n → t < n → ((clsP R bs n k).getD s 0 = (clsP R bs n k).getD t 0 ↔ f s = f t) := by
 cases k
 ·exact ⟨_,rfl,fun s t hs ht => q34 _ hs ht⟩
 ·exact ⟨_,rfl,fun s t hs ht => q34 _ hs ht⟩
theorem q3A (h : RowsP n K R) (k : Nat) : manyP R bs n k ≤ manyP R bs n (k + 1) ∧ (manyP R bs n k = manyP R bs n (k + 1) → ∀ s t,s < n → t < n → (clsP R bs n k).getD s 0 = (clsP R bs n k).getD t 0 → (clsP R bs n (k + 1)).getD s 0 = (clsP R bs n (k + 1)).getD t 0) := by
 obtain ⟨f,e1,h1⟩ := q50 (R := R) (bs := bs) (n := n) k
 obtain ⟨g,e2,h2⟩ := q50 (R := R) (bs := bs) (n := n) (k + 1)
 obtain ⟨a,b⟩ := q3Z f g n (fun s t hs ht e => (h1 s t hs ht).1 ((q2j h k hs ht).1 ((h2 s t hs ht).2 e)).1)
 rw [e1,e2]
 exact ⟨a,fun e s t hs ht hst => (h2 s t hs ht).2 (b e s t hs ht ((h1 s t hs ht).1 hst))⟩
theorem q3u (h : RowsP n K R) : ∀ (k : Nat) {s t : Nat},s < n → t < n → (clsP R bs n k).getD s 0 = (clsP R bs n k).getD t 0 → bs.getD s false = bs.getD t false
 | 0,s,t,hs,ht,e => by
  rw [clsP,q34 _ hs ht,q5Z] at e
  exact e
 | k + 1,s,t,hs,ht,e => q3u h k hs ht ((q2j h k hs ht).1 e).1
theorem q32 (h : RowsP n K R) : ∀ (k : Nat) {s t : Nat},s < n → t < n → (clsP R bs n k).getD s 0 ≠ (clsP R bs n k).getD t 0 → ∃ u,(∀ l ∈ u,l < K) ∧ bs.getD (runP R s u) false ≠ bs.getD (runP R t u) false
 | 0,s,t,hs,ht,e => ⟨[],by simp,fun e' => e (by rw [clsP,q34 _ hs ht,q5Z]; exact e')⟩
 | k + 1,s,t,hs,ht,e => by
  by_cases e1 : (clsP R bs n k).getD s 0 = (clsP R bs n k).getD t 0
  ·by_cases e2 : ∀ l,l < K → (clsP R bs n k).getD (trP R s l) 0 = (clsP R bs n k).getD (trP R t l) 0
   ·exact absurd ((q2j h k hs ht).2 ⟨e1,e2⟩) e
   ·simp only [Classical.not_forall] at e2
    obtain ⟨l,hl,e3⟩ := e2
    obtain ⟨u,hu,hne⟩ := q32 h k (h.lt s l hs hl) (h.lt t l ht hl) e3
    refine ⟨l :: u,fun x hx => ?_,hne⟩
    rcases List.mem_cons.1 hx with rfl | hx
    ·exact hl
    ·exact hu x hx
  ·exact q32 h k hs ht e1
def AlikeP (K : Nat) (R : List (List Nat)) (bs : List Bool) (s t : Nat) : Prop := ∀ u : List Nat,(∀ l ∈ u,l < K) → bs.getD (runP R s u) false = bs.getD (runP R t u) false
theorem q5O (h : RowsP n K R) {k : Nat} (hk : manyP R bs n k = manyP R bs n (k + 1)) : ∀ (u : List Nat) {s t : Nat},s < n → t < n → (∀ l ∈ u,l < K) → (clsP R bs n k).getD s 0 = (clsP R bs n k).getD t 0 → (clsP R bs n k).getD (runP R s u) 0 = (clsP R bs n k).getD (runP R t u) 0
 | [],s,t,_,_,_,e => e
 | l :: u,s,t,hs,ht,hu,e => by
  have hl := hu l (by simp)
  have e1 := ((q2j h k hs ht).1 ((q3A h k).2 hk s t hs ht e)).2 l hl
  exact q5O h hk u (h.lt s l hs hl) (h.lt t l ht hl) (fun x hx => hu x (by simp [hx])) e1
theorem q7C (h : RowsP n K R) {k : Nat} (hk : manyP R bs n k = manyP R bs n (k + 1)) {s t : Nat} (hs : s < n) (ht : t < n) : (clsP R bs n k).getD s 0 = (clsP R bs n k).getD t 0 ↔ AlikeP K R bs s t := by
 constructor
 ·intro e u hu
  exact q3u h k (h.run u s hs hu) (h.run u t ht hu) (q5O h hk u hs ht hu e)
 ·intro ha
  refine Classical.byContradiction fun e => ?_
  obtain ⟨u,hu,hne⟩ := q32 h k hs ht e
  exact hne (ha u hu)
theorem q1g {α : Type} : ∀ {l m : List α},l.Nodup → (∀ x ∈ l,x ∈ m) → l.length ≤ m.length
 | [],m,_,_ => Nat.zero_le _
 | a :: l,m,hn,hs => by
  obtain ⟨m1,m2,rfl⟩ := List.append_of_mem (hs a (by simp))
  obtain ⟨ha,hn⟩ := List.nodup_cons.1 hn
  have : l.length ≤ (m1 ++ m2).length := q1g hn fun x hx => by
   have := hs x (by simp [hx])
   simp only [List.mem_append,List.mem_cons] at this ⊢
   rcases this with h | rfl | h
   ·exact .inl h
   ·exact absurd hx ha
   ·exact .inr h
  simp only [List.length_append,List.length_cons] at this ⊢
  omega
theorem qr {n : Nat} {l : List Nat} (h : l.Nodup) (hl : ∀ x ∈ l,x < n) : l.length ≤ n := by
 have := q1g h (m := List.range n) (fun x hx => List.mem_range.2 (hl x hx))
 simpa using this
def putR (Q : List Nat) (s : Nat) : List Nat := if s ∈ Q then Q else Q ++ [s]
def rchP (R : List (List Nat)) : Nat → Nat → List Nat → List Nat
 | 0,_,Q => Q
 | f + 1,i,Q => if i < Q.length then rchP R f (i + 1) ((R.getD (Q.getD i 0) []).foldl putR Q) else Q
theorem q7L {Q : List Nat} (h : Q.Nodup) (s : Nat) : (putR Q s).Nodup := by
 unfold putR
 split
 ·exact h
 ·rename_i hs
  rw [List.nodup_append]
  exact ⟨h,by simp,fun a ha b hb => by simp at hb; subst hb; exact fun e => hs (e ▸ ha)⟩
theorem q9w (Q : List Nat) (s : Nat) : Q <+: putR Q s := by
 unfold putR
 split
 ·exact List.prefix_rfl
 ·exact List.prefix_append _ _
theorem q1b (R : List (List Nat)) (f : Nat) {i : Nat} {Q : List Nat} (h : Q.length ≤ i) : rchP R f i Q = Q := by
 cases f with
 | zero => rfl
 | succ f => rw [rchP,if_neg (by omega)]
theorem qY (R : List (List Nat)) (f : Nat) {i : Nat} {Q : List Nat} (h : i < Q.length) : rchP R (f + 1) i Q = rchP R f (i + 1) ((R.getD (Q.getD i 0) []).foldl putR Q) := by rw [rchP,if_pos h]
theorem q1D (row Q : List Nat) {k : Nat} (h : k < row.length) : (row.take (k + 1)).foldl putR Q = putR ((row.take k).foldl putR Q) (row.getD k 0) := by
 rw [List.take_add_one,List.getElem?_eq_getElem h,Option.toList_some,List.foldl_append,List.getD_eq_getElem?_getD,List.getElem?_eq_getElem h]
 rfl
theorem qV : ∀ (row Q : List Nat),Q <+: row.foldl putR Q
 | [],_ => List.prefix_rfl
 | s :: row,Q => (q9w Q s).trans (qV row _)
abbrev PrP := Nat × Nat × Nat × Nat
def pqP (Q : List PrP) : List (Nat × Nat) := Q.map fun x => (x.1,x.2.1)
theorem q2p (Q : List PrP) (x : PrP) : pqP (Q ++ [x]) = pqP Q ++ [(x.1,x.2.1)] := by simp [pqP]
variable {n K : Nat} {R : List (List Nat)} {bs : List Bool} {p q i k : Nat} {Q : List PrP}
def upP (Q : List PrP) : List Nat → Nat → Prop
 | [],i => i = 0
 | b :: ts,i => 0 < i ∧ ∃ x,Q[i]? = some x ∧ x.2.2.2 = b ∧ upP Q ts x.2.2.1
theorem q9Q {Q : List PrP} {ts : List Nat} (h : upP Q ts 0) : ts = [] := by
 cases ts with
 | nil => rfl
 | cons b ts => exact absurd h.1 (by omega)
theorem q9v {Q : List Nat} {s x : Nat} : x ∈ putR Q s ↔ x ∈ Q ∨ x = s := by
 unfold putR
 split
 ·rename_i h
  constructor
  ·exact .inl
  ·rintro (h' | rfl)
   ·exact h'
   ·exact h
 ·simp
theorem q2b : ∀ (row Q : List Nat) (x : Nat),x ∈ row.foldl putR Q ↔ x ∈ Q ∨ x ∈ row
 | [],Q,x => by simp
 | s :: row,Q,x => by
  rw [List.foldl_cons,q2b row,q9v]
  simp only [List.mem_cons]
  constructor
  ·rintro ((h | h) | h)
   ·exact .inl h
   ·exact .inr (.inl h)
   ·exact .inr (.inr h)
  ·rintro (h | h | h)
   ·exact .inl (.inl h)
   ·exact .inl (.inr h)
   ·exact .inr h
theorem q3n : ∀ (row Q : List Nat),Q.Nodup → (row.foldl putR Q).Nodup
 | [],_,h => h
 | s :: row,_,h => q3n row _ (q7L h s)
theorem q1Y (R : List (List Nat)) : ∀ (f i : Nat) (Q : List Nat),Q <+: rchP R f i Q
 | 0,_,_ => List.prefix_rfl
 | f + 1,i,Q => by
  rw [rchP]
  split
  ·exact (qV _ _).trans (q1Y R f _ _)
  ·exact List.prefix_rfl
theorem qd {α : Type} {Q : List α} {j : Nat} (h : j < Q.length) (d : α) : Q.getD j d = Q[j] := by
 rw [List.getD_eq_getElem?_getD,List.getElem?_eq_getElem h]; rfl
variable {n K : Nat} {R : List (List Nat)} {bs : List Bool}
theorem q20 (h : RowsP n K R) {q x : Nat} (hq : q < n) : x ∈ R.getD q [] ↔ ∃ l,l < K ∧ x = trP R q l := by
 have hl := h.row q hq
 constructor
 ·intro hx
  obtain ⟨l,hl',e⟩ := List.getElem_of_mem hx
  refine ⟨l,by omega,?_⟩
  rw [trP,qd hl',e]
 ·rintro ⟨l,hlk,rfl⟩
  have hl2 : l < (R.getD q []).length := by omega
  rw [trP,qd hl2]
  exact List.getElem_mem _
structure WayP (n K : Nat) (R : List (List Nat)) (i : Nat) (Q : List Nat) : Prop where
 nd : Q.Nodup
 lt : ∀ x ∈ Q,x < n
 cl : ∀ j,j < i → j < Q.length → ∀ l,l < K → trP R (Q.getD j 0) l ∈ Q
theorem WayP.len {i : Nat} {Q : List Nat} (h : WayP n K R i Q) : Q.length ≤ n := qr h.nd h.lt
theorem q4W {Q Q' : List Nat} (h : Q <+: Q') {j : Nat} (hj : j < Q.length) : Q'.getD j 0 = Q.getD j 0 := by
 obtain ⟨t,rfl⟩ := h
 rw [List.getD_eq_getElem?_getD,List.getD_eq_getElem?_getD,List.getElem?_append_left hj]
theorem q1e {Q : List Nat} {j : Nat} (hj : j < Q.length) : Q.getD j 0 ∈ Q := by
 rw [List.getD_eq_getElem?_getD,List.getElem?_eq_getElem hj]; exact List.getElem_mem _
theorem q4w {Q : List Nat} {x : Nat} (h : x ∈ Q) : ∃ j,j < Q.length ∧ Q.getD j 0 = x := by
 obtain ⟨j,hj,e⟩ := List.getElem_of_mem h
 exact ⟨j,hj,by rw [List.getD_eq_getElem?_getD,List.getElem?_eq_getElem hj,e]; rfl⟩
theorem WayP.next (hR : RowsP n K R) {i : Nat} {Q : List Nat} (h : WayP n K R i Q) (hi : i < Q.length) : WayP n K R (i + 1) ((R.getD (Q.getD i 0) []).foldl putR Q) := by
 have hq := h.lt _ (q1e hi)
 have hp := qV (R.getD (Q.getD i 0) []) Q
 refine ⟨q3n _ _ h.nd,fun x hx => ?_,fun j hj hjl l hl => ?_⟩
 ·rcases (q2b _ _ _).1 hx with hx | hx
  ·exact h.lt x hx
  ·obtain ⟨l,hl,rfl⟩ := (q20 hR hq).1 hx
   exact hR.lt _ _ hq hl
 ·rw [q4W hp (by omega)]
  by_cases e : j = i
  ·subst e
   exact (q2b _ _ _).2 (.inr ((q20 hR hq).2 ⟨l,hl,rfl⟩))
  ·exact (q2b _ _ _).2 (.inl (h.cl j (by omega) (by omega) l hl))
theorem WayP.fin (hR : RowsP n K R) : ∀ (f i : Nat) (Q : List Nat),WayP n K R i Q → n ≤ f + i → ∃ i',WayP n K R i' (rchP R f i Q) ∧ (rchP R f i Q).length ≤ i'
 | 0,i,Q,h,hf => ⟨i,h,by have := h.len; rw [rchP]; omega⟩
 | f + 1,i,Q,h,hf => by
  by_cases hi : i < Q.length
  ·rw [qY R f hi]
   exact WayP.fin hR f (i + 1) _ (h.next hR hi) (by omega)
  ·rw [q1b R _ (by omega)]
   exact ⟨i,h,by omega⟩
structure MetP (n K : Nat) (R : List (List Nat)) (Q : List Nat) : Prop where
 nd : Q.Nodup
 lt : ∀ x ∈ Q,x < n
 cl : ∀ x ∈ Q,∀ l,l < K → trP R x l ∈ Q
 hd : Q.head? = some 0
theorem q47 (h1 : 1 ≤ n) : WayP n K R 0 [0] := ⟨by simp,fun x hx => by simp at hx; omega,fun j hj => by omega⟩
theorem q3b (hR : RowsP n K R) (h1 : 1 ≤ n) : MetP n K R (rchP R n 0 [0]) := by
 obtain ⟨i,h,hi⟩ := WayP.fin hR n 0 [0] (q47 h1) (by omega)
 refine ⟨h.nd,h.lt,fun x hx l hl => ?_,?_⟩
 ·obtain ⟨j,hj,rfl⟩ := q4w hx
  exact h.cl j (by omega) hj l hl
 ·obtain ⟨t,e⟩ := q1Y R n 0 [0]
  rw [← e]; rfl
theorem MetP.zero {Q : List Nat} (h : MetP n K R Q) : 0 ∈ Q := List.mem_of_head? h.hd
theorem MetP.run {Q : List Nat} (h : MetP n K R Q) : ∀ (t : List Nat) (s : Nat),s ∈ Q → (∀ l ∈ t,l < K) → runP R s t ∈ Q
 | [],s,hs,_ => hs
 | l :: t,s,hs,ht => by
  rw [qO]
  exact h.run t _ (h.cl s hs l (ht l (by simp))) (fun x hx => ht x (by simp [hx]))
def putF (c : Nat → Nat) (F : List Nat) (q : Nat) : List Nat := if c q ∈ F.map c then F else F ++ [q]
def ddP (c : Nat → Nat) (Q : List Nat) : List Nat := Q.foldl (putF c) []
theorem q9t (c : Nat → Nat) (F : List Nat) (q : Nat) : ∀ x,x ∈ (putF c F q).map c ↔ x ∈ F.map c ∨ x = c q := by
 intro x
 unfold putF
 split
 ·rename_i h
  constructor
  ·exact .inl
  ·rintro (h' | rfl)
   ·exact h'
   ·exact h
 ·simp only [List.map_append,List.mem_append,List.map_cons,List.map_nil,List.mem_singleton]
theorem q9u (c : Nat → Nat) (F : List Nat) (q : Nat) : F <+: putF c F q := by
 unfold putF
 split
 ·exact List.prefix_rfl
 ·exact List.prefix_append _ _
theorem q1B (c : Nat → Nat) : ∀ (Q F : List Nat),F <+: Q.foldl (putF c) F
 | [],_ => List.prefix_rfl
 | q :: Q,F => (q9u c F q).trans (q1B c Q _)
theorem q4R (c : Nat → Nat) : ∀ (Q F : List Nat) (x : Nat),x ∈ (Q.foldl (putF c) F).map c ↔ x ∈ F.map c ∨ x ∈ Q.map c
 | [],F,x => by simp
 | q :: Q,F,x => by
  rw [List.foldl_cons,q4R c Q,q9t,List.map_cons,List.mem_cons]
  constructor
  ·rintro ((h | h) | h)
   ·exact .inl h
   ·exact .inr (.inl h)
   ·exact .inr (.inr h)
  ·rintro (h | h | h)
   ·exact .inl (.inl h)
   ·exact .inl (.inr h)
   ·exact .inr h
theorem q3m (c : Nat → Nat) : ∀ (Q F : List Nat),(F.map c).Nodup → ((Q.foldl (putF c) F).map c).Nodup
 | [],_,h => h
 | q :: Q,F,h => by
  refine q3m c Q _ ?_
  unfold putF
  split
  ·exact h
  ·rename_i hq
   rw [List.map_append,List.nodup_append]
   exact ⟨h,by simp,fun a ha b hb => by simp only [List.map_cons,List.map_nil,List.mem_singleton] at hb; subst hb; exact fun e => hq (e ▸ ha)⟩
theorem q4U (c : Nat → Nat) : ∀ (Q F : List Nat) (x : Nat),x ∈ Q.foldl (putF c) F → x ∈ F ∨ x ∈ Q
 | [],F,x,h => .inl h
 | q :: Q,F,x,h => by
  rcases q4U c Q _ x h with h | h
  ·unfold putF at h
   split at h
   ·exact .inl h
   ·rcases List.mem_append.1 h with h | h
    ·exact .inl h
    ·simp at h; subst h; exact .inr (by simp)
  ·exact .inr (by simp [h])
theorem q2l (c : Nat → Nat) (Q : List Nat) (x : Nat) : x ∈ (ddP c Q).map c ↔ x ∈ Q.map c := by
 rw [ddP,q4R]; simp
theorem q2a (c : Nat → Nat) (Q : List Nat) : ((ddP c Q).map c).Nodup := q3m c Q [] (by simp)
theorem q6Q {c : Nat → Nat} {Q : List Nat} {x : Nat} (h : x ∈ ddP c Q) : x ∈ Q := by
 rcases q4U c Q [] x h with h | h
 ·simp at h
 ·exact h
theorem q2k (c : Nat → Nat) (Q T : List Nat) : ddP c (Q ++ T) = T.foldl (putF c) (ddP c Q) := by rw [ddP,List.foldl_append]; rfl
theorem q6O {c : Nat → Nat} {Q Q' : List Nat} (h : Q <+: Q') : ddP c Q <+: ddP c Q' := by
 obtain ⟨t,rfl⟩ := h
 rw [q2k]; exact q1B c t _
def nmP (c : Nat → Nat) (F : List Nat) (q : Nat) : Nat := (F.map c).idxOf (c q)
theorem q33 {c : Nat → Nat} {F : List Nat} {q : Nat} (h : c q ∈ F.map c) : nmP c F q < F.length := by
 have := List.idxOf_lt_length_of_mem h
 simpa [nmP] using this
theorem q8d {c : Nat → Nat} {F : List Nat} {q : Nat} (h : c q ∈ F.map c) : c (F.getD (nmP c F q) 0) = c q := by
 have hl := q33 h
 have h2 := List.idxOf_lt_length_of_mem h
 have e : (F.map c)[(F.map c).idxOf (c q)] = c q := by simp
 rw [List.getElem_map] at e
 rw [List.getD_eq_getElem?_getD,List.getElem?_eq_getElem hl]
 exact e
theorem q64 {c : Nat → Nat} {F : List Nat} (hn : (F.map c).Nodup) {i : Nat} (hi : i < F.length) {q : Nat} (e : c q = c (F.getD i 0)) : nmP c F q = i := by
 have hi' : i < (F.map c).length := by simpa using hi
 have e2 : c q = (F.map c)[i] := by rw [List.getElem_map,e,List.getD_eq_getElem?_getD,List.getElem?_eq_getElem hi]; rfl
 rw [nmP,e2]
 exact hn.idxOf_getElem i hi'
theorem q77 {c : Nat → Nat} {F F' : List Nat} (h : F <+: F') {q : Nat} (hm : c q ∈ F.map c) : nmP c F' q = nmP c F q := by
 obtain ⟨t,rfl⟩ := h
 rw [nmP,nmP,List.map_append,List.idxOf_append,if_pos hm]
def rowC (c : Nat → Nat) (F : List Nat) (R : List (List Nat)) : List (List Nat) := F.map fun q => (R.getD q []).map (nmP c F)
def accC (F : List Nat) (bs : List Bool) : List Bool := F.map fun q => bs.getD q false
structure ClsC (n K : Nat) (R : List (List Nat)) (bs : List Bool) (c : Nat → Nat) : Prop where
 acc : ∀ s t,s < n → t < n → c s = c t → bs.getD s false = bs.getD t false
 go : ∀ s t,s < n → t < n → c s = c t → ∀ l,l < K → c (trP R s l) = c (trP R t l)
 far : ∀ s t,s < n → t < n → AlikeP K R bs s t → c s = c t
theorem qa2 (hR : RowsP n K R) {k : Nat} (hk : manyP R bs n k = manyP R bs n (k + 1)) : ClsC n K R bs fun s => (clsP R bs n k).getD s 0 :=
 ⟨fun _ _ hs ht e => q3u hR k hs ht e,fun s t hs ht e l hl => ((q2j hR k hs ht).1 ((q3A hR k).2 hk s t hs ht e)).2 l hl,fun _ _ hs ht h => (q7C hR hk hs ht).2 h⟩
theorem q9Y {F : List Nat} {i : Nat} (h : i < F.length) : (accC F bs).getD i false = bs.getD (F.getD i 0) false := by
 simp [accC,List.getD_eq_getElem?_getD,List.getElem?_eq_getElem h]
theorem q2r {c : Nat → Nat} {F : List Nat} {i : Nat} (h : i < F.length) : (rowC c F R).getD i [] = (R.getD (F.getD i 0) []).map (nmP c F) := by
 simp [rowC,List.getD_eq_getElem?_getD,List.getElem?_eq_getElem h]
structure MinP (n K : Nat) (R : List (List Nat)) (bs : List Bool) (c : Nat → Nat) (Q F : List Nat) : Prop where
 hR : RowsP n K R
 hC : ClsC n K R bs c
 hQ : MetP n K R Q
 hF : F = ddP c Q
variable {c : Nat → Nat} {Q F : List Nat}
theorem MinP.mem (h : MinP n K R bs c Q F) {q : Nat} (hq : q ∈ Q) : c q ∈ F.map c := by
 rw [h.hF,q2l]; exact List.mem_map_of_mem hq
theorem MinP.nd (h : MinP n K R bs c Q F) : (F.map c).Nodup := by rw [h.hF]; exact q2a c Q
theorem MinP.inQ (h : MinP n K R bs c Q F) {i : Nat} (hi : i < F.length) : F.getD i 0 ∈ Q := q6Q (c := c) (by rw [← h.hF]; exact q1e hi)
theorem MinP.ltn (h : MinP n K R bs c Q F) {i : Nat} (hi : i < F.length) : F.getD i 0 < n := h.hQ.lt _ (h.inQ hi)
theorem MinP.tr (h : MinP n K R bs c Q F) {i l : Nat} (hi : i < F.length) (hl : l < K) : trP (rowC c F R) i l = nmP c F (trP R (F.getD i 0) l) := by
 have hr := h.hR.row _ (h.ltn hi)
 have hl2 : l < (R.getD (F.getD i 0) []).length := by omega
 rw [trP,q2r hi,trP]
 generalize R.getD (F.getD i 0) [] = row at *
 rw [qd (by rw [List.length_map]; exact hl2),qd hl2,List.getElem_map]
theorem MinP.rows (h : MinP n K R bs c Q F) : RowsP F.length K (rowC c F R) := by
 refine ⟨by simp [rowC],fun s hs => by rw [q2r hs,List.length_map]; exact h.hR.row _ (h.ltn hs),fun s l hs hl => ?_⟩
 rw [h.tr hs hl]
 exact q33 (h.mem (h.hQ.cl _ (h.inQ hs) l hl))
theorem MinP.num (h : MinP n K R bs c Q F) {q : Nat} (hq : q ∈ Q) {l : Nat} (hl : l < K) : trP (rowC c F R) (nmP c F q) l = nmP c F (trP R q l) := by
 have hm := h.mem hq
 have hi := q33 hm
 rw [h.tr hi hl]
 exact congrArg ((F.map c).idxOf) (h.hC.go _ q (h.ltn hi) (h.hQ.lt q hq) (q8d hm) l hl)
theorem MinP.run (h : MinP n K R bs c Q F) : ∀ (t : List Nat) (q : Nat),q ∈ Q → (∀ l ∈ t,l < K) → runP (rowC c F R) (nmP c F q) t = nmP c F (runP R q t)
 | [],_,_,_ => rfl
 | l :: t,q,hq,ht => by
  have hl := ht l (by simp)
  rw [qO,qO,h.num hq hl]
  exact h.run t _ (h.hQ.cl q hq l hl) (fun x hx => ht x (by simp [hx]))
theorem MinP.acc (h : MinP n K R bs c Q F) {q : Nat} (hq : q ∈ Q) : (accC F bs).getD (nmP c F q) false = bs.getD q false := by
 have hm := h.mem hq
 have hi := q33 hm
 rw [q9Y hi]
 exact h.hC.acc _ q (h.ltn hi) (h.hQ.lt q hq) (q8d hm)
theorem MinP.zero (h : MinP n K R bs c Q F) : F.head? = some 0 := by
 rw [h.hF]
 have := h.hQ.hd
 cases Q with
 | nil => simp at this
 | cons a Q =>
  simp at this; subst this
  obtain ⟨t,e⟩ := q1B c Q [0]
  have : ddP c (0 :: Q) = Q.foldl (putF c) [0] := by simp [ddP,putF]
  rw [this,← e]; rfl
theorem MinP.pos (h : MinP n K R bs c Q F) : 0 < F.length := by
 have := h.zero
 cases F with
 | nil => simp at this
 | cons a t => simp
theorem MinP.nm0 (h : MinP n K R bs c Q F) : nmP c F 0 = 0 := by
 refine q64 h.nd h.pos ?_
 have := h.zero
 cases F with
 | nil => simp at this
 | cons a t => simp at this; subst this; rfl
theorem MinP.same (h : MinP n K R bs c Q F) {t : List Nat} (ht : ∀ l ∈ t,l < K) : (accC F bs).getD (runP (rowC c F R) 0 t) false = bs.getD (runP R 0 t) false := by
 have := h.run t 0 h.hQ.zero ht
 rw [h.nm0] at this
 rw [this]
 exact h.acc (h.hQ.run t 0 h.hQ.zero ht)
theorem MinP.nm (h : MinP n K R bs c Q F) {i : Nat} (hi : i < F.length) : nmP c F (F.getD i 0) = i := q64 h.nd hi rfl
theorem MinP.unlike (h : MinP n K R bs c Q F) {i j : Nat} (hi : i < F.length) (hj : j < F.length) (ha : AlikeP K (rowC c F R) (accC F bs) i j) : i = j := by
 have e : c (F.getD i 0) = c (F.getD j 0) := h.hC.far _ _ (h.ltn hi) (h.ltn hj) fun u hu => by
  have := ha u hu
  rw [← h.nm hi,← h.nm hj,h.run u _ (h.inQ hi) hu,h.run u _ (h.inQ hj) hu,h.acc (h.hQ.run u _ (h.inQ hi) hu),h.acc (h.hQ.run u _ (h.inQ hj) hu)] at this
  exact this
 rw [← h.nm hi,← h.nm hj]
 exact congrArg ((F.map c).idxOf) e
theorem MinP.len (h : MinP n K R bs c Q F) : F.length ≤ n := by
 have h1 : F.Nodup := by
  have := h.nd
  rw [List.Nodup,List.pairwise_map] at this
  exact this.imp fun hab e => hab (by rw [e])
 exact qr h1 (fun x hx => by obtain ⟨j,hj,rfl⟩ := q4w hx; exact h.ltn hj)
end Go.Proofs.Ytcnkgokfjafgkaa
