/- Texts of the proof, put together: what it uses. -/
import Derived.Test.YtailhklbmenaoaaGreatDoorZ04
set_option maxRecDepth 100000
set_option maxHeartbeats 16000000
namespace Go.Proofs.YtailhklbmenaoaaGreatDoor
def tabT (N : List Gd) (r : Int) : Nat → Option (List Int)
 | 0 => some []
 | k + 1 => (tabT N r k).bind fun l => (goG N k 8 r).map fun v => l ++ [v]
theorem qcz {N : List Gd} {r : Int} {f : Nat → Int} : ∀ (k : Nat),(∀ x,x < k → goG N x 8 r = some (f x)) → tabT N r k = some ((List.range k).map f)
 | 0,_ => rfl
 | k + 1,h => by
  have h1 := qcz k (fun x hx => h x (by omega))
  simp only [tabT,h1,h k (by omega),List.range_succ]
  simp
theorem q9h {N : List Gd} {r : Int} {i : Nat} (h : goG N i 8 r = none) : ∀ (k : Nat),i < k → tabT N r k = none
 | 0,hi => by omega
 | k + 1,hi => by
  by_cases e : i = k
  ·subst e; simp only [tabT,h]; cases tabT N r i <;> rfl
  ·have h1 := q9h h k (by omega)
   simp only [tabT,h1]; rfl
def fnL (l : List Nat) : Nat → Nat := fun i => l.getD i 0
theorem qft (l : List Nat) {n : Nat} (h : l.length = n) : (List.range n).map (fun x => ((fnL l x : Nat) : Int)) = l.map Int.ofNat := by
 subst h
 apply List.ext_getElem (by simp)
 intro i h1 h2
 simp [fnL] at h1 h2 ⊢
 simp [h1]
theorem qaX {l : List Nat} {m : Nat} (h : ∀ v ∈ l,v < m) {i : Nat} (hi : i < l.length) : fnL l i < m := by
 simp only [fnL,List.getD_eq_getElem?_getD,List.getElem?_eq_getElem hi,Option.getD_some]
 exact h _ (List.getElem_mem hi)
structure BkG (n m : Nat) (N : List Gd) (K : List (List Nat)) (R : List Int) : Prop where
 wf : WfG n m N
 len : R.length = K.length
 it : ∀ (i : Nat) (l : List Nat) (r : Int),K[i]? = some l → R[i]? = some r → l.length = 2 ^ n ∧ FitG m N N.length (-1) r ∧ (∀ (N2 : List Gd) (x : Nat),N <+: N2 → x < 2 ^ n → goG N2 x 8 r = some ((fnL l x : Nat) : Int)) ∧ ∀ N2 : List Gd,N <+: N2 → adM n 0 (fnL l) N2 = (r,N2)
 few : N.length ≤ K.length * 2 ^ n
theorem BkG.nil (n m : Nat) : BkG n m [] [] [] := ⟨WfG.nil n m,rfl,fun i l r h => by simp at h,by simp⟩
theorem BkG.add {n m : Nat} {N : List Gd} {K : List (List Nat)} {R : List Int} (h : BkG n m N K R) (hn : n ≤ 8) {l : List Nat} (hl : l.length = 2 ^ n) (hm : ∀ v ∈ l,v < m) {r : Int} {N' : List Gd} (e : adM n 0 (fnL l) N = (r,N')) : BkG n m N' (K ++ [l]) (R ++ [r]) := by
 have a := ad_ok hn n 0 (fnL l) N (by omega) (by omega) (fun i hi => qaX hm (by omega)) h.wf
 rw [e] at a
 dsimp only at a
 refine ⟨a.wf,by simp [h.len],fun i k s hk hs => ?_,?_⟩
 ·by_cases hi : i < K.length
  ·rw [List.getElem?_append_left hi] at hk
   rw [List.getElem?_append_left (by rw [h.len]; exact hi)] at hs
   obtain ⟨h1,h2,h3,h4⟩ := h.it i k s hk hs
   exact ⟨h1,h2.mono a.pre a.pre.length_le (Int.le_refl _),fun N2 x hN hx => h3 N2 x (a.pre.trans hN) hx,fun N2 hN => h4 N2 (a.pre.trans hN)⟩
  ·have hz : i = K.length := by
    have := (List.getElem?_eq_some_iff.1 hk).1
    simp at this; omega
   subst hz
   rw [List.getElem?_append_right (Nat.le_refl _)] at hk
   rw [List.getElem?_append_right (by rw [h.len]; exact Nat.le_refl _)] at hs
   simp [h.len] at hk hs
   subst hk; subst hs
   refine ⟨hl,a.fit.mono List.prefix_rfl (Nat.le_refl _) (by omega),fun N2 x hN hx => ?_,a.again⟩
   have := a.goes N2 x 8 hN (by omega)
   simpa [Nat.mod_eq_of_lt hx] using this
 ·have h1 := a.len
  have h2 := h.few
  simp only [List.length_append,List.length_cons,List.length_nil,Nat.add_mul]
  omega
theorem BkG.tab {n m : Nat} {N : List Gd} {K : List (List Nat)} {R : List Int} (h : BkG n m N K R) {i : Nat} {l : List Nat} {r : Int} (hl : K[i]? = some l) (hr : R[i]? = some r) : tabT N r (2 ^ n) = some (l.map Int.ofNat) := by
 obtain ⟨a1,_,a3,_⟩ := h.it i l r hl hr
 rw [qcz (2 ^ n) (fun x hx => a3 N x List.prefix_rfl hx),qft l a1]
structure MayG (props : Int) (ns : Nat) (N : List Gd) (gs : List Int) : Prop where
 p0 : 0 ≤ props
 p8 : props ≤ 8
 s1 : 1 ≤ ns
 s2 : ns ≤ 256
 len : gs.length = ns
 few : N.length ≤ 4096
 node : ∀ (i : Nat) (P lo hi : Int),N[i]? = some (P,lo,hi) → 0 ≤ P ∧ P < props ∧ lo ≠ hi ∧ FitG ns N i P lo ∧ FitG ns N i P hi
 once : N.Nodup
 gd : ∀ g ∈ gs,FitG ns N N.length (-1) g
theorem FitG.more {m m' : Nat} {N : List Gd} {a : Nat} {p r : Int} (h : FitG m N a p r) (hm : m ≤ m') : FitG m' N a p r := by
 rcases h with ⟨h1,h2⟩ | h
 ·exact .inl ⟨h1,by omega⟩
 ·exact .inr h
theorem BkG.may {n m ns : Nat} {N : List Gd} {K : List (List Nat)} {R : List Int} (h : BkG n m N K R) (hn : n ≤ 8) (h1 : 1 ≤ ns) (h2 : ns ≤ 256) (hm : m ≤ ns) {gs : List Int} (hg : gs.length = ns) (hr : ∀ g ∈ gs,g = -1 ∨ g ∈ R) (hN : N.length ≤ 4096) : MayG n ns N gs := by
 refine ⟨by omega,by omega,h1,h2,hg,hN,fun i P lo hi e => ?_,h.wf.once,fun g hm1 => ?_⟩
 ·obtain ⟨g0,g1,g2,g3,g4⟩ := h.wf.node i P lo hi e
  exact ⟨g0,g1,g2,g3.more hm,g4.more hm⟩
 ·rcases hr g hm1 with rfl | hg1
  ·exact .inl ⟨by omega,by omega⟩
  ·obtain ⟨i,hi⟩ := List.mem_iff_getElem?.1 hg1
   have hi1 := (List.getElem?_eq_some_iff.1 hi).1
   have hi2 : i < K.length := by rw [← h.len]; exact hi1
   exact (h.it i _ g (List.getElem?_eq_getElem hi2) hi).2.1.more hm
def addG (n : Nat) (N : List Gd) (l : List Int) : (Int × Int) × List Gd :=
 if l.length ≠ 2 ^ n ∨ ¬ ∀ v ∈ l,0 ≤ v ∧ v ≤ 1048575 then ((0,2),N)
 else if 4096 < (adM n 0 (fnL (l.map Int.toNat)) N).2.length then ((0,11),N)
 else (((adM n 0 (fnL (l.map Int.toNat)) N).1,0),(adM n 0 (fnL (l.map Int.toNat)) N).2)
def evL : List Nat → List Nat
 | a :: _ :: l => a :: evL l
 | [a] => [a]
 | [] => []
def odL : List Nat → List Nat
 | _ :: b :: l => b :: odL l
 | [_] => []
 | [] => []
theorem qaU : ∀ (l : List Nat) (k : Nat),l.length = 2 * k → (evL l).length = k ∧ (odL l).length = k
 | a :: b :: l,k,h => by
  have h1 := qaU l (k - 1) (by simp at h; omega)
  simp only [List.length_cons] at h
  exact ⟨by simp [evL,h1.1]; omega,by simp [odL,h1.2]; omega⟩
 | [a],k,h => by simp at h; omega
 | [],k,h => by
  have : k = 0 := by simp at h; omega
  subst this; exact ⟨rfl,rfl⟩
theorem ev_at : ∀ (l : List Nat) (i : Nat),fnL (evL l) i = fnL l (2 * i)
 | a :: b :: l,0 => by simp [evL,fnL]
 | a :: b :: l,i + 1 => by
  have := ev_at l i
  simp only [fnL,List.getD_eq_getElem?_getD] at this
  simp [evL,fnL,Nat.mul_add,this]
 | [a],i => by cases i <;> simp [evL,fnL,Nat.mul_add]
 | [],i => by simp [evL,fnL]
theorem od_at : ∀ (l : List Nat) (i : Nat),fnL (odL l) i = fnL l (2 * i + 1)
 | a :: b :: l,0 => by simp [odL,fnL]
 | a :: b :: l,i + 1 => by
  have := od_at l i
  simp only [fnL,List.getD_eq_getElem?_getD] at this
  simp [odL,fnL,Nat.mul_add,this]
 | [a],i => by simp [odL,fnL]
 | [],i => by simp [odL,fnL]
theorem qcM (k : Nat) (p : Int) (l : List Nat) (N : List Gd) {a b : Int} {N1 N2 : List Gd} (h1 : adM k (p + 1) (fnL (evL l)) N = (a,N1)) (h2 : adM k (p + 1) (fnL (odL l)) N1 = (b,N2)) :
  adM (k + 1) p (fnL l) N = if a = b then (a,N2) else ((N2.idxOf (p,a,b) : Int),if (p,a,b) ∈ N2 then N2 else N2 ++ [(p,a,b)]) := by
 have e1 : fnL (evL l) = fun i => fnL l (2 * i) := funext (ev_at l)
 have e2 : fnL (odL l) = fun i => fnL l (2 * i + 1) := funext (od_at l)
 rw [e1] at h1; rw [e2] at h2
 exact q2H k p (fnL l) N h1 h2
theorem q3m : ∀ (k : Nat) (p : Int) (f : Nat → Nat) (N : List Gd),N <+: (adM k p f N).2 ∧ (adM k p f N).2.length + 1 ≤ N.length + 2 ^ k
 | 0,p,f,N => by simp [adM]
 | k + 1,p,f,N => by
  have hA := q3m k (p + 1) (fun i => f (2 * i)) N
  rcases e1 : adM k (p + 1) (fun i => f (2 * i)) N with ⟨a,N1⟩
  have hB := q3m k (p + 1) (fun i => f (2 * i + 1)) N1
  rcases e2 : adM k (p + 1) (fun i => f (2 * i + 1)) N1 with ⟨b,N2⟩
  rw [e1] at hA; rw [e2] at hB
  dsimp only at hA hB
  have e3 : 2 ^ (k + 1) = 2 * 2 ^ k := by rw [Nat.pow_succ]; omega
  rw [q2H k p f N e1 e2]
  split
  ·exact ⟨hA.1.trans hB.1,by dsimp only; omega⟩
  ·dsimp only
   split
   ·exact ⟨hA.1.trans hB.1,by omega⟩
   ·exact ⟨(hA.1.trans hB.1).trans (List.prefix_append _ _),by simp; omega⟩
def putD (L : List Nat) (S : List (List Nat)) : Option (Nat × List (List Nat)) := if L ∈ S then some (S.idxOf L,S) else if 256 ≤ S.length then none else some (S.length,S ++ [L])
def rowD (l : List Nat) : List Nat → List Nat → List (List Nat) → Mt → Except Nat (List Nat × List (List Nat) × Mt)
 | [],acc,S,M => .ok (acc,S,M)
 | x :: xs,acc,S,M => match stepM fuelN x l [] M with
  | none => .error 9
  | some (L,M1) => match putD L S with
   | none => .error 10
   | some (q,S1) => rowD l xs (acc ++ [q]) S1 M1
abbrev atD (S : List (List Nat)) (q : Nat) : List Nat := S.getD q []
theorem q46 {S S1 : List (List Nat)} (h : S <+: S1) {q : Nat} (hq : q < S.length) : atD S1 q = atD S q := by
 obtain ⟨k,rfl⟩ := h
 unfold atD
 rw [List.getD_eq_getElem?_getD,List.getD_eq_getElem?_getD,List.getElem?_append_left hq]
theorem q2I {S : List (List Nat)} {q : Nat} (h : q < S.length) : atD S q ∈ S := by
 unfold atD
 rw [List.getD_eq_getElem?_getD,List.getElem?_eq_getElem h]
 exact List.getElem_mem h
def metF : Nat → List Nat → Option Nat
 | m,[] => some m
 | m,v :: vs => if m < v then none else metF (if v = m then m + 1 else m) vs
theorem qX : ∀ (a b : List Nat) (m : Nat),metF m (a ++ b) = (metF m a).bind fun k => metF k b
 | [],b,m => rfl
 | v :: a,b,m => by
  simp only [List.cons_append,metF]
  split
  ·rfl
  ·exact qX a b _
theorem BkG.more {n m m' : Nat} {N : List Gd} {K : List (List Nat)} {R : List Int} (h : BkG n m N K R) (hm : m ≤ m') : BkG n m' N K R :=
 ⟨⟨fun i P lo hi e => by obtain ⟨g0,g1,g2,g3,g4⟩ := h.wf.node i P lo hi e; exact ⟨g0,g1,g2,g3.more hm,g4.more hm⟩,h.wf.once⟩,h.len,fun i l r hl hr => by obtain ⟨a1,a2,a3,a4⟩ := h.it i l r hl hr; exact ⟨a1,a2.more hm,a3,a4⟩,h.few⟩
structure StD (S : List (List Nat)) (M : Mt) : Prop where
 good : GoodM M
 bd : ∀ z ∈ S,BdL z M.length
 least : ∀ z ∈ S,z = leastL z
 short : ∀ z ∈ S,z.length ≤ 1024
 once : S.Nodup
 few : S.length ≤ 256
structure PutD (L : List Nat) (S : List (List Nat)) (q : Nat) (S1 : List (List Nat)) : Prop where
 pre : S <+: S1
 lt : q < S1.length
 is : atD S1 q = L
 mem : ∀ s ∈ S1,s ∈ S ∨ s = L
 once : S.Nodup → S1.Nodup
 few : S.length ≤ 256 → S1.length ≤ 256
 met : metF S.length [q] = some S1.length
theorem q8F {L : List Nat} {S : List (List Nat)} {q : Nat} {S1 : List (List Nat)} (h : putD L S = some (q,S1)) : PutD L S q S1 := by
 unfold putD at h
 split at h
 ·rename_i hm
  injection h with h; injection h with h1 h2
  subst h1 h2
  have hl := List.idxOf_lt_length_of_mem hm
  refine ⟨List.prefix_refl _,hl,?_,fun s hs => .inl hs,id,id,?_⟩
  ·unfold atD
   rw [List.getD_eq_getElem?_getD,List.getElem?_eq_getElem hl]
   exact List.getElem_idxOf hl
  ·simp only [metF]
   rw [if_neg (by omega),if_neg (by omega)]
 ·rename_i hm
  split at h
  ·cases h
  ·rename_i hlen
   injection h with h; injection h with h1 h2
   subst h1 h2
   refine ⟨List.prefix_append _ _,by simp,?_,fun s hs => ?_,fun ho => ?_,fun _ => by simp; omega,?_⟩
   ·unfold atD
    rw [List.getD_eq_getElem?_getD,List.getElem?_append_right (Nat.le_refl _)]
    simp
   ·rcases List.mem_append.1 hs with h | h
    ·exact .inl h
    ·simp at h; exact .inr h
   ·exact List.nodup_append.2 ⟨ho,by simp,fun a ha b hb => by simp at hb; subst hb; exact fun e => hm (e ▸ ha)⟩
   ·simp [metF]
def ArcD (x : Nat) (l L : List Nat) (M : Mt) : Prop := ∀ M2,M <+: M2 → stepM fuelN x l [] M2 = some (L,M2)
theorem ArcD.mono {x : Nat} {l L : List Nat} {M M' : Mt} (h : ArcD x l L M) (hp : M <+: M') : ArcD x l L M' := fun M2 h2 => h M2 (hp.trans h2)
structure RowD (l : List Nat) (xs acc : List Nat) (S : List (List Nat)) (M : Mt) (acc1 : List Nat) (S1 : List (List Nat)) (M1 : Mt) : Prop where
 ok : StD S1 M1
 pre : S <+: S1
 pre2 : M <+: M1
 ex : ∃ rs,acc1 = acc ++ rs ∧ rs.length = xs.length ∧ metF S.length rs = some S1.length ∧ ∀ (i x : Nat),xs[i]? = some x → ∃ q,rs[i]? = some q ∧ q < S1.length ∧ ArcD x l (atD S1 q) M1
theorem q8G {l : List Nat} : ∀ {xs acc : List Nat} {S : List (List Nat)} {M : Mt} {acc1 : List Nat} {S1 : List (List Nat)} {M1 : Mt},StD S M → BdL l M.length → rowD l xs acc S M = .ok (acc1,S1,M1) → RowD l xs acc S M acc1 S1 M1
 | [],acc,S,M,acc1,S1,M1,hk,_,h => by
  unfold rowD at h
  injection h with h; injection h with h1 h2; injection h2 with h2 h3
  subst h1 h2 h3
  exact ⟨hk,List.prefix_refl _,List.prefix_refl _,[],by simp,rfl,rfl,fun i x hx => by simp at hx⟩
 | x :: xs,acc,S,M,acc1,S1,M1,hk,hs,h => by
  unfold rowD at h
  cases hm : stepM fuelN x l [] M with
  | none => rw [hm] at h; cases h
  | some v =>
   obtain ⟨L,M2⟩ := v
   rw [hm] at h
   cases hp : putD L S with
   | none => simp only [hp] at h; cases h
   | some u =>
    obtain ⟨q,S2⟩ := u
    simp only [hp] at h
    obtain ⟨e,_⟩ := q5E hk.good hs hm
    have hL := q4C (out := []) (by rfl) hm
    have k := q8F hp
    have hk2 : StD S2 M2 := ⟨e.good,fun z hz => (k.mem z hz).elim (fun h => (hk.bd z h).mono e.pre.length_le) (fun h => by rw [h]; exact e.bd),fun z hz => (k.mem z hz).elim (hk.least z) (fun h => by rw [h]; exact hL),fun z hz => (k.mem z hz).elim (hk.short z) (fun h => by rw [h]; exact q4D _ _ _ _ (by simp) hm),k.once hk.once,k.few hk.few⟩
    obtain ⟨o,p1,p2,rs,ha,hl,hmt,hx⟩ := q8G hk2 (hs.mono e.pre.length_le) h
    refine ⟨o,k.pre.trans p1,e.pre.trans p2,q :: rs,by rw [ha]; simp,by simp [hl],?_,fun i y hy => ?_⟩
    ·rw [show q :: rs = [q] ++ rs from rfl,qX,k.met]
     exact hmt
    ·cases i with
     | zero =>
      have : x = y := by simpa using hy
      subst this
      refine ⟨q,rfl,Nat.lt_of_lt_of_le k.lt p1.length_le,fun M3 h3 => ?_⟩
      rw [q46 p1 k.lt,k.is]
      exact (q2A fuelN x l [] M M2 L hs hm).2 M3 (p2.trans h3)
     | succ i => exact hx i y (by simpa using hy)
def allD (n : Nat) : Nat → List Int → List Gd → List (List Nat) → Mt → Except Nat (List Int × List Gd × List (List Nat) × Mt)
 | 0,R,N,S,M => .ok (R,N,S,M)
 | f + 1,R,N,S,M => if R.length < S.length then (match rowD (atD S R.length) (List.range (2 ^ n)) [] S M with
   | .error e => .error e
   | .ok (row,S1,M1) => if 4096 < (adM n 0 (fnL row) N).2.length then .error 11 else allD n f (R ++ [(adM n 0 (fnL row) N).1]) (adM n 0 (fnL row) N).2 S1 M1) else .ok (R,N,S,M)
structure AllD (n : Nat) (K : List (List Nat)) (R : List Int) (N : List Gd) (S : List (List Nat)) (M : Mt) : Prop where
 ok : StD S M
 le : R.length ≤ S.length
 bk : BkG n S.length N K R
 fn : N.length ≤ 4096
 met : ∃ m0,metF 1 (K.take 0).flatten = some m0 ∧ metF 1 K.flatten = some S.length
 ahead : ∀ q,q < K.length → ∃ m,metF 1 (K.take q).flatten = some m ∧ q < m
 row : ∀ (q : Nat) (row : List Nat),K[q]? = some row → row.length = 2 ^ n ∧ ∀ x,x < 2 ^ n → ∃ r,row[x]? = some r ∧ r < S.length ∧ ArcD x (atD S q) (atD S r) M
theorem AllD.next {n : Nat} (hn : n ≤ 8) {K : List (List Nat)} {R : List Int} {N : List Gd} {S : List (List Nat)} {M : Mt} (h : AllD n K R N S M) (hlt : R.length < S.length) {row : List Nat} {S1 : List (List Nat)} {M1 : Mt} (hr : rowD (atD S R.length) (List.range (2 ^ n)) [] S M = .ok (row,S1,M1)) (hf : (adM n 0 (fnL row) N).2.length ≤ 4096) :
  AllD n (K ++ [row]) (R ++ [(adM n 0 (fnL row) N).1]) (adM n 0 (fnL row) N).2 S1 M1 ∧ S <+: S1 ∧ M <+: M1 := by
 obtain ⟨o,p1,p2,rs,ha,hl,hmt,hx⟩ := q8G h.ok (h.ok.bd _ (q2I hlt)) hr
 rw [List.nil_append] at ha
 subst ha
 have hKR := h.bk.len
 have hl2 : row.length = 2 ^ n := by simpa using hl
 have h256 : ∀ v ∈ row,v < S1.length := fun v hv => by
  obtain ⟨i,hi⟩ := List.mem_iff_getElem?.1 hv
  have hil := (List.getElem?_eq_some_iff.1 hi).1
  obtain ⟨q,hq1,hq2,_⟩ := hx i i (by simp [show i < 2 ^ n by omega])
  rw [hi] at hq1
  injection hq1 with hq1
  omega
 obtain ⟨m0,hm0,hm1⟩ := h.met
 refine ⟨⟨o,by simp; exact Nat.lt_of_lt_of_le hlt p1.length_le,(h.bk.more p1.length_le).add hn hl2 h256 rfl,hf,⟨m0,by simpa using hm0,?_⟩,fun q hq => ?_,fun q rw2 hq => ?_⟩,p1,p2⟩
 ·rw [List.flatten_append,qX,hm1]
  simpa using hmt
 ·by_cases hqr : q < K.length
  ·rw [List.take_append_of_le_length (by omega)]
   exact h.ahead q hqr
  ·have hqe : q = K.length := by simp at hq; omega
   subst hqe
   refine ⟨S.length,?_,by omega⟩
   rw [List.take_append_of_le_length (Nat.le_refl _),List.take_of_length_le (Nat.le_refl _)]
   exact hm1
 ·by_cases hqr : q < K.length
  ·rw [List.getElem?_append_left hqr] at hq
   obtain ⟨h1,h2⟩ := h.row q rw2 hq
   refine ⟨h1,fun x hx2 => ?_⟩
   obtain ⟨r,hr1,hr2,hr3⟩ := h2 x hx2
   refine ⟨r,hr1,Nat.lt_of_lt_of_le hr2 p1.length_le,?_⟩
   rw [q46 p1 hr2,q46 p1 (by omega)]
   exact hr3.mono p2
  ·have hqe : q = K.length := by
    have := (List.getElem?_eq_some_iff.1 hq).1
    simp at this; omega
   subst hqe
   rw [List.getElem?_append_right (Nat.le_refl _)] at hq
   have : row = rw2 := by simpa using hq
   subst this
   refine ⟨hl2,fun x hx2 => ?_⟩
   obtain ⟨r,hr1,hr2,hr3⟩ := hx x x (by simp [hx2])
   exact ⟨r,hr1,hr2,by rw [q46 p1 (by omega),← hKR]; exact hr3⟩
theorem qc9 {n : Nat} (hn : n ≤ 8) : ∀ {f : Nat} {K : List (List Nat)} {R : List Int} {N : List Gd} {S : List (List Nat)} {M : Mt} {R1 : List Int} {N1 : List Gd} {S1 : List (List Nat)} {M1 : Mt},AllD n K R N S M → 256 ≤ f + R.length → allD n f R N S M = .ok (R1,N1,S1,M1) → ∃ K1,AllD n K1 R1 N1 S1 M1 ∧ R1.length = S1.length ∧ S <+: S1 ∧ M <+: M1
 | 0,K,R,N,S,M,R1,N1,S1,M1,hk,hf,h => by
  unfold allD at h
  injection h with h; injection h with h1 h2; injection h2 with h2 h3; injection h3 with h3 h4
  subst h1 h2 h3 h4
  exact ⟨K,hk,by have := hk.le; have := hk.ok.few; omega,List.prefix_refl _,List.prefix_refl _⟩
 | f + 1,K,R,N,S,M,R1,N1,S1,M1,hk,hf,h => by
  unfold allD at h
  split at h
  ·rename_i hlt
   cases hr : rowD (atD S R.length) (List.range (2 ^ n)) [] S M with
   | error e => rw [hr] at h; cases h
   | ok v =>
    obtain ⟨row,S2,M2⟩ := v
    simp only [hr] at h
    split at h
    ·cases h
    ·rename_i h4
     obtain ⟨k,p1,p2⟩ := hk.next hn hlt hr (by omega)
     obtain ⟨K1,h1,h2,h3,h4⟩ := qc9 hn k (by simp; omega) h
     exact ⟨K1,h1,h2,p1.trans h3,p2.trans h4⟩
  ·injection h with h; injection h with h1 h2; injection h2 with h2 h3; injection h3 with h3 h4
   subst h1 h2 h3 h4
   exact ⟨K,hk,by have := hk.le; omega,List.prefix_refl _,List.prefix_refl _⟩
def detM (T : Tr) (n : Nat) : Except Nat (List Int × List Gd × List (List Nat) × Mt) := match needM T [] with
 | none => .error 9
 | some (l0,M) => allD n 256 [] [] [l0] M
structure DetK (T : Tr) (n : Nat) (R : List Int) (N : List Gd) (S : List (List Nat)) (M : Mt) : Prop where
 all : ∃ K,AllD n K R N S M
 len : R.length = S.length
 zero : ∃ l0 M0,needM T [] = some (l0,M0) ∧ atD S 0 = l0 ∧ M0 <+: M ∧ 0 < S.length
theorem q5p (x : Nat) : [x] = leastL [x] := by
 have h := q7k (p := []) (x := x) (fun y hy => by simp at hy)
 rw [qcX,List.nil_append] at h
 rw [h,if_neg (by simp [hoB])]
theorem q4z {f : List Tk} {M M' : Mt} {l : List Nat} (h : meetM f M = some (l,M')) : l = leastL l := by
 unfold meetM at h
 split at h
 ·injection h with h; injection h with h1 h2; subst h1; exact q5p _
 ·split at h
  ·injection h with h; injection h with h1 h2; subst h1; exact q5p _
  ·cases h
theorem qe8 {and : Bool} {a b : List Nat} {M M' : Mt} {l : List Nat} (h : twoM and a b M = some (l,M')) : l = leastL l := by
 rw [(qr h).2]
 cases and <;> exact (q5n _).symm
theorem q7m (T : Tr) {M M' : Mt} {l : List Nat} (h : needM T M = some (l,M')) : l = leastL l := by
 cases T with
 | leaf k =>
  unfold needM at h
  split at h
  ·injection h with h; injection h with h1 h2; subst h1; exact q5p _
  ·split at h
   ·injection h with h; injection h with h1 h2; subst h1; rfl
   ·exact q4z h
 | un k c => unfold needM at h; exact q4z h
 | bin k c d =>
  unfold needM at h
  split at h
  ·obtain ⟨a,M1,_,h⟩ := qf h
   obtain ⟨b,M2,_,h⟩ := qf h
   exact qe8 h
  ·exact q4z h
theorem qgk {T : Tr} {n : Nat} (hn : n ≤ 8) (kT : KT T) {R : List Int} {N : List Gd} {S : List (List Nat)} {M : Mt} (h : detM T n = .ok (R,N,S,M)) : DetK T n R N S M := by
 unfold detM at h
 cases hnd : needM T [] with
 | none => rw [hnd] at h; cases h
 | some v =>
  obtain ⟨l0,M0⟩ := v
  rw [hnd] at h
  obtain ⟨e,_⟩ := qW T q6i kT hnd
  have hk0 : AllD n [] [] [] [l0] M0 := ⟨⟨e.good,fun z hz => by simp at hz; rw [hz]; exact e.bd,fun z hz => by simp at hz; rw [hz]; exact q7m T hnd,fun z hz => by simp at hz; rw [hz]; exact q1B T hnd,by simp,by simp⟩,by simp,BkG.nil n _,by simp,⟨1,rfl,rfl⟩,fun q hq => by simp at hq,fun q row hq => by simp at hq⟩
  obtain ⟨K1,h1,h2,h3,h4⟩ := qc9 hn hk0 (by simp) h
  refine ⟨⟨K1,h1⟩,h2,l0,M0,hnd,?_,h4,by have := h3.length_le; simp at this; omega⟩
  rw [q46 h3 (by simp)]; rfl
theorem DetK.may {T : Tr} {n : Nat} {R : List Int} {N : List Gd} {S : List (List Nat)} {M : Mt} (h : DetK T n R N S M) (hn : n ≤ 8) : MayG n S.length N R := by
 obtain ⟨K,hA⟩ := h.all
 obtain ⟨_,_,_,_,_,hpos⟩ := h.zero
 exact hA.bk.may hn hpos hA.ok.few (Nat.le_refl _) h.len (fun g hg => .inr hg) hA.fn
theorem DetK.rows {T : Tr} {n : Nat} {R : List Int} {N : List Gd} {S : List (List Nat)} {M : Mt} (h : DetK T n R N S M) : ∃ K : List (List Nat),K.length = S.length ∧ metF 1 K.flatten = some S.length ∧ ∀ q,q < S.length → (K.getD q []).length = 2 ^ n ∧ tabT N (R.getD q 0) (2 ^ n) = some ((K.getD q []).map Int.ofNat) ∧ ∃ m m',metF 1 (K.take q).flatten = some m ∧ metF 1 (K.take (q + 1)).flatten = some m' ∧ metF m (K.getD q []) = some m' ∧ q < m := by
 obtain ⟨K,hA⟩ := h.all
 have hKR := hA.bk.len
 have hK : K.length = S.length := by rw [← hKR,h.len]
 obtain ⟨_,_,hm⟩ := hA.met
 refine ⟨K,hK,hm,fun q hq => ?_⟩
 have hqK : q < K.length := by omega
 have hqR : q < R.length := by omega
 have eK : K[q]? = some (K.getD q []) := by rw [List.getD_eq_getElem?_getD,List.getElem?_eq_getElem hqK]; rfl
 have eR : R[q]? = some (R.getD q 0) := by rw [List.getD_eq_getElem?_getD,List.getElem?_eq_getElem hqR]; rfl
 obtain ⟨m,hm1,hm2⟩ := hA.ahead q hqK
 have hs : (K.take (q + 1)).flatten = (K.take q).flatten ++ K.getD q [] := by
  rw [List.take_add_one,eK]; simp
 have hw : K.flatten = (K.take (q + 1)).flatten ++ (K.drop (q + 1)).flatten := by rw [← List.flatten_append,List.take_append_drop]
 rw [hw,qX] at hm
 cases hc : metF 1 (K.take (q + 1)).flatten with
 | none => rw [hc] at hm; cases hm
 | some m' =>
  refine ⟨(hA.row q _ eK).1,hA.bk.tab eK eR,m,m',hm1,rfl,?_,hm2⟩
  rw [hs,qX,hm1] at hc
  exact hc
theorem qdE {l : List Nat} {m m' : Nat} (h : metF m l = some m') {i : Nat} (hi : i < l.length) : ∃ a,metF m (l.take i) = some a ∧ l.getD i 0 ≤ a ∧ metF m (l.take (i + 1)) = some (if l.getD i 0 = a then a + 1 else a) := by
 have e : l[i]? = some (l.getD i 0) := by rw [List.getD_eq_getElem?_getD,List.getElem?_eq_getElem hi]; rfl
 have hs : l.take (i + 1) = l.take i ++ [l.getD i 0] := by rw [List.take_add_one,e]; rfl
 have hw : l = l.take (i + 1) ++ l.drop (i + 1) := (List.take_append_drop _ _).symm
 rw [hw,qX,hs,qX] at h
 cases hc : metF m (l.take i) with
 | none => rw [hc] at h; cases h
 | some a =>
  rw [hc] at h
  by_cases hl : a < l.getD i 0
  ·simp only [Option.bind_some,metF,if_pos hl] at h
   cases h
  ·refine ⟨a,rfl,by omega,?_⟩
   rw [hs,qX,hc]
   simp only [Option.bind_some,metF,if_neg hl]
theorem q6r : ∀ {l : List Nat} {m m' : Nat},metF m l = some m' → m ≤ m'
 | [],m,m',h => by simp [metF] at h; omega
 | v :: l,m,m',h => by
  simp only [metF] at h
  split at h
  ·cases h
  ·have := q6r h
   split at this <;> omega
theorem DetK.least {T : Tr} {n : Nat} {R : List Int} {N : List Gd} {S : List (List Nat)} {M : Mt} (h : DetK T n R N S M) {q : Nat} (hq : q < S.length) : atD S q = leastL (atD S q) ∧ (atD S q).length ≤ 1024 := by
 obtain ⟨K,hA⟩ := h.all
 exact ⟨hA.ok.least _ (q2I hq),hA.ok.short _ (q2I hq)⟩
theorem DetK.unlike {T : Tr} {n : Nat} {R : List Int} {N : List Gd} {S : List (List Nat)} {M : Mt} (h : DetK T n R N S M) {q r : Nat} (hq : q < S.length) (hr : r < q) : atD S q ≠ atD S r := by
 obtain ⟨K,hA⟩ := h.all
 intro e
 unfold atD at e
 rw [List.getD_eq_getElem?_getD,List.getD_eq_getElem?_getD,List.getElem?_eq_getElem hq,List.getElem?_eq_getElem (by omega)] at e
 exact List.pairwise_iff_getElem.1 hA.ok.once r q (by omega) hq hr e.symm
def untT : Tr := .bin (15,0) (.leaf (2,0)) (.leaf (2,1))
theorem qdA : KT untT := ⟨⟨rfl,rfl,⟨rfl,rfl⟩,rfl,rfl⟩,rfl,rfl⟩
theorem q8T (M : Mt) : FinP M [0] := (q2l true _).2 rfl
theorem qdr {T : Tr} (h : KT T) : FinP [T.flat] [1] ↔ endB T = true := by
 unfold FinP
 rw [show ([1] : List Nat) = [2 ^ 0] from rfl,q8w,q5s h (by rfl)]
 exact ((q17 T).1 h).symm
def p0T : Tr := .leaf (2,0)
theorem kt_p0 : KT p0T := ⟨⟨rfl,rfl⟩,rfl,rfl⟩
theorem q6h {α : Type} {acc : List α} {r y : α} {x : Nat} (h : (acc ++ [r])[x]? = some y) : acc[x]? = some y ∨ x = acc.length ∧ y = r := by
 by_cases hx : x < acc.length
 ·rw [List.getElem?_append_left hx] at h; exact Or.inl h
 ·have h2 := (List.getElem?_eq_some_iff.1 h).1
  simp at h2
  have : x = acc.length := by omega
  subst this
  rw [List.getElem?_append_right (Nat.le_refl _)] at h
  simp at h
  exact Or.inr ⟨rfl,h.symm⟩
def bitsL (ts : List Tk) : Nat := ts.foldl (fun a t => if t.1 = 2 then a ||| 2 ^ t.2 else a) 0
theorem qdh (ts : List Tk) (t : Tk) : bitsL (ts ++ [t]) = if t.1 = 2 then bitsL ts ||| 2 ^ t.2 else bitsL ts := by
 unfold bitsL
 rw [List.foldl_append]; rfl
theorem q8N (p : Nat) : ∀ (ts : List Tk) (a : Nat),(ts.foldl (fun a t => if t.1 = 2 then a ||| 2 ^ t.2 else a) a).testBit p = true ↔ a.testBit p = true ∨ (2,p) ∈ ts
 | [],a => by simp
 | (o,q) :: ts,a => by
  rw [List.foldl_cons,q8N p ts]
  by_cases ho : o = 2
  ·subst ho
   rw [if_pos rfl,Nat.testBit_or,Bool.or_eq_true,Nat.testBit_two_pow]
   simp only [decide_eq_true_eq,List.mem_cons,Prod.mk.injEq,true_and,or_assoc,@eq_comm _ q p]
  ·rw [if_neg (by simpa using ho)]
   simp [Ne.symm ho]
theorem q8O (ts : List Tk) (p : Nat) : (bitsL ts).testBit p = true ↔ (2,p) ∈ ts := by
 unfold bitsL
 rw [q8N]
 simp
def PrX (ts : List Tk) (p : Nat) : Prop := (2,p) ∈ ts
theorem qeE (ts : List Tk) (x : Nat) : Like (PrX ts) (x &&& bitsL ts) x := fun p hp => by
 rw [Nat.testBit_and,(q8O ts p).2 hp,Bool.and_true]
theorem qfl {ts : List Tk} {n : Nat} (h : ∀ p,(2,p) ∈ ts → p < n) : bitsL ts < 2 ^ n := by
 refine Nat.lt_pow_two_of_testBit _ fun i hi => ?_
 cases hb : (bitsL ts).testBit i with
 | false => rfl
 | true => exact absurd (h i ((q8O ts i).1 hb)) (by omega)
theorem q5q (n : Nat) (box : Bool) (c : Tr) (s : List Nat) (f : Tr) (x : Nat) (M : Mt) : pthM (n + 1) box (.un (20,0) c) s f x M = bindM (aftM n (if box then (kTr c).2 else c) x M) fun a M1 => twoM (!box) a s M1 := rfl
theorem q5l (x : Nat) : ∀ n,(∀ T,KT T → hgt T ≤ n → aftM n T x = aftM (n + 1) T x) ∧ (∀ box r s f,KP r → hgt r ≤ n → pthM n box r s f x = pthM (n + 1) box r s f x)
 | 0 => ⟨fun T _ h => absurd (q5v T) (by omega),fun box r s f _ h => absurd (q5v r) (by omega)⟩
 | n + 1 => by
  obtain ⟨ih,jh⟩ := q5l x n
  refine ⟨fun T hT h => ?_,fun box r s f hr h => ?_⟩
  ·match T,hT,h with
   | .leaf k,hT,h => funext M; rw [qD,qD]
   | .un (op,p) c,hT,h => funext M; rw [qJ,qJ]
   | .bin (op,p) c d,hT,h =>
    obtain ⟨rfl,ho⟩ := q1t hT
    have h2 : max (hgt c) (hgt d) + 1 ≤ n + 1 := h
    funext M
    rw [qw,qw]
    by_cases h11 : op = 11 ∨ op = 12
    ·obtain ⟨kc,kd⟩ := qB hT (by rcases h11 with h | h <;> simp [h])
     rw [if_pos h11,if_pos h11,ih c kc (by omega),ih d kd (by omega)]
    ·rw [if_neg h11,if_neg h11]
     by_cases h15 : op = 15 ∨ op = 16
     ·obtain ⟨kc,kd⟩ := qB hT (by rcases h15 with h | h <;> simp [h])
      rw [if_pos h15,if_pos h15,ih c kc (by omega),ih d kd (by omega)]
     ·obtain ⟨kc,kd⟩ := q1l hT (by omega)
      rw [if_neg h15,if_neg h15,ih d kd (by omega)]
      congr 1
      funext s M1
      rw [jh _ c s d kc (by omega)]
  ·match r,hr,h with
   | .leaf k,hr,h => exact (q2i hr).elim
   | .un (op,p) c,hr,h =>
    funext M
    rw [qT,qT]
    rcases kp_un hr with ⟨rfl,⟨rfl,hc,hpl⟩ | ⟨rfl,hc⟩ | ⟨rfl,hc⟩⟩
    ·rw [if_pos rfl,if_pos rfl]
    ·have h2 : hgt c + 1 ≤ n + 1 := h
     have hz : ∀ b : Bool,aftM n (if b then (kTr c).2 else c) x = aftM (n + 1) (if b then (kTr c).2 else c) x := fun b => by
      cases b
      ·exact ih c hc (by omega)
      ·exact ih _ (q2Y hc) (by rw [if_pos rfl,q18 c hc]; omega)
     show pthM (n + 1) box (.un (20,0) c) s f x M = pthM (n + 1 + 1) box (.un (20,0) c) s f x M
     rw [q5q,q5q,hz box]
    ·have h2 : hgt c + 1 ≤ n + 1 := h
     rw [if_neg (by decide),if_neg (by decide),if_neg (by decide),if_neg (by decide),jh _ c _ _ hc (by omega)]
   | .bin (op,p) c d,hr,h =>
    obtain ⟨rfl,ho,kc,kd⟩ := q1k hr
    have h2 : max (hgt c) (hgt d) + 1 ≤ n + 1 := h
    funext M
    rw [qP,qP]
    rcases ho with rfl | rfl
    ·rw [if_pos rfl,if_pos rfl,jh _ c _ _ kc (by omega),jh _ d _ _ kd (by omega)]
    ·rw [if_neg (by decide),if_neg (by decide),jh _ d _ _ kd (by omega)]
     congr 1
     funext a M1
     rw [jh _ c _ _ kc (by omega)]
theorem qaQ {x : Nat} {T : Tr} (hT : KT T) {n : Nat} (h : hgt T ≤ n) : ∀ k,aftM n T x = aftM (n + k) T x
 | 0 => rfl
 | k + 1 => (qaQ hT h k).trans ((q5l x (n + k)).1 T hT (by omega))
theorem qbk {x : Nat} {box : Bool} {r : Tr} {s : List Nat} {f : Tr} (hr : KP r) {n : Nat} (h : hgt r ≤ n) : ∀ k,pthM n box r s f x = pthM (n + k) box r s f x
 | 0 => rfl
 | k + 1 => (qbk hr h k).trans ((q5l x (n + k)).2 box r s f hr (by omega))
def aftC (T : Tr) (x : Nat) (M : Mt) : Rt := aftM (hgt T) T x M
def pthC (box : Bool) (r : Tr) (s : List Nat) (f : Tr) (x : Nat) (M : Mt) : Rt := pthM (hgt r) box r s f x M
theorem aft_C {x n : Nat} {T : Tr} (hT : KT T) (h : hgt T ≤ n) : aftM n T x = aftC T x := by
 have := qaQ (x := x) hT (Nat.le_refl (hgt T)) (n - hgt T)
 rw [show hgt T + (n - hgt T) = n by omega] at this
 rw [← this]; rfl
theorem pth_C {x n : Nat} {box : Bool} {r : Tr} {s : List Nat} {f : Tr} (hr : KP r) (h : hgt r ≤ n) : pthM n box r s f x = pthC box r s f x := by
 have := qbk (x := x) (box := box) (s := s) (f := f) hr (Nat.le_refl (hgt r)) (n - hgt r)
 rw [show hgt r + (n - hgt r) = n by omega] at this
 rw [← this]; rfl
theorem q5f (k : Tk) (x : Nat) (M : Mt) : aftC (.leaf k) x M = some (yesM (if k.1 = 2 then x.testBit k.2 else k.1 == 0 || k.1 == 4),M) := rfl
theorem qec (p : Nat) (c : Tr) (x : Nat) (M : Mt) : aftC (.un (6,p) c) x M = some (yesM (!plV x c),M) := rfl
theorem qda {op : Nat} (ho : op = 7 ∨ op = 8) (c : Tr) (x : Nat) (M : Mt) : aftC (.un (op,0) c) x M = bindM (needM (.leaf (if op = 7 then 4 else 5,0)) M) fun a M1 => bindM (needM c M1) fun b M2 => twoM (op == 7) a b M2 := by
 unfold aftC
 rcases ho with rfl | rfl <;> rfl
theorem q6d {op : Nat} {c d : Tr} (hT : KT (.bin (op,0) c d)) (ho : op = 11 ∨ op = 12) (x : Nat) (M : Mt) : aftC (.bin (op,0) c d) x M = bindM (aftC c x M) fun a M1 => bindM (aftC d x M1) fun b M2 => twoM (op == 11) a b M2 := by
 obtain ⟨kc,kd⟩ := qB hT (by rcases ho with h | h <;> simp [h])
 unfold aftC
 rw [show hgt (.bin (op,0) c d) = max (hgt c) (hgt d) + 1 from rfl,qw,if_pos ho,aft_C kc (by omega),aft_C kd (by omega)]; rfl
theorem qcN {op : Nat} {c d : Tr} (hT : KT (.bin (op,0) c d)) (ho : op = 15 ∨ op = 16) (x : Nat) (M : Mt) : aftC (.bin (op,0) c d) x M = bindM (aftC d x M) fun b M1 => bindM (aftC c x M1) fun a M2 => bindM (needM (.bin (op,0) c d) M2) fun u M3 => bindM (twoM (op == 15) a u M3) fun v M4 => twoM (op == 16) b v M4 := by
 obtain ⟨kc,kd⟩ := qB hT (by rcases ho with h | h <;> simp [h])
 unfold aftC
 rw [show hgt (.bin (op,0) c d) = max (hgt c) (hgt d) + 1 from rfl,qw,if_neg (by dsimp only; omega),if_pos ho,aft_C kc (by omega),aft_C kd (by omega)]; rfl
theorem qed {op : Nat} {c d : Tr} (hT : KT (.bin (op,0) c d)) (ho : op = 17 ∨ op = 18) (x : Nat) (M : Mt) : aftC (.bin (op,0) c d) x M = bindM (aftC d x M) fun s M1 => pthC (op == 18) c s d x M1 := by
 obtain ⟨kc,kd⟩ := q1l hT ho
 unfold aftC
 rw [show hgt (.bin (op,0) c d) = max (hgt c) (hgt d) + 1 from rfl,qw,if_neg (by dsimp only; omega),if_neg (by dsimp only; omega),aft_C kd (by omega)]
 congr 1
 funext s M1
 rw [pth_C kc (by omega)]
theorem q9a (box : Bool) (c : Tr) (s : List Nat) (f : Tr) (x : Nat) (M : Mt) : pthC box (.un (19,0) c) s f x M = if plV x c then needM f M else some (yesM box,M) := rfl
theorem q9b {box : Bool} {c : Tr} (hr : KP (.un (20,0) c)) (s : List Nat) (f : Tr) (x : Nat) (M : Mt) : pthC box (.un (20,0) c) s f x M = bindM (aftC (if box then (kTr c).2 else c) x M) fun a M1 => twoM (!box) a s M1 := by
 obtain ⟨_,⟨h,_⟩ | ⟨_,hc⟩ | ⟨h,_⟩⟩ := kp_un hr
 ·cases h
 ·unfold pthC
  rw [show hgt (.un (20,0) c) = hgt c + 1 from rfl,q5q]
  have hz : ∀ b : Bool,aftM (hgt c) (if b then (kTr c).2 else c) x = aftC (if b then (kTr c).2 else c) x := fun b => by
   cases b
   ·exact aft_C hc (Nat.le_refl _)
   ·exact aft_C (q2Y hc) (by rw [if_pos rfl,q18 c hc]; exact Nat.le_refl _)
  rw [hz box]
 ·cases h
theorem q99 {box : Bool} {c : Tr} (hr : KP (.un (23,0) c)) (s : List Nat) (f : Tr) (x : Nat) (M : Mt) : pthC box (.un (23,0) c) s f x M = bindM (pthC box c (yesM box) (.bin (modeO box,0) (.un (23,0) c) f) x M) fun a M1 => twoM box s a M1 := by
 obtain ⟨_,⟨h,_⟩ | ⟨h,_⟩ | ⟨_,hc⟩⟩ := kp_un hr
 ·cases h
 ·cases h
 ·unfold pthC
  rw [show hgt (.un (23,0) c) = hgt c + 1 from rfl,qT,if_neg (by decide),if_neg (by decide)]
theorem q98 {box : Bool} {c d : Tr} (hr : KP (.bin (21,0) c d)) (s : List Nat) (f : Tr) (x : Nat) (M : Mt) : pthC box (.bin (21,0) c d) s f x M = bindM (pthC box c s f x M) fun a M1 => bindM (pthC box d s f x M1) fun b M2 => twoM box a b M2 := by
 obtain ⟨_,_,kc,kd⟩ := q1k hr
 unfold pthC
 rw [show hgt (.bin (21,0) c d) = max (hgt c) (hgt d) + 1 from rfl,qP,if_pos rfl,pth_C kc (by omega),pth_C kd (by omega)]; rfl
theorem qbj {box : Bool} {c d : Tr} (hr : KP (.bin (22,0) c d)) (s : List Nat) (f : Tr) (x : Nat) (M : Mt) : pthC box (.bin (22,0) c d) s f x M = bindM (pthC box d s f x M) fun a M1 => pthC box c a (.bin (modeO box,0) d f) x M1 := by
 obtain ⟨_,_,kc,kd⟩ := q1k hr
 unfold pthC
 rw [show hgt (.bin (22,0) c d) = max (hgt c) (hgt d) + 1 from rfl,qP,if_neg (by decide),pth_C kd (by omega)]
 congr 1
 funext a M1
 rw [pth_C kc (by omega)]; rfl
theorem qdc (T : Tr) (x : Nat) : Again (aftC T x) := (q4m x _).1 T
theorem q5A {c : Tr} (h : KP (.un (19,0) c)) : KT c ∧ plainT c = true := by
 obtain ⟨_,hc,hf,_⟩ := qE h.wf
 have hk := h.kr
 simp [fit1T] at hf
 exact ⟨⟨hc,hf.1,by simpa [kerT] using hk⟩,hf.2⟩
theorem qcA (and a b : Bool) (M : Mt) : twoM and (yesM a) (yesM b) M = some (yesM (if and then a && b else a || b),M) := by
 have h : (if and then andM (yesM a) (yesM b) else orM (yesM a) (yesM b)) = some (yesM (if and then a && b else a || b)) := by
  cases and <;> cases a <;> cases b <;> decide +kernel
 unfold twoM
 rw [h]; rfl
theorem q2W {x : Nat} : ∀ {T : Tr} (M : Mt),KT T → plainT T = true → aftC T x M = some (yesM (plV x T),M)
 | .leaf (op,p),M,hT,hp => by
  rw [q5f]
  rcases q1F hT with ⟨rfl,_⟩ | ⟨rfl,rfl | rfl | rfl | rfl⟩
  ·rfl
  ·rfl
  ·rfl
  ·cases hp
  ·cases hp
 | .un (op,p) c,M,hT,hp => by
  rcases kt_un hT with ⟨rfl,⟨rfl,q,rfl⟩ | ⟨ho,hc⟩⟩
  ·rfl
  ·rcases ho with rfl | rfl <;> cases hp
 | .bin (op,p) c d,M,hT,hp => by
  obtain ⟨rfl,ho⟩ := q1t hT
  rcases ho with rfl | rfl | rfl | rfl | rfl | rfl
  ·obtain ⟨kc,kd⟩ := qB hT (by simp)
   obtain ⟨pc,pd⟩ : plainT c = true ∧ plainT d = true := by rw [qm] at hp; simpa [plainB] using hp
   rw [q6d hT (by simp),q2W M kc pc]
   show bindM (aftC d x M) _ = _
   rw [q2W M kd pd]
   exact qcA true (plV x c) (plV x d) M
  ·obtain ⟨kc,kd⟩ := qB hT (by simp)
   obtain ⟨pc,pd⟩ : plainT c = true ∧ plainT d = true := by rw [qm] at hp; simpa [plainB] using hp
   rw [q6d hT (by simp),q2W M kc pc]
   show bindM (aftC d x M) _ = _
   rw [q2W M kd pd]
   exact qcA false (plV x c) (plV x d) M
  ·rw [qm] at hp; simp [plainB] at hp
  ·rw [qm] at hp; simp [plainB] at hp
  ·rw [qm] at hp; simp [plainB] at hp
  ·rw [qm] at hp; simp [plainB] at hp
end Go.Proofs.YtailhklbmenaoaaGreatDoor
