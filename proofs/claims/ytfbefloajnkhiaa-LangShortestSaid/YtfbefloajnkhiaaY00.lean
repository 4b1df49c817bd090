/- Texts of the proof, put together: what it uses. -/
import Derived.WalkKit
import Derived.WalkSpells
import Derived.Maps.OwnSet
import Derived.Test.YtfbefloajnkhiaaProg
import Derived.WalkLawsBesides
import Derived.BigQuiet
import Derived.Deep.QuietTactic
import Derived.Laws.BitsAllLaws
set_option maxRecDepth 100000
set_option maxHeartbeats 16000000
namespace Go.Proofs.Ytfbefloajnkhiaa
abbrev Gd := Int × Int × Int
def goG (N : List Gd) (x : Nat) : Nat → Int → Option Int
 | 0,r => if r < 0 then some (-1 - r) else none
 | k + 1,r => if r < 0 then some (-1 - r) else
  match N[r.toNat]? with
  | none => none
  | some (P,lo,hi) => if 0 ≤ P ∧ P ≤ 7 then goG N x k (if x.testBit P.toNat then hi else lo) else none
theorem q2C {N : List Gd} {x : Nat} {r : Int} (h : r < 0) : ∀ k,goG N x k r = some (-1 - r)
 | 0 => by simp [goG,h]
 | k + 1 => by simp [goG,h]
theorem q2g {N : List Gd} {x k i : Nat} {P lo hi : Int} (h : N[i]? = some (P,lo,hi)) (h0 : 0 ≤ P) (h7 : P ≤ 7) : goG N x (k + 1) (i : Int) = goG N x k (if x.testBit P.toNat then hi else lo) := by
 have hi : ¬ (i : Int) < 0 := by omega
 simp [goG,hi,h,h0,h7]
def FitG (m : Nat) (N : List Gd) (a : Nat) (p : Int) (r : Int) : Prop :=
 (r < 0 ∧ -(m : Int) ≤ r) ∨ ∃ i,r = ((i : Nat) : Int) ∧ i < a ∧ ∃ nd,N[i]? = some nd ∧ p < nd.1
theorem q3F {N N' : List Gd} (h : N <+: N') {nd : Gd} (hm : nd ∈ N) : N'.idxOf nd = N.idxOf nd := by
 obtain ⟨t,rfl⟩ := h
 simp [List.idxOf_append,hm]
theorem q3E {N : List Gd} {nd : Gd} (h : nd ∉ N) : (N ++ [nd]).idxOf nd = N.length := by
 simp [List.idxOf_append,h]
def tabT (N : List Gd) (r : Int) : Nat → Option (List Int)
 | 0 => some []
 | k + 1 => (tabT N r k).bind fun l => (goG N k 8 r).map fun v => l ++ [v]
theorem q2K {N : List Gd} {r : Int} {f : Nat → Int} : ∀ (k : Nat),(∀ x,x < k → goG N x 8 r = some (f x)) → tabT N r k = some ((List.range k).map f)
 | 0,_ => rfl
 | k + 1,h => by
  have h1 := q2K k (fun x hx => h x (by omega))
  simp only [tabT,h1,h k (by omega),List.range_succ]
  simp
theorem q1P {N : List Gd} {r : Int} {i : Nat} (h : goG N i 8 r = none) : ∀ (k : Nat),i < k → tabT N r k = none
 | 0,hi => by omega
 | k + 1,hi => by
  by_cases e : i = k
  ·subst e; simp only [tabT,h]; cases tabT N r i <;> rfl
  ·have h1 := q1P h k (by omega)
   simp only [tabT,h1]; rfl
structure MayG (props : Int) (ns : Nat) (N : List Gd) (gs : List Int) : Prop where
 p0 : 0 ≤ props
 p8 : props ≤ 8
 s1 : 1 ≤ ns
 s2 : ns ≤ 256
 len : gs.length = ns
 few : N.length ≤ 4096
 node : ∀ (i : Nat) (P lo hi : Int),N[i]? = some (P,lo,hi) → 0 ≤ P ∧ P < props ∧ lo ≠ hi ∧ FitG ns N i P lo ∧ FitG ns N i P hi
 once : N.Nodup
 gd : ∀ g ∈ gs,FitG ns N N.length (-1) g
def trP (R : List (List Nat)) (s l : Nat) : Nat := (R.getD s []).getD l 0
def runP (R : List (List Nat)) (s : Nat) (t : List Nat) : Nat := t.foldl (trP R) s
theorem qg (R : List (List Nat)) (s l : Nat) (t : List Nat) : runP R s (t ++ [l]) = trP R (runP R s t) l := by simp [runP]
structure RowsP (n K : Nat) (R : List (List Nat)) : Prop where
 len : R.length = n
 row : ∀ s,s < n → (R.getD s []).length = K
 lt : ∀ s l,s < n → l < K → trP R s l < n
theorem q2h {m : Nat} {props : Int} {N : List Gd} (hp : props ≤ 8) (hN : ∀ (i : Nat) (P lo hi : Int),N[i]? = some (P,lo,hi) → 0 ≤ P ∧ P < props ∧ lo ≠ hi ∧ FitG m N i P lo ∧ FitG m N i P hi) (x : Nat) :
  ∀ (k a : Nat) (p r : Int),FitG m N a p r → 7 - p ≤ k → ∃ v : Nat,v < m ∧ goG N x k r = some (v : Int)
 | k,a,p,r,.inl ⟨h1,h2⟩,_ => ⟨(-1 - r).toNat,by omega,by rw [q2C h1]; congr 1; omega⟩
 | 0,a,p,r,.inr ⟨i,e,hi,nd,hn,hq⟩,hk => by
  obtain ⟨P,lo,hi'⟩ := nd
  have := hN i P lo hi' hn
  dsimp only at hq
  omega
 | k + 1,a,p,r,.inr ⟨i,e,hi,nd,hn,hq⟩,hk => by
  obtain ⟨P,lo,hi'⟩ := nd
  obtain ⟨h0,h1,_,h3,h4⟩ := hN i P lo hi' hn
  dsimp only at hq
  subst e
  rw [q2g hn h0 (by omega)]
  split
  ·exact q2h hp hN x k i P hi' h4 (by omega)
  ·exact q2h hp hN x k i P lo h3 (by omega)
def rowG (N : List Gd) (K : Nat) (r : Int) : List Nat := (List.range K).map fun x => ((goG N x 8 r).getD 0).toNat
def rowsG (N : List Gd) (gs : List Int) (K : Nat) : List (List Nat) := gs.map (rowG N K)
theorem qi {N : List Gd} {gs : List Int} {K s : Nat} (h : s < gs.length) : (rowsG N gs K).getD s [] = rowG N K (gs.getD s 0) := by
 simp [rowsG,List.getD_eq_getElem?_getD,List.getElem?_eq_getElem h]
theorem q2I {N : List Gd} {K x : Nat} {r : Int} (h : x < K) : (rowG N K r).getD x 0 = ((goG N x 8 r).getD 0).toNat := by
 simp [rowG,List.getD_eq_getElem?_getD,h]
theorem q2l (N : List Gd) (K : Nat) (r : Int) : (rowG N K r).length = K := by simp [rowG]
theorem MayG.go {p : Int} {ns : Nat} {N : List Gd} {gs : List Int} (h : MayG p ns N gs) {s : Nat} (hs : s < ns) (x : Nat) : ∃ v : Nat,v < ns ∧ goG N x 8 (gs.getD s 0) = some (v : Int) := by
 have hl := h.len
 have hm : gs.getD s 0 ∈ gs := by
  rw [List.getD_eq_getElem?_getD,List.getElem?_eq_getElem (by omega),Option.getD_some]
  exact List.getElem_mem _
 exact q2h h.p8 h.node x 8 N.length (-1) _ (h.gd _ hm) (by omega)
theorem MayG.tr {p : Int} {ns : Nat} {N : List Gd} {gs : List Int} (h : MayG p ns N gs) {K s x : Nat} (hs : s < ns) (hx : x < K) : goG N x 8 (gs.getD s 0) = some ((trP (rowsG N gs K) s x : Nat) : Int) := by
 obtain ⟨v,hv,e⟩ := h.go hs x
 have hl := h.len
 rw [trP,qi (by omega),q2I hx,e]
 simp
theorem MayG.rows {p : Int} {ns : Nat} {N : List Gd} {gs : List Int} (h : MayG p ns N gs) (K : Nat) : RowsP ns K (rowsG N gs K) := by
 have hl := h.len
 refine ⟨by simp [rowsG,hl],fun s hs => by rw [qi (by omega),q2l],fun s l hs hlk => ?_⟩
 obtain ⟨v,hv,e⟩ := h.go hs l
 rw [trP,qi (by omega),q2I hlk,e]
 simpa using hv
theorem MayG.tab {p : Int} {ns : Nat} {N : List Gd} {gs : List Int} (h : MayG p ns N gs) {K s : Nat} (hs : s < ns) : tabT N (gs.getD s 0) K = some (((rowsG N gs K).getD s []).map Int.ofNat) := by
 have hl := h.len
 rw [qi (by omega),q2K (f := fun x => ((trP (rowsG N gs K) s x : Nat) : Int)) K (fun x hx => h.tr hs hx),rowG,List.map_map]
 congr 1
 apply List.map_congr_left
 intro x hx
 have hx' := List.mem_range.1 hx
 have e := h.tr hs hx'
 simp only [Function.comp_apply,e,Option.getD_some,Int.toNat_natCast]
 rfl
variable {n K : Nat} {R : List (List Nat)} {bs : List Bool}
theorem q1L {α : Type} : ∀ {l m : List α},l.Nodup → (∀ x ∈ l,x ∈ m) → l.length ≤ m.length
 | [],m,_,_ => Nat.zero_le _
 | a :: l,m,hn,hs => by
  obtain ⟨m1,m2,rfl⟩ := List.append_of_mem (hs a (by simp))
  obtain ⟨ha,hn⟩ := List.nodup_cons.1 hn
  have : l.length ≤ (m1 ++ m2).length := q1L hn fun x hx => by
   have := hs x (by simp [hx])
   simp only [List.mem_append,List.mem_cons] at this ⊢
   rcases this with h | rfl | h
   ·exact .inl h
   ·exact absurd hx ha
   ·exact .inr h
  simp only [List.length_append,List.length_cons] at this ⊢
  omega
theorem q1M {n : Nat} {l : List Nat} (h : l.Nodup) (hl : ∀ x ∈ l,x < n) : l.length ≤ n := by
 have := q1L h (m := List.range n) (fun x hx => List.mem_range.2 (hl x hx))
 simpa using this
abbrev PrP := Nat × Nat × Nat × Nat
variable {n K : Nat} {R : List (List Nat)} {bs : List Bool} {p q i k : Nat} {Q : List PrP}
def valT (u : List Nat) : Nat := u.foldl (fun x l => x * 256 + l) 0
theorem qh (u : List Nat) (l : Nat) : valT (u ++ [l]) = valT u * 256 + l := by simp [valT]
def ltT (u v : List Nat) : Prop := u.length < v.length ∨ u.length = v.length ∧ valT u < valT v
def leT (u v : List Nat) : Prop := u.length < v.length ∨ u.length = v.length ∧ valT u ≤ valT v
theorem leT.not {u v : List Nat} (h : leT u v) : ¬ ltT v u := by unfold leT ltT at *; omega
theorem leT.trans {u v x : List Nat} (h : leT u v) (h' : leT v x) : leT u x := by unfold leT at *; omega
theorem ltT.le {u v : List Nat} (h : ltT u v) : leT u v := by unfold leT ltT at *; omega
theorem qu {u v : List Nat} (h : leT u v) {k l : Nat} (hk : k ≤ l) : leT (u ++ [k]) (v ++ [l]) := by
 unfold leT at *; rw [qh,qh,List.length_append,List.length_append,List.length_singleton,List.length_singleton]; omega
theorem q1b {u v : List Nat} (h : ltT u v) {k : Nat} (l : Nat) (hk : k < 256) : ltT (u ++ [k]) (v ++ [l]) := by
 unfold ltT at *; rw [qh,qh,List.length_append,List.length_append,List.length_singleton,List.length_singleton]; omega
theorem q3t (u : List Nat) {k l : Nat} (hk : k < l) : ltT (u ++ [k]) (u ++ [l]) := by
 unfold ltT; rw [qh,qh,List.length_append,List.length_append,List.length_singleton,List.length_singleton]; omega
theorem q2E (u : List Nat) (l : Nat) : leT u (u ++ [l]) := by unfold leT; rw [List.length_append,List.length_singleton]; omega
theorem q3H (u : List Nat) : leT [] u := by
 cases u with
 | nil => exact .inr ⟨rfl,Nat.le_refl _⟩
 | cons a u => exact .inl (by simp)
theorem snocT {u : List Nat} (h : u ≠ []) : ∃ v l,u = v ++ [l] := ⟨u.dropLast,u.getLast h,(List.dropLast_concat_getLast h).symm⟩
abbrev gone (j k i l : Nat) : Prop := i < j ∨ i = j ∧ l < k
structure BfQ (n K : Nat) (R : List (List Nat)) (j k : Nat) (Q : List (Nat × List Nat)) : Prop where
 zero : Q[0]? = some (0,[])
 nd : (Q.map (·.1)).Nodup
 lt : ∀ x ∈ Q,x.1 < n
 run : ∀ x ∈ Q,runP R 0 x.2 = x.1 ∧ ∀ l ∈ x.2,l < K
 ord : ∀ (i i' : Nat) (x y : Nat × List Nat),i < i' → Q[i]? = some x → Q[i']? = some y → ltT x.2 y.2
 met : ∀ (i : Nat) (x : Nat × List Nat) (l : Nat),Q[i]? = some x → l < K → gone j k i l → ∃ y ∈ Q,y.1 = trP R x.1 l ∧ leT y.2 (x.2 ++ [l])
 made : ∀ y ∈ Q,y = (0,[]) ∨ ∃ (i : Nat) (x : Nat × List Nat) (l : Nat),Q[i]? = some x ∧ l < K ∧ gone j k i l ∧ y = (trP R x.1 l,x.2 ++ [l])
 len : ∀ (i : Nat) (x : Nat × List Nat),Q[i]? = some x → x.2.length ≤ i
variable {n K : Nat} {R : List (List Nat)} {j k : Nat} {Q : List (Nat × List Nat)} {bs : List Bool} {acc : Bool}
theorem BfQ.few (h : BfQ n K R j k Q) : Q.length ≤ n := by
 have := q1M h.nd (fun x hx => by obtain ⟨y,hy,rfl⟩ := List.mem_map.1 hx; exact h.lt y hy)
 simpa using this
theorem q31 (hn : 0 < n) : BfQ n K R 0 0 [(0,[])] := by
 refine ⟨rfl,by simp,fun x hx => ?_,fun x hx => ?_,fun i i' x y hi hx hy => ?_,fun i x l hx hl hg => ?_,fun y hy => .inl (by simpa using hy),fun i x hx => ?_⟩
 ·simp only [List.mem_singleton] at hx; subst hx; exact hn
 ·simp only [List.mem_singleton] at hx; subst hx; exact ⟨rfl,fun l hl => by simp at hl⟩
 ·have := (List.getElem?_eq_some_iff.1 hy).1
  simp at this; omega
 ·unfold gone at hg; omega
 ·have h1 := (List.getElem?_eq_some_iff.1 hx).1
  simp at h1; subst h1
  simp at hx; subst hx; simp
theorem BfQ.made_le (h : BfQ n K R j k Q) (hK : K ≤ 256) {x : Nat × List Nat} (hx : Q[j]? = some x) {y : Nat × List Nat} (hy : y ∈ Q) : ltT y.2 (x.2 ++ [k]) := by
 rcases h.made y hy with e | ⟨i,x',l,h1,h2,h3,e⟩
 ·rw [e]; exact .inl (by simp)
 ·rw [e]
  rcases h3 with h3 | ⟨h3,h4⟩
  ·exact q1b (h.ord i j x' x h3 h1 hx) _ (by omega)
  ·subst h3
   rw [h1] at hx; injection hx with hx; subst hx
   exact q3t _ h4
theorem BfQ.skip (h : BfQ n K R j k Q) (hK : K ≤ 256) {x : Nat × List Nat} (hx : Q[j]? = some x) (hm : trP R x.1 k ∈ Q.map (·.1)) : BfQ n K R j (k + 1) Q := by
 refine ⟨h.zero,h.nd,h.lt,h.run,h.ord,fun i x' l h1 h2 h3 => ?_,fun y hy => ?_,h.len⟩
 ·by_cases e : gone j k i l
  ·exact h.met i x' l h1 h2 e
  ·obtain ⟨rfl,rfl⟩ : i = j ∧ l = k := by unfold gone at *; omega
   rw [h1] at hx; injection hx with hx; subst hx
   obtain ⟨y,hy,hy1⟩ := List.mem_map.1 hm
   exact ⟨y,hy,hy1,(h.made_le hK h1 hy).le⟩
 ·rcases h.made y hy with e | ⟨i,x',l,h1,h2,h3,e⟩
  ·exact .inl e
  ·exact .inr ⟨i,x',l,h1,h2,by unfold gone at *; omega,e⟩
theorem BfQ.push (h : BfQ n K R j k Q) (hR : RowsP n K R) (hK : K ≤ 256) {x : Nat × List Nat} (hx : Q[j]? = some x) (hk : k < K) (hm : trP R x.1 k ∉ Q.map (·.1)) : BfQ n K R j (k + 1) (Q ++ [(trP R x.1 k,x.2 ++ [k])]) := by
 have hj := (List.getElem?_eq_some_iff.1 hx).1
 have hxm : x ∈ Q := List.mem_of_getElem? hx
 have old : ∀ {i : Nat} {y : Nat × List Nat},Q[i]? = some y → (Q ++ [(trP R x.1 k,x.2 ++ [k])])[i]? = some y := fun {i y} e => by
  rw [List.getElem?_append_left (List.getElem?_eq_some_iff.1 e).1]; exact e
 have cut : ∀ {i : Nat} {y : Nat × List Nat},(Q ++ [(trP R x.1 k,x.2 ++ [k])])[i]? = some y → Q[i]? = some y ∨ i = Q.length ∧ y = (trP R x.1 k,x.2 ++ [k]) := fun {i y} e => by
  rw [List.getElem?_append] at e
  split at e
  ·exact .inl e
  ·have := (List.getElem?_eq_some_iff.1 e).1
   simp at this
   have e0 : i - Q.length = 0 := by omega
   rw [e0] at e
   simp at e
   exact .inr ⟨by omega,e.symm⟩
 refine ⟨old h.zero,?_,fun y hy => ?_,fun y hy => ?_,fun i i' y z hi hy hz => ?_,fun i y l h1 h2 h3 => ?_,fun y hy => ?_,fun i y hy => ?_⟩
 ·rw [List.map_append,List.nodup_append]
  exact ⟨h.nd,by simp,fun a ha b hb => by simp only [List.map_cons,List.map_nil,List.mem_singleton] at hb; subst hb; exact fun e => hm (e ▸ ha)⟩
 ·rcases List.mem_append.1 hy with hy | hy
  ·exact h.lt y hy
  ·simp only [List.mem_singleton] at hy; subst hy; exact hR.lt _ _ (h.lt x hxm) hk
 ·rcases List.mem_append.1 hy with hy | hy
  ·exact h.run y hy
  ·simp only [List.mem_singleton] at hy; subst hy
   refine ⟨by rw [qg,(h.run x hxm).1],fun l hl => ?_⟩
   rcases List.mem_append.1 hl with hl | hl
   ·exact (h.run x hxm).2 l hl
   ·simp only [List.mem_singleton] at hl; omega
 ·rcases cut hy with hy | ⟨hy,e⟩ <;> rcases cut hz with hz | ⟨hz,e'⟩
  ·exact h.ord i i' y z hi hy hz
  ·rw [e']; exact h.made_le hK hx (List.mem_of_getElem? hy)
  ·have := (List.getElem?_eq_some_iff.1 hz).1; omega
  ·omega
 ·rcases cut h1 with h0 | ⟨h0,_⟩
  ·clear h1
   have h1 := h0
   by_cases e : gone j k i l
   ·obtain ⟨z,hz,hz1⟩ := h.met i y l h1 h2 e
    exact ⟨z,List.mem_append_left _ hz,hz1⟩
   ·obtain ⟨rfl,rfl⟩ : i = j ∧ l = k := by unfold gone at *; omega
    rw [h1] at hx; injection hx with hx; subst hx
    exact ⟨_,List.mem_append_right _ (List.mem_singleton.2 rfl),rfl,.inr ⟨rfl,Nat.le_refl _⟩⟩
  ·unfold gone at h3; omega
 ·rcases List.mem_append.1 hy with hy | hy
  ·rcases h.made y hy with e | ⟨i,x',l,h1,h2,h3,e⟩
   ·exact .inl e
   ·exact .inr ⟨i,x',l,old h1,h2,by unfold gone at *; omega,e⟩
  ·simp only [List.mem_singleton] at hy; subst hy
   exact .inr ⟨j,x,k,old hx,hk,by unfold gone; omega,rfl⟩
 ·rcases cut hy with hy | ⟨hy,e⟩
  ·exact h.len i y hy
  ·rw [e,hy]
   have := h.len j x hx
   simp; omega
theorem BfQ.next (h : BfQ n K R j K Q) : BfQ n K R (j + 1) 0 Q := by
 refine ⟨h.zero,h.nd,h.lt,h.run,h.ord,fun i x l h1 h2 h3 => h.met i x l h1 h2 (by unfold gone at *; omega),fun y hy => ?_,h.len⟩
 rcases h.made y hy with e | ⟨i,x',l,h1,h2,h3,e⟩
 ·exact .inl e
 ·exact .inr ⟨i,x',l,h1,h2,by unfold gone at *; omega,e⟩
theorem BfQ.cover (h : BfQ n K R j k Q) (hk : k < 256) : ∀ (m : Nat) (v : List Nat),v.length = m → (∀ l ∈ v,l < K) → (∃ (i : Nat) (y : Nat × List Nat),Q[i]? = some y ∧ y.1 = runP R 0 v ∧ leT y.2 v) ∨ ∃ x,Q[j]? = some x ∧ leT (x.2 ++ [k]) v
 | 0,v,hv,_ => by
  obtain rfl := List.eq_nil_of_length_eq_zero hv
  exact .inl ⟨0,_,h.zero,rfl,q3H _⟩
 | m + 1,v,hv,hl => by
  obtain ⟨v',l,rfl⟩ := snocT (u := v) (fun e => by rw [e] at hv; simp at hv)
  have hlK : l < K := hl l (by simp)
  rcases h.cover hk m v' (by simpa using hv) (fun x hx => hl x (by simp [hx])) with ⟨i,y,h1,h2,h3⟩ | ⟨x,h1,h2⟩
  ·by_cases e : gone j k i l
   ·obtain ⟨z,hz,z1,z2⟩ := h.met i y l h1 hlK e
    obtain ⟨iz,hiz⟩ := List.getElem?_of_mem hz
    exact .inl ⟨iz,z,hiz,by rw [z1,qg,h2],z2.trans (qu h3 (Nat.le_refl _))⟩
   ·have hj : j ≤ i := by unfold gone at e; omega
    have hi := (List.getElem?_eq_some_iff.1 h1).1
    by_cases ej : i = j
    ·subst ej
     exact .inr ⟨y,h1,qu h3 (by unfold gone at e; omega)⟩
    ·refine .inr ⟨Q[j]'(by omega),List.getElem?_eq_getElem (by omega),?_⟩
     have o := h.ord j i _ y (by omega) (List.getElem?_eq_getElem (by omega)) h1
     exact (q1b o l hk).le.trans (qu h3 (Nat.le_refl _))
  ·exact .inr ⟨x,h1,h2.trans (q2E _ _)⟩
theorem BfQ.cover2 (h : BfQ n K R j k Q) (hk : k < 256) (v : List Nat) (hv : ∀ l ∈ v,l < K) (l : Nat) : (∃ (i : Nat) (y : Nat × List Nat),Q[i]? = some y ∧ y.1 = runP R 0 v ∧ gone j k i l) ∨ ∃ x,Q[j]? = some x ∧ leT (x.2 ++ [k]) (v ++ [l]) := by
 rcases h.cover hk _ v rfl hv with ⟨i,y,h1,h2,h3⟩ | ⟨x,h1,h2⟩
 ·by_cases e : gone j k i l
  ·exact .inl ⟨i,y,h1,h2,e⟩
  ·have hj : j ≤ i := by unfold gone at e; omega
   have hi := (List.getElem?_eq_some_iff.1 h1).1
   by_cases ej : i = j
   ·subst ej
    exact .inr ⟨y,h1,qu h3 (by unfold gone at e; omega)⟩
   ·refine .inr ⟨Q[j]'(by omega),List.getElem?_eq_getElem (by omega),?_⟩
    have o := h.ord j i _ y (by omega) (List.getElem?_eq_getElem (by omega)) h1
    exact (q1b o l hk).le.trans (qu h3 (Nat.le_refl _))
 ·exact .inr ⟨x,h1,h2.trans (q2E _ _)⟩
def NoQ (K : Nat) (R : List (List Nat)) (bs : List Bool) (acc : Bool) (j k : Nat) (Q : List (Nat × List Nat)) : Prop := ∀ (i : Nat) (x : Nat × List Nat) (l : Nat),Q[i]? = some x → l < K → gone j k i l → bs.getD (trP R x.1 l) false ≠ acc
theorem q37 (Q : List (Nat × List Nat)) : NoQ K R bs acc 0 0 Q := fun i x l _ _ h => by unfold gone at h; omega
theorem NoQ.skip (h : NoQ K R bs acc j k Q) {x : Nat × List Nat} (hx : Q[j]? = some x) (hn : bs.getD (trP R x.1 k) false ≠ acc) : NoQ K R bs acc j (k + 1) Q := fun i y l h1 h2 h3 => by
 by_cases e : gone j k i l
 ·exact h i y l h1 h2 e
 ·obtain ⟨rfl,rfl⟩ : i = j ∧ l = k := by unfold gone at *; omega
  rw [h1] at hx; injection hx with hx; subst hx; exact hn
theorem NoQ.push (h : NoQ K R bs acc j k Q) (hj : j < Q.length) (z : Nat × List Nat) : NoQ K R bs acc j k (Q ++ [z]) := fun i y l h1 h2 h3 => by
 rw [List.getElem?_append] at h1
 split at h1
 ·exact h i y l h1 h2 h3
 ·unfold gone at *; omega
theorem NoQ.next (h : NoQ K R bs acc j K Q) : NoQ K R bs acc (j + 1) 0 Q := fun i y l h1 h2 h3 => h i y l h1 h2 (by unfold gone at *; omega)
def FirA (n K : Nat) (R : List (List Nat)) (bs : List Bool) (acc : Bool) (ts : List Nat) (is : Bool) : Prop :=
 (is = true ∧ ts ≠ [] ∧ (∀ l ∈ ts,l < K) ∧ bs.getD (runP R 0 ts) false = acc ∧ ts.length ≤ n ∧ (bs.getD 0 false ≠ acc → ts.length < n) ∧ ∀ u,u ≠ [] → (∀ l ∈ u,l < K) → bs.getD (runP R 0 u) false = acc → ¬ ltT u ts) ∨
  (is = false ∧ ts = [] ∧ ∀ u,u ≠ [] → (∀ l ∈ u,l < K) → bs.getD (runP R 0 u) false ≠ acc)
theorem BfQ.found (h : BfQ n K R j k Q) (hR : RowsP n K R) (hK : K ≤ 256) (hN : NoQ K R bs acc j k Q) {x : Nat × List Nat} (hx : Q[j]? = some x) (hk : k < K) (ha : bs.getD (trP R x.1 k) false = acc) : FirA n K R bs acc (x.2 ++ [k]) true := by
 have hj := (List.getElem?_eq_some_iff.1 hx).1
 have hxm : x ∈ Q := List.mem_of_getElem? hx
 have hl := h.len j x hx
 have hf := h.few
 refine .inl ⟨rfl,by simp,fun l hl => ?_,by rw [qg,(h.run x hxm).1,ha],by simp; omega,fun h0 => ?_,fun u hu hlu hau hlt => ?_⟩
 ·rcases List.mem_append.1 hl with hl | hl
  ·exact (h.run x hxm).2 l hl
  ·simp only [List.mem_singleton] at hl; omega
 ·have hnew : trP R x.1 k ∉ Q.map (·.1) := fun hm => by
   obtain ⟨y,hy,hy1⟩ := List.mem_map.1 hm
   rcases h.made y hy with e | ⟨i,x',l,h1,h2,h3,e⟩
   ·rw [e] at hy1; dsimp only at hy1; rw [← hy1] at ha; exact h0 ha
   ·rw [e] at hy1; dsimp only at hy1; exact hN i x' l h1 h2 h3 (by rw [hy1]; exact ha)
  have := q1M (n := n) (l := trP R x.1 k :: Q.map (·.1)) (List.nodup_cons.2 ⟨hnew,h.nd⟩) (fun y hy => by
   rcases List.mem_cons.1 hy with e | hy
   ·rw [e]; exact hR.lt _ _ (h.lt x hxm) hk
   ·obtain ⟨z,hz,rfl⟩ := List.mem_map.1 hy; exact h.lt z hz)
  simp at this ⊢; omega
 ·obtain ⟨v,l,rfl⟩ := snocT hu
  rcases h.cover2 (by omega) v (fun y hy => hlu y (by simp [hy])) l with ⟨i,y,h1,h2,h3⟩ | ⟨x',h1,h2⟩
  ·refine hN i y l h1 (hlu l (by simp)) h3 ?_
   rw [h2,← qg]; exact hau
  ·rw [h1] at hx; injection hx with hx; subst hx
   exact h2.not hlt
theorem BfQ.none (h : BfQ n K R j 0 Q) (hN : NoQ K R bs acc j 0 Q) (hj : Q.length ≤ j) : FirA n K R bs acc [] false := by
 refine .inr ⟨rfl,rfl,fun u hu hlu hau => ?_⟩
 obtain ⟨v,l,rfl⟩ := snocT hu
 rcases h.cover2 (by omega) v (fun y hy => hlu y (by simp [hy])) l with ⟨i,y,h1,h2,h3⟩ | ⟨x',h1,h2⟩
 ·refine hN i y l h1 (hlu l (by simp)) h3 ?_
  rw [h2,← qg]; exact hau
 ·rw [List.getElem?_eq_none hj] at h1; cases h1
variable {n K : Nat} {R F : List (List Nat)} {bs : List Bool}
def cntP (R : List (List Nat)) (bs : List Bool) : Nat → Nat → Nat
 | 0,s => if bs.getD s false then 1 else 0
 | m + 1,s => ((R.getD s []).map (cntP R bs m)).sum
end Go.Proofs.Ytfbefloajnkhiaa
namespace Go.Proofs.Ytfbefloajnkhiaa
open Go.RowKit Go.Maps
def fitsB (n l : Int) : Bool := decide (0 ≤ n ∧ n ≤ 8) && (l / 2 ^ n.toNat == 0)
theorem q2A {n l : Int} (h : n < 0 ∨ 8 < n) : fitsB n l = false := by
 unfold fitsB; rw [decide_eq_false (by omega)]; rfl
theorem q2B {n l : Int} (h0 : 0 ≤ n) (h8 : n ≤ 8) : fitsB n l = (l / 2 ^ n.toNat == 0) := by
 unfold fitsB; rw [decide_eq_true ⟨h0,h8⟩]; rfl
theorem qM (n l : Int) (w : World) :
  Calls Try.prog 30 #[.int .i64 n,.int .u8 l] w fun e w' => e = .returned (.bool (fitsB n l)) ∧ w' = w := by
 by_cases h0 : 0 ≤ n
 ·by_cases h8 : n ≤ 8
  ·have HX : Hid _ := q2B (l := l) h0 h8
   go_enter Try.func30,Try.ntmps30
   go_wp2
   go_ret
   exact ⟨by rw [HX.out]; rfl,rfl⟩
  ·have HX : Hid _ := q2A (n := n) (l := l) (by omega)
   go_enter Try.func30,Try.ntmps30
   go_wp2
   go_ret
   exact ⟨by rw [HX.out]; rfl,rfl⟩
 ·have HX : Hid _ := q2A (n := n) (l := l) (by omega)
  go_enter Try.func30,Try.ntmps30
  go_wp2
  go_ret
  exact ⟨by rw [HX.out]; rfl,rfl⟩
end Go.Proofs.Ytfbefloajnkhiaa
namespace Go.Proofs.Ytfbefloajnkhiaa
theorem q3B {α : Type} {Q : List α} {j : Nat} (h : j < Q.length) (d : α) : Q.getD j d = Q[j] := by
 rw [List.getD_eq_getElem?_getD,List.getElem?_eq_getElem h]; rfl
variable {n K : Nat} {R : List (List Nat)} {bs : List Bool}
theorem q33 {Q : List Nat} {j : Nat} (hj : j < Q.length) : Q.getD j 0 ∈ Q := by
 rw [List.getD_eq_getElem?_getD,List.getElem?_eq_getElem hj]; exact List.getElem_mem _
variable {c : Nat → Nat} {Q F : List Nat}
variable {n K : Nat} {R : List (List Nat)} {bs : List Bool} {c : Nat → Nat}
theorem q3g {Q : List Nat} {i : Nat} (h : i < Q.length) : Q.take (i + 1) = Q.take i ++ [Q.getD i 0] := by
 rw [List.take_add_one,List.getElem?_eq_getElem h,List.getD_eq_getElem?_getD,List.getElem?_eq_getElem h]; rfl
def laN : List Gd := [(0,-1,-2)]
def laG : List Int := [0,-2]
def laB : List Bool := [false,true]
def laR : List (List Nat) := [[0,1],[1,1]]
theorem qT : rowsG laN laG (2 ^ (1 : Int).toNat) = laR := by decide +kernel
theorem q1j : MayG 1 2 laN laG := by
 refine ⟨by decide,by decide,by decide,by decide,rfl,by decide,fun i P lo hi e => ?_,by decide,fun g hg => ?_⟩
 ·match i with
  | 0 =>
   simp [laN] at e
   obtain ⟨rfl,rfl,rfl⟩ := e
   exact ⟨by decide,by decide,by decide,.inl ⟨by decide,by decide⟩,.inl ⟨by decide,by decide⟩⟩
  | i + 1 => simp [laN] at e
 ·simp [laG] at hg
  rcases hg with rfl | rfl
  ·exact .inr ⟨0,rfl,by decide,_,rfl,by decide⟩
  ·exact .inl ⟨by decide,by decide⟩
theorem FirA.one {n K : Nat} {R : List (List Nat)} {bs : List Bool} {acc : Bool} {ts : List Nat} {is : Bool} (h : FirA n K R bs acc ts is) {l : Nat} (hl : l < K) (ha : bs.getD (trP R 0 l) false = acc) (hb : ∀ k,k < l → bs.getD (trP R 0 k) false ≠ acc) : ts = [l] ∧ is = true := by
 rcases h with ⟨h1,h2,h3,h4,_,_,h5⟩ | ⟨_,_,h3⟩
 ·have h6 := h5 [l] (by simp) (fun x hx => by simp at hx; omega) ha
  refine ⟨?_,h1⟩
  have hle : ts.length ≤ 1 := by
   unfold ltT at h6
   simp at h6
   omega
  match ts,h2 with
  | [x],_ =>
   have h7 : x ≤ l := by
    unfold ltT at h6
    simp [valT] at h6
    omega
   by_cases e : x = l
   ·rw [e]
   ·exact absurd h4 (hb x (by omega))
  | x :: y :: t,_ => simp at hle
 ·exact absurd ha (h3 [l] (by simp) (fun x hx => by simp at hx; omega))
def ahG : List Nat → List Nat → Bool
 | a :: u,b :: v => if a = b then ahG u v else decide (a < b)
 | _,_ => false
def ahL (u v : List Nat) : Bool := if u.length = v.length then ahG u v else decide (u.length < v.length)
theorem qS (u : List Nat) (a : Nat) : valT (a :: u) = a * 256 ^ u.length + valT u := by
 have : ∀ (u : List Nat) (x : Nat),u.foldl (fun x l => x * 256 + l) x = x * 256 ^ u.length + u.foldl (fun x l => x * 256 + l) 0 := by
  intro u
  induction u with
  | nil => intro x; simp
  | cons b u ih =>
   intro x
   rw [List.foldl_cons,ih,List.foldl_cons,ih (0 * 256 + b),List.length_cons,Nat.pow_succ,Nat.zero_mul,Nat.zero_add]
   generalize 256 ^ u.length = P
   rw [Nat.add_mul,Nat.mul_assoc,Nat.mul_comm 256 P]
   omega
 unfold valT
 rw [List.foldl_cons,this]
 simp
theorem q1F : ∀ (u : List Nat),(∀ l ∈ u,l < 256) → valT u < 256 ^ u.length
 | [],_ => by simp [valT]
 | a :: u,h => by
  have h1 := q1F u (fun l hl => h l (by simp [hl]))
  have h2 := h a (by simp)
  rw [qS,List.length_cons,Nat.pow_succ]
  generalize 256 ^ u.length = P at *
  have : a * P ≤ 255 * P := Nat.mul_le_mul_right _ (by omega)
  omega
theorem q2y : ∀ (u v : List Nat),u.length = v.length → (∀ l ∈ u,l < 256) → (∀ l ∈ v,l < 256) → (ahG u v = true ↔ valT u < valT v)
 | [],[],_,_,_ => by simp [ahG]
 | a :: u,b :: v,hl,hu,hv => by
  have hl' : u.length = v.length := by simpa using hl
  have ih := q2y u v hl' (fun l h => hu l (by simp [h])) (fun l h => hv l (by simp [h]))
  have h1 := q1F u (fun l h => hu l (by simp [h]))
  have h2 := q1F v (fun l h => hv l (by simp [h]))
  rw [ahG,qS,qS]
  rw [hl'] at *
  generalize 256 ^ v.length = P at *
  split
  ·rename_i e; subst e
   rw [ih]; omega
  ·rename_i e
   rw [decide_eq_true_iff]
   constructor
   ·intro h
    have : (a + 1) * P ≤ b * P := Nat.mul_le_mul_right _ (by omega)
    rw [Nat.add_mul] at this
    omega
   ·intro h
    by_cases hba : b < a
    ·have : (b + 1) * P ≤ a * P := Nat.mul_le_mul_right _ (by omega)
     rw [Nat.add_mul] at this
     omega
    ·omega
theorem q2z {u v : List Nat} (hu : ∀ l ∈ u,l < 256) (hv : ∀ l ∈ v,l < 256) : ahL u v = true ↔ ltT u v := by
 unfold ahL ltT
 split
 ·rename_i e
  rw [q2y u v e hu hv]
  constructor
  ·exact fun h => .inr ⟨e,h⟩
  ·rintro (h | ⟨_,h⟩)
   ·omega
   ·exact h
 ·rename_i e
  rw [decide_eq_true_iff]
  constructor
  ·exact .inl
  ·rintro (h | ⟨h,_⟩)
   ·exact h
   ·exact absurd h e
theorem q19 : ∀ (u v : List Nat) (k : Nat),u.length = v.length → (∀ i,i < k → u.getD i 0 = v.getD i 0) → k ≤ u.length → ahG u v = ahG (u.drop k) (v.drop k)
 | u,v,0,_,_,_ => rfl
 | [],v,k + 1,_,_,h => by simp at h
 | a :: u,[],k + 1,h,_,_ => by simp at h
 | a :: u,b :: v,k + 1,hl,h,hk => by
  have h0 : a = b := by simpa using h 0 (by omega)
  rw [ahG,if_pos h0,List.drop_succ_cons,List.drop_succ_cons]
  exact q19 u v k (by simpa using hl) (fun i hi => by simpa using h (i + 1) (by omega)) (by simpa using hk)
theorem q3R {u v : List Nat} {k : Nat} (hl : u.length = v.length) (hk : k < u.length) (h : ∀ i,i < k → u.getD i 0 = v.getD i 0) (hne : u.getD k 0 ≠ v.getD k 0) : ahG u v = decide (u.getD k 0 < v.getD k 0) := by
 have hk2 : k < v.length := by omega
 rw [q19 u v k hl h (Nat.le_of_lt hk),List.drop_eq_getElem_cons hk,List.drop_eq_getElem_cons hk2,ahG]
 have e1 : u.getD k 0 = u[k] := by rw [List.getD_eq_getElem?_getD,List.getElem?_eq_getElem hk]; rfl
 have e2 : v.getD k 0 = v[k] := by rw [List.getD_eq_getElem?_getD,List.getElem?_eq_getElem hk2]; rfl
 rw [e1,e2]; rw [e1,e2] at hne
 rw [if_neg hne]
theorem q3k {u v : List Nat} (hl : u.length = v.length) (h : ∀ i,i < u.length → u.getD i 0 = v.getD i 0) : ahG u v = false := by
 rw [q19 u v u.length hl h (Nat.le_refl _),List.drop_length]; rfl
end Go.Proofs.Ytfbefloajnkhiaa
