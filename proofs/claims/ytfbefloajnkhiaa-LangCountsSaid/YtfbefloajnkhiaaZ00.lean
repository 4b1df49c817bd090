/- Texts of the proof, put together: what it uses. -/
import Derived.WalkKit
import Derived.WalkSpells
import Derived.Maps.OwnSet
import Derived.Test.YtfbefloajnkhiaaProg
import Derived.WalkLawsBesides
import Derived.BigQuiet
import Derived.Deep.QuietTactic
import Derived.Laws.BitsAllLaws
set_option maxRecDepth 100000
set_option maxHeartbeats 16000000
namespace Go.Proofs.Ytfbefloajnkhiaa
open Go.RowKit Go.Maps
theorem q1j {B g : Nat} {a w : World} (h : Below B a w) (hg : B ≤ g) (cs : Array Value) : Below B a (w.setRow g cs) :=
 h.trans ⟨rfl,rfl,rfl,by simp,fun k hk => setRow_other _ _ _ _ (by omega)⟩
end Go.Proofs.Ytfbefloajnkhiaa
namespace Go.Proofs.Ytfbefloajnkhiaa
abbrev Gd := Int × Int × Int
def goG (N : List Gd) (x : Nat) : Nat → Int → Option Int
 | 0,r => if r < 0 then some (-1 - r) else none
 | k + 1,r => if r < 0 then some (-1 - r) else
  match N[r.toNat]? with
  | none => none
  | some (P,lo,hi) => if 0 ≤ P ∧ P ≤ 7 then goG N x k (if x.testBit P.toNat then hi else lo) else none
theorem q3T {N : List Gd} {x : Nat} {r : Int} (h : r < 0) : ∀ k,goG N x k r = some (-1 - r)
 | 0 => by simp [goG,h]
 | k + 1 => by simp [goG,h]
theorem q3j {N : List Gd} {x k i : Nat} {P lo hi : Int} (h : N[i]? = some (P,lo,hi)) (h0 : 0 ≤ P) (h7 : P ≤ 7) : goG N x (k + 1) (i : Int) = goG N x k (if x.testBit P.toNat then hi else lo) := by
 have hi : ¬ (i : Int) < 0 := by omega
 simp [goG,hi,h,h0,h7]
def FitG (m : Nat) (N : List Gd) (a : Nat) (p : Int) (r : Int) : Prop :=
 (r < 0 ∧ -(m : Int) ≤ r) ∨ ∃ i,r = ((i : Nat) : Int) ∧ i < a ∧ ∃ nd,N[i]? = some nd ∧ p < nd.1
theorem q5h {N N' : List Gd} (h : N <+: N') {nd : Gd} (hm : nd ∈ N) : N'.idxOf nd = N.idxOf nd := by
 obtain ⟨t,rfl⟩ := h
 simp [List.idxOf_append,hm]
theorem q5g {N : List Gd} {nd : Gd} (h : nd ∉ N) : (N ++ [nd]).idxOf nd = N.length := by
 simp [List.idxOf_append,h]
def tabT (N : List Gd) (r : Int) : Nat → Option (List Int)
 | 0 => some []
 | k + 1 => (tabT N r k).bind fun l => (goG N k 8 r).map fun v => l ++ [v]
theorem q41 {N : List Gd} {r : Int} {f : Nat → Int} : ∀ (k : Nat),(∀ x,x < k → goG N x 8 r = some (f x)) → tabT N r k = some ((List.range k).map f)
 | 0,_ => rfl
 | k + 1,h => by
  have h1 := q41 k (fun x hx => h x (by omega))
  simp only [tabT,h1,h k (by omega),List.range_succ]
  simp
theorem q2C {N : List Gd} {r : Int} {i : Nat} (h : goG N i 8 r = none) : ∀ (k : Nat),i < k → tabT N r k = none
 | 0,hi => by omega
 | k + 1,hi => by
  by_cases e : i = k
  ·subst e; simp only [tabT,h]; cases tabT N r i <;> rfl
  ·have h1 := q2C h k (by omega)
   simp only [tabT,h1]; rfl
structure MayG (props : Int) (ns : Nat) (N : List Gd) (gs : List Int) : Prop where
 p0 : 0 ≤ props
 p8 : props ≤ 8
 s1 : 1 ≤ ns
 s2 : ns ≤ 256
 len : gs.length = ns
 few : N.length ≤ 4096
 node : ∀ (i : Nat) (P lo hi : Int),N[i]? = some (P,lo,hi) → 0 ≤ P ∧ P < props ∧ lo ≠ hi ∧ FitG ns N i P lo ∧ FitG ns N i P hi
 once : N.Nodup
 gd : ∀ g ∈ gs,FitG ns N N.length (-1) g
def trP (R : List (List Nat)) (s l : Nat) : Nat := (R.getD s []).getD l 0
def runP (R : List (List Nat)) (s : Nat) (t : List Nat) : Nat := t.foldl (trP R) s
theorem q2B (R : List (List Nat)) (s l : Nat) (t : List Nat) : runP R s (l :: t) = runP R (trP R s l) t := rfl
theorem ql (R : List (List Nat)) (s l : Nat) (t : List Nat) : runP R s (t ++ [l]) = trP R (runP R s t) l := by simp [runP]
structure RowsP (n K : Nat) (R : List (List Nat)) : Prop where
 len : R.length = n
 row : ∀ s,s < n → (R.getD s []).length = K
 lt : ∀ s l,s < n → l < K → trP R s l < n
theorem RowsP.run {n K : Nat} {R : List (List Nat)} (h : RowsP n K R) : ∀ (t : List Nat) (s : Nat),s < n → (∀ l ∈ t,l < K) → runP R s t < n
 | [],s,hs,_ => hs
 | l :: t,s,hs,ht => by
  rw [q2B]
  exact h.run t _ (h.lt s l hs (ht l (by simp))) (fun x hx => ht x (by simp [hx]))
theorem q3k {m : Nat} {props : Int} {N : List Gd} (hp : props ≤ 8) (hN : ∀ (i : Nat) (P lo hi : Int),N[i]? = some (P,lo,hi) → 0 ≤ P ∧ P < props ∧ lo ≠ hi ∧ FitG m N i P lo ∧ FitG m N i P hi) (x : Nat) :
  ∀ (k a : Nat) (p r : Int),FitG m N a p r → 7 - p ≤ k → ∃ v : Nat,v < m ∧ goG N x k r = some (v : Int)
 | k,a,p,r,.inl ⟨h1,h2⟩,_ => ⟨(-1 - r).toNat,by omega,by rw [q3T h1]; congr 1; omega⟩
 | 0,a,p,r,.inr ⟨i,e,hi,nd,hn,hq⟩,hk => by
  obtain ⟨P,lo,hi'⟩ := nd
  have := hN i P lo hi' hn
  dsimp only at hq
  omega
 | k + 1,a,p,r,.inr ⟨i,e,hi,nd,hn,hq⟩,hk => by
  obtain ⟨P,lo,hi'⟩ := nd
  obtain ⟨h0,h1,_,h3,h4⟩ := hN i P lo hi' hn
  dsimp only at hq
  subst e
  rw [q3j hn h0 (by omega)]
  split
  ·exact q3k hp hN x k i P hi' h4 (by omega)
  ·exact q3k hp hN x k i P lo h3 (by omega)
def rowG (N : List Gd) (K : Nat) (r : Int) : List Nat := (List.range K).map fun x => ((goG N x 8 r).getD 0).toNat
def rowsG (N : List Gd) (gs : List Int) (K : Nat) : List (List Nat) := gs.map (rowG N K)
theorem qu {N : List Gd} {gs : List Int} {K s : Nat} (h : s < gs.length) : (rowsG N gs K).getD s [] = rowG N K (gs.getD s 0) := by
 simp [rowsG,List.getD_eq_getElem?_getD,List.getElem?_eq_getElem h]
theorem q3Z {N : List Gd} {K x : Nat} {r : Int} (h : x < K) : (rowG N K r).getD x 0 = ((goG N x 8 r).getD 0).toNat := by
 simp [rowG,List.getD_eq_getElem?_getD,h]
theorem q3u (N : List Gd) (K : Nat) (r : Int) : (rowG N K r).length = K := by simp [rowG]
theorem MayG.go {p : Int} {ns : Nat} {N : List Gd} {gs : List Int} (h : MayG p ns N gs) {s : Nat} (hs : s < ns) (x : Nat) : ∃ v : Nat,v < ns ∧ goG N x 8 (gs.getD s 0) = some (v : Int) := by
 have hl := h.len
 have hm : gs.getD s 0 ∈ gs := by
  rw [List.getD_eq_getElem?_getD,List.getElem?_eq_getElem (by omega),Option.getD_some]
  exact List.getElem_mem _
 exact q3k h.p8 h.node x 8 N.length (-1) _ (h.gd _ hm) (by omega)
theorem MayG.tr {p : Int} {ns : Nat} {N : List Gd} {gs : List Int} (h : MayG p ns N gs) {K s x : Nat} (hs : s < ns) (hx : x < K) : goG N x 8 (gs.getD s 0) = some ((trP (rowsG N gs K) s x : Nat) : Int) := by
 obtain ⟨v,hv,e⟩ := h.go hs x
 have hl := h.len
 rw [trP,qu (by omega),q3Z hx,e]
 simp
theorem MayG.rows {p : Int} {ns : Nat} {N : List Gd} {gs : List Int} (h : MayG p ns N gs) (K : Nat) : RowsP ns K (rowsG N gs K) := by
 have hl := h.len
 refine ⟨by simp [rowsG,hl],fun s hs => by rw [qu (by omega),q3u],fun s l hs hlk => ?_⟩
 obtain ⟨v,hv,e⟩ := h.go hs l
 rw [trP,qu (by omega),q3Z hlk,e]
 simpa using hv
theorem MayG.tab {p : Int} {ns : Nat} {N : List Gd} {gs : List Int} (h : MayG p ns N gs) {K s : Nat} (hs : s < ns) : tabT N (gs.getD s 0) K = some (((rowsG N gs K).getD s []).map Int.ofNat) := by
 have hl := h.len
 rw [qu (by omega),q41 (f := fun x => ((trP (rowsG N gs K) s x : Nat) : Int)) K (fun x hx => h.tr hs hx),rowG,List.map_map]
 congr 1
 apply List.map_congr_left
 intro x hx
 have hx' := List.mem_range.1 hx
 have e := h.tr hs hx'
 simp only [Function.comp_apply,e,Option.getD_some,Int.toNat_natCast]
 rfl
variable {n K : Nat} {R : List (List Nat)} {bs : List Bool}
theorem q2z {α : Type} : ∀ {l m : List α},l.Nodup → (∀ x ∈ l,x ∈ m) → l.length ≤ m.length
 | [],m,_,_ => Nat.zero_le _
 | a :: l,m,hn,hs => by
  obtain ⟨m1,m2,rfl⟩ := List.append_of_mem (hs a (by simp))
  obtain ⟨ha,hn⟩ := List.nodup_cons.1 hn
  have : l.length ≤ (m1 ++ m2).length := q2z hn fun x hx => by
   have := hs x (by simp [hx])
   simp only [List.mem_append,List.mem_cons] at this ⊢
   rcases this with h | rfl | h
   ·exact .inl h
   ·exact absurd hx ha
   ·exact .inr h
  simp only [List.length_append,List.length_cons] at this ⊢
  omega
theorem qS {n : Nat} {l : List Nat} (h : l.Nodup) (hl : ∀ x ∈ l,x < n) : l.length ≤ n := by
 have := q2z h (m := List.range n) (fun x hx => List.mem_range.2 (hl x hx))
 simpa using this
abbrev PrP := Nat × Nat × Nat × Nat
variable {n K : Nat} {R : List (List Nat)} {bs : List Bool} {p q i k : Nat} {Q : List PrP}
def valT (u : List Nat) : Nat := u.foldl (fun x l => x * 256 + l) 0
theorem qh (u : List Nat) (l : Nat) : valT (u ++ [l]) = valT u * 256 + l := by simp [valT]
def ltT (u v : List Nat) : Prop := u.length < v.length ∨ u.length = v.length ∧ valT u < valT v
def leT (u v : List Nat) : Prop := u.length < v.length ∨ u.length = v.length ∧ valT u ≤ valT v
theorem leT.not {u v : List Nat} (h : leT u v) : ¬ ltT v u := by unfold leT ltT at *; omega
theorem leT.trans {u v x : List Nat} (h : leT u v) (h' : leT v x) : leT u x := by unfold leT at *; omega
theorem ltT.le {u v : List Nat} (h : ltT u v) : leT u v := by unfold leT ltT at *; omega
theorem leT.len {u v : List Nat} (h : leT u v) : u.length ≤ v.length := by unfold leT at h; omega
theorem qK {u v : List Nat} (h : leT u v) {k l : Nat} (hk : k ≤ l) : leT (u ++ [k]) (v ++ [l]) := by
 unfold leT at *; rw [qh,qh,List.length_append,List.length_append,List.length_singleton,List.length_singleton]; omega
theorem q1C {u v : List Nat} (h : ltT u v) {k : Nat} (l : Nat) (hk : k < 256) : ltT (u ++ [k]) (v ++ [l]) := by
 unfold ltT at *; rw [qh,qh,List.length_append,List.length_append,List.length_singleton,List.length_singleton]; omega
theorem q50 (u : List Nat) {k l : Nat} (hk : k < l) : ltT (u ++ [k]) (u ++ [l]) := by
 unfold ltT; rw [qh,qh,List.length_append,List.length_append,List.length_singleton,List.length_singleton]; omega
theorem q3V (u : List Nat) (l : Nat) : leT u (u ++ [l]) := by unfold leT; rw [List.length_append,List.length_singleton]; omega
theorem q5j (u : List Nat) : leT [] u := by
 cases u with
 | nil => exact .inr ⟨rfl,Nat.le_refl _⟩
 | cons a u => exact .inl (by simp)
theorem snocT {u : List Nat} (h : u ≠ []) : ∃ v l,u = v ++ [l] := ⟨u.dropLast,u.getLast h,(List.dropLast_concat_getLast h).symm⟩
abbrev gone (j k i l : Nat) : Prop := i < j ∨ i = j ∧ l < k
structure BfQ (n K : Nat) (R : List (List Nat)) (j k : Nat) (Q : List (Nat × List Nat)) : Prop where
 zero : Q[0]? = some (0,[])
 nd : (Q.map (·.1)).Nodup
 lt : ∀ x ∈ Q,x.1 < n
 run : ∀ x ∈ Q,runP R 0 x.2 = x.1 ∧ ∀ l ∈ x.2,l < K
 ord : ∀ (i i' : Nat) (x y : Nat × List Nat),i < i' → Q[i]? = some x → Q[i']? = some y → ltT x.2 y.2
 met : ∀ (i : Nat) (x : Nat × List Nat) (l : Nat),Q[i]? = some x → l < K → gone j k i l → ∃ y ∈ Q,y.1 = trP R x.1 l ∧ leT y.2 (x.2 ++ [l])
 made : ∀ y ∈ Q,y = (0,[]) ∨ ∃ (i : Nat) (x : Nat × List Nat) (l : Nat),Q[i]? = some x ∧ l < K ∧ gone j k i l ∧ y = (trP R x.1 l,x.2 ++ [l])
 len : ∀ (i : Nat) (x : Nat × List Nat),Q[i]? = some x → x.2.length ≤ i
variable {n K : Nat} {R : List (List Nat)} {j k : Nat} {Q : List (Nat × List Nat)} {bs : List Bool} {acc : Bool}
theorem BfQ.few (h : BfQ n K R j k Q) : Q.length ≤ n := by
 have := qS h.nd (fun x hx => by obtain ⟨y,hy,rfl⟩ := List.mem_map.1 hx; exact h.lt y hy)
 simpa using this
theorem q2s (hn : 0 < n) : BfQ n K R 0 0 [(0,[])] := by
 refine ⟨rfl,by simp,fun x hx => ?_,fun x hx => ?_,fun i i' x y hi hx hy => ?_,fun i x l hx hl hg => ?_,fun y hy => .inl (by simpa using hy),fun i x hx => ?_⟩
 ·simp only [List.mem_singleton] at hx; subst hx; exact hn
 ·simp only [List.mem_singleton] at hx; subst hx; exact ⟨rfl,fun l hl => by simp at hl⟩
 ·have := (List.getElem?_eq_some_iff.1 hy).1
  simp at this; omega
 ·unfold gone at hg; omega
 ·have h1 := (List.getElem?_eq_some_iff.1 hx).1
  simp at h1; subst h1
  simp at hx; subst hx; simp
theorem BfQ.made_le (h : BfQ n K R j k Q) (hK : K ≤ 256) {x : Nat × List Nat} (hx : Q[j]? = some x) {y : Nat × List Nat} (hy : y ∈ Q) : ltT y.2 (x.2 ++ [k]) := by
 rcases h.made y hy with e | ⟨i,x',l,h1,h2,h3,e⟩
 ·rw [e]; exact .inl (by simp)
 ·rw [e]
  rcases h3 with h3 | ⟨h3,h4⟩
  ·exact q1C (h.ord i j x' x h3 h1 hx) _ (by omega)
  ·subst h3
   rw [h1] at hx; injection hx with hx; subst hx
   exact q50 _ h4
theorem BfQ.skip (h : BfQ n K R j k Q) (hK : K ≤ 256) {x : Nat × List Nat} (hx : Q[j]? = some x) (hm : trP R x.1 k ∈ Q.map (·.1)) : BfQ n K R j (k + 1) Q := by
 refine ⟨h.zero,h.nd,h.lt,h.run,h.ord,fun i x' l h1 h2 h3 => ?_,fun y hy => ?_,h.len⟩
 ·by_cases e : gone j k i l
  ·exact h.met i x' l h1 h2 e
  ·obtain ⟨rfl,rfl⟩ : i = j ∧ l = k := by unfold gone at *; omega
   rw [h1] at hx; injection hx with hx; subst hx
   obtain ⟨y,hy,hy1⟩ := List.mem_map.1 hm
   exact ⟨y,hy,hy1,(h.made_le hK h1 hy).le⟩
 ·rcases h.made y hy with e | ⟨i,x',l,h1,h2,h3,e⟩
  ·exact .inl e
  ·exact .inr ⟨i,x',l,h1,h2,by unfold gone at *; omega,e⟩
theorem BfQ.push (h : BfQ n K R j k Q) (hR : RowsP n K R) (hK : K ≤ 256) {x : Nat × List Nat} (hx : Q[j]? = some x) (hk : k < K) (hm : trP R x.1 k ∉ Q.map (·.1)) : BfQ n K R j (k + 1) (Q ++ [(trP R x.1 k,x.2 ++ [k])]) := by
 have hj := (List.getElem?_eq_some_iff.1 hx).1
 have hxm : x ∈ Q := List.mem_of_getElem? hx
 have old : ∀ {i : Nat} {y : Nat × List Nat},Q[i]? = some y → (Q ++ [(trP R x.1 k,x.2 ++ [k])])[i]? = some y := fun {i y} e => by
  rw [List.getElem?_append_left (List.getElem?_eq_some_iff.1 e).1]; exact e
 have cut : ∀ {i : Nat} {y : Nat × List Nat},(Q ++ [(trP R x.1 k,x.2 ++ [k])])[i]? = some y → Q[i]? = some y ∨ i = Q.length ∧ y = (trP R x.1 k,x.2 ++ [k]) := fun {i y} e => by
  rw [List.getElem?_append] at e
  split at e
  ·exact .inl e
  ·have := (List.getElem?_eq_some_iff.1 e).1
   simp at this
   have e0 : i - Q.length = 0 := by omega
   rw [e0] at e
   simp at e
   exact .inr ⟨by omega,e.symm⟩
 refine ⟨old h.zero,?_,fun y hy => ?_,fun y hy => ?_,fun i i' y z hi hy hz => ?_,fun i y l h1 h2 h3 => ?_,fun y hy => ?_,fun i y hy => ?_⟩
 ·rw [List.map_append,List.nodup_append]
  exact ⟨h.nd,by simp,fun a ha b hb => by simp only [List.map_cons,List.map_nil,List.mem_singleton] at hb; subst hb; exact fun e => hm (e ▸ ha)⟩
 ·rcases List.mem_append.1 hy with hy | hy
  ·exact h.lt y hy
  ·simp only [List.mem_singleton] at hy; subst hy; exact hR.lt _ _ (h.lt x hxm) hk
 ·rcases List.mem_append.1 hy with hy | hy
  ·exact h.run y hy
  ·simp only [List.mem_singleton] at hy; subst hy
   refine ⟨by rw [ql,(h.run x hxm).1],fun l hl => ?_⟩
   rcases List.mem_append.1 hl with hl | hl
   ·exact (h.run x hxm).2 l hl
   ·simp only [List.mem_singleton] at hl; omega
 ·rcases cut hy with hy | ⟨hy,e⟩ <;> rcases cut hz with hz | ⟨hz,e'⟩
  ·exact h.ord i i' y z hi hy hz
  ·rw [e']; exact h.made_le hK hx (List.mem_of_getElem? hy)
  ·have := (List.getElem?_eq_some_iff.1 hz).1; omega
  ·omega
 ·rcases cut h1 with h0 | ⟨h0,_⟩
  ·clear h1
   have h1 := h0
   by_cases e : gone j k i l
   ·obtain ⟨z,hz,hz1⟩ := h.met i y l h1 h2 e
    exact ⟨z,List.mem_append_left _ hz,hz1⟩
   ·obtain ⟨rfl,rfl⟩ : i = j ∧ l = k := by unfold gone at *; omega
    rw [h1] at hx; injection hx with hx; subst hx
    exact ⟨_,List.mem_append_right _ (List.mem_singleton.2 rfl),rfl,.inr ⟨rfl,Nat.le_refl _⟩⟩
  ·unfold gone at h3; omega
 ·rcases List.mem_append.1 hy with hy | hy
  ·rcases h.made y hy with e | ⟨i,x',l,h1,h2,h3,e⟩
   ·exact .inl e
   ·exact .inr ⟨i,x',l,old h1,h2,by unfold gone at *; omega,e⟩
  ·simp only [List.mem_singleton] at hy; subst hy
   exact .inr ⟨j,x,k,old hx,hk,by unfold gone; omega,rfl⟩
 ·rcases cut hy with hy | ⟨hy,e⟩
  ·exact h.len i y hy
  ·rw [e,hy]
   have := h.len j x hx
   simp; omega
theorem BfQ.next (h : BfQ n K R j K Q) : BfQ n K R (j + 1) 0 Q := by
 refine ⟨h.zero,h.nd,h.lt,h.run,h.ord,fun i x l h1 h2 h3 => h.met i x l h1 h2 (by unfold gone at *; omega),fun y hy => ?_,h.len⟩
 rcases h.made y hy with e | ⟨i,x',l,h1,h2,h3,e⟩
 ·exact .inl e
 ·exact .inr ⟨i,x',l,h1,h2,by unfold gone at *; omega,e⟩
theorem BfQ.cover (h : BfQ n K R j k Q) (hk : k < 256) : ∀ (m : Nat) (v : List Nat),v.length = m → (∀ l ∈ v,l < K) → (∃ (i : Nat) (y : Nat × List Nat),Q[i]? = some y ∧ y.1 = runP R 0 v ∧ leT y.2 v) ∨ ∃ x,Q[j]? = some x ∧ leT (x.2 ++ [k]) v
 | 0,v,hv,_ => by
  obtain rfl := List.eq_nil_of_length_eq_zero hv
  exact .inl ⟨0,_,h.zero,rfl,q5j _⟩
 | m + 1,v,hv,hl => by
  obtain ⟨v',l,rfl⟩ := snocT (u := v) (fun e => by rw [e] at hv; simp at hv)
  have hlK : l < K := hl l (by simp)
  rcases h.cover hk m v' (by simpa using hv) (fun x hx => hl x (by simp [hx])) with ⟨i,y,h1,h2,h3⟩ | ⟨x,h1,h2⟩
  ·by_cases e : gone j k i l
   ·obtain ⟨z,hz,z1,z2⟩ := h.met i y l h1 hlK e
    obtain ⟨iz,hiz⟩ := List.getElem?_of_mem hz
    exact .inl ⟨iz,z,hiz,by rw [z1,ql,h2],z2.trans (qK h3 (Nat.le_refl _))⟩
   ·have hj : j ≤ i := by unfold gone at e; omega
    have hi := (List.getElem?_eq_some_iff.1 h1).1
    by_cases ej : i = j
    ·subst ej
     exact .inr ⟨y,h1,qK h3 (by unfold gone at e; omega)⟩
    ·refine .inr ⟨Q[j]'(by omega),List.getElem?_eq_getElem (by omega),?_⟩
     have o := h.ord j i _ y (by omega) (List.getElem?_eq_getElem (by omega)) h1
     exact (q1C o l hk).le.trans (qK h3 (Nat.le_refl _))
  ·exact .inr ⟨x,h1,h2.trans (q3V _ _)⟩
theorem BfQ.cover2 (h : BfQ n K R j k Q) (hk : k < 256) (v : List Nat) (hv : ∀ l ∈ v,l < K) (l : Nat) : (∃ (i : Nat) (y : Nat × List Nat),Q[i]? = some y ∧ y.1 = runP R 0 v ∧ gone j k i l) ∨ ∃ x,Q[j]? = some x ∧ leT (x.2 ++ [k]) (v ++ [l]) := by
 rcases h.cover hk _ v rfl hv with ⟨i,y,h1,h2,h3⟩ | ⟨x,h1,h2⟩
 ·by_cases e : gone j k i l
  ·exact .inl ⟨i,y,h1,h2,e⟩
  ·have hj : j ≤ i := by unfold gone at e; omega
   have hi := (List.getElem?_eq_some_iff.1 h1).1
   by_cases ej : i = j
   ·subst ej
    exact .inr ⟨y,h1,qK h3 (by unfold gone at e; omega)⟩
   ·refine .inr ⟨Q[j]'(by omega),List.getElem?_eq_getElem (by omega),?_⟩
    have o := h.ord j i _ y (by omega) (List.getElem?_eq_getElem (by omega)) h1
    exact (q1C o l hk).le.trans (qK h3 (Nat.le_refl _))
 ·exact .inr ⟨x,h1,h2.trans (q3V _ _)⟩
def NoQ (K : Nat) (R : List (List Nat)) (bs : List Bool) (acc : Bool) (j k : Nat) (Q : List (Nat × List Nat)) : Prop := ∀ (i : Nat) (x : Nat × List Nat) (l : Nat),Q[i]? = some x → l < K → gone j k i l → bs.getD (trP R x.1 l) false ≠ acc
theorem q4B (Q : List (Nat × List Nat)) : NoQ K R bs acc 0 0 Q := fun i x l _ _ h => by unfold gone at h; omega
theorem NoQ.skip (h : NoQ K R bs acc j k Q) {x : Nat × List Nat} (hx : Q[j]? = some x) (hn : bs.getD (trP R x.1 k) false ≠ acc) : NoQ K R bs acc j (k + 1) Q := fun i y l h1 h2 h3 => by
 by_cases e : gone j k i l
 ·exact h i y l h1 h2 e
 ·obtain ⟨rfl,rfl⟩ : i = j ∧ l = k := by unfold gone at *; omega
  rw [h1] at hx; injection hx with hx; subst hx; exact hn
theorem NoQ.push (h : NoQ K R bs acc j k Q) (hj : j < Q.length) (z : Nat × List Nat) : NoQ K R bs acc j k (Q ++ [z]) := fun i y l h1 h2 h3 => by
 rw [List.getElem?_append] at h1
 split at h1
 ·exact h i y l h1 h2 h3
 ·unfold gone at *; omega
theorem NoQ.next (h : NoQ K R bs acc j K Q) : NoQ K R bs acc (j + 1) 0 Q := fun i y l h1 h2 h3 => h i y l h1 h2 (by unfold gone at *; omega)
def FirA (n K : Nat) (R : List (List Nat)) (bs : List Bool) (acc : Bool) (ts : List Nat) (is : Bool) : Prop :=
 (is = true ∧ ts ≠ [] ∧ (∀ l ∈ ts,l < K) ∧ bs.getD (runP R 0 ts) false = acc ∧ ts.length ≤ n ∧ (bs.getD 0 false ≠ acc → ts.length < n) ∧ ∀ u,u ≠ [] → (∀ l ∈ u,l < K) → bs.getD (runP R 0 u) false = acc → ¬ ltT u ts) ∨
  (is = false ∧ ts = [] ∧ ∀ u,u ≠ [] → (∀ l ∈ u,l < K) → bs.getD (runP R 0 u) false ≠ acc)
theorem BfQ.found (h : BfQ n K R j k Q) (hR : RowsP n K R) (hK : K ≤ 256) (hN : NoQ K R bs acc j k Q) {x : Nat × List Nat} (hx : Q[j]? = some x) (hk : k < K) (ha : bs.getD (trP R x.1 k) false = acc) : FirA n K R bs acc (x.2 ++ [k]) true := by
 have hj := (List.getElem?_eq_some_iff.1 hx).1
 have hxm : x ∈ Q := List.mem_of_getElem? hx
 have hl := h.len j x hx
 have hf := h.few
 refine .inl ⟨rfl,by simp,fun l hl => ?_,by rw [ql,(h.run x hxm).1,ha],by simp; omega,fun h0 => ?_,fun u hu hlu hau hlt => ?_⟩
 ·rcases List.mem_append.1 hl with hl | hl
  ·exact (h.run x hxm).2 l hl
  ·simp only [List.mem_singleton] at hl; omega
 ·have hnew : trP R x.1 k ∉ Q.map (·.1) := fun hm => by
   obtain ⟨y,hy,hy1⟩ := List.mem_map.1 hm
   rcases h.made y hy with e | ⟨i,x',l,h1,h2,h3,e⟩
   ·rw [e] at hy1; dsimp only at hy1; rw [← hy1] at ha; exact h0 ha
   ·rw [e] at hy1; dsimp only at hy1; exact hN i x' l h1 h2 h3 (by rw [hy1]; exact ha)
  have := qS (n := n) (l := trP R x.1 k :: Q.map (·.1)) (List.nodup_cons.2 ⟨hnew,h.nd⟩) (fun y hy => by
   rcases List.mem_cons.1 hy with e | hy
   ·rw [e]; exact hR.lt _ _ (h.lt x hxm) hk
   ·obtain ⟨z,hz,rfl⟩ := List.mem_map.1 hy; exact h.lt z hz)
  simp at this ⊢; omega
 ·obtain ⟨v,l,rfl⟩ := snocT hu
  rcases h.cover2 (by omega) v (fun y hy => hlu y (by simp [hy])) l with ⟨i,y,h1,h2,h3⟩ | ⟨x',h1,h2⟩
  ·refine hN i y l h1 (hlu l (by simp)) h3 ?_
   rw [h2,← ql]; exact hau
  ·rw [h1] at hx; injection hx with hx; subst hx
   exact h2.not hlt
theorem BfQ.none (h : BfQ n K R j 0 Q) (hN : NoQ K R bs acc j 0 Q) (hj : Q.length ≤ j) : FirA n K R bs acc [] false := by
 refine .inr ⟨rfl,rfl,fun u hu hlu hau => ?_⟩
 obtain ⟨v,l,rfl⟩ := snocT hu
 rcases h.cover2 (by omega) v (fun y hy => hlu y (by simp [hy])) l with ⟨i,y,h1,h2,h3⟩ | ⟨x',h1,h2⟩
 ·refine hN i y l h1 (hlu l (by simp)) h3 ?_
  rw [h2,← ql]; exact hau
 ·rw [List.getElem?_eq_none hj] at h1; cases h1
def LenA (n K : Nat) (R : List (List Nat)) (zs : List Int) : Prop := zs.length = n ∧ ∀ s,s < n → (zs.getD s 0 = -1 ∧ ∀ u,(∀ l ∈ u,l < K) → runP R 0 u ≠ s) ∨
 ∃ u,(∀ l ∈ u,l < K) ∧ runP R 0 u = s ∧ zs.getD s 0 = (u.length : Int) ∧ ∀ v,(∀ l ∈ v,l < K) → runP R 0 v = s → u.length ≤ v.length
def lenQ (Q : List (Nat × List Nat)) (s : Nat) : Int := match Q.find? (fun x => x.1 == s) with | some x => (x.2.length : Int) | none => -1
theorem q3n {s : Nat} (h : s ∉ Q.map (·.1)) : lenQ Q s = -1 := by
 unfold lenQ
 rw [List.find?_eq_none.2 (fun x hx => by simp only [beq_iff_eq]; exact fun e => h (List.mem_map.2 ⟨x,hx,e⟩))]
theorem q14 (hnd : (Q.map (·.1)).Nodup) {x : Nat × List Nat} (h : x ∈ Q) : lenQ Q x.1 = (x.2.length : Int) := by
 induction Q with
 | nil => cases h
 | cons y Q ih =>
  rw [List.map_cons,List.nodup_cons] at hnd
  rcases List.mem_cons.1 h with rfl | h
  ·simp [lenQ]
  ·have hne : y.1 ≠ x.1 := fun e => hnd.1 (List.mem_map.2 ⟨x,h,e.symm⟩)
   have := ih hnd.2 h
   unfold lenQ at this ⊢
   rw [List.find?_cons_of_neg (by simpa using hne)]
   exact this
theorem BfQ.lens (h : BfQ n K R j 0 Q) (hj : Q.length ≤ j) {zs : List Int} (hz : zs.length = n) (hs : ∀ s,s < n → zs.getD s 0 = lenQ Q s) : LenA n K R zs := by
 refine ⟨hz,fun s hsn => ?_⟩
 by_cases hm : s ∈ Q.map (·.1)
 ·obtain ⟨y,hy,rfl⟩ := List.mem_map.1 hm
  refine .inr ⟨y.2,(h.run y hy).2,(h.run y hy).1,by rw [hs _ hsn,q14 h.nd hy],fun v hv hr => ?_⟩
  rcases h.cover (by omega) _ v rfl hv with ⟨i,z,h1,h2,h3⟩ | ⟨x,h1,h2⟩
  ·have hz := List.mem_of_getElem? h1
   have e1 := q14 h.nd hy
   rw [← hr,← h2,q14 h.nd hz] at e1
   have := h3.len
   omega
  ·rw [List.getElem?_eq_none hj] at h1; cases h1
 ·refine .inl ⟨by rw [hs _ hsn,q3n hm],fun v hv hr => ?_⟩
  rcases h.cover (by omega) _ v rfl hv with ⟨i,z,h1,h2,h3⟩ | ⟨x,h1,h2⟩
  ·exact hm (List.mem_map.2 ⟨z,List.mem_of_getElem? h1,h2.trans hr⟩)
  ·rw [List.getElem?_eq_none hj] at h1; cases h1
variable {n K : Nat} {R F : List (List Nat)} {bs : List Bool}
theorem qz {α : Type} {l : List α} {i j : Nat} {x d : α} (hi : i < l.length) : (l.set i x).getD j d = if i = j then x else l.getD j d := by
 rw [List.getD_eq_getElem?_getD,List.getElem?_set]
 split
 ·rename_i e; subst e; rfl
 ·rw [List.getD_eq_getElem?_getD]
structure BkI (n K : Nat) (R : List (List Nat)) (j k : Nat) (F : List (List Nat)) : Prop where
 len : F.length = n
 few : ∀ s,s < n → (F.getD s []).length ≤ j * K + k
 mem : ∀ s,s < n → ∀ x,x ∈ F.getD s [] ↔ ∃ l,l < K ∧ gone j k x l ∧ trP R x l = s
theorem q4s : BkI n K R 0 0 (List.replicate n []) := by
 refine ⟨by simp,fun s hs => ?_,fun s hs x => ?_⟩
 ·simp [List.getD_eq_getElem?_getD,hs]
 ·constructor
  ·intro h; simp [List.getD_eq_getElem?_getD,hs] at h
  ·rintro ⟨l,_,h,_⟩; unfold gone at h; omega
theorem BkI.put {j k : Nat} (h : BkI n K R j k F) (hR : RowsP n K R) (hj : j < n) (hk : k < K) : BkI n K R j (k + 1) (F.set (trP R j k) (F.getD (trP R j k) [] ++ [j])) := by
 have ht := hR.lt j k hj hk
 have hl := h.len
 refine ⟨by simpa using hl,fun s hs => ?_,fun s hs x => ?_⟩
 ·rw [qz (by omega)]
  have h1 := h.few s hs
  split
  ·rename_i e; subst e; rw [List.length_append,List.length_singleton]; omega
  ·omega
 ·rw [qz (by omega)]
  have h1 := h.mem s hs x
  split
  ·rename_i e; subst e
   rw [List.mem_append,h1,List.mem_singleton]
   constructor
   ·rintro (⟨l,h2,h3,h4⟩ | rfl)
    ·exact ⟨l,h2,by unfold gone at *; omega,h4⟩
    ·exact ⟨k,hk,by unfold gone; omega,rfl⟩
   ·rintro ⟨l,h2,h3,h4⟩
    by_cases e : gone j k x l
    ·exact .inl ⟨l,h2,e,h4⟩
    ·exact .inr (by unfold gone at *; omega)
  ·rename_i e
   rw [h1]
   constructor
   ·rintro ⟨l,h2,h3,h4⟩
    exact ⟨l,h2,by unfold gone at *; omega,h4⟩
   ·rintro ⟨l,h2,h3,h4⟩
    refine ⟨l,h2,?_,h4⟩
    by_cases e2 : gone j k x l
    ·exact e2
    ·obtain ⟨rfl,rfl⟩ : x = j ∧ l = k := by unfold gone at *; omega
     exact absurd h4 e
theorem BkI.next {j : Nat} (h : BkI n K R j K F) : BkI n K R (j + 1) 0 F := by
 refine ⟨h.len,fun s hs => by have := h.few s hs; rw [Nat.succ_mul]; omega,fun s hs x => (h.mem s hs x).trans ?_⟩
 constructor
 ·rintro ⟨l,h2,h3,h4⟩; exact ⟨l,h2,by unfold gone at *; omega,h4⟩
 ·rintro ⟨l,h2,h3,h4⟩; exact ⟨l,h2,by unfold gone at *; omega,h4⟩
structure LvQ (n K : Nat) (R : List (List Nat)) (bs : List Bool) (F : List (List Nat)) (j k : Nat) (Q : List Nat) : Prop where
 nd : Q.Nodup
 lt : ∀ x ∈ Q,x < n
 acc : ∀ s,s < n → bs.getD s false = true → s ∈ Q
 snd : ∀ x ∈ Q,∃ u,(∀ l ∈ u,l < K) ∧ bs.getD (runP R x u) false = true
 cl : ∀ (i x m y : Nat),Q[i]? = some x → (F.getD x [])[m]? = some y → gone j k i m → y ∈ Q
theorem LvQ.skip {j k : Nat} {Q : List Nat} (h : LvQ n K R bs F j k Q) {x y : Nat} (hx : Q[j]? = some x) (hy : (F.getD x [])[k]? = some y) (hm : y ∈ Q) : LvQ n K R bs F j (k + 1) Q :=
 ⟨h.nd,h.lt,h.acc,h.snd,fun i z m v h1 h2 h3 => by
  by_cases e : gone j k i m
  ·exact h.cl i z m v h1 h2 e
  ·obtain ⟨rfl,rfl⟩ : i = j ∧ m = k := by unfold gone at *; omega
   rw [h1] at hx; injection hx with hx; subst hx
   rw [h2] at hy; injection hy with hy; subst hy; exact hm⟩
theorem LvQ.push {j k : Nat} {Q : List Nat} (h : LvQ n K R bs F j k Q) (hF : BkI n K R n 0 F) {x y : Nat} (hx : Q[j]? = some x) (hy : (F.getD x [])[k]? = some y) (hm : y ∉ Q) : LvQ n K R bs F j (k + 1) (Q ++ [y]) := by
 have hxm : x ∈ Q := List.mem_of_getElem? hx
 have hj := (List.getElem?_eq_some_iff.1 hx).1
 obtain ⟨l,h1,h2,h3⟩ := (hF.mem x (h.lt x hxm) y).1 (List.mem_of_getElem? hy)
 have hyn : y < n := by unfold gone at h2; omega
 refine ⟨?_,fun z hz => ?_,fun s hs ha => List.mem_append_left _ (h.acc s hs ha),fun z hz => ?_,fun i z m v k1 k2 k3 => ?_⟩
 ·rw [List.nodup_append]
  exact ⟨h.nd,by simp,fun a ha b hb => by simp only [List.mem_singleton] at hb; subst hb; exact fun e => hm (e ▸ ha)⟩
 ·rcases List.mem_append.1 hz with hz | hz
  ·exact h.lt z hz
  ·simp only [List.mem_singleton] at hz; omega
 ·rcases List.mem_append.1 hz with hz | hz
  ·exact h.snd z hz
  ·simp only [List.mem_singleton] at hz; subst hz
   obtain ⟨u,u1,u2⟩ := h.snd x hxm
   exact ⟨l :: u,fun c hc => (List.mem_cons.1 hc).elim (fun e => by rw [e]; exact h1) (u1 c),by rw [q2B,h3]; exact u2⟩
 ·rw [List.getElem?_append] at k1
  split at k1
  ·by_cases e : gone j k i m
   ·exact List.mem_append_left _ (h.cl i z m v k1 k2 e)
   ·obtain ⟨rfl,rfl⟩ : i = j ∧ m = k := by unfold gone at *; omega
    rw [k1] at hx; injection hx with hx; subst hx
    rw [k2] at hy; injection hy with hy; subst hy; simp
  ·unfold gone at k3; omega
theorem LvQ.next {j k : Nat} {Q : List Nat} (h : LvQ n K R bs F j k Q) {x : Nat} (hx : Q[j]? = some x) (hk : (F.getD x []).length ≤ k) : LvQ n K R bs F (j + 1) 0 Q :=
 ⟨h.nd,h.lt,h.acc,h.snd,fun i z m v h1 h2 h3 => by
  by_cases e : i < j
  ·exact h.cl i z m v h1 h2 (.inl e)
  ·obtain rfl : i = j := by unfold gone at h3; omega
   rw [h1] at hx; injection hx with hx; subst hx
   have := (List.getElem?_eq_some_iff.1 h2).1
   exact h.cl i z m v h1 h2 (.inr ⟨rfl,by omega⟩)⟩
def accL (bs : List Bool) (k : Nat) : List Nat := (List.range k).filter fun s => bs.getD s false
theorem q4q (bs : List Bool) (k : Nat) : accL bs (k + 1) = accL bs k ++ if bs.getD k false then [k] else [] := by
 unfold accL
 rw [List.range_succ,List.filter_append]
 congr 1
 rw [List.filter_cons,List.filter_nil]
theorem q4A : LvQ n K R bs F 0 0 (accL bs n) := by
 refine ⟨List.Pairwise.filter _ List.nodup_range,fun x hx => ?_,fun s hs ha => ?_,fun x hx => ?_,fun i x m y _ _ h => by unfold gone at h; omega⟩
 ·exact List.mem_range.1 (List.mem_filter.1 hx).1
 ·exact List.mem_filter.2 ⟨List.mem_range.2 hs,ha⟩
 ·exact ⟨[],fun l hl => by simp at hl,(List.mem_filter.1 hx).2⟩
theorem q4N (bs : List Bool) (k : Nat) : (accL bs k).length ≤ k := by
 have := List.length_filter_le (fun s => bs.getD s false) (List.range k)
 simpa [accL] using this
def LivA (n K : Nat) (R : List (List Nat)) (bs : List Bool) (ls : List Bool) : Prop := ls.length = n ∧ ∀ s,s < n → (ls.getD s false = true ↔ ∃ u,(∀ l ∈ u,l < K) ∧ bs.getD (runP R s u) false = true)
theorem LvQ.fin {j : Nat} {Q : List Nat} (h : LvQ n K R bs F j 0 Q) (hR : RowsP n K R) (hF : BkI n K R n 0 F) (hj : Q.length ≤ j) {ls : List Bool} (hl : ls.length = n) (hs : ∀ s,s < n → ls.getD s false = decide (s ∈ Q)) : LivA n K R bs ls := by
 refine ⟨hl,fun s hsn => ?_⟩
 rw [hs s hsn,decide_eq_true_iff]
 constructor
 ·exact h.snd s
 ·rintro ⟨u,h1,h2⟩
  induction u generalizing s with
  | nil => exact h.acc s hsn h2
  | cons l u ih =>
   have hlK : l < K := h1 l (by simp)
   have ht := hR.lt s l hsn hlK
   have := ih (trP R s l) ht (fun x hx => h1 x (by simp [hx])) h2
   obtain ⟨i,hi⟩ := List.getElem?_of_mem this
   have hil := (List.getElem?_eq_some_iff.1 hi).1
   have hm := (hF.mem _ ht s).2 ⟨l,hlK,.inl hsn,rfl⟩
   obtain ⟨m,hm2⟩ := List.getElem?_of_mem hm
   exact h.cl i _ m s hi hm2 (.inl (by omega))
def cntP (R : List (List Nat)) (bs : List Bool) : Nat → Nat → Nat
 | 0,s => if bs.getD s false then 1 else 0
 | m + 1,s => ((R.getD s []).map (cntP R bs m)).sum
def exR (f : Nat → Nat) (row : List Nat) (b : List Nat × Nat) : Nat → List (List Nat × Nat)
 | 0 => []
 | k + 1 => exR f row b k ++ if f (row.getD k 0) = 0 then [] else [(b.1 ++ [k],row.getD k 0)]
def exP (R : List (List Nat)) (f : Nat → Nat) (B : List (List Nat × Nat)) : List (List Nat × Nat) := B.flatMap fun b => exR f (R.getD b.2 []) b (R.getD b.2 []).length
def bgP (R : List (List Nat)) (bs : List Bool) (len : Nat) : Nat → List (List Nat × Nat)
 | 0 => [([],0)]
 | i + 1 => exP R (cntP R bs (len - (i + 1))) (bgP R bs len i)
theorem q13 {f : Nat → Nat} {row : List Nat} {b : List Nat × Nat} : ∀ {k : Nat} {x : List Nat × Nat},x ∈ exR f row b k → ∃ l,l < k ∧ f (row.getD l 0) ≠ 0 ∧ x = (b.1 ++ [l],row.getD l 0)
 | 0,x,h => by cases h
 | k + 1,x,h => by
  rcases List.mem_append.1 h with h | h
  ·obtain ⟨l,h1,h2⟩ := q13 h; exact ⟨l,by omega,h2⟩
  ·split at h
   ·cases h
   ·rename_i e
    simp only [List.mem_singleton] at h
    exact ⟨k,by omega,e,h⟩
theorem q3P (f : Nat → Nat) (row : List Nat) (b : List Nat × Nat) : ∀ k,(exR f row b k).Pairwise fun x y => valT x.1 < valT y.1
 | 0 => List.Pairwise.nil
 | k + 1 => by
  rw [exR,List.pairwise_append]
  refine ⟨q3P f row b k,by split <;> simp,fun x hx y hy => ?_⟩
  obtain ⟨l,h1,h2,rfl⟩ := q13 hx
  split at hy
  ·cases hy
  ·simp only [List.mem_singleton] at hy; subst hy
   rw [qh,qh]; omega
theorem q3Q (f : Nat → Nat) (row : List Nat) (b : List Nat × Nat) : ∀ k,k ≤ row.length → ((exR f row b k).map fun x => f x.2).sum = ((row.take k).map f).sum
 | 0,_ => rfl
 | k + 1,hk => by
  have e : row.take (k + 1) = row.take k ++ [row.getD k 0] := by
   rw [List.take_add_one,List.getElem?_eq_getElem (by omega),List.getD_eq_getElem?_getD,List.getElem?_eq_getElem (by omega)]; rfl
  rw [exR,List.map_append,List.sum_append,q3Q f row b k (by omega),e,List.map_append,List.sum_append]
  congr 1
  split
  ·rename_i e0; rw [List.map_cons,e0]; rfl
  ·rfl
theorem q3W {α : Type} {f : α → Nat} : ∀ {l : List α},(∀ x ∈ l,f x ≠ 0) → l.length ≤ (l.map f).sum
 | [],_ => Nat.le_refl _
 | a :: l,h => by
  have h1 := h a (by simp)
  have h2 := q3W (l := l) (fun x hx => h x (by simp [hx]))
  simp; omega
structure BgI (n K : Nat) (R : List (List Nat)) (bs : List Bool) (i left c : Nat) (B : List (List Nat × Nat)) : Prop where
 len : ∀ b ∈ B,b.1.length = i
 run : ∀ b ∈ B,runP R 0 b.1 = b.2 ∧ (∀ l ∈ b.1,l < K) ∧ b.2 < n
 cnt : ∀ b ∈ B,cntP R bs left b.2 ≠ 0
 ord : B.Pairwise fun x y => valT x.1 < valT y.1
 sum : (B.map fun b => cntP R bs left b.2).sum = c
theorem BgI.few {i left c : Nat} {B : List (List Nat × Nat)} (h : BgI n K R bs i left c B) : B.length ≤ c := by
 rw [← h.sum]; exact q3W h.cnt
theorem q1w {α β : Type} (f : α → List β) (g : β → Nat) : ∀ l : List α,((l.flatMap f).map g).sum = (l.map fun a => ((f a).map g).sum).sum
 | [] => rfl
 | a :: l => by rw [List.flatMap_cons,List.map_append,List.sum_append,q1w f g l]; rfl
theorem BgI.ext {i left c : Nat} {B : List (List Nat × Nat)} (h : BgI n K R bs i (left + 1) c B) (hR : RowsP n K R) (hK : K ≤ 256) : BgI n K R bs (i + 1) left c (exP R (cntP R bs left) B) := by
 have mem : ∀ x ∈ exP R (cntP R bs left) B,∃ b ∈ B,∃ l,l < K ∧ cntP R bs left (trP R b.2 l) ≠ 0 ∧ x = (b.1 ++ [l],trP R b.2 l) := fun x hx => by
  obtain ⟨b,hb,hx⟩ := List.mem_flatMap.1 hx
  obtain ⟨l,h1,h2,e⟩ := q13 hx
  exact ⟨b,hb,l,by rw [hR.row _ (h.run b hb).2.2] at h1; exact h1,h2,e⟩
 refine ⟨fun x hx => ?_,fun x hx => ?_,fun x hx => ?_,?_,?_⟩
 ·obtain ⟨b,hb,l,_,_,rfl⟩ := mem x hx
  simp [h.len b hb]
 ·obtain ⟨b,hb,l,h1,_,rfl⟩ := mem x hx
  obtain ⟨r1,r2,r3⟩ := h.run b hb
  refine ⟨by rw [ql,r1],fun c hc => ?_,hR.lt _ _ r3 h1⟩
  rcases List.mem_append.1 hc with hc | hc
  ·exact r2 c hc
  ·simp only [List.mem_singleton] at hc; omega
 ·obtain ⟨b,hb,l,_,h2,rfl⟩ := mem x hx
  exact h2
 ·rw [exP,List.pairwise_flatMap]
  refine ⟨fun b _ => q3P _ _ _ _,h.ord.imp_of_mem fun {a b} ha hb hab x hx y hy => ?_⟩
  obtain ⟨l,h1,_,rfl⟩ := q13 hx
  obtain ⟨m,_,_,rfl⟩ := q13 hy
  rw [hR.row _ (h.run a ha).2.2] at h1
  rw [qh,qh]; omega
 ·rw [exP,q1w,← h.sum]
  congr 1
  apply List.map_congr_left
  intro b _
  rw [q3Q _ _ _ _ (Nat.le_refl _),List.take_length]; rfl
theorem q3b (hR : RowsP n K R) (hK : K ≤ 256) (hn : 0 < n) (len : Nat) (h0 : cntP R bs len 0 ≠ 0) : ∀ i,i ≤ len → BgI n K R bs i (len - i) (cntP R bs len 0) (bgP R bs len i)
 | 0,_ => ⟨fun b hb => by simp [bgP] at hb; subst hb; rfl,fun b hb => by simp [bgP] at hb; subst hb; exact ⟨rfl,fun l hl => by simp at hl,hn⟩,fun b hb => by simp [bgP] at hb; subst hb; exact h0,by simp [bgP],by simp [bgP]⟩
 | i + 1,hi => by
  have := q3b hR hK hn len h0 i (by omega)
  rw [show len - i = (len - (i + 1)) + 1 by omega] at this
  exact this.ext hR hK
def spP (R : List (List Nat)) (bs : List Bool) (len : Nat) : List (List Nat) := if cntP R bs len 0 = 0 then [] else (bgP R bs len len).map (·.1)
structure SpA (K : Nat) (R : List (List Nat)) (bs : List Bool) (len : Nat) (W : List (List Nat)) : Prop where
 ok : ∀ t ∈ W,t.length = len ∧ (∀ l ∈ t,l < K) ∧ bs.getD (runP R 0 t) false = true
 ord : W.Pairwise ltT
 len : W.length = cntP R bs len 0
theorem q4I (hR : RowsP n K R) (hK : K ≤ 256) (hn : 0 < n) (len : Nat) : SpA K R bs len (spP R bs len) := by
 unfold spP
 split
 ·rename_i e
  exact ⟨fun t ht => (by cases ht),List.Pairwise.nil,e.symm⟩
 ·rename_i e
  have h := q3b hR hK hn len e len (Nat.le_refl _)
  rw [Nat.sub_self] at h
  refine ⟨fun t ht => ?_,?_,?_⟩
  ·obtain ⟨b,hb,rfl⟩ := List.mem_map.1 ht
   obtain ⟨r1,r2,r3⟩ := h.run b hb
   refine ⟨h.len b hb,r2,?_⟩
   have := h.cnt b hb
   rw [r1]
   simp only [cntP] at this
   split at this
   ·assumption
   ·exact absurd rfl this
  ·rw [List.pairwise_map]
   exact h.ord.imp_of_mem fun {a b} ha hb hab => .inr ⟨by rw [h.len a ha,h.len b hb],hab⟩
  ·rw [List.length_map,← h.sum]
   have h1 := h.cnt
   have : ∀ (B : List (List Nat × Nat)),(∀ b ∈ B,cntP R bs 0 b.2 ≠ 0) → B.length = (B.map fun b => cntP R bs 0 b.2).sum := fun B => by
    induction B with
    | nil => intro _; rfl
    | cons a B ih =>
     intro hB
     have h2 := hB a (by simp)
     have h3 : cntP R bs 0 a.2 = 1 := by
      simp only [cntP] at h2 ⊢
      split at h2
      ·rename_i e; rw [if_pos e]
      ·exact absurd rfl h2
     rw [List.map_cons,List.sum_cons,← ih (fun b hb => hB b (by simp [hb])),h3,List.length_cons]; omega
   exact this _ h1
def wdP (R : List (List Nat)) (bs : List Bool) (m : Nat) : List (List Nat) := (List.range m).flatMap (spP R bs)
theorem q3A (R : List (List Nat)) (bs : List Bool) (m : Nat) : wdP R bs (m + 1) = wdP R bs m ++ spP R bs m := by
 rw [wdP,List.range_succ,List.flatMap_append]; simp [wdP]
def totP (R : List (List Nat)) (bs : List Bool) : Nat → Nat
 | 0 => 0
 | m + 1 => totP R bs m + cntP R bs m 0
theorem q2E (R : List (List Nat)) (bs : List Bool) {a b : Nat} (h : a ≤ b) : totP R bs a ≤ totP R bs b := by
 induction h with
 | refl => exact Nat.le_refl _
 | step _ ih => exact Nat.le_trans ih (Nat.le_add_right _ _)
structure WdA (K : Nat) (R : List (List Nat)) (bs : List Bool) (m : Nat) (W : List (List Nat)) : Prop where
 ok : ∀ t ∈ W,t.length < m ∧ (∀ l ∈ t,l < K) ∧ bs.getD (runP R 0 t) false = true
 ord : W.Pairwise ltT
 cnt : ∀ i,i < m → (W.filter fun t => t.length == i).length = cntP R bs i 0
 len : W.length = totP R bs m
theorem q1v {α : Type} {p : α → Bool} {l : List α} (h : ∀ x ∈ l,p x = false) : l.filter p = [] := by
 rw [List.filter_eq_nil_iff]; intro x hx; rw [h x hx]; simp
theorem q3g {α : Type} {p : α → Bool} {l : List α} (h : ∀ x ∈ l,p x = true) : l.filter p = l := by
 rw [List.filter_eq_self]; exact h
theorem q3z (hR : RowsP n K R) (hK : K ≤ 256) (hn : 0 < n) : ∀ m,WdA K R bs m (wdP R bs m)
 | 0 => ⟨fun t ht => by simp [wdP] at ht,by simp [wdP],fun i hi => by omega,rfl⟩
 | m + 1 => by
  have h := q3z hR hK hn m
  have s := q4I (bs := bs) hR hK hn m
  rw [q3A]
  refine ⟨fun t ht => ?_,?_,fun i hi => ?_,by rw [List.length_append,h.len,s.len]; rfl⟩
  ·rcases List.mem_append.1 ht with ht | ht
   ·obtain ⟨h1,h2⟩ := h.ok t ht; exact ⟨by omega,h2⟩
   ·obtain ⟨h1,h2⟩ := s.ok t ht; exact ⟨by omega,h2⟩
  ·rw [List.pairwise_append]
   exact ⟨h.ord,s.ord,fun a ha b hb => .inl (by have := (h.ok a ha).1; have := (s.ok b hb).1; omega)⟩
  ·rw [List.filter_append,List.length_append]
   by_cases e : i = m
   ·subst e
    rw [q1v (fun x hx => by have := (h.ok x hx).1; simp; omega),q3g (fun x hx => by have := (s.ok x hx).1; simp; omega),s.len]; simp
   ·rw [q1v (l := spP R bs m) (fun x hx => by have := (s.ok x hx).1; simp; omega),h.cnt i (by omega)]; simp
end Go.Proofs.Ytfbefloajnkhiaa
namespace Go.Proofs.Ytfbefloajnkhiaa
open Go.RowKit Go.Maps
def fitsB (n l : Int) : Bool := decide (0 ≤ n ∧ n ≤ 8) && (l / 2 ^ n.toNat == 0)
theorem q3R {n l : Int} (h : n < 0 ∨ 8 < n) : fitsB n l = false := by
 unfold fitsB; rw [decide_eq_false (by omega)]; rfl
theorem q3S {n l : Int} (h0 : 0 ≤ n) (h8 : n ≤ 8) : fitsB n l = (l / 2 ^ n.toNat == 0) := by
 unfold fitsB; rw [decide_eq_true ⟨h0,h8⟩]; rfl
theorem q1e (n l : Int) (w : World) :
  Calls Try.prog 30 #[.int .i64 n,.int .u8 l] w fun e w' => e = .returned (.bool (fitsB n l)) ∧ w' = w := by
 by_cases h0 : 0 ≤ n
 ·by_cases h8 : n ≤ 8
  ·have HX : Hid _ := q3S (l := l) h0 h8
   go_enter Try.func30,Try.ntmps30
   go_wp2
   go_ret
   exact ⟨by rw [HX.out]; rfl,rfl⟩
  ·have HX : Hid _ := q3R (n := n) (l := l) (by omega)
   go_enter Try.func30,Try.ntmps30
   go_wp2
   go_ret
   exact ⟨by rw [HX.out]; rfl,rfl⟩
 ·have HX : Hid _ := q3R (n := n) (l := l) (by omega)
  go_enter Try.func30,Try.ntmps30
  go_wp2
  go_ret
  exact ⟨by rw [HX.out]; rfl,rfl⟩
end Go.Proofs.Ytfbefloajnkhiaa
namespace Go.Proofs.Ytfbefloajnkhiaa
theorem q5d {α : Type} {Q : List α} {j : Nat} (h : j < Q.length) (d : α) : Q.getD j d = Q[j] := by
 rw [List.getD_eq_getElem?_getD,List.getElem?_eq_getElem h]; rfl
variable {n K : Nat} {R : List (List Nat)} {bs : List Bool}
theorem q2y {Q : List Nat} {j : Nat} (hj : j < Q.length) : Q.getD j 0 ∈ Q := by
 rw [List.getD_eq_getElem?_getD,List.getElem?_eq_getElem hj]; exact List.getElem_mem _
variable {c : Nat → Nat} {Q F : List Nat}
variable {n K : Nat} {R : List (List Nat)} {bs : List Bool} {c : Nat → Nat}
theorem q2D {Q : List Nat} {i : Nat} (h : i < Q.length) : Q.take (i + 1) = Q.take i ++ [Q.getD i 0] := by
 rw [List.take_add_one,List.getElem?_eq_getElem h,List.getD_eq_getElem?_getD,List.getElem?_eq_getElem h]; rfl
def laN : List Gd := [(0,-1,-2)]
def laG : List Int := [0,-2]
def laB : List Bool := [false,true]
def laR : List (List Nat) := [[0,1],[1,1]]
theorem q1m : rowsG laN laG (2 ^ (1 : Int).toNat) = laR := by decide +kernel
theorem q1P : MayG 1 2 laN laG := by
 refine ⟨by decide,by decide,by decide,by decide,rfl,by decide,fun i P lo hi e => ?_,by decide,fun g hg => ?_⟩
 ·match i with
  | 0 =>
   simp [laN] at e
   obtain ⟨rfl,rfl,rfl⟩ := e
   exact ⟨by decide,by decide,by decide,.inl ⟨by decide,by decide⟩,.inl ⟨by decide,by decide⟩⟩
  | i + 1 => simp [laN] at e
 ·simp [laG] at hg
  rcases hg with rfl | rfl
  ·exact .inr ⟨0,rfl,by decide,_,rfl,by decide⟩
  ·exact .inl ⟨by decide,by decide⟩
theorem FirA.one {n K : Nat} {R : List (List Nat)} {bs : List Bool} {acc : Bool} {ts : List Nat} {is : Bool} (h : FirA n K R bs acc ts is) {l : Nat} (hl : l < K) (ha : bs.getD (trP R 0 l) false = acc) (hb : ∀ k,k < l → bs.getD (trP R 0 k) false ≠ acc) : ts = [l] ∧ is = true := by
 rcases h with ⟨h1,h2,h3,h4,_,_,h5⟩ | ⟨_,_,h3⟩
 ·have h6 := h5 [l] (by simp) (fun x hx => by simp at hx; omega) ha
  refine ⟨?_,h1⟩
  have hle : ts.length ≤ 1 := by
   unfold ltT at h6
   simp at h6
   omega
  match ts,h2 with
  | [x],_ =>
   have h7 : x ≤ l := by
    unfold ltT at h6
    simp [valT] at h6
    omega
   by_cases e : x = l
   ·rw [e]
   ·exact absurd h4 (hb x (by omega))
  | x :: y :: t,_ => simp at hle
 ·exact absurd ha (h3 [l] (by simp) (fun x hx => by simp at hx; omega))
def ahG : List Nat → List Nat → Bool
 | a :: u,b :: v => if a = b then ahG u v else decide (a < b)
 | _,_ => false
def ahL (u v : List Nat) : Bool := if u.length = v.length then ahG u v else decide (u.length < v.length)
theorem q1l (u : List Nat) (a : Nat) : valT (a :: u) = a * 256 ^ u.length + valT u := by
 have : ∀ (u : List Nat) (x : Nat),u.foldl (fun x l => x * 256 + l) x = x * 256 ^ u.length + u.foldl (fun x l => x * 256 + l) 0 := by
  intro u
  induction u with
  | nil => intro x; simp
  | cons b u ih =>
   intro x
   rw [List.foldl_cons,ih,List.foldl_cons,ih (0 * 256 + b),List.length_cons,Nat.pow_succ,Nat.zero_mul,Nat.zero_add]
   generalize 256 ^ u.length = P
   rw [Nat.add_mul,Nat.mul_assoc,Nat.mul_comm 256 P]
   omega
 unfold valT
 rw [List.foldl_cons,this]
 simp
theorem q2m : ∀ (u : List Nat),(∀ l ∈ u,l < 256) → valT u < 256 ^ u.length
 | [],_ => by simp [valT]
 | a :: u,h => by
  have h1 := q2m u (fun l hl => h l (by simp [hl]))
  have h2 := h a (by simp)
  rw [q1l,List.length_cons,Nat.pow_succ]
  generalize 256 ^ u.length = P at *
  have : a * P ≤ 255 * P := Nat.mul_le_mul_right _ (by omega)
  omega
theorem q3O : ∀ (u v : List Nat),u.length = v.length → (∀ l ∈ u,l < 256) → (∀ l ∈ v,l < 256) → (ahG u v = true ↔ valT u < valT v)
 | [],[],_,_,_ => by simp [ahG]
 | a :: u,b :: v,hl,hu,hv => by
  have hl' : u.length = v.length := by simpa using hl
  have ih := q3O u v hl' (fun l h => hu l (by simp [h])) (fun l h => hv l (by simp [h]))
  have h1 := q2m u (fun l h => hu l (by simp [h]))
  have h2 := q2m v (fun l h => hv l (by simp [h]))
  rw [ahG,q1l,q1l]
  rw [hl'] at *
  generalize 256 ^ v.length = P at *
  split
  ·rename_i e; subst e
   rw [ih]; omega
  ·rename_i e
   rw [decide_eq_true_iff]
   constructor
   ·intro h
    have : (a + 1) * P ≤ b * P := Nat.mul_le_mul_right _ (by omega)
    rw [Nat.add_mul] at this
    omega
   ·intro h
    by_cases hba : b < a
    ·have : (b + 1) * P ≤ a * P := Nat.mul_le_mul_right _ (by omega)
     rw [Nat.add_mul] at this
     omega
    ·omega
theorem q5b {u v : List Nat} (hu : ∀ l ∈ u,l < 256) (hv : ∀ l ∈ v,l < 256) : ahL u v = true ↔ ltT u v := by
 unfold ahL ltT
 split
 ·rename_i e
  rw [q3O u v e hu hv]
  constructor
  ·exact fun h => .inr ⟨e,h⟩
  ·rintro (h | ⟨_,h⟩)
   ·omega
   ·exact h
 ·rename_i e
  rw [decide_eq_true_iff]
  constructor
  ·exact .inl
  ·rintro (h | ⟨h,_⟩)
   ·exact h
   ·exact absurd h e
theorem q1z : ∀ (u v : List Nat) (k : Nat),u.length = v.length → (∀ i,i < k → u.getD i 0 = v.getD i 0) → k ≤ u.length → ahG u v = ahG (u.drop k) (v.drop k)
 | u,v,0,_,_,_ => rfl
 | [],v,k + 1,_,_,h => by simp at h
 | a :: u,[],k + 1,h,_,_ => by simp at h
 | a :: u,b :: v,k + 1,hl,h,hk => by
  have h0 : a = b := by simpa using h 0 (by omega)
  rw [ahG,if_pos h0,List.drop_succ_cons,List.drop_succ_cons]
  exact q1z u v k (by simpa using hl) (fun i hi => by simpa using h (i + 1) (by omega)) (by simpa using hk)
theorem q5v {u v : List Nat} {k : Nat} (hl : u.length = v.length) (hk : k < u.length) (h : ∀ i,i < k → u.getD i 0 = v.getD i 0) (hne : u.getD k 0 ≠ v.getD k 0) : ahG u v = decide (u.getD k 0 < v.getD k 0) := by
 have hk2 : k < v.length := by omega
 rw [q1z u v k hl h (Nat.le_of_lt hk),List.drop_eq_getElem_cons hk,List.drop_eq_getElem_cons hk2,ahG]
 have e1 : u.getD k 0 = u[k] := by rw [List.getD_eq_getElem?_getD,List.getElem?_eq_getElem hk]; rfl
 have e2 : v.getD k 0 = v[k] := by rw [List.getD_eq_getElem?_getD,List.getElem?_eq_getElem hk2]; rfl
 rw [e1,e2]; rw [e1,e2] at hne
 rw [if_neg hne]
theorem q4O {u v : List Nat} (hl : u.length = v.length) (h : ∀ i,i < u.length → u.getD i 0 = v.getD i 0) : ahG u v = false := by
 rw [q1z u v u.length hl h (Nat.le_refl _),List.drop_length]; rfl
end Go.Proofs.Ytfbefloajnkhiaa
