/- Texts of the proof, put together: what it uses. -/
import Derived.WalkKit
import Derived.WalkSpells
import Derived.Maps.OwnSet
import Derived.Test.YtjpggahiddhanaaProg
import Derived.WalkLawsBesides
import Derived.BigQuiet
import Derived.Deep.QuietTactic
import Derived.Laws.BitsAllLaws
set_option maxRecDepth 100000
set_option maxHeartbeats 16000000
namespace Go.Proofs.Ytjpggahiddhanaa
open Go.RowKit Go.Maps
theorem qv {B g : Nat} {a w : World} (h : Below B a w) (hg : B ≤ g) (cs : Array Value) : Below B a (w.setRow g cs) :=
 h.trans ⟨rfl,rfl,rfl,by simp,fun k hk => setRow_other _ _ _ _ (by omega)⟩
end Go.Proofs.Ytjpggahiddhanaa
namespace Go.Proofs.Ytjpggahiddhanaa
abbrev Gd := Int × Int × Int
def goG (N : List Gd) (x : Nat) : Nat → Int → Option Int
 | 0,r => if r < 0 then some (-1 - r) else none
 | k + 1,r => if r < 0 then some (-1 - r) else
  match N[r.toNat]? with
  | none => none
  | some (P,lo,hi) => if 0 ≤ P ∧ P ≤ 7 then goG N x k (if x.testBit P.toNat then hi else lo) else none
theorem q2m {N : List Gd} {x : Nat} {r : Int} (h : r < 0) : ∀ k,goG N x k r = some (-1 - r)
 | 0 => by simp [goG,h]
 | k + 1 => by simp [goG,h]
theorem q3i {N : List Gd} {x k i : Nat} {P lo hi : Int} (h : N[i]? = some (P,lo,hi)) (h0 : 0 ≤ P) (h7 : P ≤ 7) : goG N x (k + 1) (i : Int) = goG N x k (if x.testBit P.toNat then hi else lo) := by
 have hi : ¬ (i : Int) < 0 := by omega
 simp [goG,hi,h,h0,h7]
def FitG (m : Nat) (N : List Gd) (a : Nat) (p : Int) (r : Int) : Prop :=
 (r < 0 ∧ -(m : Int) ≤ r) ∨ ∃ i,r = ((i : Nat) : Int) ∧ i < a ∧ ∃ nd,N[i]? = some nd ∧ p < nd.1
theorem q4R {N N' : List Gd} (h : N <+: N') {nd : Gd} (hm : nd ∈ N) : N'.idxOf nd = N.idxOf nd := by
 obtain ⟨t,rfl⟩ := h
 simp [List.idxOf_append,hm]
theorem q4Q {N : List Gd} {nd : Gd} (h : nd ∉ N) : (N ++ [nd]).idxOf nd = N.length := by
 simp [List.idxOf_append,h]
def tabT (N : List Gd) (r : Int) : Nat → Option (List Int)
 | 0 => some []
 | k + 1 => (tabT N r k).bind fun l => (goG N k 8 r).map fun v => l ++ [v]
theorem q3R {N : List Gd} {r : Int} {f : Nat → Int} : ∀ (k : Nat),(∀ x,x < k → goG N x 8 r = some (f x)) → tabT N r k = some ((List.range k).map f)
 | 0,_ => rfl
 | k + 1,h => by
  have h1 := q3R k (fun x hx => h x (by omega))
  simp only [tabT,h1,h k (by omega),List.range_succ]
  simp
theorem q2x {N : List Gd} {r : Int} {i : Nat} (h : goG N i 8 r = none) : ∀ (k : Nat),i < k → tabT N r k = none
 | 0,hi => by omega
 | k + 1,hi => by
  by_cases e : i = k
  ·subst e; simp only [tabT,h]; cases tabT N r i <;> rfl
  ·have h1 := q2x h k (by omega)
   simp only [tabT,h1]; rfl
structure MayG (props : Int) (ns : Nat) (N : List Gd) (gs : List Int) : Prop where
 p0 : 0 ≤ props
 p8 : props ≤ 8
 s1 : 1 ≤ ns
 s2 : ns ≤ 256
 len : gs.length = ns
 few : N.length ≤ 4096
 node : ∀ (i : Nat) (P lo hi : Int),N[i]? = some (P,lo,hi) → 0 ≤ P ∧ P < props ∧ lo ≠ hi ∧ FitG ns N i P lo ∧ FitG ns N i P hi
 once : N.Nodup
 gd : ∀ g ∈ gs,FitG ns N N.length (-1) g
def trP (R : List (List Nat)) (s l : Nat) : Nat := (R.getD s []).getD l 0
def runP (R : List (List Nat)) (s : Nat) (t : List Nat) : Nat := t.foldl (trP R) s
theorem q1s (R : List (List Nat)) (s l : Nat) (t : List Nat) : runP R s (l :: t) = runP R (trP R s l) t := rfl
theorem qZ (R : List (List Nat)) (s l : Nat) (t : List Nat) : runP R s (t ++ [l]) = trP R (runP R s t) l := by simp [runP]
structure RowsP (n K : Nat) (R : List (List Nat)) : Prop where
 len : R.length = n
 row : ∀ s,s < n → (R.getD s []).length = K
 lt : ∀ s l,s < n → l < K → trP R s l < n
theorem RowsP.run {n K : Nat} {R : List (List Nat)} (h : RowsP n K R) : ∀ (t : List Nat) (s : Nat),s < n → (∀ l ∈ t,l < K) → runP R s t < n
 | [],s,hs,_ => hs
 | l :: t,s,hs,ht => by
  rw [q1s]
  exact h.run t _ (h.lt s l hs (ht l (by simp))) (fun x hx => ht x (by simp [hx]))
theorem q3k {m : Nat} {props : Int} {N : List Gd} (hp : props ≤ 8) (hN : ∀ (i : Nat) (P lo hi : Int),N[i]? = some (P,lo,hi) → 0 ≤ P ∧ P < props ∧ lo ≠ hi ∧ FitG m N i P lo ∧ FitG m N i P hi) (x : Nat) :
  ∀ (k a : Nat) (p r : Int),FitG m N a p r → 7 - p ≤ k → ∃ v : Nat,v < m ∧ goG N x k r = some (v : Int)
 | k,a,p,r,.inl ⟨h1,h2⟩,_ => ⟨(-1 - r).toNat,by omega,by rw [q2m h1]; congr 1; omega⟩
 | 0,a,p,r,.inr ⟨i,e,hi,nd,hn,hq⟩,hk => by
  obtain ⟨P,lo,hi'⟩ := nd
  have := hN i P lo hi' hn
  dsimp only at hq
  omega
 | k + 1,a,p,r,.inr ⟨i,e,hi,nd,hn,hq⟩,hk => by
  obtain ⟨P,lo,hi'⟩ := nd
  obtain ⟨h0,h1,_,h3,h4⟩ := hN i P lo hi' hn
  dsimp only at hq
  subst e
  rw [q3i hn h0 (by omega)]
  split
  ·exact q3k hp hN x k i P hi' h4 (by omega)
  ·exact q3k hp hN x k i P lo h3 (by omega)
def rowG (N : List Gd) (K : Nat) (r : Int) : List Nat := (List.range K).map fun x => ((goG N x 8 r).getD 0).toNat
def rowsG (N : List Gd) (gs : List Int) (K : Nat) : List (List Nat) := gs.map (rowG N K)
theorem q18 {N : List Gd} {gs : List Int} {K s : Nat} (h : s < gs.length) : (rowsG N gs K).getD s [] = rowG N K (gs.getD s 0) := by
 simp [rowsG,List.getD_eq_getElem?_getD,List.getElem?_eq_getElem h]
theorem q3P {N : List Gd} {K x : Nat} {r : Int} (h : x < K) : (rowG N K r).getD x 0 = ((goG N x 8 r).getD 0).toNat := by
 simp [rowG,List.getD_eq_getElem?_getD,h]
theorem q4I (N : List Gd) (K : Nat) (r : Int) : (rowG N K r).length = K := by simp [rowG]
theorem MayG.go {p : Int} {ns : Nat} {N : List Gd} {gs : List Int} (h : MayG p ns N gs) {s : Nat} (hs : s < ns) (x : Nat) : ∃ v : Nat,v < ns ∧ goG N x 8 (gs.getD s 0) = some (v : Int) := by
 have hl := h.len
 have hm : gs.getD s 0 ∈ gs := by
  rw [List.getD_eq_getElem?_getD,List.getElem?_eq_getElem (by omega),Option.getD_some]
  exact List.getElem_mem _
 exact q3k h.p8 h.node x 8 N.length (-1) _ (h.gd _ hm) (by omega)
theorem MayG.tr {p : Int} {ns : Nat} {N : List Gd} {gs : List Int} (h : MayG p ns N gs) {K s x : Nat} (hs : s < ns) (hx : x < K) : goG N x 8 (gs.getD s 0) = some ((trP (rowsG N gs K) s x : Nat) : Int) := by
 obtain ⟨v,hv,e⟩ := h.go hs x
 have hl := h.len
 rw [trP,q18 (by omega),q3P hx,e]
 simp
theorem MayG.rows {p : Int} {ns : Nat} {N : List Gd} {gs : List Int} (h : MayG p ns N gs) (K : Nat) : RowsP ns K (rowsG N gs K) := by
 have hl := h.len
 refine ⟨by simp [rowsG,hl],fun s hs => by rw [q18 (by omega),q4I],fun s l hs hlk => ?_⟩
 obtain ⟨v,hv,e⟩ := h.go hs l
 rw [trP,q18 (by omega),q3P hlk,e]
 simpa using hv
theorem MayG.tab {p : Int} {ns : Nat} {N : List Gd} {gs : List Int} (h : MayG p ns N gs) {K s : Nat} (hs : s < ns) : tabT N (gs.getD s 0) K = some (((rowsG N gs K).getD s []).map Int.ofNat) := by
 have hl := h.len
 rw [q18 (by omega),q3R (f := fun x => ((trP (rowsG N gs K) s x : Nat) : Int)) K (fun x hx => h.tr hs hx),rowG,List.map_map]
 congr 1
 apply List.map_congr_left
 intro x hx
 have hx' := List.mem_range.1 hx
 have e := h.tr hs hx'
 simp only [Function.comp_apply,e,Option.getD_some,Int.toNat_natCast]
 rfl
variable {n K : Nat} {R : List (List Nat)} {bs : List Bool}
theorem q2u {α : Type} : ∀ {l m : List α},l.Nodup → (∀ x ∈ l,x ∈ m) → l.length ≤ m.length
 | [],m,_,_ => Nat.zero_le _
 | a :: l,m,hn,hs => by
  obtain ⟨m1,m2,rfl⟩ := List.append_of_mem (hs a (by simp))
  obtain ⟨ha,hn⟩ := List.nodup_cons.1 hn
  have : l.length ≤ (m1 ++ m2).length := q2u hn fun x hx => by
   have := hs x (by simp [hx])
   simp only [List.mem_append,List.mem_cons] at this ⊢
   rcases this with h | rfl | h
   ·exact .inl h
   ·exact absurd hx ha
   ·exact .inr h
  simp only [List.length_append,List.length_cons] at this ⊢
  omega
theorem q2v {n : Nat} {l : List Nat} (h : l.Nodup) (hl : ∀ x ∈ l,x < n) : l.length ≤ n := by
 have := q2u h (m := List.range n) (fun x hx => List.mem_range.2 (hl x hx))
 simpa using this
abbrev PrP := Nat × Nat × Nat × Nat
variable {n K : Nat} {R : List (List Nat)} {bs : List Bool} {p q i k : Nat} {Q : List PrP}
def valT (u : List Nat) : Nat := u.foldl (fun x l => x * 256 + l) 0
theorem qG (u : List Nat) (l : Nat) : valT (u ++ [l]) = valT u * 256 + l := by simp [valT]
def ltT (u v : List Nat) : Prop := u.length < v.length ∨ u.length = v.length ∧ valT u < valT v
def leT (u v : List Nat) : Prop := u.length < v.length ∨ u.length = v.length ∧ valT u ≤ valT v
theorem leT.trans {u v x : List Nat} (h : leT u v) (h' : leT v x) : leT u x := by unfold leT at *; omega
theorem ltT.le {u v : List Nat} (h : ltT u v) : leT u v := by unfold leT ltT at *; omega
theorem leT.len {u v : List Nat} (h : leT u v) : u.length ≤ v.length := by unfold leT at h; omega
theorem q1O {u v : List Nat} (h : leT u v) {k l : Nat} (hk : k ≤ l) : leT (u ++ [k]) (v ++ [l]) := by
 unfold leT at *; rw [qG,qG,List.length_append,List.length_append,List.length_singleton,List.length_singleton]; omega
theorem q3m {u v : List Nat} (h : ltT u v) {k : Nat} (l : Nat) (hk : k < 256) : ltT (u ++ [k]) (v ++ [l]) := by
 unfold ltT at *; rw [qG,qG,List.length_append,List.length_append,List.length_singleton,List.length_singleton]; omega
theorem q4D (u : List Nat) {k l : Nat} (hk : k < l) : ltT (u ++ [k]) (u ++ [l]) := by
 unfold ltT; rw [qG,qG,List.length_append,List.length_append,List.length_singleton,List.length_singleton]; omega
theorem q4S (u : List Nat) (l : Nat) : leT u (u ++ [l]) := by unfold leT; rw [List.length_append,List.length_singleton]; omega
theorem q4T (u : List Nat) : leT [] u := by
 cases u with
 | nil => exact .inr ⟨rfl,Nat.le_refl _⟩
 | cons a u => exact .inl (by simp)
theorem snocT {u : List Nat} (h : u ≠ []) : ∃ v l,u = v ++ [l] := ⟨u.dropLast,u.getLast h,(List.dropLast_concat_getLast h).symm⟩
abbrev gone (j k i l : Nat) : Prop := i < j ∨ i = j ∧ l < k
variable {n K : Nat} {R : List (List Nat)} {j k : Nat} {Q : List (Nat × List Nat)} {bs : List Bool} {acc : Bool}
def lenQ (Q : List (Nat × List Nat)) (s : Nat) : Int := match Q.find? (fun x => x.1 == s) with | some x => (x.2.length : Int) | none => -1
theorem q1P {s : Nat} (h : s ∉ Q.map (·.1)) : lenQ Q s = -1 := by
 unfold lenQ
 rw [List.find?_eq_none.2 (fun x hx => by simp only [beq_iff_eq]; exact fun e => h (List.mem_map.2 ⟨x,hx,e⟩))]
theorem q13 (hnd : (Q.map (·.1)).Nodup) {x : Nat × List Nat} (h : x ∈ Q) : lenQ Q x.1 = (x.2.length : Int) := by
 induction Q with
 | nil => cases h
 | cons y Q ih =>
  rw [List.map_cons,List.nodup_cons] at hnd
  rcases List.mem_cons.1 h with rfl | h
  ·simp [lenQ]
  ·have hne : y.1 ≠ x.1 := fun e => hnd.1 (List.mem_map.2 ⟨x,h,e.symm⟩)
   have := ih hnd.2 h
   unfold lenQ at this ⊢
   rw [List.find?_cons_of_neg (by simpa using hne)]
   exact this
variable {n K : Nat} {R F : List (List Nat)} {bs : List Bool}
theorem qY {α : Type} {l : List α} {i j : Nat} {x d : α} (hi : i < l.length) : (l.set i x).getD j d = if i = j then x else l.getD j d := by
 rw [List.getD_eq_getElem?_getD,List.getElem?_set]
 split
 ·rename_i e; subst e; rfl
 ·rw [List.getD_eq_getElem?_getD]
structure BkI (n K : Nat) (R : List (List Nat)) (j k : Nat) (F : List (List Nat)) : Prop where
 len : F.length = n
 few : ∀ s,s < n → (F.getD s []).length ≤ j * K + k
 mem : ∀ s,s < n → ∀ x,x ∈ F.getD s [] ↔ ∃ l,l < K ∧ gone j k x l ∧ trP R x l = s
theorem q4f : BkI n K R 0 0 (List.replicate n []) := by
 refine ⟨by simp,fun s hs => ?_,fun s hs x => ?_⟩
 ·simp [List.getD_eq_getElem?_getD,hs]
 ·constructor
  ·intro h; simp [List.getD_eq_getElem?_getD,hs] at h
  ·rintro ⟨l,_,h,_⟩; unfold gone at h; omega
theorem BkI.put {j k : Nat} (h : BkI n K R j k F) (hR : RowsP n K R) (hj : j < n) (hk : k < K) : BkI n K R j (k + 1) (F.set (trP R j k) (F.getD (trP R j k) [] ++ [j])) := by
 have ht := hR.lt j k hj hk
 have hl := h.len
 refine ⟨by simpa using hl,fun s hs => ?_,fun s hs x => ?_⟩
 ·rw [qY (by omega)]
  have h1 := h.few s hs
  split
  ·rename_i e; subst e; rw [List.length_append,List.length_singleton]; omega
  ·omega
 ·rw [qY (by omega)]
  have h1 := h.mem s hs x
  split
  ·rename_i e; subst e
   rw [List.mem_append,h1,List.mem_singleton]
   constructor
   ·rintro (⟨l,h2,h3,h4⟩ | rfl)
    ·exact ⟨l,h2,by unfold gone at *; omega,h4⟩
    ·exact ⟨k,hk,by unfold gone; omega,rfl⟩
   ·rintro ⟨l,h2,h3,h4⟩
    by_cases e : gone j k x l
    ·exact .inl ⟨l,h2,e,h4⟩
    ·exact .inr (by unfold gone at *; omega)
  ·rename_i e
   rw [h1]
   constructor
   ·rintro ⟨l,h2,h3,h4⟩
    exact ⟨l,h2,by unfold gone at *; omega,h4⟩
   ·rintro ⟨l,h2,h3,h4⟩
    refine ⟨l,h2,?_,h4⟩
    by_cases e2 : gone j k x l
    ·exact e2
    ·obtain ⟨rfl,rfl⟩ : x = j ∧ l = k := by unfold gone at *; omega
     exact absurd h4 e
theorem BkI.next {j : Nat} (h : BkI n K R j K F) : BkI n K R (j + 1) 0 F := by
 refine ⟨h.len,fun s hs => by have := h.few s hs; rw [Nat.succ_mul]; omega,fun s hs x => (h.mem s hs x).trans ?_⟩
 constructor
 ·rintro ⟨l,h2,h3,h4⟩; exact ⟨l,h2,by unfold gone at *; omega,h4⟩
 ·rintro ⟨l,h2,h3,h4⟩; exact ⟨l,h2,by unfold gone at *; omega,h4⟩
structure BfS (n K : Nat) (R : List (List Nat)) (s j k : Nat) (Q : List (Nat × List Nat)) : Prop where
 zero : Q[0]? = some (s,[])
 nd : (Q.map (·.1)).Nodup
 lt : ∀ x ∈ Q,x.1 < n
 run : ∀ x ∈ Q,runP R s x.2 = x.1 ∧ ∀ l ∈ x.2,l < K
 ord : ∀ (i i' : Nat) (x y : Nat × List Nat),i < i' → Q[i]? = some x → Q[i']? = some y → ltT x.2 y.2
 met : ∀ (i : Nat) (x : Nat × List Nat) (l : Nat),Q[i]? = some x → l < K → gone j k i l → ∃ y ∈ Q,y.1 = trP R x.1 l ∧ leT y.2 (x.2 ++ [l])
 made : ∀ y ∈ Q,y = (s,[]) ∨ ∃ (i : Nat) (x : Nat × List Nat) (l : Nat),Q[i]? = some x ∧ l < K ∧ gone j k i l ∧ y = (trP R x.1 l,x.2 ++ [l])
 len : ∀ (i : Nat) (x : Nat × List Nat),Q[i]? = some x → x.2.length ≤ i
variable {n K : Nat} {R : List (List Nat)} {s j k : Nat} {Q : List (Nat × List Nat)} {bs : List Bool}
theorem BfS.few (h : BfS n K R s j k Q) : Q.length ≤ n := by
 have := q2v h.nd (fun x hx => by obtain ⟨y,hy,rfl⟩ := List.mem_map.1 hx; exact h.lt y hy)
 simpa using this
theorem q4e (hn : s < n) : BfS n K R s 0 0 [(s,[])] := by
 refine ⟨rfl,by simp,fun x hx => ?_,fun x hx => ?_,fun i i' x y hi hx hy => ?_,fun i x l hx hl hg => ?_,fun y hy => .inl (by simpa using hy),fun i x hx => ?_⟩
 ·simp only [List.mem_singleton] at hx; subst hx; exact hn
 ·simp only [List.mem_singleton] at hx; subst hx; exact ⟨rfl,fun l hl => by simp at hl⟩
 ·have := (List.getElem?_eq_some_iff.1 hy).1
  simp at this; omega
 ·unfold gone at hg; omega
 ·have h1 := (List.getElem?_eq_some_iff.1 hx).1
  simp at h1; subst h1
  simp at hx; subst hx; simp
theorem BfS.made_le (h : BfS n K R s j k Q) (hK : K ≤ 256) {x : Nat × List Nat} (hx : Q[j]? = some x) {y : Nat × List Nat} (hy : y ∈ Q) : ltT y.2 (x.2 ++ [k]) := by
 rcases h.made y hy with e | ⟨i,x',l,h1,h2,h3,e⟩
 ·rw [e]; exact .inl (by simp)
 ·rw [e]
  rcases h3 with h3 | ⟨h3,h4⟩
  ·exact q3m (h.ord i j x' x h3 h1 hx) _ (by omega)
  ·subst h3
   rw [h1] at hx; injection hx with hx; subst hx
   exact q4D _ h4
theorem BfS.skip (h : BfS n K R s j k Q) (hK : K ≤ 256) {x : Nat × List Nat} (hx : Q[j]? = some x) (hm : trP R x.1 k ∈ Q.map (·.1)) : BfS n K R s j (k + 1) Q := by
 refine ⟨h.zero,h.nd,h.lt,h.run,h.ord,fun i x' l h1 h2 h3 => ?_,fun y hy => ?_,h.len⟩
 ·by_cases e : gone j k i l
  ·exact h.met i x' l h1 h2 e
  ·obtain ⟨rfl,rfl⟩ : i = j ∧ l = k := by unfold gone at *; omega
   rw [h1] at hx; injection hx with hx; subst hx
   obtain ⟨y,hy,hy1⟩ := List.mem_map.1 hm
   exact ⟨y,hy,hy1,(h.made_le hK h1 hy).le⟩
 ·rcases h.made y hy with e | ⟨i,x',l,h1,h2,h3,e⟩
  ·exact .inl e
  ·exact .inr ⟨i,x',l,h1,h2,by unfold gone at *; omega,e⟩
theorem BfS.push (h : BfS n K R s j k Q) (hR : RowsP n K R) (hK : K ≤ 256) {x : Nat × List Nat} (hx : Q[j]? = some x) (hk : k < K) (hm : trP R x.1 k ∉ Q.map (·.1)) : BfS n K R s j (k + 1) (Q ++ [(trP R x.1 k,x.2 ++ [k])]) := by
 have hj := (List.getElem?_eq_some_iff.1 hx).1
 have hxm : x ∈ Q := List.mem_of_getElem? hx
 have old : ∀ {i : Nat} {y : Nat × List Nat},Q[i]? = some y → (Q ++ [(trP R x.1 k,x.2 ++ [k])])[i]? = some y := fun {i y} e => by
  rw [List.getElem?_append_left (List.getElem?_eq_some_iff.1 e).1]; exact e
 have cut : ∀ {i : Nat} {y : Nat × List Nat},(Q ++ [(trP R x.1 k,x.2 ++ [k])])[i]? = some y → Q[i]? = some y ∨ i = Q.length ∧ y = (trP R x.1 k,x.2 ++ [k]) := fun {i y} e => by
  rw [List.getElem?_append] at e
  split at e
  ·exact .inl e
  ·have := (List.getElem?_eq_some_iff.1 e).1
   simp at this
   have e0 : i - Q.length = 0 := by omega
   rw [e0] at e
   simp at e
   exact .inr ⟨by omega,e.symm⟩
 refine ⟨old h.zero,?_,fun y hy => ?_,fun y hy => ?_,fun i i' y z hi hy hz => ?_,fun i y l h1 h2 h3 => ?_,fun y hy => ?_,fun i y hy => ?_⟩
 ·rw [List.map_append,List.nodup_append]
  exact ⟨h.nd,by simp,fun a ha b hb => by simp only [List.map_cons,List.map_nil,List.mem_singleton] at hb; subst hb; exact fun e => hm (e ▸ ha)⟩
 ·rcases List.mem_append.1 hy with hy | hy
  ·exact h.lt y hy
  ·simp only [List.mem_singleton] at hy; subst hy; exact hR.lt _ _ (h.lt x hxm) hk
 ·rcases List.mem_append.1 hy with hy | hy
  ·exact h.run y hy
  ·simp only [List.mem_singleton] at hy; subst hy
   refine ⟨by rw [qZ,(h.run x hxm).1],fun l hl => ?_⟩
   rcases List.mem_append.1 hl with hl | hl
   ·exact (h.run x hxm).2 l hl
   ·simp only [List.mem_singleton] at hl; omega
 ·rcases cut hy with hy | ⟨hy,e⟩ <;> rcases cut hz with hz | ⟨hz,e'⟩
  ·exact h.ord i i' y z hi hy hz
  ·rw [e']; exact h.made_le hK hx (List.mem_of_getElem? hy)
  ·have := (List.getElem?_eq_some_iff.1 hz).1; omega
  ·omega
 ·rcases cut h1 with h0 | ⟨h0,_⟩
  ·clear h1
   have h1 := h0
   by_cases e : gone j k i l
   ·obtain ⟨z,hz,hz1⟩ := h.met i y l h1 h2 e
    exact ⟨z,List.mem_append_left _ hz,hz1⟩
   ·obtain ⟨rfl,rfl⟩ : i = j ∧ l = k := by unfold gone at *; omega
    rw [h1] at hx; injection hx with hx; subst hx
    exact ⟨_,List.mem_append_right _ (List.mem_singleton.2 rfl),rfl,.inr ⟨rfl,Nat.le_refl _⟩⟩
  ·unfold gone at h3; omega
 ·rcases List.mem_append.1 hy with hy | hy
  ·rcases h.made y hy with e | ⟨i,x',l,h1,h2,h3,e⟩
   ·exact .inl e
   ·exact .inr ⟨i,x',l,old h1,h2,by unfold gone at *; omega,e⟩
  ·simp only [List.mem_singleton] at hy; subst hy
   exact .inr ⟨j,x,k,old hx,hk,by unfold gone; omega,rfl⟩
 ·rcases cut hy with hy | ⟨hy,e⟩
  ·exact h.len i y hy
  ·rw [e,hy]
   have := h.len j x hx
   simp; omega
theorem BfS.next (h : BfS n K R s j K Q) : BfS n K R s (j + 1) 0 Q := by
 refine ⟨h.zero,h.nd,h.lt,h.run,h.ord,fun i x l h1 h2 h3 => h.met i x l h1 h2 (by unfold gone at *; omega),fun y hy => ?_,h.len⟩
 rcases h.made y hy with e | ⟨i,x',l,h1,h2,h3,e⟩
 ·exact .inl e
 ·exact .inr ⟨i,x',l,h1,h2,by unfold gone at *; omega,e⟩
theorem BfS.cover (h : BfS n K R s j k Q) (hk : k < 256) : ∀ (m : Nat) (v : List Nat),v.length = m → (∀ l ∈ v,l < K) → (∃ (i : Nat) (y : Nat × List Nat),Q[i]? = some y ∧ y.1 = runP R s v ∧ leT y.2 v) ∨ ∃ x,Q[j]? = some x ∧ leT (x.2 ++ [k]) v
 | 0,v,hv,_ => by
  obtain rfl := List.eq_nil_of_length_eq_zero hv
  exact .inl ⟨0,_,h.zero,rfl,q4T _⟩
 | m + 1,v,hv,hl => by
  obtain ⟨v',l,rfl⟩ := snocT (u := v) (fun e => by rw [e] at hv; simp at hv)
  have hlK : l < K := hl l (by simp)
  rcases h.cover hk m v' (by simpa using hv) (fun x hx => hl x (by simp [hx])) with ⟨i,y,h1,h2,h3⟩ | ⟨x,h1,h2⟩
  ·by_cases e : gone j k i l
   ·obtain ⟨z,hz,z1,z2⟩ := h.met i y l h1 hlK e
    obtain ⟨iz,hiz⟩ := List.getElem?_of_mem hz
    exact .inl ⟨iz,z,hiz,by rw [z1,qZ,h2],z2.trans (q1O h3 (Nat.le_refl _))⟩
   ·have hj : j ≤ i := by unfold gone at e; omega
    have hi := (List.getElem?_eq_some_iff.1 h1).1
    by_cases ej : i = j
    ·subst ej
     exact .inr ⟨y,h1,q1O h3 (by unfold gone at e; omega)⟩
    ·refine .inr ⟨Q[j]'(by omega),List.getElem?_eq_getElem (by omega),?_⟩
     have o := h.ord j i _ y (by omega) (List.getElem?_eq_getElem (by omega)) h1
     exact (q3m o l hk).le.trans (q1O h3 (Nat.le_refl _))
  ·exact .inr ⟨x,h1,h2.trans (q4S _ _)⟩
theorem BfS.all (h : BfS n K R s j 0 Q) (hj : Q.length ≤ j) (u : List Nat) (hu : ∀ l ∈ u,l < K) : ∃ (i : Nat) (y : Nat × List Nat),Q[i]? = some y ∧ y.1 = runP R s u ∧ leT y.2 u := by
 rcases h.cover (by omega) _ u rfl hu with h | ⟨x,hx,_⟩
 ·exact h
 ·have := (List.getElem?_eq_some_iff.1 hx).1; omega
def TolW (K : Nat) (R : List (List Nat)) (bs : List Bool) (s v : Nat) : Prop :=
 (v = 3 ∧ ∀ u,(∀ l ∈ u,l < K) → bs.getD (runP R s u) false = true) ∨ (v = 2 ∧ ∀ u,(∀ l ∈ u,l < K) → bs.getD (runP R s u) false = false) ∨
 ((∃ u,(∀ l ∈ u,l < K) ∧ bs.getD (runP R s u) false = true) ∧ (∃ u,(∀ l ∈ u,l < K) ∧ bs.getD (runP R s u) false = false) ∧ v = if bs.getD s false = true then 1 else 0)
theorem TolW.uni {v v' : Nat} (h : TolW K R bs s v) (h' : TolW K R bs s v') : v = v' := by
 rcases h with ⟨h1,h2⟩ | ⟨h1,h2⟩ | ⟨⟨u,hu,h1⟩,⟨x,hx,h2⟩,h3⟩ <;> rcases h' with ⟨k1,k2⟩ | ⟨k1,k2⟩ | ⟨⟨y,hy,k1⟩,⟨z,hz,k2⟩,k3⟩
 ·rw [h1,k1]
 ·have a := h2 [] (fun l hl => by simp at hl); rw [k2 [] (fun l hl => by simp at hl)] at a; cases a
 ·rw [h2 z hz] at k2; cases k2
 ·have a := h2 [] (fun l hl => by simp at hl); rw [k2 [] (fun l hl => by simp at hl)] at a; cases a
 ·rw [h1,k1]
 ·rw [h2 y hy] at k1; cases k1
 ·rw [k2 x hx] at h2; cases h2
 ·rw [k2 u hu] at h1; cases h1
 ·rw [h3,k3]
theorem TolW.lt {v : Nat} (h : TolW K R bs s v) : v < 4 := by
 rcases h with ⟨h,_⟩ | ⟨h,_⟩ | ⟨_,_,h⟩
 ·omega
 ·omega
 ·rw [h]; split <;> omega
def OffW (K : Nat) (R : List (List Nat)) (bs : List Bool) (s d : Nat) : Prop :=
 (∃ u,(∀ l ∈ u,l < K) ∧ u.length = d ∧ bs.getD (runP R s u) false = true) ∧ ∀ u,(∀ l ∈ u,l < K) → bs.getD (runP R s u) false = true → d ≤ u.length
theorem OffW.uni {d d' : Nat} (h : OffW K R bs s d) (h' : OffW K R bs s d') : d = d' := by
 obtain ⟨⟨u,h1,h2,h3⟩,h4⟩ := h
 obtain ⟨⟨v,k1,k2,k3⟩,k4⟩ := h'
 have := h4 v k1 k3
 have := k4 u h1 h3
 omega
def NoW (K : Nat) (R : List (List Nat)) (bs : List Bool) (s : Nat) : Prop := ∀ u,(∀ l ∈ u,l < K) → bs.getD (runP R s u) false = false
theorem OffW.no {d : Nat} (h : OffW K R bs s d) (h' : NoW K R bs s) : False := by
 obtain ⟨⟨u,h1,_,h3⟩,_⟩ := h
 rw [h' u h1] at h3; cases h3
def cntW (bs : List Bool) (Q : List (Nat × List Nat)) : Nat := (Q.filter fun x => bs.getD x.1 false).length
theorem BfS.told (h : BfS n K R s j 0 Q) (hj : Q.length ≤ j) : TolW K R bs s (if cntW bs Q = Q.length then 3 else if cntW bs Q = 0 then 2 else if bs.getD s false = true then 1 else 0) := by
 by_cases h1 : cntW bs Q = Q.length
 ·rw [if_pos h1]
  refine .inl ⟨rfl,fun u hu => ?_⟩
  obtain ⟨i,y,hy,e,_⟩ := h.all hj u hu
  have h3 : (Q.filter fun x => bs.getD x.1 false).length = Q.length := h1
  have hf : Q.filter (fun x => bs.getD x.1 false) = Q := List.filter_sublist.eq_of_length h3
  have := List.filter_eq_self.1 hf y (List.mem_of_getElem? hy)
  rw [← e]; exact this
 rw [if_neg h1]
 by_cases h2 : cntW bs Q = 0
 ·rw [if_pos h2]
  refine .inr (.inl ⟨rfl,fun u hu => ?_⟩)
  obtain ⟨i,y,hy,e,_⟩ := h.all hj u hu
  have hf := List.filter_eq_nil_iff.1 (List.eq_nil_of_length_eq_zero h2) y (List.mem_of_getElem? hy)
  rw [← e]; simpa using hf
 rw [if_neg h2]
 refine .inr (.inr ⟨?_,?_,rfl⟩)
 ·obtain ⟨y,hy⟩ := List.exists_mem_of_length_pos (l := Q.filter fun x => bs.getD x.1 false) (by unfold cntW at h2; omega)
  obtain ⟨hy1,hy2⟩ := List.mem_filter.1 hy
  exact ⟨y.2,(h.run y hy1).2,by rw [(h.run y hy1).1]; exact hy2⟩
 ·have : ∃ y ∈ Q,bs.getD y.1 false = false := by
   refine Classical.byContradiction fun hn => h1 ?_
   have hf : Q.filter (fun x => bs.getD x.1 false) = Q := List.filter_eq_self.2 fun y hy => by
    cases hb : bs.getD y.1 false with
    | true => rfl
    | false => exact absurd ⟨y,hy,hb⟩ hn
   rw [cntW,hf]
  obtain ⟨y,hy1,hy2⟩ := this
  exact ⟨y.2,(h.run y hy1).2,by rw [(h.run y hy1).1]; exact hy2⟩
theorem BfS.off (h : BfS n K R s j 0 Q) (hj : Q.length ≤ j) {i : Nat} {x : Nat × List Nat} (hx : Q[i]? = some x) (ha : bs.getD x.1 false = true) (hb : ∀ (i' : Nat) (y : Nat × List Nat),i' < i → Q[i']? = some y → bs.getD y.1 false = false) : OffW K R bs s x.2.length := by
 have hm := List.mem_of_getElem? hx
 refine ⟨⟨x.2,(h.run x hm).2,rfl,by rw [(h.run x hm).1]; exact ha⟩,fun u hu hacc => ?_⟩
 obtain ⟨i',y,hy,e,hle⟩ := h.all hj u hu
 have hi : i ≤ i' := by
  refine Nat.le_of_not_lt fun hlt => ?_
  have := hb i' y hlt hy
  rw [e,hacc] at this; cases this
 have := hle.len
 by_cases ei : i = i'
 ·subst ei; rw [hx] at hy; injection hy with hy; subst hy; exact this
 ·have := (h.ord i i' x y (by omega) hx hy).le.len
  omega
theorem BfS.no (h : BfS n K R s j 0 Q) (hj : Q.length ≤ j) (hb : ∀ (i' : Nat) (y : Nat × List Nat),Q[i']? = some y → bs.getD y.1 false = false) : NoW K R bs s := fun u hu => by
 obtain ⟨i',y,hy,e,_⟩ := h.all hj u hu
 rw [← e]; exact hb i' y hy
variable {n K : Nat} {R F : List (List Nat)} {t : Nat → Bool} {bs : List Bool}
structure SnQ (n K : Nat) (R : List (List Nat)) (t : Nat → Bool) (F : List (List Nat)) (j k : Nat) (Q : List (Nat × List Nat)) : Prop where
 nd : (Q.map (·.1)).Nodup
 lt : ∀ x ∈ Q,x.1 < n
 run : ∀ x ∈ Q,(∀ l ∈ x.2,l < K) ∧ t (runP R x.1 x.2) = true
 acc : ∀ s,s < n → t s = true → (s,[]) ∈ Q
 cl : ∀ (i : Nat) (x : Nat × List Nat) (m y : Nat),Q[i]? = some x → (F.getD x.1 [])[m]? = some y → gone j k i m → ∃ z ∈ Q,z.1 = y ∧ z.2.length ≤ x.2.length + 1
 ord : ∀ (i i' : Nat) (x y : Nat × List Nat),i ≤ i' → Q[i]? = some x → Q[i']? = some y → x.2.length ≤ y.2.length
 near : ∀ (x h : Nat × List Nat),x ∈ Q → Q[j]? = some h → x.2.length ≤ h.2.length + 1
 pos : ∀ (i : Nat) (x : Nat × List Nat),Q[i]? = some x → x.2.length ≤ i
theorem SnQ.few {j k : Nat} {Q : List (Nat × List Nat)} (h : SnQ n K R t F j k Q) : Q.length ≤ n := by
 have := q2v h.nd (fun x hx => by obtain ⟨y,hy,rfl⟩ := List.mem_map.1 hx; exact h.lt y hy)
 simpa using this
def kinL (t : Nat → Bool) (k : Nat) : List (Nat × List Nat) := ((List.range k).filter t).map fun s => (s,[])
theorem q4k (t : Nat → Bool) (k : Nat) : kinL t (k + 1) = kinL t k ++ if t k then [(k,[])] else [] := by
 unfold kinL
 rw [List.range_succ,List.filter_append,List.map_append]
 congr 1
 rw [List.filter_cons,List.filter_nil]
 split <;> rfl
theorem q4B (t : Nat → Bool) (k : Nat) : (kinL t k).length ≤ k := by
 have := List.length_filter_le t (List.range k)
 simpa [kinL] using this
theorem q3l (t : Nat → Bool) (k : Nat) : (kinL t k).map (·.1) = (List.range k).filter t := by
 unfold kinL
 rw [List.map_map]
 exact (List.map_congr_left (fun x _ => rfl)).trans (List.map_id _)
theorem q4C (t : Nat → Bool) (k : Nat) : k ∉ (kinL t k).map (·.1) := by
 rw [q3l]
 intro h
 have := List.mem_range.1 (List.mem_filter.1 h).1
 omega
theorem q4t : SnQ n K R t F 0 0 (kinL t n) := by
 have hnil : ∀ x ∈ kinL t n,x.2 = [] ∧ x.1 < n ∧ t x.1 = true := fun x hx => by
  obtain ⟨s,hs,rfl⟩ := List.mem_map.1 hx
  obtain ⟨h1,h2⟩ := List.mem_filter.1 hs
  exact ⟨rfl,List.mem_range.1 h1,h2⟩
 refine ⟨?_,fun x hx => (hnil x hx).2.1,fun x hx => ?_,fun s hs ha => ?_,fun i x m y _ _ h => by unfold gone at h; omega,fun i i' x y _ hx hy => ?_,fun x h hx hh => ?_,fun i x hx => ?_⟩
 ·rw [q3l]; exact List.Pairwise.filter _ List.nodup_range
 ·obtain ⟨h1,_,h3⟩ := hnil x hx
  rw [h1]; exact ⟨fun l hl => by simp at hl,h3⟩
 ·exact List.mem_map.2 ⟨s,List.mem_filter.2 ⟨List.mem_range.2 hs,ha⟩,rfl⟩
 ·rw [(hnil x (List.mem_of_getElem? hx)).1]; exact Nat.zero_le _
 ·rw [(hnil x hx).1]; exact Nat.zero_le _
 ·rw [(hnil x (List.mem_of_getElem? hx)).1]; exact Nat.zero_le _
theorem SnQ.skip {j k : Nat} {Q : List (Nat × List Nat)} (h : SnQ n K R t F j k Q) {x : Nat × List Nat} {y : Nat} (hx : Q[j]? = some x) (hy : (F.getD x.1 [])[k]? = some y) (hm : y ∈ Q.map (·.1)) : SnQ n K R t F j (k + 1) Q :=
 ⟨h.nd,h.lt,h.run,h.acc,fun i z m v h1 h2 h3 => by
  by_cases e : gone j k i m
  ·exact h.cl i z m v h1 h2 e
  ·obtain ⟨rfl,rfl⟩ : i = j ∧ m = k := by unfold gone at *; omega
   rw [h1] at hx; injection hx with hx; subst hx
   rw [h2] at hy; injection hy with hy; subst hy
   obtain ⟨z',hz',e'⟩ := List.mem_map.1 hm
   exact ⟨z',hz',e',h.near z' z hz' h1⟩,h.ord,h.near,h.pos⟩
theorem SnQ.push {j k : Nat} {Q : List (Nat × List Nat)} (h : SnQ n K R t F j k Q) (hF : BkI n K R n 0 F) {x : Nat × List Nat} {y : Nat} (hx : Q[j]? = some x) (hy : (F.getD x.1 [])[k]? = some y) (hm : y ∉ Q.map (·.1)) : ∃ u,u.length = x.2.length + 1 ∧ SnQ n K R t F j (k + 1) (Q ++ [(y,u)]) := by
 have hxm : x ∈ Q := List.mem_of_getElem? hx
 have hj := (List.getElem?_eq_some_iff.1 hx).1
 obtain ⟨l,h1,h2,h3⟩ := (hF.mem x.1 (h.lt x hxm) y).1 (List.mem_of_getElem? hy)
 have hyn : y < n := by unfold gone at h2; omega
 have cut : ∀ {i : Nat} {z : Nat × List Nat},(Q ++ [(y,l :: x.2)])[i]? = some z → Q[i]? = some z ∨ i = Q.length ∧ z = (y,l :: x.2) := fun {i z} e => by
  rw [List.getElem?_append] at e
  split at e
  ·exact .inl e
  ·have := (List.getElem?_eq_some_iff.1 e).1
   simp at this
   have e0 : i - Q.length = 0 := by omega
   rw [e0] at e
   simp at e
   exact .inr ⟨by omega,e.symm⟩
 have headj : ∀ {z : Nat × List Nat},(Q ++ [(y,l :: x.2)])[j]? = some z → z = x := fun {z} e => by
  rcases cut e with e | ⟨e,_⟩
  ·rw [hx] at e; injection e with e; exact e.symm
  ·omega
 refine ⟨l :: x.2,by simp,?_,fun z hz => ?_,fun z hz => ?_,fun s hs ha => List.mem_append_left _ (h.acc s hs ha),fun i z m v k1 k2 k3 => ?_,fun i i' a b hi ha hb => ?_,fun z g hz hg => ?_,fun i z hz => ?_⟩
 ·rw [List.map_append,List.nodup_append]
  exact ⟨h.nd,by simp,fun a ha b hb => by simp only [List.map_cons,List.map_nil,List.mem_singleton] at hb; subst hb; exact fun e => hm (e ▸ ha)⟩
 ·rcases List.mem_append.1 hz with hz | hz
  ·exact h.lt z hz
  ·simp only [List.mem_singleton] at hz; subst hz; exact hyn
 ·rcases List.mem_append.1 hz with hz | hz
  ·exact h.run z hz
  ·simp only [List.mem_singleton] at hz; subst hz
   obtain ⟨u1,u2⟩ := h.run x hxm
   exact ⟨fun c hc => (List.mem_cons.1 hc).elim (fun e => by rw [e]; exact h1) (u1 c),by dsimp only; rw [q1s,h3]; exact u2⟩
 ·rcases cut k1 with k1 | ⟨k1,_⟩
  ·by_cases e : gone j k i m
   ·obtain ⟨q,hq,q1⟩ := h.cl i z m v k1 k2 e
    exact ⟨q,List.mem_append_left _ hq,q1⟩
   ·obtain ⟨rfl,rfl⟩ : i = j ∧ m = k := by unfold gone at *; omega
    rw [k1] at hx; injection hx with hx; subst hx
    rw [k2] at hy; injection hy with hy; subst hy
    exact ⟨_,List.mem_append_right _ (List.mem_singleton.2 rfl),rfl,by simp⟩
  ·unfold gone at k3; omega
 ·rcases cut ha with ha | ⟨ha,ea⟩ <;> rcases cut hb with hb | ⟨hb,eb⟩
  ·exact h.ord i i' a b hi ha hb
  ·rw [eb]
   have := h.near a x (List.mem_of_getElem? ha) hx
   simpa using this
  ·have := (List.getElem?_eq_some_iff.1 hb).1; omega
  ·rw [ea,eb]; exact Nat.le_refl _
 ·rw [headj hg]
  rcases List.mem_append.1 hz with hz | hz
  ·exact h.near z x hz hx
  ·simp only [List.mem_singleton] at hz; subst hz; simp
 ·rcases cut hz with hz | ⟨hz,e⟩
  ·exact h.pos i z hz
  ·rw [e,hz]
   have := h.pos j x hx
   simp; omega
theorem SnQ.next {j k : Nat} {Q : List (Nat × List Nat)} (h : SnQ n K R t F j k Q) {x : Nat × List Nat} (hx : Q[j]? = some x) (hk : (F.getD x.1 []).length ≤ k) : SnQ n K R t F (j + 1) 0 Q :=
 ⟨h.nd,h.lt,h.run,h.acc,fun i z m v h1 h2 h3 => by
  by_cases e : i < j
  ·exact h.cl i z m v h1 h2 (.inl e)
  ·obtain rfl : i = j := by unfold gone at h3; omega
   rw [h1] at hx; injection hx with hx; subst hx
   have := (List.getElem?_eq_some_iff.1 h2).1
   exact h.cl i z m v h1 h2 (.inr ⟨rfl,by omega⟩),h.ord,fun y g hy hg => by
  have h1 := h.near y x hy hx
  have h2 := h.ord j (j + 1) x g (by omega) hx hg
  omega,h.pos⟩
def SoA (n K : Nat) (R : List (List Nat)) (t : Nat → Bool) (fw : List Int) : Prop :=
 fw.length = n ∧ ∀ s,s < n → (fw.getD s 0 = -1 ∧ ∀ u,(∀ l ∈ u,l < K) → t (runP R s u) = false) ∨ ∃ d : Nat,d ≤ n ∧ fw.getD s 0 = (d : Int) ∧ (∃ u,(∀ l ∈ u,l < K) ∧ u.length = d ∧ t (runP R s u) = true) ∧ ∀ u,(∀ l ∈ u,l < K) → t (runP R s u) = true → d ≤ u.length
theorem SnQ.fin {j : Nat} {Q : List (Nat × List Nat)} (h : SnQ n K R t F j 0 Q) (hR : RowsP n K R) (hF : BkI n K R n 0 F) (hj : Q.length ≤ j) {fw : List Int} (hl : fw.length = n) (hs : ∀ s,s < n → fw.getD s 0 = lenQ Q s) : SoA n K R t fw := by
 have key : ∀ (u : List Nat) (s : Nat),s < n → (∀ l ∈ u,l < K) → t (runP R s u) = true → ∃ z ∈ Q,z.1 = s ∧ z.2.length ≤ u.length := by
  intro u
  induction u with
  | nil => exact fun s hsn _ h2 => ⟨_,h.acc s hsn h2,rfl,Nat.le_refl _⟩
  | cons l u ih =>
   intro s hsn h1 h2
   have hlK : l < K := h1 l (by simp)
   have ht := hR.lt s l hsn hlK
   obtain ⟨x,hx,e,hle⟩ := ih (trP R s l) ht (fun x hx => h1 x (by simp [hx])) h2
   obtain ⟨i,hi⟩ := List.getElem?_of_mem hx
   have hil := (List.getElem?_eq_some_iff.1 hi).1
   have hm := (hF.mem _ ht s).2 ⟨l,hlK,.inl hsn,rfl⟩
   rw [← e] at hm
   obtain ⟨m,hm2⟩ := List.getElem?_of_mem hm
   obtain ⟨z,hz,z1,z2⟩ := h.cl i x m s hi hm2 (.inl (by omega))
   exact ⟨z,hz,z1,by simp; omega⟩
 refine ⟨hl,fun s hsn => ?_⟩
 rw [hs s hsn]
 by_cases hm : s ∈ Q.map (·.1)
 ·obtain ⟨x,hx,e⟩ := List.mem_map.1 hm
  subst e
  obtain ⟨i,hi⟩ := List.getElem?_of_mem hx
  have hil := (List.getElem?_eq_some_iff.1 hi).1
  have h1 := h.pos i x hi
  have h2 := h.few
  refine .inr ⟨x.2.length,by omega,q13 h.nd hx,⟨x.2,(h.run x hx).1,rfl,(h.run x hx).2⟩,fun u hu ha => ?_⟩
  obtain ⟨z,hz,z1,z2⟩ := key u x.1 hsn hu ha
  have e1 := q13 h.nd hx
  rw [← z1,q13 h.nd hz] at e1
  omega
 ·refine .inl ⟨q1P hm,fun u hu => ?_⟩
  cases ht : t (runP R s u) with
  | false => rfl
  | true =>
   obtain ⟨z,hz,z1,_⟩ := key u s hsn hu ht
   exact absurd (List.mem_map.2 ⟨z,hz,z1⟩) hm
def accT (bs : List Bool) (b : Bool) (s : Nat) : Bool := bs.getD s false == b
def verW (a f : Int) : Nat := if a = -1 then 2 else if f = -1 then 3 else if a = 0 then 1 else 0
theorem SoA.told {ac fa : List Int} (h : SoA n K R (accT bs true) ac) (k : SoA n K R (accT bs false) fa) {s : Nat} (hs : s < n) : TolW K R bs s (verW (ac.getD s 0) (fa.getD s 0)) := by
 unfold verW
 rcases h.2 s hs with ⟨h1,h2⟩ | ⟨d,_,h1,⟨u,u1,u2,u3⟩,h3⟩
 ·rw [if_pos h1]
  exact .inr (.inl ⟨rfl,fun u hu => by have := h2 u hu; unfold accT at this; simpa using this⟩)
 ·rw [if_neg (by rw [h1]; omega)]
  rcases k.2 s hs with ⟨k1,k2⟩ | ⟨e,_,k1,⟨v,v1,v2,v3⟩,k3⟩
  ·rw [if_pos k1]
   exact .inl ⟨rfl,fun u hu => by have := k2 u hu; unfold accT at this; simpa using this⟩
  ·rw [if_neg (by rw [k1]; omega)]
   refine .inr (.inr ⟨⟨u,u1,by unfold accT at u3; simpa using u3⟩,⟨v,v1,by unfold accT at v3; simpa using v3⟩,?_⟩)
   by_cases e0 : d = 0
   ·have : bs.getD s false = true := by
     obtain rfl : u = [] := List.eq_nil_of_length_eq_zero (by omega)
     unfold accT at u3
     simpa [runP] using u3
    rw [if_pos (by rw [h1]; omega),if_pos this]
   ·rw [if_neg (by rw [h1]; omega),if_neg]
    intro hb
    have := h3 [] (fun l hl => by simp at hl) (by unfold accT; simpa [runP] using hb)
    simp at this; omega
theorem SoA.off {ac : List Int} (h : SoA n K R (accT bs true) ac) {s : Nat} (hs : s < n) : (ac.getD s 0 = -1 ∧ NoW K R bs s) ∨ ∃ d : Nat,d ≤ n ∧ ac.getD s 0 = (d : Int) ∧ OffW K R bs s d := by
 rcases h.2 s hs with ⟨h1,h2⟩ | ⟨d,h0,h1,⟨u,u1,u2,u3⟩,h3⟩
 ·exact .inl ⟨h1,fun u hu => by have := h2 u hu; unfold accT at this; simpa using this⟩
 ·exact .inr ⟨d,h0,h1,⟨u,u1,u2,by unfold accT at u3; simpa using u3⟩,fun u hu ha => h3 u hu (by unfold accT; simpa using ha)⟩
end Go.Proofs.Ytjpggahiddhanaa
namespace Go.Proofs.Ytjpggahiddhanaa
open Go.RowKit Go.Maps
def bitB (l i : Int) : Bool := decide (0 ≤ i ∧ i < 8) && decide (l / 2 ^ i.toNat % 2 = 1)
def fitsB (n l : Int) : Bool := decide (0 ≤ n ∧ n ≤ 8) && (l / 2 ^ n.toNat == 0)
theorem q47 (x : Int) (h0 : 0 ≤ x) (h1 : x < 256) : bits BinOp.and IntKind.u8 x 1 = x % 2 := by
 rw [u8_and x 1 h0 h1 (by decide) (by decide)]
 have e : (1 : Int).toNat = 1 := rfl
 rw [e,Nat.and_one_is_mod]; omega
theorem q56 {l : Int} (n : Nat) (h0 : 0 ≤ l) (h1 : l < 256) : 0 ≤ l / 2 ^ n ∧ l / 2 ^ n < 256 := by
 have hp : (0 : Int) < 2 ^ n := Int.pow_pos (by decide)
 exact ⟨Int.ediv_nonneg h0 (Int.le_of_lt hp),Int.lt_of_le_of_lt (Int.ediv_le_self _ h0) h1⟩
theorem q1v {n l : Int} (h : n < 0 ∨ 8 < n) : fitsB n l = false := by
 unfold fitsB; rw [decide_eq_false (by omega)]; rfl
theorem q2l {n l : Int} (h0 : 0 ≤ n) (h8 : n ≤ 8) : fitsB n l = (l / 2 ^ n.toNat == 0) := by
 unfold fitsB; rw [decide_eq_true ⟨h0,h8⟩]; rfl
theorem q2Y (n l : Int) (w : World) :
  Calls Try.prog 50 #[.int .i64 n,.int .u8 l] w fun e w' => e = .returned (.bool (fitsB n l)) ∧ w' = w := by
 by_cases h0 : 0 ≤ n
 ·by_cases h8 : n ≤ 8
  ·have HX : Hid _ := q2l (l := l) h0 h8
   go_enter Try.func50,Try.ntmps50
   go_wp2
   go_ret
   exact ⟨by rw [HX.out]; rfl,rfl⟩
  ·have HX : Hid _ := q1v (n := n) (l := l) (by omega)
   go_enter Try.func50,Try.ntmps50
   go_wp2
   go_ret
   exact ⟨by rw [HX.out]; rfl,rfl⟩
 ·have HX : Hid _ := q1v (n := n) (l := l) (by omega)
  go_enter Try.func50,Try.ntmps50
  go_wp2
  go_ret
  exact ⟨by rw [HX.out]; rfl,rfl⟩
theorem q3t (l i : Int) (w : World) (hl0 : 0 ≤ l) (hl1 : l < 256) :
  Calls Try.prog 71 #[.int .u8 l,.int .i64 i] w fun e w' => e = .returned (.bool (bitB l i)) ∧ w' = w := by
 have hd := q56 i.toNat hl0 hl1
 have HD : Hid _ := q47 _ hd.1 hd.2
 clear hd
 by_cases h0 : 0 ≤ i
 ·by_cases h8 : i < 8
  ·have HX : Hid (bitB l i = (l / 2 ^ i.toNat % 2 == 1)) := by
    show _ = _; unfold bitB; rw [decide_eq_true ⟨h0,h8⟩,Bool.true_and]
    by_cases e : l / 2 ^ i.toNat % 2 = 1 <;> simp [e]
   go_enter Try.func71,Try.ntmps71
   go_wp2
   go_ret
   exact ⟨by rw [HX.out,← HD.out]; rfl,rfl⟩
  ·have HX : Hid (bitB l i = false) := by show _ = _; unfold bitB; rw [decide_eq_false (by omega)]; rfl
   go_enter Try.func71,Try.ntmps71
   go_wp2
   go_ret
   exact ⟨by rw [HX.out]; rfl,rfl⟩
 ·have HX : Hid (bitB l i = false) := by show _ = _; unfold bitB; rw [decide_eq_false (by omega)]; rfl
  go_enter Try.func71,Try.ntmps71
  go_wp2
  go_ret
  exact ⟨by rw [HX.out]; rfl,rfl⟩
theorem q4x (l : Int) (k : Nat) : l / 2 ^ k = 2 * (l / 2 ^ (k + 1)) + l / 2 ^ k % 2 := by
 have e : l / 2 ^ (k + 1) = l / 2 ^ k / 2 := by
  rw [Int.pow_succ,Int.ediv_ediv_of_nonneg (Int.le_of_lt (Int.pow_pos (by decide)))]
 rw [e]; omega
theorem q2N (n l : Int) (w : World) (hl0 : 0 ≤ l) (hl1 : l < 256) :
  Calls Try.prog 61 #[.int .i64 n,.int .u8 l] w fun e w' => e = .returned (.bool (fitsB n l)) ∧ w' = w := by
 by_cases h0 : 0 ≤ n
 ·by_cases h8 : n ≤ 8
  ·have HX : Hid _ := q2l (l := l) h0 h8
   obtain ⟨N,rfl⟩ := Int.eq_ofNat_of_zero_le h0
   go_enter Try.func61,Try.ntmps61
   go_wp2
   go_loop [5] (fun i => ∃ k : Nat,k ≤ 8 ∧ i = .int .i64 k ∧ Hid (l / 2 ^ N = 0 ↔ l / 2 ^ k = 0)) (fun i => 8 - (intOf i).toNat)
   case atStart => exact ⟨N,by omega,rfl,Iff.rfl⟩
   case round =>
    obtain ⟨k,hk,rfl,HU⟩ := hrel
    have HS : Hid _ := q4x l k
    have HB := q3t l k w hl0 hl1
    by_cases hlt : k < 8
    ·by_cases hb : l / 2 ^ k % 2 = 1
     ·have HBB : bitB l k = true := by
       unfold bitB; rw [decide_eq_true (by omega),Bool.true_and]; exact decide_eq_true hb
      have HF : Hid (fitsB N l = false) := by
       show _ = _; rw [HX.out]
       have : ¬ l / 2 ^ N = 0 := by rw [HU.out]; intro h; rw [h] at hb; exact absurd hb (by decide)
       simpa using this
      rw [HBB] at HB
      clear hb HBB
      go_wp2_with (go_at_call 71; refine HB.mono ?_; rintro e w' ⟨rfl,rfl⟩)
      go_ret
      exact ⟨by rw [HF.out]; rfl,rfl⟩
     ·have HBB : bitB l k = false := by
       unfold bitB; rw [decide_eq_false (p := l / 2 ^ (k : Int).toNat % 2 = 1) hb,Bool.and_false]
      have HU2 : Hid (l / 2 ^ N = 0 ↔ l / 2 ^ (k + 1) = 0) := by
       have h1 := HU.out; have h2 := HS.out
       show _ ↔ _
       rw [h1]; constructor <;> intro h <;> omega
      rw [HBB] at HB
      clear hb HBB
      go_wp2_with (go_at_call 71; refine HB.mono ?_; rintro e w' ⟨rfl,rfl⟩)
      go_round
      case rel => exact ⟨k + 1,by omega,by go_num,HU2⟩
      case measure => simp [intOf]; omega
    ·obtain rfl : k = 8 := by omega
     have HF : Hid (fitsB N l = true) := by
      show _ = _; rw [HX.out]
      have : l / 2 ^ N = 0 := by rw [HU.out]; omega
      simpa using this
     clear HB
     go_wp2
     go_ret
     exact ⟨by rw [HF.out]; rfl,rfl⟩
  ·have HX : Hid _ := q1v (n := n) (l := l) (by omega)
   go_enter Try.func61,Try.ntmps61
   go_wp2
   go_ret
   exact ⟨by rw [HX.out]; rfl,rfl⟩
 ·have HX : Hid _ := q1v (n := n) (l := l) (by omega)
  go_enter Try.func61,Try.ntmps61
  go_wp2
  go_ret
  exact ⟨by rw [HX.out]; rfl,rfl⟩
end Go.Proofs.Ytjpggahiddhanaa
namespace Go.Proofs.Ytjpggahiddhanaa
theorem q1w {α : Type} {Q : List α} {j : Nat} (h : j < Q.length) (d : α) : Q.getD j d = Q[j] := by
 rw [List.getD_eq_getElem?_getD,List.getElem?_eq_getElem h]; rfl
variable {n K : Nat} {R : List (List Nat)} {bs : List Bool}
variable {c : Nat → Nat} {Q F : List Nat}
variable {n K : Nat} {R : List (List Nat)} {bs : List Bool} {c : Nat → Nat}
theorem q4v {Q : List Nat} {i : Nat} (h : i < Q.length) : Q.take (i + 1) = Q.take i ++ [Q.getD i 0] := by
 rw [List.take_add_one,List.getElem?_eq_getElem h,List.getD_eq_getElem?_getD,List.getElem?_eq_getElem h]; rfl
end Go.Proofs.Ytjpggahiddhanaa
