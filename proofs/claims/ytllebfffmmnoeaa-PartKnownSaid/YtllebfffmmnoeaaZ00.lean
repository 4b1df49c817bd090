/- Texts of the proof, put together: what it uses. -/
import Derived.WalkKit
import Derived.WalkSpells
import Derived.Maps.OwnSet
import Derived.Test.YtllebfffmmnoeaaProg
import Derived.WalkLawsBesides
import Derived.BigQuiet
import Derived.Deep.QuietTactic
set_option maxRecDepth 100000
set_option maxHeartbeats 16000000
namespace Go.Proofs.Ytllebfffmmnoeaa
open Go.RowKit Go.Maps
theorem qh {B g : Nat} {a w : World} (h : Below B a w) (hg : B ≤ g) (cs : Array Value) : Below B a (w.setRow g cs) :=
 h.trans ⟨rfl,rfl,rfl,by simp,fun k hk => setRow_other _ _ _ _ (by omega)⟩
end Go.Proofs.Ytllebfffmmnoeaa
namespace Go.Proofs.Ytllebfffmmnoeaa
abbrev Gd := Int × Int × Int
def goG (N : List Gd) (x : Nat) : Nat → Int → Option Int
 | 0,r => if r < 0 then some (-1 - r) else none
 | k + 1,r => if r < 0 then some (-1 - r) else
  match N[r.toNat]? with
  | none => none
  | some (P,lo,hi) => if 0 ≤ P ∧ P ≤ 7 then goG N x k (if x.testBit P.toNat then hi else lo) else none
theorem q3c {N : List Gd} {x : Nat} {r : Int} (h : r < 0) : ∀ k,goG N x k r = some (-1 - r)
 | 0 => by simp [goG,h]
 | k + 1 => by simp [goG,h]
theorem q2P {N : List Gd} {x k i : Nat} {P lo hi : Int} (h : N[i]? = some (P,lo,hi)) (h0 : 0 ≤ P) (h7 : P ≤ 7) : goG N x (k + 1) (i : Int) = goG N x k (if x.testBit P.toNat then hi else lo) := by
 have hi : ¬ (i : Int) < 0 := by omega
 simp [goG,hi,h,h0,h7]
def FitG (m : Nat) (N : List Gd) (a : Nat) (p : Int) (r : Int) : Prop :=
 (r < 0 ∧ -(m : Int) ≤ r) ∨ ∃ i,r = ((i : Nat) : Int) ∧ i < a ∧ ∃ nd,N[i]? = some nd ∧ p < nd.1
theorem q4e {N N' : List Gd} (h : N <+: N') {nd : Gd} (hm : nd ∈ N) : N'.idxOf nd = N.idxOf nd := by
 obtain ⟨t,rfl⟩ := h
 simp [List.idxOf_append,hm]
theorem q4d {N : List Gd} {nd : Gd} (h : nd ∉ N) : (N ++ [nd]).idxOf nd = N.length := by
 simp [List.idxOf_append,h]
def tabT (N : List Gd) (r : Int) : Nat → Option (List Int)
 | 0 => some []
 | k + 1 => (tabT N r k).bind fun l => (goG N k 8 r).map fun v => l ++ [v]
theorem q3q {N : List Gd} {r : Int} {f : Nat → Int} : ∀ (k : Nat),(∀ x,x < k → goG N x 8 r = some (f x)) → tabT N r k = some ((List.range k).map f)
 | 0,_ => rfl
 | k + 1,h => by
  have h1 := q3q k (fun x hx => h x (by omega))
  simp only [tabT,h1,h k (by omega),List.range_succ]
  simp
theorem q2e {N : List Gd} {r : Int} {i : Nat} (h : goG N i 8 r = none) : ∀ (k : Nat),i < k → tabT N r k = none
 | 0,hi => by omega
 | k + 1,hi => by
  by_cases e : i = k
  ·subst e; simp only [tabT,h]; cases tabT N r i <;> rfl
  ·have h1 := q2e h k (by omega)
   simp only [tabT,h1]; rfl
structure MayG (props : Int) (ns : Nat) (N : List Gd) (gs : List Int) : Prop where
 p0 : 0 ≤ props
 p8 : props ≤ 8
 s1 : 1 ≤ ns
 s2 : ns ≤ 256
 len : gs.length = ns
 few : N.length ≤ 4096
 node : ∀ (i : Nat) (P lo hi : Int),N[i]? = some (P,lo,hi) → 0 ≤ P ∧ P < props ∧ lo ≠ hi ∧ FitG ns N i P lo ∧ FitG ns N i P hi
 once : N.Nodup
 gd : ∀ g ∈ gs,FitG ns N N.length (-1) g
def trP (R : List (List Nat)) (s l : Nat) : Nat := (R.getD s []).getD l 0
def runP (R : List (List Nat)) (s : Nat) (t : List Nat) : Nat := t.foldl (trP R) s
theorem q3N (R : List (List Nat)) (s l : Nat) (t : List Nat) : runP R s (l :: t) = runP R (trP R s l) t := rfl
theorem q19 (R : List (List Nat)) (s l : Nat) (t : List Nat) : runP R s (t ++ [l]) = trP R (runP R s t) l := by simp [runP]
structure RowsP (n K : Nat) (R : List (List Nat)) : Prop where
 len : R.length = n
 row : ∀ s,s < n → (R.getD s []).length = K
 lt : ∀ s l,s < n → l < K → trP R s l < n
theorem RowsP.run {n K : Nat} {R : List (List Nat)} (h : RowsP n K R) : ∀ (t : List Nat) (s : Nat),s < n → (∀ l ∈ t,l < K) → runP R s t < n
 | [],s,hs,_ => hs
 | l :: t,s,hs,ht => by
  rw [q3N]
  exact h.run t _ (h.lt s l hs (ht l (by simp))) (fun x hx => ht x (by simp [hx]))
theorem q2Q {m : Nat} {props : Int} {N : List Gd} (hp : props ≤ 8) (hN : ∀ (i : Nat) (P lo hi : Int),N[i]? = some (P,lo,hi) → 0 ≤ P ∧ P < props ∧ lo ≠ hi ∧ FitG m N i P lo ∧ FitG m N i P hi) (x : Nat) :
  ∀ (k a : Nat) (p r : Int),FitG m N a p r → 7 - p ≤ k → ∃ v : Nat,v < m ∧ goG N x k r = some (v : Int)
 | k,a,p,r,.inl ⟨h1,h2⟩,_ => ⟨(-1 - r).toNat,by omega,by rw [q3c h1]; congr 1; omega⟩
 | 0,a,p,r,.inr ⟨i,e,hi,nd,hn,hq⟩,hk => by
  obtain ⟨P,lo,hi'⟩ := nd
  have := hN i P lo hi' hn
  dsimp only at hq
  omega
 | k + 1,a,p,r,.inr ⟨i,e,hi,nd,hn,hq⟩,hk => by
  obtain ⟨P,lo,hi'⟩ := nd
  obtain ⟨h0,h1,_,h3,h4⟩ := hN i P lo hi' hn
  dsimp only at hq
  subst e
  rw [q2P hn h0 (by omega)]
  split
  ·exact q2Q hp hN x k i P hi' h4 (by omega)
  ·exact q2Q hp hN x k i P lo h3 (by omega)
def rowG (N : List Gd) (K : Nat) (r : Int) : List Nat := (List.range K).map fun x => ((goG N x 8 r).getD 0).toNat
def rowsG (N : List Gd) (gs : List Int) (K : Nat) : List (List Nat) := gs.map (rowG N K)
theorem qu {N : List Gd} {gs : List Int} {K s : Nat} (h : s < gs.length) : (rowsG N gs K).getD s [] = rowG N K (gs.getD s 0) := by
 simp [rowsG,List.getD_eq_getElem?_getD,List.getElem?_eq_getElem h]
theorem q3k {N : List Gd} {K x : Nat} {r : Int} (h : x < K) : (rowG N K r).getD x 0 = ((goG N x 8 r).getD 0).toNat := by
 simp [rowG,List.getD_eq_getElem?_getD,h]
theorem q2U (N : List Gd) (K : Nat) (r : Int) : (rowG N K r).length = K := by simp [rowG]
theorem MayG.go {p : Int} {ns : Nat} {N : List Gd} {gs : List Int} (h : MayG p ns N gs) {s : Nat} (hs : s < ns) (x : Nat) : ∃ v : Nat,v < ns ∧ goG N x 8 (gs.getD s 0) = some (v : Int) := by
 have hl := h.len
 have hm : gs.getD s 0 ∈ gs := by
  rw [List.getD_eq_getElem?_getD,List.getElem?_eq_getElem (by omega),Option.getD_some]
  exact List.getElem_mem _
 exact q2Q h.p8 h.node x 8 N.length (-1) _ (h.gd _ hm) (by omega)
theorem MayG.tr {p : Int} {ns : Nat} {N : List Gd} {gs : List Int} (h : MayG p ns N gs) {K s x : Nat} (hs : s < ns) (hx : x < K) : goG N x 8 (gs.getD s 0) = some ((trP (rowsG N gs K) s x : Nat) : Int) := by
 obtain ⟨v,hv,e⟩ := h.go hs x
 have hl := h.len
 rw [trP,qu (by omega),q3k hx,e]
 simp
theorem MayG.rows {p : Int} {ns : Nat} {N : List Gd} {gs : List Int} (h : MayG p ns N gs) (K : Nat) : RowsP ns K (rowsG N gs K) := by
 have hl := h.len
 refine ⟨by simp [rowsG,hl],fun s hs => by rw [qu (by omega),q2U],fun s l hs hlk => ?_⟩
 obtain ⟨v,hv,e⟩ := h.go hs l
 rw [trP,qu (by omega),q3k hlk,e]
 simpa using hv
theorem MayG.tab {p : Int} {ns : Nat} {N : List Gd} {gs : List Int} (h : MayG p ns N gs) {K s : Nat} (hs : s < ns) : tabT N (gs.getD s 0) K = some (((rowsG N gs K).getD s []).map Int.ofNat) := by
 have hl := h.len
 rw [qu (by omega),q3q (f := fun x => ((trP (rowsG N gs K) s x : Nat) : Int)) K (fun x hx => h.tr hs hx),rowG,List.map_map]
 congr 1
 apply List.map_congr_left
 intro x hx
 have hx' := List.mem_range.1 hx
 have e := h.tr hs hx'
 simp only [Function.comp_apply,e,Option.getD_some,Int.toNat_natCast]
 rfl
def keysP (f : Nat → List Nat) : Nat → List (List Nat)
 | 0 => []
 | k + 1 => if f k ∈ keysP f k then keysP f k else keysP f k ++ [f k]
theorem qj (f : Nat → List Nat) : ∀ (k : Nat) (a : List Nat),a ∈ keysP f k ↔ ∃ s,s < k ∧ f s = a
 | 0,a => by simp [keysP]
 | k + 1,a => by
  have ih := qj f k
  constructor
  ·intro h
   unfold keysP at h
   split at h
   ·obtain ⟨s,hs,e⟩ := (ih a).1 h; exact ⟨s,by omega,e⟩
   ·rcases List.mem_append.1 h with h | h
    ·obtain ⟨s,hs,e⟩ := (ih a).1 h; exact ⟨s,by omega,e⟩
    ·simp at h; exact ⟨k,by omega,h.symm⟩
  ·rintro ⟨s,hs,rfl⟩
   unfold keysP
   by_cases e : s = k
   ·subst e
    split
    ·assumption
    ·simp
   ·have := (ih (f s)).2 ⟨s,by omega,rfl⟩
    split
    ·exact this
    ·simp [this]
theorem qm (f : Nat → List Nat) : ∀ k,(keysP f k).length ≤ k
 | 0 => by simp [keysP]
 | k + 1 => by
  have := qm f k
  unfold keysP
  split
  ·omega
  ·simp; omega
theorem q27 (f : Nat → List Nat) : ∀ {k n : Nat}, k ≤ n → keysP f k <+: keysP f n
  | k, 0, h => by have : k = 0 := by omega
                  subst this; exact List.prefix_rfl
  | k, n + 1, h => by
    by_cases e : k = n + 1
    · subst e; exact List.prefix_rfl
    · have := q27 f (k := k) (n := n) (by omega)
      refine this.trans ?_
      rw [keysP]
      split
      · exact List.prefix_rfl
      · exact List.prefix_append _ _
theorem q3X {N N' : List (List Nat)} (h : N <+: N') {a : List Nat} (hm : a ∈ N) : N'.idxOf a = N.idxOf a := by
 obtain ⟨t,rfl⟩ := h
 simp [List.idxOf_append,hm]
def ofP (f : Nat → List Nat) (k : Nat) : List Nat := (List.range k).map fun s => (keysP f k).idxOf (f s)
theorem qs (f : Nat → List Nat) (k : Nat) : (ofP f k).length = k := by simp [ofP]
theorem q1H (f : Nat → List Nat) {k s : Nat} (h : s < k) : (ofP f k).getD s 0 = (keysP f k).idxOf (f s) := by
 simp [ofP,List.getD_eq_getElem?_getD,h]
theorem q4u (f : Nat → List Nat) {k s : Nat} (h : s < k) : (ofP f k).getD s 0 < (keysP f k).length := by
 rw [q1H f h]; exact List.idxOf_lt_length_of_mem ((qj f k _).2 ⟨s,h,rfl⟩)
theorem q3h (f : Nat → List Nat) {k s : Nat} (h : s < k) : (ofP f k).getD s 0 < k := Nat.lt_of_lt_of_le (q4u f h) (qm f k)
theorem q16 (f : Nat → List Nat) {k s t : Nat} (hs : s < k) (ht : t < k) : (ofP f k).getD s 0 = (ofP f k).getD t 0 ↔ f s = f t := by
 rw [q1H f hs,q1H f ht]
 constructor
 ·intro e
  have h1 := (qj f k _).2 ⟨s,hs,rfl⟩
  have h2 := (qj f k _).2 ⟨t,ht,rfl⟩
  have l1 := List.idxOf_lt_length_of_mem h1
  have l2 := List.idxOf_lt_length_of_mem h2
  have e1 : (keysP f k)[(keysP f k).idxOf (f s)] = f s := by simp
  have e2 : (keysP f k)[(keysP f k).idxOf (f t)] = f t := by simp
  rw [← e1,← e2]
  congr 1
 ·intro e; rw [e]
theorem q1E (f : Nat → List Nat) (g : Nat → List Nat) : ∀ (n : Nat),(∀ s t,s < n → t < n → g s = g t → f s = f t) → (keysP f n).length ≤ (keysP g n).length ∧ ((keysP f n).length = (keysP g n).length → ∀ s t,s < n → t < n → f s = f t → g s = g t)
 | 0,_ => ⟨by simp [keysP],fun _ s t hs => by omega⟩
 | n + 1,h => by
  obtain ⟨h1,h2⟩ := q1E f g n (fun s t hs ht => h s t (by omega) (by omega))
  by_cases hg : g n ∈ keysP g n
  ·obtain ⟨u,hu,eu⟩ := (qj g n _).1 hg
   have hfu := h u n (by omega) (by omega) eu
   have hf : f n ∈ keysP f n := (qj f n _).2 ⟨u,hu,hfu⟩
   simp only [keysP,if_pos hf,if_pos hg]
   refine ⟨h1,fun e s t hs ht hst => ?_⟩
   have h3 := h2 e
   have key : ∀ t,t < n → f t = f n → g t = g n := fun t ht e1 => (h3 t u ht hu (e1.trans hfu.symm)).trans eu
   by_cases es : s = n
   ·subst es
    by_cases et : t = s
    ·rw [et]
    ·exact (key t (by omega) hst.symm).symm
   ·by_cases et : t = n
    ·subst et; exact key s (by omega) hst
    ·exact h3 s t (by omega) (by omega) hst
  ·by_cases hf : f n ∈ keysP f n
   ·simp only [keysP,if_pos hf,if_neg hg,List.length_append,List.length_cons,List.length_nil]
    exact ⟨by omega,fun e => by omega⟩
   ·simp only [keysP,if_neg hf,if_neg hg,List.length_append,List.length_cons,List.length_nil]
    refine ⟨by omega,fun e s t hs ht hst => ?_⟩
    have h3 := h2 (by omega)
    have key : ∀ t,t < n → f t ≠ f n := fun t ht e1 => hf ((qj f n _).2 ⟨t,ht,e1⟩)
    by_cases es : s = n
    ·subst es
     by_cases et : t = s
     ·rw [et]
     ·exact absurd hst.symm (key t (by omega))
    ·by_cases et : t = n
     ·subst et; exact absurd hst (key s (by omega))
     ·exact h3 s t (by omega) (by omega) hst
def kindP (bs : List Bool) (s : Nat) : List Nat := (if bs.getD s false then 1 else 0) :: List.replicate 256 0
def sigP (R : List (List Nat)) (c : List Nat) (s : Nat) : List Nat := (c.getD s 0 :: (R.getD s []).map fun t => c.getD t 0) ++ List.replicate (256 - (R.getD s []).length) 0
theorem q28 (bs : List Bool) (s : Nat) : (kindP bs s).length = 257 := by
 rw [kindP,List.length_cons,List.length_replicate]
theorem q2R {bs : List Bool} {s t : Nat} : kindP bs s = kindP bs t ↔ bs.getD s false = bs.getD t false := by
 constructor
 ·intro h
  have := (List.cons.inj h).1
  cases h1 : bs.getD s false <;> cases h2 : bs.getD t false <;> rw [h1,h2] at this <;> first | rfl | exact absurd this (by decide)
 ·intro h; unfold kindP; rw [h]
theorem q49 {n K : Nat} {R : List (List Nat)} (h : RowsP n K R) (hK : K ≤ 256) (c : List Nat) {s : Nat} (hs : s < n) : (sigP R c s).length = 257 := by
 have := h.row s hs
 rw [sigP,List.length_append,List.length_cons,List.length_map,List.length_replicate,this]
 omega
theorem q4f {A B : List Nat} {K : Nat} (f : Nat → Nat) (hA : A.length = K) (hB : B.length = K) : A.map f = B.map f ↔ ∀ l,l < K → f (A.getD l 0) = f (B.getD l 0) := by
 constructor
 ·intro e l hl
  have h1 : l < (A.map f).length := by rw [List.length_map]; omega
  have h2 : l < (B.map f).length := by rw [List.length_map]; omega
  have : (A.map f)[l] = (B.map f)[l] := by simp only [e]
  simpa [List.getD_eq_getElem?_getD,List.getElem?_eq_getElem (show l < A.length by omega),List.getElem?_eq_getElem (show l < B.length by omega)] using this
 ·intro e
  apply List.ext_getElem
  ·rw [List.length_map,List.length_map,hA,hB]
  ·intro l hl hl'
   rw [List.length_map] at hl hl'
   have := e l (by omega)
   simpa [List.getD_eq_getElem?_getD,List.getElem?_eq_getElem hl,List.getElem?_eq_getElem hl'] using this
theorem q4m {n K : Nat} {R : List (List Nat)} (h : RowsP n K R) (c : List Nat) {s t : Nat} (hs : s < n) (ht : t < n) : sigP R c s = sigP R c t ↔ c.getD s 0 = c.getD t 0 ∧ ∀ l,l < K → c.getD (trP R s l) 0 = c.getD (trP R t l) 0 := by
 have h1 := h.row s hs
 have h2 := h.row t ht
 unfold sigP
 rw [h1,h2,List.append_cancel_right_eq,List.cons.injEq,q4f (fun t => c.getD t 0) h1 h2]
 exact Iff.rfl
def clsP (R : List (List Nat)) (bs : List Bool) (n : Nat) : Nat → List Nat
 | 0 => ofP (kindP bs) n
 | k + 1 => ofP (sigP R (clsP R bs n k)) n
def manyP (R : List (List Nat)) (bs : List Bool) (n : Nat) : Nat → Nat
 | 0 => (keysP (kindP bs) n).length
 | k + 1 => (keysP (sigP R (clsP R bs n k)) n).length
theorem qR (R : List (List Nat)) (bs : List Bool) (n k : Nat) : (clsP R bs n k).length = n := by cases k <;> simp [clsP,qs]
theorem q1V (R : List (List Nat)) (bs : List Bool) (n k : Nat) {s : Nat} (h : s < n) : (clsP R bs n k).getD s 0 < n := by
 cases k
 ·exact q3h _ h
 ·exact q3h _ h
theorem q40 (R : List (List Nat)) (bs : List Bool) (n k : Nat) : manyP R bs n k ≤ n := by
 cases k
 ·exact qm _ _
 ·exact qm _ _
variable {n K : Nat} {R : List (List Nat)} {bs : List Bool}
theorem q1a (h : RowsP n K R) (k : Nat) {s t : Nat} (hs : s < n) (ht : t < n) : (clsP R bs n (k + 1)).getD s 0 = (clsP R bs n (k + 1)).getD t 0 ↔ (clsP R bs n k).getD s 0 = (clsP R bs n k).getD t 0 ∧ ∀ l,l < K → (clsP R bs n k).getD (trP R s l) 0 = (clsP R bs n k).getD (trP R t l) 0 := by
 rw [clsP,q16 _ hs ht,q4m h _ hs ht]
theorem q29 (k : Nat) : ∃ f : Nat → List Nat,manyP R bs n k = (keysP f n).length ∧ ∀ s t,s < n → t < n → ((clsP R bs n k).getD s 0 = (clsP R bs n k).getD t 0 ↔ f s = f t) := by
 cases k
 ·exact ⟨_,rfl,fun s t hs ht => q16 _ hs ht⟩
 ·exact ⟨_,rfl,fun s t hs ht => q16 _ hs ht⟩
theorem q2S (h : RowsP n K R) (k : Nat) : manyP R bs n k ≤ manyP R bs n (k + 1) ∧ (manyP R bs n k = manyP R bs n (k + 1) → ∀ s t,s < n → t < n → (clsP R bs n k).getD s 0 = (clsP R bs n k).getD t 0 → (clsP R bs n (k + 1)).getD s 0 = (clsP R bs n (k + 1)).getD t 0) := by
 obtain ⟨f,e1,h1⟩ := q29 (R := R) (bs := bs) (n := n) k
 obtain ⟨g,e2,h2⟩ := q29 (R := R) (bs := bs) (n := n) (k + 1)
 obtain ⟨a,b⟩ := q1E f g n (fun s t hs ht e => (h1 s t hs ht).1 ((q1a h k hs ht).1 ((h2 s t hs ht).2 e)).1)
 rw [e1,e2]
 exact ⟨a,fun e s t hs ht hst => (h2 s t hs ht).2 (b e s t hs ht ((h1 s t hs ht).1 hst))⟩
theorem q2K (h : RowsP n K R) : ∀ (k : Nat) {s t : Nat},s < n → t < n → (clsP R bs n k).getD s 0 = (clsP R bs n k).getD t 0 → bs.getD s false = bs.getD t false
 | 0,s,t,hs,ht,e => by
  rw [clsP,q16 _ hs ht,q2R] at e
  exact e
 | k + 1,s,t,hs,ht,e => q2K h k hs ht ((q1a h k hs ht).1 e).1
theorem q15 (h : RowsP n K R) : ∀ (k : Nat) {s t : Nat},s < n → t < n → (clsP R bs n k).getD s 0 ≠ (clsP R bs n k).getD t 0 → ∃ u,(∀ l ∈ u,l < K) ∧ bs.getD (runP R s u) false ≠ bs.getD (runP R t u) false
 | 0,s,t,hs,ht,e => ⟨[],by simp,fun e' => e (by rw [clsP,q16 _ hs ht,q2R]; exact e')⟩
 | k + 1,s,t,hs,ht,e => by
  by_cases e1 : (clsP R bs n k).getD s 0 = (clsP R bs n k).getD t 0
  ·by_cases e2 : ∀ l,l < K → (clsP R bs n k).getD (trP R s l) 0 = (clsP R bs n k).getD (trP R t l) 0
   ·exact absurd ((q1a h k hs ht).2 ⟨e1,e2⟩) e
   ·simp only [Classical.not_forall] at e2
    obtain ⟨l,hl,e3⟩ := e2
    obtain ⟨u,hu,hne⟩ := q15 h k (h.lt s l hs hl) (h.lt t l ht hl) e3
    refine ⟨l :: u,fun x hx => ?_,hne⟩
    rcases List.mem_cons.1 hx with rfl | hx
    ·exact hl
    ·exact hu x hx
  ·exact q15 h k hs ht e1
def AlikeP (K : Nat) (R : List (List Nat)) (bs : List Bool) (s t : Nat) : Prop := ∀ u : List Nat,(∀ l ∈ u,l < K) → bs.getD (runP R s u) false = bs.getD (runP R t u) false
theorem q1p (h : RowsP n K R) {k : Nat} (hk : manyP R bs n k = manyP R bs n (k + 1)) : ∀ (u : List Nat) {s t : Nat},s < n → t < n → (∀ l ∈ u,l < K) → (clsP R bs n k).getD s 0 = (clsP R bs n k).getD t 0 → (clsP R bs n k).getD (runP R s u) 0 = (clsP R bs n k).getD (runP R t u) 0
 | [],s,t,_,_,_,e => e
 | l :: u,s,t,hs,ht,hu,e => by
  have hl := hu l (by simp)
  have e1 := ((q1a h k hs ht).1 ((q2S h k).2 hk s t hs ht e)).2 l hl
  exact q1p h hk u (h.lt s l hs hl) (h.lt t l ht hl) (fun x hx => hu x (by simp [hx])) e1
theorem qA (h : RowsP n K R) {k : Nat} (hk : manyP R bs n k = manyP R bs n (k + 1)) {s t : Nat} (hs : s < n) (ht : t < n) : (clsP R bs n k).getD s 0 = (clsP R bs n k).getD t 0 ↔ AlikeP K R bs s t := by
 constructor
 ·intro e u hu
  exact q2K h k (h.run u s hs hu) (h.run u t ht hu) (q1p h hk u hs ht hu e)
 ·intro ha
  refine Classical.byContradiction fun e => ?_
  obtain ⟨u,hu,hne⟩ := q15 h k hs ht e
  exact hne (ha u hu)
theorem q2a {α : Type} : ∀ {l m : List α},l.Nodup → (∀ x ∈ l,x ∈ m) → l.length ≤ m.length
 | [],m,_,_ => Nat.zero_le _
 | a :: l,m,hn,hs => by
  obtain ⟨m1,m2,rfl⟩ := List.append_of_mem (hs a (by simp))
  obtain ⟨ha,hn⟩ := List.nodup_cons.1 hn
  have : l.length ≤ (m1 ++ m2).length := q2a hn fun x hx => by
   have := hs x (by simp [hx])
   simp only [List.mem_append,List.mem_cons] at this ⊢
   rcases this with h | rfl | h
   ·exact .inl h
   ·exact absurd hx ha
   ·exact .inr h
  simp only [List.length_append,List.length_cons] at this ⊢
  omega
theorem q2b {n : Nat} {l : List Nat} (h : l.Nodup) (hl : ∀ x ∈ l,x < n) : l.length ≤ n := by
 have := q2a h (m := List.range n) (fun x hx => List.mem_range.2 (hl x hx))
 simpa using this
def putR (Q : List Nat) (s : Nat) : List Nat := if s ∈ Q then Q else Q ++ [s]
def rchP (R : List (List Nat)) : Nat → Nat → List Nat → List Nat
 | 0,_,Q => Q
 | f + 1,i,Q => if i < Q.length then rchP R f (i + 1) ((R.getD (Q.getD i 0) []).foldl putR Q) else Q
theorem q44 (Q : List Nat) (s : Nat) : Q <+: putR Q s := by
 unfold putR
 split
 ·exact List.prefix_rfl
 ·exact List.prefix_append _ _
theorem q45 (R : List (List Nat)) (f : Nat) {i : Nat} {Q : List Nat} (h : Q.length ≤ i) : rchP R f i Q = Q := by
 cases f with
 | zero => rfl
 | succ f => rw [rchP,if_neg (by omega)]
theorem q3M (R : List (List Nat)) (f : Nat) {i : Nat} {Q : List Nat} (h : i < Q.length) : rchP R (f + 1) i Q = rchP R f (i + 1) ((R.getD (Q.getD i 0) []).foldl putR Q) := by rw [rchP,if_pos h]
theorem q3A (row Q : List Nat) {k : Nat} (h : k < row.length) : (row.take (k + 1)).foldl putR Q = putR ((row.take k).foldl putR Q) (row.getD k 0) := by
 rw [List.take_add_one,List.getElem?_eq_getElem h,Option.toList_some,List.foldl_append,List.getD_eq_getElem?_getD,List.getElem?_eq_getElem h]
 rfl
theorem q25 : ∀ (row Q : List Nat),Q <+: row.foldl putR Q
 | [],_ => List.prefix_rfl
 | s :: row,Q => (q44 Q s).trans (q25 row _)
abbrev PrP := Nat × Nat × Nat × Nat
def pqP (Q : List PrP) : List (Nat × Nat) := Q.map fun x => (x.1,x.2.1)
theorem q1c (Q : List PrP) (x : PrP) : pqP (Q ++ [x]) = pqP Q ++ [(x.1,x.2.1)] := by simp [pqP]
structure QuP (n K : Nat) (R : List (List Nat)) (bs : List Bool) (p q i k : Nat) (Q : List PrP) : Prop where
 head : Q[0]? = some (p,q,0,0)
 once : (pqP Q).Nodup
 lt : ∀ x ∈ Q,x.1 < n ∧ x.2.1 < n ∧ x.2.2.1 < n * n ∧ x.2.2.2 < 256
 back : ∀ (j : Nat) (x : PrP),0 < j → Q[j]? = some x → x.2.2.1 < j ∧ x.2.2.2 < K ∧ ∃ y,Q[x.2.2.1]? = some y ∧ x.1 = trP R y.1 x.2.2.2 ∧ x.2.1 = trP R y.2.1 x.2.2.2
 done : ∀ (j : Nat) (x : PrP),j < i → Q[j]? = some x → bs.getD x.1 false = bs.getD x.2.1 false ∧ ∀ l,l < K → (trP R x.1 l,trP R x.2.1 l) ∈ pqP Q
 part : ∀ x,Q[i]? = some x → ∀ l,l < k → (trP R x.1 l,trP R x.2.1 l) ∈ pqP Q
variable {n K : Nat} {R : List (List Nat)} {bs : List Bool} {p q i k : Nat} {Q : List PrP}
theorem QuP.len (h : QuP n K R bs p q i k Q) : Q.length ≤ n * n := by
 have h1 : ((pqP Q).map fun x => x.1 * n + x.2).Nodup := by
  refine List.Pairwise.map _ (fun a b hab => ?_) (List.Pairwise.and_mem.1 h.once)
  obtain ⟨ha,hb,hne⟩ := hab
  obtain ⟨x,hx,rfl⟩ := List.mem_map.1 ha
  obtain ⟨y,hy,rfl⟩ := List.mem_map.1 hb
  have hx' := h.lt x hx
  have hy' := h.lt y hy
  intro e
  dsimp only at e
  apply hne
  have e1 : x.1 = y.1 := by
   have a1 : (x.1 * n + x.2.1) / n = x.1 := by rw [Nat.mul_comm,Nat.mul_add_div (by omega),Nat.div_eq_of_lt hx'.2.1]; rfl
   have a2 : (y.1 * n + y.2.1) / n = y.1 := by rw [Nat.mul_comm,Nat.mul_add_div (by omega),Nat.div_eq_of_lt hy'.2.1]; rfl
   rw [← a1,← a2,e]
  rw [e1] at e
  have : x.2.1 = y.2.1 := by omega
  rw [e1,this]
 have := q2b (n := n * n) h1 (fun z hz => by
  obtain ⟨a,ha,rfl⟩ := List.mem_map.1 hz
  obtain ⟨x,hx,rfl⟩ := List.mem_map.1 ha
  have hx' := h.lt x hx
  dsimp only
  have : x.1 * n + n ≤ n * n := by
   have := Nat.mul_le_mul_right n (show x.1 + 1 ≤ n by omega)
   rw [Nat.add_mul] at this; omega
  omega)
 simpa [pqP] using this
theorem q3L (hp : p < n) (hq : q < n) : QuP n K R bs p q 0 0 [(p,q,0,0)] := by
 have : 0 < n * n := Nat.mul_pos (by omega) (by omega)
 refine ⟨rfl,by simp [pqP],fun x hx => ?_,fun j x hj hx => ?_,fun j x hj => by omega,fun x _ l hl => by omega⟩
 ·simp at hx; subst hx; exact ⟨hp,hq,this,by dsimp only; omega⟩
 ·have := (List.getElem?_eq_some_iff.1 hx).1
  simp at this; omega
theorem q1q {Q : List PrP} {j : Nat} {x : PrP} (h : Q[j]? = some x) : x ∈ Q := List.mem_of_getElem? h
theorem QuP.skip (h : QuP n K R bs p q i k Q) {x : PrP} (hx : Q[i]? = some x) (hm : (trP R x.1 k,trP R x.2.1 k) ∈ pqP Q) : QuP n K R bs p q i (k + 1) Q :=
 ⟨h.head,h.once,h.lt,h.back,h.done,fun y hy l hl => by
  by_cases e : l = k
  ·rw [hx] at hy; injection hy with hy; subst hy; rw [e]; exact hm
  ·exact h.part y hy l (by omega)⟩
theorem QuP.push (hR : RowsP n K R) (hK : K ≤ 256) (h : QuP n K R bs p q i k Q) {x : PrP} (hx : Q[i]? = some x) (hk : k < K) (hm : (trP R x.1 k,trP R x.2.1 k) ∉ pqP Q) : QuP n K R bs p q i (k + 1) (Q ++ [(trP R x.1 k,trP R x.2.1 k,i,k)]) := by
 have hi : i < Q.length := (List.getElem?_eq_some_iff.1 hx).1
 have hl := h.len
 have hxl := h.lt x (q1q hx)
 have old : ∀ {j : Nat} {y : PrP},j < Q.length → (Q ++ [(trP R x.1 k,trP R x.2.1 k,i,k)])[j]? = some y → Q[j]? = some y := fun hj hy => by rwa [List.getElem?_append_left hj] at hy
 have new : ∀ {j : Nat} {y : PrP},Q[j]? = some y → (Q ++ [(trP R x.1 k,trP R x.2.1 k,i,k)])[j]? = some y := fun hy => by rwa [List.getElem?_append_left (List.getElem?_eq_some_iff.1 hy).1]
 refine ⟨new h.head,?_,fun y hy => ?_,fun j y hj hy => ?_,fun j y hj hy => ?_,fun y hy l hl => ?_⟩
 ·rw [q1c,List.nodup_append]
  exact ⟨h.once,by simp,fun a ha b hb => by simp only [List.mem_singleton] at hb; subst hb; exact fun e => hm (e ▸ ha)⟩
 ·rcases List.mem_append.1 hy with hy | hy
  ·exact h.lt y hy
  ·simp only [List.mem_singleton] at hy; subst hy
   exact ⟨hR.lt _ _ hxl.1 hk,hR.lt _ _ hxl.2.1 hk,by dsimp only; omega,by dsimp only; omega⟩
 ·by_cases hjl : j < Q.length
  ·obtain ⟨h1,h2,z,hz,h3⟩ := h.back j y hj (old hjl hy)
   exact ⟨h1,h2,z,new hz,h3⟩
  ·have hj2 : j = Q.length := by
    have := (List.getElem?_eq_some_iff.1 hy).1
    simp at this; omega
   subst hj2
   rw [List.getElem?_append_right (Nat.le_refl _)] at hy
   simp at hy; subst hy
   exact ⟨hi,hk,x,new hx,rfl,rfl⟩
 ·have hjl : j < Q.length := by omega
  obtain ⟨h1,h2⟩ := h.done j y hj (old hjl hy)
  exact ⟨h1,fun l hl => by rw [q1c]; exact List.mem_append_left _ (h2 l hl)⟩
 ·have hy' := old hi hy
  rw [q1c]
  by_cases e : l = k
  ·subst e
   rw [hx] at hy'; injection hy' with hy'; subst hy'
   simp
  ·exact List.mem_append_left _ (h.part y hy' l (by omega))
theorem QuP.next (h : QuP n K R bs p q i K Q) {x : PrP} (hx : Q[i]? = some x) (ha : bs.getD x.1 false = bs.getD x.2.1 false) : QuP n K R bs p q (i + 1) 0 Q :=
 ⟨h.head,h.once,h.lt,h.back,fun j y hj hy => by
  by_cases e : j = i
  ·subst e; rw [hx] at hy; injection hy with hy; subst hy; exact ⟨ha,h.part x hx⟩
  ·exact h.done j y (by omega) hy,fun x _ l hl => by omega⟩
theorem QuP.alike (h : QuP n K R bs p q i 0 Q) (hi : Q.length ≤ i) : AlikeP K R bs p q := by
 have key : ∀ (u : List Nat) (a b : Nat),(a,b) ∈ pqP Q → (∀ l ∈ u,l < K) → bs.getD (runP R a u) false = bs.getD (runP R b u) false := by
  intro u
  induction u with
  | nil =>
   intro a b hab _
   obtain ⟨x,hx,e⟩ := List.mem_map.1 hab
   obtain ⟨j,hj⟩ := List.mem_iff_getElem?.1 hx
   have := (List.getElem?_eq_some_iff.1 hj).1
   have := (h.done j x (by omega) hj).1
   injection e with e1 e2
   subst e1; subst e2
   exact this
  | cons l u ih =>
   intro a b hab hu
   obtain ⟨x,hx,e⟩ := List.mem_map.1 hab
   obtain ⟨j,hj⟩ := List.mem_iff_getElem?.1 hx
   have := (List.getElem?_eq_some_iff.1 hj).1
   have := (h.done j x (by omega) hj).2 l (hu l (by simp))
   injection e with e1 e2
   subst e1; subst e2
   exact ih _ _ this (fun y hy => hu y (by simp [hy]))
 intro u hu
 refine key u p q ?_ hu
 exact List.mem_map.2 ⟨_,q1q h.head,rfl⟩
def upP (Q : List PrP) : List Nat → Nat → Prop
 | [],i => i = 0
 | b :: ts,i => 0 < i ∧ ∃ x,Q[i]? = some x ∧ x.2.2.2 = b ∧ upP Q ts x.2.2.1
theorem QuP.upP_run (h : QuP n K R bs p q i k Q) : ∀ (ts : List Nat) (j : Nat) (x : PrP),upP Q ts j → Q[j]? = some x → (∀ l ∈ ts,l < K) ∧ runP R p ts.reverse = x.1 ∧ runP R q ts.reverse = x.2.1
 | [],j,x,hu,hx => by
  have hj : j = 0 := hu
  subst hj
  rw [h.head] at hx; injection hx with hx; subst hx
  exact ⟨by simp,rfl,rfl⟩
 | b :: ts,j,x,hu,hx => by
  obtain ⟨hj,y,hy,hb,hts⟩ := hu
  rw [hx] at hy; injection hy with hy; subst hy
  obtain ⟨h1,h2,z,hz,h3,h4⟩ := h.back j x hj hx
  obtain ⟨i1,i2,i3⟩ := QuP.upP_run h ts _ z hts hz
  subst hb
  refine ⟨fun l hl => ?_,?_,?_⟩
  ·rcases List.mem_cons.1 hl with rfl | hl
   ·exact h2
   ·exact i1 l hl
  ·rw [List.reverse_cons,q19,i2,h3]
  ·rw [List.reverse_cons,q19,i3,h4]
theorem QuP.up_ex (h : QuP n K R bs p q i k Q) : ∀ (m j : Nat),j ≤ m → j < Q.length → ∃ ts,upP Q ts j ∧ ts.length ≤ j
 | m,0,_,_ => ⟨[],rfl,Nat.le_refl _⟩
 | 0,j + 1,hm,_ => by omega
 | m + 1,j + 1,hm,hj => by
  have hx := List.getElem?_eq_getElem hj
  obtain ⟨h1,_⟩ := h.back (j + 1) _ (by omega) hx
  obtain ⟨ts,ht,hl⟩ := QuP.up_ex h m (Q[j + 1]).2.2.1 (by omega) (by omega)
  exact ⟨(Q[j + 1]).2.2.2 :: ts,⟨by omega,_,hx,rfl,ht⟩,by simp; omega⟩
theorem q2X {Q : List PrP} {ts : List Nat} (h : upP Q ts 0) : ts = [] := by
 cases ts with
 | nil => rfl
 | cons b ts => exact absurd h.1 (by omega)
def PartA (K : Nat) (R : List (List Nat)) (bs : List Bool) (p q : Nat) (ts : List Nat) (is : Bool) : Prop :=
 (is = true ∧ (∀ l ∈ ts,l < K) ∧ bs.getD (runP R p ts) false ≠ bs.getD (runP R q ts) false ∧ (bs.getD p false ≠ bs.getD q false → ts = [])) ∨ (is = false ∧ ts = [] ∧ AlikeP K R bs p q)
theorem QuP.found (h : QuP n K R bs p q i k Q) {x : PrP} (hx : Q[i]? = some x) (hne : bs.getD x.1 false ≠ bs.getD x.2.1 false) {ts : List Nat} (hu : upP Q ts i) : PartA K R bs p q ts.reverse true := by
 obtain ⟨h1,h2,h3⟩ := h.upP_run ts i x hu hx
 refine .inl ⟨rfl,fun l hl => h1 l (List.mem_reverse.1 hl),by rw [h2,h3]; exact hne,fun h0 => ?_⟩
 have : i = 0 := Classical.byContradiction fun e => h0 (h.done 0 _ (by omega) h.head).1
 subst this
 rw [q2X hu]; rfl
def ptN : List Gd := [(0,-1,-2),(0,-1,-3)]
def ptG : List Int := [0,1,0]
def ptB : List Bool := [false,true,true]
def ptR : List (List Nat) := [[0,1],[0,2],[0,1]]
theorem qQ : rowsG ptN ptG (2 ^ (1 : Int).toNat) = ptR := by decide +kernel
theorem q18 : MayG 1 3 ptN ptG := by
 refine ⟨by decide,by decide,by decide,by decide,rfl,by decide,fun i P lo hi e => ?_,by decide,fun g hg => ?_⟩
 ·match i with
  | 0 =>
   simp [ptN] at e
   obtain ⟨rfl,rfl,rfl⟩ := e
   exact ⟨by decide,by decide,by decide,.inl ⟨by decide,by decide⟩,.inl ⟨by decide,by decide⟩⟩
  | 1 =>
   simp [ptN] at e
   obtain ⟨rfl,rfl,rfl⟩ := e
   exact ⟨by decide,by decide,by decide,.inl ⟨by decide,by decide⟩,.inl ⟨by decide,by decide⟩⟩
  | i + 2 => simp [ptN] at e
 ·simp [ptG] at hg
  have hg : g = 0 ∨ g = 1 := by omega
  rcases hg with rfl | rfl
  ·exact .inr ⟨0,rfl,by decide,_,rfl,by decide⟩
  ·exact .inr ⟨1,rfl,by decide,_,rfl,by decide⟩
theorem pt_c0 : ofP (kindP ptB) 3 = [0,1,1] := by decide +kernel
theorem pt_c1 : ofP (sigP ptR [0,1,1]) 3 = [0,1,1] := by decide +kernel
theorem q1J : ∀ k,clsP ptR ptB 3 k = [0,1,1]
 | 0 => pt_c0
 | k + 1 => by rw [clsP,q1J k]; exact pt_c1
theorem pt_m0 : manyP ptR ptB 3 0 = manyP ptR ptB 3 1 := by
 rw [manyP,manyP,clsP,pt_c0]
 decide +kernel
theorem pt_ok : RowsP 3 2 ptR := by rw [← qQ]; exact q18.rows _
theorem pt_12 : AlikeP 2 ptR ptB 1 2 := by
 refine (qA pt_ok pt_m0 (by decide) (by decide)).1 ?_
 rw [q1J]; rfl
theorem pt_01 : ¬ AlikeP 2 ptR ptB 0 1 := fun h => by
 have := (qA pt_ok pt_m0 (s := 0) (t := 1) (by decide) (by decide)).2 h
 rw [q1J] at this
 exact absurd this (by decide)
theorem q4v : rchP ptR 3 0 [0] = [0,1,2] := by decide +kernel
end Go.Proofs.Ytllebfffmmnoeaa
