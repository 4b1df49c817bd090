/- Texts of the proof, put together: what it uses. -/
import Derived.WalkKit
import Derived.WalkSpells
import Derived.Maps.OwnSet
import Derived.Test.YthhbhadcjofelaaProg
import Derived.WalkLawsBesides
import Derived.BigQuiet
import Derived.Deep.QuietTactic
set_option maxRecDepth 100000
set_option maxHeartbeats 16000000
namespace Go.Proofs.Ythhbhadcjofelaa
open Go.RowKit Go.Maps
theorem q1r {B g : Nat} {a w : World} (h : Below B a w) (hg : B ≤ g) (cs : Array Value) : Below B a (w.setRow g cs) :=
 h.trans ⟨rfl,rfl,rfl,by simp,fun k hk => setRow_other _ _ _ _ (by omega)⟩
end Go.Proofs.Ythhbhadcjofelaa
namespace Go.Proofs.Ythhbhadcjofelaa
abbrev Gd := Int × Int × Int
def goG (N : List Gd) (x : Nat) : Nat → Int → Option Int
 | 0,r => if r < 0 then some (-1 - r) else none
 | k + 1,r => if r < 0 then some (-1 - r) else
  match N[r.toNat]? with
  | none => none
  | some (P,lo,hi) => if 0 ≤ P ∧ P ≤ 7 then goG N x k (if x.testBit P.toNat then hi else lo) else none
theorem q3E {N : List Gd} {x : Nat} {r : Int} (h : r < 0) : ∀ k,goG N x k r = some (-1 - r)
 | 0 => by simp [goG,h]
 | k + 1 => by simp [goG,h]
theorem q3c {N : List Gd} {x k i : Nat} {P lo hi : Int} (h : N[i]? = some (P,lo,hi)) (h0 : 0 ≤ P) (h7 : P ≤ 7) : goG N x (k + 1) (i : Int) = goG N x k (if x.testBit P.toNat then hi else lo) := by
 have hi : ¬ (i : Int) < 0 := by omega
 simp [goG,hi,h,h0,h7]
def FitG (m : Nat) (N : List Gd) (a : Nat) (p : Int) (r : Int) : Prop :=
 (r < 0 ∧ -(m : Int) ≤ r) ∨ ∃ i,r = ((i : Nat) : Int) ∧ i < a ∧ ∃ nd,N[i]? = some nd ∧ p < nd.1
theorem q4Y {N N' : List Gd} (h : N <+: N') {nd : Gd} (hm : nd ∈ N) : N'.idxOf nd = N.idxOf nd := by
 obtain ⟨t,rfl⟩ := h
 simp [List.idxOf_append,hm]
theorem q4X {N : List Gd} {nd : Gd} (h : nd ∉ N) : (N ++ [nd]).idxOf nd = N.length := by
 simp [List.idxOf_append,h]
structure MayG (props : Int) (ns : Nat) (N : List Gd) (gs : List Int) : Prop where
 p0 : 0 ≤ props
 p8 : props ≤ 8
 s1 : 1 ≤ ns
 s2 : ns ≤ 256
 len : gs.length = ns
 few : N.length ≤ 4096
 node : ∀ (i : Nat) (P lo hi : Int),N[i]? = some (P,lo,hi) → 0 ≤ P ∧ P < props ∧ lo ≠ hi ∧ FitG ns N i P lo ∧ FitG ns N i P hi
 once : N.Nodup
 gd : ∀ g ∈ gs,FitG ns N N.length (-1) g
section
def trP (R : List (List Nat)) (s l : Nat) : Nat := (R.getD s []).getD l 0
structure RowsP (n K : Nat) (R : List (List Nat)) : Prop where
 len : R.length = n
 row : ∀ s,s < n → (R.getD s []).length = K
 lt : ∀ s l,s < n → l < K → trP R s l < n
theorem q3d {m : Nat} {props : Int} {N : List Gd} (hp : props ≤ 8) (hN : ∀ (i : Nat) (P lo hi : Int),N[i]? = some (P,lo,hi) → 0 ≤ P ∧ P < props ∧ lo ≠ hi ∧ FitG m N i P lo ∧ FitG m N i P hi) (x : Nat) :
  ∀ (k a : Nat) (p r : Int),FitG m N a p r → 7 - p ≤ k → ∃ v : Nat,v < m ∧ goG N x k r = some (v : Int)
 | k,a,p,r,.inl ⟨h1,h2⟩,_ => ⟨(-1 - r).toNat,by omega,by rw [q3E h1]; congr 1; omega⟩
 | 0,a,p,r,.inr ⟨i,e,hi,nd,hn,hq⟩,hk => by
  obtain ⟨P,lo,hi'⟩ := nd
  have := hN i P lo hi' hn
  dsimp only at hq
  omega
 | k + 1,a,p,r,.inr ⟨i,e,hi,nd,hn,hq⟩,hk => by
  obtain ⟨P,lo,hi'⟩ := nd
  obtain ⟨h0,h1,_,h3,h4⟩ := hN i P lo hi' hn
  dsimp only at hq
  subst e
  rw [q3c hn h0 (by omega)]
  split
  ·exact q3d hp hN x k i P hi' h4 (by omega)
  ·exact q3d hp hN x k i P lo h3 (by omega)
def rowG (N : List Gd) (K : Nat) (r : Int) : List Nat := (List.range K).map fun x => ((goG N x 8 r).getD 0).toNat
def rowsG (N : List Gd) (gs : List Int) (K : Nat) : List (List Nat) := gs.map (rowG N K)
theorem q1N {N : List Gd} {gs : List Int} {K s : Nat} (h : s < gs.length) : (rowsG N gs K).getD s [] = rowG N K (gs.getD s 0) := by
 simp [rowsG,List.getD_eq_getElem?_getD,List.getElem?_eq_getElem h]
theorem q3K {N : List Gd} {K x : Nat} {r : Int} (h : x < K) : (rowG N K r).getD x 0 = ((goG N x 8 r).getD 0).toNat := by
 simp [rowG,List.getD_eq_getElem?_getD,h]
theorem q4D (N : List Gd) (K : Nat) (r : Int) : (rowG N K r).length = K := by simp [rowG]
theorem MayG.go {p : Int} {ns : Nat} {N : List Gd} {gs : List Int} (h : MayG p ns N gs) {s : Nat} (hs : s < ns) (x : Nat) : ∃ v : Nat,v < ns ∧ goG N x 8 (gs.getD s 0) = some (v : Int) := by
 have hl := h.len
 have hm : gs.getD s 0 ∈ gs := by
  rw [List.getD_eq_getElem?_getD,List.getElem?_eq_getElem (by omega),Option.getD_some]
  exact List.getElem_mem _
 exact q3d h.p8 h.node x 8 N.length (-1) _ (h.gd _ hm) (by omega)
theorem MayG.tr {p : Int} {ns : Nat} {N : List Gd} {gs : List Int} (h : MayG p ns N gs) {K s x : Nat} (hs : s < ns) (hx : x < K) : goG N x 8 (gs.getD s 0) = some ((trP (rowsG N gs K) s x : Nat) : Int) := by
 obtain ⟨v,hv,e⟩ := h.go hs x
 have hl := h.len
 rw [trP,q1N (by omega),q3K hx,e]
 simp
theorem MayG.rows {p : Int} {ns : Nat} {N : List Gd} {gs : List Int} (h : MayG p ns N gs) (K : Nat) : RowsP ns K (rowsG N gs K) := by
 have hl := h.len
 refine ⟨by simp [rowsG,hl],fun s hs => by rw [q1N (by omega),q4D],fun s l hs hlk => ?_⟩
 obtain ⟨v,hv,e⟩ := h.go hs l
 rw [trP,q1N (by omega),q3K hlk,e]
 simpa using hv
variable {n K : Nat} {R : List (List Nat)} {bs : List Bool}
end
section
theorem q2B {α : Type} : ∀ {l m : List α},l.Nodup → (∀ x ∈ l,x ∈ m) → l.length ≤ m.length
 | [],m,_,_ => Nat.zero_le _
 | a :: l,m,hn,hs => by
  obtain ⟨m1,m2,rfl⟩ := List.append_of_mem (hs a (by simp))
  obtain ⟨ha,hn⟩ := List.nodup_cons.1 hn
  have : l.length ≤ (m1 ++ m2).length := q2B hn fun x hx => by
   have := hs x (by simp [hx])
   simp only [List.mem_append,List.mem_cons] at this ⊢
   rcases this with h | rfl | h
   ·exact .inl h
   ·exact absurd hx ha
   ·exact .inr h
  simp only [List.length_append,List.length_cons] at this ⊢
  omega
theorem q4e {n : Nat} {l : List Nat} (h : l.Nodup) (hl : ∀ x ∈ l,x < n) : l.length ≤ n := by
 have := q2B h (m := List.range n) (fun x hx => List.mem_range.2 (hl x hx))
 simpa using this
abbrev PrP := Nat × Nat × Nat × Nat
variable {n K : Nat} {R : List (List Nat)} {bs : List Bool} {p q i k : Nat} {Q : List PrP}
end
section
abbrev gone (j k i l : Nat) : Prop := i < j ∨ i = j ∧ l < k
variable {n K : Nat} {R : List (List Nat)} {j k : Nat} {Q : List (Nat × List Nat)} {bs : List Bool} {acc : Bool}
end
section
theorem q4S {α : Type} {Q : List α} {j : Nat} (h : j < Q.length) (d : α) : Q.getD j d = Q[j] := by
 rw [List.getD_eq_getElem?_getD,List.getElem?_eq_getElem h]; rfl
variable {n K : Nat} {R : List (List Nat)} {bs : List Bool}
variable {c : Nat → Nat} {Q F : List Nat}
end
def mvL (m : Nat) : List Nat := (List.range 256).filter fun l => l &&& m == l
def cbN (m : Nat) : Nat → Nat
 | 0 => 0
 | k + 1 => cbN m k + m / 2 ^ k % 2
theorem qm {m l : Nat} : l ∈ mvL m ↔ l < 256 ∧ l &&& m = l := by simp [mvL]
theorem qB {n : Nat} {P : Nat → Bool} (h : (List.range n).all P = true) : ∀ m,m < n → P m = true := fun m hm => List.all_eq_true.1 h m (List.mem_range.2 hm)
theorem q52 (m : Nat) (hm : m < 256) : (mvL m).length = 2 ^ cbN m 8 := by
 have h : (List.range 256).all (fun m => (mvL m).length == 2 ^ cbN m 8) = true := by decide +kernel
 exact beq_iff_eq.1 (qB h m hm)
theorem ql (m : Nat) : (mvL m).length ≤ 256 := by
 unfold mvL
 exact Nat.le_trans (List.length_filter_le _ _) (by simp)
theorem q4u (m : Nat) : (mvL m).Pairwise (· < ·) := List.Pairwise.filter _ List.pairwise_lt_range
theorem qF (m : Nat) : 0 < (mvL m).length := List.length_pos_of_mem (a := 0) (qm.2 ⟨by decide,by simp⟩)
theorem qi {m i : Nat} (h : i < (mvL m).length) : (mvL m).getD i 0 < 256 ∧ (mvL m).getD i 0 &&& m = (mvL m).getD i 0 := by
 have : (mvL m).getD i 0 = (mvL m)[i] := by simp [List.getD_eq_getElem?_getD,List.getElem?_eq_getElem h]
 rw [this]
 exact qm.1 (List.getElem_mem h)
theorem q5n {m i j : Nat} (hij : i < j) (hj : j < (mvL m).length) : (mvL m).getD i 0 < (mvL m).getD j 0 := by
 have hi : i < (mvL m).length := Nat.lt_trans hij hj
 have e1 : (mvL m).getD i 0 = (mvL m)[i] := by simp [List.getD_eq_getElem?_getD,List.getElem?_eq_getElem hi]
 have e2 : (mvL m).getD j 0 = (mvL m)[j] := by simp [List.getD_eq_getElem?_getD,List.getElem?_eq_getElem hj]
 rw [e1,e2]
 exact List.pairwise_iff_getElem.1 (q4u m) i j hi hj hij
theorem q3k {m l : Nat} (hl : l < 256) (h : l &&& m = l) : ∃ i,i < (mvL m).length ∧ (mvL m).getD i 0 = l := by
 obtain ⟨i,hi,e⟩ := List.getElem_of_mem (qm.2 ⟨hl,h⟩)
 exact ⟨i,hi,by rw [← e]; simp [List.getD_eq_getElem?_getD,List.getElem?_eq_getElem hi]⟩
theorem q23 {m l : Nat} (hm : m < 256) (hl : l < 256) : (l &&& (255 - m) = 0) ↔ l &&& m = l := by
 have h : (List.range 256).all (fun m => (List.range 256).all fun l => (l &&& (255 - m) == 0) == (l &&& m == l)) = true := by decide +kernel
 have := beq_iff_eq.1 (qB (qB h m hm) l hl)
 constructor
 ·intro e; rw [e] at this; simpa using this.symm
 ·intro e; rw [e] at this; simpa using this
theorem qp {m l : Nat} (h : l &&& m = l) : l ≤ m := by rw [← h]; exact Nat.and_le_right
theorem q5j (m k : Nat) : cbN m k ≤ k := by
 induction k with
 | zero => exact Nat.le_refl _
 | succ k ih => unfold cbN; have := Nat.mod_lt (m / 2 ^ k) (show 0 < 2 by decide); omega
theorem q4d : mvL 1 = [0,1] := by decide +kernel
theorem q5o : mvL 2 = [0,2] := by decide +kernel
def SplitN (p e s : Nat) : Prop := e &&& s = 0 ∧ e ||| s = 2 ^ p - 1
def befA (F : Nat → List (List Nat)) (W : Nat → Bool) (q : Nat) : Bool := (F q).all fun row => row.any W
def wonA (F : Nat → List (List Nat)) (acc : Nat → Bool) : Nat → Nat → Bool
 | 0,q => acc q
 | k + 1,q => wonA F acc k q || befA F (wonA F acc k) q
section
variable {F : Nat → List (List Nat)} {acc : Nat → Bool}
theorem qo {W : Nat → Bool} {q : Nat} : befA F W q = true ↔ ∀ row ∈ F q,∃ t ∈ row,W t = true := by
 unfold befA
 rw [List.all_eq_true]
 exact ⟨fun h row hr => List.any_eq_true.1 (h row hr),fun h row hr => List.any_eq_true.2 (h row hr)⟩
theorem q16 {W : Nat → Bool} {q : Nat} : befA F W q = false ↔ ∃ row ∈ F q,∀ t ∈ row,W t = false := by
 constructor
 ·intro h
  have h2 : ¬ ∀ row ∈ F q,∃ t ∈ row,W t = true := fun k => by rw [qo.2 k] at h; cases h
  refine Classical.byContradiction fun hn => h2 fun row hr => Classical.byContradiction fun hm => hn ⟨row,hr,fun t ht => ?_⟩
  cases hW : W t with
  | false => rfl
  | true => exact absurd ⟨t,ht,hW⟩ hm
 ·rintro ⟨row,hr,h⟩
  cases hb : befA F W q with
  | false => rfl
  | true =>
   obtain ⟨t,ht,hW⟩ := qo.1 hb row hr
   rw [h t ht] at hW; cases hW
theorem q43 {W V : Nat → Bool} {q : Nat} (h : ∀ t,W t = true → V t = true) (hb : befA F W q = true) : befA F V q = true :=
 qo.2 fun row hr => by
  obtain ⟨t,ht,hW⟩ := qo.1 hb row hr
  exact ⟨t,ht,h t hW⟩
theorem q3L {k q : Nat} (h : wonA F acc k q = true) : wonA F acc (k + 1) q = true := by
 show (wonA F acc k q || befA F (wonA F acc k) q) = true
 rw [h]; rfl
theorem qC {j k q : Nat} (hjk : j ≤ k) (h : wonA F acc j q = true) : wonA F acc k q = true := by
 induction k with
 | zero =>
  obtain rfl : j = 0 := by omega
  exact h
 | succ k ih =>
  by_cases e : j = k + 1
  ·rw [← e]; exact h
  ·exact q3L (ih (by omega))
theorem q1w {k q : Nat} (h : wonA F acc (k + 1) q = true) (h0 : wonA F acc k q = false) : befA F (wonA F acc k) q = true := by
 have : (wonA F acc k q || befA F (wonA F acc k) q) = true := h
 rw [h0] at this
 simpa using this
theorem q1d {k q : Nat} (h : befA F (wonA F acc k) q = true) : wonA F acc (k + 1) q = true := by
 show (wonA F acc k q || befA F (wonA F acc k) q) = true
 rw [h]; simp
def JustA (F : Nat → List (List Nat)) (acc : Nat → Bool) (k q : Nat) : Prop := wonA F acc k q = true ∧ ∀ j,j < k → wonA F acc j q = false
theorem q4Z {k q : Nat} (h : wonA F acc k q = true) : ∃ j,j ≤ k ∧ JustA F acc j q := by
 induction k with
 | zero => exact ⟨0,Nat.le_refl _,h,fun j hj => absurd hj (by omega)⟩
 | succ k ih =>
  cases h0 : wonA F acc k q with
  | true => obtain ⟨j,hj,hJ⟩ := ih h0; exact ⟨j,by omega,hJ⟩
  | false =>
   refine ⟨k + 1,Nat.le_refl _,h,fun j hj => ?_⟩
   cases hw : wonA F acc j q with
   | false => rfl
   | true => rw [qC (show j ≤ k by omega) hw] at h0; cases h0
theorem JustA.uni {j k q : Nat} (h : JustA F acc j q) (h' : JustA F acc k q) : j = k := by
 rcases Nat.lt_trichotomy j k with e | e | e
 ·have := h'.2 j e; rw [h.1] at this; cases this
 ·exact e
 ·have := h.2 k e; rw [h'.1] at this; cases this
structure RankA (n : Nat) (F : Nat → List (List Nat)) (acc : Nat → Bool) (r : List Int) : Prop where
 len : r.length = n
 at' : ∀ q,q < n → (r.getD q 0 = -1 ∧ ∀ k,wonA F acc k q = false) ∨ ∃ k : Nat,r.getD q 0 = (k : Int) ∧ JustA F acc k q
theorem RankA.uni {n : Nat} {r r' : List Int} (h : RankA n F acc r) (h' : RankA n F acc r') : r = r' := by
 refine List.ext_getElem (by rw [h.len,h'.len]) fun q h1 h2 => ?_
 have e1 : r[q] = r.getD q 0 := by simp [List.getD_eq_getElem?_getD,List.getElem?_eq_getElem h1]
 have e2 : r'[q] = r'.getD q 0 := by simp [List.getD_eq_getElem?_getD,List.getElem?_eq_getElem h2]
 have hq : q < n := by rw [← h.len]; exact h1
 rw [e1,e2]
 rcases h.at' q hq with ⟨h3,h4⟩ | ⟨k,h3,h4⟩ <;> rcases h'.at' q hq with ⟨k3,k4⟩ | ⟨j,k3,k4⟩
 ·rw [h3,k3]
 ·have := h4 j; rw [k4.1] at this; cases this
 ·have := k4 k; rw [h4.1] at this; cases this
 ·rw [h3,k3,h4.uni k4]
def InA (n : Nat) (F : Nat → List (List Nat)) : Prop := ∀ q,q < n → ∀ row ∈ F q,∀ t ∈ row,t < n
theorem q4t {k q : Nat} (hne : F q ≠ []) (h : JustA F acc (k + 1) q) : ∃ row ∈ F q,(∃ t ∈ row,JustA F acc k t) ∧ ∀ t ∈ row,∀ j,j < k → wonA F acc j t = false := by
 have hb := q1w h.1 (h.2 k (by omega))
 cases k with
 | zero =>
  obtain ⟨row,hr⟩ := List.exists_mem_of_ne_nil _ hne
  obtain ⟨t,ht,hW⟩ := qo.1 hb row hr
  exact ⟨row,hr,⟨t,ht,hW,fun j hj => absurd hj (by omega)⟩,fun t ht j hj => absurd hj (by omega)⟩
 | succ k =>
  have hn : befA F (wonA F acc k) q = false := by
   cases hx : befA F (wonA F acc k) q with
   | false => rfl
   | true => have := h.2 (k + 1) (by omega); rw [q1d hx] at this; cases this
  obtain ⟨row,hr,hall⟩ := q16.1 hn
  have hlow : ∀ t ∈ row,∀ j,j < k + 1 → wonA F acc j t = false := fun t ht j hj => by
   cases hx : wonA F acc j t with
   | false => rfl
   | true => have := qC (show j ≤ k by omega) hx; rw [hall t ht] at this; cases this
  obtain ⟨t,ht,hW⟩ := qo.1 hb row hr
  exact ⟨row,hr,⟨t,ht,hW,fun j hj => hlow t ht j hj⟩,hlow⟩
theorem q3X {n k q : Nat} (hF : InA n F) (hne : ∀ q,q < n → F q ≠ []) (hq : q < n) (h : JustA F acc k q) : ∃ L : List Nat,L.length = k + 1 ∧ L.Nodup ∧ ∀ t ∈ L,t < n ∧ ∃ j,j ≤ k ∧ JustA F acc j t := by
 induction k generalizing q with
 | zero => exact ⟨[q],rfl,by simp,fun t ht => by simp at ht; subst ht; exact ⟨hq,0,Nat.le_refl _,h⟩⟩
 | succ k ih =>
  obtain ⟨row,hr,⟨t,ht,hJ⟩,_⟩ := q4t (hne q hq) h
  obtain ⟨L,h1,h2,h3⟩ := ih (hF q hq row hr t ht) hJ
  refine ⟨q :: L,by simp [h1],List.nodup_cons.2 ⟨fun hm => ?_,h2⟩,fun u hu => ?_⟩
  ·obtain ⟨_,j,hj,hj2⟩ := h3 q hm
   have := hj2.uni h
   omega
  ·rcases List.mem_cons.1 hu with rfl | hu
   ·exact ⟨hq,k + 1,Nat.le_refl _,h⟩
   ·obtain ⟨a,j,hj,hj2⟩ := h3 u hu
    exact ⟨a,j,by omega,hj2⟩
theorem q3H {n k q : Nat} (hF : InA n F) (hne : ∀ q,q < n → F q ≠ []) (hq : q < n) (h : JustA F acc k q) : k < n := by
 obtain ⟨L,h1,h2,h3⟩ := q3X hF hne hq h
 have := q4e h2 fun t ht => (h3 t ht).1
 omega
theorem q2A {q : Nat} (h : ∀ k,wonA F acc k q = false) : ∃ row ∈ F q,∀ t ∈ row,∀ k,wonA F acc k t = false := by
 refine Classical.byContradiction fun hn => ?_
 have h1 : ∀ row ∈ F q,∃ t ∈ row,∃ k,wonA F acc k t = true := fun row hr => Classical.byContradiction fun hm => hn ⟨row,hr,fun t ht k => by
  cases hx : wonA F acc k t with
  | false => rfl
  | true => exact absurd ⟨t,ht,k,hx⟩ hm⟩
 have h2 : ∀ rows : List (List Nat),(∀ row ∈ rows,row ∈ F q) → ∃ K,∀ row ∈ rows,∃ t ∈ row,wonA F acc K t = true := by
  intro rows
  induction rows with
  | nil => exact fun _ => ⟨0,fun row hr => by cases hr⟩
  | cons row rows ih =>
   intro hsub
   obtain ⟨K,hK⟩ := ih fun r hr => hsub r (List.mem_cons_of_mem _ hr)
   obtain ⟨t,ht,k,hk⟩ := h1 row (hsub row List.mem_cons_self)
   refine ⟨max K k,fun r hr => ?_⟩
   rcases List.mem_cons.1 hr with rfl | hr
   ·exact ⟨t,ht,qC (Nat.le_max_right _ _) hk⟩
   ·obtain ⟨u,hu,hW⟩ := hK r hr
    exact ⟨u,hu,qC (Nat.le_max_left _ _) hW⟩
 obtain ⟨K,hK⟩ := h2 (F q) fun _ h => h
 have := h (K + 1)
 rw [q1d (qo.2 hK)] at this
 cases this
theorem q21 {k q : Nat} (h : JustA F acc (k + 1) q) : ∀ row ∈ F q,∃ t ∈ row,∃ j,j ≤ k ∧ JustA F acc j t := fun row hr => by
 have hb := q1w h.1 (h.2 k (by omega))
 obtain ⟨t,ht,hW⟩ := qo.1 hb row hr
 obtain ⟨j,hj,hJ⟩ := q4Z hW
 exact ⟨t,ht,j,hj,hJ⟩
theorem q3o {n k : Nat} (hF : InA n F) (h : ∀ q,q < n → wonA F acc (k + 1) q = wonA F acc k q) : ∀ j q,q < n → wonA F acc (k + j) q = wonA F acc k q := by
 intro j
 induction j with
 | zero => exact fun q _ => rfl
 | succ j ih =>
  intro q hq
  have e : befA F (wonA F acc (k + j)) q = befA F (wonA F acc k) q := by
   cases h1 : befA F (wonA F acc k) q with
   | true => exact q43 (fun t ht => qC (Nat.le_add_right _ _) ht) h1
   | false =>
    obtain ⟨row,hr,hall⟩ := q16.1 h1
    exact q16.2 ⟨row,hr,fun t ht => by rw [ih t (hF q hq row hr t ht)]; exact hall t ht⟩
  show (wonA F acc (k + j) q || befA F (wonA F acc (k + j)) q) = _
  rw [ih q hq,e]
  exact h q hq
end
section
variable {F : Nat → List (List Nat)} {acc : Nat → Bool} {n : Nat} {r : List Int}
theorem RankA.just {q : Nat} (h : RankA n F acc r) (hq : q < n) {k : Nat} (hk : JustA F acc k q) : r.getD q 0 = (k : Int) := by
 rcases h.at' q hq with ⟨_,h2⟩ | ⟨j,h1,h2⟩
 ·have := h2 k; rw [hk.1] at this; cases this
 ·rw [h1,h2.uni hk]
theorem RankA.of {q : Nat} (h : RankA n F acc r) (hq : q < n) (h0 : 0 ≤ r.getD q 0) : ∃ k : Nat,r.getD q 0 = (k : Int) ∧ JustA F acc k q := by
 rcases h.at' q hq with ⟨h1,_⟩ | h1
 ·omega
 ·exact h1
theorem RankA.never {q : Nat} (h : RankA n F acc r) (hq : q < n) : r.getD q 0 < 0 ↔ ∀ k,wonA F acc k q = false := by
 rcases h.at' q hq with ⟨h1,h2⟩ | ⟨k,h1,h2⟩
 ·exact ⟨fun _ => h2,fun _ => by omega⟩
 ·refine ⟨fun h => by omega,fun h3 => ?_⟩
  have := h3 k; rw [h2.1] at this; cases this
theorem RankA.bd (h : RankA n F acc r) (hF : InA n F) (hne : ∀ q,q < n → F q ≠ []) {q : Nat} (hq : q < n) : -1 ≤ r.getD q 0 ∧ r.getD q 0 < (n : Int) ∧ (r.getD q 0 = 0 ↔ acc q = true) := by
 rcases h.at' q hq with ⟨h1,h2⟩ | ⟨k,h1,h2⟩
 ·refine ⟨by omega,by omega,fun e => by omega,fun e => ?_⟩
  have := h2 0; unfold wonA at this; rw [e] at this; cases this
 ·have := q3H hF hne hq h2
  refine ⟨by omega,by omega,fun e => ?_,fun e => ?_⟩
  ·obtain rfl : k = 0 := by omega
   exact h2.1
  ·have h3 : JustA F acc 0 q := ⟨e,fun j hj => absurd hj (Nat.not_lt_zero _)⟩
   rw [h1,h2.uni h3]; rfl
theorem RankA.stays (h : RankA n F acc r) (hF : InA n F) {q : Nat} (hq : q < n) (h0 : r.getD q 0 < 0) : ∃ row ∈ F q,∀ t ∈ row,r.getD t 0 < 0 := by
 obtain ⟨row,hr,h1⟩ := q2A ((h.never hq).1 h0)
 exact ⟨row,hr,fun t ht => (h.never (hF q hq row hr t ht)).2 (h1 t ht)⟩
theorem q1M {K : Nat} (hF : InA n F) (hs : ∀ q,q < n → wonA F acc (K + 1) q = wonA F acc K q) (hl : r.length = n) (hr : ∀ q,q < n → (r.getD q 0 = -1 ∧ wonA F acc K q = false) ∨ ∃ k : Nat,r.getD q 0 = (k : Int) ∧ JustA F acc k q) : RankA n F acc r := by
 refine ⟨hl,fun q hq => ?_⟩
 rcases hr q hq with ⟨h1,h2⟩ | h1
 ·refine .inl ⟨h1,fun k => ?_⟩
  cases hx : wonA F acc k q with
  | false => rfl
  | true =>
   have h3 := qC (show k ≤ K + k by omega) hx
   rw [q3o hF hs k q hq,h2] at h3
   cases h3
 ·exact .inr h1
end
def rkA (F : Nat → List (List Nat)) (acc : Nat → Bool) : Nat → Nat → Int
 | 0,q => if acc q then 0 else -1
 | k + 1,q => if (befA F (wonA F acc k) q && !wonA F acc k q) = true then ((k + 1 : Nat) : Int) else rkA F acc k q
section
variable {F : Nat → List (List Nat)} {acc : Nat → Bool} {n : Nat}
theorem q2t : ∀ (k q : Nat),wonA F acc k q = decide (0 ≤ rkA F acc k q)
 | 0,q => by
  unfold wonA rkA
  cases acc q <;> simp
 | k + 1,q => by
  rw [rkA]
  cases h0 : wonA F acc k q with
  | true =>
   have h1 := q2t k q
   rw [h0] at h1
   rw [q3L h0]
   simp only [Bool.not_true,Bool.and_false,Bool.false_eq_true,if_false]
   exact h1
  | false =>
   have h1 := q2t k q
   rw [h0] at h1
   cases hb : befA F (wonA F acc k) q with
   | true => rw [q1d hb]; simp; omega
   | false =>
    have h2 : wonA F acc (k + 1) q = false := by
     show (wonA F acc k q || befA F (wonA F acc k) q) = false
     rw [h0,hb]; rfl
    rw [h2]
    simp only [Bool.not_false,Bool.and_true,Bool.false_eq_true,if_false]
    exact h1
theorem q2C : ∀ (k q : Nat),rkA F acc k q = -1 ∨ ∃ j : Nat,j ≤ k ∧ rkA F acc k q = (j : Int) ∧ JustA F acc j q
 | 0,q => by
  unfold rkA
  cases h : acc q with
  | true => exact .inr ⟨0,Nat.le_refl _,rfl,h,fun j hj => absurd hj (Nat.not_lt_zero _)⟩
  | false => exact .inl rfl
 | k + 1,q => by
  rw [rkA]
  by_cases h : (befA F (wonA F acc k) q && !wonA F acc k q) = true
  ·rw [if_pos h]
   rw [Bool.and_eq_true,Bool.not_eq_true'] at h
   refine .inr ⟨k + 1,Nat.le_refl _,rfl,q1d h.1,fun j hj => ?_⟩
   cases hw : wonA F acc j q with
   | false => rfl
   | true => have := qC (show j ≤ k by omega) hw; rw [h.2] at this; cases this
  ·rw [if_neg h]
   rcases q2C k q with h1 | ⟨j,h1,h2,h3⟩
   ·exact .inl h1
   ·exact .inr ⟨j,by omega,h2,h3⟩
def rkL (F : Nat → List (List Nat)) (acc : Nat → Bool) (n k : Nat) : List Int := (List.range n).map (rkA F acc k)
theorem q5q {k q : Nat} (hq : q < n) : (rkL F acc n k).getD q 0 = rkA F acc k q := by simp [rkL,List.getD_eq_getElem?_getD,hq]
theorem q4B {K : Nat} (hF : InA n F) (hs : ∀ q,q < n → wonA F acc (K + 1) q = wonA F acc K q) : RankA n F acc (rkL F acc n K) := by
 refine q1M hF hs (by simp [rkL]) fun q hq => ?_
 rw [q5q hq]
 rcases q2C (F := F) (acc := acc) K q with h | ⟨j,_,h2,h3⟩
 ·refine .inl ⟨h,?_⟩
  rw [q2t,h]; rfl
 ·exact .inr ⟨j,h2,h3⟩
end
def mixA {α : Type} (f g : Nat → α) (k n : Nat) : List α := (List.range n).map fun i => if i < k then f i else g i
section
variable {α : Type} {f g : Nat → α} {k n : Nat}
theorem qu : (mixA f g k n).length = n := by simp [mixA]
theorem q18 {i : Nat} (hi : i < n) : (mixA f g k n)[i]? = some (if i < k then f i else g i) := by simp [mixA,hi]
theorem q4a {i : Nat} (hi : i < n) (d : α) : (mixA f g k n).getD i d = if i < k then f i else g i := by rw [List.getD_eq_getElem?_getD,q18 hi]; rfl
theorem q1s : mixA f g 0 n = (List.range n).map g := by simp [mixA]
theorem q1K : mixA f g n n = (List.range n).map f := by
 apply List.ext_getElem (by simp [mixA])
 intro i h1 h2
 have h3 : i < n := by simpa [mixA] using h1
 simp [mixA,h3]
theorem q19 (hk : k < n) {v : α} (hv : v = f k) : (mixA f g k n).set k v = mixA f g (k + 1) n := by
 apply List.ext_getElem?
 intro i
 rw [List.getElem?_set]
 by_cases hi : i < n
 ·rw [q18 hi,q18 hi,qu]
  by_cases e : k = i
  ·subst e; rw [if_pos rfl,if_pos hk,if_pos (by omega),hv]
  ·rw [if_neg e]
   by_cases h : i < k
   ·rw [if_pos h,if_pos (by omega)]
   ·rw [if_neg h,if_neg (by omega)]
 ·have h1 : (mixA f g k n)[i]? = none := List.getElem?_eq_none (by rw [qu]; omega)
  have h2 : (mixA f g (k + 1) n)[i]? = none := List.getElem?_eq_none (by rw [qu]; omega)
  rw [h1,h2,qu]
  split
  ·omega
  ·rfl
theorem q2z (hk : k < n) (hv : g k = f k) : mixA f g k n = mixA f g (k + 1) n := by
 rw [← q19 hk rfl]
 apply List.ext_getElem?
 intro i
 rw [List.getElem?_set,qu]
 by_cases e : k = i
 ·subst e; rw [if_pos rfl,if_pos hk,q18 hk,if_neg (by omega),hv]
 ·rw [if_neg e]
end
structure SgX where
 wins : Bool
 R : List Int
 rep : List (List Nat)
 cho : List Nat
abbrev SgX.r (x : SgX) (q : Nat) : Int := x.R.getD q 0
abbrev SgX.p (x : SgX) (q : Nat) : List Nat := x.rep.getD q []
abbrev SgX.c (x : SgX) (q : Nat) : Nat := x.cho.getD q 0
def AbvS (T : Nat → Nat → Nat) (e s : Nat) (x : SgX) (q : Nat) : Prop :=
 (x.p q).length = (mvL e).length ∧ x.c q = 0 ∧ ∀ i,i < (mvL e).length → (x.p q).getD i 0 &&& s = (x.p q).getD i 0 ∧ 0 ≤ x.r (T q ((mvL e).getD i 0 ||| (x.p q).getD i 0)) ∧ x.r (T q ((mvL e).getD i 0 ||| (x.p q).getD i 0)) < x.r q
def BlwS (T : Nat → Nat → Nat) (e s : Nat) (x : SgX) (q : Nat) : Prop :=
 x.p q = [] ∧ x.c q &&& e = x.c q ∧ ∀ y ∈ mvL s,x.r (T q (x.c q ||| y)) = -1
def OneS (T : Nat → Nat → Nat) (acc : Nat → Bool) (e s : Nat) (x : SgX) (q : Nat) : Prop :=
 -1 ≤ x.r q ∧ (x.r q = 0 ↔ acc q = true) ∧ (x.r q = 0 → x.p q = [] ∧ x.c q = 0) ∧ (0 < x.r q → AbvS T e s x q) ∧ (x.r q < 0 → BlwS T e s x q)
structure KeepS (T : Nat → Nat → Nat) (acc : Nat → Bool) (n e s : Nat) (x : SgX) : Prop where
 lR : x.R.length = n
 lp : x.rep.length = n
 lc : x.cho.length = n
 win : x.wins = decide (0 ≤ x.r 0)
 one : ∀ q,q < n → OneS T acc e s x q
def rndS (e s : Nat) (x : SgX) (q m : Nat) : Option Nat :=
 if x.wins then (if m &&& e = m then some ((x.p q).getD (idxS e m) 0 ||| m) else none) else if m &&& s = m then some (x.c q ||| m) else none
where
 /-- A choice's number. -/
 idxS (e m : Nat) : Nat := ((mvL e).findIdx fun l => l == m)
def plyS (T : Nat → Nat → Nat) (acc : Nat → Bool) (e s : Nat) (x : SgX) : Nat → List Nat → Option (List Nat)
 | q,[] => some [q]
 | q,m :: ms => if acc q then some [q] else (rndS e s x q m).bind fun l => (plyS T acc e s x (T q l) ms).map fun p => q :: p
theorem q3F {e i : Nat} (hi : i < (mvL e).length) : rndS.idxS e ((mvL e).getD i 0) = i := by
 unfold rndS.idxS
 have h1 : (mvL e)[i] = (mvL e).getD i 0 := by simp [List.getD_eq_getElem?_getD,List.getElem?_eq_getElem hi]
 rw [List.findIdx_eq hi]
 refine ⟨by rw [h1]; simp,fun j hj => ?_⟩
 have h2 : (mvL e)[j] = (mvL e).getD j 0 := by simp [List.getD_eq_getElem?_getD,List.getElem?_eq_getElem (Nat.lt_trans hj hi)]
 rw [h2]
 have := q5n (m := e) hj hi
 exact beq_false_of_ne (by omega)
theorem q4W {e m : Nat} (hm : m < 256) (h : m &&& e = m) : rndS.idxS e m < (mvL e).length ∧ (mvL e).getD (rndS.idxS e m) 0 = m := by
 obtain ⟨i,hi,rfl⟩ := q3k hm h
 rw [q3F hi]
 exact ⟨hi,rfl⟩
section
variable {T : Nat → Nat → Nat} {acc : Nat → Bool} {n e s : Nat} {x : SgX}
theorem KeepS.up (h : KeepS T acc n e s x) (hw : x.wins = true) {q m : Nat} (hq : q < n) (hm : m < 256) (hr : 0 < x.r q) (hme : m &&& e = m) : ∃ l,rndS e s x q m = some l ∧ (∃ y,y &&& s = y ∧ l = y ||| m) ∧ 0 ≤ x.r (T q l) ∧ x.r (T q l) < x.r q := by
 obtain ⟨hi,hii⟩ := q4W hm hme
 obtain ⟨_,_,h3⟩ := (h.one q hq).2.2.2.1 hr
 obtain ⟨h4,h5,h6⟩ := h3 _ hi
 rw [hii,Nat.or_comm] at h5 h6
 exact ⟨_,by rw [rndS,if_pos hw,if_pos hme],⟨_,h4,rfl⟩,h5,h6⟩
theorem KeepS.down (h : KeepS T acc n e s x) (hw : x.wins = false) {q m : Nat} (hq : q < n) (hm : m < 256) (hr : x.r q < 0) (hms : m &&& s = m) : ∃ l,rndS e s x q m = some l ∧ (∃ y,y &&& e = y ∧ l = y ||| m) ∧ x.r (T q l) = -1 := by
 obtain ⟨_,h2,h3⟩ := (h.one q hq).2.2.2.2 hr
 refine ⟨x.c q ||| m,?_,⟨_,h2,rfl⟩,h3 m (qm.2 ⟨hm,hms⟩)⟩
 rw [rndS,hw,if_neg (by decide),if_pos hms]
def InT (T : Nat → Nat → Nat) (n e s : Nat) : Prop := ∀ q,q < n → ∀ a b,a &&& e = a → b &&& s = b → T q (a ||| b) < n ∧ T q (b ||| a) < n
theorem KeepS.play_up (h : KeepS T acc n e s x) (hT : InT T n e s) (hw : x.wins = true) : ∀ (ms : List Nat) (q : Nat),q < n → 0 ≤ x.r q → (∀ m ∈ ms,m < 256 ∧ m &&& e = m) →
  ∃ p,plyS T acc e s x q ms = some (q :: p) ∧ p.length ≤ ms.length ∧ (∀ t ∈ p,t < n) ∧ (q :: p).Pairwise (fun a b => x.r b < x.r a) ∧ ((ms.length : Int) < x.r q ∨ acc ((q :: p).getLast (by simp)) = true) ∧ 0 ≤ x.r ((q :: p).getLast (by simp))
 | [],q,hq,hr,_ => ⟨[],rfl,Nat.le_refl _,fun t ht => (by cases ht),by simp,by
   by_cases h0 : x.r q = 0
   ·exact .inr ((h.one q hq).2.1.1 h0)
   ·left; show (0 : Int) < _; omega,hr⟩
 | m :: ms,q,hq,hr,hms => by
  by_cases h0 : x.r q = 0
  ·have ha := (h.one q hq).2.1.1 h0
   exact ⟨[],by rw [plyS,if_pos ha],Nat.zero_le _,fun t ht => (by cases ht),by simp,.inr ha,hr⟩
  ·have ha : ¬ acc q = true := fun ha => h0 ((h.one q hq).2.1.2 ha)
   obtain ⟨hm,hme⟩ := hms m List.mem_cons_self
   obtain ⟨l,h1,⟨y,hy,rfl⟩,h3,h4⟩ := h.up hw hq hm (by omega) hme
   have hq2 : T q (y ||| m) < n := (hT q hq m y hme hy).2
   obtain ⟨p,k1,k2,k3,k4,k5,k6⟩ := h.play_up hT hw ms (T q (y ||| m)) hq2 h3 fun u hu => hms u (List.mem_cons_of_mem _ hu)
   refine ⟨T q (y ||| m) :: p,by rw [plyS,if_neg ha,h1,Option.bind_some,k1]; rfl,by simp; omega,fun t ht => ?_,?_,?_,?_⟩
   ·rcases List.mem_cons.1 ht with rfl | ht
    ·exact hq2
    ·exact k3 t ht
   ·refine List.pairwise_cons.2 ⟨fun t ht => ?_,k4⟩
    rcases List.mem_cons.1 ht with rfl | ht
    ·exact h4
    ·exact Int.lt_trans ((List.pairwise_cons.1 k4).1 t ht) h4
   ·rcases k5 with k5 | k5
    ·left; simp only [List.length_cons]; omega
    ·right; rw [List.getLast_cons (by simp)]; exact k5
   ·rw [List.getLast_cons (by simp)]; exact k6
theorem KeepS.play_down (h : KeepS T acc n e s x) (hT : InT T n e s) (hw : x.wins = false) : ∀ (ms : List Nat) (q : Nat),q < n → x.r q < 0 → (∀ m ∈ ms,m < 256 ∧ m &&& s = m) →
  ∃ p,plyS T acc e s x q ms = some (q :: p) ∧ p.length = ms.length ∧ ∀ t ∈ q :: p,t < n ∧ acc t = false ∧ x.r t = -1
 | [],q,hq,hr,_ => by
  have h1 := (h.one q hq).1
  refine ⟨[],rfl,rfl,fun t ht => ?_⟩
  simp at ht; subst ht
  refine ⟨hq,?_,by omega⟩
  cases ha : acc t with
  | false => rfl
  | true => have := (h.one t hq).2.1.2 ha; omega
 | m :: ms,q,hq,hr,hms => by
  have h1 := (h.one q hq).1
  have ha : ¬ acc q = true := fun ha => by have := (h.one q hq).2.1.2 ha; omega
  obtain ⟨hm,hme⟩ := hms m List.mem_cons_self
  obtain ⟨l,k1,⟨y,hy,rfl⟩,k3⟩ := h.down hw hq hm hr hme
  have hq2 : T q (y ||| m) < n := (hT q hq y m hy hme).1
  obtain ⟨p,j1,j2,j3⟩ := h.play_down hT hw ms (T q (y ||| m)) hq2 (by omega) fun u hu => hms u (List.mem_cons_of_mem _ hu)
  refine ⟨T q (y ||| m) :: p,by rw [plyS,if_neg ha,k1,Option.bind_some,j1]; rfl,by simp [j2],fun t ht => ?_⟩
  rcases List.mem_cons.1 ht with rfl | ht
  ·exact ⟨hq,by simpa using ha,by omega⟩
  ·exact j3 t ht
end
def fTS (T : Nat → Nat → Nat) (e s q : Nat) : List (List Nat) := (mvL e).map fun a => (mvL s).map fun b => T q (a ||| b)
def FstS (r : Nat → Int) (row : Nat → Nat) (m k : Nat) : Prop := k < m ∧ 0 ≤ r (row k) ∧ ∀ j,j < m → 0 ≤ r (row j) → r (row k) ≤ r (row j) ∧ (j < k → r (row k) < r (row j))
theorem FstS.uni {r : Nat → Int} {row : Nat → Nat} {m k j : Nat} (h : FstS r row m k) (h' : FstS r row m j) : k = j := by
 obtain ⟨h1,h2,h3⟩ := h
 obtain ⟨k1,k2,k3⟩ := h'
 rcases Nat.lt_trichotomy k j with e | e | e
 ·have a := (k3 k h1 h2).2 e
  have b := (h3 j k1 k2).1
  omega
 ·exact e
 ·have a := (h3 j k1 k2).2 e
  have b := (k3 k h1 h2).1
  omega
structure OfS (T : Nat → Nat → Nat) (acc : Nat → Bool) (n e s : Nat) (x : SgX) : Prop where
 rank : RankA n (fTS T e s) acc x.R
 win : x.wins = decide (0 ≤ x.r 0)
 lp : x.rep.length = n
 lc : x.cho.length = n
 up : ∀ q,q < n → 0 < x.r q → (x.p q).length = (mvL e).length ∧ ∀ i,i < (mvL e).length → ∃ k,FstS x.r (fun j => T q ((mvL e).getD i 0 ||| (mvL s).getD j 0)) (mvL s).length k ∧ (x.p q).getD i 0 = (mvL s).getD k 0
 nup : ∀ q,q < n → ¬ 0 < x.r q → x.p q = []
 down : ∀ q,q < n → x.r q < 0 → ∃ i,i < (mvL e).length ∧ x.c q = (mvL e).getD i 0 ∧ (∀ y ∈ mvL s,x.r (T q ((mvL e).getD i 0 ||| y)) < 0) ∧ ∀ j,j < i → ¬ ∀ y ∈ mvL s,x.r (T q ((mvL e).getD j 0 ||| y)) < 0
 ndown : ∀ q,q < n → ¬ x.r q < 0 → x.c q = 0
section
variable {T : Nat → Nat → Nat} {acc : Nat → Bool} {n e s : Nat} {x y : SgX}
theorem qe (m : Nat) {l : List Nat} {j : Nat} (h : j < l.length) : l.getD j m = l[j] := by simp [List.getD_eq_getElem?_getD,List.getElem?_eq_getElem h]
theorem OfS.uni (h : OfS T acc n e s x) (h' : OfS T acc n e s y) : x = y := by
 have hR := h.rank.uni h'.rank
 obtain ⟨w1,R1,p1,c1⟩ := x
 obtain ⟨w2,R2,p2,c2⟩ := y
 dsimp only at hR
 subst hR
 have hw : w1 = w2 := h.win.trans h'.win.symm
 subst hw
 have hp : p1 = p2 := by
  refine List.ext_getElem (h.lp.trans h'.lp.symm) fun q h1 h2 => ?_
  have hq : q < n := by have := h.lp; dsimp only at this; omega
  have e1 : p1[q] = p1.getD q [] := by simp [List.getD_eq_getElem?_getD,List.getElem?_eq_getElem h1]
  have e2 : p2[q] = p2.getD q [] := by simp [List.getD_eq_getElem?_getD,List.getElem?_eq_getElem h2]
  rw [e1,e2]
  by_cases h0 : 0 < R1.getD q 0
  ·obtain ⟨k1,k2⟩ := h.up q hq h0
   obtain ⟨j1,j2⟩ := h'.up q hq h0
   refine List.ext_getElem (k1.trans j1.symm) fun i i1 i2 => ?_
   have hi : i < (mvL e).length := by rw [← k1]; exact i1
   obtain ⟨a,a1,a2⟩ := k2 i hi
   obtain ⟨b,b1,b2⟩ := j2 i hi
   have := a1.uni b1
   subst this
   have a3 : (p1.getD q []).getD i 0 = (p1.getD q [])[i] := qe 0 i1
   have b3 : (p2.getD q []).getD i 0 = (p2.getD q [])[i] := qe 0 i2
   rw [← a3,← b3]
   exact a2.trans b2.symm
  ·exact (h.nup q hq h0).trans (h'.nup q hq h0).symm
 have hc : c1 = c2 := by
  refine List.ext_getElem (h.lc.trans h'.lc.symm) fun q h1 h2 => ?_
  have hq : q < n := by have := h.lc; dsimp only at this; omega
  have e1 : c1.getD q 0 = c1[q] := qe 0 h1
  have e2 : c2.getD q 0 = c2[q] := qe 0 h2
  rw [← e1,← e2]
  by_cases h0 : R1.getD q 0 < 0
  ·obtain ⟨i,i1,i2,i3,i4⟩ := h.down q hq h0
   obtain ⟨j,j1,j2,j3,j4⟩ := h'.down q hq h0
   have : i = j := by
    rcases Nat.lt_trichotomy i j with g | g | g
    ·exact absurd i3 (j4 i g)
    ·exact g
    ·exact absurd j3 (i4 j g)
   subst this
   exact i2.trans j2.symm
  ·exact (h.ndown q hq h0).trans (h'.ndown q hq h0).symm
 subst hp hc
 rfl
theorem q3h (hT : InT T n e s) : InA n (fTS T e s) := fun q hq row hr t ht => by
 obtain ⟨a,ha,rfl⟩ := List.mem_map.1 hr
 obtain ⟨b,hb,rfl⟩ := List.mem_map.1 ht
 exact (hT q hq a b (qm.1 ha).2 (qm.1 hb).2).1
theorem q44 {q : Nat} : fTS T e s q ≠ [] := fun h => by
 have h1 : (fTS T e s q).length = 0 := by rw [h]; rfl
 rw [fTS,List.length_map] at h1
 have := qF e
 omega
theorem OfS.keeps (h : OfS T acc n e s x) (hT : InT T n e s) : KeepS T acc n e s x := by
 have hF := q3h hT
 have hbd : ∀ q,q < n → -1 ≤ x.r q ∧ x.r q < (n : Int) ∧ (x.r q = 0 ↔ acc q = true) := fun q hq => h.rank.bd hF (fun _ _ => q44) hq
 refine ⟨h.rank.len,h.lp,h.lc,h.win,fun q hq => ⟨(hbd q hq).1,(hbd q hq).2.2,fun (h0 : x.r q = 0) => ⟨h.nup q hq (fun h1 => ?_),h.ndown q hq (fun h1 => ?_)⟩,fun (h0 : 0 < x.r q) => ?_,fun (h0 : x.r q < 0) => ?_⟩⟩
 ·rw [h0] at h1; exact absurd h1 (by decide)
 ·rw [h0] at h1; exact absurd h1 (by decide)
 ·obtain ⟨h1,h2⟩ := h.up q hq h0
  refine ⟨h1,h.ndown q hq (fun h3 => Int.lt_asymm h0 h3),fun i hi => ?_⟩
  obtain ⟨k,⟨k1,k2,k3⟩,k4⟩ := h2 i hi
  rw [k4]
  refine ⟨(qi k1).2,k2,?_⟩
  obtain ⟨m,m1,m2⟩ := h.rank.of hq (Int.le_of_lt h0)
  have m1' : x.r q = (m : Int) := m1
  obtain ⟨j,rfl⟩ : ∃ j,m = j + 1 := ⟨m - 1,by rw [m1'] at h0; omega⟩
  obtain ⟨t,t1,l,l1,l2⟩ := q21 m2 _ (List.mem_map.2 ⟨(mvL e).getD i 0,by rw [qe 0 hi]; exact List.getElem_mem _,rfl⟩)
  obtain ⟨b,b1,rfl⟩ := List.mem_map.1 t1
  obtain ⟨d,d1,d2⟩ := List.getElem_of_mem b1
  have hin := (hT q hq ((mvL e).getD i 0) b (qi hi).2 (qm.1 b1).2).1
  have h5 := h.rank.just hin l2
  have h7 : x.r (T q ((mvL e).getD i 0 ||| (mvL s).getD d 0)) = (l : Int) := by rw [qe 0 d1,d2]; exact h5
  have h6 := (k3 d d1 (by show (0 : Int) ≤ x.r (T q ((mvL e).getD i 0 ||| (mvL s).getD d 0)); rw [h7]; omega)).1
  dsimp only at h6
  rw [h7] at h6
  rw [m1']
  exact Int.lt_of_le_of_lt h6 (by omega)
 ·obtain ⟨i,i1,i2,i3,_⟩ := h.down q hq h0
  refine ⟨h.nup q hq (fun h3 => Int.lt_asymm h0 h3),by rw [i2]; exact (qi i1).2,fun b hb => ?_⟩
  rw [i2]
  have h1 := i3 b hb
  have h2 := (hbd _ (hT q hq ((mvL e).getD i 0) b (qi i1).2 (qm.1 hb).2).1).1
  exact Int.le_antisymm (Int.le_of_lt_add_one h1) h2
theorem KeepS.won (h : KeepS T acc n e s x) (hT : InT T n e s) (hs : s < 256) : ∀ (m q : Nat),q < n → x.r q = (m : Int) → ∃ k,wonA (fTS T e s) acc k q = true := by
 intro m
 induction m using Nat.strongRecOn with
 | ind m ih =>
  intro q hq hr
  by_cases h0 : m = 0
  ·subst h0
   exact ⟨0,(h.one q hq).2.1.1 hr⟩
  ·obtain ⟨_,_,h3⟩ := (h.one q hq).2.2.2.1 (by rw [hr]; omega)
   refine Classical.byContradiction fun hno => ?_
   obtain ⟨row,hrow,hall⟩ := q2A (F := fTS T e s) (acc := acc) (q := q) fun k => by
    cases hk : wonA (fTS T e s) acc k q with
    | false => rfl
    | true => exact absurd ⟨k,hk⟩ hno
   obtain ⟨a,ha,rfl⟩ := List.mem_map.1 hrow
   obtain ⟨i,hi,rfl⟩ := List.getElem_of_mem ha
   have hai : (mvL e).getD i 0 = (mvL e)[i] := qe 0 hi
   obtain ⟨k1,k2,k3⟩ := h3 i hi
   rw [hai] at k2 k3
   have hin := (hT q hq (mvL e)[i] ((x.p q).getD i 0) (by rw [← hai]; exact (qi hi).2) k1).1
   obtain ⟨l,hl⟩ := Int.eq_ofNat_of_zero_le k2
   rw [hl,hr] at k3
   obtain ⟨k,hk⟩ := ih l (Int.ofNat_lt.1 k3) _ hin hl
   have hb : (x.p q).getD i 0 < 256 := Nat.lt_of_le_of_lt (by have := Nat.and_le_right (n := (x.p q).getD i 0) (m := s); rw [k1] at this; exact this) hs
   have := hall _ (List.mem_map.2 ⟨(x.p q).getD i 0,qm.2 ⟨hb,k1⟩,rfl⟩) k
   rw [hk] at this
   cases this
theorem KeepS.lost (h : KeepS T acc n e s x) (hT : InT T n e s) (he : e < 256) : ∀ (k q : Nat),q < n → x.r q < 0 → wonA (fTS T e s) acc k q = false := by
 intro k
 induction k with
 | zero =>
  intro q hq hr
  cases hw : wonA (fTS T e s) acc 0 q with
  | false => rfl
  | true => rw [(h.one q hq).2.1.2 hw] at hr; exact absurd hr (by decide)
 | succ k ih =>
  intro q hq hr
  cases hw : wonA (fTS T e s) acc (k + 1) q with
  | false => rfl
  | true =>
   obtain ⟨_,h2,h3⟩ := (h.one q hq).2.2.2.2 hr
   have hb : x.c q < 256 := Nat.lt_of_le_of_lt (by have := Nat.and_le_right (n := x.c q) (m := e); rw [h2] at this; exact this) he
   obtain ⟨t,ht,hW⟩ := qo.1 (q1w hw (ih q hq hr)) _ (List.mem_map.2 ⟨x.c q,qm.2 ⟨hb,h2⟩,rfl⟩)
   obtain ⟨b,hb2,rfl⟩ := List.mem_map.1 ht
   have := ih _ (hT q hq (x.c q) b h2 (qm.1 hb2).2).1 (by rw [h3 b hb2]; decide)
   rw [hW] at this
   cases this
theorem KeepS.iff (h : KeepS T acc n e s x) (hT : InT T n e s) (he : e < 256) (hs : s < 256) {q : Nat} (hq : q < n) : 0 ≤ x.r q ↔ ∃ k,wonA (fTS T e s) acc k q = true := by
 refine ⟨fun h0 => ?_,fun ⟨k,hk⟩ => Int.not_lt.1 fun h0 => ?_⟩
 ·obtain ⟨m,hm⟩ := Int.eq_ofNat_of_zero_le h0
  exact h.won hT hs m q hq hm
 ·rw [h.lost hT he k q hq h0] at hk; cases hk
theorem KeepS.same (h : KeepS T acc n e s x) (h' : KeepS T acc n e s y) (hT : InT T n e s) (he : e < 256) (hs : s < 256) (hn : 0 < n) : x.wins = y.wins := by
 rw [h.win,h'.win]
 have : (0 ≤ x.r 0) ↔ (0 ≤ y.r 0) := (h.iff hT he hs hn).trans (h'.iff hT he hs hn).symm
 exact decide_eq_decide.2 this
end
def wonK (F : Nat → List (List Nat)) (acc : Nat → Bool) : Nat → Nat → Bool
 | 0,_ => false
 | k + 1,q => wonA F acc k q
def nowK (F : Nat → List (List Nat)) (acc : Nat → Bool) : Nat → Nat → Bool
 | 0,q => acc q
 | k + 1,q => befA F (wonA F acc k) q
def rnkK (F : Nat → List (List Nat)) (acc : Nat → Bool) : Nat → Nat → Int
 | 0,_ => -1
 | k + 1,q => rkA F acc k q
def GrwK (n : Nat) (F : Nat → List (List Nat)) (acc : Nat → Bool) (k : Nat) (gr : Bool) : Prop :=
 (gr = true ∧ (k = 0 ∨ ∃ q,q < n ∧ JustA F acc (k - 1) q)) ∨ (gr = false ∧ 0 < k ∧ ∀ q,q < n → wonA F acc (k - 1) q = wonK F acc (k - 1) q)
section
variable {F : Nat → List (List Nat)} {acc : Nat → Bool} {n k : Nat}
theorem qX (q : Nat) : wonA F acc k q = (wonK F acc k q || nowK F acc k q) := by
 cases k with
 | zero => simp [wonA,wonK,nowK]
 | succ k => rfl
theorem q2D (q : Nat) : rkA F acc k q = if (nowK F acc k q && !wonK F acc k q) = true then (k : Int) else rnkK F acc k q := by
 cases k with
 | zero => simp [rkA,wonK,nowK,rnkK]
 | succ k => rfl
theorem q4M {q : Nat} (h : wonK F acc k q = false) : ∀ j,j < k → wonA F acc j q = false := fun j hj => by
 cases k with
 | zero => exact absurd hj (Nat.not_lt_zero _)
 | succ k =>
  cases hw : wonA F acc j q with
  | false => rfl
  | true =>
   have h2 : wonA F acc k q = false := h
   rw [qC (show j ≤ k by omega) hw] at h2
   cases h2
theorem GrwK.step {gr : Bool} (h : gr = true ↔ ∃ q,q < n ∧ nowK F acc k q = true ∧ wonK F acc k q = false) : GrwK n F acc (k + 1) gr := by
 cases gr with
 | true =>
  obtain ⟨q,hq,h1,h2⟩ := h.1 rfl
  exact .inl ⟨rfl,.inr ⟨q,hq,by show wonA F acc k q = true; rw [qX,h1]; simp,q4M h2⟩⟩
 | false =>
  refine .inr ⟨rfl,Nat.succ_pos _,fun q hq => ?_⟩
  show wonA F acc k q = wonK F acc k q
  rw [qX]
  cases h1 : wonK F acc k q with
  | true => rfl
  | false =>
   cases h2 : nowK F acc k q with
   | false => rfl
   | true => exact absurd (h.2 ⟨q,hq,h2,h1⟩) (by simp)
theorem GrwK.lt (h : GrwK n F acc k true) (hF : InA n F) (hne : ∀ q,q < n → F q ≠ []) : k ≤ n := by
 rcases h with ⟨_,rfl | ⟨q,hq,hJ⟩⟩ | ⟨h,_⟩
 ·exact Nat.zero_le _
 ·have := q3H hF hne hq hJ
  omega
 ·cases h
theorem GrwK.fin (h : GrwK n F acc k false) (hF : InA n F) (hne : ∀ q,q < n → F q ≠ []) : RankA n F acc ((List.range n).map (rnkK F acc k)) := by
 rcases h with ⟨h,_⟩ | ⟨_,h0,h⟩
 ·cases h
 obtain ⟨K,rfl⟩ : ∃ K,k = K + 1 := ⟨k - 1,by omega⟩
 rw [Nat.add_sub_cancel] at h
 refine q4B (K := K) hF fun q hq => ?_
 cases K with
 | zero =>
  show (wonA F acc 0 q || befA F (wonA F acc 0) q) = wonA F acc 0 q
  cases hb : befA F (wonA F acc 0) q with
  | false => simp
  | true =>
   obtain ⟨row,hr⟩ := List.exists_mem_of_ne_nil _ (hne q hq)
   obtain ⟨t,ht,hW⟩ := qo.1 hb row hr
   have h1 : wonA F acc 0 t = false := h t (hF q hq row hr t ht)
   rw [hW] at h1
   cases h1
 | succ K =>
  have h1 : ∀ q,q < n → wonA F acc (K + 1) q = wonA F acc K q := fun q hq => h q hq
  have h2 := q3o hF h1 2 q hq
  rw [h q hq]
  exact h2
end
structure PlyA (acc : Nat → Bool) (n : Nat) (x : SgX) (m : Nat) (l : List Nat) : Prop where
 pos : 0 < l.length
 le : l.length ≤ m + 1
 zero : l.getD 0 0 = 0
 lt : ∀ i,i < l.length → l.getD i 0 < n
 lose : x.wins = false → l.length = m + 1 ∧ ∀ i,i < l.length → acc (l.getD i 0) = false ∧ x.r (l.getD i 0) = -1
 falls : x.wins = true → ∀ i,i + 1 < l.length → x.r (l.getD (i + 1) 0) < x.r (l.getD i 0)
 ends : x.wins = true → (m : Int) < x.r 0 ∨ acc (l.getD (l.length - 1) 0) = true
section
variable {T : Nat → Nat → Nat} {acc : Nat → Bool} {n e s : Nat} {x : SgX}
theorem q45 (q : Nat) (p : List Nat) : (q :: p).getLast (by simp) = (q :: p).getD ((q :: p).length - 1) 0 := by
 rw [List.getLast_eq_getElem]
 exact (qe 0 _).symm
theorem KeepS.ply (h : KeepS T acc n e s x) (hT : InT T n e s) (hn : 0 < n) (ms : List Nat) (hms : ∀ m ∈ ms,m < 256 ∧ m &&& (if x.wins then e else s) = m) : ∃ l,plyS T acc e s x 0 ms = some l ∧ PlyA acc n x ms.length l := by
 have hw := h.win
 cases hx : x.wins with
 | true =>
  rw [hx] at hw
  have h0 : 0 ≤ x.r 0 := of_decide_eq_true hw.symm
  rw [hx] at hms
  obtain ⟨p,h1,h2,h3,h4,h5,h6⟩ := h.play_up hT hx ms 0 hn h0 hms
  refine ⟨0 :: p,h1,by simp,by simp; omega,rfl,fun i hi => ?_,fun hc => (by rw [hx] at hc; cases hc),fun _ i hi => ?_,fun _ => ?_⟩
  ·rw [qe 0 hi]
   rcases List.mem_cons.1 (List.getElem_mem hi) with e | e
   ·rw [e]; exact hn
   ·exact h3 _ e
  ·rw [qe 0 hi,qe 0 (Nat.lt_of_succ_lt hi)]
   exact List.pairwise_iff_getElem.1 h4 i (i + 1) _ hi (Nat.lt_succ_self i)
  ·rw [← q45]; exact h5
 | false =>
  rw [hx] at hw
  have h0 : ¬ 0 ≤ x.r 0 := of_decide_eq_false hw.symm
  rw [hx] at hms
  obtain ⟨p,h1,h2,h3⟩ := h.play_down hT hx ms 0 hn (Int.not_le.1 h0) hms
  have hm : ∀ i,i < (0 :: p).length → (0 :: p).getD i 0 ∈ 0 :: p := fun i hi => by rw [qe 0 hi]; exact List.getElem_mem hi
  refine ⟨0 :: p,h1,by simp,by simp; omega,rfl,fun i hi => (h3 _ (hm i hi)).1,fun _ => ⟨by simp; omega,fun i hi => (h3 _ (hm i hi)).2⟩,fun hc => (by rw [hx] at hc; cases hc),fun hc => (by rw [hx] at hc; cases hc)⟩
end
structure PyP where
 T : Nat → Nat → Nat
 acc : Nat → Bool
 n : Nat
 e : Nat
 s : Nat
 x : SgX
def PyP.mov (A : PyP) : Nat := if A.x.wins then A.e else A.s
structure PyP.Ok (A : PyP) : Prop where
 hT : InT A.T A.n A.e A.s
 hn : 0 < A.n
 he : A.e < 256
 hs : A.s < 256
 hd : A.e &&& A.s = 0
 keep : KeepS A.T A.acc A.n A.e A.s A.x
theorem PyP.Ok.round {A : PyP} (h : A.Ok) {q m l : Nat} (hq : q < A.n) (hm : m < 256) (hr : A.x.wins = true → 0 ≤ A.x.r q) (hr' : A.x.wins = false → A.x.r q = -1) (ha : A.acc q = false) (hl : rndS A.e A.s A.x q m = some l) :
  m &&& A.mov = m ∧ l &&& A.mov = m ∧ A.T q l < A.n ∧ (A.x.wins = true → 0 ≤ A.x.r (A.T q l) ∧ A.x.r (A.T q l) < A.x.r q) ∧ (A.x.wins = false → A.x.r (A.T q l) = -1) ∧ l < 256 := by
 have hand : ∀ {a b y : Nat},a &&& b = 0 → y &&& b = y → ∀ {z},z &&& a = z → (y ||| z) &&& a = z := fun {a b y} hab hy {z} hz => by
  rw [Nat.and_or_distrib_right,hz]
  have : y &&& a = 0 := by rw [← hy,Nat.and_assoc,Nat.and_comm b a,hab,Nat.and_zero]
  rw [this,Nat.zero_or]
 have hlt : ∀ {y m : Nat},y < 256 → m < 256 → y ||| m < 256 := fun h1 h2 => Nat.or_lt_two_pow (n := 8) h1 h2
 cases hw : A.x.wins with
 | true =>
  have h0 : 0 < A.x.r q := by
   have h1 := hr hw
   have h2 : ¬ A.x.r q = 0 := fun h3 => by have := (h.keep.one q hq).2.1.1 h3; rw [ha] at this; cases this
   omega
  by_cases hme : m &&& A.e = m
  ·obtain ⟨l',k1,⟨y,hy,rfl⟩,k3,k4⟩ := h.keep.up hw hq hm h0 hme
   rw [hl] at k1
   obtain rfl := Option.some.inj k1
   refine ⟨by rw [PyP.mov,hw]; exact hme,by rw [PyP.mov,hw]; exact hand h.hd hy hme,(h.hT q hq m y hme hy).2,fun _ => ⟨k3,k4⟩,(fun h => by cases h),hlt ?_ hm⟩
   rw [← hy]; exact Nat.lt_of_le_of_lt Nat.and_le_right h.hs
  ·rw [rndS,if_pos hw,if_neg hme] at hl; cases hl
 | false =>
  have h0 := hr' hw
  by_cases hms : m &&& A.s = m
  ·obtain ⟨l',k1,⟨y,hy,rfl⟩,k3⟩ := h.keep.down hw hq hm (by omega) hms
   rw [hl] at k1
   obtain rfl := Option.some.inj k1
   refine ⟨by rw [PyP.mov,hw]; exact hms,by rw [PyP.mov,hw]; exact hand ((Nat.and_comm _ _).trans h.hd) hy hms,(h.hT q hq y m hy hms).1,(fun h => by cases h),fun _ => k3,hlt ?_ hm⟩
   rw [← hy]; exact Nat.lt_of_le_of_lt Nat.and_le_right h.he
  ·rw [rndS,hw,if_neg (by decide),if_neg hms] at hl; cases hl
end Go.Proofs.Ythhbhadcjofelaa
