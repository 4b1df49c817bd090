/- Texts of the proof, put together: what it uses. -/
import Derived.WalkKit
import Derived.WalkSpells
import Derived.Maps.OwnSet
import Derived.Test.YtbgogbafkoekjaaProg
import Derived.WalkLawsBesides
import Derived.BigQuiet
import Derived.Deep.QuietTactic
set_option maxRecDepth 100000
set_option maxHeartbeats 16000000
namespace Go.Proofs.Ytbgogbafkoekjaa
open Go.RowKit Go.Maps
theorem qX {B g : Nat} {a w : World} (h : Below B a w) (hg : B ≤ g) (cs : Array Value) : Below B a (w.setRow g cs) :=
 h.trans ⟨rfl,rfl,rfl,by simp,fun k hk => setRow_other _ _ _ _ (by omega)⟩
end Go.Proofs.Ytbgogbafkoekjaa
namespace Go.Proofs.Ytbgogbafkoekjaa
abbrev Gd := Int × Int × Int
def goG (N : List Gd) (x : Nat) : Nat → Int → Option Int
 | 0,r => if r < 0 then some (-1 - r) else none
 | k + 1,r => if r < 0 then some (-1 - r) else
  match N[r.toNat]? with
  | none => none
  | some (P,lo,hi) => if 0 ≤ P ∧ P ≤ 7 then goG N x k (if x.testBit P.toNat then hi else lo) else none
theorem q2A {N : List Gd} {x : Nat} {r : Int} (h : r < 0) : ∀ k,goG N x k r = some (-1 - r)
 | 0 => by simp [goG,h]
 | k + 1 => by simp [goG,h]
theorem q2c {N : List Gd} {x k i : Nat} {P lo hi : Int} (h : N[i]? = some (P,lo,hi)) (h0 : 0 ≤ P) (h7 : P ≤ 7) : goG N x (k + 1) (i : Int) = goG N x k (if x.testBit P.toNat then hi else lo) := by
 have hi : ¬ (i : Int) < 0 := by omega
 simp [goG,hi,h,h0,h7]
def FitG (m : Nat) (N : List Gd) (a : Nat) (p : Int) (r : Int) : Prop :=
 (r < 0 ∧ -(m : Int) ≤ r) ∨ ∃ i,r = ((i : Nat) : Int) ∧ i < a ∧ ∃ nd,N[i]? = some nd ∧ p < nd.1
theorem q3M {N N' : List Gd} (h : N <+: N') {nd : Gd} (hm : nd ∈ N) : N'.idxOf nd = N.idxOf nd := by
 obtain ⟨t,rfl⟩ := h
 simp [List.idxOf_append,hm]
theorem q3L {N : List Gd} {nd : Gd} (h : nd ∉ N) : (N ++ [nd]).idxOf nd = N.length := by
 simp [List.idxOf_append,h]
structure MayG (props : Int) (ns : Nat) (N : List Gd) (gs : List Int) : Prop where
 p0 : 0 ≤ props
 p8 : props ≤ 8
 s1 : 1 ≤ ns
 s2 : ns ≤ 256
 len : gs.length = ns
 few : N.length ≤ 4096
 node : ∀ (i : Nat) (P lo hi : Int),N[i]? = some (P,lo,hi) → 0 ≤ P ∧ P < props ∧ lo ≠ hi ∧ FitG ns N i P lo ∧ FitG ns N i P hi
 once : N.Nodup
 gd : ∀ g ∈ gs,FitG ns N N.length (-1) g
def trP (R : List (List Nat)) (s l : Nat) : Nat := (R.getD s []).getD l 0
structure RowsP (n K : Nat) (R : List (List Nat)) : Prop where
 len : R.length = n
 row : ∀ s,s < n → (R.getD s []).length = K
 lt : ∀ s l,s < n → l < K → trP R s l < n
theorem q2d {m : Nat} {props : Int} {N : List Gd} (hp : props ≤ 8) (hN : ∀ (i : Nat) (P lo hi : Int),N[i]? = some (P,lo,hi) → 0 ≤ P ∧ P < props ∧ lo ≠ hi ∧ FitG m N i P lo ∧ FitG m N i P hi) (x : Nat) :
  ∀ (k a : Nat) (p r : Int),FitG m N a p r → 7 - p ≤ k → ∃ v : Nat,v < m ∧ goG N x k r = some (v : Int)
 | k,a,p,r,.inl ⟨h1,h2⟩,_ => ⟨(-1 - r).toNat,by omega,by rw [q2A h1]; congr 1; omega⟩
 | 0,a,p,r,.inr ⟨i,e,hi,nd,hn,hq⟩,hk => by
  obtain ⟨P,lo,hi'⟩ := nd
  have := hN i P lo hi' hn
  dsimp only at hq
  omega
 | k + 1,a,p,r,.inr ⟨i,e,hi,nd,hn,hq⟩,hk => by
  obtain ⟨P,lo,hi'⟩ := nd
  obtain ⟨h0,h1,_,h3,h4⟩ := hN i P lo hi' hn
  dsimp only at hq
  subst e
  rw [q2c hn h0 (by omega)]
  split
  ·exact q2d hp hN x k i P hi' h4 (by omega)
  ·exact q2d hp hN x k i P lo h3 (by omega)
def rowG (N : List Gd) (K : Nat) (r : Int) : List Nat := (List.range K).map fun x => ((goG N x 8 r).getD 0).toNat
def rowsG (N : List Gd) (gs : List Int) (K : Nat) : List (List Nat) := gs.map (rowG N K)
theorem q1d {N : List Gd} {gs : List Int} {K s : Nat} (h : s < gs.length) : (rowsG N gs K).getD s [] = rowG N K (gs.getD s 0) := by
 simp [rowsG,List.getD_eq_getElem?_getD,List.getElem?_eq_getElem h]
theorem q2H {N : List Gd} {K x : Nat} {r : Int} (h : x < K) : (rowG N K r).getD x 0 = ((goG N x 8 r).getD 0).toNat := by
 simp [rowG,List.getD_eq_getElem?_getD,h]
theorem q3y (N : List Gd) (K : Nat) (r : Int) : (rowG N K r).length = K := by simp [rowG]
theorem MayG.go {p : Int} {ns : Nat} {N : List Gd} {gs : List Int} (h : MayG p ns N gs) {s : Nat} (hs : s < ns) (x : Nat) : ∃ v : Nat,v < ns ∧ goG N x 8 (gs.getD s 0) = some (v : Int) := by
 have hl := h.len
 have hm : gs.getD s 0 ∈ gs := by
  rw [List.getD_eq_getElem?_getD,List.getElem?_eq_getElem (by omega),Option.getD_some]
  exact List.getElem_mem _
 exact q2d h.p8 h.node x 8 N.length (-1) _ (h.gd _ hm) (by omega)
theorem MayG.tr {p : Int} {ns : Nat} {N : List Gd} {gs : List Int} (h : MayG p ns N gs) {K s x : Nat} (hs : s < ns) (hx : x < K) : goG N x 8 (gs.getD s 0) = some ((trP (rowsG N gs K) s x : Nat) : Int) := by
 obtain ⟨v,hv,e⟩ := h.go hs x
 have hl := h.len
 rw [trP,q1d (by omega),q2H hx,e]
 simp
theorem MayG.rows {p : Int} {ns : Nat} {N : List Gd} {gs : List Int} (h : MayG p ns N gs) (K : Nat) : RowsP ns K (rowsG N gs K) := by
 have hl := h.len
 refine ⟨by simp [rowsG,hl],fun s hs => by rw [q1d (by omega),q3y],fun s l hs hlk => ?_⟩
 obtain ⟨v,hv,e⟩ := h.go hs l
 rw [trP,q1d (by omega),q2H hlk,e]
 simpa using hv
variable {n K : Nat} {R : List (List Nat)} {bs : List Bool}
theorem q1J {α : Type} : ∀ {l m : List α},l.Nodup → (∀ x ∈ l,x ∈ m) → l.length ≤ m.length
 | [],m,_,_ => Nat.zero_le _
 | a :: l,m,hn,hs => by
  obtain ⟨m1,m2,rfl⟩ := List.append_of_mem (hs a (by simp))
  obtain ⟨ha,hn⟩ := List.nodup_cons.1 hn
  have : l.length ≤ (m1 ++ m2).length := q1J hn fun x hx => by
   have := hs x (by simp [hx])
   simp only [List.mem_append,List.mem_cons] at this ⊢
   rcases this with h | rfl | h
   ·exact .inl h
   ·exact absurd hx ha
   ·exact .inr h
  simp only [List.length_append,List.length_cons] at this ⊢
  omega
theorem q3d {n : Nat} {l : List Nat} (h : l.Nodup) (hl : ∀ x ∈ l,x < n) : l.length ≤ n := by
 have := q1J h (m := List.range n) (fun x hx => List.mem_range.2 (hl x hx))
 simpa using this
abbrev PrP := Nat × Nat × Nat × Nat
variable {n K : Nat} {R : List (List Nat)} {bs : List Bool} {p q i k : Nat} {Q : List PrP}
theorem q3H {α : Type} {Q : List α} {j : Nat} (h : j < Q.length) (d : α) : Q.getD j d = Q[j] := by
 rw [List.getD_eq_getElem?_getD,List.getElem?_eq_getElem h]; rfl
variable {n K : Nat} {R : List (List Nat)} {bs : List Bool}
variable {c : Nat → Nat} {Q F : List Nat}
def mvL (m : Nat) : List Nat := (List.range 256).filter fun l => l &&& m == l
def cbN (m : Nat) : Nat → Nat
 | 0 => 0
 | k + 1 => cbN m k + m / 2 ^ k % 2
theorem qh {m l : Nat} : l ∈ mvL m ↔ l < 256 ∧ l &&& m = l := by simp [mvL]
theorem qy {n : Nat} {P : Nat → Bool} (h : (List.range n).all P = true) : ∀ m,m < n → P m = true := fun m hm => List.all_eq_true.1 h m (List.mem_range.2 hm)
theorem q3O (m : Nat) (hm : m < 256) : (mvL m).length = 2 ^ cbN m 8 := by
 have h : (List.range 256).all (fun m => (mvL m).length == 2 ^ cbN m 8) = true := by decide +kernel
 exact beq_iff_eq.1 (qy h m hm)
theorem qk (m : Nat) : (mvL m).length ≤ 256 := by
 unfold mvL
 exact Nat.le_trans (List.length_filter_le _ _) (by simp)
theorem qI (m : Nat) : 0 < (mvL m).length := List.length_pos_of_mem (a := 0) (qh.2 ⟨by decide,by simp⟩)
theorem q2g {m i : Nat} (h : i < (mvL m).length) : (mvL m).getD i 0 < 256 ∧ (mvL m).getD i 0 &&& m = (mvL m).getD i 0 := by
 have : (mvL m).getD i 0 = (mvL m)[i] := by simp [List.getD_eq_getElem?_getD,List.getElem?_eq_getElem h]
 rw [this]
 exact qh.1 (List.getElem_mem h)
theorem qg {m l : Nat} (h : l &&& m = l) : l ≤ m := by rw [← h]; exact Nat.and_le_right
theorem q3Y (m k : Nat) : cbN m k ≤ k := by
 induction k with
 | zero => exact Nat.le_refl _
 | succ k ih => unfold cbN; have := Nat.mod_lt (m / 2 ^ k) (show 0 < 2 by decide); omega
def SplitN (p e s : Nat) : Prop := e &&& s = 0 ∧ e ||| s = 2 ^ p - 1
def befA (F : Nat → List (List Nat)) (W : Nat → Bool) (q : Nat) : Bool := (F q).all fun row => row.any W
def wonA (F : Nat → List (List Nat)) (acc : Nat → Bool) : Nat → Nat → Bool
 | 0,q => acc q
 | k + 1,q => wonA F acc k q || befA F (wonA F acc k) q
section
variable {F : Nat → List (List Nat)} {acc : Nat → Bool}
theorem qd {W : Nat → Bool} {q : Nat} : befA F W q = true ↔ ∀ row ∈ F q,∃ t ∈ row,W t = true := by
 unfold befA
 rw [List.all_eq_true]
 exact ⟨fun h row hr => List.any_eq_true.1 (h row hr),fun h row hr => List.any_eq_true.2 (h row hr)⟩
theorem qH {W : Nat → Bool} {q : Nat} : befA F W q = false ↔ ∃ row ∈ F q,∀ t ∈ row,W t = false := by
 constructor
 ·intro h
  have h2 : ¬ ∀ row ∈ F q,∃ t ∈ row,W t = true := fun k => by rw [qd.2 k] at h; cases h
  refine Classical.byContradiction fun hn => h2 fun row hr => Classical.byContradiction fun hm => hn ⟨row,hr,fun t ht => ?_⟩
  cases hW : W t with
  | false => rfl
  | true => exact absurd ⟨t,ht,hW⟩ hm
 ·rintro ⟨row,hr,h⟩
  cases hb : befA F W q with
  | false => rfl
  | true =>
   obtain ⟨t,ht,hW⟩ := qd.1 hb row hr
   rw [h t ht] at hW; cases hW
theorem q32 {W V : Nat → Bool} {q : Nat} (h : ∀ t,W t = true → V t = true) (hb : befA F W q = true) : befA F V q = true :=
 qd.2 fun row hr => by
  obtain ⟨t,ht,hW⟩ := qd.1 hb row hr
  exact ⟨t,ht,h t hW⟩
theorem q1E {k q : Nat} (h : wonA F acc k q = true) : wonA F acc (k + 1) q = true := by
 show (wonA F acc k q || befA F (wonA F acc k) q) = true
 rw [h]; rfl
theorem qo {j k q : Nat} (hjk : j ≤ k) (h : wonA F acc j q = true) : wonA F acc k q = true := by
 induction k with
 | zero =>
  obtain rfl : j = 0 := by omega
  exact h
 | succ k ih =>
  by_cases e : j = k + 1
  ·rw [← e]; exact h
  ·exact q1E (ih (by omega))
theorem q10 {k q : Nat} (h : wonA F acc (k + 1) q = true) (h0 : wonA F acc k q = false) : befA F (wonA F acc k) q = true := by
 have : (wonA F acc k q || befA F (wonA F acc k) q) = true := h
 rw [h0] at this
 simpa using this
theorem qu {k q : Nat} (h : befA F (wonA F acc k) q = true) : wonA F acc (k + 1) q = true := by
 show (wonA F acc k q || befA F (wonA F acc k) q) = true
 rw [h]; simp
def JustA (F : Nat → List (List Nat)) (acc : Nat → Bool) (k q : Nat) : Prop := wonA F acc k q = true ∧ ∀ j,j < k → wonA F acc j q = false
theorem q2D {k q : Nat} (h : wonA F acc k q = true) : ∃ j,j ≤ k ∧ JustA F acc j q := by
 induction k with
 | zero => exact ⟨0,Nat.le_refl _,h,fun j hj => absurd hj (by omega)⟩
 | succ k ih =>
  cases h0 : wonA F acc k q with
  | true => obtain ⟨j,hj,hJ⟩ := ih h0; exact ⟨j,by omega,hJ⟩
  | false =>
   refine ⟨k + 1,Nat.le_refl _,h,fun j hj => ?_⟩
   cases hw : wonA F acc j q with
   | false => rfl
   | true => rw [qo (show j ≤ k by omega) hw] at h0; cases h0
theorem JustA.uni {j k q : Nat} (h : JustA F acc j q) (h' : JustA F acc k q) : j = k := by
 rcases Nat.lt_trichotomy j k with e | e | e
 ·have := h'.2 j e; rw [h.1] at this; cases this
 ·exact e
 ·have := h.2 k e; rw [h'.1] at this; cases this
structure RankA (n : Nat) (F : Nat → List (List Nat)) (acc : Nat → Bool) (r : List Int) : Prop where
 len : r.length = n
 at' : ∀ q,q < n → (r.getD q 0 = -1 ∧ ∀ k,wonA F acc k q = false) ∨ ∃ k : Nat,r.getD q 0 = (k : Int) ∧ JustA F acc k q
theorem RankA.uni {n : Nat} {r r' : List Int} (h : RankA n F acc r) (h' : RankA n F acc r') : r = r' := by
 refine List.ext_getElem (by rw [h.len,h'.len]) fun q h1 h2 => ?_
 have e1 : r[q] = r.getD q 0 := by simp [List.getD_eq_getElem?_getD,List.getElem?_eq_getElem h1]
 have e2 : r'[q] = r'.getD q 0 := by simp [List.getD_eq_getElem?_getD,List.getElem?_eq_getElem h2]
 have hq : q < n := by rw [← h.len]; exact h1
 rw [e1,e2]
 rcases h.at' q hq with ⟨h3,h4⟩ | ⟨k,h3,h4⟩ <;> rcases h'.at' q hq with ⟨k3,k4⟩ | ⟨j,k3,k4⟩
 ·rw [h3,k3]
 ·have := h4 j; rw [k4.1] at this; cases this
 ·have := k4 k; rw [h4.1] at this; cases this
 ·rw [h3,k3,h4.uni k4]
def InA (n : Nat) (F : Nat → List (List Nat)) : Prop := ∀ q,q < n → ∀ row ∈ F q,∀ t ∈ row,t < n
theorem q2f {k q : Nat} (hne : F q ≠ []) (h : JustA F acc (k + 1) q) : ∃ row ∈ F q,(∃ t ∈ row,JustA F acc k t) ∧ ∀ t ∈ row,∀ j,j < k → wonA F acc j t = false := by
 have hb := q10 h.1 (h.2 k (by omega))
 cases k with
 | zero =>
  obtain ⟨row,hr⟩ := List.exists_mem_of_ne_nil _ hne
  obtain ⟨t,ht,hW⟩ := qd.1 hb row hr
  exact ⟨row,hr,⟨t,ht,hW,fun j hj => absurd hj (by omega)⟩,fun t ht j hj => absurd hj (by omega)⟩
 | succ k =>
  have hn : befA F (wonA F acc k) q = false := by
   cases hx : befA F (wonA F acc k) q with
   | false => rfl
   | true => have := h.2 (k + 1) (by omega); rw [qu hx] at this; cases this
  obtain ⟨row,hr,hall⟩ := qH.1 hn
  have hlow : ∀ t ∈ row,∀ j,j < k + 1 → wonA F acc j t = false := fun t ht j hj => by
   cases hx : wonA F acc j t with
   | false => rfl
   | true => have := qo (show j ≤ k by omega) hx; rw [hall t ht] at this; cases this
  obtain ⟨t,ht,hW⟩ := qd.1 hb row hr
  exact ⟨row,hr,⟨t,ht,hW,fun j hj => hlow t ht j hj⟩,hlow⟩
theorem q2U {n k q : Nat} (hF : InA n F) (hne : ∀ q,q < n → F q ≠ []) (hq : q < n) (h : JustA F acc k q) : ∃ L : List Nat,L.length = k + 1 ∧ L.Nodup ∧ ∀ t ∈ L,t < n ∧ ∃ j,j ≤ k ∧ JustA F acc j t := by
 induction k generalizing q with
 | zero => exact ⟨[q],rfl,by simp,fun t ht => by simp at ht; subst ht; exact ⟨hq,0,Nat.le_refl _,h⟩⟩
 | succ k ih =>
  obtain ⟨row,hr,⟨t,ht,hJ⟩,_⟩ := q2f (hne q hq) h
  obtain ⟨L,h1,h2,h3⟩ := ih (hF q hq row hr t ht) hJ
  refine ⟨q :: L,by simp [h1],List.nodup_cons.2 ⟨fun hm => ?_,h2⟩,fun u hu => ?_⟩
  ·obtain ⟨_,j,hj,hj2⟩ := h3 q hm
   have := hj2.uni h
   omega
  ·rcases List.mem_cons.1 hu with rfl | hu
   ·exact ⟨hq,k + 1,Nat.le_refl _,h⟩
   ·obtain ⟨a,j,hj,hj2⟩ := h3 u hu
    exact ⟨a,j,by omega,hj2⟩
theorem q2C {n k q : Nat} (hF : InA n F) (hne : ∀ q,q < n → F q ≠ []) (hq : q < n) (h : JustA F acc k q) : k < n := by
 obtain ⟨L,h1,h2,h3⟩ := q2U hF hne hq h
 have := q3d h2 fun t ht => (h3 t ht).1
 omega
theorem q3c {q : Nat} (h : ∀ k,wonA F acc k q = false) : ∃ row ∈ F q,∀ t ∈ row,∀ k,wonA F acc k t = false := by
 refine Classical.byContradiction fun hn => ?_
 have h1 : ∀ row ∈ F q,∃ t ∈ row,∃ k,wonA F acc k t = true := fun row hr => Classical.byContradiction fun hm => hn ⟨row,hr,fun t ht k => by
  cases hx : wonA F acc k t with
  | false => rfl
  | true => exact absurd ⟨t,ht,k,hx⟩ hm⟩
 have h2 : ∀ rows : List (List Nat),(∀ row ∈ rows,row ∈ F q) → ∃ K,∀ row ∈ rows,∃ t ∈ row,wonA F acc K t = true := by
  intro rows
  induction rows with
  | nil => exact fun _ => ⟨0,fun row hr => by cases hr⟩
  | cons row rows ih =>
   intro hsub
   obtain ⟨K,hK⟩ := ih fun r hr => hsub r (List.mem_cons_of_mem _ hr)
   obtain ⟨t,ht,k,hk⟩ := h1 row (hsub row List.mem_cons_self)
   refine ⟨max K k,fun r hr => ?_⟩
   rcases List.mem_cons.1 hr with rfl | hr
   ·exact ⟨t,ht,qo (Nat.le_max_right _ _) hk⟩
   ·obtain ⟨u,hu,hW⟩ := hK r hr
    exact ⟨u,hu,qo (Nat.le_max_left _ _) hW⟩
 obtain ⟨K,hK⟩ := h2 (F q) fun _ h => h
 have := h (K + 1)
 rw [qu (qd.2 hK)] at this
 cases this
theorem q2V {k q : Nat} (h : JustA F acc (k + 1) q) : ∀ row ∈ F q,∃ t ∈ row,∃ j,j ≤ k ∧ JustA F acc j t := fun row hr => by
 have hb := q10 h.1 (h.2 k (by omega))
 obtain ⟨t,ht,hW⟩ := qd.1 hb row hr
 obtain ⟨j,hj,hJ⟩ := q2D hW
 exact ⟨t,ht,j,hj,hJ⟩
theorem q3D {F' : Nat → List (List Nat)} {n : Nat} (hF : InA n F) (h : ∀ q,q < n → ∀ row' ∈ F' q,∃ row ∈ F q,∀ t ∈ row,t ∈ row') : ∀ k q,q < n → wonA F acc k q = true → wonA F' acc k q = true := by
 intro k
 induction k with
 | zero => exact fun q _ h0 => h0
 | succ k ih =>
  intro q hq hw
  cases h0 : wonA F acc k q with
  | true => exact q1E (ih q hq h0)
  | false =>
   refine qu (qd.2 fun row' hr' => ?_)
   obtain ⟨row,hr,hsub⟩ := h q hq row' hr'
   obtain ⟨t,ht,hW⟩ := qd.1 (q10 hw h0) row hr
   exact ⟨t,hsub t ht,ih t (hF q hq row hr t ht) hW⟩
theorem q2m {n k : Nat} (hF : InA n F) (h : ∀ q,q < n → wonA F acc (k + 1) q = wonA F acc k q) : ∀ j q,q < n → wonA F acc (k + j) q = wonA F acc k q := by
 intro j
 induction j with
 | zero => exact fun q _ => rfl
 | succ j ih =>
  intro q hq
  have e : befA F (wonA F acc (k + j)) q = befA F (wonA F acc k) q := by
   cases h1 : befA F (wonA F acc k) q with
   | true => exact q32 (fun t ht => qo (Nat.le_add_right _ _) ht) h1
   | false =>
    obtain ⟨row,hr,hall⟩ := qH.1 h1
    exact qH.2 ⟨row,hr,fun t ht => by rw [ih t (hF q hq row hr t ht)]; exact hall t ht⟩
  show (wonA F acc (k + j) q || befA F (wonA F acc (k + j)) q) = _
  rw [ih q hq,e]
  exact h q hq
end
def lstA (r : List Int) : List Nat → Int → Int
 | [],m => m
 | t :: row,m => lstA r row (if 0 ≤ r.getD t 0 ∧ r.getD t 0 < m then r.getD t 0 else m)
theorem q36 (r : List Int) (row : List Nat) (t : Nat) (m : Int) : lstA r (row ++ [t]) m = if 0 ≤ r.getD t 0 ∧ r.getD t 0 < lstA r row m then r.getD t 0 else lstA r row m := by
 induction row generalizing m with
 | nil => rfl
 | cons u row ih => rw [List.cons_append,lstA,ih]; rfl
theorem q2G (r : List Int) : ∀ (row : List Nat) (m : Int),lstA r row m ≤ m
 | [],m => Int.le_refl _
 | t :: row,m => by
  rw [lstA]
  refine Int.le_trans (q2G r row _) ?_
  split <;> omega
theorem q19 (r : List Int) : ∀ (row : List Nat) (m : Int) (t : Nat),t ∈ row → 0 ≤ r.getD t 0 → lstA r row m ≤ r.getD t 0
 | [],m,t,h,_ => by cases h
 | u :: row,m,t,h,h0 => by
  rw [lstA]
  rcases List.mem_cons.1 h with rfl | h
  ·refine Int.le_trans (q2G r row _) ?_
   split <;> omega
  ·exact q19 r row _ t h h0
theorem q2F (r : List Int) : ∀ (row : List Nat) (m k : Int),k ≤ m → (∀ t ∈ row,0 ≤ r.getD t 0 → k ≤ r.getD t 0) → k ≤ lstA r row m
 | [],m,k,h,_ => h
 | t :: row,m,k,h,h2 => by
  rw [lstA]
  refine q2F r row _ k ?_ fun u hu => h2 u (List.mem_cons_of_mem _ hu)
  split
  ·exact h2 t List.mem_cons_self (by omega)
  ·exact h
section
variable {F : Nat → List (List Nat)} {acc : Nat → Bool} {n : Nat} {r : List Int}
theorem RankA.just {q : Nat} (h : RankA n F acc r) (hq : q < n) {k : Nat} (hk : JustA F acc k q) : r.getD q 0 = (k : Int) := by
 rcases h.at' q hq with ⟨_,h2⟩ | ⟨j,h1,h2⟩
 ·have := h2 k; rw [hk.1] at this; cases this
 ·rw [h1,h2.uni hk]
theorem RankA.of {q : Nat} (h : RankA n F acc r) (hq : q < n) (h0 : 0 ≤ r.getD q 0) : ∃ k : Nat,r.getD q 0 = (k : Int) ∧ JustA F acc k q := by
 rcases h.at' q hq with ⟨h1,_⟩ | h1
 ·omega
 ·exact h1
theorem RankA.never {q : Nat} (h : RankA n F acc r) (hq : q < n) : r.getD q 0 < 0 ↔ ∀ k,wonA F acc k q = false := by
 rcases h.at' q hq with ⟨h1,h2⟩ | ⟨k,h1,h2⟩
 ·exact ⟨fun _ => h2,fun _ => by omega⟩
 ·refine ⟨fun h => by omega,fun h3 => ?_⟩
  have := h3 k; rw [h2.1] at this; cases this
theorem RankA.bd (h : RankA n F acc r) (hF : InA n F) (hne : ∀ q,q < n → F q ≠ []) {q : Nat} (hq : q < n) : -1 ≤ r.getD q 0 ∧ r.getD q 0 < (n : Int) ∧ (r.getD q 0 = 0 ↔ acc q = true) := by
 rcases h.at' q hq with ⟨h1,h2⟩ | ⟨k,h1,h2⟩
 ·refine ⟨by omega,by omega,fun e => by omega,fun e => ?_⟩
  have := h2 0; unfold wonA at this; rw [e] at this; cases this
 ·have := q2C hF hne hq h2
  refine ⟨by omega,by omega,fun e => ?_,fun e => ?_⟩
  ·obtain rfl : k = 0 := by omega
   exact h2.1
  ·have h3 : JustA F acc 0 q := ⟨e,fun j hj => absurd hj (Nat.not_lt_zero _)⟩
   rw [h1,h2.uni h3]; rfl
theorem RankA.falls (h : RankA n F acc r) (hF : InA n F) (hne : ∀ q,q < n → F q ≠ []) {q : Nat} (hq : q < n) (h0 : 0 < r.getD q 0) : (∀ row ∈ F q,lstA r row (r.getD q 0) < r.getD q 0) ∧ ∃ row ∈ F q,lstA r row (r.getD q 0) = r.getD q 0 - 1 := by
 obtain ⟨k,h1,h2⟩ := h.of hq (by omega)
 obtain ⟨j,rfl⟩ : ∃ j,k = j + 1 := ⟨k - 1,by omega⟩
 refine ⟨fun row hr => ?_,?_⟩
 ·obtain ⟨t,ht,i,hi,hJ⟩ := q2V h2 row hr
  have h3 := h.just (hF q hq row hr t ht) hJ
  have := q19 r row (r.getD q 0) t ht (by omega)
  omega
 ·obtain ⟨row,hr,⟨t,ht,hJ⟩,hlow⟩ := q2f (hne q hq) h2
  refine ⟨row,hr,?_⟩
  have h3 := h.just (hF q hq row hr t ht) hJ
  have h4 := q19 r row (r.getD q 0) t ht (by omega)
  have h5 := q2F r row (r.getD q 0) (j : Int) (by omega) fun u hu hu0 => by
   obtain ⟨i,h6,h7⟩ := h.of (hF q hq row hr u hu) hu0
   rw [h6]
   refine Int.ofNat_le.2 (Nat.le_of_not_lt fun hij => ?_)
   have := hlow u hu i hij; rw [h7.1] at this; cases this
  omega
theorem RankA.stays (h : RankA n F acc r) (hF : InA n F) {q : Nat} (hq : q < n) (h0 : r.getD q 0 < 0) : ∃ row ∈ F q,∀ t ∈ row,r.getD t 0 < 0 := by
 obtain ⟨row,hr,h1⟩ := q3c ((h.never hq).1 h0)
 exact ⟨row,hr,fun t ht => (h.never (hF q hq row hr t ht)).2 (h1 t ht)⟩
theorem RankA.more {F' : Nat → List (List Nat)} {r' : List Int} (h : RankA n F acc r) (h' : RankA n F' acc r') (hF : InA n F) (hsub : ∀ q,q < n → ∀ row' ∈ F' q,∃ row ∈ F q,∀ t ∈ row,t ∈ row') {q : Nat} (hq : q < n) (h0 : 0 ≤ r.getD q 0) : 0 ≤ r'.getD q 0 ∧ r'.getD q 0 ≤ r.getD q 0 := by
 obtain ⟨k,h1,h2⟩ := h.of hq h0
 have h3 := q3D hF hsub k q hq h2.1
 obtain ⟨j,hj,hJ⟩ := q2D h3
 have := h'.just hq hJ
 omega
theorem q1c {K : Nat} (hF : InA n F) (hs : ∀ q,q < n → wonA F acc (K + 1) q = wonA F acc K q) (hl : r.length = n) (hr : ∀ q,q < n → (r.getD q 0 = -1 ∧ wonA F acc K q = false) ∨ ∃ k : Nat,r.getD q 0 = (k : Int) ∧ JustA F acc k q) : RankA n F acc r := by
 refine ⟨hl,fun q hq => ?_⟩
 rcases hr q hq with ⟨h1,h2⟩ | h1
 ·refine .inl ⟨h1,fun k => ?_⟩
  cases hx : wonA F acc k q with
  | false => rfl
  | true =>
   have h3 := qo (show k ≤ K + k by omega) hx
   rw [q2m hF hs k q hq,h2] at h3
   cases h3
 ·exact .inr h1
end
def rkA (F : Nat → List (List Nat)) (acc : Nat → Bool) : Nat → Nat → Int
 | 0,q => if acc q then 0 else -1
 | k + 1,q => if (befA F (wonA F acc k) q && !wonA F acc k q) = true then ((k + 1 : Nat) : Int) else rkA F acc k q
section
variable {F : Nat → List (List Nat)} {acc : Nat → Bool} {n : Nat}
theorem q1C : ∀ (k q : Nat),wonA F acc k q = decide (0 ≤ rkA F acc k q)
 | 0,q => by
  unfold wonA rkA
  cases acc q <;> simp
 | k + 1,q => by
  rw [rkA]
  cases h0 : wonA F acc k q with
  | true =>
   have h1 := q1C k q
   rw [h0] at h1
   rw [q1E h0]
   simp only [Bool.not_true,Bool.and_false,Bool.false_eq_true,if_false]
   exact h1
  | false =>
   have h1 := q1C k q
   rw [h0] at h1
   cases hb : befA F (wonA F acc k) q with
   | true => rw [qu hb]; simp; omega
   | false =>
    have h2 : wonA F acc (k + 1) q = false := by
     show (wonA F acc k q || befA F (wonA F acc k) q) = false
     rw [h0,hb]; rfl
    rw [h2]
    simp only [Bool.not_false,Bool.and_true,Bool.false_eq_true,if_false]
    exact h1
theorem q1K : ∀ (k q : Nat),rkA F acc k q = -1 ∨ ∃ j : Nat,j ≤ k ∧ rkA F acc k q = (j : Int) ∧ JustA F acc j q
 | 0,q => by
  unfold rkA
  cases h : acc q with
  | true => exact .inr ⟨0,Nat.le_refl _,rfl,h,fun j hj => absurd hj (Nat.not_lt_zero _)⟩
  | false => exact .inl rfl
 | k + 1,q => by
  rw [rkA]
  by_cases h : (befA F (wonA F acc k) q && !wonA F acc k q) = true
  ·rw [if_pos h]
   rw [Bool.and_eq_true,Bool.not_eq_true'] at h
   refine .inr ⟨k + 1,Nat.le_refl _,rfl,qu h.1,fun j hj => ?_⟩
   cases hw : wonA F acc j q with
   | false => rfl
   | true => have := qo (show j ≤ k by omega) hw; rw [h.2] at this; cases this
  ·rw [if_neg h]
   rcases q1K k q with h1 | ⟨j,h1,h2,h3⟩
   ·exact .inl h1
   ·exact .inr ⟨j,by omega,h2,h3⟩
def rkL (F : Nat → List (List Nat)) (acc : Nat → Bool) (n k : Nat) : List Int := (List.range n).map (rkA F acc k)
theorem q44 {k q : Nat} (hq : q < n) : (rkL F acc n k).getD q 0 = rkA F acc k q := by simp [rkL,List.getD_eq_getElem?_getD,hq]
theorem q3x {K : Nat} (hF : InA n F) (hs : ∀ q,q < n → wonA F acc (K + 1) q = wonA F acc K q) : RankA n F acc (rkL F acc n K) := by
 refine q1c hF hs (by simp [rkL]) fun q hq => ?_
 rw [q44 hq]
 rcases q1K (F := F) (acc := acc) K q with h | ⟨j,_,h2,h3⟩
 ·refine .inl ⟨h,?_⟩
  rw [q1C,h]; rfl
 ·exact .inr ⟨j,h2,h3⟩
end
def mixA {α : Type} (f g : Nat → α) (k n : Nat) : List α := (List.range n).map fun i => if i < k then f i else g i
section
variable {α : Type} {f g : Nat → α} {k n : Nat}
theorem qj : (mixA f g k n).length = n := by simp [mixA]
theorem qK {i : Nat} (hi : i < n) : (mixA f g k n)[i]? = some (if i < k then f i else g i) := by simp [mixA,hi]
theorem q38 {i : Nat} (hi : i < n) (d : α) : (mixA f g k n).getD i d = if i < k then f i else g i := by rw [List.getD_eq_getElem?_getD,qK hi]; rfl
theorem qY : mixA f g 0 n = (List.range n).map g := by simp [mixA]
theorem q1a : mixA f g n n = (List.range n).map f := by
 apply List.ext_getElem (by simp [mixA])
 intro i h1 h2
 have h3 : i < n := by simpa [mixA] using h1
 simp [mixA,h3]
theorem qL (hk : k < n) {v : α} (hv : v = f k) : (mixA f g k n).set k v = mixA f g (k + 1) n := by
 apply List.ext_getElem?
 intro i
 rw [List.getElem?_set]
 by_cases hi : i < n
 ·rw [qK hi,qK hi,qj]
  by_cases e : k = i
  ·subst e; rw [if_pos rfl,if_pos hk,if_pos (by omega),hv]
  ·rw [if_neg e]
   by_cases h : i < k
   ·rw [if_pos h,if_pos (by omega)]
   ·rw [if_neg h,if_neg (by omega)]
 ·have h1 : (mixA f g k n)[i]? = none := List.getElem?_eq_none (by rw [qj]; omega)
  have h2 : (mixA f g (k + 1) n)[i]? = none := List.getElem?_eq_none (by rw [qj]; omega)
  rw [h1,h2,qj]
  split
  ·omega
  ·rfl
theorem q1I (hk : k < n) (hv : g k = f k) : mixA f g k n = mixA f g (k + 1) n := by
 rw [← qL hk rfl]
 apply List.ext_getElem?
 intro i
 rw [List.getElem?_set,qj]
 by_cases e : k = i
 ·subst e; rw [if_pos rfl,if_pos hk,qK hk,if_neg (by omega),hv]
 ·rw [if_neg e]
end
def wonK (F : Nat → List (List Nat)) (acc : Nat → Bool) : Nat → Nat → Bool
 | 0,_ => false
 | k + 1,q => wonA F acc k q
def nowK (F : Nat → List (List Nat)) (acc : Nat → Bool) : Nat → Nat → Bool
 | 0,q => acc q
 | k + 1,q => befA F (wonA F acc k) q
def rnkK (F : Nat → List (List Nat)) (acc : Nat → Bool) : Nat → Nat → Int
 | 0,_ => -1
 | k + 1,q => rkA F acc k q
def GrwK (n : Nat) (F : Nat → List (List Nat)) (acc : Nat → Bool) (k : Nat) (gr : Bool) : Prop :=
 (gr = true ∧ (k = 0 ∨ ∃ q,q < n ∧ JustA F acc (k - 1) q)) ∨ (gr = false ∧ 0 < k ∧ ∀ q,q < n → wonA F acc (k - 1) q = wonK F acc (k - 1) q)
section
variable {F : Nat → List (List Nat)} {acc : Nat → Bool} {n k : Nat}
theorem qz (q : Nat) : wonA F acc k q = (wonK F acc k q || nowK F acc k q) := by
 cases k with
 | zero => simp [wonA,wonK,nowK]
 | succ k => rfl
theorem q1L (q : Nat) : rkA F acc k q = if (nowK F acc k q && !wonK F acc k q) = true then (k : Int) else rnkK F acc k q := by
 cases k with
 | zero => simp [rkA,wonK,nowK,rnkK]
 | succ k => rfl
theorem q3C {q : Nat} (h : wonK F acc k q = false) : ∀ j,j < k → wonA F acc j q = false := fun j hj => by
 cases k with
 | zero => exact absurd hj (Nat.not_lt_zero _)
 | succ k =>
  cases hw : wonA F acc j q with
  | false => rfl
  | true =>
   have h2 : wonA F acc k q = false := h
   rw [qo (show j ≤ k by omega) hw] at h2
   cases h2
theorem GrwK.step {gr : Bool} (h : gr = true ↔ ∃ q,q < n ∧ nowK F acc k q = true ∧ wonK F acc k q = false) : GrwK n F acc (k + 1) gr := by
 cases gr with
 | true =>
  obtain ⟨q,hq,h1,h2⟩ := h.1 rfl
  exact .inl ⟨rfl,.inr ⟨q,hq,by show wonA F acc k q = true; rw [qz,h1]; simp,q3C h2⟩⟩
 | false =>
  refine .inr ⟨rfl,Nat.succ_pos _,fun q hq => ?_⟩
  show wonA F acc k q = wonK F acc k q
  rw [qz]
  cases h1 : wonK F acc k q with
  | true => rfl
  | false =>
   cases h2 : nowK F acc k q with
   | false => rfl
   | true => exact absurd (h.2 ⟨q,hq,h2,h1⟩) (by simp)
theorem GrwK.lt (h : GrwK n F acc k true) (hF : InA n F) (hne : ∀ q,q < n → F q ≠ []) : k ≤ n := by
 rcases h with ⟨_,rfl | ⟨q,hq,hJ⟩⟩ | ⟨h,_⟩
 ·exact Nat.zero_le _
 ·have := q2C hF hne hq hJ
  omega
 ·cases h
theorem GrwK.fin (h : GrwK n F acc k false) (hF : InA n F) (hne : ∀ q,q < n → F q ≠ []) : RankA n F acc ((List.range n).map (rnkK F acc k)) := by
 rcases h with ⟨h,_⟩ | ⟨_,h0,h⟩
 ·cases h
 obtain ⟨K,rfl⟩ : ∃ K,k = K + 1 := ⟨k - 1,by omega⟩
 rw [Nat.add_sub_cancel] at h
 refine q3x (K := K) hF fun q hq => ?_
 cases K with
 | zero =>
  show (wonA F acc 0 q || befA F (wonA F acc 0) q) = wonA F acc 0 q
  cases hb : befA F (wonA F acc 0) q with
  | false => simp
  | true =>
   obtain ⟨row,hr⟩ := List.exists_mem_of_ne_nil _ (hne q hq)
   obtain ⟨t,ht,hW⟩ := qd.1 hb row hr
   have h1 : wonA F acc 0 t = false := h t (hF q hq row hr t ht)
   rw [hW] at h1
   cases h1
 | succ K =>
  have h1 : ∀ q,q < n → wonA F acc (K + 1) q = wonA F acc K q := fun q hq => h q hq
  have h2 := q2m hF h1 2 q hq
  rw [h q hq]
  exact h2
end
end Go.Proofs.Ytbgogbafkoekjaa
