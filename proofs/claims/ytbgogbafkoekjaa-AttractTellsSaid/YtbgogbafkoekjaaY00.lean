/- Texts of the proof, put together: what it uses. -/
import Derived.WalkKit
import Derived.WalkSpells
import Derived.Maps.OwnSet
import Derived.Test.YtbgogbafkoekjaaProg
import Derived.WalkLawsBesides
import Derived.BigQuiet
import Derived.Deep.QuietTactic
import Derived.Laws.BitsAllLaws
set_option maxRecDepth 100000
set_option maxHeartbeats 16000000
namespace Go.Proofs.Ytbgogbafkoekjaa
open Go.RowKit Go.Maps
theorem ql {B g : Nat} {a w : World} (h : Below B a w) (hg : B ≤ g) (cs : Array Value) : Below B a (w.setRow g cs) :=
 h.trans ⟨rfl,rfl,rfl,by simp,fun k hk => setRow_other _ _ _ _ (by omega)⟩
end Go.Proofs.Ytbgogbafkoekjaa
namespace Go.Proofs.Ytbgogbafkoekjaa
abbrev Gd := Int × Int × Int
def goG (N : List Gd) (x : Nat) : Nat → Int → Option Int
 | 0,r => if r < 0 then some (-1 - r) else none
 | k + 1,r => if r < 0 then some (-1 - r) else
  match N[r.toNat]? with
  | none => none
  | some (P,lo,hi) => if 0 ≤ P ∧ P ≤ 7 then goG N x k (if x.testBit P.toNat then hi else lo) else none
theorem q2b {N : List Gd} {x : Nat} {r : Int} (h : r < 0) : ∀ k,goG N x k r = some (-1 - r)
 | 0 => by simp [goG,h]
 | k + 1 => by simp [goG,h]
theorem q2V {N : List Gd} {x k i : Nat} {P lo hi : Int} (h : N[i]? = some (P,lo,hi)) (h0 : 0 ≤ P) (h7 : P ≤ 7) : goG N x (k + 1) (i : Int) = goG N x k (if x.testBit P.toNat then hi else lo) := by
 have hi : ¬ (i : Int) < 0 := by omega
 simp [goG,hi,h,h0,h7]
def FitG (m : Nat) (N : List Gd) (a : Nat) (p : Int) (r : Int) : Prop :=
 (r < 0 ∧ -(m : Int) ≤ r) ∨ ∃ i,r = ((i : Nat) : Int) ∧ i < a ∧ ∃ nd,N[i]? = some nd ∧ p < nd.1
theorem q4S {N N' : List Gd} (h : N <+: N') {nd : Gd} (hm : nd ∈ N) : N'.idxOf nd = N.idxOf nd := by
 obtain ⟨t,rfl⟩ := h
 simp [List.idxOf_append,hm]
theorem q4R {N : List Gd} {nd : Gd} (h : nd ∉ N) : (N ++ [nd]).idxOf nd = N.length := by
 simp [List.idxOf_append,h]
structure MayG (props : Int) (ns : Nat) (N : List Gd) (gs : List Int) : Prop where
 p0 : 0 ≤ props
 p8 : props ≤ 8
 s1 : 1 ≤ ns
 s2 : ns ≤ 256
 len : gs.length = ns
 few : N.length ≤ 4096
 node : ∀ (i : Nat) (P lo hi : Int),N[i]? = some (P,lo,hi) → 0 ≤ P ∧ P < props ∧ lo ≠ hi ∧ FitG ns N i P lo ∧ FitG ns N i P hi
 once : N.Nodup
 gd : ∀ g ∈ gs,FitG ns N N.length (-1) g
def trP (R : List (List Nat)) (s l : Nat) : Nat := (R.getD s []).getD l 0
structure RowsP (n K : Nat) (R : List (List Nat)) : Prop where
 len : R.length = n
 row : ∀ s,s < n → (R.getD s []).length = K
 lt : ∀ s l,s < n → l < K → trP R s l < n
theorem q2X {m : Nat} {props : Int} {N : List Gd} (hp : props ≤ 8) (hN : ∀ (i : Nat) (P lo hi : Int),N[i]? = some (P,lo,hi) → 0 ≤ P ∧ P < props ∧ lo ≠ hi ∧ FitG m N i P lo ∧ FitG m N i P hi) (x : Nat) :
  ∀ (k a : Nat) (p r : Int),FitG m N a p r → 7 - p ≤ k → ∃ v : Nat,v < m ∧ goG N x k r = some (v : Int)
 | k,a,p,r,.inl ⟨h1,h2⟩,_ => ⟨(-1 - r).toNat,by omega,by rw [q2b h1]; congr 1; omega⟩
 | 0,a,p,r,.inr ⟨i,e,hi,nd,hn,hq⟩,hk => by
  obtain ⟨P,lo,hi'⟩ := nd
  have := hN i P lo hi' hn
  dsimp only at hq
  omega
 | k + 1,a,p,r,.inr ⟨i,e,hi,nd,hn,hq⟩,hk => by
  obtain ⟨P,lo,hi'⟩ := nd
  obtain ⟨h0,h1,_,h3,h4⟩ := hN i P lo hi' hn
  dsimp only at hq
  subst e
  rw [q2V hn h0 (by omega)]
  split
  ·exact q2X hp hN x k i P hi' h4 (by omega)
  ·exact q2X hp hN x k i P lo h3 (by omega)
def rowG (N : List Gd) (K : Nat) (r : Int) : List Nat := (List.range K).map fun x => ((goG N x 8 r).getD 0).toNat
def rowsG (N : List Gd) (gs : List Int) (K : Nat) : List (List Nat) := gs.map (rowG N K)
theorem q1z {N : List Gd} {gs : List Int} {K s : Nat} (h : s < gs.length) : (rowsG N gs K).getD s [] = rowG N K (gs.getD s 0) := by
 simp [rowsG,List.getD_eq_getElem?_getD,List.getElem?_eq_getElem h]
theorem q3F {N : List Gd} {K x : Nat} {r : Int} (h : x < K) : (rowG N K r).getD x 0 = ((goG N x 8 r).getD 0).toNat := by
 simp [rowG,List.getD_eq_getElem?_getD,h]
theorem q4H (N : List Gd) (K : Nat) (r : Int) : (rowG N K r).length = K := by simp [rowG]
theorem MayG.go {p : Int} {ns : Nat} {N : List Gd} {gs : List Int} (h : MayG p ns N gs) {s : Nat} (hs : s < ns) (x : Nat) : ∃ v : Nat,v < ns ∧ goG N x 8 (gs.getD s 0) = some (v : Int) := by
 have hl := h.len
 have hm : gs.getD s 0 ∈ gs := by
  rw [List.getD_eq_getElem?_getD,List.getElem?_eq_getElem (by omega),Option.getD_some]
  exact List.getElem_mem _
 exact q2X h.p8 h.node x 8 N.length (-1) _ (h.gd _ hm) (by omega)
theorem MayG.tr {p : Int} {ns : Nat} {N : List Gd} {gs : List Int} (h : MayG p ns N gs) {K s x : Nat} (hs : s < ns) (hx : x < K) : goG N x 8 (gs.getD s 0) = some ((trP (rowsG N gs K) s x : Nat) : Int) := by
 obtain ⟨v,hv,e⟩ := h.go hs x
 have hl := h.len
 rw [trP,q1z (by omega),q3F hx,e]
 simp
theorem MayG.rows {p : Int} {ns : Nat} {N : List Gd} {gs : List Int} (h : MayG p ns N gs) (K : Nat) : RowsP ns K (rowsG N gs K) := by
 have hl := h.len
 refine ⟨by simp [rowsG,hl],fun s hs => by rw [q1z (by omega),q4H],fun s l hs hlk => ?_⟩
 obtain ⟨v,hv,e⟩ := h.go hs l
 rw [trP,q1z (by omega),q3F hlk,e]
 simpa using hv
variable {n K : Nat} {R : List (List Nat)} {bs : List Bool}
theorem q2m {α : Type} : ∀ {l m : List α},l.Nodup → (∀ x ∈ l,x ∈ m) → l.length ≤ m.length
 | [],m,_,_ => Nat.zero_le _
 | a :: l,m,hn,hs => by
  obtain ⟨m1,m2,rfl⟩ := List.append_of_mem (hs a (by simp))
  obtain ⟨ha,hn⟩ := List.nodup_cons.1 hn
  have : l.length ≤ (m1 ++ m2).length := q2m hn fun x hx => by
   have := hs x (by simp [hx])
   simp only [List.mem_append,List.mem_cons] at this ⊢
   rcases this with h | rfl | h
   ·exact .inl h
   ·exact absurd hx ha
   ·exact .inr h
  simp only [List.length_append,List.length_cons] at this ⊢
  omega
theorem q4e {n : Nat} {l : List Nat} (h : l.Nodup) (hl : ∀ x ∈ l,x < n) : l.length ≤ n := by
 have := q2m h (m := List.range n) (fun x hx => List.mem_range.2 (hl x hx))
 simpa using this
abbrev PrP := Nat × Nat × Nat × Nat
variable {n K : Nat} {R : List (List Nat)} {bs : List Bool} {p q i k : Nat} {Q : List PrP}
end Go.Proofs.Ytbgogbafkoekjaa
namespace Go.Proofs.Ytbgogbafkoekjaa
open Go.RowKit Go.Maps
def bitB (l i : Int) : Bool := decide (0 ≤ i ∧ i < 8) && decide (l / 2 ^ i.toNat % 2 = 1)
theorem q3Q (x : Int) (h0 : 0 ≤ x) (h1 : x < 256) : bits BinOp.and IntKind.u8 x 1 = x % 2 := by
 rw [u8_and x 1 h0 h1 (by decide) (by decide)]
 have e : (1 : Int).toNat = 1 := rfl
 rw [e,Nat.and_one_is_mod]; omega
theorem q5a {l : Int} (n : Nat) (h0 : 0 ≤ l) (h1 : l < 256) : 0 ≤ l / 2 ^ n ∧ l / 2 ^ n < 256 := by
 have hp : (0 : Int) < 2 ^ n := Int.pow_pos (by decide)
 exact ⟨Int.ediv_nonneg h0 (Int.le_of_lt hp),Int.lt_of_le_of_lt (Int.ediv_le_self _ h0) h1⟩
theorem q1m (l i : Int) (w : World) (hl0 : 0 ≤ l) (hl1 : l < 256) :
  Calls Try.prog 43 #[.int .u8 l,.int .i64 i] w fun e w' => e = .returned (.bool (bitB l i)) ∧ w' = w := by
 have hd := q5a i.toNat hl0 hl1
 have HD : Hid _ := q3Q _ hd.1 hd.2
 clear hd
 by_cases h0 : 0 ≤ i
 ·by_cases h8 : i < 8
  ·have HX : Hid (bitB l i = (l / 2 ^ i.toNat % 2 == 1)) := by
    show _ = _; unfold bitB; rw [decide_eq_true ⟨h0,h8⟩,Bool.true_and]
    by_cases e : l / 2 ^ i.toNat % 2 = 1 <;> simp [e]
   go_enter Try.func43,Try.ntmps43
   go_wp2
   go_ret
   exact ⟨by rw [HX.out,← HD.out]; rfl,rfl⟩
  ·have HX : Hid (bitB l i = false) := by show _ = _; unfold bitB; rw [decide_eq_false (by omega)]; rfl
   go_enter Try.func43,Try.ntmps43
   go_wp2
   go_ret
   exact ⟨by rw [HX.out]; rfl,rfl⟩
 ·have HX : Hid (bitB l i = false) := by show _ = _; unfold bitB; rw [decide_eq_false (by omega)]; rfl
  go_enter Try.func43,Try.ntmps43
  go_wp2
  go_ret
  exact ⟨by rw [HX.out]; rfl,rfl⟩
end Go.Proofs.Ytbgogbafkoekjaa
namespace Go.Proofs.Ytbgogbafkoekjaa
theorem q4Q {α : Type} {Q : List α} {j : Nat} (h : j < Q.length) (d : α) : Q.getD j d = Q[j] := by
 rw [List.getD_eq_getElem?_getD,List.getElem?_eq_getElem h]; rfl
variable {n K : Nat} {R : List (List Nat)} {bs : List Bool}
variable {c : Nat → Nat} {Q F : List Nat}
def mvL (m : Nat) : List Nat := (List.range 256).filter fun l => l &&& m == l
def cbN (m : Nat) : Nat → Nat
 | 0 => 0
 | k + 1 => cbN m k + m / 2 ^ k % 2
theorem qD {m l : Nat} : l ∈ mvL m ↔ l < 256 ∧ l &&& m = l := by simp [mvL]
theorem qM {n : Nat} {P : Nat → Bool} (h : (List.range n).all P = true) : ∀ m,m < n → P m = true := fun m hm => List.all_eq_true.1 h m (List.mem_range.2 hm)
theorem q4Z (m : Nat) (hm : m < 256) : (mvL m).length = 2 ^ cbN m 8 := by
 have h : (List.range 256).all (fun m => (mvL m).length == 2 ^ cbN m 8) = true := by decide +kernel
 exact beq_iff_eq.1 (qM h m hm)
theorem qp (m : Nat) : (mvL m).length ≤ 256 := by
 unfold mvL
 exact Nat.le_trans (List.length_filter_le _ _) (by simp)
theorem q1h (m : Nat) : 0 < (mvL m).length := List.length_pos_of_mem (a := 0) (qD.2 ⟨by decide,by simp⟩)
theorem q1d {m i : Nat} (h : i < (mvL m).length) : (mvL m).getD i 0 < 256 ∧ (mvL m).getD i 0 &&& m = (mvL m).getD i 0 := by
 have : (mvL m).getD i 0 = (mvL m)[i] := by simp [List.getD_eq_getElem?_getD,List.getElem?_eq_getElem h]
 rw [this]
 exact qD.1 (List.getElem_mem h)
theorem qi {m l : Nat} (h : l &&& m = l) : l ≤ m := by rw [← h]; exact Nat.and_le_right
theorem q59 (m k : Nat) : cbN m k ≤ k := by
 induction k with
 | zero => exact Nat.le_refl _
 | succ k ih => unfold cbN; have := Nat.mod_lt (m / 2 ^ k) (show 0 < 2 by decide); omega
def SplitN (p e s : Nat) : Prop := e &&& s = 0 ∧ e ||| s = 2 ^ p - 1
def befA (F : Nat → List (List Nat)) (W : Nat → Bool) (q : Nat) : Bool := (F q).all fun row => row.any W
def wonA (F : Nat → List (List Nat)) (acc : Nat → Bool) : Nat → Nat → Bool
 | 0,q => acc q
 | k + 1,q => wonA F acc k q || befA F (wonA F acc k) q
section
variable {F : Nat → List (List Nat)} {acc : Nat → Bool}
theorem qj {W : Nat → Bool} {q : Nat} : befA F W q = true ↔ ∀ row ∈ F q,∃ t ∈ row,W t = true := by
 unfold befA
 rw [List.all_eq_true]
 exact ⟨fun h row hr => List.any_eq_true.1 (h row hr),fun h row hr => List.any_eq_true.2 (h row hr)⟩
theorem qU {W : Nat → Bool} {q : Nat} : befA F W q = false ↔ ∃ row ∈ F q,∀ t ∈ row,W t = false := by
 constructor
 ·intro h
  have h2 : ¬ ∀ row ∈ F q,∃ t ∈ row,W t = true := fun k => by rw [qj.2 k] at h; cases h
  refine Classical.byContradiction fun hn => h2 fun row hr => Classical.byContradiction fun hm => hn ⟨row,hr,fun t ht => ?_⟩
  cases hW : W t with
  | false => rfl
  | true => exact absurd ⟨t,ht,hW⟩ hm
 ·rintro ⟨row,hr,h⟩
  cases hb : befA F W q with
  | false => rfl
  | true =>
   obtain ⟨t,ht,hW⟩ := qj.1 hb row hr
   rw [h t ht] at hW; cases hW
theorem q46 {W V : Nat → Bool} {q : Nat} (h : ∀ t,W t = true → V t = true) (hb : befA F W q = true) : befA F V q = true :=
 qj.2 fun row hr => by
  obtain ⟨t,ht,hW⟩ := qj.1 hb row hr
  exact ⟨t,ht,h t hW⟩
theorem q2i {k q : Nat} (h : wonA F acc k q = true) : wonA F acc (k + 1) q = true := by
 show (wonA F acc k q || befA F (wonA F acc k) q) = true
 rw [h]; rfl
theorem qy {j k q : Nat} (hjk : j ≤ k) (h : wonA F acc j q = true) : wonA F acc k q = true := by
 induction k with
 | zero =>
  obtain rfl : j = 0 := by omega
  exact h
 | succ k ih =>
  by_cases e : j = k + 1
  ·rw [← e]; exact h
  ·exact q2i (ih (by omega))
theorem q4n {k q : Nat} (h : wonA F acc (k + 1) q = true) (h0 : wonA F acc k q = false) : befA F (wonA F acc k) q = true := by
 have : (wonA F acc k q || befA F (wonA F acc k) q) = true := h
 rw [h0] at this
 simpa using this
theorem q1A {k q : Nat} (h : befA F (wonA F acc k) q = true) : wonA F acc (k + 1) q = true := by
 show (wonA F acc k q || befA F (wonA F acc k) q) = true
 rw [h]; simp
def JustA (F : Nat → List (List Nat)) (acc : Nat → Bool) (k q : Nat) : Prop := wonA F acc k q = true ∧ ∀ j,j < k → wonA F acc j q = false
theorem q4T {k q : Nat} (h : wonA F acc k q = true) : ∃ j,j ≤ k ∧ JustA F acc j q := by
 induction k with
 | zero => exact ⟨0,Nat.le_refl _,h,fun j hj => absurd hj (by omega)⟩
 | succ k ih =>
  cases h0 : wonA F acc k q with
  | true => obtain ⟨j,hj,hJ⟩ := ih h0; exact ⟨j,by omega,hJ⟩
  | false =>
   refine ⟨k + 1,Nat.le_refl _,h,fun j hj => ?_⟩
   cases hw : wonA F acc j q with
   | false => rfl
   | true => rw [qy (show j ≤ k by omega) hw] at h0; cases h0
theorem JustA.uni {j k q : Nat} (h : JustA F acc j q) (h' : JustA F acc k q) : j = k := by
 rcases Nat.lt_trichotomy j k with e | e | e
 ·have := h'.2 j e; rw [h.1] at this; cases this
 ·exact e
 ·have := h.2 k e; rw [h'.1] at this; cases this
structure RankA (n : Nat) (F : Nat → List (List Nat)) (acc : Nat → Bool) (r : List Int) : Prop where
 len : r.length = n
 at' : ∀ q,q < n → (r.getD q 0 = -1 ∧ ∀ k,wonA F acc k q = false) ∨ ∃ k : Nat,r.getD q 0 = (k : Int) ∧ JustA F acc k q
theorem RankA.uni {n : Nat} {r r' : List Int} (h : RankA n F acc r) (h' : RankA n F acc r') : r = r' := by
 refine List.ext_getElem (by rw [h.len,h'.len]) fun q h1 h2 => ?_
 have e1 : r[q] = r.getD q 0 := by simp [List.getD_eq_getElem?_getD,List.getElem?_eq_getElem h1]
 have e2 : r'[q] = r'.getD q 0 := by simp [List.getD_eq_getElem?_getD,List.getElem?_eq_getElem h2]
 have hq : q < n := by rw [← h.len]; exact h1
 rw [e1,e2]
 rcases h.at' q hq with ⟨h3,h4⟩ | ⟨k,h3,h4⟩ <;> rcases h'.at' q hq with ⟨k3,k4⟩ | ⟨j,k3,k4⟩
 ·rw [h3,k3]
 ·have := h4 j; rw [k4.1] at this; cases this
 ·have := k4 k; rw [h4.1] at this; cases this
 ·rw [h3,k3,h4.uni k4]
def InA (n : Nat) (F : Nat → List (List Nat)) : Prop := ∀ q,q < n → ∀ row ∈ F q,∀ t ∈ row,t < n
theorem q4y {k q : Nat} (hne : F q ≠ []) (h : JustA F acc (k + 1) q) : ∃ row ∈ F q,(∃ t ∈ row,JustA F acc k t) ∧ ∀ t ∈ row,∀ j,j < k → wonA F acc j t = false := by
 have hb := q4n h.1 (h.2 k (by omega))
 cases k with
 | zero =>
  obtain ⟨row,hr⟩ := List.exists_mem_of_ne_nil _ hne
  obtain ⟨t,ht,hW⟩ := qj.1 hb row hr
  exact ⟨row,hr,⟨t,ht,hW,fun j hj => absurd hj (by omega)⟩,fun t ht j hj => absurd hj (by omega)⟩
 | succ k =>
  have hn : befA F (wonA F acc k) q = false := by
   cases hx : befA F (wonA F acc k) q with
   | false => rfl
   | true => have := h.2 (k + 1) (by omega); rw [q1A hx] at this; cases this
  obtain ⟨row,hr,hall⟩ := qU.1 hn
  have hlow : ∀ t ∈ row,∀ j,j < k + 1 → wonA F acc j t = false := fun t ht j hj => by
   cases hx : wonA F acc j t with
   | false => rfl
   | true => have := qy (show j ≤ k by omega) hx; rw [hall t ht] at this; cases this
  obtain ⟨t,ht,hW⟩ := qj.1 hb row hr
  exact ⟨row,hr,⟨t,ht,hW,fun j hj => hlow t ht j hj⟩,hlow⟩
theorem q3V {n k q : Nat} (hF : InA n F) (hne : ∀ q,q < n → F q ≠ []) (hq : q < n) (h : JustA F acc k q) : ∃ L : List Nat,L.length = k + 1 ∧ L.Nodup ∧ ∀ t ∈ L,t < n ∧ ∃ j,j ≤ k ∧ JustA F acc j t := by
 induction k generalizing q with
 | zero => exact ⟨[q],rfl,by simp,fun t ht => by simp at ht; subst ht; exact ⟨hq,0,Nat.le_refl _,h⟩⟩
 | succ k ih =>
  obtain ⟨row,hr,⟨t,ht,hJ⟩,_⟩ := q4y (hne q hq) h
  obtain ⟨L,h1,h2,h3⟩ := ih (hF q hq row hr t ht) hJ
  refine ⟨q :: L,by simp [h1],List.nodup_cons.2 ⟨fun hm => ?_,h2⟩,fun u hu => ?_⟩
  ·obtain ⟨_,j,hj,hj2⟩ := h3 q hm
   have := hj2.uni h
   omega
  ·rcases List.mem_cons.1 hu with rfl | hu
   ·exact ⟨hq,k + 1,Nat.le_refl _,h⟩
   ·obtain ⟨a,j,hj,hj2⟩ := h3 u hu
    exact ⟨a,j,by omega,hj2⟩
theorem q2d {n k q : Nat} (hF : InA n F) (hne : ∀ q,q < n → F q ≠ []) (hq : q < n) (h : JustA F acc k q) : k < n := by
 obtain ⟨L,h1,h2,h3⟩ := q3V hF hne hq h
 have := q4e h2 fun t ht => (h3 t ht).1
 omega
theorem q38 {n k : Nat} (hF : InA n F) (h : ∀ q,q < n → wonA F acc (k + 1) q = wonA F acc k q) : ∀ j q,q < n → wonA F acc (k + j) q = wonA F acc k q := by
 intro j
 induction j with
 | zero => exact fun q _ => rfl
 | succ j ih =>
  intro q hq
  have e : befA F (wonA F acc (k + j)) q = befA F (wonA F acc k) q := by
   cases h1 : befA F (wonA F acc k) q with
   | true => exact q46 (fun t ht => qy (Nat.le_add_right _ _) ht) h1
   | false =>
    obtain ⟨row,hr,hall⟩ := qU.1 h1
    exact qU.2 ⟨row,hr,fun t ht => by rw [ih t (hF q hq row hr t ht)]; exact hall t ht⟩
  show (wonA F acc (k + j) q || befA F (wonA F acc (k + j)) q) = _
  rw [ih q hq,e]
  exact h q hq
end
section
variable {F : Nat → List (List Nat)} {acc : Nat → Bool} {n : Nat} {r : List Int}
theorem RankA.bd (h : RankA n F acc r) (hF : InA n F) (hne : ∀ q,q < n → F q ≠ []) {q : Nat} (hq : q < n) : -1 ≤ r.getD q 0 ∧ r.getD q 0 < (n : Int) ∧ (r.getD q 0 = 0 ↔ acc q = true) := by
 rcases h.at' q hq with ⟨h1,h2⟩ | ⟨k,h1,h2⟩
 ·refine ⟨by omega,by omega,fun e => by omega,fun e => ?_⟩
  have := h2 0; unfold wonA at this; rw [e] at this; cases this
 ·have := q2d hF hne hq h2
  refine ⟨by omega,by omega,fun e => ?_,fun e => ?_⟩
  ·obtain rfl : k = 0 := by omega
   exact h2.1
  ·have h3 : JustA F acc 0 q := ⟨e,fun j hj => absurd hj (Nat.not_lt_zero _)⟩
   rw [h1,h2.uni h3]; rfl
theorem q4E {K : Nat} (hF : InA n F) (hs : ∀ q,q < n → wonA F acc (K + 1) q = wonA F acc K q) (hl : r.length = n) (hr : ∀ q,q < n → (r.getD q 0 = -1 ∧ wonA F acc K q = false) ∨ ∃ k : Nat,r.getD q 0 = (k : Int) ∧ JustA F acc k q) : RankA n F acc r := by
 refine ⟨hl,fun q hq => ?_⟩
 rcases hr q hq with ⟨h1,h2⟩ | h1
 ·refine .inl ⟨h1,fun k => ?_⟩
  cases hx : wonA F acc k q with
  | false => rfl
  | true =>
   have h3 := qy (show k ≤ K + k by omega) hx
   rw [q38 hF hs k q hq,h2] at h3
   cases h3
 ·exact .inr h1
end
def rkA (F : Nat → List (List Nat)) (acc : Nat → Bool) : Nat → Nat → Int
 | 0,q => if acc q then 0 else -1
 | k + 1,q => if (befA F (wonA F acc k) q && !wonA F acc k q) = true then ((k + 1 : Nat) : Int) else rkA F acc k q
section
variable {F : Nat → List (List Nat)} {acc : Nat → Bool} {n : Nat}
theorem q1k : ∀ (k q : Nat),wonA F acc k q = decide (0 ≤ rkA F acc k q)
 | 0,q => by
  unfold wonA rkA
  cases acc q <;> simp
 | k + 1,q => by
  rw [rkA]
  cases h0 : wonA F acc k q with
  | true =>
   have h1 := q1k k q
   rw [h0] at h1
   rw [q2i h0]
   simp only [Bool.not_true,Bool.and_false,Bool.false_eq_true,if_false]
   exact h1
  | false =>
   have h1 := q1k k q
   rw [h0] at h1
   cases hb : befA F (wonA F acc k) q with
   | true => rw [q1A hb]; simp; omega
   | false =>
    have h2 : wonA F acc (k + 1) q = false := by
     show (wonA F acc k q || befA F (wonA F acc k) q) = false
     rw [h0,hb]; rfl
    rw [h2]
    simp only [Bool.not_false,Bool.and_true,Bool.false_eq_true,if_false]
    exact h1
theorem q2o : ∀ (k q : Nat),rkA F acc k q = -1 ∨ ∃ j : Nat,j ≤ k ∧ rkA F acc k q = (j : Int) ∧ JustA F acc j q
 | 0,q => by
  unfold rkA
  cases h : acc q with
  | true => exact .inr ⟨0,Nat.le_refl _,rfl,h,fun j hj => absurd hj (Nat.not_lt_zero _)⟩
  | false => exact .inl rfl
 | k + 1,q => by
  rw [rkA]
  by_cases h : (befA F (wonA F acc k) q && !wonA F acc k q) = true
  ·rw [if_pos h]
   rw [Bool.and_eq_true,Bool.not_eq_true'] at h
   refine .inr ⟨k + 1,Nat.le_refl _,rfl,q1A h.1,fun j hj => ?_⟩
   cases hw : wonA F acc j q with
   | false => rfl
   | true => have := qy (show j ≤ k by omega) hw; rw [h.2] at this; cases this
  ·rw [if_neg h]
   rcases q2o k q with h1 | ⟨j,h1,h2,h3⟩
   ·exact .inl h1
   ·exact .inr ⟨j,by omega,h2,h3⟩
def rkL (F : Nat → List (List Nat)) (acc : Nat → Bool) (n k : Nat) : List Int := (List.range n).map (rkA F acc k)
theorem q4k {k q : Nat} (hq : q < n) : (rkL F acc n k).getD q 0 = rkA F acc k q := by simp [rkL,List.getD_eq_getElem?_getD,hq]
theorem q35 {K : Nat} (hF : InA n F) (hs : ∀ q,q < n → wonA F acc (K + 1) q = wonA F acc K q) : RankA n F acc (rkL F acc n K) := by
 refine q4E hF hs (by simp [rkL]) fun q hq => ?_
 rw [q4k hq]
 rcases q2o (F := F) (acc := acc) K q with h | ⟨j,_,h2,h3⟩
 ·refine .inl ⟨h,?_⟩
  rw [q1k,h]; rfl
 ·exact .inr ⟨j,h2,h3⟩
theorem q55 (hF : InA n F) (hne : ∀ q,q < n → F q ≠ []) : RankA n F acc (rkL F acc n n) := by
 refine q35 hF fun q hq => ?_
 cases h0 : wonA F acc n q with
 | true => exact q2i h0
 | false =>
  cases h1 : wonA F acc (n + 1) q with
  | false => rfl
  | true =>
   obtain ⟨j,hj,hJ⟩ := q4T h1
   have := q2d hF hne hq hJ
   have h2 := qy (show j ≤ n by omega) hJ.1
   rw [h0] at h2; cases h2
end
def mixA {α : Type} (f g : Nat → α) (k n : Nat) : List α := (List.range n).map fun i => if i < k then f i else g i
section
variable {α : Type} {f g : Nat → α} {k n : Nat}
theorem qe : (mixA f g k n).length = n := by simp [mixA]
theorem qZ {i : Nat} (hi : i < n) : (mixA f g k n)[i]? = some (if i < k then f i else g i) := by simp [mixA,hi]
theorem q2l {i : Nat} (hi : i < n) (d : α) : (mixA f g k n).getD i d = if i < k then f i else g i := by rw [List.getD_eq_getElem?_getD,qZ hi]; rfl
theorem qn : mixA f g 0 n = (List.range n).map g := by simp [mixA]
theorem qt : mixA f g n n = (List.range n).map f := by
 apply List.ext_getElem (by simp [mixA])
 intro i h1 h2
 have h3 : i < n := by simpa [mixA] using h1
 simp [mixA,h3]
theorem qm (hk : k < n) {v : α} (hv : v = f k) : (mixA f g k n).set k v = mixA f g (k + 1) n := by
 apply List.ext_getElem?
 intro i
 rw [List.getElem?_set]
 by_cases hi : i < n
 ·rw [qZ hi,qZ hi,qe]
  by_cases e : k = i
  ·subst e; rw [if_pos rfl,if_pos hk,if_pos (by omega),hv]
  ·rw [if_neg e]
   by_cases h : i < k
   ·rw [if_pos h,if_pos (by omega)]
   ·rw [if_neg h,if_neg (by omega)]
 ·have h1 : (mixA f g k n)[i]? = none := List.getElem?_eq_none (by rw [qe]; omega)
  have h2 : (mixA f g (k + 1) n)[i]? = none := List.getElem?_eq_none (by rw [qe]; omega)
  rw [h1,h2,qe]
  split
  ·omega
  ·rfl
theorem qL (hk : k < n) (hv : g k = f k) : mixA f g k n = mixA f g (k + 1) n := by
 rw [← qm hk rfl]
 apply List.ext_getElem?
 intro i
 rw [List.getElem?_set,qe]
 by_cases e : k = i
 ·subst e; rw [if_pos rfl,if_pos hk,qZ hk,if_neg (by omega),hv]
 ·rw [if_neg e]
end
def wonK (F : Nat → List (List Nat)) (acc : Nat → Bool) : Nat → Nat → Bool
 | 0,_ => false
 | k + 1,q => wonA F acc k q
def nowK (F : Nat → List (List Nat)) (acc : Nat → Bool) : Nat → Nat → Bool
 | 0,q => acc q
 | k + 1,q => befA F (wonA F acc k) q
def rnkK (F : Nat → List (List Nat)) (acc : Nat → Bool) : Nat → Nat → Int
 | 0,_ => -1
 | k + 1,q => rkA F acc k q
def GrwK (n : Nat) (F : Nat → List (List Nat)) (acc : Nat → Bool) (k : Nat) (gr : Bool) : Prop :=
 (gr = true ∧ (k = 0 ∨ ∃ q,q < n ∧ JustA F acc (k - 1) q)) ∨ (gr = false ∧ 0 < k ∧ ∀ q,q < n → wonA F acc (k - 1) q = wonK F acc (k - 1) q)
section
variable {F : Nat → List (List Nat)} {acc : Nat → Bool} {n k : Nat}
theorem qN (q : Nat) : wonA F acc k q = (wonK F acc k q || nowK F acc k q) := by
 cases k with
 | zero => simp [wonA,wonK,nowK]
 | succ k => rfl
theorem q2p (q : Nat) : rkA F acc k q = if (nowK F acc k q && !wonK F acc k q) = true then (k : Int) else rnkK F acc k q := by
 cases k with
 | zero => simp [rkA,wonK,nowK,rnkK]
 | succ k => rfl
theorem q4K {q : Nat} (h : wonK F acc k q = false) : ∀ j,j < k → wonA F acc j q = false := fun j hj => by
 cases k with
 | zero => exact absurd hj (Nat.not_lt_zero _)
 | succ k =>
  cases hw : wonA F acc j q with
  | false => rfl
  | true =>
   have h2 : wonA F acc k q = false := h
   rw [qy (show j ≤ k by omega) hw] at h2
   cases h2
theorem GrwK.step {gr : Bool} (h : gr = true ↔ ∃ q,q < n ∧ nowK F acc k q = true ∧ wonK F acc k q = false) : GrwK n F acc (k + 1) gr := by
 cases gr with
 | true =>
  obtain ⟨q,hq,h1,h2⟩ := h.1 rfl
  exact .inl ⟨rfl,.inr ⟨q,hq,by show wonA F acc k q = true; rw [qN,h1]; simp,q4K h2⟩⟩
 | false =>
  refine .inr ⟨rfl,Nat.succ_pos _,fun q hq => ?_⟩
  show wonA F acc k q = wonK F acc k q
  rw [qN]
  cases h1 : wonK F acc k q with
  | true => rfl
  | false =>
   cases h2 : nowK F acc k q with
   | false => rfl
   | true => exact absurd (h.2 ⟨q,hq,h2,h1⟩) (by simp)
theorem GrwK.lt (h : GrwK n F acc k true) (hF : InA n F) (hne : ∀ q,q < n → F q ≠ []) : k ≤ n := by
 rcases h with ⟨_,rfl | ⟨q,hq,hJ⟩⟩ | ⟨h,_⟩
 ·exact Nat.zero_le _
 ·have := q2d hF hne hq hJ
  omega
 ·cases h
theorem GrwK.fin (h : GrwK n F acc k false) (hF : InA n F) (hne : ∀ q,q < n → F q ≠ []) : RankA n F acc ((List.range n).map (rnkK F acc k)) := by
 rcases h with ⟨h,_⟩ | ⟨_,h0,h⟩
 ·cases h
 obtain ⟨K,rfl⟩ : ∃ K,k = K + 1 := ⟨k - 1,by omega⟩
 rw [Nat.add_sub_cancel] at h
 refine q35 (K := K) hF fun q hq => ?_
 cases K with
 | zero =>
  show (wonA F acc 0 q || befA F (wonA F acc 0) q) = wonA F acc 0 q
  cases hb : befA F (wonA F acc 0) q with
  | false => simp
  | true =>
   obtain ⟨row,hr⟩ := List.exists_mem_of_ne_nil _ (hne q hq)
   obtain ⟨t,ht,hW⟩ := qj.1 hb row hr
   have h1 : wonA F acc 0 t = false := h t (hF q hq row hr t ht)
   rw [hW] at h1
   cases h1
 | succ K =>
  have h1 : ∀ q,q < n → wonA F acc (K + 1) q = wonA F acc K q := fun q hq => h q hq
  have h2 := q38 hF h1 2 q hq
  rw [h q hq]
  exact h2
end
end Go.Proofs.Ytbgogbafkoekjaa
