/- Texts of the proof, put together: what it uses. -/
import Derived.Test.YtehddcdgpamaaaaY00
set_option maxRecDepth 100000
set_option maxHeartbeats 16000000
namespace Go.Proofs.Ytehddcdgpamaaaa
theorem q59 {Q : List Nat} {k : Nat} (h : Q <+: List.range k) : Q = List.range Q.length := by
 have h1 := List.prefix_iff_eq_take.1 h
 have h2 := h.length_le
 rw [List.length_range] at h2
 rw [List.take_range,Nat.min_eq_left h2] at h1
 exact h1
theorem q1m {k i : Nat} (h : i < k) : (List.range k).getD i 0 = i := by
 rw [List.getD_eq_getElem?_getD,List.getElem?_eq_getElem (by simpa using h)]; simp
variable {n K : Nat} {R : List (List Nat)} {bs : List Bool} {c : Nat → Nat}
theorem q3g (Fe : List Nat) (hn : (Fe.map c).Nodup) : ∀ (row F : List Nat),row.foldl (putF c) F <+: Fe → (row.map (nmP c Fe)).foldl putR (List.range F.length) = List.range (row.foldl (putF c) F).length
 | [],F,_ => rfl
 | q :: row,F,h => by
  rw [List.map_cons,List.foldl_cons,List.foldl_cons]
  have h1 : putF c F q <+: Fe := (qT c row _).trans h
  have e : putR (List.range F.length) (nmP c Fe q) = List.range (putF c F q).length := by
   unfold putF at h1 ⊢
   split at h1
   ·rename_i hm
    have := q1O hm
    rw [if_pos hm,putR,q4I h1 hm,if_pos (by simpa using this)]
   ·rename_i hm
    have hp : F ++ [q] <+: Fe := h1
    have hl : F.length < Fe.length := by have := hp.length_le; simp at this; omega
    have e1 : Fe.getD F.length 0 = q := by
     obtain ⟨t,rfl⟩ := hp
     simp [List.getD_eq_getElem?_getD]
    have : nmP c Fe q = F.length := q4c hn hl (by rw [e1])
    rw [if_neg hm,putR,this,if_neg (by simp),List.length_append,List.length_cons,List.length_nil,List.range_succ]
  rw [e]
  exact q3g Fe hn row _ h
theorem q3h : ∀ (row F : List Nat),(∀ q ∈ row,c q ∈ F.map c) → row.foldl (putF c) F = F
 | [],_,_ => rfl
 | q :: row,F,h => by
  rw [List.foldl_cons,putF,if_pos (h q (by simp))]
  exact q3h row F (fun x hx => h x (by simp [hx]))
theorem q4z (Q : List Nat) : ∀ (row : List Nat),ddP c (row.foldl putR Q) = row.foldl (putF c) (ddP c Q) := by
 intro row
 induction row generalizing Q with
 | nil => rfl
 | cons s row ih =>
  rw [List.foldl_cons,List.foldl_cons,ih (putR Q s)]
  congr 1
  unfold putR
  split
  ·rename_i h
   rw [putF,if_pos (by rw [q1T]; exact List.mem_map_of_mem h)]
  ·rw [q1S]; rfl
theorem q1k {Q : List Nat} {i : Nat} (h : i < Q.length) : Q.take (i + 1) = Q.take i ++ [Q.getD i 0] := by
 rw [List.take_add_one,List.getElem?_eq_getElem h,List.getD_eq_getElem?_getD,List.getElem?_eq_getElem h]; rfl
theorem q65 (hR : RowsP n K R) (hC : ClsC n K R bs c) (Fe : List Nat) : ∀ (f i : Nat) (Q : List Nat),WayP n K R i Q → n ≤ f + i → Fe = ddP c (rchP R f i Q) → i ≤ Q.length → ∀ g,Fe.length ≤ g + (ddP c (Q.take i)).length → rchP (rowC c Fe R) g (ddP c (Q.take i)).length (List.range (ddP c Q).length) = List.range Fe.length := by
 intro f
 induction f with
 | zero =>
  intro i Q hW hf hFe hi g hg
  have := hW.len
  have hil : i = Q.length := by omega
  subst hil
  rw [rchP] at hFe
  rw [List.take_length,← hFe,qC _ _ (by simp)]
 | succ f ih =>
  intro i Q hW hf hFe hi g hg
  by_cases hil : i < Q.length
  ·have hqn := hW.lt _ (qU hil)
   rw [qI R f hil] at hFe
   have hW' := hW.next hR hil
   have hpre := qs (R.getD (Q.getD i 0) []) Q
   have hi' : i + 1 ≤ ((R.getD (Q.getD i 0) []).foldl putR Q).length := by have := hpre.length_le; omega
   have ih' := ih (i + 1) _ hW' (by omega) hFe hi'
   have htk : ((R.getD (Q.getD i 0) []).foldl putR Q).take (i + 1) = Q.take (i + 1) := by
    obtain ⟨t,e⟩ := hpre
    rw [← e,List.take_append_of_le_length (by omega)]
   rw [htk,q4z] at ih'
   have hFpre : (R.getD (Q.getD i 0) []).foldl (putF c) (ddP c Q) <+: Fe := by
    rw [hFe,← q4z]; exact q4y (q19 R f _ _)
   have hFn : (Fe.map c).Nodup := by rw [hFe]; exact q1N c _
   have etk : ddP c (Q.take (i + 1)) = putF c (ddP c (Q.take i)) (Q.getD i 0) := by rw [q1k hil,q1S]; rfl
   rw [etk] at ih'
   by_cases hm : c (Q.getD i 0) ∈ (ddP c (Q.take i)).map c
   ·rw [putF,if_pos hm] at ih'
    have hold : (R.getD (Q.getD i 0) []).foldl (putF c) (ddP c Q) = ddP c Q := by
     refine q3h _ _ fun x hx => ?_
     obtain ⟨l,hl,rfl⟩ := (q1a hR hqn).1 hx
     rw [q1T] at hm
     obtain ⟨s,hs,es⟩ := List.mem_map.1 hm
     obtain ⟨j,hj,rfl⟩ := q33 hs
     have hjl : j < i := by rw [List.length_take] at hj; omega
     have ej : (Q.take i).getD j 0 = Q.getD j 0 := (q3j (List.take_prefix i Q) hj).symm
     rw [ej] at es
     have hjq := hW.cl j hjl (by omega) l hl
     rw [q1T,← hC.go _ _ (hW.lt _ (qU (by omega))) hqn es l hl]
     exact List.mem_map_of_mem hjq
    rw [hold] at ih'
    exact ih' g hg
   ·rw [putF,if_neg hm] at ih'
    rw [List.length_append,List.length_cons,List.length_nil] at ih'
    have hpq : ddP c (Q.take i) ++ [Q.getD i 0] <+: ddP c Q := by
     have := q4y (c := c) (List.take_prefix (i + 1) Q)
     rwa [etk,putF,if_neg hm] at this
    have hjl : (ddP c (Q.take i)).length < (ddP c Q).length := by have := hpq.length_le; simp at this; omega
    have hQF : ddP c Q <+: Fe := (qT c _ _).trans hFpre
    have hlF := hQF.length_le
    have ej : Fe.getD (ddP c (Q.take i)).length 0 = Q.getD i 0 := by
     obtain ⟨t,rfl⟩ := hpq.trans hQF
     simp [List.getD_eq_getElem?_getD]
    obtain ⟨g,rfl⟩ : ∃ g',g = g' + 1 := ⟨g - 1,by omega⟩
    rw [qI _ _ (by simpa using hjl),q1m hjl,q1X (by omega),ej,q3g Fe hFn _ _ hFpre]
    exact ih' g (by omega)
  ·have hil : i = Q.length := by omega
   subst hil
   rw [qC R _ (Nat.le_refl _)] at hFe
   rw [List.take_length,← hFe,qC _ _ (by simp)]
theorem MinP.reached {Q F : List Nat} (h : MinP n K R bs c Q F) (hQ : Q = rchP R n 0 [0]) (h1 : 1 ≤ n) : rchP (rowC c F R) F.length 0 [0] = List.range F.length := by
 have := q65 h.hR h.hC F n 0 [0] (q2I h1) (by omega) (by rw [h.hF,hQ]) (by omega) F.length (by simp [ddP])
 simpa [ddP,putF] using this
def AcrP (K : Nat) (R : List (List Nat)) (bs : List Bool) (R' : List (List Nat)) (bs' : List Bool) (s t : Nat) : Prop := ∀ u : List Nat,(∀ l ∈ u,l < K) → bs.getD (runP R s u) false = bs'.getD (runP R' t u) false
theorem AcrP.go {R' : List (List Nat)} {bs' : List Bool} {s t l : Nat} (h : AcrP K R bs R' bs' s t) (hl : l < K) : AcrP K R bs R' bs' (trP R s l) (trP R' t l) := fun u hu => by
 have := h (l :: u) (fun x hx => by
  rcases List.mem_cons.1 hx with rfl | hx
  ·exact hl
  ·exact hu x hx)
 exact this
structure OneP (k K : Nat) (R : List (List Nat)) (bs : List Bool) : Prop where
 rows : RowsP k K R
 len : bs.length = k
 un : ∀ i j,i < k → j < k → AlikeP K R bs i j → i = j
 pos : 0 < k
 rch : rchP R k 0 [0] = List.range k
theorem q5W {k k' : Nat} {R' : List (List Nat)} {bs' : List Bool} (h : OneP k K R bs) (h' : OneP k' K R' bs') {i m : Nat} (hX : ∀ s,s < m → AcrP K R bs R' bs' s s) (hi : i < m) (hmk : m ≤ k) (hmk' : m ≤ k')
  (hp : (R.getD i []).foldl putR (List.range m) <+: List.range k) (hp' : (R'.getD i []).foldl putR (List.range m) <+: List.range k') :
  ∀ l,l ≤ K → ∃ m',m ≤ m' ∧ m' ≤ k ∧ m' ≤ k' ∧ ((R.getD i []).take l).foldl putR (List.range m) = List.range m' ∧ ((R'.getD i []).take l).foldl putR (List.range m) = List.range m' ∧ (∀ s,s < m' → AcrP K R bs R' bs' s s) ∧ (∀ j,j < l → trP R i j = trP R' i j) := by
 have hik : i < k := by omega
 have hik' : i < k' := by omega
 have hr := h.rows.row i hik
 have hr' := h'.rows.row i hik'
 intro l
 induction l with
 | zero => exact fun _ => ⟨m,Nat.le_refl _,hmk,hmk',by simp,by simp,hX,fun j hj => by omega⟩
 | succ l ih =>
  intro hl
  obtain ⟨m',h1,h2,h3,h4,h5,h6,h7⟩ := ih (by omega)
  have e1 := q1t (R.getD i []) (List.range m) (k := l) (by omega)
  have e2 := q1t (R'.getD i []) (List.range m) (k := l) (by omega)
  rw [h4] at e1
  rw [h5] at e2
  have p1 : putR (List.range m') (trP R i l) <+: List.range k := by
   rw [show trP R i l = (R.getD i []).getD l 0 from rfl,← e1]
   refine List.IsPrefix.trans ?_ hp
   conv => rhs; rw [← List.take_append_drop (l + 1) (R.getD i []),List.foldl_append]
   exact qs _ _
  have p2 : putR (List.range m') (trP R' i l) <+: List.range k' := by
   rw [show trP R' i l = (R'.getD i []).getD l 0 from rfl,← e2]
   refine List.IsPrefix.trans ?_ hp'
   conv => rhs; rw [← List.take_append_drop (l + 1) (R'.getD i []),List.foldl_append]
   exact qs _ _
  have key : ∀ {x y : Nat},putR (List.range m') x <+: List.range y → x < m' ∨ (x = m' ∧ m' < y) := fun {x y} hp => by
   by_cases hx : x < m'
   ·exact .inl hx
   ·rw [putR,if_neg (by simpa using hx)] at hp
    have q1 := q59 hp
    have q2 := hp.length_le
    simp [List.range_succ] at q1 q2
    exact .inr ⟨q1,by omega⟩
  have hX1 : AcrP K R bs R' bs' (trP R i l) (trP R' i l) := (hX i hi).go (by omega)
  have l1 := h.rows.lt i l hik (by omega)
  have l2 := h'.rows.lt i l hik' (by omega)
  have et : trP R i l = trP R' i l := by
   rcases key p1 with a | ⟨a,a'⟩
   ·refine h'.un _ _ (by omega) l2 fun u hu => ?_
    exact (h6 _ a u hu).symm.trans (hX1 u hu)
   ·rcases key p2 with b | ⟨b,b'⟩
    ·refine h.un _ _ l1 (by omega) fun u hu => ?_
     exact (hX1 u hu).trans (h6 _ b u hu).symm
    ·omega
  rw [show (R.getD i []).getD l 0 = trP R i l from rfl] at e1
  rw [show (R'.getD i []).getD l 0 = trP R' i l from rfl] at e2
  have h7' : ∀ j,j < l + 1 → trP R i j = trP R' i j := fun j hj => by
   by_cases ej : j = l
   ·subst ej; exact et
   ·exact h7 j (by omega)
  rcases key p1 with a | ⟨a,a'⟩
  ·refine ⟨m',h1,h2,h3,?_,?_,h6,h7'⟩
   ·rw [e1,putR,if_pos (by simpa using a)]
   ·rw [e2,putR,if_pos (by rw [← et]; simpa using a)]
  ·have b' : m' < k' := by
    rcases key p2 with b | ⟨b,b'⟩
    ·omega
    ·exact b'
   refine ⟨m' + 1,by omega,by omega,by omega,?_,?_,fun s hs => ?_,h7'⟩
   ·rw [e1,putR,a,if_neg (by simp),List.range_succ]
   ·rw [e2,← et,putR,a,if_neg (by simp),List.range_succ]
   ·by_cases es : s = m'
    ·have hX2 := hX1
     rw [← et,a] at hX2
     subst es
     exact hX2
    ·exact h6 s (by omega)
theorem q5V {k k' : Nat} {R' : List (List Nat)} {bs' : List Bool} (h : OneP k K R bs) (h' : OneP k' K R' bs') : ∀ (f f' i m : Nat),k ≤ f + i → k' ≤ f' + i → i ≤ m → m ≤ k → m ≤ k' → rchP R f i (List.range m) = List.range k → rchP R' f' i (List.range m) = List.range k' → (∀ s,s < m → AcrP K R bs R' bs' s s) → (∀ s,s < i → ∀ l,l < K → trP R s l = trP R' s l) →
  k = k' ∧ (∀ s,s < k → AcrP K R bs R' bs' s s) ∧ ∀ s,s < k → ∀ l,l < K → trP R s l = trP R' s l := by
 intro f
 induction f with
 | zero =>
  intro f' i m hf hf' him hmk hmk' e1 e2 hX ht
  have e3 : m = k := by omega
  subst e3
  have : i = m := by omega
  subst this
  rw [qC _ _ (by simp)] at e2
  have := congrArg List.length e2
  simp at this
  exact ⟨this,hX,ht⟩
 | succ f ih =>
  intro f' i m hf hf' him hmk hmk' e1 e2 hX ht
  by_cases hi : i < m
  ·rw [qI _ _ (by simpa using hi),q1m hi] at e1
   obtain ⟨f',rfl⟩ : ∃ g,f' = g + 1 := ⟨f' - 1,by omega⟩
   rw [qI _ _ (by simpa using hi),q1m hi] at e2
   have p1 := q19 R f (i + 1) ((R.getD i []).foldl putR (List.range m))
   rw [e1] at p1
   have p2 := q19 R' f' (i + 1) ((R'.getD i []).foldl putR (List.range m))
   rw [e2] at p2
   obtain ⟨m',h1,h2,h3,h4,h5,h6,h7⟩ := q5W h h' hX hi hmk hmk' p1 p2 K (Nat.le_refl _)
   rw [List.take_of_length_le (by rw [h.rows.row i (by omega)]; exact Nat.le_refl _)] at h4
   rw [List.take_of_length_le (by rw [h'.rows.row i (by omega)]; exact Nat.le_refl _)] at h5
   rw [h4] at e1
   rw [h5] at e2
   refine ih f' (i + 1) m' (by omega) (by omega) (by omega) h2 h3 e1 e2 h6 fun s hs l hl => ?_
   by_cases es : s = i
   ·subst es; exact h7 l hl
   ·exact ht s (by omega) l hl
  ·rw [qC _ _ (by simp; omega)] at e1 e2
   have a1 := congrArg List.length e1
   have a2 := congrArg List.length e2
   simp at a1 a2
   subst a1
   exact ⟨a2,hX,fun s hs => ht s (by omega)⟩
theorem q6u {k k' : Nat} {R' : List (List Nat)} {bs' : List Bool} (h : OneP k K R bs) (h' : OneP k' K R' bs') (hX : AcrP K R bs R' bs' 0 0) : R = R' ∧ bs = bs' := by
 obtain ⟨rfl,a,b⟩ := q5V h h' k k' 0 1 (by omega) (by omega) (by omega) h.pos h'.pos (by simpa using h.rch) (by simpa using h'.rch) (fun s hs => (show 0 = s by omega) ▸ hX) (fun s hs => by omega)
 constructor
 ·apply List.ext_getElem (by rw [h.rows.len,h'.rows.len])
  intro s h1 h2
  have hs : s < k := by rw [← h.rows.len]; exact h1
  have e1 : R[s] = R.getD s [] := (q8 h1 []).symm
  have e2 : R'[s] = R'.getD s [] := (q8 h2 []).symm
  rw [e1,e2]
  have l1 := h.rows.row s hs
  have l2 := h'.rows.row s hs
  apply List.ext_getElem (by rw [l1,l2])
  intro l q1 q2
  have := b s hs l (by omega)
  rw [trP,trP,q8 q1,q8 q2] at this
  exact this
 ·apply List.ext_getElem (by rw [h.len,h'.len])
  intro s h1 h2
  have := a s (by rw [← h.len]; exact h1) [] (by simp)
  rw [List.getD_eq_getElem?_getD,List.getD_eq_getElem?_getD] at this
  simpa [runP,List.getElem?_eq_getElem h1,List.getElem?_eq_getElem h2] using this
theorem MinP.one {Q F : List Nat} (h : MinP n K R bs c Q F) (hQ : Q = rchP R n 0 [0]) (h1 : 1 ≤ n) : OneP F.length K (rowC c F R) (accC F bs) :=
 ⟨h.rows,by simp [accC],fun i j hi hj ha => h.unlike hi hj ha,h.pos,h.reached hQ h1⟩
theorem q1U {m : Nat} {props : Int} {N : List Gd} (hN : ∀ (i : Nat) (P lo hi : Int),N[i]? = some (P,lo,hi) → 0 ≤ P ∧ P < props ∧ lo ≠ hi ∧ FitG m N i P lo ∧ FitG m N i P hi) {x y : Nat} (q : Int) (hxy : ∀ b : Nat,q < b → x.testBit b = y.testBit b) :
  ∀ (k a : Nat) (p r : Int),q ≤ p → FitG m N a p r → goG N x k r = goG N y k r
 | k,a,p,r,hp,.inl ⟨h1,h2⟩ => by rw [qM h1,qM h1]
 | 0,a,p,r,hp,.inr ⟨i,e,hi,nd,hn,hq⟩ => by simp [goG]
 | k + 1,a,p,r,hp,.inr ⟨i,e,hi,nd,hn,hq⟩ => by
  obtain ⟨P,lo,hi'⟩ := nd
  obtain ⟨h0,h1,_,h3,h4⟩ := hN i P lo hi' hn
  dsimp only at hq
  subst e
  by_cases h7 : P ≤ 7
  ·rw [qB hn h0 h7,qB hn h0 h7,hxy P.toNat (by omega)]
   split
   ·exact q1U hN q hxy k i P hi' (by omega) h4
   ·exact q1U hN q hxy k i P lo (by omega) h3
  ·have hi : ¬ (i : Int) < 0 := by omega
   simp [goG,hi,hn,h7]
theorem q2d {N : List Gd} {x : Nat} : ∀ {k : Nat} {r v : Int},goG N x k r = some v → ∀ k',k ≤ k' → goG N x k' r = some v
 | 0,r,v,h,k',hk => by
  by_cases hr : r < 0
  ·rw [qM hr] at h ⊢; exact h
  ·simp [goG,hr] at h
 | k + 1,r,v,h,k',hk => by
  obtain ⟨k',rfl⟩ : ∃ k2,k' = k2 + 1 := ⟨k' - 1,by omega⟩
  by_cases hr : r < 0
  ·rw [qM hr] at h ⊢; exact h
  ·simp only [goG,if_neg hr] at h ⊢
   split at h
   ·cases h
   ·split at h
    ·rename_i h7
     rw [if_pos h7]
     exact q2d h k' (by omega)
    ·cases h
def FromA (n : Nat) (Na : List Gd) (φ : Nat → Nat) (N : List Gd) : Prop :=
 ∀ i,i < N.length → ∃ (j : Nat) (P lo hi : Int),Na[j]? = some (P,lo,hi) ∧ 0 ≤ P ∧ ∃ k : Nat,P + k = n ∧ ∀ N2 : List Gd,N <+: N2 → adM k P (fun y => φ (((goG Na (y * 2 ^ P.toNat) 8 (j : Int)).getD 0).toNat)) N2 = ((i : Int),N2)
theorem FromA.nil (n : Nat) (Na : List Gd) (φ : Nat → Nat) : FromA n Na φ [] := fun i hi => by simp at hi
theorem q56 {α : Type} (f : Nat → α → Prop) {n : Nat} {m : List α} (hm : ∀ i,i < n → ∃ j ∈ m,f i j) (hi : ∀ i i' j,i < n → i' < n → f i j → f i' j → i = i') : n ≤ m.length := by
 classical
 have hex : ∀ i : Fin n,∃ j,j ∈ m ∧ f i j := fun i => by obtain ⟨j,h1,h2⟩ := hm i i.2; exact ⟨j,h1,h2⟩
 let g : Fin n → α := fun i => Classical.choose (hex i)
 have hg : ∀ i,g i ∈ m ∧ f i (g i) := fun i => Classical.choose_spec (hex i)
 have h1 : ((List.finRange n).map g).Nodup := by
  rw [List.Nodup,List.pairwise_map]
  refine (List.nodup_finRange n).imp fun {a b} hab e => hab ?_
  have := hi a b (g a) a.2 b.2 (hg a).2 (by rw [e]; exact (hg b).2)
  exact Fin.ext this
 have := q1P h1 (m := m) (fun x hx => by obtain ⟨i,_,rfl⟩ := List.mem_map.1 hx; exact (hg i).1)
 simpa using this
theorem FromA.len {n : Nat} {Na : List Gd} {φ : Nat → Nat} {N : List Gd} (h : FromA n Na φ N) : N.length ≤ Na.length := by
 have := q56 (n := N.length) (m := List.range Na.length) (fun (i j : Nat) => ∃ (P lo hi : Int),Na[j]? = some (P,lo,hi) ∧ 0 ≤ P ∧ ∃ k : Nat,P + k = n ∧ ∀ N2 : List Gd,N <+: N2 → adM k P (fun y => φ (((goG Na (y * 2 ^ P.toNat) 8 (j : Int)).getD 0).toNat)) N2 = ((i : Int),N2))
  (fun i hi => by
   obtain ⟨j,P,lo,hi',hj,h0,k,hk,ha⟩ := h i hi
   exact ⟨j,List.mem_range.2 (List.getElem?_eq_some_iff.1 hj).1,P,lo,hi',hj,h0,k,hk,ha⟩)
  (fun i i' j hi hi' ⟨P,lo,h1,hj,h0,k,hk,ha⟩ ⟨P',lo',h1',hj',h0',k',hk',ha'⟩ => by
   rw [hj] at hj'
   injection hj' with hj'
   injection hj' with e1 e2
   subst e1
   obtain rfl : k = k' := by omega
   have := (ha N List.prefix_rfl).symm.trans (ha' N List.prefix_rfl)
   have := congrArg Prod.fst this
   dsimp only at this
   omega)
 simpa using this
theorem FromA.mono {n : Nat} {Na : List Gd} {φ : Nat → Nat} {N N' : List Gd} (hp : N <+: N') (h : ∀ i,i < N.length → ∃ (j : Nat) (P lo hi : Int),Na[j]? = some (P,lo,hi) ∧ 0 ≤ P ∧ ∃ k : Nat,P + k = n ∧ ∀ N2 : List Gd,N <+: N2 → adM k P (fun y => φ (((goG Na (y * 2 ^ P.toNat) 8 (j : Int)).getD 0).toNat)) N2 = ((i : Int),N2)) : ∀ i,i < N.length → ∃ (j : Nat) (P lo hi : Int),Na[j]? = some (P,lo,hi) ∧ 0 ≤ P ∧ ∃ k : Nat,P + k = n ∧ ∀ N2 : List Gd,N' <+: N2 → adM k P (fun y => φ (((goG Na (y * 2 ^ P.toNat) 8 (j : Int)).getD 0).toNat)) N2 = ((i : Int),N2) := fun i hi => by
 obtain ⟨j,P,lo,hi',hj,h0,k,hk,ha⟩ := h i hi
 exact ⟨j,P,lo,hi',hj,h0,k,hk,fun N2 hN => ha N2 (hp.trans hN)⟩
theorem q2g (i p : Nat) : 2 * i * 2 ^ p = i * 2 ^ (p + 1) := by rw [Nat.pow_succ]; ac_rfl
theorem q6h (i p : Nat) : (2 * i * 2 ^ p).testBit p = false := by
 rw [Nat.testBit_eq_decide_div_mod_eq,Nat.mul_div_cancel _ (Nat.two_pow_pos p)]
 simp
theorem q6i (i p : Nat) : ((2 * i + 1) * 2 ^ p).testBit p = true := by
 rw [Nat.testBit_eq_decide_div_mod_eq,Nat.mul_div_cancel _ (Nat.two_pow_pos p)]
 simp
theorem q4w (i p b : Nat) (h : p < b) : ((2 * i + 1) * 2 ^ p).testBit b = (i * 2 ^ (p + 1)).testBit b := by
 obtain ⟨d,rfl⟩ : ∃ d,b = p + 1 + d := ⟨b - (p + 1),by omega⟩
 have e1 : ((2 * i + 1) * 2 ^ p) / 2 ^ (p + 1 + d) = i / 2 ^ d := by
  rw [Nat.pow_add,← Nat.div_div_eq_div_mul,Nat.pow_succ,← Nat.div_div_eq_div_mul,Nat.mul_div_cancel _ (Nat.two_pow_pos p)]
  congr 1
  omega
 have e2 : (i * 2 ^ (p + 1)) / 2 ^ (p + 1 + d) = i / 2 ^ d := by
  rw [Nat.pow_add _ (p + 1) d,← Nat.div_div_eq_div_mul,Nat.mul_div_cancel _ (Nat.two_pow_pos _)]
 rw [Nat.testBit_eq_decide_div_mod_eq,Nat.testBit_eq_decide_div_mod_eq,e1,e2]
theorem q2w {n m ns : Nat} (hn : n ≤ 8) {Na : List Gd} (hN : ∀ (i : Nat) (P lo hi : Int),Na[i]? = some (P,lo,hi) → 0 ≤ P ∧ P < (n : Int) ∧ lo ≠ hi ∧ FitG ns Na i P lo ∧ FitG ns Na i P hi) (φ : Nat → Nat) :
  ∀ (k a : Nat) (p r : Int) (f : Nat → Nat) (N : List Gd),0 ≤ p → p + k = n → FitG ns Na a (p - 1) r → (∀ i,i < 2 ^ k → f i < m) → (∀ y,y < 2 ^ k → f y = φ (((goG Na (y * 2 ^ p.toNat) 8 r).getD 0).toNat)) → WfG n m N → FromA n Na φ N → FromA n Na φ (adM k p f N).2
 | 0,a,p,r,f,N,h0,hp,hr,hf,hfy,hw,hF => by simpa [adM] using hF
 | k + 1,a,p,r,f,N,h0,hp,hr,hf,hfy,hw,hF => by
  have e2 : 2 ^ (k + 1) = 2 * 2 ^ k := by rw [Nat.pow_succ]; omega
  have hpn : (p + 1).toNat = p.toNat + 1 := by omega
  have hA := ad_ok hn k (p + 1) (fun i => f (2 * i)) N (by omega) (by omega) (fun i hi => hf _ (by omega)) hw
  have hAll := ad_ok hn (k + 1) p f N h0 hp hf hw
  by_cases hj : ∃ j : Nat,r = (j : Int) ∧ ∃ lo hi,Na[j]? = some (p,lo,hi)
  ·obtain ⟨j,rfl,lo,hi,hj⟩ := hj
   obtain ⟨_,_,hne,hlo,hhi⟩ := hN j p lo hi hj
   have g1 : ∀ i,i < 2 ^ k → f (2 * i) = φ (((goG Na (i * 2 ^ (p + 1).toNat) 8 lo).getD 0).toNat) := fun i hi' => by
    obtain ⟨v,_,ev⟩ := q1r (by omega) hN (i * 2 ^ (p + 1).toNat) 7 j p lo hlo (by omega)
    obtain ⟨v',_,ev'⟩ := q1r (by omega) hN (i * 2 ^ (p + 1).toNat) 8 j p lo hlo (by omega)
    rw [hfy _ (by omega),hpn,← q2g,qB hj h0 (by omega),q6h]
    rw [hpn,← q2g] at ev ev'
    have e78 := q2d ev
    simp only [Bool.false_eq_true,if_false]
    rw [e78 8 (by omega),ev]
   have g2 : ∀ i,i < 2 ^ k → f (2 * i + 1) = φ (((goG Na (i * 2 ^ (p + 1).toNat) 8 hi).getD 0).toNat) := fun i hi' => by
    obtain ⟨v,_,ev⟩ := q1r (by omega) hN (i * 2 ^ (p + 1).toNat) 7 j p hi hhi (by omega)
    have el : goG Na ((2 * i + 1) * 2 ^ p.toNat) 7 hi = goG Na (i * 2 ^ (p + 1).toNat) 7 hi := by
     rw [hpn]
     exact q1U hN p (fun b hb => q4w i p.toNat b (by omega)) 7 j p hi (Int.le_refl _) hhi
    rw [hfy _ (by omega),qB hj h0 (by omega),q6i,if_pos rfl,el,q2d ev 8 (by omega),ev]
   have hFA := q2w (m := m) hn hN φ k j (p + 1) lo (fun i => f (2 * i)) N (by omega) (by omega) (by simpa using hlo) (fun i hi => hf _ (by omega)) g1 hw hF
   rcases e1 : adM k (p + 1) (fun i => f (2 * i)) N with ⟨a1,N1⟩
   rw [e1] at hA hFA
   have hB := ad_ok hn k (p + 1) (fun i => f (2 * i + 1)) N1 (by omega) (by omega) (fun i hi => hf _ (by omega)) hA.wf
   have hFB := q2w (m := m) hn hN φ k j (p + 1) hi (fun i => f (2 * i + 1)) N1 (by omega) (by omega) (by simpa using hhi) (fun i hi => hf _ (by omega)) g2 hA.wf hFA
   rcases e3 : adM k (p + 1) (fun i => f (2 * i + 1)) N1 with ⟨b1,N2⟩
   rw [e3] at hB hFB
   dsimp only at hFB
   rw [qr k p f N e1 e3] at hAll ⊢
   by_cases hab : a1 = b1
   ·rw [if_pos hab]; exact hFB
   ·rw [if_neg hab] at hAll ⊢
    dsimp only at hAll ⊢
    by_cases hm : (p,a1,b1) ∈ N2
    ·rw [if_pos hm]; exact hFB
    ·rw [if_neg hm] at hAll ⊢
     intro i hi'
     by_cases hil : i < N2.length
     ·exact FromA.mono (List.prefix_append _ _) hFB i hil
     ·have hie : i = N2.length := by simp at hi'; omega
      subst hie
      refine ⟨j,p,lo,hi,hj,h0,k + 1,hp,fun N3 hN3 => ?_⟩
      have := hAll.again N3 hN3
      rw [q1W hm] at this
      rw [← this]
      exact q1d _ _ _ _ _ fun y hy => (hfy y hy).symm
  ·have hr2 : FitG ns Na a p r := by
    rcases hr with hr | ⟨i,e,hi,nd,hnd,hq⟩
    ·exact .inl hr
    ·refine .inr ⟨i,e,hi,nd,hnd,?_⟩
     obtain ⟨P,lo,hi'⟩ := nd
     dsimp only at hq ⊢
     by_cases hP : P = p
     ·subst hP; exact absurd ⟨i,e,lo,hi',hnd⟩ hj
     ·omega
   have g1 : ∀ i,i < 2 ^ k → f (2 * i) = φ (((goG Na (i * 2 ^ (p + 1).toNat) 8 r).getD 0).toNat) := fun i hi' => by rw [hfy _ (by omega),hpn,← q2g]
   have g2 : ∀ i,i < 2 ^ k → f (2 * i + 1) = φ (((goG Na (i * 2 ^ (p + 1).toNat) 8 r).getD 0).toNat) := fun i hi' => by
    have el : goG Na ((2 * i + 1) * 2 ^ p.toNat) 8 r = goG Na (i * 2 ^ (p + 1).toNat) 8 r := by
     rw [hpn]
     exact q1U hN p (fun b hb => q4w i p.toNat b (by omega)) 8 a p r (Int.le_refl _) hr2
    rw [hfy _ (by omega),el]
   have hFA := q2w (m := m) hn hN φ k a (p + 1) r (fun i => f (2 * i)) N (by omega) (by omega) (by simpa using hr2) (fun i hi => hf _ (by omega)) g1 hw hF
   rcases e1 : adM k (p + 1) (fun i => f (2 * i)) N with ⟨a1,N1⟩
   rw [e1] at hA hFA
   have e3 : adM k (p + 1) (fun i => f (2 * i + 1)) N1 = (a1,N1) := by
    rw [← hA.again N1 List.prefix_rfl]
    exact q1d _ _ _ _ _ fun i hi => by rw [g1 i hi,g2 i hi]
   rw [qr k p f N e1 e3,if_pos rfl]
   exact hFA
def stoF (n : Nat) (st : List Int × List Gd) (l : List Nat) : List Int × List Gd := (st.1 ++ [(adM n 0 (fnL l) st.2).1],(adM n 0 (fnL l) st.2).2)
def stoM (n : Nat) (K : List (List Nat)) : List Int × List Gd := K.foldl (stoF n) ([],[])
theorem q1j (n : Nat) (K : List (List Nat)) {i : Nat} (h : i < K.length) : stoM n (K.take (i + 1)) = stoF n (stoM n (K.take i)) (K.getD i []) := by
 rw [stoM,List.take_add_one,List.getElem?_eq_getElem h,Option.toList_some,List.foldl_append,q8 h]; rfl
theorem q38 {n m : Nat} (hn : n ≤ 8) {K : List (List Nat)} (hK : ∀ l ∈ K,l.length = 2 ^ n ∧ ∀ v ∈ l,v < m) : ∀ i,i ≤ K.length → BkG n m (stoM n (K.take i)).2 (K.take i) (stoM n (K.take i)).1
 | 0,_ => by simpa [stoM] using BkG.nil n m
 | i + 1,hi => by
  have h := q38 hn hK i (by omega)
  have hl : i < K.length := by omega
  have hm : K.getD i [] ∈ K := by rw [q8 hl]; exact List.getElem_mem _
  rw [q1j n K hl,List.take_add_one,List.getElem?_eq_getElem hl,Option.toList_some,← q8 hl []]
  exact h.add hn (hK _ hm).1 (hK _ hm).2 rfl
theorem BkG.rows {n m : Nat} {N : List Gd} {K : List (List Nat)} {Rf : List Int} (h : BkG n m N K Rf) : rowsG N Rf (2 ^ n) = K := by
 apply List.ext_getElem (by simp [rowsG,h.len])
 intro i h1 h2
 have h3 : i < Rf.length := by rw [h.len]; exact h2
 obtain ⟨a1,_,a3,_⟩ := h.it i _ _ (List.getElem?_eq_getElem h2) (List.getElem?_eq_getElem h3)
 simp only [rowsG,List.getElem_map]
 apply List.ext_getElem (by rw [q1v,a1])
 intro x q1 q2
 rw [q1v] at q1
 simp only [rowG,List.getElem_map,List.getElem_range]
 rw [a3 N x List.prefix_rfl q1]
 simp [fnL,List.getD_eq_getElem?_getD,List.getElem?_eq_getElem q2]
theorem q1w {p : Int} {ns m : Nat} {Na : List Gd} {gs : List Int} (hM : MayG p ns Na gs) {K : List (List Nat)} (hK : ∀ l ∈ K,l.length = 2 ^ p.toNat ∧ ∀ v ∈ l,v < m) (φ : Nat → Nat)
  (hf : ∀ l ∈ K,∃ s,s < ns ∧ ∀ y,y < 2 ^ p.toNat → fnL l y = φ (trP (rowsG Na gs (2 ^ p.toNat)) s y)) : ∀ i,i ≤ K.length → FromA p.toNat Na φ (stoM p.toNat (K.take i)).2
 | 0,_ => by simpa [stoM] using FromA.nil _ _ _
 | i + 1,hi => by
  have h := q1w hM hK φ hf i (by omega)
  have hl : i < K.length := by omega
  have hm : K.getD i [] ∈ K := by rw [q8 hl]; exact List.getElem_mem _
  have h0 := hM.p0
  have h8 := hM.p8
  have hB := q38 (by omega) hK i (by omega)
  obtain ⟨s,hs,hy⟩ := hf _ hm
  have hk := hK _ hm
  have hlen := hM.len
  have hg : gs.getD s 0 ∈ gs := by
   rw [q8 (by omega)]
   exact List.getElem_mem _
  rw [q1j _ K hl]
  have hNode : ∀ (i : Nat) (P lo hi : Int),Na[i]? = some (P,lo,hi) → 0 ≤ P ∧ P < (p.toNat : Int) ∧ lo ≠ hi ∧ FitG ns Na i P lo ∧ FitG ns Na i P hi := fun i P lo hi e => by
   obtain ⟨a1,a2,a3⟩ := hM.node i P lo hi e
   exact ⟨a1,by omega,a3⟩
  refine q2w (m := m) (by omega) hNode φ p.toNat Na.length 0 (gs.getD s 0) (fnL (K.getD i [])) _ (by omega) (by omega) (by simpa using hM.gd _ hg) (fun x hx => q2y hk.2 (by omega)) (fun y hyl => ?_) hB.wf h
  rw [hy y hyl]
  have := hM.tr (K := 2 ^ p.toNat) hs hyl
  simp only [Int.toNat_zero,Nat.pow_zero,Nat.mul_one,this,Option.getD_some,Int.toNat_natCast]
def MinA (p : Int) (nA : Nat) (bs : List Bool) (N : List Gd) (gs : List Int) (bs' : List Bool) (gs' : List Int) (N' : List Gd) : Prop :=
 ∃ k c F,manyP (rowsG N gs (2 ^ p.toNat)) bs nA k = manyP (rowsG N gs (2 ^ p.toNat)) bs nA (k + 1) ∧ c = (fun s => (clsP (rowsG N gs (2 ^ p.toNat)) bs nA k).getD s 0) ∧ F = ddP c (rchP (rowsG N gs (2 ^ p.toNat)) nA 0 [0]) ∧ bs' = accC F bs ∧ stoM p.toNat (rowC c F (rowsG N gs (2 ^ p.toNat))) = (gs',N')
theorem q4H {p : Int} {nA k : Nat} {bs : List Bool} {N : List Gd} {gs : List Int} {c : Nat → Nat} {F : List Nat} (hM : MayG p nA N gs) (hk : manyP (rowsG N gs (2 ^ p.toNat)) bs nA k = manyP (rowsG N gs (2 ^ p.toNat)) bs nA (k + 1)) (hc : c = (fun s => (clsP (rowsG N gs (2 ^ p.toNat)) bs nA k).getD s 0)) (hF : F = ddP c (rchP (rowsG N gs (2 ^ p.toNat)) nA 0 [0])) :
  MinP nA (2 ^ p.toNat) (rowsG N gs (2 ^ p.toNat)) bs c (rchP (rowsG N gs (2 ^ p.toNat)) nA 0 [0]) F := by
 subst hc
 exact ⟨hM.rows _,q6j (hM.rows _) hk,q34 (hM.rows _) hM.s1,hF⟩
theorem MinP.lists {n K : Nat} {R : List (List Nat)} {bs : List Bool} {c : Nat → Nat} {Q F : List Nat} (h : MinP n K R bs c Q F) : ∀ l ∈ rowC c F R,l.length = K ∧ ∀ v ∈ l,v < F.length := fun l hl => by
 have hR := h.rows
 obtain ⟨i,hi,rfl⟩ := List.getElem_of_mem hl
 have hi2 : i < F.length := by rw [← hR.len]; exact hi
 rw [← q8 hi []]
 refine ⟨hR.row i hi2,fun v hv => ?_⟩
 obtain ⟨x,hx,rfl⟩ := (q1a hR hi2).1 hv
 exact hR.lt _ _ hi2 hx
theorem MinP.from {n K : Nat} {R : List (List Nat)} {bs : List Bool} {c : Nat → Nat} {Q F : List Nat} (h : MinP n K R bs c Q F) : ∀ l ∈ rowC c F R,∃ s,s < n ∧ ∀ y,y < K → fnL l y = nmP c F (trP R s y) := fun l hl => by
 have hR := h.rows
 obtain ⟨i,hi,rfl⟩ := List.getElem_of_mem hl
 have hi2 : i < F.length := by rw [← hR.len]; exact hi
 rw [← q8 hi []]
 exact ⟨_,h.ltn hi2,fun y hy => h.tr hi2 hy⟩
structure MinK (p : Int) (nA : Nat) (bs : List Bool) (N : List Gd) (gs : List Int) (bs' : List Bool) (gs' : List Int) (N' : List Gd) : Prop where
 may : MayG p bs'.length N' gs'
 one : OneP bs'.length (2 ^ p.toNat) (rowsG N' gs' (2 ^ p.toNat)) bs'
 few : bs'.length ≤ nA
 nodes : N'.length ≤ N.length
 same : ∀ t : List Nat,(∀ l ∈ t,l < 2 ^ p.toNat) → bs'.getD (runP (rowsG N' gs' (2 ^ p.toNat)) 0 t) false = bs.getD (runP (rowsG N gs (2 ^ p.toNat)) 0 t) false
 sto : stoM p.toNat (rowsG N' gs' (2 ^ p.toNat)) = (gs',N')
theorem MinA.all {p : Int} {nA : Nat} {bs : List Bool} {N : List Gd} {gs : List Int} {bs' : List Bool} {gs' : List Int} {N' : List Gd} (h : MinA p nA bs N gs bs' gs' N') (hM : MayG p nA N gs) : MinK p nA bs N gs bs' gs' N' := by
 obtain ⟨k,c,F,hk,hc,hF,rfl,hs⟩ := h
 have hP := q4H hM hk hc hF
 have h0 := hM.p0
 have h8 := hM.p8
 have hl := hP.lists
 have hB := q38 (n := p.toNat) (by omega) hl _ (Nat.le_refl _)
 have hA := q1w hM hl _ hP.from _ (Nat.le_refl _)
 rw [List.take_length,hs] at hB hA
 have hlen := hA.len
 have hr := hB.rows
 dsimp only at hr hlen
 have hFl := hP.len
 have hF0 := hP.pos
 have hal : (accC F bs).length = F.length := by simp [accC]
 have hRl : gs'.length = F.length := by have := hB.len; rw [hP.rows.len] at this; exact this
 have hfew := hM.few
 have h256 := hM.s2
 have hmay := BkG.may hB (by omega) (ns := F.length) (by omega) (by omega) (Nat.le_refl _) hRl (fun g hg => .inr hg) (by dsimp only; omega)
 rw [show ((p.toNat : Nat) : Int) = p by omega] at hmay
 refine ⟨by rw [hal]; exact hmay,by rw [hr,hal]; exact hP.one rfl hM.s1,by omega,hlen,fun t ht => ?_,by rw [hr,hs]⟩
 rw [hr]
 exact hP.same ht
theorem q5R {p : Int} {nA nB : Nat} {bs cs : List Bool} {N M : List Gd} {gs hs : List Int} {bs' cs' : List Bool} {gs' hs' : List Int} {N' M' : List Gd} (h : MinA p nA bs N gs bs' gs' N') (hM : MayG p nA N gs) (h' : MinA p nB cs M hs cs' hs' M') (hM' : MayG p nB M hs) :
  (bs' = cs' ∧ gs' = hs' ∧ N' = M') ↔ AcrP (2 ^ p.toNat) (rowsG N gs (2 ^ p.toNat)) bs (rowsG M hs (2 ^ p.toNat)) cs 0 0 := by
 have k1 := h.all hM
 have k2 := h'.all hM'
 constructor
 ·rintro ⟨rfl,rfl,rfl⟩ u hu
  rw [← k1.same u hu,← k2.same u hu]
 ·intro hX
  obtain ⟨e1,e2⟩ := q6u k1.one k2.one fun u hu => by rw [k1.same u hu,k2.same u hu]; exact hX u hu
  have e3 := k1.sto
  rw [e1,k2.sto] at e3
  injection e3 with e3 e4
  exact ⟨e2,e3.symm,e4.symm⟩
def ptN : List Gd := [(0,-1,-2),(0,-1,-3)]
def ptG : List Int := [0,1,0]
def ptB : List Bool := [false,true,true]
def ptR : List (List Nat) := [[0,1],[0,2],[0,1]]
theorem q36 : rowsG ptN ptG (2 ^ (1 : Int).toNat) = ptR := by decide +kernel
theorem q6T : MayG 1 3 ptN ptG := by
 refine ⟨by decide,by decide,by decide,by decide,rfl,by decide,fun i P lo hi e => ?_,by decide,fun g hg => ?_⟩
 ·match i with
  | 0 =>
   simp [ptN] at e
   obtain ⟨rfl,rfl,rfl⟩ := e
   exact ⟨by decide,by decide,by decide,.inl ⟨by decide,by decide⟩,.inl ⟨by decide,by decide⟩⟩
  | 1 =>
   simp [ptN] at e
   obtain ⟨rfl,rfl,rfl⟩ := e
   exact ⟨by decide,by decide,by decide,.inl ⟨by decide,by decide⟩,.inl ⟨by decide,by decide⟩⟩
  | i + 2 => simp [ptN] at e
 ·simp [ptG] at hg
  have hg : g = 0 ∨ g = 1 := by omega
  rcases hg with rfl | rfl
  ·exact .inr ⟨0,rfl,by decide,_,rfl,by decide⟩
  ·exact .inr ⟨1,rfl,by decide,_,rfl,by decide⟩
theorem pt_c0 : ofP (kindP ptB) 3 = [0,1,1] := by decide +kernel
theorem pt_c1 : ofP (sigP ptR [0,1,1]) 3 = [0,1,1] := by decide +kernel
theorem q5t : ∀ k,clsP ptR ptB 3 k = [0,1,1]
 | 0 => pt_c0
 | k + 1 => by rw [clsP,q5t k]; exact pt_c1
theorem q6U : rchP ptR 3 0 [0] = [0,1,2] := by decide +kernel
def cnB : List Bool := [false,true]
def cnG : List Int := [0,0]
def cnN : List Gd := [(0,-1,-2)]
theorem cn_dd : ddP (fun s => ([0,1,1] : List Nat).getD s 0) [0,1,2] = [0,1] := by decide +kernel
theorem q6K : stoM 1 (rowC (fun s => ([0,1,1] : List Nat).getD s 0) [0,1] ptR) = (cnG,cnN) := by decide +kernel
theorem q6J {bs' : List Bool} {gs' : List Int} {N' : List Gd} (h : MinA 1 3 ptB ptN ptG bs' gs' N') : bs' = cnB ∧ gs' = cnG ∧ N' = cnN := by
 obtain ⟨k,c,F,_,hc,hF,hb,hs⟩ := h
 rw [q36,q5t] at hc
 subst hc
 rw [q36,q6U,cn_dd] at hF
 subst hF
 rw [q36,show (1 : Int).toNat = 1 from rfl,q6K] at hs
 injection hs with h1 h2
 exact ⟨hb,h1.symm,h2.symm⟩
structure BisP (n n' K : Nat) (R : List (List Nat)) (bs : List Bool) (R' : List (List Nat)) (bs' : List Bool) (i k : Nat) (T : List (Nat × Nat)) : Prop where
 head : T[0]? = some (0,0)
 nd : T.Nodup
 lt : ∀ x ∈ T,x.1 < n ∧ x.2 < n'
 way : ∀ x ∈ T,∃ u : List Nat,(∀ l ∈ u,l < K) ∧ x.1 = runP R 0 u ∧ x.2 = runP R' 0 u
 done : ∀ (j : Nat) (x : Nat × Nat),j < i → T[j]? = some x → bs.getD x.1 false = bs'.getD x.2 false ∧ ∀ l,l < K → (trP R x.1 l,trP R' x.2 l) ∈ T
 part : ∀ x,T[i]? = some x → ∀ l,l < k → (trP R x.1 l,trP R' x.2 l) ∈ T
variable {n n' K : Nat} {R : List (List Nat)} {bs : List Bool} {R' : List (List Nat)} {bs' : List Bool} {i k : Nat} {T : List (Nat × Nat)}
def prN (n' : Nat) (x : Nat × Nat) : Nat := x.1 * n' + x.2
theorem q4L {n' : Nat} {x y : Nat × Nat} (hx : x.2 < n') (hy : y.2 < n') (e : prN n' x = prN n' y) : x = y := by
 unfold prN at e
 have e1 : x.1 = y.1 := by
  have a1 : (x.1 * n' + x.2) / n' = x.1 := by rw [Nat.mul_comm,Nat.mul_add_div (by omega),Nat.div_eq_of_lt hx]; rfl
  have a2 : (y.1 * n' + y.2) / n' = y.1 := by rw [Nat.mul_comm,Nat.mul_add_div (by omega),Nat.div_eq_of_lt hy]; rfl
  rw [← a1,← a2,e]
 rw [e1] at e
 exact Prod.ext e1 (by omega)
theorem q5s {n n' : Nat} {x : Nat × Nat} (h1 : x.1 < n) (h2 : x.2 < n') : prN n' x < n * n' := by
 unfold prN
 have := Nat.mul_le_mul_right n' (show x.1 + 1 ≤ n by omega)
 rw [Nat.add_mul] at this
 omega
theorem q6w {n' : Nat} {x : Nat × Nat} {T : List (Nat × Nat)} (hx : x.2 < n') (hT : ∀ y ∈ T,y.2 < n') : prN n' x ∈ T.map (prN n') ↔ x ∈ T := by
 constructor
 ·intro h
  obtain ⟨y,hy,e⟩ := List.mem_map.1 h
  rw [← q4L (hT y hy) hx e]; exact hy
 ·exact fun h => List.mem_map_of_mem h
theorem BisP.len (h : BisP n n' K R bs R' bs' i k T) : T.length ≤ n * n' := by
 have h1 : (T.map (prN n')).Nodup := by
  rw [List.Nodup,List.pairwise_map]
  refine (List.Pairwise.and_mem.1 h.nd).imp fun {a b} hab e => ?_
  exact hab.2.2 (q4L (h.lt a hab.1).2 (h.lt b hab.2.1).2 e)
 have := qF h1 (n := n * n') (fun z hz => by obtain ⟨x,hx,rfl⟩ := List.mem_map.1 hz; exact q5s (h.lt x hx).1 (h.lt x hx).2)
 simpa using this
theorem q53 (hp : 0 < n) (hq : 0 < n') : BisP n n' K R bs R' bs' 0 0 [(0,0)] :=
 ⟨rfl,by simp,fun x hx => by simp at hx; subst hx; exact ⟨hp,hq⟩,fun x hx => by simp at hx; subst hx; exact ⟨[],by simp,rfl,rfl⟩,fun j x hj => by omega,fun x _ l hl => by omega⟩
theorem BisP.skip (h : BisP n n' K R bs R' bs' i k T) {x : Nat × Nat} (hx : T[i]? = some x) (hm : (trP R x.1 k,trP R' x.2 k) ∈ T) : BisP n n' K R bs R' bs' i (k + 1) T :=
 ⟨h.head,h.nd,h.lt,h.way,h.done,fun y hy l hl => by
  by_cases e : l = k
  ·rw [hx] at hy; injection hy with hy; subst hy; rw [e]; exact hm
  ·exact h.part y hy l (by omega)⟩
theorem BisP.push (hR : RowsP n K R) (hR' : RowsP n' K R') (h : BisP n n' K R bs R' bs' i k T) {x : Nat × Nat} (hx : T[i]? = some x) (hk : k < K) (hm : (trP R x.1 k,trP R' x.2 k) ∉ T) : BisP n n' K R bs R' bs' i (k + 1) (T ++ [(trP R x.1 k,trP R' x.2 k)]) := by
 have hi : i < T.length := (List.getElem?_eq_some_iff.1 hx).1
 have hxT : x ∈ T := List.mem_of_getElem? hx
 have old : ∀ {j : Nat} {y : Nat × Nat},j < T.length → (T ++ [(trP R x.1 k,trP R' x.2 k)])[j]? = some y → T[j]? = some y := fun hj hy => by rwa [List.getElem?_append_left hj] at hy
 refine ⟨by rw [List.getElem?_append_left (by omega)]; exact h.head,?_,fun y hy => ?_,fun y hy => ?_,fun j y hj hy => ?_,fun y hy l hl => ?_⟩
 ·rw [List.nodup_append]
  exact ⟨h.nd,by simp,fun a ha b hb => by simp only [List.mem_singleton] at hb; subst hb; exact fun e => hm (e ▸ ha)⟩
 ·rcases List.mem_append.1 hy with hy | hy
  ·exact h.lt y hy
  ·simp only [List.mem_singleton] at hy; subst hy
   exact ⟨hR.lt _ _ (h.lt x hxT).1 hk,hR'.lt _ _ (h.lt x hxT).2 hk⟩
 ·rcases List.mem_append.1 hy with hy | hy
  ·exact h.way y hy
  ·simp only [List.mem_singleton] at hy; subst hy
   obtain ⟨u,hu,e1,e2⟩ := h.way x hxT
   refine ⟨u ++ [k],fun l hl => ?_,by rw [q3t,← e1],by rw [q3t,← e2]⟩
   rcases List.mem_append.1 hl with hl | hl
   ·exact hu l hl
   ·simp only [List.mem_singleton] at hl; omega
 ·obtain ⟨h1,h2⟩ := h.done j y hj (old (by omega) hy)
  exact ⟨h1,fun l hl => List.mem_append_left _ (h2 l hl)⟩
 ·have hy' := old hi hy
  by_cases e : l = k
  ·subst e
   rw [hx] at hy'; injection hy' with hy'; subst hy'
   simp
  ·exact List.mem_append_left _ (h.part y hy' l (by omega))
theorem BisP.next (h : BisP n n' K R bs R' bs' i K T) {x : Nat × Nat} (hx : T[i]? = some x) (ha : bs.getD x.1 false = bs'.getD x.2 false) : BisP n n' K R bs R' bs' (i + 1) 0 T :=
 ⟨h.head,h.nd,h.lt,h.way,fun j y hj hy => by
  by_cases e : j = i
  ·subst e; rw [hx] at hy; injection hy with hy; subst hy; exact ⟨ha,h.part x hx⟩
  ·exact h.done j y (by omega) hy,fun x _ l hl => by omega⟩
theorem BisP.same (h : BisP n n' K R bs R' bs' i 0 T) (hi : T.length ≤ i) : AcrP K R bs R' bs' 0 0 := by
 have key : ∀ (u : List Nat) (a b : Nat),(a,b) ∈ T → (∀ l ∈ u,l < K) → bs.getD (runP R a u) false = bs'.getD (runP R' b u) false := by
  intro u
  induction u with
  | nil =>
   intro a b hab _
   obtain ⟨j,hj⟩ := List.mem_iff_getElem?.1 hab
   have := (List.getElem?_eq_some_iff.1 hj).1
   exact (h.done j _ (by omega) hj).1
  | cons l u ih =>
   intro a b hab hu
   obtain ⟨j,hj⟩ := List.mem_iff_getElem?.1 hab
   have := (List.getElem?_eq_some_iff.1 hj).1
   exact ih _ _ ((h.done j _ (by omega) hj).2 l (hu l (by simp))) (fun y hy => hu y (by simp [hy]))
 exact fun u hu => key u 0 0 (List.mem_of_getElem? h.head) hu
theorem BisP.unlike (h : BisP n n' K R bs R' bs' i k T) {x : Nat × Nat} (hx : x ∈ T) (hne : bs.getD x.1 false ≠ bs'.getD x.2 false) : ¬ AcrP K R bs R' bs' 0 0 := fun hA => by
 obtain ⟨u,hu,e1,e2⟩ := h.way x hx
 exact hne (by rw [e1,e2]; exact hA u hu)
end Go.Proofs.Ytehddcdgpamaaaa
