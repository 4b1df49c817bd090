/- Texts of the proof, put together: what it uses. -/
import Derived.Test.YtcnkgokfjafgkaaZ00
set_option maxRecDepth 100000
set_option maxHeartbeats 16000000
namespace Go.Proofs.Ytcnkgokfjafgkaa
theorem q7K {Q : List Nat} {k : Nat} (h : Q <+: List.range k) : Q = List.range Q.length := by
 have h1 := List.prefix_iff_eq_take.1 h
 have h2 := h.length_le
 rw [List.length_range] at h2
 rw [List.take_range,Nat.min_eq_left h2] at h1
 exact h1
theorem q1z {k i : Nat} (h : i < k) : (List.range k).getD i 0 = i := by
 rw [List.getD_eq_getElem?_getD,List.getElem?_eq_getElem (by simpa using h)]; simp
variable {n K : Nat} {R : List (List Nat)} {bs : List Bool} {c : Nat → Nat}
theorem q4S (Fe : List Nat) (hn : (Fe.map c).Nodup) : ∀ (row F : List Nat),row.foldl (putF c) F <+: Fe → (row.map (nmP c Fe)).foldl putR (List.range F.length) = List.range (row.foldl (putF c) F).length
 | [],F,_ => rfl
 | q :: row,F,h => by
  rw [List.map_cons,List.foldl_cons,List.foldl_cons]
  have h1 : putF c F q <+: Fe := (q1B c row _).trans h
  have e : putR (List.range F.length) (nmP c Fe q) = List.range (putF c F q).length := by
   unfold putF at h1 ⊢
   split at h1
   ·rename_i hm
    have := q33 hm
    rw [if_pos hm,putR,q77 h1 hm,if_pos (by simpa using this)]
   ·rename_i hm
    have hp : F ++ [q] <+: Fe := h1
    have hl : F.length < Fe.length := by have := hp.length_le; simp at this; omega
    have e1 : Fe.getD F.length 0 = q := by
     obtain ⟨t,rfl⟩ := hp
     simp [List.getD_eq_getElem?_getD]
    have : nmP c Fe q = F.length := q64 hn hl (by rw [e1])
    rw [if_neg hm,putR,this,if_neg (by simp),List.length_append,List.length_cons,List.length_nil,List.range_succ]
  rw [e]
  exact q4S Fe hn row _ h
theorem q4T : ∀ (row F : List Nat),(∀ q ∈ row,c q ∈ F.map c) → row.foldl (putF c) F = F
 | [],_,_ => rfl
 | q :: row,F,h => by
  rw [List.foldl_cons,putF,if_pos (h q (by simp))]
  exact q4T row F (fun x hx => h x (by simp [hx]))
theorem q6P (Q : List Nat) : ∀ (row : List Nat),ddP c (row.foldl putR Q) = row.foldl (putF c) (ddP c Q) := by
 intro row
 induction row generalizing Q with
 | nil => rfl
 | cons s row ih =>
  rw [List.foldl_cons,List.foldl_cons,ih (putR Q s)]
  congr 1
  unfold putR
  split
  ·rename_i h
   rw [putF,if_pos (by rw [q2l]; exact List.mem_map_of_mem h)]
  ·rw [q2k]; rfl
theorem qB {Q : List Nat} {i : Nat} (h : i < Q.length) : Q.take (i + 1) = Q.take i ++ [Q.getD i 0] := by
 rw [List.take_add_one,List.getElem?_eq_getElem h,List.getD_eq_getElem?_getD,List.getElem?_eq_getElem h]; rfl
theorem q9x (hR : RowsP n K R) (hC : ClsC n K R bs c) (Fe : List Nat) : ∀ (f i : Nat) (Q : List Nat),WayP n K R i Q → n ≤ f + i → Fe = ddP c (rchP R f i Q) → i ≤ Q.length → ∀ g,Fe.length ≤ g + (ddP c (Q.take i)).length → rchP (rowC c Fe R) g (ddP c (Q.take i)).length (List.range (ddP c Q).length) = List.range Fe.length := by
 intro f
 induction f with
 | zero =>
  intro i Q hW hf hFe hi g hg
  have := hW.len
  have hil : i = Q.length := by omega
  subst hil
  rw [rchP] at hFe
  rw [List.take_length,← hFe,q1b _ _ (by simp)]
 | succ f ih =>
  intro i Q hW hf hFe hi g hg
  by_cases hil : i < Q.length
  ·have hqn := hW.lt _ (q1e hil)
   rw [qY R f hil] at hFe
   have hW' := hW.next hR hil
   have hpre := qV (R.getD (Q.getD i 0) []) Q
   have hi' : i + 1 ≤ ((R.getD (Q.getD i 0) []).foldl putR Q).length := by have := hpre.length_le; omega
   have ih' := ih (i + 1) _ hW' (by omega) hFe hi'
   have htk : ((R.getD (Q.getD i 0) []).foldl putR Q).take (i + 1) = Q.take (i + 1) := by
    obtain ⟨t,e⟩ := hpre
    rw [← e,List.take_append_of_le_length (by omega)]
   rw [htk,q6P] at ih'
   have hFpre : (R.getD (Q.getD i 0) []).foldl (putF c) (ddP c Q) <+: Fe := by
    rw [hFe,← q6P]; exact q6O (q1Y R f _ _)
   have hFn : (Fe.map c).Nodup := by rw [hFe]; exact q2a c _
   have etk : ddP c (Q.take (i + 1)) = putF c (ddP c (Q.take i)) (Q.getD i 0) := by rw [qB hil,q2k]; rfl
   rw [etk] at ih'
   by_cases hm : c (Q.getD i 0) ∈ (ddP c (Q.take i)).map c
   ·rw [putF,if_pos hm] at ih'
    have hold : (R.getD (Q.getD i 0) []).foldl (putF c) (ddP c Q) = ddP c Q := by
     refine q4T _ _ fun x hx => ?_
     obtain ⟨l,hl,rfl⟩ := (q20 hR hqn).1 hx
     rw [q2l] at hm
     obtain ⟨s,hs,es⟩ := List.mem_map.1 hm
     obtain ⟨j,hj,rfl⟩ := q4w hs
     have hjl : j < i := by rw [List.length_take] at hj; omega
     have ej := (q4W (List.take_prefix i Q) hj).symm
     rw [ej] at es
     have hjq := hW.cl j hjl (by omega) l hl
     rw [q2l,← hC.go _ _ (hW.lt _ (q1e (by omega))) hqn es l hl]
     exact List.mem_map_of_mem hjq
    rw [hold] at ih'
    exact ih' g hg
   ·rw [putF,if_neg hm] at ih'
    rw [List.length_append,List.length_cons,List.length_nil] at ih'
    have hpq : ddP c (Q.take i) ++ [Q.getD i 0] <+: ddP c Q := by
     have := q6O (c := c) (List.take_prefix (i + 1) Q)
     rwa [etk,putF,if_neg hm] at this
    have hjl : (ddP c (Q.take i)).length < (ddP c Q).length := by have := hpq.length_le; simp at this; omega
    have hQF := (q1B c _ _).trans hFpre
    have hlF := hQF.length_le
    have ej : Fe.getD (ddP c (Q.take i)).length 0 = Q.getD i 0 := by
     obtain ⟨t,rfl⟩ := hpq.trans hQF
     simp [List.getD_eq_getElem?_getD]
    obtain ⟨g,rfl⟩ : ∃ g',g = g' + 1 := ⟨g - 1,by omega⟩
    rw [qY _ _ (by simpa using hjl),q1z hjl,q2r (by omega),ej,q4S Fe hFn _ _ hFpre]
    exact ih' g (by omega)
  ·have hil : i = Q.length := by omega
   subst hil
   rw [q1b R _ (Nat.le_refl _)] at hFe
   rw [List.take_length,← hFe,q1b _ _ (by simp)]
theorem MinP.reached {Q F : List Nat} (h : MinP n K R bs c Q F) (hQ : Q = rchP R n 0 [0]) (h1 : 1 ≤ n) : rchP (rowC c F R) F.length 0 [0] = List.range F.length := by
 have := q9x h.hR h.hC F n 0 [0] (q47 h1) (by omega) (by rw [h.hF,hQ]) (by omega) F.length (by simp [ddP])
 simpa [ddP,putF] using this
def AcrP (K : Nat) (R : List (List Nat)) (bs : List Bool) (R' : List (List Nat)) (bs' : List Bool) (s t : Nat) : Prop := ∀ u : List Nat,(∀ l ∈ u,l < K) → bs.getD (runP R s u) false = bs'.getD (runP R' t u) false
theorem AcrP.go {R' : List (List Nat)} {bs' : List Bool} {s t l : Nat} (h : AcrP K R bs R' bs' s t) (hl : l < K) : AcrP K R bs R' bs' (trP R s l) (trP R' t l) := fun u hu => by
 have := h (l :: u) (fun x hx => by
  rcases List.mem_cons.1 hx with rfl | hx
  ·exact hl
  ·exact hu x hx)
 exact this
structure OneP (k K : Nat) (R : List (List Nat)) (bs : List Bool) : Prop where
 rows : RowsP k K R
 len : bs.length = k
 un : ∀ i j,i < k → j < k → AlikeP K R bs i j → i = j
 pos : 0 < k
 rch : rchP R k 0 [0] = List.range k
theorem q9n {k k' : Nat} {R' : List (List Nat)} {bs' : List Bool} (h : OneP k K R bs) (h' : OneP k' K R' bs') {i m : Nat} (hX : ∀ s,s < m → AcrP K R bs R' bs' s s) (hi : i < m) (hmk : m ≤ k) (hmk' : m ≤ k')
  (hp : (R.getD i []).foldl putR (List.range m) <+: List.range k) (hp' : (R'.getD i []).foldl putR (List.range m) <+: List.range k') :
  ∀ l,l ≤ K → ∃ m',m ≤ m' ∧ m' ≤ k ∧ m' ≤ k' ∧ ((R.getD i []).take l).foldl putR (List.range m) = List.range m' ∧ ((R'.getD i []).take l).foldl putR (List.range m) = List.range m' ∧ (∀ s,s < m' → AcrP K R bs R' bs' s s) ∧ (∀ j,j < l → trP R i j = trP R' i j) := by
 have hik : i < k := by omega
 have hik' : i < k' := by omega
 have hr := h.rows.row i hik
 have hr' := h'.rows.row i hik'
 intro l
 induction l with
 | zero => exact fun _ => ⟨m,Nat.le_refl _,hmk,hmk',by simp,by simp,hX,fun j hj => by omega⟩
 | succ l ih =>
  intro hl
  obtain ⟨m',h1,h2,h3,h4,h5,h6,h7⟩ := ih (by omega)
  have e1 := q1D (R.getD i []) (List.range m) (k := l) (by omega)
  have e2 := q1D (R'.getD i []) (List.range m) (k := l) (by omega)
  rw [h4] at e1
  rw [h5] at e2
  have p1 : putR (List.range m') (trP R i l) <+: List.range k := by
   rw [show trP R i l = (R.getD i []).getD l 0 from rfl,← e1]
   refine List.IsPrefix.trans ?_ hp
   conv => rhs; rw [← List.take_append_drop (l + 1) (R.getD i []),List.foldl_append]
   exact qV _ _
  have p2 : putR (List.range m') (trP R' i l) <+: List.range k' := by
   rw [show trP R' i l = (R'.getD i []).getD l 0 from rfl,← e2]
   refine List.IsPrefix.trans ?_ hp'
   conv => rhs; rw [← List.take_append_drop (l + 1) (R'.getD i []),List.foldl_append]
   exact qV _ _
  have key : ∀ {x y : Nat},putR (List.range m') x <+: List.range y → x < m' ∨ (x = m' ∧ m' < y) := fun {x y} hp => by
   by_cases hx : x < m'
   ·exact .inl hx
   ·rw [putR,if_neg (by simpa using hx)] at hp
    have q1 := q7K hp
    have q2 := hp.length_le
    simp [List.range_succ] at q1 q2
    exact .inr ⟨q1,by omega⟩
  have hX1 : AcrP K R bs R' bs' (trP R i l) (trP R' i l) := (hX i hi).go (by omega)
  have l1 := h.rows.lt i l hik (by omega)
  have l2 := h'.rows.lt i l hik' (by omega)
  have et : trP R i l = trP R' i l := by
   rcases key p1 with a | ⟨a,a'⟩
   ·refine h'.un _ _ (by omega) l2 fun u hu => ?_
    exact (h6 _ a u hu).symm.trans (hX1 u hu)
   ·rcases key p2 with b | ⟨b,b'⟩
    ·refine h.un _ _ l1 (by omega) fun u hu => ?_
     exact (hX1 u hu).trans (h6 _ b u hu).symm
    ·omega
  rw [show (R.getD i []).getD l 0 = trP R i l from rfl] at e1
  rw [show (R'.getD i []).getD l 0 = trP R' i l from rfl] at e2
  have h7' : ∀ j,j < l + 1 → trP R i j = trP R' i j := fun j hj => by
   by_cases ej : j = l
   ·subst ej; exact et
   ·exact h7 j (by omega)
  rcases key p1 with a | ⟨a,a'⟩
  ·refine ⟨m',h1,h2,h3,?_,?_,h6,h7'⟩
   ·rw [e1,putR,if_pos (by simpa using a)]
   ·rw [e2,putR,if_pos (by rw [← et]; simpa using a)]
  ·have b' : m' < k' := by
    rcases key p2 with b | ⟨b,b'⟩
    ·omega
    ·exact b'
   refine ⟨m' + 1,by omega,by omega,by omega,?_,?_,fun s hs => ?_,h7'⟩
   ·rw [e1,putR,a,if_neg (by simp),List.range_succ]
   ·rw [e2,← et,putR,a,if_neg (by simp),List.range_succ]
   ·by_cases es : s = m'
    ·have hX2 := hX1
     rw [← et,a] at hX2
     subst es
     exact hX2
    ·exact h6 s (by omega)
theorem q9m {k k' : Nat} {R' : List (List Nat)} {bs' : List Bool} (h : OneP k K R bs) (h' : OneP k' K R' bs') : ∀ (f f' i m : Nat),k ≤ f + i → k' ≤ f' + i → i ≤ m → m ≤ k → m ≤ k' → rchP R f i (List.range m) = List.range k → rchP R' f' i (List.range m) = List.range k' → (∀ s,s < m → AcrP K R bs R' bs' s s) → (∀ s,s < i → ∀ l,l < K → trP R s l = trP R' s l) →
  k = k' ∧ (∀ s,s < k → AcrP K R bs R' bs' s s) ∧ ∀ s,s < k → ∀ l,l < K → trP R s l = trP R' s l := by
 intro f
 induction f with
 | zero =>
  intro f' i m hf hf' him hmk hmk' e1 e2 hX ht
  have e3 : m = k := by omega
  subst e3
  have : i = m := by omega
  subst this
  rw [q1b _ _ (by simp)] at e2
  have := congrArg List.length e2
  simp at this
  exact ⟨this,hX,ht⟩
 | succ f ih =>
  intro f' i m hf hf' him hmk hmk' e1 e2 hX ht
  by_cases hi : i < m
  ·rw [qY _ _ (by simpa using hi),q1z hi] at e1
   obtain ⟨f',rfl⟩ : ∃ g,f' = g + 1 := ⟨f' - 1,by omega⟩
   rw [qY _ _ (by simpa using hi),q1z hi] at e2
   have p1 := q1Y R f (i + 1) ((R.getD i []).foldl putR (List.range m))
   rw [e1] at p1
   have p2 := q1Y R' f' (i + 1) ((R'.getD i []).foldl putR (List.range m))
   rw [e2] at p2
   obtain ⟨m',h1,h2,h3,h4,h5,h6,h7⟩ := q9n h h' hX hi hmk hmk' p1 p2 K (Nat.le_refl _)
   rw [List.take_of_length_le (by rw [h.rows.row i (by omega)]; exact Nat.le_refl _)] at h4
   rw [List.take_of_length_le (by rw [h'.rows.row i (by omega)]; exact Nat.le_refl _)] at h5
   rw [h4] at e1
   rw [h5] at e2
   refine ih f' (i + 1) m' (by omega) (by omega) (by omega) h2 h3 e1 e2 h6 fun s hs l hl => ?_
   by_cases es : s = i
   ·subst es; exact h7 l hl
   ·exact ht s (by omega) l hl
  ·rw [q1b _ _ (by simp; omega)] at e1 e2
   have a1 := congrArg List.length e1
   have a2 := congrArg List.length e2
   simp at a1 a2
   subst a1
   exact ⟨a2,hX,fun s hs => ht s (by omega)⟩
theorem q4y {k k' : Nat} {R' : List (List Nat)} {bs' : List Bool} (h : OneP k K R bs) (h' : OneP k' K R' bs') (hX : AcrP K R bs R' bs' 0 0) : R = R' ∧ bs = bs' := by
 obtain ⟨rfl,a,b⟩ := q9m h h' k k' 0 1 (by omega) (by omega) (by omega) h.pos h'.pos (by simpa using h.rch) (by simpa using h'.rch) (fun s hs => (show 0 = s by omega) ▸ hX) (fun s hs => by omega)
 constructor
 ·apply List.ext_getElem (by rw [h.rows.len,h'.rows.len])
  intro s h1 h2
  have hs : s < k := by rw [← h.rows.len]; exact h1
  have e1 := (qd h1 []).symm
  have e2 := (qd h2 []).symm
  rw [e1,e2]
  have l1 := h.rows.row s hs
  have l2 := h'.rows.row s hs
  apply List.ext_getElem (by rw [l1,l2])
  intro l q1 q2
  have := b s hs l (by omega)
  rw [trP,trP,qd q1,qd q2] at this
  exact this
 ·apply List.ext_getElem (by rw [h.len,h'.len])
  intro s h1 h2
  have := a s (by rw [← h.len]; exact h1) [] (by simp)
  rw [List.getD_eq_getElem?_getD,List.getD_eq_getElem?_getD] at this
  simpa [runP,List.getElem?_eq_getElem h1,List.getElem?_eq_getElem h2] using this
theorem MinP.one {Q F : List Nat} (h : MinP n K R bs c Q F) (hQ : Q = rchP R n 0 [0]) (h1 : 1 ≤ n) : OneP F.length K (rowC c F R) (accC F bs) :=
 ⟨h.rows,by simp [accC],fun i j hi hj ha => h.unlike hi hj ha,h.pos,h.reached hQ h1⟩
theorem q38 {m : Nat} {props : Int} {N : List Gd} (hN : ∀ (i : Nat) (P lo hi : Int),N[i]? = some (P,lo,hi) → 0 ≤ P ∧ P < props ∧ lo ≠ hi ∧ FitG m N i P lo ∧ FitG m N i P hi) {x y : Nat} (q : Int) (hxy : ∀ b : Nat,q < b → x.testBit b = y.testBit b) :
  ∀ (k a : Nat) (p r : Int),q ≤ p → FitG m N a p r → goG N x k r = goG N y k r
 | k,a,p,r,hp,.inl ⟨h1,h2⟩ => by rw [q1t h1,q1t h1]
 | 0,a,p,r,hp,.inr ⟨i,e,hi,nd,hn,hq⟩ => by simp [goG]
 | k + 1,a,p,r,hp,.inr ⟨i,e,hi,nd,hn,hq⟩ => by
  obtain ⟨P,lo,hi'⟩ := nd
  obtain ⟨h0,h1,_,h3,h4⟩ := hN i P lo hi' hn
  dsimp only at hq
  subst e
  by_cases h7 : P ≤ 7
  ·rw [q1a hn h0 h7,q1a hn h0 h7,hxy P.toNat (by omega)]
   split
   ·exact q38 hN q hxy k i P hi' (by omega) h4
   ·exact q38 hN q hxy k i P lo (by omega) h3
  ·have hi : ¬ (i : Int) < 0 := by omega
   simp [goG,hi,hn,h7]
theorem q3w {N : List Gd} {x : Nat} : ∀ {k : Nat} {r v : Int},goG N x k r = some v → ∀ k',k ≤ k' → goG N x k' r = some v
 | 0,r,v,h,k',hk => by
  by_cases hr : r < 0
  ·rw [q1t hr] at h ⊢; exact h
  ·simp [goG,hr] at h
 | k + 1,r,v,h,k',hk => by
  obtain ⟨k',rfl⟩ : ∃ k2,k' = k2 + 1 := ⟨k' - 1,by omega⟩
  by_cases hr : r < 0
  ·rw [q1t hr] at h ⊢; exact h
  ·simp only [goG,if_neg hr] at h ⊢
   split at h
   ·cases h
   ·split at h
    ·rename_i h7
     rw [if_pos h7]
     exact q3w h k' (by omega)
    ·cases h
def FromA (n : Nat) (Na : List Gd) (φ : Nat → Nat) (N : List Gd) : Prop :=
 ∀ i,i < N.length → ∃ (j : Nat) (P lo hi : Int),Na[j]? = some (P,lo,hi) ∧ 0 ≤ P ∧ ∃ k : Nat,P + k = n ∧ ∀ N2 : List Gd,N <+: N2 → adM k P (fun y => φ (((goG Na (y * 2 ^ P.toNat) 8 (j : Int)).getD 0).toNat)) N2 = ((i : Int),N2)
theorem FromA.nil (n : Nat) (Na : List Gd) (φ : Nat → Nat) : FromA n Na φ [] := fun i hi => by simp at hi
theorem q7F {α : Type} (f : Nat → α → Prop) {n : Nat} {m : List α} (hm : ∀ i,i < n → ∃ j ∈ m,f i j) (hi : ∀ i i' j,i < n → i' < n → f i j → f i' j → i = i') : n ≤ m.length := by
 classical
 have hex : ∀ i : Fin n,∃ j,j ∈ m ∧ f i j := fun i => by obtain ⟨j,h1,h2⟩ := hm i i.2; exact ⟨j,h1,h2⟩
 let g : Fin n → α := fun i => Classical.choose (hex i)
 have hg : ∀ i,g i ∈ m ∧ f i (g i) := fun i => Classical.choose_spec (hex i)
 have h1 : ((List.finRange n).map g).Nodup := by
  rw [List.Nodup,List.pairwise_map]
  refine (List.nodup_finRange n).imp fun {a b} hab e => hab ?_
  have := hi a b (g a) a.2 b.2 (hg a).2 (by rw [e]; exact (hg b).2)
  exact Fin.ext this
 have := q1g h1 (m := m) (fun x hx => by obtain ⟨i,_,rfl⟩ := List.mem_map.1 hx; exact (hg i).1)
 simpa using this
theorem FromA.len {n : Nat} {Na : List Gd} {φ : Nat → Nat} {N : List Gd} (h : FromA n Na φ N) : N.length ≤ Na.length := by
 have := q7F (n := N.length) (m := List.range Na.length) (fun (i j : Nat) => ∃ (P lo hi : Int),Na[j]? = some (P,lo,hi) ∧ 0 ≤ P ∧ ∃ k : Nat,P + k = n ∧ ∀ N2 : List Gd,N <+: N2 → adM k P (fun y => φ (((goG Na (y * 2 ^ P.toNat) 8 (j : Int)).getD 0).toNat)) N2 = ((i : Int),N2))
  (fun i hi => by
   obtain ⟨j,P,lo,hi',hj,h0,k,hk,ha⟩ := h i hi
   exact ⟨j,List.mem_range.2 (List.getElem?_eq_some_iff.1 hj).1,P,lo,hi',hj,h0,k,hk,ha⟩)
  (fun i i' j hi hi' ⟨P,lo,h1,hj,h0,k,hk,ha⟩ ⟨P',lo',h1',hj',h0',k',hk',ha'⟩ => by
   rw [hj] at hj'
   injection hj' with hj'
   injection hj' with e1 e2
   subst e1
   obtain rfl : k = k' := by omega
   have := (ha N List.prefix_rfl).symm.trans (ha' N List.prefix_rfl)
   have := congrArg Prod.fst this
   dsimp only at this
   omega)
 simpa using this
theorem FromA.mono {n : Nat} {Na : List Gd} {φ : Nat → Nat} {N N' : List Gd} (hp : N <+: N') (h : ∀ i,i < N.length → ∃ (j : Nat) (P lo hi : Int),Na[j]? = some (P,lo,hi) ∧ 0 ≤ P ∧ ∃ k : Nat,P + k = n ∧ ∀ N2 : List Gd,N <+: N2 → adM k P (fun y => φ (((goG Na (y * 2 ^ P.toNat) 8 (j : Int)).getD 0).toNat)) N2 = ((i : Int),N2)) : ∀ i,i < N.length → ∃ (j : Nat) (P lo hi : Int),Na[j]? = some (P,lo,hi) ∧ 0 ≤ P ∧ ∃ k : Nat,P + k = n ∧ ∀ N2 : List Gd,N' <+: N2 → adM k P (fun y => φ (((goG Na (y * 2 ^ P.toNat) 8 (j : Int)).getD 0).toNat)) N2 = ((i : Int),N2) := fun i hi => by
 obtain ⟨j,P,lo,hi',hj,h0,k,hk,ha⟩ := h i hi
 exact ⟨j,P,lo,hi',hj,h0,k,hk,fun N2 hN => ha N2 (hp.trans hN)⟩
theorem q3B (i p : Nat) : 2 * i * 2 ^ p = i * 2 ^ (p + 1) := by rw [Nat.pow_succ]; ac_rfl
theorem qa0 (i p : Nat) : (2 * i * 2 ^ p).testBit p = false := by
 rw [Nat.testBit_eq_decide_div_mod_eq,Nat.mul_div_cancel _ (Nat.two_pow_pos p)]
 simp
theorem qa1 (i p : Nat) : ((2 * i + 1) * 2 ^ p).testBit p = true := by
 rw [Nat.testBit_eq_decide_div_mod_eq,Nat.mul_div_cancel _ (Nat.two_pow_pos p)]
 simp
theorem q6L (i p b : Nat) (h : p < b) : ((2 * i + 1) * 2 ^ p).testBit b = (i * 2 ^ (p + 1)).testBit b := by
 obtain ⟨d,rfl⟩ : ∃ d,b = p + 1 + d := ⟨b - (p + 1),by omega⟩
 have e1 : ((2 * i + 1) * 2 ^ p) / 2 ^ (p + 1 + d) = i / 2 ^ d := by
  rw [Nat.pow_add,← Nat.div_div_eq_div_mul,Nat.pow_succ,← Nat.div_div_eq_div_mul,Nat.mul_div_cancel _ (Nat.two_pow_pos p)]
  congr 1
  omega
 have e2 : (i * 2 ^ (p + 1)) / 2 ^ (p + 1 + d) = i / 2 ^ d := by
  rw [Nat.pow_add _ (p + 1) d,← Nat.div_div_eq_div_mul,Nat.mul_div_cancel _ (Nat.two_pow_pos _)]
 rw [Nat.testBit_eq_decide_div_mod_eq,Nat.testBit_eq_decide_div_mod_eq,e1,e2]
theorem q3U {n m ns : Nat} (hn : n ≤ 8) {Na : List Gd} (hN : ∀ (i : Nat) (P lo hi : Int),Na[i]? = some (P,lo,hi) → 0 ≤ P ∧ P < (n : Int) ∧ lo ≠ hi ∧ FitG ns Na i P lo ∧ FitG ns Na i P hi) (φ : Nat → Nat) :
  ∀ (k a : Nat) (p r : Int) (f : Nat → Nat) (N : List Gd),0 ≤ p → p + k = n → FitG ns Na a (p - 1) r → (∀ i,i < 2 ^ k → f i < m) → (∀ y,y < 2 ^ k → f y = φ (((goG Na (y * 2 ^ p.toNat) 8 r).getD 0).toNat)) → WfG n m N → FromA n Na φ N → FromA n Na φ (adM k p f N).2
 | 0,a,p,r,f,N,h0,hp,hr,hf,hfy,hw,hF => by simpa [adM] using hF
 | k + 1,a,p,r,f,N,h0,hp,hr,hf,hfy,hw,hF => by
  have e2 : 2 ^ (k + 1) = 2 * 2 ^ k := by rw [Nat.pow_succ]; omega
  have hpn : (p + 1).toNat = p.toNat + 1 := by omega
  have hA := ad_ok hn k (p + 1) (fun i => f (2 * i)) N (by omega) (by omega) (fun i hi => hf _ (by omega)) hw
  have hAll := ad_ok hn (k + 1) p f N h0 hp hf hw
  by_cases hj : ∃ j : Nat,r = (j : Int) ∧ ∃ lo hi,Na[j]? = some (p,lo,hi)
  ·obtain ⟨j,rfl,lo,hi,hj⟩ := hj
   obtain ⟨_,_,hne,hlo,hhi⟩ := hN j p lo hi hj
   have g1 : ∀ i,i < 2 ^ k → f (2 * i) = φ (((goG Na (i * 2 ^ (p + 1).toNat) 8 lo).getD 0).toNat) := fun i hi' => by
    obtain ⟨v,_,ev⟩ := q2m (by omega) hN (i * 2 ^ (p + 1).toNat) 7 j p lo hlo (by omega)
    obtain ⟨v',_,ev'⟩ := q2m (by omega) hN (i * 2 ^ (p + 1).toNat) 8 j p lo hlo (by omega)
    rw [hfy _ (by omega),hpn,← q3B,q1a hj h0 (by omega),qa0]
    rw [hpn,← q3B] at ev ev'
    have e78 := q3w ev
    simp only [Bool.false_eq_true,if_false]
    rw [e78 8 (by omega),ev]
   have g2 : ∀ i,i < 2 ^ k → f (2 * i + 1) = φ (((goG Na (i * 2 ^ (p + 1).toNat) 8 hi).getD 0).toNat) := fun i hi' => by
    obtain ⟨v,_,ev⟩ := q2m (by omega) hN (i * 2 ^ (p + 1).toNat) 7 j p hi hhi (by omega)
    have el : goG Na ((2 * i + 1) * 2 ^ p.toNat) 7 hi = goG Na (i * 2 ^ (p + 1).toNat) 7 hi := by
     rw [hpn]
     exact q38 hN p (fun b hb => q6L i p.toNat b (by omega)) 7 j p hi (Int.le_refl _) hhi
    rw [hfy _ (by omega),q1a hj h0 (by omega),qa1,if_pos rfl,el,q3w ev 8 (by omega),ev]
   have hFA := q3U (m := m) hn hN φ k j (p + 1) lo (fun i => f (2 * i)) N (by omega) (by omega) (by simpa using hlo) (fun i hi => hf _ (by omega)) g1 hw hF
   rcases e1 : adM k (p + 1) (fun i => f (2 * i)) N with ⟨a1,N1⟩
   rw [e1] at hA hFA
   have hB := ad_ok hn k (p + 1) (fun i => f (2 * i + 1)) N1 (by omega) (by omega) (fun i hi => hf _ (by omega)) hA.wf
   have hFB := q3U (m := m) hn hN φ k j (p + 1) hi (fun i => f (2 * i + 1)) N1 (by omega) (by omega) (by simpa using hhi) (fun i hi => hf _ (by omega)) g2 hA.wf hFA
   rcases e3 : adM k (p + 1) (fun i => f (2 * i + 1)) N1 with ⟨b1,N2⟩
   rw [e3] at hB hFB
   dsimp only at hFB
   rw [qU k p f N e1 e3] at hAll ⊢
   by_cases hab : a1 = b1
   ·rw [if_pos hab]; exact hFB
   ·rw [if_neg hab] at hAll ⊢
    dsimp only at hAll ⊢
    by_cases hm : (p,a1,b1) ∈ N2
    ·rw [if_pos hm]; exact hFB
    ·rw [if_neg hm] at hAll ⊢
     intro i hi'
     by_cases hil : i < N2.length
     ·exact FromA.mono (List.prefix_append _ _) hFB i hil
     ·have hie : i = N2.length := by simp at hi'; omega
      subst hie
      refine ⟨j,p,lo,hi,hj,h0,k + 1,hp,fun N3 hN3 => ?_⟩
      have := hAll.again N3 hN3
      rw [q3a hm] at this
      rw [← this]
      exact q27 _ _ _ _ _ fun y hy => (hfy y hy).symm
  ·have hr2 : FitG ns Na a p r := by
    rcases hr with hr | ⟨i,e,hi,nd,hnd,hq⟩
    ·exact .inl hr
    ·refine .inr ⟨i,e,hi,nd,hnd,?_⟩
     obtain ⟨P,lo,hi'⟩ := nd
     dsimp only at hq ⊢
     by_cases hP : P = p
     ·subst hP; exact absurd ⟨i,e,lo,hi',hnd⟩ hj
     ·omega
   have g1 : ∀ i,i < 2 ^ k → f (2 * i) = φ (((goG Na (i * 2 ^ (p + 1).toNat) 8 r).getD 0).toNat) := fun i hi' => by rw [hfy _ (by omega),hpn,← q3B]
   have g2 : ∀ i,i < 2 ^ k → f (2 * i + 1) = φ (((goG Na (i * 2 ^ (p + 1).toNat) 8 r).getD 0).toNat) := fun i hi' => by
    have el : goG Na ((2 * i + 1) * 2 ^ p.toNat) 8 r = goG Na (i * 2 ^ (p + 1).toNat) 8 r := by
     rw [hpn]
     exact q38 hN p (fun b hb => q6L i p.toNat b (by omega)) 8 a p r (Int.le_refl _) hr2
    rw [hfy _ (by omega),el]
   have hFA := q3U (m := m) hn hN φ k a (p + 1) r (fun i => f (2 * i)) N (by omega) (by omega) (by simpa using hr2) (fun i hi => hf _ (by omega)) g1 hw hF
   rcases e1 : adM k (p + 1) (fun i => f (2 * i)) N with ⟨a1,N1⟩
   rw [e1] at hA hFA
   have e3 : adM k (p + 1) (fun i => f (2 * i + 1)) N1 = (a1,N1) := by
    rw [← hA.again N1 List.prefix_rfl]
    exact q27 _ _ _ _ _ fun i hi => by rw [g1 i hi,g2 i hi]
   rw [qU k p f N e1 e3,if_pos rfl]
   exact hFA
def stoF (n : Nat) (st : List Int × List Gd) (l : List Nat) : List Int × List Gd := (st.1 ++ [(adM n 0 (fnL l) st.2).1],(adM n 0 (fnL l) st.2).2)
def stoM (n : Nat) (K : List (List Nat)) : List Int × List Gd := K.foldl (stoF n) ([],[])
theorem q1i (n : Nat) (K : List (List Nat)) {i : Nat} (h : i < K.length) : stoM n (K.take (i + 1)) = stoF n (stoM n (K.take i)) (K.getD i []) := by
 rw [stoM,List.take_add_one,List.getElem?_eq_getElem h,Option.toList_some,List.foldl_append,qd h]; rfl
theorem q1j {n m : Nat} (hn : n ≤ 8) {K : List (List Nat)} (hK : ∀ l ∈ K,l.length = 2 ^ n ∧ ∀ v ∈ l,v < m) : ∀ i,i ≤ K.length → BkG n m (stoM n (K.take i)).2 (K.take i) (stoM n (K.take i)).1
 | 0,_ => by simpa [stoM] using BkG.nil n m
 | i + 1,hi => by
  have h := q1j hn hK i (by omega)
  have hl : i < K.length := by omega
  have hm : K.getD i [] ∈ K := by rw [qd hl]; exact List.getElem_mem _
  rw [q1i n K hl,List.take_add_one,List.getElem?_eq_getElem hl,Option.toList_some,← qd hl []]
  exact h.add hn (hK _ hm).1 (hK _ hm).2 rfl
theorem BkG.rows {n m : Nat} {N : List Gd} {K : List (List Nat)} {Rf : List Int} (h : BkG n m N K Rf) : rowsG N Rf (2 ^ n) = K := by
 apply List.ext_getElem (by simp [rowsG,h.len])
 intro i h1 h2
 have h3 : i < Rf.length := by rw [h.len]; exact h2
 obtain ⟨a1,_,a3,_⟩ := h.it i _ _ (List.getElem?_eq_getElem h2) (List.getElem?_eq_getElem h3)
 simp only [rowsG,List.getElem_map]
 apply List.ext_getElem (by rw [q2x,a1])
 intro x q1 q2
 rw [q2x] at q1
 simp only [rowG,List.getElem_map,List.getElem_range]
 rw [a3 N x List.prefix_rfl q1]
 simp [fnL,List.getD_eq_getElem?_getD,List.getElem?_eq_getElem q2]
theorem q2B {p : Int} {ns m : Nat} {Na : List Gd} {gs : List Int} (hM : MayG p ns Na gs) {K : List (List Nat)} (hK : ∀ l ∈ K,l.length = 2 ^ p.toNat ∧ ∀ v ∈ l,v < m) (φ : Nat → Nat)
  (hf : ∀ l ∈ K,∃ s,s < ns ∧ ∀ y,y < 2 ^ p.toNat → fnL l y = φ (trP (rowsG Na gs (2 ^ p.toNat)) s y)) : ∀ i,i ≤ K.length → FromA p.toNat Na φ (stoM p.toNat (K.take i)).2
 | 0,_ => by simpa [stoM] using FromA.nil _ _ _
 | i + 1,hi => by
  have h := q2B hM hK φ hf i (by omega)
  have hl : i < K.length := by omega
  have hm : K.getD i [] ∈ K := by rw [qd hl]; exact List.getElem_mem _
  have h0 := hM.p0
  have h8 := hM.p8
  have hB := q1j (by omega) hK i (by omega)
  obtain ⟨s,hs,hy⟩ := hf _ hm
  have hk := hK _ hm
  have hlen := hM.len
  have hg : gs.getD s 0 ∈ gs := by
   rw [qd (by omega)]
   exact List.getElem_mem _
  rw [q1i _ K hl]
  have hNode : ∀ (i : Nat) (P lo hi : Int),Na[i]? = some (P,lo,hi) → 0 ≤ P ∧ P < (p.toNat : Int) ∧ lo ≠ hi ∧ FitG ns Na i P lo ∧ FitG ns Na i P hi := fun i P lo hi e => by
   obtain ⟨a1,a2,a3⟩ := hM.node i P lo hi e
   exact ⟨a1,by omega,a3⟩
  refine q3U (m := m) (by omega) hNode φ p.toNat Na.length 0 (gs.getD s 0) (fnL (K.getD i [])) _ (by omega) (by omega) (by simpa using hM.gd _ hg) (fun x hx => q3X hk.2 (by omega)) (fun y hyl => ?_) hB.wf h
  rw [hy y hyl]
  have := hM.tr (K := 2 ^ p.toNat) hs hyl
  simp only [Int.toNat_zero,Nat.pow_zero,Nat.mul_one,this,Option.getD_some,Int.toNat_natCast]
def MinA (p : Int) (nA : Nat) (bs : List Bool) (N : List Gd) (gs : List Int) (bs' : List Bool) (gs' : List Int) (N' : List Gd) : Prop :=
 ∃ k c F,manyP (rowsG N gs (2 ^ p.toNat)) bs nA k = manyP (rowsG N gs (2 ^ p.toNat)) bs nA (k + 1) ∧ c = (fun s => (clsP (rowsG N gs (2 ^ p.toNat)) bs nA k).getD s 0) ∧ F = ddP c (rchP (rowsG N gs (2 ^ p.toNat)) nA 0 [0]) ∧ bs' = accC F bs ∧ stoM p.toNat (rowC c F (rowsG N gs (2 ^ p.toNat))) = (gs',N')
theorem q4x {p : Int} {nA k : Nat} {bs : List Bool} {N : List Gd} {gs : List Int} {c : Nat → Nat} {F : List Nat} (hM : MayG p nA N gs) (hk : manyP (rowsG N gs (2 ^ p.toNat)) bs nA k = manyP (rowsG N gs (2 ^ p.toNat)) bs nA (k + 1)) (hc : c = (fun s => (clsP (rowsG N gs (2 ^ p.toNat)) bs nA k).getD s 0)) (hF : F = ddP c (rchP (rowsG N gs (2 ^ p.toNat)) nA 0 [0])) :
  MinP nA (2 ^ p.toNat) (rowsG N gs (2 ^ p.toNat)) bs c (rchP (rowsG N gs (2 ^ p.toNat)) nA 0 [0]) F := by
 subst hc
 exact ⟨hM.rows _,qa2 (hM.rows _) hk,q3b (hM.rows _) hM.s1,hF⟩
theorem MinP.lists {n K : Nat} {R : List (List Nat)} {bs : List Bool} {c : Nat → Nat} {Q F : List Nat} (h : MinP n K R bs c Q F) : ∀ l ∈ rowC c F R,l.length = K ∧ ∀ v ∈ l,v < F.length := fun l hl => by
 have hR := h.rows
 obtain ⟨i,hi,rfl⟩ := List.getElem_of_mem hl
 have hi2 : i < F.length := by rw [← hR.len]; exact hi
 rw [← qd hi []]
 refine ⟨hR.row i hi2,fun v hv => ?_⟩
 obtain ⟨x,hx,rfl⟩ := (q20 hR hi2).1 hv
 exact hR.lt _ _ hi2 hx
theorem MinP.from {n K : Nat} {R : List (List Nat)} {bs : List Bool} {c : Nat → Nat} {Q F : List Nat} (h : MinP n K R bs c Q F) : ∀ l ∈ rowC c F R,∃ s,s < n ∧ ∀ y,y < K → fnL l y = nmP c F (trP R s y) := fun l hl => by
 have hR := h.rows
 obtain ⟨i,hi,rfl⟩ := List.getElem_of_mem hl
 have hi2 : i < F.length := by rw [← hR.len]; exact hi
 rw [← qd hi []]
 exact ⟨_,h.ltn hi2,fun y hy => h.tr hi2 hy⟩
structure MinK (p : Int) (nA : Nat) (bs : List Bool) (N : List Gd) (gs : List Int) (bs' : List Bool) (gs' : List Int) (N' : List Gd) : Prop where
 may : MayG p bs'.length N' gs'
 one : OneP bs'.length (2 ^ p.toNat) (rowsG N' gs' (2 ^ p.toNat)) bs'
 few : bs'.length ≤ nA
 nodes : N'.length ≤ N.length
 same : ∀ t : List Nat,(∀ l ∈ t,l < 2 ^ p.toNat) → bs'.getD (runP (rowsG N' gs' (2 ^ p.toNat)) 0 t) false = bs.getD (runP (rowsG N gs (2 ^ p.toNat)) 0 t) false
 sto : stoM p.toNat (rowsG N' gs' (2 ^ p.toNat)) = (gs',N')
theorem MinA.all {p : Int} {nA : Nat} {bs : List Bool} {N : List Gd} {gs : List Int} {bs' : List Bool} {gs' : List Int} {N' : List Gd} (h : MinA p nA bs N gs bs' gs' N') (hM : MayG p nA N gs) : MinK p nA bs N gs bs' gs' N' := by
 obtain ⟨k,c,F,hk,hc,hF,rfl,hs⟩ := h
 have hP := q4x hM hk hc hF
 have h0 := hM.p0
 have h8 := hM.p8
 have hl := hP.lists
 have hB := q1j (n := p.toNat) (by omega) hl _ (Nat.le_refl _)
 have hA := q2B hM hl _ hP.from _ (Nat.le_refl _)
 rw [List.take_length,hs] at hB hA
 have hlen := hA.len
 have hr := hB.rows
 dsimp only at hr hlen
 have hFl := hP.len
 have hF0 := hP.pos
 have hal : (accC F bs).length = F.length := by simp [accC]
 have hRl : gs'.length = F.length := by have := hB.len; rw [hP.rows.len] at this; exact this
 have hfew := hM.few
 have h256 := hM.s2
 have hmay := BkG.may hB (by omega) (ns := F.length) (by omega) (by omega) (Nat.le_refl _) hRl (fun g hg => .inr hg) (by dsimp only; omega)
 rw [show ((p.toNat : Nat) : Int) = p by omega] at hmay
 refine ⟨by rw [hal]; exact hmay,by rw [hr,hal]; exact hP.one rfl hM.s1,by omega,hlen,fun t ht => ?_,by rw [hr,hs]⟩
 rw [hr]
 exact hP.same ht
theorem MinA.again {p : Int} {nA : Nat} {bs : List Bool} {N : List Gd} {gs : List Int} {bs' : List Bool} {gs' : List Int} {N' : List Gd} (h : MinA p nA bs N gs bs' gs' N') (hM : MayG p nA N gs) (h1 : OneP nA (2 ^ p.toNat) (rowsG N gs (2 ^ p.toNat)) bs) (h2 : stoM p.toNat (rowsG N gs (2 ^ p.toNat)) = (gs,N)) : bs' = bs ∧ gs' = gs ∧ N' = N := by
 obtain ⟨k,c,F,hk,hc,hF,hb,hs⟩ := h
 have hP := q4x hM hk hc hF
 obtain ⟨e1,e2⟩ := q4y (hP.one rfl hM.s1) h1 fun u hu => hP.same hu
 rw [e1,h2] at hs
 injection hs with e3 e4
 exact ⟨by rw [hb,e2],e3.symm,e4.symm⟩
theorem q9g {p : Int} {nA nB : Nat} {bs cs : List Bool} {N M : List Gd} {gs hs : List Int} {bs' cs' : List Bool} {gs' hs' : List Int} {N' M' : List Gd} (h : MinA p nA bs N gs bs' gs' N') (hM : MayG p nA N gs) (h' : MinA p nB cs M hs cs' hs' M') (hM' : MayG p nB M hs) :
  (bs' = cs' ∧ gs' = hs' ∧ N' = M') ↔ AcrP (2 ^ p.toNat) (rowsG N gs (2 ^ p.toNat)) bs (rowsG M hs (2 ^ p.toNat)) cs 0 0 := by
 have k1 := h.all hM
 have k2 := h'.all hM'
 constructor
 ·rintro ⟨rfl,rfl,rfl⟩ u hu
  rw [← k1.same u hu,← k2.same u hu]
 ·intro hX
  obtain ⟨e1,e2⟩ := q4y k1.one k2.one fun u hu => by rw [k1.same u hu,k2.same u hu]; exact hX u hu
  have e3 := k1.sto
  rw [e1,k2.sto] at e3
  injection e3 with e3 e4
  exact ⟨e2,e3.symm,e4.symm⟩
variable {n n' K : Nat} {R : List (List Nat)} {bs : List Bool} {R' : List (List Nat)} {bs' : List Bool} {i k : Nat} {T : List (Nat × Nat)}
def prN (n' : Nat) (x : Nat × Nat) : Nat := x.1 * n' + x.2
theorem qat {n' : Nat} {x y : Nat × Nat} (hx : x.2 < n') (hy : y.2 < n') (e : prN n' x = prN n' y) : x = y := by
 unfold prN at e
 have e1 : x.1 = y.1 := by
  have a1 : (x.1 * n' + x.2) / n' = x.1 := by rw [Nat.mul_comm,Nat.mul_add_div (by omega),Nat.div_eq_of_lt hx]; rfl
  have a2 : (y.1 * n' + y.2) / n' = y.1 := by rw [Nat.mul_comm,Nat.mul_add_div (by omega),Nat.div_eq_of_lt hy]; rfl
  rw [← a1,← a2,e]
 rw [e1] at e
 exact Prod.ext e1 (by omega)
theorem qaX {n n' : Nat} {x : Nat × Nat} (h1 : x.1 < n) (h2 : x.2 < n') : prN n' x < n * n' := by
 unfold prN
 have := Nat.mul_le_mul_right n' (show x.1 + 1 ≤ n by omega)
 rw [Nat.add_mul] at this
 omega
def acT (p : Int) (bs : List Bool) (N : List Gd) (gs : List Int) (u : List Nat) : Bool := bs.getD (runP (rowsG N gs (2 ^ p.toNat)) 0 u) false
def LtT (p : Int) (u : List Nat) : Prop := ∀ l ∈ u,l < 2 ^ p.toNat
structure CanK (p : Int) (bs : List Bool) (N : List Gd) (gs : List Int) : Prop where
 may : MayG p bs.length N gs
 one : OneP bs.length (2 ^ p.toNat) (rowsG N gs (2 ^ p.toNat)) bs
 sto : stoM p.toNat (rowsG N gs (2 ^ p.toNat)) = (gs,N)
theorem CanK.eq {p : Int} {bs bs' : List Bool} {N N' : List Gd} {gs gs' : List Int} (h : CanK p bs N gs) (h' : CanK p bs' N' gs') (hX : ∀ u,LtT p u → acT p bs N gs u = acT p bs' N' gs' u) : bs = bs' ∧ gs = gs' ∧ N = N' := by
 obtain ⟨e1,e2⟩ := q4y h.one h'.one fun u hu => hX u hu
 have e := h.sto.symm.trans ((congrArg (stoM p.toNat) e1).trans h'.sto)
 injection e with e3 e4
 exact ⟨e2,e3,e4⟩
theorem CanK.min {p : Int} {bs : List Bool} {N : List Gd} {gs : List Int} (h : CanK p bs N gs) {bs' : List Bool} {gs' : List Int} {N' : List Gd} (hm : MinA p bs.length bs N gs bs' gs' N') : bs' = bs ∧ gs' = gs ∧ N' = N := hm.again h.may h.one h.sto
structure PutKb (p : Int) (f : List Nat → Bool) (bs : List Bool) (N : List Gd) (gs : List Int) : Prop where
 can : CanK p bs N gs
 acc : ∀ u,LtT p u → acT p bs N gs u = (!u.isEmpty && f u)
theorem PutKb.eq {p : Int} {f f' : List Nat → Bool} {bs bs' : List Bool} {N N' : List Gd} {gs gs' : List Int} (h : PutKb p f bs N gs) (h' : PutKb p f' bs' N' gs') (hX : ∀ u,LtT p u → u ≠ [] → f u = f' u) : bs = bs' ∧ gs = gs' ∧ N = N' := by
 refine h.can.eq h'.can fun u hu => ?_
 rw [h.acc u hu,h'.acc u hu]
 cases u with
 | nil => rfl
 | cons a u => rw [hX _ hu (by simp)]
theorem PutKb.zero {p : Int} {f : List Nat → Bool} {bs : List Bool} {N : List Gd} {gs : List Int} (h : PutKb p f bs N gs) : bs.getD 0 false = false := by
 have := h.acc [] (fun l hl => by simp at hl)
 simpa [acT,runP] using this
theorem PutKb.mono {p : Int} {f f' : List Nat → Bool} {bs : List Bool} {N : List Gd} {gs : List Int} (h : PutKb p f bs N gs) (hX : ∀ u,LtT p u → u ≠ [] → f u = f' u) : PutKb p f' bs N gs := by
 refine ⟨h.can,fun u hu => ?_⟩
 rw [h.acc u hu]
 cases u with
 | nil => rfl
 | cons a u => rw [hX _ hu (by simp)]
theorem PutKb.flip {p : Int} {f : List Nat → Bool} {bs bs' : List Bool} {N N' : List Gd} {gs gs' : List Int} (h : PutKb p f bs N gs) (h' : PutKb p (fun u => !acT p bs N gs u) bs' N' gs') : PutKb p (fun u => !f u) bs' N' gs' :=
 h'.mono fun u hu hne => by
  show (!acT p bs N gs u) = !f u
  rw [h.acc u hu]
  cases u with
  | nil => exact absurd rfl hne
  | cons a u => simp
theorem PutKb.two {p : Int} {f g : List Nat → Bool} (op : Bool → Bool → Bool) {bs bs' cs : List Bool} {N N' M : List Gd} {gs gs' hs : List Int} (h : PutKb p f bs N gs) (h' : PutKb p g bs' N' gs') (k : PutKb p (fun u => op (acT p bs N gs u) (acT p bs' N' gs' u)) cs M hs) : PutKb p (fun u => op (f u) (g u)) cs M hs :=
 k.mono fun u hu hne => by
  show op (acT p bs N gs u) (acT p bs' N' gs' u) = op (f u) (g u)
  rw [h.acc u hu,h'.acc u hu]
  cases u with
  | nil => exact absurd rfl hne
  | cons a u => simp
theorem MinP.can {p : Int} {n : Nat} {R : List (List Nat)} {bs : List Bool} {c : Nat → Nat} {F : List Nat} (h : MinP n (2 ^ p.toNat) R bs c (rchP R n 0 [0]) F) (h0 : 0 ≤ p) (h8 : p ≤ 8) (h1 : 1 ≤ n) (hF : F.length ≤ 256) {gs' : List Int} {N' : List Gd} (hs : stoM p.toNat (rowC c F R) = (gs',N')) (hN : N'.length ≤ 4096) :
  CanK p (accC F bs) N' gs' ∧ ∀ u,LtT p u → acT p (accC F bs) N' gs' u = bs.getD (runP R 0 u) false := by
 have hl := h.lists
 have hB := q1j (n := p.toNat) (by omega) hl _ (Nat.le_refl _)
 rw [List.take_length,hs] at hB
 have hr := hB.rows
 dsimp only at hr
 have hF0 := h.pos
 have hal : (accC F bs).length = F.length := by simp [accC]
 have hRl : gs'.length = F.length := by have := hB.len; rw [h.rows.len] at this; exact this
 have hmay := BkG.may hB (by omega) (ns := F.length) (by omega) (by omega) (Nat.le_refl _) hRl (fun g hg => .inr hg) hN
 rw [show ((p.toNat : Nat) : Int) = p by omega] at hmay
 refine ⟨⟨by rw [hal]; exact hmay,by rw [hr,hal]; exact h.one rfl h1,by rw [hr,hs]⟩,fun u hu => ?_⟩
 rw [acT,hr]
 exact h.same hu
structure PrR (m K : Nat) (R2 R R' : List (List Nat)) (f : Nat → Nat × Nat) : Prop where
 rows : RowsP m K R2
 zero : f 0 = (0,0)
 go : ∀ s l,s < m → l < K → f (trP R2 s l) = (trP R (f s).1 l,trP R' (f s).2 l)
theorem PrR.run {m K : Nat} {R2 R R' : List (List Nat)} {f : Nat → Nat × Nat} (h : PrR m K R2 R R' f) : ∀ (u : List Nat) (s : Nat),s < m → (∀ l ∈ u,l < K) → f (runP R2 s u) = (runP R (f s).1 u,runP R' (f s).2 u)
 | [],s,_,_ => rfl
 | l :: u,s,hs,hu => by
  have hl : l < K := hu l (by simp)
  rw [qO,qO,qO,h.run u _ (h.rows.lt s l hs hl) fun x hx => hu x (by simp [hx]),h.go s l hs hl]
theorem PrR.met {m K : Nat} {R2 R R' : List (List Nat)} {f : Nat → Nat × Nat} (h : PrR m K R2 R R' f) (hm : 0 < m) {u : List Nat} (hu : ∀ l ∈ u,l < K) : f (runP R2 0 u) = (runP R 0 u,runP R' 0 u) := by
 rw [h.run u 0 hm hu,h.zero]
theorem PrR.acc {m K : Nat} {R2 R R' : List (List Nat)} {f : Nat → Nat × Nat} (h : PrR m K R2 R R' f) (hm : 0 < m) (hz : ∀ s l,s < m → l < K → trP R2 s l ≠ 0) {op : Bool → Bool → Bool} {b2 bs bs' : List Bool} (h0 : b2.getD 0 false = false) (hb : ∀ s,s < m → s ≠ 0 → b2.getD s false = op (bs.getD (f s).1 false) (bs'.getD (f s).2 false)) {u : List Nat} (hu : ∀ l ∈ u,l < K) :
  b2.getD (runP R2 0 u) false = (!u.isEmpty && op (bs.getD (runP R 0 u) false) (bs'.getD (runP R' 0 u) false)) := by
 have hmet := h.met hm hu
 by_cases e : u = []
 ·subst e; simpa [runP] using h0
 ·have hne : u.isEmpty = false := by cases u <;> simp_all
  have hlt : runP R2 0 u < m := h.rows.run u 0 hm hu
  have hn0 : runP R2 0 u ≠ 0 := by
   obtain ⟨v,l,rfl⟩ : ∃ v l,u = v ++ [l] := ⟨u.dropLast,u.getLast e,(List.dropLast_concat_getLast e).symm⟩
   rw [qP]
   exact hz _ _ (h.rows.run v 0 hm fun x hx => hu x (by simp [hx])) (hu l (by simp))
  rw [hb _ hlt hn0,hmet,hne]; rfl
def valT (u : List Nat) : Nat := u.foldl (fun x l => x * 256 + l) 0
theorem q1k (u : List Nat) (l : Nat) : valT (u ++ [l]) = valT u * 256 + l := by simp [valT]
def ltT (u v : List Nat) : Prop := u.length < v.length ∨ u.length = v.length ∧ valT u < valT v
def leT (u v : List Nat) : Prop := u.length < v.length ∨ u.length = v.length ∧ valT u ≤ valT v
theorem leT.not {u v : List Nat} (h : leT u v) : ¬ ltT v u := by unfold leT ltT at *; omega
theorem leT.trans {u v x : List Nat} (h : leT u v) (h' : leT v x) : leT u x := by unfold leT at *; omega
theorem ltT.le {u v : List Nat} (h : ltT u v) : leT u v := by unfold leT ltT at *; omega
theorem q3z {u v : List Nat} (h : leT u v) {k l : Nat} (hk : k ≤ l) : leT (u ++ [k]) (v ++ [l]) := by
 unfold leT at *; rw [q1k,q1k,List.length_append,List.length_append,List.length_singleton,List.length_singleton]; omega
theorem q60 {u v : List Nat} (h : ltT u v) {k : Nat} (l : Nat) (hk : k < 256) : ltT (u ++ [k]) (v ++ [l]) := by
 unfold ltT at *; rw [q1k,q1k,List.length_append,List.length_append,List.length_singleton,List.length_singleton]; omega
theorem q9d (u : List Nat) {k l : Nat} (hk : k < l) : ltT (u ++ [k]) (u ++ [l]) := by
 unfold ltT; rw [q1k,q1k,List.length_append,List.length_append,List.length_singleton,List.length_singleton]; omega
theorem q6Z (u : List Nat) (l : Nat) : leT u (u ++ [l]) := by unfold leT; rw [List.length_append,List.length_singleton]; omega
theorem qaf (u : List Nat) : leT [] u := by
 cases u with
 | nil => exact .inr ⟨rfl,Nat.le_refl _⟩
 | cons a u => exact .inl (by simp)
theorem snocT {u : List Nat} (h : u ≠ []) : ∃ v l,u = v ++ [l] := ⟨u.dropLast,u.getLast h,(List.dropLast_concat_getLast h).symm⟩
abbrev gone (j k i l : Nat) : Prop := i < j ∨ i = j ∧ l < k
structure BfQ (n K : Nat) (R : List (List Nat)) (j k : Nat) (Q : List (Nat × List Nat)) : Prop where
 zero : Q[0]? = some (0,[])
 nd : (Q.map (·.1)).Nodup
 lt : ∀ x ∈ Q,x.1 < n
 run : ∀ x ∈ Q,runP R 0 x.2 = x.1 ∧ ∀ l ∈ x.2,l < K
 ord : ∀ (i i' : Nat) (x y : Nat × List Nat),i < i' → Q[i]? = some x → Q[i']? = some y → ltT x.2 y.2
 met : ∀ (i : Nat) (x : Nat × List Nat) (l : Nat),Q[i]? = some x → l < K → gone j k i l → ∃ y ∈ Q,y.1 = trP R x.1 l ∧ leT y.2 (x.2 ++ [l])
 made : ∀ y ∈ Q,y = (0,[]) ∨ ∃ (i : Nat) (x : Nat × List Nat) (l : Nat),Q[i]? = some x ∧ l < K ∧ gone j k i l ∧ y = (trP R x.1 l,x.2 ++ [l])
 len : ∀ (i : Nat) (x : Nat × List Nat),Q[i]? = some x → x.2.length ≤ i
variable {n K : Nat} {R : List (List Nat)} {j k : Nat} {Q : List (Nat × List Nat)} {bs : List Bool} {acc : Bool}
theorem BfQ.few (h : BfQ n K R j k Q) : Q.length ≤ n := by
 have := qr h.nd (fun x hx => by obtain ⟨y,hy,rfl⟩ := List.mem_map.1 hx; exact h.lt y hy)
 simpa using this
theorem q84 (hn : 0 < n) : BfQ n K R 0 0 [(0,[])] := by
 refine ⟨rfl,by simp,fun x hx => ?_,fun x hx => ?_,fun i i' x y hi hx hy => ?_,fun i x l hx hl hg => ?_,fun y hy => .inl (by simpa using hy),fun i x hx => ?_⟩
 ·simp only [List.mem_singleton] at hx; subst hx; exact hn
 ·simp only [List.mem_singleton] at hx; subst hx; exact ⟨rfl,fun l hl => by simp at hl⟩
 ·have := (List.getElem?_eq_some_iff.1 hy).1
  simp at this; omega
 ·unfold gone at hg; omega
 ·have h1 := (List.getElem?_eq_some_iff.1 hx).1
  simp at h1; subst h1
  simp at hx; subst hx; simp
theorem BfQ.made_le (h : BfQ n K R j k Q) (hK : K ≤ 256) {x : Nat × List Nat} (hx : Q[j]? = some x) {y : Nat × List Nat} (hy : y ∈ Q) : ltT y.2 (x.2 ++ [k]) := by
 rcases h.made y hy with e | ⟨i,x',l,h1,h2,h3,e⟩
 ·rw [e]; exact .inl (by simp)
 ·rw [e]
  rcases h3 with h3 | ⟨h3,h4⟩
  ·exact q60 (h.ord i j x' x h3 h1 hx) _ (by omega)
  ·subst h3
   rw [h1] at hx; injection hx with hx; subst hx
   exact q9d _ h4
theorem BfQ.skip (h : BfQ n K R j k Q) (hK : K ≤ 256) {x : Nat × List Nat} (hx : Q[j]? = some x) (hm : trP R x.1 k ∈ Q.map (·.1)) : BfQ n K R j (k + 1) Q := by
 refine ⟨h.zero,h.nd,h.lt,h.run,h.ord,fun i x' l h1 h2 h3 => ?_,fun y hy => ?_,h.len⟩
 ·by_cases e : gone j k i l
  ·exact h.met i x' l h1 h2 e
  ·obtain ⟨rfl,rfl⟩ : i = j ∧ l = k := by unfold gone at *; omega
   rw [h1] at hx; injection hx with hx; subst hx
   obtain ⟨y,hy,hy1⟩ := List.mem_map.1 hm
   exact ⟨y,hy,hy1,(h.made_le hK h1 hy).le⟩
 ·rcases h.made y hy with e | ⟨i,x',l,h1,h2,h3,e⟩
  ·exact .inl e
  ·exact .inr ⟨i,x',l,h1,h2,by unfold gone at *; omega,e⟩
theorem BfQ.push (h : BfQ n K R j k Q) (hR : RowsP n K R) (hK : K ≤ 256) {x : Nat × List Nat} (hx : Q[j]? = some x) (hk : k < K) (hm : trP R x.1 k ∉ Q.map (·.1)) : BfQ n K R j (k + 1) (Q ++ [(trP R x.1 k,x.2 ++ [k])]) := by
 have hj := (List.getElem?_eq_some_iff.1 hx).1
 have hxm : x ∈ Q := List.mem_of_getElem? hx
 have old : ∀ {i : Nat} {y : Nat × List Nat},Q[i]? = some y → (Q ++ [(trP R x.1 k,x.2 ++ [k])])[i]? = some y := fun {i y} e => by
  rw [List.getElem?_append_left (List.getElem?_eq_some_iff.1 e).1]; exact e
 have cut : ∀ {i : Nat} {y : Nat × List Nat},(Q ++ [(trP R x.1 k,x.2 ++ [k])])[i]? = some y → Q[i]? = some y ∨ i = Q.length ∧ y = (trP R x.1 k,x.2 ++ [k]) := fun {i y} e => by
  rw [List.getElem?_append] at e
  split at e
  ·exact .inl e
  ·have := (List.getElem?_eq_some_iff.1 e).1
   simp at this
   have e0 : i - Q.length = 0 := by omega
   rw [e0] at e
   simp at e
   exact .inr ⟨by omega,e.symm⟩
 refine ⟨old h.zero,?_,fun y hy => ?_,fun y hy => ?_,fun i i' y z hi hy hz => ?_,fun i y l h1 h2 h3 => ?_,fun y hy => ?_,fun i y hy => ?_⟩
 ·rw [List.map_append,List.nodup_append]
  exact ⟨h.nd,by simp,fun a ha b hb => by simp only [List.map_cons,List.map_nil,List.mem_singleton] at hb; subst hb; exact fun e => hm (e ▸ ha)⟩
 ·rcases List.mem_append.1 hy with hy | hy
  ·exact h.lt y hy
  ·simp only [List.mem_singleton] at hy; subst hy; exact hR.lt _ _ (h.lt x hxm) hk
 ·rcases List.mem_append.1 hy with hy | hy
  ·exact h.run y hy
  ·simp only [List.mem_singleton] at hy; subst hy
   refine ⟨by rw [qP,(h.run x hxm).1],fun l hl => ?_⟩
   rcases List.mem_append.1 hl with hl | hl
   ·exact (h.run x hxm).2 l hl
   ·simp only [List.mem_singleton] at hl; omega
 ·rcases cut hy with hy | ⟨hy,e⟩ <;> rcases cut hz with hz | ⟨hz,e'⟩
  ·exact h.ord i i' y z hi hy hz
  ·rw [e']; exact h.made_le hK hx (List.mem_of_getElem? hy)
  ·have := (List.getElem?_eq_some_iff.1 hz).1; omega
  ·omega
 ·rcases cut h1 with h0 | ⟨h0,_⟩
  ·clear h1
   have h1 := h0
   by_cases e : gone j k i l
   ·obtain ⟨z,hz,hz1⟩ := h.met i y l h1 h2 e
    exact ⟨z,List.mem_append_left _ hz,hz1⟩
   ·obtain ⟨rfl,rfl⟩ : i = j ∧ l = k := by unfold gone at *; omega
    rw [h1] at hx; injection hx with hx; subst hx
    exact ⟨_,List.mem_append_right _ (List.mem_singleton.2 rfl),rfl,.inr ⟨rfl,Nat.le_refl _⟩⟩
  ·unfold gone at h3; omega
 ·rcases List.mem_append.1 hy with hy | hy
  ·rcases h.made y hy with e | ⟨i,x',l,h1,h2,h3,e⟩
   ·exact .inl e
   ·exact .inr ⟨i,x',l,old h1,h2,by unfold gone at *; omega,e⟩
  ·simp only [List.mem_singleton] at hy; subst hy
   exact .inr ⟨j,x,k,old hx,hk,by unfold gone; omega,rfl⟩
 ·rcases cut hy with hy | ⟨hy,e⟩
  ·exact h.len i y hy
  ·rw [e,hy]
   have := h.len j x hx
   simp; omega
theorem BfQ.next (h : BfQ n K R j K Q) : BfQ n K R (j + 1) 0 Q := by
 refine ⟨h.zero,h.nd,h.lt,h.run,h.ord,fun i x l h1 h2 h3 => h.met i x l h1 h2 (by unfold gone at *; omega),fun y hy => ?_,h.len⟩
 rcases h.made y hy with e | ⟨i,x',l,h1,h2,h3,e⟩
 ·exact .inl e
 ·exact .inr ⟨i,x',l,h1,h2,by unfold gone at *; omega,e⟩
theorem BfQ.cover (h : BfQ n K R j k Q) (hk : k < 256) : ∀ (m : Nat) (v : List Nat),v.length = m → (∀ l ∈ v,l < K) → (∃ (i : Nat) (y : Nat × List Nat),Q[i]? = some y ∧ y.1 = runP R 0 v ∧ leT y.2 v) ∨ ∃ x,Q[j]? = some x ∧ leT (x.2 ++ [k]) v
 | 0,v,hv,_ => by
  obtain rfl := List.eq_nil_of_length_eq_zero hv
  exact .inl ⟨0,_,h.zero,rfl,qaf _⟩
 | m + 1,v,hv,hl => by
  obtain ⟨v',l,rfl⟩ := snocT (u := v) (fun e => by rw [e] at hv; simp at hv)
  have hlK : l < K := hl l (by simp)
  rcases h.cover hk m v' (by simpa using hv) (fun x hx => hl x (by simp [hx])) with ⟨i,y,h1,h2,h3⟩ | ⟨x,h1,h2⟩
  ·by_cases e : gone j k i l
   ·obtain ⟨z,hz,z1,z2⟩ := h.met i y l h1 hlK e
    obtain ⟨iz,hiz⟩ := List.getElem?_of_mem hz
    exact .inl ⟨iz,z,hiz,by rw [z1,qP,h2],z2.trans (q3z h3 (Nat.le_refl _))⟩
   ·have hj : j ≤ i := by unfold gone at e; omega
    have hi := (List.getElem?_eq_some_iff.1 h1).1
    by_cases ej : i = j
    ·subst ej
     exact .inr ⟨y,h1,q3z h3 (by unfold gone at e; omega)⟩
    ·refine .inr ⟨Q[j]'(by omega),List.getElem?_eq_getElem (by omega),?_⟩
     have o := h.ord j i _ y (by omega) (List.getElem?_eq_getElem (by omega)) h1
     exact (q60 o l hk).le.trans (q3z h3 (Nat.le_refl _))
  ·exact .inr ⟨x,h1,h2.trans (q6Z _ _)⟩
end Go.Proofs.Ytcnkgokfjafgkaa
