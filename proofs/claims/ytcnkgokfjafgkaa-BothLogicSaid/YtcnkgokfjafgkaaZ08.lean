/- Texts of the proof, put together: what it uses. -/
import Derived.Laws.BitsAllLaws
import Derived.Test.YtcnkgokfjafgkaaZ00
import Derived.Test.YtcnkgokfjafgkaaZ07
set_option maxRecDepth 100000
set_option maxHeartbeats 16000000
namespace Go.Proofs.Ytcnkgokfjafgkaa
def cdQ (n' : Nat) (x : Nat × Nat) : Nat := 1 + prN n' x
def stQ (n' z : Nat) : Nat × Nat := if z = 0 then (0,0) else ((z - 1) / n',(z - 1) % n')
theorem q6d {n' : Nat} {x : Nat × Nat} (h : x.2 < n') : stQ n' (cdQ n' x) = x := by
 unfold stQ cdQ prN
 rw [if_neg (by omega),Nat.add_sub_cancel_left,Nat.mul_comm,Nat.mul_add_div (by omega),Nat.div_eq_of_lt h,Nat.mul_add_mod,Nat.mod_eq_of_lt h]
 rfl
def stp (R R' : List (List Nat)) (x : Nat × Nat) (l : Nat) : Nat × Nat := (trP R x.1 l,trP R' x.2 l)
def rowsQ (n n' K : Nat) (R R' : List (List Nat)) : List (List Nat) := (List.range (n * n' + 1)).map fun z => (List.range K).map fun l => cdQ n' (stp R R' (stQ n' z) l)
variable {n n' K : Nat} {R R' : List (List Nat)}
theorem q6a {z : Nat} (hz : z < n * n' + 1) : (rowsQ n n' K R R').getD z [] = (List.range K).map fun l => cdQ n' (stp R R' (stQ n' z) l) := by
 rw [rowsQ,List.getD_eq_getElem?_getD,List.getElem?_map,List.getElem?_range hz]; rfl
theorem q22 {z l : Nat} (hz : z < n * n' + 1) (hl : l < K) : trP (rowsQ n n' K R R') z l = cdQ n' (stp R R' (stQ n' z) l) := by
 rw [trP,q6a hz,List.getD_eq_getElem?_getD,List.getElem?_map,List.getElem?_range hl]; rfl
theorem q6e (hn : 0 < n) (hn' : 0 < n') {z : Nat} (hz : z < n * n' + 1) : (stQ n' z).1 < n ∧ (stQ n' z).2 < n' := by
 unfold stQ
 split
 ·exact ⟨hn,hn'⟩
 ·exact ⟨Nat.div_lt_of_lt_mul (by rw [Nat.mul_comm]; omega),Nat.mod_lt _ hn'⟩
theorem q6b (hR : RowsP n K R) (hR' : RowsP n' K R') (hn : 0 < n) (hn' : 0 < n') : RowsP (n * n' + 1) K (rowsQ n n' K R R') := by
 refine ⟨by simp [rowsQ],fun s hs => by rw [q6a hs]; simp,fun s l hs hl => ?_⟩
 rw [q22 hs hl,cdQ]
 obtain ⟨h1,h2⟩ := q6e hn hn' hs
 have := qaX (x := stp R R' (stQ n' s) l) (hR.lt _ l h1 hl) (hR'.lt _ l h2 hl)
 omega
theorem q2e (hR : RowsP n K R) (hR' : RowsP n' K R') (hn : 0 < n) (hn' : 0 < n') : ∀ (m : Nat) (u : List Nat),u.length = m → (∀ l ∈ u,l < K) → stQ n' (runP (rowsQ n n' K R R') 0 u) = (runP R 0 u,runP R' 0 u)
 | 0,u,hm,_ => by
  obtain rfl := List.eq_nil_of_length_eq_zero hm
  rfl
 | m + 1,u,hm,hu => by
  obtain ⟨v,l,rfl⟩ := snocT (u := u) (fun e => by rw [e] at hm; simp at hm)
  have hv : ∀ x ∈ v,x < K := fun x hx => hu x (by simp [hx])
  have hl : l < K := hu l (by simp)
  have ih := q2e hR hR' hn hn' m v (by simpa using hm) hv
  have hlt := (q6b hR hR' hn hn').run v 0 (by omega) hv
  rw [qP,qP,qP,q22 hlt hl,q6d,ih]
  ·rfl
  ·rw [ih]; exact hR'.lt _ l (hR'.run v 0 hn' hv) hl
def metE (T : List PrP) (i : Nat) : Nat × Nat := ((((0,0,0,0) :: T : List PrP).getD i (0,0,0,0)).1,(((0,0,0,0) :: T : List PrP).getD i (0,0,0,0)).2.1)
def putEb (T : List PrP) (x : Nat × Nat) (n l : Nat) : List PrP := if x ∈ pqP T then T else T ++ [(x.1,x.2,n,l)]
def nmE (T : List PrP) (x : Nat × Nat) : Nat := 1 + (pqP T).idxOf x
theorem q35 (T : List PrP) (x : Nat × Nat) (n l : Nat) : T <+: putEb T x n l := by
 unfold putEb; split
 ·exact List.prefix_rfl
 ·exact List.prefix_append _ _
theorem q58 (T : List PrP) (x : Nat × Nat) (n l : Nat) : x ∈ pqP (putEb T x n l) := by
 unfold putEb; split
 ·assumption
 ·rw [q2p]; simp
theorem q76 (T : List PrP) (x : Nat × Nat) (n l : Nat) : nmE T x = nmE (putEb T x n l) x := by
 unfold putEb nmE; split
 ·rfl
 ·rename_i h
  rw [q2p,List.idxOf_append,if_neg h,List.idxOf_eq_length h]
  simp
theorem q2q (T : List PrP) : (pqP T).length = T.length := by simp [pqP]
theorem q75 {T : List PrP} {x : Nat × Nat} (h : x ∉ pqP T) : nmE T x = T.length + 1 := by
 rw [nmE,List.idxOf_eq_length h,q2q]; omega
theorem q63 {T : List PrP} {x : Nat × Nat} (h : x ∈ pqP T) : nmE T x < T.length + 1 := by
 have := List.idxOf_lt_length_of_mem h
 rw [q2q] at this
 rw [nmE]; omega
theorem q7b {T T' : List PrP} (h : T <+: T') : pqP T <+: pqP T' := by
 obtain ⟨X,rfl⟩ := h
 exact ⟨pqP X,by simp [pqP]⟩
theorem q3c {T T' : List PrP} (h : T <+: T') {x : Nat × Nat} (hx : x ∈ pqP T) : nmE T' x = nmE T x := by
 obtain ⟨X,e⟩ := q7b h
 rw [nmE,nmE,← e,List.idxOf_append,if_pos hx]
theorem qX {T T' : List PrP} (h : T <+: T') {i : Nat} (hi : i < T.length + 1) : metE T' i = metE T i := by
 obtain ⟨X,rfl⟩ := h
 unfold metE
 rw [show ((0,0,0,0) :: (T ++ X) : List PrP) = ((0,0,0,0) :: T) ++ X from rfl,List.getD_eq_getElem?_getD,List.getElem?_append_left (by simp; omega),List.getD_eq_getElem?_getD]
theorem q51 {T : List PrP} {i : Nat} (hi : i < T.length) : metE T (i + 1) = (T[i].1,T[i].2.1) := by
 simp [metE,List.getD_eq_getElem?_getD,List.getElem?_eq_getElem hi]
theorem qaj {T : List PrP} {x : Nat × Nat} (h : x ∈ pqP T) : metE T (nmE T x) = x := by
 have hl := List.idxOf_lt_length_of_mem h
 have hl2 : (pqP T).idxOf x < T.length := by rw [← q2q]; exact hl
 rw [nmE,Nat.add_comm,q51 hl2]
 have h1 : (pqP T)[(pqP T).idxOf x] = x := List.getElem_idxOf hl
 have h2 : (pqP T)[(pqP T).idxOf x] = (T[(pqP T).idxOf x].1,T[(pqP T).idxOf x].2.1) := by
  have : (pqP T)[(pqP T).idxOf x]? = some (T[(pqP T).idxOf x].1,T[(pqP T).idxOf x].2.1) := by
   generalize (pqP T).idxOf x = i at *
   rw [pqP,List.getElem?_map,List.getElem?_eq_getElem hl2]; rfl
  exact Option.some.inj ((List.getElem?_eq_getElem hl).symm.trans this)
 rw [← h2,h1]
def goE (R R' : List (List Nat)) (T : List PrP) (i k : Nat) : List PrP := (List.range k).foldl (fun T' l => putEb T' (stp R R' (metE T i) l) i l) T
theorem qW (R R' : List (List Nat)) (T : List PrP) (i k : Nat) : goE R R' T i (k + 1) = putEb (goE R R' T i k) (stp R R' (metE T i) k) i k := by simp [goE,List.range_succ]
theorem q1s (R R' : List (List Nat)) (T : List PrP) (i : Nat) : ∀ k,T <+: goE R R' T i k
 | 0 => List.prefix_rfl
 | k + 1 => by rw [qW]; exact (q1s R R' T i k).trans (q35 _ _ _ _)
theorem q3v (R R' : List (List Nat)) (T : List PrP) (i k : Nat) : ∀ d,goE R R' T i k <+: goE R R' T i (k + d)
 | 0 => List.prefix_rfl
 | d + 1 => by rw [← Nat.add_assoc,qW]; exact (q3v R R' T i k d).trans (q35 _ _ _ _)
theorem q6V (R R' : List (List Nat)) (T : List PrP) (i : Nat) {k l : Nat} (h : l < k) : stp R R' (metE T i) l ∈ pqP (goE R R' T i k) := by
 have h1 : stp R R' (metE T i) l ∈ pqP (goE R R' T i (l + 1)) := by rw [qW]; exact q58 _ _ _ _
 have h2 := q7b (q3v R R' T i (l + 1) (k - (l + 1)))
 rw [show l + 1 + (k - (l + 1)) = k by omega] at h2
 exact h2.subset h1
def rowEb (R R' : List (List Nat)) (K : Nat) (T : List PrP) (i : Nat) : List Nat := (List.range K).map fun l => nmE T (stp R R' (metE T i) l)
structure MtQ (n n' : Nat) (T : List PrP) (Q : List (Nat × List Nat)) : Prop where
 len : Q.length = T.length + 1
 zero : Q[0]? = some (0,[])
 at' : ∀ (i : Nat) (e : PrP),T[i]? = some e → e.1 < n ∧ e.2.1 < n' ∧ e.2.2.1 ≤ i ∧ e.2.2.2 < 256 ∧ ∃ y,Q[e.2.2.1]? = some y ∧ Q[i + 1]? = some (cdQ n' (e.1,e.2.1),y.2 ++ [e.2.2.2])
def BfE (n n' K : Nat) (R R' : List (List Nat)) (j k : Nat) (T : List PrP) : Prop := ∃ Q,BfQ (n * n' + 1) K (rowsQ n n' K R R') j k Q ∧ MtQ n n' T Q
variable {j k : Nat} {T : List PrP}
theorem q4L : BfE n n' K R R' 0 0 [] := ⟨[(0,[])],q84 (by omega),⟨rfl,rfl,fun i e h => by simp at h⟩⟩
theorem MtQ.code {Q : List (Nat × List Nat)} (h : MtQ n n' T Q) (hn' : 0 < n') {i : Nat} (hi : i < T.length + 1) : ∃ y,Q[i]? = some y ∧ stQ n' y.1 = metE T i ∧ (i ≠ 0 → y.1 = cdQ n' (metE T i)) ∧ (metE T i).2 < n' := by
 cases i with
 | zero => exact ⟨_,h.zero,rfl,fun h => absurd rfl h,hn'⟩
 | succ i =>
  have hi' : i < T.length := by omega
  obtain ⟨_,h2,_,_,y,_,hy⟩ := h.at' i _ (List.getElem?_eq_getElem hi')
  rw [q51 hi']
  exact ⟨_,hy,q6d h2,fun _ => rfl,h2⟩
theorem MtQ.codes {Q : List (Nat × List Nat)} (h : MtQ n n' T Q) {x : Nat × Nat} (hx : x.2 < n') : cdQ n' x ∈ Q.map (·.1) ↔ x ∈ pqP T := by
 constructor
 ·intro hm
  obtain ⟨y,hy,e⟩ := List.mem_map.1 hm
  obtain ⟨i,hi⟩ := List.getElem?_of_mem hy
  cases i with
  | zero =>
   rw [h.zero] at hi; injection hi with hi
   rw [← hi] at e
   exact absurd e (by show (0 : Nat) ≠ _; rw [cdQ]; omega)
  | succ i =>
   have hl := (List.getElem?_eq_some_iff.1 hi).1
   rw [h.len] at hl
   obtain ⟨_,h2,_,_,z,_,hz⟩ := h.at' i _ (List.getElem?_eq_getElem (by omega))
   rw [hz] at hi; injection hi with hi
   rw [← hi] at e
   dsimp only at e
   have e2 : prN n' (T[i].1,T[i].2.1) = prN n' x := by unfold cdQ at e; omega
   have := qat (x := (T[i].1,T[i].2.1)) h2 hx e2
   rw [← this]
   exact List.mem_map.2 ⟨T[i],List.getElem_mem _,rfl⟩
 ·intro hm
  obtain ⟨e,he,rfl⟩ := List.mem_map.1 hm
  obtain ⟨i,hi⟩ := List.getElem?_of_mem he
  obtain ⟨_,_,_,_,z,_,hz⟩ := h.at' i e hi
  exact List.mem_map.2 ⟨_,List.mem_of_getElem? hz,rfl⟩
theorem BfE.step (h : BfE n n' K R R' j k T) (hR : RowsP n K R) (hR' : RowsP n' K R') (hn : 0 < n) (hn' : 0 < n') (hK : K ≤ 256) (hj : j < T.length + 1) (hk : k < K) : BfE n n' K R R' j (k + 1) (putEb T (stp R R' (metE T j) k) j k) := by
 obtain ⟨Q,hQ,hm⟩ := h
 obtain ⟨y,hy,hs,_,_⟩ := hm.code hn' hj
 have hyl := hQ.lt y (List.mem_of_getElem? hy)
 have htr : trP (rowsQ n n' K R R') y.1 k = cdQ n' (stp R R' (metE T j) k) := by rw [q22 hyl hk,hs]
 obtain ⟨a1,a2⟩ := q6e hn hn' hyl
 rw [hs] at a1 a2
 have b1 : (stp R R' (metE T j) k).1 < n := hR.lt _ k a1 hk
 have b2 : (stp R R' (metE T j) k).2 < n' := hR'.lt _ k a2 hk
 have hc := hm.codes b2
 unfold putEb
 split
 ·rename_i hx
  exact ⟨Q,hQ.skip hK hy (by rw [htr]; exact hc.2 hx),hm⟩
 ·rename_i hx
  have hp := hQ.push (q6b hR hR' hn hn') hK hy hk (by rw [htr]; exact fun h => hx (hc.1 h))
  rw [htr] at hp
  refine ⟨_,hp,by simp [hm.len],by rw [List.getElem?_append_left (by rw [hm.len]; omega)]; exact hm.zero,fun i e he => ?_⟩
  rw [List.getElem?_append] at he
  split at he
  ·rename_i hi
   obtain ⟨c1,c2,c3,c4,z,c5,c6⟩ := hm.at' i e he
   refine ⟨c1,c2,c3,c4,z,?_,?_⟩
   ·rw [List.getElem?_append_left (by rw [hm.len]; omega)]; exact c5
   ·rw [List.getElem?_append_left (by rw [hm.len]; omega)]; exact c6
  ·rename_i hi
   have hi2 := (List.getElem?_eq_some_iff.1 he).1
   simp at hi2
   have e0 : i = T.length := by omega
   subst e0
   rw [Nat.sub_self] at he
   simp at he
   subst he
   refine ⟨b1,b2,by dsimp only; omega,by dsimp only; omega,y,?_,?_⟩
   ·rw [List.getElem?_append_left (by rw [hm.len]; exact hj)]; exact hy
   ·rw [List.getElem?_append_right (by rw [hm.len]; omega),hm.len]
    simp
theorem BfE.next (h : BfE n n' K R R' j K T) : BfE n n' K R R' (j + 1) 0 T := by
 obtain ⟨Q,hQ,hm⟩ := h
 exact ⟨Q,hQ.next,hm⟩
theorem BfE.to (h : BfE n n' K R R' j 0 T) (hR : RowsP n K R) (hR' : RowsP n' K R') (hn : 0 < n) (hn' : 0 < n') (hK : K ≤ 256) (hj : j < T.length + 1) : ∀ k,k ≤ K → BfE n n' K R R' j k (goE R R' T j k)
 | 0,_ => h
 | k + 1,hk => by
  have ih := BfE.to h hR hR' hn hn' hK hj k (by omega)
  have hp := q1s R R' T j k
  have := ih.step hR hR' hn hn' hK (by have := hp.length_le; omega) (by omega)
  rw [qX hp hj] at this
  rw [qW]; exact this
theorem BfE.row (h : BfE n n' K R R' j 0 T) (hR : RowsP n K R) (hR' : RowsP n' K R') (hn : 0 < n) (hn' : 0 < n') (hK : K ≤ 256) (hj : j < T.length + 1) : BfE n n' K R R' (j + 1) 0 (goE R R' T j K) := (h.to hR hR' hn hn' hK hj K (Nat.le_refl _)).next
theorem BfE.nd (h : BfE n n' K R R' j k T) : (pqP T).Nodup := by
 obtain ⟨Q,hQ,hm⟩ := h
 rw [List.nodup_iff_pairwise_ne,List.pairwise_iff_getElem]
 intro a b ha hb hab e
 rw [q2q] at ha hb
 simp only [pqP,List.getElem_map] at e
 obtain ⟨_,_,_,_,y,_,hy⟩ := hm.at' a _ (List.getElem?_eq_getElem ha)
 obtain ⟨_,_,_,_,z,_,hz⟩ := hm.at' b _ (List.getElem?_eq_getElem hb)
 have := List.pairwise_iff_getElem.1 hQ.nd (a + 1) (b + 1) (by simp [hm.len]; omega) (by simp [hm.len]; omega) (by omega)
 apply this
 rw [List.getElem_map,List.getElem_map,(List.getElem?_eq_some_iff.1 hy).2,(List.getElem?_eq_some_iff.1 hz).2,e]
theorem BfE.lt (h : BfE n n' K R R' j k T) : ∀ e ∈ T,e.1 < n ∧ e.2.1 < n' ∧ e.2.2.1 < T.length + 1 ∧ e.2.2.2 < 256 := fun e he => by
 obtain ⟨Q,hQ,hm⟩ := h
 obtain ⟨i,hi⟩ := List.getElem?_of_mem he
 obtain ⟨h1,h2,h3,h4,_⟩ := hm.at' i e hi
 have := (List.getElem?_eq_some_iff.1 hi).1
 exact ⟨h1,h2,by omega,h4⟩
theorem BfE.mt (h : BfE n n' K R R' j k T) (hn : 0 < n) (hn' : 0 < n') {i : Nat} (hi : i < T.length + 1) : (metE T i).1 < n ∧ (metE T i).2 < n' := by
 obtain ⟨Q,hQ,hm⟩ := h
 obtain ⟨y,hy,hs,_⟩ := hm.code hn' hi
 rw [← hs]
 exact q6e hn hn' (hQ.lt y (List.mem_of_getElem? hy))
theorem BfE.back (h : BfE n n' K R R' j k T) : ∀ (i : Nat) (x : PrP),0 < i → ((0,0,0,0) :: T : List PrP)[i]? = some x → x.2.2.1 < i ∧ x.2.2.2 < 256 := fun i x hi hx => by
 obtain ⟨Q,hQ,hm⟩ := h
 cases i with
 | zero => omega
 | succ i =>
  rw [List.getElem?_cons_succ] at hx
  obtain ⟨_,_,h3,h4,_⟩ := hm.at' i x hx
  exact ⟨by omega,h4⟩
theorem BfE.way (h : BfE n n' K R R' j k T) (hR : RowsP n K R) (hR' : RowsP n' K R') (hn : 0 < n) (hn' : 0 < n') : ∀ e ∈ T,∃ u : List Nat,(∀ l ∈ u,l < K) ∧ e.1 = runP R 0 u ∧ e.2.1 = runP R' 0 u := fun e he => by
 obtain ⟨Q,hQ,hm⟩ := h
 obtain ⟨i,hi⟩ := List.getElem?_of_mem he
 obtain ⟨_,h2,_,_,y,_,hy⟩ := hm.at' i e hi
 obtain ⟨hr,hl⟩ := hQ.run _ (List.mem_of_getElem? hy)
 have := q2e hR hR' hn hn' _ _ rfl hl
 rw [hr] at this
 dsimp only at this
 rw [q6d h2] at this
 injection this with e1 e2
 exact ⟨_,hl,e1,e2⟩
theorem BfE.few (h : BfE n n' K R R' j k T) : T.length ≤ n * n' := by
 obtain ⟨Q,hQ,hm⟩ := h
 have := hQ.few
 rw [hm.len] at this; omega
theorem BfE.up (h : BfE n n' K R R' j k T) : ∃ Q,BfQ (n * n' + 1) K (rowsQ n n' K R R') j k Q ∧ MtQ n n' T Q ∧ ∀ (ts : List Nat) (i : Nat),upP ((0,0,0,0) :: T) ts i → ∃ y,Q[i]? = some y ∧ y.2 = ts.reverse := by
 obtain ⟨Q,hQ,hm⟩ := h
 refine ⟨Q,hQ,hm,fun ts => ?_⟩
 induction ts with
 | nil =>
  intro i hi
  have : i = 0 := hi
  subst this
  exact ⟨_,hm.zero,rfl⟩
 | cons b ts ih =>
  intro i hi
  obtain ⟨h0,x,hx,hb,hu⟩ := hi
  cases i with
  | zero => omega
  | succ i =>
   rw [List.getElem?_cons_succ] at hx
   obtain ⟨_,_,_,_,y,hy,hz⟩ := hm.at' i x hx
   obtain ⟨y2,hy2,e⟩ := ih _ hu
   rw [hy] at hy2; injection hy2 with hy2
   subst hy2
   exact ⟨_,hz,by dsimp only; rw [List.reverse_cons,e,hb]⟩
theorem q8F (hb : ∀ (i : Nat) (x : PrP),0 < i → ((0,0,0,0) :: T : List PrP)[i]? = some x → x.2.2.1 < i ∧ x.2.2.2 < 256) : ∀ (m i : Nat),i ≤ m → i < T.length + 1 → ∃ ts,upP ((0,0,0,0) :: T) ts i ∧ ts.length ≤ i
 | m,0,_,_ => ⟨[],rfl,Nat.le_refl _⟩
 | 0,i + 1,hm,_ => by omega
 | m + 1,i + 1,hm,hi => by
  have hl : i + 1 < ((0,0,0,0) :: T : List PrP).length := by simpa using hi
  have hx := List.getElem?_eq_getElem hl
  obtain ⟨h1,_⟩ := hb (i + 1) _ (by omega) hx
  obtain ⟨ts,ht,hl2⟩ := q8F hb m (((0,0,0,0) :: T : List PrP)[i + 1]).2.2.1 (by omega) (by omega)
  exact ⟨(((0,0,0,0) :: T : List PrP)[i + 1]).2.2.2 :: ts,⟨by omega,_,hx,rfl,ht⟩,by rw [List.length_cons]; omega⟩
abbrev saysQ (R R' : List (List Nat)) (bs bs' : List Bool) (op : Bool → Bool → Bool) (u : List Nat) : Bool := op (bs.getD (runP R 0 u) false) (bs'.getD (runP R' 0 u) false)
abbrev saysE (bs bs' : List Bool) (op : Bool → Bool → Bool) (x : Nat × Nat) : Bool := op (bs.getD x.1 false) (bs'.getD x.2 false)
def SchA (n n' K : Nat) (R R' : List (List Nat)) (bs bs' : List Bool) (op : Bool → Bool → Bool) (ts : List Nat) (is : Bool) : Prop :=
 (is = true ∧ (∀ l ∈ ts,l < K) ∧ saysQ R R' bs bs' op ts = true ∧ ts.length ≤ n * n' ∧ ∀ u,(∀ l ∈ u,l < K) → saysQ R R' bs bs' op u = true → ¬ ltT u ts) ∨
  (is = false ∧ ts = [] ∧ ∀ u,(∀ l ∈ u,l < K) → saysQ R R' bs bs' op u = false)
variable {bs bs' : List Bool} {op : Bool → Bool → Bool}
theorem BfE.says (h : BfE n n' K R R' j 0 T) (hR : RowsP n K R) (hR' : RowsP n' K R') (hn : 0 < n) (hn' : 0 < n') (hN : ∀ i,i < j → i < T.length + 1 → saysE bs bs' op (metE T i) = false) {u : List Nat} (hu : ∀ l ∈ u,l < K) (hs : saysQ R R' bs bs' op u = true) {Q : List (Nat × List Nat)} (hQ : BfQ (n * n' + 1) K (rowsQ n n' K R R') j 0 Q) (hm : MtQ n n' T Q) : ∃ x,Q[j]? = some x ∧ leT x.2 u := by
 rcases hQ.cover (by omega) _ u rfl hu with ⟨i,y,h1,h2,h3⟩ | ⟨x,h1,h2⟩
 ·have hi : i < T.length + 1 := by have := (List.getElem?_eq_some_iff.1 h1).1; rw [hm.len] at this; exact this
  obtain ⟨y',hy',hst,_⟩ := hm.code hn' hi
  rw [h1] at hy'; injection hy' with hy'
  subst hy'
  have hrun := q2e hR hR' hn hn' _ u rfl hu
  rw [← h2,hst] at hrun
  have hji : j ≤ i := Nat.le_of_not_lt fun hlt => by
   have := hN i hlt hi
   rw [hrun] at this
   exact absurd (this.symm.trans hs) (by decide)
  by_cases e : i = j
  ·subst e; exact ⟨y,h1,h3⟩
  ·have hjl : j < Q.length := by rw [hm.len]; omega
   have o := hQ.ord j i _ y (by omega) (List.getElem?_eq_getElem hjl) h1
   exact ⟨_,List.getElem?_eq_getElem hjl,o.le.trans h3⟩
 ·exact ⟨x,h1,(q6Z _ _).trans h2⟩
theorem BfE.found (h : BfE n n' K R R' j 0 T) (hR : RowsP n K R) (hR' : RowsP n' K R') (hn : 0 < n) (hn' : 0 < n') (hN : ∀ i,i < j → i < T.length + 1 → saysE bs bs' op (metE T i) = false) (hj : j < T.length + 1) (ha : saysE bs bs' op (metE T j) = true) {ts : List Nat} (hu : upP ((0,0,0,0) :: T) ts j) : SchA n n' K R R' bs bs' op ts.reverse true := by
 obtain ⟨Q,hQ,hm,hup⟩ := h.up
 obtain ⟨y,hy,e⟩ := hup ts j hu
 obtain ⟨hr,hl⟩ := hQ.run y (List.mem_of_getElem? hy)
 rw [e] at hl hr
 have hrun := q2e hR hR' hn hn' _ _ rfl hl
 obtain ⟨y',hy',hst,_⟩ := hm.code hn' hj
 rw [hy] at hy'; injection hy' with hy'
 subst hy'
 rw [hr,hst] at hrun
 have hlen := hQ.len j y hy
 have hfew := hQ.few
 rw [hm.len] at hfew
 refine .inl ⟨rfl,hl,?_,by rw [← e]; omega,fun u hul hus hlt => ?_⟩
 ·rw [hrun] at ha; exact ha
 ·obtain ⟨x,hx,hle⟩ := h.says hR hR' hn hn' hN hul hus hQ hm
  rw [hy] at hx; injection hx with hx
  subst hx
  rw [e] at hle
  exact hle.not hlt
theorem BfE.none (h : BfE n n' K R R' j 0 T) (hR : RowsP n K R) (hR' : RowsP n' K R') (hn : 0 < n) (hn' : 0 < n') (hN : ∀ i,i < j → i < T.length + 1 → saysE bs bs' op (metE T i) = false) (hj : T.length + 1 ≤ j) : SchA n n' K R R' bs bs' op [] false := by
 refine .inr ⟨rfl,rfl,fun u hu => ?_⟩
 cases hs : saysQ R R' bs bs' op u with
 | false => rfl
 | true =>
  obtain ⟨Q,hQ,hm⟩ := h
  obtain ⟨x,hx,_⟩ := BfE.says ⟨Q,hQ,hm⟩ hR hR' hn hn' hN hu hs hQ hm
  rw [List.getElem?_eq_none (by rw [hm.len]; omega)] at hx; cases hx
theorem BfE.all (h : BfE n n' K R R' j 0 T) (hj : T.length + 1 ≤ j) (hn' : 0 < n') (hR' : RowsP n' K R') {i l : Nat} (hi : i < T.length + 1) (hl : l < K) : stp R R' (metE T i) l ∈ pqP T := by
 obtain ⟨Q,hQ,hm⟩ := h
 obtain ⟨y,hy,hs,_,h2⟩ := hm.code hn' hi
 have hyl := hQ.lt y (List.mem_of_getElem? hy)
 obtain ⟨z,hz,e,_⟩ := hQ.met i y l hy hl (.inl (by omega))
 rw [q22 hyl hl,hs] at e
 exact (hm.codes (hR'.lt _ l h2 hl)).1 (by rw [← e]; exact List.mem_map_of_mem hz)
def rowsE (R R' : List (List Nat)) (K : Nat) (T : List PrP) : List (List Nat) := (List.range (T.length + 1)).map (rowEb R R' K T)
theorem q2y {i : Nat} (hi : i < T.length + 1) : (rowsE R R' K T).getD i [] = rowEb R R' K T i := by
 rw [rowsE,List.getD_eq_getElem?_getD,List.getElem?_map,List.getElem?_range hi]; rfl
theorem q3D {i l : Nat} (hl : l < K) : (rowEb R R' K T i).getD l 0 = nmE T (stp R R' (metE T i) l) := by
 rw [rowEb,List.getD_eq_getElem?_getD,List.getElem?_map,List.getElem?_range hl]; rfl
theorem q1C (i : Nat) : (rowEb R R' K T i).length = K := by simp [rowEb]
theorem q21 {i l : Nat} (hi : i < T.length + 1) (hl : l < K) : trP (rowsE R R' K T) i l = nmE T (stp R R' (metE T i) l) := by
 rw [trP,q2y hi,q3D hl]
theorem q3E (h : ∀ i l,i < T.length + 1 → l < K → stp R R' (metE T i) l ∈ pqP T) : PrR (T.length + 1) K (rowsE R R' K T) R R' (metE T) := by
 refine ⟨⟨by simp [rowsE],fun s hs => by rw [q2y hs,q1C],fun s l hs hl => by rw [q21 hs hl]; exact q63 (h s l hs hl)⟩,rfl,fun s l hs hl => ?_⟩
 rw [q21 hs hl,qaj (h s l hs hl)]; rfl
theorem q45 {i : Nat} (hi : i < T.length + 1) {Tf : List PrP} : ∀ k,k ≤ K → goE R R' T i k <+: Tf → ((rowEb R R' K Tf i).take k).foldl putR (List.range (T.length + 1)) = List.range ((goE R R' T i k).length + 1)
 | 0,_,_ => rfl
 | k + 1,hk,hp => by
  have hp0 : goE R R' T i k <+: Tf := (by rw [qW] at hp; exact (q35 _ _ _ _).trans hp)
  have hmt : metE Tf i = metE T i := qX ((q1s R R' T i k).trans hp0) hi
  rw [q1D _ _ (by rw [q1C]; omega),q45 hi k (by omega) hp0,q3D (by omega),hmt]
  rw [qW] at hp ⊢
  rw [q3c hp (q58 _ _ _ _),← q76]
  generalize goE R R' T i k = G
  unfold putEb
  split
  ·rename_i hx
   rw [putR,if_pos (List.mem_range.2 (q63 hx))]
  ·rename_i hx
   rw [q75 hx,putR,if_neg (by simp),List.length_append,List.length_singleton,List.range_succ (n := G.length + 1)]
def RchE (R R' : List (List Nat)) (K j : Nat) (T : List PrP) : Prop := ∀ Tf,T <+: Tf → ∀ f,rchP (rowsE R R' K Tf) (f + j) 0 [0] = rchP (rowsE R R' K Tf) f j (List.range (T.length + 1))
theorem q7M : RchE R R' K 0 [] := fun Tf _ f => by rfl
theorem RchE.row (h : RchE R R' K j T) (hj : j < T.length + 1) : RchE R R' K (j + 1) (goE R R' T j K) := fun Tf hp f => by
 have hp0 := (q1s R R' T j K).trans hp
 have hl := hp0.length_le
 rw [show f + (j + 1) = (f + 1) + j by omega,h Tf hp0,qY _ _ (by simpa using hj),q1z hj,q2y (by omega)]
 have := q45 (R := R) (R' := R') (K := K) hj (Tf := Tf) K (Nat.le_refl _) hp
 rw [List.take_of_length_le (by rw [q1C]; omega)] at this
 rw [this]
theorem RchE.done (h : RchE R R' K (T.length + 1) T) : rchP (rowsE R R' K T) (T.length + 1) 0 [0] = List.range (T.length + 1) := by
 have := h T List.prefix_rfl 0
 rw [Nat.zero_add] at this
 rw [this]; rfl
theorem qs {α : Type} (l : List α) (i j : Nat) (a d : α) (hi : i < l.length) : (l.set i a).getD j d = if j = i then a else l.getD j d := by
 rw [List.getD_eq_getElem?_getD,List.getD_eq_getElem?_getD,List.getElem?_set]
 by_cases e : i = j
 ·subst e; simp [hi]
 ·rw [if_neg e,if_neg (fun h => e h.symm)]
theorem q1d {α : Type} (l : List α) (a d : α) (j : Nat) : (l ++ [a]).getD j d = if j = l.length then a else l.getD j d := by
 rw [List.getD_eq_getElem?_getD,List.getD_eq_getElem?_getD]
 by_cases h : j < l.length
 ·rw [List.getElem?_append_left h,if_neg (by omega)]
 ·rw [List.getElem?_append_right (by omega)]
  by_cases e : j = l.length
  ·subst e; simp
  ·rw [if_neg e,List.getElem?_eq_none (by simp; omega),List.getElem?_eq_none (by omega)]
def sofH (of X : List Nat) (c n : Nat) : List Nat := X.foldl (fun o s => if o.getD s 0 = c then o.set s n else o) of
theorem q8x (of X : List Nat) (c n s : Nat) : sofH of (X ++ [s]) c n = if (sofH of X c n).getD s 0 = c then (sofH of X c n).set s n else sofH of X c n := by
 simp [sofH]
theorem q9N (of : List Nat) (c n : Nat) : ∀ (X : List Nat),(sofH of X c n).length = of.length := by
 intro X
 induction X generalizing of with
 | nil => rfl
 | cons x X ih =>
  show (sofH (if of.getD x 0 = c then of.set x n else of) X c n).length = _
  rw [ih]; split <;> simp
theorem q2z {c n : Nat} (hcn : c ≠ n) : ∀ (X of : List Nat),(∀ x ∈ X,x < of.length) → ∀ s,(sofH of X c n).getD s 0 = if s ∈ X ∧ of.getD s 0 = c then n else of.getD s 0
 | [],of,_,s => by simp [sofH]
 | x :: X,of,hX,s => by
  have hx : x < of.length := hX x (by simp)
  show (sofH (if of.getD x 0 = c then of.set x n else of) X c n).getD s 0 = _
  rw [q2z hcn X _ (fun y hy => by
   have := hX y (by simp [hy])
   split <;> simpa using this) s]
  by_cases e : of.getD x 0 = c
  ·rw [if_pos e,qs _ _ _ _ _ hx]
   by_cases es : s = x
   ·subst es
    rw [if_pos rfl,if_neg (fun h => hcn h.2.symm),if_pos ⟨by simp,e⟩]
   ·rw [if_neg es]
    simp [es]
  ·rw [if_neg e]
   by_cases es : s = x
   ·subst es
    rw [if_neg (fun h => e h.2),if_neg (fun h => e h.2)]
   ·simp [es]
theorem q7G {l m : List Nat} (hl : l.Nodup) (hs : ∀ x ∈ l,x ∈ m) (h : m.length ≤ l.length) : ∀ x ∈ m,x ∈ l := by
 intro x hx
 refine Classical.byContradiction fun hn => ?_
 have h1 : (x :: l).Nodup := List.nodup_cons.2 ⟨hn,hl⟩
 have h2 := q1g h1 (m := m) (fun y hy => by
  rcases List.mem_cons.1 hy with rfl | hy
  ·exact hx
  ·exact hs y hy)
 simp at h2; omega
structure PrtH (S : Nat) (of : List Nat) (ins : List (List Nat)) : Prop where
 len : of.length = S
 lt : ∀ s,s < S → of.getD s 0 < ins.length
 nd : ∀ c,c < ins.length → (ins.getD c []).Nodup
 mem : ∀ c s,c < ins.length → (s ∈ ins.getD c [] ↔ s < S ∧ of.getD s 0 = c)
 ne : ∀ c,c < ins.length → ins.getD c [] ≠ []
theorem PrtH.few {S : Nat} {of : List Nat} {ins : List (List Nat)} (h : PrtH S of ins) : ins.length ≤ S := by
 have hx : ∀ c,c < ins.length → (ins.getD c []).headD 0 ∈ ins.getD c [] := fun c hc => by
  have := h.ne c hc
  cases e : ins.getD c [] with
  | nil => exact absurd e this
  | cons a l => simp
 have h1 : ((List.range ins.length).map fun c => (ins.getD c []).headD 0).Nodup := by
  refine List.Pairwise.map _ (fun a b hab => ?_) (List.Pairwise.and_mem.1 (List.nodup_range (n := ins.length)))
  obtain ⟨ha,hb,hne⟩ := hab
  rw [List.mem_range] at ha hb
  intro e
  have e1 := ((h.mem a _ ha).1 (hx a ha)).2
  have e2 := ((h.mem b _ hb).1 (hx b hb)).2
  rw [e,e2] at e1
  exact hne e1.symm
 have := qr (n := S) h1 (fun z hz => by
  obtain ⟨c,hc,rfl⟩ := List.mem_map.1 hz
  rw [List.mem_range] at hc
  exact ((h.mem c _ hc).1 (hx c hc)).1)
 simpa using this
def styH (of' : List Nat) (c : Nat) (l : List Nat) : List Nat := l.filter fun s => of'.getD s 0 == c
def lvH (of' : List Nat) (c : Nat) (l : List Nat) : List Nat := l.filter fun s => !(of'.getD s 0 == c)
def spiH (of' : List Nat) (c : Nat) (ins : List (List Nat)) : List (List Nat) := ins.set c (styH of' c (ins.getD c [])) ++ [lvH of' c (ins.getD c [])]
theorem q10 (of' : List Nat) (c : Nat) (ins : List (List Nat)) : (spiH of' c ins).length = ins.length + 1 := by simp [spiH]
theorem q2A {of' : List Nat} {c : Nat} {ins : List (List Nat)} (hc : c < ins.length) (d : Nat) : (spiH of' c ins).getD d [] = if d = ins.length then lvH of' c (ins.getD c []) else if d = c then styH of' c (ins.getD c []) else ins.getD d [] := by
 rw [spiH,q1d,List.length_set,qs _ _ _ _ _ hc]
theorem PrtH.split {S : Nat} {of : List Nat} {ins : List (List Nat)} (h : PrtH S of ins) {X : List Nat} (hX : ∀ x ∈ X,x < S) {c : Nat} (hc : c < ins.length) (h1 : ∃ s,s ∈ X ∧ of.getD s 0 = c) (h2 : ∃ t,t < S ∧ t ∉ X ∧ of.getD t 0 = c) :
  PrtH S (sofH of X c ins.length) (spiH (sofH of X c ins.length) c ins) := by
 have hg := q2z (c := c) (n := ins.length) (by omega) X of (fun x hx => by rw [h.len]; exact hX x hx)
 have hmc := h.mem c
 refine ⟨by rw [q9N,h.len],fun s hs => ?_,fun d hd => ?_,fun d s hd => ?_,fun d hd => ?_⟩
 ·rw [hg,q10]
  have := h.lt s hs
  split <;> omega
 ·rw [q2A hc]
  rw [q10] at hd
  split
  ·exact (h.nd c hc).sublist List.filter_sublist
  ·split
   ·exact (h.nd c hc).sublist List.filter_sublist
   ·exact h.nd d (by omega)
 ·rw [q2A hc,hg]
  rw [q10] at hd
  by_cases e1 : d = ins.length
  ·rw [if_pos e1,lvH,List.mem_filter,hmc s hc,hg]
   subst e1
   constructor
   ·rintro ⟨⟨ha,hb⟩,hd⟩
    refine ⟨ha,?_⟩
    by_cases hsx : s ∈ X
    ·rw [if_pos ⟨hsx,hb⟩]
    ·rw [if_neg (fun h => hsx h.1),hb] at hd; simp at hd
   ·rintro ⟨ha,hb⟩
    have hlt := h.lt s ha
    by_cases hsx : s ∈ X ∧ of.getD s 0 = c
    ·rw [if_pos hsx]
     exact ⟨⟨ha,hsx.2⟩,by simp; omega⟩
    ·rw [if_neg hsx] at hb; omega
  ·rw [if_neg e1]
   by_cases e2 : d = c
   ·rw [if_pos e2,styH,List.mem_filter,hmc s hc,hg]
    subst e2
    constructor
    ·rintro ⟨⟨ha,hb⟩,hd⟩
     exact ⟨ha,by simpa using hd⟩
    ·rintro ⟨ha,hb⟩
     by_cases hsx : s ∈ X ∧ of.getD s 0 = d
     ·rw [if_pos hsx] at hb; omega
     ·have hb' := hb
      rw [if_neg hsx] at hb
      exact ⟨⟨ha,hb⟩,by simpa using hb'⟩
   ·rw [if_neg e2,h.mem d s (by omega)]
    constructor
    ·rintro ⟨ha,hb⟩
     exact ⟨ha,by rw [if_neg (fun h => e2 (hb.symm.trans h.2)),hb]⟩
    ·rintro ⟨ha,hb⟩
     refine ⟨ha,?_⟩
     by_cases hsx : s ∈ X ∧ of.getD s 0 = c
     ·rw [if_pos hsx] at hb; omega
     ·rwa [if_neg hsx] at hb
 ·rw [q2A hc]
  rw [q10] at hd
  obtain ⟨s,hs,hsc⟩ := h1
  obtain ⟨t,ht,htX,htc⟩ := h2
  split
  ·refine List.ne_nil_of_mem (a := s) (List.mem_filter.2 ⟨(hmc s hc).2 ⟨hX s hs,hsc⟩,?_⟩)
   rw [hg,if_pos ⟨hs,hsc⟩]; simp; omega
  ·split
   ·refine List.ne_nil_of_mem (a := t) (List.mem_filter.2 ⟨(hmc t hc).2 ⟨ht,htc⟩,?_⟩)
    rw [hg,if_neg (fun h => htX h.1),htc]; simp
   ·exact h.ne d (by omega)
variable {S K : Nat} {R : List (List Nat)} {bs : List Bool}
def JH (S K : Nat) (R : List (List Nat)) (of : List Nat) (ws : List Bool) (C : List Nat) (k : Nat) : Prop :=
 ∀ s t l,s < S → t < S → l < K → of.getD s 0 = of.getD t 0 → of.getD (trP R s l) 0 = of.getD (trP R t l) 0 ∨ ws.getD (of.getD (trP R s l) 0) false = true ∨ ws.getD (of.getD (trP R t l) 0) false = true ∨ (k ≤ l ∧ ¬ (trP R s l ∈ C ↔ trP R t l ∈ C))
theorem JH.split {of of' : List Nat} {ws ws' : List Bool} {C : List Nat} {k c n : Nat} (h : JH S K R of ws C k) (hR : RowsP S K R) (P : Nat → Prop)
  (hg : ∀ s,s < S → (P s ∧ of.getD s 0 = c ∧ of'.getD s 0 = n) ∨ (¬ (P s ∧ of.getD s 0 = c) ∧ of'.getD s 0 = of.getD s 0)) (hn : ∀ s,s < S → of.getD s 0 ≠ n)
  (h1 : ∀ d,ws.getD d false = true → ws'.getD d false = true) (h2 : ws.getD c false = true → ws'.getD n false = true) (h3 : ws'.getD n false = true ∨ ws'.getD c false = true) : JH S K R of' ws' C k := by
 intro s t l hs ht hl e
 have hu := hR.lt s l hs hl
 have hv := hR.lt t l ht hl
 have e0 : of.getD s 0 = of.getD t 0 := by
  have hns := hn s hs
  have hnt := hn t ht
  rcases hg s hs with ⟨_,a2,a3⟩ | ⟨_,a3⟩ <;> rcases hg t ht with ⟨_,b2,b3⟩ | ⟨_,b3⟩
  ·rw [a2,b2]
  ·rw [a3,b3] at e; exact absurd e.symm hnt
  ·rw [a3,b3] at e; exact absurd e hns
  ·rw [a3,b3] at e; exact e
 have key : ∀ x,x < S → ws.getD (of.getD x 0) false = true → ws'.getD (of'.getD x 0) false = true := fun x hx hw => by
  rcases hg x hx with ⟨_,a2,a3⟩ | ⟨_,a3⟩
  ·rw [a3]; rw [a2] at hw; exact h2 hw
  ·rw [a3]; exact h1 _ hw
 rcases h s t l hs ht hl e0 with h' | h' | h' | h'
 ·rcases hg _ hu with ⟨a1,a2,a3⟩ | ⟨a1,a3⟩ <;> rcases hg _ hv with ⟨b1,b2,b3⟩ | ⟨b1,b3⟩
  ·exact .inl (by rw [a3,b3])
  ·rw [a2] at h'
   rw [a3,b3,← h']
   rcases h3 with h3 | h3
   ·exact .inr (.inl h3)
   ·exact .inr (.inr (.inl h3))
  ·rw [b2] at h'
   rw [a3,b3,h']
   rcases h3 with h3 | h3
   ·exact .inr (.inr (.inl h3))
   ·exact .inr (.inl h3)
  ·exact .inl (by rw [a3,b3,h'])
 ·exact .inr (.inl (key _ hu h'))
 ·exact .inr (.inr (.inl (key _ hv h')))
 ·exact .inr (.inr (.inr h'))
structure HopH (S K : Nat) (R : List (List Nat)) (bs : List Bool) (C : List Nat) (k : Nat) (of : List Nat) (ins : List (List Nat)) (ws : List Bool) (qu : List Nat) : Prop where
 prt : PrtH S of ins
 far : ∀ s t,s < S → t < S → AlikeP K R bs s t → of.getD s 0 = of.getD t 0
 j : JH S K R of ws C k
 wl : ws.length = ins.length
 wq : ∀ d,ws.getD d false = true → d ∈ qu
 ql : ∀ d ∈ qu,d < ins.length
def swH (ws : List Bool) (c : Nat) (ge : Bool) : List Bool := (ws ++ [false]).set (if ge then ws.length else c) true
theorem qaH {ws : List Bool} {c : Nat} {ge : Bool} (hc : c < ws.length) (d : Nat) : (swH ws c ge).getD d false = if d = (if ge then ws.length else c) then true else ws.getD d false := by
 rw [swH,qs _ _ _ _ _ (by simp; split <;> omega),q1d]
 by_cases e : d = (if ge then ws.length else c)
 ·rw [if_pos e,if_pos e]
 ·rw [if_neg e,if_neg e]
  by_cases e2 : d = ws.length
  ·rw [if_pos e2,e2,List.getD_eq_getElem?_getD,List.getElem?_eq_none (Nat.le_refl _)]; rfl
  ·rw [if_neg e2]
theorem HopH.split {C : List Nat} {k : Nat} {of : List Nat} {ins : List (List Nat)} {ws : List Bool} {qu : List Nat} (h : HopH S K R bs C k of ins ws qu) (hR : RowsP S K R) {X : List Nat} (hX : ∀ x ∈ X,x < S) (ha : ∀ s t,s < S → t < S → AlikeP K R bs s t → (s ∈ X ↔ t ∈ X)) {c : Nat} (hc : c < ins.length) (h1 : ∃ s,s ∈ X ∧ of.getD s 0 = c) (h2 : ∃ t,t < S ∧ t ∉ X ∧ of.getD t 0 = c) {ge : Bool} (hge : ws.getD c false = true → ge = true) :
  HopH S K R bs C k (sofH of X c ins.length) (spiH (sofH of X c ins.length) c ins) (swH ws c ge) (qu ++ [if ge then ins.length else c]) := by
 have hg := q2z (c := c) (n := ins.length) (by omega) X of (fun x hx => by rw [h.prt.len]; exact hX x hx)
 have hw := qaH (ws := ws) (c := c) (ge := ge) (by rw [h.wl]; exact hc)
 refine ⟨h.prt.split hX hc h1 h2,fun s t hs ht hst => ?_,?_,?_,fun d hd => ?_,fun d hd => ?_⟩
 ·have e := h.far s t hs ht hst
  have e2 := ha s t hs ht hst
  rw [hg,hg,e]
  simp only [e2]
 ·refine h.j.split hR (fun s => s ∈ X) (c := c) (n := ins.length) (fun s hs => ?_) (fun s hs => by have := h.prt.lt s hs; omega) (fun d hd => ?_) (fun hd => ?_) ?_
  ·rw [hg]
   by_cases e : s ∈ X ∧ of.getD s 0 = c
   ·exact .inl ⟨e.1,e.2,by rw [if_pos e]⟩
   ·exact .inr ⟨e,by rw [if_neg e]⟩
  ·rw [hw]
   by_cases e : d = (if ge then ws.length else c)
   ·rw [if_pos e]
   ·rw [if_neg e]; exact hd
  ·rw [hw,hge hd,← h.wl]; simp
  ·cases ge with
   | true => exact .inl (by rw [hw,← h.wl]; simp)
   | false => exact .inr (by rw [hw]; simp)
 ·rw [q10,swH]; simp [h.wl]
 ·rw [hw] at hd
  rw [List.mem_append,List.mem_singleton,← h.wl]
  by_cases e : d = (if ge then ws.length else c)
  ·exact .inr e
  ·rw [if_neg e] at hd; exact .inl (h.wq d hd)
 ·rw [q10]
  rcases List.mem_append.1 hd with hd | hd
  ·have := h.ql d hd; omega
  ·rw [List.mem_singleton] at hd
   rw [hd]; split <;> omega
def mnH (of X : List Nat) (c : Nat) : Nat := X.countP fun s => of.getD s 0 == c
theorem q73 {of X : List Nat} {c : Nat} : 0 < mnH of X c ↔ ∃ s,s ∈ X ∧ of.getD s 0 = c := by
 rw [mnH,List.countP_pos_iff]; simp
theorem q72 {of : List Nat} {ins : List (List Nat)} (h : PrtH S of ins) {X : List Nat} (hX : ∀ x ∈ X,x < S) (hn : X.Nodup) {c : Nat} (hc : c < ins.length) : mnH of X c ≤ (ins.getD c []).length ∧ (mnH of X c < (ins.getD c []).length ↔ ∃ t,t < S ∧ t ∉ X ∧ of.getD t 0 = c) := by
 have hf : (X.filter fun s => of.getD s 0 == c).Nodup := hn.sublist List.filter_sublist
 have hs : ∀ x ∈ X.filter (fun s => of.getD s 0 == c),x ∈ ins.getD c [] := fun x hx => by
  rw [List.mem_filter] at hx
  exact (h.mem c x hc).2 ⟨hX x hx.1,by simpa using hx.2⟩
 have hle := q1g hf hs
 rw [mnH,List.countP_eq_length_filter]
 refine ⟨hle,fun hlt => ?_,fun ⟨t,h1,h2,h3⟩ => ?_⟩
 ·refine Classical.byContradiction fun hno => ?_
  have hs2 : ∀ x ∈ ins.getD c [],x ∈ X.filter (fun s => of.getD s 0 == c) := fun x hx => by
   have := (h.mem c x hc).1 hx
   refine List.mem_filter.2 ⟨Classical.byContradiction fun hxX => hno ⟨x,this.1,hxX,this.2⟩,by simpa using this.2⟩
  have := q1g (h.nd c hc) hs2
  omega
 ·refine Nat.lt_of_not_le fun hge => ?_
  have := q7G hf hs hge t ((h.mem c t hc).2 ⟨h1,h3⟩)
  exact h2 (List.mem_filter.1 this).1
structure PartH (S K : Nat) (R : List (List Nat)) (bs : List Bool) (C : List Nat) (k : Nat) (of0 : List Nat) (ins0 : List (List Nat)) (qu0 X : List Nat) (c : Nat) (of : List Nat) (ins : List (List Nat)) (ws : List Bool) (qu : List Nat) : Prop where
 hop : HopH S K R bs C k of ins ws qu
 le : ins0.length ≤ ins.length
 iff : ∀ s t,s < S → t < S → (of.getD s 0 = of.getD t 0 ↔ of0.getD s 0 = of0.getD t 0 ∧ (of0.getD s 0 < c → (s ∈ X ↔ t ∈ X)))
 old : ∀ s,s < S → c ≤ of0.getD s 0 → of.getD s 0 = of0.getD s 0
 oldi : ∀ d,c ≤ d → d < ins0.length → ins.getD d [] = ins0.getD d []
 cnt : qu.length + ins0.length = qu0.length + ins.length
variable {C : List Nat} {k : Nat} {of0 of : List Nat} {ins0 ins : List (List Nat)} {ws : List Bool} {qu0 qu X : List Nat} {c : Nat}
theorem q6F (h : HopH S K R bs C k of ins ws qu) (X : List Nat) : PartH S K R bs C k of ins qu X 0 of ins ws qu :=
 ⟨h,Nat.le_refl _,fun s t hs ht => ⟨fun e => ⟨e,fun h => by omega⟩,fun e => e.1⟩,fun _ _ _ => rfl,fun _ _ _ => rfl,rfl⟩
theorem PartH.skip (h : PartH S K R bs C k of0 ins0 qu0 X c of ins ws qu) (h0 : PrtH S of0 ins0) (hX : ∀ x ∈ X,x < S) (hn : X.Nodup) (hc : c < ins0.length) (hno : ¬ (0 < mnH of0 X c ∧ mnH of0 X c < (ins.getD c []).length)) : PartH S K R bs C k of0 ins0 qu0 X (c + 1) of ins ws qu := by
 refine ⟨h.hop,h.le,fun s t hs ht => ?_,fun s hs hcs => h.old s hs (by omega),fun d hd => h.oldi d (by omega),h.cnt⟩
 rw [h.iff s t hs ht]
 refine ⟨fun ⟨e1,e2⟩ => ⟨e1,fun hlt => ?_⟩,fun ⟨e1,e2⟩ => ⟨e1,fun hlt => e2 (by omega)⟩⟩
 by_cases e : of0.getD s 0 < c
 ·exact e2 e
 ·have ec : of0.getD s 0 = c := by omega
  rw [h.oldi c (Nat.le_refl _) hc] at hno
  have hall := q72 h0 hX hn hc
  have htc : of0.getD t 0 = c := by rw [← e1,ec]
  by_cases hp : 0 < mnH of0 X c
  ·have hnl : ¬ ∃ t,t < S ∧ t ∉ X ∧ of0.getD t 0 = c := fun hx => hno ⟨hp,hall.2.2 hx⟩
   have m1 : s ∈ X := Classical.byContradiction fun hx => hnl ⟨s,hs,hx,ec⟩
   have m2 : t ∈ X := Classical.byContradiction fun hx => hnl ⟨t,ht,hx,htc⟩
   simp [m1,m2]
  ·rw [q73] at hp
   have m1 : s ∉ X := fun hx => hp ⟨s,hx,ec⟩
   have m2 : t ∉ X := fun hx => hp ⟨t,hx,htc⟩
   simp [m1,m2]
theorem PartH.cls (h : PartH S K R bs C k of0 ins0 qu0 X c of ins ws qu) (h0 : PrtH S of0 ins0) (hc : c < ins0.length) {s : Nat} (hs : s < S) : of.getD s 0 = c ↔ of0.getD s 0 = c := by
 refine ⟨fun e => ?_,fun e => by rw [h.old s hs (by omega),e]⟩
 have hne := h0.ne c hc
 obtain ⟨t,ht⟩ := List.exists_mem_of_ne_nil _ hne
 have ht2 := (h0.mem c t hc).1 ht
 have e3 := h.old t ht2.1 (by omega)
 have := ((h.iff s t hs ht2.1).1 (by rw [e,e3,ht2.2])).1
 rw [this,ht2.2]
theorem PartH.split (h : PartH S K R bs C k of0 ins0 qu0 X c of ins ws qu) (h0 : PrtH S of0 ins0) (hR : RowsP S K R) (hX : ∀ x ∈ X,x < S) (hn : X.Nodup) (ha : ∀ s t,s < S → t < S → AlikeP K R bs s t → (s ∈ X ↔ t ∈ X)) (hc : c < ins0.length) (h1 : 0 < mnH of0 X c) (h2 : mnH of0 X c < (ins.getD c []).length) {ge : Bool} (hge : ws.getD c false = true → ge = true) :
  PartH S K R bs C k of0 ins0 qu0 X (c + 1) (sofH of X c ins.length) (spiH (sofH of X c ins.length) c ins) (swH ws c ge) (qu ++ [if ge then ins.length else c]) := by
 have hcl : c < ins.length := by have := h.le; omega
 have hg := q2z (c := c) (n := ins.length) (by omega) X of (fun x hx => by rw [h.hop.prt.len]; exact hX x hx)
 rw [h.oldi c (Nat.le_refl _) hc] at h2
 have hcs := fun {s : Nat} (hs : s < S) => h.cls h0 hc hs
 have hall := (q72 h0 hX hn hc).2.1 h2
 obtain ⟨x,hx1,hx2⟩ := q73.1 h1
 obtain ⟨y,hy1,hy2,hy3⟩ := hall
 have hlt := h.hop.prt.lt
 refine ⟨h.hop.split hR hX ha hcl ⟨x,hx1,(hcs (hX x hx1)).2 hx2⟩ ⟨y,hy1,hy2,(hcs hy1).2 hy3⟩ hge,by rw [q10]; have := h.le; omega,fun s t hs ht => ?_,fun s hs hcs2 => ?_,fun d hd hd2 => ?_,?_⟩
 ·have hi := h.iff s t hs ht
  have ls := hlt s hs
  have lt := hlt t ht
  have cs := hcs hs
  have ct := hcs ht
  rw [hg,hg]
  by_cases es : of.getD s 0 = c <;> by_cases et : of.getD t 0 = c
  ·have hlc := h.le
   rw [cs.1 es,ct.1 et]
   simp only [es,et,and_true,true_and,Nat.lt_succ_self,true_imp_iff]
   by_cases m1 : s ∈ X <;> by_cases m2 : t ∈ X <;> simp [m1,m2] <;> omega
  ·have hne : of0.getD s 0 ≠ of0.getD t 0 := fun e => et (ct.2 (by rw [← e,cs.1 es]))
   refine ⟨fun e => absurd e ?_,fun e => absurd e.1 hne⟩
   rw [if_neg (fun hh : t ∈ X ∧ of.getD t 0 = c => et hh.2)]
   split
   ·omega
   ·omega
  ·have hne : of0.getD s 0 ≠ of0.getD t 0 := fun e => es (cs.2 (by rw [e,ct.1 et]))
   refine ⟨fun e => absurd e ?_,fun e => absurd e.1 hne⟩
   rw [if_neg (fun hh : s ∈ X ∧ of.getD s 0 = c => es hh.2)]
   split
   ·omega
   ·omega
  ·rw [if_neg (fun hh => es hh.2),if_neg (fun hh => et hh.2),hi]
   have e0 : of0.getD s 0 ≠ c := fun e => es (cs.2 e)
   refine ⟨fun ⟨a,b⟩ => ⟨a,fun hh => b (by omega)⟩,fun ⟨a,b⟩ => ⟨a,fun hh => b (by omega)⟩⟩
 ·have := h.old s hs (by omega)
  rw [hg,if_neg (fun hh => by omega),this]
 ·rw [q2A hcl,if_neg (by have := h.le; omega),if_neg (by omega),h.oldi d (by omega) hd2]
 ·have := h.cnt
  rw [q10,List.length_append,List.length_singleton]; omega
theorem PartH.done (h : PartH S K R bs C k of0 ins0 qu0 X ins0.length of ins ws qu) (h0 : PrtH S of0 ins0) {s t : Nat} (hs : s < S) (ht : t < S) : of.getD s 0 = of.getD t 0 ↔ of0.getD s 0 = of0.getD t 0 ∧ (s ∈ X ↔ t ∈ X) := by
 rw [h.iff s t hs ht]
 exact ⟨fun ⟨a,b⟩ => ⟨a,b (h0.lt s hs)⟩,fun ⟨a,b⟩ => ⟨a,fun _ => b⟩⟩
theorem HopH.letter (h : HopH S K R bs C k of ins ws qu) (hX : ∀ s,s < S → k < K → (s ∈ X ↔ trP R s k ∈ C)) (hi : ∀ s t,s < S → t < S → of.getD s 0 = of.getD t 0 → (s ∈ X ↔ t ∈ X)) : HopH S K R bs C (k + 1) of ins ws qu := by
 refine ⟨h.prt,h.far,fun s t l hs ht hl e => ?_,h.wl,h.wq,h.ql⟩
 rcases h.j s t l hs ht hl e with h' | h' | h' | ⟨h1,h2⟩
 ·exact .inl h'
 ·exact .inr (.inl h')
 ·exact .inr (.inr (.inl h'))
 ·by_cases ek : l = k
  ·subst ek
   have := hi s t hs ht e
   rw [hX s hs hl,hX t ht hl] at this
   exact absurd this h2
  ·exact .inr (.inr (.inr ⟨by omega,h2⟩))
theorem HopH.pop {C0 : List Nat} {qu1 : List Nat} {c : Nat} (h : HopH S K R bs C0 K of ins ws (qu1 ++ [c])) (hR : RowsP S K R) : HopH S K R bs (ins.getD c []) 0 of ins (ws.set c false) qu1 := by
 have hc : c < ins.length := h.ql c (by simp)
 have hw : ∀ d,(ws.set c false).getD d false = if d = c then false else ws.getD d false := fun d => qs _ _ _ _ _ (by rw [h.wl]; exact hc)
 refine ⟨h.prt,h.far,fun s t l hs ht hl e => ?_,by simp [h.wl],fun d hd => ?_,fun d hd => h.ql d (by simp [hd])⟩
 ·have hu := hR.lt s l hs hl
  have hv := hR.lt t l ht hl
  have mu := h.prt.mem c (trP R s l) hc
  have mv := h.prt.mem c (trP R t l) hc
  by_cases e0 : of.getD (trP R s l) 0 = of.getD (trP R t l) 0
  ·exact .inl e0
  ·rw [hw,hw]
   rcases h.j s t l hs ht hl e with h' | h' | h' | ⟨h1,_⟩
   ·exact .inl h'
   ·by_cases ec : of.getD (trP R s l) 0 = c
    ·refine .inr (.inr (.inr ⟨by omega,fun hh => ?_⟩))
     exact e0 (ec.trans (mv.1 (hh.1 (mu.2 ⟨hu,ec⟩))).2.symm)
    ·exact .inr (.inl (by rw [if_neg ec]; exact h'))
   ·by_cases ec : of.getD (trP R t l) 0 = c
    ·refine .inr (.inr (.inr ⟨by omega,fun hh => ?_⟩))
     exact e0 ((mu.1 (hh.2 (mv.2 ⟨hv,ec⟩))).2.trans ec.symm)
    ·exact .inr (.inr (.inl (by rw [if_neg ec]; exact h')))
   ·omega
 ·rw [hw] at hd
  by_cases ec : d = c
  ·rw [if_pos ec] at hd; simp at hd
  ·rw [if_neg ec] at hd
   have := h.wq d hd
   rcases List.mem_append.1 this with h1 | h1
   ·exact h1
   ·rw [List.mem_singleton] at h1; exact absurd h1 ec
theorem HopH.done (h : HopH S K R bs C K of ins ws []) (ha : ∀ s t,s < S → t < S → of.getD s 0 = of.getD t 0 → bs.getD s false = bs.getD t false) : ClsC S K R bs fun s => of.getD s 0 := by
 have hw : ∀ d,ws.getD d false ≠ true := fun d hd => by have := h.wq d hd; simp at this
 refine ⟨ha,fun s t hs ht e l hl => ?_,h.far⟩
 rcases h.j s t l hs ht hl e with h' | h' | h' | ⟨h1,_⟩
 ·exact h'
 ·exact absurd h' (hw _)
 ·exact absurd h' (hw _)
 ·omega
theorem q3Y (hS : 0 < S) (C : List Nat) (k : Nat) : HopH S K R bs C k (List.replicate S 0) [List.range S] [false] [] := by
 have hg : ∀ s,(List.replicate S 0).getD s 0 = 0 := fun s => by
  rw [List.getD_eq_getElem?_getD,List.getElem?_replicate]; split <;> rfl
 refine ⟨⟨by simp,fun s hs => by rw [hg]; simp,fun c hc => ?_,fun c s hc => ?_,fun c hc => ?_⟩,fun s t _ _ _ => by rw [hg,hg],fun s t l hs ht hl e => .inl (by rw [hg,hg]),rfl,fun d hd => ?_,fun d hd => by simp at hd⟩
 ·have : c = 0 := by simpa using hc
  subst this; exact List.nodup_range
 ·have : c = 0 := by simpa using hc
  subst this
  rw [hg]; simp
 ·have : c = 0 := by simpa using hc
  subst this; simp; omega
 ·cases d with
  | zero => simp at hd
  | succ d => simp at hd
end Go.Proofs.Ytcnkgokfjafgkaa
namespace Go.Proofs.Ytcnkgokfjafgkaa
open Go.RowKit Go.Maps
def fitsB (n l : Int) : Bool := decide (0 ≤ n ∧ n ≤ 8) && (l / 2 ^ n.toNat == 0)
theorem q6S {n l : Int} (h : n < 0 ∨ 8 < n) : fitsB n l = false := by
 unfold fitsB; rw [decide_eq_false (by omega)]; rfl
theorem q6T {n l : Int} (h0 : 0 ≤ n) (h8 : n ≤ 8) : fitsB n l = (l / 2 ^ n.toNat == 0) := by
 unfold fitsB; rw [decide_eq_true ⟨h0,h8⟩]; rfl
theorem q2P (n l : Int) (w : World) :
  Calls Try.prog 60 #[.int .i64 n,.int .u8 l] w fun e w' => e = .returned (.bool (fitsB n l)) ∧ w' = w := by
 by_cases h0 : 0 ≤ n
 ·by_cases h8 : n ≤ 8
  ·have HX : Hid _ := q6T (l := l) h0 h8
   go_enter Try.func60,Try.ntmps60
   go_wp2
   go_ret
   exact ⟨by rw [HX.out]; rfl,rfl⟩
  ·have HX : Hid _ := q6S (n := n) (l := l) (by omega)
   go_enter Try.func60,Try.ntmps60
   go_wp2
   go_ret
   exact ⟨by rw [HX.out]; rfl,rfl⟩
 ·have HX : Hid _ := q6S (n := n) (l := l) (by omega)
  go_enter Try.func60,Try.ntmps60
  go_wp2
  go_ret
  exact ⟨by rw [HX.out]; rfl,rfl⟩
end Go.Proofs.Ytcnkgokfjafgkaa
namespace Go.Proofs.Ytcnkgokfjafgkaa
def frH (Y : List (Nat × Nat)) (l : Nat) : List Nat := (Y.filter fun x => x.2 == l).map (·.1)
theorem q96 (Y : List (Nat × Nat)) (x : Nat × Nat) (l : Nat) : frH (Y ++ [x]) l = if l = x.2 then frH Y l ++ [x.1] else frH Y l := by
 unfold frH
 by_cases e : l = x.2
 ·rw [if_pos e]; simp [e]
 ·rw [if_neg e]
  have : (x.2 == l) = false := by simp; exact fun h => e h.symm
  simp [this]
def frL (Y : List (Nat × Nat)) : List (List Nat) := (List.range 256).map (frH Y)
theorem q37 (Y : List (Nat × Nat)) : (frL Y).length = 256 := by simp [frL]
theorem q5W {Y : List (Nat × Nat)} {l : Nat} (h : l < 256) : (frL Y).getD l [] = frH Y l := by
 rw [frL,List.getD_eq_getElem?_getD,List.getElem?_map,List.getElem?_range h]; rfl
theorem q97 (Y : List (Nat × Nat)) (x : Nat × Nat) (hx : x.2 < 256) : (frL Y).set x.2 ((frL Y).getD x.2 [] ++ [x.1]) = frL (Y ++ [x]) := by
 rw [q5W hx]
 apply List.ext_getElem (by simp [frL])
 intro i h1 h2
 rw [List.getElem_set]
 simp only [frL,List.getElem_map,List.getElem_range,q96]
 by_cases e : x.2 = i
 ·rw [if_pos e,if_pos e.symm,e]
 ·rw [if_neg e,if_neg (fun h => e h.symm)]
theorem q2c {α β : Type} (b : β) : ∀ (l : List α),(l.map fun _ => b) = List.replicate l.length b
 | [] => rfl
 | _ :: l => by rw [List.map_cons,q2c b l]; rfl
theorem qa7 : frL [] = List.replicate 256 [] := by
 have := q2c ([] : List Nat) (List.range 256)
 rw [List.length_range] at this
 exact this
structure BkOk (S K : Nat) (R : List (List Nat)) (B : List (List (Nat × Nat))) : Prop where
 nd : ∀ s,s < S → (B.getD s []).Nodup
 mem : ∀ s x l,s < S → ((x,l) ∈ B.getD s [] ↔ x < S ∧ l < K ∧ trP R x l = s)
variable {S K : Nat} {R : List (List Nat)} {B : List (List (Nat × Nat))}
theorem q6U (h : BkOk S K R B) {C : List Nat} (hC : ∀ s ∈ C,s < S) {x l : Nat} : x ∈ frH (C.flatMap fun s => B.getD s []) l ↔ x < S ∧ l < K ∧ trP R x l ∈ C := by
 unfold frH
 rw [List.mem_map]
 constructor
 ·rintro ⟨⟨y,m⟩,hy,rfl⟩
  rw [List.mem_filter,List.mem_flatMap] at hy
  obtain ⟨⟨s,hs,hm⟩,e⟩ := hy
  have e : m = l := by simpa using e
  subst e
  obtain ⟨h1,h2,h3⟩ := (h.mem s y m (hC s hs)).1 hm
  exact ⟨h1,h2,by rw [h3]; exact hs⟩
 ·rintro ⟨h1,h2,h3⟩
  refine ⟨(x,l),List.mem_filter.2 ⟨List.mem_flatMap.2 ⟨_,h3,(h.mem _ x l (hC _ h3)).2 ⟨h1,h2,rfl⟩⟩,by simp⟩,rfl⟩
theorem q4V (h : BkOk S K R B) {C : List Nat} (hC : ∀ s ∈ C,s < S) (hn : C.Nodup) (l : Nat) : (frH (C.flatMap fun s => B.getD s []) l).Nodup := by
 have h0 : (C.flatMap fun s => B.getD s []).Nodup := by
  rw [List.Nodup,List.pairwise_flatMap]
  refine ⟨fun s hs => h.nd s (hC s hs),?_⟩
  refine (List.Pairwise.and_mem.1 hn).imp fun {a b} hab => ?_
  obtain ⟨ha,hb,hne⟩ := hab
  intro x hx y hy e
  subst e
  obtain ⟨y,m⟩ := x
  have h1 := ((h.mem a y m (hC a ha)).1 hx).2.2
  have h2 := ((h.mem b y m (hC b hb)).1 hy).2.2
  exact hne (h1.symm.trans h2)
 unfold frH
 rw [List.Nodup,List.pairwise_map]
 refine (List.Pairwise.and_mem.1 (h0.sublist List.filter_sublist)).imp fun {a b} hab e => ?_
 obtain ⟨ha,hb,hne⟩ := hab
 rw [List.mem_filter] at ha hb
 have e1 : a.2 = l := by simpa using ha.2
 have e2 : b.2 = l := by simpa using hb.2
 exact hne (Prod.ext e (e1.trans e2.symm))
variable {bs : List Bool} {C : List Nat} {k : Nat} {of : List Nat} {ins : List (List Nat)} {ws : List Bool} {qu : List Nat}
theorem HopH.end' (h : HopH S K R bs C k of ins ws qu) (hk : K ≤ k) (C' : List Nat) : HopH S K R bs C' K of ins ws qu := by
 refine ⟨h.prt,h.far,fun s t l hs ht hl e => ?_,h.wl,h.wq,h.ql⟩
 rcases h.j s t l hs ht hl e with h' | h' | h' | ⟨h1,_⟩
 ·exact .inl h'
 ·exact .inr (.inl h')
 ·exact .inr (.inr (.inl h'))
 ·omega
structure BiE (R R' : List (List Nat)) (K : Nat) (T : List PrP) (n k : Nat) (B : List (List (Nat × Nat))) : Prop where
 nd : ∀ s,(B.getD s []).Nodup
 mem : ∀ s x l,(x,l) ∈ B.getD s [] ↔ gone n k x l ∧ l < K ∧ nmE T (stp R R' (metE T x) l) = s
variable {R R' : List (List Nat)} {K n k : Nat} {T T' : List PrP} {B : List (List (Nat × Nat))}
theorem q85 (R R' : List (List Nat)) (K : Nat) (T : List PrP) : BiE R R' K T 0 0 [] :=
 ⟨fun s => by simp,fun s x l => ⟨fun h => by simp at h,fun h => by have := h.1; unfold gone at this; omega⟩⟩
theorem BiE.pre (h : BiE R R' K T n k B) (hp : T <+: T') (hn : n < T.length + 1 ∨ k = 0 ∧ n ≤ T.length + 1) (hm : ∀ x l,gone n k x l → l < K → stp R R' (metE T x) l ∈ pqP T) : BiE R R' K T' n k B := by
 refine ⟨h.nd,fun s x l => ?_⟩
 rw [h.mem]
 refine ⟨fun ⟨h1,h2,h3⟩ => ⟨h1,h2,?_⟩,fun ⟨h1,h2,h3⟩ => ⟨h1,h2,?_⟩⟩
 ·have hx : x < T.length + 1 := by unfold gone at h1; omega
  rw [qX hp hx,q3c hp (hm x l h1 h2)]; exact h3
 ·have hx : x < T.length + 1 := by unfold gone at h1; omega
  rw [qX hp hx,q3c hp (hm x l h1 h2)] at h3; exact h3
theorem BiE.nil (h : BiE R R' K T n k B) : BiE R R' K T n k (B ++ [[]]) := by
 have e : ∀ s,(B ++ [[]]).getD s [] = B.getD s [] := fun s => by
  rw [q1d]
  split
  ·rename_i e
   rw [e,List.getD_eq_getElem?_getD,List.getElem?_eq_none (Nat.le_refl _)]; rfl
  ·rfl
 exact ⟨fun s => by rw [e]; exact h.nd s,fun s x l => by rw [e]; exact h.mem s x l⟩
theorem BiE.put (h : BiE R R' K T n k B) (hk : k < K) (hs : nmE T (stp R R' (metE T n) k) < B.length) : BiE R R' K T n (k + 1) (B.set (nmE T (stp R R' (metE T n) k)) (B.getD (nmE T (stp R R' (metE T n) k)) [] ++ [(n,k)])) := by
 refine ⟨fun s => ?_,fun s x l => ?_⟩
 ·rw [qs _ _ _ _ _ hs]
  split
  ·rw [List.nodup_append]
   refine ⟨h.nd _,by simp,fun a ha b hb e => ?_⟩
   rw [List.mem_singleton] at hb
   subst hb; subst e
   have := ((h.mem _ n k).1 ha).1
   unfold gone at this; omega
  ·exact h.nd s
 ·rw [qs _ _ _ _ _ hs]
  by_cases e : s = nmE T (stp R R' (metE T n) k)
  ·rw [if_pos e,List.mem_append,h.mem,List.mem_singleton]
   constructor
   ·rintro (⟨h1,h2,h3⟩ | h1)
    ·exact ⟨by unfold gone at *; omega,h2,h3.trans e.symm⟩
    ·injection h1 with h1 h2
     subst h1; subst h2
     exact ⟨by unfold gone; omega,hk,e.symm⟩
   ·rintro ⟨h1,h2,h3⟩
    by_cases e2 : x = n ∧ l = k
    ·exact .inr (by rw [e2.1,e2.2])
    ·exact .inl ⟨by unfold gone at *; omega,h2,h3.trans e⟩
  ·rw [if_neg e,h.mem]
   refine ⟨fun ⟨h1,h2,h3⟩ => ⟨by unfold gone at *; omega,h2,h3⟩,fun ⟨h1,h2,h3⟩ => ⟨?_,h2,h3⟩⟩
   by_cases e2 : x = n ∧ l = k
   ·rw [e2.1,e2.2] at h3; exact absurd h3.symm e
   ·unfold gone at *; omega
theorem BiE.next (h : BiE R R' K T n K B) : BiE R R' K T (n + 1) 0 B :=
 ⟨h.nd,fun s x l => by
  rw [h.mem]
  refine ⟨fun ⟨h1,h2,h3⟩ => ⟨by unfold gone at *; omega,h2,h3⟩,fun ⟨h1,h2,h3⟩ => ⟨by unfold gone at *; omega,h2,h3⟩⟩⟩
theorem BiE.ok (h : BiE R R' K T (T.length + 1) 0 B) : BkOk (T.length + 1) K (rowsE R R' K T) B := by
 refine ⟨fun s _ => h.nd s,fun s x l _ => ?_⟩
 rw [h.mem]
 refine ⟨fun ⟨h1,h2,h3⟩ => ?_,fun ⟨h1,h2,h3⟩ => ⟨by unfold gone; omega,h2,?_⟩⟩
 ·have hx : x < T.length + 1 := by unfold gone at h1; omega
  exact ⟨hx,h2,by rw [q21 hx h2]; exact h3⟩
 ·rw [q21 h1 h2] at h3; exact h3
theorem BkOk.few {S : Nat} {R2 : List (List Nat)} (h : BkOk S K R2 B) (hS : S ≤ 256) (hK : K ≤ 256) {s : Nat} (hs : s < S) : (B.getD s []).length ≤ 100000 := by
 have h1 : ((B.getD s []).map fun x => x.1 * 256 + x.2).Nodup := by
  rw [List.Nodup,List.pairwise_map]
  refine (List.Pairwise.and_mem.1 (h.nd s hs)).imp fun {a b} hab e => ?_
  obtain ⟨ha,hb,hne⟩ := hab
  have h2 := ((h.mem s a.1 a.2 hs).1 ha)
  have h3 := ((h.mem s b.1 b.2 hs).1 hb)
  exact hne (Prod.ext (by omega) (by omega))
 have := qr (n := 65536) h1 (fun z hz => by
  obtain ⟨x,hx,rfl⟩ := List.mem_map.1 hz
  have h2 := ((h.mem s x.1 x.2 hs).1 hx)
  omega)
 rw [List.length_map] at this
 omega
def SchT (p : Int) (L : Nat) (f : List Nat → Bool) (ts : List Nat) (is : Bool) : Prop :=
 (is = true ∧ LtT p ts ∧ f ts = true ∧ ts.length ≤ L ∧ ∀ u,LtT p u → f u = true → ¬ ltT u ts) ∨ (is = false ∧ ts = [] ∧ ∀ u,LtT p u → f u = false)
theorem SchT.congr {p : Int} {L L' : Nat} {f g : List Nat → Bool} {ts : List Nat} {is : Bool} (h : SchT p L f ts is) (hL : L ≤ L') (hfg : ∀ u,LtT p u → f u = g u) : SchT p L' g ts is := by
 rcases h with ⟨h1,h2,h3,h4,h5⟩ | ⟨h1,h2,h3⟩
 ·exact .inl ⟨h1,h2,by rw [← hfg _ h2]; exact h3,by omega,fun u hu hg => h5 u hu (by rw [hfg u hu]; exact hg)⟩
 ·exact .inr ⟨h1,h2,fun u hu => by rw [← hfg u hu]; exact h3 u hu⟩
theorem SchA.t {p : Int} {n n' : Nat} {R R' : List (List Nat)} {bs bs' : List Bool} {op : Bool → Bool → Bool} {ts : List Nat} {is : Bool} (h : SchA n n' (2 ^ p.toNat) R R' bs bs' op ts is) : SchT p (n * n') (fun u => op (bs.getD (runP R 0 u) false) (bs'.getD (runP R' 0 u) false)) ts is := h
abbrev sayT (p : Int) (op : Bool → Bool → Bool) (bs : List Bool) (N : List Gd) (gs : List Int) (cs : List Bool) (M : List Gd) (hs : List Int) (u : List Nat) : Bool := op (acT p bs N gs u) (acT p cs M hs u)
theorem SchT.min {p : Int} {op : Bool → Bool → Bool} {nA nB : Nat} {bs bs' cs cs' : List Bool} {N N' M M' : List Gd} {gs gs' hs hs' : List Int} (h : MinK p nA bs N gs bs' gs' N') (k : MinK p nB cs M hs cs' hs' M') {ts : List Nat} {is : Bool}
  (hS : SchA bs'.length cs'.length (2 ^ p.toNat) (rowsG N' gs' (2 ^ p.toNat)) (rowsG M' hs' (2 ^ p.toNat)) bs' cs' op ts is) : SchT p (nA * nB) (sayT p op bs N gs cs M hs) ts is :=
 hS.t.congr (Nat.mul_le_mul h.few k.few) fun u hu => by
  show op _ _ = op _ _
  rw [h.same u hu,k.same u hu]; rfl
end Go.Proofs.Ytcnkgokfjafgkaa
