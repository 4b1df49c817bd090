/- Texts of the proof, put together: what it uses. -/
import Derived.Test.YtohbphocfkgdcaaY09
import Derived.Test.YtohbphocfkgdcaaY11
import Derived.Test.YtohbphocfkgdcaaY14
import Derived.Test.YtohbphocfkgdcaaY15
set_option maxRecDepth 100000
set_option maxHeartbeats 16000000
namespace Go.Proofs.Ytohbphocfkgdcaa
open Go.RowKit Go.Maps Go.Sort
theorem q1R : ∃ f0 f1,(Try.prog.fieldsOf 29).toList = [f0,f1] ∧ (f0.name = "Env" ∧ f0.type = 27 ∧ f0.offset = 0) ∧ (f1.name = "Sys" ∧ f1.type = 27 ∧ f1.offset = 1) := by
 have hfl : (Try.prog.fieldsOf 29).toList.map (fun f => (f.name,f.type,f.offset)) = [("Env",27,0),("Sys",27,1)] := by kernel_rfl
 cases hl : (Try.prog.fieldsOf 29).toList with
 | nil => rw [hl] at hfl; simp at hfl
 | cons f0 r =>
  cases r with
  | nil => rw [hl] at hfl; simp at hfl
  | cons f1 r =>
   rw [hl] at hfl
   simp at hfl
   obtain ⟨h0,h1,rfl⟩ := hfl
   exact ⟨f0,f1,rfl,h0,h1⟩
theorem q31 (x y : Int) (w : World) : (binOp .eql 29 (.agg #[.int .u8 x,.int .u8 y]) (.agg #[.int .u8 x,.int .u8 y])).run Try.prog w = .ok (.bool true) w := by
 have ht : Try.prog.underlying 29 = some (.struct (Try.prog.fieldsOf 29)) := by kernel_rfl
 have hp : Try.prog.stoodInHeld 29 = false := by kernel_rfl
 rw [run_eql_struct,run_equalIn_agg _ 9999 _ _ _ ht hp]
 obtain ⟨f0,f1,hl,⟨a1,a2,a3⟩,⟨b1,b2,b3⟩⟩ := q1R
 rw [hl]
 simp [Op.eqFields,a1,a2,a3,b1,b2,b3,go_sem,run_equalIn_int _ 9998 _ _ _ _ _ Try.underlying27]
theorem GoeN.uni {p : Int} {nA : Nat} {bs : List Bool} {N : List Gd} {gs : List Int} {e s : Nat} {q X Y : Int} {rs ts : List (List Int)} (h : GoeN p nA bs N gs e s q X rs) (k : GoeN p nA bs N gs e s q Y ts) : X = Y ∧ rs = ts := by
 rcases h with ⟨h1,h2,h3⟩ | ⟨h1,h2,h3,h4⟩ | ⟨h1,h2,i,h3,h4,h5⟩ <;> rcases k with ⟨k1,k2,k3⟩ | ⟨k1,k2,k3,k4⟩ | ⟨k1,k2,j,k3,k4,k5⟩
 ·exact ⟨h2.uni k2,by rw [h3,k3]⟩
 ·exact absurd (h2.uni k1) h1
 ·exact absurd (h2.uni k1) h1
 ·exact absurd (k2.uni h1) k1
 ·exact ⟨by rw [h3,k3],by rw [h4,k4]⟩
 ·exact absurd ⟨by omega,by omega⟩ h2
 ·exact absurd (k2.uni h1) k1
 ·exact absurd ⟨by omega,by omega⟩ k2
 ·obtain rfl : i = j := by omega
  exact ⟨by rw [h2,k2],by rw [h5,k5]⟩
theorem NumN.uni {m v : Nat} {n E n' E' : Int} (h : NumN m v n E) (k : NumN m v n' E') : n = n' ∧ E = E' := by
 rcases h with ⟨h1,h2,i,h3,h4,h5⟩ | ⟨h1,h2,h3⟩ <;> rcases k with ⟨k1,k2,j,k3,k4,k5⟩ | ⟨k1,k2,k3⟩
 ·obtain rfl := q5p h4 k4 (h5.trans k5.symm)
  exact ⟨by rw [h3,k3],by rw [h2,k2]⟩
 ·exact absurd h1 k1
 ·exact absurd k1 h1
 ·exact ⟨by rw [h2,k2],by rw [h3,k3]⟩
abbrev hsV (hs : List Nat) (S : Nat) : List Value := hs.map fun h => .slice (some ⟨h,0,none⟩) S S
structure GoV (w : World) (B : Nat) (a : Option Addr) (L S : Nat) (hs : List Nat) (rs : List (List Int)) : Prop where
 len : hs.length = L
 row : ∀ j,j < L → RowI w 3 (hs.getD j 0) (rs.getD j [])
 rlen : ∀ j,j < L → (rs.getD j []).length = S
 lo : ∀ j,j < L → B ≤ hs.getD j 0
 inc : ∀ i j,i < j → j < L → hs.getD i 0 < hs.getD j 0
 out : ∀ j,j < L → ∃ g,a = some ⟨g,0,none⟩ ∧ w.cell? ⟨g,j,none⟩ = some (.slice (some ⟨hs.getD j 0,0,none⟩) S S)
 nil : L = 0 → a = none
 bd : L ≤ 256 ∧ S ≤ 256
 val : ∀ j,j < L → ∀ z ∈ rs.getD j [],0 ≤ z ∧ z < 256
 ll : L = rs.length ∧ S = (rs.getD 0 []).length
theorem GoV.up {w w' : World} {B : Nat} {a : Option Addr} {L S : Nat} {hs : List Nat} {rs : List (List Int)} (h : GoV w B a L S hs rs) (hb : Below w.heap.size w w') : GoV w' B a L S hs rs :=
 ⟨h.len,fun j hj => (h.row j hj).up hb,h.rlen,h.lo,h.inc,fun j hj => by obtain ⟨g,e,c⟩ := h.out j hj; exact ⟨g,e,qa c hb⟩,h.nil,h.bd,h.val,h.ll⟩
def GoVR (p : Int) (nA : Nat) (bs : List Bool) (N : List Gd) (gs : List Int) (x y : Nat) (q : Int) (w : World) (e : Ending) (w' : World) : Prop :=
 Below w.heap.size w w' ∧ ∃ (a : Option Addr) (L S : Nat) (hs : List Nat) (X : Int) (rs : List (List Int)),e = .returned (.tuple #[.slice a L L,.int .i64 X]) ∧ Hid (GoeN p nA bs N gs x y q X rs) ∧ Hid (GoV w' w.heap.size a L S hs rs) ∧ Hid (∃ zs : List Zc,ZzSl w' a L L zs ∧ zs.map Zc.zs = rs)
theorem GosR.v {p : Int} {nA : Nat} {bs : List Bool} {N : List Gd} {gs : List Int} {x y : Nat} {q : Int} {w : World} {e : Ending} {w' : World} (h : GosR p nA bs N gs x y q w e w') : GoVR p nA bs N gs x y q w e w' := by
 obtain ⟨hb,X,⟨h0,rfl,hg⟩ | ⟨rfl,hc,k,g,hs,rfl,hk,hgw,hl,rfl,hG⟩⟩ := h
 ·refine ⟨hb,none,0,0,[],X,[],rfl,hg,?_,[],⟨rfl,Nat.le_refl _,by decide,fun _ => rfl,fun x hx => (by cases hx),fun r hr => (by cases hr)⟩,rfl⟩
  exact ⟨rfl,fun j hj => absurd hj (Nat.not_lt_zero _),fun j hj => absurd hj (Nat.not_lt_zero _),fun j hj => absurd hj (Nat.not_lt_zero _),fun i j _ hj => absurd hj (Nat.not_lt_zero _),fun j hj => absurd hj (Nat.not_lt_zero _),fun _ => rfl,⟨by decide,by decide⟩,fun j hj => absurd hj (Nat.not_lt_zero _),⟨rfl,rfl⟩⟩
 ·have h1 := qo x
  have h2 := qo y
  obtain ⟨hM,_,hsp⟩ := hc.ok
  have hr : ∀ j,j < (mvL x).length → ((goeL p N gs x y k).getD j []).length = (mvL y).length := fun j hj => by rw [q1u hj]; simp [goR]
  have hI := q3i hM hk hsp
  have hpos := q1v x
  obtain ⟨hz,hm⟩ := hG.out.zz hl (by omega) (by omega) (by simp [goeL]) hr hI
  refine ⟨hb,some ⟨g,0,none⟩,(mvL x).length,(mvL y).length,hs,0,goeL p N gs x y k,rfl,.inr (.inr ⟨hc,rfl,k,rfl,hk,rfl⟩),?_,_,hz,hm⟩
  refine ⟨hl,fun j hj => hG.out.row j (by omega),hr,fun j hj => by have := hG.out.lt j (by omega); omega,fun i j hij hj => hG.out.inc i j hij (by omega),fun j hj => ⟨g,rfl,?_⟩,fun e => by omega,⟨h1,h2⟩,fun j hj z hz => ?_,⟨by simp [goeL],(hr 0 hpos).symm⟩⟩
  ·rw [q8 hG.out.out j]
   simp [List.getElem?_append_left (show j < (hs.map fun h => Value.slice (some ⟨h,0,none⟩) (mvL y).length (mvL y).length).length by simp; omega),List.getElem?_eq_getElem (show j < hs.length by omega),List.getD_eq_getElem?_getD]
  ·rw [q1u hj] at hz
   obtain ⟨yy,hyy,rfl⟩ := List.mem_map.1 hz
   have k1 := ql (qF hj).2
   have k2 := ql (qD.1 hyy).2
   have h5 : x ||| y = 2 ^ p.toNat - 1 := hsp.2
   have h6 : 0 < 2 ^ p.toNat := Nat.two_pow_pos _
   have h7 : x ≤ x ||| y := Nat.left_le_or
   have h8 : y ≤ x ||| y := Nat.right_le_or
   have h9 := (hM.rows (2 ^ p.toNat)).lt k ((mvL x).getD j 0 ||| yy) hk (Nat.or_lt_two_pow (by omega) (by omega))
   have h10 := hM.s2
   have h11 : trP (rwA p N gs) k ((mvL x).getD j 0 ||| yy) < nA := h9
   omega
theorem q1e {w : World} {ops : Array Oper} {rest : List Oper} {o : Oper} {a : Act} {Q : Exit → Act → World → Prop} (hw : Region.wanted o (yielded ops a.tmps) = true) (s x : Operand)
  (ho : o.op = .call { callee := .builtin .append,args := #[s,x],argTypes := #[34,34] }) (base : Nat)
  (v : Value) (n : Nat) (vs : List Value) (hs : a.eval s = v) (hown : w.ownsRow base 23 1 v n vs) (b : Option Addr) (L S B : Nat) (H : List Nat) (rs : List (List Int)) (hx : a.eval x = .slice b L L) (hG : GoV w B b L S H rs)
  (hn : n ≤ 1000000) (hbase : base ≤ w.heap.size)
  (h : ∀ v' w',w'.ownsRow base 23 1 v' (n + L) (vs ++ hsV H S) → w.grownBy w' v.ownBlock → (L = 0 → v' = v ∧ w' = w) → wpList Try.prog ops Q rest (a.put o.dst v') w') : wpList Try.prog ops Q (o :: rest) a w := by
 have hI : (Try.prog.info? 23).map (fun i => (i.zero,i.size,i.bytes)) = some (some (.slice none 0 0),1,24) := by kernel_rfl
 obtain ⟨i,hi,hz0,hz1,hz2⟩ := info_parts hI
 have hl := hG.len
 have hb := hG.bd
 by_cases h0 : L = 0
 ·have hb0 := hG.nil h0
  subst h0
  subst hb0
  have hy := List.eq_nil_of_length_eq_zero hl
  subst hy
  unfold wpList
  rw [if_pos hw]
  refine Or.inl ?_
  have hrun := run_append_owned_none (P := Try.prog) w base 34 o.type 23 i 1 Try.underlying34 hi v n _ hown
  unfold Oper.wp execOp
  simp only [ho,resolve,invoke,builtin,Sem.run_bind,Sem.run_pure,Result.andThen_ok,List.map_toArray,List.map_cons,List.map_nil,hs,hx,hrun]
  exact h v w (by simpa using hown) (World.grownBy.refl _ _) (fun _ => ⟨rfl,rfl⟩)
 ·obtain ⟨g,hg,_⟩ := hG.out 0 (by omega)
  subst hg
  unfold wpList
  rw [if_pos hw]
  refine Or.inl (wp_append_own w s x 34 ho base 23 i _ 1 24 Try.underlying34 hi hz0 hz1 hz2 rfl (by decide) v n _ hs hown ⟨g,0,none⟩ L L (hsV H S) hx (by simp [hl]) (fun j u hj => ?_) (fun u hu => ?_) (by unfold maxLen; omega) (by omega) hbase ?_)
  ·have hjl : j < H.length := by have := (List.getElem?_eq_some_iff.1 hj).1; simpa using this
   obtain ⟨g2,e2,c2⟩ := hG.out j (by omega)
   injection e2 with e2
   injection e2 with e2
   subst e2
   rw [qb,Nat.zero_add,c2]
   rw [List.getElem?_map,List.getElem?_eq_getElem hjl] at hj
   simpa [List.getD_eq_getElem?_getD,List.getElem?_eq_getElem hjl] using hj
  ·obtain ⟨h2,_,rfl⟩ := List.mem_map.1 hu
   rfl
  ·intro v' w' h1 h2 _
   exact h v' w' h1 h2 (fun e => absurd e h0)
theorem q3v (w : World) (base : Nat) (v : Value) (L S B : Nat) (a b : Option Addr) (H K : List Nat) (rs : List (List Int)) (hown : w.ownsRow base 23 1 v (L + L) (hsV H S ++ hsV K S)) (h1 : GoV w B a L S H rs) (C : Nat) (hHC : ∀ j,j < L → H.getD j 0 < C) (h3 : GoV w C b L S K rs) (h0 : L = 0 → ∃ g c,v = .slice (some ⟨g,0,none⟩) 0 c ∧ g < w.heap.size) :
  Calls Try.prog 25 #[v] w fun e w' => e = .returned (.bool true) ∧ Below w.heap.size w w' := by
 have hbd := h1.bd
 by_cases hL : L = 0
 ·obtain ⟨g,c,rfl,hg⟩ := h0 hL
  have e : ∀ k,k < 0 → False := fun k h => Nat.not_lt_zero _ h
  exact q1z g 0 c (fun _ => none) (fun _ => 0) (fun _ => []) w ⟨fun j k hj => absurd hj (Nat.not_lt_zero _),fun k hk => absurd hk (Nat.not_lt_zero _),fun _ => Nat.zero_le _,fun _ z hz => (by cases hz),Nat.zero_le _⟩ ⟨fun k hk => absurd hk (Nat.not_lt_zero _),fun k hk => absurd hk (Nat.not_lt_zero _),hg⟩
 ·rcases hown.2 with ⟨_,e⟩ | ⟨g,cap,cur,rfl,_,k1,k2,k3,k4,k5⟩
  ·omega
  ·have hg : g < w.heap.size := (Array.getElem?_eq_some_iff.1 k1).1
   have hH := h1.len
   have hK := h3.len
   let F : Nat → Nat := fun j => if j < L then H.getD j 0 else K.getD (j - L) 0
   let R : Nat → List Int := fun j => if j < L then rs.getD j [] else if j < L + L then rs.getD (j - L) [] else []
   have hF1 : ∀ j,j < L → F j = H.getD j 0 := fun j hj => if_pos hj
   have hF2 : ∀ j,L ≤ j → F j = K.getD (j - L) 0 := fun j hj => if_neg (by omega)
   have hR1 : ∀ j,j < L → R j = rs.getD j [] := fun j hj => if_pos hj
   have hR2 : ∀ j,L ≤ j → j < L + L → R j = rs.getD (j - L) [] := fun j hj hj2 => by show (if _ then _ else _) = _; rw [if_neg (by omega),if_pos hj2]
   have hrow : ∀ j,j < L + L → RowI w 3 (F j) (R j) ∧ (R j).length = S ∧ ∀ z ∈ R j,0 ≤ z ∧ z < 256 := fun j hj => by
    by_cases hj2 : j < L
    ·rw [hF1 j hj2,hR1 j hj2]; exact ⟨h1.row j hj2,h1.rlen j hj2,h1.val j hj2⟩
    ·rw [hF2 j (by omega),hR2 j (by omega) hj]; exact ⟨h3.row _ (by omega),h3.rlen _ (by omega),h3.val _ (by omega)⟩
   have hlt : ∀ i j,i < j → j < L + L → F i < F j := fun i j hij hj => by
    by_cases hj2 : j < L
    ·rw [hF1 j hj2,hF1 i (by omega)]; exact h1.inc i j hij hj2
    ·by_cases hi2 : i < L
     ·rw [hF1 i hi2,hF2 j (by omega)]; exact Nat.lt_of_lt_of_le (hHC i hi2) (h3.lo _ (by omega))
     ·rw [hF2 i (by omega),hF2 j (by omega)]; exact h3.inc _ _ (by omega) (by omega)
   have hcell : ∀ j,j < L + L → w.cell? ⟨g,j,none⟩ = some (.slice (some ⟨F j,0,none⟩) S (R j).length) := fun j hj => by
    rw [(hrow j hj).2.1,q8 k1]
    have h5 : cur[j]? = (hsV H S ++ hsV K S)[j]? := by
     rw [← k5,List.getElem?_take,if_pos (by omega)]
     simp
    rw [h5]
    by_cases hj2 : j < L
    ·rw [List.getElem?_append_left (by simp; omega),hF1 j hj2,List.getElem?_map,List.getElem?_eq_getElem (by omega)]
     simp [List.getD_eq_getElem?_getD,List.getElem?_eq_getElem (show j < H.length by omega)]
    ·rw [List.getElem?_append_right (by simp; omega),hF2 j (by omega),List.length_map,hH,List.getElem?_map,List.getElem?_eq_getElem (by omega)]
     simp [List.getD_eq_getElem?_getD,List.getElem?_eq_getElem (show j - L < K.length by omega)]
   refine q1z g (L + L) cap (fun j => some ⟨F j,0,none⟩) (fun _ => S) R w ⟨fun j k hj hk hjk => .inr fun e => ?_,fun k hk e => ?_,fun k => ?_,fun k z hz => ?_,by omega⟩ ⟨fun j hj => hcell j hj,fun j hj => .inr ⟨F j,rfl,(hrow j hj).1⟩,hg⟩
   ·injection e with e
    dsimp only at e
    rcases Nat.lt_trichotomy j k with h | h | h
    ·have := hlt j k h hk; omega
    ·exact hjk h
    ·have := hlt k j h hj; omega
   ·injection e with e
    dsimp only at e
    have h6 := (hrow k hk).1
    rw [e] at h6
    unfold RowI at h6
    rw [k1] at h6
    injection h6 with h6
    injection h6 with _ h6 _
    exact absurd h6 (by decide)
   ·by_cases hk : k < L + L
    ·rw [(hrow k hk).2.1]; omega
    ·have : R k = [] := by show (if _ then _ else _) = _; rw [if_neg (by omega),if_neg hk]
     rw [this]; exact Nat.zero_le _
   ·by_cases hk : k < L + L
    ·have := (hrow k hk).2.2 z hz; omega
    ·have : R k = [] := by show (if _ then _ else _) = _; rw [if_neg (by omega),if_neg hk]
     rw [this] at hz; cases hz
theorem q3x (w : World) (g a b L : Nat) (ts : List Nat) (hL : ts.length = L) (hb : L ≤ 256) (hv : ∀ t ∈ ts,t < 256) (hg : w.heap[g]? = some (.cells #[.slice (some ⟨a,0,none⟩) L L,.slice (some ⟨b,0,none⟩) L L] 38 (0,0))) (ha : LtRow w a (ts.map Int.ofNat)) (hbb : LtRow w b (ts.map Int.ofNat)) (hab : a < b) :
  Calls Try.prog 24 #[.slice (some ⟨g,0,none⟩) 2 2] w fun e w' => e = .returned (.bool true) ∧ Below w.heap.size w w' := by
 have hne : ∀ {x : Nat},LtRow w x (ts.map Int.ofNat) → x ≠ g := fun {x} hx e => by
  subst e
  unfold LtRow at hx
  rw [hg] at hx
  injection hx with hx
  injection hx with _ hx _
  exact absurd hx (by decide)
 have hval : ∀ z ∈ ts.map Int.ofNat,0 ≤ z ∧ z < 256 := fun z hz => by
  obtain ⟨t,ht,rfl⟩ := List.mem_map.1 hz
  have := hv t ht
  exact ⟨Int.natCast_nonneg _,by show (t : Int) < 256; omega⟩
 refine q3w g 2 (fun j => some ⟨if j = 0 then a else b,0,none⟩) (fun _ => L) (fun _ => ts.map Int.ofNat) w ⟨fun j k hj hk hjk => .inr fun e => ?_,fun k hk e => ?_,fun k => by rw [List.length_map]; omega,fun k z hz => hval z hz,by omega⟩ ⟨fun j hj => ?_,fun j hj => .inr ⟨if j = 0 then a else b,rfl,?_⟩,(Array.getElem?_eq_some_iff.1 hg).1⟩
 ·injection e with e
  dsimp only at e
  match j,k,hj,hk with
  | 0,0,_,_ => exact hjk rfl
  | 1,1,_,_ => exact hjk rfl
  | 0,1,_,_ => simp at e; omega
  | 1,0,_,_ => simp at e; omega
 ·injection e with e
  dsimp only at e
  by_cases hk : k = 0
  ·rw [if_pos hk] at e; exact hne ha e
  ·rw [if_neg hk] at e; exact hne hbb e
 ·rw [q8 hg]
  match j,hj with
  | 0,_ => simp [hL]
  | 1,_ => simp [hL]
 ·by_cases hj0 : j = 0
  ·rw [if_pos hj0]; exact ha
  ·rw [if_neg hj0]; exact hbb
theorem q5f (p : Int) (nA : Nat) (bs : List Bool) (N : List Gd) (gs : List Int) (x y : Nat) : ∃ X,ChkN p nA bs N gs x y X := by
 by_cases h1 : MayG p nA N gs
 ·by_cases h2 : bs.getD 0 false = true
  ·exact ⟨12,.inr (.inl ⟨h1,h2,rfl⟩)⟩
  ·have h2 : bs.getD 0 false = false := by simpa using h2
   by_cases h3 : SplitN p.toNat x y
   ·exact ⟨0,.inr (.inr (.inr ⟨h1,h2,h3,rfl⟩))⟩
   ·exact ⟨13,.inr (.inr (.inl ⟨h1,h2,h3,rfl⟩))⟩
 ·exact ⟨12,.inl ⟨h1,rfl⟩⟩
theorem RowS.strL {w : World} {g : Nat} {ss : List ByteArray} {len : Nat} (h : RowS w 9 g (lent ss)) (hl : ss.length = len) (h20 : len ≤ 20) (hz : ∀ k,(ss.getD k ByteArray.empty).size ≤ maxLen) : StrSl Try.prog 30 w (some ⟨g,0,none⟩) len (len + 3) (adOf (some ⟨g,0,none⟩)) ss := by
 have := h.strSl (P := Try.prog) (T := 30) (n := len) Try.underlying30 qt (by rw [qx]; omega) (by rw [qx]; unfold maxLen; omega) (fun s hs => by
  unfold lent at hs
  rcases List.mem_append.1 hs with h | h
  ·obtain ⟨i,hi⟩ := List.getElem?_of_mem h
   have := hz i
   rwa [List.getD_eq_getElem?_getD,hi] at this
  ·have := List.eq_of_mem_replicate h; subst this; simp [maxLen,ByteArray.size_empty])
 rw [qx,← hl,q2x] at this
 rw [← hl]; exact this
theorem RowI.zl {w : World} {g n : Nat} {gs : List Int} (h : RowI w 3 g (lentZ gs)) (hl : gs.length = n) (hb : n ≤ 900000) : ZSl w (some ⟨g,0,none⟩) n (n + 3) gs := by
 have := RowI.zsl (n := n) h Try.underlying23 qe (by rw [qi]; omega) (by rw [qi]; unfold maxLen; omega)
 rw [qi,← hl,q21] at this
 rw [hl] at this
 exact this
theorem q27 (p : Int) (aA : Option Addr) (nA cA : Nat) (aG : Option Addr) (nG cG : Nat) (aN : Option Addr) (nN cN : Nat) (bs : List Bool) (gs : List Int) (N : List Gd) (x y : Nat) (q : Int) (m v : Nat) (a1 : Option Addr) (l1 d1 : Nat) (ss : List ByteArray) (a2 : Option Addr) (l2 d2 : Nat) (os : List ByteArray) (w : World)
  (hB : BoSl w aA nA cA bs) (hG : ZSl w aG nG cG gs) (hN : NdSl w aN nN cN N) (hok : ∀ z ∈ gs,I64 z) (hx : x < 256) (hy : y < 256) (hm : m < 256) (hv : v < 256) (hS : StrSl Try.prog 30 w a1 l1 d1 (adOf a1) ss) (hO : StrSl Try.prog 30 w a2 l2 d2 (adOf a2) os) :
  Calls Try.prog 3 #[.agg #[.int .i64 p,.slice aA nA cA,.slice aG nG cG,.slice aN nN cN],.agg #[.int .u8 (x : Int),.int .u8 (y : Int)],.int .i64 q,.int .u8 (m : Int),.int .u8 (v : Int),.slice a1 l1 d1,.slice a2 l2 d2] w fun e w' => e = .returned (.bool true) ∧ Below w.heap.size w w' := by
 obtain ⟨Q,hQ⟩ : ∃ Q : Ending → World → Prop,Q = fun e w' => e = .returned (.bool true) ∧ Below w.heap.size w w' := ⟨_,rfl⟩
 have HQ : Hid (∀ w',Below w.heap.size w w' → Q (.returned (.bool true)) w') := fun w' h => by rw [hQ]; exact ⟨rfl,h⟩
 rw [← hQ]
 clear hQ
 obtain ⟨w1,hw1⟩ : ∃ w1,w1 = w.alloc (.cells #[.int .i64 p,.slice aA nA cA,.slice aG nG cG,.slice aN nN cN] 26 (0,0)) := ⟨_,rfl⟩
 have hb1 : Below w.heap.size w w1 := by rw [hw1]; exact q9 _ _
 have hA1 : AuB w1 w.heap.size p aA nA cA aG nG cG aN nN cN := by rw [hw1]; exact qd w p aA nA cA aG nG cG aN nN cN
 have HW1 : Hid _ := hw1
 obtain ⟨w2,hw2⟩ : ∃ w2,w2 = w1.alloc (.cells #[.int .u8 (x : Int),.int .u8 (y : Int)] 29 (0,0)) := ⟨_,rfl⟩
 have hb2 : Below w1.heap.size w1 w2 := by rw [hw2]; exact q9 _ _
 have hk2 : w2.heap[w1.heap.size]? = some (.cells #[.int .u8 (x : Int),.int .u8 (y : Int)] 29 (0,0)) := by rw [hw2]; exact (MapKept.heap_alloc w1 _).1
 have HW2 : Hid _ := hw2
 have hb02 : Below w.heap.size w w2 := q7 hb1 hb2
 have HC2 : Hid (∀ w',Below w2.heap.size w2 w' → AuB w' w.heap.size p aA nA cA aG nG cG aN nN cN ∧ w'.heap[w1.heap.size]? = some (.cells #[.int .u8 (x : Int),.int .u8 (y : Int)] 29 (0,0)) ∧ BoSl w' aA nA cA bs ∧ NdSl w' aN nN cN N ∧ ZSl w' aG nG cG gs ∧ StrSl Try.prog 30 w' a1 l1 d1 (adOf a1) ss ∧ StrSl Try.prog 30 w' a2 l2 d2 (adOf a2) os ∧ Below w.heap.size w w') := fun w' hb =>
  ⟨(hA1.up hb2).up hb,(hb.block _ (Array.getElem?_eq_some_iff.1 hk2).1).trans hk2,(hB.up hb02).up hb,(hN.up hb02).up hb,(hG.up hb02).up hb,(hS.up hb02).up hb,(hO.up hb02).up hb,q7 hb02 hb⟩
 have HOK : Hid _ := hok
 have HLN : Hid (bs.length = nA ∧ gs.length = nG ∧ N.length = nN ∧ ss.length = l1 ∧ os.length = l2) := ⟨hB.hlen,hG.hlen,hN.hlen,hS.hlen,hO.hlen⟩
 have HND : Hid _ := hN.ok
 have HSZ : Hid _ := hS.sz
 have HOZ : Hid _ := hO.sz
 have hbl1 := Nat.le_trans hS.hcap hS.bd
 have hbl2 := Nat.le_trans hO.hcap hO.bd
 unfold maxLen at hbl1 hbl2
 have js := q2g p aA nA cA aG nG cG aN nN cN w2
 obtain ⟨c0,c1,c2,c3⟩ := (HC2.out w2 (Below.refl _ _)).1
 clear hB hG hN hok hS hO hw1 hb1 hA1 hw2 hb2 hk2
 by_cases hlg : lgB p nA nG nN = true
 ·rw [hlg] at js
  have HE : Hid (∀ w3,Below w2.heap.size w2 w3 → Q (.returned (.bool true)) w3) := fun w3 h => HQ.out w3 (q7 hb02 h)
  clear HQ hlg hb02
  go_enter Try.func3,Try.ntmps3
  go_wp2_with (first | rw [← HW2.out] | rw [← HW1.out])
  refine js.mono ?_
  rintro e w3 ⟨rfl,hb3⟩
  have HE3 : Hid _ := HE.out w3 hb3
  clear js hb3 HE
  go_wp2
  exact HE3.out
 have hlg0 : lgB p nA nG nN = false := by simpa using hlg
 rw [hlg0] at js
 have HLG : Hid _ := q5j hlg0
 clear hlg hlg0
 by_cases h20 : l1 ≤ 20 ∧ l2 ≤ 20
 rotate_left
 ·have HE : Hid (∀ w3,Below w2.heap.size w2 w3 → Q (.returned (.bool true)) w3) := fun w3 h => HQ.out w3 (q7 hb02 h)
  clear HQ hb02
  by_cases h1 : l1 ≤ 20
  ·have e1 : decide (20 < (l1 : Int)) = false := decide_eq_false (by omega)
   have e2 : decide (20 < (l2 : Int)) = true := decide_eq_true (by omega)
   clear h20 h1
   go_enter Try.func3,Try.ntmps3
   go_wp2_with (first | rw [← HW2.out] | rw [← HW1.out])
   refine js.mono ?_
   rintro e w3 ⟨rfl,hb3⟩
   have HE3 : Hid _ := HE.out w3 hb3
   clear js hb3 HE
   go_wp2
   exact HE3.out
  ·have e1 : decide (20 < (l1 : Int)) = true := decide_eq_true (by omega)
   clear h20 h1
   go_enter Try.func3,Try.ntmps3
   go_wp2_with (first | rw [← HW2.out] | rw [← HW1.out])
   refine js.mono ?_
   rintro e w3 ⟨rfl,hb3⟩
   have HE3 : Hid _ := HE.out w3 hb3
   clear js hb3 HE
   go_wp2
   exact HE3.out
 obtain ⟨h20a,h20b⟩ := h20
 have e1 : decide (20 < (l1 : Int)) = false := decide_eq_false (by omega)
 have e2 : decide (20 < (l2 : Int)) = false := decide_eq_false (by omega)
 clear hb02
 go_enter Try.func3,Try.ntmps3
 go_wp2_with (first | rw [← HW2.out] | rw [← HW1.out])
 refine js.mono ?_
 rintro e w3 ⟨rfl,hb3⟩
 have HB3 : Hid _ := hb3
 clear js hb3 c0 c1 c2 c3 HW1 HW2
 obtain ⟨⟨c0,c1,c2,c3⟩,_,hbo3,hnd3,hzg3,_,_,_⟩ := HC2.out w3 HB3.out
 have j := q1U p aA nA cA aG nG cG aN nN cN bs gs N w3 hbo3 hzg3 hnd3 (by have := HLG.out.2.2.1; omega) (by have := HLG.out.2.2.2.2; omega) (by have := HLG.out.2.2.2.1; omega)
 clear hbo3 hzg3 hnd3
 go_wp2_with fail
 refine j.mono ?_
 rintro e w4 ⟨b1,gb,b2,rfl,r1,r2,r3,hb4,_,_,_⟩
 have HB4 : Hid _ := q7 HB3.out hb4
 have HR4 : Hid (∀ w',Below w4.heap.size w4 w' → BoRow w' b1 (bs ++ zB 3) ∧ RowI w' 3 gb (lentZ gs) ∧ NdRow w' b2 (N ++ zG 3)) := fun w' hb => ⟨r1.up hb,r2.up hb,r3.up hb⟩
 clear j r1 r2 r3 hb4 c0 c1 c2 c3 HB3
 have j := q1E a1 l1 d1 ss w4 (HC2.out w4 HB4.out).2.2.2.2.2.1 h20a
 go_wp2_with fail
 refine j.mono ?_
 rintro e w5 ⟨rfl,t1,hb5⟩
 have HB5 : Hid _ := hb5
 have HT5 : Hid (∀ w',Below w5.heap.size w5 w' → RowS w' 9 w4.heap.size (lent ss)) := fun w' hb => t1.up hb
 clear j t1 hb5
 have j := q1E a2 l2 d2 os w5 (HC2.out w5 (q7 HB4.out HB5.out)).2.2.2.2.2.2.1 h20b
 go_wp2_with fail
 refine j.mono ?_
 rintro e w6 ⟨rfl,t2,hb6⟩
 obtain ⟨w7,hw7⟩ : ∃ w7,w7 = w6.alloc (.cells #[.int .i64 p,.slice (some ⟨b1,0,none⟩) nA (nA + 3),.slice (some ⟨gb,0,none⟩) nG (nG + 3),.slice (some ⟨b2,0,none⟩) nN (nN + 3)] 26 (0,0)) := ⟨_,rfl⟩
 have hb7 : Below w6.heap.size w6 w7 := by rw [hw7]; exact q9 _ _
 have hI7 : AuB w7 w6.heap.size p (some ⟨b1,0,none⟩) nA (nA + 3) (some ⟨gb,0,none⟩) nG (nG + 3) (some ⟨b2,0,none⟩) nN (nN + 3) := by rw [hw7]; exact qd w6 p _ _ _ _ _ _ _ _ _
 have HW7 : Hid _ := hw7
 have HC : Hid (∀ w',Below w7.heap.size w7 w' → (AuB w' w.heap.size p aA nA cA aG nG cG aN nN cN ∧ w'.heap[w1.heap.size]? = some (.cells #[.int .u8 (x : Int),.int .u8 (y : Int)] 29 (0,0)) ∧ AuB w' w6.heap.size p (some ⟨b1,0,none⟩) nA (nA + 3) (some ⟨gb,0,none⟩) nG (nG + 3) (some ⟨b2,0,none⟩) nN (nN + 3)) ∧ (BoSl w' aA nA cA bs ∧ NdSl w' aN nN cN N ∧ ZSl w' aG nG cG gs) ∧ (BoSl w' (some ⟨b1,0,none⟩) nA (nA + 3) bs ∧ NdSl w' (some ⟨b2,0,none⟩) nN (nN + 3) N ∧ ZSl w' (some ⟨gb,0,none⟩) nG (nG + 3) gs) ∧ (BoRow w' b1 (bs ++ zB 3) ∧ RowI w' 3 gb (lentZ gs) ∧ NdRow w' b2 (N ++ zG 3)) ∧ (StrSl Try.prog 30 w' a1 l1 d1 (adOf a1) ss ∧ StrSl Try.prog 30 w' a2 l2 d2 (adOf a2) os) ∧ (RowS w' 9 w4.heap.size (lent ss) ∧ RowS w' 9 w5.heap.size (lent os)) ∧ (StrSl Try.prog 30 w' (some ⟨w4.heap.size,0,none⟩) l1 (l1 + 3) (adOf (some ⟨w4.heap.size,0,none⟩)) ss ∧ StrSl Try.prog 30 w' (some ⟨w5.heap.size,0,none⟩) l2 (l2 + 3) (adOf (some ⟨w5.heap.size,0,none⟩)) os) ∧ Below w.heap.size w w') := fun w' hb => by
  have hb5' := q7 (q7 hb6 hb7) hb
  have hb4' := q7 HB5.out hb5'
  obtain ⟨k1,k2,k3,k4,k5,k6,k7,k8⟩ := HC2.out w' (q7 HB4.out hb4')
  obtain ⟨q1,q2,q3⟩ := HR4.out w' hb4'
  have q4 := HT5.out w' hb5'
  have q5 := (t2.up hb7).up hb
  obtain ⟨n1,n2,n3,n4,n5⟩ := HLN.out
  obtain ⟨_,_,g1,g2,g3⟩ := HLG.out
  exact ⟨⟨k1,k2,hI7.up hb⟩,⟨k3,k4,k5⟩,⟨q1.sl n1 (by omega),q3.sl n3 (by omega) HND.out,q2.zl n2 (by omega)⟩,⟨q1,q2,q3⟩,⟨k6,k7⟩,⟨q4,q5⟩,⟨q4.strL n4 h20a HSZ.out,q5.strL n5 h20b HOZ.out⟩,k8⟩
 clear j t2 hb6 hw7 hb7 hI7 HC2 HR4 HT5 HB4 HB5
 obtain ⟨⟨⟨c0,c1,c2,c3⟩,hsp,⟨i0,i1,i2,i3⟩⟩,_,⟨hbo,hnd,hzg⟩,_,_,_,_,_⟩ := HC.out w7 (Below.refl _ _)
 have s0 := q8 hsp 0
 have s1 := q8 hsp 1
 have j := (qX p (some ⟨b1,0,none⟩) nA (nA + 3) (some ⟨gb,0,none⟩) nG (nG + 3) (some ⟨b2,0,none⟩) nN (nN + 3) bs N gs x y q w7 hbo hnd hzg HOK.out hx hy).mono fun e w' h => h.v
 clear hsp hbo hnd hzg
 go_wp2_with (rw [← HW7.out])
 refine j.mono ?_
 rintro e w8 ⟨hb8,aX,LX,SX,hX,X,rs,rfl,hGN,hGV,hZZ⟩
 have HB8 : Hid (Below w7.heap.size w7 w8) := hb8
 have HGX : Hid (GoV w8 w7.heap.size aX LX SX hX rs) := hGV
 have HZX : Hid (∃ zs : List Zc,ZzSl w8 aX LX LX zs ∧ zs.map Zc.zs = rs) := hZZ
 have HGN : Hid (GoeN p nA bs N gs x y q X rs) := hGN
 clear j hb8 hGN hGV hZZ c0 c1 c2 c3 i0 i1 i2 i3 s0 s1 HW7
 obtain ⟨⟨_,hsp,⟨i0,i1,i2,i3⟩⟩,_,⟨hbo,hnd,hzg⟩,_,_,_,_,_⟩ := HC.out w8 HB8.out
 have s0 := q8 hsp 0
 have s1 := q8 hsp 1
 have j := (qX p (some ⟨b1,0,none⟩) nA (nA + 3) (some ⟨gb,0,none⟩) nG (nG + 3) (some ⟨b2,0,none⟩) nN (nN + 3) bs N gs x y q w8 hbo hnd hzg HOK.out hx hy).mono fun e w' h => h.v
 clear hsp hbo hnd hzg
 go_wp2_with fail
 refine j.mono ?_
 rintro e w9 ⟨hb9,aY,LY,SY,hY,Y,rs2,rfl,hGN,hGV,hZZ⟩
 obtain ⟨e3,e4⟩ := hGN.out.uni HGN.out
 subst e3 e4
 have HB9 : Hid (Below w7.heap.size w7 w9) := q7 HB8.out hb9
 have e5 : LY = LX := by rw [hGV.out.ll.1,HGX.out.ll.1]
 have e6 : SY = SX := by rw [hGV.out.ll.2,HGX.out.ll.2]
 subst e5 e6
 have hXw : ∀ k,k < LY → hX.getD k 0 < w8.heap.size := fun k hk => (HGX.out.row k hk).lt
 have HXW : Hid _ := hXw
 have HGX9 : Hid (GoV w9 w7.heap.size aX LY SY hX rs2) := HGX.out.up hb9
 have HGY9 : Hid (GoV w9 w8.heap.size aY LY SY hY rs2) := hGV
 have HZX9 : Hid (∃ zs : List Zc,ZzSl w9 aX LY LY zs ∧ zs.map Zc.zs = rs2) := by obtain ⟨zs,h1,h2⟩ := HZX.out; exact ⟨zs,h1.up hb9,h2⟩
 have HZY9 : Hid (∃ zs : List Zc,ZzSl w9 aY LY LY zs ∧ zs.map Zc.zs = rs2) := hZZ
 clear j hb9 hGN hGV hZZ i0 i1 i2 i3 s0 s1 HGX HZX hXw
 obtain ⟨⟨⟨c0,c1,c2,c3⟩,hsp,_⟩,⟨hbo,hnd,hzg⟩,_,_,_,_,_,_⟩ := HC.out w9 HB9.out
 have s0 := q8 hsp 0
 have s1 := q8 hsp 1
 have j := q2T p aA nA cA aG nG cG aN nN cN bs N gs x y q w9 hbo hnd hzg (by have := HLG.out.2.2.1; omega) (by have := HLG.out.2.2.2.1; omega) hx hy
 clear hsp hbo hnd hzg
 go_wp2_with fail
 refine j.mono ?_
 rintro e w10 ⟨hb10,aW,nW,cW,Z,zW,rfl,hGN,hZW⟩
 obtain ⟨e3,e4⟩ := hGN.out.uni HGN.out
 subst e3
 have HB10 : Hid (Below w7.heap.size w7 w10) := q7 HB9.out hb10
 have HWZ : Hid (∀ w',Below w10.heap.size w10 w' → ZzSl w' aW nW cW zW) := fun w' hb => hZW.out.up hb
 have HE4 : Hid (zW.map Zc.zs = rs2) := e4
 have HGX10 : Hid (GoV w10 w7.heap.size aX LY SY hX rs2) := HGX9.out.up hb10
 have HGY10 : Hid (GoV w10 w8.heap.size aY LY SY hY rs2) := HGY9.out.up hb10
 have HZX10 : Hid (∃ zs : List Zc,ZzSl w10 aX LY LY zs ∧ zs.map Zc.zs = rs2) := by obtain ⟨zs,h1,h2⟩ := HZX9.out; exact ⟨zs,h1.up hb10,h2⟩
 have HZY10 : Hid (∃ zs : List Zc,ZzSl w10 aY LY LY zs ∧ zs.map Zc.zs = rs2) := by obtain ⟨zs,h1,h2⟩ := HZY9.out; exact ⟨zs,h1.up hb10,h2⟩
 clear j hb10 hGN hZW e4 c0 c1 c2 c3 s0 s1 HGX9 HGY9 HZX9 HZY9 HB9 HB8
 have j := qn m w10 hm
 go_wp2_with fail
 refine j.mono ?_
 rintro e w11 ⟨rfl,hl11,hb11⟩
 have HB11 : Hid (Below w10.heap.size w10 w11) := hb11
 have HM1 : Hid (LtRow w11 w10.heap.size ((mvL m).map Int.ofNat)) := hl11
 clear j hb11 hl11
 have j := qn m w11 hm
 go_wp2_with fail
 refine j.mono ?_
 rintro e w12 ⟨rfl,hl12,hb12⟩
 have HB12 : Hid (Below w10.heap.size w10 w12) := q7 HB11.out hb12
 have HM2 : Hid (LtRow w12 w11.heap.size ((mvL m).map Int.ofNat)) := hl12
 have HM1' : Hid (LtRow w12 w10.heap.size ((mvL m).map Int.ofNat)) := (hb12.block _ (Array.getElem?_eq_some_iff.1 HM1.out).1).trans HM1.out
 have HLT : Hid (w10.heap.size < w11.heap.size) := (Array.getElem?_eq_some_iff.1 HM1.out).1
 clear j hb12 hl12 HM1 HB11
 have j := q1K m v w12 hm hv
 go_wp2_with fail
 refine j.mono ?_
 rintro e w' ⟨hw',n,E,rfl,hN⟩
 obtain rfl := hw'.symm
 clear j hw'
 have j := q1X m v w12 hm hv
 go_wp2_with fail
 refine j.mono ?_
 rintro e w13 ⟨hb13,n2,E2,rfl,hN2⟩
 obtain ⟨e3,e4⟩ := hN2.out.uni hN.out
 subst e3 e4
 have HB13 : Hid (Below w10.heap.size w10 w13) := q7 HB12.out hb13
 have HM1 : Hid (∀ w',Below w13.heap.size w13 w' → LtRow w' w10.heap.size ((mvL m).map Int.ofNat) ∧ LtRow w' w11.heap.size ((mvL m).map Int.ofNat)) := fun w' hb => by
  have k1 := (hb13.block _ (Array.getElem?_eq_some_iff.1 HM1'.out).1).trans HM1'.out
  have k2 := (hb13.block _ (Array.getElem?_eq_some_iff.1 HM2.out).1).trans HM2.out
  exact ⟨(hb.block _ (Array.getElem?_eq_some_iff.1 k1).1).trans k1,(hb.block _ (Array.getElem?_eq_some_iff.1 k2).1).trans k2⟩
 clear j hb13 hN hN2 HM1' HM2 HB12
 obtain ⟨_,_,_,_,⟨t1,t2⟩,_,⟨u1,u2⟩,_⟩ := HC.out w13 (q7 HB10.out HB13.out)
 have j := q4R _ _ _ _ _ _ _ _ _ _ w13 u1 u2
 clear t1 t2 u1 u2
 go_wp2_with fail
 refine j.mono ?_
 rintro e w14 ⟨hb14,X1,Y1,E1,rfl,hO1⟩
 obtain ⟨w15,hw15⟩ : ∃ w15,w15 = w14.alloc (.cells #[.int .u8 X1,.int .u8 Y1] 29 (0,0)) := ⟨_,rfl⟩
 have hb15 : Below w14.heap.size w14 w15 := by rw [hw15]; exact q9 _ _
 have hk15 : w15.heap[w14.heap.size]? = some (.cells #[.int .u8 X1,.int .u8 Y1] 29 (0,0)) := by rw [hw15]; exact (MapKept.heap_alloc w14 _).1
 have HW15 : Hid _ := hw15
 have HB15 : Hid (Below w13.heap.size w13 w15) := q7 hb14 hb15
 have HK15 : Hid (∀ w',Below w15.heap.size w15 w' → w'.heap[w14.heap.size]? = some (.cells #[.int .u8 X1,.int .u8 Y1] 29 (0,0))) := fun w' h => (h.block _ (Array.getElem?_eq_some_iff.1 hk15).1).trans hk15
 have HO1 : Hid (OfN ss os X1 Y1 E1) := hO1.out
 clear j hb14 hw15 hb15 hk15 hO1
 obtain ⟨_,_,_,_,⟨t1,t2⟩,_,_,_⟩ := HC.out w15 (q7 HB10.out (q7 HB13.out HB15.out))
 have j := q2R _ _ _ _ _ _ _ _ _ _ w15 t1 t2
 clear t1 t2
 go_wp2_with (rw [← HW15.out])
 refine j.mono ?_
 rintro e w16 ⟨hb16,X2,Y2,E2,rfl,hO2⟩
 obtain ⟨e3,e4,e5⟩ := hO2.out.uni HO1.out
 subst e3 e4 e5
 obtain ⟨w17,hw17⟩ : ∃ w17,w17 = w16.alloc (.cells #[.int .u8 X2,.int .u8 Y2] 29 (0,0)) := ⟨_,rfl⟩
 have hb17 : Below w16.heap.size w16 w17 := by rw [hw17]; exact q9 _ _
 have hk17 : w17.heap[w16.heap.size]? = some (.cells #[.int .u8 X2,.int .u8 Y2] 29 (0,0)) := by rw [hw17]; exact (MapKept.heap_alloc w16 _).1
 have hk15 := HK15.out w17 (q7 hb16 hb17)
 have HW17 : Hid _ := hw17
 have HB17 : Hid (Below w13.heap.size w13 w17) := q7 HB15.out (q7 hb16 hb17)
 obtain ⟨⟨⟨c0,c1,c2,c3⟩,hsp,⟨i0,i1,i2,i3⟩⟩,⟨hbo,hnd,hzg⟩,⟨hbo2,hnd2,hzg2⟩,_,_,_,_,_⟩ := HC.out w17 (q7 HB10.out (q7 HB13.out HB17.out))
 obtain ⟨XC,hXC⟩ := q5f p nA bs N gs x y
 have cA1 : ∀ dd oo,Calls Try.prog 17 #[.agg #[.int .i64 p,.slice (some ⟨b1,0,none⟩) nA (nA + 3),.slice (some ⟨gb,0,none⟩) nG (nG + 3),.slice (some ⟨b2,0,none⟩) nN (nN + 3)],.agg #[.int .u8 (x : Int),.int .u8 (y : Int)]] (grow (redrawn w17 dd) oo) fun e w'' => e = .returned (.int .i64 XC) ∧ ∃ p : Regrown,w'' = grow (redrawn w17 p.d) p.os := fun dd oo => by
  have hb := below_regrown w17 dd oo
  refine (qV p _ nA _ _ nG _ _ nN _ bs N gs x y _ (hbo2.up hb) (hnd2.up hb) (hzg2.up hb) HOK.out hx hy).mono ?_
  rintro e w'' ⟨hb2,X,rfl,h⟩
  obtain rfl := h.out.uni hXC
  exact ⟨rfl,regrown_of_below (q7 hb hb2)⟩
 have cA2 : ∀ dd oo,Calls Try.prog 18 #[.agg #[.int .i64 p,.slice aA nA cA,.slice aG nG cG,.slice aN nN cN],.agg #[.int .u8 (x : Int),.int .u8 (y : Int)]] (grow (redrawn w17 dd) oo) fun e w'' => e = .returned (.int .i64 XC) ∧ ∃ p : Regrown,w'' = grow (redrawn w17 p.d) p.os := fun dd oo => by
  have hb := below_regrown w17 dd oo
  refine (qQ p _ nA _ _ nG _ _ nN _ bs N gs x y _ (hbo.up hb) (hnd.up hb) (hzg.up hb) (by have := HLG.out.2.2.1; omega) (by have := HLG.out.2.2.2.1; omega) hx hy).mono ?_
  rintro e w'' ⟨hb2,X,rfl,h⟩
  obtain rfl := h.out.uni hXC
  exact ⟨rfl,regrown_of_below (q7 hb hb2)⟩
 have k0 := cell_regrown c0
 have k1 := cell_regrown c1
 have k2 := cell_regrown c2
 have k3 := cell_regrown c3
 have m0 := cell_regrown i0
 have m1 := cell_regrown i1
 have m2 := cell_regrown i2
 have m3 := cell_regrown i3
 have n0 := cell_regrown (q8 hsp 0)
 have n1 := cell_regrown (q8 hsp 1)
 have o0 := cell_regrown (q8 hk15 0)
 have o1 := cell_regrown (q8 hk15 1)
 have p0 := cell_regrown (q8 hk17 0)
 have p1 := cell_regrown (q8 hk17 1)
 have HEQ : Hid (∀ w,(binOp .eql 29 (.agg #[.int .u8 X2,.int .u8 Y2]) (.agg #[.int .u8 X2,.int .u8 Y2])).run Try.prog w = .ok (.bool true) w) := fun w => q31 X2 Y2 w
 have heq := HEQ.out
 clear j hb16 hO2 hw17 hb17 hk17 hk15 hsp hbo hnd hzg hbo2 hnd2 hzg2 hXC c0 c1 c2 c3 i0 i1 i2 i3 HO1 HK15 HB15 HW15 HEQ
 go_upto_region 12 with (rw [← HW17.out])
 refine wp_region_quiet_below (by kernel_rfl) (by kernel_rfl) ?_
 repeat (go_big_quiet_step (first | (with_reducible exact cA1 _ _) | (with_reducible exact cA2 _ _)))
 refine wpQuiet_nil ?_
 intro _ hw'
 obtain ⟨⟨dq,osq⟩,hw''⟩ := hw'
 subst hw''
 have HB18 : Hid (Below w13.heap.size w13 (grow (redrawn w17 dq) osq)) := q7 HB17.out (below_regrown w17 dq osq)
 generalize grow (redrawn w17 dq) osq = w18 at *
 clear cA1 cA2 k0 k1 k2 k3 m0 m1 m2 m3 n0 n1 o0 o1 p0 p1 heq HW17 HB17
 obtain ⟨zX,hzX,heX⟩ := HZX10.out
 obtain ⟨zY,hzY,heY⟩ := HZY10.out
 have HXZ : Hid (∀ w',Below w10.heap.size w10 w' → ZzSl w' aX LY LY zX) := fun w' hb => hzX.up hb
 have HYZ : Hid (∀ w',Below w10.heap.size w10 w' → ZzSl w' aY LY LY zY) := fun w' hb => hzY.up hb
 have HEX : Hid (zX.map Zc.zs = rs2) := heX
 have HEY : Hid (zY.map Zc.zs = rs2) := heY
 have HB19 : Hid (Below w10.heap.size w10 w18) := q7 HB13.out HB18.out
 clear hzX hzY heX heY HZX10 HZY10
 have j : Calls Try.prog 19 #[.slice aX LY LY,.slice aW nW cW] w18 fun e w' => e = .returned (.bool true) ∧ Below w18.heap.size w18 w' := (qO aX LY LY zX aW nW cW zW w18 (HXZ.out w18 HB19.out) (HWZ.out w18 HB19.out)).mono fun e w' h => by rw [HEX.out,HE4.out,decide_eq_true rfl] at h; exact h
 go_wp2_with fail
 refine j.mono ?_
 rintro e w19 ⟨rfl,hb⟩
 have HB20 : Hid (Below w18.heap.size w18 w19) := hb
 clear j hb
 have j : Calls Try.prog 19 #[.slice aY LY LY,.slice aW nW cW] w19 fun e w' => e = .returned (.bool true) ∧ Below w19.heap.size w19 w' := (qO aY LY LY zY aW nW cW zW w19 (HYZ.out w19 (q7 HB19.out HB20.out)) (HWZ.out w19 (q7 HB19.out HB20.out))).mono fun e w' h => by rw [HEY.out,HE4.out,decide_eq_true rfl] at h; exact h
 go_wp2_with fail
 refine j.mono ?_
 rintro e w20 ⟨rfl,hb⟩
 have HB21 : Hid (Below w18.heap.size w18 w20) := q7 HB20.out hb
 clear j hb HB20 HXZ HYZ HEX HEY HWZ HE4
 have hmle := qo m
 have j := qq m w20 hm
 go_wp2_with fail
 refine j.mono ?_
 rintro e w21 ⟨hb,la,lc,rfl,hl⟩
 have HB22 : Hid (Below w18.heap.size w18 w21) := q7 HB21.out hb
 obtain ⟨hm1,hm2⟩ := HM1.out w21 (q7 HB18.out HB22.out)
 have HL2 : Hid (LtC w21 la (mvL m).length lc (mvL m)) := hl
 have j2 : Calls Try.prog 20 #[.slice (some ⟨w10.heap.size,0,none⟩) (mvL m).length (mvL m).length,.slice la (mvL m).length lc] w21 fun e w' => e = .returned (.bool true) ∧ Below w21.heap.size w21 w' := (qC _ _ _ _ _ _ _ _ w21 (hm1.sl (by omega)) hl).mono fun e w' h => by
  obtain ⟨h1,q,rfl⟩ := h
  rw [decide_eq_true rfl] at h1
  exact ⟨h1,below_drewN (Below.refl _ _) q⟩
 clear j hb hl hm1 hm2 HB21
 go_wp2_with fail
 refine j2.mono ?_
 rintro e w22 ⟨rfl,hb⟩
 have HB23 : Hid (Below w18.heap.size w18 w22) := q7 HB22.out hb
 obtain ⟨hm1,hm2⟩ := HM1.out w22 (q7 HB18.out HB23.out)
 have j : Calls Try.prog 20 #[.slice (some ⟨w11.heap.size,0,none⟩) (mvL m).length (mvL m).length,.slice (some ⟨w10.heap.size,0,none⟩) (mvL m).length (mvL m).length] w22 fun e w' => e = .returned (.bool true) ∧ Below w22.heap.size w22 w' := (qC _ _ _ _ _ _ _ _ w22 (hm2.sl (by omega)) (hm1.sl (by omega))).mono fun e w' h => by
  obtain ⟨h1,q,rfl⟩ := h
  rw [decide_eq_true rfl] at h1
  exact ⟨h1,below_drewN (Below.refl _ _) q⟩
 clear j2 hb hm1 hm2 HB22 HL2
 go_wp2_with fail
 refine j.mono ?_
 rintro e w23 ⟨rfl,hb⟩
 have HB24 : Hid (Below w18.heap.size w18 w23) := q7 HB23.out hb
 clear j hb HB23
 obtain ⟨⟨⟨c0,c1,c2,c3⟩,_,⟨i0,i1,i2,i3⟩⟩,⟨hbo,hnd,hzg⟩,_,⟨r1,r2,r3⟩,_,_,_,_⟩ := HC.out w23 (q7 HB10.out (q7 HB19.out HB24.out))
 have j := q2f p aA nA cA aG nG cG aN nN cN bs gs N b1 gb b2 w23 hbo hzg hnd (by have := HLG.out.2.2.1; omega) (by have := HLG.out.2.2.2.2; omega) (by have := HLG.out.2.2.2.1; omega) r1 r2 r3
 clear hbo hnd hzg r1 r2 r3
 go_wp2_with fail
 refine j.mono ?_
 rintro e w24 ⟨rfl,hb⟩
 have HB25 : Hid (Below w18.heap.size w18 w24) := q7 HB24.out hb
 clear j hb HB24 c0 c1 c2 c3 i0 i1 i2 i3
 obtain ⟨_,_,_,_,⟨t1,_⟩,⟨u1,_⟩,_,_⟩ := HC.out w24 (q7 HB10.out (q7 HB19.out HB25.out))
 have j := q1C w4.heap.size l1 a1 d1 (adOf a1) ss w24 u1 t1 h20a
 clear t1 u1
 go_wp2_with fail
 refine j.mono ?_
 rintro e w25 ⟨rfl,hd⟩
 have HB26 : Hid (Below w18.heap.size w18 w25) := by obtain ⟨k,hk⟩ := hd.out; rw [hk]; exact below_drewN HB25.out k
 clear j hd HB25
 obtain ⟨_,_,_,_,⟨_,t2⟩,⟨_,u2⟩,_,_⟩ := HC.out w25 (q7 HB10.out (q7 HB19.out HB26.out))
 have j := q1C w5.heap.size l2 a2 d2 (adOf a2) os w25 u2 t2 h20b
 clear t2 u2
 go_wp2_with fail
 refine j.mono ?_
 rintro e w26 ⟨rfl,hd⟩
 have HB27 : Hid (Below w18.heap.size w18 w26) := by obtain ⟨k,hk⟩ := hd.out; rw [hk]; exact below_drewN HB26.out k
 clear j hd HB26
 obtain ⟨w27,hw27⟩ : ∃ w27,w27 = w26.alloc (.cells #[.slice (some ⟨w10.heap.size,0,none⟩) (mvL m).length (mvL m).length,.slice (some ⟨w11.heap.size,0,none⟩) (mvL m).length (mvL m).length] 38 (0,0)) := ⟨_,rfl⟩
 have hb27 : Below w26.heap.size w26 w27 := by rw [hw27]; exact q9 _ _
 have hk27 : w27.heap[w26.heap.size]? = some (.cells #[.slice (some ⟨w10.heap.size,0,none⟩) (mvL m).length (mvL m).length,.slice (some ⟨w11.heap.size,0,none⟩) (mvL m).length (mvL m).length] 38 (0,0)) := by rw [hw27]; exact (MapKept.heap_alloc w26 _).1
 have HW27 : Hid _ := hw27
 obtain ⟨hm1,hm2⟩ := HM1.out w27 (q7 HB18.out (q7 HB27.out hb27))
 have j := q3x w27 w26.heap.size w10.heap.size w11.heap.size (mvL m).length (mvL m) rfl hmle (fun t ht => (qD.1 ht).1) hk27 hm1 hm2 HLT.out
 have HB28 : Hid (Below w18.heap.size w18 w27) := q7 HB27.out hb27
 clear hw27 hb27 hk27 hm1 hm2 HB27 HM1 HLT
 go_wp2_with (rw [← HW27.out])
 refine j.mono ?_
 rintro e w28 ⟨rfl,hb⟩
 have HB29 : Hid (Below w18.heap.size w18 w28) := q7 HB28.out hb
 clear j hb HB28 HW27
 have hb29 := q7 HB19.out HB29.out
 obtain ⟨w30,hw30⟩ : ∃ w30,w30 = w28.alloc (.cells #[] 23 (0,0)) := ⟨_,rfl⟩
 have hb30 : Below w28.heap.size w28 w30 := by rw [hw30]; exact q9 _ _
 have hk30 : w30.heap[w28.heap.size]? = some (.cells #[] 23 (0,0)) := by rw [hw30]; exact (MapKept.heap_alloc w28 _).1
 have HW30 : Hid _ := hw30
 have HO30 : Hid (w30.ownsRow w28.heap.size 23 1 (.slice (some ⟨w28.heap.size,0,none⟩) 0 0) 0 []) := ⟨rfl,.inr ⟨w28.heap.size,0,#[],rfl,Nat.le_refl _,hk30,Nat.le_refl _,by decide,rfl,rfl⟩⟩
 have HB30 : Hid (Below w10.heap.size w10 w30) := q7 hb29 hb30
 have hs30 : w28.heap.size ≤ w30.heap.size := hb30.size
 have hlt30 : w28.heap.size < w30.heap.size := (Array.getElem?_eq_some_iff.1 hk30).1
 have HLT30 : Hid _ := hlt30
 have HGX30 : Hid (GoV w30 w7.heap.size aX LY SY hX rs2) := HGX10.out.up HB30.out
 have hLle : LY ≤ 256 := HGX10.out.bd.1
 have HBA : Hid (Below w28.heap.size w28 w30) := hb30
 have HLA : Hid (Below w10.heap.size w10 w28) := hb29
 clear hw30 hb30 hk30 hb29 hlt30
 go_wp2_with (first
  | rw [← HW30.out]
  | (at_builtin; refine q1e rfl _ _ rfl w28.heap.size _ 0 [] rfl HO30.out aX LY SY w7.heap.size hX rs2 rfl HGX30.out (by omega) hs30 ?_))
 intro v31 w31 ho31 hg31 hz31
 have HB31 : Hid (Below w28.heap.size w28 w31) := HBA.out.grown hg31 hs30 (fun k e => by injection e with e; dsimp only at e; omega)
 have hs31 : w28.heap.size ≤ w31.heap.size := HB31.out.size
 have HO31 : Hid (w31.ownsRow w28.heap.size 23 1 v31 LY (hsV hX SY)) := by simpa [Hid] using ho31
 have HGY31 : Hid (GoV w31 w8.heap.size aY LY SY hY rs2) := HGY10.out.up (q7 HLA.out HB31.out)
 have HZ31 : Hid (LY = 0 → v31 = .slice (some ⟨w28.heap.size,0,none⟩) 0 0 ∧ w31 = w30) := hz31
 clear ho31 hg31 hz31 HW30 HGX30 HO30
 obtain ⟨va,vc,rfl⟩ := qs HO31.out
 go_wp2_with (at_builtin; refine q1e rfl _ _ rfl w28.heap.size _ LY (hsV hX SY) rfl HO31.out aY LY SY w8.heap.size hY rs2 rfl HGY31.out (by omega) hs31 ?_)
 intro v32 w32 ho32 hg32 hz32
 have HB32 : Hid (Below w28.heap.size w28 w32) := HB31.out.grown hg32 hs31 (fun k e => q1s HO31.out k e)
 have hb32 := q7 HLA.out HB32.out
 have j := q3v w32 w28.heap.size v32 LY SY w7.heap.size aX aY hX hY rs2 ho32 (HGX10.out.up hb32) w8.heap.size HXW.out (HGY10.out.up hb32) (fun e => by
  obtain ⟨e1,e2⟩ := hz32 e
  obtain ⟨e3,e4⟩ := HZ31.out e
  exact ⟨w28.heap.size,0,by rw [e1,e3],by rw [e2,e4]; exact HLT30.out⟩)
 have HF : Hid (∀ w',Below w32.heap.size w32 w' → Q (.returned (.bool true)) w') := fun w' hb => HQ.out w' (q7 (HC.out w10 HB10.out).2.2.2.2.2.2.2 (q7 hb32 hb))
 obtain ⟨xa,xc,rfl⟩ := qs ho32
 clear ho32 hg32 hz32 HO31 HGY31 HZ31 hb32 HQ HC
 go_wp2_with fail
 refine j.mono ?_
 rintro e w33 ⟨rfl,hb⟩
 have HE : Hid _ := HF.out w33 hb
 clear j hb HF
 go_wp2
 exact HE.out
end Go.Proofs.Ytohbphocfkgdcaa
