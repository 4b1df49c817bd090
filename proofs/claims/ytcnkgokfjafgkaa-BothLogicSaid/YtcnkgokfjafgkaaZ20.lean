/- Texts of the proof, put together: what it uses. -/
import Derived.Test.YtcnkgokfjafgkaaZ00
import Derived.Test.YtcnkgokfjafgkaaZ07
import Derived.Test.YtcnkgokfjafgkaaZ08
set_option maxRecDepth 100000
set_option maxHeartbeats 16000000
namespace Go.Proofs.Ytcnkgokfjafgkaa
def acE (bs bs' : List Bool) (op : Bool → Bool → Bool) (T : List PrP) : List Bool := (List.range (T.length + 1)).map fun n => decide (0 < n) && saysE bs bs' op (metE T n)
theorem q9W (bs bs' : List Bool) (op : Bool → Bool → Bool) (T : List PrP) : (acE bs bs' op T).length = T.length + 1 := by simp [acE]
theorem q7Z {bs bs' : List Bool} {op : Bool → Bool → Bool} {T : List PrP} {n : Nat} (h : n < T.length + 1) : (acE bs bs' op T).getD n false = (decide (0 < n) && saysE bs bs' op (metE T n)) := by
 rw [acE,List.getD_eq_getElem?_getD,List.getElem?_map,List.getElem?_range h]; rfl
variable {n n' : Nat} {R R' : List (List Nat)} {T : List PrP} {p : Int} {bs bs' : List Bool} {op : Bool → Bool → Bool} {c : Nat → Nat}
theorem q68 (h : BfE n n' (2 ^ p.toNat) R R' (T.length + 1) 0 T) (hr : RchE R R' (2 ^ p.toNat) (T.length + 1) T) (hn' : 0 < n') (hR' : RowsP n' (2 ^ p.toNat) R') (hc : ClsC (T.length + 1) (2 ^ p.toNat) (rowsE R R' (2 ^ p.toNat) T) (acE bs bs' op T) c) : MinP (T.length + 1) (2 ^ p.toNat) (rowsE R R' (2 ^ p.toNat) T) (acE bs bs' op T) c (List.range (T.length + 1)) (ddP c (List.range (T.length + 1))) := by
 have hpr := q3E fun i l hi hl => h.all (Nat.le_refl _) hn' hR' hi hl
 refine ⟨hpr.rows,hc,?_,rfl⟩
 rw [← hr.done]
 exact q3b hpr.rows (by omega)
theorem q9s (h : BfE n n' (2 ^ p.toNat) R R' (T.length + 1) 0 T) (hr : RchE R R' (2 ^ p.toNat) (T.length + 1) T) (hn' : 0 < n') (hR' : RowsP n' (2 ^ p.toNat) R') (hc : ClsC (T.length + 1) (2 ^ p.toNat) (rowsE R R' (2 ^ p.toNat) T) (acE bs bs' op T) c) (hp0 : 0 ≤ p) (hp3 : p ≤ 3) (hS : T.length + 1 ≤ 256) {gs' : List Int} {N' : List Gd} (hs : stoM p.toNat (rowC c (ddP c (List.range (T.length + 1))) (rowsE R R' (2 ^ p.toNat) T)) = (gs',N')) :
  PutKb p (fun u => op (bs.getD (runP R 0 u) false) (bs'.getD (runP R' 0 u) false)) (accC (ddP c (List.range (T.length + 1))) (acE bs bs' op T)) N' gs' := by
 have hall := fun i l hi hl => h.all (Nat.le_refl _) hn' hR' (i := i) (l := l) hi hl
 have hpr := q3E hall
 have hm := q68 (bs := bs) (bs' := bs') (op := op) h hr hn' hR' hc
 have hFl := hm.len
 have hN : N'.length ≤ 4096 := by
  have f1 := (q1j (n := p.toNat) (by omega) hm.lists _ (Nat.le_refl _)).few
  rw [List.take_length,hs,hm.rows.len] at f1
  have h8 : 2 ^ p.toNat ≤ 8 := Nat.le_trans (Nat.pow_le_pow_right (by decide) (show p.toNat ≤ 3 by omega)) (by decide)
  have := Nat.mul_le_mul (show (ddP c (List.range (T.length + 1))).length ≤ 256 by omega) h8
  dsimp only at f1
  omega
 rw [← hr.done] at hm hs hFl ⊢
 obtain ⟨h1,h2⟩ := hm.can hp0 (by omega) (by omega) (by omega) hs hN
 refine ⟨h1,fun u hu => ?_⟩
 rw [h2 u hu]
 refine hpr.acc (by omega) (fun s l hs hl => ?_) ?_ (fun s hs hs0 => ?_) hu
 ·rw [q21 hs hl,nmE]; omega
 ·rw [q7Z (by omega)]; rfl
 ·rw [q7Z hs,decide_eq_true (by omega : 0 < s)]; rfl
theorem BfE.diag {K j k : Nat} (h : BfE n n K R R j k T) (hR : RowsP n K R) (hn : 0 < n) : T.length ≤ n := by
 have h1 : (T.map (·.1)).Nodup := by
  have hnd := h.nd
  rw [pqP,List.Nodup,List.pairwise_map] at hnd
  rw [List.Nodup,List.pairwise_map]
  refine (List.Pairwise.and_mem.1 hnd).imp fun {a b} hab e => ?_
  obtain ⟨ha,hb,hne⟩ := hab
  obtain ⟨u,_,a1,a2⟩ := h.way hR hR hn hn a ha
  obtain ⟨v,_,b1,b2⟩ := h.way hR hR hn hn b hb
  exact hne (by rw [a2,b2,← a1,← b1,e])
 have := qr (n := n) h1 (fun x hx => by
  obtain ⟨e,he,rfl⟩ := List.mem_map.1 hx
  exact (h.lt e he).1)
 rw [List.length_map] at this; exact this
def ptN : List Gd := [(0,-1,-2),(0,-1,-3)]
def ptGr : List Int := [0,1,0]
def ptB : List Bool := [false,true,true]
def ptR : List (List Nat) := [[0,1],[0,2],[0,1]]
theorem q4A : rowsG ptN ptGr (2 ^ (1 : Int).toNat) = ptR := by decide +kernel
theorem qaZ : MayG 1 3 ptN ptGr := by
 refine ⟨by decide,by decide,by decide,by decide,rfl,by decide,fun i P lo hi e => ?_,by decide,fun g hg => ?_⟩
 ·match i with
  | 0 =>
   simp [ptN] at e
   obtain ⟨rfl,rfl,rfl⟩ := e
   exact ⟨by decide,by decide,by decide,.inl ⟨by decide,by decide⟩,.inl ⟨by decide,by decide⟩⟩
  | 1 =>
   simp [ptN] at e
   obtain ⟨rfl,rfl,rfl⟩ := e
   exact ⟨by decide,by decide,by decide,.inl ⟨by decide,by decide⟩,.inl ⟨by decide,by decide⟩⟩
  | i + 2 => simp [ptN] at e
 ·simp [ptGr] at hg
  have hg : g = 0 ∨ g = 1 := by omega
  rcases hg with rfl | rfl
  ·exact .inr ⟨0,rfl,by decide,_,rfl,by decide⟩
  ·exact .inr ⟨1,rfl,by decide,_,rfl,by decide⟩
theorem pt_c0 : ofP (kindP ptB) 3 = [0,1,1] := by decide +kernel
theorem pt_c1 : ofP (sigP ptR [0,1,1]) 3 = [0,1,1] := by decide +kernel
theorem q67 : ∀ k,clsP ptR ptB 3 k = [0,1,1]
 | 0 => pt_c0
 | k + 1 => by rw [clsP,q67 k]; exact pt_c1
theorem pt_m0 : manyP ptR ptB 3 0 = manyP ptR ptB 3 1 := by
 rw [manyP,manyP,clsP,pt_c0]
 decide +kernel
theorem qb0 : rchP ptR 3 0 [0] = [0,1,2] := by decide +kernel
def cnB : List Bool := [false,true]
def cnG : List Int := [0,0]
def cnN : List Gd := [(0,-1,-2)]
theorem cn_dd : ddP (fun s => ([0,1,1] : List Nat).getD s 0) [0,1,2] = [0,1] := by decide +kernel
theorem qaL : stoM 1 (rowC (fun s => ([0,1,1] : List Nat).getD s 0) [0,1] ptR) = (cnG,cnN) := by decide +kernel
theorem qb2 : MinA 1 3 ptB ptN ptGr cnB cnG cnN := by
 refine ⟨0,_,[0,1],by rw [q4A]; exact pt_m0,rfl,?_,rfl,?_⟩
 ·rw [q4A,qb0,q67,cn_dd]
 ·rw [q4A,q67]; exact qaL
theorem cn_k : MinK 1 3 ptB ptN ptGr cnB cnG cnN := qb2.all qaZ
def noN : List Gd := [(0,-2,-1)]
def exB (f : Nat → Nat) : List (List Nat) := [[f 0,f 1],[f 0,f 1]]
theorem q8a (f : Nat → Nat) {s l : Nat} (hs : s < 2) (hl : l < 2) : trP (exB f) s l = f l := by
 rcases (show s = 0 ∨ s = 1 by omega) with rfl | rfl <;> rcases (show l = 0 ∨ l = 1 by omega) with rfl | rfl <;> rfl
theorem q6R (f : Nat → Nat) (hf : ∀ l,l < 2 → f l < 2) : ∀ (u : List Nat) (s : Nat),s < 2 → (∀ l ∈ u,l < 2) → runP (exB f) s u < 2
 | [],s,hs,_ => hs
 | l :: u,s,hs,hu => by
  rw [qO]
  have hl := hu l (by simp)
  exact q6R f hf u _ (by rw [q8a f hs hl]; exact hf l hl) fun x hx => hu x (by simp [hx])
theorem q92 (f : Nat → Nat) (hf : ∀ l,l < 2 → f l < 2) {u : List Nat} {l : Nat} (hu : ∀ x ∈ u ++ [l],x < 2) : runP (exB f) 0 (u ++ [l]) = f l := by
 rw [qP]
 exact q8a f (q6R f hf u 0 (by omega) fun x hx => hu x (by simp [hx])) (hu l (by simp))
theorem q3d : rowsG noN cnG (2 ^ (1 : Int).toNat) = exB (fun l => 1 - l) := by decide +kernel
theorem q6N : rowsG cnN cnG (2 ^ (1 : Int).toNat) = exB (fun l => l) := by decide +kernel
theorem q5P {x : Nat} (h : x < 2) : cnB.getD x false = decide (x = 1) := by
 rcases (show x = 0 ∨ x = 1 by omega) with rfl | rfl <;> rfl
theorem q8b {N : List Gd} {gs : List Int} {f : Nat → Nat} (hr : rowsG N gs (2 ^ (1 : Int).toNat) = exB f) (hf : ∀ l,l < 2 → f l < 2) {u : List Nat} (hu : LtT 1 u) : acT 1 cnB N gs u = (match u.getLast? with | none => false | some l => decide (f l = 1)) := by
 have hu2 : ∀ l ∈ u,l < 2 := hu
 rw [acT,hr]
 by_cases e : u = []
 ·subst e; rfl
 ·obtain ⟨v,l,rfl⟩ : ∃ v l,u = v ++ [l] := ⟨u.dropLast,u.getLast e,(List.dropLast_concat_getLast e).symm⟩
  rw [q92 f hf hu2,List.getLast?_append,q5P (hf l (hu2 l (by simp)))]
  rfl
theorem q8e : MayG 1 2 noN cnG := by
 refine ⟨by decide,by decide,by decide,by decide,rfl,by decide,fun i P lo hi e => ?_,by decide,fun g hg => ?_⟩
 ·match i with
  | 0 =>
   simp [noN] at e
   obtain ⟨rfl,rfl,rfl⟩ := e
   exact ⟨by decide,by decide,by decide,.inl ⟨by decide,by decide⟩,.inl ⟨by decide,by decide⟩⟩
  | i + 1 => simp [noN] at e
 ·simp [cnG] at hg
  subst hg
  exact .inr ⟨0,rfl,by decide,_,rfl,by decide⟩
theorem qaS : CanK 1 cnB noN cnG := by
 refine ⟨q8e,⟨q8e.rows _,rfl,fun i j hi hj h => ?_,by decide,by rw [q3d]; decide +kernel⟩,by rw [q3d]; decide +kernel⟩
 have h0 := h [] (fun l hl => by simp at hl)
 have hi2 : i < 2 := hi
 have hj2 : j < 2 := hj
 rw [show runP (rowsG noN cnG (2 ^ (1 : Int).toNat)) i [] = i from rfl,show runP (rowsG noN cnG (2 ^ (1 : Int).toNat)) j [] = j from rfl,q5P hi2,q5P hj2] at h0
 rcases (show i = 0 ∨ i = 1 by omega) with rfl | rfl <;> rcases (show j = 0 ∨ j = 1 by omega) with rfl | rfl <;> first | rfl | (simp at h0)
theorem qae {u : List Nat} (h : u ≠ []) : u.getLast? = some (u.getLast h) := by cases u with | nil => exact absurd rfl h | cons a u => rfl
theorem f2_lt {u : List Nat} (hu : LtT 1 u) {l : Nat} (h : u.getLast? = some l) : l = 0 ∨ l = 1 := by
 have := hu l (List.mem_of_getLast? h)
 have e : (2 : Nat) ^ (1 : Int).toNat = 2 := rfl
 omega
theorem qaT : PutKb 1 (fun u => !acT 1 cnB cnN cnG u) cnB noN cnG := ⟨qaS,fun u hu => by
 rw [q8b q3d (fun l hl => by omega) hu,q8b q6N (fun l hl => hl) hu]
 by_cases e : u = []
 ·subst e; rfl
 ·obtain ⟨l,hl⟩ : ∃ l,u.getLast? = some l := ⟨_,qae e⟩
  rw [hl]
  have : u.isEmpty = false := by cases u <;> simp_all
  rw [this]
  rcases f2_lt hu hl with rfl | rfl <;> rfl⟩
theorem qaU {bs' : List Bool} {gs' : List Int} {N' : List Gd} (h : PutKb 1 (fun u => !acT 1 cnB cnN cnG u) bs' N' gs') : bs' = cnB ∧ gs' = cnG ∧ N' = noN := h.eq qaT fun _ _ _ => rfl
theorem SchT.one {L : Nat} {f : List Nat → Bool} {ts : List Nat} {is : Bool} (h : SchT 1 L f ts is) (h0 : f [] = false) (h1 : f [0] = true) : ts = [0] ∧ is = true := by
 have hlt : LtT 1 [0] := fun l hl => by simp at hl; subst hl; decide
 rcases h with ⟨h2,h3,h4,_,h6⟩ | ⟨_,_,h3⟩
 ·have h7 := h6 [0] hlt h1
  refine ⟨?_,h2⟩
  match ts with
  | [] => rw [h0] at h4; cases h4
  | [x] =>
   unfold ltT at h7
   simp [valT] at h7
   rw [h7]
  | x :: y :: t => unfold ltT at h7; simp at h7
 ·rw [h3 _ hlt] at h1; cases h1
theorem ex_a0 : acT 1 cnB cnN cnG [] = false := rfl
theorem ex_a1 : acT 1 cnB cnN cnG [0] = false := by rw [acT,q6N]; decide +kernel
theorem ex_n0 : acT 1 cnB noN cnG [] = false := rfl
theorem ex_n1 : acT 1 cnB noN cnG [0] = true := by rw [acT,q3d]; decide +kernel
end Go.Proofs.Ytcnkgokfjafgkaa
