/- Texts of the proof, put together: what it uses. -/
import Derived.Test.YtbgogbafkoekjaaZ00
import Derived.Test.YtbgogbafkoekjaaZ06
set_option maxRecDepth 100000
set_option maxHeartbeats 16000000
namespace Go.Proofs.Ytbgogbafkoekjaa
open Go.RowKit Go.Maps Go.Sort
def gfA (p : Int) (N : List Gd) (gs : List Int) (e s q : Nat) : List (List Nat) := (mvL e).map fun x => (mvL s).map fun y => trP (rwA p N gs) q (x ||| y)
theorem q2z (p : Int) (N : List Gd) (gs : List Int) (e s q : Nat) : goeL p N gs e s q = (gfA p N gs e s q).map (·.map Int.ofNat) := by
 simp [goeL,gfA,Function.comp_def]
theorem qt {p : Int} {nA : Nat} {N : List Gd} {gs : List Int} {e s : Nat} (h : MayG p nA N gs) (hs : SplitN p.toNat e s) : InA nA (gfA p N gs e s) := fun q hq row hr t ht => by
 obtain ⟨x,hx,rfl⟩ := List.mem_map.1 hr
 obtain ⟨y,hy,rfl⟩ := List.mem_map.1 ht
 have h1 := qg (qh.1 hx).2
 have h2 := qg (qh.1 hy).2
 have h5 : e ||| s = 2 ^ p.toNat - 1 := hs.2
 have h6 : 0 < 2 ^ p.toNat := Nat.two_pow_pos _
 have h7 : e ≤ e ||| s := Nat.left_le_or
 have h8 : s ≤ e ||| s := Nat.right_le_or
 exact (h.rows (2 ^ p.toNat)).lt q (x ||| y) hq (Nat.or_lt_two_pow (by omega) (by omega))
theorem q2a {p : Int} {N : List Gd} {gs : List Int} {e s q : Nat} : gfA p N gs e s q ≠ [] := fun h => by
 have h1 : (gfA p N gs e s q).length = 0 := by rw [h]; rfl
 rw [gfA,List.length_map] at h1
 have := qI e
 omega
abbrev acA (bs : List Bool) (q : Nat) : Bool := bs.getD q false
def RkN (p : Int) (nA : Nat) (bs : List Bool) (N : List Gd) (gs : List Int) (e s : Nat) (X : Int) (r : List Int) : Prop :=
 (X ≠ 0 ∧ ChkN p nA bs N gs e s X ∧ r = []) ∨ (X = 0 ∧ ChkN p nA bs N gs e s 0 ∧ RankA nA (gfA p N gs e s) (acA bs) r)
def WnN (p : Int) (nA : Nat) (bs : List Bool) (N : List Gd) (gs : List Int) (e s : Nat) (X : Int) (b : Bool) : Prop :=
 (X ≠ 0 ∧ ChkN p nA bs N gs e s X ∧ b = false) ∨ (X = 0 ∧ ChkN p nA bs N gs e s 0 ∧ ∃ r,RankA nA (gfA p N gs e s) (acA bs) r ∧ b = decide (0 ≤ r.getD 0 0))
def StN (p : Int) (nA : Nat) (bs : List Bool) (N : List Gd) (gs : List Int) (e s : Nat) (ws : List Bool) (X : Int) (us : List Bool) : Prop :=
 (X ≠ 0 ∧ ChkN p nA bs N gs e s X ∧ us = []) ∨ (ChkN p nA bs N gs e s 0 ∧ ws.length ≠ nA ∧ X = 2 ∧ us = []) ∨ (ChkN p nA bs N gs e s 0 ∧ ws.length = nA ∧ X = 0 ∧ us = (List.range nA).map (befA (gfA p N gs e s) (acA ws)))
theorem RkN.uni {p : Int} {nA : Nat} {bs : List Bool} {N : List Gd} {gs : List Int} {e s : Nat} {X Y : Int} {r t : List Int} (h : RkN p nA bs N gs e s X r) (k : RkN p nA bs N gs e s Y t) : X = Y ∧ r = t := by
 rcases h with ⟨h1,h2,rfl⟩ | ⟨rfl,h2,h3⟩ <;> rcases k with ⟨k1,k2,rfl⟩ | ⟨rfl,k2,k3⟩
 ·exact ⟨h2.uni k2,rfl⟩
 ·exact absurd (h2.uni k2) h1
 ·exact absurd (k2.uni h2) k1
 ·exact ⟨rfl,h3.uni k3⟩
theorem WnN.uni {p : Int} {nA : Nat} {bs : List Bool} {N : List Gd} {gs : List Int} {e s : Nat} {X Y : Int} {b c : Bool} (h : WnN p nA bs N gs e s X b) (k : WnN p nA bs N gs e s Y c) : X = Y ∧ b = c := by
 rcases h with ⟨h1,h2,rfl⟩ | ⟨rfl,h2,r,h3,rfl⟩ <;> rcases k with ⟨k1,k2,rfl⟩ | ⟨rfl,k2,t,k3,rfl⟩
 ·exact ⟨h2.uni k2,rfl⟩
 ·exact absurd (h2.uni k2) h1
 ·exact absurd (k2.uni h2) k1
 ·exact ⟨rfl,by rw [h3.uni k3]⟩
theorem StN.uni {p : Int} {nA : Nat} {bs : List Bool} {N : List Gd} {gs : List Int} {e s : Nat} {ws : List Bool} {X Y : Int} {us vs : List Bool} (h : StN p nA bs N gs e s ws X us) (k : StN p nA bs N gs e s ws Y vs) : X = Y ∧ us = vs := by
 rcases h with ⟨h1,h2,rfl⟩ | ⟨h1,h2,rfl,rfl⟩ | ⟨h1,h2,rfl,rfl⟩ <;> rcases k with ⟨k1,k2,rfl⟩ | ⟨k1,k2,rfl,rfl⟩ | ⟨k1,k2,rfl,rfl⟩
 ·exact ⟨h2.uni k2,rfl⟩
 ·exact absurd (h2.uni k1) h1
 ·exact absurd (h2.uni k1) h1
 ·exact absurd (k2.uni h1) k1
 ·exact ⟨rfl,rfl⟩
 ·exact absurd k2 h2
 ·exact absurd (k2.uni h1) k1
 ·exact absurd h2 k2
 ·exact ⟨rfl,rfl⟩
structure AttC : Prop where
 ranks : ∀ (p : Int) (aA : Option Addr) (nA cA : Nat) (aG : Option Addr) (nG cG : Nat) (aN : Option Addr) (nN cN : Nat) (bs : List Bool) (N : List Gd) (gs : List Int) (x y : Nat) (w : World),BoSl w aA nA cA bs → NdSl w aN nN cN N → ZSl w aG nG cG gs → (∀ z ∈ gs,I64 z) → x < 256 → y < 256 →
  Calls Try.prog 9 #[.agg #[.int .i64 p,.slice aA nA cA,.slice aG nG cG,.slice aN nN cN],.agg #[.int .u8 (x : Int),.int .u8 (y : Int)]] w fun e w' => Below w.heap.size w w' ∧ ∃ (a : Option Addr) (c : Nat) (X : Int) (r : List Int),e = .returned (.tuple #[.slice a r.length c,.int .i64 X]) ∧ Hid (RkN p nA bs N gs x y X r) ∧ Hid (ZSl w' a r.length c r)
 wins : ∀ (p : Int) (aA : Option Addr) (nA cA : Nat) (aG : Option Addr) (nG cG : Nat) (aN : Option Addr) (nN cN : Nat) (bs : List Bool) (N : List Gd) (gs : List Int) (x y : Nat) (w : World),BoSl w aA nA cA bs → NdSl w aN nN cN N → ZSl w aG nG cG gs → (∀ z ∈ gs,I64 z) → x < 256 → y < 256 →
  Calls Try.prog 11 #[.agg #[.int .i64 p,.slice aA nA cA,.slice aG nG cG,.slice aN nN cN],.agg #[.int .u8 (x : Int),.int .u8 (y : Int)]] w fun e w' => Below w.heap.size w w' ∧ ∃ (b : Bool) (X : Int),e = .returned (.tuple #[.bool b,.int .i64 X]) ∧ Hid (WnN p nA bs N gs x y X b)
def AttS : Prop := ∀ (p : Int) (aA : Option Addr) (nA cA : Nat) (aG : Option Addr) (nG cG : Nat) (aN : Option Addr) (nN cN : Nat) (bs : List Bool) (N : List Gd) (gs : List Int) (x y : Nat) (aW : Option Addr) (nW cW : Nat) (ws : List Bool) (w : World),BoSl w aA nA cA bs → NdSl w aN nN cN N → ZSl w aG nG cG gs → (∀ z ∈ gs,I64 z) → x < 256 → y < 256 → BoSl w aW nW cW ws →
  Calls Try.prog 13 #[.agg #[.int .i64 p,.slice aA nA cA,.slice aG nG cG,.slice aN nN cN],.agg #[.int .u8 (x : Int),.int .u8 (y : Int)],.slice aW nW cW] w fun e w' => Below w.heap.size w w' ∧ ∃ (a : Option Addr) (c : Nat) (X : Int) (us : List Bool),e = .returned (.tuple #[.slice a us.length c,.int .i64 X]) ∧ Hid (StN p nA bs N gs x y ws X us) ∧ Hid (BoSl w' a us.length c us)
def uxN : List Gd := [(1,-2,-3),(1,-1,-3),(0,0,1)]
def uxG : List Int := [2,-2,-3]
def uxB : List Bool := [false,false,true]
theorem qZ : ∀ z ∈ uxG,I64 z := fun z hz => by
 simp [uxG] at hz
 rcases hz with rfl | rfl | rfl <;> exact ⟨by decide,by decide⟩
theorem q47 : ∀ t ∈ uxN,GdOk t := fun t ht => by
 simp [uxN] at ht
 rcases ht with rfl | rfl | rfl <;> exact ⟨⟨by decide,by decide⟩,⟨by decide,by decide⟩,⟨by decide,by decide⟩⟩
theorem q1l : MayG 2 3 uxN uxG := by
 refine ⟨by decide,by decide,by decide,by decide,rfl,by decide,fun i P lo hi e => ?_,by decide,fun g hg => ?_⟩
 ·match i with
  | 0 =>
   simp [uxN] at e
   obtain ⟨rfl,rfl,rfl⟩ := e
   exact ⟨by decide,by decide,by decide,.inl ⟨by decide,by decide⟩,.inl ⟨by decide,by decide⟩⟩
  | 1 =>
   simp [uxN] at e
   obtain ⟨rfl,rfl,rfl⟩ := e
   exact ⟨by decide,by decide,by decide,.inl ⟨by decide,by decide⟩,.inl ⟨by decide,by decide⟩⟩
  | 2 =>
   simp [uxN] at e
   obtain ⟨rfl,rfl,rfl⟩ := e
   exact ⟨by decide,by decide,by decide,.inr ⟨0,rfl,by decide,_,rfl,by decide⟩,.inr ⟨1,rfl,by decide,_,rfl,by decide⟩⟩
  | i + 3 => simp [uxN] at e
 ·simp [uxG] at hg
  rcases hg with rfl | rfl | rfl
  ·exact .inr ⟨2,rfl,by decide,_,rfl,by decide⟩
  ·exact .inl ⟨by decide,by decide⟩
  ·exact .inl ⟨by decide,by decide⟩
theorem q3B {e s : Nat} (h : e &&& s = 0 ∧ e ||| s = 3) : SplitN (2 : Int).toNat e s := h
theorem ux_ok {e s : Nat} (h : e &&& s = 0 ∧ e ||| s = 3) : ChkN 2 3 uxB uxN uxG e s 0 := .inr (.inr (.inr ⟨q1l,rfl,q3B h,rfl⟩))
theorem q2l {e s : Nat} (h : (e = 1 ∧ s = 2) ∨ (e = 0 ∧ s = 3)) : RankA 3 (gfA 2 uxN uxG e s) (acA uxB) [1,-1,0] := by
 have hs : SplitN (2 : Int).toNat e s := by rcases h with ⟨rfl,rfl⟩ | ⟨rfl,rfl⟩ <;> exact ⟨by decide,by decide⟩
 refine q1c (K := 1) (qt q1l hs) (fun q hq => ?_) rfl fun q hq => ?_
 ·rcases h with ⟨rfl,rfl⟩ | ⟨rfl,rfl⟩ <;> (match q,hq with | 0,_ => decide +kernel | 1,_ => decide +kernel | 2,_ => decide +kernel)
 ·rcases h with ⟨rfl,rfl⟩ | ⟨rfl,rfl⟩ <;>
  (match q,hq with
   | 0,_ => exact .inr ⟨1,rfl,by decide +kernel,fun j hj => (by obtain rfl : j = 0 := (by omega); decide +kernel)⟩
   | 1,_ => exact .inl ⟨rfl,by decide +kernel⟩
   | 2,_ => exact .inr ⟨0,rfl,by decide +kernel,fun j hj => absurd hj (Nat.not_lt_zero _)⟩)
theorem q1D {e s : Nat} (h : (e = 2 ∧ s = 1) ∨ (e = 3 ∧ s = 0)) : RankA 3 (gfA 2 uxN uxG e s) (acA uxB) [-1,-1,0] := by
 have hs : SplitN (2 : Int).toNat e s := by rcases h with ⟨rfl,rfl⟩ | ⟨rfl,rfl⟩ <;> exact ⟨by decide,by decide⟩
 refine q1c (K := 0) (qt q1l hs) (fun q hq => ?_) rfl fun q hq => ?_
 ·rcases h with ⟨rfl,rfl⟩ | ⟨rfl,rfl⟩ <;> (match q,hq with | 0,_ => decide +kernel | 1,_ => decide +kernel | 2,_ => decide +kernel)
 ·rcases h with ⟨rfl,rfl⟩ | ⟨rfl,rfl⟩ <;>
  (match q,hq with
   | 0,_ => exact .inl ⟨rfl,by decide +kernel⟩
   | 1,_ => exact .inl ⟨rfl,by decide +kernel⟩
   | 2,_ => exact .inr ⟨0,rfl,by decide +kernel,fun j hj => absurd hj (Nat.not_lt_zero _)⟩)
theorem qc (w : World) : Calls Try.prog 26 #[] w fun e w' => ∃ b1 d1 b2 d2 b3 d3,e = .returned (.agg #[.int .i64 2,.slice b1 3 d1,.slice b2 3 d2,.slice b3 3 d3]) ∧ Hid (AuX w' b1 3 d1 b2 3 d2 b3 3 d3 uxB uxG uxN) ∧ Hid (Below w.heap.size w w') := by
 have HA : Hid _ := q3X w (.cells #[.int .i64 2,.slice (some ⟨w.heap.size + 1,0,none⟩) 3 3,.slice (some ⟨w.heap.size + 1 + 1,0,none⟩) 3 3,.slice (some ⟨w.heap.size + 1 + 1 + 1,0,none⟩) 3 3] 26) uxB uxG uxN (by decide) (by decide) (by decide) q47
 go_enter Try.func26,Try.ntmps26
 go_wp2
 refine bodyPost_ret (v := .agg #[.int .i64 2,.slice (some ⟨w.heap.size + 1,0,none⟩) 3 3,.slice (some ⟨w.heap.size + 1 + 1,0,none⟩) 3 3,.slice (some ⟨w.heap.size + 1 + 1 + 1,0,none⟩) 3 3]) ?_ rfl ⟨_,_,_,_,_,_,rfl,HA.out.1,HA.out.2⟩
 simp [results,Try.results26,go_sem]
structure RwS (w : World) (a : Option Addr) (n c : Nat) (R : List (List Nat)) (m : Nat) : Prop where
 len : R.length = n
 bd : n ≤ 1000
 row : ∀ k,k < n → ∃ (g o : Nat) (s : Option Nat) (a' : Option Addr) (c' : Nat),(∀ w',(Instr.indexAt 43 (.slice a n c) (.int .i64 (k : Int))).run Try.prog w' = .ok (.pointer (some ⟨g,o,s⟩)) w') ∧ w.cell? ⟨g,o,s⟩ = some (.slice a' (R.getD k []).length c') ∧ ZSl w a' (R.getD k []).length c' ((R.getD k []).map Int.ofNat)
 lt : ∀ k,k < n → ∀ t ∈ R.getD k [],t < m
 rl : ∀ k,k < n → (R.getD k []).length ≤ 1000
theorem RwS.up {w w' : World} {a : Option Addr} {n c : Nat} {R : List (List Nat)} {m : Nat} (h : RwS w a n c R m) (hb : Below w.heap.size w w') : RwS w' a n c R m :=
 ⟨h.len,h.bd,fun k hk => by obtain ⟨g,o,s,a',c',h1,h2,h3⟩ := h.row k hk; exact ⟨g,o,s,a',c',h1,q9 h2 hb,h3.up hb⟩,h.lt,h.rl⟩
theorem ZzSl.rwS {w : World} {a : Option Addr} {n c : Nat} {zs : List Zc} (h : ZzSl w a n c zs) {R : List (List Nat)} (hz : zs.map Zc.zs = R.map (·.map Int.ofNat)) {m : Nat} (hn : n ≤ 1000) (hlt : ∀ row ∈ R,∀ t ∈ row,t < m) (hrl : ∀ row ∈ R,row.length ≤ 1000) : RwS w a n c R m := by
 have hl : R.length = n := by
  have := congrArg List.length hz
  rw [List.length_map,List.length_map] at this
  rw [← this]; exact h.hlen
 have hmem : ∀ k,k < n → R.getD k [] ∈ R := fun k hk => by
  rw [List.getD_eq_getElem?_getD,List.getElem?_eq_getElem (by omega)]
  exact List.getElem_mem _
 refine ⟨hl,hn,fun k hk => ?_,fun k hk => hlt _ (hmem k hk),fun k hk => hrl _ (hmem k hk)⟩
 obtain ⟨g,o,s,r,hr,hi,hc,hs,_⟩ := h.at k hk
 have e : r.zs = (R.getD k []).map Int.ofNat := by
  have h2 := congrArg (fun l => l[k]?) hz
  simp only [List.getElem?_map,hr,Option.map_some] at h2
  rw [List.getElem?_eq_getElem (by omega)] at h2
  simp only [Option.map_some,Option.some.injEq] at h2
  rw [h2,List.getD_eq_getElem?_getD,List.getElem?_eq_getElem (by omega),Option.getD_some]
 have e2 : r.len = (R.getD k []).length := by rw [← hs.hlen,e,List.length_map]
 rw [e,e2] at hs
 rw [e2] at hc
 exact ⟨g,o,s,r.a,r.cap,hi,hc,hs⟩
theorem qP {l : List Nat} {j : Nat} (h : j < l.length) : l.take (j + 1) = l.take j ++ [l.getD j 0] := by
 rw [List.take_add_one,List.getElem?_eq_getElem h,List.getD_eq_getElem?_getD,List.getElem?_eq_getElem h]; rfl
theorem qx {l : List Nat} {j : Nat} (h : j < l.length) : l.getD j 0 ∈ l := by
 rw [List.getD_eq_getElem?_getD,List.getElem?_eq_getElem h]; exact List.getElem_mem _
theorem q1B {l : List Nat} {j : Nat} (h : j < l.length) : (l.map Int.ofNat).getD j 0 = ((l.getD j 0 : Nat) : Int) := by
 simp [List.getD_eq_getElem?_getD,List.getElem?_eq_getElem h]
theorem q1U (a : Option Addr) (n c : Nat) (r : List Int) (b : Option Addr) (m d : Nat) (R : List (List Nat)) (k : Int) (w : World) (hZ : ZSl w a n c r) (hR : RwS w b m d R n) (hk0 : 0 < k) (hk1 : k < 1000) (hr : ∀ t,t < n → -1 ≤ r.getD t 0 ∧ r.getD t 0 < 1000) (h1 : ∀ i,i < m → lstA r (R.getD i []) k < k) (h2 : ∃ i,i < m ∧ lstA r (R.getD i []) k = k - 1) :
  Calls Try.prog 23 #[.slice a n c,.slice b m d,.int .i64 k] w fun e w' => e = .returned (.bool true) ∧ w' = w := by
 obtain ⟨Q,hQ⟩ : ∃ Q : Ending → World → Prop,Q = fun e w' => e = .returned (.bool true) ∧ w' = w := ⟨_,rfl⟩
 have HQ : Hid (∀ b : Bool,(b = true ↔ ∃ i,i < m ∧ lstA r (R.getD i []) k = k - 1) → Q (.returned (.bool b)) w) := fun b hb => by rw [hQ,hb.2 h2]; exact ⟨rfl,rfl⟩
 rw [← hQ]
 clear hQ h2
 have HZ : Hid _ := hZ
 have HR : Hid _ := hR
 have HRR : Hid _ := hr
 have HL : Hid _ := h1
 have hm := hR.bd
 have hn := Nat.le_trans hZ.hcap hZ.bd
 unfold maxLen at hn
 clear hZ hR hr h1
 go_enter Try.func23,Try.ntmps23
 go_wp2
 go_loop [7,8] (fun u i => ∃ j : Nat,∃ bb : Bool,j ≤ m ∧ i = .int .i64 (j : Int) ∧ u = .bool bb ∧ Hid (bb = true ↔ ∃ i,i < j ∧ lstA r (R.getD i []) k = k - 1)) (fun _ i => m - (intOf i).toNat)
 case atStart => exact ⟨0,false,Nat.zero_le _,rfl,rfl,by simp [Hid]⟩
 case round =>
  obtain ⟨j,bb,hj,rfl,rfl,HJ⟩ := hrel
  by_cases hlt : j < m
  ·have e1 : decide ((j : Int) < (m : Int)) = true := decide_eq_true (by omega)
   obtain ⟨g,o,s,a',c',ixr,cer,hzr⟩ := HR.out.row j hlt
   have hrl := HR.out.rl j hlt
   have HLT : Hid _ := HR.out.lt j hlt
   have HLJ : Hid _ := HL.out j hlt
   have HJN : Hid (∀ bb2 : Bool,bb2 = (bb || decide (lstA r (R.getD j []) k = k - 1)) → (bb2 = true ↔ ∃ i,i < j + 1 ∧ lstA r (R.getD i []) k = k - 1)) := fun bb2 h => by
    rw [h,Bool.or_eq_true,decide_eq_true_eq,HJ.out]
    constructor
    ·rintro (⟨i,h3,h4⟩ | h3)
     ·exact ⟨i,by omega,h4⟩
     ·exact ⟨j,by omega,h3⟩
    ·rintro ⟨i,h3,h4⟩
     by_cases e : i = j
     ·subst e; exact .inr h4
     ·exact .inl ⟨i,by omega,h4⟩
   have HZR : Hid _ := hzr
   clear HJ hzr
   generalize R.getD j [] = row at *
   go_wp2
   go_loop [9,10] (fun u i => ∃ q : Nat,q ≤ row.length ∧ i = .int .i64 (q : Int) ∧ u = .int .i64 (lstA r (row.take q) k)) (fun _ i => row.length - (intOf i).toNat)
   case atStart => exact ⟨0,Nat.zero_le _,rfl,rfl⟩
   case round =>
    obtain ⟨q,hq,rfl,rfl⟩ := hrel
    by_cases hlq : q < row.length
    ·have e2 : decide ((q : Int) < (row.length : Int)) = true := decide_eq_true (by omega)
     have ixq := fun w' => HZR.out.idx row.length q w' hlq (Nat.le_refl _)
     have ceq := HZR.out.cell q hlq
     rw [q1B hlq] at ceq
     have htn := HLT.out _ (qx hlq)
     have ixt := fun w' => HZ.out.idx n (row.getD q 0) w' htn (Nat.le_refl _)
     have cet := HZ.out.cell (row.getD q 0) htn
     obtain ⟨ht1,ht2⟩ := HRR.out _ htn
     have HSN : Hid (lstA r (row.take (q + 1)) k = if 0 ≤ r.getD (row.getD q 0) 0 ∧ r.getD (row.getD q 0) 0 < lstA r (row.take q) k then r.getD (row.getD q 0) 0 else lstA r (row.take q) k) := by rw [qP hlq]; exact q36 _ _ _ _
     have e3 : decide (((row.getD q 0 : Nat) : Int) < 0) = false := by simp
     have e4 : decide ((n : Int) ≤ ((row.getD q 0 : Nat) : Int)) = false := decide_eq_false (by omega)
     generalize row.getD q 0 = t at *
     generalize r.getD t 0 = z at *
     generalize lstA r (row.take q) k = l at *
     generalize adOf a' q = aq at *
     obtain ⟨aq1,aq2,aq3⟩ := aq
     generalize adOf a t = at' at *
     obtain ⟨at1,at2,at3⟩ := at'
     generalize row.length = rl at *
     by_cases h0 : 0 ≤ z
     ·have e5 : decide (0 ≤ z) = true := decide_eq_true h0
      by_cases h5 : z < l
      ·have e6 : decide (z < l) = true := decide_eq_true h5
       have HSN2 : Hid _ := HSN.out.trans (if_pos ⟨h0,h5⟩)
       clear h0 h5 HSN
       go_wp2
       go_round
       case rel => exact ⟨q + 1,by omega,by go_num,by rw [HSN2.out]⟩
       case measure => simp [intOf]; omega
      ·have e6 : decide (z < l) = false := decide_eq_false h5
       have HSN2 : Hid _ := HSN.out.trans (if_neg fun h => h5 h.2)
       clear h0 h5 HSN
       go_wp2
       go_round
       case rel => exact ⟨q + 1,by omega,by go_num,by rw [HSN2.out]⟩
       case measure => simp [intOf]; omega
     ·have e5 : decide (0 ≤ z) = false := decide_eq_false h0
      have HSN2 : Hid _ := HSN.out.trans (if_neg fun h => h0 h.1)
      clear h0 HSN
      go_wp2
      go_round
      case rel => exact ⟨q + 1,by omega,by go_num,by rw [HSN2.out]⟩
      case measure => simp [intOf]; omega
    ·obtain rfl : q = row.length := by omega
     have e2 : decide ((row.length : Int) < (row.length : Int)) = false := by simp
     rw [List.take_length]
     have hl := HLJ.out
     have e5 : decide (k ≤ lstA r row k) = false := decide_eq_false (by omega)
     have e6 : IntKind.i64.wrap (k - 1) = k - 1 := by rw [IntKind.wrap_i64]; omega
     have hnx : ∀ bb2 : Bool,bb2 = (bb || decide (lstA r row k = k - 1)) → _ := HJN.out
     have HNX : Hid _ := HJN.out (bb || (lstA r row k == k - 1)) (by congr 1)
     clear hl HJN HLJ hnx
     generalize lstA r row k = l at *
     generalize row.length = rl at *
     cases bb with
     | true =>
      go_wp2
      go_round
      case rel => exact ⟨j + 1,true,by omega,by go_num,rfl,HNX.out⟩
      case measure => simp [intOf]; omega
     | false =>
      go_wp2
      go_round
      case rel => exact ⟨j + 1,(l == k - 1),by omega,by go_num,rfl,HNX.out⟩
      case measure => simp [intOf]; omega
  ·obtain rfl : j = m := by omega
   have e1 : decide ((j : Int) < (j : Int)) = false := by simp
   have HE : Hid _ := HQ.out bb HJ.out
   clear HQ HJ
   go_wp2
   exact HE.out
def negA (r : List Int) (row : List Nat) : Bool := row.all fun t => decide (r.getD t 0 < 0)
theorem q3b (r : List Int) (row : List Nat) (t : Nat) : negA r (row ++ [t]) = (negA r row && decide (r.getD t 0 < 0)) := by simp [negA]
theorem q22 (a : Option Addr) (n c : Nat) (r : List Int) (b : Option Addr) (m d : Nat) (R : List (List Nat)) (w : World) (hZ : ZSl w a n c r) (hR : RwS w b m d R n) (h2 : ∃ i,i < m ∧ negA r (R.getD i []) = true) :
  Calls Try.prog 24 #[.slice a n c,.slice b m d] w fun e w' => e = .returned (.bool true) ∧ w' = w := by
 obtain ⟨Q,hQ⟩ : ∃ Q : Ending → World → Prop,Q = fun e w' => e = .returned (.bool true) ∧ w' = w := ⟨_,rfl⟩
 have HQ : Hid (Q (.returned (.bool true)) w) := by rw [hQ]; exact ⟨rfl,rfl⟩
 rw [← hQ]
 clear hQ
 have HZ : Hid _ := hZ
 have HR : Hid _ := hR
 have H2 : Hid _ := h2
 have hm := hR.bd
 have hn := Nat.le_trans hZ.hcap hZ.bd
 unfold maxLen at hn
 clear hZ hR h2
 go_enter Try.func24,Try.ntmps24
 go_wp2
 go_loop [5] (fun i => ∃ j : Nat,j ≤ m ∧ i = .int .i64 (j : Int) ∧ Hid (∀ i,i < j → negA r (R.getD i []) = false)) (fun i => m - (intOf i).toNat)
 case atStart => exact ⟨0,Nat.zero_le _,rfl,fun i h => absurd h (Nat.not_lt_zero _)⟩
 case round =>
  obtain ⟨j,hj,rfl,HJ⟩ := hrel
  by_cases hlt : j < m
  ·have e1 : decide ((j : Int) < (m : Int)) = true := decide_eq_true (by omega)
   obtain ⟨g,o,s,a',c',ixr,cer,hzr⟩ := HR.out.row j hlt
   have hrl := HR.out.rl j hlt
   have HLT : Hid _ := HR.out.lt j hlt
   have HJN : Hid (negA r (R.getD j []) = false → ∀ i,i < j + 1 → negA r (R.getD i []) = false) := fun h i hi => by
    by_cases e : i = j
    ·subst e; exact h
    ·exact HJ.out i (by omega)
   have HZR : Hid _ := hzr
   clear HJ hzr
   generalize R.getD j [] = row at *
   go_wp2
   go_loop [6,7] (fun u i => ∃ q : Nat,q ≤ row.length ∧ i = .int .i64 (q : Int) ∧ u = .bool (negA r (row.take q))) (fun _ i => row.length - (intOf i).toNat)
   case atStart => exact ⟨0,Nat.zero_le _,rfl,rfl⟩
   case round =>
    obtain ⟨q,hq,rfl,rfl⟩ := hrel
    by_cases hlq : q < row.length
    ·have e2 : decide ((q : Int) < (row.length : Int)) = true := decide_eq_true (by omega)
     have ixq := fun w' => HZR.out.idx row.length q w' hlq (Nat.le_refl _)
     have ceq := HZR.out.cell q hlq
     rw [q1B hlq] at ceq
     have htn := HLT.out _ (qx hlq)
     have ixt := fun w' => HZ.out.idx n (row.getD q 0) w' htn (Nat.le_refl _)
     have cet := HZ.out.cell (row.getD q 0) htn
     have HSN : Hid (negA r (row.take (q + 1)) = (negA r (row.take q) && decide (r.getD (row.getD q 0) 0 < 0))) := by rw [qP hlq]; exact q3b _ _ _
     have e3 : decide (0 ≤ ((row.getD q 0 : Nat) : Int)) = true := by simp
     have e4 : decide (((row.getD q 0 : Nat) : Int) < (n : Int)) = true := decide_eq_true (by omega)
     generalize row.getD q 0 = t at *
     generalize r.getD t 0 = z at *
     generalize negA r (row.take q) = l at *
     generalize adOf a' q = aq at *
     obtain ⟨aq1,aq2,aq3⟩ := aq
     generalize adOf a t = at' at *
     obtain ⟨at1,at2,at3⟩ := at'
     generalize row.length = rl at *
     cases l with
     | false =>
      have HSN2 : Hid _ := HSN.out.trans (Bool.false_and _)
      clear HSN
      go_wp2
      go_round
      case rel => exact ⟨q + 1,by omega,by go_num,by rw [HSN2.out]⟩
      case measure => simp [intOf]; omega
     | true =>
      have HSN2 : Hid _ := HSN.out.trans (Bool.true_and _)
      clear HSN
      go_wp2
      go_round
      case rel => exact ⟨q + 1,by omega,by go_num,by rw [HSN2.out]⟩
      case measure => simp [intOf]; omega
    ·obtain rfl : q = row.length := by omega
     have e2 : decide ((row.length : Int) < (row.length : Int)) = false := by simp
     rw [List.take_length]
     cases hN : negA r row with
     | true =>
      have HE : Hid _ := HQ.out
      clear HQ HJN hN
      go_wp2
      exact HE.out
     | false =>
      have HNX : Hid _ := HJN.out hN
      clear HJN hN
      generalize row.length = rl at *
      go_wp2
      go_round
      case rel => exact ⟨j + 1,by omega,by go_num,HNX.out⟩
      case measure => simp [intOf]; omega
  ·obtain rfl : j = m := by omega
   obtain ⟨i,h3,h4⟩ := H2.out
   rw [HJ.out i h3] at h4
   cases h4
theorem memR3 {l : List (List Nat)} {j : Nat} (h : j < l.length) : l.getD j [] ∈ l := by
 rw [List.getD_eq_getElem?_getD,List.getElem?_eq_getElem h]; exact List.getElem_mem _
theorem q3R {l : List (List Nat)} {row : List Nat} (h : row ∈ l) : ∃ j,j < l.length ∧ l.getD j [] = row := by
 obtain ⟨j,hj,e⟩ := List.getElem_of_mem h
 exact ⟨j,hj,by rw [List.getD_eq_getElem?_getD,List.getElem?_eq_getElem hj]; exact e⟩
theorem q16 (a : Option Addr) (m c : Nat) (R : List (List Nat)) (aW : Option Addr) (n cW : Nat) (ws : List Bool) (w : World) (hR : RwS w a m c R n) (hW : BoSl w aW n cW ws) :
  Calls Try.prog 44 #[.slice a m c,.slice aW n cW] w fun e w' => e = .returned (.bool (R.all fun row => row.any (acA ws))) ∧ w' = w := by
 obtain ⟨Q,hQ⟩ : ∃ Q : Ending → World → Prop,Q = fun e w' => e = .returned (.bool (R.all fun row => row.any (acA ws))) ∧ w' = w := ⟨_,rfl⟩
 have HQ : Hid (∀ b,b = (R.all fun row => row.any (acA ws)) → Q (.returned (.bool b)) w) := fun b h2 => by rw [hQ,h2]; exact ⟨rfl,rfl⟩
 rw [← hQ]
 clear hQ
 have HR : Hid _ := hR
 have HWW : Hid (BoSl w aW n cW ws) := hW
 have HLN : Hid _ := hR.len
 have hm := hR.bd
 have hn := Nat.le_trans hW.hcap hW.bd
 unfold maxLen at hn
 clear hR hW
 go_enter Try.func44,Try.ntmps44
 go_wp2
 go_step3
 go_wp2
 go_step3
 go_wp2
 go_loop [11] (fun i => ∃ j : Nat,j ≤ m ∧ i = .int .i64 (j : Int) ∧ Hid (∀ i,i < j → (R.getD i []).any (acA ws) = true)) (fun i => m - (intOf i).toNat)
 case atStart => exact ⟨0,Nat.zero_le _,rfl,fun i h => absurd h (Nat.not_lt_zero _)⟩
 case round =>
  obtain ⟨j,hj,rfl,HJ⟩ := hrel
  by_cases hlt : j < m
  ·have e1 : decide ((j : Int) < (m : Int)) = true := decide_eq_true (by omega)
   obtain ⟨g,o,s,a',c',ixr,cer,hzr⟩ := HR.out.row j hlt
   have hrl := HR.out.rl j hlt
   have HLT : Hid _ := HR.out.lt j hlt
   have HJN : Hid ((R.getD j []).any (acA ws) = true → ∀ i,i < j + 1 → (R.getD i []).any (acA ws) = true) := fun h i hi => by
    by_cases e : i = j
    ·subst e; exact h
    ·exact HJ.out i (by omega)
   have HNO : Hid ((R.getD j []).any (acA ws) = false → false = (R.all fun row => row.any (acA ws))) := fun h => by
    cases hx : R.all (fun row => row.any (acA ws)) with
    | false => rfl
    | true =>
     have := List.all_eq_true.1 hx _ (memR3 (l := R) (j := j) (by rw [HLN.out]; exact hlt))
     rw [h] at this
     cases this
   have HZR : Hid _ := hzr
   clear HJ hzr
   generalize R.getD j [] = row at *
   go_wp2
   go_loop [17] (fun i => ∃ q : Nat,q ≤ row.length ∧ i = .int .i64 (q : Int) ∧ Hid ((row.take q).any (acA ws) = false)) (fun i => row.length - (intOf i).toNat)
   case atStart => exact ⟨0,Nat.zero_le _,rfl,rfl⟩
   case round =>
    obtain ⟨q,hq,rfl,HK⟩ := hrel
    by_cases hlq : q < row.length
    ·have e2 : decide ((q : Int) < (row.length : Int)) = true := decide_eq_true (by omega)
     have ixq := fun w' => HZR.out.idx row.length q w' hlq (Nat.le_refl _)
     have ceq := HZR.out.cell q hlq
     rw [q1B hlq] at ceq
     have htn := HLT.out _ (qx hlq)
     obtain ⟨ixt,cet⟩ := HWW.out.getQ htn
     have HSN : Hid ((row.take (q + 1)).any (acA ws) = acA ws (row.getD q 0)) := by
      show _ = _; rw [qP hlq,List.any_append,HK.out]; simp
     have HAN : Hid (acA ws (row.getD q 0) = true → row.any (acA ws) = true) := fun h => List.any_eq_true.2 ⟨_,qx hlq,h⟩
     have hac : acA ws (row.getD q 0) = ws.getD (row.getD q 0) false := rfl
     rw [hac] at HSN HAN
     clear hac HK
     generalize row.getD q 0 = t at *
     generalize ws.getD t false = z at *
     generalize adOf a' q = aq at *
     obtain ⟨aq1,aq2,aq3⟩ := aq
     generalize adOf aW t = at' at *
     obtain ⟨at1,at2,at3⟩ := at'
     cases z with
     | true =>
      have HNX : Hid _ := HJN.out (HAN.out rfl)
      clear HJN HNO HSN HAN
      generalize row.length = rl at *
      go_wp2
      go_round
      case rel => exact ⟨j + 1,by omega,by go_num,HNX.out⟩
      case measure => simp [intOf]; omega
     | false =>
      clear HAN HJN HNO
      generalize row.length = rl at *
      go_wp2
      go_round
      case rel => exact ⟨q + 1,by omega,by go_num,HSN.out⟩
      case measure => simp [intOf]; omega
    ·obtain rfl : q = row.length := by omega
     have e2 : decide ((row.length : Int) < (row.length : Int)) = false := by simp
     have hN := HK.out
     rw [List.take_length] at hN
     have HE : Hid _ := HQ.out false (HNO.out hN)
     clear HQ HJN HNO hN HK
     go_wp2
     exact HE.out
  ·obtain rfl : j = m := by omega
   have e1 : decide ((j : Int) < (j : Int)) = false := by simp
   have HE : Hid _ := HQ.out true (List.all_eq_true.2 fun row hr => by
     obtain ⟨i,hi,rfl⟩ := q3R hr
     exact HJ.out i (by rw [← HLN.out]; exact hi)).symm
   clear HQ HJ
   go_wp2
   exact HE.out
theorem qA (HA : Hid AttC) (b1 : Option Addr) (d1 : Nat) (b2 : Option Addr) (d2 : Nat) (b3 : Option Addr) (d3 : Nat) (w : World) (hX : AuX w b1 3 d1 b2 3 d2 b3 3 d3 uxB uxG uxN) (x y : Nat) (hx : x < 256) (hy : y < 256) (hs : x &&& y = 0 ∧ x ||| y = 3) (r0 : List Int) (h0 : RankA 3 (gfA 2 uxN uxG x y) (acA uxB) r0) :
  Calls Try.prog 9 #[.agg #[.int .i64 2,.slice b1 3 d1,.slice b2 3 d2,.slice b3 3 d3],.agg #[.int .u8 (x : Int),.int .u8 (y : Int)]] w fun e w' => Below w.heap.size w w' ∧ ∃ a c,e = .returned (.tuple #[.slice a 3 c,.int .i64 0]) ∧ ZSl w' a 3 c r0 :=
 (HA.out.ranks 2 b1 3 d1 b2 3 d2 b3 3 d3 uxB uxN uxG x y w hX.bo hX.nd hX.zs qZ hx hy).mono fun e w' ⟨h1,a,c,X,r,h2,h3,h4⟩ => by
  obtain ⟨rfl,rfl⟩ := h3.out.uni (.inr ⟨rfl,ux_ok hs,h0⟩)
  have hl := h0.len
  rw [hl] at h2 h4
  exact ⟨h1,a,c,h2,h4.out⟩
theorem qq (HA : Hid AttC) (w : World) : Calls Try.prog 19 #[] w fun e w' => e = .returned (.bool true) ∧ Below w.heap.size w w' := by
 obtain ⟨Q,hQ⟩ : ∃ Q : Ending → World → Prop,Q = fun e w' => e = .returned (.bool true) ∧ Below w.heap.size w w' := ⟨_,rfl⟩
 have HQ : Hid (∀ w',Below w.heap.size w w' → Q (.returned (.bool true)) w') := fun w' h => by rw [hQ]; exact ⟨rfl,h⟩
 rw [← hQ]
 clear hQ
 have j1 := qc w
 go_enter Try.func19,Try.ntmps19
 go_wp2_with fail
 refine j1.mono ?_
 rintro e w1 ⟨b1,d1,b2,d2,b3,d3,rfl,hX,hb1⟩
 have HB1 : Hid (Below w.heap.size w w1) := hb1
 have j2 := qA HA b1 d1 b2 d2 b3 d3 w1 hX.out 1 2 (by decide) (by decide) ⟨by decide,by decide⟩ [1,-1,0] (q2l (.inl ⟨rfl,rfl⟩))
 clear j1 hX hb1
 go_wp2_with fail
 refine j2.mono ?_
 rintro e w2 ⟨hb2,a1,c1,rfl,hz1⟩
 have HB2 : Hid (Below w.heap.size w w2) := q6 HB1.out hb2
 have HZ1 : Hid (ZSl w2 a1 3 c1 [1,-1,0]) := hz1
 clear j2 hb2 hz1 HB1
 have j1 := qc w2
 go_wp2_with fail
 refine j1.mono ?_
 rintro e w3 ⟨b4,d4,b5,d5,b6,d6,rfl,hX,hb3⟩
 have HB3 : Hid (Below w2.heap.size w2 w3) := hb3.out
 have j2 := qA HA b4 d4 b5 d5 b6 d6 w3 hX.out 2 1 (by decide) (by decide) ⟨by decide,by decide⟩ [-1,-1,0] (q1D (.inl ⟨rfl,rfl⟩))
 clear j1 hX hb3
 go_wp2_with fail
 refine j2.mono ?_
 rintro e w4 ⟨hb4,a2,c2,rfl,hz2⟩
 have HB4 : Hid (Below w2.heap.size w2 w4) := q6 HB3.out hb4
 have HZ2 : Hid (ZSl w4 a2 3 c2 [-1,-1,0]) := hz2
 clear j2 hb4 hz2 HB3
 obtain ⟨w5,hw5⟩ : ∃ w5,w5 = w4.alloc (.cells #[.int .i64 1,.int .i64 (-1),.int .i64 0] 3) := ⟨_,rfl⟩
 have hl5 : ZSl w5 (some ⟨w4.heap.size,0,none⟩) 3 3 [1,-1,0] := by rw [hw5]; exact zlitP w4 [1,-1,0] (by decide)
 have hb5 : Below w4.heap.size w4 w5 := by rw [hw5]; exact q8 _ _
 have HW5 : Hid _ := hw5
 have HB5 : Hid (Below w4.heap.size w4 w5) := hb5
 have j3 := qn a1 3 c1 [1,-1,0] (some ⟨w4.heap.size,0,none⟩) 3 3 [1,-1,0] w5 (HZ1.out.up (q6 HB4.out hb5)) hl5
 rw [decide_eq_true rfl] at j3
 clear hw5 hl5 hb5 HZ1
 go_wp2_with (rw [← HW5.out])
 refine j3.mono ?_
 rintro e w6 ⟨rfl,q,rfl⟩
 have HB6 : Hid (Below w4.heap.size w4 (w5.drewN q)) := below_drewN HB5.out q
 clear j3 HW5 HB5
 generalize w5.drewN q = w6 at *
 obtain ⟨w7,hw7⟩ : ∃ w7,w7 = w6.alloc (.cells #[.int .i64 (-1),.int .i64 (-1),.int .i64 0] 3) := ⟨_,rfl⟩
 have hl7 : ZSl w7 (some ⟨w6.heap.size,0,none⟩) 3 3 [-1,-1,0] := by rw [hw7]; exact zlitP w6 [-1,-1,0] (by decide)
 have hb7 : Below w6.heap.size w6 w7 := by rw [hw7]; exact q8 _ _
 have HW7 : Hid _ := hw7
 have HB7 : Hid (Below w4.heap.size w4 w7) := q6 HB6.out hb7
 have j3 := qn a2 3 c2 [-1,-1,0] (some ⟨w6.heap.size,0,none⟩) 3 3 [-1,-1,0] w7 (HZ2.out.up HB7.out) hl7
 rw [decide_eq_true rfl] at j3
 clear hw7 hl7 hb7 HZ2 HB6
 go_wp2_with (rw [← HW7.out])
 refine j3.mono ?_
 rintro e w8 ⟨rfl,q,rfl⟩
 have HE : Hid _ := HQ.out _ (q6 HB2.out (q6 HB4.out (below_drewN HB7.out q)))
 clear j3 HW7 HB7 HQ HB2 HB4
 generalize w7.drewN q = w8 at *
 go_wp2
 exact HE.out
theorem RkN.real {p : Int} {nA : Nat} {bs : List Bool} {N : List Gd} {gs : List Int} {e s : Nat} {X : Int} {r : List Int} (h : RkN p nA bs N gs e s X r) (h0 : ChkN p nA bs N gs e s 0) : X = 0 ∧ RankA nA (gfA p N gs e s) (acA bs) r := by
 rcases h with ⟨h1,h2,_⟩ | ⟨rfl,_,h3⟩
 ·exact absurd (h2.uni h0) h1
 ·exact ⟨rfl,h3⟩
theorem WnN.real {p : Int} {nA : Nat} {bs : List Bool} {N : List Gd} {gs : List Int} {e s : Nat} {X : Int} {b : Bool} (h : WnN p nA bs N gs e s X b) (h0 : ChkN p nA bs N gs e s 0) {r : List Int} (hr : RankA nA (gfA p N gs e s) (acA bs) r) : X = 0 ∧ b = decide (0 ≤ r.getD 0 0) := by
 rcases h with ⟨h1,h2,_⟩ | ⟨rfl,_,t,h3,h4⟩
 ·exact absurd (h2.uni h0) h1
 ·rw [h3.uni hr] at h4; exact ⟨rfl,h4⟩
theorem ChkN.okk {p : Int} {nA : Nat} {bs : List Bool} {N : List Gd} {gs : List Int} {e s : Nat} (h : ChkN p nA bs N gs e s 0) : MayG p nA N gs ∧ bs.getD 0 false = false ∧ SplitN p.toNat e s := by
 rcases h with ⟨_,h⟩ | ⟨_,_,h⟩ | ⟨_,_,_,h⟩ | ⟨h1,h2,h3,_⟩
 ·cases h
 ·cases h
 ·cases h
 ·exact ⟨h1,h2,h3⟩
theorem q3I {p : Int} {N : List Gd} {gs : List Int} {e s q : Nat} {row : List Nat} (h : row ∈ gfA p N gs e s q) : row.length ≤ 256 := by
 obtain ⟨x,_,rfl⟩ := List.mem_map.1 h
 rw [List.length_map]; exact qk s
theorem q33 {l : List (List Nat)} {j : Nat} (h : j < l.length) : l.getD j [] ∈ l := by
 rw [List.getD_eq_getElem?_getD,List.getElem?_eq_getElem h]; exact List.getElem_mem _
theorem q1H {l : List (List Nat)} {row : List Nat} (h : row ∈ l) : ∃ j,j < l.length ∧ l.getD j [] = row := by
 obtain ⟨j,hj,e⟩ := List.getElem_of_mem h
 exact ⟨j,hj,by rw [List.getD_eq_getElem?_getD,List.getElem?_eq_getElem hj]; exact e⟩
theorem q18 (HB : Hid BrdC) (HA : Hid AttC) (p : Int) (aA : Option Addr) (nA cA : Nat) (aG : Option Addr) (nG cG : Nat) (aN : Option Addr) (nN cN : Nat) (bs : List Bool) (gs : List Int) (N : List Gd) (x y : Nat) (w : World) (hB : BoSl w aA nA cA bs) (hG : ZSl w aG nG cG gs) (hN : NdSl w aN nN cN N) (hok : ∀ z ∈ gs,I64 z) (hx : x < 256) (hy : y < 256) :
  Calls Try.prog 4 #[.agg #[.int .i64 p,.slice aA nA cA,.slice aG nG cG,.slice aN nN cN],.agg #[.int .u8 (x : Int),.int .u8 (y : Int)]] w fun e w' => e = .returned (.bool true) ∧ Below w.heap.size w w' := by
 obtain ⟨Q,hQ⟩ : ∃ Q : Ending → World → Prop,Q = fun e w' => e = .returned (.bool true) ∧ Below w.heap.size w w' := ⟨_,rfl⟩
 have HQ : Hid (∀ w',Below w.heap.size w w' → Q (.returned (.bool true)) w') := fun w' h => by rw [hQ]; exact ⟨rfl,h⟩
 rw [← hQ]
 clear hQ
 obtain ⟨w1,hw1⟩ : ∃ w1,w1 = w.alloc (.cells #[.int .i64 p,.slice aA nA cA,.slice aG nG cG,.slice aN nN cN] 26 (0,0)) := ⟨_,rfl⟩
 have hb1 : Below w.heap.size w w1 := by rw [hw1]; exact q8 _ _
 have hA1 : AuB w1 w.heap.size p aA nA cA aG nG cG aN nN cN := by rw [hw1]; exact qb w p aA nA cA aG nG cG aN nN cN
 have HW1 : Hid _ := hw1
 obtain ⟨w2,hw2⟩ : ∃ w2,w2 = w1.alloc (.cells #[.int .u8 (x : Int),.int .u8 (y : Int)] 29 (0,0)) := ⟨_,rfl⟩
 have hb2 : Below w1.heap.size w1 w2 := by rw [hw2]; exact q8 _ _
 have hk2 : w2.heap[w1.heap.size]? = some (.cells #[.int .u8 (x : Int),.int .u8 (y : Int)] 29 (0,0)) := by rw [hw2]; exact (MapKept.heap_alloc w1 _).1
 have HW2 : Hid _ := hw2
 have hb02 : Below w.heap.size w w2 := q6 hb1 hb2
 have HC : Hid (∀ w',Below w2.heap.size w2 w' → AuB w' w.heap.size p aA nA cA aG nG cG aN nN cN ∧ w'.heap[w1.heap.size]? = some (.cells #[.int .u8 (x : Int),.int .u8 (y : Int)] 29 (0,0)) ∧ BoSl w' aA nA cA bs ∧ NdSl w' aN nN cN N ∧ ZSl w' aG nG cG gs ∧ Below w.heap.size w w') := fun w' hb =>
  ⟨(hA1.up hb2).up hb,(hb.block _ (Array.getElem?_eq_some_iff.1 hk2).1).trans hk2,(hB.up hb02).up hb,(hN.up hb02).up hb,(hG.up hb02).up hb,q6 hb02 hb⟩
 have HOK : Hid _ := hok
 have HLG0 : Hid (gs.length = nG) := hG.hlen
 clear hB hG hN hok hw1 hb1 hA1 hw2 hb2 hk2 hb02
 have j := qq HA w2
 go_enter Try.func4,Try.ntmps4
 go_wp2_with (first | rw [← HW2.out] | rw [← HW1.out])
 refine j.mono ?_
 rintro e w3 ⟨rfl,hb⟩
 have HB3 : Hid (Below w2.heap.size w2 w3) := hb
 clear j hb HW1 HW2
 obtain ⟨⟨c0,c1,c2,c3⟩,hsp,_⟩ := HC.out w3 HB3.out
 have s0 := q7 hsp 0
 have s1 := q7 hsp 1
 have j := qF p aA nA cA aG nG cG aN nN cN w3
 clear hsp
 by_cases hlg : lgB p nA nG nN = true
 ·rw [hlg] at j
  have HE : Hid (∀ w',Below w3.heap.size w3 w' → Q (.returned (.bool true)) w') := fun w' hb => HQ.out w' (HC.out w' (q6 HB3.out hb)).2.2.2.2.2
  clear hlg HQ
  go_wp2_with fail
  refine j.mono ?_
  rintro e w4 ⟨rfl,hb⟩
  have HF : Hid _ := HE.out w4 hb
  clear j hb HE
  go_wp2
  exact HF.out
 have hlg0 : lgB p nA nG nN = false := by simpa using hlg
 rw [hlg0] at j
 have HLG : Hid _ := q2E hlg0
 clear hlg hlg0
 go_wp2_with fail
 refine j.mono ?_
 rintro e w4 ⟨rfl,hb⟩
 have HB4 : Hid (Below w2.heap.size w2 w4) := q6 HB3.out hb
 clear j hb c0 c1 c2 c3 s0 s1 HB3
 obtain ⟨⟨c0,c1,c2,c3⟩,hsp,hbo,hnd,hzg,_⟩ := HC.out w4 HB4.out
 have s0 := q7 hsp 0
 have s1 := q7 hsp 1
 have j := HB.out.check p aA nA cA aG nG cG aN nN cN bs N gs x y w4 hbo hnd hzg HOK.out hx hy
 clear hsp hbo hnd hzg
 go_wp2_with fail
 refine j.mono ?_
 rintro e w5 ⟨hb,X,rfl,hX⟩
 have HB5 : Hid (Below w2.heap.size w2 w5) := q6 HB4.out hb
 clear j hb c0 c1 c2 c3 s0 s1 HB4
 by_cases hX0 : X = 0
 rotate_left
 ·have HE : Hid _ := HQ.out w5 (HC.out w5 HB5.out).2.2.2.2.2
  have e1 : (X != 0) = true := by simpa using hX0
  clear HQ hX hX0
  go_wp2
  exact HE.out
 subst hX0
 have HX : Hid (ChkN p nA bs N gs x y 0) := hX.out
 clear hX
 obtain ⟨hM,hbz,hsl⟩ := HX.out.okk
 have HM : Hid _ := hM
 have HSL : Hid _ := hsl
 have h1n : 0 < nA := by have := hM.s1; omega
 have hn10 : nA ≤ 10 := by have h2 := hM.s2; have := HLG.out.2.1; omega
 have hnG : nG = nA := HLG0.out.symm.trans hM.len
 subst hnG
 clear hM hsl hbz
 obtain ⟨⟨c0,c1,c2,c3⟩,hsp,hbo,hnd,hzg,_⟩ := HC.out w5 HB5.out
 have s0 := q7 hsp 0
 have s1 := q7 hsp 1
 have j := HA.out.ranks p aA nG cA aG nG cG aN nN cN bs N gs x y w5 hbo hnd hzg HOK.out hx hy
 clear hsp hbo hnd hzg
 go_wp2_with fail
 refine j.mono ?_
 rintro e w6 ⟨hb,ra,rc,X,r,rfl,hr,hz⟩
 obtain ⟨rfl,hrk⟩ := hr.out.real HX.out
 have hrl := hrk.len
 rw [hrl] at hz
 rw [hrl]
 have HRK : Hid (RankA nG (gfA p N gs x y) (acA bs) r) := hrk
 have HZ6 : Hid (ZSl w6 ra nG rc r) := hz.out
 have HB6 : Hid (Below w2.heap.size w2 w6) := q6 HB5.out hb
 clear j hb c0 c1 c2 c3 s0 s1 HB5 hr hrk hrl hz
 obtain ⟨⟨c0,c1,c2,c3⟩,hsp,hbo,hnd,hzg,_⟩ := HC.out w6 HB6.out
 have s0 := q7 hsp 0
 have s1 := q7 hsp 1
 have j := HA.out.wins p aA nG cA aG nG cG aN nN cN bs N gs x y w6 hbo hnd hzg HOK.out hx hy
 clear hsp hbo hnd hzg
 go_wp2_with fail
 refine j.mono ?_
 rintro e w7 ⟨hb,b,X,rfl,hwn⟩
 obtain ⟨rfl,hbb⟩ := hwn.out.real HX.out HRK.out
 have HBB : Hid _ := hbb
 have HB7 : Hid (Below w2.heap.size w2 w7) := q6 HB6.out hb
 have HZ7 : Hid (ZSl w7 ra nG rc r) := HZ6.out.up hb
 clear j hb c0 c1 c2 c3 s0 s1 HB6 hwn hbb HZ6
 obtain ⟨⟨c0,c1,c2,c3⟩,_⟩ := HC.out w7 HB7.out
 have j := q1Y p aA nG cA aG nG cG aN nN cN w7 h1n rfl
 go_wp2_with fail
 refine j.mono ?_
 rintro e w8 ⟨rfl,hb⟩
 have HB8 : Hid (Below w2.heap.size w2 w8) := q6 HB7.out hb
 have HZ8 : Hid (ZSl w8 ra nG rc r) := HZ7.out.up hb
 clear j hb c0 c1 c2 c3 HB7 HZ7
 obtain ⟨⟨c0,c1,c2,c3⟩,_⟩ := HC.out w8 HB8.out
 have ix0 : ∀ w',(Instr.indexAt 23 (.slice ra nG rc) (.int .i64 0)).run Try.prog w' = .ok (.pointer (some (adOf ra 0))) w' := fun w' => HZ8.out.idx nG 0 w' h1n (Nat.le_refl _)
 have ce0 := HZ8.out.cell 0 h1n
 have e1 : decide (0 ≤ r.getD 0 0) = b := HBB.out.symm
 have e2 : ((nG : Int) != (nG : Int)) = false := by simp
 have e3 : (b != b) = false := by simp
 generalize r.getD 0 0 = z0 at *
 generalize adOf ra 0 = ad at *
 obtain ⟨ad1,ad2,ad3⟩ := ad
 clear HBB
 go_wp2
 clear e1 e2 e3 ix0 ce0 c0 c1 c2 c3
 have HIN : Hid (InA nG (gfA p N gs x y)) := qt HM.out HSL.out
 have HNE : Hid (∀ q,q < nG → gfA p N gs x y q ≠ []) := fun q _ => q2a
 have HBD : Hid (∀ q,q < nG → -1 ≤ r.getD q 0 ∧ r.getD q 0 < (nG : Int) ∧ (r.getD q 0 = 0 ↔ acA bs q = true)) := fun q hq => HRK.out.bd HIN.out HNE.out hq
 go_loopw [10] (fun i wr => ∃ k : Nat,k ≤ nG ∧ i = .int .i64 (k : Int) ∧ Hid (Below w8.heap.size w8 wr)) (fun i _ => nG - (intOf i).toNat)
 case atStart => exact ⟨0,Nat.zero_le _,rfl,Below.refl _ _⟩
 case round =>
  obtain ⟨k,hk,rfl,HBr⟩ := hrel
  by_cases hlt : k < nG
  ·have e1 : decide ((k : Int) < (nG : Int)) = true := decide_eq_true (by omega)
   have HBw : Hid (Below w2.heap.size w2 wr) := q6 HB8.out HBr.out
   have hzr := HZ8.out.up HBr.out
   have ixk := fun w' => hzr.idx nG k w' hlt (Nat.le_refl _)
   have cek := hzr.cell k hlt
   obtain ⟨⟨c0,c1,c2,c3⟩,hsp,hbo,hnd,hzg,_⟩ := HC.out wr HBw.out
   obtain ⟨ixb,ceb⟩ := hbo.getQ hlt
   obtain ⟨hz1,hz2,hz3⟩ := HBD.out k hlt
   have d1 : decide (r.getD k 0 < -1) = false := decide_eq_false (by omega)
   have d2 : decide ((nG : Int) ≤ r.getD k 0) = false := decide_eq_false (by omega)
   have d3 : (r.getD k 0 == 0) = bs.getD k false := by
    cases hb2 : bs.getD k false with
    | true => exact beq_iff_eq.2 (hz3.2 hb2)
    | false => exact beq_false_of_ne fun e => by have := hz3.1 e; rw [acA,hb2] at this; cases this
   have HZK : Hid (r.getD k 0 = r.getD k 0) := rfl
   have HFA : Hid (0 < r.getD k 0 → (∀ row ∈ gfA p N gs x y k,lstA r row (r.getD k 0) < r.getD k 0) ∧ ∃ row ∈ gfA p N gs x y k,lstA r row (r.getD k 0) = r.getD k 0 - 1) := fun h => HRK.out.falls HIN.out HNE.out hlt h
   have HST : Hid (r.getD k 0 < 0 → ∃ row ∈ gfA p N gs x y k,∀ t ∈ row,r.getD t 0 < 0) := fun h => HRK.out.stays HIN.out hlt h
   have HIX : Hid (∀ w',Below wr.heap.size wr w' → (∀ w'',(Instr.indexAt 23 (.slice ra nG rc) (.int .i64 (k : Int))).run Try.prog w'' = .ok (.pointer (some (adOf ra k))) w'') ∧ w'.cell? (adOf ra k) = some (.int .i64 (r.getD k 0))) := fun w' hb => ⟨ixk,(hzr.up hb).cell k hlt⟩
   have hkb : 0 ≤ r.getD k 0 ∨ r.getD k 0 = -1 := by omega
   clear hzr hbo hnd hzg hsp HZK
   generalize r.getD k 0 = z at *
   generalize bs.getD k false = ab at *
   have zk := cell_regrown cek
   have zb := cell_regrown ceb
   have z1 := cell_regrown c1
   generalize hra : adOf ra k = ak at *
   obtain ⟨ak1,ak2,ak3⟩ := ak
   generalize adOf aA k = bk at *
   obtain ⟨bk1,bk2,bk3⟩ := bk
   have d4 : (ab != ab) = false := by simp
   have HE : Hid (∀ dd os,Below wr.heap.size wr (grow (redrawn wr dd) os)) := fun dd os => below_regrown wr dd os
   clear hra
   go_upto_region 11 with fail
   refine wp_region_quiet_below (by kernel_rfl) (by kernel_rfl) ?_
   repeat (go_big_quiet_step (fail))
   refine wpQuiet_nil ?_
   intro _ hw'
   obtain ⟨⟨dq,osq⟩,hw''⟩ := hw'
   subst hw''
   have HI3 : Hid _ := HE.out dq osq
   generalize grow (redrawn wr dq) osq = wx at *
   clear zk zb z1 HE cek ceb c0 c1 c2 c3 d1 d2 d3 d4 ixb ixk
   obtain ⟨⟨c0,c1,c2,c3⟩,hsp,hbo,hnd,hzg,_⟩ := HC.out wx (q6 HBw.out HI3.out)
   have s0 := q7 hsp 0
   have s1 := q7 hsp 1
   have j := HB.out.goes p aA nG cA aG nG cG aN nN cN bs N gs x y (k : Int) wx hbo hnd hzg HOK.out hx hy
   clear hsp hbo hnd hzg
   go_wp2_with fail
   refine j.mono ?_
   rintro e wy ⟨hb,ga,gn,gc,X,zs,rfl,hg,hzz⟩
   obtain ⟨rfl,hgs⟩ := hg.out.real HX.out hlt
   rw [q2z] at hgs
   have hgn : gn = (mvL x).length := by rw [← hzz.out.hlen,← List.length_map (f := Zc.zs),hgs,List.length_map,gfA,List.length_map]
   have hg1 : gn ≤ 256 := by rw [hgn]; exact qk x
   have hg0 : 0 < gn := by rw [hgn]; exact qI x
   have HRW : Hid (RwS wy ga gn gc (gfA p N gs x y k) nG) := hzz.out.rwS hgs (by omega) (HIN.out k hlt) (fun row hr => Nat.le_trans (q3I hr) (by decide))
   have HBy : Hid (Below wr.heap.size wr wy) := q6 HI3.out hb
   obtain ⟨ixk,cek⟩ := HIX.out wy HBy.out
   have HFA2 : Hid (0 < z → (∀ i,i < gn → lstA r ((gfA p N gs x y k).getD i []) z < z) ∧ ∃ i,i < gn ∧ lstA r ((gfA p N gs x y k).getD i []) z = z - 1) := fun h => by
    obtain ⟨h1,row,h2,h3⟩ := HFA.out h
    refine ⟨fun i hi => h1 _ (q33 (by rw [HRW.out.len]; exact hi)),?_⟩
    obtain ⟨i,hi,rfl⟩ := q1H h2
    exact ⟨i,by rw [← HRW.out.len]; exact hi,h3⟩
   have HST2 : Hid (z < 0 → ∃ i,i < gn ∧ negA r ((gfA p N gs x y k).getD i []) = true) := fun h => by
    obtain ⟨row,h2,h3⟩ := HST.out h
    obtain ⟨i,hi,rfl⟩ := q1H h2
    exact ⟨i,by rw [← HRW.out.len]; exact hi,List.all_eq_true.2 fun t ht => decide_eq_true (h3 t ht)⟩
   have hzy := HZ8.out.up (q6 HBr.out HBy.out)
   have HZY : Hid (ZSl wy ra nG rc r) := hzy
   have HIR : Hid (∀ t,t < nG → -1 ≤ r.getD t 0 ∧ r.getD t 0 < 1000) := fun t ht => by have := HBD.out t ht; omega
   have HBN : Hid (Below w8.heap.size w8 wy) := q6 HBr.out HBy.out
   have g1 : ((gn : Int) == 0) = false := beq_false_of_ne (by omega)
   clear j hb hg hzz hgs c0 c1 c2 c3 s0 s1 HFA HST hzy HIX HI3 HBy hgn
   generalize hra : adOf ra k = ak at *
   obtain ⟨ak1,ak2,ak3⟩ := ak
   clear hra
   by_cases hp : 0 < z
   ·have d1 : decide (0 < z) = true := decide_eq_true hp
    have d2 : decide (z < 0) = false := decide_eq_false (by omega)
    obtain ⟨f1,f2⟩ := HFA2.out hp
    have jf := q1U ra nG rc r ga gn gc (gfA p N gs x y k) z wy HZY.out HRW.out hp (by omega) HIR.out f1 f2
    clear f1 f2 HFA2 HST2 hkb hp
    go_wp2_with (go_at_call 23; refine jf.mono ?_; rintro e w' ⟨rfl,hw'⟩; obtain rfl := hw'.symm; clear hw')
    go_roundw
    case rel => exact ⟨k + 1,by omega,by go_num,HBN⟩
    case measure => simp [intOf]; omega
   ·have d1 : decide (0 < z) = false := decide_eq_false hp
    by_cases hn : z < 0
    ·have d2 : decide (z < 0) = true := decide_eq_true hn
     have jf := q22 ra nG rc r ga gn gc (gfA p N gs x y k) wy HZY.out HRW.out (HST2.out hn)
     clear HFA2 HST2 hkb hp hn
     go_wp2_with (go_at_call 24; refine jf.mono ?_; rintro e w' ⟨rfl,hw'⟩; obtain rfl := hw'.symm; clear hw')
     go_roundw
     case rel => exact ⟨k + 1,by omega,by go_num,HBN⟩
     case measure => simp [intOf]; omega
    ·have d2 : decide (z < 0) = false := decide_eq_false hn
     clear HFA2 HST2 hkb hp hn
     go_wp2
     go_roundw
     case rel => exact ⟨k + 1,by omega,by go_num,HBN⟩
     case measure => simp [intOf]; omega
  ·obtain rfl : k = nG := by omega
   have e1 : decide ((k : Int) < (k : Int)) = false := by simp
   have HE : Hid _ := HQ.out wr (HC.out wr (q6 HB8.out HBr.out)).2.2.2.2.2
   clear HQ HBr
   go_wp2
   exact HE.out
end Go.Proofs.Ytbgogbafkoekjaa
