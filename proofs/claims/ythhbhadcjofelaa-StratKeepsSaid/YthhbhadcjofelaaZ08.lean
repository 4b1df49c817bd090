/- Texts of the proof, put together: what it uses. -/
import Derived.BigQuiet
import Derived.Lib.QuietBelow
import Derived.Test.YthhbhadcjofelaaZ00
import Derived.Test.YthhbhadcjofelaaZ02
import Derived.Test.YthhbhadcjofelaaZ07
set_option maxRecDepth 100000
set_option maxHeartbeats 16000000
namespace Go.Proofs.Ythhbhadcjofelaa
open Go.RowKit Go.Maps Go.Sort
def NumN (m v : Nat) (n E : Int) : Prop := (v &&& m = v ∧ E = 0 ∧ ∃ i : Nat,n = (i : Int) ∧ i < (mvL m).length ∧ (mvL m).getD i 0 = v) ∨ (¬ (v &&& m = v) ∧ n = 0 ∧ E = 14)
def ChkN (p : Int) (nA : Nat) (bs : List Bool) (N : List Gd) (gs : List Int) (e s : Nat) (X : Int) : Prop :=
 (¬ MayG p nA N gs ∧ X = 12) ∨ (MayG p nA N gs ∧ bs.getD 0 false = true ∧ X = 12) ∨ (MayG p nA N gs ∧ bs.getD 0 false = false ∧ ¬ SplitN p.toNat e s ∧ X = 13) ∨ (MayG p nA N gs ∧ bs.getD 0 false = false ∧ SplitN p.toNat e s ∧ X = 0)
def goeL (p : Int) (N : List Gd) (gs : List Int) (e s k : Nat) : List (List Int) := (mvL e).map fun x => (mvL s).map fun y => ((trP (rwA p N gs) k (x ||| y) : Nat) : Int)
def GoeN (p : Int) (nA : Nat) (bs : List Bool) (N : List Gd) (gs : List Int) (e s : Nat) (q : Int) (X : Int) (rs : List (List Int)) : Prop :=
 (X ≠ 0 ∧ ChkN p nA bs N gs e s X ∧ rs = []) ∨ (ChkN p nA bs N gs e s 0 ∧ ¬ (0 ≤ q ∧ q < (nA : Int)) ∧ X = 2 ∧ rs = []) ∨ (ChkN p nA bs N gs e s 0 ∧ X = 0 ∧ ∃ k : Nat,q = (k : Int) ∧ k < nA ∧ rs = goeL p N gs e s k)
structure BrdC : Prop where
 moves : ∀ (m : Nat) (w : World),m < 256 → Calls Try.prog 52 #[.int .u8 (m : Int)] w fun e w' => Below w.heap.size w w' ∧ ∃ a c,e = .returned (.slice a (mvL m).length c) ∧ LtC w' a (mvL m).length c (mvL m)
 number : ∀ (m v : Nat) (w : World),m < 256 → v < 256 → Calls Try.prog 69 #[.int .u8 (m : Int),.int .u8 (v : Int)] w fun e w' => Below w.heap.size w w' ∧ ∃ n E : Int,e = .returned (.tuple #[.int .i64 n,.int .i64 E]) ∧ Hid (NumN m v n E)
 check : ∀ (p : Int) (aA : Option Addr) (nA cA : Nat) (aG : Option Addr) (nG cG : Nat) (aN : Option Addr) (nN cN : Nat) (bs : List Bool) (N : List Gd) (gs : List Int) (x y : Nat) (w : World),BoSl w aA nA cA bs → NdSl w aN nN cN N → ZSl w aG nG cG gs → (∀ z ∈ gs,I64 z) → x < 256 → y < 256 →
  Calls Try.prog 25 #[.agg #[.int .i64 p,.slice aA nA cA,.slice aG nG cG,.slice aN nN cN],.agg #[.int .u8 (x : Int),.int .u8 (y : Int)]] w fun e w' => Below w.heap.size w w' ∧ ∃ X : Int,e = .returned (.int .i64 X) ∧ Hid (ChkN p nA bs N gs x y X)
 goes : ∀ (p : Int) (aA : Option Addr) (nA cA : Nat) (aG : Option Addr) (nG cG : Nat) (aN : Option Addr) (nN cN : Nat) (bs : List Bool) (N : List Gd) (gs : List Int) (x y : Nat) (q : Int) (w : World),BoSl w aA nA cA bs → NdSl w aN nN cN N → ZSl w aG nG cG gs → (∀ z ∈ gs,I64 z) → x < 256 → y < 256 →
  Calls Try.prog 84 #[.agg #[.int .i64 p,.slice aA nA cA,.slice aG nG cG,.slice aN nN cN],.agg #[.int .u8 (x : Int),.int .u8 (y : Int)],.int .i64 q] w fun e w' => Below w.heap.size w w' ∧ ∃ (a : Option Addr) (n c : Nat) (X : Int) (rs : List Zc),e = .returned (.tuple #[.slice a n c,.int .i64 X]) ∧ Hid (GoeN p nA bs N gs x y q X (rs.map Zc.zs)) ∧ Hid (ZzSl w' a n c rs)
theorem qs (w : World) (ts : List Nat) (hl : ts.length ≤ 1000) : LtC (w.alloc (.cells (ltV ts).toArray 27)) (some ⟨w.heap.size,0,none⟩) ts.length ts.length ts := by
 have hc := (MapKept.heap_alloc w (.cells (ltV ts).toArray 27)).1
 have had : ∀ k,adOf (some (⟨w.heap.size,0,none⟩ : Addr)) k = ⟨w.heap.size,k,none⟩ := fun k => by simp [adOf,qf]
 refine ⟨by simp,Nat.le_refl _,by unfold maxLen; omega,fun m k w hk hm => qk Try.underlying31 q1p (by simp) k w hk,fun k hk => ?_,fun k hk => by rw [had]; simp,by simp⟩
 rw [had,q8 hc,qh hk]
 simpa using q49 hk
theorem q2u {m l : Nat} (hm : m < 256) (hl : l < 256) : (bits .andNot .u8 (l : Int) (m : Int) == 0) = decide (l &&& m = l) := by
 rw [u8_andNot_nat l m hl hm]
 by_cases h : l &&& m = l
 ·rw [decide_eq_true h,(q23 hm hl).2 h]; rfl
 ·rw [decide_eq_false h]
  refine beq_false_of_ne fun e => h ((q23 hm hl).1 ?_)
  exact_mod_cast e
theorem q2E (k : Int) (n : Nat) (w : World) (hn : 1 ≤ n) (hn2 : n ≤ 1000) :
  Calls Try.prog 53 #[.int .i64 k,.int .i64 (n : Int)] w fun e w' => ∃ i : Nat,i < n ∧ e = .returned (.int .i64 (i : Int)) ∧ w' = w := by
 have b1 : k.tmod n < n := Int.tmod_lt_of_pos k (by omega)
 have b2 : -(n : Int) < k.tmod n := Int.lt_tmod_of_pos k (by omega)
 have hn0 : ¬ ((n : Int) = 0) := by omega
 have hn1 : ¬ ((n : Int) < 1) := by omega
 have hw : IntKind.i64.wrap (k.tmod n) = k.tmod n := by rw [IntKind.wrap_i64]; omega
 by_cases h0 : k.tmod n < 0
 ·have hw2 : IntKind.i64.wrap (k.tmod n + n) = k.tmod n + n := by rw [IntKind.wrap_i64]; omega
  go_enter Try.func53,Try.ntmps53
  go_wp2
  go_ret
  exact ⟨(k.tmod n + n).toNat,by omega,by show Ending.returned (Value.int IntKind.i64 (k.tmod n + n)) = _; rw [Int.toNat_of_nonneg (by omega)],rfl⟩
 ·go_enter Try.func53,Try.ntmps53
  go_wp2
  go_ret
  exact ⟨(k.tmod n).toNat,by omega,by show Ending.returned (Value.int IntKind.i64 (k.tmod n)) = _; rw [Int.toNat_of_nonneg (by omega)],rfl⟩
theorem BoSl.getQ {w : World} {a : Option Addr} {n c : Nat} {bs : List Bool} (h : BoSl w a n c bs) {i : Nat} (hi : i < n) : (∀ w',(Instr.indexAt 22 (.slice a n c) (.int .i64 (i : Int))).run Try.prog w' = .ok (.pointer (some (adOf a i))) w') ∧ w.cell? (adOf a i) = some (.bool (bs.getD i false)) := by
 obtain ⟨x,rfl⟩ := h.some_of (by omega)
 have hl := h.hlen
 refine ⟨fun w' => qk (P := Try.prog) (T := 22) Try.underlying22 q1W (by simp) i w' hi,?_⟩
 have := h.c x rfl i (by omega)
 rw [List.getD_eq_getElem?_getD,List.getElem?_eq_getElem (by omega)]
 exact this
theorem qN {M : Nat} (h : M ≤ 256) : wrap64 (M : Int) = (M : Int) := by unfold wrap64; omega
theorem ChkN.uni {p : Int} {nA : Nat} {bs : List Bool} {N : List Gd} {gs : List Int} {e s : Nat} {X Y : Int} (h : ChkN p nA bs N gs e s X) (k : ChkN p nA bs N gs e s Y) : X = Y := by
 rcases h with ⟨h1,rfl⟩ | ⟨h1,h2,rfl⟩ | ⟨h1,h2,h3,rfl⟩ | ⟨h1,h2,h3,rfl⟩ <;> rcases k with ⟨k1,rfl⟩ | ⟨k1,k2,rfl⟩ | ⟨k1,k2,k3,rfl⟩ | ⟨k1,k2,k3,rfl⟩ <;> first
  | rfl
  | exact absurd h1 k1
  | exact absurd k1 h1
  | exact absurd h3 k3
  | exact absurd k3 h3
  | (rw [h2] at k2; cases k2)
def gfA (p : Int) (N : List Gd) (gs : List Int) (e s q : Nat) : List (List Nat) := (mvL e).map fun x => (mvL s).map fun y => trP (rwA p N gs) q (x ||| y)
theorem q4T (p : Int) (N : List Gd) (gs : List Int) (e s q : Nat) : goeL p N gs e s q = (gfA p N gs e s q).map (·.map Int.ofNat) := by
 simp [goeL,gfA,Function.comp_def]
theorem qH {p : Int} {nA : Nat} {N : List Gd} {gs : List Int} {e s : Nat} (h : MayG p nA N gs) (hs : SplitN p.toNat e s) : InA nA (gfA p N gs e s) := fun q hq row hr t ht => by
 obtain ⟨x,hx,rfl⟩ := List.mem_map.1 hr
 obtain ⟨y,hy,rfl⟩ := List.mem_map.1 ht
 have h1 := qp (qm.1 hx).2
 have h2 := qp (qm.1 hy).2
 have h5 : e ||| s = 2 ^ p.toNat - 1 := hs.2
 have h6 : 0 < 2 ^ p.toNat := Nat.two_pow_pos _
 have h7 : e ≤ e ||| s := Nat.left_le_or
 have h8 : s ≤ e ||| s := Nat.right_le_or
 exact (h.rows (2 ^ p.toNat)).lt q (x ||| y) hq (Nat.or_lt_two_pow (by omega) (by omega))
theorem q20 {p : Int} {N : List Gd} {gs : List Int} {e s q : Nat} : gfA p N gs e s q ≠ [] := fun h => by
 have h1 : (gfA p N gs e s q).length = 0 := by rw [h]; rfl
 rw [gfA,List.length_map] at h1
 have := qF e
 omega
abbrev acA (bs : List Bool) (q : Nat) : Bool := bs.getD q false
def uxN : List Gd := [(1,-2,-3),(1,-1,-3),(0,0,1)]
def uxG : List Int := [2,-2,-3]
def uxB : List Bool := [false,false,true]
theorem q1u : ∀ z ∈ uxG,I64 z := fun z hz => by
 simp [uxG] at hz
 rcases hz with rfl | rfl | rfl <;> exact ⟨by decide,by decide⟩
theorem q5t : ∀ t ∈ uxN,GdOk t := fun t ht => by
 simp [uxN] at ht
 rcases ht with rfl | rfl | rfl <;> exact ⟨⟨by decide,by decide⟩,⟨by decide,by decide⟩,⟨by decide,by decide⟩⟩
theorem q1v : MayG 2 3 uxN uxG := by
 refine ⟨by decide,by decide,by decide,by decide,rfl,by decide,fun i P lo hi e => ?_,by decide,fun g hg => ?_⟩
 ·match i with
  | 0 =>
   simp [uxN] at e
   obtain ⟨rfl,rfl,rfl⟩ := e
   exact ⟨by decide,by decide,by decide,.inl ⟨by decide,by decide⟩,.inl ⟨by decide,by decide⟩⟩
  | 1 =>
   simp [uxN] at e
   obtain ⟨rfl,rfl,rfl⟩ := e
   exact ⟨by decide,by decide,by decide,.inl ⟨by decide,by decide⟩,.inl ⟨by decide,by decide⟩⟩
  | 2 =>
   simp [uxN] at e
   obtain ⟨rfl,rfl,rfl⟩ := e
   exact ⟨by decide,by decide,by decide,.inr ⟨0,rfl,by decide,_,rfl,by decide⟩,.inr ⟨1,rfl,by decide,_,rfl,by decide⟩⟩
  | i + 3 => simp [uxN] at e
 ·simp [uxG] at hg
  rcases hg with rfl | rfl | rfl
  ·exact .inr ⟨2,rfl,by decide,_,rfl,by decide⟩
  ·exact .inl ⟨by decide,by decide⟩
  ·exact .inl ⟨by decide,by decide⟩
theorem q3n {e s : Nat} (h : e &&& s = 0 ∧ e ||| s = 3) : SplitN (2 : Int).toNat e s := h
theorem ux_ok {e s : Nat} (h : e &&& s = 0 ∧ e ||| s = 3) : ChkN 2 3 uxB uxN uxG e s 0 := .inr (.inr (.inr ⟨q1v,rfl,q3n h,rfl⟩))
theorem q5u {e s : Nat} (h : (e = 1 ∧ s = 2) ∨ (e = 0 ∧ s = 3)) : RankA 3 (gfA 2 uxN uxG e s) (acA uxB) [1,-1,0] := by
 have hs : SplitN (2 : Int).toNat e s := by rcases h with ⟨rfl,rfl⟩ | ⟨rfl,rfl⟩ <;> exact ⟨by decide,by decide⟩
 refine q1M (K := 1) (qH q1v hs) (fun q hq => ?_) rfl fun q hq => ?_
 ·rcases h with ⟨rfl,rfl⟩ | ⟨rfl,rfl⟩ <;> (match q,hq with | 0,_ => decide +kernel | 1,_ => decide +kernel | 2,_ => decide +kernel)
 ·rcases h with ⟨rfl,rfl⟩ | ⟨rfl,rfl⟩ <;>
  (match q,hq with
   | 0,_ => exact .inr ⟨1,rfl,by decide +kernel,fun j hj => (by obtain rfl : j = 0 := (by omega); decide +kernel)⟩
   | 1,_ => exact .inl ⟨rfl,by decide +kernel⟩
   | 2,_ => exact .inr ⟨0,rfl,by decide +kernel,fun j hj => absurd hj (Nat.not_lt_zero _)⟩)
theorem q5h {e s : Nat} (h : (e = 2 ∧ s = 1) ∨ (e = 3 ∧ s = 0)) : RankA 3 (gfA 2 uxN uxG e s) (acA uxB) [-1,-1,0] := by
 have hs : SplitN (2 : Int).toNat e s := by rcases h with ⟨rfl,rfl⟩ | ⟨rfl,rfl⟩ <;> exact ⟨by decide,by decide⟩
 refine q1M (K := 0) (qH q1v hs) (fun q hq => ?_) rfl fun q hq => ?_
 ·rcases h with ⟨rfl,rfl⟩ | ⟨rfl,rfl⟩ <;> (match q,hq with | 0,_ => decide +kernel | 1,_ => decide +kernel | 2,_ => decide +kernel)
 ·rcases h with ⟨rfl,rfl⟩ | ⟨rfl,rfl⟩ <;>
  (match q,hq with
   | 0,_ => exact .inl ⟨rfl,by decide +kernel⟩
   | 1,_ => exact .inl ⟨rfl,by decide +kernel⟩
   | 2,_ => exact .inr ⟨0,rfl,by decide +kernel,fun j hj => absurd hj (Nat.not_lt_zero _)⟩)
theorem qy (w : World) : Calls Try.prog 28 #[] w fun e w' => ∃ b1 d1 b2 d2 b3 d3,e = .returned (.agg #[.int .i64 2,.slice b1 3 d1,.slice b2 3 d2,.slice b3 3 d3]) ∧ Hid (AuX w' b1 3 d1 b2 3 d2 b3 3 d3 uxB uxG uxN) ∧ Hid (Below w.heap.size w w') := by
 have HA : Hid _ := q5i w (.cells #[.int .i64 2,.slice (some ⟨w.heap.size + 1,0,none⟩) 3 3,.slice (some ⟨w.heap.size + 1 + 1,0,none⟩) 3 3,.slice (some ⟨w.heap.size + 1 + 1 + 1,0,none⟩) 3 3] 26) uxB uxG uxN (by decide) (by decide) (by decide) q5t
 go_enter Try.func28,Try.ntmps28
 go_wp2
 refine bodyPost_ret (v := .agg #[.int .i64 2,.slice (some ⟨w.heap.size + 1,0,none⟩) 3 3,.slice (some ⟨w.heap.size + 1 + 1,0,none⟩) 3 3,.slice (some ⟨w.heap.size + 1 + 1 + 1,0,none⟩) 3 3]) ?_ rfl ⟨_,_,_,_,_,_,rfl,HA.out.1,HA.out.2⟩
 simp [results,Try.results28,go_sem]
structure RwS (w : World) (a : Option Addr) (n c : Nat) (R : List (List Nat)) (m : Nat) : Prop where
 len : R.length = n
 bd : n ≤ 1000
 row : ∀ k,k < n → ∃ (g o : Nat) (s : Option Nat) (a' : Option Addr) (c' : Nat),(∀ w',(Instr.indexAt 50 (.slice a n c) (.int .i64 (k : Int))).run Try.prog w' = .ok (.pointer (some ⟨g,o,s⟩)) w') ∧ w.cell? ⟨g,o,s⟩ = some (.slice a' (R.getD k []).length c') ∧ ZSl w a' (R.getD k []).length c' ((R.getD k []).map Int.ofNat)
 lt : ∀ k,k < n → ∀ t ∈ R.getD k [],t < m
 rl : ∀ k,k < n → (R.getD k []).length ≤ 1000
theorem RwS.up {w w' : World} {a : Option Addr} {n c : Nat} {R : List (List Nat)} {m : Nat} (h : RwS w a n c R m) (hb : Below w.heap.size w w') : RwS w' a n c R m :=
 ⟨h.len,h.bd,fun k hk => by obtain ⟨g,o,s,a',c',h1,h2,h3⟩ := h.row k hk; exact ⟨g,o,s,a',c',h1,qd h2 hb,h3.up hb⟩,h.lt,h.rl⟩
theorem ZzSl.rwS {w : World} {a : Option Addr} {n c : Nat} {zs : List Zc} (h : ZzSl w a n c zs) {R : List (List Nat)} (hz : zs.map Zc.zs = R.map (·.map Int.ofNat)) {m : Nat} (hn : n ≤ 1000) (hlt : ∀ row ∈ R,∀ t ∈ row,t < m) (hrl : ∀ row ∈ R,row.length ≤ 1000) : RwS w a n c R m := by
 have hl : R.length = n := by
  have := congrArg List.length hz
  rw [List.length_map,List.length_map] at this
  rw [← this]; exact h.hlen
 have hmem : ∀ k,k < n → R.getD k [] ∈ R := fun k hk => by
  rw [List.getD_eq_getElem?_getD,List.getElem?_eq_getElem (by omega)]
  exact List.getElem_mem _
 refine ⟨hl,hn,fun k hk => ?_,fun k hk => hlt _ (hmem k hk),fun k hk => hrl _ (hmem k hk)⟩
 obtain ⟨g,o,s,r,hr,hi,hc,hs,_⟩ := h.at k hk
 have e : r.zs = (R.getD k []).map Int.ofNat := by
  have h2 := congrArg (fun l => l[k]?) hz
  simp only [List.getElem?_map,hr,Option.map_some] at h2
  rw [List.getElem?_eq_getElem (by omega)] at h2
  simp only [Option.map_some,Option.some.injEq] at h2
  rw [h2,List.getD_eq_getElem?_getD,List.getElem?_eq_getElem (by omega),Option.getD_some]
 have e2 : r.len = (R.getD k []).length := by rw [← hs.hlen,e,List.length_map]
 rw [e,e2] at hs
 rw [e2] at hc
 exact ⟨g,o,s,r.a,r.cap,hi,hc,hs⟩
theorem q3Z {l : List Nat} {j : Nat} (h : j < l.length) : l.take (j + 1) = l.take j ++ [l.getD j 0] := by
 rw [List.take_add_one,List.getElem?_eq_getElem h,List.getD_eq_getElem?_getD,List.getElem?_eq_getElem h]; rfl
theorem q2x {l : List Nat} {j : Nat} (h : j < l.length) : l.getD j 0 ∈ l := by
 rw [List.getD_eq_getElem?_getD,List.getElem?_eq_getElem h]; exact List.getElem_mem _
theorem q53 {l : List Nat} {j : Nat} (h : j < l.length) : (l.map Int.ofNat).getD j 0 = ((l.getD j 0 : Nat) : Int) := by
 simp [List.getD_eq_getElem?_getD,List.getElem?_eq_getElem h]
theorem ChkN.okk {p : Int} {nA : Nat} {bs : List Bool} {N : List Gd} {gs : List Int} {e s : Nat} (h : ChkN p nA bs N gs e s 0) : MayG p nA N gs ∧ bs.getD 0 false = false ∧ SplitN p.toNat e s := by
 rcases h with ⟨_,h⟩ | ⟨_,_,h⟩ | ⟨_,_,_,h⟩ | ⟨h1,h2,h3,_⟩
 ·cases h
 ·cases h
 ·cases h
 ·exact ⟨h1,h2,h3⟩
structure Lc where
 a : Option Addr
 len : Nat
 cap : Nat
 ts : List Nat
structure LlSl (w : World) (a : Option Addr) (len cap : Nat) (rs : List Lc) : Prop where
 hlen : rs.length = len
 hcap : len ≤ cap
 bd : cap ≤ maxLen
 nn : a = none → cap = 0
 c : ∀ x,a = some x → ∀ k (h : k < rs.length),w.cell? (x.add k) = some (.slice rs[k].a rs[k].len rs[k].cap)
 t : ∀ r ∈ rs,LtC w r.a r.len r.cap r.ts ∧ ∀ z ∈ r.ts,z < 256
theorem LlSl.up {w w' : World} {a : Option Addr} {len cap : Nat} {rs : List Lc} (h : LlSl w a len cap rs) (hb : Below w.heap.size w w') : LlSl w' a len cap rs :=
 ⟨h.hlen,h.hcap,h.bd,h.nn,fun x hx k hk => qd (h.c x hx k hk) hb,fun r hr => ⟨(h.t r hr).1.up hb,(h.t r hr).2⟩⟩
theorem q1X : (Try.prog.info? 31).map (·.size) = some 1 := by kernel_rfl
theorem LlSl.at {w : World} {a : Option Addr} {len cap : Nat} {rs : List Lc} (h : LlSl w a len cap rs) (k : Nat) (hk : k < len) :
  ∃ g o s,∃ r : Lc,rs[k]? = some r ∧ (∀ w',(Instr.indexAt 30 (.slice a len cap) (.int .i64 (k : Int))).run Try.prog w' = .ok (.pointer (some ⟨g,o,s⟩)) w') ∧ w.cell? ⟨g,o,s⟩ = some (.slice r.a r.len r.cap) ∧ LtC w r.a r.len r.cap r.ts ∧ ∀ z ∈ r.ts,z < 256 := by
 have hkl : k < rs.length := by rw [h.hlen]; exact hk
 cases a with
 | none => have := h.nn rfl; have := h.hcap; omega
 | some x =>
  have e0 := h.c x rfl k hkl
  have ht := h.t _ (List.getElem_mem hkl)
  have hi := fun w' => qk (P := Try.prog) (T := 30) Try.underlying30 q1X (a := some x) (cap := cap) (n := len) (fun e => by cases e) k w' hk
  simp only [adOf] at hi
  generalize x.add k = y at *
  obtain ⟨g,o,s⟩ := y
  exact ⟨g,o,s,rs[k],List.getElem?_eq_getElem hkl,hi,e0,ht.1,ht.2⟩
structure SgW (w : World) (aR : Option Addr) (nR cR : Nat) (aP : Option Addr) (nP cP : Nat) (aC : Option Addr) (nC cC : Nat) (x : SgX) : Prop where
 r : ZSl w aR nR cR x.R
 ri : ∀ z ∈ x.R,I64 z
 p : ∃ rs : List Lc,LlSl w aP nP cP rs ∧ rs.map Lc.ts = x.rep
 c : LtC w aC nC cC x.cho
 ci : ∀ z ∈ x.cho,z < 256
theorem SgW.up {w w' : World} {aR : Option Addr} {nR cR : Nat} {aP : Option Addr} {nP cP : Nat} {aC : Option Addr} {nC cC : Nat} {x : SgX} (h : SgW w aR nR cR aP nP cP aC nC cC x) (hb : Below w.heap.size w w') : SgW w' aR nR cR aP nP cP aC nC cC x :=
 ⟨h.r.up hb,h.ri,by obtain ⟨rs,h1,h2⟩ := h.p; exact ⟨rs,h1.up hb,h2⟩,h.c.up hb,h.ci⟩
theorem SgW.lp {w : World} {aR : Option Addr} {nR cR : Nat} {aP : Option Addr} {nP cP : Nat} {aC : Option Addr} {nC cC : Nat} {x : SgX} (h : SgW w aR nR cR aP nP cP aC nC cC x) : x.rep.length = nP := by
 obtain ⟨rs,h1,h2⟩ := h.p
 rw [← h2,List.length_map]; exact h1.hlen
def noneS : SgX := ⟨false,[],[],[]⟩
abbrev toS (p : Int) (N : List Gd) (gs : List Int) (q l : Nat) : Nat := trP (rwA p N gs) q l
theorem qJ {p : Int} {nA : Nat} {N : List Gd} {gs : List Int} {e s : Nat} (h : MayG p nA N gs) (hs : SplitN p.toNat e s) : InT (toS p N gs) nA e s := fun q hq a b ha hb => by
 have h1 := qp ha
 have h2 := qp hb
 have h5 : e ||| s = 2 ^ p.toNat - 1 := hs.2
 have h6 : 0 < 2 ^ p.toNat := Nat.two_pow_pos _
 have h7 : e ≤ e ||| s := Nat.left_le_or
 have h8 : s ≤ e ||| s := Nat.right_le_or
 have ha : a < 2 ^ p.toNat := by omega
 have hb : b < 2 ^ p.toNat := by omega
 exact ⟨(h.rows (2 ^ p.toNat)).lt q (a ||| b) hq (Nat.or_lt_two_pow ha hb),(h.rows (2 ^ p.toNat)).lt q (b ||| a) hq (Nat.or_lt_two_pow hb ha)⟩
section
variable (p : Int) (nA : Nat) (bs : List Bool) (N : List Gd) (gs : List Int) (e s : Nat)
def OfSg (X : Int) (x : SgX) : Prop := (X ≠ 0 ∧ ChkN p nA bs N gs e s X ∧ x = noneS) ∨ (X = 0 ∧ ChkN p nA bs N gs e s 0 ∧ OfS (toS p N gs) (acA bs) nA e s x)
def CkS (x : SgX) (X : Int) (b : Bool) : Prop := (X ≠ 0 ∧ ChkN p nA bs N gs e s X ∧ b = false) ∨ (X = 0 ∧ ChkN p nA bs N gs e s 0 ∧ (b = true ↔ KeepS (toS p N gs) (acA bs) nA e s x))
def PlS (x : SgX) (ms : List Nat) (X : Int) (r : List Int) : Prop :=
 (X ≠ 0 ∧ ChkN p nA bs N gs e s X ∧ r = []) ∨ (ChkN p nA bs N gs e s 0 ∧ ¬ KeepS (toS p N gs) (acA bs) nA e s x ∧ X = 340 ∧ r = []) ∨
 (ChkN p nA bs N gs e s 0 ∧ KeepS (toS p N gs) (acA bs) nA e s x ∧ 1024 < ms.length ∧ X = 3 ∧ r = []) ∨
 (ChkN p nA bs N gs e s 0 ∧ KeepS (toS p N gs) (acA bs) nA e s x ∧ ms.length ≤ 1024 ∧ plyS (toS p N gs) (acA bs) e s x 0 ms = none ∧ X = 14 ∧ r = []) ∨
 (ChkN p nA bs N gs e s 0 ∧ KeepS (toS p N gs) (acA bs) nA e s x ∧ ms.length ≤ 1024 ∧ ∃ l,plyS (toS p N gs) (acA bs) e s x 0 ms = some l ∧ X = 0 ∧ r = l.map Int.ofNat)
end
section
variable {p : Int} {nA : Nat} {bs : List Bool} {N : List Gd} {gs : List Int} {e s : Nat}
theorem OfSg.real {X : Int} {x : SgX} (h : OfSg p nA bs N gs e s X x) (h0 : ChkN p nA bs N gs e s 0) : X = 0 ∧ OfS (toS p N gs) (acA bs) nA e s x := by
 rcases h with ⟨h1,h2,_⟩ | ⟨rfl,_,h3⟩
 ·exact absurd (h2.uni h0) h1
 ·exact ⟨rfl,h3⟩
theorem CkS.real {x : SgX} {X : Int} {b : Bool} (h : CkS p nA bs N gs e s x X b) (h0 : ChkN p nA bs N gs e s 0) : X = 0 ∧ (b = true ↔ KeepS (toS p N gs) (acA bs) nA e s x) := by
 rcases h with ⟨h1,h2,_⟩ | ⟨rfl,_,h3⟩
 ·exact absurd (h2.uni h0) h1
 ·exact ⟨rfl,h3⟩
theorem PlS.not {x : SgX} {ms : List Nat} {X : Int} {r : List Int} (h : PlS p nA bs N gs e s x ms X r) (h0 : ChkN p nA bs N gs e s 0) (hk : ¬ KeepS (toS p N gs) (acA bs) nA e s x) : X = 340 ∧ r = [] := by
 rcases h with ⟨h1,h2,_⟩ | ⟨_,_,h3⟩ | ⟨_,h2,_⟩ | ⟨_,h2,_⟩ | ⟨_,h2,_⟩
 ·exact absurd (h2.uni h0) h1
 ·exact h3
 all_goals exact absurd h2 hk
theorem PlS.real {x : SgX} {ms : List Nat} {X : Int} {r : List Int} (h : PlS p nA bs N gs e s x ms X r) (h0 : ChkN p nA bs N gs e s 0) (hk : KeepS (toS p N gs) (acA bs) nA e s x) (hm : ms.length ≤ 1024) {l : List Nat} (hl : plyS (toS p N gs) (acA bs) e s x 0 ms = some l) : X = 0 ∧ r = l.map Int.ofNat := by
 rcases h with ⟨h1,h2,_⟩ | ⟨_,h2,_⟩ | ⟨_,_,h2,_⟩ | ⟨_,_,_,h2,_⟩ | ⟨_,_,_,l',h2,h3⟩
 ·exact absurd (h2.uni h0) h1
 ·exact absurd hk h2
 ·omega
 ·rw [hl] at h2; cases h2
 ·rw [hl] at h2; cases h2; exact h3
end
structure StgC : Prop where
 of : ∀ (p : Int) (aA : Option Addr) (nA cA : Nat) (aG : Option Addr) (nG cG : Nat) (aN : Option Addr) (nN cN : Nat) (bs : List Bool) (N : List Gd) (gs : List Int) (x y : Nat) (w : World),BoSl w aA nA cA bs → NdSl w aN nN cN N → ZSl w aG nG cG gs → (∀ z ∈ gs,I64 z) → x < 256 → y < 256 →
  Calls Try.prog 12 #[.agg #[.int .i64 p,.slice aA nA cA,.slice aG nG cG,.slice aN nN cN],.agg #[.int .u8 (x : Int),.int .u8 (y : Int)]] w fun e w' => Below w.heap.size w w' ∧ ∃ (aR : Option Addr) (nR cR : Nat) (aP : Option Addr) (nP cP : Nat) (aC : Option Addr) (nC cC : Nat) (X : Int) (u : SgX),e = .returned (.tuple #[.agg #[.bool u.wins,.slice aR nR cR,.slice aP nP cP,.slice aC nC cC],.int .i64 X]) ∧ Hid (OfSg p nA bs N gs x y X u) ∧ Hid (SgW w' aR nR cR aP nP cP aC nC cC u)
 check : ∀ (p : Int) (aA : Option Addr) (nA cA : Nat) (aG : Option Addr) (nG cG : Nat) (aN : Option Addr) (nN cN : Nat) (bs : List Bool) (N : List Gd) (gs : List Int) (x y : Nat) (aR : Option Addr) (nR cR : Nat) (aP : Option Addr) (nP cP : Nat) (aC : Option Addr) (nC cC : Nat) (u : SgX) (w : World),BoSl w aA nA cA bs → NdSl w aN nN cN N → ZSl w aG nG cG gs → (∀ z ∈ gs,I64 z) → x < 256 → y < 256 → SgW w aR nR cR aP nP cP aC nC cC u →
  Calls Try.prog 15 #[.agg #[.int .i64 p,.slice aA nA cA,.slice aG nG cG,.slice aN nN cN],.agg #[.int .u8 (x : Int),.int .u8 (y : Int)],.agg #[.bool u.wins,.slice aR nR cR,.slice aP nP cP,.slice aC nC cC]] w fun e w' => Below w.heap.size w w' ∧ ∃ (b : Bool) (X : Int),e = .returned (.tuple #[.bool b,.int .i64 X]) ∧ Hid (CkS p nA bs N gs x y u X b)
 play : ∀ (p : Int) (aA : Option Addr) (nA cA : Nat) (aG : Option Addr) (nG cG : Nat) (aN : Option Addr) (nN cN : Nat) (bs : List Bool) (N : List Gd) (gs : List Int) (x y : Nat) (aR : Option Addr) (nR cR : Nat) (aP : Option Addr) (nP cP : Nat) (aC : Option Addr) (nC cC : Nat) (u : SgX) (aM : Option Addr) (nM cM : Nat) (ms : List Nat) (w : World),BoSl w aA nA cA bs → NdSl w aN nN cN N → ZSl w aG nG cG gs → (∀ z ∈ gs,I64 z) → x < 256 → y < 256 → SgW w aR nR cR aP nP cP aC nC cC u → LtC w aM nM cM ms → (∀ z ∈ ms,z < 256) →
  Calls Try.prog 17 #[.agg #[.int .i64 p,.slice aA nA cA,.slice aG nG cG,.slice aN nN cN],.agg #[.int .u8 (x : Int),.int .u8 (y : Int)],.agg #[.bool u.wins,.slice aR nR cR,.slice aP nP cP,.slice aC nC cC],.slice aM nM cM] w fun e w' => Below w.heap.size w w' ∧ ∃ (a : Option Addr) (c : Nat) (X : Int) (r : List Int),e = .returned (.tuple #[.slice a r.length c,.int .i64 X]) ∧ Hid (PlS p nA bs N gs x y u ms X r) ∧ Hid (ZSl w' a r.length c r)
def ChoA (T : Nat → Nat → Nat) (x y : Nat) (r : Nat → Int) (q : Nat) (l : Nat) : Prop :=
 (∃ i,i < (mvL x).length ∧ l = (mvL x).getD i 0 ∧ (∀ z ∈ mvL y,r (T q ((mvL x).getD i 0 ||| z)) < 0) ∧ ∀ j,j < i → ¬ ∀ z ∈ mvL y,r (T q ((mvL x).getD j 0 ||| z)) < 0) ∨
 (l = 0 ∧ ∀ j,j < (mvL x).length → ¬ ∀ z ∈ mvL y,r (T q ((mvL x).getD j 0 ||| z)) < 0)
def RepA (T : Nat → Nat → Nat) (x y : Nat) (r : Nat → Int) (q : Nat) (ts : List Nat) (k : Nat) : Prop :=
 ∀ i,i < k → ∃ j,FstS r (fun j => T q ((mvL x).getD i 0 ||| (mvL y).getD j 0)) (mvL y).length j ∧ ts.getD i 0 = (mvL y).getD j 0
structure EntS (T : Nat → Nat → Nat) (x y : Nat) (R : List Int) (q : Nat) (ts : List Nat) (c : Nat) : Prop where
 up : 0 < R.getD q 0 → ts.length = (mvL x).length ∧ RepA T x y (fun t => R.getD t 0) q ts (mvL x).length
 nup : ¬ 0 < R.getD q 0 → ts = []
 down : R.getD q 0 < 0 → ChoA T x y (fun t => R.getD t 0) q c
 ndown : ¬ R.getD q 0 < 0 → c = 0
theorem OfS.of_ent {p : Int} {nA : Nat} {bs : List Bool} {N : List Gd} {gs : List Int} {x y : Nat} (hM : MayG p nA N gs) (hS : SplitN p.toNat x y) {R : List Int} (hr : RankA nA (gfA p N gs x y) (acA bs) R) {rep : List (List Nat)} {cs : List Nat} (h1 : rep.length = nA) (h2 : cs.length = nA) (h : ∀ q,q < nA → EntS (toS p N gs) x y R q (rep.getD q []) (cs.getD q 0)) : OfS (toS p N gs) (acA bs) nA x y ⟨decide (0 ≤ R.getD 0 0),R,rep,cs⟩ := by
 refine ⟨hr,rfl,h1,h2,fun q hq h0 => (h q hq).up h0,fun q hq h0 => (h q hq).nup h0,fun q hq h0 => ?_,fun q hq h0 => (h q hq).ndown h0⟩
 rcases (h q hq).down h0 with h3 | ⟨_,h3⟩
 ·exact h3
 ·exfalso
  obtain ⟨row,hrow,hall⟩ := hr.stays (q3h (qJ hM hS)) hq h0
  obtain ⟨a,ha,rfl⟩ := List.mem_map.1 hrow
  obtain ⟨i,hi,rfl⟩ := List.getElem_of_mem ha
  refine h3 i hi fun z hz => ?_
  have := hall (toS p N gs q ((mvL x)[i] ||| z)) (List.mem_map.2 ⟨z,hz,rfl⟩)
  rw [qe 0 hi]; exact this
theorem q4y {p : Int} {nA : Nat} {bs : List Bool} {N : List Gd} {gs : List Int} {x y q : Nat} (hM : MayG p nA N gs) (hS : SplitN p.toNat x y) {R : List Int} (hr : RankA nA (gfA p N gs x y) (acA bs) R) (hq : q < nA) (h0 : 0 < R.getD q 0) : ∀ i,i < (mvL x).length → ∃ j,j < (mvL y).length ∧ 0 ≤ R.getD (toS p N gs q ((mvL x).getD i 0 ||| (mvL y).getD j 0)) 0 := fun i hi => by
 obtain ⟨m,m1,m2⟩ := hr.of hq (Int.le_of_lt h0)
 obtain ⟨j,rfl⟩ : ∃ j,m = j + 1 := ⟨m - 1,by rw [m1] at h0; omega⟩
 obtain ⟨t,t1,l,l1,l2⟩ := q21 m2 _ (List.mem_map.2 ⟨(mvL x).getD i 0,by rw [qe 0 hi]; exact List.getElem_mem _,rfl⟩)
 obtain ⟨b,b1,rfl⟩ := List.mem_map.1 t1
 obtain ⟨d,d1,d2⟩ := List.getElem_of_mem b1
 have hin := (qJ hM hS q hq ((mvL x).getD i 0) b (qi hi).2 (qm.1 b1).2).1
 have h5 := hr.just hin l2
 refine ⟨d,d1,?_⟩
 rw [qe 0 d1,d2]
 have h6 : R.getD (toS p N gs q ((mvL x).getD i 0 ||| b)) 0 = (l : Int) := h5
 rw [h6]; omega
structure SgM (w : World) (b0 b1 b2 : Nat) (p : Int) (aA : Option Addr) (nA cA : Nat) (aG : Option Addr) (nG cG : Nat) (aN : Option Addr) (nN cN : Nat) (N : List Gd) (gs : List Int) (x y : Nat) (aR : Option Addr) (nR cR : Nat) (aP : Option Addr) (nP cP : Nat) (aC : Option Addr) (nC cC : Nat) (u : SgX) : Prop where
 au : AuB w b0 p aA nA cA aG nG cG aN nN cN
 sp : w.heap[b1]? = some (.cells #[.int .u8 (x : Int),.int .u8 (y : Int)] 29 (0,0))
 st : w.heap[b2]? = some (.cells #[.bool u.wins,.slice aR nR cR,.slice aP nP cP,.slice aC nC cC] 33 (0,0))
 nd : NdSl w aN nN cN N
 zg : ZSl w aG nG cG gs
 sg : SgW w aR nR cR aP nP cP aC nC cC u
theorem SgM.up {w w' : World} {b0 b1 b2 : Nat} {p : Int} {aA : Option Addr} {nA cA : Nat} {aG : Option Addr} {nG cG : Nat} {aN : Option Addr} {nN cN : Nat} {N : List Gd} {gs : List Int} {x y : Nat} {aR : Option Addr} {nR cR : Nat} {aP : Option Addr} {nP cP : Nat} {aC : Option Addr} {nC cC : Nat} {u : SgX} (h : SgM w b0 b1 b2 p aA nA cA aG nG cG aN nN cN N gs x y aR nR cR aP nP cP aC nC cC u) (hb : Below w.heap.size w w') : SgM w' b0 b1 b2 p aA nA cA aG nG cG aN nN cN N gs x y aR nR cR aP nP cP aC nC cC u :=
 ⟨h.au.up hb,(hb.block _ (Array.getElem?_eq_some_iff.1 h.sp).1).trans h.sp,(hb.block _ (Array.getElem?_eq_some_iff.1 h.st).1).trans h.st,h.nd.up hb,h.zg.up hb,h.sg.up hb⟩
theorem q1C (w : World) (p : Int) (aA : Option Addr) (nA cA : Nat) (aG : Option Addr) (nG cG : Nat) (aN : Option Addr) (nN cN : Nat) (N : List Gd) (gs : List Int) (x y : Nat) (aR : Option Addr) (nR cR : Nat) (aP : Option Addr) (nP cP : Nat) (aC : Option Addr) (nC cC : Nat) (u : SgX) (hN : NdSl w aN nN cN N) (hG : ZSl w aG nG cG gs) (hU : SgW w aR nR cR aP nP cP aC nC cC u) :
  ∃ w3,w3 = ((w.alloc (.cells #[.int .i64 p,.slice aA nA cA,.slice aG nG cG,.slice aN nN cN] 26 (0,0))).alloc (.cells #[.int .u8 (x : Int),.int .u8 (y : Int)] 29 (0,0))).alloc (.cells #[.bool u.wins,.slice aR nR cR,.slice aP nP cP,.slice aC nC cC] 33 (0,0)) ∧ Below w.heap.size w w3 ∧ SgM w3 w.heap.size (w.heap.size + 1) (w.heap.size + 1 + 1) p aA nA cA aG nG cG aN nN cN N gs x y aR nR cR aP nP cP aC nC cC u := by
 have e : ∀ (w : World) (o : Obj),(w.alloc o).heap.size = w.heap.size + 1 := fun w o => by simp
 have hA := qj w p aA nA cA aG nG cG aN nN cN
 have b1 : Below w.heap.size w (w.alloc (.cells #[.int .i64 p,.slice aA nA cA,.slice aG nG cG,.slice aN nN cN] 26 (0,0))) := qb _ _
 obtain ⟨w1,hw1⟩ : ∃ w1,w1 = w.alloc (.cells #[.int .i64 p,.slice aA nA cA,.slice aG nG cG,.slice aN nN cN] 26 (0,0)) := ⟨_,rfl⟩
 rw [← hw1] at hA b1
 have s1 : w1.heap.size = w.heap.size + 1 := by rw [hw1]; exact e _ _
 obtain ⟨w2,hw2⟩ : ∃ w2,w2 = w1.alloc (.cells #[.int .u8 (x : Int),.int .u8 (y : Int)] 29 (0,0)) := ⟨_,rfl⟩
 have b2 : Below w1.heap.size w1 w2 := by rw [hw2]; exact qb _ _
 have k2 : w2.heap[w1.heap.size]? = some (.cells #[.int .u8 (x : Int),.int .u8 (y : Int)] 29 (0,0)) := by rw [hw2]; exact (MapKept.heap_alloc w1 _).1
 have s2 : w2.heap.size = w.heap.size + 1 + 1 := by rw [hw2,e,s1]
 obtain ⟨w3,hw3⟩ : ∃ w3,w3 = w2.alloc (.cells #[.bool u.wins,.slice aR nR cR,.slice aP nP cP,.slice aC nC cC] 33 (0,0)) := ⟨_,rfl⟩
 have b3 : Below w2.heap.size w2 w3 := by rw [hw3]; exact qb _ _
 have k3 : w3.heap[w2.heap.size]? = some (.cells #[.bool u.wins,.slice aR nR cR,.slice aP nP cP,.slice aC nC cC] 33 (0,0)) := by rw [hw3]; exact (MapKept.heap_alloc w2 _).1
 have b03 := q9 (q9 b1 b2) b3
 refine ⟨w3,by rw [hw3,hw2,hw1],b03,(hA.up b2).up b3,?_,?_,hN.up b03,hG.up b03,hU.up b03⟩
 ·rw [← s1]; exact (b3.block _ (Array.getElem?_eq_some_iff.1 k2).1).trans k2
 ·rw [← s2]; exact k3
theorem memR3 {l : List (List Nat)} {j : Nat} (h : j < l.length) : l.getD j [] ∈ l := by
 rw [List.getD_eq_getElem?_getD,List.getElem?_eq_getElem h]; exact List.getElem_mem _
theorem q56 {l : List (List Nat)} {row : List Nat} (h : row ∈ l) : ∃ j,j < l.length ∧ l.getD j [] = row := by
 obtain ⟨j,hj,e⟩ := List.getElem_of_mem h
 exact ⟨j,hj,by rw [List.getD_eq_getElem?_getD,List.getElem?_eq_getElem hj]; exact e⟩
theorem q1D (a : Option Addr) (m c : Nat) (R : List (List Nat)) (aW : Option Addr) (n cW : Nat) (ws : List Bool) (w : World) (hR : RwS w a m c R n) (hW : BoSl w aW n cW ws) :
  Calls Try.prog 101 #[.slice a m c,.slice aW n cW] w fun e w' => e = .returned (.bool (R.all fun row => row.any (acA ws))) ∧ w' = w := by
 obtain ⟨Q,hQ⟩ : ∃ Q : Ending → World → Prop,Q = fun e w' => e = .returned (.bool (R.all fun row => row.any (acA ws))) ∧ w' = w := ⟨_,rfl⟩
 have HQ : Hid (∀ b,b = (R.all fun row => row.any (acA ws)) → Q (.returned (.bool b)) w) := fun b h2 => by rw [hQ,h2]; exact ⟨rfl,rfl⟩
 rw [← hQ]
 clear hQ
 have HR : Hid _ := hR
 have HWW : Hid (BoSl w aW n cW ws) := hW
 have HLN : Hid _ := hR.len
 have hm := hR.bd
 have hn := Nat.le_trans hW.hcap hW.bd
 unfold maxLen at hn
 clear hR hW
 go_enter Try.func101,Try.ntmps101
 go_wp2
 go_step3
 go_wp2
 go_step3
 go_wp2
 go_loop [11] (fun i => ∃ j : Nat,j ≤ m ∧ i = .int .i64 (j : Int) ∧ Hid (∀ i,i < j → (R.getD i []).any (acA ws) = true)) (fun i => m - (intOf i).toNat)
 case atStart => exact ⟨0,Nat.zero_le _,rfl,fun i h => absurd h (Nat.not_lt_zero _)⟩
 case round =>
  obtain ⟨j,hj,rfl,HJ⟩ := hrel
  by_cases hlt : j < m
  ·have e1 : decide ((j : Int) < (m : Int)) = true := decide_eq_true (by omega)
   obtain ⟨g,o,s,a',c',ixr,cer,hzr⟩ := HR.out.row j hlt
   have hrl := HR.out.rl j hlt
   have HLT : Hid _ := HR.out.lt j hlt
   have HJN : Hid ((R.getD j []).any (acA ws) = true → ∀ i,i < j + 1 → (R.getD i []).any (acA ws) = true) := fun h i hi => by
    by_cases e : i = j
    ·subst e; exact h
    ·exact HJ.out i (by omega)
   have HNO : Hid ((R.getD j []).any (acA ws) = false → false = (R.all fun row => row.any (acA ws))) := fun h => by
    cases hx : R.all (fun row => row.any (acA ws)) with
    | false => rfl
    | true =>
     have := List.all_eq_true.1 hx _ (memR3 (l := R) (j := j) (by rw [HLN.out]; exact hlt))
     rw [h] at this
     cases this
   have HZR : Hid _ := hzr
   clear HJ hzr
   generalize R.getD j [] = row at *
   go_wp2
   go_loop [17] (fun i => ∃ q : Nat,q ≤ row.length ∧ i = .int .i64 (q : Int) ∧ Hid ((row.take q).any (acA ws) = false)) (fun i => row.length - (intOf i).toNat)
   case atStart => exact ⟨0,Nat.zero_le _,rfl,rfl⟩
   case round =>
    obtain ⟨q,hq,rfl,HK⟩ := hrel
    by_cases hlq : q < row.length
    ·have e2 : decide ((q : Int) < (row.length : Int)) = true := decide_eq_true (by omega)
     have ixq := fun w' => HZR.out.idx row.length q w' hlq (Nat.le_refl _)
     have ceq := HZR.out.cell q hlq
     rw [q53 hlq] at ceq
     have htn := HLT.out _ (q2x hlq)
     obtain ⟨ixt,cet⟩ := HWW.out.getQ htn
     have HSN : Hid ((row.take (q + 1)).any (acA ws) = acA ws (row.getD q 0)) := by
      show _ = _; rw [q3Z hlq,List.any_append,HK.out]; simp
     have HAN : Hid (acA ws (row.getD q 0) = true → row.any (acA ws) = true) := fun h => List.any_eq_true.2 ⟨_,q2x hlq,h⟩
     have hac : acA ws (row.getD q 0) = ws.getD (row.getD q 0) false := rfl
     rw [hac] at HSN HAN
     clear hac HK
     generalize row.getD q 0 = t at *
     generalize ws.getD t false = z at *
     generalize adOf a' q = aq at *
     obtain ⟨aq1,aq2,aq3⟩ := aq
     generalize adOf aW t = at' at *
     obtain ⟨at1,at2,at3⟩ := at'
     cases z with
     | true =>
      have HNX : Hid _ := HJN.out (HAN.out rfl)
      clear HJN HNO HSN HAN
      generalize row.length = rl at *
      go_wp2
      go_round
      case rel => exact ⟨j + 1,by omega,by go_num,HNX.out⟩
      case measure => simp [intOf]; omega
     | false =>
      clear HAN HJN HNO
      generalize row.length = rl at *
      go_wp2
      go_round
      case rel => exact ⟨q + 1,by omega,by go_num,HSN.out⟩
      case measure => simp [intOf]; omega
    ·obtain rfl : q = row.length := by omega
     have e2 : decide ((row.length : Int) < (row.length : Int)) = false := by simp
     have hN := HK.out
     rw [List.take_length] at hN
     have HE : Hid _ := HQ.out false (HNO.out hN)
     clear HQ HJN HNO hN HK
     go_wp2
     exact HE.out
  ·obtain rfl : j = m := by omega
   have e1 : decide ((j : Int) < (j : Int)) = false := by simp
   have HE : Hid _ := HQ.out true (List.all_eq_true.2 fun row hr => by
     obtain ⟨i,hi,rfl⟩ := q56 hr
     exact HJ.out i (by rw [← HLN.out]; exact hi)).symm
   clear HQ HJ
   go_wp2
   exact HE.out
inductive PlyB (T : Nat → Nat → Nat) (acc : Nat → Bool) (e s : Nat) (x : SgX) : List Nat → List Nat → Nat → Prop where
 | nil : PlyB T acc e s x [] [] 0
 | cons {ms l : List Nat} {q m t : Nat} : PlyB T acc e s x ms l q → acc q = false → rndS e s x q m = some t → PlyB T acc e s x (ms ++ [m]) (l ++ [q]) (T q t)
theorem PlyB.bind {T : Nat → Nat → Nat} {acc : Nat → Bool} {e s : Nat} {x : SgX} {ms l : List Nat} {q : Nat} (h : PlyB T acc e s x ms l q) : ∀ rest,plyS T acc e s x 0 (ms ++ rest) = (plyS T acc e s x q rest).map fun r => l ++ r := by
 induction h with
 | nil => intro rest; simp
 | cons _ ha hr ih =>
  intro rest
  rw [List.append_assoc,ih,List.singleton_append,plyS,if_neg (by rw [ha]; decide),hr,Option.bind_some]
  cases plyS T acc e s x _ rest <;> simp
theorem q4x {T : Nat → Nat → Nat} {acc : Nat → Bool} {e s : Nat} {x : SgX} {q : Nat} (ha : acc q = true) : ∀ ms,plyS T acc e s x q ms = some [q]
 | [] => rfl
 | m :: ms => by rw [plyS,if_pos ha]
theorem PlyB.inv {A : PyP} (h : A.Ok) {ms l : List Nat} {q : Nat} (hb : PlyB A.T A.acc A.e A.s A.x ms l q) (hms : ∀ m ∈ ms,m < 256) : l.length = ms.length ∧ q < A.n ∧ (A.x.wins = true → 0 ≤ A.x.r q) ∧ (A.x.wins = false → A.x.r q = -1) := by
 induction hb with
 | nil =>
  have hw := h.keep.win
  refine ⟨rfl,h.hn,fun h1 => ?_,fun h1 => ?_⟩
  ·rw [h1] at hw; exact of_decide_eq_true hw.symm
  ·rw [h1] at hw
   have h2 : ¬ 0 ≤ A.x.r 0 := of_decide_eq_false hw.symm
   have h3 := (h.keep.one 0 h.hn).1
   omega
 | cons hb ha hr ih =>
  obtain ⟨h1,h2,h3,h4⟩ := ih fun m hm => hms m (List.mem_append_left _ hm)
  obtain ⟨_,_,k3,k4,k5,_⟩ := h.round h2 (hms _ (List.mem_append_right _ (List.mem_singleton.2 rfl))) h3 h4 ha hr
  exact ⟨by rw [List.length_append,List.length_append,h1]; rfl,k3,fun hw => (k4 hw).1,k5⟩
theorem q59 {w : World} {base n : Nat} {v : Value} {ts : List Nat} (h : w.ownsRow base 27 1 v n (ltV ts)) : ∃ a c,v = .slice a n c ∧ LtC w a n c ts := by
 have h1 : w.ownsRow base 27 1 v n ((ts.map Int.ofNat).map (Value.int .u8)) := by rw [List.map_map]; exact h
 obtain ⟨a',c',e,hS,_⟩ := q2S h1 Try.underlying31 q1q
 exact ⟨a',c',e,hS⟩
theorem qz (HB : Hid BrdC) (m : Nat) (hm : m < 256) (aL : Option Addr) (nL cL : Nat) (zs : List Int) (w : World) (hL : ZSl w aL nL cL zs) :
  Calls Try.prog 27 #[.int .u8 (m : Int),.slice aL nL cL] w fun e w' => Below w.heap.size w w' ∧ ∃ a c ms,e = .returned (.slice a ms.length c) ∧ Hid (LtC w' a ms.length c ms) ∧ ms.length ≤ 40 ∧ Hid (∀ z ∈ ms,z < 256 ∧ z &&& m = z) := by
 obtain ⟨Q,hQ⟩ : ∃ Q : Ending → World → Prop,Q = fun e w' => Below w.heap.size w w' ∧ ∃ a c ms,e = .returned (.slice a ms.length c) ∧ Hid (LtC w' a ms.length c ms) ∧ ms.length ≤ 40 ∧ Hid (∀ z ∈ ms,z < 256 ∧ z &&& m = z) := ⟨_,rfl⟩
 have HQ : Hid (∀ w' a c ms,Below w.heap.size w w' → LtC w' a ms.length c ms → ms.length ≤ 40 → (∀ z ∈ ms,z < 256 ∧ z &&& m = z) → Q (.returned (.slice a ms.length c)) w') := fun w' a c ms h1 h2 h3 h4 => by rw [hQ]; exact ⟨h1,a,c,ms,rfl,h2,h3,h4⟩
 rw [← hQ]
 clear hQ
 have HL : Hid _ := hL
 have hnL := Nat.le_trans hL.hcap hL.bd
 unfold maxLen at hnL
 clear hL
 have j := HB.out.moves m w hm
 go_enter Try.func27,Try.ntmps27
 go_wp2_with fail
 refine j.mono ?_
 rintro e w1 ⟨hb,la,lc,rfl,hl⟩
 have HB1 : Hid (Below w.heap.size w w1) := hb
 have HLL : Hid (LtC w1 la (mvL m).length lc (mvL m)) := hl
 have hK0 := qF m
 have hK1 := ql m
 have HAT : Hid (∀ i,i < (mvL m).length → (mvL m).getD i 0 < 256 ∧ (mvL m).getD i 0 &&& m = (mvL m).getD i 0) := fun i hi => qi hi
 clear j hb hl
 generalize hK : (mvL m).length = K at *
 have HKL : Hid _ := hK
 clear hK
 go_wp2
 go_loopw [6,7] (fun v i wr => ∃ (k : Nat) (ms : List Nat),k ≤ nL ∧ k ≤ 40 ∧ Hid (k = ms.length) ∧ i = .int .i64 (k : Int) ∧ Hid (wr.ownsRow w1.heap.size 27 1 v k (ltV ms)) ∧ Hid (∀ z ∈ ms,z < 256 ∧ z &&& m = z) ∧ Hid (Below w1.heap.size w1 wr)) (fun _ i _ => nL - (intOf i).toNat)
 case atStart => exact ⟨0,[],Nat.zero_le _,Nat.zero_le _,rfl,rfl,⟨rfl,Or.inl ⟨rfl,rfl⟩⟩,(fun z hz => by cases hz),Below.refl _ _⟩
 case round =>
  obtain ⟨k,ms,hk,hk2,HKM,rfl,HO,HMS,HBr⟩ := hrel
  by_cases hlt : k < nL ∧ k < 40
  ·obtain ⟨hlt,hlt2⟩ := hlt
   have e1 : decide ((k : Int) < (nL : Int)) = true := decide_eq_true (by omega)
   have e2 : decide ((k : Int) < 40) = true := decide_eq_true (by omega)
   have e3 : decide ((0 : Int) < (K : Int)) = true := decide_eq_true (by omega)
   have hzr := HL.out.up (q9 HB1.out HBr.out)
   have ixk := fun w' => hzr.idx nL k w' hlt (Nat.le_refl _)
   have cek := hzr.cell k hlt
   clear hzr
   generalize zs.getD k 0 = z at *
   obtain ⟨va,vc,rfl⟩ := q5a HO.out
   have jp := q2E z K wr (by omega) (by omega)
   generalize adOf aL k = ad at *
   obtain ⟨ad1,ad2,ad3⟩ := ad
   go_wp2_with fail
   refine jp.mono ?_
   rintro e w2 ⟨i,hi,rfl,rfl⟩
   have hlr := HLL.out.up HBr.out
   have ixi := fun w' => hlr.idx K i w' hi (Nat.le_refl _)
   have cei := hlr.cell i hi
   rw [qh (by rw [HKL.out]; exact hi)] at cei
   have HAI : Hid _ := HAT.out i hi
   clear hlr jp cek ixk
   generalize (mvL m).getD i 0 = y at *
   have HOA : Hid ((w2.alloc (.cells #[.int .u8 (y : Int)] 27)).ownsRow w1.heap.size 27 1 (.slice va k vc) k (ltV ms)) := World.ownsRow.alloc HO.out _
   have HCA : Hid ((w2.alloc (.cells #[.int .u8 (y : Int)] 27)).cell? ⟨w2.heap.size,0,none⟩ = some (.int .u8 (y : Int))) := q8 (MapKept.heap_alloc w2 _).1 0
   have HWA : Hid (Below w1.heap.size w1 (w2.alloc (.cells #[.int .u8 (y : Int)] 27))) := HBr.out.alloc HBr.out.size _
   have hszA : w1.heap.size ≤ (w2.alloc (.cells #[.int .u8 (y : Int)] 27)).heap.size := HWA.out.size
   have HGE : Hid (∀ q,(Value.slice va k vc).ownBlock = some q → w1.heap.size ≤ q) := q4h HO.out
   have HM2 : Hid (∀ z ∈ ms ++ [y],z < 256 ∧ z &&& m = z) := fun z hz => by
    rcases List.mem_append.1 hz with hz | hz
    ·exact HMS.out z hz
    ·simp at hz; subst hz; exact HAI.out
   clear HO HBr HMS HAI
   generalize adOf la i = ai at *
   obtain ⟨ai1,ai2,ai3⟩ := ai
   go_wp2_with (at_builtin; refine q24 rfl _ _ rfl w1.heap.size _ k ms rfl HOA.out w2.heap.size y rfl HCA.out (by omega) hszA ?_)
   intro v7 w7 hown7 hgr7
   have HO7 : Hid (w7.ownsRow w1.heap.size 27 1 v7 (k + 1) (ltV (ms ++ [y]))) := by show World.ownsRow _ _ _ _ _ _ _; simpa using hown7
   have HW7 : Hid (Below w1.heap.size w1 w7) := HWA.out.grown hgr7 hszA (fun q e => HGE.out q e)
   clear hown7 hgr7 HOA HCA HWA hszA HGE cei ixi
   go_wp2
   go_roundw
   case rel => exact ⟨k + 1,ms ++ [y],by omega,by omega,by show _ = _; rw [List.length_append,← HKM.out]; rfl,by go_num,HO7,HM2,HW7⟩
   case measure => simp [intOf]; omega
  ·obtain ⟨va,vc,rfl,hlt0⟩ := q59 HO.out
   rw [HKM.out] at hlt0
   have HE : Hid _ := HQ.out wr va vc ms (q9 HB1.out HBr.out) hlt0 (by rw [← HKM.out]; exact hk2) HMS.out
   rw [← HKM.out] at HE
   clear HQ HO HMS HBr hlt0
   rcases (show ¬ k < nL ∨ (k < nL ∧ ¬ k < 40) by omega) with hE | ⟨hE,hE2⟩
   ·have e1 : decide ((k : Int) < (nL : Int)) = false := decide_eq_false (by omega)
    go_wp2
    exact HE.out
   ·have e1 : decide ((k : Int) < (nL : Int)) = true := decide_eq_true (by omega)
    have e2 : decide ((k : Int) < 40) = false := decide_eq_false (by omega)
    go_wp2
    exact HE.out
theorem q2p (aR : Option Addr) (nR cR : Nat) (aP : Option Addr) (nP cP : Nat) (aC : Option Addr) (nC cC : Nat) (x : SgX) (w : World) (hX : SgW w aR nR cR aP nP cP aC nC cC x) :
  Calls Try.prog 8 #[.agg #[.bool x.wins,.slice aR nR cR,.slice aP nP cP,.slice aC nC cC]] w fun e w' => Below w.heap.size w w' ∧ ∃ b : Bool,e = .returned (.bool b) ∧ Hid (b = false → nR ≤ 300 ∧ nP ≤ 300 ∧ nC ≤ 300 ∧ ∀ l ∈ x.rep,l.length ≤ 20) := by
 obtain ⟨Q,hQ⟩ : ∃ Q : Ending → World → Prop,Q = fun e w' => Below w.heap.size w w' ∧ ∃ b : Bool,e = .returned (.bool b) ∧ Hid (b = false → nR ≤ 300 ∧ nP ≤ 300 ∧ nC ≤ 300 ∧ ∀ l ∈ x.rep,l.length ≤ 20) := ⟨_,rfl⟩
 have HT : Hid (∀ w',Below w.heap.size w w' → Q (.returned (.bool true)) w') := fun w' h => by rw [hQ]; exact ⟨h,true,rfl,fun e => by cases e⟩
 have HF : Hid (∀ w',Below w.heap.size w w' → nR ≤ 300 → nP ≤ 300 → nC ≤ 300 → (∀ l ∈ x.rep,l.length ≤ 20) → Q (.returned (.bool false)) w') := fun w' h h1 h2 h3 h4 => by rw [hQ]; exact ⟨h,false,rfl,fun _ => ⟨h1,h2,h3,h4⟩⟩
 rw [← hQ]
 clear hQ
 obtain ⟨w1,hw1⟩ : ∃ w1,w1 = w.alloc (.cells #[.bool x.wins,.slice aR nR cR,.slice aP nP cP,.slice aC nC cC] 33 (0,0)) := ⟨_,rfl⟩
 have hb1 : Below w.heap.size w w1 := by rw [hw1]; exact qb _ _
 have hk1 : w1.heap[w.heap.size]? = some (.cells #[.bool x.wins,.slice aR nR cR,.slice aP nP cP,.slice aC nC cC] 33 (0,0)) := by rw [hw1]; exact (MapKept.heap_alloc w _).1
 have HB1 : Hid _ := hb1
 have HW1 : Hid _ := hw1
 obtain ⟨rs,hP,hrs⟩ := (hX.up hb1).p
 have HP : Hid _ := hP
 have HRS : Hid _ := hrs
 have s1 := q8 hk1 1
 have s2 := q8 hk1 2
 have s3 := q8 hk1 3
 have hnP := Nat.le_trans hP.hcap hP.bd
 unfold maxLen at hnP
 clear hw1 hb1 hk1 hP hrs hX
 go_enter Try.func8,Try.ntmps8
 by_cases hR : nR ≤ 300
 rotate_left
 ·have e1 : decide ((300 : Int) < (nR : Int)) = true := decide_eq_true (by omega)
  have HE : Hid _ := HT.out w1 HB1.out
  clear HT HF
  go_wp2_with (rw [← HW1.out])
  exact HE.out
 have e1 : decide ((300 : Int) < (nR : Int)) = false := decide_eq_false (by omega)
 by_cases hPl : nP ≤ 300
 rotate_left
 ·have e2 : decide ((300 : Int) < (nP : Int)) = true := decide_eq_true (by omega)
  have HE : Hid _ := HT.out w1 HB1.out
  clear HT HF
  go_wp2_with (rw [← HW1.out])
  exact HE.out
 have e2 : decide ((300 : Int) < (nP : Int)) = false := decide_eq_false (by omega)
 by_cases hC : nC ≤ 300
 rotate_left
 ·have e3 : decide ((300 : Int) < (nC : Int)) = true := decide_eq_true (by omega)
  have HE : Hid _ := HT.out w1 HB1.out
  clear HT HF
  go_wp2_with (rw [← HW1.out])
  exact HE.out
 have e3 : decide ((300 : Int) < (nC : Int)) = false := decide_eq_false (by omega)
 go_wp2_with (rw [← HW1.out])
 clear e1 e2 e3
 go_loop [3] (fun i => ∃ k : Nat,k ≤ nP ∧ i = .int .i64 (k : Int) ∧ Hid (∀ l ∈ (x.rep).take k,l.length ≤ 20)) (fun i => nP - (intOf i).toNat)
 case atStart => exact ⟨0,Nat.zero_le _,rfl,fun l hl => by simp at hl⟩
 case round =>
  obtain ⟨k,hk,rfl,HA⟩ := hrel
  by_cases hlt : k < nP
  ·have e1 : decide ((k : Int) < (nP : Int)) = true := decide_eq_true (by omega)
   obtain ⟨g,o,s,r,hr,hi,hc,hl,_⟩ := HP.out.at k hlt
   have hlen : r.ts.length = r.len := by have := hl.hlen; rwa [List.length_map] at this
   have HN : Hid (r.len ≤ 20 → ∀ l ∈ (x.rep).take (k + 1),l.length ≤ 20) := fun h l hl => by
    have hkl : (x.rep)[k]? = some r.ts := by rw [← HRS.out,List.getElem?_map,hr]; rfl
    rw [List.take_add_one,hkl] at hl
    rcases List.mem_append.1 hl with hl | hl
    ·exact HA.out l hl
    ·simp at hl; subst hl; omega
   clear hl hr hlen
   obtain ⟨ra,rn,rc,rt⟩ := r
   dsimp only at *
   by_cases h20 : rn ≤ 20
   ·have e2 : decide ((20 : Int) < (rn : Int)) = false := decide_eq_false (by omega)
    have HN2 : Hid _ := HN.out h20
    clear HN HA
    go_wp2
    go_round
    case rel => exact ⟨k + 1,by omega,by go_num,HN2⟩
    case measure => simp [intOf]; omega
   ·have e2 : decide ((20 : Int) < (rn : Int)) = true := decide_eq_true (by omega)
    have HE : Hid _ := HT.out w1 HB1.out
    clear HT HF HN HA
    go_wp2
    exact HE.out
  ·obtain rfl : k = nP := by omega
   have e1 : decide ((k : Int) < (k : Int)) = false := by simp
   have HE : Hid (Q (.returned (.bool false)) w1) := by
    refine HF.out w1 HB1.out hR hPl hC fun l hl => HA.out l ?_
    have : (x.rep).length = k := by rw [← HRS.out,List.length_map]; exact HP.out.hlen
    rw [← this,List.take_length]; exact hl
   clear HT HF HA
   go_wp2
   exact HE.out
def unS : SgX := ⟨true,[1,-1,0],[[2,2],[],[]],[0,0,0]⟩
def unT : SgX := ⟨false,[-1,-1,0],[[],[],[]],[0,0,0]⟩
abbrev uxT : Nat → Nat → Nat := toS 2 uxN uxG
theorem un_in {e s : Nat} (h : e &&& s = 0 ∧ e ||| s = 3) : InT uxT 3 e s := qJ q1v (q3n h)
theorem un_of : OfS uxT (acA uxB) 3 1 2 unS := by
 refine ⟨q5u (.inl ⟨rfl,rfl⟩),rfl,rfl,rfl,fun q hq h => ?_,fun q hq h => ?_,fun q hq h => ?_,fun q hq h => ?_⟩
 ·match q,hq with
  | 0,_ =>
   refine ⟨by decide +kernel,fun i hi => ?_⟩
   rw [q4d] at hi
   have hi2 : i < 2 := hi
   rw [q4d,q5o]
   match i,hi2 with
   | 0,_ => exact ⟨1,⟨by decide,by decide +kernel,fun j hj => (match j,hj with | 0,_ => by decide +kernel | 1,_ => by decide +kernel)⟩,by decide +kernel⟩
   | 1,_ => exact ⟨1,⟨by decide,by decide +kernel,fun j hj => (match j,hj with | 0,_ => by decide +kernel | 1,_ => by decide +kernel)⟩,by decide +kernel⟩
  | 1,_ => exact absurd h (by decide)
  | 2,_ => exact absurd h (by decide)
 ·match q,hq with
  | 0,_ => exact absurd (by decide) h
  | 1,_ => rfl
  | 2,_ => rfl
 ·match q,hq with
  | 0,_ => exact absurd h (by decide)
  | 1,_ => exact ⟨0,by decide +kernel,by decide +kernel,by decide +kernel,fun j hj => absurd hj (Nat.not_lt_zero _)⟩
  | 2,_ => exact absurd h (by decide)
 ·match q,hq with
  | 0,_ => rfl
  | 1,_ => exact absurd (by decide) h
  | 2,_ => rfl
theorem q2v : KeepS uxT (acA uxB) 3 1 2 unS := un_of.keeps (un_in ⟨by decide,by decide⟩)
theorem q5g : plyS uxT (acA uxB) 1 2 unS 0 [1,0] = some [0,2] := by decide +kernel
theorem q5f : plyS uxT (acA uxB) 1 2 unS 0 [2] = none := by decide +kernel
theorem q5s : OfS uxT (acA uxB) 3 2 1 unT := by
 refine ⟨q5h (.inl ⟨rfl,rfl⟩),rfl,rfl,rfl,fun q hq h => ?_,fun q hq h => ?_,fun q hq h => ?_,fun q hq h => ?_⟩
 ·match q,hq with
  | 0,_ => exact absurd h (by decide)
  | 1,_ => exact absurd h (by decide)
  | 2,_ => exact absurd h (by decide)
 ·match q,hq with
  | 0,_ => rfl
  | 1,_ => rfl
  | 2,_ => rfl
 ·match q,hq with
  | 0,_ => exact ⟨0,by decide +kernel,by decide +kernel,by decide +kernel,fun j hj => absurd hj (Nat.not_lt_zero _)⟩
  | 1,_ => exact ⟨0,by decide +kernel,by decide +kernel,by decide +kernel,fun j hj => absurd hj (Nat.not_lt_zero _)⟩
  | 2,_ => exact absurd h (by decide)
 ·match q,hq with
  | 0,_ => exact absurd (by decide) h
  | 1,_ => exact absurd (by decide) h
  | 2,_ => rfl
theorem q4K : KeepS uxT (acA uxB) 3 2 1 unT := q5s.keeps (un_in ⟨by decide,by decide⟩)
theorem q4L : plyS uxT (acA uxB) 2 1 unT 0 [1,0,1] = some [0,0,1,1] := by decide +kernel
theorem q4k : ¬ KeepS uxT (acA uxB) 3 1 2 unT := fun h => by
 have := q2v.same h (un_in ⟨by decide,by decide⟩) (by decide) (by decide) (by decide)
 cases this
end Go.Proofs.Ythhbhadcjofelaa
