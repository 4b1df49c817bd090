/- Texts of the proof, put together: what it uses. -/
import Derived.Test.YtbgogbafkoekjaaY00
import Derived.Test.YtbgogbafkoekjaaY07
set_option maxRecDepth 100000
set_option maxHeartbeats 16000000
namespace Go.Proofs.Ytbgogbafkoekjaa
open Go.RowKit Go.Maps Go.Sort
def gfA (p : Int) (N : List Gd) (gs : List Int) (e s q : Nat) : List (List Nat) := (mvL e).map fun x => (mvL s).map fun y => trP (rwA p N gs) q (x ||| y)
theorem q3y (p : Int) (N : List Gd) (gs : List Int) (e s q : Nat) : goeL p N gs e s q = (gfA p N gs e s q).map (·.map Int.ofNat) := by
 simp [goeL,gfA,Function.comp_def]
theorem qV {p : Int} {nA : Nat} {N : List Gd} {gs : List Int} {e s : Nat} (h : MayG p nA N gs) (hs : SplitN p.toNat e s) : InA nA (gfA p N gs e s) := fun q hq row hr t ht => by
 obtain ⟨x,hx,rfl⟩ := List.mem_map.1 hr
 obtain ⟨y,hy,rfl⟩ := List.mem_map.1 ht
 have h1 := qi (qD.1 hx).2
 have h2 := qi (qD.1 hy).2
 have h5 : e ||| s = 2 ^ p.toNat - 1 := hs.2
 have h6 : 0 < 2 ^ p.toNat := Nat.two_pow_pos _
 have h7 : e ≤ e ||| s := Nat.left_le_or
 have h8 : s ≤ e ||| s := Nat.right_le_or
 exact (h.rows (2 ^ p.toNat)).lt q (x ||| y) hq (Nat.or_lt_two_pow (by omega) (by omega))
theorem q1K {p : Int} {N : List Gd} {gs : List Int} {e s q : Nat} : gfA p N gs e s q ≠ [] := fun h => by
 have h1 : (gfA p N gs e s q).length = 0 := by rw [h]; rfl
 rw [gfA,List.length_map] at h1
 have := q1h e
 omega
abbrev acA (bs : List Bool) (q : Nat) : Bool := bs.getD q false
def RkN (p : Int) (nA : Nat) (bs : List Bool) (N : List Gd) (gs : List Int) (e s : Nat) (X : Int) (r : List Int) : Prop :=
 (X ≠ 0 ∧ ChkN p nA bs N gs e s X ∧ r = []) ∨ (X = 0 ∧ ChkN p nA bs N gs e s 0 ∧ RankA nA (gfA p N gs e s) (acA bs) r)
def WnN (p : Int) (nA : Nat) (bs : List Bool) (N : List Gd) (gs : List Int) (e s : Nat) (X : Int) (b : Bool) : Prop :=
 (X ≠ 0 ∧ ChkN p nA bs N gs e s X ∧ b = false) ∨ (X = 0 ∧ ChkN p nA bs N gs e s 0 ∧ ∃ r,RankA nA (gfA p N gs e s) (acA bs) r ∧ b = decide (0 ≤ r.getD 0 0))
def StN (p : Int) (nA : Nat) (bs : List Bool) (N : List Gd) (gs : List Int) (e s : Nat) (ws : List Bool) (X : Int) (us : List Bool) : Prop :=
 (X ≠ 0 ∧ ChkN p nA bs N gs e s X ∧ us = []) ∨ (ChkN p nA bs N gs e s 0 ∧ ws.length ≠ nA ∧ X = 2 ∧ us = []) ∨ (ChkN p nA bs N gs e s 0 ∧ ws.length = nA ∧ X = 0 ∧ us = (List.range nA).map (befA (gfA p N gs e s) (acA ws)))
theorem RkN.uni {p : Int} {nA : Nat} {bs : List Bool} {N : List Gd} {gs : List Int} {e s : Nat} {X Y : Int} {r t : List Int} (h : RkN p nA bs N gs e s X r) (k : RkN p nA bs N gs e s Y t) : X = Y ∧ r = t := by
 rcases h with ⟨h1,h2,rfl⟩ | ⟨rfl,h2,h3⟩ <;> rcases k with ⟨k1,k2,rfl⟩ | ⟨rfl,k2,k3⟩
 ·exact ⟨h2.uni k2,rfl⟩
 ·exact absurd (h2.uni k2) h1
 ·exact absurd (k2.uni h2) k1
 ·exact ⟨rfl,h3.uni k3⟩
theorem WnN.uni {p : Int} {nA : Nat} {bs : List Bool} {N : List Gd} {gs : List Int} {e s : Nat} {X Y : Int} {b c : Bool} (h : WnN p nA bs N gs e s X b) (k : WnN p nA bs N gs e s Y c) : X = Y ∧ b = c := by
 rcases h with ⟨h1,h2,rfl⟩ | ⟨rfl,h2,r,h3,rfl⟩ <;> rcases k with ⟨k1,k2,rfl⟩ | ⟨rfl,k2,t,k3,rfl⟩
 ·exact ⟨h2.uni k2,rfl⟩
 ·exact absurd (h2.uni k2) h1
 ·exact absurd (k2.uni h2) k1
 ·exact ⟨rfl,by rw [h3.uni k3]⟩
theorem StN.uni {p : Int} {nA : Nat} {bs : List Bool} {N : List Gd} {gs : List Int} {e s : Nat} {ws : List Bool} {X Y : Int} {us vs : List Bool} (h : StN p nA bs N gs e s ws X us) (k : StN p nA bs N gs e s ws Y vs) : X = Y ∧ us = vs := by
 rcases h with ⟨h1,h2,rfl⟩ | ⟨h1,h2,rfl,rfl⟩ | ⟨h1,h2,rfl,rfl⟩ <;> rcases k with ⟨k1,k2,rfl⟩ | ⟨k1,k2,rfl,rfl⟩ | ⟨k1,k2,rfl,rfl⟩
 ·exact ⟨h2.uni k2,rfl⟩
 ·exact absurd (h2.uni k1) h1
 ·exact absurd (h2.uni k1) h1
 ·exact absurd (k2.uni h1) k1
 ·exact ⟨rfl,rfl⟩
 ·exact absurd k2 h2
 ·exact absurd (k2.uni h1) k1
 ·exact absurd h2 k2
 ·exact ⟨rfl,rfl⟩
structure AttC : Prop where
 ranks : ∀ (p : Int) (aA : Option Addr) (nA cA : Nat) (aG : Option Addr) (nG cG : Nat) (aN : Option Addr) (nN cN : Nat) (bs : List Bool) (N : List Gd) (gs : List Int) (x y : Nat) (w : World),BoSl w aA nA cA bs → NdSl w aN nN cN N → ZSl w aG nG cG gs → (∀ z ∈ gs,I64 z) → x < 256 → y < 256 →
  Calls Try.prog 9 #[.agg #[.int .i64 p,.slice aA nA cA,.slice aG nG cG,.slice aN nN cN],.agg #[.int .u8 (x : Int),.int .u8 (y : Int)]] w fun e w' => Below w.heap.size w w' ∧ ∃ (a : Option Addr) (c : Nat) (X : Int) (r : List Int),e = .returned (.tuple #[.slice a r.length c,.int .i64 X]) ∧ Hid (RkN p nA bs N gs x y X r) ∧ Hid (ZSl w' a r.length c r)
 wins : ∀ (p : Int) (aA : Option Addr) (nA cA : Nat) (aG : Option Addr) (nG cG : Nat) (aN : Option Addr) (nN cN : Nat) (bs : List Bool) (N : List Gd) (gs : List Int) (x y : Nat) (w : World),BoSl w aA nA cA bs → NdSl w aN nN cN N → ZSl w aG nG cG gs → (∀ z ∈ gs,I64 z) → x < 256 → y < 256 →
  Calls Try.prog 11 #[.agg #[.int .i64 p,.slice aA nA cA,.slice aG nG cG,.slice aN nN cN],.agg #[.int .u8 (x : Int),.int .u8 (y : Int)]] w fun e w' => Below w.heap.size w w' ∧ ∃ (b : Bool) (X : Int),e = .returned (.tuple #[.bool b,.int .i64 X]) ∧ Hid (WnN p nA bs N gs x y X b)
structure RwS (w : World) (a : Option Addr) (n c : Nat) (R : List (List Nat)) (m : Nat) : Prop where
 len : R.length = n
 bd : n ≤ 1000
 row : ∀ k,k < n → ∃ (g o : Nat) (s : Option Nat) (a' : Option Addr) (c' : Nat),(∀ w',(Instr.indexAt 43 (.slice a n c) (.int .i64 (k : Int))).run Try.prog w' = .ok (.pointer (some ⟨g,o,s⟩)) w') ∧ w.cell? ⟨g,o,s⟩ = some (.slice a' (R.getD k []).length c') ∧ ZSl w a' (R.getD k []).length c' ((R.getD k []).map Int.ofNat)
 lt : ∀ k,k < n → ∀ t ∈ R.getD k [],t < m
 rl : ∀ k,k < n → (R.getD k []).length ≤ 1000
theorem RwS.up {w w' : World} {a : Option Addr} {n c : Nat} {R : List (List Nat)} {m : Nat} (h : RwS w a n c R m) (hb : Below w.heap.size w w') : RwS w' a n c R m :=
 ⟨h.len,h.bd,fun k hk => by obtain ⟨g,o,s,a',c',h1,h2,h3⟩ := h.row k hk; exact ⟨g,o,s,a',c',h1,q9 h2 hb,h3.up hb⟩,h.lt,h.rl⟩
theorem ZzSl.rwS {w : World} {a : Option Addr} {n c : Nat} {zs : List Zc} (h : ZzSl w a n c zs) {R : List (List Nat)} (hz : zs.map Zc.zs = R.map (·.map Int.ofNat)) {m : Nat} (hn : n ≤ 1000) (hlt : ∀ row ∈ R,∀ t ∈ row,t < m) (hrl : ∀ row ∈ R,row.length ≤ 1000) : RwS w a n c R m := by
 have hl : R.length = n := by
  have := congrArg List.length hz
  rw [List.length_map,List.length_map] at this
  rw [← this]; exact h.hlen
 have hmem : ∀ k,k < n → R.getD k [] ∈ R := fun k hk => by
  rw [List.getD_eq_getElem?_getD,List.getElem?_eq_getElem (by omega)]
  exact List.getElem_mem _
 refine ⟨hl,hn,fun k hk => ?_,fun k hk => hlt _ (hmem k hk),fun k hk => hrl _ (hmem k hk)⟩
 obtain ⟨g,o,s,r,hr,hi,hc,hs,_⟩ := h.at k hk
 have e : r.zs = (R.getD k []).map Int.ofNat := by
  have h2 := congrArg (fun l => l[k]?) hz
  simp only [List.getElem?_map,hr,Option.map_some] at h2
  rw [List.getElem?_eq_getElem (by omega)] at h2
  simp only [Option.map_some,Option.some.injEq] at h2
  rw [h2,List.getD_eq_getElem?_getD,List.getElem?_eq_getElem (by omega),Option.getD_some]
 have e2 : r.len = (R.getD k []).length := by rw [← hs.hlen,e,List.length_map]
 rw [e,e2] at hs
 rw [e2] at hc
 exact ⟨g,o,s,r.a,r.cap,hi,hc,hs⟩
theorem q1N {l : List Nat} {j : Nat} (h : j < l.length) : l.take (j + 1) = l.take j ++ [l.getD j 0] := by
 rw [List.take_add_one,List.getElem?_eq_getElem h,List.getD_eq_getElem?_getD,List.getElem?_eq_getElem h]; rfl
theorem q1b {l : List Nat} {j : Nat} (h : j < l.length) : l.getD j 0 ∈ l := by
 rw [List.getD_eq_getElem?_getD,List.getElem?_eq_getElem h]; exact List.getElem_mem _
theorem q3C {l : List Nat} {j : Nat} (h : j < l.length) : (l.map Int.ofNat).getD j 0 = ((l.getD j 0 : Nat) : Int) := by
 simp [List.getD_eq_getElem?_getD,List.getElem?_eq_getElem h]
theorem memR3 {l : List (List Nat)} {j : Nat} (h : j < l.length) : l.getD j [] ∈ l := by
 rw [List.getD_eq_getElem?_getD,List.getElem?_eq_getElem h]; exact List.getElem_mem _
theorem q51 {l : List (List Nat)} {row : List Nat} (h : row ∈ l) : ∃ j,j < l.length ∧ l.getD j [] = row := by
 obtain ⟨j,hj,e⟩ := List.getElem_of_mem h
 exact ⟨j,hj,by rw [List.getD_eq_getElem?_getD,List.getElem?_eq_getElem hj]; exact e⟩
theorem q1w (a : Option Addr) (m c : Nat) (R : List (List Nat)) (aW : Option Addr) (n cW : Nat) (ws : List Bool) (w : World) (hR : RwS w a m c R n) (hW : BoSl w aW n cW ws) :
  Calls Try.prog 44 #[.slice a m c,.slice aW n cW] w fun e w' => e = .returned (.bool (R.all fun row => row.any (acA ws))) ∧ w' = w := by
 obtain ⟨Q,hQ⟩ : ∃ Q : Ending → World → Prop,Q = fun e w' => e = .returned (.bool (R.all fun row => row.any (acA ws))) ∧ w' = w := ⟨_,rfl⟩
 have HQ : Hid (∀ b,b = (R.all fun row => row.any (acA ws)) → Q (.returned (.bool b)) w) := fun b h2 => by rw [hQ,h2]; exact ⟨rfl,rfl⟩
 rw [← hQ]
 clear hQ
 have HR : Hid _ := hR
 have HWW : Hid (BoSl w aW n cW ws) := hW
 have HLN : Hid _ := hR.len
 have hm := hR.bd
 have hn := Nat.le_trans hW.hcap hW.bd
 unfold maxLen at hn
 clear hR hW
 go_enter Try.func44,Try.ntmps44
 go_wp2
 go_step3
 go_wp2
 go_step3
 go_wp2
 go_loop [11] (fun i => ∃ j : Nat,j ≤ m ∧ i = .int .i64 (j : Int) ∧ Hid (∀ i,i < j → (R.getD i []).any (acA ws) = true)) (fun i => m - (intOf i).toNat)
 case atStart => exact ⟨0,Nat.zero_le _,rfl,fun i h => absurd h (Nat.not_lt_zero _)⟩
 case round =>
  obtain ⟨j,hj,rfl,HJ⟩ := hrel
  by_cases hlt : j < m
  ·have e1 : decide ((j : Int) < (m : Int)) = true := decide_eq_true (by omega)
   obtain ⟨g,o,s,a',c',ixr,cer,hzr⟩ := HR.out.row j hlt
   have hrl := HR.out.rl j hlt
   have HLT : Hid _ := HR.out.lt j hlt
   have HJN : Hid ((R.getD j []).any (acA ws) = true → ∀ i,i < j + 1 → (R.getD i []).any (acA ws) = true) := fun h i hi => by
    by_cases e : i = j
    ·subst e; exact h
    ·exact HJ.out i (by omega)
   have HNO : Hid ((R.getD j []).any (acA ws) = false → false = (R.all fun row => row.any (acA ws))) := fun h => by
    cases hx : R.all (fun row => row.any (acA ws)) with
    | false => rfl
    | true =>
     have := List.all_eq_true.1 hx _ (memR3 (l := R) (j := j) (by rw [HLN.out]; exact hlt))
     rw [h] at this
     cases this
   have HZR : Hid _ := hzr
   clear HJ hzr
   generalize R.getD j [] = row at *
   go_wp2
   go_loop [17] (fun i => ∃ q : Nat,q ≤ row.length ∧ i = .int .i64 (q : Int) ∧ Hid ((row.take q).any (acA ws) = false)) (fun i => row.length - (intOf i).toNat)
   case atStart => exact ⟨0,Nat.zero_le _,rfl,rfl⟩
   case round =>
    obtain ⟨q,hq,rfl,HK⟩ := hrel
    by_cases hlq : q < row.length
    ·have e2 : decide ((q : Int) < (row.length : Int)) = true := decide_eq_true (by omega)
     have ixq := fun w' => HZR.out.idx row.length q w' hlq (Nat.le_refl _)
     have ceq := HZR.out.cell q hlq
     rw [q3C hlq] at ceq
     have htn := HLT.out _ (q1b hlq)
     obtain ⟨ixt,cet⟩ := HWW.out.getQ htn
     have HSN : Hid ((row.take (q + 1)).any (acA ws) = acA ws (row.getD q 0)) := by
      show _ = _; rw [q1N hlq,List.any_append,HK.out]; simp
     have HAN : Hid (acA ws (row.getD q 0) = true → row.any (acA ws) = true) := fun h => List.any_eq_true.2 ⟨_,q1b hlq,h⟩
     have hac : acA ws (row.getD q 0) = ws.getD (row.getD q 0) false := rfl
     rw [hac] at HSN HAN
     clear hac HK
     generalize row.getD q 0 = t at *
     generalize ws.getD t false = z at *
     generalize adOf a' q = aq at *
     obtain ⟨aq1,aq2,aq3⟩ := aq
     generalize adOf aW t = at' at *
     obtain ⟨at1,at2,at3⟩ := at'
     cases z with
     | true =>
      have HNX : Hid _ := HJN.out (HAN.out rfl)
      clear HJN HNO HSN HAN
      generalize row.length = rl at *
      go_wp2
      go_round
      case rel => exact ⟨j + 1,by omega,by go_num,HNX.out⟩
      case measure => simp [intOf]; omega
     | false =>
      clear HAN HJN HNO
      generalize row.length = rl at *
      go_wp2
      go_round
      case rel => exact ⟨q + 1,by omega,by go_num,HSN.out⟩
      case measure => simp [intOf]; omega
    ·obtain rfl : q = row.length := by omega
     have e2 : decide ((row.length : Int) < (row.length : Int)) = false := by simp
     have hN := HK.out
     rw [List.take_length] at hN
     have HE : Hid _ := HQ.out false (HNO.out hN)
     clear HQ HJN HNO hN HK
     go_wp2
     exact HE.out
  ·obtain rfl : j = m := by omega
   have e1 : decide ((j : Int) < (j : Int)) = false := by simp
   have HE : Hid _ := HQ.out true (List.all_eq_true.2 fun row hr => by
     obtain ⟨i,hi,rfl⟩ := q51 hr
     exact HJ.out i (by rw [← HLN.out]; exact hi)).symm
   clear HQ HJ
   go_wp2
   exact HE.out
theorem q2F (p : Int) (aA : Option Addr) (nA cA : Nat) (aG : Option Addr) (nG cG : Nat) (aN : Option Addr) (nN cN : Nat) (N : List Gd) (gs : List Int) (q z : Nat) (w : World) (hM : MayG p nA N gs) (hN : NdSl w aN nN cN N) (hG : ZSl w aG nG cG gs) (hq : q < nA) (hz : z < 2 ^ p.toNat) :
  Calls Try.prog 57 #[.agg #[.int .i64 p,.slice aA nA cA,.slice aG nG cG,.slice aN nN cN],.int .i64 (q : Int),.int .u8 (z : Int)] w fun e w' => e = .returned (.int .i64 ((trP (rwA p N gs) q z : Nat) : Int)) ∧ Below w.heap.size w w' := by
 have hb0 := q7 w (.cells #[.int .i64 p,.slice aA nA cA,.slice aG nG cG,.slice aN nN cN] 26 (0,0))
 obtain ⟨c0,c1,c2,c3⟩ := qa w p aA nA cA aG nG cG aN nN cN
 have hv1 := hM.tr (K := 2 ^ p.toNat) (s := q) (x := z) hq hz
 have hqR : q < nG := by have h1 := hG.hlen; have h2 := hM.len; omega
 have hixg := fun w' => hG.idx nG q w' hqR (Nat.le_refl _)
 have hcg := (hG.up hb0).cell q hqR
 have hi64 := q2Z hM (q := q) (by have h2 := hM.len; omega)
 have hk256 := hM.k256
 have h256 := hM.s2
 have hz256 : z < 256 := by omega
 have hq256 : q < 256 := by omega
 have HB0 : Hid _ := hb0
 obtain ⟨w1,hw1⟩ : ∃ w1,w1 = w.alloc (.cells #[.int .i64 p,.slice aA nA cA,.slice aG nG cG,.slice aN nN cN] 26 (0,0)) := ⟨_,rfl⟩
 rw [← hw1] at HB0 c0 c1 c2 c3 hcg
 have hN1 := hN.up hb0
 rw [← hw1] at hN1
 have cS : ∀ d os,Calls Try.prog 68 #[.slice aN nN cN,.int .i64 (gs.getD q 0),.int .u8 (z : Int)] (grow (redrawn w1 d) os) fun e w'' => e = .returned (.tuple #[.int .i64 ((trP (rwA p N gs) q z : Nat) : Int),.bool true]) ∧ ∃ p : Regrown,w'' = grow (redrawn w1 p.d) p.os := fun d os => by
  have hb := below_regrown w1 d os
  refine (q3m aN nN cN N (gs.getD q 0) z _ (hN1.up hb) hi64 hz256).mono ?_
  rintro e w'' ⟨rfl,h2⟩
  rw [hv1]
  exact ⟨rfl,regrown_of_below (q5 hb (h2 ▸ Below.refl _ _))⟩
 have HE : Hid (∀ d os,Below w.heap.size w (grow (redrawn w1 d) os)) := fun d os => q5 HB0.out (below_regrown w1 d os)
 have dq0 : decide ((q : Int) < 0) = false := by simp
 have dq1 : decide (nG ≤ q) = false := by simp; exact hqR
 have k2 := cell_regrown c2
 have k3 := cell_regrown c3
 have kg := cell_regrown hcg
 have HW1 : Hid _ := hw1
 clear hcg hi64 hN hG hN1 hM c0 c1 c2 c3 hv1 hz hb0 hq h256 hk256 HB0 hw1
 generalize gs.getD q 0 = rq at *
 generalize trP (rwA p N gs) q z = v at *
 generalize adOf aG q = ag at *
 obtain ⟨ag1,ag2,ag3⟩ := ag
 go_enter Try.func57,Try.ntmps57
 go_wp2_with fail
 rw [← HW1.out]
 refine wp_region_quiet_below (by kernel_rfl) (by kernel_rfl) ?_
 repeat (go_big_quiet_step (exact cS _ _))
 refine wpQuiet_nil ?_
 intro _ hw'
 obtain ⟨⟨dq,osq⟩,hw''⟩ := hw'
 subst hw''
 have HI3 : Hid _ := HE.out dq osq
 generalize grow (redrawn w1 dq) osq = wx at *
 clear cS k2 k3 kg HE
 go_wp2
 go_ret
 exact ⟨rfl,HI3.out⟩
end Go.Proofs.Ytbgogbafkoekjaa
