/- Texts of the proof, put together: what it uses. -/
import Derived.Test.YtbgogbafkoekjaaY02
import Derived.Test.YtbgogbafkoekjaaY16
set_option maxRecDepth 100000
set_option maxHeartbeats 16000000
namespace Go.Proofs.Ytbgogbafkoekjaa
open Go.RowKit Go.Maps Go.Sort
theorem RowI.zl2 {w : World} {g n : Nat} {gs : List Int} (h : RowI w 3 g (lentZ gs)) (hl : gs.length = n) (hb : n ≤ 900000) : ZSl w (some ⟨g,0,none⟩) n (n + 3) gs := by
 have := RowI.zsl (n := n) h Try.underlying23 qb (by rw [qh]; omega) (by rw [qh]; unfold maxLen; omega)
 rw [qh,← hl,q1L] at this
 rw [hl] at this
 exact this
theorem RkN.bd {p : Int} {nA : Nat} {bs : List Bool} {N : List Gd} {gs : List Int} {e s : Nat} {X : Int} {r : List Int} (h : RkN p nA bs N gs e s X r) : r.length ≤ 256 ∧ ∀ z ∈ r,-9223372036854775808 ≤ z ∧ z < 9223372036854775808 := by
 rcases h with ⟨_,_,rfl⟩ | ⟨_,h2,h3⟩
 ·exact ⟨by decide,fun z hz => (by cases hz)⟩
 ·obtain ⟨hM,_,hs⟩ := h2.ok
  have h256 := hM.s2
  refine ⟨by rw [h3.len]; exact h256,fun z hz => ?_⟩
  obtain ⟨q,hq,e⟩ := List.getElem_of_mem hz
  have hq2 : q < nA := by rw [← h3.len]; exact hq
  have := h3.bd (qV hM hs) (fun q _ => q1K) hq2
  rw [List.getD_eq_getElem?_getD,List.getElem?_eq_getElem hq,Option.getD_some,e] at this
  omega
theorem q4C {w : World} {base e n i : Nat} {a : Option Addr} {c : Nat} {xs : List Value} (h : w.ownsRow base e 1 (.slice a n c) n xs) (hi : i < n) (u : Value) : ∃ g,a = some ⟨g,0,none⟩ ∧ base ≤ g ∧ w.cell? ⟨g,i,none⟩ = xs[i]? ∧ w.frozen? ⟨g,i,none⟩ = false ∧ n ≤ c ∧ c ≤ maxLen ∧ (w.setCell ⟨g,i,none⟩ u).ownsRow base e 1 (.slice (some ⟨g,0,none⟩) n c) n (xs.set i u) := by
 have h' := h
 rcases h'.2 with ⟨ev,h0⟩ | ⟨g,cap,cur,ev,h2,_⟩
 ·omega
 ·injection ev with e1 _ e3
  subst e1
  obtain ⟨k1,k2,k3,k4⟩ := q40 h hi
  exact ⟨g,rfl,h2,k1,k2,k3,k4,q4g h i u⟩
theorem StN.len {p : Int} {nA : Nat} {bs : List Bool} {N : List Gd} {gs : List Int} {e s : Nat} {ws : List Bool} {X : Int} {us : List Bool} (h : StN p nA bs N gs e s ws X us) : us.length ≤ nA := by
 rcases h with ⟨_,_,rfl⟩ | ⟨_,_,_,rfl⟩ | ⟨_,_,_,rfl⟩
 ·exact Nat.zero_le _
 ·exact Nat.zero_le _
 ·simp
theorem q1R (HA : Hid AttC) (HT : Hid AttN) (p : Int) (aA : Option Addr) (nA cA : Nat) (aG : Option Addr) (nG cG : Nat) (aN : Option Addr) (nN cN : Nat) (bs : List Bool) (gs : List Int) (N : List Gd) (x y : Nat) (aW : Option Addr) (nW cW : Nat) (ws : List Bool) (w : World) (hB : BoSl w aA nA cA bs) (hG : ZSl w aG nG cG gs) (hN : NdSl w aN nN cN N) (hok : ∀ z ∈ gs,I64 z) (hx : x < 256) (hy : y < 256) (hW : BoSl w aW nW cW ws) :
  Calls Try.prog 3 #[.agg #[.int .i64 p,.slice aA nA cA,.slice aG nG cG,.slice aN nN cN],.agg #[.int .u8 (x : Int),.int .u8 (y : Int)],.slice aW nW cW] w fun e w' => e = .returned (.bool true) ∧ Below w.heap.size w w' := by
 obtain ⟨Q,hQ⟩ : ∃ Q : Ending → World → Prop,Q = fun e w' => e = .returned (.bool true) ∧ Below w.heap.size w w' := ⟨_,rfl⟩
 have HQ : Hid (∀ w',Below w.heap.size w w' → Q (.returned (.bool true)) w') := fun w' h => by rw [hQ]; exact ⟨rfl,h⟩
 rw [← hQ]
 clear hQ
 obtain ⟨w1,hw1⟩ : ∃ w1,w1 = w.alloc (.cells #[.int .i64 p,.slice aA nA cA,.slice aG nG cG,.slice aN nN cN] 26 (0,0)) := ⟨_,rfl⟩
 have hb1 : Below w.heap.size w w1 := by rw [hw1]; exact q7 _ _
 have hA1 : AuB w1 w.heap.size p aA nA cA aG nG cG aN nN cN := by rw [hw1]; exact qa w p aA nA cA aG nG cG aN nN cN
 have HW1 : Hid _ := hw1
 obtain ⟨w2,hw2⟩ : ∃ w2,w2 = w1.alloc (.cells #[.int .u8 (x : Int),.int .u8 (y : Int)] 29 (0,0)) := ⟨_,rfl⟩
 have hb2 : Below w1.heap.size w1 w2 := by rw [hw2]; exact q7 _ _
 have hk2 : w2.heap[w1.heap.size]? = some (.cells #[.int .u8 (x : Int),.int .u8 (y : Int)] 29 (0,0)) := by rw [hw2]; exact (MapKept.heap_alloc w1 _).1
 have HW2 : Hid _ := hw2
 have hb02 : Below w.heap.size w w2 := q5 hb1 hb2
 have HC2 : Hid (∀ w',Below w2.heap.size w2 w' → AuB w' w.heap.size p aA nA cA aG nG cG aN nN cN ∧ w'.heap[w1.heap.size]? = some (.cells #[.int .u8 (x : Int),.int .u8 (y : Int)] 29 (0,0)) ∧ BoSl w' aA nA cA bs ∧ NdSl w' aN nN cN N ∧ ZSl w' aG nG cG gs ∧ BoSl w' aW nW cW ws ∧ Below w.heap.size w w') := fun w' hb =>
  ⟨(hA1.up hb2).up hb,(hb.block _ (Array.getElem?_eq_some_iff.1 hk2).1).trans hk2,(hB.up hb02).up hb,(hN.up hb02).up hb,(hG.up hb02).up hb,(hW.up hb02).up hb,q5 hb02 hb⟩
 have HOK : Hid _ := hok
 have HLN : Hid (bs.length = nA ∧ gs.length = nG ∧ N.length = nN) := ⟨hB.hlen,hG.hlen,hN.hlen⟩
 have HND : Hid _ := hN.ok
 have hnW := Nat.le_trans hW.hcap hW.bd
 unfold maxLen at hnW
 have js := q24 p aA nA cA aG nG cG aN nN cN w2
 obtain ⟨c0,c1,c2,c3⟩ := (HC2.out w2 (Below.refl _ _)).1
 clear hB hG hN hok hW hw1 hb1 hA1 hw2 hb2 hk2
 by_cases hlg : lgB p nA nG nN = true
 ·rw [hlg] at js
  have HE : Hid (∀ w3,Below w2.heap.size w2 w3 → Q (.returned (.bool true)) w3) := fun w3 h => HQ.out w3 (q5 hb02 h)
  clear HQ hlg hb02
  go_enter Try.func3,Try.ntmps3
  go_wp2_with (first | rw [← HW2.out] | rw [← HW1.out])
  refine js.mono ?_
  rintro e w3 ⟨rfl,hb3⟩
  have HE3 : Hid _ := HE.out w3 hb3
  clear js hb3 HE
  go_wp2
  exact HE3.out
 have hlg0 : lgB p nA nG nN = false := by simpa using hlg
 rw [hlg0] at js
 have HLG : Hid _ := q4U hlg0
 clear hlg hlg0
 by_cases h300 : nW ≤ 300
 rotate_left
 ·have HE : Hid (∀ w3,Below w2.heap.size w2 w3 → Q (.returned (.bool true)) w3) := fun w3 h => HQ.out w3 (q5 hb02 h)
  have e1 : decide (300 < (nW : Int)) = true := decide_eq_true (by omega)
  clear HQ hb02 h300
  go_enter Try.func3,Try.ntmps3
  go_wp2_with (first | rw [← HW2.out] | rw [← HW1.out])
  refine js.mono ?_
  rintro e w3 ⟨rfl,hb3⟩
  have HE3 : Hid _ := HE.out w3 hb3
  clear js hb3 HE
  go_wp2
  exact HE3.out
 have e1 : decide (300 < (nW : Int)) = false := decide_eq_false (by omega)
 clear hb02
 go_enter Try.func3,Try.ntmps3
 go_wp2_with (first | rw [← HW2.out] | rw [← HW1.out])
 refine js.mono ?_
 rintro e w3 ⟨rfl,hb3⟩
 have HB3 : Hid _ := hb3
 clear js hb3 c0 c1 c2 c3 HW1 HW2
 obtain ⟨⟨c0,c1,c2,c3⟩,_,hbo3,hnd3,hzg3,_,_⟩ := HC2.out w3 HB3.out
 have j := q1F p aA nA cA aG nG cG aN nN cN bs gs N w3 hbo3 hzg3 hnd3 (by have := HLG.out.2.2.1; omega) (by have := HLG.out.2.2.2.2; omega) (by have := HLG.out.2.2.2.1; omega)
 clear hbo3 hzg3 hnd3
 go_wp2_with fail
 refine j.mono ?_
 rintro e w4 ⟨b1,gb,b2,rfl,r1,r2,r3,hb4,_,_,_⟩
 obtain ⟨w5,hw5⟩ : ∃ w5,w5 = w4.alloc (.cells #[.int .i64 p,.slice (some ⟨b1,0,none⟩) nA (nA + 3),.slice (some ⟨gb,0,none⟩) nG (nG + 3),.slice (some ⟨b2,0,none⟩) nN (nN + 3)] 26 (0,0)) := ⟨_,rfl⟩
 have hb5 : Below w4.heap.size w4 w5 := by rw [hw5]; exact q7 _ _
 have hI5 : AuB w5 w4.heap.size p (some ⟨b1,0,none⟩) nA (nA + 3) (some ⟨gb,0,none⟩) nG (nG + 3) (some ⟨b2,0,none⟩) nN (nN + 3) := by rw [hw5]; exact qa w4 p _ _ _ _ _ _ _ _ _
 have HW5 : Hid _ := hw5
 obtain ⟨w6,hw6⟩ : ∃ w6,w6 = w5.alloc (.cells #[] 4 (0,0)) := ⟨_,rfl⟩
 have hb6 : Below w5.heap.size w5 w6 := by rw [hw6]; exact q7 _ _
 have hk6 : w6.heap[w5.heap.size]? = some (.cells #[] 4 (0,0)) := by rw [hw6]; exact (MapKept.heap_alloc w5 _).1
 have HO6 : Hid (w6.ownsRow w5.heap.size 4 1 (.slice (some ⟨w5.heap.size,0,none⟩) 0 0) 0 []) := ⟨rfl,.inr ⟨w5.heap.size,0,#[],rfl,Nat.le_refl _,hk6,Nat.le_refl _,by decide,rfl,rfl⟩⟩
 have HW6 : Hid _ := hw6
 have HBW : Hid (BoSl w6 aW nW cW ws) := (HC2.out w6 (q5 HB3.out (q5 hb4 (q5 hb5 hb6)))).2.2.2.2.2.1
 have hs6 : w5.heap.size ≤ w6.heap.size := hb6.size
 have HB56 : Hid (Below w5.heap.size w5 w6) := hb6
 have HC5 : Hid (∀ w',Below w5.heap.size w5 w' → (AuB w' w.heap.size p aA nA cA aG nG cG aN nN cN ∧ w'.heap[w1.heap.size]? = some (.cells #[.int .u8 (x : Int),.int .u8 (y : Int)] 29 (0,0)) ∧ AuB w' w4.heap.size p (some ⟨b1,0,none⟩) nA (nA + 3) (some ⟨gb,0,none⟩) nG (nG + 3) (some ⟨b2,0,none⟩) nN (nN + 3)) ∧ (BoSl w' aA nA cA bs ∧ NdSl w' aN nN cN N ∧ ZSl w' aG nG cG gs) ∧ (BoSl w' (some ⟨b1,0,none⟩) nA (nA + 3) bs ∧ NdSl w' (some ⟨b2,0,none⟩) nN (nN + 3) N ∧ ZSl w' (some ⟨gb,0,none⟩) nG (nG + 3) gs) ∧ (BoRow w' b1 (bs ++ zB 3) ∧ RowI w' 3 gb (lentZ gs) ∧ NdRow w' b2 (N ++ zG 3)) ∧ BoSl w' aW nW cW ws ∧ Below w.heap.size w w') := fun w' hb => by
  have hb4' := q5 hb5 hb
  obtain ⟨k1,k2,k3,k4,k5,k6,k8⟩ := HC2.out w' (q5 HB3.out (q5 hb4 hb4'))
  have q1 := r1.up hb4'
  have q2 := r2.up hb4'
  have q3 := r3.up hb4'
  obtain ⟨n1,n2,n3⟩ := HLN.out
  obtain ⟨_,_,g1,g2,g3⟩ := HLG.out
  exact ⟨⟨k1,k2,hI5.up hb⟩,⟨k3,k4,k5⟩,⟨q1.sl n1 (by omega),q3.sl n3 (by omega) HND.out,q2.zl2 n2 (by omega)⟩,⟨q1,q2,q3⟩,k6,k8⟩
 clear j r1 r2 r3 hb4 hw5 hb5 hI5 hw6 hb6 hk6 c0 c1 c2 c3 HB3 HC2
 go_wp2_with (first
  | rw [← HW6.out]
  | rw [← HW5.out]
  | (at_builtin; refine q1P rfl _ _ rfl w5.heap.size _ 0 [] rfl HO6.out aW nW cW ws rfl HBW.out (by omega) hs6 ?_))
 intro v7 w7 ho7 hg7
 have HB7 : Hid (Below w5.heap.size w5 w7) := HB56.out.grown hg7 hs6 (fun k e => by injection e with e; dsimp only at e; omega)
 have hO7 : w7.ownsRow w5.heap.size 4 1 v7 nW (ws.map Value.bool) := by simpa using ho7
 obtain ⟨aL,cL,rfl,hL⟩ := q1i hO7
 have HL7 : Hid (BoSl w7 aL nW cL ws) := hL
 clear ho7 hg7 hO7 hL HO6 HBW HB56 HW5 HW6 hs6
 obtain ⟨⟨⟨c0,c1,c2,c3⟩,hsp,⟨i0,i1,i2,i3⟩⟩,⟨hbo,hnd,hzg⟩,⟨hbo2,hnd2,hzg2⟩,_,hws,_⟩ := HC5.out w7 HB7.out
 have s0 := q6 hsp 0
 have s1 := q6 hsp 1
 have j := HT.out.ranks p (some ⟨b1,0,none⟩) nA (nA + 3) (some ⟨gb,0,none⟩) nG (nG + 3) (some ⟨b2,0,none⟩) nN (nN + 3) bs N gs x y w7 hbo2 hnd2 hzg2 HOK.out hx hy
 clear hsp hbo hnd hzg hbo2 hnd2 hzg2 hws
 go_wp2_with fail
 refine j.mono ?_
 rintro e w8 ⟨hb,aX,X,r,rfl,hr,hrow,hnew⟩
 have HR : Hid (RkN p nA bs N gs x y X r) := hr.out
 have HX8 : Hid (RowOfI w8 3 aX r) := hrow.out
 have HXB : Hid (∀ b,aX.map (·.block) = some b → b < w8.heap.size) := hrow.out.lt
 have HB8 : Hid (Below w5.heap.size w5 w8) := q5 HB7.out hb
 have HL8 : Hid (BoSl w8 aL nW cL ws) := HL7.out.up hb
 clear j hb hr hrow hnew c0 c1 c2 c3 i0 i1 i2 i3 s0 s1 HB7 HL7
 obtain ⟨⟨⟨c0,c1,c2,c3⟩,hsp,⟨i0,i1,i2,i3⟩⟩,⟨hbo,hnd,hzg⟩,⟨hbo2,hnd2,hzg2⟩,_,hws,_⟩ := HC5.out w8 HB8.out
 have s0 := q6 hsp 0
 have s1 := q6 hsp 1
 have j := HT.out.ranks p (some ⟨b1,0,none⟩) nA (nA + 3) (some ⟨gb,0,none⟩) nG (nG + 3) (some ⟨b2,0,none⟩) nN (nN + 3) bs N gs x y w8 hbo2 hnd2 hzg2 HOK.out hx hy
 clear hsp hbo hnd hzg hbo2 hnd2 hzg2 hws
 go_wp2_with fail
 refine j.mono ?_
 rintro e w9 ⟨hb,aY,Y,t,rfl,hr,hrow,hnew⟩
 obtain ⟨e3,e4⟩ := hr.out.uni HR.out
 subst e3 e4
 have HX9 : Hid (RowOfI w9 3 aX t) := HX8.out.up hb
 have HY9 : Hid (RowOfI w9 3 aY t) := hrow.out
 have HXY : Hid (∀ b d,aX.map (·.block) = some b → aY.map (·.block) = some d → b < d) := fun b d h1 h2 => Nat.lt_of_lt_of_le (HXB.out b h1) (hnew.out d h2)
 have HB9 : Hid (Below w5.heap.size w5 w9) := q5 HB8.out hb
 have HL9 : Hid (BoSl w9 aL nW cL ws) := HL8.out.up hb
 clear j hb hr hrow hnew c0 c1 c2 c3 i0 i1 i2 i3 s0 s1 HB8 HL8 HX8 HXB
 obtain ⟨⟨⟨c0,c1,c2,c3⟩,hsp,⟨i0,i1,i2,i3⟩⟩,⟨hbo,hnd,hzg⟩,⟨hbo2,hnd2,hzg2⟩,_,hws,_⟩ := HC5.out w9 HB9.out
 have s0 := q6 hsp 0
 have s1 := q6 hsp 1
 have j := qT p aA nA cA aG nG cG aN nN cN bs N gs x y w9 hbo hnd hzg (by have := HLG.out.2.2.1; omega) (by have := HLG.out.2.2.2.1; omega) hx hy
 clear hsp hbo hnd hzg hbo2 hnd2 hzg2 hws
 go_wp2_with fail
 refine j.mono ?_
 rintro e w10 ⟨hb,aZ,cZ,Z,z,rfl,hr,hz⟩
 obtain ⟨e3,e4⟩ := hr.out.uni HR.out
 subst e3 e4
 have HX10 : Hid (RowOfI w10 3 aX z) := HX9.out.up hb
 have HY10 : Hid (RowOfI w10 3 aY z) := HY9.out.up hb
 have HZ10 : Hid (ZSl w10 aZ z.length cZ z) := hz.out
 have HB10 : Hid (Below w5.heap.size w5 w10) := q5 HB9.out hb
 have HL10 : Hid (BoSl w10 aL nW cL ws) := HL9.out.up hb
 clear j hb hr hz c0 c1 c2 c3 i0 i1 i2 i3 s0 s1 HB9 HL9 HX9 HY9
 obtain ⟨⟨⟨c0,c1,c2,c3⟩,hsp,⟨i0,i1,i2,i3⟩⟩,⟨hbo,hnd,hzg⟩,⟨hbo2,hnd2,hzg2⟩,_,hws,_⟩ := HC5.out w10 HB10.out
 have s0 := q6 hsp 0
 have s1 := q6 hsp 1
 have j := HA.out.wins p (some ⟨b1,0,none⟩) nA (nA + 3) (some ⟨gb,0,none⟩) nG (nG + 3) (some ⟨b2,0,none⟩) nN (nN + 3) bs N gs x y w10 hbo2 hnd2 hzg2 HOK.out hx hy
 clear hsp hbo hnd hzg hbo2 hnd2 hzg2 hws
 go_wp2_with fail
 refine j.mono ?_
 rintro e w11 ⟨hb,bw,B1,rfl,hw⟩
 have HWN : Hid (WnN p nA bs N gs x y B1 bw) := hw.out
 have HB11 : Hid (Below w10.heap.size w10 w11) := hb
 clear j hb hw c0 c1 c2 c3 i0 i1 i2 i3 s0 s1
 obtain ⟨⟨⟨c0,c1,c2,c3⟩,hsp,⟨i0,i1,i2,i3⟩⟩,⟨hbo,hnd,hzg⟩,⟨hbo2,hnd2,hzg2⟩,_,hws,_⟩ := HC5.out w11 (q5 HB10.out HB11.out)
 have s0 := q6 hsp 0
 have s1 := q6 hsp 1
 have j := q2H p aA nA cA aG nG cG aN nN cN bs N gs x y w11 hbo hnd hzg (by have := HLG.out.2.2.1; omega) (by have := HLG.out.2.2.2.1; omega) hx hy
 clear hsp hbo hnd hzg hbo2 hnd2 hzg2 hws
 go_wp2_with fail
 refine j.mono ?_
 rintro e w12 ⟨hb,bw2,B2,rfl,hw⟩
 obtain ⟨e3,e4⟩ := hw.out.uni HWN.out
 subst e3 e4
 have HB12 : Hid (Below w10.heap.size w10 w12) := q5 HB11.out hb
 clear j hb hw c0 c1 c2 c3 i0 i1 i2 i3 s0 s1 HB11 HWN
 obtain ⟨⟨⟨c0,c1,c2,c3⟩,hsp,⟨i0,i1,i2,i3⟩⟩,⟨hbo,hnd,hzg⟩,⟨hbo2,hnd2,hzg2⟩,_,hws,_⟩ := HC5.out w12 (q5 HB10.out HB12.out)
 have s0 := q6 hsp 0
 have s1 := q6 hsp 1
 have j := HT.out.step p (some ⟨b1,0,none⟩) nA (nA + 3) (some ⟨gb,0,none⟩) nG (nG + 3) (some ⟨b2,0,none⟩) nN (nN + 3) bs N gs x y aL nW cL ws w12 hbo2 hnd2 hzg2 HOK.out hx hy (HL10.out.up HB12.out)
 clear hsp hbo hnd hzg hbo2 hnd2 hzg2 hws
 go_wp2_with fail
 refine j.mono ?_
 rintro e w13 ⟨hb,aU,cU,U,us,rfl,hst,hown⟩
 have HST : Hid (StN p nA bs N gs x y ws U us) := hst.out
 have HU13 : Hid (w13.ownsRow w12.heap.size 4 1 (.slice aU us.length cU) us.length (us.map Value.bool)) := hown.out
 have HB13 : Hid (Below w12.heap.size w12 w13) := hb
 clear j hb hst hown c0 c1 c2 c3 i0 i1 i2 i3 s0 s1
 obtain ⟨⟨⟨c0,c1,c2,c3⟩,hsp,⟨i0,i1,i2,i3⟩⟩,⟨hbo,hnd,hzg⟩,⟨hbo2,hnd2,hzg2⟩,_,hws,_⟩ := HC5.out w13 (q5 HB10.out (q5 HB12.out HB13.out))
 have s0 := q6 hsp 0
 have s1 := q6 hsp 1
 have j := qK p aA nA cA aG nG cG aN nN cN bs N gs x y aW nW cW ws w13 hbo hnd hzg (by have := HLG.out.2.2.1; omega) (by have := HLG.out.2.2.2.1; omega) hx hy hws
 clear hsp hbo hnd hzg hbo2 hnd2 hzg2 hws
 go_wp2_with fail
 refine j.mono ?_
 rintro e w14 ⟨hb,v,V,vs,rfl,hst,hown⟩
 obtain ⟨e3,e4⟩ := hst.out.uni HST.out
 subst e3 e4
 obtain ⟨aV,cV,rfl,hV⟩ := q1i hown.out
 have HV14 : Hid (BoSl w14 aV vs.length cV vs) := hV
 have HU14 : Hid (w14.ownsRow w12.heap.size 4 1 (.slice aU vs.length cU) vs.length (vs.map Value.bool)) := qx HU13.out hb
 have HB14 : Hid (Below w12.heap.size w12 w14) := q5 HB13.out hb
 obtain ⟨hrl,hrv⟩ := HR.out.bd
 have HRV : Hid _ := hrv
 clear j hb hst hown hV hrv c0 c1 c2 c3 i0 i1 i2 i3 s0 s1 HB13 HU13
 have hb14 := q5 HB12.out HB14.out
 have j : Calls Try.prog 15 #[.slice aX z.length z.length,.slice aZ z.length cZ] w14 fun e w' => e = .returned (.bool true) ∧ Below w14.heap.size w14 w' := (qk _ _ _ _ _ _ _ _ w14 ((HX10.out.up hb14).intSl Try.underlying23 qb (by unfold maxLen; omega)) (HZ10.out.up hb14)).mono fun e w' h => by
  obtain ⟨h1,q,rfl⟩ := h
  rw [decide_eq_true rfl] at h1
  exact ⟨h1,below_drewN (Below.refl _ _) q⟩
 clear hb14
 go_wp2_with fail
 refine j.mono ?_
 rintro e w15 ⟨rfl,hb⟩
 have HB15 : Hid (Below w14.heap.size w14 w15) := hb
 have hb15 := q5 HB12.out (q5 HB14.out hb)
 clear j hb
 have j : Calls Try.prog 15 #[.slice aY z.length z.length,.slice aZ z.length cZ] w15 fun e w' => e = .returned (.bool true) ∧ Below w15.heap.size w15 w' := (qk _ _ _ _ _ _ _ _ w15 ((HY10.out.up hb15).intSl Try.underlying23 qb (by unfold maxLen; omega)) (HZ10.out.up hb15)).mono fun e w' h => by
  obtain ⟨h1,q,rfl⟩ := h
  rw [decide_eq_true rfl] at h1
  exact ⟨h1,below_drewN (Below.refl _ _) q⟩
 clear hb15
 have eb : (bw2 == bw2) = true := by simp
 go_wp2_with fail
 refine j.mono ?_
 rintro e w16 ⟨rfl,hb⟩
 have HB16 : Hid (Below w14.heap.size w14 w16) := q5 HB15.out hb
 clear j hb HB15
 obtain ⟨aU2,cU2,ev,hU⟩ := q1i (qx HU14.out HB16.out)
 injection ev with ev1 _ ev3
 subst ev1 ev3
 have j : Calls Try.prog 16 #[.slice aU vs.length cU,.slice aV vs.length cV] w16 fun e w' => e = .returned (.bool true) ∧ Below w16.heap.size w16 w' := (qA _ _ _ _ _ _ _ _ w16 hU (HV14.out.up HB16.out)).mono fun e w' h => by rw [decide_eq_true rfl] at h; exact h
 clear hU
 go_wp2_with fail
 refine j.mono ?_
 rintro e w17 ⟨rfl,hb⟩
 have HB17 : Hid (Below w12.heap.size w12 w17) := q5 HB14.out (q5 HB16.out hb)
 have HU17 : Hid (w17.ownsRow w12.heap.size 4 1 (.slice aU vs.length cU) vs.length (vs.map Value.bool)) := qx HU14.out (q5 HB16.out hb)
 clear j hb HB16 HB14 HU14 HV14 HZ10 eb
 have hvl := HST.out.len
 have hvl2 : vs.length ≤ 259 := by have := HLG.out.2.2.1; omega
 have HCE : Hid (∀ w',Below w12.heap.size w12 w' → Q (.returned (.bool true)) w') := fun w' hb => HQ.out w' (HC5.out w' (q5 HB10.out (q5 HB12.out hb))).2.2.2.2.2
 have HU0 : Hid (∃ ts : List Bool,w17.ownsRow w12.heap.size 4 1 (.slice aU vs.length cU) vs.length (ts.map Value.bool)) := ⟨_,HU17.out⟩
 clear hvl HU17 HST HQ
 generalize vs.length = nU at *
 go_wp2
 go_loopw [24] (fun i wr => ∃ k : Nat,k ≤ nU ∧ i = .int .i64 (k : Int) ∧ Hid (∃ ts : List Bool,wr.ownsRow w12.heap.size 4 1 (.slice aU nU cU) nU (ts.map Value.bool)) ∧ Hid (Below w12.heap.size w12 wr)) (fun i _ => nU - (intOf i).toNat)
 case atStart => exact ⟨0,Nat.zero_le _,rfl,HU0,HB17⟩
 case round =>
  obtain ⟨k,hk,rfl,HU,HB⟩ := hrel
  clear HU0 HB17
  by_cases hlt : k < nU
  ·have e2 : decide ((k : Int) < (nU : Int)) = true := decide_eq_true (by omega)
   obtain ⟨ts,hts⟩ := HU.out
   have htl : ts.length = nU := by have := hts.1; simpa using this
   obtain ⟨g,rfl,hg,hc,hf,h1,h2,h3⟩ := q4C hts hlt (.bool (!ts.getD k false))
   have hc2 : wr.cell? ⟨g,k,none⟩ = some (.bool (ts.getD k false)) := by
    rw [hc,List.getElem?_map,List.getElem?_eq_getElem (by omega),List.getD_eq_getElem?_getD,List.getElem?_eq_getElem (by omega)]
    rfl
   have HU2 : Hid (∃ us : List Bool,(wr.setCell ⟨g,k,none⟩ (.bool (!ts.getD k false))).ownsRow w12.heap.size 4 1 (.slice (some ⟨g,0,none⟩) nU cU) nU (us.map Value.bool)) := ⟨ts.set k (!ts.getD k false),by rw [List.map_set]; exact h3⟩
   have HB2 : Hid (Below w12.heap.size w12 (wr.setCell ⟨g,k,none⟩ (.bool (!ts.getD k false)))) := HB.out.setCell hg _
   have ixu : ∀ w',(Instr.indexAt 22 (.slice (some ⟨g,0,none⟩) nU cU) (.int .i64 (k : Int))).run Try.prog w' = .ok (.pointer (some ⟨g,k,none⟩)) w' := fun w' => by
    have := qd (P := Try.prog) (T := 22) Try.underlying22 qg (a := some ⟨g,0,none⟩) (cap := cU) (n := nU) (fun e => by cases e) k w' hlt
    simpa [adOf,q8] using this
   clear hts htl hc h3 HU HB h1 h2
   generalize ts.getD k false = z at *
   go_wp2
   go_roundw
   case rel => exact ⟨k + 1,by omega,by go_num,HU2,HB2⟩
   case measure => simp [intOf]; omega
  ·obtain rfl : k = nU := by omega
   have e2 : decide ((k : Int) < (k : Int)) = false := by simp
   clear HU
   have hbw := q5 HB12.out HB.out
   obtain ⟨_,_,_,_,hws,_⟩ := HC5.out wr (q5 HB10.out hbw)
   have j : Calls Try.prog 16 #[.slice aL nW cL,.slice aW nW cW] wr fun e w' => e = .returned (.bool true) ∧ Below wr.heap.size wr w' := (qA _ _ _ _ _ _ _ _ wr (HL10.out.up hbw) hws).mono fun e w' h => by rw [decide_eq_true rfl] at h; exact h
   clear hbw hws hlt
   go_wp2_with fail
   refine j.mono ?_
   rintro e w18 ⟨rfl,hb⟩
   have HB18 : Hid (Below w12.heap.size w12 w18) := q5 HB.out hb
   clear j hb HB e2
   obtain ⟨⟨⟨c0,c1,c2,c3⟩,_,⟨i0,i1,i2,i3⟩⟩,⟨hbo,hnd,hzg⟩,_,⟨r1,r2,r3⟩,_,_⟩ := HC5.out w18 (q5 HB10.out (q5 HB12.out HB18.out))
   have j := q23 p aA nA cA aG nG cG aN nN cN bs gs N b1 gb b2 w18 hbo hzg hnd (by have := HLG.out.2.2.1; omega) (by have := HLG.out.2.2.2.2; omega) (by have := HLG.out.2.2.2.1; omega) r1 r2 r3
   clear hbo hnd hzg r1 r2 r3
   go_wp2_with fail
   refine j.mono ?_
   rintro e w19 ⟨rfl,hb⟩
   have HB19 : Hid (Below w12.heap.size w12 w19) := q5 HB18.out hb
   clear j hb HB18 c0 c1 c2 c3 i0 i1 i2 i3
   obtain ⟨w20,hw20⟩ : ∃ w20,w20 = w19.alloc (.cells #[.slice aX z.length z.length,.slice aY z.length z.length] 23 (0,0)) := ⟨_,rfl⟩
   have hb20 : Below w19.heap.size w19 w20 := by rw [hw20]; exact q7 _ _
   have hk20 : w20.heap[w19.heap.size]? = some (.cells #[.slice aX z.length z.length,.slice aY z.length z.length] 23 (0,0)) := by rw [hw20]; exact (MapKept.heap_alloc w19 _).1
   have HW20 : Hid _ := hw20
   have hbw := q5 HB12.out (q5 HB19.out hb20)
   have j := q3a w20 w19.heap.size aX aY z (by omega) HRV.out hk20 (HX10.out.up hbw) (HY10.out.up hbw) HXY.out
   have HB20 : Hid (Below w12.heap.size w12 w20) := q5 HB19.out hb20
   clear hw20 hb20 hk20 hbw HB19
   go_wp2_with (rw [← HW20.out])
   refine j.mono ?_
   rintro e w21 ⟨rfl,hb⟩
   have HE : Hid _ := HCE.out w21 (q5 HB20.out hb)
   clear j hb HB20 HCE HC5 HW20
   go_wp2
   exact HE.out
end Go.Proofs.Ytbgogbafkoekjaa
