/- Texts of the proof, put together: what it uses. -/
import Derived.Deep.RegionLaw
import Derived.Test.YthhbhadcjofelaaZ00
import Derived.Test.YthhbhadcjofelaaZ06
import Derived.Test.YthhbhadcjofelaaZ17
set_option maxRecDepth 100000
set_option maxHeartbeats 16000000
namespace Go.Proofs.Ythhbhadcjofelaa
open Go.RowKit Go.Maps Go.Sort
theorem q2n (HB : Hid BrdC) (HS : Hid StgC) (p : Int) (aA : Option Addr) (nA cA : Nat) (aG : Option Addr) (nG cG : Nat) (aN : Option Addr) (nN cN : Nat) (bs : List Bool) (gs : List Int) (N : List Gd) (x y : Nat) (aR : Option Addr) (nR cR : Nat) (aP : Option Addr) (nP cP : Nat) (aC : Option Addr) (nC cC : Nat) (u : SgX) (aL : Option Addr) (nL cL : Nat) (zs : List Int) (w : World) (hB : BoSl w aA nA cA bs) (hG : ZSl w aG nG cG gs) (hN : NdSl w aN nN cN N) (hok : ∀ z ∈ gs,I64 z) (hx : x < 256) (hy : y < 256) (hU : SgW w aR nR cR aP nP cP aC nC cC u) (hL : ZSl w aL nL cL zs) :
  Calls Try.prog 5 #[.agg #[.int .i64 p,.slice aA nA cA,.slice aG nG cG,.slice aN nN cN],.agg #[.int .u8 (x : Int),.int .u8 (y : Int)],.agg #[.bool u.wins,.slice aR nR cR,.slice aP nP cP,.slice aC nC cC],.slice aL nL cL] w fun e w' => e = .returned (.bool true) ∧ Below w.heap.size w w' := by
 obtain ⟨Q,hQ⟩ : ∃ Q : Ending → World → Prop,Q = fun e w' => e = .returned (.bool true) ∧ Below w.heap.size w w' := ⟨_,rfl⟩
 have HQ : Hid (∀ w',Below w.heap.size w w' → Q (.returned (.bool true)) w') := fun w' h => by rw [hQ]; exact ⟨rfl,h⟩
 rw [← hQ]
 clear hQ
 obtain ⟨w1,hw1⟩ : ∃ w1,w1 = w.alloc (.cells #[.int .i64 p,.slice aA nA cA,.slice aG nG cG,.slice aN nN cN] 26 (0,0)) := ⟨_,rfl⟩
 have hb1 : Below w.heap.size w w1 := by rw [hw1]; exact qb _ _
 have hA1 : AuB w1 w.heap.size p aA nA cA aG nG cG aN nN cN := by rw [hw1]; exact qj w p aA nA cA aG nG cG aN nN cN
 have HW1 : Hid _ := hw1
 obtain ⟨w2,hw2⟩ : ∃ w2,w2 = w1.alloc (.cells #[.int .u8 (x : Int),.int .u8 (y : Int)] 29 (0,0)) := ⟨_,rfl⟩
 have hb2 : Below w1.heap.size w1 w2 := by rw [hw2]; exact qb _ _
 have hk2 : w2.heap[w1.heap.size]? = some (.cells #[.int .u8 (x : Int),.int .u8 (y : Int)] 29 (0,0)) := by rw [hw2]; exact (MapKept.heap_alloc w1 _).1
 have HW2 : Hid _ := hw2
 obtain ⟨w3,hw3⟩ : ∃ w3,w3 = w2.alloc (.cells #[.bool u.wins,.slice aR nR cR,.slice aP nP cP,.slice aC nC cC] 33 (0,0)) := ⟨_,rfl⟩
 have hb3 : Below w2.heap.size w2 w3 := by rw [hw3]; exact qb _ _
 have hk3 : w3.heap[w2.heap.size]? = some (.cells #[.bool u.wins,.slice aR nR cR,.slice aP nP cP,.slice aC nC cC] 33 (0,0)) := by rw [hw3]; exact (MapKept.heap_alloc w2 _).1
 have HW3 : Hid _ := hw3
 have hb02 : Below w.heap.size w w2 := q9 hb1 hb2
 have hb03 : Below w.heap.size w w3 := q9 hb02 hb3
 have HC : Hid (∀ w',Below w3.heap.size w3 w' → AuB w' w.heap.size p aA nA cA aG nG cG aN nN cN ∧ w'.heap[w1.heap.size]? = some (.cells #[.int .u8 (x : Int),.int .u8 (y : Int)] 29 (0,0)) ∧ BoSl w' aA nA cA bs ∧ NdSl w' aN nN cN N ∧ ZSl w' aG nG cG gs ∧ Below w.heap.size w w' ∧ ZSl w' aL nL cL zs) := fun w' hb =>
  ⟨((hA1.up hb2).up hb3).up hb,(hb.block _ (Nat.lt_of_lt_of_le (Array.getElem?_eq_some_iff.1 hk2).1 hb3.size)).trans ((hb3.block _ (Array.getElem?_eq_some_iff.1 hk2).1).trans hk2),(hB.up hb03).up hb,(hN.up hb03).up hb,(hG.up hb03).up hb,q9 hb03 hb,(hL.up hb03).up hb⟩
 have HD : Hid (∀ w',Below w3.heap.size w3 w' → w'.heap[w2.heap.size]? = some (.cells #[.bool u.wins,.slice aR nR cR,.slice aP nP cP,.slice aC nC cC] 33 (0,0)) ∧ SgW w' aR nR cR aP nP cP aC nC cC u) := fun w' hb => ⟨(hb.block _ (Array.getElem?_eq_some_iff.1 hk3).1).trans hk3,(hU.up hb03).up hb⟩
 have HOK : Hid _ := hok
 have HLG0 : Hid (gs.length = nG) := hG.hlen
 clear hB hG hN hL hU hok hw1 hb1 hA1 hw2 hb2 hk2 hb02 hw3 hb3 hk3 hb03
 have j := qE HS w3
 go_enter Try.func5,Try.ntmps5
 go_wp2_with (first | rw [← HW3.out] | rw [← HW2.out] | rw [← HW1.out])
 refine j.mono ?_
 rintro e w4 ⟨rfl,hb⟩
 have HB4 : Hid (Below w3.heap.size w3 w4) := hb
 clear j hb HW1 HW2 HW3
 obtain ⟨⟨c0,c1,c2,c3⟩,_⟩ := HC.out w4 HB4.out
 have j := q13 p aA nA cA aG nG cG aN nN cN w4
 by_cases hlg : lgB p nA nG nN = true
 ·rw [hlg] at j
  have HE : Hid (∀ w',Below w4.heap.size w4 w' → Q (.returned (.bool true)) w') := fun w' hb => HQ.out w' (HC.out w' (q9 HB4.out hb)).2.2.2.2.2.1
  clear hlg HQ
  go_wp2_with fail
  refine j.mono ?_
  rintro e w5 ⟨rfl,hb⟩
  have HF : Hid _ := HE.out w5 hb
  clear j hb HE
  go_wp2
  exact HF.out
 have hlg0 : lgB p nA nG nN = false := by simpa using hlg
 rw [hlg0] at j
 have HLG : Hid _ := q3I hlg0
 clear hlg hlg0
 go_wp2_with fail
 refine j.mono ?_
 rintro e w5 ⟨rfl,hb⟩
 have HB5 : Hid (Below w3.heap.size w3 w5) := q9 HB4.out hb
 clear j hb c0 c1 c2 c3 HB4
 obtain ⟨hst,hsu⟩ := HD.out w5 HB5.out
 have t0 := q8 hst 0
 have t1 := q8 hst 1
 have t2 := q8 hst 2
 have t3 := q8 hst 3
 have j := q2p aR nR cR aP nP cP aC nC cC u w5 hsu
 clear hst hsu
 go_wp2_with fail
 refine j.mono ?_
 rintro e w6 ⟨hb,b,rfl,-⟩
 have HB6 : Hid (Below w3.heap.size w3 w6) := q9 HB5.out hb
 clear j hb t0 t1 t2 t3 HB5
 cases b with
 | true =>
  have HE : Hid _ := HQ.out w6 (HC.out w6 HB6.out).2.2.2.2.2.1
  clear HQ
  go_wp2
  exact HE.out
 | false =>
 obtain ⟨⟨c0,c1,c2,c3⟩,hsp,hbo,hnd,hzg,_⟩ := HC.out w6 HB6.out
 have s0 := q8 hsp 0
 have s1 := q8 hsp 1
 have j := HB.out.check p aA nA cA aG nG cG aN nN cN bs N gs x y w6 hbo hnd hzg HOK.out hx hy
 clear hsp hbo hnd hzg
 go_wp2_with fail
 refine j.mono ?_
 rintro e w7 ⟨hb,X,rfl,hX⟩
 have HB7 : Hid (Below w3.heap.size w3 w7) := q9 HB6.out hb
 clear j hb c0 c1 c2 c3 s0 s1 HB6
 by_cases hX0 : X = 0
 rotate_left
 ·have HE : Hid _ := HQ.out w7 (HC.out w7 HB7.out).2.2.2.2.2.1
  have e1 : (X != 0) = true := by simpa using hX0
  clear HQ hX hX0
  go_wp2
  exact HE.out
 subst hX0
 have HX : Hid (ChkN p nA bs N gs x y 0) := hX.out
 clear hX
 obtain ⟨hM,hbz,hsl⟩ := HX.out.okk
 have HT : Hid (InT (toS p N gs) nA x y) := qJ hM hsl
 have h1n : 0 < nA := by have := hM.s1; omega
 have hn10 : nA ≤ 10 := by have h2 := hM.s2; have := HLG.out.2.1; omega
 have hnG : nG = nA := HLG0.out.symm.trans hM.len
 subst hnG
 clear hM hsl hbz
 obtain ⟨⟨c0,c1,c2,c3⟩,hsp,hbo,hnd,hzg,_⟩ := HC.out w7 HB7.out
 have s0 := q8 hsp 0
 have s1 := q8 hsp 1
 obtain ⟨hst,hsu⟩ := HD.out w7 HB7.out
 have t0 := q8 hst 0
 have t1 := q8 hst 1
 have t2 := q8 hst 2
 have t3 := q8 hst 3
 have j := HS.out.check p aA nG cA aG nG cG aN nN cN bs N gs x y aR nR cR aP nP cP aC nC cC u w7 hbo hnd hzg HOK.out hx hy hsu
 clear hsp hbo hnd hzg hst hsu
 go_wp2_with fail
 refine j.mono ?_
 rintro e w8 ⟨hb,b,X,rfl,hck⟩
 obtain ⟨rfl,hbk⟩ := hck.out.real HX.out
 have HBK : Hid _ := hbk
 have HB8 : Hid (Below w3.heap.size w3 w8) := q9 HB7.out hb
 clear j hb c0 c1 c2 c3 s0 s1 t0 t1 t2 t3 hck hbk HB7
 obtain ⟨⟨c0,c1,c2,c3⟩,_⟩ := HC.out w8 HB8.out
 have j := q1g p aA nG cA aG nG cG aN nN cN w8 h1n rfl
 go_wp2_with fail
 refine j.mono ?_
 rintro e w9 ⟨rfl,hb⟩
 have HB9 : Hid (Below w3.heap.size w3 w9) := q9 HB8.out hb
 clear j hb c0 c1 c2 c3 HB8
 obtain ⟨_,hsp,_,_,_,_,hzl⟩ := HC.out w9 HB9.out
 have s0 := q8 hsp 0
 have s1 := q8 hsp 1
 obtain ⟨hst,_⟩ := HD.out w9 HB9.out
 have t0 := q8 hst 0
 have HMK : ∀ m,m = (if u.wins then x else y) → m < 256 := fun m hm => by rw [hm]; split <;> assumption
 generalize hmk : (if u.wins then x else y) = mk at *
 have HMM : Hid _ := hmk
 have hmk2 : mk < 256 := HMK mk rfl
 have j := qz HB mk hmk2 aL nL cL zs w9 hzl
 clear hsp hst hzl HMK hmk
 have HM1 : Hid (u.wins = true → x = mk) := fun h => by have := HMM.out; rw [h] at this; exact this
 have HM2 : Hid (u.wins = false → y = mk) := fun h => by have := HMM.out; rw [h] at this; exact this
 go_upto_if 50 with fail
 go_cut [12] (fun v wx => v = .int .u8 (mk : Int) ∧ wx = w9)
 case first =>
  go_wp2
  all_goals
   go_meet
   exact ⟨by first | rw [HM1.out (by assumption)] | rw [HM2.out (by assumption)],rfl⟩
 case rest =>
 obtain ⟨rfl,hwc⟩ := hcut
 subst hwc
 clear s0 s1 t0 HM1 HM2
 go_wp2_with fail
 refine j.mono ?_
 rintro e w10 ⟨hb,ma,mc,ms,rfl,hml,hm40,hms⟩
 have HB10 : Hid (Below w3.heap.size w3 w10) := q9 HB9.out hb
 clear j hb HB9
 obtain ⟨⟨c0,c1,c2,c3⟩,hsp,hbo,hnd,hzg,_⟩ := HC.out w10 HB10.out
 have s0 := q8 hsp 0
 have s1 := q8 hsp 1
 obtain ⟨hst,hsu⟩ := HD.out w10 HB10.out
 have t0 := q8 hst 0
 have t1 := q8 hst 1
 have t2 := q8 hst 2
 have t3 := q8 hst 3
 have hRl := hsu.r.hlen
 have j := HS.out.play p aA nG cA aG nG cG aN nN cN bs N gs x y aR nR cR aP nP cP aC nC cC u ma ms.length mc ms w10 hbo hnd hzg HOK.out hx hy hsu hml.out (fun z hz => (hms.out z hz).1)
 clear hsp hbo hnd hzg hst hsu
 go_wp2_with fail
 refine j.mono ?_
 rintro e w11 ⟨hb,pa,pc,X,r,rfl,hp,hz⟩
 have HB11 : Hid (Below w3.heap.size w3 w11) := q9 HB10.out hb
 clear j hb c0 c1 c2 c3 s0 s1 t0 t1 t2 t3 HB10
 cases b with
 | false =>
  have hnk : ¬ KeepS (toS p N gs) (acA bs) nG x y u := fun h => by have := HBK.out.2 h; cases this
  obtain ⟨rfl,rfl⟩ := hp.out.not HX.out hnk
  have HE : Hid _ := HQ.out w11 (HC.out w11 HB11.out).2.2.2.2.2.1
  clear HQ hp hz hml hms
  go_wp2
  exact HE.out
 | true =>
 have HKP : Hid (KeepS (toS p N gs) (acA bs) nG x y u) := HBK.out.1 rfl
 obtain ⟨l,hl,hA⟩ := KeepS.ply HKP.out HT.out h1n ms (fun m hm => by rw [HMM.out]; exact hms.out m hm)
 obtain ⟨rfl,rfl⟩ := hp.out.real HX.out HKP.out (Nat.le_trans hm40 (by decide)) hl
 rw [List.length_map] at hz ⊢
 have HA : Hid _ := hA
 have hl0 := hA.pos
 have hl1 := hA.le
 obtain ⟨i,hli⟩ : ∃ i,l.length = i + 1 := ⟨l.length - 1,by omega⟩
 have hq := hA.lt i (by omega)
 have ix := fun w' => hz.out.idx l.length i w' (by omega) (Nat.le_refl _)
 have ce := hz.out.cell i (by omega)
 rw [qh (by omega)] at ce
 have HEN : Hid (u.wins = true → (ms.length : Int) < u.r 0 ∨ acA bs (l.getD i 0) = true) := fun hw => by have h := hA.ends hw; rw [hli] at h; exact h
 have HLO : Hid (u.wins = false → acA bs (l.getD i 0) = false) := fun hw => ((hA.lose hw).2 i (by omega)).1
 clear hp hl hA hz hml hms HBK HA HMM
 have e1 : ((l.length : Int) == 0) = false := beq_false_of_ne (by omega)
 have d6 : (l.length : Int) - 1 = (i : Int) := by omega
 have d7 : wrap64 (i : Int) = (i : Int) := qN (by omega)
 generalize hm : ms.length = m at *
 clear hm
 generalize l.getD i 0 = q at *
 have hRn : nR = nG := hRl.symm.trans HKP.out.lR
 clear hRl
 subst hRn
 have d1 : decide ((q : Int) < 0) = false := decide_eq_false (by omega)
 have d2 : decide ((nR : Int) ≤ (q : Int)) = false := decide_eq_false (by omega)
 have d3 : ((nR : Int) != (nR : Int)) = false := by simp
 obtain ⟨⟨c0,c1,c2,c3⟩,hsp,hbo,hnd,hzg,_⟩ := HC.out w11 HB11.out
 have s0 := q8 hsp 0
 have s1 := q8 hsp 1
 obtain ⟨hst,_⟩ := HD.out w11 HB11.out
 have t0 := q8 hst 0
 have t1 := q8 hst 1
 have j := HS.out.of p aA nR cA aG nR cG aN nN cN bs N gs x y w11 hbo hnd hzg HOK.out hx hy
 clear hsp hbo hnd hzg hst
 generalize hL : l.length = L at *
 clear hL hli hl0 hl1
 generalize adOf pa i = ad at *
 obtain ⟨ad1,ad2,ad3⟩ := ad
 go_wp2_with fail
 refine j.mono ?_
 rintro e w12 ⟨hb,bR,mR,dR,bP,mP,dP,bC,mC,dC,X,v,rfl,hv,hV⟩
 obtain ⟨rfl,hof⟩ := hv.out.real HX.out
 have hwe : v.wins = u.wins := (hof.keeps HT.out).same HKP.out HT.out hx hy h1n
 obtain ⟨w13,hw13⟩ : ∃ w13,w13 = w12.alloc (.cells #[.bool v.wins,.slice bR mR dR,.slice bP mP dP,.slice bC mC dC] 33 (0,0)) := ⟨_,rfl⟩
 have hb13 : Below w12.heap.size w12 w13 := by rw [hw13]; exact qb _ _
 have hk13 : w13.heap[w12.heap.size]? = some (.cells #[.bool v.wins,.slice bR mR dR,.slice bP mP dP,.slice bC mC dC] 33 (0,0)) := by rw [hw13]; exact (MapKept.heap_alloc w12 _).1
 have HW13 : Hid _ := hw13
 have HB13 : Hid (Below w3.heap.size w3 w13) := q9 (q9 HB11.out hb) hb13
 have v0 := q8 hk13 0
 clear j hb c0 c1 c2 c3 s0 s1 t0 t1 HB11 hw13 hb13 hk13 hv hV hof ix ce e1 d6 d7 d1 d2 d3
 obtain ⟨⟨c0,c1,c2,c3⟩,_,hbo,_⟩ := HC.out w13 HB13.out
 obtain ⟨hst,hsu⟩ := HD.out w13 HB13.out
 have t0 := q8 hst 0
 have t1 := q8 hst 1
 obtain ⟨i5,k5⟩ := hbo.getQ hq
 have i6 : ∀ w'',(Instr.indexAt 23 (.slice aR nR cR) (.int .i64 0)).run Try.prog w'' = .ok (.pointer (some (adOf aR 0))) w'' := fun w'' => hsu.r.idx nR 0 w'' h1n (Nat.le_refl _)
 have k6 := hsu.r.cell 0 h1n
 have HE : Hid _ := HQ.out w13 (HC.out w13 HB13.out).2.2.2.2.2.1
 clear hst hsu hbo HC HD HQ HB13
 generalize adOf aA q = bq at *
 obtain ⟨bq1,bq2,bq3⟩ := bq
 generalize adOf aR 0 = rq at *
 obtain ⟨rq1,rq2,rq3⟩ := rq
 have HKK : Hid (w13.cell? ⟨rq1,rq2,rq3⟩ = some (.int .i64 (u.r 0))) := k6
 clear k6
 cases hw : u.wins with
 | false =>
  have e4 := HLO.out hw
  rw [hwe,hw] at v0
  rw [hw] at t0
  rw [show bs.getD q false = false from e4] at k5
  clear HEN HLO
  rw [hwe,hw] at HW13 ⊢
  go_wp2_with (rw [← HW13.out])
  exact HE.out
 | true =>
  have e4 := HEN.out hw
  rw [hwe,hw] at v0
  rw [hw] at t0
  have k6 := HKK.out
  clear HEN HLO HKK
  rw [hwe,hw] at HW13 ⊢
  generalize u.r 0 = r0 at *
  by_cases hmr : (m : Int) < r0
  ·have d4 : decide ((m : Int) < r0) = true := decide_eq_true hmr
   go_wp2_with (rw [← HW13.out])
   exact HE.out
  ·have d4 : decide ((m : Int) < r0) = false := decide_eq_false hmr
   rw [show bs.getD q false = true from e4.resolve_left hmr] at k5
   go_wp2_with (rw [← HW13.out])
   exact HE.out
section
variable {p : Int} {nA : Nat} {bs : List Bool} {N : List Gd} {gs : List Int} {e s : Nat}
theorem PlS.no {x : SgX} {ms : List Nat} {X : Int} {r : List Int} (h : PlS p nA bs N gs e s x ms X r) (h0 : ChkN p nA bs N gs e s 0) (hk : KeepS (toS p N gs) (acA bs) nA e s x) (hm : ms.length ≤ 1024) (hl : plyS (toS p N gs) (acA bs) e s x 0 ms = none) : X = 14 ∧ r = [] := by
 rcases h with ⟨h1,h2,_⟩ | ⟨_,h2,_⟩ | ⟨_,_,h2,_⟩ | ⟨_,_,_,_,h3⟩ | ⟨_,_,_,l',h2,h3⟩
 ·exact absurd (h2.uni h0) h1
 ·exact absurd hk h2
 ·omega
 ·exact h3
 ·rw [hl] at h2; cases h2
theorem PlS.long {x : SgX} {ms : List Nat} {X : Int} {r : List Int} (h : PlS p nA bs N gs e s x ms X r) (h0 : ChkN p nA bs N gs e s 0) (hk : KeepS (toS p N gs) (acA bs) nA e s x) (hm : 1024 < ms.length) : X = 3 ∧ r = [] := by
 rcases h with ⟨h1,h2,_⟩ | ⟨_,h2,_⟩ | ⟨_,_,_,h3⟩ | ⟨_,_,h2,_⟩ | ⟨_,_,h2,_⟩
 ·exact absurd (h2.uni h0) h1
 ·exact absurd hk h2
 ·exact h3
 ·omega
 ·omega
end
theorem q3T (w : World) :
  SgW (((w.alloc (.cells #[.int .i64 (-1),.int .i64 (-1),.int .i64 0] 3)).alloc (.cells #[.slice none 0 0,.slice none 0 0,.slice none 0 0] 31)).alloc (.cells #[.int .u8 0,.int .u8 0,.int .u8 0] 27))
   (some ⟨w.heap.size,0,none⟩) 3 3 (some ⟨w.heap.size + 1,0,none⟩) 3 3 (some ⟨w.heap.size + 1 + 1,0,none⟩) 3 3 unT ∧
  Below w.heap.size w (((w.alloc (.cells #[.int .i64 (-1),.int .i64 (-1),.int .i64 0] 3)).alloc (.cells #[.slice none 0 0,.slice none 0 0,.slice none 0 0] 31)).alloc (.cells #[.int .u8 0,.int .u8 0,.int .u8 0] 27)) := by
 have e : ∀ (w : World) (o : Obj),(w.alloc o).heap.size = w.heap.size + 1 := fun w o => by simp
 have b1 := zlitP w [-1,-1,0] (by decide)
 obtain ⟨w1,hw1⟩ : ∃ w1,w1 = w.alloc (.cells #[.int .i64 (-1),.int .i64 (-1),.int .i64 0] 3) := ⟨_,rfl⟩
 have s1 : w1.heap.size = w.heap.size + 1 := by rw [hw1]; exact e _ _
 have b1 : ZSl w1 (some ⟨w.heap.size,0,none⟩) 3 3 [-1,-1,0] := by rw [hw1]; exact b1
 have l1 : Below w.heap.size w w1 := by rw [hw1]; exact qb _ _
 rw [← hw1]
 clear hw1
 obtain ⟨w3,hw3⟩ : ∃ w3,w3 = w1.alloc (.cells #[.slice none 0 0,.slice none 0 0,.slice none 0 0] 31) := ⟨_,rfl⟩
 have s3 : w3.heap.size = w.heap.size + 1 + 1 := by rw [hw3,e,s1]
 have h3 : w3.heap[w1.heap.size]? = some (.cells #[.slice none 0 0,.slice none 0 0,.slice none 0 0] 31) := by rw [hw3]; exact (MapKept.heap_alloc w1 _).1
 have l3 : Below w1.heap.size w1 w3 := by rw [hw3]; exact qb _ _
 rw [← hw3]
 clear hw3
 rw [s1] at h3
 have nl : ∀ w,LtC w none 0 0 [] := fun w => qK
 have b3 : LlSl w3 (some ⟨w.heap.size + 1,0,none⟩) 3 3 [⟨none,0,0,[]⟩,⟨none,0,0,[]⟩,⟨none,0,0,[]⟩] := by
  refine ⟨rfl,Nat.le_refl _,by decide,fun e => (by cases e),fun x hx k hk => ?_,fun r hr => ?_⟩
  ·injection hx with hx; subst hx
   have hk3 : k < 3 := hk
   rw [qf,Nat.zero_add]
   match k,hk3 with
   | 0,_ => exact q8 h3 0
   | 1,_ => exact q8 h3 1
   | 2,_ => exact q8 h3 2
  ·simp at hr
   subst hr
   exact ⟨nl _,fun z hz => by cases hz⟩
 have b4 := qs w3 [0,0,0] (by decide)
 rw [s3] at b4
 have l4 : Below w3.heap.size w3 (w3.alloc (.cells #[.int .u8 0,.int .u8 0,.int .u8 0] 27)) := qb _ _
 refine ⟨⟨(b1.up l3).up l4,fun z hz => ?_,⟨_,b3.up l4,rfl⟩,b4,fun z hz => ?_⟩,q9 (q9 l1 l3) l4⟩
 ·simp [unT] at hz
  rcases hz with rfl | rfl <;> exact ⟨by decide,by decide⟩
 ·simp [unT] at hz; omega
theorem q1I (HS : Hid StgC) (b1 : Option Addr) (d1 : Nat) (b2 : Option Addr) (d2 : Nat) (b3 : Option Addr) (d3 : Nat) (w : World) (hX : AuX w b1 3 d1 b2 3 d2 b3 3 d3 uxB uxG uxN) (aR : Option Addr) (nR cR : Nat) (aP : Option Addr) (nP cP : Nat) (aC : Option Addr) (nC cC : Nat) (u : SgX) (hU : SgW w aR nR cR aP nP cP aC nC cC u) (aM : Option Addr) (nM cM : Nat) (ms : List Nat) (hM : LtC w aM nM cM ms) (hms : ∀ z ∈ ms,z < 256) (Z : Int) (hZ : ∀ X r,PlS 2 3 uxB uxN uxG 1 2 u ms X r → X = Z ∧ r = []) :
  Calls Try.prog 17 #[.agg #[.int .i64 2,.slice b1 3 d1,.slice b2 3 d2,.slice b3 3 d3],.agg #[.int .u8 1,.int .u8 2],.agg #[.bool u.wins,.slice aR nR cR,.slice aP nP cP,.slice aC nC cC],.slice aM nM cM] w fun e w' => Below w.heap.size w w' ∧ ∃ a c,e = .returned (.tuple #[.slice a 0 c,.int .i64 Z]) :=
 (HS.out.play 2 b1 3 d1 b2 3 d2 b3 3 d3 uxB uxN uxG 1 2 aR nR cR aP nP cP aC nC cC u aM nM cM ms w hX.bo hX.nd hX.zs q1u (by decide) (by decide) hU hM hms).mono fun e w' ⟨h1,a,c,X,r,h2,h3,_⟩ => by
  obtain ⟨rfl,rfl⟩ := hZ X r h3.out
  exact ⟨h1,a,c,h2⟩
theorem q3B (HS : Hid StgC) (b1 : Option Addr) (d1 : Nat) (b2 : Option Addr) (d2 : Nat) (b3 : Option Addr) (d3 : Nat) (w : World) (hX : AuX w b1 3 d1 b2 3 d2 b3 3 d3 uxB uxG uxN) (aR : Option Addr) (nR cR : Nat) (aP : Option Addr) (nP cP : Nat) (aC : Option Addr) (nC cC : Nat) (hU : SgW w aR nR cR aP nP cP aC nC cC unT) :
  Calls Try.prog 15 #[.agg #[.int .i64 2,.slice b1 3 d1,.slice b2 3 d2,.slice b3 3 d3],.agg #[.int .u8 1,.int .u8 2],.agg #[.bool unT.wins,.slice aR nR cR,.slice aP nP cP,.slice aC nC cC]] w fun e w' => Below w.heap.size w w' ∧ e = .returned (.tuple #[.bool false,.int .i64 0]) :=
 (HS.out.check 2 b1 3 d1 b2 3 d2 b3 3 d3 uxB uxN uxG 1 2 aR nR cR aP nP cP aC nC cC unT w hX.bo hX.nd hX.zs q1u (by decide) (by decide) hU).mono fun e w' ⟨h1,b,X,h2,h3⟩ => by
  obtain ⟨rfl,h4⟩ := h3.out.real (ux_ok ⟨by decide,by decide⟩)
  cases b with
  | true => exact absurd (h4.1 rfl) q4k
  | false => exact ⟨h1,h2⟩
theorem q3C (HS : Hid StgC) (b1 : Option Addr) (d1 : Nat) (b2 : Option Addr) (d2 : Nat) (b3 : Option Addr) (d3 : Nat) (w : World) (hX : AuX w b1 3 d1 b2 3 d2 b3 3 d3 uxB uxG uxN) :
  Calls Try.prog 12 #[.agg #[.int .i64 2,.slice b1 3 d1,.slice b2 3 d2,.slice b3 3 d3],.agg #[.int .u8 0,.int .u8 0]] w fun e w' => Below w.heap.size w w' ∧ ∃ aR nR cR aP nP cP aC nC cC,e = .returned (.tuple #[.agg #[.bool false,.slice aR nR cR,.slice aP nP cP,.slice aC nC cC],.int .i64 13]) :=
 (HS.out.of 2 b1 3 d1 b2 3 d2 b3 3 d3 uxB uxN uxG 0 0 w hX.bo hX.nd hX.zs q1u (by decide) (by decide)).mono fun e w' ⟨h1,aR,nR,cR,aP,nP,cP,aC,nC,cC,X,u,h2,h3,_⟩ => by
  have hk : ChkN 2 3 uxB uxN uxG 0 0 13 := .inr (.inr (.inl ⟨q1v,rfl,fun h => absurd h.2 (by decide),rfl⟩))
  rcases h3.out with ⟨h4,h5,rfl⟩ | ⟨rfl,h5,_⟩
  ·obtain rfl := h5.uni hk
   exact ⟨h1,aR,nR,cR,aP,nP,cP,aC,nC,cC,h2⟩
  ·exact absurd (h5.uni hk) (by decide)
theorem q3P (w : World) (ts : List Nat) (hl : ts.length ≤ 2000) : LtC (w.alloc (.cells (ltV ts).toArray 27)) (some ⟨w.heap.size,0,none⟩) ts.length ts.length ts := by
 have hc := (MapKept.heap_alloc w (.cells (ltV ts).toArray 27)).1
 have had : ∀ k,adOf (some (⟨w.heap.size,0,none⟩ : Addr)) k = ⟨w.heap.size,k,none⟩ := fun k => by simp [adOf,qf]
 refine ⟨by simp,Nat.le_refl _,by unfold maxLen; omega,fun m k w hk hm => qk Try.underlying31 q1p (by simp) k w hk,fun k hk => ?_,fun k hk => by rw [had]; simp,by simp⟩
 rw [had,q8 hc,qh hk]
 simpa using q49 hk
theorem q40 (w : World) (n : Nat) (hn : n ≤ 2000) : LtC (w.alloc (.cells (enc8 (List.replicate n 0)) 27)) (some ⟨w.heap.size,0,none⟩) n n (List.replicate n 0) := by
 have h := q3P w (List.replicate n 0) (by simpa using hn)
 rw [List.length_replicate] at h
 have e : enc8 (List.replicate n 0) = (ltV (List.replicate n 0)).toArray := by simp [enc8,ltV]
 rw [e]
 exact h
theorem q2o (HS : Hid StgC) (w : World) : Calls Try.prog 6 #[] w fun e w' => e = .returned (.bool true) ∧ Below w.heap.size w w' := by
 obtain ⟨Q,hQ⟩ : ∃ Q : Ending → World → Prop,Q = fun e w' => e = .returned (.bool true) ∧ Below w.heap.size w w' := ⟨_,rfl⟩
 have HQ : Hid (∀ w',Below w.heap.size w w' → Q (.returned (.bool true)) w') := fun w' h => by rw [hQ]; exact ⟨rfl,h⟩
 rw [← hQ]
 clear hQ
 have j1 := qy w
 go_enter Try.func6,Try.ntmps6
 go_wp2_with fail
 refine j1.mono ?_
 rintro e w1 ⟨b1,d1,b2,d2,b3,d3,rfl,hX,hb1⟩
 have hX1 := hX.out
 clear j1 hX
 have h3 := qg w1 (.cells #[.int .i64 2,.slice b1 3 d1,.slice b2 3 d2,.slice b3 3 d3] 26 (0,0)) (.cells #[.int .u8 1,.int .u8 2] 29 (0,0)) (.cells #[.int .u8 2,.int .u8 1] 29 (0,0))
 obtain ⟨w2,hw2⟩ : ∃ w2,w2 = ((w1.alloc (.cells #[.int .i64 2,.slice b1 3 d1,.slice b2 3 d2,.slice b3 3 d3] 26 (0,0))).alloc (.cells #[.int .u8 1,.int .u8 2] 29 (0,0))).alloc (.cells #[.int .u8 2,.int .u8 1] 29 (0,0)) := ⟨_,rfl⟩
 have HW2 : Hid _ := hw2
 rw [← hw2] at h3
 obtain ⟨hA,hS,hT,hb2⟩ := h3
 have HB2 : Hid (Below w.heap.size w w2) := q9 hb1.out hb2
 have HC : Hid (∀ w',Below w2.heap.size w2 w' → (w'.cell? ⟨w1.heap.size,0,none⟩ = some (.int .i64 2) ∧ w'.cell? ⟨w1.heap.size,1,none⟩ = some (.slice b1 3 d1) ∧ w'.cell? ⟨w1.heap.size,2,none⟩ = some (.slice b2 3 d2) ∧ w'.cell? ⟨w1.heap.size,3,none⟩ = some (.slice b3 3 d3)) ∧ (w'.cell? ⟨w1.heap.size + 1,0,none⟩ = some (.int .u8 1) ∧ w'.cell? ⟨w1.heap.size + 1,1,none⟩ = some (.int .u8 2)) ∧ (w'.cell? ⟨w1.heap.size + 1 + 1,0,none⟩ = some (.int .u8 2) ∧ w'.cell? ⟨w1.heap.size + 1 + 1,1,none⟩ = some (.int .u8 1)) ∧ AuX w' b1 3 d1 b2 3 d2 b3 3 d3 uxB uxG uxN ∧ Below w.heap.size w w') := fun w' hb => by
  have k1 := (hb.block _ (Array.getElem?_eq_some_iff.1 hA).1).trans hA
  have k2 := (hb.block _ (Array.getElem?_eq_some_iff.1 hS).1).trans hS
  have k3 := (hb.block _ (Array.getElem?_eq_some_iff.1 hT).1).trans hT
  exact ⟨⟨q8 k1 0,q8 k1 1,q8 k1 2,q8 k1 3⟩,⟨q8 k2 0,q8 k2 1⟩,⟨q8 k3 0,q8 k3 1⟩,(hX1.up hb2).up hb,q9 HB2.out hb⟩
 have j2 := q1J HS b1 d1 b2 d2 b3 d3 w2 (HC.out w2 (Below.refl _ _)).2.2.2.1 1 2 (by decide) (by decide) ⟨by decide,by decide⟩ unS un_of
 obtain ⟨⟨c0,c1,c2,c3⟩,⟨s0,s1⟩,_⟩ := HC.out w2 (Below.refl _ _)
 clear hA hS hT hb2 hb1 hX1 hw2
 go_wp2_with (rw [← HW2.out])
 refine j2.mono ?_
 clear HW2 j2 c0 c1 c2 c3 s0 s1
 rintro e w3 ⟨hb,aR,nR,cR,aP,nP,cP,aC,nC,cC,rfl,hU⟩
 obtain ⟨w4,hw4⟩ : ∃ w4,w4 = w3.alloc (.cells #[.bool unS.wins,.slice aR nR cR,.slice aP nP cP,.slice aC nC cC] 33 (0,0)) := ⟨_,rfl⟩
 have hbn : Below w3.heap.size w3 w4 := by rw [hw4]; exact qb _ _
 have hkn : w4.heap[w3.heap.size]? = some (.cells #[.bool unS.wins,.slice aR nR cR,.slice aP nP cP,.slice aC nC cC] 33 (0,0)) := by rw [hw4]; exact (MapKept.heap_alloc w3 _).1
 have HW4 : Hid _ := hw4
 have HX : Hid (∀ w',Below w4.heap.size w4 w' → (w'.cell? ⟨w3.heap.size,0,none⟩ = some (.bool unS.wins) ∧ w'.cell? ⟨w3.heap.size,1,none⟩ = some (.slice aR nR cR) ∧ w'.cell? ⟨w3.heap.size,2,none⟩ = some (.slice aP nP cP) ∧ w'.cell? ⟨w3.heap.size,3,none⟩ = some (.slice aC nC cC)) ∧ SgW w' aR nR cR aP nP cP aC nC cC unS) := fun w' hb => by
  have k1 := (hb.block _ (Array.getElem?_eq_some_iff.1 hkn).1).trans hkn
  exact ⟨⟨q8 k1 0,q8 k1 1,q8 k1 2,q8 k1 3⟩,(hU.up hbn).up hb⟩
 have HB4 : Hid (Below w2.heap.size w2 w4) := q9 hb hbn
 clear hb hbn hkn hw4 hU
 obtain ⟨⟨c0,c1,c2,c3⟩,_,⟨t0,t1⟩,hX4,_⟩ := HC.out w4 HB4.out
 have j := q1J HS b1 d1 b2 d2 b3 d3 w4 hX4 2 1 (by decide) (by decide) ⟨by decide,by decide⟩ unT q5s
 clear hX4
 go_wp2_with (rw [← HW4.out])
 refine j.mono ?_
 clear HW4 j c0 c1 c2 c3 t0 t1
 rintro e w5 ⟨hb,ayR,nyR,cyR,ayP,nyP,cyP,ayC,nyC,cyC,rfl,hU⟩
 obtain ⟨w6,hw6⟩ : ∃ w6,w6 = w5.alloc (.cells #[.bool unT.wins,.slice ayR nyR cyR,.slice ayP nyP cyP,.slice ayC nyC cyC] 33 (0,0)) := ⟨_,rfl⟩
 have hbn : Below w5.heap.size w5 w6 := by rw [hw6]; exact qb _ _
 have hkn : w6.heap[w5.heap.size]? = some (.cells #[.bool unT.wins,.slice ayR nyR cyR,.slice ayP nyP cyP,.slice ayC nyC cyC] 33 (0,0)) := by rw [hw6]; exact (MapKept.heap_alloc w5 _).1
 have HW6 : Hid _ := hw6
 have HY : Hid (∀ w',Below w6.heap.size w6 w' → (w'.cell? ⟨w5.heap.size,0,none⟩ = some (.bool unT.wins) ∧ w'.cell? ⟨w5.heap.size,1,none⟩ = some (.slice ayR nyR cyR) ∧ w'.cell? ⟨w5.heap.size,2,none⟩ = some (.slice ayP nyP cyP) ∧ w'.cell? ⟨w5.heap.size,3,none⟩ = some (.slice ayC nyC cyC)) ∧ SgW w' ayR nyR cyR ayP nyP cyP ayC nyC cyC unT) := fun w' hb => by
  have k1 := (hb.block _ (Array.getElem?_eq_some_iff.1 hkn).1).trans hkn
  exact ⟨⟨q8 k1 0,q8 k1 1,q8 k1 2,q8 k1 3⟩,(hU.up hbn).up hb⟩
 have hb46 : Below w4.heap.size w4 w6 := q9 hb hbn
 have HB6 : Hid (Below w2.heap.size w2 w6) := q9 HB4.out hb46
 have HB46 : Hid (Below w4.heap.size w4 w6) := hb46
 clear hb hbn hkn hw6 hU hb46
 have hlit := q3T w6
 obtain ⟨w7,hw7⟩ : ∃ w7,w7 = ((w6.alloc (.cells #[.int .i64 (-1),.int .i64 (-1),.int .i64 0] 3)).alloc (.cells #[.slice none 0 0,.slice none 0 0,.slice none 0 0] 31)).alloc (.cells #[.int .u8 0,.int .u8 0,.int .u8 0] 27) := ⟨_,rfl⟩
 rw [← hw7] at hlit
 obtain ⟨hV,hb7⟩ := hlit
 have HW7 : Hid _ := hw7
 obtain ⟨w8,hw8⟩ : ∃ w8,w8 = w7.alloc (.cells #[.bool false,.slice (some ⟨w6.heap.size,0,none⟩) 3 3,.slice (some ⟨w6.heap.size + 1,0,none⟩) 3 3,.slice (some ⟨w6.heap.size + 1 + 1,0,none⟩) 3 3] 33 (0,0)) := ⟨_,rfl⟩
 have hb8 : Below w7.heap.size w7 w8 := by rw [hw8]; exact qb _ _
 have hk8 : w8.heap[w7.heap.size]? = some (.cells #[.bool false,.slice (some ⟨w6.heap.size,0,none⟩) 3 3,.slice (some ⟨w6.heap.size + 1,0,none⟩) 3 3,.slice (some ⟨w6.heap.size + 1 + 1,0,none⟩) 3 3] 33 (0,0)) := by rw [hw8]; exact (MapKept.heap_alloc w7 _).1
 have HW8 : Hid _ := hw8
 have HV : Hid (∀ w',Below w8.heap.size w8 w' → (w'.cell? ⟨w7.heap.size,0,none⟩ = some (.bool false) ∧ w'.cell? ⟨w7.heap.size,1,none⟩ = some (.slice (some ⟨w6.heap.size,0,none⟩) 3 3) ∧ w'.cell? ⟨w7.heap.size,2,none⟩ = some (.slice (some ⟨w6.heap.size + 1,0,none⟩) 3 3) ∧ w'.cell? ⟨w7.heap.size,3,none⟩ = some (.slice (some ⟨w6.heap.size + 1 + 1,0,none⟩) 3 3)) ∧ SgW w' (some ⟨w6.heap.size,0,none⟩) 3 3 (some ⟨w6.heap.size + 1,0,none⟩) 3 3 (some ⟨w6.heap.size + 1 + 1,0,none⟩) 3 3 unT) := fun w' hb => by
  have k1 := (hb.block _ (Array.getElem?_eq_some_iff.1 hk8).1).trans hk8
  exact ⟨⟨q8 k1 0,q8 k1 1,q8 k1 2,q8 k1 3⟩,(hV.up hb8).up hb⟩
 have hb68 : Below w6.heap.size w6 w8 := q9 hb7 hb8
 have HB8 : Hid (Below w2.heap.size w2 w8) := q9 HB6.out hb68
 have HB48 : Hid (Below w4.heap.size w4 w8) := q9 HB46.out hb68
 have HB68 : Hid (Below w6.heap.size w6 w8) := hb68
 have hM := qs w8 [1,0,1] (by decide)
 obtain ⟨w9,hw9⟩ : ∃ w9,w9 = w8.alloc (.cells #[.int .u8 1,.int .u8 0,.int .u8 1] 27) := ⟨_,rfl⟩
 have hM : LtC w9 (some ⟨w8.heap.size,0,none⟩) 3 3 [1,0,1] := by rw [hw9]; exact hM
 have hb9 : Below w8.heap.size w8 w9 := by rw [hw9]; exact qb _ _
 have HW9 : Hid _ := hw9
 have HB9 : Hid (Below w8.heap.size w8 w9) := hb9
 obtain ⟨⟨c0,c1,c2,c3⟩,_,⟨t0,t1⟩,_⟩ := HC.out w8 HB8.out
 obtain ⟨⟨y0,y1,y2,y3⟩,_⟩ := HY.out w8 HB68.out
 have j := q1Z HS b1 d1 b2 d2 b3 d3 w9 (HC.out w9 (q9 HB8.out hb9)).2.2.2.1 2 1 (by decide) (by decide) ⟨by decide,by decide⟩ _ _ _ _ _ _ _ _ _ unT (HY.out w9 (q9 HB68.out hb9)).2 q4K _ 3 3 [1,0,1] hM (fun z hz => by simp at hz; omega) (by decide) [0,0,1,1] q4L
 clear hw7 hV hb7 hw8 hb8 hk8 hb68 hM hb9 hw9 HB46 HB4 HB6
 go_wp2_with (first | rw [← HW9.out] | rw [← HW8.out] | rw [← HW7.out] | rw [← HW6.out])
 refine j.mono ?_
 rintro e w10 ⟨hb,pa,pc,rfl,hz⟩
 clear j c0 c1 c2 c3 t0 t1 y0 y1 y2 y3 HW6 HW7 HW8 HW9
 have HB10 : Hid (Below w8.heap.size w8 w10) := q9 HB9.out hb
 have HP : Hid (∀ w',Below w10.heap.size w10 w' → ZSl w' pa 4 pc [0,0,1,1]) := fun w' hb => IntSl.up hz hb
 clear hb hz HB9
 have HC8 : Hid _ := fun w' (hb : Below w8.heap.size w8 w') => HC.out w' (q9 HB8.out hb)
 have HX8 : Hid _ := fun w' (hb : Below w8.heap.size w8 w') => HX.out w' (q9 HB48.out hb)
 have HY8 : Hid _ := fun w' (hb : Below w8.heap.size w8 w') => HY.out w' (q9 HB68.out hb)
 clear HC HX HY HB8 HB48 HB68 HB2
 have hM := qs w10 [2] (by decide)
 obtain ⟨w11,hw11⟩ : ∃ w11,w11 = w10.alloc (.cells #[.int .u8 2] 27) := ⟨_,rfl⟩
 have hM : LtC w11 (some ⟨w10.heap.size,0,none⟩) 1 1 [2] := by rw [hw11]; exact hM
 have hb11 : Below w10.heap.size w10 w11 := by rw [hw11]; exact qb _ _
 have HW11 : Hid _ := hw11
 have HB11 : Hid (Below w8.heap.size w8 w11) := q9 HB10.out hb11
 have HB1011 : Hid (Below w10.heap.size w10 w11) := hb11
 obtain ⟨⟨c0,c1,c2,c3⟩,⟨s0,s1⟩,_⟩ := HC8.out w10 HB10.out
 obtain ⟨⟨x0,x1,x2,x3⟩,_⟩ := HX8.out w10 HB10.out
 have j := q1I HS b1 d1 b2 d2 b3 d3 w11 (HC8.out w11 HB11.out).2.2.2.1 _ _ _ _ _ _ _ _ _ unS (HX8.out w11 HB11.out).2 _ 1 1 [2] hM (fun z hz => by simp at hz; omega) 14 (fun X r h => h.no (ux_ok ⟨by decide,by decide⟩) q2v (by decide) q5f)
 clear hM hw11 hb11
 go_wp2_with (rw [← HW11.out])
 refine j.mono ?_
 rintro e w12 ⟨hb,qa,qc,rfl⟩
 clear j c0 c1 c2 c3 s0 s1 x0 x1 x2 x3 HW11
 have HB12 : Hid (Below w8.heap.size w8 w12) := q9 HB11.out hb
 have HQ12 : Hid (Below w10.heap.size w10 w12) := q9 HB1011.out hb
 clear hb HB11 HB1011 HB10
 obtain ⟨⟨c0,c1,c2,c3⟩,⟨s0,s1⟩,_,hXa,_⟩ := HC8.out w12 HB12.out
 obtain ⟨⟨y0,y1,y2,y3⟩,hY⟩ := HY8.out w12 HB12.out
 have j := q3B HS b1 d1 b2 d2 b3 d3 w12 hXa _ _ _ _ _ _ _ _ _ hY
 clear hXa hY
 go_wp2_with fail
 refine j.mono ?_
 rintro e w13 ⟨hb,rfl⟩
 clear j c0 c1 c2 c3 s0 s1 y0 y1 y2 y3
 have HB13 : Hid (Below w8.heap.size w8 w13) := q9 HB12.out hb
 have HQ13 : Hid (Below w10.heap.size w10 w13) := q9 HQ12.out hb
 clear hb HB12 HQ12
 obtain ⟨⟨c0,c1,c2,c3⟩,⟨s0,s1⟩,_,hXa,_⟩ := HC8.out w13 HB13.out
 obtain ⟨⟨y0,y1,y2,y3⟩,hY⟩ := HY8.out w13 HB13.out
 have j := q1I HS b1 d1 b2 d2 b3 d3 w13 hXa _ _ _ _ _ _ _ _ _ unT hY none 0 0 [] qK (fun z hz => by cases hz) 340 (fun X r h => h.not (ux_ok ⟨by decide,by decide⟩) q4k)
 clear hXa hY
 go_wp2_with fail
 refine j.mono ?_
 rintro e w14 ⟨hb,ra,rc,rfl⟩
 clear j c0 c1 c2 c3 s0 s1 y0 y1 y2 y3
 have HB14 : Hid (Below w8.heap.size w8 w14) := q9 HB13.out hb
 have HQ14 : Hid (Below w10.heap.size w10 w14) := q9 HQ13.out hb
 clear hb HB13 HQ13
 go_upto_region 9 with fail
 go_cut [17,18] (fun u v wx => ∃ a c,u = .slice a 0 c ∧ v = .int .i64 3 ∧ Hid (Below w14.heap.size w14 wx))
 case first =>
  obtain ⟨M,hM⟩ : ∃ M,M = Obj.cells (enc8 (List.replicate 1025 0)) 27 (0,0) := ⟨_,rfl⟩
  have hmk := fun w' => q37 1025 1025 1025 1025 rfl rfl (Nat.le_refl _) (by decide) w'
  have hrp := q40 w14 1025 (by decide)
  rw [← hM] at hmk hrp
  clear hM
  obtain ⟨L,hL⟩ : ∃ L : List Nat,L = List.replicate 1025 0 := ⟨_,rfl⟩
  have HL : Hid ((∀ z ∈ L,z < 256) ∧ 1024 < L.length) := ⟨fun z hz => by rw [hL] at hz; rw [List.eq_of_mem_replicate hz]; decide,by rw [hL,List.length_replicate]; decide⟩
  rw [← hL] at hrp
  clear hL
  have HJ : Hid (∀ w',Below w14.heap.size w14 w' → ∀ g,LtC w' (some ⟨g,0,none⟩) 1025 1025 L → Calls Try.prog 17 #[.agg #[.int .i64 2,.slice b1 3 d1,.slice b2 3 d2,.slice b3 3 d3],.agg #[.int .u8 1,.int .u8 2],.agg #[.bool unS.wins,.slice aR nR cR,.slice aP nP cP,.slice aC nC cC],.slice (some ⟨g,0,none⟩) 1025 1025] w' fun e w'' => Below w'.heap.size w' w'' ∧ ∃ a c,e = .returned (.tuple #[.slice a 0 c,.int .i64 3])) := fun w' hb g hM => by
   have hb8 := q9 HB14.out hb
   exact q1I HS b1 d1 b2 d2 b3 d3 w' (HC8.out w' hb8).2.2.2.1 _ _ _ _ _ _ _ _ _ unS (HX8.out w' hb8).2 _ 1025 1025 _ hM HL.out.1 3 (fun X r h => h.long (ux_ok ⟨by decide,by decide⟩) q2v HL.out.2)
  have hbM : Below w14.heap.size w14 (w14.alloc M) := qb _ _
  have hbD : Below w14.heap.size w14 (w14.alloc M).drew := hbM.drew
  have hlM : LtC (w14.alloc M).drew (some ⟨w14.heap.size,0,none⟩) 1025 1025 L := IntSl.up hrp ((Below.refl _ _).drew)
  obtain ⟨⟨c0,c1,c2,c3⟩,⟨s0,s1⟩,_⟩ := HC8.out w14 HB14.out
  obtain ⟨⟨x0,x1,x2,x3⟩,_⟩ := HX8.out w14 HB14.out
  obtain ⟨⟨e0,e1,e2,e3⟩,⟨f0,f1⟩,_⟩ := HC8.out _ (q9 HB14.out hbM)
  obtain ⟨⟨h0,h1,h2,h3⟩,_⟩ := HX8.out _ (q9 HB14.out hbM)
  have jP := HJ.out _ hbD _ hlM
  have HBD : Hid _ := hbD
  clear hbM hbD hlM HJ hrp HL HC8 HX8 HY8 HV HP HQ14 HB14 HQ
  go_region_law (first
   | (revert jP; intro jP; go_simp; (with_reducible refine jP.mono ?_); rintro e wz ⟨hbz,ta,tc,rfl⟩; have HZ : Hid (Below w14.heap.size w14 wz) := q9 HBD.out hbz; clear hbz; dsimp only)
   | fail)
  all_goals
   go_wp2_with fail
   go_meet
   exact ⟨_,_,rfl,rfl,HZ⟩
 case rest =>
 obtain ⟨ta,tc,rfl,rfl,HB15⟩ := hcut
 generalize wc = w15 at *
 have HB15w : Hid (Below w8.heap.size w8 w15) := q9 HB14.out HB15.out
 have HQ15 : Hid (Below w10.heap.size w10 w15) := q9 HQ14.out HB15.out
 clear HB14 HQ14 HB15
 obtain ⟨⟨c0,c1,c2,c3⟩,_,_,hXa,_⟩ := HC8.out w15 HB15w.out
 have j := q3C HS b1 d1 b2 d2 b3 d3 w15 hXa
 clear hXa
 go_wp2_with fail
 refine j.mono ?_
 rintro e w16 ⟨hb,zR,mR,eR,zP,mP,eP,zC,mC,eC,rfl⟩
 clear j c0 c1 c2 c3
 obtain ⟨w17,hw17⟩ : ∃ w17,w17 = w16.alloc (.cells #[.bool false,.slice zR mR eR,.slice zP mP eP,.slice zC mC eC] 33 (0,0)) := ⟨_,rfl⟩
 have hb17 : Below w16.heap.size w16 w17 := by rw [hw17]; exact qb _ _
 have HW17 : Hid _ := hw17
 have HB17 : Hid (Below w8.heap.size w8 w17) := q9 HB15w.out (q9 hb hb17)
 have HQ17 : Hid (Below w10.heap.size w10 w17) := q9 HQ15.out (q9 hb hb17)
 clear hb hw17 hb17 HB15w HQ15
 have j := qE HS w17
 go_wp2_with (rw [← HW17.out])
 refine j.mono ?_
 rintro e w18 ⟨rfl,hb⟩
 have HB18 : Hid (Below w8.heap.size w8 w18) := q9 HB17.out hb
 have HQ18 : Hid (Below w10.heap.size w10 w18) := q9 HQ17.out hb
 clear j hb HB17 HQ17 HW17
 obtain ⟨⟨y0,y1,y2,y3⟩,hY⟩ := HY8.out w18 HB18.out
 obtain ⟨⟨v0,v1,v2,v3⟩,hV⟩ := HV.out w18 HB18.out
 have j := q1j ayR nyR cyR ayP nyP cyP ayC nyC cyC _ _ _ _ _ _ _ _ _ unT w18 hY hV
 clear hY hV
 go_wp2_with fail
 refine j.mono ?_
 rintro e w19 ⟨rfl,hb⟩
 clear j y0 y1 y2 y3 v0 v1 v2 v3
 obtain ⟨w20,hw20⟩ : ∃ w20,w20 = w19.alloc (.cells #[.int .i64 0,.int .i64 0,.int .i64 1,.int .i64 1] 3) := ⟨_,rfl⟩
 have hl20 : ZSl w20 (some ⟨w19.heap.size,0,none⟩) 4 4 [0,0,1,1] := by rw [hw20]; exact zlitP w19 [0,0,1,1] (by decide)
 have hb20 : Below w19.heap.size w19 w20 := by rw [hw20]; exact qb _ _
 have HW20 : Hid _ := hw20
 have HB20 : Hid (Below w8.heap.size w8 w20) := q9 HB18.out (q9 hb hb20)
 have j3 := ZSl.same (HP.out w20 (q9 HQ18.out (q9 hb hb20))) hl20
 clear hb hw20 hl20 hb20 HB18 HQ18 HP
 go_wp2_with (rw [← HW20.out])
 refine j3.mono ?_
 rintro e w21 ⟨rfl,hb⟩
 have HE : Hid _ := HQ.out w21 (HC8.out w21 (q9 HB20.out hb)).2.2.2.2
 clear j3 hb HW20 HB20 HQ HC8 HX8 HY8 HV
 go_wp2
 exact HE.out
end Go.Proofs.Ythhbhadcjofelaa
