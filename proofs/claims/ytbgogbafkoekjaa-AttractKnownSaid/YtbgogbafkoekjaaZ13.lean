/- Texts of the proof, put together: what it uses. -/
import Derived.Deep.RegionLaw
import Derived.Test.YtbgogbafkoekjaaZ08
set_option maxRecDepth 100000
set_option maxHeartbeats 16000000
namespace Go.Proofs.Ytbgogbafkoekjaa
open Go.RowKit Go.Maps Go.Sort
theorem q2I {B q : Nat} (hB : B < 256) : (255 - B).testBit q = (decide (q < 8) && !B.testBit q) := by
 have h := Nat.testBit_two_pow_sub_succ (x := B) (n := 8) hB q
 rw [show 2 ^ 8 - (B + 1) = 255 - B by omega] at h
 exact h
theorem q46 {x q : Nat} (hx : x < 256) (hq : 8 ≤ q) : x.testBit q = false := Nat.testBit_lt_two_pow (Nat.lt_of_lt_of_le hx (show 2 ^ 8 ≤ 2 ^ q from Nat.pow_le_pow_right (by decide) hq))
theorem q2W {P x y B : Nat} (hx : x < 256) (hBx : B &&& x = B) (hs : SplitN P x y) : SplitN P (x &&& (255 - B)) (y ||| B) ∧ (∀ l,l &&& (x &&& (255 - B)) = l → l &&& x = l) ∧ ∀ l,l &&& y = l → l &&& (y ||| B) = l := by
 have hB : B < 256 := by have : B ≤ x := qg hBx; omega
 have tB : ∀ q,B.testBit q = true → x.testBit q = true := fun q h => by
  have h2 := congrArg (fun z => z.testBit q) hBx
  simp only [Nat.testBit_and,h,Bool.true_and] at h2
  exact h2
 have t1 : ∀ q,x.testBit q = true → y.testBit q = false := fun q h => by
  have h2 := congrArg (fun z => z.testBit q) hs.1
  simp only [Nat.testBit_and,h,Bool.true_and,Nat.zero_testBit] at h2
  exact h2
 refine ⟨⟨Nat.eq_of_testBit_eq fun q => ?_,?_⟩,fun l h => ?_,fun l h => ?_⟩
 ·simp only [Nat.testBit_and,Nat.testBit_or,Nat.zero_testBit,q2I hB]
  cases h1 : x.testBit q with
  | false => rfl
  | true =>
   rw [t1 q h1]
   cases B.testBit q <;> simp
 ·rw [← hs.2]
  refine Nat.eq_of_testBit_eq fun q => ?_
  simp only [Nat.testBit_and,Nat.testBit_or,q2I hB]
  cases h1 : x.testBit q with
  | false =>
   have : B.testBit q = false := by
    cases h2 : B.testBit q with
    | false => rfl
    | true => rw [tB q h2] at h1; cases h1
   rw [this]; simp
  | true =>
   have hq : q < 8 := by
    refine Nat.lt_of_not_le fun h2 => ?_
    rw [q46 hx h2] at h1; cases h1
   rw [decide_eq_true hq]
   cases B.testBit q <;> cases y.testBit q <;> rfl
 ·refine Nat.eq_of_testBit_eq fun q => ?_
  have h2 := congrArg (fun z => z.testBit q) h
  simp only [Nat.testBit_and] at h2 ⊢
  cases h3 : l.testBit q with
  | false => rfl
  | true =>
   rw [h3,Bool.true_and] at h2
   rw [Bool.true_and]
   cases h4 : x.testBit q with
   | true => rfl
   | false => rw [h4] at h2; cases h2
 ·refine Nat.eq_of_testBit_eq fun q => ?_
  have h2 := congrArg (fun z => z.testBit q) h
  simp only [Nat.testBit_and,Nat.testBit_or] at h2 ⊢
  cases h3 : l.testBit q with
  | false => rfl
  | true =>
   rw [h3,Bool.true_and] at h2
   rw [h2]; rfl
theorem q3n {p : Int} {N : List Gd} {gs : List Int} {x y x' y' : Nat} (h1 : ∀ l,l &&& x' = l → l &&& x = l) (h2 : ∀ l,l &&& y = l → l &&& y' = l) (q : Nat) : ∀ row' ∈ gfA p N gs x' y' q,∃ row ∈ gfA p N gs x y q,∀ t ∈ row,t ∈ row' := fun row' hr => by
 obtain ⟨a,ha,rfl⟩ := List.mem_map.1 hr
 obtain ⟨ha1,ha2⟩ := qh.1 ha
 refine ⟨_,List.mem_map.2 ⟨a,qh.2 ⟨ha1,h1 a ha2⟩,rfl⟩,fun t ht => ?_⟩
 obtain ⟨b,hb,rfl⟩ := List.mem_map.1 ht
 obtain ⟨hb1,hb2⟩ := qh.1 hb
 exact List.mem_map.2 ⟨b,qh.2 ⟨hb1,h2 b hb2⟩,rfl⟩
theorem q30 (k : Int) : ∃ ii : Nat,ii < 8 ∧ ∀ w,Calls Try.prog 25 #[.int .i64 k,.int .i64 8] w fun e w' => e = .returned (.int .i64 (ii : Int)) ∧ w' = w := by
 have b1 : k.tmod 8 < 8 := Int.tmod_lt_of_pos k (by omega)
 have b2 : -8 < k.tmod 8 := Int.lt_tmod_of_pos k (by omega)
 by_cases h0 : k.tmod 8 < 0
 ·obtain ⟨m,hm⟩ : ∃ m : Nat,k.tmod 8 + 8 = (m : Int) := ⟨(k.tmod 8 + 8).toNat,(Int.toNat_of_nonneg (by omega)).symm⟩
  refine ⟨m,by omega,fun w => ?_⟩
  have hw : IntKind.i64.wrap (k.tmod 8) = k.tmod 8 := by rw [IntKind.wrap_i64]; omega
  have hw2 : IntKind.i64.wrap (k.tmod 8 + 8) = k.tmod 8 + 8 := by rw [IntKind.wrap_i64]; omega
  have HM : Hid _ := hm
  have hd : decide (k.tmod 8 < 0) = true := decide_eq_true h0
  clear hm
  go_enter Try.func25,Try.ntmps25
  go_wp2
  go_ret
  exact ⟨by show Ending.returned (Value.int IntKind.i64 (k.tmod 8 + 8)) = _; rw [HM.out],rfl⟩
 ·obtain ⟨m,hm⟩ : ∃ m : Nat,k.tmod 8 = (m : Int) := ⟨(k.tmod 8).toNat,(Int.toNat_of_nonneg (by omega)).symm⟩
  refine ⟨m,by omega,fun w => ?_⟩
  have hw : IntKind.i64.wrap (k.tmod 8) = (m : Int) := by rw [hm,IntKind.wrap_i64]; omega
  have hd : decide ((m : Int) < 0) = false := by simp
  clear h0
  rw [hm] at hw b1 b2
  go_enter Try.func25,Try.ntmps25
  go_wp2
  go_ret
  exact ⟨rfl,rfl⟩
theorem q3V {ii x : Nat} (hi : ii < 8) (hx : x < 256) : bits .and .u8 ((2 : Int) ^ ii % 256) (x : Int) = ((2 ^ ii &&& x : Nat) : Int) := by
 have h1 : 2 ^ ii ≤ 2 ^ 7 := Nat.pow_le_pow_right (by decide) (by omega)
 have h3 : ((2 ^ ii : Nat) : Int) = (2 : Int) ^ ii := by simp
 rw [← h3]
 clear h3
 generalize 2 ^ ii = n at *
 have h4 : (n : Int) % 256 = (n : Int) := by have : n ≤ 128 := h1; omega
 rw [h4]
 exact u8_and_nat n x (by have : n ≤ 128 := h1; omega) hx
theorem q1M (HB : Hid BrdC) (HA : Hid AttC) (p : Int) (aA : Option Addr) (nA cA : Nat) (aG : Option Addr) (nG cG : Nat) (aN : Option Addr) (nN cN : Nat) (bs : List Bool) (gs : List Int) (N : List Gd) (x y : Nat) (pp : Int) (w : World) (hB : BoSl w aA nA cA bs) (hG : ZSl w aG nG cG gs) (hN : NdSl w aN nN cN N) (hok : ∀ z ∈ gs,I64 z) (hx : x < 256) (hy : y < 256) :
  Calls Try.prog 5 #[.agg #[.int .i64 p,.slice aA nA cA,.slice aG nG cG,.slice aN nN cN],.agg #[.int .u8 (x : Int),.int .u8 (y : Int)],.int .i64 pp] w fun e w' => e = .returned (.bool true) ∧ Below w.heap.size w w' := by
 obtain ⟨Q,hQ⟩ : ∃ Q : Ending → World → Prop,Q = fun e w' => e = .returned (.bool true) ∧ Below w.heap.size w w' := ⟨_,rfl⟩
 have HQ : Hid (∀ w',Below w.heap.size w w' → Q (.returned (.bool true)) w') := fun w' h => by rw [hQ]; exact ⟨rfl,h⟩
 rw [← hQ]
 clear hQ
 obtain ⟨w1,hw1⟩ : ∃ w1,w1 = w.alloc (.cells #[.int .i64 p,.slice aA nA cA,.slice aG nG cG,.slice aN nN cN] 26 (0,0)) := ⟨_,rfl⟩
 have hb1 : Below w.heap.size w w1 := by rw [hw1]; exact q8 _ _
 have hA1 : AuB w1 w.heap.size p aA nA cA aG nG cG aN nN cN := by rw [hw1]; exact qb w p aA nA cA aG nG cG aN nN cN
 have HW1 : Hid _ := hw1
 obtain ⟨w2,hw2⟩ : ∃ w2,w2 = w1.alloc (.cells #[.int .u8 (x : Int),.int .u8 (y : Int)] 29 (0,0)) := ⟨_,rfl⟩
 have hb2 : Below w1.heap.size w1 w2 := by rw [hw2]; exact q8 _ _
 have hk2 : w2.heap[w1.heap.size]? = some (.cells #[.int .u8 (x : Int),.int .u8 (y : Int)] 29 (0,0)) := by rw [hw2]; exact (MapKept.heap_alloc w1 _).1
 have HW2 : Hid _ := hw2
 have hb02 : Below w.heap.size w w2 := q6 hb1 hb2
 have HC : Hid (∀ w',Below w2.heap.size w2 w' → AuB w' w.heap.size p aA nA cA aG nG cG aN nN cN ∧ w'.heap[w1.heap.size]? = some (.cells #[.int .u8 (x : Int),.int .u8 (y : Int)] 29 (0,0)) ∧ BoSl w' aA nA cA bs ∧ NdSl w' aN nN cN N ∧ ZSl w' aG nG cG gs ∧ Below w.heap.size w w') := fun w' hb =>
  ⟨(hA1.up hb2).up hb,(hb.block _ (Array.getElem?_eq_some_iff.1 hk2).1).trans hk2,(hB.up hb02).up hb,(hN.up hb02).up hb,(hG.up hb02).up hb,q6 hb02 hb⟩
 have HOK : Hid _ := hok
 have HLG0 : Hid (gs.length = nG) := hG.hlen
 clear hB hG hN hok hw1 hb1 hA1 hw2 hb2 hk2 hb02
 have j := qq HA w2
 go_enter Try.func5,Try.ntmps5
 go_wp2_with (first | rw [← HW2.out] | rw [← HW1.out])
 refine j.mono ?_
 rintro e w3 ⟨rfl,hb⟩
 have HB3 : Hid (Below w2.heap.size w2 w3) := hb
 clear j hb HW1 HW2
 obtain ⟨⟨c0,c1,c2,c3⟩,hsp,_⟩ := HC.out w3 HB3.out
 have s0 := q7 hsp 0
 have s1 := q7 hsp 1
 have j := qF p aA nA cA aG nG cG aN nN cN w3
 clear hsp
 by_cases hlg : lgB p nA nG nN = true
 ·rw [hlg] at j
  have HE : Hid (∀ w',Below w3.heap.size w3 w' → Q (.returned (.bool true)) w') := fun w' hb => HQ.out w' (HC.out w' (q6 HB3.out hb)).2.2.2.2.2
  clear hlg HQ
  go_wp2_with fail
  refine j.mono ?_
  rintro e w4 ⟨rfl,hb⟩
  have HF : Hid _ := HE.out w4 hb
  clear j hb HE
  go_wp2
  exact HF.out
 have hlg0 : lgB p nA nG nN = false := by simpa using hlg
 rw [hlg0] at j
 have HLG : Hid _ := q2E hlg0
 clear hlg hlg0
 go_wp2_with fail
 refine j.mono ?_
 rintro e w4 ⟨rfl,hb⟩
 have HB4 : Hid (Below w2.heap.size w2 w4) := q6 HB3.out hb
 clear j hb c0 c1 c2 c3 s0 s1 HB3
 obtain ⟨⟨c0,c1,c2,c3⟩,hsp,hbo,hnd,hzg,_⟩ := HC.out w4 HB4.out
 have s0 := q7 hsp 0
 have s1 := q7 hsp 1
 have j := HB.out.check p aA nA cA aG nG cG aN nN cN bs N gs x y w4 hbo hnd hzg HOK.out hx hy
 clear hsp hbo hnd hzg
 go_wp2_with fail
 refine j.mono ?_
 rintro e w5 ⟨hb,X,rfl,hX⟩
 have HB5 : Hid (Below w2.heap.size w2 w5) := q6 HB4.out hb
 clear j hb c0 c1 c2 c3 s0 s1 HB4
 by_cases hX0 : X = 0
 rotate_left
 ·have HE : Hid _ := HQ.out w5 (HC.out w5 HB5.out).2.2.2.2.2
  have e1 : (X != 0) = true := by simpa using hX0
  clear HQ hX hX0
  go_wp2
  exact HE.out
 subst hX0
 have HX : Hid (ChkN p nA bs N gs x y 0) := hX.out
 clear hX
 obtain ⟨hM,hbz,hsl⟩ := HX.out.okk
 have HM : Hid _ := hM
 have HSL : Hid _ := hsl
 have h1n : 0 < nA := by have := hM.s1; omega
 have hn10 : nA ≤ 10 := by have h2 := hM.s2; have := HLG.out.2.1; omega
 have hnG : nG = nA := HLG0.out.symm.trans hM.len
 subst hnG
 clear hM hsl hbz
 obtain ⟨⟨c0,c1,c2,c3⟩,hsp,hbo,hnd,hzg,_⟩ := HC.out w5 HB5.out
 have s0 := q7 hsp 0
 have s1 := q7 hsp 1
 have n0 := cell_regrown s0
 obtain ⟨ii,hi8,jp⟩ := q30 pp
 have cS : ∀ dd oo,Calls Try.prog 25 #[.int .i64 pp,.int .i64 8] (grow (redrawn w5 dd) oo) fun e w'' => e = .returned (.int .i64 (ii : Int)) ∧ ∃ p : Regrown,w'' = grow (redrawn w5 p.d) p.os := fun dd oo => by
  refine (jp _).mono ?_
  rintro e w'' ⟨rfl,rfl⟩
  exact ⟨rfl,regrown_of_below (below_regrown w5 dd oo)⟩
 have hbit := q3V hi8 hx
 have HE5 : Hid (∀ dd oo,Below w2.heap.size w2 (grow (redrawn w5 dd) oo)) := fun dd oo => q6 HB5.out (below_regrown w5 dd oo)
 have hBx : (2 ^ ii &&& x) &&& x = 2 ^ ii &&& x := by rw [Nat.and_assoc,Nat.and_self]
 generalize 2 ^ ii &&& x = B at *
 have hB8 : B < 256 := by have : B ≤ x := qg hBx; omega
 obtain ⟨hs1,hs2,hs3⟩ := q2W hx hBx HSL.out
 have HS1 : Hid _ := hs1
 have hx1 := u8_andNot_nat x B hx hB8
 have hy1 := u8_or_nat y B hy hB8
 have hx2 : x &&& (255 - B) < 256 := Nat.lt_of_le_of_lt Nat.and_le_left hx
 have hy2 : y ||| B < 256 := Nat.or_lt_two_pow (n := 8) hy hB8
 have HSUB : Hid (∀ q,q < nG → ∀ row' ∈ gfA p N gs (x &&& (255 - B)) (y ||| B) q,∃ row ∈ gfA p N gs x y q,∀ t ∈ row,t ∈ row') := fun q _ => q3n hs2 hs3 q
 have HX1 : Hid (ChkN p nG bs N gs (x &&& (255 - B)) (y ||| B) 0) := .inr (.inr (.inr ⟨HM.out,HX.out.okk.2.1,hs1,rfl⟩))
 clear hsp hbo hnd hzg hs1 hs2 hs3 hBx jp s0 s1
 generalize x &&& (255 - B) = x' at *
 generalize y ||| B = y' at *
 clear c0 c1 c2 c3
 go_upto_region 4 with fail
 refine wp_region_quiet_below (by kernel_rfl) (by kernel_rfl) ?_
 repeat (go_big_quiet_step (exact cS _ _))
 refine wpQuiet_nil ?_
 intro _ hw'
 obtain ⟨⟨dq,osq⟩,hw''⟩ := hw'
 subst hw''
 have HB6 : Hid _ := HE5.out dq osq
 generalize grow (redrawn w5 dq) osq = w6 at *
 clear cS n0 HE5 HB5 hbit
 obtain ⟨⟨c0,c1,c2,c3⟩,hsp,hbo,hnd,hzg,_⟩ := HC.out w6 HB6.out
 have s0 := q7 hsp 0
 have s1 := q7 hsp 1
 have j := HA.out.ranks p aA nG cA aG nG cG aN nN cN bs N gs x y w6 hbo hnd hzg HOK.out hx hy
 clear hsp hbo hnd hzg
 go_wp2_with fail
 refine j.mono ?_
 rintro e w7 ⟨hb,ra,rc,X,r,rfl,hr,hz⟩
 obtain ⟨rfl,hrk⟩ := hr.out.real HX.out
 have hrl := hrk.len
 rw [hrl] at hz
 rw [hrl]
 have HRK : Hid (RankA nG (gfA p N gs x y) (acA bs) r) := hrk
 have HZ7 : Hid (ZSl w7 ra nG rc r) := hz.out
 have HB7 : Hid (Below w2.heap.size w2 w7) := q6 HB6.out hb
 clear j hb c0 c1 c2 c3 s0 s1 HB6 hr hrk hrl hz
 obtain ⟨⟨c0,c1,c2,c3⟩,hsp,hbo,hnd,hzg,_⟩ := HC.out w7 HB7.out
 have s0 := q7 hsp 0
 have s1 := q7 hsp 1
 have j := HA.out.ranks p aA nG cA aG nG cG aN nN cN bs N gs x' y' w7 hbo hnd hzg HOK.out hx2 hy2
 clear hsp hbo hnd hzg
 go_wp2_with fail
 refine j.mono ?_
 rintro e w8 ⟨hb,ta,tc,X,t,rfl,hr,hz⟩
 obtain ⟨rfl,htk⟩ := hr.out.real HX1.out
 have htl := htk.len
 rw [htl] at hz
 rw [htl]
 have HIN : Hid (InA nG (gfA p N gs x y)) := qt HM.out HSL.out
 have HMR : Hid (∀ q,q < nG → 0 ≤ r.getD q 0 → 0 ≤ t.getD q 0 ∧ t.getD q 0 ≤ r.getD q 0) := fun q hq h0 => HRK.out.more htk HIN.out HSUB.out hq h0
 have HT8 : Hid (ZSl w8 ta nG tc t) := hz.out
 have HZ8 : Hid (ZSl w8 ra nG rc r) := HZ7.out.up hb
 have HB8 : Hid (Below w2.heap.size w2 w8) := q6 HB7.out hb
 clear j hb c0 c1 c2 c3 s0 s1 HB7 hr htk htl hz HZ7 HRK HSUB hx1 hy1
 have e2 : ((nG : Int) != (nG : Int)) = false := by simp
 go_wp2
 clear e2
 go_loopw [13] (fun i wr => ∃ k : Nat,k ≤ nG ∧ i = .int .i64 (k : Int) ∧ Hid (Below w8.heap.size w8 wr)) (fun i _ => nG - (intOf i).toNat)
 case atStart => exact ⟨0,Nat.zero_le _,rfl,Below.refl _ _⟩
 case round =>
  obtain ⟨k,hk,rfl,HBr⟩ := hrel
  by_cases hlt : k < nG
  ·have e1 : decide ((k : Int) < (nG : Int)) = true := decide_eq_true (by omega)
   have hzr := HZ8.out.up HBr.out
   have htr := HT8.out.up HBr.out
   have ixk := fun w' => hzr.idx nG k w' hlt (Nat.le_refl _)
   have zk := cell_regrown (hzr.cell k hlt)
   have ixt := fun w' => htr.idx nG k w' hlt (Nat.le_refl _)
   have zt := cell_regrown (htr.cell k hlt)
   have hmr := HMR.out k hlt
   have HE : Hid (∀ dd os,Below w8.heap.size w8 (grow (redrawn wr dd) os)) := fun dd os => q6 HBr.out (below_regrown wr dd os)
   clear hzr htr
   generalize r.getD k 0 = z at *
   generalize t.getD k 0 = u at *
   generalize adOf ra k = ak at *
   obtain ⟨ak1,ak2,ak3⟩ := ak
   generalize adOf ta k = bk at *
   obtain ⟨bk1,bk2,bk3⟩ := bk
   by_cases h0 : 0 ≤ z
   ·obtain ⟨h1,h2⟩ := hmr h0
    have d1 : decide (0 ≤ z) = true := decide_eq_true h0
    have d2 : decide (u < 0) = false := decide_eq_false (by omega)
    have d3 : decide (z < u) = false := decide_eq_false (by omega)
    clear hmr h0 h1 h2
    go_upto_region 12 with fail
    refine wp_region_quiet_below (by kernel_rfl) (by kernel_rfl) ?_
    repeat (go_big_quiet_step (fail))
    refine wpQuiet_nil ?_
    intro _ hw'
    obtain ⟨⟨dq,osq⟩,hw''⟩ := hw'
    subst hw''
    have HI3 : Hid _ := HE.out dq osq
    generalize grow (redrawn wr dq) osq = wx at *
    clear zk zt HE ixk ixt
    go_wp2
    go_roundw
    case rel => exact ⟨k + 1,by omega,by go_num,HI3⟩
    case measure => simp [intOf]; omega
   ·have d1 : decide (0 ≤ z) = false := decide_eq_false h0
    clear hmr h0
    go_upto_region 12 with fail
    refine wp_region_quiet_below (by kernel_rfl) (by kernel_rfl) ?_
    repeat (go_big_quiet_step (fail))
    refine wpQuiet_nil ?_
    intro _ hw'
    obtain ⟨⟨dq,osq⟩,hw''⟩ := hw'
    subst hw''
    have HI3 : Hid _ := HE.out dq osq
    generalize grow (redrawn wr dq) osq = wx at *
    clear zk zt HE ixk ixt
    go_wp2
    go_roundw
    case rel => exact ⟨k + 1,by omega,by go_num,HI3⟩
    case measure => simp [intOf]; omega
  ·obtain rfl : k = nG := by omega
   have e1 : decide ((k : Int) < (k : Int)) = false := by simp
   have HE : Hid _ := HQ.out wr (HC.out wr (q6 HB8.out HBr.out)).2.2.2.2.2
   clear HQ HBr
   go_wp2
   exact HE.out
theorem q2Q (HA : Hid AttC) (b1 : Option Addr) (d1 : Nat) (b2 : Option Addr) (d2 : Nat) (b3 : Option Addr) (d3 : Nat) (w : World) (hX : AuX w b1 3 d1 b2 3 d2 b3 3 d3 uxB uxG uxN) (x y : Nat) (hx : x < 256) (hy : y < 256) (hs : x &&& y = 0 ∧ x ||| y = 3) (z : Int) (r0 : List Int) (h0 : RankA 3 (gfA 2 uxN uxG x y) (acA uxB) (z :: r0)) :
  Calls Try.prog 11 #[.agg #[.int .i64 2,.slice b1 3 d1,.slice b2 3 d2,.slice b3 3 d3],.agg #[.int .u8 (x : Int),.int .u8 (y : Int)]] w fun e w' => Below w.heap.size w w' ∧ e = .returned (.tuple #[.bool (decide (0 ≤ z)),.int .i64 0]) :=
 (HA.out.wins 2 b1 3 d1 b2 3 d2 b3 3 d3 uxB uxN uxG x y w hX.bo hX.nd hX.zs qZ hx hy).mono fun e w' ⟨h1,b,X,h2,h3⟩ => by
  obtain ⟨rfl,rfl⟩ := h3.out.uni (.inr ⟨rfl,ux_ok hs,_,h0,rfl⟩)
  exact ⟨h1,h2⟩
theorem q3k (HA : Hid AttC) (b1 : Option Addr) (d1 : Nat) (b2 : Option Addr) (d2 : Nat) (b3 : Option Addr) (d3 : Nat) (w : World) (hX : AuX w b1 3 d1 b2 3 d2 b3 3 d3 uxB uxG uxN) :
  Calls Try.prog 9 #[.agg #[.int .i64 2,.slice b1 3 d1,.slice b2 3 d2,.slice b3 3 d3],.agg #[.int .u8 1,.int .u8 0]] w fun e w' => Below w.heap.size w w' ∧ ∃ a c,e = .returned (.tuple #[.slice a 0 c,.int .i64 13]) :=
 (HA.out.ranks 2 b1 3 d1 b2 3 d2 b3 3 d3 uxB uxN uxG 1 0 w hX.bo hX.nd hX.zs qZ (by decide) (by decide)).mono fun e w' ⟨h1,a,c,X,r,h2,h3,h4⟩ => by
  have hk : ChkN 2 3 uxB uxN uxG 1 0 13 := .inr (.inr (.inl ⟨q1l,rfl,fun h => absurd h.2 (by decide),rfl⟩))
  obtain ⟨rfl,rfl⟩ := h3.out.uni (.inl ⟨by decide,hk,rfl⟩)
  exact ⟨h1,a,c,h2⟩
theorem q31 (HS : Hid AttS) (b1 : Option Addr) (d1 : Nat) (b2 : Option Addr) (d2 : Nat) (b3 : Option Addr) (d3 : Nat) (w : World) (hX : AuX w b1 3 d1 b2 3 d2 b3 3 d3 uxB uxG uxN) :
  Calls Try.prog 13 #[.agg #[.int .i64 2,.slice b1 3 d1,.slice b2 3 d2,.slice b3 3 d3],.agg #[.int .u8 1,.int .u8 2],.slice none 0 0] w fun e w' => Below w.heap.size w w' ∧ ∃ a c,e = .returned (.tuple #[.slice a 0 c,.int .i64 2]) :=
 (HS.out 2 b1 3 d1 b2 3 d2 b3 3 d3 uxB uxN uxG 1 2 none 0 0 [] w hX.bo hX.nd hX.zs qZ (by decide) (by decide) ⟨rfl,Nat.le_refl _,by decide,fun _ => rfl,fun x hx => (by cases hx)⟩).mono fun e w' ⟨h1,a,c,X,us,h2,h3,h4⟩ => by
  obtain ⟨rfl,rfl⟩ := h3.out.uni (.inr (.inl ⟨ux_ok ⟨by decide,by decide⟩,by decide,rfl,rfl⟩))
  exact ⟨h1,a,c,h2⟩
theorem q1k (HS : Hid AttS) (b1 : Option Addr) (d1 : Nat) (b2 : Option Addr) (d2 : Nat) (b3 : Option Addr) (d3 : Nat) (g : Nat) (w : World) (hX : AuX w b1 3 d1 b2 3 d2 b3 3 d3 uxB uxG uxN) (hW : BoSl w (some ⟨g,0,none⟩) 3 3 [false,false,true]) :
  Calls Try.prog 13 #[.agg #[.int .i64 2,.slice b1 3 d1,.slice b2 3 d2,.slice b3 3 d3],.agg #[.int .u8 1,.int .u8 2],.slice (some ⟨g,0,none⟩) 3 3] w fun e w' => Below w.heap.size w w' ∧ ∃ a c,e = .returned (.tuple #[.slice a 3 c,.int .i64 0]) ∧ BoSl w' a 3 c [true,false,true] :=
 (HS.out 2 b1 3 d1 b2 3 d2 b3 3 d3 uxB uxN uxG 1 2 (some ⟨g,0,none⟩) 3 3 [false,false,true] w hX.bo hX.nd hX.zs qZ (by decide) (by decide) hW).mono fun e w' ⟨h1,a,c,X,us,h2,h3,h4⟩ => by
  have hu : (List.range 3).map (befA (gfA 2 uxN uxG 1 2) (acA [false,false,true])) = [true,false,true] := by decide +kernel
  obtain ⟨rfl,rfl⟩ := h3.out.uni (.inr (.inr ⟨ux_ok ⟨by decide,by decide⟩,rfl,rfl,hu.symm⟩))
  exact ⟨h1,a,c,h2,h4.out⟩
theorem q2P : (Try.prog.info? 29).map (·.size) = some 2 := by kernel_rfl
theorem q1F (g k n : Nat) (hi : k < n) (w' : World) : (Instr.indexAt 54 (.slice (some ⟨g,0,none⟩) n n) (.int .i64 (k : Int))).run Try.prog w' = .ok (.pointer (some ⟨g,2 * k,none⟩)) w' := by
 simp [Instr.indexAt,run_underlying Try.underlying54,asIntOf,q2x q2P,hi,Result.andThen,go_sem,qa,Nat.mul_comm]
def spV : Nat → Nat × Nat × Int
 | 0 => (1,2,1)
 | 1 => (2,1,-1)
 | 2 => (0,3,1)
 | _ => (3,0,-1)
theorem q45 (k : Nat) (hk : k < 4) : (spV k).1 < 256 ∧ (spV k).2.1 < 256 ∧ ((spV k).1 &&& (spV k).2.1 = 0 ∧ (spV k).1 ||| (spV k).2.1 = 3) ∧ RankA 3 (gfA 2 uxN uxG (spV k).1 (spV k).2.1) (acA uxB) [(spV k).2.2,-1,0] := by
 match k,hk with
 | 0,_ => exact ⟨by decide,by decide,⟨by decide,by decide⟩,q2l (.inl ⟨rfl,rfl⟩)⟩
 | 1,_ => exact ⟨by decide,by decide,⟨by decide,by decide⟩,q1D (.inl ⟨rfl,rfl⟩)⟩
 | 2,_ => exact ⟨by decide,by decide,⟨by decide,by decide⟩,q2l (.inr ⟨rfl,rfl⟩)⟩
 | 3,_ => exact ⟨by decide,by decide,⟨by decide,by decide⟩,q1D (.inr ⟨rfl,rfl⟩)⟩
theorem q1m (HA : Hid AttC) (HS : Hid AttS) (w : World) : Calls Try.prog 6 #[] w fun e w' => e = .returned (.bool true) ∧ Below w.heap.size w w' := by
 obtain ⟨Q,hQ⟩ : ∃ Q : Ending → World → Prop,Q = fun e w' => e = .returned (.bool true) ∧ Below w.heap.size w w' := ⟨_,rfl⟩
 have HQ : Hid (∀ w',Below w.heap.size w w' → Q (.returned (.bool true)) w') := fun w' h => by rw [hQ]; exact ⟨rfl,h⟩
 rw [← hQ]
 clear hQ
 obtain ⟨w1,hw1⟩ : ∃ w1,w1 = w.alloc (.cells #[.int .u8 1,.int .u8 2,.int .u8 2,.int .u8 1,.int .u8 0,.int .u8 3,.int .u8 3,.int .u8 0] 29) := ⟨_,rfl⟩
 have hb1 : Below w.heap.size w w1 := by rw [hw1]; exact q8 _ _
 have hk1 : w1.heap[w.heap.size]? = some (.cells #[.int .u8 1,.int .u8 2,.int .u8 2,.int .u8 1,.int .u8 0,.int .u8 3,.int .u8 3,.int .u8 0] 29 (0,0)) := by rw [hw1]; exact (MapKept.heap_alloc w _).1
 have HW1 : Hid _ := hw1
 have HB1 : Hid _ := hb1
 have HTT : Hid (∀ w',Below w1.heap.size w1 w' → ∀ k : Nat,k < 4 → w'.cell? ⟨w.heap.size,2 * k,none⟩ = some (.int .u8 ((spV k).1 : Int)) ∧ w'.cell? ⟨w.heap.size,2 * k + 1,none⟩ = some (.int .u8 ((spV k).2.1 : Int))) := fun w' hb k hk => by
  have h := (hb.block _ (Array.getElem?_eq_some_iff.1 hk1).1).trans hk1
  match k,hk with
  | 0,_ => exact ⟨q7 h 0,q7 h 1⟩
  | 1,_ => exact ⟨q7 h 2,q7 h 3⟩
  | 2,_ => exact ⟨q7 h 4,q7 h 5⟩
  | 3,_ => exact ⟨q7 h 6,q7 h 7⟩
 clear hw1 hb1 hk1
 go_enter Try.func6,Try.ntmps6
 go_wp2_with (rw [← HW1.out])
 clear HW1
 go_loopw [2] (fun i wr => ∃ k : Nat,k ≤ 4 ∧ i = .int .i64 (k : Int) ∧ Hid (Below w1.heap.size w1 wr)) (fun i _ => 4 - (intOf i).toNat)
 case atStart => exact ⟨0,Nat.zero_le _,rfl,Below.refl _ _⟩
 case round =>
  obtain ⟨k,hk,rfl,HBr⟩ := hrel
  by_cases hlt : k < 4
  ·have e1 : decide ((k : Int) < 4) = true := decide_eq_true (by omega)
   obtain ⟨hx,hy,hs,hr⟩ := q45 k hlt
   have HTK : Hid (∀ w',Below wr.heap.size wr w' → w'.cell? ⟨w.heap.size,2 * k,none⟩ = some (.int .u8 ((spV k).1 : Int)) ∧ w'.cell? ⟨w.heap.size,2 * k + 1,none⟩ = some (.int .u8 ((spV k).2.1 : Int))) := fun w' hb => HTT.out w' (q6 HBr.out hb) k hlt
   have ixs := fun w' => q1F w.heap.size k 4 hlt w'
   have jU := qc wr.drew
   have jR := fun (w9 : World) b1 d1 b2 d2 b3 d3 (hX : AuX w9 b1 3 d1 b2 3 d2 b3 3 d3 uxB uxG uxN) => qA HA b1 d1 b2 d2 b3 d3 w9 hX (spV k).1 (spV k).2.1 hx hy hs [(spV k).2.2,-1,0] hr
   have jW := fun (w9 : World) b1 d1 b2 d2 b3 d3 (hX : AuX w9 b1 3 d1 b2 3 d2 b3 3 d3 uxB uxG uxN) => q2Q HA b1 d1 b2 d2 b3 d3 w9 hX (spV k).1 (spV k).2.1 hx hy hs (spV k).2.2 [-1,0] hr
   have hzk : ((spV k).2.2 = 1 ∧ k % 2 = 0) ∨ ((spV k).2.2 = -1 ∧ k % 2 = 1) := by
    match k,hlt with
    | 0,_ => exact .inl ⟨rfl,rfl⟩
    | 1,_ => exact .inr ⟨rfl,rfl⟩
    | 2,_ => exact .inl ⟨rfl,rfl⟩
    | 3,_ => exact .inr ⟨rfl,rfl⟩
   have HZK : Hid _ := hzk
   have HBD : Hid (Below wr.heap.size wr wr.drew) := (Below.refl _ _).drew
   obtain ⟨s0,s1⟩ := HTK.out wr (Below.refl _ _)
   obtain ⟨t0,t1⟩ := HTK.out wr.drew HBD.out
   clear hx hy hs hr hzk
   generalize (spV k).1 = x at *
   generalize (spV k).2.1 = y at *
   generalize (spV k).2.2 = z at *
   go_upto_region 5 with fail
   go_cut [3,4] (fun u v wx => ∃ a c,u = .slice a 3 c ∧ v = .int .i64 0 ∧ Hid (ZSl wx a 3 c [z,-1,0]) ∧ Hid (Below wr.heap.size wr wx))
   case first => as_aux_lemma =>
    go_region_law (first
     | (revert HB9; intro HB9; go_simp; (with_reducible refine (jR w9 _ _ _ _ _ _ HX9.out).mono ?_); rintro e w10 ⟨hb10,a,c,rfl,hz⟩; have HB10 : Hid (Below wr.heap.size wr w10) := q6 HB9.out hb10; have HZ10 : Hid (ZSl w10 a 3 c [z,-1,0]) := hz; obtain ⟨v0,v1⟩ := HTK.out w10 HB10.out; dsimp only)
     | (revert jU; intro jU; go_simp; (with_reducible refine jU.mono ?_); rintro e w9 ⟨b1,d1,b2,d2,b3,d3,rfl,hX,hb9⟩; have HB9 : Hid (Below wr.heap.size wr w9) := q6 HBD.out hb9.out; have HX9 : Hid (AuX w9 b1 3 d1 b2 3 d2 b3 3 d3 uxB uxG uxN) := hX.out; obtain ⟨u0,u1⟩ := HTK.out w9 HB9.out; dsimp only)
     | fail)
    all_goals
     clear hb9 hX hb10 hz
     go_wp2_with fail
     go_meet
     exact ⟨_,_,rfl,rfl,HZ10,HB10⟩
   case rest =>
   obtain ⟨a,c,rfl,rfl,HZ,HB2⟩ := hcut
   generalize wc = w2 at *
   clear jU jR s0 s1 t0 t1 HBD
   have jU := qc w2.drew
   have HBD : Hid (Below w2.heap.size w2 w2.drew) := (Below.refl _ _).drew
   obtain ⟨s0,s1⟩ := HTK.out w2 HB2.out
   obtain ⟨t0,t1⟩ := HTK.out w2.drew (q6 HB2.out HBD.out)
   go_upto_region 6 with fail
   go_cut [5,6] (fun u v wx => u = .bool (decide (0 ≤ z)) ∧ v = .int .i64 0 ∧ Hid (Below w2.heap.size w2 wx))
   case first => as_aux_lemma =>
    go_region_law (first
     | (revert HB9; intro HB9; go_simp; (with_reducible refine (jW w9 _ _ _ _ _ _ HX9.out).mono ?_); rintro e w10 ⟨hb10,rfl⟩; have HB10 : Hid (Below w2.heap.size w2 w10) := q6 HB9.out hb10; obtain ⟨v0,v1⟩ := HTK.out w10 (q6 HB2.out HB10.out); dsimp only)
     | (revert jU; intro jU; go_simp; (with_reducible refine jU.mono ?_); rintro e w9 ⟨b1,d1,b2,d2,b3,d3,rfl,hX,hb9⟩; have HB9 : Hid (Below w2.heap.size w2 w9) := q6 HBD.out hb9.out; have HX9 : Hid (AuX w9 b1 3 d1 b2 3 d2 b3 3 d3 uxB uxG uxN) := hX.out; obtain ⟨u0,u1⟩ := HTK.out w9 (q6 HB2.out HB9.out); dsimp only)
     | fail)
    all_goals
     clear hb9 hX hb10
     go_wp2_with fail
     go_meet
     exact ⟨rfl,rfl,HB10⟩
   case rest =>
   obtain ⟨rfl,rfl,HB3'⟩ := hcut
   generalize wc = w3 at *
   have HZ3 : Hid (ZSl w3 a 3 c [z,-1,0]) := HZ.out.up HB3'.out
   have HB3 : Hid (Below wr.heap.size wr w3) := q6 HB2.out HB3'.out
   clear jU jW s0 s1 t0 t1 HBD HTK ixs HZ HB2 HB3'
   rcases HZK.out with ⟨rfl,hpar⟩ | ⟨rfl,hpar⟩
   ·clear HZK
    have hm : (k : Int).tmod 2 = 0 := by rw [Int.tmod_eq_emod_of_nonneg (by omega)]; omega
    have hzl : ZSl (w3.alloc (.cells #[.int .i64 1,.int .i64 (-1),.int .i64 0] 3)) (some ⟨w3.heap.size,0,none⟩) 3 3 [1,-1,0] := zlitP w3 [1,-1,0] (by decide)
    obtain ⟨w4,hw4⟩ : ∃ w4,w4 = w3.alloc (.cells #[.int .i64 1,.int .i64 (-1),.int .i64 0] 3) := ⟨_,rfl⟩
    rw [← hw4] at hzl
    have hb4 : Below w3.heap.size w3 w4 := by rw [hw4]; exact q8 _ _
    have j3 := qn a 3 c [1,-1,0] (some ⟨w3.heap.size,0,none⟩) 3 3 [1,-1,0] w4 (HZ3.out.up hb4) hzl
    rw [decide_eq_true rfl] at j3
    have HB4 : Hid (Below w1.heap.size w1 w4) := q6 (q6 HBr.out HB3.out) hb4
    have HW4 : Hid _ := hw4
    have e2 : decide ((0 : Int) ≤ 1) = true := by decide
    clear hw4 hb4 hzl HZ3 HB3 hk
    go_wp2_with (first | rw [← HW4.out] | (go_at_call 15; refine j3.mono ?_; rintro e w5 ⟨rfl,q5,rfl⟩; have HB5 : Hid (Below w1.heap.size w1 (w4.drewN q5)) := below_drewN HB4.out q5; generalize w4.drewN q5 = w5 at *; clear HW4 HB4))
    go_roundw
    case rel => exact ⟨k + 1,by omega,by go_num,HB5⟩
    case measure => simp [intOf]; omega
   ·clear HZK
    have hm : (k : Int).tmod 2 = 1 := by rw [Int.tmod_eq_emod_of_nonneg (by omega)]; omega
    have hzl : ZSl (w3.alloc (.cells #[.int .i64 (-1),.int .i64 (-1),.int .i64 0] 3)) (some ⟨w3.heap.size,0,none⟩) 3 3 [(-1),-1,0] := zlitP w3 [(-1),-1,0] (by decide)
    obtain ⟨w4,hw4⟩ : ∃ w4,w4 = w3.alloc (.cells #[.int .i64 (-1),.int .i64 (-1),.int .i64 0] 3) := ⟨_,rfl⟩
    rw [← hw4] at hzl
    have hb4 : Below w3.heap.size w3 w4 := by rw [hw4]; exact q8 _ _
    have j3 := qn a 3 c [(-1),-1,0] (some ⟨w3.heap.size,0,none⟩) 3 3 [(-1),-1,0] w4 (HZ3.out.up hb4) hzl
    rw [decide_eq_true rfl] at j3
    have HB4 : Hid (Below w1.heap.size w1 w4) := q6 (q6 HBr.out HB3.out) hb4
    have HW4 : Hid _ := hw4
    have e2 : decide ((0 : Int) ≤ (-1)) = false := by decide
    clear hw4 hb4 hzl HZ3 HB3 hk
    go_wp2_with (first | rw [← HW4.out] | (go_at_call 15; refine j3.mono ?_; rintro e w5 ⟨rfl,q5,rfl⟩; have HB5 : Hid (Below w1.heap.size w1 (w4.drewN q5)) := below_drewN HB4.out q5; generalize w4.drewN q5 = w5 at *; clear HW4 HB4))
    go_roundw
    case rel => exact ⟨k + 1,by omega,by go_num,HB5⟩
    case measure => simp [intOf]; omega
  ·obtain rfl : k = 4 := by omega
   clear hlt
   have jU := qc wr
   go_wp2_with fail
   refine jU.mono ?_
   rintro e w2 ⟨b1,d1,b2,d2,b3,d3,rfl,hX,hb⟩
   have HB2 : Hid (Below wr.heap.size wr w2) := hb.out
   have j := q3k HA b1 d1 b2 d2 b3 d3 w2 hX.out
   clear jU hX hb
   go_wp2_with fail
   refine j.mono ?_
   rintro e w3 ⟨hb,a,c,rfl⟩
   have HB3 : Hid (Below w1.heap.size w1 w3) := q6 HBr.out (q6 HB2.out hb)
   have HTK : Hid (∀ w',Below w3.heap.size w3 w' → w'.cell? ⟨w.heap.size,0,none⟩ = some (.int .u8 1) ∧ w'.cell? ⟨w.heap.size,1,none⟩ = some (.int .u8 2)) := fun w' hb => HTT.out w' (q6 HB3.out hb) 0 (by decide)
   have ixs : ∀ w',(Instr.indexAt 54 (.slice (some ⟨w.heap.size,0,none⟩) 4 4) (.int .i64 0)).run Try.prog w' = .ok (.pointer (some ⟨w.heap.size,0,none⟩)) w' := fun w' => q1F w.heap.size 0 4 (by decide) w'
   clear j hb HB2 HBr
   have jU := qc w3.drew
   have HBD : Hid (Below w3.heap.size w3 w3.drew) := (Below.refl _ _).drew
   obtain ⟨s0,s1⟩ := HTK.out w3 (Below.refl _ _)
   obtain ⟨t0,t1⟩ := HTK.out w3.drew HBD.out
   go_upto_region 13 with fail
   go_cut [10,11] (fun u v wx => ∃ a c,u = .slice a 0 c ∧ v = .int .i64 2 ∧ Hid (Below w3.heap.size w3 wx))
   case first => as_aux_lemma =>
    go_region_law (first
     | (revert HB9; intro HB9; go_simp; (with_reducible refine (q31 HS _ _ _ _ _ _ w9 HX9.out).mono ?_); rintro e w10 ⟨hb10,a,c,rfl⟩; have HB10 : Hid (Below w3.heap.size w3 w10) := q6 HB9.out hb10; obtain ⟨v0,v1⟩ := HTK.out w10 HB10.out; dsimp only)
     | (revert jU; intro jU; go_simp; (with_reducible refine jU.mono ?_); rintro e w9 ⟨b1,d1,b2,d2,b3,d3,rfl,hX,hb9⟩; have HB9 : Hid (Below w3.heap.size w3 w9) := q6 HBD.out hb9.out; have HX9 : Hid (AuX w9 b1 3 d1 b2 3 d2 b3 3 d3 uxB uxG uxN) := hX.out; obtain ⟨u0,u1⟩ := HTK.out w9 HB9.out; dsimp only)
     | fail)
    all_goals
     clear hb9 hX hb10
     go_wp2_with fail
     go_meet
     exact ⟨_,_,rfl,rfl,HB10⟩
   case rest =>
   obtain ⟨a0,c0,rfl,rfl,HB4⟩ := hcut
   generalize wc = w4 at *
   have HB4w : Hid (Below w1.heap.size w1 w4) := q6 HB3.out HB4.out
   clear jU s0 s1 t0 t1 HBD
   have HT4 : Hid (∀ w',Below w4.heap.size w4 w' → w'.cell? ⟨w.heap.size,0,none⟩ = some (.int .u8 1) ∧ w'.cell? ⟨w.heap.size,1,none⟩ = some (.int .u8 2)) := fun w' hb => HTK.out w' (q6 HB4.out hb)
   clear HTK HB3 HB4
   have HBD : Hid (Below w4.heap.size w4 w4.drew) := (Below.refl _ _).drew
   have HBE : Hid (Below w4.heap.size w4 ((w4.alloc (.cells #[.bool false,.bool false,.bool true] 4)).drew)) := q6 (q8 w4 _) ((Below.refl _ _).drew)
   have HWE : Hid (BoSl ((w4.alloc (.cells #[.bool false,.bool false,.bool true] 4)).drew) (some ⟨w4.heap.size,0,none⟩) 3 3 [false,false,true]) := BoSl.up (blitP w4 [false,false,true] (by decide)) ((Below.refl _ _).drew)
   have jUA := qc w4.drew
   have jUB := qc ((w4.alloc (.cells #[.bool false,.bool false,.bool true] 4)).drew)
   obtain ⟨s0,s1⟩ := HT4.out w4.drew HBD.out
   obtain ⟨t0,t1⟩ := HT4.out _ HBE.out
   obtain ⟨q0,q1⟩ := HT4.out (w4.alloc (.cells #[.bool false,.bool false,.bool true] 4)) (q8 _ _)
   obtain ⟨q2,q3⟩ := HT4.out w4 (Below.refl _ _)
   go_upto_region 14 with fail
   go_cut [12,13] (fun u v wx => ∃ a c,u = .slice a 3 c ∧ v = .int .i64 0 ∧ Hid (BoSl wx a 3 c [true,false,true]) ∧ Hid (Below w4.heap.size w4 wx))
   case first => as_aux_lemma =>
    go_region_law (first
     | (revert HA9; intro HA9; go_simp; (with_reducible refine (q1k HS _ _ _ _ _ _ w9.heap.size (w9.alloc (.cells #[.bool false,.bool false,.bool true] 4)) HX9.out HW9.out).mono ?_); rintro e w10 ⟨hb10,a,c,rfl,hz⟩; have HB10 : Hid (Below w4.heap.size w4 w10) := q6 HA9.out hb10; have HZ10 : Hid (BoSl w10 a 3 c [true,false,true]) := hz; dsimp only)
     | (revert HB9; intro HB9; go_simp; (with_reducible refine (q1k HS _ _ _ _ _ _ w4.heap.size w9 HX9.out HW9.out).mono ?_); rintro e w10 ⟨hb10,a,c,rfl,hz⟩; have HB10 : Hid (Below w4.heap.size w4 w10) := q6 HB9.out hb10; have HZ10 : Hid (BoSl w10 a 3 c [true,false,true]) := hz; dsimp only)
     | (revert jUA; intro jUA; go_simp; (with_reducible refine jUA.mono ?_); rintro e w9 ⟨b1,d1,b2,d2,b3,d3,rfl,hX,hb9⟩; have HA9 : Hid (Below w4.heap.size w4 (w9.alloc (.cells #[.bool false,.bool false,.bool true] 4))) := q6 (q6 HBD.out hb9.out) (q8 _ _); have HX9 : Hid (AuX (w9.alloc (.cells #[.bool false,.bool false,.bool true] 4)) b1 3 d1 b2 3 d2 b3 3 d3 uxB uxG uxN) := hX.out.up (q8 _ _); have HW9 : Hid (BoSl (w9.alloc (.cells #[.bool false,.bool false,.bool true] 4)) (some ⟨w9.heap.size,0,none⟩) 3 3 [false,false,true]) := blitP w9 [false,false,true] (by decide); obtain ⟨u0,u1⟩ := HT4.out w9 (q6 HBD.out hb9.out); obtain ⟨v0,v1⟩ := HT4.out _ HA9.out; dsimp only)
     | (revert jUB; intro jUB; go_simp; (with_reducible refine jUB.mono ?_); rintro e w9 ⟨b1,d1,b2,d2,b3,d3,rfl,hX,hb9⟩; have HB9 : Hid (Below w4.heap.size w4 w9) := q6 HBE.out hb9.out; have HX9 : Hid (AuX w9 b1 3 d1 b2 3 d2 b3 3 d3 uxB uxG uxN) := hX.out; have HW9 : Hid (BoSl w9 (some ⟨w4.heap.size,0,none⟩) 3 3 [false,false,true]) := HWE.out.up hb9.out; obtain ⟨u0,u1⟩ := HT4.out w9 HB9.out; dsimp only)
     | fail)
    all_goals
     clear hb9 hX hb10 hz
     go_wp2_with fail
     go_meet
     exact ⟨_,_,rfl,rfl,HZ10,HB10⟩
   case rest =>
   obtain ⟨a5,c5,rfl,rfl,HZ5,HB5⟩ := hcut
   generalize wc = w5 at *
   have HB5w : Hid (Below w1.heap.size w1 w5) := q6 HB4w.out HB5.out
   clear jUA jUB s0 s1 t0 t1 q0 q1 q2 q3 HBD HBE HWE HT4 HB4w HB5
   have j := qq HA w5
   go_wp2_with fail
   refine j.mono ?_
   rintro e w6 ⟨rfl,hb⟩
   obtain ⟨w7,hw7⟩ : ∃ w7,w7 = w6.alloc (.cells #[.bool true,.bool false,.bool true] 4) := ⟨_,rfl⟩
   have hl7 : BoSl w7 (some ⟨w6.heap.size,0,none⟩) 3 3 [true,false,true] := by rw [hw7]; exact blitP w6 [true,false,true] (by decide)
   have hb7 : Below w6.heap.size w6 w7 := by rw [hw7]; exact q8 _ _
   have HB7 : Hid (Below w1.heap.size w1 w7) := q6 (q6 HB5w.out hb) hb7
   have HZ7 : Hid (BoSl w7 a5 3 c5 [true,false,true]) := HZ5.out.up (q6 hb hb7)
   have HW7 : Hid _ := hw7
   have j3 := q20 a5 3 c5 [true,false,true] (some ⟨w6.heap.size,0,none⟩) 3 3 [true,false,true] w7 HZ7.out hl7
   rw [decide_eq_true rfl] at j3
   clear j hb hw7 hl7 hb7 HB5w HZ5 HZ7
   go_wp2_with (rw [← HW7.out])
   refine j3.mono ?_
   rintro e w8 ⟨rfl,hb⟩
   have HE : Hid _ := HQ.out w8 (q6 HB1.out (q6 HB7.out hb))
   clear j3 hb HW7 HB7 HQ HTT
   go_wp2
   exact HE.out
end Go.Proofs.Ytbgogbafkoekjaa
