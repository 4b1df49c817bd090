/- Texts of the proof, put together: what it uses. -/
import Derived.Lib.QuietBelow
import Derived.BigQuiet
import Derived.Deep.DeepCutAuto
import Derived.BigRegion
import Derived.Deep.RegionLaw
import Derived.Test.YtbgogbafkoekjaaY00
import Derived.Test.YtbgogbafkoekjaaY07
import Derived.Test.YtbgogbafkoekjaaY09
import Derived.Test.YtbgogbafkoekjaaY10
set_option maxRecDepth 100000
set_option maxHeartbeats 16000000
namespace Go.Proofs.Ytbgogbafkoekjaa
open Go.RowKit Go.Maps Go.Sort
theorem q1S (m v : Nat) (w : World) (hm : m < 256) (hv : v < 256) : Calls Try.prog 52 #[.int .u8 (m : Int),.int .u8 (v : Int)] w fun e w' => e = .returned (.int .u8 ((belN m v : Nat) : Int)) ∧ w' = w := by
 by_cases h0 : v = 0
 ·subst h0
  have e1 : bits .and .u8 255 (m : Int) = (m : Int) := by
   have h := u8_and_nat 255 m (by decide) hm
   have h2 : 255 &&& m = m := by
    have h3 : (List.range 256).all (fun m => 255 &&& m == m) = true := by decide +kernel
    exact beq_iff_eq.1 (qM h3 m hm)
   rw [h2] at h
   exact h
  have HE : Hid (Ending.returned (.int .u8 (m : Int)) = .returned (.int .u8 ((belN m 0 : Nat) : Int))) := by simp [Hid,belN]
  go_enter Try.func52,Try.ntmps52
  go_wp2
  go_ret
  exact ⟨HE.out,rfl⟩
 ·obtain ⟨u,rfl⟩ : ∃ u,v = u + 1 := ⟨v - 1,by omega⟩
  have e0 : IntKind.u8.wrap (((u + 1 : Nat) : Int) - 1) = (u : Int) := by rw [show (((u + 1 : Nat) : Int) - 1) = (u : Int) by omega]; show (u : Int) % 256 = _; omega
  have e1 := u8_and_nat u m (by omega) hm
  have HE : Hid (Ending.returned (.int .u8 ((u &&& m : Nat) : Int)) = .returned (.int .u8 ((belN m (u + 1) : Nat) : Int))) := by simp [Hid,belN]
  go_enter Try.func52,Try.ntmps52
  go_wp2
  go_ret
  exact ⟨HE.out,rfl⟩
theorem q1T (n : Nat) (w : World) (hn : n ≤ 8) : Calls Try.prog 50 #[.int .i64 (n : Int)] w fun e w' => e = .returned (.int .u8 ((2 ^ n - 1 : Nat) : Int)) ∧ w' = w := by
 obtain rfl | rfl | rfl | rfl | rfl | rfl | rfl | rfl | rfl : n = 0 ∨ n = 1 ∨ n = 2 ∨ n = 3 ∨ n = 4 ∨ n = 5 ∨ n = 6 ∨ n = 7 ∨ n = 8 := by omega
 all_goals
  go_enter Try.func50,Try.ntmps50
  go_wp2
  go_ret
  exact ⟨rfl,rfl⟩
instance (p e s : Nat) : Decidable (SplitN p e s) := inferInstanceAs (Decidable (_ ∧ _))
theorem q1V (n x y : Nat) (w : World) (hn : n ≤ 8) (hx : x < 256) (hy : y < 256) : Calls Try.prog 38 #[.int .i64 (n : Int),.agg #[.int .u8 (x : Int),.int .u8 (y : Int)]] w fun e w' => e = .returned (.bool (decide (SplitN n x y))) ∧ Below w.heap.size w w' := by
 obtain ⟨Q,hQ⟩ : ∃ Q : Ending → World → Prop,Q = fun e w' => e = .returned (.bool (decide (SplitN n x y))) ∧ Below w.heap.size w w' := ⟨_,rfl⟩
 have HQ : Hid (∀ w' b,Below w.heap.size w w' → b = decide (SplitN n x y) → Q (.returned (.bool b)) w') := fun w' b h hb => by rw [hQ,hb]; exact ⟨rfl,h⟩
 rw [← hQ]
 clear hQ
 have hor := u8_or_nat x y hx hy
 have hand := u8_and_nat x y hx hy
 have hk := (MapKept.heap_alloc w (.cells #[.int .u8 (x : Int),.int .u8 (y : Int)] 29 (0,0))).1
 have c0 := q6 hk 0
 have c1 := q6 hk 1
 have je := fun w => q1T n w hn
 have HB0 : Hid _ := q7 w (.cells #[.int .u8 (x : Int),.int .u8 (y : Int)] 29 (0,0))
 have HD : Hid (∀ a b : Bool,a = decide (x ||| y = 2 ^ n - 1) → b = decide (x &&& y = 0) → (a && b) = decide (SplitN n x y)) := fun a b ha hb => by
  rw [ha,hb]
  unfold SplitN
  by_cases h1 : x ||| y = 2 ^ n - 1 <;> by_cases h2 : x &&& y = 0 <;> simp [h1,h2]
 generalize 2 ^ n - 1 = M at *
 generalize x ||| y = o at *
 generalize x &&& y = a at *
 clear hk
 generalize hw1 : w.alloc (.cells #[.int .u8 (x : Int),.int .u8 (y : Int)] 29 (0,0)) = w1 at *
 have HW1 : Hid _ := hw1
 have cS : ∀ dd os,Calls Try.prog 50 #[.int .i64 (n : Int)] (grow (redrawn w1 dd) os) fun e w'' => e = .returned (.int .u8 ((M : Nat) : Int)) ∧ ∃ p : Regrown,w'' = grow (redrawn w1 p.d) p.os := fun dd os => by
  refine (je _).mono ?_
  rintro e w'' ⟨rfl,rfl⟩
  exact ⟨rfl,regrown_of_below (below_regrown w1 dd os)⟩
 have HE : Hid (∀ dd os,Below w.heap.size w (grow (redrawn w1 dd) os)) := fun dd os => q5 HB0.out (below_regrown w1 dd os)
 have z0 := cell_regrown c0
 have z1 := cell_regrown c1
 clear hw1 je c0 c1
 have hM : (o : Int) = (M : Int) ↔ o = M := by omega
 have hA : (a : Int) = 0 ↔ a = 0 := by omega
 have HM : Hid _ := hM
 have HA : Hid _ := hA
 clear hM hA
 cases hb1 : ((o : Int) == (M : Int)) with
 | true =>
  have HO : Hid _ := HM.out.1 (beq_iff_eq.1 hb1)
  cases hb2 : ((a : Int) == 0) with
  | true =>
   have HF : Hid (true = decide (SplitN n x y)) := HD.out true true (decide_eq_true HO.out).symm (decide_eq_true (HA.out.1 (beq_iff_eq.1 hb2))).symm
   clear HD
   go_enter Try.func38,Try.ntmps38
   go_upto_region 1 with (rw [HW1.out])
   refine wp_region_quiet_below (by kernel_rfl) (by kernel_rfl) ?_
   repeat (go_big_quiet_step (exact cS _ _))
   refine wpQuiet_nil ?_
   intro _ hw'
   obtain ⟨⟨dq,osq⟩,hw''⟩ := hw'
   subst hw''
   have HX : Hid _ := HQ.out _ _ (HE.out dq osq) HF.out
   clear HQ HE cS z0 z1
   generalize grow (redrawn w1 dq) osq = wx at *
   go_wp2
   exact HX.out
  | false =>
   have HF : Hid (false = decide (SplitN n x y)) := HD.out true false (decide_eq_true HO.out).symm (decide_eq_false fun h => by rw [HA.out.2 h] at hb2; cases hb2).symm
   clear HD
   go_enter Try.func38,Try.ntmps38
   go_upto_region 1 with (rw [HW1.out])
   refine wp_region_quiet_below (by kernel_rfl) (by kernel_rfl) ?_
   repeat (go_big_quiet_step (exact cS _ _))
   refine wpQuiet_nil ?_
   intro _ hw'
   obtain ⟨⟨dq,osq⟩,hw''⟩ := hw'
   subst hw''
   have HX : Hid _ := HQ.out _ _ (HE.out dq osq) HF.out
   clear HQ HE cS z0 z1
   generalize grow (redrawn w1 dq) osq = wx at *
   go_wp2
   exact HX.out
 | false =>
  have HF : Hid (false = decide (SplitN n x y)) := HD.out false _ (decide_eq_false fun h => by rw [HM.out.2 h] at hb1; simp at hb1).symm rfl
  clear HD
  go_enter Try.func38,Try.ntmps38
  go_upto_region 1 with (rw [HW1.out])
  refine wp_region_quiet_below (by kernel_rfl) (by kernel_rfl) ?_
  repeat (go_big_quiet_step (exact cS _ _))
  refine wpQuiet_nil ?_
  intro _ hw'
  obtain ⟨⟨dq,osq⟩,hw''⟩ := hw'
  subst hw''
  have HX : Hid _ := HQ.out _ _ (HE.out dq osq) HF.out
  clear HQ HE cS z0 z1
  generalize grow (redrawn w1 dq) osq = wx at *
  go_wp2
  exact HX.out
theorem qw (p : Int) (aA : Option Addr) (nA cA : Nat) (aG : Option Addr) (nG cG : Nat) (aN : Option Addr) (nN cN : Nat) (bs : List Bool) (N : List Gd) (gs : List Int) (x y : Nat) (w : World) (hB : BoSl w aA nA cA bs) (hN : NdSl w aN nN cN N) (hG : ZSl w aG nG cG gs) (hok : ∀ z ∈ gs,I64 z) (hx : x < 256) (hy : y < 256) :
  Calls Try.prog 20 #[.agg #[.int .i64 p,.slice aA nA cA,.slice aG nG cG,.slice aN nN cN],.agg #[.int .u8 (x : Int),.int .u8 (y : Int)]] w fun e w' => Below w.heap.size w w' ∧ ∃ X : Int,e = .returned (.int .i64 X) ∧ Hid (ChkN p nA bs N gs x y X) := by
 obtain ⟨Q,hQ⟩ : ∃ Q : Ending → World → Prop,Q = fun e w' => Below w.heap.size w w' ∧ ∃ X : Int,e = .returned (.int .i64 X) ∧ Hid (ChkN p nA bs N gs x y X) := ⟨_,rfl⟩
 have HQ : Hid (∀ w' X,Below w.heap.size w w' → ChkN p nA bs N gs x y X → Q (.returned (.int .i64 X)) w') := fun w' X h hb => by rw [hQ]; exact ⟨h,X,rfl,hb⟩
 rw [← hQ]
 clear hQ
 obtain ⟨w1,hw1⟩ : ∃ w1,w1 = w.alloc (.cells #[.int .i64 p,.slice aA nA cA,.slice aG nG cG,.slice aN nN cN] 26 (0,0)) := ⟨_,rfl⟩
 have hb1 : Below w.heap.size w w1 := by rw [hw1]; exact q7 _ _
 have HA1 : Hid (AuB w1 w.heap.size p aA nA cA aG nG cG aN nN cN) := by rw [hw1]; exact qa w p aA nA cA aG nG cG aN nN cN
 have HW1 : Hid _ := hw1
 obtain ⟨w2,hw2⟩ : ∃ w2,w2 = w1.alloc (.cells #[.int .u8 (x : Int),.int .u8 (y : Int)] 29 (0,0)) := ⟨_,rfl⟩
 have hb2 : Below w1.heap.size w1 w2 := by rw [hw2]; exact q7 _ _
 have hk2 : w2.heap[w1.heap.size]? = some (.cells #[.int .u8 (x : Int),.int .u8 (y : Int)] 29 (0,0)) := by rw [hw2]; exact (MapKept.heap_alloc w1 _).1
 have HW2 : Hid _ := hw2
 have HB2 : Hid (Below w.heap.size w w2) := q5 hb1 hb2
 have HA2 : Hid (AuB w2 w.heap.size p aA nA cA aG nG cG aN nN cN) := HA1.out.up hb2
 have HK2 : Hid (w2.heap[w1.heap.size]? = some (.cells #[.int .u8 (x : Int),.int .u8 (y : Int)] 29 (0,0))) := hk2
 have HL2 : Hid (w1.heap.size < w2.heap.size) := (Array.getElem?_eq_some_iff.1 hk2).1
 have jc := q2N p aA nA cA aG nG cG aN nN cN N gs w2 (hN.up HB2.out) (hG.up HB2.out) hok
 have HBB : Hid _ := hB
 obtain ⟨c0,c1,c2,c3⟩ := HA2.out
 have hsz : w1.heap.size = w.heap.size + 1 := by rw [hw1]; exact Array.size_push _
 clear hB hN hG hok hw1 hb1 hw2 hb2 hk2 HA1
 go_enter Try.func20,Try.ntmps20
 go_wp2_with (first | rw [← HW2.out] | rw [← HW1.out])
 refine jc.mono ?_
 rintro e w3 ⟨hb3,v,rfl,⟨rfl,hM⟩ | ⟨rfl,hM⟩⟩
 rotate_left
 ·have HE : Hid _ := HQ.out w3 12 (q5 HB2.out hb3) (.inl ⟨hM,rfl⟩)
  clear HQ hM hb3 jc
  go_wp2
  exact HE.out
 have HB3 : Hid (Below w.heap.size w w3) := q5 HB2.out hb3
 have HA3 : Hid (AuB w3 w.heap.size p aA nA cA aG nG cG aN nN cN) := HA2.out.up hb3
 have HK3 : Hid (w3.heap[w1.heap.size]? = some (.cells #[.int .u8 (x : Int),.int .u8 (y : Int)] 29 (0,0))) := (hb3.block _ HL2.out).trans HK2.out
 have HM : Hid _ := hM
 have h1n : 0 < nA := by have := hM.s1; omega
 obtain ⟨P,rfl⟩ := Int.eq_ofNat_of_zero_le hM.p0
 have hP : P ≤ 8 := by have := hM.p8; omega
 clear jc hb3 hM c0 c1 c2 c3 HA2 HK2 HL2 HB2
 obtain ⟨c0,c1,c2,c3⟩ := HA3.out
 have s0 := q6 HK3.out 0
 have s1 := q6 HK3.out 1
 rw [hsz] at s0 s1
 clear hsz
 obtain ⟨ix0,ce0⟩ : (∀ w',(Instr.indexAt 22 (.slice aA nA cA) (.int .i64 0)).run Try.prog w' = .ok (.pointer (some (adOf aA 0))) w') ∧ w3.cell? (adOf aA 0) = some (.bool (bs.getD 0 false)) := (HBB.out.up HB3.out).getQ h1n
 generalize adOf aA 0 = ad at *
 obtain ⟨ad1,ad2,ad3⟩ := ad
 cases hb0 : bs.getD 0 false with
 | true =>
  rw [hb0] at ce0
  have HE : Hid _ := HQ.out w3 12 HB3.out (.inr (.inl ⟨HM.out,hb0,rfl⟩))
  clear HQ hb0
  go_wp2
  exact HE.out
 | false =>
 rw [hb0] at ce0
 have js := q1V P x y w3 hP hx hy
 have HSP : Hid (∀ b,b = decide (SplitN P x y) → (b = true ∧ ChkN (P : Int) nA bs N gs x y 0) ∨ (b = false ∧ ChkN (P : Int) nA bs N gs x y 13)) := fun b hb => by
  by_cases h : SplitN P x y
  ·exact .inl ⟨by rw [hb]; exact decide_eq_true h,.inr (.inr (.inr ⟨HM.out,hb0,by rw [Int.toNat_natCast]; exact h,rfl⟩))⟩
  ·exact .inr ⟨by rw [hb]; exact decide_eq_false h,.inr (.inr (.inl ⟨HM.out,hb0,by rw [Int.toNat_natCast]; exact h,rfl⟩))⟩
 obtain ⟨b,hb⟩ : ∃ b,b = decide (SplitN P x y) := ⟨_,rfl⟩
 have HSQ : Hid _ := HSP.out b hb
 rw [← hb] at js
 clear hb HSP hb0
 go_wp2_with fail
 refine js.mono ?_
 rintro e w4 ⟨rfl,hb4⟩
 have HB4 : Hid _ := q5 HB3.out hb4
 clear js hb4
 rcases HSQ.out with ⟨rfl,hc⟩ | ⟨rfl,hc⟩
 ·have HE : Hid _ := HQ.out w4 0 HB4.out hc
  clear HQ hc HSQ
  go_wp2
  exact HE.out
 ·have HE : Hid _ := HQ.out w4 13 HB4.out hc
  clear HQ hc HSQ
  go_wp2
  exact HE.out
theorem q2B (x : Nat) (w : World) (hx : x < 256) :
  Calls Try.prog 51 #[.int .u8 (x : Int)] w fun e w' => e = .returned (.int .i64 (Go.Lib.onesCount x : Int)) ∧ w' = w := by
 have h0 : (0 : Int) ≤ (x : Int) := by omega
 have h1 : (x : Int) ≤ 255 := by omega
 have HX : Hid (wrap64 (Go.Lib.pop8 (x : Int)) = (Go.Lib.onesCount x : Int)) := by
  have h := Go.Lib.pop8_int (x : Int) h0 h1
  rw [Int.toNat_natCast] at h
  show _ = _
  unfold wrap64
  exact h
 go_enter Try.func51,Try.ntmps51
 go_wp2
 go_ret
 exact ⟨by rw [← HX.out]; rfl,rfl⟩
theorem q5c (n : Nat) : ((allTo 0 n).map (Value.int .u8)).toArray = ((List.replicate n (0 : Int)).map (Value.int .u8)).toArray := by
 congr 2
 apply List.ext_getElem (by simp [allTo])
 intro i h1 h2
 simp [allTo]
def MvsR (m : Nat) (w : World) (e : Ending) (w' : World) : Prop := e = .returned (.slice (some ⟨w.heap.size,0,none⟩) (mvL m).length (mvL m).length) ∧ LtRow w' w.heap.size ((mvL m).map Int.ofNat) ∧ Below w.heap.size w w'
theorem qH (m : Nat) (w : World) (hm : m < 256) : Calls Try.prog 39 #[.int .u8 (m : Int)] w (MvsR m w) := by
 obtain ⟨Q,hQ⟩ : ∃ Q : Ending → World → Prop,Q = MvsR m w := ⟨_,rfl⟩
 obtain ⟨L,hL⟩ : ∃ L,L = (mvL m).length := ⟨_,rfl⟩
 have HQ : Hid (∀ w',LtRow w' w.heap.size (mvTo m 0) → Below w.heap.size w w' → Q (.returned (.slice (some ⟨w.heap.size,0,none⟩) L L)) w') := fun w' h1 h2 => by rw [hQ,hL]; rw [q4d] at h1; exact ⟨rfl,h1,h2⟩
 rw [← hQ]
 clear hQ
 have hLle : L ≤ 256 := by rw [hL]; exact qp m
 have hLp : 0 < L := by rw [hL]; exact q1h m
 have hcb : 2 ^ cbN m 8 = L := by rw [hL,q4Z m hm]
 have hc8 := q59 m 8
 have jo := fun w => q2B m w hm
 rw [q52 hm] at jo
 have hsh : wrap64 ((2 : Int) ^ cbN m 8) = (L : Int) := by
  have h3 : ((2 ^ cbN m 8 : Nat) : Int) = (2 : Int) ^ cbN m 8 := by simp
  rw [← h3,hcb]
  exact q42 hLle
 have hmk := fun w => q3M L (by omega) w
 obtain ⟨w1,hw1⟩ : ∃ w1,w1 = w.alloc (.cells ((allTo 0 L).map (Value.int .u8)).toArray 27) := ⟨_,rfl⟩
 have HW1 : Hid _ := hw1
 have HR0 : Hid (LtRow w1 w.heap.size (mvTo m L)) := by rw [hw1,hL,q4B,q5c]; exact (MapKept.heap_alloc w _).1
 have HB0 : Hid (Below w.heap.size w w1) := by rw [hw1]; exact q7 w _
 have HC : Hid (∀ k,k + 1 < L → belN m ((mvL m).getD (k + 1) 0) = (mvL m).getD k 0) := fun k hk => ((q30 hm).2.2 k (by rw [← hL]; exact hk)).2
 have HT : Hid ((mvL m).getD (L - 1) 0 = m) := by rw [hL]; exact (q30 hm).2.1
 have HAT : Hid (∀ k,k < L → (mvL m).getD k 0 < 256) := fun k hk => (q1d (by rw [← hL]; exact hk)).1
 have HST : Hid (∀ k,k < L → (mvTo m (k + 1)).set k (((mvL m).getD k 0 : Nat) : Int) = mvTo m k) := fun k hk => q4A (by rw [← hL]; exact hk)
 have jb := fun v w => q1S m v w hm
 have HLL : Hid _ := hL
 clear hL hcb hw1
 generalize cbN m 8 = c8 at *
 go_enter Try.func39,Try.ntmps39
 go_wp2_with fail
 refine (jo _).mono ?_
 rintro e w' ⟨rfl,hw'⟩
 obtain rfl := hw'.symm
 clear hw'
 go_wp2_with (rw [← HW1.out])
 clear hsh hmk jo
 go_loopw [4,5] (fun u v wr => ∃ k x : Nat,k ≤ L ∧ x < 256 ∧ u = .int .u8 (x : Int) ∧ v = .int .i64 ((k : Int) - 1) ∧ Hid (0 < k → x = (mvL m).getD (k - 1) 0) ∧ Hid (LtRow wr w.heap.size (mvTo m k)) ∧ Hid (Below w.heap.size w wr)) (fun _ v _ => (intOf v + 1).toNat)
 case atStart => exact ⟨L,m,Nat.le_refl _,hm,by go_num,by go_num,fun _ => HT.out.symm,HR0,HB0⟩
 case round =>
  obtain ⟨k,x,hk,hx,rfl,rfl,HX,HR,HB⟩ := hrel
  clear HR0 HB0
  by_cases h0 : k = 0
  ·subst h0
   have HE : Hid _ := HQ.out wr HR.out HB.out
   clear HQ HX HR HB
   go_wp2
   exact HE.out
  ·obtain ⟨j,rfl⟩ : ∃ j,k = j + 1 := ⟨k - 1,by omega⟩
   have hjL : j < L := by omega
   have hxv : x = (mvL m).getD j 0 := HX.out (by omega)
   have hix := fun w' => q44 w.heap.size L j hjL w'
   have hjm : j < (mvL m).length := by rw [← HLL.out]; exact hjL
   obtain ⟨b,cb⟩ : ∃ b,wr.cell? ⟨w.heap.size,j,none⟩ = some (.int .u8 b) := ⟨_,(q6 HR.out j).trans (by simp [q1y hjm]; rfl)⟩
   have zb := frozen_of_row _ _ j _ _ HR.out
   have HRN : Hid (LtRow (wr.setCell ⟨w.heap.size,j,none⟩ (.int .u8 (x : Int))) w.heap.size (mvTo m j)) := by
    unfold LtRow
    show _ = _
    rw [heap_setCell_same wr _ j _ _ (.int .u8 (x : Int)) HR.out,← HST.out j hjL,hxv]
    simp [List.map_set]
   have HBN : Hid (Below w.heap.size w (wr.setCell ⟨w.heap.size,j,none⟩ (.int .u8 (x : Int)))) := HB.out.setCell (Nat.le_refl _) _
   have HXN : Hid (0 < j → belN m x = (mvL m).getD (j - 1) 0) := fun h => by
    obtain ⟨i,rfl⟩ : ∃ i,j = i + 1 := ⟨j - 1,by omega⟩
    rw [hxv]
    exact HC.out i hjL
   have hbl := q4P (v := x) hm
   have e0 : ((j + 1 : Nat) : Int) - 1 = (j : Int) := by omega
   have jb1 := fun w => jb x w hx
   clear hjm HX HR HB jb hxv
   generalize belN m x = bx at *
   rw [e0]
   clear e0
   go_wp2_with (go_at_call 52; refine (jb1 _).mono ?_; rintro e w' ⟨rfl,hw'⟩; obtain rfl := hw'.symm; clear hw')
   go_roundw
   case rel => exact ⟨j,bx,by omega,hbl,by go_num,by go_num,HXN,HRN,HBN⟩
   case measure => simp [intOf] <;> omega
def goR (p : Int) (N : List Gd) (gs : List Int) (q x : Nat) (ys : List Nat) : List Int := ys.map fun y => ((trP (rwA p N gs) q (x ||| y) : Nat) : Int)
def goTo (zs : List Int) (k : Nat) : List Int := zs.take k ++ List.replicate (zs.length - k) 0
theorem q4v {zs : List Int} {k : Nat} (h : k ≤ zs.length) : (goTo zs k).length = zs.length := by simp [goTo]; omega
theorem q49 (zs : List Int) : goTo zs 0 = List.replicate zs.length 0 := by simp [goTo]
theorem q4u (zs : List Int) : goTo zs zs.length = zs := by simp [goTo]
theorem q48 {zs : List Int} {k : Nat} (h : k < zs.length) : (goTo zs k).set k (zs.getD k 0) = goTo zs (k + 1) := q4I rfl h
theorem q2L (p : Int) (aA : Option Addr) (nA cA : Nat) (aG : Option Addr) (nG cG : Nat) (aN : Option Addr) (nN cN : Nat) (N : List Gd) (gs : List Int) (q x : Nat) (aL : Option Addr) (nL cL : Nat) (ys : List Nat) (w : World) (hM : MayG p nA N gs) (hN : NdSl w aN nN cN N) (hG : ZSl w aG nG cG gs) (hL : LtC w aL nL cL ys) (hl : ys.length = nL) (hl2 : nL ≤ 256) (hq : q < nA) (hx : x < 256) (hy : ∀ k,k < nL → ys.getD k 0 < 256 ∧ x ||| ys.getD k 0 < 2 ^ p.toNat) :
  Calls Try.prog 40 #[.agg #[.int .i64 p,.slice aA nA cA,.slice aG nG cG,.slice aN nN cN],.int .i64 (q : Int),.int .u8 (x : Int),.slice aL nL cL] w fun e w' => e = .returned (.slice (some ⟨w.heap.size + 1,0,none⟩) nL nL) ∧ RowI w' 3 (w.heap.size + 1) (goR p N gs q x ys) ∧ Below w.heap.size w w' := by
 obtain ⟨Q,hQ⟩ : ∃ Q : Ending → World → Prop,Q = fun e w' => e = .returned (.slice (some ⟨w.heap.size + 1,0,none⟩) nL nL) ∧ RowI w' 3 (w.heap.size + 1) (goR p N gs q x ys) ∧ Below w.heap.size w w' := ⟨_,rfl⟩
 obtain ⟨zs,hzs⟩ : ∃ zs,zs = goR p N gs q x ys := ⟨_,rfl⟩
 have hzl : zs.length = nL := by rw [hzs,goR,List.length_map,hl]
 have HQ : Hid (∀ w',RowI w' 3 (w.heap.size + 1) (goTo zs nL) → Below w.heap.size w w' → Q (.returned (.slice (some ⟨w.heap.size + 1,0,none⟩) nL nL)) w') := fun w' h1 h2 => by rw [hQ,← hzs]; rw [← hzl,q4u] at h1; exact ⟨rfl,h1,h2⟩
 rw [← hQ]
 clear hQ
 obtain ⟨w1,hw1⟩ : ∃ w1,w1 = w.alloc (.cells #[.int .i64 p,.slice aA nA cA,.slice aG nG cG,.slice aN nN cN] 26 (0,0)) := ⟨_,rfl⟩
 have hb1 : Below w.heap.size w w1 := by rw [hw1]; exact q7 _ _
 have hA1 : AuB w1 w.heap.size p aA nA cA aG nG cG aN nN cN := by rw [hw1]; exact qa w p aA nA cA aG nG cG aN nN cN
 have hs1 : w1.heap.size = w.heap.size + 1 := by rw [hw1]; exact Array.size_push _
 have HW1 : Hid _ := hw1
 obtain ⟨w2,hw2⟩ : ∃ w2,w2 = w1.alloc (.cells (madeCells #[.int .i64 0] nL) 3) := ⟨_,rfl⟩
 have HW2 : Hid _ := hw2
 have hb2 : Below w1.heap.size w1 w2 := by rw [hw2]; exact q7 _ _
 have HR0 : Hid (RowI w2 3 w1.heap.size (goTo zs 0)) := by
  rw [q49,hzl,hw2]
  unfold RowI
  show _ = _
  rw [← madeI]
  exact (MapKept.heap_alloc w1 _).1
 have hmk := fun w => qF nL (by omega) w
 have HAA : Hid (∀ w',Below w1.heap.size w1 w' → AuB w' w.heap.size p aA nA cA aG nG cG aN nN cN) := fun w' hb => hA1.up hb
 have HB12 : Hid (∀ w',Below w1.heap.size w1 w' → Below w.heap.size w w') := fun w' hb => q5 hb1 hb
 have HN : Hid (∀ w',Below w.heap.size w w' → NdSl w' aN nN cN N ∧ ZSl w' aG nG cG gs ∧ LtC w' aL nL cL ys) := fun w' hb => ⟨hN.up hb,hG.up hb,hL.up hb⟩
 have hqR : q < nG := by have h1 := hG.hlen; have h2 := hM.len; omega
 have hi64 := q2Z hM (q := q) (by have h2 := hM.len; omega)
 have HTR : Hid (∀ l,l < 2 ^ p.toNat → goG N l 8 (gs.getD q 0) = some ((trP (rwA p N gs) q l : Nat) : Int)) := fun l hl => hM.tr hq hl
 have HI : Hid _ := hi64
 have HYY : Hid _ := hy
 have hP8 : 2 ^ p.toNat ≤ 256 := hM.k256
 have HZ : Hid (∀ k,k < nL → zs.getD k 0 = ((trP (rwA p N gs) q (x ||| ys.getD k 0) : Nat) : Int)) := fun k hk => by
  rw [hzs,goR,List.getD_eq_getElem?_getD,List.getElem?_map,List.getElem?_eq_getElem (by omega)]
  simp [List.getD_eq_getElem?_getD,List.getElem?_eq_getElem (show k < ys.length by omega)]
 have HZL : Hid _ := hzl
 have HLL : Hid _ := hl
 have HQ : Hid (∀ w',RowI w' 3 w1.heap.size (goTo zs nL) → Below w.heap.size w w' → Q (.returned (.slice (some ⟨w1.heap.size,0,none⟩) nL nL)) w') := by rw [hs1]; exact HQ.out
 have HB2 : Hid _ := hb2
 clear hM hN hG hL hy hi64 hzl hl hzs hw1 hw2 hb1 hb2 hs1 hA1
 go_enter Try.func40,Try.ntmps40
 go_wp2_with (first | rw [← HW2.out] | rw [← HW1.out])
 go_loopw [17] (fun i wr => ∃ k : Nat,k ≤ nL ∧ i = .int .i64 (k : Int) ∧ Hid (RowI wr 3 (w1.heap.size) (goTo zs k)) ∧ Hid (Below w1.heap.size w1 wr)) (fun i _ => nL - (intOf i).toNat)
 case atStart => exact ⟨0,Nat.zero_le _,rfl,HR0,HB2⟩
 case round =>
  obtain ⟨k,hk,rfl,HR,HB⟩ := hrel
  clear HR0 HB2 hmk
  by_cases hlt : k < nL
  ·have hBr := HB12.out wr HB.out
   obtain ⟨hNr,hGr,hLr⟩ := HN.out wr hBr
   obtain ⟨c0,c1,c2,c3⟩ := HAA.out wr HB.out
   have ixl := fun w' => hLr.idx nL k w' hlt (Nat.le_refl _)
   have cel := hLr.cell k hlt
   rw [q1e (by rw [HLL.out]; exact hlt)] at cel
   have ixg := fun w' => hGr.idx nG q w' hqR (Nat.le_refl _)
   have ceg := hGr.cell q hqR
   obtain ⟨hy8,hyl⟩ := HYY.out k hlt
   have hor := u8_or_nat x (ys.getD k 0) hx hy8
   have hgo := HTR.out _ hyl
   have jg : ∀ w',Below w.heap.size w w' → Calls Try.prog 53 #[.slice aN nN cN,.int .i64 (gs.getD q 0),.int .u8 ((x ||| ys.getD k 0 : Nat) : Int)] w' fun e w'' => e = .returned (.tuple #[.int .i64 ((trP (rwA p N gs) q (x ||| ys.getD k 0) : Nat) : Int),.bool true]) ∧ Below w'.heap.size w' w'' := fun w' hb => by
    have h := q3f aN nN cN N (gs.getD q 0) (x ||| ys.getD k 0) w' (HN.out w' hb).1 HI.out (by omega)
    rw [hgo] at h
    exact h
   have hz := HZ.out k hlt
   have HNX : Hid ((goTo zs k).set k (zs.getD k 0) = goTo zs (k + 1)) := q48 (by rw [HZL.out]; exact hlt)
   rw [hz] at HNX
   have ixw : ∀ w',(Instr.indexAt 23 (.slice (some ⟨w1.heap.size,0,none⟩) nL nL) (.int .i64 (k : Int))).run Try.prog w' = .ok (.pointer (some ⟨w1.heap.size,k,none⟩)) w' := fun w' => by
    have := qd (P := Try.prog) (T := 23) Try.underlying23 qb (a := some ⟨w1.heap.size,0,none⟩) (cap := nL) (n := nL) (fun e => by cases e) k w' hlt
    simpa [adOf,q8] using this
   have HWC : Hid (∀ w',Below wr.heap.size wr w' → RowI w' 3 (w1.heap.size) (goTo zs k) ∧ Below w1.heap.size w1 w') := fun w' hb => ⟨HR.out.up hb,q5 HB.out hb⟩
   have hkl : k < (goTo zs k).length := by rw [q4v (by rw [HZL.out]; exact hk),HZL.out]; exact hlt
   have HKL : Hid _ := hkl
   have jw := jg wr.drew (hBr.trans ((Below.refl _ _).drew))
   clear hNr hGr hLr hy8 hyl hgo hz hkl jg HN HAA HTR HZ hBr
   generalize ys.getD k 0 = y at *
   generalize x ||| y = l at *
   generalize trP (rwA p N gs) q l = t at *
   generalize gs.getD q 0 = rq at *
   generalize adOf aL k = al at *
   obtain ⟨al1,al2,al3⟩ := al
   generalize adOf aG q = ag at *
   obtain ⟨ag1,ag2,ag3⟩ := ag
   go_upto_region 5 with fail
   go_region_with (first
    | (go_at_call 53; (with_reducible refine jw.mono ?_); rintro e w6 ⟨rfl,hb6⟩; obtain ⟨hr6,hb7⟩ := HWC.out w6 (q5 ((Below.refl _ _).drew) hb6); have cb6 := hr6.cell HKL.out; have fz6 := hr6.frozen k; have HR6 : Hid (RowI (w6.setCell ⟨w1.heap.size,k,none⟩ (.int .i64 (t : Int))) 3 w1.heap.size (goTo zs (k + 1))) := (by have h := hr6.set k (t : Int); rw [HNX.out] at h; exact h); have HB6 : Hid (Below w1.heap.size w1 (w6.setCell ⟨w1.heap.size,k,none⟩ (.int .i64 (t : Int)))) := hb7.setCell (Nat.le_refl _) _; clear hb6 hr6 hb7)
    | fail)
   all_goals
    clear jw HWC HNX HKL c0 c1 c2 c3 cel ceg ixl ixg ixw hor HR HB cb6 fz6
    go_wp2_with fail
    go_roundw
    case rel => exact ⟨k + 1,by omega,by go_num,HR6,HB6⟩
    case measure => simp [intOf]; omega
  ·obtain rfl : k = nL := by omega
   have HE : Hid _ := HQ.out wr HR.out (HB12.out wr HB.out)
   clear HQ HR HB
   go_wp2
   exact HE.out
theorem LtRow.sl {w : World} {g : Nat} {ts : List Nat} (h : LtRow w g (ts.map Int.ofNat)) (hl : ts.length ≤ 1000) : LtC w (some ⟨g,0,none⟩) ts.length ts.length ts := by
 have had : ∀ k,adOf (some (⟨g,0,none⟩ : Addr)) k = ⟨g,k,none⟩ := fun k => by simp [adOf,q8]
 refine ⟨by simp,Nat.le_refl _,by unfold maxLen; omega,fun m k w' hk hm => ?_,fun k hk => ?_,fun k hk => by rw [had]; exact (Array.getElem?_eq_some_iff.1 h).1,(fun e => by cases e)⟩
 ·exact qd (P := Try.prog) (T := 67) Try.underlying67 qY (a := some ⟨g,0,none⟩) (cap := ts.length) (n := m) (fun e => by cases e) k w' hk
 ·rw [had,q6 h]
  simp [List.getElem?_eq_getElem hk,List.getD_eq_getElem?_getD]
theorem RowI.sl {w : World} {g : Nat} {zs : List Int} (h : RowI w 3 g zs) (hl : zs.length ≤ 1000) : ZSl w (some ⟨g,0,none⟩) zs.length zs.length zs := by
 have had : ∀ k,adOf (some (⟨g,0,none⟩ : Addr)) k = ⟨g,k,none⟩ := fun k => by simp [adOf,q8]
 refine ⟨rfl,Nat.le_refl _,by unfold maxLen; omega,fun m k w' hk hm => ?_,fun k hk => by rw [had]; exact h.cell hk,fun k hk => by rw [had]; exact h.lt,(fun e => by cases e)⟩
 exact qd (P := Try.prog) (T := 23) Try.underlying23 qb (a := some ⟨g,0,none⟩) (cap := zs.length) (n := m) (fun e => by cases e) k w' hk
structure GoM (w : World) (g : Nat) (hs : List Nat) (L S : Nat) (rs : List (List Int)) : Prop where
 out : w.heap[g]? = some (.cells ((hs.map fun h => Value.slice (some ⟨h,0,none⟩) S S) ++ List.replicate (L - hs.length) (Value.slice none 0 0)).toArray 23 (0,0))
 row : ∀ j,j < hs.length → RowI w 3 (hs.getD j 0) (rs.getD j [])
 lt : ∀ j,j < hs.length → g < hs.getD j 0
 inc : ∀ i j,i < j → j < hs.length → hs.getD i 0 < hs.getD j 0
theorem GoM.up {w w' : World} {g : Nat} {hs : List Nat} {L S : Nat} {rs : List (List Int)} (h : GoM w g hs L S rs) (hb : Below w.heap.size w w') : GoM w' g hs L S rs :=
 ⟨(hb.block g (Array.getElem?_eq_some_iff.1 h.out).1).trans h.out,fun j hj => (h.row j hj).up hb,h.lt,h.inc⟩
theorem GoM.put {w : World} {g : Nat} {hs : List Nat} {L S x : Nat} {rs : List (List Int)} (h : GoM w g hs L S rs) (hk : hs.length < L) (hx : RowI w 3 x (rs.getD hs.length [])) (hl : g < x) (hi : ∀ j,j < hs.length → hs.getD j 0 < x) :
  GoM (w.setCell ⟨g,hs.length,none⟩ (.slice (some ⟨x,0,none⟩) S S)) g (hs ++ [x]) L S rs := by
 have hg : ∀ j,j < hs.length → (hs ++ [x]).getD j 0 = hs.getD j 0 := fun j hj => by rw [List.getD_eq_getElem?_getD,List.getElem?_append_left hj,← List.getD_eq_getElem?_getD]
 have he : (hs ++ [x]).getD hs.length 0 = x := by simp [List.getD_eq_getElem?_getD]
 refine ⟨?_,fun j hj => ?_,fun j hj => ?_,fun i j hij hj => ?_⟩
 ·rw [heap_setCell_same w g hs.length _ _ _ h.out]
  congr 2
  rw [List.setIfInBounds_toArray]
  congr 1
  rw [List.set_append_right _ _ (by simp),List.length_map,Nat.sub_self]
  obtain ⟨d,hd⟩ : ∃ d,L - hs.length = d + 1 := ⟨L - hs.length - 1,by omega⟩
  have hd2 : L - (hs ++ [x]).length = d := by simp; omega
  rw [hd,hd2,List.replicate_succ,List.set_cons_zero]
  simp
 ·rw [List.length_append,List.length_singleton] at hj
  by_cases e : j = hs.length
  ·subst e; rw [he]; exact hx.other (by omega) _ _
  ·rw [hg j (by omega)]
   have := h.lt j (by omega)
   exact (h.row j (by omega)).other (by omega) _ _
 ·rw [List.length_append,List.length_singleton] at hj
  by_cases e : j = hs.length
  ·subst e; rw [he]; exact hl
  ·rw [hg j (by omega)]; exact h.lt j (by omega)
 ·rw [List.length_append,List.length_singleton] at hj
  by_cases e : j = hs.length
  ·subst e; rw [he,hg i hij]; exact hi i hij
  ·rw [hg j (by omega),hg i (by omega)]; exact h.inc i j hij (by omega)
theorem GoM.zz {w : World} {g : Nat} {hs : List Nat} {L S : Nat} {rs : List (List Int)} (h : GoM w g hs L S rs) (hk : hs.length = L) (hL : L ≤ 1000) (hS : S ≤ 1000) (hr : rs.length = L) (hrs : ∀ j,j < L → (rs.getD j []).length = S) (hz : ∀ r ∈ rs,∀ z ∈ r,I64 z) :
  ZzSl w (some ⟨g,0,none⟩) L L ((List.range L).map fun j => ⟨some ⟨hs.getD j 0,0,none⟩,S,S,rs.getD j []⟩) ∧ (((List.range L).map fun j => (⟨some ⟨hs.getD j 0,0,none⟩,S,S,rs.getD j []⟩ : Zc)).map Zc.zs) = rs := by
 refine ⟨⟨by simp,Nat.le_refl _,by unfold maxLen; omega,(fun e => by cases e),fun x hx k hk2 => ?_,fun r hr2 => ?_⟩,?_⟩
 ·injection hx with hx
  subst hx
  have hk3 : k < L := by simpa using hk2
  have := q6 h.out k
  rw [q8,Nat.zero_add,this]
  simp [List.getElem?_append_left (show k < (hs.map fun h => Value.slice (some ⟨h,0,none⟩) S S).length by simp; omega),List.getElem?_eq_getElem (show k < hs.length by omega),List.getD_eq_getElem?_getD]
 ·obtain ⟨j,hj,rfl⟩ := List.mem_map.1 hr2
  have hj2 := List.mem_range.1 hj
  have h1 := (h.row j (by omega)).sl (by rw [hrs j hj2]; exact hS)
  rw [hrs j hj2] at h1
  refine ⟨h1,fun z hzz => hz _ ?_ z hzz⟩
  show rs.getD j [] ∈ rs
  rw [List.getD_eq_getElem?_getD,List.getElem?_eq_getElem (by omega)]
  exact List.getElem_mem _
 ·apply List.ext_getElem (by simp [hr])
  intro i h1 h2
  simp [List.getD_eq_getElem?_getD,List.getElem?_eq_getElem h2]
theorem q3J : (Try.prog.info? 23).map (fun i => (i.zero,i.size,i.bytes)) = some (some (.slice none 0 0),1,24) := by kernel_rfl
theorem q4b (n : Nat) : madeCells #[.slice none 0 0] n = (List.replicate n (Value.slice none 0 0)).toArray := by
 apply Array.ext_getElem?
 intro i
 by_cases h : i < n
 ·simp [madeCells,h,Nat.mod_one]
 ·simp [madeCells,h]
theorem q3L (c : Nat) (hb : c ≤ 1000000) (w : World) :
  (Instr.makeSlice 43 (.int .i64 (c : Int)) (.int .i64 (c : Int))).run Try.prog w = .ok (.slice (some ⟨w.heap.size,0,none⟩) c c) (w.alloc (.cells (Array.replicate c (Value.slice none 0 0)) 23)) := by
 obtain ⟨i,hi,hz0,hz1,hz2⟩ := info_parts q3J
 have := run_make (P := Try.prog) w 43 23 i (.slice none 0 0) Try.underlying43 hi hz0 .i64 .i64 c c (by omega) (by omega) (by rw [hz2]; omega) (by omega)
 rw [this,hz1,← List.toArray_replicate,← q4b]
 simp only [Int.toNat_natCast,Nat.mul_one]
 rfl
def GosR (p : Int) (nA : Nat) (bs : List Bool) (N : List Gd) (gs : List Int) (x y : Nat) (q : Int) (w : World) (e : Ending) (w' : World) : Prop :=
 Below w.heap.size w w' ∧ ∃ X : Int,((X ≠ 0 ∧ e = .returned (.tuple #[.slice none 0 0,.int .i64 X]) ∧ Hid (GoeN p nA bs N gs x y q X [])) ∨
  (X = 0 ∧ ChkN p nA bs N gs x y 0 ∧ ∃ k g hs,q = ((k : Nat) : Int) ∧ k < nA ∧ w.heap.size ≤ g ∧ hs.length = (mvL x).length ∧ e = .returned (.tuple #[.slice (some ⟨g,0,none⟩) (mvL x).length (mvL x).length,.int .i64 0]) ∧ Hid (GoM w' g hs (mvL x).length (mvL y).length (goeL p N gs x y k))))
theorem q2c {p : Int} {N : List Gd} {gs : List Int} {e s i k : Nat} (h : k < (mvL e).length) : (goeL p N gs e s i).getD k [] = goR p N gs i ((mvL e).getD k 0) (mvL s) := by
 rw [goeL,List.getD_eq_getElem?_getD,List.getElem?_map,List.getElem?_eq_getElem h]
 simp [goR,List.getD_eq_getElem?_getD,List.getElem?_eq_getElem h]
theorem q1U (p : Int) (aA : Option Addr) (nA cA : Nat) (aG : Option Addr) (nG cG : Nat) (aN : Option Addr) (nN cN : Nat) (bs : List Bool) (N : List Gd) (gs : List Int) (x y : Nat) (q : Int) (w : World) (hB : BoSl w aA nA cA bs) (hN : NdSl w aN nN cN N) (hG : ZSl w aG nG cG gs) (hok : ∀ z ∈ gs,I64 z) (hx : x < 256) (hy : y < 256) :
  Calls Try.prog 22 #[.agg #[.int .i64 p,.slice aA nA cA,.slice aG nG cG,.slice aN nN cN],.agg #[.int .u8 (x : Int),.int .u8 (y : Int)],.int .i64 q] w (GosR p nA bs N gs x y q w) := by
 obtain ⟨Q,hQ⟩ : ∃ Q : Ending → World → Prop,Q = GosR p nA bs N gs x y q w := ⟨_,rfl⟩
 have HQ1 : Hid (∀ w' X,Below w.heap.size w w' → X ≠ 0 → GoeN p nA bs N gs x y q X [] → Q (.returned (.tuple #[.slice none 0 0,.int .i64 X])) w') := fun w' X h1 h2 h3 => by rw [hQ]; exact ⟨h1,X,.inl ⟨h2,rfl,h3⟩⟩
 have HQ2 : Hid (∀ w' k g hs,Below w.heap.size w w' → ChkN p nA bs N gs x y 0 → q = ((k : Nat) : Int) → k < nA → w.heap.size ≤ g → hs.length = (mvL x).length → GoM w' g hs (mvL x).length (mvL y).length (goeL p N gs x y k) → Q (.returned (.tuple #[.slice (some ⟨g,0,none⟩) (mvL x).length (mvL x).length,.int .i64 0])) w') := fun w' k g hs h1 h2 h3 h4 h5 h6 h7 => by rw [hQ]; exact ⟨h1,0,.inr ⟨rfl,h2,k,g,hs,h3,h4,h5,h6,rfl,h7⟩⟩
 rw [← hQ]
 clear hQ
 obtain ⟨w1,hw1⟩ : ∃ w1,w1 = w.alloc (.cells #[.int .i64 p,.slice aA nA cA,.slice aG nG cG,.slice aN nN cN] 26 (0,0)) := ⟨_,rfl⟩
 have hb1 : Below w.heap.size w w1 := by rw [hw1]; exact q7 _ _
 have hA1 : AuB w1 w.heap.size p aA nA cA aG nG cG aN nN cN := by rw [hw1]; exact qa w p aA nA cA aG nG cG aN nN cN
 have hs1 : w1.heap.size = w.heap.size + 1 := by rw [hw1]; exact Array.size_push _
 have HW1 : Hid _ := hw1
 obtain ⟨w2,hw2⟩ : ∃ w2,w2 = w1.alloc (.cells #[.int .u8 (x : Int),.int .u8 (y : Int)] 29 (0,0)) := ⟨_,rfl⟩
 have hb2 : Below w1.heap.size w1 w2 := by rw [hw2]; exact q7 _ _
 have hk2 : w2.heap[w1.heap.size]? = some (.cells #[.int .u8 (x : Int),.int .u8 (y : Int)] 29 (0,0)) := by rw [hw2]; exact (MapKept.heap_alloc w1 _).1
 have HW2 : Hid _ := hw2
 have HB2 : Hid (Below w.heap.size w w2) := q5 hb1 hb2
 have HA2 : Hid (AuB w2 w.heap.size p aA nA cA aG nG cG aN nN cN) := hA1.up hb2
 have HK2 : Hid (∀ w',Below w2.heap.size w2 w' → w'.heap[w1.heap.size]? = some (.cells #[.int .u8 (x : Int),.int .u8 (y : Int)] 29 (0,0))) := fun w' h => (h.block _ (Array.getElem?_eq_some_iff.1 hk2).1).trans hk2
 have HN : Hid (∀ w',Below w2.heap.size w2 w' → BoSl w' aA nA cA bs ∧ NdSl w' aN nN cN N ∧ ZSl w' aG nG cG gs ∧ AuB w' w.heap.size p aA nA cA aG nG cG aN nN cN ∧ Below w.heap.size w w') := fun w' hb => ⟨hB.up (q5 HB2.out hb),hN.up (q5 HB2.out hb),hG.up (q5 HB2.out hb),HA2.out.up hb,q5 HB2.out hb⟩
 have HOK : Hid _ := hok
 have jc := qw p aA nA cA aG nG cG aN nN cN bs N gs x y w2 (hB.up HB2.out) (hN.up HB2.out) (hG.up HB2.out) hok hx hy
 obtain ⟨c0,c1,c2,c3⟩ := HA2.out
 have s0 := q6 hk2 0
 have s1 := q6 hk2 1
 clear hB hN hG hok hw1 hb1 hs1 hw2 hb2 hk2 hA1
 go_enter Try.func22,Try.ntmps22
 go_wp2_with (first | rw [← HW2.out] | rw [← HW1.out])
 refine jc.mono ?_
 rintro e w3 ⟨hb3,X,rfl,hX⟩
 have HB3 : Hid (Below w2.heap.size w2 w3) := hb3
 clear jc hb3 c0 c1 c2 c3 s0 s1 HA2 HW1 HW2
 by_cases h0 : X = 0
 rotate_left
 ·have HE : Hid _ := HQ1.out w3 X (HN.out w3 HB3.out).2.2.2.2 h0 (.inl ⟨h0,hX.out,rfl⟩)
  have e1 : (X != 0) = true := by simpa using h0
  clear HQ1 HQ2 hX h0
  go_wp2
  exact HE.out
 subst h0
 obtain ⟨_,_,_,⟨c0,c1,c2,c3⟩,_⟩ := HN.out w3 HB3.out
 have s0 := q6 (HK2.out w3 HB3.out) 0
 have s1 := q6 (HK2.out w3 HB3.out) 1
 by_cases hq : 0 ≤ q ∧ q < (nA : Int)
 rotate_left
 ·have HE : Hid _ := HQ1.out w3 2 (HN.out w3 HB3.out).2.2.2.2 (by decide) (.inr (.inl ⟨hX.out,hq,rfl,rfl⟩))
  clear HQ1 HQ2 hX
  by_cases h0 : q < 0
  ·have e1 : decide (q < 0) = true := decide_eq_true h0
   clear hq h0
   go_wp2
   exact HE.out
  ·have e1 : decide (q < 0) = false := decide_eq_false h0
   have e2 : decide ((nA : Int) ≤ q) = true := decide_eq_true (by omega)
   clear hq h0
   go_wp2
   exact HE.out
 obtain ⟨k,rfl⟩ := Int.eq_ofNat_of_zero_le hq.1
 have hk : k < nA := by omega
 have e1 : decide ((k : Int) < 0) = false := by simp
 have e2 : decide ((nA : Int) ≤ (k : Int)) = false := decide_eq_false (by omega)
 have HM : Hid (MayG p nA N gs) := by rcases hX.out with ⟨_,h⟩ | ⟨_,_,h⟩ | ⟨_,_,_,h⟩ | ⟨h,_⟩ <;> first | exact h | cases h
 have HSP : Hid (SplitN p.toNat x y) := by rcases hX.out with ⟨_,h⟩ | ⟨_,_,h⟩ | ⟨_,_,_,h⟩ | ⟨_,_,h,_⟩ <;> first | exact h | cases h
 have HX : Hid (ChkN p nA bs N gs x y 0) := hX.out
 clear hq HQ1 hX
 have hbd : Below w3.heap.size w3 w3.drew := (Below.refl _ _).drew
 have k1 : Calls Try.prog 39 #[.int .u8 (x : Int)] w3.drew fun e w' => Below w3.heap.size w3 w' ∧ ∃ a,e = .returned (.slice (some ⟨a,0,none⟩) (mvL x).length (mvL x).length) ∧ LtRow w' a ((mvL x).map Int.ofNat) := (qH x w3.drew hx).mono fun e w' h => ⟨q5 hbd h.2.2,_,h.1,h.2.1⟩
 have k2 : ∀ wx,Calls Try.prog 39 #[.int .u8 (y : Int)] wx fun e w' => Below wx.heap.size wx w' ∧ ∃ a,e = .returned (.slice (some ⟨a,0,none⟩) (mvL y).length (mvL y).length) ∧ LtRow w' a ((mvL y).map Int.ofNat) := fun wx => (qH y wx hy).mono fun e w' h => ⟨h.2.2,_,h.1,h.2.1⟩
 have HTT : Hid (∀ wx,Below w3.heap.size w3 wx → wx.cell? ⟨w1.heap.size,0,none⟩ = some (.int .u8 (x : Int)) ∧ wx.cell? ⟨w1.heap.size,1,none⟩ = some (.int .u8 (y : Int))) := fun wx hb => by
  have := HK2.out wx (q5 HB3.out hb)
  exact ⟨q6 this 0,q6 this 1⟩
 clear hbd
 go_upto_region 6 with fail
 go_cut [9,10] (fun u v wx => ∃ a1 a2,u = .slice (some ⟨a1,0,none⟩) (mvL x).length (mvL x).length ∧ v = .slice (some ⟨a2,0,none⟩) (mvL y).length (mvL y).length ∧ Hid (LtRow wx a1 ((mvL x).map Int.ofNat)) ∧ Hid (LtRow wx a2 ((mvL y).map Int.ofNat)) ∧ Hid (Below w3.heap.size w3 wx))
 case first => as_aux_lemma =>
  go_region_law (first
   | (revert HB9; intro HB9; go_simp; (with_reducible refine (k2 w9).mono ?_); rintro e w10 ⟨hb10,a2,rfl,hl2⟩; have HB10 : Hid (Below w3.heap.size w3 w10) := q5 HB9.out hb10; have HL2 : Hid (LtRow w10 a2 ((mvL y).map Int.ofNat)) := hl2; have HL1 : Hid (LtRow w10 a1 ((mvL x).map Int.ofNat)) := (hb10.block a1 (Array.getElem?_eq_some_iff.1 HL9.out).1).trans HL9.out; obtain ⟨v0,v1⟩ := HTT.out w10 HB10.out; dsimp only)
   | (revert k1; intro k1; go_simp; (with_reducible refine k1.mono ?_); rintro e w9 ⟨hb9,a1,rfl,hl1⟩; have HB9 : Hid (Below w3.heap.size w3 w9) := hb9; have HL9 : Hid (LtRow w9 a1 ((mvL x).map Int.ofNat)) := hl1; obtain ⟨u0,u1⟩ := HTT.out w9 HB9.out; dsimp only)
   | fail)
  all_goals
   clear hb9 hl1 hb10 hl2
   go_wp2_with fail
   go_meet
   exact ⟨_,_,rfl,rfl,HL1,HL2,HB10⟩
 case rest =>
 obtain ⟨a1,a2,rfl,rfl,HL1,HL2,HB4⟩ := hcut
 generalize wc = w4 at *
 have HB24 : Hid (Below w2.heap.size w2 w4) := q5 HB3.out HB4.out
 clear k1 k2 HTT HB3 HB4 c0 c1 c2 c3 s0 s1 e1 e2 HK2
 have hLx := qp x
 have hLy := qp y
 have HROW : Hid (∀ j,j < (mvL x).length → (goeL p N gs x y k).getD j [] = goR p N gs k ((mvL x).getD j 0) (mvL y)) := fun j hj => q2c hj
 have HRND : Hid (∀ i j,i < (mvL x).length → j < (mvL y).length → (mvL x).getD i 0 < 256 ∧ (mvL y).getD j 0 < 256 ∧ (mvL x).getD i 0 ||| (mvL y).getD j 0 < 2 ^ p.toNat) := fun i j hi hj => by
  obtain ⟨h1,h2⟩ := q1d hi
  obtain ⟨h3,h4⟩ := q1d hj
  have h5 : x ||| y = 2 ^ p.toNat - 1 := HSP.out.2
  have h6 : 0 < 2 ^ p.toNat := Nat.two_pow_pos _
  have h7 : x ≤ x ||| y := Nat.left_le_or
  have h8 : y ≤ x ||| y := Nat.right_le_or
  exact ⟨h1,h3,Nat.or_lt_two_pow (by have := qi h2; omega) (by have := qi h4; omega)⟩
 have HE : Hid _ := fun w' g hs h1 h5 h6 h7 => HQ2.out w' k g hs h1 HX.out rfl hk h5 h6 h7
 have HL1s : Hid (∀ w',Below w4.heap.size w4 w' → LtC w' (some ⟨a1,0,none⟩) (mvL x).length (mvL x).length (mvL x)) := fun w' hb => (HL1.out.sl (by omega)).up hb
 have HL2s : Hid (∀ w',Below w4.heap.size w4 w' → LtC w' (some ⟨a2,0,none⟩) (mvL y).length (mvL y).length (mvL y)) := fun w' hb => (HL2.out.sl (by omega)).up hb
 have HLY : Hid ((mvL y).length = (mvL y).length) := rfl
 clear HQ2 HX HSP HL1 HL2
 generalize goeL p N gs x y k = rs at *
 generalize hLX : (mvL x).length = LX at *
 have HLX : Hid _ := hLX
 generalize hLY : (mvL y).length = LY at *
 have HLY2 : Hid _ := hLY
 clear hLX hLY HLY
 have hmk := fun w => q3L LX (by omega) w
 obtain ⟨w5,hw5⟩ : ∃ w5,w5 = w4.alloc (.cells (Array.replicate LX (Value.slice none 0 0)) 23) := ⟨_,rfl⟩
 have hc5 : w5.heap[w4.heap.size]? = some (.cells (Array.replicate LX (Value.slice none 0 0)) 23 (0,0)) := by rw [hw5]; exact (MapKept.heap_alloc w4 _).1
 have HB5 : Hid (Below w4.heap.size w4 w5) := by rw [hw5]; exact q7 _ _
 have HW5 : Hid _ := hw5
 have HG5 : Hid (GoM w5 w4.heap.size [] LX LY rs) := ⟨by simpa using hc5,fun j hj => absurd hj (Nat.not_lt_zero _),fun j hj => absurd hj (Nat.not_lt_zero _),fun i j _ hj => absurd hj (Nat.not_lt_zero _)⟩
 clear hw5 hc5
 go_wp2_with (rw [← HW5.out])
 go_loopw [40] (fun i wr => ∃ j : Nat,∃ hs : List Nat,j ≤ LX ∧ i = .int .i64 (j : Int) ∧ hs.length = j ∧ Hid (GoM wr w4.heap.size hs LX LY rs) ∧ Hid (Below w4.heap.size w4 wr)) (fun i _ => LX - (intOf i).toNat)
 case atStart => exact ⟨0,[],Nat.zero_le _,rfl,rfl,HG5,HB5⟩
 case round =>
  obtain ⟨j,hs,hj,rfl,hhs,HG,HB⟩ := hrel
  clear HG5 HB5 hmk
  by_cases hlt : j < LX
  ·have hl1 := HL1s.out wr HB.out
   have ixl := fun w' => hl1.idx LX j w' hlt (Nat.le_refl _)
   have cel := hl1.cell j hlt
   rw [q1e (by rw [HLX.out]; exact hlt)] at cel
   obtain ⟨hbo,hnd,hzg,⟨c0,c1,c2,c3⟩,hbw⟩ := HN.out wr (q5 HB24.out HB.out)
   have jr := q2L p aA nA cA aG nG cG aN nN cN N gs k ((mvL x).getD j 0) (some ⟨a2,0,none⟩) LY LY (mvL y) wr HM.out hnd hzg (HL2s.out wr HB.out) HLY2.out (by omega) hk (by
    rcases Nat.eq_zero_or_pos LY with h | h
    ·have := q1h y; have := HLY2.out; omega
    ·exact (HRND.out j 0 hlt h).1) (fun i hi => (HRND.out j i hlt hi).2)
   have HRJ : Hid _ := HROW.out j hlt
   have HGW : Hid (∀ w',Below wr.heap.size wr w' → GoM w' w4.heap.size hs LX LY rs ∧ Below w4.heap.size w4 w') := fun w' hb => ⟨HG.out.up hb,q5 HB.out hb⟩
   have hgl : w4.heap.size < wr.heap.size := (Array.getElem?_eq_some_iff.1 HG.out.out).1
   have HIN : Hid (∀ i,i < hs.length → hs.getD i 0 < wr.heap.size + 1) := fun i hi => by have := (HG.out.row i hi).lt; omega
   have ixw : ∀ w',(Instr.indexAt 43 (.slice (some ⟨w4.heap.size,0,none⟩) LX LX) (.int .i64 (j : Int))).run Try.prog w' = .ok (.pointer (some ⟨w4.heap.size,j,none⟩)) w' := fun w' => by
    have := qd (P := Try.prog) (T := 43) Try.underlying43 q14 (a := some ⟨w4.heap.size,0,none⟩) (cap := LX) (n := LX) (fun e => by cases e) j w' hlt
    simpa [adOf,q8] using this
   have hGL : Hid _ := hgl
   have HJ : Hid _ := hhs
   clear hl1 hbo hnd hzg hbw HG hgl hhs
   generalize (mvL x).getD j 0 = ex at *
   obtain ⟨al1,al2,al3⟩ : Addr := adOf (some ⟨a1,0,none⟩) j
   go_wp2_with fail
   refine jr.mono ?_
   rintro e w6 ⟨rfl,hr6,hb6⟩
   obtain ⟨hg6,hb46⟩ := HGW.out w6 hb6
   have HG7 : Hid (GoM (w6.setCell ⟨w4.heap.size,j,none⟩ (.slice (some ⟨wr.heap.size + 1,0,none⟩) LY LY)) w4.heap.size (hs ++ [wr.heap.size + 1]) LX LY rs) := by
    have h := hg6.put (x := wr.heap.size + 1) (by rw [HJ.out]; exact hlt) (by rw [HJ.out,HRJ.out]; exact hr6) (by have := hGL.out; omega) HIN.out
    rw [HJ.out] at h
    exact h
   have HB7 : Hid (Below w4.heap.size w4 (w6.setCell ⟨w4.heap.size,j,none⟩ (.slice (some ⟨wr.heap.size + 1,0,none⟩) LY LY))) := hb46.setCell (Nat.le_refl _) _
   obtain ⟨v6,cv6⟩ : ∃ v,w6.cell? ⟨w4.heap.size,j,none⟩ = some v := ⟨_,(q6 hg6.out j).trans (by rw [List.getElem?_toArray,List.getElem?_eq_getElem (by simp; have := HJ.out; omega)])⟩
   have fz6 := frozen_of_row _ _ j _ _ hg6.out
   clear jr hr6 hb6 hg6 hb46 HGW HIN
   go_wp2
   go_roundw
   case rel => exact ⟨j + 1,_,by omega,by go_num,by rw [List.length_append,List.length_singleton,HJ.out],HG7,HB7⟩
   case measure => simp [intOf]; omega
  ·obtain rfl : j = LX := by omega
   have HF : Hid _ := HE.out wr w4.heap.size hs (HN.out wr (q5 HB24.out HB.out)).2.2.2.2 (HN.out w4 HB24.out).2.2.2.2.size hhs HG.out
   clear HE HG HB
   go_wp2
   exact HF.out
theorem q2Y {p : Int} {nA : Nat} {N : List Gd} {gs : List Int} (h : MayG p nA N gs) {e s k : Nat} (hk : k < nA) (hs : SplitN p.toNat e s) : ∀ r ∈ goeL p N gs e s k,∀ z ∈ r,I64 z := fun r hr z hz => by
 obtain ⟨x,hx,rfl⟩ := List.mem_map.1 hr
 obtain ⟨y,hy,rfl⟩ := List.mem_map.1 hz
 have h1 := qi (qD.1 hx).2
 have h2 := qi (qD.1 hy).2
 have h5 : e ||| s = 2 ^ p.toNat - 1 := hs.2
 have h6 : 0 < 2 ^ p.toNat := Nat.two_pow_pos _
 have h7 : e ≤ e ||| s := Nat.left_le_or
 have h8 : s ≤ e ||| s := Nat.right_le_or
 have h9 := (h.rows (2 ^ p.toNat)).lt k (x ||| y) hk (Nat.or_lt_two_pow (by omega) (by omega))
 have h10 := h.s2
 have h11 : trP (rwA p N gs) k (x ||| y) < nA := h9
 exact ⟨by omega,by omega⟩
theorem ChkN.ok {p : Int} {nA : Nat} {bs : List Bool} {N : List Gd} {gs : List Int} {e s : Nat} (h : ChkN p nA bs N gs e s 0) : MayG p nA N gs ∧ bs.getD 0 false = false ∧ SplitN p.toNat e s := by
 rcases h with ⟨_,h⟩ | ⟨_,_,h⟩ | ⟨_,_,_,h⟩ | ⟨h1,h2,h3,_⟩
 ·cases h
 ·cases h
 ·cases h
 ·exact ⟨h1,h2,h3⟩
structure R3S (w : World) (a : Option Addr) (n c : Nat) (F : Nat → List (List Nat)) (m : Nat) : Prop where
 bd : n ≤ 1000
 row : ∀ q,q < n → ∃ (g o : Nat) (s : Option Nat) (a' : Option Addr) (c' : Nat),(∀ w',(Instr.indexAt 58 (.slice a n c) (.int .i64 (q : Int))).run Try.prog w' = .ok (.pointer (some ⟨g,o,s⟩)) w') ∧ w.cell? ⟨g,o,s⟩ = some (.slice a' (F q).length c') ∧ RwS w a' (F q).length c' (F q) m
theorem R3S.up {w w' : World} {a : Option Addr} {n c : Nat} {F : Nat → List (List Nat)} {m : Nat} (h : R3S w a n c F m) (hb : Below w.heap.size w w') : R3S w' a n c F m :=
 ⟨h.bd,fun q hq => by obtain ⟨g,o,s,a',c',h1,h2,h3⟩ := h.row q hq; exact ⟨g,o,s,a',c',h1,q9 h2 hb,h3.up hb⟩⟩
theorem q1C (g n k : Nat) (hk : k < n) (w : World) : (Instr.indexAt 22 (.slice (some ⟨g,0,none⟩) n n) (.int .i64 (k : Int))).run Try.prog w = .ok (.pointer (some ⟨g,k,none⟩)) w := by
 have := qd (P := Try.prog) (T := 22) Try.underlying22 qg (a := some ⟨g,0,none⟩) (cap := n) (n := n) (fun e => by cases e) k w hk
 simpa [adOf,q8] using this
theorem q1p (g n k : Nat) (hk : k < n) (w : World) : (Instr.indexAt 23 (.slice (some ⟨g,0,none⟩) n n) (.int .i64 (k : Int))).run Try.prog w = .ok (.pointer (some ⟨g,k,none⟩)) w := by
 have := qd (P := Try.prog) (T := 23) Try.underlying23 qb (a := some ⟨g,0,none⟩) (cap := n) (n := n) (fun e => by cases e) k w hk
 simpa [adOf,q8] using this
theorem BoRow.slX {w : World} {g n : Nat} {bs : List Bool} (h : BoRow w g bs) (hn : bs.length = n) (hb : n ≤ 1000) : BoSl w (some ⟨g,0,none⟩) n n bs := by
 refine ⟨hn,Nat.le_refl _,by unfold maxLen; omega,fun e => (by cases e),fun x hx k hk => ?_⟩
 injection hx with hx
 subst hx
 have := h.cellP hk
 rw [q8,Nat.zero_add,this,List.getD_eq_getElem?_getD,List.getElem?_eq_getElem hk]
 rfl
theorem BoRow.owns {w : World} {g base n : Nat} {cur : List Bool} (h : BoRow w g cur) (hb : base ≤ g) (hl : cur.length = n) (hm : n ≤ maxLen) : w.ownsRow base 4 1 (.slice (some ⟨g,0,none⟩) n n) n (cur.map Value.bool) :=
 ⟨by simp [hl],Or.inr ⟨g,n,_,rfl,hb,h,Nat.le_refl _,hm,by simp [hl],by rw [Nat.mul_one,List.take_of_length_le (by simp [hl])]⟩⟩
theorem qQ (a : Option Addr) (n c : Nat) (F : Nat → List (List Nat)) (aW : Option Addr) (cW : Nat) (ws : List Bool) (w : World) (hR : R3S w a n c F n) (hW : BoSl w aW n cW ws) :
  Calls Try.prog 31 #[.slice a n c,.slice aW n cW] w fun e w' => Below w.heap.size w w' ∧ e = .returned (.slice (some ⟨w.heap.size,0,none⟩) n n) ∧ Hid (BoRow w' w.heap.size ((List.range n).map (befA F (acA ws)))) := by
 obtain ⟨Q,hQ⟩ : ∃ Q : Ending → World → Prop,Q = fun e w' => Below w.heap.size w w' ∧ e = .returned (.slice (some ⟨w.heap.size,0,none⟩) n n) ∧ Hid (BoRow w' w.heap.size ((List.range n).map (befA F (acA ws)))) := ⟨_,rfl⟩
 have HQ : Hid (∀ w',Below w.heap.size w w' → BoRow w' w.heap.size ((List.range n).map (befA F (acA ws))) → Q (.returned (.slice (some ⟨w.heap.size,0,none⟩) n n)) w') := fun w' h1 h2 => by rw [hQ]; exact ⟨h1,rfl,h2⟩
 rw [← hQ]
 clear hQ
 have hn := hR.bd
 have HR : Hid (∀ w',Below w.heap.size w w' → R3S w' a n c F n ∧ BoSl w' aW n cW ws) := fun w' hb => ⟨hR.up hb,hW.up hb⟩
 have hmb := fun w => qB n n (n : Int) (n : Int) rfl rfl (Nat.le_refl _) (by omega) w
 obtain ⟨w1,hw1⟩ : ∃ w1,w1 = w.alloc (.cells ((zB n).map Value.bool).toArray 4) := ⟨_,rfl⟩
 have hb1 : Below w.heap.size w w1 := by rw [hw1]; exact q7 _ _
 have hg1 : BoRow w1 w.heap.size (zB n) := by rw [hw1]; exact (MapKept.heap_alloc w _).1
 have HW1 : Hid _ := hw1
 have HB1 : Hid (Below w.heap.size w w1) := hb1
 have HG1 : Hid (BoRow w1 w.heap.size (mixA (befA F (acA ws)) (fun _ => false) 0 n)) := by
  rw [qn]
  have : (List.range n).map (fun _ => false) = zB n := by apply List.ext_getElem <;> simp [zB]
  rw [this]; exact hg1
 clear hR hW hw1 hb1 hg1
 obtain ⟨g,hg⟩ : ∃ g,g = w.heap.size := ⟨_,rfl⟩
 rw [← hg] at HG1 HQ HB1 HR
 have HGS : Hid (g = w.heap.size) := hg
 go_enter Try.func31,Try.ntmps31
 go_wp2_with (rw [← HW1.out])
 rw [← hg]
 clear hmb hg HW1
 go_loopw [13] (fun i wr => ∃ k : Nat,k ≤ n ∧ i = .int .i64 (k : Int) ∧ Hid (Below g w wr) ∧ Hid (BoRow wr g (mixA (befA F (acA ws)) (fun _ => false) k n))) (fun i _ => n - (intOf i).toNat)
 case atStart => exact ⟨0,Nat.zero_le _,rfl,HB1,HG1⟩
 case round =>
  obtain ⟨k,hk,rfl,HB,HG⟩ := hrel
  clear HB1 HG1
  by_cases hlt : k < n
  ·have e1 : decide ((k : Int) < (n : Int)) = true := decide_eq_true (by omega)
   obtain ⟨hr,hbw⟩ := HR.out wr HB.out
   obtain ⟨x,o,s,a',c',ixr,cer,hrw⟩ := hr.row k hlt
   have ja := q1w a' (F k).length c' (F k) aW n cW ws wr hrw hbw
   have hbe : ((F k).all fun row => row.any (acA ws)) = befA F (acA ws) k := rfl
   rw [hbe] at ja
   have ixw := fun w' => q1C g n k hlt w'
   have cw := HG.out.cellP (i := k) (by rw [qe]; exact hlt)
   have fw := HG.out.fzP k
   have HG2 : Hid (BoRow (wr.setCell ⟨g,k,none⟩ (.bool (befA F (acA ws) k))) g (mixA (befA F (acA ws)) (fun _ => false) (k + 1) n)) := by
    rw [← qm hlt rfl]; exact HG.out.setP k _
   have HB2 : Hid (Below g w (wr.setCell ⟨g,k,none⟩ (.bool (befA F (acA ws) k)))) := HB.out.setCell (Nat.le_refl _) _
   clear hr hbw hrw hbe HB HG
   generalize befA F (acA ws) k = z at *
   generalize (F k).length = m at *
   go_wp2_with fail
   refine ja.mono ?_
   rintro e w' ⟨rfl,hw'⟩
   obtain rfl := hw'.symm
   clear hw' ja
   go_wp2
   go_roundw
   case rel => exact ⟨k + 1,by omega,by go_num,HB2,HG2⟩
   case measure => simp [intOf]; omega
  ·obtain rfl : k = n := by omega
   have e1 : decide ((k : Int) < (k : Int)) = false := by simp
   have h := HG.out
   rw [qt] at h
   have HE : Hid _ := HQ.out wr HB.out h
   clear HQ HB HG h
   go_wp2
   exact HE.out
end Go.Proofs.Ytbgogbafkoekjaa
