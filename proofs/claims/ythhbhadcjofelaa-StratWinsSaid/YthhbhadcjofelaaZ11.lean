/- Texts of the proof, put together: what it uses. -/
import Derived.Lib.QuietBelow
import Derived.BigQuiet
import Derived.Deep.DeepCutAuto
import Derived.BigRegion
import Derived.Deep.RegionLaw
import Derived.Test.YthhbhadcjofelaaZ08
import Derived.Test.YthhbhadcjofelaaZ10
set_option maxRecDepth 100000
set_option maxHeartbeats 16000000
namespace Go.Proofs.Ythhbhadcjofelaa
open Go.RowKit Go.Maps Go.Sort
theorem qY (m v : Nat) (w : World) (hm : m < 256) (hv : v < 256) : Calls Try.prog 81 #[.int .u8 (m : Int),.int .u8 (v : Int)] w fun e w' => e = .returned (.int .u8 ((belN m v : Nat) : Int)) ∧ w' = w := by
 by_cases h0 : v = 0
 ·subst h0
  have e1 : bits .and .u8 255 (m : Int) = (m : Int) := by
   have h := u8_and_nat 255 m (by decide) hm
   have h2 : 255 &&& m = m := by
    have h3 : (List.range 256).all (fun m => 255 &&& m == m) = true := by decide +kernel
    exact beq_iff_eq.1 (qB h3 m hm)
   rw [h2] at h
   exact h
  have HE : Hid (Ending.returned (.int .u8 (m : Int)) = .returned (.int .u8 ((belN m 0 : Nat) : Int))) := by simp [Hid,belN]
  go_enter Try.func81,Try.ntmps81
  go_wp2
  go_ret
  exact ⟨HE.out,rfl⟩
 ·obtain ⟨u,rfl⟩ : ∃ u,v = u + 1 := ⟨v - 1,by omega⟩
  have e0 : IntKind.u8.wrap (((u + 1 : Nat) : Int) - 1) = (u : Int) := by rw [show (((u + 1 : Nat) : Int) - 1) = (u : Int) by omega]; show (u : Int) % 256 = _; omega
  have e1 := u8_and_nat u m (by omega) hm
  have HE : Hid (Ending.returned (.int .u8 ((u &&& m : Nat) : Int)) = .returned (.int .u8 ((belN m (u + 1) : Nat) : Int))) := by simp [Hid,belN]
  go_enter Try.func81,Try.ntmps81
  go_wp2
  go_ret
  exact ⟨HE.out,rfl⟩
theorem q27 (n : Nat) (w : World) (hn : n ≤ 8) : Calls Try.prog 79 #[.int .i64 (n : Int)] w fun e w' => e = .returned (.int .u8 ((2 ^ n - 1 : Nat) : Int)) ∧ w' = w := by
 obtain rfl | rfl | rfl | rfl | rfl | rfl | rfl | rfl | rfl : n = 0 ∨ n = 1 ∨ n = 2 ∨ n = 3 ∨ n = 4 ∨ n = 5 ∨ n = 6 ∨ n = 7 ∨ n = 8 := by omega
 all_goals
  go_enter Try.func79,Try.ntmps79
  go_wp2
  go_ret
  exact ⟨rfl,rfl⟩
instance (p e s : Nat) : Decidable (SplitN p e s) := inferInstanceAs (Decidable (_ ∧ _))
theorem q28 (n x y : Nat) (w : World) (hn : n ≤ 8) (hx : x < 256) (hy : y < 256) : Calls Try.prog 51 #[.int .i64 (n : Int),.agg #[.int .u8 (x : Int),.int .u8 (y : Int)]] w fun e w' => e = .returned (.bool (decide (SplitN n x y))) ∧ Below w.heap.size w w' := by
 obtain ⟨Q,hQ⟩ : ∃ Q : Ending → World → Prop,Q = fun e w' => e = .returned (.bool (decide (SplitN n x y))) ∧ Below w.heap.size w w' := ⟨_,rfl⟩
 have HQ : Hid (∀ w' b,Below w.heap.size w w' → b = decide (SplitN n x y) → Q (.returned (.bool b)) w') := fun w' b h hb => by rw [hQ,hb]; exact ⟨rfl,h⟩
 rw [← hQ]
 clear hQ
 have hor := u8_or_nat x y hx hy
 have hand := u8_and_nat x y hx hy
 have hk := (MapKept.heap_alloc w (.cells #[.int .u8 (x : Int),.int .u8 (y : Int)] 29 (0,0))).1
 have c0 := q8 hk 0
 have c1 := q8 hk 1
 have je := fun w => q27 n w hn
 have HB0 : Hid _ := qb w (.cells #[.int .u8 (x : Int),.int .u8 (y : Int)] 29 (0,0))
 have HD : Hid (∀ a b : Bool,a = decide (x ||| y = 2 ^ n - 1) → b = decide (x &&& y = 0) → (a && b) = decide (SplitN n x y)) := fun a b ha hb => by
  rw [ha,hb]
  unfold SplitN
  by_cases h1 : x ||| y = 2 ^ n - 1 <;> by_cases h2 : x &&& y = 0 <;> simp [h1,h2]
 generalize 2 ^ n - 1 = M at *
 generalize x ||| y = o at *
 generalize x &&& y = a at *
 clear hk
 generalize hw1 : w.alloc (.cells #[.int .u8 (x : Int),.int .u8 (y : Int)] 29 (0,0)) = w1 at *
 have HW1 : Hid _ := hw1
 have cS : ∀ dd os,Calls Try.prog 79 #[.int .i64 (n : Int)] (grow (redrawn w1 dd) os) fun e w'' => e = .returned (.int .u8 ((M : Nat) : Int)) ∧ ∃ p : Regrown,w'' = grow (redrawn w1 p.d) p.os := fun dd os => by
  refine (je _).mono ?_
  rintro e w'' ⟨rfl,rfl⟩
  exact ⟨rfl,regrown_of_below (below_regrown w1 dd os)⟩
 have HE : Hid (∀ dd os,Below w.heap.size w (grow (redrawn w1 dd) os)) := fun dd os => q9 HB0.out (below_regrown w1 dd os)
 have z0 := cell_regrown c0
 have z1 := cell_regrown c1
 clear hw1 je c0 c1
 have hM : (o : Int) = (M : Int) ↔ o = M := by omega
 have hA : (a : Int) = 0 ↔ a = 0 := by omega
 have HM : Hid _ := hM
 have HA : Hid _ := hA
 clear hM hA
 cases hb1 : ((o : Int) == (M : Int)) with
 | true =>
  have HO : Hid _ := HM.out.1 (beq_iff_eq.1 hb1)
  cases hb2 : ((a : Int) == 0) with
  | true =>
   have HF : Hid (true = decide (SplitN n x y)) := HD.out true true (decide_eq_true HO.out).symm (decide_eq_true (HA.out.1 (beq_iff_eq.1 hb2))).symm
   clear HD
   go_enter Try.func51,Try.ntmps51
   go_upto_region 1 with (rw [HW1.out])
   refine wp_region_quiet_below (by kernel_rfl) (by kernel_rfl) ?_
   repeat (go_big_quiet_step (exact cS _ _))
   refine wpQuiet_nil ?_
   intro _ hw'
   obtain ⟨⟨dq,osq⟩,hw''⟩ := hw'
   subst hw''
   have HX : Hid _ := HQ.out _ _ (HE.out dq osq) HF.out
   clear HQ HE cS z0 z1
   generalize grow (redrawn w1 dq) osq = wx at *
   go_wp2
   exact HX.out
  | false =>
   have HF : Hid (false = decide (SplitN n x y)) := HD.out true false (decide_eq_true HO.out).symm (decide_eq_false fun h => by rw [HA.out.2 h] at hb2; cases hb2).symm
   clear HD
   go_enter Try.func51,Try.ntmps51
   go_upto_region 1 with (rw [HW1.out])
   refine wp_region_quiet_below (by kernel_rfl) (by kernel_rfl) ?_
   repeat (go_big_quiet_step (exact cS _ _))
   refine wpQuiet_nil ?_
   intro _ hw'
   obtain ⟨⟨dq,osq⟩,hw''⟩ := hw'
   subst hw''
   have HX : Hid _ := HQ.out _ _ (HE.out dq osq) HF.out
   clear HQ HE cS z0 z1
   generalize grow (redrawn w1 dq) osq = wx at *
   go_wp2
   exact HX.out
 | false =>
  have HF : Hid (false = decide (SplitN n x y)) := HD.out false _ (decide_eq_false fun h => by rw [HM.out.2 h] at hb1; simp at hb1).symm rfl
  clear HD
  go_enter Try.func51,Try.ntmps51
  go_upto_region 1 with (rw [HW1.out])
  refine wp_region_quiet_below (by kernel_rfl) (by kernel_rfl) ?_
  repeat (go_big_quiet_step (exact cS _ _))
  refine wpQuiet_nil ?_
  intro _ hw'
  obtain ⟨⟨dq,osq⟩,hw''⟩ := hw'
  subst hw''
  have HX : Hid _ := HQ.out _ _ (HE.out dq osq) HF.out
  clear HQ HE cS z0 z1
  generalize grow (redrawn w1 dq) osq = wx at *
  go_wp2
  exact HX.out
theorem qv (p : Int) (aA : Option Addr) (nA cA : Nat) (aG : Option Addr) (nG cG : Nat) (aN : Option Addr) (nN cN : Nat) (bs : List Bool) (N : List Gd) (gs : List Int) (x y : Nat) (w : World) (hB : BoSl w aA nA cA bs) (hN : NdSl w aN nN cN N) (hG : ZSl w aG nG cG gs) (hok : ∀ z ∈ gs,I64 z) (hx : x < 256) (hy : y < 256) :
  Calls Try.prog 25 #[.agg #[.int .i64 p,.slice aA nA cA,.slice aG nG cG,.slice aN nN cN],.agg #[.int .u8 (x : Int),.int .u8 (y : Int)]] w fun e w' => Below w.heap.size w w' ∧ ∃ X : Int,e = .returned (.int .i64 X) ∧ Hid (ChkN p nA bs N gs x y X) := by
 obtain ⟨Q,hQ⟩ : ∃ Q : Ending → World → Prop,Q = fun e w' => Below w.heap.size w w' ∧ ∃ X : Int,e = .returned (.int .i64 X) ∧ Hid (ChkN p nA bs N gs x y X) := ⟨_,rfl⟩
 have HQ : Hid (∀ w' X,Below w.heap.size w w' → ChkN p nA bs N gs x y X → Q (.returned (.int .i64 X)) w') := fun w' X h hb => by rw [hQ]; exact ⟨h,X,rfl,hb⟩
 rw [← hQ]
 clear hQ
 obtain ⟨w1,hw1⟩ : ∃ w1,w1 = w.alloc (.cells #[.int .i64 p,.slice aA nA cA,.slice aG nG cG,.slice aN nN cN] 26 (0,0)) := ⟨_,rfl⟩
 have hb1 : Below w.heap.size w w1 := by rw [hw1]; exact qb _ _
 have HA1 : Hid (AuB w1 w.heap.size p aA nA cA aG nG cG aN nN cN) := by rw [hw1]; exact qj w p aA nA cA aG nG cG aN nN cN
 have HW1 : Hid _ := hw1
 obtain ⟨w2,hw2⟩ : ∃ w2,w2 = w1.alloc (.cells #[.int .u8 (x : Int),.int .u8 (y : Int)] 29 (0,0)) := ⟨_,rfl⟩
 have hb2 : Below w1.heap.size w1 w2 := by rw [hw2]; exact qb _ _
 have hk2 : w2.heap[w1.heap.size]? = some (.cells #[.int .u8 (x : Int),.int .u8 (y : Int)] 29 (0,0)) := by rw [hw2]; exact (MapKept.heap_alloc w1 _).1
 have HW2 : Hid _ := hw2
 have HB2 : Hid (Below w.heap.size w w2) := q9 hb1 hb2
 have HA2 : Hid (AuB w2 w.heap.size p aA nA cA aG nG cG aN nN cN) := HA1.out.up hb2
 have HK2 : Hid (w2.heap[w1.heap.size]? = some (.cells #[.int .u8 (x : Int),.int .u8 (y : Int)] 29 (0,0))) := hk2
 have HL2 : Hid (w1.heap.size < w2.heap.size) := (Array.getElem?_eq_some_iff.1 hk2).1
 have jc := q2Y p aA nA cA aG nG cG aN nN cN N gs w2 (hN.up HB2.out) (hG.up HB2.out) hok
 have HBB : Hid _ := hB
 obtain ⟨c0,c1,c2,c3⟩ := HA2.out
 have hsz : w1.heap.size = w.heap.size + 1 := by rw [hw1]; exact Array.size_push _
 clear hB hN hG hok hw1 hb1 hw2 hb2 hk2 HA1
 go_enter Try.func25,Try.ntmps25
 go_wp2_with (first | rw [← HW2.out] | rw [← HW1.out])
 refine jc.mono ?_
 rintro e w3 ⟨hb3,v,rfl,⟨rfl,hM⟩ | ⟨rfl,hM⟩⟩
 rotate_left
 ·have HE : Hid _ := HQ.out w3 12 (q9 HB2.out hb3) (.inl ⟨hM,rfl⟩)
  clear HQ hM hb3 jc
  go_wp2
  exact HE.out
 have HB3 : Hid (Below w.heap.size w w3) := q9 HB2.out hb3
 have HA3 : Hid (AuB w3 w.heap.size p aA nA cA aG nG cG aN nN cN) := HA2.out.up hb3
 have HK3 : Hid (w3.heap[w1.heap.size]? = some (.cells #[.int .u8 (x : Int),.int .u8 (y : Int)] 29 (0,0))) := (hb3.block _ HL2.out).trans HK2.out
 have HM : Hid _ := hM
 have h1n : 0 < nA := by have := hM.s1; omega
 obtain ⟨P,rfl⟩ := Int.eq_ofNat_of_zero_le hM.p0
 have hP : P ≤ 8 := by have := hM.p8; omega
 clear jc hb3 hM c0 c1 c2 c3 HA2 HK2 HL2 HB2
 obtain ⟨c0,c1,c2,c3⟩ := HA3.out
 have s0 := q8 HK3.out 0
 have s1 := q8 HK3.out 1
 rw [hsz] at s0 s1
 clear hsz
 obtain ⟨ix0,ce0⟩ : (∀ w',(Instr.indexAt 22 (.slice aA nA cA) (.int .i64 0)).run Try.prog w' = .ok (.pointer (some (adOf aA 0))) w') ∧ w3.cell? (adOf aA 0) = some (.bool (bs.getD 0 false)) := (HBB.out.up HB3.out).getQ h1n
 generalize adOf aA 0 = ad at *
 obtain ⟨ad1,ad2,ad3⟩ := ad
 cases hb0 : bs.getD 0 false with
 | true =>
  rw [hb0] at ce0
  have HE : Hid _ := HQ.out w3 12 HB3.out (.inr (.inl ⟨HM.out,hb0,rfl⟩))
  clear HQ hb0
  go_wp2
  exact HE.out
 | false =>
 rw [hb0] at ce0
 have js := q28 P x y w3 hP hx hy
 have HSP : Hid (∀ b,b = decide (SplitN P x y) → (b = true ∧ ChkN (P : Int) nA bs N gs x y 0) ∨ (b = false ∧ ChkN (P : Int) nA bs N gs x y 13)) := fun b hb => by
  by_cases h : SplitN P x y
  ·exact .inl ⟨by rw [hb]; exact decide_eq_true h,.inr (.inr (.inr ⟨HM.out,hb0,by rw [Int.toNat_natCast]; exact h,rfl⟩))⟩
  ·exact .inr ⟨by rw [hb]; exact decide_eq_false h,.inr (.inr (.inl ⟨HM.out,hb0,by rw [Int.toNat_natCast]; exact h,rfl⟩))⟩
 obtain ⟨b,hb⟩ : ∃ b,b = decide (SplitN P x y) := ⟨_,rfl⟩
 have HSQ : Hid _ := HSP.out b hb
 rw [← hb] at js
 clear hb HSP hb0
 go_wp2_with fail
 refine js.mono ?_
 rintro e w4 ⟨rfl,hb4⟩
 have HB4 : Hid _ := q9 HB3.out hb4
 clear js hb4
 rcases HSQ.out with ⟨rfl,hc⟩ | ⟨rfl,hc⟩
 ·have HE : Hid _ := HQ.out w4 0 HB4.out hc
  clear HQ hc HSQ
  go_wp2
  exact HE.out
 ·have HE : Hid _ := HQ.out w4 13 HB4.out hc
  clear HQ hc HSQ
  go_wp2
  exact HE.out
theorem q2O (x : Nat) (w : World) (hx : x < 256) :
  Calls Try.prog 80 #[.int .u8 (x : Int)] w fun e w' => e = .returned (.int .i64 (Go.Lib.onesCount x : Int)) ∧ w' = w := by
 have h0 : (0 : Int) ≤ (x : Int) := by omega
 have h1 : (x : Int) ≤ 255 := by omega
 have HX : Hid (wrap64 (Go.Lib.pop8 (x : Int)) = (Go.Lib.onesCount x : Int)) := by
  have h := Go.Lib.pop8_int (x : Int) h0 h1
  rw [Int.toNat_natCast] at h
  show _ = _
  unfold wrap64
  exact h
 go_enter Try.func80,Try.ntmps80
 go_wp2
 go_ret
 exact ⟨by rw [← HX.out]; rfl,rfl⟩
theorem q3j (n : Nat) : ((allTo 0 n).map (Value.int .u8)).toArray = ((List.replicate n (0 : Int)).map (Value.int .u8)).toArray := by
 congr 2
 apply List.ext_getElem (by simp [allTo])
 intro i h1 h2
 simp [allTo]
def MvsR (m : Nat) (w : World) (e : Ending) (w' : World) : Prop := e = .returned (.slice (some ⟨w.heap.size,0,none⟩) (mvL m).length (mvL m).length) ∧ LtRow w' w.heap.size ((mvL m).map Int.ofNat) ∧ Below w.heap.size w w'
theorem qq (m : Nat) (w : World) (hm : m < 256) : Calls Try.prog 52 #[.int .u8 (m : Int)] w (MvsR m w) := by
 obtain ⟨Q,hQ⟩ : ∃ Q : Ending → World → Prop,Q = MvsR m w := ⟨_,rfl⟩
 obtain ⟨L,hL⟩ : ∃ L,L = (mvL m).length := ⟨_,rfl⟩
 have HQ : Hid (∀ w',LtRow w' w.heap.size (mvTo m 0) → Below w.heap.size w w' → Q (.returned (.slice (some ⟨w.heap.size,0,none⟩) L L)) w') := fun w' h1 h2 => by rw [hQ,hL]; rw [q4b] at h1; exact ⟨rfl,h1,h2⟩
 rw [← hQ]
 clear hQ
 have hLle : L ≤ 256 := by rw [hL]; exact ql m
 have hLp : 0 < L := by rw [hL]; exact qF m
 have hcb : 2 ^ cbN m 8 = L := by rw [hL,q52 m hm]
 have hc8 := q5j m 8
 have jo := fun w => q2O m w hm
 rw [q57 hm] at jo
 have hsh : wrap64 ((2 : Int) ^ cbN m 8) = (L : Int) := by
  have h3 : ((2 ^ cbN m 8 : Nat) : Int) = (2 : Int) ^ cbN m 8 := by simp
  rw [← h3,hcb]
  exact qN hLle
 have hmk := fun w => q17 L (by omega) w
 obtain ⟨w1,hw1⟩ : ∃ w1,w1 = w.alloc (.cells ((allTo 0 L).map (Value.int .u8)).toArray 27) := ⟨_,rfl⟩
 have HW1 : Hid _ := hw1
 have HR0 : Hid (LtRow w1 w.heap.size (mvTo m L)) := by rw [hw1,hL,q4w,q3j]; exact (MapKept.heap_alloc w _).1
 have HB0 : Hid (Below w.heap.size w w1) := by rw [hw1]; exact qb w _
 have HC : Hid (∀ k,k + 1 < L → belN m ((mvL m).getD (k + 1) 0) = (mvL m).getD k 0) := fun k hk => ((qS hm).2.2 k (by rw [← hL]; exact hk)).2
 have HT : Hid ((mvL m).getD (L - 1) 0 = m) := by rw [hL]; exact (qS hm).2.1
 have HAT : Hid (∀ k,k < L → (mvL m).getD k 0 < 256) := fun k hk => (qi (by rw [← hL]; exact hk)).1
 have HST : Hid (∀ k,k < L → (mvTo m (k + 1)).set k (((mvL m).getD k 0 : Nat) : Int) = mvTo m k) := fun k hk => q4v (by rw [← hL]; exact hk)
 have jb := fun v w => qY m v w hm
 have HLL : Hid _ := hL
 clear hL hcb hw1
 generalize cbN m 8 = c8 at *
 go_enter Try.func52,Try.ntmps52
 go_wp2_with fail
 refine (jo _).mono ?_
 rintro e w' ⟨rfl,hw'⟩
 obtain rfl := hw'.symm
 clear hw'
 go_wp2_with (rw [← HW1.out])
 clear hsh hmk jo
 go_loopw [4,5] (fun u v wr => ∃ k x : Nat,k ≤ L ∧ x < 256 ∧ u = .int .u8 (x : Int) ∧ v = .int .i64 ((k : Int) - 1) ∧ Hid (0 < k → x = (mvL m).getD (k - 1) 0) ∧ Hid (LtRow wr w.heap.size (mvTo m k)) ∧ Hid (Below w.heap.size w wr)) (fun _ v _ => (intOf v + 1).toNat)
 case atStart => exact ⟨L,m,Nat.le_refl _,hm,by go_num,by go_num,fun _ => HT.out.symm,HR0,HB0⟩
 case round =>
  obtain ⟨k,x,hk,hx,rfl,rfl,HX,HR,HB⟩ := hrel
  clear HR0 HB0
  by_cases h0 : k = 0
  ·subst h0
   have HE : Hid _ := HQ.out wr HR.out HB.out
   clear HQ HX HR HB
   go_wp2
   exact HE.out
  ·obtain ⟨j,rfl⟩ : ∃ j,k = j + 1 := ⟨k - 1,by omega⟩
   have hjL : j < L := by omega
   have hxv : x = (mvL m).getD j 0 := HX.out (by omega)
   have hix := fun w' => q1n w.heap.size L j hjL w'
   have hjm : j < (mvL m).length := by rw [← HLL.out]; exact hjL
   obtain ⟨b,cb⟩ : ∃ b,wr.cell? ⟨w.heap.size,j,none⟩ = some (.int .u8 b) := ⟨_,(q8 HR.out j).trans (by simp [q1L hjm]; rfl)⟩
   have zb := frozen_of_row _ _ j _ _ HR.out
   have HRN : Hid (LtRow (wr.setCell ⟨w.heap.size,j,none⟩ (.int .u8 (x : Int))) w.heap.size (mvTo m j)) := by
    unfold LtRow
    show _ = _
    rw [heap_setCell_same wr _ j _ _ (.int .u8 (x : Int)) HR.out,← HST.out j hjL,hxv]
    simp [List.map_set]
   have HBN : Hid (Below w.heap.size w (wr.setCell ⟨w.heap.size,j,none⟩ (.int .u8 (x : Int)))) := HB.out.setCell (Nat.le_refl _) _
   have HXN : Hid (0 < j → belN m x = (mvL m).getD (j - 1) 0) := fun h => by
    obtain ⟨i,rfl⟩ : ∃ i,j = i + 1 := ⟨j - 1,by omega⟩
    rw [hxv]
    exact HC.out i hjL
   have hbl := q4P (v := x) hm
   have e0 : ((j + 1 : Nat) : Int) - 1 = (j : Int) := by omega
   have jb1 := fun w => jb x w hx
   clear hjm HX HR HB jb hxv
   generalize belN m x = bx at *
   rw [e0]
   clear e0
   go_wp2_with (go_at_call 81; refine (jb1 _).mono ?_; rintro e w' ⟨rfl,hw'⟩; obtain rfl := hw'.symm; clear hw')
   go_roundw
   case rel => exact ⟨j,bx,by omega,hbl,by go_num,by go_num,HXN,HRN,HBN⟩
   case measure => simp [intOf] <;> omega
theorem q4O {m : Nat} (hm : m < 256) {i : Nat} (hi : i < (mvL m).length) (h0 : (mvL m).getD i 0 ≠ 0) : ∃ j,i = j + 1 ∧ belN m ((mvL m).getD i 0) = (mvL m).getD j 0 := by
 cases i with
 | zero => exact absurd (qS hm).1 h0
 | succ j => exact ⟨j,rfl,((qS hm).2.2 j hi).2⟩
theorem qO (m v : Nat) (w : World) (hm : m < 256) (hv : v < 256) : Calls Try.prog 69 #[.int .u8 (m : Int),.int .u8 (v : Int)] w fun e w' => w' = w ∧ ∃ n E : Int,e = .returned (.tuple #[.int .i64 n,.int .i64 E]) ∧ Hid (NumN m v n E) := by
 obtain ⟨Q,hQ⟩ : ∃ Q : Ending → World → Prop,Q = fun e w' => w' = w ∧ ∃ n E : Int,e = .returned (.tuple #[.int .i64 n,.int .i64 E]) ∧ Hid (NumN m v n E) := ⟨_,rfl⟩
 have HQ : Hid (∀ n E : Int,NumN m v n E → Q (.returned (.tuple #[.int .i64 n,.int .i64 E])) w) := fun n E h => by rw [hQ]; exact ⟨rfl,n,E,rfl,h⟩
 rw [← hQ]
 clear hQ
 have hnot := q2u hm hv
 by_cases hin : v &&& m = v
 ·rw [decide_eq_true hin] at hnot
  have hn2 : bits .andNot .u8 (v : Int) (m : Int) = 0 := beq_iff_eq.1 hnot
  obtain ⟨i,hi,hiv⟩ := q3k hv hin
  have HE : Hid _ := HQ.out (i : Int) 0 (.inl ⟨hin,rfl,i,rfl,hi,hiv⟩)
  have HI : Hid (∀ k,k ≤ i → k < (mvL m).length) := fun k hk => by omega
  have HNX : Hid (∀ k,k ≤ i → (mvL m).getD k 0 ≠ 0 → ∃ j,k = j + 1 ∧ belN m ((mvL m).getD k 0) = (mvL m).getD j 0) := fun k hk h0 => q4O hm (by omega) h0
  have HZ : Hid (∀ k,k ≤ i → (mvL m).getD k 0 = 0 → k = 0) := fun k hk h0 => by
   cases k with
   | zero => rfl
   | succ j => exact absurd h0 ((qS hm).2.2 j (by omega)).1
  have HV : Hid ((mvL m).getD i 0 = v) := hiv
  have hi256 : i < 256 := Nat.lt_of_lt_of_le hi (ql m)
  have jb := fun v w => qY m v w hm
  clear HQ hnot hin hi hiv
  go_enter Try.func69,Try.ntmps69
  go_wp2
  clear hn2
  go_loopw [1,6] (fun u n wr => ∃ k x : Nat,k ≤ i ∧ x < 256 ∧ u = .int .u8 (x : Int) ∧ n = .int .i64 ((i - k : Nat) : Int) ∧ Hid (x = (mvL m).getD k 0) ∧ wr = w) (fun u _ _ => (intOf u).toNat)
  case atStart => exact ⟨i,v,Nat.le_refl _,hv,rfl,by simp,HV.out.symm,rfl⟩
  case round =>
   obtain ⟨k,x,hk,hx,rfl,rfl,HX,hwr⟩ := hrel
   subst hwr
   by_cases h0 : x = 0
   ·subst h0
    obtain rfl := HZ.out k hk HX.out.symm
    have e0 : ((i - 0 : Nat) : Int) = (i : Int) := by simp
    rw [e0]
    clear HX
    go_wp2
    exact HE.out
   ·obtain ⟨j,rfl,hb⟩ := HNX.out k hk (by rw [← HX.out]; exact h0)
    rw [← HX.out] at hb
    have hj := (qi (HI.out j (by omega))).1
    have HJ : Hid (belN m x = (mvL m).getD j 0) := hb
    have e1 : ((x : Int) != 0) = true := by simp; omega
    have jb1 := fun w => jb x w hx
    rw [hb] at jb1
    have hlt : (mvL m).getD j 0 < x := by
     rw [← hb,belN,if_neg h0]
     have : (x - 1) &&& m ≤ x - 1 := Nat.and_le_left
     omega
    have e2 : ((i - (j + 1) : Nat) : Int) + 1 = ((i - j : Nat) : Int) := by omega
    have e3 : IntKind.i64.wrap (((i - (j + 1) : Nat) : Int) + 1) = ((i - j : Nat) : Int) := by rw [e2,IntKind.wrap_i64]; omega
    clear hb HX HJ jb
    have HY : Hid ((mvL m).getD j 0 = (mvL m).getD j 0) := rfl
    generalize hy : (mvL m).getD j 0 = y at *
    have HYY : Hid _ := hy
    clear hy
    generalize ((i - (j + 1) : Nat) : Int) = ik at *
    generalize hij : ((i - j : Nat) : Int) = jk at *
    have HIJ : Hid _ := hij
    clear hij e2
    go_wp2_with (go_at_call 81; refine (jb1 _).mono ?_; rintro e w' ⟨rfl,hw'⟩; obtain rfl := hw'.symm; clear hw')
    go_roundw
    case rel => exact ⟨j,y,by omega,hj,rfl,by rw [HIJ.out],HYY.out.symm,trivial⟩
    case measure => simp [intOf] <;> omega
 ·rw [decide_eq_false hin] at hnot
  have HE : Hid _ := HQ.out 0 14 (.inr ⟨hin,rfl,rfl⟩)
  have e1 : (bits .andNot .u8 (v : Int) (m : Int) != 0) = true := by simp only [bne,hnot]; rfl
  clear HQ hin
  go_enter Try.func69,Try.ntmps69
  go_wp2
  exact HE.out
def goR (p : Int) (N : List Gd) (gs : List Int) (q x : Nat) (ys : List Nat) : List Int := ys.map fun y => ((trP (rwA p N gs) q (x ||| y) : Nat) : Int)
def goTo (zs : List Int) (k : Nat) : List Int := zs.take k ++ List.replicate (zs.length - k) 0
theorem q4r {zs : List Int} {k : Nat} (h : k ≤ zs.length) : (goTo zs k).length = zs.length := by simp [goTo]; omega
theorem q47 (zs : List Int) : goTo zs 0 = List.replicate zs.length 0 := by simp [goTo]
theorem q4q (zs : List Int) : goTo zs zs.length = zs := by simp [goTo]
theorem q46 {zs : List Int} {k : Nat} (h : k < zs.length) : (goTo zs k).set k (zs.getD k 0) = goTo zs (k + 1) := q4H rfl h
theorem q2V (p : Int) (aA : Option Addr) (nA cA : Nat) (aG : Option Addr) (nG cG : Nat) (aN : Option Addr) (nN cN : Nat) (N : List Gd) (gs : List Int) (q x : Nat) (aL : Option Addr) (nL cL : Nat) (ys : List Nat) (w : World) (hM : MayG p nA N gs) (hN : NdSl w aN nN cN N) (hG : ZSl w aG nG cG gs) (hL : LtC w aL nL cL ys) (hl : ys.length = nL) (hl2 : nL ≤ 256) (hq : q < nA) (hx : x < 256) (hy : ∀ k,k < nL → ys.getD k 0 < 256 ∧ x ||| ys.getD k 0 < 2 ^ p.toNat) :
  Calls Try.prog 102 #[.agg #[.int .i64 p,.slice aA nA cA,.slice aG nG cG,.slice aN nN cN],.int .i64 (q : Int),.int .u8 (x : Int),.slice aL nL cL] w fun e w' => e = .returned (.slice (some ⟨w.heap.size + 1,0,none⟩) nL nL) ∧ RowI w' 3 (w.heap.size + 1) (goR p N gs q x ys) ∧ Below w.heap.size w w' := by
 obtain ⟨Q,hQ⟩ : ∃ Q : Ending → World → Prop,Q = fun e w' => e = .returned (.slice (some ⟨w.heap.size + 1,0,none⟩) nL nL) ∧ RowI w' 3 (w.heap.size + 1) (goR p N gs q x ys) ∧ Below w.heap.size w w' := ⟨_,rfl⟩
 obtain ⟨zs,hzs⟩ : ∃ zs,zs = goR p N gs q x ys := ⟨_,rfl⟩
 have hzl : zs.length = nL := by rw [hzs,goR,List.length_map,hl]
 have HQ : Hid (∀ w',RowI w' 3 (w.heap.size + 1) (goTo zs nL) → Below w.heap.size w w' → Q (.returned (.slice (some ⟨w.heap.size + 1,0,none⟩) nL nL)) w') := fun w' h1 h2 => by rw [hQ,← hzs]; rw [← hzl,q4q] at h1; exact ⟨rfl,h1,h2⟩
 rw [← hQ]
 clear hQ
 obtain ⟨w1,hw1⟩ : ∃ w1,w1 = w.alloc (.cells #[.int .i64 p,.slice aA nA cA,.slice aG nG cG,.slice aN nN cN] 26 (0,0)) := ⟨_,rfl⟩
 have hb1 : Below w.heap.size w w1 := by rw [hw1]; exact qb _ _
 have hA1 : AuB w1 w.heap.size p aA nA cA aG nG cG aN nN cN := by rw [hw1]; exact qj w p aA nA cA aG nG cG aN nN cN
 have hs1 : w1.heap.size = w.heap.size + 1 := by rw [hw1]; exact Array.size_push _
 have HW1 : Hid _ := hw1
 obtain ⟨w2,hw2⟩ : ∃ w2,w2 = w1.alloc (.cells (madeCells #[.int .i64 0] nL) 3) := ⟨_,rfl⟩
 have HW2 : Hid _ := hw2
 have hb2 : Below w1.heap.size w1 w2 := by rw [hw2]; exact qb _ _
 have HR0 : Hid (RowI w2 3 w1.heap.size (goTo zs 0)) := by
  rw [q47,hzl,hw2]
  unfold RowI
  show _ = _
  rw [← madeI]
  exact (MapKept.heap_alloc w1 _).1
 have hmk := fun w => q1o nL (by omega) w
 have HAA : Hid (∀ w',Below w1.heap.size w1 w' → AuB w' w.heap.size p aA nA cA aG nG cG aN nN cN) := fun w' hb => hA1.up hb
 have HB12 : Hid (∀ w',Below w1.heap.size w1 w' → Below w.heap.size w w') := fun w' hb => q9 hb1 hb
 have HN : Hid (∀ w',Below w.heap.size w w' → NdSl w' aN nN cN N ∧ ZSl w' aG nG cG gs ∧ LtC w' aL nL cL ys) := fun w' hb => ⟨hN.up hb,hG.up hb,hL.up hb⟩
 have hqR : q < nG := by have h1 := hG.hlen; have h2 := hM.len; omega
 have hi64 := q3g hM (q := q) (by have h2 := hM.len; omega)
 have HTR : Hid (∀ l,l < 2 ^ p.toNat → goG N l 8 (gs.getD q 0) = some ((trP (rwA p N gs) q l : Nat) : Int)) := fun l hl => hM.tr hq hl
 have HI : Hid _ := hi64
 have HYY : Hid _ := hy
 have hP8 : 2 ^ p.toNat ≤ 256 := hM.k256
 have HZ : Hid (∀ k,k < nL → zs.getD k 0 = ((trP (rwA p N gs) q (x ||| ys.getD k 0) : Nat) : Int)) := fun k hk => by
  rw [hzs,goR,List.getD_eq_getElem?_getD,List.getElem?_map,List.getElem?_eq_getElem (by omega)]
  simp [List.getD_eq_getElem?_getD,List.getElem?_eq_getElem (show k < ys.length by omega)]
 have HZL : Hid _ := hzl
 have HLL : Hid _ := hl
 have HQ : Hid (∀ w',RowI w' 3 w1.heap.size (goTo zs nL) → Below w.heap.size w w' → Q (.returned (.slice (some ⟨w1.heap.size,0,none⟩) nL nL)) w') := by rw [hs1]; exact HQ.out
 have HB2 : Hid _ := hb2
 clear hM hN hG hL hy hi64 hzl hl hzs hw1 hw2 hb1 hb2 hs1 hA1
 go_enter Try.func102,Try.ntmps102
 go_wp2_with (first | rw [← HW2.out] | rw [← HW1.out])
 go_loopw [17] (fun i wr => ∃ k : Nat,k ≤ nL ∧ i = .int .i64 (k : Int) ∧ Hid (RowI wr 3 (w1.heap.size) (goTo zs k)) ∧ Hid (Below w1.heap.size w1 wr)) (fun i _ => nL - (intOf i).toNat)
 case atStart => exact ⟨0,Nat.zero_le _,rfl,HR0,HB2⟩
 case round =>
  obtain ⟨k,hk,rfl,HR,HB⟩ := hrel
  clear HR0 HB2 hmk
  by_cases hlt : k < nL
  ·have hBr := HB12.out wr HB.out
   obtain ⟨hNr,hGr,hLr⟩ := HN.out wr hBr
   obtain ⟨c0,c1,c2,c3⟩ := HAA.out wr HB.out
   have ixl := fun w' => hLr.idx nL k w' hlt (Nat.le_refl _)
   have cel := hLr.cell k hlt
   rw [qh (by rw [HLL.out]; exact hlt)] at cel
   have ixg := fun w' => hGr.idx nG q w' hqR (Nat.le_refl _)
   have ceg := hGr.cell q hqR
   obtain ⟨hy8,hyl⟩ := HYY.out k hlt
   have hor := u8_or_nat x (ys.getD k 0) hx hy8
   have hgo := HTR.out _ hyl
   have jg : ∀ w',Below w.heap.size w w' → Calls Try.prog 95 #[.slice aN nN cN,.int .i64 (gs.getD q 0),.int .u8 ((x ||| ys.getD k 0 : Nat) : Int)] w' fun e w'' => e = .returned (.tuple #[.int .i64 ((trP (rwA p N gs) q (x ||| ys.getD k 0) : Nat) : Int),.bool true]) ∧ Below w'.heap.size w' w'' := fun w' hb => by
    have h := q1z aN nN cN N (gs.getD q 0) (x ||| ys.getD k 0) w' (HN.out w' hb).1 HI.out (by omega)
    rw [hgo] at h
    exact h
   have hz := HZ.out k hlt
   have HNX : Hid ((goTo zs k).set k (zs.getD k 0) = goTo zs (k + 1)) := q46 (by rw [HZL.out]; exact hlt)
   rw [hz] at HNX
   have ixw : ∀ w',(Instr.indexAt 23 (.slice (some ⟨w1.heap.size,0,none⟩) nL nL) (.int .i64 (k : Int))).run Try.prog w' = .ok (.pointer (some ⟨w1.heap.size,k,none⟩)) w' := fun w' => by
    have := qk (P := Try.prog) (T := 23) Try.underlying23 qn (a := some ⟨w1.heap.size,0,none⟩) (cap := nL) (n := nL) (fun e => by cases e) k w' hlt
    simpa [adOf,qf] using this
   have HWC : Hid (∀ w',Below wr.heap.size wr w' → RowI w' 3 (w1.heap.size) (goTo zs k) ∧ Below w1.heap.size w1 w') := fun w' hb => ⟨HR.out.up hb,q9 HB.out hb⟩
   have hkl : k < (goTo zs k).length := by rw [q4r (by rw [HZL.out]; exact hk),HZL.out]; exact hlt
   have HKL : Hid _ := hkl
   have jw := jg wr.drew (hBr.trans ((Below.refl _ _).drew))
   clear hNr hGr hLr hy8 hyl hgo hz hkl jg HN HAA HTR HZ hBr
   generalize ys.getD k 0 = y at *
   generalize x ||| y = l at *
   generalize trP (rwA p N gs) q l = t at *
   generalize gs.getD q 0 = rq at *
   generalize adOf aL k = al at *
   obtain ⟨al1,al2,al3⟩ := al
   generalize adOf aG q = ag at *
   obtain ⟨ag1,ag2,ag3⟩ := ag
   go_upto_region 5 with fail
   go_region_with (first
    | (go_at_call 95; (with_reducible refine jw.mono ?_); rintro e w6 ⟨rfl,hb6⟩; obtain ⟨hr6,hb7⟩ := HWC.out w6 (q9 ((Below.refl _ _).drew) hb6); have cb6 := hr6.cell HKL.out; have fz6 := hr6.frozen k; have HR6 : Hid (RowI (w6.setCell ⟨w1.heap.size,k,none⟩ (.int .i64 (t : Int))) 3 w1.heap.size (goTo zs (k + 1))) := (by have h := hr6.set k (t : Int); rw [HNX.out] at h; exact h); have HB6 : Hid (Below w1.heap.size w1 (w6.setCell ⟨w1.heap.size,k,none⟩ (.int .i64 (t : Int)))) := hb7.setCell (Nat.le_refl _) _; clear hb6 hr6 hb7)
    | fail)
   all_goals
    clear jw HWC HNX HKL c0 c1 c2 c3 cel ceg ixl ixg ixw hor HR HB cb6 fz6
    go_wp2_with fail
    go_roundw
    case rel => exact ⟨k + 1,by omega,by go_num,HR6,HB6⟩
    case measure => simp [intOf]; omega
  ·obtain rfl : k = nL := by omega
   have HE : Hid _ := HQ.out wr HR.out (HB12.out wr HB.out)
   clear HQ HR HB
   go_wp2
   exact HE.out
structure GmP where
 p : Int
 aA : Option Addr
 nA : Nat
 cA : Nat
 aG : Option Addr
 nG : Nat
 cG : Nat
 aN : Option Addr
 nN : Nat
 cN : Nat
 bs : List Bool
 N : List Gd
 gs : List Int
 x : Nat
 y : Nat
 aE : Option Addr
 cE : Nat
 aS : Option Addr
 cS : Nat
abbrev GmP.cs (G : GmP) : Array Value := #[.int .i64 G.p,.slice G.aA G.nA G.cA,.slice G.aG G.nG G.cG,.slice G.aN G.nN G.cN,.int .u8 (G.x : Int),.int .u8 (G.y : Int),.slice G.aE (mvL G.x).length G.cE,.slice G.aS (mvL G.y).length G.cS]
abbrev GmP.v (G : GmP) : Value := .agg G.cs
abbrev GmP.t (G : GmP) (q l : Nat) : Nat := toS G.p G.N G.gs q l
structure GmW (G : GmP) (w : World) : Prop where
 bo : BoSl w G.aA G.nA G.cA G.bs
 nd : NdSl w G.aN G.nN G.cN G.N
 zg : ZSl w G.aG G.nG G.cG G.gs
 le : LtC w G.aE (mvL G.x).length G.cE (mvL G.x)
 ls : LtC w G.aS (mvL G.y).length G.cS (mvL G.y)
structure GmO (G : GmP) : Prop where
 may : MayG G.p G.nA G.N G.gs
 sp : SplitN G.p.toNat G.x G.y
 x8 : G.x < 256
 y8 : G.y < 256
theorem GmW.up {G : GmP} {w w' : World} (h : GmW G w) (hb : Below w.heap.size w w') : GmW G w' := ⟨h.bo.up hb,h.nd.up hb,h.zg.up hb,h.le.up hb,h.ls.up hb⟩
theorem GmO.lt {G : GmP} (h : GmO G) {a b : Nat} (ha : a &&& G.x = a) (hb : b &&& G.y = b) : a ||| b < 2 ^ G.p.toNat := by
 have h1 := qp ha
 have h2 := qp hb
 have h5 : G.x ||| G.y = 2 ^ G.p.toNat - 1 := h.sp.2
 have h6 : 0 < 2 ^ G.p.toNat := Nat.two_pow_pos _
 have h7 : G.x ≤ G.x ||| G.y := Nat.left_le_or
 have h8 : G.y ≤ G.x ||| G.y := Nat.right_le_or
 exact Nat.or_lt_two_pow (by omega) (by omega)
theorem GmO.to {G : GmP} (h : GmO G) {q a b : Nat} (hq : q < G.nA) (ha : a &&& G.x = a) (hb : b &&& G.y = b) : G.t q (a ||| b) < G.nA := (qJ h.may h.sp q hq a b ha hb).1
def GmB (G : GmP) (w : World) (g : Nat) : Prop := w.heap[g]? = some (.cells G.cs 64 (0,0))
theorem GmB.up {G : GmP} {w w' : World} {g : Nat} (h : GmB G w g) (hb : Below w.heap.size w w') : GmB G w' g := (hb.block _ (Array.getElem?_eq_some_iff.1 h).1).trans h
theorem qI (G : GmP) (w : World) : ∃ w1,w1 = w.alloc (.cells G.cs 64 (0,0)) ∧ Below w.heap.size w w1 ∧ GmB G w1 w.heap.size ∧ w1.heap.size = w.heap.size + 1 :=
 ⟨_,rfl,qb _ _,(MapKept.heap_alloc w _).1,by simp⟩
theorem q1f (z : Int) (w : World) : Calls Try.prog 103 #[.int .u64 z] w fun e w' => e = .returned (.bool false) ∧ w' = w := by
 have e1 : (z != z) = false := by simp
 go_enter Try.func103,Try.ntmps103
 go_wp2
 go_ret
 exact ⟨rfl,rfl⟩
def cmpV (a b : Int) : Int := if a < b then -1 else if b < a then 1 else 0
theorem q4R (a b : Int) : decide (cmpV a b < 0) = decide (a < b) := by
 unfold cmpV
 by_cases h : a < b
 ·rw [if_pos h]; simp [h]
 ·rw [if_neg h]; split <;> simp [h]
theorem q2X (a b : Int) (w : World) : Calls Try.prog 86 #[.int .u64 a,.int .u64 b] w fun e w' => e = .returned (.int .i64 (cmpV a b)) ∧ w' = w := by
 obtain ⟨Z,hZ⟩ : ∃ Z,Z = cmpV a b := ⟨_,rfl⟩
 rw [← hZ]
 have HZ : Hid _ := hZ
 clear hZ
 have ja := q1f a w
 have jb := q1f b w
 go_enter Try.func86,Try.ntmps86
 go_wp2_with fail
 refine ja.mono ?_
 rintro e w' ⟨rfl,hw⟩
 obtain rfl := hw.symm
 go_wp2_with fail
 refine jb.mono ?_
 rintro e w' ⟨rfl,hw'⟩
 obtain rfl := hw'.symm
 clear ja jb
 by_cases h : a < b
 ·have e1 : decide (a < b) = true := decide_eq_true h
  have H0 : Hid (Z = -1) := HZ.out.trans (if_pos h)
  go_wp2
  go_ret
  exact ⟨by rw [H0.out]; rfl,rfl⟩
 have e1 : decide (a < b) = false := decide_eq_false h
 by_cases h2 : b < a
 ·have e2 : decide (b < a) = true := decide_eq_true h2
  have H0 : Hid (Z = 1) := HZ.out.trans ((if_neg h).trans (if_pos h2))
  go_wp2
  go_ret
  exact ⟨by rw [H0.out]; rfl,rfl⟩
 ·have e2 : decide (b < a) = false := decide_eq_false h2
  have H0 : Hid (Z = 0) := HZ.out.trans ((if_neg h).trans (if_neg h2))
  go_wp2
  go_ret
  exact ⟨by rw [H0.out]; rfl,rfl⟩
theorem q39 (z : Int) (w : World) : Calls Try.prog 87 #[.int .i64 z] w fun e w' => e = .returned (.int .u64 (IntKind.u64.wrap z)) ∧ w' = w := by
 go_enter Try.func87,Try.ntmps87
 go_wp2
 go_ret
 exact ⟨rfl,rfl⟩
theorem qR (m v : Nat) (w : World) (b : Bool) (h : (bits .andNot .u8 (v : Int) (m : Int) == 0) = b) : Calls Try.prog 92 #[.int .u8 (m : Int),.int .u8 (v : Int)] w fun e w' => e = .returned (.bool b) ∧ w' = w := by
 go_enter Try.func92,Try.ntmps92
 go_wp2
 go_ret
 exact ⟨by rw [← h]; rfl,rfl⟩
theorem qx (G : GmP) (q l : Nat) (w : World) (hO : GmO G) (hW : GmW G w) (hq : q < G.nA) (hl : l < 2 ^ G.p.toNat) :
  Calls Try.prog 70 #[G.v,.int .i64 (q : Int),.int .u8 (l : Int)] w fun e w' => e = .returned (.int .i64 ((G.t q l : Nat) : Int)) ∧ Below w.heap.size w w' := by
 obtain ⟨Q,hQ⟩ : ∃ Q : Ending → World → Prop,Q = fun e w' => e = .returned (.int .i64 ((G.t q l : Nat) : Int)) ∧ Below w.heap.size w w' := ⟨_,rfl⟩
 have HQ : Hid (∀ w',Below w.heap.size w w' → Q (.returned (.int .i64 ((G.t q l : Nat) : Int))) w') := fun w' h => by rw [hQ]; exact ⟨rfl,h⟩
 rw [← hQ]
 clear hQ
 obtain ⟨w1,hw1,hb1,hk1,_⟩ := qI G w
 have HW1 : Hid _ := hw1
 have HB1 : Hid (Below w.heap.size w w1) := hb1
 have c2 := q8 hk1 2
 have c3 := q8 hk1 3
 have hz := hW.zg.up hb1
 have hqR : q < G.nG := by have h1 := hW.zg.hlen; have h2 := hO.may.len; omega
 have ixg := fun w' => hz.idx G.nG q w' hqR (Nat.le_refl _)
 have ceg := hz.cell q hqR
 have hi64 := q3g hO.may (q := q) (by have h2 := hO.may.len; omega)
 have hgo : goG G.N l 8 (G.gs.getD q 0) = some ((G.t q l : Nat) : Int) := hO.may.tr hq hl
 have hl8 : l < 256 := by have := hO.may.k256; omega
 have jg : Calls Try.prog 95 #[.slice G.aN G.nN G.cN,.int .i64 (G.gs.getD q 0),.int .u8 (l : Int)] w1.drew fun e w' => e = .returned (.tuple #[.int .i64 ((G.t q l : Nat) : Int),.bool true]) ∧ Below w1.drew.heap.size w1.drew w' := by
  have h := q1z G.aN G.nN G.cN G.N (G.gs.getD q 0) l w1.drew ((hW.nd.up hb1).up ((Below.refl _ _).drew)) hi64 hl8
  rw [hgo] at h
  exact h
 clear hw1 hb1 hk1 hz hW hO hi64 hgo
 obtain ⟨p,aA,nA,cA,aG,nG,cG,aN,nN,cN,bs,N,gs,x,y,aE,cE,aS,cS⟩ := G
 dsimp only [GmP.v,GmP.cs,GmP.t] at *
 generalize toS p N gs q l = t at *
 generalize gs.getD q 0 = rq at *
 generalize adOf aG q = ag at *
 obtain ⟨ag1,ag2,ag3⟩ := ag
 go_enter Try.func70,Try.ntmps70
 go_upto_region 1 with (rw [← HW1.out])
 go_region_with (first
  | (go_at_call 95; (with_reducible refine jg.mono ?_); rintro e w6 ⟨rfl,hb6⟩; have HE : Hid _ := HQ.out w6 (q9 HB1.out (q9 ((Below.refl _ _).drew) hb6)); clear hb6)
  | fail)
 all_goals
  clear jg HQ c2 c3 ceg ixg
  go_wp2
  exact HE.out
theorem q15 {a m : Nat} (hm : m < 256) (h : a &&& m = a) : a < 256 := Nat.lt_of_le_of_lt (by have := Nat.and_le_right (n := a) (m := m); rwa [h] at this) hm
theorem q4c {m : Nat} {P : Nat → Prop} : (∀ z ∈ mvL m,P z) ↔ ∀ i,i < (mvL m).length → P ((mvL m).getD i 0) :=
 ⟨fun h i hi => h _ (by rw [qe 0 hi]; exact List.getElem_mem hi),fun h z hz => by
  obtain ⟨i,hi,rfl⟩ := List.getElem_of_mem hz
  rw [← qe 0 hi]
  exact h i hi⟩
theorem q12 (G : GmP) (q c : Nat) (aR : Option Addr) (cR : Nat) (R : List Int) (w : World) (hO : GmO G) (hW : GmW G w) (hR : ZSl w aR G.nA cR R) (hq : q < G.nA) (hc : c &&& G.x = c) :
  Calls Try.prog 59 #[G.v,.int .i64 (q : Int),.int .u8 (c : Int),.slice aR G.nA cR] w fun e w' => Below w.heap.size w w' ∧ ∃ b : Bool,e = .returned (.bool b) ∧ (b = true ↔ ∀ z ∈ mvL G.y,R.getD (G.t q (c ||| z)) 0 = -1) := by
 obtain ⟨Q,hQ⟩ : ∃ Q : Ending → World → Prop,Q = fun e w' => Below w.heap.size w w' ∧ ∃ b : Bool,e = .returned (.bool b) ∧ (b = true ↔ ∀ z ∈ mvL G.y,R.getD (G.t q (c ||| z)) 0 = -1) := ⟨_,rfl⟩
 have HT : Hid (∀ w',Below w.heap.size w w' → (∀ i,i < (mvL G.y).length → R.getD (G.t q (c ||| (mvL G.y).getD i 0)) 0 = -1) → Q (.returned (.bool true)) w') := fun w' h h1 => by rw [hQ]; exact ⟨h,true,rfl,fun _ => q4c.2 h1,fun _ => rfl⟩
 have HF : Hid (∀ w' i,Below w.heap.size w w' → i < (mvL G.y).length → R.getD (G.t q (c ||| (mvL G.y).getD i 0)) 0 ≠ -1 → Q (.returned (.bool false)) w') := fun w' i h h1 h2 => by rw [hQ]; exact ⟨h,false,rfl,fun e => (by cases e),fun h3 => absurd (q4c.1 h3 i h1) h2⟩
 rw [← hQ]
 clear hQ
 obtain ⟨w1,hw1,hb1,hk1,_⟩ := qI G w
 have HW1 : Hid _ := hw1
 have HB1 : Hid (Below w.heap.size w w1) := hb1
 have HC : Hid (∀ w',Below w1.heap.size w1 w' → GmB G w' w.heap.size ∧ GmW G w' ∧ ZSl w' aR G.nA cR R) := fun w' hb => ⟨hk1.up hb,(hW.up hb1).up hb,(hR.up hb1).up hb⟩
 have HK1 : Hid (∀ i,i < (mvL G.y).length → (mvL G.y).getD i 0 < 256 ∧ (mvL G.y).getD i 0 &&& G.y = (mvL G.y).getD i 0) := fun i hi => qi hi
 have hc8 : c < 256 := q15 hO.x8 hc
 have HO : Hid (GmO G) := hO
 have HCC : Hid (c &&& G.x = c) := hc
 have hkb := ql G.y
 have c7 := q8 hk1 7
 clear hw1 hb1 hk1 hW hR hO hc
 go_enter Try.func59,Try.ntmps59
 go_wp2_with (rw [← HW1.out])
 clear c7
 go_loopw [14] (fun i wr => ∃ k : Nat,k ≤ (mvL G.y).length ∧ i = .int .i64 (k : Int) ∧ Hid (Below w1.heap.size w1 wr) ∧ Hid (∀ i,i < k → R.getD (G.t q (c ||| (mvL G.y).getD i 0)) 0 = -1)) (fun i _ => (mvL G.y).length - (intOf i).toNat)
 case atStart => exact ⟨0,Nat.zero_le _,rfl,Below.refl _ _,fun i hi => absurd hi (Nat.not_lt_zero _)⟩
 case round =>
  obtain ⟨k,hk,rfl,HB,HA⟩ := hrel
  by_cases hlt : k < (mvL G.y).length
  ·have e1 : decide ((k : Int) < ((mvL G.y).length : Int)) = true := decide_eq_true (by omega)
   obtain ⟨hg,hw,hr⟩ := HC.out wr HB.out
   have c0 := q8 hg 0
   have c1 := q8 hg 1
   have c2 := q8 hg 2
   have c3 := q8 hg 3
   have c4 := q8 hg 4
   have c5 := q8 hg 5
   have c6 := q8 hg 6
   have c7 := q8 hg 7
   have ixs := fun w' => hw.ls.idx _ k w' hlt (Nat.le_refl _)
   have ces := hw.ls.cell k hlt
   rw [qh hlt] at ces
   obtain ⟨hy8,hym⟩ := HK1.out k hlt
   have hor := u8_or_nat c ((mvL G.y).getD k 0) hc8 hy8
   have jn := qx G q (c ||| (mvL G.y).getD k 0) wr HO.out hw hq (HO.out.lt HCC.out hym)
   have hin := HO.out.to hq HCC.out hym
   have HIX : Hid (∀ w',Below wr.heap.size wr w' → (∀ w'',(Instr.indexAt 23 (.slice aR G.nA cR) (.int .i64 ((G.t q (c ||| (mvL G.y).getD k 0) : Nat) : Int))).run Try.prog w'' = .ok (.pointer (some (adOf aR (G.t q (c ||| (mvL G.y).getD k 0))))) w'') ∧ w'.cell? (adOf aR (G.t q (c ||| (mvL G.y).getD k 0))) = some (.int .i64 (R.getD (G.t q (c ||| (mvL G.y).getD k 0)) 0))) := fun w' hb => by
    have h := HC.out w' (q9 HB.out hb)
    exact ⟨fun w'' => h.2.2.idx _ _ w'' hin (Nat.le_refl _),h.2.2.cell _ hin⟩
   have HEQ : Hid (R.getD (G.t q (c ||| (mvL G.y).getD k 0)) 0 = -1 → ∀ i,i < k + 1 → R.getD (G.t q (c ||| (mvL G.y).getD i 0)) 0 = -1) := fun h i hi => by
    rcases Nat.lt_succ_iff_lt_or_eq.1 hi with h1 | rfl
    ·exact HA.out i h1
    ·exact h
   have HNE : Hid (R.getD (G.t q (c ||| (mvL G.y).getD k 0)) 0 ≠ -1 → ∀ w',Below w.heap.size w w' → Q (.returned (.bool false)) w') := fun h w' hb => HF.out w' k hb hlt h
   clear hg hw hr hym hy8 HA HF hin
   dsimp only [GmP.v,GmP.cs] at jn
   generalize G.t q (c ||| (mvL G.y).getD k 0) = t at *
   generalize c ||| (mvL G.y).getD k 0 = l at *
   generalize (mvL G.y).getD k 0 = m at *
   generalize R.getD t 0 = z at *
   generalize adOf aR t = ar at *
   obtain ⟨ar1,ar2,ar3⟩ := ar
   generalize adOf G.aS k = ak at *
   obtain ⟨ak1,ak2,ak3⟩ := ak
   go_wp2_with fail
   refine jn.mono ?_
   rintro e w2 ⟨rfl,hb2⟩
   obtain ⟨ixr,cer⟩ := HIX.out w2 hb2
   have HB2 : Hid (Below w1.heap.size w1 w2) := q9 HB.out hb2
   clear jn hb2 HIX c0 c1 c2 c3 c4 c5 c6 c7 ixs ces
   by_cases hz : z = -1
   ·have e2 : (z != -1) = false := by rw [hz]; rfl
    have HN : Hid _ := HEQ.out hz
    clear HEQ HNE
    go_wp2
    go_roundw
    case rel => exact ⟨k + 1,hlt,by go_num,HB2,HN⟩
    case measure => simp [intOf]; omega
   ·have e2 : (z != -1) = true := by rw [bne_iff_ne]; exact hz
    have HE : Hid _ := HNE.out hz w2 (q9 HB1.out HB2.out)
    clear HEQ HNE
    go_wp2
    exact HE.out
  ·obtain rfl : k = (mvL G.y).length := by omega
   have e1 : decide (((mvL G.y).length : Int) < ((mvL G.y).length : Int)) = false := by simp
   have HE : Hid _ := HT.out wr (q9 HB1.out HB.out) HA.out
   clear HT HF HA
   go_wp2
   exact HE.out
def soZ (z : Int) : Int := IntKind.u64.wrap z
def LeaS (f : Nat → Int) (K j : Nat) : Prop := j < K ∧ ∀ i,i < K → f j ≤ f i ∧ (i < j → f j < f i)
theorem LeaS.keep {f : Nat → Int} {k j : Nat} (h : LeaS f k j) (hk : ¬ f k < f j) : LeaS f (k + 1) j :=
 ⟨Nat.lt_succ_of_lt h.1,fun i hi => by
  rcases Nat.lt_succ_iff_lt_or_eq.1 hi with h1 | rfl
  ·exact h.2 i h1
  ·exact ⟨Int.not_lt.1 hk,fun h2 => absurd h2 (by have := h.1; omega)⟩⟩
theorem LeaS.take {f : Nat → Int} {k j : Nat} (h : LeaS f k j) (hk : f k < f j) : LeaS f (k + 1) k :=
 ⟨Nat.lt_succ_self _,fun i hi => by
  rcases Nat.lt_succ_iff_lt_or_eq.1 hi with h1 | rfl
  ·have := (h.2 i h1).1; exact ⟨by omega,fun _ => by omega⟩
  ·exact ⟨Int.le_refl _,fun h2 => absurd h2 (Nat.lt_irrefl _)⟩⟩
theorem LeaS.fst {r : Nat → Int} {row : Nat → Nat} {K j : Nat} (h : LeaS (fun i => soZ (r (row i))) K j) (hb : ∀ i,i < K → -1 ≤ r (row i) ∧ r (row i) < 1000) (he : ∃ i,i < K ∧ 0 ≤ r (row i)) : FstS r row K j := by
 have key : ∀ i,i < K → (0 ≤ r (row i) → soZ (r (row i)) = r (row i)) ∧ (r (row i) < 0 → soZ (r (row i)) = 18446744073709551615) := fun i hi => by
  have := hb i hi
  unfold soZ
  rw [IntKind.wrap_u64]
  exact ⟨fun _ => by omega,fun _ => by omega⟩
 obtain ⟨e,he1,he2⟩ := he
 have h1 := (h.2 e he1).1
 dsimp only at h1
 rw [(key e he1).1 he2] at h1
 have hj := hb j h.1
 have he3 := hb e he1
 have h0 : 0 ≤ r (row j) := Int.not_lt.1 fun hn => by
  rw [(key j h.1).2 hn] at h1; omega
 refine ⟨h.1,h0,fun i hi hi0 => ?_⟩
 have h2 := h.2 i hi
 dsimp only at h2
 rw [(key j h.1).1 h0,(key i hi).1 hi0] at h2
 exact h2
structure CapB (G : GmP) (w : World) (b0 b1 b2 b3 q c : Nat) (aR : Option Addr) (cR : Nat) : Prop where
 g : GmB G w b0
 q : w.heap[b1]? = some (.cells #[.int .i64 (q : Int)] 3 (0,0))
 c : w.heap[b2]? = some (.cells #[.int .u8 (c : Int)] 27 (0,0))
 r : w.heap[b3]? = some (.cells #[.slice aR G.nA cR] 23 (0,0))
theorem CapB.up {G : GmP} {w w' : World} {b0 b1 b2 b3 q c : Nat} {aR : Option Addr} {cR : Nat} (h : CapB G w b0 b1 b2 b3 q c aR cR) (hb : Below w.heap.size w w') : CapB G w' b0 b1 b2 b3 q c aR cR :=
 ⟨h.g.up hb,(hb.block _ (Array.getElem?_eq_some_iff.1 h.q).1).trans h.q,(hb.block _ (Array.getElem?_eq_some_iff.1 h.c).1).trans h.c,(hb.block _ (Array.getElem?_eq_some_iff.1 h.r).1).trans h.r⟩
structure CapC (G : GmP) (w : World) (b0 b1 b2 b3 q c : Nat) (aR : Option Addr) (cR : Nat) : Prop where
 c0 : w.cell? ⟨b0,0,none⟩ = some (.int .i64 G.p)
 c1 : w.cell? ⟨b0,1,none⟩ = some (.slice G.aA G.nA G.cA)
 c2 : w.cell? ⟨b0,2,none⟩ = some (.slice G.aG G.nG G.cG)
 c3 : w.cell? ⟨b0,3,none⟩ = some (.slice G.aN G.nN G.cN)
 c4 : w.cell? ⟨b0,4,none⟩ = some (.int .u8 (G.x : Int))
 c5 : w.cell? ⟨b0,5,none⟩ = some (.int .u8 (G.y : Int))
 c6 : w.cell? ⟨b0,6,none⟩ = some (.slice G.aE (mvL G.x).length G.cE)
 c7 : w.cell? ⟨b0,7,none⟩ = some (.slice G.aS (mvL G.y).length G.cS)
 q : w.cell? ⟨b1,0,none⟩ = some (.int .i64 (q : Int))
 c : w.cell? ⟨b2,0,none⟩ = some (.int .u8 (c : Int))
 r : w.cell? ⟨b3,0,none⟩ = some (.slice aR G.nA cR)
theorem CapB.all {G : GmP} {w : World} {b0 b1 b2 b3 q c : Nat} {aR : Option Addr} {cR : Nat} (h : CapB G w b0 b1 b2 b3 q c aR cR) : CapC G w b0 b1 b2 b3 q c aR cR :=
 ⟨q8 h.g 0,q8 h.g 1,q8 h.g 2,q8 h.g 3,q8 h.g 4,q8 h.g 5,q8 h.g 6,q8 h.g 7,q8 h.q 0,q8 h.c 0,q8 h.r 0⟩
theorem q1Q (G : GmP) (q c b0 b1 b2 b3 m n : Nat) (aR : Option Addr) (cR : Nat) (R : List Int) (w : World) (hO : GmO G) (hW : GmW G w) (hR : ZSl w aR G.nA cR R) (hq : q < G.nA) (hc : c &&& G.x = c) (hm : m &&& G.y = m) (hn : n &&& G.y = n) (hK : CapB G w b0 b1 b2 b3 q c aR cR) :
  Calls Try.prog 85 #[.int .u8 (m : Int),.int .u8 (n : Int),.pointer (some ⟨b3,0,none⟩),.pointer (some ⟨b0,0,none⟩),.pointer (some ⟨b1,0,none⟩),.pointer (some ⟨b2,0,none⟩)] w fun e w' => Below w.heap.size w w' ∧ ∃ z : Int,e = .returned (.int .i64 z) ∧ decide (z < 0) = decide (soZ (R.getD (G.t q (c ||| m)) 0) < soZ (R.getD (G.t q (c ||| n)) 0)) := by
 obtain ⟨Q,hQ⟩ : ∃ Q : Ending → World → Prop,Q = fun e w' => Below w.heap.size w w' ∧ ∃ z : Int,e = .returned (.int .i64 z) ∧ decide (z < 0) = decide (soZ (R.getD (G.t q (c ||| m)) 0) < soZ (R.getD (G.t q (c ||| n)) 0)) := ⟨_,rfl⟩
 have HQ : Hid (∀ w',Below w.heap.size w w' → Q (.returned (.int .i64 (cmpV (soZ (R.getD (G.t q (c ||| m)) 0)) (soZ (R.getD (G.t q (c ||| n)) 0))))) w') := fun w' h1 => by rw [hQ]; exact ⟨h1,_,rfl,q4R _ _⟩
 rw [← hQ]
 clear hQ
 have hc8 := q15 hO.x8 hc
 have hm8 := q15 hO.y8 hm
 have hn8 := q15 hO.y8 hn
 have hor1 := u8_or_nat c m hc8 hm8
 have hor2 := u8_or_nat c n hc8 hn8
 have hin1 := hO.to hq hc hm
 have hin2 := hO.to hq hc hn
 have jn : ∀ l : Nat,l < 2 ^ G.p.toNat → ∀ dd os,Calls Try.prog 70 #[G.v,.int .i64 (q : Int),.int .u8 (l : Int)] (grow (redrawn w dd) os) fun e w'' => e = .returned (.int .i64 ((G.t q l : Nat) : Int)) ∧ ∃ p : Regrown,w'' = grow (redrawn w p.d) p.os := fun l hl dd os => by
  have hb := below_regrown w dd os
  refine (qx G q l _ hO (hW.up hb) hq hl).mono ?_
  rintro e w'' ⟨rfl,h2⟩
  exact ⟨rfl,regrown_of_below (q9 hb h2)⟩
 have k1 := jn (c ||| m) (hO.lt hc hm)
 have k2 := jn (c ||| n) (hO.lt hc hn)
 have ks : ∀ z dd os,Calls Try.prog 87 #[.int .i64 z] (grow (redrawn w dd) os) fun e w'' => e = .returned (.int .u64 (soZ z)) ∧ ∃ p : Regrown,w'' = grow (redrawn w p.d) p.os := fun z dd os => by
  refine (q39 z _).mono ?_
  rintro e w'' ⟨rfl,rfl⟩
  exact ⟨rfl,regrown_of_below (below_regrown w dd os)⟩
 have kc : ∀ a b dd os,Calls Try.prog 86 #[.int .u64 a,.int .u64 b] (grow (redrawn w dd) os) fun e w'' => e = .returned (.int .i64 (cmpV a b)) ∧ ∃ p : Regrown,w'' = grow (redrawn w p.d) p.os := fun a b dd os => by
  refine (q2X a b _).mono ?_
  rintro e w'' ⟨rfl,rfl⟩
  exact ⟨rfl,regrown_of_below (below_regrown w dd os)⟩
 have HE : Hid (∀ dd os,Below w.heap.size w (grow (redrawn w dd) os)) := fun dd os => below_regrown w dd os
 obtain ⟨u0,u1,u2,u3,u4,u5,u6,u7,u8,u9,ua⟩ := hK.all
 have x0 := cell_regrown u0
 have x1 := cell_regrown u1
 have x2 := cell_regrown u2
 have x3 := cell_regrown u3
 have x4 := cell_regrown u4
 have x5 := cell_regrown u5
 have x6 := cell_regrown u6
 have x7 := cell_regrown u7
 have x8 := cell_regrown u8
 have x9 := cell_regrown u9
 have xa := cell_regrown ua
 have y1 := cell_regrown (hR.cell _ hin1)
 have y2 := cell_regrown (hR.cell _ hin2)
 have ix1 := fun w'' => hR.idx _ _ w'' hin1 (Nat.le_refl _)
 have ix2 := fun w'' => hR.idx _ _ w'' hin2 (Nat.le_refl _)
 clear hO hW hR hK hc hm hn hin1 hin2 jn u0 u1 u2 u3 u4 u5 u6 u7 u8 u9 ua
 dsimp only [GmP.v,GmP.cs] at k1 k2
 generalize G.t q (c ||| m) = t1 at *
 generalize G.t q (c ||| n) = t2 at *
 generalize c ||| m = l1 at *
 generalize c ||| n = l2 at *
 generalize R.getD t1 0 = z1 at *
 generalize R.getD t2 0 = z2 at *
 generalize adOf aR t1 = a1 at *
 obtain ⟨a11,a12,a13⟩ := a1
 generalize adOf aR t2 = a2 at *
 obtain ⟨a21,a22,a23⟩ := a2
 go_enter Try.func85,Try.ntmps85
 go_upto_region 1 with fail
 refine wp_region_quiet_below (by kernel_rfl) (by kernel_rfl) ?_
 repeat (go_big_quiet_step (first | (with_reducible exact k1 _ _) | (with_reducible exact k2 _ _) | (with_reducible exact ks _ _ _) | (with_reducible exact kc _ _ _ _)))
 refine wpQuiet_nil ?_
 intro _ hw'
 obtain ⟨⟨dq,oq⟩,hw''⟩ := hw'
 subst hw''
 have HX : Hid _ := HQ.out _ (HE.out dq oq)
 clear HQ HE
 generalize grow (redrawn w dq) oq = wx at *
 go_wp2
 exact HX.out
end Go.Proofs.Ythhbhadcjofelaa
