/- Texts of the proof, put together: what it uses. -/
import Derived.Test.YtohbphocfkgdcaaY01
import Derived.Test.YtohbphocfkgdcaaY11
import Derived.Test.YtohbphocfkgdcaaY13
set_option maxRecDepth 100000
set_option maxHeartbeats 16000000
namespace Go.Proofs.Ytohbphocfkgdcaa
open Go.RowKit Go.Maps Go.Sort
theorem q5k (l : List Nat) : ltV l = (l.map Int.ofNat).map (Value.int .u8) := by simp [ltV]
theorem q3p {w : World} {base n : Nat} {v : Value} {l : List Nat} (h : w.ownsRow base 27 1 v n (ltV l)) : ∃ a c,v = .slice a n c ∧ LtC w a n c l := by
 rw [q5k] at h
 obtain ⟨a,c,e,h1,_⟩ := q1j h Try.underlying38 q15
 exact ⟨a,c,e,h1⟩
theorem q2y (w : World) (base : Nat) : w.ownsRow base 27 1 (.slice none 0 0) 0 (ltV []) := ⟨rfl,Or.inl ⟨rfl,rfl⟩⟩
theorem qs {w : World} {base e n : Nat} {v : Value} {xs : List Value} (h : w.ownsRow base e 1 v n xs) : ∃ a c,v = .slice a n c := by
 rcases h with ⟨_,⟨rfl,rfl⟩ | ⟨g,cap,cur,rfl,_⟩⟩
 ·exact ⟨none,0,rfl⟩
 ·exact ⟨_,_,rfl⟩
theorem q2Q (w : World) : Calls Try.prog 44 #[.int .i64 8] w fun e w' => Below w.heap.size w w' ∧ ∃ a c,e = .returned (.slice a 256 c) ∧ LtC w' a 256 c (List.range 256) := by
 obtain ⟨Q,hQ⟩ : ∃ Q : Ending → World → Prop,Q = fun e w' => Below w.heap.size w w' ∧ ∃ a c,e = .returned (.slice a 256 c) ∧ LtC w' a 256 c (List.range 256) := ⟨_,rfl⟩
 have HQ : Hid (∀ v w',Below w.heap.size w w' → w'.ownsRow w.heap.size 27 1 v 256 (ltV (List.range 256)) → Q (.returned v) w') := fun v w' h1 h2 => by
  rw [hQ]
  obtain ⟨a,c,rfl,h3⟩ := q3p h2
  exact ⟨h1,a,c,rfl,h3⟩
 rw [← hQ]
 clear hQ
 have HO0 : Hid (w.ownsRow w.heap.size 27 1 (.slice none 0 0) 0 (ltV (List.range 0))) := q2y w _
 go_enter Try.func44,Try.ntmps44
 go_wp2
 go_loopw [3,4] (fun v i wr => ∃ k : Nat,k ≤ 256 ∧ i = .int .i64 (k : Int) ∧ Hid (wr.ownsRow w.heap.size 27 1 v k (ltV (List.range k))) ∧ Hid (Below w.heap.size w wr)) (fun _ i _ => 256 - (intOf i).toNat)
 case atStart => exact ⟨0,Nat.zero_le _,rfl,HO0,Below.refl _ _⟩
 case round =>
  obtain ⟨k,hk,rfl,HO,HB⟩ := hrel
  clear HO0
  by_cases hlt : k < 256
  ·obtain ⟨va,vc,rfl⟩ := qs HO.out
   have e1 : decide ((k : Int) < 256) = true := decide_eq_true (by omega)
   have hkw : IntKind.u8.wrap (k : Int) = (k : Int) := by rw [IntKind.wrap_u8]; omega
   have HOA : Hid ((wr.alloc (.cells #[.int .u8 (k : Int)] 27)).ownsRow w.heap.size 27 1 (.slice va k vc) k (ltV (List.range k))) := World.ownsRow.alloc HO.out _
   have HCA : Hid ((wr.alloc (.cells #[.int .u8 (k : Int)] 27)).cell? ⟨wr.heap.size,0,none⟩ = some (.int .u8 (k : Int))) := q8 (MapKept.heap_alloc wr _).1 0
   have HWA : Hid (Below w.heap.size w (wr.alloc (.cells #[.int .u8 (k : Int)] 27))) := HB.out.alloc HB.out.size _
   have hszA : w.heap.size ≤ (wr.alloc (.cells #[.int .u8 (k : Int)] 27)).heap.size := HWA.out.size
   have HGE : Hid (∀ q,(Value.slice va k vc).ownBlock = some q → w.heap.size ≤ q) := q1s HO.out
   have HS : Hid (List.range k ++ [k] = List.range (k + 1)) := List.range_succ.symm
   clear HO HB
   go_wp2_with (at_builtin; refine qT rfl _ _ rfl w.heap.size _ k (List.range k) rfl HOA.out wr.heap.size k rfl HCA.out (by omega) hszA ?_)
   intro v7 w7 hown7 hgr7
   have HO7 : Hid (w7.ownsRow w.heap.size 27 1 v7 (k + 1) (ltV (List.range (k + 1)))) := by rw [← HS.out]; show World.ownsRow _ _ _ _ _ _ _; simpa using hown7
   have HW7 : Hid (Below w.heap.size w w7) := HWA.out.grown hgr7 hszA (fun q e => HGE.out q e)
   clear hown7 hgr7 HOA HCA HWA hszA HGE HS
   go_wp2
   go_roundw
   case rel => exact ⟨k + 1,by omega,by go_num,HO7,HW7⟩
   case measure => simp [intOf]; omega
  ·obtain rfl : k = 256 := by omega
   have HE : Hid _ := fun v h => HQ.out v wr HB.out h
   have HF : Hid _ := HE.out _ HO.out
   clear HQ HO HB HE
   go_wp2
   exact HF.out
theorem q2W (m l : Nat) (w : World) (hm : m < 256) (hl : l < 256) : Calls Try.prog 45 #[.int .u8 (m : Int),.int .u8 (l : Int)] w fun e w' => e = .returned (.bool (decide (l &&& m = l))) ∧ w' = w := by
 have h := u8_and_nat l m hl hm
 have HE : Hid ((((l &&& m : Nat) : Int) == (l : Int)) = decide (l &&& m = l)) := by
  by_cases e : l &&& m = l
  ·simp [e,Hid]
  ·rw [decide_eq_false e]; exact beq_false_of_ne (by omega)
 generalize l &&& m = k at *
 go_enter Try.func45,Try.ntmps45
 go_wp2
 go_ret
 exact ⟨by rw [← HE.out]; rfl,rfl⟩
def mvK (m k : Nat) : List Nat := (List.range k).filter fun l => l &&& m == l
theorem q5n (m : Nat) : mvK m 256 = mvL m := rfl
theorem q53 (m k : Nat) : mvK m (k + 1) = mvK m k ++ if k &&& m = k then [k] else [] := by
 unfold mvK
 rw [List.range_succ,List.filter_append]
 congr 1
 by_cases h : k &&& m = k <;> simp [h]
theorem q5o (m k : Nat) : (mvK m k).length ≤ k := by
 unfold mvK
 exact Nat.le_trans (List.length_filter_le _ _) (by simp)
theorem qq (m : Nat) (w : World) (hm : m < 256) : Calls Try.prog 21 #[.int .u8 (m : Int)] w fun e w' => Below w.heap.size w w' ∧ ∃ a c,e = .returned (.slice a (mvL m).length c) ∧ LtC w' a (mvL m).length c (mvL m) := by
 obtain ⟨Q,hQ⟩ : ∃ Q : Ending → World → Prop,Q = fun e w' => Below w.heap.size w w' ∧ ∃ a c,e = .returned (.slice a (mvL m).length c) ∧ LtC w' a (mvL m).length c (mvL m) := ⟨_,rfl⟩
 obtain ⟨M,hM⟩ : ∃ M : Nat,M = 256 := ⟨_,rfl⟩
 have HQ : Hid (∀ v w',Below w.heap.size w w' → (∃ base,w'.ownsRow base 27 1 v (mvK m M).length (ltV (mvK m M))) → Q (.returned v) w') := fun v w' h1 h2 => by
  rw [hQ]
  obtain ⟨base,h2⟩ := h2
  rw [hM,q5n] at h2
  obtain ⟨a,c,rfl,h3⟩ := q3p h2
  exact ⟨h1,a,c,rfl,h3⟩
 rw [← hQ]
 clear hQ
 have HM : Hid _ := hM
 have ja := q2Q w
 rw [← hM] at ja
 clear hM
 go_enter Try.func21,Try.ntmps21
 go_wp2_with fail
 refine ja.mono ?_
 rintro e w1 ⟨hb1,la,lc,rfl,hl⟩
 have HB1 : Hid _ := hb1
 have HL1 : Hid _ := hl
 have HO0 : Hid (w1.ownsRow w1.heap.size 27 1 (.slice none 0 0) (mvK m 0).length (ltV (mvK m 0))) := q2y w1 _
 clear ja hb1 hl
 go_wp2
 go_loopw [3,5] (fun v i wr => ∃ k n : Nat,k ≤ M ∧ n = (mvK m k).length ∧ i = .int .i64 (k : Int) ∧ Hid (wr.ownsRow w1.heap.size 27 1 v n (ltV (mvK m k))) ∧ Hid (Below w1.heap.size w1 wr)) (fun _ i _ => M - (intOf i).toNat)
 case atStart => exact ⟨0,_,Nat.zero_le _,rfl,rfl,HO0,Below.refl _ _⟩
 case round =>
  obtain ⟨k,n,hk,hn,rfl,HO,HB⟩ := hrel
  clear HO0
  by_cases hlt : k < M
  ·obtain ⟨va,vc,rfl⟩ := qs HO.out
   have e1 : decide ((k : Int) < (M : Int)) = true := decide_eq_true (by omega)
   have hM2 : M = 256 := HM.out
   have hn2 : n ≤ k := by rw [hn]; exact q5o m k
   have hL := HL1.out.up HB.out
   have ix := fun w' => hL.idx M k w' hlt (Nat.le_refl _)
   have ce := hL.cell k hlt
   clear hL
   rw [q12 (by simpa using hlt)] at ce
   have hkk : (List.range M).getD k 0 = k := by simp [List.getD_eq_getElem?_getD,hlt]
   rw [hkk] at ce
   have hk256 : k < 256 := by omega
   clear hkk
   have jw := fun w => q2W m k w hm (by omega)
   have hnx := q53 m k
   by_cases hin : k &&& m = k
   ·rw [if_pos hin] at hnx
    rw [decide_eq_true hin] at jw
    have HNX : Hid _ := hnx
    have HNN : Hid _ := hn
    have HOA : Hid ((wr.alloc (.cells #[.int .u8 (k : Int)] 27)).ownsRow w1.heap.size 27 1 (.slice va n vc) n (ltV (mvK m k))) := World.ownsRow.alloc HO.out _
    have HCA : Hid ((wr.alloc (.cells #[.int .u8 (k : Int)] 27)).cell? ⟨wr.heap.size,0,none⟩ = some (.int .u8 (k : Int))) := q8 (MapKept.heap_alloc wr _).1 0
    have HWA : Hid (Below w1.heap.size w1 (wr.alloc (.cells #[.int .u8 (k : Int)] 27))) := HB.out.alloc HB.out.size _
    have hszA : w1.heap.size ≤ (wr.alloc (.cells #[.int .u8 (k : Int)] 27)).heap.size := HWA.out.size
    have HGE : Hid (∀ q,(Value.slice va n vc).ownBlock = some q → w1.heap.size ≤ q) := q1s HO.out
    have HLA : Hid ((wr.alloc (.cells #[.int .u8 (k : Int)] 27)).cell? (adOf la k) = some (.int .u8 (k : Int))) := qa ce (q9 wr _)
    clear HO HB hnx hn hM2 hin
    generalize adOf la k = ak at *
    obtain ⟨ak1,ak2,ak3⟩ := ak
    go_wp2_with (first
     | (go_at_call 45; refine (jw _).mono ?_; rintro e w' ⟨rfl,hw'⟩; obtain rfl := hw'.symm; clear hw')
     | (at_builtin; refine qT rfl _ _ rfl w1.heap.size _ n (mvK m k) rfl HOA.out wr.heap.size k rfl HCA.out (by omega) hszA ?_))
    intro v7 w7 hown7 hgr7
    have HO7 : Hid (w7.ownsRow w1.heap.size 27 1 v7 (n + 1) (ltV (mvK m (k + 1)))) := by rw [HNX.out]; show World.ownsRow _ _ _ _ _ _ _; simpa using hown7
    have HN7 : Hid (n + 1 = (mvK m (k + 1)).length) := by rw [HNX.out,List.length_append,← HNN.out]; rfl
    have HW7 : Hid (Below w1.heap.size w1 w7) := HWA.out.grown hgr7 hszA (fun q e => HGE.out q e)
    clear hown7 hgr7 HOA HCA HWA hszA HGE HNX HNN HLA
    go_wp2
    go_roundw
    case rel => exact ⟨k + 1,n + 1,by omega,HN7.out,by go_num,HO7,HW7⟩
    case measure => simp [intOf]; omega
   ·rw [if_neg hin,List.append_nil] at hnx
    rw [decide_eq_false hin] at jw
    have HN2 : Hid (n = (mvK m (k + 1)).length) := by rw [hnx]; exact hn
    have HO2 : Hid (wr.ownsRow w1.heap.size 27 1 (.slice va n vc) n (ltV (mvK m (k + 1)))) := by rw [hnx]; exact HO.out
    clear hnx hn hin HO hM2
    generalize adOf la k = ak at *
    obtain ⟨ak1,ak2,ak3⟩ := ak
    go_wp2_with (go_at_call 45; refine (jw _).mono ?_; rintro e w' ⟨rfl,hw'⟩; obtain rfl := hw'.symm; clear hw')
    go_roundw
    case rel => exact ⟨k + 1,n,by omega,HN2.out,by go_num,HO2,HB⟩
    case measure => simp [intOf]; omega
  ·obtain rfl : k = M := by omega
   have e1 : decide ((k : Int) < (k : Int)) = false := by simp
   rw [hn] at HO
   have HE : Hid _ := fun v h => HQ.out v wr (q7 HB1.out HB.out) ⟨w1.heap.size,h⟩
   have HF : Hid _ := HE.out _ HO.out
   clear HQ HO HB HE
   go_wp2
   exact HF.out
theorem q5s {m v i : Nat} (hi : i < (mvL m).length) (e : (mvL m).getD i 0 = v) : NumN m v (i : Int) 0 := .inl ⟨by rw [← e]; exact (qF hi).2,rfl,i,rfl,hi,e⟩
theorem q57 {m v : Nat} (hv : v < 256) (h : ∀ i,i < (mvL m).length → (mvL m).getD i 0 ≠ v) : NumN m v 0 14 := .inr ⟨fun e => by
 obtain ⟨i,hi,h2⟩ := q3k hv e
 exact h i hi h2,rfl,rfl⟩
theorem q1X (m v : Nat) (w : World) (hm : m < 256) (hv : v < 256) : Calls Try.prog 14 #[.int .u8 (m : Int),.int .u8 (v : Int)] w fun e w' => Below w.heap.size w w' ∧ ∃ n E : Int,e = .returned (.tuple #[.int .i64 n,.int .i64 E]) ∧ Hid (NumN m v n E) := by
 obtain ⟨Q,hQ⟩ : ∃ Q : Ending → World → Prop,Q = fun e w' => Below w.heap.size w w' ∧ ∃ n E : Int,e = .returned (.tuple #[.int .i64 n,.int .i64 E]) ∧ Hid (NumN m v n E) := ⟨_,rfl⟩
 have HQ : Hid (∀ w' n E,Below w.heap.size w w' → NumN m v n E → Q (.returned (.tuple #[.int .i64 n,.int .i64 E])) w') := fun w' n E h1 h2 => by rw [hQ]; exact ⟨h1,n,E,rfl,h2⟩
 rw [← hQ]
 clear hQ
 have jm := qq m w hm
 have HLE : Hid _ := qo m
 obtain ⟨L,hL⟩ : ∃ L,L = (mvL m).length := ⟨_,rfl⟩
 rw [← hL] at jm
 have hLl : L ≤ 256 := by rw [hL]; exact qo m
 have HLL : Hid _ := hL
 clear hL
 go_enter Try.func14,Try.ntmps14
 go_wp2_with fail
 refine jm.mono ?_
 rintro e w1 ⟨hb1,la,lc,rfl,hl⟩
 have HB1 : Hid _ := hb1
 have HL1 : Hid _ := hl
 clear jm hb1 hl
 go_wp2
 go_loopw [7] (fun i wr => ∃ k : Nat,k ≤ L ∧ i = .int .i64 (k : Int) ∧ wr = w1 ∧ Hid (∀ i,i < k → (mvL m).getD i 0 ≠ v)) (fun i _ => L - (intOf i).toNat)
 case atStart => exact ⟨0,Nat.zero_le _,rfl,rfl,fun i h => absurd h (Nat.not_lt_zero _)⟩
 case round =>
  obtain ⟨k,hk,rfl,hwr,HN⟩ := hrel
  subst hwr
  by_cases hlt : k < L
  ·have e1 : decide ((k : Int) < (L : Int)) = true := decide_eq_true (by omega)
   have ix := fun w' => HL1.out.idx L k w' hlt (Nat.le_refl _)
   have ce := HL1.out.cell k hlt
   have hkm : k < (mvL m).length := by rw [← HLL.out]; exact hlt
   rw [q12 hkm] at ce
   by_cases hv2 : (mvL m).getD k 0 = v
   ·have HE : Hid _ := HQ.out wr (k : Int) 0 HB1.out (q5s hkm hv2)
    rw [hv2] at ce
    have e2 : ((v : Int) == (v : Int)) = true := by simp
    clear HQ hv2 hkm HN
    generalize adOf la k = ak at *
    obtain ⟨ak1,ak2,ak3⟩ := ak
    go_wp2
    exact HE.out
   ·have e2 : ((((mvL m).getD k 0 : Nat) : Int) == (v : Int)) = false := beq_false_of_ne (by omega)
    have HN2 : Hid (∀ i,i < k + 1 → (mvL m).getD i 0 ≠ v) := fun i hi => by
     by_cases e : i = k
     ·subst e; exact hv2
     ·exact HN.out i (by omega)
    clear hv2 hkm HN
    generalize adOf la k = ak at *
    obtain ⟨ak1,ak2,ak3⟩ := ak
    generalize (mvL m).getD k 0 = x at *
    go_wp2
    go_roundw
    case rel => exact ⟨k + 1,by omega,by go_num,trivial,HN2⟩
    case measure => simp [intOf]; omega
  ·obtain rfl : k = L := by omega
   have e1 : decide ((k : Int) < (k : Int)) = false := by simp
   have HE : Hid _ := HQ.out wr 0 14 HB1.out (q57 hv (by rw [← HLL.out]; exact HN.out))
   clear HQ HN
   go_wp2
   exact HE.out
theorem q23 {P e s : Nat} (he : e < 256) (hs : s < 256) (hP : P ≤ 8) : SplitN P e s ↔ ∀ q,q < 8 → (q < P → e.testBit q ≠ s.testBit q) ∧ (P ≤ q → e.testBit q = false ∧ s.testBit q = false) := by
 have far : ∀ {x q : Nat},x < 256 → 8 ≤ q → x.testBit q = false := fun {x q} hx hq => Nat.testBit_lt_two_pow (Nat.lt_of_lt_of_le hx (show 2 ^ 8 ≤ 2 ^ q from Nat.pow_le_pow_right (by decide) hq))
 unfold SplitN
 constructor
 ·rintro ⟨h1,h2⟩ q hq
  have k1 := congrArg (fun x => x.testBit q) h1
  have k2 := congrArg (fun x => x.testBit q) h2
  simp only [Nat.testBit_and,Nat.testBit_or,Nat.zero_testBit,Nat.testBit_two_pow_sub_one] at k1 k2
  refine ⟨fun h => ?_,fun h => ?_⟩
  ·rw [decide_eq_true h] at k2
   cases hx : e.testBit q <;> cases hy : s.testBit q <;> simp_all
  ·rw [decide_eq_false (by omega)] at k2
   simpa using k2
 ·intro h
  refine ⟨Nat.eq_of_testBit_eq fun q => ?_,Nat.eq_of_testBit_eq fun q => ?_⟩
  ·simp only [Nat.testBit_and,Nat.zero_testBit]
   by_cases hq : q < 8
   ·by_cases hp : q < P
    ·have := (h q hq).1 hp
     cases hx : e.testBit q <;> cases hy : s.testBit q <;> simp_all
    ·have := (h q hq).2 (by omega)
     simp [this.1]
   ·rw [far he (by omega)]; rfl
  ·simp only [Nat.testBit_or,Nat.testBit_two_pow_sub_one]
   by_cases hq : q < 8
   ·by_cases hp : q < P
    ·have := (h q hq).1 hp
     rw [decide_eq_true hp]
     cases hx : e.testBit q <;> cases hy : s.testBit q <;> simp_all
    ·have := (h q hq).2 (by omega)
     rw [decide_eq_false hp,this.1,this.2]; rfl
   ·rw [far he (by omega),far hs (by omega),decide_eq_false (by omega)]; rfl
theorem q3d {x k : Nat} (hk : k < 8) : bitB (x : Int) (k : Int) = x.testBit k := by
 have e : (x : Int) / 2 ^ k % 2 = ((x / 2 ^ k % 2 : Nat) : Int) := by
  have h2 : ((2 ^ k : Nat) : Int) = (2 : Int) ^ k := by simp
  rw [← h2]; simp
 unfold bitB
 rw [decide_eq_true (by omega),Bool.true_and,Int.toNat_natCast,e,Nat.testBit_eq_decide_div_mod_eq]
 by_cases h : x / 2 ^ k % 2 = 1
 ·rw [decide_eq_true h,decide_eq_true (by omega)]
 ·rw [decide_eq_false h,decide_eq_false (by omega)]
theorem q1W (p : Int) (aA : Option Addr) (nA cA : Nat) (aG : Option Addr) (nG cG : Nat) (aN : Option Addr) (nN cN : Nat) (bs : List Bool) (N : List Gd) (gs : List Int) (x y : Nat) (w : World) (hB : BoSl w aA nA cA bs) (hX : ∀ w0 : World,Below w.heap.size w w0 → Calls Try.prog 41 #[.agg #[.int .i64 p,.slice aA nA cA,.slice aG nG cG,.slice aN nN cN]] w0 (ChkR p nA N gs w0)) (hx : x < 256) (hy : y < 256) :
  Calls Try.prog 18 #[.agg #[.int .i64 p,.slice aA nA cA,.slice aG nG cG,.slice aN nN cN],.agg #[.int .u8 (x : Int),.int .u8 (y : Int)]] w fun e w' => Below w.heap.size w w' ∧ ∃ X : Int,e = .returned (.int .i64 X) ∧ Hid (ChkN p nA bs N gs x y X) := by
 obtain ⟨Q,hQ⟩ : ∃ Q : Ending → World → Prop,Q = fun e w' => Below w.heap.size w w' ∧ ∃ X : Int,e = .returned (.int .i64 X) ∧ Hid (ChkN p nA bs N gs x y X) := ⟨_,rfl⟩
 have HQ : Hid (∀ w' X,Below w.heap.size w w' → ChkN p nA bs N gs x y X → Q (.returned (.int .i64 X)) w') := fun w' X h hb => by rw [hQ]; exact ⟨h,X,rfl,hb⟩
 rw [← hQ]
 clear hQ
 obtain ⟨w1,hw1⟩ : ∃ w1,w1 = w.alloc (.cells #[.int .i64 p,.slice aA nA cA,.slice aG nG cG,.slice aN nN cN] 26 (0,0)) := ⟨_,rfl⟩
 have hb1 : Below w.heap.size w w1 := by rw [hw1]; exact q9 _ _
 have HA1 : Hid (AuB w1 w.heap.size p aA nA cA aG nG cG aN nN cN) := by rw [hw1]; exact qd w p aA nA cA aG nG cG aN nN cN
 have HW1 : Hid _ := hw1
 have hsz : w1.heap.size = w.heap.size + 1 := by rw [hw1]; exact Array.size_push _
 obtain ⟨w2,hw2⟩ : ∃ w2,w2 = w1.alloc (.cells #[.int .u8 (x : Int),.int .u8 (y : Int)] 29 (0,0)) := ⟨_,rfl⟩
 have hb2 : Below w1.heap.size w1 w2 := by rw [hw2]; exact q9 _ _
 have hk2 : w2.heap[w1.heap.size]? = some (.cells #[.int .u8 (x : Int),.int .u8 (y : Int)] 29 (0,0)) := by rw [hw2]; exact (MapKept.heap_alloc w1 _).1
 have HW2 : Hid _ := hw2
 have HB2 : Hid (Below w.heap.size w w2) := q7 hb1 hb2
 have HA2 : Hid (AuB w2 w.heap.size p aA nA cA aG nG cG aN nN cN) := HA1.out.up hb2
 have HK2 : Hid (w2.heap[w1.heap.size]? = some (.cells #[.int .u8 (x : Int),.int .u8 (y : Int)] 29 (0,0))) := hk2
 have HL2 : Hid (w1.heap.size < w2.heap.size) := (Array.getElem?_eq_some_iff.1 hk2).1
 have jc := hX w2 HB2.out
 have HBB : Hid _ := hB
 obtain ⟨c0,c1,c2,c3⟩ := HA2.out
 clear hB hX hw1 hb1 hw2 hb2 hk2 HA1
 go_enter Try.func18,Try.ntmps18
 go_wp2_with (first | rw [← HW2.out] | rw [← HW1.out])
 refine jc.mono ?_
 rintro e w3 ⟨hb3,v,rfl,⟨rfl,hM⟩ | ⟨rfl,hM⟩⟩
 rotate_left
 ·have HE : Hid _ := HQ.out w3 12 (q7 HB2.out hb3) (.inl ⟨hM,rfl⟩)
  clear HQ hM hb3 jc hsz
  go_wp2
  exact HE.out
 have HB3 : Hid (Below w.heap.size w w3) := q7 HB2.out hb3
 have HA3 : Hid (AuB w3 w.heap.size p aA nA cA aG nG cG aN nN cN) := HA2.out.up hb3
 have hk3 : w3.heap[w.heap.size + 1]? = some (.cells #[.int .u8 (x : Int),.int .u8 (y : Int)] 29 (0,0)) := by rw [← hsz]; exact (hb3.block _ HL2.out).trans HK2.out
 have HK3 : Hid _ := hk3
 have HM : Hid _ := hM
 have h1n : 0 < nA := by have := hM.s1; omega
 obtain ⟨P,rfl⟩ := Int.eq_ofNat_of_zero_le hM.p0
 have hP : P ≤ 8 := by have := hM.p8; omega
 clear jc hb3 hM c0 c1 c2 c3 HA2 HK2 HL2 HB2 hk3
 obtain ⟨c0,c1,c2,c3⟩ := HA3.out
 obtain ⟨ix0,ce0⟩ : (∀ w',(Instr.indexAt 22 (.slice aA nA cA) (.int .i64 0)).run Try.prog w' = .ok (.pointer (some (adOf aA 0))) w') ∧ w3.cell? (adOf aA 0) = some (.bool (bs.getD 0 false)) := (HBB.out.up HB3.out).getQ h1n
 generalize adOf aA 0 = ad at *
 obtain ⟨ad1,ad2,ad3⟩ := ad
 cases hb0 : bs.getD 0 false with
 | true =>
  rw [hb0] at ce0
  have HE : Hid _ := HQ.out w3 12 HB3.out (.inr (.inl ⟨HM.out,hb0,rfl⟩))
  clear HQ hb0 hsz
  go_wp2
  exact HE.out
 | false =>
 rw [hb0] at ce0
 have HOK : Hid ((∀ q,q < 8 → (q < P → x.testBit q ≠ y.testBit q) ∧ (P ≤ q → x.testBit q = false ∧ y.testBit q = false)) → ChkN (P : Int) nA bs N gs x y 0) := fun h => .inr (.inr (.inr ⟨HM.out,hb0,by rw [Int.toNat_natCast]; exact (q23 hx hy hP).2 h,rfl⟩))
 have HNO : Hid (∀ q,q < 8 → ¬ ((q < P → x.testBit q ≠ y.testBit q) ∧ (P ≤ q → x.testBit q = false ∧ y.testBit q = false)) → ChkN (P : Int) nA bs N gs x y 13) := fun q hq h => .inr (.inr (.inl ⟨HM.out,hb0,(fun hs => h ((q23 hx hy hP).1 (by rw [Int.toNat_natCast] at hs; exact hs) q hq)),rfl⟩))
 clear hb0 hsz
 go_wp2
 clear ix0 ce0 c0 c1 c2 c3
 go_loopw [6] (fun i wr => ∃ k : Nat,k ≤ 8 ∧ i = .int .i64 (k : Int) ∧ Hid (Below w3.heap.size w3 wr) ∧ Hid (∀ q,q < k → (q < P → x.testBit q ≠ y.testBit q) ∧ (P ≤ q → x.testBit q = false ∧ y.testBit q = false))) (fun i _ => 8 - (intOf i).toNat)
 case atStart => exact ⟨0,Nat.zero_le _,rfl,Below.refl _ _,fun q h => absurd h (Nat.not_lt_zero _)⟩
 case round =>
  obtain ⟨k,hk,rfl,HB,HC⟩ := hrel
  by_cases hlt : k < 8
  ·have e1 : decide ((k : Int) < 8) = true := decide_eq_true (by omega)
   have HBN : Hid (∀ dd os,Below w3.heap.size w3 (grow (redrawn wr dd) os)) := fun dd os => q7 HB.out (below_regrown wr dd os)
   have hk3 := (HB.out.block _ (Array.getElem?_eq_some_iff.1 HK3.out).1).trans HK3.out
   have z0 := cell_regrown (q8 hk3 0)
   have z1 := cell_regrown (q8 hk3 1)
   have cX : ∀ dd os,Calls Try.prog 42 #[.int .u8 (x : Int),.int .i64 (k : Int)] (grow (redrawn wr dd) os) fun e w'' => e = .returned (.bool (x.testBit k)) ∧ ∃ p : Regrown,w'' = grow (redrawn wr p.d) p.os := fun dd os => by
    refine (q1y (x : Int) (k : Int) _ (by omega) (by omega)).mono ?_
    rintro e w'' ⟨rfl,rfl⟩
    rw [q3d hlt]
    exact ⟨rfl,regrown_of_below (below_regrown wr dd os)⟩
   have cY : ∀ dd os,Calls Try.prog 42 #[.int .u8 (y : Int),.int .i64 (k : Int)] (grow (redrawn wr dd) os) fun e w'' => e = .returned (.bool (y.testBit k)) ∧ ∃ p : Regrown,w'' = grow (redrawn wr p.d) p.os := fun dd os => by
    refine (q1y (y : Int) (k : Int) _ (by omega) (by omega)).mono ?_
    rintro e w'' ⟨rfl,rfl⟩
    rw [q3d hlt]
    exact ⟨rfl,regrown_of_below (below_regrown wr dd os)⟩
   have HNX : Hid (((k < P → x.testBit k ≠ y.testBit k) ∧ (P ≤ k → x.testBit k = false ∧ y.testBit k = false)) → ∀ q,q < k + 1 → (q < P → x.testBit q ≠ y.testBit q) ∧ (P ≤ q → x.testBit q = false ∧ y.testBit q = false)) := fun h q hq => by
    by_cases e : q = k
    ·subst e; exact h
    ·exact HC.out q (by omega)
   have HFX : Hid _ := HNO.out k hlt
   clear HC hk3
   generalize x.testBit k = bx at *
   generalize y.testBit k = bY at *
   go_upto_region 9 with fail
   refine wp_region_quiet_below (by kernel_rfl) (by kernel_rfl) ?_
   repeat (go_big_quiet_step (first | (with_reducible exact cX _ _) | (with_reducible exact cY _ _)))
   refine wpQuiet_nil ?_
   intro _ hw'
   obtain ⟨⟨dq,osq⟩,hw''⟩ := hw'
   subst hw''
   have HI3 : Hid _ := HBN.out dq osq
   generalize grow (redrawn wr dq) osq = wx at *
   have c0 := (HA3.out.up HI3.out).c0
   clear cX cY HBN z0 z1
   by_cases hP2 : k < P
   ·have d1 : decide ((k : Int) < (P : Int)) = true := decide_eq_true (by omega)
    have d2 : decide ((P : Int) ≤ (k : Int)) = false := decide_eq_false (by omega)
    cases bx <;> cases bY
    ·have HE : Hid _ := HQ.out wx 13 (q7 HB3.out HI3.out) (HFX.out (fun h => (h.1 hP2) rfl))
     clear HQ HFX HNX HOK HNO
     go_wp2
     exact HE.out
    ·have HC2 : Hid _ := HNX.out ⟨fun _ => (by decide),fun h => absurd h (by omega)⟩
     clear HFX HNX
     go_wp2
     go_roundw
     case rel => exact ⟨k + 1,by omega,by go_num,HI3,HC2⟩
     case measure => simp [intOf]; omega
    ·have HC2 : Hid _ := HNX.out ⟨fun _ => (by decide),fun h => absurd h (by omega)⟩
     clear HFX HNX
     go_wp2
     go_roundw
     case rel => exact ⟨k + 1,by omega,by go_num,HI3,HC2⟩
     case measure => simp [intOf]; omega
    ·have HE : Hid _ := HQ.out wx 13 (q7 HB3.out HI3.out) (HFX.out (fun h => (h.1 hP2) rfl))
     clear HQ HFX HNX HOK HNO
     go_wp2
     exact HE.out
   ·have d1 : decide ((k : Int) < (P : Int)) = false := decide_eq_false (by omega)
    have d2 : decide ((P : Int) ≤ (k : Int)) = true := decide_eq_true (by omega)
    have hP3 : P ≤ k := by omega
    cases bx <;> cases bY
    ·have HC2 : Hid _ := HNX.out ⟨fun h => absurd h hP2,fun _ => ⟨rfl,rfl⟩⟩
     clear HFX HNX
     go_wp2
     go_roundw
     case rel => exact ⟨k + 1,by omega,by go_num,HI3,HC2⟩
     case measure => simp [intOf]; omega
    ·have HE : Hid _ := HQ.out wx 13 (q7 HB3.out HI3.out) (HFX.out (fun h => absurd (h.2 hP3).2 (by decide)))
     clear HQ HFX HNX HOK HNO
     go_wp2
     exact HE.out
    ·have HE : Hid _ := HQ.out wx 13 (q7 HB3.out HI3.out) (HFX.out (fun h => absurd (h.2 hP3).1 (by decide)))
     clear HQ HFX HNX HOK HNO
     go_wp2
     exact HE.out
    ·have HE : Hid _ := HQ.out wx 13 (q7 HB3.out HI3.out) (HFX.out (fun h => absurd (h.2 hP3).1 (by decide)))
     clear HQ HFX HNX HOK HNO
     go_wp2
     exact HE.out
  ·obtain rfl : k = 8 := by omega
   have HE : Hid _ := HQ.out wr 0 (q7 HB3.out HB.out) (HOK.out HC.out)
   clear HQ HC HOK HNO
   go_wp2
   exact HE.out
theorem orM : ∀ k,k < 8 → bits .or .u8 ((2 ^ k - 1 : Nat) : Int) ((2 : Int) ^ k % 256) = ((2 ^ (k + 1) - 1 : Nat) : Int) := fun k hk => by
 obtain rfl | rfl | rfl | rfl | rfl | rfl | rfl | rfl : k = 0 ∨ k = 1 ∨ k = 2 ∨ k = 3 ∨ k = 4 ∨ k = 5 ∨ k = 6 ∨ k = 7 := by omega
 all_goals decide +kernel
theorem q2R (a : Option Addr) (len cap : Nat) (ad : Nat → Addr) (ss : List ByteArray) (a' : Option Addr) (len' cap' : Nat) (ad' : Nat → Addr) (os : List ByteArray) (w : World) (hS : StrSl Try.prog 30 w a len cap ad ss) (hO : StrSl Try.prog 30 w a' len' cap' ad' os) :
  Calls Try.prog 16 #[.slice a len cap,.slice a' len' cap'] w fun e w' => Below w.heap.size w w' ∧ ∃ X Y E : Int,e = .returned (.tuple #[.agg #[.int .u8 X,.int .u8 Y],.int .i64 E]) ∧ Hid (OfN ss os X Y E) := by
 obtain ⟨Q,hQ⟩ : ∃ Q : Ending → World → Prop,Q = fun e w' => Below w.heap.size w w' ∧ ∃ X Y E : Int,e = .returned (.tuple #[.agg #[.int .u8 X,.int .u8 Y],.int .i64 E]) ∧ Hid (OfN ss os X Y E) := ⟨_,rfl⟩
 have HQ : Hid (∀ w' X Y E,Below w.heap.size w w' → OfN ss os X Y E → Q (.returned (.tuple #[.agg #[.int .u8 X,.int .u8 Y],.int .i64 E])) w') := fun w' X Y E h1 h2 => by rw [hQ]; exact ⟨h1,X,Y,E,rfl,h2⟩
 rw [← hQ]
 clear hQ
 obtain ⟨w1,hw1⟩ : ∃ w1,w1 = w.alloc (.cells #[.int .u8 0,.int .u8 0] 29 (0,0)) := ⟨_,rfl⟩
 have hb1 : Below w.heap.size w w1 := by rw [hw1]; exact q9 _ _
 have hk1 : w1.heap[w.heap.size]? = some (.cells #[.int .u8 0,.int .u8 0] 29 (0,0)) := by rw [hw1]; exact (MapKept.heap_alloc w _).1
 have HW1 : Hid _ := hw1
 have jo := q3K a len cap ad ss a' len' cap' ad' os w1 (hS.up hb1) (hO.up hb1)
 have hlen := hS.hlen
 obtain ⟨y,hy8,hy⟩ := q46 (nms ss) (nms os)
 have HL : Hid ((ofEc (nms ss) (nms os)).2 = 0 → len ≤ 8) := fun h => by have := q3n h; rw [qj] at this; omega
 have HOK : Hid ((ofEc (nms ss) (nms os)).2 = 0 → OfN ss os (y : Int) ((sysN len y : Nat) : Int) 0) := fun h => .inr ⟨h,rfl,hy.symm,by rw [hy,Int.toNat_natCast,← hlen]⟩
 have HNO : Hid ((ofEc (nms ss) (nms os)).2 ≠ 0 → OfN ss os 0 0 (ofEc (nms ss) (nms os)).2) := fun h => .inl ⟨h,rfl,rfl,rfl⟩
 have HB1 : Hid _ := hb1
 have HK1 : Hid _ := hk1
 unfold OfRc at jo
 rw [hy] at jo
 generalize (ofEc (nms ss) (nms os)).2 = E at *
 clear hS hO hb1 hk1 hw1 hy hlen
 go_enter Try.func16,Try.ntmps16
 go_wp2_with (rw [← HW1.out])
 refine jo.mono ?_
 rintro e w2 ⟨rfl,hd2⟩
 obtain ⟨dn,hdn⟩ := hd2.out
 have hb2 : Below w1.heap.size w1 w2 := by rw [hdn]; exact below_drewN (Below.refl _ _) dn
 have HB2 : Hid _ := q7 HB1.out hb2
 have HK2 : Hid (w2.heap[w.heap.size]? = some (.cells #[.int .u8 0,.int .u8 0] 29 (0,0))) := (hb2.block _ (Array.getElem?_eq_some_iff.1 HK1.out).1).trans HK1.out
 clear jo hb2 HB1 HK1 HW1 hd2 hdn
 have d0 := q8 HK2.out 0
 have d1 := q8 HK2.out 1
 have f0 := frozen_of_row _ _ 0 _ _ HK2.out
 have f1 := frozen_of_row _ _ 1 _ _ HK2.out
 by_cases h0 : E = 0
 ·subst h0
  have hl8 := HL.out rfl
  have HOK2 : Hid (OfN ss os (y : Int) ((sysN len y : Nat) : Int) 0) := HOK.out rfl
  clear HOK HNO HL
  go_wp2
  go_loopw [8,9] (fun u i wr => ∃ k : Nat,k ≤ len ∧ i = .int .i64 (k : Int) ∧ u = .int .u8 ((2 ^ k - 1 : Nat) : Int) ∧ wr = w2) (fun _ i _ => len - (intOf i).toNat)
  case atStart => exact ⟨0,Nat.zero_le _,rfl,rfl,rfl⟩
  case round =>
   obtain ⟨k,hk,rfl,rfl,hwr⟩ := hrel
   subst hwr
   by_cases hlt : k < len
   ·have e1 : decide ((k : Int) < (len : Int)) = true := decide_eq_true (by omega)
    have e2 := orM k (by omega)
    have HEQ : Hid (∃ M2,M2 = 2 ^ (k + 1) - 1) := ⟨_,rfl⟩
    obtain ⟨M2,hM2⟩ := HEQ.out
    rw [← hM2] at e2
    have HM2 : Hid _ := hM2
    generalize 2 ^ k - 1 = M1 at *
    clear hM2 HEQ
    go_wp2
    go_roundw
    case rel => exact ⟨k + 1,by omega,by go_num,by rw [← HM2.out],trivial⟩
    case measure => simp [intOf]; omega
   ·obtain rfl : k = len := by omega
    have e1 : decide ((k : Int) < (k : Int)) = false := by simp
    have hM8 : 2 ^ k - 1 < 256 := by have : 2 ^ k ≤ 2 ^ 8 := Nat.pow_le_pow_right (by decide) hl8; omega
    have hand := u8_andNot_nat (2 ^ k - 1) y hM8 hy8
    rw [← show sysN k y = (2 ^ k - 1) &&& (255 - y) from rfl] at hand
    generalize sysN k y = S at *
    generalize 2 ^ k - 1 = M at *
    obtain ⟨w3,hw3⟩ : ∃ w3,w3 = (wr.setCell ⟨w.heap.size,0,none⟩ (.int .u8 (y : Int))).setCell ⟨w.heap.size,1,none⟩ (.int .u8 (S : Int)) := ⟨_,rfl⟩
    have hk3 : w3.heap[w.heap.size]? = some (.cells #[.int .u8 (y : Int),.int .u8 (S : Int)] 29 (0,0)) := by rw [hw3]; exact qR HK2.out
    have HB3 : Hid (Below w.heap.size w w3) := by rw [hw3]; exact qH HB2.out (Nat.le_refl _) _ _
    have HW3 : Hid _ := hw3
    have HE : Hid _ := HQ.out w3 (y : Int) (S : Int) 0 HB3.out HOK2.out
    have z0 := q8 hk3 0
    have z1 := q8 hk3 1
    clear HQ HOK2 hw3 hk3 HK2 HB2
    go_wp2_with (rw [← HW3.out])
    refine bodyPost_ret (v := .tuple #[.agg #[.int .u8 (y : Int),.int .u8 (S : Int)],.int .i64 0]) ?_ rfl HE.out
    simp [results,Try.results16,go_sem,z0,z1]
 ·have e1 : (E != 0) = true := by simpa using h0
  obtain ⟨w3,hw3⟩ : ∃ w3,w3 = (w2.setCell ⟨w.heap.size,0,none⟩ (.int .u8 0)).setCell ⟨w.heap.size,1,none⟩ (.int .u8 0) := ⟨_,rfl⟩
  have hk3 : w3.heap[w.heap.size]? = some (.cells #[.int .u8 0,.int .u8 0] 29 (0,0)) := by rw [hw3]; exact qR HK2.out
  have HB3 : Hid (Below w.heap.size w w3) := by rw [hw3]; exact qH HB2.out (Nat.le_refl _) _ _
  have HW3 : Hid _ := hw3
  have HE : Hid _ := HQ.out w3 0 0 E HB3.out (HNO.out h0)
  have z0 := q8 hk3 0
  have z1 := q8 hk3 1
  clear HQ HOK HNO HL hw3 hk3 HK2 HB2
  go_wp2_with (rw [← HW3.out])
  refine bodyPost_ret (v := .tuple #[.agg #[.int .u8 0,.int .u8 0],.int .i64 E]) ?_ rfl HE.out
  simp [results,Try.results16,go_sem,z0,z1]
abbrev Zc.vv (r : Zc) : Value := .slice r.a r.zs.length r.cap
theorem q5u {w : World} {base e s n base' e' s' n' : Nat} {v v' : Value} {vs vs' : List Value} (h1 : w.ownsRow base e s v n vs) (h2 : w.ownsRow base' e' s' v' n' vs') (hne : e ≠ e') {b : Nat} (hb : v.ownBlock = some b) : v'.ownBlock ≠ some b := fun hb' => by
 rcases h1.2 with ⟨rfl,_⟩ | ⟨g,cap,cur,rfl,_,k1,_⟩
 ·cases hb
 ·injection hb with hb
  dsimp only at hb
  subst hb
  rcases h2.2 with ⟨rfl,_⟩ | ⟨g',cap',cur',rfl,_,k2,_⟩
  ·cases hb'
  ·injection hb' with hb'
   dsimp only at hb'
   subst hb'
   rw [k1] at k2
   injection k2 with k2
   injection k2 with _ k2 _
   exact hne k2
theorem q4O {w w' : World} {base e s n : Nat} {v : Value} {vs : List Value} (h : w.ownsRow base e s v n vs) (hb : ∀ g,v.ownBlock = some g → w'.heap[g]? = w.heap[g]?) : w'.ownsRow base e s v n vs := by
 obtain ⟨hl,⟨rfl,h0⟩ | ⟨g,cap,cur,rfl,h1,h2,h3⟩⟩ := h
 ·exact ⟨hl,.inl ⟨rfl,h0⟩⟩
 ·exact ⟨hl,.inr ⟨g,cap,cur,rfl,h1,(hb g rfl).trans h2,h3⟩⟩
abbrev izV (zs : List Int) : List Value := zs.map (Value.int .i64)
structure RoO (w : World) (base : Nat) (v : Value) (L : List Zc) : Prop where
 row : w.ownsRow base 23 1 v L.length (L.map Zc.vv)
 ints : ∀ r ∈ L,r.len = r.zs.length ∧ w.ownsRow 0 3 1 r.vv r.zs.length (izV r.zs)
theorem RoO.up {w w' : World} {base : Nat} {v : Value} {L : List Zc} (h : RoO w base v L) (hb : Below w.heap.size w w') : RoO w' base v L := ⟨q2s h.row hb,fun r hr => ⟨(h.ints r hr).1,q2s (h.ints r hr).2 hb⟩⟩
theorem q5v (w : World) (base : Nat) : RoO w base (.slice none 0 0) [] := ⟨⟨rfl,.inl ⟨rfl,rfl⟩⟩,fun r hr => (by cases hr)⟩
theorem RoO.add {w3 w7 : World} {base : Nat} {v : Value} {L : List Zc} (h : RoO w3 base v L) {y : Zc} (hl : y.len = y.zs.length) (hy : w3.ownsRow 0 3 1 y.vv y.zs.length (izV y.zs)) {o : Obj} {v7 : Value} (hq : w7.ownsRow base 23 1 v7 (L.length + 1) (L.map Zc.vv ++ [y.vv])) (hg : (w3.alloc o).grownBy w7 v.ownBlock) : RoO w7 base v7 (L ++ [y]) := by
 have hr3 : (w3.alloc o).ownsRow base 23 1 v L.length (L.map Zc.vv) := World.ownsRow.alloc h.row o
 have keep : ∀ {u : Value} {n : Nat} {xs : List Value},w3.ownsRow 0 3 1 u n xs → w7.ownsRow 0 3 1 u n xs := fun {u n xs} hu => by
  have hu2 := World.ownsRow.alloc hu o
  refine q4O hu2 (fun g hg1 => hg.block g (hu2.lt g hg1).2 (fun e => ?_))
  exact q5u hr3 hu2 (by decide) e.symm hg1
 refine ⟨by rw [List.length_append,List.length_singleton,List.map_append]; exact hq,fun b hb1 => ?_⟩
 rcases List.mem_append.1 hb1 with hb1 | hb1
 ·exact ⟨(h.ints b hb1).1,keep (h.ints b hb1).2⟩
 ·simp only [List.mem_singleton] at hb1
  subst hb1
  exact ⟨hl,keep hy⟩
theorem RoO.zz {w : World} {base : Nat} {v : Value} {L : List Zc} (h : RoO w base v L) (hz : ∀ r ∈ L,∀ z ∈ r.zs,I64 z) : ∃ a c,v = .slice a L.length c ∧ ZzSl w a L.length c L := by
 have hints : ∀ r ∈ L,ZSl w r.a r.len r.cap r.zs ∧ ∀ z ∈ r.zs,I64 z := fun r hr => by
  obtain ⟨h1,h2⟩ := h.ints r hr
  obtain ⟨a,c,e,h3,_⟩ := q48 h2 Try.underlying23 qe
  injection e with e1 e2 e3
  refine ⟨?_,hz r hr⟩
  rw [h1,e1,e3]
  exact h3
 rcases h.row.2 with ⟨rfl,h0⟩ | ⟨g,cap,cur,rfl,_,k1,k2,k3,k4,k5⟩
 ·have hL : L = [] := List.eq_nil_of_length_eq_zero h0
  subst hL
  exact ⟨none,0,rfl,rfl,Nat.le_refl _,by decide,fun _ => rfl,fun x hx => (by cases hx),hints⟩
 ·refine ⟨some ⟨g,0,none⟩,cap,rfl,rfl,k2,k3,fun e => (by cases e),fun x hx k hk => ?_,hints⟩
  injection hx with hx
  subst hx
  rw [qb,Nat.zero_add,q8 k1]
  have h5 : cur[k]? = (L.map Zc.vv)[k]? := by
   rw [← k5,List.getElem?_take,if_pos (by omega)]
   simp
  rw [h5,List.getElem?_map,List.getElem?_eq_getElem hk,(h.ints L[k] (List.getElem_mem _)).1]
  rfl
theorem q39 {w : World} {ops : Array Oper} {o : Oper} {a : Act} {K : Act → World → Prop} {Q : Exit → Act → World → Prop} {X : Prop} (hw : Region.wanted o (yielded ops a.tmps) = true) (s x : Operand)
  (ho : o.op = .call { callee := .builtin .append,args := #[s,x],argTypes := #[23,23] }) (base : Nat)
  (v : Value) (n : Nat) (xs : List Value) (y : Value) (g : Nat) (hs : a.eval s = v) (hx : a.eval x = .slice (some ⟨g,0,none⟩) 1 1) (hown : w.ownsRow base 3 1 v n xs)
  (hB : w.cell? ⟨g,0,none⟩ = some y) (h1 : y.oneCell' = true) (hn : n ≤ 1000000) (hbase : base ≤ w.heap.size)
  (h : ∀ v' w',w'.ownsRow base 3 1 v' (n + 1) (xs ++ [y]) → w.grownBy w' v.ownBlock → K (a.put o.dst v') w') :
  if Region.wanted o (yielded ops a.tmps) = true then Oper.wp Try.prog o a w K Q else X := by
 rw [if_pos hw]
 have hI : (Try.prog.info? 3).map (fun i => (i.zero,i.size,i.bytes)) = some (some (.int .i64 0),1,8) := by kernel_rfl
 obtain ⟨i,hi,hz0,hz1,hz2⟩ := info_parts hI
 obtain ⟨v',w',hr,h2,h3,_,h5⟩ := run_append_own_at (P := Try.prog) w base 23 o.type 3 i _ 1 8 Try.underlying23 hi hz0 hz1 hz2 rfl (by decide) v n _ hown ⟨g,0,none⟩ 1 1 [y] rfl (fun j u hj => by
  match j with
  | 0 => simp at hj; rw [← hj,qb]; exact hB
  | j + 1 => simp at hj) (fun u hu => by simp at hu; subst hu; exact h1) (by unfold maxLen; omega) (by omega) hbase
 unfold Oper.wp execOp
 simp only [ho,resolve,invoke,builtin,Sem.run_bind,Sem.run_pure,Result.andThen_ok,List.map_toArray,List.map_cons,List.map_nil,hs,hx,hr]
 exact h v' w' h2 h3
theorem q4Y {p : Int} {N : List Gd} {gs : List Int} {q x : Nat} {ys : List Nat} {j : Nat} (h : j < ys.length) : (goR p N gs q x ys).take j ++ [((trP (rwA p N gs) q (x ||| ys.getD j 0) : Nat) : Int)] = (goR p N gs q x ys).take (j + 1) := by
 have hl : j < (goR p N gs q x ys).length := by rw [goR,List.length_map]; exact h
 have h2 : (goR p N gs q x ys).getD j 0 = ((trP (rwA p N gs) q (x ||| ys.getD j 0) : Nat) : Int) := by
  simp [goR,List.getD_eq_getElem?_getD,List.getElem?_eq_getElem h]
 rw [qm hl,h2]
theorem q2V (p : Int) (aA : Option Addr) (nA cA : Nat) (aG : Option Addr) (nG cG : Nat) (aN : Option Addr) (nN cN : Nat) (N : List Gd) (gs : List Int) (x y k : Nat) (w : World) (hM : MayG p nA N gs) (hN : NdSl w aN nN cN N) (hG : ZSl w aG nG cG gs) (hS : SplitN p.toNat x y) (hk : k < nA) (hx : x < 256) (hy : y < 256) :
  Calls Try.prog 34 #[.agg #[.int .i64 p,.slice aA nA cA,.slice aG nG cG,.slice aN nN cN],.agg #[.int .u8 (x : Int),.int .u8 (y : Int)],.int .i64 (k : Int)] w fun e w' => Below w.heap.size w w' ∧ ∃ v L,e = .returned v ∧ RoO w' w.heap.size v L ∧ L.map Zc.zs = goeL p N gs x y k := by
 obtain ⟨Q,hQ⟩ : ∃ Q : Ending → World → Prop,Q = fun e w' => Below w.heap.size w w' ∧ ∃ v L,e = .returned v ∧ RoO w' w.heap.size v L ∧ L.map Zc.zs = goeL p N gs x y k := ⟨_,rfl⟩
 have HQ : Hid (∀ w' v L,Below w.heap.size w w' → RoO w' w.heap.size v L → L.map Zc.zs = goeL p N gs x y k → Q (.returned v) w') := fun w' v L h1 h2 h3 => by rw [hQ]; exact ⟨h1,v,L,rfl,h2,h3⟩
 rw [← hQ]
 clear hQ
 obtain ⟨w1,hw1⟩ : ∃ w1,w1 = w.alloc (.cells #[.int .i64 p,.slice aA nA cA,.slice aG nG cG,.slice aN nN cN] 26 (0,0)) := ⟨_,rfl⟩
 have hb1 : Below w.heap.size w w1 := by rw [hw1]; exact q9 _ _
 have hA1 : AuB w1 w.heap.size p aA nA cA aG nG cG aN nN cN := by rw [hw1]; exact qd w p aA nA cA aG nG cG aN nN cN
 have HW1 : Hid _ := hw1
 obtain ⟨w2,hw2⟩ : ∃ w2,w2 = w1.alloc (.cells #[.int .u8 (x : Int),.int .u8 (y : Int)] 29 (0,0)) := ⟨_,rfl⟩
 have hb2 : Below w1.heap.size w1 w2 := by rw [hw2]; exact q9 _ _
 have hk2 : w2.heap[w1.heap.size]? = some (.cells #[.int .u8 (x : Int),.int .u8 (y : Int)] 29 (0,0)) := by rw [hw2]; exact (MapKept.heap_alloc w1 _).1
 have HW2 : Hid _ := hw2
 have HB2 : Hid (Below w.heap.size w w2) := q7 hb1 hb2
 have HN : Hid (∀ w',Below w2.heap.size w2 w' → NdSl w' aN nN cN N ∧ ZSl w' aG nG cG gs ∧ AuB w' w.heap.size p aA nA cA aG nG cG aN nN cN) := fun w' hb => ⟨hN.up (q7 HB2.out hb),hG.up (q7 HB2.out hb),(hA1.up hb2).up hb⟩
 have HM : Hid _ := hM
 have hbd : Below w2.heap.size w2 w2.drew := (Below.refl _ _).drew
 have k1 : Calls Try.prog 21 #[.int .u8 (x : Int)] w2.drew fun e w' => Below w2.heap.size w2 w' ∧ ∃ a c,e = .returned (.slice a (mvL x).length c) ∧ LtC w' a (mvL x).length c (mvL x) := (qq x w2.drew hx).mono fun e w' h => ⟨q7 hbd h.1,h.2⟩
 have k2 : ∀ wx,Calls Try.prog 21 #[.int .u8 (y : Int)] wx fun e w' => Below wx.heap.size wx w' ∧ ∃ a c,e = .returned (.slice a (mvL y).length c) ∧ LtC w' a (mvL y).length c (mvL y) := fun wx => qq y wx hy
 have s0 := q8 hk2 0
 have s1 := q8 hk2 1
 have HTT : Hid (∀ wx,Below w2.heap.size w2 wx → wx.cell? ⟨w1.heap.size,0,none⟩ = some (.int .u8 (x : Int)) ∧ wx.cell? ⟨w1.heap.size,1,none⟩ = some (.int .u8 (y : Int))) := fun wx hb => by
  have := (hb.block _ (Array.getElem?_eq_some_iff.1 hk2).1).trans hk2
  exact ⟨q8 this 0,q8 this 1⟩
 have HSP : Hid _ := hS
 clear hM hN hG hS hw1 hb1 hw2 hb2 hk2 hA1 hbd
 go_enter Try.func34,Try.ntmps34
 go_upto_region 1 with (first | rw [← HW2.out] | rw [← HW1.out])
 go_cut [7,8] (fun u v wx => ∃ a1 c1 a2 c2,u = .slice a1 (mvL x).length c1 ∧ v = .slice a2 (mvL y).length c2 ∧ Hid (LtC wx a1 (mvL x).length c1 (mvL x)) ∧ Hid (LtC wx a2 (mvL y).length c2 (mvL y)) ∧ Hid (Below w2.heap.size w2 wx))
 case first => as_aux_lemma =>
  go_region_law (first
   | (revert HB9; intro HB9; go_simp; (with_reducible refine (k2 w9).mono ?_); rintro e w10 ⟨hb10,a2,q2,rfl,hl2⟩; have HB10 : Hid (Below w2.heap.size w2 w10) := q7 HB9.out hb10; have HL2 : Hid (LtC w10 a2 (mvL y).length q2 (mvL y)) := hl2; have HL1 : Hid (LtC w10 a1 (mvL x).length q1 (mvL x)) := HL9.out.up hb10; obtain ⟨v0,v1⟩ := HTT.out w10 HB10.out; dsimp only)
   | (revert k1; intro k1; go_simp; (with_reducible refine k1.mono ?_); rintro e w9 ⟨hb9,a1,q1,rfl,hl1⟩; have HB9 : Hid (Below w2.heap.size w2 w9) := hb9; have HL9 : Hid (LtC w9 a1 (mvL x).length q1 (mvL x)) := hl1; obtain ⟨u0,u1⟩ := HTT.out w9 HB9.out; dsimp only)
   | fail)
  all_goals
   clear hb9 hl1 hb10 hl2
   go_wp2_with fail
   go_meet
   exact ⟨_,_,_,_,rfl,rfl,HL1,HL2,HB10⟩
 case rest =>
 obtain ⟨a1,q1,a2,q2,rfl,rfl,HL1,HL2,HB4⟩ := hcut
 generalize wc = w4 at *
 clear k1 k2 HTT s0 s1 HW1 HW2
 have hLx := qo x
 have hLy := qo y
 have HROW : Hid (∀ j,j < (mvL x).length → (goeL p N gs x y k).getD j [] = goR p N gs k ((mvL x).getD j 0) (mvL y)) := fun j hj => q1u hj
 have HGL : Hid ((goeL p N gs x y k).length = (mvL x).length) := q51
 have HRND : Hid (∀ i j,i < (mvL x).length → j < (mvL y).length → (mvL x).getD i 0 < 256 ∧ (mvL y).getD j 0 < 256 ∧ (mvL x).getD i 0 ||| (mvL y).getD j 0 < 2 ^ p.toNat) := fun i j hi hj => by
  obtain ⟨h1,h2⟩ := qF hi
  obtain ⟨h3,h4⟩ := qF hj
  have h5 : x ||| y = 2 ^ p.toNat - 1 := HSP.out.2
  have h6 : 0 < 2 ^ p.toNat := Nat.two_pow_pos _
  have h7 : x ≤ x ||| y := Nat.left_le_or
  have h8 : y ≤ x ||| y := Nat.right_le_or
  exact ⟨h1,h3,Nat.or_lt_two_pow (by have := ql h2; omega) (by have := ql h4; omega)⟩
 have HTK : Hid (∀ e j,j < (mvL y).length → (goR p N gs k e (mvL y)).take j ++ [((trP (rwA p N gs) k (e ||| (mvL y).getD j 0) : Nat) : Int)] = (goR p N gs k e (mvL y)).take (j + 1)) := fun e j hj => q4Y hj
 have HRL : Hid (∀ e,(goR p N gs k e (mvL y)).length = (mvL y).length) := fun e => by simp [goR]
 clear HSP
 generalize goeL p N gs x y k = rs at *
 generalize hLX : (mvL x).length = LX at *
 have HLX : Hid _ := hLX
 generalize hLY : (mvL y).length = LY at *
 have HLY : Hid _ := hLY
 clear hLX hLY
 go_wp2
 go_loopw [9,10] (fun v i wr => ∃ j : Nat,∃ L : List Zc,j ≤ LX ∧ L.length = j ∧ i = .int .i64 (j : Int) ∧ Hid (RoO wr w4.heap.size v L) ∧ Hid (L.map Zc.zs = rs.take j) ∧ Hid (Below w4.heap.size w4 wr)) (fun _ i _ => LX - (intOf i).toNat)
 case atStart => exact ⟨0,[],Nat.zero_le _,rfl,rfl,q5v _ _,rfl,Below.refl _ _⟩
 case round =>
  obtain ⟨j,L,hj,hLj,rfl,HR,HZ,HB⟩ := hrel
  by_cases hlt : j < LX
  ·have e1 : decide ((j : Int) < (LX : Int)) = true := decide_eq_true (by omega)
   obtain ⟨va,vc,rfl⟩ := qs HR.out.row
   have HROJ : Hid _ := HROW.out j hlt
   have HLJ : Hid (L.length = j) := hLj
   rw [hLj] at HR ⊢
   clear hLj
   obtain ⟨ex,hex⟩ : ∃ ex,ex = (mvL x).getD j 0 := ⟨_,rfl⟩
   have HEX : Hid _ := hex
   obtain ⟨row,hrow⟩ : ∃ row,row = goR p N gs k ex (mvL y) := ⟨_,rfl⟩
   have HRW : Hid _ := hrow
   clear hex hrow
   obtain ⟨wo,hwo⟩ : ∃ wo,wo = wr := ⟨_,rfl⟩
   subst hwo
   go_wp2
   go_loopw [11,12] (fun u i wy => ∃ m : Nat,m ≤ LY ∧ i = .int .i64 (m : Int) ∧ Hid (wy.ownsRow wo.heap.size 3 1 u m (izV (row.take m))) ∧ Hid (Below wo.heap.size wo wy)) (fun _ i _ => LY - (intOf i).toNat)
   case atStart => exact ⟨0,Nat.zero_le _,rfl,⟨rfl,.inl ⟨rfl,rfl⟩⟩,Below.refl _ _⟩
   case round =>
    obtain ⟨m,hm,rfl,HO,HBy⟩ := hrel
    by_cases hlm : m < LY
    ·have e2 : decide ((m : Int) < (LY : Int)) = true := decide_eq_true (by omega)
     obtain ⟨ua,uc,rfl⟩ := qs HO.out
     have HB4y : Hid (Below w4.heap.size w4 wr) := q7 HB.out HBy.out
     have hlx := HL1.out.up HB4y.out
     have hly := HL2.out.up HB4y.out
     have ixx := fun w' => hlx.idx LX j w' hlt (Nat.le_refl _)
     have cex := hlx.cell j hlt
     rw [q12 (by rw [HLX.out]; exact hlt),← HEX.out] at cex
     have ixy := fun w' => hly.idx LY m w' hlm (Nat.le_refl _)
     have cey := hly.cell m hlm
     rw [q12 (by rw [HLY.out]; exact hlm)] at cey
     obtain ⟨hx8,hy8,hlo⟩ := HRND.out j m hlt hlm
     rw [← HEX.out] at hx8 hlo
     have hor := u8_or_nat _ _ hx8 hy8
     have htk := HTK.out ex m hlm
     rw [← HRW.out] at htk
     obtain ⟨_,_,⟨c0,c1,c2,c3⟩⟩ := HN.out wr (q7 HB4.out HB4y.out)
     have jn0 : ∀ w',Below wr.heap.size wr w' → Calls Try.prog 59 #[.agg #[.int .i64 p,.slice aA nA cA,.slice aG nG cG,.slice aN nN cN],.int .i64 (k : Int),.int .u8 ((ex ||| (mvL y).getD m 0 : Nat) : Int)] w' fun e w'' => e = .returned (.int .i64 ((trP (rwA p N gs) k (ex ||| (mvL y).getD m 0) : Nat) : Int)) ∧ Below w'.heap.size w' w'' := fun w' hb => by
      obtain ⟨h1,h2,_⟩ := HN.out w' (q7 HB4.out (q7 HB4y.out hb))
      exact q2U p aA nA cA aG nG cG aN nN cN N gs k (ex ||| (mvL y).getD m 0) w' HM.out h1 h2 hk hlo
     generalize trP (rwA p N gs) k (ex ||| (mvL y).getD m 0) = t at *
     generalize (mvL y).getD m 0 = ey at *
     generalize ex ||| ey = l at *
     have HTKK : Hid (row.take m ++ [(t : Int)] = row.take (m + 1)) := htk
     have jn : Calls Try.prog 59 #[.agg #[.int .i64 p,.slice aA nA cA,.slice aG nG cG,.slice aN nN cN],.int .i64 (k : Int),.int .u8 (l : Int)] wr.drew fun e w9 => e = .returned (.int .i64 (t : Int)) ∧ Hid (Below wo.heap.size wo (w9.alloc (.cells #[.int .i64 (t : Int)] 3))) ∧ (w9.alloc (.cells #[.int .i64 (t : Int)] 3)).ownsRow wo.heap.size 3 1 (.slice ua m uc) m (izV (row.take m)) ∧ (w9.alloc (.cells #[.int .i64 (t : Int)] 3)).cell? ⟨w9.heap.size,0,none⟩ = some (.int .i64 (t : Int)) ∧ wo.heap.size ≤ (w9.alloc (.cells #[.int .i64 (t : Int)] 3)).heap.size := (jn0 wr.drew ((Below.refl _ _).drew)).mono fun e w9 h => by
      obtain ⟨rfl,hb⟩ := h
      have hb9 : Below wr.heap.size wr w9 := q7 ((Below.refl _ _).drew) hb
      have hba := q7 (q7 HBy.out hb9) (q9 w9 (.cells #[.int .i64 (t : Int)] 3))
      exact ⟨rfl,hba,World.ownsRow.alloc (q2s HO.out hb9) _,q8 (MapKept.heap_alloc w9 _).1 0,hba.size⟩
     have HGE : Hid (∀ q,(Value.slice ua m uc).ownBlock = some q → wo.heap.size ≤ q) := q1s HO.out
     clear hlx hly hx8 hy8 hlo htk jn0 HB4y HO HBy
     generalize adOf a1 j = ax at *
     generalize adOf a2 m = ay at *
     obtain ⟨ax1,ax2,ax3⟩ := ax
     obtain ⟨ay1,ay2,ay3⟩ := ay
     generalize hzz : izV (row.take m) = zz at *
     have HZZ : Hid _ := hzz
     clear hzz
     go_upto_region 10 with fail
     go_region_law (first
      | (revert hO9; intro hO9; refine q39 rfl _ _ rfl wo.heap.size (.slice ua m uc) m zz (.int .i64 (t : Int)) w9.heap.size rfl rfl hO9 hc9 rfl (by omega) hs9 ?_; intro v5 w5 hown5 hgr5; obtain ⟨a5,k5,rfl⟩ := qs hown5; have HB5 : Hid (Below wo.heap.size wo w5) := HB9.out.grown hgr5 hs9 (fun q e => HGE.out q e))
      | (revert jn; intro jn; go_simp; (with_reducible refine jn.mono ?_); rintro e w9 ⟨rfl,HB9,hO9,hc9,hs9⟩; dsimp only)
      | fail)
     all_goals
      have HO5 : Hid (w5.ownsRow wo.heap.size 3 1 (.slice a5 (m + 1) k5) (m + 1) (izV (row.take (m + 1)))) := by
       rw [← HTKK.out]
       have h := hown5
       rw [← HZZ.out] at h
       show World.ownsRow _ _ _ _ _ _ _
       simpa [izV] using h
      clear jn hO9 hc9 hs9 hown5 hgr5 hor ixx ixy cex cey c0 c1 c2 c3
      go_wp2
      go_roundw
      case rel => exact ⟨m + 1,by omega,by go_num,HO5,HB5⟩
      case measure => simp [intOf]; omega
    ·obtain rfl : m = LY := by omega
     have e2 : decide ((m : Int) < (m : Int)) = false := by simp
     obtain ⟨ua,uc,rfl⟩ := qs HO.out
     have hrl : row.length = m := by rw [HRW.out]; exact HRL.out ex
     have hO := HO.out
     rw [List.take_of_length_le (by omega)] at hO
     have HRO : Hid (RoO wr w4.heap.size (.slice va j vc) L) := HR.out.up HBy.out
     have HYY : Hid (wr.ownsRow 0 3 1 (.slice ua m uc) m (izV row)) := q2D hO (Nat.zero_le _)
     have HOA : Hid ((wr.alloc (.cells #[.slice ua m uc] 23)).ownsRow w4.heap.size 23 1 (.slice va j vc) j (L.map Zc.vv)) := by have h := World.ownsRow.alloc HRO.out.row (.cells #[.slice ua m uc] 23); rw [HLJ.out] at h; exact h
     have HCA : Hid ((wr.alloc (.cells #[.slice ua m uc] 23)).cell? ⟨wr.heap.size,0,none⟩ = some (.slice ua m uc)) := q8 (MapKept.heap_alloc wr _).1 0
     have HWA : Hid (Below w4.heap.size w4 (wr.alloc (.cells #[.slice ua m uc] 23))) := q7 (q7 HB.out HBy.out) (q9 _ _)
     have hszA : w4.heap.size ≤ (wr.alloc (.cells #[.slice ua m uc] 23)).heap.size := HWA.out.size
     have HGE : Hid (∀ q,(Value.slice va j vc).ownBlock = some q → w4.heap.size ≤ q) := q1s HRO.out.row
     have HRLN : Hid _ := hrl
     have HZN : Hid ((L ++ [(⟨ua,m,uc,row⟩ : Zc)]).map Zc.zs = rs.take (j + 1)) := by
      have h3 : j < rs.length := by rw [HGL.out]; exact hlt
      rw [List.map_append,HZ.out,List.take_add_one,List.getElem?_eq_getElem h3]
      have h4 := HROJ.out
      rw [List.getD_eq_getElem?_getD,List.getElem?_eq_getElem h3,Option.getD_some,← HEX.out,← HRW.out] at h4
      simp [h4,Hid]
     clear HR HZ HB HO HBy hO hrl
     generalize hvs : L.map Zc.vv = vs at *
     have HVS : Hid _ := hvs
     clear hvs
     go_wp2_with (at_builtin; refine q25 rfl _ _ rfl w4.heap.size _ j vs rfl HOA.out wr.heap.size ua m uc rfl HCA.out (by omega) hszA ?_)
     intro g7 c7 w7 hown7 hgr7 hlie7
     have HR7 : Hid (RoO w7 w4.heap.size (.slice (some ⟨g7,0,none⟩) (j + 1) c7) (L ++ [⟨ua,m,uc,row⟩])) := by
      refine RoO.add (o := .cells #[.slice ua m uc] 23) HRO.out HRLN.out.symm ?_ ?_ hgr7
      ·show World.ownsRow _ _ _ _ _ _ _
       simp only [Zc.vv,HRLN.out]; exact HYY.out
      ·rw [HVS.out,HLJ.out]
       show World.ownsRow _ _ _ _ _ _ _
       simp only [Zc.vv,HRLN.out]
       exact hown7
     have HB7 : Hid (Below w4.heap.size w4 w7) := HWA.out.grown hgr7 hszA (fun q e => HGE.out q e)
     clear hown7 hgr7 hlie7 HOA HCA HWA hszA HGE HRO HYY
     go_wp2
     go_roundw
     case rel => exact ⟨j + 1,_,by omega,by rw [List.length_append,List.length_singleton,HLJ.out],by go_num,HR7,HZN,HB7⟩
     case measure => simp [intOf]; omega
  ·obtain rfl : j = LX := by omega
   have e1 : decide ((j : Int) < (j : Int)) = false := by simp
   obtain ⟨va,vc,rfl⟩ := qs HR.out.row
   have hsz := (q7 HB2.out HB4.out).size
   have HE : Hid _ := HQ.out wr _ L (q7 HB2.out (q7 HB4.out HB.out)) ⟨q2D HR.out.row hsz,HR.out.ints⟩ (by rw [HZ.out,← HGL.out,List.take_length])
   rw [hLj] at HE ⊢
   clear HQ HR HZ HB hsz hLj
   go_wp2
   exact HE.out
theorem qQ (p : Int) (aA : Option Addr) (nA cA : Nat) (aG : Option Addr) (nG cG : Nat) (aN : Option Addr) (nN cN : Nat) (bs : List Bool) (N : List Gd) (gs : List Int) (x y : Nat) (w : World) (hB : BoSl w aA nA cA bs) (hN : NdSl w aN nN cN N) (hG : ZSl w aG nG cG gs) (hl : nA ≤ 1000000) (hl2 : nN ≤ 1000000) (hx : x < 256) (hy : y < 256) :
  Calls Try.prog 18 #[.agg #[.int .i64 p,.slice aA nA cA,.slice aG nG cG,.slice aN nN cN],.agg #[.int .u8 (x : Int),.int .u8 (y : Int)]] w fun e w' => Below w.heap.size w w' ∧ ∃ X : Int,e = .returned (.int .i64 X) ∧ Hid (ChkN p nA bs N gs x y X) :=
 q1W p aA nA cA aG nG cG aN nN cN bs N gs x y w hB (fun w0 hb => q2S p aA nA cA aG nG cG aN nN cN N gs w0 (hN.up hb) (hG.up hb) hl hl2) hx hy
theorem q2T (p : Int) (aA : Option Addr) (nA cA : Nat) (aG : Option Addr) (nG cG : Nat) (aN : Option Addr) (nN cN : Nat) (bs : List Bool) (N : List Gd) (gs : List Int) (x y : Nat) (q : Int) (w : World) (hB : BoSl w aA nA cA bs) (hN : NdSl w aN nN cN N) (hG : ZSl w aG nG cG gs) (hl : nA ≤ 1000000) (hl2 : nN ≤ 1000000) (hx : x < 256) (hy : y < 256) :
  Calls Try.prog 11 #[.agg #[.int .i64 p,.slice aA nA cA,.slice aG nG cG,.slice aN nN cN],.agg #[.int .u8 (x : Int),.int .u8 (y : Int)],.int .i64 q] w fun e w' => Below w.heap.size w w' ∧ ∃ (a : Option Addr) (n c : Nat) (X : Int) (rs : List Zc),e = .returned (.tuple #[.slice a n c,.int .i64 X]) ∧ Hid (GoeN p nA bs N gs x y q X (rs.map Zc.zs)) ∧ Hid (ZzSl w' a n c rs) := by
 obtain ⟨Q,hQ⟩ : ∃ Q : Ending → World → Prop,Q = fun e w' => Below w.heap.size w w' ∧ ∃ (a : Option Addr) (n c : Nat) (X : Int) (rs : List Zc),e = .returned (.tuple #[.slice a n c,.int .i64 X]) ∧ Hid (GoeN p nA bs N gs x y q X (rs.map Zc.zs)) ∧ Hid (ZzSl w' a n c rs) := ⟨_,rfl⟩
 have HQ1 : Hid (∀ w' X,Below w.heap.size w w' → GoeN p nA bs N gs x y q X [] → Q (.returned (.tuple #[.slice none 0 0,.int .i64 X])) w') := fun w' X h1 h3 => by rw [hQ]; exact ⟨h1,none,0,0,X,[],rfl,h3,⟨rfl,Nat.le_refl _,by decide,fun _ => rfl,fun x hx => (by cases hx),fun r hr => (by cases hr)⟩⟩
 have HQ2 : Hid (∀ w' a n c rs,Below w.heap.size w w' → GoeN p nA bs N gs x y q 0 (rs.map Zc.zs) → ZzSl w' a n c rs → Q (.returned (.tuple #[.slice a n c,.int .i64 0])) w') := fun w' a n c rs h1 h2 h3 => by rw [hQ]; exact ⟨h1,a,n,c,0,rs,rfl,h2,h3⟩
 rw [← hQ]
 clear hQ
 obtain ⟨w1,hw1⟩ : ∃ w1,w1 = w.alloc (.cells #[.int .i64 p,.slice aA nA cA,.slice aG nG cG,.slice aN nN cN] 26 (0,0)) := ⟨_,rfl⟩
 have hb1 : Below w.heap.size w w1 := by rw [hw1]; exact q9 _ _
 have hA1 : AuB w1 w.heap.size p aA nA cA aG nG cG aN nN cN := by rw [hw1]; exact qd w p aA nA cA aG nG cG aN nN cN
 have HW1 : Hid _ := hw1
 obtain ⟨w2,hw2⟩ : ∃ w2,w2 = w1.alloc (.cells #[.int .u8 (x : Int),.int .u8 (y : Int)] 29 (0,0)) := ⟨_,rfl⟩
 have hb2 : Below w1.heap.size w1 w2 := by rw [hw2]; exact q9 _ _
 have hk2 : w2.heap[w1.heap.size]? = some (.cells #[.int .u8 (x : Int),.int .u8 (y : Int)] 29 (0,0)) := by rw [hw2]; exact (MapKept.heap_alloc w1 _).1
 have HW2 : Hid _ := hw2
 have HB2 : Hid (Below w.heap.size w w2) := q7 hb1 hb2
 have HA2 : Hid (AuB w2 w.heap.size p aA nA cA aG nG cG aN nN cN) := hA1.up hb2
 have HK2 : Hid (∀ w',Below w2.heap.size w2 w' → w'.heap[w1.heap.size]? = some (.cells #[.int .u8 (x : Int),.int .u8 (y : Int)] 29 (0,0))) := fun w' h => (h.block _ (Array.getElem?_eq_some_iff.1 hk2).1).trans hk2
 have HN : Hid (∀ w',Below w2.heap.size w2 w' → NdSl w' aN nN cN N ∧ ZSl w' aG nG cG gs ∧ AuB w' w.heap.size p aA nA cA aG nG cG aN nN cN ∧ Below w.heap.size w w') := fun w' hb => ⟨hN.up (q7 HB2.out hb),hG.up (q7 HB2.out hb),HA2.out.up hb,q7 HB2.out hb⟩
 have jc := qQ p aA nA cA aG nG cG aN nN cN bs N gs x y w2 (hB.up HB2.out) (hN.up HB2.out) (hG.up HB2.out) hl hl2 hx hy
 obtain ⟨c0,c1,c2,c3⟩ := HA2.out
 have s0 := q8 hk2 0
 have s1 := q8 hk2 1
 clear hB hN hG hw1 hb1 hw2 hb2 hk2 hA1
 go_enter Try.func11,Try.ntmps11
 go_wp2_with (first | rw [← HW2.out] | rw [← HW1.out])
 refine jc.mono ?_
 rintro e w3 ⟨hb3,X,rfl,hX⟩
 have HB3 : Hid (Below w2.heap.size w2 w3) := hb3
 clear jc hb3 c0 c1 c2 c3 s0 s1 HA2 HW1 HW2
 by_cases h0 : X = 0
 rotate_left
 ·have HE : Hid _ := HQ1.out w3 X (HN.out w3 HB3.out).2.2.2 (.inl ⟨h0,hX.out,rfl⟩)
  have e1 : (X != 0) = true := by simpa using h0
  clear HQ1 HQ2 hX h0
  go_wp2
  exact HE.out
 subst h0
 obtain ⟨hnd3,hzg3,⟨c0,c1,c2,c3⟩,_⟩ := HN.out w3 HB3.out
 have s0 := q8 (HK2.out w3 HB3.out) 0
 have s1 := q8 (HK2.out w3 HB3.out) 1
 by_cases hq : 0 ≤ q ∧ q < (nA : Int)
 rotate_left
 ·have HE : Hid _ := HQ1.out w3 2 (HN.out w3 HB3.out).2.2.2 (.inr (.inl ⟨hX.out,hq,rfl,rfl⟩))
  clear HQ1 HQ2 hX hnd3 hzg3
  by_cases h0 : q < 0
  ·have e1 : decide (q < 0) = true := decide_eq_true h0
   clear hq h0
   go_wp2
   exact HE.out
  ·have e1 : decide (q < 0) = false := decide_eq_false h0
   have e2 : decide ((nA : Int) ≤ q) = true := decide_eq_true (by omega)
   clear hq h0
   go_wp2
   exact HE.out
 obtain ⟨k,rfl⟩ := Int.eq_ofNat_of_zero_le hq.1
 have hk : k < nA := by omega
 have e1 : decide ((k : Int) < 0) = false := by simp
 have e2 : decide ((nA : Int) ≤ (k : Int)) = false := decide_eq_false (by omega)
 obtain ⟨hM,hb0,hs⟩ := hX.out.ok
 have jr := q2V p aA nA cA aG nG cG aN nN cN N gs x y k w3 hM hnd3 hzg3 hs hk hx hy
 have HX : Hid (ChkN p nA bs N gs x y 0) := hX.out
 have HI : Hid (∀ r ∈ goeL p N gs x y k,∀ z ∈ r,I64 z) := q3i hM hk hs
 clear hq HQ1 hX hM hb0 hs hnd3 hzg3
 go_wp2_with fail
 refine jr.mono ?_
 rintro e w4 ⟨hb4,v,L,rfl,hr,hz⟩
 have hI : ∀ r ∈ L,∀ z ∈ r.zs,I64 z := fun r hr2 => HI.out r.zs (by rw [← hz]; exact List.mem_map_of_mem hr2)
 obtain ⟨a,c,rfl,hzz⟩ := hr.zz hI
 have HE : Hid _ := HQ2.out w4 a L.length c L (q7 (HN.out w3 HB3.out).2.2.2 hb4) (.inr (.inr ⟨HX.out,rfl,k,rfl,hk,hz⟩)) hzz
 clear HQ2 hz hr hI hzz jr hb4
 go_wp2
 exact HE.out
end Go.Proofs.Ytohbphocfkgdcaa
