/- Texts of the proof, put together: what it uses. -/
import Derived.OwnWalk
import Derived.Deep.RegionLaw
import Derived.Deep.RegionLawGrows
import Derived.LaidEqlPtr
import Derived.Lib.LazyBuf
import Derived.Test.YthhbhadcjofelaaZ01
import Derived.Test.YthhbhadcjofelaaZ02
set_option maxRecDepth 100000
set_option maxHeartbeats 16000000
namespace Go.Proofs.Ythhbhadcjofelaa
open Go.RowKit Go.Maps
theorem q2a (n : Int) (w : World) : Calls Try.prog 97 #[.int .i64 n] w fun e w' => e = .returned (.bool (decide (0 ≤ n ∧ n ≤ 8))) ∧ w' = w := by
 obtain ⟨b,hb⟩ : ∃ b,b = decide (0 ≤ n ∧ n ≤ 8) := ⟨_,rfl⟩
 rw [← hb]
 have HB : Hid _ := hb
 clear hb
 by_cases h0 : 0 ≤ n
 ·have d0 : decide (0 ≤ n) = true := by simpa using h0
  have HX : Hid (b = decide (n ≤ 8)) := by show _ = _; rw [HB.out]; simp [h0]
  go_enter Try.func97,Try.ntmps97
  go_wp2
  go_ret
  exact ⟨by rw [HX.out]; rfl,rfl⟩
 ·have d0 : decide (0 ≤ n) = false := by simpa using h0
  have HX : Hid (b = false) := by show _ = _; rw [HB.out]; simp [h0]
  go_enter Try.func97,Try.ntmps97
  go_wp2
  go_ret
  exact ⟨by rw [HX.out]; rfl,rfl⟩
theorem q2M (n : Int) (w : World) : Calls Try.prog 104 #[.int .i64 n] w fun e w' => e = .returned (.bool (decide (0 ≤ n ∧ n ≤ 7))) ∧ w' = w := by
 obtain ⟨b,hb⟩ : ∃ b,b = decide (0 ≤ n ∧ n ≤ 7) := ⟨_,rfl⟩
 rw [← hb]
 have HB : Hid _ := hb
 clear hb
 by_cases h0 : 0 ≤ n
 ·have d0 : decide (0 ≤ n) = true := by simpa using h0
  have HX : Hid (b = decide (n < 8)) := by
   show _ = _; rw [HB.out]
   by_cases h7 : n ≤ 7
   ·have : n < 8 := by omega
    simp [h0,h7,this]
   ·have : ¬ n < 8 := by omega
    simp [h7,this]
  go_enter Try.func104,Try.ntmps104
  go_wp2
  go_ret
  exact ⟨by rw [HX.out]; rfl,rfl⟩
 ·have d0 : decide (0 ≤ n) = false := by simpa using h0
  have HX : Hid (b = false) := by show _ = _; rw [HB.out]; simp [h0]
  go_enter Try.func104,Try.ntmps104
  go_wp2
  go_ret
  exact ⟨by rw [HX.out]; rfl,rfl⟩
theorem q1m (n : Int) (w : World) (hn : I64 n) : Calls Try.prog 106 #[.int .i64 n] w fun e w' => e = .returned (.int .i64 (-1 - n)) ∧ w' = w := by
 have h0 := hn.1
 have h1 := hn.2
 go_enter Try.func106,Try.ntmps106
 go_wp2
 go_ret
 exact ⟨rfl,rfl⟩
theorem q5e (x : Int) (k : Nat) (h0 : 0 ≤ x) (h1 : x < 256) : (bits .and .u8 (x / 2 ^ k) 1 == 1) = x.toNat.testBit k := by
 obtain ⟨n,rfl⟩ : ∃ n : Nat,x = (n : Int) := ⟨x.toNat,by omega⟩
 have e : ((n : Int) / 2 ^ k) = ((n / 2 ^ k : Nat) : Int) := by simp
 have hd : n / 2 ^ k ≤ n := Nat.div_le_self _ _
 rw [e]
 have := u8_and_nat (n / 2 ^ k) 1 (by omega) (by decide)
 rw [show ((1 : Nat) : Int) = 1 from rfl] at this
 rw [this,Nat.and_one_is_mod,Int.toNat_natCast,Nat.testBit_eq_decide_div_mod_eq]
 by_cases h : n / 2 ^ k % 2 = 1 <;> simp [h] <;> omega
theorem q2N (P lo hi : Int) (p x : Nat) (w : World) (hP : P = (p : Int)) (hp : p ≤ 7) (hx : x < 256) :
  Calls Try.prog 105 #[.agg #[.int .i64 P,.int .i64 lo,.int .i64 hi],.int .u8 (x : Int)] w fun e w' => e = .returned (.int .i64 (if x.testBit p then hi else lo)) ∧ Below w.heap.size w w' := by
 subst hP
 have HB0 : Hid _ := qb w (.cells #[.int .i64 (p : Int),.int .i64 lo,.int .i64 hi] 77 (0,0))
 have h := (MapKept.heap_alloc w (.cells #[.int .i64 (p : Int),.int .i64 lo,.int .i64 hi] 77 (0,0))).1
 have c0 := q8 h 0
 have c1 := q8 h 1
 have c2 := q8 h 2
 simp only [List.getElem?_toArray,List.getElem?_cons_zero,List.getElem?_cons_succ] at c0 c1 c2
 have hbs : (bits BinOp.and IntKind.u8 ((x : Int) / 2 ^ p) 1 == 1) = x.testBit p := by simpa using q5e (x : Int) p (by omega) (by omega)
 generalize x.testBit p = b at *
 cases b with
 | true =>
  go_enter Try.func105,Try.ntmps105
  go_wp2
  go_ret
  exact ⟨rfl,HB0.out⟩
 | false =>
  go_enter Try.func105,Try.ntmps105
  go_wp2
  go_ret
  exact ⟨rfl,HB0.out⟩
theorem q1z (a : Option Addr) (len cap : Nat) (N : List Gd) (r : Int) (x : Nat) (w : World) (hN : NdSl w a len cap N) (hr : I64 r) (hx : x < 256) :
  Calls Try.prog 95 #[.slice a len cap,.int .i64 r,.int .u8 (x : Int)] w fun e w' => e = .returned (goV (goG N x 8 r)) ∧ Below w.heap.size w w' := by
 have hb0 := hN.bd
 unfold maxLen at hb0
 have HL : Hid _ := hN.hlen
 have HN : Hid _ := hN
 obtain ⟨G,eG⟩ : ∃ G,G = goG N x 8 r := ⟨_,rfl⟩
 rw [← eG]
 have HG : Hid _ := eG.symm
 clear eG hN
 go_enter Try.func95,Try.ntmps95
 go_wp2
 go_loopw [1,8] (fun v i wr => ∃ (k : Nat) (z : Int),k ≤ 8 ∧ i = .int .i64 k ∧ v = .int .i64 z ∧ I64 z ∧ Hid (goG N x (8 - k) z = G) ∧ Hid (Below w.heap.size w wr)) (fun _ i _ => 9 - (intOf i).toNat)
 case atStart => exact ⟨0,r,by omega,rfl,rfl,hr,HG,Below.refl _ _⟩
 case round =>
  obtain ⟨k,z,hk,rfl,rfl,hz,HU,HB⟩ := hrel
  by_cases hneg : z < 0
  ·have HX : Hid (G = some (-1 - z)) := by show _ = _; rw [← HU.out,q3E hneg]
   have jo := fun w => q1m z w hz
   have d0 : decide (0 ≤ z) = false := by simp; omega
   go_wp2_with (go_at_call 106; refine (jo _).mono ?_; rintro e w' ⟨rfl,hw1⟩; obtain rfl := hw1.symm)
   go_ret2
   exact ⟨by rw [HX.out]; rfl,HB.out⟩
  ·have d0 : decide (0 ≤ z) = true := by simp; omega
   by_cases hk8 : k = 8
   ·subst hk8
    have HX : Hid (G = none) := by show _ = _; rw [← HU.out]; exact q3b (by omega)
    go_wp2
    go_ret2
    exact ⟨by rw [HX.out]; rfl,HB.out⟩
   ·have d4 : ((k : Int) == 8) = false := by simp; omega
    by_cases hge : (len : Int) ≤ z
    ·have HX : Hid (G = none) := by show _ = _; rw [← HU.out,q4V (by omega) (by rw [HL.out]; exact hge)]
     go_wp2
     go_ret2
     exact ⟨by rw [HX.out]; rfl,HB.out⟩
    ·obtain ⟨i,rfl⟩ : ∃ i : Nat,z = (i : Int) := ⟨z.toNat,by omega⟩
     have hil : i < len := by omega
     obtain ⟨g,o,s,hix,c0,c1,c2,_,_,hok⟩ := (HN.out.up HB.out).at Try.underlying24 qt i hil
     have HBd : Hid (∀ j : Nat,¬ (0 ≤ (N.getD i (0,0,0)).1 ∧ (N.getD i (0,0,0)).1 ≤ 7) → goG N x j (i : Int) = none) := fun j h => q4U h
     have HS : Hid (∀ (j : Nat) (P lo hi : Int),N.getD i (0,0,0) = (P,lo,hi) → 0 ≤ P → P ≤ 7 → goG N x (j + 1) (i : Int) = goG N x j (if x.testBit P.toNat then hi else lo)) := fun j P lo hi e h0 h7 => q4p (by rw [HL.out]; exact hil) e h0 h7
     generalize N.getD i (0,0,0) = nd at *
     obtain ⟨P,lo,hi⟩ := nd
     dsimp only at c0 c1 c2
     have jp := fun w => q2M P w
     by_cases hP : 0 ≤ P ∧ P ≤ 7
     ·obtain ⟨p,rfl⟩ : ∃ p : Nat,P = (p : Int) := ⟨P.toNat,by omega⟩
      have hp7 : p ≤ 7 := by omega
      rw [decide_eq_true hP] at jp
      have HX : Hid (goG N x (8 - (k + 1)) (if x.testBit p then hi else lo) = G) := by
       show _ = _
       have := HS.out (8 - (k + 1)) p lo hi rfl (by omega) (by omega)
       rw [show 8 - (k + 1) + 1 = 8 - k by omega,HU.out] at this
       exact this.symm
      have hlo : I64 (if x.testBit p then hi else lo) := by split; exact hok.2.2; exact hok.2.1
      have js := q2N (p : Int) lo hi p x wr rfl hp7 hx
      generalize (if x.testBit p then hi else lo) = z2 at *
      go_wp2_with (first
       | (go_at_call 104; refine (jp _).mono ?_; rintro e w' ⟨rfl,hw1⟩; obtain rfl := hw1.symm)
       | (go_at_call 105; (with_reducible refine js.mono ?_); rintro e w6 ⟨rfl,hb6⟩; have HB6 : Hid _ := q9 HB.out hb6; clear hb6))
      go_roundw
      case rel => exact ⟨k + 1,z2,by omega,by go_num,rfl,hlo,HX,HB6⟩
      case measure => simp [intOf]; omega
     ·have HX : Hid (G = none) := by show _ = _; rw [← HU.out,HBd.out _ hP]
      rw [decide_eq_false hP] at jp
      go_wp2_with (go_at_call 104; refine (jp _).mono ?_; rintro e w' ⟨rfl,hw1⟩; obtain rfl := hw1.symm)
      go_ret2
      exact ⟨by rw [HX.out]; rfl,HB.out⟩
def LtRow (w : World) (g : Nat) (zs : List Int) : Prop := w.heap[g]? = some (.cells (zs.map (Value.int .u8)).toArray 27 (0,0))
def allTo (k M : Nat) : List Int := (List.range M).map fun i => if i < k then (i : Int) else 0
theorem madeL (n : Nat) : madeCells #[.int .u8 0] n = ((allTo 0 n).map (Value.int .u8)).toArray := by
 apply Array.ext_getElem?
 intro i
 by_cases h : i < n
 ·simp [madeCells,allTo,h,Nat.mod_one]
 ·simp [madeCells,allTo,h]
theorem q1Y : (Try.prog.info? 27).map (·.size) = some 1 := by kernel_rfl
theorem q3O : (Try.prog.info? 27).map (fun i => (i.zero,i.size,i.bytes)) = some (some (.int .u8 0),1,1) := by kernel_rfl
theorem q17 (c : Nat) (hb : c ≤ 1000000) (w : World) :
  (Instr.makeSlice 31 (.int .i64 (c : Int)) (.int .i64 (c : Int))).run Try.prog w = .ok (.slice (some ⟨w.heap.size,0,none⟩) c c) (w.alloc (.cells ((allTo 0 c).map (Value.int .u8)).toArray 27)) := by
 obtain ⟨i,hi,hz0,hz1,hz2⟩ := info_parts q3O
 have := run_make (P := Try.prog) w 31 27 i (.int .u8 0) Try.underlying31 hi hz0 .i64 .i64 c c (by omega) (by omega) (by rw [hz2]; omega) (by omega)
 rw [this,hz1,← madeL]
 simp only [Int.toNat_natCast,Nat.mul_one]
 rfl
theorem q1n (g c k : Nat) (hk : k < c) (w : World) : (Instr.indexAt 31 (.slice (some ⟨g,0,none⟩) c c) (.int .i64 (k : Int))).run Try.prog w = .ok (.pointer (some ⟨g,k,none⟩)) w := by
 have := qk (P := Try.prog) (T := 31) (e := 27) Try.underlying31 q1Y (a := some ⟨g,0,none⟩) (cap := c) (n := c) (by simp) k w hk
 simpa [adOf,qf] using this
theorem LtRow.up {w w' : World} {g : Nat} {zs : List Int} (h : LtRow w g zs) (hb : Below w.heap.size w w') : LtRow w' g zs := (hb.block g (Array.getElem?_eq_some_iff.1 h).1).trans h
end Go.Proofs.Ythhbhadcjofelaa
