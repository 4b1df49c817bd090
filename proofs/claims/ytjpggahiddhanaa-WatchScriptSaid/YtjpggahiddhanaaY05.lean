/- Texts of the proof, put together: what it uses. -/
import Derived.Deep.RegionLaw
import Derived.Deep.RegionLawGrows
import Derived.LaidEqlPtr
import Derived.Lib.LazyBuf
import Derived.Test.YtjpggahiddhanaaY02
import Derived.Test.YtjpggahiddhanaaY04
set_option maxRecDepth 100000
set_option maxHeartbeats 16000000
namespace Go.Proofs.Ytjpggahiddhanaa
open Go.RowKit Go.Maps
theorem q1Q {w w' : World} {base e size n : Nat} {v : Value} {xs : List Value} (h : w.ownsRow base e size v n xs) (hb : ∀ k,v.ownBlock = some k → w'.heap[k]? = w.heap[k]?) : w'.ownsRow base e size v n xs := by
 obtain ⟨hl,h⟩ := h
 refine ⟨hl,h.imp id ?_⟩
 rintro ⟨g,cap,cur,rfl,hg,hcell,r⟩
 exact ⟨g,cap,cur,rfl,hg,(hb g rfl).trans hcell,r⟩
theorem q11 (n : Int) (w : World) : Calls Try.prog 76 #[.int .i64 n] w fun e w' => e = .returned (.bool (decide (0 ≤ n ∧ n ≤ 8))) ∧ w' = w := by
 obtain ⟨b,hb⟩ : ∃ b,b = decide (0 ≤ n ∧ n ≤ 8) := ⟨_,rfl⟩
 rw [← hb]
 have HB : Hid _ := hb
 clear hb
 by_cases h0 : 0 ≤ n
 ·have d0 : decide (0 ≤ n) = true := by simpa using h0
  have HX : Hid (b = decide (n ≤ 8)) := by show _ = _; rw [HB.out]; simp [h0]
  go_enter Try.func76,Try.ntmps76
  go_wp2
  go_ret
  exact ⟨by rw [HX.out]; rfl,rfl⟩
 ·have d0 : decide (0 ≤ n) = false := by simpa using h0
  have HX : Hid (b = false) := by show _ = _; rw [HB.out]; simp [h0]
  go_enter Try.func76,Try.ntmps76
  go_wp2
  go_ret
  exact ⟨by rw [HX.out]; rfl,rfl⟩
theorem q2G (n : Int) (w : World) : Calls Try.prog 73 #[.int .i64 n] w fun e w' => e = .returned (.bool (decide (0 ≤ n ∧ n ≤ 7))) ∧ w' = w := by
 obtain ⟨b,hb⟩ : ∃ b,b = decide (0 ≤ n ∧ n ≤ 7) := ⟨_,rfl⟩
 rw [← hb]
 have HB : Hid _ := hb
 clear hb
 by_cases h0 : 0 ≤ n
 ·have d0 : decide (0 ≤ n) = true := by simpa using h0
  have HX : Hid (b = decide (n < 8)) := by
   show _ = _; rw [HB.out]
   by_cases h7 : n ≤ 7
   ·have : n < 8 := by omega
    simp [h0,h7,this]
   ·have : ¬ n < 8 := by omega
    simp [h7,this]
  go_enter Try.func73,Try.ntmps73
  go_wp2
  go_ret
  exact ⟨by rw [HX.out]; rfl,rfl⟩
 ·have d0 : decide (0 ≤ n) = false := by simpa using h0
  have HX : Hid (b = false) := by show _ = _; rw [HB.out]; simp [h0]
  go_enter Try.func73,Try.ntmps73
  go_wp2
  go_ret
  exact ⟨by rw [HX.out]; rfl,rfl⟩
theorem q1n (n : Int) (w : World) (hn : I64 n) : Calls Try.prog 75 #[.int .i64 n] w fun e w' => e = .returned (.int .i64 (-1 - n)) ∧ w' = w := by
 have h0 := hn.1
 have h1 := hn.2
 go_enter Try.func75,Try.ntmps75
 go_wp2
 go_ret
 exact ⟨rfl,rfl⟩
theorem q53 (x : Int) (k : Nat) (h0 : 0 ≤ x) (h1 : x < 256) : (bits .and .u8 (x / 2 ^ k) 1 == 1) = x.toNat.testBit k := by
 obtain ⟨n,rfl⟩ : ∃ n : Nat,x = (n : Int) := ⟨x.toNat,by omega⟩
 have e : ((n : Int) / 2 ^ k) = ((n / 2 ^ k : Nat) : Int) := by simp
 have hd : n / 2 ^ k ≤ n := Nat.div_le_self _ _
 rw [e]
 have := u8_and_nat (n / 2 ^ k) 1 (by omega) (by decide)
 rw [show ((1 : Nat) : Int) = 1 from rfl] at this
 rw [this,Nat.and_one_is_mod,Int.toNat_natCast,Nat.testBit_eq_decide_div_mod_eq]
 by_cases h : n / 2 ^ k % 2 = 1 <;> simp [h] <;> omega
theorem q2H (P lo hi : Int) (p x : Nat) (w : World) (hP : P = (p : Int)) (hp : p ≤ 7) (hx : x < 256) :
  Calls Try.prog 74 #[.agg #[.int .i64 P,.int .i64 lo,.int .i64 hi],.int .u8 (x : Int)] w fun e w' => e = .returned (.int .i64 (if x.testBit p then hi else lo)) ∧ Below w.heap.size w w' := by
 subst hP
 have HB0 : Hid _ := q7 w (.cells #[.int .i64 (p : Int),.int .i64 lo,.int .i64 hi] 77 (0,0))
 have h := (MapKept.heap_alloc w (.cells #[.int .i64 (p : Int),.int .i64 lo,.int .i64 hi] 77 (0,0))).1
 have c0 := q6 h 0
 have c1 := q6 h 1
 have c2 := q6 h 2
 simp only [List.getElem?_toArray,List.getElem?_cons_zero,List.getElem?_cons_succ] at c0 c1 c2
 have hbs : (bits BinOp.and IntKind.u8 ((x : Int) / 2 ^ p) 1 == 1) = x.testBit p := by simpa using q53 (x : Int) p (by omega) (by omega)
 generalize x.testBit p = b at *
 cases b with
 | true =>
  go_enter Try.func74,Try.ntmps74
  go_wp2
  go_ret
  exact ⟨rfl,HB0.out⟩
 | false =>
  go_enter Try.func74,Try.ntmps74
  go_wp2
  go_ret
  exact ⟨rfl,HB0.out⟩
theorem q1B (a : Option Addr) (len cap : Nat) (N : List Gd) (r : Int) (x : Nat) (w : World) (hN : NdSl w a len cap N) (hr : I64 r) (hx : x < 256) :
  Calls Try.prog 65 #[.slice a len cap,.int .i64 r,.int .u8 (x : Int)] w fun e w' => e = .returned (goV (goG N x 8 r)) ∧ Below w.heap.size w w' := by
 have hb0 := hN.bd
 unfold maxLen at hb0
 have HL : Hid _ := hN.hlen
 have HN : Hid _ := hN
 obtain ⟨G,eG⟩ : ∃ G,G = goG N x 8 r := ⟨_,rfl⟩
 rw [← eG]
 have HG : Hid _ := eG.symm
 clear eG hN
 go_enter Try.func65,Try.ntmps65
 go_wp2
 go_loopw [1,8] (fun v i wr => ∃ (k : Nat) (z : Int),k ≤ 8 ∧ i = .int .i64 k ∧ v = .int .i64 z ∧ I64 z ∧ Hid (goG N x (8 - k) z = G) ∧ Hid (Below w.heap.size w wr)) (fun _ i _ => 9 - (intOf i).toNat)
 case atStart => exact ⟨0,r,by omega,rfl,rfl,hr,HG,Below.refl _ _⟩
 case round =>
  obtain ⟨k,z,hk,rfl,rfl,hz,HU,HB⟩ := hrel
  by_cases hneg : z < 0
  ·have HX : Hid (G = some (-1 - z)) := by show _ = _; rw [← HU.out,q2m hneg]
   have jo := fun w => q1n z w hz
   have d0 : decide (0 ≤ z) = false := by simp; omega
   go_wp2_with (go_at_call 75; refine (jo _).mono ?_; rintro e w' ⟨rfl,hw1⟩; obtain rfl := hw1.symm)
   go_ret2
   exact ⟨by rw [HX.out]; rfl,HB.out⟩
  ·have d0 : decide (0 ≤ z) = true := by simp; omega
   by_cases hk8 : k = 8
   ·subst hk8
    have HX : Hid (G = none) := by show _ = _; rw [← HU.out]; exact q1M (by omega)
    go_wp2
    go_ret2
    exact ⟨by rw [HX.out]; rfl,HB.out⟩
   ·have d4 : ((k : Int) == 8) = false := by simp; omega
    by_cases hge : (len : Int) ≤ z
    ·have HX : Hid (G = none) := by show _ = _; rw [← HU.out,q3K (by omega) (by rw [HL.out]; exact hge)]
     go_wp2
     go_ret2
     exact ⟨by rw [HX.out]; rfl,HB.out⟩
    ·obtain ⟨i,rfl⟩ : ∃ i : Nat,z = (i : Int) := ⟨z.toNat,by omega⟩
     have hil : i < len := by omega
     obtain ⟨g,o,s,hix,c0,c1,c2,_,_,hok⟩ := (HN.out.up HB.out).at Try.underlying24 qd i hil
     have HBd : Hid (∀ j : Nat,¬ (0 ≤ (N.getD i (0,0,0)).1 ∧ (N.getD i (0,0,0)).1 ≤ 7) → goG N x j (i : Int) = none) := fun j h => q3J h
     have HS : Hid (∀ (j : Nat) (P lo hi : Int),N.getD i (0,0,0) = (P,lo,hi) → 0 ≤ P → P ≤ 7 → goG N x (j + 1) (i : Int) = goG N x j (if x.testBit P.toNat then hi else lo)) := fun j P lo hi e h0 h7 => q3j (by rw [HL.out]; exact hil) e h0 h7
     generalize N.getD i (0,0,0) = nd at *
     obtain ⟨P,lo,hi⟩ := nd
     dsimp only at c0 c1 c2
     have jp := fun w => q2G P w
     by_cases hP : 0 ≤ P ∧ P ≤ 7
     ·obtain ⟨p,rfl⟩ : ∃ p : Nat,P = (p : Int) := ⟨P.toNat,by omega⟩
      have hp7 : p ≤ 7 := by omega
      rw [decide_eq_true hP] at jp
      have HX : Hid (goG N x (8 - (k + 1)) (if x.testBit p then hi else lo) = G) := by
       show _ = _
       have := HS.out (8 - (k + 1)) p lo hi rfl (by omega) (by omega)
       rw [show 8 - (k + 1) + 1 = 8 - k by omega,HU.out] at this
       exact this.symm
      have hlo : I64 (if x.testBit p then hi else lo) := by split; exact hok.2.2; exact hok.2.1
      have js := q2H (p : Int) lo hi p x wr rfl hp7 hx
      generalize (if x.testBit p then hi else lo) = z2 at *
      go_wp2_with (first
       | (go_at_call 73; refine (jp _).mono ?_; rintro e w' ⟨rfl,hw1⟩; obtain rfl := hw1.symm)
       | (go_at_call 74; (with_reducible refine js.mono ?_); rintro e w6 ⟨rfl,hb6⟩; have HB6 : Hid _ := q5 HB.out hb6; clear hb6))
      go_roundw
      case rel => exact ⟨k + 1,z2,by omega,by go_num,rfl,hlo,HX,HB6⟩
      case measure => simp [intOf]; omega
     ·have HX : Hid (G = none) := by show _ = _; rw [← HU.out,HBd.out _ hP]
      rw [decide_eq_false hP] at jp
      go_wp2_with (go_at_call 73; refine (jp _).mono ?_; rintro e w' ⟨rfl,hw1⟩; obtain rfl := hw1.symm)
      go_ret2
      exact ⟨by rw [HX.out]; rfl,HB.out⟩
def LtRow (w : World) (g : Nat) (zs : List Int) : Prop := w.heap[g]? = some (.cells (zs.map (Value.int .u8)).toArray 46 (0,0))
def allTo (k M : Nat) : List Int := (List.range M).map fun i => if i < k then (i : Int) else 0
theorem qX (k M : Nat) : (allTo k M).length = M := by simp [allTo]
theorem qW {k M i : Nat} (h : i < M) : (allTo k M)[i]? = some (if i < k then (i : Int) else 0) := by simp [allTo,h]
theorem q4d {k M : Nat} (h : k < M) : (allTo k M).set k (k : Int) = allTo (k + 1) M := by
 apply List.ext_getElem?
 intro i
 rw [List.getElem?_set]
 by_cases hi : i < M
 ·rw [qW hi,qW hi]
  by_cases e : k = i
  ·subst e; simp [qX,h]
  ·rw [if_neg e]
   by_cases hk : i < k
   ·rw [if_pos hk,if_pos (by omega)]
   ·rw [if_neg hk,if_neg (by omega)]
 ·have h1 : (allTo k M)[i]? = none := List.getElem?_eq_none (by rw [qX]; omega)
  have h2 : (allTo (k + 1) M)[i]? = none := List.getElem?_eq_none (by rw [qX]; omega)
  rw [h1,h2,qX]
  split <;> simp; omega
theorem madeL (n : Nat) : madeCells #[.int .u8 0] n = ((allTo 0 n).map (Value.int .u8)).toArray := by
 apply Array.ext_getElem?
 intro i
 by_cases h : i < n
 ·simp [madeCells,allTo,h,Nat.mod_one]
 ·simp [madeCells,allTo,h]
theorem q43 : (Try.prog.info? 46).map (·.size) = some 1 := by kernel_rfl
theorem q3U : (Try.prog.info? 46).map (fun i => (i.zero,i.size,i.bytes)) = some (some (.int .u8 0),1,1) := by kernel_rfl
theorem q3X (c : Nat) (hb : c ≤ 1000000) (w : World) :
  (Instr.makeSlice 41 (.int .i64 (c : Int)) (.int .i64 (c : Int))).run Try.prog w = .ok (.slice (some ⟨w.heap.size,0,none⟩) c c) (w.alloc (.cells ((allTo 0 c).map (Value.int .u8)).toArray 46)) := by
 obtain ⟨i,hi,hz0,hz1,hz2⟩ := info_parts q3U
 have := run_make (P := Try.prog) w 41 46 i (.int .u8 0) Try.underlying41 hi hz0 .i64 .i64 c c (by omega) (by omega) (by rw [hz2]; omega) (by omega)
 rw [this,hz1,← madeL]
 simp only [Int.toNat_natCast,Nat.mul_one]
 rfl
theorem q2q (g c k : Nat) (hk : k < c) (w : World) : (Instr.indexAt 41 (.slice (some ⟨g,0,none⟩) c c) (.int .i64 (k : Int))).run Try.prog w = .ok (.pointer (some ⟨g,k,none⟩)) w := by
 have := qj (P := Try.prog) (T := 41) (e := 46) Try.underlying41 q43 (a := some ⟨g,0,none⟩) (cap := c) (n := c) (by simp) k w hk
 simpa [adOf,q9] using this
theorem q2c (n : Int) (w : World) (h0 : 0 ≤ n) (h8 : n ≤ 8) : Calls Try.prog 64 #[.int .i64 n] w fun e w' => e = .returned (.bool true) ∧ w' = w := by
 go_enter Try.func64,Try.ntmps64
 go_wp2
 go_ret
 exact ⟨rfl,rfl⟩
theorem q34 (m : Nat) (hm : m ≤ 8) (w : World) : Calls Try.prog 79 #[.int .i64 (m : Int)] w fun e w' => ∃ g,e = .returned (.slice (some ⟨g,0,none⟩) (2 ^ m) (2 ^ m)) ∧ LtRow w' g (allTo (2 ^ m) (2 ^ m)) ∧ Below w.heap.size w w' := by
 have hsh := q3Q m hm
 have hM : 2 ^ m ≤ 256 := Nat.pow_le_pow_right (by decide) hm
 have jc := fun w => q2c (m : Int) w (by omega) (by omega)
 generalize hMM : 2 ^ m = M at *
 have hmk := fun w => q3X M (by omega) w
 have HR0 : Hid (LtRow (w.alloc (.cells ((allTo 0 M).map (Value.int .u8)).toArray 46)) w.heap.size (allTo 0 M)) := (MapKept.heap_alloc w _).1
 have HB0 : Hid _ := q7 w (.cells ((allTo 0 M).map (Value.int .u8)).toArray 46)
 go_enter Try.func79,Try.ntmps79
 go_wp2_with (go_at_call 64; refine (jc _).mono ?_; rintro e w' ⟨rfl,hw1⟩; obtain rfl := hw1.symm)
 go_loopw [13] (fun i wr => ∃ k : Nat,k ≤ M ∧ i = .int .i64 (k : Int) ∧ Hid (LtRow wr w.heap.size (allTo k M)) ∧ Hid (Below w.heap.size w wr)) (fun i _ => M - (intOf i).toNat)
 case atStart => exact ⟨0,Nat.zero_le _,rfl,HR0,HB0⟩
 case round =>
  obtain ⟨k,hk,rfl,HR,HB⟩ := hrel
  by_cases hlt : k < M
  ·have hix := fun w' => q2q w.heap.size M k hlt w'
   obtain ⟨b,cb⟩ : ∃ b,wr.cell? ⟨w.heap.size,k,none⟩ = some (.int .u8 b) := ⟨_,(q6 HR.out k).trans (by simp [qW hlt]; rfl)⟩
   have zb := frozen_of_row _ _ k _ _ HR.out
   have HRN : Hid (LtRow (wr.setCell ⟨w.heap.size,k,none⟩ (.int .u8 (k : Int))) w.heap.size (allTo (k + 1) M)) := by
    unfold LtRow
    show _ = _
    rw [heap_setCell_same wr _ k _ _ (.int .u8 (k : Int)) HR.out,← q4d hlt]
    simp [List.map_set]
   have HBN : Hid (Below w.heap.size w (wr.setCell ⟨w.heap.size,k,none⟩ (.int .u8 (k : Int)))) := HB.out.setCell (Nat.le_refl _) _
   go_wp2
   go_roundw
   case rel => exact ⟨k + 1,by omega,by go_num,HRN,HBN⟩
   case measure => simp [intOf] <;> omega
  ·obtain rfl : k = M := by omega
   go_wp2
   go_ret
   exact ⟨w.heap.size,rfl,HR.out,HB.out⟩
theorem q36 (c : Nat) (hb : c ≤ 1000000) (w : World) :
  (Instr.makeSlice 23 (.int .i64 0) (.int .i64 (c : Int))).run Try.prog w = .ok (.slice (some ⟨w.heap.size,0,none⟩) 0 c) (w.alloc (.cells ((List.replicate c (0 : Int)).map (Value.int .i64)).toArray 3)) := by
 obtain ⟨i,hi,hz0,hz1,hz2⟩ := info_parts qz
 have := run_make (P := Try.prog) w 23 3 i (.int .i64 0) Try.underlying23 hi hz0 .i64 .i64 0 c (by omega) (by omega) (by rw [hz2]; omega) (by omega)
 rw [this,hz1,← madeI]
 simp only [Int.toNat_natCast,Nat.mul_one]
 rfl
theorem q4F (w : World) (c : Nat) (hc : c ≤ 1000000) : (w.alloc (.cells ((List.replicate c (0 : Int)).map (Value.int .i64)).toArray 3)).ownsRow w.heap.size 3 1 (.slice (some ⟨w.heap.size,0,none⟩) 0 c) 0 [] :=
 ⟨rfl,Or.inr ⟨w.heap.size,c,_,rfl,Nat.le_refl _,(MapKept.heap_alloc w _).1,Nat.zero_le _,by unfold maxLen; omega,by simp,by simp⟩⟩
theorem q4X {w : World} {base n g : Nat} {v : Value} {xs : List Value} {zs : List Int} (h : w.ownsRow base 3 1 v n xs) (hg : LtRow w g zs) : v.ownBlock ≠ some g := by
 rcases h.2 with ⟨rfl,_⟩ | ⟨g',cap,cur,rfl,_,hc,_⟩
 ·intro e; cases e
 ·intro e
  injection e with e
  dsimp only at e
  subst e
  unfold LtRow at hg
  rw [hg] at hc
  injection hc with hc
  injection hc with _ hc _
  exact absurd hc (by decide)
theorem LtRow.up {w w' : World} {g : Nat} {zs : List Int} (h : LtRow w g zs) (hb : Below w.heap.size w w') : LtRow w' g zs := (hb.block g (Array.getElem?_eq_some_iff.1 h).1).trans h
theorem LtRow.grown {w w' : World} {g : Nat} {zs : List Int} {v : Option Nat} (h : LtRow w g zs) (hb : w.grownBy w' v) (hn : v ≠ some g) : LtRow w' g zs := (hb.block g (Array.getElem?_eq_some_iff.1 h).1 (fun e => hn e.symm)).trans h
def TabRO (n : Int) (N : List Gd) (r : Int) (w : World) (e : Ending) (w' : World) : Prop :=
 Below w.heap.size w w' ∧ ((¬ (0 ≤ n ∧ n ≤ 8) ∧ e = .returned (.tuple #[.slice none 0 0,.int .i64 2])) ∨ (0 ≤ n ∧ n ≤ 8 ∧ ((tabT N r (2 ^ n.toNat) = none ∧ e = .returned (.tuple #[.slice none 0 0,.int .i64 12])) ∨ ∃ l a c,tabT N r (2 ^ n.toNat) = some l ∧ e = .returned (.tuple #[.slice a l.length c,.int .i64 0]) ∧ w'.ownsRow w.heap.size 3 1 (.slice a l.length c) l.length (l.map (Value.int .i64)))))
theorem q31 (n : Int) (a : Option Addr) (len cap : Nat) (N : List Gd) (r : Int) (w : World) (hN : NdSl w a len cap N) (hr : I64 r) :
  Calls Try.prog 69 #[.int .i64 n,.slice a len cap,.int .i64 r] w (TabRO n N r w) := by
 obtain ⟨Q,eQ⟩ : ∃ Q,Q = TabRO n N r w := ⟨_,rfl⟩
 have HQ : Hid (∀ e w',TabRO n N r w e w' → Q e w') := fun e w' h => by rw [eQ]; exact h
 rw [← eQ]
 have jc := fun w => q11 n w
 by_cases h08 : 0 ≤ n ∧ n ≤ 8
 ·rw [decide_eq_true h08] at jc
  obtain ⟨m,rfl⟩ : ∃ m : Nat,n = (m : Int) := ⟨n.toNat,by omega⟩
  have hm8 : m ≤ 8 := by omega
  have hsh := q3Q m hm8
  have hM : 2 ^ m ≤ 256 := Nat.pow_le_pow_right (by decide) hm8
  have HR : Hid (∀ e w',Below w.heap.size w w' → ((tabT N r (2 ^ m) = none ∧ e = .returned (.tuple #[.slice none 0 0,.int .i64 12])) ∨ ∃ l a c,tabT N r (2 ^ m) = some l ∧ e = .returned (.tuple #[.slice a l.length c,.int .i64 0]) ∧ w'.ownsRow w.heap.size 3 1 (.slice a l.length c) l.length (l.map (Value.int .i64))) → Q e w') := fun e w' hb h => HQ.out e w' ⟨hb,.inr ⟨by omega,by omega,by simpa using h⟩⟩
  have jl := fun w => q34 m hm8 w
  generalize hMM : 2 ^ m = M at *
  have hmk := fun w => q36 M (by omega) w
  have HO0 : Hid ((w.alloc (.cells ((List.replicate M (0 : Int)).map (Value.int .i64)).toArray 3)).ownsRow w.heap.size 3 1 (.slice (some ⟨w.heap.size,0,none⟩) 0 M) 0 []) := q4F w M (by omega)
  have HB0 : Hid _ := q7 w (.cells ((List.replicate M (0 : Int)).map (Value.int .i64)).toArray 3)
  have HN : Hid _ := hN
  obtain ⟨Z,hZ⟩ : ∃ Z,Z = ((List.replicate M (0 : Int)).map (Value.int .i64)).toArray := ⟨_,rfl⟩
  simp only [← hZ] at hmk HO0 HB0
  clear hZ
  have jl := jl (w.alloc (.cells Z 3))
  go_enter Try.func69,Try.ntmps69
  go_wp2_with (go_at_call 76; (with_reducible refine (jc _).mono ?_); rintro e w' ⟨rfl,hw1⟩; obtain rfl := hw1.symm)
  refine jl.mono ?_
  rintro e w2 ⟨g,rfl,hrow,hb2⟩
  have HL2 : Hid _ := hrow
  have HO2 : Hid (w2.ownsRow w.heap.size 3 1 (.slice (some ⟨w.heap.size,0,none⟩) 0 M) 0 []) := qF HO0.out hb2
  have HB2 : Hid _ := q5 HB0.out hb2
  go_wp2
  go_loopw [8,22] (fun v i wr => ∃ (k : Nat) (l : List Int),k ≤ M ∧ i = .int .i64 k ∧ Hid (tabT N r k = some l) ∧ Hid (wr.ownsRow w.heap.size 3 1 v k (l.map (Value.int .i64))) ∧ Hid (Below w.heap.size w wr) ∧ Hid (LtRow wr g (allTo M M))) (fun _ i _ => M - (intOf i).toNat)
  case atStart => exact ⟨0,[],Nat.zero_le _,rfl,rfl,HO2,HB2,HL2⟩
  case round =>
   obtain ⟨k,l,hk,rfl,HT,HO,HB,HL⟩ := hrel
   by_cases hlt : k < M
   ·have hix := fun w' => q2q g M k hlt w'
    have hce : wr.cell? ⟨g,k,none⟩ = some (.int .u8 (k : Int)) := (q6 HL.out k).trans (by simp [qW hlt,hlt])
    have jg := q1B a len cap N r k wr (HN.out.up HB.out) hr (by omega)
    rcases hg : goG N k 8 r with _ | v
    ·have HE : Hid (∀ w6,Below wr.heap.size wr w6 → Q (.returned (.tuple #[.slice none 0 0,.int .i64 12])) w6) := fun w6 hb => HR.out _ _ (q5 HB.out hb) (.inl ⟨q2x hg M hlt,rfl⟩)
     rw [hg] at jg
     go_wp2_with (go_at_call 65; (with_reducible refine jg.mono ?_); rintro e w6 ⟨rfl,hb6⟩; dsimp only [goV]; have HE6 : Hid _ := HE.out w6 hb6; clear hb6 HE)
     exact HE6.out
    ·have HT2 : Hid (tabT N r (k + 1) = some (l ++ [v])) := q4u HT.out hg
     rw [hg] at jg
     obtain ⟨va,vc,rfl⟩ := qs HO.out
     have HS : Hid (∀ w6,Below wr.heap.size wr w6 → (w6.alloc (.cells #[.int .i64 v] 3)).ownsRow w.heap.size 3 1 (.slice va k vc) k (l.map (Value.int .i64)) ∧ (w6.alloc (.cells #[.int .i64 v] 3)).cell? ⟨w6.heap.size,0,none⟩ = some (.int .i64 v) ∧ Below w.heap.size w (w6.alloc (.cells #[.int .i64 v] 3)) ∧ LtRow (w6.alloc (.cells #[.int .i64 v] 3)) g (allTo M M)) := fun w6 hb =>
      ⟨World.ownsRow.alloc (qF HO.out hb) _,q6 (MapKept.heap_alloc w6 _).1 0,(q5 HB.out hb).alloc (q5 HB.out hb).size _,(HL.out.up hb).up (q7 w6 _)⟩
     have HNE : Hid _ := q4X HO.out HL.out
     have HGE : Hid _ := qw HO.out
     go_wp2_with (first
      | (go_at_call 65; (with_reducible refine jg.mono ?_); rintro e w6 ⟨rfl,hb6⟩; dsimp only [goV]; have HS6 : Hid _ := HS.out w6 hb6; have hszA : w.heap.size ≤ (w6.alloc (.cells #[.int .i64 v] 3)).heap.size := HS6.out.2.2.1.size; clear hb6)
      | (revert hszA; intro hszA; at_builtin; refine qM rfl _ _ rfl w.heap.size _ k l rfl HS6.out.1 w6.heap.size v rfl HS6.out.2.1 (by omega) hszA ?_)
      | fail)
     intro v7 w7 hown7 hgr7
     have HO7 : Hid (w7.ownsRow w.heap.size 3 1 v7 (k + 1) ((l ++ [v]).map (Value.int .i64))) := by show World.ownsRow _ _ _ _ _ _ _; simpa using hown7
     have HW7 : Hid _ := HS6.out.2.2.1.grown hgr7 hszA (fun q e => HGE.out q e)
     have HL7 : Hid _ := HS6.out.2.2.2.grown hgr7 HNE.out
     go_wp2
     go_roundw
     case rel => exact ⟨k + 1,l ++ [v],by omega,by go_num,HT2,HO7,HW7,HL7⟩
     case measure => simp [intOf]; omega
   ·obtain rfl : k = M := by omega
    obtain ⟨va,vc,rfl,hU,hnw,_⟩ := qm HO.out Try.underlying23 q8
    have hl := hU.hlen
    have HE : Hid _ := HR.out _ _ HB.out (.inr ⟨l,va,vc,HT.out,rfl,by rw [hl]; exact HO.out⟩)
    rw [hl] at HE
    go_wp2
    exact HE.out
 ·have HE : Hid _ := HQ.out _ _ ⟨Below.refl _ _,.inl ⟨h08,rfl⟩⟩
  rw [decide_eq_false h08] at jc
  go_enter Try.func69,Try.ntmps69
  go_wp2_with (go_at_call 76; (with_reducible refine (jc _).mono ?_); rintro e w' ⟨rfl,hw1⟩; obtain rfl := hw1.symm)
  exact HE.out
end Go.Proofs.Ytjpggahiddhanaa
