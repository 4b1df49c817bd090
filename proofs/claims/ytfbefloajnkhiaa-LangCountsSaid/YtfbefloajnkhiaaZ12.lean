/- Texts of the proof, put together: what it uses. -/
import Derived.Shelf.Bits.Mul64
import Derived.BigQuiet
import Derived.Test.YtfbefloajnkhiaaZ02
import Derived.Test.YtfbefloajnkhiaaZ08
set_option maxRecDepth 100000
set_option maxHeartbeats 16000000
namespace Go.Proofs.Ytfbefloajnkhiaa
open Go.RowKit Go.Maps
theorem q4b (x y : Nat) (hx : x < 18446744073709551616) (hy : y < 18446744073709551616) (w : World) :
  Calls Try.prog 60 #[.int .u64 x,.int .u64 y] w fun e w' => e = .returned (.tuple #[.int .u64 ((x * y / 18446744073709551616 : Nat) : Int),.int .u64 ((x * y % 18446744073709551616 : Nat) : Int)]) ∧ w' = w := by
 obtain ⟨bd,bt,bw,hhi⟩ := Lib.mul64_hi x y hx hy
 have ba := Lib.half_mul_le (a := x / 4294967296) (b := y / 4294967296) (by omega) (by omega)
 have bb := Lib.half_mul_le (a := x / 4294967296) (b := y % 4294967296) (by omega) (by omega)
 have bc := Lib.half_mul_le (a := x % 4294967296) (b := y / 4294967296) (by omega) (by omega)
 have ba' : x / 4294967296 * (y / 4294967296) < 18446744073709551616 := by omega
 have bb' : x / 4294967296 * (y % 4294967296) < 18446744073709551616 := by omega
 have bc' : x % 4294967296 * (y / 4294967296) < 18446744073709551616 := by omega
 have bh1 : x / 4294967296 * (y / 4294967296) + (x / 4294967296 * (y % 4294967296) + x % 4294967296 * (y % 4294967296) / 4294967296) / 4294967296 < 18446744073709551616 := by omega
 have bh : x / 4294967296 * (y / 4294967296) + (x / 4294967296 * (y % 4294967296) + x % 4294967296 * (y % 4294967296) / 4294967296) / 4294967296 + ((x / 4294967296 * (y % 4294967296) + x % 4294967296 * (y % 4294967296) / 4294967296) % 4294967296 + x % 4294967296 * (y / 4294967296)) / 4294967296 < 18446744073709551616 := by omega
 go_enter Try.func60,Try.ntmps60
 go_wp2
 simp only [Mul64.maskN x hx,Mul64.maskN y hy,Mul64.divN,Mul64.mulN,Mul64.addN,Mul64.wrapN _ bd,Mul64.wrapN _ bb',Mul64.wrapN _ bt,Mul64.maskN _ bt,Mul64.wrapN _ bc',Mul64.wrapN _ bw,Mul64.wrapN _ ba',Mul64.wrapN _ bh1,Mul64.wrapN _ bh,Mul64.wrapM (x * y)]
 rw [hhi]
 go_ret2
 exact ⟨rfl,rfl⟩
theorem q4M (n : Nat) (hn : n ≤ 256) (w : World) :
  Calls Try.prog 57 #[.int .u64 1,.int .u64 (n : Int)] w fun e w' => e = .returned (.tuple #[.int .u64 0,.int .u64 (n : Int)]) ∧ w' = w := by
 have c64 : Calls Try.prog 60 #[.int .u64 1,.int .u64 (n : Int)] w fun e w' => e = .returned (.tuple #[.int .u64 0,.int .u64 (n : Int)]) ∧ w' = w := by
  refine (q4b 1 n (by omega) (by omega) w).mono fun e w' ⟨h1,h2⟩ => ⟨?_,h2⟩
  rw [h1,Nat.one_mul,Nat.div_eq_of_lt (by omega),Nat.mod_eq_of_lt (by omega)]
  rfl
 go_enter Try.func57,Try.ntmps57
 go_wp2_with (go_at_call 60; refine c64.mono ?_; rintro e w' ⟨rfl,hw⟩; rw [hw])
 go_ret2
 exact ⟨rfl,rfl⟩
def repL (n k : Nat) : List Int := List.replicate k (-1) ++ List.replicate (n - k) 0
theorem q3t {n k : Nat} (h : k ≤ n) : (repL n k).length = n := by simp [repL]; omega
theorem q5t {n k i : Nat} (h : i < k) : (repL n k).getD i 0 = -1 := by
 rw [repL,List.getD_eq_getElem?_getD,List.getElem?_append_left (by simpa using h)]
 simp [h]
theorem q4H (n : Nat) : repL n 0 = List.replicate n 0 := by simp [repL]
theorem q54 (n : Nat) : repL n n = List.replicate n (-1) := by simp [repL]
theorem q55 {n k j : Nat} : (repL n k).take k ++ List.replicate j (-1) ++ (repL n k).drop (k + j) = repL n (k + j) := by
 have e1 : (repL n k).take k = List.replicate k (-1) := by
  rw [repL,List.take_append_of_le_length (by simp)]; simp
 have e2 : (repL n k).drop (k + j) = List.replicate (n - (k + j)) 0 := by
  rw [repL,List.drop_append]
  simp
  omega
 rw [e1,e2,List.replicate_append_replicate]; rfl
theorem q3E (x : Addr) (len cap hi : Nat) (h : hi ≤ cap) (w : World) : (Instr.sliceAt 23 (.slice (some x) len cap) none (some (.int .i64 (hi : Int))) none).run Try.prog w = .ok (.slice (some x) hi cap) w := by
 simp [Instr.sliceAt,Instr.slice,run_underlying Try.underlying23,qC qc,go_sem,h]
theorem q2O (g len cap lo : Nat) (h : lo ≤ len) (hc : lo < cap) (w : World) : (Instr.sliceAt 23 (.slice (some ⟨g,0,none⟩) len cap) (some (.int .i64 (lo : Int))) none none).run Try.prog w = .ok (.slice (some ⟨g,lo,none⟩) (len - lo) (cap - lo)) w := by
 have hne : ¬ cap = lo := by omega
 simp [Instr.sliceAt,Instr.slice,run_underlying Try.underlying23,qC qc,go_sem,h,hne,q8]
theorem q2b (b n : Nat) (w : World) (hb : RowI w 3 b [-1]) (h1 : 0 < n) (h256 : n ≤ 256) :
  Calls Try.prog 51 #[.slice (some ⟨b,0,none⟩) 1 1,.int .i64 (n : Int)] w fun e w' => Below w.heap.size w w' ∧ e = .returned (.slice (some ⟨w.heap.size,0,none⟩) n n) ∧ RowI w' 3 w.heap.size (List.replicate n (-1)) := by
 obtain ⟨Z,eZ⟩ : ∃ Z : Ending → World → Prop,Z = fun e w' => Below w.heap.size w w' ∧ e = .returned (.slice (some ⟨w.heap.size,0,none⟩) n n) ∧ RowI w' 3 w.heap.size (List.replicate n (-1)) := ⟨_,rfl⟩
 have HZ : Hid (∀ w',Below w.heap.size w w' → RowI w' 3 w.heap.size (repL n n) → Z (.returned (.slice (some ⟨w.heap.size,0,none⟩) n n)) w') := fun w' h1 h2 => by rw [eZ]; exact ⟨h1,rfl,by rw [← q54]; exact h2⟩
 rw [← eZ]
 clear eZ
 have jm := q4M n h256 w
 have hmk := q37 n (n : Int) rfl (by omega) w
 have hc0 := hb.cell (i := 0) (by simp)
 obtain ⟨w2,hw2⟩ : ∃ w2,w2 = w.alloc (.cells ((List.replicate n (0 : Int)).map (Value.int .i64)).toArray 3) := ⟨_,rfl⟩
 have hR2 : RowI w2 3 w.heap.size (repL n 0) := by rw [hw2,q4H]; exact (MapKept.heap_alloc w _).1
 have hB2 : Below w.heap.size w w2 := by rw [hw2]; exact q6 w _
 have hcopy : ∀ (wx : World) (k j x c : Nat),RowI wx 3 w.heap.size (repL n k) → (∀ i,i < j → wx.cell? ⟨x,i,none⟩ = some (.int .i64 (-1))) → j = min c (n - k) → k + j ≤ n → ∀ (ty cp cq : Nat),(Builtin.copy_ #[23,23] ty #[.slice (some ⟨w.heap.size,k,none⟩) (n - k) cp,.slice (some ⟨x,0,none⟩) c cq]).run Try.prog wx = .ok (.int .i64 (j : Int)) (wx.setRow w.heap.size ((repL n (k + j)).map (Value.int .i64)).toArray) := fun wx k j x c hR hc hj hkj ty cp cq => by
  have := run_copy_row (P := Try.prog) wx 23 23 ty 3 w.heap.size k (n - k) cp ⟨x,0,none⟩ c cq _ 3 ((List.replicate j (-1 : Int)).map (Value.int .i64)) Try.underlying23 qc hR (by rw [List.length_map,List.length_replicate]; exact hj) (fun i v hv => by
   rw [List.getElem?_map,List.getElem?_replicate] at hv
   split at hv
   ·rename_i hi
    simp at hv
    rw [← hv,q8,Nat.zero_add]; exact hc i hi
   ·simp at hv) (by simp [q3t (show k ≤ n by omega)]; omega) (fun v hv => by simp at hv; obtain ⟨_,rfl⟩ := hv; rfl)
  rw [this]
  have e : (((repL n k).map (Value.int .i64)).toArray.toList.take k ++ (List.replicate j (-1 : Int)).map (Value.int .i64) ++ ((repL n k).map (Value.int .i64)).toArray.toList.drop (k + ((List.replicate j (-1 : Int)).map (Value.int .i64)).length)) = (repL n (k + j)).map (Value.int .i64) := by
   rw [List.length_map,List.length_replicate]
   show ((repL n k).map (Value.int .i64)).take k ++ _ ++ ((repL n k).map (Value.int .i64)).drop (k + j) = _
   rw [← List.map_take,← List.map_drop,← List.map_append,← List.map_append,q55]
  rw [e]
  simp [goInt]
 have HC : Hid _ := hcopy
 have hcp0 := hcopy w2 0 1 b 1 hR2 (fun i hi => by
  obtain rfl : i = 0 := by omega
  have := hB2.cell (p := ⟨b,0,none⟩) hb.lt
  rw [this,hc0]; rfl) (by omega) (by omega)
 rw [Nat.zero_add,Nat.sub_zero] at hcp0
 obtain ⟨w3,hw3⟩ : ∃ w3,w3 = w2.setRow w.heap.size ((repL n 1).map (Value.int .i64)).toArray := ⟨_,rfl⟩
 have HR3 : Hid (RowI w3 3 w.heap.size (repL n 1)) := by rw [hw3]; exact setRow_heap _ _ _ _ _ _ hR2
 have HB3 : Hid (Below w.heap.size w w3) := by rw [hw3]; exact q1j hB2 (Nat.le_refl _) _
 rw [← hw3] at hcp0
 rw [← hw2] at hmk
 clear hw2 hw3 hR2 hB2 hcopy hc0 hb
 go_enter Try.func51,Try.ntmps51
 go_wp2_with (go_at_call 57; refine jm.mono ?_; rintro e w' ⟨rfl,hw⟩; rw [hw])
 clear jm hmk hcp0
 go_loopw [8] (fun i wr => ∃ k : Nat,0 < k ∧ k ≤ n ∧ i = .int .i64 (k : Int) ∧ Hid (Below w.heap.size w wr) ∧ Hid (RowI wr 3 w.heap.size (repL n k))) (fun i _ => n - (intOf i).toNat)
 case atStart => exact ⟨1,by omega,by omega,rfl,HB3,HR3⟩
 case round =>
  clear HB3 HR3
  obtain ⟨k,h0,hk,rfl,HB,HR⟩ := hrel
  by_cases hlt : k < n
  ·obtain ⟨j,hj⟩ : ∃ j,j = min k (n - k) := ⟨_,rfl⟩
   have hj1 : 0 < j ∧ k + j ≤ n ∧ j ≤ k := by omega
   have hcell : ∀ i,i < j → wr.cell? ⟨w.heap.size,i,none⟩ = some (.int .i64 (-1)) := fun i hi => by
    rw [HR.out.cell (by rw [q3t hk]; omega),q5t (by omega)]
   have h1 := HC.out wr k j w.heap.size k HR.out hcell hj hj1.2.1
   have h2 := HC.out wr.drew k j w.heap.size k HR.out hcell hj hj1.2.1
   have hf := fun w' => q2O w.heap.size n n k hk hlt w'
   have ht := fun w' => q3E ⟨w.heap.size,0,none⟩ n n k hk w'
   obtain ⟨J,hJ⟩ : ∃ J,J = k + j := ⟨_,rfl⟩
   have hwr : IntKind.i64.wrap ((k : Int) + (j : Int)) = (J : Int) := by rw [IntKind.wrap_i64]; omega
   have hwr2 : (k : Int) + (j : Int) = (J : Int) := by omega
   have hJ2 : 0 < J ∧ J ≤ n ∧ k < J := by omega
   rw [← hJ] at h1 h2
   have HR4 : Hid (∀ q,RowI ((wr.setRow w.heap.size ((repL n J).map (Value.int .i64)).toArray).drewN q) 3 w.heap.size (repL n J)) := fun q => setRow_heap _ _ _ _ _ _ HR.out
   have HB4 : Hid (∀ q,Below w.heap.size w ((wr.setRow w.heap.size ((repL n J).map (Value.int .i64)).toArray).drewN q)) := fun q => below_drewN (q1j HB.out (Nat.le_refl _) _) q
   clear hj hcell HC HR HB hj1 hJ
   generalize ((repL n J).map (Value.int .i64)).toArray = C at *
   generalize n - k = nk at *
   go_wp2
   go_region
   go_wp2
   go_roundw
   case rel => exact ⟨J,hJ2.1,hJ2.2.1,rfl,by first | exact HB4.out 0 | exact HB4.out 1 | exact HB4.out _,by first | exact HR4.out 0 | exact HR4.out 1 | exact HR4.out _⟩
   case measure => simp [intOf]; omega
  ·obtain rfl : k = n := by omega
   have HE : Hid _ := HZ.out wr HB.out HR.out
   clear HZ HB HR HC
   go_wp2
   exact HE.out
theorem q4x {Q : List (Nat × List Nat)} {s : Nat} {t : List Nat} (hs : s ∉ Q.map (·.1)) (x : Nat) : lenQ (Q ++ [(s,t)]) x = if s = x then (t.length : Int) else lenQ Q x := by
 unfold lenQ
 rw [List.find?_append]
 by_cases e : s = x
 ·subst e
  rw [List.find?_eq_none.2 (fun y hy => by simp only [beq_iff_eq]; exact fun h => hs (List.mem_map.2 ⟨y,hy,h⟩))]
  simp
 ·rw [if_neg e]
  cases hq : Q.find? (fun y => y.1 == x) with
  | some y => rfl
  | none => simp [e]
def lensL (n : Nat) (Q : List (Nat × List Nat)) : List Int := (List.range n).map (lenQ Q)
theorem qA (n : Nat) (Q : List (Nat × List Nat)) : (lensL n Q).length = n := by simp [lensL]
theorem q1B {n : Nat} (Q : List (Nat × List Nat)) {s : Nat} (h : s < n) : (lensL n Q).getD s 0 = lenQ Q s := by simp [lensL,List.getD_eq_getElem?_getD,h]
theorem q1Q {n : Nat} {Q : List (Nat × List Nat)} {s : Nat} {t : List Nat} (hs : s ∉ Q.map (·.1)) : lensL n (Q ++ [(s,t)]) = (lensL n Q).set s (t.length : Int) := by
 apply List.ext_getElem?
 intro i
 rw [List.getElem?_set]
 by_cases hi : i < n
 ·have e1 : (lensL n (Q ++ [(s,t)]))[i]? = some (lenQ (Q ++ [(s,t)]) i) := by simp [lensL,hi]
  have e2 : (lensL n Q)[i]? = some (lenQ Q i) := by simp [lensL,hi]
  rw [e1,e2,q4x hs]
  by_cases e : s = i
  ·subst e
   rw [if_pos rfl,if_pos rfl,if_pos (by rw [qA]; exact hi)]
  ·rw [if_neg e,if_neg e]
 ·have e1 : (lensL n (Q ++ [(s,t)]))[i]? = none := by simp [lensL,hi]
  have e2 : (lensL n Q)[i]? = none := by simp [lensL,hi]
  rw [e1,e2]
  by_cases e : s = i
  ·rw [if_pos e,if_neg (by rw [qA]; omega)]
  ·rw [if_neg e]
theorem q4y (n : Nat) : lensL n [(0,[])] = (List.replicate n (-1)).set 0 0 := by
 have := q1Q (n := n) (Q := []) (s := 0) (t := []) (by simp)
 rw [List.nil_append] at this
 rw [this]
 congr 1
 apply List.ext_getElem?
 intro i
 by_cases hi : i < n
 ·simp [lensL,hi,lenQ]
 ·simp [lensL,hi]
structure LnM (w wr : World) (aA : Option Addr) (cA : Nat) (aT : Option Addr) (cT n : Nat) (v : Value) (Q : List (Nat × List Nat)) : Prop where
 mb : MvG wr w.heap.size (.slice aA n cA) (.slice aT n cT)
 ln : RowI wr 3 (w.heap.size + 2) (lensL n Q)
 qo : wr.ownsRow (w.heap.size + 3) 3 1 v Q.length (((Q.map (·.1)).map Int.ofNat).map (Value.int .i64))
 bel : Below w.heap.size w wr
theorem LnM.up {w wr w' : World} {aA : Option Addr} {cA : Nat} {aT : Option Addr} {cT n : Nat} {v : Value} {Q : List (Nat × List Nat)} (h : LnM w wr aA cA aT cT n v Q) (hb : Below wr.heap.size wr w') : LnM w w' aA cA aT cT n v Q := ⟨h.mb.up hb,h.ln.up hb,qb h.qo hb,q5 h.bel hb⟩
theorem q16 (g n k : Nat) (hk : k < n) (w : World) : (Instr.indexAt 23 (.slice (some ⟨g,0,none⟩) n n) (.int .i64 (k : Int))).run Try.prog w = .ok (.pointer (some ⟨g,k,none⟩)) w := by
 have := qe (P := Try.prog) (T := 23) Try.underlying23 qc (a := some ⟨g,0,none⟩) (cap := n) (n := n) (fun e => by cases e) k w hk
 simpa [adOf,q8] using this
theorem q3v {w : World} {e : TypeId} {g : Nat} {cur : List Int} (h : RowI w e g cur) (i : Nat) (z : Int) : RowI (w.setCell ⟨g,i,none⟩ (.int .i64 z)) e g (cur.set i z) := by
 have := heap_setCell_same w g i _ _ (.int .i64 z) h
 unfold RowI
 rw [this,List.map_set]
 simp
theorem LnM.push {w wr w7 : World} {aA : Option Addr} {cA : Nat} {aT : Option Addr} {cT n : Nat} {v : Value} {Q : List (Nat × List Nat)} (h : LnM w wr aA cA aT cT n v Q) {s : Nat} {t : List Nat} (hm : s ∉ Q.map (·.1)) {o : Obj} {v7 : Value}
  (hq : w7.ownsRow (w.heap.size + 3) 3 1 v7 (Q.length + 1) (((Q.map (·.1)).map Int.ofNat ++ [(s : Int)]).map (Value.int .i64))) (hg : ((wr.setCell ⟨w.heap.size + 2,s,none⟩ (.int .i64 (t.length : Int))).alloc o).grownBy w7 v.ownBlock) :
  LnM w w7 aA cA aT cT n v7 (Q ++ [(s,t)]) := by
 have hge := qf h.qo
 have hln := h.ln.lt
 have hsz : wr.heap.size ≤ ((wr.setCell ⟨w.heap.size + 2,s,none⟩ (.int .i64 (t.length : Int))).alloc o).heap.size := by simp
 have keep : ∀ b,b < wr.heap.size → b < w.heap.size + 3 → w7.heap[b]? = (wr.setCell ⟨w.heap.size + 2,s,none⟩ (.int .i64 (t.length : Int))).heap[b]? := fun b hb1 hb2 => by
  rw [hg.block b (by omega) (fun e => by have := hge b e.symm; omega)]
  exact (q6 (wr.setCell ⟨w.heap.size + 2,s,none⟩ (.int .i64 (t.length : Int))) o).block b (by simpa using hb1)
 refine ⟨?_,?_,by rw [List.length_append,List.map_append,List.map_append]; exact hq,?_⟩
 ·exact (keep _ h.mb.lt (by omega)).trans ((Below.heap_setCell _ _ _ _ (by dsimp only; omega)).trans h.mb)
 ·rw [q1Q hm]
  exact (keep _ hln (by omega)).trans (q3v h.ln s _)
 ·have h1 : Below w.heap.size w (wr.setCell ⟨w.heap.size + 2,s,none⟩ (.int .i64 (t.length : Int))) := h.bel.setCell (by dsimp only; omega) _
  have h2 := h1.alloc h1.size o
  exact h2.grown hg h2.size (fun q e => by have := hge q e; omega)
def LenR (n K : Nat) (R : List (List Nat)) (w : World) (e : Ending) (w' : World) : Prop := Below w.heap.size w w' ∧ ∃ g zs,e = .returned (.slice (some ⟨g,0,none⟩) n n) ∧ w.heap.size ≤ g ∧ RowI w' 3 g zs ∧ LenA n K R zs
theorem q1x (aA : Option Addr) (cA : Nat) (aT : Option Addr) (cT n K : Nat) (bs : List Bool) (R : List (List Nat)) (w : World) (hM : MvS w aA cA aT cT n bs R) (hR : RowsP n K R) (hK : K ≤ 256) (h1n : 0 < n) (h256 : n ≤ 256) :
  Calls Try.prog 36 #[.agg #[.slice aA n cA,.slice aT n cT]] w (LenR n K R w) := by
 obtain ⟨Z,eZ⟩ : ∃ Z,Z = LenR n K R w := ⟨_,rfl⟩
 have HZ : Hid (∀ w' zs,Below w.heap.size w w' → RowI w' 3 (w.heap.size + 2) zs → LenA n K R zs → Z (.returned (.slice (some ⟨w.heap.size + 2,0,none⟩) n n)) w') := fun w' zs hb h1 h2 => by rw [eZ]; exact ⟨hb,_,zs,rfl,by omega,h1,h2⟩
 rw [← eZ]
 clear eZ
 obtain ⟨w1,hw1⟩ : ∃ w1,w1 = (w.alloc (.cells #[.slice aA n cA,.slice aT n cT] 62 (0,0))).alloc (.cells #[.int .i64 (-1)] 3) := ⟨_,rfl⟩
 have hb1 : Below w.heap.size w w1 := by rw [hw1]; exact q5 (q6 w _) (q6 _ _)
 have hs1 : w1.heap.size = w.heap.size + 2 := by rw [hw1]; simp
 have hr1 : RowI w1 3 (w.heap.size + 1) [-1] := by
  have := (MapKept.heap_alloc (w.alloc (.cells #[.slice aA n cA,.slice aT n cT] 62 (0,0))) (.cells #[.int .i64 (-1)] 3)).1
  rw [hw1]; unfold RowI; simpa using this
 have hm1 : MvG w1 w.heap.size (.slice aA n cA) (.slice aT n cT) := by rw [hw1]; exact (qa w _ _).up (q6 _ _)
 have jr := q2b (w.heap.size + 1) n w1 hr1 h1n h256
 rw [hs1] at jr
 have c1 := hm1.c1
 have HM1 : Hid (MvG w1 w.heap.size (.slice aA n cA) (.slice aT n cT)) := hm1
 have HB1 : Hid _ := hb1
 have HW1 : Hid _ := hw1
 have HS1 : Hid _ := hs1
 have HHM : Hid _ := hM
 have HR : Hid _ := hR
 clear hb1 hs1 hr1 hm1 hM hR
 have hc1 : ∀ wx,wx = w1 → wx.cell? ⟨w.heap.size,1,none⟩ = some (.slice aT n cT) := fun wx h => by rw [h]; exact c1
 rw [hw1] at c1
 clear hw1
 go_enter Try.func36,Try.ntmps36
 go_wp2_with (go_at_call 51; rw [← HW1.out])
 refine jr.mono ?_
 rintro e w2 ⟨hb2,rfl,hr2⟩
 have hb2' : Below w1.heap.size w1 w2 := by rw [HS1.out]; exact hb2
 have hlt2 := hr2.lt
 have hM0 : LnM w ((w2.setCell ⟨w.heap.size + 2,0,none⟩ (.int .i64 0)).alloc (.cells #[.int .i64 0] 3)) aA cA aT cT n (.slice (some ⟨w2.heap.size,0,none⟩) 1 1) [(0,[])] := by
  have hbs : Below w.heap.size w (w2.setCell ⟨w.heap.size + 2,0,none⟩ (.int .i64 0)) := (q5 HB1.out hb2').setCell (by dsimp only; omega) _
  have hnb := (MapKept.heap_alloc (w2.setCell ⟨w.heap.size + 2,0,none⟩ (.int .i64 0)) (.cells #[.int .i64 0] 3)).1
  refine ⟨MvG.up ((Below.heap_setCell _ _ _ _ (by dsimp only; omega)).trans (HM1.out.up hb2')) (q6 _ _),RowI.up (by rw [q4y]; exact q3v hr2 0 0) (q6 _ _),⟨rfl,.inr ⟨w2.heap.size,1,_,rfl,by omega,by simpa using hnb,Nat.le_refl _,by decide,rfl,rfl⟩⟩,q5 hbs (q6 _ _)⟩
 have HM0 : Hid (LnM w ((w2.setCell ⟨w.heap.size + 2,0,none⟩ (.int .i64 0)).alloc (.cells #[.int .i64 0] 3)) aA cA aT cT n (.slice (some ⟨w2.heap.size,0,none⟩) 1 1) [(0,[])]) := hM0
 have hix0 : ∀ w',(Instr.indexAt 23 (.slice (some ⟨w.heap.size + 2,0,none⟩) n n) (.int .i64 0)).run Try.prog w' = .ok (.pointer (some ⟨w.heap.size + 2,0,none⟩)) w' := fun w' => q16 (w.heap.size + 2) n 0 h1n w'
 have k0 := hr2.cell (i := 0) (by simpa using h1n)
 have f0 : w2.frozen? ⟨w.heap.size + 2,0,none⟩ = false := frozen_of_row w2 _ 0 _ _ hr2
 have HBF : Hid (BfQ n K R 0 0 [(0,[])]) := q2s h1n
 clear jr hb2 hb2' hr2 hlt2 hM0 c1 hc1 HM1 HB1
 go_wp2
 clear hix0 k0 f0
 generalize (w2.setCell ⟨w.heap.size + 2,0,none⟩ (.int .i64 0)).alloc (.cells #[.int .i64 0] 3) = w3 at *
 generalize w2.heap.size = g3 at *
 go_loopw [4,5] (fun v i wr => ∃ (j : Nat) (Q : List (Nat × List Nat)),i = .int .i64 (j : Int) ∧ Hid (BfQ n K R j 0 Q) ∧ Hid (LnM w wr aA cA aT cT n v Q) ∧ j ≤ Q.length) (fun _ i _ => n - (intOf i).toNat)
 case atStart => exact ⟨0,[(0,[])],rfl,HBF,HM0,Nat.zero_le _⟩
 case round =>
  obtain ⟨j,Q,rfl,HB,HM,hjQ⟩ := hrel
  clear HBF HM0
  have hQl : Q.length ≤ n := HB.out.few
  have hQm : (Q.map (·.1)).length = Q.length := List.length_map _
  obtain ⟨va,vc,rfl,hU,hUb,_⟩ := q15 HM.out.qo Try.underlying23 qc
  by_cases hlt : j < Q.length
  ·obtain ⟨x,hx⟩ : ∃ x,Q[j]? = some x := ⟨_,List.getElem?_eq_getElem hlt⟩
   have hix := fun w' => hU.idx Q.length j w' hlt (Nat.le_refl _)
   have hce := hU.cell j hlt
   rw [qi (by rw [hQm]; exact hlt)] at hce
   have hqj : (Q.map (·.1)).getD j 0 = x.1 := by rw [List.getD_eq_getElem?_getD,List.getElem?_map,hx]; rfl
   rw [hqj] at hce
   have hqn : x.1 < n := HB.out.lt x (List.mem_of_getElem? hx)
   obtain ⟨rg,ro,rz,ra,rl,rc,hrx,hrc,hrz⟩ := HHM.out.row hqn
   have hrc := q9 hrc HM.out.bel
   have hrl : rl = K := by have := hrz.hlen; rw [List.length_map,HR.out.row x.1 hqn] at this; exact this.symm
   subst hrl
   have m1 := HM.out.mb.c1
   have HX : Hid _ := hx
   have HXN : Hid _ := hqn
   have HRZ : Hid (ZSl w ra rl rc ((R.getD x.1 []).map Int.ofNat)) := hrz
   have HP0 : Hid (∀ nq,LnM w (wr.drewN nq) aA cA aT cT n (.slice va Q.length vc) Q) := fun nq => HM.out.up (below_drewN (Below.refl _ _) nq)
   clear hU hUb hrz HM hqj hQm hx
   generalize adOf va j = ad at *
   obtain ⟨ag,ao,az⟩ := ad
   go_wp2
   have HPN : Hid _ := HP0.out 0
   clear HP0 hix hce hrx hrc m1
   go_loopw [4,33] (fun v i wy => ∃ (k : Nat) (Q2 : List (Nat × List Nat)),k ≤ rl ∧ i = .int .i64 (k : Int) ∧ Hid (BfQ n rl R j k Q2) ∧ Hid (LnM w wy aA cA aT cT n v Q2) ∧ Hid (Q2[j]? = some x)) (fun _ i _ => rl - (intOf i).toNat)
   case atStart => exact ⟨0,Q,Nat.zero_le _,rfl,HB,HPN,HX⟩
   case round =>
    clear HPN HB HX
    obtain ⟨k,Q2,hk,rfl,HB,HM,HX⟩ := hrel
    have hQl2 : Q2.length ≤ n := HB.out.few
    have hjQ2 : j < Q2.length := (List.getElem?_eq_some_iff.1 HX.out).1
    obtain ⟨ua,uc,rfl⟩ := qg HM.out.qo
    by_cases hkK : k < rl
    ·have ik1 := fun w' => HRZ.out.idx rl k w' hkK (Nat.le_refl _)
     have ck1 := (HRZ.out.up HM.out.bel).cell k hkK
     rw [qi (by rw [HR.out.row x.1 HXN.out]; exact hkK)] at ck1
     have hs := HR.out.lt x.1 k HXN.out hkK
     change wr.cell? _ = some (.int .i64 ((trP R x.1 k : Nat) : Int)) at ck1
     have HSK : Hid (trP R x.1 k ∈ Q2.map (·.1) → BfQ n rl R j (k + 1) Q2) := fun h => HB.out.skip hK HX.out h
     have HPU : Hid (trP R x.1 k ∉ Q2.map (·.1) → BfQ n rl R j (k + 1) (Q2 ++ [(trP R x.1 k,x.2 ++ [k])])) := fun h => HB.out.push HR.out hK HX.out hkK h
     generalize trP R x.1 k = s at *
     generalize adOf ra k = ad3 at *
     obtain ⟨b1g,b1o,b1z⟩ := ad3
     have hixs := fun w' => q16 (w.heap.size + 2) n s hs w'
     have hixh := fun w' => q16 (w.heap.size + 2) n x.1 HXN.out w'
     have cs := HM.out.ln.cell (i := s) (by rw [qA]; exact hs)
     have ch := HM.out.ln.cell (i := x.1) (by rw [qA]; exact HXN.out)
     rw [q1B _ hs] at cs
     rw [q1B _ HXN.out,q14 HB.out.nd (List.mem_of_getElem? HX.out)] at ch
     have fs : wr.frozen? ⟨w.heap.size + 2,s,none⟩ = false := frozen_of_row wr _ s _ _ HM.out.ln
     by_cases hm : s ∈ Q2.map (·.1)
     ·have HB2 : Hid _ := HSK.out hm
      obtain ⟨y,hy,hys⟩ := List.mem_map.1 hm
      have hly := q14 HB.out.nd hy
      rw [hys] at hly
      rw [hly] at cs
      have hneg : ¬ ((y.2.length : Nat) : Int) < 0 := by omega
      clear HSK HPU hm hy hys hly HB ch hixh fs
      go_wp2
      go_roundw
      case rel => exact ⟨k + 1,Q2,by omega,by go_num,HB2,HM,HX⟩
      case measure => simp [intOf]; omega
     ·have HB2 : Hid _ := HPU.out hm
      rw [q3n hm] at cs
      have HNM : Hid _ := hm
      have hxl : x.2.length ≤ 256 := by have := HB.out.len j x HX.out; omega
      obtain ⟨LL,hLL⟩ : ∃ LL,LL = (x.2 ++ [k]).length := ⟨_,rfl⟩
      have hLL2 : (x.2.length : Int) + 1 = (LL : Int) := by rw [hLL]; simp
      have hLL3 : LL ≤ 257 := by rw [hLL]; simp; omega
      have HLL : Hid _ := hLL
      have HO6 : Hid (((wr.setCell ⟨w.heap.size + 2,s,none⟩ (.int .i64 (LL : Int))).alloc (.cells #[.int .i64 (s : Int)] 3)).ownsRow (w.heap.size + 3) 3 1 (.slice ua Q2.length uc) Q2.length (((Q2.map (·.1)).map Int.ofNat).map (Value.int .i64))) := World.ownsRow.alloc (q19 HM.out.qo (by dsimp only; omega) _) _
      have hc6 : ((wr.setCell ⟨w.heap.size + 2,s,none⟩ (.int .i64 (LL : Int))).alloc (.cells #[.int .i64 (s : Int)] 3)).cell? ⟨wr.heap.size,0,none⟩ = some (.int .i64 (s : Int)) := by
       have := q7 (MapKept.heap_alloc (wr.setCell ⟨w.heap.size + 2,s,none⟩ (.int .i64 (LL : Int))) (.cells #[.int .i64 (s : Int)] 3)).1 0
       simpa using this
      have hb6 : w.heap.size + 3 ≤ ((wr.setCell ⟨w.heap.size + 2,s,none⟩ (.int .i64 (LL : Int))).alloc (.cells #[.int .i64 (s : Int)] 3)).heap.size := by
       have := HM.out.ln.lt
       simp; omega
      have hQ26 : Q2.length + 1 ≤ 2000000 := by omega
      clear HSK HPU hm HB hLL
      go_wp2_with (at_builtin; refine qr rfl _ _ rfl (w.heap.size + 3) _ Q2.length ((Q2.map (·.1)).map Int.ofNat) rfl ?_ wr.heap.size (s : Int) rfl ?_ hQ26 ?_ ?_)
      ·exact HO6.out
      ·exact hc6
      ·exact hb6
      intro v7 w7 hq7 hg7
      have HM7 : Hid (LnM w w7 aA cA aT cT n v7 (Q2 ++ [(s,x.2 ++ [k])])) := HM.out.push HNM.out (by rw [List.map_append,List.map_map,List.map_map]; exact hq7) (by rw [← HLL.out]; exact hg7)
      have HX7 : Hid ((Q2 ++ [(s,x.2 ++ [k])])[j]? = some x) := by
       show _ = _
       rw [List.getElem?_append_left hjQ2]
       exact HX.out
      clear hq7 hg7 HO6 hc6 hb6 HM HX HNM
      go_wp2
      go_roundw
      case rel => exact ⟨k + 1,_,by omega,by go_num,HB2,HM7,HX7⟩
      case measure => simp [intOf]; omega
    ·obtain rfl : k = rl := by omega
     have HB3 : Hid _ := HB.out.next
     clear HB HZ HX
     go_wp2
     go_roundw
     case rel => exact ⟨j + 1,Q2,by go_num,HB3,HM,by omega⟩
     case measure => simp [intOf]; omega
  ·have HF : Hid (LenA n K R (lensL n Q)) := HB.out.lens (by omega) (qA n Q) (fun s hs => q1B Q hs)
   have HE : Hid _ := HZ.out wr (lensL n Q) HM.out.bel HM.out.ln HF.out
   have hdj : ¬ (j : Int) < (Q.length : Int) := by omega
   clear HZ HF HB HM hU hUb
   go_wp2
   exact HE.out
theorem q2K {w : World} {ops : Array Oper} {rest : List Oper} {o : Oper} {a : Act} {Q : Exit → Act → World → Prop} (hgd : o.guard = none) (s x : Operand)
  (ho : o.op = .call { callee := .builtin .append,args := #[s,x],argTypes := #[23,23] }) (base : Nat)
  (v : Value) (n : Nat) (zs : List Int) (hs : a.eval s = v) (hown : w.ownsRow base 3 1 v n (zs.map (Value.int .i64))) (g' : Nat) (z : Int) (hx : a.eval x = .slice (some ⟨g',0,none⟩) 1 1) (hc : w.cell? ⟨g',0,none⟩ = some (.int .i64 z))
  (hn : n + 1 ≤ 2000000) (hbase : base ≤ w.heap.size)
  (h : ∀ g c w',w'.ownsRow base 3 1 (.slice (some ⟨g,0,none⟩) (n + 1) c) (n + 1) ((zs ++ [z]).map (Value.int .i64)) → w.grownBy w' v.ownBlock → (v.ownBlock = some g ∨ g = w.heap.size) → wpList Try.prog ops Q rest (a.put o.dst (.slice (some ⟨g,0,none⟩) (n + 1) c)) w') : wpList Try.prog ops Q (o :: rest) a w := by
 obtain ⟨i,hi,hz0,hz1,hz2⟩ := info_parts qw
 refine wpList_append_lies w hgd s x 23 ho base 3 i _ 1 8 Try.underlying23 hi hz0 hz1 hz2 rfl (by decide) v n _ hs hown ⟨g',0,none⟩ 1 1 [.int .i64 z] hx rfl ?_ (fun u hu => by simp at hu; subst hu; rfl) (by decide) (by unfold maxLen; omega) (by omega) hbase _ rfl ?_
 ·intro j u hj
  match j with
  | 0 => simp at hj; rw [← hj,q8]; exact hc
  | j + 1 => simp at hj
 ·intro g c w' h1 h2 h3 _
  exact h g c w' (by rw [List.map_append]; exact h1) h2 h3
abbrev inV (l : List Nat) : List Value := (l.map Int.ofNat).map (Value.int .i64)
structure FbM (wr : World) (gf : Nat) (vs : List Value) (F : List (List Nat)) : Prop where
 blk : wr.heap[gf]? = some (.cells vs.toArray 23 (0,0))
 len : vs.length = F.length
 own : ∀ (k : Nat) (v : Value),vs[k]? = some v → wr.ownsRow (gf + 1) 3 1 v (F.getD k []).length (inV (F.getD k []))
 ne : ∀ (k k' : Nat) (v v' : Value) (b : Nat),k ≠ k' → vs[k]? = some v → vs[k']? = some v' → v.ownBlock = some b → v'.ownBlock ≠ some b
theorem FbM.lt {wr : World} {gf : Nat} {vs : List Value} {F : List (List Nat)} (h : FbM wr gf vs F) : gf < wr.heap.size := (Array.getElem?_eq_some_iff.1 h.blk).1
theorem FbM.up {wr w' : World} {gf : Nat} {vs : List Value} {F : List (List Nat)} (h : FbM wr gf vs F) (hb : Below wr.heap.size wr w') : FbM w' gf vs F := ⟨(hb.block gf h.lt).trans h.blk,h.len,fun k v hv => qb (h.own k v hv) hb,h.ne⟩
theorem FbM.at {wr : World} {gf : Nat} {vs : List Value} {F : List (List Nat)} (h : FbM wr gf vs F) {t : Nat} (ht : t < F.length) : ∃ a c,vs[t]? = some (.slice a (F.getD t []).length c) ∧ wr.cell? ⟨gf,t,none⟩ = some (.slice a (F.getD t []).length c) ∧ wr.ownsRow (gf + 1) 3 1 (.slice a (F.getD t []).length c) (F.getD t []).length (inV (F.getD t [])) ∧ wr.frozen? ⟨gf,t,none⟩ = false := by
 have hl := h.len
 have hv : vs[t]? = some vs[t] := List.getElem?_eq_getElem (by omega)
 obtain ⟨a,c,e⟩ := qg (h.own t _ hv)
 have ho := h.own t _ hv
 rw [e] at hv ho
 refine ⟨a,c,hv,?_,ho,frozen_of_row wr gf t _ _ h.blk⟩
 rw [q7 h.blk]
 simpa using hv
theorem FbM.put {wr w7 : World} {gf : Nat} {vs : List Value} {F : List (List Nat)} (h : FbM wr gf vs F) {t s : Nat} (ht : t < F.length) {v : Value} (hv : vs[t]? = some v) {o : Obj} {g c : Nat}
  (hq : w7.ownsRow (gf + 1) 3 1 (.slice (some ⟨g,0,none⟩) ((F.getD t []).length + 1) c) ((F.getD t []).length + 1) (inV (F.getD t [] ++ [s]))) (hg : (wr.alloc o).grownBy w7 v.ownBlock) (hl : v.ownBlock = some g ∨ g = (wr.alloc o).heap.size) :
  FbM (w7.setCell ⟨gf,t,none⟩ (.slice (some ⟨g,0,none⟩) ((F.getD t []).length + 1) c)) gf (vs.set t (.slice (some ⟨g,0,none⟩) ((F.getD t []).length + 1) c)) (F.set t (F.getD t [] ++ [s])) := by
 have hlen := h.len
 have hgf := h.lt
 have hsz : (wr.alloc o).heap.size = wr.heap.size + 1 := by simp
 have hvo := h.own t v hv
 have hge := qf hvo
 have keep : ∀ b,b < wr.heap.size → v.ownBlock ≠ some b → w7.heap[b]? = wr.heap[b]? := fun b hb hne => by
  rw [hg.block b (by omega) (fun e => hne e.symm)]
  exact (q6 wr o).block b hb
 have hg1 : gf + 1 ≤ g := by
  rcases hl with hl | hl
  ·exact hge g hl
  ·omega
 have hb7 : w7.heap[gf]? = some (.cells vs.toArray 23 (0,0)) := (keep gf hgf (fun e => by have := hge gf e; omega)).trans h.blk
 refine ⟨?_,by simp [hlen],fun k u hu => ?_,fun k k' u u' b hkk hu hu' hb => ?_⟩
 ·have := heap_setCell_same w7 gf t _ _ (.slice (some ⟨g,0,none⟩) ((F.getD t []).length + 1) c) hb7
  rw [this]
  simp
 ·rw [List.getElem?_set] at hu
  by_cases e : t = k
  ·subst e
   rw [if_pos rfl,if_pos (by omega)] at hu
   injection hu with hu
   subst hu
   rw [qz ht,if_pos rfl,List.length_append,List.length_singleton]
   exact q19 hq (by dsimp only; omega) _
  ·rw [if_neg e] at hu
   rw [qz ht,if_neg e]
   have ho := h.own k u hu
   have hgk := qf ho
   refine q19 (qk ho (fun q hq1 => keep q (ho.lt q hq1).2 (h.ne k t u v q (Ne.symm e) hu hv hq1))) (by dsimp only; omega) _
 ·have hold : ∀ {k : Nat} {u : Value} {b : Nat},t ≠ k → vs[k]? = some u → u.ownBlock = some b → b < wr.heap.size := fun {k u b} _ hu hb => ((h.own k u hu).lt b hb).2
  rw [List.getElem?_set] at hu hu'
  by_cases e : t = k
  ·subst e
   rw [if_pos rfl,if_pos (by omega)] at hu
   injection hu with hu
   subst hu
   have e' : t ≠ k' := hkk
   rw [if_neg e'] at hu'
   injection hb with hb
   dsimp only at hb
   subst hb
   intro hb'
   rcases hl with hl | hl
   ·exact h.ne t k' v u' g hkk hv hu' hl hb'
   ·have := hold e' hu' hb'; omega
  ·rw [if_neg e] at hu
   by_cases e' : t = k'
   ·subst e'
    rw [if_pos rfl,if_pos (by omega)] at hu'
    injection hu' with hu'
    subst hu'
    intro hb'
    injection hb' with hb'
    dsimp only at hb'
    subst hb'
    rcases hl with hl | hl
    ·exact h.ne t k v u g (Ne.symm hkk) hv hu hl hb
    ·have := hold e hu hb; omega
   ·rw [if_neg e'] at hu'
    exact h.ne k k' u u' b hkk hu hu' hb
theorem q47 : (Try.prog.info? 23).map (fun i => (i.zero,i.size,i.bytes)) = some (some (.slice none 0 0),1,24) := by kernel_rfl
theorem q4g : (Try.prog.info? 23).map (·.size) = some 1 := by kernel_rfl
theorem q5D (n : Nat) : madeCells #[.slice none 0 0] n = (List.replicate n (Value.slice none 0 0)).toArray := by
 apply Array.ext_getElem?
 intro i
 by_cases h : i < n
 ·simp [madeCells,h,Nat.mod_one]
 ·simp [madeCells,h]
theorem q4a (l : Nat) (hb : l ≤ 1000) (w : World) :
  (Instr.makeSlice 60 (.int .i64 (l : Int)) (.int .i64 (l : Int))).run Try.prog w = .ok (.slice (some ⟨w.heap.size,0,none⟩) l l) (w.alloc (.cells (List.replicate l (Value.slice none 0 0)).toArray 23)) := by
 obtain ⟨i,hi,hz0,hz1,hz2⟩ := info_parts q47
 have := run_make (P := Try.prog) w 60 23 i (.slice none 0 0) Try.underlying60 hi hz0 .i64 .i64 (l : Int) (l : Int) (by omega) (by omega) (by rw [hz2]; omega) (by omega)
 rw [this,hz1,← q5D]
 simp only [Int.toNat_natCast,Nat.mul_one]
 rfl
theorem q5c (w : World) (n : Nat) : FbM (w.alloc (.cells (List.replicate n (Value.slice none 0 0)).toArray 23)) w.heap.size (List.replicate n (Value.slice none 0 0)) (List.replicate n []) := by
 refine ⟨(MapKept.heap_alloc w _).1,by simp,fun k v hv => ?_,fun k k' v v' b _ hv _ hb => ?_⟩
 ·rw [List.getElem?_replicate] at hv
  split at hv
  ·injection hv with hv
   subst hv
   have e : (List.replicate n ([] : List Nat)).getD k [] = [] := by rw [List.getD_eq_getElem?_getD,List.getElem?_replicate]; split <;> rfl
   rw [e]
   exact ⟨rfl,.inl ⟨rfl,rfl⟩⟩
  ·cases hv
 ·rw [List.getElem?_replicate] at hv
  split at hv
  ·injection hv with hv
   subst hv
   cases hb
  ·cases hv
theorem q2r (g n k : Nat) (hk : k < n) (w : World) : (Instr.indexAt 60 (.slice (some ⟨g,0,none⟩) n n) (.int .i64 (k : Int))).run Try.prog w = .ok (.pointer (some ⟨g,k,none⟩)) w := by
 have := qe (P := Try.prog) (T := 60) Try.underlying60 q4g (a := some ⟨g,0,none⟩) (cap := n) (n := n) (fun e => by cases e) k w hk
 simpa [adOf,q8] using this
def BkR (n K : Nat) (R : List (List Nat)) (w : World) (e : Ending) (w' : World) : Prop := Below w.heap.size w w' ∧ ∃ g vs F,e = .returned (.slice (some ⟨g,0,none⟩) n n) ∧ w.heap.size ≤ g ∧ FbM w' g vs F ∧ BkI n K R n 0 F
theorem q2U (aA : Option Addr) (cA : Nat) (aT : Option Addr) (cT n K : Nat) (bs : List Bool) (R : List (List Nat)) (w : World) (hM : MvS w aA cA aT cT n bs R) (hR : RowsP n K R) (hK : K ≤ 256) (h256 : n ≤ 256) :
  Calls Try.prog 49 #[.agg #[.slice aA n cA,.slice aT n cT]] w (BkR n K R w) := by
 obtain ⟨Z,eZ⟩ : ∃ Z,Z = BkR n K R w := ⟨_,rfl⟩
 have HZ : Hid (∀ w' vs F,Below w.heap.size w w' → FbM w' (w.heap.size + 1) vs F → BkI n K R n 0 F → Z (.returned (.slice (some ⟨w.heap.size + 1,0,none⟩) n n)) w') := fun w' vs F hb h1 h2 => by rw [eZ]; exact ⟨hb,_,vs,F,rfl,by omega,h1,h2⟩
 rw [← eZ]
 clear eZ
 have hmk := fun w => q4a n (by omega) w
 have hb0 := q6 w (.cells #[.slice aA n cA,.slice aT n cT] 62 (0,0))
 have HMV : Hid (MvG (w.alloc (.cells #[.slice aA n cA,.slice aT n cT] 62 (0,0))) w.heap.size (.slice aA n cA) (.slice aT n cT)) := qa w (.slice aA n cA) (.slice aT n cT)
 have m0 := HMV.out.c1
 obtain ⟨w2,hw2⟩ : ∃ w2,w2 = (w.alloc (.cells #[.slice aA n cA,.slice aT n cT] 62 (0,0))).alloc (.cells (List.replicate n (Value.slice none 0 0)).toArray 23) := ⟨_,rfl⟩
 have HF0 : Hid (FbM w2 (w.heap.size + 1) (List.replicate n (Value.slice none 0 0)) (List.replicate n [])) := by
  have := q5c (w.alloc (.cells #[.slice aA n cA,.slice aT n cT] 62 (0,0))) n
  show FbM _ _ _ _
  rw [hw2]; simpa using this
 have hbb : Below w.heap.size w w2 := by rw [hw2]; exact q5 hb0 (q6 _ _)
 have HB2 : Hid _ := hbb
 have m2 : w2.cell? ⟨w.heap.size,1,none⟩ = some (.slice aT n cT) := by rw [hw2]; exact (HMV.out.up (q6 _ _)).c1
 have HW2 : Hid _ := hw2
 have HHM : Hid _ := hM
 have HR : Hid _ := hR
 have HI0 : Hid (BkI n K R 0 0 (List.replicate n [])) := q4s
 clear hb0 hw2 hbb hM hR HMV
 generalize (List.replicate n (Value.slice none 0 0)).toArray = C at *
 go_enter Try.func49,Try.ntmps49
 go_wp2_with (rw [← HW2.out])
 clear m0 m2 hmk
 go_loopw [15] (fun i wr => ∃ (j : Nat) (vs : List Value) (F : List (List Nat)),j ≤ n ∧ i = .int .i64 (j : Int) ∧ Hid (Below w.heap.size w wr) ∧ Hid (FbM wr (w.heap.size + 1) vs F) ∧ Hid (BkI n K R j 0 F)) (fun i _ => n - (intOf i).toNat)
 case atStart => exact ⟨0,_,_,Nat.zero_le _,rfl,HB2,HF0,HI0⟩
 case round =>
  clear HB2 HF0 HI0
  obtain ⟨j,vs,F,hj,rfl,HB,HF,HI⟩ := hrel
  by_cases hlt : j < n
  ·obtain ⟨rg,ro,rz,ra,rl,rc,hrx,hrc,hrz⟩ := HHM.out.row hlt
   have hrc := q9 hrc HB.out
   have hrl : rl = K := by have := hrz.hlen; rw [List.length_map,HR.out.row j hlt] at this; exact this.symm
   subst hrl
   have HRZ : Hid (ZSl w ra rl rc ((R.getD j []).map Int.ofNat)) := hrz
   clear hrz
   go_wp2
   clear hrx hrc
   go_loopw [22] (fun i wy => ∃ (k : Nat) (vs : List Value) (F : List (List Nat)),k ≤ rl ∧ i = .int .i64 (k : Int) ∧ Hid (Below w.heap.size w wy) ∧ Hid (FbM wy (w.heap.size + 1) vs F) ∧ Hid (BkI n rl R j k F)) (fun i _ => rl - (intOf i).toNat)
   case atStart => exact ⟨0,vs,F,Nat.zero_le _,rfl,HB,HF,HI⟩
   case round =>
    clear HB HF HI
    obtain ⟨k,vs,F,hk,rfl,HB,HF,HI⟩ := hrel
    by_cases hkK : k < rl
    ·have ik1 := fun w' => HRZ.out.idx rl k w' hkK (Nat.le_refl _)
     have ck1 := (HRZ.out.up HB.out).cell k hkK
     rw [qi (by rw [HR.out.row j hlt]; exact hkK)] at ck1
     have ht := HR.out.lt j k hlt hkK
     change wr.cell? _ = some (.int .i64 ((trP R j k : Nat) : Int)) at ck1
     have HPU : Hid _ := HI.out.put HR.out hlt hkK
     have hfw := HI.out.few (trP R j k) ht
     have hFl := HI.out.len
     generalize trP R j k = t at *
     obtain ⟨va,vc,hv,ct,ho,ft⟩ := HF.out.at (t := t) (by omega)
     have hixt := fun w' => q2r (w.heap.size + 1) n t ht w'
     have hfew : (F.getD t []).length ≤ 70000 := by
      have h1 : j * rl ≤ 255 * 256 := Nat.mul_le_mul (by omega) hK
      omega
     have HV : Hid _ := hv
     have HFL : Hid _ := hFl
     obtain ⟨L,hL⟩ : ∃ L,L = (F.getD t []).length := ⟨_,rfl⟩
     rw [← hL] at ct ho hv hfew HV
     have HO6 : Hid ((wr.alloc (.cells #[.int .i64 (j : Int)] 3)).ownsRow (w.heap.size + 1 + 1) 3 1 (.slice va L vc) L (inV (F.getD t []))) := World.ownsRow.alloc ho _
     have hc6 : (wr.alloc (.cells #[.int .i64 (j : Int)] 3)).cell? ⟨wr.heap.size,0,none⟩ = some (.int .i64 (j : Int)) := q7 (MapKept.heap_alloc wr _).1 0
     have hb6 : w.heap.size + 1 + 1 ≤ (wr.alloc (.cells #[.int .i64 (j : Int)] 3)).heap.size := by
      have := HF.out.lt
      simp; omega
     have hQ26 : L + 1 ≤ 2000000 := by omega
     have hft7 : ∀ w7,(wr.alloc (.cells #[.int .i64 (j : Int)] 3)).grownBy w7 (Value.slice va L vc).ownBlock → w7.cell? ⟨w.heap.size + 1,t,none⟩ = some (.slice va L vc) ∧ w7.frozen? ⟨w.heap.size + 1,t,none⟩ = false := fun w7 hg => by
      have hlt := HF.out.lt
      have e : w7.heap[w.heap.size + 1]? = some (.cells vs.toArray 23 (0,0)) := by
       rw [hg.block _ (by simp; omega) (fun e => by have := qf ho _ e.symm; omega)]
       exact ((q6 wr _).block _ hlt).trans HF.out.blk
      refine ⟨?_,frozen_of_row w7 _ t _ _ e⟩
      rw [q7 e]; simpa using HV.out
     have HFT : Hid _ := hft7
     have HL : Hid _ := hL
     clear hv ho hft7 HI hFl hfw hL
     generalize adOf ra k = ad3 at *
     obtain ⟨b1g,b1o,b1z⟩ := ad3
     go_wp2_with (at_builtin; refine q2K rfl _ _ rfl (w.heap.size + 1 + 1) _ L ((F.getD t []).map Int.ofNat) rfl ?_ wr.heap.size (j : Int) rfl ?_ hQ26 ?_ ?_)
     ·exact HO6.out
     ·exact hc6
     ·exact hb6
     intro g7 c7 w7 hq7 hg7 hl7
     obtain ⟨cf,ff⟩ := HFT.out w7 hg7
     have HF7 : Hid (FbM (w7.setCell ⟨w.heap.size + 1,t,none⟩ (.slice (some ⟨g7,0,none⟩) (L + 1) c7)) (w.heap.size + 1) (vs.set t (.slice (some ⟨g7,0,none⟩) (L + 1) c7)) (F.set t (F.getD t [] ++ [j]))) := by
      have := HF.out.put (t := t) (s := j) (by rw [HFL.out]; exact ht) HV.out (o := .cells #[.int .i64 (j : Int)] 3) (g := g7) (c := c7) (w7 := w7)
      rw [← HL.out] at this
      exact this (by rw [inV,List.map_append,List.map_append,List.map_map]; simpa using hq7) hg7 (by simpa using hl7)
     have HB7 : Hid (Below w.heap.size w (w7.setCell ⟨w.heap.size + 1,t,none⟩ (.slice (some ⟨g7,0,none⟩) (L + 1) c7))) := by
      have h1 := HB.out.alloc HB.out.size (.cells #[.int .i64 (j : Int)] 3)
      exact (h1.grown hg7 h1.size (fun q e => by have := qf HO6.out q e; omega)).setCell (by dsimp only; omega) _
     clear hq7 hg7 hl7 HFT HO6 hc6 hb6 HF HB HV
     go_wp2
     go_roundw
     case rel => exact ⟨k + 1,_,_,by omega,by go_num,HB7,HF7,HPU⟩
     case measure => simp [intOf]; omega
    ·obtain rfl : k = rl := by omega
     have HI3 : Hid _ := HI.out.next
     clear HI HZ
     go_wp2
     go_roundw
     case rel => exact ⟨j + 1,vs,F,by omega,by go_num,HB,HF,HI3⟩
     case measure => simp [intOf]; omega
  ·obtain rfl : j = n := by omega
   have HE : Hid _ := HZ.out wr vs F HB.out HF.out HI.out
   clear HZ HB HF HI
   go_wp2
   exact HE.out
end Go.Proofs.Ytfbefloajnkhiaa
