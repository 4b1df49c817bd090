/- Texts of the proof, put together: what it uses. -/
import Derived.Deep.RegionLaw
import Derived.Shelf.Bits.Mul64
import Derived.BigQuiet
import Derived.Test.YtjpggahiddhanaaY00
import Derived.Test.YtjpggahiddhanaaY02
import Derived.Test.YtjpggahiddhanaaY04
import Derived.Test.YtjpggahiddhanaaY05
import Derived.Test.YtjpggahiddhanaaY07
import Derived.Test.YtjpggahiddhanaaY09
set_option maxRecDepth 100000
set_option maxHeartbeats 16000000
namespace Go.Proofs.Ytjpggahiddhanaa
open Go.RowKit Go.Maps
theorem q41 (x y : Nat) (hx : x < 18446744073709551616) (hy : y < 18446744073709551616) (w : World) :
  Calls Try.prog 84 #[.int .u64 x,.int .u64 y] w fun e w' => e = .returned (.tuple #[.int .u64 ((x * y / 18446744073709551616 : Nat) : Int),.int .u64 ((x * y % 18446744073709551616 : Nat) : Int)]) ∧ w' = w := by
 obtain ⟨bd,bt,bw,hhi⟩ := Lib.mul64_hi x y hx hy
 have ba := Lib.half_mul_le (a := x / 4294967296) (b := y / 4294967296) (by omega) (by omega)
 have bb := Lib.half_mul_le (a := x / 4294967296) (b := y % 4294967296) (by omega) (by omega)
 have bc := Lib.half_mul_le (a := x % 4294967296) (b := y / 4294967296) (by omega) (by omega)
 have ba' : x / 4294967296 * (y / 4294967296) < 18446744073709551616 := by omega
 have bb' : x / 4294967296 * (y % 4294967296) < 18446744073709551616 := by omega
 have bc' : x % 4294967296 * (y / 4294967296) < 18446744073709551616 := by omega
 have bh1 : x / 4294967296 * (y / 4294967296) + (x / 4294967296 * (y % 4294967296) + x % 4294967296 * (y % 4294967296) / 4294967296) / 4294967296 < 18446744073709551616 := by omega
 have bh : x / 4294967296 * (y / 4294967296) + (x / 4294967296 * (y % 4294967296) + x % 4294967296 * (y % 4294967296) / 4294967296) / 4294967296 + ((x / 4294967296 * (y % 4294967296) + x % 4294967296 * (y % 4294967296) / 4294967296) % 4294967296 + x % 4294967296 * (y / 4294967296)) / 4294967296 < 18446744073709551616 := by omega
 go_enter Try.func84,Try.ntmps84
 go_wp2
 simp only [Mul64.maskN x hx,Mul64.maskN y hy,Mul64.divN,Mul64.mulN,Mul64.addN,Mul64.wrapN _ bd,Mul64.wrapN _ bb',Mul64.wrapN _ bt,Mul64.maskN _ bt,Mul64.wrapN _ bc',Mul64.wrapN _ bw,Mul64.wrapN _ ba',Mul64.wrapN _ bh1,Mul64.wrapN _ bh,Mul64.wrapM (x * y)]
 rw [hhi]
 go_ret2
 exact ⟨rfl,rfl⟩
theorem q4w (n : Nat) (hn : n ≤ 256) (w : World) :
  Calls Try.prog 80 #[.int .u64 1,.int .u64 (n : Int)] w fun e w' => e = .returned (.tuple #[.int .u64 0,.int .u64 (n : Int)]) ∧ w' = w := by
 have c64 : Calls Try.prog 84 #[.int .u64 1,.int .u64 (n : Int)] w fun e w' => e = .returned (.tuple #[.int .u64 0,.int .u64 (n : Int)]) ∧ w' = w := by
  refine (q41 1 n (by omega) (by omega) w).mono fun e w' ⟨h1,h2⟩ => ⟨?_,h2⟩
  rw [h1,Nat.one_mul,Nat.div_eq_of_lt (by omega),Nat.mod_eq_of_lt (by omega)]
  rfl
 go_enter Try.func80,Try.ntmps80
 go_wp2_with (go_at_call 84; refine c64.mono ?_; rintro e w' ⟨rfl,hw⟩; rw [hw])
 go_ret2
 exact ⟨rfl,rfl⟩
def repL (n k : Nat) : List Int := List.replicate k (-1) ++ List.replicate (n - k) 0
theorem q3o {n k : Nat} (h : k ≤ n) : (repL n k).length = n := by simp [repL]; omega
theorem q4Y {n k i : Nat} (h : i < k) : (repL n k).getD i 0 = -1 := by
 rw [repL,List.getD_eq_getElem?_getD,List.getElem?_append_left (by simpa using h)]
 simp [h]
theorem q4r (n : Nat) : repL n 0 = List.replicate n 0 := by simp [repL]
theorem q4G (n : Nat) : repL n n = List.replicate n (-1) := by simp [repL]
theorem q4H {n k j : Nat} : (repL n k).take k ++ List.replicate j (-1) ++ (repL n k).drop (k + j) = repL n (k + j) := by
 have e1 : (repL n k).take k = List.replicate k (-1) := by
  rw [repL,List.take_append_of_le_length (by simp)]; simp
 have e2 : (repL n k).drop (k + j) = List.replicate (n - (k + j)) 0 := by
  rw [repL,List.drop_append]
  simp
  omega
 rw [e1,e2,List.replicate_append_replicate]; rfl
theorem q3x (x : Addr) (len cap hi : Nat) (h : hi ≤ cap) (w : World) : (Instr.sliceAt 23 (.slice (some x) len cap) none (some (.int .i64 (hi : Int))) none).run Try.prog w = .ok (.slice (some x) hi cap) w := by
 simp [Instr.sliceAt,Instr.slice,run_underlying Try.underlying23,q19 q8,go_sem,h]
theorem q2E (g len cap lo : Nat) (h : lo ≤ len) (hc : lo < cap) (w : World) : (Instr.sliceAt 23 (.slice (some ⟨g,0,none⟩) len cap) (some (.int .i64 (lo : Int))) none none).run Try.prog w = .ok (.slice (some ⟨g,lo,none⟩) (len - lo) (cap - lo)) w := by
 have hne : ¬ cap = lo := by omega
 simp [Instr.sliceAt,Instr.slice,run_underlying Try.underlying23,q19 q8,go_sem,h,hne,q9]
theorem q2f (b n : Nat) (w : World) (hb : RowI w 3 b [-1]) (h1 : 0 < n) (h256 : n ≤ 256) :
  Calls Try.prog 70 #[.slice (some ⟨b,0,none⟩) 1 1,.int .i64 (n : Int)] w fun e w' => Below w.heap.size w w' ∧ e = .returned (.slice (some ⟨w.heap.size,0,none⟩) n n) ∧ RowI w' 3 w.heap.size (List.replicate n (-1)) := by
 obtain ⟨Z,eZ⟩ : ∃ Z : Ending → World → Prop,Z = fun e w' => Below w.heap.size w w' ∧ e = .returned (.slice (some ⟨w.heap.size,0,none⟩) n n) ∧ RowI w' 3 w.heap.size (List.replicate n (-1)) := ⟨_,rfl⟩
 have HZ : Hid (∀ w',Below w.heap.size w w' → RowI w' 3 w.heap.size (repL n n) → Z (.returned (.slice (some ⟨w.heap.size,0,none⟩) n n)) w') := fun w' h1 h2 => by rw [eZ]; exact ⟨h1,rfl,by rw [← q4G]; exact h2⟩
 rw [← eZ]
 clear eZ
 have jm := q4w n h256 w
 have hmk := q1q n (n : Int) rfl (by omega) w
 have hc0 := hb.cell (i := 0) (by simp)
 obtain ⟨w2,hw2⟩ : ∃ w2,w2 = w.alloc (.cells ((List.replicate n (0 : Int)).map (Value.int .i64)).toArray 3) := ⟨_,rfl⟩
 have hR2 : RowI w2 3 w.heap.size (repL n 0) := by rw [hw2,q4r]; exact (MapKept.heap_alloc w _).1
 have hB2 : Below w.heap.size w w2 := by rw [hw2]; exact q7 w _
 have hcopy : ∀ (wx : World) (k j x c : Nat),RowI wx 3 w.heap.size (repL n k) → (∀ i,i < j → wx.cell? ⟨x,i,none⟩ = some (.int .i64 (-1))) → j = min c (n - k) → k + j ≤ n → ∀ (ty cp cq : Nat),(Builtin.copy_ #[23,23] ty #[.slice (some ⟨w.heap.size,k,none⟩) (n - k) cp,.slice (some ⟨x,0,none⟩) c cq]).run Try.prog wx = .ok (.int .i64 (j : Int)) (wx.setRow w.heap.size ((repL n (k + j)).map (Value.int .i64)).toArray) := fun wx k j x c hR hc hj hkj ty cp cq => by
  have := run_copy_row (P := Try.prog) wx 23 23 ty 3 w.heap.size k (n - k) cp ⟨x,0,none⟩ c cq _ 3 ((List.replicate j (-1 : Int)).map (Value.int .i64)) Try.underlying23 q8 hR (by rw [List.length_map,List.length_replicate]; exact hj) (fun i v hv => by
   rw [List.getElem?_map,List.getElem?_replicate] at hv
   split at hv
   ·rename_i hi
    simp at hv
    rw [← hv,q9,Nat.zero_add]; exact hc i hi
   ·simp at hv) (by simp [q3o (show k ≤ n by omega)]; omega) (fun v hv => by simp at hv; obtain ⟨_,rfl⟩ := hv; rfl)
  rw [this]
  have e : (((repL n k).map (Value.int .i64)).toArray.toList.take k ++ (List.replicate j (-1 : Int)).map (Value.int .i64) ++ ((repL n k).map (Value.int .i64)).toArray.toList.drop (k + ((List.replicate j (-1 : Int)).map (Value.int .i64)).length)) = (repL n (k + j)).map (Value.int .i64) := by
   rw [List.length_map,List.length_replicate]
   show ((repL n k).map (Value.int .i64)).take k ++ _ ++ ((repL n k).map (Value.int .i64)).drop (k + j) = _
   rw [← List.map_take,← List.map_drop,← List.map_append,← List.map_append,q4H]
  rw [e]
  simp [goInt]
 have HC : Hid _ := hcopy
 have hcp0 := hcopy w2 0 1 b 1 hR2 (fun i hi => by
  obtain rfl : i = 0 := by omega
  have := hB2.cell (p := ⟨b,0,none⟩) hb.lt
  rw [this,hc0]; rfl) (by omega) (by omega)
 rw [Nat.zero_add,Nat.sub_zero] at hcp0
 obtain ⟨w3,hw3⟩ : ∃ w3,w3 = w2.setRow w.heap.size ((repL n 1).map (Value.int .i64)).toArray := ⟨_,rfl⟩
 have HR3 : Hid (RowI w3 3 w.heap.size (repL n 1)) := by rw [hw3]; exact setRow_heap _ _ _ _ _ _ hR2
 have HB3 : Hid (Below w.heap.size w w3) := by rw [hw3]; exact qv hB2 (Nat.le_refl _) _
 rw [← hw3] at hcp0
 rw [← hw2] at hmk
 clear hw2 hw3 hR2 hB2 hcopy hc0 hb
 go_enter Try.func70,Try.ntmps70
 go_wp2_with (go_at_call 80; refine jm.mono ?_; rintro e w' ⟨rfl,hw⟩; rw [hw])
 clear jm hmk hcp0
 go_loopw [8] (fun i wr => ∃ k : Nat,0 < k ∧ k ≤ n ∧ i = .int .i64 (k : Int) ∧ Hid (Below w.heap.size w wr) ∧ Hid (RowI wr 3 w.heap.size (repL n k))) (fun i _ => n - (intOf i).toNat)
 case atStart => exact ⟨1,by omega,by omega,rfl,HB3,HR3⟩
 case round =>
  clear HB3 HR3
  obtain ⟨k,h0,hk,rfl,HB,HR⟩ := hrel
  by_cases hlt : k < n
  ·obtain ⟨j,hj⟩ : ∃ j,j = min k (n - k) := ⟨_,rfl⟩
   have hj1 : 0 < j ∧ k + j ≤ n ∧ j ≤ k := by omega
   have hcell : ∀ i,i < j → wr.cell? ⟨w.heap.size,i,none⟩ = some (.int .i64 (-1)) := fun i hi => by
    rw [HR.out.cell (by rw [q3o hk]; omega),q4Y (by omega)]
   have h1 := HC.out wr k j w.heap.size k HR.out hcell hj hj1.2.1
   have h2 := HC.out wr.drew k j w.heap.size k HR.out hcell hj hj1.2.1
   have hf := fun w' => q2E w.heap.size n n k hk hlt w'
   have ht := fun w' => q3x ⟨w.heap.size,0,none⟩ n n k hk w'
   obtain ⟨J,hJ⟩ : ∃ J,J = k + j := ⟨_,rfl⟩
   have hwr : IntKind.i64.wrap ((k : Int) + (j : Int)) = (J : Int) := by rw [IntKind.wrap_i64]; omega
   have hwr2 : (k : Int) + (j : Int) = (J : Int) := by omega
   have hJ2 : 0 < J ∧ J ≤ n ∧ k < J := by omega
   rw [← hJ] at h1 h2
   have HR4 : Hid (∀ q,RowI ((wr.setRow w.heap.size ((repL n J).map (Value.int .i64)).toArray).drewN q) 3 w.heap.size (repL n J)) := fun q => setRow_heap _ _ _ _ _ _ HR.out
   have HB4 : Hid (∀ q,Below w.heap.size w ((wr.setRow w.heap.size ((repL n J).map (Value.int .i64)).toArray).drewN q)) := fun q => below_drewN (qv HB.out (Nat.le_refl _) _) q
   clear hj hcell HC HR HB hj1 hJ
   generalize ((repL n J).map (Value.int .i64)).toArray = C at *
   generalize n - k = nk at *
   go_wp2
   go_region
   go_wp2
   go_roundw
   case rel => exact ⟨J,hJ2.1,hJ2.2.1,rfl,by first | exact HB4.out 0 | exact HB4.out 1 | exact HB4.out _,by first | exact HR4.out 0 | exact HR4.out 1 | exact HR4.out _⟩
   case measure => simp [intOf]; omega
  ·obtain rfl : k = n := by omega
   have HE : Hid _ := HZ.out wr HB.out HR.out
   clear HZ HB HR HC
   go_wp2
   exact HE.out
theorem q4l {Q : List (Nat × List Nat)} {s : Nat} {t : List Nat} (hs : s ∉ Q.map (·.1)) (x : Nat) : lenQ (Q ++ [(s,t)]) x = if s = x then (t.length : Int) else lenQ Q x := by
 unfold lenQ
 rw [List.find?_append]
 by_cases e : s = x
 ·subst e
  rw [List.find?_eq_none.2 (fun y hy => by simp only [beq_iff_eq]; exact fun h => hs (List.mem_map.2 ⟨y,hy,h⟩))]
  simp
 ·rw [if_neg e]
  cases hq : Q.find? (fun y => y.1 == x) with
  | some y => rfl
  | none => simp [e]
def lensL (n : Nat) (Q : List (Nat × List Nat)) : List Int := (List.range n).map (lenQ Q)
theorem qE (n : Nat) (Q : List (Nat × List Nat)) : (lensL n Q).length = n := by simp [lensL]
theorem q15 {n : Nat} (Q : List (Nat × List Nat)) {s : Nat} (h : s < n) : (lensL n Q).getD s 0 = lenQ Q s := by simp [lensL,List.getD_eq_getElem?_getD,h]
theorem q49 {n : Nat} {Q : List (Nat × List Nat)} {s : Nat} {t : List Nat} (hs : s ∉ Q.map (·.1)) : lensL n (Q ++ [(s,t)]) = (lensL n Q).set s (t.length : Int) := by
 apply List.ext_getElem?
 intro i
 rw [List.getElem?_set]
 by_cases hi : i < n
 ·have e1 : (lensL n (Q ++ [(s,t)]))[i]? = some (lenQ (Q ++ [(s,t)]) i) := by simp [lensL,hi]
  have e2 : (lensL n Q)[i]? = some (lenQ Q i) := by simp [lensL,hi]
  rw [e1,e2,q4l hs]
  by_cases e : s = i
  ·subst e
   rw [if_pos rfl,if_pos rfl,if_pos (by rw [qE]; exact hi)]
  ·rw [if_neg e,if_neg e]
 ·have e1 : (lensL n (Q ++ [(s,t)]))[i]? = none := by simp [lensL,hi]
  have e2 : (lensL n Q)[i]? = none := by simp [lensL,hi]
  rw [e1,e2]
  by_cases e : s = i
  ·rw [if_pos e,if_neg (by rw [qE]; omega)]
  ·rw [if_neg e]
theorem qO (g n k : Nat) (hk : k < n) (w : World) : (Instr.indexAt 23 (.slice (some ⟨g,0,none⟩) n n) (.int .i64 (k : Int))).run Try.prog w = .ok (.pointer (some ⟨g,k,none⟩)) w := by
 have := qj (P := Try.prog) (T := 23) Try.underlying23 q8 (a := some ⟨g,0,none⟩) (cap := n) (n := n) (fun e => by cases e) k w hk
 simpa [adOf,q9] using this
theorem q4J {w : World} {e : TypeId} {g : Nat} {cur : List Int} (h : RowI w e g cur) (i : Nat) (z : Int) : RowI (w.setCell ⟨g,i,none⟩ (.int .i64 z)) e g (cur.set i z) := by
 have := heap_setCell_same w g i _ _ (.int .i64 z) h
 unfold RowI
 rw [this,List.map_set]
 simp
theorem q2y {w : World} {ops : Array Oper} {rest : List Oper} {o : Oper} {a : Act} {Q : Exit → Act → World → Prop} (hgd : o.guard = none) (s x : Operand)
  (ho : o.op = .call { callee := .builtin .append,args := #[s,x],argTypes := #[23,23] }) (base : Nat)
  (v : Value) (n : Nat) (zs : List Int) (hs : a.eval s = v) (hown : w.ownsRow base 3 1 v n (zs.map (Value.int .i64))) (g' : Nat) (z : Int) (hx : a.eval x = .slice (some ⟨g',0,none⟩) 1 1) (hc : w.cell? ⟨g',0,none⟩ = some (.int .i64 z))
  (hn : n + 1 ≤ 2000000) (hbase : base ≤ w.heap.size)
  (h : ∀ g c w',w'.ownsRow base 3 1 (.slice (some ⟨g,0,none⟩) (n + 1) c) (n + 1) ((zs ++ [z]).map (Value.int .i64)) → w.grownBy w' v.ownBlock → (v.ownBlock = some g ∨ g = w.heap.size) → wpList Try.prog ops Q rest (a.put o.dst (.slice (some ⟨g,0,none⟩) (n + 1) c)) w') : wpList Try.prog ops Q (o :: rest) a w := by
 obtain ⟨i,hi,hz0,hz1,hz2⟩ := info_parts qz
 refine wpList_append_lies w hgd s x 23 ho base 3 i _ 1 8 Try.underlying23 hi hz0 hz1 hz2 rfl (by decide) v n _ hs hown ⟨g',0,none⟩ 1 1 [.int .i64 z] hx rfl ?_ (fun u hu => by simp at hu; subst hu; rfl) (by decide) (by unfold maxLen; omega) (by omega) hbase _ rfl ?_
 ·intro j u hj
  match j with
  | 0 => simp at hj; rw [← hj,q9]; exact hc
  | j + 1 => simp at hj
 ·intro g c w' h1 h2 h3 _
  exact h g c w' (by rw [List.map_append]; exact h1) h2 h3
abbrev inV (l : List Nat) : List Value := (l.map Int.ofNat).map (Value.int .i64)
structure FbM (wr : World) (gf : Nat) (vs : List Value) (F : List (List Nat)) : Prop where
 blk : wr.heap[gf]? = some (.cells vs.toArray 23 (0,0))
 len : vs.length = F.length
 own : ∀ (k : Nat) (v : Value),vs[k]? = some v → wr.ownsRow (gf + 1) 3 1 v (F.getD k []).length (inV (F.getD k []))
 ne : ∀ (k k' : Nat) (v v' : Value) (b : Nat),k ≠ k' → vs[k]? = some v → vs[k']? = some v' → v.ownBlock = some b → v'.ownBlock ≠ some b
theorem FbM.lt {wr : World} {gf : Nat} {vs : List Value} {F : List (List Nat)} (h : FbM wr gf vs F) : gf < wr.heap.size := (Array.getElem?_eq_some_iff.1 h.blk).1
theorem FbM.up {wr w' : World} {gf : Nat} {vs : List Value} {F : List (List Nat)} (h : FbM wr gf vs F) (hb : Below wr.heap.size wr w') : FbM w' gf vs F := ⟨(hb.block gf h.lt).trans h.blk,h.len,fun k v hv => qF (h.own k v hv) hb,h.ne⟩
theorem FbM.at {wr : World} {gf : Nat} {vs : List Value} {F : List (List Nat)} (h : FbM wr gf vs F) {t : Nat} (ht : t < F.length) : ∃ a c,vs[t]? = some (.slice a (F.getD t []).length c) ∧ wr.cell? ⟨gf,t,none⟩ = some (.slice a (F.getD t []).length c) ∧ wr.ownsRow (gf + 1) 3 1 (.slice a (F.getD t []).length c) (F.getD t []).length (inV (F.getD t [])) ∧ wr.frozen? ⟨gf,t,none⟩ = false := by
 have hl := h.len
 have hv : vs[t]? = some vs[t] := List.getElem?_eq_getElem (by omega)
 obtain ⟨a,c,e⟩ := qs (h.own t _ hv)
 have ho := h.own t _ hv
 rw [e] at hv ho
 refine ⟨a,c,hv,?_,ho,frozen_of_row wr gf t _ _ h.blk⟩
 rw [q6 h.blk]
 simpa using hv
theorem FbM.put {wr w7 : World} {gf : Nat} {vs : List Value} {F : List (List Nat)} (h : FbM wr gf vs F) {t s : Nat} (ht : t < F.length) {v : Value} (hv : vs[t]? = some v) {o : Obj} {g c : Nat}
  (hq : w7.ownsRow (gf + 1) 3 1 (.slice (some ⟨g,0,none⟩) ((F.getD t []).length + 1) c) ((F.getD t []).length + 1) (inV (F.getD t [] ++ [s]))) (hg : (wr.alloc o).grownBy w7 v.ownBlock) (hl : v.ownBlock = some g ∨ g = (wr.alloc o).heap.size) :
  FbM (w7.setCell ⟨gf,t,none⟩ (.slice (some ⟨g,0,none⟩) ((F.getD t []).length + 1) c)) gf (vs.set t (.slice (some ⟨g,0,none⟩) ((F.getD t []).length + 1) c)) (F.set t (F.getD t [] ++ [s])) := by
 have hlen := h.len
 have hgf := h.lt
 have hsz : (wr.alloc o).heap.size = wr.heap.size + 1 := by simp
 have hvo := h.own t v hv
 have hge := qw hvo
 have keep : ∀ b,b < wr.heap.size → v.ownBlock ≠ some b → w7.heap[b]? = wr.heap[b]? := fun b hb hne => by
  rw [hg.block b (by omega) (fun e => hne e.symm)]
  exact (q7 wr o).block b hb
 have hg1 : gf + 1 ≤ g := by
  rcases hl with hl | hl
  ·exact hge g hl
  ·omega
 have hb7 : w7.heap[gf]? = some (.cells vs.toArray 23 (0,0)) := (keep gf hgf (fun e => by have := hge gf e; omega)).trans h.blk
 refine ⟨?_,by simp [hlen],fun k u hu => ?_,fun k k' u u' b hkk hu hu' hb => ?_⟩
 ·have := heap_setCell_same w7 gf t _ _ (.slice (some ⟨g,0,none⟩) ((F.getD t []).length + 1) c) hb7
  rw [this]
  simp
 ·rw [List.getElem?_set] at hu
  by_cases e : t = k
  ·subst e
   rw [if_pos rfl,if_pos (by omega)] at hu
   injection hu with hu
   subst hu
   rw [qY ht,if_pos rfl,List.length_append,List.length_singleton]
   exact qT hq (by dsimp only; omega) _
  ·rw [if_neg e] at hu
   rw [qY ht,if_neg e]
   have ho := h.own k u hu
   have hgk := qw ho
   refine qT (qf ho (fun q hq1 => keep q (ho.lt q hq1).2 (h.ne k t u v q (Ne.symm e) hu hv hq1))) (by dsimp only; omega) _
 ·have hold : ∀ {k : Nat} {u : Value} {b : Nat},t ≠ k → vs[k]? = some u → u.ownBlock = some b → b < wr.heap.size := fun {k u b} _ hu hb => ((h.own k u hu).lt b hb).2
  rw [List.getElem?_set] at hu hu'
  by_cases e : t = k
  ·subst e
   rw [if_pos rfl,if_pos (by omega)] at hu
   injection hu with hu
   subst hu
   have e' : t ≠ k' := hkk
   rw [if_neg e'] at hu'
   injection hb with hb
   dsimp only at hb
   subst hb
   intro hb'
   rcases hl with hl | hl
   ·exact h.ne t k' v u' g hkk hv hu' hl hb'
   ·have := hold e' hu' hb'; omega
  ·rw [if_neg e] at hu
   by_cases e' : t = k'
   ·subst e'
    rw [if_pos rfl,if_pos (by omega)] at hu'
    injection hu' with hu'
    subst hu'
    intro hb'
    injection hb' with hb'
    dsimp only at hb'
    subst hb'
    rcases hl with hl | hl
    ·exact h.ne t k v u g (Ne.symm hkk) hv hu hl hb
    ·have := hold e hu hb; omega
   ·rw [if_neg e'] at hu'
    exact h.ne k k' u u' b hkk hu hu' hb
theorem q3W : (Try.prog.info? 23).map (fun i => (i.zero,i.size,i.bytes)) = some (some (.slice none 0 0),1,24) := by kernel_rfl
theorem q45 : (Try.prog.info? 23).map (·.size) = some 1 := by kernel_rfl
theorem q59 (n : Nat) : madeCells #[.slice none 0 0] n = (List.replicate n (Value.slice none 0 0)).toArray := by
 apply Array.ext_getElem?
 intro i
 by_cases h : i < n
 ·simp [madeCells,h,Nat.mod_one]
 ·simp [madeCells,h]
theorem q40 (l : Nat) (hb : l ≤ 1000) (w : World) :
  (Instr.makeSlice 96 (.int .i64 (l : Int)) (.int .i64 (l : Int))).run Try.prog w = .ok (.slice (some ⟨w.heap.size,0,none⟩) l l) (w.alloc (.cells (List.replicate l (Value.slice none 0 0)).toArray 23)) := by
 obtain ⟨i,hi,hz0,hz1,hz2⟩ := info_parts q3W
 have := run_make (P := Try.prog) w 96 23 i (.slice none 0 0) Try.underlying96 hi hz0 .i64 .i64 (l : Int) (l : Int) (by omega) (by omega) (by rw [hz2]; omega) (by omega)
 rw [this,hz1,← q59]
 simp only [Int.toNat_natCast,Nat.mul_one]
 rfl
theorem q4P (w : World) (n : Nat) : FbM (w.alloc (.cells (List.replicate n (Value.slice none 0 0)).toArray 23)) w.heap.size (List.replicate n (Value.slice none 0 0)) (List.replicate n []) := by
 refine ⟨(MapKept.heap_alloc w _).1,by simp,fun k v hv => ?_,fun k k' v v' b _ hv _ hb => ?_⟩
 ·rw [List.getElem?_replicate] at hv
  split at hv
  ·injection hv with hv
   subst hv
   have e : (List.replicate n ([] : List Nat)).getD k [] = [] := by rw [List.getD_eq_getElem?_getD,List.getElem?_replicate]; split <;> rfl
   rw [e]
   exact ⟨rfl,.inl ⟨rfl,rfl⟩⟩
  ·cases hv
 ·rw [List.getElem?_replicate] at hv
  split at hv
  ·injection hv with hv
   subst hv
   cases hb
  ·cases hv
theorem q2r (g n k : Nat) (hk : k < n) (w : World) : (Instr.indexAt 96 (.slice (some ⟨g,0,none⟩) n n) (.int .i64 (k : Int))).run Try.prog w = .ok (.pointer (some ⟨g,k,none⟩)) w := by
 have := qj (P := Try.prog) (T := 96) Try.underlying96 q45 (a := some ⟨g,0,none⟩) (cap := n) (n := n) (fun e => by cases e) k w hk
 simpa [adOf,q9] using this
def BkRl (n K : Nat) (R : List (List Nat)) (w : World) (e : Ending) (w' : World) : Prop := Below w.heap.size w w' ∧ ∃ g vs F,e = .returned (.slice (some ⟨g,0,none⟩) n n) ∧ w.heap.size ≤ g ∧ FbM w' g vs F ∧ BkI n K R n 0 F
theorem q3h {l : List Nat} {m : Nat} (h : m < l.length) : l[m]? = some (l.getD m 0) := by rw [List.getD_eq_getElem?_getD,List.getElem?_eq_getElem h]; rfl
theorem q4i {l : List Nat} {m : Nat} (h : m < l.length) : l.getD m 0 ∈ l := List.mem_of_getElem? (q3h h)
theorem FbM.zsl {wr : World} {gf : Nat} {vs : List Value} {F : List (List Nat)} (h : FbM wr gf vs F) {t : Nat} (ht : t < F.length) : ∃ a c,wr.cell? ⟨gf,t,none⟩ = some (.slice a (F.getD t []).length c) ∧ ZSl wr a (F.getD t []).length c ((F.getD t []).map Int.ofNat) := by
 obtain ⟨a,c,_,h2,h3,_⟩ := h.at ht
 obtain ⟨a',c',e,hz,_⟩ := qm h3 Try.underlying23 q8
 injection e with e1 _ e3
 subst e1; subst e3
 exact ⟨a,c,h2,hz⟩
theorem q16 {w : World} {base e n : Nat} {v : Value} {xs : List Value} (h : w.ownsRow base e 1 v n xs) (hn : 0 < n) : ∃ g c,v = .slice (some ⟨g,0,none⟩) n c ∧ base ≤ g ∧ g < w.heap.size := by
 rcases h.2 with ⟨rfl,h0⟩ | ⟨g,cap,cur,rfl,h1,h2,_⟩
 ·omega
 ·exact ⟨g,cap,rfl,h1,(Array.getElem?_eq_some_iff.1 h2).1⟩
structure BkN (wy : World) (vs : List Value) (br c K : Nat) (row : List Nat) : Prop where
 own : wy.ownsRow 0 3 1 (.slice (some ⟨br,0,none⟩) K c) K (inV row)
 ne : ∀ (k : Nat) (v : Value),vs[k]? = some v → v.ownBlock ≠ some br
theorem BkN.put {wr w7 : World} {vs : List Value} {br c K : Nat} {row : List Nat} (h : BkN wr vs br c K row) {gf t : Nat} (hgf : gf ≠ br) {v : Value} (hv : vs[t]? = some v) {o : Obj} {g m d : Nat} (hg : (wr.alloc o).grownBy w7 v.ownBlock) (hl : v.ownBlock = some g ∨ g = (wr.alloc o).heap.size) (u : Value) (hu : u = .slice (some ⟨g,0,none⟩) m d) :
  BkN (w7.setCell ⟨gf,t,none⟩ u) (vs.set t u) br c K row := by
 have hlt := (h.own.lt br rfl).2
 have hsz : (wr.alloc o).heap.size = wr.heap.size + 1 := by simp
 refine ⟨qf h.own (fun q hq => ?_),fun k x hx => ?_⟩
 ·injection hq with hq
  dsimp only at hq
  subst hq
  rw [Below.heap_setCell _ _ _ _ (by dsimp only; exact Ne.symm hgf),hg.block br (by omega) (fun e => h.ne t v hv e.symm)]
  exact (q7 wr o).block br hlt
 ·rw [List.getElem?_set] at hx
  by_cases e : t = k
  ·subst e
   rw [if_pos rfl] at hx
   split at hx
   ·injection hx with hx
    subst hx
    rw [hu]
    intro e2
    injection e2 with e2
    dsimp only at e2
    subst e2
    rcases hl with hl | hl
    ·exact h.ne t v hv hl
    ·omega
   ·cases hx
  ·rw [if_neg e] at hx
   exact h.ne k x hx
theorem q2R (p : Int) (aA : Option Addr) (n cA : Nat) (aG : Option Addr) (cG : Nat) (aN : Option Addr) (nN cN : Nat) (N : List Gd) (gs : List Int) (w : World) (hM : MayG p n N gs) (hN : NdSl w aN nN cN N) (hG : ZSl w aG n cG gs) :
  Calls Try.prog 53 #[.agg #[.int .i64 p,.slice aA n cA,.slice aG n cG,.slice aN nN cN]] w (BkRl n (2 ^ p.toNat) (rwA p N gs) w) := by
 obtain ⟨Z,eZ⟩ : ∃ Z,Z = BkRl n (2 ^ p.toNat) (rwA p N gs) w := ⟨_,rfl⟩
 obtain ⟨w1,hw1⟩ : ∃ w1,w1 = w.alloc (.cells #[.int .i64 p,.slice aA n cA,.slice aG n cG,.slice aN nN cN] 26 (0,0)) := ⟨_,rfl⟩
 have hb1 : Below w.heap.size w w1 := by rw [hw1]; exact q7 _ _
 have hs1 : w1.heap.size = w.heap.size + 1 := by rw [hw1]; simp
 have HZ : Hid (∀ w' vs F,Below w1.heap.size w1 w' → FbM w' (w.heap.size + 1) vs F → BkI n (2 ^ p.toNat) (rwA p N gs) n 0 F → Z (.returned (.slice (some ⟨w.heap.size + 1,0,none⟩) n n)) w') := fun w' vs F hb h1 h2 => by rw [eZ]; exact ⟨q5 hb1 hb,_,vs,F,rfl,by omega,h1,h2⟩
 rw [← eZ]
 clear eZ
 have HV1 : Hid (AuB w1 w.heap.size p aA n cA aG n cG aN nN cN) := by show AuB _ _ _ _ _ _ _ _ _ _ _ _; rw [hw1]; exact qe _ _ _ _ _ _ _ _ _ _ _
 have h256 := hM.s2
 have h1n := hM.s1
 have hK := hM.k256
 have hK1 : 0 < 2 ^ p.toNat := Nat.two_pow_pos _
 have hmk := fun w => q40 n (by omega) w
 obtain ⟨w2,hw2⟩ : ∃ w2,w2 = w1.alloc (.cells (List.replicate n (Value.slice none 0 0)).toArray 23) := ⟨_,rfl⟩
 have HF0 : Hid (FbM w2 (w.heap.size + 1) (List.replicate n (Value.slice none 0 0)) (List.replicate n [])) := by
  have := q4P w1 n
  show FbM _ _ _ _
  rw [hw2,← hs1]; exact this
 have HB2 : Hid (Below w1.heap.size w1 w2) := by show Below _ _ _; rw [hw2]; exact q7 _ _
 have HR : Hid (RowsP n (2 ^ p.toNat) (rwA p N gs)) := hM.rows (2 ^ p.toNat)
 have HI0 : Hid (BkI n (2 ^ p.toNat) (rwA p N gs) 0 0 (List.replicate n [])) := q4f
 have HN : Hid (NdSl w1 aN nN cN N) := hN.up hb1
 have HG : Hid (ZSl w1 aG n cG gs) := hG.up hb1
 have HT : Hid (∀ j,j < n → I64 (gs.getD j 0) ∧ ∀ wr e w6,TabRO p N (gs.getD j 0) wr e w6 → ∃ g c,e = .returned (.tuple #[.slice (some ⟨g,0,none⟩) (2 ^ p.toNat) c,.int .i64 0]) ∧ Below wr.heap.size wr w6 ∧ wr.heap.size ≤ g ∧ w6.ownsRow 0 3 1 (.slice (some ⟨g,0,none⟩) (2 ^ p.toNat) c) (2 ^ p.toNat) (inV ((rwA p N gs).getD j []))) := fun j hj => by
  refine ⟨q1N hM (q := j) (by have h2 := hM.len; omega),fun wr e w6 hq2 => ?_⟩
  have htab := hM.tab (K := 2 ^ p.toNat) hj
  obtain ⟨hb,⟨h1,_⟩ | ⟨_,_,⟨h3,_⟩ | ⟨l,a,c,h3,rfl,h4⟩⟩⟩ := hq2
  ·exact absurd ⟨hM.p0,hM.p8⟩ h1
  ·rw [htab] at h3; cases h3
  ·rw [htab] at h3; injection h3 with h3; subst h3
   have hl : (((rwA p N gs).getD j []).map Int.ofNat).length = 2 ^ p.toNat := by rw [List.length_map]; exact HR.out.row j hj
   rw [hl] at h4 ⊢
   obtain ⟨g,c',e1,e2,_⟩ := q16 h4 hK1
   injection e1 with e1 _ e3
   subst e1; subst e3
   exact ⟨g,c,rfl,hb,e2,h4.1,.inr (by rcases h4.2 with ⟨h5,_⟩ | ⟨g',cap,cur,h5,_,h6⟩; cases h5; exact ⟨g',cap,cur,h5,Nat.zero_le _,h6⟩)⟩
 obtain ⟨c0,c1,c2,c3⟩ := HV1.out
 obtain ⟨d0,d1,d2,d3⟩ := HV1.out.up HB2.out
 have HW1 : Hid _ := hw1
 have HW2 : Hid _ := hw2
 have HS1 : Hid _ := hs1
 clear hw1 hw2 hb1 hM hN hG
 generalize rwA p N gs = R at *
 generalize 2 ^ p.toNat = K at *
 go_enter Try.func53,Try.ntmps53
 generalize (List.replicate n (Value.slice none 0 0)).toArray = C at *
 go_wp2_with (first | rw [← HW1.out] | rw [← HW2.out])
 clear c0 c1 c2 c3 d0 d1 d2 d3 hmk
 go_loopw [17] (fun i wr => ∃ (j : Nat) (vs : List Value) (F : List (List Nat)),j ≤ n ∧ i = .int .i64 (j : Int) ∧ Hid (Below w1.heap.size w1 wr) ∧ Hid (FbM wr (w.heap.size + 1) vs F) ∧ Hid (BkI n K R j 0 F)) (fun i _ => n - (intOf i).toNat)
 case atStart => exact ⟨0,_,_,Nat.zero_le _,rfl,HB2,HF0,HI0⟩
 case round =>
  clear HB2 HF0 HI0
  obtain ⟨j,vs,F,hj,rfl,HB,HF,HI⟩ := hrel
  by_cases hlt : j < n
  ·obtain ⟨hi64,htb⟩ := HT.out j hlt
   have hixg := fun w' => HG.out.idx n j w' hlt (Nat.le_refl _)
   have hcg := (HG.out.up HB.out).cell j hlt
   have jt := q31 p aN nN cN N (gs.getD j 0) wr (HN.out.up HB.out) hi64
   obtain ⟨c0,c1,c2,c3⟩ := HV1.out.up HB.out
   have HTB : Hid _ := htb wr
   clear htb hi64
   generalize gs.getD j 0 = rj at *
   generalize adOf aG j = ag at *
   obtain ⟨ag1,ag2,ag3⟩ := ag
   go_wp2_with fail
   refine jt.mono ?_
   intro e w6 hq6
   obtain ⟨br,yc,rfl,hb6,hbr,ho6⟩ := HTB.out e w6 hq6
   have HB6 : Hid (Below w1.heap.size w1 w6) := q5 HB.out hb6
   have HF6 : Hid (FbM w6 (w.heap.size + 1) vs F) := HF.out.up hb6
   have HK6 : Hid (BkN w6 vs br yc K (R.getD j [])) := ⟨ho6,fun k v hv e => by have := ((HF.out.own k v hv).lt br e).2; omega⟩
   have hgb : w.heap.size + 1 ≠ br := by have := HF.out.lt; omega
   clear hq6 hb6 hbr ho6 jt HTB hixg hcg c0 c1 c2 c3 HB HF
   go_wp2
   go_loopw [33] (fun i wy => ∃ (k : Nat) (vs : List Value) (F : List (List Nat)),k ≤ K ∧ i = .int .i64 (k : Int) ∧ Hid (Below w1.heap.size w1 wy) ∧ Hid (FbM wy (w.heap.size + 1) vs F) ∧ Hid (BkN wy vs br yc K (R.getD j [])) ∧ Hid (BkI n K R j k F)) (fun i _ => K - (intOf i).toNat)
   case atStart => exact ⟨0,vs,F,Nat.zero_le _,rfl,HB6,HF6,HK6,HI⟩
   case round =>
    clear HB6 HF6 HK6 HI
    obtain ⟨k,vs,F,hk,rfl,HB,HF,HK,HI⟩ := hrel
    by_cases hkK : k < K
    ·obtain ⟨_,_,e0,hrz,_⟩ := qm HK.out.own Try.underlying23 q8
     injection e0 with e1 _ e3
     subst e1; subst e3
     have ik1 := fun w' => hrz.idx K k w' hkK (Nat.le_refl _)
     have ck1 := hrz.cell k hkK
     rw [qt (by rw [HR.out.row j hlt]; exact hkK)] at ck1
     have ht := HR.out.lt j k hlt hkK
     change wr.cell? _ = some (.int .i64 ((trP R j k : Nat) : Int)) at ck1
     have HPU : Hid _ := HI.out.put HR.out hlt hkK
     have hfw := HI.out.few (trP R j k) ht
     have hFl := HI.out.len
     generalize trP R j k = t at *
     obtain ⟨va,vc,hv,ct,ho,ft⟩ := HF.out.at (t := t) (by omega)
     have hixt := fun w' => q2r (w.heap.size + 1) n t ht w'
     have hfew : (F.getD t []).length ≤ 70000 := by
      have h1 : j * K ≤ 255 * 256 := Nat.mul_le_mul (by omega) hK
      omega
     have HV : Hid _ := hv
     have HFL : Hid _ := hFl
     obtain ⟨L,hL⟩ : ∃ L,L = (F.getD t []).length := ⟨_,rfl⟩
     rw [← hL] at ct ho hv hfew HV
     have HO6 : Hid ((wr.alloc (.cells #[.int .i64 (j : Int)] 3)).ownsRow (w.heap.size + 1 + 1) 3 1 (.slice va L vc) L (inV (F.getD t []))) := World.ownsRow.alloc ho _
     have hc6 : (wr.alloc (.cells #[.int .i64 (j : Int)] 3)).cell? ⟨wr.heap.size,0,none⟩ = some (.int .i64 (j : Int)) := q6 (MapKept.heap_alloc wr _).1 0
     have hb6 : w.heap.size + 1 + 1 ≤ (wr.alloc (.cells #[.int .i64 (j : Int)] 3)).heap.size := by
      have := HF.out.lt
      simp; omega
     have hQ26 : L + 1 ≤ 2000000 := by omega
     have hft7 : ∀ w7,(wr.alloc (.cells #[.int .i64 (j : Int)] 3)).grownBy w7 (Value.slice va L vc).ownBlock → w7.cell? ⟨w.heap.size + 1,t,none⟩ = some (.slice va L vc) ∧ w7.frozen? ⟨w.heap.size + 1,t,none⟩ = false := fun w7 hg => by
      have hlt := HF.out.lt
      have e : w7.heap[w.heap.size + 1]? = some (.cells vs.toArray 23 (0,0)) := by
       rw [hg.block _ (by simp; omega) (fun e => by have := qw ho _ e.symm; omega)]
       exact ((q7 wr _).block _ hlt).trans HF.out.blk
      refine ⟨?_,frozen_of_row w7 _ t _ _ e⟩
      rw [q6 e]; simpa using HV.out
     have HFT : Hid _ := hft7
     have HL : Hid _ := hL
     clear hv ho hft7 HI hFl hfw hL hrz
     simp only [adOf,q9,Nat.zero_add] at ik1 ck1
     go_wp2_with (at_builtin; refine q2y rfl _ _ rfl (w.heap.size + 1 + 1) _ L ((F.getD t []).map Int.ofNat) rfl HO6.out wr.heap.size (j : Int) rfl hc6 hQ26 hb6 ?_)
     intro g7 c7 w7 hq7 hg7 hl7
     obtain ⟨cf,ff⟩ := HFT.out w7 hg7
     have HF7 : Hid (FbM (w7.setCell ⟨w.heap.size + 1,t,none⟩ (.slice (some ⟨g7,0,none⟩) (L + 1) c7)) (w.heap.size + 1) (vs.set t (.slice (some ⟨g7,0,none⟩) (L + 1) c7)) (F.set t (F.getD t [] ++ [j]))) := by
      have := HF.out.put (t := t) (s := j) (by rw [HFL.out]; exact ht) HV.out (o := .cells #[.int .i64 (j : Int)] 3) (g := g7) (c := c7) (w7 := w7)
      rw [← HL.out] at this
      exact this (by rw [inV,List.map_append,List.map_append,List.map_map]; simpa using hq7) hg7 (by simpa using hl7)
     have HK7 : Hid (BkN (w7.setCell ⟨w.heap.size + 1,t,none⟩ (.slice (some ⟨g7,0,none⟩) (L + 1) c7)) (vs.set t (.slice (some ⟨g7,0,none⟩) (L + 1) c7)) br yc K (R.getD j [])) := HK.out.put hgb HV.out hg7 (by simpa using hl7) _ rfl
     have HB7 : Hid (Below w1.heap.size w1 (w7.setCell ⟨w.heap.size + 1,t,none⟩ (.slice (some ⟨g7,0,none⟩) (L + 1) c7))) := by
      have h1 := HB.out.alloc HB.out.size (.cells #[.int .i64 (j : Int)] 3)
      have hs1 := HS1.out
      exact (h1.grown hg7 h1.size (fun q e => by have := qw HO6.out q e; omega)).setCell (by dsimp only; omega) _
     clear hq7 hg7 hl7 HFT HO6 hc6 hb6 HF HB HV HK
     go_wp2
     go_roundw
     case rel => exact ⟨k + 1,_,_,by omega,by go_num,HB7,HF7,HK7,HPU⟩
     case measure => simp [intOf]; omega
    ·obtain rfl : k = K := by omega
     have HI3 : Hid _ := HI.out.next
     clear HI HZ
     go_wp2
     go_roundw
     case rel => exact ⟨j + 1,vs,F,by omega,by go_num,HB,HF,HI3⟩
     case measure => simp [intOf]; omega
  ·obtain rfl : j = n := by omega
   have HE : Hid _ := HZ.out wr vs F HB.out HF.out HI.out
   clear HZ HB HF HI
   go_wp2
   exact HE.out
theorem q4m (n : Nat) : lensL n [] = List.replicate n (-1) := by
 apply List.ext_getElem?
 intro i
 by_cases hi : i < n
 ·simp [lensL,hi,lenQ]
 ·simp [lensL,hi]
structure SnM (w0 wr : World) (g n : Nat) (v : Value) (Q : List (Nat × List Nat)) : Prop where
 fw : RowI wr 3 g (lensL n Q)
 qo : wr.ownsRow (g + 1) 3 1 v Q.length (inV (Q.map (·.1)))
 bel : Below w0.heap.size w0 wr
 ge : w0.heap.size ≤ g
theorem SnM.push {w0 wr w7 : World} {g n : Nat} {v : Value} {Q : List (Nat × List Nat)} (h : SnM w0 wr g n v Q) {s : Nat} {t : List Nat} (hm : s ∉ Q.map (·.1)) {o : Obj} {v7 : Value}
  (hq : w7.ownsRow (g + 1) 3 1 v7 (Q.length + 1) (inV (Q.map (·.1) ++ [s]))) (hg : ((wr.setCell ⟨g,s,none⟩ (.int .i64 (t.length : Int))).alloc o).grownBy w7 v.ownBlock) :
  SnM w0 w7 g n v7 (Q ++ [(s,t)]) := by
 have hge := qw h.qo
 have hln := h.fw.lt
 have hg0 := h.ge
 have keep : w7.heap[g]? = (wr.setCell ⟨g,s,none⟩ (.int .i64 (t.length : Int))).heap[g]? := by
  rw [hg.block g (by simp; omega) (fun e => by have := hge g e.symm; omega)]
  exact (q7 (wr.setCell ⟨g,s,none⟩ (.int .i64 (t.length : Int))) o).block g (by simpa using hln)
 refine ⟨?_,by rw [List.length_append,List.map_append]; exact hq,?_,hg0⟩
 ·rw [q49 hm]
  exact keep.trans (q4J h.fw s _)
 ·have h1 : Below w0.heap.size w0 (wr.setCell ⟨g,s,none⟩ (.int .i64 (t.length : Int))) := h.bel.setCell (by dsimp only; exact hg0) _
  have h2 := h1.alloc h1.size o
  exact h2.grown hg h2.size (fun q e => by have := hge q e; omega)
theorem BoSl.getW {w : World} {a : Option Addr} {n c : Nat} {bs : List Bool} (h : BoSl w a n c bs) {i : Nat} (hi : i < n) : (∀ w',(Instr.indexAt 22 (.slice a n c) (.int .i64 (i : Int))).run Try.prog w' = .ok (.pointer (some (adOf a i))) w') ∧ w.cell? (adOf a i) = some (.bool (bs.getD i false)) := by
 obtain ⟨x,rfl⟩ := h.some_of (by omega)
 have hl := h.hlen
 refine ⟨fun w' => qj (P := Try.prog) (T := 22) Try.underlying22 qq (by simp) i w' hi,?_⟩
 have := h.c x rfl i (by omega)
 rw [List.getD_eq_getElem?_getD,List.getElem?_eq_getElem (by omega)]
 exact this
def SoR (n K : Nat) (R : List (List Nat)) (t : Nat → Bool) (w : World) (e : Ending) (w' : World) : Prop := Below w.heap.size w w' ∧ ∃ g zs,e = .returned (.slice (some ⟨g,0,none⟩) n n) ∧ w.heap.size ≤ g ∧ RowI w' 3 g zs ∧ SoA n K R t zs
theorem qV (gf : Nat) (vs : List Value) (F : List (List Nat)) (aA : Option Addr) (n cA K : Nat) (bs : List Bool) (R : List (List Nat)) (b : Bool) (w : World) (hF : FbM w gf vs F) (hI : BkI n K R n 0 F) (hB : BoSl w aA n cA bs) (hR : RowsP n K R) (hK : K ≤ 256) (h1n : 0 < n) (h256 : n ≤ 256) :
  Calls Try.prog 54 #[.slice (some ⟨gf,0,none⟩) n n,.slice aA n cA,.bool b] w (SoR n K R (accT bs b) w) := by
 obtain ⟨Z,eZ⟩ : ∃ Z,Z = SoR n K R (accT bs b) w := ⟨_,rfl⟩
 have HZ : Hid (∀ w' zs,Below w.heap.size w w' → RowI w' 3 (w.heap.size + 1) zs → SoA n K R (accT bs b) zs → Z (.returned (.slice (some ⟨w.heap.size + 1,0,none⟩) n n)) w') := fun w' zs hb h1 h2 => by rw [eZ]; exact ⟨hb,_,zs,rfl,by omega,h1,h2⟩
 rw [← eZ]
 clear eZ
 obtain ⟨w1,hw1⟩ : ∃ w1,w1 = w.alloc (.cells #[.int .i64 (-1)] 3) := ⟨_,rfl⟩
 have hb1 : Below w.heap.size w w1 := by rw [hw1]; exact q7 w _
 have hs1 : w1.heap.size = w.heap.size + 1 := by rw [hw1]; simp
 have hr1 : RowI w1 3 w.heap.size [-1] := by
  have := (MapKept.heap_alloc w (.cells #[.int .i64 (-1)] 3)).1
  rw [hw1]; unfold RowI; simpa using this
 have jr := q2f w.heap.size n w1 hr1 h1n h256
 rw [hs1] at jr
 have HB1 : Hid _ := hb1
 have HW1 : Hid _ := hw1
 have HS1 : Hid _ := hs1
 have HF : Hid _ := hF
 have HI : Hid _ := hI
 have HBo : Hid _ := hB
 have HR : Hid _ := hR
 clear hb1 hw1 hs1 hr1 hF hI hB hR
 go_enter Try.func54,Try.ntmps54
 go_wp2_with (go_at_call 70; rw [← HW1.out])
 refine jr.mono ?_
 rintro e w2 ⟨hb2,rfl,hr2⟩
 have HM0 : Hid (SnM w w2 (w.heap.size + 1) n (.slice none 0 0) (kinL (accT bs b) 0)) := ⟨by show RowI _ _ _ (lensL n []); rw [q4m]; exact hr2,⟨rfl,.inl ⟨rfl,rfl⟩⟩,q5 HB1.out (by rw [HS1.out]; exact hb2),by omega⟩
 clear jr hb2 hr2 HB1 HW1 HS1
 generalize hgg : w.heap.size + 1 = g at *
 have HGG : Hid _ := hgg
 clear hgg
 go_wp2
 go_loopw [8,21] (fun v i wr => ∃ k : Nat,k ≤ n ∧ i = .int .i64 (k : Int) ∧ Hid (SnM w wr g n v (kinL (accT bs b) k))) (fun _ i _ => n - (intOf i).toNat)
 case atStart => exact ⟨0,Nat.zero_le _,rfl,HM0⟩
 case round =>
  clear HM0
  obtain ⟨k,hk,rfl,HM⟩ := hrel
  obtain ⟨va,vc,rfl⟩ := qs HM.out.qo
  have hal := q4B (accT bs b) k
  by_cases hlt : k < n
  ·obtain ⟨hix,hcb⟩ := (HBo.out.up HM.out.bel).getW hlt
   have HS : Hid (kinL (accT bs b) (k + 1) = kinL (accT bs b) k ++ if (bs.getD k false == b) = true then [(k,[])] else []) := q4k (accT bs b) k
   have HNM : Hid _ := q4C (accT bs b) k
   have hixs := fun w' => qO g n k hlt w'
   have cs := HM.out.fw.cell (i := k) (by rw [qE]; exact hlt)
   rw [q15 _ hlt,q1P HNM.out] at cs
   have fs : wr.frozen? ⟨g,k,none⟩ = false := frozen_of_row wr _ k _ _ HM.out.fw
   have hsz := HM.out.fw.lt
   generalize adOf aA k = ad at *
   obtain ⟨ag,ao,az⟩ := ad
   generalize bs.getD k false = y at *
   by_cases hyb : y = b
   ·have HS1 : Hid (kinL (accT bs b) (k + 1) = kinL (accT bs b) k ++ [(k,[])]) := by
     have := HS.out
     rw [if_pos (by rw [hyb]; exact beq_self_eq_true b)] at this
     exact this
    clear HS
    subst hyb
    generalize hq0 : kinL (accT bs y) k = Q0 at *
    have HO6 : Hid (((wr.setCell ⟨g,k,none⟩ (.int .i64 0)).alloc (.cells #[.int .i64 (k : Int)] 3)).ownsRow (g + 1) 3 1 (.slice va Q0.length vc) Q0.length (inV (Q0.map (·.1)))) := World.ownsRow.alloc (qT HM.out.qo (by dsimp only; omega) _) _
    have hc6 : ((wr.setCell ⟨g,k,none⟩ (.int .i64 0)).alloc (.cells #[.int .i64 (k : Int)] 3)).cell? ⟨wr.heap.size,0,none⟩ = some (.int .i64 (k : Int)) := by
     have := q6 (MapKept.heap_alloc (wr.setCell ⟨g,k,none⟩ (.int .i64 0)) (.cells #[.int .i64 (k : Int)] 3)).1 0
     simpa using this
    have hb6 : g + 1 ≤ ((wr.setCell ⟨g,k,none⟩ (.int .i64 0)).alloc (.cells #[.int .i64 (k : Int)] 3)).heap.size := by simp; omega
    have hQ26 : Q0.length + 1 ≤ 2000000 := by omega
    go_wp2_with (at_builtin; refine qM rfl _ _ rfl (g + 1) _ Q0.length ((Q0.map (·.1)).map Int.ofNat) rfl ?_ wr.heap.size (k : Int) rfl hc6 hQ26 hb6 ?_)
    ·first | exact HO6.out | (simpa [inV] using HO6.out)
    intro v7 w7 hq7 hg7
    have HM7 : Hid (SnM w w7 g n v7 (kinL (accT bs y) (k + 1))) := by
     show SnM _ _ _ _ _ _
     rw [HS1.out]
     exact HM.out.push HNM.out (s := k) (t := []) (o := .cells #[.int .i64 (k : Int)] 3) (by rw [inV,List.map_append,List.map_append]; simpa using hq7) hg7
    clear hq7 hg7 HO6 hc6 hb6 HM HS1 HNM
    go_wp2
    go_roundw
    case rel => exact ⟨k + 1,by omega,by go_num,HM7⟩
    case measure => simp [intOf]; omega
   ·have HM7 : Hid (SnM w wr g n (.slice va (kinL (accT bs b) k).length vc) (kinL (accT bs b) (k + 1))) := by
     show SnM _ _ _ _ _ _
     rw [HS.out,if_neg (by simpa using hyb),List.append_nil]
     exact HM.out
    have hyb2 : (y == b) = false := by simpa using hyb
    clear HM HS HNM
    go_wp2
    go_roundw
    case rel => exact ⟨k + 1,by omega,by go_num,HM7⟩
    case measure => simp [intOf]; omega
  ·obtain rfl : k = n := by omega
   have HS0 : Hid (SnQ k K R (accT bs b) F 0 0 (kinL (accT bs b) k)) := q4t
   clear hk hlt
   go_wp2
   go_loopw [8,11] (fun v i wr => ∃ (j : Nat) (Q : List (Nat × List Nat)),i = .int .i64 (j : Int) ∧ Hid (SnQ k K R (accT bs b) F j 0 Q) ∧ Hid (SnM w wr g k v Q) ∧ j ≤ Q.length) (fun _ i _ => k - (intOf i).toNat)
   case atStart => exact ⟨0,kinL (accT bs b) k,rfl,HS0,HM,Nat.zero_le _⟩
   case round =>
    clear HS0 HM hal
    obtain ⟨j,Q,rfl,HQ,HM,hjQ⟩ := hrel
    have hQl : Q.length ≤ k := HQ.out.few
    have hQm : (Q.map (·.1)).length = Q.length := List.length_map _
    obtain ⟨va,vc,rfl,hU,hUb,_⟩ := qm HM.out.qo Try.underlying23 q8
    by_cases hlt : j < Q.length
    ·obtain ⟨x,hx⟩ : ∃ x,Q[j]? = some x := ⟨_,List.getElem?_eq_getElem hlt⟩
     have hix := fun w' => hU.idx Q.length j w' hlt (Nat.le_refl _)
     have hce := hU.cell j hlt
     rw [qt (by rw [hQm]; exact hlt)] at hce
     have hqj : (Q.map (·.1)).getD j 0 = x.1 := by rw [List.getD_eq_getElem?_getD,List.getElem?_map,hx]; rfl
     rw [hqj] at hce
     have hxn : x.1 < k := HQ.out.lt x (List.mem_of_getElem? hx)
     have hFl := HI.out.len
     have hFx := HI.out.few x.1 hxn
     obtain ⟨fa,fc,cf,hfz⟩ := HF.out.zsl (t := x.1) (by omega)
     have cf := qa cf HM.out.bel
     have hixf := fun w' => q2r gf k x.1 hxn w'
     have HFX : Hid (∀ m,m < (F.getD x.1 []).length → (F.getD x.1 []).getD m 0 < k) := fun m hm => by
      have h1 := q4i hm
      obtain ⟨l,_,h2,_⟩ := (HI.out.mem x.1 hxn _).1 h1
      unfold gone at h2; omega
     have HAT : Hid (∀ m,m < (F.getD x.1 []).length → (F.getD x.1 [])[m]? = some ((F.getD x.1 []).getD m 0)) := fun m hm => q3h hm
     have HFZ : Hid (ZSl w fa (F.getD x.1 []).length fc ((F.getD x.1 []).map Int.ofNat)) := hfz
     have HX : Hid _ := hx
     obtain ⟨fl,hfl⟩ : ∃ fl,fl = (F.getD x.1 []).length := ⟨_,rfl⟩
     rw [← hfl] at cf
     have hfl2 : fl ≤ 70000 := by
      have h1 : k * K ≤ 256 * 256 := Nat.mul_le_mul h256 hK
      omega
     have HFL : Hid _ := hfl
     clear hU hUb hqj hx hfz hfl hFx hFl hQm
     generalize adOf va j = ad at *
     obtain ⟨ag,ao,az⟩ := ad
     go_wp2
     clear hix hce cf hixf
     go_loopw [8,52] (fun v i wy => ∃ (m : Nat) (Q2 : List (Nat × List Nat)),m ≤ fl ∧ i = .int .i64 (m : Int) ∧ Hid (SnQ k K R (accT bs b) F j m Q2) ∧ Hid (SnM w wy g k v Q2) ∧ Hid (Q2[j]? = some x)) (fun _ i _ => fl - (intOf i).toNat)
     case atStart => exact ⟨0,Q,Nat.zero_le _,rfl,HQ,HM,HX⟩
     case round =>
      clear HQ HM HX
      obtain ⟨m,Q2,hm,rfl,HQ,HM,HX⟩ := hrel
      have hQl2 : Q2.length ≤ k := HQ.out.few
      have hjQ2 : j < Q2.length := (List.getElem?_eq_some_iff.1 HX.out).1
      obtain ⟨ua,uc,rfl⟩ := qs HM.out.qo
      by_cases hmK : m < fl
      ·have hmK' : m < (F.getD x.1 []).length := by rw [← HFL.out]; exact hmK
       have ik1 : ∀ w',(Instr.indexAt 23 (.slice fa fl fc) (.int .i64 (m : Int))).run Try.prog w' = .ok (.pointer (some (adOf fa m))) w' := fun w' => HFZ.out.idx fl m w' hmK (by rw [HFL.out]; exact Nat.le_refl _)
       have ck1 := (HFZ.out.up HM.out.bel).cell m hmK'
       rw [qt hmK'] at ck1
       have hs := HFX.out m hmK'
       have hat := HAT.out m hmK'
       have HSK : Hid ((F.getD x.1 []).getD m 0 ∈ Q2.map (·.1) → SnQ k K R (accT bs b) F j (m + 1) Q2) := fun h => HQ.out.skip HX.out hat h
       have HPU : Hid ((F.getD x.1 []).getD m 0 ∉ Q2.map (·.1) → ∃ u,u.length = x.2.length + 1 ∧ SnQ k K R (accT bs b) F j (m + 1) (Q2 ++ [((F.getD x.1 []).getD m 0,u)])) := fun h => HQ.out.push HI.out HX.out hat h
       clear hat
       generalize (F.getD x.1 []).getD m 0 = s at *
       generalize adOf fa m = ad3 at *
       obtain ⟨b1g,b1o,b1z⟩ := ad3
       have hixs := fun w' => qO g k s hs w'
       have hixh := fun w' => qO g k x.1 hxn w'
       have cs := HM.out.fw.cell (i := s) (by rw [qE]; exact hs)
       have ch := HM.out.fw.cell (i := x.1) (by rw [qE]; exact hxn)
       rw [q15 _ hs] at cs
       rw [q15 _ hxn,q13 HQ.out.nd (List.mem_of_getElem? HX.out)] at ch
       have fs : wr.frozen? ⟨g,s,none⟩ = false := frozen_of_row wr _ s _ _ HM.out.fw
       have hsz := HM.out.fw.lt
       have hxl : x.2.length ≤ 256 := by have := HQ.out.pos j x HX.out; omega
       by_cases hmem : s ∈ Q2.map (·.1)
       ·have HQ3 : Hid _ := HSK.out hmem
        obtain ⟨y,hy,hys⟩ := List.mem_map.1 hmem
        have hly := q13 HQ.out.nd hy
        rw [hys] at hly
        rw [hly] at cs
        have hneg : ((y.2.length : Nat) : Int) ≠ -1 := by omega
        have hneg2 : (((y.2.length : Nat) : Int) == -1) = false := beq_false_of_ne hneg
        clear HSK HPU hmem hy hys hly HQ ch hixh fs
        go_wp2
        go_roundw
        case rel => exact ⟨m + 1,Q2,by omega,by go_num,HQ3,HM,HX⟩
        case measure => simp [intOf]; omega
       ·obtain ⟨u,hul,hu⟩ := HPU.out hmem
        have HQ3 : Hid _ := hu
        rw [q1P hmem] at cs
        have hul2 : ((x.2.length : Nat) : Int) + 1 = ((u.length : Nat) : Int) := by omega
        have HMP : Hid (∀ (w7 : World) (v7 : Value),w7.ownsRow (g + 1) 3 1 v7 (Q2.length + 1) (inV (Q2.map (·.1) ++ [s])) → ((wr.setCell ⟨g,s,none⟩ (.int .i64 (((x.2.length : Nat) : Int) + 1))).alloc (.cells #[.int .i64 (s : Int)] 3)).grownBy w7 (Value.slice ua Q2.length uc).ownBlock → SnM w w7 g k v7 (Q2 ++ [(s,u)])) := fun w7 v7 h1 h2 => by
         rw [hul2] at h2
         exact HM.out.push hmem h1 h2
        have HO6 : Hid (((wr.setCell ⟨g,s,none⟩ (.int .i64 (((x.2.length : Nat) : Int) + 1))).alloc (.cells #[.int .i64 (s : Int)] 3)).ownsRow (g + 1) 3 1 (.slice ua Q2.length uc) Q2.length (inV (Q2.map (·.1)))) := World.ownsRow.alloc (qT HM.out.qo (by dsimp only; omega) _) _
        have hc6 : ((wr.setCell ⟨g,s,none⟩ (.int .i64 (((x.2.length : Nat) : Int) + 1))).alloc (.cells #[.int .i64 (s : Int)] 3)).cell? ⟨wr.heap.size,0,none⟩ = some (.int .i64 (s : Int)) := by
         have := q6 (MapKept.heap_alloc (wr.setCell ⟨g,s,none⟩ (.int .i64 (((x.2.length : Nat) : Int) + 1))) (.cells #[.int .i64 (s : Int)] 3)).1 0
         simpa using this
        have hb6 : g + 1 ≤ ((wr.setCell ⟨g,s,none⟩ (.int .i64 (((x.2.length : Nat) : Int) + 1))).alloc (.cells #[.int .i64 (s : Int)] 3)).heap.size := by simp; omega
        have hQ26 : Q2.length + 1 ≤ 2000000 := by omega
        have HX7 : Hid ((Q2 ++ [(s,u)])[j]? = some x) := by
         show _ = _
         rw [List.getElem?_append_left hjQ2]
         exact HX.out
        clear HSK HPU HQ HX hu hul hul2
        generalize x.2.length = xl at *
        generalize Q2.length = ql at *
        go_wp2_with (at_builtin; refine qM rfl _ _ rfl (g + 1) _ ql ((Q2.map (·.1)).map Int.ofNat) rfl ?_ wr.heap.size (s : Int) rfl hc6 hQ26 hb6 ?_)
        ·first | exact HO6.out | (simpa [inV] using HO6.out)
        intro v7 w7 hq7 hg7
        have HM7 : Hid (SnM w w7 g k v7 (Q2 ++ [(s,u)])) := HMP.out w7 v7 (by rw [inV,List.map_append,List.map_append]; simpa using hq7) hg7
        clear hq7 hg7 HO6 hc6 hb6 HM HMP
        go_wp2
        go_roundw
        case rel => exact ⟨m + 1,_,by omega,by go_num,HQ3,HM7,HX7⟩
        case measure => simp [intOf]; omega
      ·obtain rfl : m = fl := by omega
       have HQ3 : Hid _ := HQ.out.next HX.out (by rw [← HFL.out]; exact Nat.le_refl _)
       clear HQ HX HZ
       go_wp2
       go_roundw
       case rel => exact ⟨j + 1,Q2,by go_num,HQ3,HM,by omega⟩
       case measure => simp [intOf]; omega
    ·have HFI : Hid (SoA k K R (accT bs b) (lensL k Q)) := HQ.out.fin HR.out HI.out (by omega) (qE k Q) (fun s hs => q15 Q hs)
     have hgg := HGG.out
     have HE : Hid _ := HZ.out wr (lensL k Q) HM.out.bel HM.out.fw HFI.out
     have hdj : ¬ (j : Int) < (Q.length : Int) := by omega
     clear HZ HFI HQ HM hU hUb hgg
     go_wp2
     exact HE.out
theorem q1L (a f : Int) (w : World) : Calls Try.prog 55 #[.int .i64 a,.int .i64 f] w fun e w' => e = .returned (.int .u8 (verW a f : Int)) ∧ w' = w := by
 unfold verW
 by_cases h1 : a = -1
 ·subst h1
  go_enter Try.func55,Try.ntmps55
  go_wp2
  go_ret
  exact ⟨rfl,rfl⟩
 ·have e1 : (a == -1) = false := beq_false_of_ne h1
  rw [if_neg h1]
  by_cases h2 : f = -1
  ·subst h2
   go_enter Try.func55,Try.ntmps55
   go_wp2
   go_ret
   exact ⟨rfl,rfl⟩
  ·have e2 : (f == -1) = false := beq_false_of_ne h2
   rw [if_neg h2]
   by_cases h3 : a = 0
   ·subst h3
    go_enter Try.func55,Try.ntmps55
    go_wp2
    go_ret
    exact ⟨rfl,rfl⟩
   ·have e3 : (a == 0) = false := beq_false_of_ne h3
    rw [if_neg h3]
    go_enter Try.func55,Try.ntmps55
    go_wp2
    go_ret
    exact ⟨rfl,rfl⟩
theorem q1m (a : Option Addr) (n c : Nat) (zs : List Int) (w : World) (hZ : ZSl w a n c zs) (hn : n ≤ 1000000) :
  Calls Try.prog 40 #[.slice a n c] w fun e w' => Below w.heap.size w w' ∧ ∃ a' c',e = .returned (.slice a' n c') ∧ w'.ownsRow w.heap.size 3 1 (.slice a' n c') n (zs.map (Value.int .i64)) := by
 obtain ⟨Z,eZ⟩ : ∃ Z : Ending → World → Prop,Z = fun e w' => Below w.heap.size w w' ∧ ∃ a' c',e = .returned (.slice a' n c') ∧ w'.ownsRow w.heap.size 3 1 (.slice a' n c') n (zs.map (Value.int .i64)) := ⟨_,rfl⟩
 have HZ : Hid (∀ w' v,Below w.heap.size w w' → w'.ownsRow w.heap.size 3 1 v n (zs.map (Value.int .i64)) → Z (.returned v) w') := fun w' v hb h => by
  obtain ⟨a',c',rfl⟩ := qs h
  rw [eZ]; exact ⟨hb,a',c',rfl,h⟩
 rw [← eZ]
 clear eZ
 have hl := hZ.hlen
 cases a with
 | none =>
  have hc0 := hZ.nn rfl
  have hcp := hZ.hcap
  obtain rfl : n = 0 := by omega
  obtain rfl : c = 0 := by omega
  obtain rfl : zs = [] := List.eq_nil_of_length_eq_zero hl
  have HE : Hid (Z (.returned (.slice none 0 0)) w) := HZ.out w _ (Below.refl _ _) ⟨rfl,.inl ⟨rfl,rfl⟩⟩
  have hnil := fun w => _root_.Go.run_eql_slice_nil (P := Try.prog) w 23 3 none 0 0 Try.underlying23
  dsimp only [Option.isNone] at hnil
  clear hZ HZ
  go_enter Try.func40,Try.ntmps40
  go_wp2
  exact HE.out
 | some x =>
  obtain ⟨i,hi,hz0,hz1,hz2⟩ := info_parts qz
  have hZ1 := hZ.up (q7 w (.cells #[] 3))
  have HO : Hid ((w.alloc (.cells #[] 3)).ownsRow w.heap.size 3 1 (.slice (some ⟨w.heap.size,0,none⟩) 0 0) 0 []) := ⟨rfl,.inr ⟨w.heap.size,0,#[],rfl,Nat.le_refl _,(MapKept.heap_alloc w _).1,Nat.le_refl _,by decide,rfl,rfl⟩⟩
  have HC : Hid (∀ j u,(zs.map (Value.int .i64))[j]? = some u → (w.alloc (.cells #[] 3)).cell? (x.add j) = some u) := fun j u hj => by
   have hjl : j < zs.length := by have := (List.getElem?_eq_some_iff.1 hj).1; simpa using this
   have hc := hZ1.cell j (by omega)
   rw [List.getElem?_map,List.getElem?_eq_getElem hjl] at hj
   rw [List.getD_eq_getElem?_getD,List.getElem?_eq_getElem hjl] at hc
   simp at hj
   rw [← hj]; exact hc
  have HLB : Hid _ := hl
  have hnil := fun w => _root_.Go.run_eql_slice_nil (P := Try.prog) w 23 3 (some x) n c Try.underlying23
  dsimp only [Option.isNone] at hnil
  clear hZ hZ1 hl
  go_enter Try.func40,Try.ntmps40
  go_wp2_with (at_builtin; refine wpList_append_own _ rfl _ _ 23 rfl w.heap.size 3 i _ 1 8 Try.underlying23 hi hz0 hz1 hz2 rfl (by decide) _ 0 _ rfl HO.out x n c (zs.map (Value.int .i64)) rfl (by rw [List.length_map,HLB.out,Nat.mul_one]) HC.out (fun u hu => by obtain ⟨b,_,rfl⟩ := List.mem_map.1 hu; rfl) (by unfold maxLen; omega) (by omega) (by simp) ?_)
  intro v' w' h1 h2 _
  have HE : Hid _ := HZ.out w' v' (((Below.refl w.heap.size w).alloc (Nat.le_refl _) (.cells #[] 3)).grown h2 (by simp) (qw HO.out)) (by simpa using h1)
  clear h1 h2 HO HC HZ
  go_wp2
  exact HE.out
theorem q2X (a : Option Addr) (n c : Nat) (N : List Gd) (w : World) (hZ : NdSl w a n c N) (hn : n ≤ 1000000) :
  Calls Try.prog 56 #[.slice a n c] w fun e w' => Below w.heap.size w w' ∧ ∃ a' c',e = .returned (.slice a' n c') ∧ w'.ownsRow w.heap.size 77 3 (.slice a' n c') n (encGd N) := by
 obtain ⟨Z,eZ⟩ : ∃ Z : Ending → World → Prop,Z = fun e w' => Below w.heap.size w w' ∧ ∃ a' c',e = .returned (.slice a' n c') ∧ w'.ownsRow w.heap.size 77 3 (.slice a' n c') n (encGd N) := ⟨_,rfl⟩
 have HZ : Hid (∀ w' v,Below w.heap.size w w' → w'.ownsRow w.heap.size 77 3 v n (encGd N) → Z (.returned v) w') := fun w' v hb h => by
  obtain ⟨a',c',rfl⟩ := qs h
  rw [eZ]; exact ⟨hb,a',c',rfl,h⟩
 rw [← eZ]
 clear eZ
 have hl := hZ.hlen
 cases a with
 | none =>
  have hc0 := hZ.nn rfl
  have hcp := hZ.hcap
  obtain rfl : n = 0 := by omega
  obtain rfl : c = 0 := by omega
  obtain rfl : N = [] := List.eq_nil_of_length_eq_zero hl
  have HE : Hid (Z (.returned (.slice none 0 0)) w) := HZ.out w _ (Below.refl _ _) ⟨rfl,.inl ⟨rfl,rfl⟩⟩
  have hnil := fun w => _root_.Go.run_eql_slice_nil (P := Try.prog) w 24 77 none 0 0 Try.underlying24
  dsimp only [Option.isNone] at hnil
  clear hZ HZ
  go_enter Try.func56,Try.ntmps56
  go_wp2
  exact HE.out
 | some x =>
  obtain ⟨i,hi,hz0,hz1,hz2⟩ := info_parts q1o
  have hZ1 := hZ.up (q7 w (.cells #[] 77))
  have HO : Hid ((w.alloc (.cells #[] 77)).ownsRow w.heap.size 77 3 (.slice (some ⟨w.heap.size,0,none⟩) 0 0) 0 []) := ⟨rfl,.inr ⟨w.heap.size,0,#[],rfl,Nat.le_refl _,(MapKept.heap_alloc w _).1,Nat.le_refl _,by decide,rfl,rfl⟩⟩
  have HC : Hid (∀ j u,(encGd N)[j]? = some u → (w.alloc (.cells #[] 77)).cell? (x.add j) = some u) := hZ1.cells
  have HLB : Hid (N.length = n) := hl
  have hnil := fun w => _root_.Go.run_eql_slice_nil (P := Try.prog) w 24 77 (some x) n c Try.underlying24
  dsimp only [Option.isNone] at hnil
  clear hZ hZ1 hl
  go_enter Try.func56,Try.ntmps56
  go_wp2_with (at_builtin; refine wpList_append_own _ rfl _ _ 24 rfl w.heap.size 77 i _ 3 24 Try.underlying24 hi hz0 hz1 hz2 rfl (by decide) _ 0 _ rfl HO.out x n c (encGd N) rfl (by rw [qr,HLB.out]) HC.out (q2s N) (by unfold maxLen; omega) (by omega) (by simp) ?_)
  intro v' w' h1 h2 _
  have HE : Hid _ := HZ.out w' v' (((Below.refl w.heap.size w).alloc (Nat.le_refl _) (.cells #[] 77)).grown h2 (by simp) (qw HO.out)) (by simpa using h1)
  clear h1 h2 HO HC HZ
  go_wp2
  exact HE.out
end Go.Proofs.Ytjpggahiddhanaa
