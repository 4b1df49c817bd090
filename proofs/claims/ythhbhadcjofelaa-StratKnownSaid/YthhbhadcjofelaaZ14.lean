/- Texts of the proof, put together: what it uses. -/
import Derived.OwnWalk
import Derived.Deep.RegionLaw
import Derived.Shelf.Bits.Mul64
import Derived.Test.YthhbhadcjofelaaZ00
import Derived.Test.YthhbhadcjofelaaZ01
import Derived.Test.YthhbhadcjofelaaZ02
import Derived.Test.YthhbhadcjofelaaZ04
import Derived.Test.YthhbhadcjofelaaZ07
set_option maxRecDepth 100000
set_option maxHeartbeats 16000000
namespace Go.Proofs.Ythhbhadcjofelaa
open Go.RowKit Go.Maps
theorem q3S (x y : Nat) (hx : x < 18446744073709551616) (hy : y < 18446744073709551616) (w : World) :
  Calls Try.prog 109 #[.int .u64 x,.int .u64 y] w fun e w' => e = .returned (.tuple #[.int .u64 ((x * y / 18446744073709551616 : Nat) : Int),.int .u64 ((x * y % 18446744073709551616 : Nat) : Int)]) ∧ w' = w := by
 obtain ⟨bd,bt,bw,hhi⟩ := Lib.mul64_hi x y hx hy
 have ba := Lib.half_mul_le (a := x / 4294967296) (b := y / 4294967296) (by omega) (by omega)
 have bb := Lib.half_mul_le (a := x / 4294967296) (b := y % 4294967296) (by omega) (by omega)
 have bc := Lib.half_mul_le (a := x % 4294967296) (b := y / 4294967296) (by omega) (by omega)
 have ba' : x / 4294967296 * (y / 4294967296) < 18446744073709551616 := by omega
 have bb' : x / 4294967296 * (y % 4294967296) < 18446744073709551616 := by omega
 have bc' : x % 4294967296 * (y / 4294967296) < 18446744073709551616 := by omega
 have bh1 : x / 4294967296 * (y / 4294967296) + (x / 4294967296 * (y % 4294967296) + x % 4294967296 * (y % 4294967296) / 4294967296) / 4294967296 < 18446744073709551616 := by omega
 have bh : x / 4294967296 * (y / 4294967296) + (x / 4294967296 * (y % 4294967296) + x % 4294967296 * (y % 4294967296) / 4294967296) / 4294967296 + ((x / 4294967296 * (y % 4294967296) + x % 4294967296 * (y % 4294967296) / 4294967296) % 4294967296 + x % 4294967296 * (y / 4294967296)) / 4294967296 < 18446744073709551616 := by omega
 go_enter Try.func109,Try.ntmps109
 go_wp2
 simp only [Mul64.maskN x hx,Mul64.maskN y hy,Mul64.divN,Mul64.mulN,Mul64.addN,Mul64.wrapN _ bd,Mul64.wrapN _ bb',Mul64.wrapN _ bt,Mul64.maskN _ bt,Mul64.wrapN _ bc',Mul64.wrapN _ bw,Mul64.wrapN _ ba',Mul64.wrapN _ bh1,Mul64.wrapN _ bh,Mul64.wrapM (x * y)]
 rw [hhi]
 go_ret2
 exact ⟨rfl,rfl⟩
theorem q4l (n : Nat) (hn : n ≤ 256) (w : World) :
  Calls Try.prog 100 #[.int .u64 1,.int .u64 (n : Int)] w fun e w' => e = .returned (.tuple #[.int .u64 0,.int .u64 (n : Int)]) ∧ w' = w := by
 have c64 : Calls Try.prog 109 #[.int .u64 1,.int .u64 (n : Int)] w fun e w' => e = .returned (.tuple #[.int .u64 0,.int .u64 (n : Int)]) ∧ w' = w := by
  refine (q3S 1 n (by omega) (by omega) w).mono fun e w' ⟨h1,h2⟩ => ⟨?_,h2⟩
  rw [h1,Nat.one_mul,Nat.div_eq_of_lt (by omega),Nat.mod_eq_of_lt (by omega)]
  rfl
 go_enter Try.func100,Try.ntmps100
 go_wp2_with (go_at_call 109; refine c64.mono ?_; rintro e w' ⟨rfl,hw⟩; rw [hw])
 go_ret2
 exact ⟨rfl,rfl⟩
def repL (n k : Nat) : List Int := List.replicate k (-1) ++ List.replicate (n - k) 0
theorem q3m {n k : Nat} (h : k ≤ n) : (repL n k).length = n := by simp [repL]; omega
theorem q5c {n k i : Nat} (h : i < k) : (repL n k).getD i 0 = -1 := by
 rw [repL,List.getD_eq_getElem?_getD,List.getElem?_append_left (by simpa using h)]
 simp [h]
theorem q4j (n : Nat) : repL n 0 = List.replicate n 0 := by simp [repL]
theorem q4z (n : Nat) : repL n n = List.replicate n (-1) := by simp [repL]
theorem q4A {n k j : Nat} : (repL n k).take k ++ List.replicate j (-1) ++ (repL n k).drop (k + j) = repL n (k + j) := by
 have e1 : (repL n k).take k = List.replicate k (-1) := by
  rw [repL,List.take_append_of_le_length (by simp)]; simp
 have e2 : (repL n k).drop (k + j) = List.replicate (n - (k + j)) 0 := by
  rw [repL,List.drop_append]
  simp
  omega
 rw [e1,e2,List.replicate_append_replicate]; rfl
theorem q3q (x : Addr) (len cap hi : Nat) (h : hi ≤ cap) (w : World) : (Instr.sliceAt 23 (.slice (some x) len cap) none (some (.int .i64 (hi : Int))) none).run Try.prog w = .ok (.slice (some x) hi cap) w := by
 simp [Instr.sliceAt,Instr.slice,run_underlying Try.underlying23,q1c qn,go_sem,h]
theorem q2I (g len cap lo : Nat) (h : lo ≤ len) (hc : lo < cap) (w : World) : (Instr.sliceAt 23 (.slice (some ⟨g,0,none⟩) len cap) (some (.int .i64 (lo : Int))) none none).run Try.prog w = .ok (.slice (some ⟨g,lo,none⟩) (len - lo) (cap - lo)) w := by
 have hne : ¬ cap = lo := by omega
 simp [Instr.sliceAt,Instr.slice,run_underlying Try.underlying23,q1c qn,go_sem,h,hne,qf]
theorem q2k (b n : Nat) (w : World) (hb : RowI w 3 b [-1]) (h1 : 0 < n) (h256 : n ≤ 256) :
  Calls Try.prog 82 #[.slice (some ⟨b,0,none⟩) 1 1,.int .i64 (n : Int)] w fun e w' => Below w.heap.size w w' ∧ e = .returned (.slice (some ⟨w.heap.size,0,none⟩) n n) ∧ RowI w' 3 w.heap.size (List.replicate n (-1)) := by
 obtain ⟨Z,eZ⟩ : ∃ Z : Ending → World → Prop,Z = fun e w' => Below w.heap.size w w' ∧ e = .returned (.slice (some ⟨w.heap.size,0,none⟩) n n) ∧ RowI w' 3 w.heap.size (List.replicate n (-1)) := ⟨_,rfl⟩
 have HZ : Hid (∀ w',Below w.heap.size w w' → RowI w' 3 w.heap.size (repL n n) → Z (.returned (.slice (some ⟨w.heap.size,0,none⟩) n n)) w') := fun w' h1 h2 => by rw [eZ]; exact ⟨h1,rfl,by rw [← q4z]; exact h2⟩
 rw [← eZ]
 clear eZ
 have jm := q4l n h256 w
 have hmk := q36 n (n : Int) rfl (by omega) w
 have hc0 := hb.cell (i := 0) (by simp)
 obtain ⟨w2,hw2⟩ : ∃ w2,w2 = w.alloc (.cells ((List.replicate n (0 : Int)).map (Value.int .i64)).toArray 3) := ⟨_,rfl⟩
 have hR2 : RowI w2 3 w.heap.size (repL n 0) := by rw [hw2,q4j]; exact (MapKept.heap_alloc w _).1
 have hB2 : Below w.heap.size w w2 := by rw [hw2]; exact qb w _
 have hcopy : ∀ (wx : World) (k j x c : Nat),RowI wx 3 w.heap.size (repL n k) → (∀ i,i < j → wx.cell? ⟨x,i,none⟩ = some (.int .i64 (-1))) → j = min c (n - k) → k + j ≤ n → ∀ (ty cp cq : Nat),(Builtin.copy_ #[23,23] ty #[.slice (some ⟨w.heap.size,k,none⟩) (n - k) cp,.slice (some ⟨x,0,none⟩) c cq]).run Try.prog wx = .ok (.int .i64 (j : Int)) (wx.setRow w.heap.size ((repL n (k + j)).map (Value.int .i64)).toArray) := fun wx k j x c hR hc hj hkj ty cp cq => by
  have := run_copy_row (P := Try.prog) wx 23 23 ty 3 w.heap.size k (n - k) cp ⟨x,0,none⟩ c cq _ 3 ((List.replicate j (-1 : Int)).map (Value.int .i64)) Try.underlying23 qn hR (by rw [List.length_map,List.length_replicate]; exact hj) (fun i v hv => by
   rw [List.getElem?_map,List.getElem?_replicate] at hv
   split at hv
   ·rename_i hi
    simp at hv
    rw [← hv,qf,Nat.zero_add]; exact hc i hi
   ·simp at hv) (by simp [q3m (show k ≤ n by omega)]; omega) (fun v hv => by simp at hv; obtain ⟨_,rfl⟩ := hv; rfl)
  rw [this]
  have e : (((repL n k).map (Value.int .i64)).toArray.toList.take k ++ (List.replicate j (-1 : Int)).map (Value.int .i64) ++ ((repL n k).map (Value.int .i64)).toArray.toList.drop (k + ((List.replicate j (-1 : Int)).map (Value.int .i64)).length)) = (repL n (k + j)).map (Value.int .i64) := by
   rw [List.length_map,List.length_replicate]
   show ((repL n k).map (Value.int .i64)).take k ++ _ ++ ((repL n k).map (Value.int .i64)).drop (k + j) = _
   rw [← List.map_take,← List.map_drop,← List.map_append,← List.map_append,q4A]
  rw [e]
  simp [goInt]
 have HC : Hid _ := hcopy
 have hcp0 := hcopy w2 0 1 b 1 hR2 (fun i hi => by
  obtain rfl : i = 0 := by omega
  have := hB2.cell (p := ⟨b,0,none⟩) hb.lt
  rw [this,hc0]; rfl) (by omega) (by omega)
 rw [Nat.zero_add,Nat.sub_zero] at hcp0
 obtain ⟨w3,hw3⟩ : ∃ w3,w3 = w2.setRow w.heap.size ((repL n 1).map (Value.int .i64)).toArray := ⟨_,rfl⟩
 have HR3 : Hid (RowI w3 3 w.heap.size (repL n 1)) := by rw [hw3]; exact setRow_heap _ _ _ _ _ _ hR2
 have HB3 : Hid (Below w.heap.size w w3) := by rw [hw3]; exact q1r hB2 (Nat.le_refl _) _
 rw [← hw3] at hcp0
 rw [← hw2] at hmk
 clear hw2 hw3 hR2 hB2 hcopy hc0 hb
 go_enter Try.func82,Try.ntmps82
 go_wp2_with (go_at_call 100; refine jm.mono ?_; rintro e w' ⟨rfl,hw⟩; rw [hw])
 clear jm hmk hcp0
 go_loopw [8] (fun i wr => ∃ k : Nat,0 < k ∧ k ≤ n ∧ i = .int .i64 (k : Int) ∧ Hid (Below w.heap.size w wr) ∧ Hid (RowI wr 3 w.heap.size (repL n k))) (fun i _ => n - (intOf i).toNat)
 case atStart => exact ⟨1,by omega,by omega,rfl,HB3,HR3⟩
 case round =>
  clear HB3 HR3
  obtain ⟨k,h0,hk,rfl,HB,HR⟩ := hrel
  by_cases hlt : k < n
  ·obtain ⟨j,hj⟩ : ∃ j,j = min k (n - k) := ⟨_,rfl⟩
   have hj1 : 0 < j ∧ k + j ≤ n ∧ j ≤ k := by omega
   have hcell : ∀ i,i < j → wr.cell? ⟨w.heap.size,i,none⟩ = some (.int .i64 (-1)) := fun i hi => by
    rw [HR.out.cell (by rw [q3m hk]; omega),q5c (by omega)]
   have h1 := HC.out wr k j w.heap.size k HR.out hcell hj hj1.2.1
   have h2 := HC.out wr.drew k j w.heap.size k HR.out hcell hj hj1.2.1
   have hf := fun w' => q2I w.heap.size n n k hk hlt w'
   have ht := fun w' => q3q ⟨w.heap.size,0,none⟩ n n k hk w'
   obtain ⟨J,hJ⟩ : ∃ J,J = k + j := ⟨_,rfl⟩
   have hwr : IntKind.i64.wrap ((k : Int) + (j : Int)) = (J : Int) := by rw [IntKind.wrap_i64]; omega
   have hwr2 : (k : Int) + (j : Int) = (J : Int) := by omega
   have hJ2 : 0 < J ∧ J ≤ n ∧ k < J := by omega
   rw [← hJ] at h1 h2
   have HR4 : Hid (∀ q,RowI ((wr.setRow w.heap.size ((repL n J).map (Value.int .i64)).toArray).drewN q) 3 w.heap.size (repL n J)) := fun q => setRow_heap _ _ _ _ _ _ HR.out
   have HB4 : Hid (∀ q,Below w.heap.size w ((wr.setRow w.heap.size ((repL n J).map (Value.int .i64)).toArray).drewN q)) := fun q => below_drewN (q1r HB.out (Nat.le_refl _) _) q
   clear hj hcell HC HR HB hj1 hJ
   generalize ((repL n J).map (Value.int .i64)).toArray = C at *
   generalize n - k = nk at *
   go_wp2
   go_region
   go_wp2
   go_roundw
   case rel => exact ⟨J,hJ2.1,hJ2.2.1,rfl,by first | exact HB4.out 0 | exact HB4.out 1 | exact HB4.out _,by first | exact HR4.out 0 | exact HR4.out 1 | exact HR4.out _⟩
   case measure => simp [intOf]; omega
  ·obtain rfl : k = n := by omega
   have HE : Hid _ := HZ.out wr HB.out HR.out
   clear HZ HB HR HC
   go_wp2
   exact HE.out
end Go.Proofs.Ythhbhadcjofelaa
