/- Texts of the proof, put together: what it uses. -/
import Derived.Shelf.Bits.Mul64
import Derived.Test.YtcnkgokfjafgkaaZ02
import Derived.Test.YtcnkgokfjafgkaaZ06
import Derived.Test.YtcnkgokfjafgkaaZ07
import Derived.Test.YtcnkgokfjafgkaaZ19
import Derived.Test.YtcnkgokfjafgkaaZ21
set_option maxRecDepth 100000
set_option maxHeartbeats 16000000
namespace Go.Proofs.Ytcnkgokfjafgkaa
open Go.RowKit Go.Maps
theorem q7o (x y : Nat) (hx : x < 18446744073709551616) (hy : y < 18446744073709551616) (w : World) :
  Calls Try.prog 91 #[.int .u64 x,.int .u64 y] w fun e w' => e = .returned (.tuple #[.int .u64 ((x * y / 18446744073709551616 : Nat) : Int),.int .u64 ((x * y % 18446744073709551616 : Nat) : Int)]) ∧ w' = w := by
 obtain ⟨bd,bt,bw,hhi⟩ := Lib.mul64_hi x y hx hy
 have ba := Lib.half_mul_le (a := x / 4294967296) (b := y / 4294967296) (by omega) (by omega)
 have bb := Lib.half_mul_le (a := x / 4294967296) (b := y % 4294967296) (by omega) (by omega)
 have bc := Lib.half_mul_le (a := x % 4294967296) (b := y / 4294967296) (by omega) (by omega)
 have ba' : x / 4294967296 * (y / 4294967296) < 18446744073709551616 := by omega
 have bb' : x / 4294967296 * (y % 4294967296) < 18446744073709551616 := by omega
 have bc' : x % 4294967296 * (y / 4294967296) < 18446744073709551616 := by omega
 have bh1 : x / 4294967296 * (y / 4294967296) + (x / 4294967296 * (y % 4294967296) + x % 4294967296 * (y % 4294967296) / 4294967296) / 4294967296 < 18446744073709551616 := by omega
 have bh : x / 4294967296 * (y / 4294967296) + (x / 4294967296 * (y % 4294967296) + x % 4294967296 * (y % 4294967296) / 4294967296) / 4294967296 + ((x / 4294967296 * (y % 4294967296) + x % 4294967296 * (y % 4294967296) / 4294967296) % 4294967296 + x % 4294967296 * (y / 4294967296)) / 4294967296 < 18446744073709551616 := by omega
 go_enter Try.func91,Try.ntmps91
 go_wp2
 simp only [Mul64.maskN x hx,Mul64.maskN y hy,Mul64.divN,Mul64.mulN,Mul64.addN,Mul64.wrapN _ bd,Mul64.wrapN _ bb',Mul64.wrapN _ bt,Mul64.maskN _ bt,Mul64.wrapN _ bc',Mul64.wrapN _ bw,Mul64.wrapN _ ba',Mul64.wrapN _ bh1,Mul64.wrapN _ bh,Mul64.wrapM (x * y)]
 rw [hhi]
 go_ret2
 exact ⟨rfl,rfl⟩
theorem q8I (n : Nat) (hn : n ≤ 256) (w : World) :
  Calls Try.prog 77 #[.int .u64 1,.int .u64 (n : Int)] w fun e w' => e = .returned (.tuple #[.int .u64 0,.int .u64 (n : Int)]) ∧ w' = w := by
 have c64 : Calls Try.prog 91 #[.int .u64 1,.int .u64 (n : Int)] w fun e w' => e = .returned (.tuple #[.int .u64 0,.int .u64 (n : Int)]) ∧ w' = w := by
  refine (q7o 1 n (by omega) (by omega) w).mono fun e w' ⟨h1,h2⟩ => ⟨?_,h2⟩
  rw [h1,Nat.one_mul,Nat.div_eq_of_lt (by omega),Nat.mod_eq_of_lt (by omega)]
  rfl
 go_enter Try.func77,Try.ntmps77
 go_wp2_with (go_at_call 91; refine c64.mono ?_; rintro e w' ⟨rfl,hw⟩; rw [hw])
 go_ret2
 exact ⟨rfl,rfl⟩
def repL (n k : Nat) : List Int := List.replicate k (-1) ++ List.replicate (n - k) 0
theorem q69 {n k : Nat} (h : k ≤ n) : (repL n k).length = n := by simp [repL]; omega
theorem qau {n k i : Nat} (h : i < k) : (repL n k).getD i 0 = -1 := by
 rw [repL,List.getD_eq_getElem?_getD,List.getElem?_append_left (by simpa using h)]
 simp [h]
theorem q8p (n : Nat) : repL n 0 = List.replicate n 0 := by simp [repL]
theorem q9y (n : Nat) : repL n n = List.replicate n (-1) := by simp [repL]
theorem q9z {n k j : Nat} : (repL n k).take k ++ List.replicate j (-1) ++ (repL n k).drop (k + j) = repL n (k + j) := by
 have e1 : (repL n k).take k = List.replicate k (-1) := by
  rw [repL,List.take_append_of_le_length (by simp)]; simp
 have e2 : (repL n k).drop (k + j) = List.replicate (n - (k + j)) 0 := by
  rw [repL,List.drop_append]
  simp
  omega
 rw [e1,e2,List.replicate_append_replicate]; rfl
theorem q6n (x : Addr) (len cap hi : Nat) (h : hi ≤ cap) (w : World) : (Instr.sliceAt 23 (.slice (some x) len cap) none (some (.int .i64 (hi : Int))) none).run Try.prog w = .ok (.slice (some x) hi cap) w := by
 simp [Instr.sliceAt,Instr.slice,run_underlying Try.underlying23,q15 qf,go_sem,h]
theorem q5h (g len cap lo : Nat) (h : lo ≤ len) (hc : lo < cap) (w : World) : (Instr.sliceAt 23 (.slice (some ⟨g,0,none⟩) len cap) (some (.int .i64 (lo : Int))) none none).run Try.prog w = .ok (.slice (some ⟨g,lo,none⟩) (len - lo) (cap - lo)) w := by
 have hne : ¬ cap = lo := by omega
 simp [Instr.sliceAt,Instr.slice,run_underlying Try.underlying23,q15 qf,go_sem,h,hne,q9]
theorem q4q (b n : Nat) (w : World) (hb : RowI w 3 b [-1]) (h1 : 0 < n) (h256 : n ≤ 256) :
  Calls Try.prog 58 #[.slice (some ⟨b,0,none⟩) 1 1,.int .i64 (n : Int)] w fun e w' => Below w.heap.size w w' ∧ e = .returned (.slice (some ⟨w.heap.size,0,none⟩) n n) ∧ RowI w' 3 w.heap.size (List.replicate n (-1)) := by
 obtain ⟨Z,eZ⟩ : ∃ Z : Ending → World → Prop,Z = fun e w' => Below w.heap.size w w' ∧ e = .returned (.slice (some ⟨w.heap.size,0,none⟩) n n) ∧ RowI w' 3 w.heap.size (List.replicate n (-1)) := ⟨_,rfl⟩
 have HZ : Hid (∀ w',Below w.heap.size w w' → RowI w' 3 w.heap.size (repL n n) → Z (.returned (.slice (some ⟨w.heap.size,0,none⟩) n n)) w') := fun w' h1 h2 => by rw [eZ]; exact ⟨h1,rfl,by rw [← q9y]; exact h2⟩
 rw [← eZ]
 clear eZ
 have jm := q8I n h256 w
 have hmk := qT n (n : Int) rfl (by omega) w
 have hc0 := hb.cell (i := 0) (by simp)
 obtain ⟨w2,hw2⟩ : ∃ w2,w2 = w.alloc (.cells ((List.replicate n (0 : Int)).map (Value.int .i64)).toArray 3) := ⟨_,rfl⟩
 have hR2 : RowI w2 3 w.heap.size (repL n 0) := by rw [hw2,q8p]; exact (MapKept.heap_alloc w _).1
 have hB2 : Below w.heap.size w w2 := by rw [hw2]; exact q5 w _
 have hcopy : ∀ (wx : World) (k j x c : Nat),RowI wx 3 w.heap.size (repL n k) → (∀ i,i < j → wx.cell? ⟨x,i,none⟩ = some (.int .i64 (-1))) → j = min c (n - k) → k + j ≤ n → ∀ (ty cp cq : Nat),(Builtin.copy_ #[23,23] ty #[.slice (some ⟨w.heap.size,k,none⟩) (n - k) cp,.slice (some ⟨x,0,none⟩) c cq]).run Try.prog wx = .ok (.int .i64 (j : Int)) (wx.setRow w.heap.size ((repL n (k + j)).map (Value.int .i64)).toArray) := fun wx k j x c hR hc hj hkj ty cp cq => by
  have := run_copy_row (P := Try.prog) wx 23 23 ty 3 w.heap.size k (n - k) cp ⟨x,0,none⟩ c cq _ 3 ((List.replicate j (-1 : Int)).map (Value.int .i64)) Try.underlying23 qf hR (by rw [List.length_map,List.length_replicate]; exact hj) (fun i v hv => by
   rw [List.getElem?_map,List.getElem?_replicate] at hv
   split at hv
   ·rename_i hi
    simp at hv
    rw [← hv,q9,Nat.zero_add]; exact hc i hi
   ·simp at hv) (by simp [q69 (show k ≤ n by omega)]; omega) (fun v hv => by simp at hv; obtain ⟨_,rfl⟩ := hv; rfl)
  rw [this]
  have e : (((repL n k).map (Value.int .i64)).toArray.toList.take k ++ (List.replicate j (-1 : Int)).map (Value.int .i64) ++ ((repL n k).map (Value.int .i64)).toArray.toList.drop (k + ((List.replicate j (-1 : Int)).map (Value.int .i64)).length)) = (repL n (k + j)).map (Value.int .i64) := by
   rw [List.length_map,List.length_replicate]
   show ((repL n k).map (Value.int .i64)).take k ++ _ ++ ((repL n k).map (Value.int .i64)).drop (k + j) = _
   rw [← List.map_take,← List.map_drop,← List.map_append,← List.map_append,q9z]
  rw [e]
  simp [goInt]
 have HC : Hid _ := hcopy
 have hcp0 := hcopy w2 0 1 b 1 hR2 (fun i hi => by
  obtain rfl : i = 0 := by omega
  have := hB2.cell (p := ⟨b,0,none⟩) hb.lt
  rw [this,hc0]; rfl) (by omega) (by omega)
 rw [Nat.zero_add,Nat.sub_zero] at hcp0
 obtain ⟨w3,hw3⟩ : ∃ w3,w3 = w2.setRow w.heap.size ((repL n 1).map (Value.int .i64)).toArray := ⟨_,rfl⟩
 have HR3 : Hid (RowI w3 3 w.heap.size (repL n 1)) := by rw [hw3]; exact setRow_heap _ _ _ _ _ _ hR2
 have HB3 : Hid (Below w.heap.size w w3) := by rw [hw3]; exact qz hB2 (Nat.le_refl _) _
 rw [← hw3] at hcp0
 rw [← hw2] at hmk
 clear hw2 hw3 hR2 hB2 hcopy hc0 hb
 go_enter Try.func58,Try.ntmps58
 go_wp2_with (go_at_call 77; refine jm.mono ?_; rintro e w' ⟨rfl,hw⟩; rw [hw])
 clear jm hmk hcp0
 go_loopw [8] (fun i wr => ∃ k : Nat,0 < k ∧ k ≤ n ∧ i = .int .i64 (k : Int) ∧ Hid (Below w.heap.size w wr) ∧ Hid (RowI wr 3 w.heap.size (repL n k))) (fun i _ => n - (intOf i).toNat)
 case atStart => exact ⟨1,by omega,by omega,rfl,HB3,HR3⟩
 case round =>
  clear HB3 HR3
  obtain ⟨k,h0,hk,rfl,HB,HR⟩ := hrel
  by_cases hlt : k < n
  ·obtain ⟨j,hj⟩ : ∃ j,j = min k (n - k) := ⟨_,rfl⟩
   have hj1 : 0 < j ∧ k + j ≤ n ∧ j ≤ k := by omega
   have hcell : ∀ i,i < j → wr.cell? ⟨w.heap.size,i,none⟩ = some (.int .i64 (-1)) := fun i hi => by
    rw [HR.out.cell (by rw [q69 hk]; omega),qau (by omega)]
   have h1 := HC.out wr k j w.heap.size k HR.out hcell hj hj1.2.1
   have h2 := HC.out wr.drew k j w.heap.size k HR.out hcell hj hj1.2.1
   have hf := fun w' => q5h w.heap.size n n k hk hlt w'
   have ht := fun w' => q6n ⟨w.heap.size,0,none⟩ n n k hk w'
   obtain ⟨J,hJ⟩ : ∃ J,J = k + j := ⟨_,rfl⟩
   have hwr : IntKind.i64.wrap ((k : Int) + (j : Int)) = (J : Int) := by rw [IntKind.wrap_i64]; omega
   have hwr2 : (k : Int) + (j : Int) = (J : Int) := by omega
   have hJ2 : 0 < J ∧ J ≤ n ∧ k < J := by omega
   rw [← hJ] at h1 h2
   have HR4 : Hid (∀ q,RowI ((wr.setRow w.heap.size ((repL n J).map (Value.int .i64)).toArray).drewN q) 3 w.heap.size (repL n J)) := fun q => setRow_heap _ _ _ _ _ _ HR.out
   have HB4 : Hid (∀ q,Below w.heap.size w ((wr.setRow w.heap.size ((repL n J).map (Value.int .i64)).toArray).drewN q)) := fun q => below_drewN (qz HB.out (Nat.le_refl _) _) q
   clear hj hcell HC HR HB hj1 hJ
   generalize ((repL n J).map (Value.int .i64)).toArray = C at *
   generalize n - k = nk at *
   go_wp2
   go_region
   go_wp2
   go_roundw
   case rel => exact ⟨J,hJ2.1,hJ2.2.1,rfl,by first | exact HB4.out 0 | exact HB4.out 1 | exact HB4.out _,by first | exact HR4.out 0 | exact HR4.out 1 | exact HR4.out _⟩
   case measure => simp [intOf]; omega
  ·obtain rfl : k = n := by omega
   have HE : Hid _ := HZ.out wr HB.out HR.out
   clear HZ HB HR HC
   go_wp2
   exact HE.out
def nuBb (c : Nat → Nat) (F : List Nat) : List Int := (List.range 256).map fun d => if d ∈ F.map c then (((F.map c).idxOf d : Nat) : Int) else -1
theorem q2v (c : Nat → Nat) (F : List Nat) : (nuBb c F).length = 256 := by rw [nuBb,List.length_map,List.length_range]
theorem q9k (c : Nat → Nat) : nuBb c [] = List.replicate 256 (-1) := by
 have h := q2c (-1 : Int) (List.range 256)
 rw [List.length_range] at h
 rw [← h,nuBb]
 exact List.map_congr_left fun d _ => if_neg (by simp)
theorem q78 {c : Nat → Nat} {F : List Nat} {d : Nat} (hd : d < 256) : (nuBb c F).getD d 0 = if d ∈ F.map c then (((F.map c).idxOf d : Nat) : Int) else -1 := by
 rw [nuBb,List.getD_eq_getElem?_getD,List.getElem?_map,List.getElem?_range hd]; rfl
theorem q8g {c : Nat → Nat} {F : List Nat} {k : Nat} (hn : c k ∉ F.map c) : (nuBb c F).set (c k) (F.length : Int) = nuBb c (F ++ [k]) := by
 apply List.ext_getElem (by rw [List.length_set,q2v,q2v])
 intro i h1 h2
 rw [List.getElem_set]
 simp only [nuBb,List.getElem_map,List.getElem_range,List.map_append,List.map_cons,List.map_nil]
 by_cases e : c k = i
 ·subst e
  rw [if_pos rfl,if_pos (by simp),List.idxOf_append,if_neg hn]
  simp
 ·rw [if_neg e]
  by_cases hm : i ∈ F.map c
  ·rw [if_pos hm,if_pos (List.mem_append_left _ hm),List.idxOf_append,if_pos hm]
  ·rw [if_neg hm,if_neg (fun h => by
    rcases List.mem_append.1 h with h | h
    ·exact hm h
    ·exact e (List.mem_singleton.1 h).symm)]
theorem q88 (c : Nat → Nat) (k : Nat) : ddP c (List.range (k + 1)) = if c k ∈ (ddP c (List.range k)).map c then ddP c (List.range k) else ddP c (List.range k) ++ [k] := by
 rw [List.range_succ,q2k]; rfl
theorem q8S {n m : Nat} {K : List (List Nat)} (hn : n ≤ 3) (hK : ∀ l ∈ K,l.length = 2 ^ n ∧ ∀ v ∈ l,v < m) (hm : m ≤ 1000) (hl : K.length ≤ 256) {i : Nat} (hi : i < K.length) :
  addG n (stoM n (K.take i)).2 ((K.getD i []).map Int.ofNat) = (((adM n 0 (fnL (K.getD i [])) (stoM n (K.take i)).2).1,0),(stoM n (K.take (i + 1))).2) ∧ (stoM n (K.take i)).2.length ≤ 4096 := by
 have hmem : K.getD i [] ∈ K := by rw [qd hi]; exact List.getElem_mem _
 have f1 := (q1j (n := n) (by omega) hK (i + 1) hi).few
 have f0 := (q1j (n := n) (by omega) hK i (Nat.le_of_lt hi)).few
 have h8 : 2 ^ n ≤ 8 := Nat.le_trans (Nat.pow_le_pow_right (by decide) hn) (by decide)
 have g0 : (K.take i).length * 2 ^ n ≤ 256 * 8 := Nat.mul_le_mul (by rw [List.length_take]; omega) h8
 have g1 : (K.take (i + 1)).length * 2 ^ n ≤ 256 * 8 := Nat.mul_le_mul (by rw [List.length_take]; omega) h8
 refine ⟨?_,by omega⟩
 rw [q1i _ _ hi] at f1 ⊢
 obtain ⟨h1,h2⟩ := hK _ hmem
 have e : ((K.getD i []).map Int.ofNat).map Int.toNat = K.getD i [] := by
  rw [List.map_map]
  exact List.map_id'' (fun x => by simp) _
 generalize K.getD i [] = l at *
 unfold addG stoF
 unfold stoF at f1
 dsimp only at f1
 rw [if_neg,if_neg,e]
 ·rw [e]; omega
 ·rintro (h | h)
  ·exact h (by rw [List.length_map]; exact h1)
  ·refine h fun v hv => ?_
   obtain ⟨x,hx,rfl⟩ := List.mem_map.1 hv
   have := h2 x hx
   simp; omega
theorem qad {w : World} {g base : Nat} {zs : List Int} (h : IzB w g zs) (hb : base ≤ g) (hl : zs.length ≤ 1000) : w.ownsRow base 3 1 (.slice (some ⟨g,0,none⟩) zs.length zs.length) zs.length (zs.map (Value.int .i64)) :=
 ⟨by simp,.inr ⟨g,zs.length,_,rfl,hb,h,Nat.le_refl _,by unfold maxLen; omega,by simp,by rw [Nat.mul_one]; exact List.take_of_length_le (by simp)⟩⟩
def rwC (row : List Nat) (f : Nat → Nat) (k : Nat) : List Int := (row.take k).map (fun t => ((f t : Nat) : Int)) ++ (row.drop k).map Int.ofNat
theorem qaA (row : List Nat) (f : Nat → Nat) (k : Nat) : (rwC row f k).length = row.length := by
 rw [rwC,List.length_append,List.length_map,List.length_map,List.length_take,List.length_drop]; omega
theorem q9F (row : List Nat) (f : Nat → Nat) : rwC row f 0 = row.map Int.ofNat := by simp [rwC]
theorem qaz (row : List Nat) (f : Nat → Nat) : rwC row f row.length = (row.map f).map Int.ofNat := by simp [rwC]
theorem qb1 {row : List Nat} {f : Nat → Nat} {k : Nat} (h : k < row.length) : (rwC row f k).getD k 0 = ((row.getD k 0 : Nat) : Int) := by
 have h1 : ((row.take k).map (fun t => ((f t : Nat) : Int))).length = k := by rw [List.length_map,List.length_take]; omega
 rw [rwC,List.getD_eq_getElem?_getD,List.getElem?_append_right (by omega),h1,Nat.sub_self,List.getElem?_map,List.getElem?_drop,Nat.add_zero,List.getElem?_eq_getElem h,qd h]
 rfl
theorem q9E {row : List Nat} {f : Nat → Nat} {k : Nat} (h : k < row.length) : (rwC row f k).set k ((f (row.getD k 0) : Nat) : Int) = rwC row f (k + 1) := by
 have h1 : ((row.take k).map (fun t => ((f t : Nat) : Int))).length = k := by rw [List.length_map,List.length_take]; omega
 rw [rwC,rwC,List.set_append_right _ _ (by omega),h1,Nat.sub_self,qB h,List.map_append,List.append_assoc]
 congr 1
 rw [List.drop_eq_getElem_cons h]
 rfl
def BsR (p : Int) (R2 : List (List Nat)) (b2 : List Bool) (c : Nat → Nat) (F : List Nat) (w : World) (e : Ending) (w' : World) : Prop :=
 Below w.heap.size w w' ∧ ∃ (gs' : List Int) (N' : List Gd) (a1 : Option Addr) (c1 : Nat) (a2 : Option Addr) (c2 : Nat) (a3 : Option Addr) (c3 : Nat),e = .returned (.tuple #[.agg #[.int .i64 p,.slice a1 F.length c1,.slice a2 F.length c2,.slice a3 N'.length c3],.int .i64 0]) ∧ stoM p.toNat (rowC c F R2) = (gs',N') ∧ OwA w' w.heap.size a1 c1 a2 c2 a3 c3 (accC F b2) gs' N'
theorem q4c {D : PD} {w : World} {FS : Nat → Prop} {T : List PrP} (h : PrS D w FS T) (ok : PDok D) (p : Int) (hp0 : 0 ≤ p) (hp3 : p ≤ 3) (hKp : D.K = 2 ^ p.toNat) (go : Nat) (of : List Nat) (hof : IzB w go (of.map Int.ofNat)) (hol : of.length = T.length + 1) (aA : Option Addr) (cA : Nat) (b2 : List Bool) (hB : BoSl w aA (T.length + 1) cA b2) (hS : T.length + 1 ≤ 256)
  (F : List Nat) (hP : MinP (T.length + 1) D.K (rowsE D.R D.R' D.K T) b2 (fun s => of.getD s 0) (List.range (T.length + 1)) F) (hlt : ∀ s,s < T.length + 1 → of.getD s 0 < T.length + 1) (hbf : BfE D.nA D.nB D.K D.R D.R' (T.length + 1) 0 T) :
  Calls Try.prog 42 #[.pointer (some ⟨D.b,0,none⟩),.int .i64 p,.slice (some ⟨go,0,none⟩) (T.length + 1) (T.length + 1),.slice aA (T.length + 1) cA] w (BsR p (rowsE D.R D.R' D.K T) b2 (fun s => of.getD s 0) F w) := by
 obtain ⟨c,hc⟩ : ∃ c : Nat → Nat,c = fun s => of.getD s 0 := ⟨_,rfl⟩
 rw [← hc] at hP ⊢
 obtain ⟨R2,hR2⟩ : ∃ R2,R2 = rowsE D.R D.R' D.K T := ⟨_,rfl⟩
 rw [← hR2] at hP ⊢
 obtain ⟨Z,eZ⟩ : ∃ Z,Z = BsR p R2 b2 c F w := ⟨_,rfl⟩
 have HZ : Hid (∀ e w',BsR p R2 b2 c F w e w' → Z e w') := fun e w' h => by rw [eZ]; exact h
 rw [← eZ]
 clear eZ
 have HOF : Hid (∀ s,c s = of.getD s 0) := fun s => by rw [hc]
 have HR2 : Hid _ := hR2
 have HH : Hid _ := h
 have HOK : Hid _ := ok
 have HIO : Hid (IzB w go (of.map Int.ofNat)) := hof
 have HBO : Hid _ := hB
 have HP : Hid _ := hP
 have HLT : Hid _ := hlt
 have HBF : Hid (BfE D.nA D.nB D.K D.R D.R' (T.length + 1) 0 T) := hbf
 have HOL : Hid _ := hol
 have HKP : Hid _ := hKp
 clear h ok hof hB hP hlt hbf hol hKp hc hR2
 obtain ⟨w2,hw2⟩ : ∃ w2,w2 = (w.alloc (.cells #[.int .i64 0,.slice none 0 0,.slice none 0 0,.slice none 0 0] 26 (0,0))).alloc (.cells #[.int .i64 (-1)] 3) := ⟨_,rfl⟩
 have hb2 : Below w.heap.size w w2 := by rw [hw2]; exact q7 (q5 w _) (q5 _ _)
 have HR0 : Hid (BkH w2 w.heap.size (auO (.int .i64 0) (.slice none 0 0) (.slice none 0 0) (.slice none 0 0))) := by
  show BkH _ _ _
  rw [hw2]; exact (qy w _).upB (q5 _ _)
 have hm1 : RowI w2 3 (w.heap.size + 1) [-1] := by
  have : BkH w2 (w.heap.size + 1) (.cells #[.int .i64 (-1)] 3) := by rw [hw2]; exact qh (by simp)
  exact this
 have hs2 : w2.heap.size = w.heap.size + 2 := by rw [hw2]; simp
 have jr := q4q (w.heap.size + 1) 256 w2 hm1 (by decide) (Nat.le_refl _)
 rw [hs2] at jr
 have HW2 : Hid _ := hw2
 have HB2 : Hid _ := hb2
 clear hw2 hb2 hm1
 generalize hSS : T.length + 1 = S at *
 have HSS : Hid _ := hSS
 clear hSS
 go_enter Try.func42,Try.ntmps42
 go_wp2_with (rw [← HW2.out])
 refine jr.mono ?_
 rintro e w3 ⟨hb3,rfl,hnu⟩
 have HB3 : Hid _ := q7 HB2.out (by rw [← hs2] at hb3; exact hb3)
 have HN3 : Hid (IzB w3 (w.heap.size + 2) (nuBb c (ddP c (List.range 0)))) := by
  show IzB _ _ _
  rw [show ddP c (List.range 0) = [] from rfl,q9k]; exact hnu
 have HR3 : Hid (BkH w3 w.heap.size (auO (.int .i64 0) (.slice none 0 0) (.slice none 0 0) (.slice none 0 0))) := BkH.upB HR0.out (by rw [← hs2] at hb3; exact hb3)
 clear jr hb3 hnu HR0 HW2 HB2 hs2
 go_wp2
 go_loopw [11,28] (fun v i wr => ∃ k : Nat,k ≤ S ∧ i = .int .i64 (k : Int) ∧ Hid (IzB wr (w.heap.size + 2) (nuBb c (ddP c (List.range k)))) ∧ Hid (wr.ownsRow (w.heap.size + 3) 3 1 v (ddP c (List.range k)).length (izV (ddP c (List.range k)))) ∧ Hid (Below w.heap.size w wr) ∧ Hid (BkH wr w.heap.size (auO (.int .i64 0) (.slice none 0 0) (.slice none 0 0) (.slice none 0 0)))) (fun _ i _ => S - (intOf i).toNat)
 case atStart => exact ⟨0,Nat.zero_le _,rfl,HN3,⟨rfl,.inl ⟨rfl,rfl⟩⟩,HB3,HR3⟩
 case round =>
  clear HN3 HB3 HR3
  obtain ⟨k,hk,rfl,HN,HO,HB,HRR⟩ := hrel
  obtain ⟨fa,fc,rfl⟩ := qe HO.out
  by_cases hlt : k < S
  ·have co := (HIO.out.up HB.out).cell (i := k) (by rw [List.length_map,HOL.out]; exact hlt)
   rw [qD (by rw [HOL.out]; exact hlt),← HOF.out] at co
   have ixo := fun w' => qg go S S k hlt w'
   have hcl : c k < 256 := by rw [HOF.out]; have := HLT.out k hlt; omega
   have cn := HN.out.cell (i := c k) (by rw [q2v]; exact hcl)
   rw [q78 hcl] at cn
   have fn := HN.out.fz (c k)
   have ixn := fun w' => qg (w.heap.size + 2) 256 256 (c k) hcl w'
   have HDD : Hid _ := q88 c k
   have hFl : (ddP c (List.range k)).length ≤ 256 := by
    have h1 := qr (n := 256) (q2a c (List.range k)) (fun x hx => by
     rw [q2l] at hx
     obtain ⟨y,hy,rfl⟩ := List.mem_map.1 hx
     rw [HOF.out]
     have := HLT.out y (by have := List.mem_range.1 hy; omega)
     omega)
    rw [List.length_map] at h1; exact h1
   by_cases hm : c k ∈ (ddP c (List.range k)).map c
   ·rw [if_pos hm] at cn HDD
    have hne : ((((ddP c (List.range k)).map c).idxOf (c k) : Nat) : Int) ≠ -1 := by omega
    rw [← HDD.out] at HN HO ⊢
    generalize ((ddP c (List.range k)).map c).idxOf (c k) = ix at *
    clear HDD
    go_wp2
    go_roundw
    case rel => exact ⟨k + 1,by omega,by go_num,HN,HO,HB,HRR⟩
    case measure => simp [intOf]; omega
   ·rw [if_neg hm] at cn HDD
    have HNX : Hid _ := q8g (c := c) hm
    have hlow : (w.heap.size + 2) < wr.heap.size := HN.out.lt
    have HN1 : Hid (IzB (wr.setCell ⟨w.heap.size + 2,c k,none⟩ (.int .i64 ((ddP c (List.range k)).length : Int))) (w.heap.size + 2) (nuBb c (ddP c (List.range (k + 1))))) := by
     show IzB _ _ _
     rw [HDD.out,← HNX.out]; exact HN.out.set _ _
    have hO1 : (wr.setCell ⟨w.heap.size + 2,c k,none⟩ (.int .i64 ((ddP c (List.range k)).length : Int))).ownsRow (w.heap.size + 3) 3 1 (.slice fa (ddP c (List.range k)).length fc) (ddP c (List.range k)).length (izV (ddP c (List.range k))) := q1W HO.out (by dsimp only; omega) _
    have HB1 : Hid (Below w.heap.size w (wr.setCell ⟨w.heap.size + 2,c k,none⟩ (.int .i64 ((ddP c (List.range k)).length : Int)))) := HB.out.setCell (by dsimp only; omega) _
    have HRR1 : Hid (BkH (wr.setCell ⟨w.heap.size + 2,c k,none⟩ (.int .i64 ((ddP c (List.range k)).length : Int))) w.heap.size (auO (.int .i64 0) (.slice none 0 0) (.slice none 0 0) (.slice none 0 0))) := q1Z HRR.out (by omega) _
    have HS1 : Hid (w.heap.size + 3 ≤ (wr.setCell ⟨w.heap.size + 2,c k,none⟩ (.int .i64 ((ddP c (List.range k)).length : Int))).heap.size) := by show _ ≤ _; simp; omega
    obtain ⟨w4,hw4⟩ : ∃ w4,w4 = wr.setCell ⟨w.heap.size + 2,c k,none⟩ (.int .i64 ((ddP c (List.range k)).length : Int)) := ⟨_,rfl⟩
    rw [← hw4] at HN1 hO1 HB1 HRR1 HS1
    have HW4 : Hid _ := hw4
    have hO := World.ownsRow.alloc hO1 (.cells #[.int .i64 (k : Int)] 3)
    have hcl4 : (w4.alloc (.cells #[.int .i64 (k : Int)] 3)).cell? ⟨w4.heap.size,0,none⟩ = some (.int .i64 (k : Int)) := q6 (MapKept.heap_alloc w4 _).1 0
    have hsz : w.heap.size + 3 ≤ (w4.alloc (.cells #[.int .i64 (k : Int)] 3)).heap.size := by have := HS1.out; simp; omega
    have HOG : Hid _ := qm hO1
    have HNX5 : Hid (∀ w5 : World,(w4.alloc (.cells #[.int .i64 (k : Int)] 3)).grownBy w5 (Value.slice fa (ddP c (List.range k)).length fc).ownBlock → IzB w5 (w.heap.size + 2) (nuBb c (ddP c (List.range (k + 1)))) ∧ Below w.heap.size w w5 ∧ BkH w5 w.heap.size (auO (.int .i64 0) (.slice none 0 0) (.slice none 0 0) (.slice none 0 0))) := fun w5 hgr => by
     have hbb := q7 HB1.out (q5 w4 (.cells #[.int .i64 (k : Int)] 3))
     have h4 := HS1.out
     exact ⟨(qv hgr (by omega) (fun e => by have := HOG.out _ e; omega)).trans HN1.out,hbb.grown hgr hbb.size (fun q e => by have := HOG.out q e; omega),(qv hgr (by omega) (fun e => by have := HOG.out _ e; omega)).trans HRR1.out⟩
    have hi7 : (ddP c (List.range k)).length + 1 ≤ 2000000 := by omega
    have HDL : Hid ((ddP c (List.range (k + 1))).length = (ddP c (List.range k)).length + 1) := by show _ = _; rw [HDD.out,List.length_append]; rfl
    clear HN HO HB HRR HN1 hO1 HB1 HRR1 HS1 HOG HNX hw4 hm hFl
    generalize hfk : ddP c (List.range k) = FK at *
    clear hfk
    generalize hdl : FK.length = dl at *
    clear hdl
    generalize c k = d at *
    go_wp2_with (first | (rw [← HW4.out]) | (at_builtin; refine qQ rfl _ _ rfl (w.heap.size + 3) _ dl FK rfl hO w4.heap.size k rfl hcl4 hi7 hsz ?_))
    intro g5 c5 w5 hown hgr _
    obtain ⟨n1,n2,n3⟩ := HNX5.out w5 hgr
    have HN5 : Hid (IzB w5 (w.heap.size + 2) (nuBb c (ddP c (List.range (k + 1))))) := n1
    have HB5 : Hid _ := n2
    have HR5 : Hid (BkH w5 w.heap.size (auO (.int .i64 0) (.slice none 0 0) (.slice none 0 0) (.slice none 0 0))) := n3
    have HO5 : Hid (w5.ownsRow (w.heap.size + 3) 3 1 (.slice (some ⟨g5,0,none⟩) (dl + 1) c5) (ddP c (List.range (k + 1))).length (izV (ddP c (List.range (k + 1))))) := by
     show World.ownsRow _ _ _ _ _ _ _
     rw [HDL.out,HDD.out]; exact hown
    clear n1 n2 n3 HNX5 hown hgr hO hcl4 hsz HDD HDL HW4 cn fn co
    go_wp2
    go_roundw
    case rel => exact ⟨k + 1,by omega,by go_num,HN5,HO5,HB5,HR5⟩
    case measure => simp [intOf]; omega
  ·obtain rfl : k = S := by omega
   have hFe : ddP c (List.range k) = F := HP.out.hF.symm
   rw [hFe] at HN HO ⊢
   have hFl : F.length ≤ k := HP.out.len
   have HFL : Hid (LsB wr (w.heap.size) (.slice none 0 0) fa F) := q2n (vq := .slice none 0 0) HO.out (by omega) (fun _ e => by cases e)
   have HK8 : Hid (2 ^ p.toNat ≤ 8) := Nat.le_trans (Nat.pow_le_pow_right (by decide) (show p.toNat ≤ 3 by omega)) (by decide)
   obtain ⟨w4,hw4⟩ : ∃ w4,w4 = wr := ⟨_,rfl⟩
   subst hw4
   obtain ⟨w5,hw5⟩ : ∃ w5,w5 = w4.alloc (.cells #[.int .i64 p,.slice none 0 0,.slice none 0 0,.slice none 0 0] 26 (0,0)) := ⟨_,rfl⟩
   have hb5 : Below w4.heap.size w4 w5 := by rw [hw5]; exact q5 _ _
   have hm5 : w5.heap[w4.heap.size]? = some (.cells #[.int .i64 p,.slice none 0 0,.slice none 0 0,.slice none 0 0] 26 (0,0)) := by rw [hw5]; exact (MapKept.heap_alloc w4 _).1
   have HW5 : Hid _ := hw5
   have HB5 : Hid _ := hb5
   have HM5 : Hid _ := hm5
   have jn := q2X p w5
   have HN4 : Hid (IzB w4 (w.heap.size + 2) (nuBb c F)) := HN.out
   have HR4 : Hid (BkH w4 w.heap.size (auO (.int .i64 0) (.slice none 0 0) (.slice none 0 0) (.slice none 0 0))) := HRR.out
   have HB4 : Hid _ := HB.out
   have h4s : w.heap.size + 3 ≤ w4.heap.size := by have := HN.out.lt; omega
   clear hw5 hb5 hm5 HN HO HB HRR hFe
   go_wp2_with (rw [← HW5.out])
   refine jn.mono ?_
   rintro e w6 ⟨hb6,⟨h1,_⟩ | ⟨_,_,g1,F1,rfl,hF1,hst⟩⟩
   ·exact absurd ⟨hp0,by omega⟩ h1
   have HK0 : Hid (SmM w4 w6 w4.heap.size g1 p.toNat F1 p (.slice none 0 0) (.slice none 0 0) 0 (accC (F.take 0) b2) (stoM p.toNat ((rowC c F R2).take 0)).1 (stoM p.toNat ((rowC c F R2).take 0)).2) :=
    ⟨(hb6.block _ (Array.getElem?_eq_some_iff.1 HM5.out).1).trans HM5.out,⟨rfl,.inl ⟨rfl,rfl⟩⟩,⟨rfl,.inl ⟨rfl,rfl⟩⟩,hst,fun k hk => Nat.le_trans HB5.out.size (hF1 k hk),Nat.le_refl _,q7 HB5.out hb6⟩
   clear jn hb6 hF1 hst HW5 HM5 HB5
   generalize hm0 : w4.heap.size = m0 at *
   have Hm0 : Hid _ := hm0
   clear hm0
   go_wp2
   go_loopw [57] (fun j wr => ∃ (i : Nat) (av gv : Value) (Fs : Nat → Prop),i ≤ F.length ∧ j = .int .i64 (i : Int) ∧ Hid (SmM w4 wr m0 g1 p.toNat Fs p av gv i (accC (F.take i) b2) (stoM p.toNat ((rowC c F R2).take i)).1 (stoM p.toNat ((rowC c F R2).take i)).2)) (fun j _ => F.length - (intOf j).toNat)
   case atStart => exact ⟨0,_,_,F1,Nat.zero_le _,rfl,HK0⟩
   case round =>
    obtain ⟨i,av,gv,Fs,hi,rfl,HS⟩ := hrel
    clear HK0
    have hbw := HB4.out.trans (HS.out.bel.mono HB4.out.size)
    by_cases hlt : i < F.length
    ·obtain ⟨gf,rfl,cf⟩ := LsB.cell HFL.out (i := i) hlt
     have hbl : Below w4.heap.size w4 wr := HS.out.bel
     have cf := q8 cf hbl
     have ixf := fun w' => qg gf F.length fc i hlt w'
     have hqn := HP.out.ltn hlt
     obtain ⟨hm1,hm2⟩ := HBF.out.mt HOK.out.nA HOK.out.nB (i := F.getD i 0) (by rw [HSS.out]; exact hqn)
     have hbfS := HBF.out
     rw [← HSS.out] at hbfS
     have jw := q6v (HH.out.up hbw) (F.getD i 0) (by rw [HSS.out]; exact hqn) HOK.out.k2 HOK.out.rA HOK.out.rB HOK.out.a2 HOK.out.b2 hm1 hm2 (fun l hl => hbfS.all (Nat.le_refl _) HOK.out.nB HOK.out.rB (by rw [HSS.out]; exact hqn) hl)
     have hrow : R2.getD (F.getD i 0) [] = rowEb D.R D.R' D.K T (F.getD i 0) := by rw [HR2.out,q2y (by rw [HSS.out]; exact hqn)]
     rw [← hrow] at jw
     have hrl : (R2.getD (F.getD i 0) []).length = D.K := by rw [hrow,q1C]
     have hrlt : ∀ l,l < D.K → (R2.getD (F.getD i 0) []).getD l 0 < k := fun l hl => HP.out.hR.lt _ l hqn hl
     have hK : i < (rowC c F R2).length := by rw [HP.out.rows.len]; exact hlt
     have hlists : ∀ l ∈ rowC c F R2,l.length = 2 ^ p.toNat ∧ ∀ v ∈ l,v < F.length := fun l hl => by rw [← HKP.out]; exact HP.out.lists l hl
     have hadd := q8S (n := p.toNat) (by omega) hlists (by omega) (by rw [HP.out.rows.len]; omega) hK
     have HADD : Hid _ := hadd.1
     have HNL : Hid _ := hadd.2
     have HNX : Hid _ := q1i p.toNat (rowC c F R2) hK
     have HACC : Hid _ := q4K (bs := b2) hlt
     have hkl : (rowC c F R2).getD i [] = (R2.getD (F.getD i 0) []).map (nmP c F) := q2r hlt
     rw [hkl] at HADD HNX
     have hgb : b2.getD (F.getD i 0) false = b2[F.getD i 0]'(by rw [HBO.out.hlen]; exact hqn) := qd _ _
     have hixb := fun w' => (HBO.out.at (F.getD i 0) hqn).1 k w' hqn
     have HCB : Hid (∀ wx,Below w.heap.size w wx → wx.cell? (adOf aA (F.getD i 0)) = some (.bool (b2.getD (F.getD i 0) false))) := fun wx hx => by rw [hgb]; exact ((HBO.out.up hx).at (F.getD i 0) hqn).2
     have HBW : Hid _ := hbw
     have HRL : Hid _ := hrl
     have HRLT : Hid _ := hrlt
     obtain ⟨w7,hw7⟩ : ∃ w7,w7 = wr := ⟨_,rfl⟩
     subst hw7
     clear hbw hbl hK hgb hkl hrow hadd hlists hm1 hm2 hbfS hrl hrlt
     generalize F.getD i 0 = q at *
     generalize b2.getD q false = zb at *
     generalize R2.getD q [] = row at *
     generalize adOf aA q = adb at *
     obtain ⟨bg,bo,bz⟩ := adb
     go_wp2_with fail
     refine jw.mono ?_
     rintro e w8 ⟨hb8,gw,rfl,hgw,hiz⟩
     have HI8 : Hid (IzB w8 gw (rwC row (nmP c F) 0)) := by show IzB _ _ _; rw [q9F]; exact hiz
     have HB8 : Hid _ := hb8
     clear jw hb8 hiz cf ixf
     go_wp2
     go_loopw [66] (fun j wr => ∃ (k : Nat),k ≤ D.K ∧ j = .int .i64 (k : Int) ∧ Hid (IzB wr gw (rwC row (nmP c F) k)) ∧ Hid (Below w7.heap.size w7 wr)) (fun j _ => D.K - (intOf j).toNat)
     case atStart => exact ⟨0,Nat.zero_le _,rfl,HI8,HB8⟩
     case round =>
      clear HI8 HB8
      obtain ⟨l,hl,rfl,HI,HB⟩ := hrel
      have hk256 := HOK.out.k2
      have hb4r : Below w4.heap.size w4 wr := HS.out.bel.trans (HB.out.mono HS.out.bel.size)
      have hbwr := HB4.out.trans (hb4r.mono HB4.out.size)
      by_cases hlK : l < D.K
      ·have hlr : l < row.length := by rw [HRL.out]; exact hlK
       have cw := HI.out.cell (i := l) (by rw [qaA]; exact hlr)
       rw [qb1 hlr] at cw
       have fw := HI.out.fz l
       have ixw := fun w' => qg gw D.K D.K l hlK w'
       have ht := HRLT.out l hlK
       have HNX2 : Hid _ := q9E (f := nmP c F) hlr
       have hmm := HP.out.mem (q := row.getD l 0) (List.mem_range.2 ht)
       have hct : c (row.getD l 0) < 256 := by rw [HOF.out]; have := HLT.out _ ht; omega
       have co := (HIO.out.up hbwr).cell (i := row.getD l 0) (by rw [List.length_map,HOL.out]; exact ht)
       rw [qD (by rw [HOL.out]; exact ht),← HOF.out] at co
       have ixo := fun w' => qg go k k (row.getD l 0) ht w'
       have cn := (IzB.up HN4.out hb4r).cell (i := c (row.getD l 0)) (by rw [q2v]; exact hct)
       rw [q78 hct,if_pos hmm,show (F.map c).idxOf (c (row.getD l 0)) = nmP c F (row.getD l 0) from rfl] at cn
       have ixn := fun w' => qg (w.heap.size + 2) 256 256 (c (row.getD l 0)) hct w'
       have HI2 : Hid (IzB (wr.setCell ⟨gw,l,none⟩ (.int .i64 ((nmP c F (row.getD l 0) : Nat) : Int))) gw (rwC row (nmP c F) (l + 1))) := by
        show IzB _ _ _
        rw [← HNX2.out]; exact HI.out.set _ _
       have HB2 : Hid (Below w7.heap.size w7 (wr.setCell ⟨gw,l,none⟩ (.int .i64 ((nmP c F (row.getD l 0) : Nat) : Int)))) := HB.out.setCell (by dsimp only; exact hgw) _
       clear HI HB HNX2 hmm hb4r hbwr
       generalize nmP c F (row.getD l 0) = z at *
       generalize c (row.getD l 0) = d at *
       generalize row.getD l 0 = t at *
       go_wp2
       go_roundw
       case rel => exact ⟨l + 1,by omega,by go_num,HI2,HB2⟩
       case measure => simp [intOf]; omega
      ·obtain rfl : l = D.K := by omega
       have hI2 : IzB wr gw ((row.map (nmP c F)).map Int.ofNat) := by
        have := HI.out
        rw [← HRL.out,qaz] at this
        exact this
       have hkll : ((row.map (nmP c F)).map Int.ofNat).length = D.K := by rw [List.length_map,List.length_map]; exact HRL.out
       have hro := qad hI2 hgw (by rw [hkll]; omega)
       rw [hkll] at hro
       obtain ⟨ra',rc',er,hrz,hrn,_⟩ := q13 hro Try.underlying23 qf
       injection er with er1 _ er3
       subst er1 er3
       have hS1 := HS.out.up HB.out
       have ja := q2V g1 p.toNat (by omega) ((row.map (nmP c F)).map Int.ofNat) (some ⟨gw,0,none⟩) D.K D.K _ Fs wr hrz (fun j hj hf => Nat.lt_irrefl _ (Nat.lt_of_lt_of_le (HS.out.st.lt _ hf) (hrn j hj))) hS1.st HNL.out
       rw [HADD.out] at ja
       have HS1 : Hid _ := hS1
       clear hro hrz hrn hS1 hI2 hkll HI hb4r hbwr
       generalize hkle : row.map (nmP c F) = kl at *
       clear hkle
       go_wp2_with fail
       refine ja.mono ?_
       rintro e w2 ⟨rfl,F2,hst2,hfr2⟩
       dsimp only at hst2
       have hS2 := HS1.out.add hfr2 hst2
       have hb2 : Below w4.heap.size w4 w2 := hS2.bel
       have hbw2 := HB4.out.trans (hb2.mono HB4.out.size)
       have m1 := hS2.c1
       have hcb := HCB.out w2 hbw2
       have hbA := q5 w2 (.cells #[.bool zb] 4)
       have m1b : (w2.alloc (.cells #[.bool zb] 4)).cell? ⟨m0,1,none⟩ = some av := q8 m1 hbA
       have hO : (w2.alloc (.cells #[.bool zb] 4)).drew.ownsRow m0 4 1 av i ((accC (F.take i) b2).map Value.bool) := by rw [← Hm0.out]; exact World.ownsRow.alloc hS2.ac _
       have hBB : (w2.alloc (.cells #[.bool zb] 4)).drew.heap[w2.heap.size]? = some (.cells #[.bool zb] 4 (0,0)) := (MapKept.heap_alloc w2 _).1
       have hbs : m0 ≤ (w2.alloc (.cells #[.bool zb] 4)).drew.heap.size := by have h1 := hb2.size; have h2 := Hm0.out; simp; omega
       have HPUT : Hid (∀ w5 v',(w2.alloc (.cells #[.bool zb] 4)).drew.grownBy w5 av.ownBlock → w5.ownsRow m0 4 1 v' (i + 1) ((accC (F.take i) b2 ++ [zb]).map Value.bool) → w5.cell? ⟨m0,1,none⟩ = some av ∧ w5.frozen? ⟨m0,1,none⟩ = false ∧ ((w5.setCell ⟨m0,1,none⟩ v').heap[m0]? = some (.cells #[.int .i64 p,v',gv,.slice none 0 0] 26 (0,0)) ∧
         (w5.setCell ⟨m0,1,none⟩ v').ownsRow w4.heap.size 4 1 v' (i + 1) ((accC (F.take i) b2 ++ [zb]).map Value.bool) ∧ (w5.setCell ⟨m0,1,none⟩ v').ownsRow w4.heap.size 3 1 gv i ((stoM p.toNat ((rowC c F R2).take i)).1.map (Value.int .i64)) ∧ StG (w5.setCell ⟨m0,1,none⟩ v') F2 g1 p.toNat (stoM p.toNat ((rowC c F R2).take (i + 1))).2 ∧ Below w4.heap.size w4 (w5.setCell ⟨m0,1,none⟩ v'))) := fun w5 v' q1 q2 => by
        have := hS2.acc (w1 := (w2.alloc (.cells #[.bool zb] 4)).drew) (q7 (q5 w2 _) ((Below.refl _ _).drew)) q1 (by rw [Hm0.out]; exact q2)
        exact ⟨q6 this.1 1,frozen_of_row w5 _ 1 _ _ this.1,this.2⟩
       have HF2 : Hid _ := hS2.fge
       clear ja hst2 hfr2 HS1 hb2 hbw2 hbA hS2 HCB HB HS
       generalize accC (F.take i) b2 = acci at *
       rw [HNX.out] at HPUT
       unfold stoF at HPUT
       dsimp only at HPUT ⊢
       generalize hrf : (adM p.toNat 0 (fnL kl) (stoM p.toNat ((rowC c F R2).take i)).2).1 = rf at *
       go_upto_region 10 with fail
       go_region_law ((refine q2Y rfl _ _ rfl m0 av i acci zb w2.heap.size rfl rfl hO hBB (by omega) hbs ?_; intro v5 w5 hown5 hgr5; obtain ⟨a5,k5,rfl⟩ := qe hown5; have m5 := HPUT.out w5 _ hgr5 hown5; have c5 := m5.1; have z5 := m5.2.1; have HN5 : Hid _ := m5.2.2; clear m5))
       all_goals
        obtain ⟨n1,n2,n3,n4,n5⟩ := HN5.out
        generalize hw6 : w5.setCell ⟨m0,1,none⟩ (.slice a5 (i + 1) k5) = w6 at *
        clear hw6
        have m2 : w6.cell? ⟨m0,2,none⟩ = some gv := q6 n1 2
        have hO7 : (w6.alloc (.cells #[.int .i64 rf] 3)).ownsRow m0 3 1 gv i ((stoM p.toNat ((rowC c F R2).take i)).1.map (Value.int .i64)) := by rw [← Hm0.out]; exact World.ownsRow.alloc n3 _
        have hc7 : (w6.alloc (.cells #[.int .i64 rf] 3)).cell? ⟨w6.heap.size,0,none⟩ = some (.int .i64 rf) := q6 (MapKept.heap_alloc w6 _).1 0
        have hbs7 : m0 ≤ (w6.alloc (.cells #[.int .i64 rf] 3)).heap.size := by have h1 := n5.size; have h2 := Hm0.out; simp; omega
        have HG7 : Hid (∀ w7 v',(w6.alloc (.cells #[.int .i64 rf] 3)).grownBy w7 gv.ownBlock → w7.ownsRow m0 3 1 v' (i + 1) (((stoM p.toNat ((rowC c F R2).take i)).1 ++ [rf]).map (Value.int .i64)) → w7.cell? ⟨m0,2,none⟩ = some gv ∧ w7.frozen? ⟨m0,2,none⟩ = false ∧ SmM w4 (w7.setCell ⟨m0,2,none⟩ v') m0 g1 p.toNat F2 p (.slice a5 (i + 1) k5) v' (i + 1) (accC (F.take (i + 1)) b2) (stoM p.toNat ((rowC c F R2).take (i + 1))).1 (stoM p.toNat ((rowC c F R2).take (i + 1))).2) := fun w7 v' q1 q2 => by
         have := SmM.gus (w1 := w6.alloc (.cells #[.int .i64 rf] 3)) n1 n2 n3 n4 HF2.out (by rw [Hm0.out]; exact Nat.le_refl _) n5 (q5 w6 _) q1 (by rw [Hm0.out]; exact q2)
         refine ⟨q6 this.1 2,frozen_of_row w7 _ 2 _ _ this.1,?_⟩
         have h2 := this.2
         rw [HACC.out,HNX.out]
         unfold stoF
         dsimp only
         rw [hrf]
         exact h2
        have HO7 : Hid _ := hO7
        have hi7 : i + 1 ≤ 2000000 := by omega
        clear HN5 n1 n2 n3 n4 n5 c5 z5 hown5 hgr5 hO hBB hbs HPUT m1 m1b hcb hixb hrf hO7 HACC HNX HADD HNL
        go_wp2_with (at_builtin; refine qS rfl _ _ rfl m0 _ i _ rfl HO7.out w6.heap.size rf rfl hc7 hi7 hbs7 ?_)
        intro v7 w7 hq7 hg7
        obtain ⟨a7,k7,rfl⟩ := qe hq7
        obtain ⟨x1,x2,x3⟩ := HG7.out w7 _ hg7 (by rw [List.map_append]; exact hq7)
        have HS7 : Hid _ := x3
        clear hq7 hg7 HG7 HO7 hc7 x3 m2
        go_wp2
        go_roundw
        case rel => exact ⟨i + 1,_,_,_,by omega,by go_num,HS7⟩
        case measure => simp [intOf]; omega
    ·obtain rfl : i = F.length := by omega
     have hK : (rowC c F R2).length = F.length := HP.out.rows.len
     have HSF : Hid _ := HS.out
     have hFk : F.length ≤ 256 := by omega
     rw [List.take_length,show F.length = (rowC c F R2).length from hK.symm,List.take_length,hK] at HSF
     rcases est : stoM p.toNat (rowC c F R2) with ⟨gs',N'⟩
     rw [est] at HSF
     dsimp only at HSF
     have HAN : Hid (stoM p.toNat (rowC c F R2) = (gs',N')) := est
     have hfew : N'.length ≤ 4096 := by
      have hlists : ∀ l ∈ rowC c F R2,l.length = 2 ^ p.toNat ∧ ∀ v ∈ l,v < F.length := fun l hl => by rw [← HKP.out]; exact HP.out.lists l hl
      have f1 := (q1j (n := p.toNat) (by omega) hlists _ (Nat.le_refl _)).few
      rw [List.take_length,est,hK] at f1
      have h8 := HK8.out
      have := Nat.mul_le_mul (show F.length ≤ 256 by omega) h8
      dsimp only at f1
      omega
     have jd := q2h HSF.out.st (by omega)
     have hRr := (HSF.out.bel.block (w.heap.size) (by have := Hm0.out; omega)).trans HR4.out
     have HRR : Hid _ := hRr
     have hgl : gs'.length = F.length := by
      have := HSF.out.gu.1
      simpa using this
     clear hRr HS hfew hK est hbw
     go_wp2_with fail
     refine jd.mono ?_
     rintro e w2 ⟨hb2,nv,rfl,hno⟩
     obtain ⟨an,cn,rfl⟩ := qe hno
     obtain ⟨aa,ca,rfl⟩ := qe HSF.out.ac
     obtain ⟨ag,cg,rfl⟩ := qe HSF.out.gu
     have hS2 := HSF.out.up hb2
     have hR2 := (hb2.block _ (Array.getElem?_eq_some_iff.1 HRR.out).1).trans HRR.out
     have y0 : w2.cell? ⟨m0,0,none⟩ = some (.int .i64 p) := q6 hS2.blk 0
     have y1 : w2.cell? ⟨m0,1,none⟩ = some (.slice aa F.length ca) := q6 hS2.blk 1
     have y2 : w2.cell? ⟨m0,2,none⟩ = some (.slice ag F.length cg) := q6 hS2.blk 2
     have y3 : w2.cell? ⟨m0,3,none⟩ = some (.slice none 0 0) := q6 hS2.blk 3
     have f3 : w2.frozen? ⟨m0,3,none⟩ = false := frozen_of_row w2 _ 3 _ _ hS2.blk
     have r0 : w2.cell? ⟨w.heap.size,0,none⟩ = some (.int .i64 0) := q6 hR2 0
     have r1 : w2.cell? ⟨w.heap.size,1,none⟩ = some (.slice none 0 0) := q6 hR2 1
     have r2 : w2.cell? ⟨w.heap.size,2,none⟩ = some (.slice none 0 0) := q6 hR2 2
     have r3 : w2.cell? ⟨w.heap.size,3,none⟩ = some (.slice none 0 0) := q6 hR2 3
     have g0 : w2.frozen? ⟨w.heap.size,0,none⟩ = false := frozen_of_row w2 _ 0 _ _ hR2
     have g1' : w2.frozen? ⟨w.heap.size,1,none⟩ = false := frozen_of_row w2 _ 1 _ _ hR2
     have g2 : w2.frozen? ⟨w.heap.size,2,none⟩ = false := frozen_of_row w2 _ 2 _ _ hR2
     have g3 : w2.frozen? ⟨w.heap.size,3,none⟩ = false := frozen_of_row w2 _ 3 _ _ hR2
     have hne : m0 ≠ w.heap.size := by omega
     have hne2 : ¬ w.heap.size = m0 := fun e => hne e.symm
     have hfin := q5U (x0 := .int .i64 p) (x1 := .slice aa F.length ca) (x2 := .slice ag F.length cg) (x3 := .slice an N'.length cn) hS2.blk hR2 hne
     have hbF : Below w.heap.size w (finW w2 m0 (w.heap.size) (.int .i64 p) (.slice aa F.length ca) (.slice ag F.length cg) (.slice an N'.length cn)) := q4O (HB4.out.trans (hS2.bel.mono HB4.out.size)) (by omega) (by omega)
     obtain ⟨WF,hWF⟩ : ∃ WF,WF = ((((w2.setCell ⟨m0,3,none⟩ (.slice an N'.length cn)).setCell ⟨w.heap.size,0,none⟩ (.int .i64 p)).setCell ⟨w.heap.size,1,none⟩ (.slice aa F.length ca)).setCell ⟨w.heap.size,2,none⟩ (.slice ag F.length cg)).setCell ⟨w.heap.size,3,none⟩ (.slice an N'.length cn) := ⟨_,rfl⟩
     have hWF2 : finW w2 m0 (w.heap.size) (.int .i64 p) (.slice aa F.length ca) (.slice ag F.length cg) (.slice an N'.length cn) = WF := hWF.symm
     rw [hWF2] at hfin hbF
     have HWF : Hid _ := hWF
     have HFN : Hid _ := hfin.1
     clear hWF hWF2
     have HEF : Hid (Z (.returned (.tuple #[.agg #[.int .i64 p,.slice aa F.length ca,.slice ag F.length cg,.slice an N'.length cn],.int .i64 0])) WF) := by
      refine HZ.out _ _ ⟨hbF,gs',N',aa,ca,ag,cg,an,cn,rfl,HAN.out,?_⟩
      have h4 := HB4.out.size
      refine ⟨?_,?_,qx (hfin.2 _ _ _ _ _ _ (by decide) hno) ?_,fun t ht => HSF.out.st.ok t ht⟩
      ·rw [q19]; exact qx (hfin.2 _ _ _ _ _ _ (by decide) hS2.ac) h4
      ·rw [q19]; exact qx (hfin.2 _ _ _ _ _ _ (by decide) hS2.gu) h4
      ·have := HSF.out.bel.size; omega
     clear jd hb2 hno hS2 hR2 hfin hbF HSF HAN HRR
     go_wp2
     rw [← HWF.out]
     have z0 := q6 HFN.out 0
     have z1 := q6 HFN.out 1
     have z2 := q6 HFN.out 2
     have z3 := q6 HFN.out 3
     refine bodyPost_ret (v := .tuple #[.agg #[.int .i64 p,.slice aa F.length ca,.slice ag F.length cg,.slice an N'.length cn],.int .i64 0]) ?_ rfl HEF.out
     simp at z0 z1 z2 z3
     simp [results,Try.results42,go_sem,z0,z1,z2,z3]
end Go.Proofs.Ytcnkgokfjafgkaa
