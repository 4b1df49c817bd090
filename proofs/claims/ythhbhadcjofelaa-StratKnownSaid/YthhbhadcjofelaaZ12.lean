/- Texts of the proof, put together: what it uses. -/
import Derived.Deep.RegionLaw
import Derived.Test.YthhbhadcjofelaaZ00
import Derived.Test.YthhbhadcjofelaaZ08
import Derived.Test.YthhbhadcjofelaaZ11
set_option maxRecDepth 100000
set_option maxHeartbeats 16000000
namespace Go.Proofs.Ythhbhadcjofelaa
open Go.RowKit Go.Maps Go.Sort
theorem LeaS.one (f : Nat → Int) : LeaS f 1 0 := ⟨Nat.zero_lt_one,fun i hi => by
 obtain rfl : i = 0 := by omega
 exact ⟨Int.le_refl _,fun h => absurd h (Nat.lt_irrefl _)⟩⟩
def keyB (G : GmP) (R : List Int) (q c i : Nat) : Int := soZ (R.getD (G.t q (c ||| (mvL G.y).getD i 0)) 0)
theorem q2Z (G : GmP) (q c b0 b1 b2 b3 : Nat) (aR : Option Addr) (cR : Nat) (R : List Int) (w : World) (hO : GmO G) (hW : GmW G w) (hR : ZSl w aR G.nA cR R) (hq : q < G.nA) (hc : c &&& G.x = c) (hK : CapB G w b0 b1 b2 b3 q c aR cR) :
  Calls Try.prog 88 #[.slice G.aS (mvL G.y).length G.cS,.func (.func 85) #[] #[.pointer (some ⟨b3,0,none⟩),.pointer (some ⟨b0,0,none⟩),.pointer (some ⟨b1,0,none⟩),.pointer (some ⟨b2,0,none⟩)]] w fun e w' => Below w.heap.size w w' ∧ ∃ j : Nat,LeaS (keyB G R q c) (mvL G.y).length j ∧ e = .returned (.int .u8 (((mvL G.y).getD j 0 : Nat) : Int)) := by
 obtain ⟨Q,hQ⟩ : ∃ Q : Ending → World → Prop,Q = fun e w' => Below w.heap.size w w' ∧ ∃ j : Nat,LeaS (keyB G R q c) (mvL G.y).length j ∧ e = .returned (.int .u8 (((mvL G.y).getD j 0 : Nat) : Int)) := ⟨_,rfl⟩
 have HQ : Hid (∀ w' j,Below w.heap.size w w' → LeaS (keyB G R q c) (mvL G.y).length j → Q (.returned (.int .u8 (((mvL G.y).getD j 0 : Nat) : Int))) w') := fun w' j h1 h2 => by rw [hQ]; exact ⟨h1,j,h2,rfl⟩
 rw [← hQ]
 clear hQ
 have hkb := ql G.y
 have hkp := qF G.y
 have HC : Hid (∀ w',Below w.heap.size w w' → LtC w' G.aS (mvL G.y).length G.cS (mvL G.y)) := fun w' hb => (hW.up hb).ls
 have HJ : Hid (∀ wr i j,Below w.heap.size w wr → i < (mvL G.y).length → j < (mvL G.y).length → Calls Try.prog 85 #[.int .u8 (((mvL G.y).getD i 0 : Nat) : Int),.int .u8 (((mvL G.y).getD j 0 : Nat) : Int),.pointer (some ⟨b3,0,none⟩),.pointer (some ⟨b0,0,none⟩),.pointer (some ⟨b1,0,none⟩),.pointer (some ⟨b2,0,none⟩)] wr fun e w' => Below wr.heap.size wr w' ∧ ∃ z : Int,e = .returned (.int .i64 z) ∧ (z < 0 ↔ keyB G R q c i < keyB G R q c j)) := fun wr i j hb hi hj => by
  refine (q1Q G q c b0 b1 b2 b3 _ _ aR cR R wr hO (hW.up hb) (hR.up hb) hq hc (qi hi).2 (qi hj).2 (hK.up hb)).mono ?_
  rintro e w' ⟨h1,z,rfl,h2⟩
  exact ⟨h1,z,rfl,decide_eq_decide.1 h2⟩
 clear hO hW hR hc hK
 generalize hL : (mvL G.y).length = K at *
 have HL : Hid _ := hL
 clear hL
 have e0 : decide ((K : Int) < 1) = false := decide_eq_false (by omega)
 have h00 := HC.out w (Below.refl _ _)
 have ix0 : ∀ w',(Instr.indexAt 31 (.slice G.aS K G.cS) (.int .i64 0)).run Try.prog w' = .ok (.pointer (some (adOf G.aS 0))) w' := fun w' => h00.idx K 0 w' hkp (Nat.le_refl _)
 have ce0 := h00.cell 0 hkp
 rw [qh (by rw [HL.out]; exact hkp)] at ce0
 clear h00
 obtain ⟨m0,hm0⟩ : ∃ m,m = (mvL G.y).getD 0 0 := ⟨_,rfl⟩
 rw [← hm0] at ce0
 have HM0 : Hid _ := hm0
 clear hm0
 generalize adOf G.aS 0 = ak at *
 obtain ⟨ak1,ak2,ak3⟩ := ak
 go_enter Try.func88,Try.ntmps88
 go_wp2
 clear ix0 ce0 e0
 go_loopw [5,6] (fun u i wr => ∃ k j : Nat,1 ≤ k ∧ k ≤ K ∧ j < K ∧ u = .int .u8 (((mvL G.y).getD j 0 : Nat) : Int) ∧ i = .int .i64 (k : Int) ∧ Hid (LeaS (keyB G R q c) k j) ∧ Hid (Below w.heap.size w wr)) (fun _ i _ => K - (intOf i).toNat)
 case atStart => exact ⟨1,0,Nat.le_refl _,hkp,hkp,by rw [HM0.out],rfl,LeaS.one _,Below.refl _ _⟩
 case round =>
  obtain ⟨k,j,hk1,hk,hj,rfl,rfl,HLS,HB⟩ := hrel
  clear HM0
  by_cases hlt : k < K
  ·have e1 : decide ((k : Int) < (K : Int)) = true := decide_eq_true (by omega)
   have hl := HC.out wr HB.out
   have ixk := fun w' => hl.idx K k w' hlt (Nat.le_refl _)
   have cek := hl.cell k hlt
   rw [qh (by rw [HL.out]; exact hlt)] at cek
   have jj := HJ.out wr k j HB.out hlt hj
   have HK2 : Hid (∀ w',Below wr.heap.size wr w' → w'.cell? (adOf G.aS k) = some (.int .u8 (((mvL G.y).getD k 0 : Nat) : Int))) := fun w' hb => by
    have h := (HC.out w' (q9 HB.out hb)).cell k hlt
    rw [qh (by rw [HL.out]; exact hlt)] at h
    exact h
   have HN1 : Hid (keyB G R q c k < keyB G R q c j → LeaS (keyB G R q c) (k + 1) k) := HLS.out.take
   have HN2 : Hid (¬ keyB G R q c k < keyB G R q c j → LeaS (keyB G R q c) (k + 1) j) := HLS.out.keep
   have HMK : Hid (((mvL G.y).getD k 0 : Nat) = (mvL G.y).getD k 0) := rfl
   clear hl HLS
   generalize (keyB G R q c k < keyB G R q c j) = P at *
   obtain ⟨mk,hmk⟩ : ∃ m,m = (mvL G.y).getD k 0 := ⟨_,rfl⟩
   rw [← hmk] at cek jj HK2
   have HMM : Hid _ := hmk
   obtain ⟨mj,hmj⟩ : ∃ m,m = (mvL G.y).getD j 0 := ⟨_,rfl⟩
   rw [← hmj] at jj
   rw [← hmj]
   have HMJ : Hid _ := hmj
   clear hmk hmj HMK
   generalize adOf G.aS k = ak at *
   obtain ⟨ak1,ak2,ak3⟩ := ak
   go_wp2_with fail
   refine jj.mono ?_
   rintro e w2 ⟨hb2,z,rfl,hz⟩
   have cek2 := HK2.out w2 hb2
   have HB2 : Hid (Below w.heap.size w w2) := q9 HB.out hb2
   clear jj hb2 HK2 cek
   by_cases hz0 : z < 0
   ·have e2 : decide (z < 0) = true := decide_eq_true hz0
    have HP : Hid _ := HN1.out (hz.1 hz0)
    clear hz HN1 HN2
    go_wp2
    go_roundw
    case rel => exact ⟨k + 1,k,by omega,by omega,hlt,by rw [HMM.out],by go_num,HP,HB2⟩
    case measure => simp [intOf]; omega
   ·have e2 : decide (z < 0) = false := decide_eq_false hz0
    have HP : Hid _ := HN2.out fun h => hz0 (hz.2 h)
    clear hz HN1 HN2
    go_wp2
    go_roundw
    case rel => exact ⟨k + 1,j,by omega,by omega,hj,by rw [HMJ.out],by go_num,HP,HB2⟩
    case measure => simp [intOf]; omega
  ·obtain rfl : k = K := by omega
   have e1 : decide ((k : Int) < (k : Int)) = false := by simp
   have HE : Hid _ := HQ.out wr j HB.out HLS.out
   clear HQ HJ HC HLS
   go_wp2
   exact HE.out
theorem q4Q (G : GmP) (q c : Nat) (aR : Option Addr) (cR : Nat) (w : World) : ∃ w4,w4 = (((w.alloc (.cells G.cs 64 (0,0))).alloc (.cells #[.int .i64 (q : Int)] 3 (0,0))).alloc (.cells #[.int .u8 (c : Int)] 27 (0,0))).alloc (.cells #[.slice aR G.nA cR] 23 (0,0)) ∧ Below w.heap.size w w4 ∧ CapB G w4 w.heap.size (w.heap.size + 1) (w.heap.size + 1 + 1) (w.heap.size + 1 + 1 + 1) q c aR cR := by
 have e : ∀ (w : World) (o : Obj),(w.alloc o).heap.size = w.heap.size + 1 := fun w o => by simp
 obtain ⟨w1,hw1,b1,k1,s1⟩ := qI G w
 obtain ⟨w2,hw2⟩ : ∃ w2,w2 = w1.alloc (.cells #[.int .i64 (q : Int)] 3 (0,0)) := ⟨_,rfl⟩
 have b2 : Below w1.heap.size w1 w2 := by rw [hw2]; exact qb _ _
 have k2 : w2.heap[w1.heap.size]? = some (.cells #[.int .i64 (q : Int)] 3 (0,0)) := by rw [hw2]; exact (MapKept.heap_alloc w1 _).1
 have s2 : w2.heap.size = w.heap.size + 1 + 1 := by rw [hw2,e,s1]
 obtain ⟨w3,hw3⟩ : ∃ w3,w3 = w2.alloc (.cells #[.int .u8 (c : Int)] 27 (0,0)) := ⟨_,rfl⟩
 have b3 : Below w2.heap.size w2 w3 := by rw [hw3]; exact qb _ _
 have k3 : w3.heap[w2.heap.size]? = some (.cells #[.int .u8 (c : Int)] 27 (0,0)) := by rw [hw3]; exact (MapKept.heap_alloc w2 _).1
 have s3 : w3.heap.size = w.heap.size + 1 + 1 + 1 := by rw [hw3,e,s2]
 obtain ⟨w4,hw4⟩ : ∃ w4,w4 = w3.alloc (.cells #[.slice aR G.nA cR] 23 (0,0)) := ⟨_,rfl⟩
 have b4 : Below w3.heap.size w3 w4 := by rw [hw4]; exact qb _ _
 have k4 : w4.heap[w3.heap.size]? = some (.cells #[.slice aR G.nA cR] 23 (0,0)) := by rw [hw4]; exact (MapKept.heap_alloc w3 _).1
 refine ⟨w4,by rw [hw4,hw3,hw2,hw1],q9 (q9 (q9 b1 b2) b3) b4,?_,?_,?_,?_⟩
 ·exact ((k1.up b2).up b3).up b4
 ·rw [← s1]; exact (b4.block _ (by rw [s3,s1]; omega)).trans ((b3.block _ (by rw [s2,s1]; omega)).trans k2)
 ·rw [← s2]; exact (b4.block _ (by rw [s3,s2]; omega)).trans k3
 ·rw [← s3]; exact k4
theorem q2J (G : GmP) (q c : Nat) (aR : Option Addr) (cR : Nat) (R : List Int) (w : World) (hO : GmO G) (hW : GmW G w) (hR : ZSl w aR G.nA cR R) (hq : q < G.nA) (hc : c &&& G.x = c) :
  Calls Try.prog 56 #[G.v,.int .i64 (q : Int),.int .u8 (c : Int),.slice aR G.nA cR] w fun e w' => Below w.heap.size w w' ∧ ∃ j : Nat,LeaS (keyB G R q c) (mvL G.y).length j ∧ e = .returned (.int .u8 (((mvL G.y).getD j 0 : Nat) : Int)) := by
 obtain ⟨w4,hw4,hb4,hk4⟩ := q4Q G q c aR cR w
 have HW4 : Hid _ := hw4
 have HB4 : Hid (Below w.heap.size w w4) := hb4
 have jm := q2Z G q c _ _ _ _ aR cR R w4 hO (hW.up hb4) (hR.up hb4) hq hc hk4
 have c7 := hk4.all.c7
 have hmf : ∀ (fn : Fn) (first cap : Array Value) (w : World),(Instr.makeFunc fn first cap).run Try.prog w = .ok (.func fn first cap) w := fun _ _ _ _ => rfl
 clear hw4 hb4 hk4 hO hW hR hc
 go_enter Try.func56,Try.ntmps56
 go_wp2_with (rw [← HW4.out])
 refine jm.mono ?_
 rintro e w5 ⟨hb5,j,hj,rfl⟩
 have HJ : Hid _ := hj
 have HB5 : Hid (Below w.heap.size w w5) := q9 HB4.out hb5
 clear jm hj hb5
 go_wp2
 go_ret
 exact ⟨HB5.out,j,HJ.out,rfl⟩
theorem LtRow.sl {w : World} {g : Nat} {ts : List Nat} (h : LtRow w g (ts.map Int.ofNat)) (hl : ts.length ≤ 1000) : LtC w (some ⟨g,0,none⟩) ts.length ts.length ts := by
 have had : ∀ k,adOf (some (⟨g,0,none⟩ : Addr)) k = ⟨g,k,none⟩ := fun k => by simp [adOf,qf]
 refine ⟨by simp,Nat.le_refl _,by unfold maxLen; omega,fun m k w' hk hm => ?_,fun k hk => ?_,fun k hk => by rw [had]; exact (Array.getElem?_eq_some_iff.1 h).1,(fun e => by cases e)⟩
 ·exact qk (P := Try.prog) (T := 31) Try.underlying31 q1Y (a := some ⟨g,0,none⟩) (cap := ts.length) (n := m) (fun e => by cases e) k w' hk
 ·rw [had,q8 h]
  simp [List.getElem?_eq_getElem hk,List.getD_eq_getElem?_getD]
theorem RowI.sl {w : World} {g : Nat} {zs : List Int} (h : RowI w 3 g zs) (hl : zs.length ≤ 1000) : ZSl w (some ⟨g,0,none⟩) zs.length zs.length zs := by
 have had : ∀ k,adOf (some (⟨g,0,none⟩ : Addr)) k = ⟨g,k,none⟩ := fun k => by simp [adOf,qf]
 refine ⟨rfl,Nat.le_refl _,by unfold maxLen; omega,fun m k w' hk hm => ?_,fun k hk => by rw [had]; exact h.cell hk,fun k hk => by rw [had]; exact h.lt,(fun e => by cases e)⟩
 exact qk (P := Try.prog) (T := 23) Try.underlying23 qn (a := some ⟨g,0,none⟩) (cap := zs.length) (n := m) (fun e => by cases e) k w' hk
structure GoM (w : World) (g : Nat) (hs : List Nat) (L S : Nat) (rs : List (List Int)) : Prop where
 out : w.heap[g]? = some (.cells ((hs.map fun h => Value.slice (some ⟨h,0,none⟩) S S) ++ List.replicate (L - hs.length) (Value.slice none 0 0)).toArray 23 (0,0))
 row : ∀ j,j < hs.length → RowI w 3 (hs.getD j 0) (rs.getD j [])
 lt : ∀ j,j < hs.length → g < hs.getD j 0
 inc : ∀ i j,i < j → j < hs.length → hs.getD i 0 < hs.getD j 0
theorem GoM.up {w w' : World} {g : Nat} {hs : List Nat} {L S : Nat} {rs : List (List Int)} (h : GoM w g hs L S rs) (hb : Below w.heap.size w w') : GoM w' g hs L S rs :=
 ⟨(hb.block g (Array.getElem?_eq_some_iff.1 h.out).1).trans h.out,fun j hj => (h.row j hj).up hb,h.lt,h.inc⟩
theorem GoM.put {w : World} {g : Nat} {hs : List Nat} {L S x : Nat} {rs : List (List Int)} (h : GoM w g hs L S rs) (hk : hs.length < L) (hx : RowI w 3 x (rs.getD hs.length [])) (hl : g < x) (hi : ∀ j,j < hs.length → hs.getD j 0 < x) :
  GoM (w.setCell ⟨g,hs.length,none⟩ (.slice (some ⟨x,0,none⟩) S S)) g (hs ++ [x]) L S rs := by
 have hg : ∀ j,j < hs.length → (hs ++ [x]).getD j 0 = hs.getD j 0 := fun j hj => by rw [List.getD_eq_getElem?_getD,List.getElem?_append_left hj,← List.getD_eq_getElem?_getD]
 have he : (hs ++ [x]).getD hs.length 0 = x := by simp [List.getD_eq_getElem?_getD]
 refine ⟨?_,fun j hj => ?_,fun j hj => ?_,fun i j hij hj => ?_⟩
 ·rw [heap_setCell_same w g hs.length _ _ _ h.out]
  congr 2
  rw [List.setIfInBounds_toArray]
  congr 1
  rw [List.set_append_right _ _ (by simp),List.length_map,Nat.sub_self]
  obtain ⟨d,hd⟩ : ∃ d,L - hs.length = d + 1 := ⟨L - hs.length - 1,by omega⟩
  have hd2 : L - (hs ++ [x]).length = d := by simp; omega
  rw [hd,hd2,List.replicate_succ,List.set_cons_zero]
  simp
 ·rw [List.length_append,List.length_singleton] at hj
  by_cases e : j = hs.length
  ·subst e; rw [he]; exact hx.other (by omega) _ _
  ·rw [hg j (by omega)]
   have := h.lt j (by omega)
   exact (h.row j (by omega)).other (by omega) _ _
 ·rw [List.length_append,List.length_singleton] at hj
  by_cases e : j = hs.length
  ·subst e; rw [he]; exact hl
  ·rw [hg j (by omega)]; exact h.lt j (by omega)
 ·rw [List.length_append,List.length_singleton] at hj
  by_cases e : j = hs.length
  ·subst e; rw [he,hg i hij]; exact hi i hij
  ·rw [hg j (by omega),hg i (by omega)]; exact h.inc i j hij (by omega)
theorem GoM.zz {w : World} {g : Nat} {hs : List Nat} {L S : Nat} {rs : List (List Int)} (h : GoM w g hs L S rs) (hk : hs.length = L) (hL : L ≤ 1000) (hS : S ≤ 1000) (hr : rs.length = L) (hrs : ∀ j,j < L → (rs.getD j []).length = S) (hz : ∀ r ∈ rs,∀ z ∈ r,I64 z) :
  ZzSl w (some ⟨g,0,none⟩) L L ((List.range L).map fun j => ⟨some ⟨hs.getD j 0,0,none⟩,S,S,rs.getD j []⟩) ∧ (((List.range L).map fun j => (⟨some ⟨hs.getD j 0,0,none⟩,S,S,rs.getD j []⟩ : Zc)).map Zc.zs) = rs := by
 refine ⟨⟨by simp,Nat.le_refl _,by unfold maxLen; omega,(fun e => by cases e),fun x hx k hk2 => ?_,fun r hr2 => ?_⟩,?_⟩
 ·injection hx with hx
  subst hx
  have hk3 : k < L := by simpa using hk2
  have := q8 h.out k
  rw [qf,Nat.zero_add,this]
  simp [List.getElem?_append_left (show k < (hs.map fun h => Value.slice (some ⟨h,0,none⟩) S S).length by simp; omega),List.getElem?_eq_getElem (show k < hs.length by omega),List.getD_eq_getElem?_getD]
 ·obtain ⟨j,hj,rfl⟩ := List.mem_map.1 hr2
  have hj2 := List.mem_range.1 hj
  have h1 := (h.row j (by omega)).sl (by rw [hrs j hj2]; exact hS)
  rw [hrs j hj2] at h1
  refine ⟨h1,fun z hzz => hz _ ?_ z hzz⟩
  show rs.getD j [] ∈ rs
  rw [List.getD_eq_getElem?_getD,List.getElem?_eq_getElem (by omega)]
  exact List.getElem_mem _
 ·apply List.ext_getElem (by simp [hr])
  intro i h1 h2
  simp [List.getD_eq_getElem?_getD,List.getElem?_eq_getElem h2]
theorem q3N : (Try.prog.info? 23).map (fun i => (i.zero,i.size,i.bytes)) = some (some (.slice none 0 0),1,24) := by kernel_rfl
theorem q3i (n : Nat) : madeCells #[.slice none 0 0] n = (List.replicate n (Value.slice none 0 0)).toArray := by
 apply Array.ext_getElem?
 intro i
 by_cases h : i < n
 ·simp [madeCells,h,Nat.mod_one]
 ·simp [madeCells,h]
theorem q3Q (c : Nat) (hb : c ≤ 1000000) (w : World) :
  (Instr.makeSlice 50 (.int .i64 (c : Int)) (.int .i64 (c : Int))).run Try.prog w = .ok (.slice (some ⟨w.heap.size,0,none⟩) c c) (w.alloc (.cells (Array.replicate c (Value.slice none 0 0)) 23)) := by
 obtain ⟨i,hi,hz0,hz1,hz2⟩ := info_parts q3N
 have := run_make (P := Try.prog) w 50 23 i (.slice none 0 0) Try.underlying50 hi hz0 .i64 .i64 c c (by omega) (by omega) (by rw [hz2]; omega) (by omega)
 rw [this,hz1,← List.toArray_replicate,← q3i]
 simp only [Int.toNat_natCast,Nat.mul_one]
 rfl
def GosR (p : Int) (nA : Nat) (bs : List Bool) (N : List Gd) (gs : List Int) (x y : Nat) (q : Int) (w : World) (e : Ending) (w' : World) : Prop :=
 Below w.heap.size w w' ∧ ∃ X : Int,((X ≠ 0 ∧ e = .returned (.tuple #[.slice none 0 0,.int .i64 X]) ∧ Hid (GoeN p nA bs N gs x y q X [])) ∨
  (X = 0 ∧ ChkN p nA bs N gs x y 0 ∧ ∃ k g hs,q = ((k : Nat) : Int) ∧ k < nA ∧ w.heap.size ≤ g ∧ hs.length = (mvL x).length ∧ e = .returned (.tuple #[.slice (some ⟨g,0,none⟩) (mvL x).length (mvL x).length,.int .i64 0]) ∧ Hid (GoM w' g hs (mvL x).length (mvL y).length (goeL p N gs x y k))))
def rplL (ts : List Nat) (L : Nat) : List Int := ts.map Int.ofNat ++ List.replicate (L - ts.length) 0
theorem q4F {ts : List Nat} {L : Nat} (h : ts.length ≤ L) : (rplL ts L).length = L := by simp [rplL]; omega
theorem q4E (ts : List Nat) : rplL ts ts.length = ts.map Int.ofNat := by simp [rplL]
theorem q4G {ts : List Nat} {L : Nat} (h : ts.length < L) (v : Nat) : (rplL ts L).set ts.length (v : Int) = rplL (ts ++ [v]) L := by
 unfold rplL
 rw [List.set_append_right _ _ (by simp)]
 have e : L - ts.length = (L - (ts ++ [v]).length) + 1 := by simp; omega
 rw [e,List.replicate_succ]
 simp
def RplA (G : GmP) (R : List Int) (q : Nat) (ts : List Nat) : Prop := ∀ i,i < ts.length → ∃ j,LeaS (keyB G R q ((mvL G.x).getD i 0)) (mvL G.y).length j ∧ ts.getD i 0 = (mvL G.y).getD j 0
theorem RplA.snoc {G : GmP} {R : List Int} {q : Nat} {ts : List Nat} (h : RplA G R q ts) {j : Nat} (hj : LeaS (keyB G R q ((mvL G.x).getD ts.length 0)) (mvL G.y).length j) : RplA G R q (ts ++ [(mvL G.y).getD j 0]) := fun i hi => by
 rw [List.length_append,List.length_singleton] at hi
 rcases Nat.lt_succ_iff_lt_or_eq.1 hi with h1 | rfl
 ·obtain ⟨k,hk1,hk2⟩ := h i h1
  exact ⟨k,hk1,by rw [← hk2]; simp [List.getD_eq_getElem?_getD,List.getElem?_append_left h1]⟩
 ·exact ⟨j,hj,by simp [List.getD_eq_getElem?_getD]⟩
theorem q1G (G : GmP) (q : Nat) (aR : Option Addr) (cR : Nat) (R : List Int) (w : World) (hO : GmO G) (hW : GmW G w) (hR : ZSl w aR G.nA cR R) (hq : q < G.nA) :
  Calls Try.prog 34 #[G.v,.int .i64 (q : Int),.slice aR G.nA cR] w fun e w' => Below w.heap.size w w' ∧ ∃ ts : List Nat,e = .returned (.slice (some ⟨w.heap.size + 1,0,none⟩) (mvL G.x).length (mvL G.x).length) ∧ ts.length = (mvL G.x).length ∧ Hid (LtRow w' (w.heap.size + 1) (ts.map Int.ofNat)) ∧ Hid (RplA G R q ts) := by
 obtain ⟨Q,hQ⟩ : ∃ Q : Ending → World → Prop,Q = fun e w' => Below w.heap.size w w' ∧ ∃ ts : List Nat,e = .returned (.slice (some ⟨w.heap.size + 1,0,none⟩) (mvL G.x).length (mvL G.x).length) ∧ ts.length = (mvL G.x).length ∧ Hid (LtRow w' (w.heap.size + 1) (ts.map Int.ofNat)) ∧ Hid (RplA G R q ts) := ⟨_,rfl⟩
 have HQ : Hid (∀ w' ts,Below w.heap.size w w' → ts.length = (mvL G.x).length → LtRow w' (w.heap.size + 1) (ts.map Int.ofNat) → RplA G R q ts → Q (.returned (.slice (some ⟨w.heap.size + 1,0,none⟩) (mvL G.x).length (mvL G.x).length)) w') := fun w' ts h1 h2 h3 h4 => by rw [hQ]; exact ⟨h1,ts,rfl,h2,h3,h4⟩
 rw [← hQ]
 clear hQ
 have hkb := ql G.x
 obtain ⟨w1,hw1,hb1,hk1,hs1⟩ := qI G w
 have HW1 : Hid _ := hw1
 obtain ⟨w2,hw2⟩ : ∃ w2,w2 = w1.alloc (.cells ((allTo 0 (mvL G.x).length).map (Value.int .u8)).toArray 27) := ⟨_,rfl⟩
 have HW2 : Hid _ := hw2
 have hb2 : Below w1.heap.size w1 w2 := by rw [hw2]; exact qb _ _
 have HR0 : Hid (LtRow w2 w1.heap.size (rplL [] (mvL G.x).length)) := by
  have e : rplL [] (mvL G.x).length = List.replicate (mvL G.x).length 0 := by simp [rplL]
  rw [e,hw2,q3j]; exact (MapKept.heap_alloc w1 _).1
 have hmk := fun w => q17 (mvL G.x).length (by omega) w
 have HB02 : Hid (∀ w',Below w1.heap.size w1 w' → Below w.heap.size w w') := fun w' hb => q9 hb1 hb
 have HC : Hid (∀ w',Below w1.heap.size w1 w' → GmB G w' w.heap.size ∧ GmW G w' ∧ ZSl w' aR G.nA cR R) := fun w' hb => ⟨hk1.up hb,(hW.up hb1).up hb,(hR.up hb1).up hb⟩
 have HO : Hid (GmO G) := hO
 have HAT : Hid (∀ i,i < (mvL G.x).length → (mvL G.x).getD i 0 < 256 ∧ (mvL G.x).getD i 0 &&& G.x = (mvL G.x).getD i 0) := fun i hi => qi hi
 have HYT : Hid (∀ i,i < (mvL G.y).length → (mvL G.y).getD i 0 < 256) := fun i hi => (qi hi).1
 have HB2 : Hid _ := hb2
 have HS1 : Hid (w1.heap.size = w.heap.size + 1) := hs1
 rw [← hs1] at HQ
 have c6 := q8 hk1 6
 have c6b := qd c6 hb2
 clear hw1 hb1 hk1 hW hR hO hw2 hb2 hs1
 go_enter Try.func34,Try.ntmps34
 go_wp2_with (first | rw [← HW2.out] | rw [← HW1.out])
 clear c6 c6b hmk
 go_loopw [17] (fun i wr => ∃ ts : List Nat,ts.length ≤ (mvL G.x).length ∧ i = .int .i64 ((ts.length : Nat) : Int) ∧ Hid (LtRow wr w1.heap.size (rplL ts (mvL G.x).length)) ∧ Hid (RplA G R q ts) ∧ Hid (Below w1.heap.size w1 wr)) (fun i _ => (mvL G.x).length - (intOf i).toNat)
 case atStart => exact ⟨[],Nat.zero_le _,rfl,HR0,fun i hi => absurd hi (Nat.not_lt_zero _),HB2⟩
 case round =>
  obtain ⟨ts,hk,rfl,HR,HA,HB⟩ := hrel
  clear HR0 HB2
  by_cases hlt : ts.length < (mvL G.x).length
  ·have e1 : decide ((ts.length : Int) < ((mvL G.x).length : Int)) = true := decide_eq_true (by omega)
   obtain ⟨hg,hw,hr⟩ := HC.out wr HB.out
   have c0 := q8 hg 0
   have c1 := q8 hg 1
   have c2 := q8 hg 2
   have c3 := q8 hg 3
   have c4 := q8 hg 4
   have c5 := q8 hg 5
   have c6 := q8 hg 6
   have c7 := q8 hg 7
   have ixe := fun w' => hw.le.idx _ ts.length w' hlt (Nat.le_refl _)
   have cee := hw.le.cell ts.length hlt
   rw [qh hlt] at cee
   have jb := q2J G q ((mvL G.x).getD ts.length 0) aR cR R wr HO.out hw hr hq (HAT.out _ hlt).2
   have hix := fun w' => q1n w1.heap.size (mvL G.x).length ts.length hlt w'
   have HST : Hid (∀ w' j,Below wr.heap.size wr w' → LeaS (keyB G R q ((mvL G.x).getD ts.length 0)) (mvL G.y).length j → (∃ b,w'.cell? ⟨w1.heap.size,ts.length,none⟩ = some (.int .u8 b)) ∧ w'.frozen? ⟨w1.heap.size,ts.length,none⟩ = false ∧ Hid (LtRow (w'.setCell ⟨w1.heap.size,ts.length,none⟩ (.int .u8 (((mvL G.y).getD j 0 : Nat) : Int))) w1.heap.size (rplL (ts ++ [(mvL G.y).getD j 0]) (mvL G.x).length)) ∧ Hid (RplA G R q (ts ++ [(mvL G.y).getD j 0])) ∧ Hid (Below w1.heap.size w1 (w'.setCell ⟨w1.heap.size,ts.length,none⟩ (.int .u8 (((mvL G.y).getD j 0 : Nat) : Int))))) := fun w' j hb hj => by
    have hr2 := HR.out.up hb
    refine ⟨⟨_,(q8 hr2 ts.length).trans (by simp [List.getElem?_eq_getElem (show ts.length < (rplL ts (mvL G.x).length).length by rw [q4F hk]; exact hlt)]; rfl)⟩,frozen_of_row _ _ _ _ _ hr2,?_,HA.out.snoc hj,(q9 HB.out hb).setCell (Nat.le_refl _) _⟩
    unfold LtRow
    show _ = _
    rw [heap_setCell_same w' _ ts.length _ _ (.int .u8 (((mvL G.y).getD j 0 : Nat) : Int)) hr2,← q4G hlt]
    simp [List.map_set]
   clear hg hw hr HR HA
   dsimp only [GmP.v,GmP.cs] at jb
   generalize hLL : (mvL G.x).getD ts.length 0 = xe at *
   generalize adOf G.aE ts.length = ak at *
   obtain ⟨ak1,ak2,ak3⟩ := ak
   go_wp2_with fail
   refine jb.mono ?_
   rintro e w3 ⟨hb3,j,hj,rfl⟩
   obtain ⟨⟨b,cb⟩,fb,HR2,HA2,HB2⟩ := HST.out w3 j hb3 hj
   clear jb hb3 hj HST c0 c1 c2 c3 c4 c5 c6 c7 ixe cee
   generalize (mvL G.y).getD j 0 = v at *
   go_wp2
   go_roundw
   case rel => exact ⟨ts ++ [v],by rw [List.length_append,List.length_singleton]; exact hlt,by rw [List.length_append,List.length_singleton]; go_num,HR2,HA2,HB2⟩
   case measure => simp [intOf]; omega
  ·have hE : ts.length = (mvL G.x).length := by omega
   have e1 : decide ((ts.length : Int) < ((mvL G.x).length : Int)) = false := decide_eq_false (by omega)
   have h := HR.out
   rw [← hE,q4E] at h
   have HE : Hid _ := HQ.out wr ts (HB02.out wr HB.out) hE h HA.out
   clear HQ HR HA h hE
   go_wp2
   exact HE.out
theorem q2d (G : GmP) (q c b0 b1 b2 : Nat) (aR : Option Addr) (cR : Nat) (R : List Int) (w : World) (hO : GmO G) (hW : GmW G w) (hR : ZSl w aR G.nA cR R) (hq : q < G.nA) (hc : c &&& G.x = c) (hg : GmB G w b0) (h1 : w.heap[b1]? = some (.cells #[.int .i64 (q : Int)] 3 (0,0))) (h2 : w.heap[b2]? = some (.cells #[.slice aR G.nA cR] 23 (0,0))) :
  Calls Try.prog 58 #[.int .u8 (c : Int),.pointer (some ⟨b0,0,none⟩),.pointer (some ⟨b1,0,none⟩),.pointer (some ⟨b2,0,none⟩)] w fun e w' => Below w.heap.size w w' ∧ ∃ b : Bool,e = .returned (.bool b) ∧ (b = true ↔ ∀ z ∈ mvL G.y,R.getD (G.t q (c ||| z)) 0 = -1) := by
 have js := q12 G q c aR cR R w hO hW hR hq hc
 have c0 := q8 hg 0
 have c1 := q8 hg 1
 have c2 := q8 hg 2
 have c3 := q8 hg 3
 have c4 := q8 hg 4
 have c5 := q8 hg 5
 have c6 := q8 hg 6
 have c7 := q8 hg 7
 have c8 := q8 h1 0
 have c9 := q8 h2 0
 clear hO hW hR hc hg h1 h2
 generalize (∀ z ∈ mvL G.y,R.getD (G.t q (c ||| z)) 0 = -1) = P at *
 dsimp only [GmP.v,GmP.cs] at js
 go_enter Try.func58,Try.ntmps58
 go_wp2_with fail
 refine js.mono ?_
 rintro e w2 ⟨hb2,b,rfl,hb⟩
 have HB2 : Hid _ := hb2
 have HBB : Hid _ := hb
 clear js hb2 hb
 go_wp2
 go_ret
 exact ⟨HB2.out,b,rfl,HBB.out⟩
def KepA (G : GmP) (R : List Int) (q i : Nat) : Prop := i < (mvL G.x).length ∧ (∀ z ∈ mvL G.y,R.getD (G.t q ((mvL G.x).getD i 0 ||| z)) 0 = -1) ∧ ∀ j,j < i → ¬ ∀ z ∈ mvL G.y,R.getD (G.t q ((mvL G.x).getD j 0 ||| z)) 0 = -1
theorem q2c (G : GmP) (q b0 b1 b2 : Nat) (aR : Option Addr) (cR : Nat) (R : List Int) (w : World) (hO : GmO G) (hW : GmW G w) (hR : ZSl w aR G.nA cR R) (hq : q < G.nA) (hg : GmB G w b0) (h1 : w.heap[b1]? = some (.cells #[.int .i64 (q : Int)] 3 (0,0))) (h2 : w.heap[b2]? = some (.cells #[.slice aR G.nA cR] 23 (0,0))) (hex : ∃ i,i < (mvL G.x).length ∧ ∀ z ∈ mvL G.y,R.getD (G.t q ((mvL G.x).getD i 0 ||| z)) 0 = -1) :
  Calls Try.prog 57 #[.slice G.aE (mvL G.x).length G.cE,.func (.func 58) #[] #[.pointer (some ⟨b0,0,none⟩),.pointer (some ⟨b1,0,none⟩),.pointer (some ⟨b2,0,none⟩)]] w fun e w' => Below w.heap.size w w' ∧ ∃ i : Nat,e = .returned (.int .i64 (i : Int)) ∧ KepA G R q i := by
 obtain ⟨Q,hQ⟩ : ∃ Q : Ending → World → Prop,Q = fun e w' => Below w.heap.size w w' ∧ ∃ i : Nat,e = .returned (.int .i64 (i : Int)) ∧ KepA G R q i := ⟨_,rfl⟩
 have HQ : Hid (∀ w' (i : Nat),Below w.heap.size w w' → KepA G R q i → Q (.returned (.int .i64 (i : Int))) w') := fun w' i h1 h2 => by rw [hQ]; exact ⟨h1,i,rfl,h2⟩
 rw [← hQ]
 clear hQ
 have hkb := ql G.x
 have HC : Hid (∀ w',Below w.heap.size w w' → LtC w' G.aE (mvL G.x).length G.cE (mvL G.x)) := fun w' hb => (hW.up hb).le
 have HJ : Hid (∀ wr i,Below w.heap.size w wr → i < (mvL G.x).length → Calls Try.prog 58 #[.int .u8 (((mvL G.x).getD i 0 : Nat) : Int),.pointer (some ⟨b0,0,none⟩),.pointer (some ⟨b1,0,none⟩),.pointer (some ⟨b2,0,none⟩)] wr fun e w' => Below wr.heap.size wr w' ∧ ∃ b : Bool,e = .returned (.bool b) ∧ (b = true ↔ ∀ z ∈ mvL G.y,R.getD (G.t q ((mvL G.x).getD i 0 ||| z)) 0 = -1)) := fun wr i hb hi =>
  q2d G q _ b0 b1 b2 aR cR R wr hO (hW.up hb) (hR.up hb) hq (qi hi).2 (hg.up hb) ((hb.block _ (Array.getElem?_eq_some_iff.1 h1).1).trans h1) ((hb.block _ (Array.getElem?_eq_some_iff.1 h2).1).trans h2)
 have HX : Hid _ := hex
 clear hO hW hR hg h1 h2 hex
 go_enter Try.func57,Try.ntmps57
 go_wp2
 go_loopw [8] (fun j wr => ∃ (k : Nat),k ≤ (mvL G.x).length ∧ j = .int .i64 (k : Int) ∧ Hid (Below w.heap.size w wr) ∧ Hid (∀ j,j < k → ¬ ∀ z ∈ mvL G.y,R.getD (G.t q ((mvL G.x).getD j 0 ||| z)) 0 = -1)) (fun j _ => (mvL G.x).length - (intOf j).toNat)
 case atStart => exact ⟨0,Nat.zero_le _,rfl,Below.refl _ _,fun q hq => absurd hq (Nat.not_lt_zero _)⟩
 case round =>
  obtain ⟨k,hk,rfl,HB,HN⟩ := hrel
  by_cases hlt : k < (mvL G.x).length
  ·have e1 : decide ((k : Int) < ((mvL G.x).length : Int)) = true := decide_eq_true (by omega)
   have hl := HC.out wr HB.out
   have hidx := fun w' => hl.idx _ k w' hlt (Nat.le_refl _)
   have hce := hl.cell k hlt
   rw [qh hlt] at hce
   have ja := HJ.out wr k HB.out hlt
   have HKT : Hid ((∀ z ∈ mvL G.y,R.getD (G.t q ((mvL G.x).getD k 0 ||| z)) 0 = -1) → KepA G R q k) := fun h => ⟨hlt,h,HN.out⟩
   have HKF : Hid (¬ (∀ z ∈ mvL G.y,R.getD (G.t q ((mvL G.x).getD k 0 ||| z)) 0 = -1) → ∀ j,j < k + 1 → ¬ ∀ z ∈ mvL G.y,R.getD (G.t q ((mvL G.x).getD j 0 ||| z)) 0 = -1) := fun h j hj => by
    rcases Nat.lt_succ_iff_lt_or_eq.1 hj with h1 | rfl
    ·exact HN.out j h1
    ·exact h
   clear hl HN
   generalize (∀ z ∈ mvL G.y,R.getD (G.t q ((mvL G.x).getD k 0 ||| z)) 0 = -1) = P at *
   generalize (mvL G.x).getD k 0 = m at *
   generalize adOf G.aE k = ad at *
   obtain ⟨ga,oa,sa⟩ := ad
   go_wp2_with fail
   refine ja.mono ?_
   rintro e w2 ⟨hb2,b,rfl,hb⟩
   have HB2 : Hid (Below w.heap.size w w2) := q9 HB.out hb2
   clear ja hb2
   cases b with
   | true =>
    have HE : Hid _ := HQ.out w2 k HB2.out (HKT.out (hb.1 rfl))
    clear HQ HKT HKF hb
    go_wp2
    exact HE.out
   | false =>
    have HN2 : Hid _ := HKF.out fun h => by have := hb.2 h; cases this
    clear HKT HKF hb
    go_wp2
    go_roundw
    case rel => exact ⟨k + 1,hlt,by go_num,HB2,HN2⟩
    case measure => simp [intOf]; omega
  ·obtain rfl : k = (mvL G.x).length := by omega
   exfalso
   obtain ⟨i,hi,h⟩ := HX.out
   exact HN.out i hi h
theorem q50 (G : GmP) (q : Nat) (aR : Option Addr) (cR : Nat) (w : World) : ∃ w3,w3 = ((w.alloc (.cells G.cs 64 (0,0))).alloc (.cells #[.int .i64 (q : Int)] 3 (0,0))).alloc (.cells #[.slice aR G.nA cR] 23 (0,0)) ∧ Below w.heap.size w w3 ∧ GmB G w3 w.heap.size ∧ w3.heap[w.heap.size + 1]? = some (.cells #[.int .i64 (q : Int)] 3 (0,0)) ∧ w3.heap[w.heap.size + 1 + 1]? = some (.cells #[.slice aR G.nA cR] 23 (0,0)) := by
 have e : ∀ (w : World) (o : Obj),(w.alloc o).heap.size = w.heap.size + 1 := fun w o => by simp
 obtain ⟨w1,hw1,b1,k1,s1⟩ := qI G w
 obtain ⟨w2,hw2⟩ : ∃ w2,w2 = w1.alloc (.cells #[.int .i64 (q : Int)] 3 (0,0)) := ⟨_,rfl⟩
 have b2 : Below w1.heap.size w1 w2 := by rw [hw2]; exact qb _ _
 have k2 : w2.heap[w1.heap.size]? = some (.cells #[.int .i64 (q : Int)] 3 (0,0)) := by rw [hw2]; exact (MapKept.heap_alloc w1 _).1
 have s2 : w2.heap.size = w.heap.size + 1 + 1 := by rw [hw2,e,s1]
 obtain ⟨w3,hw3⟩ : ∃ w3,w3 = w2.alloc (.cells #[.slice aR G.nA cR] 23 (0,0)) := ⟨_,rfl⟩
 have b3 : Below w2.heap.size w2 w3 := by rw [hw3]; exact qb _ _
 have k3 : w3.heap[w2.heap.size]? = some (.cells #[.slice aR G.nA cR] 23 (0,0)) := by rw [hw3]; exact (MapKept.heap_alloc w2 _).1
 refine ⟨w3,by rw [hw3,hw2,hw1],q9 (q9 b1 b2) b3,(k1.up b2).up b3,?_,?_⟩
 ·rw [← s1]; exact (b3.block _ (by rw [s2,s1]; omega)).trans k2
 ·rw [← s2]; exact k3
theorem q1E (G : GmP) (q : Nat) (aR : Option Addr) (cR : Nat) (R : List Int) (w : World) (hO : GmO G) (hW : GmW G w) (hR : ZSl w aR G.nA cR R) (hq : q < G.nA) (hex : ∃ i,i < (mvL G.x).length ∧ ∀ z ∈ mvL G.y,R.getD (G.t q ((mvL G.x).getD i 0 ||| z)) 0 = -1) :
  Calls Try.prog 35 #[G.v,.int .i64 (q : Int),.slice aR G.nA cR] w fun e w' => Below w.heap.size w w' ∧ ∃ i : Nat,e = .returned (.int .u8 (((mvL G.x).getD i 0 : Nat) : Int)) ∧ KepA G R q i := by
 obtain ⟨w3,hw3,hb3,hg3,h1,h2⟩ := q50 G q aR cR w
 have HW3 : Hid _ := hw3
 have HB3 : Hid (Below w.heap.size w w3) := hb3
 have ji := q2c G q _ _ _ aR cR R w3 hO (hW.up hb3) (hR.up hb3) hq hg3 h1 h2 hex
 have HC : Hid (∀ w',Below w3.heap.size w3 w' → GmB G w' w.heap.size ∧ LtC w' G.aE (mvL G.x).length G.cE (mvL G.x)) := fun w' hb => ⟨hg3.up hb,((hW.up hb3).up hb).le⟩
 have c6 := q8 hg3 6
 have hmf : ∀ (fn : Fn) (first cap : Array Value) (w : World),(Instr.makeFunc fn first cap).run Try.prog w = .ok (.func fn first cap) w := fun _ _ _ _ => rfl
 clear hw3 hb3 hg3 hO hW hR hex h1 h2
 go_enter Try.func35,Try.ntmps35
 go_wp2_with (rw [← HW3.out])
 refine ji.mono ?_
 rintro e w4 ⟨hb4,i,rfl,hi⟩
 have HI : Hid (KepA G R q i) := hi
 have HB4 : Hid (Below w.heap.size w w4) := q9 HB3.out hb4
 obtain ⟨hg4,hl4⟩ := HC.out w4 hb4
 have c6 := q8 hg4 6
 have ixi := fun w' => hl4.idx _ i w' hi.1 (Nat.le_refl _)
 have cei := hl4.cell i hi.1
 rw [qh hi.1] at cei
 clear ji hi hb4 hg4 hl4 HC hmf
 obtain ⟨m,hm⟩ : ∃ m,m = (mvL G.x).getD i 0 := ⟨_,rfl⟩
 rw [← hm] at cei
 have HM : Hid _ := hm
 clear hm
 generalize adOf G.aE i = ad at *
 obtain ⟨ga,oa,sa⟩ := ad
 go_wp2
 go_ret
 exact ⟨HB4.out,i,by rw [← HM.out]; rfl,HI.out⟩
theorem q2r {p : Int} {N : List Gd} {gs : List Int} {e s i k : Nat} (h : k < (mvL e).length) : (goeL p N gs e s i).getD k [] = goR p N gs i ((mvL e).getD k 0) (mvL s) := by
 rw [goeL,List.getD_eq_getElem?_getD,List.getElem?_map,List.getElem?_eq_getElem h]
 simp [goR,List.getD_eq_getElem?_getD,List.getElem?_eq_getElem h]
theorem qZ (p : Int) (aA : Option Addr) (nA cA : Nat) (aG : Option Addr) (nG cG : Nat) (aN : Option Addr) (nN cN : Nat) (bs : List Bool) (N : List Gd) (gs : List Int) (x y : Nat) (q : Int) (w : World) (hB : BoSl w aA nA cA bs) (hN : NdSl w aN nN cN N) (hG : ZSl w aG nG cG gs) (hok : ∀ z ∈ gs,I64 z) (hx : x < 256) (hy : y < 256) :
  Calls Try.prog 84 #[.agg #[.int .i64 p,.slice aA nA cA,.slice aG nG cG,.slice aN nN cN],.agg #[.int .u8 (x : Int),.int .u8 (y : Int)],.int .i64 q] w (GosR p nA bs N gs x y q w) := by
 obtain ⟨Q,hQ⟩ : ∃ Q : Ending → World → Prop,Q = GosR p nA bs N gs x y q w := ⟨_,rfl⟩
 have HQ1 : Hid (∀ w' X,Below w.heap.size w w' → X ≠ 0 → GoeN p nA bs N gs x y q X [] → Q (.returned (.tuple #[.slice none 0 0,.int .i64 X])) w') := fun w' X h1 h2 h3 => by rw [hQ]; exact ⟨h1,X,.inl ⟨h2,rfl,h3⟩⟩
 have HQ2 : Hid (∀ w' k g hs,Below w.heap.size w w' → ChkN p nA bs N gs x y 0 → q = ((k : Nat) : Int) → k < nA → w.heap.size ≤ g → hs.length = (mvL x).length → GoM w' g hs (mvL x).length (mvL y).length (goeL p N gs x y k) → Q (.returned (.tuple #[.slice (some ⟨g,0,none⟩) (mvL x).length (mvL x).length,.int .i64 0])) w') := fun w' k g hs h1 h2 h3 h4 h5 h6 h7 => by rw [hQ]; exact ⟨h1,0,.inr ⟨rfl,h2,k,g,hs,h3,h4,h5,h6,rfl,h7⟩⟩
 rw [← hQ]
 clear hQ
 obtain ⟨w1,hw1⟩ : ∃ w1,w1 = w.alloc (.cells #[.int .i64 p,.slice aA nA cA,.slice aG nG cG,.slice aN nN cN] 26 (0,0)) := ⟨_,rfl⟩
 have hb1 : Below w.heap.size w w1 := by rw [hw1]; exact qb _ _
 have hA1 : AuB w1 w.heap.size p aA nA cA aG nG cG aN nN cN := by rw [hw1]; exact qj w p aA nA cA aG nG cG aN nN cN
 have hs1 : w1.heap.size = w.heap.size + 1 := by rw [hw1]; exact Array.size_push _
 have HW1 : Hid _ := hw1
 obtain ⟨w2,hw2⟩ : ∃ w2,w2 = w1.alloc (.cells #[.int .u8 (x : Int),.int .u8 (y : Int)] 29 (0,0)) := ⟨_,rfl⟩
 have hb2 : Below w1.heap.size w1 w2 := by rw [hw2]; exact qb _ _
 have hk2 : w2.heap[w1.heap.size]? = some (.cells #[.int .u8 (x : Int),.int .u8 (y : Int)] 29 (0,0)) := by rw [hw2]; exact (MapKept.heap_alloc w1 _).1
 have HW2 : Hid _ := hw2
 have HB2 : Hid (Below w.heap.size w w2) := q9 hb1 hb2
 have HA2 : Hid (AuB w2 w.heap.size p aA nA cA aG nG cG aN nN cN) := hA1.up hb2
 have HK2 : Hid (∀ w',Below w2.heap.size w2 w' → w'.heap[w1.heap.size]? = some (.cells #[.int .u8 (x : Int),.int .u8 (y : Int)] 29 (0,0))) := fun w' h => (h.block _ (Array.getElem?_eq_some_iff.1 hk2).1).trans hk2
 have HN : Hid (∀ w',Below w2.heap.size w2 w' → BoSl w' aA nA cA bs ∧ NdSl w' aN nN cN N ∧ ZSl w' aG nG cG gs ∧ AuB w' w.heap.size p aA nA cA aG nG cG aN nN cN ∧ Below w.heap.size w w') := fun w' hb => ⟨hB.up (q9 HB2.out hb),hN.up (q9 HB2.out hb),hG.up (q9 HB2.out hb),HA2.out.up hb,q9 HB2.out hb⟩
 have HOK : Hid _ := hok
 have jc := qv p aA nA cA aG nG cG aN nN cN bs N gs x y w2 (hB.up HB2.out) (hN.up HB2.out) (hG.up HB2.out) hok hx hy
 obtain ⟨c0,c1,c2,c3⟩ := HA2.out
 have s0 := q8 hk2 0
 have s1 := q8 hk2 1
 clear hB hN hG hok hw1 hb1 hs1 hw2 hb2 hk2 hA1
 go_enter Try.func84,Try.ntmps84
 go_wp2_with (first | rw [← HW2.out] | rw [← HW1.out])
 refine jc.mono ?_
 rintro e w3 ⟨hb3,X,rfl,hX⟩
 have HB3 : Hid (Below w2.heap.size w2 w3) := hb3
 clear jc hb3 c0 c1 c2 c3 s0 s1 HA2 HW1 HW2
 by_cases h0 : X = 0
 rotate_left
 ·have HE : Hid _ := HQ1.out w3 X (HN.out w3 HB3.out).2.2.2.2 h0 (.inl ⟨h0,hX.out,rfl⟩)
  have e1 : (X != 0) = true := by simpa using h0
  clear HQ1 HQ2 hX h0
  go_wp2
  exact HE.out
 subst h0
 obtain ⟨_,_,_,⟨c0,c1,c2,c3⟩,_⟩ := HN.out w3 HB3.out
 have s0 := q8 (HK2.out w3 HB3.out) 0
 have s1 := q8 (HK2.out w3 HB3.out) 1
 by_cases hq : 0 ≤ q ∧ q < (nA : Int)
 rotate_left
 ·have HE : Hid _ := HQ1.out w3 2 (HN.out w3 HB3.out).2.2.2.2 (by decide) (.inr (.inl ⟨hX.out,hq,rfl,rfl⟩))
  clear HQ1 HQ2 hX
  by_cases h0 : q < 0
  ·have e1 : decide (q < 0) = true := decide_eq_true h0
   clear hq h0
   go_wp2
   exact HE.out
  ·have e1 : decide (q < 0) = false := decide_eq_false h0
   have e2 : decide ((nA : Int) ≤ q) = true := decide_eq_true (by omega)
   clear hq h0
   go_wp2
   exact HE.out
 obtain ⟨k,rfl⟩ := Int.eq_ofNat_of_zero_le hq.1
 have hk : k < nA := by omega
 have e1 : decide ((k : Int) < 0) = false := by simp
 have e2 : decide ((nA : Int) ≤ (k : Int)) = false := decide_eq_false (by omega)
 have HM : Hid (MayG p nA N gs) := by rcases hX.out with ⟨_,h⟩ | ⟨_,_,h⟩ | ⟨_,_,_,h⟩ | ⟨h,_⟩ <;> first | exact h | cases h
 have HSP : Hid (SplitN p.toNat x y) := by rcases hX.out with ⟨_,h⟩ | ⟨_,_,h⟩ | ⟨_,_,_,h⟩ | ⟨_,_,h,_⟩ <;> first | exact h | cases h
 have HX : Hid (ChkN p nA bs N gs x y 0) := hX.out
 clear hq HQ1 hX
 have hbd : Below w3.heap.size w3 w3.drew := (Below.refl _ _).drew
 have k1 : Calls Try.prog 52 #[.int .u8 (x : Int)] w3.drew fun e w' => Below w3.heap.size w3 w' ∧ ∃ a,e = .returned (.slice (some ⟨a,0,none⟩) (mvL x).length (mvL x).length) ∧ LtRow w' a ((mvL x).map Int.ofNat) := (qq x w3.drew hx).mono fun e w' h => ⟨q9 hbd h.2.2,_,h.1,h.2.1⟩
 have k2 : ∀ wx,Calls Try.prog 52 #[.int .u8 (y : Int)] wx fun e w' => Below wx.heap.size wx w' ∧ ∃ a,e = .returned (.slice (some ⟨a,0,none⟩) (mvL y).length (mvL y).length) ∧ LtRow w' a ((mvL y).map Int.ofNat) := fun wx => (qq y wx hy).mono fun e w' h => ⟨h.2.2,_,h.1,h.2.1⟩
 have HTT : Hid (∀ wx,Below w3.heap.size w3 wx → wx.cell? ⟨w1.heap.size,0,none⟩ = some (.int .u8 (x : Int)) ∧ wx.cell? ⟨w1.heap.size,1,none⟩ = some (.int .u8 (y : Int))) := fun wx hb => by
  have := HK2.out wx (q9 HB3.out hb)
  exact ⟨q8 this 0,q8 this 1⟩
 clear hbd
 go_upto_region 6 with fail
 go_cut [9,10] (fun u v wx => ∃ a1 a2,u = .slice (some ⟨a1,0,none⟩) (mvL x).length (mvL x).length ∧ v = .slice (some ⟨a2,0,none⟩) (mvL y).length (mvL y).length ∧ Hid (LtRow wx a1 ((mvL x).map Int.ofNat)) ∧ Hid (LtRow wx a2 ((mvL y).map Int.ofNat)) ∧ Hid (Below w3.heap.size w3 wx))
 case first => as_aux_lemma =>
  go_region_law (first
   | (revert HB9; intro HB9; go_simp; (with_reducible refine (k2 w9).mono ?_); rintro e w10 ⟨hb10,a2,rfl,hl2⟩; have HB10 : Hid (Below w3.heap.size w3 w10) := q9 HB9.out hb10; have HL2 : Hid (LtRow w10 a2 ((mvL y).map Int.ofNat)) := hl2; have HL1 : Hid (LtRow w10 a1 ((mvL x).map Int.ofNat)) := (hb10.block a1 (Array.getElem?_eq_some_iff.1 HL9.out).1).trans HL9.out; obtain ⟨v0,v1⟩ := HTT.out w10 HB10.out; dsimp only)
   | (revert k1; intro k1; go_simp; (with_reducible refine k1.mono ?_); rintro e w9 ⟨hb9,a1,rfl,hl1⟩; have HB9 : Hid (Below w3.heap.size w3 w9) := hb9; have HL9 : Hid (LtRow w9 a1 ((mvL x).map Int.ofNat)) := hl1; obtain ⟨u0,u1⟩ := HTT.out w9 HB9.out; dsimp only)
   | fail)
  all_goals
   clear hb9 hl1 hb10 hl2
   go_wp2_with fail
   go_meet
   exact ⟨_,_,rfl,rfl,HL1,HL2,HB10⟩
 case rest =>
 obtain ⟨a1,a2,rfl,rfl,HL1,HL2,HB4⟩ := hcut
 generalize wc = w4 at *
 have HB24 : Hid (Below w2.heap.size w2 w4) := q9 HB3.out HB4.out
 clear k1 k2 HTT HB3 HB4 c0 c1 c2 c3 s0 s1 e1 e2 HK2
 have hLx := ql x
 have hLy := ql y
 have HROW : Hid (∀ j,j < (mvL x).length → (goeL p N gs x y k).getD j [] = goR p N gs k ((mvL x).getD j 0) (mvL y)) := fun j hj => q2r hj
 have HRND : Hid (∀ i j,i < (mvL x).length → j < (mvL y).length → (mvL x).getD i 0 < 256 ∧ (mvL y).getD j 0 < 256 ∧ (mvL x).getD i 0 ||| (mvL y).getD j 0 < 2 ^ p.toNat) := fun i j hi hj => by
  obtain ⟨h1,h2⟩ := qi hi
  obtain ⟨h3,h4⟩ := qi hj
  have h5 : x ||| y = 2 ^ p.toNat - 1 := HSP.out.2
  have h6 : 0 < 2 ^ p.toNat := Nat.two_pow_pos _
  have h7 : x ≤ x ||| y := Nat.left_le_or
  have h8 : y ≤ x ||| y := Nat.right_le_or
  exact ⟨h1,h3,Nat.or_lt_two_pow (by have := qp h2; omega) (by have := qp h4; omega)⟩
 have HE : Hid _ := fun w' g hs h1 h5 h6 h7 => HQ2.out w' k g hs h1 HX.out rfl hk h5 h6 h7
 have HL1s : Hid (∀ w',Below w4.heap.size w4 w' → LtC w' (some ⟨a1,0,none⟩) (mvL x).length (mvL x).length (mvL x)) := fun w' hb => (HL1.out.sl (by omega)).up hb
 have HL2s : Hid (∀ w',Below w4.heap.size w4 w' → LtC w' (some ⟨a2,0,none⟩) (mvL y).length (mvL y).length (mvL y)) := fun w' hb => (HL2.out.sl (by omega)).up hb
 have HLY : Hid ((mvL y).length = (mvL y).length) := rfl
 clear HQ2 HX HSP HL1 HL2
 generalize goeL p N gs x y k = rs at *
 generalize hLX : (mvL x).length = LX at *
 have HLX : Hid _ := hLX
 generalize hLY : (mvL y).length = LY at *
 have HLY2 : Hid _ := hLY
 clear hLX hLY HLY
 have hmk := fun w => q3Q LX (by omega) w
 obtain ⟨w5,hw5⟩ : ∃ w5,w5 = w4.alloc (.cells (Array.replicate LX (Value.slice none 0 0)) 23) := ⟨_,rfl⟩
 have hc5 : w5.heap[w4.heap.size]? = some (.cells (Array.replicate LX (Value.slice none 0 0)) 23 (0,0)) := by rw [hw5]; exact (MapKept.heap_alloc w4 _).1
 have HB5 : Hid (Below w4.heap.size w4 w5) := by rw [hw5]; exact qb _ _
 have HW5 : Hid _ := hw5
 have HG5 : Hid (GoM w5 w4.heap.size [] LX LY rs) := ⟨by simpa using hc5,fun j hj => absurd hj (Nat.not_lt_zero _),fun j hj => absurd hj (Nat.not_lt_zero _),fun i j _ hj => absurd hj (Nat.not_lt_zero _)⟩
 clear hw5 hc5
 go_wp2_with (rw [← HW5.out])
 go_loopw [40] (fun i wr => ∃ j : Nat,∃ hs : List Nat,j ≤ LX ∧ i = .int .i64 (j : Int) ∧ hs.length = j ∧ Hid (GoM wr w4.heap.size hs LX LY rs) ∧ Hid (Below w4.heap.size w4 wr)) (fun i _ => LX - (intOf i).toNat)
 case atStart => exact ⟨0,[],Nat.zero_le _,rfl,rfl,HG5,HB5⟩
 case round =>
  obtain ⟨j,hs,hj,rfl,hhs,HG,HB⟩ := hrel
  clear HG5 HB5 hmk
  by_cases hlt : j < LX
  ·have hl1 := HL1s.out wr HB.out
   have ixl := fun w' => hl1.idx LX j w' hlt (Nat.le_refl _)
   have cel := hl1.cell j hlt
   rw [qh (by rw [HLX.out]; exact hlt)] at cel
   obtain ⟨hbo,hnd,hzg,⟨c0,c1,c2,c3⟩,hbw⟩ := HN.out wr (q9 HB24.out HB.out)
   have jr := q2V p aA nA cA aG nG cG aN nN cN N gs k ((mvL x).getD j 0) (some ⟨a2,0,none⟩) LY LY (mvL y) wr HM.out hnd hzg (HL2s.out wr HB.out) HLY2.out (by omega) hk (by
    rcases Nat.eq_zero_or_pos LY with h | h
    ·have := qF y; have := HLY2.out; omega
    ·exact (HRND.out j 0 hlt h).1) (fun i hi => (HRND.out j i hlt hi).2)
   have HRJ : Hid _ := HROW.out j hlt
   have HGW : Hid (∀ w',Below wr.heap.size wr w' → GoM w' w4.heap.size hs LX LY rs ∧ Below w4.heap.size w4 w') := fun w' hb => ⟨HG.out.up hb,q9 HB.out hb⟩
   have hgl : w4.heap.size < wr.heap.size := (Array.getElem?_eq_some_iff.1 HG.out.out).1
   have HIN : Hid (∀ i,i < hs.length → hs.getD i 0 < wr.heap.size + 1) := fun i hi => by have := (HG.out.row i hi).lt; omega
   have ixw : ∀ w',(Instr.indexAt 50 (.slice (some ⟨w4.heap.size,0,none⟩) LX LX) (.int .i64 (j : Int))).run Try.prog w' = .ok (.pointer (some ⟨w4.heap.size,j,none⟩)) w' := fun w' => by
    have := qk (P := Try.prog) (T := 50) Try.underlying50 q1i (a := some ⟨w4.heap.size,0,none⟩) (cap := LX) (n := LX) (fun e => by cases e) j w' hlt
    simpa [adOf,qf] using this
   have hGL : Hid _ := hgl
   have HJ : Hid _ := hhs
   clear hl1 hbo hnd hzg hbw HG hgl hhs
   generalize (mvL x).getD j 0 = ex at *
   obtain ⟨al1,al2,al3⟩ : Addr := adOf (some ⟨a1,0,none⟩) j
   go_wp2_with fail
   refine jr.mono ?_
   rintro e w6 ⟨rfl,hr6,hb6⟩
   obtain ⟨hg6,hb46⟩ := HGW.out w6 hb6
   have HG7 : Hid (GoM (w6.setCell ⟨w4.heap.size,j,none⟩ (.slice (some ⟨wr.heap.size + 1,0,none⟩) LY LY)) w4.heap.size (hs ++ [wr.heap.size + 1]) LX LY rs) := by
    have h := hg6.put (x := wr.heap.size + 1) (by rw [HJ.out]; exact hlt) (by rw [HJ.out,HRJ.out]; exact hr6) (by have := hGL.out; omega) HIN.out
    rw [HJ.out] at h
    exact h
   have HB7 : Hid (Below w4.heap.size w4 (w6.setCell ⟨w4.heap.size,j,none⟩ (.slice (some ⟨wr.heap.size + 1,0,none⟩) LY LY))) := hb46.setCell (Nat.le_refl _) _
   obtain ⟨v6,cv6⟩ : ∃ v,w6.cell? ⟨w4.heap.size,j,none⟩ = some v := ⟨_,(q8 hg6.out j).trans (by rw [List.getElem?_toArray,List.getElem?_eq_getElem (by simp; have := HJ.out; omega)])⟩
   have fz6 := frozen_of_row _ _ j _ _ hg6.out
   clear jr hr6 hb6 hg6 hb46 HGW HIN
   go_wp2
   go_roundw
   case rel => exact ⟨j + 1,_,by omega,by go_num,by rw [List.length_append,List.length_singleton,HJ.out],HG7,HB7⟩
   case measure => simp [intOf]; omega
  ·obtain rfl : j = LX := by omega
   have HF : Hid _ := HE.out wr w4.heap.size hs (HN.out wr (q9 HB24.out HB.out)).2.2.2.2 (HN.out w4 HB24.out).2.2.2.2.size hhs HG.out
   clear HE HG HB
   go_wp2
   exact HF.out
theorem q3e {p : Int} {nA : Nat} {N : List Gd} {gs : List Int} (h : MayG p nA N gs) {e s k : Nat} (hk : k < nA) (hs : SplitN p.toNat e s) : ∀ r ∈ goeL p N gs e s k,∀ z ∈ r,I64 z := fun r hr z hz => by
 obtain ⟨x,hx,rfl⟩ := List.mem_map.1 hr
 obtain ⟨y,hy,rfl⟩ := List.mem_map.1 hz
 have h1 := qp (qm.1 hx).2
 have h2 := qp (qm.1 hy).2
 have h5 : e ||| s = 2 ^ p.toNat - 1 := hs.2
 have h6 : 0 < 2 ^ p.toNat := Nat.two_pow_pos _
 have h7 : e ≤ e ||| s := Nat.left_le_or
 have h8 : s ≤ e ||| s := Nat.right_le_or
 have h9 := (h.rows (2 ^ p.toNat)).lt k (x ||| y) hk (Nat.or_lt_two_pow (by omega) (by omega))
 have h10 := h.s2
 have h11 : trP (rwA p N gs) k (x ||| y) < nA := h9
 exact ⟨by omega,by omega⟩
theorem ChkN.ok {p : Int} {nA : Nat} {bs : List Bool} {N : List Gd} {gs : List Int} {e s : Nat} (h : ChkN p nA bs N gs e s 0) : MayG p nA N gs ∧ bs.getD 0 false = false ∧ SplitN p.toNat e s := by
 rcases h with ⟨_,h⟩ | ⟨_,_,h⟩ | ⟨_,_,_,h⟩ | ⟨h1,h2,h3,_⟩
 ·cases h
 ·cases h
 ·cases h
 ·exact ⟨h1,h2,h3⟩
theorem q2U : BrdC where
 moves m w hm := (qq m w hm).mono fun e w' h => ⟨h.2.2,_,_,h.1,h.2.1.sl (by have := ql m; omega)⟩
 number m v w hm hv := (qO m v w hm hv).mono fun e w' h => by
  obtain ⟨rfl,h⟩ := h
  exact ⟨Below.refl _ _,h⟩
 check p aA nA cA aG nG cG aN nN cN bs N gs x y w hB hN hG hok hx hy := qv p aA nA cA aG nG cG aN nN cN bs N gs x y w hB hN hG hok hx hy
 goes p aA nA cA aG nG cG aN nN cN bs N gs x y q w hB hN hG hok hx hy := (qZ p aA nA cA aG nG cG aN nN cN bs N gs x y q w hB hN hG hok hx hy).mono fun e w' h => by
  obtain ⟨hb,X,⟨h0,rfl,hg⟩ | ⟨rfl,hc,k,g,hs,rfl,hk,hgw,hl,rfl,hG⟩⟩ := h
  ·exact ⟨hb,none,0,0,X,[],rfl,hg,⟨rfl,Nat.le_refl _,by decide,fun _ => rfl,fun x hx => (by cases hx),fun r hr => (by cases hr)⟩⟩
  ·have h1 := ql x
   have h2 := ql y
   obtain ⟨hM,_,hs⟩ := hc.ok
   obtain ⟨hz,hm⟩ := hG.out.zz hl (by omega) (by omega) (by simp [goeL]) (fun j hj => by rw [q2r hj]; simp [goR]) (q3e hM hk hs)
   exact ⟨hb,_,_,_,0,_,rfl,.inr (.inr ⟨hc,rfl,k,rfl,hk,hm⟩),hz⟩
structure R3S (w : World) (a : Option Addr) (n c : Nat) (F : Nat → List (List Nat)) (m : Nat) : Prop where
 bd : n ≤ 1000
 row : ∀ q,q < n → ∃ (g o : Nat) (s : Option Nat) (a' : Option Addr) (c' : Nat),(∀ w',(Instr.indexAt 84 (.slice a n c) (.int .i64 (q : Int))).run Try.prog w' = .ok (.pointer (some ⟨g,o,s⟩)) w') ∧ w.cell? ⟨g,o,s⟩ = some (.slice a' (F q).length c') ∧ RwS w a' (F q).length c' (F q) m
theorem R3S.up {w w' : World} {a : Option Addr} {n c : Nat} {F : Nat → List (List Nat)} {m : Nat} (h : R3S w a n c F m) (hb : Below w.heap.size w w') : R3S w' a n c F m :=
 ⟨h.bd,fun q hq => by obtain ⟨g,o,s,a',c',h1,h2,h3⟩ := h.row q hq; exact ⟨g,o,s,a',c',h1,qd h2 hb,h3.up hb⟩⟩
theorem q1R (g n k : Nat) (hk : k < n) (w : World) : (Instr.indexAt 22 (.slice (some ⟨g,0,none⟩) n n) (.int .i64 (k : Int))).run Try.prog w = .ok (.pointer (some ⟨g,k,none⟩)) w := by
 have := qk (P := Try.prog) (T := 22) Try.underlying22 q1W (a := some ⟨g,0,none⟩) (cap := n) (n := n) (fun e => by cases e) k w hk
 simpa [adOf,qf] using this
theorem q3r (g n k : Nat) (hk : k < n) (w : World) : (Instr.indexAt 23 (.slice (some ⟨g,0,none⟩) n n) (.int .i64 (k : Int))).run Try.prog w = .ok (.pointer (some ⟨g,k,none⟩)) w := by
 have := qk (P := Try.prog) (T := 23) Try.underlying23 qn (a := some ⟨g,0,none⟩) (cap := n) (n := n) (fun e => by cases e) k w hk
 simpa [adOf,qf] using this
theorem BoRow.slX {w : World} {g n : Nat} {bs : List Bool} (h : BoRow w g bs) (hn : bs.length = n) (hb : n ≤ 1000) : BoSl w (some ⟨g,0,none⟩) n n bs := by
 refine ⟨hn,Nat.le_refl _,by unfold maxLen; omega,fun e => (by cases e),fun x hx k hk => ?_⟩
 injection hx with hx
 subst hx
 have := h.cellP hk
 rw [qf,Nat.zero_add,this,List.getD_eq_getElem?_getD,List.getElem?_eq_getElem hk]
 rfl
theorem q26 (a : Option Addr) (n c : Nat) (F : Nat → List (List Nat)) (aW : Option Addr) (cW : Nat) (ws : List Bool) (w : World) (hR : R3S w a n c F n) (hW : BoSl w aW n cW ws) :
  Calls Try.prog 83 #[.slice a n c,.slice aW n cW] w fun e w' => Below w.heap.size w w' ∧ e = .returned (.slice (some ⟨w.heap.size,0,none⟩) n n) ∧ Hid (BoRow w' w.heap.size ((List.range n).map (befA F (acA ws)))) := by
 obtain ⟨Q,hQ⟩ : ∃ Q : Ending → World → Prop,Q = fun e w' => Below w.heap.size w w' ∧ e = .returned (.slice (some ⟨w.heap.size,0,none⟩) n n) ∧ Hid (BoRow w' w.heap.size ((List.range n).map (befA F (acA ws)))) := ⟨_,rfl⟩
 have HQ : Hid (∀ w',Below w.heap.size w w' → BoRow w' w.heap.size ((List.range n).map (befA F (acA ws))) → Q (.returned (.slice (some ⟨w.heap.size,0,none⟩) n n)) w') := fun w' h1 h2 => by rw [hQ]; exact ⟨h1,rfl,h2⟩
 rw [← hQ]
 clear hQ
 have hn := hR.bd
 have HR : Hid (∀ w',Below w.heap.size w w' → R3S w' a n c F n ∧ BoSl w' aW n cW ws) := fun w' hb => ⟨hR.up hb,hW.up hb⟩
 have hmb := fun w => q1V n n (n : Int) (n : Int) rfl rfl (Nat.le_refl _) (by omega) w
 obtain ⟨w1,hw1⟩ : ∃ w1,w1 = w.alloc (.cells ((zB n).map Value.bool).toArray 4) := ⟨_,rfl⟩
 have hb1 : Below w.heap.size w w1 := by rw [hw1]; exact qb _ _
 have hg1 : BoRow w1 w.heap.size (zB n) := by rw [hw1]; exact (MapKept.heap_alloc w _).1
 have HW1 : Hid _ := hw1
 have HB1 : Hid (Below w.heap.size w w1) := hb1
 have HG1 : Hid (BoRow w1 w.heap.size (mixA (befA F (acA ws)) (fun _ => false) 0 n)) := by
  rw [q1s]
  have : (List.range n).map (fun _ => false) = zB n := by apply List.ext_getElem <;> simp [zB]
  rw [this]; exact hg1
 clear hR hW hw1 hb1 hg1
 obtain ⟨g,hg⟩ : ∃ g,g = w.heap.size := ⟨_,rfl⟩
 rw [← hg] at HG1 HQ HB1 HR
 have HGS : Hid (g = w.heap.size) := hg
 go_enter Try.func83,Try.ntmps83
 go_wp2_with (rw [← HW1.out])
 rw [← hg]
 clear hmb hg HW1
 go_loopw [13] (fun i wr => ∃ k : Nat,k ≤ n ∧ i = .int .i64 (k : Int) ∧ Hid (Below g w wr) ∧ Hid (BoRow wr g (mixA (befA F (acA ws)) (fun _ => false) k n))) (fun i _ => n - (intOf i).toNat)
 case atStart => exact ⟨0,Nat.zero_le _,rfl,HB1,HG1⟩
 case round =>
  obtain ⟨k,hk,rfl,HB,HG⟩ := hrel
  clear HB1 HG1
  by_cases hlt : k < n
  ·have e1 : decide ((k : Int) < (n : Int)) = true := decide_eq_true (by omega)
   obtain ⟨hr,hbw⟩ := HR.out wr HB.out
   obtain ⟨x,o,s,a',c',ixr,cer,hrw⟩ := hr.row k hlt
   have ja := q1D a' (F k).length c' (F k) aW n cW ws wr hrw hbw
   have hbe : ((F k).all fun row => row.any (acA ws)) = befA F (acA ws) k := rfl
   rw [hbe] at ja
   have ixw := fun w' => q1R g n k hlt w'
   have cw := HG.out.cellP (i := k) (by rw [qu]; exact hlt)
   have fw := HG.out.fzP k
   have HG2 : Hid (BoRow (wr.setCell ⟨g,k,none⟩ (.bool (befA F (acA ws) k))) g (mixA (befA F (acA ws)) (fun _ => false) (k + 1) n)) := by
    rw [← q19 hlt rfl]; exact HG.out.setP k _
   have HB2 : Hid (Below g w (wr.setCell ⟨g,k,none⟩ (.bool (befA F (acA ws) k)))) := HB.out.setCell (Nat.le_refl _) _
   clear hr hbw hrw hbe HB HG
   generalize befA F (acA ws) k = z at *
   generalize (F k).length = m at *
   go_wp2_with fail
   refine ja.mono ?_
   rintro e w' ⟨rfl,hw'⟩
   obtain rfl := hw'.symm
   clear hw' ja
   go_wp2
   go_roundw
   case rel => exact ⟨k + 1,by omega,by go_num,HB2,HG2⟩
   case measure => simp [intOf]; omega
  ·obtain rfl : k = n := by omega
   have e1 : decide ((k : Int) < (k : Int)) = false := by simp
   have h := HG.out
   rw [q1K] at h
   have HE : Hid _ := HQ.out wr HB.out h
   clear HQ HB HG h
   go_wp2
   exact HE.out
end Go.Proofs.Ythhbhadcjofelaa
