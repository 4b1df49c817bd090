/- Texts of the proof, put together: what it uses. -/
import Derived.Test.YtllebfffmmnoeaaZ02
import Derived.Test.YtllebfffmmnoeaaZ07
set_option maxRecDepth 100000
set_option maxHeartbeats 16000000
namespace Go.Proofs.Ytllebfffmmnoeaa
open Go.RowKit Go.Maps
def NumR (f : Nat → List Nat) (n : Nat) (w : World) (e : Ending) (w' : World) : Prop :=
 Below w.heap.size w w' ∧ ∃ g,w.heap.size ≤ g ∧ e = .returned (.tuple #[.slice (some ⟨g,0,none⟩) n n,.int .i64 ((keysP f n).length : Int)]) ∧ RowI w' 3 g ((ofP f n).map Int.ofNat)
structure NbL (w wr : World) (f : Nat → List Nat) (n k : Nat) : Prop where
 row : RowI wr 3 (w.heap.size + 2) (((ofP f n).map Int.ofNat).take k ++ List.replicate (n - k) 0)
 num : NumSg wr (w.heap.size + 1) (keysP f k).length (posSg (keysP f k))
 bel : Below w.heap.size w wr
theorem q3g (f : Nat → List Nat) {n k : Nat} (h : k < n) : ((ofP f n).map Int.ofNat).getD k 0 = (((keysP f (k + 1)).idxOf (f k) : Nat) : Int) := by
 have hl : k < (ofP f n).length := by rw [qs]; exact h
 rw [qg hl,q1H f h,q3X (q27 f (show k + 1 ≤ n by omega)) ((qj f (k + 1) _).2 ⟨k,by omega,rfl⟩)]
theorem NbL.up {w wr w' : World} {f : Nat → List Nat} {n k : Nat} (h : NbL w wr f n k) (hb : Below wr.heap.size wr w') : NbL w w' f n k := ⟨h.row.up hb,h.num.up hb,q5 h.bel hb⟩
theorem NbL.old {w wr : World} {f : Nat → List Nat} {n k : Nat} (h : NbL w wr f n k) (hk : k < n) (hm : f k ∈ keysP f k) : NbL w (wr.setCell ⟨w.heap.size + 2,k,none⟩ (.int .i64 (((keysP f k).idxOf (f k) : Nat) : Int))) f n (k + 1) := by
 have e : keysP f (k + 1) = keysP f k := by rw [keysP,if_pos hm]
 refine ⟨?_,?_,h.bel.setCell (by dsimp only; omega) _⟩
 ·have h1 := h.row.set k (((keysP f k).idxOf (f k) : Nat) : Int)
  rw [show (((keysP f k).idxOf (f k) : Nat) : Int) = ((ofP f n).map Int.ofNat).getD k 0 by rw [q3g f hk,e]] at h1 ⊢
  rwa [q2V (by rw [List.length_map,qs]) hk] at h1
 ·rw [e]
  exact h.num.far (Below.heap_setCell _ _ _ _ (by dsimp only; omega))
theorem NbL.new {w wr w7 : World} {f : Nat → List Nat} {n k : Nat} (h : NbL w wr f n k) (hk : k < n) (hm : f k ∉ keysP f k) (hn : NumSg w7 (w.heap.size + 1) ((keysP f k).length + 1) (fun y => if y = f k then some (keysP f k).length else posSg (keysP f k) y)) (hg : wr.grownBy w7 (some (w.heap.size + 1))) :
  NbL w (w7.setCell ⟨w.heap.size + 2,k,none⟩ (.int .i64 ((keysP f k).length : Int))) f n (k + 1) := by
 have e : keysP f (k + 1) = keysP f k ++ [f k] := by rw [keysP,if_neg hm]
 refine ⟨?_,?_,(h.bel.grown hg h.bel.size (fun q e => by injection e with e; omega)).setCell (by dsimp only; omega) _⟩
 ·have hr : RowI w7 3 (w.heap.size + 2) (((ofP f n).map Int.ofNat).take k ++ List.replicate (n - k) 0) := (hg.block _ h.row.lt (fun e => by injection e with e; omega)).trans h.row
  have h1 := hr.set k ((keysP f k).length : Int)
  rw [show ((keysP f k).length : Int) = ((ofP f n).map Int.ofNat).getD k 0 by rw [q3g f hk,e]; simp [List.idxOf_append,hm]] at h1 ⊢
  rwa [q2V (by rw [List.length_map,qs]) hk] at h1
 ·rw [e,List.length_append]
  exact (hn.alike fun y _ => q3C hm y).far (Below.heap_setCell _ _ _ _ (by dsimp only; omega))
theorem NbL.fin {w wr : World} {f : Nat → List Nat} {n : Nat} (h : NbL w wr f n n) : NumR f n w (.returned (.tuple #[.slice (some ⟨w.heap.size + 2,0,none⟩) n n,.int .i64 ((keysP f n).length : Int)])) wr := by
 refine ⟨h.bel,w.heap.size + 2,by omega,rfl,?_⟩
 have := h.row
 rw [List.take_of_length_le (by rw [List.length_map,qs]; exact Nat.le_refl _),Nat.sub_self,List.replicate_zero,List.append_nil] at this
 exact this
def EntersP (F : FuncId) : Prop := ∀ args w,(callFunc F args).run Try.prog w = .ok (.enter F args) w
theorem q1e (fid : Nat) (hE : EntersP fid) (u : Value) (aA : Option Addr) (cA : Nat) (aT : Option Addr) (cT n : Nat) (f : Nat → List Nat) (w : World) (h1 : 1 ≤ n) (h256 : n ≤ 256) (hok : ∀ s,s < n → SgOk (f s)) (hF : ∀ wr s,Below w.heap.size w wr → s < n → Calls Try.prog fid #[u,.int .i64 (s : Int)] wr (SigQ (f s) wr)) :
  Calls Try.prog 40 #[.agg #[.slice aA n cA,.slice aT n cT],.func (.func fid) #[u] #[]] w (NumR f n w) := by
 obtain ⟨Q,eQ⟩ : ∃ Q,Q = NumR f n w := ⟨_,rfl⟩
 have HQ : Hid (∀ wr,NbL w wr f n n → Q (.returned (.tuple #[.slice (some ⟨w.heap.size + 2,0,none⟩) n n,.int .i64 ((keysP f n).length : Int)])) wr) := fun wr h => by rw [eQ]; exact h.fin
 rw [← eQ]
 clear eQ
 have hz := fun w => qq w
 obtain ⟨Z,hZ⟩ : ∃ Z : List Nat,Z = List.replicate 257 0 := ⟨_,rfl⟩
 have HLZ : Hid (Z.length = 257) := by show _ = _; rw [hZ,List.length_replicate]
 rw [← hZ] at hz
 clear hZ
 have hsz : (sgA Z).size = 257 := by rw [qa]; exact HLZ.out
 have hmk := fun w => q12 n (by omega) w
 simp only [madeI] at hmk
 obtain ⟨C,hC⟩ : ∃ C,C = ((List.replicate n (0 : Int)).map (Value.int .i64)).toArray := ⟨_,rfl⟩
 have hmm := @run_makeMap Try.prog
 have HB0 : Hid (Below w.heap.size w (((w.alloc (.cells #[.slice aA n cA,.slice aT n cT] 60 (0,0))).alloc (.map #[] 0)).alloc (.cells C 3 (0,0)))) := q5 (q5 (q6 w _) (q6 _ _)) (q6 _ _)
 have hnm : NumSg ((w.alloc (.cells #[.slice aA n cA,.slice aT n cT] 60 (0,0))).alloc (.map #[] 0)) (w.heap.size + 1) 0 (fun _ => none) := by
  have := q1G (w.alloc (.cells #[.slice aA n cA,.slice aT n cT] 60 (0,0)))
  simpa using this
 have HL0 : Hid (NbL w (((w.alloc (.cells #[.slice aA n cA,.slice aT n cT] 60 (0,0))).alloc (.map #[] 0)).alloc (.cells C 3 (0,0))) f n 0) := by
  refine ⟨?_,(hnm.up (q6 _ _)).alike (fun x _ => by simp [posSg,keysP]),HB0.out⟩
  have := (MapKept.heap_alloc ((w.alloc (.cells #[.slice aA n cA,.slice aT n cT] 60 (0,0))).alloc (.map #[] 0)) (.cells C 3 (0,0))).1
  have e2 : ((w.alloc (.cells #[.slice aA n cA,.slice aT n cT] 60 (0,0))).alloc (.map #[] 0)).heap.size = w.heap.size + 2 := by simp
  rw [e2] at this
  unfold RowI
  rw [this,hC]
  simp
 rw [← hC] at hmk
 clear hC hnm
 have m1 := ((qi w (.slice aA n cA) (.slice aT n cT)).up (q6 _ (.map #[] 0))).c1
 have HOK : Hid _ := hok
 have HF : Hid _ := hF
 unfold EntersP at hE
 clear hok hF
 go_enter Try.func40,Try.ntmps40
 go_wp2
 clear HB0 m1 hmm hmk
 go_loopw [19] (fun i wr => ∃ k : Nat,k ≤ n ∧ i = .int .i64 (k : Int) ∧ Hid (NbL w wr f n k)) (fun i _ => n - (intOf i).toNat)
 case atStart => exact ⟨0,Nat.zero_le _,rfl,HL0⟩
 case round =>
  obtain ⟨k,hk,rfl,HL⟩ := hrel
  clear HL0
  by_cases hlt : k < n
  ·have jf := HF.out wr k HL.out.bel hlt
   have hx := HOK.out k hlt
   have HX : Hid _ := hx
   clear hx
   go_wp2_with fail
   refine jf.mono ?_
   rintro e w2 ⟨rfl,hb2⟩
   have hN2 := HL.out.up hb2
   have h3 : SgB (w2.alloc (.cells (sgA Z) 79 (0,0))) w2.heap.size Z := (MapKept.heap_alloc w2 _).1
   have hst := h3.cells HLZ.out HX.out.1
   have HV : Hid (SgB ((w2.alloc (.cells (sgA Z) 79 (0,0))).setRow w2.heap.size (sgA (f k))) w2.heap.size (f k)) := h3.row
   have HN3 : Hid (NbL w ((w2.alloc (.cells (sgA Z) 79 (0,0))).setRow w2.heap.size (sgA (f k))) f n k) := hN2.up (qh (q6 w2 _) (Nat.le_refl _) _)
   have hsx : (sgA (f k)).size = 257 := by rw [qa]; exact HX.out.1
   clear hN2 h3 hb2 jf HL HF HOK HQ
   go_wp2
   generalize (w2.alloc (.cells (sgA Z) 79 (0,0))).setRow w2.heap.size (sgA (f k)) = w3 at *
   generalize w2.heap.size = gx at *
   clear hst hz
   refine wp_load_row 79 _ rfl gx rfl 79 (sgA (f k)) (0,0) _ HV.out Try.underlying79 rfl (by rw [hsx]; exact qb) ?_
   have hlook := HN3.out.num.look HX.out
   have hkl := qm f k
   have hc41 : ∀ m : Nat,((((ofP f n).map Int.ofNat).take k ++ List.replicate (n - k) 0).length = n) := fun _ => by rw [List.length_append,List.length_take,List.length_map,qs,List.length_replicate]; omega
   have cell : ∃ z,w3.cell? ⟨w.heap.size + 2,k,none⟩ = some (.int .i64 z) := ⟨_,HN3.out.row.cell (by rw [hc41 0]; exact hlt)⟩
   obtain ⟨z0,hz0⟩ := cell
   have fz0 := HN3.out.row.frozen k
   have hidx : ∀ w',(Instr.indexAt 23 (.slice (some ⟨w.heap.size + 2,0,none⟩) n n) (.int .i64 (k : Int))).run Try.prog w' = .ok (.pointer (some ⟨w.heap.size + 2,k,none⟩)) w' := fun w' => by
    have := qf (P := Try.prog) (T := 23) Try.underlying23 qc (a := some ⟨w.heap.size + 2,0,none⟩) (cap := n) (n := n) (fun e => by cases e) k w' hlt
    simpa [adOf,q8] using this
   clear hc41
   by_cases hm : f k ∈ keysP f k
   ·rw [qC hm] at hlook
    simp only [Option.getD_some,Option.isSome_some] at hlook
    have HN4 : Hid _ := HN3.out.old hlt hm
    clear HN3 HV HX hm
    go_wp2
    go_roundw
    case rel => exact ⟨k + 1,by omega,by go_num,HN4⟩
    case measure => simp [intOf]; omega
   ·rw [qn hm] at hlook
    simp only [Option.getD_none,Option.isSome_none] at hlook
    have hln := fun ty => HN3.out.num.len ty
    obtain ⟨w7,hrun,hn7,hg7⟩ := HN3.out.num.put (by omega) HX.out (qn hm) (keysP f k).length (by omega)
    have HN7 : Hid _ := HN3.out.new hlt hm hn7 hg7
    have hr7 : RowI w7 3 (w.heap.size + 2) (((ofP f n).map Int.ofNat).take k ++ List.replicate (n - k) 0) := (hg7.block _ HN3.out.row.lt (fun e => by injection e with e; omega)).trans HN3.out.row
    have hz7 : w7.cell? ⟨w.heap.size + 2,k,none⟩ = some (.int .i64 z0) := (q7 hr7 k).trans ((q7 HN3.out.row k).symm.trans hz0)
    have fz7 := hr7.frozen k
    clear hn7 hg7 hr7 hz0 fz0 HN3 hm HX
    go_wp2
    refine wp_load_row 79 _ rfl gx rfl 79 (sgA (f k)) (0,0) _ HV.out Try.underlying79 rfl (by rw [hsx]; exact qb) ?_
    clear HV hlook
    go_wp2
    go_roundw
    case rel => exact ⟨k + 1,by omega,by go_num,HN7⟩
    case measure => simp [intOf]; omega
  ·obtain rfl : k = n := by omega
   have hln := fun ty => HL.out.num.len ty
   have HE : Hid _ := HQ.out wr HL.out
   clear HF HOK HQ HL
   go_wp2
   exact HE.out
theorem q1l (fid : Nat) (hE : EntersP fid) (u v : Value) (aA : Option Addr) (cA : Nat) (aT : Option Addr) (cT n : Nat) (f : Nat → List Nat) (w : World) (h1 : 1 ≤ n) (h256 : n ≤ 256) (hok : ∀ s,s < n → SgOk (f s)) (hF : ∀ wr s,Below w.heap.size w wr → s < n → Calls Try.prog fid #[.int .i64 (s : Int),u,v] wr (SigQ (f s) wr)) :
  Calls Try.prog 40 #[.agg #[.slice aA n cA,.slice aT n cT],.func (.func fid) #[] #[u,v]] w (NumR f n w) := by
 obtain ⟨Q,eQ⟩ : ∃ Q,Q = NumR f n w := ⟨_,rfl⟩
 have HQ : Hid (∀ wr,NbL w wr f n n → Q (.returned (.tuple #[.slice (some ⟨w.heap.size + 2,0,none⟩) n n,.int .i64 ((keysP f n).length : Int)])) wr) := fun wr h => by rw [eQ]; exact h.fin
 rw [← eQ]
 clear eQ
 have hz := fun w => qq w
 obtain ⟨Z,hZ⟩ : ∃ Z : List Nat,Z = List.replicate 257 0 := ⟨_,rfl⟩
 have HLZ : Hid (Z.length = 257) := by show _ = _; rw [hZ,List.length_replicate]
 rw [← hZ] at hz
 clear hZ
 have hsz : (sgA Z).size = 257 := by rw [qa]; exact HLZ.out
 have hmk := fun w => q12 n (by omega) w
 simp only [madeI] at hmk
 obtain ⟨C,hC⟩ : ∃ C,C = ((List.replicate n (0 : Int)).map (Value.int .i64)).toArray := ⟨_,rfl⟩
 have hmm := @run_makeMap Try.prog
 have HB0 : Hid (Below w.heap.size w (((w.alloc (.cells #[.slice aA n cA,.slice aT n cT] 60 (0,0))).alloc (.map #[] 0)).alloc (.cells C 3 (0,0)))) := q5 (q5 (q6 w _) (q6 _ _)) (q6 _ _)
 have hnm : NumSg ((w.alloc (.cells #[.slice aA n cA,.slice aT n cT] 60 (0,0))).alloc (.map #[] 0)) (w.heap.size + 1) 0 (fun _ => none) := by
  have := q1G (w.alloc (.cells #[.slice aA n cA,.slice aT n cT] 60 (0,0)))
  simpa using this
 have HL0 : Hid (NbL w (((w.alloc (.cells #[.slice aA n cA,.slice aT n cT] 60 (0,0))).alloc (.map #[] 0)).alloc (.cells C 3 (0,0))) f n 0) := by
  refine ⟨?_,(hnm.up (q6 _ _)).alike (fun x _ => by simp [posSg,keysP]),HB0.out⟩
  have := (MapKept.heap_alloc ((w.alloc (.cells #[.slice aA n cA,.slice aT n cT] 60 (0,0))).alloc (.map #[] 0)) (.cells C 3 (0,0))).1
  have e2 : ((w.alloc (.cells #[.slice aA n cA,.slice aT n cT] 60 (0,0))).alloc (.map #[] 0)).heap.size = w.heap.size + 2 := by simp
  rw [e2] at this
  unfold RowI
  rw [this,hC]
  simp
 rw [← hC] at hmk
 clear hC hnm
 have m1 := ((qi w (.slice aA n cA) (.slice aT n cT)).up (q6 _ (.map #[] 0))).c1
 have HOK : Hid _ := hok
 have HF : Hid _ := hF
 unfold EntersP at hE
 clear hok hF
 go_enter Try.func40,Try.ntmps40
 go_wp2
 clear HB0 m1 hmm hmk
 go_loopw [19] (fun i wr => ∃ k : Nat,k ≤ n ∧ i = .int .i64 (k : Int) ∧ Hid (NbL w wr f n k)) (fun i _ => n - (intOf i).toNat)
 case atStart => exact ⟨0,Nat.zero_le _,rfl,HL0⟩
 case round =>
  obtain ⟨k,hk,rfl,HL⟩ := hrel
  clear HL0
  by_cases hlt : k < n
  ·have jf := HF.out wr k HL.out.bel hlt
   have hx := HOK.out k hlt
   have HX : Hid _ := hx
   clear hx
   go_wp2_with fail
   refine jf.mono ?_
   rintro e w2 ⟨rfl,hb2⟩
   have hN2 := HL.out.up hb2
   have h3 : SgB (w2.alloc (.cells (sgA Z) 79 (0,0))) w2.heap.size Z := (MapKept.heap_alloc w2 _).1
   have hst := h3.cells HLZ.out HX.out.1
   have HV : Hid (SgB ((w2.alloc (.cells (sgA Z) 79 (0,0))).setRow w2.heap.size (sgA (f k))) w2.heap.size (f k)) := h3.row
   have HN3 : Hid (NbL w ((w2.alloc (.cells (sgA Z) 79 (0,0))).setRow w2.heap.size (sgA (f k))) f n k) := hN2.up (qh (q6 w2 _) (Nat.le_refl _) _)
   have hsx : (sgA (f k)).size = 257 := by rw [qa]; exact HX.out.1
   clear hN2 h3 hb2 jf HL HF HOK HQ
   go_wp2
   generalize (w2.alloc (.cells (sgA Z) 79 (0,0))).setRow w2.heap.size (sgA (f k)) = w3 at *
   generalize w2.heap.size = gx at *
   clear hst hz
   refine wp_load_row 79 _ rfl gx rfl 79 (sgA (f k)) (0,0) _ HV.out Try.underlying79 rfl (by rw [hsx]; exact qb) ?_
   have hlook := HN3.out.num.look HX.out
   have hkl := qm f k
   have hc41 : ∀ m : Nat,((((ofP f n).map Int.ofNat).take k ++ List.replicate (n - k) 0).length = n) := fun _ => by rw [List.length_append,List.length_take,List.length_map,qs,List.length_replicate]; omega
   have cell : ∃ z,w3.cell? ⟨w.heap.size + 2,k,none⟩ = some (.int .i64 z) := ⟨_,HN3.out.row.cell (by rw [hc41 0]; exact hlt)⟩
   obtain ⟨z0,hz0⟩ := cell
   have fz0 := HN3.out.row.frozen k
   have hidx : ∀ w',(Instr.indexAt 23 (.slice (some ⟨w.heap.size + 2,0,none⟩) n n) (.int .i64 (k : Int))).run Try.prog w' = .ok (.pointer (some ⟨w.heap.size + 2,k,none⟩)) w' := fun w' => by
    have := qf (P := Try.prog) (T := 23) Try.underlying23 qc (a := some ⟨w.heap.size + 2,0,none⟩) (cap := n) (n := n) (fun e => by cases e) k w' hlt
    simpa [adOf,q8] using this
   clear hc41
   by_cases hm : f k ∈ keysP f k
   ·rw [qC hm] at hlook
    simp only [Option.getD_some,Option.isSome_some] at hlook
    have HN4 : Hid _ := HN3.out.old hlt hm
    clear HN3 HV HX hm
    go_wp2
    go_roundw
    case rel => exact ⟨k + 1,by omega,by go_num,HN4⟩
    case measure => simp [intOf]; omega
   ·rw [qn hm] at hlook
    simp only [Option.getD_none,Option.isSome_none] at hlook
    have hln := fun ty => HN3.out.num.len ty
    obtain ⟨w7,hrun,hn7,hg7⟩ := HN3.out.num.put (by omega) HX.out (qn hm) (keysP f k).length (by omega)
    have HN7 : Hid _ := HN3.out.new hlt hm hn7 hg7
    have hr7 : RowI w7 3 (w.heap.size + 2) (((ofP f n).map Int.ofNat).take k ++ List.replicate (n - k) 0) := (hg7.block _ HN3.out.row.lt (fun e => by injection e with e; omega)).trans HN3.out.row
    have hz7 : w7.cell? ⟨w.heap.size + 2,k,none⟩ = some (.int .i64 z0) := (q7 hr7 k).trans ((q7 HN3.out.row k).symm.trans hz0)
    have fz7 := hr7.frozen k
    clear hn7 hg7 hr7 hz0 fz0 HN3 hm HX
    go_wp2
    refine wp_load_row 79 _ rfl gx rfl 79 (sgA (f k)) (0,0) _ HV.out Try.underlying79 rfl (by rw [hsx]; exact qb) ?_
    clear HV hlook
    go_wp2
    go_roundw
    case rel => exact ⟨k + 1,by omega,by go_num,HN7⟩
    case measure => simp [intOf]; omega
  ·obtain rfl : k = n := by omega
   have hln := fun ty => HL.out.num.len ty
   have HE : Hid _ := HQ.out wr HL.out
   clear HF HOK HQ HL
   go_wp2
   exact HE.out
theorem q3Z (bs : List Bool) (s : Nat) : SgOk (kindP bs s) := by
 refine ⟨q28 bs s,fun x hx => ?_⟩
 rcases List.mem_cons.1 hx with rfl | hx
 ·split <;> omega
 ·have := List.eq_of_mem_replicate hx
  omega
theorem q3p {n K : Nat} {R : List (List Nat)} (h : RowsP n K R) (hK : K ≤ 256) {c : List Nat} (hc : ∀ t,t < n → c.getD t 0 < 256) {s : Nat} (hs : s < n) : SgOk (sigP R c s) := by
 refine ⟨q49 h hK c hs,fun x hx => ?_⟩
 rcases List.mem_append.1 hx with hx | hx
 ·rcases List.mem_cons.1 hx with rfl | hx
  ·exact hc s hs
  ·obtain ⟨t,ht,rfl⟩ := List.mem_map.1 hx
   obtain ⟨l,hl,rfl⟩ := List.getElem_of_mem ht
   have := h.lt s l hs (by rw [← h.row s hs]; exact hl)
   rw [trP,List.getD_eq_getElem?_getD,List.getElem?_eq_getElem hl] at this
   exact hc _ this
 ·have := List.eq_of_mem_replicate hx
  omega
def VaB (w : World) (g : Nat) (v : Value) : Prop := w.heap[g]? = some (.cells #[v] 23 (0,0))
theorem VaB.lt {w : World} {g : Nat} {v : Value} (h : VaB w g v) : g < w.heap.size := (Array.getElem?_eq_some_iff.1 h).1
theorem VaB.up {w w' : World} {g : Nat} {v : Value} (h : VaB w g v) (hb : Below w.heap.size w w') : VaB w' g v := (hb.block g h.lt).trans h
theorem VaB.c {w : World} {g : Nat} {v : Value} (h : VaB w g v) : w.cell? ⟨g,0,none⟩ = some v := q7 h 0
theorem VaB.fz {w : World} {g : Nat} {v : Value} (h : VaB w g v) : w.frozen? ⟨g,0,none⟩ = false := frozen_of_row w g 0 _ _ h
theorem q3l {w : World} {g n : Nat} {l : List Nat} (h : RowI w 3 g (l.map Int.ofNat)) (hl : l.length = n) (hn : n ≤ 256) : ZSl w (some ⟨g,0,none⟩) n n (l.map Int.ofNat) := by
 have := RowI.zsl (n := n) h Try.underlying23 qc (by rw [List.length_map]; omega) (by rw [List.length_map]; unfold maxLen; omega)
 rw [List.length_map,hl,List.take_of_length_le (by rw [List.length_map]; omega)] at this
 exact this
theorem q2z (aA : Option Addr) (cA : Nat) (aT : Option Addr) (cT n K : Nat) (bs : List Bool) (R : List (List Nat)) (gm gc : Nat) (aC : Option Addr) (cC : Nat) (c : List Nat) (s : Nat) (w : World) (hM : MvS w aA cA aT cT n bs R) (hR : RowsP n K R) (hK : K ≤ 256) (hC : ZSl w aC n cC (c.map Int.ofNat)) (hc : ∀ t,t < n → c.getD t 0 < 256) (hs : s < n) (hb : MvB w gm (.slice aA n cA) (.slice aT n cT)) (hv : VaB w gc (.slice aC n cC)) :
  Calls Try.prog 42 #[.int .i64 (s : Int),.pointer (some ⟨gm,0,none⟩),.pointer (some ⟨gc,0,none⟩)] w (SigQ (sigP R c s) w) := by
 obtain ⟨Y,hY⟩ : ∃ Y,Y = sigP R c s := ⟨_,rfl⟩
 have hly : Y.length = 257 := by rw [hY]; exact (q3p hR hK hc hs).1
 have hz := fun w => qq w
 obtain ⟨Z,hZ⟩ : ∃ Z : List Nat,Z = List.replicate 257 0 := ⟨_,rfl⟩
 have hlz : Z.length = 257 := by rw [hZ,List.length_replicate]
 rw [← hZ] at hz
 clear hZ
 have hsz : (sgA Z).size = 257 := by rw [qa]; exact hlz
 have hsy : (sgA Y).size = 257 := by rw [qa]; exact hly
 have hb1 := q6 w (.cells (sgA Z) 79 (0,0))
 have j1 := q38 aA cA aT cT n K bs R aC cC c s _ (hM.up hb1) hR hK (hC.up hb1) hc hs
 have h1 : SgB (w.alloc (.cells (sgA Z) 79 (0,0))) w.heap.size Z := (MapKept.heap_alloc w _).1
 have HS : Hid (∀ w2,Below (w.alloc (.cells (sgA Z) 79 (0,0))).heap.size (w.alloc (.cells (sgA Z) 79 (0,0))) w2 → SgB w2 w.heap.size Z ∧ Below w.heap.size w w2) := fun w2 h2 => ⟨h1.up h2,q5 hb1 h2⟩
 rw [← hY] at j1 ⊢
 have m0 := (hb.up hb1).c0
 have m1 := (hb.up hb1).c1
 have v0 := (hv.up hb1).c
 have HLY : Hid _ := hly
 have HLZ : Hid _ := hlz
 clear hM hR hK hC hc hY hb1 h1 hb hv hly hlz
 go_enter Try.func42,Try.ntmps42
 go_wp2_with fail
 refine j1.mono ?_
 rintro e w2 ⟨rfl,hb2⟩
 obtain ⟨hs2,hbb⟩ := HS.out w2 hb2
 have hst := hs2.store HLZ.out HLY.out
 have hsc := hs2.cells HLZ.out HLY.out
 have HE : Hid (SigQ Y w (.returned (.agg (sgA Y))) (w2.setRow w.heap.size (sgA Y))) := ⟨rfl,qh hbb (Nat.le_refl _) _⟩
 have HVY : Hid (SgB (w2.setRow w.heap.size (sgA Y)) w.heap.size Y) := hs2.row
 clear j1 hb2 HS hbb hs2 m0 m1 v0
 go_wp2
 refine bodyPost_ret (v := .agg (sgA Y)) ?_ rfl HE.out
 exact results_cell_row Try.results42 _ _ w.heap.size 79 (sgA Y) (0,0) _ rfl HVY.out Try.underlying79 rfl (by rw [hsy]; exact qb)
def ClsR (R : List (List Nat)) (bs : List Bool) (n : Nat) (w : World) (e : Ending) (w' : World) : Prop :=
 Below w.heap.size w w' ∧ ∃ k g,w.heap.size ≤ g ∧ manyP R bs n k = manyP R bs n (k + 1) ∧ e = .returned (.slice (some ⟨g,0,none⟩) n n) ∧ RowI w' 3 g ((clsP R bs n k).map Int.ofNat)
structure CsL (w wr : World) (gc : Nat) (aA : Option Addr) (cA : Nat) (aT : Option Addr) (cT n : Nat) (R : List (List Nat)) (bs : List Bool) (k g : Nat) : Prop where
 mb : MvB wr w.heap.size (.slice aA n cA) (.slice aT n cT)
 vb : VaB wr gc (.slice (some ⟨g,0,none⟩) n n)
 gl : w.heap.size < gc
 gg : w.heap.size < g
 ne : g ≠ gc
 row : RowI wr 3 g ((clsP R bs n k).map Int.ofNat)
 bel : Below w.heap.size w wr
theorem q2B : EntersP 41 := fun _ _ => rfl
theorem q2A : EntersP 42 := fun _ _ => rfl
theorem qE (aA : Option Addr) (cA : Nat) (aT : Option Addr) (cT n K : Nat) (bs : List Bool) (R : List (List Nat)) (w : World) (hM : MvS w aA cA aT cT n bs R) (hR : RowsP n K R) (hK : K ≤ 256) (h1 : 1 ≤ n) (h256 : n ≤ 256) :
  Calls Try.prog 26 #[.agg #[.slice aA n cA,.slice aT n cT]] w (ClsR R bs n w) := by
 obtain ⟨Q,eQ⟩ : ∃ Q,Q = ClsR R bs n w := ⟨_,rfl⟩
 have HQ : Hid (∀ wr gc k g,CsL w wr gc aA cA aT cT n R bs k g → manyP R bs n k = manyP R bs n (k + 1) → Q (.returned (.slice (some ⟨g,0,none⟩) n n)) wr) := fun wr gc k g h hm => by rw [eQ]; exact ⟨h.bel,k,g,Nat.le_of_lt h.gg,hm,rfl,h.row⟩
 rw [← eQ]
 clear eQ
 have hb0 := q6 w (.cells #[.slice aA n cA,.slice aT n cT] 60 (0,0))
 have hm0 := qi w (.slice aA n cA) (.slice aT n cT)
 have jk := q1e 41 q2B (.agg #[.slice aA n cA,.slice aT n cT]) aA cA aT cT n (kindP bs) _ h1 h256 (fun s _ => q3Z bs s) (fun wr s hb hs => q2E aA cA aT cT n bs R s wr ((hM.up hb0).up hb) hs)
 have HN1 : Hid (∀ e w2,NumR (kindP bs) n (w.alloc (.cells #[.slice aA n cA,.slice aT n cT] 60 (0,0))) e w2 → ∃ g,e = .returned (.tuple #[.slice (some ⟨g,0,none⟩) n n,.int .i64 (manyP R bs n 0 : Int)]) ∧ CsL w (w2.alloc (.cells #[.slice (some ⟨g,0,none⟩) n n] 23 (0,0))) w2.heap.size aA cA aT cT n R bs 0 g) := fun e w2 hq => by
  obtain ⟨hb,g,hg,rfl,hr⟩ := hq
  have hsz : (w.alloc (.cells #[.slice aA n cA,.slice aT n cT] 60 (0,0))).heap.size = w.heap.size + 1 := by simp
  have := hb.size
  have hgl := hr.lt
  exact ⟨g,rfl,(hm0.up hb).up (q6 _ _),(MapKept.heap_alloc w2 _).1,by omega,by omega,by omega,hr.up (q6 _ _),q5 (q5 hb0 hb) (q6 _ _)⟩
 have m0 := hm0.c0
 have m1 := hm0.c1
 have HM : Hid _ := hM
 have HR : Hid _ := hR
 clear hb0 hm0 hM hR
 go_enter Try.func26,Try.ntmps26
 go_wp2_with fail
 refine jk.mono ?_
 intro e w2 hq
 obtain ⟨g0,rfl,hL0⟩ := HN1.out e w2 hq
 have HL0 : Hid _ := hL0
 clear jk hq HN1 hL0 m0 m1
 go_wp2
 generalize w2.heap.size = gc at *
 generalize w2.alloc (.cells #[.slice (some ⟨g0,0,none⟩) n n] 23 (0,0)) = w3 at *
 go_loopw [4] (fun m wr => ∃ k g : Nat,m = .int .i64 (manyP R bs n k : Int) ∧ Hid (CsL w wr gc aA cA aT cT n R bs k g)) (fun m _ => n - (intOf m).toNat)
 case atStart => exact ⟨0,g0,rfl,HL0⟩
 case round =>
  obtain ⟨k,g,rfl,HL⟩ := hrel
  clear HL0
  have hcl := qR R bs n k
  have hc8 : ∀ t,t < n → (clsP R bs n k).getD t 0 < 256 := fun t ht => by have := q1V R bs n k ht; omega
  have hz := q3l HL.out.row hcl h256
  have js := q1l 42 q2A (.pointer (some ⟨w.heap.size,0,none⟩)) (.pointer (some ⟨gc,0,none⟩)) aA cA aT cT n (sigP R (clsP R bs n k)) wr h1 h256 (fun s hs => q3p HR.out hK hc8 hs) (fun wx s hb hs => q2z aA cA aT cT n K bs R w.heap.size gc (some ⟨g,0,none⟩) n (clsP R bs n k) s wx ((HM.out.up HL.out.bel).up hb) HR.out hK (hz.up hb) hc8 hs (HL.out.mb.up hb) (HL.out.vb.up hb))
  have HN : Hid (∀ e w2,NumR (sigP R (clsP R bs n k)) n wr e w2 → ∃ g2,e = .returned (.tuple #[.slice (some ⟨g2,0,none⟩) n n,.int .i64 (manyP R bs n (k + 1) : Int)]) ∧ CsL w w2 gc aA cA aT cT n R bs k g ∧ CsL w (w2.setCell ⟨gc,0,none⟩ (.slice (some ⟨g2,0,none⟩) n n)) gc aA cA aT cT n R bs (k + 1) g2) := fun e w2 hq => by
   obtain ⟨hb,g2,hg,rfl,hr⟩ := hq
   have hgl := HL.out.gl
   have hgc := HL.out.vb.lt
   have hws := HL.out.bel.size
   have hv := heap_setCell_same w2 gc 0 _ _ (.slice (some ⟨g2,0,none⟩) n n) (HL.out.vb.up hb)
   exact ⟨g2,rfl,⟨HL.out.mb.up hb,HL.out.vb.up hb,HL.out.gl,HL.out.gg,HL.out.ne,HL.out.row.up hb,q5 HL.out.bel hb⟩,
    ⟨(Below.heap_setCell _ _ _ _ (by dsimp only; omega)).trans (HL.out.mb.up hb),hv,hgl,by omega,by omega,hr.other (by omega) _ _,(q5 HL.out.bel hb).setCell (by dsimp only; omega) _⟩⟩
  have hup := (q2S (bs := bs) HR.out k).1
  have hle := q40 R bs n (k + 1)
  have HMK : Hid (manyP R bs n k = manyP R bs n (k + 1) → ∀ wx,CsL w wx gc aA cA aT cT n R bs k g → Q (.returned (.slice (some ⟨g,0,none⟩) n n)) wx) := fun h wx hx => HQ.out wx gc k g hx h
  have m0 := HL.out.mb.c0
  have m1 := HL.out.mb.c1
  generalize hA : manyP R bs n k = A at *
  generalize hB : manyP R bs n (k + 1) = B at *
  have HAB : Hid _ := hB
  clear hA hB hcl hc8 hz HL
  go_wp2_with fail
  refine js.mono ?_
  intro e w4 hq
  obtain ⟨g2,rfl,hk4,hn4⟩ := HN.out e w4 hq
  have v0 := hk4.vb.c
  have f0 := hk4.vb.fz
  clear js hq HN m0 m1
  by_cases hAB : A = B
  ·subst hAB
   have HE : Hid _ := HMK.out rfl w4 hk4
   clear HMK hk4 hn4 HAB
   go_wp2
   exact HE.out
  ·have hne : ((B : Int) == (A : Int)) = false := by rw [q1o]; simp; omega
   have HL4 : Hid _ := hn4
   clear HMK hk4 hn4
   go_wp2
   go_roundw
   case rel => exact ⟨k + 1,g2,by rw [HAB.out],HL4⟩
   case measure => simp [intOf]; omega
def encP (Q : List PrP) : List Value := Q.flatMap fun x => [.int .i64 (x.1 : Int),.int .i64 (x.2.1 : Int),.int .i64 (x.2.2.1 : Int),.int .u8 (x.2.2.2 : Int)]
theorem q23 (t : PrP) (Q : List PrP) : encP (t :: Q) = .int .i64 (t.1 : Int) :: .int .i64 (t.2.1 : Int) :: .int .i64 (t.2.2.1 : Int) :: .int .u8 (t.2.2.2 : Int) :: encP Q := rfl
theorem q3R (X Y : List PrP) : encP (X ++ Y) = encP X ++ encP Y := by simp [encP]
theorem q2M : ∀ Q : List PrP,(encP Q).length = Q.length * 4
 | [] => rfl
 | t :: Q => by rw [q23]; simp [q2M Q]; omega
theorem q2L : ∀ (Q : List PrP) (k : Nat) (x : PrP),Q[k]? = some x → (encP Q)[4 * k]? = some (.int .i64 (x.1 : Int)) ∧ (encP Q)[4 * k + 1]? = some (.int .i64 (x.2.1 : Int)) ∧ (encP Q)[4 * k + 2]? = some (.int .i64 (x.2.2.1 : Int)) ∧ (encP Q)[4 * k + 3]? = some (.int .u8 (x.2.2.2 : Int))
 | [],k,x,h => by simp at h
 | t :: Q,0,x,h => by simp at h; subst h; exact ⟨rfl,rfl,rfl,rfl⟩
 | t :: Q,k + 1,x,h => by
  have := q2L Q k x (by simpa using h)
  rw [q23,show 4 * (k + 1) = 4 * k + 1 + 1 + 1 + 1 by omega,show 4 * k + 1 + 1 + 1 + 1 + 1 = (4 * k + 1) + 1 + 1 + 1 + 1 by omega,show 4 * k + 1 + 1 + 1 + 1 + 2 = (4 * k + 2) + 1 + 1 + 1 + 1 by omega,show 4 * k + 1 + 1 + 1 + 1 + 3 = (4 * k + 3) + 1 + 1 + 1 + 1 by omega]
  simpa using this
theorem q3S (Q : List PrP) : ∀ u ∈ encP Q,u.oneCell' = true := by
 intro u hu
 unfold encP at hu
 obtain ⟨c,_,hc⟩ := List.mem_flatMap.1 hu
 simp at hc
 rcases hc with rfl | rfl | rfl | rfl <;> rfl
theorem q3t : (Try.prog.info? 83).map (fun i => (i.zero,i.size,i.bytes)) = some (some (.agg #[.int .i64 0,.int .i64 0,.int .i64 0,.int .u8 0]),4,32) := by kernel_rfl
theorem q3w : (Try.prog.info? 83).map (·.size) = some 4 := by kernel_rfl
theorem q3a {P : Program} {e : TypeId} (h : (P.info? e).map (·.size) = some 4) (w : World) : (sizeOf e).run P w = .ok 4 w := by
 cases hq : P.info? e with
 | none => simp [hq] at h
 | some i => simp [hq] at h; simp [sizeOf,typeInfo,hq,h]
abbrev PqO (w : World) (base : Nat) (v : Value) (m : Nat) (Q : List PrP) : Prop := w.ownsRow base 83 4 v m (encP Q)
theorem PqO.len {w : World} {base m : Nat} {v : Value} {Q : List PrP} (h : PqO w base v m Q) : Q.length = m := by
 have := h.1
 rw [q2M] at this
 omega
theorem PqO.at {w : World} {base m : Nat} {v : Value} {Q : List PrP} (h : PqO w base v m Q) {i : Nat} {x : PrP} (hx : Q[i]? = some x) :
  ∃ g cap oo,v = .slice (some ⟨g,0,none⟩) m cap ∧ base ≤ g ∧ g < w.heap.size ∧ (∀ w',(Instr.indexAt 84 (.slice (some ⟨g,0,none⟩) m cap) (.int .i64 (i : Int))).run Try.prog w' = .ok (.pointer (some ⟨g,oo,none⟩)) w') ∧ w.cell? ⟨g,oo,none⟩ = some (.int .i64 (x.1 : Int)) ∧ w.cell? ⟨g,oo + 1,none⟩ = some (.int .i64 (x.2.1 : Int)) ∧ w.cell? ⟨g,oo + 2,none⟩ = some (.int .i64 (x.2.2.1 : Int)) ∧ w.cell? ⟨g,oo + 3,none⟩ = some (.int .u8 (x.2.2.2 : Int)) := by
 have hl := h.len
 have hi : i < m := by have := (List.getElem?_eq_some_iff.1 hx).1; omega
 rcases h.2 with ⟨_,h0⟩ | ⟨g,cap,cur,rfl,hg,hcell,hnc,hcm,hsz,htk⟩
 ·omega
 ·have key : ∀ j,j < m * 4 → w.cell? ⟨g,j,none⟩ = (encP Q)[j]? := fun j hj => by
   rw [← htk,List.getElem?_take,if_pos hj]
   simp [World.cell?,hcell]
  obtain ⟨e0,e1,e2,e3⟩ := q2L Q i x hx
  refine ⟨g,cap,4 * i,rfl,hg,(Array.getElem?_eq_some_iff.1 hcell).1,fun w' => ?_,?_,?_,?_,?_⟩
  ·simp [Instr.indexAt,run_underlying Try.underlying84,asIntOf,q3a q3w,hi,Result.andThen,go_sem,q8,Nat.mul_comm]
  ·rw [key _ (by omega),e0]
  ·rw [key _ (by omega),e1]
  ·rw [key _ (by omega),e2]
  ·rw [key _ (by omega),e3]
theorem q1n (a : Option Addr) (c : Nat) (w : World) : Calls Try.prog 58 #[.slice a 0 c] w fun e w' => e = .returned (.tuple #[]) ∧ w' = w := by
 go_enter Try.func58,Try.ntmps58
 go_wp2
 go_loopw [2,3] (fun i j wr => i = .int .i64 0 ∧ j = .int .i64 (-1) ∧ wr = w) (fun _ _ _ => 0)
 case atStart => exact ⟨rfl,rfl,rfl⟩
 case round =>
  obtain ⟨rfl,rfl,rfl⟩ := hrel
  go_wp2
  go_end0
  exact ⟨rfl,rfl⟩
def TrcR (ts : List Nat) (w : World) (e : Ending) (w' : World) : Prop := Below w.heap.size w w' ∧ ∃ a c,e = .returned (.slice a ts.length c) ∧ w'.ownsRow w.heap.size 54 1 (.slice a ts.length c) ts.length (ltV ts)
theorem q2w (base m : Nat) (g cap : Nat) (Q : List PrP) (j0 : Nat) (ts : List Nat) (w : World) (hQ : PqO w base (.slice (some ⟨g,0,none⟩) m cap) m Q) (hm : m ≤ 65536) (hj : j0 < m) (hup : upP Q ts j0) (hback : ∀ (j : Nat) (x : PrP),0 < j → Q[j]? = some x → x.2.2.1 < j ∧ x.2.2.2 < 256) :
  Calls Try.prog 46 #[.slice (some ⟨g,0,none⟩) m cap,.int .i64 (j0 : Int)] w (TrcR ts.reverse w) := by
 obtain ⟨P,eP⟩ : ∃ P,P = TrcR ts.reverse w := ⟨_,rfl⟩
 have HP : Hid (∀ w' a c,Below w.heap.size w w' → w'.ownsRow w.heap.size 54 1 (.slice a ts.length c) ts.length (ltV ts.reverse) → P (.returned (.slice a ts.length c)) w') := fun w' a c hb h => by rw [eP]; exact ⟨hb,a,c,by rw [List.length_reverse],by rw [List.length_reverse]; exact h⟩
 rw [← eP]
 clear eP
 have HQ : Hid _ := hQ
 have HBK : Hid _ := hback
 have HUP : Hid _ := hup
 have hts : ∀ (ts : List Nat) (j : Nat),upP Q ts j → j < m → ts.length ≤ j := by
  intro ts
  induction ts with
  | nil => intro j _ _; exact Nat.zero_le _
  | cons b ts ih =>
   intro j h hj
   obtain ⟨h0,x,hx,_,h1⟩ := h
   have := hback j x h0 hx
   have := ih _ h1 (by omega)
   simp; omega
 have HTL : Hid (ts.length ≤ 65536) := by show _ ≤ _; have := hts ts j0 hup hj; omega
 clear hQ hback hup hts
 go_enter Try.func46,Try.ntmps46
 go_wp2
 go_loopw [1,5] (fun i v wr => ∃ (j : Nat) (ds rs : List Nat),j < m ∧ i = .int .i64 (j : Int) ∧ Hid (upP Q rs j) ∧ Hid (ds ++ rs = ts) ∧ Hid (wr.ownsRow w.heap.size 54 1 v ds.length (ltV ds)) ∧ Hid (Below w.heap.size w wr)) (fun i _ _ => (intOf i).toNat)
 case atStart => exact ⟨j0,[],ts,hj,rfl,HUP,rfl,⟨rfl,.inl ⟨rfl,rfl⟩⟩,Below.refl _ _⟩
 case round =>
  obtain ⟨j,ds,rs,hjm,rfl,HU,HD,HO,HB⟩ := hrel
  clear HUP
  obtain ⟨va,vc,rfl⟩ := qt HO.out
  by_cases h0 : 0 < j
  ·cases rs with
   | nil => exact absurd HU.out (by show ¬ j = 0; omega)
   | cons b rs =>
    obtain ⟨_,x,hx,hb,hr⟩ := HU.out
    have HR : Hid _ := hr
    obtain ⟨hfj,hb8⟩ := HBK.out j x h0 hx
    obtain ⟨p,q,f,l⟩ := x
    dsimp only at hb hr hfj hb8 HR
    subst hb
    obtain ⟨g1,cap1,oo,e1,_,hgl,hix,c0,c1,c2,c3⟩ := PqO.at HQ.out hx
    injection e1 with e1 _ e3
    injection e1 with e1
    injection e1 with e1
    subst e1; subst e3
    have hdl : ds.length ≤ 65536 := by have := HTL.out; have := congrArg List.length HD.out; simp at this; omega
    have hk2 := HB.out.cell (p := ⟨g,oo + 2,none⟩) hgl
    have hk3 := HB.out.cell (p := ⟨g,oo + 3,none⟩) hgl
    dsimp only at c2 c3
    have c2 := hk2.trans c2
    have c3 := hk3.trans c3
    have HD2 : Hid ((ds ++ [l]) ++ rs = ts) := by show _ = _; rw [← HD.out]; simp
    have hsz : w.heap.size ≤ (wr.alloc (.cells #[.int .u8 (l : Int)] 54)).heap.size := by have := HB.out.size; simp; omega
    have hcl : (wr.alloc (.cells #[.int .u8 (l : Int)] 54)).cell? ⟨wr.heap.size,0,none⟩ = some (.int .u8 (l : Int)) := q7 (MapKept.heap_alloc wr _).1 0
    clear HU hx hr hk2 hk3 c0 c1 HD HP
    go_wp2_with (at_builtin; refine q1L rfl _ _ rfl w.heap.size _ ds.length ds rfl (World.ownsRow.alloc HO.out _) wr.heap.size l rfl hcl (by omega) hsz ?_)
    intro v7 w7 hown hgr
    have HO7 : Hid (w7.ownsRow w.heap.size 54 1 v7 (ds ++ [l]).length (ltV (ds ++ [l]))) := by show World.ownsRow _ _ _ _ _ _ _; rw [List.length_append,ltV,List.map_append]; exact hown
    have HB7 : Hid (Below w.heap.size w w7) := (HB.out.alloc HB.out.size _).grown hgr hsz (qw HO.out)
    have c2 : w7.cell? ⟨g,oo + 2,none⟩ = some (.int .i64 (f : Int)) := by
     have h1 : (wr.alloc (.cells #[.int .u8 (l : Int)] 54)).cell? ⟨g,oo + 2,none⟩ = some (.int .i64 (f : Int)) := q9 c2 (q6 _ _)
     refine q1D h1 hgr (fun e => ?_)
     have := qw HO.out g e.symm
     omega
    clear hown hgr c3 hcl hsz HO HB
    go_wp2
    go_roundw
    case rel => exact ⟨f,ds ++ [l],rs,by omega,rfl,HR,HD2,HO7,HB7⟩
    case measure => simp [intOf]; omega
  ·obtain rfl : j = 0 := by omega
   have hr0 := q2X HU.out
   subst hr0
   have hds : ds = ts := by have := HD.out; rwa [List.append_nil] at this
   subst hds
   by_cases hn : ds.length = 0
   ·have hd0 : ds = [] := List.eq_nil_of_length_eq_zero hn
    subst hd0
    have HE : Hid _ := HP.out wr va vc HB.out (by simpa using HO.out)
    have jr := q1n va vc wr
    clear HP HU HD HO
    simp only [List.length_nil] at HE ⊢
    go_wp2_with fail
    refine jr.mono ?_
    rintro e w' ⟨rfl,hw'⟩
    subst hw'
    go_wp2
    exact HE.out
   ·obtain ⟨gt,ct,et,hg1,hg2⟩ := World.ownsRow.form HO.out (by omega)
    injection et with et1 et2 et3
    subst et1; subst et3
    have jr := q1A w.heap.size gt vc ds.length ds wr (by omega) (by have := HTL.out; omega) HO.out
    have HE : Hid (∀ w',w'.ownsRow w.heap.size 54 1 (.slice (some ⟨gt,0,none⟩) ds.length vc) ds.length (ltV ds.reverse) → wr.grownBy w' (some gt) → P (.returned (.slice (some ⟨gt,0,none⟩) ds.length vc)) w') := fun w' h1 h2 => HP.out w' _ _ (HB.out.grown h2 HB.out.size (fun q e => by injection e with e; omega)) h1
    clear HP HU HD HO HB
    go_wp2_with fail
    refine jr.mono ?_
    rintro e w' ⟨rfl,h1,h2⟩
    have HE2 : Hid _ := HE.out w' h1 h2
    clear h1 h2 jr HE
    go_wp2
    exact HE2.out
theorem BoRow.ltP {w : World} {g : Nat} {bs : List Bool} (h : BoRow w g bs) : g < w.heap.size := (Array.getElem?_eq_some_iff.1 h).1
theorem BoRow.upP {w w' : World} {g : Nat} {bs : List Bool} (h : BoRow w g bs) (hb : Below w.heap.size w w') : BoRow w' g bs := (hb.block g h.ltP).trans h
theorem BoRow.setP {w : World} {g : Nat} {bs : List Bool} (h : BoRow w g bs) (i : Nat) (b : Bool) : BoRow (w.setCell ⟨g,i,none⟩ (.bool b)) g (bs.set i b) := by
 have := heap_setCell_same w g i _ _ (.bool b) h
 unfold BoRow; rw [this]; simp [List.map_set]
theorem BoRow.cellP {w : World} {g : Nat} {bs : List Bool} (h : BoRow w g bs) {i : Nat} (hi : i < bs.length) : w.cell? ⟨g,i,none⟩ = some (.bool (bs.getD i false)) := by
 unfold BoRow at h; simp [World.cell?,h,List.getD_eq_getElem?_getD,List.getElem?_eq_getElem hi]
theorem BoRow.fzP {w : World} {g : Nat} {bs : List Bool} (h : BoRow w g bs) (i : Nat) : w.frozen? ⟨g,i,none⟩ = false := frozen_of_row w g i _ _ h
theorem qP {a b n : Nat} (ha : a < n) (hb : b < n) : a * n + b < n * n := by
 have := Nat.mul_le_mul_right n (show a + 1 ≤ n by omega)
 rw [Nat.add_mul] at this; omega
theorem q43 {a b c d n : Nat} (hb : b < n) (hd : d < n) (h : a * n + b = c * n + d) : a = c ∧ b = d := by
 have e1 : a = c := by
  have a1 : (a * n + b) / n = a := by rw [Nat.mul_comm,Nat.mul_add_div (by omega),Nat.div_eq_of_lt hb]; rfl
  have a2 : (c * n + d) / n = c := by rw [Nat.mul_comm,Nat.mul_add_div (by omega),Nat.div_eq_of_lt hd]; rfl
  rw [← a1,← a2,h]
 subst e1
 exact ⟨rfl,by omega⟩
def MetR (w : World) (g n : Nat) (Q : List PrP) : Prop := ∃ ms,BoRow w g ms ∧ ms.length = n * n ∧ ∀ a b,a < n → b < n → ms.getD (a * n + b) false = decide ((a,b) ∈ pqP Q)
theorem MetR.up {w w' : World} {g n : Nat} {Q : List PrP} (h : MetR w g n Q) (hb : Below w.heap.size w w') : MetR w' g n Q := by
 obtain ⟨ms,h1,h2⟩ := h; exact ⟨ms,h1.upP hb,h2⟩
theorem MetR.far {w w' : World} {g n : Nat} {Q : List PrP} (h : MetR w g n Q) (hb : w'.heap[g]? = w.heap[g]?) : MetR w' g n Q := by
 obtain ⟨ms,h1,h2⟩ := h; exact ⟨ms,hb.trans h1,h2⟩
theorem MetR.lt {w : World} {g n : Nat} {Q : List PrP} (h : MetR w g n Q) : g < w.heap.size := by obtain ⟨ms,h1,_⟩ := h; exact h1.ltP
theorem MetR.at {w : World} {g n : Nat} {Q : List PrP} (h : MetR w g n Q) {a b : Nat} (ha : a < n) (hb : b < n) : w.cell? ⟨g,a * n + b,none⟩ = some (.bool (decide ((a,b) ∈ pqP Q))) ∧ w.frozen? ⟨g,a * n + b,none⟩ = false := by
 obtain ⟨ms,h1,h2,h3⟩ := h
 exact ⟨by rw [h1.cellP (by rw [h2]; exact qP ha hb),h3 a b ha hb],h1.fzP _⟩
theorem MetR.put {w : World} {g n : Nat} {Q : List PrP} (h : MetR w g n Q) {x : PrP} (ha : x.1 < n) (hb : x.2.1 < n) : MetR (w.setCell ⟨g,x.1 * n + x.2.1,none⟩ (.bool true)) g n (Q ++ [x]) := by
 obtain ⟨ms,h1,h2,h3⟩ := h
 refine ⟨_,h1.setP _ true,by rw [List.length_set]; exact h2,fun a b ha' hb' => ?_⟩
 rw [q1c,List.getD_eq_getElem?_getD,List.getElem?_set,h2]
 by_cases e : x.1 * n + x.2.1 = a * n + b
 ·obtain ⟨e1,e2⟩ := q43 hb hb' e
  rw [if_pos e,if_pos (qP ha hb),Option.getD_some,← e1,← e2]
  simp
 ·rw [if_neg e,← List.getD_eq_getElem?_getD,h3 a b ha' hb']
  have hne : ¬ (a,b) = (x.1,x.2.1) := fun e' => by injection e' with e1 e2; exact e (by rw [e1,e2])
  simp only [List.mem_append,List.mem_singleton,hne,or_false]
theorem q41 (w : World) (n : Nat) : MetR (w.alloc (.cells ((zB (n * n)).map Value.bool).toArray 4)) w.heap.size n [] := by
 refine ⟨zB (n * n),(MapKept.heap_alloc w _).1,by simp [zB],fun a b ha hb => ?_⟩
 have := qP ha hb
 simp [zB,pqP,List.getD_eq_getElem?_getD,this]
theorem qz (g m i : Nat) (hi : i < m) (w : World) : (Instr.indexAt 22 (.slice (some ⟨g,0,none⟩) m m) (.int .i64 (i : Int))).run Try.prog w = .ok (.pointer (some ⟨g,i,none⟩)) w := by
 have := qf (P := Try.prog) (T := 22) Try.underlying22 q1C (a := some ⟨g,0,none⟩) (cap := m) (n := m) (fun e => by cases e) i w hi
 simpa [adOf,q8] using this
def PrB (w : World) (g : Nat) (x : PrP) : Prop := w.heap[g]? = some (.cells #[.int .i64 (x.1 : Int),.int .i64 (x.2.1 : Int),.int .i64 (x.2.2.1 : Int),.int .u8 (x.2.2.2 : Int)] 83 (0,0))
theorem PrB.lt {w : World} {g : Nat} {x : PrP} (h : PrB w g x) : g < w.heap.size := (Array.getElem?_eq_some_iff.1 h).1
theorem PrB.up {w w' : World} {g : Nat} {x : PrP} (h : PrB w g x) (hb : Below w.heap.size w w') : PrB w' g x := (hb.block g h.lt).trans h
theorem q1Y (w : World) (x : PrP) : PrB (w.alloc (.cells #[.int .i64 (x.1 : Int),.int .i64 (x.2.1 : Int),.int .i64 (x.2.2.1 : Int),.int .u8 (x.2.2.2 : Int)] 83 (0,0))) w.heap.size x := (MapKept.heap_alloc w _).1
theorem q2g {w : World} {ops : Array Oper} {rest : List Oper} {o : Oper} {a : Act} {K : Exit → Act → World → Prop} (hgd : o.guard = none) (s x : Operand)
  (ho : o.op = .call { callee := .builtin .append,args := #[s,x],argTypes := #[84,84] }) (base : Nat)
  (v : Value) (n : Nat) (Q : List PrP) (y : PrP) (hs : a.eval s = v) (hown : PqO w base v n Q) (g' : Nat) (hx : a.eval x = .slice (some ⟨g',0,none⟩) 1 1) (hB : PrB w g' y)
  (hn : n + 1 ≤ 2000000) (hbase : base ≤ w.heap.size)
  (h : ∀ g c w',PqO w' base (.slice (some ⟨g,0,none⟩) (n + 1) c) (n + 1) (Q ++ [y]) → w.grownBy w' v.ownBlock → (v.ownBlock = some g ∨ g = w.heap.size) → wpList Try.prog ops K rest (a.put o.dst (.slice (some ⟨g,0,none⟩) (n + 1) c)) w') : wpList Try.prog ops K (o :: rest) a w := by
 obtain ⟨i,hi,hz0,hz1,hz2⟩ := info_parts q3t
 refine wpList_append_lies w hgd s x 84 ho base 83 i _ 4 32 Try.underlying84 hi hz0 hz1 hz2 rfl (by decide) v n _ hs hown ⟨g',0,none⟩ 1 1 (encP [y]) hx rfl (fun j u hj => ?_) (q3S [y]) (by decide) (by unfold maxLen; omega) (by omega) hbase _ rfl ?_
 ·rw [q8,Nat.zero_add,q7 hB]
  simpa [encP] using hj
 ·intro g c w' h1 h2 h3 _
  exact h g c w' (by unfold PqO; rw [q3R]; exact h1) h2 h3
structure PtM (w wr : World) (aA : Option Addr) (cA : Nat) (aT : Option Addr) (cT n : Nat) (v : Value) (Q : List PrP) : Prop where
 mb : MvB wr w.heap.size (.slice aA n cA) (.slice aT n cT)
 met : MetR wr (w.heap.size + 1) n Q
 qo : PqO wr (w.heap.size + 2) v Q.length Q
 bel : Below w.heap.size w wr
theorem PtM.up {w wr w' : World} {aA : Option Addr} {cA : Nat} {aT : Option Addr} {cT n : Nat} {v : Value} {Q : List PrP} (h : PtM w wr aA cA aT cT n v Q) (hb : Below wr.heap.size wr w') : PtM w w' aA cA aT cT n v Q := ⟨h.mb.up hb,h.met.up hb,qO h.qo hb,q5 h.bel hb⟩
theorem PtM.push {w wr w7 : World} {aA : Option Addr} {cA : Nat} {aT : Option Addr} {cT n : Nat} {v : Value} {Q : List PrP} (h : PtM w wr aA cA aT cT n v Q) {x : PrP} (ha : x.1 < n) (hb : x.2.1 < n) {o : Obj} {g c : Nat}
  (hq : PqO w7 (w.heap.size + 2) (.slice (some ⟨g,0,none⟩) (Q.length + 1) c) (Q.length + 1) (Q ++ [x])) (hg : ((wr.setCell ⟨w.heap.size + 1,x.1 * n + x.2.1,none⟩ (.bool true)).alloc o).grownBy w7 v.ownBlock) :
  PtM w w7 aA cA aT cT n (.slice (some ⟨g,0,none⟩) (Q.length + 1) c) (Q ++ [x]) := by
 have hge : ∀ b,v.ownBlock = some b → w.heap.size + 2 ≤ b := qw h.qo
 have hsz : wr.heap.size ≤ ((wr.setCell ⟨w.heap.size + 1,x.1 * n + x.2.1,none⟩ (.bool true)).alloc o).heap.size := by simp
 have keep : ∀ b,b < wr.heap.size → b < w.heap.size + 2 → w7.heap[b]? = (wr.setCell ⟨w.heap.size + 1,x.1 * n + x.2.1,none⟩ (.bool true)).heap[b]? := fun b hb1 hb2 => by
  rw [hg.block b (by omega) (fun e => by have := hge b e.symm; omega)]
  exact (q6 (wr.setCell ⟨w.heap.size + 1,x.1 * n + x.2.1,none⟩ (.bool true)) o).block b (by simpa using hb1)
 refine ⟨?_,?_,by rw [List.length_append]; exact hq,?_⟩
 ·exact (keep _ h.mb.lt (by omega)).trans ((Below.heap_setCell _ _ _ _ (by dsimp only; omega)).trans h.mb)
 ·exact (h.met.put ha hb).far (keep _ h.met.lt (by omega))
 ·have h1 : Below w.heap.size w (wr.setCell ⟨w.heap.size + 1,x.1 * n + x.2.1,none⟩ (.bool true)) := h.bel.setCell (by dsimp only; omega) _
  have h2 := h1.alloc h1.size o
  exact h2.grown hg h2.size (fun q e => by have := hge q e; omega)
end Go.Proofs.Ytllebfffmmnoeaa
