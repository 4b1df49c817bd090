/- Texts of the proof, put together: what it uses. -/
import Derived.BigQuiet
import Derived.Test.YtcnkgokfjafgkaaZ02
import Derived.Test.YtcnkgokfjafgkaaZ09
import Derived.Test.YtcnkgokfjafgkaaZ11
import Derived.Test.YtcnkgokfjafgkaaZ12
set_option maxRecDepth 100000
set_option maxHeartbeats 16000000
namespace Go.Proofs.Ytcnkgokfjafgkaa
open Go.RowKit Go.Maps
def NumR (f : Nat → List Nat) (n : Nat) (w : World) (e : Ending) (w' : World) : Prop :=
 Below w.heap.size w w' ∧ ∃ g,w.heap.size ≤ g ∧ e = .returned (.tuple #[.slice (some ⟨g,0,none⟩) n n,.int .i64 ((keysP f n).length : Int)]) ∧ RowI w' 3 g ((ofP f n).map Int.ofNat)
structure NbL (w wr : World) (f : Nat → List Nat) (n k : Nat) : Prop where
 row : RowI wr 3 (w.heap.size + 2) (((ofP f n).map Int.ofNat).take k ++ List.replicate (n - k) 0)
 num : NumSg wr (w.heap.size + 1) (keysP f k).length (posSg (keysP f k))
 bel : Below w.heap.size w wr
theorem q79 (f : Nat → List Nat) {n k : Nat} (h : k < n) : ((ofP f n).map Int.ofNat).getD k 0 = (((keysP f (k + 1)).idxOf (f k) : Nat) : Int) := by
 have hl : k < (ofP f n).length := by rw [q1v]; exact h
 rw [qD hl,q43 f h,q9a (q4Y f (show k + 1 ≤ n by omega)) ((qN f (k + 1) _).2 ⟨k,by omega,rfl⟩)]
theorem NbL.up {w wr w' : World} {f : Nat → List Nat} {n k : Nat} (h : NbL w wr f n k) (hb : Below wr.heap.size wr w') : NbL w w' f n k := ⟨h.row.up hb,h.num.up hb,q7 h.bel hb⟩
theorem NbL.old {w wr : World} {f : Nat → List Nat} {n k : Nat} (h : NbL w wr f n k) (hk : k < n) (hm : f k ∈ keysP f k) : NbL w (wr.setCell ⟨w.heap.size + 2,k,none⟩ (.int .i64 (((keysP f k).idxOf (f k) : Nat) : Int))) f n (k + 1) := by
 have e : keysP f (k + 1) = keysP f k := by rw [keysP,if_pos hm]
 refine ⟨?_,?_,h.bel.setCell (by dsimp only; omega) _⟩
 ·have h1 := h.row.set k (((keysP f k).idxOf (f k) : Nat) : Int)
  rw [show (((keysP f k).idxOf (f k) : Nat) : Int) = ((ofP f n).map Int.ofNat).getD k 0 by rw [q79 f hk,e]] at h1 ⊢
  rwa [q6c (by rw [List.length_map,q1v]) hk] at h1
 ·rw [e]
  exact h.num.far (Below.heap_setCell _ _ _ _ (by dsimp only; omega))
theorem NbL.new {w wr w7 : World} {f : Nat → List Nat} {n k : Nat} (h : NbL w wr f n k) (hk : k < n) (hm : f k ∉ keysP f k) (hn : NumSg w7 (w.heap.size + 1) ((keysP f k).length + 1) (fun y => if y = f k then some (keysP f k).length else posSg (keysP f k) y)) (hg : wr.grownBy w7 (some (w.heap.size + 1))) :
  NbL w (w7.setCell ⟨w.heap.size + 2,k,none⟩ (.int .i64 ((keysP f k).length : Int))) f n (k + 1) := by
 have e : keysP f (k + 1) = keysP f k ++ [f k] := by rw [keysP,if_neg hm]
 refine ⟨?_,?_,(h.bel.grown hg h.bel.size (fun q e => by injection e with e; omega)).setCell (by dsimp only; omega) _⟩
 ·have hr : RowI w7 3 (w.heap.size + 2) (((ofP f n).map Int.ofNat).take k ++ List.replicate (n - k) 0) := (hg.block _ h.row.lt (fun e => by injection e with e; omega)).trans h.row
  have h1 := hr.set k ((keysP f k).length : Int)
  rw [show ((keysP f k).length : Int) = ((ofP f n).map Int.ofNat).getD k 0 by rw [q79 f hk,e]; simp [List.idxOf_append,hm]] at h1 ⊢
  rwa [q6c (by rw [List.length_map,q1v]) hk] at h1
 ·rw [e,List.length_append]
  exact (hn.alike fun y _ => q7J hm y).far (Below.heap_setCell _ _ _ _ (by dsimp only; omega))
theorem NbL.fin {w wr : World} {f : Nat → List Nat} {n : Nat} (h : NbL w wr f n n) : NumR f n w (.returned (.tuple #[.slice (some ⟨w.heap.size + 2,0,none⟩) n n,.int .i64 ((keysP f n).length : Int)])) wr := by
 refine ⟨h.bel,w.heap.size + 2,by omega,rfl,?_⟩
 have := h.row
 rw [List.take_of_length_le (by rw [List.length_map,q1v]; exact Nat.le_refl _),Nat.sub_self,List.replicate_zero,List.append_nil] at this
 exact this
def EntersP (F : FuncId) : Prop := ∀ args w,(callFunc F args).run Try.prog w = .ok (.enter F args) w
theorem q3f (fid : Nat) (hE : EntersP fid) (u : Value) (aA : Option Addr) (cA : Nat) (aT : Option Addr) (cT n : Nat) (f : Nat → List Nat) (w : World) (h1 : 1 ≤ n) (h256 : n ≤ 256) (hok : ∀ s,s < n → SgOk (f s)) (hF : ∀ wr s,Below w.heap.size w wr → s < n → Calls Try.prog fid #[u,.int .i64 (s : Int)] wr (SigQ (f s) wr)) :
  Calls Try.prog 92 #[.agg #[.slice aA n cA,.slice aT n cT],.func (.func fid) #[u] #[]] w (NumR f n w) := by
 obtain ⟨Q,eQ⟩ : ∃ Q,Q = NumR f n w := ⟨_,rfl⟩
 have HQ : Hid (∀ wr,NbL w wr f n n → Q (.returned (.tuple #[.slice (some ⟨w.heap.size + 2,0,none⟩) n n,.int .i64 ((keysP f n).length : Int)])) wr) := fun wr h => by rw [eQ]; exact h.fin
 rw [← eQ]
 clear eQ
 have hz := fun w => q1m w
 obtain ⟨Z,hZ⟩ : ∃ Z : List Nat,Z = List.replicate 257 0 := ⟨_,rfl⟩
 have HLZ : Hid (Z.length = 257) := by show _ = _; rw [hZ,List.length_replicate]
 rw [← hZ] at hz
 clear hZ
 have hsz : (sgA Z).size = 257 := by rw [qi]; exact HLZ.out
 have hmk := fun w => q1O n (by omega) w
 simp only [madeI] at hmk
 obtain ⟨C,hC⟩ : ∃ C,C = ((List.replicate n (0 : Int)).map (Value.int .i64)).toArray := ⟨_,rfl⟩
 have hmm := @run_makeMap Try.prog
 have HB0 : Hid (Below w.heap.size w (((w.alloc (.cells #[.slice aA n cA,.slice aT n cT] 126 (0,0))).alloc (.map #[] 0)).alloc (.cells C 3 (0,0)))) := q7 (q7 (q5 w _) (q5 _ _)) (q5 _ _)
 have hnm : NumSg ((w.alloc (.cells #[.slice aA n cA,.slice aT n cT] 126 (0,0))).alloc (.map #[] 0)) (w.heap.size + 1) 0 (fun _ => none) := by
  have := q42 (w.alloc (.cells #[.slice aA n cA,.slice aT n cT] 126 (0,0)))
  simpa using this
 have HL0 : Hid (NbL w (((w.alloc (.cells #[.slice aA n cA,.slice aT n cT] 126 (0,0))).alloc (.map #[] 0)).alloc (.cells C 3 (0,0))) f n 0) := by
  refine ⟨?_,(hnm.up (q5 _ _)).alike (fun x _ => by simp [posSg,keysP]),HB0.out⟩
  have := (MapKept.heap_alloc ((w.alloc (.cells #[.slice aA n cA,.slice aT n cT] 126 (0,0))).alloc (.map #[] 0)) (.cells C 3 (0,0))).1
  have e2 : ((w.alloc (.cells #[.slice aA n cA,.slice aT n cT] 126 (0,0))).alloc (.map #[] 0)).heap.size = w.heap.size + 2 := by simp
  rw [e2] at this
  unfold RowI
  rw [this,hC]
  simp
 rw [← hC] at hmk
 clear hC hnm
 have m1 := ((q11 w (.slice aA n cA) (.slice aT n cT)).up (q5 _ (.map #[] 0))).c1
 have HOK : Hid _ := hok
 have HF : Hid _ := hF
 unfold EntersP at hE
 clear hok hF
 go_enter Try.func92,Try.ntmps92
 go_wp2
 clear HB0 m1 hmm hmk
 go_loopw [19] (fun i wr => ∃ k : Nat,k ≤ n ∧ i = .int .i64 (k : Int) ∧ Hid (NbL w wr f n k)) (fun i _ => n - (intOf i).toNat)
 case atStart => exact ⟨0,Nat.zero_le _,rfl,HL0⟩
 case round =>
  obtain ⟨k,hk,rfl,HL⟩ := hrel
  clear HL0
  by_cases hlt : k < n
  ·have jf := HF.out wr k HL.out.bel hlt
   have hx := HOK.out k hlt
   have HX : Hid _ := hx
   clear hx
   go_wp2_with fail
   refine jf.mono ?_
   rintro e w2 ⟨rfl,hb2⟩
   have hN2 := HL.out.up hb2
   have h3 : SgB (w2.alloc (.cells (sgA Z) 144 (0,0))) w2.heap.size Z := (MapKept.heap_alloc w2 _).1
   have hst := h3.cells HLZ.out HX.out.1
   have HV : Hid (SgB ((w2.alloc (.cells (sgA Z) 144 (0,0))).setRow w2.heap.size (sgA (f k))) w2.heap.size (f k)) := h3.row
   have HN3 : Hid (NbL w ((w2.alloc (.cells (sgA Z) 144 (0,0))).setRow w2.heap.size (sgA (f k))) f n k) := hN2.up (qz (q5 w2 _) (Nat.le_refl _) _)
   have hsx : (sgA (f k)).size = 257 := by rw [qi]; exact HX.out.1
   clear hN2 h3 hb2 jf HL HF HOK HQ
   go_wp2
   generalize (w2.alloc (.cells (sgA Z) 144 (0,0))).setRow w2.heap.size (sgA (f k)) = w3 at *
   generalize w2.heap.size = gx at *
   clear hst hz
   refine wp_load_row 144 _ rfl gx rfl 144 (sgA (f k)) (0,0) _ HV.out Try.underlying144 rfl (by rw [hsx]; exact qk) ?_
   have hlook := HN3.out.num.look HX.out
   have hkl := q1f f k
   have hc41 : ∀ m : Nat,((((ofP f n).map Int.ofNat).take k ++ List.replicate (n - k) 0).length = n) := fun _ => by rw [List.length_append,List.length_take,List.length_map,q1v,List.length_replicate]; omega
   have cell : ∃ z,w3.cell? ⟨w.heap.size + 2,k,none⟩ = some (.int .i64 z) := ⟨_,HN3.out.row.cell (by rw [hc41 0]; exact hlt)⟩
   obtain ⟨z0,hz0⟩ := cell
   have fz0 := HN3.out.row.frozen k
   have hidx : ∀ w',(Instr.indexAt 23 (.slice (some ⟨w.heap.size + 2,0,none⟩) n n) (.int .i64 (k : Int))).run Try.prog w' = .ok (.pointer (some ⟨w.heap.size + 2,k,none⟩)) w' := fun w' => by
    have := qt (P := Try.prog) (T := 23) Try.underlying23 qf (a := some ⟨w.heap.size + 2,0,none⟩) (cap := n) (n := n) (fun e => by cases e) k w' hlt
    simpa [adOf,q9] using this
   clear hc41
   by_cases hm : f k ∈ keysP f k
   ·rw [q1X hm] at hlook
    simp only [Option.getD_some,Option.isSome_some] at hlook
    have HN4 : Hid _ := HN3.out.old hlt hm
    clear HN3 HV HX hm
    go_wp2
    go_roundw
    case rel => exact ⟨k + 1,by omega,by go_num,HN4⟩
    case measure => simp [intOf]; omega
   ·rw [q1h hm] at hlook
    simp only [Option.getD_none,Option.isSome_none] at hlook
    have hln := fun ty => HN3.out.num.len ty
    obtain ⟨w7,hrun,hn7,hg7⟩ := HN3.out.num.put (by omega) HX.out (q1h hm) (keysP f k).length (by omega)
    have HN7 : Hid _ := HN3.out.new hlt hm hn7 hg7
    have hr7 : RowI w7 3 (w.heap.size + 2) (((ofP f n).map Int.ofNat).take k ++ List.replicate (n - k) 0) := (hg7.block _ HN3.out.row.lt (fun e => by injection e with e; omega)).trans HN3.out.row
    have hz7 : w7.cell? ⟨w.heap.size + 2,k,none⟩ = some (.int .i64 z0) := (q6 hr7 k).trans ((q6 HN3.out.row k).symm.trans hz0)
    have fz7 := hr7.frozen k
    clear hn7 hg7 hr7 hz0 fz0 HN3 hm HX
    go_wp2
    refine wp_load_row 144 _ rfl gx rfl 144 (sgA (f k)) (0,0) _ HV.out Try.underlying144 rfl (by rw [hsx]; exact qk) ?_
    clear HV hlook
    go_wp2
    go_roundw
    case rel => exact ⟨k + 1,by omega,by go_num,HN7⟩
    case measure => simp [intOf]; omega
  ·obtain rfl : k = n := by omega
   have hln := fun ty => HL.out.num.len ty
   have HE : Hid _ := HQ.out wr HL.out
   clear HF HOK HQ HL
   go_wp2
   exact HE.out
theorem q3s (fid : Nat) (hE : EntersP fid) (u v : Value) (aA : Option Addr) (cA : Nat) (aT : Option Addr) (cT n : Nat) (f : Nat → List Nat) (w : World) (h1 : 1 ≤ n) (h256 : n ≤ 256) (hok : ∀ s,s < n → SgOk (f s)) (hF : ∀ wr s,Below w.heap.size w wr → s < n → Calls Try.prog fid #[.int .i64 (s : Int),u,v] wr (SigQ (f s) wr)) :
  Calls Try.prog 92 #[.agg #[.slice aA n cA,.slice aT n cT],.func (.func fid) #[] #[u,v]] w (NumR f n w) := by
 obtain ⟨Q,eQ⟩ : ∃ Q,Q = NumR f n w := ⟨_,rfl⟩
 have HQ : Hid (∀ wr,NbL w wr f n n → Q (.returned (.tuple #[.slice (some ⟨w.heap.size + 2,0,none⟩) n n,.int .i64 ((keysP f n).length : Int)])) wr) := fun wr h => by rw [eQ]; exact h.fin
 rw [← eQ]
 clear eQ
 have hz := fun w => q1m w
 obtain ⟨Z,hZ⟩ : ∃ Z : List Nat,Z = List.replicate 257 0 := ⟨_,rfl⟩
 have HLZ : Hid (Z.length = 257) := by show _ = _; rw [hZ,List.length_replicate]
 rw [← hZ] at hz
 clear hZ
 have hsz : (sgA Z).size = 257 := by rw [qi]; exact HLZ.out
 have hmk := fun w => q1O n (by omega) w
 simp only [madeI] at hmk
 obtain ⟨C,hC⟩ : ∃ C,C = ((List.replicate n (0 : Int)).map (Value.int .i64)).toArray := ⟨_,rfl⟩
 have hmm := @run_makeMap Try.prog
 have HB0 : Hid (Below w.heap.size w (((w.alloc (.cells #[.slice aA n cA,.slice aT n cT] 126 (0,0))).alloc (.map #[] 0)).alloc (.cells C 3 (0,0)))) := q7 (q7 (q5 w _) (q5 _ _)) (q5 _ _)
 have hnm : NumSg ((w.alloc (.cells #[.slice aA n cA,.slice aT n cT] 126 (0,0))).alloc (.map #[] 0)) (w.heap.size + 1) 0 (fun _ => none) := by
  have := q42 (w.alloc (.cells #[.slice aA n cA,.slice aT n cT] 126 (0,0)))
  simpa using this
 have HL0 : Hid (NbL w (((w.alloc (.cells #[.slice aA n cA,.slice aT n cT] 126 (0,0))).alloc (.map #[] 0)).alloc (.cells C 3 (0,0))) f n 0) := by
  refine ⟨?_,(hnm.up (q5 _ _)).alike (fun x _ => by simp [posSg,keysP]),HB0.out⟩
  have := (MapKept.heap_alloc ((w.alloc (.cells #[.slice aA n cA,.slice aT n cT] 126 (0,0))).alloc (.map #[] 0)) (.cells C 3 (0,0))).1
  have e2 : ((w.alloc (.cells #[.slice aA n cA,.slice aT n cT] 126 (0,0))).alloc (.map #[] 0)).heap.size = w.heap.size + 2 := by simp
  rw [e2] at this
  unfold RowI
  rw [this,hC]
  simp
 rw [← hC] at hmk
 clear hC hnm
 have m1 := ((q11 w (.slice aA n cA) (.slice aT n cT)).up (q5 _ (.map #[] 0))).c1
 have HOK : Hid _ := hok
 have HF : Hid _ := hF
 unfold EntersP at hE
 clear hok hF
 go_enter Try.func92,Try.ntmps92
 go_wp2
 clear HB0 m1 hmm hmk
 go_loopw [19] (fun i wr => ∃ k : Nat,k ≤ n ∧ i = .int .i64 (k : Int) ∧ Hid (NbL w wr f n k)) (fun i _ => n - (intOf i).toNat)
 case atStart => exact ⟨0,Nat.zero_le _,rfl,HL0⟩
 case round =>
  obtain ⟨k,hk,rfl,HL⟩ := hrel
  clear HL0
  by_cases hlt : k < n
  ·have jf := HF.out wr k HL.out.bel hlt
   have hx := HOK.out k hlt
   have HX : Hid _ := hx
   clear hx
   go_wp2_with fail
   refine jf.mono ?_
   rintro e w2 ⟨rfl,hb2⟩
   have hN2 := HL.out.up hb2
   have h3 : SgB (w2.alloc (.cells (sgA Z) 144 (0,0))) w2.heap.size Z := (MapKept.heap_alloc w2 _).1
   have hst := h3.cells HLZ.out HX.out.1
   have HV : Hid (SgB ((w2.alloc (.cells (sgA Z) 144 (0,0))).setRow w2.heap.size (sgA (f k))) w2.heap.size (f k)) := h3.row
   have HN3 : Hid (NbL w ((w2.alloc (.cells (sgA Z) 144 (0,0))).setRow w2.heap.size (sgA (f k))) f n k) := hN2.up (qz (q5 w2 _) (Nat.le_refl _) _)
   have hsx : (sgA (f k)).size = 257 := by rw [qi]; exact HX.out.1
   clear hN2 h3 hb2 jf HL HF HOK HQ
   go_wp2
   generalize (w2.alloc (.cells (sgA Z) 144 (0,0))).setRow w2.heap.size (sgA (f k)) = w3 at *
   generalize w2.heap.size = gx at *
   clear hst hz
   refine wp_load_row 144 _ rfl gx rfl 144 (sgA (f k)) (0,0) _ HV.out Try.underlying144 rfl (by rw [hsx]; exact qk) ?_
   have hlook := HN3.out.num.look HX.out
   have hkl := q1f f k
   have hc41 : ∀ m : Nat,((((ofP f n).map Int.ofNat).take k ++ List.replicate (n - k) 0).length = n) := fun _ => by rw [List.length_append,List.length_take,List.length_map,q1v,List.length_replicate]; omega
   have cell : ∃ z,w3.cell? ⟨w.heap.size + 2,k,none⟩ = some (.int .i64 z) := ⟨_,HN3.out.row.cell (by rw [hc41 0]; exact hlt)⟩
   obtain ⟨z0,hz0⟩ := cell
   have fz0 := HN3.out.row.frozen k
   have hidx : ∀ w',(Instr.indexAt 23 (.slice (some ⟨w.heap.size + 2,0,none⟩) n n) (.int .i64 (k : Int))).run Try.prog w' = .ok (.pointer (some ⟨w.heap.size + 2,k,none⟩)) w' := fun w' => by
    have := qt (P := Try.prog) (T := 23) Try.underlying23 qf (a := some ⟨w.heap.size + 2,0,none⟩) (cap := n) (n := n) (fun e => by cases e) k w' hlt
    simpa [adOf,q9] using this
   clear hc41
   by_cases hm : f k ∈ keysP f k
   ·rw [q1X hm] at hlook
    simp only [Option.getD_some,Option.isSome_some] at hlook
    have HN4 : Hid _ := HN3.out.old hlt hm
    clear HN3 HV HX hm
    go_wp2
    go_roundw
    case rel => exact ⟨k + 1,by omega,by go_num,HN4⟩
    case measure => simp [intOf]; omega
   ·rw [q1h hm] at hlook
    simp only [Option.getD_none,Option.isSome_none] at hlook
    have hln := fun ty => HN3.out.num.len ty
    obtain ⟨w7,hrun,hn7,hg7⟩ := HN3.out.num.put (by omega) HX.out (q1h hm) (keysP f k).length (by omega)
    have HN7 : Hid _ := HN3.out.new hlt hm hn7 hg7
    have hr7 : RowI w7 3 (w.heap.size + 2) (((ofP f n).map Int.ofNat).take k ++ List.replicate (n - k) 0) := (hg7.block _ HN3.out.row.lt (fun e => by injection e with e; omega)).trans HN3.out.row
    have hz7 : w7.cell? ⟨w.heap.size + 2,k,none⟩ = some (.int .i64 z0) := (q6 hr7 k).trans ((q6 HN3.out.row k).symm.trans hz0)
    have fz7 := hr7.frozen k
    clear hn7 hg7 hr7 hz0 fz0 HN3 hm HX
    go_wp2
    refine wp_load_row 144 _ rfl gx rfl 144 (sgA (f k)) (0,0) _ HV.out Try.underlying144 rfl (by rw [hsx]; exact qk) ?_
    clear HV hlook
    go_wp2
    go_roundw
    case rel => exact ⟨k + 1,by omega,by go_num,HN7⟩
    case measure => simp [intOf]; omega
  ·obtain rfl : k = n := by omega
   have hln := fun ty => HL.out.num.len ty
   have HE : Hid _ := HQ.out wr HL.out
   clear HF HOK HQ HL
   go_wp2
   exact HE.out
theorem q9c (bs : List Bool) (s : Nat) : SgOk (kindP bs s) := by
 refine ⟨q4Z bs s,fun x hx => ?_⟩
 rcases List.mem_cons.1 hx with rfl | hx
 ·split <;> omega
 ·have := List.eq_of_mem_replicate hx
  omega
theorem q7f {n K : Nat} {R : List (List Nat)} (h : RowsP n K R) (hK : K ≤ 256) {c : List Nat} (hc : ∀ t,t < n → c.getD t 0 < 256) {s : Nat} (hs : s < n) : SgOk (sigP R c s) := by
 refine ⟨q9M h hK c hs,fun x hx => ?_⟩
 rcases List.mem_append.1 hx with hx | hx
 ·rcases List.mem_cons.1 hx with rfl | hx
  ·exact hc s hs
  ·obtain ⟨t,ht,rfl⟩ := List.mem_map.1 hx
   obtain ⟨l,hl,rfl⟩ := List.getElem_of_mem ht
   have := h.lt s l hs (by rw [← h.row s hs]; exact hl)
   rw [trP,List.getD_eq_getElem?_getD,List.getElem?_eq_getElem hl] at this
   exact hc _ this
 ·have := List.eq_of_mem_replicate hx
  omega
def VaB (w : World) (g : Nat) (v : Value) : Prop := w.heap[g]? = some (.cells #[v] 23 (0,0))
theorem VaB.lt {w : World} {g : Nat} {v : Value} (h : VaB w g v) : g < w.heap.size := (Array.getElem?_eq_some_iff.1 h).1
theorem VaB.up {w w' : World} {g : Nat} {v : Value} (h : VaB w g v) (hb : Below w.heap.size w w') : VaB w' g v := (hb.block g h.lt).trans h
theorem VaB.c {w : World} {g : Nat} {v : Value} (h : VaB w g v) : w.cell? ⟨g,0,none⟩ = some v := q6 h 0
theorem VaB.fz {w : World} {g : Nat} {v : Value} (h : VaB w g v) : w.frozen? ⟨g,0,none⟩ = false := frozen_of_row w g 0 _ _ h
theorem qaw {w : World} {g n : Nat} {l : List Nat} (h : RowI w 3 g (l.map Int.ofNat)) (hl : l.length = n) (hn : n ≤ 256) : ZSl w (some ⟨g,0,none⟩) n n (l.map Int.ofNat) := by
 have := RowI.zsl (n := n) h Try.underlying23 qf (by rw [List.length_map]; omega) (by rw [List.length_map]; unfold maxLen; omega)
 rw [List.length_map,hl,List.take_of_length_le (by rw [List.length_map]; omega)] at this
 exact this
theorem q5y (aA : Option Addr) (cA : Nat) (aT : Option Addr) (cT n K : Nat) (bs : List Bool) (R : List (List Nat)) (gm gc : Nat) (aC : Option Addr) (cC : Nat) (c : List Nat) (s : Nat) (w : World) (hM : MvS w aA cA aT cT n bs R) (hR : RowsP n K R) (hK : K ≤ 256) (hC : ZSl w aC n cC (c.map Int.ofNat)) (hc : ∀ t,t < n → c.getD t 0 < 256) (hs : s < n) (hb : MvB w gm (.slice aA n cA) (.slice aT n cT)) (hv : VaB w gc (.slice aC n cC)) :
  Calls Try.prog 94 #[.int .i64 (s : Int),.pointer (some ⟨gm,0,none⟩),.pointer (some ⟨gc,0,none⟩)] w (SigQ (sigP R c s) w) := by
 obtain ⟨Y,hY⟩ : ∃ Y,Y = sigP R c s := ⟨_,rfl⟩
 have hly : Y.length = 257 := by rw [hY]; exact (q7f hR hK hc hs).1
 have hz := fun w => q1m w
 obtain ⟨Z,hZ⟩ : ∃ Z : List Nat,Z = List.replicate 257 0 := ⟨_,rfl⟩
 have hlz : Z.length = 257 := by rw [hZ,List.length_replicate]
 rw [← hZ] at hz
 clear hZ
 have hsy : (sgA Y).size = 257 := by rw [qi]; exact hly
 have hb1 := q5 w (.cells (sgA Z) 144 (0,0))
 have j1 := q6y aA cA aT cT n K bs R aC cC c s _ (hM.up hb1) hR hK (hC.up hb1) hc hs
 have h1 : SgB (w.alloc (.cells (sgA Z) 144 (0,0))) w.heap.size Z := (MapKept.heap_alloc w _).1
 have HS : Hid (∀ w2,Below (w.alloc (.cells (sgA Z) 144 (0,0))).heap.size (w.alloc (.cells (sgA Z) 144 (0,0))) w2 → SgB w2 w.heap.size Z ∧ Below w.heap.size w w2) := fun w2 h2 => ⟨h1.up h2,q7 hb1 h2⟩
 rw [← hY] at j1 ⊢
 have m0 := (hb.up hb1).c0
 have m1 := (hb.up hb1).c1
 have v0 := (hv.up hb1).c
 have HLY : Hid _ := hly
 have HLZ : Hid _ := hlz
 clear hM hR hK hC hc hY hb1 h1 hb hv hly hlz
 go_enter Try.func94,Try.ntmps94
 go_wp2_with fail
 refine j1.mono ?_
 rintro e w2 ⟨rfl,hb2⟩
 obtain ⟨hs2,hbb⟩ := HS.out w2 hb2
 have hst := hs2.store HLZ.out HLY.out
 have hsc := hs2.cells HLZ.out HLY.out
 have HE : Hid (SigQ Y w (.returned (.agg (sgA Y))) (w2.setRow w.heap.size (sgA Y))) := ⟨rfl,qz hbb (Nat.le_refl _) _⟩
 have HVY : Hid (SgB (w2.setRow w.heap.size (sgA Y)) w.heap.size Y) := hs2.row
 go_wp2
 refine bodyPost_ret (v := .agg (sgA Y)) ?_ rfl HE.out
 exact results_cell_row Try.results94 _ _ w.heap.size 144 (sgA Y) (0,0) _ rfl HVY.out Try.underlying144 rfl (by rw [hsy]; exact qk)
def ClsR (R : List (List Nat)) (bs : List Bool) (n : Nat) (w : World) (e : Ending) (w' : World) : Prop :=
 Below w.heap.size w w' ∧ ∃ k g,w.heap.size ≤ g ∧ manyP R bs n k = manyP R bs n (k + 1) ∧ e = .returned (.slice (some ⟨g,0,none⟩) n n) ∧ RowI w' 3 g ((clsP R bs n k).map Int.ofNat)
structure CsL (w wr : World) (gc : Nat) (aA : Option Addr) (cA : Nat) (aT : Option Addr) (cT n : Nat) (R : List (List Nat)) (bs : List Bool) (k g : Nat) : Prop where
 mb : MvB wr w.heap.size (.slice aA n cA) (.slice aT n cT)
 vb : VaB wr gc (.slice (some ⟨g,0,none⟩) n n)
 gl : w.heap.size < gc
 gg : w.heap.size < g
 ne : g ≠ gc
 row : RowI wr 3 g ((clsP R bs n k).map Int.ofNat)
 bel : Below w.heap.size w wr
theorem q5B : EntersP 93 := fun _ _ => rfl
theorem q5A : EntersP 94 := fun _ _ => rfl
theorem q3I (aA : Option Addr) (cA : Nat) (aT : Option Addr) (cT n K : Nat) (bs : List Bool) (R : List (List Nat)) (w : World) (hM : MvS w aA cA aT cT n bs R) (hR : RowsP n K R) (hK : K ≤ 256) (h1 : 1 ≤ n) (h256 : n ≤ 256) :
  Calls Try.prog 83 #[.agg #[.slice aA n cA,.slice aT n cT]] w (ClsR R bs n w) := by
 obtain ⟨Q,eQ⟩ : ∃ Q,Q = ClsR R bs n w := ⟨_,rfl⟩
 have HQ : Hid (∀ wr gc k g,CsL w wr gc aA cA aT cT n R bs k g → manyP R bs n k = manyP R bs n (k + 1) → Q (.returned (.slice (some ⟨g,0,none⟩) n n)) wr) := fun wr gc k g h hm => by rw [eQ]; exact ⟨h.bel,k,g,Nat.le_of_lt h.gg,hm,rfl,h.row⟩
 rw [← eQ]
 have hb0 := q5 w (.cells #[.slice aA n cA,.slice aT n cT] 126 (0,0))
 have hm0 := q11 w (.slice aA n cA) (.slice aT n cT)
 have jk := q3f 93 q5B (.agg #[.slice aA n cA,.slice aT n cT]) aA cA aT cT n (kindP bs) _ h1 h256 (fun s _ => q9c bs s) (fun wr s hb hs => q5E aA cA aT cT n bs R s wr ((hM.up hb0).up hb) hs)
 have HN1 : Hid (∀ e w2,NumR (kindP bs) n (w.alloc (.cells #[.slice aA n cA,.slice aT n cT] 126 (0,0))) e w2 → ∃ g,e = .returned (.tuple #[.slice (some ⟨g,0,none⟩) n n,.int .i64 (manyP R bs n 0 : Int)]) ∧ CsL w (w2.alloc (.cells #[.slice (some ⟨g,0,none⟩) n n] 23 (0,0))) w2.heap.size aA cA aT cT n R bs 0 g) := fun e w2 hq => by
  obtain ⟨hb,g,hg,rfl,hr⟩ := hq
  have hsz : (w.alloc (.cells #[.slice aA n cA,.slice aT n cT] 126 (0,0))).heap.size = w.heap.size + 1 := by simp
  have := hb.size
  have hgl := hr.lt
  exact ⟨g,rfl,(hm0.up hb).up (q5 _ _),(MapKept.heap_alloc w2 _).1,by omega,by omega,by omega,hr.up (q5 _ _),q7 (q7 hb0 hb) (q5 _ _)⟩
 have m0 := hm0.c0
 have m1 := hm0.c1
 have HM : Hid _ := hM
 have HR : Hid _ := hR
 go_enter Try.func83,Try.ntmps83
 go_wp2_with fail
 refine jk.mono ?_
 intro e w2 hq
 obtain ⟨g0,rfl,hL0⟩ := HN1.out e w2 hq
 have HL0 : Hid _ := hL0
 go_wp2
 generalize w2.heap.size = gc at *
 generalize w2.alloc (.cells #[.slice (some ⟨g0,0,none⟩) n n] 23 (0,0)) = w3 at *
 go_loopw [4] (fun m wr => ∃ k g : Nat,m = .int .i64 (manyP R bs n k : Int) ∧ Hid (CsL w wr gc aA cA aT cT n R bs k g)) (fun m _ => n - (intOf m).toNat)
 case atStart => exact ⟨0,g0,rfl,HL0⟩
 case round =>
  obtain ⟨k,g,rfl,HL⟩ := hrel
  have hcl := q5N R bs n k
  have hc8 : ∀ t,t < n → (clsP R bs n k).getD t 0 < 256 := fun t ht => by have := q6M R bs n k ht; omega
  have hz := qaw HL.out.row hcl h256
  have js := q3s 94 q5A (.pointer (some ⟨w.heap.size,0,none⟩)) (.pointer (some ⟨gc,0,none⟩)) aA cA aT cT n (sigP R (clsP R bs n k)) wr h1 h256 (fun s hs => q7f HR.out hK hc8 hs) (fun wx s hb hs => q5y aA cA aT cT n K bs R w.heap.size gc (some ⟨g,0,none⟩) n (clsP R bs n k) s wx ((HM.out.up HL.out.bel).up hb) HR.out hK (hz.up hb) hc8 hs (HL.out.mb.up hb) (HL.out.vb.up hb))
  have HN : Hid (∀ e w2,NumR (sigP R (clsP R bs n k)) n wr e w2 → ∃ g2,e = .returned (.tuple #[.slice (some ⟨g2,0,none⟩) n n,.int .i64 (manyP R bs n (k + 1) : Int)]) ∧ CsL w w2 gc aA cA aT cT n R bs k g ∧ CsL w (w2.setCell ⟨gc,0,none⟩ (.slice (some ⟨g2,0,none⟩) n n)) gc aA cA aT cT n R bs (k + 1) g2) := fun e w2 hq => by
   obtain ⟨hb,g2,hg,rfl,hr⟩ := hq
   have hgl := HL.out.gl
   have hgc := HL.out.vb.lt
   have hv := heap_setCell_same w2 gc 0 _ _ (.slice (some ⟨g2,0,none⟩) n n) (HL.out.vb.up hb)
   exact ⟨g2,rfl,⟨HL.out.mb.up hb,HL.out.vb.up hb,HL.out.gl,HL.out.gg,HL.out.ne,HL.out.row.up hb,q7 HL.out.bel hb⟩,
    ⟨(Below.heap_setCell _ _ _ _ (by dsimp only; omega)).trans (HL.out.mb.up hb),hv,hgl,by omega,by omega,hr.other (by omega) _ _,(q7 HL.out.bel hb).setCell (by dsimp only; omega) _⟩⟩
  have hup := (q3A (bs := bs) HR.out k).1
  have hle := q9f R bs n (k + 1)
  have HMK : Hid (manyP R bs n k = manyP R bs n (k + 1) → ∀ wx,CsL w wx gc aA cA aT cT n R bs k g → Q (.returned (.slice (some ⟨g,0,none⟩) n n)) wx) := fun h wx hx => HQ.out wx gc k g hx h
  have m0 := HL.out.mb.c0
  have m1 := HL.out.mb.c1
  generalize hA : manyP R bs n k = A at *
  generalize hB : manyP R bs n (k + 1) = B at *
  have HAB : Hid _ := hB
  go_wp2_with fail
  refine js.mono ?_
  intro e w4 hq
  obtain ⟨g2,rfl,hk4,hn4⟩ := HN.out e w4 hq
  have v0 := hk4.vb.c
  have f0 := hk4.vb.fz
  by_cases hAB : A = B
  ·subst hAB
   have HE : Hid _ := HMK.out rfl w4 hk4
   go_wp2
   exact HE.out
  ·have hne : ((B : Int) == (A : Int)) = false := by rw [q8W]; simp; omega
   have HL4 : Hid _ := hn4
   go_wp2
   go_roundw
   case rel => exact ⟨k + 1,g2,by rw [HAB.out],HL4⟩
   case measure => simp [intOf]; omega
theorem BoRow.ltP {w : World} {g : Nat} {bs : List Bool} (h : BoRow w g bs) : g < w.heap.size := (Array.getElem?_eq_some_iff.1 h).1
theorem BoRow.upP {w w' : World} {g : Nat} {bs : List Bool} (h : BoRow w g bs) (hb : Below w.heap.size w w') : BoRow w' g bs := (hb.block g h.ltP).trans h
theorem BoRow.setP {w : World} {g : Nat} {bs : List Bool} (h : BoRow w g bs) (i : Nat) (b : Bool) : BoRow (w.setCell ⟨g,i,none⟩ (.bool b)) g (bs.set i b) := by
 have := heap_setCell_same w g i _ _ (.bool b) h
 unfold BoRow; rw [this]; simp [List.map_set]
theorem BoRow.cellP {w : World} {g : Nat} {bs : List Bool} (h : BoRow w g bs) {i : Nat} (hi : i < bs.length) : w.cell? ⟨g,i,none⟩ = some (.bool (bs.getD i false)) := by
 unfold BoRow at h; simp [World.cell?,h,List.getD_eq_getElem?_getD,List.getElem?_eq_getElem hi]
theorem BoRow.fzP {w : World} {g : Nat} {bs : List Bool} (h : BoRow w g bs) (i : Nat) : w.frozen? ⟨g,i,none⟩ = false := frozen_of_row w g i _ _ h
theorem q2s (g m i : Nat) (hi : i < m) (w : World) : (Instr.indexAt 22 (.slice (some ⟨g,0,none⟩) m m) (.int .i64 (i : Int))).run Try.prog w = .ok (.pointer (some ⟨g,i,none⟩)) w := by
 have := qt (P := Try.prog) (T := 22) Try.underlying22 q1n (a := some ⟨g,0,none⟩) (cap := m) (n := m) (fun e => by cases e) i w hi
 simpa [adOf,q9] using this
def RchR (R : List (List Nat)) (n : Nat) (w : World) (e : Ending) (w' : World) : Prop :=
 Below w.heap.size w w' ∧ ∃ a c,e = .returned (.slice a (rchP R n 0 [0]).length c) ∧ ZSl w' a (rchP R n 0 [0]).length c ((rchP R n 0 [0]).map Int.ofNat) ∧ ∀ k,k < (rchP R n 0 [0]).length → w.heap.size ≤ (adOf a k).block
def MeS (w : World) (g n : Nat) (Q : List Nat) : Prop := ∃ ms,BoRow w g ms ∧ ms.length = n ∧ ∀ a,a < n → ms.getD a false = decide (a ∈ Q)
theorem MeS.lt {w : World} {g n : Nat} {Q : List Nat} (h : MeS w g n Q) : g < w.heap.size := by obtain ⟨ms,h1,_⟩ := h; exact h1.ltP
theorem MeS.up {w w' : World} {g n : Nat} {Q : List Nat} (h : MeS w g n Q) (hb : Below w.heap.size w w') : MeS w' g n Q := by
 obtain ⟨ms,h1,h2⟩ := h; exact ⟨ms,h1.upP hb,h2⟩
theorem MeS.far {w w' : World} {g n : Nat} {Q : List Nat} (h : MeS w g n Q) (hb : w'.heap[g]? = w.heap[g]?) : MeS w' g n Q := by
 obtain ⟨ms,h1,h2⟩ := h; exact ⟨ms,hb.trans h1,h2⟩
theorem MeS.at {w : World} {g n : Nat} {Q : List Nat} (h : MeS w g n Q) {a : Nat} (ha : a < n) : w.cell? ⟨g,a,none⟩ = some (.bool (decide (a ∈ Q))) ∧ w.frozen? ⟨g,a,none⟩ = false := by
 obtain ⟨ms,h1,h2,h3⟩ := h
 exact ⟨by rw [h1.cellP (by omega),h3 a ha],h1.fzP _⟩
theorem MeS.put {w : World} {g n : Nat} {Q : List Nat} (h : MeS w g n Q) {s : Nat} (hs : s < n) : MeS (w.setCell ⟨g,s,none⟩ (.bool true)) g n (Q ++ [s]) := by
 obtain ⟨ms,h1,h2,h3⟩ := h
 refine ⟨_,h1.setP _ true,by rw [List.length_set]; exact h2,fun a ha => ?_⟩
 rw [List.getD_eq_getElem?_getD,List.getElem?_set,h2]
 by_cases e : s = a
 ·subst e; simp [hs]
 ·have e' : ¬ a = s := fun h => e h.symm
  rw [if_neg e,← List.getD_eq_getElem?_getD,h3 a ha]
  simp [e']
theorem qai (w : World) (n : Nat) : MeS (w.alloc (.cells ((zB n).map Value.bool).toArray 4)) w.heap.size n [] := by
 refine ⟨zB n,(MapKept.heap_alloc w _).1,by simp [zB],fun a ha => ?_⟩
 simp [zB,List.getD_eq_getElem?_getD,ha]
structure RcM (w wr : World) (aA : Option Addr) (cA : Nat) (aT : Option Addr) (cT n : Nat) (v : Value) (Q : List Nat) : Prop where
 mb : MvB wr w.heap.size (.slice aA n cA) (.slice aT n cT)
 met : MeS wr (w.heap.size + 1) n Q
 qo : wr.ownsRow (w.heap.size + 2) 3 1 v Q.length ((Q.map Int.ofNat).map (Value.int .i64))
 bel : Below w.heap.size w wr
 nd : Q.Nodup
 lt : ∀ x ∈ Q,x < n
theorem RcM.up {w wr w' : World} {aA : Option Addr} {cA : Nat} {aT : Option Addr} {cT n : Nat} {v : Value} {Q : List Nat} (h : RcM w wr aA cA aT cT n v Q) (hb : Below wr.heap.size wr w') : RcM w w' aA cA aT cT n v Q := ⟨h.mb.up hb,h.met.up hb,qC h.qo hb,q7 h.bel hb,h.nd,h.lt⟩
theorem RcM.len {w wr : World} {aA : Option Addr} {cA : Nat} {aT : Option Addr} {cT n : Nat} {v : Value} {Q : List Nat} (h : RcM w wr aA cA aT cT n v Q) : Q.length ≤ n := qr h.nd h.lt
theorem RcM.push {w wr w7 : World} {aA : Option Addr} {cA : Nat} {aT : Option Addr} {cT n : Nat} {v : Value} {Q : List Nat} (h : RcM w wr aA cA aT cT n v Q) {s : Nat} (hs : s < n) (hm : s ∉ Q) {o : Obj} {v7 : Value}
  (hq : w7.ownsRow (w.heap.size + 2) 3 1 v7 (Q.length + 1) ((Q.map Int.ofNat ++ [(s : Int)]).map (Value.int .i64))) (hg : ((wr.setCell ⟨w.heap.size + 1,s,none⟩ (.bool true)).alloc o).grownBy w7 v.ownBlock) :
  RcM w w7 aA cA aT cT n v7 (Q ++ [s]) := by
 have hge := qm h.qo
 have hsz : wr.heap.size ≤ ((wr.setCell ⟨w.heap.size + 1,s,none⟩ (.bool true)).alloc o).heap.size := by simp
 have keep : ∀ b,b < wr.heap.size → b < w.heap.size + 2 → w7.heap[b]? = (wr.setCell ⟨w.heap.size + 1,s,none⟩ (.bool true)).heap[b]? := fun b hb1 hb2 => by
  rw [hg.block b (by omega) (fun e => by have := hge b e.symm; omega)]
  exact (q5 (wr.setCell ⟨w.heap.size + 1,s,none⟩ (.bool true)) o).block b (by simpa using hb1)
 refine ⟨?_,?_,by rw [List.length_append,List.map_append]; exact hq,?_,?_,fun x hx => ?_⟩
 ·exact (keep _ h.mb.lt (by omega)).trans ((Below.heap_setCell _ _ _ _ (by dsimp only; omega)).trans h.mb)
 ·exact (h.met.put hs).far (keep _ h.met.lt (by omega))
 ·have h1 : Below w.heap.size w (wr.setCell ⟨w.heap.size + 1,s,none⟩ (.bool true)) := h.bel.setCell (by dsimp only; omega) _
  have h2 := h1.alloc h1.size o
  exact h2.grown hg h2.size (fun q e => by have := hge q e; omega)
 ·rw [List.nodup_append]
  exact ⟨h.nd,by simp,fun a ha b hb => by simp only [List.mem_singleton] at hb; subst hb; exact fun e => hm (e ▸ ha)⟩
 ·rcases List.mem_append.1 hx with hx | hx
  ·exact h.lt x hx
  ·simp only [List.mem_singleton] at hx; omega
theorem q3Q (aA : Option Addr) (cA : Nat) (aT : Option Addr) (cT n K : Nat) (bs : List Bool) (R : List (List Nat)) (w : World) (hM : MvS w aA cA aT cT n bs R) (hR : RowsP n K R) (hK : K ≤ 256) (h1n : 1 ≤ n) (h256 : n ≤ 256) :
  Calls Try.prog 84 #[.agg #[.slice aA n cA,.slice aT n cT]] w (RchR R n w) := by
 obtain ⟨Z,eZ⟩ : ∃ Z,Z = RchR R n w := ⟨_,rfl⟩
 obtain ⟨G,eG⟩ : ∃ G,G = rchP R n 0 [0] := ⟨_,rfl⟩
 have HZ : Hid (∀ w' a L c,Below w.heap.size w w' → L = G.length → ZSl w' a L c (G.map Int.ofNat) → (∀ k,k < L → w.heap.size ≤ (adOf a k).block) → Z (.returned (.slice a L c)) w') := fun w' a L c hb hL h1 h2 => by subst hL; rw [eZ]; unfold RchR; rw [← eG]; exact ⟨hb,a,c,rfl,h1,h2⟩
 rw [← eZ]
 clear eZ
 have hmk := fun w => q3P n n (n : Int) (n : Int) rfl rfl (Nat.le_refl _) (by omega) w
 obtain ⟨C,hC⟩ : ∃ C,C = ((zB n).map Value.bool).toArray := ⟨_,rfl⟩
 have hix0 : ∀ w',(Instr.indexAt 22 (.slice (some ⟨w.heap.size + 1,0,none⟩) n n) (.int .i64 0)).run Try.prog w' = .ok (.pointer (some ⟨w.heap.size + 1,0,none⟩)) w' := fun w' => by
  have := q2s (w.heap.size + 1) n 0 (by omega) w'
  simpa using this
 have hm2 : MeS ((w.alloc (.cells #[.slice aA n cA,.slice aT n cT] 126 (0,0))).alloc (.cells C 4)) (w.heap.size + 1) n [] := by
  have := qai (w.alloc (.cells #[.slice aA n cA,.slice aT n cT] 126 (0,0))) n
  rw [← hC] at this
  simpa using this
 obtain ⟨cm,fm⟩ := hm2.at (a := 0) (by omega)
 have hm3 := hm2.put (s := 0) (by omega)
 rw [← hC] at hmk
 have hM0 : RcM w ((((w.alloc (.cells #[.slice aA n cA,.slice aT n cT] 126 (0,0))).alloc (.cells C 4)).setCell ⟨w.heap.size + 1,0,none⟩ (.bool true)).alloc (.cells #[.int .i64 0] 3)) aA cA aT cT n (.slice (some ⟨w.heap.size + 2,0,none⟩) 1 1) [0] := by
  have h1 := (q11 w (.slice aA n cA) (.slice aT n cT)).up (q5 _ (.cells C 4))
  have hb2 : Below w.heap.size w ((w.alloc (.cells #[.slice aA n cA,.slice aT n cT] 126 (0,0))).alloc (.cells C 4)) := q7 (q5 w _) (q5 _ _)
  have hb3 : Below w.heap.size w (((w.alloc (.cells #[.slice aA n cA,.slice aT n cT] 126 (0,0))).alloc (.cells C 4)).setCell ⟨w.heap.size + 1,0,none⟩ (.bool true)) := hb2.setCell (by dsimp only; omega) _
  have hnb := (MapKept.heap_alloc (((w.alloc (.cells #[.slice aA n cA,.slice aT n cT] 126 (0,0))).alloc (.cells C 4)).setCell ⟨w.heap.size + 1,0,none⟩ (.bool true)) (.cells #[.int .i64 0] 3)).1
  exact ⟨MvB.up ((Below.heap_setCell _ _ _ _ (by dsimp only; omega)).trans h1) (q5 _ _),hm3.up (q5 _ _),⟨rfl,.inr ⟨w.heap.size + 2,1,_,rfl,Nat.le_refl _,by simpa using hnb,Nat.le_refl _,by decide,rfl,rfl⟩⟩,q7 hb3 (q5 _ _),by simp,fun x hx => by simp at hx; omega⟩
 have HM0 : Hid (RcM w (((w.alloc (.cells #[.slice aA n cA,.slice aT n cT] 126 (0,0))).alloc (.cells (C.setIfInBounds 0 (.bool true)) 4)).alloc (.cells #[.int .i64 0] 3)) aA cA aT cT n (.slice (some ⟨w.heap.size + 2,0,none⟩) 1 1) [0]) := by
  have e := hM0
  simp [go_sem] at e
  exact e
 have m1 := (q11 w (.slice aA n cA) (.slice aT n cT)).c1
 have HHM : Hid _ := hM
 have HR : Hid _ := hR
 have HG0 : Hid (rchP R (n - 0) 0 [0] = G) := by show _ = _; rw [eG,Nat.sub_zero]
 clear hC hm2 hm3 hM hR hM0 eG
 go_enter Try.func84,Try.ntmps84
 go_wp2
 clear m1 fm cm hix0 hmk
 go_loopw [4,5] (fun v i wr => ∃ (j : Nat) (Q : List Nat),i = .int .i64 (j : Int) ∧ Hid (rchP R (n - j) j Q = G) ∧ Hid (RcM w wr aA cA aT cT n v Q) ∧ j ≤ Q.length) (fun _ i _ => n - (intOf i).toNat)
 case atStart => exact ⟨0,[0],rfl,HG0,HM0,Nat.zero_le _⟩
 case round =>
  obtain ⟨j,Q,rfl,HG,HPM,hjQ⟩ := hrel
  clear HG0 HM0
  have hQl := HPM.out.len
  obtain ⟨va,vc,rfl,hU,hUb,_⟩ := q13 HPM.out.qo Try.underlying23 qf
  by_cases hlt : j < Q.length
  ·have hix := fun w' => hU.idx Q.length j w' hlt (Nat.le_refl _)
   have hce := hU.cell j hlt
   rw [qD hlt] at hce
   have hqn : Q.getD j 0 < n := HPM.out.lt _ (by rw [List.getD_eq_getElem?_getD,List.getElem?_eq_getElem hlt]; exact List.getElem_mem hlt)
   have HGS : Hid (rchP R (n - (j + 1)) (j + 1) ((R.getD (Q.getD j 0) []).foldl putR Q) = G) := by
    show _ = _
    rw [← HG.out,show n - j = (n - (j + 1)) + 1 by omega,qY _ _ hlt]
   generalize Q.getD j 0 = q at *
   obtain ⟨rg,ro,rz,ra,rl,rc,hrx,hrc,hrz⟩ := HHM.out.row hqn
   have hrc := q8 hrc HPM.out.bel
   have hrl : rl = K := by have := hrz.hlen; rw [List.length_map,HR.out.row q hqn] at this; exact this.symm
   subst hrl
   have m1 := HPM.out.mb.c1
   have HRS : Hid _ := HR.out.row q hqn
   have HRL : Hid (∀ k,k < rl → (R.getD q []).getD k 0 < n) := fun k hk => HR.out.lt q k hqn hk
   generalize R.getD q [] = row at *
   have HRZ : Hid _ := hrz
   have HP0 : Hid (∀ nq,RcM w (wr.drewN nq) aA cA aT cT n (.slice va Q.length vc) Q) := fun nq => HPM.out.up (below_drewN (Below.refl _ _) nq)
   clear hU hUb HG hrz HPM
   generalize adOf va j = ad at *
   obtain ⟨ag,ao,az⟩ := ad
   go_wp2
   go_quiet (fail)
   go_wp2
   have HPN : Hid _ := HP0.out nq
   clear HP0 hix hce hrx hrc m1
   generalize wr.drewN nq = wz at *
   go_loopw [4,30] (fun v i wy => ∃ (k : Nat) (Q2 : List Nat),k ≤ rl ∧ i = .int .i64 (k : Int) ∧ Hid ((row.take k).foldl putR Q = Q2) ∧ Hid (RcM w wy aA cA aT cT n v Q2)) (fun _ i _ => rl - (intOf i).toNat)
   case atStart => exact ⟨0,Q,Nat.zero_le _,rfl,rfl,HPN⟩
   case round =>
    clear HPN
    obtain ⟨k,Q2,hk,rfl,HF,HPM⟩ := hrel
    have hQl2 := HPM.out.len
    obtain ⟨ua,uc,rfl⟩ := qe HPM.out.qo
    by_cases hkK : k < rl
    ·have ik1 := fun w' => HRZ.out.idx rl k w' hkK (Nat.le_refl _)
     have ck1 := (HRZ.out.up HPM.out.bel).cell k hkK
     have hkr : k < row.length := by rw [HRS.out]; exact hkK
     rw [qD hkr] at ck1
     have hs := HRL.out k hkK
     have HFN : Hid ((row.take (k + 1)).foldl putR Q = putR Q2 (row.getD k 0)) := by show _ = _; rw [q1D row Q hkr,HF.out]
     generalize row.getD k 0 = s at *
     generalize adOf ra k = ad3 at *
     obtain ⟨b1g,b1o,b1z⟩ := ad3
     have hixm := fun w' => q2s (w.heap.size + 1) n s hs w'
     obtain ⟨cm,fm⟩ := HPM.out.met.at hs
     by_cases hm : s ∈ Q2
     ·have HF2 : Hid ((row.take (k + 1)).foldl putR Q = Q2) := by show _ = _; rw [HFN.out,putR,if_pos hm]
      rw [decide_eq_true hm] at cm
      clear HF HFN hm
      go_wp2
      go_roundw
      case rel => exact ⟨k + 1,Q2,by omega,by go_num,HF2,HPM⟩
      case measure => simp [intOf]; omega
     ·have HF2 : Hid ((row.take (k + 1)).foldl putR Q = Q2 ++ [s]) := by show _ = _; rw [HFN.out,putR,if_neg hm]
      rw [decide_eq_false hm] at cm
      have HM2 : Hid _ := hm
      have HO6 : Hid (((wr.setCell ⟨w.heap.size + 1,s,none⟩ (.bool true)).alloc (.cells #[.int .i64 (s : Int)] 3)).ownsRow (w.heap.size + 2) 3 1 (.slice ua Q2.length uc) Q2.length ((Q2.map Int.ofNat).map (Value.int .i64))) := World.ownsRow.alloc (q1W HPM.out.qo (by dsimp only; omega) _) _
      have hc6 : ((wr.setCell ⟨w.heap.size + 1,s,none⟩ (.bool true)).alloc (.cells #[.int .i64 (s : Int)] 3)).cell? ⟨wr.heap.size,0,none⟩ = some (.int .i64 (s : Int)) := by
       have := q6 (MapKept.heap_alloc (wr.setCell ⟨w.heap.size + 1,s,none⟩ (.bool true)) (.cells #[.int .i64 (s : Int)] 3)).1 0
       simpa using this
      have hb6 : w.heap.size + 2 ≤ ((wr.setCell ⟨w.heap.size + 1,s,none⟩ (.bool true)).alloc (.cells #[.int .i64 (s : Int)] 3)).heap.size := by
       have := HPM.out.met.lt
       simp; omega
      have hQ26 : Q2.length + 1 ≤ 2000000 := by omega
      clear HF HFN hm
      go_wp2_with (at_builtin; refine qS rfl _ _ rfl (w.heap.size + 2) _ Q2.length (Q2.map Int.ofNat) rfl HO6.out wr.heap.size (s : Int) rfl hc6 hQ26 hb6 ?_)
      intro v7 w7 hq7 hg7
      have HPM7 : Hid _ := HPM.out.push hs HM2.out (by rw [List.map_append,List.map_map]; exact hq7) hg7
      clear hq7 hg7 HO6 hc6 hb6 HPM HM2
      go_wp2
      go_roundw
      case rel => exact ⟨k + 1,_,by omega,by go_num,HF2,HPM7⟩
      case measure => simp [intOf]; omega
    ·obtain rfl : k = rl := by omega
     have HG3 : Hid (rchP R (n - (j + 1)) (j + 1) Q2 = G) := by
      show _ = _
      rw [← HGS.out,← HF.out,List.take_of_length_le (by rw [HRS.out]; exact Nat.le_refl _)]
     have hj2 : j + 1 ≤ Q2.length := by
      have h1 := (qV (row.take k) Q).length_le
      rw [HF.out] at h1
      omega
     clear HF HZ
     go_wp2
     go_roundw
     case rel => exact ⟨j + 1,Q2,by go_num,HG3,HPM,hj2⟩
     case measure => simp [intOf]; omega
  ·have hjl : j = Q.length := by omega
   have hG : Q = G := by rw [← HG.out,q1b _ _ (by omega)]
   have HE : Hid _ := HZ.out wr va Q.length vc HPM.out.bel (by rw [hG]) (by rw [← hG]; exact hU) (fun k hk => by have := hUb k hk; omega)
   have hdj : ¬ (j : Int) < (Q.length : Int) := by omega
   clear HZ HG HPM hjl hU hUb hG
   go_wp2
   exact HE.out
theorem q6g (w : World) : ZSl w none 0 0 [] := ⟨rfl,Nat.le_refl _,Nat.zero_le _,fun m k w hk hm => absurd hk (by omega),fun k hk => absurd hk (by omega),fun k hk => absurd hk (by omega),fun _ => rfl⟩
abbrev rwA (p : Int) (N : List Gd) (gs : List Int) : List (List Nat) := rowsG N gs (2 ^ p.toNat)
theorem MayG.k256 {p : Int} {ns : Nat} {N : List Gd} {gs : List Int} (h : MayG p ns N gs) : 2 ^ p.toNat ≤ 256 := by
 have h8 := h.p8
 have : 2 ^ p.toNat ≤ 2 ^ 8 := Nat.pow_le_pow_right (by decide) (by omega)
 omega
def CaR (p : Int) (nA : Nat) (bs : List Bool) (N : List Gd) (gs : List Int) (w : World) (e : Ending) (w' : World) : Prop :=
 Below w.heap.size w w' ∧ ((¬ MayG p nA N gs ∧ e = .returned (.tuple #[.slice none 0 0,.int .i64 12])) ∨
  (MayG p nA N gs ∧ ∃ k g,w.heap.size ≤ g ∧ manyP (rwA p N gs) bs nA k = manyP (rwA p N gs) bs nA (k + 1) ∧ e = .returned (.tuple #[.slice (some ⟨g,0,none⟩) nA nA,.int .i64 0]) ∧ RowI w' 3 g ((clsP (rwA p N gs) bs nA k).map Int.ofNat)))
theorem q3G (p : Int) (aA : Option Addr) (nA cA : Nat) (aG : Option Addr) (nG cG : Nat) (aN : Option Addr) (nN cN : Nat) (bs : List Bool) (N : List Gd) (gs : List Int) (w : World) (hB : BoSl w aA nA cA bs) (hN : NdSl w aN nN cN N) (hG : ZSl w aG nG cG gs) (hok : ∀ z ∈ gs,I64 z) :
  Calls Try.prog 67 #[.agg #[.int .i64 p,.slice aA nA cA,.slice aG nG cG,.slice aN nN cN]] w (CaR p nA bs N gs w) := by
 obtain ⟨Z,eZ⟩ : ∃ Z,Z = CaR p nA bs N gs w := ⟨_,rfl⟩
 have HZ : Hid (∀ e w',CaR p nA bs N gs w e w' → Z e w') := fun e w' h => by rw [eZ]; exact h
 rw [← eZ]
 have hb0 := q5 w (.cells #[.int .i64 p,.slice aA nA cA,.slice aG nG cG,.slice aN nN cN] 26 (0,0))
 have HB0 : Hid _ := hb0
 have jl := q2T p aA nA cA aG nG cG aN nN cN bs N gs none 0 0 [] _ (hB.up hb0) (hN.up hb0) (hG.up hb0) hok (q6g _)
 obtain ⟨c0,c1,c2,c3⟩ := qj w p aA nA cA aG nG cG aN nN cN
 go_enter Try.func67,Try.ntmps67
 go_wp2_with fail
 refine jl.mono ?_
 rintro e w2 ⟨hb2,⟨hM,rfl⟩ | ⟨_,hM,_⟩ | ⟨hM,_,aT,cT,rfl,hS⟩⟩
 ·have HE : Hid _ := HZ.out _ _ ⟨q7 (q7 HB0.out hb2) (q5 w2 (.cells #[.slice none 0 0,.slice none 0 0] 126)),.inl ⟨hM,rfl⟩⟩
  go_wp2
  exact HE.out
 ·exact absurd (fun s hs => by cases hs) hM
 ·have hbb := q7 (q7 HB0.out hb2) (q5 w2 (.cells #[.slice aA nA cA,.slice aT nA cT] 126))
  have jc := q3I aA cA aT cT nA (2 ^ p.toNat) bs (rwA p N gs) _ (hS.up (q5 w2 (.cells #[.slice aA nA cA,.slice aT nA cT] 126))) (hM.rows _) hM.k256 hM.s1 hM.s2
  have HE : Hid (∀ e w',ClsR (rwA p N gs) bs nA (w2.alloc (.cells #[.slice aA nA cA,.slice aT nA cT] 126)) e w' → ∃ v,e = .returned v ∧ Z (.returned (.tuple #[v,.int .i64 0])) w') := fun e w' hq => by
   obtain ⟨hb,k,g,hg,hm,rfl,hr⟩ := hq
   exact ⟨_,rfl,HZ.out _ _ ⟨q7 hbb hb,.inr ⟨hM,k,g,by have := hbb.size; omega,hm,rfl,hr⟩⟩⟩
  go_wp2_with fail
  refine jc.mono ?_
  intro e w3 hq
  obtain ⟨v,rfl,hz⟩ := HE.out e w3 hq
  have HE2 : Hid _ := hz
  go_wp2
  exact HE2.out
def RchA (p : Int) (nA : Nat) (N : List Gd) (gs : List Int) (w : World) (e : Ending) (w' : World) : Prop :=
 Below w.heap.size w w' ∧ ((¬ MayG p nA N gs ∧ e = .returned (.tuple #[.slice none 0 0,.int .i64 12])) ∨
  (MayG p nA N gs ∧ ∃ a c,e = .returned (.tuple #[.slice a (rchP (rwA p N gs) nA 0 [0]).length c,.int .i64 0]) ∧ ZSl w' a (rchP (rwA p N gs) nA 0 [0]).length c ((rchP (rwA p N gs) nA 0 [0]).map Int.ofNat) ∧ ∀ k,k < (rchP (rwA p N gs) nA 0 [0]).length → w.heap.size ≤ (adOf a k).block))
theorem q3H (p : Int) (aA : Option Addr) (nA cA : Nat) (aG : Option Addr) (nG cG : Nat) (aN : Option Addr) (nN cN : Nat) (bs : List Bool) (N : List Gd) (gs : List Int) (w : World) (hB : BoSl w aA nA cA bs) (hN : NdSl w aN nN cN N) (hG : ZSl w aG nG cG gs) (hok : ∀ z ∈ gs,I64 z) :
  Calls Try.prog 68 #[.agg #[.int .i64 p,.slice aA nA cA,.slice aG nG cG,.slice aN nN cN]] w (RchA p nA N gs w) := by
 obtain ⟨Z,eZ⟩ : ∃ Z,Z = RchA p nA N gs w := ⟨_,rfl⟩
 have HZ : Hid (∀ e w',RchA p nA N gs w e w' → Z e w') := fun e w' h => by rw [eZ]; exact h
 rw [← eZ]
 have hb0 := q5 w (.cells #[.int .i64 p,.slice aA nA cA,.slice aG nG cG,.slice aN nN cN] 26 (0,0))
 have HB0 : Hid _ := hb0
 have jl := q2T p aA nA cA aG nG cG aN nN cN bs N gs none 0 0 [] _ (hB.up hb0) (hN.up hb0) (hG.up hb0) hok (q6g _)
 obtain ⟨c0,c1,c2,c3⟩ := qj w p aA nA cA aG nG cG aN nN cN
 go_enter Try.func68,Try.ntmps68
 go_wp2_with fail
 refine jl.mono ?_
 rintro e w2 ⟨hb2,⟨hM,rfl⟩ | ⟨_,hM,_⟩ | ⟨hM,_,aT,cT,rfl,hS⟩⟩
 ·have HE : Hid _ := HZ.out _ _ ⟨q7 (q7 HB0.out hb2) (q5 w2 (.cells #[.slice none 0 0,.slice none 0 0] 126)),.inl ⟨hM,rfl⟩⟩
  go_wp2
  exact HE.out
 ·exact absurd (fun s hs => by cases hs) hM
 ·have hbb := q7 (q7 HB0.out hb2) (q5 w2 (.cells #[.slice aA nA cA,.slice aT nA cT] 126))
  have jc := q3Q aA cA aT cT nA (2 ^ p.toNat) bs (rwA p N gs) _ (hS.up (q5 w2 (.cells #[.slice aA nA cA,.slice aT nA cT] 126))) (hM.rows _) hM.k256 hM.s1 hM.s2
  have HE : Hid (∀ e w',RchR (rwA p N gs) nA (w2.alloc (.cells #[.slice aA nA cA,.slice aT nA cT] 126)) e w' → ∃ v,e = .returned v ∧ Z (.returned (.tuple #[v,.int .i64 0])) w') := fun e w' hq => by
   obtain ⟨hb,a,c,rfl,hr,hnw⟩ := hq
   exact ⟨_,rfl,HZ.out _ _ ⟨q7 hbb hb,.inr ⟨hM,a,c,rfl,hr,fun k hk => by have := hnw k hk; have := hbb.size; omega⟩⟩⟩
  go_wp2_with fail
  refine jc.mono ?_
  intro e w3 hq
  obtain ⟨v,rfl,hz⟩ := HE.out e w3 hq
  have HE2 : Hid _ := hz
  go_wp2
  exact HE2.out
end Go.Proofs.Ytcnkgokfjafgkaa
