/- Texts of the proof, put together: what it uses. -/
import Derived.Deep.DeepCutAuto
import Derived.BigQuiet
import Derived.Deep.AppendLies
import Derived.Sort.AssemblyPlain
import Derived.Deep.QuietTactic
import Derived.BigRegion
import Derived.Test.YtailhklbmenaoaaGreatDoorZ07
set_option maxRecDepth 100000
set_option maxHeartbeats 16000000
namespace Go.Proofs.YtailhklbmenaoaaGreatDoor
open Go.RowKit Go.Maps
theorem qe3 {a b : List Nat} (h : Sm a) (k : Sm b) : Sm (a ++ b) := fun x hx => (List.mem_append.1 hx).elim (h x) (k x)
theorem qgP {a b : List Nat} (h : Sm a) (k : Sm b) : Sm (uniL a b) := fun x hx => by
 unfold uniL at hx
 obtain ⟨y,hy,hx⟩ := List.mem_flatMap.1 hx
 obtain ⟨z,hz,rfl⟩ := List.mem_map.1 hx
 exact or_lt (h y hy) (k z hz)
theorem qcq {P : Program} {T e : TypeId} {w : World} {base n : Nat} {v : Value} {zs : List Int} (h : w.ownsRow base e 1 v n (zs.map (Value.int .u64))) (hu : P.underlying T = some (.slice e)) (hs : (P.info? e).map (·.size) = some 1) :
  ∃ a cap,v = .slice a n cap ∧ IntSl P T .u64 w a n cap zs ∧ (∀ k,k < n → base ≤ (adOf a k).block) ∧ ∀ x,a = some x → x.block < w.heap.size := by
 obtain ⟨hl,h⟩ := h
 simp at hl
 rcases h with ⟨rfl,rfl⟩ | ⟨g,cap,cur,rfl,hg,hcell,hnc,hcm,hsz,htk⟩
 ·have : zs = [] := List.eq_nil_of_length_eq_zero hl
  subst this
  exact ⟨none,0,rfl,⟨rfl,Nat.le_refl _,Nat.zero_le _,fun m k w hk hm => absurd hk (by omega),fun k hk => absurd hk (by omega),fun k hk => absurd hk (by omega),fun _ => rfl⟩,fun k hk => absurd hk (by omega),fun x hx => by cases hx⟩
 ·have had : ∀ k,adOf (some ⟨g,0,none⟩) k = ⟨g,k,none⟩ := fun k => by simp [adOf,qi]
  have hlt : g < w.heap.size := (Array.getElem?_eq_some_iff.1 hcell).1
  refine ⟨some ⟨g,0,none⟩,cap,rfl,⟨hl,hnc,hcm,fun m k w hk hm => q1j hu hs (by simp) k w hk,fun k hk => ?_,fun k hk => by rw [had]; exact hlt,by simp⟩,fun k hk => by rw [had]; exact hg,fun x hx => by injection hx with hx; rw [← hx]; exact hlt⟩
  rw [had]
  have hk2 : (cur.toList.take (n * 1))[k]? = some (.int .u64 (zs.getD k 0)) := by
   rw [htk]; simp [List.getD_eq_getElem?_getD,List.getElem?_eq_getElem (show k < zs.length by omega)]
  rw [List.getElem?_take,if_pos (by omega)] at hk2
  simp [World.cell?,hcell]
  simpa using hk2
theorem q25 : (Tryz.prog.info? 55).map (fun i => (i.zero,i.size,i.bytes)) = some (some (.int .u64 0),1,8) := by kernel_rfl
theorem q8A (w : World) (e : TypeId) : (w.alloc (.cells #[] e)).ownsRow w.heap.size e 1 (.slice (some ⟨w.heap.size,0,none⟩) 0 0) 0 [] :=
 ⟨rfl,Or.inr ⟨w.heap.size,0,#[],rfl,Nat.le_refl _,(MapKept.heap_alloc w _).1,Nat.le_refl _,Nat.zero_le _,rfl,rfl⟩⟩
abbrev lt64 : Int → Int → Bool := Go.Sort.ltInt
theorem swo64 : Go.Sort.SWO lt64 := ⟨fun x => by simp [lt64,Go.Sort.ltInt],fun x y z => by simp [lt64,Go.Sort.ltInt]; omega,fun x y z => by simp [lt64,Go.Sort.ltInt]; omega⟩
def SoAt (w : World) (g : Nat) (d : Array Int) (t : List Int) : Prop := w.heap[g]? = some (.cells ((d.toList ++ t).map (Value.int .u64)).toArray 55 (0,0))
theorem SoAt.lt {w : World} {g : Nat} {d : Array Int} {t : List Int} (h : SoAt w g d t) : g < w.heap.size := (Array.getElem?_eq_some_iff.1 h).1
theorem SoAt.cell {w : World} {g : Nat} {d : Array Int} {t : List Int} (h : SoAt w g d t) {i : Nat} (hi : i < d.size) : w.cell? ⟨g,i,none⟩ = some (.int .u64 d[i]!) := by
 rw [qb h]
 simp [List.getElem?_append_left,hi]
theorem SoAt.fz {w : World} {g : Nat} {d : Array Int} {t : List Int} (h : SoAt w g d t) (i : Nat) : w.frozen? ⟨g,i,none⟩ = false := frozen_of_row w g i _ _ h
theorem SoAt.set {w : World} {g : Nat} {d : Array Int} {t : List Int} (h : SoAt w g d t) {i : Nat} (hi : i < d.size) (x : Int) : SoAt (w.setCell ⟨g,i,none⟩ (.int .u64 x)) g (d.setIfInBounds i x) t := by
 unfold SoAt
 rw [heap_setCell_same w g i _ _ (.int .u64 x) h]
 refine congrArg some (congrArg (fun c => Obj.cells c 55 (0,0)) (Array.toList_inj.1 ?_))
 simp only [Array.toList_setIfInBounds,List.map_append,List.map_set]
 rw [List.set_append_left _ _ (by simpa using hi)]
theorem SoAt.swap {w : World} {g : Nat} {d : Array Int} {t : List Int} (h : SoAt w g d t) {i j : Nat} (hi : i < d.size) (hj : j < d.size) : SoAt ((w.setCell ⟨g,i,none⟩ (.int .u64 d[j]!)).setCell ⟨g,j,none⟩ (.int .u64 d[i]!)) g (Go.Sort.swp d i j) t :=
 (h.set hi d[j]!).set (by simpa using hj) d[i]!
theorem qbW : (Tryz.prog.info? 55).map (·.size) = some 1 := by kernel_rfl
theorem qg (g n c k : Nat) (w : World) (hk : k < n) : (Instr.indexAt 46 (.slice (some ⟨g,0,none⟩) n c) (.int .i64 (k : Int))).run Tryz.prog w = .ok (.pointer (some ⟨g,k,none⟩)) w := by
 have := q1j (P := Tryz.prog) (T := 46) (e := 55) Tryz.underlying46 qbW (a := some ⟨g,0,none⟩) (cap := c) (n := n) (by simp) k w hk
 simpa [adOf,qi] using this
theorem qk {w w' : World} {g i : Nat} (h : w.grownBy w' (some g)) (v : Value) : w.grownBy (w'.setCell ⟨g,i,none⟩ v) (some g) :=
 ⟨h.os,h.tape,h.output,by have := h.size; simpa using this,fun k hk hne => (Below.heap_setCell _ _ _ _ (fun e => hne (by rw [e]))).trans (h.block k hk hne)⟩
theorem qj {w w' : World} {row : Option Nat} (h : w.grownBy w' row) (n : Nat) : w.grownBy (w'.drewN n) row := by
 have hb := below_drewN (Below.refl w'.heap.size w') n
 exact ⟨hb.os.trans h.os,hb.tape.trans h.tape,hb.output.trans h.output,Nat.le_trans h.size hb.size,fun k hk hne => (hb.block k (Nat.lt_of_lt_of_le hk h.size)).trans (h.block k hk hne)⟩
theorem SoAt.drewN {w : World} {g : Nat} {d : Array Int} {t : List Int} (h : SoAt w g d t) (n : Nat) : SoAt (w.drewN n) g d t := (below_drewN (Below.refl w.heap.size w) n).block g h.lt |>.trans h
theorem SoAt.drew {w : World} {g : Nat} {d : Array Int} {t : List Int} (h : SoAt w g d t) : SoAt w.drew g d t := h
theorem qu {w w' : World} {row : Option Nat} (h : w.grownBy w' row) : w.grownBy w'.drew row := ⟨h.os,h.tape,h.output,h.size,h.block⟩
theorem qaz (x : Int) (w : World) : Calls Tryz.prog 142 #[.int .u64 x] w fun e w' => e = .returned (.bool false) ∧ w' = w := by
 go_enter Tryz.func142,Tryz.ntmps142
 go_wp2
 go_ret
 exact ⟨by simp,rfl⟩
theorem qo (x y : Int) (w : World) : Calls Tryz.prog 113 #[.int .u64 x,.int .u64 y] w fun e w' => e = .returned (.bool (lt64 x y)) ∧ w' = w := by
 have h1 := qaz x w
 go_enter Tryz.func113,Tryz.ntmps113
 go_wp2_with fail
 refine h1.mono ?_
 rintro e w1 ⟨rfl,hw1⟩
 obtain rfl := hw1.symm
 go_wp2
 go_ret
 exact ⟨rfl,rfl⟩
theorem qev {a j : Nat} {d : Array Int} (h : ¬ a < j) : Go.Sort.insInner lt64 a j d = d := by
 cases j with
 | zero => rfl
 | succ j =>
  unfold Go.Sort.insInner
  rw [if_neg]
  simp; intro h2; omega
theorem qgv {a j : Nat} {d : Array Int} (hl : lt64 d[j + 1]! d[j]! = false) : Go.Sort.insInner lt64 a (j + 1) d = d := by
 unfold Go.Sort.insInner
 rw [if_neg]
 rw [hl]; simp
theorem qfC {a j : Nat} {d : Array Int} (h : a < j + 1) (hl : lt64 d[j + 1]! d[j]! = true) : Go.Sort.insInner lt64 a (j + 1) d = Go.Sort.insInner lt64 a j (Go.Sort.swp d (j + 1) j) := by
 conv => lhs; unfold Go.Sort.insInner
 rw [if_pos]
 rw [hl]; simp; omega
theorem qfB {a b k : Nat} {d : Array Int} (h : k < b) : Go.Sort.insOuter lt64 a b k d = Go.Sort.insOuter lt64 a b (k + 1) (Go.Sort.insInner lt64 a k d) := by
 conv => lhs; unfold Go.Sort.insOuter
 rw [if_pos h]
theorem qfA {a b k : Nat} {d : Array Int} (h : ¬ k < b) : Go.Sort.insOuter lt64 a b k d = d := by
 unfold Go.Sort.insOuter
 rw [if_neg h]
def SoP (w : World) (g : Nat) (t : List Int) (d' : Array Int) (e : Ending) (w' : World) : Prop := e = .returned (.tuple #[]) ∧ SoAt w' g d' t ∧ w.grownBy w' (some g)
theorem q65 (g c a b : Nat) (d : Array Int) (t : List Int) (w : World) (h : SoAt w g d t) (hab : a ≤ b) (hb : b ≤ d.size) (hn : d.size ≤ 1000000) :
  Calls Tryz.prog 107 #[.slice (some ⟨g,0,none⟩) d.size c,.int .i64 (a : Int),.int .i64 (b : Int)] w (SoP w g t (Go.Sort.insertionSort lt64 d a b)) := by
 obtain ⟨N,hN⟩ : ∃ N,d.size = N := ⟨_,rfl⟩
 obtain ⟨R,hR⟩ : ∃ R,Go.Sort.insertionSort lt64 d a b = R := ⟨_,rfl⟩
 have HI0 : Hid (Go.Sort.insOuter lt64 a b (a + 1) d = R) := hR
 have HS0 : Hid (SoAt w g d t) := h
 have HD0 : Hid (d.size = N) := hN
 rw [hN] at hb hn ⊢
 rw [hR]
 clear h hN hR
 go_enter Tryz.func107,Tryz.ntmps107
 go_wp2
 go_loopw [6] (fun iv wr => ∃ k : Nat,a + 1 ≤ k ∧ k ≤ N + 1 ∧ iv = .int .i64 (k : Int) ∧ ∃ dk : Array Int,Hid (dk.size = N) ∧ Hid (SoAt wr g dk t) ∧ Hid (Go.Sort.insOuter lt64 a b k dk = R) ∧ Hid (w.grownBy wr (some g))) (fun iv _ => N + 1 - (intOf iv).toNat)
 case atStart => exact ⟨a + 1,Nat.le_refl _,by omega,by go_num,d,HD0,HS0,HI0,World.grownBy.refl _ _⟩
 case round =>
  obtain ⟨k,hak,hkN,rfl,dk,HD,HS,HI,HG⟩ := hrel
  clear HD0 HS0 HI0
  by_cases hkb : k < b
  ·have HJ0 : Hid (Go.Sort.insOuter lt64 a b (k + 1) (Go.Sort.insInner lt64 a k dk) = R) := (qfB hkb).symm.trans HI.out
   clear HI
   go_wp2
   go_loopw [7] (fun jv wr => ∃ j : Nat,j ≤ k ∧ jv = .int .i64 (j : Int) ∧ ∃ dj : Array Int,Hid (dj.size = N) ∧ Hid (SoAt wr g dj t) ∧ Hid (Go.Sort.insOuter lt64 a b (k + 1) (Go.Sort.insInner lt64 a j dj) = R) ∧ Hid (w.grownBy wr (some g))) (fun jv _ => (intOf jv).toNat)
   case atStart => exact ⟨k,Nat.le_refl _,rfl,dk,HD,HS,HJ0,HG⟩
   case round =>
    obtain ⟨j,hjk,rfl,dj,HD2,HS2,HJ,HG2⟩ := hrel
    clear HD HS HJ0 HG
    by_cases haj : a < j
    ·obtain ⟨m,hm⟩ : ∃ m,j = m + 1 := ⟨j - 1,by omega⟩
     have hd1 : decide ((a : Int) < (j : Int)) = true := decide_eq_true (by omega)
     have hi1 := fun w' => qg g N c j w' (by omega)
     have hi2 := fun w' => qg g N c m w' (by omega)
     have c1 := HS2.out.cell (i := j) (by rw [HD2.out]; omega)
     have c2 := HS2.out.cell (i := m) (by rw [HD2.out]; omega)
     have hsub : IntKind.i64.wrap ((j : Int) - 1) = (m : Int) := by rw [IntKind.wrap_i64]; omega
     have hless := fun w' => qo dj[j]! dj[m]! w'
     cases hl : lt64 dj[j]! dj[m]! with
     | false =>
      rw [hl] at hless
      have HK : Hid (Go.Sort.insOuter lt64 a b (k + 1) dj = R) := by
       have := HJ.out
       rw [hm] at this hl
       rw [qgv hl] at this
       exact this
      clear hl HJ hm
      go_upto_region 15 with fail
      go_quiet ((go_at_call 113; exact Calls.quiet_of_same (hless _)))
      have HS3 : Hid _ := HS2.out.drewN nq
      have HG3 : Hid _ := qj HG2.out nq
      clear HS2 HG2 hless c1 c2
      generalize wr.drewN nq = w3 at *
      go_wp2
      go_roundw
      case rel => exact ⟨k + 1,by omega,by omega,by go_num,dj,HD2,HS3,HK,HG3⟩
      case measure => simp [intOf] <;> omega
     | true =>
      rw [hl] at hless
      have HK : Hid (Go.Sort.insOuter lt64 a b (k + 1) (Go.Sort.insInner lt64 a m (Go.Sort.swp dj j m)) = R) := by
       have := HJ.out
       rw [hm] at this hl ⊢
       rw [qfC (by omega) hl] at this
       exact this
      have HM : Hid (j = m + 1) := hm
      have hmj : m < j := by omega
      clear hl HJ hm
      go_upto_region 15 with fail
      go_quiet ((go_at_call 113; exact Calls.quiet_of_same (hless _)))
      have hs3 := HS2.out.drewN nq
      have c3 := hs3.cell (i := j) (by rw [HD2.out]; omega)
      have c4 := hs3.cell (i := m) (by rw [HD2.out]; omega)
      have f3 := hs3.fz j
      have f4 := hs3.fz m
      have HS3 : Hid (SoAt (((wr.drewN nq).setCell ⟨g,j,none⟩ (.int .u64 dj[m]!)).setCell ⟨g,m,none⟩ (.int .u64 dj[j]!)) g (Go.Sort.swp dj j m) t) := hs3.swap (by rw [HD2.out]; omega) (by rw [HD2.out]; omega)
      have HG3 : Hid (w.grownBy (((wr.drewN nq).setCell ⟨g,j,none⟩ (.int .u64 dj[m]!)).setCell ⟨g,m,none⟩ (.int .u64 dj[j]!)) (some g)) := qk (qk (qj HG2.out nq) _) _
      have HD3 : Hid ((Go.Sort.swp dj j m).size = N) := by show _ = _; rw [Go.Sort.size_swp]; exact HD2.out
      clear HS2 HG2 hless c1 c2 hs3 HD2
      generalize dj[j]! = xj at *
      generalize dj[m]! = xm at *
      generalize Go.Sort.swp dj j m = dn at *
      generalize wr.drewN nq = w3 at *
      go_upto_region 15 with fail
      go_region
      all_goals
       have HS4 : Hid _ := HS3.out.drew
       have HG4 : Hid _ := qu HG3.out
       clear HS3 HG3 c3 c4 f3 f4
       generalize ((w3.setCell ⟨g,j,none⟩ (.int .u64 xm)).setCell ⟨g,m,none⟩ (.int .u64 xj)).drew = w4 at *
       go_wp2
       go_roundw
       case rel => exact ⟨m,by omega,rfl,dn,HD3,HS4,HK,HG4⟩
       case measure => simp [intOf]; omega
    ·have HK : Hid (Go.Sort.insOuter lt64 a b (k + 1) dj = R) := by
      have := HJ.out
      rw [qev haj] at this
      exact this
     have hd1 : decide ((a : Int) < (j : Int)) = false := decide_eq_false (by omega)
     clear HJ
     go_upto_region 15 with fail
     go_quiet (fail)
     have HS3 : Hid _ := HS2.out.drewN nq
     have HG3 : Hid _ := qj HG2.out nq
     clear HS2 HG2
     generalize wr.drewN nq = w3 at *
     go_wp2
     go_roundw
     case rel => exact ⟨k + 1,by omega,by omega,by go_num,dj,HD2,HS3,HK,HG3⟩
     case measure => simp [intOf] <;> omega
  ·have HR : Hid (dk = R) := (qfA hkb).symm.trans HI.out
   clear HI
   go_wp2
   go_end0
   obtain rfl := HR.out
   exact ⟨rfl,HS.out,HG.out⟩
theorem qf0 {hi first r : Nat} {d : Array Int} (h : hi ≤ 2 * r + 1) : Go.Sort.siftDown lt64 hi first r d = d := by
 unfold Go.Sort.siftDown
 rw [dif_pos h]
def sChild (hi first r : Nat) (d : Array Int) : Nat := if 2 * r + 1 + 1 < hi && lt64 d[first + (2 * r + 1)]! d[first + (2 * r + 1) + 1]! then 2 * r + 2 else 2 * r + 1
theorem q8I {hi first r : Nat} {d : Array Int} (h : 2 * r + 1 < hi) (hl : lt64 d[first + r]! d[first + sChild hi first r d]! = false) : Go.Sort.siftDown lt64 hi first r d = d := by
 unfold Go.Sort.siftDown
 rw [dif_neg (by omega)]
 unfold sChild at hl
 split at hl
 ·rename_i hc
  rw [if_pos hc,hl]; rfl
 ·rename_i hc
  rw [if_neg hc,hl]; rfl
theorem q6x {hi first r : Nat} {d : Array Int} (h : 2 * r + 1 < hi) (hl : lt64 d[first + r]! d[first + sChild hi first r d]! = true) : Go.Sort.siftDown lt64 hi first r d = Go.Sort.siftDown lt64 hi first (sChild hi first r d) (Go.Sort.swp d (first + r) (first + sChild hi first r d)) := by
 conv => lhs; unfold Go.Sort.siftDown
 rw [dif_neg (by omega)]
 unfold sChild at hl ⊢
 split at hl
 ·rename_i hc
  have h2 : 2 * r + 2 < hi := by simp at hc; omega
  rw [if_pos hc,hl,if_pos hc]
  simp only [Bool.not_true,Bool.false_eq_true,if_false]
  rw [dif_pos h2]
 ·rename_i hc
  rw [if_neg hc,hl,if_neg hc]
  simp only [Bool.not_true,Bool.false_eq_true,if_false]
theorem q5r {hi first r : Nat} {d : Array Int} (h : 2 * r + 1 < hi) : r < sChild hi first r d ∧ sChild hi first r d < hi := by
 unfold sChild
 split
 ·rename_i hc; simp at hc; omega
 ·omega
theorem q5P (g c a b : Nat) (d : Array Int) (t : List Int) (w : World) (h : SoAt w g d t) (hab : a ≤ b) (hb : b ≤ d.size) (hn : d.size ≤ 1000000) :
  Calls Tryz.prog 111 #[.slice (some ⟨g,0,none⟩) d.size c,.int .i64 (a : Int),.int .i64 (b : Int)] w (SoP w g t (Go.Sort.reverseRange d a b)) := by
 obtain ⟨N,hN⟩ : ∃ N,d.size = N := ⟨_,rfl⟩
 obtain ⟨R,hR⟩ : ∃ R,Go.Sort.reverseRange d a b = R := ⟨_,rfl⟩
 have HI0 : Hid (Go.Sort.reverseLoop a (b - 1) d = R) := hR
 have HS0 : Hid (SoAt w g d t) := h
 have HD0 : Hid (d.size = N) := hN
 rw [hN] at hb hn ⊢
 rw [hR]
 clear h hN hR
 go_enter Tryz.func111,Tryz.ntmps111
 go_wp2
 go_loopw [6,7] (fun iv jv wr => ∃ (i : Nat) (j : Int),i ≤ N ∧ -1 ≤ j ∧ j < N ∧ iv = .int .i64 (i : Int) ∧ jv = .int .i64 j ∧ ∃ dk : Array Int,Hid (dk.size = N) ∧ Hid (SoAt wr g dk t) ∧ Hid (Go.Sort.reverseLoop i j.toNat dk = R) ∧ Hid (w.grownBy wr (some g))) (fun iv jv _ => (intOf jv + 1 - intOf iv).toNat)
 case atStart => exact ⟨a,(b : Int) - 1,by omega,by omega,by omega,rfl,by go_num,d,HD0,HS0,by show _ = _; rw [show ((b : Int) - 1).toNat = b - 1 by omega]; exact HI0.out,World.grownBy.refl _ _⟩
 case round =>
  obtain ⟨i,j,hiN,hj1,hj2,rfl,rfl,dk,HD,HS,HI,HG⟩ := hrel
  clear HD0 HS0 HI0
  by_cases hij : (i : Int) < j
  ·obtain ⟨m,rfl⟩ := Int.eq_ofNat_of_zero_le (show 0 ≤ j by omega)
   have HK : Hid (Go.Sort.reverseLoop (i + 1) ((m : Int) - 1).toNat (Go.Sort.swp dk i m) = R) := by
    have := HI.out
    unfold Go.Sort.reverseLoop at this
    rw [Int.toNat_natCast,if_pos (by omega)] at this
    show _ = _
    rw [show ((m : Int) - 1).toNat = m - 1 by omega]
    exact this
   have hi1 := fun w' => qg g N c i w' (by omega)
   have hi2 := fun w' => qg g N c m w' (by omega)
   have hs3 := HS.out
   have c3 := hs3.cell (i := i) (by rw [HD.out]; omega)
   have c4 := hs3.cell (i := m) (by rw [HD.out]; omega)
   have f3 := hs3.fz i
   have f4 := hs3.fz m
   have HS3 : Hid (SoAt ((wr.setCell ⟨g,i,none⟩ (.int .u64 dk[m]!)).setCell ⟨g,m,none⟩ (.int .u64 dk[i]!)) g (Go.Sort.swp dk i m) t) := hs3.swap (by rw [HD.out]; omega) (by rw [HD.out]; omega)
   have HG3 : Hid (w.grownBy ((wr.setCell ⟨g,i,none⟩ (.int .u64 dk[m]!)).setCell ⟨g,m,none⟩ (.int .u64 dk[i]!)) (some g)) := qk (qk HG.out _) _
   have HD3 : Hid ((Go.Sort.swp dk i m).size = N) := by show _ = _; rw [Go.Sort.size_swp]; exact HD.out
   have hdec : IntKind.i64.wrap ((m : Int) - 1) = (m : Int) - 1 := by rw [IntKind.wrap_i64]; omega
   clear HS HG hs3 HD HI
   generalize dk[i]! = xi at *
   generalize dk[m]! = xm at *
   generalize Go.Sort.swp dk i m = dn at *
   go_wp2
   go_upto_region 15 with fail
   go_region
   all_goals
    have HS4 : Hid _ := HS3.out.drew
    have HG4 : Hid _ := qu HG3.out
    clear HS3 HG3 c3 c4 f3 f4
    generalize ((wr.setCell ⟨g,i,none⟩ (.int .u64 xm)).setCell ⟨g,m,none⟩ (.int .u64 xi)).drew = w4 at *
    go_wp2
    go_roundw
    case rel => exact ⟨i + 1,(m : Int) - 1,by omega,by omega,by omega,by go_num,rfl,dn,HD3,HS4,HK,HG4⟩
    case measure => simp [intOf]; omega
  ·have HR : Hid (dk = R) := by
    have := HI.out
    unfold Go.Sort.reverseLoop at this
    rw [if_neg (by omega)] at this
    exact this
   clear HI
   go_wp2
   go_end0
   obtain rfl := HR.out
   exact ⟨rfl,HS.out,HG.out⟩
theorem q4S (g c lo hi first : Nat) (d : Array Int) (t : List Int) (w : World) (h : SoAt w g d t) (hlo : lo ≤ d.size) (hb : first + hi ≤ d.size) (hn : d.size ≤ 1000000) :
  Calls Tryz.prog 137 #[.slice (some ⟨g,0,none⟩) d.size c,.int .i64 (lo : Int),.int .i64 (hi : Int),.int .i64 (first : Int)] w (SoP w g t (Go.Sort.siftDown lt64 hi first lo d)) := by
 obtain ⟨N,hN⟩ : ∃ N,d.size = N := ⟨_,rfl⟩
 obtain ⟨R,hR⟩ : ∃ R,Go.Sort.siftDown lt64 hi first lo d = R := ⟨_,rfl⟩
 have HI0 : Hid (Go.Sort.siftDown lt64 hi first lo d = R) := hR
 have HS0 : Hid (SoAt w g d t) := h
 have HD0 : Hid (d.size = N) := hN
 rw [hN] at hb hn hlo ⊢
 rw [hR]
 clear h hN hR
 go_enter Tryz.func137,Tryz.ntmps137
 go_wp2
 go_loopw [8] (fun iv wr => ∃ r : Nat,r ≤ N ∧ iv = .int .i64 (r : Int) ∧ ∃ dk : Array Int,Hid (dk.size = N) ∧ Hid (SoAt wr g dk t) ∧ Hid (Go.Sort.siftDown lt64 hi first r dk = R) ∧ Hid (w.grownBy wr (some g))) (fun iv _ => N - (intOf iv).toNat)
 case atStart => exact ⟨lo,hlo,rfl,d,HD0,HS0,HI0,World.grownBy.refl _ _⟩
 case round =>
  obtain ⟨r,hrN,rfl,dk,HD,HS,HI,HG⟩ := hrel
  clear HD0 HS0 HI0
  obtain ⟨E,hE⟩ : ∃ E,E = 2 * r := ⟨_,rfl⟩
  obtain ⟨C,hC⟩ : ∃ C,C = 2 * r + 1 := ⟨_,rfl⟩
  have wE : IntKind.i64.wrap (2 * (r : Int)) = (E : Int) := by rw [IntKind.wrap_i64]; omega
  have wC : IntKind.i64.wrap ((E : Int) + 1) = (C : Int) := by rw [IntKind.wrap_i64]; omega
  have HC : Hid (C = 2 * r + 1) := hC
  have hC2 : C ≤ 2000001 := by omega
  clear hE
  by_cases hge : hi ≤ C
  ·have HR : Hid (dk = R) := (qf0 (by omega)).symm.trans HI.out
   have hge' : (hi : Int) ≤ (C : Int) := by omega
   clear HI hC
   go_wp2
   refine bodyPost_ret (results_none rfl _ _ _) rfl ?_
   obtain rfl := HR.out
   exact ⟨rfl,HS.out,HG.out⟩
  ·have hge' : ¬ (hi : Int) ≤ (C : Int) := by omega
   obtain ⟨C1,hC1⟩ : ∃ C1,C1 = C + 1 := ⟨_,rfl⟩
   have wC1 : IntKind.i64.wrap ((C : Int) + 1) = (C1 : Int) := by rw [IntKind.wrap_i64]; omega
   have HC1 : Hid (C1 = C + 1) := hC1
   by_cases hc1 : C1 < hi
   ·have hd1 : decide ((C1 : Int) < (hi : Int)) = true := decide_eq_true (by omega)
    obtain ⟨P,hP⟩ : ∃ P,P = first + C := ⟨_,rfl⟩
    obtain ⟨P1,hP1⟩ : ∃ P1,P1 = first + C + 1 := ⟨_,rfl⟩
    have wP : IntKind.i64.wrap ((first : Int) + (C : Int)) = (P : Int) := by rw [IntKind.wrap_i64]; omega
    have wP1 : IntKind.i64.wrap ((P : Int) + 1) = (P1 : Int) := by rw [IntKind.wrap_i64]; omega
    have hi1 := fun w' => qg g N c P w' (by omega)
    have hi2 := fun w' => qg g N c P1 w' (by omega)
    have q1 := HS.out.cell (i := P) (by rw [HD.out]; omega)
    have q2 := HS.out.cell (i := P1) (by rw [HD.out]; omega)
    have hless := fun w' => qo dk[P]! dk[P1]! w'
    have HP : Hid (P = first + C ∧ P1 = first + C + 1) := ⟨hP,hP1⟩
    cases hl : lt64 dk[P]! dk[P1]! with
    | false =>
     rw [hl] at hless
     have HCH : Hid (sChild hi first r dk = C) := by
      show _ = _
      unfold sChild
      rw [← hC,← hP,show P + 1 = P1 by omega,hl]
      simp
     clear hl hC hC1 hP hP1
     go_wp2
     go_upto_region 15 with fail
     go_quiet ((go_at_call 113; exact Calls.quiet_of_same (hless _)))
     have HSX : Hid (SoAt (wr.drewN nq) g dk t) := SoAt.drewN HS.out nq
     have HGX : Hid _ := qj HG.out nq
     clear HS HG hless q1 q2
     generalize wr.drewN nq = wX at *
     have hch : sChild hi first r dk = C := HCH.out
     have HLT : Hid (r < C ∧ C < hi) := by have := q5r (first := first) (d := dk) (show 2 * r + 1 < hi by have := HC.out; omega); rw [hch] at this; exact this
     have hrc := HLT.out
     obtain ⟨S,hS⟩ : ∃ S,S = first + r := ⟨_,rfl⟩
     obtain ⟨Q,hQ⟩ : ∃ Q,Q = first + C := ⟨_,rfl⟩
     have wS : IntKind.i64.wrap ((first : Int) + (r : Int)) = (S : Int) := by rw [IntKind.wrap_i64]; omega
     have wQ : IntKind.i64.wrap ((first : Int) + (C : Int)) = (Q : Int) := by rw [IntKind.wrap_i64]; omega
     have hSN : S < N := by omega
     have hQN : Q < N := by omega
     have eS : (first : Int) + (r : Int) = (S : Int) := by omega
     have eQ : (first : Int) + (C : Int) = (Q : Int) := by omega
     have jS := fun w' => qg g N c S w' (by omega)
     have jQ := fun w' => qg g N c Q w' (by omega)
     have hs3 : SoAt wX g dk t := HSX.out
     have k3 := hs3.cell (i := S) (by rw [HD.out]; omega)
     have k4 := hs3.cell (i := Q) (by rw [HD.out]; omega)
     have hless2 := fun w' => qo dk[S]! dk[Q]! w'
     cases hl2 : lt64 dk[S]! dk[Q]! with
     | false =>
      rw [hl2] at hless2
      have HR : Hid (dk = R) := by
       have h0 := q8I (hi := hi) (first := first) (r := r) (d := dk) (by have := HC.out; omega) (by rw [hch,← hS,← hQ]; exact hl2)
       exact h0.symm.trans HI.out
      clear hl2 hch hS hQ HI hs3
      go_upto_region 15 with fail
      go_quiet ((go_at_call 113; exact Calls.quiet_of_same (hless2 _)))
      have HS5 : Hid (SoAt (wX.drewN nq) g dk t) := SoAt.drewN HSX.out nq
      have HG5 : Hid _ := qj HGX.out nq
      clear HSX HGX hless2 k3 k4
      generalize wX.drewN nq = w5 at *
      go_wp2
      refine bodyPost_ret (results_none rfl _ _ _) rfl ?_
      obtain rfl := HR.out
      exact ⟨rfl,HS5.out,HG5.out⟩
     | true =>
      rw [hl2] at hless2
      have HK : Hid (Go.Sort.siftDown lt64 hi first C (Go.Sort.swp dk S Q) = R) := by
       have h0 := q6x (hi := hi) (first := first) (r := r) (d := dk) (by have := HC.out; omega) (by rw [hch,← hS,← hQ]; exact hl2)
       rw [hch,← hS,← hQ] at h0
       exact h0.symm.trans HI.out
      clear hl2 hch hS hQ HI hs3
      go_upto_region 15 with fail
      go_quiet ((go_at_call 113; exact Calls.quiet_of_same (hless2 _)))
      have hs5 : SoAt (wX.drewN nq) g dk t := SoAt.drewN HSX.out nq
      have c3 := hs5.cell (i := S) (by rw [HD.out]; omega)
      have c4 := hs5.cell (i := Q) (by rw [HD.out]; omega)
      have f3 := hs5.fz S
      have f4 := hs5.fz Q
      have HS5 : Hid (SoAt (((wX.drewN nq).setCell ⟨g,S,none⟩ (.int .u64 dk[Q]!)).setCell ⟨g,Q,none⟩ (.int .u64 dk[S]!)) g (Go.Sort.swp dk S Q) t) := hs5.swap (by rw [HD.out]; omega) (by rw [HD.out]; omega)
      have HG5 : Hid (w.grownBy (((wX.drewN nq).setCell ⟨g,S,none⟩ (.int .u64 dk[Q]!)).setCell ⟨g,Q,none⟩ (.int .u64 dk[S]!)) (some g)) := qk (qk (qj HGX.out nq) _) _
      have HD5 : Hid ((Go.Sort.swp dk S Q).size = N) := by show _ = _; rw [Go.Sort.size_swp]; exact HD.out
      clear HSX HGX hless2 k3 k4 hs5 HD
      generalize dk[S]! = xS at *
      generalize dk[Q]! = xQ at *
      generalize Go.Sort.swp dk S Q = dn at *
      generalize wX.drewN nq = w5 at *
      go_wp2
      go_upto_region 15 with fail
      go_region
      all_goals
       have HS6 : Hid _ := HS5.out.drew
       have HG6 : Hid _ := qu HG5.out
       clear HS5 HG5 c3 c4 f3 f4
       generalize ((w5.setCell ⟨g,S,none⟩ (.int .u64 xQ)).setCell ⟨g,Q,none⟩ (.int .u64 xS)).drew = w6 at *
       go_wp2
       go_roundw
       case rel => exact ⟨C,by omega,rfl,dn,HD5,HS6,HK,HG6⟩
       case measure => simp [intOf]; omega
    | true =>
     rw [hl] at hless
     have HCH : Hid (sChild hi first r dk = C1) := by
      show _ = _
      unfold sChild
      rw [← hC,← hP,show P + 1 = P1 by omega,hl,if_pos (by simp; omega)]
      omega
     clear hl hC hC1 hP hP1
     go_wp2
     go_upto_region 15 with fail
     go_quiet ((go_at_call 113; exact Calls.quiet_of_same (hless _)))
     have HSX : Hid (SoAt (wr.drewN nq) g dk t) := SoAt.drewN HS.out nq
     have HGX : Hid _ := qj HG.out nq
     clear HS HG hless q1 q2
     generalize wr.drewN nq = wX at *
     go_wp2
     have hch : sChild hi first r dk = C1 := HCH.out
     have HLT : Hid (r < C1 ∧ C1 < hi) := by have := q5r (first := first) (d := dk) (show 2 * r + 1 < hi by have := HC.out; omega); rw [hch] at this; exact this
     have hrc := HLT.out
     obtain ⟨S,hS⟩ : ∃ S,S = first + r := ⟨_,rfl⟩
     obtain ⟨Q,hQ⟩ : ∃ Q,Q = first + C1 := ⟨_,rfl⟩
     have wS : IntKind.i64.wrap ((first : Int) + (r : Int)) = (S : Int) := by rw [IntKind.wrap_i64]; omega
     have wQ : IntKind.i64.wrap ((first : Int) + (C1 : Int)) = (Q : Int) := by rw [IntKind.wrap_i64]; omega
     have hSN : S < N := by omega
     have hQN : Q < N := by omega
     have eS : (first : Int) + (r : Int) = (S : Int) := by omega
     have eQ : (first : Int) + (C1 : Int) = (Q : Int) := by omega
     have jS := fun w' => qg g N c S w' (by omega)
     have jQ := fun w' => qg g N c Q w' (by omega)
     have hs3 : SoAt wX g dk t := HSX.out
     have k3 := hs3.cell (i := S) (by rw [HD.out]; omega)
     have k4 := hs3.cell (i := Q) (by rw [HD.out]; omega)
     have hless2 := fun w' => qo dk[S]! dk[Q]! w'
     cases hl2 : lt64 dk[S]! dk[Q]! with
     | false =>
      rw [hl2] at hless2
      have HR : Hid (dk = R) := by
       have h0 := q8I (hi := hi) (first := first) (r := r) (d := dk) (by have := HC.out; omega) (by rw [hch,← hS,← hQ]; exact hl2)
       exact h0.symm.trans HI.out
      clear hl2 hch hS hQ HI hs3
      go_upto_region 15 with fail
      go_quiet ((go_at_call 113; exact Calls.quiet_of_same (hless2 _)))
      have HS5 : Hid (SoAt (wX.drewN nq) g dk t) := SoAt.drewN HSX.out nq
      have HG5 : Hid _ := qj HGX.out nq
      clear HSX HGX hless2 k3 k4
      generalize wX.drewN nq = w5 at *
      go_wp2
      refine bodyPost_ret (results_none rfl _ _ _) rfl ?_
      obtain rfl := HR.out
      exact ⟨rfl,HS5.out,HG5.out⟩
     | true =>
      rw [hl2] at hless2
      have HK : Hid (Go.Sort.siftDown lt64 hi first C1 (Go.Sort.swp dk S Q) = R) := by
       have h0 := q6x (hi := hi) (first := first) (r := r) (d := dk) (by have := HC.out; omega) (by rw [hch,← hS,← hQ]; exact hl2)
       rw [hch,← hS,← hQ] at h0
       exact h0.symm.trans HI.out
      clear hl2 hch hS hQ HI hs3
      go_upto_region 15 with fail
      go_quiet ((go_at_call 113; exact Calls.quiet_of_same (hless2 _)))
      have hs5 : SoAt (wX.drewN nq) g dk t := SoAt.drewN HSX.out nq
      have c3 := hs5.cell (i := S) (by rw [HD.out]; omega)
      have c4 := hs5.cell (i := Q) (by rw [HD.out]; omega)
      have f3 := hs5.fz S
      have f4 := hs5.fz Q
      have HS5 : Hid (SoAt (((wX.drewN nq).setCell ⟨g,S,none⟩ (.int .u64 dk[Q]!)).setCell ⟨g,Q,none⟩ (.int .u64 dk[S]!)) g (Go.Sort.swp dk S Q) t) := hs5.swap (by rw [HD.out]; omega) (by rw [HD.out]; omega)
      have HG5 : Hid (w.grownBy (((wX.drewN nq).setCell ⟨g,S,none⟩ (.int .u64 dk[Q]!)).setCell ⟨g,Q,none⟩ (.int .u64 dk[S]!)) (some g)) := qk (qk (qj HGX.out nq) _) _
      have HD5 : Hid ((Go.Sort.swp dk S Q).size = N) := by show _ = _; rw [Go.Sort.size_swp]; exact HD.out
      clear HSX HGX hless2 k3 k4 hs5 HD
      generalize dk[S]! = xS at *
      generalize dk[Q]! = xQ at *
      generalize Go.Sort.swp dk S Q = dn at *
      generalize wX.drewN nq = w5 at *
      go_wp2
      go_upto_region 15 with fail
      go_region
      all_goals
       have HS6 : Hid _ := HS5.out.drew
       have HG6 : Hid _ := qu HG5.out
       clear HS5 HG5 c3 c4 f3 f4
       generalize ((w5.setCell ⟨g,S,none⟩ (.int .u64 xQ)).setCell ⟨g,Q,none⟩ (.int .u64 xS)).drew = w6 at *
       go_wp2
       go_roundw
       case rel => exact ⟨C1,by omega,rfl,dn,HD5,HS6,HK,HG6⟩
       case measure => simp [intOf]; omega
   ·have hd1 : decide ((C1 : Int) < (hi : Int)) = false := decide_eq_false (by omega)
    have HCH : Hid (sChild hi first r dk = C) := by
     show _ = _
     unfold sChild
     rw [← hC,if_neg]
     simp
     intro h0
     omega
    clear hC hC1
    go_wp2
    go_upto_region 15 with fail
    go_quiet (fail)
    have HSX : Hid (SoAt (wr.drewN nq) g dk t) := SoAt.drewN HS.out nq
    have HGX : Hid _ := qj HG.out nq
    clear HS HG
    generalize wr.drewN nq = wX at *
    have hch : sChild hi first r dk = C := HCH.out
    have HLT : Hid (r < C ∧ C < hi) := by have := q5r (first := first) (d := dk) (show 2 * r + 1 < hi by have := HC.out; omega); rw [hch] at this; exact this
    have hrc := HLT.out
    obtain ⟨S,hS⟩ : ∃ S,S = first + r := ⟨_,rfl⟩
    obtain ⟨Q,hQ⟩ : ∃ Q,Q = first + C := ⟨_,rfl⟩
    have wS : IntKind.i64.wrap ((first : Int) + (r : Int)) = (S : Int) := by rw [IntKind.wrap_i64]; omega
    have wQ : IntKind.i64.wrap ((first : Int) + (C : Int)) = (Q : Int) := by rw [IntKind.wrap_i64]; omega
    have hSN : S < N := by omega
    have hQN : Q < N := by omega
    have eS : (first : Int) + (r : Int) = (S : Int) := by omega
    have eQ : (first : Int) + (C : Int) = (Q : Int) := by omega
    have jS := fun w' => qg g N c S w' (by omega)
    have jQ := fun w' => qg g N c Q w' (by omega)
    have hs3 : SoAt wX g dk t := HSX.out
    have k3 := hs3.cell (i := S) (by rw [HD.out]; omega)
    have k4 := hs3.cell (i := Q) (by rw [HD.out]; omega)
    have hless2 := fun w' => qo dk[S]! dk[Q]! w'
    cases hl2 : lt64 dk[S]! dk[Q]! with
    | false =>
     rw [hl2] at hless2
     have HR : Hid (dk = R) := by
      have h0 := q8I (hi := hi) (first := first) (r := r) (d := dk) (by have := HC.out; omega) (by rw [hch,← hS,← hQ]; exact hl2)
      exact h0.symm.trans HI.out
     clear hl2 hch hS hQ HI hs3
     go_upto_region 15 with fail
     go_quiet ((go_at_call 113; exact Calls.quiet_of_same (hless2 _)))
     have HS5 : Hid (SoAt (wX.drewN nq) g dk t) := SoAt.drewN HSX.out nq
     have HG5 : Hid _ := qj HGX.out nq
     clear HSX HGX hless2 k3 k4
     generalize wX.drewN nq = w5 at *
     go_wp2
     refine bodyPost_ret (results_none rfl _ _ _) rfl ?_
     obtain rfl := HR.out
     exact ⟨rfl,HS5.out,HG5.out⟩
    | true =>
     rw [hl2] at hless2
     have HK : Hid (Go.Sort.siftDown lt64 hi first C (Go.Sort.swp dk S Q) = R) := by
      have h0 := q6x (hi := hi) (first := first) (r := r) (d := dk) (by have := HC.out; omega) (by rw [hch,← hS,← hQ]; exact hl2)
      rw [hch,← hS,← hQ] at h0
      exact h0.symm.trans HI.out
     clear hl2 hch hS hQ HI hs3
     go_upto_region 15 with fail
     go_quiet ((go_at_call 113; exact Calls.quiet_of_same (hless2 _)))
     have hs5 : SoAt (wX.drewN nq) g dk t := SoAt.drewN HSX.out nq
     have c3 := hs5.cell (i := S) (by rw [HD.out]; omega)
     have c4 := hs5.cell (i := Q) (by rw [HD.out]; omega)
     have f3 := hs5.fz S
     have f4 := hs5.fz Q
     have HS5 : Hid (SoAt (((wX.drewN nq).setCell ⟨g,S,none⟩ (.int .u64 dk[Q]!)).setCell ⟨g,Q,none⟩ (.int .u64 dk[S]!)) g (Go.Sort.swp dk S Q) t) := hs5.swap (by rw [HD.out]; omega) (by rw [HD.out]; omega)
     have HG5 : Hid (w.grownBy (((wX.drewN nq).setCell ⟨g,S,none⟩ (.int .u64 dk[Q]!)).setCell ⟨g,Q,none⟩ (.int .u64 dk[S]!)) (some g)) := qk (qk (qj HGX.out nq) _) _
     have HD5 : Hid ((Go.Sort.swp dk S Q).size = N) := by show _ = _; rw [Go.Sort.size_swp]; exact HD.out
     clear HSX HGX hless2 k3 k4 hs5 HD
     generalize dk[S]! = xS at *
     generalize dk[Q]! = xQ at *
     generalize Go.Sort.swp dk S Q = dn at *
     generalize wX.drewN nq = w5 at *
     go_wp2
     go_upto_region 15 with fail
     go_region
     all_goals
      have HS6 : Hid _ := HS5.out.drew
      have HG6 : Hid _ := qu HG5.out
      clear HS5 HG5 c3 c4 f3 f4
      generalize ((w5.setCell ⟨g,S,none⟩ (.int .u64 xQ)).setCell ⟨g,Q,none⟩ (.int .u64 xS)).drew = w6 at *
      go_wp2
      go_roundw
      case rel => exact ⟨C,by omega,rfl,dn,HD5,HS6,HK,HG6⟩
      case measure => simp [intOf]; omega
theorem qz {w w1 w2 : World} {row : Option Nat} (h : w.grownBy w1 row) (k : w1.grownBy w2 row) : w.grownBy w2 row :=
 ⟨k.os.trans h.os,k.tape.trans h.tape,k.output.trans h.output,Nat.le_trans h.size k.size,fun j hj hne => (k.block j (Nat.lt_of_lt_of_le hj h.size) hne).trans (h.block j hj hne)⟩
theorem q9d (hi first r : Nat) (d : Array Int) : (Go.Sort.siftDown lt64 hi first r d).size = d.size := by
 fun_induction Go.Sort.siftDown lt64 hi first r d <;> simp_all [Go.Sort.size_swp]
theorem q5K (g c a b : Nat) (d : Array Int) (t : List Int) (w : World) (h : SoAt w g d t) (hab : a < b) (hb : b ≤ d.size) (hn : d.size ≤ 1000000) :
  Calls Tryz.prog 108 #[.slice (some ⟨g,0,none⟩) d.size c,.int .i64 (a : Int),.int .i64 (b : Int)] w (SoP w g t (Go.Sort.heapSort lt64 d a b)) := by
 obtain ⟨N,hN⟩ : ∃ N,d.size = N := ⟨_,rfl⟩
 obtain ⟨R,hR⟩ : ∃ R,Go.Sort.heapSort lt64 d a b = R := ⟨_,rfl⟩
 obtain ⟨H,hH⟩ : ∃ H,H = b - a := ⟨_,rfl⟩
 obtain ⟨K0,hK0⟩ : ∃ K0,K0 = (H - 1) / 2 := ⟨_,rfl⟩
 have HI0 : Hid (Go.Sort.heapPop lt64 a H (Go.Sort.heapBuild lt64 H a (K0 + 1) d) = R) := by
  show _ = _
  rw [hK0,hH]; exact hR
 have HS0 : Hid (SoAt w g d t) := h
 have HD0 : Hid (d.size = N) := hN
 rw [hN] at hb hn ⊢
 rw [hR]
 have wH : IntKind.i64.wrap ((b : Int) - (a : Int)) = (H : Int) := by rw [IntKind.wrap_i64]; omega
 have eH : (b : Int) - (a : Int) = (H : Int) := by omega
 have wK : IntKind.i64.wrap ((H : Int) - 1) = (H : Int) - 1 := by rw [IntKind.wrap_i64]; omega
 have tK : ((H : Int) - 1).tdiv 2 = (K0 : Int) := by rw [Int.tdiv_eq_ediv_of_nonneg (by omega)]; omega
 have hHN : a + H ≤ N := by omega
 have hK0N : K0 ≤ H := by omega
 have hH1 : 1 ≤ H := by omega
 clear h hN hR hH hK0
 go_enter Tryz.func108,Tryz.ntmps108
 go_wp2
 go_loopw [9] (fun iv wr => ∃ (i : Int) (k : Nat),iv = .int .i64 i ∧ i = (k : Int) - 1 ∧ k ≤ K0 + 1 ∧ ∃ dk : Array Int,Hid (dk.size = N) ∧ Hid (SoAt wr g dk t) ∧ Hid (Go.Sort.heapPop lt64 a H (Go.Sort.heapBuild lt64 H a k dk) = R) ∧ Hid (w.grownBy wr (some g))) (fun iv _ => (intOf iv + 1).toNat)
 case atStart => exact ⟨(K0 : Int),K0 + 1,rfl,by omega,Nat.le_refl _,d,HD0,HS0,HI0,World.grownBy.refl _ _⟩
 case round =>
  obtain ⟨i,k,rfl,hik,hk,dk,HD,HS,HI,HG⟩ := hrel
  clear HD0 HS0 HI0 wH eH wK tK
  cases k with
  | zero =>
   obtain rfl : i = -1 := by omega
   have wK2 : IntKind.i64.wrap ((H : Int) - 1) = (H : Int) - 1 := by rw [IntKind.wrap_i64]; omega
   have HI2 : Hid (Go.Sort.heapPop lt64 a H dk = R) := HI.out
   clear HI hik
   go_wp2
   go_loopw [10] (fun iv wr => ∃ (i : Int) (k : Nat),iv = .int .i64 i ∧ i = (k : Int) - 1 ∧ k ≤ H ∧ ∃ dk : Array Int,Hid (dk.size = N) ∧ Hid (SoAt wr g dk t) ∧ Hid (Go.Sort.heapPop lt64 a k dk = R) ∧ Hid (w.grownBy wr (some g))) (fun iv _ => (intOf iv + 1).toNat)
   case atStart => exact ⟨(H : Int) - 1,H,rfl,rfl,Nat.le_refl _,dk,HD,HS,HI2,HG⟩
   case round =>
    obtain ⟨i,k,rfl,hik,hk,dk,HD3,HS3,HI3,HG3⟩ := hrel
    clear HD HS HI2 HG wK2
    cases k with
    | zero =>
     obtain rfl : i = -1 := by omega
     have HR : Hid (dk = R) := HI3.out
     clear HI3 hik
     go_wp2
     go_end0
     obtain rfl := HR.out
     exact ⟨rfl,HS3.out,HG3.out⟩
    | succ m =>
     obtain rfl : i = (m : Int) := by omega
     obtain ⟨Q,hQ⟩ : ∃ Q,Q = a + m := ⟨_,rfl⟩
     have HK : Hid (Go.Sort.heapPop lt64 a m (Go.Sort.siftDown lt64 m a 0 (Go.Sort.swp dk a Q)) = R) := by
      show _ = _
      rw [hQ]; exact HI3.out
     have wQ : IntKind.i64.wrap ((a : Int) + (m : Int)) = (Q : Int) := by rw [IntKind.wrap_i64]; omega
     have eQ : (a : Int) + (m : Int) = (Q : Int) := by omega
     have hQN : Q < N := by omega
     have hmQ : a + m ≤ N := by omega
     have hdec : IntKind.i64.wrap ((m : Int) - 1) = (m : Int) - 1 := by rw [IntKind.wrap_i64]; omega
     have hi1 := fun w' => qg g N c a w' (by omega)
     have hi2 := fun w' => qg g N c Q w' hQN
     have hs5 : SoAt wr g dk t := HS3.out
     have c3 := hs5.cell (i := a) (by rw [HD3.out]; omega)
     have c4 := hs5.cell (i := Q) (by rw [HD3.out]; omega)
     have f3 := hs5.fz a
     have f4 := hs5.fz Q
     have hs5b : SoAt (wr.setCell ⟨g,a,none⟩ (.int .u64 dk[Q]!)) g (dk.setIfInBounds a dk[Q]!) t := hs5.set (by rw [HD3.out]; omega) _
     have f5 := hs5b.fz Q
     have c5 := hs5b.cell (i := Q) (by rw [Array.size_setIfInBounds,HD3.out]; omega)
     have HS5 : Hid (SoAt ((wr.setCell ⟨g,a,none⟩ (.int .u64 dk[Q]!)).setCell ⟨g,Q,none⟩ (.int .u64 dk[a]!)) g (Go.Sort.swp dk a Q) t) := hs5.swap (by rw [HD3.out]; omega) (by rw [HD3.out]; omega)
     have HG5 : Hid (w.grownBy ((wr.setCell ⟨g,a,none⟩ (.int .u64 dk[Q]!)).setCell ⟨g,Q,none⟩ (.int .u64 dk[a]!)) (some g)) := qk (qk HG3.out _) _
     have HD5 : Hid ((Go.Sort.swp dk a Q).size = N) := by show _ = _; rw [Go.Sort.size_swp]; exact HD3.out
     clear HS3 HG3 hs5 hs5b HD3 HI3 hik hQ
     generalize (dk.setIfInBounds a dk[Q]!)[Q]! = yQ at *
     generalize dk[a]! = xa at *
     generalize dk[Q]! = xQ at *
     generalize Go.Sort.swp dk a Q = dn at *
     go_wp2
     go_upto_region 15 with fail
     go_region
     all_goals
      have HS6 : Hid (SoAt ((wr.setCell ⟨g,a,none⟩ (.int .u64 xQ)).setCell ⟨g,Q,none⟩ (.int .u64 xa)).drew g dn t) := SoAt.drew HS5.out
      have HG6 : Hid _ := qu HG5.out
      clear HS5 HG5 c3 c4 f3 f4 f5 c5
      generalize ((wr.setCell ⟨g,a,none⟩ (.int .u64 xQ)).setCell ⟨g,Q,none⟩ (.int .u64 xa)).drew = w6 at *
      have hsf := q4S g c 0 m a dn t w6 HS6.out (Nat.zero_le _) (by rw [HD5.out]; omega) (by rw [HD5.out]; omega)
      rw [HD5.out,show ((0 : Nat) : Int) = 0 from rfl] at hsf
      go_wp2_with fail
      refine hsf.mono ?_
      rintro e w7 ⟨rfl,hs7,hg7⟩
      have HS7 : Hid (SoAt w7 g (Go.Sort.siftDown lt64 m a 0 dn) t) := hs7
      have HG7 : Hid (w.grownBy w7 (some g)) := qz HG6.out hg7
      have HD7 : Hid ((Go.Sort.siftDown lt64 m a 0 dn).size = N) := by show _ = _; rw [q9d]; exact HD5.out
      clear hsf hs7 hg7 HS6 HG6
      go_wp2
      go_roundw
      case rel => exact ⟨(m : Int) - 1,m,rfl,rfl,by omega,_,HD7,HS7,HK,HG7⟩
      case measure => simp [intOf]
  | succ m =>
   obtain rfl : i = (m : Int) := by omega
   have HK : Hid (Go.Sort.heapPop lt64 a H (Go.Sort.heapBuild lt64 H a m (Go.Sort.siftDown lt64 H a m dk)) = R) := HI.out
   have hdec : IntKind.i64.wrap ((m : Int) - 1) = (m : Int) - 1 := by rw [IntKind.wrap_i64]; omega
   have hsf := q4S g c m H a dk t wr HS.out (by rw [HD.out]; omega) (by rw [HD.out]; omega) (by rw [HD.out]; omega)
   rw [HD.out] at hsf
   clear HI hik
   go_wp2_with fail
   refine hsf.mono ?_
   rintro e w7 ⟨rfl,hs7,hg7⟩
   have HS7 : Hid (SoAt w7 g (Go.Sort.siftDown lt64 H a m dk) t) := hs7
   have HG7 : Hid (w.grownBy w7 (some g)) := qz HG.out hg7
   have HD7 : Hid ((Go.Sort.siftDown lt64 H a m dk).size = N) := by show _ = _; rw [q9d]; exact HD.out
   clear hsf hs7 hg7 HS HG
   go_wp2
   go_roundw
   case rel => exact ⟨(m : Int) - 1,m,rfl,rfl,by omega,_,HD7,HS7,HK,HG7⟩
   case measure => simp [intOf]
end Go.Proofs.YtailhklbmenaoaaGreatDoor
