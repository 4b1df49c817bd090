/- Texts of the proof, put together: what it uses. -/
import Derived.Deep.DeepCutAuto
import Derived.Lib.AppendZerosOnto
import Derived.Test.YtailhklbmenaoaaGreatDoorZ01
import Derived.Test.YtailhklbmenaoaaGreatDoorZ07
import Derived.Test.YtailhklbmenaoaaGreatDoorZ09
set_option maxRecDepth 100000
set_option maxHeartbeats 16000000
namespace Go.Proofs.YtailhklbmenaoaaGreatDoor
open Go.RowKit Go.Maps
open Go.Sort (swp PermIn SortedIn)
def CB (w : World) (sb s : Nat) : Prop := w.heap[sb]? = some (.cells #[.int .i64 (s : Int)] 3 (0,0))
theorem CB.ne {w : World} {g sb s : Nat} {d : Array Int} {t : List Int} (h : CB w sb s) (k : SoAt w g d t) : g ≠ sb := fun e => by
 unfold CB at h
 unfold SoAt at k
 rw [← e,k] at h
 injection h with h
 injection h with _ h _
 exact absurd h (by decide)
theorem SoAt.grown {w w' : World} {g sb : Nat} {d : Array Int} {t : List Int} (h : SoAt w g d t) (hg : w.grownBy w' (some sb)) (hne : g ≠ sb) : SoAt w' g d t := (hg.block g h.lt (fun e => hne (by injection e))).trans h
theorem q2u (g c x y sb s : Nat) (d : Array Int) (t : List Int) (w : World) (h : SoAt w g d t) (hc : CB w sb s) (hx : x < d.size) (hy : y < d.size) (hs : s ≤ 1000) :
  Calls Tryz.prog 156 #[.slice (some ⟨g,0,none⟩) d.size c,.int .i64 (x : Int),.int .i64 (y : Int),.pointer (some ⟨sb,0,none⟩)] w fun e w' =>
   ∃ x' y' s' : Nat,e = .returned (.tuple #[.int .i64 (x' : Int),.int .i64 (y' : Int)]) ∧ (x' = x ∧ y' = y ∨ x' = y ∧ y' = x) ∧ s' ≤ s + 1 ∧ CB w' sb s' ∧ w.grownBy w' (some sb) := by
 have hi1 := fun w' => qg g d.size c x w' hx
 have hi2 := fun w' => qg g d.size c y w' hy
 have c1 := h.cell hx
 have c2 := h.cell hy
 have hless := fun w' => qo d[y]! d[x]! w'
 have HC : Hid (CB w sb s) := hc
 clear h hc
 generalize d.size = N at *
 generalize d[x]! = vx at *
 generalize d[y]! = vy at *
 cases hl : lt64 vy vx with
 | false =>
  rw [hl] at hless
  clear hl
  go_enter Tryz.func156,Tryz.ntmps156
  go_upto_region 15 with fail
  go_quiet ((go_at_call 113; exact Calls.quiet_of_same (hless _)))
  go_wp2
  go_ret2
  exact ⟨x,y,s,rfl,Or.inl ⟨rfl,rfl⟩,by omega,(below_drewN (Below.refl w.heap.size w) _).block sb (Array.getElem?_eq_some_iff.1 HC.out).1 |>.trans HC.out,qj (World.grownBy.refl _ _) _⟩
 | true =>
  rw [hl] at hless
  clear hl
  go_enter Tryz.func156,Tryz.ntmps156
  go_upto_region 15 with fail
  go_quiet ((go_at_call 113; exact Calls.quiet_of_same (hless _)))
  have hcb : CB (w.drewN nq) sb s := (below_drewN (Below.refl w.heap.size w) _).block sb (Array.getElem?_eq_some_iff.1 HC.out).1 |>.trans HC.out
  have q0 : (w.drewN nq).cell? ⟨sb,0,none⟩ = some (.int .i64 (s : Int)) := qb hcb 0
  have z0 : (w.drewN nq).frozen? ⟨sb,0,none⟩ = false := frozen_of_row _ sb 0 _ _ hcb
  have wS : IntKind.i64.wrap ((s : Int) + 1) = ((s + 1 : Nat) : Int) := by rw [IntKind.wrap_i64]; omega
  have HC2 : Hid (CB ((w.drewN nq).setCell ⟨sb,0,none⟩ (.int .i64 ((s + 1 : Nat) : Int))) sb (s + 1)) := by
   show CB _ _ _
   unfold CB
   rw [heap_setCell_same _ sb 0 _ _ _ hcb]; rfl
  have HG2 : Hid (w.grownBy ((w.drewN nq).setCell ⟨sb,0,none⟩ (.int .i64 ((s + 1 : Nat) : Int))) (some sb)) := qk (qj (World.grownBy.refl _ _) _) _
  obtain ⟨S1,hS1⟩ : ∃ S1,s + 1 = S1 := ⟨_,rfl⟩
  rw [hS1] at wS HC2 HG2
  have HS1 : Hid (s + 1 = S1) := hS1
  clear hcb c1 c2 hS1
  have eS : (s : Int) + 1 = (S1 : Int) := by have := HS1.out; omega
  go_wp2
  go_ret2
  exact ⟨y,x,S1,rfl,Or.inr ⟨rfl,rfl⟩,by have := HS1.out; omega,HC2.out,HG2.out⟩
theorem q2s (g c x y z sb s : Nat) (d : Array Int) (t : List Int) (w : World) (h : SoAt w g d t) (hc : CB w sb s) (hx : x < d.size) (hy : y < d.size) (hz : z < d.size) (hs : s ≤ 100) :
  Calls Tryz.prog 141 #[.slice (some ⟨g,0,none⟩) d.size c,.int .i64 (x : Int),.int .i64 (y : Int),.int .i64 (z : Int),.pointer (some ⟨sb,0,none⟩)] w fun e w' =>
   ∃ m s' : Nat,e = .returned (.int .i64 (m : Int)) ∧ (m = x ∨ m = y ∨ m = z) ∧ s' ≤ s + 3 ∧ CB w' sb s' ∧ w.grownBy w' (some sb) := by
 have hne := hc.ne h
 have j1 := q2u g c x y sb s d t w h hc hx hy (by omega)
 have HS : Hid _ := h
 go_enter Tryz.func141,Tryz.ntmps141
 go_wp2_with fail
 refine j1.mono ?_
 rintro e w1 ⟨x1,y1,s1,rfl,hp1,hs1,hc1,hg1⟩
 have j2 := q2u g c y1 z sb s1 d t w1 (SoAt.grown HS.out hg1 hne) hc1 (by omega) hz (by omega)
 clear j1
 go_wp2_with fail
 refine j2.mono ?_
 rintro e w2 ⟨y2,z2,s2,rfl,hp2,hs2,hc2,hg2⟩
 have hg12 := qz hg1 hg2
 have j3 := q2u g c x1 y2 sb s2 d t w2 (SoAt.grown HS.out hg12 hne) hc2 (by omega) (by omega) (by omega)
 clear j2
 go_wp2_with fail
 refine j3.mono ?_
 rintro e w3 ⟨x3,y3,s3,rfl,hp3,hs3,hc3,hg3⟩
 have HF : Hid (CB w3 sb s3 ∧ w.grownBy w3 (some sb) ∧ (y3 = x ∨ y3 = y ∨ y3 = z) ∧ s3 ≤ s + 3) := ⟨hc3,qz hg12 hg3,by omega,by omega⟩
 clear j3 hc1 hc2 hc3 hg1 hg2 hg3 hg12 hp1 hp2 hp3 hs1 hs2 hs3
 go_wp2
 go_ret
 exact ⟨y3,s3,rfl,HF.out.2.2.1,HF.out.2.2.2,HF.out.1,HF.out.2.1⟩
theorem q1S (g c x sb s : Nat) (d : Array Int) (t : List Int) (w : World) (h : SoAt w g d t) (hc : CB w sb s) (h1 : 1 ≤ x) (hx : x + 1 < d.size) (hs : s ≤ 100) (hn : d.size ≤ 1000000) :
  Calls Tryz.prog 140 #[.slice (some ⟨g,0,none⟩) d.size c,.int .i64 (x : Int),.pointer (some ⟨sb,0,none⟩)] w fun e w' =>
   ∃ m s' : Nat,e = .returned (.int .i64 (m : Int)) ∧ x - 1 ≤ m ∧ m ≤ x + 1 ∧ s' ≤ s + 3 ∧ CB w' sb s' ∧ w.grownBy w' (some sb) := by
 obtain ⟨x0,hx0⟩ : ∃ x0,x0 = x - 1 := ⟨_,rfl⟩
 obtain ⟨x1,hx1⟩ : ∃ x1,x1 = x + 1 := ⟨_,rfl⟩
 have j1 := q2s g c x0 x x1 sb s d t w h hc (by omega) (by omega) (by omega) hs
 have w0 : IntKind.i64.wrap ((x : Int) - 1) = (x0 : Int) := by rw [IntKind.wrap_i64]; omega
 have e0 : (x : Int) - 1 = (x0 : Int) := by omega
 have w1 : IntKind.i64.wrap ((x : Int) + 1) = (x1 : Int) := by rw [IntKind.wrap_i64]; omega
 have e1 : (x : Int) + 1 = (x1 : Int) := by omega
 have HX : Hid (x0 = x - 1 ∧ x1 = x + 1) := ⟨hx0,hx1⟩
 clear h hc hx0 hx1
 go_enter Tryz.func140,Tryz.ntmps140
 go_wp2_with fail
 refine j1.mono ?_
 rintro e w2 ⟨m,s',rfl,hm,hs',hc',hg'⟩
 have HF : Hid (CB w2 sb s' ∧ w.grownBy w2 (some sb) ∧ x - 1 ≤ m ∧ m ≤ x + 1) := ⟨hc',hg',by have := HX.out; omega,by have := HX.out; omega⟩
 clear j1 hc' hg' hm
 go_wp2
 go_ret
 exact ⟨m,s',rfl,HF.out.2.2.1,HF.out.2.2.2,hs',HF.out.1,HF.out.2.1⟩
theorem qb3 {w w' : World} {o : Obj} (h : (w.alloc o).grownBy w' (some w.heap.size)) : w.grownBy w' none := by
 have hb := qd w o
 exact ⟨h.os.trans hb.os,h.tape.trans hb.tape,h.output.trans hb.output,Nat.le_trans hb.size h.size,fun j hj _ => (h.block j (Nat.lt_of_lt_of_le hj hb.size) (fun e => by injection e with e; omega)).trans (hb.block j hj)⟩
theorem SoAt.grown0 {w w' : World} {g : Nat} {d : Array Int} {t : List Int} (h : SoAt w g d t) (hg : w.grownBy w' none) : SoAt w' g d t := (hg.block g h.lt (fun e => by cases e)).trans h
theorem q6E (g c a b : Nat) (d : Array Int) (t : List Int) (w : World) (h : SoAt w g d t) (hab : a + 12 < b) (hb : b ≤ d.size) (hn : d.size ≤ 1000000) :
  Calls Tryz.prog 110 #[.slice (some ⟨g,0,none⟩) d.size c,.int .i64 (a : Int),.int .i64 (b : Int)] w fun e w' =>
   ∃ m k : Nat,e = .returned (.tuple #[.int .i64 (m : Int),.int .i64 (k : Int)]) ∧ a ≤ m ∧ m < b ∧ k ≤ 2 ∧ SoAt w' g d t ∧ w.grownBy w' none := by
 obtain ⟨L,hL⟩ : ∃ L,L = b - a := ⟨_,rfl⟩
 obtain ⟨T,hT⟩ : ∃ T,T = L / 4 := ⟨_,rfl⟩
 obtain ⟨T2,hT2⟩ : ∃ T2,T2 = T * 2 := ⟨_,rfl⟩
 obtain ⟨T3,hT3⟩ : ∃ T3,T3 = T * 3 := ⟨_,rfl⟩
 obtain ⟨I,hI⟩ : ∃ I,I = a + T := ⟨_,rfl⟩
 obtain ⟨J,hJ⟩ : ∃ J,J = a + T2 := ⟨_,rfl⟩
 obtain ⟨K,hK⟩ : ∃ K,K = a + T3 := ⟨_,rfl⟩
 have wL : IntKind.i64.wrap ((b : Int) - (a : Int)) = (L : Int) := by rw [IntKind.wrap_i64]; omega
 have eL : (b : Int) - (a : Int) = (L : Int) := by omega
 have tT : ((L : Int)).tdiv 4 = (T : Int) := by rw [Int.tdiv_eq_ediv_of_nonneg (by omega)]; omega
 have wT2 : IntKind.i64.wrap ((T : Int) * 2) = (T2 : Int) := by rw [IntKind.wrap_i64]; omega
 have eT2 : (T : Int) * 2 = (T2 : Int) := by omega
 have wT3 : IntKind.i64.wrap ((T : Int) * 3) = (T3 : Int) := by rw [IntKind.wrap_i64]; omega
 have eT3 : (T : Int) * 3 = (T3 : Int) := by omega
 have wI : IntKind.i64.wrap ((a : Int) + (T : Int)) = (I : Int) := by rw [IntKind.wrap_i64]; omega
 have eI : (a : Int) + (T : Int) = (I : Int) := by omega
 have wJ : IntKind.i64.wrap ((a : Int) + (T2 : Int)) = (J : Int) := by rw [IntKind.wrap_i64]; omega
 have eJ : (a : Int) + (T2 : Int) = (J : Int) := by omega
 have wK : IntKind.i64.wrap ((a : Int) + (T3 : Int)) = (K : Int) := by rw [IntKind.wrap_i64]; omega
 have eK : (a : Int) + (T3 : Int) = (K : Int) := by omega
 have h8 : ((8 : Int) ≤ (L : Int)) := by omega
 have HIJ : Hid (a ≤ I ∧ a ≤ J ∧ a ≤ K ∧ K + 1 < b ∧ J + 1 < b ∧ I + 1 < b ∧ (50 ≤ L → a + 1 ≤ I ∧ a + 1 ≤ J ∧ a + 1 ≤ K)) := by
  refine ⟨by omega,by omega,by omega,by omega,by omega,by omega,fun _ => ⟨by omega,by omega,by omega⟩⟩
 have hb1 := qd w (.cells #[.int .i64 0] 3)
 have hs1 : SoAt (w.alloc (.cells #[.int .i64 0] 3)) g d t := (hb1.block g h.lt).trans h
 have hc1 : CB (w.alloc (.cells #[.int .i64 0] 3)) w.heap.size 0 := (MapKept.heap_alloc w _).1
 have hne := hc1.ne hs1
 have HS0 : Hid _ := h
 have HF : Hid (∀ (w' : World) (m k : Nat),(w.alloc (.cells #[.int .i64 0] 3)).grownBy w' (some w.heap.size) → a ≤ m → m < b → k ≤ 2 → ∃ m' k' : Nat,Ending.returned (.tuple #[.int .i64 (m : Int),.int .i64 (k : Int)]) = .returned (.tuple #[.int .i64 (m' : Int),.int .i64 (k' : Int)]) ∧ a ≤ m' ∧ m' < b ∧ k' ≤ 2 ∧ SoAt w' g d t ∧ w.grownBy w' none) := fun w' m k hg h1 h2 h3 => ⟨m,k,rfl,h1,h2,h3,h.grown0 (qb3 hg),qb3 hg⟩
 clear hL hT hT2 hT3 hI hJ hK
 have HIJ1 := HIJ.out
 by_cases h50 : 50 ≤ L
 ·have h50' : ((50 : Int) ≤ (L : Int)) := by omega
  have j1 := q1S g c I w.heap.size 0 d t _ hs1 hc1 (by omega) (by omega) (by omega) hn
  have HS1 : Hid (SoAt _ g d t) := hs1
  clear hs1 hc1 hb1 h
  go_enter Tryz.func110,Tryz.ntmps110
  go_wp2_with fail
  generalize w.alloc (.cells #[.int .i64 0] 3) = w1 at *
  refine j1.mono ?_
  rintro e w2 ⟨m2,s2,rfl,p2,q2,hs2,hc2,hg2⟩
  have j2 := q1S g c J w.heap.size s2 d t w2 (SoAt.grown HS1.out hg2 hne) hc2 (by omega) (by omega) (by omega) hn
  clear j1
  go_wp2_with fail
  refine j2.mono ?_
  rintro e w3 ⟨m3,s3,rfl,p3,q3,hs3,hc3,hg3⟩
  have hg23 := qz hg2 hg3
  have j3 := q1S g c K w.heap.size s3 d t w3 (SoAt.grown HS1.out hg23 hne) hc3 (by omega) (by omega) (by omega) hn
  clear j2
  go_wp2_with fail
  refine j3.mono ?_
  rintro e w4 ⟨m4,s4,rfl,p4,q4,hs4,hc4,hg4⟩
  have hg24 := qz hg23 hg4
  have j4 := q2s g c m2 m3 m4 w.heap.size s4 d t w4 (SoAt.grown HS1.out hg24 hne) hc4 (by omega) (by omega) (by omega) (by omega)
  clear j3
  go_wp2_with fail
  refine j4.mono ?_
  rintro e w5 ⟨m5,s5,rfl,p5,hs5,hc5,hg5⟩
  have HZ : Hid (CB w5 w.heap.size s5 ∧ w1.grownBy w5 (some w.heap.size) ∧ a ≤ m5 ∧ m5 < b) := ⟨hc5,qz hg24 hg5,by omega,by omega⟩
  clear j4 hc2 hc3 hc4 hc5 hg2 hg3 hg4 hg5 hg23 hg24 p2 p3 p4 p5 q2 q3 q4
  have q0 : w5.cell? ⟨w.heap.size,0,none⟩ = some (.int .i64 (s5 : Int)) := qb HZ.out.1 0
  by_cases z0 : s5 = 0
  ·obtain rfl := z0
   go_wp2
   go_ret2
   exact HF.out w5 m5 1 HZ.out.2.1 HZ.out.2.2.1 HZ.out.2.2.2 (by omega)
  ·have z0' : ((s5 : Int) == 0) = false := by rw [beq_eq_false_iff_ne]; omega
   by_cases z1 : s5 = 12
   ·obtain rfl := z1
    go_wp2
    go_ret2
    exact HF.out w5 m5 2 HZ.out.2.1 HZ.out.2.2.1 HZ.out.2.2.2 (by omega)
   ·have z1' : ((s5 : Int) == 12) = false := by rw [beq_eq_false_iff_ne]; omega
    go_wp2
    go_ret2
    exact HF.out w5 m5 0 HZ.out.2.1 HZ.out.2.2.1 HZ.out.2.2.2 (by omega)
 ·have h50' : ¬ ((50 : Int) ≤ (L : Int)) := by omega
  have j4 := q2s g c I J K w.heap.size 0 d t _ hs1 hc1 (by omega) (by omega) (by omega) (by omega)
  clear hs1 hc1 hb1 h
  go_enter Tryz.func110,Tryz.ntmps110
  go_wp2_with fail
  generalize w.alloc (.cells #[.int .i64 0] 3) = w1 at *
  refine j4.mono ?_
  rintro e w5 ⟨m5,s5,rfl,p5,hs5,hc5,hg5⟩
  have HZ : Hid (CB w5 w.heap.size s5 ∧ w1.grownBy w5 (some w.heap.size) ∧ a ≤ m5 ∧ m5 < b) := ⟨hc5,hg5,by omega,by omega⟩
  clear j4 hc5 hg5 p5
  have q0 : w5.cell? ⟨w.heap.size,0,none⟩ = some (.int .i64 (s5 : Int)) := qb HZ.out.1 0
  by_cases z0 : s5 = 0
  ·obtain rfl := z0
   go_wp2
   go_ret2
   exact HF.out w5 m5 1 HZ.out.2.1 HZ.out.2.2.1 HZ.out.2.2.2 (by omega)
  ·have z0' : ((s5 : Int) == 0) = false := by rw [beq_eq_false_iff_ne]; omega
   by_cases z1 : s5 = 12
   ·obtain rfl := z1
    go_wp2
    go_ret2
    exact HF.out w5 m5 2 HZ.out.2.1 HZ.out.2.2.1 HZ.out.2.2.2 (by omega)
   ·have z1' : ((s5 : Int) == 12) = false := by rw [beq_eq_false_iff_ne]; omega
    go_wp2
    go_ret2
    exact HF.out w5 m5 0 HZ.out.2.1 HZ.out.2.2.1 HZ.out.2.2.2 (by omega)
def dnD (a i : Nat) (d : Array Int) : Array Int := if i - a ≥ 2 then Go.Sort.shiftDown lt64 (i - 1) d else d
def upD (b i : Nat) (d : Array Int) : Array Int := if b - i ≥ 2 then Go.Sort.shiftUp lt64 b (i + 1) d else d
theorem qdX (a b s i : Nat) (d : Array Int) : Go.Sort.partialIns lt64 a b (s + 1) i d = if Go.Sort.scanSorted lt64 d b i = b then (d,true) else if b - a < 50 then (d,false) else Go.Sort.partialIns lt64 a b s (Go.Sort.scanSorted lt64 d b i) (upD b (Go.Sort.scanSorted lt64 d b i) (dnD a (Go.Sort.scanSorted lt64 d b i) (swp d (Go.Sort.scanSorted lt64 d b i) (Go.Sort.scanSorted lt64 d b i - 1)))) := rfl
theorem qeY {b i : Nat} {d : Array Int} (h : i < b) (hl : lt64 d[i]! d[i - 1]! = false) : Go.Sort.scanSorted lt64 d b i = Go.Sort.scanSorted lt64 d b (i + 1) := by
 conv => lhs; unfold Go.Sort.scanSorted
 rw [if_pos]
 simp [h,hl]
theorem qgb {b i : Nat} {d : Array Int} (h : i < b → lt64 d[i]! d[i - 1]! = true) : Go.Sort.scanSorted lt64 d b i = i := by
 unfold Go.Sort.scanSorted
 rw [if_neg]
 intro hc
 rw [Bool.and_eq_true,decide_eq_true_eq] at hc
 rw [h hc.1] at hc
 simp at hc
theorem dn_no {j : Nat} {d : Array Int} (h : lt64 d[j + 1]! d[j]! = false) : Go.Sort.shiftDown lt64 (j + 1) d = d := by
 unfold Go.Sort.shiftDown
 rw [h]; rfl
theorem qgm {j : Nat} {d : Array Int} (h : lt64 d[j + 1]! d[j]! = true) : Go.Sort.shiftDown lt64 (j + 1) d = Go.Sort.shiftDown lt64 j (swp d (j + 1) j) := by
 conv => lhs; unfold Go.Sort.shiftDown
 rw [h]; rfl
theorem qbw {b j : Nat} {d : Array Int} (h : ¬ j < b) : Go.Sort.shiftUp lt64 b j d = d := by
 unfold Go.Sort.shiftUp
 rw [if_neg h]
theorem up_no {b j : Nat} {d : Array Int} (hj : j < b) (h : lt64 d[j]! d[j - 1]! = false) : Go.Sort.shiftUp lt64 b j d = d := by
 unfold Go.Sort.shiftUp
 rw [if_pos hj,h]; rfl
theorem qbx {b j : Nat} {d : Array Int} (hj : j < b) (h : lt64 d[j]! d[j - 1]! = true) : Go.Sort.shiftUp lt64 b j d = Go.Sort.shiftUp lt64 b (j + 1) (swp d j (j - 1)) := by
 conv => lhs; unfold Go.Sort.shiftUp
 rw [if_pos hj,h]; rfl
theorem q9O (g c a b : Nat) (d : Array Int) (t : List Int) (w : World) (h : SoAt w g d t) (hab : a < b) (hb : b ≤ d.size) (hn : d.size ≤ 1000000) :
  Calls Tryz.prog 112 #[.slice (some ⟨g,0,none⟩) d.size c,.int .i64 (a : Int),.int .i64 (b : Int)] w fun e w' => e = .returned (.bool (Go.Sort.partialInsertionSort lt64 d a b).2) ∧ SoAt w' g (Go.Sort.partialInsertionSort lt64 d a b).1 t ∧ w.grownBy w' (some g) := by
 obtain ⟨N,hN⟩ : ∃ N,d.size = N := ⟨_,rfl⟩
 obtain ⟨R,hR⟩ : ∃ R,Go.Sort.partialInsertionSort lt64 d a b = R := ⟨_,rfl⟩
 have HI0 : Hid (Go.Sort.partialIns lt64 a b 5 (a + 1) d = R) := hR
 have HS0 : Hid (SoAt w g d t) := h
 have HD0 : Hid (d.size = N) := hN
 have HG0 : Hid (w.grownBy w (some g)) := World.grownBy.refl _ _
 rw [hN] at hb hn ⊢
 rw [hR]
 obtain ⟨R1,R2⟩ := R
 dsimp only
 clear h hN hR
 go_enter Tryz.func112,Tryz.ntmps112
 go_wp2
 go_loopw [7,8] (fun iv kv wr => ∃ i k : Nat,a + 1 ≤ i ∧ i ≤ b ∧ k ≤ 5 ∧ iv = .int .i64 (i : Int) ∧ kv = .int .i64 (k : Int) ∧ ∃ dk : Array Int,Hid (dk.size = N) ∧ Hid (SoAt wr g dk t) ∧ Hid (Go.Sort.partialIns lt64 a b (5 - k) i dk = (R1,R2)) ∧ Hid (w.grownBy wr (some g))) (fun _ kv _ => 5 - (intOf kv).toNat)
 case atStart => exact ⟨a + 1,0,Nat.le_refl _,by omega,by omega,by go_num,rfl,d,HD0,HS0,HI0,HG0⟩
 case round =>
  obtain ⟨i0,k,hi1,hi2,hk,rfl,rfl,dk,HD,HS,HI,HG⟩ := hrel
  clear HD0 HS0 HI0 HG0
  by_cases hk5 : k < 5
  ·have hk5' : (k : Int) < 5 := by omega
   obtain ⟨I,hI⟩ : ∃ I,Go.Sort.scanSorted lt64 dk b i0 = I := ⟨_,rfl⟩
   have HST : Hid ((if I = b then (dk,true) else if b - a < 50 then (dk,false) else Go.Sort.partialIns lt64 a b (5 - (k + 1)) I (upD b I (dnD a I (swp dk I (I - 1))))) = (R1,R2)) := by
    have h0 := HI.out
    rw [show 5 - k = (5 - (k + 1)) + 1 by omega,qdX,hI] at h0
    exact h0
   have HSC : Hid (Go.Sort.scanSorted lt64 dk b i0 = I) := hI
   clear hI HI
   go_wp2
   go_loopw [7] (fun sv wr => ∃ i : Nat,i0 ≤ i ∧ i ≤ b ∧ sv = .int .i64 (i : Int) ∧ Hid (Go.Sort.scanSorted lt64 dk b i = I) ∧ Hid (SoAt wr g dk t) ∧ Hid (w.grownBy wr (some g))) (fun sv _ => N + 1 - (intOf sv).toNat)
   case atStart => exact ⟨i0,Nat.le_refl _,hi2,rfl,HSC,HS,HG⟩
   case round =>
    obtain ⟨i,ha1,ha2,rfl,HSC2,HSr,HGr⟩ := hrel
    clear HSC HS HG
    obtain ⟨im,him⟩ : ∃ im,im = i - 1 := ⟨_,rfl⟩
    have wim : IntKind.i64.wrap ((i : Int) - 1) = (im : Int) := by rw [IntKind.wrap_i64]; omega
    have eim : (i : Int) - 1 = (im : Int) := by omega
    have HIM : Hid (im = i - 1) := him
    have hxm : im < i := by omega
    clear him
    obtain ⟨q,hq⟩ : ∃ q : Bool,q = (decide (i < b) && !lt64 dk[i]! dk[im]!) := ⟨_,rfl⟩
    have HQ : Hid (q = (decide (i < b) && !lt64 dk[i]! dk[im]!)) := hq
    clear hq
    go_upto_region 15 with fail
    go_cut [32] (fun cv wx => cv = .bool q ∧ Hid (SoAt wx g dk t) ∧ Hid (w.grownBy wx (some g)))
    case first =>
     by_cases hij : i < b
     ·have hd : decide ((i : Int) < (b : Int)) = true := decide_eq_true (by omega)
      have j1 := fun w' => qg g N c i w' (by omega)
      have j2 := fun w' => qg g N c im w' (by omega)
      have hsw : SoAt wr g dk t := HSr.out
      have c3 := hsw.cell (i := i) (by rw [HD.out]; omega)
      have c4 := hsw.cell (i := im) (by rw [HD.out]; omega)
      have hless := fun w' => qo dk[i]! dk[im]! w'
      have HQ2 : Hid (q = !(lt64 dk[i]! dk[im]!)) := by
       show _ = _
       rw [HQ.out,decide_eq_true hij]; rfl
      clear hsw HQ
      generalize lt64 dk[i]! dk[im]! = lv at *
      generalize dk[i]! = xv at *
      generalize dk[im]! = xa at *
      obtain rfl := HQ2.out
      go_quiet ((go_at_call 113; exact Calls.quiet_of_same (hless _)))
      go_wp2
      go_meet
      case rel => exact ⟨rfl,SoAt.drewN HSr.out _,qj HGr.out _⟩
     ·have hd : decide ((i : Int) < (b : Int)) = false := decide_eq_false (by omega)
      have HQ2 : Hid (q = false) := by
       show _ = _
       rw [HQ.out,decide_eq_false hij]; rfl
      clear HQ
      obtain rfl := HQ2.out
      go_quiet (fail)
      go_wp2
      go_meet
      case rel => exact ⟨rfl,SoAt.drewN HSr.out _,qj HGr.out _⟩
    case rest =>
     obtain ⟨rfl,HS5,HG5⟩ := hcut
     clear HSr HGr
     cases q with
     | true =>
      have hq := HQ.out.symm
      rw [Bool.and_eq_true,decide_eq_true_eq] at hq
      have HPX : Hid (Go.Sort.scanSorted lt64 dk b (i + 1) = I) := by
       have h1 := HSC2.out
       rw [qeY hq.1 (by rw [← HIM.out]; simpa using hq.2)] at h1
       exact h1
      clear HQ HSC2
      go_wp2
      go_roundw
      case rel => exact ⟨i + 1,by omega,by omega,by go_num,HPX,HS5,HG5⟩
      case measure => simp [intOf]; omega
     | false =>
      have HII : Hid (i = I) := by
       have h1 := HSC2.out
       rw [qgb (fun h => by
        have := HQ.out
        rw [decide_eq_true h] at this
        rw [← HIM.out]
        simpa using this.symm)] at h1
       exact h1
      clear HQ HSC2
      obtain rfl := HII.out
      clear HII
      generalize wc = w5 at *
      by_cases hib : i = b
      ·have hib' : ((i : Int) == (b : Int)) = true := by rw [beq_iff_eq]; omega
       have HR : Hid (dk = R1 ∧ true = R2) := by
        have h0 := HST.out
        rw [if_pos hib] at h0
        injection h0 with h1 h2
        exact ⟨h1,h2⟩
       clear HST hib
       go_wp2
       go_ret
       obtain ⟨rfl,rfl⟩ := HR.out
       exact ⟨rfl,HS5.out,HG5.out⟩
      ·have hib' : ((i : Int) == (b : Int)) = false := by rw [beq_eq_false_iff_ne]; omega
       obtain ⟨L,hL⟩ : ∃ L,L = b - a := ⟨_,rfl⟩
       have wL : IntKind.i64.wrap ((b : Int) - (a : Int)) = (L : Int) := by rw [IntKind.wrap_i64]; omega
       have eL : (b : Int) - (a : Int) = (L : Int) := by omega
       by_cases h50 : L < 50
       ·have h50' : (L : Int) < 50 := by omega
        have HR : Hid (dk = R1 ∧ false = R2) := by
         have h0 := HST.out
         rw [if_neg hib,if_pos (by omega)] at h0
         injection h0 with h1 h2
         exact ⟨h1,h2⟩
        clear HST hL
        go_wp2
        go_ret
        obtain ⟨rfl,rfl⟩ := HR.out
        exact ⟨rfl,HS5.out,HG5.out⟩
       ·have h50' : ¬ (L : Int) < 50 := by omega
        have HST2 : Hid (Go.Sort.partialIns lt64 a b (5 - (k + 1)) i (upD b i (dnD a i (swp dk i im))) = (R1,R2)) := by
         have h0 := HST.out
         rw [if_neg hib,if_neg (by omega),← HIM.out] at h0
         exact h0
        clear HST hL
        go_wp2
        have hi1 := fun w' => qg g N c i w' (by omega)
        have hi2 := fun w' => qg g N c im w' (by omega)
        have hsw : SoAt w5 g dk t := HS5.out
        have c3 := hsw.cell (i := i) (by rw [HD.out]; omega)
        have c4 := hsw.cell (i := im) (by rw [HD.out]; omega)
        have f3 := hsw.fz i
        have f4 := hsw.fz im
        have hswb : SoAt (w5.setCell ⟨g,i,none⟩ (.int .u64 dk[im]!)) g (dk.setIfInBounds i dk[im]!) t := hsw.set (by rw [HD.out]; omega) _
        have f5 := hswb.fz im
        have c5 := hswb.cell (i := im) (by rw [Array.size_setIfInBounds,HD.out]; omega)
        have HSa6 : Hid (SoAt ((w5.setCell ⟨g,i,none⟩ (.int .u64 dk[im]!)).setCell ⟨g,im,none⟩ (.int .u64 dk[i]!)) g (swp dk i im) t) := hsw.swap (by rw [HD.out]; omega) (by rw [HD.out]; omega)
        have HGa6 : Hid (w.grownBy ((w5.setCell ⟨g,i,none⟩ (.int .u64 dk[im]!)).setCell ⟨g,im,none⟩ (.int .u64 dk[i]!)) (some g)) := qk (qk HG5.out _) _
        have HD6 : Hid ((swp dk i im).size = N) := by show _ = _; rw [Go.Sort.size_swp]; exact HD.out
        clear hsw hswb
        generalize (dk.setIfInBounds i dk[im]!)[im]! = ysw at *
        generalize dk[i]! = xi at *
        generalize dk[im]! = xj at *
        go_upto_region 15 with fail
        go_region
        all_goals
         have HS6 : Hid (SoAt ((w5.setCell ⟨g,i,none⟩ (.int .u64 xj)).setCell ⟨g,im,none⟩ (.int .u64 xi)).drew g (swp dk i im) t) := SoAt.drew HSa6.out
         have HG6 : Hid (w.grownBy ((w5.setCell ⟨g,i,none⟩ (.int .u64 xj)).setCell ⟨g,im,none⟩ (.int .u64 xi)).drew (some g)) := qu HGa6.out
         clear HSa6 HGa6 c3 c4 f3 f4 f5 c5 hi1 hi2
         generalize ((w5.setCell ⟨g,i,none⟩ (.int .u64 xj)).setCell ⟨g,im,none⟩ (.int .u64 xi)).drew = w6 at *
         generalize swp dk i im = d6 at *
         obtain ⟨Ld,hLd⟩ : ∃ Ld,Ld = i - a := ⟨_,rfl⟩
         have wLd : IntKind.i64.wrap ((i : Int) - (a : Int)) = (Ld : Int) := by rw [IntKind.wrap_i64]; omega
         have eLd : (i : Int) - (a : Int) = (Ld : Int) := by omega
         by_cases hd2 : 2 ≤ Ld
         ·have hd2' : (2 : Int) ≤ (Ld : Int) := by omega
          have HDN : Hid (Go.Sort.partialIns lt64 a b (5 - (k + 1)) i (upD b i (Go.Sort.shiftDown lt64 im d6)) = (R1,R2)) := by
           have h0 := HST2.out
           unfold dnD at h0
           rw [if_pos (by omega),← HIM.out] at h0
           exact h0
          clear HST2 hLd
          go_wp2
          clear wLd eLd
          go_loopw [9] (fun sv wr => ∃ j : Nat,j ≤ im ∧ sv = .int .i64 (j : Int) ∧ ∃ dj : Array Int,Hid (dj.size = N) ∧ Hid (SoAt wr g dj t) ∧ Hid (Go.Sort.partialIns lt64 a b (5 - (k + 1)) i (upD b i (Go.Sort.shiftDown lt64 j dj)) = (R1,R2)) ∧ Hid (w.grownBy wr (some g))) (fun sv _ => (intOf sv).toNat)
          case atStart => exact ⟨im,Nat.le_refl _,by first | rfl | go_num,d6,HD6,HS6,HDN,HG6⟩
          case round =>
           obtain ⟨j,hj1,rfl,dj,HDj9,HSj9,HTj9,HGj9⟩ := hrel
           clear HD6 HS6 HDN HG6
           by_cases hjc : 1 ≤ j
           ·have hjc' : (1 : Int) ≤ (j : Int) := by omega
            obtain ⟨jm,hjm⟩ : ∃ jm,j = jm + 1 := ⟨j - 1,by omega⟩
            have wjm : IntKind.i64.wrap ((j : Int) - 1) = (jm : Int) := by rw [IntKind.wrap_i64]; omega
            have ejm : (j : Int) - 1 = (jm : Int) := by omega
            have hjl : jm < j := by omega
            have HJM : Hid (j = jm + 1) := hjm
            clear hjm
            have j1 := fun w' => qg g N c j w' (by omega)
            have j2 := fun w' => qg g N c jm w' (by omega)
            have hsw : SoAt wr g dj t := HSj9.out
            have c6 := hsw.cell (i := j) (by rw [HDj9.out]; omega)
            have c7 := hsw.cell (i := jm) (by rw [HDj9.out]; omega)
            have hless := fun w' => qo dj[j]! dj[jm]! w'
            cases hl : lt64 dj[j]! dj[jm]! with
            | false =>
             rw [hl] at hless
             have HT9 : Hid (Go.Sort.partialIns lt64 a b (5 - (k + 1)) i (upD b i dj) = (R1,R2)) := by
              have h0 := HTj9.out
              rw [show j = jm + 1 from HJM.out,dn_no (by rw [← HJM.out]; exact hl)] at h0
              exact h0
             clear hl hsw HTj9
             go_wp2
             go_upto_region 15 with fail
             go_quiet ((go_at_call 113; exact Calls.quiet_of_same (hless _)))
             have HSb9 : Hid (SoAt (wr.drewN nq) g dj t) := SoAt.drewN HSj9.out nq
             have HGb9 : Hid (w.grownBy (wr.drewN nq) (some g)) := qj HGj9.out nq
             clear HSj9 HGj9 hless c6 c7 j1 j2 wjm ejm
             generalize wr.drewN nq = wb9 at *
             obtain ⟨Lu,hLu⟩ : ∃ Lu,Lu = b - i := ⟨_,rfl⟩
             have wLu : IntKind.i64.wrap ((b : Int) - (i : Int)) = (Lu : Int) := by rw [IntKind.wrap_i64]; omega
             have eLu : (b : Int) - (i : Int) = (Lu : Int) := by omega
             by_cases hu2 : 2 ≤ Lu
             ·have hu2' : (2 : Int) ≤ (Lu : Int) := by omega
              have HU11 : Hid (Go.Sort.partialIns lt64 a b (5 - (k + 1)) i (Go.Sort.shiftUp lt64 b (i + 1) dj) = (R1,R2)) := by
               have h0 := HT9.out
               unfold upD at h0
               rw [if_pos (by omega)] at h0
               exact h0
              clear HT9 hLu
              go_wp2
              clear wLu eLu
              go_loopw [10] (fun sv wr => ∃ j : Nat,i + 1 ≤ j ∧ j ≤ b ∧ sv = .int .i64 (j : Int) ∧ ∃ dj : Array Int,Hid (dj.size = N) ∧ Hid (SoAt wr g dj t) ∧ Hid (Go.Sort.partialIns lt64 a b (5 - (k + 1)) i (Go.Sort.shiftUp lt64 b j dj) = (R1,R2)) ∧ Hid (w.grownBy wr (some g))) (fun sv _ => N + 1 - (intOf sv).toNat)
              case atStart => exact ⟨i + 1,Nat.le_refl _,by omega,by first | rfl | go_num,dj,HDj9,HSb9,HU11,HGb9⟩
              case round =>
               obtain ⟨j,hj1,hj2,rfl,dj,HDj11,HSj11,HTj11,HGj11⟩ := hrel
               clear HDj9 HSb9 HU11 HGb9
               by_cases hjc : j < b
               ·have hjc' : (j : Int) < (b : Int) := by omega
                obtain ⟨jm,hjm⟩ : ∃ jm,j = jm + 1 := ⟨j - 1,by omega⟩
                have wjm : IntKind.i64.wrap ((j : Int) - 1) = (jm : Int) := by rw [IntKind.wrap_i64]; omega
                have ejm : (j : Int) - 1 = (jm : Int) := by omega
                have hjl : jm < j := by omega
                have HJM : Hid (j = jm + 1) := hjm
                clear hjm
                have j1 := fun w' => qg g N c j w' (by omega)
                have j2 := fun w' => qg g N c jm w' (by omega)
                have hsw : SoAt wr g dj t := HSj11.out
                have c6 := hsw.cell (i := j) (by rw [HDj11.out]; omega)
                have c7 := hsw.cell (i := jm) (by rw [HDj11.out]; omega)
                have hless := fun w' => qo dj[j]! dj[jm]! w'
                cases hl : lt64 dj[j]! dj[jm]! with
                | false =>
                 rw [hl] at hless
                 have HT11 : Hid (Go.Sort.partialIns lt64 a b (5 - (k + 1)) i dj = (R1,R2)) := by
                  have h0 := HTj11.out
                  rw [up_no hjc (by rw [show j - 1 = jm by have := HJM.out; omega]; exact hl)] at h0
                  exact h0
                 clear hl hsw HTj11
                 go_wp2
                 go_upto_region 15 with fail
                 go_quiet ((go_at_call 113; exact Calls.quiet_of_same (hless _)))
                 have HSb11 : Hid (SoAt (wr.drewN nq) g dj t) := SoAt.drewN HSj11.out nq
                 have HGb11 : Hid (w.grownBy (wr.drewN nq) (some g)) := qj HGj11.out nq
                 clear HSj11 HGj11 hless c6 c7 j1 j2 wjm ejm
                 generalize wr.drewN nq = wb11 at *
                 go_wp2
                 go_roundw
                 case rel => exact ⟨i,k + 1,by omega,by omega,by omega,rfl,by go_num,dj,HDj11,HSb11,HT11,HGb11⟩
                 case measure => simp [intOf]; omega
                | true =>
                 rw [hl] at hless
                 have HT11 : Hid (Go.Sort.partialIns lt64 a b (5 - (k + 1)) i (Go.Sort.shiftUp lt64 b (j + 1) (swp dj j jm)) = (R1,R2)) := by
                  have h0 := HTj11.out
                  rw [qbx hjc (by rw [show j - 1 = jm by have := HJM.out; omega]; exact hl),show j - 1 = jm by have := HJM.out; omega] at h0
                  exact h0
                 clear hl hsw HTj11
                 go_wp2
                 go_upto_region 15 with fail
                 go_quiet ((go_at_call 113; exact Calls.quiet_of_same (hless _)))
                 have HSc11 : Hid (SoAt (wr.drewN nq) g dj t) := SoAt.drewN HSj11.out nq
                 have HGc11 : Hid (w.grownBy (wr.drewN nq) (some g)) := qj HGj11.out nq
                 clear HSj11 HGj11 hless c6 c7 j1 j2
                 generalize wr.drewN nq = wb11 at *
                 go_wp2
                 have hi1 := fun w' => qg g N c j w' (by omega)
                 have hi2 := fun w' => qg g N c jm w' (by omega)
                 have hsw : SoAt wb11 g dj t := HSc11.out
                 have c3 := hsw.cell (i := j) (by rw [HDj11.out]; omega)
                 have c4 := hsw.cell (i := jm) (by rw [HDj11.out]; omega)
                 have f3 := hsw.fz j
                 have f4 := hsw.fz jm
                 have hswb : SoAt (wb11.setCell ⟨g,j,none⟩ (.int .u64 dj[jm]!)) g (dj.setIfInBounds j dj[jm]!) t := hsw.set (by rw [HDj11.out]; omega) _
                 have f5 := hswb.fz jm
                 have c5 := hswb.cell (i := jm) (by rw [Array.size_setIfInBounds,HDj11.out]; omega)
                 have HSa12 : Hid (SoAt ((wb11.setCell ⟨g,j,none⟩ (.int .u64 dj[jm]!)).setCell ⟨g,jm,none⟩ (.int .u64 dj[j]!)) g (swp dj j jm) t) := hsw.swap (by rw [HDj11.out]; omega) (by rw [HDj11.out]; omega)
                 have HGa12 : Hid (w.grownBy ((wb11.setCell ⟨g,j,none⟩ (.int .u64 dj[jm]!)).setCell ⟨g,jm,none⟩ (.int .u64 dj[j]!)) (some g)) := qk (qk HGc11.out _) _
                 have HD12 : Hid ((swp dj j jm).size = N) := by show _ = _; rw [Go.Sort.size_swp]; exact HDj11.out
                 clear hsw hswb
                 generalize (dj.setIfInBounds j dj[jm]!)[jm]! = ysw at *
                 generalize dj[j]! = xi at *
                 generalize dj[jm]! = xj at *
                 go_upto_region 15 with fail
                 go_region
                 all_goals
                  have HS12 : Hid (SoAt ((wb11.setCell ⟨g,j,none⟩ (.int .u64 xj)).setCell ⟨g,jm,none⟩ (.int .u64 xi)).drew g (swp dj j jm) t) := SoAt.drew HSa12.out
                  have HG12 : Hid (w.grownBy ((wb11.setCell ⟨g,j,none⟩ (.int .u64 xj)).setCell ⟨g,jm,none⟩ (.int .u64 xi)).drew (some g)) := qu HGa12.out
                  clear HSa12 HGa12 c3 c4 f3 f4 f5 c5 hi1 hi2
                  generalize ((wb11.setCell ⟨g,j,none⟩ (.int .u64 xj)).setCell ⟨g,jm,none⟩ (.int .u64 xi)).drew = w12 at *
                  generalize swp dj j jm = d12 at *
                  go_wp2
                  go_roundw
                  case rel => exact ⟨j + 1,by omega,by omega,by go_num,d12,HD12,HS12,HT11,HG12⟩
                  case measure => simp [intOf] <;> omega
               ·have hjc' : ¬ (j : Int) < (b : Int) := by omega
                have HT11 : Hid (Go.Sort.partialIns lt64 a b (5 - (k + 1)) i dj = (R1,R2)) := by
                 have h0 := HTj11.out
                 rw [qbw hjc] at h0
                 exact h0
                clear HTj11
                generalize wr = wb11 at *
                go_wp2
                go_roundw
                case rel => exact ⟨i,k + 1,by omega,by omega,by omega,rfl,by go_num,dj,HDj11,HSj11,HT11,HGj11⟩
                case measure => simp [intOf]; omega
             ·have hu2' : ¬ (2 : Int) ≤ (Lu : Int) := by omega
              have HU11 : Hid (Go.Sort.partialIns lt64 a b (5 - (k + 1)) i dj = (R1,R2)) := by
               have h0 := HT9.out
               unfold upD at h0
               rw [if_neg (by omega)] at h0
               exact h0
              clear HT9 hLu
              go_wp2
              go_roundw
              case rel => exact ⟨i,k + 1,by omega,by omega,by omega,rfl,by go_num,dj,HDj9,HSb9,HU11,HGb9⟩
              case measure => simp [intOf]; omega
            | true =>
             rw [hl] at hless
             have HT9 : Hid (Go.Sort.partialIns lt64 a b (5 - (k + 1)) i (upD b i (Go.Sort.shiftDown lt64 jm (swp dj j jm))) = (R1,R2)) := by
              have h0 := HTj9.out
              rw [show Go.Sort.shiftDown lt64 j dj = Go.Sort.shiftDown lt64 jm (swp dj j jm) from by rw [HJM.out]; exact qgm (by rw [← HJM.out]; exact hl)] at h0
              exact h0
             clear hl hsw HTj9
             go_wp2
             go_upto_region 15 with fail
             go_quiet ((go_at_call 113; exact Calls.quiet_of_same (hless _)))
             have HSc9 : Hid (SoAt (wr.drewN nq) g dj t) := SoAt.drewN HSj9.out nq
             have HGc9 : Hid (w.grownBy (wr.drewN nq) (some g)) := qj HGj9.out nq
             clear HSj9 HGj9 hless c6 c7 j1 j2
             generalize wr.drewN nq = wb9 at *
             go_wp2
             have hi1 := fun w' => qg g N c j w' (by omega)
             have hi2 := fun w' => qg g N c jm w' (by omega)
             have hsw : SoAt wb9 g dj t := HSc9.out
             have c3 := hsw.cell (i := j) (by rw [HDj9.out]; omega)
             have c4 := hsw.cell (i := jm) (by rw [HDj9.out]; omega)
             have f3 := hsw.fz j
             have f4 := hsw.fz jm
             have hswb : SoAt (wb9.setCell ⟨g,j,none⟩ (.int .u64 dj[jm]!)) g (dj.setIfInBounds j dj[jm]!) t := hsw.set (by rw [HDj9.out]; omega) _
             have f5 := hswb.fz jm
             have c5 := hswb.cell (i := jm) (by rw [Array.size_setIfInBounds,HDj9.out]; omega)
             have HSa13 : Hid (SoAt ((wb9.setCell ⟨g,j,none⟩ (.int .u64 dj[jm]!)).setCell ⟨g,jm,none⟩ (.int .u64 dj[j]!)) g (swp dj j jm) t) := hsw.swap (by rw [HDj9.out]; omega) (by rw [HDj9.out]; omega)
             have HGa13 : Hid (w.grownBy ((wb9.setCell ⟨g,j,none⟩ (.int .u64 dj[jm]!)).setCell ⟨g,jm,none⟩ (.int .u64 dj[j]!)) (some g)) := qk (qk HGc9.out _) _
             have HD13 : Hid ((swp dj j jm).size = N) := by show _ = _; rw [Go.Sort.size_swp]; exact HDj9.out
             clear hsw hswb
             generalize (dj.setIfInBounds j dj[jm]!)[jm]! = ysw at *
             generalize dj[j]! = xi at *
             generalize dj[jm]! = xj at *
             go_upto_region 15 with fail
             go_region
             all_goals
              have HS13 : Hid (SoAt ((wb9.setCell ⟨g,j,none⟩ (.int .u64 xj)).setCell ⟨g,jm,none⟩ (.int .u64 xi)).drew g (swp dj j jm) t) := SoAt.drew HSa13.out
              have HG13 : Hid (w.grownBy ((wb9.setCell ⟨g,j,none⟩ (.int .u64 xj)).setCell ⟨g,jm,none⟩ (.int .u64 xi)).drew (some g)) := qu HGa13.out
              clear HSa13 HGa13 c3 c4 f3 f4 f5 c5 hi1 hi2
              generalize ((wb9.setCell ⟨g,j,none⟩ (.int .u64 xj)).setCell ⟨g,jm,none⟩ (.int .u64 xi)).drew = w13 at *
              generalize swp dj j jm = d13 at *
              go_wp2
              go_roundw
              case rel => exact ⟨jm,by omega,rfl,d13,HD13,HS13,HT9,HG13⟩
              case measure => simp [intOf] <;> omega
           ·have hjc' : ¬ (1 : Int) ≤ (j : Int) := by omega
            have HT9 : Hid (Go.Sort.partialIns lt64 a b (5 - (k + 1)) i (upD b i dj) = (R1,R2)) := by
             have h0 := HTj9.out
             obtain rfl : j = 0 := by omega
             exact h0
            clear HTj9
            generalize wr = wb9 at *
            obtain ⟨Lu,hLu⟩ : ∃ Lu,Lu = b - i := ⟨_,rfl⟩
            have wLu : IntKind.i64.wrap ((b : Int) - (i : Int)) = (Lu : Int) := by rw [IntKind.wrap_i64]; omega
            have eLu : (b : Int) - (i : Int) = (Lu : Int) := by omega
            by_cases hu2 : 2 ≤ Lu
            ·have hu2' : (2 : Int) ≤ (Lu : Int) := by omega
             have HU14 : Hid (Go.Sort.partialIns lt64 a b (5 - (k + 1)) i (Go.Sort.shiftUp lt64 b (i + 1) dj) = (R1,R2)) := by
              have h0 := HT9.out
              unfold upD at h0
              rw [if_pos (by omega)] at h0
              exact h0
             clear HT9 hLu
             go_wp2
             clear wLu eLu
             go_loopw [10] (fun sv wr => ∃ j : Nat,i + 1 ≤ j ∧ j ≤ b ∧ sv = .int .i64 (j : Int) ∧ ∃ dj : Array Int,Hid (dj.size = N) ∧ Hid (SoAt wr g dj t) ∧ Hid (Go.Sort.partialIns lt64 a b (5 - (k + 1)) i (Go.Sort.shiftUp lt64 b j dj) = (R1,R2)) ∧ Hid (w.grownBy wr (some g))) (fun sv _ => N + 1 - (intOf sv).toNat)
             case atStart => exact ⟨i + 1,Nat.le_refl _,by omega,by first | rfl | go_num,dj,HDj9,HSj9,HU14,HGj9⟩
             case round =>
              obtain ⟨j,hj1,hj2,rfl,dj,HDj14,HSj14,HTj14,HGj14⟩ := hrel
              clear HDj9 HSj9 HU14 HGj9
              by_cases hjc : j < b
              ·have hjc' : (j : Int) < (b : Int) := by omega
               obtain ⟨jm,hjm⟩ : ∃ jm,j = jm + 1 := ⟨j - 1,by omega⟩
               have wjm : IntKind.i64.wrap ((j : Int) - 1) = (jm : Int) := by rw [IntKind.wrap_i64]; omega
               have ejm : (j : Int) - 1 = (jm : Int) := by omega
               have hjl : jm < j := by omega
               have HJM : Hid (j = jm + 1) := hjm
               clear hjm
               have j1 := fun w' => qg g N c j w' (by omega)
               have j2 := fun w' => qg g N c jm w' (by omega)
               have hsw : SoAt wr g dj t := HSj14.out
               have c6 := hsw.cell (i := j) (by rw [HDj14.out]; omega)
               have c7 := hsw.cell (i := jm) (by rw [HDj14.out]; omega)
               have hless := fun w' => qo dj[j]! dj[jm]! w'
               cases hl : lt64 dj[j]! dj[jm]! with
               | false =>
                rw [hl] at hless
                have HT14 : Hid (Go.Sort.partialIns lt64 a b (5 - (k + 1)) i dj = (R1,R2)) := by
                 have h0 := HTj14.out
                 rw [up_no hjc (by rw [show j - 1 = jm by have := HJM.out; omega]; exact hl)] at h0
                 exact h0
                clear hl hsw HTj14
                go_wp2
                go_upto_region 15 with fail
                go_quiet ((go_at_call 113; exact Calls.quiet_of_same (hless _)))
                have HSb14 : Hid (SoAt (wr.drewN nq) g dj t) := SoAt.drewN HSj14.out nq
                have HGb14 : Hid (w.grownBy (wr.drewN nq) (some g)) := qj HGj14.out nq
                clear HSj14 HGj14 hless c6 c7 j1 j2 wjm ejm
                generalize wr.drewN nq = wb14 at *
                go_wp2
                go_roundw
                case rel => exact ⟨i,k + 1,by omega,by omega,by omega,rfl,by go_num,dj,HDj14,HSb14,HT14,HGb14⟩
                case measure => simp [intOf]; omega
               | true =>
                rw [hl] at hless
                have HT14 : Hid (Go.Sort.partialIns lt64 a b (5 - (k + 1)) i (Go.Sort.shiftUp lt64 b (j + 1) (swp dj j jm)) = (R1,R2)) := by
                 have h0 := HTj14.out
                 rw [qbx hjc (by rw [show j - 1 = jm by have := HJM.out; omega]; exact hl),show j - 1 = jm by have := HJM.out; omega] at h0
                 exact h0
                clear hl hsw HTj14
                go_wp2
                go_upto_region 15 with fail
                go_quiet ((go_at_call 113; exact Calls.quiet_of_same (hless _)))
                have HSc14 : Hid (SoAt (wr.drewN nq) g dj t) := SoAt.drewN HSj14.out nq
                have HGc14 : Hid (w.grownBy (wr.drewN nq) (some g)) := qj HGj14.out nq
                clear HSj14 HGj14 hless c6 c7 j1 j2
                generalize wr.drewN nq = wb14 at *
                go_wp2
                have hi1 := fun w' => qg g N c j w' (by omega)
                have hi2 := fun w' => qg g N c jm w' (by omega)
                have hsw : SoAt wb14 g dj t := HSc14.out
                have c3 := hsw.cell (i := j) (by rw [HDj14.out]; omega)
                have c4 := hsw.cell (i := jm) (by rw [HDj14.out]; omega)
                have f3 := hsw.fz j
                have f4 := hsw.fz jm
                have hswb : SoAt (wb14.setCell ⟨g,j,none⟩ (.int .u64 dj[jm]!)) g (dj.setIfInBounds j dj[jm]!) t := hsw.set (by rw [HDj14.out]; omega) _
                have f5 := hswb.fz jm
                have c5 := hswb.cell (i := jm) (by rw [Array.size_setIfInBounds,HDj14.out]; omega)
                have HSa15 : Hid (SoAt ((wb14.setCell ⟨g,j,none⟩ (.int .u64 dj[jm]!)).setCell ⟨g,jm,none⟩ (.int .u64 dj[j]!)) g (swp dj j jm) t) := hsw.swap (by rw [HDj14.out]; omega) (by rw [HDj14.out]; omega)
                have HGa15 : Hid (w.grownBy ((wb14.setCell ⟨g,j,none⟩ (.int .u64 dj[jm]!)).setCell ⟨g,jm,none⟩ (.int .u64 dj[j]!)) (some g)) := qk (qk HGc14.out _) _
                have HD15 : Hid ((swp dj j jm).size = N) := by show _ = _; rw [Go.Sort.size_swp]; exact HDj14.out
                clear hsw hswb
                generalize (dj.setIfInBounds j dj[jm]!)[jm]! = ysw at *
                generalize dj[j]! = xi at *
                generalize dj[jm]! = xj at *
                go_upto_region 15 with fail
                go_region
                all_goals
                 have HS15 : Hid (SoAt ((wb14.setCell ⟨g,j,none⟩ (.int .u64 xj)).setCell ⟨g,jm,none⟩ (.int .u64 xi)).drew g (swp dj j jm) t) := SoAt.drew HSa15.out
                 have HG15 : Hid (w.grownBy ((wb14.setCell ⟨g,j,none⟩ (.int .u64 xj)).setCell ⟨g,jm,none⟩ (.int .u64 xi)).drew (some g)) := qu HGa15.out
                 clear HSa15 HGa15 c3 c4 f3 f4 f5 c5 hi1 hi2
                 generalize ((wb14.setCell ⟨g,j,none⟩ (.int .u64 xj)).setCell ⟨g,jm,none⟩ (.int .u64 xi)).drew = w15 at *
                 generalize swp dj j jm = d15 at *
                 go_wp2
                 go_roundw
                 case rel => exact ⟨j + 1,by omega,by omega,by go_num,d15,HD15,HS15,HT14,HG15⟩
                 case measure => simp [intOf] <;> omega
              ·have hjc' : ¬ (j : Int) < (b : Int) := by omega
               have HT14 : Hid (Go.Sort.partialIns lt64 a b (5 - (k + 1)) i dj = (R1,R2)) := by
                have h0 := HTj14.out
                rw [qbw hjc] at h0
                exact h0
               clear HTj14
               generalize wr = wb14 at *
               go_wp2
               go_roundw
               case rel => exact ⟨i,k + 1,by omega,by omega,by omega,rfl,by go_num,dj,HDj14,HSj14,HT14,HGj14⟩
               case measure => simp [intOf]; omega
            ·have hu2' : ¬ (2 : Int) ≤ (Lu : Int) := by omega
             have HU14 : Hid (Go.Sort.partialIns lt64 a b (5 - (k + 1)) i dj = (R1,R2)) := by
              have h0 := HT9.out
              unfold upD at h0
              rw [if_neg (by omega)] at h0
              exact h0
             clear HT9 hLu
             go_wp2
             go_roundw
             case rel => exact ⟨i,k + 1,by omega,by omega,by omega,rfl,by go_num,dj,HDj9,HSj9,HU14,HGj9⟩
             case measure => simp [intOf]; omega
         ·have hd2' : ¬ (2 : Int) ≤ (Ld : Int) := by omega
          have HDN : Hid (Go.Sort.partialIns lt64 a b (5 - (k + 1)) i (upD b i d6) = (R1,R2)) := by
           have h0 := HST2.out
           unfold dnD at h0
           rw [if_neg (by omega)] at h0
           exact h0
          clear HST2 hLd
          obtain ⟨Lu,hLu⟩ : ∃ Lu,Lu = b - i := ⟨_,rfl⟩
          have wLu : IntKind.i64.wrap ((b : Int) - (i : Int)) = (Lu : Int) := by rw [IntKind.wrap_i64]; omega
          have eLu : (b : Int) - (i : Int) = (Lu : Int) := by omega
          by_cases hu2 : 2 ≤ Lu
          ·have hu2' : (2 : Int) ≤ (Lu : Int) := by omega
           have HU16 : Hid (Go.Sort.partialIns lt64 a b (5 - (k + 1)) i (Go.Sort.shiftUp lt64 b (i + 1) d6) = (R1,R2)) := by
            have h0 := HDN.out
            unfold upD at h0
            rw [if_pos (by omega)] at h0
            exact h0
           clear HDN hLu
           go_wp2
           clear wLu eLu
           go_loopw [10] (fun sv wr => ∃ j : Nat,i + 1 ≤ j ∧ j ≤ b ∧ sv = .int .i64 (j : Int) ∧ ∃ dj : Array Int,Hid (dj.size = N) ∧ Hid (SoAt wr g dj t) ∧ Hid (Go.Sort.partialIns lt64 a b (5 - (k + 1)) i (Go.Sort.shiftUp lt64 b j dj) = (R1,R2)) ∧ Hid (w.grownBy wr (some g))) (fun sv _ => N + 1 - (intOf sv).toNat)
           case atStart => exact ⟨i + 1,Nat.le_refl _,by omega,by first | rfl | go_num,d6,HD6,HS6,HU16,HG6⟩
           case round =>
            obtain ⟨j,hj1,hj2,rfl,dj,HDj16,HSj16,HTj16,HGj16⟩ := hrel
            clear HD6 HS6 HU16 HG6
            by_cases hjc : j < b
            ·have hjc' : (j : Int) < (b : Int) := by omega
             obtain ⟨jm,hjm⟩ : ∃ jm,j = jm + 1 := ⟨j - 1,by omega⟩
             have wjm : IntKind.i64.wrap ((j : Int) - 1) = (jm : Int) := by rw [IntKind.wrap_i64]; omega
             have ejm : (j : Int) - 1 = (jm : Int) := by omega
             have hjl : jm < j := by omega
             have HJM : Hid (j = jm + 1) := hjm
             clear hjm
             have j1 := fun w' => qg g N c j w' (by omega)
             have j2 := fun w' => qg g N c jm w' (by omega)
             have hsw : SoAt wr g dj t := HSj16.out
             have c6 := hsw.cell (i := j) (by rw [HDj16.out]; omega)
             have c7 := hsw.cell (i := jm) (by rw [HDj16.out]; omega)
             have hless := fun w' => qo dj[j]! dj[jm]! w'
             cases hl : lt64 dj[j]! dj[jm]! with
             | false =>
              rw [hl] at hless
              have HT16 : Hid (Go.Sort.partialIns lt64 a b (5 - (k + 1)) i dj = (R1,R2)) := by
               have h0 := HTj16.out
               rw [up_no hjc (by rw [show j - 1 = jm by have := HJM.out; omega]; exact hl)] at h0
               exact h0
              clear hl hsw HTj16
              go_wp2
              go_upto_region 15 with fail
              go_quiet ((go_at_call 113; exact Calls.quiet_of_same (hless _)))
              have HSb16 : Hid (SoAt (wr.drewN nq) g dj t) := SoAt.drewN HSj16.out nq
              have HGb16 : Hid (w.grownBy (wr.drewN nq) (some g)) := qj HGj16.out nq
              clear HSj16 HGj16 hless c6 c7 j1 j2 wjm ejm
              generalize wr.drewN nq = wb16 at *
              go_wp2
              go_roundw
              case rel => exact ⟨i,k + 1,by omega,by omega,by omega,rfl,by go_num,dj,HDj16,HSb16,HT16,HGb16⟩
              case measure => simp [intOf]; omega
             | true =>
              rw [hl] at hless
              have HT16 : Hid (Go.Sort.partialIns lt64 a b (5 - (k + 1)) i (Go.Sort.shiftUp lt64 b (j + 1) (swp dj j jm)) = (R1,R2)) := by
               have h0 := HTj16.out
               rw [qbx hjc (by rw [show j - 1 = jm by have := HJM.out; omega]; exact hl),show j - 1 = jm by have := HJM.out; omega] at h0
               exact h0
              clear hl hsw HTj16
              go_wp2
              go_upto_region 15 with fail
              go_quiet ((go_at_call 113; exact Calls.quiet_of_same (hless _)))
              have HSc16 : Hid (SoAt (wr.drewN nq) g dj t) := SoAt.drewN HSj16.out nq
              have HGc16 : Hid (w.grownBy (wr.drewN nq) (some g)) := qj HGj16.out nq
              clear HSj16 HGj16 hless c6 c7 j1 j2
              generalize wr.drewN nq = wb16 at *
              go_wp2
              have hi1 := fun w' => qg g N c j w' (by omega)
              have hi2 := fun w' => qg g N c jm w' (by omega)
              have hsw : SoAt wb16 g dj t := HSc16.out
              have c3 := hsw.cell (i := j) (by rw [HDj16.out]; omega)
              have c4 := hsw.cell (i := jm) (by rw [HDj16.out]; omega)
              have f3 := hsw.fz j
              have f4 := hsw.fz jm
              have hswb : SoAt (wb16.setCell ⟨g,j,none⟩ (.int .u64 dj[jm]!)) g (dj.setIfInBounds j dj[jm]!) t := hsw.set (by rw [HDj16.out]; omega) _
              have f5 := hswb.fz jm
              have c5 := hswb.cell (i := jm) (by rw [Array.size_setIfInBounds,HDj16.out]; omega)
              have HSa17 : Hid (SoAt ((wb16.setCell ⟨g,j,none⟩ (.int .u64 dj[jm]!)).setCell ⟨g,jm,none⟩ (.int .u64 dj[j]!)) g (swp dj j jm) t) := hsw.swap (by rw [HDj16.out]; omega) (by rw [HDj16.out]; omega)
              have HGa17 : Hid (w.grownBy ((wb16.setCell ⟨g,j,none⟩ (.int .u64 dj[jm]!)).setCell ⟨g,jm,none⟩ (.int .u64 dj[j]!)) (some g)) := qk (qk HGc16.out _) _
              have HD17 : Hid ((swp dj j jm).size = N) := by show _ = _; rw [Go.Sort.size_swp]; exact HDj16.out
              clear hsw hswb
              generalize (dj.setIfInBounds j dj[jm]!)[jm]! = ysw at *
              generalize dj[j]! = xi at *
              generalize dj[jm]! = xj at *
              go_upto_region 15 with fail
              go_region
              all_goals
               have HS17 : Hid (SoAt ((wb16.setCell ⟨g,j,none⟩ (.int .u64 xj)).setCell ⟨g,jm,none⟩ (.int .u64 xi)).drew g (swp dj j jm) t) := SoAt.drew HSa17.out
               have HG17 : Hid (w.grownBy ((wb16.setCell ⟨g,j,none⟩ (.int .u64 xj)).setCell ⟨g,jm,none⟩ (.int .u64 xi)).drew (some g)) := qu HGa17.out
               clear HSa17 HGa17 c3 c4 f3 f4 f5 c5 hi1 hi2
               generalize ((wb16.setCell ⟨g,j,none⟩ (.int .u64 xj)).setCell ⟨g,jm,none⟩ (.int .u64 xi)).drew = w17 at *
               generalize swp dj j jm = d17 at *
               go_wp2
               go_roundw
               case rel => exact ⟨j + 1,by omega,by omega,by go_num,d17,HD17,HS17,HT16,HG17⟩
               case measure => simp [intOf] <;> omega
            ·have hjc' : ¬ (j : Int) < (b : Int) := by omega
             have HT16 : Hid (Go.Sort.partialIns lt64 a b (5 - (k + 1)) i dj = (R1,R2)) := by
              have h0 := HTj16.out
              rw [qbw hjc] at h0
              exact h0
             clear HTj16
             generalize wr = wb16 at *
             go_wp2
             go_roundw
             case rel => exact ⟨i,k + 1,by omega,by omega,by omega,rfl,by go_num,dj,HDj16,HSj16,HT16,HGj16⟩
             case measure => simp [intOf]; omega
          ·have hu2' : ¬ (2 : Int) ≤ (Lu : Int) := by omega
           have HU16 : Hid (Go.Sort.partialIns lt64 a b (5 - (k + 1)) i d6 = (R1,R2)) := by
            have h0 := HDN.out
            unfold upD at h0
            rw [if_neg (by omega)] at h0
            exact h0
           clear HDN hLu
           go_wp2
           go_roundw
           case rel => exact ⟨i,k + 1,by omega,by omega,by omega,rfl,by go_num,d6,HD6,HS6,HU16,HG6⟩
           case measure => simp [intOf]; omega
  ·have hk5' : ¬ (k : Int) < 5 := by omega
   obtain rfl : k = 5 := by omega
   have HR : Hid (dk = R1 ∧ false = R2) := by
    have h0 := HI.out
    injection h0 with h1 h2
    exact ⟨h1,h2⟩
   clear HI
   go_wp2
   go_ret
   obtain ⟨rfl,rfl⟩ := HR.out
   exact ⟨rfl,HS.out,HG.out⟩
end Go.Proofs.YtailhklbmenaoaaGreatDoor
namespace Go.Proofs.YtailhklbmenaoaaGreatDoor
open Go.RowKit Go.Maps
theorem qdi {w : World} {g : Nat} {t : TypeId} {a b : Nat} (h : Blk w g t a b) (ha : a < 256) (hb : b < 256) : TkSl w (some ⟨g,0,none⟩) 1 1 [(a,b)] := by
 refine ⟨rfl,Nat.le_refl _,by decide,fun hn => (nomatch hn),fun x hx k hk => ?_,fun x hx k hk => ?_,fun t ht => ?_⟩
 ·injection hx with hx; subst hx
  obtain rfl : k = 0 := by simpa using hk
  exact h.c0
 ·injection hx with hx; subst hx
  obtain rfl : k = 0 := by simpa using hk
  exact h.c1
 ·rw [List.mem_singleton.1 ht]; exact ⟨ha,hb⟩
end Go.Proofs.YtailhklbmenaoaaGreatDoor
