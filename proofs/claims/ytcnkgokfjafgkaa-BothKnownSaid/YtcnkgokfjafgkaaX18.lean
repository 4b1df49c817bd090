/- Texts of the proof, put together: what it uses. -/
import Derived.Test.YtcnkgokfjafgkaaX09
import Derived.Test.YtcnkgokfjafgkaaX15
import Derived.Test.YtcnkgokfjafgkaaX17
set_option maxRecDepth 100000
set_option maxHeartbeats 16000000
namespace Go.Proofs.Ytcnkgokfjafgkaa
open Go.RowKit Go.Maps Go.Sort
def MnnR (p : Int) (nA : Nat) (bs : List Bool) (N : List Gd) (gs : List Int) (w : World) (e : Ending) (w' : World) : Prop :=
 Below w.heap.size w w' ∧ ((¬ MayG p nA N gs ∧ e = .returned (.tuple #[.agg #[.int .i64 0,.slice none 0 0,.slice none 0 0,.slice none 0 0],.int .i64 12])) ∨
  (MayG p nA N gs ∧ ∃ (bs' : List Bool) (gs' : List Int) (N' : List Gd) (a1 : Option Addr) (c1 : Nat) (a2 : Option Addr) (c2 : Nat) (a3 : Option Addr) (c3 : Nat),e = .returned (.tuple #[.agg #[.int .i64 p,.slice a1 bs'.length c1,.slice a2 bs'.length c2,.slice a3 N'.length c3],.int .i64 0]) ∧ MinA p nA bs N gs bs' gs' N' ∧ OwA w' w.heap.size a1 c1 a2 c2 a3 c3 bs' gs' N'))
theorem q1V {w : World} {b : Nat} {o : Obj} {k j : Nat} (h : w.heap[k]? = some o) (hne : k ≠ b) (u : Value) : (w.setCell ⟨b,j,none⟩ u).heap[k]? = some o := (Below.heap_setCell _ _ _ _ (by dsimp only; exact hne)).trans h
abbrev set4 (W : World) (r : Nat) (x0 x1 x2 x3 : Value) : World := (((W.setCell ⟨r,0,none⟩ x0).setCell ⟨r,1,none⟩ x1).setCell ⟨r,2,none⟩ x2).setCell ⟨r,3,none⟩ x3
theorem qN {W : World} {r : Nat} {x0 x1 x2 x3 y0 y1 y2 y3 : Value} (hr : W.heap[r]? = some (.cells #[y0,y1,y2,y3] 26 (0,0))) : (set4 W r x0 x1 x2 x3).heap[r]? = some (.cells #[x0,x1,x2,x3] 26 (0,0)) := by
 have h1 := heap_setCell_same _ r 0 _ _ x0 hr
 have h2 := heap_setCell_same _ r 1 _ _ x1 h1
 have h3 := heap_setCell_same _ r 2 _ _ x2 h2
 exact heap_setCell_same _ r 3 _ _ x3 h3
theorem qm {B : Nat} {w W : World} {r : Nat} {x0 x1 x2 x3 : Value} (h : Below B w W) (h2 : B ≤ r) : Below B w (set4 W r x0 x1 x2 x3) :=
 (((h.setCell (by dsimp only; exact h2) _).setCell (by dsimp only; exact h2) _).setCell (by dsimp only; exact h2) _).setCell (by dsimp only; exact h2) _
theorem q1r {W : World} {r : Nat} {x0 x1 x2 x3 : Value} : OnG r W (set4 W r x0 x1 x2 x3) := q1C (q1C (q1C (q1C (q3q r W) 0 x0) 1 x1) 2 x2) 3 x3
theorem q1F (p : Int) (aA : Option Addr) (nA cA : Nat) (aG : Option Addr) (nG cG : Nat) (aN : Option Addr) (nN cN : Nat) (bs : List Bool) (N : List Gd) (gs : List Int) (w : World) (hB : BoSl w aA nA cA bs) (hN : NdSl w aN nN cN N) (hG : ZSl w aG nG cG gs) (hok : ∀ z ∈ gs,I64 z) :
  Calls Try.prog 16 #[.agg #[.int .i64 p,.slice aA nA cA,.slice aG nG cG,.slice aN nN cN]] w (MnnR p nA bs N gs w) := by
 obtain ⟨Z,eZ⟩ : ∃ Z,Z = MnnR p nA bs N gs w := ⟨_,rfl⟩
 have HZ : Hid (∀ e w',MnnR p nA bs N gs w e w' → Z e w') := fun e w' h => by rw [eZ]; exact h
 rw [← eZ]
 obtain ⟨w2,hw2⟩ : ∃ w2,w2 = (w.alloc (.cells #[.int .i64 p,.slice aA nA cA,.slice aG nG cG,.slice aN nN cN] 26 (0,0))).alloc (.cells #[.int .i64 0,.slice none 0 0,.slice none 0 0,.slice none 0 0] 26 (0,0)) := ⟨_,rfl⟩
 have hb2 : Below w.heap.size w w2 := by rw [hw2]; exact q7 (q5 w _) (q5 _ _)
 have hA2 : w2.heap[w.heap.size]? = some (.cells #[.int .i64 p,.slice aA nA cA,.slice aG nG cG,.slice aN nN cN] 26 (0,0)) := by
  rw [hw2]
  have h1 := (MapKept.heap_alloc w (.cells #[.int .i64 p,.slice aA nA cA,.slice aG nG cG,.slice aN nN cN] 26 (0,0))).1
  exact ((q5 _ _).block _ (by simp)).trans h1
 have hR2 : w2.heap[w.heap.size + 1]? = some (.cells #[.int .i64 0,.slice none 0 0,.slice none 0 0,.slice none 0 0] 26 (0,0)) := by
  rw [hw2]
  have h1 := (MapKept.heap_alloc (w.alloc (.cells #[.int .i64 p,.slice aA nA cA,.slice aG nG cG,.slice aN nN cN] 26 (0,0))) (.cells #[.int .i64 0,.slice none 0 0,.slice none 0 0,.slice none 0 0] 26 (0,0))).1
  simpa using h1
 have jc := q2E p aA nA cA aG nG cG aN nN cN N gs w2 (hN.up hb2) (hG.up hb2) hok
 have HW2 : Hid _ := hw2
 have HB2 : Hid _ := hb2
 have HA2 : Hid _ := hA2
 have HR2 : Hid _ := hR2
 have HB : Hid _ := hB
 have HN : Hid _ := hN
 have HG : Hid _ := hG
 go_enter Try.func16,Try.ntmps16
 go_wp2_with (rw [← HW2.out])
 refine jc.mono ?_
 rintro e w3 ⟨hb3,v,rfl,⟨rfl,hM⟩ | ⟨rfl,hM⟩⟩
 ·have hA3 := (hb3.block _ (Array.getElem?_eq_some_iff.1 HA2.out).1).trans HA2.out
  have hR3 := (hb3.block _ (Array.getElem?_eq_some_iff.1 HR2.out).1).trans HR2.out
  have hbb := q7 HB2.out hb3
  have js := q3g p aA nA cA aG nG cG aN nN cN bs N gs w3 hM (HB.out.up hbb) (HN.out.up hbb) (HG.out.up hbb)
  have s0 := q6 hA3 0
  have s1 := q6 hA3 1
  have s2 := q6 hA3 2
  have s3 := q6 hA3 3
  have HR3 : Hid _ := hR3
  have HBB : Hid _ := hbb
  have HM : Hid _ := hM
  go_wp2_with fail
  refine js.mono ?_
  rintro e w4 ⟨hb4,bs',gs',N',a1,c1,a2,c2,a3,c3,rfl,hMA,hO⟩
  have hR4 := (hb4.block _ (Array.getElem?_eq_some_iff.1 HR3.out).1).trans HR3.out
  have hrl := (Array.getElem?_eq_some_iff.1 HR3.out).1
  have r0 := q6 hR4 0
  have r1 := q6 hR4 1
  have r2 := q6 hR4 2
  have r3 := q6 hR4 3
  have g0 := frozen_of_row w4 _ 0 _ _ hR4
  have g1 := frozen_of_row w4 _ 1 _ _ hR4
  have g2 := frozen_of_row w4 _ 2 _ _ hR4
  have g3 := frozen_of_row w4 _ 3 _ _ hR4
  obtain ⟨WF,hWF⟩ : ∃ WF,WF = (((w4.setCell ⟨w.heap.size + 1,0,none⟩ (.int .i64 p)).setCell ⟨w.heap.size + 1,1,none⟩ (.slice a1 bs'.length c1)).setCell ⟨w.heap.size + 1,2,none⟩ (.slice a2 bs'.length c2)).setCell ⟨w.heap.size + 1,3,none⟩ (.slice a3 N'.length c3) := ⟨_,rfl⟩
  have HFN : Hid (WF.heap[w.heap.size + 1]? = some (.cells #[.int .i64 p,.slice a1 bs'.length c1,.slice a2 bs'.length c2,.slice a3 N'.length c3] 26 (0,0))) := by rw [hWF]; exact qN hR4
  have HE : Hid (Z (.returned (.tuple #[.agg #[.int .i64 p,.slice a1 bs'.length c1,.slice a2 bs'.length c2,.slice a3 N'.length c3],.int .i64 0])) WF) := by
   refine HZ.out _ _ ⟨?_,.inr ⟨HM.out,bs',gs',N',a1,c1,a2,c2,a3,c3,rfl,hMA,?_⟩⟩
   ·rw [hWF]; exact qm (q7 HBB.out hb4) (by omega)
   ·rw [hWF]; exact (hO.on q1r hrl).base HBB.out.size
  have HWF : Hid _ := hWF
  go_wp2
  rw [← HWF.out]
  have z0 := q6 HFN.out 0
  have z1 := q6 HFN.out 1
  have z2 := q6 HFN.out 2
  have z3 := q6 HFN.out 3
  refine bodyPost_ret (v := .tuple #[.agg #[.int .i64 p,.slice a1 bs'.length c1,.slice a2 bs'.length c2,.slice a3 N'.length c3],.int .i64 0]) ?_ rfl HE.out
  simp at z0 z1 z2 z3
  simp [results,Try.results16,go_sem,z0,z1,z2,z3]
 ·have hR3 := (hb3.block _ (Array.getElem?_eq_some_iff.1 HR2.out).1).trans HR2.out
  have r0 := q6 hR3 0
  have r1 := q6 hR3 1
  have r2 := q6 hR3 2
  have r3 := q6 hR3 3
  have g0 := frozen_of_row w3 _ 0 _ _ hR3
  have g1 := frozen_of_row w3 _ 1 _ _ hR3
  have g2 := frozen_of_row w3 _ 2 _ _ hR3
  have g3 := frozen_of_row w3 _ 3 _ _ hR3
  obtain ⟨WF,hWF⟩ : ∃ WF,WF = (((w3.setCell ⟨w.heap.size + 1,0,none⟩ (.int .i64 0)).setCell ⟨w.heap.size + 1,1,none⟩ (.slice none 0 0)).setCell ⟨w.heap.size + 1,2,none⟩ (.slice none 0 0)).setCell ⟨w.heap.size + 1,3,none⟩ (.slice none 0 0) := ⟨_,rfl⟩
  have HFN : Hid (WF.heap[w.heap.size + 1]? = some (.cells #[.int .i64 0,.slice none 0 0,.slice none 0 0,.slice none 0 0] 26 (0,0))) := by rw [hWF]; exact qN hR3
  have HE : Hid (Z (.returned (.tuple #[.agg #[.int .i64 0,.slice none 0 0,.slice none 0 0,.slice none 0 0],.int .i64 12])) WF) := by
   refine HZ.out _ _ ⟨?_,.inl ⟨hM,rfl⟩⟩
   rw [hWF]; exact qm (q7 HB2.out hb3) (by omega)
  have HWF : Hid _ := hWF
  go_wp2
  rw [← HWF.out]
  have z0 := q6 HFN.out 0
  have z1 := q6 HFN.out 1
  have z2 := q6 HFN.out 2
  have z3 := q6 HFN.out 3
  refine bodyPost_ret (v := .tuple #[.agg #[.int .i64 0,.slice none 0 0,.slice none 0 0,.slice none 0 0],.int .i64 12]) ?_ rfl HE.out
  simp at z0 z1 z2 z3
  simp [results,Try.results16,go_sem,z0,z1,z2,z3]
end Go.Proofs.Ytcnkgokfjafgkaa
namespace Go.Proofs.Ytcnkgokfjafgkaa
open Go.RowKit Go.Maps
abbrev auO (x0 x1 x2 x3 : Value) : Obj := .cells #[x0,x1,x2,x3] 26 (0,0)
abbrev auZ : Value := .agg #[.int .i64 0,.slice none 0 0,.slice none 0 0,.slice none 0 0]
def TgR (p : Int) (nA : Nat) (bs : List Bool) (N : List Gd) (gs : List Int) (q : Int) (nB : Nat) (cs : List Bool) (M : List Gd) (hs : List Int) (w : World) (e : Ending) (w' : World) : Prop :=
 Below w.heap.size w w' ∧ ((∃ z : Int,z ≠ 0 ∧ e = .returned (.tuple #[auZ,auZ,.int .i64 z]) ∧ ((z = 12 ∧ ¬ (MayG p nA N gs ∧ MayG q nB M hs)) ∨ (z = 2 ∧ p ≠ q))) ∨
  (MayG p nA N gs ∧ MayG q nB M hs ∧ p = q ∧ ∃ (bs' : List Bool) (gs' : List Int) (N' : List Gd) (a1 : Option Addr) (c1 : Nat) (a2 : Option Addr) (c2 : Nat) (a3 : Option Addr) (c3 : Nat) (cs' : List Bool) (hs' : List Int) (M' : List Gd) (b1 : Option Addr) (d1 : Nat) (b2 : Option Addr) (d2 : Nat) (b3 : Option Addr) (d3 : Nat),
   e = .returned (.tuple #[.agg #[.int .i64 p,.slice a1 bs'.length c1,.slice a2 bs'.length c2,.slice a3 N'.length c3],.agg #[.int .i64 q,.slice b1 cs'.length d1,.slice b2 cs'.length d2,.slice b3 M'.length d3],.int .i64 0]) ∧ MinA p nA bs N gs bs' gs' N' ∧ OwA w' w.heap.size a1 c1 a2 c2 a3 c3 bs' gs' N' ∧ MinA q nB cs M hs cs' hs' M' ∧ OwA w' w.heap.size b1 d1 b2 d2 b3 d3 cs' hs' M'))
theorem qJ {W : World} {r : Nat} {x0 x1 x2 x3 y0 y1 y2 y3 : Value} (hr : BkH W r (auO y0 y1 y2 y3)) : BkH (set4 W r x0 x1 x2 x3) r (auO x0 x1 x2 x3) := qN hr
theorem qG {W : World} {r g : Nat} {o : Obj} {x0 x1 x2 x3 : Value} (h : BkH W g o) (hne : g ≠ r) : BkH (set4 W r x0 x1 x2 x3) g o :=
 q1V (q1V (q1V (q1V h hne x0) hne x1) hne x2) hne x3
theorem BkH.cells4 {W : World} {r : Nat} {x0 x1 x2 x3 : Value} (h : BkH W r (auO x0 x1 x2 x3)) : (W.cell? ⟨r,0,none⟩ = some x0 ∧ W.cell? ⟨r,1,none⟩ = some x1 ∧ W.cell? ⟨r,2,none⟩ = some x2 ∧ W.cell? ⟨r,3,none⟩ = some x3) ∧ W.frozen? ⟨r,0,none⟩ = false ∧ W.frozen? ⟨r,1,none⟩ = false ∧ W.frozen? ⟨r,2,none⟩ = false ∧ W.frozen? ⟨r,3,none⟩ = false :=
 ⟨⟨q6 h 0,q6 h 1,q6 h 2,q6 h 3⟩,frozen_of_row W _ 0 _ _ h,frozen_of_row W _ 1 _ _ h,frozen_of_row W _ 2 _ _ h,frozen_of_row W _ 3 _ _ h⟩
theorem q15 (p : Int) (aA : Option Addr) (nA cA : Nat) (aG : Option Addr) (nG cG : Nat) (aN : Option Addr) (nN cN : Nat) (q : Int) (bA : Option Addr) (mA dA : Nat) (bG : Option Addr) (mG dG : Nat) (bN : Option Addr) (mN dN : Nat) (bs cs : List Bool) (N : List Gd) (gs : List Int) (M : List Gd) (hs : List Int) (w : World)
  (hB : BoSl w aA nA cA bs) (hN : NdSl w aN nN cN N) (hG : ZSl w aG nG cG gs) (hok : ∀ z ∈ gs,I64 z) (kB : BoSl w bA mA dA cs) (kN : NdSl w bN mN dN M) (kG : ZSl w bG mG dG hs) (kok : ∀ z ∈ hs,I64 z) :
  Calls Try.prog 33 #[.agg #[.int .i64 p,.slice aA nA cA,.slice aG nG cG,.slice aN nN cN],.agg #[.int .i64 q,.slice bA mA dA,.slice bG mG dG,.slice bN mN dN]] w (TgR p nA bs N gs q mA cs M hs w) := by
 obtain ⟨Z,eZ⟩ : ∃ Z,Z = TgR p nA bs N gs q mA cs M hs w := ⟨_,rfl⟩
 have HZ : Hid (∀ e w',TgR p nA bs N gs q mA cs M hs w e w' → Z e w') := fun e w' h => by rw [eZ]; exact h
 rw [← eZ]
 clear eZ
 obtain ⟨w4,hw4⟩ : ∃ w4,w4 = (((w.alloc (.cells #[.int .i64 p,.slice aA nA cA,.slice aG nG cG,.slice aN nN cN] 26 (0,0))).alloc (.cells #[.int .i64 q,.slice bA mA dA,.slice bG mG dG,.slice bN mN dN] 26 (0,0))).alloc (.cells #[.int .i64 0,.slice none 0 0,.slice none 0 0,.slice none 0 0] 26 (0,0))).alloc (.cells #[.int .i64 0,.slice none 0 0,.slice none 0 0,.slice none 0 0] 26 (0,0)) := ⟨_,rfl⟩
 have hb4 : Below w.heap.size w w4 := by rw [hw4]; exact q7 (q7 (q7 (q5 w _) (q5 _ _)) (q5 _ _)) (q5 _ _)
 have k0 : BkH w4 w.heap.size (auO (.int .i64 p) (.slice aA nA cA) (.slice aG nG cG) (.slice aN nN cN)) := by
  rw [hw4]; exact (((qv w _).upB (q5 _ _)).upB (q5 _ _)).upB (q5 _ _)
 have k1 : BkH w4 (w.heap.size + 1) (auO (.int .i64 q) (.slice bA mA dA) (.slice bG mG dG) (.slice bN mN dN)) := by
  rw [hw4]; exact ((qh (by simp)).upB (q5 _ _)).upB (q5 _ _)
 have k2 : BkH w4 (w.heap.size + 2) (auO (.int .i64 0) (.slice none 0 0) (.slice none 0 0) (.slice none 0 0)) := by
  rw [hw4]; exact (qh (by simp)).upB (q5 _ _)
 have k3 : BkH w4 (w.heap.size + 3) (auO (.int .i64 0) (.slice none 0 0) (.slice none 0 0) (.slice none 0 0)) := by
  rw [hw4]; exact qh (by simp)
 have jc := q1F p aA nA cA aG nG cG aN nN cN bs N gs w4 (hB.up hb4) (hN.up hb4) (hG.up hb4) hok
 have HK1 : Hid _ := k1
 have HK2 : Hid _ := k2
 have HK3 : Hid _ := k3
 have HW4 : Hid _ := hw4
 have HB4 : Hid _ := hb4
 have HKB : Hid _ := kB
 have HKN : Hid _ := kN
 have HKG : Hid _ := kG
 have HKO : Hid _ := kok
 obtain ⟨⟨s0,s1,s2,s3⟩,_⟩ := k0.cells4
 clear hB hN hG hok kB kN kG kok k1 k2 k3 hw4 hb4 k0
 go_enter Try.func33,Try.ntmps33
 go_wp2_with (rw [← HW4.out])
 have HR12 : Hid (w.heap.size ≤ w.heap.size + 1 + 1 ∧ w.heap.size ≤ w.heap.size + 1 + 1 + 1 ∧ w.heap.size + 1 + 1 ≠ w.heap.size + 1 + 1 + 1) := by show _ ∧ _; omega
 rw [show w.heap.size + 2 = w.heap.size + 1 + 1 from rfl] at HK2
 rw [show w.heap.size + 3 = w.heap.size + 1 + 1 + 1 from rfl] at HK3
 generalize w.heap.size + 1 + 1 + 1 = rb at *
 generalize w.heap.size + 1 + 1 = ra at *
 refine jc.mono ?_
 rintro e w5 ⟨hb5,⟨hM,rfl⟩ | ⟨hM,bs',gs',N',a1,c1,a2,c2,a3,c3,rfl,hMA,hO⟩⟩
 ·have hk2 : BkH (w5.alloc (.cells #[.int .i64 0,.slice none 0 0,.slice none 0 0,.slice none 0 0] 26 (0,0))) ra (auO (.int .i64 0) (.slice none 0 0) (.slice none 0 0) (.slice none 0 0)) := BkH.upB (BkH.upB HK2.out hb5) (q5 _ _)
  have hk3 : BkH (w5.alloc (.cells #[.int .i64 0,.slice none 0 0,.slice none 0 0,.slice none 0 0] 26 (0,0))) rb (auO (.int .i64 0) (.slice none 0 0) (.slice none 0 0) (.slice none 0 0)) := BkH.upB (BkH.upB HK3.out hb5) (q5 _ _)
  have HBB : Hid (Below w.heap.size w (w5.alloc (.cells #[.int .i64 0,.slice none 0 0,.slice none 0 0,.slice none 0 0] 26 (0,0)))) := q7 (q7 HB4.out hb5) (q5 _ _)
  have hk32 := qG (x0 := .int .i64 0) (x1 := .slice none 0 0) (x2 := .slice none 0 0) (x3 := .slice none 0 0) hk3 HR12.out.2.2.symm
  have hk22 := qJ (x0 := .int .i64 0) (x1 := .slice none 0 0) (x2 := .slice none 0 0) (x3 := .slice none 0 0) hk2
  obtain ⟨⟨r0,r1,r2,r3⟩,g0,g1,g2,g3⟩ := hk2.cells4
  obtain ⟨⟨t0,t1,t2,t3⟩,f0,f1,f2,f3⟩ := hk32.cells4
  have HFA : Hid _ := qG (x0 := .int .i64 0) (x1 := .slice none 0 0) (x2 := .slice none 0 0) (x3 := .slice none 0 0) hk22 HR12.out.2.2
  have HFB : Hid _ := qJ (x0 := .int .i64 0) (x1 := .slice none 0 0) (x2 := .slice none 0 0) (x3 := .slice none 0 0) hk32
  have HE : Hid (Z (.returned (.tuple #[auZ,auZ,.int .i64 12])) (set4 (set4 (w5.alloc (.cells #[.int .i64 0,.slice none 0 0,.slice none 0 0,.slice none 0 0] 26 (0,0))) ra (.int .i64 0) (.slice none 0 0) (.slice none 0 0) (.slice none 0 0)) rb (.int .i64 0) (.slice none 0 0) (.slice none 0 0) (.slice none 0 0))) := HZ.out _ _ ⟨qm (qm HBB.out HR12.out.1) HR12.out.2.1,.inl ⟨12,by decide,rfl,.inl ⟨rfl,fun h => hM h.1⟩⟩⟩
  clear hk2 hk3 hk32 hk22 HBB HZ jc s0 s1 s2 s3 HK1 HKB HKN HKG HKO hb5 hM
  unfold set4 at HE HFA HFB t0 t1 t2 t3 f0 f1 f2 f3
  go_upto_if 16 with fail
  generalize (w5.alloc (.cells #[.int .i64 0,.slice none 0 0,.slice none 0 0,.slice none 0 0] 26 (0,0))) = w9 at *
  go_wp2
  have z0 := q6 HFA.out 0
  have z1 := q6 HFA.out 1
  have z2 := q6 HFA.out 2
  have z3 := q6 HFA.out 3
  have y0 := q6 HFB.out 0
  have y1 := q6 HFB.out 1
  have y2 := q6 HFB.out 2
  have y3 := q6 HFB.out 3
  refine bodyPost_ret (v := .tuple #[auZ,auZ,.int .i64 12]) ?_ rfl HE.out
  simp only [List.getElem?_toArray,List.getElem?_cons_zero,List.getElem?_cons_succ] at z0 z1 z2 z3 y0 y1 y2 y3
  simp [results,Try.results33,go_sem,z0,z1,z2,z3,y0,y1,y2,y3]
 ·have hb5n := q7 (q7 HB4.out hb5) (q5 w5 (.cells #[.int .i64 p,.slice a1 bs'.length c1,.slice a2 bs'.length c2,.slice a3 N'.length c3] 26 (0,0)))
  have hkx : BkH (w5.alloc (.cells #[.int .i64 p,.slice a1 bs'.length c1,.slice a2 bs'.length c2,.slice a3 N'.length c3] 26 (0,0))) w5.heap.size (auO (.int .i64 p) (.slice a1 bs'.length c1) (.slice a2 bs'.length c2) (.slice a3 N'.length c3)) := qv _ _
  have hk1 := BkH.upB (BkH.upB HK1.out hb5) (q5 w5 (.cells #[.int .i64 p,.slice a1 bs'.length c1,.slice a2 bs'.length c2,.slice a3 N'.length c3] 26 (0,0)))
  have HK2' : Hid _ := BkH.upB (BkH.upB HK2.out hb5) (q5 w5 (.cells #[.int .i64 p,.slice a1 bs'.length c1,.slice a2 bs'.length c2,.slice a3 N'.length c3] 26 (0,0)))
  have HK3' : Hid _ := BkH.upB (BkH.upB HK3.out hb5) (q5 w5 (.cells #[.int .i64 p,.slice a1 bs'.length c1,.slice a2 bs'.length c2,.slice a3 N'.length c3] 26 (0,0)))
  have HO5 : Hid (OwA (w5.alloc (.cells #[.int .i64 p,.slice a1 bs'.length c1,.slice a2 bs'.length c2,.slice a3 N'.length c3] 26 (0,0))) w4.heap.size a1 c1 a2 c2 a3 c3 bs' gs' N') := hO.up (q5 _ _)
  have HR4 : Hid (ra < w4.heap.size ∧ rb < w4.heap.size ∧ w.heap.size ≤ w4.heap.size) := ⟨(Array.getElem?_eq_some_iff.1 HK2.out).1,(Array.getElem?_eq_some_iff.1 HK3.out).1,HB4.out.size⟩
  have HGX : Hid (ra < w5.heap.size ∧ rb < w5.heap.size) := by
   have h2 := (Array.getElem?_eq_some_iff.1 HK2.out).1
   have h3 := (Array.getElem?_eq_some_iff.1 HK3.out).1
   have := hb5.size
   show _ ∧ _
   omega
  have jd := q1F q bA mA dA bG mG dG bN mN dN cs M hs (w5.alloc (.cells #[.int .i64 p,.slice a1 bs'.length c1,.slice a2 bs'.length c2,.slice a3 N'.length c3] 26 (0,0))) (HKB.out.up hb5n) (HKN.out.up hb5n) (HKG.out.up hb5n) HKO.out
  obtain ⟨⟨v0,v1,v2,v3⟩,_⟩ := hk1.cells4
  have HMA : Hid _ := hMA
  have HMM : Hid _ := hM
  have HB5 : Hid _ := hb5n
  have HKX : Hid _ := hkx
  clear jc s0 s1 s2 s3 hb5 hb5n hO hMA hM hk1 hkx HK1 HK2 HK3 HB4
  go_wp2_with fail
  refine jd.mono ?_
  rintro e w7 ⟨hb7,⟨hM2,rfl⟩ | ⟨hM2,cs',hs',M',b1,d1,b2,d2,b3,d3,rfl,hMB,hP⟩⟩
  ·have hk2 : BkH (w7.alloc (.cells #[.int .i64 0,.slice none 0 0,.slice none 0 0,.slice none 0 0] 26 (0,0))) ra (auO (.int .i64 0) (.slice none 0 0) (.slice none 0 0) (.slice none 0 0)) := BkH.upB (BkH.upB HK2'.out hb7) (q5 _ _)
   have hk3 : BkH (w7.alloc (.cells #[.int .i64 0,.slice none 0 0,.slice none 0 0,.slice none 0 0] 26 (0,0))) rb (auO (.int .i64 0) (.slice none 0 0) (.slice none 0 0) (.slice none 0 0)) := BkH.upB (BkH.upB HK3'.out hb7) (q5 _ _)
   have HBB : Hid (Below w.heap.size w (w7.alloc (.cells #[.int .i64 0,.slice none 0 0,.slice none 0 0,.slice none 0 0] 26 (0,0)))) := q7 (q7 HB5.out hb7) (q5 _ _)
   have hk32 := qG (x0 := .int .i64 0) (x1 := .slice none 0 0) (x2 := .slice none 0 0) (x3 := .slice none 0 0) hk3 HR12.out.2.2.symm
   have hk22 := qJ (x0 := .int .i64 0) (x1 := .slice none 0 0) (x2 := .slice none 0 0) (x3 := .slice none 0 0) hk2
   obtain ⟨⟨r0,r1,r2,r3⟩,g0,g1,g2,g3⟩ := hk2.cells4
   obtain ⟨⟨t0,t1,t2,t3⟩,f0,f1,f2,f3⟩ := hk32.cells4
   have HFA : Hid _ := qG (x0 := .int .i64 0) (x1 := .slice none 0 0) (x2 := .slice none 0 0) (x3 := .slice none 0 0) hk22 HR12.out.2.2
   have HFB : Hid _ := qJ (x0 := .int .i64 0) (x1 := .slice none 0 0) (x2 := .slice none 0 0) (x3 := .slice none 0 0) hk32
   have HE : Hid (Z (.returned (.tuple #[auZ,auZ,.int .i64 12])) (set4 (set4 (w7.alloc (.cells #[.int .i64 0,.slice none 0 0,.slice none 0 0,.slice none 0 0] 26 (0,0))) ra (.int .i64 0) (.slice none 0 0) (.slice none 0 0) (.slice none 0 0)) rb (.int .i64 0) (.slice none 0 0) (.slice none 0 0) (.slice none 0 0))) := HZ.out _ _ ⟨qm (qm HBB.out HR12.out.1) HR12.out.2.1,.inl ⟨12,by decide,rfl,.inl ⟨rfl,fun h => hM2 h.2⟩⟩⟩
   clear hk2 hk3 hk32 hk22 HBB HZ jd v0 v1 v2 v3 HKB HKN HKG HKO hb7 hM2 HO5 HMA
   unfold set4 at HE HFA HFB t0 t1 t2 t3 f0 f1 f2 f3
   go_upto_if 26 with fail
   generalize (w7.alloc (.cells #[.int .i64 0,.slice none 0 0,.slice none 0 0,.slice none 0 0] 26 (0,0))) = w9 at *
   go_wp2
   have z0 := q6 HFA.out 0
   have z1 := q6 HFA.out 1
   have z2 := q6 HFA.out 2
   have z3 := q6 HFA.out 3
   have y0 := q6 HFB.out 0
   have y1 := q6 HFB.out 1
   have y2 := q6 HFB.out 2
   have y3 := q6 HFB.out 3
   refine bodyPost_ret (v := .tuple #[auZ,auZ,.int .i64 12]) ?_ rfl HE.out
   simp only [List.getElem?_toArray,List.getElem?_cons_zero,List.getElem?_cons_succ] at z0 z1 z2 z3 y0 y1 y2 y3
   simp [results,Try.results33,go_sem,z0,z1,z2,z3,y0,y1,y2,y3]
  ·have hbn := q5 w7 (.cells #[.int .i64 q,.slice b1 cs'.length d1,.slice b2 cs'.length d2,.slice b3 M'.length d3] 26 (0,0))
   have hky : BkH (w7.alloc (.cells #[.int .i64 q,.slice b1 cs'.length d1,.slice b2 cs'.length d2,.slice b3 M'.length d3] 26 (0,0))) w7.heap.size (auO (.int .i64 q) (.slice b1 cs'.length d1) (.slice b2 cs'.length d2) (.slice b3 M'.length d3)) := qv _ _
   have hkx := BkH.upB (BkH.upB HKX.out hb7) hbn
   have HK2 : Hid _ := BkH.upB (BkH.upB HK2'.out hb7) hbn
   have HK3 : Hid _ := BkH.upB (BkH.upB HK3'.out hb7) hbn
   have HB8 : Hid _ := q7 (q7 HB5.out hb7) hbn
   have HO8 : Hid (OwA (w7.alloc (.cells #[.int .i64 q,.slice b1 cs'.length d1,.slice b2 cs'.length d2,.slice b3 M'.length d3] 26 (0,0))) w4.heap.size a1 c1 a2 c2 a3 c3 bs' gs' N') := (HO5.out.up hb7).up hbn
   have HP8 : Hid (OwA (w7.alloc (.cells #[.int .i64 q,.slice b1 cs'.length d1,.slice b2 cs'.length d2,.slice b3 M'.length d3] 26 (0,0))) w5.heap.size b1 d1 b2 d2 b3 d3 cs' hs' M') := (hP.base (by simp)).up hbn
   have HS5 : Hid (w.heap.size ≤ w5.heap.size) := by
    have h1 := HB5.out.size
    have h2 := HGX.out
    have h3 := HR12.out.1
    show _ ≤ _
    omega
   have HMB : Hid _ := hMB
   have HMN : Hid _ := hM2
   have HGY : Hid (ra < w7.heap.size ∧ rb < w7.heap.size ∧ ra ≠ w5.heap.size ∧ rb ≠ w5.heap.size) := by
    have h2 := HGX.out
    have := hb7.size
    simp at this
    show _ ∧ _
    omega
   have HKX8 : Hid _ := hkx
   have HKY8 : Hid _ := hky
   obtain ⟨⟨xa0,xa1,xa2,xa3⟩,_⟩ := hkx.cells4
   obtain ⟨⟨ya0,ya1,ya2,ya3⟩,_⟩ := hky.cells4
   clear jd v0 v1 v2 v3 HKB HKN HKG HKO hM2 hb7 hbn hP hMB HO5 HK2' HK3' HKX hkx hky HB5
   obtain ⟨w8,hw8⟩ : ∃ w8,w8 = w7.alloc (.cells #[.int .i64 q,.slice b1 cs'.length d1,.slice b2 cs'.length d2,.slice b3 M'.length d3] 26 (0,0)) := ⟨_,rfl⟩
   have HW8 : Hid _ := hw8
   rw [← hw8] at HK2 HK3 HB8 HO8 HP8 HKX8 HKY8 xa0 xa1 xa2 xa3 ya0 ya1 ya2 ya3
   clear hw8
   go_upto_if 34 with (rw [← HW8.out])
   clear HW8
   by_cases hpq : p = q
   ·subst hpq
    rw [show (p != p) = false by simp]
    go_upto_region 15 with fail
    have hk2 : BkH w8 ra (auO (.int .i64 0) (.slice none 0 0) (.slice none 0 0) (.slice none 0 0)) := HK2.out
    have hk3 : BkH w8 rb (auO (.int .i64 0) (.slice none 0 0) (.slice none 0 0) (.slice none 0 0)) := HK3.out
    have hkx : BkH w8 w5.heap.size (auO (.int .i64 p) (.slice a1 bs'.length c1) (.slice a2 bs'.length c2) (.slice a3 N'.length c3)) := HKX8.out
    have hky : BkH w8 w7.heap.size (auO (.int .i64 p) (.slice b1 cs'.length d1) (.slice b2 cs'.length d2) (.slice b3 M'.length d3)) := HKY8.out
    have hg := HGY.out
    have hab := HR12.out.2.2
    have tA := qG (x0 := .int .i64 p) (x1 := .slice a1 bs'.length c1) (x2 := .slice a2 bs'.length c2) (x3 := .slice a3 N'.length c3) hk3 hab.symm
    have yA := qG (x0 := .int .i64 p) (x1 := .slice a1 bs'.length c1) (x2 := .slice a2 bs'.length c2) (x3 := .slice a3 N'.length c3) hky (r := ra) (by omega)
    have rB := qG (x0 := .int .i64 p) (x1 := .slice b1 cs'.length d1) (x2 := .slice b2 cs'.length d2) (x3 := .slice b3 M'.length d3) hk2 hab
    have xB := qG (x0 := .int .i64 p) (x1 := .slice b1 cs'.length d1) (x2 := .slice b2 cs'.length d2) (x3 := .slice b3 M'.length d3) hkx (r := rb) (by omega)
    have aA2 := qJ (x0 := .int .i64 p) (x1 := .slice a1 bs'.length c1) (x2 := .slice a2 bs'.length c2) (x3 := .slice a3 N'.length c3) hk2
    have bB2 := qJ (x0 := .int .i64 p) (x1 := .slice b1 cs'.length d1) (x2 := .slice b2 cs'.length d2) (x3 := .slice b3 M'.length d3) hk3
    have HF1a : Hid _ := qG (x0 := .int .i64 p) (x1 := .slice b1 cs'.length d1) (x2 := .slice b2 cs'.length d2) (x3 := .slice b3 M'.length d3) aA2 hab
    have HF1b : Hid _ := qJ (x0 := .int .i64 p) (x1 := .slice b1 cs'.length d1) (x2 := .slice b2 cs'.length d2) (x3 := .slice b3 M'.length d3) tA
    have HF2a : Hid _ := qJ (x0 := .int .i64 p) (x1 := .slice a1 bs'.length c1) (x2 := .slice a2 bs'.length c2) (x3 := .slice a3 N'.length c3) rB
    have HF2b : Hid _ := qG (x0 := .int .i64 p) (x1 := .slice a1 bs'.length c1) (x2 := .slice a2 bs'.length c2) (x3 := .slice a3 N'.length c3) bB2 hab.symm
    obtain ⟨⟨r0,r1,r2,r3⟩,g0,g1,g2,g3⟩ := hk2.cells4
    obtain ⟨⟨t0,t1,t2,t3⟩,f0,f1,f2,f3⟩ := hk3.cells4
    obtain ⟨⟨tA0,tA1,tA2,tA3⟩,fA0,fA1,fA2,fA3⟩ := tA.cells4
    obtain ⟨⟨rB0,rB1,rB2,rB3⟩,gB0,gB1,gB2,gB3⟩ := rB.cells4
    obtain ⟨⟨yA0,yA1,yA2,yA3⟩,_⟩ := yA.cells4
    obtain ⟨⟨xB0,xB1,xB2,xB3⟩,_⟩ := xB.cells4
    clear hk2 hk3 hkx hky hg tA yA rB xB aA2 bB2
    have HE1 : Hid (Z (.returned (.tuple #[.agg #[.int .i64 p,.slice a1 bs'.length c1,.slice a2 bs'.length c2,.slice a3 N'.length c3],.agg #[.int .i64 p,.slice b1 cs'.length d1,.slice b2 cs'.length d2,.slice b3 M'.length d3],.int .i64 0])) (World.drew (set4 (set4 w8 ra (.int .i64 p) (.slice a1 bs'.length c1) (.slice a2 bs'.length c2) (.slice a3 N'.length c3)) rb (.int .i64 p) (.slice b1 cs'.length d1) (.slice b2 cs'.length d2) (.slice b3 M'.length d3)))) := HZ.out _ _ ⟨(qm (qm HB8.out HR12.out.1) HR12.out.2.1).drew,.inr ⟨HMM.out,HMN.out,rfl,bs',gs',N',a1,c1,a2,c2,a3,c3,cs',hs',M',b1,d1,b2,d2,b3,d3,rfl,HMA.out,(((HO8.out.on q1r HR4.out.1).on q1r HR4.out.2.1).up ((Below.refl _ _).drew)).base HR4.out.2.2,HMB.out,(((HP8.out.on q1r HGX.out.1).on q1r HGX.out.2).up ((Below.refl _ _).drew)).base HS5.out⟩⟩
    unfold set4 at *
    go_region
    go_wp2
    have z0 := q6 HF1a.out 0
    have z1 := q6 HF1a.out 1
    have z2 := q6 HF1a.out 2
    have z3 := q6 HF1a.out 3
    have y0 := q6 HF1b.out 0
    have y1 := q6 HF1b.out 1
    have y2 := q6 HF1b.out 2
    have y3 := q6 HF1b.out 3
    refine bodyPost_ret (v := .tuple #[.agg #[.int .i64 p,.slice a1 bs'.length c1,.slice a2 bs'.length c2,.slice a3 N'.length c3],.agg #[.int .i64 p,.slice b1 cs'.length d1,.slice b2 cs'.length d2,.slice b3 M'.length d3],.int .i64 0]) ?_ rfl HE1.out
    simp only [List.getElem?_toArray,List.getElem?_cons_zero,List.getElem?_cons_succ] at z0 z1 z2 z3 y0 y1 y2 y3
    simp [results,Try.results33,go_sem,z0,z1,z2,z3,y0,y1,y2,y3]
   ·clear xa0 xa1 xa2 xa3 ya0 ya1 ya2 ya3
    have dpq2 : (p != q) = true := by simpa using hpq
    rw [dpq2]
    have hk2 : BkH w8 ra (auO (.int .i64 0) (.slice none 0 0) (.slice none 0 0) (.slice none 0 0)) := HK2.out
    have hk3 : BkH w8 rb (auO (.int .i64 0) (.slice none 0 0) (.slice none 0 0) (.slice none 0 0)) := HK3.out
    have HBB : Hid (Below w.heap.size w w8) := HB8.out
    have hk32 := qG (x0 := .int .i64 0) (x1 := .slice none 0 0) (x2 := .slice none 0 0) (x3 := .slice none 0 0) hk3 HR12.out.2.2.symm
    have hk22 := qJ (x0 := .int .i64 0) (x1 := .slice none 0 0) (x2 := .slice none 0 0) (x3 := .slice none 0 0) hk2
    obtain ⟨⟨r0,r1,r2,r3⟩,g0,g1,g2,g3⟩ := hk2.cells4
    obtain ⟨⟨t0,t1,t2,t3⟩,f0,f1,f2,f3⟩ := hk32.cells4
    have HFA : Hid _ := qG (x0 := .int .i64 0) (x1 := .slice none 0 0) (x2 := .slice none 0 0) (x3 := .slice none 0 0) hk22 HR12.out.2.2
    have HFB : Hid _ := qJ (x0 := .int .i64 0) (x1 := .slice none 0 0) (x2 := .slice none 0 0) (x3 := .slice none 0 0) hk32
    have HE : Hid (Z (.returned (.tuple #[auZ,auZ,.int .i64 2])) (set4 (set4 w8 ra (.int .i64 0) (.slice none 0 0) (.slice none 0 0) (.slice none 0 0)) rb (.int .i64 0) (.slice none 0 0) (.slice none 0 0) (.slice none 0 0))) := HZ.out _ _ ⟨qm (qm HBB.out HR12.out.1) HR12.out.2.1,.inl ⟨2,by decide,rfl,.inr ⟨rfl,hpq⟩⟩⟩
    clear hk2 hk3 hk32 hk22 HBB HZ HO8 HP8 HMA HMB
    unfold set4 at HE HFA HFB t0 t1 t2 t3 f0 f1 f2 f3
    go_wp2
    have z0 := q6 HFA.out 0
    have z1 := q6 HFA.out 1
    have z2 := q6 HFA.out 2
    have z3 := q6 HFA.out 3
    have y0 := q6 HFB.out 0
    have y1 := q6 HFB.out 1
    have y2 := q6 HFB.out 2
    have y3 := q6 HFB.out 3
    refine bodyPost_ret (v := .tuple #[auZ,auZ,.int .i64 2]) ?_ rfl HE.out
    simp only [List.getElem?_toArray,List.getElem?_cons_zero,List.getElem?_cons_succ] at z0 z1 z2 z3 y0 y1 y2 y3
    simp [results,Try.results33,go_sem,z0,z1,z2,z3,y0,y1,y2,y3]
def SrR (p : Int) (nA : Nat) (bs : List Bool) (N : List Gd) (gs : List Int) (q : Int) (nB : Nat) (cs : List Bool) (M : List Gd) (hs : List Int) (op : Bool → Bool → Bool) (w : World) (e : Ending) (w' : World) : Prop :=
 Below w.heap.size w w' ∧ ((∃ z : Int,z ≠ 0 ∧ e = .returned (.tuple #[.slice none 0 0,.bool false,.int .i64 z]) ∧ ((z = 12 ∧ ¬ (MayG p nA N gs ∧ MayG q nB M hs)) ∨ (z = 2 ∧ p ≠ q))) ∨
  (MayG p nA N gs ∧ MayG q nB M hs ∧ p = q ∧ ∃ ts is a c,e = .returned (.tuple #[.slice a ts.length c,.bool is,.int .i64 0]) ∧ SchT p (nA * nB) (sayT p op bs N gs cs M hs) ts is ∧ w'.ownsRow w.heap.size 34 1 (.slice a ts.length c) ts.length (ltV ts)))
structure SrL (D : PD) (op : Bool → Bool → Bool) (w wr : World) (F : Nat → Prop) (j : Nat) (T : List PrP) : Prop where
 pr : PrS D wr F T
 bf : BfE D.nA D.nB D.K D.R D.R' j 0 T
 no : ∀ i,i < j → i < T.length + 1 → saysE D.bs D.bs' op (metE T i) = false
 jl : j ≤ T.length + 1
 b0 : Below w.heap.size w D.w0
theorem SrL.bel {D : PD} {op : Bool → Bool → Bool} {w wr : World} {F : Nat → Prop} {j : Nat} {T : List PrP} (h : SrL D op w wr F j T) : Below w.heap.size w wr := q7 h.b0 h.pr.bel
structure PDok (D : PD) : Prop where
 nA : 0 < D.nA
 nB : 0 < D.nB
 a2 : D.nA ≤ 256
 b2 : D.nB ≤ 256
 k2 : D.K ≤ 256
 rA : RowsP D.nA D.K D.R
 rB : RowsP D.nB D.K D.R'
theorem PDok.sq {D : PD} (h : PDok D) : D.nA * D.nB ≤ 65536 := Nat.mul_le_mul h.a2 h.b2
theorem SrL.go {D : PD} {op : Bool → Bool → Bool} {w wr : World} {F : Nat → Prop} {j : Nat} {T : List PrP} (h : SrL D op w wr F j T) (ok : PDok D) (hj : j < T.length + 1) : ∀ k,k ≤ D.K → (goE D.R D.R' T j k).length ≤ 65536 := fun k hk => by
 have := (h.bf.to ok.rA ok.rB ok.nA ok.nB ok.k2 hj k hk).few
 have := ok.sq
 omega
theorem SrL.next {D : PD} {op : Bool → Bool → Bool} {w wr w' : World} {F : Nat → Prop} {j : Nat} {T : List PrP} (h : SrL D op w wr F j T) (ok : PDok D) (hj : j < T.length + 1) (hs : saysE D.bs D.bs' op (metE T j) = false) {w1 : World} {e : Ending} (hr : RwsR D T j F w1 e w') : ∃ v F',e = .returned v ∧ SrL D op w w' F' (j + 1) (goE D.R D.R' T j D.K) := by
 obtain ⟨g,rfl,hg,_,F',hp,hf,_⟩ := hr
 have hpre := q1m D.R D.R' T j D.K
 have hl := hpre.length_le
 refine ⟨_,F',rfl,hp,h.bf.row ok.rA ok.rB ok.nA ok.nB ok.k2 hj,fun i hi hi2 => ?_,by omega,h.b0⟩
 ·by_cases e : i = j
  ·subst e; rw [qV hpre hj]; exact hs
  ·rw [qV hpre (by omega)]; exact h.no i (by omega) (by omega)
theorem SrL.up {D : PD} {op : Bool → Bool → Bool} {w wr w' : World} {F : Nat → Prop} {j : Nat} {T : List PrP} (h : SrL D op w wr F j T) (hb : Below wr.heap.size wr w') : SrL D op w w' F j T := ⟨h.pr.up hb,h.bf,h.no,h.jl,h.b0⟩
theorem q2c (p : Int) (aA : Option Addr) (nA cA : Nat) (aG : Option Addr) (nG cG : Nat) (aN : Option Addr) (nN cN : Nat) (q : Int) (bA : Option Addr) (mA dA : Nat) (bG : Option Addr) (mG dG : Nat) (bN : Option Addr) (mN dN : Nat) (bs cs : List Bool) (N : List Gd) (gs : List Int) (M : List Gd) (hs : List Int) (w : World)
  (hB : BoSl w aA nA cA bs) (hN : NdSl w aN nN cN N) (hG : ZSl w aG nG cG gs) (hok : ∀ z ∈ gs,I64 z) (kB : BoSl w bA mA dA cs) (kN : NdSl w bN mN dN M) (kG : ZSl w bG mG dG hs) (kok : ∀ z ∈ hs,I64 z) {fid : Nat} {op : Bool → Bool → Bool} (hV : VdF fid op) :
  Calls Try.prog 30 #[.agg #[.int .i64 p,.slice aA nA cA,.slice aG nG cG,.slice aN nN cN],.agg #[.int .i64 q,.slice bA mA dA,.slice bG mG dG,.slice bN mN dN],vdV fid] w (SrR p nA bs N gs q mA cs M hs op w) := by
 obtain ⟨Z,eZ⟩ : ∃ Z,Z = SrR p nA bs N gs q mA cs M hs op w := ⟨_,rfl⟩
 have HZ : Hid (∀ e w',SrR p nA bs N gs q mA cs M hs op w e w' → Z e w') := fun e w' h => by rw [eZ]; exact h
 rw [← eZ]
 clear eZ
 obtain ⟨w2,hw2⟩ : ∃ w2,w2 = (w.alloc (.cells #[.int .i64 p,.slice aA nA cA,.slice aG nG cG,.slice aN nN cN] 26 (0,0))).alloc (.cells #[.int .i64 q,.slice bA mA dA,.slice bG mG dG,.slice bN mN dN] 26 (0,0)) := ⟨_,rfl⟩
 have hb2 : Below w.heap.size w w2 := by rw [hw2]; exact q7 (q5 w _) (q5 _ _)
 have k0 : BkH w2 w.heap.size (auO (.int .i64 p) (.slice aA nA cA) (.slice aG nG cG) (.slice aN nN cN)) := by
  rw [hw2]; exact (qv w _).upB (q5 _ _)
 have k1 : BkH w2 (w.heap.size + 1) (auO (.int .i64 q) (.slice bA mA dA) (.slice bG mG dG) (.slice bN mN dN)) := by
  rw [hw2]; exact qh (by simp)
 have jc := q15 p aA nA cA aG nG cG aN nN cN q bA mA dA bG mG dG bN mN dN bs cs N gs M hs w2 (hB.up hb2) (hN.up hb2) (hG.up hb2) hok (kB.up hb2) (kN.up hb2) (kG.up hb2) kok
 have HW2 : Hid _ := hw2
 have HB2 : Hid _ := hb2
 obtain ⟨⟨s0,s1,s2,s3⟩,_⟩ := k0.cells4
 obtain ⟨⟨v0,v1,v2,v3⟩,_⟩ := k1.cells4
 clear hB hN hG hok kB kN kG kok k1 hw2 hb2 k0
 unfold vdV
 go_enter Try.func30,Try.ntmps30
 go_wp2_with (rw [← HW2.out])
 refine jc.mono ?_
 rintro e w3 ⟨hb3,⟨z,hz,rfl,hwhy⟩ | ⟨hM,kM,hpq,bs',gs',N',a1,c1,a2,c2,a3,c3,cs',hs',M',b1,d1,b2,d2,b3,d3,rfl,hMA,hO,hMB,hP⟩⟩
 ·have HE : Hid (∀ w',Below w3.heap.size w3 w' → Z (.returned (.tuple #[.slice none 0 0,.bool false,.int .i64 z])) w') := fun w' hb => HZ.out _ _ ⟨q7 (q7 HB2.out hb3) hb,.inl ⟨z,hz,rfl,hwhy⟩⟩
  have hz1 : (z != 0) = true := by simpa using hz
  clear jc s0 s1 s2 s3 v0 v1 v2 v3 hwhy HZ
  go_wp2
  go_ret3
  exact HE.out _ (q7 (q5 _ _) (q5 _ _))
 ·subst hpq
  obtain ⟨w4,hw4⟩ : ∃ w4,w4 = (w3.alloc (.cells #[.int .i64 p,.slice a1 bs'.length c1,.slice a2 bs'.length c2,.slice a3 N'.length c3] 26 (0,0))).alloc (.cells #[.int .i64 p,.slice b1 cs'.length d1,.slice b2 cs'.length d2,.slice b3 M'.length d3] 26 (0,0)) := ⟨_,rfl⟩
  have hb34 : Below w3.heap.size w3 w4 := by rw [hw4]; exact q7 (q5 w3 _) (q5 _ _)
  have kx : BkH w4 w3.heap.size (auO (.int .i64 p) (.slice a1 bs'.length c1) (.slice a2 bs'.length c2) (.slice a3 N'.length c3)) := by
   rw [hw4]; exact (qv w3 _).upB (q5 _ _)
  have ky : BkH w4 (w3.heap.size + 1) (auO (.int .i64 p) (.slice b1 cs'.length d1) (.slice b2 cs'.length d2) (.slice b3 M'.length d3)) := by
   rw [hw4]; exact qh (by simp)
  have hA := hMA.all hM
  have hBB := hMB.all kM
  have HA : Hid _ := hA
  have HBB : Hid _ := hBB
  have hO4 := hO.up hb34
  have hP4 := hP.up hb34
  have jb := q2A p a1 bs'.length c1 a2 bs'.length c2 a3 N'.length c3 b1 cs'.length d1 b2 cs'.length d2 b3 M'.length d3 bs' cs' N' gs' M' hs' w4 hA.may hO4.nd hO4.zs hO4.bo hBB.may hP4.nd hP4.zs hP4.bo
  have HFIN : Hid (∀ ts is a c w',Below w.heap.size w w' → SchA bs'.length cs'.length (2 ^ p.toNat) (rwA p N' gs') (rwA p M' hs') bs' cs' op ts is → w'.ownsRow w.heap.size 34 1 (.slice a ts.length c) ts.length (ltV ts) → Z (.returned (.tuple #[.slice a ts.length c,.bool is,.int .i64 0])) w') := fun ts is a c w' hb hS hw => HZ.out _ _ ⟨hb,.inr ⟨hM,kM,rfl,ts,is,a,c,rfl,SchT.min hA hBB hS,hw⟩⟩
  have HB4 : Hid _ := q7 (q7 HB2.out hb3) hb34
  obtain ⟨⟨xa0,xa1,xa2,xa3⟩,_⟩ := kx.cells4
  obtain ⟨⟨ya0,ya1,ya2,ya3⟩,_⟩ := ky.cells4
  have HW4 : Hid _ := hw4
  clear jc s0 s1 s2 s3 v0 v1 v2 v3 HZ hO hP hO4 hP4 hMA hMB hM kM kx ky hb3 hb34 hw4 hA hBB
  go_wp2_with (rw [← HW4.out])
  refine jb.mono ?_
  rintro e w5 ⟨hb5,D,F,rfl,hpr,hD0,hDA,hDB,hDK,hDb,hDb',hDR,hDR'⟩
  have HOK : Hid (PDok D) := ⟨by rw [hDA]; exact HA.out.may.s1,by rw [hDB]; exact HBB.out.may.s1,by rw [hDA]; exact HA.out.may.s2,by rw [hDB]; exact HBB.out.may.s2,by rw [hDK]; exact HA.out.may.k256,by rw [hDA,hDK,hDR]; exact HA.out.may.rows _,by rw [hDB,hDK,hDR']; exact HBB.out.may.rows _⟩
  have HL0 : Hid (SrL D op w w5 F 0 []) := ⟨hpr,q4w,fun i hi => by omega,by omega,by rw [hD0]; exact HB4.out⟩
  have HFN : Hid (∀ ts is a c w',Below w.heap.size w w' → SchA D.nA D.nB D.K D.R D.R' D.bs D.bs' op ts is → w'.ownsRow w.heap.size 34 1 (.slice a ts.length c) ts.length (ltV ts) → Z (.returned (.tuple #[.slice a ts.length c,.bool is,.int .i64 0])) w') := by rw [hDA,hDB,hDK,hDR,hDR',hDb,hDb']; exact HFIN.out
  clear jb HFIN hpr hD0 hDA hDB hDK hDb hDb' hDR hDR' hb5 xa0 xa1 xa2 xa3 ya0 ya1 ya2 ya3 HA HBB HB4 HW4
  have HV : Hid (VdF fid op) := hV
  clear hV
  generalize hNN : D.nA * D.nB = NN at *
  have HNN : Hid _ := hNN
  clear hNN
  go_wp2
  go_loopw [13] (fun v wr => ∃ (j : Nat) (T : List PrP) (F' : Nat → Prop),v = .int .i64 (j : Int) ∧ j ≤ NN + 1 ∧ Hid (SrL D op w wr F' j T)) (fun v _ => NN + 1 - (intOf v).toNat)
  case atStart => exact ⟨0,[],F,rfl,by omega,HL0⟩
  case round =>
   clear HL0
   obtain ⟨j,T,F1,rfl,hjN,HL⟩ := hrel
   obtain ⟨g,cap,hblk,_,_⟩ := HL.out.pr.read
   have c5 : wr.cell? ⟨D.b,5,none⟩ = some (.slice (some ⟨g,0,none⟩) (T.length + 1) cap) := q6 hblk 5
   have hfew := HL.out.bf.few
   rw [HNN.out] at hfew
   have hsq := HOK.out.sq
   rw [HNN.out] at hsq
   clear hblk
   by_cases hlt : j < T.length + 1
   ·obtain ⟨hm1,hm2⟩ := HL.out.bf.mt HOK.out.nA HOK.out.nB hlt
    have ji := q33 HL.out.pr j hlt hm1 hm2 HV.out
    have HM : Hid ((metE T j).1 < D.nA ∧ (metE T j).2 < D.nB) := ⟨hm1,hm2⟩
    clear hm1 hm2
    have HS : Hid (saysE D.bs D.bs' op (metE T j) = saysE D.bs D.bs' op (metE T j)) := rfl
    generalize hb : saysE D.bs D.bs' op (metE T j) = b at ji HS
    have HSB : Hid _ := hb
    clear hb HS
    have HLL : Hid (j < T.length + 1) := hlt
    generalize hL : T.length = L at *
    have HTL : Hid _ := hL
    clear hL
    go_wp2_with fail
    refine ji.mono ?_
    rintro e w6 ⟨rfl,hb6⟩
    have HL6 : Hid _ := HL.out.up hb6
    clear HL ji c5
    cases b with
    | true =>
     have hbk := HL6.out.bf.back
     obtain ⟨ts,hup,htl⟩ := q8g hbk j j (Nat.le_refl _) (by rw [HTL.out]; exact hlt)
     have jt := q41 HL6.out.pr j ts (by rw [HTL.out]; omega) (by rw [HTL.out]; exact hlt) hup hbk
     have HE : Hid (∀ w7 a c,Below w6.heap.size w6 w7 → w7.ownsRow w6.heap.size 34 1 (.slice a ts.reverse.length c) ts.reverse.length (ltV ts.reverse) → Z (.returned (.tuple #[.slice a ts.reverse.length c,.bool true,.int .i64 0])) w7) := fun w7 a c hb7 how => HFN.out _ _ a c w7 (q7 HL6.out.bel hb7) (HL6.out.bf.found HOK.out.rA HOK.out.rB HOK.out.nA HOK.out.nB HL6.out.no (by rw [HTL.out]; exact hlt) HSB.out hup) (qy how HL6.out.bel.size)
     clear HFN hup hbk htl HL6
     generalize ts.reverse = tr at *
     go_wp2_with fail
     refine jt.mono ?_
     rintro e w7 ⟨hb7,a,c,rfl,how⟩
     have HE2 : Hid _ := HE.out w7 a c hb7 how
     clear HE jt how hb7
     go_wp2
     go_ret3
     exact HE2.out
    | false =>
     have jr := q36 HL6.out.pr j (by rw [HTL.out]; exact hlt) HOK.out.k2 HOK.out.rA HOK.out.rB HOK.out.a2 HOK.out.b2 HM.out.1 HM.out.2 (HL6.out.go HOK.out (by rw [HTL.out]; exact hlt))
     have HN : Hid (∀ e w7,RwsR D T j F1 w6 e w7 → ∃ v F',e = .returned v ∧ SrL D op w w7 F' (j + 1) (goE D.R D.R' T j D.K)) := fun e w7 hr => HL6.out.next HOK.out (by rw [HTL.out]; exact hlt) HSB.out hr
     clear HFN HL6
     go_wp2_with fail
     refine jr.mono ?_
     intro e w7 hr
     obtain ⟨v,F9,rfl,hL9⟩ := HN.out e w7 hr
     have HL9 : Hid _ := hL9
     clear hr hL9 HN jr
     go_wp2
     go_roundw
     case rel => exact ⟨j + 1,_,F9,by go_num,by omega,HL9⟩
     case measure => simp [intOf]; omega
   ·have hj : j = T.length + 1 := by have := HL.out.jl; omega
    have HE : Hid _ := HFN.out [] false none 0 wr HL.out.bel (HL.out.bf.none HOK.out.rA HOK.out.rB HOK.out.nA HOK.out.nB HL.out.no (by omega)) ⟨rfl,.inl ⟨rfl,rfl⟩⟩
    subst hj
    clear HFN HL
    go_wp2
    go_ret3
    exact HE.out
def WyF (B0 : Nat) (w : World) (G : Nat → Prop) : Prop := ∀ k,G k → B0 ≤ k ∧ ∃ cs,w.heap[k]? = some (.cells cs 91 (0,0)) ∨ w.heap[k]? = some (.cells cs 93 (0,0))
theorem WyF.no {B0 : Nat} {w : World} {G : Nat → Prop} (h : WyF B0 w G) {k : Nat} {e : TypeId} {cs : Array Value} (hk : w.heap[k]? = some (.cells cs e (0,0))) (h1 : e ≠ 91) (h2 : e ≠ 93) : ¬ G k := fun hG => by
 obtain ⟨_,cs',h3 | h3⟩ := h k hG
 ·rw [hk] at h3; injection h3 with h3; injection h3 with _ h3 _; exact h1 h3
 ·rw [hk] at h3; injection h3 with h3; injection h3 with _ h3 _; exact h2 h3
theorem Fr.new2 {w wr w5 : World} {F F' G G' : Nat → Prop} (h : Fr w wr F F') (hf : Fr wr w5 G G') (hG : ∀ k,G k → w.heap.size ≤ k) : Fr w w5 F F' :=
 ⟨hf.os.trans h.os,hf.tape.trans h.tape,hf.output.trans h.output,Nat.le_trans h.size hf.size,fun k hk hn => (hf.keep k (Nat.lt_of_lt_of_le hk h.size) (fun e => by have := hG k e; omega)).trans (h.keep k hk hn),h.foot⟩
theorem PrS.way {D : PD} {wr w5 : World} {F G G' : Nat → Prop} {T : List PrP} (h : PrS D wr F T) (hf : Fr wr w5 G G') (hG : WyF D.w0.heap.size wr G) : PrS D w5 F T := by
 have hz : NoZ wr G := fun k hk cs => ⟨fun e => hG.no e (by decide) (by decide) hk,fun e => hG.no e (by decide) (by decide) hk⟩
 refine h.far (hf.below (fun k hk => (hG k hk).1) h.bel.size) (fun k hk => hf.keep k (h.lt k hk) ?_) (h.rA.fr hf hz) (h.rB.fr hf hz)
 obtain ⟨v,h1,h2,h3⟩ := h.ex
 rcases (h3 k).1 hk with rfl | rfl | e
 ·exact hG.no h1 (by decide) (by decide)
 ·obtain ⟨es,cl,hm⟩ := h.num.isMap
  intro hk2
  obtain ⟨_,cs',h4 | h4⟩ := hG _ hk2
  ·rw [hm] at h4; cases h4
  ·rw [hm] at h4; cases h4
 ·obtain ⟨cs,hc⟩ := qx h2 e
  exact hG.no hc (by decide) (by decide)
theorem PrS.noW {D : PD} {w : World} {F : Nat → Prop} {T : List PrP} (h : PrS D w F T) : NoW w F := by
 obtain ⟨v,h1,h2,h3⟩ := h.ex
 obtain ⟨es,cl,hm⟩ := h.num.isMap
 intro k hk cs
 rcases (h3 k).1 hk with rfl | rfl | hk
 ·rw [h1]
  exact ⟨fun e => by injection e with e; unfold prO at e; injection e with _ e _; exact absurd e (by decide),fun e => by injection e with e; unfold prO at e; injection e with _ e _; exact absurd e (by decide)⟩
 ·rw [hm]
  exact ⟨(fun e => by cases e),(fun e => by cases e)⟩
 ·obtain ⟨cs',hc⟩ := qx h2 hk
  rw [hc]
  exact ⟨fun e => by injection e with e; injection e with _ e _; exact absurd e (by decide),fun e => by injection e with e; injection e with _ e _; exact absurd e (by decide)⟩
def lenV : Value → Nat
 | .slice _ n _ => n
 | _ => 0
def GtR (D : PD) (F : Nat → Prop) (w : World) (e : Ending) (w' : World) : Prop :=
 ∃ (T : List PrP) (F' : Nat → Prop) (B : List (List (Nat × Nat))) (g c : Nat),e = .returned (.slice (some ⟨g,0,none⟩) (T.length + 1) c) ∧ PrS D w' F' T ∧ Fr w w' F F' ∧ w.heap.size ≤ g ∧ BwM w' g (T.length + 1) B ∧ BkOk (T.length + 1) D.K (rowsE D.R D.R' D.K T) B ∧ BfE D.nA D.nB D.K D.R D.R' (T.length + 1) 0 T ∧ RchE D.R D.R' D.K (T.length + 1) T
structure GtL (D : PD) (F : Nat → Prop) (w wr : World) (vb : Value) (vs : List Value) (F' : Nat → Prop) (n k : Nat) (T : List PrP) (B : List (List (Nat × Nat))) : Prop where
 pr : PrS D wr F' T
 fr : Fr w wr F F'
 gb : GbM w.heap.size wr vb vs B
 bi : BiE D.R D.R' D.K T n k B
theorem GtL.grow {D : PD} {F F' : Nat → Prop} {w wr w5 : World} {vb : Value} {vs : List Value} {n k : Nat} {T : List PrP} {B : List (List (Nat × Nat))} (h : GtL D F w wr vb vs F' n k T B) (hw : D.w0.heap.size ≤ w.heap.size) {G G' : Nat → Prop} (hf : Fr wr w5 G G') (hG : WyF w.heap.size wr G) {vb' : Value} {vs' : List Value} {k' : Nat} {B' : List (List (Nat × Nat))} (hb : GbM w.heap.size w5 vb' vs' B') (hi : BiE D.R D.R' D.K T n k' B') : GtL D F w w5 vb' vs' F' n k' T B' :=
 ⟨h.pr.way hf (fun k hk => ⟨by have := (hG k hk).1; omega,(hG k hk).2⟩),h.fr.new2 hf (fun k hk => (hG k hk).1),hb,hi⟩
theorem q5I {wr w5 : World} {o : Obj} {v : Value} (hg : (wr.alloc o).grownBy w5 v.ownBlock) : Fr wr w5 (fun k => v.ownBlock = some k) (fun _ => False) :=
 ⟨hg.os,hg.tape,hg.output,by have := hg.size; simp at this; omega,fun k hk hn => qt hg hk hn,fun _ h => h.elim⟩
theorem q30 {D : PD} {w : World} {F : Nat → Prop} (h : PrS D w F []) (ok : PDok D) (hK0 : 0 < D.K) :
  Calls Try.prog 39 #[.pointer (some ⟨D.b,0,none⟩)] w (GtR D F w) := by
 obtain ⟨Z,eZ⟩ : ∃ Z,Z = GtR D F w := ⟨_,rfl⟩
 have HZ : Hid (∀ e w',GtR D F w e w' → Z e w') := fun e w' h => by rw [eZ]; exact h
 rw [← eZ]
 clear eZ
 have HOK : Hid _ := ok
 have hw0 := h.bel.size
 have HL0 : Hid (GtL D F w w (.slice none 0 0) [] F 0 0 [] []) := ⟨h,Fr.ofBelow (Below.refl _ _),q9G _ _,q7J _ _ _ _⟩
 have hsq := ok.sq
 have hk256 := ok.k2
 clear h ok
 generalize hNN : D.nA * D.nB = NN at *
 have HNN : Hid _ := hNN
 clear hNN
 go_enter Try.func39,Try.ntmps39
 go_wp2
 go_loopw [3,4] (fun vb i wr => ∃ (n : Nat) (T : List PrP) (F' : Nat → Prop) (vs : List Value) (B : List (List (Nat × Nat))),i = .int .i64 (n : Int) ∧ n ≤ T.length + 1 ∧ (0 < n → B.length = T.length + 1) ∧ (n = 0 → B.length = 0) ∧ T.length ≤ NN ∧ Hid (GtL D F w wr vb vs F' n 0 T B) ∧ Hid (BfE D.nA D.nB D.K D.R D.R' n 0 T) ∧ Hid (RchE D.R D.R' D.K n T)) (fun _ i _ => NN + 1 - (intOf i).toNat)
 case atStart => exact ⟨0,[],F,[],[],rfl,by omega,fun h => by omega,fun _ => rfl,Nat.zero_le _,HL0,q4w,q7q⟩
 case round =>
  clear HL0
  obtain ⟨n,T,F1,vs,B,rfl,hn,hBl,hB0,hTN,HL,HBF,HRC⟩ := hrel
  obtain ⟨ba,bc,rfl⟩ := qe HL.out.gb.out
  obtain ⟨gm,cap,hblk,_,_⟩ := HL.out.pr.read
  have c5 : wr.cell? ⟨D.b,5,none⟩ = some (.slice (some ⟨gm,0,none⟩) (T.length + 1) cap) := q6 hblk 5
  clear hblk
  by_cases hlt : n < T.length + 1
  ·obtain ⟨hm1,hm2⟩ := HBF.out.mt HOK.out.nA HOK.out.nB hlt
   have hgo : ∀ k,k ≤ D.K → (goE D.R D.R' T n k).length ≤ NN := fun k hk => by
    have := (HBF.out.to HOK.out.rA HOK.out.rB HOK.out.nA HOK.out.nB HOK.out.k2 hlt k hk).few
    rw [HNN.out] at this; exact this
   have jr := q36 HL.out.pr n hlt HOK.out.k2 HOK.out.rA HOK.out.rB HOK.out.a2 HOK.out.b2 hm1 hm2 (fun k hk => by have := hgo k hk; omega)
   have hT2 := hgo D.K (Nat.le_refl _)
   have hpre := q1m D.R D.R' T n D.K
   have hpl := hpre.length_le
   have HBF2 : Hid _ := HBF.out.row HOK.out.rA HOK.out.rB HOK.out.nA HOK.out.nB HOK.out.k2 hlt
   have HRC2 : Hid _ := HRC.out.row hlt
   have HMM : Hid (∀ x l,gone n 0 x l → l < D.K → stp D.R D.R' (metE T x) l ∈ pqP T) := fun x l hg hl => by
    obtain ⟨Q,hQ,hm⟩ := HBF.out
    obtain ⟨y,hy,hs,_,h2⟩ := hm.code HOK.out.nB (i := x) (by unfold gone at hg; omega)
    have hyl := hQ.lt y (List.mem_of_getElem? hy)
    obtain ⟨z,hz,e,_⟩ := hQ.met x y l hy hl hg
    rw [q1Y hyl hl,hs] at e
    exact (hm.codes (HOK.out.rB.lt _ l h2 hl)).1 (by rw [← e]; exact List.mem_map_of_mem hz)
   have HN : Hid (∀ e w5,RwsR D T n F1 wr e w5 → ∃ g F2,e = .returned (.slice (some ⟨g,0,none⟩) D.K D.K) ∧ IzB w5 g ((rowEb D.R D.R' D.K (goE D.R D.R' T n D.K) n).map Int.ofNat) ∧ GtL D F w w5 (.slice ba B.length bc) vs F2 n 0 (goE D.R D.R' T n D.K) B) := fun e w5 h5 => by
    obtain ⟨g,rfl,hg,hz,F2,hp2,hf2,hng⟩ := h5
    exact ⟨g,F2,rfl,hz,hp2,HL.out.fr.trans hf2,HL.out.gb.fr hf2 HL.out.pr.noW,HL.out.bi.pre hpre (.inl hlt) HMM.out⟩
   have hmt := qV hpre hlt
   have HNM : Hid (∀ l,l < D.K → (rowEb D.R D.R' D.K (goE D.R D.R' T n D.K) n).getD l 0 = nmE (goE D.R D.R' T n D.K) (stp D.R D.R' (metE (goE D.R D.R' T n D.K) n) l) ∧ nmE (goE D.R D.R' T n D.K) (stp D.R D.R' (metE (goE D.R D.R' T n D.K) n) l) < (goE D.R D.R' T n D.K).length + 1) := fun l hl => ⟨q3r hl,by rw [hmt]; exact q5O (q6y D.R D.R' T n hl)⟩
   have HRL : Hid ((rowEb D.R D.R' D.K (goE D.R D.R' T n D.K) n).length = D.K) := q1y n
   clear HL HBF HRC HMM hgo hm1 hm2 hpre hmt
   generalize goE D.R D.R' T n D.K = T2 at *
   generalize rowEb D.R D.R' D.K T2 n = row at *
   go_wp2_with fail
   refine jr.mono ?_
   intro e w5 h5
   obtain ⟨g,F2,rfl,hz5,hL5⟩ := HN.out e w5 h5
   have HZ5 : Hid (IzB w5 g (row.map Int.ofNat)) := hz5
   have HL5 : Hid _ := hL5
   clear h5 HN jr hz5 hL5 c5
   go_wp2
   go_loopw [3] (fun vb wr => ∃ (vs : List Value) (B : List (List (Nat × Nat))) (ba : Option Addr) (bc : Nat),vb = .slice ba B.length bc ∧ B.length ≤ T2.length + 1 ∧ Hid (GtL D F w wr vb vs F2 n 0 T2 B) ∧ Hid (IzB wr g (row.map Int.ofNat))) (fun vb _ => T2.length + 1 - lenV vb)
   case atStart => exact ⟨vs,B,ba,bc,rfl,by omega,HL5,HZ5⟩
   case round =>
    clear HL5 HZ5
    obtain ⟨vs,B,ba,bc,rfl,hBT,HL,HI⟩ := hrel
    obtain ⟨gm,cap,hblk,_,_⟩ := HL.out.pr.read
    have c5 : wr.cell? ⟨D.b,5,none⟩ = some (.slice (some ⟨gm,0,none⟩) (T2.length + 1) cap) := q6 hblk 5
    clear hblk
    have hws := HL.out.fr.size
    by_cases hlt2 : B.length < T2.length + 1
    ·have hO := World.ownsRow.alloc HL.out.gb.out (.cells #[.slice none 0 0] 91)
     have hcl : (wr.alloc (.cells #[.slice none 0 0] 91)).cell? ⟨wr.heap.size,0,none⟩ = some (.slice none 0 0) := q6 (MapKept.heap_alloc wr _).1 0
     have hsz : w.heap.size ≤ (wr.alloc (.cells #[.slice none 0 0] 91)).heap.size := by simp; omega
     have HNX : Hid (∀ g5 c5 w5,w5.ownsRow w.heap.size 91 1 (.slice (some ⟨g5,0,none⟩) (B.length + 1) c5) (B.length + 1) (vs ++ [.slice none 0 0]) → (wr.alloc (.cells #[.slice none 0 0] 91)).grownBy w5 (Value.slice ba B.length bc).ownBlock → GtL D F w w5 (.slice (some ⟨g5,0,none⟩) (B.length + 1) c5) (vs ++ [.slice none 0 0]) F2 n 0 T2 (B ++ [[]]) ∧ IzB w5 g (row.map Int.ofNat)) := fun g5 c5 w5 q1 q2 => by
      have hf := q5I q2
      have hG : WyF w.heap.size wr (fun k => (Value.slice ba B.length bc).ownBlock = some k) := fun k hk => ⟨qp HL.out.gb.out k hk,by obtain ⟨cs,hc⟩ := qx HL.out.gb.out hk; exact ⟨cs,.inl hc⟩⟩
      exact ⟨HL.out.grow hw0 hf hG (HL.out.gb.nil q1 q2) HL.out.bi.nil,HI.out.fr hf (hG.no HI.out (by decide) (by decide))⟩
     have HLB : Hid ((B ++ [[]] : List (List (Nat × Nat))).length = B.length + 1) := by show _ = _; simp
     clear HL HI
     generalize hbl : B.length = bl at *
     clear hbl
     go_wp2_with (at_builtin; refine q4U rfl _ _ rfl w.heap.size _ bl vs rfl hO wr.heap.size rfl hcl (by omega) hsz ?_)
     intro g5 c5' w5 hown hgr _
     obtain ⟨h1,h2⟩ := HNX.out g5 c5' w5 hown hgr
     have HL7 : Hid (GtL D F w w5 (.slice (some ⟨g5,0,none⟩) (B ++ [[]]).length c5') (vs ++ [.slice none 0 0]) F2 n 0 T2 (B ++ [[]])) := by
      show GtL _ _ _ _ _ _ _ _ _ _ _
      rw [HLB.out]; exact h1
     have HI7 : Hid (IzB w5 g (row.map Int.ofNat)) := h2
     clear h1 h2 HNX hown hgr hO hcl hsz c5
     go_wp2
     go_roundw
     case rel => exact ⟨vs ++ [.slice none 0 0],B ++ [[]],some ⟨g5,0,none⟩,c5',by rw [HLB.out],by rw [HLB.out]; omega,by rw [HLB.out] at HL7; exact HL7,HI7⟩
     case measure => simp [lenV]; omega
    ·have hBe : B.length = T2.length + 1 := by omega
     have HBE : Hid _ := hBe
     obtain ⟨w6,hw6⟩ : ∃ w6,w6 = wr := ⟨_,rfl⟩
     subst hw6
     rw [hBe] at HL ⊢
     clear hBT hlt2
     go_wp2
     clear c5
     go_loopw [33] (fun i wr => ∃ (k : Nat) (vs : List Value) (B : List (List (Nat × Nat))),k ≤ D.K ∧ i = .int .i64 (k : Int) ∧ B.length = T2.length + 1 ∧ Hid (GtL D F w wr (.slice ba (T2.length + 1) bc) vs F2 n k T2 B) ∧ Hid (IzB wr g (row.map Int.ofNat))) (fun i _ => D.K - (intOf i).toNat)
     case atStart => exact ⟨0,vs,B,Nat.zero_le _,rfl,hBe,HL,HI⟩
     case round =>
      clear HL HI HBE hBe
      obtain ⟨k,vs,B,hk,rfl,hBe,HL,HI⟩ := hrel
      have hws := HL.out.fr.size
      by_cases hkK : k < D.K
      ·obtain ⟨hn1,hn2⟩ := HNM.out k hkK
       have cw := HI.out.cell (i := k) (by rw [List.length_map,HRL.out]; exact hkK)
       rw [qC (by rw [HRL.out]; exact hkK),hn1] at cw
       have ixw := fun w' => qg g D.K D.K k hkK w'
       have HPT : Hid _ := HL.out.bi.put hkK (by rw [hBe]; exact hn2)
       clear hn1
       generalize nmE T2 (stp D.R D.R' (metE T2 n) k) = t at *
       have htB : t < B.length := by omega
       obtain ⟨gb,cb,a,c,e1,hgb,cc,hvt,hot⟩ := HL.out.gb.at htB
       have e1' := e1
       rw [hBe] at e1
       injection e1 with e11 _ e13
       subst e11 e13
       have ixb := fun w' => q4r gb (T2.length + 1) bc t hn2 w'
       have hfew : (B.getD t []).length ≤ 20000000 := by
        have h1 : ((B.getD t []).map fun x => x.1 * 256 + x.2).Nodup := by
         rw [List.Nodup,List.pairwise_map]
         refine (List.Pairwise.and_mem.1 (HL.out.bi.nd t)).imp fun {a b} hab e => ?_
         obtain ⟨ha,hb,hne⟩ := hab
         have h2 := ((HL.out.bi.mem t a.1 a.2).1 ha).2.1
         have h3 := ((HL.out.bi.mem t b.1 b.2).1 hb).2.1
         exact hne (Prod.ext (by omega) (by omega))
        have := qn (n := 20000000) h1 (fun z hz => by
         obtain ⟨x,hx,rfl⟩ := List.mem_map.1 hz
         obtain ⟨h2,h3,_⟩ := (HL.out.bi.mem t x.1 x.2).1 hx
         unfold gone at h2
         omega)
        rw [List.length_map] at this
        omega
       have hw32 : IntKind.i32.wrap (n : Int) = (n : Int) := by rw [IntKind.wrap_i32]; omega
       have hw8 : IntKind.u8.wrap (k : Int) = (k : Int) := by rw [IntKind.wrap_u8]; omega
       have hO := World.ownsRow.alloc hot (.cells #[.int .i32 (n : Int),.int .u8 (k : Int)] 93)
       have hcl : (wr.alloc (.cells #[.int .i32 (n : Int),.int .u8 (k : Int)] 93)).heap[wr.heap.size]? = some (.cells #[.int .i32 (n : Int),.int .u8 (k : Int)] 93 (0,0)) := (MapKept.heap_alloc wr _).1
       have hsz : w.heap.size ≤ (wr.alloc (.cells #[.int .i32 (n : Int),.int .u8 (k : Int)] 93)).heap.size := by simp; omega
       have HNX : Hid (∀ g5 c5 w5,w5.ownsRow w.heap.size 93 2 (.slice (some ⟨g5,0,none⟩) ((B.getD t []).length + 1) c5) ((B.getD t []).length + 1) (encW (B.getD t [] ++ [(n,k)])) → (wr.alloc (.cells #[.int .i32 (n : Int),.int .u8 (k : Int)] 93)).grownBy w5 (Value.slice a (B.getD t []).length c).ownBlock → ((Value.slice a (B.getD t []).length c).ownBlock = some g5 ∨ g5 = (wr.alloc (.cells #[.int .i32 (n : Int),.int .u8 (k : Int)] 93)).heap.size) → (∃ u,w5.cell? ⟨gb,t,none⟩ = some u) ∧ w5.frozen? ⟨gb,t,none⟩ = false ∧ GtL D F w (w5.setCell ⟨gb,t,none⟩ (.slice (some ⟨g5,0,none⟩) ((B.getD t []).length + 1) c5)) (.slice (some ⟨gb,0,none⟩) (T2.length + 1) bc) (vs.set t (.slice (some ⟨g5,0,none⟩) ((B.getD t []).length + 1) c5)) F2 n (k + 1) T2 (B.set t (B.getD t [] ++ [(n,k)])) ∧ IzB (w5.setCell ⟨gb,t,none⟩ (.slice (some ⟨g5,0,none⟩) ((B.getD t []).length + 1) c5)) g (row.map Int.ofNat)) := fun g5 c5 w5 q1 q2 q3 => by
        obtain ⟨p1,p2,p3,p4⟩ := HL.out.gb.put e1' htB hvt q1 q2 q3
        have hob : (Value.slice (some ⟨gb,0,none⟩) (T2.length + 1) bc).ownBlock = some gb := rfl
        have hf : Fr wr (w5.setCell ⟨gb,t,none⟩ (.slice (some ⟨g5,0,none⟩) ((B.getD t []).length + 1) c5)) (fun j => (Value.slice a (B.getD t []).length c).ownBlock = some j ∨ j = gb) (fun _ => False) := by
         have hf1 := q5I q2
         exact ⟨hf1.os,hf1.tape,hf1.output,by have := hf1.size; simp; omega,fun j hj hn => (Below.heap_setCell _ _ _ _ (by dsimp only; exact fun e => hn (.inr e))).trans (hf1.keep j hj (fun e => hn (.inl e))),fun _ h => h.elim⟩
        have hG : WyF w.heap.size wr (fun j => (Value.slice a (B.getD t []).length c).ownBlock = some j ∨ j = gb) := fun j hj => by
         rcases hj with hj | rfl
         ·obtain ⟨cs,hc⟩ := qx hot hj
          exact ⟨qp hot j hj,cs,.inr hc⟩
         ·obtain ⟨cs,hc⟩ := qx HL.out.gb.out hob
          exact ⟨hgb,cs,.inl hc⟩
        exact ⟨p1,p2,HL.out.grow hw0 hf hG p3 HPT.out,HI.out.fr hf (hG.no HI.out (by decide) (by decide))⟩
       have HBS : Hid ((B.set t (B.getD t [] ++ [(n,k)])).length = T2.length + 1) := by show _ = _; rw [List.length_set]; exact hBe
       clear HL HI HPT hot hvt e1'
       generalize B.getD t [] = Y at *
       generalize hfl : Y.length = fl at *
       clear hfl
       go_wp2_with (at_builtin; refine q4V rfl _ _ rfl w.heap.size _ fl Y (n,k) rfl hO wr.heap.size rfl hcl (by omega) hsz ?_)
       intro g5 c5' w5 hown hgr hloc
       obtain ⟨⟨u,cu⟩,fu,h1,h2⟩ := HNX.out g5 c5' w5 hown hgr (hloc.imp id (fun e => by simpa using e))
       have HL7 : Hid _ := h1
       have HI7 : Hid (IzB (w5.setCell ⟨gb,t,none⟩ (.slice (some ⟨g5,0,none⟩) (fl + 1) c5')) g (row.map Int.ofNat)) := h2
       clear h1 h2 HNX hown hgr hloc hO hcl hsz cc cw
       go_wp2
       go_roundw
       case rel => exact ⟨k + 1,_,_,by omega,by go_num,HBS.out,HL7,HI7⟩
       case measure => simp [intOf]; omega
      ·obtain rfl : k = D.K := by omega
       have HL8 : Hid (GtL D F w wr (.slice ba (T2.length + 1) bc) vs F2 (n + 1) 0 T2 B) := ⟨HL.out.pr,HL.out.fr,HL.out.gb,HL.out.bi.next⟩
       clear HL HI
       go_wp2
       go_roundw
       case rel => exact ⟨n + 1,T2,F2,vs,B,by go_num,by omega,fun _ => hBe,fun h => by omega,hT2,HL8,HBF2,HRC2⟩
       case measure => simp [intOf]; omega
  ·have hne : n = T.length + 1 := by omega
   have hBe := hBl (by omega)
   subst hne
   obtain ⟨g,c,e,hg,hbw⟩ := HL.out.gb.bw (by omega)
   rw [hBe] at hbw e
   injection e with e1 _ e3
   subst e1 e3
   have HE : Hid _ := HZ.out _ wr ⟨T,F1,B,g,bc,rfl,HL.out.pr,HL.out.fr,hg,hbw,HL.out.bi.ok,HBF.out,HRC.out⟩
   clear HZ HL HBF HRC hbw
   rw [hBe]
   go_wp2
   exact HE.out
end Go.Proofs.Ytcnkgokfjafgkaa
