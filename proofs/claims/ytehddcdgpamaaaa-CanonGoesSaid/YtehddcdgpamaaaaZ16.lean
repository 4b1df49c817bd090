/- Texts of the proof, put together: what it uses. -/
import Derived.Lib.QuietBelow
import Derived.BigQuiet
import Derived.Test.YtehddcdgpamaaaaZ04
import Derived.Test.YtehddcdgpamaaaaZ10
import Derived.Test.YtehddcdgpamaaaaZ11
import Derived.Test.YtehddcdgpamaaaaZ13
import Derived.Test.YtehddcdgpamaaaaZ15
set_option maxRecDepth 100000
set_option maxHeartbeats 16000000
namespace Go.Proofs.Ytehddcdgpamaaaa
open Go.RowKit Go.Maps Go.Sort
def MnnR (p : Int) (nA : Nat) (bs : List Bool) (N : List Gd) (gs : List Int) (w : World) (e : Ending) (w' : World) : Prop :=
 Below w.heap.size w w' ∧ ((¬ MayG p nA N gs ∧ e = .returned (.tuple #[.agg #[.int .i64 0,.slice none 0 0,.slice none 0 0,.slice none 0 0],.int .i64 12])) ∨
  (MayG p nA N gs ∧ ∃ (bs' : List Bool) (gs' : List Int) (N' : List Gd) (a1 : Option Addr) (c1 : Nat) (a2 : Option Addr) (c2 : Nat) (a3 : Option Addr) (c3 : Nat),e = .returned (.tuple #[.agg #[.int .i64 p,.slice a1 bs'.length c1,.slice a2 bs'.length c2,.slice a3 N'.length c3],.int .i64 0]) ∧ MinA p nA bs N gs bs' gs' N' ∧ OwA w' w.heap.size a1 c1 a2 c2 a3 c3 bs' gs' N'))
abbrev set4 (W : World) (r : Nat) (x0 x1 x2 x3 : Value) : World := (((W.setCell ⟨r,0,none⟩ x0).setCell ⟨r,1,none⟩ x1).setCell ⟨r,2,none⟩ x2).setCell ⟨r,3,none⟩ x3
theorem q4r {W : World} {r : Nat} {x0 x1 x2 x3 y0 y1 y2 y3 : Value} (hr : W.heap[r]? = some (.cells #[y0,y1,y2,y3] 26 (0,0))) : (set4 W r x0 x1 x2 x3).heap[r]? = some (.cells #[x0,x1,x2,x3] 26 (0,0)) := by
 have h1 := heap_setCell_same _ r 0 _ _ x0 hr
 have h2 := heap_setCell_same _ r 1 _ _ x1 h1
 have h3 := heap_setCell_same _ r 2 _ _ x2 h2
 exact heap_setCell_same _ r 3 _ _ x3 h3
theorem q3q {B : Nat} {w W : World} {r : Nat} {x0 x1 x2 x3 : Value} (h : Below B w W) (h2 : B ≤ r) : Below B w (set4 W r x0 x1 x2 x3) :=
 (((h.setCell (by dsimp only; exact h2) _).setCell (by dsimp only; exact h2) _).setCell (by dsimp only; exact h2) _).setCell (by dsimp only; exact h2) _
theorem q7X {W : World} {r : Nat} {x0 x1 x2 x3 : Value} : OnG r W (set4 W r x0 x1 x2 x3) := q1j (q1j (q1j (q1j (q2Y r W) 0 x0) 1 x1) 2 x2) 3 x3
theorem qC (p : Int) (aA : Option Addr) (nA cA : Nat) (aG : Option Addr) (nG cG : Nat) (aN : Option Addr) (nN cN : Nat) (bs : List Bool) (N : List Gd) (gs : List Int) (w : World) (hB : BoSl w aA nA cA bs) (hN : NdSl w aN nN cN N) (hG : ZSl w aG nG cG gs) (hok : ∀ z ∈ gs,I64 z) :
  Calls Try.prog 10 #[.agg #[.int .i64 p,.slice aA nA cA,.slice aG nG cG,.slice aN nN cN]] w (MnnR p nA bs N gs w) := by
 obtain ⟨Z,eZ⟩ : ∃ Z,Z = MnnR p nA bs N gs w := ⟨_,rfl⟩
 have HZ : Hid (∀ e w',MnnR p nA bs N gs w e w' → Z e w') := fun e w' h => by rw [eZ]; exact h
 rw [← eZ]
 clear eZ
 obtain ⟨w2,hw2⟩ : ∃ w2,w2 = (w.alloc (.cells #[.int .i64 p,.slice aA nA cA,.slice aG nG cG,.slice aN nN cN] 26 (0,0))).alloc (.cells #[.int .i64 0,.slice none 0 0,.slice none 0 0,.slice none 0 0] 26 (0,0)) := ⟨_,rfl⟩
 have hb2 : Below w.heap.size w w2 := by rw [hw2]; exact qa (qb w _) (qb _ _)
 have hA2 : w2.heap[w.heap.size]? = some (.cells #[.int .i64 p,.slice aA nA cA,.slice aG nG cG,.slice aN nN cN] 26 (0,0)) := by
  rw [hw2]
  have h1 := (MapKept.heap_alloc w (.cells #[.int .i64 p,.slice aA nA cA,.slice aG nG cG,.slice aN nN cN] 26 (0,0))).1
  exact ((qb _ _).block _ (by simp)).trans h1
 have hR2 : w2.heap[w.heap.size + 1]? = some (.cells #[.int .i64 0,.slice none 0 0,.slice none 0 0,.slice none 0 0] 26 (0,0)) := by
  rw [hw2]
  have h1 := (MapKept.heap_alloc (w.alloc (.cells #[.int .i64 p,.slice aA nA cA,.slice aG nG cG,.slice aN nN cN] 26 (0,0))) (.cells #[.int .i64 0,.slice none 0 0,.slice none 0 0,.slice none 0 0] 26 (0,0))).1
  simpa using h1
 have jc := q12 p aA nA cA aG nG cG aN nN cN N gs w2 (hN.up hb2) (hG.up hb2) hok
 have t0 : w2.cell? ⟨w.heap.size,0,none⟩ = some (.int .i64 p) := qc hA2 0
 have t1 : w2.cell? ⟨w.heap.size,1,none⟩ = some (.slice aA nA cA) := qc hA2 1
 have t2 : w2.cell? ⟨w.heap.size,2,none⟩ = some (.slice aG nG cG) := qc hA2 2
 have t3 : w2.cell? ⟨w.heap.size,3,none⟩ = some (.slice aN nN cN) := qc hA2 3
 have HW2 : Hid _ := hw2
 have HB2 : Hid _ := hb2
 have HA2 : Hid _ := hA2
 have HR2 : Hid _ := hR2
 have HB : Hid _ := hB
 have HN : Hid _ := hN
 have HG : Hid _ := hG
 clear hw2 hb2 hA2 hR2 hB hN hG hok
 go_enter Try.func10,Try.ntmps10
 go_wp2_with (rw [← HW2.out])
 refine jc.mono ?_
 rintro e w3 ⟨hb3,v,rfl,⟨rfl,hM⟩ | ⟨rfl,hM⟩⟩
 ·have hA3 := (hb3.block _ (Array.getElem?_eq_some_iff.1 HA2.out).1).trans HA2.out
  have hR3 := (hb3.block _ (Array.getElem?_eq_some_iff.1 HR2.out).1).trans HR2.out
  have hbb := qa HB2.out hb3
  have js := q2R p aA nA cA aG nG cG aN nN cN bs N gs w3 hM (HB.out.up hbb) (HN.out.up hbb) (HG.out.up hbb)
  have s0 : w3.cell? ⟨w.heap.size,0,none⟩ = some (.int .i64 p) := qc hA3 0
  have s1 : w3.cell? ⟨w.heap.size,1,none⟩ = some (.slice aA nA cA) := qc hA3 1
  have s2 : w3.cell? ⟨w.heap.size,2,none⟩ = some (.slice aG nG cG) := qc hA3 2
  have s3 : w3.cell? ⟨w.heap.size,3,none⟩ = some (.slice aN nN cN) := qc hA3 3
  have HR3 : Hid _ := hR3
  have HBB : Hid _ := hbb
  have HM : Hid _ := hM
  clear jc t0 t1 t2 t3 hb3 hA3 hR3 hbb hM HW2
  go_wp2_with fail
  refine js.mono ?_
  rintro e w4 ⟨hb4,bs',gs',N',a1,c1,a2,c2,a3,c3,rfl,hMA,hO⟩
  have hR4 := (hb4.block _ (Array.getElem?_eq_some_iff.1 HR3.out).1).trans HR3.out
  have hrl := (Array.getElem?_eq_some_iff.1 HR3.out).1
  have r0 : w4.cell? ⟨w.heap.size + 1,0,none⟩ = some (.int .i64 0) := qc hR4 0
  have r1 : w4.cell? ⟨w.heap.size + 1,1,none⟩ = some (.slice none 0 0) := qc hR4 1
  have r2 : w4.cell? ⟨w.heap.size + 1,2,none⟩ = some (.slice none 0 0) := qc hR4 2
  have r3 : w4.cell? ⟨w.heap.size + 1,3,none⟩ = some (.slice none 0 0) := qc hR4 3
  have g0 : w4.frozen? ⟨w.heap.size + 1,0,none⟩ = false := frozen_of_row w4 _ 0 _ _ hR4
  have g1 : w4.frozen? ⟨w.heap.size + 1,1,none⟩ = false := frozen_of_row w4 _ 1 _ _ hR4
  have g2 : w4.frozen? ⟨w.heap.size + 1,2,none⟩ = false := frozen_of_row w4 _ 2 _ _ hR4
  have g3 : w4.frozen? ⟨w.heap.size + 1,3,none⟩ = false := frozen_of_row w4 _ 3 _ _ hR4
  obtain ⟨WF,hWF⟩ : ∃ WF,WF = (((w4.setCell ⟨w.heap.size + 1,0,none⟩ (.int .i64 p)).setCell ⟨w.heap.size + 1,1,none⟩ (.slice a1 bs'.length c1)).setCell ⟨w.heap.size + 1,2,none⟩ (.slice a2 bs'.length c2)).setCell ⟨w.heap.size + 1,3,none⟩ (.slice a3 N'.length c3) := ⟨_,rfl⟩
  have HFN : Hid (WF.heap[w.heap.size + 1]? = some (.cells #[.int .i64 p,.slice a1 bs'.length c1,.slice a2 bs'.length c2,.slice a3 N'.length c3] 26 (0,0))) := by rw [hWF]; exact q4r hR4
  have HE : Hid (Z (.returned (.tuple #[.agg #[.int .i64 p,.slice a1 bs'.length c1,.slice a2 bs'.length c2,.slice a3 N'.length c3],.int .i64 0])) WF) := by
   refine HZ.out _ _ ⟨?_,.inr ⟨HM.out,bs',gs',N',a1,c1,a2,c2,a3,c3,rfl,hMA,?_⟩⟩
   ·rw [hWF]; exact q3q (qa HBB.out hb4) (by omega)
   ·rw [hWF]; exact (hO.on q7X hrl).base HBB.out.size
  have HWF : Hid _ := hWF
  clear hWF js hb4 hMA hO hR4 hrl s0 s1 s2 s3 HZ
  go_wp2
  rw [← HWF.out]
  have z0 := qc HFN.out 0
  have z1 := qc HFN.out 1
  have z2 := qc HFN.out 2
  have z3 := qc HFN.out 3
  refine bodyPost_ret (v := .tuple #[.agg #[.int .i64 p,.slice a1 bs'.length c1,.slice a2 bs'.length c2,.slice a3 N'.length c3],.int .i64 0]) ?_ rfl HE.out
  simp at z0 z1 z2 z3
  simp [results,Try.results10,go_sem,z0,z1,z2,z3]
 ·have hR3 := (hb3.block _ (Array.getElem?_eq_some_iff.1 HR2.out).1).trans HR2.out
  have r0 : w3.cell? ⟨w.heap.size + 1,0,none⟩ = some (.int .i64 0) := qc hR3 0
  have r1 : w3.cell? ⟨w.heap.size + 1,1,none⟩ = some (.slice none 0 0) := qc hR3 1
  have r2 : w3.cell? ⟨w.heap.size + 1,2,none⟩ = some (.slice none 0 0) := qc hR3 2
  have r3 : w3.cell? ⟨w.heap.size + 1,3,none⟩ = some (.slice none 0 0) := qc hR3 3
  have g0 : w3.frozen? ⟨w.heap.size + 1,0,none⟩ = false := frozen_of_row w3 _ 0 _ _ hR3
  have g1 : w3.frozen? ⟨w.heap.size + 1,1,none⟩ = false := frozen_of_row w3 _ 1 _ _ hR3
  have g2 : w3.frozen? ⟨w.heap.size + 1,2,none⟩ = false := frozen_of_row w3 _ 2 _ _ hR3
  have g3 : w3.frozen? ⟨w.heap.size + 1,3,none⟩ = false := frozen_of_row w3 _ 3 _ _ hR3
  obtain ⟨WF,hWF⟩ : ∃ WF,WF = (((w3.setCell ⟨w.heap.size + 1,0,none⟩ (.int .i64 0)).setCell ⟨w.heap.size + 1,1,none⟩ (.slice none 0 0)).setCell ⟨w.heap.size + 1,2,none⟩ (.slice none 0 0)).setCell ⟨w.heap.size + 1,3,none⟩ (.slice none 0 0) := ⟨_,rfl⟩
  have HFN : Hid (WF.heap[w.heap.size + 1]? = some (.cells #[.int .i64 0,.slice none 0 0,.slice none 0 0,.slice none 0 0] 26 (0,0))) := by rw [hWF]; exact q4r hR3
  have HE : Hid (Z (.returned (.tuple #[.agg #[.int .i64 0,.slice none 0 0,.slice none 0 0,.slice none 0 0],.int .i64 12])) WF) := by
   refine HZ.out _ _ ⟨?_,.inl ⟨hM,rfl⟩⟩
   rw [hWF]; exact q3q (qa HB2.out hb3) (by omega)
  have HWF : Hid _ := hWF
  clear hWF jc hb3 hM hR3 t0 t1 t2 t3 HZ HW2
  go_wp2
  rw [← HWF.out]
  have z0 := qc HFN.out 0
  have z1 := qc HFN.out 1
  have z2 := qc HFN.out 2
  have z3 := qc HFN.out 3
  refine bodyPost_ret (v := .tuple #[.agg #[.int .i64 0,.slice none 0 0,.slice none 0 0,.slice none 0 0],.int .i64 12]) ?_ rfl HE.out
  simp at z0 z1 z2 z3
  simp [results,Try.results10,go_sem,z0,z1,z2,z3]
def IsR (p : Int) (nA : Nat) (bs : List Bool) (N : List Gd) (gs : List Int) (w : World) (e : Ending) (w' : World) : Prop :=
 Below w.heap.size w w' ∧ ((¬ MayG p nA N gs ∧ e = .returned (.tuple #[.bool false,.int .i64 12])) ∨
  (MayG p nA N gs ∧ ∃ (bs' : List Bool) (gs' : List Int) (N' : List Gd),MinA p nA bs N gs bs' gs' N' ∧ e = .returned (.tuple #[.bool (sameC p bs gs N p bs' gs' N'),.int .i64 0])))
theorem q1N (p : Int) (aA : Option Addr) (nA cA : Nat) (aG : Option Addr) (nG cG : Nat) (aN : Option Addr) (nN cN : Nat) (bs : List Bool) (N : List Gd) (gs : List Int) (w : World) (hB : BoSl w aA nA cA bs) (hN : NdSl w aN nN cN N) (hG : ZSl w aG nG cG gs) (hok : ∀ z ∈ gs,I64 z) :
  Calls Try.prog 12 #[.agg #[.int .i64 p,.slice aA nA cA,.slice aG nG cG,.slice aN nN cN]] w (IsR p nA bs N gs w) := by
 obtain ⟨Z,eZ⟩ : ∃ Z,Z = IsR p nA bs N gs w := ⟨_,rfl⟩
 have HZ : Hid (∀ e w',IsR p nA bs N gs w e w' → Z e w') := fun e w' h => by rw [eZ]; exact h
 rw [← eZ]
 clear eZ
 have hb0 := qb w (.cells #[.int .i64 p,.slice aA nA cA,.slice aG nG cG,.slice aN nN cN] 26 (0,0))
 have HB0 : Hid _ := hb0
 have HV0 : Hid _ := qf w p aA nA cA aG nG cG aN nN cN
 obtain ⟨c0,c1,c2,c3⟩ := HV0.out
 have jm := qC p aA nA cA aG nG cG aN nN cN bs N gs _ (hB.up hb0) (hN.up hb0) (hG.up hb0) hok
 have HB : Hid _ := hB
 have HN : Hid _ := hN
 have HG : Hid _ := hG
 clear hb0 hB hN hG hok
 go_enter Try.func12,Try.ntmps12
 go_wp2_with fail
 refine jm.mono ?_
 rintro e w2 ⟨hb2,⟨hM,rfl⟩ | ⟨hM,bs',gs',N',a1,d1,a2,d2,a3,d3,rfl,hMA,hO⟩⟩
 ·have HE : Hid _ := HZ.out _ _ ⟨qa (qa HB0.out hb2) (qb w2 (.cells #[.int .i64 0,.slice none 0 0,.slice none 0 0,.slice none 0 0] 26 (0,0))),.inl ⟨hM,rfl⟩⟩
  clear jm hb2 hM c0 c1 c2 c3 HZ
  go_wp2
  exact HE.out
 ·have hbb := qa HB0.out hb2
  have hb3 := qb w2 (.cells #[.int .i64 p,.slice a1 bs'.length d1,.slice a2 bs'.length d2,.slice a3 N'.length d3] 26 (0,0))
  have hb4 := qa hbb hb3
  obtain ⟨e0,e1,e2,e3⟩ := (HV0.out.up hb2).up hb3
  obtain ⟨f0,f1,f2,f3⟩ := qf w2 p a1 bs'.length d1 a2 bs'.length d2 a3 N'.length d3
  have hO3 := hO.up hb3
  have js := q29 p aA nA cA aG nG cG aN nN cN p a1 bs'.length d1 a2 bs'.length d2 a3 N'.length d3 bs gs N bs' gs' N' _ (HB.out.up hb4) (HG.out.up hb4) (HN.out.up hb4) hO3.bo hO3.zs hO3.nd
  have HE : Hid (∀ w',Below (w2.alloc (.cells #[.int .i64 p,.slice a1 bs'.length d1,.slice a2 bs'.length d2,.slice a3 N'.length d3] 26 (0,0))).heap.size (w2.alloc (.cells #[.int .i64 p,.slice a1 bs'.length d1,.slice a2 bs'.length d2,.slice a3 N'.length d3] 26 (0,0))) w' → Z (.returned (.tuple #[.bool (sameC p bs gs N p bs' gs' N'),.int .i64 0])) w') := fun w' hb => HZ.out _ _ ⟨qa hb4 hb,.inr ⟨hM,bs',gs',N',hMA,rfl⟩⟩
  clear jm hb2 hM c0 c1 c2 c3 HZ hMA hO hO3 hb3 hb4 hbb HV0
  generalize sameC p bs gs N p bs' gs' N' = sb at *
  go_wp2_with fail
  refine js.mono ?_
  rintro e w4 ⟨rfl,hb4⟩
  have HE4 : Hid _ := HE.out w4 hb4
  clear js HE hb4 e0 e1 e2 e3 f0 f1 f2 f3
  go_wp2
  exact HE4.out
theorem zlitP (w : World) (zs : List Int) (hl : zs.length ≤ 1000) : ZSl (w.alloc (.cells (zs.map (Value.int .i64)).toArray 3)) (some ⟨w.heap.size,0,none⟩) zs.length zs.length zs := by
 have h : RowI (w.alloc (.cells (zs.map (Value.int .i64)).toArray 3)) 3 w.heap.size zs := (MapKept.heap_alloc w _).1
 have := RowI.zsl (n := zs.length) h Try.underlying23 qh (Nat.le_refl _) (by unfold maxLen; omega)
 rwa [List.take_of_length_le (Nat.le_refl _)] at this
theorem blitP (w : World) (bs : List Bool) (hl : bs.length ≤ 1000) : BoSl (w.alloc (.cells (bs.map Value.bool).toArray 4)) (some ⟨w.heap.size,0,none⟩) bs.length bs.length bs := by
 have hc := (MapKept.heap_alloc w (.cells (bs.map Value.bool).toArray 4)).1
 refine ⟨rfl,Nat.le_refl _,by unfold maxLen; omega,fun e => (by cases e),fun x hx k hk => ?_⟩
 injection hx with hx; subst hx
 rw [qd,Nat.zero_add,qc hc]
 simp [List.getElem?_eq_getElem hk]
theorem q6K (w : World) (N : List Gd) (hl : N.length ≤ 1000) (hok : ∀ t ∈ N,GdOk t) : NdSl (w.alloc (.cells (encGd N).toArray 57)) (some ⟨w.heap.size,0,none⟩) N.length N.length N := by
 have hc := (MapKept.heap_alloc w (.cells (encGd N).toArray 57)).1
 have hcell : ∀ j u,(encGd N)[j]? = some u → (w.alloc (.cells (encGd N).toArray 57)).cell? ((⟨w.heap.size,0,none⟩ : Addr).add j) = some u := fun j u hj => by
  rw [qd,Nat.zero_add,qc hc]; simpa using hj
 refine ⟨rfl,Nat.le_refl _,by unfold maxLen; omega,fun e => (by cases e),fun x hx k hk => ?_,fun x hx k hk => ?_,fun x hx k hk => ?_,hok⟩
 ·injection hx with hx; subst hx; exact hcell _ _ (qk N k hk).1
 ·injection hx with hx; subst hx; exact hcell _ _ (qk N k hk).2.1
 ·injection hx with hx; subst hx; exact hcell _ _ (qk N k hk).2.2
structure PtX (w : World) (g : Nat) : Prop where
 bo : BoSl w (some ⟨g,0,none⟩) 3 3 ptB
 zs : ZSl w (some ⟨g + 1,0,none⟩) 3 3 ptG
 nd : NdSl w (some ⟨g + 2,0,none⟩) 2 2 ptN
theorem PtX.up {w w' : World} {g : Nat} (h : PtX w g) (hb : Below w.heap.size w w') : PtX w' g := ⟨h.bo.up hb,h.zs.up hb,h.nd.up hb⟩
theorem q3n : ∀ z ∈ ptG,I64 z := by
 intro z hz
 simp [ptG] at hz
 exact ⟨by omega,by omega⟩
theorem q5Z (w : World) : PtX (((w.alloc (.cells #[.bool false,.bool true,.bool true] 4)).alloc (.cells #[.int .i64 0,.int .i64 1,.int .i64 0] 3)).alloc (.cells #[.int .i64 0,.int .i64 (-1),.int .i64 (-2),.int .i64 0,.int .i64 (-1),.int .i64 (-3)] 57)) w.heap.size := by
 have h1 := blitP w ptB (by decide)
 have h2 := zlitP (w.alloc (.cells #[.bool false,.bool true,.bool true] 4)) ptG (by decide)
 have h3 := q6K ((w.alloc (.cells #[.bool false,.bool true,.bool true] 4)).alloc (.cells #[.int .i64 0,.int .i64 1,.int .i64 0] 3)) ptN (by decide) (fun t ht => by
  simp [ptN] at ht
  rcases ht with rfl | rfl <;> exact ⟨⟨by decide,by decide⟩,⟨by decide,by decide⟩,⟨by decide,by decide⟩⟩)
 have e1 : (w.alloc (.cells #[.bool false,.bool true,.bool true] 4)).heap.size = w.heap.size + 1 := by simp
 have e2 : ((w.alloc (.cells #[.bool false,.bool true,.bool true] 4)).alloc (.cells #[.int .i64 0,.int .i64 1,.int .i64 0] 3)).heap.size = w.heap.size + 2 := by simp
 rw [e1] at h2
 rw [e2] at h3
 exact ⟨(h1.up (qb _ _)).up (qb _ _),h2.up (qb _ _),h3⟩
theorem q49 {w : World} {g : Nat} (h : PtX w g) : Calls Try.prog 10 #[.agg #[.int .i64 1,.slice (some ⟨g,0,none⟩) 3 3,.slice (some ⟨g + 1,0,none⟩) 3 3,.slice (some ⟨g + 2,0,none⟩) 2 2]] w fun e w' => Below w.heap.size w w' ∧ ∃ a1 c1 a2 c2 a3 c3,e = .returned (.tuple #[.agg #[.int .i64 1,.slice a1 2 c1,.slice a2 2 c2,.slice a3 1 c3],.int .i64 0]) ∧ OwA w' w.heap.size a1 c1 a2 c2 a3 c3 cnB cnG cnN := by
 refine (qC 1 _ 3 3 _ 3 3 _ 2 2 ptB ptN ptG w h.bo h.nd h.zs q3n).mono ?_
 rintro e w' ⟨hb,⟨hM,_⟩ | ⟨_,bs',gs',N',a1,c1,a2,c2,a3,c3,rfl,hMA,hO⟩⟩
 ·exact absurd qN hM
 ·obtain ⟨rfl,rfl,rfl⟩ := q6C hMA
  exact ⟨hb,a1,c1,a2,c2,a3,c3,rfl,hO⟩
theorem cn_ok : ∀ t ∈ cnN,GdOk t := fun t ht => by
 simp [cnN] at ht
 subst ht
 exact ⟨⟨by decide,by decide⟩,⟨by decide,by decide⟩,⟨by decide,by decide⟩⟩
theorem q66 (w2 : World) (a1 : Option Addr) (c1 : Nat) (a2 : Option Addr) (c2 : Nat) (a3 : Option Addr) (c3 : Nat) (base : Nat) (hO : OwA w2 base a1 c1 a2 c2 a3 c3 cnB cnG cnN) :
  Calls Try.prog 13 #[.agg #[.int .i64 1,.slice a1 2 c1,.slice a2 2 c2,.slice a3 1 c3],.agg #[.int .i64 1,.slice (some ⟨w2.heap.size,0,none⟩) 2 2,.slice (some ⟨w2.heap.size + 1,0,none⟩) 2 2,.slice (some ⟨w2.heap.size + 1 + 1,0,none⟩) 1 1]] (((w2.alloc (.cells #[.bool false,.bool true] 4)).alloc (.cells #[.int .i64 0,.int .i64 0] 3)).alloc (.cells #[.int .i64 0,.int .i64 (-1),.int .i64 (-2)] 57)) fun e w' => e = .returned (.bool true) ∧ Below w2.heap.size w2 w' := by
 have h1 := blitP w2 cnB (by decide)
 have h2 := zlitP (w2.alloc (.cells #[.bool false,.bool true] 4)) cnG (by decide)
 have h3 := q6K ((w2.alloc (.cells #[.bool false,.bool true] 4)).alloc (.cells #[.int .i64 0,.int .i64 0] 3)) cnN (by decide) cn_ok
 have e1 : (w2.alloc (.cells #[.bool false,.bool true] 4)).heap.size = w2.heap.size + 1 := by simp
 have e2 : ((w2.alloc (.cells #[.bool false,.bool true] 4)).alloc (.cells #[.int .i64 0,.int .i64 0] 3)).heap.size = w2.heap.size + 1 + 1 := by simp
 rw [e1] at h2
 rw [e2] at h3
 have hb3 : Below w2.heap.size w2 (((w2.alloc (.cells #[.bool false,.bool true] 4)).alloc (.cells #[.int .i64 0,.int .i64 0] 3)).alloc (.cells #[.int .i64 0,.int .i64 (-1),.int .i64 (-2)] 57)) := qa (qa (qb w2 _) (qb _ _)) (qb _ _)
 have hO3 := hO.up hb3
 exact (q1U 1 a1 2 c1 a2 2 c2 a3 1 c3 _ 2 _ 2 _ 1 cnB cnG cnN _ hO3.bo hO3.zs hO3.nd ((h1.up (qb _ _)).up (qb _ _)) (h2.up (qb _ _)) h3).mono fun e w' ⟨q1,q2⟩ => ⟨q1,qa hb3 q2⟩
theorem q1S (w : World) : Calls Try.prog 24 #[] w fun e w' => e = .returned (.bool true) ∧ Below w.heap.size w w' := by
 have hx := q5Z w
 have hb3 : Below w.heap.size w (((w.alloc (.cells #[.bool false,.bool true,.bool true] 4)).alloc (.cells #[.int .i64 0,.int .i64 1,.int .i64 0] 3)).alloc (.cells #[.int .i64 0,.int .i64 (-1),.int .i64 (-2),.int .i64 0,.int .i64 (-1),.int .i64 (-3)] 57)) := qa (qa (qb w _) (qb _ _)) (qb _ _)
 have hb4 := qa hb3 (qb _ (.cells #[.int .i64 1,.slice (some ⟨w.heap.size,0,none⟩) 3 3,.slice (some ⟨w.heap.size + 1,0,none⟩) 3 3,.slice (some ⟨w.heap.size + 2,0,none⟩) 2 2] 26 (0,0)))
 have HB4 : Hid _ := hb4
 have hx4 := hx.up (qb _ (.cells #[.int .i64 1,.slice (some ⟨w.heap.size,0,none⟩) 3 3,.slice (some ⟨w.heap.size + 1,0,none⟩) 3 3,.slice (some ⟨w.heap.size + 2,0,none⟩) 2 2] 26 (0,0)))
 have jc := q49 hx4
 have ha := qf (((w.alloc (.cells #[.bool false,.bool true,.bool true] 4)).alloc (.cells #[.int .i64 0,.int .i64 1,.int .i64 0] 3)).alloc (.cells #[.int .i64 0,.int .i64 (-1),.int .i64 (-2),.int .i64 0,.int .i64 (-1),.int .i64 (-3)] 57)) 1 (some ⟨w.heap.size,0,none⟩) 3 3 (some ⟨w.heap.size + 1,0,none⟩) 3 3 (some ⟨w.heap.size + 2,0,none⟩) 2 2
 clear hx hb3 hb4 hx4
 go_enter Try.func24,Try.ntmps24
 go_wp2_with fail
 refine jc.mono ?_
 rintro e w2 ⟨hb2,a1,c1,a2,c2,a3,c3,rfl,hO⟩
 have hb5 := qb w2 (.cells #[.int .i64 1,.slice a1 2 c1,.slice a2 2 c2,.slice a3 1 c3] 26 (0,0))
 have js := q66 _ a1 c1 a2 c2 a3 c3 _ (hO.up hb5)
 rw [q1Q] at js
 obtain ⟨f0,f1,f2,f3⟩ := qf w2 1 a1 2 c1 a2 2 c2 a3 1 c3
 have HB5 : Hid (Below w.heap.size w (w2.alloc (.cells #[.int .i64 1,.slice a1 2 c1,.slice a2 2 c2,.slice a3 1 c3] 26 (0,0)))) := qa (qa HB4.out hb2) hb5
 clear jc hb2 hO ha HB4 hb5
 go_wp2_with fail
 refine js.mono ?_
 rintro e w3 ⟨rfl,hb3⟩
 have HB3 : Hid (Below w.heap.size w w3) := qa HB5.out (by simpa using hb3)
 clear js hb3
 go_wp2
 go_ret
 exact ⟨rfl,HB3.out⟩
def smB (p : Int) (nA nG nN : Nat) : Bool := decide (nA ≤ 24) && decide (p ≤ 4) && decide (nN ≤ 400) && decide (nG ≤ 300)
theorem q1T (p : Int) (aA : Option Addr) (nA cA : Nat) (aG : Option Addr) (nG cG : Nat) (aN : Option Addr) (nN cN : Nat) (w : World) :
  Calls Try.prog 8 #[.agg #[.int .i64 p,.slice aA nA cA,.slice aG nG cG,.slice aN nN cN]] w fun e w' => e = .returned (.bool (smB p nA nG nN)) ∧ Below w.heap.size w w' := by
 have HB0 : Hid _ := qb w (.cells #[.int .i64 p,.slice aA nA cA,.slice aG nG cG,.slice aN nN cN] 26 (0,0))
 obtain ⟨c0,c1,c2,c3⟩ := qf w p aA nA cA aG nG cG aN nN cN
 have HE : Hid (∀ b,b = smB p nA nG nN → (Ending.returned (.bool b) = .returned (.bool (smB p nA nG nN)))) := fun b h => by rw [h]
 by_cases h1 : nA ≤ 24
 ·have h1' : (nA : Int) ≤ 24 := by omega
  by_cases h2 : p ≤ 4
  ·by_cases h3 : nN ≤ 400
   ·have h3' : (nN : Int) ≤ 400 := by omega
    by_cases h4 : nG ≤ 300
    ·have h4' : (nG : Int) ≤ 300 := by omega
     have HF : Hid _ := HE.out true (by simp [smB,h1,h2,h3,h4])
     clear HE
     go_enter Try.func8,Try.ntmps8
     go_wp2
     go_ret
     exact ⟨HF.out,HB0.out⟩
    ·have h4' : ¬ (nG : Int) ≤ 300 := by omega
     have HF : Hid _ := HE.out false (by simp [smB,h4])
     clear HE
     go_enter Try.func8,Try.ntmps8
     go_wp2
     go_ret
     exact ⟨HF.out,HB0.out⟩
   ·have h3' : ¬ (nN : Int) ≤ 400 := by omega
    have HF : Hid _ := HE.out false (by simp [smB,h3])
    clear HE
    go_enter Try.func8,Try.ntmps8
    go_wp2
    go_ret
    exact ⟨HF.out,HB0.out⟩
  ·have HF : Hid _ := HE.out false (by simp [smB,h2])
   clear HE
   go_enter Try.func8,Try.ntmps8
   go_wp2
   go_ret
   exact ⟨HF.out,HB0.out⟩
 ·have h1' : ¬ (nA : Int) ≤ 24 := by omega
  have HF : Hid _ := HE.out false (by simp [smB,h1])
  clear HE
  go_enter Try.func8,Try.ntmps8
  go_wp2
  go_ret
  exact ⟨HF.out,HB0.out⟩
abbrev LtN (w : World) (a : Option Addr) (len cap : Nat) (ts : List Nat) : Prop := IntSl Try.prog 40 .u8 w a len cap (ts.map Int.ofNat)
structure CkM (w : World) (g : Nat) : Prop where
 x : PtX w g
 au : AuB w (g + 3) 1 (some ⟨g,0,none⟩) 3 3 (some ⟨g + 1,0,none⟩) 3 3 (some ⟨g + 2,0,none⟩) 2 2
theorem CkM.up {w w' : World} {g : Nat} (h : CkM w g) (hb : Below w.heap.size w w') : CkM w' g := ⟨h.x.up hb,h.au.up hb⟩
theorem q6Z {w : World} {g : Nat} (h : CkM w g) : Calls Try.prog 12 #[.agg #[.int .i64 1,.slice (some ⟨g,0,none⟩) 3 3,.slice (some ⟨g + 1,0,none⟩) 3 3,.slice (some ⟨g + 2,0,none⟩) 2 2]] w fun e w' => Below w.heap.size w w' ∧ e = .returned (.tuple #[.bool false,.int .i64 0]) := by
 refine (q1N 1 _ 3 3 _ 3 3 _ 2 2 ptB ptN ptG w h.x.bo h.x.nd h.x.zs q3n).mono ?_
 rintro e w' ⟨hb,⟨hM,_⟩ | ⟨_,bs',gs',N',hMA,rfl⟩⟩
 ·exact absurd qN hM
 ·obtain ⟨rfl,rfl,rfl⟩ := q6C hMA
  exact ⟨hb,rfl⟩
theorem q6x {w : World} {base : Nat} {a1 : Option Addr} {c1 : Nat} {a2 : Option Addr} {c2 : Nat} {a3 : Option Addr} {c3 : Nat} (h : OwA w base a1 c1 a2 c2 a3 c3 cnB cnG cnN) : Calls Try.prog 12 #[.agg #[.int .i64 1,.slice a1 2 c1,.slice a2 2 c2,.slice a3 1 c3]] w fun e w' => Below w.heap.size w w' ∧ e = .returned (.tuple #[.bool true,.int .i64 0]) := by
 refine (q1N 1 a1 2 c1 a2 2 c2 a3 1 c3 cnB cnN cnG w h.bo h.nd h.zs cn_k.may.ok64).mono ?_
 rintro e w' ⟨hb,⟨hM,_⟩ | ⟨_,bs',gs',N',hMA,rfl⟩⟩
 ·exact absurd cn_k.may hM
 ·obtain ⟨rfl,rfl,rfl⟩ := q74 hMA
  exact ⟨hb,rfl⟩
theorem q20 {w : World} {g : Nat} (h : CkM w g) (q : Int) (x : Nat) (v r : Int) (hx : x < 256) (hn : NxA 1 3 ptN ptG q x v r) : Calls Try.prog 19 #[.agg #[.int .i64 1,.slice (some ⟨g,0,none⟩) 3 3,.slice (some ⟨g + 1,0,none⟩) 3 3,.slice (some ⟨g + 2,0,none⟩) 2 2],.int .i64 q,.int .u8 (x : Int)] w fun e w' => Below w.heap.size w w' ∧ e = .returned (.tuple #[.int .i64 v,.int .i64 r]) := by
 refine (q28 1 (some ⟨g,0,none⟩) 3 3 _ 3 3 _ 2 2 ptN ptG q x w h.x.nd h.x.zs q3n hx).mono ?_
 rintro e w' ⟨hb,v',r',rfl,h'⟩
 obtain ⟨rfl,rfl⟩ := h'.uni hn
 exact ⟨hb,rfl⟩
theorem q46 {w : World} {g : Nat} (h : CkM w g) (d : Option Addr) (m c : Nat) (ts : List Nat) (hL : LtC w d m c ts) (v r : Int) (ht : ∀ x ∈ ts,x < 256) (hn : RuA 1 3 ptN ptG ts v r) : Calls Try.prog 21 #[.agg #[.int .i64 1,.slice (some ⟨g,0,none⟩) 3 3,.slice (some ⟨g + 1,0,none⟩) 3 3,.slice (some ⟨g + 2,0,none⟩) 2 2],.slice d m c] w fun e w' => Below w.heap.size w w' ∧ e = .returned (.tuple #[.int .i64 v,.int .i64 r]) := by
 refine (q11 1 (some ⟨g,0,none⟩) 3 3 _ 3 3 _ 2 2 ptN ptG d m c ts w h.x.nd h.x.zs q3n hL ht).mono ?_
 rintro e w' ⟨hb,v',r',rfl,h'⟩
 obtain ⟨rfl,rfl⟩ := h'.uni hn
 exact ⟨hb,rfl⟩
theorem q65 (w : World) : Calls Try.prog 10 #[.agg #[.int .i64 0,.slice none 0 0,.slice none 0 0,.slice none 0 0]] w fun e w' => Below w.heap.size w w' ∧ e = .returned (.tuple #[.agg #[.int .i64 0,.slice none 0 0,.slice none 0 0,.slice none 0 0],.int .i64 12]) := by
 refine (qC 0 none 0 0 none 0 0 none 0 0 [] [] [] w BoSl.nil NdSl.nil (q30 w) (fun z hz => by cases hz)).mono ?_
 rintro e w' ⟨hb,⟨_,rfl⟩ | ⟨hM,_⟩⟩
 ·exact ⟨hb,rfl⟩
 ·exact absurd hM q7H
theorem ck_n1 : NxA 1 3 ptN ptG 2 1 1 0 := .inr (.inr ⟨qN,⟨by decide,by decide,by decide⟩,by rw [show (2 : Int).toNat = 2 from rfl,cn_tr]; rfl,rfl⟩)
theorem ck_n2 : NxA 1 3 ptN ptG 3 1 0 2 := .inr (.inl ⟨qN,by rintro ⟨_,h,_⟩; exact absurd h (by decide),rfl,rfl⟩)
theorem ck_n3 : NxA 1 3 ptN ptG 0 2 0 2 := .inr (.inl ⟨qN,by rintro ⟨_,_,h⟩; exact absurd h (by decide),rfl,rfl⟩)
theorem ck_r1 : RuA 1 3 ptN ptG [1,1] 2 0 := .inr (.inr ⟨qN,q1M qN (by decide) (by decide),by rw [q84]; rfl,rfl⟩)
theorem ck_r2 : RuA 1 3 ptN ptG [] 0 0 := .inr (.inr ⟨qN,q1M qN (by decide) (by decide),rfl,rfl⟩)
theorem llitC (w : World) : LtC (w.alloc (.cells #[.int .u8 1,.int .u8 1] 39)) (some ⟨w.heap.size,0,none⟩) 2 2 [1,1] := by
 have hc := (MapKept.heap_alloc w (.cells #[.int .u8 1,.int .u8 1] 39)).1
 have had : ∀ k,adOf (some (⟨w.heap.size,0,none⟩ : Addr)) k = ⟨w.heap.size,k,none⟩ := fun k => by simp [adOf,qd]
 refine ⟨rfl,Nat.le_refl _,by unfold maxLen; omega,fun m k w hk hm => qp Try.underlying40 qD (by simp) k w hk,fun k hk => ?_,fun k hk => by rw [had]; simp,by simp⟩
 rw [had,qc hc]
 match k with
 | 0 => rfl
 | 1 => rfl
 | k + 2 => omega
theorem lnilC (w : World) : LtC w none 0 0 [] := ⟨rfl,Nat.le_refl _,Nat.zero_le _,fun m k w hk hm => absurd hk (by omega),fun k hk => absurd hk (by omega),fun k hk => absurd hk (by omega),fun _ => rfl⟩
theorem q3z (w : World) : Calls Try.prog 7 #[] w fun e w' => e = .returned (.bool true) ∧ Below w.heap.size w w' := by
 have hx := q5Z w
 have hb3 : Below w.heap.size w (((w.alloc (.cells #[.bool false,.bool true,.bool true] 4)).alloc (.cells #[.int .i64 0,.int .i64 1,.int .i64 0] 3)).alloc (.cells #[.int .i64 0,.int .i64 (-1),.int .i64 (-2),.int .i64 0,.int .i64 (-1),.int .i64 (-3)] 57)) := qa (qa (qb w _) (qb _ _)) (qb _ _)
 have hb4 := qa hb3 (qb _ (.cells #[.int .i64 1,.slice (some ⟨w.heap.size,0,none⟩) 3 3,.slice (some ⟨w.heap.size + 1,0,none⟩) 3 3,.slice (some ⟨w.heap.size + 2,0,none⟩) 2 2] 26 (0,0)))
 have hx4 := hx.up (qb _ (.cells #[.int .i64 1,.slice (some ⟨w.heap.size,0,none⟩) 3 3,.slice (some ⟨w.heap.size + 1,0,none⟩) 3 3,.slice (some ⟨w.heap.size + 2,0,none⟩) 2 2] 26 (0,0)))
 have ha := qf (((w.alloc (.cells #[.bool false,.bool true,.bool true] 4)).alloc (.cells #[.int .i64 0,.int .i64 1,.int .i64 0] 3)).alloc (.cells #[.int .i64 0,.int .i64 (-1),.int .i64 (-2),.int .i64 0,.int .i64 (-1),.int .i64 (-3)] 57)) 1 (some ⟨w.heap.size,0,none⟩) 3 3 (some ⟨w.heap.size + 1,0,none⟩) 3 3 (some ⟨w.heap.size + 2,0,none⟩) 2 2
 rw [show (((w.alloc (.cells #[.bool false,.bool true,.bool true] 4)).alloc (.cells #[.int .i64 0,.int .i64 1,.int .i64 0] 3)).alloc (.cells #[.int .i64 0,.int .i64 (-1),.int .i64 (-2),.int .i64 0,.int .i64 (-1),.int .i64 (-3)] 57)).heap.size = w.heap.size + 3 by simp] at ha
 obtain ⟨w1,hw1⟩ : ∃ w1,w1 = (((w.alloc (.cells #[.bool false,.bool true,.bool true] 4)).alloc (.cells #[.int .i64 0,.int .i64 1,.int .i64 0] 3)).alloc (.cells #[.int .i64 0,.int .i64 (-1),.int .i64 (-2),.int .i64 0,.int .i64 (-1),.int .i64 (-3)] 57)).alloc (.cells #[.int .i64 1,.slice (some ⟨w.heap.size,0,none⟩) 3 3,.slice (some ⟨w.heap.size + 1,0,none⟩) 3 3,.slice (some ⟨w.heap.size + 2,0,none⟩) 2 2] 26 (0,0)) := ⟨_,rfl⟩
 rw [← hw1] at hb4 hx4 ha
 have HB1 : Hid _ := hb4
 have HC1 : Hid (CkM w1 w.heap.size) := ⟨hx4,ha⟩
 have HW1 : Hid _ := hw1
 have jm := q49 hx4
 obtain ⟨c0,c1,c2,c3⟩ := ha
 clear hx hb3 hb4 hx4 hw1
 go_enter Try.func7,Try.ntmps7
 go_wp2_with (rw [← HW1.out])
 refine jm.mono ?_
 rintro e w2 ⟨hb2,a1,k1,a2,k2,a3,k3,rfl,hO⟩
 have hbm := qb w2 (.cells #[.int .i64 1,.slice a1 2 k1,.slice a2 2 k2,.slice a3 1 k3] 26 (0,0))
 have hC2 := (HC1.out.up hb2).up hbm
 have HB2 : Hid _ := qa (qa HB1.out hb2) hbm
 have HO2 : Hid _ := hO.up hbm
 have HM2 : Hid _ := qf w2 1 a1 2 k1 a2 2 k2 a3 1 k3
 have HC2 : Hid _ := hC2
 obtain ⟨x2,hx2⟩ : ∃ x2,x2 = w2.alloc (.cells #[.int .i64 1,.slice a1 2 k1,.slice a2 2 k2,.slice a3 1 k3] 26 (0,0)) := ⟨_,rfl⟩
 rw [← hx2] at HB2 HO2 HM2 HC2
 have HX2 : Hid _ := hx2
 clear jm hb2 hbm hO hC2 hx2 c0 c1 c2 c3 HW1
 have j3 := q6Z HC2.out
 obtain ⟨c0,c1,c2,c3⟩ := HC2.out.au
 go_wp2_with (rw [← HX2.out])
 refine j3.mono ?_
 rintro e x3 ⟨hb,rfl⟩
 have HB3 : Hid _ := qa HB2.out hb
 have HC3 : Hid _ := HC2.out.up hb
 have HO3 : Hid _ := HO2.out.up hb
 have HM3 : Hid _ := HM2.out.up hb
 clear j3 c0 c1 c2 c3 hb
 have j4 := q6x HO3.out
 obtain ⟨c0,c1,c2,c3⟩ := HM3.out
 go_wp2_with fail
 refine j4.mono ?_
 rintro e x4 ⟨hb,rfl⟩
 have HB4 : Hid _ := qa HB3.out hb
 have HC4 : Hid _ := HC3.out.up hb
 have HO4 : Hid _ := HO3.out.up hb
 have HM4 : Hid _ := HM3.out.up hb
 clear j4 c0 c1 c2 c3 hb
 have j5 := q20 HC4.out 2 1 1 0 (by decide) ck_n1
 obtain ⟨c0,c1,c2,c3⟩ := HC4.out.au
 go_wp2_with fail
 refine j5.mono ?_
 rintro e x5 ⟨hb,rfl⟩
 have HB5 : Hid _ := qa HB4.out hb
 have HC5 : Hid _ := HC4.out.up hb
 have HO5 : Hid _ := HO4.out.up hb
 have HM5 : Hid _ := HM4.out.up hb
 clear j5 c0 c1 c2 c3 hb
 have j6 := q20 HC5.out 3 1 0 2 (by decide) ck_n2
 obtain ⟨c0,c1,c2,c3⟩ := HC5.out.au
 go_wp2_with fail
 refine j6.mono ?_
 rintro e x6 ⟨hb,rfl⟩
 have HB6 : Hid _ := qa HB5.out hb
 have HC6 : Hid _ := HC5.out.up hb
 have HO6 : Hid _ := HO5.out.up hb
 have HM6 : Hid _ := HM5.out.up hb
 clear j6 c0 c1 c2 c3 hb
 have j7 := q20 HC6.out 0 2 0 2 (by decide) ck_n3
 obtain ⟨c0,c1,c2,c3⟩ := HC6.out.au
 go_wp2_with fail
 refine j7.mono ?_
 rintro e x7 ⟨hb,rfl⟩
 have HB7 : Hid _ := qa HB6.out hb
 have HC7 : Hid _ := HC6.out.up hb
 have HO7 : Hid _ := HO6.out.up hb
 have HM7 : Hid _ := HM6.out.up hb
 clear j7 c0 c1 c2 c3 hb
 have hbl := qb x7 (.cells #[.int .u8 1,.int .u8 1] 39)
 have j8 := q46 (HC7.out.up hbl) _ 2 2 [1,1] (llitC _) 2 0 (by decide) ck_r1
 obtain ⟨c0,c1,c2,c3⟩ := HC7.out.au
 go_wp2_with fail
 refine j8.mono ?_
 rintro e x8 ⟨hb,rfl⟩
 have HB8 : Hid _ := qa (qa HB7.out hbl) hb
 have HC8 : Hid _ := (HC7.out.up hbl).up hb
 have HO8 : Hid _ := (HO7.out.up hbl).up hb
 have HM8 : Hid _ := (HM7.out.up hbl).up hb
 clear j8 c0 c1 c2 c3 hb hbl
 have j9 := q46 HC8.out none 0 0 [] (lnilC _) 0 0 (by decide) ck_r2
 obtain ⟨c0,c1,c2,c3⟩ := HC8.out.au
 go_wp2_with fail
 refine j9.mono ?_
 rintro e x9 ⟨hb,rfl⟩
 have HB9 : Hid _ := qa HB8.out hb
 have HC9 : Hid _ := HC8.out.up hb
 have HO9 : Hid _ := HO8.out.up hb
 have HM9 : Hid _ := HM8.out.up hb
 clear j9 c0 c1 c2 c3 hb
 have j10 := q65 x9
 go_wp2_with fail
 refine j10.mono ?_
 rintro e x10 ⟨hb,rfl⟩
 have HB10 : Hid _ := qa (qa HB9.out hb) (qb x10 (.cells #[.int .i64 0,.slice none 0 0,.slice none 0 0,.slice none 0 0] 26 (0,0)))
 clear j10 hb
 have ja := q1S (x10.alloc (.cells #[.int .i64 0,.slice none 0 0,.slice none 0 0,.slice none 0 0] 26 (0,0)))
 go_wp2_with fail
 refine ja.mono ?_
 rintro e xz ⟨rfl,hb⟩
 have HBz : Hid _ := qa HB10.out hb
 clear ja hb
 go_wp2
 go_ret
 exact ⟨rfl,HBz.out⟩
def cutN (K : Nat) (zs : List Int) : List Nat := zs.map fun z => z.toNat % K
theorem q6k {K : Nat} (hK : 0 < K) (zs : List Int) : ∀ x ∈ cutN K zs,x < K := fun x hx => by
 obtain ⟨z,_,rfl⟩ := List.mem_map.1 hx
 exact Nat.mod_lt _ hK
theorem q6E {K : Nat} {zs : List Int} {i : Nat} (h : i < zs.length) : (cutN K zs).take (i + 1) = (cutN K zs).take i ++ [(zs.getD i 0).toNat % K] := by
 have hl : i < (cutN K zs).length := by rw [cutN,List.length_map]; exact h
 rw [List.take_add_one,List.getElem?_eq_getElem hl]
 simp [cutN,List.getD_eq_getElem?_getD,List.getElem?_eq_getElem h]
theorem maskP {z k : Nat} (hz : z < 256) (hk : k ≤ 4) : bits BinOp.and IntKind.u8 (z : Int) (IntKind.u8.wrap (IntKind.u8.wrap (2 ^ k) - 1)) = ((z % 2 ^ k : Nat) : Int) := by
 have hkk : k = 0 ∨ k = 1 ∨ k = 2 ∨ k = 3 ∨ k = 4 := by omega
 have key : ∀ j,j ≤ 4 → IntKind.u8.wrap (IntKind.u8.wrap (2 ^ j) - 1) = ((2 ^ j - 1 : Nat) : Int) := by decide
 rw [key k hk]
 have h2 : 2 ^ k - 1 < 256 := by rcases hkk with rfl | rfl | rfl | rfl | rfl <;> decide
 rw [u8_and_nat z (2 ^ k - 1) hz h2,Nat.and_two_pow_sub_one_eq_mod]
theorem q4N {w : World} {ops : Array Oper} {o : Oper} {a : Act} {K : Act → World → Prop} {Q : Exit → Act → World → Prop} {E : Prop} (hw : Region.wanted o (yielded ops a.tmps) = true) (s x : Operand)
  (ho : o.op = .call { callee := .builtin .append,args := #[s,x],argTypes := #[40,40] }) (base : Nat)
  (v : Value) (n : Nat) (xs : List Value) (y : Int) (g : Nat) (hs : a.eval s = v) (hx : a.eval x = .slice (some ⟨g,0,none⟩) 1 1) (hown : w.ownsRow base 39 1 v n xs)
  (hB : w.cell? ⟨g,0,none⟩ = some (.int .u8 y)) (hn : n + 1 ≤ 140737488355328) (hbase : base ≤ w.heap.size)
  (h : ∀ v' w',w'.ownsRow base 39 1 v' (n + 1) (xs ++ [.int .u8 y]) → w.grownBy w' v.ownBlock → K (a.put o.dst v') w') :
  if Region.wanted o (yielded ops a.tmps) = true then Oper.wp Try.prog o a w K Q else E := by
 rw [if_pos hw]
 obtain ⟨i,hi,hz0,hz1,hz2⟩ := info_parts q4Z
 obtain ⟨v',w',hr,h2,h3,_,_⟩ := run_append_own_at (P := Try.prog) w base 40 o.type 39 i _ 1 1 Try.underlying40 hi hz0 hz1 hz2 rfl (by decide) v n _ hown ⟨g,0,none⟩ 1 1 [.int .u8 y] rfl (fun j u hj => by
  match j with
  | 0 => simp at hj; rw [← hj,qd]; exact hB
  | j + 1 => simp at hj) (fun u hu => by simp at hu; subst hu; rfl) (by unfold maxLen; omega) (by omega) hbase
 unfold Oper.wp execOp
 simp only [ho,resolve,invoke,builtin,Sem.run_bind,Sem.run_pure,Result.andThen_ok,List.map_toArray,List.map_cons,List.map_nil,hs,hx,hr]
 exact h v' w' h2 h3
theorem q7J {w : World} {base n : Nat} {a : Option Addr} {c : Nat} {ts : List Nat} (h : w.ownsRow base 39 1 (.slice a n c) n (ltV ts)) : LtN w a n c ts := by
 have h1 : w.ownsRow base 39 1 (.slice a n c) n ((ts.map Int.ofNat).map (Value.int .u8)) := by rw [List.map_map]; exact h
 obtain ⟨a',c',e,hS,_⟩ := q4P h1 Try.underlying40 q2o
 injection e with e1 _ e3
 subst e1; subst e3
 exact hS
theorem q3p (p : Int) (bs : List Bool) (gs : List Int) (N : List Gd) : sameC p bs gs N p bs gs N = true := by simp [sameC]
theorem q3B (p : Int) (aA : Option Addr) (nA cA : Nat) (aG : Option Addr) (nG cG : Nat) (aN : Option Addr) (nN cN : Nat) (bs : List Bool) (gs : List Int) (N : List Gd) (d : Option Addr) (m c : Nat) (zs : List Int) (w : World) (hB : BoSl w aA nA cA bs) (hG : ZSl w aG nG cG gs) (hN : NdSl w aN nN cN N) (hok : ∀ z ∈ gs,I64 z) (hL : IntSl Try.prog 40 .u8 w d m c zs) (hz : ∀ z ∈ zs,0 ≤ z ∧ z < 256) (_ : c ≤ 140737488351232) :
  Calls Try.prog 5 #[.agg #[.int .i64 p,.slice aA nA cA,.slice aG nG cG,.slice aN nN cN],.slice d m c] w fun e w' => e = .returned (.bool true) ∧ Below w.heap.size w w' := by
 obtain ⟨Q,hQ⟩ : ∃ Q : Ending → World → Prop,Q = fun e w' => e = .returned (.bool true) ∧ Below w.heap.size w w' := ⟨_,rfl⟩
 have HQ : Hid (∀ w',Below w.heap.size w w' → Q (.returned (.bool true)) w') := fun w' h => by rw [hQ]; exact ⟨rfl,h⟩
 rw [← hQ]
 clear hQ
 have HA0 : Hid _ := qf w p aA nA cA aG nG cG aN nN cN
 have HB0 : Hid (Below w.heap.size w (w.alloc (.cells #[.int .i64 p,.slice aA nA cA,.slice aG nG cG,.slice aN nN cN] 26 (0,0)))) := qb w _
 have jw := q1S (w.alloc (.cells #[.int .i64 p,.slice aA nA cA,.slice aG nG cG,.slice aN nN cN] 26 (0,0)))
 have HHB : Hid _ := hB
 have HHG : Hid _ := hG
 have HHN : Hid _ := hN
 have HOK : Hid _ := hok
 have HHL : Hid _ := hL
 have HZ : Hid _ := hz
 have hmc := Nat.le_trans hL.hcap hL.bd
 have hnc := Nat.le_trans hN.hcap hN.bd
 unfold maxLen at hmc hnc
 clear hB hG hN hok hL hz
 go_enter Try.func5,Try.ntmps5
 go_wp2_with fail
 refine jw.mono ?_
 rintro e w1 ⟨rfl,hb1⟩
 have HB1 : Hid (Below w.heap.size w w1) := qa HB0.out hb1
 have HA1 : Hid (AuB w1 w.heap.size p aA nA cA aG nG cG aN nN cN) := HA0.out.up hb1
 have jc := qC p aA nA cA aG nG cG aN nN cN bs N gs w1 (HHB.out.up HB1.out) (HHN.out.up HB1.out) (HHG.out.up HB1.out) HOK.out
 obtain ⟨c0,c1,c2,c3⟩ := HA1.out
 clear jw hb1 HB0 HA0
 go_wp2_with fail
 refine jc.mono ?_
 rintro e w2 ⟨hb2,hcase⟩
 have HB2 : Hid (Below w.heap.size w w2) := qa HB1.out hb2
 have HA2 : Hid (AuB w2 w.heap.size p aA nA cA aG nG cG aN nN cN) := HA1.out.up hb2
 clear c0 c1 c2 c3 jc hb2 HA1 HB1
 rcases hcase with ⟨hM,rfl⟩ | ⟨hM,bs',gs',N',a1,k1,a2,k2,a3,k3,rfl,hMA,hO⟩
 ·have hbm := qb w2 (.cells #[.int .i64 0,.slice none 0 0,.slice none 0 0,.slice none 0 0] 26 (0,0))
  obtain ⟨c0,c1,c2,c3⟩ := HA2.out.up hbm
  have js := q1T p aA nA cA aG nG cG aN nN cN (w2.alloc (.cells #[.int .i64 0,.slice none 0 0,.slice none 0 0,.slice none 0 0] 26 (0,0)))
  have HE : Hid (∀ w3,Below (w2.alloc (.cells #[.int .i64 0,.slice none 0 0,.slice none 0 0,.slice none 0 0] 26 (0,0))).heap.size (w2.alloc (.cells #[.int .i64 0,.slice none 0 0,.slice none 0 0,.slice none 0 0] 26 (0,0))) w3 → Q (.returned (.bool true)) w3) := fun w3 h => HQ.out w3 (qa (qa HB2.out hbm) h)
  clear hM HQ hbm
  generalize smB p nA nG nN = sb at *
  go_wp2_with fail
  refine js.mono ?_
  rintro e w3 ⟨rfl,hb3⟩
  have HE3 : Hid _ := HE.out w3 hb3
  clear js hb3 HE
  cases sb with
  | true =>
   go_wp2
   exact HE3.out
  | false =>
   go_wp2
   exact HE3.out
 ·obtain ⟨x2,hx2⟩ : ∃ x2,x2 = w2.alloc (.cells #[.int .i64 p,.slice a1 bs'.length k1,.slice a2 bs'.length k2,.slice a3 N'.length k3] 26 (0,0)) := ⟨_,rfl⟩
  have hbm : Below w2.heap.size w2 x2 := by rw [hx2]; exact qb _ _
  have HV2 : Hid (AuB x2 w2.heap.size p a1 bs'.length k1 a2 bs'.length k2 a3 N'.length k3) := by rw [hx2]; exact qf _ _ _ _ _ _ _ _ _ _ _
  have HO2 : Hid _ := hO.up hbm
  have HBx : Hid (Below w.heap.size w x2) := qa HB2.out hbm
  have HAx : Hid _ := HA2.out.up hbm
  have HK : Hid _ := hMA.all hM
  have HM : Hid _ := hM
  have js := q1T p aA nA cA aG nG cG aN nN cN x2
  obtain ⟨c0,c1,c2,c3⟩ := HAx.out
  have HX2 : Hid _ := hx2
  clear hM hMA hO hbm hx2 HB2 HA2
  generalize hsb : smB p nA nG nN = sb at *
  have HSB : Hid _ := hsb
  clear hsb
  go_wp2_with (rw [← HX2.out])
  refine js.mono ?_
  rintro e wz ⟨rfl,hb3⟩
  have HB3 : Hid (Below w.heap.size w wz) := qa HBx.out hb3
  have HA3 : Hid (AuB wz w.heap.size p aA nA cA aG nG cG aN nN cN) := HAx.out.up hb3
  have HV3 : Hid _ := HV2.out.up hb3
  have HO3 : Hid _ := HO2.out.up hb3
  generalize w2.heap.size = mb at *
  clear js hb3 HAx HBx HV2 HO2 HX2 c0 c1 c2 c3
  cases sb with
  | false =>
   have HE3 : Hid _ := HQ.out wz HB3.out
   clear HQ
   go_wp2
   exact HE3.out
  | true =>
   obtain ⟨c0,c1,c2,c3⟩ := HA3.out
   have hn1 := HM.out.s1
   have hn24 : nA ≤ 24 := by have := HSB.out; simp [smB] at this; omega
   have hp0 := HM.out.p0
   have hp4 : p ≤ 4 := by have := HSB.out; simp [smB] at this; omega
   obtain ⟨P,rfl⟩ := Int.eq_ofNat_of_zero_le hp0
   have hP4 : P ≤ 4 := by omega
   have hmin : min P 64 = P := by omega
   go_wp2
   clear c0 c1 c2 c3
   go_loopw [8,9] (fun v j wr => ∃ (i : Nat),i ≤ m ∧ i ≤ 1024 ∧ j = .int .i64 (i : Int) ∧ Hid (wr.ownsRow wz.heap.size 39 1 v i (ltV ((cutN (2 ^ P) zs).take i))) ∧ Hid (Below wz.heap.size wz wr)) (fun _ j _ => m - (intOf j).toNat)
   case atStart => exact ⟨0,Nat.zero_le _,Nat.zero_le _,rfl,⟨rfl,Or.inl ⟨rfl,rfl⟩⟩,Below.refl _ _⟩
   case round =>
    obtain ⟨i,hi,hi2,rfl,HO,HB⟩ := hrel
    have HBW : Hid (Below w.heap.size w wr) := qa HB3.out HB.out
    by_cases hlt : i < m ∧ i < 1024
    ·obtain ⟨hlt,hlt2⟩ := hlt
     have hiz : i < zs.length := by have := HHL.out.hlen; omega
     have hS := HHL.out.up HBW.out
     have hidx := fun w' => hS.idx m i w' hlt (Nat.le_refl _)
     have hce := hS.cell i hlt
     have hok := HZ.out (zs.getD i 0) (by rw [List.getD_eq_getElem?_getD,List.getElem?_eq_getElem hiz]; exact List.getElem_mem hiz)
     have HTK : Hid _ := q6E (K := 2 ^ P) hiz
     generalize zs.getD i 0 = zz at *
     obtain ⟨z,rfl⟩ := Int.eq_ofNat_of_zero_le hok.1
     obtain ⟨av,cv,rfl⟩ := qn HO.out
     generalize adOf d i = ad at *
     obtain ⟨ga,oa,sa⟩ := ad
     have HMK : Hid _ := maskP (z := z) (k := P) (by omega) hP4
     have hO8 : (wr.alloc (.cells #[.int .u8 (bits BinOp.and IntKind.u8 (z : Int) (IntKind.u8.wrap (IntKind.u8.wrap (2 ^ P) - 1)))] 39)).drew.ownsRow wz.heap.size 39 1 (.slice av i cv) i (ltV ((cutN (2 ^ P) zs).take i)) := World.ownsRow.alloc HO.out _
     have hc8 : (wr.alloc (.cells #[.int .u8 (bits BinOp.and IntKind.u8 (z : Int) (IntKind.u8.wrap (IntKind.u8.wrap (2 ^ P) - 1)))] 39)).drew.cell? ⟨wr.heap.size,0,none⟩ = some (.int .u8 (bits BinOp.and IntKind.u8 (z : Int) (IntKind.u8.wrap (IntKind.u8.wrap (2 ^ P) - 1)))) := qc (MapKept.heap_alloc wr _).1 0
     have hw0 : wz.heap.size ≤ wr.heap.size := HB.out.size
     have c0 := (HA3.out.up HB.out).c0
     have g1 : ga < wr.heap.size := World.block_lt_of_cell? _ _ hce
     have g2 : w.heap.size < wr.heap.size := World.block_lt_of_cell? _ _ c0
     have him : i + 1 ≤ 140737488355328 := by omega
     have e1 : decide ((i : Int) < (m : Int)) = true := decide_eq_true (by omega)
     have e2 : decide ((i : Int) < 1024) = true := decide_eq_true (by omega)
     clear hS
     go_wp2
     go_region_law ((refine q4N rfl _ _ rfl wz.heap.size (.slice av i cv) i _ _ wr.heap.size rfl rfl hO8 hc8 him (by simp; omega) ?_; intro v5 w5 hown5 hgr5; obtain ⟨a5,k5,rfl⟩ := qn hown5))
     all_goals
      have HO5 : Hid (w5.ownsRow wz.heap.size 39 1 (.slice a5 (i + 1) k5) (i + 1) (ltV ((cutN (2 ^ P) zs).take (i + 1)))) := by
       show _
       rw [HTK.out,ltV,List.map_append]
       have h5 := hown5
       rw [HMK.out] at h5
       exact h5
      have HB5 : Hid (Below wz.heap.size wz w5) := by
       have h1 := HB.out.trans ((qb wr (.cells #[.int .u8 (bits BinOp.and IntKind.u8 (z : Int) (IntKind.u8.wrap (IntKind.u8.wrap (2 ^ P) - 1)))] 39)).mono hw0)
       exact h1.drew.grown hgr5 (by simp; omega) (fun j hj => qz hO8 j hj)
      clear hO8 hc8 hown5 hgr5 hce hidx c0 g1 g2 HO HB HBW HMK HTK
      go_wp2
      go_roundw
      case rel => exact ⟨i + 1,by omega,by omega,by go_num,HO5,HB5⟩
      case measure => simp [intOf] <;> omega
    ·have hzl := HHL.out.hlen
     obtain ⟨fa,fc,rfl⟩ := qn HO.out
     have hcl : ((cutN (2 ^ P) zs).take i).length = i := by rw [List.length_take,cutN,List.length_map]; omega
     have HLf : Hid (LtN wr fa i fc ((cutN (2 ^ P) zs).take i)) := q7J HO.out
     have HSM : Hid (∀ l ∈ (cutN (2 ^ P) zs).take i,l < 2 ^ (P : Int).toNat) := fun l hl => by rw [Int.toNat_natCast]; exact q6k (Nat.two_pow_pos P) zs l (List.mem_of_mem_take hl)
     have HA9 : Hid (AuB wr w.heap.size (P : Int) aA nA cA aG nG cG aN nN cN) := HA3.out.up HB.out
     have HV9 : Hid _ := HV3.out.up HB.out
     have HO9 : Hid _ := HO3.out.up HB.out
     clear hzl HO
     have HTL : Hid (((cutN (2 ^ P) zs).take i).length ≤ 1024) := by show _ ≤ _; omega
     generalize (cutN (2 ^ P) zs).take i = ts at *
     have hxr := (HM.out.rows (2 ^ (P : Int).toNat)).run ts 0 (by omega) HSM.out
     have hyr := (HK.out.may.rows (2 ^ (P : Int).toNat)).run ts 0 HK.out.one.pos HSM.out
     have hac := HK.out.same ts HSM.out
     have hlb := HHB.out.hlen
     have hT256 : ∀ x ∈ ts,x < 256 := fun x hx => Nat.lt_of_lt_of_le (HSM.out x hx) HM.out.k256
     have jr1 := q11 (P : Int) aA nA cA aG nG cG aN nN cN N gs fa i fc ts wr (HHN.out.up HBW.out) (HHG.out.up HBW.out) HOK.out HLf.out hT256
     have JR2 : Hid (∀ wx,Below wr.heap.size wr wx → Calls Try.prog 21 #[.agg #[.int .i64 (P : Int),.slice a1 bs'.length k1,.slice a2 bs'.length k2,.slice a3 N'.length k3],.slice fa i fc] wx (RuR (P : Int) bs'.length N' gs' ts wx)) := fun wx hb => q11 (P : Int) a1 bs'.length k1 a2 bs'.length k2 a3 N'.length k3 N' gs' fa i fc ts wx (HO9.out.up hb).nd (HO9.out.up hb).zs HK.out.may.ok64 (HLf.out.up hb) hT256
     have HU1 : Hid (∀ v r,RuA (P : Int) nA N gs ts v r → v = ((runP (rwA (P : Int) N gs) 0 ts : Nat) : Int) ∧ r = 0) := fun v r h => h.uni (.inr (.inr ⟨HM.out,q1M HM.out HTL.out HSM.out,rfl,rfl⟩))
     have HU2 : Hid (∀ v r,RuA (P : Int) bs'.length N' gs' ts v r → v = ((runP (rwA (P : Int) N' gs') 0 ts : Nat) : Int) ∧ r = 0) := fun v r h => h.uni (.inr (.inr ⟨HK.out.may,q1M HK.out.may HTL.out HSM.out,rfl,rfl⟩))
     obtain ⟨c0,c1,c2,c3⟩ := HA9.out
     have HAC : Hid _ := hac
     have HXR : Hid _ := hxr
     have HYR : Hid _ := hyr
     clear hac hxr hyr hT256
     have HFB : Hid _ := HBW.out
     rcases (show ¬ i < m ∨ (i < m ∧ ¬ i < 1024) by omega) with hE | ⟨hE,hE2⟩
     all_goals
      clear hlt
      go_wp2_with fail
      refine jr1.mono ?_
      rintro e w5 ⟨hb5,v5,s5,rfl,hr5⟩
      obtain ⟨rfl,rfl⟩ := HU1.out _ _ hr5
      have HB5 : Hid _ := qa HFB.out hb5
      have HA5 : Hid _ := HA9.out.up hb5
      have HV5 : Hid _ := HV9.out.up hb5
      have HO5 : Hid _ := HO9.out.up hb5
      have jr2 := JR2.out w5 hb5
      clear jr1 hb5 hr5 c0 c1 c2 c3 JR2 hE
      obtain ⟨c0,c1,c2,c3⟩ := HV5.out
      go_wp2_with fail
      refine jr2.mono ?_
      rintro e w6 ⟨hb6,v6,s6,rfl,hr6⟩
      obtain ⟨rfl,rfl⟩ := HU2.out _ _ hr6
      have HB6 : Hid _ := qa HB5.out hb6
      have HA6 : Hid _ := HA5.out.up hb6
      have HV6 : Hid _ := HV5.out.up hb6
      have HO6 : Hid _ := HO5.out.up hb6
      clear jr2 hb6 hr6 c0 c1 c2 c3
      obtain ⟨c0,c1,c2,c3⟩ := HA6.out
      obtain ⟨d0,d1,d2,d3⟩ := HV6.out
      have hxr := HXR.out
      have hyr := HYR.out
      obtain ⟨ib1,cb1⟩ := (HHB.out.up HB6.out).at _ hxr
      obtain ⟨ib2,cb2⟩ := HO6.out.bo.at _ hyr
      have ib1 := fun w' => ib1 nA w' hxr
      have ib2 := fun w' => ib2 bs'.length w' hyr
      have hbb : bs[runP (rwA (P : Int) N gs) 0 ts]'(by rw [HHB.out.hlen]; exact hxr) = bs'[runP (rwA (P : Int) N' gs') 0 ts] := by
       have := HAC.out
       rw [qg hyr,qg (by rw [HHB.out.hlen]; exact hxr)] at this
       exact this.symm
      rw [hbb] at cb1
      have hbl : bs'.length ≤ nA := HK.out.few
      have hnl : N'.length ≤ nN := by have := HK.out.nodes; have := HHN.out.hlen; omega
      have HEz : Hid (∀ nq,Below w.heap.size w (w6.drewN nq) ∧ AuB (w6.drewN nq) mb (P : Int) a1 bs'.length k1 a2 bs'.length k2 a3 N'.length k3 ∧ OwA (w6.drewN nq) w1.heap.size a1 k1 a2 k2 a3 k3 bs' gs' N') := fun nq => ⟨qa HB6.out (qA ⟨_,rfl⟩),HV6.out.up (qA ⟨_,rfl⟩),HO6.out.up (qA ⟨_,rfl⟩)⟩
      clear hbb HXR HYR HAC
      generalize runP (rwA (P : Int) N gs) 0 ts = xr at *
      generalize runP (rwA (P : Int) N' gs') 0 ts = yr at *
      generalize bs'[yr] = bb at *
      generalize hbn : bs'.length = n' at *
      generalize hNn : N'.length = l' at *
      generalize adOf aA xr = ad1 at *
      obtain ⟨a1g,a1o,a1z⟩ := ad1
      generalize adOf a1 yr = ad2 at *
      obtain ⟨a2g,a2o,a2z⟩ := ad2
      have q1 : decide (nA ≤ xr) = false := decide_eq_false (by omega)
      have q2 : decide (n' ≤ yr) = false := decide_eq_false (by omega)
      have q3 : (bb != bb) = false := by simp
      have q4 : decide (nA < n') = false := decide_eq_false (by omega)
      have q5 : decide (nN < l') = false := decide_eq_false (by omega)
      have q6 : decide ((nA : Int) ≤ (xr : Int)) = false := decide_eq_false (by omega)
      have q7 : decide ((n' : Int) ≤ (yr : Int)) = false := decide_eq_false (by omega)
      have q8 : decide ((nA : Int) < (n' : Int)) = false := decide_eq_false (by omega)
      have q9 : decide ((nN : Int) < (l' : Int)) = false := decide_eq_false (by omega)
      go_wp2_with fail
      go_quiet (fail)
      subst hbn hNn
      obtain ⟨hBz,hVz,hOz⟩ := HEz.out nq
      generalize w6.drewN nq = w7 at *
      have HB7 : Hid _ := hBz
      have HV7 : Hid _ := hVz
      have HO7 : Hid _ := hOz
      have jc := q1z (P : Int) a1 bs'.length k1 a2 bs'.length k2 a3 N'.length k3 bs' N' gs' w7 hOz.bo hOz.nd hOz.zs HK.out.may.ok64
      clear hBz hVz hOz HEz c0 c1 c2 c3 d0 d1 d2 d3 ib1 ib2 cb1 cb2 q1 q2 q3 q4 q5 q6 q7 q8 q9 HB6 HA6 HV6 HO6 HB5 HA5 HV5 HO5 HA9 HV9 HO9 HLf HU1 HU2
      obtain ⟨d0,d1,d2,d3⟩ := HV7.out
      go_wp2_with fail
      refine jc.mono ?_
      rintro e w8 ⟨hb8,⟨hno,_⟩ | ⟨_,kk,gO,hgO,hmm,rfl,hrow⟩⟩
      ·exact absurd HK.out.may hno
      have hcls := HK.out.one.cls (j := kk) hmm
      rw [show rwA (P : Int) N' gs' = rowsG N' gs' (2 ^ (P : Int).toNat) from rfl,hcls] at hrow
      have HB8 : Hid _ := qa HB7.out hb8
      have HV8 : Hid _ := HV7.out.up hb8
      have HO8 : Hid _ := HO7.out.up hb8
      have HR8 : Hid (RowI w8 3 gO ((List.range bs'.length).map Int.ofNat)) := hrow
      have jr := q1A (P : Int) a1 bs'.length k1 a2 bs'.length k2 a3 N'.length k3 bs' N' gs' w8 HO8.out.bo HO8.out.nd HO8.out.zs HK.out.may.ok64
      clear jc hb8 hrow hcls hmm hgO d0 d1 d2 d3
      obtain ⟨d0,d1,d2,d3⟩ := HV8.out
      go_wp2_with fail
      refine jr.mono ?_
      rintro e w9 ⟨hb9,⟨hno,_⟩ | ⟨_,aR,cR,rfl,hrz,_⟩⟩
      ·exact absurd HK.out.may hno
      have hrch : rchP (rwA (P : Int) N' gs') bs'.length 0 [0] = List.range bs'.length := HK.out.one.rch
      rw [hrch,List.length_range] at hrz
      rw [hrch,List.length_range]
      have HB9 : Hid _ := qa HB8.out hb9
      have HVa : Hid _ := HV8.out.up hb9
      have HOa : Hid _ := HO8.out.up hb9
      have HRa : Hid (RowI w9 3 gO ((List.range bs'.length).map Int.ofNat)) := RowI.up (e := 3) HR8.out hb9
      have HZa : Hid _ := hrz
      have jm := qC (P : Int) a1 bs'.length k1 a2 bs'.length k2 a3 N'.length k3 bs' N' gs' w9 HOa.out.bo HOa.out.nd HOa.out.zs HK.out.may.ok64
      clear jr hb9 hrz hrch d0 d1 d2 d3
      obtain ⟨d0,d1,d2,d3⟩ := HVa.out
      go_wp2_with fail
      refine jm.mono ?_
      rintro e wa ⟨hba,⟨hno,_⟩ | ⟨_,bs2,gs2,N2,m1,l1,m2,l2,m3,l3,rfl,hM2,hO2⟩⟩
      ·exact absurd HK.out.may hno
      obtain ⟨rfl,rfl,rfl⟩ := hM2.again HK.out.may HK.out.one HK.out.sto
      obtain ⟨xa,hxa⟩ : ∃ xa,xa = wa.alloc (.cells #[.int .i64 (P : Int),.slice m1 bs2.length l1,.slice m2 bs2.length l2,.slice m3 N2.length l3] 26 (0,0)) := ⟨_,rfl⟩
      have hbx : Below wa.heap.size wa xa := by rw [hxa]; exact qb _ _
      have hbb2 := qa hba hbx
      have HBb : Hid _ := qa HB9.out hbb2
      have HVb : Hid _ := HVa.out.up hbb2
      have HOb : Hid _ := HOa.out.up hbb2
      have HRb : Hid (RowI xa 3 gO ((List.range bs2.length).map Int.ofNat)) := RowI.up (e := 3) HRa.out hbb2
      have HZb : Hid _ := HZa.out.up hbb2
      have HOn : Hid _ := hO2.up hbx
      have HVn : Hid (AuB xa wa.heap.size (P : Int) m1 bs2.length l1 m2 bs2.length l2 m3 N2.length l3) := by rw [hxa]; exact qf _ _ _ _ _ _ _ _ _ _ _
      have HXA : Hid _ := hxa
      have ji := q1N (P : Int) a1 bs2.length k1 a2 bs2.length k2 a3 N2.length k3 bs2 N2 gs2 xa HOb.out.bo HOb.out.nd HOb.out.zs HK.out.may.ok64
      clear jm hba hbx hbb2 hM2 hO2 hxa d0 d1 d2 d3
      obtain ⟨d0,d1,d2,d3⟩ := HVb.out
      go_wp2_with (rw [← HXA.out])
      refine ji.mono ?_
      rintro e wb ⟨hbb,⟨hno,_⟩ | ⟨_,bs3,gs3,N3,hM3,rfl⟩⟩
      ·exact absurd HK.out.may hno
      obtain ⟨rfl,rfl,rfl⟩ := hM3.again HK.out.may HK.out.one HK.out.sto
      rw [q3p]
      have HBc : Hid _ := qa HBb.out hbb
      have HVc : Hid _ := HVb.out.up hbb
      have HOc : Hid _ := HOb.out.up hbb
      have HRc : Hid (RowI wb 3 gO ((List.range bs3.length).map Int.ofNat)) := RowI.up (e := 3) HRb.out hbb
      have HZc : Hid _ := HZb.out.up hbb
      have hOn := HOn.out.up hbb
      have hVn := HVn.out.up hbb
      have jq := q29 (P : Int) a1 bs3.length k1 a2 bs3.length k2 a3 N3.length k3 (P : Int) m1 bs3.length l1 m2 bs3.length l2 m3 N3.length l3 bs3 gs3 N3 bs3 gs3 N3 wb HOc.out.bo HOc.out.zs HOc.out.nd hOn.bo hOn.zs hOn.nd
      rw [q3p] at jq
      clear ji hbb hM3 d0 d1 d2 d3 hOn HXA
      obtain ⟨d0,d1,d2,d3⟩ := HVc.out
      obtain ⟨n0,n1,n2,n3⟩ := hVn
      have hss : ((bs3.length : Int) != (bs3.length : Int)) = false := by simp
      go_wp2_with fail
      refine jq.mono ?_
      rintro e wd ⟨rfl,hbd⟩
      have HBd : Hid _ := qa HBc.out hbd
      have HVd : Hid _ := HVc.out.up hbd
      have HRd : Hid (RowI wd 3 gO ((List.range bs3.length).map Int.ofNat)) := RowI.up (e := 3) HRc.out hbd
      have HZd : Hid _ := HZc.out.up hbd
      clear jq hbd d0 d1 d2 d3 n0 n1 n2 n3
      obtain ⟨d0,d1,d2,d3⟩ := HVd.out
      have hb24 : bs3.length ≤ 24 := by omega
      generalize hnn : bs3.length = n' at *
      clear HVd HOc HVc HZc HRc HBc HZb HRb HOb HVb HBb HZa HRa HOa HVa HB9 HR8 HO8 HV8 HB8 HO7 HV7 HB7 HOn HVn
      go_wp2
      clear d0 d1 d2 d3
      go_loopw [22] (fun j wq => ∃ (k : Nat),k ≤ n' ∧ j = .int .i64 (k : Int) ∧ Hid (wq = wd)) (fun j _ => n' - (intOf j).toNat)
      case atStart => exact ⟨0,Nat.zero_le _,rfl,rfl⟩
      case round =>
       obtain ⟨k,hk,rfl,HWQ⟩ := hrel
       by_cases hkn : k < n'
       ·have hl1 : ((List.range n').map Int.ofNat).length = n' := by rw [List.length_map,List.length_range]
        have hgd : ((List.range n').map Int.ofNat).getD k 0 = (k : Int) := by rw [qy (by rw [List.length_range]; exact hkn),q1a hkn]
        have y1 : wr.cell? ⟨gO,k,none⟩ = some (.int .i64 (k : Int)) := by rw [HWQ.out]; exact (RowI.cell (e := 3) HRd.out (by rw [hl1]; exact hkn)).trans (by rw [hgd])
        have y2 := HZd.out.cell k hkn
        rw [hgd,← HWQ.out] at y2
        have i1 : ∀ w',(Instr.indexAt 23 (.slice (some ⟨gO,0,none⟩) n' n') (.int .i64 (k : Int))).run Try.prog w' = .ok (.pointer (some ⟨gO,k,none⟩)) w' := fun w' => by
         have := qp (P := Try.prog) (T := 23) Try.underlying23 qh (a := some ⟨gO,0,none⟩) (cap := n') (n := n') (fun e => by cases e) k w' hkn
         simpa [adOf,qd] using this
        have i2 := fun w' => HZd.out.idx n' k w' hkn (Nat.le_refl _)
        have yy : ((k : Int) != (k : Int)) = false := by simp
        generalize adOf aR k = ad at *
        obtain ⟨rg,ro,rz⟩ := ad
        clear hl1 hgd
        go_wp2
        go_roundw
        case rel => exact ⟨k + 1,by omega,by go_num,HWQ⟩
        case measure => simp [intOf] <;> omega
       ·have HE : Hid (Q (.returned (.bool true)) wr) := HQ.out wr (by rw [HWQ.out]; exact HBd.out)
        clear HQ
        go_wp2
        exact HE.out
end Go.Proofs.Ytehddcdgpamaaaa
