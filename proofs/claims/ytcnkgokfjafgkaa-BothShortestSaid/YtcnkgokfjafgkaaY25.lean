/- Texts of the proof, put together: what it uses. -/
import Derived.Deep.CutBlock
import Derived.Test.YtcnkgokfjafgkaaY24
set_option maxRecDepth 100000
set_option maxHeartbeats 16000000
namespace Go.Proofs.Ytcnkgokfjafgkaa
open Go.RowKit Go.Maps
structure AuV where
 aA : Option Addr
 nA : Nat
 cA : Nat
 aG : Option Addr
 nG : Nat
 cG : Nat
 aN : Option Addr
 nN : Nat
 cN : Nat
 bs : List Bool
 gs : List Int
 N : List Gd
def AuV.In (V : AuV) (w : World) : Prop := AuW w V.aA V.nA V.cA V.aG V.nG V.cG V.aN V.nN V.cN V.bs V.gs V.N
theorem AuV.In.up {V : AuV} {w w' : World} (h : V.In w) (hb : Below w.heap.size w w') : V.In w' := AuW.up h hb
structure VarB (w : World) (g : Nat) (p : Int) (V : AuV) : Prop where
 box : AuB w g p V.aA V.nA V.cA V.aG V.nG V.cG V.aN V.nN V.cN
 mem : V.In w
theorem VarB.up {w w' : World} {g : Nat} {p : Int} {V : AuV} (h : VarB w g p V) (hb : Below w.heap.size w w') : VarB w' g p V := ⟨h.box.up hb,h.mem.up hb⟩
theorem q2D {w : World} {g : Nat} {p : Int} {V : AuV} (h : V.In w) (e : g = w.heap.size) : VarB (w.alloc (.cells #[.int .i64 p,.slice V.aA V.nA V.cA,.slice V.aG V.nG V.cG,.slice V.aN V.nN V.cN] 26 (0,0))) g p V := by
 rw [e]; exact ⟨qi _ _ _ _ _ _ _ _ _ _ _,h.up (q5 _ _)⟩
def AuV.May (V : AuV) (p : Int) : Prop := MayG p V.nA V.N V.gs
def AuV.acc (V : AuV) (p : Int) (u : List Nat) : Bool := acT p V.bs V.N V.gs u
theorem q2r (p : Int) (V : AuV) (d : Option Addr) (m c : Nat) (ts : List Nat) (w : World) (hM : V.May p) (hA : V.In w) (hL : LtC w d m c ts) (hl : ts.length ≤ 1024) (ht : LtT p ts) :
  Calls Try.prog 12 #[.agg #[.int .i64 p,.slice V.aA V.nA V.cA,.slice V.aG V.nG V.cG,.slice V.aN V.nN V.cN],.slice d m c] w fun e w' => e = .returned (.bool (V.acc p ts)) ∧ Below w.heap.size w w' :=
 q5q p V.aA V.nA V.cA V.aG V.nG V.cG V.aN V.nN V.cN V.bs V.gs V.N d m c ts w hM hA hL hl ht
def MnV (p : Int) (V : AuV) (w : World) (e : Ending) (w' : World) : Prop :=
 ∃ W : AuV,e = .returned (.tuple #[.agg #[.int .i64 p,.slice W.aA W.nA W.cA,.slice W.aG W.nG W.cG,.slice W.aN W.nN W.cN],.int .i64 0]) ∧ Hid (MinA p V.nA V.bs V.N V.gs W.bs W.gs W.N) ∧ Hid (W.In w') ∧ Hid (Below w.heap.size w w')
theorem q5K (p : Int) (V : AuV) (w : World) (hM : V.May p) (hA : V.In w) :
  Calls Try.prog 16 #[.agg #[.int .i64 p,.slice V.aA V.nA V.cA,.slice V.aG V.nG V.cG,.slice V.aN V.nN V.cN]] w (MnV p V w) :=
 (q1G p V.aA V.nA V.cA V.aG V.nG V.cG V.aN V.nN V.cN V.bs V.N V.gs w hA.bo hA.nd hA.zs hM.ok64).mono fun e w' h => by
  obtain ⟨hb,⟨h,_⟩ | ⟨_,bs',gs',N',a1,c1,a2,c2,a3,c3,h1,h2,h3⟩⟩ := h
  ·exact absurd hM h
  ·exact ⟨⟨a1,bs'.length,c1,a2,bs'.length,c2,a3,N'.length,c3,bs',gs',N'⟩,h1,h2,h3.w,hb⟩
theorem q7R (p : Int) (V W : AuV) (w : World) (hV : V.In w) (hW : W.In w) :
  Calls Try.prog 13 #[.agg #[.int .i64 p,.slice V.aA V.nA V.cA,.slice V.aG V.nG V.cG,.slice V.aN V.nN V.cN],.agg #[.int .i64 p,.slice W.aA W.nA W.cA,.slice W.aG W.nG W.cG,.slice W.aN W.nN W.cN]] w fun e w' => e = .returned (.bool (decide (V.bs = W.bs ∧ V.gs = W.gs ∧ V.N = W.N))) ∧ Below w.heap.size w w' :=
 (q2I p V.aA V.nA V.cA V.aG V.nG V.cG V.aN V.nN V.cN p W.aA W.nA W.cA W.aG W.nG W.cG W.aN W.nN W.cN V.bs V.gs V.N W.bs W.gs W.N w hV.bo hV.zs hV.nd hW.bo hW.zs hW.nd).mono fun e w' ⟨h1,h2⟩ => by
  refine ⟨?_,h2⟩
  rw [h1,sameC,decide_eq_true rfl,Bool.true_and,Bool.decide_and,Bool.decide_and,Bool.and_assoc]
theorem q9H (p : Int) (V W : AuV) (w : World) (hM : V.May p) (kM : W.May p) (hV : V.In w) (hW : W.In w) :
  Calls Try.prog 17 #[.agg #[.int .i64 p,.slice V.aA V.nA V.cA,.slice V.aG V.nG V.cG,.slice V.aN V.nN V.cN],.agg #[.int .i64 p,.slice W.aA W.nA W.cA,.slice W.aG W.nG W.cG,.slice W.aN W.nN W.cN]] w fun e w' => ∃ b,e = .returned (.tuple #[.bool b,.int .i64 0]) ∧ Hid (b = true ↔ ∀ u,LtT p u → V.acc p u = W.acc p u) ∧ Below w.heap.size w w' :=
 (q48 p V.aA V.nA V.cA V.aG V.nG V.cG V.aN V.nN V.cN p W.aA W.nA W.cA W.aG W.nG W.cG W.aN W.nN W.cN V.bs W.bs V.N V.gs W.N W.gs w hV.bo hV.nd hV.zs hM.ok64 hW.bo hW.nd hW.zs kM.ok64).mono fun e w' h => by
  obtain ⟨hb,b,z,rfl,⟨_,_,⟨_,h⟩ | ⟨_,h⟩⟩ | ⟨rfl,_,_,_,h⟩⟩ := h
  ·exact absurd ⟨hM,kM⟩ h
  ·exact absurd rfl h
  ·exact ⟨b,rfl,h,hb⟩
theorem q5J (p : Int) (V W : AuV) (w : World) (hM : V.May p) (kM : W.May p) (hV : V.In w) (hW : W.In w) :
  Calls Try.prog 18 #[.agg #[.int .i64 p,.slice V.aA V.nA V.cA,.slice V.aG V.nG V.cG,.slice V.aN V.nN V.cN],.agg #[.int .i64 p,.slice W.aA W.nA W.cA,.slice W.aG W.nG W.cG,.slice W.aN W.nN W.cN]] w fun e w' => ∃ b,e = .returned (.tuple #[.bool b,.int .i64 0]) ∧ Hid (b = true ↔ ∀ u,LtT p u → V.acc p u = true → W.acc p u = true) ∧ Below w.heap.size w w' :=
 (q3n p V.aA V.nA V.cA V.aG V.nG V.cG V.aN V.nN V.cN p W.aA W.nA W.cA W.aG W.nG W.cG W.aN W.nN W.cN V.bs W.bs V.N V.gs W.N W.gs w hV.bo hV.nd hV.zs hM.ok64 hW.bo hW.nd hW.zs kM.ok64).mono fun e w' h => by
  obtain ⟨hb,b,z,rfl,⟨_,_,⟨_,h⟩ | ⟨_,h⟩⟩ | ⟨rfl,_,_,_,h⟩⟩ := h
  ·exact absurd ⟨hM,kM⟩ h
  ·exact absurd rfl h
  ·exact ⟨b,rfl,h,hb⟩
end Go.Proofs.Ytcnkgokfjafgkaa
namespace Go.Proofs.Ytcnkgokfjafgkaa
open Go.RowKit Go.Maps Go.Sort
theorem bneB {a b : Bool} (h : (a != b) = true) : b = !a := by cases a <;> cases b <;> first | rfl | (simp at h)
theorem iffB {a b : Bool} (h1 : a = true → b = true) (h2 : b = true → a = true) : a = b := by cases a <;> cases b <;> first | rfl | exact h1 rfl | exact h2 rfl | exact (h1 rfl).symm | exact (h2 rfl).symm
theorem q6g (p q : Int) (A B : AuV) (d : Option Addr) (m c : Nat) (zs : List Int) (w : World) (hA : A.In w) (hok : ∀ z ∈ A.gs,I64 z) (kA : B.In w) (kok : ∀ z ∈ B.gs,I64 z) (hL0 : IntSl Try.prog 27 .u8 w d m c zs) (hz : ∀ z ∈ zs,0 ≤ z ∧ z < 256) :
  Calls Try.prog 4 #[.agg #[.int .i64 p,.slice A.aA A.nA A.cA,.slice A.aG A.nG A.cG,.slice A.aN A.nN A.cN],.agg #[.int .i64 q,.slice B.aA B.nA B.cA,.slice B.aG B.nG B.cG,.slice B.aN B.nN B.cN],.slice d m c] w fun e w' => e = .returned (.bool true) ∧ Below w.heap.size w w' := by
 obtain ⟨Q,hQ⟩ : ∃ Q : Ending → World → Prop,Q = fun e w' => e = .returned (.bool true) ∧ Below w.heap.size w w' := ⟨_,rfl⟩
 have HQ0 : Hid (∀ w',Below w.heap.size w w' → Q (.returned (.bool true)) w') := fun w' h => by rw [hQ]; exact ⟨rfl,h⟩
 rw [← hQ]
 clear hQ
 obtain ⟨w2,hw2⟩ : ∃ w2,w2 = (w.alloc (.cells #[.int .i64 p,.slice A.aA A.nA A.cA,.slice A.aG A.nG A.cG,.slice A.aN A.nN A.cN] 26 (0,0))).alloc (.cells #[.int .i64 q,.slice B.aA B.nA B.cA,.slice B.aG B.nG B.cG,.slice B.aN B.nN B.cN] 26 (0,0)) := ⟨_,rfl⟩
 have hb2 : Below w.heap.size w w2 := by rw [hw2]; exact q7 (q5 w _) (q5 _ _)
 have hv1 : VarB w2 w.heap.size p A := by rw [hw2]; exact (q2D hA rfl).up (q5 _ _)
 have hv2 : VarB w2 (w.heap.size + 1) q B := by rw [hw2]; exact q2D (kA.up (q5 _ _)) (by simp)
 have HW2 : Hid _ := hw2
 have HL : Hid (IntSl Try.prog 27 .u8 w2 d m c zs) := hL0.up hb2
 have HZ : Hid _ := hz
 have HOK : Hid (∀ z ∈ A.gs,I64 z) := hok
 have KOK : Hid (∀ z ∈ B.gs,I64 z) := kok
 have jw := q49 w2
 have HQ : Hid (∀ w',Below w2.heap.size w2 w' → Q (.returned (.bool true)) w') := fun w' h => HQ0.out w' (q7 hb2 h)
 clear HQ0
 have HV1 : Hid (VarB w2 w.heap.size p A) := hv1
 have HV2 : Hid (VarB w2 (w.heap.size + 1) q B) := hv2
 have hmc := Nat.le_trans hL0.hcap hL0.bd
 unfold maxLen at hmc
 clear hw2 hb2 hv1 hv2 hA hok kA kok hL0 hz
 go_enter Try.func4,Try.ntmps4
 go_wp2_with (rw [← HW2.out])
 generalize w.heap.size + 1 = g2 at *
 generalize w.heap.size = g1 at *
 clear HW2
 refine jw.mono ?_
 rintro e w3 ⟨rfl,hb3⟩
 have HB3 : Hid (Below w2.heap.size w2 w3) := hb3
 have HV3 : Hid (VarB w3 g1 p A) := HV1.out.up hb3
 have HU3 : Hid (VarB w3 g2 q B) := HV2.out.up hb3
 have js := q21 p A.aA A.nA A.cA A.aG A.nG A.cG A.aN A.nN A.cN w3
 clear jw hb3
 obtain ⟨c0,c1,c2,c3⟩ := HV3.out.box
 generalize hsa : smBb p A.nA A.nG A.nN = sa at *
 have HSA : Hid _ := hsa
 clear hsa
 go_wp2_with fail
 refine js.mono ?_
 rintro e w4 ⟨rfl,hb4⟩
 have HB4 : Hid (Below w2.heap.size w2 w4) := q7 HB3.out hb4
 have HV4 : Hid (VarB w4 g1 p A) := HV3.out.up hb4
 have HU4 : Hid (VarB w4 g2 q B) := HU3.out.up hb4
 clear js hb4 c0 c1 c2 c3 HB3 HV3 HU3
 cases sa with
 | false =>
  have HE : Hid _ := HQ.out _ HB4.out
  clear HQ
  go_wp2
  exact HE.out
 | true =>
 have js := q21 q B.aA B.nA B.cA B.aG B.nG B.cG B.aN B.nN B.cN w4
 obtain ⟨c0,c1,c2,c3⟩ := HU4.out.box
 generalize hsb : smBb q B.nA B.nG B.nN = sb at *
 have HSB : Hid _ := hsb
 clear hsb
 go_wp2_with fail
 refine js.mono ?_
 rintro e w5 ⟨rfl,hb5⟩
 have HB5 : Hid (Below w2.heap.size w2 w5) := q7 HB4.out hb5
 have HV5 : Hid (VarB w5 g1 p A) := HV4.out.up hb5
 have HU5 : Hid (VarB w5 g2 q B) := HU4.out.up hb5
 clear js hb5 c0 c1 c2 c3 HB4 HV4 HU4
 cases sb with
 | false =>
  have HE : Hid _ := HQ.out _ HB5.out
  clear HQ
  go_wp2
  exact HE.out
 | true =>
 have hm1 := HV5.out.mem
 have hm2 := HU5.out.mem
 have jp := q2F p A.aA A.nA A.cA A.aG A.nG A.cG A.aN A.nN A.cN q B.aA B.nA B.cA B.aG B.nG B.cG B.aN B.nN B.cN A.bs B.bs A.N A.gs B.N B.gs w5 hm1.bo hm1.nd hm1.zs HOK.out hm2.bo hm2.nd hm2.zs KOK.out
 clear hm1 hm2
 obtain ⟨c0,c1,c2,c3⟩ := HV5.out.box
 obtain ⟨d0,d1,d2,d3⟩ := HU5.out.box
 go_wp2_with fail
 refine jp.mono ?_
 rintro e w6 ⟨hb6,⟨z,hz,rfl,_⟩ | ⟨hM,kM,rfl,by1,is,ba,bc,rfl,hS,hO⟩⟩
 ·have HE : Hid _ := HQ.out _ (q7 HB5.out hb6)
  have hz2 : (z != 0) = true := by simpa using hz
  clear HQ jp hb6 c0 c1 c2 c3 d0 d1 d2 d3
  go_wp2
  exact HE.out
 have hsa := q8p HSA.out
 have hsb := q8p HSB.out
 have hp3 : p ≤ 3 := hsa.2.1
 have hn64 : A.nA * B.nA ≤ 64 := Nat.le_trans (Nat.mul_le_mul hsa.1 hsb.1) (by decide)
 have HB6 : Hid (Below w2.heap.size w2 w6) := q7 HB5.out hb6
 have HV6 : Hid (VarB w6 g1 p A) := HV5.out.up hb6
 have HU6 : Hid (VarB w6 g2 p B) := HU5.out.up hb6
 have HBY : Hid (LtC w6 ba by1.length bc by1) := q4u hO
 have HS : Hid (SchT p (A.nA * B.nA) (fun u => A.acc p u != B.acc p u) by1 is) := hS
 have HM : Hid (A.May p) := hM
 have KM : Hid (B.May p) := kM
 have j1 := q5K p A w6 hM HV6.out.mem
 clear jp hb6 c0 c1 c2 c3 d0 d1 d2 d3 HB5 HV5 HU5 hS hO hM kM hsa hsb HSA HSB HOK KOK
 obtain ⟨c0,c1,c2,c3⟩ := HV6.out.box
 go_wp2_with fail
 refine j1.mono ?_
 rintro e w7 ⟨X,rfl,HMX,HIX,HBX⟩
 obtain ⟨w8,hw8⟩ : ∃ w8,w8 = w7.alloc (.cells #[.int .i64 p,.slice X.aA X.nA X.cA,.slice X.aG X.nG X.cG,.slice X.aN X.nN X.cN] 26 (0,0)) := ⟨_,rfl⟩
 have hb78 : Below w7.heap.size w7 w8 := by rw [hw8]; exact q5 _ _
 have hb68 := q7 HBX.out hb78
 have HVX : Hid (VarB w8 w7.heap.size p X) := by show VarB _ _ _ _; rw [hw8]; exact q2D HIX.out rfl
 have HB8 : Hid (Below w2.heap.size w2 w8) := q7 HB6.out hb68
 have HV8 : Hid (VarB w8 g1 p A) := HV6.out.up hb68
 have HU8 : Hid (VarB w8 g2 p B) := HU6.out.up hb68
 have HBY8 : Hid (LtC w8 ba by1.length bc by1) := HBY.out.up hb68
 have j2 := q5K p B w8 KM.out HU8.out.mem
 have HW8 : Hid _ := hw8
 clear j1 c0 c1 c2 c3 HB6 HV6 HU6 HBY hb68 hb78 hw8 HIX HBX
 obtain ⟨c0,c1,c2,c3⟩ := HU8.out.box
 go_wp2_with (rw [← HW8.out])
 generalize w7.heap.size = gx at *
 clear HW8
 refine j2.mono ?_
 rintro e w9 ⟨Y,rfl,HMY,HIY,HBY9⟩
 obtain ⟨wa,hwa⟩ : ∃ wa,wa = w9.alloc (.cells #[.int .i64 p,.slice Y.aA Y.nA Y.cA,.slice Y.aG Y.nG Y.cG,.slice Y.aN Y.nN Y.cN] 26 (0,0)) := ⟨_,rfl⟩
 have hb9a : Below w9.heap.size w9 wa := by rw [hwa]; exact q5 _ _
 have hb8a := q7 HBY9.out hb9a
 have HVY : Hid (VarB wa w9.heap.size p Y) := by show VarB _ _ _ _; rw [hwa]; exact q2D HIY.out rfl
 have HBa : Hid (Below w2.heap.size w2 wa) := q7 HB8.out hb8a
 have HVa : Hid (VarB wa g1 p A) := HV8.out.up hb8a
 have HUa : Hid (VarB wa g2 p B) := HU8.out.up hb8a
 have HXa : Hid (VarB wa gx p X) := HVX.out.up hb8a
 have HBYa : Hid (LtC wa ba by1.length bc by1) := HBY8.out.up hb8a
 have j3 := q9H p A B wa HM.out KM.out HVa.out.mem HUa.out.mem
 have HWa : Hid _ := hwa
 clear j2 c0 c1 c2 c3 HB8 HV8 HU8 HBY8 hb8a hb9a hwa HIY HBY9 HVX
 obtain ⟨c0,c1,c2,c3⟩ := HVa.out.box
 obtain ⟨d0,d1,d2,d3⟩ := HUa.out.box
 go_wp2_with (rw [← HWa.out])
 generalize w9.heap.size = gy at *
 clear HWa
 refine j3.mono ?_
 rintro e wb ⟨same,rfl,HSM,hbb⟩
 have HVb : Hid (VarB wb g1 p A) := HVa.out.up hbb
 have HUb : Hid (VarB wb g2 p B) := HUa.out.up hbb
 have HRb : Hid (Below wa.heap.size wa wb) := hbb
 have j4 := q5J p A B wb HM.out KM.out HVb.out.mem HUb.out.mem
 clear j3 c0 c1 c2 c3 d0 d1 d2 d3 hbb
 obtain ⟨c0,c1,c2,c3⟩ := HVb.out.box
 obtain ⟨d0,d1,d2,d3⟩ := HUb.out.box
 go_wp2_with fail
 refine j4.mono ?_
 rintro e wd ⟨one,rfl,HON,hbd⟩
 have HVd : Hid (VarB wd g1 p A) := HVb.out.up hbd
 have HUd : Hid (VarB wd g2 p B) := HUb.out.up hbd
 have HRd : Hid (Below wa.heap.size wa wd) := q7 HRb.out hbd
 have j5 := q5J p B A wd KM.out HM.out HUd.out.mem HVd.out.mem
 clear j4 c0 c1 c2 c3 d0 d1 d2 d3 hbd HVb HUb HRb
 obtain ⟨c0,c1,c2,c3⟩ := HVd.out.box
 obtain ⟨d0,d1,d2,d3⟩ := HUd.out.box
 go_wp2_with fail
 refine j5.mono ?_
 rintro e we ⟨two,rfl,HTW,hbe⟩
 have HRe : Hid (Below wa.heap.size wa we) := q7 HRd.out hbe
 have HBe : Hid (Below w2.heap.size w2 we) := q7 HBa.out HRe.out
 have HVe : Hid (VarB we g1 p A) := HVa.out.up HRe.out
 have HUe : Hid (VarB we g2 p B) := HUa.out.up HRe.out
 have HXe : Hid (VarB we gx p X) := HXa.out.up HRe.out
 have HYe : Hid (VarB we gy p Y) := HVY.out.up HRe.out
 have HBYe : Hid (LtC we ba by1.length bc by1) := HBYa.out.up HRe.out
 clear j5 c0 c1 c2 c3 d0 d1 d2 d3 hbe HVd HUd HRd HBa HVa HUa HXa HVY HBYa HRe
 have jsm := q7R p X Y we HXe.out.mem HYe.out.mem
 have hsm : decide (X.bs = Y.bs ∧ X.gs = Y.gs ∧ X.N = Y.N) = same := by
  cases same with
  | true => exact decide_eq_true ((q2t HMX.out HM.out HMY.out KM.out).2 (HSM.out.1 rfl))
  | false => exact decide_eq_false fun h => absurd (HSM.out.2 ((q2t HMX.out HM.out HMY.out KM.out).1 h)) (by decide)
 rw [hsm] at jsm
 have his : is = !same := by
  cases same with
  | true =>
   rcases HS.out with ⟨_,h2,h3,_⟩ | ⟨h1,_⟩
   ·have := HSM.out.1 rfl by1 h2
    simp [this] at h3
   ·exact h1
  | false =>
   rcases HS.out with ⟨h1,_⟩ | ⟨_,_,h3⟩
   ·exact h1
   ·exact absurd (HSM.out.2 fun u hu => by simpa using h3 u hu) (by decide)
 have HIS : Hid (is = !same) := his
 clear his
 have hot : (one && two) = same := by
  cases same with
  | true => rw [HON.out.2 fun u hu h => by rw [← HSM.out.1 rfl u hu]; exact h,HTW.out.2 fun u hu h => by rw [HSM.out.1 rfl u hu]; exact h]; rfl
  | false =>
   cases one with
   | false => rfl
   | true => cases two with
    | false => rfl
    | true => exact absurd (HSM.out.2 fun u hu => by
      exact iffB (HON.out.1 rfl u hu) (HTW.out.1 rfl u hu)) (by decide)
 have HOT : Hid _ := hot
 clear hsm hot HTW HMX HMY
 obtain ⟨c0,c1,c2,c3⟩ := HXe.out.box
 obtain ⟨d0,d1,d2,d3⟩ := HYe.out.box
 go_upto_region 12 with fail
 go_cut [117] (fun v wx => v = .bool false ∧ Hid (Below we.heap.size we wx))
 case first =>
  cases one <;> cases two <;> (
   have hs := HOT.out
   simp only [Bool.and_true,Bool.and_false] at hs
   subst hs
   have hi := HIS.out
   simp only [Bool.not_true,Bool.not_false] at hi
   subst hi
   clear HOT HIS
   go_wp2_with fail
   refine jsm.mono ?_
   rintro e wf ⟨rfl,hbf⟩
   have HBf : Hid (Below we.heap.size we wf) := hbf
   clear jsm hbf
   go_wp2
   go_meet
   exact ⟨rfl,HBf⟩)
 case rest =>
 obtain ⟨rfl,HBf⟩ := hcut
 obtain ⟨wf,hwf⟩ : ∃ wf,wf = wc := ⟨_,rfl⟩
 subst hwf
 clear jsm c0 c1 c2 c3 d0 d1 d2 d3 HXe HYe HOT
 have hVf := HVe.out.up HBf.out
 have hUf := HUe.out.up HBf.out
 have hLf := HBYe.out.up HBf.out
 have HRf : Hid (Below w2.heap.size w2 wf) := q7 HBe.out HBf.out
 have HVf : Hid (VarB wf g1 p A) := hVf
 have HUf : Hid (VarB wf g2 p B) := hUf
 have HBYf : Hid (LtC wf ba by1.length bc by1) := hLf
 clear hVf hUf hLf HBe HVe HUe HBYe HBf
 go_upto_region 14 with fail
 go_cut [127] (fun v wx => v = .bool false ∧ Hid (Below wf.heap.size wf wx))
 case first =>
  have hs0 : wf.cell? ⟨g1,0,none⟩ = some (.int .i64 p) ∧ wf.cell? ⟨g1,1,none⟩ = some (.slice A.aA A.nA A.cA) ∧ wf.cell? ⟨g1,2,none⟩ = some (.slice A.aG A.nG A.cG) ∧ wf.cell? ⟨g1,3,none⟩ = some (.slice A.aN A.nN A.cN) ∧ wf.cell? ⟨g2,0,none⟩ = some (.int .i64 p) ∧ wf.cell? ⟨g2,1,none⟩ = some (.slice B.aA B.nA B.cA) ∧ wf.cell? ⟨g2,2,none⟩ = some (.slice B.aG B.nG B.cG) ∧ wf.cell? ⟨g2,3,none⟩ = some (.slice B.aN B.nN B.cN) ∧ Hid (Below wf.heap.size wf wf) := ⟨HVf.out.box.c0,HVf.out.box.c1,HVf.out.box.c2,HVf.out.box.c3,HUf.out.box.c0,HUf.out.box.c1,HUf.out.box.c2,HUf.out.box.c3,Below.refl _ _⟩
  cases is with
  | false =>
   go_quiet (fail)
   go_wp2
   go_meet
   exact ⟨rfl,q3j ⟨_,rfl⟩⟩
  | true =>
   have HSF : Hid (LtT p by1 ∧ B.acc p by1 = (!A.acc p by1) ∧ by1.length ≤ 1024) := by
    rcases HS.out with ⟨_,h2,h3,h4,_⟩ | ⟨h1,_⟩
    ·exact ⟨h2,bneB h3,by omega⟩
    ·exact absurd h1 (by decide)
   have hne := HSF.out.2.1
   have HJA : Hid (∀ W,Hid (Below wf.heap.size wf W) → Calls Try.prog 12 #[.agg #[.int .i64 p,.slice A.aA A.nA A.cA,.slice A.aG A.nG A.cG,.slice A.aN A.nN A.cN],.slice ba by1.length bc] W fun e w' => e = .returned (.bool (A.acc p by1)) ∧ Below W.heap.size W w') := fun W hb => q2r p A ba by1.length bc by1 W HM.out (HVf.out.mem.up hb.out) (HBYf.out.up hb.out) HSF.out.2.2 HSF.out.1
   have HJB : Hid (∀ W,Hid (Below wf.heap.size wf W) → Calls Try.prog 12 #[.agg #[.int .i64 p,.slice B.aA B.nA B.cA,.slice B.aG B.nG B.cG,.slice B.aN B.nN B.cN],.slice ba by1.length bc] W fun e w' => e = .returned (.bool (B.acc p by1)) ∧ Below W.heap.size W w') := fun W hb => q2r p B ba by1.length bc by1 W KM.out (HUf.out.mem.up hb.out) (HBYf.out.up hb.out) HSF.out.2.2 HSF.out.1
   rw [hne] at HJB
   clear HSF hne
   generalize A.acc p by1 = pa at *
   cases pa <;> simp only [Bool.not_true,Bool.not_false] at HJB <;> (go_region_held3 (fun w' => w'.cell? ⟨g1,0,none⟩ = some (.int .i64 p) ∧ w'.cell? ⟨g1,1,none⟩ = some (.slice A.aA A.nA A.cA) ∧ w'.cell? ⟨g1,2,none⟩ = some (.slice A.aG A.nG A.cG) ∧ w'.cell? ⟨g1,3,none⟩ = some (.slice A.aN A.nN A.cN) ∧ w'.cell? ⟨g2,0,none⟩ = some (.int .i64 p) ∧ w'.cell? ⟨g2,1,none⟩ = some (.slice B.aA B.nA B.cA) ∧ w'.cell? ⟨g2,2,none⟩ = some (.slice B.aG B.nG B.cG) ∧ w'.cell? ⟨g2,3,none⟩ = some (.slice B.aN B.nN B.cN) ∧ Hid (Below wf.heap.size wf w'))
    (first | assumption | exact q1z (q5 _ _) (by assumption) | exact q1z ((Below.refl _ _).drew) (by assumption) | exact hs0 | fail) (first
    | (go_at_call 12; (with_reducible refine (HJA.out _ (bgS_b (by assumption))).mono ?_); rintro e wA ⟨rfl,HBA⟩; have hsA := q1z HBA (by assumption))
    | (go_at_call 12; (with_reducible refine (HJB.out _ (bgS_b (by assumption))).mono ?_); rintro e wB ⟨rfl,HBB⟩; have hsB := q1z HBB (by assumption))
    | fail))
   all_goals
    go_wp2
    go_meet
    exact ⟨rfl,bgS_b (by assumption)⟩
 case rest =>
 obtain ⟨rfl,HBg⟩ := hcut
 obtain ⟨wg,hwg⟩ : ∃ wg,wg = wc := ⟨_,rfl⟩
 subst hwg
 have HBg2 : Hid (Below w2.heap.size w2 wg) := q7 HRf.out HBg.out
 have HVg : Hid (VarB wg g1 p A) := HVf.out.up HBg.out
 have HUg : Hid (VarB wg g2 p B) := HUf.out.up HBg.out
 have HLg : Hid (IntSl Try.prog 27 .u8 wg d m c zs) := HL.out.up HBg2.out
 clear HVf HUf HBYf HRf HBg HL
 have hp0 := HM.out.p0
 obtain ⟨P,rfl⟩ := Int.eq_ofNat_of_zero_le hp0
 have hP4 : P ≤ 3 := by omega
 have hmin : min P 64 = P := by omega
 go_upto_block 0 with fail
 go_cut [21,22] from 128 to 149 (fun v j wx => ∃ (ts : List Nat) (fa : Option Addr) (fc : Nat),v = .slice fa ts.length fc ∧ ts.length ≤ 1024 ∧ Hid (LtT (P : Int) ts) ∧ Hid (LtC wx fa ts.length fc ts) ∧ Hid (Below wg.heap.size wg wx))
 case first =>
  go_wp2
  go_loopw [21,22] (fun v j wr => ∃ (i : Nat),i ≤ m ∧ i ≤ 1024 ∧ j = .int .i64 (i : Int) ∧ Hid (wr.ownsRow wg.heap.size 34 1 v i (ltV ((cutN (2 ^ P) zs).take i))) ∧ Hid (Below wg.heap.size wg wr)) (fun _ j _ => m - (intOf j).toNat)
  case atStart => exact ⟨0,Nat.zero_le _,Nat.zero_le _,rfl,⟨rfl,Or.inl ⟨rfl,rfl⟩⟩,Below.refl _ _⟩
  case round =>
   obtain ⟨i,hi,hi2,rfl,HO,HB⟩ := hrel
   by_cases hlt : i < m ∧ i < 1024
   ·obtain ⟨hlt,hlt2⟩ := hlt
    have hiz : i < zs.length := by have := HLg.out.hlen; omega
    have hS := HLg.out.up HB.out
    have hidx := fun w' => hS.idx m i w' hlt (Nat.le_refl _)
    have hce := hS.cell i hlt
    have hok := HZ.out (zs.getD i 0) (by rw [List.getD_eq_getElem?_getD,List.getElem?_eq_getElem hiz]; exact List.getElem_mem hiz)
    have HTK : Hid _ := q7Z (K := 2 ^ P) hiz
    generalize zs.getD i 0 = zz at *
    obtain ⟨z,rfl⟩ := Int.eq_ofNat_of_zero_le hok.1
    obtain ⟨av,cv,rfl⟩ := qe HO.out
    generalize adOf d i = ad at *
    obtain ⟨ga,oa,sa⟩ := ad
    have HMK : Hid _ := maskP (z := z) (k := P) (by omega) (by omega)
    have hO8 : (wr.alloc (.cells #[.int .u8 (bits BinOp.and IntKind.u8 (z : Int) (IntKind.u8.wrap (IntKind.u8.wrap (2 ^ P) - 1)))] 34)).drew.ownsRow wg.heap.size 34 1 (.slice av i cv) i (ltV ((cutN (2 ^ P) zs).take i)) := World.ownsRow.alloc HO.out _
    have hc8 : (wr.alloc (.cells #[.int .u8 (bits BinOp.and IntKind.u8 (z : Int) (IntKind.u8.wrap (IntKind.u8.wrap (2 ^ P) - 1)))] 34)).drew.cell? ⟨wr.heap.size,0,none⟩ = some (.int .u8 (bits BinOp.and IntKind.u8 (z : Int) (IntKind.u8.wrap (IntKind.u8.wrap (2 ^ P) - 1)))) := q6 (MapKept.heap_alloc wr _).1 0
    have hw0 : wg.heap.size ≤ wr.heap.size := HB.out.size
    have c0 := (HVg.out.up HB.out).box.c0
    have q1 : ga < wr.heap.size := World.block_lt_of_cell? _ _ hce
    have q2 : g1 < wr.heap.size := World.block_lt_of_cell? _ _ c0
    have him : i + 1 ≤ 140737488355328 := by omega
    have e1 : decide ((i : Int) < (m : Int)) = true := decide_eq_true (by omega)
    have e2 : decide ((i : Int) < 1024) = true := decide_eq_true (by omega)
    clear hS
    go_wp2
    go_region_law ((refine q5n rfl _ _ rfl wg.heap.size (.slice av i cv) i _ _ wr.heap.size rfl rfl hO8 hc8 him (by simp; omega) ?_; intro v5 w5 hown5 hgr5; obtain ⟨a5,k5,rfl⟩ := qe hown5))
    all_goals
     have HO5 : Hid (w5.ownsRow wg.heap.size 34 1 (.slice a5 (i + 1) k5) (i + 1) (ltV ((cutN (2 ^ P) zs).take (i + 1)))) := by
      show _
      rw [HTK.out,ltV,List.map_append]
      have h5 := hown5
      rw [HMK.out] at h5
      exact h5
     have HB5 : Hid (Below wg.heap.size wg w5) := by
      have h1 := HB.out.trans ((q5 wr (.cells #[.int .u8 (bits BinOp.and IntKind.u8 (z : Int) (IntKind.u8.wrap (IntKind.u8.wrap (2 ^ P) - 1)))] 34)).mono hw0)
      exact h1.drew.grown hgr5 (by simp; omega) (fun j hj => qm hO8 j hj)
     clear hO8 hc8 hown5 hgr5 hce hidx c0 q1 q2 HO HB HMK HTK
     go_wp2
     go_roundw
     case rel => exact ⟨i + 1,by omega,by omega,by go_num,HO5,HB5⟩
     case measure => simp [intOf] <;> omega
   ·have hzl := HLg.out.hlen
    obtain ⟨fa,fc,rfl⟩ := qe HO.out
    have hcl : ((cutN (2 ^ P) zs).take i).length = i := by rw [List.length_take,cutN,List.length_map]; omega
    have HCL : Hid _ := hcl
    have HLf : Hid (LtC wr fa i fc ((cutN (2 ^ P) zs).take i)) := q4u HO.out
    have HSL : Hid (LtT (P : Int) ((cutN (2 ^ P) zs).take i)) := fun l hl => by rw [Int.toNat_natCast]; exact q7x (Nat.two_pow_pos P) zs l (List.mem_of_mem_take hl)
    clear hzl HO hcl
    rcases (show ¬ i < m ∨ (i < m ∧ ¬ i < 1024) by omega) with hE | ⟨hE,hE2⟩
    all_goals
     clear hlt
     go_wp2
     go_meet
     refine ⟨(cutN (2 ^ P) zs).take i,fa,fc,?_,?_,HSL,?_,HB⟩
     ·rw [HCL.out]
     ·rw [HCL.out]; exact hi2
     ·show LtC _ _ _ _ _
      rw [HCL.out]; exact HLf.out
 case rest =>
 obtain ⟨ts,fa,fc,rfl,hti,HSL,HLf,HBf⟩ := hcut
 obtain ⟨wr,hwr⟩ : ∃ wr,wr = wc := ⟨_,rfl⟩
 subst hwr
 have HVr : Hid (VarB wr g1 (P : Int) A) := HVg.out.up HBf.out
 have HUr : Hid (VarB wr g2 (P : Int) B) := HUg.out.up HBf.out
 have HE : Hid (∀ w',Below wr.heap.size wr w' → Q (.returned (.bool true)) w') := fun w' h => HQ.out w' (q7 (q7 HBg2.out HBf.out) h)
 have HJA : Hid (∀ W,Hid (Below wr.heap.size wr W) → Calls Try.prog 12 #[.agg #[.int .i64 (P : Int),.slice A.aA A.nA A.cA,.slice A.aG A.nG A.cG,.slice A.aN A.nN A.cN],.slice fa ts.length fc] W fun e w' => e = .returned (.bool (A.acc (P : Int) ts)) ∧ Below W.heap.size W w') := fun W hb => q2r (P : Int) A fa ts.length fc ts W HM.out (HVr.out.mem.up hb.out) (HLf.out.up hb.out) hti HSL.out
 have HJB : Hid (∀ W,Hid (Below wr.heap.size wr W) → Calls Try.prog 12 #[.agg #[.int .i64 (P : Int),.slice B.aA B.nA B.cA,.slice B.aG B.nG B.cG,.slice B.aN B.nN B.cN],.slice fa ts.length fc] W fun e w' => e = .returned (.bool (B.acc (P : Int) ts)) ∧ Below W.heap.size W w') := fun W hb => q2r (P : Int) B fa ts.length fc ts W KM.out (HUr.out.mem.up hb.out) (HLf.out.up hb.out) hti HSL.out
 have HMI : Hid (A.acc (P : Int) ts ≠ B.acc (P : Int) ts → is = true ∧ decide ((ts.length : Int) < (by1.length : Int)) = false) := fun hne => by
  rcases HS.out with ⟨h1,h2,h3,h4,h5⟩ | ⟨_,_,h3⟩
  ·refine ⟨h1,decide_eq_false fun hl => h5 ts HSL.out (by simpa using hne) ?_⟩
   unfold ltT
   omega
  ·exact absurd (by simpa using h3 ts HSL.out) hne
 have HIM : Hid (one = true → A.acc (P : Int) ts = true → B.acc (P : Int) ts = true) := fun h => HON.out.1 h ts HSL.out
 generalize A.acc (P : Int) ts = xa at *
 generalize B.acc (P : Int) ts = xb at *
 clear HQ HVg HUg HLg HBg2 HBf HSL HLf HS HON HM KM HSM HIS HZ hti
 generalize ts.length = tn at *
 generalize by1.length = bn at *
 go_upto_region 21 with fail
 go_cut [167] (fun v wx => v = .bool false ∧ Hid (Below wr.heap.size wr wx))
 case first =>
  have hd : xa = xb ∨ (xa ≠ xb ∧ is = true ∧ decide ((tn : Int) < (bn : Int)) = false) := by
   by_cases h : xa = xb
   ·exact .inl h
   ·exact .inr ⟨h,HMI.out h⟩
  clear HMI HIM HE
  rcases hd with rfl | ⟨hne,rfl,hlen⟩
  ·cases xa
   all_goals
    have kA : ∀ d os,Calls Try.prog 12 #[.agg #[.int .i64 (P : Int),.slice A.aA A.nA A.cA,.slice A.aG A.nG A.cG,.slice A.aN A.nN A.cN],.slice fa tn fc] (grow (redrawn wr d) os) fun e w'' => e = .returned (.bool _) ∧ ∃ p : Regrown,w'' = grow (redrawn wr p.d) p.os := fun d os => (HJA.out _ (below_regrown wr d os)).mono fun e w'' ⟨h1,h2⟩ => ⟨h1,regrown_of_below (q7 (below_regrown wr d os) h2)⟩
    have kB : ∀ d os,Calls Try.prog 12 #[.agg #[.int .i64 (P : Int),.slice B.aA B.nA B.cA,.slice B.aG B.nG B.cG,.slice B.aN B.nN B.cN],.slice fa tn fc] (grow (redrawn wr d) os) fun e w'' => e = .returned (.bool _) ∧ ∃ p : Regrown,w'' = grow (redrawn wr p.d) p.os := fun d os => (HJB.out _ (below_regrown wr d os)).mono fun e w'' ⟨h1,h2⟩ => ⟨h1,regrown_of_below (q7 (below_regrown wr d os) h2)⟩
    obtain ⟨b00,b01,b02,b03⟩ := HVr.out.box
    replace b00 := cell_regrown b00
    replace b01 := cell_regrown b01
    replace b02 := cell_regrown b02
    replace b03 := cell_regrown b03
    obtain ⟨b10,b11,b12,b13⟩ := HUr.out.box
    replace b10 := cell_regrown b10
    replace b11 := cell_regrown b11
    replace b12 := cell_regrown b12
    replace b13 := cell_regrown b13
    refine wp_region_quiet_below (by kernel_rfl) (by kernel_rfl) ?_
    repeat (go_big_quiet_step (first | (with_reducible exact kA _ _) | (with_reducible exact kB _ _)))
    refine wpQuiet_nil ?_
    intro _ hw'
    obtain ⟨⟨dq,osq⟩,hw''⟩ := hw'
    subst hw''
    have HI3 : Hid (Below wr.heap.size wr (grow (redrawn wr dq) osq)) := below_regrown wr dq osq
    generalize grow (redrawn wr dq) osq = wx at *
    clear kA kB b00 b01 b02 b03 b10 b11 b12 b13
    go_wp2
    go_meet
    exact ⟨rfl,HI3⟩
  ·have hlen2 : decide (tn < bn) = false := decide_eq_false fun h => by simp at hlen; omega
   cases xa <;> cases xb <;> first | exact absurd rfl hne | skip
   all_goals
    clear hne
    have kA : ∀ d os,Calls Try.prog 12 #[.agg #[.int .i64 (P : Int),.slice A.aA A.nA A.cA,.slice A.aG A.nG A.cG,.slice A.aN A.nN A.cN],.slice fa tn fc] (grow (redrawn wr d) os) fun e w'' => e = .returned (.bool _) ∧ ∃ p : Regrown,w'' = grow (redrawn wr p.d) p.os := fun d os => (HJA.out _ (below_regrown wr d os)).mono fun e w'' ⟨h1,h2⟩ => ⟨h1,regrown_of_below (q7 (below_regrown wr d os) h2)⟩
    have kB : ∀ d os,Calls Try.prog 12 #[.agg #[.int .i64 (P : Int),.slice B.aA B.nA B.cA,.slice B.aG B.nG B.cG,.slice B.aN B.nN B.cN],.slice fa tn fc] (grow (redrawn wr d) os) fun e w'' => e = .returned (.bool _) ∧ ∃ p : Regrown,w'' = grow (redrawn wr p.d) p.os := fun d os => (HJB.out _ (below_regrown wr d os)).mono fun e w'' ⟨h1,h2⟩ => ⟨h1,regrown_of_below (q7 (below_regrown wr d os) h2)⟩
    obtain ⟨b00,b01,b02,b03⟩ := HVr.out.box
    replace b00 := cell_regrown b00
    replace b01 := cell_regrown b01
    replace b02 := cell_regrown b02
    replace b03 := cell_regrown b03
    obtain ⟨b10,b11,b12,b13⟩ := HUr.out.box
    replace b10 := cell_regrown b10
    replace b11 := cell_regrown b11
    replace b12 := cell_regrown b12
    replace b13 := cell_regrown b13
    refine wp_region_quiet_below (by kernel_rfl) (by kernel_rfl) ?_
    repeat (go_big_quiet_step (first | (with_reducible exact kA _ _) | (with_reducible exact kB _ _)))
    refine wpQuiet_nil ?_
    intro _ hw'
    obtain ⟨⟨dq,osq⟩,hw''⟩ := hw'
    subst hw''
    have HI3 : Hid (Below wr.heap.size wr (grow (redrawn wr dq) osq)) := below_regrown wr dq osq
    generalize grow (redrawn wr dq) osq = wx at *
    clear kA kB b00 b01 b02 b03 b10 b11 b12 b13
    go_wp2
    go_meet
    exact ⟨rfl,HI3⟩
 case rest =>
 obtain ⟨rfl,HBh⟩ := hcut
 obtain ⟨wh,hwh⟩ : ∃ wh,wh = wc := ⟨_,rfl⟩
 subst hwh
 have HVh : Hid (VarB wh g1 (P : Int) A) := HVr.out.up HBh.out
 have HUh : Hid (VarB wh g2 (P : Int) B) := HUr.out.up HBh.out
 clear HVr HUr HMI
 cases one with
 | false =>
  have HE2 : Hid _ := HE.out _ HBh.out
  clear HE HIM HJA HJB HVh HUh
  go_wp2
  exact HE2.out
 | true =>
  have j1 := HJA.out wh HBh
  obtain ⟨c0,c1,c2,c3⟩ := HVh.out.box
  cases xa with
  | false =>
   clear HJA HJB HIM
   go_wp2_with fail
   refine j1.mono ?_
   rintro e wi ⟨rfl,hb⟩
   have HE2 : Hid _ := HE.out _ (q7 HBh.out hb)
   clear j1 hb c0 c1 c2 c3 HE HVh HUh
   go_wp2
   exact HE2.out
  | true =>
   have hxb := HIM.out rfl rfl
   subst hxb
   clear HJA HIM
   go_wp2_with fail
   refine j1.mono ?_
   rintro e wi ⟨rfl,hb⟩
   have HBi : Hid (Below wr.heap.size wr wi) := q7 HBh.out hb
   have HUi : Hid (VarB wi g2 (P : Int) B) := HUh.out.up hb
   have j2 := HJB.out wi HBi
   clear j1 hb c0 c1 c2 c3 HVh HUh HBh HJB
   obtain ⟨c0,c1,c2,c3⟩ := HUi.out.box
   go_wp2_with fail
   refine j2.mono ?_
   rintro e wj ⟨rfl,hb⟩
   have HE2 : Hid _ := HE.out _ (q7 HBi.out hb)
   clear j2 hb c0 c1 c2 c3 HE HUi HBi
   go_wp2
   exact HE2.out
end Go.Proofs.Ytcnkgokfjafgkaa
namespace Go.Proofs.Ytcnkgokfjafgkaa
open Go.RowKit Go.Maps
theorem q4a (p : Int) (aA : Option Addr) (nA cA : Nat) (aG : Option Addr) (nG cG : Nat) (aN : Option Addr) (nN cN : Nat) (bs : List Bool) (gs : List Int) (N : List Gd) (q : Int) (bA : Option Addr) (mA dA : Nat) (bG : Option Addr) (mG dG : Nat) (bN : Option Addr) (mN dN : Nat) (cs : List Bool) (hs : List Int) (M : List Gd) (d : Option Addr) (m c : Nat) (zs : List Int) (w : World) (hB : BoSl w aA nA cA bs) (hG : ZSl w aG nG cG gs) (hN : NdSl w aN nN cN N) (hok : ∀ z ∈ gs,I64 z) (kB : BoSl w bA mA dA cs) (kG : ZSl w bG mG dG hs) (kN : NdSl w bN mN dN M) (kok : ∀ z ∈ hs,I64 z) (hL : IntSl Try.prog 27 .u8 w d m c zs) (hz : ∀ z ∈ zs,0 ≤ z ∧ z < 256) (_ : c ≤ 140737488351232) :
  Calls Try.prog 4 #[.agg #[.int .i64 p,.slice aA nA cA,.slice aG nG cG,.slice aN nN cN],.agg #[.int .i64 q,.slice bA mA dA,.slice bG mG dG,.slice bN mN dN],.slice d m c] w fun e w' => e = .returned (.bool true) ∧ Below w.heap.size w w' :=
 q6g p q ⟨aA,nA,cA,aG,nG,cG,aN,nN,cN,bs,gs,N⟩ ⟨bA,mA,dA,bG,mG,dG,bN,mN,dN,cs,hs,M⟩ d m c zs w ⟨hB,hN,hG⟩ hok ⟨kB,kN,kG⟩ kok hL hz
end Go.Proofs.Ytcnkgokfjafgkaa
