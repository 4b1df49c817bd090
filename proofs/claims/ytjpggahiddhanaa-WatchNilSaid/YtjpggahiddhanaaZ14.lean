/- Texts of the proof, put together: what it uses. -/
import Derived.Test.YtjpggahiddhanaaZ12
set_option maxRecDepth 100000
set_option maxHeartbeats 16000000
namespace Go.Proofs.Ytjpggahiddhanaa
open Go.RowKit Go.Maps Go.Sort
def wkN : List Gd := [(1,-2,-3),(1,-1,-3),(0,0,1)]
def wkG : List Int := [2,-2,-3]
def wkB : List Bool := [false,false,true]
def wkR : List (List Nat) := [[1,0,2,2],[1,1,1,1],[2,2,2,2]]
def wkA : AuP := ⟨2,3,wkB,wkN,wkG⟩
theorem q2S : rowsG wkN wkG (2 ^ (2 : Int).toNat) = wkR := by decide +kernel
theorem q2o : ∀ z ∈ wkG,I64 z := fun z hz => by
 simp [wkG] at hz
 rcases hz with rfl | rfl | rfl <;> exact ⟨by decide,by decide⟩
theorem q2p : ∀ t ∈ wkN,GdOk t := fun t ht => by
 simp [wkN] at ht
 rcases ht with rfl | rfl | rfl <;> exact ⟨⟨by decide,by decide⟩,⟨by decide,by decide⟩,⟨by decide,by decide⟩⟩
theorem qt : MayG 2 3 wkN wkG := by
 refine ⟨by decide,by decide,by decide,by decide,rfl,by decide,fun i P lo hi e => ?_,by decide,fun g hg => ?_⟩
 ·match i with
  | 0 =>
   simp [wkN] at e
   obtain ⟨rfl,rfl,rfl⟩ := e
   exact ⟨by decide,by decide,by decide,.inl ⟨by decide,by decide⟩,.inl ⟨by decide,by decide⟩⟩
  | 1 =>
   simp [wkN] at e
   obtain ⟨rfl,rfl,rfl⟩ := e
   exact ⟨by decide,by decide,by decide,.inl ⟨by decide,by decide⟩,.inl ⟨by decide,by decide⟩⟩
  | 2 =>
   simp [wkN] at e
   obtain ⟨rfl,rfl,rfl⟩ := e
   exact ⟨by decide,by decide,by decide,.inr ⟨0,rfl,by decide,_,rfl,by decide⟩,.inr ⟨1,rfl,by decide,_,rfl,by decide⟩⟩
  | i + 3 => simp [wkN] at e
 ·simp [wkG] at hg
  rcases hg with rfl | rfl | rfl
  ·exact .inr ⟨2,rfl,by decide,_,rfl,by decide⟩
  ·exact .inl ⟨by decide,by decide⟩
  ·exact .inl ⟨by decide,by decide⟩
theorem q4y {s : Nat} (hs : s = 1 ∨ s = 2) (u : List Nat) (hu : ∀ l ∈ u,l < 4) : runP wkR s u = s := by
 induction u with
 | nil => rfl
 | cons a u ih =>
  rw [qq]
  have ha := hu a (by simp)
  rw [show trP wkR s a = s by rcases hs with rfl | rfl <;> (rcases (show a = 0 ∨ a = 1 ∨ a = 2 ∨ a = 3 by omega) with rfl | rfl | rfl | rfl <;> rfl)]
  exact ih fun l hl => hu l (by simp [hl])
theorem wk_R : wkA.R = wkR := q2S
theorem wk_t0 : TolW 4 wkR wkB 0 0 := .inr (.inr ⟨⟨[2],fun l hl => by simp at hl; omega,rfl⟩,⟨[],fun l hl => by simp at hl,rfl⟩,rfl⟩)
theorem wk_t1 : TolW 4 wkR wkB 1 2 := .inr (.inl ⟨rfl,fun u hu => by rw [q4y (.inl rfl) u hu]; rfl⟩)
theorem wk_t2 : TolW 4 wkR wkB 2 3 := .inl ⟨rfl,fun u hu => by rw [q4y (.inr rfl) u hu]; rfl⟩
theorem q17 {s v k : Nat} (h : TolW wkA.K wkA.R wkA.bs s v) (hs : (s,k) = (0,0) ∨ (s,k) = (1,2) ∨ (s,k) = (2,3)) : v = k := by
 rw [wk_R] at h
 have h : TolW 4 wkR wkB s v := h
 rcases hs with hs | hs | hs <;> (injection hs with h1 h2; subst h1; subst h2)
 ·exact h.uni wk_t0
 ·exact h.uni wk_t1
 ·exact h.uni wk_t2
theorem q5R {d E : Int} (h : (∃ n : Nat,d = (n : Int) ∧ n ≤ 256 ∧ E = 0 ∧ OffW wkA.K wkA.R wkA.bs (wkA.at []) n) ∨ (d = 0 ∧ E = 6 ∧ NoW wkA.K wkA.R wkA.bs (wkA.at []))) : d = 1 ∧ E = 0 := by
 rw [wk_R] at h
 have h0 : OffW 4 wkR wkB 0 1 := ⟨⟨[2],fun l hl => by simp at hl; omega,rfl,rfl⟩,fun u hu ha => by
  cases u with
  | nil => cases ha
  | cons a u => simp⟩
 rcases h with ⟨n,rfl,_,rfl,h4⟩ | ⟨_,_,h3⟩
 ·have : n = 1 := OffW.uni (K := 4) (R := wkR) (bs := wkB) (s := 0) h4 h0
  subst this; exact ⟨rfl,rfl⟩
 ·exact (h0.no h3).elim
theorem q5S {d E : Int} (h : (∃ n : Nat,d = (n : Int) ∧ n ≤ 256 ∧ E = 0 ∧ OffW wkA.K wkA.R wkA.bs (wkA.at [1,0]) n) ∨ (d = 0 ∧ E = 6 ∧ NoW wkA.K wkA.R wkA.bs (wkA.at [1,0]))) : d = 0 ∧ E = 6 := by
 rw [wk_R] at h
 have hat : wkA.at [1,0] = 1 := by decide +kernel
 rw [hat] at h
 rcases h with ⟨n,rfl,_,rfl,h4⟩ | ⟨h1,h2,_⟩
 ·have hN : NoW 4 wkR wkB 1 := wk_t1.no.1 rfl
  exact (OffW.no h4 hN).elim
 ·exact ⟨h1,h2⟩
theorem q5T {us : List Nat} {E : Int} (h : TolA 2 3 wkB wkN wkG us E) : us = [0,2,3] ∧ E = 0 := by
 refine h.uni (.inr ⟨qt,⟨rfl,fun q hq => ?_⟩,rfl⟩)
 rw [show rwA 2 wkN wkG = wkR from q2S]
 match q,hq with
 | 0,_ => exact wk_t0
 | 1,_ => exact wk_t1
 | 2,_ => exact wk_t2
theorem q66 {vs : List Nat} {E : Int} (h : AllU 2 3 wkB wkN wkG [1,2] vs E) : vs = [0,0,3] ∧ E = 0 := by
 refine h.uni (.inr (.inr ⟨qt,by decide,⟨rfl,fun i hi => ?_⟩,rfl⟩))
 rw [show rwA 2 wkN wkG = wkR from q2S]
 have hi3 : i ≤ 2 := hi
 match i,hi3 with
 | 0,_ => exact wk_t0
 | 1,_ => exact wk_t0
 | 2,_ => exact wk_t2
structure WatD (Obj : World → Nat → (Nat → Prop) → AuP → List Nat → Prop) : Prop where
 feedArg : ∀ (A : AuP) (g : Nat) (F : Nat → Prop) (ts : List Nat) (l : Nat) (w : World),MayG A.p A.nA A.N A.gs → Obj w g F A ts → ¬ l < A.K → l < 256 →
  Calls Try.prog 24 #[.pointer (some ⟨g,0,none⟩),.int .u8 (l : Int)] w fun e w' => e = .returned (.tuple #[.int .u8 0,.int .i64 2]) ∧ Below w.heap.size w w'
 backNone : ∀ (A : AuP) (g : Nat) (F : Nat → Prop) (w : World),MayG A.p A.nA A.N A.gs → Obj w g F A [] →
  Calls Try.prog 25 #[.pointer (some ⟨g,0,none⟩)] w fun e w' => e = .returned (.tuple #[.int .u8 0,.int .i64 6]) ∧ Below w.heap.size w w'
theorem q2J {Obj : World → Nat → (Nat → Prop) → AuP → List Nat → Prop} (C : Hid (WatC Obj)) (D : Hid (WatD Obj)) (HALL : Hid AllCW) (HTOLD : Hid ToldCW) (w : World) : Calls Try.prog 8 #[] w fun e w' => e = .returned (.bool true) ∧ Below w.heap.size w w' := by
 obtain ⟨x0,hx0⟩ : ∃ x0,x0 = w := ⟨_,rfl⟩
 have HRx0 : Hid (Below w.heap.size w x0) := by rw [hx0]; exact Below.refl _ _
 rw [show w = x0 from hx0.symm]
 rw [show (fun (e : Ending) (w' : World) => e = .returned (.bool true) ∧ Below x0.heap.size x0 w') = (fun (e : Ending) (w' : World) => e = .returned (.bool true) ∧ Below w.heap.size w w') by rw [hx0]]
 clear hx0
 go_enter Try.func8,Try.ntmps8
 obtain ⟨hx,hb0⟩ := q1Q x0 wkB wkG wkN (by decide) (by decide) (by decide) q2p
 obtain ⟨x1,hw⟩ : ∃ y,y = ((x0.alloc (.cells #[.bool false,.bool false,.bool true] 4)).alloc (.cells #[.int .i64 2,.int .i64 (-2),.int .i64 (-3)] 3)).alloc (.cells #[.int .i64 1,.int .i64 (-2),.int .i64 (-3),.int .i64 1,.int .i64 (-1),.int .i64 (-3),.int .i64 0,.int .i64 0,.int .i64 1] 77) := ⟨_,rfl⟩
 have hl : BoSl x1 (some ⟨x0.heap.size,0,none⟩) 3 3 wkB ∧ ZSl x1 (some ⟨x0.heap.size + 1,0,none⟩) 3 3 wkG ∧ NdSl x1 (some ⟨x0.heap.size + 1 + 1,0,none⟩) 3 3 wkN := by rw [hw]; exact hx
 have hb : Below x0.heap.size x0 x1 := by rw [hw]; exact hb0
 have HW : Hid _ := hw
 clear hx hb0 hw
 have HRx1 : Hid (Below w.heap.size w x1) := q5 HRx0.out hb
 have j := C.out.new wkA (some ⟨x0.heap.size,0,none⟩) 3 (some ⟨x0.heap.size + 1,0,none⟩) 3 3 (some ⟨x0.heap.size + 1 + 1,0,none⟩) 3 3 x1 hl.1 hl.2.2 hl.2.1 q2o
 clear hl hb
 go_wp2_with (rw [← HW.out])
 clear HW
 refine j.mono ?_
 rintro e x2 ⟨hb,⟨hno,_⟩ | ⟨_,ga,Fa,rfl,hO,hF⟩⟩
 ·exact absurd qt hno
 have HAx2 : Hid (Obj x2 ga Fa wkA []) := hO
 have HFA : Hid (∀ k,Fa k → w.heap.size ≤ k) := fun k hk => Nat.le_trans HRx1.out.size (hF k hk)
 have HRx2 : Hid (Below w.heap.size w x2) := q5 HRx1.out hb
 clear j hO hF hb
 have j := C.out.off wkA ga Fa [] x2 qt HAx2.out (by decide)
 go_wp2_with fail
 refine j.mono ?_
 rintro e x3 ⟨d1,E1,rfl,HD,hb⟩
 obtain ⟨rfl,rfl⟩ := q5R HD.out
 clear HD
 have HRx3 : Hid (Below w.heap.size w x3) := q5 HRx2.out hb
 have HAx3 : Hid (Obj x3 ga Fa wkA []) := C.out.up HAx2.out hb
 clear j hb
 have j := C.out.verdict wkA ga Fa [] x3 qt HAx3.out (by decide)
 go_wp2_with fail
 refine j.mono ?_
 rintro e x4 ⟨v,rfl,HT,hb⟩
 have hv : v = 0 := q17 HT.out (by decide +kernel)
 subst hv
 clear HT
 have HRx4 : Hid (Below w.heap.size w x4) := q5 HRx3.out hb
 have HAx4 : Hid (Obj x4 ga Fa wkA []) := C.out.up HAx3.out hb
 clear j hb
 have j := C.out.feed wkA ga Fa [] 1 x4 qt HAx4.out (by decide) (by decide) (by decide)
 go_wp2_with fail
 refine j.mono ?_
 rintro e x5 ⟨v,F1,rfl,HT,hO,hFr⟩
 have hv : v = 0 := q17 HT.out (by decide +kernel)
 subst hv
 have HAx5 : Hid (Obj x5 ga F1 wkA [1]) := hO.out
 have HRx5 : Hid (Below w.heap.size w x5) := HRx4.out.trans (hFr.out.below HFA.out HRx4.out.size)
 have HF : Hid (∀ k,F1 k → w.heap.size ≤ k) := hFr.out.ge HFA.out HRx4.out.size
 clear HFA
 have HFA : Hid (∀ k,F1 k → w.heap.size ≤ k) := HF.out
 clear j HT hO hFr HF
 have j := C.out.feed wkA ga F1 [1] 2 x5 qt HAx5.out (by decide) (by decide) (by decide)
 go_wp2_with fail
 refine j.mono ?_
 rintro e x6 ⟨v,F2,rfl,HT,hO,hFr⟩
 have hv : v = 3 := q17 HT.out (by decide +kernel)
 subst hv
 have HAx6 : Hid (Obj x6 ga F2 wkA [1,2]) := hO.out
 have HRx6 : Hid (Below w.heap.size w x6) := HRx5.out.trans (hFr.out.below HFA.out HRx5.out.size)
 have HF : Hid (∀ k,F2 k → w.heap.size ≤ k) := hFr.out.ge HFA.out HRx5.out.size
 clear HFA
 have HFA : Hid (∀ k,F2 k → w.heap.size ≤ k) := HF.out
 clear j HT hO hFr HF
 have j := C.out.feed wkA ga F2 [1,2] 0 x6 qt HAx6.out (by decide) (by decide) (by decide)
 go_wp2_with fail
 refine j.mono ?_
 rintro e x7 ⟨v,F3,rfl,HT,hO,hFr⟩
 have hv : v = 3 := q17 HT.out (by decide +kernel)
 subst hv
 have HAx7 : Hid (Obj x7 ga F3 wkA [1,2,0]) := hO.out
 have HRx7 : Hid (Below w.heap.size w x7) := HRx6.out.trans (hFr.out.below HFA.out HRx6.out.size)
 have HF : Hid (∀ k,F3 k → w.heap.size ≤ k) := hFr.out.ge HFA.out HRx6.out.size
 clear HFA
 have HFA : Hid (∀ k,F3 k → w.heap.size ≤ k) := HF.out
 clear j HT hO hFr HF
 have j := C.out.back wkA ga F3 [1,2] 0 x7 qt HAx7.out (by decide)
 go_wp2_with fail
 refine j.mono ?_
 rintro e x8 ⟨v,F4,rfl,HT,hO,hFr⟩
 have hv : v = 3 := q17 HT.out (by decide +kernel)
 subst hv
 have HAx8 : Hid (Obj x8 ga F4 wkA [1,2]) := hO.out
 have HRx8 : Hid (Below w.heap.size w x8) := HRx7.out.trans (hFr.out.below HFA.out HRx7.out.size)
 have HF : Hid (∀ k,F4 k → w.heap.size ≤ k) := hFr.out.ge HFA.out HRx7.out.size
 clear HFA
 have HFA : Hid (∀ k,F4 k → w.heap.size ≤ k) := HF.out
 clear j HT hO hFr HF
 have j := C.out.back wkA ga F4 [1] 2 x8 qt HAx8.out (by decide)
 go_wp2_with fail
 refine j.mono ?_
 rintro e x9 ⟨v,F5,rfl,HT,hO,hFr⟩
 have hv : v = 0 := q17 HT.out (by decide +kernel)
 subst hv
 have HAx9 : Hid (Obj x9 ga F5 wkA [1]) := hO.out
 have HRx9 : Hid (Below w.heap.size w x9) := HRx8.out.trans (hFr.out.below HFA.out HRx8.out.size)
 have HF : Hid (∀ k,F5 k → w.heap.size ≤ k) := hFr.out.ge HFA.out HRx8.out.size
 clear HFA
 have HFA : Hid (∀ k,F5 k → w.heap.size ≤ k) := HF.out
 clear j HT hO hFr HF
 have j := C.out.feed wkA ga F5 [1] 0 x9 qt HAx9.out (by decide) (by decide) (by decide)
 go_wp2_with fail
 refine j.mono ?_
 rintro e x10 ⟨v,F6,rfl,HT,hO,hFr⟩
 have hv : v = 2 := q17 HT.out (by decide +kernel)
 subst hv
 have HAx10 : Hid (Obj x10 ga F6 wkA [1,0]) := hO.out
 have HRx10 : Hid (Below w.heap.size w x10) := HRx9.out.trans (hFr.out.below HFA.out HRx9.out.size)
 have HF : Hid (∀ k,F6 k → w.heap.size ≤ k) := hFr.out.ge HFA.out HRx9.out.size
 clear HFA
 have HFA : Hid (∀ k,F6 k → w.heap.size ≤ k) := HF.out
 clear j HT hO hFr HF
 have j := C.out.off wkA ga F6 [1,0] x10 qt HAx10.out (by decide)
 go_wp2_with fail
 refine j.mono ?_
 rintro e x11 ⟨d1,E1,rfl,HD,hb⟩
 obtain ⟨rfl,rfl⟩ := q5S HD.out
 clear HD
 have HRx11 : Hid (Below w.heap.size w x11) := q5 HRx10.out hb
 have HAx11 : Hid (Obj x11 ga F6 wkA [1,0]) := C.out.up HAx10.out hb
 clear j hb
 have j := D.out.feedArg wkA ga F6 [1,0] 4 x11 qt HAx11.out (by decide) (by decide)
 go_wp2_with fail
 refine j.mono ?_
 rintro e x12 ⟨rfl,hb⟩
 have HRx12 : Hid (Below w.heap.size w x12) := q5 HRx11.out hb
 clear j hb
 obtain ⟨hx,hb0⟩ := q1Q x12 wkB wkG wkN (by decide) (by decide) (by decide) q2p
 obtain ⟨x13,hw⟩ : ∃ y,y = ((x12.alloc (.cells #[.bool false,.bool false,.bool true] 4)).alloc (.cells #[.int .i64 2,.int .i64 (-2),.int .i64 (-3)] 3)).alloc (.cells #[.int .i64 1,.int .i64 (-2),.int .i64 (-3),.int .i64 1,.int .i64 (-1),.int .i64 (-3),.int .i64 0,.int .i64 0,.int .i64 1] 77) := ⟨_,rfl⟩
 have hl : BoSl x13 (some ⟨x12.heap.size,0,none⟩) 3 3 wkB ∧ ZSl x13 (some ⟨x12.heap.size + 1,0,none⟩) 3 3 wkG ∧ NdSl x13 (some ⟨x12.heap.size + 1 + 1,0,none⟩) 3 3 wkN := by rw [hw]; exact hx
 have hb : Below x12.heap.size x12 x13 := by rw [hw]; exact hb0
 have HW : Hid _ := hw
 clear hx hb0 hw
 have HRx13 : Hid (Below w.heap.size w x13) := q5 HRx12.out hb
 have j := C.out.new wkA (some ⟨x12.heap.size,0,none⟩) 3 (some ⟨x12.heap.size + 1,0,none⟩) 3 3 (some ⟨x12.heap.size + 1 + 1,0,none⟩) 3 3 x13 hl.1 hl.2.2 hl.2.1 q2o
 clear hl hb
 go_wp2_with (rw [← HW.out])
 clear HW
 refine j.mono ?_
 rintro e x14 ⟨hb,⟨hno,_⟩ | ⟨_,gb,Fb,rfl,hO,hF⟩⟩
 ·exact absurd qt hno
 have HBx14 : Hid (Obj x14 gb Fb wkA []) := hO
 have HFB : Hid (∀ k,Fb k → w.heap.size ≤ k) := fun k hk => Nat.le_trans HRx13.out.size (hF k hk)
 have HRx14 : Hid (Below w.heap.size w x14) := q5 HRx13.out hb
 clear j hO hF hb
 have j := D.out.backNone wkA gb Fb x14 qt HBx14.out
 go_wp2_with fail
 refine j.mono ?_
 rintro e x15 ⟨rfl,hb⟩
 have HRx15 : Hid (Below w.heap.size w x15) := q5 HRx14.out hb
 clear j hb
 obtain ⟨hx,hb0⟩ := q1Q x15 wkB wkG wkN (by decide) (by decide) (by decide) q2p
 obtain ⟨x16,hw⟩ : ∃ y,y = ((x15.alloc (.cells #[.bool false,.bool false,.bool true] 4)).alloc (.cells #[.int .i64 2,.int .i64 (-2),.int .i64 (-3)] 3)).alloc (.cells #[.int .i64 1,.int .i64 (-2),.int .i64 (-3),.int .i64 1,.int .i64 (-1),.int .i64 (-3),.int .i64 0,.int .i64 0,.int .i64 1] 77) := ⟨_,rfl⟩
 have hl : BoSl x16 (some ⟨x15.heap.size,0,none⟩) 3 3 wkB ∧ ZSl x16 (some ⟨x15.heap.size + 1,0,none⟩) 3 3 wkG ∧ NdSl x16 (some ⟨x15.heap.size + 1 + 1,0,none⟩) 3 3 wkN := by rw [hw]; exact hx
 have hb : Below x15.heap.size x15 x16 := by rw [hw]; exact hb0
 have HW : Hid _ := hw
 clear hx hb0 hw
 have HRx16 : Hid (Below w.heap.size w x16) := q5 HRx15.out hb
 have j := HTOLD.out 2 (some ⟨x15.heap.size,0,none⟩) 3 3 (some ⟨x15.heap.size + 1,0,none⟩) 3 3 (some ⟨x15.heap.size + 1 + 1,0,none⟩) 3 3 wkB wkN wkG x16 hl.1 hl.2.2 hl.2.1 q2o (by decide) (by decide)
 clear hl hb
 go_wp2_with (rw [← HW.out])
 clear HW
 refine j.mono ?_
 intro e x17 h
 obtain ⟨us,E,pa,pc,rfl,HU,HP,HBP⟩ := h.one
 obtain ⟨rfl,rfl⟩ := q5T HU.out
 have HPc : Hid (VdC x17 pa 3 pc [0,2,3]) := qv HP.out
 have HRx17 : Hid (Below w.heap.size w x17) := q5 HRx16.out HBP.out
 clear j h HU HP HBP
 obtain ⟨hx,hb0⟩ := q1Q x17 wkB wkG wkN (by decide) (by decide) (by decide) q2p
 obtain ⟨x18,hw⟩ : ∃ y,y = ((x17.alloc (.cells #[.bool false,.bool false,.bool true] 4)).alloc (.cells #[.int .i64 2,.int .i64 (-2),.int .i64 (-3)] 3)).alloc (.cells #[.int .i64 1,.int .i64 (-2),.int .i64 (-3),.int .i64 1,.int .i64 (-1),.int .i64 (-3),.int .i64 0,.int .i64 0,.int .i64 1] 77) := ⟨_,rfl⟩
 have hl : BoSl x18 (some ⟨x17.heap.size,0,none⟩) 3 3 wkB ∧ ZSl x18 (some ⟨x17.heap.size + 1,0,none⟩) 3 3 wkG ∧ NdSl x18 (some ⟨x17.heap.size + 1 + 1,0,none⟩) 3 3 wkN := by rw [hw]; exact hx
 have hb : Below x17.heap.size x17 x18 := by rw [hw]; exact hb0
 have HW : Hid _ := hw
 clear hx hb0 hw
 have HRx18 : Hid (Below w.heap.size w x18) := q5 HRx17.out hb
 have HP1 : Hid (VdC x18 pa 3 pc [0,2,3]) := HPc.out.up hb
 clear HPc
 obtain ⟨x19,hw2⟩ : ∃ y,y = x18.alloc (.cells #[.int .u8 1,.int .u8 2] 46) := ⟨_,rfl⟩
 have hb2 : Below x18.heap.size x18 x19 := by rw [hw2]; exact q6 _ _
 have hL : LtC x19 (some ⟨x18.heap.size,0,none⟩) 2 2 [1,2] := by rw [hw2]; exact q56 x18 [1,2] (by decide)
 have HP2 : Hid (VdC x19 pa 3 pc [0,2,3]) := HP1.out.up hb2
 have HW2 : Hid _ := hw2
 have HRx19 : Hid (Below w.heap.size w x19) := q5 HRx18.out hb2
 have j := HALL.out 2 (some ⟨x17.heap.size,0,none⟩) 3 3 (some ⟨x17.heap.size + 1,0,none⟩) 3 3 (some ⟨x17.heap.size + 1 + 1,0,none⟩) 3 3 wkB wkN wkG (some ⟨x18.heap.size,0,none⟩) 2 2 [1,2] x19 (hl.1.up hb2) (hl.2.2.up hb2) (hl.2.1.up hb2) q2o (by decide) (by decide) hL (by decide)
 clear hl hb hb2 hL hw2 HP1
 go_wp2_with (first | rw [← HW.out] | rw [← HW2.out])
 clear HW HW2
 refine j.mono ?_
 intro e x20 h
 obtain ⟨vs,E,qa,qc,rfl,HU,HQ,HBQ⟩ := h.one
 obtain ⟨rfl,rfl⟩ := q66 HU.out
 have HQc : Hid (VdC x20 qa 3 qc [0,0,3]) := qv HQ.out
 have HP3 : Hid (VdC x20 pa 3 pc [0,2,3]) := HP2.out.up HBQ.out
 have HRx20 : Hid (Below w.heap.size w x20) := q5 HRx19.out HBQ.out
 clear j h HU HQ HBQ HP2
 have hba := q6 x20 (.cells #[.int .u8 0,.int .u8 2,.int .u8 3] 59)
 have k1 := qm (HP3.out.up hba) (q47 x20 [0,2,3] (by decide))
 have HQ4 : Hid (VdC (x20.alloc (.cells #[.int .u8 0,.int .u8 2,.int .u8 3] 59)) qa 3 qc [0,0,3]) := HQc.out.up hba
 have HRa : Hid (Below w.heap.size w (x20.alloc (.cells #[.int .u8 0,.int .u8 2,.int .u8 3] 59))) := q5 HRx20.out hba
 simp only [List.length_cons,List.length_nil,Nat.zero_add] at k1
 clear hba HP3 HQc
 go_wp2_with fail
 refine k1.mono ?_
 rintro e y1 ⟨rfl,hb⟩
 have HQ5 : Hid (VdC y1 qa 3 qc [0,0,3]) := HQ4.out.up hb
 have HRb : Hid (Below w.heap.size w y1) := q5 HRa.out hb
 clear k1 hb HQ4 HRa
 have hba := q6 y1 (.cells #[.int .u8 0,.int .u8 0,.int .u8 3] 59)
 have k2 := qm (HQ5.out.up hba) (q47 y1 [0,0,3] (by decide))
 have HRc : Hid (Below w.heap.size w (y1.alloc (.cells #[.int .u8 0,.int .u8 0,.int .u8 3] 59))) := q5 HRb.out hba
 simp only [List.length_cons,List.length_nil,Nat.zero_add] at k2
 clear hba HQ5
 go_wp2_with fail
 refine k2.mono ?_
 rintro e y2 ⟨rfl,hb⟩
 have HRd : Hid (Below w.heap.size w y2) := q5 HRc.out hb
 clear k2 hb
 go_wp2
 go_ret
 exact ⟨rfl,HRd.out⟩
def OffA (A : AuP) (ts : List Nat) (d E : Int) : Prop := (∃ n : Nat,d = (n : Int) ∧ n ≤ 256 ∧ E = 0 ∧ OffW A.K A.R A.bs (A.at ts) n) ∨ (d = 0 ∧ E = 6 ∧ NoW A.K A.R A.bs (A.at ts))
theorem q2q {w : World} {ops : Array Oper} {rest : List Oper} {o : Oper} {a : Act} {Q : Exit → Act → World → Prop} (hgd : o.guard = none) (s x : Operand)
  (ho : o.op = .call { callee := .builtin .append,args := #[s,x],argTypes := #[41,41] }) (base : Nat)
  (v : Value) (n : Nat) (l : List Nat) (hs : a.eval s = v) (hown : w.ownsRow base 46 1 v n (ltV l)) (g' z : Nat) (hx : a.eval x = .slice (some ⟨g',0,none⟩) 1 1) (hc : w.cell? ⟨g',0,none⟩ = some (.int .u8 (z : Int)))
  (hn : n + 1 ≤ 2000000) (hbase : base ≤ w.heap.size)
  (h : ∀ g c w',w'.ownsRow base 46 1 (.slice (some ⟨g,0,none⟩) (n + 1) c) (n + 1) (ltV (l ++ [z])) → w.grownBy w' v.ownBlock → (v.ownBlock = some g ∨ g = w.heap.size) → wpList Try.prog ops Q rest (a.put o.dst (.slice (some ⟨g,0,none⟩) (n + 1) c)) w') : wpList Try.prog ops Q (o :: rest) a w := by
 obtain ⟨i,hi,hz0,hz1,hz2⟩ := info_parts q3B
 refine wpList_append_lies w hgd s x 41 ho base 46 i _ 1 1 Try.underlying41 hi hz0 hz1 hz2 rfl (by decide) v n _ hs hown ⟨g',0,none⟩ 1 1 [.int .u8 (z : Int)] hx rfl ?_ (fun u hu => by simp at hu; subst hu; rfl) (by decide) (by unfold maxLen; omega) (by omega) hbase _ rfl ?_
 ·intro j u hj
  match j with
  | 0 => simp at hj; rw [← hj,q8]; exact hc
  | j + 1 => simp at hj
 ·intro g c w' h1 h2 h3 _
  exact h g c w' (by rw [ltV,List.map_append]; exact h1) h2 h3
theorem q3s {Obj : World → Nat → (Nat → Prop) → AuP → List Nat → Prop} (C : Hid (WatC Obj)) (HALL : Hid AllCW) (p : Int) (aA : Option Addr) (nA cA : Nat) (aG : Option Addr) (nG cG : Nat) (aN : Option Addr) (nN cN : Nat) (bs : List Bool) (gs : List Int) (N : List Gd) (d : Option Addr) (m c : Nat) (zs : List Int) (w : World) (hB : BoSl w aA nA cA bs) (hG : ZSl w aG nG cG gs) (hN : NdSl w aN nN cN N) (hok : ∀ z ∈ gs,I64 z) (hL : IntSl Try.prog 41 .u8 w d m c zs) (hz : ∀ z ∈ zs,0 ≤ z ∧ z < 256) :
  Calls Try.prog 6 #[.agg #[.int .i64 p,.slice aA nA cA,.slice aG nG cG,.slice aN nN cN],.slice d m c] w fun e w' => e = .returned (.bool true) ∧ Below w.heap.size w w' := by
 obtain ⟨Q,hQ⟩ : ∃ Q : Ending → World → Prop,Q = fun e w' => e = .returned (.bool true) ∧ Below w.heap.size w w' := ⟨_,rfl⟩
 have HQ : Hid (∀ w',Below w.heap.size w w' → Q (.returned (.bool true)) w') := fun w' h => by rw [hQ]; exact ⟨rfl,h⟩
 rw [← hQ]
 clear hQ
 obtain ⟨A,hA⟩ : ∃ A : AuP,A = ⟨p,nA,bs,N,gs⟩ := ⟨_,rfl⟩
 have HAE : Hid _ := hA
 obtain ⟨w1,hw1⟩ : ∃ w1,w1 = w.alloc (.cells #[.int .i64 p,.slice aA nA cA,.slice aG nG cG,.slice aN nN cN] 26 (0,0)) := ⟨_,rfl⟩
 have HV1 : Hid (AuB w1 w.heap.size p aA nA cA aG nG cG aN nN cN) := by show AuB _ _ _ _ _ _ _ _ _ _ _ _; rw [hw1]; exact qb _ _ _ _ _ _ _ _ _ _ _
 have hb1 : Below w.heap.size w w1 := by rw [hw1]; exact q6 _ _
 have jw := q1j HALL w1
 have HB1 : Hid _ := hb1
 have HW1 : Hid _ := hw1
 have HBo : Hid _ := hB
 have HN : Hid _ := hN
 have HG : Hid _ := hG
 have HOK : Hid (∀ z ∈ gs,I64 z) := hok
 have HL : Hid _ := hL
 have HZ : Hid _ := hz
 have hmc := Nat.le_trans hL.hcap hL.bd
 unfold maxLen at hmc
 clear hw1 hb1 hN hG hB hL hz hok hA
 go_enter Try.func6,Try.ntmps6
 go_wp2_with (rw [← HW1.out])
 clear HW1
 refine jw.mono ?_
 rintro e w2 ⟨rfl,hb⟩
 have HB2 : Hid (Below w.heap.size w w2) := q5 HB1.out hb
 have HV2 : Hid (AuB w2 w.heap.size p aA nA cA aG nG cG aN nN cN) := HV1.out.up hb
 clear jw hb HB1 HV1
 have jn : Calls Try.prog 11 #[.agg #[.int .i64 p,.slice aA nA cA,.slice aG nG cG,.slice aN nN cN]] w2 fun e w' => Below w2.heap.size w2 w' ∧ ((¬ MayG p nA N gs ∧ e = .returned (.tuple #[.pointer none,.int .i64 12])) ∨ (MayG p nA N gs ∧ ∃ (g : Nat) (F : Nat → Prop),e = .returned (.tuple #[.pointer (some ⟨g,0,none⟩),.int .i64 0]) ∧ Obj w' g F A [] ∧ ∀ k,F k → w2.heap.size ≤ k)) := by
  rw [HAE.out]
  exact C.out.new ⟨p,nA,bs,N,gs⟩ aA cA aG nG cG aN nN cN w2 (HBo.out.up HB2.out) (HN.out.up HB2.out) (HG.out.up HB2.out) HOK.out
 obtain ⟨c0,c1,c2,c3⟩ := HV2.out
 go_wp2_with fail
 refine jn.mono ?_
 rintro e w3 ⟨hb3,hcase⟩
 have HB3 : Hid (Below w2.heap.size w2 w3) := hb3
 have HV3 : Hid (AuB w3 w.heap.size p aA nA cA aG nG cG aN nN cN) := HV2.out.up hb3
 have js := qQ p aA nA cA aG nG cG aN nN cN w3
 generalize hsb : smBp p nA nG nN = sb at *
 have HSB : Hid _ := hsb
 clear jn c0 c1 c2 c3 hb3 hsb
 obtain ⟨c0,c1,c2,c3⟩ := HV3.out
 rcases hcase with ⟨_,rfl⟩ | ⟨hM,g,F,rfl,hO,hF⟩
 ·go_wp2_with fail
  refine js.mono ?_
  rintro e w4 ⟨rfl,hb⟩
  have HE : Hid _ := HQ.out w4 (q5 HB2.out (q5 HB3.out hb))
  clear js hb c0 c1 c2 c3 HQ HV3 HB3 HV2 HB2
  cases sb <;> (
   go_wp2
   exact HE.out)
 have HM : Hid (MayG p nA N gs) := hM
 have HO3 : Hid (Obj w3 g F A []) := hO
 have HF3 : Hid (∀ k,F k → w2.heap.size ≤ k) := hF
 clear hM hO hF
 go_wp2_with fail
 refine js.mono ?_
 rintro e w4 ⟨rfl,hb⟩
 have HB4 : Hid (Below w2.heap.size w2 w4) := q5 HB3.out hb
 have HO4 : Hid (Obj w4 g F A []) := C.out.up HO3.out hb
 clear js hb c0 c1 c2 c3 HV3 HB3 HO3
 cases sb with
 | false =>
  have HE : Hid _ := HQ.out w4 (q5 HB2.out HB4.out)
  clear HQ
  go_wp2
  exact HE.out
 | true =>
 have hsm : nA ≤ 24 ∧ p ≤ 4 := by have := HSB.out; simp [smBp] at this; omega
 obtain ⟨hnA,hp4⟩ := hsm
 have HMA : Hid (MayG A.p A.nA A.N A.gs) := by show MayG _ _ _ _; rw [HAE.out]; exact HM.out
 have jv := C.out.verdict A g F [] w4 HMA.out HO4.out (fun x hx => by simp at hx)
 go_wp2_with fail
 refine jv.mono ?_
 rintro e w5 ⟨v0,rfl,HT0,hb⟩
 have HB5 : Hid (Below w2.heap.size w2 w5) := q5 HB4.out hb
 have HO5 : Hid (Obj w5 g F A []) := C.out.up HO4.out hb
 have jo := C.out.off A g F [] w5 HMA.out HO5.out (fun x hx => by simp at hx)
 clear jv hb HB4 HO4
 go_wp2_with fail
 refine jo.mono ?_
 rintro e w6 ⟨d0,E0,rfl,HD0,hb⟩
 have HB6 : Hid (Below w2.heap.size w2 w6) := q5 HB5.out hb
 have HO6 : Hid (Obj w6 g F A []) := C.out.up HO5.out hb
 have HD6 : Hid (OffA A [] d0 E0) := HD0.out
 clear jo hb HB5 HO5 HD0
 have hp0 := HM.out.p0
 obtain ⟨P,rfl⟩ := Int.eq_ofNat_of_zero_le hp0
 have hP4 : P ≤ 4 := by omega
 have hmin : min P 64 = P := by omega
 have HKE : Hid (A.K = 2 ^ P) := by show _ = _; rw [HAE.out,AuP.K]; rfl
 go_wp2
 go_loopw [8,9,10,11,12] (fun v8 v9 v10 v11 v12 wr => ∃ (i : Nat) (F : Nat → Prop) (vl : Nat) (od oE : Int),i ≤ m ∧ i ≤ 60 ∧ v12 = .int .i64 (i : Int) ∧ v8 = .int .u8 (vl : Int) ∧ v9 = .int .i64 od ∧ v10 = .int .i64 oE ∧ Hid (wr.ownsRow w2.heap.size 46 1 v11 i (ltV ((cutN (2 ^ P) zs).take i))) ∧ Hid (Obj wr g F A ((cutN (2 ^ P) zs).take i)) ∧ Hid (∀ k,F k → w2.heap.size ≤ k) ∧ Hid (∀ k,v11.ownBlock = some k → ¬ F k) ∧ Hid (TolW A.K A.R A.bs (A.at ((cutN (2 ^ P) zs).take i)) vl) ∧ Hid (OffA A ((cutN (2 ^ P) zs).take i) od oE) ∧ Hid (Below w2.heap.size w2 wr)) (fun _ _ _ _ v12 _ => m - (intOf v12).toNat)
 case atStart => exact ⟨0,F,v0,d0,E0,Nat.zero_le _,Nat.zero_le _,rfl,rfl,rfl,rfl,⟨rfl,Or.inl ⟨rfl,rfl⟩⟩,HO6,HF3,(fun k hk => by cases hk),HT0,HD6,HB6⟩
 case round =>
  obtain ⟨i,F,vl,od,oE,hi,hi2,rfl,rfl,rfl,rfl,HOW,HOB,HFB,HFD,HTV,HOD,HB⟩ := hrel
  clear HO6 HF3 HT0 HD6 HB6
  by_cases hlt : i < m ∧ i < 60
  ·obtain ⟨hlt,hlt2⟩ := hlt
   have hiz : i < zs.length := by have := HL.out.hlen; omega
   have hbw := q5 HB2.out HB.out
   have hS := HL.out.up hbw
   have hidx := fun w' => hS.idx m i w' hlt (Nat.le_refl _)
   have hce := hS.cell i hlt
   have hok := HZ.out (zs.getD i 0) (by rw [List.getD_eq_getElem?_getD,List.getElem?_eq_getElem hiz]; exact List.getElem_mem hiz)
   have HTK : Hid _ := q2V (K := 2 ^ P) hiz
   have hcl : ((cutN (2 ^ P) zs).take i).length = i := by rw [List.length_take,cutN,List.length_map]; omega
   have hlk : ∀ x ∈ (cutN (2 ^ P) zs).take i,x < 2 ^ P := fun x hx => q2j (Nat.two_pow_pos P) zs x (List.mem_of_mem_take hx)
   generalize zs.getD i 0 = zz at *
   obtain ⟨z,rfl⟩ := Int.eq_ofNat_of_zero_le hok.1
   rw [Int.toNat_natCast] at HTK
   have hmk := maskP (z := z) (k := P) (by omega) hP4
   have hmk2 : bits BinOp.and IntKind.u8 (z : Int) (((2 : Int) ^ P - 1) % 256) = ((z % 2 ^ P : Nat) : Int) := by
    rw [← hmk]
    congr 1
    rw [IntKind.wrap_u8,IntKind.wrap_u8]
    generalize (2 : Int) ^ P = y
    omega
   clear hmk
   have hlK : z % 2 ^ P < 2 ^ P := Nat.mod_lt _ (Nat.two_pow_pos P)
   generalize z % 2 ^ P = l at *
   generalize hts : (cutN (2 ^ P) zs).take i = ts at *
   have HCL : Hid (ts.length = i) := hcl
   have HLK : Hid (∀ x ∈ ts ++ [l],x < A.K) := fun x hx => by
    rw [HKE.out]
    rcases List.mem_append.1 hx with h | h
    ·exact hlk x h
    ·simp only [List.mem_singleton] at h; subst h; exact hlK
   obtain ⟨va,vc,rfl⟩ := qk HOW.out
   generalize adOf d i = ad at *
   obtain ⟨ga,oa,sa⟩ := ad
   have c0 := (HV2.out.up HB.out).c0
   have e1 : decide ((i : Int) < (m : Int)) = true := decide_eq_true (by omega)
   have e2 : decide ((i : Int) < 60) = true := decide_eq_true (by omega)
   have HUP : Hid (∀ nq,Below wr.heap.size wr (wr.drewN nq)) := fun nq => qR ⟨_,rfl⟩
   clear hS hbw hcl hlk hts
   go_wp2
   go_quiet (fail)
   have hby := HUP.out nq
   have HBy : Hid (Below w2.heap.size w2 (wr.drewN nq)) := q5 HB.out hby
   have HOy : Hid (Obj (wr.drewN nq) g F A ts) := C.out.up HOB.out hby
   have HWy : Hid ((wr.drewN nq).ownsRow w2.heap.size 46 1 (.slice va i vc) i (ltV ts)) := qg HOW.out hby
   generalize wr.drewN nq = wy at *
   clear HUP hby hidx hce c0 HOB HOW HB
   clear hmk2
   have hO8 : (wy.alloc (.cells #[.int .u8 (l : Int)] 46)).ownsRow w2.heap.size 46 1 (.slice va i vc) i (ltV ts) := World.ownsRow.alloc HWy.out _
   have hc8 : (wy.alloc (.cells #[.int .u8 (l : Int)] 46)).cell? ⟨wy.heap.size,0,none⟩ = some (.int .u8 (l : Int)) := q7 (MapKept.heap_alloc wy (.cells #[.int .u8 (l : Int)] 46)).1 0
   have hb8 : w2.heap.size ≤ (wy.alloc (.cells #[.int .u8 (l : Int)] 46)).heap.size := by have := HBy.out.size; simp; omega
   have hi26 : i + 1 ≤ 2000000 := by omega
   go_wp2_with (at_builtin; refine q2q rfl _ _ rfl w2.heap.size (.slice va i vc) i ts rfl hO8 wy.heap.size l rfl hc8 hi26 hb8 ?_)
   intro g7 c7 w7 ho7 hg7 hl7
   have hB7 : Below w2.heap.size w2 w7 := by
    have h1 := q5 HBy.out (q6 wy (.cells #[.int .u8 (l : Int)] 46))
    exact h1.grown hg7 hb8 (fun q e => qy hO8 q e)
   have HO7 : Hid (Obj w7 g F A ts) := C.out.keep HOy.out fun k hk => q1g hg7 (C.out.lt HOy.out k hk) (fun e => HFD.out k e hk)
   have HFD7 : Hid (∀ k,(Value.slice (some ⟨g7,0,none⟩) (i + 1) c7).ownBlock = some k → ¬ F k) := fun k hk hf => by
    have e : g7 = k := by injection hk
    subst e
    rcases hl7 with hl | hl
    ·exact HFD.out g7 hl hf
    ·have := C.out.lt HOy.out g7 hf
     first | omega | (simp at hl; omega)
   have HW7 : Hid (w7.ownsRow w2.heap.size 46 1 (.slice (some ⟨g7,0,none⟩) (i + 1) c7) (i + 1) (ltV (ts ++ [l]))) := by
    show World.ownsRow _ _ _ _ _ _ _
    have := ho7
    first | exact this | (rw [ltV,List.map_append]; exact this)
   have HB7 : Hid (Below w2.heap.size w2 w7) := hB7
   have jf := C.out.feed A g F ts l w7 HMA.out HO7.out (by rw [HKE.out]; exact hlK) (by rw [HCL.out]; omega) (fun x hx => HLK.out x (by simp [hx]))
   clear ho7 hg7 hl7 hO8 hc8 hb8 HWy HOy HBy hB7 HFD
   go_wp2_with fail
   refine jf.mono ?_
   rintro e w8 ⟨v,F',rfl,HTN,HON,HFR⟩
   have HB8 : Hid (Below w2.heap.size w2 w8) := HB7.out.trans (HFR.out.below HFB.out HB7.out.size)
   have HW8 : Hid (w8.ownsRow w2.heap.size 46 1 (.slice (some ⟨g7,0,none⟩) (i + 1) c7) (i + 1) (ltV (ts ++ [l]))) := HFR.out.own HW7.out HFD7.out
   have HFB8 : Hid (∀ k,F' k → w2.heap.size ≤ k) := HFR.out.ge HFB.out HB7.out.size
   have HFD8 : Hid (∀ k,(Value.slice (some ⟨g7,0,none⟩) (i + 1) c7).ownBlock = some k → ¬ F' k) := fun k hk => HFR.out.out (HFD7.out k hk) (HW7.out.lt k hk).2
   clear jf HB7 HW7 HFR HFB HFD7 HO7
   have HB8w : Hid (Below w.heap.size w w8) := q5 HB2.out HB8.out
   have HL8 : Hid (LtC w8 (some ⟨g7,0,none⟩) (i + 1) c7 (ts ++ [l])) := q5I HW8.out
   have hAT : A.at (ts ++ [l]) = runP (rwA (P : Int) N gs) 0 (ts ++ [l]) := by rw [HAE.out]; rfl
   have hKK : 2 ^ (P : Int).toNat = A.K := by rw [HKE.out,Int.toNat_natCast]
   have hatn : A.at (ts ++ [l]) < nA := by rw [hAT]; exact (HM.out.rows _).run _ 0 (by have := HM.out.s1; omega) (fun x hx => by rw [hKK]; exact HLK.out x hx)
   have jr : Calls Try.prog 31 #[.agg #[.int .i64 (P : Int),.slice aA nA cA,.slice aG nG cG,.slice aN nN cN],.slice (some ⟨g7,0,none⟩) (i + 1) c7] w8 fun e w' => e = .returned (.tuple #[.int .i64 ((A.at (ts ++ [l]) : Nat) : Int),.int .i64 0]) ∧ Below w8.heap.size w8 w' := by
    have h256 : ∀ x ∈ ts ++ [l],x < 256 := fun x hx => Nat.lt_of_lt_of_le (HLK.out x hx) (by rw [← hKK]; exact HM.out.k256)
    refine (q3v (P : Int) aA nA cA aG nG cG aN nN cN N gs (some ⟨g7,0,none⟩) (i + 1) c7 (ts ++ [l]) w8 (HN.out.up HB8w.out) (HG.out.up HB8w.out) HOK.out HL8.out h256).mono ?_
    rintro e w' ⟨hb,x,r,rfl,hr⟩
    obtain ⟨rfl,rfl⟩ := hr.uni (.inr (.inr ⟨HM.out,q5e HM.out (by rw [List.length_append,HCL.out]; simp; omega) (fun x hx => by rw [hKK]; exact HLK.out x hx),rfl,rfl⟩))
    rw [hAT]
    exact ⟨rfl,hb⟩
   obtain ⟨c0,c1,c2,c3⟩ := HV2.out.up HB8.out
   have HATN : Hid _ := hatn
   clear hAT hKK hatn
   go_wp2_with fail
   refine jr.mono ?_
   rintro e w9 ⟨rfl,hb⟩
   have HO9 : Hid (Obj w9 g F' A (ts ++ [l])) := C.out.up HON.out hb
   have HR9 : Hid (Below w8.heap.size w8 w9) := hb
   have jo := C.out.off A g F' (ts ++ [l]) w9 HMA.out HO9.out HLK.out
   clear jr hb c0 c1 c2 c3 HON
   go_wp2_with fail
   refine jo.mono ?_
   rintro e wa ⟨nd,nE,rfl,HND,hb⟩
   have HOa : Hid (Obj wa g F' A (ts ++ [l])) := C.out.up HO9.out hb
   have HRa : Hid (Below w8.heap.size w8 wa) := q5 HR9.out hb
   have HNA : Hid (OffA A (ts ++ [l]) nd nE) := HND.out
   clear jo hb HO9 HR9 HND
   have hatn := HATN.out
   have e3 : decide (((A.at (ts ++ [l]) : Nat) : Int) < 0) = false := decide_eq_false (by omega)
   have e4 : decide ((nA : Int) ≤ ((A.at (ts ++ [l]) : Nat) : Int)) = false := decide_eq_false (by omega)
   have jst := C.out.state A g F' (ts ++ [l]) wa HMA.out HOa.out HLK.out
   have HST : Hid (A.at (ts ++ [l]) = trP A.R (A.at ts) l) := by show _ = _; rw [AuP.at,qE]; rfl
   have HLl : Hid (l < A.K) := HLK.out l (by simp)
   obtain ⟨q,hq⟩ : ∃ q,q = A.at (ts ++ [l]) := ⟨_,rfl⟩
   rw [← hq] at HATN HTN HST e3 e4 jst hatn ⊢
   have HQE : Hid (q = A.at (ts ++ [l])) := hq
   have HOF : Hid ((∃ n : Nat,nd = (n : Int) ∧ n ≤ 256 ∧ nE = 0 ∧ OffW A.K A.R A.bs q n) ∨ (nd = 0 ∧ nE = 6 ∧ NoW A.K A.R A.bs q)) := by
    have := HNA.out; unfold OffA at this; rw [← hq] at this; exact this
   clear hq
   go_upto_region 16 with fail
   go_cut [109] from 41 to 173 (fun vv wx => vv = .bool false ∧ Hid (Below wa.heap.size wa wx))
   case first =>
    obtain ⟨c0,c1,c2,c3⟩ := HV2.out.up (q5 HB8.out HRa.out)
    have e5 : ((q : Int) != (q : Int)) = false := by simp
    have e7 : decide (nA ≤ q) = false := decide_eq_false (by omega)
    have e6 : ((v : Int) != (v : Int)) = false := by simp
    go_wp2_with fail
    refine jst.mono ?_
    rintro e wb ⟨rfl,hb⟩
    have HBb : Hid (Below wa.heap.size wa wb) := hb
    have jv := C.out.verdict A g F' (ts ++ [l]) wb HMA.out (C.out.up HOa.out hb) HLK.out
    clear jst hb c0 c1 c2 c3
    go_wp2_with fail
    refine jv.mono ?_
    rintro e wd ⟨v',rfl,HTv,hb⟩
    have hvv : v' = v := (by have := HTv.out; rw [← HQE.out] at this; exact this.uni HTN.out)
    subst hvv
    have HBd : Hid (Below wa.heap.size wa wd) := q5 HBb.out hb
    clear jv hb HBb HTv
    go_wp2
    go_meet
    exact ⟨rfl,HBd⟩
   case rest =>
   obtain ⟨rfl,HBd⟩ := hcut
   obtain ⟨wd,hwd⟩ : ∃ wd,wd = wc := ⟨_,rfl⟩
   subst hwd
   have HRd : Hid (Below w8.heap.size w8 wd) := q5 HRa.out HBd.out
   have HOd : Hid (Obj wd g F' A (ts ++ [l])) := C.out.up HOa.out HBd.out
   have HVd : Hid (AuB wd w.heap.size (P : Int) aA nA cA aG nG cG aN nN cN) := HV2.out.up (q5 HB8.out HRd.out)
   obtain ⟨ib,cb⟩ : (∀ w' : World,(Instr.indexAt 22 (.slice aA nA cA) (.int .i64 (q : Int))).run Try.prog w' = .ok (.pointer (some (adOf aA q))) w') ∧ wd.cell? (adOf aA q) = some (.bool (bs.getD q false)) := by
    obtain ⟨ib,cb⟩ := ((HBo.out.up HB8w.out).up HRd.out).at q hatn
    rw [← qG] at cb
    exact ⟨fun w' => ib nA w' hatn,cb⟩
   have hbs : A.bs = bs := by rw [HAE.out]
   have hac : bs.getD q false = true ↔ v = 1 ∨ v = 3 := by have := HTN.out.says; rw [hbs] at this; exact this
   have hv4 := HTN.out.lt
   have hst : (vl = 3 → v = 3) ∧ (vl = 2 → v = 2) := by have := HTN.out; rw [HST.out] at this; exact HTV.out.stay this HLl.out
   have hno : v = 2 ↔ NoW A.K A.R A.bs q := HTN.out.no
   have hdd : (∃ n : Nat,nd = (n : Int) ∧ n ≤ 256 ∧ nE = 0 ∧ v ≠ 2 ∧ (n = 0 ↔ bs.getD q false = true) ∧ ∀ k : Nat,OffW A.K A.R A.bs (A.at ts) k → k ≤ n + 1) ∨ (nd = 0 ∧ nE = 6 ∧ v = 2) := by
    rcases HOF.out with ⟨n,h1,h2,h3,h4⟩ | ⟨h1,h2,h3⟩
    ·refine .inl ⟨n,h1,h2,h3,fun e => h4.no (hno.1 e),?_,fun k hk => ?_⟩
     ·have := h4.zero; rw [hbs] at this; exact this
     ·rw [HST.out] at h4; exact hk.step h4 HLl.out
    ·exact .inr ⟨h1,h2,hno.2 h3⟩
   have hol : (∃ k : Nat,od = (k : Int) ∧ k ≤ 256 ∧ oE = 0 ∧ OffW A.K A.R A.bs (A.at ts) k) ∨ (od = 0 ∧ oE = 6) := by
    rcases HOD.out with ⟨n,h1,h2,h3,h4⟩ | ⟨h1,h2,_⟩
    ·exact .inl ⟨n,h1,h2,h3,h4⟩
    ·exact .inr ⟨h1,h2⟩
   have HAC : Hid _ := hac
   have HSTY : Hid _ := hst
   have HDD : Hid _ := hdd
   have HOL : Hid _ := hol
   clear hbs hac hst hno hdd hol e3 e4
   generalize bs.getD q false = bb at *
   generalize adOf aA q = ad at *
   obtain ⟨ag,ao,az⟩ := ad
   obtain ⟨c0,c1,c2,c3⟩ := HVd.out
   go_upto_region 18 with fail
   go_cut [137] from 41 to 173 (fun vv wx => vv = .bool false ∧ Hid (Below wd.heap.size wd wx))
   case first =>
    have hac := HAC.out
    have hst := HSTY.out
    have h4 : v = 0 ∨ v = 1 ∨ v = 2 ∨ v = 3 := by omega
    rcases h4 with hv | hv | hv | hv
    ·have HVK : Hid (v = 0) := hv
     have hbb : bb = false := by
      cases bb with
      | false => rfl
      | true => exact absurd (hac.1 rfl) (by omega)
     subst hbb
     have f3 : ((vl : Int) == 3) = false := by simp; omega
     have f2 : ((vl : Int) == 2) = false := by simp; omega
     clear hv hac hst
     have a1 : ((v : Int) == 1) = false := by have := HVK.out; subst this; rfl
     have a2 : ((v : Int) == 2) = false := by have := HVK.out; subst this; rfl
     have a3 : ((v : Int) == 3) = false := by have := HVK.out; subst this; rfl
     have n2 : ((v : Int) != 2) = true := by have := HVK.out; subst this; rfl
     have n3 : ((v : Int) != 3) = true := by have := HVK.out; subst this; rfl
     go_wp2
     go_meet
     exact ⟨rfl,Below.refl _ _⟩
    ·have HVK : Hid (v = 1) := hv
     have hbb : bb = true := by
      exact hac.2 (by omega)
     subst hbb
     have f3 : ((vl : Int) == 3) = false := by simp; omega
     have f2 : ((vl : Int) == 2) = false := by simp; omega
     clear hv hac hst
     have a1 : ((v : Int) == 1) = true := by have := HVK.out; subst this; rfl
     have a2 : ((v : Int) == 2) = false := by have := HVK.out; subst this; rfl
     have a3 : ((v : Int) == 3) = false := by have := HVK.out; subst this; rfl
     have n2 : ((v : Int) != 2) = true := by have := HVK.out; subst this; rfl
     have n3 : ((v : Int) != 3) = true := by have := HVK.out; subst this; rfl
     go_wp2
     go_meet
     exact ⟨rfl,Below.refl _ _⟩
    ·have HVK : Hid (v = 2) := hv
     have hbb : bb = false := by
      cases bb with
      | false => rfl
      | true => exact absurd (hac.1 rfl) (by omega)
     subst hbb
     have f3 : ((vl : Int) == 3) = false := by simp; omega
     clear hv hac hst
     have a1 : ((v : Int) == 1) = false := by have := HVK.out; subst this; rfl
     have a2 : ((v : Int) == 2) = true := by have := HVK.out; subst this; rfl
     have a3 : ((v : Int) == 3) = false := by have := HVK.out; subst this; rfl
     have n2 : ((v : Int) != 2) = false := by have := HVK.out; subst this; rfl
     have n3 : ((v : Int) != 3) = true := by have := HVK.out; subst this; rfl
     cases f2 : ((vl : Int) == 2)
     all_goals
      go_wp2
      go_meet
      exact ⟨rfl,Below.refl _ _⟩
    ·have HVK : Hid (v = 3) := hv
     have hbb : bb = true := by
      exact hac.2 (by omega)
     subst hbb
     have f2 : ((vl : Int) == 2) = false := by simp; omega
     clear hv hac hst
     have a1 : ((v : Int) == 1) = false := by have := HVK.out; subst this; rfl
     have a2 : ((v : Int) == 2) = false := by have := HVK.out; subst this; rfl
     have a3 : ((v : Int) == 3) = true := by have := HVK.out; subst this; rfl
     have n2 : ((v : Int) != 2) = true := by have := HVK.out; subst this; rfl
     have n3 : ((v : Int) != 3) = false := by have := HVK.out; subst this; rfl
     cases f3 : ((vl : Int) == 3)
     all_goals
      go_wp2
      go_meet
      exact ⟨rfl,Below.refl _ _⟩
   case rest =>
   obtain ⟨rfl,HBe⟩ := hcut
   obtain ⟨we,hwe⟩ : ∃ we,we = wc := ⟨_,rfl⟩
   subst hwe
   have cb2 := qd cb HBe.out
   have HRe : Hid (Below w8.heap.size w8 we) := q5 HRd.out HBe.out
   have HOe : Hid (Obj we g F' A (ts ++ [l])) := C.out.up HOd.out HBe.out
   have HVe : Hid (AuB we w.heap.size (P : Int) aA nA cA aG nG cG aN nN cN) := HVd.out.up HBe.out
   clear cb c0 c1 c2 c3
   obtain ⟨c0,c1,c2,c3⟩ := HVe.out
   go_upto_region 20 with fail
   go_cut [170] from 41 to 173 (fun vv wx => vv = .bool false ∧ Hid (Below we.heap.size we wx))
   case first =>
    rcases HDD.out with ⟨n,rfl,hn,rfl,hv2,hz0,hsp⟩ | ⟨rfl,rfl,hv2⟩
    ·have a2 : ((v : Int) == 2) = false := by simp; omega
     have hnb : ((n : Int) == 0) = bb := by
      cases bb with
      | true => have := hz0.2 rfl; subst this; rfl
      | false => simp; intro e; exact absurd (hz0.1 e) (by decide)
     rcases HOL.out with ⟨k,rfl,hk,rfl,hok⟩ | ⟨rfl,rfl⟩
     ·have hkn := hsp k hok
      have hwk : IntKind.i64.wrap ((k : Int) - 1) = (k : Int) - 1 := by rw [IntKind.wrap_i64]; omega
      have e8 : decide ((n : Int) < (k : Int) - 1) = false := decide_eq_false (by omega)
      clear hv2 hz0 hsp hok hkn
      cases bb
      all_goals
       go_wp2
       go_meet
       exact ⟨rfl,Below.refl _ _⟩
     ·clear hv2 hz0 hsp
      cases bb
      all_goals
       go_wp2
       go_meet
       exact ⟨rfl,Below.refl _ _⟩
    ·have a2 : ((v : Int) == 2) = true := by subst hv2; rfl
     clear hv2
     rcases HOL.out with ⟨k,rfl,hk,rfl,hok⟩ | ⟨rfl,rfl⟩
     all_goals
      go_wp2
      go_meet
      exact ⟨rfl,Below.refl _ _⟩
   case rest =>
   obtain ⟨rfl,HBf⟩ := hcut
   obtain ⟨wf,hwf⟩ : ∃ wf,wf = wc := ⟨_,rfl⟩
   subst hwf
   have h8f := q5 HRe.out HBf.out
   have HOf : Hid (Obj wf g F' A ((cutN (2 ^ P) zs).take (i + 1))) := by
    show Obj _ _ _ _ _
    rw [HTK.out]
    exact C.out.up HOe.out HBf.out
   have HWf : Hid (wf.ownsRow w2.heap.size 46 1 (.slice (some ⟨g7,0,none⟩) (i + 1) c7) (i + 1) (ltV ((cutN (2 ^ P) zs).take (i + 1)))) := by
    show World.ownsRow _ _ _ _ _ _ _
    rw [HTK.out]
    exact qg HW8.out h8f
   have HBf2 : Hid (Below w2.heap.size w2 wf) := q5 HB8.out h8f
   have HTf : Hid (TolW A.K A.R A.bs (A.at ((cutN (2 ^ P) zs).take (i + 1))) v) := by
    show TolW _ _ _ _ _
    rw [HTK.out,← HQE.out]
    exact HTN.out
   have HDf : Hid (OffA A ((cutN (2 ^ P) zs).take (i + 1)) nd nE) := by
    show OffA _ _ _ _
    rw [HTK.out]
    exact HNA.out
   clear h8f c0 c1 c2 c3 cb2 ib
   go_wp2
   go_roundw
   case rel => exact ⟨i + 1,F',v,nd,nE,by omega,by omega,by go_num,rfl,rfl,rfl,HWf,HOf,HFB8,HFD8,HTf,HDf,HBf2⟩
   case measure => simp [intOf] <;> omega
  ·obtain ⟨fa,fc,rfl⟩ := qk HOW.out
   have hzl := HL.out.hlen
   have hcl : ((cutN (2 ^ P) zs).take i).length = i := by rw [List.length_take,cutN,List.length_map]; omega
   have jl := C.out.len A g F _ wr HMA.out HOB.out
   rw [hcl] at jl
   have HE : Hid (∀ w',Below wr.heap.size wr w' → Q (.returned (.bool true)) w') := fun w' h => HQ.out w' (q5 HB2.out (q5 HB.out h))
   have e3 : ((i : Int) == (i : Int)) = true := by simp
   clear HOW HOB HFB HFD HTV HOD HB HQ hcl
   rcases (show ¬ i < m ∨ (i < m ∧ ¬ i < 60) by omega) with hE | ⟨hE,hE2⟩
   all_goals
    clear hlt
    go_wp2_with fail
    refine jl.mono ?_
    rintro e w7 ⟨rfl,hb⟩
    have HE2 : Hid _ := HE.out w7 hb
    clear jl hb HE
    go_wp2
    exact HE2.out
theorem q3m {Obj : World → Nat → (Nat → Prop) → AuP → List Nat → Prop} (C : Hid (WatC Obj)) (HALL : Hid AllCW) (p : Int) (aA : Option Addr) (nA cA : Nat) (aG : Option Addr) (nG cG : Nat) (aN : Option Addr) (nN cN : Nat) (bs : List Bool) (gs : List Int) (N : List Gd) (d : Option Addr) (m c : Nat) (zs : List Int) (w : World) (hB : BoSl w aA nA cA bs) (hG : ZSl w aG nG cG gs) (hN : NdSl w aN nN cN N) (hok : ∀ z ∈ gs,I64 z) (hL : IntSl Try.prog 41 .u8 w d m c zs) (hz : ∀ z ∈ zs,0 ≤ z ∧ z < 256) :
  Calls Try.prog 7 #[.agg #[.int .i64 p,.slice aA nA cA,.slice aG nG cG,.slice aN nN cN],.slice d m c] w fun e w' => e = .returned (.bool true) ∧ Below w.heap.size w w' := by
 obtain ⟨Q,hQ⟩ : ∃ Q : Ending → World → Prop,Q = fun e w' => e = .returned (.bool true) ∧ Below w.heap.size w w' := ⟨_,rfl⟩
 have HQ : Hid (∀ w',Below w.heap.size w w' → Q (.returned (.bool true)) w') := fun w' h => by rw [hQ]; exact ⟨rfl,h⟩
 rw [← hQ]
 clear hQ
 obtain ⟨A,hA⟩ : ∃ A : AuP,A = ⟨p,nA,bs,N,gs⟩ := ⟨_,rfl⟩
 have HAE : Hid _ := hA
 obtain ⟨w1,hw1⟩ : ∃ w1,w1 = w.alloc (.cells #[.int .i64 p,.slice aA nA cA,.slice aG nG cG,.slice aN nN cN] 26 (0,0)) := ⟨_,rfl⟩
 have HV1 : Hid (AuB w1 w.heap.size p aA nA cA aG nG cG aN nN cN) := by show AuB _ _ _ _ _ _ _ _ _ _ _ _; rw [hw1]; exact qb _ _ _ _ _ _ _ _ _ _ _
 have hb1 : Below w.heap.size w w1 := by rw [hw1]; exact q6 _ _
 have jw := q1j HALL w1
 have HB1 : Hid _ := hb1
 have HW1 : Hid _ := hw1
 have HBo : Hid _ := hB
 have HN : Hid _ := hN
 have HG : Hid _ := hG
 have HOK : Hid (∀ z ∈ gs,I64 z) := hok
 have HL : Hid _ := hL
 have HZ : Hid _ := hz
 have hmc := Nat.le_trans hL.hcap hL.bd
 unfold maxLen at hmc
 clear hw1 hb1 hN hG hB hL hz hok hA
 go_enter Try.func7,Try.ntmps7
 go_wp2_with (rw [← HW1.out])
 clear HW1
 refine jw.mono ?_
 rintro e w2 ⟨rfl,hb⟩
 have HB2 : Hid (Below w.heap.size w w2) := q5 HB1.out hb
 have HV2 : Hid (AuB w2 w.heap.size p aA nA cA aG nG cG aN nN cN) := HV1.out.up hb
 clear jw hb HB1 HV1
 have jn : Calls Try.prog 11 #[.agg #[.int .i64 p,.slice aA nA cA,.slice aG nG cG,.slice aN nN cN]] w2 fun e w' => Below w2.heap.size w2 w' ∧ ((¬ MayG p nA N gs ∧ e = .returned (.tuple #[.pointer none,.int .i64 12])) ∨ (MayG p nA N gs ∧ ∃ (g : Nat) (F : Nat → Prop),e = .returned (.tuple #[.pointer (some ⟨g,0,none⟩),.int .i64 0]) ∧ Obj w' g F A [] ∧ ∀ k,F k → w2.heap.size ≤ k)) := by
  rw [HAE.out]
  exact C.out.new ⟨p,nA,bs,N,gs⟩ aA cA aG nG cG aN nN cN w2 (HBo.out.up HB2.out) (HN.out.up HB2.out) (HG.out.up HB2.out) HOK.out
 obtain ⟨c0,c1,c2,c3⟩ := HV2.out
 go_wp2_with fail
 refine jn.mono ?_
 rintro e w3 ⟨hb3,hcase⟩
 have HB3 : Hid (Below w2.heap.size w2 w3) := hb3
 have HV3 : Hid (AuB w3 w.heap.size p aA nA cA aG nG cG aN nN cN) := HV2.out.up hb3
 have js := qQ p aA nA cA aG nG cG aN nN cN w3
 generalize hsb : smBp p nA nG nN = sb at *
 have HSB : Hid _ := hsb
 clear jn c0 c1 c2 c3 hb3 hsb
 obtain ⟨c0,c1,c2,c3⟩ := HV3.out
 rcases hcase with ⟨_,rfl⟩ | ⟨hM,g,F,rfl,hO,hF⟩
 ·go_wp2_with fail
  refine js.mono ?_
  rintro e w4 ⟨rfl,hb⟩
  have HE : Hid _ := HQ.out w4 (q5 HB2.out (q5 HB3.out hb))
  clear js hb c0 c1 c2 c3 HQ HV3 HB3 HV2 HB2
  cases sb <;> (
   go_wp2
   exact HE.out)
 have HM : Hid (MayG p nA N gs) := hM
 have HO3 : Hid (Obj w3 g F A []) := hO
 have HF3 : Hid (∀ k,F k → w2.heap.size ≤ k) := hF
 clear hM hO hF
 go_wp2_with fail
 refine js.mono ?_
 rintro e w4 ⟨rfl,hb⟩
 have HB4 : Hid (Below w2.heap.size w2 w4) := q5 HB3.out hb
 have HO4 : Hid (Obj w4 g F A []) := C.out.up HO3.out hb
 clear js hb c0 c1 c2 c3 HV3 HB3 HO3
 cases sb with
 | false =>
  have HE : Hid _ := HQ.out w4 (q5 HB2.out HB4.out)
  clear HQ
  go_wp2
  exact HE.out
 | true =>
 have hsm : nA ≤ 24 ∧ p ≤ 4 := by have := HSB.out; simp [smBp] at this; omega
 obtain ⟨hnA,hp4⟩ := hsm
 have HMA : Hid (MayG A.p A.nA A.N A.gs) := by show MayG _ _ _ _; rw [HAE.out]; exact HM.out
 have hp0 := HM.out.p0
 obtain ⟨P,rfl⟩ := Int.eq_ofNat_of_zero_le hp0
 have hP4 : P ≤ 4 := by omega
 have hmin : min P 64 = P := by omega
 have HKE : Hid (A.K = 2 ^ P) := by show _ = _; rw [HAE.out,AuP.K]; rfl
 go_upto_block 0 with fail
 go_cut [8] from 36 to 56 (fun _ wx => ∃ (ts : List Nat) (F : Nat → Prop),ts.length ≤ 60 ∧ Hid (∀ x ∈ ts,x < A.K) ∧ Hid (Obj wx g F A ts) ∧ Hid (∀ k,F k → w2.heap.size ≤ k) ∧ Hid (Below w2.heap.size w2 wx))
 case first =>
  go_wp2
  go_loopw [8] (fun j wr => ∃ (i : Nat) (F : Nat → Prop),i ≤ m ∧ i ≤ 60 ∧ j = .int .i64 (i : Int) ∧ Hid (Obj wr g F A ((cutN (2 ^ P) zs).take i)) ∧ Hid (∀ k,F k → w2.heap.size ≤ k) ∧ Hid (Below w2.heap.size w2 wr)) (fun j _ => m - (intOf j).toNat)
  case atStart => exact ⟨0,F,Nat.zero_le _,Nat.zero_le _,rfl,HO4,HF3,HB4⟩
  case round =>
   obtain ⟨i,F,hi,hi2,rfl,HOB,HFB,HB⟩ := hrel
   clear HO4 HF3 HB4
   have hzl := HL.out.hlen
   have hcl : ((cutN (2 ^ P) zs).take i).length = i := by rw [List.length_take,cutN,List.length_map]; omega
   have hlk : ∀ x ∈ (cutN (2 ^ P) zs).take i,x < A.K := fun x hx => by rw [HKE.out]; exact q2j (Nat.two_pow_pos P) zs x (List.mem_of_mem_take hx)
   by_cases hlt : i < m ∧ i < 60
   ·obtain ⟨hlt,hlt2⟩ := hlt
    have hiz : i < zs.length := by omega
    have hbw := q5 HB2.out HB.out
    have hS := HL.out.up hbw
    have hidx := fun w' => hS.idx m i w' hlt (Nat.le_refl _)
    have hce := hS.cell i hlt
    have hok := HZ.out (zs.getD i 0) (by rw [List.getD_eq_getElem?_getD,List.getElem?_eq_getElem hiz]; exact List.getElem_mem hiz)
    have HTK : Hid _ := q2V (K := 2 ^ P) hiz
    generalize zs.getD i 0 = zz at *
    obtain ⟨z,rfl⟩ := Int.eq_ofNat_of_zero_le hok.1
    rw [Int.toNat_natCast] at HTK
    have hmk := maskP (z := z) (k := P) (by omega) hP4
    have hlK : z % 2 ^ P < 2 ^ P := Nat.mod_lt _ (Nat.two_pow_pos P)
    generalize z % 2 ^ P = l at *
    generalize hts : (cutN (2 ^ P) zs).take i = ts at *
    generalize adOf d i = ad at *
    obtain ⟨ga,oa,sa⟩ := ad
    have c0 := (HV2.out.up HB.out).c0
    have e1 : decide ((i : Int) < (m : Int)) = true := decide_eq_true (by omega)
    have e2 : decide ((i : Int) < 60) = true := decide_eq_true (by omega)
    have hbd : Below wr.heap.size wr wr.drew := (Below.refl _ _).drew
    have jf : Calls Try.prog 24 #[.pointer (some ⟨g,0,none⟩),.int .u8 (l : Int)] wr.drew fun e w' => ∃ (v : Nat) (F' : Nat → Prop),e = .returned (.tuple #[.int .u8 (v : Int),.int .i64 0]) ∧ Hid (Obj w' g F' A (ts ++ [l])) ∧ Hid (∀ k,F' k → w2.heap.size ≤ k) ∧ Hid (Below w2.heap.size w2 w') := by
     have hBd := q5 HB.out hbd
     refine (C.out.feed A g F ts l wr.drew HMA.out (C.out.up HOB.out hbd) (by rw [HKE.out]; exact hlK) (by omega) hlk).mono ?_
     rintro e w' ⟨v,F',rfl,_,hO,hFr⟩
     exact ⟨v,F',rfl,hO,hFr.out.ge HFB.out hBd.size,hBd.trans (hFr.out.below HFB.out hBd.size)⟩
    clear hS hbw hcl hlk hbd HOB HFB HB
    go_wp2
    go_region_law (first
     | (rw [hmk]; revert jf; intro jf; (with_reducible refine jf.mono ?_); rintro e w7 ⟨v7,F7,rfl,HO7,HF7,HB7⟩; dsimp only)
     | (revert jf; intro jf; go_simp; (with_reducible refine jf.mono ?_); rintro e w7 ⟨v7,F7,rfl,HO7,HF7,HB7⟩; dsimp only)
     | fail)
    all_goals
     have HO8 : Hid (Obj w7 g F7 A ((cutN (2 ^ P) zs).take (i + 1))) := by
      show Obj _ _ _ _ _
      rw [HTK.out]
      exact HO7.out
     clear jf HO7 hidx hce c0
     go_wp2
     go_roundw
     case rel => exact ⟨i + 1,F7,by omega,by omega,by go_num,HO8,HF7,HB7⟩
     case measure => simp [intOf] <;> omega
   ·rcases (show ¬ i < m ∨ (i < m ∧ ¬ i < 60) by omega) with hE | ⟨hE,hE2⟩
    all_goals
     clear hlt
     go_wp2
     go_meet
     exact ⟨_,F,by rw [hcl]; exact hi2,hlk,HOB,HFB,HB⟩
 case rest =>
 obtain ⟨ts,F,hts,HLK,HO5,HF5,HB5⟩ := hcut
 obtain ⟨w5,hw5⟩ : ∃ w5,w5 = wc := ⟨_,rfl⟩
 subst hw5
 clear HO4 HF3 HB4
 have js := C.out.state A g F ts w5 HMA.out HO5.out HLK.out
 go_wp2_with fail
 refine js.mono ?_
 rintro e w6 ⟨rfl,hb⟩
 have HR6 : Hid (Below w5.heap.size w5 w6) := hb
 have jv := C.out.verdict A g F ts w6 HMA.out (C.out.up HO5.out hb) HLK.out
 clear js hb
 go_wp2_with fail
 refine jv.mono ?_
 rintro e w7 ⟨v,rfl,HTV,hb⟩
 have HR7 : Hid (Below w5.heap.size w5 w7) := q5 HR6.out hb
 have jl := C.out.len A g F ts w7 HMA.out (C.out.up HO5.out HR7.out)
 clear jv hb HR6
 go_wp2_with fail
 refine jl.mono ?_
 rintro e w8 ⟨rfl,hb⟩
 have HR8 : Hid (Below w5.heap.size w5 w8) := q5 HR7.out hb
 have jo := C.out.off A g F ts w8 HMA.out (C.out.up HO5.out HR8.out) HLK.out
 clear jl hb HR7
 go_wp2_with fail
 refine jo.mono ?_
 rintro e w9 ⟨od,oE,rfl,HOD,hb⟩
 have HR9 : Hid (Below w5.heap.size w5 w9) := q5 HR8.out hb
 have HB9 : Hid (Below w2.heap.size w2 w9) := q5 HB5.out HR9.out
 have HO9 : Hid (Obj w9 g F A ts) := C.out.up HO5.out HR9.out
 clear jo hb HR8 HR9 HB5 HO5
 have hsh := shl8W (n := P) (by omega)
 have hK16 : 2 ^ P ≤ 16 := Nat.pow_le_pow_right (n := 2) (by decide) hP4
 rw [← HKE.out] at hsh
 have hKs : A.K ≤ 16 := by rw [HKE.out]; exact hK16
 clear hK16
 go_wp2
 go_loopw [14,15] (fun v14 v15 wr => ∃ (k : Nat) (F : Nat → Prop) (nr : Bool),k ≤ A.K ∧ v14 = .bool nr ∧ v15 = .int .i64 (k : Int) ∧ Hid (Obj wr g F A ts) ∧ Hid (∀ k,F k → w2.heap.size ≤ k) ∧ Hid (Below w2.heap.size w2 wr) ∧ Hid (∀ n : Nat,od = ((n + 1 : Nat) : Int) → oE = 0 → (∃ l,l < k ∧ OffW A.K A.R A.bs (trP A.R (A.at ts) l) n) → nr = true)) (fun _ v15 _ => A.K - (intOf v15).toNat)
 case atStart => exact ⟨0,F,false,Nat.zero_le _,rfl,rfl,HO9,HF5,HB9,fun n _ _ h => by obtain ⟨l,hl,_⟩ := h; omega⟩
 case round =>
  obtain ⟨k,F,nr,hk,rfl,rfl,HOB,HFB,HB,HNR⟩ := hrel
  clear HO9 HF5 HB9
  have c0 := (HV2.out.up HB.out).c0
  by_cases hlt : k < A.K
  ·have e1 : decide ((k : Int) < (A.K : Int)) = true := decide_eq_true (by omega)
   have hwk : IntKind.u8.wrap (k : Int) = (k : Int) := by rw [IntKind.wrap_u8]; omega
   have HLK2 : Hid (∀ x ∈ ts ++ [k],x < A.K) := fun x hx => by
    rcases List.mem_append.1 hx with h | h
    ·exact HLK.out x h
    ·simp only [List.mem_singleton] at h; subst h; exact hlt
   have jf := C.out.feed A g F ts k wr HMA.out HOB.out hlt (by omega) HLK.out
   go_wp2_with fail
   refine jf.mono ?_
   rintro e wa ⟨va,F1,rfl,_,HO1,HFR1⟩
   have HBa : Hid (Below w2.heap.size w2 wa) := HB.out.trans (HFR1.out.below HFB.out HB.out.size)
   have HFa : Hid (∀ k,F1 k → w2.heap.size ≤ k) := HFR1.out.ge HFB.out HB.out.size
   have jo := C.out.off A g F1 (ts ++ [k]) wa HMA.out HO1.out HLK2.out
   clear jf HOB HFB HB HFR1 c0 hwk
   go_wp2_with fail
   refine jo.mono ?_
   rintro e wb ⟨nd,nE,rfl,HND,hb⟩
   have HBb : Hid (Below w2.heap.size w2 wb) := q5 HBa.out hb
   have HOb : Hid (Obj wb g F1 A (ts ++ [k])) := C.out.up HO1.out hb
   have HST : Hid (A.at (ts ++ [k]) = trP A.R (A.at ts) k) := by show _ = _; rw [AuP.at,qE]; rfl
   clear jo hb HO1 HBa
   go_upto_region 17 with fail
   go_cut [14] from 68 to 125 (fun v wx => ∃ nr2 : Bool,v = .bool nr2 ∧ Hid (nr = true → nr2 = true) ∧ Hid (∀ n : Nat,od = ((n + 1 : Nat) : Int) → OffW A.K A.R A.bs (A.at (ts ++ [k])) n → nr2 = true) ∧ Hid (Below wb.heap.size wb wx))
   case first =>
    cases nr with
    | true =>
     go_wp2
     go_meet
     exact ⟨true,rfl,(fun _ => rfl),(fun _ _ _ => rfl),Below.refl _ _⟩
    | false =>
     rcases HND.out with ⟨n1,rfl,hn1,rfl,hO1⟩ | ⟨rfl,rfl,hN1⟩
     ·have hol : od = 0 ∨ ∃ n : Nat,od = (n : Int) ∧ n ≤ 256 := by
       rcases HOD.out with ⟨n,h1,h2,_,_⟩ | ⟨h1,_⟩
       ·exact .inr ⟨n,h1,h2⟩
       ·exact .inl h1
      have hwo : IntKind.i64.wrap (od - 1) = od - 1 := by
       rw [IntKind.wrap_i64]
       rcases hol with h | ⟨n,h,h2⟩ <;> omega
      have HON : Hid (OffW A.K A.R A.bs (A.at (ts ++ [k])) n1) := hO1
      clear hO1 hol
      cases hq : ((n1 : Int) == od - 1) with
      | true =>
       go_wp2
       go_meet
       exact ⟨true,rfl,(fun _ => rfl),(fun _ _ _ => rfl),Below.refl _ _⟩
      | false =>
       have HNE : Hid (¬ (n1 : Int) = od - 1) := by show ¬ _; simpa using hq
       go_wp2
       go_meet
       exact ⟨false,rfl,(fun h => h),(fun n h1 h2 => absurd (by have := HON.out.uni h2; omega) HNE.out),Below.refl _ _⟩
     ·have HNN : Hid (NoW A.K A.R A.bs (A.at (ts ++ [k]))) := hN1
      clear hN1
      go_wp2
      go_meet
      exact ⟨false,rfl,(fun h => h),(fun n _ h2 => (h2.no HNN.out).elim),Below.refl _ _⟩
   case rest =>
   obtain ⟨nr2,rfl,HN1,HN2,HBx⟩ := hcut
   obtain ⟨wd,hwd⟩ : ∃ wd,wd = wc := ⟨_,rfl⟩
   subst hwd
   have HBd : Hid (Below w2.heap.size w2 wd) := q5 HBb.out HBx.out
   have HNN : Hid (∀ n : Nat,od = ((n + 1 : Nat) : Int) → oE = 0 → (∃ l,l < k + 1 ∧ OffW A.K A.R A.bs (trP A.R (A.at ts) l) n) → nr2 = true) := fun n h1 h2 ⟨l,hl,hO⟩ => by
    by_cases e : l = k
    ·subst e; exact HN2.out n h1 (by rw [HST.out]; exact hO)
    ·exact HN1.out (HNR.out n h1 h2 ⟨l,by omega,hO⟩)
   have jb := C.out.back A g F1 ts k wd HMA.out (C.out.up HOb.out HBx.out) HLK2.out
   clear HN1 HN2 HNR HBx HBb HOb HND
   go_wp2_with fail
   refine jb.mono ?_
   rintro e we ⟨v2,F2,rfl,HT2,HO2,HFR2⟩
   have hvv : v2 = v := HT2.out.uni HTV.out
   subst hvv
   have HBe : Hid (Below w2.heap.size w2 we) := HBd.out.trans (HFR2.out.below HFa.out HBd.out.size)
   have HFe : Hid (∀ k,F2 k → w2.heap.size ≤ k) := HFR2.out.ge HFa.out HBd.out.size
   have js := C.out.state A g F2 ts we HMA.out HO2.out HLK.out
   have e5 : ((v2 : Int) != (v2 : Int)) = false := by simp
   have e6 : (((A.at ts : Nat) : Int) != ((A.at ts : Nat) : Int)) = false := by simp
   have e7 : ((ts.length : Int) != (ts.length : Int)) = false := by simp
   clear jb HT2 HFR2 HBd HFa
   go_wp2_with fail
   refine js.mono ?_
   rintro e wf ⟨rfl,hb⟩
   have HBf : Hid (Below w2.heap.size w2 wf) := q5 HBe.out hb
   have HOf : Hid (Obj wf g F2 A ts) := C.out.up HO2.out hb
   have jl := C.out.len A g F2 ts wf HMA.out HOf.out
   clear js hb HBe HO2
   go_wp2_with fail
   refine jl.mono ?_
   rintro e wh ⟨rfl,hb⟩
   have HBh : Hid (Below w2.heap.size w2 wh) := q5 HBf.out hb
   have HOh : Hid (Obj wh g F2 A ts) := C.out.up HOf.out hb
   clear jl hb HBf HOf
   go_wp2
   go_roundw
   case rel => exact ⟨k + 1,F2,nr2,by omega,rfl,by go_num,HOh,HFe,HBh,HNN⟩
   case measure => simp [intOf] <;> omega
  ·obtain hkk : k = A.K := by omega
   have e1 : decide ((k : Int) < (A.K : Int)) = false := decide_eq_false (by omega)
   have HE : Hid _ := HQ.out wr (q5 HB2.out HB.out)
   have hfin : (oE = 0 ∧ nr = true) ∨ (oE = 0 ∧ od = 0) ∨ oE = 6 := by
    rcases HOD.out with ⟨n,h1,h2,h3,h4⟩ | ⟨_,h2,_⟩
    ·match n with
     | 0 => exact .inr (.inl ⟨h3,by rw [h1]; rfl⟩)
     | n + 1 =>
      obtain ⟨l,hl,hO⟩ := h4.near
      exact .inl ⟨h3,HNR.out n h1 h3 ⟨l,by omega,hO⟩⟩
    ·exact .inr (.inr h2)
   clear HQ HOB HFB HB HNR HOD hkk
   rcases hfin with ⟨rfl,rfl⟩ | ⟨rfl,rfl⟩ | rfl
   ·cases e9 : decide ((0 : Int) < od)
    all_goals
     go_wp2
     exact HE.out
   ·go_wp2
    exact HE.out
   ·go_wp2
    exact HE.out
end Go.Proofs.Ytjpggahiddhanaa
