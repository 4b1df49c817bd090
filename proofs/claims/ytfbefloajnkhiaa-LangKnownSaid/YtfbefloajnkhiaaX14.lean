/- Texts of the proof, put together: what it uses. -/
import Derived.Test.YtfbefloajnkhiaaX13
set_option maxRecDepth 100000
set_option maxHeartbeats 16000000
namespace Go.Proofs.Ytfbefloajnkhiaa
open Go.RowKit Go.Maps Go.Sort
theorem q3V {w : World} {a : Option Addr} {c : Nat} {xs ys : List Int} {a' : Option Addr} {c' n : Nat} (h1 : ZSl w a n c xs) (h2 : ZSl w a' n c' ys) (e : xs = ys) : Calls Try.prog 23 #[.slice a n c,.slice a' n c'] w fun e w' => e = .returned (.bool true) ∧ Below w.heap.size w w' :=
 (q2O a n c xs a' n c' ys w h1 h2).mono fun _ w' ⟨he,k,hw⟩ => by
  rw [decide_eq_true e] at he
  subst hw
  exact ⟨he,below_drewN (Below.refl _ _) k⟩
theorem q1O {w : World} {a : Option Addr} {c : Nat} {xs ys : List Bool} {a' : Option Addr} {c' n : Nat} (h1 : BoSl w a n c xs) (h2 : BoSl w a' n c' ys) (e : xs = ys) : Calls Try.prog 24 #[.slice a n c,.slice a' n c'] w fun e w' => e = .returned (.bool true) ∧ Below w.heap.size w w' :=
 (q2N a n c xs a' n c' ys w h1 h2).mono fun _ w' ⟨he,hw⟩ => by
  rw [decide_eq_true e] at he
  exact ⟨he,hw⟩
theorem lwlit (w : World) : LwO (((((w.alloc (.cells #[.int .u8 1] 52)).alloc (.cells #[.int .u8 0,.int .u8 1] 52)).alloc (.cells #[.int .u8 1,.int .u8 0] 52)).alloc (.cells #[.int .u8 1,.int .u8 1] 52)).alloc (.cells #[.slice (some ⟨w.heap.size,0,none⟩) 1 1,.slice (some ⟨w.heap.size + 1,0,none⟩) 2 2,.slice (some ⟨w.heap.size + 2,0,none⟩) 2 2,.slice (some ⟨w.heap.size + 3,0,none⟩) 2 2] 27)) 0 (.slice (some ⟨w.heap.size + 4,0,none⟩) 4 4) [⟨some ⟨w.heap.size,0,none⟩,1,[1],0⟩,⟨some ⟨w.heap.size + 1,0,none⟩,2,[0,1],0⟩,⟨some ⟨w.heap.size + 2,0,none⟩,2,[1,0],0⟩,⟨some ⟨w.heap.size + 3,0,none⟩,2,[1,1],0⟩] := by
 have e : ∀ (w : World) (o : Obj),(w.alloc o).heap.size = w.heap.size + 1 := fun w o => by simp
 have lit : ∀ (w : World) (ts : List Nat),ts.length ≤ 1000 → (w.alloc (.cells (ltV ts).toArray 52)).ownsRow 0 52 1 (.slice (some ⟨w.heap.size,0,none⟩) ts.length ts.length) ts.length (ltV ts) := fun w ts h => ⟨by simp,.inr ⟨w.heap.size,ts.length,_,rfl,Nat.zero_le _,(MapKept.heap_alloc w _).1,Nat.le_refl _,by unfold maxLen; omega,by simp,by show (ltV ts).take _ = _; rw [List.take_of_length_le (by simp)]⟩⟩
 have h1 := lit w [1] (by decide)
 have h2 := lit (w.alloc (.cells #[.int .u8 1] 52)) [0,1] (by decide)
 have h3 := lit ((w.alloc (.cells #[.int .u8 1] 52)).alloc (.cells #[.int .u8 0,.int .u8 1] 52)) [1,0] (by decide)
 have h4 := lit (((w.alloc (.cells #[.int .u8 1] 52)).alloc (.cells #[.int .u8 0,.int .u8 1] 52)).alloc (.cells #[.int .u8 1,.int .u8 0] 52)) [1,1] (by decide)
 have h5 := (MapKept.heap_alloc ((((w.alloc (.cells #[.int .u8 1] 52)).alloc (.cells #[.int .u8 0,.int .u8 1] 52)).alloc (.cells #[.int .u8 1,.int .u8 0] 52)).alloc (.cells #[.int .u8 1,.int .u8 1] 52)) (.cells #[.slice (some ⟨w.heap.size,0,none⟩) 1 1,.slice (some ⟨w.heap.size + 1,0,none⟩) 2 2,.slice (some ⟨w.heap.size + 2,0,none⟩) 2 2,.slice (some ⟨w.heap.size + 3,0,none⟩) 2 2] 27)).1
 simp only [e] at h1 h2 h3 h4 h5
 refine ⟨⟨rfl,.inr ⟨w.heap.size + 4,4,_,rfl,Nat.zero_le _,h5,Nat.le_refl _,by decide,rfl,rfl⟩⟩,fun b hb => ?_⟩
 simp only [List.mem_cons,List.not_mem_nil,or_false] at hb
 rcases hb with rfl | rfl | rfl | rfl
 ·exact World.ownsRow.alloc (World.ownsRow.alloc (World.ownsRow.alloc (World.ownsRow.alloc h1 _) _) _) _
 ·exact World.ownsRow.alloc (World.ownsRow.alloc (World.ownsRow.alloc h2 _) _) _
 ·exact World.ownsRow.alloc (World.ownsRow.alloc h3 _) _
 ·exact World.ownsRow.alloc h4 _
theorem q26 (w : World) : Calls Try.prog 5 #[] w fun e w' => e = .returned (.bool true) ∧ Below w.heap.size w w' := by
 have HJF : Hid (∀ w,Calls Try.prog 20 #[] w fun e w' => ∃ a1 c1 a2 c2 a3 c3,e = .returned (.agg #[.int .i64 1,.slice a1 2 c1,.slice a2 2 c2,.slice a3 1 c3]) ∧ Hid (AuX w' a1 2 c1 a2 2 c2 a3 1 c3 laB laG laN) ∧ Hid (Below w.heap.size w w')) := q1i
 have HJN : Hid (∀ w,Calls Try.prog 21 #[] w fun e w' => ∃ a1 c1 a2 c2,e = .returned (.agg #[.int .i64 1,.slice a1 1 c1,.slice a2 1 c2,.slice none 0 0]) ∧ Hid (AuX w' a1 1 c1 a2 1 c2 none 0 0 lnB lnG []) ∧ Hid (Below w.heap.size w w')) := q2M
 have j0 := HJF.out w
 have HB0 : Hid (Below w.heap.size w w) := Below.refl _ _
 go_enter Try.func5,Try.ntmps5
 go_wp2_with fail
 refine j0.mono ?_
 rintro e w1 ⟨a1,c1,a2,c2,a3,c3,rfl,HA,HBB⟩
 have HB1 : Hid (Below w.heap.size w w1) := q5 HB0.out HBB.out
 have hL : LtC (w1.alloc (.cells #[.int .u8 0,.int .u8 0] 52)) (some ⟨w1.heap.size,0,none⟩) 2 2 [0,0] := qK w1 [0,0] (by decide)
 have hba := q6 w1 (.cells #[.int .u8 0,.int .u8 0] 52)
 have j1 := q1h (HA.out.up hba) hL (by decide) (by decide)
 rw [show laB.getD (runP laR 0 [0,0]) false = false by decide] at j1
 replace HB1 : Hid (Below w.heap.size w (w1.alloc (.cells #[.int .u8 0,.int .u8 0] 52))) := q5 HB1.out hba
 clear j0 HB0 HA HBB hL hba
 go_wp2_with fail
 refine j1.mono ?_
 rintro e w2 ⟨rfl,hb⟩
 have HB2 : Hid (Below w.heap.size w w2) := q5 HB1.out hb
 have j2 := HJF.out w2
 clear j1 HB1 hb
 go_wp2_with fail
 refine j2.mono ?_
 rintro e w3 ⟨a1,c1,a2,c2,a3,c3,rfl,HA,HBB⟩
 have HB3 : Hid (Below w.heap.size w w3) := q5 HB2.out HBB.out
 have j3 := q1h HA.out (q3e w3) (by decide) (by decide)
 rw [show laB.getD (runP laR 0 []) false = false by decide] at j3
 clear j2 HB2 HA HBB
 go_wp2_with fail
 refine j3.mono ?_
 rintro e w4 ⟨rfl,hb⟩
 have HB4 : Hid (Below w.heap.size w w4) := q5 HB3.out hb
 have j4 := HJF.out w4
 clear j3 HB3 hb
 go_wp2_with fail
 refine j4.mono ?_
 rintro e w5 ⟨a1,c1,a2,c2,a3,c3,rfl,HA,HBB⟩
 have HB5 : Hid (Below w.heap.size w w5) := q5 HB4.out HBB.out
 have j5 := q46 HA.out
 clear j4 HB4 HA HBB
 go_wp2_with fail
 refine j5.mono ?_
 rintro e w6 ⟨hb,ax,cx,rfl,hx⟩
 have HB6 : Hid (Below w.heap.size w w6) := q5 HB5.out hb
 have HX : Hid (LtC w6 ax 1 cx [0]) := hx
 have j6 := HJN.out w6
 clear j5 HB5 hb hx
 go_wp2_with fail
 refine j6.mono ?_
 rintro e w7 ⟨a1,c1,a2,c2,rfl,HA,HBB⟩
 have HB7 : Hid (Below w.heap.size w w7) := q5 HB6.out HBB.out
 replace HX : Hid (LtC w7 ax 1 cx [0]) := HX.out.up HBB.out
 have j7 := q4c HA.out
 clear j6 HB6 HA HBB
 go_wp2_with fail
 refine j7.mono ?_
 rintro e w8 ⟨hb,az,cz,rfl⟩
 have HB8 : Hid (Below w.heap.size w w8) := q5 HB7.out hb
 replace HX : Hid (LtC w8 ax 1 cx [0]) := HX.out.up hb
 have j8 := HJN.out w8
 clear j7 HB7 hb 
 go_wp2_with fail
 refine j8.mono ?_
 rintro e w9 ⟨a1,c1,a2,c2,rfl,HA,HBB⟩
 have HB9 : Hid (Below w.heap.size w w9) := q5 HB8.out HBB.out
 replace HX : Hid (LtC w9 ax 1 cx [0]) := HX.out.up HBB.out
 have j9 := q4b HA.out
 clear j8 HB8 HA HBB
 go_wp2_with fail
 refine j9.mono ?_
 rintro e w10 ⟨hb,ay,cy,rfl,hx⟩
 have HB10 : Hid (Below w.heap.size w w10) := q5 HB9.out hb
 replace HX : Hid (LtC w10 ax 1 cx [0]) := HX.out.up hb
 have HY : Hid (LtC w10 ay 1 cy [0]) := hx
 have j10 := HJF.out w10
 clear j9 HB9 hb hx
 go_wp2_with fail
 refine j10.mono ?_
 rintro e w11 ⟨a1,c1,a2,c2,a3,c3,rfl,HA,HBB⟩
 have HB11 : Hid (Below w.heap.size w w11) := q5 HB10.out HBB.out
 replace HX : Hid (LtC w11 ax 1 cx [0]) := HX.out.up HBB.out
 replace HY : Hid (LtC w11 ay 1 cy [0]) := HY.out.up HBB.out
 have j11 := qM HA.out 64 18446744073709551615 0 (fun v r h => by simpa using h)
 clear j10 HB10 HA HBB
 go_wp2_with fail
 refine j11.mono ?_
 rintro e w12 ⟨rfl,hb⟩
 have HB12 : Hid (Below w.heap.size w w12) := q5 HB11.out hb
 replace HX : Hid (LtC w12 ax 1 cx [0]) := HX.out.up hb
 replace HY : Hid (LtC w12 ay 1 cy [0]) := HY.out.up hb
 have j12 := HJF.out w12
 clear j11 HB11 hb 
 go_wp2_with fail
 refine j12.mono ?_
 rintro e w13 ⟨a1,c1,a2,c2,a3,c3,rfl,HA,HBB⟩
 have HB13 : Hid (Below w.heap.size w w13) := q5 HB12.out HBB.out
 replace HX : Hid (LtC w13 ax 1 cx [0]) := HX.out.up HBB.out
 replace HY : Hid (LtC w13 ay 1 cy [0]) := HY.out.up HBB.out
 have j13 := qM HA.out 65 0 15 (fun v r h => by simpa using h)
 clear j12 HB12 HA HBB
 go_wp2_with fail
 refine j13.mono ?_
 rintro e w14 ⟨rfl,hb⟩
 have HB14 : Hid (Below w.heap.size w w14) := q5 HB13.out hb
 replace HX : Hid (LtC w14 ax 1 cx [0]) := HX.out.up hb
 replace HY : Hid (LtC w14 ay 1 cy [0]) := HY.out.up hb
 have j14 := HJF.out w14
 clear j13 HB13 hb 
 go_wp2_with fail
 refine j14.mono ?_
 rintro e w15 ⟨a1,c1,a2,c2,a3,c3,rfl,HA,HBB⟩
 have HB15 : Hid (Below w.heap.size w w15) := q5 HB14.out HBB.out
 replace HX : Hid (LtC w15 ax 1 cx [0]) := HX.out.up HBB.out
 replace HY : Hid (LtC w15 ay 1 cy [0]) := HY.out.up HBB.out
 have j15 := q47 HA.out
 clear j14 HB14 HA HBB
 go_wp2_with fail
 refine j15.mono ?_
 rintro e w16 ⟨hb,ar,cr,rfl,hx⟩
 have HB16 : Hid (Below w.heap.size w w16) := q5 HB15.out hb
 replace HX : Hid (LtC w16 ax 1 cx [0]) := HX.out.up hb
 replace HY : Hid (LtC w16 ay 1 cy [0]) := HY.out.up hb
 have HRR : Hid (ZSl w16 ar 2 cr [0,1]) := hx
 have j16 := HJF.out w16
 clear j15 HB15 hb hx
 go_wp2_with fail
 refine j16.mono ?_
 rintro e w17 ⟨a1,c1,a2,c2,a3,c3,rfl,HA,HBB⟩
 have HB17 : Hid (Below w.heap.size w w17) := q5 HB16.out HBB.out
 replace HX : Hid (LtC w17 ax 1 cx [0]) := HX.out.up HBB.out
 replace HY : Hid (LtC w17 ay 1 cy [0]) := HY.out.up HBB.out
 replace HRR : Hid (ZSl w17 ar 2 cr [0,1]) := HRR.out.up HBB.out
 have j17 := q45 HA.out
 clear j16 HB16 HA HBB
 go_wp2_with fail
 refine j17.mono ?_
 rintro e w18 ⟨hb,av,cv,rfl,hx⟩
 have HB18 : Hid (Below w.heap.size w w18) := q5 HB17.out hb
 replace HX : Hid (LtC w18 ax 1 cx [0]) := HX.out.up hb
 replace HY : Hid (LtC w18 ay 1 cy [0]) := HY.out.up hb
 replace HRR : Hid (ZSl w18 ar 2 cr [0,1]) := HRR.out.up hb
 have HVV : Hid (BoSl w18 av 2 cv [true,true]) := hx
 have j18 := HJN.out w18
 clear j17 HB17 hb hx
 go_wp2_with fail
 refine j18.mono ?_
 rintro e w19 ⟨a1,c1,a2,c2,rfl,HA,HBB⟩
 have HB19 : Hid (Below w.heap.size w w19) := q5 HB18.out HBB.out
 replace HX : Hid (LtC w19 ax 1 cx [0]) := HX.out.up HBB.out
 replace HY : Hid (LtC w19 ay 1 cy [0]) := HY.out.up HBB.out
 replace HRR : Hid (ZSl w19 ar 2 cr [0,1]) := HRR.out.up HBB.out
 replace HVV : Hid (BoSl w19 av 2 cv [true,true]) := HVV.out.up HBB.out
 have j19 := q4a HA.out
 clear j18 HB18 HA HBB
 go_wp2_with fail
 refine j19.mono ?_
 rintro e w20 ⟨hb,au,cu,rfl,hx⟩
 have HB20 : Hid (Below w.heap.size w w20) := q5 HB19.out hb
 replace HX : Hid (LtC w20 ax 1 cx [0]) := HX.out.up hb
 replace HY : Hid (LtC w20 ay 1 cy [0]) := HY.out.up hb
 replace HRR : Hid (ZSl w20 ar 2 cr [0,1]) := HRR.out.up hb
 replace HVV : Hid (BoSl w20 av 2 cv [true,true]) := HVV.out.up hb
 have HUU : Hid (BoSl w20 au 1 cu [false]) := hx
 have j20 := HJF.out w20
 clear j19 HB19 hb hx
 go_wp2_with fail
 refine j20.mono ?_
 rintro e w21 ⟨a1,c1,a2,c2,a3,c3,rfl,HA,HBB⟩
 have HB21 : Hid (Below w.heap.size w w21) := q5 HB20.out HBB.out
 replace HX : Hid (LtC w21 ax 1 cx [0]) := HX.out.up HBB.out
 replace HY : Hid (LtC w21 ay 1 cy [0]) := HY.out.up HBB.out
 replace HRR : Hid (ZSl w21 ar 2 cr [0,1]) := HRR.out.up HBB.out
 replace HVV : Hid (BoSl w21 av 2 cv [true,true]) := HVV.out.up HBB.out
 replace HUU : Hid (BoSl w21 au 1 cu [false]) := HUU.out.up HBB.out
 have j21 := q49 HA.out
 clear j20 HB20 HA HBB
 go_wp2_with fail
 refine j21.mono ?_
 rintro e w22 ⟨hb,L,aw,cw,rfl,hl,HS,HT⟩
 have HB22 : Hid (Below w.heap.size w w22) := q5 HB21.out hb
 replace HX : Hid (LtC w22 ax 1 cx [0]) := HX.out.up hb
 replace HY : Hid (LtC w22 ay 1 cy [0]) := HY.out.up hb
 replace HRR : Hid (ZSl w22 ar 2 cr [0,1]) := HRR.out.up hb
 replace HVV : Hid (BoSl w22 av 2 cv [true,true]) := HVV.out.up hb
 replace HUU : Hid (BoSl w22 au 1 cu [false]) := HUU.out.up hb
 have HLL : Hid (L.length = 4) := hl
 have j22 := HJF.out w22
 clear j21 HB21 hb hl
 go_wp2_with fail
 refine j22.mono ?_
 rintro e w23 ⟨a1,c1,a2,c2,a3,c3,rfl,HA,HBB⟩
 have HB23 : Hid (Below w.heap.size w w23) := q5 HB22.out HBB.out
 replace HX : Hid (LtC w23 ax 1 cx [0]) := HX.out.up HBB.out
 replace HY : Hid (LtC w23 ay 1 cy [0]) := HY.out.up HBB.out
 replace HRR : Hid (ZSl w23 ar 2 cr [0,1]) := HRR.out.up HBB.out
 replace HVV : Hid (BoSl w23 av 2 cv [true,true]) := HVV.out.up HBB.out
 replace HUU : Hid (BoSl w23 au 1 cu [false]) := HUU.out.up HBB.out
 replace HS : Hid (LwO w23 0 (.slice aw 4 cw) L) := HS.out.up HBB.out
 have hL : LtC (w23.alloc (.cells #[.int .u8 2] 52)) (some ⟨w23.heap.size,0,none⟩) 1 1 [2] := qK w23 [2] (by decide)
 have hba := q6 w23 (.cells #[.int .u8 2] 52)
 have hA := HA.out.up hba
 have j23 := q3Q hA hL
 replace HB23 : Hid (Below w.heap.size w (w23.alloc (.cells #[.int .u8 2] 52))) := q5 HB23.out hba
 replace HX : Hid (LtC (w23.alloc (.cells #[.int .u8 2] 52)) ax 1 cx [0]) := HX.out.up hba
 replace HY : Hid (LtC (w23.alloc (.cells #[.int .u8 2] 52)) ay 1 cy [0]) := HY.out.up hba
 replace HRR : Hid (ZSl (w23.alloc (.cells #[.int .u8 2] 52)) ar 2 cr [0,1]) := HRR.out.up hba
 replace HVV : Hid (BoSl (w23.alloc (.cells #[.int .u8 2] 52)) av 2 cv [true,true]) := HVV.out.up hba
 replace HUU : Hid (BoSl (w23.alloc (.cells #[.int .u8 2] 52)) au 1 cu [false]) := HUU.out.up hba
 replace HS : Hid (LwO (w23.alloc (.cells #[.int .u8 2] 52)) 0 (.slice aw 4 cw) L) := HS.out.up hba
 clear j22 HB22 HA HBB hL hba hA
 go_wp2_with fail
 refine j23.mono ?_
 rintro e w24 ⟨rfl,hb⟩
 have HB24 : Hid (Below w.heap.size w w24) := q5 HB23.out hb
 replace HX : Hid (LtC w24 ax 1 cx [0]) := HX.out.up hb
 replace HY : Hid (LtC w24 ay 1 cy [0]) := HY.out.up hb
 replace HRR : Hid (ZSl w24 ar 2 cr [0,1]) := HRR.out.up hb
 replace HVV : Hid (BoSl w24 av 2 cv [true,true]) := HVV.out.up hb
 replace HUU : Hid (BoSl w24 au 1 cu [false]) := HUU.out.up hb
 replace HS : Hid (LwO w24 0 (.slice aw 4 cw) L) := HS.out.up hb
 have j24 := HJF.out w24
 clear j23 HB23 hb 
 go_wp2_with fail
 refine j24.mono ?_
 rintro e w25 ⟨a1,c1,a2,c2,a3,c3,rfl,HA,HBB⟩
 have HB25 : Hid (Below w.heap.size w w25) := q5 HB24.out HBB.out
 replace HX : Hid (LtC w25 ax 1 cx [0]) := HX.out.up HBB.out
 replace HY : Hid (LtC w25 ay 1 cy [0]) := HY.out.up HBB.out
 replace HRR : Hid (ZSl w25 ar 2 cr [0,1]) := HRR.out.up HBB.out
 replace HVV : Hid (BoSl w25 av 2 cv [true,true]) := HVV.out.up HBB.out
 replace HUU : Hid (BoSl w25 au 1 cu [false]) := HUU.out.up HBB.out
 replace HS : Hid (LwO w25 0 (.slice aw 4 cw) L) := HS.out.up HBB.out
 have j25 := qM HA.out 1025 0 2 (fun v r h => by simpa using h)
 clear j24 HB24 HA HBB
 go_wp2_with fail
 refine j25.mono ?_
 rintro e w26 ⟨rfl,hb⟩
 have HB26 : Hid (Below w.heap.size w w26) := q5 HB25.out hb
 replace HX : Hid (LtC w26 ax 1 cx [0]) := HX.out.up hb
 replace HY : Hid (LtC w26 ay 1 cy [0]) := HY.out.up hb
 replace HRR : Hid (ZSl w26 ar 2 cr [0,1]) := HRR.out.up hb
 replace HVV : Hid (BoSl w26 av 2 cv [true,true]) := HVV.out.up hb
 replace HUU : Hid (BoSl w26 au 1 cu [false]) := HUU.out.up hb
 replace HS : Hid (LwO w26 0 (.slice aw 4 cw) L) := HS.out.up hb
 have j26 := HJF.out w26
 clear j25 HB25 hb 
 go_wp2_with fail
 refine j26.mono ?_
 rintro e w27 ⟨a1,c1,a2,c2,a3,c3,rfl,HA,HBB⟩
 have HB27 : Hid (Below w.heap.size w w27) := q5 HB26.out HBB.out
 replace HX : Hid (LtC w27 ax 1 cx [0]) := HX.out.up HBB.out
 replace HY : Hid (LtC w27 ay 1 cy [0]) := HY.out.up HBB.out
 replace HRR : Hid (ZSl w27 ar 2 cr [0,1]) := HRR.out.up HBB.out
 replace HVV : Hid (BoSl w27 av 2 cv [true,true]) := HVV.out.up HBB.out
 replace HUU : Hid (BoSl w27 au 1 cu [false]) := HUU.out.up HBB.out
 replace HS : Hid (LwO w27 0 (.slice aw 4 cw) L) := HS.out.up HBB.out
 have j27 := q3R HA.out
 clear j26 HB26 HA HBB
 go_wp2_with fail
 refine j27.mono ?_
 rintro e w28 ⟨rfl,hb⟩
 have HB28 : Hid (Below w.heap.size w w28) := q5 HB27.out hb
 replace HX : Hid (LtC w28 ax 1 cx [0]) := HX.out.up hb
 replace HY : Hid (LtC w28 ay 1 cy [0]) := HY.out.up hb
 replace HRR : Hid (ZSl w28 ar 2 cr [0,1]) := HRR.out.up hb
 replace HVV : Hid (BoSl w28 av 2 cv [true,true]) := HVV.out.up hb
 replace HUU : Hid (BoSl w28 au 1 cu [false]) := HUU.out.up hb
 replace HS : Hid (LwO w28 0 (.slice aw 4 cw) L) := HS.out.up hb
 have j28 := q44 w28
 clear j27 HB27 hb
 go_wp2_with fail
 refine j28.mono ?_
 rintro e w29 ⟨rfl,hb⟩
 have HB29 : Hid (Below w.heap.size w w29) := q5 HB28.out hb
 replace HX : Hid (LtC w29 ax 1 cx [0]) := HX.out.up hb
 replace HY : Hid (LtC w29 ay 1 cy [0]) := HY.out.up hb
 replace HRR : Hid (ZSl w29 ar 2 cr [0,1]) := HRR.out.up hb
 replace HVV : Hid (BoSl w29 av 2 cv [true,true]) := HVV.out.up hb
 replace HUU : Hid (BoSl w29 au 1 cu [false]) := HUU.out.up hb
 replace HS : Hid (LwO w29 0 (.slice aw 4 cw) L) := HS.out.up hb
 clear hb
 have hba := q6 w29 (.cells #[.int .u8 0] 52)
 have j29 := qC (ts := [0]) (us := [0]) (HX.out.up hba) (qK w29 [0] (by decide))
 rw [decide_eq_true rfl] at j29
 simp only [List.length_cons,List.length_nil,Nat.zero_add] at j29
 replace HB29 : Hid (Below w.heap.size w (w29.alloc (.cells #[.int .u8 0] 52))) := q5 HB29.out hba
 replace HX : Hid (LtC (w29.alloc (.cells #[.int .u8 0] 52)) ax 1 cx [0]) := HX.out.up hba
 replace HY : Hid (LtC (w29.alloc (.cells #[.int .u8 0] 52)) ay 1 cy [0]) := HY.out.up hba
 replace HRR : Hid (ZSl (w29.alloc (.cells #[.int .u8 0] 52)) ar 2 cr [0,1]) := HRR.out.up hba
 replace HVV : Hid (BoSl (w29.alloc (.cells #[.int .u8 0] 52)) av 2 cv [true,true]) := HVV.out.up hba
 replace HUU : Hid (BoSl (w29.alloc (.cells #[.int .u8 0] 52)) au 1 cu [false]) := HUU.out.up hba
 replace HS : Hid (LwO (w29.alloc (.cells #[.int .u8 0] 52)) 0 (.slice aw 4 cw) L) := HS.out.up hba
 clear j28 HB28 hba HX
 go_wp2_with fail
 refine j29.mono ?_
 rintro e w30 ⟨rfl,hb⟩
 have HB30 : Hid (Below w.heap.size w w30) := q5 HB29.out hb
 replace HY : Hid (LtC w30 ay 1 cy [0]) := HY.out.up hb
 replace HRR : Hid (ZSl w30 ar 2 cr [0,1]) := HRR.out.up hb
 replace HVV : Hid (BoSl w30 av 2 cv [true,true]) := HVV.out.up hb
 replace HUU : Hid (BoSl w30 au 1 cu [false]) := HUU.out.up hb
 replace HS : Hid (LwO w30 0 (.slice aw 4 cw) L) := HS.out.up hb
 clear hb
 have hba := q6 w30 (.cells #[.int .u8 0] 52)
 have j30 := qC (ts := [0]) (us := [0]) (HY.out.up hba) (qK w30 [0] (by decide))
 rw [decide_eq_true rfl] at j30
 simp only [List.length_cons,List.length_nil,Nat.zero_add] at j30
 replace HB30 : Hid (Below w.heap.size w (w30.alloc (.cells #[.int .u8 0] 52))) := q5 HB30.out hba
 replace HY : Hid (LtC (w30.alloc (.cells #[.int .u8 0] 52)) ay 1 cy [0]) := HY.out.up hba
 replace HRR : Hid (ZSl (w30.alloc (.cells #[.int .u8 0] 52)) ar 2 cr [0,1]) := HRR.out.up hba
 replace HVV : Hid (BoSl (w30.alloc (.cells #[.int .u8 0] 52)) av 2 cv [true,true]) := HVV.out.up hba
 replace HUU : Hid (BoSl (w30.alloc (.cells #[.int .u8 0] 52)) au 1 cu [false]) := HUU.out.up hba
 replace HS : Hid (LwO (w30.alloc (.cells #[.int .u8 0] 52)) 0 (.slice aw 4 cw) L) := HS.out.up hba
 clear j29 HB29 hba HY
 go_wp2_with fail
 refine j30.mono ?_
 rintro e w31 ⟨rfl,hb⟩
 have HB31 : Hid (Below w.heap.size w w31) := q5 HB30.out hb
 replace HRR : Hid (ZSl w31 ar 2 cr [0,1]) := HRR.out.up hb
 replace HVV : Hid (BoSl w31 av 2 cv [true,true]) := HVV.out.up hb
 replace HUU : Hid (BoSl w31 au 1 cu [false]) := HUU.out.up hb
 replace HS : Hid (LwO w31 0 (.slice aw 4 cw) L) := HS.out.up hb
 clear hb
 have hba := q6 w31 (.cells #[.int .i64 0,.int .i64 1] 3)
 have j31 := q3V (HRR.out.up hba) (zlitP w31 [0,1] (by decide)) rfl
 replace HB31 : Hid (Below w.heap.size w (w31.alloc (.cells #[.int .i64 0,.int .i64 1] 3))) := q5 HB31.out hba
 replace HRR : Hid (ZSl (w31.alloc (.cells #[.int .i64 0,.int .i64 1] 3)) ar 2 cr [0,1]) := HRR.out.up hba
 replace HVV : Hid (BoSl (w31.alloc (.cells #[.int .i64 0,.int .i64 1] 3)) av 2 cv [true,true]) := HVV.out.up hba
 replace HUU : Hid (BoSl (w31.alloc (.cells #[.int .i64 0,.int .i64 1] 3)) au 1 cu [false]) := HUU.out.up hba
 replace HS : Hid (LwO (w31.alloc (.cells #[.int .i64 0,.int .i64 1] 3)) 0 (.slice aw 4 cw) L) := HS.out.up hba
 clear j30 HB30 hba HRR
 go_wp2_with fail
 refine j31.mono ?_
 rintro e w32 ⟨rfl,hb⟩
 have HB32 : Hid (Below w.heap.size w w32) := q5 HB31.out hb
 replace HVV : Hid (BoSl w32 av 2 cv [true,true]) := HVV.out.up hb
 replace HUU : Hid (BoSl w32 au 1 cu [false]) := HUU.out.up hb
 replace HS : Hid (LwO w32 0 (.slice aw 4 cw) L) := HS.out.up hb
 clear hb
 have hba := q6 w32 (.cells #[.bool true,.bool true] 4)
 have j32 := q1O (HVV.out.up hba) (blitP w32 [true,true] (by decide)) rfl
 replace HB32 : Hid (Below w.heap.size w (w32.alloc (.cells #[.bool true,.bool true] 4))) := q5 HB32.out hba
 replace HVV : Hid (BoSl (w32.alloc (.cells #[.bool true,.bool true] 4)) av 2 cv [true,true]) := HVV.out.up hba
 replace HUU : Hid (BoSl (w32.alloc (.cells #[.bool true,.bool true] 4)) au 1 cu [false]) := HUU.out.up hba
 replace HS : Hid (LwO (w32.alloc (.cells #[.bool true,.bool true] 4)) 0 (.slice aw 4 cw) L) := HS.out.up hba
 clear j31 HB31 hba HVV
 go_wp2_with fail
 refine j32.mono ?_
 rintro e w33 ⟨rfl,hb⟩
 have HB33 : Hid (Below w.heap.size w w33) := q5 HB32.out hb
 replace HUU : Hid (BoSl w33 au 1 cu [false]) := HUU.out.up hb
 replace HS : Hid (LwO w33 0 (.slice aw 4 cw) L) := HS.out.up hb
 clear hb
 have hba := q6 w33 (.cells #[.bool false] 4)
 have j33 := q1O (HUU.out.up hba) (blitP w33 [false] (by decide)) rfl
 replace HB33 : Hid (Below w.heap.size w (w33.alloc (.cells #[.bool false] 4))) := q5 HB33.out hba
 replace HUU : Hid (BoSl (w33.alloc (.cells #[.bool false] 4)) au 1 cu [false]) := HUU.out.up hba
 replace HS : Hid (LwO (w33.alloc (.cells #[.bool false] 4)) 0 (.slice aw 4 cw) L) := HS.out.up hba
 clear j32 HB32 hba HUU
 go_wp2_with fail
 refine j33.mono ?_
 rintro e w34 ⟨rfl,hb⟩
 have HB34 : Hid (Below w.heap.size w w34) := q5 HB33.out hb
 replace HS : Hid (LwO w34 0 (.slice aw 4 cw) L) := HS.out.up hb
 clear hb
 have hba : Below w34.heap.size w34 (((((w34.alloc (.cells #[.int .u8 1] 52)).alloc (.cells #[.int .u8 0,.int .u8 1] 52)).alloc (.cells #[.int .u8 1,.int .u8 0] 52)).alloc (.cells #[.int .u8 1,.int .u8 1] 52)).alloc (.cells #[.slice (some ⟨w34.heap.size,0,none⟩) 1 1,.slice (some ⟨w34.heap.size + 1,0,none⟩) 2 2,.slice (some ⟨w34.heap.size + 2,0,none⟩) 2 2,.slice (some ⟨w34.heap.size + 3,0,none⟩) 2 2] 27)) := q5 (q5 (q5 (q5 (q6 _ _) (q6 _ _)) (q6 _ _)) (q6 _ _)) (q6 _ _)
 have j34 := q2V 4 _ _ L _ 0 0 aw cw (some ⟨w34.heap.size + 4,0,none⟩) 4 _ rfl rfl (HS.out.up hba) (lwlit w34) HLL.out rfl (by rw [HT.out]; rfl) (by decide)
 replace HB34 : Hid (Below w.heap.size w (((((w34.alloc (.cells #[.int .u8 1] 52)).alloc (.cells #[.int .u8 0,.int .u8 1] 52)).alloc (.cells #[.int .u8 1,.int .u8 0] 52)).alloc (.cells #[.int .u8 1,.int .u8 1] 52)).alloc (.cells #[.slice (some ⟨w34.heap.size,0,none⟩) 1 1,.slice (some ⟨w34.heap.size + 1,0,none⟩) 2 2,.slice (some ⟨w34.heap.size + 2,0,none⟩) 2 2,.slice (some ⟨w34.heap.size + 3,0,none⟩) 2 2] 27))) := q5 HB34.out hba
 clear j33 HB33 hba HS HT HLL
 go_wp2_with fail
 refine j34.mono ?_
 rintro e w35 ⟨rfl,hb⟩
 have HB35 : Hid (Below w.heap.size w w35) := q5 HB34.out hb
 have j35 := q24 w35
 clear j34 HB34 hb
 go_wp2_with fail
 refine j35.mono ?_
 rintro e w36 ⟨rfl,hb⟩
 have HB36 : Hid (Below w.heap.size w w36) := q5 HB35.out hb
 clear j35 HB35 hb HJF HJN
 go_wp2
 go_ret
 exact ⟨rfl,HB36.out⟩
end Go.Proofs.Ytfbefloajnkhiaa
