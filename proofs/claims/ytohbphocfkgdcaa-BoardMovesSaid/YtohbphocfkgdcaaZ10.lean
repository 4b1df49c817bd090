/- Texts of the proof, put together: what it uses. -/
import Derived.Test.YtohbphocfkgdcaaZ01
import Derived.Test.YtohbphocfkgdcaaZ08
set_option maxRecDepth 100000
set_option maxHeartbeats 16000000
namespace Go.Proofs.Ytohbphocfkgdcaa
open Go.RowKit Go.Maps Go.Sort
def OfN (ss os : List ByteArray) (X Y E : Int) : Prop := ((ofEc (nms ss) (nms os)).2 ≠ 0 ∧ X = 0 ∧ Y = 0 ∧ E = (ofEc (nms ss) (nms os)).2) ∨ ((ofEc (nms ss) (nms os)).2 = 0 ∧ E = 0 ∧ X = (ofEc (nms ss) (nms os)).1 ∧ Y = ((sysN ss.length (ofEc (nms ss) (nms os)).1.toNat : Nat) : Int))
def BrdO : Prop := ∀ (a : Option Addr) (len cap : Nat) (ad : Nat → Addr) (ss : List ByteArray) (a' : Option Addr) (len' cap' : Nat) (ad' : Nat → Addr) (os : List ByteArray) (w : World),StrSl Try.prog 30 w a len cap ad ss → StrSl Try.prog 30 w a' len' cap' ad' os →
 Calls Try.prog 15 #[.slice a len cap,.slice a' len' cap'] w fun e w' => Below w.heap.size w w' ∧ ∃ X Y E : Int,e = .returned (.tuple #[.agg #[.int .u8 X,.int .u8 Y],.int .i64 E]) ∧ Hid (OfN ss os X Y E)
def SpB (w : World) (sb : Nat) (x y : Int) : Prop := w.heap[sb]? = some (.cells #[.int .u8 x,.int .u8 y] 29 (0,0))
theorem SpB.up {w w' : World} {sb : Nat} {x y : Int} (h : SpB w sb x y) (hb : Below w.heap.size w w') : SpB w' sb x y := (hb.block sb (Array.getElem?_eq_some_iff.1 h).1).trans h
theorem q29 : (Try.prog.info? 9).map (·.size) = some 1 := by kernel_rfl
theorem qp (w : World) (ss : List ByteArray) (hl : ss.length ≤ 1000) (hz : ∀ k,(ss.getD k ByteArray.empty).size ≤ maxLen) : StrSl Try.prog 30 (w.alloc (.cells (ss.map Value.string).toArray 9)) (some ⟨w.heap.size,0,none⟩) ss.length ss.length (fun k => ⟨w.heap.size,k,none⟩) ss := by
 have hc := (MapKept.heap_alloc w (.cells (ss.map Value.string).toArray 9)).1
 have had : ∀ k,adOf (some (⟨w.heap.size,0,none⟩ : Addr)) k = ⟨w.heap.size,k,none⟩ := fun k => by simp [adOf,qa]
 refine ⟨rfl,Nat.le_refl _,by unfold maxLen; omega,fun m k w' hk hm => ?_,fun k hk => ?_,fun k hk => by simp,hz,by simp⟩
 ·have := qg (P := Try.prog) (T := 30) Try.underlying30 q29 (a := some ⟨w.heap.size,0,none⟩) (cap := ss.length) (n := m) (by simp) k w' hk
  rwa [had] at this
 ·rw [q7 hc]
  simp [List.getElem?_eq_getElem hk,List.getD_eq_getElem?_getD]
theorem of_pq : OfN [⟨#[112]⟩,⟨#[113]⟩] [⟨#[113]⟩] 2 1 0 := .inr (by decide +kernel)
theorem of_pr : OfN [⟨#[112]⟩,⟨#[113]⟩] [⟨#[114]⟩] 0 0 6 := .inl (by decide +kernel)
theorem OfN.uni {ss os : List ByteArray} {X Y E X' Y' E' : Int} (h : OfN ss os X Y E) (k : OfN ss os X' Y' E') : X = X' ∧ Y = Y' ∧ E = E' := by
 rcases h with ⟨h1,rfl,rfl,rfl⟩ | ⟨h1,rfl,rfl,rfl⟩ <;> rcases k with ⟨k1,rfl,rfl,rfl⟩ | ⟨k1,rfl,rfl,rfl⟩
 ·exact ⟨rfl,rfl,rfl⟩
 ·exact absurd k1 h1
 ·exact absurd h1 k1
 ·exact ⟨rfl,rfl,rfl⟩
theorem q3T {n E : Int} (h : NumN 5 4 n E) : n = 2 ∧ E = 0 := by
 rcases h with ⟨_,h1,i,h2,h3,h4⟩ | ⟨h1,_⟩
 ·have : i = 2 := q2j h3 (by rw [q1X]; decide) (by rw [h4,q1X]; rfl)
  subst this
  exact ⟨h2,h1⟩
 ·exact absurd (show 4 &&& 5 = 4 by decide) h1
theorem q3S {n E : Int} (h : NumN 5 2 n E) : n = 0 ∧ E = 14 := by
 rcases h with ⟨h1,_⟩ | ⟨_,h1,h2⟩
 ·exact absurd h1 (by decide)
 ·exact ⟨h1,h2⟩
theorem fi_c0 : ChkN 2 3 fiB fiN fiG 1 2 0 := .inr (.inr (.inr ⟨qG,rfl,⟨by decide,by decide⟩,rfl⟩))
theorem fi_c3 : ChkN 2 3 fiB fiN fiG 1 3 13 := .inr (.inr (.inl ⟨qG,rfl,(fun h => absurd h.1 (by decide)),rfl⟩))
theorem fi_c1 : ChkN 2 3 fiB fiN fiG 1 0 13 := .inr (.inr (.inl ⟨qG,rfl,(fun h => absurd h.2 (by decide)),rfl⟩))
theorem fi_c6 : ChkN 2 3 fiB fiN fiG 1 6 13 := .inr (.inr (.inl ⟨qG,rfl,(fun h => absurd h.2 (by decide)),rfl⟩))
theorem no_c : ChkN 0 0 [] [] [] 0 0 12 := .inl ⟨fun h => absurd h.s1 (by decide),rfl⟩
theorem ac_c {X : Int} (h : ChkN 0 1 [true] [] [-1] 0 0 X) : X = 12 := by
 rcases h with ⟨_,h⟩ | ⟨_,_,h⟩ | ⟨_,h,_⟩ | ⟨_,h,_⟩
 ·exact h
 ·exact h
 ·cases h
 ·cases h
theorem goe_3 {X : Int} {rs : List (List Int)} (h : GoeN 2 3 fiB fiN fiG 1 2 3 X rs) : X = 2 := by
 rcases h with ⟨h1,h2,_⟩ | ⟨_,_,h,_⟩ | ⟨_,_,k,hk,hl,_⟩
 ·exact absurd (h2.uni fi_c0) h1
 ·exact h
 ·omega
theorem q1g (HB : Hid BrdC) (HO : Hid BrdO) (w : World) : Calls Try.prog 6 #[] w fun e w' => e = .returned (.bool true) ∧ Below w.heap.size w w' := by
 obtain ⟨Q,hQ⟩ : ∃ Q : Ending → World → Prop,Q = fun e w' => e = .returned (.bool true) ∧ Below w.heap.size w w' := ⟨_,rfl⟩
 have HQ : Hid (∀ w',Below w.heap.size w w' → Q (.returned (.bool true)) w') := fun w' h => by rw [hQ]; exact ⟨rfl,h⟩
 rw [← hQ]
 clear hQ
 have j : Calls Try.prog 13 #[.int .u8 5,.int .u8 4] w fun e w' => Below w.heap.size w w' ∧ e = .returned (.tuple #[.int .i64 2,.int .i64 0]) := (HB.out.number 5 4 w (by decide) (by decide)).mono fun e w' ⟨h1,n,E,h2,h3⟩ => ⟨h1,by obtain ⟨rfl,rfl⟩ := q3T h3.out; exact h2⟩
 go_enter Try.func6,Try.ntmps6
 go_wp2_with fail
 refine j.mono ?_
 rintro e w1 ⟨hb,rfl⟩
 have HB1 : Hid (Below w.heap.size w w1) := hb
 have j2 : Calls Try.prog 13 #[.int .u8 5,.int .u8 2] w1 fun e w' => Below w1.heap.size w1 w' ∧ e = .returned (.tuple #[.int .i64 0,.int .i64 14]) := (HB.out.number 5 2 w1 (by decide) (by decide)).mono fun e w' ⟨h1,n,E,h2,h3⟩ => ⟨h1,by obtain ⟨rfl,rfl⟩ := q3S h3.out; exact h2⟩
 clear j hb
 go_wp2_with fail
 refine j2.mono ?_
 rintro e w2 ⟨hb,rfl⟩
 have HB2 : Hid (Below w.heap.size w w2) := q5 HB1.out hb
 clear j2 hb HB1
 obtain ⟨w3,hw3⟩ : ∃ w3,w3 = (w2.alloc (.cells #[.string ⟨#[112]⟩,.string ⟨#[113]⟩] 9)).alloc (.cells #[.string ⟨#[113]⟩] 9) := ⟨_,rfl⟩
 have hb3 : Below w2.heap.size w2 w3 := by rw [hw3]; exact q5 (q6 w2 _) (q6 _ _)
 have hs2 : (w2.alloc (.cells #[.string ⟨#[112]⟩,.string ⟨#[113]⟩] 9)).heap.size = w2.heap.size + 1 := by simp
 have hS3 : StrSl Try.prog 30 w3 (some ⟨w2.heap.size,0,none⟩) 2 2 (fun k => ⟨w2.heap.size,k,none⟩) [⟨#[112]⟩,⟨#[113]⟩] := by
  have h := qp w2 [⟨#[112]⟩,⟨#[113]⟩] (by decide) (fun k => by match k with | 0 => decide | 1 => decide | k + 2 => exact (by decide : ByteArray.empty.size ≤ maxLen))
  rw [hw3]
  exact h.up (q6 _ _)
 have hT3 : StrSl Try.prog 30 w3 (some ⟨w2.heap.size + 1,0,none⟩) 1 1 (fun k => ⟨w2.heap.size + 1,k,none⟩) [⟨#[113]⟩] := by
  have h := qp (w2.alloc (.cells #[.string ⟨#[112]⟩,.string ⟨#[113]⟩] 9)) [⟨#[113]⟩] (by decide) (fun k => by match k with | 0 => decide | k + 1 => exact (by decide : ByteArray.empty.size ≤ maxLen))
  rw [hs2] at h
  rw [hw3]
  exact h
 have j : Calls Try.prog 15 #[.slice (some ⟨w2.heap.size,0,none⟩) 2 2,.slice (some ⟨w2.heap.size + 1,0,none⟩) 1 1] w3 fun e w' => Below w3.heap.size w3 w' ∧ e = .returned (.tuple #[.agg #[.int .u8 2,.int .u8 1],.int .i64 0]) := (HO.out _ 2 2 _ _ _ 1 1 _ _ w3 hS3 hT3).mono fun e w' ⟨h1,x,y,z,h2,h3⟩ => ⟨h1,by obtain ⟨rfl,rfl,rfl⟩ := h3.out.uni of_pq; exact h2⟩
 have HB3 : Hid (Below w.heap.size w w3) := q5 HB2.out hb3
 have HW3 : Hid _ := hw3
 have hb3x := hb3
 clear hw3 hb3 hs2 hS3 hT3
 go_wp2_with (rw [← HW3.out])
 refine j.mono ?_
 rintro e w4 ⟨hb,rfl⟩
 obtain ⟨w5,hw5⟩ : ∃ w5,w5 = w4.alloc (.cells #[.int .u8 2,.int .u8 1] 29 (0,0)) := ⟨_,rfl⟩
 have hb5 : Below w4.heap.size w4 w5 := by rw [hw5]; exact q6 _ _
 have HB5 : Hid (Below w.heap.size w w5) := q5 HB3.out (q5 hb hb5)
 obtain ⟨sb,hsb⟩ : ∃ sb,sb = w4.heap.size := ⟨_,rfl⟩
 have HSP5 : Hid (SpB w5 sb 2 1) := by show _ = _; rw [hw5,hsb]; exact (MapKept.heap_alloc w4 _).1
 have HW5 : Hid _ := hw5
 clear j hb hw5 hb5 HW3 HB3 HB2 hb3x
 obtain ⟨w6,hw6⟩ : ∃ w6,w6 = (w5.alloc (.cells #[.string ⟨#[112]⟩,.string ⟨#[113]⟩] 9)).alloc (.cells #[.string ⟨#[114]⟩] 9) := ⟨_,rfl⟩
 have hb6 : Below w5.heap.size w5 w6 := by rw [hw6]; exact q5 (q6 w5 _) (q6 _ _)
 have hs5 : (w5.alloc (.cells #[.string ⟨#[112]⟩,.string ⟨#[113]⟩] 9)).heap.size = w5.heap.size + 1 := by simp
 have hS6 : StrSl Try.prog 30 w6 (some ⟨w5.heap.size,0,none⟩) 2 2 (fun k => ⟨w5.heap.size,k,none⟩) [⟨#[112]⟩,⟨#[113]⟩] := by
  have h := qp w5 [⟨#[112]⟩,⟨#[113]⟩] (by decide) (fun k => by match k with | 0 => decide | 1 => decide | k + 2 => exact (by decide : ByteArray.empty.size ≤ maxLen))
  rw [hw6]
  exact h.up (q6 _ _)
 have hT6 : StrSl Try.prog 30 w6 (some ⟨w5.heap.size + 1,0,none⟩) 1 1 (fun k => ⟨w5.heap.size + 1,k,none⟩) [⟨#[114]⟩] := by
  have h := qp (w5.alloc (.cells #[.string ⟨#[112]⟩,.string ⟨#[113]⟩] 9)) [⟨#[114]⟩] (by decide) (fun k => by match k with | 0 => decide | k + 1 => exact (by decide : ByteArray.empty.size ≤ maxLen))
  rw [hs5] at h
  rw [hw6]
  exact h
 have j : Calls Try.prog 15 #[.slice (some ⟨w5.heap.size,0,none⟩) 2 2,.slice (some ⟨w5.heap.size + 1,0,none⟩) 1 1] w6 fun e w' => Below w6.heap.size w6 w' ∧ e = .returned (.tuple #[.agg #[.int .u8 0,.int .u8 0],.int .i64 6]) := (HO.out _ 2 2 _ _ _ 1 1 _ _ w6 hS6 hT6).mono fun e w' ⟨h1,x,y,z,h2,h3⟩ => ⟨h1,by obtain ⟨rfl,rfl,rfl⟩ := h3.out.uni of_pr; exact h2⟩
 have HB6 : Hid (Below w.heap.size w w6) := q5 HB5.out hb6
 have HW6 : Hid _ := hw6
 have hb6x := hb6
 clear hw6 hb6 hs5 hS6 hT6
 go_wp2_with (first | rw [← HW6.out] | rw [← HW5.out])
 clear HW5
 refine j.mono ?_
 rintro e w7 ⟨hb,rfl⟩
 obtain ⟨w8,hw8⟩ : ∃ w8,w8 = w7.alloc (.cells #[.int .u8 0,.int .u8 0] 29 (0,0)) := ⟨_,rfl⟩
 have hb8 : Below w7.heap.size w7 w8 := by rw [hw8]; exact q6 _ _
 have HB8 : Hid (Below w.heap.size w w8) := q5 HB6.out (q5 hb hb8)
 have HSP8 : Hid (SpB w8 sb 2 1) := HSP5.out.up (q5 hb6x (q5 hb hb8))
 have HW8 : Hid _ := hw8
 clear j hb hw8 hb8 HW6 HB6 HB5 hb6x
 clear HSP5
 have j := qc w8
 go_wp2_with fail
 rw [← HW8.out]
 clear HW8
 refine j.mono ?_
 rintro e w9 ⟨a1,c1,a2,c2,a3,c3,rfl,hA,hb⟩
 have HB9 : Hid (Below w.heap.size w w9) := q5 HB8.out hb.out
 have HSP9 : Hid (SpB w9 sb 2 1) := HSP8.out.up hb.out
 clear HB8 HSP8
 clear j hb
 have j2 : Calls Try.prog 17 #[.agg #[.int .i64 2,.slice a1 3 c1,.slice a2 3 c2,.slice a3 1 c3],.agg #[.int .u8 1,.int .u8 2]] w9 fun e w' => Below w9.heap.size w9 w' ∧ e = .returned (.int .i64 0) := (HB.out.check 2 a1 3 c1 a2 3 c2 a3 1 c3 fiB fiN fiG 1 2 w9 hA.out.bo hA.out.nd hA.out.zs qF (by decide) (by decide)).mono fun e w' ⟨h1,x,h2,h3⟩ => ⟨h1,by obtain rfl := h3.out.uni fi_c0; exact h2⟩
 clear hA
 go_wp2_with fail
 refine j2.mono ?_
 rintro e w10 ⟨hb,rfl⟩
 have HB10 : Hid (Below w.heap.size w w10) := q5 HB9.out hb
 have HSP10 : Hid (SpB w10 sb 2 1) := HSP9.out.up hb
 clear HB9 HSP9
 clear j2 hb
 have j := qc w10
 go_wp2_with fail
 refine j.mono ?_
 rintro e w11 ⟨a1,c1,a2,c2,a3,c3,rfl,hA,hb⟩
 have HB11 : Hid (Below w.heap.size w w11) := q5 HB10.out hb.out
 have HSP11 : Hid (SpB w11 sb 2 1) := HSP10.out.up hb.out
 clear HB10 HSP10
 clear j hb
 have j2 : Calls Try.prog 17 #[.agg #[.int .i64 2,.slice a1 3 c1,.slice a2 3 c2,.slice a3 1 c3],.agg #[.int .u8 1,.int .u8 3]] w11 fun e w' => Below w11.heap.size w11 w' ∧ e = .returned (.int .i64 13) := (HB.out.check 2 a1 3 c1 a2 3 c2 a3 1 c3 fiB fiN fiG 1 3 w11 hA.out.bo hA.out.nd hA.out.zs qF (by decide) (by decide)).mono fun e w' ⟨h1,x,h2,h3⟩ => ⟨h1,by obtain rfl := h3.out.uni fi_c3; exact h2⟩
 clear hA
 go_wp2_with fail
 refine j2.mono ?_
 rintro e w12 ⟨hb,rfl⟩
 have HB12 : Hid (Below w.heap.size w w12) := q5 HB11.out hb
 have HSP12 : Hid (SpB w12 sb 2 1) := HSP11.out.up hb
 clear HB11 HSP11
 clear j2 hb
 have j := qc w12
 go_wp2_with fail
 refine j.mono ?_
 rintro e w13 ⟨a1,c1,a2,c2,a3,c3,rfl,hA,hb⟩
 have HB13 : Hid (Below w.heap.size w w13) := q5 HB12.out hb.out
 have HSP13 : Hid (SpB w13 sb 2 1) := HSP12.out.up hb.out
 clear HB12 HSP12
 clear j hb
 have j2 : Calls Try.prog 17 #[.agg #[.int .i64 2,.slice a1 3 c1,.slice a2 3 c2,.slice a3 1 c3],.agg #[.int .u8 1,.int .u8 0]] w13 fun e w' => Below w13.heap.size w13 w' ∧ e = .returned (.int .i64 13) := (HB.out.check 2 a1 3 c1 a2 3 c2 a3 1 c3 fiB fiN fiG 1 0 w13 hA.out.bo hA.out.nd hA.out.zs qF (by decide) (by decide)).mono fun e w' ⟨h1,x,h2,h3⟩ => ⟨h1,by obtain rfl := h3.out.uni fi_c1; exact h2⟩
 clear hA
 go_wp2_with fail
 refine j2.mono ?_
 rintro e w14 ⟨hb,rfl⟩
 have HB14 : Hid (Below w.heap.size w w14) := q5 HB13.out hb
 have HSP14 : Hid (SpB w14 sb 2 1) := HSP13.out.up hb
 clear HB13 HSP13
 clear j2 hb
 have j := qc w14
 go_wp2_with fail
 refine j.mono ?_
 rintro e w15 ⟨a1,c1,a2,c2,a3,c3,rfl,hA,hb⟩
 have HB15 : Hid (Below w.heap.size w w15) := q5 HB14.out hb.out
 have HSP15 : Hid (SpB w15 sb 2 1) := HSP14.out.up hb.out
 clear HB14 HSP14
 clear j hb
 have j2 : Calls Try.prog 17 #[.agg #[.int .i64 2,.slice a1 3 c1,.slice a2 3 c2,.slice a3 1 c3],.agg #[.int .u8 1,.int .u8 6]] w15 fun e w' => Below w15.heap.size w15 w' ∧ e = .returned (.int .i64 13) := (HB.out.check 2 a1 3 c1 a2 3 c2 a3 1 c3 fiB fiN fiG 1 6 w15 hA.out.bo hA.out.nd hA.out.zs qF (by decide) (by decide)).mono fun e w' ⟨h1,x,h2,h3⟩ => ⟨h1,by obtain rfl := h3.out.uni fi_c6; exact h2⟩
 clear hA
 go_wp2_with fail
 refine j2.mono ?_
 rintro e w16 ⟨hb,rfl⟩
 have HB16 : Hid (Below w.heap.size w w16) := q5 HB15.out hb
 have HSP16 : Hid (SpB w16 sb 2 1) := HSP15.out.up hb
 clear HB15 HSP15
 clear j2 hb
 have j2 : Calls Try.prog 17 #[.agg #[.int .i64 0,.slice none 0 0,.slice none 0 0,.slice none 0 0],.agg #[.int .u8 0,.int .u8 0]] w16 fun e w' => Below w16.heap.size w16 w' ∧ e = .returned (.int .i64 12) := (HB.out.check 0 none 0 0 none 0 0 none 0 0 [] [] [] 0 0 w16 BoSl.nil NdSl.nil ⟨rfl,Nat.le_refl _,Nat.zero_le _,fun m k w hk hm => absurd hk (by omega),fun k hk => absurd hk (by omega),fun k hk => absurd hk (by omega),fun _ => rfl⟩ (fun z hz => by cases hz) (by decide) (by decide)).mono fun e w' ⟨h1,x,h2,h3⟩ => ⟨h1,by obtain rfl := h3.out.uni no_c; exact h2⟩
 go_wp2_with fail
 refine j2.mono ?_
 rintro e w17 ⟨hb,rfl⟩
 have HB17 : Hid (Below w.heap.size w w17) := q5 HB16.out hb
 have HSP17 : Hid (SpB w17 sb 2 1) := HSP16.out.up hb
 clear HB16 HSP16
 clear j2 hb
 obtain ⟨w18,hw18⟩ : ∃ w18,w18 = (w17.alloc (.cells #[.bool true] 4)).alloc (.cells #[.int .i64 (-1)] 3) := ⟨_,rfl⟩
 have hb : Below w17.heap.size w17 w18 := by rw [hw18]; exact q5 (q6 w17 _) (q6 _ _)
 have hs : (w17.alloc (.cells #[.bool true] 4)).heap.size = w17.heap.size + 1 := by simp
 have h1 : BoSl w18 (some ⟨w17.heap.size,0,none⟩) 1 1 [true] := by rw [hw18]; exact (blitP w17 [true] (by decide)).up (q6 _ _)
 have h2 : ZSl w18 (some ⟨w17.heap.size + 1,0,none⟩) 1 1 [-1] := by
  have h := zlitP (w17.alloc (.cells #[.bool true] 4)) [-1] (by decide)
  rw [hs] at h
  rw [hw18]
  exact h
 have j2 : Calls Try.prog 17 #[.agg #[.int .i64 0,.slice (some ⟨w17.heap.size,0,none⟩) 1 1,.slice (some ⟨w17.heap.size + 1,0,none⟩) 1 1,.slice none 0 0],.agg #[.int .u8 0,.int .u8 0]] w18 fun e w' => Below w18.heap.size w18 w' ∧ e = .returned (.int .i64 12) := (HB.out.check 0 _ 1 1 _ 1 1 none 0 0 [true] [] [-1] 0 0 w18 h1 NdSl.nil h2 (fun z hz => by simp at hz; subst hz; exact ⟨by decide,by decide⟩) (by decide) (by decide)).mono fun e w' ⟨h1,x,h2,h3⟩ => ⟨h1,by obtain rfl := ac_c h3.out; exact h2⟩
 have HW18 : Hid _ := hw18
 have HB18 : Hid (Below w.heap.size w w18) := q5 HB17.out hb
 have HSP18 : Hid (SpB w18 sb 2 1) := HSP17.out.up hb
 clear HB17 HSP17
 clear hw18 hb hs h1 h2
 go_wp2_with (rw [← HW18.out])
 clear HW18
 refine j2.mono ?_
 rintro e w19 ⟨hb,rfl⟩
 have HB19 : Hid (Below w.heap.size w w19) := q5 HB18.out hb
 have HSP19 : Hid (SpB w19 sb 2 1) := HSP18.out.up hb
 clear HB18 HSP18
 clear j2 hb
 have j := qc w19
 go_wp2_with fail
 refine j.mono ?_
 rintro e w20 ⟨a1,c1,a2,c2,a3,c3,rfl,hA,hb⟩
 have HB20 : Hid (Below w.heap.size w w20) := q5 HB19.out hb.out
 have HSP20 : Hid (SpB w20 sb 2 1) := HSP19.out.up hb.out
 clear HB19 HSP19
 clear j hb
 have j2 : Calls Try.prog 10 #[.agg #[.int .i64 2,.slice a1 3 c1,.slice a2 3 c2,.slice a3 1 c3],.agg #[.int .u8 1,.int .u8 2],.int .i64 3] w20 fun e w' => Below w20.heap.size w20 w' ∧ ∃ (a : Option Addr) (n c : Nat),e = .returned (.tuple #[.slice a n c,.int .i64 2]) := (HB.out.goes 2 a1 3 c1 a2 3 c2 a3 1 c3 fiB fiN fiG 1 2 3 w20 hA.out.bo hA.out.nd hA.out.zs qF (by decide) (by decide)).mono fun e w' ⟨h1,a,n,c,X,rs,h2,h3,_⟩ => ⟨h1,a,n,c,by obtain rfl := goe_3 h3.out; exact h2⟩
 clear hA
 go_wp2_with fail
 refine j2.mono ?_
 rintro e w21 ⟨hb,ga,gn,gc,rfl⟩
 have HB21 : Hid (Below w.heap.size w w21) := q5 HB20.out hb
 have HSP21 : Hid (SpB w21 sb 2 1) := HSP20.out.up hb
 clear HB20 HSP20
 clear j2 hb
 have j2 := qn HB w21
 go_wp2_with fail
 refine j2.mono ?_
 rintro e w22 ⟨rfl,hb⟩
 have HB22 : Hid (Below w.heap.size w w22) := q5 HB21.out hb
 have HSP22 : Hid (SpB w22 sb 2 1) := HSP21.out.up hb
 clear HB21 HSP21
 clear j2 hb
 have j2 : Calls Try.prog 12 #[.int .u8 0] w22 fun e w' => Below w22.heap.size w22 w' ∧ ∃ a c,e = .returned (.slice a 1 c) ∧ LtC w' a 1 c [0] := by
  have := HB.out.moves 0 w22 (by decide)
  rw [q3O] at this
  exact this
 have p0 : w22.cell? ⟨w4.heap.size,0,none⟩ = some (.int .u8 2) := by have h := q7 HSP22.out 0; rw [hsb] at h; exact h
 have p1 : w22.cell? ⟨w4.heap.size,1,none⟩ = some (.int .u8 1) := by have h := q7 HSP22.out 1; rw [hsb] at h; exact h
 clear hsb
 go_wp2_with fail
 refine j2.mono ?_
 rintro e w23 ⟨hb,la,lc,rfl,hl⟩
 have hl8 := q1w w23 [0] (by decide)
 obtain ⟨wz,hwz⟩ : ∃ wz,wz = w23.alloc (.cells #[.int .u8 0] 27) := ⟨_,rfl⟩
 have hbz : Below w23.heap.size w23 wz := by rw [hwz]; exact q6 _ _
 have hl9 : LtC wz (some ⟨w23.heap.size,0,none⟩) 1 1 [0] := by rw [hwz]; exact hl8
 have j5 := qE la 1 lc _ (some ⟨w23.heap.size,0,none⟩) 1 1 _ wz (IntSl.up hl hbz) hl9
 rw [decide_eq_true rfl] at j5
 have HBz : Hid (Below w.heap.size w wz) := q5 HB22.out (q5 hb hbz)
 clear j2 hb hl hl8 hbz hl9 HB22 HSP22 p0 p1
 go_wp2_with fail
 rw [← hwz]
 refine j5.mono ?_
 rintro e wy ⟨rfl,q,rfl⟩
 have HE : Hid _ := HQ.out _ (q5 HBz.out (below_drewN (Below.refl _ _) q))
 clear j5 HBz HQ hwz
 go_wp2
 exact HE.out
end Go.Proofs.Ytohbphocfkgdcaa
