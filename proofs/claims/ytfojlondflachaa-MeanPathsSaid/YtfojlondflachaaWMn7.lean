/- Stage 7's law MeanPaths over the contracts of package mean (handed in). -/
import Derived.Test.YtfojlondflachaaWMn6
import Derived.Test.YtfojlondflachaaWMn4
namespace Go.Proofs.Ytfojlondflachaa
open Go.RowKit Go.Maps

set_option maxRecDepth 100000 in
set_option maxHeartbeats 8000000 in
theorem Try.mpaths_any (hAll : AllC 11) (hEnds : EndsC 18) (hAt : AtC 14) (hAw : ∀ w, Calls Try.prog 24 #[] w fun e w' => e = .returned (.bool true) ∧ Below w.heap.size w w')
    (a : Option Addr) (la ca : Nat) (xa : List Tk) (b : Option Addr) (lb cb : Nat) (xb : List Tk) (f : Option Addr) (lf cf : Nat) (xf : List Tk) (d : Option Addr) (m c : Nat) (zs : List Int) (i0 : Int) (w : World) (hA : TkSl w a la ca xa) (hB : TkSl w b lb cb xb) (hF : TkSl w f lf cf xf) (hL : LtSl w d m c zs) :
    Calls Try.prog 5 #[.slice a la ca, .slice b lb cb, .slice f lf cf, .slice d m c, .int .i64 i0] w fun e w' => e = .returned (.bool true) ∧ Below w.heap.size w w' := by
  have h0 := hAw w
  have hs1 := fun w' (hw : Below w.heap.size w w') => Try.mpath_any a la ca xa w' (hA.up hw)
  have hs2 := fun w' (hw : Below w.heap.size w w') => Try.mpath_any b lb cb xb w' (hB.up hw)
  have hs3 := fun w' (hw : Below w.heap.size w w') => Try.msmall_any f lf cf xf d m c zs w' (hF.up hw) (hL.up hw)
  have hlen := hL.sl.hlen
  have HE0 : Hid (EnvOk w [(a, la, ca, xa), (b, lb, cb, xb), (f, lf, cf, xf)]) := fun e he => by
    simp only [List.mem_cons, List.not_mem_nil, or_false] at he
    rcases he with rfl | rfl | rfl
    · exact hA
    · exact hB
    · exact hF
  have HL0 : Hid (LtSl w d m c zs) := hL
  have HAll : Hid (AllC 11) := hAll
  have HEn : Hid (EndsC 18) := hEnds
  have HAt : Hid (AtC 14) := hAt
  clear hA hB hF hL hAll hAw hEnds hAt
  by_cases c1 : la ≤ 25 ∧ lookE xa 3 = 0
  · by_cases c2 : lb ≤ 25 ∧ lookE xb 3 = 0
    · by_cases c3 : lf ≤ 30 ∧ m ≤ 16 ∧ lookE xf 1 = 0
      · obtain ⟨Ta, hTa, hea, -, ha⟩ := Mn.of (zN zs) c1.2
        obtain ⟨Tb, -, -, -, hb⟩ := Mn.of (zN zs) c2.2
        obtain ⟨Tf, -, -, -, hf⟩ := Mn.of (zN zs) c3.2.2
        have MA : Hid (Mn (zN zs) xa (semTr (zN zs) Ta)) := ha
        have MB : Hid (Mn (zN zs) xb (semTr (zN zs) Tb)) := hb
        have MF : Hid (Mn (zN zs) xf (semTr (zN zs) Tf)) := hf
        have HWI : Hid (∀ i k, i ≤ (zN zs).length → (semTr (zN zs) Ta).2 i k → i ≤ k ∧ k ≤ (zN zs).length) := ways_in (zN zs) Ta hTa
        have HK3 : Hid (lookE xa 3 = 0) := c1.2
        have HK1 : Hid (lookE xf 1 = 0) := c3.2.2
        have hm : m ≤ 16 := c3.2.1
        clear hTa hea
        generalize semTr (zN zs) Ta = va at *
        generalize semTr (zN zs) Tb = vb at *
        generalize semTr (zN zs) Tf = vf at *
        rw [decide_eq_true c1] at hs1
        rw [decide_eq_true c2] at hs2
        rw [decide_eq_true c3] at hs3
        have hun : ∀ (op : Nat) (z : Int), z = (op : Int) → ∀ a len cap ts w', TkSl w' a len cap ts → op < 256 → Calls Try.prog 28 #[.int .u8 z, .slice a len cap] w' (BuiltR (unB op ts) w') := fun op z hz a len cap ts w' h ho => by rw [hz]; exact Try.mun_any op a len cap ts w' h ho
        have hbin : ∀ (op : Nat) (z : Int), z = (op : Int) → ∀ a b len cap len' cap' us bs w', TkSl w' a len cap us → TkSl w' b len' cap' bs → op < 256 → Calls Try.prog 29 #[.int .u8 z, .slice a len cap, .slice b len' cap'] w' (BuiltR (binB op us bs) w') := fun op z hz a b len cap len' cap' us bs w' h k ho => by rw [hz]; exact Try.mbin_any op a b len cap len' cap' us bs w' h k ho
        have hop : ∀ (op : Nat) (z y : Int), z = (op : Int) → y = 100 + (op : Int) → op < 256 → ∀ w', Calls Try.prog 27 #[.int .u8 z] w' fun e w'' => e = .returned (.int .i64 y) ∧ w'' = w' := fun op z y hz hy ho w' => by rw [hz, hy]; exact Try.mop_any op w' ho
        have ht : ∀ (op : Nat) (z : Int), tokOf z = (op, 0) → (0 ≤ z ∧ z < 356) → ∀ w', Calls Try.prog 26 #[.slice (some ⟨w'.heap.size, 0, none⟩) 1 1] (w'.alloc (.cells #[.int .i64 z] 3)) (BuiltR [(op, 0)] w') := fun op z h1 h2 w' => Try.mt_lit [z] [(op, 0)] w' (by simp [h1]) (by simpa using h2) (by simp)
        have ht2 : ∀ w' : World, Calls Try.prog 26 #[.slice (some ⟨w'.heap.size, 0, none⟩) 1 1] (w'.alloc (.cells #[.int .i64 0] 3)) (BuiltR [(2, 0)] w') := fun w' => Try.mt_lit [0] [(2, 0)] w' rfl (by decide) (by decide)
        clear c1 c2 c3 ha hb hf
        go_enter Try.func5, Try.ntmps5
        go_wp2_with fail
        refine h0.mono ?_
        rintro e w1 ⟨rfl, hb1⟩
        have HB1 : Hid (Below w.heap.size w w1) := hb1
        have j1 := hs1 w1 hb1
        clear h0 hs1 hb1
        go_wp2_with fail
        refine j1.mono ?_
        rintro e w2 ⟨rfl, hb2⟩
        have HB2 : Hid (Below w.heap.size w w2) := below_step HB1.out hb2
        have j2 := hs2 w2 HB2.out
        clear j1 hs2 hb2 HB1
        go_wp2_with fail
        refine j2.mono ?_
        rintro e w3 ⟨rfl, hb3⟩
        have HB3 : Hid (Below w.heap.size w w3) := below_step HB2.out hb3
        have j3 := hs3 w3 HB3.out
        clear j2 hs3 hb3 HB2
        go_wp2_with fail
        refine j3.mono ?_
        rintro e w4 ⟨rfl, hb4⟩
        have HB4 : Hid (Below w.heap.size w w4) := below_step HB3.out hb4
        have HE4 : Hid (EnvOk w4 [(a, la, ca, xa), (b, lb, cb, xb), (f, lf, cf, xf)]) := HE0.out.up HB4.out
        have HL4 : Hid (LtSl w4 d m c zs) := HL0.out.up HB4.out
        clear j3 hb4 HB3 HE0 HL0
        have j5 := hbin 17 17 rfl a f la ca lf cf (xa) (xf) w4 (HE4.out (a, la, ca, xa) List.mem_cons_self) (HE4.out (f, lf, cf, xf) (List.mem_cons_of_mem _ (List.mem_cons_of_mem _ List.mem_cons_self))) (by decide)
        have M5 : Hid (Mn (zN zs) (binB 17 (xa) (xf)) (semT (zN zs) 17 0 [va, vf])) := (Mn.bin MA.out MF.out (op := 17) rfl)
        generalize binB 17 (xa) (xf) = y5 at j5 M5
        go_wp2_with fail
        with_reducible refine j5.mono ?_
        rintro e w5 ⟨a5, c5, rfl, hT5, hb5⟩
        have HB5 : Hid (Below w.heap.size w w5) := below_step HB4.out hb5
        have HE5 : Hid (EnvOk w5 [(a5, (y5).length, c5, y5), (a, la, ca, xa), (b, lb, cb, xb), (f, lf, cf, xf)]) := HE4.out.cons hb5 hT5
        have HL5 : Hid (LtSl w5 d m c zs) := HL4.out.up hb5
        clear j5 hT5 hb5 HB4 HE4 HL4
        have j6 := hun 23 23 rfl a la ca (xa) w5 (HE5.out (a, la, ca, xa) (List.mem_cons_of_mem _ List.mem_cons_self)) (by decide)
        have M6 : Hid (Mn (zN zs) (unB 23 (xa)) (semT (zN zs) 23 0 [va])) := (Mn.un MA.out (op := 23) rfl)
        generalize unB 23 (xa) = y6 at j6 M6
        go_wp2_with fail
        with_reducible refine j6.mono ?_
        rintro e w6 ⟨a6, c6, rfl, hT6, hb6⟩
        have HB6 : Hid (Below w.heap.size w w6) := below_step HB5.out hb6
        have HE6 : Hid (EnvOk w6 [(a6, (y6).length, c6, y6), (a5, (y5).length, c5, y5), (a, la, ca, xa), (b, lb, cb, xb), (f, lf, cf, xf)]) := HE5.out.cons hb6 hT6
        have HL6 : Hid (LtSl w6 d m c zs) := HL5.out.up hb6
        clear j6 hT6 hb6 HB5 HE5 HL5
        have j7 := hbin 18 18 rfl a f la ca lf cf (xa) (xf) w6 (HE6.out (a, la, ca, xa) (List.mem_cons_of_mem _ (List.mem_cons_of_mem _ List.mem_cons_self))) (HE6.out (f, lf, cf, xf) (List.mem_cons_of_mem _ (List.mem_cons_of_mem _ (List.mem_cons_of_mem _ (List.mem_cons_of_mem _ List.mem_cons_self))))) (by decide)
        have M7 : Hid (Mn (zN zs) (binB 18 (xa) (xf)) (semT (zN zs) 18 0 [va, vf])) := (Mn.bin MA.out MF.out (op := 18) rfl)
        generalize binB 18 (xa) (xf) = y7 at j7 M7
        go_wp2_with fail
        with_reducible refine j7.mono ?_
        rintro e w7 ⟨a7, c7, rfl, hT7, hb7⟩
        have HB7 : Hid (Below w.heap.size w w7) := below_step HB6.out hb7
        have HE7 : Hid (EnvOk w7 [(a7, (y7).length, c7, y7), (a6, (y6).length, c6, y6), (a5, (y5).length, c5, y5), (a, la, ca, xa), (b, lb, cb, xb), (f, lf, cf, xf)]) := HE6.out.cons hb7 hT7
        have HL7 : Hid (LtSl w7 d m c zs) := HL6.out.up hb7
        clear j7 hT7 hb7 HB6 HE6 HL6
        have j8 := hun 6 6 rfl f lf cf (xf) w7 (HE7.out (f, lf, cf, xf) (List.mem_cons_of_mem _ (List.mem_cons_of_mem _ (List.mem_cons_of_mem _ (List.mem_cons_of_mem _ (List.mem_cons_of_mem _ List.mem_cons_self)))))) (by decide)
        have M8 : Hid (Mn (zN zs) (unB 6 (xf)) (semT (zN zs) 6 0 [vf])) := (Mn.un MF.out (op := 6) rfl)
        generalize unB 6 (xf) = y8 at j8 M8
        go_wp2_with fail
        with_reducible refine j8.mono ?_
        rintro e w8 ⟨a8, c8, rfl, hT8, hb8⟩
        have HB8 : Hid (Below w.heap.size w w8) := below_step HB7.out hb8
        have HE8 : Hid (EnvOk w8 [(a8, (y8).length, c8, y8), (a7, (y7).length, c7, y7), (a6, (y6).length, c6, y6), (a5, (y5).length, c5, y5), (a, la, ca, xa), (b, lb, cb, xb), (f, lf, cf, xf)]) := HE7.out.cons hb8 hT8
        have HL8 : Hid (LtSl w8 d m c zs) := HL7.out.up hb8
        clear j8 hT8 hb8 HB7 HE7 HL7
        have j9 := hbin 17 17 rfl a a8 la ca (y8).length c8 (xa) (y8) w8 (HE8.out (a, la, ca, xa) (List.mem_cons_of_mem _ (List.mem_cons_of_mem _ (List.mem_cons_of_mem _ (List.mem_cons_of_mem _ List.mem_cons_self))))) (HE8.out (a8, (y8).length, c8, y8) List.mem_cons_self) (by decide)
        have M9 : Hid (Mn (zN zs) (binB 17 (xa) (y8)) (semT (zN zs) 17 0 [va, (semT (zN zs) 6 0 [vf])])) := (Mn.bin MA.out M8.out (op := 17) rfl)
        generalize binB 17 (xa) (y8) = y9 at j9 M9
        go_wp2_with fail
        with_reducible refine j9.mono ?_
        rintro e w9 ⟨a9, c9, rfl, hT9, hb9⟩
        have HB9 : Hid (Below w.heap.size w w9) := below_step HB8.out hb9
        have HE9 : Hid (EnvOk w9 [(a9, (y9).length, c9, y9), (a8, (y8).length, c8, y8), (a7, (y7).length, c7, y7), (a6, (y6).length, c6, y6), (a5, (y5).length, c5, y5), (a, la, ca, xa), (b, lb, cb, xb), (f, lf, cf, xf)]) := HE8.out.cons hb9 hT9
        have HL9 : Hid (LtSl w9 d m c zs) := HL8.out.up hb9
        clear j9 hT9 hb9 HB8 HE8 HL8
        have j10 := hun 6 6 rfl a9 (y9).length c9 (y9) w9 (HE9.out (a9, (y9).length, c9, y9) List.mem_cons_self) (by decide)
        have M10 : Hid (Mn (zN zs) (unB 6 (y9)) (semT (zN zs) 6 0 [(semT (zN zs) 17 0 [va, (semT (zN zs) 6 0 [vf])])])) := (Mn.un M9.out (op := 6) rfl)
        generalize unB 6 (y9) = y10 at j10 M10
        go_wp2_with fail
        with_reducible refine j10.mono ?_
        rintro e w10 ⟨a10, c10, rfl, hT10, hb10⟩
        have HB10 : Hid (Below w.heap.size w w10) := below_step HB9.out hb10
        have HE10 : Hid (EnvOk w10 [(a10, (y10).length, c10, y10), (a9, (y9).length, c9, y9), (a8, (y8).length, c8, y8), (a7, (y7).length, c7, y7), (a6, (y6).length, c6, y6), (a5, (y5).length, c5, y5), (a, la, ca, xa), (b, lb, cb, xb), (f, lf, cf, xf)]) := HE9.out.cons hb10 hT10
        have HL10 : Hid (LtSl w10 d m c zs) := HL9.out.up hb10
        clear j10 hT10 hb10 HB9 HE9 HL9
        have j11 := Try.malike_any HAll.out a7 a10 (y7).length c7 (y10).length c10 (y7) (y10) d m c zs w10 (HE10.out (a7, (y7).length, c7, y7) (List.mem_cons_of_mem _ (List.mem_cons_of_mem _ (List.mem_cons_of_mem _ List.mem_cons_self)))) (HE10.out (a10, (y10).length, c10, y10) List.mem_cons_self) HL10.out (semT (zN zs) 18 0 [va, vf]) (semT (zN zs) 6 0 [(semT (zN zs) 17 0 [va, (semT (zN zs) 6 0 [vf])])]) M7.out M10.out (fun i hi => path_box _ _ _ i)
        go_wp2_with fail
        with_reducible refine j11.mono ?_
        rintro e w11 ⟨rfl, hb11⟩
        have HB11 : Hid (Below w.heap.size w w11) := below_step HB10.out hb11
        have HE11 : Hid (EnvOk w11 [(a10, (y10).length, c10, y10), (a9, (y9).length, c9, y9), (a8, (y8).length, c8, y8), (a7, (y7).length, c7, y7), (a6, (y6).length, c6, y6), (a5, (y5).length, c5, y5), (a, la, ca, xa), (b, lb, cb, xb), (f, lf, cf, xf)]) := HE10.out.up hb11
        have HL11 : Hid (LtSl w11 d m c zs) := HL10.out.up hb11
        clear j11 hb11 HB10 HE10 HL10
        have HF11 : Hid (EnvOk w11 [(a6, (y6).length, c6, y6), (a5, (y5).length, c5, y5), (a, la, ca, xa), (b, lb, cb, xb), (f, lf, cf, xf)]) := fun e he => HE11.out e (List.mem_cons_of_mem _ (List.mem_cons_of_mem _ (List.mem_cons_of_mem _ (List.mem_cons_of_mem _ he))))
        clear HE11
        have HE11 := HF11
        clear HF11
        have j12 := hbin 21 21 rfl a b la ca lb cb (xa) (xb) w11 (HE11.out (a, la, ca, xa) (List.mem_cons_of_mem _ (List.mem_cons_of_mem _ List.mem_cons_self))) (HE11.out (b, lb, cb, xb) (List.mem_cons_of_mem _ (List.mem_cons_of_mem _ (List.mem_cons_of_mem _ List.mem_cons_self)))) (by decide)
        have M12 : Hid (Mn (zN zs) (binB 21 (xa) (xb)) (semT (zN zs) 21 0 [va, vb])) := (Mn.bin MA.out MB.out (op := 21) rfl)
        generalize binB 21 (xa) (xb) = y12 at j12 M12
        go_wp2_with fail
        with_reducible refine j12.mono ?_
        rintro e w12 ⟨a12, c12, rfl, hT12, hb12⟩
        have HB12 : Hid (Below w.heap.size w w12) := below_step HB11.out hb12
        have HE12 : Hid (EnvOk w12 [(a12, (y12).length, c12, y12), (a6, (y6).length, c6, y6), (a5, (y5).length, c5, y5), (a, la, ca, xa), (b, lb, cb, xb), (f, lf, cf, xf)]) := HE11.out.cons hb12 hT12
        have HL12 : Hid (LtSl w12 d m c zs) := HL11.out.up hb12
        clear j12 hT12 hb12 HB11 HE11 HL11
        have j13 := hbin 17 17 rfl a12 f (y12).length c12 lf cf (y12) (xf) w12 (HE12.out (a12, (y12).length, c12, y12) List.mem_cons_self) (HE12.out (f, lf, cf, xf) (List.mem_cons_of_mem _ (List.mem_cons_of_mem _ (List.mem_cons_of_mem _ (List.mem_cons_of_mem _ (List.mem_cons_of_mem _ List.mem_cons_self)))))) (by decide)
        have M13 : Hid (Mn (zN zs) (binB 17 (y12) (xf)) (semT (zN zs) 17 0 [(semT (zN zs) 21 0 [va, vb]), vf])) := (Mn.bin M12.out MF.out (op := 17) rfl)
        generalize binB 17 (y12) (xf) = y13 at j13 M13
        go_wp2_with fail
        with_reducible refine j13.mono ?_
        rintro e w13 ⟨a13, c13, rfl, hT13, hb13⟩
        have HB13 : Hid (Below w.heap.size w w13) := below_step HB12.out hb13
        have HE13 : Hid (EnvOk w13 [(a13, (y13).length, c13, y13), (a12, (y12).length, c12, y12), (a6, (y6).length, c6, y6), (a5, (y5).length, c5, y5), (a, la, ca, xa), (b, lb, cb, xb), (f, lf, cf, xf)]) := HE12.out.cons hb13 hT13
        have HL13 : Hid (LtSl w13 d m c zs) := HL12.out.up hb13
        clear j13 hT13 hb13 HB12 HE12 HL12
        have j14 := hbin 17 17 rfl b f lb cb lf cf (xb) (xf) w13 (HE13.out (b, lb, cb, xb) (List.mem_cons_of_mem _ (List.mem_cons_of_mem _ (List.mem_cons_of_mem _ (List.mem_cons_of_mem _ (List.mem_cons_of_mem _ List.mem_cons_self)))))) (HE13.out (f, lf, cf, xf) (List.mem_cons_of_mem _ (List.mem_cons_of_mem _ (List.mem_cons_of_mem _ (List.mem_cons_of_mem _ (List.mem_cons_of_mem _ (List.mem_cons_of_mem _ List.mem_cons_self))))))) (by decide)
        have M14 : Hid (Mn (zN zs) (binB 17 (xb) (xf)) (semT (zN zs) 17 0 [vb, vf])) := (Mn.bin MB.out MF.out (op := 17) rfl)
        generalize binB 17 (xb) (xf) = y14 at j14 M14
        go_wp2_with fail
        with_reducible refine j14.mono ?_
        rintro e w14 ⟨a14, c14, rfl, hT14, hb14⟩
        have HB14 : Hid (Below w.heap.size w w14) := below_step HB13.out hb14
        have HE14 : Hid (EnvOk w14 [(a14, (y14).length, c14, y14), (a13, (y13).length, c13, y13), (a12, (y12).length, c12, y12), (a6, (y6).length, c6, y6), (a5, (y5).length, c5, y5), (a, la, ca, xa), (b, lb, cb, xb), (f, lf, cf, xf)]) := HE13.out.cons hb14 hT14
        have HL14 : Hid (LtSl w14 d m c zs) := HL13.out.up hb14
        clear j14 hT14 hb14 HB13 HE13 HL13
        have j15 := hbin 12 12 rfl a5 a14 (y5).length c5 (y14).length c14 (y5) (y14) w14 (HE14.out (a5, (y5).length, c5, y5) (List.mem_cons_of_mem _ (List.mem_cons_of_mem _ (List.mem_cons_of_mem _ (List.mem_cons_of_mem _ List.mem_cons_self))))) (HE14.out (a14, (y14).length, c14, y14) List.mem_cons_self) (by decide)
        have M15 : Hid (Mn (zN zs) (binB 12 (y5) (y14)) (semT (zN zs) 12 0 [(semT (zN zs) 17 0 [va, vf]), (semT (zN zs) 17 0 [vb, vf])])) := (Mn.bin M5.out M14.out (op := 12) rfl)
        generalize binB 12 (y5) (y14) = y15 at j15 M15
        go_wp2_with fail
        with_reducible refine j15.mono ?_
        rintro e w15 ⟨a15, c15, rfl, hT15, hb15⟩
        have HB15 : Hid (Below w.heap.size w w15) := below_step HB14.out hb15
        have HE15 : Hid (EnvOk w15 [(a15, (y15).length, c15, y15), (a14, (y14).length, c14, y14), (a13, (y13).length, c13, y13), (a12, (y12).length, c12, y12), (a6, (y6).length, c6, y6), (a5, (y5).length, c5, y5), (a, la, ca, xa), (b, lb, cb, xb), (f, lf, cf, xf)]) := HE14.out.cons hb15 hT15
        have HL15 : Hid (LtSl w15 d m c zs) := HL14.out.up hb15
        clear j15 hT15 hb15 HB14 HE14 HL14
        have j16 := Try.malike_any HAll.out a13 a15 (y13).length c13 (y15).length c15 (y13) (y15) d m c zs w15 (HE15.out (a13, (y13).length, c13, y13) (List.mem_cons_of_mem _ (List.mem_cons_of_mem _ List.mem_cons_self))) (HE15.out (a15, (y15).length, c15, y15) List.mem_cons_self) HL15.out (semT (zN zs) 17 0 [(semT (zN zs) 21 0 [va, vb]), vf]) (semT (zN zs) 12 0 [(semT (zN zs) 17 0 [va, vf]), (semT (zN zs) 17 0 [vb, vf])]) M13.out M15.out (fun i hi => path_plus _ _ _ _ i)
        go_wp2_with fail
        with_reducible refine j16.mono ?_
        rintro e w16 ⟨rfl, hb16⟩
        have HB16 : Hid (Below w.heap.size w w16) := below_step HB15.out hb16
        have HE16 : Hid (EnvOk w16 [(a15, (y15).length, c15, y15), (a14, (y14).length, c14, y14), (a13, (y13).length, c13, y13), (a12, (y12).length, c12, y12), (a6, (y6).length, c6, y6), (a5, (y5).length, c5, y5), (a, la, ca, xa), (b, lb, cb, xb), (f, lf, cf, xf)]) := HE15.out.up hb16
        have HL16 : Hid (LtSl w16 d m c zs) := HL15.out.up hb16
        clear j16 hb16 HB15 HE15 HL15
        have HF16 : Hid (EnvOk w16 [(a6, (y6).length, c6, y6), (a5, (y5).length, c5, y5), (a, la, ca, xa), (b, lb, cb, xb), (f, lf, cf, xf)]) := fun e he => HE16.out e (List.mem_cons_of_mem _ (List.mem_cons_of_mem _ (List.mem_cons_of_mem _ (List.mem_cons_of_mem _ he))))
        clear HE16
        have HE16 := HF16
        clear HF16
        have j17 := hbin 22 22 rfl a b la ca lb cb (xa) (xb) w16 (HE16.out (a, la, ca, xa) (List.mem_cons_of_mem _ (List.mem_cons_of_mem _ List.mem_cons_self))) (HE16.out (b, lb, cb, xb) (List.mem_cons_of_mem _ (List.mem_cons_of_mem _ (List.mem_cons_of_mem _ List.mem_cons_self)))) (by decide)
        have M17 : Hid (Mn (zN zs) (binB 22 (xa) (xb)) (semT (zN zs) 22 0 [va, vb])) := (Mn.bin MA.out MB.out (op := 22) rfl)
        generalize binB 22 (xa) (xb) = y17 at j17 M17
        go_wp2_with fail
        with_reducible refine j17.mono ?_
        rintro e w17 ⟨a17, c17, rfl, hT17, hb17⟩
        have HB17 : Hid (Below w.heap.size w w17) := below_step HB16.out hb17
        have HE17 : Hid (EnvOk w17 [(a17, (y17).length, c17, y17), (a6, (y6).length, c6, y6), (a5, (y5).length, c5, y5), (a, la, ca, xa), (b, lb, cb, xb), (f, lf, cf, xf)]) := HE16.out.cons hb17 hT17
        have HL17 : Hid (LtSl w17 d m c zs) := HL16.out.up hb17
        clear j17 hT17 hb17 HB16 HE16 HL16
        have j18 := hbin 17 17 rfl a17 f (y17).length c17 lf cf (y17) (xf) w17 (HE17.out (a17, (y17).length, c17, y17) List.mem_cons_self) (HE17.out (f, lf, cf, xf) (List.mem_cons_of_mem _ (List.mem_cons_of_mem _ (List.mem_cons_of_mem _ (List.mem_cons_of_mem _ (List.mem_cons_of_mem _ List.mem_cons_self)))))) (by decide)
        have M18 : Hid (Mn (zN zs) (binB 17 (y17) (xf)) (semT (zN zs) 17 0 [(semT (zN zs) 22 0 [va, vb]), vf])) := (Mn.bin M17.out MF.out (op := 17) rfl)
        generalize binB 17 (y17) (xf) = y18 at j18 M18
        go_wp2_with fail
        with_reducible refine j18.mono ?_
        rintro e w18 ⟨a18, c18, rfl, hT18, hb18⟩
        have HB18 : Hid (Below w.heap.size w w18) := below_step HB17.out hb18
        have HE18 : Hid (EnvOk w18 [(a18, (y18).length, c18, y18), (a17, (y17).length, c17, y17), (a6, (y6).length, c6, y6), (a5, (y5).length, c5, y5), (a, la, ca, xa), (b, lb, cb, xb), (f, lf, cf, xf)]) := HE17.out.cons hb18 hT18
        have HL18 : Hid (LtSl w18 d m c zs) := HL17.out.up hb18
        clear j18 hT18 hb18 HB17 HE17 HL17
        have j19 := hbin 17 17 rfl b f lb cb lf cf (xb) (xf) w18 (HE18.out (b, lb, cb, xb) (List.mem_cons_of_mem _ (List.mem_cons_of_mem _ (List.mem_cons_of_mem _ (List.mem_cons_of_mem _ (List.mem_cons_of_mem _ List.mem_cons_self)))))) (HE18.out (f, lf, cf, xf) (List.mem_cons_of_mem _ (List.mem_cons_of_mem _ (List.mem_cons_of_mem _ (List.mem_cons_of_mem _ (List.mem_cons_of_mem _ (List.mem_cons_of_mem _ List.mem_cons_self))))))) (by decide)
        have M19 : Hid (Mn (zN zs) (binB 17 (xb) (xf)) (semT (zN zs) 17 0 [vb, vf])) := (Mn.bin MB.out MF.out (op := 17) rfl)
        generalize binB 17 (xb) (xf) = y19 at j19 M19
        go_wp2_with fail
        with_reducible refine j19.mono ?_
        rintro e w19 ⟨a19, c19, rfl, hT19, hb19⟩
        have HB19 : Hid (Below w.heap.size w w19) := below_step HB18.out hb19
        have HE19 : Hid (EnvOk w19 [(a19, (y19).length, c19, y19), (a18, (y18).length, c18, y18), (a17, (y17).length, c17, y17), (a6, (y6).length, c6, y6), (a5, (y5).length, c5, y5), (a, la, ca, xa), (b, lb, cb, xb), (f, lf, cf, xf)]) := HE18.out.cons hb19 hT19
        have HL19 : Hid (LtSl w19 d m c zs) := HL18.out.up hb19
        clear j19 hT19 hb19 HB18 HE18 HL18
        have j20 := hbin 17 17 rfl a a19 la ca (y19).length c19 (xa) (y19) w19 (HE19.out (a, la, ca, xa) (List.mem_cons_of_mem _ (List.mem_cons_of_mem _ (List.mem_cons_of_mem _ (List.mem_cons_of_mem _ (List.mem_cons_of_mem _ List.mem_cons_self)))))) (HE19.out (a19, (y19).length, c19, y19) List.mem_cons_self) (by decide)
        have M20 : Hid (Mn (zN zs) (binB 17 (xa) (y19)) (semT (zN zs) 17 0 [va, (semT (zN zs) 17 0 [vb, vf])])) := (Mn.bin MA.out M19.out (op := 17) rfl)
        generalize binB 17 (xa) (y19) = y20 at j20 M20
        go_wp2_with fail
        with_reducible refine j20.mono ?_
        rintro e w20 ⟨a20, c20, rfl, hT20, hb20⟩
        have HB20 : Hid (Below w.heap.size w w20) := below_step HB19.out hb20
        have HE20 : Hid (EnvOk w20 [(a20, (y20).length, c20, y20), (a19, (y19).length, c19, y19), (a18, (y18).length, c18, y18), (a17, (y17).length, c17, y17), (a6, (y6).length, c6, y6), (a5, (y5).length, c5, y5), (a, la, ca, xa), (b, lb, cb, xb), (f, lf, cf, xf)]) := HE19.out.cons hb20 hT20
        have HL20 : Hid (LtSl w20 d m c zs) := HL19.out.up hb20
        clear j20 hT20 hb20 HB19 HE19 HL19
        have j21 := Try.malike_any HAll.out a18 a20 (y18).length c18 (y20).length c20 (y18) (y20) d m c zs w20 (HE20.out (a18, (y18).length, c18, y18) (List.mem_cons_of_mem _ (List.mem_cons_of_mem _ List.mem_cons_self))) (HE20.out (a20, (y20).length, c20, y20) List.mem_cons_self) HL20.out (semT (zN zs) 17 0 [(semT (zN zs) 22 0 [va, vb]), vf]) (semT (zN zs) 17 0 [va, (semT (zN zs) 17 0 [vb, vf])]) M18.out M20.out (fun i hi => path_seq _ _ _ _ i)
        go_wp2_with fail
        with_reducible refine j21.mono ?_
        rintro e w21 ⟨rfl, hb21⟩
        have HB21 : Hid (Below w.heap.size w w21) := below_step HB20.out hb21
        have HE21 : Hid (EnvOk w21 [(a20, (y20).length, c20, y20), (a19, (y19).length, c19, y19), (a18, (y18).length, c18, y18), (a17, (y17).length, c17, y17), (a6, (y6).length, c6, y6), (a5, (y5).length, c5, y5), (a, la, ca, xa), (b, lb, cb, xb), (f, lf, cf, xf)]) := HE20.out.up hb21
        have HL21 : Hid (LtSl w21 d m c zs) := HL20.out.up hb21
        clear j21 hb21 HB20 HE20 HL20
        have HF21 : Hid (EnvOk w21 [(a6, (y6).length, c6, y6), (a5, (y5).length, c5, y5), (a, la, ca, xa), (b, lb, cb, xb), (f, lf, cf, xf)]) := fun e he => HE21.out e (List.mem_cons_of_mem _ (List.mem_cons_of_mem _ (List.mem_cons_of_mem _ (List.mem_cons_of_mem _ he))))
        clear HE21
        have HE21 := HF21
        clear HF21
        have j22 := hbin 17 17 rfl a6 f (y6).length c6 lf cf (y6) (xf) w21 (HE21.out (a6, (y6).length, c6, y6) List.mem_cons_self) (HE21.out (f, lf, cf, xf) (List.mem_cons_of_mem _ (List.mem_cons_of_mem _ (List.mem_cons_of_mem _ (List.mem_cons_of_mem _ List.mem_cons_self))))) (by decide)
        have M22 : Hid (Mn (zN zs) (binB 17 (y6) (xf)) (semT (zN zs) 17 0 [(semT (zN zs) 23 0 [va]), vf])) := (Mn.bin M6.out MF.out (op := 17) rfl)
        generalize binB 17 (y6) (xf) = y22 at j22 M22
        go_wp2_with fail
        with_reducible refine j22.mono ?_
        rintro e w22 ⟨a22, c22, rfl, hT22, hb22⟩
        have HB22 : Hid (Below w.heap.size w w22) := below_step HB21.out hb22
        have HE22 : Hid (EnvOk w22 [(a22, (y22).length, c22, y22), (a6, (y6).length, c6, y6), (a5, (y5).length, c5, y5), (a, la, ca, xa), (b, lb, cb, xb), (f, lf, cf, xf)]) := HE21.out.cons hb22 hT22
        have HL22 : Hid (LtSl w22 d m c zs) := HL21.out.up hb22
        clear j22 hT22 hb22 HB21 HE21 HL21
        have j23 := hbin 17 17 rfl a6 f (y6).length c6 lf cf (y6) (xf) w22 (HE22.out (a6, (y6).length, c6, y6) (List.mem_cons_of_mem _ List.mem_cons_self)) (HE22.out (f, lf, cf, xf) (List.mem_cons_of_mem _ (List.mem_cons_of_mem _ (List.mem_cons_of_mem _ (List.mem_cons_of_mem _ (List.mem_cons_of_mem _ List.mem_cons_self)))))) (by decide)
        have M23 : Hid (Mn (zN zs) (binB 17 (y6) (xf)) (semT (zN zs) 17 0 [(semT (zN zs) 23 0 [va]), vf])) := (Mn.bin M6.out MF.out (op := 17) rfl)
        generalize binB 17 (y6) (xf) = y23 at j23 M23
        go_wp2_with fail
        with_reducible refine j23.mono ?_
        rintro e w23 ⟨a23, c23, rfl, hT23, hb23⟩
        have HB23 : Hid (Below w.heap.size w w23) := below_step HB22.out hb23
        have HE23 : Hid (EnvOk w23 [(a23, (y23).length, c23, y23), (a22, (y22).length, c22, y22), (a6, (y6).length, c6, y6), (a5, (y5).length, c5, y5), (a, la, ca, xa), (b, lb, cb, xb), (f, lf, cf, xf)]) := HE22.out.cons hb23 hT23
        have HL23 : Hid (LtSl w23 d m c zs) := HL22.out.up hb23
        clear j23 hT23 hb23 HB22 HE22 HL22
        have j24 := hbin 17 17 rfl a a23 la ca (y23).length c23 (xa) (y23) w23 (HE23.out (a, la, ca, xa) (List.mem_cons_of_mem _ (List.mem_cons_of_mem _ (List.mem_cons_of_mem _ (List.mem_cons_of_mem _ List.mem_cons_self))))) (HE23.out (a23, (y23).length, c23, y23) List.mem_cons_self) (by decide)
        have M24 : Hid (Mn (zN zs) (binB 17 (xa) (y23)) (semT (zN zs) 17 0 [va, (semT (zN zs) 17 0 [(semT (zN zs) 23 0 [va]), vf])])) := (Mn.bin MA.out M23.out (op := 17) rfl)
        generalize binB 17 (xa) (y23) = y24 at j24 M24
        go_wp2_with fail
        with_reducible refine j24.mono ?_
        rintro e w24 ⟨a24, c24, rfl, hT24, hb24⟩
        have HB24 : Hid (Below w.heap.size w w24) := below_step HB23.out hb24
        have HE24 : Hid (EnvOk w24 [(a24, (y24).length, c24, y24), (a23, (y23).length, c23, y23), (a22, (y22).length, c22, y22), (a6, (y6).length, c6, y6), (a5, (y5).length, c5, y5), (a, la, ca, xa), (b, lb, cb, xb), (f, lf, cf, xf)]) := HE23.out.cons hb24 hT24
        have HL24 : Hid (LtSl w24 d m c zs) := HL23.out.up hb24
        clear j24 hT24 hb24 HB23 HE23 HL23
        have j25 := hbin 12 12 rfl f a24 lf cf (y24).length c24 (xf) (y24) w24 (HE24.out (f, lf, cf, xf) (List.mem_cons_of_mem _ (List.mem_cons_of_mem _ (List.mem_cons_of_mem _ (List.mem_cons_of_mem _ (List.mem_cons_of_mem _ (List.mem_cons_of_mem _ (List.mem_cons_of_mem _ List.mem_cons_self)))))))) (HE24.out (a24, (y24).length, c24, y24) List.mem_cons_self) (by decide)
        have M25 : Hid (Mn (zN zs) (binB 12 (xf) (y24)) (semT (zN zs) 12 0 [vf, (semT (zN zs) 17 0 [va, (semT (zN zs) 17 0 [(semT (zN zs) 23 0 [va]), vf])])])) := (Mn.bin MF.out M24.out (op := 12) rfl)
        generalize binB 12 (xf) (y24) = y25 at j25 M25
        go_wp2_with fail
        with_reducible refine j25.mono ?_
        rintro e w25 ⟨a25, c25, rfl, hT25, hb25⟩
        have HB25 : Hid (Below w.heap.size w w25) := below_step HB24.out hb25
        have HE25 : Hid (EnvOk w25 [(a25, (y25).length, c25, y25), (a24, (y24).length, c24, y24), (a23, (y23).length, c23, y23), (a22, (y22).length, c22, y22), (a6, (y6).length, c6, y6), (a5, (y5).length, c5, y5), (a, la, ca, xa), (b, lb, cb, xb), (f, lf, cf, xf)]) := HE24.out.cons hb25 hT25
        have HL25 : Hid (LtSl w25 d m c zs) := HL24.out.up hb25
        clear j25 hT25 hb25 HB24 HE24 HL24
        have j26 := Try.malike_any HAll.out a22 a25 (y22).length c22 (y25).length c25 (y22) (y25) d m c zs w25 (HE25.out (a22, (y22).length, c22, y22) (List.mem_cons_of_mem _ (List.mem_cons_of_mem _ (List.mem_cons_of_mem _ List.mem_cons_self)))) (HE25.out (a25, (y25).length, c25, y25) List.mem_cons_self) HL25.out (semT (zN zs) 17 0 [(semT (zN zs) 23 0 [va]), vf]) (semT (zN zs) 12 0 [vf, (semT (zN zs) 17 0 [va, (semT (zN zs) 17 0 [(semT (zN zs) 23 0 [va]), vf])])]) M22.out M25.out (fun i hi => path_star _ _ _ i)
        go_wp2_with fail
        with_reducible refine j26.mono ?_
        rintro e w26 ⟨rfl, hb26⟩
        have HB26 : Hid (Below w.heap.size w w26) := below_step HB25.out hb26
        have HE26 : Hid (EnvOk w26 [(a25, (y25).length, c25, y25), (a24, (y24).length, c24, y24), (a23, (y23).length, c23, y23), (a22, (y22).length, c22, y22), (a6, (y6).length, c6, y6), (a5, (y5).length, c5, y5), (a, la, ca, xa), (b, lb, cb, xb), (f, lf, cf, xf)]) := HE25.out.up hb26
        have HL26 : Hid (LtSl w26 d m c zs) := HL25.out.up hb26
        clear j26 hb26 HB25 HE25 HL25
        have HF26 : Hid (EnvOk w26 [(a6, (y6).length, c6, y6), (a5, (y5).length, c5, y5), (a, la, ca, xa), (b, lb, cb, xb), (f, lf, cf, xf)]) := fun e he => HE26.out e (List.mem_cons_of_mem _ (List.mem_cons_of_mem _ (List.mem_cons_of_mem _ (List.mem_cons_of_mem _ he))))
        clear HE26
        have HE26 := HF26
        clear HF26
        have j27 := hun 20 20 rfl f lf cf (xf) w26 (HE26.out (f, lf, cf, xf) (List.mem_cons_of_mem _ (List.mem_cons_of_mem _ (List.mem_cons_of_mem _ (List.mem_cons_of_mem _ List.mem_cons_self))))) (by decide)
        have M27 : Hid (Mn (zN zs) (unB 20 (xf)) (semT (zN zs) 20 0 [vf])) := (Mn.un MF.out (op := 20) rfl)
        generalize unB 20 (xf) = y27 at j27 M27
        go_wp2_with fail
        with_reducible refine j27.mono ?_
        rintro e w27 ⟨a27, c27, rfl, hT27, hb27⟩
        have HB27 : Hid (Below w.heap.size w w27) := below_step HB26.out hb27
        have HE27 : Hid (EnvOk w27 [(a27, (y27).length, c27, y27), (a6, (y6).length, c6, y6), (a5, (y5).length, c5, y5), (a, la, ca, xa), (b, lb, cb, xb), (f, lf, cf, xf)]) := HE26.out.cons hb27 hT27
        have HL27 : Hid (LtSl w27 d m c zs) := HL26.out.up hb27
        clear j27 hT27 hb27 HB26 HE26 HL26
        have j28 := ht2 w27
        have M28 : Hid (Mn (zN zs) ([(2, 0)]) (semT (zN zs) 2 0 [])) := (Mn.leaf (zN zs) (op := 2) (p := 0) rfl)
        go_wp2_with fail
        with_reducible refine j28.mono ?_
        rintro e w28 ⟨a28, c28, rfl, hT28, hb28⟩
        dsimp only [List.length_cons, List.length_nil] at hT28 ⊢
        have HB28 : Hid (Below w.heap.size w w28) := below_step HB27.out hb28
        have HE28 : Hid (EnvOk w28 [(a28, 1, c28, [(2, 0)]), (a27, (y27).length, c27, y27), (a6, (y6).length, c6, y6), (a5, (y5).length, c5, y5), (a, la, ca, xa), (b, lb, cb, xb), (f, lf, cf, xf)]) := HE27.out.cons hb28 hT28
        have HL28 : Hid (LtSl w28 d m c zs) := HL27.out.up hb28
        clear j28 hT28 hb28 HB27 HE27 HL27
        have j29 := hbin 17 17 rfl a27 a28 (y27).length c27 1 c28 (y27) ([(2, 0)]) w28 (HE28.out (a27, (y27).length, c27, y27) (List.mem_cons_of_mem _ List.mem_cons_self)) (HE28.out (a28, 1, c28, [(2, 0)]) List.mem_cons_self) (by decide)
        have M29 : Hid (Mn (zN zs) (binB 17 (y27) ([(2, 0)])) (semT (zN zs) 17 0 [(semT (zN zs) 20 0 [vf]), (semT (zN zs) 2 0 [])])) := (Mn.bin M27.out M28.out (op := 17) rfl)
        generalize binB 17 (y27) ([(2, 0)]) = y29 at j29 M29
        go_wp2_with fail
        with_reducible refine j29.mono ?_
        rintro e w29 ⟨a29, c29, rfl, hT29, hb29⟩
        have HB29 : Hid (Below w.heap.size w w29) := below_step HB28.out hb29
        have HE29 : Hid (EnvOk w29 [(a29, (y29).length, c29, y29), (a28, 1, c28, [(2, 0)]), (a27, (y27).length, c27, y27), (a6, (y6).length, c6, y6), (a5, (y5).length, c5, y5), (a, la, ca, xa), (b, lb, cb, xb), (f, lf, cf, xf)]) := HE28.out.cons hb29 hT29
        have HL29 : Hid (LtSl w29 d m c zs) := HL28.out.up hb29
        clear j29 hT29 hb29 HB28 HE28 HL28
        have j30 := ht2 w29
        have M30 : Hid (Mn (zN zs) ([(2, 0)]) (semT (zN zs) 2 0 [])) := (Mn.leaf (zN zs) (op := 2) (p := 0) rfl)
        go_wp2_with fail
        with_reducible refine j30.mono ?_
        rintro e w30 ⟨a30, c30, rfl, hT30, hb30⟩
        dsimp only [List.length_cons, List.length_nil] at hT30 ⊢
        have HB30 : Hid (Below w.heap.size w w30) := below_step HB29.out hb30
        have HE30 : Hid (EnvOk w30 [(a30, 1, c30, [(2, 0)]), (a29, (y29).length, c29, y29), (a28, 1, c28, [(2, 0)]), (a27, (y27).length, c27, y27), (a6, (y6).length, c6, y6), (a5, (y5).length, c5, y5), (a, la, ca, xa), (b, lb, cb, xb), (f, lf, cf, xf)]) := HE29.out.cons hb30 hT30
        have HL30 : Hid (LtSl w30 d m c zs) := HL29.out.up hb30
        clear j30 hT30 hb30 HB29 HE29 HL29
        have j31 := hbin 11 11 rfl f a30 lf cf 1 c30 (xf) ([(2, 0)]) w30 (HE30.out (f, lf, cf, xf) (List.mem_cons_of_mem _ (List.mem_cons_of_mem _ (List.mem_cons_of_mem _ (List.mem_cons_of_mem _ (List.mem_cons_of_mem _ (List.mem_cons_of_mem _ (List.mem_cons_of_mem _ (List.mem_cons_of_mem _ List.mem_cons_self))))))))) (HE30.out (a30, 1, c30, [(2, 0)]) List.mem_cons_self) (by decide)
        have M31 : Hid (Mn (zN zs) (binB 11 (xf) ([(2, 0)])) (semT (zN zs) 11 0 [vf, (semT (zN zs) 2 0 [])])) := (Mn.bin MF.out M30.out (op := 11) rfl)
        generalize binB 11 (xf) ([(2, 0)]) = y31 at j31 M31
        go_wp2_with fail
        with_reducible refine j31.mono ?_
        rintro e w31 ⟨a31, c31, rfl, hT31, hb31⟩
        have HB31 : Hid (Below w.heap.size w w31) := below_step HB30.out hb31
        have HE31 : Hid (EnvOk w31 [(a31, (y31).length, c31, y31), (a30, 1, c30, [(2, 0)]), (a29, (y29).length, c29, y29), (a28, 1, c28, [(2, 0)]), (a27, (y27).length, c27, y27), (a6, (y6).length, c6, y6), (a5, (y5).length, c5, y5), (a, la, ca, xa), (b, lb, cb, xb), (f, lf, cf, xf)]) := HE30.out.cons hb31 hT31
        have HL31 : Hid (LtSl w31 d m c zs) := HL30.out.up hb31
        clear j31 hT31 hb31 HB30 HE30 HL30
        have j32 := Try.malike_any HAll.out a29 a31 (y29).length c29 (y31).length c31 (y29) (y31) d m c zs w31 (HE31.out (a29, (y29).length, c29, y29) (List.mem_cons_of_mem _ (List.mem_cons_of_mem _ List.mem_cons_self))) (HE31.out (a31, (y31).length, c31, y31) List.mem_cons_self) HL31.out (semT (zN zs) 17 0 [(semT (zN zs) 20 0 [vf]), (semT (zN zs) 2 0 [])]) (semT (zN zs) 11 0 [vf, (semT (zN zs) 2 0 [])]) M29.out M31.out (fun i hi => path_test _ _ _ i)
        go_wp2_with fail
        with_reducible refine j32.mono ?_
        rintro e w32 ⟨rfl, hb32⟩
        have HB32 : Hid (Below w.heap.size w w32) := below_step HB31.out hb32
        have HE32 : Hid (EnvOk w32 [(a31, (y31).length, c31, y31), (a30, 1, c30, [(2, 0)]), (a29, (y29).length, c29, y29), (a28, 1, c28, [(2, 0)]), (a27, (y27).length, c27, y27), (a6, (y6).length, c6, y6), (a5, (y5).length, c5, y5), (a, la, ca, xa), (b, lb, cb, xb), (f, lf, cf, xf)]) := HE31.out.up hb32
        have HL32 : Hid (LtSl w32 d m c zs) := HL31.out.up hb32
        clear j32 hb32 HB31 HE31 HL31
        have HF32 : Hid (EnvOk w32 [(a6, (y6).length, c6, y6), (a5, (y5).length, c5, y5), (a, la, ca, xa), (b, lb, cb, xb), (f, lf, cf, xf)]) := fun e he => HE32.out e (List.mem_cons_of_mem _ (List.mem_cons_of_mem _ (List.mem_cons_of_mem _ (List.mem_cons_of_mem _ (List.mem_cons_of_mem _ he)))))
        clear HE32
        have HE32 := HF32
        clear HF32
        have j33 := ht2 w32
        have M33 : Hid (Mn (zN zs) ([(2, 0)]) (semT (zN zs) 2 0 [])) := (Mn.leaf (zN zs) (op := 2) (p := 0) rfl)
        go_wp2_with fail
        with_reducible refine j33.mono ?_
        rintro e w33 ⟨a33, c33, rfl, hT33, hb33⟩
        dsimp only [List.length_cons, List.length_nil] at hT33 ⊢
        have HB33 : Hid (Below w.heap.size w w33) := below_step HB32.out hb33
        have HE33 : Hid (EnvOk w33 [(a33, 1, c33, [(2, 0)]), (a6, (y6).length, c6, y6), (a5, (y5).length, c5, y5), (a, la, ca, xa), (b, lb, cb, xb), (f, lf, cf, xf)]) := HE32.out.cons hb33 hT33
        have HL33 : Hid (LtSl w33 d m c zs) := HL32.out.up hb33
        clear j33 hT33 hb33 HB32 HE32 HL32
        have j34 := hun 19 19 rfl a33 1 c33 ([(2, 0)]) w33 (HE33.out (a33, 1, c33, [(2, 0)]) List.mem_cons_self) (by decide)
        have M34 : Hid (Mn (zN zs) (unB 19 ([(2, 0)])) (semT (zN zs) 19 0 [(semT (zN zs) 2 0 [])])) := (Mn.un M33.out (op := 19) rfl)
        generalize unB 19 ([(2, 0)]) = y34 at j34 M34
        go_wp2_with fail
        with_reducible refine j34.mono ?_
        rintro e w34 ⟨a34, c34, rfl, hT34, hb34⟩
        have HB34 : Hid (Below w.heap.size w w34) := below_step HB33.out hb34
        have HE34 : Hid (EnvOk w34 [(a34, (y34).length, c34, y34), (a33, 1, c33, [(2, 0)]), (a6, (y6).length, c6, y6), (a5, (y5).length, c5, y5), (a, la, ca, xa), (b, lb, cb, xb), (f, lf, cf, xf)]) := HE33.out.cons hb34 hT34
        have HL34 : Hid (LtSl w34 d m c zs) := HL33.out.up hb34
        clear j34 hT34 hb34 HB33 HE33 HL33
        have j35 := hbin 17 17 rfl a34 f (y34).length c34 lf cf (y34) (xf) w34 (HE34.out (a34, (y34).length, c34, y34) List.mem_cons_self) (HE34.out (f, lf, cf, xf) (List.mem_cons_of_mem _ (List.mem_cons_of_mem _ (List.mem_cons_of_mem _ (List.mem_cons_of_mem _ (List.mem_cons_of_mem _ (List.mem_cons_of_mem _ List.mem_cons_self))))))) (by decide)
        have M35 : Hid (Mn (zN zs) (binB 17 (y34) (xf)) (semT (zN zs) 17 0 [(semT (zN zs) 19 0 [(semT (zN zs) 2 0 [])]), vf])) := (Mn.bin M34.out MF.out (op := 17) rfl)
        generalize binB 17 (y34) (xf) = y35 at j35 M35
        go_wp2_with fail
        with_reducible refine j35.mono ?_
        rintro e w35 ⟨a35, c35, rfl, hT35, hb35⟩
        have HB35 : Hid (Below w.heap.size w w35) := below_step HB34.out hb35
        have HE35 : Hid (EnvOk w35 [(a35, (y35).length, c35, y35), (a34, (y34).length, c34, y34), (a33, 1, c33, [(2, 0)]), (a6, (y6).length, c6, y6), (a5, (y5).length, c5, y5), (a, la, ca, xa), (b, lb, cb, xb), (f, lf, cf, xf)]) := HE34.out.cons hb35 hT35
        have HL35 : Hid (LtSl w35 d m c zs) := HL34.out.up hb35
        clear j35 hT35 hb35 HB34 HE34 HL34
        have j36 := ht2 w35
        have M36 : Hid (Mn (zN zs) ([(2, 0)]) (semT (zN zs) 2 0 [])) := (Mn.leaf (zN zs) (op := 2) (p := 0) rfl)
        go_wp2_with fail
        with_reducible refine j36.mono ?_
        rintro e w36 ⟨a36, c36, rfl, hT36, hb36⟩
        dsimp only [List.length_cons, List.length_nil] at hT36 ⊢
        have HB36 : Hid (Below w.heap.size w w36) := below_step HB35.out hb36
        have HE36 : Hid (EnvOk w36 [(a36, 1, c36, [(2, 0)]), (a35, (y35).length, c35, y35), (a34, (y34).length, c34, y34), (a33, 1, c33, [(2, 0)]), (a6, (y6).length, c6, y6), (a5, (y5).length, c5, y5), (a, la, ca, xa), (b, lb, cb, xb), (f, lf, cf, xf)]) := HE35.out.cons hb36 hT36
        have HL36 : Hid (LtSl w36 d m c zs) := HL35.out.up hb36
        clear j36 hT36 hb36 HB35 HE35 HL35
        have q36 := hop 0 0 100 rfl rfl (by decide) w36
        go_wp2_with fail
        with_reducible refine q36.mono ?_
        rintro e w' ⟨rfl, hw'⟩
        obtain rfl := hw'.symm
        clear q36
        have j37 := ht 0 100 rfl (by decide) w36
        have M37 : Hid (Mn (zN zs) ([(0, 0)]) (semT (zN zs) 0 0 [])) := (Mn.leaf (zN zs) (op := 0) (p := 0) rfl)
        go_wp2_with fail
        with_reducible refine j37.mono ?_
        rintro e w37 ⟨a37, c37, rfl, hT37, hb37⟩
        dsimp only [List.length_cons, List.length_nil] at hT37 ⊢
        have HB37 : Hid (Below w.heap.size w w37) := below_step HB36.out hb37
        have HE37 : Hid (EnvOk w37 [(a37, 1, c37, [(0, 0)]), (a36, 1, c36, [(2, 0)]), (a35, (y35).length, c35, y35), (a34, (y34).length, c34, y34), (a33, 1, c33, [(2, 0)]), (a6, (y6).length, c6, y6), (a5, (y5).length, c5, y5), (a, la, ca, xa), (b, lb, cb, xb), (f, lf, cf, xf)]) := HE36.out.cons hb37 hT37
        have HL37 : Hid (LtSl w37 d m c zs) := HL36.out.up hb37
        clear j37 hT37 hb37 HB36 HE36 HL36
        have j38 := hun 19 19 rfl a37 1 c37 ([(0, 0)]) w37 (HE37.out (a37, 1, c37, [(0, 0)]) List.mem_cons_self) (by decide)
        have M38 : Hid (Mn (zN zs) (unB 19 ([(0, 0)])) (semT (zN zs) 19 0 [(semT (zN zs) 0 0 [])])) := (Mn.un M37.out (op := 19) rfl)
        generalize unB 19 ([(0, 0)]) = y38 at j38 M38
        go_wp2_with fail
        with_reducible refine j38.mono ?_
        rintro e w38 ⟨a38, c38, rfl, hT38, hb38⟩
        have HB38 : Hid (Below w.heap.size w w38) := below_step HB37.out hb38
        have HE38 : Hid (EnvOk w38 [(a38, (y38).length, c38, y38), (a37, 1, c37, [(0, 0)]), (a36, 1, c36, [(2, 0)]), (a35, (y35).length, c35, y35), (a34, (y34).length, c34, y34), (a33, 1, c33, [(2, 0)]), (a6, (y6).length, c6, y6), (a5, (y5).length, c5, y5), (a, la, ca, xa), (b, lb, cb, xb), (f, lf, cf, xf)]) := HE37.out.cons hb38 hT38
        have HL38 : Hid (LtSl w38 d m c zs) := HL37.out.up hb38
        clear j38 hT38 hb38 HB37 HE37 HL37
        have j39 := hbin 17 17 rfl a38 f (y38).length c38 lf cf (y38) (xf) w38 (HE38.out (a38, (y38).length, c38, y38) List.mem_cons_self) (HE38.out (f, lf, cf, xf) (List.mem_cons_of_mem _ (List.mem_cons_of_mem _ (List.mem_cons_of_mem _ (List.mem_cons_of_mem _ (List.mem_cons_of_mem _ (List.mem_cons_of_mem _ (List.mem_cons_of_mem _ (List.mem_cons_of_mem _ (List.mem_cons_of_mem _ (List.mem_cons_of_mem _ List.mem_cons_self))))))))))) (by decide)
        have M39 : Hid (Mn (zN zs) (binB 17 (y38) (xf)) (semT (zN zs) 17 0 [(semT (zN zs) 19 0 [(semT (zN zs) 0 0 [])]), vf])) := (Mn.bin M38.out MF.out (op := 17) rfl)
        generalize binB 17 (y38) (xf) = y39 at j39 M39
        go_wp2_with fail
        with_reducible refine j39.mono ?_
        rintro e w39 ⟨a39, c39, rfl, hT39, hb39⟩
        have HB39 : Hid (Below w.heap.size w w39) := below_step HB38.out hb39
        have HE39 : Hid (EnvOk w39 [(a39, (y39).length, c39, y39), (a38, (y38).length, c38, y38), (a37, 1, c37, [(0, 0)]), (a36, 1, c36, [(2, 0)]), (a35, (y35).length, c35, y35), (a34, (y34).length, c34, y34), (a33, 1, c33, [(2, 0)]), (a6, (y6).length, c6, y6), (a5, (y5).length, c5, y5), (a, la, ca, xa), (b, lb, cb, xb), (f, lf, cf, xf)]) := HE38.out.cons hb39 hT39
        have HL39 : Hid (LtSl w39 d m c zs) := HL38.out.up hb39
        clear j39 hT39 hb39 HB38 HE38 HL38
        have j40 := hbin 11 11 rfl a36 a39 1 c36 (y39).length c39 ([(2, 0)]) (y39) w39 (HE39.out (a36, 1, c36, [(2, 0)]) (List.mem_cons_of_mem _ (List.mem_cons_of_mem _ (List.mem_cons_of_mem _ List.mem_cons_self)))) (HE39.out (a39, (y39).length, c39, y39) List.mem_cons_self) (by decide)
        have M40 : Hid (Mn (zN zs) (binB 11 ([(2, 0)]) (y39)) (semT (zN zs) 11 0 [(semT (zN zs) 2 0 []), (semT (zN zs) 17 0 [(semT (zN zs) 19 0 [(semT (zN zs) 0 0 [])]), vf])])) := (Mn.bin M36.out M39.out (op := 11) rfl)
        generalize binB 11 ([(2, 0)]) (y39) = y40 at j40 M40
        go_wp2_with fail
        with_reducible refine j40.mono ?_
        rintro e w40 ⟨a40, c40, rfl, hT40, hb40⟩
        have HB40 : Hid (Below w.heap.size w w40) := below_step HB39.out hb40
        have HE40 : Hid (EnvOk w40 [(a40, (y40).length, c40, y40), (a39, (y39).length, c39, y39), (a38, (y38).length, c38, y38), (a37, 1, c37, [(0, 0)]), (a36, 1, c36, [(2, 0)]), (a35, (y35).length, c35, y35), (a34, (y34).length, c34, y34), (a33, 1, c33, [(2, 0)]), (a6, (y6).length, c6, y6), (a5, (y5).length, c5, y5), (a, la, ca, xa), (b, lb, cb, xb), (f, lf, cf, xf)]) := HE39.out.cons hb40 hT40
        have HL40 : Hid (LtSl w40 d m c zs) := HL39.out.up hb40
        clear j40 hT40 hb40 HB39 HE39 HL39
        have j41 := Try.malike_any HAll.out a35 a40 (y35).length c35 (y40).length c40 (y35) (y40) d m c zs w40 (HE40.out (a35, (y35).length, c35, y35) (List.mem_cons_of_mem _ (List.mem_cons_of_mem _ (List.mem_cons_of_mem _ (List.mem_cons_of_mem _ (List.mem_cons_of_mem _ List.mem_cons_self)))))) (HE40.out (a40, (y40).length, c40, y40) List.mem_cons_self) HL40.out (semT (zN zs) 17 0 [(semT (zN zs) 19 0 [(semT (zN zs) 2 0 [])]), vf]) (semT (zN zs) 11 0 [(semT (zN zs) 2 0 []), (semT (zN zs) 17 0 [(semT (zN zs) 19 0 [(semT (zN zs) 0 0 [])]), vf])]) M35.out M40.out (fun i hi => path_step _ _ _ i)
        go_wp2_with fail
        with_reducible refine j41.mono ?_
        rintro e w41 ⟨rfl, hb41⟩
        have HB41 : Hid (Below w.heap.size w w41) := below_step HB40.out hb41
        have HE41 : Hid (EnvOk w41 [(a40, (y40).length, c40, y40), (a39, (y39).length, c39, y39), (a38, (y38).length, c38, y38), (a37, 1, c37, [(0, 0)]), (a36, 1, c36, [(2, 0)]), (a35, (y35).length, c35, y35), (a34, (y34).length, c34, y34), (a33, 1, c33, [(2, 0)]), (a6, (y6).length, c6, y6), (a5, (y5).length, c5, y5), (a, la, ca, xa), (b, lb, cb, xb), (f, lf, cf, xf)]) := HE40.out.up hb41
        have HL41 : Hid (LtSl w41 d m c zs) := HL40.out.up hb41
        clear j41 hb41 HB40 HE40 HL40
        have HF41 : Hid (EnvOk w41 [(a6, (y6).length, c6, y6), (a5, (y5).length, c5, y5), (a, la, ca, xa), (b, lb, cb, xb), (f, lf, cf, xf)]) := fun e he => HE41.out e (List.mem_cons_of_mem _ (List.mem_cons_of_mem _ (List.mem_cons_of_mem _ (List.mem_cons_of_mem _ (List.mem_cons_of_mem _ (List.mem_cons_of_mem _ (List.mem_cons_of_mem _ (List.mem_cons_of_mem _ he))))))))
        clear HE41
        have HE41 := HF41
        clear HF41
        have hwm : IntKind.i64.wrap ((m : Int) + 1) = ((m + 1 : Nat) : Int) := by rw [IntKind.wrap_i64]; omega
        have hp2 : Calls Try.prog 32 #[.int .i64 i0, .int .i64 ((m : Int) + 1)] w41 _ := Try.mpick_any i0 (m + 1) w41 (by omega) (by omega)
        go_wp2_with fail
        with_reducible refine hp2.mono ?_
        rintro e w' ⟨k, hk, rfl, hw'⟩
        obtain rfl := hw'.symm
        have hzl : (zN zs).length = m := by rw [zN_len, hlen]
        have htr : trE zs = 0 := trE_small (by omega)
        have jA := HEn.out a la ca xa d m c zs (k : Int) w41 (HE41.out (a, la, ca, xa) (List.mem_cons_of_mem _ (List.mem_cons_of_mem _ List.mem_cons_self))) HL41.out
        clear hp2 hun hbin hop ht ht2
        go_wp2_with fail
        with_reducible refine jA.mono ?_
        rintro e wA ⟨vA, EA, rfl, hbA, hrA⟩
        rcases hrA with ⟨qA, hqA, _⟩ | ⟨rfl, _, _, _, _, es, hoA, hvA⟩
        · exfalso
          rcases hqA with ⟨hq, _⟩ | ⟨_, hq, _⟩ | ⟨_, _, _, hq⟩
          · exact hq HK3.out
          · exact hq htr
          · rw [hlen] at hq; omega
        obtain ⟨aA, cA, rfl, hSA⟩ := ints_sl hoA
        have HSA : Hid (IntSl Try.prog 35 .i64 wA aA es.length cA (es.map Int.ofNat)) := hSA
        have HBA : Hid (Below w.heap.size w wA) := below_step HB41.out hbA
        have HEA : Hid (EnvOk wA [(a6, (y6).length, c6, y6), (a5, (y5).length, c5, y5), (a, la, ca, xa), (b, lb, cb, xb), (f, lf, cf, xf)]) := HE41.out.up hbA
        have HLA : Hid (LtSl wA d m c zs) := HL41.out.up hbA
        have HVA : Hid (EndB (zN zs) xa k es) := hvA
        have jB := HAll.out f lf cf xf d m c zs wA (HEA.out (f, lf, cf, xf) (List.mem_cons_of_mem _ (List.mem_cons_of_mem _ (List.mem_cons_of_mem _ (List.mem_cons_of_mem _ List.mem_cons_self))))) HLA.out
        clear jA hbA hoA hSA hvA HB41 HE41 HL41
        go_wp2_with fail
        with_reducible refine jB.mono ?_
        rintro e wB ⟨vB, EB, rfl, hbB, hrB⟩
        rcases hrB with ⟨qB, hqB, _⟩ | ⟨rfl, _, _, bs, hoB, hvB⟩
        · exfalso
          rcases hqB with ⟨hq, _⟩ | ⟨_, hq⟩
          · exact hq HK1.out
          · exact qB (hq.trans htr)
        obtain ⟨aB, cB, rfl, hSB⟩ := own_bo hoB
        have hbl : bs.length = m + 1 := by rw [hvB.1, hzl]
        rw [hbl] at hSB
        have HSB : Hid (BoSl wB aB (m + 1) cB bs) := hSB
        have HBB : Hid (Below w.heap.size w wB) := below_step HBA.out hbB
        have HSA2 : Hid (IntSl Try.prog 35 .i64 wB aA es.length cA (es.map Int.ofNat)) := HSA.out.up hbB
        have HVB : Hid (ValB (zN zs) xf bs) := hvB
        have HBL : Hid (bs.length = m + 1) := hbl
        have jC := HAt.out a5 (y5).length c5 y5 d m c zs (k : Int) wB ((HEA.out (a5, (y5).length, c5, y5) (List.mem_cons_of_mem _ List.mem_cons_self)).up hbB) (HLA.out.up hbB)
        clear jB hbB hoB hSB hvB HSA HBA HEA HLA
        go_wp2_with fail
        with_reducible refine jC.mono ?_
        rintro e wC ⟨bC, EC, rfl, hbC, hrC⟩
        have HBC : Hid (Below w.heap.size w wC) := below_step HBB.out hbC
        rcases hrC with ⟨qC, _, _⟩ | ⟨rfl, lC, _, _, _, hvC⟩
        · have eC : (EC == 0) = false := by simpa using qC
          have eC2 : (EC != 0) = true := by simpa using qC
          clear jC hbC
          go_wp2
          go_ret
          exact ⟨rfl, HBC.out⟩
        have HFIN : Hid (bC = es.any fun x => bs.getD x false) := by
          have hcl := M5.out (look4 (Or.inl lC))
          have h1 := hvC _ hcl
          rw [Int.toNat_natCast] at h1
          have hF := MF.out (look4 (Or.inl HK1.out))
          have hE := HVA.out.2 _ (MA.out (look4 (Or.inr HK3.out)))
          have key : (bC = true) ↔ (es.any fun x => bs.getD x false) = true := by
            rw [h1, List.any_eq_true]
            simp only [semT, binV, show ¬ (17 = 11) by decide, show ¬ (17 = 12) by decide, show ¬ (17 = 13) by decide, show ¬ (17 = 14) by decide, show ¬ (17 = 15) by decide, show ¬ (17 = 16) by decide, if_false, if_true]
            constructor
            · rintro ⟨x, hx1, hx2⟩
              have hx3 := HWI.out k x (by omega) hx1
              refine ⟨x, (hE x).2 ⟨hx3.2, hx1⟩, ?_⟩
              have hxl : x < bs.length := by rw [HBL.out]; omega
              rw [List.getD_eq_getElem?_getD, List.getElem?_eq_getElem hxl]
              exact (HVB.out.2 _ hF x hxl).2 hx2
            · rintro ⟨x, hx1, hx2⟩
              have hx3 := (hE x).1 hx1
              have hxl : x < bs.length := by rw [HBL.out]; omega
              rw [List.getD_eq_getElem?_getD, List.getElem?_eq_getElem hxl] at hx2
              exact ⟨x, hx3.2, (HVB.out.2 _ hF x hxl).1 hx2⟩
          exact Bool.eq_iff_iff.2 key
        have HRG : Hid (∀ j (h : j < es.length), k ≤ es[j] ∧ es[j] ≤ m) := fun j h => by
          have h1 := (HVA.out.2 _ (MA.out (look4 (Or.inr HK3.out))) es[j]).1 (List.getElem_mem h)
          have h2 := HWI.out k es[j] (by omega) h1.2
          omega
        have HIN : Hid (∀ j (h : j + 1 < es.length), es[j]'(by omega) < es[j + 1]) := fun j h => List.pairwise_iff_getElem.1 HVA.out.1 j (j + 1) (by omega) h (by omega)
        have HSC : Hid (IntSl Try.prog 35 .i64 wC aA es.length cA (es.map Int.ofNat)) := HSA2.out.up hbC
        have HBO : Hid (BoSl wC aB (m + 1) cB bs) := HSB.out.up hbC
        have hel := Nat.le_trans HSC.out.hcap HSC.out.bd
        unfold maxLen at hel
        clear jC hbC hvC lC HSA2 HSB HBB HVA HVB HWI
        go_wp2
        go_loopw [25, 24] (fun i sm wr => ∃ j : Nat, j ≤ es.length ∧ i = .int .i64 j ∧ sm = .bool ((es.take j).any fun x => bs.getD x false) ∧ Hid (Below wC.heap.size wC wr)) (fun i _ _ => es.length - (intOf i).toNat)
        case atStart => exact ⟨0, Nat.zero_le _, rfl, rfl, Below.refl _ _⟩
        case round =>
          obtain ⟨j, hj, rfl, rfl, HBR⟩ := hrel
          by_cases hlt : j < es.length
          · have hS := HSC.out.up HBR.out
            have hO := HBO.out.up HBR.out
            have hr := HRG.out j hlt
            have hidx := fun w' => hS.idx es.length j w' hlt (Nat.le_refl _)
            have hcj := hS.cell j hlt
            have hgj : (es.map Int.ofNat).getD j 0 = ((es[j] : Nat) : Int) := by simp [List.getD_eq_getElem?_getD, hlt]
            rw [hgj] at hcj
            obtain ⟨hbi, hbc⟩ := hO.at es[j] (by omega)
            have hbi2 := fun w' => hbi (m + 1) w' (by omega)
            have HNX : Hid (((es.take (j + 1)).any fun x => bs.getD x false) = (((es.take j).any fun x => bs.getD x false) || bs[es[j]]'(by rw [HBL.out]; omega))) := by
              show _ = _
              rw [List.take_add_one, List.getElem?_eq_getElem hlt, List.any_append]
              simp only [Option.toList, List.any_cons, List.any_nil, Bool.or_false]
              rw [List.getD_eq_getElem?_getD, List.getElem?_eq_getElem (by rw [HBL.out]; omega)]
              rfl
            generalize bs[es[j]]'(by rw [HBL.out]; omega) = bj at *
            generalize ((es.take j).any fun x => bs.getD x false) = sj at *
            have HPV : Hid (∀ q, j = q + 1 → es.getD q 0 < es[j]) := fun q e => by
              subst e
              have := HIN.out q hlt
              simpa [List.getD_eq_getElem?_getD, show q < es.length by omega] using this
            generalize es[j] = ej at *
            have g1 : ¬ (ej : Int) < (k : Int) := by omega
            have g2 : ¬ (m : Int) < (ej : Int) := by omega
            have n1 : ¬ ej < k := by omega
            have n2 : ¬ m < ej := by omega
            have n1b : decide (ej < k) = false := decide_eq_false n1
            have n2b : decide (m < ej) = false := decide_eq_false n2
            cases j with
            | zero =>
              have hidx0 : ∀ w', (Instr.indexAt 35 (.slice aA es.length cA) (.int .i64 0)).run Try.prog w' = .ok (.pointer (some (adOf aA 0))) w' := hidx
              clear hidx
              go_wp2_with fail
              go_big_quiet (fail)
              cases sj with
              | true =>
                have HN2 : Hid (((es.take (0 + 1)).any fun x => bs.getD x false) = true) := by show _ = _; rw [HNX.out]; rfl
                clear HNX
                go_wp2
                go_roundw
                case rel => exact ⟨0 + 1, by omega, by go_num, by rw [HN2.out], below_drewN HBR.out nq⟩
                case measure => simp [intOf]; omega
              | false =>
                have HN2 : Hid (((es.take (0 + 1)).any fun x => bs.getD x false) = bj) := by show _ = _; rw [HNX.out]; rfl
                clear HNX
                go_wp2
                go_roundw
                case rel => exact ⟨0 + 1, by omega, by go_num, by rw [HN2.out], below_drewN HBR.out nq⟩
                case measure => simp [intOf]; omega
            | succ q =>
              have hin := HPV.out q rfl
              have hidx0 : ∀ w', (Instr.indexAt 35 (.slice aA es.length cA) (.int .i64 ((q : Int) + 1))).run Try.prog w' = .ok (.pointer (some (adOf aA (q + 1)))) w' := hidx
              clear hidx
              have hidx2 := fun w' => hS.idx es.length q w' (by omega) (Nat.le_refl _)
              have hcq := hS.cell q (by omega)
              have hgq : (es.map Int.ofNat).getD q 0 = ((es.getD q 0 : Nat) : Int) := by simp [List.getD_eq_getElem?_getD, show q < es.length by omega]
              rw [hgq] at hcq
              generalize es.getD q 0 = eq at *
              have g3 : ¬ (ej : Int) ≤ (eq : Int) := by omega
              have n3 : ¬ ej ≤ eq := by omega
              have n3b : decide (ej ≤ eq) = false := decide_eq_false n3
              have g4 : (0 : Int) < (q : Int) + 1 := by omega
              have g5 : (q : Int) + 1 - 1 = (q : Int) := by omega
              go_wp2_with fail
              go_big_quiet (fail)
              cases sj with
              | true =>
                have HN2 : Hid (((es.take ((q + 1) + 1)).any fun x => bs.getD x false) = true) := by show _ = _; rw [HNX.out]; rfl
                clear HNX
                go_wp2
                go_roundw
                case rel => exact ⟨(q + 1) + 1, by omega, by go_num, by rw [HN2.out], below_drewN HBR.out nq⟩
                case measure => simp [intOf]; omega
              | false =>
                have HN2 : Hid (((es.take ((q + 1) + 1)).any fun x => bs.getD x false) = bj) := by show _ = _; rw [HNX.out]; rfl
                clear HNX
                go_wp2
                go_roundw
                case rel => exact ⟨(q + 1) + 1, by omega, by go_num, by rw [HN2.out], below_drewN HBR.out nq⟩
                case measure => simp [intOf]; omega
          · have HX : Hid (((es.take j).any fun x => bs.getD x false) = bC) := by
              show _ = _
              rw [List.take_of_length_le (by omega), HFIN.out]
            generalize ((es.take j).any fun x => bs.getD x false) = sj at *
            have HX2 : Hid (sj = bC) := HX.out
            clear HX HFIN
            obtain rfl := HX2.out
            cases sj
            all_goals
              go_wp2
              go_ret
              exact ⟨rfl, below_step HBC.out HBR.out⟩
      · rw [decide_eq_true c1] at hs1
        rw [decide_eq_true c2] at hs2
        rw [decide_eq_false c3] at hs3
        clear c1 c2 c3
        go_enter Try.func5, Try.ntmps5
        go_wp2_with fail
        refine h0.mono ?_
        rintro e w1 ⟨rfl, hb1⟩
        have j1 := hs1 w1 hb1
        have HB1 : Hid (Below w.heap.size w w1) := hb1
        clear h0 hs1 hb1
        go_wp2_with fail
        refine j1.mono ?_
        rintro e w2 ⟨rfl, hb2⟩
        have HB2 : Hid (Below w.heap.size w w2) := below_step HB1.out hb2
        have j2 := hs2 w2 HB2.out
        clear j1 hs2 hb2
        go_wp2_with fail
        refine j2.mono ?_
        rintro e w3 ⟨rfl, hb3⟩
        have HB3 : Hid (Below w.heap.size w w3) := below_step HB2.out hb3
        have j3 := hs3 w3 HB3.out
        clear j2 hs3 hb3
        go_wp2_with fail
        refine j3.mono ?_
        rintro e w4 ⟨rfl, hb4⟩
        have HB4 : Hid (Below w.heap.size w w4) := below_step HB3.out hb4
        clear j3 hb4
        go_wp2
        go_ret
        exact ⟨rfl, HB4.out⟩
    · rw [decide_eq_true c1] at hs1
      rw [decide_eq_false c2] at hs2
      clear c1 c2 hs3
      go_enter Try.func5, Try.ntmps5
      go_wp2_with fail
      refine h0.mono ?_
      rintro e w1 ⟨rfl, hb1⟩
      have j1 := hs1 w1 hb1
      have HB1 : Hid (Below w.heap.size w w1) := hb1
      clear h0 hs1 hb1
      go_wp2_with fail
      refine j1.mono ?_
      rintro e w2 ⟨rfl, hb2⟩
      have HB2 : Hid (Below w.heap.size w w2) := below_step HB1.out hb2
      have j2 := hs2 w2 HB2.out
      clear j1 hs2 hb2
      go_wp2_with fail
      refine j2.mono ?_
      rintro e w3 ⟨rfl, hb3⟩
      have HB3 : Hid (Below w.heap.size w w3) := below_step HB2.out hb3
      clear j2 hb3
      go_wp2
      go_ret
      exact ⟨rfl, HB3.out⟩
  · rw [decide_eq_false c1] at hs1
    clear c1 hs2 hs3
    go_enter Try.func5, Try.ntmps5
    go_wp2_with fail
    refine h0.mono ?_
    rintro e w1 ⟨rfl, hb1⟩
    have j1 := hs1 w1 hb1
    have HB1 : Hid (Below w.heap.size w w1) := hb1
    clear h0 hs1 hb1
    go_wp2_with fail
    refine j1.mono ?_
    rintro e w2 ⟨rfl, hb2⟩
    have HB2 : Hid (Below w.heap.size w w2) := below_step HB1.out hb2
    clear j1 hb2
    go_wp2
    go_ret
    exact ⟨rfl, HB2.out⟩
end Go.Proofs.Ytfojlondflachaa
