/- Stage 7's law MeanDuals over the contracts of package mean (handed in). -/
import Derived.Test.YtfojlondflachaaWMn3
namespace Go.Proofs.Ytfojlondflachaa
open Go.RowKit Go.Maps

set_option maxRecDepth 100000 in
set_option maxHeartbeats 8000000 in
theorem Try.duals_any (hAll : AllC 11) (hAw : ∀ w, Calls Try.prog 24 #[] w fun e w' => e = .returned (.bool true) ∧ Below w.heap.size w w')
    (a : Option Addr) (la ca : Nat) (xa : List Tk) (b : Option Addr) (lb cb : Nat) (xb : List Tk) (d : Option Addr) (m c : Nat) (zs : List Int) (w : World) (hA : TkSl w a la ca xa) (hB : TkSl w b lb cb xb) (hL : LtSl w d m c zs) :
    Calls Try.prog 4 #[.slice a la ca, .slice b lb cb, .slice d m c] w fun e w' => e = .returned (.bool true) ∧ Below w.heap.size w w' := by
  have h0 := hAw w
  have hs1 := fun w' (hw : Below w.heap.size w w') => Try.msmall_any a la ca xa d m c zs w' (hA.up hw) (hL.up hw)
  have hs2 := fun w' (hw : Below w.heap.size w w') => Try.msmall_any b lb cb xb d m c zs w' (hB.up hw) (hL.up hw)
  have HE0 : Hid (EnvOk w [(a, la, ca, xa), (b, lb, cb, xb)]) := fun e he => by
    simp only [List.mem_cons, List.not_mem_nil, or_false] at he
    rcases he with rfl | rfl
    · exact hA
    · exact hB
  have HL0 : Hid (LtSl w d m c zs) := hL
  have HAll : Hid (AllC 11) := hAll
  clear hA hB hL hAll hAw
  by_cases c1 : la ≤ 30 ∧ m ≤ 16 ∧ lookE xa 1 = 0
  · by_cases c2 : lb ≤ 30 ∧ m ≤ 16 ∧ lookE xb 1 = 0
    · obtain ⟨Ta, -, -, -, ha⟩ := Mn.of (zN zs) c1.2.2
      obtain ⟨Tb, -, -, -, hb⟩ := Mn.of (zN zs) c2.2.2
      have MA : Hid (Mn (zN zs) xa (semTr (zN zs) Ta)) := ha
      have MB : Hid (Mn (zN zs) xb (semTr (zN zs) Tb)) := hb
      generalize semTr (zN zs) Ta = va at *
      generalize semTr (zN zs) Tb = vb at *
      rw [decide_eq_true c1] at hs1
      rw [decide_eq_true c2] at hs2
      have hun : ∀ (op : Nat) (z : Int), z = (op : Int) → ∀ a len cap ts w', TkSl w' a len cap ts → op < 256 → Calls Try.prog 28 #[.int .u8 z, .slice a len cap] w' (BuiltR (unB op ts) w') := fun op z hz a len cap ts w' h ho => by rw [hz]; exact Try.mun_any op a len cap ts w' h ho
      have hbin : ∀ (op : Nat) (z : Int), z = (op : Int) → ∀ a b len cap len' cap' us bs w', TkSl w' a len cap us → TkSl w' b len' cap' bs → op < 256 → Calls Try.prog 29 #[.int .u8 z, .slice a len cap, .slice b len' cap'] w' (BuiltR (binB op us bs) w') := fun op z hz a b len cap len' cap' us bs w' h k ho => by rw [hz]; exact Try.mbin_any op a b len cap len' cap' us bs w' h k ho
      have hop : ∀ (op : Nat) (z y : Int), z = (op : Int) → y = 100 + (op : Int) → op < 256 → ∀ w', Calls Try.prog 27 #[.int .u8 z] w' fun e w'' => e = .returned (.int .i64 y) ∧ w'' = w' := fun op z y hz hy ho w' => by rw [hz, hy]; exact Try.mop_any op w' ho
      have ht : ∀ (op : Nat) (z : Int), tokOf z = (op, 0) → (0 ≤ z ∧ z < 356) → ∀ w', Calls Try.prog 26 #[.slice (some ⟨w'.heap.size, 0, none⟩) 1 1] (w'.alloc (.cells #[.int .i64 z] 3)) (BuiltR [(op, 0)] w') := fun op z h1 h2 w' => Try.mt_lit [z] [(op, 0)] w' (by simp [h1]) (by simpa using h2) (by simp)
      clear c1 c2 ha hb
      go_enter Try.func4, Try.ntmps4
      go_wp2_with fail
      refine h0.mono ?_
      rintro e w1 ⟨rfl, hb1⟩
      have j1 := hs1 w1 hb1
      have HB1 : Hid (Below w.heap.size w w1) := hb1
      clear h0 hs1 hb1
      go_wp2_with fail
      refine j1.mono ?_
      rintro e w2 ⟨rfl, hb2⟩
      have HB2 : Hid (Below w.heap.size w w2) := below_step HB1.out hb2
      have j2 := hs2 w2 HB2.out
      clear j1 hs2 hb2 HB1
      go_wp2_with fail
      refine j2.mono ?_
      rintro e w3 ⟨rfl, hb3⟩
      have HB3 : Hid (Below w.heap.size w w3) := below_step HB2.out hb3
      have HE3 : Hid (EnvOk w3 [(a, la, ca, xa), (b, lb, cb, xb)]) := HE0.out.up HB3.out
      have HL3 : Hid (LtSl w3 d m c zs) := HL0.out.up HB3.out
      clear j2 hb3 HB2 HE0 HL0
      have q3 := hop 0 0 100 rfl rfl (by decide) w3
      go_wp2_with fail
      with_reducible refine q3.mono ?_
      rintro e w' ⟨rfl, hw'⟩
      obtain rfl := hw'.symm
      clear q3
      have j4 := ht 0 100 rfl (by decide) w3
      have M4 : Hid (Mn (zN zs) ([(0, 0)]) (semT (zN zs) 0 0 [])) := (Mn.leaf (zN zs) (op := 0) (p := 0) rfl)
      go_wp2_with fail
      with_reducible refine j4.mono ?_
      rintro e w4 ⟨a4, c4, rfl, hT4, hb4⟩
      dsimp only [List.length_cons, List.length_nil] at hT4 ⊢
      have HB4 : Hid (Below w.heap.size w w4) := below_step HB3.out hb4
      have HE4 : Hid (EnvOk w4 [(a4, 1, c4, [(0, 0)]), (a, la, ca, xa), (b, lb, cb, xb)]) := HE3.out.cons hb4 hT4
      have HL4 : Hid (LtSl w4 d m c zs) := HL3.out.up hb4
      clear j4 hT4 hb4 HB3 HE3 HL3
      have q4 := hop 1 1 101 rfl rfl (by decide) w4
      go_wp2_with fail
      with_reducible refine q4.mono ?_
      rintro e w' ⟨rfl, hw'⟩
      obtain rfl := hw'.symm
      clear q4
      have j5 := ht 1 101 rfl (by decide) w4
      have M5 : Hid (Mn (zN zs) ([(1, 0)]) (semT (zN zs) 1 0 [])) := (Mn.leaf (zN zs) (op := 1) (p := 0) rfl)
      go_wp2_with fail
      with_reducible refine j5.mono ?_
      rintro e w5 ⟨a5, c5, rfl, hT5, hb5⟩
      dsimp only [List.length_cons, List.length_nil] at hT5 ⊢
      have HB5 : Hid (Below w.heap.size w w5) := below_step HB4.out hb5
      have HE5 : Hid (EnvOk w5 [(a5, 1, c5, [(1, 0)]), (a4, 1, c4, [(0, 0)]), (a, la, ca, xa), (b, lb, cb, xb)]) := HE4.out.cons hb5 hT5
      have HL5 : Hid (LtSl w5 d m c zs) := HL4.out.up hb5
      clear j5 hT5 hb5 HB4 HE4 HL4
      have j6 := hun 6 6 rfl a la ca (xa) w5 (HE5.out (a, la, ca, xa) (List.mem_cons_of_mem _ (List.mem_cons_of_mem _ List.mem_cons_self))) (by decide)
      have M6 : Hid (Mn (zN zs) (unB 6 (xa)) (semT (zN zs) 6 0 [va])) := (Mn.un MA.out (op := 6) rfl)
      generalize unB 6 (xa) = y6 at j6 M6
      go_wp2_with fail
      with_reducible refine j6.mono ?_
      rintro e w6 ⟨a6, c6, rfl, hT6, hb6⟩
      have HB6 : Hid (Below w.heap.size w w6) := below_step HB5.out hb6
      have HE6 : Hid (EnvOk w6 [(a6, (y6).length, c6, y6), (a5, 1, c5, [(1, 0)]), (a4, 1, c4, [(0, 0)]), (a, la, ca, xa), (b, lb, cb, xb)]) := HE5.out.cons hb6 hT6
      have HL6 : Hid (LtSl w6 d m c zs) := HL5.out.up hb6
      clear j6 hT6 hb6 HB5 HE5 HL5
      have j7 := hun 6 6 rfl b lb cb (xb) w6 (HE6.out (b, lb, cb, xb) (List.mem_cons_of_mem _ (List.mem_cons_of_mem _ (List.mem_cons_of_mem _ (List.mem_cons_of_mem _ List.mem_cons_self))))) (by decide)
      have M7 : Hid (Mn (zN zs) (unB 6 (xb)) (semT (zN zs) 6 0 [vb])) := (Mn.un MB.out (op := 6) rfl)
      generalize unB 6 (xb) = y7 at j7 M7
      go_wp2_with fail
      with_reducible refine j7.mono ?_
      rintro e w7 ⟨a7, c7, rfl, hT7, hb7⟩
      have HB7 : Hid (Below w.heap.size w w7) := below_step HB6.out hb7
      have HE7 : Hid (EnvOk w7 [(a7, (y7).length, c7, y7), (a6, (y6).length, c6, y6), (a5, 1, c5, [(1, 0)]), (a4, 1, c4, [(0, 0)]), (a, la, ca, xa), (b, lb, cb, xb)]) := HE6.out.cons hb7 hT7
      have HL7 : Hid (LtSl w7 d m c zs) := HL6.out.up hb7
      clear j7 hT7 hb7 HB6 HE6 HL6
      have j8 := hbin 15 15 rfl a b la ca lb cb (xa) (xb) w7 (HE7.out (a, la, ca, xa) (List.mem_cons_of_mem _ (List.mem_cons_of_mem _ (List.mem_cons_of_mem _ (List.mem_cons_of_mem _ List.mem_cons_self))))) (HE7.out (b, lb, cb, xb) (List.mem_cons_of_mem _ (List.mem_cons_of_mem _ (List.mem_cons_of_mem _ (List.mem_cons_of_mem _ (List.mem_cons_of_mem _ List.mem_cons_self)))))) (by decide)
      have M8 : Hid (Mn (zN zs) (binB 15 (xa) (xb)) (semT (zN zs) 15 0 [va, vb])) := (Mn.bin MA.out MB.out (op := 15) rfl)
      generalize binB 15 (xa) (xb) = y8 at j8 M8
      go_wp2_with fail
      with_reducible refine j8.mono ?_
      rintro e w8 ⟨a8, c8, rfl, hT8, hb8⟩
      have HB8 : Hid (Below w.heap.size w w8) := below_step HB7.out hb8
      have HE8 : Hid (EnvOk w8 [(a8, (y8).length, c8, y8), (a7, (y7).length, c7, y7), (a6, (y6).length, c6, y6), (a5, 1, c5, [(1, 0)]), (a4, 1, c4, [(0, 0)]), (a, la, ca, xa), (b, lb, cb, xb)]) := HE7.out.cons hb8 hT8
      have HL8 : Hid (LtSl w8 d m c zs) := HL7.out.up hb8
      clear j8 hT8 hb8 HB7 HE7 HL7
      have j9 := hbin 16 16 rfl a b la ca lb cb (xa) (xb) w8 (HE8.out (a, la, ca, xa) (List.mem_cons_of_mem _ (List.mem_cons_of_mem _ (List.mem_cons_of_mem _ (List.mem_cons_of_mem _ (List.mem_cons_of_mem _ List.mem_cons_self)))))) (HE8.out (b, lb, cb, xb) (List.mem_cons_of_mem _ (List.mem_cons_of_mem _ (List.mem_cons_of_mem _ (List.mem_cons_of_mem _ (List.mem_cons_of_mem _ (List.mem_cons_of_mem _ List.mem_cons_self))))))) (by decide)
      have M9 : Hid (Mn (zN zs) (binB 16 (xa) (xb)) (semT (zN zs) 16 0 [va, vb])) := (Mn.bin MA.out MB.out (op := 16) rfl)
      generalize binB 16 (xa) (xb) = y9 at j9 M9
      go_wp2_with fail
      with_reducible refine j9.mono ?_
      rintro e w9 ⟨a9, c9, rfl, hT9, hb9⟩
      have HB9 : Hid (Below w.heap.size w w9) := below_step HB8.out hb9
      have HE9 : Hid (EnvOk w9 [(a9, (y9).length, c9, y9), (a8, (y8).length, c8, y8), (a7, (y7).length, c7, y7), (a6, (y6).length, c6, y6), (a5, 1, c5, [(1, 0)]), (a4, 1, c4, [(0, 0)]), (a, la, ca, xa), (b, lb, cb, xb)]) := HE8.out.cons hb9 hT9
      have HL9 : Hid (LtSl w9 d m c zs) := HL8.out.up hb9
      clear j9 hT9 hb9 HB8 HE8 HL8
      have j10 := hun 9 9 rfl a la ca (xa) w9 (HE9.out (a, la, ca, xa) (List.mem_cons_of_mem _ (List.mem_cons_of_mem _ (List.mem_cons_of_mem _ (List.mem_cons_of_mem _ (List.mem_cons_of_mem _ (List.mem_cons_of_mem _ List.mem_cons_self))))))) (by decide)
      have M10 : Hid (Mn (zN zs) (unB 9 (xa)) (semT (zN zs) 9 0 [va])) := (Mn.un MA.out (op := 9) rfl)
      generalize unB 9 (xa) = y10 at j10 M10
      go_wp2_with fail
      with_reducible refine j10.mono ?_
      rintro e w10 ⟨a10, c10, rfl, hT10, hb10⟩
      have HB10 : Hid (Below w.heap.size w w10) := below_step HB9.out hb10
      have HE10 : Hid (EnvOk w10 [(a10, (y10).length, c10, y10), (a9, (y9).length, c9, y9), (a8, (y8).length, c8, y8), (a7, (y7).length, c7, y7), (a6, (y6).length, c6, y6), (a5, 1, c5, [(1, 0)]), (a4, 1, c4, [(0, 0)]), (a, la, ca, xa), (b, lb, cb, xb)]) := HE9.out.cons hb10 hT10
      have HL10 : Hid (LtSl w10 d m c zs) := HL9.out.up hb10
      clear j10 hT10 hb10 HB9 HE9 HL9
      have j11 := hbin 15 15 rfl a4 a 1 c4 la ca ([(0, 0)]) (xa) w10 (HE10.out (a4, 1, c4, [(0, 0)]) (List.mem_cons_of_mem _ (List.mem_cons_of_mem _ (List.mem_cons_of_mem _ (List.mem_cons_of_mem _ (List.mem_cons_of_mem _ (List.mem_cons_of_mem _ List.mem_cons_self))))))) (HE10.out (a, la, ca, xa) (List.mem_cons_of_mem _ (List.mem_cons_of_mem _ (List.mem_cons_of_mem _ (List.mem_cons_of_mem _ (List.mem_cons_of_mem _ (List.mem_cons_of_mem _ (List.mem_cons_of_mem _ List.mem_cons_self)))))))) (by decide)
      have M11 : Hid (Mn (zN zs) (binB 15 ([(0, 0)]) (xa)) (semT (zN zs) 15 0 [(semT (zN zs) 0 0 []), va])) := (Mn.bin M4.out MA.out (op := 15) rfl)
      generalize binB 15 ([(0, 0)]) (xa) = y11 at j11 M11
      go_wp2_with fail
      with_reducible refine j11.mono ?_
      rintro e w11 ⟨a11, c11, rfl, hT11, hb11⟩
      have HB11 : Hid (Below w.heap.size w w11) := below_step HB10.out hb11
      have HE11 : Hid (EnvOk w11 [(a11, (y11).length, c11, y11), (a10, (y10).length, c10, y10), (a9, (y9).length, c9, y9), (a8, (y8).length, c8, y8), (a7, (y7).length, c7, y7), (a6, (y6).length, c6, y6), (a5, 1, c5, [(1, 0)]), (a4, 1, c4, [(0, 0)]), (a, la, ca, xa), (b, lb, cb, xb)]) := HE10.out.cons hb11 hT11
      have HL11 : Hid (LtSl w11 d m c zs) := HL10.out.up hb11
      clear j11 hT11 hb11 HB10 HE10 HL10
      have j12 := Try.malike_any HAll.out a10 a11 (y10).length c10 (y11).length c11 (y10) (y11) d m c zs w11 (HE11.out (a10, (y10).length, c10, y10) (List.mem_cons_of_mem _ List.mem_cons_self)) (HE11.out (a11, (y11).length, c11, y11) List.mem_cons_self) HL11.out (semT (zN zs) 9 0 [va]) (semT (zN zs) 15 0 [(semT (zN zs) 0 0 []), va]) M10.out M11.out (fun i hi => dual_finally _ _ i)
      go_wp2_with fail
      with_reducible refine j12.mono ?_
      rintro e w12 ⟨rfl, hb12⟩
      have HB12 : Hid (Below w.heap.size w w12) := below_step HB11.out hb12
      have HE12 : Hid (EnvOk w12 [(a11, (y11).length, c11, y11), (a10, (y10).length, c10, y10), (a9, (y9).length, c9, y9), (a8, (y8).length, c8, y8), (a7, (y7).length, c7, y7), (a6, (y6).length, c6, y6), (a5, 1, c5, [(1, 0)]), (a4, 1, c4, [(0, 0)]), (a, la, ca, xa), (b, lb, cb, xb)]) := HE11.out.up hb12
      have HL12 : Hid (LtSl w12 d m c zs) := HL11.out.up hb12
      clear j12 hb12 HB11 HE11 HL11
      have HF12 : Hid (EnvOk w12 [(a9, (y9).length, c9, y9), (a8, (y8).length, c8, y8), (a7, (y7).length, c7, y7), (a6, (y6).length, c6, y6), (a5, 1, c5, [(1, 0)]), (a4, 1, c4, [(0, 0)]), (a, la, ca, xa), (b, lb, cb, xb)]) := fun e he => HE12.out e (List.mem_cons_of_mem _ (List.mem_cons_of_mem _ he))
      clear HE12
      have HE12 := HF12
      clear HF12
      have j13 := hun 10 10 rfl a la ca (xa) w12 (HE12.out (a, la, ca, xa) (List.mem_cons_of_mem _ (List.mem_cons_of_mem _ (List.mem_cons_of_mem _ (List.mem_cons_of_mem _ (List.mem_cons_of_mem _ (List.mem_cons_of_mem _ List.mem_cons_self))))))) (by decide)
      have M13 : Hid (Mn (zN zs) (unB 10 (xa)) (semT (zN zs) 10 0 [va])) := (Mn.un MA.out (op := 10) rfl)
      generalize unB 10 (xa) = y13 at j13 M13
      go_wp2_with fail
      with_reducible refine j13.mono ?_
      rintro e w13 ⟨a13, c13, rfl, hT13, hb13⟩
      have HB13 : Hid (Below w.heap.size w w13) := below_step HB12.out hb13
      have HE13 : Hid (EnvOk w13 [(a13, (y13).length, c13, y13), (a9, (y9).length, c9, y9), (a8, (y8).length, c8, y8), (a7, (y7).length, c7, y7), (a6, (y6).length, c6, y6), (a5, 1, c5, [(1, 0)]), (a4, 1, c4, [(0, 0)]), (a, la, ca, xa), (b, lb, cb, xb)]) := HE12.out.cons hb13 hT13
      have HL13 : Hid (LtSl w13 d m c zs) := HL12.out.up hb13
      clear j13 hT13 hb13 HB12 HE12 HL12
      have j14 := hbin 16 16 rfl a5 a 1 c5 la ca ([(1, 0)]) (xa) w13 (HE13.out (a5, 1, c5, [(1, 0)]) (List.mem_cons_of_mem _ (List.mem_cons_of_mem _ (List.mem_cons_of_mem _ (List.mem_cons_of_mem _ (List.mem_cons_of_mem _ List.mem_cons_self)))))) (HE13.out (a, la, ca, xa) (List.mem_cons_of_mem _ (List.mem_cons_of_mem _ (List.mem_cons_of_mem _ (List.mem_cons_of_mem _ (List.mem_cons_of_mem _ (List.mem_cons_of_mem _ (List.mem_cons_of_mem _ List.mem_cons_self)))))))) (by decide)
      have M14 : Hid (Mn (zN zs) (binB 16 ([(1, 0)]) (xa)) (semT (zN zs) 16 0 [(semT (zN zs) 1 0 []), va])) := (Mn.bin M5.out MA.out (op := 16) rfl)
      generalize binB 16 ([(1, 0)]) (xa) = y14 at j14 M14
      go_wp2_with fail
      with_reducible refine j14.mono ?_
      rintro e w14 ⟨a14, c14, rfl, hT14, hb14⟩
      have HB14 : Hid (Below w.heap.size w w14) := below_step HB13.out hb14
      have HE14 : Hid (EnvOk w14 [(a14, (y14).length, c14, y14), (a13, (y13).length, c13, y13), (a9, (y9).length, c9, y9), (a8, (y8).length, c8, y8), (a7, (y7).length, c7, y7), (a6, (y6).length, c6, y6), (a5, 1, c5, [(1, 0)]), (a4, 1, c4, [(0, 0)]), (a, la, ca, xa), (b, lb, cb, xb)]) := HE13.out.cons hb14 hT14
      have HL14 : Hid (LtSl w14 d m c zs) := HL13.out.up hb14
      clear j14 hT14 hb14 HB13 HE13 HL13
      have j15 := Try.malike_any HAll.out a13 a14 (y13).length c13 (y14).length c14 (y13) (y14) d m c zs w14 (HE14.out (a13, (y13).length, c13, y13) (List.mem_cons_of_mem _ List.mem_cons_self)) (HE14.out (a14, (y14).length, c14, y14) List.mem_cons_self) HL14.out (semT (zN zs) 10 0 [va]) (semT (zN zs) 16 0 [(semT (zN zs) 1 0 []), va]) M13.out M14.out (fun i hi => dual_globally _ _ i)
      go_wp2_with fail
      with_reducible refine j15.mono ?_
      rintro e w15 ⟨rfl, hb15⟩
      have HB15 : Hid (Below w.heap.size w w15) := below_step HB14.out hb15
      have HE15 : Hid (EnvOk w15 [(a14, (y14).length, c14, y14), (a13, (y13).length, c13, y13), (a9, (y9).length, c9, y9), (a8, (y8).length, c8, y8), (a7, (y7).length, c7, y7), (a6, (y6).length, c6, y6), (a5, 1, c5, [(1, 0)]), (a4, 1, c4, [(0, 0)]), (a, la, ca, xa), (b, lb, cb, xb)]) := HE14.out.up hb15
      have HL15 : Hid (LtSl w15 d m c zs) := HL14.out.up hb15
      clear j15 hb15 HB14 HE14 HL14
      have HF15 : Hid (EnvOk w15 [(a9, (y9).length, c9, y9), (a8, (y8).length, c8, y8), (a7, (y7).length, c7, y7), (a6, (y6).length, c6, y6), (a5, 1, c5, [(1, 0)]), (a4, 1, c4, [(0, 0)]), (a, la, ca, xa), (b, lb, cb, xb)]) := fun e he => HE15.out e (List.mem_cons_of_mem _ (List.mem_cons_of_mem _ he))
      clear HE15
      have HE15 := HF15
      clear HF15
      have j16 := hun 8 8 rfl a la ca (xa) w15 (HE15.out (a, la, ca, xa) (List.mem_cons_of_mem _ (List.mem_cons_of_mem _ (List.mem_cons_of_mem _ (List.mem_cons_of_mem _ (List.mem_cons_of_mem _ (List.mem_cons_of_mem _ List.mem_cons_self))))))) (by decide)
      have M16 : Hid (Mn (zN zs) (unB 8 (xa)) (semT (zN zs) 8 0 [va])) := (Mn.un MA.out (op := 8) rfl)
      generalize unB 8 (xa) = y16 at j16 M16
      go_wp2_with fail
      with_reducible refine j16.mono ?_
      rintro e w16 ⟨a16, c16, rfl, hT16, hb16⟩
      have HB16 : Hid (Below w.heap.size w w16) := below_step HB15.out hb16
      have HE16 : Hid (EnvOk w16 [(a16, (y16).length, c16, y16), (a9, (y9).length, c9, y9), (a8, (y8).length, c8, y8), (a7, (y7).length, c7, y7), (a6, (y6).length, c6, y6), (a5, 1, c5, [(1, 0)]), (a4, 1, c4, [(0, 0)]), (a, la, ca, xa), (b, lb, cb, xb)]) := HE15.out.cons hb16 hT16
      have HL16 : Hid (LtSl w16 d m c zs) := HL15.out.up hb16
      clear j16 hT16 hb16 HB15 HE15 HL15
      have j17 := hun 7 7 rfl a6 (y6).length c6 (y6) w16 (HE16.out (a6, (y6).length, c6, y6) (List.mem_cons_of_mem _ (List.mem_cons_of_mem _ (List.mem_cons_of_mem _ (List.mem_cons_of_mem _ List.mem_cons_self))))) (by decide)
      have M17 : Hid (Mn (zN zs) (unB 7 (y6)) (semT (zN zs) 7 0 [(semT (zN zs) 6 0 [va])])) := (Mn.un M6.out (op := 7) rfl)
      generalize unB 7 (y6) = y17 at j17 M17
      go_wp2_with fail
      with_reducible refine j17.mono ?_
      rintro e w17 ⟨a17, c17, rfl, hT17, hb17⟩
      have HB17 : Hid (Below w.heap.size w w17) := below_step HB16.out hb17
      have HE17 : Hid (EnvOk w17 [(a17, (y17).length, c17, y17), (a16, (y16).length, c16, y16), (a9, (y9).length, c9, y9), (a8, (y8).length, c8, y8), (a7, (y7).length, c7, y7), (a6, (y6).length, c6, y6), (a5, 1, c5, [(1, 0)]), (a4, 1, c4, [(0, 0)]), (a, la, ca, xa), (b, lb, cb, xb)]) := HE16.out.cons hb17 hT17
      have HL17 : Hid (LtSl w17 d m c zs) := HL16.out.up hb17
      clear j17 hT17 hb17 HB16 HE16 HL16
      have j18 := hun 6 6 rfl a17 (y17).length c17 (y17) w17 (HE17.out (a17, (y17).length, c17, y17) List.mem_cons_self) (by decide)
      have M18 : Hid (Mn (zN zs) (unB 6 (y17)) (semT (zN zs) 6 0 [(semT (zN zs) 7 0 [(semT (zN zs) 6 0 [va])])])) := (Mn.un M17.out (op := 6) rfl)
      generalize unB 6 (y17) = y18 at j18 M18
      go_wp2_with fail
      with_reducible refine j18.mono ?_
      rintro e w18 ⟨a18, c18, rfl, hT18, hb18⟩
      have HB18 : Hid (Below w.heap.size w w18) := below_step HB17.out hb18
      have HE18 : Hid (EnvOk w18 [(a18, (y18).length, c18, y18), (a17, (y17).length, c17, y17), (a16, (y16).length, c16, y16), (a9, (y9).length, c9, y9), (a8, (y8).length, c8, y8), (a7, (y7).length, c7, y7), (a6, (y6).length, c6, y6), (a5, 1, c5, [(1, 0)]), (a4, 1, c4, [(0, 0)]), (a, la, ca, xa), (b, lb, cb, xb)]) := HE17.out.cons hb18 hT18
      have HL18 : Hid (LtSl w18 d m c zs) := HL17.out.up hb18
      clear j18 hT18 hb18 HB17 HE17 HL17
      have j19 := Try.malike_any HAll.out a16 a18 (y16).length c16 (y18).length c18 (y16) (y18) d m c zs w18 (HE18.out (a16, (y16).length, c16, y16) (List.mem_cons_of_mem _ (List.mem_cons_of_mem _ List.mem_cons_self))) (HE18.out (a18, (y18).length, c18, y18) List.mem_cons_self) HL18.out (semT (zN zs) 8 0 [va]) (semT (zN zs) 6 0 [(semT (zN zs) 7 0 [(semT (zN zs) 6 0 [va])])]) M16.out M18.out (fun i hi => dual_weak _ _ i)
      go_wp2_with fail
      with_reducible refine j19.mono ?_
      rintro e w19 ⟨rfl, hb19⟩
      have HB19 : Hid (Below w.heap.size w w19) := below_step HB18.out hb19
      have HE19 : Hid (EnvOk w19 [(a18, (y18).length, c18, y18), (a17, (y17).length, c17, y17), (a16, (y16).length, c16, y16), (a9, (y9).length, c9, y9), (a8, (y8).length, c8, y8), (a7, (y7).length, c7, y7), (a6, (y6).length, c6, y6), (a5, 1, c5, [(1, 0)]), (a4, 1, c4, [(0, 0)]), (a, la, ca, xa), (b, lb, cb, xb)]) := HE18.out.up hb19
      have HL19 : Hid (LtSl w19 d m c zs) := HL18.out.up hb19
      clear j19 hb19 HB18 HE18 HL18
      have HF19 : Hid (EnvOk w19 [(a9, (y9).length, c9, y9), (a8, (y8).length, c8, y8), (a7, (y7).length, c7, y7), (a6, (y6).length, c6, y6), (a5, 1, c5, [(1, 0)]), (a4, 1, c4, [(0, 0)]), (a, la, ca, xa), (b, lb, cb, xb)]) := fun e he => HE19.out e (List.mem_cons_of_mem _ (List.mem_cons_of_mem _ (List.mem_cons_of_mem _ he)))
      clear HE19
      have HE19 := HF19
      clear HF19
      have j20 := hbin 15 15 rfl a6 a7 (y6).length c6 (y7).length c7 (y6) (y7) w19 (HE19.out (a6, (y6).length, c6, y6) (List.mem_cons_of_mem _ (List.mem_cons_of_mem _ (List.mem_cons_of_mem _ List.mem_cons_self)))) (HE19.out (a7, (y7).length, c7, y7) (List.mem_cons_of_mem _ (List.mem_cons_of_mem _ List.mem_cons_self))) (by decide)
      have M20 : Hid (Mn (zN zs) (binB 15 (y6) (y7)) (semT (zN zs) 15 0 [(semT (zN zs) 6 0 [va]), (semT (zN zs) 6 0 [vb])])) := (Mn.bin M6.out M7.out (op := 15) rfl)
      generalize binB 15 (y6) (y7) = y20 at j20 M20
      go_wp2_with fail
      with_reducible refine j20.mono ?_
      rintro e w20 ⟨a20, c20, rfl, hT20, hb20⟩
      have HB20 : Hid (Below w.heap.size w w20) := below_step HB19.out hb20
      have HE20 : Hid (EnvOk w20 [(a20, (y20).length, c20, y20), (a9, (y9).length, c9, y9), (a8, (y8).length, c8, y8), (a7, (y7).length, c7, y7), (a6, (y6).length, c6, y6), (a5, 1, c5, [(1, 0)]), (a4, 1, c4, [(0, 0)]), (a, la, ca, xa), (b, lb, cb, xb)]) := HE19.out.cons hb20 hT20
      have HL20 : Hid (LtSl w20 d m c zs) := HL19.out.up hb20
      clear j20 hT20 hb20 HB19 HE19 HL19
      have j21 := hun 6 6 rfl a20 (y20).length c20 (y20) w20 (HE20.out (a20, (y20).length, c20, y20) List.mem_cons_self) (by decide)
      have M21 : Hid (Mn (zN zs) (unB 6 (y20)) (semT (zN zs) 6 0 [(semT (zN zs) 15 0 [(semT (zN zs) 6 0 [va]), (semT (zN zs) 6 0 [vb])])])) := (Mn.un M20.out (op := 6) rfl)
      generalize unB 6 (y20) = y21 at j21 M21
      go_wp2_with fail
      with_reducible refine j21.mono ?_
      rintro e w21 ⟨a21, c21, rfl, hT21, hb21⟩
      have HB21 : Hid (Below w.heap.size w w21) := below_step HB20.out hb21
      have HE21 : Hid (EnvOk w21 [(a21, (y21).length, c21, y21), (a20, (y20).length, c20, y20), (a9, (y9).length, c9, y9), (a8, (y8).length, c8, y8), (a7, (y7).length, c7, y7), (a6, (y6).length, c6, y6), (a5, 1, c5, [(1, 0)]), (a4, 1, c4, [(0, 0)]), (a, la, ca, xa), (b, lb, cb, xb)]) := HE20.out.cons hb21 hT21
      have HL21 : Hid (LtSl w21 d m c zs) := HL20.out.up hb21
      clear j21 hT21 hb21 HB20 HE20 HL20
      have j22 := Try.malike_any HAll.out a9 a21 (y9).length c9 (y21).length c21 (y9) (y21) d m c zs w21 (HE21.out (a9, (y9).length, c9, y9) (List.mem_cons_of_mem _ (List.mem_cons_of_mem _ List.mem_cons_self))) (HE21.out (a21, (y21).length, c21, y21) List.mem_cons_self) HL21.out (semT (zN zs) 16 0 [va, vb]) (semT (zN zs) 6 0 [(semT (zN zs) 15 0 [(semT (zN zs) 6 0 [va]), (semT (zN zs) 6 0 [vb])])]) M9.out M21.out (fun i hi => dual_release _ _ _ i)
      go_wp2_with fail
      with_reducible refine j22.mono ?_
      rintro e w22 ⟨rfl, hb22⟩
      have HB22 : Hid (Below w.heap.size w w22) := below_step HB21.out hb22
      have HE22 : Hid (EnvOk w22 [(a21, (y21).length, c21, y21), (a20, (y20).length, c20, y20), (a9, (y9).length, c9, y9), (a8, (y8).length, c8, y8), (a7, (y7).length, c7, y7), (a6, (y6).length, c6, y6), (a5, 1, c5, [(1, 0)]), (a4, 1, c4, [(0, 0)]), (a, la, ca, xa), (b, lb, cb, xb)]) := HE21.out.up hb22
      have HL22 : Hid (LtSl w22 d m c zs) := HL21.out.up hb22
      clear j22 hb22 HB21 HE21 HL21
      have HF22 : Hid (EnvOk w22 [(a9, (y9).length, c9, y9), (a8, (y8).length, c8, y8), (a7, (y7).length, c7, y7), (a6, (y6).length, c6, y6), (a5, 1, c5, [(1, 0)]), (a4, 1, c4, [(0, 0)]), (a, la, ca, xa), (b, lb, cb, xb)]) := fun e he => HE22.out e (List.mem_cons_of_mem _ (List.mem_cons_of_mem _ he))
      clear HE22
      have HE22 := HF22
      clear HF22
      have j23 := hbin 13 13 rfl a b la ca lb cb (xa) (xb) w22 (HE22.out (a, la, ca, xa) (List.mem_cons_of_mem _ (List.mem_cons_of_mem _ (List.mem_cons_of_mem _ (List.mem_cons_of_mem _ (List.mem_cons_of_mem _ (List.mem_cons_of_mem _ List.mem_cons_self))))))) (HE22.out (b, lb, cb, xb) (List.mem_cons_of_mem _ (List.mem_cons_of_mem _ (List.mem_cons_of_mem _ (List.mem_cons_of_mem _ (List.mem_cons_of_mem _ (List.mem_cons_of_mem _ (List.mem_cons_of_mem _ List.mem_cons_self)))))))) (by decide)
      have M23 : Hid (Mn (zN zs) (binB 13 (xa) (xb)) (semT (zN zs) 13 0 [va, vb])) := (Mn.bin MA.out MB.out (op := 13) rfl)
      generalize binB 13 (xa) (xb) = y23 at j23 M23
      go_wp2_with fail
      with_reducible refine j23.mono ?_
      rintro e w23 ⟨a23, c23, rfl, hT23, hb23⟩
      have HB23 : Hid (Below w.heap.size w w23) := below_step HB22.out hb23
      have HE23 : Hid (EnvOk w23 [(a23, (y23).length, c23, y23), (a9, (y9).length, c9, y9), (a8, (y8).length, c8, y8), (a7, (y7).length, c7, y7), (a6, (y6).length, c6, y6), (a5, 1, c5, [(1, 0)]), (a4, 1, c4, [(0, 0)]), (a, la, ca, xa), (b, lb, cb, xb)]) := HE22.out.cons hb23 hT23
      have HL23 : Hid (LtSl w23 d m c zs) := HL22.out.up hb23
      clear j23 hT23 hb23 HB22 HE22 HL22
      have j24 := hbin 12 12 rfl a6 b (y6).length c6 lb cb (y6) (xb) w23 (HE23.out (a6, (y6).length, c6, y6) (List.mem_cons_of_mem _ (List.mem_cons_of_mem _ (List.mem_cons_of_mem _ (List.mem_cons_of_mem _ List.mem_cons_self))))) (HE23.out (b, lb, cb, xb) (List.mem_cons_of_mem _ (List.mem_cons_of_mem _ (List.mem_cons_of_mem _ (List.mem_cons_of_mem _ (List.mem_cons_of_mem _ (List.mem_cons_of_mem _ (List.mem_cons_of_mem _ (List.mem_cons_of_mem _ List.mem_cons_self))))))))) (by decide)
      have M24 : Hid (Mn (zN zs) (binB 12 (y6) (xb)) (semT (zN zs) 12 0 [(semT (zN zs) 6 0 [va]), vb])) := (Mn.bin M6.out MB.out (op := 12) rfl)
      generalize binB 12 (y6) (xb) = y24 at j24 M24
      go_wp2_with fail
      with_reducible refine j24.mono ?_
      rintro e w24 ⟨a24, c24, rfl, hT24, hb24⟩
      have HB24 : Hid (Below w.heap.size w w24) := below_step HB23.out hb24
      have HE24 : Hid (EnvOk w24 [(a24, (y24).length, c24, y24), (a23, (y23).length, c23, y23), (a9, (y9).length, c9, y9), (a8, (y8).length, c8, y8), (a7, (y7).length, c7, y7), (a6, (y6).length, c6, y6), (a5, 1, c5, [(1, 0)]), (a4, 1, c4, [(0, 0)]), (a, la, ca, xa), (b, lb, cb, xb)]) := HE23.out.cons hb24 hT24
      have HL24 : Hid (LtSl w24 d m c zs) := HL23.out.up hb24
      clear j24 hT24 hb24 HB23 HE23 HL23
      have j25 := Try.malike_any HAll.out a23 a24 (y23).length c23 (y24).length c24 (y23) (y24) d m c zs w24 (HE24.out (a23, (y23).length, c23, y23) (List.mem_cons_of_mem _ List.mem_cons_self)) (HE24.out (a24, (y24).length, c24, y24) List.mem_cons_self) HL24.out (semT (zN zs) 13 0 [va, vb]) (semT (zN zs) 12 0 [(semT (zN zs) 6 0 [va]), vb]) M23.out M24.out (fun i hi => dual_imp _ _ _ i)
      go_wp2_with fail
      with_reducible refine j25.mono ?_
      rintro e w25 ⟨rfl, hb25⟩
      have HB25 : Hid (Below w.heap.size w w25) := below_step HB24.out hb25
      have HE25 : Hid (EnvOk w25 [(a24, (y24).length, c24, y24), (a23, (y23).length, c23, y23), (a9, (y9).length, c9, y9), (a8, (y8).length, c8, y8), (a7, (y7).length, c7, y7), (a6, (y6).length, c6, y6), (a5, 1, c5, [(1, 0)]), (a4, 1, c4, [(0, 0)]), (a, la, ca, xa), (b, lb, cb, xb)]) := HE24.out.up hb25
      have HL25 : Hid (LtSl w25 d m c zs) := HL24.out.up hb25
      clear j25 hb25 HB24 HE24 HL24
      have HF25 : Hid (EnvOk w25 [(a9, (y9).length, c9, y9), (a8, (y8).length, c8, y8), (a7, (y7).length, c7, y7), (a6, (y6).length, c6, y6), (a5, 1, c5, [(1, 0)]), (a4, 1, c4, [(0, 0)]), (a, la, ca, xa), (b, lb, cb, xb)]) := fun e he => HE25.out e (List.mem_cons_of_mem _ (List.mem_cons_of_mem _ he))
      clear HE25
      have HE25 := HF25
      clear HF25
      have j26 := hbin 14 14 rfl a b la ca lb cb (xa) (xb) w25 (HE25.out (a, la, ca, xa) (List.mem_cons_of_mem _ (List.mem_cons_of_mem _ (List.mem_cons_of_mem _ (List.mem_cons_of_mem _ (List.mem_cons_of_mem _ (List.mem_cons_of_mem _ List.mem_cons_self))))))) (HE25.out (b, lb, cb, xb) (List.mem_cons_of_mem _ (List.mem_cons_of_mem _ (List.mem_cons_of_mem _ (List.mem_cons_of_mem _ (List.mem_cons_of_mem _ (List.mem_cons_of_mem _ (List.mem_cons_of_mem _ List.mem_cons_self)))))))) (by decide)
      have M26 : Hid (Mn (zN zs) (binB 14 (xa) (xb)) (semT (zN zs) 14 0 [va, vb])) := (Mn.bin MA.out MB.out (op := 14) rfl)
      generalize binB 14 (xa) (xb) = y26 at j26 M26
      go_wp2_with fail
      with_reducible refine j26.mono ?_
      rintro e w26 ⟨a26, c26, rfl, hT26, hb26⟩
      have HB26 : Hid (Below w.heap.size w w26) := below_step HB25.out hb26
      have HE26 : Hid (EnvOk w26 [(a26, (y26).length, c26, y26), (a9, (y9).length, c9, y9), (a8, (y8).length, c8, y8), (a7, (y7).length, c7, y7), (a6, (y6).length, c6, y6), (a5, 1, c5, [(1, 0)]), (a4, 1, c4, [(0, 0)]), (a, la, ca, xa), (b, lb, cb, xb)]) := HE25.out.cons hb26 hT26
      have HL26 : Hid (LtSl w26 d m c zs) := HL25.out.up hb26
      clear j26 hT26 hb26 HB25 HE25 HL25
      have j27 := hbin 13 13 rfl a b la ca lb cb (xa) (xb) w26 (HE26.out (a, la, ca, xa) (List.mem_cons_of_mem _ (List.mem_cons_of_mem _ (List.mem_cons_of_mem _ (List.mem_cons_of_mem _ (List.mem_cons_of_mem _ (List.mem_cons_of_mem _ (List.mem_cons_of_mem _ List.mem_cons_self)))))))) (HE26.out (b, lb, cb, xb) (List.mem_cons_of_mem _ (List.mem_cons_of_mem _ (List.mem_cons_of_mem _ (List.mem_cons_of_mem _ (List.mem_cons_of_mem _ (List.mem_cons_of_mem _ (List.mem_cons_of_mem _ (List.mem_cons_of_mem _ List.mem_cons_self))))))))) (by decide)
      have M27 : Hid (Mn (zN zs) (binB 13 (xa) (xb)) (semT (zN zs) 13 0 [va, vb])) := (Mn.bin MA.out MB.out (op := 13) rfl)
      generalize binB 13 (xa) (xb) = y27 at j27 M27
      go_wp2_with fail
      with_reducible refine j27.mono ?_
      rintro e w27 ⟨a27, c27, rfl, hT27, hb27⟩
      have HB27 : Hid (Below w.heap.size w w27) := below_step HB26.out hb27
      have HE27 : Hid (EnvOk w27 [(a27, (y27).length, c27, y27), (a26, (y26).length, c26, y26), (a9, (y9).length, c9, y9), (a8, (y8).length, c8, y8), (a7, (y7).length, c7, y7), (a6, (y6).length, c6, y6), (a5, 1, c5, [(1, 0)]), (a4, 1, c4, [(0, 0)]), (a, la, ca, xa), (b, lb, cb, xb)]) := HE26.out.cons hb27 hT27
      have HL27 : Hid (LtSl w27 d m c zs) := HL26.out.up hb27
      clear j27 hT27 hb27 HB26 HE26 HL26
      have j28 := hbin 13 13 rfl b a lb cb la ca (xb) (xa) w27 (HE27.out (b, lb, cb, xb) (List.mem_cons_of_mem _ (List.mem_cons_of_mem _ (List.mem_cons_of_mem _ (List.mem_cons_of_mem _ (List.mem_cons_of_mem _ (List.mem_cons_of_mem _ (List.mem_cons_of_mem _ (List.mem_cons_of_mem _ (List.mem_cons_of_mem _ List.mem_cons_self)))))))))) (HE27.out (a, la, ca, xa) (List.mem_cons_of_mem _ (List.mem_cons_of_mem _ (List.mem_cons_of_mem _ (List.mem_cons_of_mem _ (List.mem_cons_of_mem _ (List.mem_cons_of_mem _ (List.mem_cons_of_mem _ (List.mem_cons_of_mem _ List.mem_cons_self))))))))) (by decide)
      have M28 : Hid (Mn (zN zs) (binB 13 (xb) (xa)) (semT (zN zs) 13 0 [vb, va])) := (Mn.bin MB.out MA.out (op := 13) rfl)
      generalize binB 13 (xb) (xa) = y28 at j28 M28
      go_wp2_with fail
      with_reducible refine j28.mono ?_
      rintro e w28 ⟨a28, c28, rfl, hT28, hb28⟩
      have HB28 : Hid (Below w.heap.size w w28) := below_step HB27.out hb28
      have HE28 : Hid (EnvOk w28 [(a28, (y28).length, c28, y28), (a27, (y27).length, c27, y27), (a26, (y26).length, c26, y26), (a9, (y9).length, c9, y9), (a8, (y8).length, c8, y8), (a7, (y7).length, c7, y7), (a6, (y6).length, c6, y6), (a5, 1, c5, [(1, 0)]), (a4, 1, c4, [(0, 0)]), (a, la, ca, xa), (b, lb, cb, xb)]) := HE27.out.cons hb28 hT28
      have HL28 : Hid (LtSl w28 d m c zs) := HL27.out.up hb28
      clear j28 hT28 hb28 HB27 HE27 HL27
      have j29 := hbin 11 11 rfl a27 a28 (y27).length c27 (y28).length c28 (y27) (y28) w28 (HE28.out (a27, (y27).length, c27, y27) (List.mem_cons_of_mem _ List.mem_cons_self)) (HE28.out (a28, (y28).length, c28, y28) List.mem_cons_self) (by decide)
      have M29 : Hid (Mn (zN zs) (binB 11 (y27) (y28)) (semT (zN zs) 11 0 [(semT (zN zs) 13 0 [va, vb]), (semT (zN zs) 13 0 [vb, va])])) := (Mn.bin M27.out M28.out (op := 11) rfl)
      generalize binB 11 (y27) (y28) = y29 at j29 M29
      go_wp2_with fail
      with_reducible refine j29.mono ?_
      rintro e w29 ⟨a29, c29, rfl, hT29, hb29⟩
      have HB29 : Hid (Below w.heap.size w w29) := below_step HB28.out hb29
      have HE29 : Hid (EnvOk w29 [(a29, (y29).length, c29, y29), (a28, (y28).length, c28, y28), (a27, (y27).length, c27, y27), (a26, (y26).length, c26, y26), (a9, (y9).length, c9, y9), (a8, (y8).length, c8, y8), (a7, (y7).length, c7, y7), (a6, (y6).length, c6, y6), (a5, 1, c5, [(1, 0)]), (a4, 1, c4, [(0, 0)]), (a, la, ca, xa), (b, lb, cb, xb)]) := HE28.out.cons hb29 hT29
      have HL29 : Hid (LtSl w29 d m c zs) := HL28.out.up hb29
      clear j29 hT29 hb29 HB28 HE28 HL28
      have j30 := Try.malike_any HAll.out a26 a29 (y26).length c26 (y29).length c29 (y26) (y29) d m c zs w29 (HE29.out (a26, (y26).length, c26, y26) (List.mem_cons_of_mem _ (List.mem_cons_of_mem _ (List.mem_cons_of_mem _ List.mem_cons_self)))) (HE29.out (a29, (y29).length, c29, y29) List.mem_cons_self) HL29.out (semT (zN zs) 14 0 [va, vb]) (semT (zN zs) 11 0 [(semT (zN zs) 13 0 [va, vb]), (semT (zN zs) 13 0 [vb, va])]) M26.out M29.out (fun i hi => dual_iff _ _ _ i)
      go_wp2_with fail
      with_reducible refine j30.mono ?_
      rintro e w30 ⟨rfl, hb30⟩
      have HB30 : Hid (Below w.heap.size w w30) := below_step HB29.out hb30
      have HE30 : Hid (EnvOk w30 [(a29, (y29).length, c29, y29), (a28, (y28).length, c28, y28), (a27, (y27).length, c27, y27), (a26, (y26).length, c26, y26), (a9, (y9).length, c9, y9), (a8, (y8).length, c8, y8), (a7, (y7).length, c7, y7), (a6, (y6).length, c6, y6), (a5, 1, c5, [(1, 0)]), (a4, 1, c4, [(0, 0)]), (a, la, ca, xa), (b, lb, cb, xb)]) := HE29.out.up hb30
      have HL30 : Hid (LtSl w30 d m c zs) := HL29.out.up hb30
      clear j30 hb30 HB29 HE29 HL29
      have HF30 : Hid (EnvOk w30 [(a9, (y9).length, c9, y9), (a8, (y8).length, c8, y8), (a7, (y7).length, c7, y7), (a6, (y6).length, c6, y6), (a5, 1, c5, [(1, 0)]), (a4, 1, c4, [(0, 0)]), (a, la, ca, xa), (b, lb, cb, xb)]) := fun e he => HE30.out e (List.mem_cons_of_mem _ (List.mem_cons_of_mem _ (List.mem_cons_of_mem _ (List.mem_cons_of_mem _ he))))
      clear HE30
      have HE30 := HF30
      clear HF30
      have q30 := hop 4 4 104 rfl rfl (by decide) w30
      go_wp2_with fail
      with_reducible refine q30.mono ?_
      rintro e w' ⟨rfl, hw'⟩
      obtain rfl := hw'.symm
      clear q30
      have j31 := ht 4 104 rfl (by decide) w30
      have M31 : Hid (Mn (zN zs) ([(4, 0)]) (semT (zN zs) 4 0 [])) := (Mn.leaf (zN zs) (op := 4) (p := 0) rfl)
      go_wp2_with fail
      with_reducible refine j31.mono ?_
      rintro e w31 ⟨a31, c31, rfl, hT31, hb31⟩
      dsimp only [List.length_cons, List.length_nil] at hT31 ⊢
      have HB31 : Hid (Below w.heap.size w w31) := below_step HB30.out hb31
      have HE31 : Hid (EnvOk w31 [(a31, 1, c31, [(4, 0)]), (a9, (y9).length, c9, y9), (a8, (y8).length, c8, y8), (a7, (y7).length, c7, y7), (a6, (y6).length, c6, y6), (a5, 1, c5, [(1, 0)]), (a4, 1, c4, [(0, 0)]), (a, la, ca, xa), (b, lb, cb, xb)]) := HE30.out.cons hb31 hT31
      have HL31 : Hid (LtSl w31 d m c zs) := HL30.out.up hb31
      clear j31 hT31 hb31 HB30 HE30 HL30
      have q31 := hop 3 3 103 rfl rfl (by decide) w31
      go_wp2_with fail
      with_reducible refine q31.mono ?_
      rintro e w' ⟨rfl, hw'⟩
      obtain rfl := hw'.symm
      clear q31
      have j32 := ht 3 103 rfl (by decide) w31
      have M32 : Hid (Mn (zN zs) ([(3, 0)]) (semT (zN zs) 3 0 [])) := (Mn.leaf (zN zs) (op := 3) (p := 0) rfl)
      go_wp2_with fail
      with_reducible refine j32.mono ?_
      rintro e w32 ⟨a32, c32, rfl, hT32, hb32⟩
      dsimp only [List.length_cons, List.length_nil] at hT32 ⊢
      have HB32 : Hid (Below w.heap.size w w32) := below_step HB31.out hb32
      have HE32 : Hid (EnvOk w32 [(a32, 1, c32, [(3, 0)]), (a31, 1, c31, [(4, 0)]), (a9, (y9).length, c9, y9), (a8, (y8).length, c8, y8), (a7, (y7).length, c7, y7), (a6, (y6).length, c6, y6), (a5, 1, c5, [(1, 0)]), (a4, 1, c4, [(0, 0)]), (a, la, ca, xa), (b, lb, cb, xb)]) := HE31.out.cons hb32 hT32
      have HL32 : Hid (LtSl w32 d m c zs) := HL31.out.up hb32
      clear j32 hT32 hb32 HB31 HE31 HL31
      have j33 := hun 8 8 rfl a5 1 c5 ([(1, 0)]) w32 (HE32.out (a5, 1, c5, [(1, 0)]) (List.mem_cons_of_mem _ (List.mem_cons_of_mem _ (List.mem_cons_of_mem _ (List.mem_cons_of_mem _ (List.mem_cons_of_mem _ (List.mem_cons_of_mem _ List.mem_cons_self))))))) (by decide)
      have M33 : Hid (Mn (zN zs) (unB 8 ([(1, 0)])) (semT (zN zs) 8 0 [(semT (zN zs) 1 0 [])])) := (Mn.un M5.out (op := 8) rfl)
      generalize unB 8 ([(1, 0)]) = y33 at j33 M33
      go_wp2_with fail
      with_reducible refine j33.mono ?_
      rintro e w33 ⟨a33, c33, rfl, hT33, hb33⟩
      have HB33 : Hid (Below w.heap.size w w33) := below_step HB32.out hb33
      have HE33 : Hid (EnvOk w33 [(a33, (y33).length, c33, y33), (a32, 1, c32, [(3, 0)]), (a31, 1, c31, [(4, 0)]), (a9, (y9).length, c9, y9), (a8, (y8).length, c8, y8), (a7, (y7).length, c7, y7), (a6, (y6).length, c6, y6), (a5, 1, c5, [(1, 0)]), (a4, 1, c4, [(0, 0)]), (a, la, ca, xa), (b, lb, cb, xb)]) := HE32.out.cons hb33 hT33
      have HL33 : Hid (LtSl w33 d m c zs) := HL32.out.up hb33
      clear j33 hT33 hb33 HB32 HE32 HL32
      have j34 := hbin 11 11 rfl a31 a33 1 c31 (y33).length c33 ([(4, 0)]) (y33) w33 (HE33.out (a31, 1, c31, [(4, 0)]) (List.mem_cons_of_mem _ (List.mem_cons_of_mem _ List.mem_cons_self))) (HE33.out (a33, (y33).length, c33, y33) List.mem_cons_self) (by decide)
      have M34 : Hid (Mn (zN zs) (binB 11 ([(4, 0)]) (y33)) (semT (zN zs) 11 0 [(semT (zN zs) 4 0 []), (semT (zN zs) 8 0 [(semT (zN zs) 1 0 [])])])) := (Mn.bin M31.out M33.out (op := 11) rfl)
      generalize binB 11 ([(4, 0)]) (y33) = y34 at j34 M34
      go_wp2_with fail
      with_reducible refine j34.mono ?_
      rintro e w34 ⟨a34, c34, rfl, hT34, hb34⟩
      have HB34 : Hid (Below w.heap.size w w34) := below_step HB33.out hb34
      have HE34 : Hid (EnvOk w34 [(a34, (y34).length, c34, y34), (a33, (y33).length, c33, y33), (a32, 1, c32, [(3, 0)]), (a31, 1, c31, [(4, 0)]), (a9, (y9).length, c9, y9), (a8, (y8).length, c8, y8), (a7, (y7).length, c7, y7), (a6, (y6).length, c6, y6), (a5, 1, c5, [(1, 0)]), (a4, 1, c4, [(0, 0)]), (a, la, ca, xa), (b, lb, cb, xb)]) := HE33.out.cons hb34 hT34
      have HL34 : Hid (LtSl w34 d m c zs) := HL33.out.up hb34
      clear j34 hT34 hb34 HB33 HE33 HL33
      have j35 := Try.malike_any HAll.out a32 a34 1 c32 (y34).length c34 ([(3, 0)]) (y34) d m c zs w34 (HE34.out (a32, 1, c32, [(3, 0)]) (List.mem_cons_of_mem _ (List.mem_cons_of_mem _ List.mem_cons_self))) (HE34.out (a34, (y34).length, c34, y34) List.mem_cons_self) HL34.out (semT (zN zs) 3 0 []) (semT (zN zs) 11 0 [(semT (zN zs) 4 0 []), (semT (zN zs) 8 0 [(semT (zN zs) 1 0 [])])]) M32.out M34.out (fun i hi => dual_last _ i)
      go_wp2_with fail
      with_reducible refine j35.mono ?_
      rintro e w35 ⟨rfl, hb35⟩
      have HB35 : Hid (Below w.heap.size w w35) := below_step HB34.out hb35
      have HE35 : Hid (EnvOk w35 [(a34, (y34).length, c34, y34), (a33, (y33).length, c33, y33), (a32, 1, c32, [(3, 0)]), (a31, 1, c31, [(4, 0)]), (a9, (y9).length, c9, y9), (a8, (y8).length, c8, y8), (a7, (y7).length, c7, y7), (a6, (y6).length, c6, y6), (a5, 1, c5, [(1, 0)]), (a4, 1, c4, [(0, 0)]), (a, la, ca, xa), (b, lb, cb, xb)]) := HE34.out.up hb35
      have HL35 : Hid (LtSl w35 d m c zs) := HL34.out.up hb35
      clear j35 hb35 HB34 HE34 HL34
      have HF35 : Hid (EnvOk w35 [(a31, 1, c31, [(4, 0)]), (a9, (y9).length, c9, y9), (a8, (y8).length, c8, y8), (a7, (y7).length, c7, y7), (a6, (y6).length, c6, y6), (a5, 1, c5, [(1, 0)]), (a4, 1, c4, [(0, 0)]), (a, la, ca, xa), (b, lb, cb, xb)]) := fun e he => HE35.out e (List.mem_cons_of_mem _ (List.mem_cons_of_mem _ (List.mem_cons_of_mem _ he)))
      clear HE35
      have HE35 := HF35
      clear HF35
      have q35 := hop 5 5 105 rfl rfl (by decide) w35
      go_wp2_with fail
      with_reducible refine q35.mono ?_
      rintro e w' ⟨rfl, hw'⟩
      obtain rfl := hw'.symm
      clear q35
      have j36 := ht 5 105 rfl (by decide) w35
      have M36 : Hid (Mn (zN zs) ([(5, 0)]) (semT (zN zs) 5 0 [])) := (Mn.leaf (zN zs) (op := 5) (p := 0) rfl)
      go_wp2_with fail
      with_reducible refine j36.mono ?_
      rintro e w36 ⟨a36, c36, rfl, hT36, hb36⟩
      dsimp only [List.length_cons, List.length_nil] at hT36 ⊢
      have HB36 : Hid (Below w.heap.size w w36) := below_step HB35.out hb36
      have HE36 : Hid (EnvOk w36 [(a36, 1, c36, [(5, 0)]), (a31, 1, c31, [(4, 0)]), (a9, (y9).length, c9, y9), (a8, (y8).length, c8, y8), (a7, (y7).length, c7, y7), (a6, (y6).length, c6, y6), (a5, 1, c5, [(1, 0)]), (a4, 1, c4, [(0, 0)]), (a, la, ca, xa), (b, lb, cb, xb)]) := HE35.out.cons hb36 hT36
      have HL36 : Hid (LtSl w36 d m c zs) := HL35.out.up hb36
      clear j36 hT36 hb36 HB35 HE35 HL35
      have j37 := hun 6 6 rfl a31 1 c31 ([(4, 0)]) w36 (HE36.out (a31, 1, c31, [(4, 0)]) (List.mem_cons_of_mem _ List.mem_cons_self)) (by decide)
      have M37 : Hid (Mn (zN zs) (unB 6 ([(4, 0)])) (semT (zN zs) 6 0 [(semT (zN zs) 4 0 [])])) := (Mn.un M31.out (op := 6) rfl)
      generalize unB 6 ([(4, 0)]) = y37 at j37 M37
      go_wp2_with fail
      with_reducible refine j37.mono ?_
      rintro e w37 ⟨a37, c37, rfl, hT37, hb37⟩
      have HB37 : Hid (Below w.heap.size w w37) := below_step HB36.out hb37
      have HE37 : Hid (EnvOk w37 [(a37, (y37).length, c37, y37), (a36, 1, c36, [(5, 0)]), (a31, 1, c31, [(4, 0)]), (a9, (y9).length, c9, y9), (a8, (y8).length, c8, y8), (a7, (y7).length, c7, y7), (a6, (y6).length, c6, y6), (a5, 1, c5, [(1, 0)]), (a4, 1, c4, [(0, 0)]), (a, la, ca, xa), (b, lb, cb, xb)]) := HE36.out.cons hb37 hT37
      have HL37 : Hid (LtSl w37 d m c zs) := HL36.out.up hb37
      clear j37 hT37 hb37 HB36 HE36 HL36
      have j38 := Try.malike_any HAll.out a36 a37 1 c36 (y37).length c37 ([(5, 0)]) (y37) d m c zs w37 (HE37.out (a36, 1, c36, [(5, 0)]) (List.mem_cons_of_mem _ List.mem_cons_self)) (HE37.out (a37, (y37).length, c37, y37) List.mem_cons_self) HL37.out (semT (zN zs) 5 0 []) (semT (zN zs) 6 0 [(semT (zN zs) 4 0 [])]) M36.out M37.out (fun i hi => dual_over _ i hi)
      go_wp2_with fail
      with_reducible refine j38.mono ?_
      rintro e w38 ⟨rfl, hb38⟩
      have HB38 : Hid (Below w.heap.size w w38) := below_step HB37.out hb38
      have HE38 : Hid (EnvOk w38 [(a37, (y37).length, c37, y37), (a36, 1, c36, [(5, 0)]), (a31, 1, c31, [(4, 0)]), (a9, (y9).length, c9, y9), (a8, (y8).length, c8, y8), (a7, (y7).length, c7, y7), (a6, (y6).length, c6, y6), (a5, 1, c5, [(1, 0)]), (a4, 1, c4, [(0, 0)]), (a, la, ca, xa), (b, lb, cb, xb)]) := HE37.out.up hb38
      have HL38 : Hid (LtSl w38 d m c zs) := HL37.out.up hb38
      clear j38 hb38 HB37 HE37 HL37
      have HF38 : Hid (EnvOk w38 [(a31, 1, c31, [(4, 0)]), (a9, (y9).length, c9, y9), (a8, (y8).length, c8, y8), (a7, (y7).length, c7, y7), (a6, (y6).length, c6, y6), (a5, 1, c5, [(1, 0)]), (a4, 1, c4, [(0, 0)]), (a, la, ca, xa), (b, lb, cb, xb)]) := fun e he => HE38.out e (List.mem_cons_of_mem _ (List.mem_cons_of_mem _ he))
      clear HE38
      have HE38 := HF38
      clear HF38
      have j39 := hun 7 7 rfl a8 (y8).length c8 (y8) w38 (HE38.out (a8, (y8).length, c8, y8) (List.mem_cons_of_mem _ (List.mem_cons_of_mem _ List.mem_cons_self))) (by decide)
      have M39 : Hid (Mn (zN zs) (unB 7 (y8)) (semT (zN zs) 7 0 [(semT (zN zs) 15 0 [va, vb])])) := (Mn.un M8.out (op := 7) rfl)
      generalize unB 7 (y8) = y39 at j39 M39
      go_wp2_with fail
      with_reducible refine j39.mono ?_
      rintro e w39 ⟨a39, c39, rfl, hT39, hb39⟩
      have HB39 : Hid (Below w.heap.size w w39) := below_step HB38.out hb39
      have HE39 : Hid (EnvOk w39 [(a39, (y39).length, c39, y39), (a31, 1, c31, [(4, 0)]), (a9, (y9).length, c9, y9), (a8, (y8).length, c8, y8), (a7, (y7).length, c7, y7), (a6, (y6).length, c6, y6), (a5, 1, c5, [(1, 0)]), (a4, 1, c4, [(0, 0)]), (a, la, ca, xa), (b, lb, cb, xb)]) := HE38.out.cons hb39 hT39
      have HL39 : Hid (LtSl w39 d m c zs) := HL38.out.up hb39
      clear j39 hT39 hb39 HB38 HE38 HL38
      have j40 := hbin 11 11 rfl a a39 la ca (y39).length c39 (xa) (y39) w39 (HE39.out (a, la, ca, xa) (List.mem_cons_of_mem _ (List.mem_cons_of_mem _ (List.mem_cons_of_mem _ (List.mem_cons_of_mem _ (List.mem_cons_of_mem _ (List.mem_cons_of_mem _ (List.mem_cons_of_mem _ (List.mem_cons_of_mem _ List.mem_cons_self))))))))) (HE39.out (a39, (y39).length, c39, y39) List.mem_cons_self) (by decide)
      have M40 : Hid (Mn (zN zs) (binB 11 (xa) (y39)) (semT (zN zs) 11 0 [va, (semT (zN zs) 7 0 [(semT (zN zs) 15 0 [va, vb])])])) := (Mn.bin MA.out M39.out (op := 11) rfl)
      generalize binB 11 (xa) (y39) = y40 at j40 M40
      go_wp2_with fail
      with_reducible refine j40.mono ?_
      rintro e w40 ⟨a40, c40, rfl, hT40, hb40⟩
      have HB40 : Hid (Below w.heap.size w w40) := below_step HB39.out hb40
      have HE40 : Hid (EnvOk w40 [(a40, (y40).length, c40, y40), (a39, (y39).length, c39, y39), (a31, 1, c31, [(4, 0)]), (a9, (y9).length, c9, y9), (a8, (y8).length, c8, y8), (a7, (y7).length, c7, y7), (a6, (y6).length, c6, y6), (a5, 1, c5, [(1, 0)]), (a4, 1, c4, [(0, 0)]), (a, la, ca, xa), (b, lb, cb, xb)]) := HE39.out.cons hb40 hT40
      have HL40 : Hid (LtSl w40 d m c zs) := HL39.out.up hb40
      clear j40 hT40 hb40 HB39 HE39 HL39
      have j41 := hbin 12 12 rfl b a40 lb cb (y40).length c40 (xb) (y40) w40 (HE40.out (b, lb, cb, xb) (List.mem_cons_of_mem _ (List.mem_cons_of_mem _ (List.mem_cons_of_mem _ (List.mem_cons_of_mem _ (List.mem_cons_of_mem _ (List.mem_cons_of_mem _ (List.mem_cons_of_mem _ (List.mem_cons_of_mem _ (List.mem_cons_of_mem _ (List.mem_cons_of_mem _ List.mem_cons_self))))))))))) (HE40.out (a40, (y40).length, c40, y40) List.mem_cons_self) (by decide)
      have M41 : Hid (Mn (zN zs) (binB 12 (xb) (y40)) (semT (zN zs) 12 0 [vb, (semT (zN zs) 11 0 [va, (semT (zN zs) 7 0 [(semT (zN zs) 15 0 [va, vb])])])])) := (Mn.bin MB.out M40.out (op := 12) rfl)
      generalize binB 12 (xb) (y40) = y41 at j41 M41
      go_wp2_with fail
      with_reducible refine j41.mono ?_
      rintro e w41 ⟨a41, c41, rfl, hT41, hb41⟩
      have HB41 : Hid (Below w.heap.size w w41) := below_step HB40.out hb41
      have HE41 : Hid (EnvOk w41 [(a41, (y41).length, c41, y41), (a40, (y40).length, c40, y40), (a39, (y39).length, c39, y39), (a31, 1, c31, [(4, 0)]), (a9, (y9).length, c9, y9), (a8, (y8).length, c8, y8), (a7, (y7).length, c7, y7), (a6, (y6).length, c6, y6), (a5, 1, c5, [(1, 0)]), (a4, 1, c4, [(0, 0)]), (a, la, ca, xa), (b, lb, cb, xb)]) := HE40.out.cons hb41 hT41
      have HL41 : Hid (LtSl w41 d m c zs) := HL40.out.up hb41
      clear j41 hT41 hb41 HB40 HE40 HL40
      have j42 := hbin 11 11 rfl a31 a41 1 c31 (y41).length c41 ([(4, 0)]) (y41) w41 (HE41.out (a31, 1, c31, [(4, 0)]) (List.mem_cons_of_mem _ (List.mem_cons_of_mem _ (List.mem_cons_of_mem _ List.mem_cons_self)))) (HE41.out (a41, (y41).length, c41, y41) List.mem_cons_self) (by decide)
      have M42 : Hid (Mn (zN zs) (binB 11 ([(4, 0)]) (y41)) (semT (zN zs) 11 0 [(semT (zN zs) 4 0 []), (semT (zN zs) 12 0 [vb, (semT (zN zs) 11 0 [va, (semT (zN zs) 7 0 [(semT (zN zs) 15 0 [va, vb])])])])])) := (Mn.bin M31.out M41.out (op := 11) rfl)
      generalize binB 11 ([(4, 0)]) (y41) = y42 at j42 M42
      go_wp2_with fail
      with_reducible refine j42.mono ?_
      rintro e w42 ⟨a42, c42, rfl, hT42, hb42⟩
      have HB42 : Hid (Below w.heap.size w w42) := below_step HB41.out hb42
      have HE42 : Hid (EnvOk w42 [(a42, (y42).length, c42, y42), (a41, (y41).length, c41, y41), (a40, (y40).length, c40, y40), (a39, (y39).length, c39, y39), (a31, 1, c31, [(4, 0)]), (a9, (y9).length, c9, y9), (a8, (y8).length, c8, y8), (a7, (y7).length, c7, y7), (a6, (y6).length, c6, y6), (a5, 1, c5, [(1, 0)]), (a4, 1, c4, [(0, 0)]), (a, la, ca, xa), (b, lb, cb, xb)]) := HE41.out.cons hb42 hT42
      have HL42 : Hid (LtSl w42 d m c zs) := HL41.out.up hb42
      clear j42 hT42 hb42 HB41 HE41 HL41
      have j43 := Try.malike_any HAll.out a8 a42 (y8).length c8 (y42).length c42 (y8) (y42) d m c zs w42 (HE42.out (a8, (y8).length, c8, y8) (List.mem_cons_of_mem _ (List.mem_cons_of_mem _ (List.mem_cons_of_mem _ (List.mem_cons_of_mem _ (List.mem_cons_of_mem _ (List.mem_cons_of_mem _ List.mem_cons_self))))))) (HE42.out (a42, (y42).length, c42, y42) List.mem_cons_self) HL42.out (semT (zN zs) 15 0 [va, vb]) (semT (zN zs) 11 0 [(semT (zN zs) 4 0 []), (semT (zN zs) 12 0 [vb, (semT (zN zs) 11 0 [va, (semT (zN zs) 7 0 [(semT (zN zs) 15 0 [va, vb])])])])]) M8.out M42.out (fun i hi => dual_until _ _ _ i)
      go_wp2_with fail
      with_reducible refine j43.mono ?_
      rintro e w43 ⟨rfl, hb43⟩
      have HB43 : Hid (Below w.heap.size w w43) := below_step HB42.out hb43
      have HE43 : Hid (EnvOk w43 [(a42, (y42).length, c42, y42), (a41, (y41).length, c41, y41), (a40, (y40).length, c40, y40), (a39, (y39).length, c39, y39), (a31, 1, c31, [(4, 0)]), (a9, (y9).length, c9, y9), (a8, (y8).length, c8, y8), (a7, (y7).length, c7, y7), (a6, (y6).length, c6, y6), (a5, 1, c5, [(1, 0)]), (a4, 1, c4, [(0, 0)]), (a, la, ca, xa), (b, lb, cb, xb)]) := HE42.out.up hb43
      have HL43 : Hid (LtSl w43 d m c zs) := HL42.out.up hb43
      clear j43 hb43 HB42 HE42 HL42
      have HF43 : Hid (EnvOk w43 [(a31, 1, c31, [(4, 0)]), (a9, (y9).length, c9, y9), (a8, (y8).length, c8, y8), (a7, (y7).length, c7, y7), (a6, (y6).length, c6, y6), (a5, 1, c5, [(1, 0)]), (a4, 1, c4, [(0, 0)]), (a, la, ca, xa), (b, lb, cb, xb)]) := fun e he => HE43.out e (List.mem_cons_of_mem _ (List.mem_cons_of_mem _ (List.mem_cons_of_mem _ (List.mem_cons_of_mem _ he))))
      clear HE43
      have HE43 := HF43
      clear HF43
      have j44 := hun 8 8 rfl a9 (y9).length c9 (y9) w43 (HE43.out (a9, (y9).length, c9, y9) (List.mem_cons_of_mem _ List.mem_cons_self)) (by decide)
      have M44 : Hid (Mn (zN zs) (unB 8 (y9)) (semT (zN zs) 8 0 [(semT (zN zs) 16 0 [va, vb])])) := (Mn.un M9.out (op := 8) rfl)
      generalize unB 8 (y9) = y44 at j44 M44
      go_wp2_with fail
      with_reducible refine j44.mono ?_
      rintro e w44 ⟨a44, c44, rfl, hT44, hb44⟩
      have HB44 : Hid (Below w.heap.size w w44) := below_step HB43.out hb44
      have HE44 : Hid (EnvOk w44 [(a44, (y44).length, c44, y44), (a31, 1, c31, [(4, 0)]), (a9, (y9).length, c9, y9), (a8, (y8).length, c8, y8), (a7, (y7).length, c7, y7), (a6, (y6).length, c6, y6), (a5, 1, c5, [(1, 0)]), (a4, 1, c4, [(0, 0)]), (a, la, ca, xa), (b, lb, cb, xb)]) := HE43.out.cons hb44 hT44
      have HL44 : Hid (LtSl w44 d m c zs) := HL43.out.up hb44
      clear j44 hT44 hb44 HB43 HE43 HL43
      have j45 := hbin 12 12 rfl a a44 la ca (y44).length c44 (xa) (y44) w44 (HE44.out (a, la, ca, xa) (List.mem_cons_of_mem _ (List.mem_cons_of_mem _ (List.mem_cons_of_mem _ (List.mem_cons_of_mem _ (List.mem_cons_of_mem _ (List.mem_cons_of_mem _ (List.mem_cons_of_mem _ (List.mem_cons_of_mem _ List.mem_cons_self))))))))) (HE44.out (a44, (y44).length, c44, y44) List.mem_cons_self) (by decide)
      have M45 : Hid (Mn (zN zs) (binB 12 (xa) (y44)) (semT (zN zs) 12 0 [va, (semT (zN zs) 8 0 [(semT (zN zs) 16 0 [va, vb])])])) := (Mn.bin MA.out M44.out (op := 12) rfl)
      generalize binB 12 (xa) (y44) = y45 at j45 M45
      go_wp2_with fail
      with_reducible refine j45.mono ?_
      rintro e w45 ⟨a45, c45, rfl, hT45, hb45⟩
      have HB45 : Hid (Below w.heap.size w w45) := below_step HB44.out hb45
      have HE45 : Hid (EnvOk w45 [(a45, (y45).length, c45, y45), (a44, (y44).length, c44, y44), (a31, 1, c31, [(4, 0)]), (a9, (y9).length, c9, y9), (a8, (y8).length, c8, y8), (a7, (y7).length, c7, y7), (a6, (y6).length, c6, y6), (a5, 1, c5, [(1, 0)]), (a4, 1, c4, [(0, 0)]), (a, la, ca, xa), (b, lb, cb, xb)]) := HE44.out.cons hb45 hT45
      have HL45 : Hid (LtSl w45 d m c zs) := HL44.out.up hb45
      clear j45 hT45 hb45 HB44 HE44 HL44
      have j46 := hbin 11 11 rfl b a45 lb cb (y45).length c45 (xb) (y45) w45 (HE45.out (b, lb, cb, xb) (List.mem_cons_of_mem _ (List.mem_cons_of_mem _ (List.mem_cons_of_mem _ (List.mem_cons_of_mem _ (List.mem_cons_of_mem _ (List.mem_cons_of_mem _ (List.mem_cons_of_mem _ (List.mem_cons_of_mem _ (List.mem_cons_of_mem _ (List.mem_cons_of_mem _ List.mem_cons_self))))))))))) (HE45.out (a45, (y45).length, c45, y45) List.mem_cons_self) (by decide)
      have M46 : Hid (Mn (zN zs) (binB 11 (xb) (y45)) (semT (zN zs) 11 0 [vb, (semT (zN zs) 12 0 [va, (semT (zN zs) 8 0 [(semT (zN zs) 16 0 [va, vb])])])])) := (Mn.bin MB.out M45.out (op := 11) rfl)
      generalize binB 11 (xb) (y45) = y46 at j46 M46
      go_wp2_with fail
      with_reducible refine j46.mono ?_
      rintro e w46 ⟨a46, c46, rfl, hT46, hb46⟩
      have HB46 : Hid (Below w.heap.size w w46) := below_step HB45.out hb46
      have HE46 : Hid (EnvOk w46 [(a46, (y46).length, c46, y46), (a45, (y45).length, c45, y45), (a44, (y44).length, c44, y44), (a31, 1, c31, [(4, 0)]), (a9, (y9).length, c9, y9), (a8, (y8).length, c8, y8), (a7, (y7).length, c7, y7), (a6, (y6).length, c6, y6), (a5, 1, c5, [(1, 0)]), (a4, 1, c4, [(0, 0)]), (a, la, ca, xa), (b, lb, cb, xb)]) := HE45.out.cons hb46 hT46
      have HL46 : Hid (LtSl w46 d m c zs) := HL45.out.up hb46
      clear j46 hT46 hb46 HB45 HE45 HL45
      have j47 := hbin 13 13 rfl a31 a46 1 c31 (y46).length c46 ([(4, 0)]) (y46) w46 (HE46.out (a31, 1, c31, [(4, 0)]) (List.mem_cons_of_mem _ (List.mem_cons_of_mem _ (List.mem_cons_of_mem _ List.mem_cons_self)))) (HE46.out (a46, (y46).length, c46, y46) List.mem_cons_self) (by decide)
      have M47 : Hid (Mn (zN zs) (binB 13 ([(4, 0)]) (y46)) (semT (zN zs) 13 0 [(semT (zN zs) 4 0 []), (semT (zN zs) 11 0 [vb, (semT (zN zs) 12 0 [va, (semT (zN zs) 8 0 [(semT (zN zs) 16 0 [va, vb])])])])])) := (Mn.bin M31.out M46.out (op := 13) rfl)
      generalize binB 13 ([(4, 0)]) (y46) = y47 at j47 M47
      go_wp2_with fail
      with_reducible refine j47.mono ?_
      rintro e w47 ⟨a47, c47, rfl, hT47, hb47⟩
      have HB47 : Hid (Below w.heap.size w w47) := below_step HB46.out hb47
      have HE47 : Hid (EnvOk w47 [(a47, (y47).length, c47, y47), (a46, (y46).length, c46, y46), (a45, (y45).length, c45, y45), (a44, (y44).length, c44, y44), (a31, 1, c31, [(4, 0)]), (a9, (y9).length, c9, y9), (a8, (y8).length, c8, y8), (a7, (y7).length, c7, y7), (a6, (y6).length, c6, y6), (a5, 1, c5, [(1, 0)]), (a4, 1, c4, [(0, 0)]), (a, la, ca, xa), (b, lb, cb, xb)]) := HE46.out.cons hb47 hT47
      have HL47 : Hid (LtSl w47 d m c zs) := HL46.out.up hb47
      clear j47 hT47 hb47 HB46 HE46 HL46
      have j48 := Try.malike_any HAll.out a9 a47 (y9).length c9 (y47).length c47 (y9) (y47) d m c zs w47 (HE47.out (a9, (y9).length, c9, y9) (List.mem_cons_of_mem _ (List.mem_cons_of_mem _ (List.mem_cons_of_mem _ (List.mem_cons_of_mem _ (List.mem_cons_of_mem _ List.mem_cons_self)))))) (HE47.out (a47, (y47).length, c47, y47) List.mem_cons_self) HL47.out (semT (zN zs) 16 0 [va, vb]) (semT (zN zs) 13 0 [(semT (zN zs) 4 0 []), (semT (zN zs) 11 0 [vb, (semT (zN zs) 12 0 [va, (semT (zN zs) 8 0 [(semT (zN zs) 16 0 [va, vb])])])])]) M9.out M47.out (fun i hi => dual_release2 _ _ _ i)
      go_wp2_with fail
      with_reducible refine j48.mono ?_
      rintro e w48 ⟨rfl, hb48⟩
      have HB48 : Hid (Below w.heap.size w w48) := below_step HB47.out hb48
      have HE48 : Hid (EnvOk w48 [(a47, (y47).length, c47, y47), (a46, (y46).length, c46, y46), (a45, (y45).length, c45, y45), (a44, (y44).length, c44, y44), (a31, 1, c31, [(4, 0)]), (a9, (y9).length, c9, y9), (a8, (y8).length, c8, y8), (a7, (y7).length, c7, y7), (a6, (y6).length, c6, y6), (a5, 1, c5, [(1, 0)]), (a4, 1, c4, [(0, 0)]), (a, la, ca, xa), (b, lb, cb, xb)]) := HE47.out.up hb48
      have HL48 : Hid (LtSl w48 d m c zs) := HL47.out.up hb48
      clear j48 hb48 HB47 HE47 HL47
      go_wp2
      go_ret
      exact ⟨rfl, HB48.out⟩
    · rw [decide_eq_true c1] at hs1
      rw [decide_eq_false c2] at hs2
      clear c1 c2
      go_enter Try.func4, Try.ntmps4
      go_wp2_with fail
      refine h0.mono ?_
      rintro e w1 ⟨rfl, hb1⟩
      have j1 := hs1 w1 hb1
      have HB1 : Hid (Below w.heap.size w w1) := hb1
      clear h0 hs1 hb1
      go_wp2_with fail
      refine j1.mono ?_
      rintro e w2 ⟨rfl, hb2⟩
      have HB2 : Hid (Below w.heap.size w w2) := below_step HB1.out hb2
      have j2 := hs2 w2 HB2.out
      clear j1 hs2 hb2 HB1
      go_wp2_with fail
      refine j2.mono ?_
      rintro e w3 ⟨rfl, hb3⟩
      have HB3 : Hid (Below w.heap.size w w3) := below_step HB2.out hb3
      clear j2 hb3
      go_wp2
      go_ret
      exact ⟨rfl, HB3.out⟩
  · rw [decide_eq_false c1] at hs1
    clear c1 hs2
    go_enter Try.func4, Try.ntmps4
    go_wp2_with fail
    refine h0.mono ?_
    rintro e w1 ⟨rfl, hb1⟩
    have j1 := hs1 w1 hb1
    have HB1 : Hid (Below w.heap.size w w1) := hb1
    clear h0 hs1 hb1
    go_wp2_with fail
    refine j1.mono ?_
    rintro e w2 ⟨rfl, hb2⟩
    have HB2 : Hid (Below w.heap.size w w2) := below_step HB1.out hb2
    clear j1 hb2
    go_wp2
    go_ret
    exact ⟨rfl, HB2.out⟩
end Go.Proofs.Ytfojlondflachaa
