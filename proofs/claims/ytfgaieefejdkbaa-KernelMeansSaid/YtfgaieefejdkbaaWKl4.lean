/- Stage 8's law KernelAgain over the contracts of package kernel. Written by mkker.py. -/
import Derived.Test.YtfgaieefejdkbaaWKl3
namespace Go.Proofs.Ytfgaieefejdkbaa
open Go.RowKit Go.Maps

/-- What KernelAgain asks, plain. -/
structure KAg (ks ns : List Tk) : Prop where
  of : lookE ks 1 = 0 → ofE ks = 0 ∧ ofL ks = ks ∧ min (kL ks).1.length 2049 = ks.length
  neg : negE ks = 3 ∨ (negE ks = 0 ∧ negL ks = ns ∧ negE ns = 0 ∧ negL ns = ks)
theorem kAg {xs : List Tk} (h : lookE xs 1 = 0) (hl : (kL xs).1.length ≤ 2048) : KAg (kL xs).1 (kL (kL xs).1).2 := by
  have K := kAll [] h
  have c1 := K.one hl
  refine ⟨fun h1 => ?_, ?_⟩
  · have e : ofE (kL xs).1 = 0 := by unfold ofE; rw [if_neg (by omega), K.again, if_neg (by omega)]
    exact ⟨e, by unfold ofL; rw [if_pos e, K.again], by rw [K.again]; omega⟩
  · by_cases hn : 2048 < (kL (kL xs).1).2.length
    · exact Or.inl (by rw [negE_of c1, if_pos hn])
    · have e : negE (kL xs).1 = 0 := by rw [negE_of c1, if_neg hn]
      have c2 := K.two (by omega)
      have e2 : negE (kL (kL xs).1).2 = 0 := by rw [negE_of c2, K.back, if_neg (by omega)]
      exact Or.inr ⟨e, by unfold negL; rw [if_pos e], e2, by unfold negL; rw [if_pos e2, K.back]⟩
set_option maxRecDepth 100000 in
set_option maxHeartbeats 8000000 in
theorem Try.kagain_any (hOf : OfC 10) (hNeg : NegC 12) (hSz : SizeC 14) (a : Option Addr) (la ca : Nat) (xs : List Tk) (w : World) (hA : TkSl w a la ca xs) :
    Calls Try.prog 6 #[.slice a la ca] w fun e w' => e = .returned (.bool true) ∧ Below w.heap.size w w' := by
  have h0 := Try.kawake_any hOf hNeg w
  have hck := fun w' (hw : Below w.heap.size w w') => Try.check_any a la ca xs w' (hA.up hw)
  have hla := hA.hcap
  have hlb := hA.bd
  unfold maxLen at hlb
  have HA : Hid (TkSl w a la ca xs) := hA
  have HOf : Hid (OfC 10) := hOf
  have HNeg : Hid (NegC 12) := hNeg
  have HSz : Hid (SizeC 14) := hSz
  clear hA hOf hNeg hSz
  by_cases c1 : 120 < la
  · have c1' : (120 : Int) < (la : Int) := by omega
    clear hck
    go_enter Try.func6, Try.ntmps6
    go_wp2_with fail
    refine h0.mono ?_
    rintro e w1 ⟨rfl, hb1⟩
    have HB1 : Hid (Below w.heap.size w w1) := hb1
    clear h0 hb1
    go_wp2
    go_ret
    exact ⟨rfl, HB1.out⟩
  · have c1' : ¬ (120 : Int) < (la : Int) := by omega
    by_cases c3 : lookE xs 1 = 0
    · rw [c3] at hck
      by_cases c4 : 2048 < (kL xs).1.length
      · have eO : ofE xs = 3 := by unfold ofE; rw [if_neg (by omega), if_pos c4]
        have eL : ofL xs = [] := by unfold ofL; rw [if_neg (by omega)]
        go_enter Try.func6, Try.ntmps6
        go_wp2_with fail
        refine h0.mono ?_
        rintro e w1 ⟨rfl, hb1⟩
        have j1 := hck w1 hb1
        have HB1 : Hid (Below w.heap.size w w1) := hb1
        clear h0 hb1 hck
        go_wp2_with fail
        refine j1.mono ?_
        rintro e w2 ⟨rfl, hb2⟩
        have HB2 : Hid (Below w.heap.size w w2) := below_step HB1.out hb2
        have j2 := HOf.out a la ca xs w2 (HA.out.up HB2.out)
        unfold OfR at j2
        rw [eO, eL] at j2
        clear j1 hb2 HB1 c4 eO eL
        go_wp2_with fail
        refine j2.mono ?_
        rintro e w3 ⟨a3, c3', rfl, _, hb3⟩
        have HB3 : Hid (Below w.heap.size w w3) := below_step HB2.out hb3
        clear j2 hb3 HB2
        go_wp2
        go_ret
        exact ⟨rfl, HB3.out⟩
      · have eO : ofE xs = 0 := by unfold ofE; rw [if_neg (by omega), if_neg c4]
        have eL : ofL xs = (kL xs).1 := by unfold ofL; rw [if_pos eO]
        have HM : Hid (KAg (kL xs).1 (kL (kL xs).1).2) := kAg c3 (by omega)
        generalize (kL (kL xs).1).2 = ns at *
        generalize hks : (kL xs).1 = ks at *
        clear hks c3
        go_enter Try.func6, Try.ntmps6
        go_wp2_with fail
        refine h0.mono ?_
        rintro e w1 ⟨rfl, hb1⟩
        have j1 := hck w1 hb1
        have HB1 : Hid (Below w.heap.size w w1) := hb1
        clear h0 hb1 hck
        go_wp2_with fail
        refine j1.mono ?_
        rintro e w2 ⟨rfl, hb2⟩
        have HB2 : Hid (Below w.heap.size w w2) := below_step HB1.out hb2
        have j2 := HOf.out a la ca xs w2 (HA.out.up HB2.out)
        unfold OfR at j2
        rw [eO, eL] at j2
        clear j1 hb2 HB1 eO eL
        go_wp2_with fail
        refine j2.mono ?_
        rintro e w3 ⟨a3, c3', rfl, hK, hb3⟩
        have HB3 : Hid (Below w.heap.size w w3) := below_step HB2.out hb3
        have HK3 : Hid (TkSl w3 a3 ks.length c3' ks) := hK
        have j3 := Try.check_any a3 ks.length c3' ks w3 hK
        clear j2 hb3 HB2 hK
        by_cases c5 : lookE ks 1 = 0
        · rw [c5] at j3
          obtain ⟨o1, o2, o3⟩ := HM.out.of c5
          go_wp2_with fail
          refine j3.mono ?_
          rintro e w4 ⟨rfl, hb4⟩
          have HB4 : Hid (Below w.heap.size w w4) := below_step HB3.out hb4
          have HK4 : Hid (TkSl w4 a3 ks.length c3' ks) := HK3.out.up hb4
          have j4 := HOf.out a3 ks.length c3' ks w4 HK4.out
          unfold OfR at j4
          rw [o1, o2] at j4
          clear j3 hb4 HB3 HK3
          go_wp2_with fail
          refine j4.mono ?_
          rintro e w5 ⟨a5, c5', rfl, hG, hb5⟩
          have HB5 : Hid (Below w.heap.size w w5) := below_step HB4.out hb5
          have HK5 : Hid (TkSl w5 a3 ks.length c3' ks) := HK4.out.up hb5
          have HG5 : Hid (TkSl w5 a5 ks.length c5' ks) := hG
          have j5 := HSz.out a3 ks.length c3' ks w5 HK5.out
          unfold SizeR at j5
          rw [c5, o3] at j5
          clear j4 hb5 HB4 HK4 hG
          go_wp2_with fail
          refine j5.mono ?_
          rintro e w6 ⟨n6, rfl, hn6, hb6⟩
          obtain rfl := hn6 (by first | rfl | trivial)
          have HB6 : Hid (Below w.heap.size w w6) := below_step HB5.out hb6
          have HK6 : Hid (TkSl w6 a3 ks.length c3' ks) := HK5.out.up hb6
          have jS := Try.sameT_any _ _ _ _ _ _ _ _ w6 (HG5.out.up hb6) HK6.out
          clear j5 hb6 HB5 HK5 HG5 hn6
          go_wp2_with fail
          refine jS.mono ?_
          rintro e w8 ⟨he, hb0⟩
          obtain rfl : e = .returned (.bool true) := by simpa using he
          have hb : Below w6.heap.size w6 w8 := by first | exact hb0 | (obtain ⟨n6, hw6⟩ := hb0; rw [hw6]; exact below_drewN (Below.refl _ _) n6)
          have HB8 : Hid (Below w.heap.size w w8) := below_step HB6.out hb
          have HK8 : Hid (TkSl w8 a3 ks.length c3' ks) := HK6.out.up hb
          clear jS hb hb0 he HB6 HK6
          have j8 := HNeg.out a3 ks.length c3' ks w8 HK8.out
          unfold NegR at j8
          rcases HM.out.neg with eN | ⟨eN, eM, eP, eQ⟩
          · have eM : negL ks = [] := by unfold negL; rw [if_neg (by omega)]
            rw [eN, eM] at j8
            go_wp2_with fail
            refine j8.mono ?_
            rintro e w9 ⟨a9, c9, rfl, _, hb9⟩
            have HB9 : Hid (Below w.heap.size w w9) := below_step HB8.out hb9
            clear j8 hb9 HB8 HK8
            go_wp2
            go_ret
            exact ⟨rfl, HB9.out⟩
          · rw [eN, eM] at j8
            go_wp2_with fail
            refine j8.mono ?_
            rintro e w9 ⟨a9, c9, rfl, hN, hb9⟩
            have HB9 : Hid (Below w.heap.size w w9) := below_step HB8.out hb9
            have HK9 : Hid (TkSl w9 a3 ks.length c3' ks) := HK8.out.up hb9
            have j9 := HNeg.out a9 ns.length c9 ns w9 hN
            unfold NegR at j9
            rw [eP, eQ] at j9
            clear j8 hb9 HB8 HK8 hN
            go_wp2_with fail
            refine j9.mono ?_
            rintro e wA ⟨aA, cA, rfl, hR, hbA⟩
            have HBA : Hid (Below w.heap.size w wA) := below_step HB9.out hbA
            have jS := Try.sameT_any _ _ _ _ _ _ _ _ wA hR (HK9.out.up hbA)
            clear j9 hbA HB9 HK9 hR
            go_wp2_with fail
            refine jS.mono ?_
            rintro e wB ⟨he, hb0⟩
            obtain rfl : e = .returned (.bool true) := by simpa using he
            have hb : Below wA.heap.size wA wB := by first | exact hb0 | (obtain ⟨n6, hw6⟩ := hb0; rw [hw6]; exact below_drewN (Below.refl _ _) n6)
            have HBB : Hid (Below w.heap.size w wB) := below_step HBA.out hb
            clear jS hb hb0 he HBA
            go_wp2
            go_ret
            exact ⟨rfl, HBB.out⟩
        · generalize lookE ks 1 = E at *
          have c5b : ((E : Int) != 0) = true := by simpa using c5
          have c5c : ((E : Int) == 0) = false := by simpa using c5
          have c5d : (E == 0) = false := by simpa using c5
          go_wp2_with fail
          refine j3.mono ?_
          rintro e w8 ⟨rfl, hb4⟩
          have HB8 : Hid (Below w.heap.size w w8) := below_step HB3.out hb4
          have HK8 : Hid (TkSl w8 a3 ks.length c3' ks) := HK3.out.up hb4
          clear j3 hb4 HB3 HK3
          have j8 := HNeg.out a3 ks.length c3' ks w8 HK8.out
          unfold NegR at j8
          rcases HM.out.neg with eN | ⟨eN, eM, eP, eQ⟩
          · have eM : negL ks = [] := by unfold negL; rw [if_neg (by omega)]
            rw [eN, eM] at j8
            go_wp2_with fail
            refine j8.mono ?_
            rintro e w9 ⟨a9, c9, rfl, _, hb9⟩
            have HB9 : Hid (Below w.heap.size w w9) := below_step HB8.out hb9
            clear j8 hb9 HB8 HK8
            go_wp2
            go_ret
            exact ⟨rfl, HB9.out⟩
          · rw [eN, eM] at j8
            go_wp2_with fail
            refine j8.mono ?_
            rintro e w9 ⟨a9, c9, rfl, hN, hb9⟩
            have HB9 : Hid (Below w.heap.size w w9) := below_step HB8.out hb9
            have HK9 : Hid (TkSl w9 a3 ks.length c3' ks) := HK8.out.up hb9
            have j9 := HNeg.out a9 ns.length c9 ns w9 hN
            unfold NegR at j9
            rw [eP, eQ] at j9
            clear j8 hb9 HB8 HK8 hN
            go_wp2_with fail
            refine j9.mono ?_
            rintro e wA ⟨aA, cA, rfl, hR, hbA⟩
            have HBA : Hid (Below w.heap.size w wA) := below_step HB9.out hbA
            have jS := Try.sameT_any _ _ _ _ _ _ _ _ wA hR (HK9.out.up hbA)
            clear j9 hbA HB9 HK9 hR
            go_wp2_with fail
            refine jS.mono ?_
            rintro e wB ⟨he, hb0⟩
            obtain rfl : e = .returned (.bool true) := by simpa using he
            have hb : Below wA.heap.size wA wB := by first | exact hb0 | (obtain ⟨n6, hw6⟩ := hb0; rw [hw6]; exact below_drewN (Below.refl _ _) n6)
            have HBB : Hid (Below w.heap.size w wB) := below_step HBA.out hb
            clear jS hb hb0 he HBA
            go_wp2
            go_ret
            exact ⟨rfl, HBB.out⟩
    · generalize lookE xs 1 = E at *
      have c3b : ((E : Int) != 0) = true := by simpa using c3
      have c3c : ((E : Int) == 0) = false := by simpa using c3
      have c3e : (E == 0) = false := by simpa using c3
      go_enter Try.func6, Try.ntmps6
      go_wp2_with fail
      refine h0.mono ?_
      rintro e w1 ⟨rfl, hb1⟩
      have j1 := hck w1 hb1
      have HB1 : Hid (Below w.heap.size w w1) := hb1
      clear h0 hb1 hck
      go_wp2_with fail
      refine j1.mono ?_
      rintro e w2 ⟨rfl, hb2⟩
      have HB2 : Hid (Below w.heap.size w w2) := below_step HB1.out hb2
      clear j1 hb2
      go_wp2
      go_ret
      exact ⟨rfl, HB2.out⟩
end Go.Proofs.Ytfgaieefejdkbaa
