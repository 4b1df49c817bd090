/- Stage 8's law KernelMeans over the contracts of package kernel. Written by mkker.py. -/
import Derived.Test.YtfgaieefejdkbaaWKl2
namespace Go.Proofs.Ytfgaieefejdkbaa
open Go.RowKit Go.Maps

/-- What KernelMeans asks, plain. -/
structure KMs (t : List Nat) (xs ks ns : List Tk) : Prop where
  chk1 : chkE ks = 0
  neg : negE ks = 3 ∨ (negE ks = 0 ∧ negL ks = ns ∧ chkE ns = 0)
  same : ∀ av bs, ValB t xs av → ValB t ks bs → av = bs
  opp : ∀ av cs, ValB t xs av → ValB t ns cs → ∀ i, i ≤ t.length → av.getD i false = !cs.getD i false
theorem negE_of {ks : List Tk} (h : chkE ks = 0) : negE ks = if 2048 < (kL ks).2.length then 3 else 0 := by
  unfold negE
  rw [h, if_neg (by omega)]
theorem kMs (t : List Nat) {xs : List Tk} (h : lookE xs 1 = 0) (hl : (kL xs).1.length ≤ 2048) : KMs t xs (kL xs).1 (kL (kL xs).1).2 := by
  have K := kAll t h
  have c1 := K.one hl
  obtain ⟨v, hv, ⟨u, hu, hs⟩, x, hx, ho⟩ := K.same
  refine ⟨c1, ?_, fun av bs ha hb => ValB.same ha hb hv hu (fun i hi => (hs i hi).symm), fun av cs ha hc i hi => ?_⟩
  · by_cases hn : 2048 < (kL (kL xs).1).2.length
    · exact Or.inl (by rw [negE_of c1, if_pos hn])
    · have e : negE (kL xs).1 = 0 := by rw [negE_of c1, if_neg hn]
      exact Or.inr ⟨e, by unfold negL; rw [if_pos e], K.two (by omega)⟩
  · have l1 := ha.1
    have l2 := hc.1
    have h1 := ha.2 v hv i (by omega)
    have h2 := hc.2 x hx i (by omega)
    rw [ho i hi, ← h1] at h2
    have e1 : av.getD i false = av[i]'(by omega) := by simp [List.getD_eq_getElem?_getD, show i < av.length by omega]
    have e2 : cs.getD i false = cs[i]'(by omega) := by simp [List.getD_eq_getElem?_getD, show i < cs.length by omega]
    rw [e1, e2]
    cases ha' : av[i]'(by omega) <;> cases hb' : cs[i]'(by omega) <;> simp_all
set_option maxRecDepth 100000 in
set_option maxHeartbeats 8000000 in
theorem Try.kmeans_any (hOf : OfC 10) (hNeg : NegC 12) (hChk : ChkC 17) (hAll : AllC 24) (a : Option Addr) (la ca : Nat) (xs : List Tk) (d : Option Addr) (m c : Nat) (zs : List Int) (w : World) (hA : TkSl w a la ca xs) (hL : LtSl w d m c zs) :
    Calls Try.prog 5 #[.slice a la ca, .slice d m c] w fun e w' => e = .returned (.bool true) ∧ Below w.heap.size w w' := by
  have h0 := Try.kawake_any hOf hNeg w
  have hck := fun w' (hw : Below w.heap.size w w') => Try.check_any a la ca xs w' (hA.up hw)
  have hlen := hL.sl.hlen
  have hla := hA.hcap
  have hlb := hA.bd
  have hlc := hL.sl.hcap
  have hld := hL.sl.bd
  unfold maxLen at hlb hld
  have HA : Hid (TkSl w a la ca xs) := hA
  have HL : Hid (LtSl w d m c zs) := hL
  have HOf : Hid (OfC 10) := hOf
  have HNeg : Hid (NegC 12) := hNeg
  have HChk : Hid (ChkC 17) := hChk
  have HAll : Hid (AllC 24) := hAll
  clear hA hL hOf hNeg hChk hAll
  by_cases c1 : 40 < la
  · have c1' : (40 : Int) < (la : Int) := by omega
    clear hck
    go_enter Try.func5, Try.ntmps5
    go_wp2_with fail
    refine h0.mono ?_
    rintro e w1 ⟨rfl, hb1⟩
    have HB1 : Hid (Below w.heap.size w w1) := hb1
    clear h0 hb1
    go_wp2
    go_ret
    exact ⟨rfl, HB1.out⟩
  · have c1' : ¬ (40 : Int) < (la : Int) := by omega
    by_cases c2 : 16 < m
    · have c2' : (16 : Int) < (m : Int) := by omega
      clear hck
      go_enter Try.func5, Try.ntmps5
      go_wp2_with fail
      refine h0.mono ?_
      rintro e w1 ⟨rfl, hb1⟩
      have HB1 : Hid (Below w.heap.size w w1) := hb1
      clear h0 hb1
      go_wp2
      go_ret
      exact ⟨rfl, HB1.out⟩
    · have c2' : ¬ (16 : Int) < (m : Int) := by omega
      by_cases c3 : lookE xs 1 = 0
      · rw [c3] at hck
        have HT0 : Hid (trE zs = 0) := if_neg (by omega)
        have Hzm : Hid ((zN zs).length = m) := by show _ = _; rw [zN_len]; exact hlen
        by_cases c4 : 2048 < (kL xs).1.length
        · have eO : ofE xs = 3 := by unfold ofE; rw [if_neg (by omega), if_pos c4]
          have eL : ofL xs = [] := by unfold ofL; rw [if_neg (by omega)]
          go_enter Try.func5, Try.ntmps5
          go_wp2_with fail
          refine h0.mono ?_
          rintro e w1 ⟨rfl, hb1⟩
          have j1 := hck w1 hb1
          have HB1 : Hid (Below w.heap.size w w1) := hb1
          clear h0 hb1 hck
          go_wp2_with fail
          refine j1.mono ?_
          rintro e w2 ⟨rfl, hb2⟩
          have HB2 : Hid (Below w.heap.size w w2) := below_step HB1.out hb2
          have j2 := HOf.out a la ca xs w2 (HA.out.up HB2.out)
          unfold OfR at j2
          rw [eO, eL] at j2
          clear j1 hb2 HB1 c4 eO eL
          go_wp2_with fail
          refine j2.mono ?_
          rintro e w3 ⟨a3, c3', rfl, _, hb3⟩
          have HB3 : Hid (Below w.heap.size w w3) := below_step HB2.out hb3
          clear j2 hb3 HB2
          go_wp2
          go_ret
          exact ⟨rfl, HB3.out⟩
        · have eO : ofE xs = 0 := by unfold ofE; rw [if_neg (by omega), if_neg c4]
          have eL : ofL xs = (kL xs).1 := by unfold ofL; rw [if_pos eO]
          have HM : Hid (KMs (zN zs) xs (kL xs).1 (kL (kL xs).1).2) := kMs (zN zs) c3 (by omega)
          have HK3 : Hid (lookE xs 1 = 0) := c3
          generalize (kL (kL xs).1).2 = ns at *
          generalize hks : (kL xs).1 = ks at *
          clear hks c3 c4
          go_enter Try.func5, Try.ntmps5
          go_wp2_with fail
          refine h0.mono ?_
          rintro e w1 ⟨rfl, hb1⟩
          have j1 := hck w1 hb1
          have HB1 : Hid (Below w.heap.size w w1) := hb1
          clear h0 hb1 hck
          go_wp2_with fail
          refine j1.mono ?_
          rintro e w2 ⟨rfl, hb2⟩
          have HB2 : Hid (Below w.heap.size w w2) := below_step HB1.out hb2
          have j2 := HOf.out a la ca xs w2 (HA.out.up HB2.out)
          unfold OfR at j2
          rw [eO, eL] at j2
          clear j1 hb2 HB1 eO eL
          go_wp2_with fail
          refine j2.mono ?_
          rintro e w3 ⟨a3, c3', rfl, hK, hb3⟩
          have HB3 : Hid (Below w.heap.size w w3) := below_step HB2.out hb3
          have HK3' : Hid (TkSl w3 a3 ks.length c3' ks) := hK
          have j3 := HNeg.out a3 ks.length c3' ks w3 hK
          unfold NegR at j3
          clear j2 hb3 HB2 hK
          rcases HM.out.neg with eN | ⟨eN, eM, eC⟩
          · have eM : negL ks = [] := by unfold negL; rw [if_neg (by omega)]
            rw [eN, eM] at j3
            go_wp2_with fail
            refine j3.mono ?_
            rintro e w4 ⟨a4, c4', rfl, hN, hb4⟩
            have HB4 : Hid (Below w.heap.size w w4) := below_step HB3.out hb4
            have HK4 : Hid (TkSl w4 a3 ks.length c3' ks) := HK3'.out.up hb4
            have HN4 : Hid (TkSl w4 a4 0 c4' []) := hN
            have j4 := HChk.out a3 ks.length c3' ks w4 HK4.out
            rw [HM.out.chk1] at j4
            clear j3 hb4 hN HB3 HK3'
            go_wp2_with fail
            refine j4.mono ?_
            rintro e w5 ⟨rfl, hb5⟩
            have HB5 : Hid (Below w.heap.size w w5) := below_step HB4.out hb5
            have HK5 : Hid (TkSl w5 a3 ks.length c3' ks) := HK4.out.up hb5
            have HN5 : Hid (TkSl w5 a4 0 c4' []) := HN4.out.up hb5
            clear j4 hb5 HB4 HK4 HN4
            have w6e : ∃ w6, w6 = w5 := ⟨_, rfl⟩
            obtain ⟨w6, rfl⟩ := w6e
            have HB6 : Hid (Below w.heap.size w w6) := HB5.out
            have HK6 : Hid (TkSl w6 a3 ks.length c3' ks) := HK5.out
            have HN6 : Hid (TkSl w6 a4 0 c4' []) := HN5.out
            clear HB5 HK5 HN5
            have j6 := HAll.out a la ca xs d m c zs w6 (HA.out.up HB6.out) (HL.out.up HB6.out)
            go_wp2_with fail
            refine j6.mono ?_
            rintro e w7 ⟨v7, E7, rfl, hb7, hr7⟩
            have HB7 : Hid (Below w.heap.size w w7) := below_step HB6.out hb7
            have HK7 : Hid (TkSl w7 a3 ks.length c3' ks) := HK6.out.up hb7
            have HN7 : Hid (TkSl w7 a4 0 c4' []) := HN6.out.up hb7
            rcases hr7 with ⟨q7, hq7, _⟩ | ⟨rfl, _, _, av, ho7, hv7⟩
            · exfalso
              rcases hq7 with ⟨hq, _⟩ | ⟨_, hq⟩
              · exact hq HK3.out
              · exact q7 (hq.trans HT0.out)
            · obtain ⟨a7, c7, rfl, hS7⟩ := own_bo ho7
              have HS7 : Hid (BoSl w7 a7 av.length c7 av) := hS7
              have HV7 : Hid (ValB (zN zs) xs av) := hv7
              have HA7 : Hid (av.length = m + 1) := by show _ = _; rw [hv7.1, Hzm.out]
              have j7 := HAll.out a3 ks.length c3' ks d m c zs w7 HK7.out (HL.out.up HB7.out)
              clear j6 hb7 ho7 hv7 hS7 HB6 HK6 HN6 HK7
              go_wp2_with fail
              refine j7.mono ?_
              rintro e w8 ⟨v8, E8, rfl, hb8, hr8⟩
              have HB8 : Hid (Below w.heap.size w w8) := below_step HB7.out hb8
              have HS8 : Hid (BoSl w8 a7 av.length c7 av) := HS7.out.up hb8
              have HN8 : Hid (TkSl w8 a4 0 c4' []) := HN7.out.up hb8
              clear j7 HB7 HS7 HN7
              rcases hr8 with ⟨q8, _, rfl⟩ | ⟨rfl, _, _, bs, ho8, hv8⟩
              · clear hb8
                have HB9 : Hid (Below w.heap.size w w8) := HB8.out
                have HS9 : Hid (BoSl w8 a7 av.length c7 av) := HS8.out
                have HN9 : Hid (TkSl w8 a4 0 c4' []) := HN8.out
                clear HB8 HS8 HN8
                have jN := HAll.out a4 0 c4' [] d m c zs w8 HN9.out (HL.out.up HB9.out)
                go_wp2_with fail
                refine jN.mono ?_
                rintro e wA ⟨vA, EA, rfl, hbA, hrA⟩
                have HBA : Hid (Below w.heap.size w wA) := below_step HB9.out hbA
                have HSA : Hid (BoSl wA a7 av.length c7 av) := HS9.out.up hbA
                clear jN HB9 HS9 HN9
                rcases hrA with ⟨qA, _, rfl⟩ | ⟨_, hqA, _⟩
                · clear hbA
                  go_wp2
                  go_ret
                  exact ⟨rfl, HBA.out⟩
                · exact absurd hqA (look_nil 1)
              · obtain ⟨a8, c8, rfl, hS8⟩ := own_bo ho8
                have hab := HM.out.same av bs HV7.out hv8
                have jS := Try.sameB_any _ _ _ _ _ _ _ _ w8 HS8.out hS8
                rw [decide_eq_true hab] at jS
                clear hb8 ho8 hv8 hS8 hab
                go_wp2_with fail
                refine jS.mono ?_
                rintro e w9 ⟨rfl, hb9⟩
                have HB9 : Hid (Below w.heap.size w w9) := below_step HB8.out hb9
                have HS9 : Hid (BoSl w9 a7 av.length c7 av) := HS8.out.up hb9
                have HN9 : Hid (TkSl w9 a4 0 c4' []) := HN8.out.up hb9
                clear jS hb9 HB8 HS8 HN8
                have jN := HAll.out a4 0 c4' [] d m c zs w9 HN9.out (HL.out.up HB9.out)
                go_wp2_with fail
                refine jN.mono ?_
                rintro e wA ⟨vA, EA, rfl, hbA, hrA⟩
                have HBA : Hid (Below w.heap.size w wA) := below_step HB9.out hbA
                have HSA : Hid (BoSl wA a7 av.length c7 av) := HS9.out.up hbA
                clear jN HB9 HS9 HN9
                rcases hrA with ⟨qA, _, rfl⟩ | ⟨_, hqA, _⟩
                · clear hbA
                  go_wp2
                  go_ret
                  exact ⟨rfl, HBA.out⟩
                · exact absurd hqA (look_nil 1)
          · rw [eN, eM] at j3
            go_wp2_with fail
            refine j3.mono ?_
            rintro e w4 ⟨a4, c4', rfl, hN, hb4⟩
            have HB4 : Hid (Below w.heap.size w w4) := below_step HB3.out hb4
            have HK4 : Hid (TkSl w4 a3 ks.length c3' ks) := HK3'.out.up hb4
            have HN4 : Hid (TkSl w4 a4 ns.length c4' ns) := hN
            have j4 := HChk.out a3 ks.length c3' ks w4 HK4.out
            rw [HM.out.chk1] at j4
            clear j3 hb4 hN HB3 HK3'
            go_wp2_with fail
            refine j4.mono ?_
            rintro e w5 ⟨rfl, hb5⟩
            have HB5 : Hid (Below w.heap.size w w5) := below_step HB4.out hb5
            have HK5 : Hid (TkSl w5 a3 ks.length c3' ks) := HK4.out.up hb5
            have HN5 : Hid (TkSl w5 a4 ns.length c4' ns) := HN4.out.up hb5
            clear j4 hb5 HB4 HK4 HN4
            have j5 := HChk.out a4 ns.length c4' ns w5 HN5.out
            rw [eC] at j5
            go_wp2_with fail
            refine j5.mono ?_
            rintro e w6 ⟨rfl, hb6⟩
            have HB6 : Hid (Below w.heap.size w w6) := below_step HB5.out hb6
            have HK6 : Hid (TkSl w6 a3 ks.length c3' ks) := HK5.out.up hb6
            have HN6 : Hid (TkSl w6 a4 ns.length c4' ns) := HN5.out.up hb6
            clear j5 hb6 HB5 HK5 HN5
            have j6 := HAll.out a la ca xs d m c zs w6 (HA.out.up HB6.out) (HL.out.up HB6.out)
            go_wp2_with fail
            refine j6.mono ?_
            rintro e w7 ⟨v7, E7, rfl, hb7, hr7⟩
            have HB7 : Hid (Below w.heap.size w w7) := below_step HB6.out hb7
            have HK7 : Hid (TkSl w7 a3 ks.length c3' ks) := HK6.out.up hb7
            have HN7 : Hid (TkSl w7 a4 ns.length c4' ns) := HN6.out.up hb7
            rcases hr7 with ⟨q7, hq7, _⟩ | ⟨rfl, _, _, av, ho7, hv7⟩
            · exfalso
              rcases hq7 with ⟨hq, _⟩ | ⟨_, hq⟩
              · exact hq HK3.out
              · exact q7 (hq.trans HT0.out)
            · obtain ⟨a7, c7, rfl, hS7⟩ := own_bo ho7
              have HS7 : Hid (BoSl w7 a7 av.length c7 av) := hS7
              have HV7 : Hid (ValB (zN zs) xs av) := hv7
              have HA7 : Hid (av.length = m + 1) := by show _ = _; rw [hv7.1, Hzm.out]
              have j7 := HAll.out a3 ks.length c3' ks d m c zs w7 HK7.out (HL.out.up HB7.out)
              clear j6 hb7 ho7 hv7 hS7 HB6 HK6 HN6 HK7
              go_wp2_with fail
              refine j7.mono ?_
              rintro e w8 ⟨v8, E8, rfl, hb8, hr8⟩
              have HB8 : Hid (Below w.heap.size w w8) := below_step HB7.out hb8
              have HS8 : Hid (BoSl w8 a7 av.length c7 av) := HS7.out.up hb8
              have HN8 : Hid (TkSl w8 a4 ns.length c4' ns) := HN7.out.up hb8
              clear j7 HB7 HS7 HN7
              rcases hr8 with ⟨q8, _, rfl⟩ | ⟨rfl, _, _, bs, ho8, hv8⟩
              · clear hb8
                have HB9 : Hid (Below w.heap.size w w8) := HB8.out
                have HS9 : Hid (BoSl w8 a7 av.length c7 av) := HS8.out
                have HN9 : Hid (TkSl w8 a4 ns.length c4' ns) := HN8.out
                clear HB8 HS8 HN8
                have jN := HAll.out a4 ns.length c4' ns d m c zs w8 HN9.out (HL.out.up HB9.out)
                go_wp2_with fail
                refine jN.mono ?_
                rintro e wA ⟨vA, EA, rfl, hbA, hrA⟩
                have HBA : Hid (Below w.heap.size w wA) := below_step HB9.out hbA
                have HSA : Hid (BoSl wA a7 av.length c7 av) := HS9.out.up hbA
                clear jN HB9 HS9 HN9
                rcases hrA with ⟨qA, _, rfl⟩ | ⟨rfl, _, _, cs, hoA, hvA⟩
                · clear hbA
                  go_wp2
                  go_ret
                  exact ⟨rfl, HBA.out⟩
                · obtain ⟨aA, cA, rfl, hSA⟩ := own_bo hoA
                  have HTA : Hid (BoSl wA aA cs.length cA cs) := hSA
                  have hcl : cs.length = m + 1 := by rw [hvA.1, Hzm.out]
                  have hal := HA7.out
                  have HOP : Hid (∀ i, i < m + 1 → av.getD i false = !cs.getD i false) := fun i hi => HM.out.opp av cs HV7.out hvA i (by rw [Hzm.out]; omega)
                  have HSB : Hid (BoSl wA a7 (m + 1) c7 av) := by have h := HSA.out; rw [hal] at h; exact h
                  have HTB : Hid (BoSl wA aA (m + 1) cA cs) := by have h := HTA.out; rw [hcl] at h; exact h
                  have HAL : Hid (av.length = m + 1) := hal
                  have HCL : Hid (cs.length = m + 1) := hcl
                  rw [hcl, hal]
                  clear hbA hoA hvA hSA HSA HTA hal hcl
                  go_wp2
                  go_loopw [16] (fun i wr => ∃ j : Nat, j ≤ m + 1 ∧ i = .int .i64 j ∧ Hid (Below w.heap.size w wr) ∧ Hid (Below wA.heap.size wA wr)) (fun i _ => m + 1 - (intOf i).toNat)
                  case atStart => exact ⟨0, Nat.zero_le _, rfl, HBA, Below.refl _ _⟩
                  case round =>
                    obtain ⟨j, hj, rfl, HBR, HBW⟩ := hrel
                    by_cases hlt : j < m + 1
                    · obtain ⟨hi1, hx1⟩ := (HSB.out.up HBW.out).at j hlt
                      obtain ⟨hi2, hx2⟩ := (HTB.out.up HBW.out).at j hlt
                      have hja : j < av.length := by rw [HAL.out]; exact hlt
                      have hjc : j < cs.length := by rw [HCL.out]; exact hlt
                      have hidx := fun w' => hi1 (m + 1) w' hlt
                      have hidy := fun w' => hi2 (m + 1) w' hlt
                      clear hi1 hi2
                      have HOJ : Hid _ := HOP.out j hlt
                      have e1 : av.getD j false = av[j]'hja := by simp [List.getD_eq_getElem?_getD, hja]
                      have e2 : cs.getD j false = cs[j]'hjc := by simp [List.getD_eq_getElem?_getD, hjc]
                      rw [e1, e2] at HOJ
                      clear e1 e2
                      generalize av[j]'hja = p at *
                      generalize cs[j]'hjc = q at *
                      clear hja hjc
                      have hpq := HOJ.out
                      subst hpq
                      cases q
                      all_goals
                        go_wp2_with fail
                        go_quiet (fail)
                        go_wp2
                        go_roundw
                        case rel => exact ⟨j + 1, by omega, by go_num, below_drewN HBR.out nq, below_drewN HBW.out nq⟩
                        case measure => simp [intOf] <;> omega
                    · obtain rfl : j = m + 1 := by omega
                      go_wp2
                      go_ret
                      exact ⟨rfl, HBR.out⟩
              · obtain ⟨a8, c8, rfl, hS8⟩ := own_bo ho8
                have hab := HM.out.same av bs HV7.out hv8
                have jS := Try.sameB_any _ _ _ _ _ _ _ _ w8 HS8.out hS8
                rw [decide_eq_true hab] at jS
                clear hb8 ho8 hv8 hS8 hab
                go_wp2_with fail
                refine jS.mono ?_
                rintro e w9 ⟨rfl, hb9⟩
                have HB9 : Hid (Below w.heap.size w w9) := below_step HB8.out hb9
                have HS9 : Hid (BoSl w9 a7 av.length c7 av) := HS8.out.up hb9
                have HN9 : Hid (TkSl w9 a4 ns.length c4' ns) := HN8.out.up hb9
                clear jS hb9 HB8 HS8 HN8
                have jN := HAll.out a4 ns.length c4' ns d m c zs w9 HN9.out (HL.out.up HB9.out)
                go_wp2_with fail
                refine jN.mono ?_
                rintro e wA ⟨vA, EA, rfl, hbA, hrA⟩
                have HBA : Hid (Below w.heap.size w wA) := below_step HB9.out hbA
                have HSA : Hid (BoSl wA a7 av.length c7 av) := HS9.out.up hbA
                clear jN HB9 HS9 HN9
                rcases hrA with ⟨qA, _, rfl⟩ | ⟨rfl, _, _, cs, hoA, hvA⟩
                · clear hbA
                  go_wp2
                  go_ret
                  exact ⟨rfl, HBA.out⟩
                · obtain ⟨aA, cA, rfl, hSA⟩ := own_bo hoA
                  have HTA : Hid (BoSl wA aA cs.length cA cs) := hSA
                  have hcl : cs.length = m + 1 := by rw [hvA.1, Hzm.out]
                  have hal := HA7.out
                  have HOP : Hid (∀ i, i < m + 1 → av.getD i false = !cs.getD i false) := fun i hi => HM.out.opp av cs HV7.out hvA i (by rw [Hzm.out]; omega)
                  have HSB : Hid (BoSl wA a7 (m + 1) c7 av) := by have h := HSA.out; rw [hal] at h; exact h
                  have HTB : Hid (BoSl wA aA (m + 1) cA cs) := by have h := HTA.out; rw [hcl] at h; exact h
                  have HAL : Hid (av.length = m + 1) := hal
                  have HCL : Hid (cs.length = m + 1) := hcl
                  rw [hcl, hal]
                  clear hbA hoA hvA hSA HSA HTA hal hcl
                  go_wp2
                  go_loopw [16] (fun i wr => ∃ j : Nat, j ≤ m + 1 ∧ i = .int .i64 j ∧ Hid (Below w.heap.size w wr) ∧ Hid (Below wA.heap.size wA wr)) (fun i _ => m + 1 - (intOf i).toNat)
                  case atStart => exact ⟨0, Nat.zero_le _, rfl, HBA, Below.refl _ _⟩
                  case round =>
                    obtain ⟨j, hj, rfl, HBR, HBW⟩ := hrel
                    by_cases hlt : j < m + 1
                    · obtain ⟨hi1, hx1⟩ := (HSB.out.up HBW.out).at j hlt
                      obtain ⟨hi2, hx2⟩ := (HTB.out.up HBW.out).at j hlt
                      have hja : j < av.length := by rw [HAL.out]; exact hlt
                      have hjc : j < cs.length := by rw [HCL.out]; exact hlt
                      have hidx := fun w' => hi1 (m + 1) w' hlt
                      have hidy := fun w' => hi2 (m + 1) w' hlt
                      clear hi1 hi2
                      have HOJ : Hid _ := HOP.out j hlt
                      have e1 : av.getD j false = av[j]'hja := by simp [List.getD_eq_getElem?_getD, hja]
                      have e2 : cs.getD j false = cs[j]'hjc := by simp [List.getD_eq_getElem?_getD, hjc]
                      rw [e1, e2] at HOJ
                      clear e1 e2
                      generalize av[j]'hja = p at *
                      generalize cs[j]'hjc = q at *
                      clear hja hjc
                      have hpq := HOJ.out
                      subst hpq
                      cases q
                      all_goals
                        go_wp2_with fail
                        go_quiet (fail)
                        go_wp2
                        go_roundw
                        case rel => exact ⟨j + 1, by omega, by go_num, below_drewN HBR.out nq, below_drewN HBW.out nq⟩
                        case measure => simp [intOf] <;> omega
                    · obtain rfl : j = m + 1 := by omega
                      go_wp2
                      go_ret
                      exact ⟨rfl, HBR.out⟩
      · have c3' : ¬ (lookE xs 1 : Int) = 0 := by omega
        generalize lookE xs 1 = E at *
        have c3b : ((E : Int) != 0) = true := by simpa using c3
        have c3c : ((E : Int) == 0) = false := by simpa using c3
        have c3d : (E != 0) = true := by simpa using c3
        have c3e : (E == 0) = false := by simpa using c3
        go_enter Try.func5, Try.ntmps5
        go_wp2_with fail
        refine h0.mono ?_
        rintro e w1 ⟨rfl, hb1⟩
        have j1 := hck w1 hb1
        have HB1 : Hid (Below w.heap.size w w1) := hb1
        clear h0 hb1 hck
        go_wp2_with fail
        refine j1.mono ?_
        rintro e w2 ⟨rfl, hb2⟩
        have HB2 : Hid (Below w.heap.size w w2) := below_step HB1.out hb2
        clear j1 hb2
        go_wp2
        go_ret
        exact ⟨rfl, HB2.out⟩
end Go.Proofs.Ytfgaieefejdkbaa
