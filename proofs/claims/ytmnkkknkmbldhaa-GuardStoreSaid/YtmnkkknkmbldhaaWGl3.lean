/- Stage 14: GuardStore. -/
import Derived.Test.YtmnkkknkmbldhaaWGl2
import Derived.Deep.RegionHeld3
namespace Go.Proofs.Ytmnkkknkmbldhaa
open Go.RowKit Go.Maps Go.Sort

set_option maxRecDepth 100000 in
set_option maxHeartbeats 8000000 in
theorem Try.gstore_any (n : Int) (a : Option Addr) (len cap : Nat) (rs : List Zc) (w : World) (hR : ZzSl w a len cap rs) :
    Calls Try.prog 3 #[.int .i64 n, .slice a len cap] w fun e w' => e = .returned (.bool true) ∧ Below w.heap.size w w' := by
  have j1 := Try.snew_any n w
  have J2 : Hid (∀ w', Calls Try.prog 9 #[.int .i64 n] w' (RnR n w')) := fun w' => Try.rnew_any n w'
  have HZ : Hid _ := hR
  have hbd := Nat.le_trans hR.hcap hR.bd
  unfold maxLen at hbd
  clear hR
  go_enter Try.func3, Try.ntmps3
  go_wp2_with fail
  refine j1.mono ?_
  rintro e w1 ⟨hb1, ⟨hno, rfl⟩ | ⟨h0, h8, g, F, rfl, hF, hst⟩⟩
  · have j2 := J2.out w1
    have HB1 : Hid _ := hb1
    clear j1 J2 hb1
    go_wp2_with fail
    refine j2.mono ?_
    rintro e w2 ⟨hb2, ⟨_, rfl⟩ | ⟨h0, h8, _⟩⟩
    · have HB2 : Hid _ := below_step HB1.out hb2
      clear hb2 j2 hno
      go_wp2
      go_ret
      exact ⟨rfl, HB2.out⟩
    · exact absurd ⟨h0, h8⟩ hno
  · have j2 := J2.out w1
    have HB1 : Hid _ := hb1
    have HF0 : Hid _ := hF
    have HST : Hid _ := hst
    clear j1 J2 hb1 hF hst
    go_wp2_with fail
    refine j2.mono ?_
    rintro e w2 ⟨hb2, ⟨hno, _⟩ | ⟨_, _, q, R, rfl, hq, hrs⟩⟩
    · exact absurd ⟨h0, h8⟩ hno
    obtain ⟨m, rfl⟩ : ∃ m : Nat, n = (m : Int) := ⟨n.toNat, by omega⟩
    have hm8 : m ≤ 8 := by omega
    rw [Int.toNat_natCast] at hrs HST
    have HP0 : Hid (Pair w w2 g m F q R [] []) := by
      have hsz := HB1.out.size
      refine ⟨HST.out.up hb2, hrs, fun k hk hr => ?_, HF0.out, fun k hk => ?_, below_step HB1.out hb2⟩
      · have := HST.out.lt k hk; have := (hrs.lt k hr).1; omega
      · have := (hrs.lt k hk).1; omega
    clear j2 hb2 hq hrs HB1 HF0 HST h0 h8
    by_cases h40 : 40 < len
    · have HE : Hid _ := HP0.out.bel
      have d40 : decide ((40 : Int) < (len : Int)) = true := by simp; omega
      clear HP0
      go_wp2
      go_ret
      exact ⟨rfl, HE.out⟩
    have d40 : decide ((40 : Int) < (len : Int)) = false := by simp; omega
    have hl40 : len ≤ 40 := by omega
    clear h40
    go_wp2
    clear d40
    go_loopw [9] (fun i wr => ∃ k : Nat, k ≤ len ∧ i = .int .i64 (k : Int) ∧ ∃ (F1 R1 : Nat → Prop) (N : List Gd), Hid (Pair w wr g m F1 q R1 N N) ∧ Hid (N.length ≤ 4096)) (fun i _ => len - (intOf i).toNat)
    case atStart => exact ⟨0, Nat.zero_le _, rfl, F, R, [], HP0, Nat.zero_le _⟩
    case round =>
      obtain ⟨k, hk, rfl, F1, R1, N, HP, HN⟩ := hrel
      clear HP0
      by_cases hlt : k < len
      · obtain ⟨gi, oi, si, r, hrk, hix, hce, hZS, hI⟩ := (HZ.out.up HP.out.bel).at k hlt
        obtain ⟨_, _, _, r', hrk', _, _, hZ0, _⟩ := HZ.out.at k hlt
        obtain rfl : r = r' := by rw [hrk] at hrk'; injection hrk'
        have HLW : Hid (∀ j, j < r.len → (adOf r.a j).block < w.heap.size) := fun j hj => hZ0.blk j hj
        have hcl : gi < w.heap.size := by
          obtain ⟨gi', oi', si', r', hrk', hix', hce', _, _⟩ := HZ.out.at k hlt
          have e1 := hix wr
          rw [hix' wr] at e1
          injection e1 with e1 _
          injection e1 with e1
          injection e1 with e1
          injection e1 with e1 _ _
          have := World.block_lt_of_cell? _ _ hce'
          dsimp only at this
          omega
        have HCL : Hid _ := hcl
        have HZ0 : Hid _ := hZ0
        obtain ⟨ra, rl, rc, zs⟩ := r
        dsimp only at *
        have hrb := Nat.le_trans hZS.hcap hZS.bd
        unfold maxLen at hrb
        clear hrk hrk' hcl hZ0 hI
        by_cases h260 : 260 < rl
        · have d260 : decide ((260 : Int) < (rl : Int)) = true := by simp; omega
          have HE : Hid _ := HP.out.bel
          clear HP
          go_wp2
          go_ret
          exact ⟨rfl, HE.out⟩
        · have d260 : decide ((260 : Int) < (rl : Int)) = false := by simp; omega
          have hl260 : rl ≤ 260 := by omega
          have jl := Try.lentZ_any ra rl rc zs wr hZS (by omega)
          have HLn : Hid (zs.length = rl) := hZS.hlen
          clear hZS h260
          go_wp2_with fail
          refine jl.mono ?_
          rintro e w3 ⟨rfl, hrow, hb3⟩
          have hP3 := HP.out.up hb3
          have hlz := RowI.zsl (n := rl) hrow Try.underlying30 Try.sizeInt (by rw [lentZ_len, HLn.out]; omega) (by rw [lentZ_len, HLn.out]; unfold maxLen; omega)
          rw [lentZ_len, HLn.out, ← HLn.out, lentZ_take, HLn.out] at hlz
          have jA := Try.sAdd_any g m hm8 zs (some ⟨wr.heap.size, 0, none⟩) rl (rl + 3) N F1 w3 hlz (fun j hj hf => by
            have := HP.out.st.lt _ hf
            simp [adOf, add_plain] at this) hP3.st HN.out
          have HP3 : Hid _ := hP3
          have HRow : Hid _ := hrow
          have hcer := kept_cell hce hb3
          clear hP3 hrow hlz jl
          rcases ea : addG m N zs with ⟨⟨ref, er⟩, N'⟩
          rw [ea] at jA
          have HFW : Hid (N'.length ≤ 4096) := by
            have := addG_few (n := m) (l := zs) HN.out
            rw [ea] at this
            exact this
          have HEA : Hid _ := ea
          have HC3 : Hid _ := hcer
          have HWR : Hid (wr.heap.size < w3.heap.size) := (Array.getElem?_eq_some_iff.1 HRow.out).1
          have HPlt : Hid (∀ j, F1 j → j < wr.heap.size) := fun j hj => HP.out.st.lt j hj
          have HQlt : Hid (∀ j, R1 j → j < wr.heap.size) := fun j hj => (HP.out.rf.lt j hj).2
          clear ea hce hb3
          go_wp2_with fail
          refine jA.mono ?_
          rintro e w4 ⟨rfl, F2, hs4, hf4⟩
          dsimp only at hs4 ⊢
          have hP4 := HP3.out.add1 hs4 hf4
          have hrow4 : RowI w4 3 wr.heap.size (lentZ zs) := (hf4.keep _ HWR.out (fun e => by have := HPlt.out _ e; omega)).trans HRow.out
          have hce4 : w4.cell? ⟨gi, oi, si⟩ = some (.slice ra rl rc) := hf4.cell HC3.out (fun e => by have := HP3.out.nf _ e; have := HCL.out; dsimp only at *; omega)
          have jB := Try.rAdd_any q m hm8 zs ra rl rc N R1 w4 (HZ0.out.up hP4.bel) (fun j hj hr => by have := HLW.out j hj; have := hP4.nr _ hr; omega) hP4.rf HN.out (by omega)
          rw [HEA.out] at jB
          have HP4 : Hid _ := hP4
          have HR4 : Hid _ := hrow4
          have HC4 : Hid _ := hce4
          have HW4 : Hid (wr.heap.size < w4.heap.size) := Nat.lt_of_lt_of_le HWR.out hf4.size
          clear hP4 hrow4 hs4 hf4 HP3 HRow HC3 hcer jA
          go_wp2_with fail
          refine jB.mono ?_
          rintro e w5 ⟨rfl, R2, hs5, hf5⟩
          dsimp only at hs5 ⊢
          have hP5 := HP4.out.add2 hs5 hf5
          have hrow5 : RowI w5 3 wr.heap.size (lentZ zs) := (hf5.keep _ HW4.out (fun e => by have := HQlt.out _ e; omega)).trans HR4.out
          have hce5 : w5.cell? ⟨gi, oi, si⟩ = some (.slice ra rl rc) := hf5.cell HC4.out (fun e => by have := HP4.out.nr _ e; have := HCL.out; dsimp only at *; omega)
          obtain ⟨a5, c5, hq5, _⟩ := hP5.rf.nodes
          have k0 := cell_regrown hce5
          have k1 := cell_regrown hq5
          have cK : ∀ d os, Calls Try.prog 13 #[.slice (some ⟨wr.heap.size, 0, none⟩) rl (rl + 3), .slice ra rl rc] (grow (redrawn w5 d) os) fun e w'' => e = .returned (.bool true) ∧ ∃ p : Regrown, w'' = grow (redrawn w5 p.d) p.os := fun d os => Calls.regrown_of (Try.keptZ_any wr.heap.size rl ra rc zs _ (((below_regrown w5 d os).block _ (Array.getElem?_eq_some_iff.1 hrow5).1).trans hrow5) ((HZ0.out.up hP5.bel).up (below_regrown w5 d os)) (by omega))
          have cL : ∀ d os, Calls Try.prog 14 #[.pointer (some ⟨g, 0, none⟩)] (grow (redrawn w5 d) os) fun e w'' => e = .returned (.int .i64 (N'.length : Int)) ∧ ∃ p : Regrown, w'' = grow (redrawn w5 p.d) p.os := fun d os => Calls.regrown_of ((Try.slen_any (hP5.st.up (below_regrown w5 d os))).mono fun e w'' ⟨h1, h2⟩ => ⟨h1, by rw [h2]; exact Below.refl _ _⟩)
          have HP5 : Hid _ := fun d os => hP5.up (below_regrown w5 d os)
          have d1 : (ref != ref) = false := by simp
          have d2 : (er != er) = false := by simp
          have d3 : ((N'.length : Int) != (N'.length : Int)) = false := by simp
          clear hP5 hrow5 hce5 hs5 hf5 hq5 HP4 HR4 HC4 HW4 hce4 jB HWR HPlt HQlt HEA HP HLn HLW HCL
          generalize hL : N'.length = L at *
          have HL : Hid _ := hL
          clear hL
          go_wp2_with fail
          refine wp_region_quiet_below (by kernel_rfl) (by kernel_rfl) ?_
          repeat (go_big_quiet_step (first | exact cK _ _ | exact cL _ _))
          refine wpQuiet_nil ?_
          intro _ hw'
          obtain ⟨⟨dq, osq⟩, hw''⟩ := hw'
          subst hw''
          have HP6 : Hid _ := HP5.out dq osq
          clear HP5 k0 k1 cK cL
          generalize grow (redrawn w5 dq) osq = w6 at *
          go_wp2
          go_roundw
          case rel => exact ⟨k + 1, by omega, by go_num, F2, R2, N', HP6, by rw [HL.out]; exact HFW.out⟩
          case measure => simp [intOf]; omega
      · obtain rfl : k = len := by omega
        have hNl : N.length ≤ 1000000 := by have := HN.out; omega
        have jN1 := Try.snodes_any HP.out.st hNl
        have HNL : Hid (N.length ≤ 1000000) := hNl
        clear hNl
        go_wp2_with fail
        refine jN1.mono ?_
        rintro e w2a ⟨hb2a, v1, rfl, ho1⟩
        have hP2 := HP.out.up hb2a
        have jN2 := Try.snodes_any hP2.st HNL.out
        have HP2 : Hid _ := hP2
        have HO1 : Hid _ := ho1
        have HB2 : Hid _ := hb2a
        obtain ⟨x1, y1, hv1⟩ := own_slZ ho1
        subst hv1
        clear hP2 ho1 hb2a jN1
        go_wp2_with fail
        refine jN2.mono ?_
        rintro e w3a ⟨hb3a, v2, rfl, ho2⟩
        have hP3 := HP2.out.up hb3a
        have ho1 := owns_up HO1.out hb3a
        obtain ⟨x2, y2, hv2⟩ := own_slZ ho2
        subst hv2
        obtain ⟨aq, cq, hq3, hnq⟩ := hP3.rf.nodes
        obtain ⟨x1', y1', e1, hn1, _⟩ := own_nd ho1 hP3.st.ok
        injection e1 with e1a _ e1b
        subst e1a e1b
        obtain ⟨x2', y2', e2, hn2, hn2b⟩ := own_nd ho2 hP3.st.ok
        injection e2 with e2a _ e2b
        subst e2a e2b
        have jS := Try.sameN_any x1 N.length y1 N aq N.length cq N w3a hn1 hnq
        rw [decide_eq_true rfl] at jS
        have HP3 : Hid _ := hP3
        have HO3 : Hid _ := ho1
        have HN2 : Hid _ := hn2
        have HN2b : Hid (∀ x, x2 = some x → w2a.heap.size ≤ x.block ∧ x.block < w3a.heap.size) := fun x hx => ⟨(hn2b x hx).1, (ho2.lt _ (hn2b x hx).2).2⟩
        have HNQ : Hid _ := hnq
        have HQ3 : Hid _ := hq3
        have HSZ3 : Hid (w2a.heap.size ≤ w3a.heap.size) := hb3a.size
        clear hP3 ho1 ho2 hn1 hn2 hnq hb3a jN2 hn2b HP2
        generalize hL : N.length = L at *
        have HL : Hid _ := hL
        clear hL
        go_wp2_with fail
        refine jS.mono ?_
        rintro e w4a ⟨rfl, hb4a⟩
        obtain ⟨xa, ya, ga, e1, hga, hixa⟩ := nd_idx (owns_up HO3.out hb4a) (w4a.heap.size + 1)
        injection e1 with e1a _ e1b
        subst e1a e1b
        have HC0 : Hid (Chg w4a w4a ga (3 * L)) := Chg.start w4a (owns_up HO3.out hb4a) (hga.imp id (fun h => h.1))
        have hgb : (wr.heap.size ≤ ga ∧ ga < w2a.heap.size) ∨ w4a.heap.size < ga := by
          rcases hga with h | h
          · have := World.ownsRow.lt (show w2a.ownsRow wr.heap.size 44 3 (.slice x1 L y1) L (encG N) from HO1.out) _ h; exact .inl this
          · right; omega
        have HP4 : Hid (Pair w w4a g m F1 q R1 N N) := HP3.out.up hb4a
        have HN4 : Hid (NdSl w4a x2 L y2 N) := HN2.out.up hb4a
        have HFG : Hid (¬ F1 ga) := fun h => by have := HP.out.st.lt _ h; have := HP4.out.st.lt _ h; omega
        have HRG : Hid (¬ R1 ga) := fun h => by have := (HP.out.rf.lt _ h).2; have := (HP4.out.rf.lt _ h).2; omega
        have HXG : Hid (∀ x, x2 = some x → x.block ≠ ga) := fun x hx e => by have := HN2b.out x hx; have := hb4a.size; omega
        have HGW : Hid (w.heap.size ≤ ga) := by
          have h1 := HP.out.bel.size
          have h2 := HP4.out.bel.size
          show _ ≤ _
          omega
        clear hb4a hga hgb jS HP3 HN2 HNQ HQ3 hq3 HO3 HN2b HSZ3 HP HB2 HO1
        have hL9 : L ≤ 4096 := by have := HN.out; have := HL.out; omega
        go_wp2
        go_loopw [17] (fun i wx => ∃ j : Nat, j ≤ L ∧ i = .int .i64 (j : Int) ∧ Hid (Chg w4a wx ga (3 * L))) (fun i _ => L - (intOf i).toNat)
        case atStart => exact ⟨0, Nat.zero_le _, rfl, HC0⟩
        case round =>
          obtain ⟨j, hj, rfl, HC⟩ := hrel
          clear HC0
          by_cases hjl : j < L
          · have hix := fun w' => hixa j w' hjl
            obtain ⟨⟨u0, t0⟩, f0, ⟨u1, t1⟩, f1, ⟨u2, t2⟩, f2, hc7⟩ := HC.out.three (o := 3 * j) (by omega) (.int .i64 77) (.int .i64 0) (.int .i64 0)
            have HC7 : Hid _ := hc7
            clear hc7 HC hixa
            generalize 3 * j = o at *
            go_wp2
            go_roundw
            case rel => exact ⟨j + 1, by omega, by go_num, HC7⟩
            case measure => simp [intOf]; omega
          · have HS6 : Hid (StG wr F1 g m N) := HC.out.st HP4.out.st HFG.out
            have HR6 : Hid (RSt wr R1 q m N) := HC.out.rf HP4.out.rf HRG.out
            have HN6 : Hid (NdSl wr x2 L y2 N) := HC.out.nds HN4.out HXG.out
            have HB6 : Hid (Below w.heap.size w wr) := HC.out.below HP4.out.bel HGW.out
            obtain ⟨aq, cq, hq6, hnq⟩ := HR6.out.nodes
            rw [HL.out] at hq6 hnq
            have HNQ : Hid _ := hnq
            have jS1 := Try.sameN_any x2 L y2 N aq L cq N wr.drew (HN6.out.up (Below.refl _ _).drew) (hnq.up (Below.refl _ _).drew)
            rw [decide_eq_true rfl] at jS1
            have HJN : Hid (∀ w', Below wr.heap.size wr w' → Calls Try.prog 15 #[.pointer (some ⟨g, 0, none⟩)] w' (NdsR N w')) := fun w' hb => Try.snodes_any (HS6.out.up hb) (by rw [HL.out]; exact HNL.out)
            have HJS : Hid (∀ w' v, Below wr.heap.size wr w' → w'.ownsRow 0 44 3 v L (encG N) → ∃ a3 c3, v = .slice a3 L c3 ∧ Calls Try.prog 16 #[.slice a3 L c3, .slice aq L cq] w' fun e w'' => e = .returned (.bool true) ∧ Below w'.heap.size w' w'') := fun w' v hb ho => by
              obtain ⟨a3, c3, rfl, hn3, _⟩ := own_nd ho HS6.out.ok
              have := Try.sameN_any a3 L c3 N aq L cq N w' hn3 (HNQ.out.up hb)
              rw [decide_eq_true rfl] at this
              exact ⟨a3, c3, rfl, this⟩
            have HLQ : Hid (∀ w', Below wr.heap.size wr w' → w'.cell? ⟨q, 1, none⟩ = some (.slice aq L cq)) := fun w' hb => kept_cell hq6 hb
            have hjL : j = L := by omega
            subst hjL
            clear HC hixa HP4 HFG HRG HXG HGW HN4 HS6 HR6 HN6 hnq HNQ
            go_wp2_with fail
            go_region_with (first
              | (go_at_call 16; (with_reducible refine jS1.mono ?_); rintro e w7 ⟨rfl, hb7⟩; have hc7 := below_step ((Below.refl wr.heap.size wr).drew) hb7; have q7 := HLQ.out w7 hc7; have jN7 := HJN.out w7 hc7; have HC7 : Hid _ := hc7; clear hb7 hc7 jS1)
              | (revert jN7; intro jN7; go_at_call 15; (with_reducible refine jN7.mono ?_); rintro e w8 ⟨hb8, v8, rfl, ho8⟩; have hc8 := below_step HC7.out hb8; obtain ⟨a8, c8, hv8, jS8⟩ := HJS.out w8 v8 hc8 (by rw [HL.out] at ho8; exact owns_base ho8 (Nat.zero_le _)); subst hv8; have q8 := HLQ.out w8 hc8; have HC8 : Hid _ := hc8; clear hb8 ho8 hc8 jN7)
              | (revert jS8; intro jS8; go_at_call 16; (with_reducible refine jS8.mono ?_); rintro e w9 ⟨rfl, hb9⟩; have HB9 : Hid (Below w.heap.size w w9) := below_step HB6.out (below_step HC8.out hb9); clear hb9 jS8)
              | fail)
            all_goals
              go_wp2
              go_ret
              exact ⟨rfl, HB9.out⟩
end Go.Proofs.Ytmnkkknkmbldhaa
