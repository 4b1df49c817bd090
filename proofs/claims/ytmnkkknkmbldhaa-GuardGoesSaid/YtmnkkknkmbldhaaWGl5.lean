/- Stage 14: GuardGoes. -/
import Derived.Test.YtmnkkknkmbldhaaWGk3
import Derived.Test.YtmnkkknkmbldhaaWGk4
import Derived.Test.YtmnkkknkmbldhaaWGs8
import Derived.Test.YtmnkkknkmbldhaaWGsD
import Derived.Lib.QuietBelow
import Derived.BigQuiet
namespace Go.Proofs.Ytmnkkknkmbldhaa
open Go.RowKit Go.Maps Go.Sort

/-- What Table tells: the states, and the error. -/
def tabE (n : Int) (N : List Gd) (r : Int) : List Int × Int :=
  if 0 ≤ n ∧ n ≤ 8 then (match tabT N r (2 ^ n.toNat) with | some l => (l, 0) | none => ([], 12)) else ([], 2)
theorem zsl_nil (w : World) : ZSl w none 0 0 [] := ⟨rfl, Nat.le_refl _, Nat.zero_le _, fun m k w hk hm => absurd hk (by omega), fun k hk => absurd hk (by omega), fun k hk => absurd hk (by omega), fun _ => rfl⟩
theorem TabR.uni {n : Int} {N : List Gd} {r : Int} {w : World} {e : Ending} {w' : World} (h : TabR n N r w e w') : Below w.heap.size w w' ∧ ∃ t tc, e = .returned (.tuple #[.slice t (tabE n N r).1.length tc, .int .i64 (tabE n N r).2]) ∧ ZSl w' t (tabE n N r).1.length tc (tabE n N r).1 := by
  obtain ⟨hb, ⟨h1, rfl⟩ | ⟨h1, h2, ⟨h3, rfl⟩ | ⟨l, a, c, h3, rfl, h4⟩⟩⟩ := h
  · have e : tabE n N r = ([], 2) := by unfold tabE; rw [if_neg h1]
    rw [e]; exact ⟨hb, none, 0, rfl, zsl_nil _⟩
  · have e : tabE n N r = ([], 12) := by unfold tabE; rw [if_pos ⟨h1, h2⟩, h3]
    rw [e]; exact ⟨hb, none, 0, rfl, zsl_nil _⟩
  · have e : tabE n N r = (l, 0) := by unfold tabE; rw [if_pos ⟨h1, h2⟩, h3]
    rw [e]; exact ⟨hb, a, c, rfl, h4⟩
theorem goV_uni (o : Option Int) : ∃ q b, goV o = .tuple #[.int .i64 q, .bool b] := by
  cases o with
  | none => exact ⟨0, false, rfl⟩
  | some q => exact ⟨q, true, rfl⟩
theorem ChkR.uni {p : Int} {ns : Nat} {N : List Gd} {gs : List Int} {v : Int} (hv : (v = 0 ∧ MayG p ns N gs) ∨ (v = 12 ∧ ¬ MayG p ns N gs)) {w : World} {e : Ending} {w' : World} (h : ChkR p ns N gs w e w') : e = .returned (.int .i64 v) ∧ Below w.heap.size w w' := by
  obtain ⟨hb, v', rfl, h⟩ := h
  refine ⟨?_, hb⟩
  rcases hv with ⟨e1, h1⟩ | ⟨e1, h1⟩ <;> rcases h with ⟨e2, h2⟩ | ⟨e2, h2⟩
  · rw [e1, e2]
  · exact absurd h1 h2
  · exact absurd h2 h1
  · rw [e1, e2]
set_option maxRecDepth 100000 in
set_option maxHeartbeats 8000000 in
theorem Try.ggoes_any (n : Int) (p : Int) (aA : Option Addr) (nA cA : Nat) (aG : Option Addr) (nG cG : Nat) (aN : Option Addr) (nN cN : Nat) (bs : List Bool) (gs : List Int) (N : List Gd) (r : Int) (x : Nat) (w : World)
    (h1 : BoSl w aA nA cA bs) (h2 : ZSl w aG nG cG gs) (h3 : NdSl w aN nN cN N) (hok : ∀ z ∈ gs, I64 z) (hr : I64 r) (hx : x < 256) :
    Calls Try.prog 4 #[.int .i64 n, .agg #[.int .i64 p, .slice aA nA cA, .slice aG nG cG, .slice aN nN cN], .int .i64 r, .int .u8 (x : Int)] w fun e w' => e = .returned (.bool true) ∧ Below w.heap.size w w' := by
  have HB0 : Hid (Below w.heap.size w (w.alloc (.cells #[.int .i64 p, .slice aA nA cA, .slice aG nG cG, .slice aN nN cN] 48 (0, 0)))) := below_new w (.cells #[.int .i64 p, .slice aA nA cA, .slice aG nG cG, .slice aN nN cN] 48 (0, 0))
  have HA0 : Hid (AuB (w.alloc (.cells #[.int .i64 p, .slice aA nA cA, .slice aG nG cG, .slice aN nN cN] 48 (0, 0))) w.heap.size p aA nA cA aG nG cG aN nN cN) := aub_new w p aA nA cA aG nG cG aN nN cN
  obtain ⟨c0, c1, c2, c3⟩ := HA0.out
  have hbA := Nat.le_trans h1.hcap h1.bd
  have hbG := Nat.le_trans h2.hcap h2.bd
  have hbN := Nat.le_trans h3.hcap h3.bd
  unfold maxLen at hbA hbG hbN
  have HH1 : Hid _ := h1
  have HH2 : Hid _ := h2
  have HH3 : Hid _ := h3
  have HOK : Hid _ := hok
  clear h1 h2 h3 hok
  by_cases hc1 : 600 < nN ∧ nN ≤ 4096
  · obtain ⟨e1, e2⟩ := hc1
    go_enter Try.func4, Try.ntmps4
    go_wp2
    go_ret
    exact ⟨rfl, HB0.out⟩
  have hcs : (¬ 600 < nN) ∨ (600 < nN ∧ ¬ nN ≤ 4096) := by omega
  clear hc1
  rcases hcs with e1 | ⟨e1, e2⟩
  · have e3 : ¬ 4105 < nN := by omega
    by_cases hA3 : 300 < nA
    · go_enter Try.func4, Try.ntmps4
      go_wp2
      go_ret
      exact ⟨rfl, HB0.out⟩
    by_cases hG3 : 300 < nG
    · go_enter Try.func4, Try.ntmps4
      go_wp2
      go_ret
      exact ⟨rfl, HB0.out⟩
    have j1 := Try.lentAu_any p aA nA cA aG nG cG aN nN cN bs gs N (w.alloc (.cells #[.int .i64 p, .slice aA nA cA, .slice aG nG cG, .slice aN nN cN] 48 (0, 0))) (HH1.out.up HB0.out) (HH2.out.up HB0.out) (HH3.out.up HB0.out) (by omega) (by omega) (by omega)
    have hb1 := HB0.out
    go_enter Try.func4, Try.ntmps4
    go_wp2_with fail
    refine j1.mono ?_
    rintro e w2 ⟨b1, gb, b2, rfl, r1, r2, r3, hb2⟩
    clear hA3 hG3 j1 hb1
    have hb3 := below_new w2 (.cells #[.int .i64 p, .slice (some ⟨b1, 0, none⟩) nA (nA + 3), .slice (some ⟨gb, 0, none⟩) nG (nG + 3), .slice (some ⟨b2, 0, none⟩) nN (nN + 3)] 48 (0, 0))
    have HBI : Hid (AuB (w2.alloc (.cells #[.int .i64 p, .slice (some ⟨b1, 0, none⟩) nA (nA + 3), .slice (some ⟨gb, 0, none⟩) nG (nG + 3), .slice (some ⟨b2, 0, none⟩) nN (nN + 3)] 48 (0, 0))) w2.heap.size p (some ⟨b1, 0, none⟩) nA (nA + 3) (some ⟨gb, 0, none⟩) nG (nG + 3) (some ⟨b2, 0, none⟩) nN (nN + 3)) := aub_new w2 p (some ⟨b1, 0, none⟩) nA (nA + 3) (some ⟨gb, 0, none⟩) nG (nG + 3) (some ⟨b2, 0, none⟩) nN (nN + 3)
    have HBA : Hid (AuB (w2.alloc (.cells #[.int .i64 p, .slice (some ⟨b1, 0, none⟩) nA (nA + 3), .slice (some ⟨gb, 0, none⟩) nG (nG + 3), .slice (some ⟨b2, 0, none⟩) nN (nN + 3)] 48 (0, 0))) w.heap.size p aA nA cA aG nG cG aN nN cN) := HA0.out.up (below_step hb2 hb3)
    have HB3 : Hid (Below w.heap.size w (w2.alloc (.cells #[.int .i64 p, .slice (some ⟨b1, 0, none⟩) nA (nA + 3), .slice (some ⟨gb, 0, none⟩) nG (nG + 3), .slice (some ⟨b2, 0, none⟩) nN (nN + 3)] 48 (0, 0)))) := below_step HB0.out (below_step hb2 hb3)
    have HR1 : Hid (BoRow (w2.alloc (.cells #[.int .i64 p, .slice (some ⟨b1, 0, none⟩) nA (nA + 3), .slice (some ⟨gb, 0, none⟩) nG (nG + 3), .slice (some ⟨b2, 0, none⟩) nN (nN + 3)] 48 (0, 0))) b1 (bs ++ zB 3)) := r1.up hb3
    have HR2 : Hid (RowI (w2.alloc (.cells #[.int .i64 p, .slice (some ⟨b1, 0, none⟩) nA (nA + 3), .slice (some ⟨gb, 0, none⟩) nG (nG + 3), .slice (some ⟨b2, 0, none⟩) nN (nN + 3)] 48 (0, 0))) 3 gb (lentZ gs)) := (hb3.block gb (Array.getElem?_eq_some_iff.1 r2).1).trans r2
    have HR3 : Hid (NdRow (w2.alloc (.cells #[.int .i64 p, .slice (some ⟨b1, 0, none⟩) nA (nA + 3), .slice (some ⟨gb, 0, none⟩) nG (nG + 3), .slice (some ⟨b2, 0, none⟩) nN (nN + 3)] 48 (0, 0))) b2 (N ++ zG 3)) := r3.up hb3
    generalize hw3 : w2.alloc (.cells #[.int .i64 p, .slice (some ⟨b1, 0, none⟩) nA (nA + 3), .slice (some ⟨gb, 0, none⟩) nG (nG + 3), .slice (some ⟨b2, 0, none⟩) nN (nN + 3)] 48 (0, 0)) = w3 at *
    have j2 := Try.ggo_any (some ⟨b2, 0, none⟩) nN (nN + 3) N r x w3 (HR3.out.sl HH3.out.hlen (by omega) HH3.out.ok) hr hx
    obtain ⟨gq, gbb, eg⟩ := goV_uni (goG N x 8 r)
    have HEG : Hid _ := eg
    rw [eg] at j2
    have i3 := HBI.out.c3
    clear hb3 r1 r2 r3 hb2 c0 c1 c2 c3 eg
    go_wp2_with fail
    refine j2.mono ?_
    clear hw3
    rintro e w4 ⟨rfl, hb4⟩
    have HI4 : Hid _ := HBI.out.up hb4
    have HA4 : Hid _ := HBA.out.up hb4
    have HB4 : Hid (Below w.heap.size w w4) := below_step HB3.out hb4
    have HL4 : Hid (Below w3.heap.size w3 w4) := hb4
    have j3 := Try.rgo_any aN nN cN N r x w4 (HH3.out.up HB4.out) hr hx
    rw [HEG.out] at j3
    have c3 := HA4.out.c3
    have i3' := HI4.out.c3
    clear j2 hb4 i3
    go_wp2_with fail
    refine j3.mono ?_
    rintro e w5 ⟨rfl, hw5⟩
    obtain rfl := hw5.symm
    have j4 := Try.gtab_any n (some ⟨b2, 0, none⟩) nN (nN + 3) N r w4 ((HR3.out.up HL4.out).sl HH3.out.hlen (by omega) HH3.out.ok) hr
    clear j3
    go_wp2_with fail
    refine j4.mono ?_
    intro e w6 hq
    obtain ⟨hb6, t, tc, rfl, hts⟩ := TabR.uni hq
    have HI6 : Hid _ := HI4.out.up hb6
    have HA6 : Hid _ := HA4.out.up hb6
    have HB6 : Hid (Below w.heap.size w w6) := below_step HB4.out hb6
    have HL6 : Hid (Below w3.heap.size w3 w6) := below_step HL4.out hb6
    have HT6 : Hid _ := hts
    have j5 := Try.rtab_any n aN nN cN N r w6 (HH3.out.up HB6.out) hr
    have c3 := HA6.out.c3
    clear j4 hq hb6 hts c3 i3'
    have c3 := HA6.out.c3
    go_wp2_with fail
    refine j5.mono ?_
    intro e w7 hq
    obtain ⟨hb7, u, uc, rfl, hus⟩ := TabR.uni hq
    have hI7 := HI6.out.up hb7
    have hA7 := HA6.out.up hb7
    have hB7 : Below w.heap.size w w7 := below_step HB6.out hb7
    have hL7 : Below w3.heap.size w3 w7 := below_step HL6.out hb7
    have hT7 := HT6.out.up hb7
    obtain ⟨v, hv⟩ : ∃ v : Int, (v = 0 ∧ MayG p nA N gs) ∨ (v = 12 ∧ ¬ MayG p nA N gs) := by
      by_cases hm : MayG p nA N gs
      · exact ⟨0, .inl ⟨rfl, hm⟩⟩
      · exact ⟨12, .inr ⟨rfl, hm⟩⟩
    have hNd := (HR3.out.up hL7).sl HH3.out.hlen (by omega) HH3.out.ok
    have hGz : ZSl w7 (some ⟨gb, 0, none⟩) nG (nG + 3) gs := by
      have hl := HH2.out.hlen
      have := RowI.zsl (n := nG) ((hL7.block gb (Array.getElem?_eq_some_iff.1 HR2.out).1).trans HR2.out) Try.underlying30 Try.sizeInt (by rw [lentZ_len]; omega) (by rw [lentZ_len]; unfold maxLen; omega)
      rw [lentZ_len, ← hl, lentZ_take] at this
      rw [hl] at this
      exact this
    have cS : ∀ d os, Calls Try.prog 22 #[.slice t (tabE n N r).1.length tc, .slice u (tabE n N r).1.length uc] (grow (redrawn w7 d) os) fun e w'' => e = .returned (.bool true) ∧ ∃ q : Regrown, w'' = grow (redrawn w7 q.d) q.os := fun d os => Calls.regrown_of ((Try.sameI_any t _ tc _ u _ uc _ _ (hT7.up (below_regrown w7 d os)) (hus.up (below_regrown w7 d os))).mono fun e w'' ⟨q1, q2⟩ => ⟨by rw [q1, decide_eq_true rfl], drew_belowZ q2⟩)
    have cC : ∀ d os, Calls Try.prog 23 #[.agg #[.int .i64 p, .slice (some ⟨b1, 0, none⟩) nA (nA + 3), .slice (some ⟨gb, 0, none⟩) nG (nG + 3), .slice (some ⟨b2, 0, none⟩) nN (nN + 3)]] (grow (redrawn w7 d) os) fun e w'' => e = .returned (.int .i64 v) ∧ ∃ q : Regrown, w'' = grow (redrawn w7 q.d) q.os := fun d os => Calls.regrown_of ((Try.gchk_any p (some ⟨b1, 0, none⟩) nA (nA + 3) (some ⟨gb, 0, none⟩) nG (nG + 3) (some ⟨b2, 0, none⟩) nN (nN + 3) N gs _ (hNd.up (below_regrown w7 d os)) (hGz.up (below_regrown w7 d os)) HOK.out (by omega)).mono fun e w'' hq => ChkR.uni hv hq)
    have cR : ∀ d os, Calls Try.prog 24 #[.agg #[.int .i64 p, .slice aA nA cA, .slice aG nG cG, .slice aN nN cN]] (grow (redrawn w7 d) os) fun e w'' => e = .returned (.int .i64 v) ∧ ∃ q : Regrown, w'' = grow (redrawn w7 q.d) q.os := fun d os => Calls.regrown_of ((Try.rchk_any p aA nA cA aG nG cG aN nN cN N gs _ (HH3.out.up (hB7.trans ((below_regrown w7 d os).mono hB7.size))) (HH2.out.up (hB7.trans ((below_regrown w7 d os).mono hB7.size))) (by omega) (by omega)).mono fun e w'' hq => ChkR.uni hv hq)
    have cK : ∀ d os, Calls Try.prog 25 #[.agg #[.int .i64 p, .slice (some ⟨b1, 0, none⟩) nA (nA + 3), .slice (some ⟨gb, 0, none⟩) nG (nG + 3), .slice (some ⟨b2, 0, none⟩) nN (nN + 3)], .agg #[.int .i64 p, .slice aA nA cA, .slice aG nG cG, .slice aN nN cN]] (grow (redrawn w7 d) os) fun e w'' => e = .returned (.bool true) ∧ ∃ q : Regrown, w'' = grow (redrawn w7 q.d) q.os := fun d os => Calls.regrown_of (by
      have hB := hB7.trans ((below_regrown w7 d os).mono hB7.size)
      have hL := hL7.trans ((below_regrown w7 d os).mono hL7.size)
      exact Try.keptAu_any p aA nA cA aG nG cG aN nN cN bs gs N b1 gb b2 _ (HH1.out.up hB) (HH2.out.up hB) (HH3.out.up hB) (by omega) (by omega) (by omega) (HR1.out.up hL) ((hL.block gb (Array.getElem?_eq_some_iff.1 HR2.out).1).trans HR2.out) (HR3.out.up hL))
    have a0 := cell_regrown hA7.c0
    have a1 := cell_regrown hA7.c1
    have a2 := cell_regrown hA7.c2
    have a3 := cell_regrown hA7.c3
    have i0 := cell_regrown hI7.c0
    have i1 := cell_regrown hI7.c1
    have i2 := cell_regrown hI7.c2
    have i3 := cell_regrown hI7.c3
    have HE : Hid (∀ d os, Below w.heap.size w (grow (redrawn w7 d) os)) := fun d os => hB7.trans ((below_regrown w7 d os).mono hB7.size)
    clear j5 hq hb7 hI7 hA7 hB7 hL7 hT7 hus hNd hGz hv c3
    have d1 : (gq == gq) = true := by simp
    have d2 : (gbb == gbb) = true := by simp
    have d4 : (v == v) = true := by simp
    generalize (tabE n N r).1.length = tl at *
    generalize (tabE n N r).2 = te at *
    have d3 : (te == te) = true := by simp
    go_wp2_with fail
    refine wp_region_quiet_below (by kernel_rfl) (by kernel_rfl) ?_
    repeat (go_big_quiet_step (first | exact cS _ _ | exact cC _ _ | exact cR _ _ | exact cK _ _))
    refine wpQuiet_nil ?_
    intro _ hw'
    obtain ⟨⟨dq, osq⟩, hw''⟩ := hw'
    subst hw''
    go_wp2
    go_ret
    exact ⟨rfl, HE.out _ _⟩
  · by_cases e3 : 4105 < nN
    · go_enter Try.func4, Try.ntmps4
      go_wp2
      go_ret
      exact ⟨rfl, HB0.out⟩
    by_cases hA3 : 300 < nA
    · go_enter Try.func4, Try.ntmps4
      go_wp2
      go_ret
      exact ⟨rfl, HB0.out⟩
    by_cases hG3 : 300 < nG
    · go_enter Try.func4, Try.ntmps4
      go_wp2
      go_ret
      exact ⟨rfl, HB0.out⟩
    have j1 := Try.lentAu_any p aA nA cA aG nG cG aN nN cN bs gs N (w.alloc (.cells #[.int .i64 p, .slice aA nA cA, .slice aG nG cG, .slice aN nN cN] 48 (0, 0))) (HH1.out.up HB0.out) (HH2.out.up HB0.out) (HH3.out.up HB0.out) (by omega) (by omega) (by omega)
    have hb1 := HB0.out
    go_enter Try.func4, Try.ntmps4
    go_wp2_with fail
    refine j1.mono ?_
    rintro e w2 ⟨b1, gb, b2, rfl, r1, r2, r3, hb2⟩
    clear hA3 hG3 j1 hb1
    have hb3 := below_new w2 (.cells #[.int .i64 p, .slice (some ⟨b1, 0, none⟩) nA (nA + 3), .slice (some ⟨gb, 0, none⟩) nG (nG + 3), .slice (some ⟨b2, 0, none⟩) nN (nN + 3)] 48 (0, 0))
    have HBI : Hid (AuB (w2.alloc (.cells #[.int .i64 p, .slice (some ⟨b1, 0, none⟩) nA (nA + 3), .slice (some ⟨gb, 0, none⟩) nG (nG + 3), .slice (some ⟨b2, 0, none⟩) nN (nN + 3)] 48 (0, 0))) w2.heap.size p (some ⟨b1, 0, none⟩) nA (nA + 3) (some ⟨gb, 0, none⟩) nG (nG + 3) (some ⟨b2, 0, none⟩) nN (nN + 3)) := aub_new w2 p (some ⟨b1, 0, none⟩) nA (nA + 3) (some ⟨gb, 0, none⟩) nG (nG + 3) (some ⟨b2, 0, none⟩) nN (nN + 3)
    have HBA : Hid (AuB (w2.alloc (.cells #[.int .i64 p, .slice (some ⟨b1, 0, none⟩) nA (nA + 3), .slice (some ⟨gb, 0, none⟩) nG (nG + 3), .slice (some ⟨b2, 0, none⟩) nN (nN + 3)] 48 (0, 0))) w.heap.size p aA nA cA aG nG cG aN nN cN) := HA0.out.up (below_step hb2 hb3)
    have HB3 : Hid (Below w.heap.size w (w2.alloc (.cells #[.int .i64 p, .slice (some ⟨b1, 0, none⟩) nA (nA + 3), .slice (some ⟨gb, 0, none⟩) nG (nG + 3), .slice (some ⟨b2, 0, none⟩) nN (nN + 3)] 48 (0, 0)))) := below_step HB0.out (below_step hb2 hb3)
    have HR1 : Hid (BoRow (w2.alloc (.cells #[.int .i64 p, .slice (some ⟨b1, 0, none⟩) nA (nA + 3), .slice (some ⟨gb, 0, none⟩) nG (nG + 3), .slice (some ⟨b2, 0, none⟩) nN (nN + 3)] 48 (0, 0))) b1 (bs ++ zB 3)) := r1.up hb3
    have HR2 : Hid (RowI (w2.alloc (.cells #[.int .i64 p, .slice (some ⟨b1, 0, none⟩) nA (nA + 3), .slice (some ⟨gb, 0, none⟩) nG (nG + 3), .slice (some ⟨b2, 0, none⟩) nN (nN + 3)] 48 (0, 0))) 3 gb (lentZ gs)) := (hb3.block gb (Array.getElem?_eq_some_iff.1 r2).1).trans r2
    have HR3 : Hid (NdRow (w2.alloc (.cells #[.int .i64 p, .slice (some ⟨b1, 0, none⟩) nA (nA + 3), .slice (some ⟨gb, 0, none⟩) nG (nG + 3), .slice (some ⟨b2, 0, none⟩) nN (nN + 3)] 48 (0, 0))) b2 (N ++ zG 3)) := r3.up hb3
    generalize hw3 : w2.alloc (.cells #[.int .i64 p, .slice (some ⟨b1, 0, none⟩) nA (nA + 3), .slice (some ⟨gb, 0, none⟩) nG (nG + 3), .slice (some ⟨b2, 0, none⟩) nN (nN + 3)] 48 (0, 0)) = w3 at *
    have j2 := Try.ggo_any (some ⟨b2, 0, none⟩) nN (nN + 3) N r x w3 (HR3.out.sl HH3.out.hlen (by omega) HH3.out.ok) hr hx
    obtain ⟨gq, gbb, eg⟩ := goV_uni (goG N x 8 r)
    have HEG : Hid _ := eg
    rw [eg] at j2
    have i3 := HBI.out.c3
    clear hb3 r1 r2 r3 hb2 c0 c1 c2 c3 eg
    go_wp2_with fail
    refine j2.mono ?_
    clear hw3
    rintro e w4 ⟨rfl, hb4⟩
    have HI4 : Hid _ := HBI.out.up hb4
    have HA4 : Hid _ := HBA.out.up hb4
    have HB4 : Hid (Below w.heap.size w w4) := below_step HB3.out hb4
    have HL4 : Hid (Below w3.heap.size w3 w4) := hb4
    have j3 := Try.rgo_any aN nN cN N r x w4 (HH3.out.up HB4.out) hr hx
    rw [HEG.out] at j3
    have c3 := HA4.out.c3
    have i3' := HI4.out.c3
    clear j2 hb4 i3
    go_wp2_with fail
    refine j3.mono ?_
    rintro e w5 ⟨rfl, hw5⟩
    obtain rfl := hw5.symm
    have j4 := Try.gtab_any n (some ⟨b2, 0, none⟩) nN (nN + 3) N r w4 ((HR3.out.up HL4.out).sl HH3.out.hlen (by omega) HH3.out.ok) hr
    clear j3
    go_wp2_with fail
    refine j4.mono ?_
    intro e w6 hq
    obtain ⟨hb6, t, tc, rfl, hts⟩ := TabR.uni hq
    have HI6 : Hid _ := HI4.out.up hb6
    have HA6 : Hid _ := HA4.out.up hb6
    have HB6 : Hid (Below w.heap.size w w6) := below_step HB4.out hb6
    have HL6 : Hid (Below w3.heap.size w3 w6) := below_step HL4.out hb6
    have HT6 : Hid _ := hts
    have j5 := Try.rtab_any n aN nN cN N r w6 (HH3.out.up HB6.out) hr
    have c3 := HA6.out.c3
    clear j4 hq hb6 hts c3 i3'
    have c3 := HA6.out.c3
    go_wp2_with fail
    refine j5.mono ?_
    intro e w7 hq
    obtain ⟨hb7, u, uc, rfl, hus⟩ := TabR.uni hq
    have hI7 := HI6.out.up hb7
    have hA7 := HA6.out.up hb7
    have hB7 : Below w.heap.size w w7 := below_step HB6.out hb7
    have hL7 : Below w3.heap.size w3 w7 := below_step HL6.out hb7
    have hT7 := HT6.out.up hb7
    obtain ⟨v, hv⟩ : ∃ v : Int, (v = 0 ∧ MayG p nA N gs) ∨ (v = 12 ∧ ¬ MayG p nA N gs) := by
      by_cases hm : MayG p nA N gs
      · exact ⟨0, .inl ⟨rfl, hm⟩⟩
      · exact ⟨12, .inr ⟨rfl, hm⟩⟩
    have hNd := (HR3.out.up hL7).sl HH3.out.hlen (by omega) HH3.out.ok
    have hGz : ZSl w7 (some ⟨gb, 0, none⟩) nG (nG + 3) gs := by
      have hl := HH2.out.hlen
      have := RowI.zsl (n := nG) ((hL7.block gb (Array.getElem?_eq_some_iff.1 HR2.out).1).trans HR2.out) Try.underlying30 Try.sizeInt (by rw [lentZ_len]; omega) (by rw [lentZ_len]; unfold maxLen; omega)
      rw [lentZ_len, ← hl, lentZ_take] at this
      rw [hl] at this
      exact this
    have cS : ∀ d os, Calls Try.prog 22 #[.slice t (tabE n N r).1.length tc, .slice u (tabE n N r).1.length uc] (grow (redrawn w7 d) os) fun e w'' => e = .returned (.bool true) ∧ ∃ q : Regrown, w'' = grow (redrawn w7 q.d) q.os := fun d os => Calls.regrown_of ((Try.sameI_any t _ tc _ u _ uc _ _ (hT7.up (below_regrown w7 d os)) (hus.up (below_regrown w7 d os))).mono fun e w'' ⟨q1, q2⟩ => ⟨by rw [q1, decide_eq_true rfl], drew_belowZ q2⟩)
    have cC : ∀ d os, Calls Try.prog 23 #[.agg #[.int .i64 p, .slice (some ⟨b1, 0, none⟩) nA (nA + 3), .slice (some ⟨gb, 0, none⟩) nG (nG + 3), .slice (some ⟨b2, 0, none⟩) nN (nN + 3)]] (grow (redrawn w7 d) os) fun e w'' => e = .returned (.int .i64 v) ∧ ∃ q : Regrown, w'' = grow (redrawn w7 q.d) q.os := fun d os => Calls.regrown_of ((Try.gchk_any p (some ⟨b1, 0, none⟩) nA (nA + 3) (some ⟨gb, 0, none⟩) nG (nG + 3) (some ⟨b2, 0, none⟩) nN (nN + 3) N gs _ (hNd.up (below_regrown w7 d os)) (hGz.up (below_regrown w7 d os)) HOK.out (by omega)).mono fun e w'' hq => ChkR.uni hv hq)
    have cR : ∀ d os, Calls Try.prog 24 #[.agg #[.int .i64 p, .slice aA nA cA, .slice aG nG cG, .slice aN nN cN]] (grow (redrawn w7 d) os) fun e w'' => e = .returned (.int .i64 v) ∧ ∃ q : Regrown, w'' = grow (redrawn w7 q.d) q.os := fun d os => Calls.regrown_of ((Try.rchk_any p aA nA cA aG nG cG aN nN cN N gs _ (HH3.out.up (hB7.trans ((below_regrown w7 d os).mono hB7.size))) (HH2.out.up (hB7.trans ((below_regrown w7 d os).mono hB7.size))) (by omega) (by omega)).mono fun e w'' hq => ChkR.uni hv hq)
    have cK : ∀ d os, Calls Try.prog 25 #[.agg #[.int .i64 p, .slice (some ⟨b1, 0, none⟩) nA (nA + 3), .slice (some ⟨gb, 0, none⟩) nG (nG + 3), .slice (some ⟨b2, 0, none⟩) nN (nN + 3)], .agg #[.int .i64 p, .slice aA nA cA, .slice aG nG cG, .slice aN nN cN]] (grow (redrawn w7 d) os) fun e w'' => e = .returned (.bool true) ∧ ∃ q : Regrown, w'' = grow (redrawn w7 q.d) q.os := fun d os => Calls.regrown_of (by
      have hB := hB7.trans ((below_regrown w7 d os).mono hB7.size)
      have hL := hL7.trans ((below_regrown w7 d os).mono hL7.size)
      exact Try.keptAu_any p aA nA cA aG nG cG aN nN cN bs gs N b1 gb b2 _ (HH1.out.up hB) (HH2.out.up hB) (HH3.out.up hB) (by omega) (by omega) (by omega) (HR1.out.up hL) ((hL.block gb (Array.getElem?_eq_some_iff.1 HR2.out).1).trans HR2.out) (HR3.out.up hL))
    have a0 := cell_regrown hA7.c0
    have a1 := cell_regrown hA7.c1
    have a2 := cell_regrown hA7.c2
    have a3 := cell_regrown hA7.c3
    have i0 := cell_regrown hI7.c0
    have i1 := cell_regrown hI7.c1
    have i2 := cell_regrown hI7.c2
    have i3 := cell_regrown hI7.c3
    have HE : Hid (∀ d os, Below w.heap.size w (grow (redrawn w7 d) os)) := fun d os => hB7.trans ((below_regrown w7 d os).mono hB7.size)
    clear j5 hq hb7 hI7 hA7 hB7 hL7 hT7 hus hNd hGz hv c3
    have d1 : (gq == gq) = true := by simp
    have d2 : (gbb == gbb) = true := by simp
    have d4 : (v == v) = true := by simp
    generalize (tabE n N r).1.length = tl at *
    generalize (tabE n N r).2 = te at *
    have d3 : (te == te) = true := by simp
    go_wp2_with fail
    refine wp_region_quiet_below (by kernel_rfl) (by kernel_rfl) ?_
    repeat (go_big_quiet_step (first | exact cS _ _ | exact cC _ _ | exact cR _ _ | exact cK _ _))
    refine wpQuiet_nil ?_
    intro _ hw'
    obtain ⟨⟨dq, osq⟩, hw''⟩ := hw'
    subst hw''
    go_wp2
    go_ret
    exact ⟨rfl, HE.out _ _⟩
end Go.Proofs.Ytmnkkknkmbldhaa
