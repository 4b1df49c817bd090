/- The document's guard: Check. -/
import Derived.Test.YtmnkkknkmbldhaaWGr3
namespace Go.Proofs.Ytmnkkknkmbldhaa
open Go.RowKit Go.Maps

/-- What Check answers. -/
def ChkR (p : Int) (ns : Nat) (N : List Gd) (gs : List Int) (w : World) (e : Ending) (w' : World) : Prop := Below w.heap.size w w' ∧ ∃ v, e = .returned (.int .i64 v) ∧ ((v = 0 ∧ MayG p ns N gs) ∨ (v = 12 ∧ ¬ MayG p ns N gs))
/-- A node that may be, the place k. -/
def NdMay (p : Int) (ns : Nat) (N : List Gd) (k : Nat) : Prop := 0 ≤ (N.getD k (0, 0, 0)).1 ∧ (N.getD k (0, 0, 0)).1 < p ∧ (N.getD k (0, 0, 0)).2.1 ≠ (N.getD k (0, 0, 0)).2.2 ∧ FitG ns N k (N.getD k (0, 0, 0)).1 (N.getD k (0, 0, 0)).2.1 ∧ FitG ns N k (N.getD k (0, 0, 0)).1 (N.getD k (0, 0, 0)).2.2
theorem MayG.nd {p : Int} {ns : Nat} {N : List Gd} {gs : List Int} (h : MayG p ns N gs) {k : Nat} (hk : k < N.length) : NdMay p ns N k := by
  have e : N[k]? = some (N.getD k (0, 0, 0)) := by simp [List.getD_eq_getElem?_getD, List.getElem?_eq_getElem hk]
  unfold NdMay
  generalize N.getD k (0, 0, 0) = nd at *
  obtain ⟨P, lo, hi⟩ := nd
  exact h.node k P lo hi e
theorem may_of {p : Int} {ns : Nat} {N : List Gd} {gs : List Int} (h0 : 0 ≤ p) (h8 : p ≤ 8) (s1 : 1 ≤ ns) (s2 : ns ≤ 256) (hl : gs.length = ns) (hf : N.length ≤ 4096) (hn : ∀ k, k < N.length → NdMay p ns N k) (ho : N.Nodup) (hg : ∀ k, k < gs.length → FitG ns N N.length (-1) (gs.getD k 0)) : MayG p ns N gs := by
  refine ⟨h0, h8, s1, s2, hl, hf, fun i P lo hi e => ?_, ho, fun g hm => ?_⟩
  · have hi1 := (List.getElem?_eq_some_iff.1 e).1
    have := hn i hi1
    unfold NdMay at this
    simpa [List.getD_eq_getElem?_getD, e] using this
  · obtain ⟨i, hi, rfl⟩ := List.getElem_of_mem hm
    simpa [List.getD_eq_getElem?_getD, List.getElem?_eq_getElem hi] using hg i hi
theorem nodup_next {N : List Gd} {k : Nat} (h : (N.take k).Nodup) (hk : k < N.length) (hn : ∀ j, j < k → N.getD j (0, 0, 0) ≠ N.getD k (0, 0, 0)) : (N.take (k + 1)).Nodup := by
  rw [takeG_snoc hk, List.nodup_append]
  refine ⟨h, by simp, fun a ha b hb => ?_⟩
  simp at hb; subst hb
  obtain ⟨j, hj, rfl⟩ := List.getElem_of_mem ha
  simp at hj
  have := hn j (by omega)
  have e : N[j]? = some N[j] := List.getElem?_eq_getElem (by omega)
  simpa [List.getD_eq_getElem?_getD, e] using this
theorem nodup_not {N : List Gd} {j k : Nat} (hj : j < k) (hk : k < N.length) (he : N.getD j (0, 0, 0) = N.getD k (0, 0, 0)) : ¬ N.Nodup := by
  intro h
  have ej : N[j]? = some N[j] := List.getElem?_eq_getElem (by omega)
  have ek : N[k]? = some N[k] := List.getElem?_eq_getElem hk
  simp only [List.getD_eq_getElem?_getD, ej, ek, Option.getD_some] at he
  exact List.pairwise_iff_getElem.1 h j k (by omega) hk hj he
/-- The variable that holds a node. -/
structure NdB (w : World) (g : Nat) (P lo hi : Int) : Prop where
  c0 : w.cell? ⟨g, 0, none⟩ = some (.int .i64 P)
  c1 : w.cell? ⟨g, 1, none⟩ = some (.int .i64 lo)
  c2 : w.cell? ⟨g, 2, none⟩ = some (.int .i64 hi)
theorem NdB.up {w w' : World} {g : Nat} {P lo hi : Int} (h : NdB w g P lo hi) (hb : Below w.heap.size w w') : NdB w' g P lo hi := ⟨kept_cell h.c0 hb, kept_cell h.c1 hb, kept_cell h.c2 hb⟩
theorem ndb_new (w : World) (P lo hi : Int) : NdB (w.alloc (.cells #[.int .i64 P, .int .i64 lo, .int .i64 hi] 44 (0, 0))) w.heap.size P lo hi := by
  have h := (MapKept.heap_alloc w (.cells #[.int .i64 P, .int .i64 lo, .int .i64 hi] 44 (0, 0))).1
  exact ⟨cell_row h 0, cell_row h 1, cell_row h 2⟩
set_option maxRecDepth 100000 in
set_option maxHeartbeats 8000000 in
theorem Try.rchk_any (p0 : Int) (aA : Option Addr) (nA cA : Nat) (aG : Option Addr) (nG cG : Nat) (aN : Option Addr) (nN cN : Nat) (N : List Gd) (gs : List Int) (w : World) (hN : NdSl w aN nN cN N) (hG : ZSl w aG nG cG gs) (hA : nA ≤ 1000000) (hNN : nN ≤ 1000000) :
    Calls Try.prog 24 #[.agg #[.int .i64 p0, .slice aA nA cA, .slice aG nG cG, .slice aN nN cN]] w (ChkR p0 nA N gs w) := by
  obtain ⟨Q, eQ⟩ : ∃ Q, Q = ChkR p0 nA N gs w := ⟨_, rfl⟩
  have H0 : Hid (∀ w', Below w.heap.size w w' → MayG p0 nA N gs → Q (.returned (.int .i64 0)) w') := fun w' hb h => by rw [eQ]; exact ⟨hb, 0, rfl, .inl ⟨rfl, h⟩⟩
  have H1 : Hid (∀ w', Below w.heap.size w w' → ¬ MayG p0 nA N gs → Q (.returned (.int .i64 12)) w') := fun w' hb h => by rw [eQ]; exact ⟨hb, 12, rfl, .inr ⟨rfl, h⟩⟩
  rw [← eQ]
  clear eQ
  have hgb := hG.bd
  have hgc := hG.hcap
  unfold maxLen at hgb
  have HL : Hid (N.length = nN) := hN.hlen
  have HG : Hid (gs.length = nG) := hG.hlen
  have HAB : Hid _ := aub_new w p0 aA nA cA aG nG cG aN nN cN
  have HB0 : Hid _ := below_new w (.cells #[.int .i64 p0, .slice aA nA cA, .slice aG nG cG, .slice aN nN cN] 48 (0, 0))
  obtain ⟨c0, c1, c2, c3⟩ := HAB.out
  by_cases p0lt : p0 < 0
  · have HE : Hid _ := H1.out _ HB0.out (fun h => by have := h.p0; omega)
    clear H0 H1 HAB HB0
    go_enter Try.func24, Try.ntmps24
    go_wp2
    exact HE.out
  by_cases p8lt : 8 < p0
  · have HE : Hid _ := H1.out _ HB0.out (fun h => by have := h.p8; omega)
    clear H0 H1 HAB HB0
    go_enter Try.func24, Try.ntmps24
    go_wp2
    exact HE.out
  by_cases nAlt : nA < 1
  · have HE : Hid _ := H1.out _ HB0.out (fun h => by have := h.s1; omega)
    clear H0 H1 HAB HB0
    go_enter Try.func24, Try.ntmps24
    go_wp2
    exact HE.out
  by_cases nAgt : 256 < nA
  · have HE : Hid _ := H1.out _ HB0.out (fun h => by have := h.s2; omega)
    clear H0 H1 HAB HB0
    go_enter Try.func24, Try.ntmps24
    go_wp2
    exact HE.out
  by_cases nGne : nG ≠ nA
  · have HE : Hid _ := H1.out _ HB0.out (fun h => by have := h.len; have := HG.out; omega)
    have dG : ((nG : Int) != (nA : Int)) = true := by simp; omega
    clear H0 H1 HAB HB0
    go_enter Try.func24, Try.ntmps24
    go_wp2
    exact HE.out
  by_cases nNgt : 4096 < nN
  · have HE : Hid _ := H1.out _ HB0.out (fun h => by have := h.few; have := HL.out; omega)
    clear H0 H1 HAB HB0
    go_enter Try.func24, Try.ntmps24
    go_wp2
    exact HE.out
  obtain rfl : nG = nA := by omega
  have d1 : decide (p0 < 0) = false := by simp; omega
  have d2 : decide (8 < p0) = false := by simp; omega
  have d3 : decide ((nG : Int) < 1) = false := by simp; omega
  have d4 : decide (256 < (nG : Int)) = false := by simp; omega
  have d5 : ((nG : Int) != (nG : Int)) = false := by simp
  have d6 : decide (4096 < (nN : Int)) = false := by simp; omega
  have HF : Hid (∀ (w' : World) (r : Int) (a : Nat) (p : Int), NdSl w' aN nN cN N → a ≤ nN → Calls Try.prog 42 #[.agg #[.int .i64 p0, .slice aA nG cA, .slice aG nG cG, .slice aN nN cN], .int .i64 r, .int .i64 (a : Int), .int .i64 p] w' fun e w2 => e = .returned (.bool (fitB nG N a p r)) ∧ Below w'.heap.size w' w2) := fun w' r a p h1 h2 => Try.rfits_any p0 aA nG cA aG nG cG aN nN cN N r a p w' h1 h2 hA
  have HMay : Hid ((∀ k, k < nN → NdMay p0 nG N k) → N.Nodup → (∀ k, k < nG → FitG nG N nN (-1) (gs.getD k 0)) → MayG p0 nG N gs) := fun h1 h2 h3 => may_of (by omega) (by omega) (by omega) (by omega) HG.out (by rw [HL.out]; omega) (by rw [HL.out]; exact h1) h2 (by rw [HL.out, HG.out]; exact h3)
  have HNd : Hid (NdSl w aN nN cN N) := hN
  have HGs : Hid (ZSl w aG nG cG gs) := hG
  clear hN hG p0lt p8lt nAlt nAgt nGne
  go_enter Try.func24, Try.ntmps24
  go_wp2
  go_loopw [3] (fun i wr => ∃ k : Nat, k ≤ nN ∧ i = .int .i64 k ∧ Hid (∀ j, j < k → NdMay p0 nG N j) ∧ Hid ((N.take k).Nodup) ∧ Hid (AuB wr w.heap.size p0 aA nG cA aG nG cG aN nN cN) ∧ Hid (Below w.heap.size w wr)) (fun i _ => nN - (intOf i).toNat)
  case atStart => exact ⟨0, Nat.zero_le _, rfl, fun j hj => absurd hj (by omega), by show List.Nodup _; simp, HAB, HB0⟩
  case round =>
    clear HAB HB0 c0 c1 c2 c3 d1 d2 d3 d4 d5 d6
    obtain ⟨k, hk, rfl, HD, HU, HAB, HB⟩ := hrel
    by_cases hlt : k < nN
    · obtain ⟨c0, c1, c2, c3⟩ := HAB.out
      obtain ⟨g, o, s, hix, e0, e1, e2, _, _, hok⟩ := (HNd.out.up HB.out).at Try.underlying38 Try.sizeNode k hlt
      have hidx := fun w' => hix nN w' hlt
      clear hix
      have HND : Hid (∀ P lo hi : Int, N.getD k (0, 0, 0) = (P, lo, hi) → (MayG p0 nG N gs → 0 ≤ P ∧ P < p0 ∧ lo ≠ hi ∧ fitB nG N k P lo = true ∧ fitB nG N k P hi = true) ∧ (0 ≤ P → P < p0 → lo ≠ hi → fitB nG N k P lo = true → fitB nG N k P hi = true → NdMay p0 nG N k)) := fun P lo hi e => by
        have ha : k ≤ N.length := by rw [HL.out]; omega
        refine ⟨fun h => ?_, fun h1 h2 h3 h4 h5 => ?_⟩
        · have := h.nd (k := k) (by rw [HL.out]; exact hlt)
          unfold NdMay at this
          rw [e] at this
          exact ⟨this.1, this.2.1, this.2.2.1, (fitB_iff ha).2 this.2.2.2.1, (fitB_iff ha).2 this.2.2.2.2⟩
        · unfold NdMay
          rw [e]
          exact ⟨h1, h2, h3, (fitB_iff ha).1 h4, (fitB_iff ha).1 h5⟩
      rcases hnd : N.getD k (0, 0, 0) with ⟨P, lo, hi⟩
      rw [hnd] at e0 e1 e2
      dsimp only at e0 e1 e2
      obtain ⟨HM, HN⟩ := HND.out P lo hi hnd
      have HM : Hid _ := HM
      have HN : Hid _ := HN
      have Hnd : Hid _ := hnd
      clear HND hnd hok
      have HB1 : Hid (Below w.heap.size w (wr.alloc (.cells #[.int .i64 P, .int .i64 lo, .int .i64 hi] 44))) := HB.out.alloc HB.out.size _
      have HA1 : Hid _ := HAB.out.up (below_new wr (.cells #[.int .i64 P, .int .i64 lo, .int .i64 hi] 44 (0, 0)))
      have HNB1 : Hid _ := ndb_new wr P lo hi
      obtain ⟨f0, f1, f2, f3⟩ := HA1.out
      by_cases q0 : P < 0
      · have HE : Hid _ := H1.out _ HB1.out (fun h => by have := HM.out h; omega)
        clear H0 H1 HM HN HF HMay
        go_wp2
        exact HE.out
      have d1 : decide (P < 0) = false := decide_eq_false q0
      by_cases q1 : p0 ≤ P
      · have HE : Hid _ := H1.out _ HB1.out (fun h => by have := HM.out h; omega)
        clear H0 H1 HM HN HF HMay q0
        go_wp2
        exact HE.out
      have d2 : decide (p0 ≤ P) = false := decide_eq_false q1
      by_cases q2 : lo = hi
      · have HE : Hid _ := H1.out _ HB1.out (fun h => (HM.out h).2.2.1 q2)
        have d3 : (lo == hi) = true := by simpa using q2
        clear H0 H1 HM HN HF HMay q0 q1 q2
        go_wp2
        exact HE.out
      have d3 : (lo == hi) = false := by simpa using q2
      have jf := HF.out _ lo k P (HNd.out.up HB1.out) hk
      have HN2 : Hid (fitB nG N k P lo = true → fitB nG N k P hi = true → NdMay p0 nG N k) := HN.out (by omega) (by omega) q2
      clear HN HAB HB q0 q1 q2
      have HM : Hid _ := HM.out
      generalize fitB nG N k P lo = b1 at *
      go_wp2_with fail
      refine jf.mono ?_
      rintro e w2 ⟨rfl, hb2⟩
      have HB2 : Hid (Below w.heap.size w w2) := HB1.out.trans (hb2.mono HB1.out.size)
      have HA2 : Hid _ := HA1.out.up hb2
      have HNB2 : Hid _ := HNB1.out.up hb2
      clear jf hb2 HA1 HNB1 HB1 f0 f1 f2 f3 c0 c1 c2 c3 e0 e1 e2 hidx
      obtain ⟨f0, f1, f2, f3⟩ := HA2.out
      obtain ⟨n0, n1, n2⟩ := HNB2.out
      cases b1 with
      | false =>
        have HE : Hid _ := H1.out _ HB2.out (fun h => by simpa using (HM.out h).2.2.2.1)
        clear H0 H1 HM HN2 HF HMay
        go_wp2
        exact HE.out
      | true =>
        have HN3 : Hid (fitB nG N k P hi = true → NdMay p0 nG N k) := HN2.out rfl
        have jf := HF.out _ hi k P (HNd.out.up HB2.out) hk
        have HM2 : Hid (MayG p0 nG N gs → fitB nG N k P hi = true) := fun h => (HM.out h).2.2.2.2
        clear HN2 HM
        generalize fitB nG N k P hi = b2 at *
        go_wp2_with fail
        refine jf.mono ?_
        rintro e w3 ⟨rfl, hb3⟩
        have HB3 : Hid (Below w.heap.size w w3) := HB2.out.trans (hb3.mono HB2.out.size)
        have HA3 : Hid _ := HA2.out.up hb3
        have HNB3 : Hid _ := HNB2.out.up hb3
        clear jf hb3 HA2 HNB2 HB2 f0 f1 f2 f3 n0 n1 n2
        cases b2 with
        | false =>
          have HE : Hid _ := H1.out _ HB3.out (fun h => by simpa using HM2.out h)
          clear H0 H1 HM2 HN3 HF HMay
          go_wp2
          exact HE.out
        | true =>
          have HN4 : Hid (NdMay p0 nG N k) := HN3.out rfl
          clear HN3 HM2
          generalize hq4 : wr.heap.size = q4 at *
          clear hq4
          go_wp2
          go_loopw [5] (fun i w5 => ∃ j : Nat, j ≤ k ∧ i = .int .i64 j ∧ Hid (∀ x, x < j → N.getD x (0, 0, 0) ≠ (P, lo, hi)) ∧ Hid (AuB w5 w.heap.size p0 aA nG cA aG nG cG aN nN cN) ∧ Hid (NdB w5 q4 P lo hi) ∧ Hid (Below w.heap.size w w5)) (fun i _ => k - (intOf i).toNat)
          case atStart => exact ⟨0, Nat.zero_le _, rfl, fun x hx => absurd hx (by omega), HA3, HNB3, HB3⟩
          case round =>
            clear HA3 HNB3 HB3
            obtain ⟨j, hj, rfl, HX, HA5, HNB5, HB5⟩ := hrel
            by_cases hjk : j < k
            · obtain ⟨f0, f1, f2, f3⟩ := HA5.out
              obtain ⟨n0, n1, n2⟩ := HNB5.out
              have hjn : j < nN := by omega
              obtain ⟨g2, o2, s2, hix2, y0, y1, y2, _, _, _⟩ := (HNd.out.up HB5.out).at Try.underlying38 Try.sizeNode j hjn
              have hidx2 := fun w' => hix2 nN w' hjn
              clear hix2
              have HXN : Hid (N.getD j (0, 0, 0) ≠ (P, lo, hi) → ∀ x, x < j + 1 → N.getD x (0, 0, 0) ≠ (P, lo, hi)) := fun h x hx => by
                by_cases hxj : x = j
                · rw [hxj]; exact h
                · exact HX.out x (by omega)
              have HXY : Hid (N.getD j (0, 0, 0) = (P, lo, hi) → ¬ MayG p0 nG N gs) := fun h hm => nodup_not hjk (by rw [HL.out]; exact hlt) (by rw [h, Hnd.out]) hm.once
              generalize N.getD j (0, 0, 0) = y at *
              obtain ⟨Y0, Y1, Y2⟩ := y
              dsimp only at y0 y1 y2
              have heq := fun w => Try.eqlNode Y0 Y1 Y2 P lo hi w
              clear HX
              by_cases hy : ((Y0, Y1, Y2) : Gd) = (P, lo, hi)
              · have HE : Hid _ := H1.out _ (below_drewN HB5.out 0) (HXY.out hy)
                have H1' : Hid (∀ nq, Q (.returned (.int .i64 12)) (wr.drewN nq)) := fun nq => H1.out _ (below_drewN HB5.out nq) (HXY.out hy)
                rw [decide_eq_true hy] at heq
                clear H0 H1 HF HMay HE HXY HXN hy HA5 HNB5 HB5
                go_wp2_with fail
                go_quiet (fail)
                go_wp2
                exact H1'.out _
              · have HX2 : Hid _ := HXN.out hy
                have HA6 : Hid (∀ nq, AuB (wr.drewN nq) w.heap.size p0 aA nG cA aG nG cG aN nN cN ∧ NdB (wr.drewN nq) q4 P lo hi ∧ Below w.heap.size w (wr.drewN nq)) := fun nq => ⟨HA5.out.up (below_drewN (Below.refl _ _) nq), HNB5.out.up (below_drewN (Below.refl _ _) nq), below_drewN HB5.out nq⟩
                rw [decide_eq_false hy] at heq
                clear H0 H1 HF HMay HXY HXN hy HA5 HNB5 HB5
                go_wp2_with fail
                go_quiet (fail)
                go_wp2
                go_roundw
                case rel => exact ⟨j + 1, by omega, by go_num, HX2, (HA6.out _).1, (HA6.out _).2.1, (HA6.out _).2.2⟩
                case measure => simp [intOf]; omega
            · obtain rfl : j = k := by omega
              have HU2 : Hid ((N.take (j + 1)).Nodup) := nodup_next HU.out (by rw [HL.out]; exact hlt) (fun x hx => by rw [Hnd.out]; exact HX.out x hx)
              have HD2 : Hid (∀ i, i < j + 1 → NdMay p0 nG N i) := fun i hi => by
                by_cases e : i = j
                · rw [e]; exact HN4.out
                · exact HD.out i (by omega)
              clear HU HD HN4 HX H0 H1 HF HMay HNB5
              go_wp2
              go_roundw
              case rel => exact ⟨j + 1, by omega, by go_num, HD2, HU2, HA5, HB5⟩
              case measure => simp [intOf]; omega
    · obtain rfl : k = nN := by omega
      have HU2 : Hid N.Nodup := by
        have := HU.out
        rw [List.take_of_length_le (by rw [HL.out]; exact Nat.le_refl _)] at this
        exact this
      have HM3 : Hid ((∀ j, j < nG → FitG nG N k (-1) (gs.getD j 0)) → MayG p0 nG N gs) := fun h => HMay.out HD.out HU2.out h
      have HM4 : Hid (MayG p0 nG N gs → ∀ j, j < nG → FitG nG N k (-1) (gs.getD j 0)) := fun h j hj => by
        have hl : j < gs.length := by rw [HG.out]; exact hj
        have := h.gd (gs.getD j 0) (by simp [List.getD_eq_getElem?_getD, List.getElem?_eq_getElem hl])
        rw [HL.out] at this
        exact this
      clear HU HU2 HD HMay
      obtain ⟨c0, c1, c2, c3⟩ := HAB.out
      go_wp2
      go_loopw [6] (fun i wr => ∃ j : Nat, j ≤ nG ∧ i = .int .i64 j ∧ Hid (∀ x, x < j → FitG nG N k (-1) (gs.getD x 0)) ∧ Hid (AuB wr w.heap.size p0 aA nG cA aG nG cG aN k cN) ∧ Hid (Below w.heap.size w wr)) (fun i _ => nG - (intOf i).toNat)
      case atStart => exact ⟨0, Nat.zero_le _, rfl, fun x hx => absurd hx (by omega), HAB, HB⟩
      case round =>
        clear HAB HB c0 c1 c2 c3
        obtain ⟨j, hj, rfl, HX, HA5, HB5⟩ := hrel
        by_cases hjk : j < nG
        · obtain ⟨c0, c1, c2, c3⟩ := HA5.out
          have hidx := fun w' => HGs.out.idx nG j w' hjk (Nat.le_refl _)
          have hce := (HGs.out.up HB5.out).cell j hjk
          have hbd : Below wr.heap.size wr wr.drew := (Below.refl _ _).drew
          have jf := HF.out wr.drew (gs.getD j 0) k (-1) ((HNd.out.up HB5.out).up hbd) (Nat.le_refl _)
          have HB6 : Hid (∀ w6, Below wr.drew.heap.size wr.drew w6 → Below w.heap.size w w6 ∧ AuB w6 w.heap.size p0 aA nG cA aG nG cG aN k cN) := fun w6 h => by
            have h2 : Below wr.heap.size wr w6 := hbd.trans (h.mono hbd.size)
            exact ⟨HB5.out.trans (h2.mono HB5.out.size), HA5.out.up h2⟩
          have HXN : Hid (fitB nG N k (-1) (gs.getD j 0) = true → ∀ x, x < j + 1 → FitG nG N k (-1) (gs.getD x 0)) := fun h x hx => by
            by_cases hxj : x = j
            · rw [hxj]; exact (fitB_iff (by rw [HL.out]; exact Nat.le_refl _)).1 h
            · exact HX.out x (by omega)
          have HXY : Hid (fitB nG N k (-1) (gs.getD j 0) = false → ¬ MayG p0 nG N gs) := fun h hm => by
            have := (fitB_iff (m := nG) (p := -1) (r := gs.getD j 0) (show k ≤ N.length by rw [HL.out]; exact Nat.le_refl _)).2 (HM4.out hm j hjk)
            rw [h] at this
            exact absurd this (by decide)
          generalize fitB nG N k (-1) (gs.getD j 0) = b at *
          generalize gs.getD j 0 = z at *
          generalize adOf aG j = ad at *
          obtain ⟨ga, oa, sa⟩ := ad
          clear HX hbd HM4
          cases b with
          | false =>
            have H1' : Hid (∀ w6, Below wr.drew.heap.size wr.drew w6 → Q (.returned (.int .i64 12)) w6) := fun w6 h => H1.out w6 (HB6.out w6 h).1 (HXY.out rfl)
            clear H0 H1 HF HM3 HXY HXN HB6 HA5 HB5
            go_wp2_with fail
            go_region_with (first
              | (revert jf; intro jf; go_at_call 42; (with_reducible refine jf.mono ?_); rintro e w6 ⟨rfl, hb6⟩; have HE : Hid _ := H1'.out w6 hb6)
              | fail)
            all_goals
              clear jf
              go_wp2
              exact HE.out
          | true =>
            have HX2 : Hid _ := HXN.out rfl
            clear H0 H1 HF HM3 HXY HXN HA5 HB5
            go_wp2_with fail
            go_region_with (first
              | (revert jf; intro jf; go_at_call 42; (with_reducible refine jf.mono ?_); rintro e w6 ⟨rfl, hb6⟩; have HE : Hid _ := HB6.out w6 hb6)
              | fail)
            all_goals
              clear jf
              go_wp2
              go_roundw
              case rel => exact ⟨j + 1, by omega, by go_num, HX2, HE.out.2, HE.out.1⟩
              case measure => simp [intOf]; omega
        · obtain ⟨c0, c1, c2, c3⟩ := HA5.out
          obtain rfl : j = nG := by omega
          have HE : Hid _ := H0.out _ HB5.out (HM3.out HX.out)
          clear H0 H1 HF HM3 HM4
          go_wp2
          exact HE.out
end Go.Proofs.Ytmnkkknkmbldhaa
