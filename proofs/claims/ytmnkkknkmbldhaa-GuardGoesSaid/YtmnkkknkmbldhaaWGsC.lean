/- Package guard: mayBeNodes, mayBeGuards, Check. -/
import Derived.Test.YtmnkkknkmbldhaaWGsB
namespace Go.Proofs.Ytmnkkknkmbldhaa
open Go.RowKit Go.Maps

theorem run_makeMap_hintG {P : Program} (t k e : TypeId) (q : IntKind) (n : Int) (w : World) (h : P.underlying t = some (.map k e)) : (Instr.makeMap t (some (.int q n))).run P w = .ok (.map (some w.heap.size)) (w.alloc (.map #[] 0)) := by
  simp [Instr.makeMap, run_underlying h, asInt, asIntOf, go_sem, newObj, Result.andThen]
  rfl
/-- What the loop of mayBeNodes keeps. -/
structure NdsL (w wr : World) (p0 : Int) (aA : Option Addr) (nA cA : Nat) (aG : Option Addr) (nG cG : Nat) (aN : Option Addr) (nN cN : Nat) (N : List Gd) (mb k : Nat) : Prop where
  au : AuB wr w.heap.size p0 aA nA cA aG nG cG aN nN cN
  num : NumG wr mb k (posG (N.take k))
  nod : (N.take k).Nodup
  may : ∀ j, j < k → ndMB p0 nA N j = true
  bel : Below w.heap.size w wr
theorem NumG.mapNe {w : World} {b n : Nat} {f : Gd → Option Nat} {p : Addr} {v : Value} (h : NumG w b n f) (hc : w.cell? p = some v) : p.block ≠ b := by
  intro e
  obtain ⟨es, c, hm⟩ := h.isMap
  unfold World.cell? at hc
  rw [e, hm] at hc
  cases hc
theorem AuB.grown {w w' : World} {g : Nat} {p : Int} {aA : Option Addr} {nA cA : Nat} {aG : Option Addr} {nG cG : Nat} {aN : Option Addr} {nN cN : Nat} {b n : Nat} {f : Gd → Option Nat} (h : AuB w g p aA nA cA aG nG cG aN nN cN) (hn : NumG w b n f) (hg : w.grownBy w' (some b)) : AuB w' g p aA nA cA aG nG cG aN nN cN := by
  have k : ∀ {q : Addr} {v : Value}, w.cell? q = some v → w'.cell? q = some v := fun hc => grown_cell hc hg (fun e => hn.mapNe hc (by injection e))
  exact ⟨k h.c0, k h.c1, k h.c2, k h.c3⟩
/-- What mayBeNodes answers. -/
def NdsQ (p0 : Int) (nA : Nat) (N : List Gd) (w : World) (e : Ending) (w' : World) : Prop := Below w.heap.size w w' ∧ ∃ b, e = .returned (.bool b) ∧ (b = true ↔ ((∀ k, k < N.length → NdMay p0 nA N k) ∧ N.Nodup))
set_option maxRecDepth 100000 in
set_option maxHeartbeats 8000000 in
theorem Try.gnodes_any (p0 : Int) (aA : Option Addr) (nA cA : Nat) (aG : Option Addr) (nG cG : Nat) (aN : Option Addr) (nN cN : Nat) (N : List Gd) (w : World) (hN : NdSl w aN nN cN N) (hNN : nN ≤ 1000000) :
    Calls Try.prog 40 #[.agg #[.int .i64 p0, .slice aA nA cA, .slice aG nG cG, .slice aN nN cN]] w (NdsQ p0 nA N w) := by
  obtain ⟨Q, eQ⟩ : ∃ Q, Q = NdsQ p0 nA N w := ⟨_, rfl⟩
  have hl := hN.hlen
  have HT : Hid (∀ w', Below w.heap.size w w' → (∀ k, k < nN → ndMB p0 nA N k = true) → N.Nodup → Q (.returned (.bool true)) w') := fun w' hb h1 h2 => by
    rw [eQ]; exact ⟨hb, true, rfl, by simp only [true_iff]; exact ⟨fun k hk => (ndMB_iff (by omega)).1 (h1 k (by omega)), h2⟩⟩
  have HF : Hid (∀ w', Below w.heap.size w w' → (∀ k, k < N.length → NdMay p0 nA N k) ∧ N.Nodup → False) → True := fun _ => trivial
  have HF1 : Hid (∀ w' k, Below w.heap.size w w' → k < nN → ndMB p0 nA N k = false → Q (.returned (.bool false)) w') := fun w' k hb hk h1 => by
    rw [eQ]; refine ⟨hb, false, rfl, ?_⟩
    simp only [Bool.false_eq_true, false_iff]
    rintro ⟨h2, _⟩
    have := (ndMB_iff (p0 := p0) (m := nA) (N := N) (k := k) (by omega)).2 (h2 k (by omega))
    rw [h1] at this; cases this
  have HF2 : Hid (∀ w' k, Below w.heap.size w w' → k < nN → N.getD k (0, 0, 0) ∈ N.take k → Q (.returned (.bool false)) w') := fun w' k hb hk h1 => by
    rw [eQ]; refine ⟨hb, false, rfl, ?_⟩
    simp only [Bool.false_eq_true, false_iff]
    rintro ⟨_, h2⟩
    obtain ⟨j, hj⟩ := List.mem_iff_getElem?.1 h1
    rw [List.getElem?_take] at hj
    by_cases hjk : j < k
    · rw [if_pos hjk] at hj
      exact nodup_not (j := j) (k := k) hjk (by omega) (by rw [List.getD_eq_getElem?_getD, hj]; rfl) h2
    · rw [if_neg hjk] at hj; cases hj
  rw [← eQ]
  clear eQ HF
  have hmk := fun (n : Int) (w : World) => run_makeMap_hintG (P := Try.prog) 62 44 3 .i64 n w Try.underlying62
  have hb1 := below_new w (.cells #[.int .i64 p0, .slice aA nA cA, .slice aG nG cG, .slice aN nN cN] 48 (0, 0))
  have HA1 := aub_new w p0 aA nA cA aG nG cG aN nN cN
  obtain ⟨w1, hw1⟩ : ∃ w1, w1 = w.alloc (.cells #[.int .i64 p0, .slice aA nA cA, .slice aG nG cG, .slice aN nN cN] 48 (0, 0)) := ⟨_, rfl⟩
  have hb2 := below_new w1 (.map #[] 0)
  have hs1 : w1.heap.size = w.heap.size + 1 := by rw [hw1]; simp
  have HL0 : Hid (NdsL w (w1.alloc (.map #[] 0)) p0 aA nA cA aG nG cG aN nN cN N (w.heap.size + 1) 0) := by
    rw [← hw1] at HA1 hb1
    refine ⟨HA1.up hb2, ?_, by simp, fun j hj => absurd hj (by omega), below_step hb1 hb2⟩
    have := numG_made w1
    rw [hs1] at this
    exact this.alike fun x _ => rfl
  rw [hw1] at HL0
  have c3 := HA1.c3
  have c3b := kept_cell c3 (below_new (w.alloc (.cells #[.int .i64 p0, .slice aA nA cA, .slice aG nG cG, .slice aN nN cN] 48 (0, 0))) (.map #[] 0))
  have HN : Hid _ := hN
  have HLn : Hid _ := hl
  clear hb1 hb2 HA1 hw1 hs1 hN hl
  go_enter Try.func40, Try.ntmps40
  go_wp2
  go_loopw [15] (fun i wr => ∃ k : Nat, k ≤ nN ∧ i = .int .i64 (k : Int) ∧ Hid (NdsL w wr p0 aA nA cA aG nG cG aN nN cN N (w.heap.size + 1) k)) (fun i _ => nN - (intOf i).toNat)
  case atStart => exact ⟨0, Nat.zero_le _, rfl, HL0⟩
  case round =>
    obtain ⟨k, hk, rfl, HL⟩ := hrel
    clear HL0 c3 c3b hmk
    by_cases hlt : k < nN
    · have hkl : k < N.length := by have := HLn.out; omega
      obtain ⟨g1, o1, s1, hix1, x0, x1, x2, _, _, hok⟩ := (HN.out.up HL.out.bel).at Try.underlying38 Try.sizeNode k hlt
      have hid1 := fun w' => hix1 nN w' hlt
      clear hix1
      have hge : N.getD k (0, 0, 0) = N[k] := by simp [List.getD_eq_getElem?_getD, List.getElem?_eq_getElem hkl]
      have HTK : Hid (N.take (k + 1) = N.take k ++ [N.getD k (0, 0, 0)]) := takeG_snoc hkl
      have hlk : (N.take k).length = k := by rw [List.length_take]; omega
      have HLK : Hid _ := hlk
      have hm2 : N.getD k (0, 0, 0) ∈ N.take k → ∀ w', Below w.heap.size w w' → Q (.returned (.bool false)) w' := fun h w' hb => HF2.out w' k hb hlt h
      have hm1 : ndMB p0 nA N k = false → ∀ w', Below w.heap.size w w' → Q (.returned (.bool false)) w' := fun h w' hb => HF1.out w' k hb hlt h
      have jn := fun w' hb => Try.gnode_any p0 aA nA cA aG nG cG aN nN cN N k w' (HN.out.up hb) hlt
      clear hge hlk
      generalize N.getD k (0, 0, 0) = x at *
      obtain ⟨P, lo, hi⟩ := x
      dsimp only at x0 x1 x2
      have hb5 := below_new wr (.cells #[.int .i64 P, .int .i64 lo, .int .i64 hi] 44 (0, 0))
      have hbx := (MapKept.heap_alloc wr (.cells #[.int .i64 P, .int .i64 lo, .int .i64 hi] 44 (0, 0))).1
      have hnum : NumG (wr.alloc (.cells #[.int .i64 P, .int .i64 lo, .int .i64 hi] 44 (0, 0))) (w.heap.size + 1) k (posG (N.take k)) := HL.out.num.far (hb5.block _ HL.out.num.lt)
      have hlook := hnum.look (x := (P, lo, hi)) hok
      unfold ndV at hlook
      dsimp only at hlook
      have HBB : Hid (Below w.heap.size w (wr.alloc (.cells #[.int .i64 P, .int .i64 lo, .int .i64 hi] 44 (0, 0)))) := below_step HL.out.bel hb5
      by_cases hmem : (P, lo, hi) ∈ N.take k
      · rw [posG_in hmem] at hlook
        have HE : Hid _ := hm2 hmem _ HBB.out
        dsimp only [Option.getD, Option.isSome] at hlook
        generalize (N.take k).idxOf (P, lo, hi) = jx at *
        clear hm1 hm2 jn hok hnum hbx hb5 hmem HL
        go_wp2
        exact HE.out
      · rw [posG_out hmem] at hlook
        dsimp only [Option.getD, Option.isSome] at hlook
        have hA5 := HL.out.au.up hb5
        obtain ⟨a0, a1, a2, a3⟩ := hA5
        have j5 := jn _ HBB.out
        have HMM : Hid _ := hmem
        have HOK : Hid _ := hok
        have HK : Hid (∀ w6, Below (wr.alloc (.cells #[.int .i64 P, .int .i64 lo, .int .i64 hi] 44 (0, 0))).heap.size (wr.alloc (.cells #[.int .i64 P, .int .i64 lo, .int .i64 hi] 44 (0, 0))) w6 → Below w.heap.size w w6 ∧ AuB w6 w.heap.size p0 aA nA cA aG nG cG aN nN cN ∧ w6.heap[wr.heap.size]? = some (.cells #[.int .i64 P, .int .i64 lo, .int .i64 hi] 44 (0, 0)) ∧ NumG w6 (w.heap.size + 1) k (posG (N.take k))) := fun w6 hb =>
          ⟨below_step HBB.out hb, ⟨kept_cell a0 hb, kept_cell a1 hb, kept_cell a2 hb, kept_cell a3 hb⟩, (hb.block _ (by simp)).trans hbx, hnum.far (hb.block _ hnum.lt)⟩
        have HBd : Hid (w.heap.size ≤ w.heap.size + 1) := Nat.le_succ _
        have HND : Hid (N.take k).Nodup := HL.out.nod
        have HMY : Hid (∀ j, j < k → ndMB p0 nA N j = true) := HL.out.may
        clear hm2 jn hok hnum hbx hb5 hmem HL
        cases hbn : ndMB p0 nA N k with
        | false =>
          rw [hbn] at j5
          have HE : Hid (∀ w6, Below w.heap.size w w6 → Q (.returned (.bool false)) w6) := hm1 hbn
          clear hm1 hbn
          go_wp2_with (go_at_call 48; (with_reducible refine j5.mono ?_); rintro e w6 ⟨rfl, hb6⟩; have HE6 : Hid _ := HE.out w6 (HK.out w6 hb6).1; clear hb6 HE HK)
          exact HE6.out
        | true =>
          rw [hbn] at j5
          have HBN : Hid _ := hbn
          clear hm1 hbn
          go_wp2_with (first
            | (go_at_call 48; (with_reducible refine j5.mono ?_); rintro e w6 ⟨rfl, hb6⟩; obtain ⟨q1, q2, q3, q4⟩ := HK.out w6 hb6; have HB6 : Hid _ := q1; have HA6 : Hid _ := q2; have HN6 : Hid _ := q4; have y0 := cell_row q3 0; have y1 := cell_row q3 1; have y2 := cell_row q3 2; simp only [List.getElem?_toArray, List.getElem?_cons_zero, List.getElem?_cons_succ] at y0 y1 y2; obtain ⟨w7, hrun, hn7, hg7⟩ := q4.put (by omega) (x := (P, lo, hi)) HOK.out (posG_out HMM.out) k (by omega); unfold ndV at hrun; dsimp only at hrun; have H7 : Hid _ := hn7; have G7 : Hid _ := hg7; clear hn7 hg7 q1 q2 q3 q4 hb6 a0 a1 a2 a3 hlook HK)
            | fail)
          have HL7 : Hid (NdsL w w7 p0 aA nA cA aG nG cG aN nN cN N (w.heap.size + 1) (k + 1)) := by
            refine ⟨HA6.out.grown HN6.out G7.out, ?_, ?_, fun j hj => ?_, HB6.out.grown G7.out (Nat.le_trans HB6.out.size (Nat.le_refl _)) (fun q e => by injection e with e; omega)⟩
            · rw [HTK.out]
              have h7 : NumG w7 (w.heap.size + 1) (k + 1) (fun y => if y = (P, lo, hi) then some k else posG (N.take k) y) := H7.out
              refine h7.alike fun y _ => ?_
              have := posG_more (N := N.take k) HMM.out y
              rw [HLK.out] at this
              exact this
            · rw [HTK.out]
              exact List.nodup_append.2 ⟨HND.out, by simp, fun a ha b hb => by simp at hb; subst hb; exact fun e => HMM.out (e ▸ ha)⟩
            · by_cases e : j = k
              · rw [e]; exact HBN.out
              · exact HMY.out j (by omega)
          clear hrun y0 y1 y2 HA6 HN6 HB6 H7 G7 HTK HLK
          go_wp2
          go_roundw
          case rel => exact ⟨k + 1, by omega, by go_num, HL7⟩
          case measure => simp [intOf]; omega
    · obtain rfl : k = nN := by omega
      have HE : Hid _ := HT.out wr HL.out.bel HL.out.may (by
        have := HL.out.nod
        rwa [List.take_of_length_le (by have := HLn.out; omega)] at this)
      clear HT HF1 HF2
      go_wp2
      exact HE.out
/-- What mayBeGuards answers. -/
def GdsQ (nA nN : Nat) (gs : List Int) (w : World) (e : Ending) (w' : World) : Prop := Below w.heap.size w w' ∧ ∃ b, e = .returned (.bool b) ∧ (b = true ↔ ∀ k, k < gs.length → isB nA (gs.getD k 0) = true ∨ (0 ≤ gs.getD k 0 ∧ gs.getD k 0 < (nN : Int)))
set_option maxRecDepth 100000 in
set_option maxHeartbeats 8000000 in
theorem Try.gguards_any (p0 : Int) (aA : Option Addr) (nA cA : Nat) (aG : Option Addr) (nG cG : Nat) (aN : Option Addr) (nN cN : Nat) (gs : List Int) (w : World) (hG : ZSl w aG nG cG gs) (hok : ∀ z ∈ gs, I64 z) :
    Calls Try.prog 41 #[.agg #[.int .i64 p0, .slice aA nA cA, .slice aG nG cG, .slice aN nN cN]] w (GdsQ nA nN gs w) := by
  obtain ⟨Q, eQ⟩ : ∃ Q, Q = GdsQ nA nN gs w := ⟨_, rfl⟩
  have hl := hG.hlen
  have hbd := Nat.le_trans hG.hcap hG.bd
  unfold maxLen at hbd
  have HT : Hid (∀ w', Below w.heap.size w w' → (∀ k, k < nG → isB nA (gs.getD k 0) = true ∨ (0 ≤ gs.getD k 0 ∧ gs.getD k 0 < (nN : Int))) → Q (.returned (.bool true)) w') := fun w' hb h1 => by
    rw [eQ]; exact ⟨hb, true, rfl, by simp only [true_iff]; exact fun k hk => h1 k (by omega)⟩
  have HF : Hid (∀ w' k, Below w.heap.size w w' → k < nG → ¬ (isB nA (gs.getD k 0) = true ∨ (0 ≤ gs.getD k 0 ∧ gs.getD k 0 < (nN : Int))) → Q (.returned (.bool false)) w') := fun w' k hb hk h1 => by
    rw [eQ]; refine ⟨hb, false, rfl, ?_⟩
    simp only [Bool.false_eq_true, false_iff]
    exact fun h => h1 (h k (by omega))
  rw [← eQ]
  clear eQ
  have HB0 : Hid _ := below_new w (.cells #[.int .i64 p0, .slice aA nA cA, .slice aG nG cG, .slice aN nN cN] 48 (0, 0))
  have HA0 : Hid _ := aub_new w p0 aA nA cA aG nG cG aN nN cN
  have c2 := HA0.out.c2
  have HG : Hid _ := hG
  have HOK : Hid _ := hok
  have HLn : Hid _ := hl
  clear hG hok hl
  go_enter Try.func41, Try.ntmps41
  go_wp2
  clear c2
  go_loopw [8] (fun i wr => ∃ k : Nat, k ≤ nG ∧ i = .int .i64 (k : Int) ∧ Hid (∀ j, j < k → isB nA (gs.getD j 0) = true ∨ (0 ≤ gs.getD j 0 ∧ gs.getD j 0 < (nN : Int))) ∧ Hid (AuB wr w.heap.size p0 aA nA cA aG nG cG aN nN cN) ∧ Hid (Below w.heap.size w wr)) (fun i _ => nG - (intOf i).toNat)
  case atStart => exact ⟨0, Nat.zero_le _, rfl, fun j hj => absurd hj (by omega), HA0, HB0⟩
  case round =>
    obtain ⟨k, hk, rfl, HM, HA, HB⟩ := hrel
    clear HA0 HB0
    by_cases hlt : k < nG
    · have hkl : k < gs.length := by have := HLn.out; omega
      have hidx := fun w' => HG.out.idx nG k w' hlt (Nat.le_refl _)
      have hce := (HG.out.up HB.out).cell k hlt
      have hz := HOK.out (gs.getD k 0) (by simp [List.getD_eq_getElem?_getD, List.getElem?_eq_getElem hkl])
      have HMN : Hid (isB nA (gs.getD k 0) = true ∨ (0 ≤ gs.getD k 0 ∧ gs.getD k 0 < (nN : Int)) → ∀ j, j < k + 1 → isB nA (gs.getD j 0) = true ∨ (0 ≤ gs.getD j 0 ∧ gs.getD j 0 < (nN : Int))) := fun h j hj => by
        by_cases e : j = k
        · rw [e]; exact h
        · exact HM.out j (by omega)
      have HFN : Hid (¬ (isB nA (gs.getD k 0) = true ∨ (0 ≤ gs.getD k 0 ∧ gs.getD k 0 < (nN : Int))) → ∀ w', Below w.heap.size w w' → Q (.returned (.bool false)) w') := fun h w' hb => HF.out w' k hb hlt h
      obtain ⟨a0, a1, a2, a3⟩ := HA.out
      generalize gs.getD k 0 = z at *
      generalize adOf aG k = ad at *
      obtain ⟨ga, oa, sa⟩ := ad
      have js := Try.gisState_any p0 aA nA cA aG nG cG aN nN cN z wr hz
      have HK : Hid (∀ w6, Below wr.heap.size wr w6 → AuB w6 w.heap.size p0 aA nA cA aG nG cG aN nN cN ∧ Below w.heap.size w w6) := fun w6 hb => ⟨HA.out.up hb, below_step HB.out hb⟩
      clear HM HF HT HA HB hz
      cases hb : isB nA z with
      | true =>
        rw [hb] at js
        have HM2 : Hid _ := HMN.out (.inl hb)
        clear HMN HFN hb
        go_wp2_with (go_at_call 49; (with_reducible refine js.mono ?_); rintro e w6 ⟨rfl, hb6⟩; have HK6 : Hid _ := HK.out w6 hb6; clear hb6 HK)
        go_roundw
        case rel => exact ⟨k + 1, by omega, by go_num, HM2, HK6.out.1, HK6.out.2⟩
        case measure => simp [intOf]; omega
      | false =>
        rw [hb] at js
        by_cases hz0 : z < 0
        · have HE : Hid _ := HFN.out (by rw [hb]; rintro (h | h); exact absurd h (by simp); omega)
          clear HMN HFN hb
          go_wp2_with (go_at_call 49; (with_reducible refine js.mono ?_); rintro e w6 ⟨rfl, hb6⟩; have HE6 : Hid _ := HE.out w6 (HK.out w6 hb6).2; clear hb6 HK HE)
          exact HE6.out
        · have d0 : decide (z < 0) = false := by simpa using hz0
          by_cases hzn : z < (nN : Int)
          · have d1 : decide ((nN : Int) ≤ z) = false := by simpa using hzn
            have HM2 : Hid _ := HMN.out (.inr ⟨by omega, hzn⟩)
            clear HMN HFN hb hz0
            go_wp2_with (go_at_call 49; (with_reducible refine js.mono ?_); rintro e w6 ⟨rfl, hb6⟩; have HK6 : Hid _ := HK.out w6 hb6; have y3 := HK6.out.1.c3; clear hb6 HK)
            go_roundw
            case rel => exact ⟨k + 1, by omega, by go_num, HM2, HK6.out.1, HK6.out.2⟩
            case measure => simp [intOf]; omega
          · have d1 : decide ((nN : Int) ≤ z) = true := by simp; omega
            have HE : Hid _ := HFN.out (by rw [hb]; rintro (h | h); exact absurd h (by simp); omega)
            clear HMN HFN hb hz0 hzn
            go_wp2_with (go_at_call 49; (with_reducible refine js.mono ?_); rintro e w6 ⟨rfl, hb6⟩; have HE6 : Hid _ := HE.out w6 (HK.out w6 hb6).2; have y3 := (HK.out w6 hb6).1.c3; clear hb6 HK HE)
            exact HE6.out
    · obtain rfl : k = nG := by omega
      have HE : Hid _ := HT.out wr HB.out HM.out
      clear HT HF HM HA HB
      go_wp2
      exact HE.out
end Go.Proofs.Ytmnkkknkmbldhaa
