/- The document's store: add. -/
import Derived.Test.YtmnkkknkmbldhaaWGr5
import Derived.Deep.RegionLawGrows
namespace Go.Proofs.Ytmnkkknkmbldhaa
open Go.RowKit Go.Maps

theorem adM_bd : ∀ (k : Nat) (p : Int) (f : Nat → Nat) (N : List Gd) (M : Nat), (∀ i, i < 2 ^ k → f i ≤ M) → -(M : Int) - 1 ≤ (adM k p f N).1 ∧ (adM k p f N).1 ≤ (adM k p f N).2.length
  | 0, p, f, N, M, h => by have := h 0 (by simp); simp [adM]; omega
  | k + 1, p, f, N, M, h => by
    have e : 2 ^ (k + 1) = 2 * 2 ^ k := by rw [Nat.pow_succ]; omega
    have hA := adM_bd k (p + 1) (fun i => f (2 * i)) N M (fun i hi => h _ (by omega))
    rcases e1 : adM k (p + 1) (fun i => f (2 * i)) N with ⟨a, N1⟩
    have hB := adM_bd k (p + 1) (fun i => f (2 * i + 1)) N1 M (fun i hi => h _ (by omega))
    have hP := (ad_pre k (p + 1) (fun i => f (2 * i + 1)) N1).1.length_le
    rcases e2 : adM k (p + 1) (fun i => f (2 * i + 1)) N1 with ⟨b, N2⟩
    rw [e1] at hA; rw [e2] at hB hP
    dsimp only at hA hB hP
    rw [adM_succ k p f N e1 e2]
    split
    · exact ⟨hA.1, by dsimp only; omega⟩
    · dsimp only
      refine ⟨by omega, ?_⟩
      split
      · rename_i hm; have := List.idxOf_lt_length_of_mem hm; omega
      · rename_i hm; rw [idx_out hm]; simp; omega
theorem ev_getZ (l : List Nat) (j : Nat) : ((evL l).map Int.ofNat).getD j 0 = (l.map Int.ofNat).getD (2 * j) 0 := by
  have := ev_at l j
  simp only [fnL, List.getD_eq_getElem?_getD] at this
  simp only [List.getD_eq_getElem?_getD, List.getElem?_map]
  rcases h1 : (evL l)[j]? with _ | x <;> rcases h2 : l[2 * j]? with _ | y <;> simp_all <;> omega
theorem od_getZ (l : List Nat) (j : Nat) : ((odL l).map Int.ofNat).getD j 0 = (l.map Int.ofNat).getD (2 * j + 1) 0 := by
  have := od_at l j
  simp only [fnL, List.getD_eq_getElem?_getD] at this
  simp only [List.getD_eq_getElem?_getD, List.getElem?_map]
  rcases h1 : (odL l)[j]? with _ | x <;> rcases h2 : l[2 * j + 1]? with _ | y <;> simp_all <;> omega
theorem takeZ_snoc {cs : List Int} {k : Nat} (h : k < cs.length) : cs.take (k + 1) = cs.take k ++ [cs.getD k 0] := by
  rw [List.take_add_one, List.getElem?_eq_getElem h]; simp [List.getD_eq_getElem?_getD, List.getElem?_eq_getElem h]
theorem evod_mem : ∀ (l : List Nat), (∀ v ∈ evL l, v ∈ l) ∧ ∀ v ∈ odL l, v ∈ l
  | a :: b :: l => by
    have h := evod_mem l
    refine ⟨fun v hv => ?_, fun v hv => ?_⟩
    · simp only [evL, List.mem_cons] at hv ⊢
      rcases hv with rfl | hv
      · exact .inl rfl
      · exact .inr (.inr (h.1 v hv))
    · simp only [odL, List.mem_cons] at hv ⊢
      rcases hv with rfl | hv
      · exact .inr (.inl rfl)
      · exact .inr (.inr (h.2 v hv))
  | [a] => ⟨fun v hv => by simpa [evL] using hv, fun v hv => by simp [odL] at hv⟩
  | [] => ⟨fun v hv => by simp [evL] at hv, fun v hv => by simp [odL] at hv⟩
theorem idx_first : ∀ {N : List Gd} {i : Nat} {nd : Gd}, i < N.length → N.getD i (0, 0, 0) = nd → (∀ x, x < i → N.getD x (0, 0, 0) ≠ nd) → N.idxOf nd = i ∧ nd ∈ N
  | [], i, nd, h, _, _ => absurd h (by simp)
  | a :: N, 0, nd, _, e, _ => by
    simp at e; subst e; simp
  | a :: N, i + 1, nd, h, e, hx => by
    have hne : a ≠ nd := by have := hx 0 (by omega); simpa using this
    have := idx_first (N := N) (i := i) (nd := nd) (by simpa using h) (by simpa using e) (fun x hxi => by have := hx (x + 1) (by omega); simpa using this)
    refine ⟨?_, List.mem_cons_of_mem _ this.2⟩
    rw [List.idxOf_cons, this.1]
    have : (a == nd) = false := by simpa using hne
    rw [this]; rfl
/-- What add answers. -/
def RaR (g n : Nat) (r : Int × List Gd) (F : Nat → Prop) (w : World) (e : Ending) (w' : World) : Prop := e = .returned (.int .i64 r.1) ∧ ∃ F', RSt w' F' g n r.2 ∧ Fr w w' F F'
set_option maxRecDepth 100000 in
set_option maxHeartbeats 8000000 in
theorem Try.radd_any (g n : Nat) : ∀ (k M : Nat) (p : Int) (l : List Nat) (a : Option Addr) (c : Nat) (N : List Gd) (F : Nat → Prop) (w : World), M = 2 ^ k → 0 ≤ p → p + k ≤ 8 → l.length = M → (∀ v ∈ l, v ≤ 1048575) → ZSl w a M c (l.map Int.ofNat) → (∀ j, j < M → ¬ F (adOf a j).block) → RSt w F g n N → N.length + M ≤ 100000 →
    Calls Try.prog 32 #[.pointer (some ⟨g, 0, none⟩), .slice a M c, .int .i64 p] w (RaR g n (adM k p (fnL l) N) F w) := by
  intro k
  induction k with
  | zero =>
    intro M p l a c N F w hM hp0 hp8 hl hv hS hF hR hN
    obtain rfl : M = 1 := by simpa using hM
    have hce := hS.cell 0 (by omega)
    have hidx : ∀ w', (Instr.indexAt 30 (.slice a 1 c) (.int .i64 0)).run Try.prog w' = .ok (.pointer (some (adOf a 0))) w' := fun w' => by simpa using hS.idx 1 0 w' (by omega) (Nat.le_refl _)
    have hz : (l.map Int.ofNat).getD 0 0 = ((fnL l 0 : Nat) : Int) := by
      simp only [fnL, List.getD_eq_getElem?_getD, List.getElem?_map]
      rcases l[0]? with _ | x <;> rfl
    have hb : fnL l 0 ≤ 1048575 := by
      simp only [fnL, List.getD_eq_getElem?_getD, List.getElem?_eq_getElem (show 0 < l.length by omega), Option.getD_some]
      exact hv _ (List.getElem_mem _)
    rw [hz] at hce
    have HE : Hid (RaR g n (adM 0 p (fnL l) N) F w (.returned (.int .i64 (-1 - ((fnL l 0 : Nat) : Int)))) w) := ⟨rfl, F, hR, Fr.ofBelow (Below.refl _ _)⟩
    generalize RaR g n (adM 0 p (fnL l) N) F w = Q at *
    clear hz hR hF hS
    generalize fnL l 0 = z at *
    generalize adOf a 0 = ad at *
    obtain ⟨ga, oa, sa⟩ := ad
    go_enter Try.func32, Try.ntmps32
    go_wp2
    exact HE.out
  | succ k ih =>
    intro M p l a c N F w hM hp0 hp8 hl hv hS hF hR hN
    obtain ⟨h, hh⟩ : ∃ h, h = 2 ^ k := ⟨_, rfl⟩
    have h1 : 1 ≤ h := by rw [hh]; exact Nat.one_le_two_pow
    have hMh : M = 2 * h := by rw [hM, hh, Nat.pow_succ]; omega
    have hlen := ev_len l h (by omega)
    obtain ⟨Q, eQ⟩ : ∃ Q, Q = RaR g n (adM (k + 1) p (fnL l) N) F w := ⟨_, rfl⟩
    have HQ : Hid (∀ e w', RaR g n (adM (k + 1) p (fnL l) N) F w e w' → Q e w') := fun e w' h => by rw [eQ]; exact h
    rw [← eQ]
    have HH : Hid _ := hh
    have HS : Hid _ := hS
    have HR : Hid _ := hR
    have HEg : Hid (∀ j, ((evL l).map Int.ofNat).getD j 0 = (l.map Int.ofNat).getD (2 * j) 0) := ev_getZ l
    have HOg : Hid (∀ j, ((odL l).map Int.ofNat).getD j 0 = (l.map Int.ofNat).getD (2 * j + 1) 0) := od_getZ l
    have HEl : Hid (((evL l).map Int.ofNat).length = h) := by show _ = _; rw [List.length_map]; exact hlen.1
    have HOl : Hid (((odL l).map Int.ofNat).length = h) := by show _ = _; rw [List.length_map]; exact hlen.2
    obtain ⟨E, eE⟩ : ∃ E, E = (evL l).map Int.ofNat := ⟨_, rfl⟩
    obtain ⟨O, eO⟩ : ∃ O, O = (odL l).map Int.ofNat := ⟨_, rfl⟩
    rw [← eE] at HEg HEl
    rw [← eO] at HOg HOl
    have HE : Hid _ := eE
    have HO : Hid _ := eO
    have HF : Hid _ := hF
    have HMh : Hid _ := hMh
    have HLn : Hid _ := hlen
    have HL : Hid _ := hl
    have HV0 : Hid _ := hv
    have HNl : Hid _ := hN
    have hM1 : 1 < M := by omega
    have hM9 : M ≤ 100000 := by omega
    have dm : ((M : Int) == 1) = false := by simp; omega
    clear eQ hM hh eE eO hS hR hF hMh hlen hl hv hN
    go_enter Try.func32, Try.ntmps32
    go_wp2
    go_loopw [7, 8, 9] (fun vl vh i wr => ∃ (j J : Nat), J ≤ M ∧ i = .int .i64 (J : Int) ∧ Hid (J = 2 * j) ∧ Hid (Hv w wr vl vh (E.take j) (O.take j))) (fun _ _ i _ => M - (intOf i).toNat)
    case atStart => exact ⟨0, 0, Nat.zero_le _, rfl, rfl, Hv.nil w⟩
    case round =>
      obtain ⟨j, J, hj, rfl, HJ, HV⟩ := hrel
      by_cases hlt : J < M
      · have hjh : j < h := by have := HJ.out; have := HMh.out; omega
        have hk1 : J + 1 < M := by have := HJ.out; have := HMh.out; omega
        have hjb : j + 1 ≤ 100000 := by have := HJ.out; omega
        have hEt : E.take (j + 1) = E.take j ++ [(l.map Int.ofNat).getD J 0] := by rw [takeZ_snoc (by rw [HEl.out]; exact hjh), HEg.out, HJ.out]
        have hOt : O.take (j + 1) = O.take j ++ [(l.map Int.ofNat).getD (J + 1) 0] := by rw [takeZ_snoc (by rw [HOl.out]; exact hjh), HOg.out, HJ.out]
        have hEn : (E.take j).length = j := by rw [List.length_take, HEl.out]; omega
        have hOn : (O.take j).length = j := by rw [List.length_take, HOl.out]; omega
        have HEt : Hid _ := hEt
        have HOt : Hid _ := hOt
        have HOn : Hid _ := hOn
        have hS0 := HS.out.up HV.out.bel
        have hidx0 := fun w' => HS.out.idx M J w' hlt (Nat.le_refl _)
        have hidx1 : ∀ w', (Instr.indexAt 30 (.slice a M c) (.int .i64 ((J : Int) + 1))).run Try.prog w' = .ok (.pointer (some (adOf a (J + 1)))) w' := fun w' => by simpa using HS.out.idx M (J + 1) w' hk1 (Nat.le_refl _)
        have hce0 := hS0.cell J hlt
        have HC1 : Hid (∀ w', Below w.heap.size w w' → w'.cell? (adOf a (J + 1)) = some (.int .i64 ((l.map Int.ofNat).getD (J + 1) 0))) := fun w' hb => (HS.out.up hb).cell (J + 1) hk1
        obtain ⟨va, vc, hva⟩ := own_slZ HV.out.ol
        obtain ⟨vb, vd, hvb⟩ := own_slZ HV.out.oh
        rw [hEn] at hva
        rw [hOn] at hvb
        subst hva
        subst hvb
        clear hEt hOt hS0
        generalize (l.map Int.ofNat).getD (J) 0 = z0 at *
        generalize (l.map Int.ofNat).getD (J + 1) 0 = z1 at *
        generalize adOf a (J) = ad0 at *
        generalize adOf a (J + 1) = ad1 at *
        obtain ⟨g0, o0, s0⟩ := ad0
        obtain ⟨g1, o1, s1⟩ := ad1
        have HOA : Hid ((wr.alloc (.cells #[.int .i64 z0] 3)).ownsRow w.heap.size 3 1 (.slice va j vc) j ((E.take j).map (Value.int .i64))) := by
          have := HV.out.ol.alloc (.cells #[.int .i64 z0] 3)
          rw [hEn] at this
          exact this
        have HCA : Hid ((wr.alloc (.cells #[.int .i64 z0] 3)).cell? ⟨wr.heap.size, 0, none⟩ = some (.int .i64 z0)) := cell_row (MapKept.heap_alloc wr _).1 0
        have hszA : w.heap.size ≤ (wr.alloc (.cells #[.int .i64 z0] 3)).heap.size := (HV.out.bel.alloc HV.out.bel.size _).size
        have HPU : Hid (∀ g7 c7 w7, w7.ownsRow w.heap.size 3 1 (.slice (some ⟨g7, 0, none⟩) (j + 1) c7) (j + 1) ((E.take j).map (Value.int .i64) ++ [.int .i64 z0]) → (wr.alloc (.cells #[.int .i64 z0] 3)).grownBy w7 (Value.slice va j vc).ownBlock → ((Value.slice va j vc).ownBlock = some g7 ∨ g7 = (wr.alloc (.cells #[.int .i64 z0] 3)).heap.size) → Hv w w7 (.slice (some ⟨g7, 0, none⟩) (j + 1) c7) (.slice vb j vd) (E.take (j + 1)) (O.take j)) := fun g7 c7 w7 q1 q2 q3 => by
          have := HV.out.push (w' := w7) (g := g7) (cap := c7) z0 (.cells #[.int .i64 z0] 3) (by rw [hEn]; simpa using q1) q2 q3
          rw [hEn, ← HEt.out] at this
          exact this
        clear HV hEn hOn
        go_wp2_with (at_builtin; refine Try.append_z1 rfl _ _ rfl w.heap.size _ j (E.take j) rfl HOA.out wr.heap.size z0 rfl HCA.out (by omega) hszA ?_)
        intro g7 c7 w7 hown7 hgr7 hl7
        have HV7 : Hid _ := HPU.out g7 c7 w7 (by simpa using hown7) hgr7 (by simpa using hl7)
        clear HPU hown7 hgr7 hl7 HOA HCA hszA hce0 hidx0
        have hce1 := HC1.out w7 HV7.out.bel
        have HOB : Hid ((w7.alloc (.cells #[.int .i64 z1] 3)).ownsRow w.heap.size 3 1 (.slice vb j vd) j ((O.take j).map (Value.int .i64))) := by
          have := HV7.out.oh.alloc (.cells #[.int .i64 z1] 3)
          rw [HOn.out] at this
          exact this
        have HCB : Hid ((w7.alloc (.cells #[.int .i64 z1] 3)).cell? ⟨w7.heap.size, 0, none⟩ = some (.int .i64 z1)) := cell_row (MapKept.heap_alloc w7 _).1 0
        have hszB : w.heap.size ≤ (w7.alloc (.cells #[.int .i64 z1] 3)).heap.size := (HV7.out.bel.alloc HV7.out.bel.size _).size
        have HPV : Hid (∀ g8 c8 w8, w8.ownsRow w.heap.size 3 1 (.slice (some ⟨g8, 0, none⟩) (j + 1) c8) (j + 1) ((O.take j).map (Value.int .i64) ++ [.int .i64 z1]) → (w7.alloc (.cells #[.int .i64 z1] 3)).grownBy w8 (Value.slice vb j vd).ownBlock → ((Value.slice vb j vd).ownBlock = some g8 ∨ g8 = (w7.alloc (.cells #[.int .i64 z1] 3)).heap.size) → Hv w w8 (.slice (some ⟨g7, 0, none⟩) (j + 1) c7) (.slice (some ⟨g8, 0, none⟩) (j + 1) c8) (E.take (j + 1)) (O.take (j + 1))) := fun g8 c8 w8 q1 q2 q3 => by
          have := HV7.out.swap.push (w' := w8) (g := g8) (cap := c8) z1 (.cells #[.int .i64 z1] 3) (by rw [HOn.out]; simpa using q1) q2 q3
          rw [HOn.out, ← HOt.out] at this
          exact this.swap
        clear HV7 HC1
        go_wp2_with (at_builtin; refine Try.append_z1 rfl _ _ rfl w.heap.size _ j (O.take j) rfl HOB.out w7.heap.size z1 rfl HCB.out (by omega) hszB ?_)
        intro g8 c8 w8 hown8 hgr8 hl8
        have HV8 : Hid _ := HPV.out g8 c8 w8 (by simpa using hown8) hgr8 (by simpa using hl8)
        have HJ2 : Hid (J + 2 = 2 * (j + 1)) := by show _ = _; rw [HJ.out]; omega
        clear HPV hown8 hgr8 hl8 HOB HCB hszB hce1 hidx1
        go_wp2
        go_roundw
        case rel => exact ⟨j + 1, J + 2, by omega, by go_num, HJ2, HV8⟩
        case measure => simp [intOf]; omega
      · have hJM : J = M := by omega
        have hjh : j = h := by have := HJ.out; have := HMh.out; omega
        have hv9 := HV.out
        rw [hjh, List.take_of_length_le (by rw [HEl.out]; exact Nat.le_refl _), List.take_of_length_le (by rw [HOl.out]; exact Nat.le_refl _)] at hv9
        have HV9 : Hid _ := hv9
        clear hv9
        obtain ⟨la, lc, hla, hLS, hLb, _⟩ := ownZ_sl HV9.out.ol Try.underlying30 Try.sizeInt
        obtain ⟨ha, hc, hha, hHS, hHb, _⟩ := ownZ_sl HV9.out.oh Try.underlying30 Try.sizeInt
        rw [HEl.out] at hla hLS hLb
        rw [HOl.out] at hha hHS hHb
        have hb9 := HV9.out.bel
        have hR9 := HR.out.up hb9
        have HFlt : Hid (∀ x, F x → x < w.heap.size) := fun x hx => (HR.out.lt x hx).2
        have hp1 : (0 : Int) ≤ p + 1 := by omega
        have jA := ih h (p + 1) (evL l) la lc N F wr HH.out hp1 (by omega) HLn.out.1 (fun v hv => HV0.out v ((evod_mem l).1 v hv)) (by rw [← HE.out]; exact hLS) (fun x hx hf => by have := HFlt.out _ hf; have := hLb x hx; omega) hR9 (by have := HNl.out; have := HMh.out; omega)
        subst hla
        subst hha
        rcases e1 : adM k (p + 1) (fnL (evL l)) N with ⟨ra, N1⟩
        rw [e1] at jA
        have HjB : Hid (∀ w1 F1, RSt w1 F1 g n N1 → Fr wr w1 F F1 → Calls Try.prog 32 #[.pointer (some ⟨g, 0, none⟩), .slice ha h hc, .int .i64 (p + 1)] w1 (RaR g n (adM k (p + 1) (fnL (odL l)) N1) F1 w1)) := fun w1 F1 q1 q2 => by
          have hpl := (ad_pre k (p + 1) (fnL (evL l)) N).2
          rw [e1] at hpl
          dsimp only at hpl
          have hnf : ∀ x, x < h → ¬ F (adOf ha x).block := fun x hx hf => by have := HFlt.out _ hf; have := hHb x hx; omega
          exact ih h (p + 1) (odL l) ha hc N1 F1 w1 HH.out hp1 (by omega) HLn.out.2 (fun v hv => HV0.out v ((evod_mem l).2 v hv)) (by rw [← HO.out]; exact q2.intSl hHS hnf) (fun x hx => q2.out (hnf x hx) (hHS.blk x hx)) q1 (by have := HNl.out; have := HMh.out; have := HH.out; omega)
        have HFr0 : Hid (∀ w1 F1, Fr wr w1 F F1 → Fr w w1 F F1) := fun w1 F1 q => (Fr.ofBelow hb9).trans q
        have He1 : Hid _ := e1
        clear hLS hLb hHS hHb hb9 hR9 HV9 HV HJ hj ih e1
        subst hJM
        go_wp2_with fail
        refine jA.mono ?_
        rintro e w1 ⟨rfl, F1, hR1, hF1⟩
        have HF1 : Hid _ := HFr0.out w1 F1 hF1
        have jB := HjB.out w1 F1 hR1 hF1
        clear jA HjB HFr0 hF1 hR1
        rcases e2 : adM k (p + 1) (fnL (odL l)) N1 with ⟨rb, N2⟩
        rw [e2] at jB
        have Had : Hid _ := adM_halves k p l N He1.out e2
        have He2 : Hid _ := e2
        clear e2
        go_wp2_with fail
        refine jB.mono ?_
        rintro e w2 ⟨rfl, F2, hR2, hF2⟩
        have HF2 : Hid (Fr w w2 F F2) := HF1.out.trans hF2
        have HR2 : Hid _ := hR2
        clear jB hF2 HF1 hR2
        dsimp only
        by_cases hab : ra = rb
        · have HX : Hid (Q (.returned (.int .i64 ra)) w2) := HQ.out _ _ (by rw [Had.out, if_pos hab]; exact ⟨rfl, F2, HR2.out, HF2.out⟩)
          have d3 : (ra == rb) = true := by simpa using hab
          clear hab HQ
          go_wp2
          exact HX.out
        · have d3 : (ra == rb) = false := by simpa using hab
          have hev := HLn.out
          have hpA := ad_pre k (p + 1) (fnL (evL l)) N
          rw [He1.out] at hpA
          have hpB := ad_pre k (p + 1) (fnL (odL l)) N1
          rw [He2.out] at hpB
          have hbA := adM_bd k (p + 1) (fnL (evL l)) N 1048575 (fun i hi => Nat.le_of_lt_succ (fnL_lt (fun v hv => Nat.lt_succ_of_le (HV0.out v ((evod_mem l).1 v hv))) (by rw [hev.1, HH.out]; exact hi)))
          rw [He1.out] at hbA
          have hbB := adM_bd k (p + 1) (fnL (odL l)) N1 1048575 (fun i hi => Nat.le_of_lt_succ (fnL_lt (fun v hv => Nat.lt_succ_of_le (HV0.out v ((evod_mem l).2 v hv))) (by rw [hev.2, HH.out]; exact hi)))
          rw [He2.out] at hbB
          dsimp only at hpA hpB hbA hbB
          have hN9 : N2.length ≤ 100000 := by have := HNl.out; have := HMh.out; have := HH.out; omega
          have hlB := hpB.1.length_le
          have HY : Hid (GdOk (p, ra, rb)) := ⟨⟨by omega, by omega⟩, ⟨by dsimp only; omega, by dsimp only; omega⟩, ⟨by dsimp only; omega, by dsimp only; omega⟩⟩
          have HQ2 : Hid (∀ e w', RaR g n ((N2.idxOf (p, ra, rb) : Int), if (p, ra, rb) ∈ N2 then N2 else N2 ++ [(p, ra, rb)]) F w e w' → Q e w') := fun e w' q => HQ.out e w' (by rw [Had.out, if_neg hab]; exact q)
          obtain ⟨v2, hb2, ho2, hf2⟩ := HR2.out.blk
          obtain ⟨a2, c2, rfl, hN2, _⟩ := own_nd ho2 HR2.out.ok
          have HNd : Hid _ := hN2
          have Hb2 : Hid _ := hb2
          have Ho2 : Hid _ := ho2
          have Hf2 : Hid _ := hf2
          have HN9 : Hid _ := hN9
          have HB0 : Hid _ := below_new w2 (.cells #[.int .i64 p, .int .i64 ra, .int .i64 rb] 44 (0, 0))
          have HNB0 : Hid (∀ j : Nat, j < 3 → (w2.alloc (.cells #[.int .i64 p, .int .i64 ra, .int .i64 rb] 44 (0, 0))).cell? ⟨w2.heap.size, j, none⟩ = (#[Value.int .i64 p, .int .i64 ra, .int .i64 rb] : Array Value)[j]?) := fun j hj => cell_row (MapKept.heap_alloc w2 _).1 j
          have hbnd : ra < 1000000000 ∧ rb < 1000000000 := by omega
          clear HQ Had He1 He2 hpA hpB hbA hbB hlB hb2 ho2 hf2 hN2 hN9 hev hab hbnd
          generalize hL : N2.length = L at *
          have HLn2 : Hid _ := hL
          have hL9 : L ≤ 100000 := HN9.out
          clear hL
          go_wp2
          go_loopw [13] (fun i wr => ∃ x : Nat, x ≤ L ∧ i = .int .i64 x ∧ Hid (∀ y, y < x → N2.getD y (0, 0, 0) ≠ (p, ra, rb)) ∧ Hid (Below w2.heap.size w2 wr) ∧ Hid (∀ j : Nat, j < 3 → wr.cell? ⟨w2.heap.size, j, none⟩ = (#[Value.int .i64 p, .int .i64 ra, .int .i64 rb] : Array Value)[j]?)) (fun i _ => L - (intOf i).toNat)
          case atStart => exact ⟨0, Nat.zero_le _, rfl, fun y hy => absurd hy (by omega), HB0, HNB0⟩
          case round =>
            clear HB0 HNB0
            obtain ⟨x, hx, rfl, HX, HB5, HNB5⟩ := hrel
            have hb5 := (HB5.out.block g (Array.getElem?_eq_some_iff.1 Hb2.out).1).trans Hb2.out
            have t1 := cell_row hb5 1
            have n0 := HNB5.out 0 (by omega)
            have n1 := HNB5.out 1 (by omega)
            have n2 := HNB5.out 2 (by omega)
            simp only [List.getElem?_toArray, List.getElem?_cons_zero, List.getElem?_cons_succ] at t1 n0 n1 n2
            by_cases hxL : x < L
            · obtain ⟨g3, o3, s3, hix3, y0, y1, y2, _, _, _⟩ := (HNd.out.up HB5.out).at Try.underlying38 Try.sizeNode x hxL
              have hidx3 := fun w' => hix3 L w' hxL
              clear hix3
              have HXN : Hid (N2.getD x (0, 0, 0) ≠ (p, ra, rb) → ∀ y, y < x + 1 → N2.getD y (0, 0, 0) ≠ (p, ra, rb)) := fun h y hy => by
                by_cases e : y = x
                · rw [e]; exact h
                · exact HX.out y (by omega)
              have HXY : Hid (N2.getD x (0, 0, 0) = (p, ra, rb) → ∀ nq, Q (.returned (.int .i64 (x : Int))) (wr.drewN nq)) := fun h nq => by
                obtain ⟨i1, i2⟩ := idx_first (by rw [HLn2.out]; exact hxL) h HX.out
                refine HQ2.out _ _ ?_
                rw [i1, if_pos i2]
                have hbq : Below w2.heap.size w2 (wr.drewN nq) := below_drewN HB5.out nq
                exact ⟨rfl, F2, HR2.out.up hbq, HF2.out.trans (Fr.ofBelow hbq)⟩
              generalize N2.getD x (0, 0, 0) = y at *
              obtain ⟨Y0, Y1, Y2⟩ := y
              dsimp only at y0 y1 y2
              have heq := fun w => Try.eqlNode Y0 Y1 Y2 p ra rb w
              clear HX hb5
              by_cases hy : ((Y0, Y1, Y2) : Gd) = (p, ra, rb)
              · have HE9 : Hid _ := HXY.out hy
                rw [decide_eq_true hy] at heq
                clear HXY HXN hy HNB5 HB5
                go_wp2_with fail
                go_quiet (fail)
                go_wp2
                exact HE9.out _
              · have HX2 : Hid _ := HXN.out hy
                have HA6 : Hid (∀ nq, Below w2.heap.size w2 (wr.drewN nq) ∧ ∀ j : Nat, j < 3 → (wr.drewN nq).cell? ⟨w2.heap.size, j, none⟩ = (#[Value.int .i64 p, .int .i64 ra, .int .i64 rb] : Array Value)[j]?) := fun nq => ⟨below_drewN HB5.out nq, fun j hj => by simpa using HNB5.out j hj⟩
                rw [decide_eq_false hy] at heq
                clear HXY HXN hy HNB5 HB5
                go_wp2_with fail
                go_quiet (fail)
                go_wp2
                go_roundw
                case rel => exact ⟨x + 1, by omega, by go_num, HX2, (HA6.out _).1, (HA6.out _).2⟩
                case measure => simp [intOf]; omega
            · have hxe : x = L := by omega
              have hnm : (p, ra, rb) ∉ N2 := fun hm => by
                obtain ⟨i, hi, e⟩ := List.getElem_of_mem hm
                refine HX.out i (by have := HLn2.out; omega) ?_
                simp [List.getD_eq_getElem?_getD, List.getElem?_eq_getElem hi, e]
              have ho5 := owns_up Ho2.out HB5.out
              have hO : (wr.alloc (.cells #[.int .i64 p, .int .i64 ra, .int .i64 rb] 44 (0, 0))).drew.ownsRow (g + 1) 44 3 (.slice a2 L c2) L (encG N2) := World.ownsRow.alloc ho5 _
              have hB : (wr.alloc (.cells #[.int .i64 p, .int .i64 ra, .int .i64 rb] 44 (0, 0))).drew.heap[wr.heap.size]? = some (ndO (p, ra, rb)) := (MapKept.heap_alloc wr _).1
              have hgl : g + 1 ≤ (wr.alloc (.cells #[.int .i64 p, .int .i64 ra, .int .i64 rb] 44 (0, 0))).drew.heap.size := by have := (Array.getElem?_eq_some_iff.1 hb5).1; simp; omega
              have t1b : (wr.alloc (.cells #[.int .i64 p, .int .i64 ra, .int .i64 rb] 44 (0, 0))).cell? ⟨g, 1, none⟩ = some (.slice a2 L c2) := kept_cell t1 (below_new wr _)
              have HM : Hid (∀ g5 c5 w5, (wr.alloc (.cells #[.int .i64 p, .int .i64 ra, .int .i64 rb] 44 (0, 0))).drew.grownBy w5 (Value.slice a2 L c2).ownBlock → w5.ownsRow (g + 1) 44 3 (.slice (some ⟨g5, 0, none⟩) (L + 1) c5) (L + 1) (encG (N2 ++ [(p, ra, rb)])) → ((Value.slice a2 L c2).ownBlock = some g5 ∨ g5 = (wr.alloc (.cells #[.int .i64 p, .int .i64 ra, .int .i64 rb] 44 (0, 0))).drew.heap.size) → w5.heap[g]? = some (.cells #[.int .i64 (n : Int), .slice a2 L c2] 40 (0, 0)) ∧ (w5.setCell ⟨g, 1, none⟩ (.slice (some ⟨g5, 0, none⟩) (L + 1) c5)).heap[g]? = some (.cells #[.int .i64 (n : Int), .slice (some ⟨g5, 0, none⟩) (L + 1) c5] 40 (0, 0)) ∧ Q (.returned (.int .i64 (L : Int))) (w5.setCell ⟨g, 1, none⟩ (.slice (some ⟨g5, 0, none⟩) (L + 1) c5))) := fun g5 c5 w5 q1 q2 q3 => by
                have hL2 := HLn2.out
                subst hL2
                obtain ⟨r1, r2, r3, r4⟩ := rst_push (w := wr) (F := F2) (p, ra, rb) HY.out HR2.out.ok hb5 ho5 Hf2.out q1 q2 q3
                refine ⟨r1, r2, HQ2.out _ _ ?_⟩
                rw [idx_out hnm, if_neg hnm]
                exact ⟨rfl, _, r3, (HF2.out.trans (Fr.ofBelow HB5.out)).trans r4⟩
              subst hxe
              clear HX HB5 HNB5 hb5 ho5 hnm HNd HQ2 HR2 HF2 Ho2 Hb2 Hf2 HS HF
              go_wp2_with fail
              go_region_law ((refine Try.stepg_nd rfl _ _ rfl (g + 1) (.slice a2 x c2) x N2 (p, ra, rb) wr.heap.size rfl rfl hO hB (by omega) hgl ?_; intro g5 c5 w5 hown5 hgr5 hloc5; have m5 := HM.out g5 c5 w5 hgr5 hown5 hloc5; have c5 : w5.cell? ⟨g, 1, none⟩ = some (.slice a2 x c2) := cell_row m5.1 1; have z5 : w5.frozen? ⟨g, 1, none⟩ = false := frozen_of_row w5 _ 1 _ _ m5.1))
              all_goals
                have HM6 : Hid _ := m5.2.2
                have t6 := cell_row m5.2.1 1
                simp only [List.getElem?_toArray, List.getElem?_cons_zero, List.getElem?_cons_succ] at t6
                clear hO hB t1 t1b c5 z5 m5 hown5 hgr5 hloc5 HM
                generalize w5.setCell ⟨g, 1, none⟩ (.slice (some ⟨g5, 0, none⟩) (x + 1) _) = w6 at *
                go_wp2
                exact HM6.out
end Go.Proofs.Ytmnkkknkmbldhaa
