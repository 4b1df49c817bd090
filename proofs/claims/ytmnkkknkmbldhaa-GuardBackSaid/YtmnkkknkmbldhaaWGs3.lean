/- Package guard: targets, halves. -/
import Derived.Test.YtmnkkknkmbldhaaWGs1
namespace Go.Proofs.Ytmnkkknkmbldhaa
open Go.RowKit Go.Maps

set_option maxRecDepth 100000 in
set_option maxHeartbeats 1600000 in
theorem Try.gtargets_any (a : Option Addr) (len c : Nat) (zs : List Int) (w : World) (hS : ZSl w a len c zs) :
    Calls Try.prog 29 #[.slice a len c] w fun e w' => e = .returned (.bool (decide (∀ v ∈ zs, 0 ≤ v ∧ v ≤ 1048575))) ∧ w' = w := by
  obtain ⟨b, hb⟩ : ∃ b, b = decide (∀ v ∈ zs, 0 ≤ v ∧ v ≤ 1048575) := ⟨_, rfl⟩
  rw [← hb]
  have HB : Hid _ := hb
  have HL : Hid (zs.length = len) := hS.hlen
  have hbd := Nat.le_trans hS.hcap hS.bd
  unfold maxLen at hbd
  have HS : Hid _ := hS
  clear hb hS
  go_enter Try.func29, Try.ntmps29
  go_wp2
  go_loopw [7] (fun i wr => ∃ x : Nat, wr = w ∧ x ≤ len ∧ i = .int .i64 x ∧ Hid (∀ y, y < x → 0 ≤ zs.getD y 0 ∧ zs.getD y 0 ≤ 1048575)) (fun i _ => len - (intOf i).toNat)
  case atStart => exact ⟨0, rfl, Nat.zero_le _, rfl, fun y hy => absurd hy (by omega)⟩
  case round =>
    obtain ⟨x, rfl, hx, rfl, HX⟩ := hrel
    by_cases hxl : x < len
    · have hidx := fun w' => HS.out.idx len x w' hxl (Nat.le_refl _)
      have hce := HS.out.cell x hxl
      have HXN : Hid (0 ≤ zs.getD x 0 ∧ zs.getD x 0 ≤ 1048575 → ∀ y, y < x + 1 → 0 ≤ zs.getD y 0 ∧ zs.getD y 0 ≤ 1048575) := fun h y hy => by
        by_cases e : y = x
        · rw [e]; exact h
        · exact HX.out y (by omega)
      have HXY : Hid (¬ (0 ≤ zs.getD x 0 ∧ zs.getD x 0 ≤ 1048575) → b = false) := fun h => by
        rw [HB.out, decide_eq_false]
        exact fun hall => h (hall _ (by
          have hl : x < zs.length := by rw [HL.out]; exact hxl
          simp [List.getD_eq_getElem?_getD, List.getElem?_eq_getElem hl]))
      generalize zs.getD x 0 = z at *
      generalize adOf a x = ad at *
      obtain ⟨ga, oa, sa⟩ := ad
      clear HX HB
      by_cases hz : 0 ≤ z ∧ z ≤ 1048575
      · have d1 : decide (z < 0) = false := by simp; omega
        have d2 : decide (1048575 < z) = false := by simp; omega
        have HX2 : Hid _ := HXN.out hz
        clear HXN HXY hz
        go_wp2
        go_roundw
        case rel => exact ⟨x + 1, trivial, by omega, by go_num, HX2⟩
        case measure => simp [intOf]; omega
      · have HE : Hid _ := HXY.out hz
        clear HXN HXY
        by_cases hz0 : z < 0
        · clear hz
          go_wp2
          go_ret
          exact ⟨by rw [HE.out]; rfl, rfl⟩
        · have hz1 : 1048575 < z := by omega
          clear hz
          go_wp2
          go_ret
          exact ⟨by rw [HE.out]; rfl, rfl⟩
    · have hxe : x = len := by omega
      have HE : Hid (b = true) := by
        show _ = _
        rw [HB.out, decide_eq_true]
        intro v hv
        obtain ⟨i, hi, e⟩ := List.getElem_of_mem hv
        have := HX.out i (by rw [HL.out] at hi; omega)
        simpa [List.getD_eq_getElem?_getD, List.getElem?_eq_getElem hi, e] using this
      subst hxe
      clear HX HB
      go_wp2
      go_ret
      exact ⟨by rw [HE.out]; rfl, rfl⟩
/-- What halves answers. -/
def HalR (l : List Nat) (h : Nat) (w : World) (e : Ending) (w' : World) : Prop := ∃ la lc ha hc, e = .returned (.tuple #[.slice la h lc, .slice ha h hc]) ∧ Below w.heap.size w w' ∧
  ZSl w' la h lc ((evL l).map Int.ofNat) ∧ ZSl w' ha h hc ((odL l).map Int.ofNat) ∧ (∀ x, x < h → w.heap.size ≤ (adOf la x).block) ∧ (∀ x, x < h → w.heap.size ≤ (adOf ha x).block)
set_option maxRecDepth 100000 in
set_option maxHeartbeats 8000000 in
theorem Try.ghalves_any (l : List Nat) (h M : Nat) (a : Option Addr) (c : Nat) (w : World) (hMh : M = 2 * h) (hl : l.length = M) (hM9 : M ≤ 100000) (hS : ZSl w a M c (l.map Int.ofNat)) :
    Calls Try.prog 45 #[.slice a M c] w (HalR l h w) := by
  obtain ⟨Q, eQ⟩ : ∃ Q, Q = HalR l h w := ⟨_, rfl⟩
  have HQ : Hid (∀ e w', HalR l h w e w' → Q e w') := fun e w' h => by rw [eQ]; exact h
  rw [← eQ]
  have hlen := ev_len l h (by omega)
  have HS : Hid _ := hS
  have HEg : Hid (∀ j, ((evL l).map Int.ofNat).getD j 0 = (l.map Int.ofNat).getD (2 * j) 0) := ev_getZ l
  have HOg : Hid (∀ j, ((odL l).map Int.ofNat).getD j 0 = (l.map Int.ofNat).getD (2 * j + 1) 0) := od_getZ l
  have HEl : Hid (((evL l).map Int.ofNat).length = h) := by show _ = _; rw [List.length_map]; exact hlen.1
  have HOl : Hid (((odL l).map Int.ofNat).length = h) := by show _ = _; rw [List.length_map]; exact hlen.2
  have HQ2 : Hid (∀ e w' (E O : List Int), E = (evL l).map Int.ofNat → O = (odL l).map Int.ofNat → (∃ la lc ha hc, e = .returned (.tuple #[.slice la h lc, .slice ha h hc]) ∧ Below w.heap.size w w' ∧ ZSl w' la h lc E ∧ ZSl w' ha h hc O ∧ (∀ x, x < h → w.heap.size ≤ (adOf la x).block) ∧ (∀ x, x < h → w.heap.size ≤ (adOf ha x).block)) → Q e w') := fun e w' E O h1 h2 h => HQ.out e w' (by subst h1; subst h2; exact h)
  obtain ⟨E, eE⟩ : ∃ E, E = (evL l).map Int.ofNat := ⟨_, rfl⟩
  obtain ⟨O, eO⟩ : ∃ O, O = (odL l).map Int.ofNat := ⟨_, rfl⟩
  rw [← eE] at HEg HEl
  rw [← eO] at HOg HOl
  have HQ3 : Hid _ := fun e w' => HQ2.out e w' E O eE eO
  have HMh : Hid _ := hMh
  clear HQ HQ2 eQ eE eO hS hMh hlen hl
  go_enter Try.func45, Try.ntmps45
  go_wp2
  go_loopw [2, 3, 4] (fun vl vh i wr => ∃ (j J : Nat), J ≤ M ∧ i = .int .i64 (J : Int) ∧ Hid (J = 2 * j) ∧ Hid (Hv w wr vl vh (E.take j) (O.take j))) (fun _ _ i _ => M - (intOf i).toNat)
  case atStart => exact ⟨0, 0, Nat.zero_le _, rfl, rfl, Hv.nil w⟩
  case round =>
    obtain ⟨j, J, hj, rfl, HJ, HV⟩ := hrel
    by_cases hlt : J < M
    · have hjh : j < h := by have := HJ.out; have := HMh.out; omega
      have hk1 : J + 1 < M := by have := HJ.out; have := HMh.out; omega
      have hjb : j + 1 ≤ 100000 := by have := HJ.out; omega
      have hEt : E.take (j + 1) = E.take j ++ [(l.map Int.ofNat).getD J 0] := by rw [takeZ_snoc (by rw [HEl.out]; exact hjh), HEg.out, HJ.out]
      have hOt : O.take (j + 1) = O.take j ++ [(l.map Int.ofNat).getD (J + 1) 0] := by rw [takeZ_snoc (by rw [HOl.out]; exact hjh), HOg.out, HJ.out]
      have hEn : (E.take j).length = j := by rw [List.length_take, HEl.out]; omega
      have hOn : (O.take j).length = j := by rw [List.length_take, HOl.out]; omega
      have HEt : Hid _ := hEt
      have HOt : Hid _ := hOt
      have HOn : Hid _ := hOn
      have hS0 := HS.out.up HV.out.bel
      have hidx0 := fun w' => HS.out.idx M J w' hlt (Nat.le_refl _)
      have hidx1 : ∀ w', (Instr.indexAt 30 (.slice a M c) (.int .i64 ((J : Int) + 1))).run Try.prog w' = .ok (.pointer (some (adOf a (J + 1)))) w' := fun w' => by simpa using HS.out.idx M (J + 1) w' hk1 (Nat.le_refl _)
      have hce0 := hS0.cell J hlt
      have HC1 : Hid (∀ w', Below w.heap.size w w' → w'.cell? (adOf a (J + 1)) = some (.int .i64 ((l.map Int.ofNat).getD (J + 1) 0))) := fun w' hb => (HS.out.up hb).cell (J + 1) hk1
      obtain ⟨va, vc, hva⟩ := own_slZ HV.out.ol
      obtain ⟨vb, vd, hvb⟩ := own_slZ HV.out.oh
      rw [hEn] at hva
      rw [hOn] at hvb
      subst hva
      subst hvb
      clear hEt hOt hS0 HQ3
      generalize (l.map Int.ofNat).getD (J) 0 = z0 at *
      generalize (l.map Int.ofNat).getD (J + 1) 0 = z1 at *
      generalize adOf a (J) = ad0 at *
      generalize adOf a (J + 1) = ad1 at *
      obtain ⟨g0, o0, s0⟩ := ad0
      obtain ⟨g1, o1, s1⟩ := ad1
      have HOA : Hid ((wr.alloc (.cells #[.int .i64 z0] 3)).ownsRow w.heap.size 3 1 (.slice va j vc) j ((E.take j).map (Value.int .i64))) := by
        have := HV.out.ol.alloc (.cells #[.int .i64 z0] 3)
        rw [hEn] at this
        exact this
      have HCA : Hid ((wr.alloc (.cells #[.int .i64 z0] 3)).cell? ⟨wr.heap.size, 0, none⟩ = some (.int .i64 z0)) := cell_row (MapKept.heap_alloc wr _).1 0
      have hszA : w.heap.size ≤ (wr.alloc (.cells #[.int .i64 z0] 3)).heap.size := (HV.out.bel.alloc HV.out.bel.size _).size
      have HPU : Hid (∀ g7 c7 w7, w7.ownsRow w.heap.size 3 1 (.slice (some ⟨g7, 0, none⟩) (j + 1) c7) (j + 1) ((E.take j).map (Value.int .i64) ++ [.int .i64 z0]) → (wr.alloc (.cells #[.int .i64 z0] 3)).grownBy w7 (Value.slice va j vc).ownBlock → ((Value.slice va j vc).ownBlock = some g7 ∨ g7 = (wr.alloc (.cells #[.int .i64 z0] 3)).heap.size) → Hv w w7 (.slice (some ⟨g7, 0, none⟩) (j + 1) c7) (.slice vb j vd) (E.take (j + 1)) (O.take j)) := fun g7 c7 w7 q1 q2 q3 => by
        have := HV.out.push (w' := w7) (g := g7) (cap := c7) z0 (.cells #[.int .i64 z0] 3) (by rw [hEn]; simpa using q1) q2 q3
        rw [hEn, ← HEt.out] at this
        exact this
      clear HV hEn hOn
      go_wp2_with (at_builtin; refine Try.append_z1 rfl _ _ rfl w.heap.size _ j (E.take j) rfl HOA.out wr.heap.size z0 rfl HCA.out (by omega) hszA ?_)
      intro g7 c7 w7 hown7 hgr7 hl7
      have HV7 : Hid _ := HPU.out g7 c7 w7 (by simpa using hown7) hgr7 (by simpa using hl7)
      clear HPU hown7 hgr7 hl7 HOA HCA hszA hce0 hidx0
      have hce1 := HC1.out w7 HV7.out.bel
      have HOB : Hid ((w7.alloc (.cells #[.int .i64 z1] 3)).ownsRow w.heap.size 3 1 (.slice vb j vd) j ((O.take j).map (Value.int .i64))) := by
        have := HV7.out.oh.alloc (.cells #[.int .i64 z1] 3)
        rw [HOn.out] at this
        exact this
      have HCB : Hid ((w7.alloc (.cells #[.int .i64 z1] 3)).cell? ⟨w7.heap.size, 0, none⟩ = some (.int .i64 z1)) := cell_row (MapKept.heap_alloc w7 _).1 0
      have hszB : w.heap.size ≤ (w7.alloc (.cells #[.int .i64 z1] 3)).heap.size := (HV7.out.bel.alloc HV7.out.bel.size _).size
      have HPV : Hid (∀ g8 c8 w8, w8.ownsRow w.heap.size 3 1 (.slice (some ⟨g8, 0, none⟩) (j + 1) c8) (j + 1) ((O.take j).map (Value.int .i64) ++ [.int .i64 z1]) → (w7.alloc (.cells #[.int .i64 z1] 3)).grownBy w8 (Value.slice vb j vd).ownBlock → ((Value.slice vb j vd).ownBlock = some g8 ∨ g8 = (w7.alloc (.cells #[.int .i64 z1] 3)).heap.size) → Hv w w8 (.slice (some ⟨g7, 0, none⟩) (j + 1) c7) (.slice (some ⟨g8, 0, none⟩) (j + 1) c8) (E.take (j + 1)) (O.take (j + 1))) := fun g8 c8 w8 q1 q2 q3 => by
        have := HV7.out.swap.push (w' := w8) (g := g8) (cap := c8) z1 (.cells #[.int .i64 z1] 3) (by rw [HOn.out]; simpa using q1) q2 q3
        rw [HOn.out, ← HOt.out] at this
        exact this.swap
      clear HV7 HC1
      go_wp2_with (at_builtin; refine Try.append_z1 rfl _ _ rfl w.heap.size _ j (O.take j) rfl HOB.out w7.heap.size z1 rfl HCB.out (by omega) hszB ?_)
      intro g8 c8 w8 hown8 hgr8 hl8
      have HV8 : Hid _ := HPV.out g8 c8 w8 (by simpa using hown8) hgr8 (by simpa using hl8)
      have HJ2 : Hid (J + 2 = 2 * (j + 1)) := by show _ = _; rw [HJ.out]; omega
      clear HPV hown8 hgr8 hl8 HOB HCB hszB hce1 hidx1
      go_wp2
      go_roundw
      case rel => exact ⟨j + 1, J + 2, by omega, by go_num, HJ2, HV8⟩
      case measure => simp [intOf]; omega
    · have hJM : J = M := by omega
      have hjh : j = h := by have := HJ.out; have := HMh.out; omega
      have hv9 := HV.out
      rw [hjh, List.take_of_length_le (by rw [HEl.out]; exact Nat.le_refl _), List.take_of_length_le (by rw [HOl.out]; exact Nat.le_refl _)] at hv9
      obtain ⟨la, lc, hla, hLS, hLb, _⟩ := ownZ_sl hv9.ol Try.underlying30 Try.sizeInt
      obtain ⟨ha, hc, hha, hHS, hHb, _⟩ := ownZ_sl hv9.oh Try.underlying30 Try.sizeInt
      rw [HEl.out] at hla hLS hLb
      rw [HOl.out] at hha hHS hHb
      subst hla
      subst hha
      have HE : Hid _ := HQ3.out _ wr ⟨la, lc, ha, hc, rfl, hv9.bel, hLS, hHS, hLb, hHb⟩
      subst hJM
      clear HQ3 hv9 hLS hHS hLb hHb HV HJ hjh
      go_wp2
      exact HE.out
end Go.Proofs.Ytmnkkknkmbldhaa
