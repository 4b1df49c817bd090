/- Stage 10's laws over the contracts of package sets: SetsOrder. -/
import Derived.Test.YtllcjmaecgfijaaWSe6
namespace Go.Proofs.Ytllcjmaecgfijaa
open Go.RowKit Go.Maps

/-- A copy of the list, its sets in some order. -/
def TurnAt (w : World) (base : Nat) (v : Value) (n : Nat) (L : List Nat) : Prop := ∃ K : List Nat, (∀ x, x ∈ K ↔ x ∈ L) ∧ K.length = n ∧ w.ownsRow base 23 1 v n ((iU K).map (Value.int .u64))
theorem getD_iU (K : List Nat) (i : Nat) : (iU K).getD i 0 = ((K.getD i 0 : Nat) : Int) := by
  simp only [List.getD_eq_getElem?_getD, iU, List.getElem?_map]
  cases K[i]? <;> rfl
theorem TurnAt.drewN {w : World} {base n : Nat} {v : Value} {L : List Nat} (h : TurnAt w base v n L) (q : Nat) : TurnAt (w.drewN q) base v n L := by
  obtain ⟨K, h1, h2, h3⟩ := h
  exact ⟨K, h1, h2, owns_drew h3 q⟩
theorem TurnAt.open {w : World} {base n : Nat} {v : Value} {L : List Nat} (h : TurnAt w base v n L) (hn : 0 < n) : ∃ g cap, v = .slice (some ⟨g, 0, none⟩) n cap ∧ base ≤ g := by
  obtain ⟨K, _, h2, h3, h4⟩ := h
  rcases h4 with ⟨_, h5⟩ | ⟨g, cap, cur, h5, hg, _⟩
  · omega
  · exact ⟨g, cap, h5, hg⟩
theorem own_cell {w : World} {base n g cap : Nat} {K : List Nat} (h3 : w.ownsRow base 23 1 (.slice (some ⟨g, 0, none⟩) n cap) n ((iU K).map (Value.int .u64))) (i : Nat) (hi : i < n) : w.cell? ⟨g, i, none⟩ = some (.int .u64 ((K.getD i 0 : Nat) : Int)) := by
  obtain ⟨a, c, e, hs, _⟩ := ownU_sl h3 Try.underlying22 Try.sizeU64
  injection e with e
  have := hs.cell i hi
  rw [← e, show adOf (some ⟨g, 0, none⟩) i = ⟨g, i, none⟩ by simp [adOf, add_plain], getD_iU] at this
  exact this
theorem own_fz {w : World} {base n g cap : Nat} {K : List Value} (h3 : w.ownsRow base 23 1 (.slice (some ⟨g, 0, none⟩) n cap) n K) (i : Nat) : w.frozen? ⟨g, i, none⟩ = false := by
  obtain ⟨_, h4⟩ := h3
  rcases h4 with ⟨h5, _⟩ | ⟨g', cap', cur, h5, _, hcell, _⟩
  · cases h5
  · injection h5 with h5
    injection h5 with h5
    injection h5 with h5
    subst h5
    exact frozen_of_row w g i _ _ hcell
theorem TurnAt.at {w : World} {base n g cap : Nat} {L : List Nat} (h : TurnAt w base (.slice (some ⟨g, 0, none⟩) n cap) n L) :
    ∃ K : List Nat, (∀ i, i < n → w.cell? ⟨g, i, none⟩ = some (.int .u64 ((K.getD i 0 : Nat) : Int))) ∧ (∀ i, w.frozen? ⟨g, i, none⟩ = false) ∧
      (∀ i j, i < n → j < n → (w.setCell ⟨g, i, none⟩ (.int .u64 ((K.getD j 0 : Nat) : Int))).cell? ⟨g, j, none⟩ = some (.int .u64 ((K.getD j 0 : Nat) : Int))) ∧
      (∀ i j, (w.setCell ⟨g, i, none⟩ (.int .u64 ((K.getD j 0 : Nat) : Int))).frozen? ⟨g, j, none⟩ = false) ∧
      ∀ i j, i < n → j < n → TurnAt ((w.setCell ⟨g, i, none⟩ (.int .u64 ((K.getD j 0 : Nat) : Int))).setCell ⟨g, j, none⟩ (.int .u64 ((K.getD i 0 : Nat) : Int))) base (.slice (some ⟨g, 0, none⟩) n cap) n L := by
  obtain ⟨K, h1, h2, h3⟩ := h
  have k0 := fun i j : Nat => owns_put h3 i ((K.getD j 0 : Nat) : Int)
  refine ⟨K, own_cell h3, own_fz h3, fun i j hi hj => ?_, fun i j => own_fz (k0 i j) j, fun i j hi hj => ?_⟩
  · have k1 := k0 i j
    rw [iU_set] at k1
    rw [own_cell k1 j hj]
    congr 3
    by_cases e : i = j
    · subst e
      simp [List.getD_eq_getElem?_getD, h2, hi]
    · simp [List.getD_eq_getElem?_getD, e]
  · have k1 := k0 i j
    rw [iU_set] at k1
    have k2 := owns_put k1 j ((K.getD i 0 : Nat) : Int)
    rw [iU_set] at k2
    exact ⟨_, fun x => (swap_mem (by omega) (by omega) x).trans (h1 x), by simpa using h2, k2⟩
set_option maxRecDepth 100000 in
set_option maxHeartbeats 8000000 in
theorem Try.setsOrder_any (hC : SetC) (a : Option Addr) (n c : Nat) (L : List Nat) (b : Option Addr) (m d : Nat) (zs : List Int) (w : World) (hA : USl w a n c L) (sA : Sm L) (hZ : IntSl Try.prog 39 .i64 w b m d zs) :
    Calls Try.prog 6 #[.slice a n c, .slice b m d] w (BR true w) := by
  have HC : Hid SetC := hC
  have bda := Nat.le_trans hA.hcap hA.bd
  have bdb := Nat.le_trans hZ.hcap hZ.bd
  unfold maxLen at bda bdb
  have HLA : Hid (n = L.length) := hA.len
  have HA : Hid (USl w a n c L) := hA
  have HZ : Hid (IntSl Try.prog 39 .i64 w b m d zs) := hZ
  have HSA : Hid (Sm L) := sA
  have j0 := Try.sawake_any hC w
  clear hC hA sA hZ
  go_enter Try.func6, Try.ntmps6
  go_wp2_with fail
  refine j0.mono ?_
  rintro e w1 ⟨rfl, hb1⟩
  have HX1 : Hid (Below w.heap.size w w1) := hb1
  clear j0 hb1
  by_cases h30 : n ≤ 30
  · have h30' : ¬ (30 : Int) < (n : Int) := by omega
    have j1 := Try.copyU_any a n c (iU L) w1 (HA.out.up HX1.out) (by omega)
    go_wp2_with fail
    refine j1.mono ?_
    rintro e w2 ⟨v, rfl, ho, hb2, hvn⟩
    have HVN : Hid (a = none → ∃ g, v = .slice (some ⟨g, 0, none⟩) 0 0) := hvn
    have HX2 : Hid (Below w1.heap.size w1 w2) := hb2
    have HT2 : Hid (TurnAt w2 w1.heap.size v n L) := ⟨L, fun _ => Iff.rfl, HLA.out.symm, ho⟩
    clear j1 ho hb2 hvn
    go_wp2_with fail
    go_loopw [7] (fun i wr => ∃ k : Nat, k ≤ 60 ∧ i = .int .i64 (k : Int) ∧ Hid (TurnAt wr w1.heap.size v n L) ∧ Hid (Below w1.heap.size w1 wr)) (fun i _ => 61 - (intOf i).toNat)
    case atStart => exact ⟨0, by omega, rfl, HT2, HX2⟩
    case round =>
      obtain ⟨k, hk, rfl, HT, HX⟩ := hrel
      clear HT2 HX2
      obtain ⟨q, hq⟩ : ∃ q : Bool, q = (decide (k < m) && decide (k < 60) && decide (0 < n)) := ⟨_, rfl⟩
      have HQ : Hid (q = (decide (k < m) && decide (k < 60) && decide (0 < n))) := hq
      clear hq
      go_upto_region 6 with fail
      go_cut [29] (fun cv wx => cv = .bool q ∧ wx = wr)
      case first =>
        by_cases h1 : k < m
        · have h1' : (k : Int) < (m : Int) := by omega
          by_cases h2 : k < 60
          · have h2' : (k : Int) < 60 := by omega
            by_cases h3 : 0 < n
            · have h3' : (0 : Int) < (n : Int) := by omega
              obtain rfl : q = true := by rw [HQ.out]; simp [h1, h2, h3]
              clear HQ
              go_wp2_with fail
              go_meet
              exact ⟨rfl, rfl⟩
            · have h3' : ¬ (0 : Int) < (n : Int) := by omega
              obtain rfl : q = false := by rw [HQ.out]; simp [h3]
              clear HQ
              go_wp2_with fail
              go_meet
              exact ⟨rfl, rfl⟩
          · have h2' : ¬ (k : Int) < 60 := by omega
            obtain rfl : q = false := by rw [HQ.out]; simp [h2]
            clear HQ
            go_wp2_with fail
            go_meet
            exact ⟨rfl, rfl⟩
        · have h1' : ¬ (k : Int) < (m : Int) := by omega
          obtain rfl : q = false := by rw [HQ.out]; simp [h1]
          clear HQ
          go_wp2_with fail
          go_meet
          exact ⟨rfl, rfl⟩
      case rest =>
        obtain ⟨rfl, rfl⟩ := hcut
        cases q with
        | true =>
          have HK : Hid (k < m ∧ k < 60 ∧ 0 < n) := by
            have := HQ.out.symm
            simp only [Bool.and_eq_true, decide_eq_true_eq] at this
            exact ⟨this.1.1, this.1.2, this.2⟩
          obtain ⟨k1, k2, k3⟩ := HK.out
          obtain ⟨g, cap, rfl, hg⟩ := HT.out.open k3
          have hz := (HZ.out.up HX1.out).later HX.out (fun i hi => Nat.lt_of_lt_of_le (HZ.out.blk i hi) HX1.out.size)
          have hzc := hz.cell k k1
          have hzi := fun w' => hz.idx m k w' k1 (Nat.le_refl _)
          generalize zs.getD k 0 = z at *
          obtain ⟨r, hr, hpk⟩ := Try.spick_any z n (by omega) (by omega)
          obtain ⟨r0, hr0⟩ : ∃ r0, r0 = k % n := ⟨_, rfl⟩
          have hr0n : r0 < n := by rw [hr0]; exact Nat.mod_lt _ k3
          have tm : ((k : Int).tmod (n : Int)) = (r0 : Int) := by rw [hr0]; rfl
          have wm : IntKind.i64.wrap (r0 : Int) = (r0 : Int) := by rw [IntKind.wrap_i64]; omega
          have hn0 : ¬ ((n : Int) = 0) := by omega
          clear hz hr0 HQ HK
          go_upto_region 8 with fail
          go_quiet ((go_at_call 28; exact Calls.quiet_of_same (hpk _)))
          have HT3 : Hid (TurnAt (wc.drewN nq) w1.heap.size (.slice (some ⟨g, 0, none⟩) n cap) n L) := TurnAt.drewN HT.out nq
          have HX3 : Hid (Below w1.heap.size w1 (wc.drewN nq)) := below_drewN HX.out nq
          clear HT HX hzc hzi hpk tm wm hn0
          generalize wc.drewN nq = w3 at *
          obtain ⟨K, hcell, hfz, hcell2, hfz2, hput⟩ := TurnAt.at HT3.out
          have c5 := hcell2 r0 r hr0n hr
          have f5 := hfz2 r0 r
          have c3 := hcell r0 hr0n
          have c4 := hcell r hr
          have f3 := hfz r0
          have f4 := hfz r
          have hix : ∀ (i : Nat) (w' : World), i < n → (Instr.indexAt 22 (.slice (some ⟨g, 0, none⟩) n cap) (.int .i64 i)).run Try.prog w' = .ok (.pointer (some ⟨g, i, none⟩)) w' := fun i w' hi => by
            have := idx_of (cap := cap) (a := some ⟨g, 0, none⟩) Try.underlying22 Try.sizeU64 (by simp) i w' hi
            rwa [show adOf (some ⟨g, 0, none⟩) i = ⟨g, i, none⟩ by simp [adOf, add_plain]] at this
          have i3 := fun w' => hix r0 w' hr0n
          have i4 := fun w' => hix r w' hr
          have HT4 : Hid (TurnAt ((w3.setCell ⟨g, r0, none⟩ (.int .u64 ((K.getD r 0 : Nat) : Int))).setCell ⟨g, r, none⟩ (.int .u64 ((K.getD r0 0 : Nat) : Int))) w1.heap.size (.slice (some ⟨g, 0, none⟩) n cap) n L) := hput r0 r hr0n hr
          have HX4 : Hid (Below w1.heap.size w1 ((w3.setCell ⟨g, r0, none⟩ (.int .u64 ((K.getD r 0 : Nat) : Int))).setCell ⟨g, r, none⟩ (.int .u64 ((K.getD r0 0 : Nat) : Int)))) := (HX3.out.setCell hg _).setCell hg _
          clear hcell hfz hcell2 hfz2 hput hix HT3 HX3
          generalize ((K.getD r0 0 : Nat) : Int) = y0 at *
          generalize ((K.getD r 0 : Nat) : Int) = y1 at *
          go_upto_region 9 with fail
          go_region
          all_goals
            have HT5 : Hid (TurnAt ((w3.setCell ⟨g, r0, none⟩ (.int .u64 y1)).setCell ⟨g, r, none⟩ (.int .u64 y0)).drew w1.heap.size (.slice (some ⟨g, 0, none⟩) n cap) n L) := TurnAt.drewN HT4.out 1
            have HX5 : Hid (Below w1.heap.size w1 ((w3.setCell ⟨g, r0, none⟩ (.int .u64 y1)).setCell ⟨g, r, none⟩ (.int .u64 y0)).drew) := HX4.out.drew
            clear HT4 HX4 c3 c4 c5 f3 f4 f5 i3 i4
            generalize ((w3.setCell ⟨g, r0, none⟩ (.int .u64 y1)).setCell ⟨g, r, none⟩ (.int .u64 y0)).drew = w4 at *
            go_wp2
            go_roundw
            case rel => exact ⟨k + 1, by omega, by go_num, HT5, HX5⟩
            case measure => simp [intOf]; omega
        | false =>
          obtain ⟨i0, hi, hz0, hz1, hz2⟩ := info_parts Try.infoU64
          have HI : Hid (Try.prog.info? 23 = some i0) := hi
          have HZ0 : Hid (i0.zero = some (.int .u64 0)) := hz0
          have HZ1 : Hid (i0.size = 1) := hz1
          have HZ2 : Hid (i0.bytes = 8) := hz2
          clear hi hz0 hz1 hz2 HQ
          obtain ⟨K, hmem, hKn, hown⟩ := HT.out
          have HM : Hid (∀ x, x ∈ K ↔ x ∈ L) := hmem
          have HKN : Hid (K.length = n) := hKn
          have hUa := (HA.out.up HX1.out).later HX.out (fun i hi => Nat.lt_of_lt_of_le (HA.out.blk i hi) HX1.out.size)
          have HUA : Hid (USl wc a n c L) := hUa
          have HEND : Hid (∀ (v' : Value) (w' : World) (nn : Nat), nn = n + n → w'.ownsRow w1.heap.size 23 1 v' nn ((iU K).map (Value.int .u64) ++ (iU L).map (Value.int .u64)) → Below w1.heap.size w1 w' → ∃ a' c', v' = .slice a' nn c' ∧ VL w' a' nn c' (K ++ L) 60) := fun v' w' nn hnn h1 h2 => by
            rw [← List.map_append, show iU K ++ iU L = iU (K ++ L) by simp [iU]] at h1
            obtain ⟨a', c', e, hs, _⟩ := ownU_sl h1 Try.underlying22 Try.sizeU64
            exact ⟨a', c', e, hs, sm_append (fun x hx => HSA.out x ((HM.out x).1 hx)) HSA.out, by omega⟩
          have HBB : Hid (∀ (w' : World), wc.grownBy w' v.ownBlock → Below w1.heap.size w1 w') := fun w' hg => HX.out.grown hg HX.out.size (fun k hk => by
            obtain ⟨_, h4⟩ := hown
            rcases h4 with ⟨h5, _⟩ | ⟨g, cap, cur, h5, hgb, _⟩
            · rw [h5] at hk; cases hk
            · rw [h5] at hk
              simp [Value.ownBlock] at hk
              omega)
          clear hmem hKn
          go_upto_region 10 with fail
          go_cut [6] (fun tv wx => ∃ (a' : Option Addr) (nn c' : Nat), tv = .slice a' nn c' ∧ Hid (VL wx a' nn c' (K ++ L) 60) ∧ Hid (Below w1.heap.size w1 wx))
          case first =>
            cases a with
            | none =>
              obtain ⟨g, rfl⟩ := HVN.out rfl
              have hc0 := hUa.nn rfl
              have hn0 : n = 0 := by have := hUa.hcap; omega
              subst hc0 hn0
              obtain rfl : L = [] := List.eq_nil_of_length_eq_zero HLA.out.symm
              clear hUa
              go_wp2_with (at_builtin; refine wpList_append_fits_any _ rfl _ _ 22 rfl w1.heap.size 23 i0 1 Try.underlying22 HI.out HZ1.out g 0 0 _ rfl hown none 0 0 [] rfl rfl (fun _ => ⟨rfl, rfl⟩) (fun _ h => by cases h) (fun _ h => by cases h) (Nat.le_refl _) ?_)
              intro w5 hown1 hgrow1
              have HB5 : Hid (Below w1.heap.size w1 w5) := HBB.out w5 hgrow1
              have HE : Hid _ := HEND.out _ w5 _ rfl (by simpa using hown1) HB5.out
              clear hown1 hgrow1 hown
              obtain ⟨a', c', he, hv⟩ := HE.out
              have HV : Hid _ := hv
              have HHE : Hid (_ = _) := he
              clear hv he
              go_wp2
              go_meet
              exact ⟨_, _, _, HHE.out, HV, HB5⟩
            | some x =>
              have hnews : ∀ j u, ((iU L).map (Value.int .u64))[j]? = some u → wc.cell? (x.add j) = some u := by
                intro j u hj
                have hjl : j < (iU L).length := by have := (List.getElem?_eq_some_iff.1 hj).1; simpa using this
                have hc := hUa.cell j (by rw [← hUa.hlen]; exact hjl)
                have e : u = .int .u64 ((iU L).getD j 0) := by
                  rw [List.getElem?_map, List.getElem?_eq_getElem hjl] at hj
                  simp only [List.getD_eq_getElem?_getD, List.getElem?_eq_getElem hjl]
                  simpa using hj.symm
                rw [e]; exact hc
              have hlz : ((iU L).map (Value.int .u64)).length = n * 1 := by rw [List.length_map, hUa.hlen, Nat.mul_one]
              clear hUa
              go_wp2_with (at_builtin; refine wpList_append_own _ rfl _ _ 22 rfl w1.heap.size 23 i0 (.int .u64 0) 1 8 Try.underlying22 HI.out HZ0.out HZ1.out HZ2.out rfl (by decide) v n _ rfl hown x n c ((iU L).map (Value.int .u64)) rfl hlz hnews (ints_oneCell .u64 (iU L)) (by unfold maxLen; omega) (by omega) HX.out.size ?_)
              intro v' w5 hown1 hgrow1 _
              have HB5 : Hid (Below w1.heap.size w1 w5) := HBB.out w5 hgrow1
              have HE : Hid _ := HEND.out v' w5 _ rfl (by simpa using hown1) HB5.out
              clear hown1 hgrow1 hown hnews hlz
              obtain ⟨a', c', rfl, hv⟩ := HE.out
              have HV : Hid _ := hv
              clear hv
              go_wp2
              go_meet
              exact ⟨_, _, _, rfl, HV, HB5⟩
          case rest =>
            obtain ⟨a', nn, c', rfl, HV, HB5⟩ := hcut
            clear HBB HEND hown hUa HVN HT
            generalize wc = w5 at *
            have j3 := VL.least HC.out HV.out (by decide)
            go_wp2_with fail
            refine j3.mono ?_
            rintro e w6 ⟨x1, n1, c1, rfl, hv1, hb6⟩
            have HB6 : Hid (Below w1.heap.size w1 w6) := below_step HB5.out hb6
            have HV1 : Hid (VL w6 x1 n1 c1 (leastL (K ++ L)) 60) := hv1
            have hVa : VL w6 a n c L 60 := ⟨(HA.out.up HX1.out).up HB6.out, HSA.out, by omega⟩
            have j4 := VL.least HC.out hVa (by decide)
            clear j3 hv1 hb6 hVa
            go_wp2_with fail
            refine j4.mono ?_
            rintro e w7 ⟨x2, n2, c2, rfl, hv2, hb7⟩
            have HB7 : Hid (Below w1.heap.size w1 w7) := below_step HB6.out hb7
            have j5 := VL.same HC.out (HV1.out.up hb7) hv2 (ring_mem fun x => by
              rw [List.mem_append]
              exact ⟨fun h => h.elim (HM.out x).1 id, Or.inr⟩)
            clear j4 hv2 hb7
            go_wp2_with fail
            refine j5.mono ?_
            rintro e w8 ⟨rfl, hb8⟩
            have HZZ : Hid (Below w.heap.size w w8) := below_step HX1.out (below_step HB7.out hb8)
            clear j5 hb8
            go_wp2_with fail
            go_ret
            exact ⟨rfl, HZZ.out⟩
  · have h30' : (30 : Int) < (n : Int) := by omega
    go_wp2_with fail
    go_ret
    exact ⟨rfl, HX1.out⟩
end Go.Proofs.Ytllcjmaecgfijaa
