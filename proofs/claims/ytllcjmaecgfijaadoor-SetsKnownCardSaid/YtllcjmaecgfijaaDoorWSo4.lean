/- The library's sort at []uint64: partition, partitionEqual. -/
import Derived.Test.YtllcjmaecgfijaaDoorWSo3
namespace Go.Proofs.YtllcjmaecgfijaaDoor
open Go.RowKit Go.Maps
open Go.Sort (swp PermIn SortedIn)

/-- What partition's loops keep. -/
structure PI (d0 : Array Int) (a b i j : Nat) (d : Array Int) (p : Int) : Prop where
  sz : d.size = d0.size
  perm : PermIn a b d0 d
  piv : d[a]! = p
  ia : a + 1 ≤ i
  ij : i ≤ j + 1
  jb : j < b
  lo : ∀ x, a < x → x < i → lt64 d[x]! p = true
  hi : ∀ x, j < x → x < b → lt64 d[x]! p = false
theorem PI.up {d0 : Array Int} {a b i j : Nat} {d : Array Int} {p : Int} (h : PI d0 a b i j d p) (hij : i ≤ j) (hl : lt64 d[i]! p = true) : PI d0 a b (i + 1) j d p :=
  ⟨h.sz, h.perm, h.piv, by have := h.ia; omega, by omega, h.jb, fun x h1 h2 => by
    by_cases e : x = i
    · subst e; exact hl
    · exact h.lo x h1 (by omega), h.hi⟩
theorem PI.down {d0 : Array Int} {a b i j : Nat} {d : Array Int} {p : Int} (h : PI d0 a b i (j + 1) d p) (hij : i ≤ j + 1) (hl : lt64 d[j + 1]! p = false) : PI d0 a b i j d p :=
  ⟨h.sz, h.perm, h.piv, h.ia, hij, by have := h.jb; omega, h.lo, fun x h1 h2 => by
    by_cases e : x = j + 1
    · subst e; exact hl
    · exact h.hi x (by omega) h2⟩
theorem PI.swap {d0 : Array Int} {a b i j : Nat} {d : Array Int} {p : Int} (h : PI d0 a b i (j + 1) d p) (hb : b ≤ d0.size) (hij : i ≤ j + 1) (h1 : lt64 d[i]! p = false) (h2 : lt64 d[j + 1]! p = true) : PI d0 a b (i + 1) j (swp d i (j + 1)) p := by
  have hne : i ≠ j + 1 := fun e => by subst e; rw [h1] at h2; cases h2
  have hia := h.ia
  have hjb := h.jb
  have hsz := h.sz
  refine ⟨by rw [Go.Sort.size_swp, hsz], Go.Sort.permIn_trans _ _ _ _ _ h.perm (Go.Sort.swp_permIn d a b i (j + 1) (by omega) (by omega) (by omega) hjb (by omega)), ?_, by omega, by omega, by omega, fun x k1 k2 => ?_, fun x k1 k2 => ?_⟩
  · rw [Go.Sort.swp_other _ _ _ _ (by omega) (by omega)]; exact h.piv
  · by_cases e : x = i
    · subst e
      rw [Go.Sort.swp_left _ _ _ (by omega) hne]; exact h2
    · rw [Go.Sort.swp_other _ _ _ _ e (by omega)]; exact h.lo x k1 (by omega)
  · by_cases e : x = j + 1
    · subst e
      rw [Go.Sort.swp_right _ _ _ (by omega)]; exact h1
    · rw [Go.Sort.swp_other _ _ _ _ (by omega) e]; exact h.hi x (by omega) k2
/-- What partition answers. -/
structure Parted (d0 : Array Int) (a b m : Nat) (d : Array Int) : Prop where
  sz : d.size = d0.size
  ma : a ≤ m
  mb : m < b
  perm : PermIn a b d0 d
  lo : ∀ x, a ≤ x → x < m → lt64 d[x]! d[m]! = true
  hi : ∀ x, m < x → x < b → lt64 d[x]! d[m]! = false
theorem PI.fin {d0 : Array Int} {a b i j : Nat} {d : Array Int} {p : Int} (h : PI d0 a b i j d p) (hb : b ≤ d0.size) (hij : ¬ i ≤ j) : Parted d0 a b j (swp d j a) := by
  have hia := h.ia
  have h0 := h.ij
  have hjb := h.jb
  have hsz := h.sz
  have e0 : i = j + 1 := by omega
  subst e0
  have hj : (swp d j a)[j]! = p := by
    by_cases e : j = a
    · subst e; rw [Go.Sort.swp_right _ _ _ (by omega)]; exact h.piv
    · rw [Go.Sort.swp_left _ _ _ (by omega) e]; exact h.piv
  refine ⟨by rw [Go.Sort.size_swp, hsz], by omega, hjb, Go.Sort.permIn_trans _ _ _ _ _ h.perm (Go.Sort.swp_permIn d a b j a (by omega) hjb (Nat.le_refl _) (by omega) (by omega)), fun x k1 k2 => ?_, fun x k1 k2 => ?_⟩
  · rw [hj]
    by_cases e : x = a
    · subst e
      rw [Go.Sort.swp_right _ _ _ (by omega)]
      exact h.lo j (by omega) (by omega)
    · rw [Go.Sort.swp_other _ _ _ _ (by omega) e]
      exact h.lo x (by omega) (by omega)
  · rw [hj, Go.Sort.swp_other _ _ _ _ (by omega) (by omega)]
    exact h.hi x k1 k2
theorem pi_start {d0 : Array Int} {a b q : Nat} (hab : a < b) (hb : b ≤ d0.size) (hq1 : a ≤ q) (hq2 : q < b) : PI d0 a b (a + 1) (b - 1) (swp d0 a q) (swp d0 a q)[a]! :=
  ⟨Go.Sort.size_swp _ _ _, Go.Sort.swp_permIn d0 a b a q (Nat.le_refl _) hab hq1 hq2 hb, rfl, Nat.le_refl _, by omega, by omega, fun x h1 h2 => by omega, fun x h1 h2 => by omega⟩
/-! ### the walks (by mkso4.py) -/
set_option maxRecDepth 100000 in
set_option maxHeartbeats 8000000 in
theorem Tryd.part_any (g c a b q0 : Nat) (d0 : Array Int) (t : List Int) (w : World) (h : SoAt w g d0 t) (hab : a < b) (hb : b ≤ d0.size) (hq1 : a ≤ q0) (hq2 : q0 < b) (hn : d0.size ≤ 1000000) :
    Calls Tryd.prog 40 #[.slice (some ⟨g, 0, none⟩) d0.size c, .int .i64 (a : Int), .int .i64 (b : Int), .int .i64 (q0 : Int)] w fun e w' => ∃ (m : Nat) (f : Bool) (d1 : Array Int), e = .returned (.tuple #[.int .i64 (m : Int), .bool f]) ∧ Parted d0 a b m d1 ∧ SoAt w' g d1 t ∧ w.grownBy w' (some g) := by
  obtain ⟨N, hN⟩ : ∃ N, d0.size = N := ⟨_, rfl⟩
  have HS0 : Hid (SoAt w g d0 t) := h
  have HD0 : Hid (d0.size = N) := hN
  have HG0 : Hid (w.grownBy w (some g)) := World.grownBy.refl _ _
  have HP0 : Hid _ := pi_start hab hb hq1 hq2
  obtain ⟨J, hJ⟩ : ∃ J, b - 1 = J := ⟨_, rfl⟩
  rw [hJ] at HP0
  have HB : Hid (b ≤ d0.size) := hb
  rw [hN] at hb hn ⊢
  clear h hN
  go_enter Tryd.func40, Tryd.ntmps40
  have wi : IntKind.i64.wrap ((a : Int) + 1) = ((a + 1 : Nat) : Int) := by rw [IntKind.wrap_i64]; omega
  have wj : IntKind.i64.wrap ((b : Int) - 1) = (J : Int) := by rw [IntKind.wrap_i64]; omega
  have ej : (b : Int) - 1 = (J : Int) := by omega
  clear hJ
  go_wp2
  obtain ⟨p, hp⟩ : ∃ p, (swp d0 a q0)[a]! = p := ⟨_, rfl⟩
  rw [hp] at HP0
  clear hp
  have hi1 := fun w' => Tryd.idxSo g N c a w' (by omega)
  have hi2 := fun w' => Tryd.idxSo g N c q0 w' (by omega)
  have hsw : SoAt w g d0 t := HS0.out
  have c3 := hsw.cell (i := a) (by rw [HD0.out]; omega)
  have c4 := hsw.cell (i := q0) (by rw [HD0.out]; omega)
  have f3 := hsw.fz a
  have f4 := hsw.fz q0
  have hswb : SoAt (w.setCell ⟨g, a, none⟩ (.int .u64 d0[q0]!)) g (d0.setIfInBounds a d0[q0]!) t := hsw.set (by rw [HD0.out]; omega) _
  have f5 := hswb.fz q0
  have c5 := hswb.cell (i := q0) (by rw [Array.size_setIfInBounds, HD0.out]; omega)
  have HSa1 : Hid (SoAt ((w.setCell ⟨g, a, none⟩ (.int .u64 d0[q0]!)).setCell ⟨g, q0, none⟩ (.int .u64 d0[a]!)) g (swp d0 a q0) t) := hsw.swap (by rw [HD0.out]; omega) (by rw [HD0.out]; omega)
  have HGa1 : Hid (w.grownBy ((w.setCell ⟨g, a, none⟩ (.int .u64 d0[q0]!)).setCell ⟨g, q0, none⟩ (.int .u64 d0[a]!)) (some g)) := grown_set (grown_set HG0.out _) _
  have HD1 : Hid ((swp d0 a q0).size = N) := by show _ = _; rw [Go.Sort.size_swp]; exact HD0.out
  clear hsw hswb
  generalize (d0.setIfInBounds a d0[q0]!)[q0]! = ysw at *
  generalize d0[a]! = xi at *
  generalize d0[q0]! = xj at *
  go_upto_region 15 with fail
  go_region
  all_goals
    have HS1 : Hid (SoAt ((w.setCell ⟨g, a, none⟩ (.int .u64 xj)).setCell ⟨g, q0, none⟩ (.int .u64 xi)).drew g (swp d0 a q0) t) := SoAt.drew HSa1.out
    have HG1 : Hid (w.grownBy ((w.setCell ⟨g, a, none⟩ (.int .u64 xj)).setCell ⟨g, q0, none⟩ (.int .u64 xi)).drew (some g)) := grown_drew HGa1.out
    clear HSa1 HGa1 c3 c4 f3 f4 f5 c5 hi1 hi2
    generalize ((w.setCell ⟨g, a, none⟩ (.int .u64 xj)).setCell ⟨g, q0, none⟩ (.int .u64 xi)).drew = w1 at *
    generalize swp d0 a q0 = d1 at *
    go_wp2
    clear wi wj ej
    go_loopw [10] (fun sv wr => ∃ i : Nat, sv = .int .i64 (i : Int) ∧ Hid (PI d0 a b i J d1 p) ∧ Hid (SoAt wr g d1 t) ∧ Hid (w.grownBy wr (some g)) ∧ Hid (a + 1 ≤ i)) (fun sv _ => N + 1 - (intOf sv).toNat)
    case atStart => exact ⟨a + 1, by first | rfl | go_num, HP0, HS1, HG1, Nat.le_refl _⟩
    case round =>
      obtain ⟨i, rfl, HP2, HSr2, HGr2, HL2⟩ := hrel
      have bL := HL2.out
      clear HP0 HS1 HG1
      have b1 := HP2.out.ia
      have b2 := HP2.out.ij
      have b3 := HP2.out.jb
      obtain ⟨q, hq⟩ : ∃ q : Bool, q = (decide (i ≤ J) && lt64 d1[i]! d1[a]!) := ⟨_, rfl⟩
      have HQ : Hid (q = (decide (i ≤ J) && lt64 d1[i]! d1[a]!)) := hq
      clear hq
      go_upto_region 15 with fail
      go_cut [43] (fun cv wx => cv = .bool q ∧ Hid (SoAt wx g d1 t) ∧ Hid (w.grownBy wx (some g)))
      case first =>
        by_cases hij : i ≤ J
        · have hd : decide ((i : Int) ≤ (J : Int)) = true := decide_eq_true (by omega)
          have hi1 := fun w' => Tryd.idxSo g N c i w' (by omega)
          have hi2 := fun w' => Tryd.idxSo g N c a w' (by omega)
          have hsw : SoAt wr g d1 t := HSr2.out
          have c3 := hsw.cell (i := i) (by rw [HD1.out]; omega)
          have c4 := hsw.cell (i := a) (by rw [HD1.out]; omega)
          have hless := fun w' => Tryd.less_any d1[i]! d1[a]! w'
          have HQ2 : Hid (q = (lt64 d1[i]! d1[a]!)) := by
            show _ = _
            rw [HQ.out, decide_eq_true hij]; rfl
          clear hsw HQ
          generalize lt64 d1[i]! d1[a]! = lv at *
          generalize d1[i]! = xv at *
          generalize d1[a]! = xa at *
          obtain rfl := HQ2.out
          go_quiet ((go_at_call 38; exact Calls.quiet_of_same (hless _)))
          go_wp2
          go_meet
          case rel => exact ⟨rfl, SoAt.drewN HSr2.out _, grown_drewN HGr2.out _⟩
        · have hd : decide ((i : Int) ≤ (J : Int)) = false := decide_eq_false (by omega)
          have HQ2 : Hid (q = false) := by
            show _ = _
            rw [HQ.out, decide_eq_false hij]; rfl
          clear HQ
          obtain rfl := HQ2.out
          go_quiet (fail)
          go_wp2
          go_meet
          case rel => exact ⟨rfl, SoAt.drewN HSr2.out _, grown_drewN HGr2.out _⟩
      case rest =>
        obtain ⟨rfl, HS2, HG2⟩ := hcut
        clear HSr2 HGr2
        cases q with
        | true =>
          have hq := HQ.out.symm
          rw [Bool.and_eq_true, decide_eq_true_eq] at hq
          have HPX : Hid (PI d0 a b (i + 1) J d1 p) := HP2.out.up hq.1 (by have h2 := hq.2; have h3 := HP2.out.piv; rw [← h3]; simpa using h2)
          clear HQ HP2
          go_wp2
          go_roundw
          case rel => exact ⟨i + 1, by go_num, HPX, HS2, HG2, by show _ ≤ _; omega⟩
          case measure => simp [intOf]; omega
        | false =>
          have HX2 : Hid (i ≤ J → lt64 d1[i]! d1[a]! = false) := fun h => by
            have := HQ.out
            rw [decide_eq_true h] at this
            simpa using this.symm
          clear HQ
          generalize wc = w2 at *
          go_wp2
          go_loopw [11] (fun sv wr => ∃ j : Nat, sv = .int .i64 (j : Int) ∧ Hid (PI d0 a b i j d1 p) ∧ Hid (SoAt wr g d1 t) ∧ Hid (w.grownBy wr (some g)) ∧ Hid (j ≤ J)) (fun sv _ => (intOf sv).toNat)
          case atStart => exact ⟨J, by first | rfl | go_num, HP2, HS2, HG2, Nat.le_refl _⟩
          case round =>
            obtain ⟨j, rfl, HP3, HSr3, HGr3, HL3⟩ := hrel
            have bL := HL3.out
            clear HP2 HS2 HG2
            have b1 := HP3.out.ia
            have b2 := HP3.out.ij
            have b3 := HP3.out.jb
            obtain ⟨q, hq⟩ : ∃ q : Bool, q = (decide (i ≤ j) && !lt64 d1[j]! d1[a]!) := ⟨_, rfl⟩
            have HQ : Hid (q = (decide (i ≤ j) && !lt64 d1[j]! d1[a]!)) := hq
            clear hq
            go_upto_region 15 with fail
            go_cut [60] (fun cv wx => cv = .bool q ∧ Hid (SoAt wx g d1 t) ∧ Hid (w.grownBy wx (some g)))
            case first =>
              by_cases hij : i ≤ j
              · have hd : decide ((i : Int) ≤ (j : Int)) = true := decide_eq_true (by omega)
                have hi1 := fun w' => Tryd.idxSo g N c j w' (by omega)
                have hi2 := fun w' => Tryd.idxSo g N c a w' (by omega)
                have hsw : SoAt wr g d1 t := HSr3.out
                have c3 := hsw.cell (i := j) (by rw [HD1.out]; omega)
                have c4 := hsw.cell (i := a) (by rw [HD1.out]; omega)
                have hless := fun w' => Tryd.less_any d1[j]! d1[a]! w'
                have HQ2 : Hid (q = !(lt64 d1[j]! d1[a]!)) := by
                  show _ = _
                  rw [HQ.out, decide_eq_true hij]; rfl
                clear hsw HQ
                generalize lt64 d1[j]! d1[a]! = lv at *
                generalize d1[j]! = xv at *
                generalize d1[a]! = xa at *
                obtain rfl := HQ2.out
                go_quiet ((go_at_call 38; exact Calls.quiet_of_same (hless _)))
                go_wp2
                go_meet
                case rel => exact ⟨rfl, SoAt.drewN HSr3.out _, grown_drewN HGr3.out _⟩
              · have hd : decide ((i : Int) ≤ (j : Int)) = false := decide_eq_false (by omega)
                have HQ2 : Hid (q = false) := by
                  show _ = _
                  rw [HQ.out, decide_eq_false hij]; rfl
                clear HQ
                obtain rfl := HQ2.out
                go_quiet (fail)
                go_wp2
                go_meet
                case rel => exact ⟨rfl, SoAt.drewN HSr3.out _, grown_drewN HGr3.out _⟩
            case rest =>
              obtain ⟨rfl, HS3, HG3⟩ := hcut
              clear HSr3 HGr3
              cases q with
              | true =>
                have hq := HQ.out.symm
                rw [Bool.and_eq_true, decide_eq_true_eq] at hq
                obtain ⟨jm, hjm⟩ : ∃ jm, j = jm + 1 := ⟨j - 1, by omega⟩
                have hdec : IntKind.i64.wrap ((j : Int) - 1) = (jm : Int) := by rw [IntKind.wrap_i64]; omega
                have HPX : Hid (PI d0 a b i jm d1 p) := by
                  subst hjm
                  exact HP3.out.down hq.1 (by have h2 := hq.2; have h3 := HP3.out.piv; rw [← h3]; simpa using h2)
                have hlt : jm < j := by omega
                clear HQ HP3 hjm hq
                go_wp2
                go_roundw
                case rel => exact ⟨jm, rfl, HPX, HS3, HG3, by show _ ≤ _; omega⟩
                case measure => simp [intOf]; omega
              | false =>
                have HX3 : Hid (i ≤ j → lt64 d1[j]! d1[a]! = true) := fun h => by
                  have := HQ.out
                  rw [decide_eq_true h] at this
                  simpa using this.symm
                clear HQ
                generalize wc = w3 at *
                by_cases hij : i ≤ j
                · have hij2 : ¬ (j : Int) < (i : Int) := by omega
                  obtain ⟨jm, hjm⟩ : ∃ jm, j = jm + 1 := ⟨j - 1, by omega⟩
                  have hdec : IntKind.i64.wrap ((j : Int) - 1) = (jm : Int) := by rw [IntKind.wrap_i64]; omega
                  have ejm : (j : Int) - 1 = (jm : Int) := by omega
                  have HPS : Hid (PI d0 a b (i + 1) jm (swp d1 i j) p) := by
                    have h1 := HX2.out (by omega)
                    have h2 := HX3.out hij
                    rw [HP3.out.piv] at h1 h2
                    subst hjm
                    exact HP3.out.swap HB.out hij h1 h2
                  clear HX2 HX3 HP3 hjm
                  go_wp2
                  have hi1 := fun w' => Tryd.idxSo g N c i w' (by omega)
                  have hi2 := fun w' => Tryd.idxSo g N c j w' (by omega)
                  have hsw : SoAt w3 g d1 t := HS3.out
                  have c3 := hsw.cell (i := i) (by rw [HD1.out]; omega)
                  have c4 := hsw.cell (i := j) (by rw [HD1.out]; omega)
                  have f3 := hsw.fz i
                  have f4 := hsw.fz j
                  have hswb : SoAt (w3.setCell ⟨g, i, none⟩ (.int .u64 d1[j]!)) g (d1.setIfInBounds i d1[j]!) t := hsw.set (by rw [HD1.out]; omega) _
                  have f5 := hswb.fz j
                  have c5 := hswb.cell (i := j) (by rw [Array.size_setIfInBounds, HD1.out]; omega)
                  have HSa4 : Hid (SoAt ((w3.setCell ⟨g, i, none⟩ (.int .u64 d1[j]!)).setCell ⟨g, j, none⟩ (.int .u64 d1[i]!)) g (swp d1 i j) t) := hsw.swap (by rw [HD1.out]; omega) (by rw [HD1.out]; omega)
                  have HGa4 : Hid (w.grownBy ((w3.setCell ⟨g, i, none⟩ (.int .u64 d1[j]!)).setCell ⟨g, j, none⟩ (.int .u64 d1[i]!)) (some g)) := grown_set (grown_set HG3.out _) _
                  have HD4 : Hid ((swp d1 i j).size = N) := by show _ = _; rw [Go.Sort.size_swp]; exact HD1.out
                  clear hsw hswb
                  generalize (d1.setIfInBounds i d1[j]!)[j]! = ysw at *
                  generalize d1[i]! = xi at *
                  generalize d1[j]! = xj at *
                  go_upto_region 15 with fail
                  go_region
                  all_goals
                    have HS4 : Hid (SoAt ((w3.setCell ⟨g, i, none⟩ (.int .u64 xj)).setCell ⟨g, j, none⟩ (.int .u64 xi)).drew g (swp d1 i j) t) := SoAt.drew HSa4.out
                    have HG4 : Hid (w.grownBy ((w3.setCell ⟨g, i, none⟩ (.int .u64 xj)).setCell ⟨g, j, none⟩ (.int .u64 xi)).drew (some g)) := grown_drew HGa4.out
                    clear HSa4 HGa4 c3 c4 f3 f4 f5 c5 hi1 hi2
                    generalize ((w3.setCell ⟨g, i, none⟩ (.int .u64 xj)).setCell ⟨g, j, none⟩ (.int .u64 xi)).drew = w4 at *
                    generalize swp d1 i j = d4 at *
                    go_wp2
                    clear hdec ejm
                    go_loopw [10, 11] (fun iv jv wr => ∃ i j : Nat, iv = .int .i64 (i : Int) ∧ jv = .int .i64 (j : Int) ∧ ∃ dm : Array Int, Hid (dm.size = N) ∧ Hid (PI d0 a b i j dm p) ∧ Hid (SoAt wr g dm t) ∧ Hid (w.grownBy wr (some g))) (fun iv jv _ => (intOf jv + 1 - intOf iv).toNat)
                    case atStart => exact ⟨i + 1, jm, by go_num, rfl, d4, HD4, HPS, HS4, HG4⟩
                    case round =>
                      obtain ⟨i0, j0, rfl, rfl, dm, HDm, HPm, HSm, HGm⟩ := hrel
                      clear HD4 HPS HS4 HG4 hij hij2 b1 b2 b3 bL
                      have a1 := HPm.out.ia
                      have a2 := HPm.out.ij
                      have a3 := HPm.out.jb
                      go_wp2
                      go_loopw [10] (fun sv wr => ∃ i : Nat, sv = .int .i64 (i : Int) ∧ Hid (PI d0 a b i j0 dm p) ∧ Hid (SoAt wr g dm t) ∧ Hid (w.grownBy wr (some g)) ∧ Hid (i0 ≤ i)) (fun sv _ => N + 1 - (intOf sv).toNat)
                      case atStart => exact ⟨i0, by first | rfl | go_num, HPm, HSm, HGm, Nat.le_refl _⟩
                      case round =>
                        obtain ⟨i, rfl, HP5, HSr5, HGr5, HL5⟩ := hrel
                        have bL := HL5.out
                        clear HPm HSm HGm
                        have b1 := HP5.out.ia
                        have b2 := HP5.out.ij
                        have b3 := HP5.out.jb
                        obtain ⟨q, hq⟩ : ∃ q : Bool, q = (decide (i ≤ j0) && lt64 dm[i]! dm[a]!) := ⟨_, rfl⟩
                        have HQ : Hid (q = (decide (i ≤ j0) && lt64 dm[i]! dm[a]!)) := hq
                        clear hq
                        go_upto_region 15 with fail
                        go_cut [112] (fun cv wx => cv = .bool q ∧ Hid (SoAt wx g dm t) ∧ Hid (w.grownBy wx (some g)))
                        case first =>
                          by_cases hij : i ≤ j0
                          · have hd : decide ((i : Int) ≤ (j0 : Int)) = true := decide_eq_true (by omega)
                            have hi1 := fun w' => Tryd.idxSo g N c i w' (by omega)
                            have hi2 := fun w' => Tryd.idxSo g N c a w' (by omega)
                            have hsw : SoAt wr g dm t := HSr5.out
                            have c3 := hsw.cell (i := i) (by rw [HDm.out]; omega)
                            have c4 := hsw.cell (i := a) (by rw [HDm.out]; omega)
                            have hless := fun w' => Tryd.less_any dm[i]! dm[a]! w'
                            have HQ2 : Hid (q = (lt64 dm[i]! dm[a]!)) := by
                              show _ = _
                              rw [HQ.out, decide_eq_true hij]; rfl
                            clear hsw HQ
                            generalize lt64 dm[i]! dm[a]! = lv at *
                            generalize dm[i]! = xv at *
                            generalize dm[a]! = xa at *
                            obtain rfl := HQ2.out
                            go_quiet ((go_at_call 38; exact Calls.quiet_of_same (hless _)))
                            go_wp2
                            go_meet
                            case rel => exact ⟨rfl, SoAt.drewN HSr5.out _, grown_drewN HGr5.out _⟩
                          · have hd : decide ((i : Int) ≤ (j0 : Int)) = false := decide_eq_false (by omega)
                            have HQ2 : Hid (q = false) := by
                              show _ = _
                              rw [HQ.out, decide_eq_false hij]; rfl
                            clear HQ
                            obtain rfl := HQ2.out
                            go_quiet (fail)
                            go_wp2
                            go_meet
                            case rel => exact ⟨rfl, SoAt.drewN HSr5.out _, grown_drewN HGr5.out _⟩
                        case rest =>
                          obtain ⟨rfl, HS5, HG5⟩ := hcut
                          clear HSr5 HGr5
                          cases q with
                          | true =>
                            have hq := HQ.out.symm
                            rw [Bool.and_eq_true, decide_eq_true_eq] at hq
                            have HPX : Hid (PI d0 a b (i + 1) j0 dm p) := HP5.out.up hq.1 (by have h2 := hq.2; have h3 := HP5.out.piv; rw [← h3]; simpa using h2)
                            clear HQ HP5
                            go_wp2
                            go_roundw
                            case rel => exact ⟨i + 1, by go_num, HPX, HS5, HG5, by show _ ≤ _; omega⟩
                            case measure => simp [intOf]; omega
                          | false =>
                            have HX5 : Hid (i ≤ j0 → lt64 dm[i]! dm[a]! = false) := fun h => by
                              have := HQ.out
                              rw [decide_eq_true h] at this
                              simpa using this.symm
                            clear HQ
                            generalize wc = w5 at *
                            go_wp2
                            go_loopw [11] (fun sv wr => ∃ j : Nat, sv = .int .i64 (j : Int) ∧ Hid (PI d0 a b i j dm p) ∧ Hid (SoAt wr g dm t) ∧ Hid (w.grownBy wr (some g)) ∧ Hid (j ≤ j0)) (fun sv _ => (intOf sv).toNat)
                            case atStart => exact ⟨j0, by first | rfl | go_num, HP5, HS5, HG5, Nat.le_refl _⟩
                            case round =>
                              obtain ⟨j, rfl, HP6, HSr6, HGr6, HL6⟩ := hrel
                              have bL := HL6.out
                              clear HP5 HS5 HG5
                              have b1 := HP6.out.ia
                              have b2 := HP6.out.ij
                              have b3 := HP6.out.jb
                              obtain ⟨q, hq⟩ : ∃ q : Bool, q = (decide (i ≤ j) && !lt64 dm[j]! dm[a]!) := ⟨_, rfl⟩
                              have HQ : Hid (q = (decide (i ≤ j) && !lt64 dm[j]! dm[a]!)) := hq
                              clear hq
                              go_upto_region 15 with fail
                              go_cut [129] (fun cv wx => cv = .bool q ∧ Hid (SoAt wx g dm t) ∧ Hid (w.grownBy wx (some g)))
                              case first =>
                                by_cases hij : i ≤ j
                                · have hd : decide ((i : Int) ≤ (j : Int)) = true := decide_eq_true (by omega)
                                  have hi1 := fun w' => Tryd.idxSo g N c j w' (by omega)
                                  have hi2 := fun w' => Tryd.idxSo g N c a w' (by omega)
                                  have hsw : SoAt wr g dm t := HSr6.out
                                  have c3 := hsw.cell (i := j) (by rw [HDm.out]; omega)
                                  have c4 := hsw.cell (i := a) (by rw [HDm.out]; omega)
                                  have hless := fun w' => Tryd.less_any dm[j]! dm[a]! w'
                                  have HQ2 : Hid (q = !(lt64 dm[j]! dm[a]!)) := by
                                    show _ = _
                                    rw [HQ.out, decide_eq_true hij]; rfl
                                  clear hsw HQ
                                  generalize lt64 dm[j]! dm[a]! = lv at *
                                  generalize dm[j]! = xv at *
                                  generalize dm[a]! = xa at *
                                  obtain rfl := HQ2.out
                                  go_quiet ((go_at_call 38; exact Calls.quiet_of_same (hless _)))
                                  go_wp2
                                  go_meet
                                  case rel => exact ⟨rfl, SoAt.drewN HSr6.out _, grown_drewN HGr6.out _⟩
                                · have hd : decide ((i : Int) ≤ (j : Int)) = false := decide_eq_false (by omega)
                                  have HQ2 : Hid (q = false) := by
                                    show _ = _
                                    rw [HQ.out, decide_eq_false hij]; rfl
                                  clear HQ
                                  obtain rfl := HQ2.out
                                  go_quiet (fail)
                                  go_wp2
                                  go_meet
                                  case rel => exact ⟨rfl, SoAt.drewN HSr6.out _, grown_drewN HGr6.out _⟩
                              case rest =>
                                obtain ⟨rfl, HS6, HG6⟩ := hcut
                                clear HSr6 HGr6
                                cases q with
                                | true =>
                                  have hq := HQ.out.symm
                                  rw [Bool.and_eq_true, decide_eq_true_eq] at hq
                                  obtain ⟨jm, hjm⟩ : ∃ jm, j = jm + 1 := ⟨j - 1, by omega⟩
                                  have hdec : IntKind.i64.wrap ((j : Int) - 1) = (jm : Int) := by rw [IntKind.wrap_i64]; omega
                                  have HPX : Hid (PI d0 a b i jm dm p) := by
                                    subst hjm
                                    exact HP6.out.down hq.1 (by have h2 := hq.2; have h3 := HP6.out.piv; rw [← h3]; simpa using h2)
                                  have hlt : jm < j := by omega
                                  clear HQ HP6 hjm hq
                                  go_wp2
                                  go_roundw
                                  case rel => exact ⟨jm, rfl, HPX, HS6, HG6, by show _ ≤ _; omega⟩
                                  case measure => simp [intOf]; omega
                                | false =>
                                  have HX6 : Hid (i ≤ j → lt64 dm[j]! dm[a]! = true) := fun h => by
                                    have := HQ.out
                                    rw [decide_eq_true h] at this
                                    simpa using this.symm
                                  clear HQ
                                  generalize wc = w6 at *
                                  by_cases hij : i ≤ j
                                  · have hij2 : ¬ (j : Int) < (i : Int) := by omega
                                    obtain ⟨jm, hjm⟩ : ∃ jm, j = jm + 1 := ⟨j - 1, by omega⟩
                                    have hdec : IntKind.i64.wrap ((j : Int) - 1) = (jm : Int) := by rw [IntKind.wrap_i64]; omega
                                    have ejm : (j : Int) - 1 = (jm : Int) := by omega
                                    have HPS : Hid (PI d0 a b (i + 1) jm (swp dm i j) p) := by
                                      have h1 := HX5.out (by omega)
                                      have h2 := HX6.out hij
                                      rw [HP6.out.piv] at h1 h2
                                      subst hjm
                                      exact HP6.out.swap HB.out hij h1 h2
                                    have hi0 : i0 ≤ i := HL5.out
                                    have hjj : jm < j0 := by omega
                                    clear HX5 HX6 HP6 hjm
                                    go_wp2
                                    have hi1 := fun w' => Tryd.idxSo g N c i w' (by omega)
                                    have hi2 := fun w' => Tryd.idxSo g N c j w' (by omega)
                                    have hsw : SoAt w6 g dm t := HS6.out
                                    have c3 := hsw.cell (i := i) (by rw [HDm.out]; omega)
                                    have c4 := hsw.cell (i := j) (by rw [HDm.out]; omega)
                                    have f3 := hsw.fz i
                                    have f4 := hsw.fz j
                                    have hswb : SoAt (w6.setCell ⟨g, i, none⟩ (.int .u64 dm[j]!)) g (dm.setIfInBounds i dm[j]!) t := hsw.set (by rw [HDm.out]; omega) _
                                    have f5 := hswb.fz j
                                    have c5 := hswb.cell (i := j) (by rw [Array.size_setIfInBounds, HDm.out]; omega)
                                    have HSa7 : Hid (SoAt ((w6.setCell ⟨g, i, none⟩ (.int .u64 dm[j]!)).setCell ⟨g, j, none⟩ (.int .u64 dm[i]!)) g (swp dm i j) t) := hsw.swap (by rw [HDm.out]; omega) (by rw [HDm.out]; omega)
                                    have HGa7 : Hid (w.grownBy ((w6.setCell ⟨g, i, none⟩ (.int .u64 dm[j]!)).setCell ⟨g, j, none⟩ (.int .u64 dm[i]!)) (some g)) := grown_set (grown_set HG6.out _) _
                                    have HD7 : Hid ((swp dm i j).size = N) := by show _ = _; rw [Go.Sort.size_swp]; exact HDm.out
                                    clear hsw hswb
                                    generalize (dm.setIfInBounds i dm[j]!)[j]! = ysw at *
                                    generalize dm[i]! = xi at *
                                    generalize dm[j]! = xj at *
                                    go_upto_region 15 with fail
                                    go_region
                                    all_goals
                                      have HS7 : Hid (SoAt ((w6.setCell ⟨g, i, none⟩ (.int .u64 xj)).setCell ⟨g, j, none⟩ (.int .u64 xi)).drew g (swp dm i j) t) := SoAt.drew HSa7.out
                                      have HG7 : Hid (w.grownBy ((w6.setCell ⟨g, i, none⟩ (.int .u64 xj)).setCell ⟨g, j, none⟩ (.int .u64 xi)).drew (some g)) := grown_drew HGa7.out
                                      clear HSa7 HGa7 c3 c4 f3 f4 f5 c5 hi1 hi2
                                      generalize ((w6.setCell ⟨g, i, none⟩ (.int .u64 xj)).setCell ⟨g, j, none⟩ (.int .u64 xi)).drew = w7 at *
                                      generalize swp dm i j = d7 at *
                                      go_wp2
                                      go_roundw
                                      case rel => exact ⟨i + 1, jm, by go_num, rfl, d7, HD7, HPS, HS7, HG7⟩
                                      case measure => simp [intOf]; omega
                                  · skip
                                    have HPT : Hid (Parted d0 a b j (swp dm j a)) := HP6.out.fin HB.out hij
                                    have hij' : (j : Int) < (i : Int) := by omega
                                    clear HP6
                                    go_wp2
                                    have hi1 := fun w' => Tryd.idxSo g N c j w' (by omega)
                                    have hi2 := fun w' => Tryd.idxSo g N c a w' (by omega)
                                    have hsw : SoAt w6 g dm t := HS6.out
                                    have c3 := hsw.cell (i := j) (by rw [HDm.out]; omega)
                                    have c4 := hsw.cell (i := a) (by rw [HDm.out]; omega)
                                    have f3 := hsw.fz j
                                    have f4 := hsw.fz a
                                    have hswb : SoAt (w6.setCell ⟨g, j, none⟩ (.int .u64 dm[a]!)) g (dm.setIfInBounds j dm[a]!) t := hsw.set (by rw [HDm.out]; omega) _
                                    have f5 := hswb.fz a
                                    have c5 := hswb.cell (i := a) (by rw [Array.size_setIfInBounds, HDm.out]; omega)
                                    have HSa8 : Hid (SoAt ((w6.setCell ⟨g, j, none⟩ (.int .u64 dm[a]!)).setCell ⟨g, a, none⟩ (.int .u64 dm[j]!)) g (swp dm j a) t) := hsw.swap (by rw [HDm.out]; omega) (by rw [HDm.out]; omega)
                                    have HGa8 : Hid (w.grownBy ((w6.setCell ⟨g, j, none⟩ (.int .u64 dm[a]!)).setCell ⟨g, a, none⟩ (.int .u64 dm[j]!)) (some g)) := grown_set (grown_set HG6.out _) _
                                    have HD8 : Hid ((swp dm j a).size = N) := by show _ = _; rw [Go.Sort.size_swp]; exact HDm.out
                                    clear hsw hswb
                                    generalize (dm.setIfInBounds j dm[a]!)[a]! = ysw at *
                                    generalize dm[j]! = xi at *
                                    generalize dm[a]! = xj at *
                                    go_upto_region 15 with fail
                                    go_region
                                    all_goals
                                      have HS8 : Hid (SoAt ((w6.setCell ⟨g, j, none⟩ (.int .u64 xj)).setCell ⟨g, a, none⟩ (.int .u64 xi)).drew g (swp dm j a) t) := SoAt.drew HSa8.out
                                      have HG8 : Hid (w.grownBy ((w6.setCell ⟨g, j, none⟩ (.int .u64 xj)).setCell ⟨g, a, none⟩ (.int .u64 xi)).drew (some g)) := grown_drew HGa8.out
                                      clear HSa8 HGa8 c3 c4 f3 f4 f5 c5 hi1 hi2
                                      generalize ((w6.setCell ⟨g, j, none⟩ (.int .u64 xj)).setCell ⟨g, a, none⟩ (.int .u64 xi)).drew = w8 at *
                                      generalize swp dm j a = d8 at *
                                      go_wp2
                                      go_ret2
                                      exact ⟨j, false, d8, rfl, HPT.out, HS8.out, HG8.out⟩
                · skip
                  have HPT : Hid (Parted d0 a b j (swp d1 j a)) := HP3.out.fin HB.out hij
                  have hij' : (j : Int) < (i : Int) := by omega
                  clear HP3
                  go_wp2
                  have hi1 := fun w' => Tryd.idxSo g N c j w' (by omega)
                  have hi2 := fun w' => Tryd.idxSo g N c a w' (by omega)
                  have hsw : SoAt w3 g d1 t := HS3.out
                  have c3 := hsw.cell (i := j) (by rw [HD1.out]; omega)
                  have c4 := hsw.cell (i := a) (by rw [HD1.out]; omega)
                  have f3 := hsw.fz j
                  have f4 := hsw.fz a
                  have hswb : SoAt (w3.setCell ⟨g, j, none⟩ (.int .u64 d1[a]!)) g (d1.setIfInBounds j d1[a]!) t := hsw.set (by rw [HD1.out]; omega) _
                  have f5 := hswb.fz a
                  have c5 := hswb.cell (i := a) (by rw [Array.size_setIfInBounds, HD1.out]; omega)
                  have HSa9 : Hid (SoAt ((w3.setCell ⟨g, j, none⟩ (.int .u64 d1[a]!)).setCell ⟨g, a, none⟩ (.int .u64 d1[j]!)) g (swp d1 j a) t) := hsw.swap (by rw [HD1.out]; omega) (by rw [HD1.out]; omega)
                  have HGa9 : Hid (w.grownBy ((w3.setCell ⟨g, j, none⟩ (.int .u64 d1[a]!)).setCell ⟨g, a, none⟩ (.int .u64 d1[j]!)) (some g)) := grown_set (grown_set HG3.out _) _
                  have HD9 : Hid ((swp d1 j a).size = N) := by show _ = _; rw [Go.Sort.size_swp]; exact HD1.out
                  clear hsw hswb
                  generalize (d1.setIfInBounds j d1[a]!)[a]! = ysw at *
                  generalize d1[j]! = xi at *
                  generalize d1[a]! = xj at *
                  go_upto_region 15 with fail
                  go_region
                  all_goals
                    have HS9 : Hid (SoAt ((w3.setCell ⟨g, j, none⟩ (.int .u64 xj)).setCell ⟨g, a, none⟩ (.int .u64 xi)).drew g (swp d1 j a) t) := SoAt.drew HSa9.out
                    have HG9 : Hid (w.grownBy ((w3.setCell ⟨g, j, none⟩ (.int .u64 xj)).setCell ⟨g, a, none⟩ (.int .u64 xi)).drew (some g)) := grown_drew HGa9.out
                    clear HSa9 HGa9 c3 c4 f3 f4 f5 c5 hi1 hi2
                    generalize ((w3.setCell ⟨g, j, none⟩ (.int .u64 xj)).setCell ⟨g, a, none⟩ (.int .u64 xi)).drew = w9 at *
                    generalize swp d1 j a = d9 at *
                    go_wp2
                    go_ret2
                    exact ⟨j, true, d9, rfl, HPT.out, HS9.out, HG9.out⟩
end Go.Proofs.YtllcjmaecgfijaaDoor
