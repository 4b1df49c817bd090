/- The library's sort at []uint64: partitionEqual. -/
import Derived.Test.YtllcjmaecgfijaaDoorWSo4
namespace Go.Proofs.YtllcjmaecgfijaaDoor
open Go.RowKit Go.Maps
open Go.Sort (swp PermIn SortedIn)

/-- What partitionEqual's loops keep. -/
structure PE (d0 : Array Int) (a b i j : Nat) (d : Array Int) (p : Int) : Prop where
  sz : d.size = d0.size
  perm : PermIn a b d0 d
  piv : d[a]! = p
  ia : a + 1 ≤ i
  ij : i ≤ j + 1
  jb : j < b
  lo : ∀ x, a ≤ x → x < i → lt64 p d[x]! = false
  hi : ∀ x, j < x → x < b → lt64 p d[x]! = true
theorem PE.up {d0 : Array Int} {a b i j : Nat} {d : Array Int} {p : Int} (h : PE d0 a b i j d p) (hij : i ≤ j) (hl : lt64 p d[i]! = false) : PE d0 a b (i + 1) j d p :=
  ⟨h.sz, h.perm, h.piv, by have := h.ia; omega, by omega, h.jb, fun x h1 h2 => by
    by_cases e : x = i
    · subst e; exact hl
    · exact h.lo x h1 (by omega), h.hi⟩
theorem PE.down {d0 : Array Int} {a b i j : Nat} {d : Array Int} {p : Int} (h : PE d0 a b i (j + 1) d p) (hij : i ≤ j + 1) (hl : lt64 p d[j + 1]! = true) : PE d0 a b i j d p :=
  ⟨h.sz, h.perm, h.piv, h.ia, hij, by have := h.jb; omega, h.lo, fun x h1 h2 => by
    by_cases e : x = j + 1
    · subst e; exact hl
    · exact h.hi x (by omega) h2⟩
theorem PE.swap {d0 : Array Int} {a b i j : Nat} {d : Array Int} {p : Int} (h : PE d0 a b i (j + 1) d p) (hb : b ≤ d0.size) (hij : i ≤ j + 1) (h1 : lt64 p d[i]! = true) (h2 : lt64 p d[j + 1]! = false) : PE d0 a b (i + 1) j (swp d i (j + 1)) p := by
  have hne : i ≠ j + 1 := fun e => by subst e; rw [h1] at h2; cases h2
  have hia := h.ia
  have hjb := h.jb
  have hsz := h.sz
  refine ⟨by rw [Go.Sort.size_swp, hsz], Go.Sort.permIn_trans _ _ _ _ _ h.perm (Go.Sort.swp_permIn d a b i (j + 1) (by omega) (by omega) (by omega) hjb (by omega)), ?_, by omega, by omega, by omega, fun x k1 k2 => ?_, fun x k1 k2 => ?_⟩
  · rw [Go.Sort.swp_other _ _ _ _ (by omega) (by omega)]; exact h.piv
  · by_cases e : x = i
    · subst e
      rw [Go.Sort.swp_left _ _ _ (by omega) hne]; exact h2
    · rw [Go.Sort.swp_other _ _ _ _ e (by omega)]; exact h.lo x k1 (by omega)
  · by_cases e : x = j + 1
    · subst e
      rw [Go.Sort.swp_right _ _ _ (by omega)]; exact h1
    · rw [Go.Sort.swp_other _ _ _ _ (by omega) e]; exact h.hi x (by omega) k2
/-- What partitionEqual answers. -/
structure EqParted (d0 : Array Int) (a b m : Nat) (p : Int) (d : Array Int) : Prop where
  sz : d.size = d0.size
  ma : a < m
  mb : m ≤ b
  perm : PermIn a b d0 d
  lo : ∀ x, a ≤ x → x < m → lt64 p d[x]! = false
  hi : ∀ x, m ≤ x → x < b → lt64 p d[x]! = true
theorem PE.fin {d0 : Array Int} {a b i j : Nat} {d : Array Int} {p : Int} (h : PE d0 a b i j d p) (hij : ¬ i ≤ j) : EqParted d0 a b i p d := by
  have hia := h.ia
  have h0 := h.ij
  have hjb := h.jb
  exact ⟨h.sz, by omega, by omega, h.perm, h.lo, fun x k1 k2 => h.hi x (by omega) k2⟩
theorem pe_start {d0 : Array Int} {a b q : Nat} (hab : a < b) (hb : b ≤ d0.size) (hq1 : a ≤ q) (hq2 : q < b) : PE d0 a b (a + 1) (b - 1) (swp d0 a q) d0[q]! := by
  have hp : (swp d0 a q)[a]! = d0[q]! := by
    by_cases e : a = q
    · subst e; rw [Go.Sort.swp_right _ _ _ (by omega)]
    · rw [Go.Sort.swp_left _ _ _ (by omega) e]
  refine ⟨Go.Sort.size_swp _ _ _, Go.Sort.swp_permIn d0 a b a q (Nat.le_refl _) hab hq1 hq2 hb, hp, Nat.le_refl _, by omega, by omega, fun x h1 h2 => ?_, fun x h1 h2 => by omega⟩
  obtain rfl : x = a := by omega
  rw [hp]; exact swo64.irrefl _
/-! ### the walks (by mkso5.py) -/
set_option maxRecDepth 100000 in
set_option maxHeartbeats 8000000 in
theorem Tryd.partEq_any (g c a b q0 : Nat) (d0 : Array Int) (t : List Int) (w : World) (h : SoAt w g d0 t) (hab : a < b) (hb : b ≤ d0.size) (hq1 : a ≤ q0) (hq2 : q0 < b) (hn : d0.size ≤ 1000000) :
    Calls Tryd.prog 39 #[.slice (some ⟨g, 0, none⟩) d0.size c, .int .i64 (a : Int), .int .i64 (b : Int), .int .i64 (q0 : Int)] w fun e w' => ∃ (m : Nat) (d1 : Array Int), e = .returned (.int .i64 (m : Int)) ∧ EqParted d0 a b m d0[q0]! d1 ∧ SoAt w' g d1 t ∧ w.grownBy w' (some g) := by
  obtain ⟨N, hN⟩ : ∃ N, d0.size = N := ⟨_, rfl⟩
  have HS0 : Hid (SoAt w g d0 t) := h
  have HD0 : Hid (d0.size = N) := hN
  have HG0 : Hid (w.grownBy w (some g)) := World.grownBy.refl _ _
  have HP0 : Hid _ := pe_start hab hb hq1 hq2
  obtain ⟨J, hJ⟩ : ∃ J, b - 1 = J := ⟨_, rfl⟩
  rw [hJ] at HP0
  have HB : Hid (b ≤ d0.size) := hb
  rw [hN] at hb hn ⊢
  clear h hN
  go_enter Tryd.func39, Tryd.ntmps39
  have wi : IntKind.i64.wrap ((a : Int) + 1) = ((a + 1 : Nat) : Int) := by rw [IntKind.wrap_i64]; omega
  have wj : IntKind.i64.wrap ((b : Int) - 1) = (J : Int) := by rw [IntKind.wrap_i64]; omega
  have ej : (b : Int) - 1 = (J : Int) := by omega
  clear hJ
  obtain ⟨p, hp⟩ : ∃ p, p = d0[q0]! := ⟨_, rfl⟩
  rw [← hp] at HP0 ⊢
  have HPP : Hid (p = d0[q0]!) := hp
  clear hp
  go_wp2
  have hi1 := fun w' => Tryd.idxSo g N c a w' (by omega)
  have hi2 := fun w' => Tryd.idxSo g N c q0 w' (by omega)
  have hsw : SoAt w g d0 t := HS0.out
  have c3 := hsw.cell (i := a) (by rw [HD0.out]; omega)
  have c4 := hsw.cell (i := q0) (by rw [HD0.out]; omega)
  have f3 := hsw.fz a
  have f4 := hsw.fz q0
  have hswb : SoAt (w.setCell ⟨g, a, none⟩ (.int .u64 d0[q0]!)) g (d0.setIfInBounds a d0[q0]!) t := hsw.set (by rw [HD0.out]; omega) _
  have f5 := hswb.fz q0
  have c5 := hswb.cell (i := q0) (by rw [Array.size_setIfInBounds, HD0.out]; omega)
  have HSa1 : Hid (SoAt ((w.setCell ⟨g, a, none⟩ (.int .u64 d0[q0]!)).setCell ⟨g, q0, none⟩ (.int .u64 d0[a]!)) g (swp d0 a q0) t) := hsw.swap (by rw [HD0.out]; omega) (by rw [HD0.out]; omega)
  have HGa1 : Hid (w.grownBy ((w.setCell ⟨g, a, none⟩ (.int .u64 d0[q0]!)).setCell ⟨g, q0, none⟩ (.int .u64 d0[a]!)) (some g)) := grown_set (grown_set HG0.out _) _
  have HD1 : Hid ((swp d0 a q0).size = N) := by show _ = _; rw [Go.Sort.size_swp]; exact HD0.out
  clear hsw hswb
  generalize (d0.setIfInBounds a d0[q0]!)[q0]! = ysw at *
  generalize d0[a]! = xi at *
  generalize d0[q0]! = xj at *
  go_upto_region 15 with fail
  go_region
  all_goals
    have HS1 : Hid (SoAt ((w.setCell ⟨g, a, none⟩ (.int .u64 xj)).setCell ⟨g, q0, none⟩ (.int .u64 xi)).drew g (swp d0 a q0) t) := SoAt.drew HSa1.out
    have HG1 : Hid (w.grownBy ((w.setCell ⟨g, a, none⟩ (.int .u64 xj)).setCell ⟨g, q0, none⟩ (.int .u64 xi)).drew (some g)) := grown_drew HGa1.out
    clear HSa1 HGa1 c3 c4 f3 f4 f5 c5 hi1 hi2
    generalize ((w.setCell ⟨g, a, none⟩ (.int .u64 xj)).setCell ⟨g, q0, none⟩ (.int .u64 xi)).drew = w1 at *
    generalize swp d0 a q0 = d1 at *
    go_wp2
    clear wi wj ej
    go_loopw [9, 10] (fun iv jv wr => ∃ i j : Nat, iv = .int .i64 (i : Int) ∧ jv = .int .i64 (j : Int) ∧ ∃ dm : Array Int, Hid (dm.size = N) ∧ Hid (PE d0 a b i j dm p) ∧ Hid (SoAt wr g dm t) ∧ Hid (w.grownBy wr (some g))) (fun iv jv _ => (intOf jv + 1 - intOf iv).toNat)
    case atStart => exact ⟨a + 1, J, by go_num, rfl, d1, HD1, HP0, HS1, HG1⟩
    case round =>
      obtain ⟨i0, j0, rfl, rfl, dm, HDm, HPm, HSm, HGm⟩ := hrel
      clear HD1 HP0 HS1 HG1
      have a1 := HPm.out.ia
      have a2 := HPm.out.ij
      have a3 := HPm.out.jb
      go_wp2
      go_loopw [9] (fun sv wr => ∃ i : Nat, sv = .int .i64 (i : Int) ∧ Hid (PE d0 a b i j0 dm p) ∧ Hid (SoAt wr g dm t) ∧ Hid (w.grownBy wr (some g)) ∧ Hid (i0 ≤ i)) (fun sv _ => N + 1 - (intOf sv).toNat)
      case atStart => exact ⟨i0, by first | rfl | go_num, HPm, HSm, HGm, Nat.le_refl _⟩
      case round =>
        obtain ⟨i, rfl, HP5, HSr5, HGr5, HL5⟩ := hrel
        have bL := HL5.out
        clear HPm HSm HGm
        have b1 := HP5.out.ia
        have b2 := HP5.out.ij
        have b3 := HP5.out.jb
        obtain ⟨q, hq⟩ : ∃ q : Bool, q = (decide (i ≤ j0) && !lt64 dm[a]! dm[i]!) := ⟨_, rfl⟩
        have HQ : Hid (q = (decide (i ≤ j0) && !lt64 dm[a]! dm[i]!)) := hq
        clear hq
        go_upto_region 15 with fail
        go_cut [43] (fun cv wx => cv = .bool q ∧ Hid (SoAt wx g dm t) ∧ Hid (w.grownBy wx (some g)))
        case first =>
          by_cases hij : i ≤ j0
          · have hd : decide ((i : Int) ≤ (j0 : Int)) = true := decide_eq_true (by omega)
            have hi1 := fun w' => Tryd.idxSo g N c i w' (by omega)
            have hi2 := fun w' => Tryd.idxSo g N c a w' (by omega)
            have hsw : SoAt wr g dm t := HSr5.out
            have c3 := hsw.cell (i := i) (by rw [HDm.out]; omega)
            have c4 := hsw.cell (i := a) (by rw [HDm.out]; omega)
            have hless := fun w' => Tryd.less_any dm[a]! dm[i]! w'
            have HQ2 : Hid (q = !(lt64 dm[a]! dm[i]!)) := by
              show _ = _
              rw [HQ.out, decide_eq_true hij]; rfl
            clear hsw HQ
            generalize lt64 dm[a]! dm[i]! = lv at *
            generalize dm[i]! = xv at *
            generalize dm[a]! = xa at *
            obtain rfl := HQ2.out
            go_quiet ((go_at_call 38; exact Calls.quiet_of_same (hless _)))
            go_wp2
            go_meet
            case rel => exact ⟨rfl, SoAt.drewN HSr5.out _, grown_drewN HGr5.out _⟩
          · have hd : decide ((i : Int) ≤ (j0 : Int)) = false := decide_eq_false (by omega)
            have HQ2 : Hid (q = false) := by
              show _ = _
              rw [HQ.out, decide_eq_false hij]; rfl
            clear HQ
            obtain rfl := HQ2.out
            go_quiet (fail)
            go_wp2
            go_meet
            case rel => exact ⟨rfl, SoAt.drewN HSr5.out _, grown_drewN HGr5.out _⟩
        case rest =>
          obtain ⟨rfl, HS5, HG5⟩ := hcut
          clear HSr5 HGr5
          cases q with
          | true =>
            have hq := HQ.out.symm
            rw [Bool.and_eq_true, decide_eq_true_eq] at hq
            have HPX : Hid (PE d0 a b (i + 1) j0 dm p) := HP5.out.up hq.1 (by have h2 := hq.2; have h3 := HP5.out.piv; rw [← h3]; simpa using h2)
            clear HQ HP5
            go_wp2
            go_roundw
            case rel => exact ⟨i + 1, by go_num, HPX, HS5, HG5, by show _ ≤ _; omega⟩
            case measure => simp [intOf]; omega
          | false =>
            have HX5 : Hid (i ≤ j0 → lt64 dm[a]! dm[i]! = true) := fun h => by
              have := HQ.out
              rw [decide_eq_true h] at this
              simpa using this.symm
            clear HQ
            generalize wc = w5 at *
            go_wp2
            go_loopw [10] (fun sv wr => ∃ j : Nat, sv = .int .i64 (j : Int) ∧ Hid (PE d0 a b i j dm p) ∧ Hid (SoAt wr g dm t) ∧ Hid (w.grownBy wr (some g)) ∧ Hid (j ≤ j0)) (fun sv _ => (intOf sv).toNat)
            case atStart => exact ⟨j0, by first | rfl | go_num, HP5, HS5, HG5, Nat.le_refl _⟩
            case round =>
              obtain ⟨j, rfl, HP6, HSr6, HGr6, HL6⟩ := hrel
              have bL := HL6.out
              clear HP5 HS5 HG5
              have b1 := HP6.out.ia
              have b2 := HP6.out.ij
              have b3 := HP6.out.jb
              obtain ⟨q, hq⟩ : ∃ q : Bool, q = (decide (i ≤ j) && lt64 dm[a]! dm[j]!) := ⟨_, rfl⟩
              have HQ : Hid (q = (decide (i ≤ j) && lt64 dm[a]! dm[j]!)) := hq
              clear hq
              go_upto_region 15 with fail
              go_cut [59] (fun cv wx => cv = .bool q ∧ Hid (SoAt wx g dm t) ∧ Hid (w.grownBy wx (some g)))
              case first =>
                by_cases hij : i ≤ j
                · have hd : decide ((i : Int) ≤ (j : Int)) = true := decide_eq_true (by omega)
                  have hi1 := fun w' => Tryd.idxSo g N c j w' (by omega)
                  have hi2 := fun w' => Tryd.idxSo g N c a w' (by omega)
                  have hsw : SoAt wr g dm t := HSr6.out
                  have c3 := hsw.cell (i := j) (by rw [HDm.out]; omega)
                  have c4 := hsw.cell (i := a) (by rw [HDm.out]; omega)
                  have hless := fun w' => Tryd.less_any dm[a]! dm[j]! w'
                  have HQ2 : Hid (q = (lt64 dm[a]! dm[j]!)) := by
                    show _ = _
                    rw [HQ.out, decide_eq_true hij]; rfl
                  clear hsw HQ
                  generalize lt64 dm[a]! dm[j]! = lv at *
                  generalize dm[j]! = xv at *
                  generalize dm[a]! = xa at *
                  obtain rfl := HQ2.out
                  go_quiet ((go_at_call 38; exact Calls.quiet_of_same (hless _)))
                  go_wp2
                  go_meet
                  case rel => exact ⟨rfl, SoAt.drewN HSr6.out _, grown_drewN HGr6.out _⟩
                · have hd : decide ((i : Int) ≤ (j : Int)) = false := decide_eq_false (by omega)
                  have HQ2 : Hid (q = false) := by
                    show _ = _
                    rw [HQ.out, decide_eq_false hij]; rfl
                  clear HQ
                  obtain rfl := HQ2.out
                  go_quiet (fail)
                  go_wp2
                  go_meet
                  case rel => exact ⟨rfl, SoAt.drewN HSr6.out _, grown_drewN HGr6.out _⟩
              case rest =>
                obtain ⟨rfl, HS6, HG6⟩ := hcut
                clear HSr6 HGr6
                cases q with
                | true =>
                  have hq := HQ.out.symm
                  rw [Bool.and_eq_true, decide_eq_true_eq] at hq
                  obtain ⟨jm, hjm⟩ : ∃ jm, j = jm + 1 := ⟨j - 1, by omega⟩
                  have hdec : IntKind.i64.wrap ((j : Int) - 1) = (jm : Int) := by rw [IntKind.wrap_i64]; omega
                  have HPX : Hid (PE d0 a b i jm dm p) := by
                    subst hjm
                    exact HP6.out.down hq.1 (by have h2 := hq.2; have h3 := HP6.out.piv; rw [← h3]; simpa using h2)
                  have hlt : jm < j := by omega
                  clear HQ HP6 hjm hq
                  go_wp2
                  go_roundw
                  case rel => exact ⟨jm, rfl, HPX, HS6, HG6, by show _ ≤ _; omega⟩
                  case measure => simp [intOf]; omega
                | false =>
                  have HX6 : Hid (i ≤ j → lt64 dm[a]! dm[j]! = false) := fun h => by
                    have := HQ.out
                    rw [decide_eq_true h] at this
                    simpa using this.symm
                  clear HQ
                  generalize wc = w6 at *
                  by_cases hij : i ≤ j
                  · have hij2 : ¬ (j : Int) < (i : Int) := by omega
                    obtain ⟨jm, hjm⟩ : ∃ jm, j = jm + 1 := ⟨j - 1, by omega⟩
                    have hdec : IntKind.i64.wrap ((j : Int) - 1) = (jm : Int) := by rw [IntKind.wrap_i64]; omega
                    have ejm : (j : Int) - 1 = (jm : Int) := by omega
                    have HPS : Hid (PE d0 a b (i + 1) jm (swp dm i j) p) := by
                      have h1 := HX5.out (by omega)
                      have h2 := HX6.out hij
                      rw [HP6.out.piv] at h1 h2
                      subst hjm
                      exact HP6.out.swap HB.out hij h1 h2
                    have hi0 : i0 ≤ i := HL5.out
                    have hjj : jm < j0 := by omega
                    clear HX5 HX6 HP6 hjm
                    go_wp2
                    have hi1 := fun w' => Tryd.idxSo g N c i w' (by omega)
                    have hi2 := fun w' => Tryd.idxSo g N c j w' (by omega)
                    have hsw : SoAt w6 g dm t := HS6.out
                    have c3 := hsw.cell (i := i) (by rw [HDm.out]; omega)
                    have c4 := hsw.cell (i := j) (by rw [HDm.out]; omega)
                    have f3 := hsw.fz i
                    have f4 := hsw.fz j
                    have hswb : SoAt (w6.setCell ⟨g, i, none⟩ (.int .u64 dm[j]!)) g (dm.setIfInBounds i dm[j]!) t := hsw.set (by rw [HDm.out]; omega) _
                    have f5 := hswb.fz j
                    have c5 := hswb.cell (i := j) (by rw [Array.size_setIfInBounds, HDm.out]; omega)
                    have HSa7 : Hid (SoAt ((w6.setCell ⟨g, i, none⟩ (.int .u64 dm[j]!)).setCell ⟨g, j, none⟩ (.int .u64 dm[i]!)) g (swp dm i j) t) := hsw.swap (by rw [HDm.out]; omega) (by rw [HDm.out]; omega)
                    have HGa7 : Hid (w.grownBy ((w6.setCell ⟨g, i, none⟩ (.int .u64 dm[j]!)).setCell ⟨g, j, none⟩ (.int .u64 dm[i]!)) (some g)) := grown_set (grown_set HG6.out _) _
                    have HD7 : Hid ((swp dm i j).size = N) := by show _ = _; rw [Go.Sort.size_swp]; exact HDm.out
                    clear hsw hswb
                    generalize (dm.setIfInBounds i dm[j]!)[j]! = ysw at *
                    generalize dm[i]! = xi at *
                    generalize dm[j]! = xj at *
                    go_upto_region 15 with fail
                    go_region
                    all_goals
                      have HS7 : Hid (SoAt ((w6.setCell ⟨g, i, none⟩ (.int .u64 xj)).setCell ⟨g, j, none⟩ (.int .u64 xi)).drew g (swp dm i j) t) := SoAt.drew HSa7.out
                      have HG7 : Hid (w.grownBy ((w6.setCell ⟨g, i, none⟩ (.int .u64 xj)).setCell ⟨g, j, none⟩ (.int .u64 xi)).drew (some g)) := grown_drew HGa7.out
                      clear HSa7 HGa7 c3 c4 f3 f4 f5 c5 hi1 hi2
                      generalize ((w6.setCell ⟨g, i, none⟩ (.int .u64 xj)).setCell ⟨g, j, none⟩ (.int .u64 xi)).drew = w7 at *
                      generalize swp dm i j = d7 at *
                      go_wp2
                      go_roundw
                      case rel => exact ⟨i + 1, jm, by go_num, rfl, d7, HD7, HPS, HS7, HG7⟩
                      case measure => simp [intOf]; omega
                  · have HPT : Hid (EqParted d0 a b i p dm) := HP6.out.fin hij
                    have hij' : (j : Int) < (i : Int) := by omega
                    clear HP6
                    go_wp2
                    go_ret
                    exact ⟨i, dm, rfl, HPT.out, HS6.out, HG6.out⟩
end Go.Proofs.YtllcjmaecgfijaaDoor
