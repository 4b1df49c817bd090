/- Texts of the proof, put together: what it uses. -/
import Derived.Test.YtailhklbmenaoaaGreatDoorZ08
set_option maxRecDepth 100000
set_option maxHeartbeats 16000000
namespace Go.Proofs.YtailhklbmenaoaaGreatDoor
open Go.RowKit Go.Maps
open Go.Sort (swp PermIn SortedIn)
structure PI (d0 : Array Int) (a b i j : Nat) (d : Array Int) (p : Int) : Prop where
 sz : d.size = d0.size
 perm : PermIn a b d0 d
 piv : d[a]! = p
 ia : a + 1 ≤ i
 ij : i ≤ j + 1
 jb : j < b
 lo : ∀ x,a < x → x < i → lt64 d[x]! p = true
 hi : ∀ x,j < x → x < b → lt64 d[x]! p = false
theorem PI.up {d0 : Array Int} {a b i j : Nat} {d : Array Int} {p : Int} (h : PI d0 a b i j d p) (hij : i ≤ j) (hl : lt64 d[i]! p = true) : PI d0 a b (i + 1) j d p :=
 ⟨h.sz,h.perm,h.piv,by have := h.ia; omega,by omega,h.jb,fun x h1 h2 => by
  by_cases e : x = i
  ·subst e; exact hl
  ·exact h.lo x h1 (by omega),h.hi⟩
theorem PI.down {d0 : Array Int} {a b i j : Nat} {d : Array Int} {p : Int} (h : PI d0 a b i (j + 1) d p) (hij : i ≤ j + 1) (hl : lt64 d[j + 1]! p = false) : PI d0 a b i j d p :=
 ⟨h.sz,h.perm,h.piv,h.ia,hij,by have := h.jb; omega,h.lo,fun x h1 h2 => by
  by_cases e : x = j + 1
  ·subst e; exact hl
  ·exact h.hi x (by omega) h2⟩
theorem PI.swap {d0 : Array Int} {a b i j : Nat} {d : Array Int} {p : Int} (h : PI d0 a b i (j + 1) d p) (hb : b ≤ d0.size) (hij : i ≤ j + 1) (h1 : lt64 d[i]! p = false) (h2 : lt64 d[j + 1]! p = true) : PI d0 a b (i + 1) j (swp d i (j + 1)) p := by
 have hne : i ≠ j + 1 := fun e => by subst e; rw [h1] at h2; cases h2
 have hia := h.ia
 have hjb := h.jb
 have hsz := h.sz
 refine ⟨by rw [Go.Sort.size_swp,hsz],Go.Sort.permIn_trans _ _ _ _ _ h.perm (Go.Sort.swp_permIn d a b i (j + 1) (by omega) (by omega) (by omega) hjb (by omega)),?_,by omega,by omega,by omega,fun x k1 k2 => ?_,fun x k1 k2 => ?_⟩
 ·rw [Go.Sort.swp_other _ _ _ _ (by omega) (by omega)]; exact h.piv
 ·by_cases e : x = i
  ·subst e
   rw [Go.Sort.swp_left _ _ _ (by omega) hne]; exact h2
  ·rw [Go.Sort.swp_other _ _ _ _ e (by omega)]; exact h.lo x k1 (by omega)
 ·by_cases e : x = j + 1
  ·subst e
   rw [Go.Sort.swp_right _ _ _ (by omega)]; exact h1
  ·rw [Go.Sort.swp_other _ _ _ _ (by omega) e]; exact h.hi x (by omega) k2
structure Parted (d0 : Array Int) (a b m : Nat) (d : Array Int) : Prop where
 sz : d.size = d0.size
 ma : a ≤ m
 mb : m < b
 perm : PermIn a b d0 d
 lo : ∀ x,a ≤ x → x < m → lt64 d[x]! d[m]! = true
 hi : ∀ x,m < x → x < b → lt64 d[x]! d[m]! = false
theorem PI.fin {d0 : Array Int} {a b i j : Nat} {d : Array Int} {p : Int} (h : PI d0 a b i j d p) (hb : b ≤ d0.size) (hij : ¬ i ≤ j) : Parted d0 a b j (swp d j a) := by
 have hia := h.ia
 have h0 := h.ij
 have hjb := h.jb
 have hsz := h.sz
 have e0 : i = j + 1 := by omega
 subst e0
 have hj : (swp d j a)[j]! = p := by
  by_cases e : j = a
  ·subst e; rw [Go.Sort.swp_right _ _ _ (by omega)]; exact h.piv
  ·rw [Go.Sort.swp_left _ _ _ (by omega) e]; exact h.piv
 refine ⟨by rw [Go.Sort.size_swp,hsz],by omega,hjb,Go.Sort.permIn_trans _ _ _ _ _ h.perm (Go.Sort.swp_permIn d a b j a (by omega) hjb (Nat.le_refl _) (by omega) (by omega)),fun x k1 k2 => ?_,fun x k1 k2 => ?_⟩
 ·rw [hj]
  by_cases e : x = a
  ·subst e
   rw [Go.Sort.swp_right _ _ _ (by omega)]
   exact h.lo j (by omega) (by omega)
  ·rw [Go.Sort.swp_other _ _ _ _ (by omega) e]
   exact h.lo x (by omega) (by omega)
 ·rw [hj,Go.Sort.swp_other _ _ _ _ (by omega) (by omega)]
  exact h.hi x k1 k2
theorem qeS {d0 : Array Int} {a b q : Nat} (hab : a < b) (hb : b ≤ d0.size) (hq1 : a ≤ q) (hq2 : q < b) : PI d0 a b (a + 1) (b - 1) (swp d0 a q) (swp d0 a q)[a]! :=
 ⟨Go.Sort.size_swp _ _ _,Go.Sort.swp_permIn d0 a b a q (Nat.le_refl _) hab hq1 hq2 hb,rfl,Nat.le_refl _,by omega,by omega,fun x h1 h2 => by omega,fun x h1 h2 => by omega⟩
theorem q9L (g c a b q0 : Nat) (d0 : Array Int) (t : List Int) (w : World) (h : SoAt w g d0 t) (hab : a < b) (hb : b ≤ d0.size) (hq1 : a ≤ q0) (hq2 : q0 < b) (hn : d0.size ≤ 1000000) :
  Calls Tryz.prog 115 #[.slice (some ⟨g,0,none⟩) d0.size c,.int .i64 (a : Int),.int .i64 (b : Int),.int .i64 (q0 : Int)] w fun e w' => ∃ (m : Nat) (f : Bool) (d1 : Array Int),e = .returned (.tuple #[.int .i64 (m : Int),.bool f]) ∧ Parted d0 a b m d1 ∧ SoAt w' g d1 t ∧ w.grownBy w' (some g) := by
 obtain ⟨N,hN⟩ : ∃ N,d0.size = N := ⟨_,rfl⟩
 have HS0 : Hid (SoAt w g d0 t) := h
 have HD0 : Hid (d0.size = N) := hN
 have HG0 : Hid (w.grownBy w (some g)) := World.grownBy.refl _ _
 have HP0 : Hid _ := qeS hab hb hq1 hq2
 obtain ⟨J,hJ⟩ : ∃ J,b - 1 = J := ⟨_,rfl⟩
 rw [hJ] at HP0
 have HB : Hid (b ≤ d0.size) := hb
 rw [hN] at hb hn ⊢
 clear h hN
 go_enter Tryz.func115,Tryz.ntmps115
 have wi : IntKind.i64.wrap ((a : Int) + 1) = ((a + 1 : Nat) : Int) := by rw [IntKind.wrap_i64]; omega
 have wj : IntKind.i64.wrap ((b : Int) - 1) = (J : Int) := by rw [IntKind.wrap_i64]; omega
 have ej : (b : Int) - 1 = (J : Int) := by omega
 clear hJ
 go_wp2
 obtain ⟨p,hp⟩ : ∃ p,(swp d0 a q0)[a]! = p := ⟨_,rfl⟩
 rw [hp] at HP0
 clear hp
 have hi1 := fun w' => qg g N c a w' (by omega)
 have hi2 := fun w' => qg g N c q0 w' (by omega)
 have hsw : SoAt w g d0 t := HS0.out
 have c3 := hsw.cell (i := a) (by rw [HD0.out]; omega)
 have c4 := hsw.cell (i := q0) (by rw [HD0.out]; omega)
 have f3 := hsw.fz a
 have f4 := hsw.fz q0
 have hswb : SoAt (w.setCell ⟨g,a,none⟩ (.int .u64 d0[q0]!)) g (d0.setIfInBounds a d0[q0]!) t := hsw.set (by rw [HD0.out]; omega) _
 have f5 := hswb.fz q0
 have c5 := hswb.cell (i := q0) (by rw [Array.size_setIfInBounds,HD0.out]; omega)
 have HSa1 : Hid (SoAt ((w.setCell ⟨g,a,none⟩ (.int .u64 d0[q0]!)).setCell ⟨g,q0,none⟩ (.int .u64 d0[a]!)) g (swp d0 a q0) t) := hsw.swap (by rw [HD0.out]; omega) (by rw [HD0.out]; omega)
 have HGa1 : Hid (w.grownBy ((w.setCell ⟨g,a,none⟩ (.int .u64 d0[q0]!)).setCell ⟨g,q0,none⟩ (.int .u64 d0[a]!)) (some g)) := qk (qk HG0.out _) _
 have HD1 : Hid ((swp d0 a q0).size = N) := by show _ = _; rw [Go.Sort.size_swp]; exact HD0.out
 clear hsw hswb
 generalize (d0.setIfInBounds a d0[q0]!)[q0]! = ysw at *
 generalize d0[a]! = xi at *
 generalize d0[q0]! = xj at *
 go_upto_region 15 with fail
 go_region
 all_goals
  have HS1 : Hid (SoAt ((w.setCell ⟨g,a,none⟩ (.int .u64 xj)).setCell ⟨g,q0,none⟩ (.int .u64 xi)).drew g (swp d0 a q0) t) := SoAt.drew HSa1.out
  have HG1 : Hid (w.grownBy ((w.setCell ⟨g,a,none⟩ (.int .u64 xj)).setCell ⟨g,q0,none⟩ (.int .u64 xi)).drew (some g)) := qu HGa1.out
  clear HSa1 HGa1 c3 c4 f3 f4 f5 c5 hi1 hi2
  generalize ((w.setCell ⟨g,a,none⟩ (.int .u64 xj)).setCell ⟨g,q0,none⟩ (.int .u64 xi)).drew = w1 at *
  generalize swp d0 a q0 = d1 at *
  go_wp2
  clear wi wj ej
  go_loopw [10] (fun sv wr => ∃ i : Nat,sv = .int .i64 (i : Int) ∧ Hid (PI d0 a b i J d1 p) ∧ Hid (SoAt wr g d1 t) ∧ Hid (w.grownBy wr (some g)) ∧ Hid (a + 1 ≤ i)) (fun sv _ => N + 1 - (intOf sv).toNat)
  case atStart => exact ⟨a + 1,by first | rfl | go_num,HP0,HS1,HG1,Nat.le_refl _⟩
  case round =>
   obtain ⟨i,rfl,HP2,HSr2,HGr2,HL2⟩ := hrel
   have bL := HL2.out
   clear HP0 HS1 HG1
   have b1 := HP2.out.ia
   have b2 := HP2.out.ij
   have b3 := HP2.out.jb
   obtain ⟨q,hq⟩ : ∃ q : Bool,q = (decide (i ≤ J) && lt64 d1[i]! d1[a]!) := ⟨_,rfl⟩
   have HQ : Hid (q = (decide (i ≤ J) && lt64 d1[i]! d1[a]!)) := hq
   clear hq
   go_upto_region 15 with fail
   go_cut [43] (fun cv wx => cv = .bool q ∧ Hid (SoAt wx g d1 t) ∧ Hid (w.grownBy wx (some g)))
   case first =>
    by_cases hij : i ≤ J
    ·have hd : decide ((i : Int) ≤ (J : Int)) = true := decide_eq_true (by omega)
     have hi1 := fun w' => qg g N c i w' (by omega)
     have hi2 := fun w' => qg g N c a w' (by omega)
     have hsw : SoAt wr g d1 t := HSr2.out
     have c3 := hsw.cell (i := i) (by rw [HD1.out]; omega)
     have c4 := hsw.cell (i := a) (by rw [HD1.out]; omega)
     have hless := fun w' => qo d1[i]! d1[a]! w'
     have HQ2 : Hid (q = (lt64 d1[i]! d1[a]!)) := by
      show _ = _
      rw [HQ.out,decide_eq_true hij]; rfl
     clear hsw HQ
     generalize lt64 d1[i]! d1[a]! = lv at *
     generalize d1[i]! = xv at *
     generalize d1[a]! = xa at *
     obtain rfl := HQ2.out
     go_quiet ((go_at_call 113; exact Calls.quiet_of_same (hless _)))
     go_wp2
     go_meet
     case rel => exact ⟨rfl,SoAt.drewN HSr2.out _,qj HGr2.out _⟩
    ·have hd : decide ((i : Int) ≤ (J : Int)) = false := decide_eq_false (by omega)
     have HQ2 : Hid (q = false) := by
      show _ = _
      rw [HQ.out,decide_eq_false hij]; rfl
     clear HQ
     obtain rfl := HQ2.out
     go_quiet (fail)
     go_wp2
     go_meet
     case rel => exact ⟨rfl,SoAt.drewN HSr2.out _,qj HGr2.out _⟩
   case rest =>
    obtain ⟨rfl,HS2,HG2⟩ := hcut
    clear HSr2 HGr2
    cases q with
    | true =>
     have hq := HQ.out.symm
     rw [Bool.and_eq_true,decide_eq_true_eq] at hq
     have HPX : Hid (PI d0 a b (i + 1) J d1 p) := HP2.out.up hq.1 (by have h2 := hq.2; have h3 := HP2.out.piv; rw [← h3]; simpa using h2)
     clear HQ HP2
     go_wp2
     go_roundw
     case rel => exact ⟨i + 1,by go_num,HPX,HS2,HG2,by show _ ≤ _; omega⟩
     case measure => simp [intOf]; omega
    | false =>
     have HX2 : Hid (i ≤ J → lt64 d1[i]! d1[a]! = false) := fun h => by
      have := HQ.out
      rw [decide_eq_true h] at this
      simpa using this.symm
     clear HQ
     generalize wc = w2 at *
     go_wp2
     go_loopw [11] (fun sv wr => ∃ j : Nat,sv = .int .i64 (j : Int) ∧ Hid (PI d0 a b i j d1 p) ∧ Hid (SoAt wr g d1 t) ∧ Hid (w.grownBy wr (some g)) ∧ Hid (j ≤ J)) (fun sv _ => (intOf sv).toNat)
     case atStart => exact ⟨J,by first | rfl | go_num,HP2,HS2,HG2,Nat.le_refl _⟩
     case round =>
      obtain ⟨j,rfl,HP3,HSr3,HGr3,HL3⟩ := hrel
      have bL := HL3.out
      clear HP2 HS2 HG2
      have b1 := HP3.out.ia
      have b2 := HP3.out.ij
      have b3 := HP3.out.jb
      obtain ⟨q,hq⟩ : ∃ q : Bool,q = (decide (i ≤ j) && !lt64 d1[j]! d1[a]!) := ⟨_,rfl⟩
      have HQ : Hid (q = (decide (i ≤ j) && !lt64 d1[j]! d1[a]!)) := hq
      clear hq
      go_upto_region 15 with fail
      go_cut [60] (fun cv wx => cv = .bool q ∧ Hid (SoAt wx g d1 t) ∧ Hid (w.grownBy wx (some g)))
      case first =>
       by_cases hij : i ≤ j
       ·have hd : decide ((i : Int) ≤ (j : Int)) = true := decide_eq_true (by omega)
        have hi1 := fun w' => qg g N c j w' (by omega)
        have hi2 := fun w' => qg g N c a w' (by omega)
        have hsw : SoAt wr g d1 t := HSr3.out
        have c3 := hsw.cell (i := j) (by rw [HD1.out]; omega)
        have c4 := hsw.cell (i := a) (by rw [HD1.out]; omega)
        have hless := fun w' => qo d1[j]! d1[a]! w'
        have HQ2 : Hid (q = !(lt64 d1[j]! d1[a]!)) := by
         show _ = _
         rw [HQ.out,decide_eq_true hij]; rfl
        clear hsw HQ
        generalize lt64 d1[j]! d1[a]! = lv at *
        generalize d1[j]! = xv at *
        generalize d1[a]! = xa at *
        obtain rfl := HQ2.out
        go_quiet ((go_at_call 113; exact Calls.quiet_of_same (hless _)))
        go_wp2
        go_meet
        case rel => exact ⟨rfl,SoAt.drewN HSr3.out _,qj HGr3.out _⟩
       ·have hd : decide ((i : Int) ≤ (j : Int)) = false := decide_eq_false (by omega)
        have HQ2 : Hid (q = false) := by
         show _ = _
         rw [HQ.out,decide_eq_false hij]; rfl
        clear HQ
        obtain rfl := HQ2.out
        go_quiet (fail)
        go_wp2
        go_meet
        case rel => exact ⟨rfl,SoAt.drewN HSr3.out _,qj HGr3.out _⟩
      case rest =>
       obtain ⟨rfl,HS3,HG3⟩ := hcut
       clear HSr3 HGr3
       cases q with
       | true =>
        have hq := HQ.out.symm
        rw [Bool.and_eq_true,decide_eq_true_eq] at hq
        obtain ⟨jm,hjm⟩ : ∃ jm,j = jm + 1 := ⟨j - 1,by omega⟩
        have hdec : IntKind.i64.wrap ((j : Int) - 1) = (jm : Int) := by rw [IntKind.wrap_i64]; omega
        have HPX : Hid (PI d0 a b i jm d1 p) := by
         subst hjm
         exact HP3.out.down hq.1 (by have h2 := hq.2; have h3 := HP3.out.piv; rw [← h3]; simpa using h2)
        have hlt : jm < j := by omega
        clear HQ HP3 hjm hq
        go_wp2
        go_roundw
        case rel => exact ⟨jm,rfl,HPX,HS3,HG3,by show _ ≤ _; omega⟩
        case measure => simp [intOf]; omega
       | false =>
        have HX3 : Hid (i ≤ j → lt64 d1[j]! d1[a]! = true) := fun h => by
         have := HQ.out
         rw [decide_eq_true h] at this
         simpa using this.symm
        clear HQ
        generalize wc = w3 at *
        by_cases hij : i ≤ j
        ·have hij2 : ¬ (j : Int) < (i : Int) := by omega
         obtain ⟨jm,hjm⟩ : ∃ jm,j = jm + 1 := ⟨j - 1,by omega⟩
         have hdec : IntKind.i64.wrap ((j : Int) - 1) = (jm : Int) := by rw [IntKind.wrap_i64]; omega
         have ejm : (j : Int) - 1 = (jm : Int) := by omega
         have HPS : Hid (PI d0 a b (i + 1) jm (swp d1 i j) p) := by
          have h1 := HX2.out (by omega)
          have h2 := HX3.out hij
          rw [HP3.out.piv] at h1 h2
          subst hjm
          exact HP3.out.swap HB.out hij h1 h2
         clear HX2 HX3 HP3 hjm
         go_wp2
         have hi1 := fun w' => qg g N c i w' (by omega)
         have hi2 := fun w' => qg g N c j w' (by omega)
         have hsw : SoAt w3 g d1 t := HS3.out
         have c3 := hsw.cell (i := i) (by rw [HD1.out]; omega)
         have c4 := hsw.cell (i := j) (by rw [HD1.out]; omega)
         have f3 := hsw.fz i
         have f4 := hsw.fz j
         have hswb : SoAt (w3.setCell ⟨g,i,none⟩ (.int .u64 d1[j]!)) g (d1.setIfInBounds i d1[j]!) t := hsw.set (by rw [HD1.out]; omega) _
         have f5 := hswb.fz j
         have c5 := hswb.cell (i := j) (by rw [Array.size_setIfInBounds,HD1.out]; omega)
         have HSa4 : Hid (SoAt ((w3.setCell ⟨g,i,none⟩ (.int .u64 d1[j]!)).setCell ⟨g,j,none⟩ (.int .u64 d1[i]!)) g (swp d1 i j) t) := hsw.swap (by rw [HD1.out]; omega) (by rw [HD1.out]; omega)
         have HGa4 : Hid (w.grownBy ((w3.setCell ⟨g,i,none⟩ (.int .u64 d1[j]!)).setCell ⟨g,j,none⟩ (.int .u64 d1[i]!)) (some g)) := qk (qk HG3.out _) _
         have HD4 : Hid ((swp d1 i j).size = N) := by show _ = _; rw [Go.Sort.size_swp]; exact HD1.out
         clear hsw hswb
         generalize (d1.setIfInBounds i d1[j]!)[j]! = ysw at *
         generalize d1[i]! = xi at *
         generalize d1[j]! = xj at *
         go_upto_region 15 with fail
         go_region
         all_goals
          have HS4 : Hid (SoAt ((w3.setCell ⟨g,i,none⟩ (.int .u64 xj)).setCell ⟨g,j,none⟩ (.int .u64 xi)).drew g (swp d1 i j) t) := SoAt.drew HSa4.out
          have HG4 : Hid (w.grownBy ((w3.setCell ⟨g,i,none⟩ (.int .u64 xj)).setCell ⟨g,j,none⟩ (.int .u64 xi)).drew (some g)) := qu HGa4.out
          clear HSa4 HGa4 c3 c4 f3 f4 f5 c5 hi1 hi2
          generalize ((w3.setCell ⟨g,i,none⟩ (.int .u64 xj)).setCell ⟨g,j,none⟩ (.int .u64 xi)).drew = w4 at *
          generalize swp d1 i j = d4 at *
          go_wp2
          clear hdec ejm
          go_loopw [10,11] (fun iv jv wr => ∃ i j : Nat,iv = .int .i64 (i : Int) ∧ jv = .int .i64 (j : Int) ∧ ∃ dm : Array Int,Hid (dm.size = N) ∧ Hid (PI d0 a b i j dm p) ∧ Hid (SoAt wr g dm t) ∧ Hid (w.grownBy wr (some g))) (fun iv jv _ => (intOf jv + 1 - intOf iv).toNat)
          case atStart => exact ⟨i + 1,jm,by go_num,rfl,d4,HD4,HPS,HS4,HG4⟩
          case round =>
           obtain ⟨i0,j0,rfl,rfl,dm,HDm,HPm,HSm,HGm⟩ := hrel
           clear HD4 HPS HS4 HG4 hij hij2 b1 b2 b3 bL
           have a1 := HPm.out.ia
           have a2 := HPm.out.ij
           have a3 := HPm.out.jb
           go_wp2
           go_loopw [10] (fun sv wr => ∃ i : Nat,sv = .int .i64 (i : Int) ∧ Hid (PI d0 a b i j0 dm p) ∧ Hid (SoAt wr g dm t) ∧ Hid (w.grownBy wr (some g)) ∧ Hid (i0 ≤ i)) (fun sv _ => N + 1 - (intOf sv).toNat)
           case atStart => exact ⟨i0,by first | rfl | go_num,HPm,HSm,HGm,Nat.le_refl _⟩
           case round =>
            obtain ⟨i,rfl,HP5,HSr5,HGr5,HL5⟩ := hrel
            have bL := HL5.out
            clear HPm HSm HGm
            have b1 := HP5.out.ia
            have b2 := HP5.out.ij
            have b3 := HP5.out.jb
            obtain ⟨q,hq⟩ : ∃ q : Bool,q = (decide (i ≤ j0) && lt64 dm[i]! dm[a]!) := ⟨_,rfl⟩
            have HQ : Hid (q = (decide (i ≤ j0) && lt64 dm[i]! dm[a]!)) := hq
            clear hq
            go_upto_region 15 with fail
            go_cut [112] (fun cv wx => cv = .bool q ∧ Hid (SoAt wx g dm t) ∧ Hid (w.grownBy wx (some g)))
            case first =>
             by_cases hij : i ≤ j0
             ·have hd : decide ((i : Int) ≤ (j0 : Int)) = true := decide_eq_true (by omega)
              have hi1 := fun w' => qg g N c i w' (by omega)
              have hi2 := fun w' => qg g N c a w' (by omega)
              have hsw : SoAt wr g dm t := HSr5.out
              have c3 := hsw.cell (i := i) (by rw [HDm.out]; omega)
              have c4 := hsw.cell (i := a) (by rw [HDm.out]; omega)
              have hless := fun w' => qo dm[i]! dm[a]! w'
              have HQ2 : Hid (q = (lt64 dm[i]! dm[a]!)) := by
               show _ = _
               rw [HQ.out,decide_eq_true hij]; rfl
              clear hsw HQ
              generalize lt64 dm[i]! dm[a]! = lv at *
              generalize dm[i]! = xv at *
              generalize dm[a]! = xa at *
              obtain rfl := HQ2.out
              go_quiet ((go_at_call 113; exact Calls.quiet_of_same (hless _)))
              go_wp2
              go_meet
              case rel => exact ⟨rfl,SoAt.drewN HSr5.out _,qj HGr5.out _⟩
             ·have hd : decide ((i : Int) ≤ (j0 : Int)) = false := decide_eq_false (by omega)
              have HQ2 : Hid (q = false) := by
               show _ = _
               rw [HQ.out,decide_eq_false hij]; rfl
              clear HQ
              obtain rfl := HQ2.out
              go_quiet (fail)
              go_wp2
              go_meet
              case rel => exact ⟨rfl,SoAt.drewN HSr5.out _,qj HGr5.out _⟩
            case rest =>
             obtain ⟨rfl,HS5,HG5⟩ := hcut
             clear HSr5 HGr5
             cases q with
             | true =>
              have hq := HQ.out.symm
              rw [Bool.and_eq_true,decide_eq_true_eq] at hq
              have HPX : Hid (PI d0 a b (i + 1) j0 dm p) := HP5.out.up hq.1 (by have h2 := hq.2; have h3 := HP5.out.piv; rw [← h3]; simpa using h2)
              clear HQ HP5
              go_wp2
              go_roundw
              case rel => exact ⟨i + 1,by go_num,HPX,HS5,HG5,by show _ ≤ _; omega⟩
              case measure => simp [intOf]; omega
             | false =>
              have HX5 : Hid (i ≤ j0 → lt64 dm[i]! dm[a]! = false) := fun h => by
               have := HQ.out
               rw [decide_eq_true h] at this
               simpa using this.symm
              clear HQ
              generalize wc = w5 at *
              go_wp2
              go_loopw [11] (fun sv wr => ∃ j : Nat,sv = .int .i64 (j : Int) ∧ Hid (PI d0 a b i j dm p) ∧ Hid (SoAt wr g dm t) ∧ Hid (w.grownBy wr (some g)) ∧ Hid (j ≤ j0)) (fun sv _ => (intOf sv).toNat)
              case atStart => exact ⟨j0,by first | rfl | go_num,HP5,HS5,HG5,Nat.le_refl _⟩
              case round =>
               obtain ⟨j,rfl,HP6,HSr6,HGr6,HL6⟩ := hrel
               have bL := HL6.out
               clear HP5 HS5 HG5
               have b1 := HP6.out.ia
               have b2 := HP6.out.ij
               have b3 := HP6.out.jb
               obtain ⟨q,hq⟩ : ∃ q : Bool,q = (decide (i ≤ j) && !lt64 dm[j]! dm[a]!) := ⟨_,rfl⟩
               have HQ : Hid (q = (decide (i ≤ j) && !lt64 dm[j]! dm[a]!)) := hq
               clear hq
               go_upto_region 15 with fail
               go_cut [129] (fun cv wx => cv = .bool q ∧ Hid (SoAt wx g dm t) ∧ Hid (w.grownBy wx (some g)))
               case first =>
                by_cases hij : i ≤ j
                ·have hd : decide ((i : Int) ≤ (j : Int)) = true := decide_eq_true (by omega)
                 have hi1 := fun w' => qg g N c j w' (by omega)
                 have hi2 := fun w' => qg g N c a w' (by omega)
                 have hsw : SoAt wr g dm t := HSr6.out
                 have c3 := hsw.cell (i := j) (by rw [HDm.out]; omega)
                 have c4 := hsw.cell (i := a) (by rw [HDm.out]; omega)
                 have hless := fun w' => qo dm[j]! dm[a]! w'
                 have HQ2 : Hid (q = !(lt64 dm[j]! dm[a]!)) := by
                  show _ = _
                  rw [HQ.out,decide_eq_true hij]; rfl
                 clear hsw HQ
                 generalize lt64 dm[j]! dm[a]! = lv at *
                 generalize dm[j]! = xv at *
                 generalize dm[a]! = xa at *
                 obtain rfl := HQ2.out
                 go_quiet ((go_at_call 113; exact Calls.quiet_of_same (hless _)))
                 go_wp2
                 go_meet
                 case rel => exact ⟨rfl,SoAt.drewN HSr6.out _,qj HGr6.out _⟩
                ·have hd : decide ((i : Int) ≤ (j : Int)) = false := decide_eq_false (by omega)
                 have HQ2 : Hid (q = false) := by
                  show _ = _
                  rw [HQ.out,decide_eq_false hij]; rfl
                 clear HQ
                 obtain rfl := HQ2.out
                 go_quiet (fail)
                 go_wp2
                 go_meet
                 case rel => exact ⟨rfl,SoAt.drewN HSr6.out _,qj HGr6.out _⟩
               case rest =>
                obtain ⟨rfl,HS6,HG6⟩ := hcut
                clear HSr6 HGr6
                cases q with
                | true =>
                 have hq := HQ.out.symm
                 rw [Bool.and_eq_true,decide_eq_true_eq] at hq
                 obtain ⟨jm,hjm⟩ : ∃ jm,j = jm + 1 := ⟨j - 1,by omega⟩
                 have hdec : IntKind.i64.wrap ((j : Int) - 1) = (jm : Int) := by rw [IntKind.wrap_i64]; omega
                 have HPX : Hid (PI d0 a b i jm dm p) := by
                  subst hjm
                  exact HP6.out.down hq.1 (by have h2 := hq.2; have h3 := HP6.out.piv; rw [← h3]; simpa using h2)
                 have hlt : jm < j := by omega
                 clear HQ HP6 hjm hq
                 go_wp2
                 go_roundw
                 case rel => exact ⟨jm,rfl,HPX,HS6,HG6,by show _ ≤ _; omega⟩
                 case measure => simp [intOf]; omega
                | false =>
                 have HX6 : Hid (i ≤ j → lt64 dm[j]! dm[a]! = true) := fun h => by
                  have := HQ.out
                  rw [decide_eq_true h] at this
                  simpa using this.symm
                 clear HQ
                 generalize wc = w6 at *
                 by_cases hij : i ≤ j
                 ·have hij2 : ¬ (j : Int) < (i : Int) := by omega
                  obtain ⟨jm,hjm⟩ : ∃ jm,j = jm + 1 := ⟨j - 1,by omega⟩
                  have hdec : IntKind.i64.wrap ((j : Int) - 1) = (jm : Int) := by rw [IntKind.wrap_i64]; omega
                  have ejm : (j : Int) - 1 = (jm : Int) := by omega
                  have HPS : Hid (PI d0 a b (i + 1) jm (swp dm i j) p) := by
                   have h1 := HX5.out (by omega)
                   have h2 := HX6.out hij
                   rw [HP6.out.piv] at h1 h2
                   subst hjm
                   exact HP6.out.swap HB.out hij h1 h2
                  have hi0 : i0 ≤ i := HL5.out
                  have hjj : jm < j0 := by omega
                  clear HX5 HX6 HP6 hjm
                  go_wp2
                  have hi1 := fun w' => qg g N c i w' (by omega)
                  have hi2 := fun w' => qg g N c j w' (by omega)
                  have hsw : SoAt w6 g dm t := HS6.out
                  have c3 := hsw.cell (i := i) (by rw [HDm.out]; omega)
                  have c4 := hsw.cell (i := j) (by rw [HDm.out]; omega)
                  have f3 := hsw.fz i
                  have f4 := hsw.fz j
                  have hswb : SoAt (w6.setCell ⟨g,i,none⟩ (.int .u64 dm[j]!)) g (dm.setIfInBounds i dm[j]!) t := hsw.set (by rw [HDm.out]; omega) _
                  have f5 := hswb.fz j
                  have c5 := hswb.cell (i := j) (by rw [Array.size_setIfInBounds,HDm.out]; omega)
                  have HSa7 : Hid (SoAt ((w6.setCell ⟨g,i,none⟩ (.int .u64 dm[j]!)).setCell ⟨g,j,none⟩ (.int .u64 dm[i]!)) g (swp dm i j) t) := hsw.swap (by rw [HDm.out]; omega) (by rw [HDm.out]; omega)
                  have HGa7 : Hid (w.grownBy ((w6.setCell ⟨g,i,none⟩ (.int .u64 dm[j]!)).setCell ⟨g,j,none⟩ (.int .u64 dm[i]!)) (some g)) := qk (qk HG6.out _) _
                  have HD7 : Hid ((swp dm i j).size = N) := by show _ = _; rw [Go.Sort.size_swp]; exact HDm.out
                  clear hsw hswb
                  generalize (dm.setIfInBounds i dm[j]!)[j]! = ysw at *
                  generalize dm[i]! = xi at *
                  generalize dm[j]! = xj at *
                  go_upto_region 15 with fail
                  go_region
                  all_goals
                   have HS7 : Hid (SoAt ((w6.setCell ⟨g,i,none⟩ (.int .u64 xj)).setCell ⟨g,j,none⟩ (.int .u64 xi)).drew g (swp dm i j) t) := SoAt.drew HSa7.out
                   have HG7 : Hid (w.grownBy ((w6.setCell ⟨g,i,none⟩ (.int .u64 xj)).setCell ⟨g,j,none⟩ (.int .u64 xi)).drew (some g)) := qu HGa7.out
                   clear HSa7 HGa7 c3 c4 f3 f4 f5 c5 hi1 hi2
                   generalize ((w6.setCell ⟨g,i,none⟩ (.int .u64 xj)).setCell ⟨g,j,none⟩ (.int .u64 xi)).drew = w7 at *
                   generalize swp dm i j = d7 at *
                   go_wp2
                   go_roundw
                   case rel => exact ⟨i + 1,jm,by go_num,rfl,d7,HD7,HPS,HS7,HG7⟩
                   case measure => simp [intOf]; omega
                 ·skip
                  have HPT : Hid (Parted d0 a b j (swp dm j a)) := HP6.out.fin HB.out hij
                  have hij' : (j : Int) < (i : Int) := by omega
                  clear HP6
                  go_wp2
                  have hi1 := fun w' => qg g N c j w' (by omega)
                  have hi2 := fun w' => qg g N c a w' (by omega)
                  have hsw : SoAt w6 g dm t := HS6.out
                  have c3 := hsw.cell (i := j) (by rw [HDm.out]; omega)
                  have c4 := hsw.cell (i := a) (by rw [HDm.out]; omega)
                  have f3 := hsw.fz j
                  have f4 := hsw.fz a
                  have hswb : SoAt (w6.setCell ⟨g,j,none⟩ (.int .u64 dm[a]!)) g (dm.setIfInBounds j dm[a]!) t := hsw.set (by rw [HDm.out]; omega) _
                  have f5 := hswb.fz a
                  have c5 := hswb.cell (i := a) (by rw [Array.size_setIfInBounds,HDm.out]; omega)
                  have HSa8 : Hid (SoAt ((w6.setCell ⟨g,j,none⟩ (.int .u64 dm[a]!)).setCell ⟨g,a,none⟩ (.int .u64 dm[j]!)) g (swp dm j a) t) := hsw.swap (by rw [HDm.out]; omega) (by rw [HDm.out]; omega)
                  have HGa8 : Hid (w.grownBy ((w6.setCell ⟨g,j,none⟩ (.int .u64 dm[a]!)).setCell ⟨g,a,none⟩ (.int .u64 dm[j]!)) (some g)) := qk (qk HG6.out _) _
                  have HD8 : Hid ((swp dm j a).size = N) := by show _ = _; rw [Go.Sort.size_swp]; exact HDm.out
                  clear hsw hswb
                  generalize (dm.setIfInBounds j dm[a]!)[a]! = ysw at *
                  generalize dm[j]! = xi at *
                  generalize dm[a]! = xj at *
                  go_upto_region 15 with fail
                  go_region
                  all_goals
                   have HS8 : Hid (SoAt ((w6.setCell ⟨g,j,none⟩ (.int .u64 xj)).setCell ⟨g,a,none⟩ (.int .u64 xi)).drew g (swp dm j a) t) := SoAt.drew HSa8.out
                   have HG8 : Hid (w.grownBy ((w6.setCell ⟨g,j,none⟩ (.int .u64 xj)).setCell ⟨g,a,none⟩ (.int .u64 xi)).drew (some g)) := qu HGa8.out
                   clear HSa8 HGa8 c3 c4 f3 f4 f5 c5 hi1 hi2
                   generalize ((w6.setCell ⟨g,j,none⟩ (.int .u64 xj)).setCell ⟨g,a,none⟩ (.int .u64 xi)).drew = w8 at *
                   generalize swp dm j a = d8 at *
                   go_wp2
                   go_ret2
                   exact ⟨j,false,d8,rfl,HPT.out,HS8.out,HG8.out⟩
        ·skip
         have HPT : Hid (Parted d0 a b j (swp d1 j a)) := HP3.out.fin HB.out hij
         have hij' : (j : Int) < (i : Int) := by omega
         clear HP3
         go_wp2
         have hi1 := fun w' => qg g N c j w' (by omega)
         have hi2 := fun w' => qg g N c a w' (by omega)
         have hsw : SoAt w3 g d1 t := HS3.out
         have c3 := hsw.cell (i := j) (by rw [HD1.out]; omega)
         have c4 := hsw.cell (i := a) (by rw [HD1.out]; omega)
         have f3 := hsw.fz j
         have f4 := hsw.fz a
         have hswb : SoAt (w3.setCell ⟨g,j,none⟩ (.int .u64 d1[a]!)) g (d1.setIfInBounds j d1[a]!) t := hsw.set (by rw [HD1.out]; omega) _
         have f5 := hswb.fz a
         have c5 := hswb.cell (i := a) (by rw [Array.size_setIfInBounds,HD1.out]; omega)
         have HSa9 : Hid (SoAt ((w3.setCell ⟨g,j,none⟩ (.int .u64 d1[a]!)).setCell ⟨g,a,none⟩ (.int .u64 d1[j]!)) g (swp d1 j a) t) := hsw.swap (by rw [HD1.out]; omega) (by rw [HD1.out]; omega)
         have HGa9 : Hid (w.grownBy ((w3.setCell ⟨g,j,none⟩ (.int .u64 d1[a]!)).setCell ⟨g,a,none⟩ (.int .u64 d1[j]!)) (some g)) := qk (qk HG3.out _) _
         have HD9 : Hid ((swp d1 j a).size = N) := by show _ = _; rw [Go.Sort.size_swp]; exact HD1.out
         clear hsw hswb
         generalize (d1.setIfInBounds j d1[a]!)[a]! = ysw at *
         generalize d1[j]! = xi at *
         generalize d1[a]! = xj at *
         go_upto_region 15 with fail
         go_region
         all_goals
          have HS9 : Hid (SoAt ((w3.setCell ⟨g,j,none⟩ (.int .u64 xj)).setCell ⟨g,a,none⟩ (.int .u64 xi)).drew g (swp d1 j a) t) := SoAt.drew HSa9.out
          have HG9 : Hid (w.grownBy ((w3.setCell ⟨g,j,none⟩ (.int .u64 xj)).setCell ⟨g,a,none⟩ (.int .u64 xi)).drew (some g)) := qu HGa9.out
          clear HSa9 HGa9 c3 c4 f3 f4 f5 c5 hi1 hi2
          generalize ((w3.setCell ⟨g,j,none⟩ (.int .u64 xj)).setCell ⟨g,a,none⟩ (.int .u64 xi)).drew = w9 at *
          generalize swp d1 j a = d9 at *
          go_wp2
          go_ret2
          exact ⟨j,true,d9,rfl,HPT.out,HS9.out,HG9.out⟩
structure PE (d0 : Array Int) (a b i j : Nat) (d : Array Int) (p : Int) : Prop where
 sz : d.size = d0.size
 perm : PermIn a b d0 d
 piv : d[a]! = p
 ia : a + 1 ≤ i
 ij : i ≤ j + 1
 jb : j < b
 lo : ∀ x,a ≤ x → x < i → lt64 p d[x]! = false
 hi : ∀ x,j < x → x < b → lt64 p d[x]! = true
theorem PE.up {d0 : Array Int} {a b i j : Nat} {d : Array Int} {p : Int} (h : PE d0 a b i j d p) (hij : i ≤ j) (hl : lt64 p d[i]! = false) : PE d0 a b (i + 1) j d p :=
 ⟨h.sz,h.perm,h.piv,by have := h.ia; omega,by omega,h.jb,fun x h1 h2 => by
  by_cases e : x = i
  ·subst e; exact hl
  ·exact h.lo x h1 (by omega),h.hi⟩
theorem PE.down {d0 : Array Int} {a b i j : Nat} {d : Array Int} {p : Int} (h : PE d0 a b i (j + 1) d p) (hij : i ≤ j + 1) (hl : lt64 p d[j + 1]! = true) : PE d0 a b i j d p :=
 ⟨h.sz,h.perm,h.piv,h.ia,hij,by have := h.jb; omega,h.lo,fun x h1 h2 => by
  by_cases e : x = j + 1
  ·subst e; exact hl
  ·exact h.hi x (by omega) h2⟩
theorem PE.swap {d0 : Array Int} {a b i j : Nat} {d : Array Int} {p : Int} (h : PE d0 a b i (j + 1) d p) (hb : b ≤ d0.size) (hij : i ≤ j + 1) (h1 : lt64 p d[i]! = true) (h2 : lt64 p d[j + 1]! = false) : PE d0 a b (i + 1) j (swp d i (j + 1)) p := by
 have hne : i ≠ j + 1 := fun e => by subst e; rw [h1] at h2; cases h2
 have hia := h.ia
 have hjb := h.jb
 have hsz := h.sz
 refine ⟨by rw [Go.Sort.size_swp,hsz],Go.Sort.permIn_trans _ _ _ _ _ h.perm (Go.Sort.swp_permIn d a b i (j + 1) (by omega) (by omega) (by omega) hjb (by omega)),?_,by omega,by omega,by omega,fun x k1 k2 => ?_,fun x k1 k2 => ?_⟩
 ·rw [Go.Sort.swp_other _ _ _ _ (by omega) (by omega)]; exact h.piv
 ·by_cases e : x = i
  ·subst e
   rw [Go.Sort.swp_left _ _ _ (by omega) hne]; exact h2
  ·rw [Go.Sort.swp_other _ _ _ _ e (by omega)]; exact h.lo x k1 (by omega)
 ·by_cases e : x = j + 1
  ·subst e
   rw [Go.Sort.swp_right _ _ _ (by omega)]; exact h1
  ·rw [Go.Sort.swp_other _ _ _ _ (by omega) e]; exact h.hi x (by omega) k2
structure EqParted (d0 : Array Int) (a b m : Nat) (p : Int) (d : Array Int) : Prop where
 sz : d.size = d0.size
 ma : a < m
 mb : m ≤ b
 perm : PermIn a b d0 d
 lo : ∀ x,a ≤ x → x < m → lt64 p d[x]! = false
 hi : ∀ x,m ≤ x → x < b → lt64 p d[x]! = true
theorem PE.fin {d0 : Array Int} {a b i j : Nat} {d : Array Int} {p : Int} (h : PE d0 a b i j d p) (hij : ¬ i ≤ j) : EqParted d0 a b i p d := by
 have hia := h.ia
 have h0 := h.ij
 have hjb := h.jb
 exact ⟨h.sz,by omega,by omega,h.perm,h.lo,fun x k1 k2 => h.hi x (by omega) k2⟩
theorem qeR {d0 : Array Int} {a b q : Nat} (hab : a < b) (hb : b ≤ d0.size) (hq1 : a ≤ q) (hq2 : q < b) : PE d0 a b (a + 1) (b - 1) (swp d0 a q) d0[q]! := by
 have hp : (swp d0 a q)[a]! = d0[q]! := by
  by_cases e : a = q
  ·subst e; rw [Go.Sort.swp_right _ _ _ (by omega)]
  ·rw [Go.Sort.swp_left _ _ _ (by omega) e]
 refine ⟨Go.Sort.size_swp _ _ _,Go.Sort.swp_permIn d0 a b a q (Nat.le_refl _) hab hq1 hq2 hb,hp,Nat.le_refl _,by omega,by omega,fun x h1 h2 => ?_,fun x h1 h2 => by omega⟩
 obtain rfl : x = a := by omega
 rw [hp]; exact swo64.irrefl _
theorem q6W (g c a b q0 : Nat) (d0 : Array Int) (t : List Int) (w : World) (h : SoAt w g d0 t) (hab : a < b) (hb : b ≤ d0.size) (hq1 : a ≤ q0) (hq2 : q0 < b) (hn : d0.size ≤ 1000000) :
  Calls Tryz.prog 114 #[.slice (some ⟨g,0,none⟩) d0.size c,.int .i64 (a : Int),.int .i64 (b : Int),.int .i64 (q0 : Int)] w fun e w' => ∃ (m : Nat) (d1 : Array Int),e = .returned (.int .i64 (m : Int)) ∧ EqParted d0 a b m d0[q0]! d1 ∧ SoAt w' g d1 t ∧ w.grownBy w' (some g) := by
 obtain ⟨N,hN⟩ : ∃ N,d0.size = N := ⟨_,rfl⟩
 have HS0 : Hid (SoAt w g d0 t) := h
 have HD0 : Hid (d0.size = N) := hN
 have HG0 : Hid (w.grownBy w (some g)) := World.grownBy.refl _ _
 have HP0 : Hid _ := qeR hab hb hq1 hq2
 obtain ⟨J,hJ⟩ : ∃ J,b - 1 = J := ⟨_,rfl⟩
 rw [hJ] at HP0
 have HB : Hid (b ≤ d0.size) := hb
 rw [hN] at hb hn ⊢
 clear h hN
 go_enter Tryz.func114,Tryz.ntmps114
 have wi : IntKind.i64.wrap ((a : Int) + 1) = ((a + 1 : Nat) : Int) := by rw [IntKind.wrap_i64]; omega
 have wj : IntKind.i64.wrap ((b : Int) - 1) = (J : Int) := by rw [IntKind.wrap_i64]; omega
 have ej : (b : Int) - 1 = (J : Int) := by omega
 clear hJ
 obtain ⟨p,hp⟩ : ∃ p,p = d0[q0]! := ⟨_,rfl⟩
 rw [← hp] at HP0 ⊢
 have HPP : Hid (p = d0[q0]!) := hp
 clear hp
 go_wp2
 have hi1 := fun w' => qg g N c a w' (by omega)
 have hi2 := fun w' => qg g N c q0 w' (by omega)
 have hsw : SoAt w g d0 t := HS0.out
 have c3 := hsw.cell (i := a) (by rw [HD0.out]; omega)
 have c4 := hsw.cell (i := q0) (by rw [HD0.out]; omega)
 have f3 := hsw.fz a
 have f4 := hsw.fz q0
 have hswb : SoAt (w.setCell ⟨g,a,none⟩ (.int .u64 d0[q0]!)) g (d0.setIfInBounds a d0[q0]!) t := hsw.set (by rw [HD0.out]; omega) _
 have f5 := hswb.fz q0
 have c5 := hswb.cell (i := q0) (by rw [Array.size_setIfInBounds,HD0.out]; omega)
 have HSa1 : Hid (SoAt ((w.setCell ⟨g,a,none⟩ (.int .u64 d0[q0]!)).setCell ⟨g,q0,none⟩ (.int .u64 d0[a]!)) g (swp d0 a q0) t) := hsw.swap (by rw [HD0.out]; omega) (by rw [HD0.out]; omega)
 have HGa1 : Hid (w.grownBy ((w.setCell ⟨g,a,none⟩ (.int .u64 d0[q0]!)).setCell ⟨g,q0,none⟩ (.int .u64 d0[a]!)) (some g)) := qk (qk HG0.out _) _
 have HD1 : Hid ((swp d0 a q0).size = N) := by show _ = _; rw [Go.Sort.size_swp]; exact HD0.out
 clear hsw hswb
 generalize (d0.setIfInBounds a d0[q0]!)[q0]! = ysw at *
 generalize d0[a]! = xi at *
 generalize d0[q0]! = xj at *
 go_upto_region 15 with fail
 go_region
 all_goals
  have HS1 : Hid (SoAt ((w.setCell ⟨g,a,none⟩ (.int .u64 xj)).setCell ⟨g,q0,none⟩ (.int .u64 xi)).drew g (swp d0 a q0) t) := SoAt.drew HSa1.out
  have HG1 : Hid (w.grownBy ((w.setCell ⟨g,a,none⟩ (.int .u64 xj)).setCell ⟨g,q0,none⟩ (.int .u64 xi)).drew (some g)) := qu HGa1.out
  clear HSa1 HGa1 c3 c4 f3 f4 f5 c5 hi1 hi2
  generalize ((w.setCell ⟨g,a,none⟩ (.int .u64 xj)).setCell ⟨g,q0,none⟩ (.int .u64 xi)).drew = w1 at *
  generalize swp d0 a q0 = d1 at *
  go_wp2
  clear wi wj ej
  go_loopw [9,10] (fun iv jv wr => ∃ i j : Nat,iv = .int .i64 (i : Int) ∧ jv = .int .i64 (j : Int) ∧ ∃ dm : Array Int,Hid (dm.size = N) ∧ Hid (PE d0 a b i j dm p) ∧ Hid (SoAt wr g dm t) ∧ Hid (w.grownBy wr (some g))) (fun iv jv _ => (intOf jv + 1 - intOf iv).toNat)
  case atStart => exact ⟨a + 1,J,by go_num,rfl,d1,HD1,HP0,HS1,HG1⟩
  case round =>
   obtain ⟨i0,j0,rfl,rfl,dm,HDm,HPm,HSm,HGm⟩ := hrel
   clear HD1 HP0 HS1 HG1
   have a1 := HPm.out.ia
   have a2 := HPm.out.ij
   have a3 := HPm.out.jb
   go_wp2
   go_loopw [9] (fun sv wr => ∃ i : Nat,sv = .int .i64 (i : Int) ∧ Hid (PE d0 a b i j0 dm p) ∧ Hid (SoAt wr g dm t) ∧ Hid (w.grownBy wr (some g)) ∧ Hid (i0 ≤ i)) (fun sv _ => N + 1 - (intOf sv).toNat)
   case atStart => exact ⟨i0,by first | rfl | go_num,HPm,HSm,HGm,Nat.le_refl _⟩
   case round =>
    obtain ⟨i,rfl,HP5,HSr5,HGr5,HL5⟩ := hrel
    have bL := HL5.out
    clear HPm HSm HGm
    have b1 := HP5.out.ia
    have b2 := HP5.out.ij
    have b3 := HP5.out.jb
    obtain ⟨q,hq⟩ : ∃ q : Bool,q = (decide (i ≤ j0) && !lt64 dm[a]! dm[i]!) := ⟨_,rfl⟩
    have HQ : Hid (q = (decide (i ≤ j0) && !lt64 dm[a]! dm[i]!)) := hq
    clear hq
    go_upto_region 15 with fail
    go_cut [43] (fun cv wx => cv = .bool q ∧ Hid (SoAt wx g dm t) ∧ Hid (w.grownBy wx (some g)))
    case first =>
     by_cases hij : i ≤ j0
     ·have hd : decide ((i : Int) ≤ (j0 : Int)) = true := decide_eq_true (by omega)
      have hi1 := fun w' => qg g N c i w' (by omega)
      have hi2 := fun w' => qg g N c a w' (by omega)
      have hsw : SoAt wr g dm t := HSr5.out
      have c3 := hsw.cell (i := i) (by rw [HDm.out]; omega)
      have c4 := hsw.cell (i := a) (by rw [HDm.out]; omega)
      have hless := fun w' => qo dm[a]! dm[i]! w'
      have HQ2 : Hid (q = !(lt64 dm[a]! dm[i]!)) := by
       show _ = _
       rw [HQ.out,decide_eq_true hij]; rfl
      clear hsw HQ
      generalize lt64 dm[a]! dm[i]! = lv at *
      generalize dm[i]! = xv at *
      generalize dm[a]! = xa at *
      obtain rfl := HQ2.out
      go_quiet ((go_at_call 113; exact Calls.quiet_of_same (hless _)))
      go_wp2
      go_meet
      case rel => exact ⟨rfl,SoAt.drewN HSr5.out _,qj HGr5.out _⟩
     ·have hd : decide ((i : Int) ≤ (j0 : Int)) = false := decide_eq_false (by omega)
      have HQ2 : Hid (q = false) := by
       show _ = _
       rw [HQ.out,decide_eq_false hij]; rfl
      clear HQ
      obtain rfl := HQ2.out
      go_quiet (fail)
      go_wp2
      go_meet
      case rel => exact ⟨rfl,SoAt.drewN HSr5.out _,qj HGr5.out _⟩
    case rest =>
     obtain ⟨rfl,HS5,HG5⟩ := hcut
     clear HSr5 HGr5
     cases q with
     | true =>
      have hq := HQ.out.symm
      rw [Bool.and_eq_true,decide_eq_true_eq] at hq
      have HPX : Hid (PE d0 a b (i + 1) j0 dm p) := HP5.out.up hq.1 (by have h2 := hq.2; have h3 := HP5.out.piv; rw [← h3]; simpa using h2)
      clear HQ HP5
      go_wp2
      go_roundw
      case rel => exact ⟨i + 1,by go_num,HPX,HS5,HG5,by show _ ≤ _; omega⟩
      case measure => simp [intOf]; omega
     | false =>
      have HX5 : Hid (i ≤ j0 → lt64 dm[a]! dm[i]! = true) := fun h => by
       have := HQ.out
       rw [decide_eq_true h] at this
       simpa using this.symm
      clear HQ
      generalize wc = w5 at *
      go_wp2
      go_loopw [10] (fun sv wr => ∃ j : Nat,sv = .int .i64 (j : Int) ∧ Hid (PE d0 a b i j dm p) ∧ Hid (SoAt wr g dm t) ∧ Hid (w.grownBy wr (some g)) ∧ Hid (j ≤ j0)) (fun sv _ => (intOf sv).toNat)
      case atStart => exact ⟨j0,by first | rfl | go_num,HP5,HS5,HG5,Nat.le_refl _⟩
      case round =>
       obtain ⟨j,rfl,HP6,HSr6,HGr6,HL6⟩ := hrel
       have bL := HL6.out
       clear HP5 HS5 HG5
       have b1 := HP6.out.ia
       have b2 := HP6.out.ij
       have b3 := HP6.out.jb
       obtain ⟨q,hq⟩ : ∃ q : Bool,q = (decide (i ≤ j) && lt64 dm[a]! dm[j]!) := ⟨_,rfl⟩
       have HQ : Hid (q = (decide (i ≤ j) && lt64 dm[a]! dm[j]!)) := hq
       clear hq
       go_upto_region 15 with fail
       go_cut [59] (fun cv wx => cv = .bool q ∧ Hid (SoAt wx g dm t) ∧ Hid (w.grownBy wx (some g)))
       case first =>
        by_cases hij : i ≤ j
        ·have hd : decide ((i : Int) ≤ (j : Int)) = true := decide_eq_true (by omega)
         have hi1 := fun w' => qg g N c j w' (by omega)
         have hi2 := fun w' => qg g N c a w' (by omega)
         have hsw : SoAt wr g dm t := HSr6.out
         have c3 := hsw.cell (i := j) (by rw [HDm.out]; omega)
         have c4 := hsw.cell (i := a) (by rw [HDm.out]; omega)
         have hless := fun w' => qo dm[a]! dm[j]! w'
         have HQ2 : Hid (q = (lt64 dm[a]! dm[j]!)) := by
          show _ = _
          rw [HQ.out,decide_eq_true hij]; rfl
         clear hsw HQ
         generalize lt64 dm[a]! dm[j]! = lv at *
         generalize dm[j]! = xv at *
         generalize dm[a]! = xa at *
         obtain rfl := HQ2.out
         go_quiet ((go_at_call 113; exact Calls.quiet_of_same (hless _)))
         go_wp2
         go_meet
         case rel => exact ⟨rfl,SoAt.drewN HSr6.out _,qj HGr6.out _⟩
        ·have hd : decide ((i : Int) ≤ (j : Int)) = false := decide_eq_false (by omega)
         have HQ2 : Hid (q = false) := by
          show _ = _
          rw [HQ.out,decide_eq_false hij]; rfl
         clear HQ
         obtain rfl := HQ2.out
         go_quiet (fail)
         go_wp2
         go_meet
         case rel => exact ⟨rfl,SoAt.drewN HSr6.out _,qj HGr6.out _⟩
       case rest =>
        obtain ⟨rfl,HS6,HG6⟩ := hcut
        clear HSr6 HGr6
        cases q with
        | true =>
         have hq := HQ.out.symm
         rw [Bool.and_eq_true,decide_eq_true_eq] at hq
         obtain ⟨jm,hjm⟩ : ∃ jm,j = jm + 1 := ⟨j - 1,by omega⟩
         have hdec : IntKind.i64.wrap ((j : Int) - 1) = (jm : Int) := by rw [IntKind.wrap_i64]; omega
         have HPX : Hid (PE d0 a b i jm dm p) := by
          subst hjm
          exact HP6.out.down hq.1 (by have h2 := hq.2; have h3 := HP6.out.piv; rw [← h3]; simpa using h2)
         have hlt : jm < j := by omega
         clear HQ HP6 hjm hq
         go_wp2
         go_roundw
         case rel => exact ⟨jm,rfl,HPX,HS6,HG6,by show _ ≤ _; omega⟩
         case measure => simp [intOf]; omega
        | false =>
         have HX6 : Hid (i ≤ j → lt64 dm[a]! dm[j]! = false) := fun h => by
          have := HQ.out
          rw [decide_eq_true h] at this
          simpa using this.symm
         clear HQ
         generalize wc = w6 at *
         by_cases hij : i ≤ j
         ·have hij2 : ¬ (j : Int) < (i : Int) := by omega
          obtain ⟨jm,hjm⟩ : ∃ jm,j = jm + 1 := ⟨j - 1,by omega⟩
          have hdec : IntKind.i64.wrap ((j : Int) - 1) = (jm : Int) := by rw [IntKind.wrap_i64]; omega
          have ejm : (j : Int) - 1 = (jm : Int) := by omega
          have HPS : Hid (PE d0 a b (i + 1) jm (swp dm i j) p) := by
           have h1 := HX5.out (by omega)
           have h2 := HX6.out hij
           rw [HP6.out.piv] at h1 h2
           subst hjm
           exact HP6.out.swap HB.out hij h1 h2
          have hi0 : i0 ≤ i := HL5.out
          have hjj : jm < j0 := by omega
          clear HX5 HX6 HP6 hjm
          go_wp2
          have hi1 := fun w' => qg g N c i w' (by omega)
          have hi2 := fun w' => qg g N c j w' (by omega)
          have hsw : SoAt w6 g dm t := HS6.out
          have c3 := hsw.cell (i := i) (by rw [HDm.out]; omega)
          have c4 := hsw.cell (i := j) (by rw [HDm.out]; omega)
          have f3 := hsw.fz i
          have f4 := hsw.fz j
          have hswb : SoAt (w6.setCell ⟨g,i,none⟩ (.int .u64 dm[j]!)) g (dm.setIfInBounds i dm[j]!) t := hsw.set (by rw [HDm.out]; omega) _
          have f5 := hswb.fz j
          have c5 := hswb.cell (i := j) (by rw [Array.size_setIfInBounds,HDm.out]; omega)
          have HSa7 : Hid (SoAt ((w6.setCell ⟨g,i,none⟩ (.int .u64 dm[j]!)).setCell ⟨g,j,none⟩ (.int .u64 dm[i]!)) g (swp dm i j) t) := hsw.swap (by rw [HDm.out]; omega) (by rw [HDm.out]; omega)
          have HGa7 : Hid (w.grownBy ((w6.setCell ⟨g,i,none⟩ (.int .u64 dm[j]!)).setCell ⟨g,j,none⟩ (.int .u64 dm[i]!)) (some g)) := qk (qk HG6.out _) _
          have HD7 : Hid ((swp dm i j).size = N) := by show _ = _; rw [Go.Sort.size_swp]; exact HDm.out
          clear hsw hswb
          generalize (dm.setIfInBounds i dm[j]!)[j]! = ysw at *
          generalize dm[i]! = xi at *
          generalize dm[j]! = xj at *
          go_upto_region 15 with fail
          go_region
          all_goals
           have HS7 : Hid (SoAt ((w6.setCell ⟨g,i,none⟩ (.int .u64 xj)).setCell ⟨g,j,none⟩ (.int .u64 xi)).drew g (swp dm i j) t) := SoAt.drew HSa7.out
           have HG7 : Hid (w.grownBy ((w6.setCell ⟨g,i,none⟩ (.int .u64 xj)).setCell ⟨g,j,none⟩ (.int .u64 xi)).drew (some g)) := qu HGa7.out
           clear HSa7 HGa7 c3 c4 f3 f4 f5 c5 hi1 hi2
           generalize ((w6.setCell ⟨g,i,none⟩ (.int .u64 xj)).setCell ⟨g,j,none⟩ (.int .u64 xi)).drew = w7 at *
           generalize swp dm i j = d7 at *
           go_wp2
           go_roundw
           case rel => exact ⟨i + 1,jm,by go_num,rfl,d7,HD7,HPS,HS7,HG7⟩
           case measure => simp [intOf]; omega
         ·have HPT : Hid (EqParted d0 a b i p dm) := HP6.out.fin hij
          have hij' : (j : Int) < (i : Int) := by omega
          clear HP6
          go_wp2
          go_ret
          exact ⟨i,dm,rfl,HPT.out,HS6.out,HG6.out⟩
end Go.Proofs.YtailhklbmenaoaaGreatDoor
namespace Go.Proofs.YtailhklbmenaoaaGreatDoor
open Go.Sort (swp PermIn SortedIn)
structure PQ (a0 b0 a b : Nat) (d0 d : Array Int) : Prop where
 a1 : a0 ≤ a
 ab : a ≤ b
 b1 : b ≤ b0
 sz : d.size = d0.size
 perm : PermIn a0 b0 d0 d
 bel : Go.Sort.Below lt64 a b d
 fin : ∀ d' : Array Int,PermIn a b d d' → SortedIn lt64 a b d' → SortedIn lt64 a0 b0 d'
theorem qeT {a b : Nat} {d : Array Int} (hab : a ≤ b) (hB : Go.Sort.Below lt64 a b d) : PQ a b a b d d :=
 ⟨Nat.le_refl _,hab,Nat.le_refl _,rfl,Go.Sort.permIn_refl d a b,hB,fun _ _ h => h⟩
theorem PQ.up {a0 b0 a b : Nat} {d0 d d' : Array Int} (h : PQ a0 b0 a b d0 d) (hb : b0 ≤ d0.size) (hp : PermIn a b d d') : PermIn a0 b0 d0 d' :=
 Go.Sort.permIn_trans _ _ _ _ _ h.perm (Go.Sort.permIn_mono d d' a b a0 b0 h.a1 h.b1 (by rw [h.sz]; exact hb) hp)
theorem qcP {a b : Nat} {d d' : Array Int} (hb : b ≤ d.size) (h : Go.Sort.Below lt64 a b d) (hp : PermIn a b d d') : Go.Sort.Below lt64 a b d' := by
 rcases h with h | h
 ·exact Or.inl h
 ·by_cases ha : a = 0
  ·exact Or.inl ha
  ·right
   rw [hp.2.1 (a - 1) (by omega)]
   exact Go.Sort.permIn_all d d' a b (fun x => lt64 x d[a - 1]! = false) hb hp h
theorem PQ.move {a0 b0 a b : Nat} {d0 d d' : Array Int} (h : PQ a0 b0 a b d0 d) (hb : b0 ≤ d0.size) (hp : PermIn a b d d') : PQ a0 b0 a b d0 d' :=
 ⟨h.a1,h.ab,h.b1,hp.1.trans h.sz,h.up hb hp,qcP (by have := h.b1; rw [h.sz]; omega) h.bel hp,fun e h1 h2 => h.fin e (Go.Sort.permIn_trans _ _ _ _ _ hp h1) h2⟩
theorem q5t {a b m : Nat} {d : Array Int} {p : Int} (hp : d[m]! = p) (hl : SortedIn lt64 a m d) (hr : SortedIn lt64 (m + 1) b d) (h1 : ∀ x,a ≤ x → x < m → lt64 d[x]! p = true) (h2 : ∀ x,m < x → x < b → lt64 d[x]! p = false) : SortedIn lt64 a b d := by
 have no : ∀ x y : Int,lt64 x p = true → lt64 y p = false → lt64 y x = false := fun x y k1 k2 => by
  cases k : lt64 y x with
  | false => rfl
  | true => rw [swo64.trans y x p k k1] at k2; cases k2
 intro i j hi hij hj
 by_cases c1 : j < m
 ·exact hl i j hi hij c1
 ·by_cases c2 : j = m
  ·subst c2
   rw [hp]
   exact no _ _ (h1 i hi hij) (swo64.irrefl p)
  ·by_cases c3 : i < m
   ·exact no _ _ (h1 i hi c3) (h2 j (by omega) hj)
   ·by_cases c4 : i = m
    ·subst c4
     rw [hp]
     exact h2 j hij hj
    ·exact hr i j (by omega) hij hj
theorem PQ.left {a0 b0 a b m : Nat} {d0 d d4 d5 : Array Int} (h : PQ a0 b0 a b d0 d) (hb : b0 ≤ d0.size) (hP : Parted d a b m d4) (hp : PermIn a m d4 d5) (hs : SortedIn lt64 a m d5) : PQ a0 b0 (m + 1) b d0 d5 := by
 have hsz := h.sz
 have hsz4 := hP.sz
 have hb1 := h.b1
 have hma := hP.ma
 have hmb := hP.mb
 have h4 := h.move hb hP.perm
 have e5 : ∀ x,m ≤ x → d5[x]! = d4[x]! := fun x hx => hp.2.1 x (Or.inr hx)
 have k5 : PermIn a b d4 d5 := Go.Sort.permIn_mono d4 d5 a m a b (Nat.le_refl _) (by omega) (by omega) hp
 have lo5 : ∀ x,a ≤ x → x < m → lt64 d5[x]! d4[m]! = true := Go.Sort.permIn_all d4 d5 a m (fun x => lt64 x d4[m]! = true) (by omega) hp hP.lo
 refine ⟨by have := h.a1; omega,by omega,hb1,hp.1.trans (hsz4.trans hsz),h4.up hb k5,Or.inr fun i h1 h2 => ?_,fun e h1 h2 => ?_⟩
 ·rw [show m + 1 - 1 = m by omega,e5 i (by omega),e5 m (Nat.le_refl _)]
  exact hP.hi i (by omega) h2
 ·have kk : PermIn a b d5 e := Go.Sort.permIn_mono d5 e (m + 1) b a b (by omega) (Nat.le_refl _) (by rw [hp.1]; omega) h1
  have ee : ∀ x,x < m + 1 → e[x]! = d5[x]! := fun x hx => h1.2.1 x (Or.inl hx)
  have hie : ∀ x,m + 1 ≤ x → x < b → lt64 e[x]! d4[m]! = false := Go.Sort.permIn_all d5 e (m + 1) b (fun x => lt64 x d4[m]! = false) (by rw [hp.1]; omega) h1 (fun i k1 k2 => by rw [e5 i (by omega)]; exact hP.hi i (by omega) k2)
  refine h4.fin e (Go.Sort.permIn_trans _ _ _ _ _ k5 kk) (q5t (m := m) (p := d4[m]!) ?_ ?_ h2 ?_ ?_)
  ·rw [ee m (by omega),e5 m (Nat.le_refl _)]
  ·intro i j hi hij hj
   rw [ee i (by omega),ee j (by omega)]
   exact hs i j hi hij hj
  ·intro x k1 k2
   rw [ee x (by omega)]
   exact lo5 x k1 k2
  ·intro x k1 k2
   exact hie x (by omega) k2
theorem PQ.right {a0 b0 a b m : Nat} {d0 d d4 d5 : Array Int} (h : PQ a0 b0 a b d0 d) (hb : b0 ≤ d0.size) (hP : Parted d a b m d4) (hp : PermIn (m + 1) b d4 d5) (hs : SortedIn lt64 (m + 1) b d5) : PQ a0 b0 a m d0 d5 := by
 have hsz := h.sz
 have hsz4 := hP.sz
 have hb1 := h.b1
 have hma := hP.ma
 have hmb := hP.mb
 have h4 := h.move hb hP.perm
 have e5 : ∀ x,x < m + 1 → d5[x]! = d4[x]! := fun x hx => hp.2.1 x (Or.inl hx)
 have k5 : PermIn a b d4 d5 := Go.Sort.permIn_mono d4 d5 (m + 1) b a b (by omega) (Nat.le_refl _) (by omega) hp
 have hi5 : ∀ x,m + 1 ≤ x → x < b → lt64 d5[x]! d4[m]! = false := Go.Sort.permIn_all d4 d5 (m + 1) b (fun x => lt64 x d4[m]! = false) (by omega) hp (fun i k1 k2 => hP.hi i (by omega) k2)
 refine ⟨h.a1,hma,by omega,hp.1.trans (hsz4.trans hsz),h4.up hb k5,?_,fun e h1 h2 => ?_⟩
 ·rcases h4.bel with k | k
  ·exact Or.inl k
  ·right
   intro i h1 h2
   rw [e5 i (by omega),e5 (a - 1) (by omega)]
   exact k i h1 (by omega)
 ·have kk : PermIn a b d5 e := Go.Sort.permIn_mono d5 e a m a b (Nat.le_refl _) (by omega) (by rw [hp.1]; omega) h1
  have ee : ∀ x,m ≤ x → e[x]! = d5[x]! := fun x hx => h1.2.1 x (Or.inr hx)
  have loe : ∀ x,a ≤ x → x < m → lt64 e[x]! d4[m]! = true := Go.Sort.permIn_all d5 e a m (fun x => lt64 x d4[m]! = true) (by rw [hp.1]; omega) h1 (fun i k1 k2 => by rw [e5 i (by omega)]; exact hP.lo i k1 k2)
  refine h4.fin e (Go.Sort.permIn_trans _ _ _ _ _ k5 kk) (q5t (m := m) (p := d4[m]!) ?_ h2 ?_ loe ?_)
  ·rw [ee m (Nat.le_refl _),e5 m (by omega)]
  ·intro i j hi hij hj
   rw [ee i (by omega),ee j (by omega)]
   exact hs i j hi hij hj
  ·intro x k1 k2
   rw [ee x (by omega)]
   exact hi5 x (by omega) k2
theorem PQ.eq {a0 b0 a b m q : Nat} {d0 d d4 : Array Int} (h : PQ a0 b0 a b d0 d) (hb : b0 ≤ d0.size) (ha : 0 < a) (hl : lt64 d[a - 1]! d[q]! = false) (hP : EqParted d a b m d[q]! d4) : PQ a0 b0 m b d0 d4 := by
 have hsz := h.sz
 have hsz4 := hP.sz
 have hb1 := h.b1
 have hma := hP.ma
 have hmb := hP.mb
 have h4 := h.move hb hP.perm
 have nl : ∀ i,a ≤ i → i < b → lt64 d[i]! d[q]! = false := fun i k1 k2 => by
  rcases h.bel with k | k
  ·omega
  ·exact swo64.ntrans _ _ _ (k i k1 k2) hl
 have nl4 : ∀ i,a ≤ i → i < b → lt64 d4[i]! d[q]! = false := Go.Sort.permIn_all d d4 a b (fun x => lt64 x d[q]! = false) (by omega) hP.perm nl
 have no : ∀ x y : Int,lt64 d[q]! y = true → lt64 d[q]! x = false → lt64 y x = false := fun x y k1 k2 => by
  cases k : lt64 y x with
  | false => rfl
  | true => rw [swo64.trans _ _ _ k1 k] at k2; cases k2
 refine ⟨by have := h.a1; omega,hmb,hb1,hsz4.trans hsz,h4.perm,Or.inr fun i h1 h2 => no _ _ (hP.hi i h1 h2) (hP.lo (m - 1) (by omega) (by omega)),fun e h1 h2 => ?_⟩
 have kk : PermIn a b d4 e := Go.Sort.permIn_mono d4 e m b a b (by omega) (Nat.le_refl _) (by omega) h1
 have ee : ∀ x,x < m → e[x]! = d4[x]! := fun x hx => h1.2.1 x (Or.inl hx)
 have hie : ∀ x,m ≤ x → x < b → lt64 d[q]! e[x]! = true := Go.Sort.permIn_all d4 e m b (fun x => lt64 d[q]! x = true) (by omega) h1 hP.hi
 refine h4.fin e kk fun i j hi hij hj => ?_
 by_cases c1 : j < m
 ·rw [ee i (by omega),ee j c1]
  exact swo64.ntrans _ _ _ (nl4 j (by omega) hj) (hP.lo i hi (by omega))
 ·by_cases c2 : i < m
  ·rw [ee i c2]
   exact no _ _ (hie j (by omega) hj) (hP.lo i hi c2)
  ·exact h2 i j (by omega) hij hj
end Go.Proofs.YtailhklbmenaoaaGreatDoor
