/- Package parse: the other lines of the tables. (Written by mkpb2.py.) -/
import Derived.Test.YtfipefbaabkdeaaGreatDoorWPb5
namespace Go.Proofs.YtfipefbaabkdeaaGreatDoor
open Go.RowKit Go.Maps

theorem and_addO {y : Except Er (List Tk5 × List Wd)} {x : Except Er (List Tk5 × List Wd)} {op : Nat} (h : andR (some y) (fun t r => okR (t ++ [(op, 0)]) r) = some x) : x = addO op y := by
  cases y with
  | error e => simp [andR] at h; rw [← h]; rfl
  | ok q => simp [andR, okR] at h; rw [← h]; rfl
theorem and_want {y : Except Er (List Tk5 × List Wd)} {x : Except Er (List Tk5 × List Wd)} {s : Bytes} {fin : Int} (h : andR (some y) (fun t r => if hdT r = s then okR t r.tail else erR 150 (plc fin r)) = some x) : x = wantX fin s y := by
  cases y with
  | error e => simp [andR] at h; rw [← h]; rfl
  | ok q =>
    obtain ⟨t, r⟩ := q
    simp only [andR] at h
    by_cases he : hdT r = s
    · rw [if_pos he] at h; simp [okR] at h; rw [← h]; simp [wantX, he]
    · rw [if_neg he] at h; simp [erR] at h; rw [← h]; simp [wantX, he]
theorem Cont.lev5 {E : Ev} {n : Nat} {F : FuncId} (h : Cont E n .una F) : Cont E n (.lev 5) F := fun p T w x hC hx => by
  cases n with
  | zero => simp [rd5] at hx
  | succ m =>
    rw [rd5, if_pos (by omega)] at hx
    exact h p T w x hC (rd5_mono (by omega) _ hx)
theorem more_right (ns : List Bytes) (fin : Int) (m k : Nat) (ws : List Wd) (hk : rightB k = true) :
    rd5 ns fin (m + 1) (.more k) ws = match opOf k (hdT ws) with | none => okR [] ws | some op => andR (rd5 ns fin m (.lev k) ws.tail) (fun t r => okR (t ++ [(op, 0)]) r) := by
  rw [rd5]
  cases opOf k (hdT ws) with
  | none => rfl
  | some op => simp only [hk]; rfl
theorem addX_addO (t : List Tk5) (op : Nat) (y : Except Er (List Tk5 × List Wd)) {x : Except Er (List Tk5 × List Wd)} (h : andR (some (addO op y)) (fun u r' => okR (t ++ u) r') = some x) : x = addX t (addO op y) := by
  cases y with
  | error e => simp [addO, andR] at h; rw [← h]; rfl
  | ok q => simp [addO, andR, okR] at h; rw [← h]; simp [addX, addO]
theorem PC_addX {E : Ev} {T t : List Tk5} {y : Except Er (List Tk5 × List Wd)} {e : Ending} {w : World} (h : PC E (T ++ t) y e w) : PC E T (addX t y) e w := by
  cases y with
  | error er => exact h
  | ok q =>
    obtain ⟨h1, h2⟩ := h
    exact ⟨h1, by rw [← List.append_assoc]; exact h2⟩
theorem PC_end {E : Ev} {T : List Tk5} {x : Except Er (List Tk5 × List Wd)} {e : Ending} {w : World} (h : PC E T x e w) : (∃ pe, e = .panicked pe) ∨ e = .returned (.tuple #[]) := by
  cases x with
  | error er => exact Or.inl ⟨_, h.1⟩
  | ok q => exact Or.inr h.1

set_option maxHeartbeats 4000000 in
set_option maxRecDepth 100000 in
theorem Tryz.pstar_c (E : Ev) (n : Nat) (hS : Cont E n .bar 112) : Cont E (n + 1) (.pat 2) 111 := by
  intro p T w x hC hx
  rw [pat_star] at hx
  obtain ⟨y1, hy1⟩ := some_of_and hx
  rw [hy1] at hx
  have hf := hS p T w y1 hC hy1
  have hpl := hC.ple
  clear hC hS
  cases y1 with
  | error er =>
    obtain ⟨e1, e2⟩ := er
    simp [andR] at hx
    subst hx
    go_enter Tryz.func111, Tryz.ntmps111
    go_wp2_with fail
    refine hf.mono ?_
    rintro e w1 ⟨rfl, hg⟩
    exact ⟨rfl, rfl, hg⟩
  | ok q =>
    obtain ⟨t, r⟩ := q
    simp only [andR] at hx
    obtain ⟨y2, hy2⟩ : ∃ y, rd5 (nms E.ss) E.fin n (.pmore 2) r = some y := some_of_and (x := rd5 (nms E.ss) E.fin n (.pmore 2) r) (f := fun u r' => okR (t ++ u) r') hx
    obtain ⟨hr, h1, h2, h3⟩ := rest_of hpl hy1
    have HX : Hid (x = addX t y2) := by
      show _ = _
      rw [hy2] at hx
      cases y2 with
      | error e => simp at hx; rw [← hx]; rfl
      | ok q => simp [okR] at hx; rw [← hx]; rfl
    have HY : Hid (rd5 (nms E.ss) E.fin n (.pmore 2) (E.ws.drop (E.ws.length - r.length)) = some y2) := by
      show _ = _
      rw [hr]; exact hy2
    clear hx hy1 hy2 hr
    go_enter Tryz.func111, Tryz.ntmps111
    go_wp2_with fail
    refine hf.mono ?_
    rintro e w1 ⟨rfl, hC1⟩
    have HC1 : Hid (Cx E w1 (E.ws.length - r.length) (T ++ t)) := hC1
    clear hf hC1
    go_wp2
    go_loopw [] (fun wr => ∃ (p m : Nat) (t : List Tk5) (y : Except Er (List Tk5 × List Wd)), m ≤ n ∧ p ≤ E.ws.length ∧ Hid (x = addX t y) ∧ Hid (rd5 (nms E.ss) E.fin m (.pmore 2) (E.ws.drop p) = some y) ∧ Hid (Cx E wr p (T ++ t))) (fun wr => E.ws.length - posOf wr E.g)
    case atStart => exact ⟨E.ws.length - r.length, n, t, y2, Nat.le_refl _, by omega, HX, HY, HC1⟩
    case round =>
      clear HX HY HC1 h1 h2 h3
      obtain ⟨p, m, t, y, hm, hpw, HX, HY, HC⟩ := hrel
      obtain ⟨m, rfl⟩ : ∃ m', m = m' + 1 := by
        cases m with
        | zero => have := HY.out; simp [rd5] at this
        | succ m => exact ⟨m, rfl⟩
      have hy := HY.out
      rw [pmore_star] at hy
      have hTx := Tryz.ptext_any E p (T ++ t) wr HC.out
      by_cases he : hdT (E.ws.drop p) = [42]
      · rw [if_pos he] at hy
        have hlt := hd_lt he (by simp)
        rw [List.tail_drop] at hy
        obtain ⟨y1, hy1⟩ := some_of_and hy
        rw [hy1] at hy
        have hB := fun q => Tryz.ppass_any E p (T ++ t) 23 (by omega) (wr.drewN q) (HC.out.drew q) hlt
        rw [he] at hTx
        have hXs : ((mkB [42]).toList == [42]) = true := by rw [mkB_toList]; simp
        have HPW : Hid (posOf wr E.g = p) := posOf_cx HC.out
        clear he HY HC
        go_wp2_with fail
        refine hTx.mono ?_
        rintro e w2 ⟨rfl, k, rfl⟩
        clear hTx
        go_wp2_with fail
        refine (hB k).mono ?_
        rintro e w3 ⟨rfl, hC3⟩
        have HXN : Hid (x = addX (t ++ [(23, 0)]) y1) := by
          show _ = _
          cases y1 with
          | error e => simp [andR] at hy; rw [HX.out, ← hy]; rfl
          | ok q => simp [andR, okR] at hy; rw [HX.out, ← hy]; simp [addX]
        have HYN : Hid (rd5 (nms E.ss) E.fin m (.pmore 2) (E.ws.drop (p + 1)) = some y1) := hy1
        have HCN : Hid (Cx E w3 (p + 1) (T ++ (t ++ [(23, 0)]))) := by
          rw [← List.append_assoc]; exact hC3
        have HPN : Hid (posOf w3 E.g = p + 1) := posOf_cx hC3
        clear hC3 hy hy1 hB
        go_wp2
        go_roundw
        case rel => exact ⟨p + 1, m, t ++ [(23, 0)], y1, by omega, by omega, HXN, HYN, HCN⟩
        case measure => rw [HPN.out, HPW.out]; omega
      · rw [if_neg he] at hy
        have hXs : ((mkB (hdT (E.ws.drop p))).toList == [42]) = false := by rw [mkB_toList]; simpa using he
        generalize mkB (hdT (E.ws.drop p)) = X at *
        have HXX : Hid (x = .ok (t, E.ws.drop p)) := by
          show _ = _
          simp only [okR, Option.some.injEq] at hy
          rw [HX.out, ← hy]; simp [addX]
        clear he hy
        go_wp2_with fail
        refine hTx.mono ?_
        rintro e w2 ⟨rfl, k, rfl⟩
        have HC2 : Hid (Cx E (wr.drewN k) p (T ++ t)) := HC.out.drew k
        clear hTx
        go_wp2
        go_end0
        rw [HXX.out]
        refine ⟨rfl, ?_⟩
        have : E.ws.length - (E.ws.drop p).length = p := by rw [List.length_drop]; omega
        rw [this]; exact HC2.out

set_option maxHeartbeats 4000000 in
set_option maxRecDepth 100000 in
theorem Tryz.pimp_c (E : Ev) (n : Nat) (hS : Cont E n (.lev 2) 66) (hI : Cont E n (.lev 1) 49) : Cont E (n + 1) (.lev 1) 49 := by
  intro p0 T w x hC hx
  rw [lev_down _ _ _ 1 _ (by omega)] at hx
  obtain ⟨y1, hy1⟩ := some_of_and hx
  rw [hy1] at hx
  have hf := hS p0 T w y1 hC hy1
  have hmf := mkfn
  have hpl := hC.ple
  clear hC hS
  cases y1 with
  | error er =>
    obtain ⟨e1, e2⟩ := er
    simp [andR] at hx
    subst hx
    go_enter Tryz.func49, Tryz.ntmps49
    go_wp2_with fail
    refine hf.mono ?_
    rintro e w1 ⟨rfl, hg⟩
    exact ⟨rfl, rfl, hg⟩
  | ok q =>
    obtain ⟨t, r⟩ := q
    obtain ⟨hr, h1, h2, h3⟩ := rest_of hpl hy1
    obtain ⟨m, rfl⟩ : ∃ m, n = m + 1 := by
      cases n with
      | zero => simp [rd5] at hy1
      | succ m => exact ⟨m, rfl⟩
    clear hy1
    obtain ⟨p, hp⟩ : ∃ p, E.ws.length - r.length = p := ⟨_, rfl⟩
    rw [hp] at hr
    subst hr
    simp only [andR] at hx
    have hx : andR (rd5 (nms E.ss) E.fin (m + 1) (.more 1) (E.ws.drop p)) (fun u r' => okR (t ++ u) r') = some x := hx
    rw [more_right _ _ _ _ _ rfl, List.tail_drop] at hx
    have hTx := fun w (hC : Cx E w p (T ++ t)) => Tryz.ptext_any E p (T ++ t) w hC
    have hf : Calls Tryz.prog 66 #[.pointer (some ⟨E.g, 0, none⟩)] w (fun e w' => e = .returned (.tuple #[]) ∧ Cx E w' p (T ++ t)) := by
      refine hf.mono ?_
      rintro e w1 ⟨h1, h2⟩
      rw [hp] at h2
      exact ⟨h1, h2⟩
    clear hp h1 h2 h3
    by_cases hn0 : hdT (E.ws.drop p) = [45, 62]
    · have hlt := hd_lt hn0 (by simp)
      rw [hn0] at hx hTx
      have hx : andR (andR (rd5 (nms E.ss) E.fin m (.lev 1) (E.ws.drop (p + 1))) (fun t r => okR (t ++ [(13, 0)]) r)) (fun u r' => okR (t ++ u) r') = some x := hx
      obtain ⟨y2, hy2⟩ : ∃ y, rd5 (nms E.ss) E.fin m (.lev 1) (E.ws.drop (p + 1)) = some y := by
        obtain ⟨z, hz⟩ := some_of_and hx
        exact some_of_and hz
      have hx2 : x = addX t (addO 13 y2) := by
        obtain ⟨z, hz⟩ := some_of_and hx
        rw [hy2] at hz
        have e := and_addO hz
        rw [hy2, hz, e] at hx
        exact addX_addO t 13 y2 hx
      have hB := fun w (hC : Cx E w p (T ++ t)) => Tryz.pbehind_any E m (.lev 1) 49 Tryz.call49 (hI.le (by omega)) p (T ++ t) 13 (by omega) w hC hlt y2 hy2
      have hX0 : ((mkB [45, 62]).toList == [45, 62]) = true := by rw [mkB_toList]; rfl
      clear hx hy2
      subst hx2
      go_enter Tryz.func49, Tryz.ntmps49
      go_wp2_with fail
      refine hf.mono ?_
      rintro e w1 ⟨rfl, hC1⟩
      have hTx := hTx w1 hC1
      have hB := fun q => hB (w1.drewN q) (hC1.drew q)
      clear hC1 hf
      go_wp2_with fail
      refine hTx.mono ?_
      rintro e w2 ⟨rfl, k, rfl⟩
      clear hTx
      go_wp2_with fail
      refine (hB k).mono ?_
      intro e w3 hpc
      rcases PC_end hpc with ⟨pe, rfl⟩ | rfl
      · exact ⟨rfl, (PC_addX hpc)⟩
      · go_wp2
        go_end0
        exact (PC_addX hpc)
    · have hop : opOf 1 (hdT (E.ws.drop p)) = none := by simp [opOf, hn0]
      rw [hop] at hx
      simp [andR, okR] at hx
      have hX0 : ((mkB (hdT (E.ws.drop p))).toList == [45, 62]) = false := by rw [mkB_toList]; simpa using hn0
      subst hx
      have hpw : ∀ w, Cx E w p (T ++ t) → p ≤ E.ws.length := fun w h => h.ple
      generalize mkB (hdT (E.ws.drop p)) = X at *
      clear hop
      go_enter Tryz.func49, Tryz.ntmps49
      go_wp2_with fail
      refine hf.mono ?_
      rintro e w1 ⟨rfl, hC1⟩
      have hTx := hTx w1 hC1
      have HC1 : Hid (Cx E w1 p (T ++ t)) := hC1
      have hpl := hpw _ hC1
      clear hC1 hf hpw
      go_wp2_with fail
      refine hTx.mono ?_
      rintro e w2 ⟨rfl, k, rfl⟩
      clear hTx
      have HC2 : Hid (Cx E (w1.drewN k) p (T ++ t)) := HC1.out.drew k
      go_wp2
      go_end0
      refine ⟨rfl, ?_⟩
      have : E.ws.length - (E.ws.drop p).length = p := by rw [List.length_drop]; omega
      rw [this]; exact HC2.out

set_option maxHeartbeats 4000000 in
set_option maxRecDepth 100000 in
theorem Tryz.puntil_c (E : Ev) (n : Nat) (hS : Cont E n (.lev 5) 102) (hI : Cont E n (.lev 4) 99) : Cont E (n + 1) (.lev 4) 99 := by
  intro p0 T w x hC hx
  rw [lev_down _ _ _ 4 _ (by omega)] at hx
  obtain ⟨y1, hy1⟩ := some_of_and hx
  rw [hy1] at hx
  have hf := hS p0 T w y1 hC hy1
  have hmf := mkfn
  have hpl := hC.ple
  clear hC hS
  cases y1 with
  | error er =>
    obtain ⟨e1, e2⟩ := er
    simp [andR] at hx
    subst hx
    go_enter Tryz.func99, Tryz.ntmps99
    go_wp2_with fail
    refine hf.mono ?_
    rintro e w1 ⟨rfl, hg⟩
    exact ⟨rfl, rfl, hg⟩
  | ok q =>
    obtain ⟨t, r⟩ := q
    obtain ⟨hr, h1, h2, h3⟩ := rest_of hpl hy1
    obtain ⟨m, rfl⟩ : ∃ m, n = m + 1 := by
      cases n with
      | zero => simp [rd5] at hy1
      | succ m => exact ⟨m, rfl⟩
    clear hy1
    obtain ⟨p, hp⟩ : ∃ p, E.ws.length - r.length = p := ⟨_, rfl⟩
    rw [hp] at hr
    subst hr
    simp only [andR] at hx
    have hx : andR (rd5 (nms E.ss) E.fin (m + 1) (.more 4) (E.ws.drop p)) (fun u r' => okR (t ++ u) r') = some x := hx
    rw [more_right _ _ _ _ _ rfl, List.tail_drop] at hx
    have hTx := fun w (hC : Cx E w p (T ++ t)) => Tryz.ptext_any E p (T ++ t) w hC
    have hf : Calls Tryz.prog 102 #[.pointer (some ⟨E.g, 0, none⟩)] w (fun e w' => e = .returned (.tuple #[]) ∧ Cx E w' p (T ++ t)) := by
      refine hf.mono ?_
      rintro e w1 ⟨h1, h2⟩
      rw [hp] at h2
      exact ⟨h1, h2⟩
    clear hp h1 h2 h3
    by_cases hn0 : hdT (E.ws.drop p) = [85]
    · have hlt := hd_lt hn0 (by simp)
      rw [hn0] at hx hTx
      have hx : andR (andR (rd5 (nms E.ss) E.fin m (.lev 4) (E.ws.drop (p + 1))) (fun t r => okR (t ++ [(15, 0)]) r)) (fun u r' => okR (t ++ u) r') = some x := hx
      obtain ⟨y2, hy2⟩ : ∃ y, rd5 (nms E.ss) E.fin m (.lev 4) (E.ws.drop (p + 1)) = some y := by
        obtain ⟨z, hz⟩ := some_of_and hx
        exact some_of_and hz
      have hx2 : x = addX t (addO 15 y2) := by
        obtain ⟨z, hz⟩ := some_of_and hx
        rw [hy2] at hz
        have e := and_addO hz
        rw [hy2, hz, e] at hx
        exact addX_addO t 15 y2 hx
      have hB := fun w (hC : Cx E w p (T ++ t)) => Tryz.pbehind_any E m (.lev 4) 99 Tryz.call99 (hI.le (by omega)) p (T ++ t) 15 (by omega) w hC hlt y2 hy2
      have hX0 : ((mkB [85]).toList == [85]) = true := by rw [mkB_toList]; rfl
      clear hx hy2
      subst hx2
      go_enter Tryz.func99, Tryz.ntmps99
      go_wp2_with fail
      refine hf.mono ?_
      rintro e w1 ⟨rfl, hC1⟩
      have hTx := hTx w1 hC1
      have hB := fun q => hB (w1.drewN q) (hC1.drew q)
      clear hC1 hf
      go_wp2_with fail
      refine hTx.mono ?_
      rintro e w2 ⟨rfl, k, rfl⟩
      clear hTx
      go_wp2_with fail
      refine (hB k).mono ?_
      intro e w3 hpc
      rcases PC_end hpc with ⟨pe, rfl⟩ | rfl
      · exact ⟨rfl, (PC_addX hpc)⟩
      · go_wp2
        go_end0
        exact (PC_addX hpc)
    · skip
      by_cases hn1 : hdT (E.ws.drop p) = [82]
      · have hlt := hd_lt hn1 (by simp)
        rw [hn1] at hx hTx
        have hx : andR (andR (rd5 (nms E.ss) E.fin m (.lev 4) (E.ws.drop (p + 1))) (fun t r => okR (t ++ [(16, 0)]) r)) (fun u r' => okR (t ++ u) r') = some x := hx
        obtain ⟨y2, hy2⟩ : ∃ y, rd5 (nms E.ss) E.fin m (.lev 4) (E.ws.drop (p + 1)) = some y := by
          obtain ⟨z, hz⟩ := some_of_and hx
          exact some_of_and hz
        have hx2 : x = addX t (addO 16 y2) := by
          obtain ⟨z, hz⟩ := some_of_and hx
          rw [hy2] at hz
          have e := and_addO hz
          rw [hy2, hz, e] at hx
          exact addX_addO t 16 y2 hx
        have hB := fun w (hC : Cx E w p (T ++ t)) => Tryz.pbehind_any E m (.lev 4) 99 Tryz.call99 (hI.le (by omega)) p (T ++ t) 16 (by omega) w hC hlt y2 hy2
        have hX0 : ((mkB [82]).toList == [85]) = false := by rw [mkB_toList]; rfl
        have hX1 : ((mkB [82]).toList == [82]) = true := by rw [mkB_toList]; rfl
        clear hx hy2
        subst hx2
        go_enter Tryz.func99, Tryz.ntmps99
        go_wp2_with fail
        refine hf.mono ?_
        rintro e w1 ⟨rfl, hC1⟩
        have hTx := hTx w1 hC1
        have hB := fun q => hB (w1.drewN q) (hC1.drew q)
        clear hC1 hf
        go_wp2_with fail
        refine hTx.mono ?_
        rintro e w2 ⟨rfl, k, rfl⟩
        clear hTx
        go_wp2_with fail
        refine (hB k).mono ?_
        intro e w3 hpc
        rcases PC_end hpc with ⟨pe, rfl⟩ | rfl
        · exact ⟨rfl, (PC_addX hpc)⟩
        · go_wp2
          go_end0
          exact (PC_addX hpc)
      · have hop : opOf 4 (hdT (E.ws.drop p)) = none := by simp [opOf, hn0, hn1]
        rw [hop] at hx
        simp [andR, okR] at hx
        have hX0 : ((mkB (hdT (E.ws.drop p))).toList == [85]) = false := by rw [mkB_toList]; simpa using hn0
        have hX1 : ((mkB (hdT (E.ws.drop p))).toList == [82]) = false := by rw [mkB_toList]; simpa using hn1
        subst hx
        have hpw : ∀ w, Cx E w p (T ++ t) → p ≤ E.ws.length := fun w h => h.ple
        generalize mkB (hdT (E.ws.drop p)) = X at *
        clear hop
        go_enter Tryz.func99, Tryz.ntmps99
        go_wp2_with fail
        refine hf.mono ?_
        rintro e w1 ⟨rfl, hC1⟩
        have hTx := hTx w1 hC1
        have HC1 : Hid (Cx E w1 p (T ++ t)) := hC1
        have hpl := hpw _ hC1
        clear hC1 hf hpw
        go_wp2_with fail
        refine hTx.mono ?_
        rintro e w2 ⟨rfl, k, rfl⟩
        clear hTx
        have HC2 : Hid (Cx E (w1.drewN k) p (T ++ t)) := HC1.out.drew k
        go_wp2
        go_end0
        refine ⟨rfl, ?_⟩
        have : E.ws.length - (E.ws.drop p).length = p := by rw [List.length_drop]; omega
        rw [this]; exact HC2.out
end Go.Proofs.YtfipefbaabkdeaaGreatDoor
