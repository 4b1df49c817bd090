/- Package parse: the lines whose operators are read from the left. (Written by mkpb.py.) -/
import Derived.Test.YtfipefbaabkdeaaGreatDoorWPbA
namespace Go.Proofs.YtfipefbaabkdeaaGreatDoor
open Go.RowKit Go.Maps

def posOf (w : World) (g : Nat) : Nat := match w.cell? ⟨g, 2, none⟩ with | some (.int _ z) => z.toNat | _ => 0
theorem posOf_cx {E : Ev} {w : World} {p : Nat} {T : List Tk5} (h : Cx E w p T) : posOf w E.g = p := by obtain ⟨_, _, _, c2, _⟩ := h.c; unfold posOf; rw [c2]; simp
def addX (T : List Tk5) : Except Er (List Tk5 × List Wd) → Except Er (List Tk5 × List Wd)
  | .ok (u, r) => .ok (T ++ u, r)
  | .error e => .error e
theorem lev_down (ns : List Bytes) (fin : Int) (n k : Nat) (ws : List Wd) (h : k < 5) : rd5 ns fin (n + 1) (.lev k) ws = andR (rd5 ns fin n (.lev (k + 1)) ws) (fun t r => andR (rd5 ns fin n (.more k) r) fun u r' => okR (t ++ u) r') := by
  rw [rd5]; rw [if_neg (by omega)]
theorem more_left (ns : List Bytes) (fin : Int) (m k : Nat) (ws : List Wd) (s : Bytes) (op : Nat) (hk : rightB k = false) (ho : ∀ s', opOf k s' = if s' = s then some op else none) :
    rd5 ns fin (m + 1) (.more k) ws = if hdT ws = s then andR (rd5 ns fin m (.lev (k + 1)) ws.tail) (fun t r => andR (rd5 ns fin m (.more k) r) fun u r' => okR (t ++ [(op, 0)] ++ u) r') else okR [] ws := by
  rw [rd5, ho]
  by_cases h : hdT ws = s
  · rw [if_pos h, if_pos h]; simp only [hk]; rfl
  · rw [if_neg h, if_neg h]
theorem pat_down (ns : List Bytes) (fin : Int) (n k : Nat) (ws : List Wd) (h : k < 2) : rd5 ns fin (n + 1) (.pat k) ws = andR (rd5 ns fin n (.pat (k + 1)) ws) (fun t r => andR (rd5 ns fin n (.pmore k) r) fun u r' => okR (t ++ u) r') := by
  rw [rd5]; rw [if_neg (by omega)]
theorem pmore_left (ns : List Bytes) (fin : Int) (m k : Nat) (ws : List Wd) (s : Bytes) (op : Nat) (hk : k < 2) (ho : ∀ s', pOf k s' = if s' = s then some op else none) :
    rd5 ns fin (m + 1) (.pmore k) ws = if hdT ws = s then andR (rd5 ns fin m (.pat (k + 1)) ws.tail) (fun t r => andR (rd5 ns fin m (.pmore k) r) fun u r' => okR (t ++ [(op, 0)] ++ u) r') else okR [] ws := by
  rw [rd5, ho]
  by_cases h : hdT ws = s
  · rw [if_pos h, if_pos h]; simp only; rw [if_neg (by omega)]
  · rw [if_neg h, if_neg h]
theorem pat_star (ns : List Bytes) (fin : Int) (n : Nat) (ws : List Wd) : rd5 ns fin (n + 1) (.pat 2) ws = andR (rd5 ns fin n .bar ws) (fun t r => andR (rd5 ns fin n (.pmore 2) r) fun u r' => okR (t ++ u) r') := by
  rw [rd5]; rw [if_pos (by omega)]
theorem pmore_star (ns : List Bytes) (fin : Int) (m : Nat) (ws : List Wd) :
    rd5 ns fin (m + 1) (.pmore 2) ws = if hdT ws = [42] then andR (rd5 ns fin m (.pmore 2) ws.tail) (fun u r => okR ((23, 0) :: u) r) else okR [] ws := by
  rw [rd5]
  by_cases h : hdT ws = [42]
  · rw [if_pos h, h]; rfl
  · rw [if_neg h]; simp [pOf, h]

set_option maxHeartbeats 4000000 in
set_option maxRecDepth 100000 in
theorem Tryz.piff_c (E : Ev) (n : Nat) (hS : Cont E n (.lev 1) 49) : Cont E (n + 1) (.lev 0) 37 := by
  intro p T w x hC hx
  rw [lev_down _ _ _ 0 _ (by omega)] at hx
  have hmo := fun m ws => more_left (nms E.ss) E.fin m 0 ws [60, 45, 62] 14 rfl (fun s' => by simp [opOf])
  obtain ⟨y1, hy1⟩ := some_of_and hx
  rw [hy1] at hx
  have hf := hS p T w y1 hC hy1
  have hmf := mkfn
  have hpl := hC.ple
  clear hC
  cases y1 with
  | error er =>
    obtain ⟨e1, e2⟩ := er
    simp [andR] at hx
    subst hx
    clear hmo
    go_enter Tryz.func37, Tryz.ntmps37
    go_wp2_with fail
    refine hf.mono ?_
    rintro e w1 ⟨rfl, hg⟩
    exact ⟨rfl, rfl, hg⟩
  | ok q =>
    obtain ⟨t, r⟩ := q
    simp only [andR] at hx
    obtain ⟨y2, hy2⟩ : ∃ y, rd5 (nms E.ss) E.fin n (.more 0) r = some y := some_of_and (x := rd5 (nms E.ss) E.fin n (.more 0) r) (f := fun u r' => okR (t ++ u) r') hx
    obtain ⟨hr, h1, h2, h3⟩ := rest_of hpl hy1
    have HX : Hid (x = addX t y2) := by
      show _ = _
      rw [hy2] at hx
      cases y2 with
      | error e => simp at hx; rw [← hx]; rfl
      | ok q => simp [okR] at hx; rw [← hx]; rfl
    have HY : Hid (rd5 (nms E.ss) E.fin n (.more 0) (E.ws.drop (E.ws.length - r.length)) = some y2) := by
      show _ = _
      rw [hr]; exact hy2
    have HS : Hid (Cont E n (.lev 1) 49) := hS
    have HM : Hid (∀ m ws, rd5 (nms E.ss) E.fin (m + 1) (.more 0) ws = if hdT ws = [60, 45, 62] then andR (rd5 (nms E.ss) E.fin m (.lev 1) ws.tail) (fun t r => andR (rd5 (nms E.ss) E.fin m (.more 0) r) fun u r' => okR (t ++ [(14, 0)] ++ u) r') else okR [] ws) := hmo
    clear hx hy1 hy2 hr hmo hS
    go_enter Tryz.func37, Tryz.ntmps37
    go_wp2_with fail
    refine hf.mono ?_
    rintro e w1 ⟨rfl, hC1⟩
    have HC1 : Hid (Cx E w1 (E.ws.length - r.length) (T ++ t)) := hC1
    clear hf hC1
    go_wp2
    go_loopw [] (fun wr => ∃ (p m : Nat) (t : List Tk5) (y : Except Er (List Tk5 × List Wd)), m ≤ n ∧ p ≤ E.ws.length ∧ Hid (x = addX t y) ∧ Hid (rd5 (nms E.ss) E.fin m (.more 0) (E.ws.drop p) = some y) ∧ Hid (Cx E wr p (T ++ t))) (fun wr => E.ws.length - posOf wr E.g)
    case atStart => exact ⟨E.ws.length - r.length, n, t, y2, Nat.le_refl _, by omega, HX, HY, HC1⟩
    case round =>
      clear HX HY HC1 h1 h2 h3
      obtain ⟨p, m, t, y, hm, hpw, HX, HY, HC⟩ := hrel
      obtain ⟨m, rfl⟩ : ∃ m', m = m' + 1 := by
        cases m with
        | zero => have := HY.out; simp [rd5] at this
        | succ m => exact ⟨m, rfl⟩
      have hy := HY.out
      rw [HM.out] at hy
      have hTx := Tryz.ptext_any E p (T ++ t) wr HC.out
      by_cases he : hdT (E.ws.drop p) = [60, 45, 62]
      · rw [if_pos he] at hy
        have hlt := hd_lt he (by simp)
        rw [List.tail_drop] at hy
        obtain ⟨y1, hy1⟩ := some_of_and hy
        rw [hy1] at hy
        have hB := fun q => Tryz.pbehind_any E m (.lev 1) 49 Tryz.call49 (HS.out.le (by omega)) p (T ++ t) 14 (by omega) (wr.drewN q) (HC.out.drew q) hlt y1 hy1
        rw [he] at hTx
        have hXs : ((mkB [60, 45, 62]).toList == [60, 45, 62]) = true := by rw [mkB_toList]; simp
        have HPW : Hid (posOf wr E.g = p) := posOf_cx HC.out
        clear he HY HC HM
        go_wp2_with fail
        refine hTx.mono ?_
        rintro e w2 ⟨rfl, k, rfl⟩
        clear hTx
        go_wp2_with fail
        refine (hB k).mono ?_
        cases y1 with
        | error er =>
          obtain ⟨e1, e2⟩ := er
          simp [andR] at hy
          rintro e w3 ⟨rfl, hg⟩
          have hxe : x = .error (e1, e2) := by rw [HX.out, ← hy]; rfl
          exact ⟨rfl, by rw [hxe]; exact ⟨rfl, hg⟩⟩
        | ok q1 =>
          obtain ⟨t1, r1⟩ := q1
          obtain ⟨hr1, g1, g2, g3⟩ := rest_of (by omega) hy1
          rintro e w3 ⟨rfl, hC3⟩
          simp only [andR] at hy
          obtain ⟨y3, hy3⟩ : ∃ y, rd5 (nms E.ss) E.fin m (.more 0) r1 = some y := some_of_and (x := rd5 (nms E.ss) E.fin m (.more 0) r1) (f := fun u r' => okR (t1 ++ [(14, 0)] ++ u) r') hy
          have HXN : Hid (x = addX (t ++ (t1 ++ [(14, 0)])) y3) := by
            show _ = _
            rw [hy3] at hy
            cases y3 with
            | error e => simp at hy; rw [HX.out, ← hy]; rfl
            | ok q => simp [okR] at hy; rw [HX.out, ← hy]; simp [addX]
          have HYN : Hid (rd5 (nms E.ss) E.fin m (.more 0) (E.ws.drop (E.ws.length - r1.length)) = some y3) := by
            show _ = _
            rw [hr1]; exact hy3
          have HCN : Hid (Cx E w3 (E.ws.length - r1.length) (T ++ (t ++ (t1 ++ [(14, 0)])))) := by
            rw [← List.append_assoc]; exact hC3
          have HPN : Hid (posOf w3 E.g = E.ws.length - r1.length) := posOf_cx hC3
          clear hC3 hy hy1 hy3 hr1 hB
          go_wp2
          go_roundw
          case rel => exact ⟨E.ws.length - r1.length, m, t ++ (t1 ++ [(14, 0)]), y3, by omega, by omega, HXN, HYN, HCN⟩
          case measure => rw [HPN.out, HPW.out]; omega
      · rw [if_neg he] at hy
        have hXs : ((mkB (hdT (E.ws.drop p))).toList == [60, 45, 62]) = false := by rw [mkB_toList]; simpa using he
        generalize mkB (hdT (E.ws.drop p)) = X at *
        have HXX : Hid (x = .ok (t, E.ws.drop p)) := by
          show _ = _
          simp only [okR, Option.some.injEq] at hy
          rw [HX.out, ← hy]; simp [addX]
        clear he hy
        go_wp2_with fail
        refine hTx.mono ?_
        rintro e w2 ⟨rfl, k, rfl⟩
        have HC2 : Hid (Cx E (wr.drewN k) p (T ++ t)) := HC.out.drew k
        clear hTx
        go_wp2
        go_end0
        rw [HXX.out]
        refine ⟨rfl, ?_⟩
        have : E.ws.length - (E.ws.drop p).length = p := by rw [List.length_drop]; omega
        rw [this]; exact HC2.out

set_option maxHeartbeats 4000000 in
set_option maxRecDepth 100000 in
theorem Tryz.por_c (E : Ev) (n : Nat) (hS : Cont E n (.lev 3) 89) : Cont E (n + 1) (.lev 2) 66 := by
  intro p T w x hC hx
  rw [lev_down _ _ _ 2 _ (by omega)] at hx
  have hmo := fun m ws => more_left (nms E.ss) E.fin m 2 ws [124] 12 rfl (fun s' => by simp [opOf])
  obtain ⟨y1, hy1⟩ := some_of_and hx
  rw [hy1] at hx
  have hf := hS p T w y1 hC hy1
  have hmf := mkfn
  have hpl := hC.ple
  clear hC
  cases y1 with
  | error er =>
    obtain ⟨e1, e2⟩ := er
    simp [andR] at hx
    subst hx
    clear hmo
    go_enter Tryz.func66, Tryz.ntmps66
    go_wp2_with fail
    refine hf.mono ?_
    rintro e w1 ⟨rfl, hg⟩
    exact ⟨rfl, rfl, hg⟩
  | ok q =>
    obtain ⟨t, r⟩ := q
    simp only [andR] at hx
    obtain ⟨y2, hy2⟩ : ∃ y, rd5 (nms E.ss) E.fin n (.more 2) r = some y := some_of_and (x := rd5 (nms E.ss) E.fin n (.more 2) r) (f := fun u r' => okR (t ++ u) r') hx
    obtain ⟨hr, h1, h2, h3⟩ := rest_of hpl hy1
    have HX : Hid (x = addX t y2) := by
      show _ = _
      rw [hy2] at hx
      cases y2 with
      | error e => simp at hx; rw [← hx]; rfl
      | ok q => simp [okR] at hx; rw [← hx]; rfl
    have HY : Hid (rd5 (nms E.ss) E.fin n (.more 2) (E.ws.drop (E.ws.length - r.length)) = some y2) := by
      show _ = _
      rw [hr]; exact hy2
    have HS : Hid (Cont E n (.lev 3) 89) := hS
    have HM : Hid (∀ m ws, rd5 (nms E.ss) E.fin (m + 1) (.more 2) ws = if hdT ws = [124] then andR (rd5 (nms E.ss) E.fin m (.lev 3) ws.tail) (fun t r => andR (rd5 (nms E.ss) E.fin m (.more 2) r) fun u r' => okR (t ++ [(12, 0)] ++ u) r') else okR [] ws) := hmo
    clear hx hy1 hy2 hr hmo hS
    go_enter Tryz.func66, Tryz.ntmps66
    go_wp2_with fail
    refine hf.mono ?_
    rintro e w1 ⟨rfl, hC1⟩
    have HC1 : Hid (Cx E w1 (E.ws.length - r.length) (T ++ t)) := hC1
    clear hf hC1
    go_wp2
    go_loopw [] (fun wr => ∃ (p m : Nat) (t : List Tk5) (y : Except Er (List Tk5 × List Wd)), m ≤ n ∧ p ≤ E.ws.length ∧ Hid (x = addX t y) ∧ Hid (rd5 (nms E.ss) E.fin m (.more 2) (E.ws.drop p) = some y) ∧ Hid (Cx E wr p (T ++ t))) (fun wr => E.ws.length - posOf wr E.g)
    case atStart => exact ⟨E.ws.length - r.length, n, t, y2, Nat.le_refl _, by omega, HX, HY, HC1⟩
    case round =>
      clear HX HY HC1 h1 h2 h3
      obtain ⟨p, m, t, y, hm, hpw, HX, HY, HC⟩ := hrel
      obtain ⟨m, rfl⟩ : ∃ m', m = m' + 1 := by
        cases m with
        | zero => have := HY.out; simp [rd5] at this
        | succ m => exact ⟨m, rfl⟩
      have hy := HY.out
      rw [HM.out] at hy
      have hTx := Tryz.ptext_any E p (T ++ t) wr HC.out
      by_cases he : hdT (E.ws.drop p) = [124]
      · rw [if_pos he] at hy
        have hlt := hd_lt he (by simp)
        rw [List.tail_drop] at hy
        obtain ⟨y1, hy1⟩ := some_of_and hy
        rw [hy1] at hy
        have hB := fun q => Tryz.pbehind_any E m (.lev 3) 89 Tryz.call89 (HS.out.le (by omega)) p (T ++ t) 12 (by omega) (wr.drewN q) (HC.out.drew q) hlt y1 hy1
        rw [he] at hTx
        have hXs : ((mkB [124]).toList == [124]) = true := by rw [mkB_toList]; simp
        have HPW : Hid (posOf wr E.g = p) := posOf_cx HC.out
        clear he HY HC HM
        go_wp2_with fail
        refine hTx.mono ?_
        rintro e w2 ⟨rfl, k, rfl⟩
        clear hTx
        go_wp2_with fail
        refine (hB k).mono ?_
        cases y1 with
        | error er =>
          obtain ⟨e1, e2⟩ := er
          simp [andR] at hy
          rintro e w3 ⟨rfl, hg⟩
          have hxe : x = .error (e1, e2) := by rw [HX.out, ← hy]; rfl
          exact ⟨rfl, by rw [hxe]; exact ⟨rfl, hg⟩⟩
        | ok q1 =>
          obtain ⟨t1, r1⟩ := q1
          obtain ⟨hr1, g1, g2, g3⟩ := rest_of (by omega) hy1
          rintro e w3 ⟨rfl, hC3⟩
          simp only [andR] at hy
          obtain ⟨y3, hy3⟩ : ∃ y, rd5 (nms E.ss) E.fin m (.more 2) r1 = some y := some_of_and (x := rd5 (nms E.ss) E.fin m (.more 2) r1) (f := fun u r' => okR (t1 ++ [(12, 0)] ++ u) r') hy
          have HXN : Hid (x = addX (t ++ (t1 ++ [(12, 0)])) y3) := by
            show _ = _
            rw [hy3] at hy
            cases y3 with
            | error e => simp at hy; rw [HX.out, ← hy]; rfl
            | ok q => simp [okR] at hy; rw [HX.out, ← hy]; simp [addX]
          have HYN : Hid (rd5 (nms E.ss) E.fin m (.more 2) (E.ws.drop (E.ws.length - r1.length)) = some y3) := by
            show _ = _
            rw [hr1]; exact hy3
          have HCN : Hid (Cx E w3 (E.ws.length - r1.length) (T ++ (t ++ (t1 ++ [(12, 0)])))) := by
            rw [← List.append_assoc]; exact hC3
          have HPN : Hid (posOf w3 E.g = E.ws.length - r1.length) := posOf_cx hC3
          clear hC3 hy hy1 hy3 hr1 hB
          go_wp2
          go_roundw
          case rel => exact ⟨E.ws.length - r1.length, m, t ++ (t1 ++ [(12, 0)]), y3, by omega, by omega, HXN, HYN, HCN⟩
          case measure => rw [HPN.out, HPW.out]; omega
      · rw [if_neg he] at hy
        have hXs : ((mkB (hdT (E.ws.drop p))).toList == [124]) = false := by rw [mkB_toList]; simpa using he
        generalize mkB (hdT (E.ws.drop p)) = X at *
        have HXX : Hid (x = .ok (t, E.ws.drop p)) := by
          show _ = _
          simp only [okR, Option.some.injEq] at hy
          rw [HX.out, ← hy]; simp [addX]
        clear he hy
        go_wp2_with fail
        refine hTx.mono ?_
        rintro e w2 ⟨rfl, k, rfl⟩
        have HC2 : Hid (Cx E (wr.drewN k) p (T ++ t)) := HC.out.drew k
        clear hTx
        go_wp2
        go_end0
        rw [HXX.out]
        refine ⟨rfl, ?_⟩
        have : E.ws.length - (E.ws.drop p).length = p := by rw [List.length_drop]; omega
        rw [this]; exact HC2.out

set_option maxHeartbeats 4000000 in
set_option maxRecDepth 100000 in
theorem Tryz.pand_c (E : Ev) (n : Nat) (hS : Cont E n (.lev 4) 99) : Cont E (n + 1) (.lev 3) 89 := by
  intro p T w x hC hx
  rw [lev_down _ _ _ 3 _ (by omega)] at hx
  have hmo := fun m ws => more_left (nms E.ss) E.fin m 3 ws [38] 11 rfl (fun s' => by simp [opOf])
  obtain ⟨y1, hy1⟩ := some_of_and hx
  rw [hy1] at hx
  have hf := hS p T w y1 hC hy1
  have hmf := mkfn
  have hpl := hC.ple
  clear hC
  cases y1 with
  | error er =>
    obtain ⟨e1, e2⟩ := er
    simp [andR] at hx
    subst hx
    clear hmo
    go_enter Tryz.func89, Tryz.ntmps89
    go_wp2_with fail
    refine hf.mono ?_
    rintro e w1 ⟨rfl, hg⟩
    exact ⟨rfl, rfl, hg⟩
  | ok q =>
    obtain ⟨t, r⟩ := q
    simp only [andR] at hx
    obtain ⟨y2, hy2⟩ : ∃ y, rd5 (nms E.ss) E.fin n (.more 3) r = some y := some_of_and (x := rd5 (nms E.ss) E.fin n (.more 3) r) (f := fun u r' => okR (t ++ u) r') hx
    obtain ⟨hr, h1, h2, h3⟩ := rest_of hpl hy1
    have HX : Hid (x = addX t y2) := by
      show _ = _
      rw [hy2] at hx
      cases y2 with
      | error e => simp at hx; rw [← hx]; rfl
      | ok q => simp [okR] at hx; rw [← hx]; rfl
    have HY : Hid (rd5 (nms E.ss) E.fin n (.more 3) (E.ws.drop (E.ws.length - r.length)) = some y2) := by
      show _ = _
      rw [hr]; exact hy2
    have HS : Hid (Cont E n (.lev 4) 99) := hS
    have HM : Hid (∀ m ws, rd5 (nms E.ss) E.fin (m + 1) (.more 3) ws = if hdT ws = [38] then andR (rd5 (nms E.ss) E.fin m (.lev 4) ws.tail) (fun t r => andR (rd5 (nms E.ss) E.fin m (.more 3) r) fun u r' => okR (t ++ [(11, 0)] ++ u) r') else okR [] ws) := hmo
    clear hx hy1 hy2 hr hmo hS
    go_enter Tryz.func89, Tryz.ntmps89
    go_wp2_with fail
    refine hf.mono ?_
    rintro e w1 ⟨rfl, hC1⟩
    have HC1 : Hid (Cx E w1 (E.ws.length - r.length) (T ++ t)) := hC1
    clear hf hC1
    go_wp2
    go_loopw [] (fun wr => ∃ (p m : Nat) (t : List Tk5) (y : Except Er (List Tk5 × List Wd)), m ≤ n ∧ p ≤ E.ws.length ∧ Hid (x = addX t y) ∧ Hid (rd5 (nms E.ss) E.fin m (.more 3) (E.ws.drop p) = some y) ∧ Hid (Cx E wr p (T ++ t))) (fun wr => E.ws.length - posOf wr E.g)
    case atStart => exact ⟨E.ws.length - r.length, n, t, y2, Nat.le_refl _, by omega, HX, HY, HC1⟩
    case round =>
      clear HX HY HC1 h1 h2 h3
      obtain ⟨p, m, t, y, hm, hpw, HX, HY, HC⟩ := hrel
      obtain ⟨m, rfl⟩ : ∃ m', m = m' + 1 := by
        cases m with
        | zero => have := HY.out; simp [rd5] at this
        | succ m => exact ⟨m, rfl⟩
      have hy := HY.out
      rw [HM.out] at hy
      have hTx := Tryz.ptext_any E p (T ++ t) wr HC.out
      by_cases he : hdT (E.ws.drop p) = [38]
      · rw [if_pos he] at hy
        have hlt := hd_lt he (by simp)
        rw [List.tail_drop] at hy
        obtain ⟨y1, hy1⟩ := some_of_and hy
        rw [hy1] at hy
        have hB := fun q => Tryz.pbehind_any E m (.lev 4) 99 Tryz.call99 (HS.out.le (by omega)) p (T ++ t) 11 (by omega) (wr.drewN q) (HC.out.drew q) hlt y1 hy1
        rw [he] at hTx
        have hXs : ((mkB [38]).toList == [38]) = true := by rw [mkB_toList]; simp
        have HPW : Hid (posOf wr E.g = p) := posOf_cx HC.out
        clear he HY HC HM
        go_wp2_with fail
        refine hTx.mono ?_
        rintro e w2 ⟨rfl, k, rfl⟩
        clear hTx
        go_wp2_with fail
        refine (hB k).mono ?_
        cases y1 with
        | error er =>
          obtain ⟨e1, e2⟩ := er
          simp [andR] at hy
          rintro e w3 ⟨rfl, hg⟩
          have hxe : x = .error (e1, e2) := by rw [HX.out, ← hy]; rfl
          exact ⟨rfl, by rw [hxe]; exact ⟨rfl, hg⟩⟩
        | ok q1 =>
          obtain ⟨t1, r1⟩ := q1
          obtain ⟨hr1, g1, g2, g3⟩ := rest_of (by omega) hy1
          rintro e w3 ⟨rfl, hC3⟩
          simp only [andR] at hy
          obtain ⟨y3, hy3⟩ : ∃ y, rd5 (nms E.ss) E.fin m (.more 3) r1 = some y := some_of_and (x := rd5 (nms E.ss) E.fin m (.more 3) r1) (f := fun u r' => okR (t1 ++ [(11, 0)] ++ u) r') hy
          have HXN : Hid (x = addX (t ++ (t1 ++ [(11, 0)])) y3) := by
            show _ = _
            rw [hy3] at hy
            cases y3 with
            | error e => simp at hy; rw [HX.out, ← hy]; rfl
            | ok q => simp [okR] at hy; rw [HX.out, ← hy]; simp [addX]
          have HYN : Hid (rd5 (nms E.ss) E.fin m (.more 3) (E.ws.drop (E.ws.length - r1.length)) = some y3) := by
            show _ = _
            rw [hr1]; exact hy3
          have HCN : Hid (Cx E w3 (E.ws.length - r1.length) (T ++ (t ++ (t1 ++ [(11, 0)])))) := by
            rw [← List.append_assoc]; exact hC3
          have HPN : Hid (posOf w3 E.g = E.ws.length - r1.length) := posOf_cx hC3
          clear hC3 hy hy1 hy3 hr1 hB
          go_wp2
          go_roundw
          case rel => exact ⟨E.ws.length - r1.length, m, t ++ (t1 ++ [(11, 0)]), y3, by omega, by omega, HXN, HYN, HCN⟩
          case measure => rw [HPN.out, HPW.out]; omega
      · rw [if_neg he] at hy
        have hXs : ((mkB (hdT (E.ws.drop p))).toList == [38]) = false := by rw [mkB_toList]; simpa using he
        generalize mkB (hdT (E.ws.drop p)) = X at *
        have HXX : Hid (x = .ok (t, E.ws.drop p)) := by
          show _ = _
          simp only [okR, Option.some.injEq] at hy
          rw [HX.out, ← hy]; simp [addX]
        clear he hy
        go_wp2_with fail
        refine hTx.mono ?_
        rintro e w2 ⟨rfl, k, rfl⟩
        have HC2 : Hid (Cx E (wr.drewN k) p (T ++ t)) := HC.out.drew k
        clear hTx
        go_wp2
        go_end0
        rw [HXX.out]
        refine ⟨rfl, ?_⟩
        have : E.ws.length - (E.ws.drop p).length = p := by rw [List.length_drop]; omega
        rw [this]; exact HC2.out

set_option maxHeartbeats 4000000 in
set_option maxRecDepth 100000 in
theorem Tryz.pplus_c (E : Ev) (n : Nat) (hS : Cont E n (.pat 1) 110) : Cont E (n + 1) (.pat 0) 107 := by
  intro p T w x hC hx
  rw [pat_down _ _ _ 0 _ (by omega)] at hx
  have hmo := fun m ws => pmore_left (nms E.ss) E.fin m 0 ws [43] 21 (by omega) (fun s' => by simp [pOf])
  obtain ⟨y1, hy1⟩ := some_of_and hx
  rw [hy1] at hx
  have hf := hS p T w y1 hC hy1
  have hmf := mkfn
  have hpl := hC.ple
  clear hC
  cases y1 with
  | error er =>
    obtain ⟨e1, e2⟩ := er
    simp [andR] at hx
    subst hx
    clear hmo
    go_enter Tryz.func107, Tryz.ntmps107
    go_wp2_with fail
    refine hf.mono ?_
    rintro e w1 ⟨rfl, hg⟩
    exact ⟨rfl, rfl, hg⟩
  | ok q =>
    obtain ⟨t, r⟩ := q
    simp only [andR] at hx
    obtain ⟨y2, hy2⟩ : ∃ y, rd5 (nms E.ss) E.fin n (.pmore 0) r = some y := some_of_and (x := rd5 (nms E.ss) E.fin n (.pmore 0) r) (f := fun u r' => okR (t ++ u) r') hx
    obtain ⟨hr, h1, h2, h3⟩ := rest_of hpl hy1
    have HX : Hid (x = addX t y2) := by
      show _ = _
      rw [hy2] at hx
      cases y2 with
      | error e => simp at hx; rw [← hx]; rfl
      | ok q => simp [okR] at hx; rw [← hx]; rfl
    have HY : Hid (rd5 (nms E.ss) E.fin n (.pmore 0) (E.ws.drop (E.ws.length - r.length)) = some y2) := by
      show _ = _
      rw [hr]; exact hy2
    have HS : Hid (Cont E n (.pat 1) 110) := hS
    have HM : Hid (∀ m ws, rd5 (nms E.ss) E.fin (m + 1) (.pmore 0) ws = if hdT ws = [43] then andR (rd5 (nms E.ss) E.fin m (.pat 1) ws.tail) (fun t r => andR (rd5 (nms E.ss) E.fin m (.pmore 0) r) fun u r' => okR (t ++ [(21, 0)] ++ u) r') else okR [] ws) := hmo
    clear hx hy1 hy2 hr hmo hS
    go_enter Tryz.func107, Tryz.ntmps107
    go_wp2_with fail
    refine hf.mono ?_
    rintro e w1 ⟨rfl, hC1⟩
    have HC1 : Hid (Cx E w1 (E.ws.length - r.length) (T ++ t)) := hC1
    clear hf hC1
    go_wp2
    go_loopw [] (fun wr => ∃ (p m : Nat) (t : List Tk5) (y : Except Er (List Tk5 × List Wd)), m ≤ n ∧ p ≤ E.ws.length ∧ Hid (x = addX t y) ∧ Hid (rd5 (nms E.ss) E.fin m (.pmore 0) (E.ws.drop p) = some y) ∧ Hid (Cx E wr p (T ++ t))) (fun wr => E.ws.length - posOf wr E.g)
    case atStart => exact ⟨E.ws.length - r.length, n, t, y2, Nat.le_refl _, by omega, HX, HY, HC1⟩
    case round =>
      clear HX HY HC1 h1 h2 h3
      obtain ⟨p, m, t, y, hm, hpw, HX, HY, HC⟩ := hrel
      obtain ⟨m, rfl⟩ : ∃ m', m = m' + 1 := by
        cases m with
        | zero => have := HY.out; simp [rd5] at this
        | succ m => exact ⟨m, rfl⟩
      have hy := HY.out
      rw [HM.out] at hy
      have hTx := Tryz.ptext_any E p (T ++ t) wr HC.out
      by_cases he : hdT (E.ws.drop p) = [43]
      · rw [if_pos he] at hy
        have hlt := hd_lt he (by simp)
        rw [List.tail_drop] at hy
        obtain ⟨y1, hy1⟩ := some_of_and hy
        rw [hy1] at hy
        have hB := fun q => Tryz.pbehind_any E m (.pat 1) 110 Tryz.call110 (HS.out.le (by omega)) p (T ++ t) 21 (by omega) (wr.drewN q) (HC.out.drew q) hlt y1 hy1
        rw [he] at hTx
        have hXs : ((mkB [43]).toList == [43]) = true := by rw [mkB_toList]; simp
        have HPW : Hid (posOf wr E.g = p) := posOf_cx HC.out
        clear he HY HC HM
        go_wp2_with fail
        refine hTx.mono ?_
        rintro e w2 ⟨rfl, k, rfl⟩
        clear hTx
        go_wp2_with fail
        refine (hB k).mono ?_
        cases y1 with
        | error er =>
          obtain ⟨e1, e2⟩ := er
          simp [andR] at hy
          rintro e w3 ⟨rfl, hg⟩
          have hxe : x = .error (e1, e2) := by rw [HX.out, ← hy]; rfl
          exact ⟨rfl, by rw [hxe]; exact ⟨rfl, hg⟩⟩
        | ok q1 =>
          obtain ⟨t1, r1⟩ := q1
          obtain ⟨hr1, g1, g2, g3⟩ := rest_of (by omega) hy1
          rintro e w3 ⟨rfl, hC3⟩
          simp only [andR] at hy
          obtain ⟨y3, hy3⟩ : ∃ y, rd5 (nms E.ss) E.fin m (.pmore 0) r1 = some y := some_of_and (x := rd5 (nms E.ss) E.fin m (.pmore 0) r1) (f := fun u r' => okR (t1 ++ [(21, 0)] ++ u) r') hy
          have HXN : Hid (x = addX (t ++ (t1 ++ [(21, 0)])) y3) := by
            show _ = _
            rw [hy3] at hy
            cases y3 with
            | error e => simp at hy; rw [HX.out, ← hy]; rfl
            | ok q => simp [okR] at hy; rw [HX.out, ← hy]; simp [addX]
          have HYN : Hid (rd5 (nms E.ss) E.fin m (.pmore 0) (E.ws.drop (E.ws.length - r1.length)) = some y3) := by
            show _ = _
            rw [hr1]; exact hy3
          have HCN : Hid (Cx E w3 (E.ws.length - r1.length) (T ++ (t ++ (t1 ++ [(21, 0)])))) := by
            rw [← List.append_assoc]; exact hC3
          have HPN : Hid (posOf w3 E.g = E.ws.length - r1.length) := posOf_cx hC3
          clear hC3 hy hy1 hy3 hr1 hB
          go_wp2
          go_roundw
          case rel => exact ⟨E.ws.length - r1.length, m, t ++ (t1 ++ [(21, 0)]), y3, by omega, by omega, HXN, HYN, HCN⟩
          case measure => rw [HPN.out, HPW.out]; omega
      · rw [if_neg he] at hy
        have hXs : ((mkB (hdT (E.ws.drop p))).toList == [43]) = false := by rw [mkB_toList]; simpa using he
        generalize mkB (hdT (E.ws.drop p)) = X at *
        have HXX : Hid (x = .ok (t, E.ws.drop p)) := by
          show _ = _
          simp only [okR, Option.some.injEq] at hy
          rw [HX.out, ← hy]; simp [addX]
        clear he hy
        go_wp2_with fail
        refine hTx.mono ?_
        rintro e w2 ⟨rfl, k, rfl⟩
        have HC2 : Hid (Cx E (wr.drewN k) p (T ++ t)) := HC.out.drew k
        clear hTx
        go_wp2
        go_end0
        rw [HXX.out]
        refine ⟨rfl, ?_⟩
        have : E.ws.length - (E.ws.drop p).length = p := by rw [List.length_drop]; omega
        rw [this]; exact HC2.out

set_option maxHeartbeats 4000000 in
set_option maxRecDepth 100000 in
theorem Tryz.pseq_c (E : Ev) (n : Nat) (hS : Cont E n (.pat 2) 111) : Cont E (n + 1) (.pat 1) 110 := by
  intro p T w x hC hx
  rw [pat_down _ _ _ 1 _ (by omega)] at hx
  have hmo := fun m ws => pmore_left (nms E.ss) E.fin m 1 ws [59] 22 (by omega) (fun s' => by simp [pOf])
  obtain ⟨y1, hy1⟩ := some_of_and hx
  rw [hy1] at hx
  have hf := hS p T w y1 hC hy1
  have hmf := mkfn
  have hpl := hC.ple
  clear hC
  cases y1 with
  | error er =>
    obtain ⟨e1, e2⟩ := er
    simp [andR] at hx
    subst hx
    clear hmo
    go_enter Tryz.func110, Tryz.ntmps110
    go_wp2_with fail
    refine hf.mono ?_
    rintro e w1 ⟨rfl, hg⟩
    exact ⟨rfl, rfl, hg⟩
  | ok q =>
    obtain ⟨t, r⟩ := q
    simp only [andR] at hx
    obtain ⟨y2, hy2⟩ : ∃ y, rd5 (nms E.ss) E.fin n (.pmore 1) r = some y := some_of_and (x := rd5 (nms E.ss) E.fin n (.pmore 1) r) (f := fun u r' => okR (t ++ u) r') hx
    obtain ⟨hr, h1, h2, h3⟩ := rest_of hpl hy1
    have HX : Hid (x = addX t y2) := by
      show _ = _
      rw [hy2] at hx
      cases y2 with
      | error e => simp at hx; rw [← hx]; rfl
      | ok q => simp [okR] at hx; rw [← hx]; rfl
    have HY : Hid (rd5 (nms E.ss) E.fin n (.pmore 1) (E.ws.drop (E.ws.length - r.length)) = some y2) := by
      show _ = _
      rw [hr]; exact hy2
    have HS : Hid (Cont E n (.pat 2) 111) := hS
    have HM : Hid (∀ m ws, rd5 (nms E.ss) E.fin (m + 1) (.pmore 1) ws = if hdT ws = [59] then andR (rd5 (nms E.ss) E.fin m (.pat 2) ws.tail) (fun t r => andR (rd5 (nms E.ss) E.fin m (.pmore 1) r) fun u r' => okR (t ++ [(22, 0)] ++ u) r') else okR [] ws) := hmo
    clear hx hy1 hy2 hr hmo hS
    go_enter Tryz.func110, Tryz.ntmps110
    go_wp2_with fail
    refine hf.mono ?_
    rintro e w1 ⟨rfl, hC1⟩
    have HC1 : Hid (Cx E w1 (E.ws.length - r.length) (T ++ t)) := hC1
    clear hf hC1
    go_wp2
    go_loopw [] (fun wr => ∃ (p m : Nat) (t : List Tk5) (y : Except Er (List Tk5 × List Wd)), m ≤ n ∧ p ≤ E.ws.length ∧ Hid (x = addX t y) ∧ Hid (rd5 (nms E.ss) E.fin m (.pmore 1) (E.ws.drop p) = some y) ∧ Hid (Cx E wr p (T ++ t))) (fun wr => E.ws.length - posOf wr E.g)
    case atStart => exact ⟨E.ws.length - r.length, n, t, y2, Nat.le_refl _, by omega, HX, HY, HC1⟩
    case round =>
      clear HX HY HC1 h1 h2 h3
      obtain ⟨p, m, t, y, hm, hpw, HX, HY, HC⟩ := hrel
      obtain ⟨m, rfl⟩ : ∃ m', m = m' + 1 := by
        cases m with
        | zero => have := HY.out; simp [rd5] at this
        | succ m => exact ⟨m, rfl⟩
      have hy := HY.out
      rw [HM.out] at hy
      have hTx := Tryz.ptext_any E p (T ++ t) wr HC.out
      by_cases he : hdT (E.ws.drop p) = [59]
      · rw [if_pos he] at hy
        have hlt := hd_lt he (by simp)
        rw [List.tail_drop] at hy
        obtain ⟨y1, hy1⟩ := some_of_and hy
        rw [hy1] at hy
        have hB := fun q => Tryz.pbehind_any E m (.pat 2) 111 Tryz.call111 (HS.out.le (by omega)) p (T ++ t) 22 (by omega) (wr.drewN q) (HC.out.drew q) hlt y1 hy1
        rw [he] at hTx
        have hXs : ((mkB [59]).toList == [59]) = true := by rw [mkB_toList]; simp
        have HPW : Hid (posOf wr E.g = p) := posOf_cx HC.out
        clear he HY HC HM
        go_wp2_with fail
        refine hTx.mono ?_
        rintro e w2 ⟨rfl, k, rfl⟩
        clear hTx
        go_wp2_with fail
        refine (hB k).mono ?_
        cases y1 with
        | error er =>
          obtain ⟨e1, e2⟩ := er
          simp [andR] at hy
          rintro e w3 ⟨rfl, hg⟩
          have hxe : x = .error (e1, e2) := by rw [HX.out, ← hy]; rfl
          exact ⟨rfl, by rw [hxe]; exact ⟨rfl, hg⟩⟩
        | ok q1 =>
          obtain ⟨t1, r1⟩ := q1
          obtain ⟨hr1, g1, g2, g3⟩ := rest_of (by omega) hy1
          rintro e w3 ⟨rfl, hC3⟩
          simp only [andR] at hy
          obtain ⟨y3, hy3⟩ : ∃ y, rd5 (nms E.ss) E.fin m (.pmore 1) r1 = some y := some_of_and (x := rd5 (nms E.ss) E.fin m (.pmore 1) r1) (f := fun u r' => okR (t1 ++ [(22, 0)] ++ u) r') hy
          have HXN : Hid (x = addX (t ++ (t1 ++ [(22, 0)])) y3) := by
            show _ = _
            rw [hy3] at hy
            cases y3 with
            | error e => simp at hy; rw [HX.out, ← hy]; rfl
            | ok q => simp [okR] at hy; rw [HX.out, ← hy]; simp [addX]
          have HYN : Hid (rd5 (nms E.ss) E.fin m (.pmore 1) (E.ws.drop (E.ws.length - r1.length)) = some y3) := by
            show _ = _
            rw [hr1]; exact hy3
          have HCN : Hid (Cx E w3 (E.ws.length - r1.length) (T ++ (t ++ (t1 ++ [(22, 0)])))) := by
            rw [← List.append_assoc]; exact hC3
          have HPN : Hid (posOf w3 E.g = E.ws.length - r1.length) := posOf_cx hC3
          clear hC3 hy hy1 hy3 hr1 hB
          go_wp2
          go_roundw
          case rel => exact ⟨E.ws.length - r1.length, m, t ++ (t1 ++ [(22, 0)]), y3, by omega, by omega, HXN, HYN, HCN⟩
          case measure => rw [HPN.out, HPW.out]; omega
      · rw [if_neg he] at hy
        have hXs : ((mkB (hdT (E.ws.drop p))).toList == [59]) = false := by rw [mkB_toList]; simpa using he
        generalize mkB (hdT (E.ws.drop p)) = X at *
        have HXX : Hid (x = .ok (t, E.ws.drop p)) := by
          show _ = _
          simp only [okR, Option.some.injEq] at hy
          rw [HX.out, ← hy]; simp [addX]
        clear he hy
        go_wp2_with fail
        refine hTx.mono ?_
        rintro e w2 ⟨rfl, k, rfl⟩
        have HC2 : Hid (Cx E (wr.drewN k) p (T ++ t)) := HC.out.drew k
        clear hTx
        go_wp2
        go_end0
        rw [HXX.out]
        refine ⟨rfl, ?_⟩
        have : E.ws.length - (E.ws.drop p).length = p := by rw [List.length_drop]; omega
        rw [this]; exact HC2.out
end Go.Proofs.YtfipefbaabkdeaaGreatDoor
