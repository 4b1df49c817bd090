/- Package parse: the lines that choose by the next word. (Written by mkpb3.py.) -/
import Derived.Test.YtfipefbaabkdeaaGreatDoorWPb6
namespace Go.Proofs.YtfipefbaabkdeaaGreatDoor
open Go.RowKit Go.Maps

/-- What < and [ ask behind them, and what else. -/
def modR (ns : List Bytes) (fin : Int) (n : Nat) (ws : List Wd) : PR :=
  match mdOf (hdT ws) with
  | some (c, op) => andR (rd5 ns fin n (.pat 0) ws.tail) fun t r => if hdT r = c then andR (rd5 ns fin n .una r.tail) fun u r' => okR (t ++ u ++ [(op, 0)]) r' else erR 150 (plc fin r)
  | none => rd5 ns fin n .ato ws
theorem una_eq (ns : List Bytes) (fin : Int) (n : Nat) (ws : List Wd) : rd5 ns fin (n + 1) .una ws = match unOf (hdT ws) with | some op => andR (rd5 ns fin n .una ws.tail) (fun t r => okR (t ++ [(op, 0)]) r) | none => modR ns fin n ws := by
  conv => lhs; unfold rd5
  rfl
theorem ato_eq (ns : List Bytes) (fin : Int) (n : Nat) (ws : List Wd) : rd5 ns fin (n + 1) .ato ws = match atOf (hdT ws) with | some op => okR [(op, 0)] ws.tail | none => if hdT ws = [40] then andR (rd5 ns fin n (.lev 0) ws.tail) (fun t r => if hdT r = [41] then okR t r.tail else erR 150 (plc fin r)) else nameR ns fin ws := by
  conv => lhs; unfold rd5
  cases ws <;> rfl
def grpR (ns : List Bytes) (fin : Int) (n : Nat) (ws : List Wd) : PR :=
  if hdT ws = [40] then andR (rd5 ns fin n (.pat 0) ws.tail) (fun t r => if hdT r = [41] then okR t r.tail else erR 150 (plc fin r)) else erR 150 (plc fin ws)
def tstR (ns : List Bytes) (fin : Int) (n : Nat) (ws : List Wd) : PR :=
  if hdT ws = [63] then andR (rd5 ns fin n .una ws.tail) (fun t r => okR (t ++ [(20, 0)]) r) else grpR ns fin n ws
theorem bar_eq (ns : List Bytes) (fin : Int) (n : Nat) (ws : List Wd) : rd5 ns fin (n + 1) .bar ws = if hdT ws = [123] then andR (rd5 ns fin n (.lev 0) ws.tail) (fun t r => if hdT r = [125] then okR (t ++ [(19, 0)]) r.tail else erR 150 (plc fin r)) else tstR ns fin n ws := by
  conv => lhs; unfold rd5
  rfl

set_option maxHeartbeats 4000000 in
set_option maxRecDepth 100000 in
theorem Tryz.pmodal_any (E : Ev) (n : Nat) (hU : Cont E n .una 102) (hPl : Cont E n (.pat 0) 107) (hA : Cont E n .ato 105) (p : Nat) (T : List Tk5) (w : World) (h : Cx E w p T) (x : Except Er (List Tk5 × List Wd)) (hx : modR (nms E.ss) E.fin n (E.ws.drop p) = some x) :
    Calls Tryz.prog 103 #[.pointer (some ⟨E.g, 0, none⟩)] w (PC E T x) := by
  have hTx := Tryz.ptext_any E p T w h
  have hC := fun q => h.drew q
  clear h
  by_cases hn0 : hdT (E.ws.drop p) = [60]
  · have hlt := hd_lt hn0 (by simp)
    rw [hn0] at hTx
    have hx : andR (rd5 (nms E.ss) E.fin n (.pat 0) (E.ws.drop (p + 1))) (fun t r => if hdT r = [62] then andR (rd5 (nms E.ss) E.fin n .una r.tail) (fun u r' => okR (t ++ u ++ [(17, 0)]) r') else erR 150 (plc E.fin r)) = some x := by
      rw [← hx]; unfold modR; rw [hn0, List.tail_drop]; rfl
    have hs : ({ data := #[62] } : ByteArray).toList = [62] := by rw [ByteArray.toList_eq]
    have hB := fun q => Tryz.palong_any E n hPl hU p T { data := #[62] } (by rw [hs]; simp) 17 (by omega) (w.drewN q) (hC q) hlt x (by rw [hs]; exact hx)
    have hX0 : ((mkB [60]).toList == [60]) = true := by rw [mkB_toList]; rfl
    clear hx hs hC
    go_enter Tryz.func103, Tryz.ntmps103
    go_wp2_with fail
    refine hTx.mono ?_
    rintro e w2 ⟨rfl, k, rfl⟩
    clear hTx
    go_wp2_with fail
    refine (hB k).mono ?_
    intro e w3 hpc
    rcases PC_end hpc with ⟨pe, rfl⟩ | rfl
    · exact ⟨rfl, hpc⟩
    · go_wp2
      go_end0
      exact hpc
  · skip
    by_cases hn1 : hdT (E.ws.drop p) = [91]
    · have hlt := hd_lt hn1 (by simp)
      rw [hn1] at hTx
      have hx : andR (rd5 (nms E.ss) E.fin n (.pat 0) (E.ws.drop (p + 1))) (fun t r => if hdT r = [93] then andR (rd5 (nms E.ss) E.fin n .una r.tail) (fun u r' => okR (t ++ u ++ [(18, 0)]) r') else erR 150 (plc E.fin r)) = some x := by
        rw [← hx]; unfold modR; rw [hn1, List.tail_drop]; rfl
      have hs : ({ data := #[93] } : ByteArray).toList = [93] := by rw [ByteArray.toList_eq]
      have hB := fun q => Tryz.palong_any E n hPl hU p T { data := #[93] } (by rw [hs]; simp) 18 (by omega) (w.drewN q) (hC q) hlt x (by rw [hs]; exact hx)
      have hX0 : ((mkB [91]).toList == [60]) = false := by rw [mkB_toList]; rfl
      have hX1 : ((mkB [91]).toList == [91]) = true := by rw [mkB_toList]; rfl
      clear hx hs hC
      go_enter Tryz.func103, Tryz.ntmps103
      go_wp2_with fail
      refine hTx.mono ?_
      rintro e w2 ⟨rfl, k, rfl⟩
      clear hTx
      go_wp2_with fail
      refine (hB k).mono ?_
      intro e w3 hpc
      rcases PC_end hpc with ⟨pe, rfl⟩ | rfl
      · exact ⟨rfl, hpc⟩
      · go_wp2
        go_end0
        exact hpc
    · have hx : rd5 (nms E.ss) E.fin n .ato (E.ws.drop p) = some x := by rw [← hx]; unfold modR; simp [mdOf, hn0, hn1]
      have hB := fun q => hA p T (w.drewN q) x (hC q) hx
      have hX0 : ((mkB (hdT (E.ws.drop p))).toList == [60]) = false := by rw [mkB_toList]; simpa using hn0
      have hX1 : ((mkB (hdT (E.ws.drop p))).toList == [91]) = false := by rw [mkB_toList]; simpa using hn1
      generalize mkB (hdT (E.ws.drop p)) = X at *
      clear hx hC
      go_enter Tryz.func103, Tryz.ntmps103
      go_wp2_with fail
      refine hTx.mono ?_
      rintro e w2 ⟨rfl, k, rfl⟩
      clear hTx
      go_wp2_with fail
      refine (hB k).mono ?_
      intro e w3 hpc
      rcases PC_end hpc with ⟨pe, rfl⟩ | rfl
      · exact ⟨rfl, hpc⟩
      · go_wp2
        go_end0
        exact hpc

set_option maxHeartbeats 4000000 in
set_option maxRecDepth 100000 in
theorem Tryz.pprefix_c (E : Ev) (n : Nat) (hU : Cont E n .una 102) (hPl : Cont E n (.pat 0) 107) (hA : Cont E n .ato 105) : Cont E (n + 1) .una 102 := by
  intro p T w x h hx
  have hTx := Tryz.ptext_any E p T w h
  have hC := fun q => h.drew q
  have hmf := mkfn
  clear h
  rw [una_eq, List.tail_drop] at hx
  by_cases hn0 : hdT (E.ws.drop p) = [33]
  · have hlt := hd_lt hn0 (by simp)
    rw [hn0] at hTx
    have hx : andR (rd5 (nms E.ss) E.fin n .una (E.ws.drop (p + 1))) (fun t r => okR (t ++ [(6, 0)]) r) = some x := by rw [← hx, hn0]; rfl
    obtain ⟨y2, hy2⟩ := some_of_and hx
    rw [hy2] at hx
    obtain rfl := and_addO hx
    have hB := fun q => Tryz.pbehind_any E n .una 102 Tryz.call102 hU p T 6 (by omega) (w.drewN q) (hC q) hlt y2 hy2
    have hX0 : ((mkB [33]).toList == [33]) = true := by rw [mkB_toList]; rfl
    clear hx hC hy2
    go_enter Tryz.func102, Tryz.ntmps102
    go_wp2_with fail
    refine hTx.mono ?_
    rintro e w2 ⟨rfl, k, rfl⟩
    clear hTx
    go_wp2_with fail
    refine (hB k).mono ?_
    intro e w3 hpc
    rcases PC_end hpc with ⟨pe, rfl⟩ | rfl
    · exact ⟨rfl, hpc⟩
    · go_wp2
      go_end0
      exact hpc
  · skip
    by_cases hn1 : hdT (E.ws.drop p) = [88]
    · have hlt := hd_lt hn1 (by simp)
      rw [hn1] at hTx
      have hx : andR (rd5 (nms E.ss) E.fin n .una (E.ws.drop (p + 1))) (fun t r => okR (t ++ [(7, 0)]) r) = some x := by rw [← hx, hn1]; rfl
      obtain ⟨y2, hy2⟩ := some_of_and hx
      rw [hy2] at hx
      obtain rfl := and_addO hx
      have hB := fun q => Tryz.pbehind_any E n .una 102 Tryz.call102 hU p T 7 (by omega) (w.drewN q) (hC q) hlt y2 hy2
      have hX0 : ((mkB [88]).toList == [33]) = false := by rw [mkB_toList]; rfl
      have hX1 : ((mkB [88]).toList == [88]) = true := by rw [mkB_toList]; rfl
      clear hx hC hy2
      go_enter Tryz.func102, Tryz.ntmps102
      go_wp2_with fail
      refine hTx.mono ?_
      rintro e w2 ⟨rfl, k, rfl⟩
      clear hTx
      go_wp2_with fail
      refine (hB k).mono ?_
      intro e w3 hpc
      rcases PC_end hpc with ⟨pe, rfl⟩ | rfl
      · exact ⟨rfl, hpc⟩
      · go_wp2
        go_end0
        exact hpc
    · skip
      by_cases hn2 : hdT (E.ws.drop p) = [78]
      · have hlt := hd_lt hn2 (by simp)
        rw [hn2] at hTx
        have hx : andR (rd5 (nms E.ss) E.fin n .una (E.ws.drop (p + 1))) (fun t r => okR (t ++ [(8, 0)]) r) = some x := by rw [← hx, hn2]; rfl
        obtain ⟨y2, hy2⟩ := some_of_and hx
        rw [hy2] at hx
        obtain rfl := and_addO hx
        have hB := fun q => Tryz.pbehind_any E n .una 102 Tryz.call102 hU p T 8 (by omega) (w.drewN q) (hC q) hlt y2 hy2
        have hX0 : ((mkB [78]).toList == [33]) = false := by rw [mkB_toList]; rfl
        have hX1 : ((mkB [78]).toList == [88]) = false := by rw [mkB_toList]; rfl
        have hX2 : ((mkB [78]).toList == [78]) = true := by rw [mkB_toList]; rfl
        clear hx hC hy2
        go_enter Tryz.func102, Tryz.ntmps102
        go_wp2_with fail
        refine hTx.mono ?_
        rintro e w2 ⟨rfl, k, rfl⟩
        clear hTx
        go_wp2_with fail
        refine (hB k).mono ?_
        intro e w3 hpc
        rcases PC_end hpc with ⟨pe, rfl⟩ | rfl
        · exact ⟨rfl, hpc⟩
        · go_wp2
          go_end0
          exact hpc
      · skip
        by_cases hn3 : hdT (E.ws.drop p) = [70]
        · have hlt := hd_lt hn3 (by simp)
          rw [hn3] at hTx
          have hx : andR (rd5 (nms E.ss) E.fin n .una (E.ws.drop (p + 1))) (fun t r => okR (t ++ [(9, 0)]) r) = some x := by rw [← hx, hn3]; rfl
          obtain ⟨y2, hy2⟩ := some_of_and hx
          rw [hy2] at hx
          obtain rfl := and_addO hx
          have hB := fun q => Tryz.pbehind_any E n .una 102 Tryz.call102 hU p T 9 (by omega) (w.drewN q) (hC q) hlt y2 hy2
          have hX0 : ((mkB [70]).toList == [33]) = false := by rw [mkB_toList]; rfl
          have hX1 : ((mkB [70]).toList == [88]) = false := by rw [mkB_toList]; rfl
          have hX2 : ((mkB [70]).toList == [78]) = false := by rw [mkB_toList]; rfl
          have hX3 : ((mkB [70]).toList == [70]) = true := by rw [mkB_toList]; rfl
          clear hx hC hy2
          go_enter Tryz.func102, Tryz.ntmps102
          go_wp2_with fail
          refine hTx.mono ?_
          rintro e w2 ⟨rfl, k, rfl⟩
          clear hTx
          go_wp2_with fail
          refine (hB k).mono ?_
          intro e w3 hpc
          rcases PC_end hpc with ⟨pe, rfl⟩ | rfl
          · exact ⟨rfl, hpc⟩
          · go_wp2
            go_end0
            exact hpc
        · skip
          by_cases hn4 : hdT (E.ws.drop p) = [71]
          · have hlt := hd_lt hn4 (by simp)
            rw [hn4] at hTx
            have hx : andR (rd5 (nms E.ss) E.fin n .una (E.ws.drop (p + 1))) (fun t r => okR (t ++ [(10, 0)]) r) = some x := by rw [← hx, hn4]; rfl
            obtain ⟨y2, hy2⟩ := some_of_and hx
            rw [hy2] at hx
            obtain rfl := and_addO hx
            have hB := fun q => Tryz.pbehind_any E n .una 102 Tryz.call102 hU p T 10 (by omega) (w.drewN q) (hC q) hlt y2 hy2
            have hX0 : ((mkB [71]).toList == [33]) = false := by rw [mkB_toList]; rfl
            have hX1 : ((mkB [71]).toList == [88]) = false := by rw [mkB_toList]; rfl
            have hX2 : ((mkB [71]).toList == [78]) = false := by rw [mkB_toList]; rfl
            have hX3 : ((mkB [71]).toList == [70]) = false := by rw [mkB_toList]; rfl
            have hX4 : ((mkB [71]).toList == [71]) = true := by rw [mkB_toList]; rfl
            clear hx hC hy2
            go_enter Tryz.func102, Tryz.ntmps102
            go_wp2_with fail
            refine hTx.mono ?_
            rintro e w2 ⟨rfl, k, rfl⟩
            clear hTx
            go_wp2_with fail
            refine (hB k).mono ?_
            intro e w3 hpc
            rcases PC_end hpc with ⟨pe, rfl⟩ | rfl
            · exact ⟨rfl, hpc⟩
            · go_wp2
              go_end0
              exact hpc
          · have hun : unOf (hdT (E.ws.drop p)) = none := by simp [unOf, hn0, hn1, hn2, hn3, hn4]
            rw [hun] at hx
            have hB := fun q => Tryz.pmodal_any E n hU hPl hA p T (w.drewN q) (hC q) x hx
            have hX0 : ((mkB (hdT (E.ws.drop p))).toList == [33]) = false := by rw [mkB_toList]; simpa using hn0
            have hX1 : ((mkB (hdT (E.ws.drop p))).toList == [88]) = false := by rw [mkB_toList]; simpa using hn1
            have hX2 : ((mkB (hdT (E.ws.drop p))).toList == [78]) = false := by rw [mkB_toList]; simpa using hn2
            have hX3 : ((mkB (hdT (E.ws.drop p))).toList == [70]) = false := by rw [mkB_toList]; simpa using hn3
            have hX4 : ((mkB (hdT (E.ws.drop p))).toList == [71]) = false := by rw [mkB_toList]; simpa using hn4
            generalize mkB (hdT (E.ws.drop p)) = X at *
            clear hx hC hun
            go_enter Tryz.func102, Tryz.ntmps102
            go_wp2_with fail
            refine hTx.mono ?_
            rintro e w2 ⟨rfl, k, rfl⟩
            clear hTx
            go_wp2_with fail
            refine (hB k).mono ?_
            intro e w3 hpc
            rcases PC_end hpc with ⟨pe, rfl⟩ | rfl
            · exact ⟨rfl, hpc⟩
            · go_wp2
              go_end0
              exact hpc

set_option maxHeartbeats 4000000 in
set_option maxRecDepth 100000 in
theorem Tryz.patom_c (E : Ev) (n : Nat) (hI : Cont E n (.lev 0) 37) : Cont E (n + 1) .ato 105 := by
  intro p T w x h hx
  have hTx := Tryz.ptext_any E p T w h
  have hC := fun q => h.drew q
  have hmf := mkfn
  clear h
  rw [ato_eq, List.tail_drop] at hx
  by_cases hn0 : hdT (E.ws.drop p) = [116, 114, 117, 101]
  · have hlt := hd_lt hn0 (by simp)
    rw [hn0] at hTx
    have hx : x = .ok ([(0, 0)], E.ws.drop (p + 1)) := by
      rw [hn0] at hx
      have hx : okR [(0, 0)] (E.ws.drop (p + 1)) = some x := hx
      simp [okR] at hx; exact hx.symm
    subst hx
    have hB : ∀ q, Calls Tryz.prog 108 #[.pointer (some ⟨E.g, 0, none⟩), .int .u8 0] (w.drewN q) (PC E T (.ok ([(0, 0)], E.ws.drop (p + 1)))) := fun q => (Tryz.ppass_any E p T 0 (by omega) (w.drewN q) (hC q) hlt).mono fun e w1 ⟨h1, h2⟩ => ⟨h1, by rw [List.length_drop, show E.ws.length - (E.ws.length - (p + 1)) = p + 1 by omega]; exact h2⟩
    have hX0 : ((mkB [116, 114, 117, 101]).toList == [116, 114, 117, 101]) = true := by rw [mkB_toList]; rfl
    clear hC
    go_enter Tryz.func105, Tryz.ntmps105
    go_wp2_with fail
    refine hTx.mono ?_
    rintro e w2 ⟨rfl, k, rfl⟩
    clear hTx
    go_wp2_with fail
    refine (hB k).mono ?_
    intro e w3 hpc
    rcases PC_end hpc with ⟨pe, rfl⟩ | rfl
    · exact ⟨rfl, hpc⟩
    · go_wp2
      go_end0
      exact hpc
  · skip
    by_cases hn1 : hdT (E.ws.drop p) = [102, 97, 108, 115, 101]
    · have hlt := hd_lt hn1 (by simp)
      rw [hn1] at hTx
      have hx : x = .ok ([(1, 0)], E.ws.drop (p + 1)) := by
        rw [hn1] at hx
        have hx : okR [(1, 0)] (E.ws.drop (p + 1)) = some x := hx
        simp [okR] at hx; exact hx.symm
      subst hx
      have hB : ∀ q, Calls Tryz.prog 108 #[.pointer (some ⟨E.g, 0, none⟩), .int .u8 1] (w.drewN q) (PC E T (.ok ([(1, 0)], E.ws.drop (p + 1)))) := fun q => (Tryz.ppass_any E p T 1 (by omega) (w.drewN q) (hC q) hlt).mono fun e w1 ⟨h1, h2⟩ => ⟨h1, by rw [List.length_drop, show E.ws.length - (E.ws.length - (p + 1)) = p + 1 by omega]; exact h2⟩
      have hX0 : ((mkB [102, 97, 108, 115, 101]).toList == [116, 114, 117, 101]) = false := by rw [mkB_toList]; rfl
      have hX1 : ((mkB [102, 97, 108, 115, 101]).toList == [102, 97, 108, 115, 101]) = true := by rw [mkB_toList]; rfl
      clear hC
      go_enter Tryz.func105, Tryz.ntmps105
      go_wp2_with fail
      refine hTx.mono ?_
      rintro e w2 ⟨rfl, k, rfl⟩
      clear hTx
      go_wp2_with fail
      refine (hB k).mono ?_
      intro e w3 hpc
      rcases PC_end hpc with ⟨pe, rfl⟩ | rfl
      · exact ⟨rfl, hpc⟩
      · go_wp2
        go_end0
        exact hpc
    · skip
      by_cases hn2 : hdT (E.ws.drop p) = [108, 97, 115, 116]
      · have hlt := hd_lt hn2 (by simp)
        rw [hn2] at hTx
        have hx : x = .ok ([(3, 0)], E.ws.drop (p + 1)) := by
          rw [hn2] at hx
          have hx : okR [(3, 0)] (E.ws.drop (p + 1)) = some x := hx
          simp [okR] at hx; exact hx.symm
        subst hx
        have hB : ∀ q, Calls Tryz.prog 108 #[.pointer (some ⟨E.g, 0, none⟩), .int .u8 3] (w.drewN q) (PC E T (.ok ([(3, 0)], E.ws.drop (p + 1)))) := fun q => (Tryz.ppass_any E p T 3 (by omega) (w.drewN q) (hC q) hlt).mono fun e w1 ⟨h1, h2⟩ => ⟨h1, by rw [List.length_drop, show E.ws.length - (E.ws.length - (p + 1)) = p + 1 by omega]; exact h2⟩
        have hX0 : ((mkB [108, 97, 115, 116]).toList == [116, 114, 117, 101]) = false := by rw [mkB_toList]; rfl
        have hX1 : ((mkB [108, 97, 115, 116]).toList == [102, 97, 108, 115, 101]) = false := by rw [mkB_toList]; rfl
        have hX2 : ((mkB [108, 97, 115, 116]).toList == [108, 97, 115, 116]) = true := by rw [mkB_toList]; rfl
        clear hC
        go_enter Tryz.func105, Tryz.ntmps105
        go_wp2_with fail
        refine hTx.mono ?_
        rintro e w2 ⟨rfl, k, rfl⟩
        clear hTx
        go_wp2_with fail
        refine (hB k).mono ?_
        intro e w3 hpc
        rcases PC_end hpc with ⟨pe, rfl⟩ | rfl
        · exact ⟨rfl, hpc⟩
        · go_wp2
          go_end0
          exact hpc
      · skip
        by_cases hn3 : hdT (E.ws.drop p) = [40]
        · have hlt := hd_lt hn3 (by simp)
          rw [hn3] at hTx
          have hx : andR (rd5 (nms E.ss) E.fin n (.lev 0) (E.ws.drop (p + 1))) (fun t r => if hdT r = [41] then okR t r.tail else erR 150 (plc E.fin r)) = some x := by rw [← hx, hn3]; rfl
          obtain ⟨y2, hy2⟩ := some_of_and hx
          rw [hy2] at hx
          obtain rfl := and_want hx
          have hs : ({ data := #[41] } : ByteArray).toList = [41] := by rw [ByteArray.toList_eq]
          have hB := fun q => Tryz.pwithin_any E n (.lev 0) 37 Tryz.call37 hI p T { data := #[41] } (by rw [hs]; simp) (w.drewN q) (hC q) hlt y2 hy2
          rw [hs] at hB
          have hX0 : ((mkB [40]).toList == [116, 114, 117, 101]) = false := by rw [mkB_toList]; rfl
          have hX1 : ((mkB [40]).toList == [102, 97, 108, 115, 101]) = false := by rw [mkB_toList]; rfl
          have hX2 : ((mkB [40]).toList == [108, 97, 115, 116]) = false := by rw [mkB_toList]; rfl
          have hX3 : ((mkB [40]).toList == [40]) = true := by rw [mkB_toList]; rfl
          clear hx hC hy2 hs
          go_enter Tryz.func105, Tryz.ntmps105
          go_wp2_with fail
          refine hTx.mono ?_
          rintro e w2 ⟨rfl, k, rfl⟩
          clear hTx
          go_wp2_with fail
          refine (hB k).mono ?_
          intro e w3 hpc
          rcases PC_end hpc with ⟨pe, rfl⟩ | rfl
          · exact ⟨rfl, hpc⟩
          · go_wp2
            go_end0
            exact hpc
        · have hat : atOf (hdT (E.ws.drop p)) = none := by simp [atOf, hn0, hn1, hn2]
          rw [hat] at hx
          simp only [hn3, if_false] at hx
          have hB := fun q => Tryz.pname_any E p T (w.drewN q) (hC q) x hx
          have hX0 : ((mkB (hdT (E.ws.drop p))).toList == [116, 114, 117, 101]) = false := by rw [mkB_toList]; simpa using hn0
          have hX1 : ((mkB (hdT (E.ws.drop p))).toList == [102, 97, 108, 115, 101]) = false := by rw [mkB_toList]; simpa using hn1
          have hX2 : ((mkB (hdT (E.ws.drop p))).toList == [108, 97, 115, 116]) = false := by rw [mkB_toList]; simpa using hn2
          have hX3 : ((mkB (hdT (E.ws.drop p))).toList == [40]) = false := by rw [mkB_toList]; simpa using hn3
          generalize mkB (hdT (E.ws.drop p)) = X at *
          clear hx hC hat
          go_enter Tryz.func105, Tryz.ntmps105
          go_wp2_with fail
          refine hTx.mono ?_
          rintro e w2 ⟨rfl, k, rfl⟩
          clear hTx
          go_wp2_with fail
          refine (hB k).mono ?_
          intro e w3 hpc
          rcases PC_end hpc with ⟨pe, rfl⟩ | rfl
          · exact ⟨rfl, hpc⟩
          · go_wp2
            go_end0
            exact hpc

set_option maxHeartbeats 4000000 in
set_option maxRecDepth 100000 in
theorem Tryz.pgroup_any (E : Ev) (n : Nat) (hPl : Cont E n (.pat 0) 107) (p : Nat) (T : List Tk5) (w : World) (h : Cx E w p T) (x : Except Er (List Tk5 × List Wd)) (hx : grpR (nms E.ss) E.fin n (E.ws.drop p) = some x) :
    Calls Tryz.prog 114 #[.pointer (some ⟨E.g, 0, none⟩)] w (PC E T x) := by
  have hTx := Tryz.ptext_any E p T w h
  have hC := fun q => h.drew q
  have hmf := mkfn
  clear h
  unfold grpR at hx
  by_cases hn0 : hdT (E.ws.drop p) = [40]
  · have hlt := hd_lt hn0 (by simp)
    rw [if_pos hn0, List.tail_drop] at hx
    rw [hn0] at hTx
    obtain ⟨y2, hy2⟩ := some_of_and hx
    rw [hy2] at hx
    obtain rfl := and_want hx
    have hs : ({ data := #[41] } : ByteArray).toList = [41] := by rw [ByteArray.toList_eq]
    have hB := fun q => Tryz.pwithin_any E n (.pat 0) 107 Tryz.call107 hPl p T { data := #[41] } (by rw [hs]; simp) (w.drewN q) (hC q) hlt y2 hy2
    rw [hs] at hB
    have hX0 : ((mkB [40]).toList == [40]) = true := by rw [mkB_toList]; rfl
    clear hx hC hy2 hs
    go_enter Tryz.func114, Tryz.ntmps114
    go_wp2_with fail
    refine hTx.mono ?_
    rintro e w2 ⟨rfl, k, rfl⟩
    clear hTx
    go_wp2_with fail
    refine (hB k).mono ?_
    intro e w3 hpc
    rcases PC_end hpc with ⟨pe, rfl⟩ | rfl
    · exact ⟨rfl, hpc⟩
    · go_wp2
      go_end0
      exact hpc
  · rw [if_neg hn0] at hx
    simp [erR] at hx
    subst hx
    have hX0 : ((mkB (hdT (E.ws.drop p))).toList == [40]) = false := by rw [mkB_toList]; simpa using hn0
    have hRf := fun q => Tryz.prefuse_any E p T 150 (w.drewN q) (hC q)
    generalize mkB (hdT (E.ws.drop p)) = X at *
    have HC : Hid (∀ q, Cx E (w.drewN q) p T) := hC
    clear hC
    go_enter Tryz.func114, Tryz.ntmps114
    go_wp2_with fail
    refine hTx.mono ?_
    rintro e w2 ⟨rfl, k, rfl⟩
    clear hTx
    go_wp2_with fail
    refine (hRf k).mono ?_
    rintro e w3 ⟨rfl, hB⟩
    have hG := (HC.out k).gr.trans (grown_of hB (some E.g))
    clear hRf hB
    go_wp2
    exact ⟨rfl, rfl, hG⟩

set_option maxHeartbeats 4000000 in
set_option maxRecDepth 100000 in
theorem Tryz.ptest_any (E : Ev) (n : Nat) (hU : Cont E n .una 102) (hPl : Cont E n (.pat 0) 107) (p : Nat) (T : List Tk5) (w : World) (h : Cx E w p T) (x : Except Er (List Tk5 × List Wd)) (hx : tstR (nms E.ss) E.fin n (E.ws.drop p) = some x) :
    Calls Tryz.prog 113 #[.pointer (some ⟨E.g, 0, none⟩)] w (PC E T x) := by
  have hTx := Tryz.ptext_any E p T w h
  have hC := fun q => h.drew q
  have hmf := mkfn
  clear h
  unfold tstR at hx
  by_cases hn0 : hdT (E.ws.drop p) = [63]
  · have hlt := hd_lt hn0 (by simp)
    rw [if_pos hn0, List.tail_drop] at hx
    rw [hn0] at hTx
    obtain ⟨y2, hy2⟩ := some_of_and hx
    rw [hy2] at hx
    obtain rfl := and_addO hx
    have hB := fun q => Tryz.pbehind_any E n .una 102 Tryz.call102 hU p T 20 (by omega) (w.drewN q) (hC q) hlt y2 hy2
    have hX0 : ((mkB [63]).toList == [63]) = true := by rw [mkB_toList]; rfl
    clear hx hC hy2
    go_enter Tryz.func113, Tryz.ntmps113
    go_wp2_with fail
    refine hTx.mono ?_
    rintro e w2 ⟨rfl, k, rfl⟩
    clear hTx
    go_wp2_with fail
    refine (hB k).mono ?_
    intro e w3 hpc
    rcases PC_end hpc with ⟨pe, rfl⟩ | rfl
    · exact ⟨rfl, hpc⟩
    · go_wp2
      go_end0
      exact hpc
  · rw [if_neg hn0] at hx
    have hB := fun q => Tryz.pgroup_any E n hPl p T (w.drewN q) (hC q) x hx
    have hX0 : ((mkB (hdT (E.ws.drop p))).toList == [63]) = false := by rw [mkB_toList]; simpa using hn0
    generalize mkB (hdT (E.ws.drop p)) = X at *
    clear hx hC
    go_enter Tryz.func113, Tryz.ntmps113
    go_wp2_with fail
    refine hTx.mono ?_
    rintro e w2 ⟨rfl, k, rfl⟩
    clear hTx
    go_wp2_with fail
    refine (hB k).mono ?_
    intro e w3 hpc
    rcases PC_end hpc with ⟨pe, rfl⟩ | rfl
    · exact ⟨rfl, hpc⟩
    · go_wp2
      (try simp only [Exit.inBlock, Exit.then]); refine bodyPost_ret (results_none rfl _ _ _) rfl ?_
      exact hpc

set_option maxHeartbeats 4000000 in
set_option maxRecDepth 100000 in
theorem Tryz.pstep_c (E : Ev) (n : Nat) (hI : Cont E n (.lev 0) 37) (hU : Cont E n .una 102) (hPl : Cont E n (.pat 0) 107) : Cont E (n + 1) .bar 112 := by
  intro p T w x h hx
  have hTx := Tryz.ptext_any E p T w h
  have hC := fun q => h.drew q
  have ht := h.tle
  have hmf := mkfn
  clear h
  rw [bar_eq] at hx
  by_cases hn0 : hdT (E.ws.drop p) = [123]
  · have hlt := hd_lt hn0 (by simp)
    rw [if_pos hn0, List.tail_drop] at hx
    rw [hn0] at hTx
    obtain ⟨y2, hy2⟩ := some_of_and hx
    rw [hy2] at hx
    have hs : ({ data := #[125] } : ByteArray).toList = [125] := by rw [ByteArray.toList_eq]
    have hB := fun q => Tryz.pwithin_any E n (.lev 0) 37 Tryz.call37 hI p T { data := #[125] } (by rw [hs]; simp) (w.drewN q) (hC q) hlt y2 hy2
    rw [hs] at hB
    have hX0 : ((mkB [123]).toList == [123]) = true := by rw [mkB_toList]; rfl
    cases hwx : wantX E.fin [125] y2 with
    | error er =>
      obtain ⟨e1, e2⟩ := er
      rw [hwx] at hB
      have hxe : x = .error (e1, e2) := by
        cases y2 with
        | error e => simp [andR] at hx; simp [wantX] at hwx; rw [← hx, hwx]
        | ok q =>
          obtain ⟨t, r⟩ := q
          simp only [andR] at hx
          by_cases he : hdT r = [125]
          · simp [wantX, he] at hwx
          · rw [if_neg he] at hx; simp [erR] at hx; simp [wantX, he] at hwx; rw [← hx]; simp [hwx]
      subst hxe
      clear hx hC hy2 hs hwx
      go_enter Tryz.func112, Tryz.ntmps112
      go_wp2_with fail
      refine hTx.mono ?_
      rintro e w2 ⟨rfl, k, rfl⟩
      clear hTx
      go_wp2_with fail
      refine (hB k).mono ?_
      rintro e w3 ⟨rfl, hg⟩
      exact ⟨rfl, rfl, hg⟩
    | ok q2 =>
      obtain ⟨t, r'⟩ := q2
      rw [hwx] at hB
      obtain ⟨hxe, h4⟩ : x = .ok (t ++ [(19, 0)], r') ∧ t.length + (p + 1) < E.ws.length - r'.length ∧ r'.length ≤ E.ws.length := by
        cases y2 with
        | error e => simp [wantX] at hwx
        | ok q =>
          obtain ⟨t0, r⟩ := q
          obtain ⟨_, g1, g2, g3⟩ := rest_of (by omega) hy2
          simp only [andR] at hx
          by_cases he : hdT r = [125]
          · have := tail_lt (hd_ne he (by simp))
            rw [if_pos he] at hx; simp [okR] at hx; simp [wantX, he] at hwx
            obtain ⟨rfl, rfl⟩ := hwx
            exact ⟨hx.symm, by omega, by omega⟩
          · simp [wantX, he] at hwx
      subst hxe
      have hP := fun w' (hC : Cx E w' (E.ws.length - r'.length) (T ++ t)) => Tryz.pput_any E _ (T ++ t) 19 (by omega) w' hC (by simp; omega)
      clear hx hC hy2 hs hwx
      go_enter Tryz.func112, Tryz.ntmps112
      go_wp2_with fail
      refine hTx.mono ?_
      rintro e w2 ⟨rfl, k, rfl⟩
      clear hTx
      go_wp2_with fail
      refine (hB k).mono ?_
      rintro e w3 ⟨rfl, hC3⟩
      have hP := hP w3 hC3
      clear hB hC3
      go_wp2_with fail
      refine hP.mono ?_
      rintro e w4 ⟨rfl, hC4⟩
      go_wp2
      go_end0
      exact ⟨rfl, by rw [← List.append_assoc]; exact hC4⟩
  · rw [if_neg hn0] at hx
    have hB := fun q => Tryz.ptest_any E n hU hPl p T (w.drewN q) (hC q) x hx
    have hX0 : ((mkB (hdT (E.ws.drop p))).toList == [123]) = false := by rw [mkB_toList]; simpa using hn0
    generalize mkB (hdT (E.ws.drop p)) = X at *
    clear hx hC
    go_enter Tryz.func112, Tryz.ntmps112
    go_wp2_with fail
    refine hTx.mono ?_
    rintro e w2 ⟨rfl, k, rfl⟩
    clear hTx
    go_wp2_with fail
    refine (hB k).mono ?_
    intro e w3 hpc
    rcases PC_end hpc with ⟨pe, rfl⟩ | rfl
    · exact ⟨rfl, hpc⟩
    · go_wp2
      (try simp only [Exit.inBlock, Exit.then]); refine bodyPost_ret (results_none rfl _ _ _) rfl ?_
      exact hpc
end Go.Proofs.YtfipefbaabkdeaaGreatDoor
