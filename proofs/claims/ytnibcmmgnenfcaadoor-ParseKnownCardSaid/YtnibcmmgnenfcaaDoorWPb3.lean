/- Package parse: a path in brackets and the formula behind it; a name. -/
import Derived.Test.YtnibcmmgnenfcaaDoorWPb2
import Derived.BigQuiet
namespace Go.Proofs.YtnibcmmgnenfcaaDoor
open Go.RowKit Go.Maps

theorem some_of_and {x : PR} {f : List Tk5 → List Wd → PR} {a : Except Er (List Tk5 × List Wd)} (h : andR x f = some a) : ∃ y, x = some y := by
  cases x with
  | none => simp [andR] at h
  | some y => exact ⟨y, rfl⟩
theorem mkfn : ∀ (fn : Fn) (first cap : Array Value) (w : World), (Instr.makeFunc fn first cap).run Tryd.prog w = .ok (.func fn first cap) w := fun _ _ _ _ => rfl
/-- The words behind the one that stands next. -/
theorem tail_at {ws r : List Wd} (h : ws.drop (ws.length - r.length) = r) (hn : r ≠ []) (hl : r.length ≤ ws.length) : ws.drop (ws.length - r.tail.length) = r.tail := by
  have := tail_lt hn
  conv => rhs; rw [← h]
  rw [List.tail_drop]
  congr 1; omega
set_option maxHeartbeats 1000000 in
theorem Tryd.palong_any (E : Ev) (n : Nat) (hPl : Cont E n (.pat 0) 22) (hPr : Cont E n .una 99) (p : Nat) (T : List Tk5) (s : ByteArray) (hs : s.toList ≠ []) (op : Nat) (hop : op < 256) (w : World) (h : Cx E w p T) (hlt : p < E.ws.length)
    (x : Except Er (List Tk5 × List Wd)) (hx : andR (rd5 (nms E.ss) E.fin n (.pat 0) (E.ws.drop (p + 1))) (fun t r => if hdT r = s.toList then andR (rd5 (nms E.ss) E.fin n .una r.tail) (fun u r' => okR (t ++ u ++ [(op, 0)]) r') else erR 150 (plc E.fin r)) = some x) :
    Calls Tryd.prog 104 #[.pointer (some ⟨E.g, 0, none⟩), .string s, .int .u8 (op : Int)] w (PC E T x) := by
  obtain ⟨y1, hy1⟩ := some_of_and hx
  have hW := Tryd.pwithin_any E n (.pat 0) 22 Tryd.call22 hPl p T s hs w h hlt y1 hy1
  rw [hy1] at hx
  have hmf := mkfn
  have ht := h.tle
  clear h hPl
  cases y1 with
  | error er =>
    obtain ⟨e1, e2⟩ := er
    simp [andR] at hx
    subst hx
    go_enter Tryd.func104, Tryd.ntmps104
    go_wp2_with fail
    refine hW.mono ?_
    rintro e w1 ⟨rfl, hg⟩
    exact ⟨rfl, rfl, hg⟩
  | ok q =>
    obtain ⟨t, r⟩ := q
    obtain ⟨hr, h1, h2, h3⟩ := rest_of (by omega) hy1
    simp only [andR] at hx
    by_cases he : hdT r = s.toList
    · rw [if_pos he] at hx
      have hne : r ≠ [] := fun e => hs (by rw [← he, e]; rfl)
      have hrl := tail_lt hne
      have htl := tail_at hr hne h2
      have hwx : wantX E.fin s.toList (.ok (t, r)) = .ok (t, r.tail) := by simp [wantX, he]
      rw [hwx] at hW
      obtain ⟨y2, hy2⟩ := some_of_and hx
      have hQ := fun w' (hC : Cx E w' (E.ws.length - r.tail.length) (T ++ t)) => hPr _ (T ++ t) w' y2 hC (by rw [htl]; exact hy2)
      rw [hy2] at hx
      rw [← htl] at hy2
      clear hwx htl hr he hPr
      cases y2 with
      | error er =>
        obtain ⟨e1, e2⟩ := er
        simp at hx
        subst hx
        clear hy1 hy2
        go_enter Tryd.func104, Tryd.ntmps104
        go_wp2_with fail
        refine hW.mono ?_
        rintro e w1 ⟨rfl, hC1⟩
        have hQ1 := hQ w1 hC1
        clear hQ hC1 hW
        go_wp2_with fail
        refine hQ1.mono ?_
        rintro e w2 ⟨rfl, hg⟩
        exact ⟨rfl, rfl, hg⟩
      | ok q2 =>
        obtain ⟨u, r'⟩ := q2
        obtain ⟨_, g1, g2, g3⟩ := rest_of (by omega) hy2
        simp [okR] at hx
        subst hx
        have hP := fun w' (hC : Cx E w' (E.ws.length - r'.length) (T ++ t ++ u)) => Tryd.pput_any E _ (T ++ t ++ u) op hop w' hC (by simp; omega)
        clear hy1 hy2
        go_enter Tryd.func104, Tryd.ntmps104
        go_wp2_with fail
        refine hW.mono ?_
        rintro e w1 ⟨rfl, hC1⟩
        have hQ1 := hQ w1 hC1
        clear hQ hC1 hW
        go_wp2_with fail
        refine hQ1.mono ?_
        rintro e w2 ⟨rfl, hC2⟩
        have hP2 := hP w2 hC2
        clear hP hC2 hQ1
        go_wp2_with fail
        refine hP2.mono ?_
        rintro e w3 ⟨rfl, hC3⟩
        go_wp2
        go_end0
        refine ⟨rfl, ?_⟩
        have e4 : T ++ (t ++ (u ++ [(op, 0)])) = T ++ t ++ u ++ [(op, 0)] := by simp
        rw [e4]; exact hC3
    · rw [if_neg he] at hx
      have hwx : wantX E.fin s.toList (.ok (t, r)) = .error (150, plc E.fin r) := by simp [wantX, he]
      rw [hwx] at hW
      simp [erR] at hx
      subst hx
      clear hwx he hy1
      go_enter Tryd.func104, Tryd.ntmps104
      go_wp2_with fail
      refine hW.mono ?_
      rintro e w1 ⟨rfl, hg⟩
      exact ⟨rfl, rfl, hg⟩

/-- slices.Index of names. -/
theorem Tryd.pindex_any (a : Option Addr) (len cap : Nat) (ad : Nat → Addr) (ss : List ByteArray) (s : ByteArray) (w : World) (hS : StrSl Tryd.prog 22 w a len cap ad ss) :
    Calls Tryd.prog 87 #[.slice a len cap, .string s] w fun e w' => e = .returned (.int .i64 (atI (nms ss) s.toList)) ∧ w' = w := by
  obtain ⟨hl, hcp, hbd, hidx, hc, _, _, _⟩ := hS
  unfold maxLen at hbd
  have hl' := nms_len ss
  have HL : Hid ((nms ss).length = len) := by rw [hl', hl]; exact rfl
  have HG : ∀ k, k < len → (nms ss)[k]? = some (ss.getD k ByteArray.empty).toList := fun k hk => nms_get (by omega)
  clear hl hl'
  have hidx' := fun (k : Nat) (w : World) (h : k < len) => hidx len k w h (Nat.le_refl _)
  clear hidx
  go_enter Tryd.func87, Tryd.ntmps87
  go_wp2
  go_loop [8] (fun i => ∃ k : Nat, k ≤ len ∧ i = .int .i64 k ∧ ((nms ss).take k).contains s.toList = false) (fun i => len - (intOf i).toNat)
  case atStart => exact ⟨0, Nat.zero_le _, rfl, by simp⟩
  case round =>
    obtain ⟨k, hk, rfl, hu⟩ := hrel
    have HU : Hid (((nms ss).take k).contains s.toList = false) := hu
    clear hu
    by_cases hlt : k < len
    · have hck := hc k hlt
      have hik := fun w => hidx' k w hlt
      have hgk : Hid ((nms ss)[k]? = some (ss.getD k ByteArray.empty).toList) := HG k hlt
      clear HG hc hidx'
      generalize ss.getD k ByteArray.empty = x at *
      rcases Bool.eq_false_or_eq_true (s.toList == x.toList) with he | he
      · have hx : Hid (atI (nms ss) s.toList = k) := by
          have e2 : s.toList = x.toList := by simpa using he
          exact atI_hit (by rw [e2]; exact hgk.out) HU.out
        go_wp2
        go_ret
        exact ⟨by rw [hx.out]; rfl, rfl⟩
      · have hx : Hid (((nms ss).take (k + 1)).contains s.toList = false) := by
          have e2 : ¬ s.toList = x.toList := by simpa using he
          show _ = _
          rw [take_snoc_contains hgk.out, HU.out]; simp; exact fun h => e2 h
        go_wp2
        go_round
        case rel => exact ⟨k + 1, by omega, by go_num, hx.out⟩
        case measure => simp [intOf]; omega
    · have hx : Hid (atI (nms ss) s.toList = -1) := atI_miss (by have := HU.out; rwa [List.take_of_length_le (by have := HL.out; omega)] at this)
      go_wp2
      go_ret
      exact ⟨by rw [hx.out]; rfl, rfl⟩
end Go.Proofs.YtnibcmmgnenfcaaDoor
