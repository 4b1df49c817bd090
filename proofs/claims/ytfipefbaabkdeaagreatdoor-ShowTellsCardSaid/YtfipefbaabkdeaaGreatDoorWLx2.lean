/- Lists of texts (signs, keys): which sort of word a text is, the longest sign. -/
import Derived.Test.YtfipefbaabkdeaaGreatDoorWLx1
namespace Go.Proofs.YtfipefbaabkdeaaGreatDoor
open Go.RowKit Go.Maps

theorem Tryz.key_any (s : ByteArray) (w : World) :
    Calls Tryz.prog 88 #[.string s] w fun e w' => e = .returned (.bool (keyL.contains s.toList)) ∧ w' = w := by
  rcases Bool.eq_false_or_eq_true (s.toList == [88]) with h0 | h0
  · have K : Hid (keyL.contains s.toList = true) := by show _ = _; simp_all [keyL]
    go_enter Tryz.func88, Tryz.ntmps88
    go_wp2
    go_ret
    exact ⟨by rw [K.out]; rfl, rfl⟩
  rcases Bool.eq_false_or_eq_true (s.toList == [78]) with h1 | h1
  · have K : Hid (keyL.contains s.toList = true) := by show _ = _; simp_all [keyL]
    go_enter Tryz.func88, Tryz.ntmps88
    go_wp2
    go_ret
    exact ⟨by rw [K.out]; rfl, rfl⟩
  rcases Bool.eq_false_or_eq_true (s.toList == [70]) with h2 | h2
  · have K : Hid (keyL.contains s.toList = true) := by show _ = _; simp_all [keyL]
    go_enter Tryz.func88, Tryz.ntmps88
    go_wp2
    go_ret
    exact ⟨by rw [K.out]; rfl, rfl⟩
  rcases Bool.eq_false_or_eq_true (s.toList == [71]) with h3 | h3
  · have K : Hid (keyL.contains s.toList = true) := by show _ = _; simp_all [keyL]
    go_enter Tryz.func88, Tryz.ntmps88
    go_wp2
    go_ret
    exact ⟨by rw [K.out]; rfl, rfl⟩
  rcases Bool.eq_false_or_eq_true (s.toList == [85]) with h4 | h4
  · have K : Hid (keyL.contains s.toList = true) := by show _ = _; simp_all [keyL]
    go_enter Tryz.func88, Tryz.ntmps88
    go_wp2
    go_ret
    exact ⟨by rw [K.out]; rfl, rfl⟩
  rcases Bool.eq_false_or_eq_true (s.toList == [82]) with h5 | h5
  · have K : Hid (keyL.contains s.toList = true) := by show _ = _; simp_all [keyL]
    go_enter Tryz.func88, Tryz.ntmps88
    go_wp2
    go_ret
    exact ⟨by rw [K.out]; rfl, rfl⟩
  rcases Bool.eq_false_or_eq_true (s.toList == [116, 114, 117, 101]) with h6 | h6
  · have K : Hid (keyL.contains s.toList = true) := by show _ = _; simp_all [keyL]
    go_enter Tryz.func88, Tryz.ntmps88
    go_wp2
    go_ret
    exact ⟨by rw [K.out]; rfl, rfl⟩
  rcases Bool.eq_false_or_eq_true (s.toList == [102, 97, 108, 115, 101]) with h7 | h7
  · have K : Hid (keyL.contains s.toList = true) := by show _ = _; simp_all [keyL]
    go_enter Tryz.func88, Tryz.ntmps88
    go_wp2
    go_ret
    exact ⟨by rw [K.out]; rfl, rfl⟩
  rcases Bool.eq_false_or_eq_true (s.toList == [108, 97, 115, 116]) with h8 | h8
  · have K : Hid (keyL.contains s.toList = true) := by show _ = _; simp_all [keyL]
    go_enter Tryz.func88, Tryz.ntmps88
    go_wp2
    go_ret
    exact ⟨by rw [K.out]; rfl, rfl⟩
  · have K : Hid (keyL.contains s.toList = false) := by show _ = _; simp_all [keyL]
    go_enter Tryz.func88, Tryz.ntmps88
    go_wp2
    go_ret
    exact ⟨by rw [K.out]; rfl, rfl⟩

/-- A list of texts in a block of its own. -/
def StAt (w : World) (g : Nat) (ss : List Bytes) : Prop := w.heap[g]? = some (.cells (ss.map fun l => Value.string (mkB l)).toArray 9 (0, 0))
theorem StAt.lt {w : World} {g : Nat} {ss : List Bytes} (h : StAt w g ss) : g < w.heap.size := (Array.getElem?_eq_some_iff.1 h).1
theorem StAt.up {w w' : World} {g : Nat} {ss : List Bytes} (h : StAt w g ss) (hb : Below w.heap.size w w') : StAt w' g ss := (hb.block g h.lt).trans h
theorem StAt.grown {w w' : World} {g : Nat} {ss : List Bytes} {row : Option Nat} (h : StAt w g ss) (hg : w.grownBy w' row) (hne : row ≠ some g) : StAt w' g ss := (hg.block g h.lt (fun e => hne e.symm)).trans h
theorem StAt.cell {w : World} {g : Nat} {ss : List Bytes} (h : StAt w g ss) {k : Nat} (hk : k < ss.length) : w.cell? ⟨g, k, none⟩ = some (.string (mkB (ss.getD k []))) := by
  unfold StAt at h; simp [World.cell?, h, List.getD_eq_getElem?_getD, List.getElem?_eq_getElem hk]
theorem StAt.new (w : World) (ss : List Bytes) : StAt (w.alloc (.cells (ss.map fun l => Value.string (mkB l)).toArray 9)) w.heap.size ss := (MapKept.heap_alloc w _).1
theorem Tryz.sizeStr : (Tryz.prog.info? 9).map (·.size) = some 1 := by kernel_rfl
theorem Tryz.idxS (g n k : Nat) (hk : k < n) (w : World) : (Instr.indexAt 22 (.slice (some ⟨g, 0, none⟩) n n) (.int .i64 k)).run Tryz.prog w = .ok (.pointer (some ⟨g, k, none⟩)) w := by
  have := idx_of Tryz.underlying22 Tryz.sizeStr (a := some ⟨g, 0, none⟩) (cap := n) (n := n) (fun h => by cases h) k w hk
  rw [this]; simp [adOf, Addr.add]; omega
theorem getD_get {ss : List Bytes} {k : Nat} (h : k < ss.length) : ss[k]? = some (ss.getD k []) := by simp [List.getD_eq_getElem?_getD, List.getElem?_eq_getElem h]

/-- slices.Index of a list of texts. -/
theorem Tryz.index_any (g : Nat) (ss : List Bytes) (s : ByteArray) (w : World) (hS : StAt w g ss) (hn : ss.length ≤ 1000) :
    Calls Tryz.prog 98 #[.slice (some ⟨g, 0, none⟩) ss.length ss.length, .string s] w fun e w' => e = .returned (.int .i64 (atI ss s.toList)) ∧ w' = w := by
  obtain ⟨len, hlen⟩ : ∃ len, ss.length = len := ⟨_, rfl⟩
  have HL : Hid (ss.length = len) := hlen
  have HG : ∀ k, k < len → ss[k]? = some (ss.getD k []) := fun k hk => getD_get (by omega)
  have hc : ∀ k, k < len → w.cell? ⟨g, k, none⟩ = some (.string (mkB (ss.getD k []))) := fun k hk => hS.cell (by omega)
  have hidx := Tryz.idxS g len
  have hn' : len ≤ 1000 := by omega
  rw [hlen]
  clear hlen hS hn
  go_enter Tryz.func98, Tryz.ntmps98
  go_wp2
  go_loop [8] (fun i => ∃ k : Nat, k ≤ len ∧ i = .int .i64 k ∧ (ss.take k).contains s.toList = false) (fun i => len - (intOf i).toNat)
  case atStart => exact ⟨0, Nat.zero_le _, rfl, by simp⟩
  case round =>
    obtain ⟨k, hk, rfl, hu⟩ := hrel
    have HU : Hid ((ss.take k).contains s.toList = false) := hu
    clear hu
    by_cases hlt : k < len
    · have hck := hc k hlt
      have hik := hidx k hlt
      have hgk : Hid (ss[k]? = some (ss.getD k [])) := HG k hlt
      clear HG hc hidx
      have ex : Hid (ss.getD k [] = (mkB (ss.getD k [])).toList) := (mkB_toList _).symm
      generalize mkB (ss.getD k []) = x at *
      rw [ex.out] at hgk
      rcases Bool.eq_false_or_eq_true (s.toList == x.toList) with he | he
      · have hx : Hid (atI ss s.toList = k) := by
          have e2 : s.toList = x.toList := by simpa using he
          exact atI_hit (by rw [e2]; exact hgk.out) HU.out
        go_wp2
        go_ret
        exact ⟨by rw [hx.out]; rfl, rfl⟩
      · have hx : Hid ((ss.take (k + 1)).contains s.toList = false) := by
          have e2 : ¬ s.toList = x.toList := by simpa using he
          show _ = _
          rw [take_snoc_contains hgk.out, HU.out]; simp; exact fun h => e2 h
        go_wp2
        go_round
        case rel => exact ⟨k + 1, by omega, by go_num, hx.out⟩
        case measure => simp [intOf]; omega
    · have hx : Hid (atI ss s.toList = -1) := atI_miss (by have := HU.out; rwa [List.take_of_length_le (by have := HL.out; omega)] at this)
      go_wp2
      go_ret
      exact ⟨by rw [hx.out]; rfl, rfl⟩
theorem Tryz.contains_any (g : Nat) (ss : List Bytes) (s : ByteArray) (w : World) (hS : StAt w g ss) (hn : ss.length ≤ 1000) :
    Calls Tryz.prog 87 #[.slice (some ⟨g, 0, none⟩) ss.length ss.length, .string s] w fun e w' => e = .returned (.bool (ss.contains s.toList)) ∧ w' = w := by
  have hI := Tryz.index_any g ss s w hS hn
  rw [← atI_neg]
  generalize atI ss s.toList = r at *
  go_enter Tryz.func87, Tryz.ntmps87
  go_wp2_with (go_at_call 98; refine hI.mono ?_; rintro e w' ⟨rfl, rfl⟩)
  go_ret
  exact ⟨rfl, rfl⟩
/-- The document's 'in'. -/
theorem Tryz.rin_any (g : Nat) (ss : List Bytes) (s : ByteArray) (w : World) (hS : StAt w g ss) (hn : ss.length ≤ 1000) :
    Calls Tryz.prog 92 #[.slice (some ⟨g, 0, none⟩) ss.length ss.length, .string s] w fun e w' => e = .returned (.bool (ss.contains s.toList)) ∧ w' = w := by
  obtain ⟨len, hlen⟩ : ∃ len, ss.length = len := ⟨_, rfl⟩
  have HL : Hid (ss.length = len) := hlen
  have HG : ∀ k, k < len → ss[k]? = some (ss.getD k []) := fun k hk => getD_get (by omega)
  have hc : ∀ k, k < len → w.cell? ⟨g, k, none⟩ = some (.string (mkB (ss.getD k []))) := fun k hk => hS.cell (by omega)
  have hidx := Tryz.idxS g len
  have hn' : len ≤ 1000 := by omega
  obtain ⟨rb, hrb⟩ : ∃ rb, ss.contains s.toList = rb := ⟨_, rfl⟩
  have HB : Hid (ss.contains s.toList = rb) := hrb
  rw [hlen, hrb]
  clear hlen hS hn hrb
  go_enter Tryz.func92, Tryz.ntmps92
  go_wp2
  go_loop [5] (fun i => ∃ k : Nat, k ≤ len ∧ i = .int .i64 k ∧ (ss.take k).contains s.toList = false) (fun i => len - (intOf i).toNat)
  case atStart => exact ⟨0, Nat.zero_le _, rfl, by simp⟩
  case round =>
    obtain ⟨k, hk, rfl, hu⟩ := hrel
    have HU : Hid ((ss.take k).contains s.toList = false) := hu
    clear hu
    by_cases hlt : k < len
    · have hck := hc k hlt
      have hik := hidx k hlt
      have hgk : Hid (ss[k]? = some (ss.getD k [])) := HG k hlt
      clear HG hc hidx
      have ex : Hid (ss.getD k [] = (mkB (ss.getD k [])).toList) := (mkB_toList _).symm
      generalize mkB (ss.getD k []) = x at *
      rw [ex.out] at hgk
      rcases Bool.eq_false_or_eq_true (x.toList == s.toList) with he | he
      · have hx : Hid (rb = true) := by
          have e2 : x.toList = s.toList := by simpa using he
          show _ = _
          rw [← HB.out, List.contains_iff_mem, ← e2]; exact List.mem_of_getElem? hgk.out
        go_wp2
        go_ret
        exact ⟨by rw [hx.out]; rfl, rfl⟩
      · have hx : Hid ((ss.take (k + 1)).contains s.toList = false) := by
          have e2 : ¬ x.toList = s.toList := by simpa using he
          show _ = _
          rw [take_snoc_contains hgk.out, HU.out]; simp; exact fun h => e2 h.symm
        go_wp2
        go_round
        case rel => exact ⟨k + 1, by omega, by go_num, hx.out⟩
        case measure => simp [intOf]; omega
    · have hx : Hid (rb = false) := by have := HU.out; rw [List.take_of_length_le (by have := HL.out; omega), HB.out] at this; exact this
      go_wp2
      go_ret
      exact ⟨by rw [hx.out]; rfl, rfl⟩
/-- The document's signs and keys: new lists. -/
theorem Tryz.rsigns_any (w : World) :
    Calls Tryz.prog 91 #[] w fun e w' => e = .returned (.slice (some ⟨w.heap.size, 0, none⟩) sgR.length sgR.length) ∧ w' = w.alloc (.cells (sgR.map fun l => Value.string (mkB l)).toArray 9) := by
  go_enter Tryz.func91, Tryz.ntmps91
  go_wp2
  go_ret
  exact ⟨rfl, rfl⟩
theorem Tryz.rkeys_any (w : World) :
    Calls Tryz.prog 93 #[] w fun e w' => e = .returned (.slice (some ⟨w.heap.size, 0, none⟩) keyL.length keyL.length) ∧ w' = w.alloc (.cells (keyL.map fun l => Value.string (mkB l)).toArray 9) := by
  go_enter Tryz.func93, Tryz.ntmps93
  go_wp2
  go_ret
  exact ⟨rfl, rfl⟩
end Go.Proofs.YtfipefbaabkdeaaGreatDoor
