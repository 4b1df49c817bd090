/- Lists of texts that are lent and held against what they were: LentTexts, SameTexts, KeptTexts; large. -/
import Derived.Test.YtmmjihalpmahnaaDoorWAll
namespace Go.Proofs.YtmmjihalpmahnaaDoor
open Go.RowKit Go.Maps

def LargeR (len : Nat) (e : Ending) : Prop := ∃ b : Bool, e = .returned (.bool b) ∧ (b = false → len ≤ 20)

set_option maxHeartbeats 400000 in
theorem Tryd.large_any (a : Option Addr) (len cap : Nat) (ad : Nat → Addr) (ss : List ByteArray) (w : World) (hS : StrSl Tryd.prog 22 w a len cap ad ss) :
    Calls Tryd.prog 7 #[.slice a len cap] w fun e w' => LargeR len e ∧ w' = w := by
  have hb0 := hS.bd
  have hb1 := hS.hcap
  unfold maxLen at hb0
  have hidx := fun (k : Nat) (w : World) (h : k < len) => hS.idx len k w h (Nat.le_refl _)
  have hc := hS.cell
  go_enter Tryd.func7, Tryd.ntmps7
  go_wp2
  go_loop [3, 4] (fun n i => ∃ k : Nat, ∃ x : Int, k ≤ len ∧ i = .int .i64 k ∧ n = .int .i64 x) (fun _ i => len - (intOf i).toNat)
  case atStart => exact ⟨0, 0, Nat.zero_le _, rfl, rfl⟩
  case round =>
    obtain ⟨k, x, hk, rfl, rfl⟩ := hrel
    by_cases hlt : k < len
    · have h1 := hc k hlt
      generalize ss.getD k ByteArray.empty = y at *
      go_wp2
      go_round
      case rel => exact ⟨k+1, _, by omega, by go_num, rfl⟩
      case measure => simp [intOf]; omega
    · by_cases h20 : 20 < len
      · go_wp2
        go_ret
        exact ⟨⟨true, rfl, fun h => absurd h (by decide)⟩, rfl⟩
      · go_wp2
        go_ret
        exact ⟨⟨_, rfl, fun _ => by omega⟩, rfl⟩

/-! ### SameTexts -/
theorem take_snoc_bytes {ns : List Bytes} {k : Nat} {x : Bytes} (h : ns[k]? = some x) : ns.take (k + 1) = ns.take k ++ [x] := by
  rw [List.take_add_one, h]; rfl

set_option maxHeartbeats 800000 in
theorem Tryd.sameT_any (a : Option Addr) (len cap : Nat) (ad : Nat → Addr) (xs : List ByteArray) (a' : Option Addr) (len' cap' : Nat) (ad' : Nat → Addr) (ys : List ByteArray) (w : World)
    (hS : StrSl Tryd.prog 22 w a len cap ad xs) (hO : StrSl Tryd.prog 22 w a' len' cap' ad' ys) :
    Calls Tryd.prog 42 #[.slice a len cap, .slice a' len' cap'] w fun e w' => e = .returned (.bool (decide (nms xs = nms ys))) ∧ ∃ n, w' = w.drewN n := by
  have hb0 := hS.bd
  have hb1 := hS.hcap
  have hb2 := hO.bd
  have hb3 := hO.hcap
  have hlx : Hid ((nms xs).length = len) := by show _ = _; rw [nms_len, hS.hlen]
  have hly : Hid ((nms ys).length = len') := by show _ = _; rw [nms_len, hO.hlen]
  unfold maxLen at hb0 hb2
  by_cases hll : len = len'
  · subst hll
    have hidx := fun (k : Nat) (w : World) (h : k < len) => hS.idx len k w h (Nat.le_refl _)
    have hidx' := fun (k : Nat) (w : World) (h : k < len) => hO.idx len k w h (Nat.le_refl _)
    go_enter Tryd.func42, Tryd.ntmps42
    go_wp2
    go_loopw [5] (fun i wr => ∃ k : Nat, k ≤ len ∧ i = .int .i64 k ∧ Hid ((nms xs).take k = (nms ys).take k) ∧ Hid (∃ n, wr = w.drewN n)) (fun i _ => len - (intOf i).toNat)
    case atStart => exact ⟨0, Nat.zero_le _, rfl, by show _ = _; simp, 0, rfl⟩
    case round =>
      obtain ⟨k, hk, rfl, HU, hwr⟩ := hrel
      by_cases hlt : k < len
      · have hS' : StrSl Tryd.prog 22 wr a len cap ad xs := by obtain ⟨n, hn⟩ := hwr.out; rw [hn]; exact hS.up (below_drewN (Below.refl _ _) n)
        have hO' : StrSl Tryd.prog 22 wr a' len cap' ad' ys := by obtain ⟨n, hn⟩ := hwr.out; rw [hn]; exact hO.up (below_drewN (Below.refl _ _) n)
        have hck := hS'.cell k hlt
        have hck' := hO'.cell k hlt
        have hgx : Hid ((nms xs)[k]? = some (xs.getD k ByteArray.empty).toList) := nms_get (by rw [hS.hlen]; omega)
        have hgy : Hid ((nms ys)[k]? = some (ys.getD k ByteArray.empty).toList) := nms_get (by rw [hO.hlen]; omega)
        clear hS' hO'
        generalize xs.getD k ByteArray.empty = x at *
        generalize ys.getD k ByteArray.empty = y at *
        go_wp2
        go_quiet (fail)
        go_wp2
        · rename_i ht
          have HM : Hid (decide (nms xs = nms ys) = false) := by
            have e : ¬ x.toList = y.toList := by simpa using ht
            refine decide_eq_false (fun h => e ?_)
            have h1 := hgx.out; rw [h, hgy.out] at h1; injection h1 with h1; exact h1.symm
          go_ret
          obtain ⟨n, hn⟩ := hwr.out
          exact ⟨by rw [HM.out]; rfl, n + nq, by rw [hn, World.drewN_drewN]⟩
        · rename_i ht
          have HN2 : Hid ((nms xs).take (k + 1) = (nms ys).take (k + 1)) := by
            have e : x.toList = y.toList := by simpa using ht
            show _ = _
            rw [take_snoc_bytes hgx.out, take_snoc_bytes hgy.out, HU.out, e]
          clear ht
          go_roundw
          case rel =>
            obtain ⟨n, hn⟩ := hwr.out
            exact ⟨k + 1, by omega, by go_num, HN2, n + nq, by rw [hn, World.drewN_drewN]⟩
          case measure => simp [intOf]; omega
      · have hx : Hid (decide (nms xs = nms ys) = true) := by
          have := HU.out
          rw [List.take_of_length_le (by rw [hlx.out]; omega), List.take_of_length_le (by rw [hly.out]; omega)] at this
          exact decide_eq_true this
        go_wp2
        go_ret
        exact ⟨by rw [hx.out]; rfl, hwr.out⟩
  · have hx : Hid (decide (nms xs = nms ys) = false) := decide_eq_false (fun e => hll (by rw [← hlx.out, ← hly.out, e]))
    have hll' : ((len : Int) != (len' : Int)) = true := by simp; omega
    clear hll
    go_enter Tryd.func42, Tryd.ntmps42
    go_wp2
    go_ret
    exact ⟨by rw [hx.out]; rfl, 0, rfl⟩
/-! ### rows of texts -/
def encS (ss : List ByteArray) : Array Value := (ss.map Value.string).toArray
def RowS (w : World) (e : TypeId) (g : Nat) (ss : List ByteArray) : Prop := w.heap[g]? = some (.cells (encS ss) e (0, 0))
theorem encS_get (ss : List ByteArray) (i : Nat) (h : i < ss.length) : (encS ss)[i]? = some (.string (ss.getD i ByteArray.empty)) := by
  simp [encS, List.getD_eq_getElem?_getD, List.getElem?_eq_getElem h]
theorem RowS.cell {w : World} {e : TypeId} {g : Nat} {ss : List ByteArray} (h : RowS w e g ss) {i : Nat} (hi : i < ss.length) : w.cell? ⟨g, i, none⟩ = some (.string (ss.getD i ByteArray.empty)) := by
  unfold RowS at h; simp [World.cell?, h]; exact encS_get ss i hi
theorem RowS.lt {w : World} {e : TypeId} {g : Nat} {ss : List ByteArray} (h : RowS w e g ss) : g < w.heap.size := (Array.getElem?_eq_some_iff.1 h).1
theorem RowS.up {w w' : World} {e : TypeId} {g : Nat} {ss : List ByteArray} (h : RowS w e g ss) (hb : Below w.heap.size w w') : RowS w' e g ss := (hb.block g h.lt).trans h
theorem madeS (n : Nat) : madeCells #[.string ByteArray.empty] n = encS (List.replicate n ByteArray.empty) := by
  apply Array.ext_getElem?
  intro i
  by_cases h : i < n
  · rw [encS_get _ _ (by simpa using h)]; simp [madeCells, h, Nat.mod_one, List.getD_eq_getElem?_getD]
  · simp [madeCells, encS, h]
theorem RowS.strSl {P : Program} {T e : TypeId} {w : World} {g n : Nat} {ss : List ByteArray} (h : RowS w e g ss) (hu : P.underlying T = some (.slice e)) (hs : (P.info? e).map (·.size) = some 1) (hn : n ≤ ss.length) (hm : ss.length ≤ maxLen) (hz : ∀ s ∈ ss, s.size ≤ maxLen) :
    StrSl P T w (some ⟨g, 0, none⟩) n ss.length (adOf (some ⟨g, 0, none⟩)) (ss.take n) := by
  have had : ∀ k, adOf (some ⟨g, 0, none⟩) k = ⟨g, k, none⟩ := fun k => by simp [adOf, add_plain]
  refine ⟨by simp; omega, hn, hm, fun m k w hk hm => idx_of hu hs (by simp) k w hk, fun k hk => ?_, fun k hk => ?_, fun k => ?_, by simp⟩
  · rw [had, h.cell (by omega)]; simp [List.getD_eq_getElem?_getD, hk]
  · rw [had]; exact h.lt
  · by_cases hk : k < (ss.take n).length
    · have e : (ss.take n).getD k ByteArray.empty = (ss.take n)[k] := by simp [List.getD_eq_getElem?_getD, List.getElem?_eq_getElem hk]
      rw [e]; exact hz _ (List.mem_of_mem_take (List.getElem_mem hk))
    · rw [List.getD_eq_getElem?_getD, List.getElem?_eq_none (by omega)]; simp [maxLen, ByteArray.size_empty]

theorem Tryd.sizeStr : (Tryd.prog.info? 9).map (·.size) = some 1 := by kernel_rfl
theorem Tryd.infoStr : (Tryd.prog.info? 9).map (fun i => (i.zero, i.size, i.bytes)) = some (some (.string ByteArray.empty), 1, 16) := by kernel_rfl
theorem Tryd.makeStr (l c : Nat) (L C : Int) (hl : L = l) (hc : C = c) (hlc : l ≤ c) (hb : c ≤ 1000000) (w : World) :
    (Instr.makeSlice 22 (.int .i64 L) (.int .i64 C)).run Tryd.prog w = .ok (.slice (some ⟨w.heap.size, 0, none⟩) l c) (w.alloc (.cells (encS (List.replicate c ByteArray.empty)) 9)) := by
  obtain ⟨i, hi, hz0, hz1, hz2⟩ := info_parts Tryd.infoStr
  have := run_make (P := Tryd.prog) w 22 9 i (.string ByteArray.empty) Tryd.underlying22 hi hz0 .i64 .i64 L C (by omega) (by omega) (by rw [hz2]; omega) (by omega)
  rw [this, hl, hc, hz1]
  simp only [Int.toNat_natCast, Nat.mul_one]
  have e : (Value.string ByteArray.empty).cells = #[.string ByteArray.empty] := rfl
  rw [e, madeS]

/-- A list of texts with three places of room behind it. -/
def lent (ss : List ByteArray) : List ByteArray := ss ++ List.replicate 3 ByteArray.empty
theorem lent_len (ss : List ByteArray) : (lent ss).length = ss.length + 3 := by simp [lent]
theorem lent_take (ss : List ByteArray) : (lent ss).take ss.length = ss := by simp [lent]

theorem below_setRow {B g : Nat} {a w : World} (h : Below B a w) (hg : B ≤ g) (cs : Array Value) : Below B a (w.setRow g cs) :=
  h.trans ⟨rfl, rfl, rfl, by simp, fun k hk => setRow_other _ _ _ _ (by omega)⟩
/-- copy(out, l), out the new list with room. -/
theorem Tryd.copyStr (a : Option Addr) (len cap : Nat) (ss : List ByteArray) (w : World) (hS : StrSl Tryd.prog 22 w a len cap (adOf a) ss) :
    ∃ w2, (∀ ty, (Builtin.copy_ #[22, 22] ty #[.slice (some ⟨w.heap.size, 0, none⟩) len (len + 3), .slice a len cap]).run Tryd.prog (w.alloc (.cells (encS (List.replicate (len + 3) ByteArray.empty)) 9)) = .ok (goInt len) w2) ∧
      RowS w2 9 w.heap.size (lent ss) ∧ Below w.heap.size w w2 := by
  by_cases h0 : len = 0
  · subst h0
    have hnil : ss = [] := List.eq_nil_of_length_eq_zero hS.hlen
    subst hnil
    exact ⟨_, fun ty => run_copy_none _ _ _ ty 9 _ _ _ _ _ _ Tryd.underlying22 Tryd.sizeStr (by simp), (MapKept.heap_alloc w _).1, (Below.refl _ _).alloc (Nat.le_refl _) _⟩
  · cases a with
    | none => have h1 := hS.nn rfl; have h2 := hS.hcap; exact absurd h1 (by omega)
    | some x =>
      have hlm : (ss.map Value.string).length = len := by rw [List.length_map, hS.hlen]
      have hrun := fun ty => run_copy_row (P := Tryd.prog) (w.alloc (.cells (encS (List.replicate (len + 3) ByteArray.empty)) 9)) 22 22 ty 9 w.heap.size 0 len (len + 3) x len cap _ 9 (ss.map Value.string) Tryd.underlying22 Tryd.sizeStr (MapKept.heap_alloc w _).1
        (by rw [hlm]; simp) (fun j v hj => by
          have hjl : j < len := by rw [← hlm]; exact (List.getElem?_eq_some_iff.1 hj).1
          have hc := hS.cell j hjl
          have e : v = .string (ss.getD j ByteArray.empty) := by
            rw [List.getElem?_map, List.getElem?_eq_getElem (by rw [hS.hlen]; exact hjl)] at hj
            simp [List.getD_eq_getElem?_getD, List.getElem?_eq_getElem (show j < ss.length by rw [hS.hlen]; exact hjl)]
            simpa using hj.symm
          have hc2 : w.cell? (x.add j) = some v := by rw [e]; exact hc
          exact cell_later ((Below.refl _ _).alloc (Nat.le_refl _) _) hc2) (by rw [hlm]; simp [encS]) (by
          intro v hv; obtain ⟨s, _, rfl⟩ := List.mem_map.1 hv; rfl)
      rw [hlm] at hrun
      refine ⟨_, hrun, ?_, ?_⟩
      · unfold RowS
        rw [setRow_heap _ _ _ _ _ _ (MapKept.heap_alloc w _).1]
        congr 2
        apply Array.ext'
        simp [encS, lent]
      · exact below_setRow ((Below.refl _ _).alloc (Nat.le_refl _) _) (Nat.le_refl _) _

theorem Tryd.lentT_any (a : Option Addr) (len cap : Nat) (ss : List ByteArray) (w : World) (hS : StrSl Tryd.prog 22 w a len cap (adOf a) ss) (h20 : len ≤ 20) :
    Calls Tryd.prog 8 #[.slice a len cap] w fun e w' => e = .returned (.slice (some ⟨w.heap.size, 0, none⟩) len (len + 3)) ∧ RowS w' 9 w.heap.size (lent ss) ∧ Below w.heap.size w w' := by
  obtain ⟨w2, hcp, hrow, hb⟩ := Tryd.copyStr a len cap ss w hS
  have hmk := fun w => Tryd.makeStr len (len + 3) (len : Int) ((len : Int) + 3) rfl (by omega) (by omega) (by omega) w
  go_enter Tryd.func8, Tryd.ntmps8
  go_wp2
  go_ret
  exact ⟨rfl, hrow, hb⟩
theorem lent_room (ss : List ByteArray) {k : Nat} (h1 : ss.length ≤ k) (h2 : k < ss.length + 3) : (lent ss).getD k ByteArray.empty = ByteArray.empty := by
  unfold lent; rw [List.getD_eq_getElem?_getD, List.getElem?_append_right h1, List.getElem?_replicate, if_pos (by omega)]; rfl

set_option maxHeartbeats 800000 in
theorem Tryd.keptT_any (g len : Nat) (a : Option Addr) (cap : Nat) (ad : Nat → Addr) (ss : List ByteArray) (w : World) (hR : RowS w 9 g (lent ss)) (hS : StrSl Tryd.prog 22 w a len cap ad ss) (h20 : len ≤ 20) :
    Calls Tryd.prog 21 #[.slice (some ⟨g, 0, none⟩) len (len + 3), .slice a len cap] w fun e w' => e = .returned (.bool true) ∧ Hid (∃ n, w' = w.drewN n) := by
  have hl := hS.hlen
  have hcell : ∀ k, len ≤ k → k < len + 3 → w.cell? ⟨g, k, none⟩ = some (.string ByteArray.empty) := fun k h1 h2 => by
    rw [hR.cell (by rw [lent_len]; omega), lent_room ss (by omega) (by omega)]
  have hlent : StrSl Tryd.prog 22 w (some ⟨g, 0, none⟩) len (len + 3) (adOf (some ⟨g, 0, none⟩)) ss := by
    have := hR.strSl (P := Tryd.prog) (T := 22) (n := len) Tryd.underlying22 Tryd.sizeStr (by rw [lent_len]; omega) (by rw [lent_len]; unfold maxLen; omega) (fun s hs => by
      unfold lent at hs
      rcases List.mem_append.1 hs with h | h
      · obtain ⟨i, hi⟩ := List.getElem?_of_mem h
        have := hS.sz i
        rwa [List.getD_eq_getElem?_getD, hi] at this
      · have := List.eq_of_mem_replicate h; subst this; simp [maxLen, ByteArray.size_empty])
    rw [lent_len, ← hl, lent_take] at this
    rw [← hl]; exact this
  have hst : Calls Tryd.prog 42 #[.slice (some ⟨g, 0, none⟩) len (len + 3), .slice a len cap] w fun e w' => e = .returned (.bool true) ∧ Hid (∃ n, w' = w.drewN n) :=
    (Tryd.sameT_any _ _ _ _ _ _ _ _ _ _ w hlent hS).mono fun e w' ⟨he, hn⟩ => ⟨by rw [he]; simp, hn⟩
  clear hlent hl
  go_enter Tryd.func21, Tryd.ntmps21
  go_wp2
  go_loop [6] (fun i => ∃ k : Nat, len ≤ k ∧ k ≤ len + 3 ∧ i = .int .i64 k) (fun i => len + 3 - (intOf i).toNat)
  case atStart => exact ⟨len, by omega, by omega, rfl⟩
  case round =>
    obtain ⟨k, hk1, hk, rfl⟩ := hrel
    by_cases hlt : k < len + 3
    · have hck := hcell k hk1 hlt
      go_wp2
      go_round
      case rel => exact ⟨k + 1, by omega, by omega, by go_num⟩
      case measure => simp [intOf]; omega
    · go_wp2_with (go_at_call 42; refine hst.mono ?_; rintro e w' ⟨rfl, hw⟩)
      go_ret
      exact ⟨rfl, hw⟩
end Go.Proofs.YtmmjihalpmahnaaDoor
