/- Rows of letters in blocks of their own; what All and the document's All tell: the letters from 0 on, in new memory. -/
import Derived.Test.YtnaalbcbmhpfjaaWMem
namespace Go.Proofs.Ytnaalbcbmhpfjaa
open Go.RowKit Go.Maps

def enc8 (cur : List Int) : Array Value := (cur.map (Value.int .u8)).toArray
/-- Block g is a row of just these letters. -/
def RowAt (w : World) (e : TypeId) (g : Nat) (cur : List Int) : Prop := w.heap[g]? = some (.cells (enc8 cur) e (0, 0))
theorem enc8_get (cur : List Int) (i : Nat) (h : i < cur.length) : (enc8 cur)[i]? = some (.int .u8 (cur.getD i 0)) := by
  simp [enc8, List.getD_eq_getElem?_getD, List.getElem?_eq_getElem h]
theorem RowAt.cell {w : World} {e : TypeId} {g : Nat} {cur : List Int} (h : RowAt w e g cur) {i : Nat} (hi : i < cur.length) : w.cell? ⟨g, i, none⟩ = some (.int .u8 (cur.getD i 0)) := by
  unfold RowAt at h; simp [World.cell?, h]; exact enc8_get cur i hi
theorem RowAt.frozen {w : World} {e : TypeId} {g : Nat} {cur : List Int} (h : RowAt w e g cur) (i : Nat) : w.frozen? ⟨g, i, none⟩ = false := frozen_of_row w g i _ e h
theorem RowAt.lt {w : World} {e : TypeId} {g : Nat} {cur : List Int} (h : RowAt w e g cur) : g < w.heap.size := (Array.getElem?_eq_some_iff.1 h).1
theorem enc8_set (cur : List Int) (i : Nat) (x : Int) : (enc8 cur).setIfInBounds i (.int .u8 x) = enc8 (cur.set i x) := by
  simp [enc8, List.map_set]
theorem RowAt.set {w : World} {e : TypeId} {g : Nat} {cur : List Int} (h : RowAt w e g cur) (i : Nat) (x : Int) : RowAt (w.setCell ⟨g, i, none⟩ (.int .u8 x)) e g (cur.set i x) := by
  have := heap_setCell_same w g i _ e (.int .u8 x) h
  rw [enc8_set] at this; exact this
theorem RowAt.new (w : World) (e : TypeId) (cur : List Int) : RowAt (w.alloc (.cells (enc8 cur) e)) e w.heap.size cur := by
  exact (MapKept.heap_alloc w _).1
theorem RowAt.up {w w' : World} {e : TypeId} {g : Nat} {cur : List Int} (h : RowAt w e g cur) (hb : Below w.heap.size w w') : RowAt w' e g cur := (hb.block g h.lt).trans h
theorem made8 (n : Nat) : madeCells #[.int .u8 0] n = enc8 (List.replicate n 0) := by
  apply Array.ext_getElem?
  intro i
  by_cases h : i < n
  · rw [enc8_get _ _ (by simpa using h)]; simp [madeCells, h, Nat.mod_one]
  · simp [madeCells, enc8, h]

theorem RowAt.intSl {P : Program} {T e : TypeId} {w : World} {g n : Nat} {cur : List Int} (h : RowAt w e g cur) (hu : P.underlying T = some (.slice e)) (hs : (P.info? e).map (·.size) = some 1) (hn : n ≤ cur.length) (hm : cur.length ≤ maxLen) :
    IntSl P T .u8 w (some ⟨g, 0, none⟩) n cur.length (cur.take n) := by
  have had : ∀ k, adOf (some ⟨g, 0, none⟩) k = ⟨g, k, none⟩ := fun k => by simp [adOf, add_plain]
  refine ⟨by simp; omega, hn, hm, fun m k w hk hm => idx_of hu hs (by simp) k w hk, fun k hk => ?_, fun k hk => ?_, by simp⟩
  · rw [had, h.cell (by omega)]; simp [List.getD_eq_getElem?_getD, hk]
  · rw [had]; exact h.lt
theorem intSl_nil {P : Program} {T : TypeId} {w : World} : IntSl P T .u8 w none 0 0 [] :=
  ⟨rfl, Nat.le_refl _, Nat.zero_le _, fun m k w hk hm => absurd hk (by omega), fun k hk => absurd hk (by omega), fun k hk => absurd hk (by omega), fun _ => rfl⟩

theorem Try.sizeLet : (Try.prog.info? 22).map (·.size) = some 1 := by kernel_rfl
theorem Try.infoLet : (Try.prog.info? 22).map (fun i => (i.zero, i.size, i.bytes)) = some (some (.int .u8 0), 1, 1) := by kernel_rfl

/-- make([]Letter, l, c). -/
theorem Try.makeLet (l c : Nat) (L C : Int) (hl : L = l) (hc : C = c) (hlc : l ≤ c) (hb : c ≤ 1000000) (w : World) :
    (Instr.makeSlice 36 (.int .i64 L) (.int .i64 C)).run Try.prog w = .ok (.slice (some ⟨w.heap.size, 0, none⟩) l c) (w.alloc (.cells (enc8 (List.replicate c 0)) 22)) := by
  obtain ⟨i, hi, hz0, hz1, hz2⟩ := info_parts Try.infoLet
  have := run_make (P := Try.prog) w 36 22 i (.int .u8 0) Try.underlying36 hi hz0 .i64 .i64 L C (by omega) (by omega) (by rw [hz2]; omega) (by omega)
  rw [this, hl, hc, hz1]
  simp only [Int.toNat_natCast, Nat.mul_one]
  have e : (Value.int .u8 0).cells = #[.int .u8 0] := rfl
  rw [e, made8]

/-- The letters from 0 on, as far as they are laid. -/
def allTo (M k : Nat) : List Int := (List.range k).map (fun (i : Nat) => (i : Int)) ++ List.replicate (M - k) 0
def allN (M : Nat) : List Int := (List.range M).map (fun (i : Nat) => (i : Int))
theorem allTo_zero (M : Nat) : allTo M 0 = List.replicate M 0 := by simp [allTo]
theorem allTo_end (M : Nat) : allTo M M = allN M := by simp [allTo, allN]
theorem allTo_len {M k : Nat} (h : k ≤ M) : (allTo M k).length = M := by simp [allTo]; omega
theorem allTo_set {M k : Nat} (h : k < M) : (allTo M k).set k (k : Int) = allTo M (k + 1) := by
  unfold allTo
  rw [List.range_succ, List.map_append]
  obtain ⟨d, hd⟩ : ∃ d, M - k = d + 1 := ⟨M - k - 1, by omega⟩
  have hd2 : M - (k + 1) = d := by omega
  rw [hd, hd2, List.replicate_succ, List.set_append_right _ _ (by simp)]
  simp
theorem allN_len (M : Nat) : (allN M).length = M := by simp [allN]

def powN (n : Int) : Nat := 2 ^ n.toNat
theorem powN_bd {n : Int} (h0 : 0 ≤ n) (h8 : n ≤ 8) : 1 ≤ powN n ∧ powN n ≤ 256 := by
  unfold powN
  have h1 : n.toNat ≤ 8 := by omega
  exact ⟨Nat.one_le_two_pow, Nat.le_trans (Nat.pow_le_pow_right (by decide) h1) (by decide)⟩
theorem powN_wrap {n : Int} (h0 : 0 ≤ n) (h8 : n ≤ 8) : wrap64 (2 ^ n.toNat) = (powN n : Int) := by
  have h := powN_bd h0 h8
  have e : (2 ^ n.toNat : Int) = (powN n : Int) := by unfold powN; simp
  rw [e]; unfold wrap64; omega

set_option maxHeartbeats 800000 in
theorem Try.all_any (n : Int) (w : World) (h0 : 0 ≤ n) (h8 : n ≤ 8) :
    Calls Try.prog 46 #[.int .i64 n] w fun e w' => e = .returned (.slice (some ⟨w.heap.size, 0, none⟩) (powN n) (powN n)) ∧ RowAt w' 22 w.heap.size (allN (powN n)) ∧ Below w.heap.size w w' := by
  have hbd := powN_bd h0 h8
  have hmk := fun w => Try.makeLet (powN n) (powN n) (wrap64 (2 ^ n.toNat)) (wrap64 (2 ^ n.toNat)) (powN_wrap h0 h8) (powN_wrap h0 h8) (Nat.le_refl _) (by omega) w
  generalize powN n = M at *
  go_enter Try.func46, Try.ntmps46
  go_wp2
  clear hmk
  go_loopw [13] (fun i wr => ∃ k : Nat, k ≤ M ∧ i = .int .i64 k ∧ RowAt wr 22 w.heap.size (allTo M k) ∧ Below w.heap.size w wr) (fun i _ => M - (intOf i).toNat)
  case atStart => exact ⟨0, Nat.zero_le _, rfl, by rw [allTo_zero]; exact RowAt.new _ _ _, (Below.refl _ _).alloc (Nat.le_refl _) _⟩
  case round =>
    obtain ⟨k, hk, rfl, hrow, hnx⟩ := hrel
    by_cases hlt : k < M
    · have hc1 := hrow.cell (i := k) (by rw [allTo_len hk]; exact hlt)
      have hf1 := hrow.frozen k
      go_wp2
      go_roundw
      case rel => exact ⟨k + 1, by omega, by go_num, by have := hrow.set k (k : Int); rw [allTo_set hlt] at this; exact this, hnx.setCell (Nat.le_refl _) _⟩
      case measure => simp [intOf]; omega
    · obtain rfl : k = M := by omega
      go_wp2
      go_ret
      exact ⟨rfl, by rw [allTo_end] at hrow; exact hrow, hnx⟩
theorem Try.all_none (n : Int) (w : World) (h : n < 0 ∨ 8 < n) :
    Calls Try.prog 46 #[.int .i64 n] w fun e w' => e = .returned (.slice none 0 0) ∧ w' = w := by
  rcases h with h | h
  · go_enter Try.func46, Try.ntmps46
    go_wp2
    go_ret
    exact ⟨rfl, rfl⟩
  · have h' : 0 ≤ n := by omega
    have h2 : decide (n ≤ 8) = false := decide_eq_false (by omega)
    go_enter Try.func46, Try.ntmps46
    go_wp2
    go_ret
    exact ⟨rfl, rfl⟩
theorem ownsRow_intSl {P : Program} {T e : TypeId} {w : World} {base n : Nat} {v : Value} {zs : List Int} (h : w.ownsRow base e 1 v n (zs.map (Value.int .u8))) (hu : P.underlying T = some (.slice e)) (hs : (P.info? e).map (·.size) = some 1) :
    ∃ a cap, v = .slice a n cap ∧ IntSl P T .u8 w a n cap zs ∧ ∀ k, k < n → base ≤ (adOf a k).block := by
  obtain ⟨hl, h⟩ := h
  simp at hl
  rcases h with ⟨rfl, rfl⟩ | ⟨g, cap, cur, rfl, hg, hcell, hnc, hcm, hsz, htk⟩
  · have : zs = [] := List.eq_nil_of_length_eq_zero hl
    subst this
    exact ⟨none, 0, rfl, intSl_nil, fun k hk => absurd hk (by omega)⟩
  · have had : ∀ k, adOf (some ⟨g, 0, none⟩) k = ⟨g, k, none⟩ := fun k => by simp [adOf, add_plain]
    have hlt : g < w.heap.size := (Array.getElem?_eq_some_iff.1 hcell).1
    refine ⟨some ⟨g, 0, none⟩, cap, rfl, ⟨hl, hnc, hcm, fun m k w hk hm => idx_of hu hs (by simp) k w hk, fun k hk => ?_, fun k hk => by rw [had]; exact hlt, by simp⟩, fun k hk => by rw [had]; exact hg⟩
    rw [had]
    have hk2 : (cur.toList.take (n * 1))[k]? = some (.int .u8 (zs.getD k 0)) := by
      rw [htk]; simp [List.getD_eq_getElem?_getD, List.getElem?_eq_getElem (show k < zs.length by omega)]
    rw [List.getElem?_take, if_pos (by omega)] at hk2
    simp [World.cell?, hcell]
    simpa using hk2

theorem own_ge {w : World} {base e size n : Nat} {v : Value} {xs : List Value} (h : w.ownsRow base e size v n xs) : ∀ k, v.ownBlock = some k → base ≤ k := by
  obtain ⟨_, h⟩ := h
  rcases h with ⟨rfl, _⟩ | ⟨g, cap, cur, rfl, hg, _⟩
  · intro k hk; simp [Value.ownBlock] at hk
  · intro k hk; simp [Value.ownBlock] at hk; omega
theorem allN_succ (k : Nat) : allN (k + 1) = allN k ++ [(k : Int)] := by simp [allN, List.range_succ]

end Go.Proofs.Ytnaalbcbmhpfjaa
