/- What speaks of no seat: worlds, rows, slices, variables. -/
import Derived.Test.YtmnkkknkmbldhaaKBase
import Derived.Laws.OwnMore
import Derived.Laws.BitsAllLaws
import Derived.Deep.RegionHeld3
import Derived.Deep.RegionWith
import Derived.Deep.AppendLies
namespace Go.Proofs.Ytmnkkknkmbldhaa
open Go.RowKit Go.Maps

/-- Where place i of a slice lies. -/
def adOf (a : Option Addr) (i : Nat) : Addr := match a with
  | some x => x.add i
  | none => ⟨0, 0, none⟩
theorem add_plain (g o i : Nat) : (⟨g, o, none⟩ : Addr).add i = ⟨g, o + i, none⟩ := by unfold Addr.add; split <;> simp_all
theorem sizeOf_run {P : Program} {e : TypeId} (h : (P.info? e).map (·.size) = some 1) (w : World) : (sizeOf e).run P w = .ok 1 w := by
  cases hq : P.info? e with
  | none => simp [hq] at h
  | some i => simp [hq] at h; simp [sizeOf, typeInfo, hq, h]
theorem idx_of {P : Program} {T e : TypeId} (hu : P.underlying T = some (.slice e)) (hs : (P.info? e).map (·.size) = some 1) {a : Option Addr} {cap n : Nat} (hn : a = none → n = 0) (k : Nat) (w : World) (hk : k < n) :
    (Instr.indexAt T (.slice a n cap) (.int .i64 k)).run P w = .ok (.pointer (some (adOf a k))) w := by
  cases a with
  | none => have := hn rfl; omega
  | some x => simp [Instr.indexAt, run_underlying hu, asIntOf, sizeOf_run hs, hk, adOf, Result.andThen, go_sem]
/-- A slice of integers of one kind as the walk reads it. -/
structure IntSl (P : Program) (T : TypeId) (q : IntKind) (w : World) (a : Option Addr) (len cap : Nat) (zs : List Int) : Prop where
  hlen : zs.length = len
  hcap : len ≤ cap
  bd : cap ≤ maxLen
  idx : ∀ (n k : Nat) (w : World), k < n → n ≤ len → (Instr.indexAt T (.slice a n cap) (.int .i64 k)).run P w = .ok (.pointer (some (adOf a k))) w
  cell : ∀ k, k < len → w.cell? (adOf a k) = some (.int q (zs.getD k 0))
  blk : ∀ k, k < len → (adOf a k).block < w.heap.size
  nn : a = none → cap = 0
theorem IntSl.later {P : Program} {T : TypeId} {q : IntKind} {w w' : World} {a : Option Addr} {len cap : Nat} {zs : List Int} (h : IntSl P T q w a len cap zs) {B : Nat} (hb : Below B w w') (hB : ∀ k, k < len → (adOf a k).block < B) : IntSl P T q w' a len cap zs :=
  ⟨h.hlen, h.hcap, h.bd, h.idx, fun k hk => (hb.cell (hB k hk)).trans (h.cell k hk), fun k hk => Nat.lt_of_lt_of_le (h.blk k hk) hb.size, h.nn⟩
theorem IntSl.up {P : Program} {T : TypeId} {q : IntKind} {w w' : World} {a : Option Addr} {len cap : Nat} {zs : List Int} (h : IntSl P T q w a len cap zs) (hb : Below w.heap.size w w') : IntSl P T q w' a len cap zs := h.later hb h.blk
theorem IntSl.drewN {P : Program} {T : TypeId} {q : IntKind} {w : World} {a : Option Addr} {len cap : Nat} {zs : List Int} (h : IntSl P T q w a len cap zs) (n : Nat) : IntSl P T q (w.drewN n) a len cap zs := h.up (below_drewN (Below.refl _ _) n)
theorem take_snoc_int {zs : List Int} {k : Nat} (h : k < zs.length) : zs.take (k + 1) = zs.take k ++ [zs.getD k 0] := by
  rw [List.take_add_one, List.getElem?_eq_getElem h]; simp [List.getD_eq_getElem?_getD, List.getElem?_eq_getElem h]
theorem take_eq_next {xs ys : List Int} {k : Nat} (hx : k < xs.length) (hy : k < ys.length) (h : xs.take k = ys.take k) (he : xs.getD k 0 = ys.getD k 0) : xs.take (k + 1) = ys.take (k + 1) := by
  rw [take_snoc_int hx, take_snoc_int hy, h, he]
def enc8 (cur : List Int) : Array Value := (cur.map (Value.int .u8)).toArray
/-- Block g is a row of just these letters. -/
def RowAt (w : World) (e : TypeId) (g : Nat) (cur : List Int) : Prop := w.heap[g]? = some (.cells (enc8 cur) e (0, 0))
theorem enc8_get (cur : List Int) (i : Nat) (h : i < cur.length) : (enc8 cur)[i]? = some (.int .u8 (cur.getD i 0)) := by
  simp [enc8, List.getD_eq_getElem?_getD, List.getElem?_eq_getElem h]
theorem RowAt.cell {w : World} {e : TypeId} {g : Nat} {cur : List Int} (h : RowAt w e g cur) {i : Nat} (hi : i < cur.length) : w.cell? ⟨g, i, none⟩ = some (.int .u8 (cur.getD i 0)) := by
  unfold RowAt at h; simp [World.cell?, h]; exact enc8_get cur i hi
theorem RowAt.frozen {w : World} {e : TypeId} {g : Nat} {cur : List Int} (h : RowAt w e g cur) (i : Nat) : w.frozen? ⟨g, i, none⟩ = false := frozen_of_row w g i _ e h
theorem RowAt.lt {w : World} {e : TypeId} {g : Nat} {cur : List Int} (h : RowAt w e g cur) : g < w.heap.size := (Array.getElem?_eq_some_iff.1 h).1
theorem enc8_set (cur : List Int) (i : Nat) (x : Int) : (enc8 cur).setIfInBounds i (.int .u8 x) = enc8 (cur.set i x) := by
  simp [enc8, List.map_set]
theorem RowAt.set {w : World} {e : TypeId} {g : Nat} {cur : List Int} (h : RowAt w e g cur) (i : Nat) (x : Int) : RowAt (w.setCell ⟨g, i, none⟩ (.int .u8 x)) e g (cur.set i x) := by
  have := heap_setCell_same w g i _ e (.int .u8 x) h
  rw [enc8_set] at this; exact this
theorem RowAt.new (w : World) (e : TypeId) (cur : List Int) : RowAt (w.alloc (.cells (enc8 cur) e)) e w.heap.size cur := by
  exact (MapKept.heap_alloc w _).1
theorem RowAt.up {w w' : World} {e : TypeId} {g : Nat} {cur : List Int} (h : RowAt w e g cur) (hb : Below w.heap.size w w') : RowAt w' e g cur := (hb.block g h.lt).trans h
theorem made8 (n : Nat) : madeCells #[.int .u8 0] n = enc8 (List.replicate n 0) := by
  apply Array.ext_getElem?
  intro i
  by_cases h : i < n
  · rw [enc8_get _ _ (by simpa using h)]; simp [madeCells, h, Nat.mod_one]
  · simp [madeCells, enc8, h]
theorem RowAt.intSl {P : Program} {T e : TypeId} {w : World} {g n : Nat} {cur : List Int} (h : RowAt w e g cur) (hu : P.underlying T = some (.slice e)) (hs : (P.info? e).map (·.size) = some 1) (hn : n ≤ cur.length) (hm : cur.length ≤ maxLen) :
    IntSl P T .u8 w (some ⟨g, 0, none⟩) n cur.length (cur.take n) := by
  have had : ∀ k, adOf (some ⟨g, 0, none⟩) k = ⟨g, k, none⟩ := fun k => by simp [adOf, add_plain]
  refine ⟨by simp; omega, hn, hm, fun m k w hk hm => idx_of hu hs (by simp) k w hk, fun k hk => ?_, fun k hk => ?_, by simp⟩
  · rw [had, h.cell (by omega)]; simp [List.getD_eq_getElem?_getD, hk]
  · rw [had]; exact h.lt
theorem intSl_nil {P : Program} {T : TypeId} {w : World} : IntSl P T .u8 w none 0 0 [] :=
  ⟨rfl, Nat.le_refl _, Nat.zero_le _, fun m k w hk hm => absurd hk (by omega), fun k hk => absurd hk (by omega), fun k hk => absurd hk (by omega), fun _ => rfl⟩
theorem ownsRow_intSl {P : Program} {T e : TypeId} {w : World} {base n : Nat} {v : Value} {zs : List Int} (h : w.ownsRow base e 1 v n (zs.map (Value.int .u8))) (hu : P.underlying T = some (.slice e)) (hs : (P.info? e).map (·.size) = some 1) :
    ∃ a cap, v = .slice a n cap ∧ IntSl P T .u8 w a n cap zs ∧ ∀ k, k < n → base ≤ (adOf a k).block := by
  obtain ⟨hl, h⟩ := h
  simp at hl
  rcases h with ⟨rfl, rfl⟩ | ⟨g, cap, cur, rfl, hg, hcell, hnc, hcm, hsz, htk⟩
  · have : zs = [] := List.eq_nil_of_length_eq_zero hl
    subst this
    exact ⟨none, 0, rfl, intSl_nil, fun k hk => absurd hk (by omega)⟩
  · have had : ∀ k, adOf (some ⟨g, 0, none⟩) k = ⟨g, k, none⟩ := fun k => by simp [adOf, add_plain]
    have hlt : g < w.heap.size := (Array.getElem?_eq_some_iff.1 hcell).1
    refine ⟨some ⟨g, 0, none⟩, cap, rfl, ⟨hl, hnc, hcm, fun m k w hk hm => idx_of hu hs (by simp) k w hk, fun k hk => ?_, fun k hk => by rw [had]; exact hlt, by simp⟩, fun k hk => by rw [had]; exact hg⟩
    rw [had]
    have hk2 : (cur.toList.take (n * 1))[k]? = some (.int .u8 (zs.getD k 0)) := by
      rw [htk]; simp [List.getD_eq_getElem?_getD, List.getElem?_eq_getElem (show k < zs.length by omega)]
    rw [List.getElem?_take, if_pos (by omega)] at hk2
    simp [World.cell?, hcell]
    simpa using hk2
theorem own_ge {w : World} {base e size n : Nat} {v : Value} {xs : List Value} (h : w.ownsRow base e size v n xs) : ∀ k, v.ownBlock = some k → base ≤ k := by
  obtain ⟨_, h⟩ := h
  rcases h with ⟨rfl, _⟩ | ⟨g, cap, cur, rfl, hg, _⟩
  · intro k hk; simp [Value.ownBlock] at hk
  · intro k hk; simp [Value.ownBlock] at hk; omega
theorem below_new (w : World) (o : Obj) : Below w.heap.size w (w.alloc o) := (Below.refl _ _).alloc (Nat.le_refl _) _
theorem below_step {w w1 w2 : World} (h : Below w.heap.size w w1) (k : Below w1.heap.size w1 w2) : Below w.heap.size w w2 := h.trans (k.mono h.size)
theorem cast_beq (x y : Nat) : ((x : Int) == (y : Int)) = decide (x = y) := by
  by_cases h : x = y
  · simp [h]
  · rw [decide_eq_false h, beq_eq_false_iff_ne]; omega
/-- Block g is a variable that holds a cube. -/
def Blk (w : World) (g : Nat) (t : TypeId) (a b : Nat) : Prop := w.heap[g]? = some (.cells #[.int .u8 (a : Int), .int .u8 (b : Int)] t (0, 0))
theorem Blk.new (w : World) (t : TypeId) (a b : Nat) : Blk (w.alloc (.cells #[.int .u8 (a : Int), .int .u8 (b : Int)] t)) w.heap.size t a b := (MapKept.heap_alloc w _).1
theorem Blk.at {w : World} {g : Nat} {t : TypeId} {a b : Nat} (h : g = w.heap.size) : Blk (w.alloc (.cells #[.int .u8 (a : Int), .int .u8 (b : Int)] t)) g t a b := h ▸ Blk.new w t a b
theorem Blk.lt {w : World} {g : Nat} {t : TypeId} {a b : Nat} (h : Blk w g t a b) : g < w.heap.size := (Array.getElem?_eq_some_iff.1 h).1
theorem Blk.up {w w' : World} {g : Nat} {t : TypeId} {a b : Nat} (h : Blk w g t a b) (hb : Below w.heap.size w w') : Blk w' g t a b := (hb.block g h.lt).trans h
theorem Blk.al {w : World} {g : Nat} {t : TypeId} {a b : Nat} (h : Blk w g t a b) (o : Obj) : Blk (w.alloc o) g t a b := h.up (below_new w o)
theorem Blk.c0 {w : World} {g : Nat} {t : TypeId} {a b : Nat} (h : Blk w g t a b) : w.cell? ⟨g, 0, none⟩ = some (.int .u8 (a : Int)) := by unfold Blk at h; simp [World.cell?, h]
theorem Blk.c1 {w : World} {g : Nat} {t : TypeId} {a b : Nat} (h : Blk w g t a b) : w.cell? ⟨g, 1, none⟩ = some (.int .u8 (b : Int)) := by unfold Blk at h; simp [World.cell?, h]
theorem Blk.fz {w : World} {g : Nat} {t : TypeId} {a b : Nat} (h : Blk w g t a b) (i : Nat) : w.frozen? ⟨g, i, none⟩ = false := frozen_of_row w g i _ t h
theorem Blk.set0 {w : World} {g : Nat} {t : TypeId} {a b : Nat} (h : Blk w g t a b) (x : Nat) : Blk (w.setCell ⟨g, 0, none⟩ (.int .u8 (x : Int))) g t x b := heap_setCell_same w g 0 _ t (.int .u8 (x : Int)) h
theorem Blk.set1 {w : World} {g : Nat} {t : TypeId} {a b : Nat} (h : Blk w g t a b) (x : Nat) : Blk (w.setCell ⟨g, 1, none⟩ (.int .u8 (x : Int))) g t a x := heap_setCell_same w g 1 _ t (.int .u8 (x : Int)) h
theorem sizeOf_run2 {P : Program} {e : TypeId} (h : (P.info? e).map (·.size) = some 2) (w : World) : (sizeOf e).run P w = .ok 2 w := by
  cases hq : P.info? e with
  | none => simp [hq] at h
  | some i => simp [hq] at h; simp [sizeOf, typeInfo, hq, h]
theorem idx_of2 {P : Program} {T e : TypeId} (hu : P.underlying T = some (.slice e)) (hs : (P.info? e).map (·.size) = some 2) {g cap n : Nat} (k : Nat) (w : World) (hk : k < n) :
    (Instr.indexAt T (.slice (some ⟨g, 0, none⟩) n cap) (.int .i64 k)).run P w = .ok (.pointer (some ⟨g, 2 * k, none⟩)) w := by
  simp [Instr.indexAt, run_underlying hu, asIntOf, sizeOf_run2 hs, hk, Result.andThen, go_sem, add_plain, Nat.mul_comm]
theorem two_oneCell (a b : Int) : ∀ u ∈ [Value.int .u8 a, Value.int .u8 b], u.oneCell' = true := by
  intro u hu; simp at hu; rcases hu with rfl | rfl <;> rfl
theorem Blk.cells {w : World} {g : Nat} {t : TypeId} {a b : Nat} (h : Blk w g t a b) : ∀ j u, [Value.int .u8 (a : Int), Value.int .u8 (b : Int)][j]? = some u → w.cell? ((⟨g, 0, none⟩ : Addr).add j) = some u := by
  intro j u hj
  rw [add_plain, Nat.zero_add]
  match j with
  | 0 => simp at hj; rw [← hj]; exact h.c0
  | 1 => simp at hj; rw [← hj]; exact h.c1
  | j + 2 => simp at hj
theorem owns_set {w : World} {base e size n : Nat} {v : Value} {xs : List Value} (h : w.ownsRow base e size v n xs) {p : Addr} (hp : p.block < base) (u : Value) : (w.setCell p u).ownsRow base e size v n xs := by
  refine ⟨h.1, ?_⟩
  rcases h.2 with hn | ⟨g, cap, cur, h1, h2, h3, h4⟩
  · exact Or.inl hn
  · exact Or.inr ⟨g, cap, cur, h1, h2, (Below.heap_setCell w p u g (by omega)).trans h3, h4⟩
theorem owns_drew {w : World} {base e size n : Nat} {v : Value} {xs : List Value} (h : w.ownsRow base e size v n xs) (m : Nat) : (w.drewN m).ownsRow base e size v n xs := by
  refine ⟨h.1, ?_⟩
  rcases h.2 with hn | ⟨g, cap, cur, h1, h2, h3, h4⟩
  · exact Or.inl hn
  · have hb := below_drewN (Below.refl (g + 1) w) m
    exact Or.inr ⟨g, cap, cur, h1, h2, (hb.block g (by omega)).trans h3, h4⟩
theorem owns_up {w w' : World} {base e size n : Nat} {v : Value} {xs : List Value} (h : w.ownsRow base e size v n xs) (hb : Below w.heap.size w w') : w'.ownsRow base e size v n xs := by
  refine ⟨h.1, ?_⟩
  rcases h.2 with hn | ⟨g, cap, cur, h1, h2, h3, h4⟩
  · exact Or.inl hn
  · exact Or.inr ⟨g, cap, cur, h1, h2, (hb.block g (Array.getElem?_eq_some_iff.1 h3).1).trans h3, h4⟩
theorem owns_base {w : World} {base base' e size n : Nat} {v : Value} {xs : List Value} (h : w.ownsRow base e size v n xs) (hb : base' ≤ base) : w.ownsRow base' e size v n xs := by
  refine ⟨h.1, ?_⟩
  rcases h.2 with hn | ⟨g, cap, cur, h1, h2, h3, h4⟩
  · exact Or.inl hn
  · exact Or.inr ⟨g, cap, cur, h1, Nat.le_trans hb h2, h3, h4⟩
theorem Blk.grown {w w' : World} {g : Nat} {t : TypeId} {a b : Nat} {row : Option Nat} (h : Blk w g t a b) (hg : w.grownBy w' row) (hne : row ≠ some g) : Blk w' g t a b := (hg.block g h.lt (fun e => hne e.symm)).trans h
theorem kept_cell {w0 w1 : World} {p : Addr} {v : Value} (h : w0.cell? p = some v) (hb : Below w0.heap.size w0 w1) : w1.cell? p = some v := (hb.cell (World.block_lt_of_cell? _ _ h)).trans h
theorem by_len (s : ByteArray) : s.toList.length = s.size := by rw [ByteArray.toList_eq]; rfl
theorem by_drop (s : ByteArray) (k : Nat) (h : k < s.size) : s.toList.drop k = s[k] :: s.toList.drop (k + 1) := by
  have hl : k < s.toList.length := by rw [by_len]; exact h
  rw [List.drop_eq_getElem_cons hl]
  congr 1
  simp only [ByteArray.toList_eq]; rfl
theorem u8_eq {x : UInt8} {y : Nat} (h : y < 256) : ((x.toNat : Int) == (y : Int)) = decide (x = UInt8.ofNat y) := by
  by_cases e : x.toNat = y
  · have : x = UInt8.ofNat y := by rw [← e]; simp
    rw [decide_eq_true this]; simp [e]
  · have : ¬ x = UInt8.ofNat y := fun h2 => e (by rw [h2]; simp; omega)
    rw [decide_eq_false this, beq_eq_false_iff_ne]; omega
theorem blk_other {w : World} {g g' : Nat} {t : TypeId} {a b : Nat} (h : Blk w g t a b) (hne : g ≠ g') (x y : Value) : Blk ((w.setCell ⟨g', 0, none⟩ x).setCell ⟨g', 1, none⟩ y) g t a b :=
  ((Below.heap_setCell _ _ _ _ hne).trans (Below.heap_setCell _ _ _ _ hne)).trans h
theorem below_set2 {B g : Nat} {a w : World} (h : Below B a w) (hg : B ≤ g) (x y : Value) : Below B a ((w.setCell ⟨g, 0, none⟩ x).setCell ⟨g, 1, none⟩ y) := (h.setCell hg _).setCell hg _
theorem grown_cell {w0 w1 : World} {p : Addr} {v : Value} {row : Option Nat} (h : w0.cell? p = some v) (hb : w0.grownBy w1 row) (hne : some p.block ≠ row) : w1.cell? p = some v := (hb.cell_far p (World.block_lt_of_cell? _ _ h) hne).trans h
/-- A row that may be written. -/
def RowW (w : World) (e : TypeId) (g n : Nat) : Prop := ∃ cur, w.heap[g]? = some (.cells cur e (0, 0)) ∧ n * 2 ≤ cur.size
theorem RowW.up {w w' : World} {e g n : Nat} (h : RowW w e g n) (hb : Below w.heap.size w w') : RowW w' e g n := by
  obtain ⟨cur, h1, h2⟩ := h
  exact ⟨cur, (hb.block g (Array.getElem?_eq_some_iff.1 h1).1).trans h1, h2⟩
theorem RowW.set {w : World} {e g n : Nat} (h : RowW w e g n) (i : Nat) (v : Value) : RowW (w.setCell ⟨g, i, none⟩ v) e g n := by
  obtain ⟨cur, h1, h2⟩ := h
  exact ⟨_, heap_setCell_same w g i _ e v h1, by simpa using h2⟩
theorem RowW.fz {w : World} {e g n : Nat} (h : RowW w e g n) (i : Nat) : w.frozen? ⟨g, i, none⟩ = false := by
  obtain ⟨cur, h1, h2⟩ := h
  exact frozen_of_row w g i _ e h1
theorem RowW.cell {w : World} {e g n : Nat} (h : RowW w e g n) {i : Nat} (hi : i < n * 2) : ∃ v, w.cell? ⟨g, i, none⟩ = some v := by
  obtain ⟨cur, h1, h2⟩ := h
  exact ⟨cur[i]'(by omega), by simp [World.cell?, h1, Array.getElem?_eq_getElem (show i < cur.size by omega)]⟩
theorem cell_row {W : World} {g : Nat} {arr : Array Value} {e : TypeId} (h : W.heap[g]? = some (.cells arr e (0, 0))) (j : Nat) : W.cell? ⟨g, j, none⟩ = arr[j]? := by simp [World.cell?, h]
theorem below_of_drew {w w' : World} (h : ∃ n, w' = w.drewN n) : Below w.heap.size w w' := by obtain ⟨n, rfl⟩ := h; exact below_drewN (Below.refl _ _) n
theorem add_block (x : Addr) (n : Nat) : (x.add n).block = x.block := by unfold Addr.add; split <;> rfl
theorem add_add (x : Addr) (m n : Nat) : (x.add m).add n = x.add (m + n) := by
  unfold Addr.add
  by_cases h : n = 0
  · subst h; simp
  · have h2 : ¬ (m + n = 0) := fun e => h (by omega)
    rw [if_neg h, if_neg h2]; split <;> simp_all [Nat.add_assoc]
theorem sizeOf_run3 {P : Program} {e : TypeId} (h : (P.info? e).map (·.size) = some 3) (w : World) : (sizeOf e).run P w = .ok 3 w := by
  cases hq : P.info? e with
  | none => simp [hq] at h
  | some i => simp [hq] at h; simp [sizeOf, typeInfo, hq, h]
end Go.Proofs.Ytmnkkknkmbldhaa
