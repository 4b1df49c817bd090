/- Texts of the proof, put together: what it uses. -/
import Derived.WalkKit
import Derived.WalkSpells
import Derived.Maps.OwnSet
import Derived.Test.YtnedkpbpeolfoaaDoorProg
import Derived.WalkLawsBesides
import Derived.BigQuiet
import Derived.Deep.QuietTactic
import Derived.Laws.OwnMore
import Derived.Laws.BitsAllLaws
import Derived.Deep.RegionHeld3
import Derived.Deep.RegionWith
import Derived.Deep.AppendLies
import Derived.Deep.DeepCutAuto
import Derived.Sort.AssemblyPlain
import Derived.BigRegion
import Derived.Shelf.Small.Bits
import Derived.Shelf.SlSortCmp.Xorshift
import Derived.Laws.Bits64b
namespace Go.Proofs.YtnedkpbpeolfoaaDoor
open Go.RowKit Go.Maps
/-- Where place i of a slice lies. -/
def adOf (a : Option Addr) (i : Nat) : Addr := match a with
  | some x => x.add i
  | none => ⟨0, 0, none⟩
theorem add_plain (g o i : Nat) : (⟨g, o, none⟩ : Addr).add i = ⟨g, o + i, none⟩ := by unfold Addr.add; split <;> simp_all
theorem sizeOf_run {P : Program} {e : TypeId} (h : (P.info? e).map (·.size) = some 1) (w : World) : (sizeOf e).run P w = .ok 1 w := by
  cases hq : P.info? e with
  | none => simp [hq] at h
  | some i => simp [hq] at h; simp [sizeOf, typeInfo, hq, h]
theorem idx_of {P : Program} {T e : TypeId} (hu : P.underlying T = some (.slice e)) (hs : (P.info? e).map (·.size) = some 1) {a : Option Addr} {cap n : Nat} (hn : a = none → n = 0) (k : Nat) (w : World) (hk : k < n) :
    (Instr.indexAt T (.slice a n cap) (.int .i64 k)).run P w = .ok (.pointer (some (adOf a k))) w := by
  cases a with
  | none => have := hn rfl; omega
  | some x => simp [Instr.indexAt, run_underlying hu, asIntOf, sizeOf_run hs, hk, adOf, Result.andThen, go_sem]
/-- A slice of integers of one kind as the walk reads it. -/
structure IntSl (P : Program) (T : TypeId) (q : IntKind) (w : World) (a : Option Addr) (len cap : Nat) (zs : List Int) : Prop where
  hlen : zs.length = len
  hcap : len ≤ cap
  bd : cap ≤ maxLen
  idx : ∀ (n k : Nat) (w : World), k < n → n ≤ len → (Instr.indexAt T (.slice a n cap) (.int .i64 k)).run P w = .ok (.pointer (some (adOf a k))) w
  cell : ∀ k, k < len → w.cell? (adOf a k) = some (.int q (zs.getD k 0))
  blk : ∀ k, k < len → (adOf a k).block < w.heap.size
  nn : a = none → cap = 0
theorem IntSl.later {P : Program} {T : TypeId} {q : IntKind} {w w' : World} {a : Option Addr} {len cap : Nat} {zs : List Int} (h : IntSl P T q w a len cap zs) {B : Nat} (hb : Below B w w') (hB : ∀ k, k < len → (adOf a k).block < B) : IntSl P T q w' a len cap zs :=
  ⟨h.hlen, h.hcap, h.bd, h.idx, fun k hk => (hb.cell (hB k hk)).trans (h.cell k hk), fun k hk => Nat.lt_of_lt_of_le (h.blk k hk) hb.size, h.nn⟩
theorem IntSl.up {P : Program} {T : TypeId} {q : IntKind} {w w' : World} {a : Option Addr} {len cap : Nat} {zs : List Int} (h : IntSl P T q w a len cap zs) (hb : Below w.heap.size w w') : IntSl P T q w' a len cap zs := h.later hb h.blk
theorem IntSl.drewN {P : Program} {T : TypeId} {q : IntKind} {w : World} {a : Option Addr} {len cap : Nat} {zs : List Int} (h : IntSl P T q w a len cap zs) (n : Nat) : IntSl P T q (w.drewN n) a len cap zs := h.up (below_drewN (Below.refl _ _) n)
theorem take_snoc_int {zs : List Int} {k : Nat} (h : k < zs.length) : zs.take (k + 1) = zs.take k ++ [zs.getD k 0] := by
  rw [List.take_add_one, List.getElem?_eq_getElem h]; simp [List.getD_eq_getElem?_getD, List.getElem?_eq_getElem h]
theorem take_eq_next {xs ys : List Int} {k : Nat} (hx : k < xs.length) (hy : k < ys.length) (h : xs.take k = ys.take k) (he : xs.getD k 0 = ys.getD k 0) : xs.take (k + 1) = ys.take (k + 1) := by
  rw [take_snoc_int hx, take_snoc_int hy, h, he]
theorem intSl_nil {P : Program} {T : TypeId} {w : World} : IntSl P T .u8 w none 0 0 [] :=
  ⟨rfl, Nat.le_refl _, Nat.zero_le _, fun m k w hk hm => absurd hk (by omega), fun k hk => absurd hk (by omega), fun k hk => absurd hk (by omega), fun _ => rfl⟩
theorem ownsRow_intSl {P : Program} {T e : TypeId} {w : World} {base n : Nat} {v : Value} {zs : List Int} (h : w.ownsRow base e 1 v n (zs.map (Value.int .u8))) (hu : P.underlying T = some (.slice e)) (hs : (P.info? e).map (·.size) = some 1) :
    ∃ a cap, v = .slice a n cap ∧ IntSl P T .u8 w a n cap zs ∧ ∀ k, k < n → base ≤ (adOf a k).block := by
  obtain ⟨hl, h⟩ := h
  simp at hl
  rcases h with ⟨rfl, rfl⟩ | ⟨g, cap, cur, rfl, hg, hcell, hnc, hcm, hsz, htk⟩
  · have : zs = [] := List.eq_nil_of_length_eq_zero hl
    subst this
    exact ⟨none, 0, rfl, intSl_nil, fun k hk => absurd hk (by omega)⟩
  · have had : ∀ k, adOf (some ⟨g, 0, none⟩) k = ⟨g, k, none⟩ := fun k => by simp [adOf, add_plain]
    have hlt : g < w.heap.size := (Array.getElem?_eq_some_iff.1 hcell).1
    refine ⟨some ⟨g, 0, none⟩, cap, rfl, ⟨hl, hnc, hcm, fun m k w hk hm => idx_of hu hs (by simp) k w hk, fun k hk => ?_, fun k hk => by rw [had]; exact hlt, by simp⟩, fun k hk => by rw [had]; exact hg⟩
    rw [had]
    have hk2 : (cur.toList.take (n * 1))[k]? = some (.int .u8 (zs.getD k 0)) := by
      rw [htk]; simp [List.getD_eq_getElem?_getD, List.getElem?_eq_getElem (show k < zs.length by omega)]
    rw [List.getElem?_take, if_pos (by omega)] at hk2
    simp [World.cell?, hcell]
    simpa using hk2
theorem own_ge {w : World} {base e size n : Nat} {v : Value} {xs : List Value} (h : w.ownsRow base e size v n xs) : ∀ k, v.ownBlock = some k → base ≤ k := by
  obtain ⟨_, h⟩ := h
  rcases h with ⟨rfl, _⟩ | ⟨g, cap, cur, rfl, hg, _⟩
  · intro k hk; simp [Value.ownBlock] at hk
  · intro k hk; simp [Value.ownBlock] at hk; omega
theorem below_new (w : World) (o : Obj) : Below w.heap.size w (w.alloc o) := (Below.refl _ _).alloc (Nat.le_refl _) _
theorem below_step {w w1 w2 : World} (h : Below w.heap.size w w1) (k : Below w1.heap.size w1 w2) : Below w.heap.size w w2 := h.trans (k.mono h.size)
/-- Block g is a variable that holds a cube. -/
def Blk (w : World) (g : Nat) (t : TypeId) (a b : Nat) : Prop := w.heap[g]? = some (.cells #[.int .u8 (a : Int), .int .u8 (b : Int)] t (0, 0))
theorem Blk.new (w : World) (t : TypeId) (a b : Nat) : Blk (w.alloc (.cells #[.int .u8 (a : Int), .int .u8 (b : Int)] t)) w.heap.size t a b := (MapKept.heap_alloc w _).1
theorem Blk.c0 {w : World} {g : Nat} {t : TypeId} {a b : Nat} (h : Blk w g t a b) : w.cell? ⟨g, 0, none⟩ = some (.int .u8 (a : Int)) := by unfold Blk at h; simp [World.cell?, h]
theorem Blk.c1 {w : World} {g : Nat} {t : TypeId} {a b : Nat} (h : Blk w g t a b) : w.cell? ⟨g, 1, none⟩ = some (.int .u8 (b : Int)) := by unfold Blk at h; simp [World.cell?, h]
theorem sizeOf_run2 {P : Program} {e : TypeId} (h : (P.info? e).map (·.size) = some 2) (w : World) : (sizeOf e).run P w = .ok 2 w := by
  cases hq : P.info? e with
  | none => simp [hq] at h
  | some i => simp [hq] at h; simp [sizeOf, typeInfo, hq, h]
theorem two_oneCell (a b : Int) : ∀ u ∈ [Value.int .u8 a, Value.int .u8 b], u.oneCell' = true := by
  intro u hu; simp at hu; rcases hu with rfl | rfl <;> rfl
theorem owns_drew {w : World} {base e size n : Nat} {v : Value} {xs : List Value} (h : w.ownsRow base e size v n xs) (m : Nat) : (w.drewN m).ownsRow base e size v n xs := by
  refine ⟨h.1, ?_⟩
  rcases h.2 with hn | ⟨g, cap, cur, h1, h2, h3, h4⟩
  · exact Or.inl hn
  · have hb := below_drewN (Below.refl (g + 1) w) m
    exact Or.inr ⟨g, cap, cur, h1, h2, (hb.block g (by omega)).trans h3, h4⟩
theorem owns_up {w w' : World} {base e size n : Nat} {v : Value} {xs : List Value} (h : w.ownsRow base e size v n xs) (hb : Below w.heap.size w w') : w'.ownsRow base e size v n xs := by
  refine ⟨h.1, ?_⟩
  rcases h.2 with hn | ⟨g, cap, cur, h1, h2, h3, h4⟩
  · exact Or.inl hn
  · exact Or.inr ⟨g, cap, cur, h1, h2, (hb.block g (Array.getElem?_eq_some_iff.1 h3).1).trans h3, h4⟩
theorem owns_base {w : World} {base base' e size n : Nat} {v : Value} {xs : List Value} (h : w.ownsRow base e size v n xs) (hb : base' ≤ base) : w.ownsRow base' e size v n xs := by
  refine ⟨h.1, ?_⟩
  rcases h.2 with hn | ⟨g, cap, cur, h1, h2, h3, h4⟩
  · exact Or.inl hn
  · exact Or.inr ⟨g, cap, cur, h1, Nat.le_trans hb h2, h3, h4⟩
theorem kept_cell {w0 w1 : World} {p : Addr} {v : Value} (h : w0.cell? p = some v) (hb : Below w0.heap.size w0 w1) : w1.cell? p = some v := (hb.cell (World.block_lt_of_cell? _ _ h)).trans h
theorem cell_row {W : World} {g : Nat} {arr : Array Value} {e : TypeId} (h : W.heap[g]? = some (.cells arr e (0, 0))) (j : Nat) : W.cell? ⟨g, j, none⟩ = arr[j]? := by simp [World.cell?, h]
theorem add_block (x : Addr) (n : Nat) : (x.add n).block = x.block := by unfold Addr.add; split <;> rfl
theorem add_add (x : Addr) (m n : Nat) : (x.add m).add n = x.add (m + n) := by
  unfold Addr.add
  by_cases h : n = 0
  · subst h; simp
  · have h2 : ¬ (m + n = 0) := fun e => h (by omega)
    rw [if_neg h, if_neg h2]; split <;> simp_all [Nat.add_assoc]
end Go.Proofs.YtnedkpbpeolfoaaDoor
namespace Go.Proofs.YtnedkpbpeolfoaaDoor
/-- A set lies within another one. -/
abbrev Wi (a b : Nat) : Prop := a &&& b = a
theorem wi_iff {a b : Nat} : Wi a b ↔ ∀ i, a.testBit i = true → b.testBit i = true := by
  unfold Wi
  constructor
  · intro h i hi
    have := congrArg (fun x => x.testBit i) h
    simp only [Nat.testBit_and, hi, Bool.true_and] at this
    exact this
  · intro h
    apply Nat.eq_of_testBit_eq
    intro i
    rw [Nat.testBit_and]
    cases ha : a.testBit i with
    | false => rfl
    | true => rw [h i ha]; rfl
theorem wi_refl (a : Nat) : Wi a a := wi_iff.2 fun _ h => h
theorem wi_trans {a b c : Nat} (h : Wi a b) (k : Wi b c) : Wi a c := wi_iff.2 fun i hi => wi_iff.1 k i (wi_iff.1 h i hi)
theorem wi_anti {a b : Nat} (h : Wi a b) (k : Wi b a) : a = b := by
  apply Nat.eq_of_testBit_eq
  intro i
  cases ha : a.testBit i with
  | true => exact (wi_iff.1 h i ha).symm
  | false =>
    cases hb : b.testBit i with
    | false => rfl
    | true => rw [wi_iff.1 k i hb] at ha; cases ha
theorem wi_le {a b : Nat} (h : Wi a b) : a ≤ b := by
  unfold Wi at h
  rw [← h]; exact Nat.and_le_right
/-- What a list says of what is held. -/
abbrev HoP (l : List Nat) (h : Nat) : Prop := ∃ s ∈ l, Wi s h
def hoB (l : List Nat) (h : Nat) : Bool := decide (HoP l h)
/-- A set of a list that has no other one within it. -/
abbrev Mini (l : List Nat) (x : Nat) : Prop := x ∈ l ∧ ∀ y ∈ l, Wi y x → y = x
/-- The least sets of l, rising. -/
structure IsLeast (l r : List Nat) : Prop where
  up : r.Pairwise (· < ·)
  mem : ∀ x, x ∈ r ↔ Mini l x
theorem rising_ext : ∀ {a b : List Nat}, a.Pairwise (· < ·) → b.Pairwise (· < ·) → (∀ x, x ∈ a ↔ x ∈ b) → a = b
  | [], [], _, _, _ => rfl
  | [], y :: b, _, _, h => absurd ((h y).2 (by simp)) (by simp)
  | x :: a, [], _, _, h => absurd ((h x).1 (by simp)) (by simp)
  | x :: a, y :: b, ha, hb, h => by
    obtain ⟨ha1, ha2⟩ := List.pairwise_cons.1 ha
    obtain ⟨hb1, hb2⟩ := List.pairwise_cons.1 hb
    have e : x = y := by
      have h1 := (h x).1 (by simp)
      have h2 := (h y).2 (by simp)
      rcases List.mem_cons.1 h1 with h1 | h1
      · exact h1
      · rcases List.mem_cons.1 h2 with h2 | h2
        · exact h2.symm
        · have := hb1 x h1
          have := ha1 y h2
          omega
    subst e
    refine congrArg (x :: ·) (rising_ext ha2 hb2 fun z => ?_)
    constructor
    · intro hz
      rcases List.mem_cons.1 ((h z).1 (by simp [hz])) with e | e
      · have := ha1 z hz; omega
      · exact e
    · intro hz
      rcases List.mem_cons.1 ((h z).2 (by simp [hz])) with e | e
      · have := hb1 z hz; omega
      · exact e
theorem IsLeast.one {l r r' : List Nat} (h : IsLeast l r) (h' : IsLeast l r') : r = r' := rising_ext h.up h'.up fun x => (h.mem x).trans (h'.mem x).symm
/-- Each set of a list has one of the least within it. -/
theorem mini_below (l : List Nat) : ∀ (n x : Nat), x ≤ n → x ∈ l → ∃ y, Mini l y ∧ Wi y x := by
  intro n
  induction n with
  | zero =>
    intro x hx hm
    obtain rfl : x = 0 := by omega
    exact ⟨0, ⟨hm, fun y hy hw => by have := wi_le hw; omega⟩, wi_refl 0⟩
  | succ n ih =>
    intro x hx hm
    by_cases h : Mini l x
    · exact ⟨x, h, wi_refl x⟩
    · have : ∃ y ∈ l, Wi y x ∧ y ≠ x := by
        apply Classical.byContradiction
        intro hc
        apply h
        refine ⟨hm, fun y hy hw => ?_⟩
        apply Classical.byContradiction
        intro he
        exact hc ⟨y, hy, hw, he⟩
      obtain ⟨y, hy, hw, hne⟩ := this
      have := wi_le hw
      obtain ⟨z, hz, hzw⟩ := ih y (by omega) hy
      exact ⟨z, hz, wi_trans hzw hw⟩
theorem IsLeast.holds {l r : List Nat} (h : IsLeast l r) (held : Nat) : HoP r held ↔ HoP l held := by
  constructor
  · rintro ⟨s, hs, hw⟩
    exact ⟨s, ((h.mem s).1 hs).1, hw⟩
  · rintro ⟨s, hs, hw⟩
    obtain ⟨y, hy, hyw⟩ := mini_below l s s (Nat.le_refl _) hs
    exact ⟨y, (h.mem y).2 hy, wi_trans hyw hw⟩
/-- Lists that say the same have the same least sets. -/
theorem mini_same {a b : List Nat} (h : ∀ held, HoP a held ↔ HoP b held) {x : Nat} (hx : Mini a x) : Mini b x := by
  obtain ⟨s, hs, hw⟩ := (h x).1 ⟨x, hx.1, wi_refl x⟩
  obtain ⟨t, ht, hw2⟩ := (h s).2 ⟨s, hs, wi_refl s⟩
  have e := hx.2 t ht (wi_trans hw2 hw)
  subst e
  have e := wi_anti hw hw2
  subst e
  refine ⟨hs, fun y hy hyw => ?_⟩
  obtain ⟨u, hu, huw⟩ := (h y).2 ⟨y, hy, wi_refl y⟩
  have e := hx.2 u hu (wi_trans huw hyw)
  subst e
  exact wi_anti hyw huw
theorem least_ext {a b r r' : List Nat} (h : IsLeast a r) (h' : IsLeast b r') (hs : ∀ held, HoP a held ↔ HoP b held) : r = r' :=
  rising_ext h.up h'.up fun x => by
    rw [h.mem, h'.mem]
    exact ⟨mini_same hs, mini_same fun held => (hs held).symm⟩
theorem hoP_append {a b : List Nat} {h : Nat} : HoP (a ++ b) h ↔ HoP a h ∨ HoP b h := by
  unfold HoP
  constructor
  · rintro ⟨s, hs, hw⟩
    rcases List.mem_append.1 hs with hs | hs
    · exact Or.inl ⟨s, hs, hw⟩
    · exact Or.inr ⟨s, hs, hw⟩
  · rintro (⟨s, hs, hw⟩ | ⟨s, hs, hw⟩)
    · exact ⟨s, by simp [hs], hw⟩
    · exact ⟨s, by simp [hs], hw⟩
/-- All unions of a set of a and a set of b. -/
def uniL (a b : List Nat) : List Nat := a.flatMap fun x => b.map fun y => x ||| y
theorem uniL_length (a b : List Nat) : (uniL a b).length = a.length * b.length := by
  unfold uniL
  induction a with
  | nil => simp
  | cons x a ih => rw [List.flatMap_cons, List.length_append, ih, List.length_map, List.length_cons, Nat.succ_mul]; omega
/-- A list, rising, each once. -/
def insU (x : Nat) : List Nat → List Nat
  | [] => [x]
  | y :: r => if x < y then x :: y :: r else if x = y then y :: r else y :: insU x r
theorem insU_mem (x z : Nat) : ∀ l : List Nat, z ∈ insU x l ↔ z = x ∨ z ∈ l
  | [] => by simp [insU]
  | y :: r => by
    unfold insU
    split
    · simp
    · split
      · rename_i h1 h2; subst h2; simp
      · simp only [List.mem_cons, insU_mem x z r]
        constructor
        · rintro (h | h | h)
          · exact Or.inr (Or.inl h)
          · exact Or.inl h
          · exact Or.inr (Or.inr h)
        · rintro (h | h | h)
          · exact Or.inr (Or.inl h)
          · exact Or.inl h
          · exact Or.inr (Or.inr h)
theorem insU_up (x : Nat) : ∀ l : List Nat, l.Pairwise (· < ·) → (insU x l).Pairwise (· < ·)
  | [], _ => by simp [insU]
  | y :: r, h => by
    obtain ⟨h1, h2⟩ := List.pairwise_cons.1 h
    unfold insU
    split
    · rename_i hx
      refine List.pairwise_cons.2 ⟨fun z hz => ?_, h⟩
      rcases List.mem_cons.1 hz with rfl | hz
      · exact hx
      · have := h1 z hz; omega
    · split
      · exact h
      · rename_i hx hy
        refine List.pairwise_cons.2 ⟨fun z hz => ?_, insU_up x r h2⟩
        rcases (insU_mem x z r).1 hz with rfl | hz
        · omega
        · exact h1 z hz
def sortU (l : List Nat) : List Nat := l.foldr insU []
theorem sortU_mem (z : Nat) : ∀ l : List Nat, z ∈ sortU l ↔ z ∈ l
  | [] => by simp [sortU]
  | x :: l => by
    show z ∈ insU x (sortU l) ↔ _
    rw [insU_mem, sortU_mem z l, List.mem_cons]
theorem sortU_up : ∀ l : List Nat, (sortU l).Pairwise (· < ·)
  | [] => by simp [sortU]
  | x :: l => insU_up x _ (sortU_up l)
/-- The least sets of a list, rising. -/
def leastL (l : List Nat) : List Nat := (sortU l).filter fun x => decide (Mini l x)
theorem leastL_is (l : List Nat) : IsLeast l (leastL l) := by
  refine ⟨(sortU_up l).filter _, fun x => ?_⟩
  unfold leastL
  rw [List.mem_filter, sortU_mem, decide_eq_true_eq]
  exact ⟨fun h => h.2, fun h => ⟨h.1, h⟩⟩
theorem leastL_of {l r : List Nat} (h : IsLeast l r) : r = leastL l := h.one (leastL_is l)
theorem leastL_ext {a b : List Nat} (hs : ∀ held, HoP a held ↔ HoP b held) : leastL a = leastL b := least_ext (leastL_is a) (leastL_is b) hs
theorem leastL_holds (l : List Nat) (held : Nat) : HoP (leastL l) held ↔ HoP l held := (leastL_is l).holds held
theorem leastL_again (l : List Nat) : leastL (leastL l) = leastL l := leastL_ext fun held => leastL_holds l held
theorem leastL_sub {l : List Nat} {x : Nat} (h : x ∈ leastL l) : x ∈ l := ((leastL_is l).mem x).1 h |>.1
theorem rising_len : ∀ {a l : List Nat}, a.Pairwise (· < ·) → (∀ x ∈ a, x ∈ l) → a.length ≤ l.length
  | [], _, _, _ => Nat.zero_le _
  | x :: a, l, h, hs => by
    obtain ⟨h1, h2⟩ := List.pairwise_cons.1 h
    have hm := hs x (by simp)
    have := rising_len (l := l.erase x) h2 (fun y hy => by
      have := h1 y hy
      exact (List.mem_erase_of_ne (by omega)).2 (hs y (by simp [hy])))
    rw [List.length_erase_of_mem hm] at this
    have hp := List.length_pos_of_mem hm
    simp only [List.length_cons]
    omega
theorem leastL_len (l : List Nat) : (leastL l).length ≤ l.length := rising_len (leastL_is l).up fun _ hx => leastL_sub hx
theorem or_lt {a b : Nat} (ha : a < 2 ^ 64) (hb : b < 2 ^ 64) : a ||| b < 2 ^ 64 := Nat.or_lt_two_pow ha hb
end Go.Proofs.YtnedkpbpeolfoaaDoor
namespace Go.Proofs.YtnedkpbpeolfoaaDoor
open Go.RowKit Go.Maps
/-- The numbers as the model has them. -/
abbrev iU (l : List Nat) : List Int := l.map fun (x : Nat) => (x : Int)
theorem iU_inj {a b : List Nat} (h : iU a = iU b) : a = b := by
  induction a generalizing b with
  | nil => cases b with | nil => rfl | cons y b => cases h
  | cons x a ih =>
    cases b with
    | nil => cases h
    | cons y b =>
      simp only [iU, List.map_cons, List.cons.injEq] at h
      obtain ⟨h1, h2⟩ := h
      rw [show x = y by omega, ih h2]
theorem dec_iU (a b : List Nat) : decide (iU a = iU b) = decide (a = b) := by
  by_cases h : a = b
  · rw [h, decide_eq_true rfl, decide_eq_true rfl]
  · rw [decide_eq_false h, decide_eq_false fun e => h (iU_inj e)]
/-- A list of sets, wherever it lies. -/
abbrev USl (w : World) (a : Option Addr) (len cap : Nat) (l : List Nat) : Prop := IntSl Tryd.prog 22 .u64 w a len cap (iU l)
theorem USl.len {w : World} {a : Option Addr} {len cap : Nat} {l : List Nat} (h : USl w a len cap l) : len = l.length := by
  have := h.hlen
  simp [iU] at this
  omega
def Sm (l : List Nat) : Prop := ∀ x ∈ l, x < 2 ^ 64
theorem Tryd.sizeSU : (Tryd.prog.info? 60).map (·.size) = some 1 := by kernel_rfl
theorem usl_nil {w : World} : USl w none 0 0 [] :=
  ⟨rfl, Nat.le_refl _, Nat.zero_le _, fun m k w hk hm => absurd hk (by omega), fun k hk => absurd hk (by omega), fun k hk => absurd hk (by omega), fun _ => rfl⟩
/-- Sets that are written out. -/
theorem Tryd.set_lit (l : List Nat) (w : World) (hl : l.length ≤ 2000) : USl (w.alloc (.cells ((iU l).map (Value.int .u64)).toArray 60)) (some ⟨w.heap.size, 0, none⟩) l.length l.length l := by
  have had : ∀ k, adOf (some ⟨w.heap.size, 0, none⟩) k = ⟨w.heap.size, k, none⟩ := fun k => by simp [adOf, add_plain]
  have hr := (MapKept.heap_alloc w (.cells ((iU l).map (Value.int .u64)).toArray 60)).1
  refine ⟨by simp, Nat.le_refl _, by unfold maxLen; omega, fun m k w hk hm => idx_of Tryd.underlying22 Tryd.sizeSU (by simp) k w hk, fun k hk => ?_, fun k hk => ?_, by simp⟩
  · rw [had, cell_row hr k]
    simp [List.getD_eq_getElem?_getD, hk]
  · rw [had]
    exact (Array.getElem?_eq_some_iff.1 hr).1
set_option maxHeartbeats 2000000 in
/-- SameSets tells whether two lists are one. -/
theorem Tryd.sameU_any (a : Option Addr) (len cap : Nat) (xs : List Int) (a' : Option Addr) (len' cap' : Nat) (ys : List Int) (w : World)
    (hS : IntSl Tryd.prog 22 .u64 w a len cap xs) (hO : IntSl Tryd.prog 22 .u64 w a' len' cap' ys) :
    Calls Tryd.prog 27 #[.slice a len cap, .slice a' len' cap'] w fun e w' => e = .returned (.bool (decide (xs = ys))) ∧ ∃ n, w' = w.drewN n := by
  have hb0 := hS.bd
  have hb1 := hS.hcap
  have hb2 := hO.bd
  have hb3 := hO.hcap
  unfold maxLen at hb0 hb2
  by_cases hll : len = len'
  · subst hll
    have hidx := fun (k : Nat) (w : World) (h : k < len) => hS.idx len k w h (Nat.le_refl _)
    have hidx' := fun (k : Nat) (w : World) (h : k < len) => hO.idx len k w h (Nat.le_refl _)
    go_enter Tryd.func27, Tryd.ntmps27
    go_wp2
    go_loopw [5] (fun i wr => ∃ k : Nat, k ≤ len ∧ i = .int .i64 k ∧ Hid (xs.take k = ys.take k) ∧ Hid (∃ n, wr = w.drewN n)) (fun i _ => len - (intOf i).toNat)
    case atStart => exact ⟨0, Nat.zero_le _, rfl, by show _ = _; simp, 0, rfl⟩
    case round =>
      obtain ⟨k, hk, rfl, HU, hwr⟩ := hrel
      by_cases hlt : k < len
      · have hS' : IntSl Tryd.prog 22 .u64 wr a len cap xs := by obtain ⟨n, hn⟩ := hwr.out; rw [hn]; exact hS.drewN n
        have hO' : IntSl Tryd.prog 22 .u64 wr a' len cap' ys := by obtain ⟨n, hn⟩ := hwr.out; rw [hn]; exact hO.drewN n
        have hck := hS'.cell k hlt
        have hck' := hO'.cell k hlt
        have HN : Hid (xs.getD k 0 = ys.getD k 0 → xs.take (k + 1) = ys.take (k + 1)) := fun h => take_eq_next (by rw [hS.hlen]; exact hlt) (by rw [hO.hlen]; exact hlt) HU.out h
        have HM : Hid (xs.getD k 0 ≠ ys.getD k 0 → decide (xs = ys) = false) := fun h => decide_eq_false (fun e => h (by rw [e]))
        clear hS' hO'
        generalize xs.getD k 0 = x at *
        generalize ys.getD k 0 = y at *
        go_wp2
        go_quiet (fail)
        rcases Bool.eq_false_or_eq_true (x != y) with ht | ht
        · go_wp2
          go_ret
          obtain ⟨n, hn⟩ := hwr.out
          exact ⟨by rw [HM.out (by simpa using ht)]; rfl, n + nq, by rw [hn, World.drewN_drewN]⟩
        · have HN2 : Hid _ := HN.out (by simpa using ht)
          go_wp2
          go_roundw
          case rel =>
            obtain ⟨n, hn⟩ := hwr.out
            exact ⟨k + 1, by omega, by go_num, HN2, n + nq, by rw [hn, World.drewN_drewN]⟩
          case measure => simp [intOf]; omega
      · have hx : Hid (decide (xs = ys) = true) := by
          have := HU.out
          rw [List.take_of_length_le (by rw [hS.hlen]; omega), List.take_of_length_le (by rw [hO.hlen]; omega)] at this
          exact decide_eq_true this
        go_wp2
        go_ret
        exact ⟨by rw [hx.out]; rfl, hwr.out⟩
  · have hx : Hid (decide (xs = ys) = false) := decide_eq_false (fun e => hll (by rw [← hS.hlen, ← hO.hlen, e]))
    have hll' : ((len : Int) != (len' : Int)) = true := by simp; omega
    clear hll
    go_enter Tryd.func27, Tryd.ntmps27
    go_wp2
    go_ret
    exact ⟨by rw [hx.out]; rfl, 0, rfl⟩
/-- An answer that is a list of sets and a word of how it went. -/
def LE (E : Nat) (r : List Nat) (w : World) (e : Ending) (w' : World) : Prop := ∃ (a : Option Addr) (c : Nat), e = .returned (.tuple #[.slice a r.length c, .int .i64 (E : Int)]) ∧ USl w' a r.length c r ∧ Below w.heap.size w w'
def BR (b : Bool) (w : World) (e : Ending) (w' : World) : Prop := e = .returned (.bool b) ∧ Below w.heap.size w w'
theorem Tryd.sameS_any (a : Option Addr) (n c : Nat) (l : List Nat) (b : Option Addr) (m d : Nat) (k : List Nat) (w : World) (h : USl w a n c l) (h' : USl w b m d k) : Calls Tryd.prog 27 #[.slice a n c, .slice b m d] w (BR (decide (l = k)) w) :=
  (Tryd.sameU_any a n c _ b m d _ w h h').mono fun e w' ⟨h1, q, h2⟩ => ⟨by rw [h1, dec_iU], by rw [h2]; exact below_drewN (Below.refl _ _) q⟩
end Go.Proofs.YtnedkpbpeolfoaaDoor
namespace Go.Proofs.YtnedkpbpeolfoaaDoor
open Go.RowKit Go.Maps
theorem sNot_zero (x y : Nat) (hx : x < 18446744073709551616) (hy : y < 18446744073709551616) : (x &&& (18446744073709551615 - y) = 0) ↔ y ||| x = y := by
  have hb : ∀ i, (18446744073709551615 - y).testBit i = (decide (i < 64) && !y.testBit i) := fun i => by
    have := Nat.testBit_two_pow_sub_succ (n := 64) (x := y) (by exact hy) i
    rw [show 2 ^ 64 - (y + 1) = 18446744073709551615 - y by omega] at this
    exact this
  constructor
  · intro h
    refine Nat.eq_of_testBit_eq fun i => ?_
    have := congrArg (fun z => z.testBit i) h
    simp only [Nat.testBit_and, hb, Nat.zero_testBit] at this
    rw [Nat.testBit_or]
    by_cases hi : i < 64
    · simp [hi] at this
      cases h1 : y.testBit i <;> cases h2 : x.testBit i <;> simp_all
    · have : x.testBit i = false := Nat.testBit_lt_two_pow (Nat.lt_of_lt_of_le hx (by rw [show (18446744073709551616 : Nat) = 2 ^ 64 from rfl]; exact Nat.pow_le_pow_right (by decide) (by omega)))
      rw [this]; simp
  · intro h
    refine Nat.eq_of_testBit_eq fun i => ?_
    have := congrArg (fun z => z.testBit i) h
    simp only [Nat.testBit_or] at this
    rw [Nat.testBit_and, hb, Nat.zero_testBit]
    cases h1 : y.testBit i <;> cases h2 : x.testBit i <;> simp_all
theorem or_wi {x y : Nat} : y ||| x = y ↔ Wi x y := by
  rw [wi_iff]
  constructor
  · intro h i hi
    rw [← h, Nat.testBit_or, hi, Bool.or_true]
  · intro h
    apply Nat.eq_of_testBit_eq
    intro i
    rw [Nat.testBit_or]
    cases hx : x.testBit i with
    | false => rw [Bool.or_false]
    | true => rw [h i hx]; rfl
theorem not_wi (x y : Nat) (hx : x < 2 ^ 64) (hy : y < 2 ^ 64) : bits .andNot .u64 (x : Int) (y : Int) = 0 ↔ Wi x y := by
  rw [u64_andNot_nat x y hx hy, ← or_wi, ← sNot_zero x y hx hy]
  omega
theorem Tryd.within_any (x y : Nat) (hx : x < 2 ^ 64) (hy : y < 2 ^ 64) (w : World) : Calls Tryd.prog 38 #[.int .u64 (x : Int), .int .u64 (y : Int)] w fun e w' => e = .returned (.bool (decide (Wi x y))) ∧ w' = w := by
  have h := not_wi x y hx hy
  generalize hz : bits .andNot .u64 (x : Int) (y : Int) = z at *
  have HD : Hid ((z == 0) = decide (Wi x y)) := by
    show _ = _
    rw [Bool.eq_iff_iff, beq_iff_eq, decide_eq_true_iff]
    exact h
  clear h
  go_enter Tryd.func38, Tryd.ntmps38
  go_wp2
  go_ret
  exact ⟨by rw [← HD.out]; rfl, rfl⟩
set_option maxHeartbeats 2000000 in
theorem Tryd.holds_any (a : Option Addr) (n c : Nat) (l : List Nat) (h : Nat) (w : World) (hS : USl w a n c l) (sL : Sm l) (hh : h < 2 ^ 64) :
    Calls Tryd.prog 23 #[.slice a n c, .int .u64 (h : Int)] w (BR (hoB l h) w) := by
  have hb0 := hS.bd
  have hb1 := hS.hcap
  unfold maxLen at hb0
  have hln := hS.len
  have HL : Hid (n = l.length) := hln
  have hidx := fun (k : Nat) (w : World) (h : k < n) => hS.idx n k w h (Nat.le_refl _)
  have hcell : ∀ k, k < n → w.cell? (adOf a k) = some (.int .u64 ((l.getD k 0 : Nat) : Int)) := fun k hk => by
    rw [hS.cell k hk]
    congr 2
    simp only [List.getD_eq_getElem?_getD, iU, List.getElem?_map]
    cases l[k]? <;> rfl
  have HW : Hid (∀ k, k < n → ∀ w', Calls Tryd.prog 38 #[.int .u64 ((l.getD k 0 : Nat) : Int), .int .u64 (h : Int)] w' fun e w'' => e = .returned (.bool (decide (Wi (l.getD k 0) h))) ∧ w'' = w') := fun k hk w' => Tryd.within_any _ h (by
    have hk' : k < l.length := by omega
    rw [List.getD_eq_getElem?_getD, List.getElem?_eq_getElem hk']
    exact sL _ (List.getElem_mem hk')) hh w'
  clear hS sL hln
  go_enter Tryd.func23, Tryd.ntmps23
  go_wp2
  go_loopw [9] (fun i wr => ∃ k : Nat, k ≤ n ∧ i = .int .i64 (k : Int) ∧ Hid (∀ j, j < k → ¬ Wi (l.getD j 0) h) ∧ wr = w) (fun i _ => n - (intOf i).toNat)
  case atStart => exact ⟨0, Nat.zero_le _, rfl, fun j hj => absurd hj (by omega), rfl⟩
  case round =>
    obtain ⟨k, hk, rfl, HU, rfl⟩ := hrel
    by_cases hlt : k < n
    · have hc := hcell k hlt
      have hx := fun w' => hidx k w' hlt
      have hw := HW.out k hlt
      have HY : Hid (¬ Wi (l.getD k 0) h → ∀ j, j < k + 1 → ¬ Wi (l.getD j 0) h) := fun hn j hj => by
        by_cases e : j = k
        · subst e; exact hn
        · exact HU.out j (by omega)
      have HN : Hid (Wi (l.getD k 0) h → hoB l h = true) := fun hn => by
        have hk' : k < l.length := by rw [← HL.out]; exact hlt
        refine decide_eq_true ⟨l.getD k 0, ?_, hn⟩
        rw [List.getD_eq_getElem?_getD, List.getElem?_eq_getElem hk']
        exact List.getElem_mem hk'
      generalize l.getD k 0 = x at *
      clear hcell hidx
      by_cases hwi : Wi x h
      · rw [decide_eq_true hwi] at hw
        have HZ : Hid (hoB l h = true) := HN.out hwi
        clear hwi HN HY
        go_wp2_with fail
        refine (hw _).mono ?_
        rintro e w1 ⟨rfl, rfl⟩
        go_wp2_with fail
        go_ret
        exact ⟨by rw [HZ.out]; rfl, Below.refl _ _⟩
      · rw [decide_eq_false hwi] at hw
        have HZ : Hid (∀ j, j < k + 1 → ¬ Wi (l.getD j 0) h) := HY.out hwi
        clear hwi HN HY
        go_wp2_with fail
        refine (hw _).mono ?_
        rintro e w1 ⟨rfl, rfl⟩
        go_wp2_with fail
        go_roundw
        case rel => exact ⟨k + 1, by omega, by go_num, HZ, by first | trivial | rfl⟩
        case measure => simp [intOf]; omega
    · have HZ : Hid (hoB l h = false) := by
        refine decide_eq_false ?_
        rintro ⟨s, hs, hw⟩
        obtain ⟨j, hj, rfl⟩ := List.getElem_of_mem hs
        have := HU.out j (by have := HL.out; omega)
        rw [List.getD_eq_getElem?_getD, List.getElem?_eq_getElem hj] at this
        exact this hw
      go_wp2
      go_ret
      exact ⟨by rw [HZ.out]; rfl, Below.refl _ _⟩
end Go.Proofs.YtnedkpbpeolfoaaDoor
namespace Go.Proofs.YtnedkpbpeolfoaaDoor
open Go.RowKit Go.Maps
theorem sm_append {a b : List Nat} (h : Sm a) (k : Sm b) : Sm (a ++ b) := fun x hx => (List.mem_append.1 hx).elim (h x) (k x)
theorem sm_uni {a b : List Nat} (h : Sm a) (k : Sm b) : Sm (uniL a b) := fun x hx => by
  unfold uniL at hx
  obtain ⟨y, hy, hx⟩ := List.mem_flatMap.1 hx
  obtain ⟨z, hz, rfl⟩ := List.mem_map.1 hx
  exact or_lt (h y hy) (k z hz)
end Go.Proofs.YtnedkpbpeolfoaaDoor
namespace Go.Proofs.YtnedkpbpeolfoaaDoor
open Go.RowKit Go.Maps
theorem ownU_sl {P : Program} {T e : TypeId} {w : World} {base n : Nat} {v : Value} {zs : List Int} (h : w.ownsRow base e 1 v n (zs.map (Value.int .u64))) (hu : P.underlying T = some (.slice e)) (hs : (P.info? e).map (·.size) = some 1) :
    ∃ a cap, v = .slice a n cap ∧ IntSl P T .u64 w a n cap zs ∧ (∀ k, k < n → base ≤ (adOf a k).block) ∧ ∀ x, a = some x → x.block < w.heap.size := by
  obtain ⟨hl, h⟩ := h
  simp at hl
  rcases h with ⟨rfl, rfl⟩ | ⟨g, cap, cur, rfl, hg, hcell, hnc, hcm, hsz, htk⟩
  · have : zs = [] := List.eq_nil_of_length_eq_zero hl
    subst this
    exact ⟨none, 0, rfl, ⟨rfl, Nat.le_refl _, Nat.zero_le _, fun m k w hk hm => absurd hk (by omega), fun k hk => absurd hk (by omega), fun k hk => absurd hk (by omega), fun _ => rfl⟩, fun k hk => absurd hk (by omega), fun x hx => by cases hx⟩
  · have had : ∀ k, adOf (some ⟨g, 0, none⟩) k = ⟨g, k, none⟩ := fun k => by simp [adOf, add_plain]
    have hlt : g < w.heap.size := (Array.getElem?_eq_some_iff.1 hcell).1
    refine ⟨some ⟨g, 0, none⟩, cap, rfl, ⟨hl, hnc, hcm, fun m k w hk hm => idx_of hu hs (by simp) k w hk, fun k hk => ?_, fun k hk => by rw [had]; exact hlt, by simp⟩, fun k hk => by rw [had]; exact hg, fun x hx => by injection hx with hx; rw [← hx]; exact hlt⟩
    rw [had]
    have hk2 : (cur.toList.take (n * 1))[k]? = some (.int .u64 (zs.getD k 0)) := by
      rw [htk]; simp [List.getD_eq_getElem?_getD, List.getElem?_eq_getElem (show k < zs.length by omega)]
    rw [List.getElem?_take, if_pos (by omega)] at hk2
    simp [World.cell?, hcell]
    simpa using hk2
theorem Tryd.infoSU : (Tryd.prog.info? 60).map (fun i => (i.zero, i.size, i.bytes)) = some (some (.int .u64 0), 1, 8) := by kernel_rfl
theorem ownsRow_emptyI (w : World) (e : TypeId) : (w.alloc (.cells #[] e)).ownsRow w.heap.size e 1 (.slice (some ⟨w.heap.size, 0, none⟩) 0 0) 0 [] :=
  ⟨rfl, Or.inr ⟨w.heap.size, 0, #[], rfl, Nat.le_refl _, (MapKept.heap_alloc w _).1, Nat.le_refl _, Nat.zero_le _, rfl, rfl⟩⟩
end Go.Proofs.YtnedkpbpeolfoaaDoor
namespace Go.Proofs.YtnedkpbpeolfoaaDoor
/-- One more set, no less than all before it. -/
theorem least_next {p : List Nat} {x : Nat} (hx : ∀ y ∈ p, y ≤ x) : leastL (p ++ [x]) = if hoB (leastL p) x then leastL p else leastL p ++ [x] := by
  have hh : hoB (leastL p) x = true ↔ HoP p x := by
    unfold hoB
    rw [decide_eq_true_iff]
    exact leastL_holds p x
  split
  · rename_i h
    obtain ⟨s, hs, hw⟩ := hh.1 h
    refine leastL_ext fun held => ?_
    rw [hoP_append]
    constructor
    · rintro (h1 | ⟨y, hy, h1⟩)
      · exact h1
      · rcases List.mem_singleton.1 hy with rfl
        exact ⟨s, hs, wi_trans hw h1⟩
    · exact Or.inl
  · rename_i h
    have hn : ¬ HoP p x := fun k => h (hh.2 k)
    have hxp : x ∉ p := fun k => hn ⟨x, k, wi_refl x⟩
    symm
    refine leastL_of ⟨?_, fun y => ?_⟩
    · refine List.pairwise_append.2 ⟨(leastL_is p).up, List.pairwise_singleton _ _, fun y hy z hz => ?_⟩
      rcases List.mem_singleton.1 hz with rfl
      have h1 := leastL_sub hy
      have h2 := hx y h1
      have h3 : y ≠ z := fun e => hxp (e ▸ h1)
      omega
    · rw [List.mem_append, (leastL_is p).mem, List.mem_singleton]
      constructor
      · rintro (⟨h1, h2⟩ | rfl)
        · refine ⟨by simp [h1], fun z hz hw => ?_⟩
          rcases List.mem_append.1 hz with hz | hz
          · exact h2 z hz hw
          · rcases List.mem_singleton.1 hz with rfl
            have := wi_le hw
            have := hx y h1
            omega
        · refine ⟨by simp, fun z hz hw => ?_⟩
          rcases List.mem_append.1 hz with hz | hz
          · exact absurd ⟨z, hz, hw⟩ hn
          · exact List.mem_singleton.1 hz
      · rintro ⟨h1, h2⟩
        rcases List.mem_append.1 h1 with h1 | h1
        · exact Or.inl ⟨h1, fun z hz hw => h2 z (by simp [hz]) hw⟩
        · exact Or.inr (List.mem_singleton.1 h1)
theorem least_take {s : List Nat} (hs : s.Pairwise (· ≤ ·)) {k : Nat} (hk : k < s.length) : leastL (s.take (k + 1)) = if hoB (leastL (s.take k)) (s.getD k 0) then leastL (s.take k) else leastL (s.take k) ++ [s.getD k 0] := by
  have e : s.take (k + 1) = s.take k ++ [s.getD k 0] := by
    rw [List.take_add_one, List.getElem?_eq_getElem hk, List.getD_eq_getElem?_getD, List.getElem?_eq_getElem hk]; rfl
  rw [e]
  refine least_next fun y hy => ?_
  obtain ⟨j, hj, rfl⟩ := List.getElem_of_mem hy
  rw [List.length_take] at hj
  rw [List.getElem_take, List.getD_eq_getElem?_getD, List.getElem?_eq_getElem hk]
  exact List.pairwise_iff_getElem.1 hs j k (by omega) hk (by omega)
theorem least_perm {s l : List Nat} (h : s.Perm l) : leastL s = leastL l := leastL_ext fun held => by
  unfold HoP
  constructor
  · rintro ⟨x, hx, hw⟩; exact ⟨x, h.mem_iff.1 hx, hw⟩
  · rintro ⟨x, hx, hw⟩; exact ⟨x, h.mem_iff.2 hx, hw⟩
theorem uni_next {a b : List Nat} {k : Nat} (hk : k < a.length) : uniL (a.take (k + 1)) b = uniL (a.take k) b ++ b.map fun y => a.getD k 0 ||| y := by
  have e : a.take (k + 1) = a.take k ++ [a.getD k 0] := by
    rw [List.take_add_one, List.getElem?_eq_getElem hk, List.getD_eq_getElem?_getD, List.getElem?_eq_getElem hk]; rfl
  rw [e]
  unfold uniL
  rw [List.flatMap_append]
  simp
theorem map_next {b : List Nat} {x j : Nat} (hj : j < b.length) : ((b.take (j + 1)).map fun y => x ||| y) = ((b.take j).map fun y => x ||| y) ++ [x ||| b.getD j 0] := by
  have e : b.take (j + 1) = b.take j ++ [b.getD j 0] := by
    rw [List.take_add_one, List.getElem?_eq_getElem hj, List.getD_eq_getElem?_getD, List.getElem?_eq_getElem hj]; rfl
  rw [e, List.map_append]; rfl
/-- A row of numbers that has just the numbers of l, as numbers of ours. -/
theorem row_back {l : List Nat} {d : List Int} (hp : d.Perm (l.map fun (x : Nat) => (x : Int))) (hu : d.Pairwise (· ≤ ·)) : ∃ s : List Nat, d = (s.map fun (x : Nat) => (x : Int)) ∧ s.Perm l ∧ s.Pairwise (· ≤ ·) := by
  have h0 : ∀ x ∈ d, ((x.toNat : Nat) : Int) = x := fun x hx => by
    obtain ⟨y, _, rfl⟩ := List.mem_map.1 (hp.mem_iff.1 hx)
    simp
  have e : d = ((d.map Int.toNat).map fun (x : Nat) => (x : Int)) := by
    rw [List.map_map]
    conv => lhs; rw [← List.map_id d]
    refine List.map_congr_left fun x hx => ?_
    exact (h0 x hx).symm
  refine ⟨d.map Int.toNat, e, ?_, ?_⟩
  · have := hp.map Int.toNat
    rw [List.map_map] at this
    simpa [Function.comp_def] using this
  · rw [List.pairwise_map]
    exact hu.imp fun h => by omega
end Go.Proofs.YtnedkpbpeolfoaaDoor
namespace Go.Proofs.YtnedkpbpeolfoaaDoor
open Go.RowKit Go.Maps
abbrev lt64 : Int → Int → Bool := Go.Sort.ltInt
theorem swo64 : Go.Sort.SWO lt64 := ⟨fun x => by simp [lt64, Go.Sort.ltInt], fun x y z => by simp [lt64, Go.Sort.ltInt]; omega, fun x y z => by simp [lt64, Go.Sort.ltInt]; omega⟩
/-- Block g: the numbers of d, then t. -/
def SoAt (w : World) (g : Nat) (d : Array Int) (t : List Int) : Prop := w.heap[g]? = some (.cells ((d.toList ++ t).map (Value.int .u64)).toArray 60 (0, 0))
theorem SoAt.lt {w : World} {g : Nat} {d : Array Int} {t : List Int} (h : SoAt w g d t) : g < w.heap.size := (Array.getElem?_eq_some_iff.1 h).1
theorem SoAt.cell {w : World} {g : Nat} {d : Array Int} {t : List Int} (h : SoAt w g d t) {i : Nat} (hi : i < d.size) : w.cell? ⟨g, i, none⟩ = some (.int .u64 d[i]!) := by
  rw [cell_row h]
  simp [List.getElem?_append_left, hi]
theorem SoAt.fz {w : World} {g : Nat} {d : Array Int} {t : List Int} (h : SoAt w g d t) (i : Nat) : w.frozen? ⟨g, i, none⟩ = false := frozen_of_row w g i _ _ h
theorem SoAt.set {w : World} {g : Nat} {d : Array Int} {t : List Int} (h : SoAt w g d t) {i : Nat} (hi : i < d.size) (x : Int) : SoAt (w.setCell ⟨g, i, none⟩ (.int .u64 x)) g (d.setIfInBounds i x) t := by
  unfold SoAt
  rw [heap_setCell_same w g i _ _ (.int .u64 x) h]
  refine congrArg some (congrArg (fun c => Obj.cells c 60 (0, 0)) (Array.toList_inj.1 ?_))
  simp only [Array.toList_setIfInBounds, List.map_append, List.map_set]
  rw [List.set_append_left _ _ (by simpa using hi)]
theorem SoAt.swap {w : World} {g : Nat} {d : Array Int} {t : List Int} (h : SoAt w g d t) {i j : Nat} (hi : i < d.size) (hj : j < d.size) : SoAt ((w.setCell ⟨g, i, none⟩ (.int .u64 d[j]!)).setCell ⟨g, j, none⟩ (.int .u64 d[i]!)) g (Go.Sort.swp d i j) t :=
  (h.set hi d[j]!).set (by simpa using hj) d[i]!
theorem Tryd.sizeSo : (Tryd.prog.info? 60).map (·.size) = some 1 := by kernel_rfl
theorem Tryd.idxSo (g n c k : Nat) (w : World) (hk : k < n) : (Instr.indexAt 22 (.slice (some ⟨g, 0, none⟩) n c) (.int .i64 (k : Int))).run Tryd.prog w = .ok (.pointer (some ⟨g, k, none⟩)) w := by
  have := idx_of (P := Tryd.prog) (T := 22) (e := 60) Tryd.underlying22 Tryd.sizeSo (a := some ⟨g, 0, none⟩) (cap := c) (n := n) (by simp) k w hk
  simpa [adOf, add_plain] using this
theorem grown_set {w w' : World} {g i : Nat} (h : w.grownBy w' (some g)) (v : Value) : w.grownBy (w'.setCell ⟨g, i, none⟩ v) (some g) :=
  ⟨h.os, h.tape, h.output, by have := h.size; simpa using this, fun k hk hne => (Below.heap_setCell _ _ _ _ (fun e => hne (by rw [e]))).trans (h.block k hk hne)⟩
theorem grown_drewN {w w' : World} {row : Option Nat} (h : w.grownBy w' row) (n : Nat) : w.grownBy (w'.drewN n) row := by
  have hb := below_drewN (Below.refl w'.heap.size w') n
  exact ⟨hb.os.trans h.os, hb.tape.trans h.tape, hb.output.trans h.output, Nat.le_trans h.size hb.size, fun k hk hne => (hb.block k (Nat.lt_of_lt_of_le hk h.size)).trans (h.block k hk hne)⟩
theorem SoAt.drewN {w : World} {g : Nat} {d : Array Int} {t : List Int} (h : SoAt w g d t) (n : Nat) : SoAt (w.drewN n) g d t := (below_drewN (Below.refl w.heap.size w) n).block g h.lt |>.trans h
theorem SoAt.drew {w : World} {g : Nat} {d : Array Int} {t : List Int} (h : SoAt w g d t) : SoAt w.drew g d t := h
theorem grown_drew {w w' : World} {row : Option Nat} (h : w.grownBy w' row) : w.grownBy w'.drew row := ⟨h.os, h.tape, h.output, h.size, h.block⟩
set_option maxRecDepth 100000 in
theorem Tryd.nan_any (x : Int) (w : World) : Calls Tryd.prog 100 #[.int .u64 x] w fun e w' => e = .returned (.bool false) ∧ w' = w := by
  go_enter Tryd.func100, Tryd.ntmps100
  go_wp2
  go_ret
  exact ⟨by simp, rfl⟩
set_option maxRecDepth 100000 in
theorem Tryd.less_any (x y : Int) (w : World) : Calls Tryd.prog 90 #[.int .u64 x, .int .u64 y] w fun e w' => e = .returned (.bool (lt64 x y)) ∧ w' = w := by
  have h1 := Tryd.nan_any x w
  go_enter Tryd.func90, Tryd.ntmps90
  go_wp2_with fail
  refine h1.mono ?_
  rintro e w1 ⟨rfl, hw1⟩
  obtain rfl := hw1.symm
  go_wp2
  go_ret
  exact ⟨rfl, rfl⟩
theorem ins_stop {a j : Nat} {d : Array Int} (h : ¬ a < j) : Go.Sort.insInner lt64 a j d = d := by
  cases j with
  | zero => rfl
  | succ j =>
    unfold Go.Sort.insInner
    rw [if_neg]
    simp; intro h2; omega
theorem ins_no {a j : Nat} {d : Array Int} (hl : lt64 d[j + 1]! d[j]! = false) : Go.Sort.insInner lt64 a (j + 1) d = d := by
  unfold Go.Sort.insInner
  rw [if_neg]
  rw [hl]; simp
theorem ins_yes {a j : Nat} {d : Array Int} (h : a < j + 1) (hl : lt64 d[j + 1]! d[j]! = true) : Go.Sort.insInner lt64 a (j + 1) d = Go.Sort.insInner lt64 a j (Go.Sort.swp d (j + 1) j) := by
  conv => lhs; unfold Go.Sort.insInner
  rw [if_pos]
  rw [hl]; simp; omega
theorem ins_out {a b k : Nat} {d : Array Int} (h : k < b) : Go.Sort.insOuter lt64 a b k d = Go.Sort.insOuter lt64 a b (k + 1) (Go.Sort.insInner lt64 a k d) := by
  conv => lhs; unfold Go.Sort.insOuter
  rw [if_pos h]
theorem ins_end {a b k : Nat} {d : Array Int} (h : ¬ k < b) : Go.Sort.insOuter lt64 a b k d = d := by
  unfold Go.Sort.insOuter
  rw [if_neg h]
/-- What a call on a row leaves. -/
def SoP (w : World) (g : Nat) (t : List Int) (d' : Array Int) (e : Ending) (w' : World) : Prop := e = .returned (.tuple #[]) ∧ SoAt w' g d' t ∧ w.grownBy w' (some g)
set_option maxRecDepth 100000 in
set_option maxHeartbeats 4000000 in
theorem Tryd.insSort_any (g c a b : Nat) (d : Array Int) (t : List Int) (w : World) (h : SoAt w g d t) (hab : a ≤ b) (hb : b ≤ d.size) (hn : d.size ≤ 1000000) :
    Calls Tryd.prog 84 #[.slice (some ⟨g, 0, none⟩) d.size c, .int .i64 (a : Int), .int .i64 (b : Int)] w (SoP w g t (Go.Sort.insertionSort lt64 d a b)) := by
  obtain ⟨N, hN⟩ : ∃ N, d.size = N := ⟨_, rfl⟩
  obtain ⟨R, hR⟩ : ∃ R, Go.Sort.insertionSort lt64 d a b = R := ⟨_, rfl⟩
  have HI0 : Hid (Go.Sort.insOuter lt64 a b (a + 1) d = R) := hR
  have HS0 : Hid (SoAt w g d t) := h
  have HD0 : Hid (d.size = N) := hN
  rw [hN] at hb hn ⊢
  rw [hR]
  clear h hN hR
  go_enter Tryd.func84, Tryd.ntmps84
  go_wp2
  go_loopw [6] (fun iv wr => ∃ k : Nat, a + 1 ≤ k ∧ k ≤ N + 1 ∧ iv = .int .i64 (k : Int) ∧ ∃ dk : Array Int, Hid (dk.size = N) ∧ Hid (SoAt wr g dk t) ∧ Hid (Go.Sort.insOuter lt64 a b k dk = R) ∧ Hid (w.grownBy wr (some g))) (fun iv _ => N + 1 - (intOf iv).toNat)
  case atStart => exact ⟨a + 1, Nat.le_refl _, by omega, by go_num, d, HD0, HS0, HI0, World.grownBy.refl _ _⟩
  case round =>
    obtain ⟨k, hak, hkN, rfl, dk, HD, HS, HI, HG⟩ := hrel
    clear HD0 HS0 HI0
    by_cases hkb : k < b
    · have HJ0 : Hid (Go.Sort.insOuter lt64 a b (k + 1) (Go.Sort.insInner lt64 a k dk) = R) := (ins_out hkb).symm.trans HI.out
      clear HI
      go_wp2
      go_loopw [7] (fun jv wr => ∃ j : Nat, j ≤ k ∧ jv = .int .i64 (j : Int) ∧ ∃ dj : Array Int, Hid (dj.size = N) ∧ Hid (SoAt wr g dj t) ∧ Hid (Go.Sort.insOuter lt64 a b (k + 1) (Go.Sort.insInner lt64 a j dj) = R) ∧ Hid (w.grownBy wr (some g))) (fun jv _ => (intOf jv).toNat)
      case atStart => exact ⟨k, Nat.le_refl _, rfl, dk, HD, HS, HJ0, HG⟩
      case round =>
        obtain ⟨j, hjk, rfl, dj, HD2, HS2, HJ, HG2⟩ := hrel
        clear HD HS HJ0 HG
        by_cases haj : a < j
        · obtain ⟨m, hm⟩ : ∃ m, j = m + 1 := ⟨j - 1, by omega⟩
          have hd1 : decide ((a : Int) < (j : Int)) = true := decide_eq_true (by omega)
          have hi1 := fun w' => Tryd.idxSo g N c j w' (by omega)
          have hi2 := fun w' => Tryd.idxSo g N c m w' (by omega)
          have c1 := HS2.out.cell (i := j) (by rw [HD2.out]; omega)
          have c2 := HS2.out.cell (i := m) (by rw [HD2.out]; omega)
          have hsub : IntKind.i64.wrap ((j : Int) - 1) = (m : Int) := by rw [IntKind.wrap_i64]; omega
          have hless := fun w' => Tryd.less_any dj[j]! dj[m]! w'
          cases hl : lt64 dj[j]! dj[m]! with
          | false =>
            rw [hl] at hless
            have HK : Hid (Go.Sort.insOuter lt64 a b (k + 1) dj = R) := by
              have := HJ.out
              rw [hm] at this hl
              rw [ins_no hl] at this
              exact this
            clear hl HJ hm
            go_upto_region 15 with fail
            go_quiet ((go_at_call 90; exact Calls.quiet_of_same (hless _)))
            have HS3 : Hid _ := HS2.out.drewN nq
            have HG3 : Hid _ := grown_drewN HG2.out nq
            clear HS2 HG2 hless c1 c2
            generalize wr.drewN nq = w3 at *
            go_wp2
            go_roundw
            case rel => exact ⟨k + 1, by omega, by omega, by go_num, dj, HD2, HS3, HK, HG3⟩
            case measure => simp [intOf] <;> omega
          | true =>
            rw [hl] at hless
            have HK : Hid (Go.Sort.insOuter lt64 a b (k + 1) (Go.Sort.insInner lt64 a m (Go.Sort.swp dj j m)) = R) := by
              have := HJ.out
              rw [hm] at this hl ⊢
              rw [ins_yes (by omega) hl] at this
              exact this
            have HM : Hid (j = m + 1) := hm
            have hmj : m < j := by omega
            clear hl HJ hm
            go_upto_region 15 with fail
            go_quiet ((go_at_call 90; exact Calls.quiet_of_same (hless _)))
            have hs3 := HS2.out.drewN nq
            have c3 := hs3.cell (i := j) (by rw [HD2.out]; omega)
            have c4 := hs3.cell (i := m) (by rw [HD2.out]; omega)
            have f3 := hs3.fz j
            have f4 := hs3.fz m
            have HS3 : Hid (SoAt (((wr.drewN nq).setCell ⟨g, j, none⟩ (.int .u64 dj[m]!)).setCell ⟨g, m, none⟩ (.int .u64 dj[j]!)) g (Go.Sort.swp dj j m) t) := hs3.swap (by rw [HD2.out]; omega) (by rw [HD2.out]; omega)
            have HG3 : Hid (w.grownBy (((wr.drewN nq).setCell ⟨g, j, none⟩ (.int .u64 dj[m]!)).setCell ⟨g, m, none⟩ (.int .u64 dj[j]!)) (some g)) := grown_set (grown_set (grown_drewN HG2.out nq) _) _
            have HD3 : Hid ((Go.Sort.swp dj j m).size = N) := by show _ = _; rw [Go.Sort.size_swp]; exact HD2.out
            clear HS2 HG2 hless c1 c2 hs3 HD2
            generalize dj[j]! = xj at *
            generalize dj[m]! = xm at *
            generalize Go.Sort.swp dj j m = dn at *
            generalize wr.drewN nq = w3 at *
            go_upto_region 15 with fail
            go_region
            all_goals
              have HS4 : Hid _ := HS3.out.drew
              have HG4 : Hid _ := grown_drew HG3.out
              clear HS3 HG3 c3 c4 f3 f4
              generalize ((w3.setCell ⟨g, j, none⟩ (.int .u64 xm)).setCell ⟨g, m, none⟩ (.int .u64 xj)).drew = w4 at *
              go_wp2
              go_roundw
              case rel => exact ⟨m, by omega, rfl, dn, HD3, HS4, HK, HG4⟩
              case measure => simp [intOf]; omega
        · have HK : Hid (Go.Sort.insOuter lt64 a b (k + 1) dj = R) := by
            have := HJ.out
            rw [ins_stop haj] at this
            exact this
          have hd1 : decide ((a : Int) < (j : Int)) = false := decide_eq_false (by omega)
          clear HJ
          go_upto_region 15 with fail
          go_quiet (fail)
          have HS3 : Hid _ := HS2.out.drewN nq
          have HG3 : Hid _ := grown_drewN HG2.out nq
          clear HS2 HG2
          generalize wr.drewN nq = w3 at *
          go_wp2
          go_roundw
          case rel => exact ⟨k + 1, by omega, by omega, by go_num, dj, HD2, HS3, HK, HG3⟩
          case measure => simp [intOf] <;> omega
    · have HR : Hid (dk = R) := (ins_end hkb).symm.trans HI.out
      clear HI
      go_wp2
      go_end0
      obtain rfl := HR.out
      exact ⟨rfl, HS.out, HG.out⟩
end Go.Proofs.YtnedkpbpeolfoaaDoor
namespace Go.Proofs.YtnedkpbpeolfoaaDoor
open Go.RowKit Go.Maps
theorem sift_end {hi first r : Nat} {d : Array Int} (h : hi ≤ 2 * r + 1) : Go.Sort.siftDown lt64 hi first r d = d := by
  unfold Go.Sort.siftDown
  rw [dif_pos h]
/-- Which child is the greater. -/
def sChild (hi first r : Nat) (d : Array Int) : Nat := if 2 * r + 1 + 1 < hi && lt64 d[first + (2 * r + 1)]! d[first + (2 * r + 1) + 1]! then 2 * r + 2 else 2 * r + 1
theorem sift_no {hi first r : Nat} {d : Array Int} (h : 2 * r + 1 < hi) (hl : lt64 d[first + r]! d[first + sChild hi first r d]! = false) : Go.Sort.siftDown lt64 hi first r d = d := by
  unfold Go.Sort.siftDown
  rw [dif_neg (by omega)]
  unfold sChild at hl
  split at hl
  · rename_i hc
    rw [if_pos hc, hl]; rfl
  · rename_i hc
    rw [if_neg hc, hl]; rfl
theorem sift_yes {hi first r : Nat} {d : Array Int} (h : 2 * r + 1 < hi) (hl : lt64 d[first + r]! d[first + sChild hi first r d]! = true) : Go.Sort.siftDown lt64 hi first r d = Go.Sort.siftDown lt64 hi first (sChild hi first r d) (Go.Sort.swp d (first + r) (first + sChild hi first r d)) := by
  conv => lhs; unfold Go.Sort.siftDown
  rw [dif_neg (by omega)]
  unfold sChild at hl ⊢
  split at hl
  · rename_i hc
    have h2 : 2 * r + 2 < hi := by simp at hc; omega
    rw [if_pos hc, hl, if_pos hc]
    simp only [Bool.not_true, Bool.false_eq_true, if_false]
    rw [dif_pos h2]
  · rename_i hc
    rw [if_neg hc, hl, if_neg hc]
    simp only [Bool.not_true, Bool.false_eq_true, if_false]
theorem sChild_lt {hi first r : Nat} {d : Array Int} (h : 2 * r + 1 < hi) : r < sChild hi first r d ∧ sChild hi first r d < hi := by
  unfold sChild
  split
  · rename_i hc; simp at hc; omega
  · omega
set_option maxRecDepth 100000 in
set_option maxHeartbeats 4000000 in
theorem Tryd.revRange_any (g c a b : Nat) (d : Array Int) (t : List Int) (w : World) (h : SoAt w g d t) (hab : a ≤ b) (hb : b ≤ d.size) (hn : d.size ≤ 1000000) :
    Calls Tryd.prog 88 #[.slice (some ⟨g, 0, none⟩) d.size c, .int .i64 (a : Int), .int .i64 (b : Int)] w (SoP w g t (Go.Sort.reverseRange d a b)) := by
  obtain ⟨N, hN⟩ : ∃ N, d.size = N := ⟨_, rfl⟩
  obtain ⟨R, hR⟩ : ∃ R, Go.Sort.reverseRange d a b = R := ⟨_, rfl⟩
  have HI0 : Hid (Go.Sort.reverseLoop a (b - 1) d = R) := hR
  have HS0 : Hid (SoAt w g d t) := h
  have HD0 : Hid (d.size = N) := hN
  rw [hN] at hb hn ⊢
  rw [hR]
  clear h hN hR
  go_enter Tryd.func88, Tryd.ntmps88
  go_wp2
  go_loopw [6, 7] (fun iv jv wr => ∃ (i : Nat) (j : Int), i ≤ N ∧ -1 ≤ j ∧ j < N ∧ iv = .int .i64 (i : Int) ∧ jv = .int .i64 j ∧ ∃ dk : Array Int, Hid (dk.size = N) ∧ Hid (SoAt wr g dk t) ∧ Hid (Go.Sort.reverseLoop i j.toNat dk = R) ∧ Hid (w.grownBy wr (some g))) (fun iv jv _ => (intOf jv + 1 - intOf iv).toNat)
  case atStart => exact ⟨a, (b : Int) - 1, by omega, by omega, by omega, rfl, by go_num, d, HD0, HS0, by show _ = _; rw [show ((b : Int) - 1).toNat = b - 1 by omega]; exact HI0.out, World.grownBy.refl _ _⟩
  case round =>
    obtain ⟨i, j, hiN, hj1, hj2, rfl, rfl, dk, HD, HS, HI, HG⟩ := hrel
    clear HD0 HS0 HI0
    by_cases hij : (i : Int) < j
    · obtain ⟨m, rfl⟩ := Int.eq_ofNat_of_zero_le (show 0 ≤ j by omega)
      have HK : Hid (Go.Sort.reverseLoop (i + 1) ((m : Int) - 1).toNat (Go.Sort.swp dk i m) = R) := by
        have := HI.out
        unfold Go.Sort.reverseLoop at this
        rw [Int.toNat_natCast, if_pos (by omega)] at this
        show _ = _
        rw [show ((m : Int) - 1).toNat = m - 1 by omega]
        exact this
      have hi1 := fun w' => Tryd.idxSo g N c i w' (by omega)
      have hi2 := fun w' => Tryd.idxSo g N c m w' (by omega)
      have hs3 := HS.out
      have c3 := hs3.cell (i := i) (by rw [HD.out]; omega)
      have c4 := hs3.cell (i := m) (by rw [HD.out]; omega)
      have f3 := hs3.fz i
      have f4 := hs3.fz m
      have HS3 : Hid (SoAt ((wr.setCell ⟨g, i, none⟩ (.int .u64 dk[m]!)).setCell ⟨g, m, none⟩ (.int .u64 dk[i]!)) g (Go.Sort.swp dk i m) t) := hs3.swap (by rw [HD.out]; omega) (by rw [HD.out]; omega)
      have HG3 : Hid (w.grownBy ((wr.setCell ⟨g, i, none⟩ (.int .u64 dk[m]!)).setCell ⟨g, m, none⟩ (.int .u64 dk[i]!)) (some g)) := grown_set (grown_set HG.out _) _
      have HD3 : Hid ((Go.Sort.swp dk i m).size = N) := by show _ = _; rw [Go.Sort.size_swp]; exact HD.out
      have hdec : IntKind.i64.wrap ((m : Int) - 1) = (m : Int) - 1 := by rw [IntKind.wrap_i64]; omega
      clear HS HG hs3 HD HI
      generalize dk[i]! = xi at *
      generalize dk[m]! = xm at *
      generalize Go.Sort.swp dk i m = dn at *
      go_wp2
      go_upto_region 15 with fail
      go_region
      all_goals
        have HS4 : Hid _ := HS3.out.drew
        have HG4 : Hid _ := grown_drew HG3.out
        clear HS3 HG3 c3 c4 f3 f4
        generalize ((wr.setCell ⟨g, i, none⟩ (.int .u64 xm)).setCell ⟨g, m, none⟩ (.int .u64 xi)).drew = w4 at *
        go_wp2
        go_roundw
        case rel => exact ⟨i + 1, (m : Int) - 1, by omega, by omega, by omega, by go_num, rfl, dn, HD3, HS4, HK, HG4⟩
        case measure => simp [intOf]; omega
    · have HR : Hid (dk = R) := by
        have := HI.out
        unfold Go.Sort.reverseLoop at this
        rw [if_neg (by omega)] at this
        exact this
      clear HI
      go_wp2
      go_end0
      obtain rfl := HR.out
      exact ⟨rfl, HS.out, HG.out⟩
set_option maxRecDepth 100000 in
set_option maxHeartbeats 8000000 in
theorem Tryd.sift_any (g c lo hi first : Nat) (d : Array Int) (t : List Int) (w : World) (h : SoAt w g d t) (hlo : lo ≤ d.size) (hb : first + hi ≤ d.size) (hn : d.size ≤ 1000000) :
    Calls Tryd.prog 95 #[.slice (some ⟨g, 0, none⟩) d.size c, .int .i64 (lo : Int), .int .i64 (hi : Int), .int .i64 (first : Int)] w (SoP w g t (Go.Sort.siftDown lt64 hi first lo d)) := by
  obtain ⟨N, hN⟩ : ∃ N, d.size = N := ⟨_, rfl⟩
  obtain ⟨R, hR⟩ : ∃ R, Go.Sort.siftDown lt64 hi first lo d = R := ⟨_, rfl⟩
  have HI0 : Hid (Go.Sort.siftDown lt64 hi first lo d = R) := hR
  have HS0 : Hid (SoAt w g d t) := h
  have HD0 : Hid (d.size = N) := hN
  rw [hN] at hb hn hlo ⊢
  rw [hR]
  clear h hN hR
  go_enter Tryd.func95, Tryd.ntmps95
  go_wp2
  go_loopw [8] (fun iv wr => ∃ r : Nat, r ≤ N ∧ iv = .int .i64 (r : Int) ∧ ∃ dk : Array Int, Hid (dk.size = N) ∧ Hid (SoAt wr g dk t) ∧ Hid (Go.Sort.siftDown lt64 hi first r dk = R) ∧ Hid (w.grownBy wr (some g))) (fun iv _ => N - (intOf iv).toNat)
  case atStart => exact ⟨lo, hlo, rfl, d, HD0, HS0, HI0, World.grownBy.refl _ _⟩
  case round =>
    obtain ⟨r, hrN, rfl, dk, HD, HS, HI, HG⟩ := hrel
    clear HD0 HS0 HI0
    obtain ⟨E, hE⟩ : ∃ E, E = 2 * r := ⟨_, rfl⟩
    obtain ⟨C, hC⟩ : ∃ C, C = 2 * r + 1 := ⟨_, rfl⟩
    have wE : IntKind.i64.wrap (2 * (r : Int)) = (E : Int) := by rw [IntKind.wrap_i64]; omega
    have wC : IntKind.i64.wrap ((E : Int) + 1) = (C : Int) := by rw [IntKind.wrap_i64]; omega
    have HC : Hid (C = 2 * r + 1) := hC
    have hC2 : C ≤ 2000001 := by omega
    clear hE
    by_cases hge : hi ≤ C
    · have HR : Hid (dk = R) := (sift_end (by omega)).symm.trans HI.out
      have hge' : (hi : Int) ≤ (C : Int) := by omega
      clear HI hC
      go_wp2
      refine bodyPost_ret (results_none rfl _ _ _) rfl ?_
      obtain rfl := HR.out
      exact ⟨rfl, HS.out, HG.out⟩
    · have hge' : ¬ (hi : Int) ≤ (C : Int) := by omega
      obtain ⟨C1, hC1⟩ : ∃ C1, C1 = C + 1 := ⟨_, rfl⟩
      have wC1 : IntKind.i64.wrap ((C : Int) + 1) = (C1 : Int) := by rw [IntKind.wrap_i64]; omega
      have HC1 : Hid (C1 = C + 1) := hC1
      by_cases hc1 : C1 < hi
      · have hd1 : decide ((C1 : Int) < (hi : Int)) = true := decide_eq_true (by omega)
        obtain ⟨P, hP⟩ : ∃ P, P = first + C := ⟨_, rfl⟩
        obtain ⟨P1, hP1⟩ : ∃ P1, P1 = first + C + 1 := ⟨_, rfl⟩
        have wP : IntKind.i64.wrap ((first : Int) + (C : Int)) = (P : Int) := by rw [IntKind.wrap_i64]; omega
        have wP1 : IntKind.i64.wrap ((P : Int) + 1) = (P1 : Int) := by rw [IntKind.wrap_i64]; omega
        have hi1 := fun w' => Tryd.idxSo g N c P w' (by omega)
        have hi2 := fun w' => Tryd.idxSo g N c P1 w' (by omega)
        have q1 := HS.out.cell (i := P) (by rw [HD.out]; omega)
        have q2 := HS.out.cell (i := P1) (by rw [HD.out]; omega)
        have hless := fun w' => Tryd.less_any dk[P]! dk[P1]! w'
        have HP : Hid (P = first + C ∧ P1 = first + C + 1) := ⟨hP, hP1⟩
        cases hl : lt64 dk[P]! dk[P1]! with
        | false =>
          rw [hl] at hless
          have HCH : Hid (sChild hi first r dk = C) := by
            show _ = _
            unfold sChild
            rw [← hC, ← hP, show P + 1 = P1 by omega, hl]
            simp
          clear hl hC hC1 hP hP1
          go_wp2
          go_upto_region 15 with fail
          go_quiet ((go_at_call 90; exact Calls.quiet_of_same (hless _)))
          have HSX : Hid (SoAt (wr.drewN nq) g dk t) := SoAt.drewN HS.out nq
          have HGX : Hid _ := grown_drewN HG.out nq
          clear HS HG hless q1 q2
          generalize wr.drewN nq = wX at *
          have hch : sChild hi first r dk = C := HCH.out
          have HLT : Hid (r < C ∧ C < hi) := by have := sChild_lt (first := first) (d := dk) (show 2 * r + 1 < hi by have := HC.out; omega); rw [hch] at this; exact this
          have hrc := HLT.out
          obtain ⟨S, hS⟩ : ∃ S, S = first + r := ⟨_, rfl⟩
          obtain ⟨Q, hQ⟩ : ∃ Q, Q = first + C := ⟨_, rfl⟩
          have wS : IntKind.i64.wrap ((first : Int) + (r : Int)) = (S : Int) := by rw [IntKind.wrap_i64]; omega
          have wQ : IntKind.i64.wrap ((first : Int) + (C : Int)) = (Q : Int) := by rw [IntKind.wrap_i64]; omega
          have hSN : S < N := by omega
          have hQN : Q < N := by omega
          have eS : (first : Int) + (r : Int) = (S : Int) := by omega
          have eQ : (first : Int) + (C : Int) = (Q : Int) := by omega
          have jS := fun w' => Tryd.idxSo g N c S w' (by omega)
          have jQ := fun w' => Tryd.idxSo g N c Q w' (by omega)
          have hs3 : SoAt wX g dk t := HSX.out
          have k3 := hs3.cell (i := S) (by rw [HD.out]; omega)
          have k4 := hs3.cell (i := Q) (by rw [HD.out]; omega)
          have hless2 := fun w' => Tryd.less_any dk[S]! dk[Q]! w'
          cases hl2 : lt64 dk[S]! dk[Q]! with
          | false =>
            rw [hl2] at hless2
            have HR : Hid (dk = R) := by
              have h0 := sift_no (hi := hi) (first := first) (r := r) (d := dk) (by have := HC.out; omega) (by rw [hch, ← hS, ← hQ]; exact hl2)
              exact h0.symm.trans HI.out
            clear hl2 hch hS hQ HI hs3
            go_upto_region 15 with fail
            go_quiet ((go_at_call 90; exact Calls.quiet_of_same (hless2 _)))
            have HS5 : Hid (SoAt (wX.drewN nq) g dk t) := SoAt.drewN HSX.out nq
            have HG5 : Hid _ := grown_drewN HGX.out nq
            clear HSX HGX hless2 k3 k4
            generalize wX.drewN nq = w5 at *
            go_wp2
            refine bodyPost_ret (results_none rfl _ _ _) rfl ?_
            obtain rfl := HR.out
            exact ⟨rfl, HS5.out, HG5.out⟩
          | true =>
            rw [hl2] at hless2
            have HK : Hid (Go.Sort.siftDown lt64 hi first C (Go.Sort.swp dk S Q) = R) := by
              have h0 := sift_yes (hi := hi) (first := first) (r := r) (d := dk) (by have := HC.out; omega) (by rw [hch, ← hS, ← hQ]; exact hl2)
              rw [hch, ← hS, ← hQ] at h0
              exact h0.symm.trans HI.out
            clear hl2 hch hS hQ HI hs3
            go_upto_region 15 with fail
            go_quiet ((go_at_call 90; exact Calls.quiet_of_same (hless2 _)))
            have hs5 : SoAt (wX.drewN nq) g dk t := SoAt.drewN HSX.out nq
            have c3 := hs5.cell (i := S) (by rw [HD.out]; omega)
            have c4 := hs5.cell (i := Q) (by rw [HD.out]; omega)
            have f3 := hs5.fz S
            have f4 := hs5.fz Q
            have HS5 : Hid (SoAt (((wX.drewN nq).setCell ⟨g, S, none⟩ (.int .u64 dk[Q]!)).setCell ⟨g, Q, none⟩ (.int .u64 dk[S]!)) g (Go.Sort.swp dk S Q) t) := hs5.swap (by rw [HD.out]; omega) (by rw [HD.out]; omega)
            have HG5 : Hid (w.grownBy (((wX.drewN nq).setCell ⟨g, S, none⟩ (.int .u64 dk[Q]!)).setCell ⟨g, Q, none⟩ (.int .u64 dk[S]!)) (some g)) := grown_set (grown_set (grown_drewN HGX.out nq) _) _
            have HD5 : Hid ((Go.Sort.swp dk S Q).size = N) := by show _ = _; rw [Go.Sort.size_swp]; exact HD.out
            clear HSX HGX hless2 k3 k4 hs5 HD
            generalize dk[S]! = xS at *
            generalize dk[Q]! = xQ at *
            generalize Go.Sort.swp dk S Q = dn at *
            generalize wX.drewN nq = w5 at *
            go_wp2
            go_upto_region 15 with fail
            go_region
            all_goals
              have HS6 : Hid _ := HS5.out.drew
              have HG6 : Hid _ := grown_drew HG5.out
              clear HS5 HG5 c3 c4 f3 f4
              generalize ((w5.setCell ⟨g, S, none⟩ (.int .u64 xQ)).setCell ⟨g, Q, none⟩ (.int .u64 xS)).drew = w6 at *
              go_wp2
              go_roundw
              case rel => exact ⟨C, by omega, rfl, dn, HD5, HS6, HK, HG6⟩
              case measure => simp [intOf]; omega
        | true =>
          rw [hl] at hless
          have HCH : Hid (sChild hi first r dk = C1) := by
            show _ = _
            unfold sChild
            rw [← hC, ← hP, show P + 1 = P1 by omega, hl, if_pos (by simp; omega)]
            omega
          clear hl hC hC1 hP hP1
          go_wp2
          go_upto_region 15 with fail
          go_quiet ((go_at_call 90; exact Calls.quiet_of_same (hless _)))
          have HSX : Hid (SoAt (wr.drewN nq) g dk t) := SoAt.drewN HS.out nq
          have HGX : Hid _ := grown_drewN HG.out nq
          clear HS HG hless q1 q2
          generalize wr.drewN nq = wX at *
          go_wp2
          have hch : sChild hi first r dk = C1 := HCH.out
          have HLT : Hid (r < C1 ∧ C1 < hi) := by have := sChild_lt (first := first) (d := dk) (show 2 * r + 1 < hi by have := HC.out; omega); rw [hch] at this; exact this
          have hrc := HLT.out
          obtain ⟨S, hS⟩ : ∃ S, S = first + r := ⟨_, rfl⟩
          obtain ⟨Q, hQ⟩ : ∃ Q, Q = first + C1 := ⟨_, rfl⟩
          have wS : IntKind.i64.wrap ((first : Int) + (r : Int)) = (S : Int) := by rw [IntKind.wrap_i64]; omega
          have wQ : IntKind.i64.wrap ((first : Int) + (C1 : Int)) = (Q : Int) := by rw [IntKind.wrap_i64]; omega
          have hSN : S < N := by omega
          have hQN : Q < N := by omega
          have eS : (first : Int) + (r : Int) = (S : Int) := by omega
          have eQ : (first : Int) + (C1 : Int) = (Q : Int) := by omega
          have jS := fun w' => Tryd.idxSo g N c S w' (by omega)
          have jQ := fun w' => Tryd.idxSo g N c Q w' (by omega)
          have hs3 : SoAt wX g dk t := HSX.out
          have k3 := hs3.cell (i := S) (by rw [HD.out]; omega)
          have k4 := hs3.cell (i := Q) (by rw [HD.out]; omega)
          have hless2 := fun w' => Tryd.less_any dk[S]! dk[Q]! w'
          cases hl2 : lt64 dk[S]! dk[Q]! with
          | false =>
            rw [hl2] at hless2
            have HR : Hid (dk = R) := by
              have h0 := sift_no (hi := hi) (first := first) (r := r) (d := dk) (by have := HC.out; omega) (by rw [hch, ← hS, ← hQ]; exact hl2)
              exact h0.symm.trans HI.out
            clear hl2 hch hS hQ HI hs3
            go_upto_region 15 with fail
            go_quiet ((go_at_call 90; exact Calls.quiet_of_same (hless2 _)))
            have HS5 : Hid (SoAt (wX.drewN nq) g dk t) := SoAt.drewN HSX.out nq
            have HG5 : Hid _ := grown_drewN HGX.out nq
            clear HSX HGX hless2 k3 k4
            generalize wX.drewN nq = w5 at *
            go_wp2
            refine bodyPost_ret (results_none rfl _ _ _) rfl ?_
            obtain rfl := HR.out
            exact ⟨rfl, HS5.out, HG5.out⟩
          | true =>
            rw [hl2] at hless2
            have HK : Hid (Go.Sort.siftDown lt64 hi first C1 (Go.Sort.swp dk S Q) = R) := by
              have h0 := sift_yes (hi := hi) (first := first) (r := r) (d := dk) (by have := HC.out; omega) (by rw [hch, ← hS, ← hQ]; exact hl2)
              rw [hch, ← hS, ← hQ] at h0
              exact h0.symm.trans HI.out
            clear hl2 hch hS hQ HI hs3
            go_upto_region 15 with fail
            go_quiet ((go_at_call 90; exact Calls.quiet_of_same (hless2 _)))
            have hs5 : SoAt (wX.drewN nq) g dk t := SoAt.drewN HSX.out nq
            have c3 := hs5.cell (i := S) (by rw [HD.out]; omega)
            have c4 := hs5.cell (i := Q) (by rw [HD.out]; omega)
            have f3 := hs5.fz S
            have f4 := hs5.fz Q
            have HS5 : Hid (SoAt (((wX.drewN nq).setCell ⟨g, S, none⟩ (.int .u64 dk[Q]!)).setCell ⟨g, Q, none⟩ (.int .u64 dk[S]!)) g (Go.Sort.swp dk S Q) t) := hs5.swap (by rw [HD.out]; omega) (by rw [HD.out]; omega)
            have HG5 : Hid (w.grownBy (((wX.drewN nq).setCell ⟨g, S, none⟩ (.int .u64 dk[Q]!)).setCell ⟨g, Q, none⟩ (.int .u64 dk[S]!)) (some g)) := grown_set (grown_set (grown_drewN HGX.out nq) _) _
            have HD5 : Hid ((Go.Sort.swp dk S Q).size = N) := by show _ = _; rw [Go.Sort.size_swp]; exact HD.out
            clear HSX HGX hless2 k3 k4 hs5 HD
            generalize dk[S]! = xS at *
            generalize dk[Q]! = xQ at *
            generalize Go.Sort.swp dk S Q = dn at *
            generalize wX.drewN nq = w5 at *
            go_wp2
            go_upto_region 15 with fail
            go_region
            all_goals
              have HS6 : Hid _ := HS5.out.drew
              have HG6 : Hid _ := grown_drew HG5.out
              clear HS5 HG5 c3 c4 f3 f4
              generalize ((w5.setCell ⟨g, S, none⟩ (.int .u64 xQ)).setCell ⟨g, Q, none⟩ (.int .u64 xS)).drew = w6 at *
              go_wp2
              go_roundw
              case rel => exact ⟨C1, by omega, rfl, dn, HD5, HS6, HK, HG6⟩
              case measure => simp [intOf]; omega
      · have hd1 : decide ((C1 : Int) < (hi : Int)) = false := decide_eq_false (by omega)
        have HCH : Hid (sChild hi first r dk = C) := by
          show _ = _
          unfold sChild
          rw [← hC, if_neg]
          simp
          intro h0
          omega
        clear hC hC1
        go_wp2
        go_upto_region 15 with fail
        go_quiet (fail)
        have HSX : Hid (SoAt (wr.drewN nq) g dk t) := SoAt.drewN HS.out nq
        have HGX : Hid _ := grown_drewN HG.out nq
        clear HS HG
        generalize wr.drewN nq = wX at *
        have hch : sChild hi first r dk = C := HCH.out
        have HLT : Hid (r < C ∧ C < hi) := by have := sChild_lt (first := first) (d := dk) (show 2 * r + 1 < hi by have := HC.out; omega); rw [hch] at this; exact this
        have hrc := HLT.out
        obtain ⟨S, hS⟩ : ∃ S, S = first + r := ⟨_, rfl⟩
        obtain ⟨Q, hQ⟩ : ∃ Q, Q = first + C := ⟨_, rfl⟩
        have wS : IntKind.i64.wrap ((first : Int) + (r : Int)) = (S : Int) := by rw [IntKind.wrap_i64]; omega
        have wQ : IntKind.i64.wrap ((first : Int) + (C : Int)) = (Q : Int) := by rw [IntKind.wrap_i64]; omega
        have hSN : S < N := by omega
        have hQN : Q < N := by omega
        have eS : (first : Int) + (r : Int) = (S : Int) := by omega
        have eQ : (first : Int) + (C : Int) = (Q : Int) := by omega
        have jS := fun w' => Tryd.idxSo g N c S w' (by omega)
        have jQ := fun w' => Tryd.idxSo g N c Q w' (by omega)
        have hs3 : SoAt wX g dk t := HSX.out
        have k3 := hs3.cell (i := S) (by rw [HD.out]; omega)
        have k4 := hs3.cell (i := Q) (by rw [HD.out]; omega)
        have hless2 := fun w' => Tryd.less_any dk[S]! dk[Q]! w'
        cases hl2 : lt64 dk[S]! dk[Q]! with
        | false =>
          rw [hl2] at hless2
          have HR : Hid (dk = R) := by
            have h0 := sift_no (hi := hi) (first := first) (r := r) (d := dk) (by have := HC.out; omega) (by rw [hch, ← hS, ← hQ]; exact hl2)
            exact h0.symm.trans HI.out
          clear hl2 hch hS hQ HI hs3
          go_upto_region 15 with fail
          go_quiet ((go_at_call 90; exact Calls.quiet_of_same (hless2 _)))
          have HS5 : Hid (SoAt (wX.drewN nq) g dk t) := SoAt.drewN HSX.out nq
          have HG5 : Hid _ := grown_drewN HGX.out nq
          clear HSX HGX hless2 k3 k4
          generalize wX.drewN nq = w5 at *
          go_wp2
          refine bodyPost_ret (results_none rfl _ _ _) rfl ?_
          obtain rfl := HR.out
          exact ⟨rfl, HS5.out, HG5.out⟩
        | true =>
          rw [hl2] at hless2
          have HK : Hid (Go.Sort.siftDown lt64 hi first C (Go.Sort.swp dk S Q) = R) := by
            have h0 := sift_yes (hi := hi) (first := first) (r := r) (d := dk) (by have := HC.out; omega) (by rw [hch, ← hS, ← hQ]; exact hl2)
            rw [hch, ← hS, ← hQ] at h0
            exact h0.symm.trans HI.out
          clear hl2 hch hS hQ HI hs3
          go_upto_region 15 with fail
          go_quiet ((go_at_call 90; exact Calls.quiet_of_same (hless2 _)))
          have hs5 : SoAt (wX.drewN nq) g dk t := SoAt.drewN HSX.out nq
          have c3 := hs5.cell (i := S) (by rw [HD.out]; omega)
          have c4 := hs5.cell (i := Q) (by rw [HD.out]; omega)
          have f3 := hs5.fz S
          have f4 := hs5.fz Q
          have HS5 : Hid (SoAt (((wX.drewN nq).setCell ⟨g, S, none⟩ (.int .u64 dk[Q]!)).setCell ⟨g, Q, none⟩ (.int .u64 dk[S]!)) g (Go.Sort.swp dk S Q) t) := hs5.swap (by rw [HD.out]; omega) (by rw [HD.out]; omega)
          have HG5 : Hid (w.grownBy (((wX.drewN nq).setCell ⟨g, S, none⟩ (.int .u64 dk[Q]!)).setCell ⟨g, Q, none⟩ (.int .u64 dk[S]!)) (some g)) := grown_set (grown_set (grown_drewN HGX.out nq) _) _
          have HD5 : Hid ((Go.Sort.swp dk S Q).size = N) := by show _ = _; rw [Go.Sort.size_swp]; exact HD.out
          clear HSX HGX hless2 k3 k4 hs5 HD
          generalize dk[S]! = xS at *
          generalize dk[Q]! = xQ at *
          generalize Go.Sort.swp dk S Q = dn at *
          generalize wX.drewN nq = w5 at *
          go_wp2
          go_upto_region 15 with fail
          go_region
          all_goals
            have HS6 : Hid _ := HS5.out.drew
            have HG6 : Hid _ := grown_drew HG5.out
            clear HS5 HG5 c3 c4 f3 f4
            generalize ((w5.setCell ⟨g, S, none⟩ (.int .u64 xQ)).setCell ⟨g, Q, none⟩ (.int .u64 xS)).drew = w6 at *
            go_wp2
            go_roundw
            case rel => exact ⟨C, by omega, rfl, dn, HD5, HS6, HK, HG6⟩
            case measure => simp [intOf]; omega
end Go.Proofs.YtnedkpbpeolfoaaDoor
namespace Go.Proofs.YtnedkpbpeolfoaaDoor
open Go.RowKit Go.Maps
theorem grow_thenS {w w1 w2 : World} {row : Option Nat} (h : w.grownBy w1 row) (k : w1.grownBy w2 row) : w.grownBy w2 row :=
  ⟨k.os.trans h.os, k.tape.trans h.tape, k.output.trans h.output, Nat.le_trans h.size k.size, fun j hj hne => (k.block j (Nat.lt_of_lt_of_le hj h.size) hne).trans (h.block j hj hne)⟩
theorem sift_size (hi first r : Nat) (d : Array Int) : (Go.Sort.siftDown lt64 hi first r d).size = d.size := by
  fun_induction Go.Sort.siftDown lt64 hi first r d <;> simp_all [Go.Sort.size_swp]
set_option maxRecDepth 100000 in
set_option maxHeartbeats 8000000 in
theorem Tryd.heapSort_any (g c a b : Nat) (d : Array Int) (t : List Int) (w : World) (h : SoAt w g d t) (hab : a < b) (hb : b ≤ d.size) (hn : d.size ≤ 1000000) :
    Calls Tryd.prog 85 #[.slice (some ⟨g, 0, none⟩) d.size c, .int .i64 (a : Int), .int .i64 (b : Int)] w (SoP w g t (Go.Sort.heapSort lt64 d a b)) := by
  obtain ⟨N, hN⟩ : ∃ N, d.size = N := ⟨_, rfl⟩
  obtain ⟨R, hR⟩ : ∃ R, Go.Sort.heapSort lt64 d a b = R := ⟨_, rfl⟩
  obtain ⟨H, hH⟩ : ∃ H, H = b - a := ⟨_, rfl⟩
  obtain ⟨K0, hK0⟩ : ∃ K0, K0 = (H - 1) / 2 := ⟨_, rfl⟩
  have HI0 : Hid (Go.Sort.heapPop lt64 a H (Go.Sort.heapBuild lt64 H a (K0 + 1) d) = R) := by
    show _ = _
    rw [hK0, hH]; exact hR
  have HS0 : Hid (SoAt w g d t) := h
  have HD0 : Hid (d.size = N) := hN
  rw [hN] at hb hn ⊢
  rw [hR]
  have wH : IntKind.i64.wrap ((b : Int) - (a : Int)) = (H : Int) := by rw [IntKind.wrap_i64]; omega
  have eH : (b : Int) - (a : Int) = (H : Int) := by omega
  have wK : IntKind.i64.wrap ((H : Int) - 1) = (H : Int) - 1 := by rw [IntKind.wrap_i64]; omega
  have tK : ((H : Int) - 1).tdiv 2 = (K0 : Int) := by rw [Int.tdiv_eq_ediv_of_nonneg (by omega)]; omega
  have hHN : a + H ≤ N := by omega
  have hK0N : K0 ≤ H := by omega
  have hH1 : 1 ≤ H := by omega
  clear h hN hR hH hK0
  go_enter Tryd.func85, Tryd.ntmps85
  go_wp2
  go_loopw [9] (fun iv wr => ∃ (i : Int) (k : Nat), iv = .int .i64 i ∧ i = (k : Int) - 1 ∧ k ≤ K0 + 1 ∧ ∃ dk : Array Int, Hid (dk.size = N) ∧ Hid (SoAt wr g dk t) ∧ Hid (Go.Sort.heapPop lt64 a H (Go.Sort.heapBuild lt64 H a k dk) = R) ∧ Hid (w.grownBy wr (some g))) (fun iv _ => (intOf iv + 1).toNat)
  case atStart => exact ⟨(K0 : Int), K0 + 1, rfl, by omega, Nat.le_refl _, d, HD0, HS0, HI0, World.grownBy.refl _ _⟩
  case round =>
    obtain ⟨i, k, rfl, hik, hk, dk, HD, HS, HI, HG⟩ := hrel
    clear HD0 HS0 HI0 wH eH wK tK
    cases k with
    | zero =>
      obtain rfl : i = -1 := by omega
      have wK2 : IntKind.i64.wrap ((H : Int) - 1) = (H : Int) - 1 := by rw [IntKind.wrap_i64]; omega
      have HI2 : Hid (Go.Sort.heapPop lt64 a H dk = R) := HI.out
      clear HI hik
      go_wp2
      go_loopw [10] (fun iv wr => ∃ (i : Int) (k : Nat), iv = .int .i64 i ∧ i = (k : Int) - 1 ∧ k ≤ H ∧ ∃ dk : Array Int, Hid (dk.size = N) ∧ Hid (SoAt wr g dk t) ∧ Hid (Go.Sort.heapPop lt64 a k dk = R) ∧ Hid (w.grownBy wr (some g))) (fun iv _ => (intOf iv + 1).toNat)
      case atStart => exact ⟨(H : Int) - 1, H, rfl, rfl, Nat.le_refl _, dk, HD, HS, HI2, HG⟩
      case round =>
        obtain ⟨i, k, rfl, hik, hk, dk, HD3, HS3, HI3, HG3⟩ := hrel
        clear HD HS HI2 HG wK2
        cases k with
        | zero =>
          obtain rfl : i = -1 := by omega
          have HR : Hid (dk = R) := HI3.out
          clear HI3 hik
          go_wp2
          go_end0
          obtain rfl := HR.out
          exact ⟨rfl, HS3.out, HG3.out⟩
        | succ m =>
          obtain rfl : i = (m : Int) := by omega
          obtain ⟨Q, hQ⟩ : ∃ Q, Q = a + m := ⟨_, rfl⟩
          have HK : Hid (Go.Sort.heapPop lt64 a m (Go.Sort.siftDown lt64 m a 0 (Go.Sort.swp dk a Q)) = R) := by
            show _ = _
            rw [hQ]; exact HI3.out
          have wQ : IntKind.i64.wrap ((a : Int) + (m : Int)) = (Q : Int) := by rw [IntKind.wrap_i64]; omega
          have eQ : (a : Int) + (m : Int) = (Q : Int) := by omega
          have hQN : Q < N := by omega
          have hmQ : a + m ≤ N := by omega
          have hdec : IntKind.i64.wrap ((m : Int) - 1) = (m : Int) - 1 := by rw [IntKind.wrap_i64]; omega
          have hi1 := fun w' => Tryd.idxSo g N c a w' (by omega)
          have hi2 := fun w' => Tryd.idxSo g N c Q w' hQN
          have hs5 : SoAt wr g dk t := HS3.out
          have c3 := hs5.cell (i := a) (by rw [HD3.out]; omega)
          have c4 := hs5.cell (i := Q) (by rw [HD3.out]; omega)
          have f3 := hs5.fz a
          have f4 := hs5.fz Q
          have hs5b : SoAt (wr.setCell ⟨g, a, none⟩ (.int .u64 dk[Q]!)) g (dk.setIfInBounds a dk[Q]!) t := hs5.set (by rw [HD3.out]; omega) _
          have f5 := hs5b.fz Q
          have c5 := hs5b.cell (i := Q) (by rw [Array.size_setIfInBounds, HD3.out]; omega)
          have HS5 : Hid (SoAt ((wr.setCell ⟨g, a, none⟩ (.int .u64 dk[Q]!)).setCell ⟨g, Q, none⟩ (.int .u64 dk[a]!)) g (Go.Sort.swp dk a Q) t) := hs5.swap (by rw [HD3.out]; omega) (by rw [HD3.out]; omega)
          have HG5 : Hid (w.grownBy ((wr.setCell ⟨g, a, none⟩ (.int .u64 dk[Q]!)).setCell ⟨g, Q, none⟩ (.int .u64 dk[a]!)) (some g)) := grown_set (grown_set HG3.out _) _
          have HD5 : Hid ((Go.Sort.swp dk a Q).size = N) := by show _ = _; rw [Go.Sort.size_swp]; exact HD3.out
          clear HS3 HG3 hs5 hs5b HD3 HI3 hik hQ
          generalize (dk.setIfInBounds a dk[Q]!)[Q]! = yQ at *
          generalize dk[a]! = xa at *
          generalize dk[Q]! = xQ at *
          generalize Go.Sort.swp dk a Q = dn at *
          go_wp2
          go_upto_region 15 with fail
          go_region
          all_goals
            have HS6 : Hid (SoAt ((wr.setCell ⟨g, a, none⟩ (.int .u64 xQ)).setCell ⟨g, Q, none⟩ (.int .u64 xa)).drew g dn t) := SoAt.drew HS5.out
            have HG6 : Hid _ := grown_drew HG5.out
            clear HS5 HG5 c3 c4 f3 f4 f5 c5
            generalize ((wr.setCell ⟨g, a, none⟩ (.int .u64 xQ)).setCell ⟨g, Q, none⟩ (.int .u64 xa)).drew = w6 at *
            have hsf := Tryd.sift_any g c 0 m a dn t w6 HS6.out (Nat.zero_le _) (by rw [HD5.out]; omega) (by rw [HD5.out]; omega)
            rw [HD5.out, show ((0 : Nat) : Int) = 0 from rfl] at hsf
            go_wp2_with fail
            refine hsf.mono ?_
            rintro e w7 ⟨rfl, hs7, hg7⟩
            have HS7 : Hid (SoAt w7 g (Go.Sort.siftDown lt64 m a 0 dn) t) := hs7
            have HG7 : Hid (w.grownBy w7 (some g)) := grow_thenS HG6.out hg7
            have HD7 : Hid ((Go.Sort.siftDown lt64 m a 0 dn).size = N) := by show _ = _; rw [sift_size]; exact HD5.out
            clear hsf hs7 hg7 HS6 HG6
            go_wp2
            go_roundw
            case rel => exact ⟨(m : Int) - 1, m, rfl, rfl, by omega, _, HD7, HS7, HK, HG7⟩
            case measure => simp [intOf]
    | succ m =>
      obtain rfl : i = (m : Int) := by omega
      have HK : Hid (Go.Sort.heapPop lt64 a H (Go.Sort.heapBuild lt64 H a m (Go.Sort.siftDown lt64 H a m dk)) = R) := HI.out
      have hdec : IntKind.i64.wrap ((m : Int) - 1) = (m : Int) - 1 := by rw [IntKind.wrap_i64]; omega
      have hsf := Tryd.sift_any g c m H a dk t wr HS.out (by rw [HD.out]; omega) (by rw [HD.out]; omega) (by rw [HD.out]; omega)
      rw [HD.out] at hsf
      clear HI hik
      go_wp2_with fail
      refine hsf.mono ?_
      rintro e w7 ⟨rfl, hs7, hg7⟩
      have HS7 : Hid (SoAt w7 g (Go.Sort.siftDown lt64 H a m dk) t) := hs7
      have HG7 : Hid (w.grownBy w7 (some g)) := grow_thenS HG.out hg7
      have HD7 : Hid ((Go.Sort.siftDown lt64 H a m dk).size = N) := by show _ = _; rw [sift_size]; exact HD.out
      clear hsf hs7 hg7 HS HG
      go_wp2
      go_roundw
      case rel => exact ⟨(m : Int) - 1, m, rfl, rfl, by omega, _, HD7, HS7, HK, HG7⟩
      case measure => simp [intOf]
end Go.Proofs.YtnedkpbpeolfoaaDoor
namespace Go.Proofs.YtnedkpbpeolfoaaDoor
open Go.RowKit Go.Maps
open Go.Sort (swp PermIn SortedIn)
/-- What partition's loops keep. -/
structure PI (d0 : Array Int) (a b i j : Nat) (d : Array Int) (p : Int) : Prop where
  sz : d.size = d0.size
  perm : PermIn a b d0 d
  piv : d[a]! = p
  ia : a + 1 ≤ i
  ij : i ≤ j + 1
  jb : j < b
  lo : ∀ x, a < x → x < i → lt64 d[x]! p = true
  hi : ∀ x, j < x → x < b → lt64 d[x]! p = false
theorem PI.up {d0 : Array Int} {a b i j : Nat} {d : Array Int} {p : Int} (h : PI d0 a b i j d p) (hij : i ≤ j) (hl : lt64 d[i]! p = true) : PI d0 a b (i + 1) j d p :=
  ⟨h.sz, h.perm, h.piv, by have := h.ia; omega, by omega, h.jb, fun x h1 h2 => by
    by_cases e : x = i
    · subst e; exact hl
    · exact h.lo x h1 (by omega), h.hi⟩
theorem PI.down {d0 : Array Int} {a b i j : Nat} {d : Array Int} {p : Int} (h : PI d0 a b i (j + 1) d p) (hij : i ≤ j + 1) (hl : lt64 d[j + 1]! p = false) : PI d0 a b i j d p :=
  ⟨h.sz, h.perm, h.piv, h.ia, hij, by have := h.jb; omega, h.lo, fun x h1 h2 => by
    by_cases e : x = j + 1
    · subst e; exact hl
    · exact h.hi x (by omega) h2⟩
theorem PI.swap {d0 : Array Int} {a b i j : Nat} {d : Array Int} {p : Int} (h : PI d0 a b i (j + 1) d p) (hb : b ≤ d0.size) (hij : i ≤ j + 1) (h1 : lt64 d[i]! p = false) (h2 : lt64 d[j + 1]! p = true) : PI d0 a b (i + 1) j (swp d i (j + 1)) p := by
  have hne : i ≠ j + 1 := fun e => by subst e; rw [h1] at h2; cases h2
  have hia := h.ia
  have hjb := h.jb
  have hsz := h.sz
  refine ⟨by rw [Go.Sort.size_swp, hsz], Go.Sort.permIn_trans _ _ _ _ _ h.perm (Go.Sort.swp_permIn d a b i (j + 1) (by omega) (by omega) (by omega) hjb (by omega)), ?_, by omega, by omega, by omega, fun x k1 k2 => ?_, fun x k1 k2 => ?_⟩
  · rw [Go.Sort.swp_other _ _ _ _ (by omega) (by omega)]; exact h.piv
  · by_cases e : x = i
    · subst e
      rw [Go.Sort.swp_left _ _ _ (by omega) hne]; exact h2
    · rw [Go.Sort.swp_other _ _ _ _ e (by omega)]; exact h.lo x k1 (by omega)
  · by_cases e : x = j + 1
    · subst e
      rw [Go.Sort.swp_right _ _ _ (by omega)]; exact h1
    · rw [Go.Sort.swp_other _ _ _ _ (by omega) e]; exact h.hi x (by omega) k2
/-- What partition answers. -/
structure Parted (d0 : Array Int) (a b m : Nat) (d : Array Int) : Prop where
  sz : d.size = d0.size
  ma : a ≤ m
  mb : m < b
  perm : PermIn a b d0 d
  lo : ∀ x, a ≤ x → x < m → lt64 d[x]! d[m]! = true
  hi : ∀ x, m < x → x < b → lt64 d[x]! d[m]! = false
theorem PI.fin {d0 : Array Int} {a b i j : Nat} {d : Array Int} {p : Int} (h : PI d0 a b i j d p) (hb : b ≤ d0.size) (hij : ¬ i ≤ j) : Parted d0 a b j (swp d j a) := by
  have hia := h.ia
  have h0 := h.ij
  have hjb := h.jb
  have hsz := h.sz
  have e0 : i = j + 1 := by omega
  subst e0
  have hj : (swp d j a)[j]! = p := by
    by_cases e : j = a
    · subst e; rw [Go.Sort.swp_right _ _ _ (by omega)]; exact h.piv
    · rw [Go.Sort.swp_left _ _ _ (by omega) e]; exact h.piv
  refine ⟨by rw [Go.Sort.size_swp, hsz], by omega, hjb, Go.Sort.permIn_trans _ _ _ _ _ h.perm (Go.Sort.swp_permIn d a b j a (by omega) hjb (Nat.le_refl _) (by omega) (by omega)), fun x k1 k2 => ?_, fun x k1 k2 => ?_⟩
  · rw [hj]
    by_cases e : x = a
    · subst e
      rw [Go.Sort.swp_right _ _ _ (by omega)]
      exact h.lo j (by omega) (by omega)
    · rw [Go.Sort.swp_other _ _ _ _ (by omega) e]
      exact h.lo x (by omega) (by omega)
  · rw [hj, Go.Sort.swp_other _ _ _ _ (by omega) (by omega)]
    exact h.hi x k1 k2
theorem pi_start {d0 : Array Int} {a b q : Nat} (hab : a < b) (hb : b ≤ d0.size) (hq1 : a ≤ q) (hq2 : q < b) : PI d0 a b (a + 1) (b - 1) (swp d0 a q) (swp d0 a q)[a]! :=
  ⟨Go.Sort.size_swp _ _ _, Go.Sort.swp_permIn d0 a b a q (Nat.le_refl _) hab hq1 hq2 hb, rfl, Nat.le_refl _, by omega, by omega, fun x h1 h2 => by omega, fun x h1 h2 => by omega⟩
set_option maxRecDepth 100000 in
set_option maxHeartbeats 8000000 in
theorem Tryd.part_any (g c a b q0 : Nat) (d0 : Array Int) (t : List Int) (w : World) (h : SoAt w g d0 t) (hab : a < b) (hb : b ≤ d0.size) (hq1 : a ≤ q0) (hq2 : q0 < b) (hn : d0.size ≤ 1000000) :
    Calls Tryd.prog 92 #[.slice (some ⟨g, 0, none⟩) d0.size c, .int .i64 (a : Int), .int .i64 (b : Int), .int .i64 (q0 : Int)] w fun e w' => ∃ (m : Nat) (f : Bool) (d1 : Array Int), e = .returned (.tuple #[.int .i64 (m : Int), .bool f]) ∧ Parted d0 a b m d1 ∧ SoAt w' g d1 t ∧ w.grownBy w' (some g) := by
  obtain ⟨N, hN⟩ : ∃ N, d0.size = N := ⟨_, rfl⟩
  have HS0 : Hid (SoAt w g d0 t) := h
  have HD0 : Hid (d0.size = N) := hN
  have HG0 : Hid (w.grownBy w (some g)) := World.grownBy.refl _ _
  have HP0 : Hid _ := pi_start hab hb hq1 hq2
  obtain ⟨J, hJ⟩ : ∃ J, b - 1 = J := ⟨_, rfl⟩
  rw [hJ] at HP0
  have HB : Hid (b ≤ d0.size) := hb
  rw [hN] at hb hn ⊢
  clear h hN
  go_enter Tryd.func92, Tryd.ntmps92
  have wi : IntKind.i64.wrap ((a : Int) + 1) = ((a + 1 : Nat) : Int) := by rw [IntKind.wrap_i64]; omega
  have wj : IntKind.i64.wrap ((b : Int) - 1) = (J : Int) := by rw [IntKind.wrap_i64]; omega
  have ej : (b : Int) - 1 = (J : Int) := by omega
  clear hJ
  go_wp2
  obtain ⟨p, hp⟩ : ∃ p, (swp d0 a q0)[a]! = p := ⟨_, rfl⟩
  rw [hp] at HP0
  clear hp
  have hi1 := fun w' => Tryd.idxSo g N c a w' (by omega)
  have hi2 := fun w' => Tryd.idxSo g N c q0 w' (by omega)
  have hsw : SoAt w g d0 t := HS0.out
  have c3 := hsw.cell (i := a) (by rw [HD0.out]; omega)
  have c4 := hsw.cell (i := q0) (by rw [HD0.out]; omega)
  have f3 := hsw.fz a
  have f4 := hsw.fz q0
  have hswb : SoAt (w.setCell ⟨g, a, none⟩ (.int .u64 d0[q0]!)) g (d0.setIfInBounds a d0[q0]!) t := hsw.set (by rw [HD0.out]; omega) _
  have f5 := hswb.fz q0
  have c5 := hswb.cell (i := q0) (by rw [Array.size_setIfInBounds, HD0.out]; omega)
  have HSa1 : Hid (SoAt ((w.setCell ⟨g, a, none⟩ (.int .u64 d0[q0]!)).setCell ⟨g, q0, none⟩ (.int .u64 d0[a]!)) g (swp d0 a q0) t) := hsw.swap (by rw [HD0.out]; omega) (by rw [HD0.out]; omega)
  have HGa1 : Hid (w.grownBy ((w.setCell ⟨g, a, none⟩ (.int .u64 d0[q0]!)).setCell ⟨g, q0, none⟩ (.int .u64 d0[a]!)) (some g)) := grown_set (grown_set HG0.out _) _
  have HD1 : Hid ((swp d0 a q0).size = N) := by show _ = _; rw [Go.Sort.size_swp]; exact HD0.out
  clear hsw hswb
  generalize (d0.setIfInBounds a d0[q0]!)[q0]! = ysw at *
  generalize d0[a]! = xi at *
  generalize d0[q0]! = xj at *
  go_upto_region 15 with fail
  go_region
  all_goals
    have HS1 : Hid (SoAt ((w.setCell ⟨g, a, none⟩ (.int .u64 xj)).setCell ⟨g, q0, none⟩ (.int .u64 xi)).drew g (swp d0 a q0) t) := SoAt.drew HSa1.out
    have HG1 : Hid (w.grownBy ((w.setCell ⟨g, a, none⟩ (.int .u64 xj)).setCell ⟨g, q0, none⟩ (.int .u64 xi)).drew (some g)) := grown_drew HGa1.out
    clear HSa1 HGa1 c3 c4 f3 f4 f5 c5 hi1 hi2
    generalize ((w.setCell ⟨g, a, none⟩ (.int .u64 xj)).setCell ⟨g, q0, none⟩ (.int .u64 xi)).drew = w1 at *
    generalize swp d0 a q0 = d1 at *
    go_wp2
    clear wi wj ej
    go_loopw [10] (fun sv wr => ∃ i : Nat, sv = .int .i64 (i : Int) ∧ Hid (PI d0 a b i J d1 p) ∧ Hid (SoAt wr g d1 t) ∧ Hid (w.grownBy wr (some g)) ∧ Hid (a + 1 ≤ i)) (fun sv _ => N + 1 - (intOf sv).toNat)
    case atStart => exact ⟨a + 1, by first | rfl | go_num, HP0, HS1, HG1, Nat.le_refl _⟩
    case round =>
      obtain ⟨i, rfl, HP2, HSr2, HGr2, HL2⟩ := hrel
      have bL := HL2.out
      clear HP0 HS1 HG1
      have b1 := HP2.out.ia
      have b2 := HP2.out.ij
      have b3 := HP2.out.jb
      obtain ⟨q, hq⟩ : ∃ q : Bool, q = (decide (i ≤ J) && lt64 d1[i]! d1[a]!) := ⟨_, rfl⟩
      have HQ : Hid (q = (decide (i ≤ J) && lt64 d1[i]! d1[a]!)) := hq
      clear hq
      go_upto_region 15 with fail
      go_cut [43] (fun cv wx => cv = .bool q ∧ Hid (SoAt wx g d1 t) ∧ Hid (w.grownBy wx (some g)))
      case first =>
        by_cases hij : i ≤ J
        · have hd : decide ((i : Int) ≤ (J : Int)) = true := decide_eq_true (by omega)
          have hi1 := fun w' => Tryd.idxSo g N c i w' (by omega)
          have hi2 := fun w' => Tryd.idxSo g N c a w' (by omega)
          have hsw : SoAt wr g d1 t := HSr2.out
          have c3 := hsw.cell (i := i) (by rw [HD1.out]; omega)
          have c4 := hsw.cell (i := a) (by rw [HD1.out]; omega)
          have hless := fun w' => Tryd.less_any d1[i]! d1[a]! w'
          have HQ2 : Hid (q = (lt64 d1[i]! d1[a]!)) := by
            show _ = _
            rw [HQ.out, decide_eq_true hij]; rfl
          clear hsw HQ
          generalize lt64 d1[i]! d1[a]! = lv at *
          generalize d1[i]! = xv at *
          generalize d1[a]! = xa at *
          obtain rfl := HQ2.out
          go_quiet ((go_at_call 90; exact Calls.quiet_of_same (hless _)))
          go_wp2
          go_meet
          case rel => exact ⟨rfl, SoAt.drewN HSr2.out _, grown_drewN HGr2.out _⟩
        · have hd : decide ((i : Int) ≤ (J : Int)) = false := decide_eq_false (by omega)
          have HQ2 : Hid (q = false) := by
            show _ = _
            rw [HQ.out, decide_eq_false hij]; rfl
          clear HQ
          obtain rfl := HQ2.out
          go_quiet (fail)
          go_wp2
          go_meet
          case rel => exact ⟨rfl, SoAt.drewN HSr2.out _, grown_drewN HGr2.out _⟩
      case rest =>
        obtain ⟨rfl, HS2, HG2⟩ := hcut
        clear HSr2 HGr2
        cases q with
        | true =>
          have hq := HQ.out.symm
          rw [Bool.and_eq_true, decide_eq_true_eq] at hq
          have HPX : Hid (PI d0 a b (i + 1) J d1 p) := HP2.out.up hq.1 (by have h2 := hq.2; have h3 := HP2.out.piv; rw [← h3]; simpa using h2)
          clear HQ HP2
          go_wp2
          go_roundw
          case rel => exact ⟨i + 1, by go_num, HPX, HS2, HG2, by show _ ≤ _; omega⟩
          case measure => simp [intOf]; omega
        | false =>
          have HX2 : Hid (i ≤ J → lt64 d1[i]! d1[a]! = false) := fun h => by
            have := HQ.out
            rw [decide_eq_true h] at this
            simpa using this.symm
          clear HQ
          generalize wc = w2 at *
          go_wp2
          go_loopw [11] (fun sv wr => ∃ j : Nat, sv = .int .i64 (j : Int) ∧ Hid (PI d0 a b i j d1 p) ∧ Hid (SoAt wr g d1 t) ∧ Hid (w.grownBy wr (some g)) ∧ Hid (j ≤ J)) (fun sv _ => (intOf sv).toNat)
          case atStart => exact ⟨J, by first | rfl | go_num, HP2, HS2, HG2, Nat.le_refl _⟩
          case round =>
            obtain ⟨j, rfl, HP3, HSr3, HGr3, HL3⟩ := hrel
            have bL := HL3.out
            clear HP2 HS2 HG2
            have b1 := HP3.out.ia
            have b2 := HP3.out.ij
            have b3 := HP3.out.jb
            obtain ⟨q, hq⟩ : ∃ q : Bool, q = (decide (i ≤ j) && !lt64 d1[j]! d1[a]!) := ⟨_, rfl⟩
            have HQ : Hid (q = (decide (i ≤ j) && !lt64 d1[j]! d1[a]!)) := hq
            clear hq
            go_upto_region 15 with fail
            go_cut [60] (fun cv wx => cv = .bool q ∧ Hid (SoAt wx g d1 t) ∧ Hid (w.grownBy wx (some g)))
            case first =>
              by_cases hij : i ≤ j
              · have hd : decide ((i : Int) ≤ (j : Int)) = true := decide_eq_true (by omega)
                have hi1 := fun w' => Tryd.idxSo g N c j w' (by omega)
                have hi2 := fun w' => Tryd.idxSo g N c a w' (by omega)
                have hsw : SoAt wr g d1 t := HSr3.out
                have c3 := hsw.cell (i := j) (by rw [HD1.out]; omega)
                have c4 := hsw.cell (i := a) (by rw [HD1.out]; omega)
                have hless := fun w' => Tryd.less_any d1[j]! d1[a]! w'
                have HQ2 : Hid (q = !(lt64 d1[j]! d1[a]!)) := by
                  show _ = _
                  rw [HQ.out, decide_eq_true hij]; rfl
                clear hsw HQ
                generalize lt64 d1[j]! d1[a]! = lv at *
                generalize d1[j]! = xv at *
                generalize d1[a]! = xa at *
                obtain rfl := HQ2.out
                go_quiet ((go_at_call 90; exact Calls.quiet_of_same (hless _)))
                go_wp2
                go_meet
                case rel => exact ⟨rfl, SoAt.drewN HSr3.out _, grown_drewN HGr3.out _⟩
              · have hd : decide ((i : Int) ≤ (j : Int)) = false := decide_eq_false (by omega)
                have HQ2 : Hid (q = false) := by
                  show _ = _
                  rw [HQ.out, decide_eq_false hij]; rfl
                clear HQ
                obtain rfl := HQ2.out
                go_quiet (fail)
                go_wp2
                go_meet
                case rel => exact ⟨rfl, SoAt.drewN HSr3.out _, grown_drewN HGr3.out _⟩
            case rest =>
              obtain ⟨rfl, HS3, HG3⟩ := hcut
              clear HSr3 HGr3
              cases q with
              | true =>
                have hq := HQ.out.symm
                rw [Bool.and_eq_true, decide_eq_true_eq] at hq
                obtain ⟨jm, hjm⟩ : ∃ jm, j = jm + 1 := ⟨j - 1, by omega⟩
                have hdec : IntKind.i64.wrap ((j : Int) - 1) = (jm : Int) := by rw [IntKind.wrap_i64]; omega
                have HPX : Hid (PI d0 a b i jm d1 p) := by
                  subst hjm
                  exact HP3.out.down hq.1 (by have h2 := hq.2; have h3 := HP3.out.piv; rw [← h3]; simpa using h2)
                have hlt : jm < j := by omega
                clear HQ HP3 hjm hq
                go_wp2
                go_roundw
                case rel => exact ⟨jm, rfl, HPX, HS3, HG3, by show _ ≤ _; omega⟩
                case measure => simp [intOf]; omega
              | false =>
                have HX3 : Hid (i ≤ j → lt64 d1[j]! d1[a]! = true) := fun h => by
                  have := HQ.out
                  rw [decide_eq_true h] at this
                  simpa using this.symm
                clear HQ
                generalize wc = w3 at *
                by_cases hij : i ≤ j
                · have hij2 : ¬ (j : Int) < (i : Int) := by omega
                  obtain ⟨jm, hjm⟩ : ∃ jm, j = jm + 1 := ⟨j - 1, by omega⟩
                  have hdec : IntKind.i64.wrap ((j : Int) - 1) = (jm : Int) := by rw [IntKind.wrap_i64]; omega
                  have ejm : (j : Int) - 1 = (jm : Int) := by omega
                  have HPS : Hid (PI d0 a b (i + 1) jm (swp d1 i j) p) := by
                    have h1 := HX2.out (by omega)
                    have h2 := HX3.out hij
                    rw [HP3.out.piv] at h1 h2
                    subst hjm
                    exact HP3.out.swap HB.out hij h1 h2
                  clear HX2 HX3 HP3 hjm
                  go_wp2
                  have hi1 := fun w' => Tryd.idxSo g N c i w' (by omega)
                  have hi2 := fun w' => Tryd.idxSo g N c j w' (by omega)
                  have hsw : SoAt w3 g d1 t := HS3.out
                  have c3 := hsw.cell (i := i) (by rw [HD1.out]; omega)
                  have c4 := hsw.cell (i := j) (by rw [HD1.out]; omega)
                  have f3 := hsw.fz i
                  have f4 := hsw.fz j
                  have hswb : SoAt (w3.setCell ⟨g, i, none⟩ (.int .u64 d1[j]!)) g (d1.setIfInBounds i d1[j]!) t := hsw.set (by rw [HD1.out]; omega) _
                  have f5 := hswb.fz j
                  have c5 := hswb.cell (i := j) (by rw [Array.size_setIfInBounds, HD1.out]; omega)
                  have HSa4 : Hid (SoAt ((w3.setCell ⟨g, i, none⟩ (.int .u64 d1[j]!)).setCell ⟨g, j, none⟩ (.int .u64 d1[i]!)) g (swp d1 i j) t) := hsw.swap (by rw [HD1.out]; omega) (by rw [HD1.out]; omega)
                  have HGa4 : Hid (w.grownBy ((w3.setCell ⟨g, i, none⟩ (.int .u64 d1[j]!)).setCell ⟨g, j, none⟩ (.int .u64 d1[i]!)) (some g)) := grown_set (grown_set HG3.out _) _
                  have HD4 : Hid ((swp d1 i j).size = N) := by show _ = _; rw [Go.Sort.size_swp]; exact HD1.out
                  clear hsw hswb
                  generalize (d1.setIfInBounds i d1[j]!)[j]! = ysw at *
                  generalize d1[i]! = xi at *
                  generalize d1[j]! = xj at *
                  go_upto_region 15 with fail
                  go_region
                  all_goals
                    have HS4 : Hid (SoAt ((w3.setCell ⟨g, i, none⟩ (.int .u64 xj)).setCell ⟨g, j, none⟩ (.int .u64 xi)).drew g (swp d1 i j) t) := SoAt.drew HSa4.out
                    have HG4 : Hid (w.grownBy ((w3.setCell ⟨g, i, none⟩ (.int .u64 xj)).setCell ⟨g, j, none⟩ (.int .u64 xi)).drew (some g)) := grown_drew HGa4.out
                    clear HSa4 HGa4 c3 c4 f3 f4 f5 c5 hi1 hi2
                    generalize ((w3.setCell ⟨g, i, none⟩ (.int .u64 xj)).setCell ⟨g, j, none⟩ (.int .u64 xi)).drew = w4 at *
                    generalize swp d1 i j = d4 at *
                    go_wp2
                    clear hdec ejm
                    go_loopw [10, 11] (fun iv jv wr => ∃ i j : Nat, iv = .int .i64 (i : Int) ∧ jv = .int .i64 (j : Int) ∧ ∃ dm : Array Int, Hid (dm.size = N) ∧ Hid (PI d0 a b i j dm p) ∧ Hid (SoAt wr g dm t) ∧ Hid (w.grownBy wr (some g))) (fun iv jv _ => (intOf jv + 1 - intOf iv).toNat)
                    case atStart => exact ⟨i + 1, jm, by go_num, rfl, d4, HD4, HPS, HS4, HG4⟩
                    case round =>
                      obtain ⟨i0, j0, rfl, rfl, dm, HDm, HPm, HSm, HGm⟩ := hrel
                      clear HD4 HPS HS4 HG4 hij hij2 b1 b2 b3 bL
                      have a1 := HPm.out.ia
                      have a2 := HPm.out.ij
                      have a3 := HPm.out.jb
                      go_wp2
                      go_loopw [10] (fun sv wr => ∃ i : Nat, sv = .int .i64 (i : Int) ∧ Hid (PI d0 a b i j0 dm p) ∧ Hid (SoAt wr g dm t) ∧ Hid (w.grownBy wr (some g)) ∧ Hid (i0 ≤ i)) (fun sv _ => N + 1 - (intOf sv).toNat)
                      case atStart => exact ⟨i0, by first | rfl | go_num, HPm, HSm, HGm, Nat.le_refl _⟩
                      case round =>
                        obtain ⟨i, rfl, HP5, HSr5, HGr5, HL5⟩ := hrel
                        have bL := HL5.out
                        clear HPm HSm HGm
                        have b1 := HP5.out.ia
                        have b2 := HP5.out.ij
                        have b3 := HP5.out.jb
                        obtain ⟨q, hq⟩ : ∃ q : Bool, q = (decide (i ≤ j0) && lt64 dm[i]! dm[a]!) := ⟨_, rfl⟩
                        have HQ : Hid (q = (decide (i ≤ j0) && lt64 dm[i]! dm[a]!)) := hq
                        clear hq
                        go_upto_region 15 with fail
                        go_cut [112] (fun cv wx => cv = .bool q ∧ Hid (SoAt wx g dm t) ∧ Hid (w.grownBy wx (some g)))
                        case first =>
                          by_cases hij : i ≤ j0
                          · have hd : decide ((i : Int) ≤ (j0 : Int)) = true := decide_eq_true (by omega)
                            have hi1 := fun w' => Tryd.idxSo g N c i w' (by omega)
                            have hi2 := fun w' => Tryd.idxSo g N c a w' (by omega)
                            have hsw : SoAt wr g dm t := HSr5.out
                            have c3 := hsw.cell (i := i) (by rw [HDm.out]; omega)
                            have c4 := hsw.cell (i := a) (by rw [HDm.out]; omega)
                            have hless := fun w' => Tryd.less_any dm[i]! dm[a]! w'
                            have HQ2 : Hid (q = (lt64 dm[i]! dm[a]!)) := by
                              show _ = _
                              rw [HQ.out, decide_eq_true hij]; rfl
                            clear hsw HQ
                            generalize lt64 dm[i]! dm[a]! = lv at *
                            generalize dm[i]! = xv at *
                            generalize dm[a]! = xa at *
                            obtain rfl := HQ2.out
                            go_quiet ((go_at_call 90; exact Calls.quiet_of_same (hless _)))
                            go_wp2
                            go_meet
                            case rel => exact ⟨rfl, SoAt.drewN HSr5.out _, grown_drewN HGr5.out _⟩
                          · have hd : decide ((i : Int) ≤ (j0 : Int)) = false := decide_eq_false (by omega)
                            have HQ2 : Hid (q = false) := by
                              show _ = _
                              rw [HQ.out, decide_eq_false hij]; rfl
                            clear HQ
                            obtain rfl := HQ2.out
                            go_quiet (fail)
                            go_wp2
                            go_meet
                            case rel => exact ⟨rfl, SoAt.drewN HSr5.out _, grown_drewN HGr5.out _⟩
                        case rest =>
                          obtain ⟨rfl, HS5, HG5⟩ := hcut
                          clear HSr5 HGr5
                          cases q with
                          | true =>
                            have hq := HQ.out.symm
                            rw [Bool.and_eq_true, decide_eq_true_eq] at hq
                            have HPX : Hid (PI d0 a b (i + 1) j0 dm p) := HP5.out.up hq.1 (by have h2 := hq.2; have h3 := HP5.out.piv; rw [← h3]; simpa using h2)
                            clear HQ HP5
                            go_wp2
                            go_roundw
                            case rel => exact ⟨i + 1, by go_num, HPX, HS5, HG5, by show _ ≤ _; omega⟩
                            case measure => simp [intOf]; omega
                          | false =>
                            have HX5 : Hid (i ≤ j0 → lt64 dm[i]! dm[a]! = false) := fun h => by
                              have := HQ.out
                              rw [decide_eq_true h] at this
                              simpa using this.symm
                            clear HQ
                            generalize wc = w5 at *
                            go_wp2
                            go_loopw [11] (fun sv wr => ∃ j : Nat, sv = .int .i64 (j : Int) ∧ Hid (PI d0 a b i j dm p) ∧ Hid (SoAt wr g dm t) ∧ Hid (w.grownBy wr (some g)) ∧ Hid (j ≤ j0)) (fun sv _ => (intOf sv).toNat)
                            case atStart => exact ⟨j0, by first | rfl | go_num, HP5, HS5, HG5, Nat.le_refl _⟩
                            case round =>
                              obtain ⟨j, rfl, HP6, HSr6, HGr6, HL6⟩ := hrel
                              have bL := HL6.out
                              clear HP5 HS5 HG5
                              have b1 := HP6.out.ia
                              have b2 := HP6.out.ij
                              have b3 := HP6.out.jb
                              obtain ⟨q, hq⟩ : ∃ q : Bool, q = (decide (i ≤ j) && !lt64 dm[j]! dm[a]!) := ⟨_, rfl⟩
                              have HQ : Hid (q = (decide (i ≤ j) && !lt64 dm[j]! dm[a]!)) := hq
                              clear hq
                              go_upto_region 15 with fail
                              go_cut [129] (fun cv wx => cv = .bool q ∧ Hid (SoAt wx g dm t) ∧ Hid (w.grownBy wx (some g)))
                              case first =>
                                by_cases hij : i ≤ j
                                · have hd : decide ((i : Int) ≤ (j : Int)) = true := decide_eq_true (by omega)
                                  have hi1 := fun w' => Tryd.idxSo g N c j w' (by omega)
                                  have hi2 := fun w' => Tryd.idxSo g N c a w' (by omega)
                                  have hsw : SoAt wr g dm t := HSr6.out
                                  have c3 := hsw.cell (i := j) (by rw [HDm.out]; omega)
                                  have c4 := hsw.cell (i := a) (by rw [HDm.out]; omega)
                                  have hless := fun w' => Tryd.less_any dm[j]! dm[a]! w'
                                  have HQ2 : Hid (q = !(lt64 dm[j]! dm[a]!)) := by
                                    show _ = _
                                    rw [HQ.out, decide_eq_true hij]; rfl
                                  clear hsw HQ
                                  generalize lt64 dm[j]! dm[a]! = lv at *
                                  generalize dm[j]! = xv at *
                                  generalize dm[a]! = xa at *
                                  obtain rfl := HQ2.out
                                  go_quiet ((go_at_call 90; exact Calls.quiet_of_same (hless _)))
                                  go_wp2
                                  go_meet
                                  case rel => exact ⟨rfl, SoAt.drewN HSr6.out _, grown_drewN HGr6.out _⟩
                                · have hd : decide ((i : Int) ≤ (j : Int)) = false := decide_eq_false (by omega)
                                  have HQ2 : Hid (q = false) := by
                                    show _ = _
                                    rw [HQ.out, decide_eq_false hij]; rfl
                                  clear HQ
                                  obtain rfl := HQ2.out
                                  go_quiet (fail)
                                  go_wp2
                                  go_meet
                                  case rel => exact ⟨rfl, SoAt.drewN HSr6.out _, grown_drewN HGr6.out _⟩
                              case rest =>
                                obtain ⟨rfl, HS6, HG6⟩ := hcut
                                clear HSr6 HGr6
                                cases q with
                                | true =>
                                  have hq := HQ.out.symm
                                  rw [Bool.and_eq_true, decide_eq_true_eq] at hq
                                  obtain ⟨jm, hjm⟩ : ∃ jm, j = jm + 1 := ⟨j - 1, by omega⟩
                                  have hdec : IntKind.i64.wrap ((j : Int) - 1) = (jm : Int) := by rw [IntKind.wrap_i64]; omega
                                  have HPX : Hid (PI d0 a b i jm dm p) := by
                                    subst hjm
                                    exact HP6.out.down hq.1 (by have h2 := hq.2; have h3 := HP6.out.piv; rw [← h3]; simpa using h2)
                                  have hlt : jm < j := by omega
                                  clear HQ HP6 hjm hq
                                  go_wp2
                                  go_roundw
                                  case rel => exact ⟨jm, rfl, HPX, HS6, HG6, by show _ ≤ _; omega⟩
                                  case measure => simp [intOf]; omega
                                | false =>
                                  have HX6 : Hid (i ≤ j → lt64 dm[j]! dm[a]! = true) := fun h => by
                                    have := HQ.out
                                    rw [decide_eq_true h] at this
                                    simpa using this.symm
                                  clear HQ
                                  generalize wc = w6 at *
                                  by_cases hij : i ≤ j
                                  · have hij2 : ¬ (j : Int) < (i : Int) := by omega
                                    obtain ⟨jm, hjm⟩ : ∃ jm, j = jm + 1 := ⟨j - 1, by omega⟩
                                    have hdec : IntKind.i64.wrap ((j : Int) - 1) = (jm : Int) := by rw [IntKind.wrap_i64]; omega
                                    have ejm : (j : Int) - 1 = (jm : Int) := by omega
                                    have HPS : Hid (PI d0 a b (i + 1) jm (swp dm i j) p) := by
                                      have h1 := HX5.out (by omega)
                                      have h2 := HX6.out hij
                                      rw [HP6.out.piv] at h1 h2
                                      subst hjm
                                      exact HP6.out.swap HB.out hij h1 h2
                                    have hi0 : i0 ≤ i := HL5.out
                                    have hjj : jm < j0 := by omega
                                    clear HX5 HX6 HP6 hjm
                                    go_wp2
                                    have hi1 := fun w' => Tryd.idxSo g N c i w' (by omega)
                                    have hi2 := fun w' => Tryd.idxSo g N c j w' (by omega)
                                    have hsw : SoAt w6 g dm t := HS6.out
                                    have c3 := hsw.cell (i := i) (by rw [HDm.out]; omega)
                                    have c4 := hsw.cell (i := j) (by rw [HDm.out]; omega)
                                    have f3 := hsw.fz i
                                    have f4 := hsw.fz j
                                    have hswb : SoAt (w6.setCell ⟨g, i, none⟩ (.int .u64 dm[j]!)) g (dm.setIfInBounds i dm[j]!) t := hsw.set (by rw [HDm.out]; omega) _
                                    have f5 := hswb.fz j
                                    have c5 := hswb.cell (i := j) (by rw [Array.size_setIfInBounds, HDm.out]; omega)
                                    have HSa7 : Hid (SoAt ((w6.setCell ⟨g, i, none⟩ (.int .u64 dm[j]!)).setCell ⟨g, j, none⟩ (.int .u64 dm[i]!)) g (swp dm i j) t) := hsw.swap (by rw [HDm.out]; omega) (by rw [HDm.out]; omega)
                                    have HGa7 : Hid (w.grownBy ((w6.setCell ⟨g, i, none⟩ (.int .u64 dm[j]!)).setCell ⟨g, j, none⟩ (.int .u64 dm[i]!)) (some g)) := grown_set (grown_set HG6.out _) _
                                    have HD7 : Hid ((swp dm i j).size = N) := by show _ = _; rw [Go.Sort.size_swp]; exact HDm.out
                                    clear hsw hswb
                                    generalize (dm.setIfInBounds i dm[j]!)[j]! = ysw at *
                                    generalize dm[i]! = xi at *
                                    generalize dm[j]! = xj at *
                                    go_upto_region 15 with fail
                                    go_region
                                    all_goals
                                      have HS7 : Hid (SoAt ((w6.setCell ⟨g, i, none⟩ (.int .u64 xj)).setCell ⟨g, j, none⟩ (.int .u64 xi)).drew g (swp dm i j) t) := SoAt.drew HSa7.out
                                      have HG7 : Hid (w.grownBy ((w6.setCell ⟨g, i, none⟩ (.int .u64 xj)).setCell ⟨g, j, none⟩ (.int .u64 xi)).drew (some g)) := grown_drew HGa7.out
                                      clear HSa7 HGa7 c3 c4 f3 f4 f5 c5 hi1 hi2
                                      generalize ((w6.setCell ⟨g, i, none⟩ (.int .u64 xj)).setCell ⟨g, j, none⟩ (.int .u64 xi)).drew = w7 at *
                                      generalize swp dm i j = d7 at *
                                      go_wp2
                                      go_roundw
                                      case rel => exact ⟨i + 1, jm, by go_num, rfl, d7, HD7, HPS, HS7, HG7⟩
                                      case measure => simp [intOf]; omega
                                  · skip
                                    have HPT : Hid (Parted d0 a b j (swp dm j a)) := HP6.out.fin HB.out hij
                                    have hij' : (j : Int) < (i : Int) := by omega
                                    clear HP6
                                    go_wp2
                                    have hi1 := fun w' => Tryd.idxSo g N c j w' (by omega)
                                    have hi2 := fun w' => Tryd.idxSo g N c a w' (by omega)
                                    have hsw : SoAt w6 g dm t := HS6.out
                                    have c3 := hsw.cell (i := j) (by rw [HDm.out]; omega)
                                    have c4 := hsw.cell (i := a) (by rw [HDm.out]; omega)
                                    have f3 := hsw.fz j
                                    have f4 := hsw.fz a
                                    have hswb : SoAt (w6.setCell ⟨g, j, none⟩ (.int .u64 dm[a]!)) g (dm.setIfInBounds j dm[a]!) t := hsw.set (by rw [HDm.out]; omega) _
                                    have f5 := hswb.fz a
                                    have c5 := hswb.cell (i := a) (by rw [Array.size_setIfInBounds, HDm.out]; omega)
                                    have HSa8 : Hid (SoAt ((w6.setCell ⟨g, j, none⟩ (.int .u64 dm[a]!)).setCell ⟨g, a, none⟩ (.int .u64 dm[j]!)) g (swp dm j a) t) := hsw.swap (by rw [HDm.out]; omega) (by rw [HDm.out]; omega)
                                    have HGa8 : Hid (w.grownBy ((w6.setCell ⟨g, j, none⟩ (.int .u64 dm[a]!)).setCell ⟨g, a, none⟩ (.int .u64 dm[j]!)) (some g)) := grown_set (grown_set HG6.out _) _
                                    have HD8 : Hid ((swp dm j a).size = N) := by show _ = _; rw [Go.Sort.size_swp]; exact HDm.out
                                    clear hsw hswb
                                    generalize (dm.setIfInBounds j dm[a]!)[a]! = ysw at *
                                    generalize dm[j]! = xi at *
                                    generalize dm[a]! = xj at *
                                    go_upto_region 15 with fail
                                    go_region
                                    all_goals
                                      have HS8 : Hid (SoAt ((w6.setCell ⟨g, j, none⟩ (.int .u64 xj)).setCell ⟨g, a, none⟩ (.int .u64 xi)).drew g (swp dm j a) t) := SoAt.drew HSa8.out
                                      have HG8 : Hid (w.grownBy ((w6.setCell ⟨g, j, none⟩ (.int .u64 xj)).setCell ⟨g, a, none⟩ (.int .u64 xi)).drew (some g)) := grown_drew HGa8.out
                                      clear HSa8 HGa8 c3 c4 f3 f4 f5 c5 hi1 hi2
                                      generalize ((w6.setCell ⟨g, j, none⟩ (.int .u64 xj)).setCell ⟨g, a, none⟩ (.int .u64 xi)).drew = w8 at *
                                      generalize swp dm j a = d8 at *
                                      go_wp2
                                      go_ret2
                                      exact ⟨j, false, d8, rfl, HPT.out, HS8.out, HG8.out⟩
                · skip
                  have HPT : Hid (Parted d0 a b j (swp d1 j a)) := HP3.out.fin HB.out hij
                  have hij' : (j : Int) < (i : Int) := by omega
                  clear HP3
                  go_wp2
                  have hi1 := fun w' => Tryd.idxSo g N c j w' (by omega)
                  have hi2 := fun w' => Tryd.idxSo g N c a w' (by omega)
                  have hsw : SoAt w3 g d1 t := HS3.out
                  have c3 := hsw.cell (i := j) (by rw [HD1.out]; omega)
                  have c4 := hsw.cell (i := a) (by rw [HD1.out]; omega)
                  have f3 := hsw.fz j
                  have f4 := hsw.fz a
                  have hswb : SoAt (w3.setCell ⟨g, j, none⟩ (.int .u64 d1[a]!)) g (d1.setIfInBounds j d1[a]!) t := hsw.set (by rw [HD1.out]; omega) _
                  have f5 := hswb.fz a
                  have c5 := hswb.cell (i := a) (by rw [Array.size_setIfInBounds, HD1.out]; omega)
                  have HSa9 : Hid (SoAt ((w3.setCell ⟨g, j, none⟩ (.int .u64 d1[a]!)).setCell ⟨g, a, none⟩ (.int .u64 d1[j]!)) g (swp d1 j a) t) := hsw.swap (by rw [HD1.out]; omega) (by rw [HD1.out]; omega)
                  have HGa9 : Hid (w.grownBy ((w3.setCell ⟨g, j, none⟩ (.int .u64 d1[a]!)).setCell ⟨g, a, none⟩ (.int .u64 d1[j]!)) (some g)) := grown_set (grown_set HG3.out _) _
                  have HD9 : Hid ((swp d1 j a).size = N) := by show _ = _; rw [Go.Sort.size_swp]; exact HD1.out
                  clear hsw hswb
                  generalize (d1.setIfInBounds j d1[a]!)[a]! = ysw at *
                  generalize d1[j]! = xi at *
                  generalize d1[a]! = xj at *
                  go_upto_region 15 with fail
                  go_region
                  all_goals
                    have HS9 : Hid (SoAt ((w3.setCell ⟨g, j, none⟩ (.int .u64 xj)).setCell ⟨g, a, none⟩ (.int .u64 xi)).drew g (swp d1 j a) t) := SoAt.drew HSa9.out
                    have HG9 : Hid (w.grownBy ((w3.setCell ⟨g, j, none⟩ (.int .u64 xj)).setCell ⟨g, a, none⟩ (.int .u64 xi)).drew (some g)) := grown_drew HGa9.out
                    clear HSa9 HGa9 c3 c4 f3 f4 f5 c5 hi1 hi2
                    generalize ((w3.setCell ⟨g, j, none⟩ (.int .u64 xj)).setCell ⟨g, a, none⟩ (.int .u64 xi)).drew = w9 at *
                    generalize swp d1 j a = d9 at *
                    go_wp2
                    go_ret2
                    exact ⟨j, true, d9, rfl, HPT.out, HS9.out, HG9.out⟩
end Go.Proofs.YtnedkpbpeolfoaaDoor
namespace Go.Proofs.YtnedkpbpeolfoaaDoor
open Go.RowKit Go.Maps
open Go.Sort (swp PermIn SortedIn)
/-- What partitionEqual's loops keep. -/
structure PE (d0 : Array Int) (a b i j : Nat) (d : Array Int) (p : Int) : Prop where
  sz : d.size = d0.size
  perm : PermIn a b d0 d
  piv : d[a]! = p
  ia : a + 1 ≤ i
  ij : i ≤ j + 1
  jb : j < b
  lo : ∀ x, a ≤ x → x < i → lt64 p d[x]! = false
  hi : ∀ x, j < x → x < b → lt64 p d[x]! = true
theorem PE.up {d0 : Array Int} {a b i j : Nat} {d : Array Int} {p : Int} (h : PE d0 a b i j d p) (hij : i ≤ j) (hl : lt64 p d[i]! = false) : PE d0 a b (i + 1) j d p :=
  ⟨h.sz, h.perm, h.piv, by have := h.ia; omega, by omega, h.jb, fun x h1 h2 => by
    by_cases e : x = i
    · subst e; exact hl
    · exact h.lo x h1 (by omega), h.hi⟩
theorem PE.down {d0 : Array Int} {a b i j : Nat} {d : Array Int} {p : Int} (h : PE d0 a b i (j + 1) d p) (hij : i ≤ j + 1) (hl : lt64 p d[j + 1]! = true) : PE d0 a b i j d p :=
  ⟨h.sz, h.perm, h.piv, h.ia, hij, by have := h.jb; omega, h.lo, fun x h1 h2 => by
    by_cases e : x = j + 1
    · subst e; exact hl
    · exact h.hi x (by omega) h2⟩
theorem PE.swap {d0 : Array Int} {a b i j : Nat} {d : Array Int} {p : Int} (h : PE d0 a b i (j + 1) d p) (hb : b ≤ d0.size) (hij : i ≤ j + 1) (h1 : lt64 p d[i]! = true) (h2 : lt64 p d[j + 1]! = false) : PE d0 a b (i + 1) j (swp d i (j + 1)) p := by
  have hne : i ≠ j + 1 := fun e => by subst e; rw [h1] at h2; cases h2
  have hia := h.ia
  have hjb := h.jb
  have hsz := h.sz
  refine ⟨by rw [Go.Sort.size_swp, hsz], Go.Sort.permIn_trans _ _ _ _ _ h.perm (Go.Sort.swp_permIn d a b i (j + 1) (by omega) (by omega) (by omega) hjb (by omega)), ?_, by omega, by omega, by omega, fun x k1 k2 => ?_, fun x k1 k2 => ?_⟩
  · rw [Go.Sort.swp_other _ _ _ _ (by omega) (by omega)]; exact h.piv
  · by_cases e : x = i
    · subst e
      rw [Go.Sort.swp_left _ _ _ (by omega) hne]; exact h2
    · rw [Go.Sort.swp_other _ _ _ _ e (by omega)]; exact h.lo x k1 (by omega)
  · by_cases e : x = j + 1
    · subst e
      rw [Go.Sort.swp_right _ _ _ (by omega)]; exact h1
    · rw [Go.Sort.swp_other _ _ _ _ (by omega) e]; exact h.hi x (by omega) k2
/-- What partitionEqual answers. -/
structure EqParted (d0 : Array Int) (a b m : Nat) (p : Int) (d : Array Int) : Prop where
  sz : d.size = d0.size
  ma : a < m
  mb : m ≤ b
  perm : PermIn a b d0 d
  lo : ∀ x, a ≤ x → x < m → lt64 p d[x]! = false
  hi : ∀ x, m ≤ x → x < b → lt64 p d[x]! = true
theorem PE.fin {d0 : Array Int} {a b i j : Nat} {d : Array Int} {p : Int} (h : PE d0 a b i j d p) (hij : ¬ i ≤ j) : EqParted d0 a b i p d := by
  have hia := h.ia
  have h0 := h.ij
  have hjb := h.jb
  exact ⟨h.sz, by omega, by omega, h.perm, h.lo, fun x k1 k2 => h.hi x (by omega) k2⟩
theorem pe_start {d0 : Array Int} {a b q : Nat} (hab : a < b) (hb : b ≤ d0.size) (hq1 : a ≤ q) (hq2 : q < b) : PE d0 a b (a + 1) (b - 1) (swp d0 a q) d0[q]! := by
  have hp : (swp d0 a q)[a]! = d0[q]! := by
    by_cases e : a = q
    · subst e; rw [Go.Sort.swp_right _ _ _ (by omega)]
    · rw [Go.Sort.swp_left _ _ _ (by omega) e]
  refine ⟨Go.Sort.size_swp _ _ _, Go.Sort.swp_permIn d0 a b a q (Nat.le_refl _) hab hq1 hq2 hb, hp, Nat.le_refl _, by omega, by omega, fun x h1 h2 => ?_, fun x h1 h2 => by omega⟩
  obtain rfl : x = a := by omega
  rw [hp]; exact swo64.irrefl _
set_option maxRecDepth 100000 in
set_option maxHeartbeats 8000000 in
theorem Tryd.partEq_any (g c a b q0 : Nat) (d0 : Array Int) (t : List Int) (w : World) (h : SoAt w g d0 t) (hab : a < b) (hb : b ≤ d0.size) (hq1 : a ≤ q0) (hq2 : q0 < b) (hn : d0.size ≤ 1000000) :
    Calls Tryd.prog 91 #[.slice (some ⟨g, 0, none⟩) d0.size c, .int .i64 (a : Int), .int .i64 (b : Int), .int .i64 (q0 : Int)] w fun e w' => ∃ (m : Nat) (d1 : Array Int), e = .returned (.int .i64 (m : Int)) ∧ EqParted d0 a b m d0[q0]! d1 ∧ SoAt w' g d1 t ∧ w.grownBy w' (some g) := by
  obtain ⟨N, hN⟩ : ∃ N, d0.size = N := ⟨_, rfl⟩
  have HS0 : Hid (SoAt w g d0 t) := h
  have HD0 : Hid (d0.size = N) := hN
  have HG0 : Hid (w.grownBy w (some g)) := World.grownBy.refl _ _
  have HP0 : Hid _ := pe_start hab hb hq1 hq2
  obtain ⟨J, hJ⟩ : ∃ J, b - 1 = J := ⟨_, rfl⟩
  rw [hJ] at HP0
  have HB : Hid (b ≤ d0.size) := hb
  rw [hN] at hb hn ⊢
  clear h hN
  go_enter Tryd.func91, Tryd.ntmps91
  have wi : IntKind.i64.wrap ((a : Int) + 1) = ((a + 1 : Nat) : Int) := by rw [IntKind.wrap_i64]; omega
  have wj : IntKind.i64.wrap ((b : Int) - 1) = (J : Int) := by rw [IntKind.wrap_i64]; omega
  have ej : (b : Int) - 1 = (J : Int) := by omega
  clear hJ
  obtain ⟨p, hp⟩ : ∃ p, p = d0[q0]! := ⟨_, rfl⟩
  rw [← hp] at HP0 ⊢
  have HPP : Hid (p = d0[q0]!) := hp
  clear hp
  go_wp2
  have hi1 := fun w' => Tryd.idxSo g N c a w' (by omega)
  have hi2 := fun w' => Tryd.idxSo g N c q0 w' (by omega)
  have hsw : SoAt w g d0 t := HS0.out
  have c3 := hsw.cell (i := a) (by rw [HD0.out]; omega)
  have c4 := hsw.cell (i := q0) (by rw [HD0.out]; omega)
  have f3 := hsw.fz a
  have f4 := hsw.fz q0
  have hswb : SoAt (w.setCell ⟨g, a, none⟩ (.int .u64 d0[q0]!)) g (d0.setIfInBounds a d0[q0]!) t := hsw.set (by rw [HD0.out]; omega) _
  have f5 := hswb.fz q0
  have c5 := hswb.cell (i := q0) (by rw [Array.size_setIfInBounds, HD0.out]; omega)
  have HSa1 : Hid (SoAt ((w.setCell ⟨g, a, none⟩ (.int .u64 d0[q0]!)).setCell ⟨g, q0, none⟩ (.int .u64 d0[a]!)) g (swp d0 a q0) t) := hsw.swap (by rw [HD0.out]; omega) (by rw [HD0.out]; omega)
  have HGa1 : Hid (w.grownBy ((w.setCell ⟨g, a, none⟩ (.int .u64 d0[q0]!)).setCell ⟨g, q0, none⟩ (.int .u64 d0[a]!)) (some g)) := grown_set (grown_set HG0.out _) _
  have HD1 : Hid ((swp d0 a q0).size = N) := by show _ = _; rw [Go.Sort.size_swp]; exact HD0.out
  clear hsw hswb
  generalize (d0.setIfInBounds a d0[q0]!)[q0]! = ysw at *
  generalize d0[a]! = xi at *
  generalize d0[q0]! = xj at *
  go_upto_region 15 with fail
  go_region
  all_goals
    have HS1 : Hid (SoAt ((w.setCell ⟨g, a, none⟩ (.int .u64 xj)).setCell ⟨g, q0, none⟩ (.int .u64 xi)).drew g (swp d0 a q0) t) := SoAt.drew HSa1.out
    have HG1 : Hid (w.grownBy ((w.setCell ⟨g, a, none⟩ (.int .u64 xj)).setCell ⟨g, q0, none⟩ (.int .u64 xi)).drew (some g)) := grown_drew HGa1.out
    clear HSa1 HGa1 c3 c4 f3 f4 f5 c5 hi1 hi2
    generalize ((w.setCell ⟨g, a, none⟩ (.int .u64 xj)).setCell ⟨g, q0, none⟩ (.int .u64 xi)).drew = w1 at *
    generalize swp d0 a q0 = d1 at *
    go_wp2
    clear wi wj ej
    go_loopw [9, 10] (fun iv jv wr => ∃ i j : Nat, iv = .int .i64 (i : Int) ∧ jv = .int .i64 (j : Int) ∧ ∃ dm : Array Int, Hid (dm.size = N) ∧ Hid (PE d0 a b i j dm p) ∧ Hid (SoAt wr g dm t) ∧ Hid (w.grownBy wr (some g))) (fun iv jv _ => (intOf jv + 1 - intOf iv).toNat)
    case atStart => exact ⟨a + 1, J, by go_num, rfl, d1, HD1, HP0, HS1, HG1⟩
    case round =>
      obtain ⟨i0, j0, rfl, rfl, dm, HDm, HPm, HSm, HGm⟩ := hrel
      clear HD1 HP0 HS1 HG1
      have a1 := HPm.out.ia
      have a2 := HPm.out.ij
      have a3 := HPm.out.jb
      go_wp2
      go_loopw [9] (fun sv wr => ∃ i : Nat, sv = .int .i64 (i : Int) ∧ Hid (PE d0 a b i j0 dm p) ∧ Hid (SoAt wr g dm t) ∧ Hid (w.grownBy wr (some g)) ∧ Hid (i0 ≤ i)) (fun sv _ => N + 1 - (intOf sv).toNat)
      case atStart => exact ⟨i0, by first | rfl | go_num, HPm, HSm, HGm, Nat.le_refl _⟩
      case round =>
        obtain ⟨i, rfl, HP5, HSr5, HGr5, HL5⟩ := hrel
        have bL := HL5.out
        clear HPm HSm HGm
        have b1 := HP5.out.ia
        have b2 := HP5.out.ij
        have b3 := HP5.out.jb
        obtain ⟨q, hq⟩ : ∃ q : Bool, q = (decide (i ≤ j0) && !lt64 dm[a]! dm[i]!) := ⟨_, rfl⟩
        have HQ : Hid (q = (decide (i ≤ j0) && !lt64 dm[a]! dm[i]!)) := hq
        clear hq
        go_upto_region 15 with fail
        go_cut [43] (fun cv wx => cv = .bool q ∧ Hid (SoAt wx g dm t) ∧ Hid (w.grownBy wx (some g)))
        case first =>
          by_cases hij : i ≤ j0
          · have hd : decide ((i : Int) ≤ (j0 : Int)) = true := decide_eq_true (by omega)
            have hi1 := fun w' => Tryd.idxSo g N c i w' (by omega)
            have hi2 := fun w' => Tryd.idxSo g N c a w' (by omega)
            have hsw : SoAt wr g dm t := HSr5.out
            have c3 := hsw.cell (i := i) (by rw [HDm.out]; omega)
            have c4 := hsw.cell (i := a) (by rw [HDm.out]; omega)
            have hless := fun w' => Tryd.less_any dm[a]! dm[i]! w'
            have HQ2 : Hid (q = !(lt64 dm[a]! dm[i]!)) := by
              show _ = _
              rw [HQ.out, decide_eq_true hij]; rfl
            clear hsw HQ
            generalize lt64 dm[a]! dm[i]! = lv at *
            generalize dm[i]! = xv at *
            generalize dm[a]! = xa at *
            obtain rfl := HQ2.out
            go_quiet ((go_at_call 90; exact Calls.quiet_of_same (hless _)))
            go_wp2
            go_meet
            case rel => exact ⟨rfl, SoAt.drewN HSr5.out _, grown_drewN HGr5.out _⟩
          · have hd : decide ((i : Int) ≤ (j0 : Int)) = false := decide_eq_false (by omega)
            have HQ2 : Hid (q = false) := by
              show _ = _
              rw [HQ.out, decide_eq_false hij]; rfl
            clear HQ
            obtain rfl := HQ2.out
            go_quiet (fail)
            go_wp2
            go_meet
            case rel => exact ⟨rfl, SoAt.drewN HSr5.out _, grown_drewN HGr5.out _⟩
        case rest =>
          obtain ⟨rfl, HS5, HG5⟩ := hcut
          clear HSr5 HGr5
          cases q with
          | true =>
            have hq := HQ.out.symm
            rw [Bool.and_eq_true, decide_eq_true_eq] at hq
            have HPX : Hid (PE d0 a b (i + 1) j0 dm p) := HP5.out.up hq.1 (by have h2 := hq.2; have h3 := HP5.out.piv; rw [← h3]; simpa using h2)
            clear HQ HP5
            go_wp2
            go_roundw
            case rel => exact ⟨i + 1, by go_num, HPX, HS5, HG5, by show _ ≤ _; omega⟩
            case measure => simp [intOf]; omega
          | false =>
            have HX5 : Hid (i ≤ j0 → lt64 dm[a]! dm[i]! = true) := fun h => by
              have := HQ.out
              rw [decide_eq_true h] at this
              simpa using this.symm
            clear HQ
            generalize wc = w5 at *
            go_wp2
            go_loopw [10] (fun sv wr => ∃ j : Nat, sv = .int .i64 (j : Int) ∧ Hid (PE d0 a b i j dm p) ∧ Hid (SoAt wr g dm t) ∧ Hid (w.grownBy wr (some g)) ∧ Hid (j ≤ j0)) (fun sv _ => (intOf sv).toNat)
            case atStart => exact ⟨j0, by first | rfl | go_num, HP5, HS5, HG5, Nat.le_refl _⟩
            case round =>
              obtain ⟨j, rfl, HP6, HSr6, HGr6, HL6⟩ := hrel
              have bL := HL6.out
              clear HP5 HS5 HG5
              have b1 := HP6.out.ia
              have b2 := HP6.out.ij
              have b3 := HP6.out.jb
              obtain ⟨q, hq⟩ : ∃ q : Bool, q = (decide (i ≤ j) && lt64 dm[a]! dm[j]!) := ⟨_, rfl⟩
              have HQ : Hid (q = (decide (i ≤ j) && lt64 dm[a]! dm[j]!)) := hq
              clear hq
              go_upto_region 15 with fail
              go_cut [59] (fun cv wx => cv = .bool q ∧ Hid (SoAt wx g dm t) ∧ Hid (w.grownBy wx (some g)))
              case first =>
                by_cases hij : i ≤ j
                · have hd : decide ((i : Int) ≤ (j : Int)) = true := decide_eq_true (by omega)
                  have hi1 := fun w' => Tryd.idxSo g N c j w' (by omega)
                  have hi2 := fun w' => Tryd.idxSo g N c a w' (by omega)
                  have hsw : SoAt wr g dm t := HSr6.out
                  have c3 := hsw.cell (i := j) (by rw [HDm.out]; omega)
                  have c4 := hsw.cell (i := a) (by rw [HDm.out]; omega)
                  have hless := fun w' => Tryd.less_any dm[a]! dm[j]! w'
                  have HQ2 : Hid (q = (lt64 dm[a]! dm[j]!)) := by
                    show _ = _
                    rw [HQ.out, decide_eq_true hij]; rfl
                  clear hsw HQ
                  generalize lt64 dm[a]! dm[j]! = lv at *
                  generalize dm[j]! = xv at *
                  generalize dm[a]! = xa at *
                  obtain rfl := HQ2.out
                  go_quiet ((go_at_call 90; exact Calls.quiet_of_same (hless _)))
                  go_wp2
                  go_meet
                  case rel => exact ⟨rfl, SoAt.drewN HSr6.out _, grown_drewN HGr6.out _⟩
                · have hd : decide ((i : Int) ≤ (j : Int)) = false := decide_eq_false (by omega)
                  have HQ2 : Hid (q = false) := by
                    show _ = _
                    rw [HQ.out, decide_eq_false hij]; rfl
                  clear HQ
                  obtain rfl := HQ2.out
                  go_quiet (fail)
                  go_wp2
                  go_meet
                  case rel => exact ⟨rfl, SoAt.drewN HSr6.out _, grown_drewN HGr6.out _⟩
              case rest =>
                obtain ⟨rfl, HS6, HG6⟩ := hcut
                clear HSr6 HGr6
                cases q with
                | true =>
                  have hq := HQ.out.symm
                  rw [Bool.and_eq_true, decide_eq_true_eq] at hq
                  obtain ⟨jm, hjm⟩ : ∃ jm, j = jm + 1 := ⟨j - 1, by omega⟩
                  have hdec : IntKind.i64.wrap ((j : Int) - 1) = (jm : Int) := by rw [IntKind.wrap_i64]; omega
                  have HPX : Hid (PE d0 a b i jm dm p) := by
                    subst hjm
                    exact HP6.out.down hq.1 (by have h2 := hq.2; have h3 := HP6.out.piv; rw [← h3]; simpa using h2)
                  have hlt : jm < j := by omega
                  clear HQ HP6 hjm hq
                  go_wp2
                  go_roundw
                  case rel => exact ⟨jm, rfl, HPX, HS6, HG6, by show _ ≤ _; omega⟩
                  case measure => simp [intOf]; omega
                | false =>
                  have HX6 : Hid (i ≤ j → lt64 dm[a]! dm[j]! = false) := fun h => by
                    have := HQ.out
                    rw [decide_eq_true h] at this
                    simpa using this.symm
                  clear HQ
                  generalize wc = w6 at *
                  by_cases hij : i ≤ j
                  · have hij2 : ¬ (j : Int) < (i : Int) := by omega
                    obtain ⟨jm, hjm⟩ : ∃ jm, j = jm + 1 := ⟨j - 1, by omega⟩
                    have hdec : IntKind.i64.wrap ((j : Int) - 1) = (jm : Int) := by rw [IntKind.wrap_i64]; omega
                    have ejm : (j : Int) - 1 = (jm : Int) := by omega
                    have HPS : Hid (PE d0 a b (i + 1) jm (swp dm i j) p) := by
                      have h1 := HX5.out (by omega)
                      have h2 := HX6.out hij
                      rw [HP6.out.piv] at h1 h2
                      subst hjm
                      exact HP6.out.swap HB.out hij h1 h2
                    have hi0 : i0 ≤ i := HL5.out
                    have hjj : jm < j0 := by omega
                    clear HX5 HX6 HP6 hjm
                    go_wp2
                    have hi1 := fun w' => Tryd.idxSo g N c i w' (by omega)
                    have hi2 := fun w' => Tryd.idxSo g N c j w' (by omega)
                    have hsw : SoAt w6 g dm t := HS6.out
                    have c3 := hsw.cell (i := i) (by rw [HDm.out]; omega)
                    have c4 := hsw.cell (i := j) (by rw [HDm.out]; omega)
                    have f3 := hsw.fz i
                    have f4 := hsw.fz j
                    have hswb : SoAt (w6.setCell ⟨g, i, none⟩ (.int .u64 dm[j]!)) g (dm.setIfInBounds i dm[j]!) t := hsw.set (by rw [HDm.out]; omega) _
                    have f5 := hswb.fz j
                    have c5 := hswb.cell (i := j) (by rw [Array.size_setIfInBounds, HDm.out]; omega)
                    have HSa7 : Hid (SoAt ((w6.setCell ⟨g, i, none⟩ (.int .u64 dm[j]!)).setCell ⟨g, j, none⟩ (.int .u64 dm[i]!)) g (swp dm i j) t) := hsw.swap (by rw [HDm.out]; omega) (by rw [HDm.out]; omega)
                    have HGa7 : Hid (w.grownBy ((w6.setCell ⟨g, i, none⟩ (.int .u64 dm[j]!)).setCell ⟨g, j, none⟩ (.int .u64 dm[i]!)) (some g)) := grown_set (grown_set HG6.out _) _
                    have HD7 : Hid ((swp dm i j).size = N) := by show _ = _; rw [Go.Sort.size_swp]; exact HDm.out
                    clear hsw hswb
                    generalize (dm.setIfInBounds i dm[j]!)[j]! = ysw at *
                    generalize dm[i]! = xi at *
                    generalize dm[j]! = xj at *
                    go_upto_region 15 with fail
                    go_region
                    all_goals
                      have HS7 : Hid (SoAt ((w6.setCell ⟨g, i, none⟩ (.int .u64 xj)).setCell ⟨g, j, none⟩ (.int .u64 xi)).drew g (swp dm i j) t) := SoAt.drew HSa7.out
                      have HG7 : Hid (w.grownBy ((w6.setCell ⟨g, i, none⟩ (.int .u64 xj)).setCell ⟨g, j, none⟩ (.int .u64 xi)).drew (some g)) := grown_drew HGa7.out
                      clear HSa7 HGa7 c3 c4 f3 f4 f5 c5 hi1 hi2
                      generalize ((w6.setCell ⟨g, i, none⟩ (.int .u64 xj)).setCell ⟨g, j, none⟩ (.int .u64 xi)).drew = w7 at *
                      generalize swp dm i j = d7 at *
                      go_wp2
                      go_roundw
                      case rel => exact ⟨i + 1, jm, by go_num, rfl, d7, HD7, HPS, HS7, HG7⟩
                      case measure => simp [intOf]; omega
                  · have HPT : Hid (EqParted d0 a b i p dm) := HP6.out.fin hij
                    have hij' : (j : Int) < (i : Int) := by omega
                    clear HP6
                    go_wp2
                    go_ret
                    exact ⟨i, dm, rfl, HPT.out, HS6.out, HG6.out⟩
end Go.Proofs.YtnedkpbpeolfoaaDoor
namespace Go.Proofs.YtnedkpbpeolfoaaDoor
open Go.RowKit Go.Maps
open Go.Sort (swp PermIn SortedIn)
/-- Block sb: a counter. -/
def CB (w : World) (sb s : Nat) : Prop := w.heap[sb]? = some (.cells #[.int .i64 (s : Int)] 3 (0, 0))
theorem CB.ne {w : World} {g sb s : Nat} {d : Array Int} {t : List Int} (h : CB w sb s) (k : SoAt w g d t) : g ≠ sb := fun e => by
  unfold CB at h
  unfold SoAt at k
  rw [← e, k] at h
  injection h with h
  injection h with _ h _
  exact absurd h (by decide)
theorem SoAt.grown {w w' : World} {g sb : Nat} {d : Array Int} {t : List Int} (h : SoAt w g d t) (hg : w.grownBy w' (some sb)) (hne : g ≠ sb) : SoAt w' g d t := (hg.block g h.lt (fun e => hne (by injection e))).trans h
set_option maxRecDepth 100000 in
theorem Tryd.order2_any (g c x y sb s : Nat) (d : Array Int) (t : List Int) (w : World) (h : SoAt w g d t) (hc : CB w sb s) (hx : x < d.size) (hy : y < d.size) (hs : s ≤ 1000) :
    Calls Tryd.prog 101 #[.slice (some ⟨g, 0, none⟩) d.size c, .int .i64 (x : Int), .int .i64 (y : Int), .pointer (some ⟨sb, 0, none⟩)] w fun e w' =>
      ∃ x' y' s' : Nat, e = .returned (.tuple #[.int .i64 (x' : Int), .int .i64 (y' : Int)]) ∧ (x' = x ∧ y' = y ∨ x' = y ∧ y' = x) ∧ s' ≤ s + 1 ∧ CB w' sb s' ∧ w.grownBy w' (some sb) := by
  have hi1 := fun w' => Tryd.idxSo g d.size c x w' hx
  have hi2 := fun w' => Tryd.idxSo g d.size c y w' hy
  have c1 := h.cell hx
  have c2 := h.cell hy
  have hless := fun w' => Tryd.less_any d[y]! d[x]! w'
  have HC : Hid (CB w sb s) := hc
  clear h hc
  generalize d.size = N at *
  generalize d[x]! = vx at *
  generalize d[y]! = vy at *
  cases hl : lt64 vy vx with
  | false =>
    rw [hl] at hless
    clear hl
    go_enter Tryd.func101, Tryd.ntmps101
    go_upto_region 15 with fail
    go_quiet ((go_at_call 90; exact Calls.quiet_of_same (hless _)))
    go_wp2
    go_ret2
    exact ⟨x, y, s, rfl, Or.inl ⟨rfl, rfl⟩, by omega, (below_drewN (Below.refl w.heap.size w) _).block sb (Array.getElem?_eq_some_iff.1 HC.out).1 |>.trans HC.out, grown_drewN (World.grownBy.refl _ _) _⟩
  | true =>
    rw [hl] at hless
    clear hl
    go_enter Tryd.func101, Tryd.ntmps101
    go_upto_region 15 with fail
    go_quiet ((go_at_call 90; exact Calls.quiet_of_same (hless _)))
    have hcb : CB (w.drewN nq) sb s := (below_drewN (Below.refl w.heap.size w) _).block sb (Array.getElem?_eq_some_iff.1 HC.out).1 |>.trans HC.out
    have q0 : (w.drewN nq).cell? ⟨sb, 0, none⟩ = some (.int .i64 (s : Int)) := cell_row hcb 0
    have z0 : (w.drewN nq).frozen? ⟨sb, 0, none⟩ = false := frozen_of_row _ sb 0 _ _ hcb
    have wS : IntKind.i64.wrap ((s : Int) + 1) = ((s + 1 : Nat) : Int) := by rw [IntKind.wrap_i64]; omega
    have HC2 : Hid (CB ((w.drewN nq).setCell ⟨sb, 0, none⟩ (.int .i64 ((s + 1 : Nat) : Int))) sb (s + 1)) := by
      show CB _ _ _
      unfold CB
      rw [heap_setCell_same _ sb 0 _ _ _ hcb]; rfl
    have HG2 : Hid (w.grownBy ((w.drewN nq).setCell ⟨sb, 0, none⟩ (.int .i64 ((s + 1 : Nat) : Int))) (some sb)) := grown_set (grown_drewN (World.grownBy.refl _ _) _) _
    obtain ⟨S1, hS1⟩ : ∃ S1, s + 1 = S1 := ⟨_, rfl⟩
    rw [hS1] at wS HC2 HG2
    have HS1 : Hid (s + 1 = S1) := hS1
    clear hcb c1 c2 hS1
    have eS : (s : Int) + 1 = (S1 : Int) := by have := HS1.out; omega
    go_wp2
    go_ret2
    exact ⟨y, x, S1, rfl, Or.inr ⟨rfl, rfl⟩, by have := HS1.out; omega, HC2.out, HG2.out⟩
set_option maxRecDepth 100000 in
theorem Tryd.median_any (g c x y z sb s : Nat) (d : Array Int) (t : List Int) (w : World) (h : SoAt w g d t) (hc : CB w sb s) (hx : x < d.size) (hy : y < d.size) (hz : z < d.size) (hs : s ≤ 100) :
    Calls Tryd.prog 99 #[.slice (some ⟨g, 0, none⟩) d.size c, .int .i64 (x : Int), .int .i64 (y : Int), .int .i64 (z : Int), .pointer (some ⟨sb, 0, none⟩)] w fun e w' =>
      ∃ m s' : Nat, e = .returned (.int .i64 (m : Int)) ∧ (m = x ∨ m = y ∨ m = z) ∧ s' ≤ s + 3 ∧ CB w' sb s' ∧ w.grownBy w' (some sb) := by
  have hne := hc.ne h
  have j1 := Tryd.order2_any g c x y sb s d t w h hc hx hy (by omega)
  have HS : Hid _ := h
  go_enter Tryd.func99, Tryd.ntmps99
  go_wp2_with fail
  refine j1.mono ?_
  rintro e w1 ⟨x1, y1, s1, rfl, hp1, hs1, hc1, hg1⟩
  have j2 := Tryd.order2_any g c y1 z sb s1 d t w1 (SoAt.grown HS.out hg1 hne) hc1 (by omega) hz (by omega)
  clear j1
  go_wp2_with fail
  refine j2.mono ?_
  rintro e w2 ⟨y2, z2, s2, rfl, hp2, hs2, hc2, hg2⟩
  have hg12 := grow_thenS hg1 hg2
  have j3 := Tryd.order2_any g c x1 y2 sb s2 d t w2 (SoAt.grown HS.out hg12 hne) hc2 (by omega) (by omega) (by omega)
  clear j2
  go_wp2_with fail
  refine j3.mono ?_
  rintro e w3 ⟨x3, y3, s3, rfl, hp3, hs3, hc3, hg3⟩
  have HF : Hid (CB w3 sb s3 ∧ w.grownBy w3 (some sb) ∧ (y3 = x ∨ y3 = y ∨ y3 = z) ∧ s3 ≤ s + 3) := ⟨hc3, grow_thenS hg12 hg3, by omega, by omega⟩
  clear j3 hc1 hc2 hc3 hg1 hg2 hg3 hg12 hp1 hp2 hp3 hs1 hs2 hs3
  go_wp2
  go_ret
  exact ⟨y3, s3, rfl, HF.out.2.2.1, HF.out.2.2.2, HF.out.1, HF.out.2.1⟩
set_option maxRecDepth 100000 in
theorem Tryd.medianAdj_any (g c x sb s : Nat) (d : Array Int) (t : List Int) (w : World) (h : SoAt w g d t) (hc : CB w sb s) (h1 : 1 ≤ x) (hx : x + 1 < d.size) (hs : s ≤ 100) (hn : d.size ≤ 1000000) :
    Calls Tryd.prog 98 #[.slice (some ⟨g, 0, none⟩) d.size c, .int .i64 (x : Int), .pointer (some ⟨sb, 0, none⟩)] w fun e w' =>
      ∃ m s' : Nat, e = .returned (.int .i64 (m : Int)) ∧ x - 1 ≤ m ∧ m ≤ x + 1 ∧ s' ≤ s + 3 ∧ CB w' sb s' ∧ w.grownBy w' (some sb) := by
  obtain ⟨x0, hx0⟩ : ∃ x0, x0 = x - 1 := ⟨_, rfl⟩
  obtain ⟨x1, hx1⟩ : ∃ x1, x1 = x + 1 := ⟨_, rfl⟩
  have j1 := Tryd.median_any g c x0 x x1 sb s d t w h hc (by omega) (by omega) (by omega) hs
  have w0 : IntKind.i64.wrap ((x : Int) - 1) = (x0 : Int) := by rw [IntKind.wrap_i64]; omega
  have e0 : (x : Int) - 1 = (x0 : Int) := by omega
  have w1 : IntKind.i64.wrap ((x : Int) + 1) = (x1 : Int) := by rw [IntKind.wrap_i64]; omega
  have e1 : (x : Int) + 1 = (x1 : Int) := by omega
  have HX : Hid (x0 = x - 1 ∧ x1 = x + 1) := ⟨hx0, hx1⟩
  clear h hc hx0 hx1
  go_enter Tryd.func98, Tryd.ntmps98
  go_wp2_with fail
  refine j1.mono ?_
  rintro e w2 ⟨m, s', rfl, hm, hs', hc', hg'⟩
  have HF : Hid (CB w2 sb s' ∧ w.grownBy w2 (some sb) ∧ x - 1 ≤ m ∧ m ≤ x + 1) := ⟨hc', hg', by have := HX.out; omega, by have := HX.out; omega⟩
  clear j1 hc' hg' hm
  go_wp2
  go_ret
  exact ⟨m, s', rfl, HF.out.2.2.1, HF.out.2.2.2, hs', HF.out.1, HF.out.2.1⟩
theorem grow_new {w w' : World} {o : Obj} (h : (w.alloc o).grownBy w' (some w.heap.size)) : w.grownBy w' none := by
  have hb := below_new w o
  exact ⟨h.os.trans hb.os, h.tape.trans hb.tape, h.output.trans hb.output, Nat.le_trans hb.size h.size, fun j hj _ => (h.block j (Nat.lt_of_lt_of_le hj hb.size) (fun e => by injection e with e; omega)).trans (hb.block j hj)⟩
theorem SoAt.grown0 {w w' : World} {g : Nat} {d : Array Int} {t : List Int} (h : SoAt w g d t) (hg : w.grownBy w' none) : SoAt w' g d t := (hg.block g h.lt (fun e => by cases e)).trans h
set_option maxRecDepth 100000 in
set_option maxHeartbeats 2000000 in
theorem Tryd.choose_any (g c a b : Nat) (d : Array Int) (t : List Int) (w : World) (h : SoAt w g d t) (hab : a + 12 < b) (hb : b ≤ d.size) (hn : d.size ≤ 1000000) :
    Calls Tryd.prog 87 #[.slice (some ⟨g, 0, none⟩) d.size c, .int .i64 (a : Int), .int .i64 (b : Int)] w fun e w' =>
      ∃ m k : Nat, e = .returned (.tuple #[.int .i64 (m : Int), .int .i64 (k : Int)]) ∧ a ≤ m ∧ m < b ∧ k ≤ 2 ∧ SoAt w' g d t ∧ w.grownBy w' none := by
  obtain ⟨L, hL⟩ : ∃ L, L = b - a := ⟨_, rfl⟩
  obtain ⟨T, hT⟩ : ∃ T, T = L / 4 := ⟨_, rfl⟩
  obtain ⟨T2, hT2⟩ : ∃ T2, T2 = T * 2 := ⟨_, rfl⟩
  obtain ⟨T3, hT3⟩ : ∃ T3, T3 = T * 3 := ⟨_, rfl⟩
  obtain ⟨I, hI⟩ : ∃ I, I = a + T := ⟨_, rfl⟩
  obtain ⟨J, hJ⟩ : ∃ J, J = a + T2 := ⟨_, rfl⟩
  obtain ⟨K, hK⟩ : ∃ K, K = a + T3 := ⟨_, rfl⟩
  have wL : IntKind.i64.wrap ((b : Int) - (a : Int)) = (L : Int) := by rw [IntKind.wrap_i64]; omega
  have eL : (b : Int) - (a : Int) = (L : Int) := by omega
  have tT : ((L : Int)).tdiv 4 = (T : Int) := by rw [Int.tdiv_eq_ediv_of_nonneg (by omega)]; omega
  have wT2 : IntKind.i64.wrap ((T : Int) * 2) = (T2 : Int) := by rw [IntKind.wrap_i64]; omega
  have eT2 : (T : Int) * 2 = (T2 : Int) := by omega
  have wT3 : IntKind.i64.wrap ((T : Int) * 3) = (T3 : Int) := by rw [IntKind.wrap_i64]; omega
  have eT3 : (T : Int) * 3 = (T3 : Int) := by omega
  have wI : IntKind.i64.wrap ((a : Int) + (T : Int)) = (I : Int) := by rw [IntKind.wrap_i64]; omega
  have eI : (a : Int) + (T : Int) = (I : Int) := by omega
  have wJ : IntKind.i64.wrap ((a : Int) + (T2 : Int)) = (J : Int) := by rw [IntKind.wrap_i64]; omega
  have eJ : (a : Int) + (T2 : Int) = (J : Int) := by omega
  have wK : IntKind.i64.wrap ((a : Int) + (T3 : Int)) = (K : Int) := by rw [IntKind.wrap_i64]; omega
  have eK : (a : Int) + (T3 : Int) = (K : Int) := by omega
  have h8 : ((8 : Int) ≤ (L : Int)) := by omega
  have HIJ : Hid (a ≤ I ∧ a ≤ J ∧ a ≤ K ∧ K + 1 < b ∧ J + 1 < b ∧ I + 1 < b ∧ (50 ≤ L → a + 1 ≤ I ∧ a + 1 ≤ J ∧ a + 1 ≤ K)) := by
    refine ⟨by omega, by omega, by omega, by omega, by omega, by omega, fun _ => ⟨by omega, by omega, by omega⟩⟩
  have hb1 := below_new w (.cells #[.int .i64 0] 3)
  have hs1 : SoAt (w.alloc (.cells #[.int .i64 0] 3)) g d t := (hb1.block g h.lt).trans h
  have hc1 : CB (w.alloc (.cells #[.int .i64 0] 3)) w.heap.size 0 := (MapKept.heap_alloc w _).1
  have hne := hc1.ne hs1
  have HS0 : Hid _ := h
  have HF : Hid (∀ (w' : World) (m k : Nat), (w.alloc (.cells #[.int .i64 0] 3)).grownBy w' (some w.heap.size) → a ≤ m → m < b → k ≤ 2 → ∃ m' k' : Nat, Ending.returned (.tuple #[.int .i64 (m : Int), .int .i64 (k : Int)]) = .returned (.tuple #[.int .i64 (m' : Int), .int .i64 (k' : Int)]) ∧ a ≤ m' ∧ m' < b ∧ k' ≤ 2 ∧ SoAt w' g d t ∧ w.grownBy w' none) := fun w' m k hg h1 h2 h3 => ⟨m, k, rfl, h1, h2, h3, h.grown0 (grow_new hg), grow_new hg⟩
  clear hL hT hT2 hT3 hI hJ hK
  have HIJ1 := HIJ.out
  by_cases h50 : 50 ≤ L
  · have h50' : ((50 : Int) ≤ (L : Int)) := by omega
    have j1 := Tryd.medianAdj_any g c I w.heap.size 0 d t _ hs1 hc1 (by omega) (by omega) (by omega) hn
    have HS1 : Hid (SoAt _ g d t) := hs1
    clear hs1 hc1 hb1 h
    go_enter Tryd.func87, Tryd.ntmps87
    go_wp2_with fail
    generalize w.alloc (.cells #[.int .i64 0] 3) = w1 at *
    refine j1.mono ?_
    rintro e w2 ⟨m2, s2, rfl, p2, q2, hs2, hc2, hg2⟩
    have j2 := Tryd.medianAdj_any g c J w.heap.size s2 d t w2 (SoAt.grown HS1.out hg2 hne) hc2 (by omega) (by omega) (by omega) hn
    clear j1
    go_wp2_with fail
    refine j2.mono ?_
    rintro e w3 ⟨m3, s3, rfl, p3, q3, hs3, hc3, hg3⟩
    have hg23 := grow_thenS hg2 hg3
    have j3 := Tryd.medianAdj_any g c K w.heap.size s3 d t w3 (SoAt.grown HS1.out hg23 hne) hc3 (by omega) (by omega) (by omega) hn
    clear j2
    go_wp2_with fail
    refine j3.mono ?_
    rintro e w4 ⟨m4, s4, rfl, p4, q4, hs4, hc4, hg4⟩
    have hg24 := grow_thenS hg23 hg4
    have j4 := Tryd.median_any g c m2 m3 m4 w.heap.size s4 d t w4 (SoAt.grown HS1.out hg24 hne) hc4 (by omega) (by omega) (by omega) (by omega)
    clear j3
    go_wp2_with fail
    refine j4.mono ?_
    rintro e w5 ⟨m5, s5, rfl, p5, hs5, hc5, hg5⟩
    have HZ : Hid (CB w5 w.heap.size s5 ∧ w1.grownBy w5 (some w.heap.size) ∧ a ≤ m5 ∧ m5 < b) := ⟨hc5, grow_thenS hg24 hg5, by omega, by omega⟩
    clear j4 hc2 hc3 hc4 hc5 hg2 hg3 hg4 hg5 hg23 hg24 p2 p3 p4 p5 q2 q3 q4
    have q0 : w5.cell? ⟨w.heap.size, 0, none⟩ = some (.int .i64 (s5 : Int)) := cell_row HZ.out.1 0
    by_cases z0 : s5 = 0
    · obtain rfl := z0
      go_wp2
      go_ret2
      exact HF.out w5 m5 1 HZ.out.2.1 HZ.out.2.2.1 HZ.out.2.2.2 (by omega)
    · have z0' : ((s5 : Int) == 0) = false := by rw [beq_eq_false_iff_ne]; omega
      by_cases z1 : s5 = 12
      · obtain rfl := z1
        go_wp2
        go_ret2
        exact HF.out w5 m5 2 HZ.out.2.1 HZ.out.2.2.1 HZ.out.2.2.2 (by omega)
      · have z1' : ((s5 : Int) == 12) = false := by rw [beq_eq_false_iff_ne]; omega
        go_wp2
        go_ret2
        exact HF.out w5 m5 0 HZ.out.2.1 HZ.out.2.2.1 HZ.out.2.2.2 (by omega)
  · have h50' : ¬ ((50 : Int) ≤ (L : Int)) := by omega
    have j4 := Tryd.median_any g c I J K w.heap.size 0 d t _ hs1 hc1 (by omega) (by omega) (by omega) (by omega)
    clear hs1 hc1 hb1 h
    go_enter Tryd.func87, Tryd.ntmps87
    go_wp2_with fail
    generalize w.alloc (.cells #[.int .i64 0] 3) = w1 at *
    refine j4.mono ?_
    rintro e w5 ⟨m5, s5, rfl, p5, hs5, hc5, hg5⟩
    have HZ : Hid (CB w5 w.heap.size s5 ∧ w1.grownBy w5 (some w.heap.size) ∧ a ≤ m5 ∧ m5 < b) := ⟨hc5, hg5, by omega, by omega⟩
    clear j4 hc5 hg5 p5
    have q0 : w5.cell? ⟨w.heap.size, 0, none⟩ = some (.int .i64 (s5 : Int)) := cell_row HZ.out.1 0
    by_cases z0 : s5 = 0
    · obtain rfl := z0
      go_wp2
      go_ret2
      exact HF.out w5 m5 1 HZ.out.2.1 HZ.out.2.2.1 HZ.out.2.2.2 (by omega)
    · have z0' : ((s5 : Int) == 0) = false := by rw [beq_eq_false_iff_ne]; omega
      by_cases z1 : s5 = 12
      · obtain rfl := z1
        go_wp2
        go_ret2
        exact HF.out w5 m5 2 HZ.out.2.1 HZ.out.2.2.1 HZ.out.2.2.2 (by omega)
      · have z1' : ((s5 : Int) == 12) = false := by rw [beq_eq_false_iff_ne]; omega
        go_wp2
        go_ret2
        exact HF.out w5 m5 0 HZ.out.2.1 HZ.out.2.2.1 HZ.out.2.2.2 (by omega)
end Go.Proofs.YtnedkpbpeolfoaaDoor
namespace Go.Proofs.YtnedkpbpeolfoaaDoor
open Go.RowKit Go.Maps
open Go.Sort (swp PermIn SortedIn)
def dnD (a i : Nat) (d : Array Int) : Array Int := if i - a ≥ 2 then Go.Sort.shiftDown lt64 (i - 1) d else d
def upD (b i : Nat) (d : Array Int) : Array Int := if b - i ≥ 2 then Go.Sort.shiftUp lt64 b (i + 1) d else d
theorem pins_step (a b s i : Nat) (d : Array Int) : Go.Sort.partialIns lt64 a b (s + 1) i d = if Go.Sort.scanSorted lt64 d b i = b then (d, true) else if b - a < 50 then (d, false) else Go.Sort.partialIns lt64 a b s (Go.Sort.scanSorted lt64 d b i) (upD b (Go.Sort.scanSorted lt64 d b i) (dnD a (Go.Sort.scanSorted lt64 d b i) (swp d (Go.Sort.scanSorted lt64 d b i) (Go.Sort.scanSorted lt64 d b i - 1)))) := rfl
theorem scan_yes {b i : Nat} {d : Array Int} (h : i < b) (hl : lt64 d[i]! d[i - 1]! = false) : Go.Sort.scanSorted lt64 d b i = Go.Sort.scanSorted lt64 d b (i + 1) := by
  conv => lhs; unfold Go.Sort.scanSorted
  rw [if_pos]
  simp [h, hl]
theorem scan_no {b i : Nat} {d : Array Int} (h : i < b → lt64 d[i]! d[i - 1]! = true) : Go.Sort.scanSorted lt64 d b i = i := by
  unfold Go.Sort.scanSorted
  rw [if_neg]
  intro hc
  rw [Bool.and_eq_true, decide_eq_true_eq] at hc
  rw [h hc.1] at hc
  simp at hc
theorem dn_no {j : Nat} {d : Array Int} (h : lt64 d[j + 1]! d[j]! = false) : Go.Sort.shiftDown lt64 (j + 1) d = d := by
  unfold Go.Sort.shiftDown
  rw [h]; rfl
theorem dn_yes {j : Nat} {d : Array Int} (h : lt64 d[j + 1]! d[j]! = true) : Go.Sort.shiftDown lt64 (j + 1) d = Go.Sort.shiftDown lt64 j (swp d (j + 1) j) := by
  conv => lhs; unfold Go.Sort.shiftDown
  rw [h]; rfl
theorem up_end {b j : Nat} {d : Array Int} (h : ¬ j < b) : Go.Sort.shiftUp lt64 b j d = d := by
  unfold Go.Sort.shiftUp
  rw [if_neg h]
theorem up_no {b j : Nat} {d : Array Int} (hj : j < b) (h : lt64 d[j]! d[j - 1]! = false) : Go.Sort.shiftUp lt64 b j d = d := by
  unfold Go.Sort.shiftUp
  rw [if_pos hj, h]; rfl
theorem up_yes {b j : Nat} {d : Array Int} (hj : j < b) (h : lt64 d[j]! d[j - 1]! = true) : Go.Sort.shiftUp lt64 b j d = Go.Sort.shiftUp lt64 b (j + 1) (swp d j (j - 1)) := by
  conv => lhs; unfold Go.Sort.shiftUp
  rw [if_pos hj, h]; rfl
set_option maxRecDepth 100000 in
set_option maxHeartbeats 16000000 in
theorem Tryd.pins_any (g c a b : Nat) (d : Array Int) (t : List Int) (w : World) (h : SoAt w g d t) (hab : a < b) (hb : b ≤ d.size) (hn : d.size ≤ 1000000) :
    Calls Tryd.prog 89 #[.slice (some ⟨g, 0, none⟩) d.size c, .int .i64 (a : Int), .int .i64 (b : Int)] w fun e w' => e = .returned (.bool (Go.Sort.partialInsertionSort lt64 d a b).2) ∧ SoAt w' g (Go.Sort.partialInsertionSort lt64 d a b).1 t ∧ w.grownBy w' (some g) := by
  obtain ⟨N, hN⟩ : ∃ N, d.size = N := ⟨_, rfl⟩
  obtain ⟨R, hR⟩ : ∃ R, Go.Sort.partialInsertionSort lt64 d a b = R := ⟨_, rfl⟩
  have HI0 : Hid (Go.Sort.partialIns lt64 a b 5 (a + 1) d = R) := hR
  have HS0 : Hid (SoAt w g d t) := h
  have HD0 : Hid (d.size = N) := hN
  have HG0 : Hid (w.grownBy w (some g)) := World.grownBy.refl _ _
  rw [hN] at hb hn ⊢
  rw [hR]
  obtain ⟨R1, R2⟩ := R
  dsimp only
  clear h hN hR
  go_enter Tryd.func89, Tryd.ntmps89
  go_wp2
  go_loopw [7, 8] (fun iv kv wr => ∃ i k : Nat, a + 1 ≤ i ∧ i ≤ b ∧ k ≤ 5 ∧ iv = .int .i64 (i : Int) ∧ kv = .int .i64 (k : Int) ∧ ∃ dk : Array Int, Hid (dk.size = N) ∧ Hid (SoAt wr g dk t) ∧ Hid (Go.Sort.partialIns lt64 a b (5 - k) i dk = (R1, R2)) ∧ Hid (w.grownBy wr (some g))) (fun _ kv _ => 5 - (intOf kv).toNat)
  case atStart => exact ⟨a + 1, 0, Nat.le_refl _, by omega, by omega, by go_num, rfl, d, HD0, HS0, HI0, HG0⟩
  case round =>
    obtain ⟨i0, k, hi1, hi2, hk, rfl, rfl, dk, HD, HS, HI, HG⟩ := hrel
    clear HD0 HS0 HI0 HG0
    by_cases hk5 : k < 5
    · have hk5' : (k : Int) < 5 := by omega
      obtain ⟨I, hI⟩ : ∃ I, Go.Sort.scanSorted lt64 dk b i0 = I := ⟨_, rfl⟩
      have HST : Hid ((if I = b then (dk, true) else if b - a < 50 then (dk, false) else Go.Sort.partialIns lt64 a b (5 - (k + 1)) I (upD b I (dnD a I (swp dk I (I - 1))))) = (R1, R2)) := by
        have h0 := HI.out
        rw [show 5 - k = (5 - (k + 1)) + 1 by omega, pins_step, hI] at h0
        exact h0
      have HSC : Hid (Go.Sort.scanSorted lt64 dk b i0 = I) := hI
      clear hI HI
      go_wp2
      go_loopw [7] (fun sv wr => ∃ i : Nat, i0 ≤ i ∧ i ≤ b ∧ sv = .int .i64 (i : Int) ∧ Hid (Go.Sort.scanSorted lt64 dk b i = I) ∧ Hid (SoAt wr g dk t) ∧ Hid (w.grownBy wr (some g))) (fun sv _ => N + 1 - (intOf sv).toNat)
      case atStart => exact ⟨i0, Nat.le_refl _, hi2, rfl, HSC, HS, HG⟩
      case round =>
        obtain ⟨i, ha1, ha2, rfl, HSC2, HSr, HGr⟩ := hrel
        clear HSC HS HG
        obtain ⟨im, him⟩ : ∃ im, im = i - 1 := ⟨_, rfl⟩
        have wim : IntKind.i64.wrap ((i : Int) - 1) = (im : Int) := by rw [IntKind.wrap_i64]; omega
        have eim : (i : Int) - 1 = (im : Int) := by omega
        have HIM : Hid (im = i - 1) := him
        have hxm : im < i := by omega
        clear him
        obtain ⟨q, hq⟩ : ∃ q : Bool, q = (decide (i < b) && !lt64 dk[i]! dk[im]!) := ⟨_, rfl⟩
        have HQ : Hid (q = (decide (i < b) && !lt64 dk[i]! dk[im]!)) := hq
        clear hq
        go_upto_region 15 with fail
        go_cut [32] (fun cv wx => cv = .bool q ∧ Hid (SoAt wx g dk t) ∧ Hid (w.grownBy wx (some g)))
        case first =>
          by_cases hij : i < b
          · have hd : decide ((i : Int) < (b : Int)) = true := decide_eq_true (by omega)
            have j1 := fun w' => Tryd.idxSo g N c i w' (by omega)
            have j2 := fun w' => Tryd.idxSo g N c im w' (by omega)
            have hsw : SoAt wr g dk t := HSr.out
            have c3 := hsw.cell (i := i) (by rw [HD.out]; omega)
            have c4 := hsw.cell (i := im) (by rw [HD.out]; omega)
            have hless := fun w' => Tryd.less_any dk[i]! dk[im]! w'
            have HQ2 : Hid (q = !(lt64 dk[i]! dk[im]!)) := by
              show _ = _
              rw [HQ.out, decide_eq_true hij]; rfl
            clear hsw HQ
            generalize lt64 dk[i]! dk[im]! = lv at *
            generalize dk[i]! = xv at *
            generalize dk[im]! = xa at *
            obtain rfl := HQ2.out
            go_quiet ((go_at_call 90; exact Calls.quiet_of_same (hless _)))
            go_wp2
            go_meet
            case rel => exact ⟨rfl, SoAt.drewN HSr.out _, grown_drewN HGr.out _⟩
          · have hd : decide ((i : Int) < (b : Int)) = false := decide_eq_false (by omega)
            have HQ2 : Hid (q = false) := by
              show _ = _
              rw [HQ.out, decide_eq_false hij]; rfl
            clear HQ
            obtain rfl := HQ2.out
            go_quiet (fail)
            go_wp2
            go_meet
            case rel => exact ⟨rfl, SoAt.drewN HSr.out _, grown_drewN HGr.out _⟩
        case rest =>
          obtain ⟨rfl, HS5, HG5⟩ := hcut
          clear HSr HGr
          cases q with
          | true =>
            have hq := HQ.out.symm
            rw [Bool.and_eq_true, decide_eq_true_eq] at hq
            have HPX : Hid (Go.Sort.scanSorted lt64 dk b (i + 1) = I) := by
              have h1 := HSC2.out
              rw [scan_yes hq.1 (by rw [← HIM.out]; simpa using hq.2)] at h1
              exact h1
            clear HQ HSC2
            go_wp2
            go_roundw
            case rel => exact ⟨i + 1, by omega, by omega, by go_num, HPX, HS5, HG5⟩
            case measure => simp [intOf]; omega
          | false =>
            have HII : Hid (i = I) := by
              have h1 := HSC2.out
              rw [scan_no (fun h => by
                have := HQ.out
                rw [decide_eq_true h] at this
                rw [← HIM.out]
                simpa using this.symm)] at h1
              exact h1
            clear HQ HSC2
            obtain rfl := HII.out
            clear HII
            generalize wc = w5 at *
            by_cases hib : i = b
            · have hib' : ((i : Int) == (b : Int)) = true := by rw [beq_iff_eq]; omega
              have HR : Hid (dk = R1 ∧ true = R2) := by
                have h0 := HST.out
                rw [if_pos hib] at h0
                injection h0 with h1 h2
                exact ⟨h1, h2⟩
              clear HST hib
              go_wp2
              go_ret
              obtain ⟨rfl, rfl⟩ := HR.out
              exact ⟨rfl, HS5.out, HG5.out⟩
            · have hib' : ((i : Int) == (b : Int)) = false := by rw [beq_eq_false_iff_ne]; omega
              obtain ⟨L, hL⟩ : ∃ L, L = b - a := ⟨_, rfl⟩
              have wL : IntKind.i64.wrap ((b : Int) - (a : Int)) = (L : Int) := by rw [IntKind.wrap_i64]; omega
              have eL : (b : Int) - (a : Int) = (L : Int) := by omega
              by_cases h50 : L < 50
              · have h50' : (L : Int) < 50 := by omega
                have HR : Hid (dk = R1 ∧ false = R2) := by
                  have h0 := HST.out
                  rw [if_neg hib, if_pos (by omega)] at h0
                  injection h0 with h1 h2
                  exact ⟨h1, h2⟩
                clear HST hL
                go_wp2
                go_ret
                obtain ⟨rfl, rfl⟩ := HR.out
                exact ⟨rfl, HS5.out, HG5.out⟩
              · have h50' : ¬ (L : Int) < 50 := by omega
                have HST2 : Hid (Go.Sort.partialIns lt64 a b (5 - (k + 1)) i (upD b i (dnD a i (swp dk i im))) = (R1, R2)) := by
                  have h0 := HST.out
                  rw [if_neg hib, if_neg (by omega), ← HIM.out] at h0
                  exact h0
                clear HST hL
                go_wp2
                have hi1 := fun w' => Tryd.idxSo g N c i w' (by omega)
                have hi2 := fun w' => Tryd.idxSo g N c im w' (by omega)
                have hsw : SoAt w5 g dk t := HS5.out
                have c3 := hsw.cell (i := i) (by rw [HD.out]; omega)
                have c4 := hsw.cell (i := im) (by rw [HD.out]; omega)
                have f3 := hsw.fz i
                have f4 := hsw.fz im
                have hswb : SoAt (w5.setCell ⟨g, i, none⟩ (.int .u64 dk[im]!)) g (dk.setIfInBounds i dk[im]!) t := hsw.set (by rw [HD.out]; omega) _
                have f5 := hswb.fz im
                have c5 := hswb.cell (i := im) (by rw [Array.size_setIfInBounds, HD.out]; omega)
                have HSa6 : Hid (SoAt ((w5.setCell ⟨g, i, none⟩ (.int .u64 dk[im]!)).setCell ⟨g, im, none⟩ (.int .u64 dk[i]!)) g (swp dk i im) t) := hsw.swap (by rw [HD.out]; omega) (by rw [HD.out]; omega)
                have HGa6 : Hid (w.grownBy ((w5.setCell ⟨g, i, none⟩ (.int .u64 dk[im]!)).setCell ⟨g, im, none⟩ (.int .u64 dk[i]!)) (some g)) := grown_set (grown_set HG5.out _) _
                have HD6 : Hid ((swp dk i im).size = N) := by show _ = _; rw [Go.Sort.size_swp]; exact HD.out
                clear hsw hswb
                generalize (dk.setIfInBounds i dk[im]!)[im]! = ysw at *
                generalize dk[i]! = xi at *
                generalize dk[im]! = xj at *
                go_upto_region 15 with fail
                go_region
                all_goals
                  have HS6 : Hid (SoAt ((w5.setCell ⟨g, i, none⟩ (.int .u64 xj)).setCell ⟨g, im, none⟩ (.int .u64 xi)).drew g (swp dk i im) t) := SoAt.drew HSa6.out
                  have HG6 : Hid (w.grownBy ((w5.setCell ⟨g, i, none⟩ (.int .u64 xj)).setCell ⟨g, im, none⟩ (.int .u64 xi)).drew (some g)) := grown_drew HGa6.out
                  clear HSa6 HGa6 c3 c4 f3 f4 f5 c5 hi1 hi2
                  generalize ((w5.setCell ⟨g, i, none⟩ (.int .u64 xj)).setCell ⟨g, im, none⟩ (.int .u64 xi)).drew = w6 at *
                  generalize swp dk i im = d6 at *
                  obtain ⟨Ld, hLd⟩ : ∃ Ld, Ld = i - a := ⟨_, rfl⟩
                  have wLd : IntKind.i64.wrap ((i : Int) - (a : Int)) = (Ld : Int) := by rw [IntKind.wrap_i64]; omega
                  have eLd : (i : Int) - (a : Int) = (Ld : Int) := by omega
                  by_cases hd2 : 2 ≤ Ld
                  · have hd2' : (2 : Int) ≤ (Ld : Int) := by omega
                    have HDN : Hid (Go.Sort.partialIns lt64 a b (5 - (k + 1)) i (upD b i (Go.Sort.shiftDown lt64 im d6)) = (R1, R2)) := by
                      have h0 := HST2.out
                      unfold dnD at h0
                      rw [if_pos (by omega), ← HIM.out] at h0
                      exact h0
                    clear HST2 hLd
                    go_wp2
                    clear wLd eLd
                    go_loopw [9] (fun sv wr => ∃ j : Nat, j ≤ im ∧ sv = .int .i64 (j : Int) ∧ ∃ dj : Array Int, Hid (dj.size = N) ∧ Hid (SoAt wr g dj t) ∧ Hid (Go.Sort.partialIns lt64 a b (5 - (k + 1)) i (upD b i (Go.Sort.shiftDown lt64 j dj)) = (R1, R2)) ∧ Hid (w.grownBy wr (some g))) (fun sv _ => (intOf sv).toNat)
                    case atStart => exact ⟨im, Nat.le_refl _, by first | rfl | go_num, d6, HD6, HS6, HDN, HG6⟩
                    case round =>
                      obtain ⟨j, hj1, rfl, dj, HDj9, HSj9, HTj9, HGj9⟩ := hrel
                      clear HD6 HS6 HDN HG6
                      by_cases hjc : 1 ≤ j
                      · have hjc' : (1 : Int) ≤ (j : Int) := by omega
                        obtain ⟨jm, hjm⟩ : ∃ jm, j = jm + 1 := ⟨j - 1, by omega⟩
                        have wjm : IntKind.i64.wrap ((j : Int) - 1) = (jm : Int) := by rw [IntKind.wrap_i64]; omega
                        have ejm : (j : Int) - 1 = (jm : Int) := by omega
                        have hjl : jm < j := by omega
                        have HJM : Hid (j = jm + 1) := hjm
                        clear hjm
                        have j1 := fun w' => Tryd.idxSo g N c j w' (by omega)
                        have j2 := fun w' => Tryd.idxSo g N c jm w' (by omega)
                        have hsw : SoAt wr g dj t := HSj9.out
                        have c6 := hsw.cell (i := j) (by rw [HDj9.out]; omega)
                        have c7 := hsw.cell (i := jm) (by rw [HDj9.out]; omega)
                        have hless := fun w' => Tryd.less_any dj[j]! dj[jm]! w'
                        cases hl : lt64 dj[j]! dj[jm]! with
                        | false =>
                          rw [hl] at hless
                          have HT9 : Hid (Go.Sort.partialIns lt64 a b (5 - (k + 1)) i (upD b i dj) = (R1, R2)) := by
                            have h0 := HTj9.out
                            rw [show j = jm + 1 from HJM.out, dn_no (by rw [← HJM.out]; exact hl)] at h0
                            exact h0
                          clear hl hsw HTj9
                          go_wp2
                          go_upto_region 15 with fail
                          go_quiet ((go_at_call 90; exact Calls.quiet_of_same (hless _)))
                          have HSb9 : Hid (SoAt (wr.drewN nq) g dj t) := SoAt.drewN HSj9.out nq
                          have HGb9 : Hid (w.grownBy (wr.drewN nq) (some g)) := grown_drewN HGj9.out nq
                          clear HSj9 HGj9 hless c6 c7 j1 j2 wjm ejm
                          generalize wr.drewN nq = wb9 at *
                          obtain ⟨Lu, hLu⟩ : ∃ Lu, Lu = b - i := ⟨_, rfl⟩
                          have wLu : IntKind.i64.wrap ((b : Int) - (i : Int)) = (Lu : Int) := by rw [IntKind.wrap_i64]; omega
                          have eLu : (b : Int) - (i : Int) = (Lu : Int) := by omega
                          by_cases hu2 : 2 ≤ Lu
                          · have hu2' : (2 : Int) ≤ (Lu : Int) := by omega
                            have HU11 : Hid (Go.Sort.partialIns lt64 a b (5 - (k + 1)) i (Go.Sort.shiftUp lt64 b (i + 1) dj) = (R1, R2)) := by
                              have h0 := HT9.out
                              unfold upD at h0
                              rw [if_pos (by omega)] at h0
                              exact h0
                            clear HT9 hLu
                            go_wp2
                            clear wLu eLu
                            go_loopw [10] (fun sv wr => ∃ j : Nat, i + 1 ≤ j ∧ j ≤ b ∧ sv = .int .i64 (j : Int) ∧ ∃ dj : Array Int, Hid (dj.size = N) ∧ Hid (SoAt wr g dj t) ∧ Hid (Go.Sort.partialIns lt64 a b (5 - (k + 1)) i (Go.Sort.shiftUp lt64 b j dj) = (R1, R2)) ∧ Hid (w.grownBy wr (some g))) (fun sv _ => N + 1 - (intOf sv).toNat)
                            case atStart => exact ⟨i + 1, Nat.le_refl _, by omega, by first | rfl | go_num, dj, HDj9, HSb9, HU11, HGb9⟩
                            case round =>
                              obtain ⟨j, hj1, hj2, rfl, dj, HDj11, HSj11, HTj11, HGj11⟩ := hrel
                              clear HDj9 HSb9 HU11 HGb9
                              by_cases hjc : j < b
                              · have hjc' : (j : Int) < (b : Int) := by omega
                                obtain ⟨jm, hjm⟩ : ∃ jm, j = jm + 1 := ⟨j - 1, by omega⟩
                                have wjm : IntKind.i64.wrap ((j : Int) - 1) = (jm : Int) := by rw [IntKind.wrap_i64]; omega
                                have ejm : (j : Int) - 1 = (jm : Int) := by omega
                                have hjl : jm < j := by omega
                                have HJM : Hid (j = jm + 1) := hjm
                                clear hjm
                                have j1 := fun w' => Tryd.idxSo g N c j w' (by omega)
                                have j2 := fun w' => Tryd.idxSo g N c jm w' (by omega)
                                have hsw : SoAt wr g dj t := HSj11.out
                                have c6 := hsw.cell (i := j) (by rw [HDj11.out]; omega)
                                have c7 := hsw.cell (i := jm) (by rw [HDj11.out]; omega)
                                have hless := fun w' => Tryd.less_any dj[j]! dj[jm]! w'
                                cases hl : lt64 dj[j]! dj[jm]! with
                                | false =>
                                  rw [hl] at hless
                                  have HT11 : Hid (Go.Sort.partialIns lt64 a b (5 - (k + 1)) i dj = (R1, R2)) := by
                                    have h0 := HTj11.out
                                    rw [up_no hjc (by rw [show j - 1 = jm by have := HJM.out; omega]; exact hl)] at h0
                                    exact h0
                                  clear hl hsw HTj11
                                  go_wp2
                                  go_upto_region 15 with fail
                                  go_quiet ((go_at_call 90; exact Calls.quiet_of_same (hless _)))
                                  have HSb11 : Hid (SoAt (wr.drewN nq) g dj t) := SoAt.drewN HSj11.out nq
                                  have HGb11 : Hid (w.grownBy (wr.drewN nq) (some g)) := grown_drewN HGj11.out nq
                                  clear HSj11 HGj11 hless c6 c7 j1 j2 wjm ejm
                                  generalize wr.drewN nq = wb11 at *
                                  go_wp2
                                  go_roundw
                                  case rel => exact ⟨i, k + 1, by omega, by omega, by omega, rfl, by go_num, dj, HDj11, HSb11, HT11, HGb11⟩
                                  case measure => simp [intOf]; omega
                                | true =>
                                  rw [hl] at hless
                                  have HT11 : Hid (Go.Sort.partialIns lt64 a b (5 - (k + 1)) i (Go.Sort.shiftUp lt64 b (j + 1) (swp dj j jm)) = (R1, R2)) := by
                                    have h0 := HTj11.out
                                    rw [up_yes hjc (by rw [show j - 1 = jm by have := HJM.out; omega]; exact hl), show j - 1 = jm by have := HJM.out; omega] at h0
                                    exact h0
                                  clear hl hsw HTj11
                                  go_wp2
                                  go_upto_region 15 with fail
                                  go_quiet ((go_at_call 90; exact Calls.quiet_of_same (hless _)))
                                  have HSc11 : Hid (SoAt (wr.drewN nq) g dj t) := SoAt.drewN HSj11.out nq
                                  have HGc11 : Hid (w.grownBy (wr.drewN nq) (some g)) := grown_drewN HGj11.out nq
                                  clear HSj11 HGj11 hless c6 c7 j1 j2
                                  generalize wr.drewN nq = wb11 at *
                                  go_wp2
                                  have hi1 := fun w' => Tryd.idxSo g N c j w' (by omega)
                                  have hi2 := fun w' => Tryd.idxSo g N c jm w' (by omega)
                                  have hsw : SoAt wb11 g dj t := HSc11.out
                                  have c3 := hsw.cell (i := j) (by rw [HDj11.out]; omega)
                                  have c4 := hsw.cell (i := jm) (by rw [HDj11.out]; omega)
                                  have f3 := hsw.fz j
                                  have f4 := hsw.fz jm
                                  have hswb : SoAt (wb11.setCell ⟨g, j, none⟩ (.int .u64 dj[jm]!)) g (dj.setIfInBounds j dj[jm]!) t := hsw.set (by rw [HDj11.out]; omega) _
                                  have f5 := hswb.fz jm
                                  have c5 := hswb.cell (i := jm) (by rw [Array.size_setIfInBounds, HDj11.out]; omega)
                                  have HSa12 : Hid (SoAt ((wb11.setCell ⟨g, j, none⟩ (.int .u64 dj[jm]!)).setCell ⟨g, jm, none⟩ (.int .u64 dj[j]!)) g (swp dj j jm) t) := hsw.swap (by rw [HDj11.out]; omega) (by rw [HDj11.out]; omega)
                                  have HGa12 : Hid (w.grownBy ((wb11.setCell ⟨g, j, none⟩ (.int .u64 dj[jm]!)).setCell ⟨g, jm, none⟩ (.int .u64 dj[j]!)) (some g)) := grown_set (grown_set HGc11.out _) _
                                  have HD12 : Hid ((swp dj j jm).size = N) := by show _ = _; rw [Go.Sort.size_swp]; exact HDj11.out
                                  clear hsw hswb
                                  generalize (dj.setIfInBounds j dj[jm]!)[jm]! = ysw at *
                                  generalize dj[j]! = xi at *
                                  generalize dj[jm]! = xj at *
                                  go_upto_region 15 with fail
                                  go_region
                                  all_goals
                                    have HS12 : Hid (SoAt ((wb11.setCell ⟨g, j, none⟩ (.int .u64 xj)).setCell ⟨g, jm, none⟩ (.int .u64 xi)).drew g (swp dj j jm) t) := SoAt.drew HSa12.out
                                    have HG12 : Hid (w.grownBy ((wb11.setCell ⟨g, j, none⟩ (.int .u64 xj)).setCell ⟨g, jm, none⟩ (.int .u64 xi)).drew (some g)) := grown_drew HGa12.out
                                    clear HSa12 HGa12 c3 c4 f3 f4 f5 c5 hi1 hi2
                                    generalize ((wb11.setCell ⟨g, j, none⟩ (.int .u64 xj)).setCell ⟨g, jm, none⟩ (.int .u64 xi)).drew = w12 at *
                                    generalize swp dj j jm = d12 at *
                                    go_wp2
                                    go_roundw
                                    case rel => exact ⟨j + 1, by omega, by omega, by go_num, d12, HD12, HS12, HT11, HG12⟩
                                    case measure => simp [intOf] <;> omega
                              · have hjc' : ¬ (j : Int) < (b : Int) := by omega
                                have HT11 : Hid (Go.Sort.partialIns lt64 a b (5 - (k + 1)) i dj = (R1, R2)) := by
                                  have h0 := HTj11.out
                                  rw [up_end hjc] at h0
                                  exact h0
                                clear HTj11
                                generalize wr = wb11 at *
                                go_wp2
                                go_roundw
                                case rel => exact ⟨i, k + 1, by omega, by omega, by omega, rfl, by go_num, dj, HDj11, HSj11, HT11, HGj11⟩
                                case measure => simp [intOf]; omega
                          · have hu2' : ¬ (2 : Int) ≤ (Lu : Int) := by omega
                            have HU11 : Hid (Go.Sort.partialIns lt64 a b (5 - (k + 1)) i dj = (R1, R2)) := by
                              have h0 := HT9.out
                              unfold upD at h0
                              rw [if_neg (by omega)] at h0
                              exact h0
                            clear HT9 hLu
                            go_wp2
                            go_roundw
                            case rel => exact ⟨i, k + 1, by omega, by omega, by omega, rfl, by go_num, dj, HDj9, HSb9, HU11, HGb9⟩
                            case measure => simp [intOf]; omega
                        | true =>
                          rw [hl] at hless
                          have HT9 : Hid (Go.Sort.partialIns lt64 a b (5 - (k + 1)) i (upD b i (Go.Sort.shiftDown lt64 jm (swp dj j jm))) = (R1, R2)) := by
                            have h0 := HTj9.out
                            rw [show Go.Sort.shiftDown lt64 j dj = Go.Sort.shiftDown lt64 jm (swp dj j jm) from by rw [HJM.out]; exact dn_yes (by rw [← HJM.out]; exact hl)] at h0
                            exact h0
                          clear hl hsw HTj9
                          go_wp2
                          go_upto_region 15 with fail
                          go_quiet ((go_at_call 90; exact Calls.quiet_of_same (hless _)))
                          have HSc9 : Hid (SoAt (wr.drewN nq) g dj t) := SoAt.drewN HSj9.out nq
                          have HGc9 : Hid (w.grownBy (wr.drewN nq) (some g)) := grown_drewN HGj9.out nq
                          clear HSj9 HGj9 hless c6 c7 j1 j2
                          generalize wr.drewN nq = wb9 at *
                          go_wp2
                          have hi1 := fun w' => Tryd.idxSo g N c j w' (by omega)
                          have hi2 := fun w' => Tryd.idxSo g N c jm w' (by omega)
                          have hsw : SoAt wb9 g dj t := HSc9.out
                          have c3 := hsw.cell (i := j) (by rw [HDj9.out]; omega)
                          have c4 := hsw.cell (i := jm) (by rw [HDj9.out]; omega)
                          have f3 := hsw.fz j
                          have f4 := hsw.fz jm
                          have hswb : SoAt (wb9.setCell ⟨g, j, none⟩ (.int .u64 dj[jm]!)) g (dj.setIfInBounds j dj[jm]!) t := hsw.set (by rw [HDj9.out]; omega) _
                          have f5 := hswb.fz jm
                          have c5 := hswb.cell (i := jm) (by rw [Array.size_setIfInBounds, HDj9.out]; omega)
                          have HSa13 : Hid (SoAt ((wb9.setCell ⟨g, j, none⟩ (.int .u64 dj[jm]!)).setCell ⟨g, jm, none⟩ (.int .u64 dj[j]!)) g (swp dj j jm) t) := hsw.swap (by rw [HDj9.out]; omega) (by rw [HDj9.out]; omega)
                          have HGa13 : Hid (w.grownBy ((wb9.setCell ⟨g, j, none⟩ (.int .u64 dj[jm]!)).setCell ⟨g, jm, none⟩ (.int .u64 dj[j]!)) (some g)) := grown_set (grown_set HGc9.out _) _
                          have HD13 : Hid ((swp dj j jm).size = N) := by show _ = _; rw [Go.Sort.size_swp]; exact HDj9.out
                          clear hsw hswb
                          generalize (dj.setIfInBounds j dj[jm]!)[jm]! = ysw at *
                          generalize dj[j]! = xi at *
                          generalize dj[jm]! = xj at *
                          go_upto_region 15 with fail
                          go_region
                          all_goals
                            have HS13 : Hid (SoAt ((wb9.setCell ⟨g, j, none⟩ (.int .u64 xj)).setCell ⟨g, jm, none⟩ (.int .u64 xi)).drew g (swp dj j jm) t) := SoAt.drew HSa13.out
                            have HG13 : Hid (w.grownBy ((wb9.setCell ⟨g, j, none⟩ (.int .u64 xj)).setCell ⟨g, jm, none⟩ (.int .u64 xi)).drew (some g)) := grown_drew HGa13.out
                            clear HSa13 HGa13 c3 c4 f3 f4 f5 c5 hi1 hi2
                            generalize ((wb9.setCell ⟨g, j, none⟩ (.int .u64 xj)).setCell ⟨g, jm, none⟩ (.int .u64 xi)).drew = w13 at *
                            generalize swp dj j jm = d13 at *
                            go_wp2
                            go_roundw
                            case rel => exact ⟨jm, by omega, rfl, d13, HD13, HS13, HT9, HG13⟩
                            case measure => simp [intOf] <;> omega
                      · have hjc' : ¬ (1 : Int) ≤ (j : Int) := by omega
                        have HT9 : Hid (Go.Sort.partialIns lt64 a b (5 - (k + 1)) i (upD b i dj) = (R1, R2)) := by
                          have h0 := HTj9.out
                          obtain rfl : j = 0 := by omega
                          exact h0
                        clear HTj9
                        generalize wr = wb9 at *
                        obtain ⟨Lu, hLu⟩ : ∃ Lu, Lu = b - i := ⟨_, rfl⟩
                        have wLu : IntKind.i64.wrap ((b : Int) - (i : Int)) = (Lu : Int) := by rw [IntKind.wrap_i64]; omega
                        have eLu : (b : Int) - (i : Int) = (Lu : Int) := by omega
                        by_cases hu2 : 2 ≤ Lu
                        · have hu2' : (2 : Int) ≤ (Lu : Int) := by omega
                          have HU14 : Hid (Go.Sort.partialIns lt64 a b (5 - (k + 1)) i (Go.Sort.shiftUp lt64 b (i + 1) dj) = (R1, R2)) := by
                            have h0 := HT9.out
                            unfold upD at h0
                            rw [if_pos (by omega)] at h0
                            exact h0
                          clear HT9 hLu
                          go_wp2
                          clear wLu eLu
                          go_loopw [10] (fun sv wr => ∃ j : Nat, i + 1 ≤ j ∧ j ≤ b ∧ sv = .int .i64 (j : Int) ∧ ∃ dj : Array Int, Hid (dj.size = N) ∧ Hid (SoAt wr g dj t) ∧ Hid (Go.Sort.partialIns lt64 a b (5 - (k + 1)) i (Go.Sort.shiftUp lt64 b j dj) = (R1, R2)) ∧ Hid (w.grownBy wr (some g))) (fun sv _ => N + 1 - (intOf sv).toNat)
                          case atStart => exact ⟨i + 1, Nat.le_refl _, by omega, by first | rfl | go_num, dj, HDj9, HSj9, HU14, HGj9⟩
                          case round =>
                            obtain ⟨j, hj1, hj2, rfl, dj, HDj14, HSj14, HTj14, HGj14⟩ := hrel
                            clear HDj9 HSj9 HU14 HGj9
                            by_cases hjc : j < b
                            · have hjc' : (j : Int) < (b : Int) := by omega
                              obtain ⟨jm, hjm⟩ : ∃ jm, j = jm + 1 := ⟨j - 1, by omega⟩
                              have wjm : IntKind.i64.wrap ((j : Int) - 1) = (jm : Int) := by rw [IntKind.wrap_i64]; omega
                              have ejm : (j : Int) - 1 = (jm : Int) := by omega
                              have hjl : jm < j := by omega
                              have HJM : Hid (j = jm + 1) := hjm
                              clear hjm
                              have j1 := fun w' => Tryd.idxSo g N c j w' (by omega)
                              have j2 := fun w' => Tryd.idxSo g N c jm w' (by omega)
                              have hsw : SoAt wr g dj t := HSj14.out
                              have c6 := hsw.cell (i := j) (by rw [HDj14.out]; omega)
                              have c7 := hsw.cell (i := jm) (by rw [HDj14.out]; omega)
                              have hless := fun w' => Tryd.less_any dj[j]! dj[jm]! w'
                              cases hl : lt64 dj[j]! dj[jm]! with
                              | false =>
                                rw [hl] at hless
                                have HT14 : Hid (Go.Sort.partialIns lt64 a b (5 - (k + 1)) i dj = (R1, R2)) := by
                                  have h0 := HTj14.out
                                  rw [up_no hjc (by rw [show j - 1 = jm by have := HJM.out; omega]; exact hl)] at h0
                                  exact h0
                                clear hl hsw HTj14
                                go_wp2
                                go_upto_region 15 with fail
                                go_quiet ((go_at_call 90; exact Calls.quiet_of_same (hless _)))
                                have HSb14 : Hid (SoAt (wr.drewN nq) g dj t) := SoAt.drewN HSj14.out nq
                                have HGb14 : Hid (w.grownBy (wr.drewN nq) (some g)) := grown_drewN HGj14.out nq
                                clear HSj14 HGj14 hless c6 c7 j1 j2 wjm ejm
                                generalize wr.drewN nq = wb14 at *
                                go_wp2
                                go_roundw
                                case rel => exact ⟨i, k + 1, by omega, by omega, by omega, rfl, by go_num, dj, HDj14, HSb14, HT14, HGb14⟩
                                case measure => simp [intOf]; omega
                              | true =>
                                rw [hl] at hless
                                have HT14 : Hid (Go.Sort.partialIns lt64 a b (5 - (k + 1)) i (Go.Sort.shiftUp lt64 b (j + 1) (swp dj j jm)) = (R1, R2)) := by
                                  have h0 := HTj14.out
                                  rw [up_yes hjc (by rw [show j - 1 = jm by have := HJM.out; omega]; exact hl), show j - 1 = jm by have := HJM.out; omega] at h0
                                  exact h0
                                clear hl hsw HTj14
                                go_wp2
                                go_upto_region 15 with fail
                                go_quiet ((go_at_call 90; exact Calls.quiet_of_same (hless _)))
                                have HSc14 : Hid (SoAt (wr.drewN nq) g dj t) := SoAt.drewN HSj14.out nq
                                have HGc14 : Hid (w.grownBy (wr.drewN nq) (some g)) := grown_drewN HGj14.out nq
                                clear HSj14 HGj14 hless c6 c7 j1 j2
                                generalize wr.drewN nq = wb14 at *
                                go_wp2
                                have hi1 := fun w' => Tryd.idxSo g N c j w' (by omega)
                                have hi2 := fun w' => Tryd.idxSo g N c jm w' (by omega)
                                have hsw : SoAt wb14 g dj t := HSc14.out
                                have c3 := hsw.cell (i := j) (by rw [HDj14.out]; omega)
                                have c4 := hsw.cell (i := jm) (by rw [HDj14.out]; omega)
                                have f3 := hsw.fz j
                                have f4 := hsw.fz jm
                                have hswb : SoAt (wb14.setCell ⟨g, j, none⟩ (.int .u64 dj[jm]!)) g (dj.setIfInBounds j dj[jm]!) t := hsw.set (by rw [HDj14.out]; omega) _
                                have f5 := hswb.fz jm
                                have c5 := hswb.cell (i := jm) (by rw [Array.size_setIfInBounds, HDj14.out]; omega)
                                have HSa15 : Hid (SoAt ((wb14.setCell ⟨g, j, none⟩ (.int .u64 dj[jm]!)).setCell ⟨g, jm, none⟩ (.int .u64 dj[j]!)) g (swp dj j jm) t) := hsw.swap (by rw [HDj14.out]; omega) (by rw [HDj14.out]; omega)
                                have HGa15 : Hid (w.grownBy ((wb14.setCell ⟨g, j, none⟩ (.int .u64 dj[jm]!)).setCell ⟨g, jm, none⟩ (.int .u64 dj[j]!)) (some g)) := grown_set (grown_set HGc14.out _) _
                                have HD15 : Hid ((swp dj j jm).size = N) := by show _ = _; rw [Go.Sort.size_swp]; exact HDj14.out
                                clear hsw hswb
                                generalize (dj.setIfInBounds j dj[jm]!)[jm]! = ysw at *
                                generalize dj[j]! = xi at *
                                generalize dj[jm]! = xj at *
                                go_upto_region 15 with fail
                                go_region
                                all_goals
                                  have HS15 : Hid (SoAt ((wb14.setCell ⟨g, j, none⟩ (.int .u64 xj)).setCell ⟨g, jm, none⟩ (.int .u64 xi)).drew g (swp dj j jm) t) := SoAt.drew HSa15.out
                                  have HG15 : Hid (w.grownBy ((wb14.setCell ⟨g, j, none⟩ (.int .u64 xj)).setCell ⟨g, jm, none⟩ (.int .u64 xi)).drew (some g)) := grown_drew HGa15.out
                                  clear HSa15 HGa15 c3 c4 f3 f4 f5 c5 hi1 hi2
                                  generalize ((wb14.setCell ⟨g, j, none⟩ (.int .u64 xj)).setCell ⟨g, jm, none⟩ (.int .u64 xi)).drew = w15 at *
                                  generalize swp dj j jm = d15 at *
                                  go_wp2
                                  go_roundw
                                  case rel => exact ⟨j + 1, by omega, by omega, by go_num, d15, HD15, HS15, HT14, HG15⟩
                                  case measure => simp [intOf] <;> omega
                            · have hjc' : ¬ (j : Int) < (b : Int) := by omega
                              have HT14 : Hid (Go.Sort.partialIns lt64 a b (5 - (k + 1)) i dj = (R1, R2)) := by
                                have h0 := HTj14.out
                                rw [up_end hjc] at h0
                                exact h0
                              clear HTj14
                              generalize wr = wb14 at *
                              go_wp2
                              go_roundw
                              case rel => exact ⟨i, k + 1, by omega, by omega, by omega, rfl, by go_num, dj, HDj14, HSj14, HT14, HGj14⟩
                              case measure => simp [intOf]; omega
                        · have hu2' : ¬ (2 : Int) ≤ (Lu : Int) := by omega
                          have HU14 : Hid (Go.Sort.partialIns lt64 a b (5 - (k + 1)) i dj = (R1, R2)) := by
                            have h0 := HT9.out
                            unfold upD at h0
                            rw [if_neg (by omega)] at h0
                            exact h0
                          clear HT9 hLu
                          go_wp2
                          go_roundw
                          case rel => exact ⟨i, k + 1, by omega, by omega, by omega, rfl, by go_num, dj, HDj9, HSj9, HU14, HGj9⟩
                          case measure => simp [intOf]; omega
                  · have hd2' : ¬ (2 : Int) ≤ (Ld : Int) := by omega
                    have HDN : Hid (Go.Sort.partialIns lt64 a b (5 - (k + 1)) i (upD b i d6) = (R1, R2)) := by
                      have h0 := HST2.out
                      unfold dnD at h0
                      rw [if_neg (by omega)] at h0
                      exact h0
                    clear HST2 hLd
                    obtain ⟨Lu, hLu⟩ : ∃ Lu, Lu = b - i := ⟨_, rfl⟩
                    have wLu : IntKind.i64.wrap ((b : Int) - (i : Int)) = (Lu : Int) := by rw [IntKind.wrap_i64]; omega
                    have eLu : (b : Int) - (i : Int) = (Lu : Int) := by omega
                    by_cases hu2 : 2 ≤ Lu
                    · have hu2' : (2 : Int) ≤ (Lu : Int) := by omega
                      have HU16 : Hid (Go.Sort.partialIns lt64 a b (5 - (k + 1)) i (Go.Sort.shiftUp lt64 b (i + 1) d6) = (R1, R2)) := by
                        have h0 := HDN.out
                        unfold upD at h0
                        rw [if_pos (by omega)] at h0
                        exact h0
                      clear HDN hLu
                      go_wp2
                      clear wLu eLu
                      go_loopw [10] (fun sv wr => ∃ j : Nat, i + 1 ≤ j ∧ j ≤ b ∧ sv = .int .i64 (j : Int) ∧ ∃ dj : Array Int, Hid (dj.size = N) ∧ Hid (SoAt wr g dj t) ∧ Hid (Go.Sort.partialIns lt64 a b (5 - (k + 1)) i (Go.Sort.shiftUp lt64 b j dj) = (R1, R2)) ∧ Hid (w.grownBy wr (some g))) (fun sv _ => N + 1 - (intOf sv).toNat)
                      case atStart => exact ⟨i + 1, Nat.le_refl _, by omega, by first | rfl | go_num, d6, HD6, HS6, HU16, HG6⟩
                      case round =>
                        obtain ⟨j, hj1, hj2, rfl, dj, HDj16, HSj16, HTj16, HGj16⟩ := hrel
                        clear HD6 HS6 HU16 HG6
                        by_cases hjc : j < b
                        · have hjc' : (j : Int) < (b : Int) := by omega
                          obtain ⟨jm, hjm⟩ : ∃ jm, j = jm + 1 := ⟨j - 1, by omega⟩
                          have wjm : IntKind.i64.wrap ((j : Int) - 1) = (jm : Int) := by rw [IntKind.wrap_i64]; omega
                          have ejm : (j : Int) - 1 = (jm : Int) := by omega
                          have hjl : jm < j := by omega
                          have HJM : Hid (j = jm + 1) := hjm
                          clear hjm
                          have j1 := fun w' => Tryd.idxSo g N c j w' (by omega)
                          have j2 := fun w' => Tryd.idxSo g N c jm w' (by omega)
                          have hsw : SoAt wr g dj t := HSj16.out
                          have c6 := hsw.cell (i := j) (by rw [HDj16.out]; omega)
                          have c7 := hsw.cell (i := jm) (by rw [HDj16.out]; omega)
                          have hless := fun w' => Tryd.less_any dj[j]! dj[jm]! w'
                          cases hl : lt64 dj[j]! dj[jm]! with
                          | false =>
                            rw [hl] at hless
                            have HT16 : Hid (Go.Sort.partialIns lt64 a b (5 - (k + 1)) i dj = (R1, R2)) := by
                              have h0 := HTj16.out
                              rw [up_no hjc (by rw [show j - 1 = jm by have := HJM.out; omega]; exact hl)] at h0
                              exact h0
                            clear hl hsw HTj16
                            go_wp2
                            go_upto_region 15 with fail
                            go_quiet ((go_at_call 90; exact Calls.quiet_of_same (hless _)))
                            have HSb16 : Hid (SoAt (wr.drewN nq) g dj t) := SoAt.drewN HSj16.out nq
                            have HGb16 : Hid (w.grownBy (wr.drewN nq) (some g)) := grown_drewN HGj16.out nq
                            clear HSj16 HGj16 hless c6 c7 j1 j2 wjm ejm
                            generalize wr.drewN nq = wb16 at *
                            go_wp2
                            go_roundw
                            case rel => exact ⟨i, k + 1, by omega, by omega, by omega, rfl, by go_num, dj, HDj16, HSb16, HT16, HGb16⟩
                            case measure => simp [intOf]; omega
                          | true =>
                            rw [hl] at hless
                            have HT16 : Hid (Go.Sort.partialIns lt64 a b (5 - (k + 1)) i (Go.Sort.shiftUp lt64 b (j + 1) (swp dj j jm)) = (R1, R2)) := by
                              have h0 := HTj16.out
                              rw [up_yes hjc (by rw [show j - 1 = jm by have := HJM.out; omega]; exact hl), show j - 1 = jm by have := HJM.out; omega] at h0
                              exact h0
                            clear hl hsw HTj16
                            go_wp2
                            go_upto_region 15 with fail
                            go_quiet ((go_at_call 90; exact Calls.quiet_of_same (hless _)))
                            have HSc16 : Hid (SoAt (wr.drewN nq) g dj t) := SoAt.drewN HSj16.out nq
                            have HGc16 : Hid (w.grownBy (wr.drewN nq) (some g)) := grown_drewN HGj16.out nq
                            clear HSj16 HGj16 hless c6 c7 j1 j2
                            generalize wr.drewN nq = wb16 at *
                            go_wp2
                            have hi1 := fun w' => Tryd.idxSo g N c j w' (by omega)
                            have hi2 := fun w' => Tryd.idxSo g N c jm w' (by omega)
                            have hsw : SoAt wb16 g dj t := HSc16.out
                            have c3 := hsw.cell (i := j) (by rw [HDj16.out]; omega)
                            have c4 := hsw.cell (i := jm) (by rw [HDj16.out]; omega)
                            have f3 := hsw.fz j
                            have f4 := hsw.fz jm
                            have hswb : SoAt (wb16.setCell ⟨g, j, none⟩ (.int .u64 dj[jm]!)) g (dj.setIfInBounds j dj[jm]!) t := hsw.set (by rw [HDj16.out]; omega) _
                            have f5 := hswb.fz jm
                            have c5 := hswb.cell (i := jm) (by rw [Array.size_setIfInBounds, HDj16.out]; omega)
                            have HSa17 : Hid (SoAt ((wb16.setCell ⟨g, j, none⟩ (.int .u64 dj[jm]!)).setCell ⟨g, jm, none⟩ (.int .u64 dj[j]!)) g (swp dj j jm) t) := hsw.swap (by rw [HDj16.out]; omega) (by rw [HDj16.out]; omega)
                            have HGa17 : Hid (w.grownBy ((wb16.setCell ⟨g, j, none⟩ (.int .u64 dj[jm]!)).setCell ⟨g, jm, none⟩ (.int .u64 dj[j]!)) (some g)) := grown_set (grown_set HGc16.out _) _
                            have HD17 : Hid ((swp dj j jm).size = N) := by show _ = _; rw [Go.Sort.size_swp]; exact HDj16.out
                            clear hsw hswb
                            generalize (dj.setIfInBounds j dj[jm]!)[jm]! = ysw at *
                            generalize dj[j]! = xi at *
                            generalize dj[jm]! = xj at *
                            go_upto_region 15 with fail
                            go_region
                            all_goals
                              have HS17 : Hid (SoAt ((wb16.setCell ⟨g, j, none⟩ (.int .u64 xj)).setCell ⟨g, jm, none⟩ (.int .u64 xi)).drew g (swp dj j jm) t) := SoAt.drew HSa17.out
                              have HG17 : Hid (w.grownBy ((wb16.setCell ⟨g, j, none⟩ (.int .u64 xj)).setCell ⟨g, jm, none⟩ (.int .u64 xi)).drew (some g)) := grown_drew HGa17.out
                              clear HSa17 HGa17 c3 c4 f3 f4 f5 c5 hi1 hi2
                              generalize ((wb16.setCell ⟨g, j, none⟩ (.int .u64 xj)).setCell ⟨g, jm, none⟩ (.int .u64 xi)).drew = w17 at *
                              generalize swp dj j jm = d17 at *
                              go_wp2
                              go_roundw
                              case rel => exact ⟨j + 1, by omega, by omega, by go_num, d17, HD17, HS17, HT16, HG17⟩
                              case measure => simp [intOf] <;> omega
                        · have hjc' : ¬ (j : Int) < (b : Int) := by omega
                          have HT16 : Hid (Go.Sort.partialIns lt64 a b (5 - (k + 1)) i dj = (R1, R2)) := by
                            have h0 := HTj16.out
                            rw [up_end hjc] at h0
                            exact h0
                          clear HTj16
                          generalize wr = wb16 at *
                          go_wp2
                          go_roundw
                          case rel => exact ⟨i, k + 1, by omega, by omega, by omega, rfl, by go_num, dj, HDj16, HSj16, HT16, HGj16⟩
                          case measure => simp [intOf]; omega
                    · have hu2' : ¬ (2 : Int) ≤ (Lu : Int) := by omega
                      have HU16 : Hid (Go.Sort.partialIns lt64 a b (5 - (k + 1)) i d6 = (R1, R2)) := by
                        have h0 := HDN.out
                        unfold upD at h0
                        rw [if_neg (by omega)] at h0
                        exact h0
                      clear HDN hLu
                      go_wp2
                      go_roundw
                      case rel => exact ⟨i, k + 1, by omega, by omega, by omega, rfl, by go_num, d6, HD6, HS6, HU16, HG6⟩
                      case measure => simp [intOf]; omega
    · have hk5' : ¬ (k : Int) < 5 := by omega
      obtain rfl : k = 5 := by omega
      have HR : Hid (dk = R1 ∧ false = R2) := by
        have h0 := HI.out
        injection h0 with h1 h2
        exact ⟨h1, h2⟩
      clear HI
      go_wp2
      go_ret
      obtain ⟨rfl, rfl⟩ := HR.out
      exact ⟨rfl, HS.out, HG.out⟩
end Go.Proofs.YtnedkpbpeolfoaaDoor
namespace Go.Proofs
open Go.Shelf
def Tryd.lays125_ren : Go.Shelf.Ren := ⟨fun | 125 => 82 | 128 => 93 | 129 => 94 | n => n, fun | 46 => 76 | 3 => 3 | 51 => 134 | 53 => 60 | 4 => 4 | 5 => 5 | 9 => 9 | n => n, fun | n => n⟩
theorem Tryd.lays125 : Go.Proofs.Lays.n125 Tryd.prog Tryd.lays125_ren := {
  mixed := by kernel_rfl
  f125 := Tryd.func82.trans (congrArg some (by kernel_rfl))
  f128 := Tryd.func93.trans (congrArg some (by kernel_rfl))
  f129 := Tryd.func94.trans (congrArg some (by kernel_rfl))
  t3 := Tryd.underlying3
  a3 := Tryd.isAgg3
  z3 := Tryd.sizeOf3
  v3 := Tryd.zeroValue3
  t4 := Tryd.underlying4
  a4 := Tryd.isAgg4
  z4 := Tryd.sizeOf4
  v4 := Tryd.zeroValue4
  t5 := Tryd.underlying5
  a5 := Tryd.isAgg5
  z5 := Tryd.sizeOf5
  v5 := Tryd.zeroValue5
  t9 := Tryd.underlying9
  a9 := Tryd.isAgg9
  z9 := Tryd.sizeOf9
  v9 := Tryd.zeroValue9
  t46 := Tryd.underlying76
  a46 := Tryd.isAgg76
  z46 := Tryd.sizeOf76
  v46 := Tryd.zeroValue76
  t51 := Tryd.underlying134
  a51 := Tryd.isAgg134
  z51 := Tryd.sizeOf134
  v51 := Tryd.zeroValue134
  t53 := Tryd.underlying60
  a53 := Tryd.isAgg60
  z53 := Tryd.sizeOf60
  v53 := Tryd.zeroValue60 }
theorem Tryd.bits_Len (x : Int) (w : World) (h0 : 0 ≤ x) (h1 : x ≤ 18446744073709551615) :
    Calls Tryd.prog 82 #[.int .u64 x] w fun e w' => e = .returned (.int .i64 (Lib.bitLen x.toNat)) ∧ w' = w := Any.bits_Len Tryd.lays125 x w h0 h1
def Tryd.laysF48_ren : Go.Shelf.Ren := ⟨fun | 48 => 97 | n => n, fun | 76 => 142 | 55 => 60 | 0 => 0 | 66 => 135 | 39 => 76 | n => n, fun | n => n⟩
theorem Tryd.laysF48 : Go.Proofs.SlLaysF0.n48 Tryd.prog Tryd.laysF48_ren := {
  mixed := by kernel_rfl
  f48 := Tryd.func97.trans (congrArg some (by kernel_rfl))
  t0 := Tryd.underlying0
  a0 := Tryd.isAgg0
  z0 := Tryd.sizeOf0
  v0 := Tryd.zeroValue0
  t39 := Tryd.underlying76
  a39 := Tryd.isAgg76
  z39 := Tryd.sizeOf76
  v39 := Tryd.zeroValue76
  t55 := Tryd.underlying60
  a55 := Tryd.isAgg60
  z55 := Tryd.sizeOf60
  v55 := Tryd.zeroValue60
  t66 := Tryd.underlying135
  a66 := Tryd.isAgg135
  z66 := Tryd.sizeOf135
  v66 := Tryd.zeroValue135
  t76 := Tryd.underlying142
  a76 := Tryd.isAgg142
  z76 := Tryd.sizeOf142
  v76 := Tryd.zeroValue142 }
def Tryd.laysF47_ren : Go.Shelf.Ren := ⟨fun | 47 => 96 | 15 => 82 | 28 => 93 | 29 => 94 | n => n, fun | 3 => 3 | 39 => 76 | 53 => 134 | 55 => 60 | 4 => 4 | 5 => 5 | 9 => 9 | n => n, fun | n => n⟩
theorem Tryd.laysF47 : Go.Proofs.SlLaysF0.n47 Tryd.prog Tryd.laysF47_ren := {
  mixed := by kernel_rfl
  f15 := Tryd.func82.trans (congrArg some (by kernel_rfl))
  f28 := Tryd.func93.trans (congrArg some (by kernel_rfl))
  f29 := Tryd.func94.trans (congrArg some (by kernel_rfl))
  f47 := Tryd.func96.trans (congrArg some (by kernel_rfl))
  t3 := Tryd.underlying3
  a3 := Tryd.isAgg3
  z3 := Tryd.sizeOf3
  v3 := Tryd.zeroValue3
  t4 := Tryd.underlying4
  a4 := Tryd.isAgg4
  z4 := Tryd.sizeOf4
  v4 := Tryd.zeroValue4
  t5 := Tryd.underlying5
  a5 := Tryd.isAgg5
  z5 := Tryd.sizeOf5
  v5 := Tryd.zeroValue5
  t9 := Tryd.underlying9
  a9 := Tryd.isAgg9
  z9 := Tryd.sizeOf9
  v9 := Tryd.zeroValue9
  t39 := Tryd.underlying76
  a39 := Tryd.isAgg76
  z39 := Tryd.sizeOf76
  v39 := Tryd.zeroValue76
  t53 := Tryd.underlying134
  a53 := Tryd.isAgg134
  z53 := Tryd.sizeOf134
  v53 := Tryd.zeroValue134
  t55 := Tryd.underlying60
  a55 := Tryd.isAgg60
  z55 := Tryd.sizeOf60
  v55 := Tryd.zeroValue60 }
theorem Tryd.nextPowerOfTwo (n : Nat) (hn : n < 4611686018427387904) (w : World) :
    Calls Tryd.prog 96 #[.int .i64 n] w fun e w' => e = .returned (.int .u64 ((1 <<< Sort.bitsLen n : Nat) : Int)) ∧ w' = w := AnyF.nextPowerOfTwo Tryd.laysF47 n hn w
end Go.Proofs
namespace Go.Proofs.YtnedkpbpeolfoaaDoor
open Go.RowKit Go.Maps
open Go.Sort (swp PermIn SortedIn xorNextN bitsLen)
/-- Block rb: a generator. -/
def XB (w : World) (rb X : Nat) : Prop := w.heap[rb]? = some (.cells #[.int .u64 (X : Int)] 135 (0, 0))
theorem XB.ne {w : World} {g rb X : Nat} {d : Array Int} {t : List Int} (h : XB w rb X) (k : SoAt w g d t) : g ≠ rb := fun e => by
  unfold XB at h
  unfold SoAt at k
  rw [← e, k] at h
  injection h with h
  injection h with _ h _
  exact absurd h (by decide)
theorem Tryd.next_any (rb X : Nat) (hX : X < 18446744073709551616) (w : World) (h : XB w rb X) :
    Calls Tryd.prog 97 #[.pointer (some ⟨rb, 0, none⟩)] w fun e w' => ∃ Y : Nat, e = .returned (.int .u64 (Y : Int)) ∧ Y < 18446744073709551616 ∧ XB w' rb Y ∧ w.grownBy w' (some rb) := by
  refine (AnyF.xorshift_Next Tryd.laysF48 rb 0 X hX w (cell_row h 0) (frozen_of_row w rb 0 _ _ h)).mono ?_
  rintro e w' ⟨rfl, rfl⟩
  refine ⟨xorNextN X, rfl, Go.Sort.xorNextN_lt X hX, ?_, grown_drewN (grown_set (World.grownBy.refl _ _) _) _⟩
  have hs : XB (w.setCell ⟨rb, 0, none⟩ (.int .u64 ((xorNextN X : Nat) : Int))) rb (xorNextN X) := by
    unfold XB
    rw [heap_setCell_same _ rb 0 _ _ _ h]; rfl
  exact ((below_drewN (Below.refl _ (w.setCell ⟨rb, 0, none⟩ (.int .u64 ((xorNextN X : Nat) : Int)))) 3).block rb (Array.getElem?_eq_some_iff.1 hs).1).trans hs
theorem pow_len {L : Nat} (h : 0 < L) : 1 ≤ 1 <<< bitsLen L ∧ 1 <<< bitsLen L ≤ 2 * L := by
  unfold bitsLen
  rw [if_neg (by omega), Nat.shiftLeft_eq, Nat.one_mul, Nat.pow_succ]
  have h1 := Nat.log2_self_le (n := L) (by omega)
  have h2 := Nat.two_pow_pos L.log2
  omega
set_option maxRecDepth 100000 in
set_option maxHeartbeats 8000000 in
theorem Tryd.break_any (g c a b : Nat) (d : Array Int) (t : List Int) (w : World) (h : SoAt w g d t) (hab : a + 12 < b) (hb : b ≤ d.size) (hn : d.size ≤ 1000000) :
    Calls Tryd.prog 86 #[.slice (some ⟨g, 0, none⟩) d.size c, .int .i64 (a : Int), .int .i64 (b : Int)] w fun e w' => e = .returned (.tuple #[]) ∧ ∃ d', PermIn a b d d' ∧ d'.size = d.size ∧ SoAt w' g d' t ∧ w.grownBy w' (some g) := by
  obtain ⟨N, hN⟩ : ∃ N, d.size = N := ⟨_, rfl⟩
  obtain ⟨L, hL⟩ : ∃ L, L = b - a := ⟨_, rfl⟩
  obtain ⟨T, hT⟩ : ∃ T, T = L / 4 := ⟨_, rfl⟩
  obtain ⟨T2, hT2⟩ : ∃ T2, T2 = T * 2 := ⟨_, rfl⟩
  obtain ⟨J, hJ⟩ : ∃ J, J = a + T2 := ⟨_, rfl⟩
  obtain ⟨J0, hJ0⟩ : ∃ J0, J0 = J - 1 := ⟨_, rfl⟩
  obtain ⟨J1, hJ1⟩ : ∃ J1, J1 = J + 1 := ⟨_, rfl⟩
  obtain ⟨M, hM⟩ : ∃ M, M = 1 <<< bitsLen L := ⟨_, rfl⟩
  obtain ⟨M1, hM1⟩ : ∃ M1, M1 = M - 1 := ⟨_, rfl⟩
  have hpw := pow_len (L := L) (by omega)
  rw [← hM] at hpw
  have HS0 : Hid (SoAt w g d t) := h
  have HD0 : Hid (d.size = N) := hN
  have wL : IntKind.i64.wrap ((b : Int) - (a : Int)) = (L : Int) := by rw [IntKind.wrap_i64]; omega
  have eL : (b : Int) - (a : Int) = (L : Int) := by omega
  have h8 : ((8 : Int) ≤ (L : Int)) := by omega
  have tT : ((L : Int)).tdiv 4 = (T : Int) := by rw [Int.tdiv_eq_ediv_of_nonneg (by omega)]; omega
  have wT2 : IntKind.i64.wrap ((T : Int) * 2) = (T2 : Int) := by rw [IntKind.wrap_i64]; omega
  have eT2 : (T : Int) * 2 = (T2 : Int) := by omega
  have wJ : IntKind.i64.wrap ((a : Int) + (T2 : Int)) = (J : Int) := by rw [IntKind.wrap_i64]; omega
  have eJ : (a : Int) + (T2 : Int) = (J : Int) := by omega
  have wJ0 : IntKind.i64.wrap ((J : Int) - 1) = (J0 : Int) := by rw [IntKind.wrap_i64]; omega
  have eJ0 : (J : Int) - 1 = (J0 : Int) := by omega
  have wJ1 : IntKind.i64.wrap ((J : Int) + 1) = (J1 : Int) := by rw [IntKind.wrap_i64]; omega
  have eJ1 : (J : Int) + 1 = (J1 : Int) := by omega
  have wX : IntKind.u64.wrap (L : Int) = (L : Int) := by rw [IntKind.wrap_u64]; omega
  have wM : IntKind.u64.wrap ((M : Int) - 1) = (M1 : Int) := by rw [IntKind.wrap_u64]; omega
  have eM : (M : Int) - 1 = (M1 : Int) := by omega
  have wM1 : IntKind.u64.wrap (M1 : Int) = (M1 : Int) := by rw [IntKind.wrap_u64]; omega
  have HF : Hid (a ≤ J0 ∧ J1 < b ∧ J1 = J0 + 2 ∧ M1 < 2 * L ∧ L = b - a ∧ M1 < 2000000) := ⟨by omega, by omega, by omega, by omega, by omega, by omega⟩
  have hnp := Tryd.nextPowerOfTwo L (by omega)
  rw [← hM] at hnp
  have hb1 := below_new w (.cells #[.int .u64 (L : Int)] 135)
  have HX1 : Hid (XB (w.alloc (.cells #[.int .u64 (L : Int)] 135)) w.heap.size L) := (MapKept.heap_alloc w _).1
  have HS1 : Hid (SoAt (w.alloc (.cells #[.int .u64 (L : Int)] 135)) g d t) := (hb1.block g h.lt).trans h
  have HG1 : Hid (w.grownBy (w.alloc (.cells #[.int .u64 (L : Int)] 135)) (some g)) := ⟨hb1.os, hb1.tape, hb1.output, hb1.size, fun j hj _ => hb1.block j hj⟩
  have HP1 : Hid (PermIn a b d d) := Go.Sort.permIn_refl d a b
  have HB : Hid (b ≤ d.size) := hb
  rw [hN] at hb hn ⊢
  have hLN : L ≤ 1000000 := by omega
  have hTb : T ≤ 1000000 := by omega
  have hT2b : T2 ≤ 2000000 := by omega
  have hJb : J ≤ 3000000 := by omega
  have hJp : 1 ≤ J := by omega
  clear h hN hL hT hT2 hJ hJ0 hJ1 hM hM1 hpw hb1
  go_enter Tryd.func86, Tryd.ntmps86
  go_wp2_with fail
  generalize w.alloc (.cells #[.int .u64 (L : Int)] 135) = w1 at *
  refine (hnp w1).mono ?_
  rintro e w2 ⟨rfl, hw2⟩
  obtain rfl := hw2.symm
  clear hnp
  go_wp2
  go_loopw [9] (fun iv wr => ∃ i : Nat, J0 ≤ i ∧ i ≤ J1 + 1 ∧ iv = .int .i64 (i : Int) ∧ ∃ (dk : Array Int) (X : Nat), Hid (dk.size = N) ∧ Hid (SoAt wr g dk t) ∧ Hid (PermIn a b d dk) ∧ Hid (XB wr w.heap.size X) ∧ Hid (X < 18446744073709551616) ∧ Hid (w.grownBy wr (some g))) (fun iv _ => J1 + 1 - (intOf iv).toNat)
  case atStart => exact ⟨J0, Nat.le_refl _, by have := HF.out; omega, by first | rfl | go_num, d, L, HD0, HS1, HP1, HX1, by show _ < _; omega, HG1⟩
  case round =>
    obtain ⟨i, hi1, hi2, rfl, dk, X, HD, HS, HP, HX, HXL, HG⟩ := hrel
    clear HD0 HS1 HP1 HX1 HG1 HS0
    by_cases hij : i ≤ J1
    · have hij' : (i : Int) ≤ (J1 : Int) := by omega
      have hne := XB.ne HX.out HS.out
      have hnx := Tryd.next_any w.heap.size X HXL.out wr HX.out
      go_wp2_with fail
      refine hnx.mono ?_
      rintro e w3 ⟨Y, rfl, hY, hx3, hg3⟩
      have HS3 : Hid (SoAt w3 g dk t) := SoAt.grown HS.out hg3 hne
      have HX3 : Hid (XB w3 w.heap.size Y) := hx3
      have HY : Hid (Y < 18446744073709551616) := hY
      have HG3 : Hid (w.grownBy w3 (some g)) := by
        have h1 := HG.out
        exact ⟨hg3.os.trans h1.os, hg3.tape.trans h1.tape, hg3.output.trans h1.output, Nat.le_trans h1.size hg3.size, fun j hj hn => (hg3.block j (Nat.lt_of_lt_of_le hj h1.size) (fun e => by injection e with e; omega)).trans (h1.block j hj hn)⟩
      clear hnx hx3 hg3 HS HG HX HXL
      have hF := HF.out
      obtain ⟨O, hO⟩ : ∃ O, O = Y &&& M1 := ⟨_, rfl⟩
      have hOM : O ≤ M1 := by rw [hO]; exact Nat.and_le_right
      have hand : bits BinOp.and IntKind.u64 (Y : Int) (M1 : Int) = (O : Int) := by rw [bits_and_u64_nat Y M1 hY (by omega), hO]
      have wO : IntKind.i64.wrap (O : Int) = (O : Int) := by rw [IntKind.wrap_i64]; omega
      clear hO hY
      by_cases hOL : L ≤ O
      · have hOL' : (L : Int) ≤ (O : Int) := by omega
        obtain ⟨O2, hO2⟩ : ∃ O2, O2 = O - L := ⟨_, rfl⟩
        have wO2 : IntKind.i64.wrap ((O : Int) - (L : Int)) = (O2 : Int) := by rw [IntKind.wrap_i64]; omega
        have eO2 : (O : Int) - (L : Int) = (O2 : Int) := by omega
        obtain ⟨Q, hQ⟩ : ∃ Q, Q = a + O2 := ⟨_, rfl⟩
        have wQ : IntKind.i64.wrap ((a : Int) + (O2 : Int)) = (Q : Int) := by rw [IntKind.wrap_i64]; omega
        have eQ : (a : Int) + (O2 : Int) = (Q : Int) := by omega
        have hQ1 : a ≤ Q := by omega
        have hQ2 : Q < b := by omega
        clear hO2 hQ
        have HPS : Hid (PermIn a b d (swp dk i Q)) := Go.Sort.permIn_trans _ _ _ _ _ HP.out (Go.Sort.swp_permIn dk a b i Q (by omega) (by omega) hQ1 hQ2 (by rw [HD.out]; omega))
        have hib : i < b := by omega
        clear HP hF
        go_wp2
        have hi1 := fun w' => Tryd.idxSo g N c i w' (by omega)
        have hi2 := fun w' => Tryd.idxSo g N c Q w' (by omega)
        have hsw : SoAt w3 g dk t := HS3.out
        have c3 := hsw.cell (i := i) (by rw [HD.out]; omega)
        have c4 := hsw.cell (i := Q) (by rw [HD.out]; omega)
        have f3 := hsw.fz i
        have f4 := hsw.fz Q
        have hswb : SoAt (w3.setCell ⟨g, i, none⟩ (.int .u64 dk[Q]!)) g (dk.setIfInBounds i dk[Q]!) t := hsw.set (by rw [HD.out]; omega) _
        have f5 := hswb.fz Q
        have c5 := hswb.cell (i := Q) (by rw [Array.size_setIfInBounds, HD.out]; omega)
        have HSa7 : Hid (SoAt ((w3.setCell ⟨g, i, none⟩ (.int .u64 dk[Q]!)).setCell ⟨g, Q, none⟩ (.int .u64 dk[i]!)) g (swp dk i Q) t) := hsw.swap (by rw [HD.out]; omega) (by rw [HD.out]; omega)
        have HGa7 : Hid (w.grownBy ((w3.setCell ⟨g, i, none⟩ (.int .u64 dk[Q]!)).setCell ⟨g, Q, none⟩ (.int .u64 dk[i]!)) (some g)) := grown_set (grown_set HG3.out _) _
        have HD7 : Hid ((swp dk i Q).size = N) := by show _ = _; rw [Go.Sort.size_swp]; exact HD.out
        have HXa : Hid (XB ((w3.setCell ⟨g, i, none⟩ (.int .u64 dk[Q]!)).setCell ⟨g, Q, none⟩ (.int .u64 dk[i]!)).drew w.heap.size Y) := (Below.heap_setCell _ _ _ _ (fun e => hne e.symm)).trans ((Below.heap_setCell _ _ _ _ (fun e => hne e.symm)).trans HX3.out)
        clear hsw hswb
        generalize (dk.setIfInBounds i dk[Q]!)[Q]! = ysw at *
        generalize dk[i]! = xi at *
        generalize dk[Q]! = xj at *
        go_upto_region 15 with fail
        go_region
        all_goals
          have HS7 : Hid (SoAt ((w3.setCell ⟨g, i, none⟩ (.int .u64 xj)).setCell ⟨g, Q, none⟩ (.int .u64 xi)).drew g (swp dk i Q) t) := SoAt.drew HSa7.out
          have HG7 : Hid (w.grownBy ((w3.setCell ⟨g, i, none⟩ (.int .u64 xj)).setCell ⟨g, Q, none⟩ (.int .u64 xi)).drew (some g)) := grown_drew HGa7.out
          clear HSa7 HGa7 c3 c4 f3 f4 f5 c5 hi1 hi2
          generalize ((w3.setCell ⟨g, i, none⟩ (.int .u64 xj)).setCell ⟨g, Q, none⟩ (.int .u64 xi)).drew = w7 at *
          generalize swp dk i Q = d7 at *
          have HX7 : Hid (XB w7 w.heap.size Y) := HXa.out
          go_wp2
          go_roundw
          case rel => exact ⟨i + 1, by omega, by omega, by go_num, d7, Y, HD7, HS7, HPS, HX7, HY, HG7⟩
          case measure => simp [intOf]; omega
      · have hOL' : ¬ (L : Int) ≤ (O : Int) := by omega
        obtain ⟨Q, hQ⟩ : ∃ Q, Q = a + O := ⟨_, rfl⟩
        have wQ : IntKind.i64.wrap ((a : Int) + (O : Int)) = (Q : Int) := by rw [IntKind.wrap_i64]; omega
        have eQ : (a : Int) + (O : Int) = (Q : Int) := by omega
        have hQ1 : a ≤ Q := by omega
        have hQ2 : Q < b := by omega
        clear hQ
        have HPS : Hid (PermIn a b d (swp dk i Q)) := Go.Sort.permIn_trans _ _ _ _ _ HP.out (Go.Sort.swp_permIn dk a b i Q (by omega) (by omega) hQ1 hQ2 (by rw [HD.out]; omega))
        have hib : i < b := by omega
        clear HP hF
        go_wp2
        have hi1 := fun w' => Tryd.idxSo g N c i w' (by omega)
        have hi2 := fun w' => Tryd.idxSo g N c Q w' (by omega)
        have hsw : SoAt w3 g dk t := HS3.out
        have c3 := hsw.cell (i := i) (by rw [HD.out]; omega)
        have c4 := hsw.cell (i := Q) (by rw [HD.out]; omega)
        have f3 := hsw.fz i
        have f4 := hsw.fz Q
        have hswb : SoAt (w3.setCell ⟨g, i, none⟩ (.int .u64 dk[Q]!)) g (dk.setIfInBounds i dk[Q]!) t := hsw.set (by rw [HD.out]; omega) _
        have f5 := hswb.fz Q
        have c5 := hswb.cell (i := Q) (by rw [Array.size_setIfInBounds, HD.out]; omega)
        have HSa7 : Hid (SoAt ((w3.setCell ⟨g, i, none⟩ (.int .u64 dk[Q]!)).setCell ⟨g, Q, none⟩ (.int .u64 dk[i]!)) g (swp dk i Q) t) := hsw.swap (by rw [HD.out]; omega) (by rw [HD.out]; omega)
        have HGa7 : Hid (w.grownBy ((w3.setCell ⟨g, i, none⟩ (.int .u64 dk[Q]!)).setCell ⟨g, Q, none⟩ (.int .u64 dk[i]!)) (some g)) := grown_set (grown_set HG3.out _) _
        have HD7 : Hid ((swp dk i Q).size = N) := by show _ = _; rw [Go.Sort.size_swp]; exact HD.out
        have HXa : Hid (XB ((w3.setCell ⟨g, i, none⟩ (.int .u64 dk[Q]!)).setCell ⟨g, Q, none⟩ (.int .u64 dk[i]!)).drew w.heap.size Y) := (Below.heap_setCell _ _ _ _ (fun e => hne e.symm)).trans ((Below.heap_setCell _ _ _ _ (fun e => hne e.symm)).trans HX3.out)
        clear hsw hswb
        generalize (dk.setIfInBounds i dk[Q]!)[Q]! = ysw at *
        generalize dk[i]! = xi at *
        generalize dk[Q]! = xj at *
        go_upto_region 15 with fail
        go_region
        all_goals
          have HS7 : Hid (SoAt ((w3.setCell ⟨g, i, none⟩ (.int .u64 xj)).setCell ⟨g, Q, none⟩ (.int .u64 xi)).drew g (swp dk i Q) t) := SoAt.drew HSa7.out
          have HG7 : Hid (w.grownBy ((w3.setCell ⟨g, i, none⟩ (.int .u64 xj)).setCell ⟨g, Q, none⟩ (.int .u64 xi)).drew (some g)) := grown_drew HGa7.out
          clear HSa7 HGa7 c3 c4 f3 f4 f5 c5 hi1 hi2
          generalize ((w3.setCell ⟨g, i, none⟩ (.int .u64 xj)).setCell ⟨g, Q, none⟩ (.int .u64 xi)).drew = w7 at *
          generalize swp dk i Q = d7 at *
          have HX7 : Hid (XB w7 w.heap.size Y) := HXa.out
          go_wp2
          go_roundw
          case rel => exact ⟨i + 1, by omega, by omega, by go_num, d7, Y, HD7, HS7, HPS, HX7, HY, HG7⟩
          case measure => simp [intOf]; omega
    · have hij' : ¬ (i : Int) ≤ (J1 : Int) := by omega
      go_wp2
      go_end0
      exact ⟨rfl, dk, HP.out, HD.out, HS.out, HG.out⟩
end Go.Proofs.YtnedkpbpeolfoaaDoor
namespace Go.Proofs.YtnedkpbpeolfoaaDoor
open Go.Sort (swp PermIn SortedIn)
/-- What pdqsort's loop keeps: the part [a, b) is left to be sorted. -/
structure PQ (a0 b0 a b : Nat) (d0 d : Array Int) : Prop where
  a1 : a0 ≤ a
  ab : a ≤ b
  b1 : b ≤ b0
  sz : d.size = d0.size
  perm : PermIn a0 b0 d0 d
  bel : Go.Sort.Below lt64 a b d
  fin : ∀ d' : Array Int, PermIn a b d d' → SortedIn lt64 a b d' → SortedIn lt64 a0 b0 d'
theorem pq_start {a b : Nat} {d : Array Int} (hab : a ≤ b) (hB : Go.Sort.Below lt64 a b d) : PQ a b a b d d :=
  ⟨Nat.le_refl _, hab, Nat.le_refl _, rfl, Go.Sort.permIn_refl d a b, hB, fun _ _ h => h⟩
theorem PQ.up {a0 b0 a b : Nat} {d0 d d' : Array Int} (h : PQ a0 b0 a b d0 d) (hb : b0 ≤ d0.size) (hp : PermIn a b d d') : PermIn a0 b0 d0 d' :=
  Go.Sort.permIn_trans _ _ _ _ _ h.perm (Go.Sort.permIn_mono d d' a b a0 b0 h.a1 h.b1 (by rw [h.sz]; exact hb) hp)
theorem below_perm {a b : Nat} {d d' : Array Int} (hb : b ≤ d.size) (h : Go.Sort.Below lt64 a b d) (hp : PermIn a b d d') : Go.Sort.Below lt64 a b d' := by
  rcases h with h | h
  · exact Or.inl h
  · by_cases ha : a = 0
    · exact Or.inl ha
    · right
      rw [hp.2.1 (a - 1) (by omega)]
      exact Go.Sort.permIn_all d d' a b (fun x => lt64 x d[a - 1]! = false) hb hp h
theorem PQ.move {a0 b0 a b : Nat} {d0 d d' : Array Int} (h : PQ a0 b0 a b d0 d) (hb : b0 ≤ d0.size) (hp : PermIn a b d d') : PQ a0 b0 a b d0 d' :=
  ⟨h.a1, h.ab, h.b1, hp.1.trans h.sz, h.up hb hp, below_perm (by have := h.b1; rw [h.sz]; omega) h.bel hp, fun e h1 h2 => h.fin e (Go.Sort.permIn_trans _ _ _ _ _ hp h1) h2⟩
/-- Sorted left of the pivot, sorted right of it: sorted. -/
theorem sorted_parts {a b m : Nat} {d : Array Int} {p : Int} (hp : d[m]! = p) (hl : SortedIn lt64 a m d) (hr : SortedIn lt64 (m + 1) b d) (h1 : ∀ x, a ≤ x → x < m → lt64 d[x]! p = true) (h2 : ∀ x, m < x → x < b → lt64 d[x]! p = false) : SortedIn lt64 a b d := by
  have no : ∀ x y : Int, lt64 x p = true → lt64 y p = false → lt64 y x = false := fun x y k1 k2 => by
    cases k : lt64 y x with
    | false => rfl
    | true => rw [swo64.trans y x p k k1] at k2; cases k2
  intro i j hi hij hj
  by_cases c1 : j < m
  · exact hl i j hi hij c1
  · by_cases c2 : j = m
    · subst c2
      rw [hp]
      exact no _ _ (h1 i hi hij) (swo64.irrefl p)
    · by_cases c3 : i < m
      · exact no _ _ (h1 i hi c3) (h2 j (by omega) hj)
      · by_cases c4 : i = m
        · subst c4
          rw [hp]
          exact h2 j hij hj
        · exact hr i j (by omega) hij hj
theorem PQ.left {a0 b0 a b m : Nat} {d0 d d4 d5 : Array Int} (h : PQ a0 b0 a b d0 d) (hb : b0 ≤ d0.size) (hP : Parted d a b m d4) (hp : PermIn a m d4 d5) (hs : SortedIn lt64 a m d5) : PQ a0 b0 (m + 1) b d0 d5 := by
  have hsz := h.sz
  have hsz4 := hP.sz
  have hb1 := h.b1
  have hma := hP.ma
  have hmb := hP.mb
  have h4 := h.move hb hP.perm
  have e5 : ∀ x, m ≤ x → d5[x]! = d4[x]! := fun x hx => hp.2.1 x (Or.inr hx)
  have k5 : PermIn a b d4 d5 := Go.Sort.permIn_mono d4 d5 a m a b (Nat.le_refl _) (by omega) (by omega) hp
  have lo5 : ∀ x, a ≤ x → x < m → lt64 d5[x]! d4[m]! = true := Go.Sort.permIn_all d4 d5 a m (fun x => lt64 x d4[m]! = true) (by omega) hp hP.lo
  refine ⟨by have := h.a1; omega, by omega, hb1, hp.1.trans (hsz4.trans hsz), h4.up hb k5, Or.inr fun i h1 h2 => ?_, fun e h1 h2 => ?_⟩
  · rw [show m + 1 - 1 = m by omega, e5 i (by omega), e5 m (Nat.le_refl _)]
    exact hP.hi i (by omega) h2
  · have kk : PermIn a b d5 e := Go.Sort.permIn_mono d5 e (m + 1) b a b (by omega) (Nat.le_refl _) (by rw [hp.1]; omega) h1
    have ee : ∀ x, x < m + 1 → e[x]! = d5[x]! := fun x hx => h1.2.1 x (Or.inl hx)
    have hie : ∀ x, m + 1 ≤ x → x < b → lt64 e[x]! d4[m]! = false := Go.Sort.permIn_all d5 e (m + 1) b (fun x => lt64 x d4[m]! = false) (by rw [hp.1]; omega) h1 (fun i k1 k2 => by rw [e5 i (by omega)]; exact hP.hi i (by omega) k2)
    refine h4.fin e (Go.Sort.permIn_trans _ _ _ _ _ k5 kk) (sorted_parts (m := m) (p := d4[m]!) ?_ ?_ h2 ?_ ?_)
    · rw [ee m (by omega), e5 m (Nat.le_refl _)]
    · intro i j hi hij hj
      rw [ee i (by omega), ee j (by omega)]
      exact hs i j hi hij hj
    · intro x k1 k2
      rw [ee x (by omega)]
      exact lo5 x k1 k2
    · intro x k1 k2
      exact hie x (by omega) k2
theorem PQ.right {a0 b0 a b m : Nat} {d0 d d4 d5 : Array Int} (h : PQ a0 b0 a b d0 d) (hb : b0 ≤ d0.size) (hP : Parted d a b m d4) (hp : PermIn (m + 1) b d4 d5) (hs : SortedIn lt64 (m + 1) b d5) : PQ a0 b0 a m d0 d5 := by
  have hsz := h.sz
  have hsz4 := hP.sz
  have hb1 := h.b1
  have hma := hP.ma
  have hmb := hP.mb
  have h4 := h.move hb hP.perm
  have e5 : ∀ x, x < m + 1 → d5[x]! = d4[x]! := fun x hx => hp.2.1 x (Or.inl hx)
  have k5 : PermIn a b d4 d5 := Go.Sort.permIn_mono d4 d5 (m + 1) b a b (by omega) (Nat.le_refl _) (by omega) hp
  have hi5 : ∀ x, m + 1 ≤ x → x < b → lt64 d5[x]! d4[m]! = false := Go.Sort.permIn_all d4 d5 (m + 1) b (fun x => lt64 x d4[m]! = false) (by omega) hp (fun i k1 k2 => hP.hi i (by omega) k2)
  refine ⟨h.a1, hma, by omega, hp.1.trans (hsz4.trans hsz), h4.up hb k5, ?_, fun e h1 h2 => ?_⟩
  · rcases h4.bel with k | k
    · exact Or.inl k
    · right
      intro i h1 h2
      rw [e5 i (by omega), e5 (a - 1) (by omega)]
      exact k i h1 (by omega)
  · have kk : PermIn a b d5 e := Go.Sort.permIn_mono d5 e a m a b (Nat.le_refl _) (by omega) (by rw [hp.1]; omega) h1
    have ee : ∀ x, m ≤ x → e[x]! = d5[x]! := fun x hx => h1.2.1 x (Or.inr hx)
    have loe : ∀ x, a ≤ x → x < m → lt64 e[x]! d4[m]! = true := Go.Sort.permIn_all d5 e a m (fun x => lt64 x d4[m]! = true) (by rw [hp.1]; omega) h1 (fun i k1 k2 => by rw [e5 i (by omega)]; exact hP.lo i k1 k2)
    refine h4.fin e (Go.Sort.permIn_trans _ _ _ _ _ k5 kk) (sorted_parts (m := m) (p := d4[m]!) ?_ h2 ?_ loe ?_)
    · rw [ee m (Nat.le_refl _), e5 m (by omega)]
    · intro i j hi hij hj
      rw [ee i (by omega), ee j (by omega)]
      exact hs i j hi hij hj
    · intro x k1 k2
      rw [ee x (by omega)]
      exact hi5 x (by omega) k2
theorem PQ.eq {a0 b0 a b m q : Nat} {d0 d d4 : Array Int} (h : PQ a0 b0 a b d0 d) (hb : b0 ≤ d0.size) (ha : 0 < a) (hl : lt64 d[a - 1]! d[q]! = false) (hP : EqParted d a b m d[q]! d4) : PQ a0 b0 m b d0 d4 := by
  have hsz := h.sz
  have hsz4 := hP.sz
  have hb1 := h.b1
  have hma := hP.ma
  have hmb := hP.mb
  have h4 := h.move hb hP.perm
  have nl : ∀ i, a ≤ i → i < b → lt64 d[i]! d[q]! = false := fun i k1 k2 => by
    rcases h.bel with k | k
    · omega
    · exact swo64.ntrans _ _ _ (k i k1 k2) hl
  have nl4 : ∀ i, a ≤ i → i < b → lt64 d4[i]! d[q]! = false := Go.Sort.permIn_all d d4 a b (fun x => lt64 x d[q]! = false) (by omega) hP.perm nl
  have no : ∀ x y : Int, lt64 d[q]! y = true → lt64 d[q]! x = false → lt64 y x = false := fun x y k1 k2 => by
    cases k : lt64 y x with
    | false => rfl
    | true => rw [swo64.trans _ _ _ k1 k] at k2; cases k2
  refine ⟨by have := h.a1; omega, hmb, hb1, hsz4.trans hsz, h4.perm, Or.inr fun i h1 h2 => no _ _ (hP.hi i h1 h2) (hP.lo (m - 1) (by omega) (by omega)), fun e h1 h2 => ?_⟩
  have kk : PermIn a b d4 e := Go.Sort.permIn_mono d4 e m b a b (by omega) (Nat.le_refl _) (by omega) h1
  have ee : ∀ x, x < m → e[x]! = d4[x]! := fun x hx => h1.2.1 x (Or.inl hx)
  have hie : ∀ x, m ≤ x → x < b → lt64 d[q]! e[x]! = true := Go.Sort.permIn_all d4 e m b (fun x => lt64 d[q]! x = true) (by omega) h1 hP.hi
  refine h4.fin e kk fun i j hi hij hj => ?_
  by_cases c1 : j < m
  · rw [ee i (by omega), ee j c1]
    exact swo64.ntrans _ _ _ (nl4 j (by omega) hj) (hP.lo i hi (by omega))
  · by_cases c2 : i < m
    · rw [ee i c2]
      exact no _ _ (hie j (by omega) hj) (hP.lo i hi c2)
    · exact h2 i j (by omega) hij hj
end Go.Proofs.YtnedkpbpeolfoaaDoor
