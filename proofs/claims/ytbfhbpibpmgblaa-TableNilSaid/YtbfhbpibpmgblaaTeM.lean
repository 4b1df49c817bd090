/- Package term's small functions: the parts of the program in memory; is, over, shape, mayBe. -/
import Derived.Test.YtbfhbpibpmgblaaKGen
import Derived.Test.YtbfhbpibpmgblaaTermM
import Derived.Deep.DeepCutAuto
import Derived.Test.YtbfhbpibpmgblaaWTk
namespace Go.Proofs.Ytbfhbpibpmgblaa
open Go.RowKit Go.Maps

def kpCells (p : Kp) : Array Value := #[.int .u8 (p.k : Int), .int .i64 (p.b : Int), .int .i64 (p.d : Int)]
/-- Block g is a variable that holds a part. -/
def KpBlk (w : World) (g : Nat) (t : TypeId) (p : Kp) : Prop := w.heap[g]? = some (.cells (kpCells p) t (0, 0))
theorem KpBlk.new (w : World) (t : TypeId) (p : Kp) : KpBlk (w.alloc (.cells (kpCells p) t)) w.heap.size t p := (MapKept.heap_alloc w _).1
theorem KpBlk.lt {w : World} {g : Nat} {t : TypeId} {p : Kp} (h : KpBlk w g t p) : g < w.heap.size := (Array.getElem?_eq_some_iff.1 h).1
theorem KpBlk.up {w w' : World} {g : Nat} {t : TypeId} {p : Kp} (h : KpBlk w g t p) (hb : Below w.heap.size w w') : KpBlk w' g t p := (hb.block g h.lt).trans h
theorem KpBlk.c0 {w : World} {g : Nat} {t : TypeId} {p : Kp} (h : KpBlk w g t p) : w.cell? ⟨g, 0, none⟩ = some (.int .u8 (p.k : Int)) := by unfold KpBlk at h; simp [World.cell?, h, kpCells]
theorem KpBlk.c1 {w : World} {g : Nat} {t : TypeId} {p : Kp} (h : KpBlk w g t p) : w.cell? ⟨g, 1, none⟩ = some (.int .i64 (p.b : Int)) := by unfold KpBlk at h; simp [World.cell?, h, kpCells]
theorem KpBlk.c2 {w : World} {g : Nat} {t : TypeId} {p : Kp} (h : KpBlk w g t p) : w.cell? ⟨g, 2, none⟩ = some (.int .i64 (p.d : Int)) := by unfold KpBlk at h; simp [World.cell?, h, kpCells]
theorem KpBlk.fz {w : World} {g : Nat} {t : TypeId} {p : Kp} (h : KpBlk w g t p) (i : Nat) : w.frozen? ⟨g, i, none⟩ = false := frozen_of_row w g i _ t h
theorem KpBlk.set0 {w : World} {g : Nat} {t : TypeId} {p : Kp} (h : KpBlk w g t p) (x : Nat) : KpBlk (w.setCell ⟨g, 0, none⟩ (.int .u8 (x : Int))) g t { p with k := x } := heap_setCell_same w g 0 _ t (.int .u8 (x : Int)) h
theorem KpBlk.set1 {w : World} {g : Nat} {t : TypeId} {p : Kp} (h : KpBlk w g t p) (x : Nat) : KpBlk (w.setCell ⟨g, 1, none⟩ (.int .i64 (x : Int))) g t { p with b := x } := heap_setCell_same w g 1 _ t (.int .i64 (x : Int)) h
theorem KpBlk.set2 {w : World} {g : Nat} {t : TypeId} {p : Kp} (h : KpBlk w g t p) (x : Nat) : KpBlk (w.setCell ⟨g, 2, none⟩ (.int .i64 (x : Int))) g t { p with d := x } := heap_setCell_same w g 2 _ t (.int .i64 (x : Int)) h
theorem KpBlk.store {w : World} {g : Nat} {t : TypeId} {p : Kp} (h : KpBlk w g t p) (q : Kp) : KpBlk (((w.setCell ⟨g, 0, none⟩ (.int .u8 (q.k : Int))).setCell ⟨g, 1, none⟩ (.int .i64 (q.b : Int))).setCell ⟨g, 2, none⟩ (.int .i64 (q.d : Int))) g t q := ((h.set0 q.k).set1 q.b).set2 q.d
theorem KpBlk.other {w : World} {g g' : Nat} {t : TypeId} {p : Kp} (h : KpBlk w g t p) (hne : g ≠ g') (i : Nat) (x : Value) : KpBlk (w.setCell ⟨g', i, none⟩ x) g t p := (Below.heap_setCell _ _ _ _ hne).trans h

theorem al3 (w : World) (A B C : Obj) : (((w.alloc A).alloc B).alloc C).heap[w.heap.size]? = some A ∧ (((w.alloc A).alloc B).alloc C).heap[w.heap.size + 1]? = some B ∧ (((w.alloc A).alloc B).alloc C).heap[w.heap.size + 1 + 1]? = some C ∧ Below w.heap.size w (((w.alloc A).alloc B).alloc C) := by
  have h1 := (MapKept.heap_alloc w A).1
  have h2 := (MapKept.heap_alloc (w.alloc A) B).1
  have h3 := (MapKept.heap_alloc ((w.alloc A).alloc B) C).1
  have e1 : (w.alloc A).heap.size = w.heap.size + 1 := by simp
  have e2 : ((w.alloc A).alloc B).heap.size = w.heap.size + 1 + 1 := by simp
  have b1 := below_new (w.alloc A) B
  have b2 := below_new ((w.alloc A).alloc B) C
  rw [e1] at h2 b1
  rw [e2] at h3 b2
  refine ⟨?_, ?_, h3, ?_⟩
  · rw [b2.block _ (by omega), b1.block _ (by omega)]; exact h1
  · rw [b2.block _ (by omega)]; exact h2
  · exact ((below_new w A).alloc (by omega) B).alloc (by omega) C
theorem adOf_block (g o k : Nat) : (adOf (some ⟨g, o, none⟩) k).block = g := by simp [adOf, add_plain]
end Go.Proofs.Ytbfhbpibpmgblaa
namespace Go.Proofs.Ytbfhbpibpmgblaa
open Go.RowKit Go.Maps

/-- A list of parts of the program as the walk reads it, from the block's first cell on. -/
structure KpSl (P : Program) (T : TypeId) (w : World) (a : Option Addr) (g len cap : Nat) (ks : List Kp) : Prop where
  hlen : ks.length = len
  hcap : len ≤ cap
  bd : cap ≤ maxLen
  sh : (a = none ∧ cap = 0) ∨ a = some ⟨g, 0, none⟩
  idx : ∀ (n k : Nat) (w : World), k < n → n ≤ len → (Instr.indexAt T (.slice a n cap) (.int .i64 k)).run P w = .ok (.pointer (some ⟨g, 3 * k, none⟩)) w
  c0 : ∀ k (h : k < ks.length), w.cell? ⟨g, 3 * k, none⟩ = some (.int .u8 (ks[k].k : Int))
  c1 : ∀ k (h : k < ks.length), w.cell? ⟨g, 3 * k + 1, none⟩ = some (.int .i64 (ks[k].b : Int))
  c2 : ∀ k (h : k < ks.length), w.cell? ⟨g, 3 * k + 2, none⟩ = some (.int .i64 (ks[k].d : Int))
  blk : 0 < len → g < w.heap.size
theorem KpSl.later {P : Program} {T : TypeId} {w w' : World} {a : Option Addr} {g len cap : Nat} {ks : List Kp} (h : KpSl P T w a g len cap ks) {B : Nat} (hb : Below B w w') (hB : 0 < len → g < B) : KpSl P T w' a g len cap ks :=
  ⟨h.hlen, h.hcap, h.bd, h.sh, h.idx, fun k hk => (hb.cell (hB (by have := h.hlen; omega))).trans (h.c0 k hk), fun k hk => (hb.cell (hB (by have := h.hlen; omega))).trans (h.c1 k hk), fun k hk => (hb.cell (hB (by have := h.hlen; omega))).trans (h.c2 k hk), fun hk => Nat.lt_of_lt_of_le (h.blk hk) hb.size⟩
theorem KpSl.up {P : Program} {T : TypeId} {w w' : World} {a : Option Addr} {g len cap : Nat} {ks : List Kp} (h : KpSl P T w a g len cap ks) (hb : Below w.heap.size w w') : KpSl P T w' a g len cap ks := h.later hb h.blk

theorem madeK_step (m : Kp) (xs : List Kp) (j : Nat) (h : j < xs.length) : madeK m (xs.drop j) = overK (madeK m (xs.drop (j + 1))) xs[j] := by
  rw [List.drop_eq_getElem_cons h]; rfl
theorem fitsK_len : ∀ (ws : List Nat) (xs : List Kp), fitsK ws xs = true → ws.length = xs.length
  | [], [], _ => rfl
  | [], _ :: _, h => by cases h
  | _ :: _, [], h => by cases h
  | w :: ws, x :: xs, h => by simp [fitsK] at h; simp [fitsK_len ws xs h.2]
theorem fitsK_step (ws : List Nat) (xs : List Kp) (j : Nat) (h : j < ws.length) (h' : j < xs.length) : fitsK (ws.drop j) (xs.drop j) = (isK xs[j].k ws[j] && fitsK (ws.drop (j + 1)) (xs.drop (j + 1))) := by
  rw [List.drop_eq_getElem_cons h, List.drop_eq_getElem_cons h']; rfl
theorem fitsK_off : ∀ (j : Nat) (ws : List Nat) (xs : List Kp), fitsK (ws.drop j) (xs.drop j) = false → ws.length = xs.length → fitsK ws xs = false
  | 0, ws, xs, h, _ => by simpa using h
  | j + 1, [], xs, h, hl => by
    have : xs = [] := List.eq_nil_of_length_eq_zero (by simpa using hl.symm)
    subst this; simp [fitsK] at h
  | j + 1, w :: ws, [], h, hl => by simp at hl
  | j + 1, w :: ws, x :: xs, h, hl => by
    simp only [List.drop_succ_cons] at h
    simp [fitsK, fitsK_off j ws xs h (by simpa using hl)]

/-- What take answers, of the parts that the token takes. -/
def TakeR (len n : Nat) (a : Option Addr) (cap : Nat) (r : Option Kp) (e : Ending) : Prop :=
  match r with
  | none => e = .returned (.tuple #[.agg #[.int .u8 0, .int .i64 0, .int .i64 0], .slice none 0 0, .bool false])
  | some m => e = .returned (.tuple #[.agg (kpCells m), .slice a (len - n) cap, .bool true])
def takeK (op p i : Nat) (st : List Kp) : Option Kp :=
  if mayB op p then (if st.length < (takesK op).length then none else if fitsK (takesK op) (st.drop (st.length - (takesK op).length)) then some (madeK ⟨putsK op, i, 1⟩ (st.drop (st.length - (takesK op).length))) else none) else none

theorem IntSl.other {P : Program} {T : TypeId} {q : IntKind} {w : World} {a : Option Addr} {len cap : Nat} {zs : List Int} (h : IntSl P T q w a len cap zs) {g : Nat} (hne : ∀ k, k < len → g < (adOf a k).block) (i : Nat) (v : Value) : IntSl P T q (w.setCell ⟨g, i, none⟩ v) a len cap zs :=
  ⟨h.hlen, h.hcap, h.bd, h.idx, fun k hk => by rw [← h.cell k hk]; exact World.cell?_setCell_other _ _ _ _ (by intro e; have := hne k hk; rw [← e] at this; exact absurd this (Nat.lt_irrefl _)), fun k hk => by have := h.blk k hk; simpa using this, h.nn⟩
end Go.Proofs.Ytbfhbpibpmgblaa
namespace Go.Proofs.Ytbfhbpibpmgblaa
open Go.RowKit Go.Maps

def encK (ks : List Kp) : List Value := ks.flatMap fun p => (kpCells p).toList
theorem encK_cons (p : Kp) (ks : List Kp) : encK (p :: ks) = .int .u8 (p.k : Int) :: .int .i64 (p.b : Int) :: .int .i64 (p.d : Int) :: encK ks := rfl
theorem encK_append (xs ys : List Kp) : encK (xs ++ ys) = encK xs ++ encK ys := by simp [encK]
theorem encK_len : ∀ ks : List Kp, (encK ks).length = ks.length * 3
  | [] => rfl
  | p :: ks => by rw [encK_cons]; simp [encK_len ks]; omega
theorem encK_get : ∀ (ks : List Kp) (k : Nat) (h : k < ks.length), (encK ks)[3 * k]? = some (.int .u8 (ks[k].k : Int)) ∧ (encK ks)[3 * k + 1]? = some (.int .i64 (ks[k].b : Int)) ∧ (encK ks)[3 * k + 2]? = some (.int .i64 (ks[k].d : Int))
  | [], k, h => absurd h (by simp)
  | p :: ks, 0, _ => ⟨rfl, rfl, rfl⟩
  | p :: ks, k + 1, h => by
    have := encK_get ks k (by simpa using h)
    rw [encK_cons, show 3 * (k + 1) + 2 = (3 * k + 2) + 1 + 1 + 1 by omega, show 3 * (k + 1) + 1 = (3 * k + 1) + 1 + 1 + 1 by omega, show 3 * (k + 1) = 3 * k + 1 + 1 + 1 by omega]
    simpa using this
theorem encK_one (ks : List Kp) : ∀ u ∈ encK ks, u.oneCell' = true := by
  intro u hu
  unfold encK at hu
  obtain ⟨p, _, hc⟩ := List.mem_flatMap.1 hu
  simp [kpCells] at hc
  rcases hc with rfl | rfl | rfl <;> rfl
theorem encK_take (ks : List Kp) (m : Nat) : (encK ks).take (m * 3) = encK (ks.take m) := by
  induction ks generalizing m with
  | nil => simp [encK]
  | cons p ks ih =>
    cases m with
    | zero => simp [encK]
    | succ m => rw [encK_cons, show (m + 1) * 3 = m * 3 + 1 + 1 + 1 by omega, List.take_succ_cons, List.take_succ_cons, List.take_succ_cons, ih, List.take_succ_cons, encK_cons]
theorem idx_of3 {P : Program} {T e : TypeId} (hu : P.underlying T = some (.slice e)) (hs : (P.info? e).map (·.size) = some 3) {g cap n : Nat} (k : Nat) (w : World) (hk : k < n) :
    (Instr.indexAt T (.slice (some ⟨g, 0, none⟩) n cap) (.int .i64 k)).run P w = .ok (.pointer (some ⟨g, 3 * k, none⟩)) w := by
  simp [Instr.indexAt, run_underlying hu, asIntOf, sizeOf_run3 hs, hk, Result.andThen, go_sem, add_plain, Nat.mul_comm]
/-- A row of parts of the call's own, as the walk reads it. -/
theorem own_kp {P : Program} {T e : TypeId} {w : World} {base n : Nat} {v : Value} {ks : List Kp} (h : w.ownsRow base e 3 v n (encK ks)) (hu : P.underlying T = some (.slice e)) (hs : (P.info? e).map (·.size) = some 3) :
    ∃ a g cap, v = .slice a n cap ∧ KpSl P T w a g n cap ks ∧ ∀ m, m ≤ n → w.ownsRow base e 3 (.slice a m cap) m (encK (ks.take m)) ∧ (Value.slice a m cap).ownBlock = v.ownBlock := by
  have h' := h
  obtain ⟨hl, h⟩ := h
  rw [encK_len] at hl
  have hl' : ks.length = n := by omega
  rcases h with ⟨rfl, rfl⟩ | ⟨g, cap, cur, rfl, hg, hcell, hnc, hcm, hsz, htk⟩
  · obtain rfl := List.eq_nil_of_length_eq_zero hl'
    refine ⟨none, 0, 0, rfl, ⟨rfl, Nat.le_refl _, Nat.zero_le _, Or.inl ⟨rfl, rfl⟩, fun n k w h1 h2 => absurd h1 (by omega), fun k h => absurd h (by simp), fun k h => absurd h (by simp), fun k h => absurd h (by simp), fun h => absurd h (by omega)⟩, fun m hm => ?_⟩
    obtain rfl : m = 0 := by omega
    exact ⟨h', rfl⟩
  · have hlt : g < w.heap.size := (Array.getElem?_eq_some_iff.1 hcell).1
    have key : ∀ j, j < n * 3 → w.cell? ⟨g, j, none⟩ = (encK ks)[j]? := fun j hj => by
      rw [← htk, List.getElem?_take, if_pos hj]
      simp [World.cell?, hcell]
    refine ⟨some ⟨g, 0, none⟩, g, cap, rfl, ⟨hl', hnc, hcm, Or.inr rfl, fun m k w hk hm => idx_of3 hu hs k w hk, fun k hk => ?_, fun k hk => ?_, fun k hk => ?_, fun _ => hlt⟩, fun m hm => ?_⟩
    · rw [key _ (by omega)]; exact (encK_get ks k hk).1
    · rw [key _ (by omega)]; exact (encK_get ks k hk).2.1
    · rw [key _ (by omega)]; exact (encK_get ks k hk).2.2
    · refine ⟨⟨by rw [encK_len, List.length_take]; omega, Or.inr ⟨g, cap, cur, rfl, hg, hcell, by omega, hcm, hsz, ?_⟩⟩, rfl⟩
      rw [← encK_take, ← htk, List.take_take, Nat.min_eq_left (by omega)]
theorem KpBlk.cells {w : World} {g : Nat} {t : TypeId} {p : Kp} (h : KpBlk w g t p) : ∀ j u, (kpCells p).toList[j]? = some u → w.cell? ((⟨g, 0, none⟩ : Addr).add j) = some u := by
  intro j u hj
  rw [add_plain, Nat.zero_add]
  unfold KpBlk at h
  simp only [World.cell?, h]
  simpa using hj
theorem KpBlk.grown {w w' : World} {g : Nat} {t : TypeId} {p : Kp} {row : Option Nat} (h : KpBlk w g t p) (hg : w.grownBy w' row) (hne : row ≠ some g) : KpBlk w' g t p := (hg.block g h.lt (fun e => hne e.symm)).trans h
theorem takeK_spec (op p i : Nat) (st : List Pt) (hs : ∀ x ∈ st, Sane x) : takeK op p i (st.map kp) = match takesN (op, p) with | none => none | some n => if st.length < n then none else if fitsP op (st.drop (st.length - n)) then some (kp (putP (op, p) (st.drop (st.length - n)) i)) else none := by
  unfold takeK
  cases hm : mayB op p with
  | false => rw [takesN_mayB, hm]; rfl
  | true =>
    have ht : takesN (op, p) = some (takesK op).length := by rw [takesN_mayB, hm]; rfl
    rw [ht]
    simp only [if_true, List.length_map]
    by_cases hl : st.length < (takesK op).length
    · rw [if_pos hl, if_pos hl]
    · rw [if_neg hl, if_neg hl, ← List.map_drop]
      have hdl : (st.drop (st.length - (takesK op).length)).length = (takesK op).length := by simp; omega
      have hds : ∀ x ∈ st.drop (st.length - (takesK op).length), Sane x := fun x hx => hs x (List.mem_of_mem_drop hx)
      rw [fitsK_fitsP ht hdl hds]
      by_cases hf : fitsP op (st.drop (st.length - (takesK op).length)) = true
      · rw [if_pos hf, if_pos hf, madeK_putP ht hdl hf hds]
      · rw [if_neg hf, if_neg hf]
/-- One round of the reading, plain. -/
theorem readP_step {t : Tk} {r : List Tk} {i : Nat} {st : List Pt} : readP (t :: r) i st = match takesN t with | none => none | some n => if st.length < n then none else if fitsP t.1 (st.drop (st.length - n)) then (readP r (i + 1) (st.take (st.length - n) ++ [putP t (st.drop (st.length - n)) i])).map (fun x => (putP t (st.drop (st.length - n)) i :: x.1, x.2)) else none := by
  rw [readP]; cases takesN t <;> rfl
theorem putP_dep {t : Tk} {a : List Pt} {i k : Nat} (h : ∀ x ∈ a, x.dep ≤ k) : (putP t a i).dep ≤ k + 1 := by
  show a.foldl _ 1 ≤ k + 1
  have key : ∀ (a : List Pt) (d : Nat), d ≤ k + 1 → (∀ x ∈ a, x.dep ≤ k) → a.foldl (fun d x => max d (x.dep + 1)) d ≤ k + 1 := by
    intro a
    induction a with
    | nil => intro d hd _; exact hd
    | cons y r ih => intro d hd hx; exact ih _ (by have := hx y (by simp); dsimp only; omega) (fun x h => hx x (List.mem_cons_of_mem _ h))
  exact key a 1 (by omega) h
end Go.Proofs.Ytbfhbpibpmgblaa
namespace Go.Proofs.Ytbfhbpibpmgblaa
open Go.RowKit Go.Maps

/-- What read answers. -/
def ReadK (T : TypeId) (want : Nat) (r : Option (List Pt × List Pt)) (w : World) (e : Ending) (w' : World) : Prop :=
  match r with
  | none => e = .returned (.tuple #[.slice none 0 0, .bool false])
  | some x => ∃ v, e = .returned (.tuple #[v, .bool (oneK x.2 want)]) ∧ w'.ownsRow w.heap.size T 3 v x.1.length (encK (x.1.map kp))

theorem read_round {op pp k : Nat} {st all : List Pt} {r : List Tk} {R : Option (List Pt × List Pt)} (HX : R = Option.map (fun x => (all ++ x.1, x.2)) (readP ((op, pp) :: r) k st)) (hs : ∀ x ∈ st, Sane x) (hd : ∀ x ∈ st, x.dep ≤ k) :
    (takeK op pp k (st.map kp) = none ∧ R = none) ∨ ∃ p, takeK op pp k (st.map kp) = some (kp p) ∧ (takesK op).length ≤ st.length ∧ R = (readP r (k + 1) (st.take (st.length - (takesK op).length) ++ [p])).map (fun x => (all ++ [p] ++ x.1, x.2)) ∧ Sane p ∧ p.dep ≤ k + 1 := by
  rw [readP_step] at HX
  rw [takeK_spec op pp k st hs]
  cases ht : takesN (op, pp) with
  | none => rw [ht] at HX; exact Or.inl ⟨rfl, HX⟩
  | some n =>
    have hn : n = (takesK op).length := by
      have h2 := ht
      rw [takesN_mayB] at h2
      split at h2
      · injection h2 with h2; exact h2.symm
      · cases h2
    subst hn
    rw [ht] at HX
    simp only at HX ⊢
    by_cases hl : st.length < (takesK op).length
    · rw [if_pos hl] at HX; rw [if_pos hl]; exact Or.inl ⟨rfl, HX⟩
    · rw [if_neg hl] at HX; rw [if_neg hl]
      by_cases hf : fitsP op (st.drop (st.length - (takesK op).length)) = true
      · rw [if_pos hf] at HX; rw [if_pos hf]
        refine Or.inr ⟨_, rfl, by omega, ?_, putP_sane _ _ _, putP_dep (fun x hx => hd x (List.mem_of_mem_drop hx))⟩
        rw [HX, Option.map_map]
        congr 1
        funext x
        simp
      · rw [if_neg hf] at HX; rw [if_neg hf]; exact Or.inl ⟨rfl, HX⟩
/-- What look answers: the parts, or nothing and the error. -/
def LookR (T : TypeId) (E : Nat) (all : List Pt) (w : World) (e : Ending) (w' : World) : Prop :=
  ∃ v, e = .returned (.tuple #[v, .int .i64 (E : Int)]) ∧ (E = 0 → w'.ownsRow w.heap.size T 3 v all.length (encK (all.map kp))) ∧ (E ≠ 0 → v = .slice none 0 0)
theorem read_last {ts : List Tk} {all : List Pt} {p : Pt} (h : readP ts 0 [] = some (all, [p])) : ∃ q, all = q ++ [p] := by
  obtain ⟨t, h1, h2, h3, h4⟩ := read_one.1 h
  obtain ⟨q, hq, _⟩ := parts_last t 0
  exact ⟨q, by rw [h3, hq, h4]⟩
theorem read_length : ∀ (ts : List Tk) (i : Nat) (st all s : List Pt), readP ts i st = some (all, s) → all.length = ts.length
  | [], i, st, all, s, h => by unfold readP at h; injection h with h; injection h with h1 h2; rw [← h1]; rfl
  | t :: r, i, st, all, s, h => by
    rw [readP_step] at h
    split at h
    · cases h
    · split at h
      · cases h
      · split at h
        · cases hr : readP r (i + 1) (st.take (st.length - _) ++ [putP t (st.drop (st.length - _)) i]) with
          | none => rw [hr] at h; cases h
          | some x =>
            rw [hr] at h
            injection h with h
            injection h with h1 h2
            rw [← h1, List.length_cons, read_length r _ _ x.1 x.2 hr, List.length_cons]
        · cases h
end Go.Proofs.Ytbfhbpibpmgblaa
