/- Plain: reading always ends; a formula in brackets, two with an operator between, paths in their brackets. -/
import Derived.Test.YtnibcmmgnenfcaaDoorPaP
namespace Go.Proofs.YtnibcmmgnenfcaaDoor

def rank5 : NT → Nat
  | .lev k => 3 + (5 - k)
  | .more _ => 1
  | .una => 2
  | .ato => 1
  | .pat k => 2 + (2 - k)
  | .pmore _ => 1
  | .bar => 1
def need5 (nt : NT) (ws : List Wd) : Nat := 16 * ws.length + rank5 nt
/-- Those that take at least one word. -/
def eats : NT → Bool
  | .more _ => false
  | .pmore _ => false
  | _ => true
def Fine (nt : NT) (ws : List Wd) (x : PR) : Prop := ∃ a, x = some a ∧ ∀ t r, a = .ok (t, r) → r.length ≤ ws.length ∧ (eats nt = true → r.length < ws.length)
theorem Fine.err {nt : NT} {ws : List Wd} {e p : Int} : Fine nt ws (erR e p) := ⟨_, rfl, fun t r h => by cases h⟩
theorem Fine.okS {nt : NT} {ws r : List Wd} {t : List Tk5} (h : r.length < ws.length) : Fine nt ws (okR t r) := ⟨_, rfl, fun t' r' h' => by injection h' with h'; injection h' with _ h2; subst h2; exact ⟨by omega, fun _ => h⟩⟩
theorem Fine.okN {nt : NT} {ws r : List Wd} {t : List Tk5} (h : r.length ≤ ws.length) (he : eats nt = false) : Fine nt ws (okR t r) := ⟨_, rfl, fun t' r' h' => by injection h' with h'; injection h' with _ h2; subst h2; exact ⟨h, fun h => by rw [he] at h; cases h⟩⟩
theorem Fine.to {nt nt' : NT} {ws : List Wd} {x : PR} (h : Fine nt' ws x) (he : eats nt' = true) : Fine nt ws x := by
  obtain ⟨a, h1, h2⟩ := h
  exact ⟨a, h1, fun t r h => ⟨(h2 t r h).1, fun _ => (h2 t r h).2 he⟩⟩
/-- One call, then the rest. -/
theorem Fine.and {nt nt' : NT} {ws q : List Wd} {x : PR} {f : List Tk5 → List Wd → PR} (h : Fine nt' q x) (hf : ∀ t r, r.length ≤ q.length → (eats nt' = true → r.length < q.length) → Fine nt ws (f t r)) : Fine nt ws (andR x f) := by
  obtain ⟨a, h1, h2⟩ := h
  rw [h1]
  cases a with
  | error e => exact ⟨_, rfl, fun t r h => by cases h⟩
  | ok p => obtain ⟨i, j⟩ := h2 p.1 p.2 rfl; exact hf p.1 p.2 i j
theorem tail_lt {ws : List Wd} (h : ws ≠ []) : ws.tail.length + 1 = ws.length := by cases ws with | nil => exact absurd rfl h | cons => simp
theorem rd5_fine (ns : List Bytes) (fin : Int) : ∀ (n : Nat) (nt : NT) (ws : List Wd), need5 nt ws ≤ n → Fine nt ws (rd5 ns fin n nt ws)
  | 0, nt, ws, h => by unfold need5 at h; cases nt <;> simp [rank5] at h
  | n + 1, nt, ws, h => by
    have ih := rd5_fine ns fin n
    unfold need5 at h ih
    cases nt with
    | lev k =>
      simp only [rank5] at h
      unfold rd5
      split
      · exact (ih .una ws (by simp only [rank5]; omega)).to rfl
      · refine (ih (.lev (k + 1)) ws (by simp only [rank5]; omega)).and fun t r _ h2 => ?_
        have h2 := h2 rfl
        exact (ih (.more k) r (by simp only [rank5]; omega)).and fun u q h3 _ => Fine.okS (by omega)
    | more k =>
      simp only [rank5] at h
      unfold rd5
      split
      · exact Fine.okN (Nat.le_refl _) rfl
      · rename_i op hop
        have ht := tail_lt (tab_ne (T := opOf k) hop (nil_op k))
        split
        · exact (ih (.lev k) ws.tail (by simp only [rank5]; omega)).and fun t r _ h2 => Fine.okS (by have := h2 rfl; omega)
        · refine (ih (.lev (k + 1)) ws.tail (by simp only [rank5]; omega)).and fun t r _ h2 => ?_
          have h2 := h2 rfl
          exact (ih (.more k) r (by simp only [rank5]; omega)).and fun u q h3 _ => Fine.okS (by omega)
    | una =>
      simp only [rank5] at h
      unfold rd5
      split
      · rename_i op hop
        have ht := tail_lt (tab_ne (T := unOf) hop rfl)
        exact (ih .una ws.tail (by simp only [rank5]; omega)).and fun t r _ h2 => Fine.okS (by have := h2 rfl; omega)
      · split
        · rename_i c op hop
          have ht := tail_lt (tab_ne (T := mdOf) hop rfl)
          refine (ih (.pat 0) ws.tail (by simp only [rank5]; omega)).and fun t r _ h2 => ?_
          have h2 := h2 rfl
          split
          · have hl : r.tail.length ≤ r.length := by simp
            exact (ih .una r.tail (by simp only [rank5]; omega)).and fun u q _ h3 => Fine.okS (by have := h3 rfl; omega)
          · exact Fine.err
        · exact (ih .ato ws (by simp only [rank5]; omega)).to rfl
    | ato =>
      simp only [rank5] at h
      unfold rd5
      split
      · rename_i op hop
        have ht := tail_lt (tab_ne (T := atOf) hop rfl)
        exact Fine.okS (by omega)
      · split
        · rename_i hh
          have ht := tail_lt (hd_ne hh (by simp))
          refine (ih (.lev 0) ws.tail (by simp only [rank5]; omega)).and fun t r _ h2 => ?_
          have h2 := h2 rfl
          split
          · have hl : r.tail.length ≤ r.length := by simp
            exact Fine.okS (by omega)
          · exact Fine.err
        · cases ws with
          | nil => exact Fine.err
          | cons w r =>
            dsimp only
            split
            · split
              · exact Fine.okS (by simp)
              · exact Fine.err
            · exact Fine.err
    | pat k =>
      simp only [rank5] at h
      unfold rd5
      split
      · refine (ih .bar ws (by simp only [rank5]; omega)).and fun t r _ h2 => ?_
        have h2 := h2 rfl
        exact (ih (.pmore k) r (by simp only [rank5]; omega)).and fun u q h3 _ => Fine.okS (by omega)
      · refine (ih (.pat (k + 1)) ws (by simp only [rank5]; omega)).and fun t r _ h2 => ?_
        have h2 := h2 rfl
        exact (ih (.pmore k) r (by simp only [rank5]; omega)).and fun u q h3 _ => Fine.okS (by omega)
    | pmore k =>
      simp only [rank5] at h
      unfold rd5
      split
      · exact Fine.okN (Nat.le_refl _) rfl
      · rename_i op hop
        have ht := tail_lt (tab_ne (T := pOf k) hop (nil_p k))
        split
        · exact (ih (.pmore k) ws.tail (by simp only [rank5]; omega)).and fun u q h3 _ => Fine.okS (by omega)
        · refine (ih (.pat (k + 1)) ws.tail (by simp only [rank5]; omega)).and fun t r _ h2 => ?_
          have h2 := h2 rfl
          exact (ih (.pmore k) r (by simp only [rank5]; omega)).and fun u q h3 _ => Fine.okS (by omega)
    | bar =>
      simp only [rank5] at h
      unfold rd5
      split
      · rename_i hh
        have ht := tail_lt (hd_ne hh (by simp))
        refine (ih (.lev 0) ws.tail (by simp only [rank5]; omega)).and fun t r _ h2 => ?_
        have h2 := h2 rfl
        split
        · have hl : r.tail.length ≤ r.length := by simp
          exact Fine.okS (by omega)
        · exact Fine.err
      · split
        · rename_i hh
          have ht := tail_lt (hd_ne hh (by simp))
          exact (ih .una ws.tail (by simp only [rank5]; omega)).and fun t r _ h2 => Fine.okS (by have := h2 rfl; omega)
        · split
          · rename_i hh
            have ht := tail_lt (hd_ne hh (by simp))
            refine (ih (.pat 0) ws.tail (by simp only [rank5]; omega)).and fun t r _ h2 => ?_
            have h2 := h2 rfl
            split
            · have hl : r.tail.length ≤ r.length := by simp
              exact Fine.okS (by omega)
            · exact Fine.err
          · exact Fine.err

/-! ### the whole text -/
def endR (x : PR) : Except Er (List Tk5) :=
  match x with
  | none => .error (0, 0)
  | some (.error e) => .error e
  | some (.ok (t, [])) => .ok t
  | some (.ok (_, w :: _)) => .error (150, w.pl)
def whole5 (ns : List Bytes) (fin : Int) (nt : NT) (ws : List Wd) : Except Er (List Tk5) := endR (rd5 ns fin (16 * ws.length + 16) nt ws)
theorem need_le (nt : NT) (ws : List Wd) : need5 nt ws ≤ 16 * ws.length + 16 := by
  unfold need5; cases nt <;> simp [rank5] <;> omega
/-- Whatever number of calls does, tells the whole. -/
theorem whole_of {ns : List Bytes} {fin : Int} {nt : NT} {ws : List Wd} {n : Nat} {a : Except Er (List Tk5 × List Wd)} (h : rd5 ns fin n nt ws = some a) : rd5 ns fin (16 * ws.length + 16) nt ws = some a := by
  obtain ⟨b, hb, _⟩ := rd5_fine ns fin (16 * ws.length + 16) nt ws (need_le nt ws)
  rcases Nat.le_total n (16 * ws.length + 16) with hl | hl
  · exact rd5_mono hl a h
  · have := rd5_mono hl b hb
    rw [h] at this
    rw [hb, ← this]
theorem whole_ok {ns : List Bytes} {fin : Int} {nt : NT} {ws : List Wd} {t : List Tk5} : whole5 ns fin nt ws = .ok t ↔ ∃ n, rd5 ns fin n nt ws = some (.ok (t, [])) := by
  constructor
  · intro h
    unfold whole5 endR at h
    refine ⟨16 * ws.length + 16, ?_⟩
    split at h
    · cases h
    · cases h
    · injection h with h; subst h; assumption
    · cases h
  · rintro ⟨n, h⟩
    unfold whole5
    rw [whole_of h]; rfl

/-! ### what is left stands at the end -/
def SufR (ws : List Wd) (x : PR) : Prop := ∀ t r, x = some (.ok (t, r)) → r <:+ ws
theorem SufR.err {ws : List Wd} {e p : Int} : SufR ws (erR e p) := fun t r h => by cases h
theorem SufR.ok {ws r : List Wd} {t : List Tk5} (h : r <:+ ws) : SufR ws (okR t r) := fun t' q h' => by
  simp only [okR, Option.some.injEq, Except.ok.injEq, Prod.mk.injEq] at h'
  obtain ⟨_, rfl⟩ := h'
  exact h
theorem SufR.to {ws q : List Wd} {x : PR} (h : SufR q x) (hq : q <:+ ws) : SufR ws x := fun t r hx => (h t r hx).trans hq
theorem SufR.and {ws : List Wd} {x : PR} {f : List Tk5 → List Wd → PR} (h : SufR ws x) (hf : ∀ t r, r <:+ ws → SufR ws (f t r)) : SufR ws (andR x f) := by
  intro t q ha
  cases x with
  | none => simp [andR] at ha
  | some b =>
    cases b with
    | error e => simp [andR] at ha
    | ok p => exact hf p.1 p.2 (h p.1 p.2 rfl) t q ha
theorem tl_suf (ws : List Wd) : ws.tail <:+ ws := List.tail_suffix ws
theorem rd5_suf (ns : List Bytes) (fin : Int) : ∀ (n : Nat) (nt : NT) (ws : List Wd), SufR ws (rd5 ns fin n nt ws)
  | 0, _, _ => fun t r h => by cases h
  | n + 1, nt, ws => by
    have ih := rd5_suf ns fin n
    cases nt with
    | lev k =>
      unfold rd5
      split
      · exact ih _ _
      · exact (ih _ _).and fun t r h => ((ih _ _).to h).and fun u q h' => SufR.ok h'
    | more k =>
      unfold rd5
      split
      · exact SufR.ok List.suffix_rfl
      · split
        · exact ((ih _ _).to (tl_suf ws)).and fun t r h => SufR.ok h
        · exact ((ih _ _).to (tl_suf ws)).and fun t r h => ((ih _ _).to h).and fun u q h' => SufR.ok h'
    | una =>
      unfold rd5
      split
      · exact ((ih _ _).to (tl_suf ws)).and fun t r h => SufR.ok h
      · split
        · refine ((ih _ _).to (tl_suf ws)).and fun t r h => ?_
          split
          · exact ((ih _ _).to ((tl_suf r).trans h)).and fun u q h' => SufR.ok h'
          · exact SufR.err
        · exact ih _ _
    | ato =>
      unfold rd5
      split
      · exact SufR.ok (tl_suf ws)
      · split
        · refine ((ih _ _).to (tl_suf ws)).and fun t r h => ?_
          split
          · exact SufR.ok ((tl_suf r).trans h)
          · exact SufR.err
        · cases ws with
          | nil => exact SufR.err
          | cons w r =>
            dsimp only
            split
            · split
              · exact SufR.ok (tl_suf (w :: r))
              · exact SufR.err
            · exact SufR.err
    | pat k =>
      unfold rd5
      exact (ih _ _).and fun t r h => ((ih _ _).to h).and fun u q h' => SufR.ok h'
    | pmore k =>
      unfold rd5
      split
      · exact SufR.ok List.suffix_rfl
      · split
        · exact ((ih _ _).to (tl_suf ws)).and fun t r h => SufR.ok h
        · exact ((ih _ _).to (tl_suf ws)).and fun t r h => ((ih _ _).to h).and fun u q h' => SufR.ok h'
    | bar =>
      unfold rd5
      split
      · refine ((ih _ _).to (tl_suf ws)).and fun t r h => ?_
        split
        · exact SufR.ok ((tl_suf r).trans h)
        · exact SufR.err
      · split
        · exact ((ih _ _).to (tl_suf ws)).and fun t r h => SufR.ok h
        · split
          · refine ((ih _ _).to (tl_suf ws)).and fun t r h => ?_
            split
            · exact SufR.ok ((tl_suf r).trans h)
            · exact SufR.err
          · exact SufR.err
theorem rd5_rest (ns : List Bytes) (fin : Int) (n : Nat) (nt : NT) (ws : List Wd) (t : List Tk5) (r : List Wd) (h : rd5 ns fin n nt ws = some (.ok (t, r))) : ∃ p, p ++ r = ws := rd5_suf ns fin n nt ws t r h

/-! ### tokens are bytes -/
def BytR (x : PR) : Prop := ∀ t r, x = some (.ok (t, r)) → ∀ z ∈ t, z.1 < 256 ∧ z.2 < 256
theorem BytR.err {e p : Int} : BytR (erR e p) := fun t r h => by cases h
theorem BytR.ok {r : List Wd} {t : List Tk5} (h : ∀ z ∈ t, z.1 < 256 ∧ z.2 < 256) : BytR (okR t r) := fun t' q h' => by
  simp only [okR, Option.some.injEq, Except.ok.injEq, Prod.mk.injEq] at h'
  obtain ⟨rfl, rfl⟩ := h'
  exact h
theorem BytR.and {x : PR} {f : List Tk5 → List Wd → PR} (h : BytR x) (hf : ∀ t r, (∀ z ∈ t, z.1 < 256 ∧ z.2 < 256) → BytR (f t r)) : BytR (andR x f) := by
  intro t q' ha
  cases x with
  | none => simp [andR] at ha
  | some b =>
    cases b with
    | error e => simp [andR] at ha
    | ok p => exact hf p.1 p.2 (h p.1 p.2 rfl) t q' ha
theorem op_lt {k : Nat} {s : Bytes} {op : Nat} (h : opOf k s = some op) : op < 256 := by
  unfold opOf at h
  repeat' split at h
  all_goals first | (injection h with h; omega) | cases h
theorem un_lt {s : Bytes} {op : Nat} (h : unOf s = some op) : op < 256 := by
  unfold unOf at h
  repeat' split at h
  all_goals first | (injection h with h; omega) | cases h
theorem md_lt {s : Bytes} {c : Bytes} {op : Nat} (h : mdOf s = some (c, op)) : op < 256 := by
  unfold mdOf at h
  repeat' split at h
  all_goals first | (injection h with h; injection h with _ h; omega) | cases h
theorem at_lt {s : Bytes} {op : Nat} (h : atOf s = some op) : op < 256 := by
  unfold atOf at h
  repeat' split at h
  all_goals first | (injection h with h; omega) | cases h
theorem p_lt {k : Nat} {s : Bytes} {op : Nat} (h : pOf k s = some op) : op < 256 := by
  unfold pOf at h
  repeat' split at h
  all_goals first | (injection h with h; omega) | cases h
theorem byt_app {a b : List Tk5} (ha : ∀ z ∈ a, z.1 < 256 ∧ z.2 < 256) (hb : ∀ z ∈ b, z.1 < 256 ∧ z.2 < 256) : ∀ z ∈ a ++ b, z.1 < 256 ∧ z.2 < 256 := fun z hz => by
  rcases List.mem_append.1 hz with h | h
  · exact ha z h
  · exact hb z h
theorem byt_one {op : Nat} (h : op < 256) : ∀ z ∈ [((op, 0) : Tk5)], z.1 < 256 ∧ z.2 < 256 := fun z hz => by
  simp at hz; subst hz; exact ⟨h, Nat.zero_lt_succ _⟩
theorem rd5_bytes (ns : List Bytes) (hns : ns.length ≤ 256) (fin : Int) : ∀ (n : Nat) (nt : NT) (ws : List Wd), BytR (rd5 ns fin n nt ws)
  | 0, _, _ => fun t r h => by cases h
  | n + 1, nt, ws => by
    have ih := rd5_bytes ns hns fin n
    cases nt with
    | lev k =>
      unfold rd5
      split
      · exact ih _ _
      · exact (ih _ _).and fun t r h => (ih _ _).and fun u q h' => BytR.ok (byt_app h h')
    | more k =>
      unfold rd5
      split
      · exact BytR.ok (fun z hz => by simp at hz)
      · rename_i op hop
        have ho := byt_one (op_lt hop)
        split
        · exact (ih _ _).and fun t r h => BytR.ok (byt_app h ho)
        · exact (ih _ _).and fun t r h => (ih _ _).and fun u q h' => BytR.ok (byt_app (byt_app h ho) h')
    | una =>
      unfold rd5
      split
      · rename_i op hop
        exact (ih _ _).and fun t r h => BytR.ok (byt_app h (byt_one (un_lt hop)))
      · split
        · rename_i c op hop
          refine (ih _ _).and fun t r h => ?_
          split
          · exact (ih _ _).and fun u q h' => BytR.ok (byt_app (byt_app h h') (byt_one (md_lt hop)))
          · exact BytR.err
        · exact ih _ _
    | ato =>
      unfold rd5
      split
      · rename_i op hop
        exact BytR.ok (byt_one (at_lt hop))
      · split
        · refine (ih _ _).and fun t r h => ?_
          split
          · exact BytR.ok h
          · exact BytR.err
        · cases ws with
          | nil => exact BytR.err
          | cons w r =>
            dsimp only
            split
            · split
              · rename_i hc
                refine BytR.ok fun z hz => ?_
                simp at hz; subst hz
                refine ⟨(by omega : 2 < 256), ?_⟩
                have hm : w.tx.toList ∈ ns := by simpa using hc
                have := List.idxOf_lt_length_of_mem hm
                show ns.idxOf w.tx.toList < 256
                omega
              · exact BytR.err
            · exact BytR.err
    | pat k =>
      unfold rd5
      exact (ih _ _).and fun t r h => (ih _ _).and fun u q h' => BytR.ok (byt_app h h')
    | pmore k =>
      unfold rd5
      split
      · exact BytR.ok (fun z hz => by simp at hz)
      · rename_i op hop
        have ho := byt_one (p_lt hop)
        split
        · exact (ih _ _).and fun u q h' => BytR.ok (byt_app ho h')
        · exact (ih _ _).and fun t r h => (ih _ _).and fun u q h' => BytR.ok (byt_app (byt_app h ho) h')
    | bar =>
      unfold rd5
      split
      · refine (ih _ _).and fun t r h => ?_
        split
        · exact BytR.ok (byt_app h (byt_one (by decide)))
        · exact BytR.err
      · split
        · exact (ih _ _).and fun t r h => BytR.ok (byt_app h (byt_one (by decide)))
        · split
          · refine (ih _ _).and fun t r h => ?_
            split
            · exact BytR.ok h
            · exact BytR.err
          · exact BytR.err

/-! ### no more tokens than words -/
def TokR (ws : List Wd) (x : PR) : Prop := ∀ t r, x = some (.ok (t, r)) → t.length + r.length ≤ ws.length
theorem TokR.err {ws : List Wd} {e p : Int} : TokR ws (erR e p) := fun t r h => by cases h
theorem TokR.ok {ws r : List Wd} {t : List Tk5} (h : t.length + r.length ≤ ws.length) : TokR ws (okR t r) := fun t' q h' => by
  simp only [okR, Option.some.injEq, Except.ok.injEq, Prod.mk.injEq] at h'
  obtain ⟨rfl, rfl⟩ := h'
  exact h
theorem TokR.and {ws q : List Wd} {x : PR} {f : List Tk5 → List Wd → PR} (h : TokR q x) (hf : ∀ t r, t.length + r.length ≤ q.length → TokR ws (f t r)) : TokR ws (andR x f) := by
  intro t q' ha
  cases x with
  | none => simp [andR] at ha
  | some b =>
    cases b with
    | error e => simp [andR] at ha
    | ok p => exact hf p.1 p.2 (h p.1 p.2 rfl) t q' ha
theorem rd5_toks (ns : List Bytes) (fin : Int) : ∀ (n : Nat) (nt : NT) (ws : List Wd), TokR ws (rd5 ns fin n nt ws)
  | 0, _, _ => fun t r h => by cases h
  | n + 1, nt, ws => by
    have ih := rd5_toks ns fin n
    cases nt with
    | lev k =>
      unfold rd5
      split
      · exact ih _ _
      · exact (ih _ _).and fun t r h => (ih _ _).and fun u q h' => TokR.ok (by simp; omega)
    | more k =>
      unfold rd5
      split
      · exact TokR.ok (by simp)
      · rename_i op hop
        have ht := tail_lt (tab_ne (T := opOf k) hop (nil_op k))
        split
        · exact (ih _ _).and fun t r h => TokR.ok (by simp; omega)
        · exact (ih _ _).and fun t r h => (ih _ _).and fun u q h' => TokR.ok (by simp; omega)
    | una =>
      unfold rd5
      split
      · rename_i op hop
        have ht := tail_lt (tab_ne (T := unOf) hop rfl)
        exact (ih _ _).and fun t r h => TokR.ok (by simp; omega)
      · split
        · rename_i c op hop
          have ht := tail_lt (tab_ne (T := mdOf) hop rfl)
          refine (ih _ _).and fun t r h => ?_
          split
          · have hl : r.tail.length ≤ r.length := by simp
            exact (ih _ _).and fun u q h' => TokR.ok (by simp; omega)
          · exact TokR.err
        · exact ih _ _
    | ato =>
      unfold rd5
      split
      · rename_i op hop
        have ht := tail_lt (tab_ne (T := atOf) hop rfl)
        exact TokR.ok (by simp; omega)
      · split
        · rename_i hh
          have ht := tail_lt (hd_ne hh (by simp))
          refine (ih _ _).and fun t r h => ?_
          split
          · have hl : r.tail.length ≤ r.length := by simp
            exact TokR.ok (by omega)
          · exact TokR.err
        · cases ws with
          | nil => exact TokR.err
          | cons w r =>
            dsimp only
            split
            · split
              · exact TokR.ok (by simp; omega)
              · exact TokR.err
            · exact TokR.err
    | pat k =>
      unfold rd5
      exact (ih _ _).and fun t r h => (ih _ _).and fun u q h' => TokR.ok (by simp; omega)
    | pmore k =>
      unfold rd5
      split
      · exact TokR.ok (by simp)
      · rename_i op hop
        have ht := tail_lt (tab_ne (T := pOf k) hop (nil_p k))
        split
        · exact (ih _ _).and fun u q h' => TokR.ok (by simp; omega)
        · exact (ih _ _).and fun t r h => (ih _ _).and fun u q h' => TokR.ok (by simp; omega)
    | bar =>
      unfold rd5
      split
      · rename_i hh
        have ht := tail_lt (hd_ne hh (by simp))
        refine (ih _ _).and fun t r h => ?_
        split
        · have hl : r.tail.length ≤ r.length := by simp
          exact TokR.ok (by simp; omega)
        · exact TokR.err
      · split
        · rename_i hh
          have ht := tail_lt (hd_ne hh (by simp))
          exact (ih _ _).and fun t r h => TokR.ok (by simp; omega)
        · split
          · rename_i hh
            have ht := tail_lt (hd_ne hh (by simp))
            refine (ih _ _).and fun t r h => ?_
            split
            · have hl : r.tail.length ≤ r.length := by simp
              exact TokR.ok (by omega)
            · exact TokR.err
          · exact TokR.err

/-! ### a fault has an error of its own -/
def NoR (x : PR) : Prop := ∀ e p, x = some (.error (e, p)) → e ≠ 0
theorem NoR.err {e p : Int} (h : e ≠ 0) : NoR (erR e p) := fun e' p' h' => by
  simp only [erR, Option.some.injEq, Except.error.injEq, Prod.mk.injEq] at h'
  obtain ⟨rfl, _⟩ := h'
  exact h
theorem NoR.ok {r : List Wd} {t : List Tk5} : NoR (okR t r) := fun e p h => by cases h
theorem NoR.and {x : PR} {f : List Tk5 → List Wd → PR} (h : NoR x) (hf : ∀ t r, NoR (f t r)) : NoR (andR x f) := by
  intro e p ha
  cases x with
  | none => simp [andR] at ha
  | some b =>
    cases b with
    | error q => exact h e p (by simpa [andR] using ha)
    | ok q => exact hf q.1 q.2 e p ha
theorem rd5_no (ns : List Bytes) (fin : Int) : ∀ (n : Nat) (nt : NT) (ws : List Wd), NoR (rd5 ns fin n nt ws)
  | 0, _, _ => fun e p h => by cases h
  | n + 1, nt, ws => by
    have ih := rd5_no ns fin n
    cases nt with
    | lev k =>
      unfold rd5
      split
      · exact ih _ _
      · exact (ih _ _).and fun t r => (ih _ _).and fun u q => NoR.ok
    | more k =>
      unfold rd5
      split
      · exact NoR.ok
      · split
        · exact (ih _ _).and fun t r => NoR.ok
        · exact (ih _ _).and fun t r => (ih _ _).and fun u q => NoR.ok
    | una =>
      unfold rd5
      split
      · exact (ih _ _).and fun t r => NoR.ok
      · split
        · refine (ih _ _).and fun t r => ?_
          split
          · exact (ih _ _).and fun u q => NoR.ok
          · exact NoR.err (by decide)
        · exact ih _ _
    | ato =>
      unfold rd5
      split
      · exact NoR.ok
      · split
        · refine (ih _ _).and fun t r => ?_
          split
          · exact NoR.ok
          · exact NoR.err (by decide)
        · cases ws with
          | nil => exact NoR.err (by decide)
          | cons w r =>
            dsimp only
            split
            · split
              · exact NoR.ok
              · exact NoR.err (by decide)
            · exact NoR.err (by decide)
    | pat k =>
      unfold rd5
      exact (ih _ _).and fun t r => (ih _ _).and fun u q => NoR.ok
    | pmore k =>
      unfold rd5
      split
      · exact NoR.ok
      · split
        · exact (ih _ _).and fun t r => NoR.ok
        · exact (ih _ _).and fun t r => (ih _ _).and fun u q => NoR.ok
    | bar =>
      unfold rd5
      split
      · refine (ih _ _).and fun t r => ?_
        split
        · exact NoR.ok
        · exact NoR.err (by decide)
      · split
        · exact (ih _ _).and fun t r => NoR.ok
        · split
          · refine (ih _ _).and fun t r => ?_
            split
            · exact NoR.ok
            · exact NoR.err (by decide)
          · exact NoR.err (by decide)
theorem whole_no0 (ns : List Bytes) (fin : Int) (nt : NT) (ws : List Wd) (p : Int) : whole5 ns fin nt ws ≠ .error (0, p) := by
  unfold whole5 endR
  obtain ⟨a, ha, _⟩ := rd5_fine ns fin (16 * ws.length + 16) nt ws (need_le nt ws)
  have hn := rd5_no ns fin (16 * ws.length + 16) nt ws
  rw [ha] at hn ⊢
  cases a with
  | error q => intro h; simp at h; exact hn q.1 q.2 rfl (by rw [h])
  | ok q =>
    obtain ⟨t, r⟩ := q
    cases r with
    | nil => intro h; cases h
    | cons w r => intro h; simp at h

/-! ### brackets and operators -/
def lpW (w : Wd) : Prop := w.tx.toList = [40]
def rpW (w : Wd) : Prop := w.tx.toList = [41]
/-- A formula in brackets, with whatever stands behind. -/
theorem at_brackets {ns : List Bytes} {fin fin' : Int} {A A' : List Wd} {t : List Tk5} (h : whole5 ns fin (.lev 0) A = .ok t) (hA : A'.map same2 = A.map same2) {l r : Wd} (hl : lpW l) (hr : rpW r) (X : List Wd) :
    ∃ n, rd5 ns fin' n .ato (l :: (A' ++ r :: X)) = some (.ok (t, X)) := by
  obtain ⟨n, hn⟩ := whole_ok.1 h
  have hs : Sim (r :: X) A (A' ++ r :: X) := by unfold Sim; rw [List.map_append, hA]
  obtain ⟨q, h1, h2⟩ := rd5_sim ns fin fin' (X := r :: X) (Or.inr (Or.inl hr)) n (.lev 0) A (A' ++ r :: X) hs t [] hn
  -- what is left is the closing word and X, places and all
  have hq : q = r :: X := by
    have := rd5_rest ns fin' n (.lev 0) (A' ++ r :: X) t q h1
    obtain ⟨p, hp⟩ := this
    have hlen : q.length = (r :: X).length := by
      have := congrArg List.length h2; simpa using this
    have e1 : (p ++ q).length = (A' ++ r :: X).length := by rw [hp]
    have hpl : p.length = A'.length := by simp at e1 hlen ⊢; omega
    exact (List.append_inj hp.symm hpl.symm).2.symm
  subst hq
  refine ⟨n + 1, ?_⟩
  unfold rd5
  have e1 : hdT (l :: (A' ++ r :: X)) = [40] := hl
  rw [e1]
  have e2 : atOf [40] = none := by decide
  rw [e2]
  simp only [if_true, List.tail_cons]
  rw [h1]
  have e3 : hdT (r :: X) = [41] := hr
  simp [andR, e3, okR]
end Go.Proofs.YtnibcmmgnenfcaaDoor
