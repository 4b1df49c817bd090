/- Plain: formulas and paths read from words, by levels. Nothing of the program is named here. -/
import Derived.Test.YtfipefbaabkdeaaGreatDoorLexQ
import Derived.Test.YtfipefbaabkdeaaGreatDoorTermK
namespace Go.Proofs.YtfipefbaabkdeaaGreatDoor

abbrev Tk5 := Nat × Nat
abbrev Er := Int × Int
inductive NT where
  | lev (k : Nat) | more (k : Nat) | una | ato | pat (k : Nat) | pmore (k : Nat) | bar
/-- The text of the word that stands next. -/
def hdT : List Wd → Bytes
  | [] => []
  | w :: _ => w.tx.toList
def plc (fin : Int) : List Wd → Int
  | [] => fin
  | w :: _ => w.pl
def opOf (k : Nat) (s : Bytes) : Option Nat :=
  if k = 0 ∧ s = [60, 45, 62] then some 14 else if k = 1 ∧ s = [45, 62] then some 13 else if k = 2 ∧ s = [124] then some 12
  else if k = 3 ∧ s = [38] then some 11 else if k = 4 ∧ s = [85] then some 15 else if k = 4 ∧ s = [82] then some 16 else none
def rightB (k : Nat) : Bool := decide (k = 1) || decide (k = 4)
def unOf (s : Bytes) : Option Nat :=
  if s = [33] then some 6 else if s = [88] then some 7 else if s = [78] then some 8 else if s = [70] then some 9 else if s = [71] then some 10 else none
def mdOf (s : Bytes) : Option (Bytes × Nat) := if s = [60] then some ([62], 17) else if s = [91] then some ([93], 18) else none
def atOf (s : Bytes) : Option Nat :=
  if s = [116, 114, 117, 101] then some 0 else if s = [102, 97, 108, 115, 101] then some 1 else if s = [108, 97, 115, 116] then some 3 else none
def pOf (k : Nat) (s : Bytes) : Option Nat := if k = 0 ∧ s = [43] then some 21 else if k = 1 ∧ s = [59] then some 22 else if 2 ≤ k ∧ s = [42] then some 23 else none
abbrev PR := Option (Except Er (List Tk5 × List Wd))
def andR (x : PR) (f : List Tk5 → List Wd → PR) : PR :=
  match x with
  | none => none
  | some (.error e) => some (.error e)
  | some (.ok (t, r)) => f t r
def okR (t : List Tk5) (r : List Wd) : PR := some (.ok (t, r))
def erR (e : Int) (p : Int) : PR := some (.error (e, p))
/-- What is read, with so many calls at the most; none: they do not do. -/
def rd5 (ns : List Bytes) (fin : Int) : Nat → NT → List Wd → PR
  | 0, _, _ => none
  | n + 1, .lev k, ws =>
    if 5 ≤ k then rd5 ns fin n .una ws
    else andR (rd5 ns fin n (.lev (k + 1)) ws) fun t r => andR (rd5 ns fin n (.more k) r) fun u r' => okR (t ++ u) r'
  | n + 1, .more k, ws =>
    match opOf k (hdT ws) with
    | none => okR [] ws
    | some op =>
      if rightB k then andR (rd5 ns fin n (.lev k) ws.tail) fun t r => okR (t ++ [(op, 0)]) r
      else andR (rd5 ns fin n (.lev (k + 1)) ws.tail) fun t r => andR (rd5 ns fin n (.more k) r) fun u r' => okR (t ++ [(op, 0)] ++ u) r'
  | n + 1, .una, ws =>
    match unOf (hdT ws) with
    | some op => andR (rd5 ns fin n .una ws.tail) fun t r => okR (t ++ [(op, 0)]) r
    | none =>
      match mdOf (hdT ws) with
      | some (c, op) => andR (rd5 ns fin n (.pat 0) ws.tail) fun t r => if hdT r = c then andR (rd5 ns fin n .una r.tail) fun u r' => okR (t ++ u ++ [(op, 0)]) r' else erR 150 (plc fin r)
      | none => rd5 ns fin n .ato ws
  | n + 1, .ato, ws =>
    match atOf (hdT ws) with
    | some op => okR [(op, 0)] ws.tail
    | none =>
      if hdT ws = [40] then andR (rd5 ns fin n (.lev 0) ws.tail) fun t r => if hdT r = [41] then okR t r.tail else erR 150 (plc fin r)
      else match ws with
        | [] => erR 150 fin
        | w :: r => if w.so = 2 then (if ns.contains w.tx.toList then okR [(2, ns.idxOf w.tx.toList)] r else erR 6 w.pl) else erR 150 w.pl
  | n + 1, .pat k, ws =>
    andR (rd5 ns fin n (if 2 ≤ k then .bar else .pat (k + 1)) ws) fun t r => andR (rd5 ns fin n (.pmore k) r) fun u r' => okR (t ++ u) r'
  | n + 1, .pmore k, ws =>
    match pOf k (hdT ws) with
    | none => okR [] ws
    | some op =>
      if 2 ≤ k then andR (rd5 ns fin n (.pmore k) ws.tail) fun u r => okR ((op, 0) :: u) r
      else andR (rd5 ns fin n (.pat (k + 1)) ws.tail) fun t r => andR (rd5 ns fin n (.pmore k) r) fun u r' => okR (t ++ [(op, 0)] ++ u) r'
  | n + 1, .bar, ws =>
    if hdT ws = [123] then andR (rd5 ns fin n (.lev 0) ws.tail) fun t r => if hdT r = [125] then okR (t ++ [(19, 0)]) r.tail else erR 150 (plc fin r)
    else if hdT ws = [63] then andR (rd5 ns fin n .una ws.tail) fun t r => okR (t ++ [(20, 0)]) r
    else if hdT ws = [40] then andR (rd5 ns fin n (.pat 0) ws.tail) fun t r => if hdT r = [41] then okR t r.tail else erR 150 (plc fin r)
    else erR 150 (plc fin ws)

/-! ### more calls tell the same -/
def LeR (x y : PR) : Prop := ∀ a, x = some a → y = some a
theorem LeR.refl (x : PR) : LeR x x := fun _ h => h
theorem LeR.none (y : PR) : LeR none y := fun _ h => by cases h
theorem andR_le {x y : PR} {f g : List Tk5 → List Wd → PR} (h : LeR x y) (hf : ∀ t r, LeR (f t r) (g t r)) : LeR (andR x f) (andR y g) := by
  intro a ha
  cases x with
  | none => simp [andR] at ha
  | some b =>
    rw [h b rfl]
    cases b with
    | error e => exact ha
    | ok q => exact hf q.1 q.2 a ha
theorem rd5_le (ns : List Bytes) (fin : Int) : ∀ (n : Nat) (nt : NT) (ws : List Wd), LeR (rd5 ns fin n nt ws) (rd5 ns fin (n + 1) nt ws)
  | 0, _, _ => LeR.none _
  | n + 1, nt, ws => by
    have ih := rd5_le ns fin n
    cases nt with
    | lev k =>
      conv => lhs; unfold rd5
      conv => rhs; unfold rd5
      split
      · exact ih _ _
      · exact andR_le (ih _ _) fun t r => andR_le (ih _ _) fun u r' => LeR.refl _
    | more k =>
      conv => lhs; unfold rd5
      conv => rhs; unfold rd5
      split
      · exact LeR.refl _
      · split
        · exact andR_le (ih _ _) fun t r => LeR.refl _
        · exact andR_le (ih _ _) fun t r => andR_le (ih _ _) fun u r' => LeR.refl _
    | una =>
      conv => lhs; unfold rd5
      conv => rhs; unfold rd5
      split
      · exact andR_le (ih _ _) fun t r => LeR.refl _
      · split
        · refine andR_le (ih _ _) fun t r => ?_
          split
          · exact andR_le (ih _ _) fun u r' => LeR.refl _
          · exact LeR.refl _
        · exact ih _ _
    | ato =>
      conv => lhs; unfold rd5
      conv => rhs; unfold rd5
      split
      · exact LeR.refl _
      · split
        · exact andR_le (ih _ _) fun t r => LeR.refl _
        · exact LeR.refl _
    | pat k =>
      conv => lhs; unfold rd5
      conv => rhs; unfold rd5
      exact andR_le (ih _ _) fun t r => andR_le (ih _ _) fun u r' => LeR.refl _
    | pmore k =>
      conv => lhs; unfold rd5
      conv => rhs; unfold rd5
      split
      · exact LeR.refl _
      · split
        · exact andR_le (ih _ _) fun t r => LeR.refl _
        · exact andR_le (ih _ _) fun t r => andR_le (ih _ _) fun u r' => LeR.refl _
    | bar =>
      conv => lhs; unfold rd5
      conv => rhs; unfold rd5
      split
      · exact andR_le (ih _ _) fun t r => LeR.refl _
      · split
        · exact andR_le (ih _ _) fun t r => LeR.refl _
        · split
          · exact andR_le (ih _ _) fun t r => LeR.refl _
          · exact LeR.refl _
theorem rd5_mono {ns : List Bytes} {fin : Int} {nt : NT} {ws : List Wd} {n m : Nat} (h : n ≤ m) : LeR (rd5 ns fin n nt ws) (rd5 ns fin m nt ws) := by
  induction h with
  | refl => exact LeR.refl _
  | step _ ih => exact fun a ha => rd5_le ns fin _ nt ws a (ih a ha)

/-! ### words of other places, and closing words behind them -/
def Closer (s : Bytes) : Prop := s = [41] ∨ s = [62] ∨ s = [93] ∨ s = [125]
theorem closer_op {s : Bytes} (h : Closer s) (k : Nat) : opOf k s = none := by
  rcases h with rfl | rfl | rfl | rfl <;> simp [opOf]
theorem closer_p {s : Bytes} (h : Closer s) (k : Nat) : pOf k s = none := by
  rcases h with rfl | rfl | rfl | rfl <;> simp [pOf]
theorem closer_un {s : Bytes} (h : Closer s) : unOf s = none ∧ mdOf s = none := by
  rcases h with rfl | rfl | rfl | rfl <;> decide
theorem nil_op (k : Nat) : opOf k [] = none := by simp [opOf]
theorem nil_p (k : Nat) : pOf k [] = none := by simp [pOf]
/-- Closing words, or none. -/
def Clo (X : List Wd) : Prop := X = [] ∨ Closer (hdT X)
/-- The words ws, at whatever places, and X behind them. -/
def Sim (X ws ws' : List Wd) : Prop := ws'.map same2 = ws.map same2 ++ X.map same2
theorem Sim.hd {X ws ws' : List Wd} (h : Sim X ws ws') : hdT ws' = if ws = [] then hdT X else hdT ws := by
  unfold Sim at h
  cases ws with
  | nil =>
    rw [if_pos rfl]
    cases ws' with
    | nil => cases X with
      | nil => rfl
      | cons x X => simp at h
    | cons y ys => cases X with
      | nil => simp at h
      | cons x X => simp [same2] at h; simp [hdT, h.1.2]
  | cons w ws =>
    rw [if_neg (by simp)]
    cases ws' with
    | nil => simp at h
    | cons y ys => simp [same2] at h; simp [hdT, h.1.2]
theorem Sim.tail {X ws ws' : List Wd} (h : Sim X ws ws') (hn : ws ≠ []) : Sim X ws.tail ws'.tail := by
  unfold Sim at h ⊢
  cases ws with
  | nil => exact absurd rfl hn
  | cons w ws => cases ws' with
    | nil => simp at h
    | cons y ys => simp at h ⊢; exact h.2
theorem hd_ne {ws : List Wd} {s : Bytes} (h : hdT ws = s) (hs : s ≠ []) : ws ≠ [] := by intro e; subst e; exact hs h.symm
def SimR (X : List Wd) (x y : PR) : Prop := ∀ t r, x = some (.ok (t, r)) → ∃ r', y = some (.ok (t, r')) ∧ Sim X r r'
theorem SimR.err {X : List Wd} {e p : Int} {y : PR} : SimR X (erR e p) y := fun t r h => by cases h
theorem SimR.none {X : List Wd} {y : PR} : SimR X none y := fun t r h => by cases h
theorem SimR.ok {X r r' : List Wd} {t : List Tk5} (h : Sim X r r') : SimR X (okR t r) (okR t r') := fun t' q h' => by
  simp only [okR, Option.some.injEq, Except.ok.injEq, Prod.mk.injEq] at h'
  obtain ⟨rfl, rfl⟩ := h'
  exact ⟨r', rfl, h⟩
theorem andR_sim {X : List Wd} {x y : PR} {f g : List Tk5 → List Wd → PR} (h : SimR X x y) (hf : ∀ t r r', Sim X r r' → SimR X (f t r) (g t r')) : SimR X (andR x f) (andR y g) := by
  intro t q ha
  cases x with
  | none => simp [andR] at ha
  | some b =>
    cases b with
    | error e => simp [andR] at ha
    | ok p =>
      obtain ⟨r', h1, h2⟩ := h p.1 p.2 rfl
      rw [h1]
      exact hf p.1 p.2 r' h2 t q ha
theorem tab_sim {α : Type} {T : Bytes → Option α} {X ws ws' : List Wd} (h : Sim X ws ws') (hX : Clo X) (h0 : T [] = none) (hc : ∀ s, Closer s → T s = none) : T (hdT ws') = T (hdT ws) := by
  rw [h.hd]
  by_cases e : ws = []
  · rw [if_pos e, e]
    show _ = T []
    rw [h0]
    rcases hX with rfl | hX
    · exact h0
    · exact hc _ hX
  · rw [if_neg e]
theorem tab_ne {α : Type} {T : Bytes → Option α} {ws : List Wd} {a : α} (h : T (hdT ws) = some a) (h0 : T [] = none) : ws ≠ [] := by
  intro e; subst e; rw [show hdT [] = [] from rfl, h0] at h; cases h
theorem want_sim {X r r' : List Wd} {c : Bytes} (hc : c ≠ []) (h : Sim X r r') {a b : PR} {e p e' p' : Int} (hab : r ≠ [] → SimR X a b) : SimR X (if hdT r = c then a else erR e p) (if hdT r' = c then b else erR e' p') := by
  by_cases hr : hdT r = c
  · have hn := hd_ne hr hc
    have : hdT r' = c := by rw [h.hd, if_neg hn, hr]
    rw [if_pos hr, if_pos this]; exact hab hn
  · rw [if_neg hr]; exact SimR.err
theorem rd5_sim (ns : List Bytes) (fin fin' : Int) {X : List Wd} (hX : Clo X) : ∀ (n : Nat) (nt : NT) (ws ws' : List Wd), Sim X ws ws' → SimR X (rd5 ns fin n nt ws) (rd5 ns fin' n nt ws')
  | 0, _, _, _, _ => SimR.none
  | n + 1, nt, ws, ws', hs => by
    have ih := rd5_sim ns fin fin' hX n
    cases nt with
    | lev k =>
      unfold rd5
      split
      · exact ih _ _ _ hs
      · exact andR_sim (ih _ _ _ hs) fun t r r' h => andR_sim (ih _ _ _ h) fun u q q' h' => SimR.ok h'
    | more k =>
      unfold rd5
      rw [tab_sim (T := opOf k) hs hX (nil_op k) (fun s h => closer_op h k)]
      split
      · exact SimR.ok hs
      · rename_i op hop
        have hn := tab_ne (T := opOf k) hop (nil_op k)
        split
        · exact andR_sim (ih _ _ _ (hs.tail hn)) fun t r r' h => SimR.ok h
        · exact andR_sim (ih _ _ _ (hs.tail hn)) fun t r r' h => andR_sim (ih _ _ _ h) fun u q q' h' => SimR.ok h'
    | una =>
      unfold rd5
      rw [tab_sim (T := unOf) hs hX rfl (fun s h => (closer_un h).1), tab_sim (T := mdOf) hs hX rfl (fun s h => (closer_un h).2)]
      split
      · rename_i op hop
        have hn := tab_ne (T := unOf) hop rfl
        exact andR_sim (ih _ _ _ (hs.tail hn)) fun t r r' h => SimR.ok h
      · split
        · rename_i c op hop
          have hn := tab_ne (T := mdOf) hop rfl
          have hc : c ≠ [] := by
            unfold mdOf at hop
            split at hop
            · injection hop with hop; injection hop with h1 _; rw [← h1]; simp
            · split at hop
              · injection hop with hop; injection hop with h1 _; rw [← h1]; simp
              · cases hop
          refine andR_sim (ih _ _ _ (hs.tail hn)) fun t r r' h => want_sim hc h fun hr => ?_
          exact andR_sim (ih _ _ _ (h.tail hr)) fun u q q' h' => SimR.ok h'
        · exact ih _ _ _ hs
    | ato =>
      by_cases hn : ws = []
      · subst hn
        intro t r h
        simp [rd5, hdT, atOf, erR] at h
      · unfold rd5
        have hh : hdT ws' = hdT ws := by rw [hs.hd, if_neg hn]
        rw [hh]
        split
        · exact SimR.ok (hs.tail hn)
        · split
          · exact andR_sim (ih _ _ _ (hs.tail hn)) fun t r r' h => want_sim (by simp) h fun hr => SimR.ok (h.tail hr)
          · cases ws with
            | nil => exact absurd rfl hn
            | cons w r =>
              cases ws' with
              | nil => unfold Sim at hs; simp at hs
              | cons w' r' =>
                have hs2 := hs
                unfold Sim at hs2
                simp [same2] at hs2
                obtain ⟨⟨e1, e2⟩, e3⟩ := hs2
                simp only [e1, e2]
                split
                · split
                  · exact SimR.ok (hs.tail hn)
                  · exact SimR.err
                · exact SimR.err
    | pat k =>
      unfold rd5
      exact andR_sim (ih _ _ _ hs) fun t r r' h => andR_sim (ih _ _ _ h) fun u q q' h' => SimR.ok h'
    | pmore k =>
      unfold rd5
      rw [tab_sim (T := pOf k) hs hX (nil_p k) (fun s h => closer_p h k)]
      split
      · exact SimR.ok hs
      · rename_i op hop
        have hn := tab_ne (T := pOf k) hop (nil_p k)
        split
        · exact andR_sim (ih _ _ _ (hs.tail hn)) fun t r r' h => SimR.ok h
        · exact andR_sim (ih _ _ _ (hs.tail hn)) fun t r r' h => andR_sim (ih _ _ _ h) fun u q q' h' => SimR.ok h'
    | bar =>
      by_cases hn : ws = []
      · subst hn
        intro t r h
        simp [rd5, hdT, erR] at h
      · unfold rd5
        have hh : hdT ws' = hdT ws := by rw [hs.hd, if_neg hn]
        rw [hh]
        split
        · exact andR_sim (ih _ _ _ (hs.tail hn)) fun t r r' h => want_sim (by simp) h fun hr => SimR.ok (h.tail hr)
        · split
          · exact andR_sim (ih _ _ _ (hs.tail hn)) fun t r r' h => SimR.ok h
          · split
            · exact andR_sim (ih _ _ _ (hs.tail hn)) fun t r r' h => want_sim (by simp) h fun hr => SimR.ok (h.tail hr)
            · exact SimR.err
end Go.Proofs.YtfipefbaabkdeaaGreatDoor
namespace Go.Proofs.YtfipefbaabkdeaaGreatDoor

def rank5 : NT → Nat
  | .lev k => 3 + (5 - k)
  | .more _ => 1
  | .una => 2
  | .ato => 1
  | .pat k => 2 + (2 - k)
  | .pmore _ => 1
  | .bar => 1
def need5 (nt : NT) (ws : List Wd) : Nat := 16 * ws.length + rank5 nt
/-- Those that take at least one word. -/
def eats : NT → Bool
  | .more _ => false
  | .pmore _ => false
  | _ => true
def Fine (nt : NT) (ws : List Wd) (x : PR) : Prop := ∃ a, x = some a ∧ ∀ t r, a = .ok (t, r) → r.length ≤ ws.length ∧ (eats nt = true → r.length < ws.length)
theorem Fine.err {nt : NT} {ws : List Wd} {e p : Int} : Fine nt ws (erR e p) := ⟨_, rfl, fun t r h => by cases h⟩
theorem Fine.okS {nt : NT} {ws r : List Wd} {t : List Tk5} (h : r.length < ws.length) : Fine nt ws (okR t r) := ⟨_, rfl, fun t' r' h' => by injection h' with h'; injection h' with _ h2; subst h2; exact ⟨by omega, fun _ => h⟩⟩
theorem Fine.okN {nt : NT} {ws r : List Wd} {t : List Tk5} (h : r.length ≤ ws.length) (he : eats nt = false) : Fine nt ws (okR t r) := ⟨_, rfl, fun t' r' h' => by injection h' with h'; injection h' with _ h2; subst h2; exact ⟨h, fun h => by rw [he] at h; cases h⟩⟩
theorem Fine.to {nt nt' : NT} {ws : List Wd} {x : PR} (h : Fine nt' ws x) (he : eats nt' = true) : Fine nt ws x := by
  obtain ⟨a, h1, h2⟩ := h
  exact ⟨a, h1, fun t r h => ⟨(h2 t r h).1, fun _ => (h2 t r h).2 he⟩⟩
/-- One call, then the rest. -/
theorem Fine.and {nt nt' : NT} {ws q : List Wd} {x : PR} {f : List Tk5 → List Wd → PR} (h : Fine nt' q x) (hf : ∀ t r, r.length ≤ q.length → (eats nt' = true → r.length < q.length) → Fine nt ws (f t r)) : Fine nt ws (andR x f) := by
  obtain ⟨a, h1, h2⟩ := h
  rw [h1]
  cases a with
  | error e => exact ⟨_, rfl, fun t r h => by cases h⟩
  | ok p => obtain ⟨i, j⟩ := h2 p.1 p.2 rfl; exact hf p.1 p.2 i j
theorem tail_lt {ws : List Wd} (h : ws ≠ []) : ws.tail.length + 1 = ws.length := by cases ws with | nil => exact absurd rfl h | cons => simp
theorem rd5_fine (ns : List Bytes) (fin : Int) : ∀ (n : Nat) (nt : NT) (ws : List Wd), need5 nt ws ≤ n → Fine nt ws (rd5 ns fin n nt ws)
  | 0, nt, ws, h => by unfold need5 at h; cases nt <;> simp [rank5] at h
  | n + 1, nt, ws, h => by
    have ih := rd5_fine ns fin n
    unfold need5 at h ih
    cases nt with
    | lev k =>
      simp only [rank5] at h
      unfold rd5
      split
      · exact (ih .una ws (by simp only [rank5]; omega)).to rfl
      · refine (ih (.lev (k + 1)) ws (by simp only [rank5]; omega)).and fun t r _ h2 => ?_
        have h2 := h2 rfl
        exact (ih (.more k) r (by simp only [rank5]; omega)).and fun u q h3 _ => Fine.okS (by omega)
    | more k =>
      simp only [rank5] at h
      unfold rd5
      split
      · exact Fine.okN (Nat.le_refl _) rfl
      · rename_i op hop
        have ht := tail_lt (tab_ne (T := opOf k) hop (nil_op k))
        split
        · exact (ih (.lev k) ws.tail (by simp only [rank5]; omega)).and fun t r _ h2 => Fine.okS (by have := h2 rfl; omega)
        · refine (ih (.lev (k + 1)) ws.tail (by simp only [rank5]; omega)).and fun t r _ h2 => ?_
          have h2 := h2 rfl
          exact (ih (.more k) r (by simp only [rank5]; omega)).and fun u q h3 _ => Fine.okS (by omega)
    | una =>
      simp only [rank5] at h
      unfold rd5
      split
      · rename_i op hop
        have ht := tail_lt (tab_ne (T := unOf) hop rfl)
        exact (ih .una ws.tail (by simp only [rank5]; omega)).and fun t r _ h2 => Fine.okS (by have := h2 rfl; omega)
      · split
        · rename_i c op hop
          have ht := tail_lt (tab_ne (T := mdOf) hop rfl)
          refine (ih (.pat 0) ws.tail (by simp only [rank5]; omega)).and fun t r _ h2 => ?_
          have h2 := h2 rfl
          split
          · have hl : r.tail.length ≤ r.length := by simp
            exact (ih .una r.tail (by simp only [rank5]; omega)).and fun u q _ h3 => Fine.okS (by have := h3 rfl; omega)
          · exact Fine.err
        · exact (ih .ato ws (by simp only [rank5]; omega)).to rfl
    | ato =>
      simp only [rank5] at h
      unfold rd5
      split
      · rename_i op hop
        have ht := tail_lt (tab_ne (T := atOf) hop rfl)
        exact Fine.okS (by omega)
      · split
        · rename_i hh
          have ht := tail_lt (hd_ne hh (by simp))
          refine (ih (.lev 0) ws.tail (by simp only [rank5]; omega)).and fun t r _ h2 => ?_
          have h2 := h2 rfl
          split
          · have hl : r.tail.length ≤ r.length := by simp
            exact Fine.okS (by omega)
          · exact Fine.err
        · cases ws with
          | nil => exact Fine.err
          | cons w r =>
            dsimp only
            split
            · split
              · exact Fine.okS (by simp)
              · exact Fine.err
            · exact Fine.err
    | pat k =>
      simp only [rank5] at h
      unfold rd5
      split
      · refine (ih .bar ws (by simp only [rank5]; omega)).and fun t r _ h2 => ?_
        have h2 := h2 rfl
        exact (ih (.pmore k) r (by simp only [rank5]; omega)).and fun u q h3 _ => Fine.okS (by omega)
      · refine (ih (.pat (k + 1)) ws (by simp only [rank5]; omega)).and fun t r _ h2 => ?_
        have h2 := h2 rfl
        exact (ih (.pmore k) r (by simp only [rank5]; omega)).and fun u q h3 _ => Fine.okS (by omega)
    | pmore k =>
      simp only [rank5] at h
      unfold rd5
      split
      · exact Fine.okN (Nat.le_refl _) rfl
      · rename_i op hop
        have ht := tail_lt (tab_ne (T := pOf k) hop (nil_p k))
        split
        · exact (ih (.pmore k) ws.tail (by simp only [rank5]; omega)).and fun u q h3 _ => Fine.okS (by omega)
        · refine (ih (.pat (k + 1)) ws.tail (by simp only [rank5]; omega)).and fun t r _ h2 => ?_
          have h2 := h2 rfl
          exact (ih (.pmore k) r (by simp only [rank5]; omega)).and fun u q h3 _ => Fine.okS (by omega)
    | bar =>
      simp only [rank5] at h
      unfold rd5
      split
      · rename_i hh
        have ht := tail_lt (hd_ne hh (by simp))
        refine (ih (.lev 0) ws.tail (by simp only [rank5]; omega)).and fun t r _ h2 => ?_
        have h2 := h2 rfl
        split
        · have hl : r.tail.length ≤ r.length := by simp
          exact Fine.okS (by omega)
        · exact Fine.err
      · split
        · rename_i hh
          have ht := tail_lt (hd_ne hh (by simp))
          exact (ih .una ws.tail (by simp only [rank5]; omega)).and fun t r _ h2 => Fine.okS (by have := h2 rfl; omega)
        · split
          · rename_i hh
            have ht := tail_lt (hd_ne hh (by simp))
            refine (ih (.pat 0) ws.tail (by simp only [rank5]; omega)).and fun t r _ h2 => ?_
            have h2 := h2 rfl
            split
            · have hl : r.tail.length ≤ r.length := by simp
              exact Fine.okS (by omega)
            · exact Fine.err
          · exact Fine.err

/-! ### the whole text -/
def endR (x : PR) : Except Er (List Tk5) :=
  match x with
  | none => .error (0, 0)
  | some (.error e) => .error e
  | some (.ok (t, [])) => .ok t
  | some (.ok (_, w :: _)) => .error (150, w.pl)
def whole5 (ns : List Bytes) (fin : Int) (nt : NT) (ws : List Wd) : Except Er (List Tk5) := endR (rd5 ns fin (16 * ws.length + 16) nt ws)
theorem need_le (nt : NT) (ws : List Wd) : need5 nt ws ≤ 16 * ws.length + 16 := by
  unfold need5; cases nt <;> simp [rank5] <;> omega
/-- Whatever number of calls does, tells the whole. -/
theorem whole_of {ns : List Bytes} {fin : Int} {nt : NT} {ws : List Wd} {n : Nat} {a : Except Er (List Tk5 × List Wd)} (h : rd5 ns fin n nt ws = some a) : rd5 ns fin (16 * ws.length + 16) nt ws = some a := by
  obtain ⟨b, hb, _⟩ := rd5_fine ns fin (16 * ws.length + 16) nt ws (need_le nt ws)
  rcases Nat.le_total n (16 * ws.length + 16) with hl | hl
  · exact rd5_mono hl a h
  · have := rd5_mono hl b hb
    rw [h] at this
    rw [hb, ← this]
theorem whole_ok {ns : List Bytes} {fin : Int} {nt : NT} {ws : List Wd} {t : List Tk5} : whole5 ns fin nt ws = .ok t ↔ ∃ n, rd5 ns fin n nt ws = some (.ok (t, [])) := by
  constructor
  · intro h
    unfold whole5 endR at h
    refine ⟨16 * ws.length + 16, ?_⟩
    split at h
    · cases h
    · cases h
    · injection h with h; subst h; assumption
    · cases h
  · rintro ⟨n, h⟩
    unfold whole5
    rw [whole_of h]; rfl

/-! ### what is left stands at the end -/
def SufR (ws : List Wd) (x : PR) : Prop := ∀ t r, x = some (.ok (t, r)) → r <:+ ws
theorem SufR.err {ws : List Wd} {e p : Int} : SufR ws (erR e p) := fun t r h => by cases h
theorem SufR.ok {ws r : List Wd} {t : List Tk5} (h : r <:+ ws) : SufR ws (okR t r) := fun t' q h' => by
  simp only [okR, Option.some.injEq, Except.ok.injEq, Prod.mk.injEq] at h'
  obtain ⟨_, rfl⟩ := h'
  exact h
theorem SufR.to {ws q : List Wd} {x : PR} (h : SufR q x) (hq : q <:+ ws) : SufR ws x := fun t r hx => (h t r hx).trans hq
theorem SufR.and {ws : List Wd} {x : PR} {f : List Tk5 → List Wd → PR} (h : SufR ws x) (hf : ∀ t r, r <:+ ws → SufR ws (f t r)) : SufR ws (andR x f) := by
  intro t q ha
  cases x with
  | none => simp [andR] at ha
  | some b =>
    cases b with
    | error e => simp [andR] at ha
    | ok p => exact hf p.1 p.2 (h p.1 p.2 rfl) t q ha
theorem tl_suf (ws : List Wd) : ws.tail <:+ ws := List.tail_suffix ws
theorem rd5_suf (ns : List Bytes) (fin : Int) : ∀ (n : Nat) (nt : NT) (ws : List Wd), SufR ws (rd5 ns fin n nt ws)
  | 0, _, _ => fun t r h => by cases h
  | n + 1, nt, ws => by
    have ih := rd5_suf ns fin n
    cases nt with
    | lev k =>
      unfold rd5
      split
      · exact ih _ _
      · exact (ih _ _).and fun t r h => ((ih _ _).to h).and fun u q h' => SufR.ok h'
    | more k =>
      unfold rd5
      split
      · exact SufR.ok List.suffix_rfl
      · split
        · exact ((ih _ _).to (tl_suf ws)).and fun t r h => SufR.ok h
        · exact ((ih _ _).to (tl_suf ws)).and fun t r h => ((ih _ _).to h).and fun u q h' => SufR.ok h'
    | una =>
      unfold rd5
      split
      · exact ((ih _ _).to (tl_suf ws)).and fun t r h => SufR.ok h
      · split
        · refine ((ih _ _).to (tl_suf ws)).and fun t r h => ?_
          split
          · exact ((ih _ _).to ((tl_suf r).trans h)).and fun u q h' => SufR.ok h'
          · exact SufR.err
        · exact ih _ _
    | ato =>
      unfold rd5
      split
      · exact SufR.ok (tl_suf ws)
      · split
        · refine ((ih _ _).to (tl_suf ws)).and fun t r h => ?_
          split
          · exact SufR.ok ((tl_suf r).trans h)
          · exact SufR.err
        · cases ws with
          | nil => exact SufR.err
          | cons w r =>
            dsimp only
            split
            · split
              · exact SufR.ok (tl_suf (w :: r))
              · exact SufR.err
            · exact SufR.err
    | pat k =>
      unfold rd5
      exact (ih _ _).and fun t r h => ((ih _ _).to h).and fun u q h' => SufR.ok h'
    | pmore k =>
      unfold rd5
      split
      · exact SufR.ok List.suffix_rfl
      · split
        · exact ((ih _ _).to (tl_suf ws)).and fun t r h => SufR.ok h
        · exact ((ih _ _).to (tl_suf ws)).and fun t r h => ((ih _ _).to h).and fun u q h' => SufR.ok h'
    | bar =>
      unfold rd5
      split
      · refine ((ih _ _).to (tl_suf ws)).and fun t r h => ?_
        split
        · exact SufR.ok ((tl_suf r).trans h)
        · exact SufR.err
      · split
        · exact ((ih _ _).to (tl_suf ws)).and fun t r h => SufR.ok h
        · split
          · refine ((ih _ _).to (tl_suf ws)).and fun t r h => ?_
            split
            · exact SufR.ok ((tl_suf r).trans h)
            · exact SufR.err
          · exact SufR.err
theorem rd5_rest (ns : List Bytes) (fin : Int) (n : Nat) (nt : NT) (ws : List Wd) (t : List Tk5) (r : List Wd) (h : rd5 ns fin n nt ws = some (.ok (t, r))) : ∃ p, p ++ r = ws := rd5_suf ns fin n nt ws t r h

/-! ### tokens are bytes -/
def BytR (x : PR) : Prop := ∀ t r, x = some (.ok (t, r)) → ∀ z ∈ t, z.1 < 256 ∧ z.2 < 256
theorem BytR.err {e p : Int} : BytR (erR e p) := fun t r h => by cases h
theorem BytR.ok {r : List Wd} {t : List Tk5} (h : ∀ z ∈ t, z.1 < 256 ∧ z.2 < 256) : BytR (okR t r) := fun t' q h' => by
  simp only [okR, Option.some.injEq, Except.ok.injEq, Prod.mk.injEq] at h'
  obtain ⟨rfl, rfl⟩ := h'
  exact h
theorem BytR.and {x : PR} {f : List Tk5 → List Wd → PR} (h : BytR x) (hf : ∀ t r, (∀ z ∈ t, z.1 < 256 ∧ z.2 < 256) → BytR (f t r)) : BytR (andR x f) := by
  intro t q' ha
  cases x with
  | none => simp [andR] at ha
  | some b =>
    cases b with
    | error e => simp [andR] at ha
    | ok p => exact hf p.1 p.2 (h p.1 p.2 rfl) t q' ha
theorem op_lt {k : Nat} {s : Bytes} {op : Nat} (h : opOf k s = some op) : op < 256 := by
  unfold opOf at h
  repeat' split at h
  all_goals first | (injection h with h; omega) | cases h
theorem un_lt {s : Bytes} {op : Nat} (h : unOf s = some op) : op < 256 := by
  unfold unOf at h
  repeat' split at h
  all_goals first | (injection h with h; omega) | cases h
theorem md_lt {s : Bytes} {c : Bytes} {op : Nat} (h : mdOf s = some (c, op)) : op < 256 := by
  unfold mdOf at h
  repeat' split at h
  all_goals first | (injection h with h; injection h with _ h; omega) | cases h
theorem at_lt {s : Bytes} {op : Nat} (h : atOf s = some op) : op < 256 := by
  unfold atOf at h
  repeat' split at h
  all_goals first | (injection h with h; omega) | cases h
theorem p_lt {k : Nat} {s : Bytes} {op : Nat} (h : pOf k s = some op) : op < 256 := by
  unfold pOf at h
  repeat' split at h
  all_goals first | (injection h with h; omega) | cases h
theorem byt_app {a b : List Tk5} (ha : ∀ z ∈ a, z.1 < 256 ∧ z.2 < 256) (hb : ∀ z ∈ b, z.1 < 256 ∧ z.2 < 256) : ∀ z ∈ a ++ b, z.1 < 256 ∧ z.2 < 256 := fun z hz => by
  rcases List.mem_append.1 hz with h | h
  · exact ha z h
  · exact hb z h
theorem byt_one {op : Nat} (h : op < 256) : ∀ z ∈ [((op, 0) : Tk5)], z.1 < 256 ∧ z.2 < 256 := fun z hz => by
  simp at hz; subst hz; exact ⟨h, Nat.zero_lt_succ _⟩
theorem rd5_bytes (ns : List Bytes) (hns : ns.length ≤ 256) (fin : Int) : ∀ (n : Nat) (nt : NT) (ws : List Wd), BytR (rd5 ns fin n nt ws)
  | 0, _, _ => fun t r h => by cases h
  | n + 1, nt, ws => by
    have ih := rd5_bytes ns hns fin n
    cases nt with
    | lev k =>
      unfold rd5
      split
      · exact ih _ _
      · exact (ih _ _).and fun t r h => (ih _ _).and fun u q h' => BytR.ok (byt_app h h')
    | more k =>
      unfold rd5
      split
      · exact BytR.ok (fun z hz => by simp at hz)
      · rename_i op hop
        have ho := byt_one (op_lt hop)
        split
        · exact (ih _ _).and fun t r h => BytR.ok (byt_app h ho)
        · exact (ih _ _).and fun t r h => (ih _ _).and fun u q h' => BytR.ok (byt_app (byt_app h ho) h')
    | una =>
      unfold rd5
      split
      · rename_i op hop
        exact (ih _ _).and fun t r h => BytR.ok (byt_app h (byt_one (un_lt hop)))
      · split
        · rename_i c op hop
          refine (ih _ _).and fun t r h => ?_
          split
          · exact (ih _ _).and fun u q h' => BytR.ok (byt_app (byt_app h h') (byt_one (md_lt hop)))
          · exact BytR.err
        · exact ih _ _
    | ato =>
      unfold rd5
      split
      · rename_i op hop
        exact BytR.ok (byt_one (at_lt hop))
      · split
        · refine (ih _ _).and fun t r h => ?_
          split
          · exact BytR.ok h
          · exact BytR.err
        · cases ws with
          | nil => exact BytR.err
          | cons w r =>
            dsimp only
            split
            · split
              · rename_i hc
                refine BytR.ok fun z hz => ?_
                simp at hz; subst hz
                refine ⟨(by omega : 2 < 256), ?_⟩
                have hm : w.tx.toList ∈ ns := by simpa using hc
                have := List.idxOf_lt_length_of_mem hm
                show ns.idxOf w.tx.toList < 256
                omega
              · exact BytR.err
            · exact BytR.err
    | pat k =>
      unfold rd5
      exact (ih _ _).and fun t r h => (ih _ _).and fun u q h' => BytR.ok (byt_app h h')
    | pmore k =>
      unfold rd5
      split
      · exact BytR.ok (fun z hz => by simp at hz)
      · rename_i op hop
        have ho := byt_one (p_lt hop)
        split
        · exact (ih _ _).and fun u q h' => BytR.ok (byt_app ho h')
        · exact (ih _ _).and fun t r h => (ih _ _).and fun u q h' => BytR.ok (byt_app (byt_app h ho) h')
    | bar =>
      unfold rd5
      split
      · refine (ih _ _).and fun t r h => ?_
        split
        · exact BytR.ok (byt_app h (byt_one (by decide)))
        · exact BytR.err
      · split
        · exact (ih _ _).and fun t r h => BytR.ok (byt_app h (byt_one (by decide)))
        · split
          · refine (ih _ _).and fun t r h => ?_
            split
            · exact BytR.ok h
            · exact BytR.err
          · exact BytR.err

/-! ### no more tokens than words -/
def TokR (ws : List Wd) (x : PR) : Prop := ∀ t r, x = some (.ok (t, r)) → t.length + r.length ≤ ws.length
theorem TokR.err {ws : List Wd} {e p : Int} : TokR ws (erR e p) := fun t r h => by cases h
theorem TokR.ok {ws r : List Wd} {t : List Tk5} (h : t.length + r.length ≤ ws.length) : TokR ws (okR t r) := fun t' q h' => by
  simp only [okR, Option.some.injEq, Except.ok.injEq, Prod.mk.injEq] at h'
  obtain ⟨rfl, rfl⟩ := h'
  exact h
theorem TokR.and {ws q : List Wd} {x : PR} {f : List Tk5 → List Wd → PR} (h : TokR q x) (hf : ∀ t r, t.length + r.length ≤ q.length → TokR ws (f t r)) : TokR ws (andR x f) := by
  intro t q' ha
  cases x with
  | none => simp [andR] at ha
  | some b =>
    cases b with
    | error e => simp [andR] at ha
    | ok p => exact hf p.1 p.2 (h p.1 p.2 rfl) t q' ha
theorem rd5_toks (ns : List Bytes) (fin : Int) : ∀ (n : Nat) (nt : NT) (ws : List Wd), TokR ws (rd5 ns fin n nt ws)
  | 0, _, _ => fun t r h => by cases h
  | n + 1, nt, ws => by
    have ih := rd5_toks ns fin n
    cases nt with
    | lev k =>
      unfold rd5
      split
      · exact ih _ _
      · exact (ih _ _).and fun t r h => (ih _ _).and fun u q h' => TokR.ok (by simp; omega)
    | more k =>
      unfold rd5
      split
      · exact TokR.ok (by simp)
      · rename_i op hop
        have ht := tail_lt (tab_ne (T := opOf k) hop (nil_op k))
        split
        · exact (ih _ _).and fun t r h => TokR.ok (by simp; omega)
        · exact (ih _ _).and fun t r h => (ih _ _).and fun u q h' => TokR.ok (by simp; omega)
    | una =>
      unfold rd5
      split
      · rename_i op hop
        have ht := tail_lt (tab_ne (T := unOf) hop rfl)
        exact (ih _ _).and fun t r h => TokR.ok (by simp; omega)
      · split
        · rename_i c op hop
          have ht := tail_lt (tab_ne (T := mdOf) hop rfl)
          refine (ih _ _).and fun t r h => ?_
          split
          · have hl : r.tail.length ≤ r.length := by simp
            exact (ih _ _).and fun u q h' => TokR.ok (by simp; omega)
          · exact TokR.err
        · exact ih _ _
    | ato =>
      unfold rd5
      split
      · rename_i op hop
        have ht := tail_lt (tab_ne (T := atOf) hop rfl)
        exact TokR.ok (by simp; omega)
      · split
        · rename_i hh
          have ht := tail_lt (hd_ne hh (by simp))
          refine (ih _ _).and fun t r h => ?_
          split
          · have hl : r.tail.length ≤ r.length := by simp
            exact TokR.ok (by omega)
          · exact TokR.err
        · cases ws with
          | nil => exact TokR.err
          | cons w r =>
            dsimp only
            split
            · split
              · exact TokR.ok (by simp; omega)
              · exact TokR.err
            · exact TokR.err
    | pat k =>
      unfold rd5
      exact (ih _ _).and fun t r h => (ih _ _).and fun u q h' => TokR.ok (by simp; omega)
    | pmore k =>
      unfold rd5
      split
      · exact TokR.ok (by simp)
      · rename_i op hop
        have ht := tail_lt (tab_ne (T := pOf k) hop (nil_p k))
        split
        · exact (ih _ _).and fun u q h' => TokR.ok (by simp; omega)
        · exact (ih _ _).and fun t r h => (ih _ _).and fun u q h' => TokR.ok (by simp; omega)
    | bar =>
      unfold rd5
      split
      · rename_i hh
        have ht := tail_lt (hd_ne hh (by simp))
        refine (ih _ _).and fun t r h => ?_
        split
        · have hl : r.tail.length ≤ r.length := by simp
          exact TokR.ok (by simp; omega)
        · exact TokR.err
      · split
        · rename_i hh
          have ht := tail_lt (hd_ne hh (by simp))
          exact (ih _ _).and fun t r h => TokR.ok (by simp; omega)
        · split
          · rename_i hh
            have ht := tail_lt (hd_ne hh (by simp))
            refine (ih _ _).and fun t r h => ?_
            split
            · have hl : r.tail.length ≤ r.length := by simp
              exact TokR.ok (by omega)
            · exact TokR.err
          · exact TokR.err

/-! ### a fault has an error of its own -/
def NoR (x : PR) : Prop := ∀ e p, x = some (.error (e, p)) → e ≠ 0
theorem NoR.err {e p : Int} (h : e ≠ 0) : NoR (erR e p) := fun e' p' h' => by
  simp only [erR, Option.some.injEq, Except.error.injEq, Prod.mk.injEq] at h'
  obtain ⟨rfl, _⟩ := h'
  exact h
theorem NoR.ok {r : List Wd} {t : List Tk5} : NoR (okR t r) := fun e p h => by cases h
theorem NoR.and {x : PR} {f : List Tk5 → List Wd → PR} (h : NoR x) (hf : ∀ t r, NoR (f t r)) : NoR (andR x f) := by
  intro e p ha
  cases x with
  | none => simp [andR] at ha
  | some b =>
    cases b with
    | error q => exact h e p (by simpa [andR] using ha)
    | ok q => exact hf q.1 q.2 e p ha
theorem rd5_no (ns : List Bytes) (fin : Int) : ∀ (n : Nat) (nt : NT) (ws : List Wd), NoR (rd5 ns fin n nt ws)
  | 0, _, _ => fun e p h => by cases h
  | n + 1, nt, ws => by
    have ih := rd5_no ns fin n
    cases nt with
    | lev k =>
      unfold rd5
      split
      · exact ih _ _
      · exact (ih _ _).and fun t r => (ih _ _).and fun u q => NoR.ok
    | more k =>
      unfold rd5
      split
      · exact NoR.ok
      · split
        · exact (ih _ _).and fun t r => NoR.ok
        · exact (ih _ _).and fun t r => (ih _ _).and fun u q => NoR.ok
    | una =>
      unfold rd5
      split
      · exact (ih _ _).and fun t r => NoR.ok
      · split
        · refine (ih _ _).and fun t r => ?_
          split
          · exact (ih _ _).and fun u q => NoR.ok
          · exact NoR.err (by decide)
        · exact ih _ _
    | ato =>
      unfold rd5
      split
      · exact NoR.ok
      · split
        · refine (ih _ _).and fun t r => ?_
          split
          · exact NoR.ok
          · exact NoR.err (by decide)
        · cases ws with
          | nil => exact NoR.err (by decide)
          | cons w r =>
            dsimp only
            split
            · split
              · exact NoR.ok
              · exact NoR.err (by decide)
            · exact NoR.err (by decide)
    | pat k =>
      unfold rd5
      exact (ih _ _).and fun t r => (ih _ _).and fun u q => NoR.ok
    | pmore k =>
      unfold rd5
      split
      · exact NoR.ok
      · split
        · exact (ih _ _).and fun t r => NoR.ok
        · exact (ih _ _).and fun t r => (ih _ _).and fun u q => NoR.ok
    | bar =>
      unfold rd5
      split
      · refine (ih _ _).and fun t r => ?_
        split
        · exact NoR.ok
        · exact NoR.err (by decide)
      · split
        · exact (ih _ _).and fun t r => NoR.ok
        · split
          · refine (ih _ _).and fun t r => ?_
            split
            · exact NoR.ok
            · exact NoR.err (by decide)
          · exact NoR.err (by decide)
theorem whole_no0 (ns : List Bytes) (fin : Int) (nt : NT) (ws : List Wd) (p : Int) : whole5 ns fin nt ws ≠ .error (0, p) := by
  unfold whole5 endR
  obtain ⟨a, ha, _⟩ := rd5_fine ns fin (16 * ws.length + 16) nt ws (need_le nt ws)
  have hn := rd5_no ns fin (16 * ws.length + 16) nt ws
  rw [ha] at hn ⊢
  cases a with
  | error q => intro h; simp at h; exact hn q.1 q.2 rfl (by rw [h])
  | ok q =>
    obtain ⟨t, r⟩ := q
    cases r with
    | nil => intro h; cases h
    | cons w r => intro h; simp at h

/-! ### brackets and operators -/
def lpW (w : Wd) : Prop := w.tx.toList = [40]
def rpW (w : Wd) : Prop := w.tx.toList = [41]
/-- A formula in brackets, with whatever stands behind. -/
theorem at_brackets {ns : List Bytes} {fin fin' : Int} {A A' : List Wd} {t : List Tk5} (h : whole5 ns fin (.lev 0) A = .ok t) (hA : A'.map same2 = A.map same2) {l r : Wd} (hl : lpW l) (hr : rpW r) (X : List Wd) :
    ∃ n, rd5 ns fin' n .ato (l :: (A' ++ r :: X)) = some (.ok (t, X)) := by
  obtain ⟨n, hn⟩ := whole_ok.1 h
  have hs : Sim (r :: X) A (A' ++ r :: X) := by unfold Sim; rw [List.map_append, hA]
  obtain ⟨q, h1, h2⟩ := rd5_sim ns fin fin' (X := r :: X) (Or.inr (Or.inl hr)) n (.lev 0) A (A' ++ r :: X) hs t [] hn
  -- what is left is the closing word and X, places and all
  have hq : q = r :: X := by
    have := rd5_rest ns fin' n (.lev 0) (A' ++ r :: X) t q h1
    obtain ⟨p, hp⟩ := this
    have hlen : q.length = (r :: X).length := by
      have := congrArg List.length h2; simpa using this
    have e1 : (p ++ q).length = (A' ++ r :: X).length := by rw [hp]
    have hpl : p.length = A'.length := by simp at e1 hlen ⊢; omega
    exact (List.append_inj hp.symm hpl.symm).2.symm
  subst hq
  refine ⟨n + 1, ?_⟩
  unfold rd5
  have e1 : hdT (l :: (A' ++ r :: X)) = [40] := hl
  rw [e1]
  have e2 : atOf [40] = none := by decide
  rw [e2]
  simp only [if_true, List.tail_cons]
  rw [h1]
  have e3 : hdT (r :: X) = [41] := hr
  simp [andR, e3, okR]
end Go.Proofs.YtfipefbaabkdeaaGreatDoor
namespace Go.Proofs.YtfipefbaabkdeaaGreatDoor

/-- The words of a text, places aside. -/
def Lex (s : Bytes) (l : List (Nat × ByteArray)) : Prop := ∃ ws, wat s 0 = .ok ws ∧ ws.map same2 = l
theorem wgo_place : ∀ (n p p' : Nat) (s : Bytes) (ws : List Wd), wgo n p s = .ok ws → ∃ ws', wgo n p' s = .ok ws' ∧ ws'.map same2 = ws.map same2
  | 0, p, p', s, ws, h => by
    simp only [wgo] at h ⊢; injection h with h; subst h; exact ⟨[], rfl, rfl⟩
  | n + 1, p, p', [], ws, h => by
    simp only [wgo] at h ⊢; injection h with h; subst h; exact ⟨[], rfl, rfl⟩
  | n + 1, p, p', b :: r, ws, h => by
    unfold wgo at h ⊢
    by_cases hb : b = 32
    · rw [if_pos hb] at h ⊢; exact wgo_place n _ _ r ws h
    · rw [if_neg hb] at h ⊢
      by_cases h0 : firstL (b :: r) = []
      · rw [if_pos h0] at h; cases h
      · rw [if_neg h0] at h ⊢
        cases hr : wgo n (p + (firstL (b :: r)).length) ((b :: r).drop (firstL (b :: r)).length) with
        | error e => rw [hr] at h; cases h
        | ok l =>
          rw [hr] at h
          injection h with h
          subst h
          obtain ⟨l', h1, h2⟩ := wgo_place n _ (p' + (firstL (b :: r)).length) _ l hr
          rw [h1]
          exact ⟨_, rfl, by simp [h2, same2]⟩
theorem lex_iff {s : Bytes} {l : List (Nat × ByteArray)} : Lex s l ↔ ∃ n p ws, s.length ≤ n ∧ wgo n p s = .ok ws ∧ ws.map same2 = l := by
  constructor
  · rintro ⟨ws, h1, h2⟩
    unfold wat at h1
    rw [List.drop_zero] at h1
    exact ⟨s.length, 0, ws, Nat.le_refl _, h1, h2⟩
  · rintro ⟨n, p, ws, hn, h1, h2⟩
    rw [wgo_fuel n s.length p s hn (Nat.le_refl _)] at h1
    obtain ⟨ws', h3, h4⟩ := wgo_place _ p 0 s ws h1
    exact ⟨ws', by unfold wat; rw [List.drop_zero]; exact h3, by rw [h4, h2]⟩
theorem Lex.nil : Lex [] [] := ⟨[], rfl, rfl⟩
theorem Lex.blank {s : Bytes} {l : List (Nat × ByteArray)} (h : Lex s l) : Lex (32 :: s) l := by
  obtain ⟨n, p, ws, hn, h1, h2⟩ := lex_iff.1 h
  obtain ⟨ws', h3, h4⟩ := wgo_place n p (0 + 1) s ws h1
  refine lex_iff.2 ⟨n + 1, 0, ws', by simp; omega, ?_, by rw [h4, h2]⟩
  unfold wgo; rw [if_pos rfl]; exact h3
theorem Lex.word {x s : Bytes} {l : List (Nat × ByteArray)} (hx : x ≠ []) (hb : x.headD 0 ≠ 32) (hf : firstL (x ++ s) = x) (h : Lex s l) : Lex (x ++ s) (((sortL x).1, mkB x) :: l) := by
  obtain ⟨n, p, ws, hn, h1, h2⟩ := lex_iff.1 h
  obtain ⟨b, r, rfl⟩ : ∃ b r, x = b :: r := by cases x with | nil => exact absurd rfl hx | cons b r => exact ⟨b, r, rfl⟩
  have hb' : b ≠ 32 := by simpa using hb
  obtain ⟨ws', h3, h4⟩ := wgo_place n p (0 + (b :: r).length) s ws h1
  have hn2 : s.length ≤ n + (b :: r).length := by omega
  rw [wgo_fuel n (n + (b :: r).length) _ s hn hn2] at h3
  refine lex_iff.2 ⟨n + (b :: r).length + 1, 0, ⟨(sortL (b :: r)).1, mkB (b :: r), ((0 : Nat) : Int)⟩ :: ws', by simp only [List.length_append]; omega, ?_, by simp [h4, h2, same2]⟩
  rw [List.cons_append] at hf ⊢
  unfold wgo
  rw [if_neg hb', hf, if_neg (by simp)]
  have hd : (b :: (r ++ s)).drop (b :: r).length = s := by rw [← List.cons_append, List.drop_left]
  rw [hd, h3]
/-- How a text's words begin. -/
theorem Lex.cases {s : Bytes} {l : List (Nat × ByteArray)} (h : Lex s l) : (s = [] ∧ l = []) ∨ (∃ s', s = 32 :: s' ∧ Lex s' l) ∨ ∃ s' l', firstL s ≠ [] ∧ s = firstL s ++ s' ∧ Lex s' l' ∧ l = ((sortL (firstL s)).1, mkB (firstL s)) :: l' ∧ s.headD 0 ≠ 32 := by
  obtain ⟨ws, h1, h2⟩ := h
  unfold wat at h1
  rw [List.drop_zero] at h1
  cases s with
  | nil => simp [wgo] at h1; subst h1; exact Or.inl ⟨rfl, by simpa using h2.symm⟩
  | cons b r =>
    right
    rw [List.length_cons] at h1
    unfold wgo at h1
    by_cases hb : b = 32
    · rw [if_pos hb] at h1
      subst hb
      exact Or.inl ⟨r, rfl, lex_iff.2 ⟨r.length, _, ws, Nat.le_refl _, h1, h2⟩⟩
    · rw [if_neg hb] at h1
      by_cases h0 : firstL (b :: r) = []
      · rw [if_pos h0] at h1; cases h1
      · rw [if_neg h0] at h1
        cases hr : wgo r.length (0 + (firstL (b :: r)).length) ((b :: r).drop (firstL (b :: r)).length) with
        | error e => rw [hr] at h1; cases h1
        | ok l' =>
          rw [hr] at h1
          injection h1 with h1
          subst h1
          have hp : 0 < (firstL (b :: r)).length := List.length_pos_iff.2 h0
          refine Or.inr ⟨(b :: r).drop (firstL (b :: r)).length, l'.map same2, h0, ?_, lex_iff.2 ⟨r.length, _, l', by rw [List.length_drop, List.length_cons]; omega, hr, rfl⟩, ?_, by simpa using hb⟩
          · conv => lhs; rw [← List.take_append_drop (firstL (b :: r)).length (b :: r)]
            rw [← first_pre]
          · rw [← h2]; simp [same2]
/-- A byte that ends every word. -/
def Brk (c : UInt8) : Prop := plnB c = false ∧ c ≠ 45
/-- A word of letters and digits, a sign. -/
theorem first_two {s : Bytes} (h : firstL s ≠ []) : ((firstL s).all plnB = true ∧ (sortL (firstL s)).2 = true ∧ runN s = (firstL s).length) ∨ (firstL s ∈ sgR ∧ runN s = 0) := by
  have h2 := first_sort h
  unfold firstL at h h2 ⊢
  by_cases hc : (decide (0 < runN s) && (sortL (s.take (runN s))).2) = true
  · rw [if_pos hc] at h h2 ⊢
    exact Or.inl ⟨runN_take s, h2, by rw [List.length_take]; have := runN_le s; omega⟩
  · rw [if_neg hc] at h h2 ⊢
    by_cases h0 : runN s = 0
    · rw [if_pos h0] at h h2 ⊢
      rcases hit_cases s with e | ⟨m, _⟩
      · exact absurd e h
      · exact Or.inr ⟨m, h0⟩
    · rw [if_neg h0] at h; exact absurd rfl h
theorem run_word {x : Bytes} (hx : x ≠ []) (hp : x.all plnB = true) (hs : (sortL x).2 = true) {r : Bytes} (hr : runN r = 0) : firstL (x ++ r) = x := by
  have hl : 0 < x.length := List.length_pos_iff.2 hx
  have e : runN (x ++ r) = x.length := by rw [runN_app x _ hp, hr]; rfl
  unfold firstL; rw [e, List.take_left, if_pos (by simp [hl, hs])]
/-- Every sign but < stands whatever follows; < too, where no -> follows. -/
theorem sign_stands {x : Bytes} (hx : x ∈ sgR) (h1 : x ≠ [60]) (r : Bytes) : firstL (x ++ r) = x := by
  simp only [sgR, List.mem_cons, List.not_mem_nil, or_false] at hx
  rcases hx with h | h | h | h | h | h | h | h | h | h | h | h | h | h | h | h | h <;> subst h <;> first | rfl | exact absurd rfl h1
theorem less_stands {r : Bytes} (h : r.take 2 ≠ [45, 62]) : firstL ([60] ++ r) = [60] := by
  have e0 : runN ([60] ++ r) = 0 := rfl
  unfold firstL
  rw [e0]
  simp only [Nat.lt_irrefl, decide_false, Bool.false_and, Bool.false_eq_true, if_false, if_true]
  have hp : pre [60, 45, 62] ([60] ++ r) = false := by
    show (([60, 45, 62] : Bytes) == (60 :: r.take 2)) = false
    simp only [beq_eq_false_iff_ne, ne_eq, List.cons.injEq, true_and]
    exact fun e => h e.symm
  unfold sgR hitGo
  rw [hp]
  rfl
theorem less_not {r : Bytes} (h : r.take 2 = [45, 62]) : firstL ([60] ++ r) = [60, 45, 62] := by
  obtain ⟨s, rfl⟩ : ∃ s, r = 45 :: 62 :: s := by
    cases r with
    | nil => simp at h
    | cons a r => cases r with
      | nil => simp at h
      | cons b r => simp at h; obtain ⟨rfl, rfl⟩ := h; exact ⟨r, rfl⟩
  rfl
theorem lex_dash {l : List (Nat × ByteArray)} : ¬ Lex [45] l := by
  rintro ⟨ws, h1, _⟩
  have e : wat [45] 0 = .error 0 := rfl
  rw [e] at h1; cases h1
/-- Words, then a byte that ends words. -/
theorem Lex.app {c : UInt8} (hc : Brk c) {rest : Bytes} {L : List (Nat × ByteArray)} (hL : Lex (c :: rest) L) : ∀ (n : Nat) (a : Bytes) (A : List (Nat × ByteArray)), a.length ≤ n → Lex a A → Lex (a ++ c :: rest) (A ++ L)
  | 0, a, A, hn, h => by
    have : a = [] := List.eq_nil_of_length_eq_zero (by omega)
    subst this
    rcases h.cases with ⟨_, rfl⟩ | ⟨s', e, _⟩ | ⟨s', l', h0, e, _⟩
    · simpa using hL
    · simp at e
    · exact absurd (List.append_eq_nil_iff.1 e.symm).1 h0
  | n + 1, a, A, hn, h => by
    rcases h.cases with ⟨rfl, rfl⟩ | ⟨s', rfl, h'⟩ | ⟨s', l', h0, e, h', rfl, hb⟩
    · simpa using hL
    · have := Lex.app hc hL n s' A (by simp at hn; omega) h'
      exact this.blank
    · have hp : 0 < (firstL a).length := List.length_pos_iff.2 h0
      have hl : a.length = (firstL a).length + s'.length := by conv => lhs; rw [e]
                                                               simp
      have ih := Lex.app hc hL n s' l' (by omega) h'
      have hx := first_two h0
      have hhd : (firstL a).headD 0 ≠ 32 := by
        rw [e] at hb
        cases hf : firstL a with
        | nil => exact absurd hf h0
        | cons b r => rw [hf] at hb; simpa using hb
      have key : firstL (firstL a ++ (s' ++ c :: rest)) = firstL a := by
        have e2 : firstL (firstL a ++ s') = firstL a := by rw [← e]
        rcases hx with ⟨x1, x2, x3⟩ | ⟨x1, _⟩
        · refine run_word h0 x1 x2 ?_
          cases hs : s' with
          | nil => exact runN_cons_f hc.1
          | cons d y =>
            have hd : plnB d = false := by
              cases hd : plnB d with
              | false => rfl
              | true =>
                have : runN a = (firstL a).length + runN s' := by conv => lhs; rw [e]
                                                                  exact runN_app _ _ x1
                rw [hs, runN_cons_t hd, x3] at this
                omega
            exact runN_cons_f hd
        · by_cases h60 : firstL a = [60]
          · rw [h60] at e2 ⊢
            refine less_stands fun ht => ?_
            have hno : s'.take 2 ≠ [45, 62] := fun h => by rw [less_not h] at e2; cases e2
            cases hs : s' with
            | nil =>
              rw [hs] at ht
              simp at ht
              exact hc.2 ht.1
            | cons d y =>
              cases hy : y with
              | nil =>
                rw [hs, hy] at ht h'
                simp at ht
                rw [ht.1] at h'
                exact lex_dash h'
              | cons d2 y2 =>
                rw [hs, hy] at ht hno
                simp at ht hno
                exact hno ht.1 ht.2
          · exact sign_stands x1 h60 _
      conv => lhs; rw [e]
      rw [List.append_assoc, List.cons_append]
      exact Lex.word h0 hhd key ih
theorem brk40 : Brk 40 := ⟨by decide, by decide⟩
theorem brk41 : Brk 41 := ⟨by decide, by decide⟩
theorem brk62 : Brk 62 := ⟨by decide, by decide⟩
theorem brk32 : Brk 32 := ⟨by decide, by decide⟩
theorem brk93 : Brk 93 := ⟨by decide, by decide⟩
end Go.Proofs.YtfipefbaabkdeaaGreatDoor
namespace Go.Proofs.YtfipefbaabkdeaaGreatDoor

theorem rd_una {ns : List Bytes} {fin : Int} {ws r : List Wd} {t : List Tk5} (h : ∃ n, rd5 ns fin n .ato ws = some (.ok (t, r))) (h1 : unOf (hdT ws) = none) (h2 : mdOf (hdT ws) = none) : ∃ n, rd5 ns fin n .una ws = some (.ok (t, r)) := by
  obtain ⟨n, h⟩ := h
  refine ⟨n + 1, ?_⟩
  unfold rd5; rw [h1, h2]; exact h
theorem rd_more {ns : List Bytes} {fin : Int} {ws : List Wd} {k : Nat} (h : opOf k (hdT ws) = none) (n : Nat) : rd5 ns fin (n + 1) (.more k) ws = some (.ok ([], ws)) := by
  unfold rd5; rw [h]; rfl
theorem rd_pmore {ns : List Bytes} {fin : Int} {ws : List Wd} {k : Nat} (h : pOf k (hdT ws) = none) (n : Nat) : rd5 ns fin (n + 1) (.pmore k) ws = some (.ok ([], ws)) := by
  unfold rd5; rw [h]; rfl
theorem op_high {k : Nat} (h : 5 ≤ k) (s : Bytes) : opOf k s = none := by
  unfold opOf
  simp [show k ≠ 0 by omega, show k ≠ 1 by omega, show k ≠ 2 by omega, show k ≠ 3 by omega, show k ≠ 4 by omega]
/-- From what stands behind ! up to a level at which nothing goes on. -/
theorem rd_lev {ns : List Bytes} {fin : Int} {ws r : List Wd} {t : List Tk5} (h : ∃ n, rd5 ns fin n .una ws = some (.ok (t, r))) : ∀ (d j : Nat), j + d = 5 → (∀ i, j ≤ i → opOf i (hdT r) = none) → ∃ n, rd5 ns fin n (.lev j) ws = some (.ok (t, r))
  | 0, j, hj, _ => by
    obtain ⟨n, h⟩ := h
    refine ⟨n + 1, ?_⟩
    unfold rd5; rw [if_pos (by omega)]; exact h
  | d + 1, j, hj, ho => by
    obtain ⟨n, ih⟩ := rd_lev h d (j + 1) (by omega) (fun i hi => ho i (by omega))
    refine ⟨n + 2, ?_⟩
    unfold rd5
    rw [if_neg (by omega), rd5_mono (by omega : n ≤ n + 1) _ ih]
    simp only [andR]
    rw [rd_more (ho j (Nat.le_refl _))]
    simp [okR]
/-- Down from level j to level 0, where nothing is left. -/
theorem rd_down {ns : List Bytes} {fin : Int} {ws : List Wd} {t : List Tk5} : ∀ (j : Nat), j ≤ 5 → (∃ n, rd5 ns fin n (.lev j) ws = some (.ok (t, []))) → ∃ n, rd5 ns fin n (.lev 0) ws = some (.ok (t, []))
  | 0, _, h => h
  | j + 1, hj, ⟨n, h⟩ => by
    refine rd_down j (by omega) ⟨n + 2, ?_⟩
    unfold rd5
    rw [if_neg (by omega), rd5_mono (by omega : n ≤ n + 1) _ h]
    simp only [andR]
    rw [rd_more (nil_op j)]
    simp [okR]
theorem lp_no : unOf [40] = none ∧ mdOf [40] = none := by decide
/-- A formula in brackets is the formula. -/
theorem join_one {ns : List Bytes} {fin fin' : Int} {A A' : List Wd} {t : List Tk5} (h : whole5 ns fin (.lev 0) A = .ok t) (hA : A'.map same2 = A.map same2) {l r : Wd} (hl : lpW l) (hr : rpW r) : whole5 ns fin' (.lev 0) (l :: (A' ++ [r])) = .ok t := by
  refine whole_ok.2 ?_
  have h1 := at_brackets (fin' := fin') h hA hl hr []
  have e : hdT (l :: (A' ++ [r])) = [40] := hl
  exact rd_lev (rd_una h1 (by rw [e]; exact lp_no.1) (by rw [e]; exact lp_no.2)) 5 0 (by omega) (fun i _ => nil_op i)
/-- Two of them with an operator between. -/
theorem join_two {ns : List Bytes} {fin fin' : Int} {A A' B B' : List Wd} {t u : List Tk5} (h : whole5 ns fin (.lev 0) A = .ok t) (hA : A'.map same2 = A.map same2) {fin2 : Int} (h' : whole5 ns fin2 (.lev 0) B = .ok u) (hB : B'.map same2 = B.map same2)
    {l r l2 r2 o : Wd} (hl : lpW l) (hr : rpW r) (hl2 : lpW l2) (hr2 : rpW r2) {j op : Nat} (hj : j ≤ 4) (ho : opOf j o.tx.toList = some op) (hno : ∀ i, i ≠ j → opOf i o.tx.toList = none) :
    whole5 ns fin' (.lev 0) (l :: (A' ++ r :: o :: l2 :: (B' ++ [r2]))) = .ok (t ++ u ++ [(op, 0)]) := by
  refine whole_ok.2 ?_
  have h1 := at_brackets (fin' := fin') h hA hl hr (o :: l2 :: (B' ++ [r2]))
  have h2 := at_brackets (fin' := fin') h' hB hl2 hr2 []
  have e1 : hdT (l :: (A' ++ r :: o :: l2 :: (B' ++ [r2]))) = [40] := hl
  have e2 : hdT (l2 :: (B' ++ [r2])) = [40] := hl2
  have u1 := rd_una h1 (by rw [e1]; exact lp_no.1) (by rw [e1]; exact lp_no.2)
  have u2 := rd_una h2 (by rw [e2]; exact lp_no.1) (by rw [e2]; exact lp_no.2)
  obtain ⟨n1, a1⟩ := rd_lev u1 (5 - (j + 1)) (j + 1) (by omega) (fun i hi => hno i (by omega))
  obtain ⟨n2, a2⟩ := rd_lev u2 (5 - j) j (by omega) (fun i _ => nil_op i)
  obtain ⟨n3, a3⟩ := rd_lev u2 (5 - (j + 1)) (j + 1) (by omega) (fun i _ => nil_op i)
  have hm : ∃ n, rd5 ns fin' n (.more j) (o :: l2 :: (B' ++ [r2])) = some (.ok (u ++ [(op, 0)], [])) := by
    have eo : hdT (o :: l2 :: (B' ++ [r2])) = o.tx.toList := rfl
    by_cases hr : rightB j = true
    · refine ⟨n2 + 1, ?_⟩
      unfold rd5
      rw [eo, ho]
      simp only [hr, if_true, List.tail_cons]
      rw [a2]; rfl
    · refine ⟨n3 + 2, ?_⟩
      unfold rd5
      rw [eo, ho]
      simp only [hr, List.tail_cons]
      rw [rd5_mono (by omega : n3 ≤ n3 + 1) _ a3]
      simp only [andR, Bool.false_eq_true, if_false]
      rw [rd_more (nil_op j)]
      simp [okR]
  obtain ⟨n4, a4⟩ := hm
  refine rd_down j (by omega) ⟨n1 + n4 + 1, ?_⟩
  unfold rd5
  rw [if_neg (by omega), rd5_mono (by omega : n1 ≤ n1 + n4) _ a1]
  simp only [andR]
  rw [rd5_mono (by omega : n4 ≤ n1 + n4) _ a4]
  simp [okR]
/-- A path, with a closing word behind. -/
theorem pat_closed {ns : List Bytes} {fin fin' : Int} {A A' : List Wd} {t : List Tk5} (h : whole5 ns fin (.pat 0) A = .ok t) (hA : A'.map same2 = A.map same2) {r : Wd} (hr : Closer r.tx.toList) (X : List Wd) :
    ∃ n, rd5 ns fin' n (.pat 0) (A' ++ r :: X) = some (.ok (t, r :: X)) := by
  obtain ⟨n, hn⟩ := whole_ok.1 h
  have hs : Sim (r :: X) A (A' ++ r :: X) := by unfold Sim; rw [List.map_append, hA]
  obtain ⟨q, h1, h2⟩ := rd5_sim ns fin fin' (X := r :: X) (Or.inr hr) n (.pat 0) A (A' ++ r :: X) hs t [] hn
  have hq : q = r :: X := by
    obtain ⟨p, hp⟩ := rd5_rest ns fin' n (.pat 0) (A' ++ r :: X) t q h1
    have hlen : q.length = (r :: X).length := by have := congrArg List.length h2; simpa using this
    have e1 : (p ++ q).length = (A' ++ r :: X).length := by rw [hp]
    have hpl : p.length = A'.length := by simp at e1 hlen ⊢; omega
    exact (List.append_inj hp.symm hpl.symm).2.symm
  subst hq
  exact ⟨n, h1⟩
theorem una_true {ns : List Bytes} {fin : Int} {w : Wd} (hw : w.tx.toList = [116, 114, 117, 101]) (n : Nat) : rd5 ns fin (n + 2) .una [w] = some (.ok ([(0, 0)], [])) := by
  have e : hdT [w] = [116, 114, 117, 101] := hw
  have e1 : unOf [116, 114, 117, 101] = none := by decide
  have e2 : mdOf [116, 114, 117, 101] = none := by decide
  have e3 : atOf [116, 114, 117, 101] = some 0 := by decide
  unfold rd5
  rw [e, e1, e2]
  simp only
  unfold rd5
  rw [e, e3]; rfl
/-- < r > true. -/
theorem path_dia {ns : List Bytes} {fin fin' : Int} {A A' : List Wd} {t : List Tk5} (h : whole5 ns fin (.pat 0) A = .ok t) (hA : A'.map same2 = A.map same2) {l r w : Wd} (hl : l.tx.toList = [60]) (hr : r.tx.toList = [62]) (hw : w.tx.toList = [116, 114, 117, 101]) :
    whole5 ns fin' (.lev 0) (l :: (A' ++ [r, w])) = .ok (t ++ [(0, 0)] ++ [(17, 0)]) := by
  refine whole_ok.2 ?_
  obtain ⟨n, hn⟩ := pat_closed (fin' := fin') h hA (r := r) (by rw [hr]; exact Or.inr (Or.inl rfl)) [w]
  refine rd_lev (r := []) ⟨n + 3, ?_⟩ 5 0 (by omega) (fun i _ => nil_op i)
  have e : hdT (l :: (A' ++ [r, w])) = [60] := hl
  have e1 : unOf [60] = none := by decide
  have e2 : mdOf [60] = some ([62], 17) := by decide
  unfold rd5
  rw [e, e1, e2]
  simp only [List.tail_cons]
  rw [rd5_mono (by omega : n ≤ n + 2) _ hn]
  simp only [andR]
  have e3 : hdT [r, w] = [62] := hr
  rw [if_pos e3]
  simp only [List.tail_cons]
  rw [una_true hw]
  simp [okR]
/-- [ ( r ) ] true. -/
theorem path_box {ns : List Bytes} {fin fin' : Int} {A A' : List Wd} {t : List Tk5} (h : whole5 ns fin (.pat 0) A = .ok t) (hA : A'.map same2 = A.map same2) {l l2 r2 r w : Wd} (hl : l.tx.toList = [91]) (hl2 : lpW l2) (hr2 : rpW r2) (hr : r.tx.toList = [93]) (hw : w.tx.toList = [116, 114, 117, 101]) :
    whole5 ns fin' (.lev 0) (l :: l2 :: (A' ++ [r2, r, w])) = .ok (t ++ [(0, 0)] ++ [(18, 0)]) := by
  refine whole_ok.2 ?_
  obtain ⟨n, hn⟩ := pat_closed (fin' := fin') h hA (r := r2) (by rw [show r2.tx.toList = [41] from hr2]; exact Or.inl rfl) [r, w]
  have hb : rd5 ns fin' (n + 1) .bar (l2 :: (A' ++ [r2, r, w])) = some (.ok (t, [r, w])) := by
    have e : hdT (l2 :: (A' ++ [r2, r, w])) = [40] := hl2
    unfold rd5
    rw [e]
    simp only [List.tail_cons]
    rw [if_neg (by decide), if_neg (by decide), if_pos trivial, hn]
    simp only [andR]
    have e3 : hdT [r2, r, w] = [41] := hr2
    rw [if_pos e3]; rfl
  have hc : Closer (hdT [r, w]) := by rw [show hdT [r, w] = [93] from hr]; exact Or.inr (Or.inr (Or.inl rfl))
  have hp2 : rd5 ns fin' (n + 2) (.pat 2) (l2 :: (A' ++ [r2, r, w])) = some (.ok (t, [r, w])) := by
    unfold rd5
    rw [if_pos (by omega), hb]
    simp only [andR]
    rw [rd_pmore (closer_p hc 2)]; simp [okR]
  have hp1 : rd5 ns fin' (n + 3) (.pat 1) (l2 :: (A' ++ [r2, r, w])) = some (.ok (t, [r, w])) := by
    unfold rd5
    rw [if_neg (by omega), hp2]
    simp only [andR]
    rw [rd_pmore (closer_p hc 1)]; simp [okR]
  have hp0 : rd5 ns fin' (n + 4) (.pat 0) (l2 :: (A' ++ [r2, r, w])) = some (.ok (t, [r, w])) := by
    unfold rd5
    rw [if_neg (by omega), hp1]
    simp only [andR]
    rw [rd_pmore (closer_p hc 0)]; simp [okR]
  refine rd_lev (r := []) ⟨n + 5, ?_⟩ 5 0 (by omega) (fun i _ => nil_op i)
  have e : hdT (l :: l2 :: (A' ++ [r2, r, w])) = [91] := hl
  have e1 : unOf [91] = none := by decide
  have e2 : mdOf [91] = some ([93], 18) := by decide
  unfold rd5
  rw [e, e1, e2]
  simp only [List.tail_cons]
  rw [hp0]
  simp only [andR]
  have e3 : hdT [r, w] = [93] := hr
  rw [if_pos e3]
  simp only [List.tail_cons]
  rw [show n + 4 = (n + 2) + 2 by omega, una_true hw]
  simp [okR]

/-! ### the texts -/
theorem lp_lex {s : Bytes} {l : List (Nat × ByteArray)} (h : Lex s l) : Lex (40 :: s) ((0, mkB [40]) :: l) := Lex.word (x := [40]) (by simp) (by simp) (sign_stands (by decide) (by decide) s) h
theorem rp_lex {s : Bytes} {l : List (Nat × ByteArray)} (h : Lex s l) : Lex (41 :: s) ((0, mkB [41]) :: l) := Lex.word (x := [41]) (by simp) (by simp) (sign_stands (by decide) (by decide) s) h
theorem gt_lex {s : Bytes} {l : List (Nat × ByteArray)} (h : Lex s l) : Lex (62 :: s) ((0, mkB [62]) :: l) := Lex.word (x := [62]) (by simp) (by simp) (sign_stands (by decide) (by decide) s) h
theorem rb_lex {s : Bytes} {l : List (Nat × ByteArray)} (h : Lex s l) : Lex (93 :: s) ((0, mkB [93]) :: l) := Lex.word (x := [93]) (by simp) (by simp) (sign_stands (by decide) (by decide) s) h
theorem lb_lex {s : Bytes} {l : List (Nat × ByteArray)} (h : Lex s l) : Lex (91 :: s) ((0, mkB [91]) :: l) := Lex.word (x := [91]) (by simp) (by simp) (sign_stands (by decide) (by decide) s) h
/-- "  (" a " ) " -/
theorem lex_one {a : Bytes} {A : List (Nat × ByteArray)} (h : Lex a A) : Lex (32 :: 32 :: 40 :: (a ++ [32, 41, 32])) ((0, mkB [40]) :: (A ++ [(0, mkB [41])])) := by
  have h1 : Lex [32, 41, 32] [(0, mkB [41])] := (rp_lex Lex.nil.blank).blank
  exact (lp_lex (Lex.app brk32 h1 _ a A (Nat.le_refl _) h)).blank.blank
/-- "(" a ")" op "(" b ")" -/
theorem lex_two {a b o : Bytes} {A B : List (Nat × ByteArray)} (h : Lex a A) (h' : Lex b B) (ho : o ≠ []) (hb : o.headD 0 ≠ 32) (hf : ∀ r, firstL (o ++ 40 :: r) = o) :
    Lex (40 :: (a ++ 41 :: (o ++ 40 :: (b ++ [41])))) ((0, mkB [40]) :: (A ++ (0, mkB [41]) :: ((sortL o).1, mkB o) :: (0, mkB [40]) :: (B ++ [(0, mkB [41])]))) := by
  have h1 : Lex (40 :: (b ++ [41])) ((0, mkB [40]) :: (B ++ [(0, mkB [41])])) := lp_lex (Lex.app brk41 (rp_lex Lex.nil) _ b B (Nat.le_refl _) h')
  have h2 := Lex.word ho hb (hf _) h1
  exact lp_lex (Lex.app brk41 (rp_lex h2) _ a A (Nat.le_refl _) h)
theorem true_lex : Lex [32, 116, 114, 117, 101] [(1, mkB [116, 114, 117, 101])] := ⟨_, rfl, rfl⟩
/-- "<" r "> true" -/
theorem lex_dia {a : Bytes} {A : List (Nat × ByteArray)} (h : Lex a A) (ha : a.take 2 ≠ [45, 62]) (hn : a ≠ []) : Lex (60 :: (a ++ [62, 32, 116, 114, 117, 101])) ((0, mkB [60]) :: (A ++ [(0, mkB [62]), (1, mkB [116, 114, 117, 101])])) := by
  have h1 := Lex.app brk62 (gt_lex true_lex) _ a A (Nat.le_refl _) h
  refine Lex.word (x := [60]) (by simp) (by simp) (less_stands fun e => ?_) h1
  cases a with
  | nil => exact hn rfl
  | cons b r => cases r with
    | nil => simp at e; rw [e] at h; exact lex_dash h
    | cons c r => simp at e ha; exact ha e.1 e.2
/-- "[(" r ")] true" -/
theorem lex_box {a : Bytes} {A : List (Nat × ByteArray)} (h : Lex a A) : Lex (91 :: 40 :: (a ++ [41, 93, 32, 116, 114, 117, 101])) ((0, mkB [91]) :: (0, mkB [40]) :: (A ++ [(0, mkB [41]), (0, mkB [93]), (1, mkB [116, 114, 117, 101])])) :=
  lb_lex (lp_lex (Lex.app brk41 (rp_lex (rb_lex true_lex)) _ a A (Nat.le_refl _) h))
end Go.Proofs.YtfipefbaabkdeaaGreatDoor
namespace Go.Proofs.YtfipefbaabkdeaaGreatDoor

theorem look_tree {t : Tr} (hw : t.WF) {want : Nat} (hk : isK (kindOf (t.part 0)) want = true) : lookE t.flat want = 0 ∨ lookE t.flat want = 3 ∨ lookE t.flat want = 8 := by
  unfold lookE
  split
  · exact Or.inr (Or.inl rfl)
  · rw [read_one.2 ⟨t, hw, rfl, rfl, rfl⟩]
    unfold lookOf
    simp only
    rw [if_pos hk]
    split
    · exact Or.inr (Or.inr rfl)
    · exact Or.inl rfl
/-- Two formulas and an operator of two formulas. -/
theorem look_two {a b : List Tk} (ha : lookE a 1 = 0) (hb : lookE b 1 = 0) {op : Nat} (h1 : 11 ≤ op) (h2 : op ≤ 16) : lookE (a ++ b ++ [(op, 0)]) 1 = 0 ∨ lookE (a ++ b ++ [(op, 0)]) 1 = 3 ∨ lookE (a ++ b ++ [(op, 0)]) 1 = 8 := by
  obtain ⟨_, c, hc, rfl, kc, _⟩ := lookE_zero.1 ha
  obtain ⟨_, d, hd, rfl, kd, _⟩ := lookE_zero.1 hb
  rw [kind_formula] at kc kd
  have hw : (Tr.bin (op, 0) c d).WF := by
    refine ⟨?_, ?_, hc, hd⟩
    · unfold takesN; rw [if_neg (by simp; omega), if_neg (by simp; omega), if_neg (by simp; omega)]
    · unfold fitsP
      rw [if_neg (by simp; omega), if_neg (by simp; omega), if_neg (by simp; omega), if_neg (by simp; omega)]
      simp at kc kd ⊢; exact ⟨kc, kd⟩
  refine look_tree hw ?_
  rw [kind_formula]
  show (!isPathB op) = true
  unfold isPathB; simp; omega
/-- A path, a formula, and the token that puts them together. -/
theorem look_modal {a b : List Tk} (ha : lookE a 3 = 0) (hb : lookE b 1 = 0) {op : Nat} (h : op = 17 ∨ op = 18) : lookE (a ++ b ++ [(op, 0)]) 1 = 0 ∨ lookE (a ++ b ++ [(op, 0)]) 1 = 3 ∨ lookE (a ++ b ++ [(op, 0)]) 1 = 8 := by
  obtain ⟨_, c, hc, rfl, kc, _⟩ := lookE_zero.1 ha
  obtain ⟨_, d, hd, rfl, kd, _⟩ := lookE_zero.1 hb
  rw [kind_formula] at kd
  rw [kind_path] at kc
  have hw : (Tr.bin (op, 0) c d).WF := by
    refine ⟨?_, ?_, hc, hd⟩
    · unfold takesN; rw [if_neg (by simp; omega), if_neg (by simp; omega), if_neg (by simp; omega)]
    · unfold fitsP
      rw [if_pos (by simpa using h)]
      simp at kd ⊢; exact ⟨kc, kd⟩
  refine look_tree hw ?_
  rw [kind_formula]
  show (!isPathB op) = true
  unfold isPathB; simp; omega
theorem look_true : lookE [(0, 0)] 1 = 0 := by decide
end Go.Proofs.YtfipefbaabkdeaaGreatDoor
namespace Go.Proofs.YtfipefbaabkdeaaGreatDoor

/-- What is answered: the tokens, the error, its place. -/
def form5 (ns : List Bytes) (s : Bytes) (nt : NT) (want : Nat) : List Tk5 × Int × Int :=
  if checkE ns ≠ 0 then ([], checkE ns, -1)
  else if ((wordsL s).2.1, (wordsL s).2.2) ≠ ((0 : Int), (0 : Int)) then ([], (wordsL s).2.1, (wordsL s).2.2)
  else match whole5 ns s.length nt (wordsL s).1 with
    | .error (e, p) => ([], e, p)
    | .ok t => if lookE t want ≠ 0 then ([], (lookE t want : Int), -1) else (t, 0, 0)
def formL (ns : List Bytes) (s : Bytes) := form5 ns s (.lev 0) 1
def pathL (ns : List Bytes) (s : Bytes) := form5 ns s (.pat 0) 3
theorem wordsL_of {s : Bytes} {ws : List Wd} (h : s.length ≤ 4096) (hw : wat s 0 = .ok ws) : wordsL s = (ws, 0, 0) := by
  unfold wordsL; rw [if_neg (by omega), hw]
theorem wordsL_zero {s : Bytes} (h : ((wordsL s).2.1, (wordsL s).2.2) = ((0 : Int), (0 : Int))) : s.length ≤ 4096 ∧ wat s 0 = .ok (wordsL s).1 := by
  unfold wordsL at h ⊢
  split at h
  · cases h
  · next hl =>
    rw [if_neg hl]
    refine ⟨by omega, ?_⟩
    cases hw : wat s 0 with
    | ok l => rfl
    | error p => rw [hw] at h; simp at h
/-- Where there is no fault. -/
theorem form_ok {ns : List Bytes} {s : Bytes} {nt : NT} {want : Nat} {t : List Tk5} {er ea : Int} (h : form5 ns s nt want = (t, er, ea)) (h0 : (er, ea) = ((0 : Int), (0 : Int))) :
    checkE ns = 0 ∧ s.length ≤ 4096 ∧ ∃ ws, wat s 0 = .ok ws ∧ wordsL s = (ws, 0, 0) ∧ whole5 ns s.length nt ws = .ok t ∧ lookE t want = 0 := by
  unfold form5 at h
  injection h0 with h1 h2
  subst h1 h2
  split at h
  · next hc => injection h with _ h; injection h with h _; exact absurd h hc
  · next hc =>
    split at h
    · next hw => injection h with _ h; injection h with i j; exact absurd (by rw [i, j]) hw
    · next hw =>
      have hw' : ((wordsL s).2.1, (wordsL s).2.2) = ((0 : Int), (0 : Int)) := by simpa using hw
      obtain ⟨hl, hwat⟩ := wordsL_zero hw'
      refine ⟨by simpa using hc, hl, (wordsL s).1, hwat, wordsL_of hl hwat, ?_⟩
      split at h
      · next e p hr => injection h with i j; injection j with j k; subst j k; exact absurd hr (whole_no0 ns s.length nt _ _)
      · next t' hr =>
        split at h
        · next hk => injection h with _ h; injection h with h _; exact absurd (by omega) hk
        · next hk => injection h with h _; subst h; exact ⟨hr, by simpa using hk⟩
theorem form_of {ns : List Bytes} {s : Bytes} {nt : NT} {want : Nat} {ws : List Wd} {t : List Tk5} (hc : checkE ns = 0) (hl : s.length ≤ 4096) (hw : wat s 0 = .ok ws) (hr : whole5 ns s.length nt ws = .ok t) :
    form5 ns s nt want = if lookE t want ≠ 0 then ([], (lookE t want : Int), -1) else (t, 0, 0) := by
  unfold form5
  rw [if_neg (by simp [hc]), wordsL_of hl hw]
  simp only
  rw [if_neg (by simp), hr]
end Go.Proofs.YtfipefbaabkdeaaGreatDoor
namespace Go.Proofs.YtfipefbaabkdeaaGreatDoor

theorem split1 {W : List Wd} {x : Nat × ByteArray} {l : List (Nat × ByteArray)} (h : W.map same2 = x :: l) : ∃ w W', W = w :: W' ∧ same2 w = x ∧ W'.map same2 = l := by
  obtain ⟨w, W', h1, h2, h3⟩ := List.map_eq_cons_iff.1 h; exact ⟨w, W', h1, h2, h3⟩
theorem splitA {W A : List Wd} {l : List (Nat × ByteArray)} (h : W.map same2 = A.map same2 ++ l) : ∃ A' W', W = A' ++ W' ∧ A'.map same2 = A.map same2 ∧ W'.map same2 = l := by
  obtain ⟨A', W', h1, h2, h3⟩ := List.map_eq_append_iff.1 h; exact ⟨A', W', h1, h2, h3⟩
theorem same2_tx {w : Wd} {k : Nat} {s : Bytes} (h : same2 w = (k, mkB s)) : w.tx.toList = s := by
  unfold same2 at h; injection h with _ h; rw [h, mkB_toList]
theorem lex_of {s : Bytes} {ws : List Wd} (h : wat s 0 = .ok ws) : Lex s (ws.map same2) := ⟨ws, h, rfl⟩
/-- A formula in brackets is the formula. -/
theorem joins_one {ns : List Bytes} {a : Bytes} {t : List Tk5} (h : formL ns a = (t, 0, 0)) (hl : a.length ≤ 300) : formL ns (32 :: 32 :: 40 :: (a ++ [32, 41, 32])) = (t, 0, 0) := by
  obtain ⟨hc, _, A, hA, _, hr, hk⟩ := form_ok h rfl
  obtain ⟨W, hW, hm⟩ := lex_one (lex_of hA)
  obtain ⟨l, W1, rfl, hl1, hm⟩ := split1 hm
  obtain ⟨A', W2, rfl, hA', hm⟩ := splitA hm
  obtain ⟨r, W3, rfl, hr1, hm⟩ := split1 hm
  obtain rfl : W3 = [] := List.map_eq_nil_iff.1 hm
  have hj := join_one (fin' := ((32 :: 32 :: 40 :: (a ++ [32, 41, 32])).length : Nat)) hr hA' (same2_tx hl1) (same2_tx hr1)
  unfold formL
  rw [form_of hc (by simp; omega) hW hj, if_neg (by simp [hk])]
/-- The operators of two formulas. -/
def opsL : List (Bytes × Nat × Nat) := [([60, 45, 62], 14, 0), ([45, 62], 13, 1), ([124], 12, 2), ([38], 11, 3), ([85], 15, 4), ([82], 16, 4)]
theorem ops_facts : ∀ x ∈ opsL, x.1 ≠ [] ∧ x.1.headD 0 ≠ 32 ∧ 11 ≤ x.2.1 ∧ x.2.1 ≤ 16 ∧ x.2.2 ≤ 4 ∧ opOf x.2.2 x.1 = some x.2.1 ∧ x.1.length ≤ 3 := by decide
theorem ops_other : ∀ x ∈ opsL, ∀ i, i ≠ x.2.2 → opOf i x.1 = none := by
  intro x hx i hi
  simp only [opsL, List.mem_cons, List.not_mem_nil, or_false] at hx
  rcases hx with h | h | h | h | h | h <;> subst h <;> simp [opOf] at hi ⊢ <;> omega
theorem ops_first : ∀ x ∈ opsL, ∀ r, firstL (x.1 ++ 40 :: r) = x.1 := by
  intro x hx r
  simp only [opsL, List.mem_cons, List.not_mem_nil, or_false] at hx
  rcases hx with h | h | h | h | h | h <;> subst h
  · exact sign_stands (by decide) (by decide) _
  · exact sign_stands (by decide) (by decide) _
  · exact sign_stands (by decide) (by decide) _
  · exact sign_stands (by decide) (by decide) _
  · exact run_word (by simp) (by decide) (by decide) (runN_cons_f (by decide))
  · exact run_word (by simp) (by decide) (by decide) (runN_cons_f (by decide))
/-- Two in brackets with an operator between. -/
theorem joins_two {ns : List Bytes} {a b : Bytes} {t u : List Tk5} (h : formL ns a = (t, 0, 0)) (h' : formL ns b = (u, 0, 0)) (hl : a.length ≤ 300) (hl' : b.length ≤ 300) {x : Bytes × Nat × Nat} (hx : x ∈ opsL) :
    formL ns (40 :: (a ++ 41 :: (x.1 ++ 40 :: (b ++ [41])))) = (t ++ u ++ [(x.2.1, 0)], 0, 0) ∨ ∃ e : Int, (e = 3 ∨ e = 8) ∧ formL ns (40 :: (a ++ 41 :: (x.1 ++ 40 :: (b ++ [41])))) = ([], e, -1) := by
  obtain ⟨f1, f2, f3, f4, f5, f6, f7⟩ := ops_facts x hx
  obtain ⟨hc, _, A, hA, _, hr, hk⟩ := form_ok h rfl
  obtain ⟨_, _, B, hB, _, hr', hk'⟩ := form_ok h' rfl
  obtain ⟨W, hW, hm⟩ := lex_two (lex_of hA) (lex_of hB) f1 f2 (ops_first x hx)
  obtain ⟨l, W1, rfl, hl1, hm⟩ := split1 hm
  obtain ⟨A', W2, rfl, hA', hm⟩ := splitA hm
  obtain ⟨r, W3, rfl, hr1, hm⟩ := split1 hm
  obtain ⟨o, W4, rfl, ho1, hm⟩ := split1 hm
  obtain ⟨l2, W5, rfl, hl2, hm⟩ := split1 hm
  obtain ⟨B', W6, rfl, hB', hm⟩ := splitA hm
  obtain ⟨r2, W7, rfl, hr2, hm⟩ := split1 hm
  obtain rfl : W7 = [] := List.map_eq_nil_iff.1 hm
  have ho := same2_tx ho1
  have hj := join_two (fin' := ((40 :: (a ++ 41 :: (x.1 ++ 40 :: (b ++ [41])))).length : Nat)) hr hA' hr' hB' (same2_tx hl1) (same2_tx hr1) (same2_tx hl2) (same2_tx hr2) f5 (by rw [ho]; exact f6) (by rw [ho]; exact ops_other x hx)
  unfold formL
  rw [form_of hc (by simp; omega) hW hj]
  rcases look_two hk hk' f3 f4 with e | e | e
  · left; rw [if_neg (fun h => h e)]
  · right; rw [if_pos (by rw [e]; decide), e]; exact ⟨3, Or.inl rfl, rfl⟩
  · right; rw [if_pos (by rw [e]; decide), e]; exact ⟨8, Or.inr rfl, rfl⟩
/-- How a path's text begins. -/
theorem pat_head {ns : List Bytes} {fin : Int} : ∀ (n k : Nat) (ws : List Wd) (t : List Tk5) (r : List Wd), rd5 ns fin n (.pat k) ws = some (.ok (t, r)) → hdT ws = [123] ∨ hdT ws = [63] ∨ hdT ws = [40]
  | 0, _, _, _, _, h => by cases h
  | n + 1, k, ws, t, r, h => by
    unfold rd5 at h
    by_cases hk : 2 ≤ k
    · rw [if_pos hk] at h
      cases n with
      | zero => simp [rd5, andR] at h
      | succ n =>
        by_cases h1 : hdT ws = [123]
        · exact Or.inl h1
        · by_cases h2 : hdT ws = [63]
          · exact Or.inr (Or.inl h2)
          · by_cases h3 : hdT ws = [40]
            · exact Or.inr (Or.inr h3)
            · have : rd5 ns fin (n + 1) .bar ws = erR 150 (plc fin ws) := by
                conv => lhs; unfold rd5
                rw [if_neg h1, if_neg h2, if_neg h3]
              rw [this] at h
              simp [andR, erR] at h
    · rw [if_neg hk] at h
      cases hp : rd5 ns fin n (.pat (k + 1)) ws with
      | none => rw [hp] at h; simp [andR] at h
      | some a =>
        cases a with
        | error e => rw [hp] at h; simp [andR] at h
        | ok q => exact pat_head n (k + 1) ws q.1 q.2 hp
theorem path_text {ns : List Bytes} {s : Bytes} {A : List Wd} {t : List Tk5} {fin : Int} (hA : wat s 0 = .ok A) (hr : whole5 ns fin (.pat 0) A = .ok t) : s.take 2 ≠ [45, 62] ∧ s ≠ [] := by
  obtain ⟨n, hn⟩ := whole_ok.1 hr
  have hh := pat_head n 0 A t [] hn
  have hl := lex_of hA
  constructor
  · intro e
    obtain ⟨s', rfl⟩ : ∃ s', s = 45 :: 62 :: s' := by
      cases s with
      | nil => simp at e
      | cons a s => cases s with
        | nil => simp at e
        | cons b s => simp at e; obtain ⟨rfl, rfl⟩ := e; exact ⟨s, rfl⟩
    have hf : firstL (45 :: 62 :: s') = [45, 62] := rfl
    rcases hl.cases with ⟨e, _⟩ | ⟨s2, e, _⟩ | ⟨s2, l2, _, _, _, e, _⟩
    · cases e
    · injection e with e _; exact absurd e (by decide)
    · obtain ⟨w, W', rfl, hw, _⟩ := split1 e
      rw [hf] at hw
      have : hdT (w :: W') = [45, 62] := same2_tx hw
      rw [this] at hh
      rcases hh with h | h | h <;> cases h
  · rintro rfl
    have : A = [] := by
      have e : wat [] 0 = .ok [] := rfl
      rw [e] at hA; injection hA with hA; exact hA.symm
    subst this
    rcases hh with h | h | h <;> cases h
theorem look_same {a b : List Tk} : lookE (a ++ b ++ [(17, 0)]) 1 = 0 → lookE a 3 = 0 → lookE b 1 = 0 → lookE (a ++ b ++ [(18, 0)]) 1 = 0 := by
  intro h ha hb
  obtain ⟨_, c, hc, rfl, kc, _⟩ := lookE_zero.1 ha
  obtain ⟨_, d, hd, rfl, kd, _⟩ := lookE_zero.1 hb
  rw [kind_formula] at kd
  rw [kind_path] at kc
  have hw : ∀ op, op = 17 ∨ op = 18 → (Tr.bin (op, 0) c d).WF := fun op ho => by
    refine ⟨?_, ?_, hc, hd⟩
    · rcases ho with rfl | rfl <;> decide
    · unfold fitsP
      rw [if_pos (by simpa using ho)]
      simp at kd ⊢; exact ⟨kc, kd⟩
  have hlen : (c.flat ++ d.flat ++ [((18 : Nat), (0 : Nat))]).length = (c.flat ++ d.flat ++ [((17 : Nat), (0 : Nat))]).length := by simp
  unfold lookE at h ⊢
  rw [hlen]
  split at h
  · cases h
  · next hl =>
    rw [if_neg hl]
    have e17 : readP (c.flat ++ d.flat ++ [(17, 0)]) 0 [] = _ := read_one.2 ⟨Tr.bin (17, 0) c d, hw 17 (Or.inl rfl), rfl, rfl, rfl⟩
    have e18 : readP (c.flat ++ d.flat ++ [(18, 0)]) 0 [] = _ := read_one.2 ⟨Tr.bin (18, 0) c d, hw 18 (Or.inr rfl), rfl, rfl, rfl⟩
    rw [e17] at h
    rw [e18]
    exact h
/-- A path's text in its brackets, with something behind. -/
theorem paths_two {ns : List Bytes} {a : Bytes} {t : List Tk5} (h : pathL ns a = (t, 0, 0)) (hl : a.length ≤ 300) :
    (formL ns (60 :: (a ++ [62, 32, 116, 114, 117, 101])) = (t ++ [(0, 0)] ++ [(17, 0)], 0, 0) ∧ formL ns (91 :: 40 :: (a ++ [41, 93, 32, 116, 114, 117, 101])) = (t ++ [(0, 0)] ++ [(18, 0)], 0, 0)) ∨
    ∃ e : Int, (e = 3 ∨ e = 8) ∧ formL ns (60 :: (a ++ [62, 32, 116, 114, 117, 101])) = ([], e, -1) := by
  obtain ⟨hc, _, A, hA, _, hr, hk⟩ := form_ok h rfl
  obtain ⟨p1, p2⟩ := path_text hA hr
  have hd : formL ns (60 :: (a ++ [62, 32, 116, 114, 117, 101])) = if lookE (t ++ [(0, 0)] ++ [(17, 0)]) 1 ≠ 0 then ([], (lookE (t ++ [(0, 0)] ++ [(17, 0)]) 1 : Int), -1) else (t ++ [(0, 0)] ++ [(17, 0)], 0, 0) := by
    obtain ⟨W, hW, hm⟩ := lex_dia (lex_of hA) p1 p2
    obtain ⟨l, W1, rfl, hl1, hm⟩ := split1 hm
    obtain ⟨A', W2, rfl, hA', hm⟩ := splitA hm
    obtain ⟨r, W3, rfl, hr1, hm⟩ := split1 hm
    obtain ⟨v, W4, rfl, hv1, hm⟩ := split1 hm
    obtain rfl : W4 = [] := List.map_eq_nil_iff.1 hm
    unfold formL
    exact form_of hc (by simp; omega) hW (path_dia hr hA' (same2_tx hl1) (same2_tx hr1) (same2_tx hv1))
  have hb : formL ns (91 :: 40 :: (a ++ [41, 93, 32, 116, 114, 117, 101])) = if lookE (t ++ [(0, 0)] ++ [(18, 0)]) 1 ≠ 0 then ([], (lookE (t ++ [(0, 0)] ++ [(18, 0)]) 1 : Int), -1) else (t ++ [(0, 0)] ++ [(18, 0)], 0, 0) := by
    obtain ⟨W, hW, hm⟩ := lex_box (lex_of hA)
    obtain ⟨l, W1, rfl, hl1, hm⟩ := split1 hm
    obtain ⟨l2, W1, rfl, hl2, hm⟩ := split1 hm
    obtain ⟨A', W2, rfl, hA', hm⟩ := splitA hm
    obtain ⟨r2, W3, rfl, hr2, hm⟩ := split1 hm
    obtain ⟨r, W3, rfl, hr1, hm⟩ := split1 hm
    obtain ⟨v, W4, rfl, hv1, hm⟩ := split1 hm
    obtain rfl : W4 = [] := List.map_eq_nil_iff.1 hm
    unfold formL
    exact form_of hc (by simp; omega) hW (path_box hr hA' (same2_tx hl1) (same2_tx hl2) (same2_tx hr2) (same2_tx hr1) (same2_tx hv1))
  rcases look_modal (op := 17) hk look_true (Or.inl rfl) with e | e | e
  · left
    have e18 := look_same e hk look_true
    rw [hd, hb, if_neg (fun h => h e), if_neg (fun h => h e18)]
    exact ⟨rfl, rfl⟩
  · right; rw [hd, if_pos (by rw [e]; decide), e]; exact ⟨3, Or.inl rfl, rfl⟩
  · right; rw [hd, if_pos (by rw [e]; decide), e]; exact ⟨8, Or.inr rfl, rfl⟩
end Go.Proofs.YtfipefbaabkdeaaGreatDoor
