/- Plain: formulas and paths read from words, by levels. Nothing of the program is named here. -/
import Derived.Test.YtnibcmmgnenfcaaDoorLexQ
namespace Go.Proofs.YtnibcmmgnenfcaaDoor

abbrev Tk5 := Nat × Nat
abbrev Er := Int × Int
inductive NT where
  | lev (k : Nat) | more (k : Nat) | una | ato | pat (k : Nat) | pmore (k : Nat) | bar
/-- The text of the word that stands next. -/
def hdT : List Wd → Bytes
  | [] => []
  | w :: _ => w.tx.toList
def plc (fin : Int) : List Wd → Int
  | [] => fin
  | w :: _ => w.pl
def opOf (k : Nat) (s : Bytes) : Option Nat :=
  if k = 0 ∧ s = [60, 45, 62] then some 14 else if k = 1 ∧ s = [45, 62] then some 13 else if k = 2 ∧ s = [124] then some 12
  else if k = 3 ∧ s = [38] then some 11 else if k = 4 ∧ s = [85] then some 15 else if k = 4 ∧ s = [82] then some 16 else none
def rightB (k : Nat) : Bool := decide (k = 1) || decide (k = 4)
def unOf (s : Bytes) : Option Nat :=
  if s = [33] then some 6 else if s = [88] then some 7 else if s = [78] then some 8 else if s = [70] then some 9 else if s = [71] then some 10 else none
def mdOf (s : Bytes) : Option (Bytes × Nat) := if s = [60] then some ([62], 17) else if s = [91] then some ([93], 18) else none
def atOf (s : Bytes) : Option Nat :=
  if s = [116, 114, 117, 101] then some 0 else if s = [102, 97, 108, 115, 101] then some 1 else if s = [108, 97, 115, 116] then some 3 else none
def pOf (k : Nat) (s : Bytes) : Option Nat := if k = 0 ∧ s = [43] then some 21 else if k = 1 ∧ s = [59] then some 22 else if 2 ≤ k ∧ s = [42] then some 23 else none
abbrev PR := Option (Except Er (List Tk5 × List Wd))
def andR (x : PR) (f : List Tk5 → List Wd → PR) : PR :=
  match x with
  | none => none
  | some (.error e) => some (.error e)
  | some (.ok (t, r)) => f t r
def okR (t : List Tk5) (r : List Wd) : PR := some (.ok (t, r))
def erR (e : Int) (p : Int) : PR := some (.error (e, p))
/-- What is read, with so many calls at the most; none: they do not do. -/
def rd5 (ns : List Bytes) (fin : Int) : Nat → NT → List Wd → PR
  | 0, _, _ => none
  | n + 1, .lev k, ws =>
    if 5 ≤ k then rd5 ns fin n .una ws
    else andR (rd5 ns fin n (.lev (k + 1)) ws) fun t r => andR (rd5 ns fin n (.more k) r) fun u r' => okR (t ++ u) r'
  | n + 1, .more k, ws =>
    match opOf k (hdT ws) with
    | none => okR [] ws
    | some op =>
      if rightB k then andR (rd5 ns fin n (.lev k) ws.tail) fun t r => okR (t ++ [(op, 0)]) r
      else andR (rd5 ns fin n (.lev (k + 1)) ws.tail) fun t r => andR (rd5 ns fin n (.more k) r) fun u r' => okR (t ++ [(op, 0)] ++ u) r'
  | n + 1, .una, ws =>
    match unOf (hdT ws) with
    | some op => andR (rd5 ns fin n .una ws.tail) fun t r => okR (t ++ [(op, 0)]) r
    | none =>
      match mdOf (hdT ws) with
      | some (c, op) => andR (rd5 ns fin n (.pat 0) ws.tail) fun t r => if hdT r = c then andR (rd5 ns fin n .una r.tail) fun u r' => okR (t ++ u ++ [(op, 0)]) r' else erR 150 (plc fin r)
      | none => rd5 ns fin n .ato ws
  | n + 1, .ato, ws =>
    match atOf (hdT ws) with
    | some op => okR [(op, 0)] ws.tail
    | none =>
      if hdT ws = [40] then andR (rd5 ns fin n (.lev 0) ws.tail) fun t r => if hdT r = [41] then okR t r.tail else erR 150 (plc fin r)
      else match ws with
        | [] => erR 150 fin
        | w :: r => if w.so = 2 then (if ns.contains w.tx.toList then okR [(2, ns.idxOf w.tx.toList)] r else erR 6 w.pl) else erR 150 w.pl
  | n + 1, .pat k, ws =>
    andR (rd5 ns fin n (if 2 ≤ k then .bar else .pat (k + 1)) ws) fun t r => andR (rd5 ns fin n (.pmore k) r) fun u r' => okR (t ++ u) r'
  | n + 1, .pmore k, ws =>
    match pOf k (hdT ws) with
    | none => okR [] ws
    | some op =>
      if 2 ≤ k then andR (rd5 ns fin n (.pmore k) ws.tail) fun u r => okR ((op, 0) :: u) r
      else andR (rd5 ns fin n (.pat (k + 1)) ws.tail) fun t r => andR (rd5 ns fin n (.pmore k) r) fun u r' => okR (t ++ [(op, 0)] ++ u) r'
  | n + 1, .bar, ws =>
    if hdT ws = [123] then andR (rd5 ns fin n (.lev 0) ws.tail) fun t r => if hdT r = [125] then okR (t ++ [(19, 0)]) r.tail else erR 150 (plc fin r)
    else if hdT ws = [63] then andR (rd5 ns fin n .una ws.tail) fun t r => okR (t ++ [(20, 0)]) r
    else if hdT ws = [40] then andR (rd5 ns fin n (.pat 0) ws.tail) fun t r => if hdT r = [41] then okR t r.tail else erR 150 (plc fin r)
    else erR 150 (plc fin ws)

/-! ### more calls tell the same -/
def LeR (x y : PR) : Prop := ∀ a, x = some a → y = some a
theorem LeR.refl (x : PR) : LeR x x := fun _ h => h
theorem LeR.none (y : PR) : LeR none y := fun _ h => by cases h
theorem andR_le {x y : PR} {f g : List Tk5 → List Wd → PR} (h : LeR x y) (hf : ∀ t r, LeR (f t r) (g t r)) : LeR (andR x f) (andR y g) := by
  intro a ha
  cases x with
  | none => simp [andR] at ha
  | some b =>
    rw [h b rfl]
    cases b with
    | error e => exact ha
    | ok q => exact hf q.1 q.2 a ha
theorem rd5_le (ns : List Bytes) (fin : Int) : ∀ (n : Nat) (nt : NT) (ws : List Wd), LeR (rd5 ns fin n nt ws) (rd5 ns fin (n + 1) nt ws)
  | 0, _, _ => LeR.none _
  | n + 1, nt, ws => by
    have ih := rd5_le ns fin n
    cases nt with
    | lev k =>
      conv => lhs; unfold rd5
      conv => rhs; unfold rd5
      split
      · exact ih _ _
      · exact andR_le (ih _ _) fun t r => andR_le (ih _ _) fun u r' => LeR.refl _
    | more k =>
      conv => lhs; unfold rd5
      conv => rhs; unfold rd5
      split
      · exact LeR.refl _
      · split
        · exact andR_le (ih _ _) fun t r => LeR.refl _
        · exact andR_le (ih _ _) fun t r => andR_le (ih _ _) fun u r' => LeR.refl _
    | una =>
      conv => lhs; unfold rd5
      conv => rhs; unfold rd5
      split
      · exact andR_le (ih _ _) fun t r => LeR.refl _
      · split
        · refine andR_le (ih _ _) fun t r => ?_
          split
          · exact andR_le (ih _ _) fun u r' => LeR.refl _
          · exact LeR.refl _
        · exact ih _ _
    | ato =>
      conv => lhs; unfold rd5
      conv => rhs; unfold rd5
      split
      · exact LeR.refl _
      · split
        · exact andR_le (ih _ _) fun t r => LeR.refl _
        · exact LeR.refl _
    | pat k =>
      conv => lhs; unfold rd5
      conv => rhs; unfold rd5
      exact andR_le (ih _ _) fun t r => andR_le (ih _ _) fun u r' => LeR.refl _
    | pmore k =>
      conv => lhs; unfold rd5
      conv => rhs; unfold rd5
      split
      · exact LeR.refl _
      · split
        · exact andR_le (ih _ _) fun t r => LeR.refl _
        · exact andR_le (ih _ _) fun t r => andR_le (ih _ _) fun u r' => LeR.refl _
    | bar =>
      conv => lhs; unfold rd5
      conv => rhs; unfold rd5
      split
      · exact andR_le (ih _ _) fun t r => LeR.refl _
      · split
        · exact andR_le (ih _ _) fun t r => LeR.refl _
        · split
          · exact andR_le (ih _ _) fun t r => LeR.refl _
          · exact LeR.refl _
theorem rd5_mono {ns : List Bytes} {fin : Int} {nt : NT} {ws : List Wd} {n m : Nat} (h : n ≤ m) : LeR (rd5 ns fin n nt ws) (rd5 ns fin m nt ws) := by
  induction h with
  | refl => exact LeR.refl _
  | step _ ih => exact fun a ha => rd5_le ns fin _ nt ws a (ih a ha)

/-! ### words of other places, and closing words behind them -/
def Closer (s : Bytes) : Prop := s = [41] ∨ s = [62] ∨ s = [93] ∨ s = [125]
theorem closer_op {s : Bytes} (h : Closer s) (k : Nat) : opOf k s = none := by
  rcases h with rfl | rfl | rfl | rfl <;> simp [opOf]
theorem closer_p {s : Bytes} (h : Closer s) (k : Nat) : pOf k s = none := by
  rcases h with rfl | rfl | rfl | rfl <;> simp [pOf]
theorem closer_un {s : Bytes} (h : Closer s) : unOf s = none ∧ mdOf s = none := by
  rcases h with rfl | rfl | rfl | rfl <;> decide
theorem nil_op (k : Nat) : opOf k [] = none := by simp [opOf]
theorem nil_p (k : Nat) : pOf k [] = none := by simp [pOf]
/-- Closing words, or none. -/
def Clo (X : List Wd) : Prop := X = [] ∨ Closer (hdT X)
/-- The words ws, at whatever places, and X behind them. -/
def Sim (X ws ws' : List Wd) : Prop := ws'.map same2 = ws.map same2 ++ X.map same2
theorem Sim.hd {X ws ws' : List Wd} (h : Sim X ws ws') : hdT ws' = if ws = [] then hdT X else hdT ws := by
  unfold Sim at h
  cases ws with
  | nil =>
    rw [if_pos rfl]
    cases ws' with
    | nil => cases X with
      | nil => rfl
      | cons x X => simp at h
    | cons y ys => cases X with
      | nil => simp at h
      | cons x X => simp [same2] at h; simp [hdT, h.1.2]
  | cons w ws =>
    rw [if_neg (by simp)]
    cases ws' with
    | nil => simp at h
    | cons y ys => simp [same2] at h; simp [hdT, h.1.2]
theorem Sim.tail {X ws ws' : List Wd} (h : Sim X ws ws') (hn : ws ≠ []) : Sim X ws.tail ws'.tail := by
  unfold Sim at h ⊢
  cases ws with
  | nil => exact absurd rfl hn
  | cons w ws => cases ws' with
    | nil => simp at h
    | cons y ys => simp at h ⊢; exact h.2
theorem hd_ne {ws : List Wd} {s : Bytes} (h : hdT ws = s) (hs : s ≠ []) : ws ≠ [] := by intro e; subst e; exact hs h.symm
def SimR (X : List Wd) (x y : PR) : Prop := ∀ t r, x = some (.ok (t, r)) → ∃ r', y = some (.ok (t, r')) ∧ Sim X r r'
theorem SimR.err {X : List Wd} {e p : Int} {y : PR} : SimR X (erR e p) y := fun t r h => by cases h
theorem SimR.none {X : List Wd} {y : PR} : SimR X none y := fun t r h => by cases h
theorem SimR.ok {X r r' : List Wd} {t : List Tk5} (h : Sim X r r') : SimR X (okR t r) (okR t r') := fun t' q h' => by
  simp only [okR, Option.some.injEq, Except.ok.injEq, Prod.mk.injEq] at h'
  obtain ⟨rfl, rfl⟩ := h'
  exact ⟨r', rfl, h⟩
theorem andR_sim {X : List Wd} {x y : PR} {f g : List Tk5 → List Wd → PR} (h : SimR X x y) (hf : ∀ t r r', Sim X r r' → SimR X (f t r) (g t r')) : SimR X (andR x f) (andR y g) := by
  intro t q ha
  cases x with
  | none => simp [andR] at ha
  | some b =>
    cases b with
    | error e => simp [andR] at ha
    | ok p =>
      obtain ⟨r', h1, h2⟩ := h p.1 p.2 rfl
      rw [h1]
      exact hf p.1 p.2 r' h2 t q ha
theorem tab_sim {α : Type} {T : Bytes → Option α} {X ws ws' : List Wd} (h : Sim X ws ws') (hX : Clo X) (h0 : T [] = none) (hc : ∀ s, Closer s → T s = none) : T (hdT ws') = T (hdT ws) := by
  rw [h.hd]
  by_cases e : ws = []
  · rw [if_pos e, e]
    show _ = T []
    rw [h0]
    rcases hX with rfl | hX
    · exact h0
    · exact hc _ hX
  · rw [if_neg e]
theorem tab_ne {α : Type} {T : Bytes → Option α} {ws : List Wd} {a : α} (h : T (hdT ws) = some a) (h0 : T [] = none) : ws ≠ [] := by
  intro e; subst e; rw [show hdT [] = [] from rfl, h0] at h; cases h
theorem want_sim {X r r' : List Wd} {c : Bytes} (hc : c ≠ []) (h : Sim X r r') {a b : PR} {e p e' p' : Int} (hab : r ≠ [] → SimR X a b) : SimR X (if hdT r = c then a else erR e p) (if hdT r' = c then b else erR e' p') := by
  by_cases hr : hdT r = c
  · have hn := hd_ne hr hc
    have : hdT r' = c := by rw [h.hd, if_neg hn, hr]
    rw [if_pos hr, if_pos this]; exact hab hn
  · rw [if_neg hr]; exact SimR.err
theorem rd5_sim (ns : List Bytes) (fin fin' : Int) {X : List Wd} (hX : Clo X) : ∀ (n : Nat) (nt : NT) (ws ws' : List Wd), Sim X ws ws' → SimR X (rd5 ns fin n nt ws) (rd5 ns fin' n nt ws')
  | 0, _, _, _, _ => SimR.none
  | n + 1, nt, ws, ws', hs => by
    have ih := rd5_sim ns fin fin' hX n
    cases nt with
    | lev k =>
      unfold rd5
      split
      · exact ih _ _ _ hs
      · exact andR_sim (ih _ _ _ hs) fun t r r' h => andR_sim (ih _ _ _ h) fun u q q' h' => SimR.ok h'
    | more k =>
      unfold rd5
      rw [tab_sim (T := opOf k) hs hX (nil_op k) (fun s h => closer_op h k)]
      split
      · exact SimR.ok hs
      · rename_i op hop
        have hn := tab_ne (T := opOf k) hop (nil_op k)
        split
        · exact andR_sim (ih _ _ _ (hs.tail hn)) fun t r r' h => SimR.ok h
        · exact andR_sim (ih _ _ _ (hs.tail hn)) fun t r r' h => andR_sim (ih _ _ _ h) fun u q q' h' => SimR.ok h'
    | una =>
      unfold rd5
      rw [tab_sim (T := unOf) hs hX rfl (fun s h => (closer_un h).1), tab_sim (T := mdOf) hs hX rfl (fun s h => (closer_un h).2)]
      split
      · rename_i op hop
        have hn := tab_ne (T := unOf) hop rfl
        exact andR_sim (ih _ _ _ (hs.tail hn)) fun t r r' h => SimR.ok h
      · split
        · rename_i c op hop
          have hn := tab_ne (T := mdOf) hop rfl
          have hc : c ≠ [] := by
            unfold mdOf at hop
            split at hop
            · injection hop with hop; injection hop with h1 _; rw [← h1]; simp
            · split at hop
              · injection hop with hop; injection hop with h1 _; rw [← h1]; simp
              · cases hop
          refine andR_sim (ih _ _ _ (hs.tail hn)) fun t r r' h => want_sim hc h fun hr => ?_
          exact andR_sim (ih _ _ _ (h.tail hr)) fun u q q' h' => SimR.ok h'
        · exact ih _ _ _ hs
    | ato =>
      by_cases hn : ws = []
      · subst hn
        intro t r h
        simp [rd5, hdT, atOf, erR] at h
      · unfold rd5
        have hh : hdT ws' = hdT ws := by rw [hs.hd, if_neg hn]
        rw [hh]
        split
        · exact SimR.ok (hs.tail hn)
        · split
          · exact andR_sim (ih _ _ _ (hs.tail hn)) fun t r r' h => want_sim (by simp) h fun hr => SimR.ok (h.tail hr)
          · cases ws with
            | nil => exact absurd rfl hn
            | cons w r =>
              cases ws' with
              | nil => unfold Sim at hs; simp at hs
              | cons w' r' =>
                have hs2 := hs
                unfold Sim at hs2
                simp [same2] at hs2
                obtain ⟨⟨e1, e2⟩, e3⟩ := hs2
                simp only [e1, e2]
                split
                · split
                  · exact SimR.ok (hs.tail hn)
                  · exact SimR.err
                · exact SimR.err
    | pat k =>
      unfold rd5
      exact andR_sim (ih _ _ _ hs) fun t r r' h => andR_sim (ih _ _ _ h) fun u q q' h' => SimR.ok h'
    | pmore k =>
      unfold rd5
      rw [tab_sim (T := pOf k) hs hX (nil_p k) (fun s h => closer_p h k)]
      split
      · exact SimR.ok hs
      · rename_i op hop
        have hn := tab_ne (T := pOf k) hop (nil_p k)
        split
        · exact andR_sim (ih _ _ _ (hs.tail hn)) fun t r r' h => SimR.ok h
        · exact andR_sim (ih _ _ _ (hs.tail hn)) fun t r r' h => andR_sim (ih _ _ _ h) fun u q q' h' => SimR.ok h'
    | bar =>
      by_cases hn : ws = []
      · subst hn
        intro t r h
        simp [rd5, hdT, erR] at h
      · unfold rd5
        have hh : hdT ws' = hdT ws := by rw [hs.hd, if_neg hn]
        rw [hh]
        split
        · exact andR_sim (ih _ _ _ (hs.tail hn)) fun t r r' h => want_sim (by simp) h fun hr => SimR.ok (h.tail hr)
        · split
          · exact andR_sim (ih _ _ _ (hs.tail hn)) fun t r r' h => SimR.ok h
          · split
            · exact andR_sim (ih _ _ _ (hs.tail hn)) fun t r r' h => want_sim (by simp) h fun hr => SimR.ok (h.tail hr)
            · exact SimR.err
end Go.Proofs.YtnibcmmgnenfcaaDoor
