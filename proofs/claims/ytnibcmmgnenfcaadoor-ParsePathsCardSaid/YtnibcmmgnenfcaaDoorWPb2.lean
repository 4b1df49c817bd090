/- Package parse: passing by words, what stands behind an operator, what stands between brackets. -/
import Derived.Test.YtnibcmmgnenfcaaDoorWPb1
namespace Go.Proofs.YtnibcmmgnenfcaaDoor
open Go.RowKit Go.Maps

/-- What a part of the reader answers: it leaves the tokens behind T, or throws. -/
def PC (E : Ev) (T : List Tk5) (x : Except Er (List Tk5 × List Wd)) (e : Ending) (w' : World) : Prop :=
  match x with
    | .ok (t, r) => e = .returned (.tuple #[]) ∧ Cx E w' (E.ws.length - r.length) (T ++ t)
    | .error (er, pl) => e = .panicked (thrown er pl) ∧ E.w0.grownBy w' (some E.g)
/-- .. whatever number of calls does. -/
def Cont (E : Ev) (n : Nat) (nt : NT) (F : FuncId) : Prop :=
  ∀ (p : Nat) (T : List Tk5) (w : World) (x : Except Er (List Tk5 × List Wd)), Cx E w p T → rd5 (nms E.ss) E.fin n nt (E.ws.drop p) = some x → Calls Tryd.prog F #[.pointer (some ⟨E.g, 0, none⟩)] w (PC E T x)
theorem Cont.le {E : Ev} {n m : Nat} {nt : NT} {F : FuncId} (h : Cont E n nt F) (hm : m ≤ n) : Cont E m nt F := fun p T w x hC hx => h p T w x hC (rd5_mono hm _ hx)
/-- A function that is entered as it stands. -/
def Enters (F : FuncId) : Prop := ∀ args w, (callFunc F args).run Tryd.prog w = .ok (.enter F args) w
abbrev fnV (F : FuncId) (g : Nat) : Value := .func (.func F) #[.pointer (some ⟨g, 0, none⟩)] #[]
theorem drop_of {ws a r : List Wd} {n : Nat} (h : ws = a ++ r) (hn : a.length = n) : ws.drop n = r := by subst h hn; exact List.drop_left
/-- Words read so far, words left. -/
theorem drop_left {ws r : List Wd} {p : Nat} (hp : p ≤ ws.length) (h : r <:+ ws.drop p) : ws.drop (ws.length - r.length) = r ∧ p ≤ ws.length - r.length ∧ r.length ≤ ws.length := by
  obtain ⟨q, hq⟩ := h
  have h1 := congrArg List.length hq
  simp at h1
  refine ⟨?_, by omega, by omega⟩
  have h2 : ws = ws.take p ++ q ++ r := by rw [List.append_assoc, hq, List.take_append_drop]
  have h3 : (ws.take p ++ q).length = ws.length - r.length := by simp; omega
  exact drop_of h2 h3
/-- What is known of the rest. -/
theorem rest_of {ns : List Bytes} {fin : Int} {n : Nat} {nt : NT} {ws : List Wd} {p : Nat} {t : List Tk5} {r : List Wd} (hp : p ≤ ws.length) (h : rd5 ns fin n nt (ws.drop p) = some (.ok (t, r))) :
    ws.drop (ws.length - r.length) = r ∧ p ≤ ws.length - r.length ∧ r.length ≤ ws.length ∧ t.length + p ≤ ws.length - r.length := by
  have h1 := drop_left hp (rd5_suf _ _ _ _ _ t r h)
  have h2 := rd5_toks _ _ _ _ _ t r h
  rw [List.length_drop] at h2
  exact ⟨h1.1, h1.2.1, h1.2.2, by omega⟩
theorem hd_lt {ws : List Wd} {p : Nat} {s : Bytes} (h : hdT (ws.drop p) = s) (hs : s ≠ []) : p < ws.length := by
  rcases Nat.lt_or_ge p ws.length with hl | hl
  · exact hl
  · rw [List.drop_of_length_le hl] at h; exact absurd h.symm hs

theorem Tryd.ppass_any (E : Ev) (p : Nat) (T : List Tk5) (op : Nat) (hop : op < 256) (w : World) (h : Cx E w p T) (hlt : p < E.ws.length) :
    Calls Tryd.prog 81 #[.pointer (some ⟨E.g, 0, none⟩), .int .u8 (op : Int)] w fun e w' => e = .returned (.tuple #[]) ∧ Cx E w' (p + 1) (T ++ [(op, 0)]) := by
  obtain ⟨v, _, _, c2, _, _, _, z⟩ := h.c
  have z2 := z 2
  have hf := h.env.few
  have hP := Tryd.pput_any E (p + 1) T op hop _ (h.bump hlt) (by have := h.tle; omega)
  clear z h
  go_enter Tryd.func81, Tryd.ntmps81
  go_wp2_with fail
  refine hP.mono ?_
  rintro e w1 ⟨rfl, hC1⟩
  go_wp2
  go_end0
  exact ⟨rfl, hC1⟩
def addO (op : Nat) : Except Er (List Tk5 × List Wd) → Except Er (List Tk5 × List Wd)
  | .ok (t, r) => .ok (t ++ [(op, 0)], r)
  | .error e => .error e
set_option maxHeartbeats 1000000 in
theorem Tryd.pbehind_any (E : Ev) (n : Nat) (nt : NT) (F : FuncId) (hE : Enters F) (hF : Cont E n nt F) (p : Nat) (T : List Tk5) (op : Nat) (hop : op < 256) (w : World) (h : Cx E w p T) (hlt : p < E.ws.length)
    (x : Except Er (List Tk5 × List Wd)) (hx : rd5 (nms E.ss) E.fin n nt (E.ws.drop (p + 1)) = some x) :
    Calls Tryd.prog 30 #[.pointer (some ⟨E.g, 0, none⟩), fnV F E.g, .int .u8 (op : Int)] w (PC E T (addO op x)) := by
  obtain ⟨v, _, _, c2, _, _, _, z⟩ := h.c
  have z2 := z 2
  have hf := h.env.few
  have hN := hF (p + 1) T _ x (h.bump hlt) hx
  have ht := h.tle
  unfold Enters at hE
  clear z h hF
  cases x with
  | error er =>
    obtain ⟨e1, e2⟩ := er
    go_enter Tryd.func30, Tryd.ntmps30
    go_wp2_with fail
    refine hN.mono ?_
    rintro e w1 ⟨rfl, hg⟩
    exact ⟨rfl, rfl, hg⟩
  | ok q =>
    obtain ⟨t, r⟩ := q
    obtain ⟨_, h1, h2, h3⟩ := rest_of (by omega) hx
    have hP := fun w' (hC : Cx E w' (E.ws.length - r.length) (T ++ t)) => Tryd.pput_any E _ (T ++ t) op hop w' hC (by simp; omega)
    clear hx
    go_enter Tryd.func30, Tryd.ntmps30
    go_wp2_with fail
    refine hN.mono ?_
    rintro e w1 ⟨rfl, hC1⟩
    have hP1 := hP w1 hC1
    clear hP hC1 hN
    go_wp2_with fail
    refine hP1.mono ?_
    rintro e w2 ⟨rfl, hC2⟩
    go_wp2
    go_end0
    refine ⟨rfl, ?_⟩
    rw [← List.append_assoc]; exact hC2
/-- What must stand behind. -/
def wantX (fin : Int) (s : Bytes) : Except Er (List Tk5 × List Wd) → Except Er (List Tk5 × List Wd)
  | .ok (t, r) => if hdT r = s then .ok (t, r.tail) else .error (150, plc fin r)
  | .error e => .error e
set_option maxHeartbeats 1000000 in
theorem Tryd.pwithin_any (E : Ev) (n : Nat) (nt : NT) (F : FuncId) (hE : Enters F) (hF : Cont E n nt F) (p : Nat) (T : List Tk5) (s : ByteArray) (hs : s.toList ≠ []) (w : World) (h : Cx E w p T) (hlt : p < E.ws.length)
    (x : Except Er (List Tk5 × List Wd)) (hx : rd5 (nms E.ss) E.fin n nt (E.ws.drop (p + 1)) = some x) :
    Calls Tryd.prog 96 #[.pointer (some ⟨E.g, 0, none⟩), fnV F E.g, .string s] w (PC E T (wantX E.fin s.toList x)) := by
  obtain ⟨v, _, _, c2, _, _, _, z⟩ := h.c
  have z2 := z 2
  have hf := h.env.few
  have hN := hF (p + 1) T _ x (h.bump hlt) hx
  have ht := h.tle
  unfold Enters at hE
  clear z h hF
  cases x with
  | error er =>
    obtain ⟨e1, e2⟩ := er
    go_enter Tryd.func96, Tryd.ntmps96
    go_wp2_with fail
    refine hN.mono ?_
    rintro e w1 ⟨rfl, hg⟩
    exact ⟨rfl, rfl, hg⟩
  | ok q =>
    obtain ⟨t, r⟩ := q
    obtain ⟨hr, h1, h2, h3⟩ := rest_of (by omega) hx
    clear hx
    have hX := fun w' (hC : Cx E w' (E.ws.length - r.length) (T ++ t)) => Tryd.ptext_any E _ (T ++ t) w' hC
    have hRf := fun w' (hC : Cx E w' (E.ws.length - r.length) (T ++ t)) => Tryd.prefuse_any E _ (T ++ t) 150 w' hC
    rw [hr] at hX hRf
    by_cases he : hdT r = s.toList
    · have hb : ((mkB (hdT r)).toList == s.toList) = true := by rw [mkB_toList, he]; simp
      have hwx : wantX E.fin s.toList (.ok (t, r)) = .ok (t, r.tail) := by simp [wantX, he]
      have hrl : r.tail.length + 1 = r.length := tail_lt (fun e => hs (by rw [← he, e]; rfl))
      rw [hwx]
      generalize mkB (hdT r) = X at *
      clear he hs
      go_enter Tryd.func96, Tryd.ntmps96
      go_wp2_with fail
      refine hN.mono ?_
      rintro e w1 ⟨rfl, hC1⟩
      have hX1 := hX w1 hC1
      have HC1 : Hid (Cx E w1 (E.ws.length - r.length) (T ++ t)) := hC1
      clear hX hC1 hN hRf
      go_wp2_with fail
      refine hX1.mono ?_
      rintro e w2 ⟨rfl, k, rfl⟩
      have hC2 := HC1.out.drew k
      obtain ⟨v', _, _, c2', _, _, _, z'⟩ := hC2.c
      have z2' := z' 2
      have HC2 : Hid (Cx E (w1.drewN k) (E.ws.length - r.length) (T ++ t)) := hC2
      clear hC2 z' hX1
      go_wp2
      go_end0
      refine ⟨rfl, ?_⟩
      have := HC2.out.bump (by omega)
      rw [show E.ws.length - r.tail.length = E.ws.length - r.length + 1 by omega]
      exact this
    · have hb : ((mkB (hdT r)).toList == s.toList) = false := by rw [mkB_toList]; simpa using he
      have hwx : wantX E.fin s.toList (.ok (t, r)) = .error (150, plc E.fin r) := by simp [wantX, he]
      rw [hwx]
      generalize mkB (hdT r) = X at *
      clear he hs hwx
      go_enter Tryd.func96, Tryd.ntmps96
      go_wp2_with fail
      refine hN.mono ?_
      rintro e w1 ⟨rfl, hC1⟩
      have hX1 := hX w1 hC1
      have HC1 : Hid (Cx E w1 (E.ws.length - r.length) (T ++ t)) := hC1
      clear hX hC1 hN
      go_wp2_with fail
      refine hX1.mono ?_
      rintro e w2 ⟨rfl, k, rfl⟩
      have hR2 := hRf _ (HC1.out.drew k)
      have HC2 : Hid (Cx E (w1.drewN k) (E.ws.length - r.length) (T ++ t)) := HC1.out.drew k
      clear hRf hX1
      go_wp2_with fail
      refine hR2.mono ?_
      rintro e w3 ⟨rfl, hB⟩
      have hG := HC2.out.gr.trans (grown_of hB (some E.g))
      clear hR2 hB
      go_wp2
      exact ⟨rfl, rfl, hG⟩
end Go.Proofs.YtnibcmmgnenfcaaDoor
