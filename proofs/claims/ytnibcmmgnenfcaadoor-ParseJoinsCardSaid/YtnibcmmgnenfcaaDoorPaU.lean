/- Plain: what Formula and Path answer; what stage 5's laws say of it. -/
import Derived.Test.YtnibcmmgnenfcaaDoorPaS
import Derived.Test.YtnibcmmgnenfcaaDoorPaT
namespace Go.Proofs.YtnibcmmgnenfcaaDoor

/-- What is answered: the tokens, the error, its place. -/
def form5 (ns : List Bytes) (s : Bytes) (nt : NT) (want : Nat) : List Tk5 × Int × Int :=
  if checkE ns ≠ 0 then ([], checkE ns, -1)
  else if ((wordsL s).2.1, (wordsL s).2.2) ≠ ((0 : Int), (0 : Int)) then ([], (wordsL s).2.1, (wordsL s).2.2)
  else match whole5 ns s.length nt (wordsL s).1 with
    | .error (e, p) => ([], e, p)
    | .ok t => if lookE t want ≠ 0 then ([], (lookE t want : Int), -1) else (t, 0, 0)
def formL (ns : List Bytes) (s : Bytes) := form5 ns s (.lev 0) 1
def pathL (ns : List Bytes) (s : Bytes) := form5 ns s (.pat 0) 3
theorem wordsL_of {s : Bytes} {ws : List Wd} (h : s.length ≤ 4096) (hw : wat s 0 = .ok ws) : wordsL s = (ws, 0, 0) := by
  unfold wordsL; rw [if_neg (by omega), hw]
theorem wordsL_zero {s : Bytes} (h : ((wordsL s).2.1, (wordsL s).2.2) = ((0 : Int), (0 : Int))) : s.length ≤ 4096 ∧ wat s 0 = .ok (wordsL s).1 := by
  unfold wordsL at h ⊢
  split at h
  · cases h
  · next hl =>
    rw [if_neg hl]
    refine ⟨by omega, ?_⟩
    cases hw : wat s 0 with
    | ok l => rfl
    | error p => rw [hw] at h; simp at h
/-- Where there is no fault. -/
theorem form_ok {ns : List Bytes} {s : Bytes} {nt : NT} {want : Nat} {t : List Tk5} {er ea : Int} (h : form5 ns s nt want = (t, er, ea)) (h0 : (er, ea) = ((0 : Int), (0 : Int))) :
    checkE ns = 0 ∧ s.length ≤ 4096 ∧ ∃ ws, wat s 0 = .ok ws ∧ wordsL s = (ws, 0, 0) ∧ whole5 ns s.length nt ws = .ok t ∧ lookE t want = 0 := by
  unfold form5 at h
  injection h0 with h1 h2
  subst h1 h2
  split at h
  · next hc => injection h with _ h; injection h with h _; exact absurd h hc
  · next hc =>
    split at h
    · next hw => injection h with _ h; injection h with i j; exact absurd (by rw [i, j]) hw
    · next hw =>
      have hw' : ((wordsL s).2.1, (wordsL s).2.2) = ((0 : Int), (0 : Int)) := by simpa using hw
      obtain ⟨hl, hwat⟩ := wordsL_zero hw'
      refine ⟨by simpa using hc, hl, (wordsL s).1, hwat, wordsL_of hl hwat, ?_⟩
      split at h
      · next e p hr => injection h with i j; injection j with j k; subst j k; exact absurd hr (whole_no0 ns s.length nt _ _)
      · next t' hr =>
        split at h
        · next hk => injection h with _ h; injection h with h _; exact absurd (by omega) hk
        · next hk => injection h with h _; subst h; exact ⟨hr, by simpa using hk⟩
theorem form_of {ns : List Bytes} {s : Bytes} {nt : NT} {want : Nat} {ws : List Wd} {t : List Tk5} (hc : checkE ns = 0) (hl : s.length ≤ 4096) (hw : wat s 0 = .ok ws) (hr : whole5 ns s.length nt ws = .ok t) :
    form5 ns s nt want = if lookE t want ≠ 0 then ([], (lookE t want : Int), -1) else (t, 0, 0) := by
  unfold form5
  rw [if_neg (by simp [hc]), wordsL_of hl hw]
  simp only
  rw [if_neg (by simp), hr]
end Go.Proofs.YtnibcmmgnenfcaaDoor
