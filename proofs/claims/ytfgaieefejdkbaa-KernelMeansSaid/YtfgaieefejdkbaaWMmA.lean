/- Package mean: the stack in memory; take. -/
import Derived.Test.YtfgaieefejdkbaaWMm9
namespace Go.Proofs.Ytfgaieefejdkbaa
open Go.RowKit Go.Maps

abbrev Sl := Option Addr × Nat × Nat
def slV (s : Sl) : Value := .slice s.1 s.2.1 s.2.2
/-- A part as it lies in memory: its values, its ends. -/
abbrev Mp := Sl × Sl
def encS (st : List Mp) : List Value := st.flatMap fun x => [slV x.1, slV x.2]
theorem encS_cons (x : Mp) (st : List Mp) : encS (x :: st) = slV x.1 :: slV x.2 :: encS st := rfl
theorem encS_append (xs ys : List Mp) : encS (xs ++ ys) = encS xs ++ encS ys := by simp [encS]
theorem encS_len : ∀ st : List Mp, (encS st).length = st.length * 2
  | [] => rfl
  | x :: st => by rw [encS_cons]; simp [encS_len st]; omega
theorem encS_get : ∀ (st : List Mp) (i : Nat) (h : i < st.length), (encS st)[2 * i]? = some (slV st[i].1) ∧ (encS st)[2 * i + 1]? = some (slV st[i].2)
  | [], i, h => absurd h (by simp)
  | x :: st, 0, _ => ⟨rfl, rfl⟩
  | x :: st, i + 1, h => by
    have := encS_get st i (by simpa using h)
    rw [encS_cons, show 2 * (i + 1) = 2 * i + 1 + 1 by omega, show 2 * i + 1 + 1 + 1 = (2 * i + 1) + 1 + 1 by omega]
    simpa using this
theorem encS_one (st : List Mp) : ∀ u ∈ encS st, u.oneCell' = true := by
  intro u hu
  unfold encS at hu
  obtain ⟨c, _, hc⟩ := List.mem_flatMap.1 hu
  simp at hc
  rcases hc with rfl | rfl <;> rfl
theorem owns_keep {w w' : World} {base e size n : Nat} {v : Value} {xs : List Value} (h : w.ownsRow base e size v n xs) (hk : ∀ k, base ≤ k → k < w.heap.size → w'.heap[k]? = w.heap[k]?) : w'.ownsRow base e size v n xs := by
  obtain ⟨hl, h⟩ := h
  refine ⟨hl, h.imp id ?_⟩
  rintro ⟨g, cap, cur, rfl, hg, hcell, r⟩
  exact ⟨g, cap, cur, rfl, hg, (hk g hg (Array.getElem?_eq_some_iff.1 hcell).1).trans hcell, r⟩
theorem own_sl {w : World} {base e size n : Nat} {v : Value} {xs : List Value} (h : w.ownsRow base e size v n xs) : ∃ a cap, v = .slice a n cap := by
  rcases h.2 with ⟨rfl, rfl⟩ | ⟨g, cap, cur, rfl, _⟩
  · exact ⟨none, 0, rfl⟩
  · exact ⟨_, cap, rfl⟩
theorem Try.sizePt : (Try.prog.info? 75).map (·.size) = some 2 := by kernel_rfl
theorem Try.infoPt : (Try.prog.info? 75).map (fun i => (i.zero, i.size, i.bytes)) = some (some (.agg #[.slice none 0 0, .slice none 0 0]), 2, 48) := by kernel_rfl
/-- The stack's variable: its block, what lies on it; all of it below B. -/
structure StkAt (w : World) (b B : Nat) (st : List Mp) : Prop where
  c : ∃ v, w.heap[b]? = some (.cells #[v] 107 (0, 0)) ∧ w.ownsRow (b + 1) 75 2 v st.length (encS st) ∧ ∀ k, v.ownBlock = some k → k < B
  lt : b < B
theorem StkAt.keep {w w' : World} {b B : Nat} {st : List Mp} (h : StkAt w b B st) (hk : ∀ k c t z, w.heap[k]? = some (.cells c t z) → (t = 107 ∨ t = 75) → b ≤ k → k < B → w'.heap[k]? = w.heap[k]?) : StkAt w' b B st := by
  obtain ⟨v, h1, h2, h3⟩ := h.c
  refine ⟨⟨v, (hk b _ _ _ h1 (Or.inl rfl) (Nat.le_refl _) h.lt).trans h1, ?_, h3⟩, h.lt⟩
  obtain ⟨hl, h⟩ := h2
  refine ⟨hl, h.imp id ?_⟩
  rintro ⟨g, cap, cur, rfl, hg, hcell, r⟩
  exact ⟨g, cap, cur, rfl, hg, (hk g _ _ _ hcell (Or.inr rfl) (by omega) (h3 g rfl)).trans hcell, r⟩
theorem StkAt.up {w w' : World} {b B : Nat} {st : List Mp} (h : StkAt w b B st) (hb : Below w.heap.size w w') : StkAt w' b B st := h.keep fun k _ _ _ hc _ _ _ => hb.block k (Array.getElem?_eq_some_iff.1 hc).1
theorem StkAt.mono {w : World} {b B B' : Nat} {st : List Mp} (h : StkAt w b B st) (hb : B ≤ B') : StkAt w b B' st := by
  obtain ⟨v, h1, h2, h3⟩ := h.c
  exact ⟨⟨v, h1, h2, fun k hk => Nat.lt_of_lt_of_le (h3 k hk) hb⟩, Nat.lt_of_lt_of_le h.lt hb⟩
theorem StkAt.size {w : World} {b B : Nat} {st : List Mp} (h : StkAt w b B st) : StkAt w b w.heap.size st := by
  obtain ⟨v, h1, h2, h3⟩ := h.c
  refine ⟨⟨v, h1, h2, fun k hk => ?_⟩, (Array.getElem?_eq_some_iff.1 h1).1⟩
  rcases h2.2 with ⟨rfl, _⟩ | ⟨g, cap, cur, rfl, _, hcell, _⟩
  · cases hk
  · injection hk with hk
    dsimp only at hk
    subst hk
    exact (Array.getElem?_eq_some_iff.1 hcell).1
theorem own_pc {w : World} {base e n : Nat} {v : Value} {st : List Mp} (h : w.ownsRow base e 2 v n (encS st)) (hn : 0 < n) :
    ∃ g cap, v = .slice (some ⟨g, 0, none⟩) n cap ∧ base ≤ g ∧ n ≤ cap ∧ cap ≤ maxLen ∧ st.length = n ∧ ∀ i (h : i < st.length), w.cell? ⟨g, 2 * i, none⟩ = some (slV st[i].1) ∧ w.cell? ⟨g, 2 * i + 1, none⟩ = some (slV st[i].2) := by
  obtain ⟨hl, h⟩ := h
  rw [encS_len] at hl
  have hl' : st.length = n := by omega
  rcases h with ⟨_, rfl⟩ | ⟨g, cap, cur, rfl, hg, hcell, hnc, hcm, hsz, htk⟩
  · omega
  · have key : ∀ j, j < n * 2 → w.cell? ⟨g, j, none⟩ = (encS st)[j]? := fun j hj => by
      rw [← htk, List.getElem?_take, if_pos hj]
      simp [World.cell?, hcell]
    refine ⟨g, cap, rfl, hg, hnc, hcm, hl', fun i hi => ⟨?_, ?_⟩⟩
    · rw [key _ (by omega)]; exact (encS_get st i hi).1
    · rw [key _ (by omega)]; exact (encS_get st i hi).2
set_option maxHeartbeats 1600000 in
theorem Try.mtake_any (b B : Nat) (st : List Mp) (x : Mp) (w : World) (h : StkAt w b B (st ++ [x])) (hn : st.length ≤ 1000000) :
    Calls Try.prog 64 #[.pointer (some ⟨b, 0, none⟩)] w fun e w' => e = .returned (.agg #[slV x.1, slV x.2]) ∧ StkAt w' b B st ∧ w.grownBy w' (some b) := by
  have hltB := h.lt
  obtain ⟨v, hr, ho, hB⟩ := h.c
  have hlt : b < w.heap.size := (Array.getElem?_eq_some_iff.1 hr).1
  have HR : Hid (w.heap[b]? = some (.cells #[v] 107 (0, 0))) := hr
  rw [encS_append, List.length_append, List.length_singleton] at ho
  have HO : Hid (w.ownsRow (b + 1) 75 2 v (st.length + 1) (encS st ++ encS [x])) := ho
  have ho' := ho
  rw [← encS_append] at ho'
  obtain ⟨g, cap, rfl, hg, hnc, hcm, hl', hcs⟩ := own_pc ho' (by omega)
  have hc := hcs st.length (by simp)
  simp only [List.getElem_append_right (Nat.le_refl st.length), Nat.sub_self, List.getElem_cons_zero] at hc
  obtain ⟨c0, c1⟩ := hc
  have hgl := World.block_lt_of_cell? _ _ c0
  have cb : w.cell? ⟨b, 0, none⟩ = some (.slice (some ⟨g, 0, none⟩) (st.length + 1) cap) := cell_row hr 0
  have zb : w.frozen? ⟨b, 0, none⟩ = false := frozen_of_row w b 0 _ _ hr
  have hidx := fun w' => idx_of2 Try.underlying107 Try.sizePt (g := g) (cap := cap) (n := st.length + 1) st.length w' (by omega)
  have hsl : ∀ w', (Instr.sliceAt 107 (.slice (some ⟨g, 0, none⟩) (st.length + 1) cap) none (some (.int .i64 (st.length : Int))) none).run Try.prog w' = .ok (.slice (some ⟨g, 0, none⟩) st.length cap) w' := fun w' => by
    have hmc : st.length ≤ cap := by omega
    simp [Instr.sliceAt, Instr.slice, run_underlying Try.underlying107, sizeOf_run2 Try.sizePt, go_sem, hmc]
  have HBg : Hid (g < B) := hB g rfl
  have HFIN : Hid (∀ w', w'.heap[b]? = some (.cells #[.slice (some ⟨g, 0, none⟩) st.length cap] 107 (0, 0)) → w.grownBy w' (some b) → StkAt w' b B st) := fun w' h1 h2 => by
    refine ⟨⟨_, h1, ?_, fun k hk => ?_⟩, hltB⟩
    · exact owns_keep (ownsRow_pop (by rw [encS_len]) HO.out) fun k hb hk => h2.block k hk (fun e => by injection e with e; omega)
    · injection hk with hk; dsimp only at hk; subst hk; exact HBg.out
  clear h hr ho ho' hcs hl' HO hB hcm hg hltB
  obtain ⟨⟨xa, xl, xc⟩, ⟨ya, yl, yc⟩⟩ := x
  unfold slV at *
  dsimp only at *
  go_enter Try.func64, Try.ntmps64
  go_wp2
  go_region
  go_wp2
  go_region
  go_wp2
  refine bodyPost_ret (v := .agg #[.slice xa xl xc, .slice ya yl yc]) (by simp [results, Try.results64, go_sem]) rfl ⟨rfl, ?_⟩
  have e1 : w.grownBy (w.setCell ⟨b, 0, none⟩ (.slice (some ⟨g, 0, none⟩) st.length cap)) (some b) := ⟨rfl, rfl, rfl, by simp, fun k hk hne => Below.heap_setCell _ _ _ _ (fun e => hne (congrArg some e))⟩
  have e2 := below_step (below_new (w.setCell ⟨b, 0, none⟩ (.slice (some ⟨g, 0, none⟩) st.length cap)) (.cells #[.slice xa xl xc, .slice ya yl yc] 75)) (below_new _ (.cells #[.slice xa xl xc, .slice ya yl yc] 75))
  have e3 := e1.trans (c := (((w.setCell ⟨b, 0, none⟩ (.slice (some ⟨g, 0, none⟩) st.length cap)).alloc (.cells #[.slice xa xl xc, .slice ya yl yc] 75)).alloc (.cells #[.slice xa xl xc, .slice ya yl yc] 75)).drew.drew) ⟨rfl, rfl, rfl, e2.size, fun k hk _ => e2.block k hk⟩
  refine ⟨HFIN.out _ ?_ e3, e3⟩
  refine (e2.block b (by simp; exact hlt)).trans ?_
  rw [heap_setCell_same w b 0 _ _ _ HR.out]; rfl
end Go.Proofs.Ytfgaieefejdkbaa
