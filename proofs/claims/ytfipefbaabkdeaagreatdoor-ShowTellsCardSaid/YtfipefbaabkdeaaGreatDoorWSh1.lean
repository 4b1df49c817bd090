/- Stacks of texts in memory. -/
import Derived.Test.YtfipefbaabkdeaaGreatDoorShM
import Derived.Test.YtfipefbaabkdeaaGreatDoorWPbA
import Derived.WalkSmall
namespace Go.Proofs.YtfipefbaabkdeaaGreatDoor
open Go.RowKit Go.Maps

theorem mkB_app (a b : Bytes) : mkB a ++ mkB b = mkB (a ++ b) := toList_inj (by rw [ByteArray.toList_eq, ByteArray.data_append]; simp [mkB])
def encX (k : IntKind) (st : List Tx) : List Value := st.flatMap fun x => [.string (mkB x.1), .int k (x.2 : Int)]
theorem encX_cons (k : IntKind) (x : Tx) (st : List Tx) : encX k (x :: st) = .string (mkB x.1) :: .int k (x.2 : Int) :: encX k st := rfl
theorem encX_append (k : IntKind) (xs ys : List Tx) : encX k (xs ++ ys) = encX k xs ++ encX k ys := by simp [encX]
theorem encX_len (k : IntKind) : ∀ st : List Tx, (encX k st).length = st.length * 2
  | [] => rfl
  | x :: st => by rw [encX_cons]; simp [encX_len k st]; omega
theorem encX_get (k : IntKind) : ∀ (st : List Tx) (i : Nat) (h : i < st.length), (encX k st)[2 * i]? = some (.string (mkB st[i].1)) ∧ (encX k st)[2 * i + 1]? = some (.int k (st[i].2 : Int))
  | [], i, h => absurd h (by simp)
  | x :: st, 0, _ => ⟨rfl, rfl⟩
  | x :: st, i + 1, h => by
    have := encX_get k st i (by simpa using h)
    rw [encX_cons, show 2 * (i + 1) = 2 * i + 1 + 1 by omega, show 2 * i + 1 + 1 + 1 = (2 * i + 1) + 1 + 1 by omega]
    simpa using this
theorem encX_one (k : IntKind) (st : List Tx) : ∀ u ∈ encX k st, u.oneCell' = true := by
  intro u hu
  unfold encX at hu
  obtain ⟨c, _, hc⟩ := List.mem_flatMap.1 hu
  simp at hc
  rcases hc with rfl | rfl <;> rfl
theorem encX_take (k : IntKind) (st : List Tx) (m : Nat) : (encX k st).take (m * 2) = encX k (st.take m) := by
  induction st generalizing m with
  | nil => simp [encX]
  | cons x st ih =>
    cases m with
    | zero => simp [encX]
    | succ m => rw [encX_cons, show (m + 1) * 2 = m * 2 + 1 + 1 by omega, List.take_succ_cons, List.take_succ_cons, ih, List.take_succ_cons, encX_cons]
/-- A row of texts of the call's own: its cells. -/
theorem own_tx {k : IntKind} {w : World} {base e n : Nat} {v : Value} {st : List Tx} (h : w.ownsRow base e 2 v n (encX k st)) (hn : 0 < n) :
    ∃ g cap, v = .slice (some ⟨g, 0, none⟩) n cap ∧ base ≤ g ∧ n ≤ cap ∧ cap ≤ maxLen ∧ st.length = n ∧ ∀ i (h : i < st.length), w.cell? ⟨g, 2 * i, none⟩ = some (.string (mkB st[i].1)) ∧ w.cell? ⟨g, 2 * i + 1, none⟩ = some (.int k (st[i].2 : Int)) := by
  obtain ⟨hl, h⟩ := h
  rw [encX_len] at hl
  have hl' : st.length = n := by omega
  rcases h with ⟨_, rfl⟩ | ⟨g, cap, cur, rfl, hg, hcell, hnc, hcm, hsz, htk⟩
  · omega
  · have key : ∀ j, j < n * 2 → w.cell? ⟨g, j, none⟩ = (encX k st)[j]? := fun j hj => by
      rw [← htk, List.getElem?_take, if_pos hj]
      simp [World.cell?, hcell]
    refine ⟨g, cap, rfl, hg, hnc, hcm, hl', fun i hi => ⟨?_, ?_⟩⟩
    · rw [key _ (by omega)]; exact (encX_get k st i hi).1
    · rw [key _ (by omega)]; exact (encX_get k st i hi).2
theorem Tryz.sizePc : (Tryz.prog.info? 58).map (·.size) = some 2 := by kernel_rfl
theorem Tryz.infoPc : (Tryz.prog.info? 58).map (fun i => (i.zero, i.size, i.bytes)) = some (some (.agg #[.string ⟨#[]⟩, .int .u8 0]), 2, 24) := by kernel_rfl
/-- The stack's variable: its block, what lies on it. -/
structure StkAt (w : World) (b : Nat) (st : List Tx) : Prop where
  c : ∃ v, w.heap[b]? = some (.cells #[v] 51 (0, 0)) ∧ w.ownsRow (b + 1) 58 2 v st.length (encX .u8 st)
theorem StkAt.lt {w : World} {b : Nat} {st : List Tx} (h : StkAt w b st) : b < w.heap.size := by
  obtain ⟨v, h1, _⟩ := h.c; exact (Array.getElem?_eq_some_iff.1 h1).1
theorem StkAt.keep {w w' : World} {b : Nat} {st : List Tx} (h : StkAt w b st) (hk : ∀ k, b ≤ k → k < w.heap.size → w'.heap[k]? = w.heap[k]?) : StkAt w' b st := by
  have hl := h.lt
  obtain ⟨v, h1, h2⟩ := h.c
  exact ⟨v, (hk b (Nat.le_refl _) hl).trans h1, owns_keep h2 fun k hb hk' => hk k (by omega) hk'⟩
theorem StkAt.up {w w' : World} {b : Nat} {st : List Tx} (h : StkAt w b st) (hb : Below w.heap.size w w') : StkAt w' b st := h.keep fun k _ hk => hb.block k hk
/-- Cuts the top off. -/
theorem Tryz.sh_take (b least : Nat) (st : List Tx) (x : Tx) (w : World) (h : StkAt w b (st ++ [x])) (hx : x.1.length ≤ 10000000) (hn : st.length ≤ 1000000) :
    Calls Tryz.prog 26 #[.pointer (some ⟨b, 0, none⟩), .int .u8 (least : Int)] w fun e w' => e = .returned (.string (mkB (wiX x least))) ∧ StkAt w' b st ∧ w.grownBy w' (some b) := by
  have hlt := h.lt
  obtain ⟨v, hr, ho⟩ := h.c
  have HR : Hid (w.heap[b]? = some (.cells #[v] 51 (0, 0))) := hr
  rw [encX_append, List.length_append, List.length_singleton] at ho
  have HO : Hid (w.ownsRow (b + 1) 58 2 v (st.length + 1) (encX .u8 st ++ encX .u8 [x])) := ho
  have ho' := ho
  rw [← encX_append] at ho'
  obtain ⟨g, cap, rfl, hg, hnc, hcm, hl', hcs⟩ := own_tx ho' (by omega)
  have hc := hcs st.length (by simp)
  simp only [List.getElem_append_right (Nat.le_refl st.length), Nat.sub_self, List.getElem_cons_zero] at hc
  obtain ⟨c0, c1⟩ := hc
  have hgl := World.block_lt_of_cell? _ _ c0
  have cb : w.cell? ⟨b, 0, none⟩ = some (.slice (some ⟨g, 0, none⟩) (st.length + 1) cap) := cell_row hr 0
  have zb : w.frozen? ⟨b, 0, none⟩ = false := frozen_of_row w b 0 _ _ hr
  have hidx := fun w' => idx_of2 Tryz.underlying51 Tryz.sizePc (g := g) (cap := cap) (n := st.length + 1) st.length w' (by omega)
  have hsl : ∀ w', (Instr.sliceAt 51 (.slice (some ⟨g, 0, none⟩) (st.length + 1) cap) none (some (.int .i64 (st.length : Int))) none).run Tryz.prog w' = .ok (.slice (some ⟨g, 0, none⟩) st.length cap) w' := fun w' => by
    have hmc : st.length ≤ cap := by omega
    simp [Instr.sliceAt, Instr.slice, run_underlying Tryz.underlying51, sizeOf_run2 Tryz.sizePc, go_sem, hmc]
  clear h hr ho ho' hcs hl'
  have hxl := mkB_size x.1
  have HG : Hid (b + 1 ≤ g) := hg
  have s1 : ¬ 9223372036854775807 < 1 + (mkB x.1).size := by omega
  have s2 : ¬ 9223372036854775807 < 1 + (mkB x.1).size + 1 := by omega
  have hfin : StkAt ((w.setCell ⟨b, 0, none⟩ (.slice (some ⟨g, 0, none⟩) st.length cap)).alloc (.cells #[.string (mkB x.1), .int .u8 (x.2 : Int)] 58)).drew.drew b st ∧ w.grownBy ((w.setCell ⟨b, 0, none⟩ (.slice (some ⟨g, 0, none⟩) st.length cap)).alloc (.cells #[.string (mkB x.1), .int .u8 (x.2 : Int)] 58)).drew.drew (some b) := by
    have e1 : w.grownBy (w.setCell ⟨b, 0, none⟩ (.slice (some ⟨g, 0, none⟩) st.length cap)) (some b) := ⟨rfl, rfl, rfl, by simp, fun k hk hne => Below.heap_setCell _ _ _ _ (fun e => hne (congrArg some e))⟩
    have e2 : (w.setCell ⟨b, 0, none⟩ (.slice (some ⟨g, 0, none⟩) st.length cap)).grownBy ((w.setCell ⟨b, 0, none⟩ (.slice (some ⟨g, 0, none⟩) st.length cap)).alloc (.cells #[.string (mkB x.1), .int .u8 (x.2 : Int)] 58)).drew.drew (some b) := ⟨rfl, rfl, rfl, (below_new _ _).size, fun k hk _ => (below_new _ _).block k hk⟩
    have e3 := e1.trans e2
    refine ⟨⟨.slice (some ⟨g, 0, none⟩) st.length cap, ?_, ?_⟩, e3⟩
    · refine ((below_new _ _).block b (by simp; exact hlt)).trans ?_
      rw [heap_setCell_same w b 0 _ _ _ HR.out]; rfl
    · exact owns_keep (ownsRow_pop (by rw [encX_len]) HO.out) fun k hb hk => e3.block k hk (fun e => by injection e with e; omega)
  clear HO HR hcm hg
  by_cases hw : x.2 < least
  · have hw' : (x.2 : Int) < (least : Int) := by omega
    have hres : ({ data := #[40] } : ByteArray) ++ mkB x.1 ++ ({ data := #[41] } : ByteArray) = mkB (wiX x least) := by
      have e1 : ({ data := #[40] } : ByteArray) = mkB [40] := rfl
      have e2 : ({ data := #[41] } : ByteArray) = mkB [41] := rfl
      rw [e1, e2, mkB_app, mkB_app]; simp [wiX, wiT, hw]
    have HF : Hid (StkAt _ b st ∧ w.grownBy _ (some b)) := hfin
    clear hfin
    go_enter Tryz.func26, Tryz.ntmps26
    go_wp2
    go_region
    go_wp2
    go_region
    go_wp2
    go_ret
    exact ⟨by rw [← hres]; rfl, HF.out⟩
  · have hw' : ¬ (x.2 : Int) < (least : Int) := by omega
    have hres : wiX x least = x.1 := by simp [wiX, wiT, hw]
    rw [hres]
    clear hres
    have HF : Hid (StkAt _ b st ∧ w.grownBy _ (some b)) := hfin
    clear hfin
    go_enter Tryz.func26, Tryz.ntmps26
    go_wp2
    go_region
    go_wp2
    go_region
    go_wp2
    go_ret
    exact ⟨rfl, HF.out⟩
end Go.Proofs.YtfipefbaabkdeaaGreatDoor
