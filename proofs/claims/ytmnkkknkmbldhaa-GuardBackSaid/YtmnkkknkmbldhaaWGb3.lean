/- Stage 14: GuardBack: the automaton's variable grows. -/
import Derived.Test.YtmnkkknkmbldhaaWGb1
namespace Go.Proofs.Ytmnkkknkmbldhaa
open Go.RowKit Go.Maps

/-- One bool more behind a list of the call's own. -/
theorem Try.append_bo {w : World} {ops : Array Oper} {rest : List Oper} {o : Oper} {a : Act} {Q : Exit → Act → World → Prop} (hgd : o.guard = none) (s x : Operand)
    (ho : o.op = .call { callee := .builtin .append, args := #[s, x], argTypes := #[46, 46] }) (base : Nat)
    (v : Value) (n : Nat) (bs : List Bool) (hs : a.eval s = v) (g' : Nat) (z : Bool) (hx : a.eval x = .slice (some ⟨g', 0, none⟩) 1 1) (hown : w.ownsRow base 4 1 v n (bs.map Value.bool)) (hc : w.cell? ⟨g', 0, none⟩ = some (.bool z))
    (hn : n + 1 ≤ 2000000) (hbase : base ≤ w.heap.size)
    (h : ∀ v' w', w'.ownsRow base 4 1 v' (n + 1) ((bs ++ [z]).map Value.bool) → w.grownBy w' v.ownBlock → wpList Try.prog ops Q rest (a.put o.dst v') w') : wpList Try.prog ops Q (o :: rest) a w := by
  have hI : (Try.prog.info? 4).map (fun i => (i.zero, i.size, i.bytes)) = some (some (.bool false), 1, 1) := by kernel_rfl
  obtain ⟨i, hi, hz0, hz1, hz2⟩ := info_parts hI
  refine wpList_append_own w hgd s x 46 ho base 4 i _ 1 1 Try.underlying46 hi hz0 hz1 hz2 rfl (by decide) v n _ hs hown ⟨g', 0, none⟩ 1 1 [.bool z] hx rfl ?_ (fun u hu => by simp at hu; subst hu; rfl) (by unfold maxLen; omega) (by omega) hbase ?_
  · intro j u hj
    match j with
    | 0 => simp at hj; rw [← hj, add_plain]; exact hc
    | j + 1 => simp at hj
  · intro v' w' h1 h2 _
    exact h v' w' (by rw [List.map_append]; exact h1) h2
/-- The guards: the references as far as there are any, then -1. -/
def gsL (R : List Int) (i : Nat) : List Int := (List.range i).map fun j => R.getD j (-1)
theorem gsL_len (R : List Int) (i : Nat) : (gsL R i).length = i := by simp [gsL]
theorem gsL_next (R : List Int) (i : Nat) : gsL R (i + 1) = gsL R i ++ [R.getD i (-1)] := by simp [gsL, List.range_succ]
/-- What the loop that fills the automaton keeps: w9 the world ahead of it. -/
structure AuL (w9 wx : World) (aub m : Nat) (R : List Int) (av gv : Value) (i : Nat) : Prop where
  blk : wx.heap[aub]? = some (.cells #[.int .i64 (m : Int), av, gv, .slice none 0 0] 48 (0, 0))
  ac : ∃ bs : List Bool, wx.ownsRow w9.heap.size 4 1 av i (bs.map Value.bool)
  gu : wx.ownsRow w9.heap.size 3 1 gv i ((gsL R i).map (Value.int .i64))
  fr : Fr w9 wx (fun b => b = aub) (fun b => b = aub)
theorem AuL.start {w9 : World} {aub m : Nat} {R : List Int} (h : w9.heap[aub]? = some (.cells #[.int .i64 (m : Int), .slice none 0 0, .slice none 0 0, .slice none 0 0] 48 (0, 0))) : AuL w9 w9 aub m R (.slice none 0 0) (.slice none 0 0) 0 :=
  ⟨h, ⟨[], ⟨rfl, Or.inl ⟨rfl, rfl⟩⟩⟩, ⟨rfl, Or.inl ⟨rfl, rfl⟩⟩, Fr.ofBelow (Below.refl _ _)⟩
theorem Fr.grown {w0 w w' : World} {F : Nat → Prop} {b : Option Nat} (h : Fr w0 w F F) (hg : w.grownBy w' b) (hb : ∀ q, b = some q → F q ∨ w0.heap.size ≤ q) : Fr w0 w' F F :=
  ⟨hg.os.trans h.os, hg.tape.trans h.tape, hg.output.trans h.output, Nat.le_trans h.size hg.size, fun k hk hf => (hg.block k (Nat.lt_of_lt_of_le hk h.size) (fun e => by
    rcases hb k e.symm with e | e
    · exact hf e
    · omega)).trans (h.keep k hk hf), fun k hk => .inl hk⟩
theorem Fr.set {w0 w : World} {F : Nat → Prop} (h : Fr w0 w F F) {p : Addr} (v : Value) (hp : F p.block ∨ w0.heap.size ≤ p.block) : Fr w0 (w.setCell p v) F F :=
  ⟨h.os, h.tape, h.output, by simpa using h.size, fun k hk hf => (Below.heap_setCell _ _ _ _ (fun e => by
    rcases hp with q | q
    · exact hf (e ▸ q)
    · omega)).trans (h.keep k hk hf), fun k hk => .inl hk⟩
theorem auB_ne {w : World} {aub : Nat} {cs : Array Value} {base e size k : Nat} {v : Value} {xs : List Value} (h : w.heap[aub]? = some (.cells cs 48 (0, 0))) (ho : w.ownsRow base e size v k xs) (he : e ≠ 48) : v.ownBlock ≠ some aub := fun hb => by
  obtain ⟨cs', hc⟩ := own_block ho hb
  rw [h] at hc; injection hc with hc; injection hc with _ hc _; exact he hc.symm
/-- A bool more is accepted. -/
theorem AuL.acc {w9 wx w2 : World} {aub m : Nat} {R : List Int} {av gv av' : Value} {i : Nat} {bs : List Bool} (h : AuL w9 wx aub m R av gv i) (hb : wx.ownsRow w9.heap.size 4 1 av i (bs.map Value.bool)) (o : Obj) (z : Bool) (hown : w2.ownsRow w9.heap.size 4 1 av' (i + 1) ((bs ++ [z]).map Value.bool)) (hg : (wx.alloc o).grownBy w2 av.ownBlock) :
    w2.heap[aub]? = some (.cells #[.int .i64 (m : Int), av, gv, .slice none 0 0] 48 (0, 0)) ∧
      (w2.setCell ⟨aub, 1, none⟩ av').heap[aub]? = some (.cells #[.int .i64 (m : Int), av', gv, .slice none 0 0] 48 (0, 0)) ∧
      (w2.setCell ⟨aub, 1, none⟩ av').ownsRow w9.heap.size 4 1 av' (i + 1) ((bs ++ [z]).map Value.bool) ∧ (w2.setCell ⟨aub, 1, none⟩ av').ownsRow w9.heap.size 3 1 gv i ((gsL R i).map (Value.int .i64)) ∧ Fr w9 (w2.setCell ⟨aub, 1, none⟩ av') (fun b => b = aub) (fun b => b = aub) := by
  have hb1 := below_new wx o
  have hba := owns_up hb hb1
  have hau := (hb1.block _ (Array.getElem?_eq_some_iff.1 h.blk).1).trans h.blk
  have h5 := (hg.block aub (Array.getElem?_eq_some_iff.1 hau).1 (fun e => auB_ne hau hba (by decide) e.symm)).trans hau
  have hg2 := own_grown (owns_up h.gu hb1) hg (fun b hb' e => own_apart hba (owns_up h.gu hb1) (by decide) b e hb')
  have hset : (w2.setCell ⟨aub, 1, none⟩ av').heap[aub]? = some (.cells #[.int .i64 (m : Int), av', gv, .slice none 0 0] 48 (0, 0)) := by
    rw [heap_setCell_same w2 aub 1 _ _ _ h5]; rfl
  refine ⟨h5, hset, own_farG hown fun b hb' => Below.heap_setCell _ _ _ _ (fun e => auB_ne h5 hown (by decide) (by dsimp only at e; rw [← e]; exact hb')), own_farG hg2 fun b hb' => Below.heap_setCell _ _ _ _ (fun e => auB_ne h5 hg2 (by decide) (by dsimp only at e; rw [← e]; exact hb')), ?_⟩
  exact (((h.fr.trans (Fr.ofBelow hb1)).grown hg (fun q e => .inr (own_ge hb q e))).set av' (.inl rfl))
/-- A guard more, -1. -/
theorem auL_gu {w9 wx w2 : World} {aub m : Nat} {gs : List Int} {av gv : Value} {i g7 c7 : Nat} {bs : List Bool} (hblk : wx.heap[aub]? = some (.cells #[.int .i64 (m : Int), av, gv, .slice none 0 0] 48 (0, 0))) (hb : wx.ownsRow w9.heap.size 4 1 av (i + 1) (bs.map Value.bool)) (hgu : wx.ownsRow w9.heap.size 3 1 gv i (gs.map (Value.int .i64))) (hfr : Fr w9 wx (fun b => b = aub) (fun b => b = aub)) (o : Obj) (z : Int)
    (hown : w2.ownsRow w9.heap.size 3 1 (.slice (some ⟨g7, 0, none⟩) (i + 1) c7) (i + 1) ((gs ++ [z]).map (Value.int .i64))) (hg : (wx.alloc o).grownBy w2 gv.ownBlock) :
    w2.heap[aub]? = some (.cells #[.int .i64 (m : Int), av, gv, .slice none 0 0] 48 (0, 0)) ∧
      (w2.setCell ⟨aub, 2, none⟩ (.slice (some ⟨g7, 0, none⟩) (i + 1) c7)).heap[aub]? = some (.cells #[.int .i64 (m : Int), av, .slice (some ⟨g7, 0, none⟩) (i + 1) c7, .slice none 0 0] 48 (0, 0)) ∧
      (w2.setCell ⟨aub, 2, none⟩ (.slice (some ⟨g7, 0, none⟩) (i + 1) c7)).ownsRow w9.heap.size 4 1 av (i + 1) (bs.map Value.bool) ∧ (w2.setCell ⟨aub, 2, none⟩ (.slice (some ⟨g7, 0, none⟩) (i + 1) c7)).ownsRow w9.heap.size 3 1 (.slice (some ⟨g7, 0, none⟩) (i + 1) c7) (i + 1) ((gs ++ [z]).map (Value.int .i64)) ∧ Fr w9 (w2.setCell ⟨aub, 2, none⟩ (.slice (some ⟨g7, 0, none⟩) (i + 1) c7)) (fun b => b = aub) (fun b => b = aub) := by
  have hb1 := below_new wx o
  have hga := owns_up hgu hb1
  have hau := (hb1.block _ (Array.getElem?_eq_some_iff.1 hblk).1).trans hblk
  have h5 := (hg.block aub (Array.getElem?_eq_some_iff.1 hau).1 (fun e => auB_ne hau hga (by decide) e.symm)).trans hau
  have hb2 := own_grown (owns_up hb hb1) hg (fun b hb' e => own_apart hga (owns_up hb hb1) (by decide) b e hb')
  have hset : (w2.setCell ⟨aub, 2, none⟩ (.slice (some ⟨g7, 0, none⟩) (i + 1) c7)).heap[aub]? = some (.cells #[.int .i64 (m : Int), av, .slice (some ⟨g7, 0, none⟩) (i + 1) c7, .slice none 0 0] 48 (0, 0)) := by
    rw [heap_setCell_same w2 aub 2 _ _ _ h5]; rfl
  refine ⟨h5, hset, own_farG hb2 fun b hb' => Below.heap_setCell _ _ _ _ (fun e => auB_ne h5 hb2 (by decide) (by dsimp only at e; rw [← e]; exact hb')), own_farG hown fun b hb' => Below.heap_setCell _ _ _ _ (fun e => auB_ne h5 hown (by decide) (by dsimp only at e; rw [← e]; exact hb')), ?_⟩
  exact (((hfr.trans (Fr.ofBelow hb1)).grown hg (fun q e => .inr (own_ge hgu q e))).set _ (.inl rfl))
/-- A cell of a row of numbers is set. -/
theorem own_setZ {w : World} {base n g c i : Nat} {zs : List Int} (h : w.ownsRow base 3 1 (.slice (some ⟨g, 0, none⟩) n c) n (zs.map (Value.int .i64))) (hi : i < n) (z : Int) :
    (w.setCell ⟨g, i, none⟩ (.int .i64 z)).ownsRow base 3 1 (.slice (some ⟨g, 0, none⟩) n c) n ((zs.set i z).map (Value.int .i64)) ∧ (∃ u, w.cell? ⟨g, i, none⟩ = some (.int .i64 u)) ∧ w.frozen? ⟨g, i, none⟩ = false := by
  obtain ⟨hl, h⟩ := h
  rcases h with ⟨e, _⟩ | ⟨g', cap, cur, e, hg, hcell, hnc, hcm, hsz, htk⟩
  · cases e
  · injection e with e1 _ e3
    injection e1 with e1
    injection e1 with e1 _ _
    subst e1 e3
    have hzl : zs.length = n := by simpa using hl
    refine ⟨⟨by simpa using hl, Or.inr ⟨g, c, cur.setIfInBounds i (.int .i64 z), rfl, hg, by rw [heap_setCell_same w g i _ _ _ hcell], hnc, hcm, by simpa using hsz, ?_⟩⟩, ⟨zs[i]'(by omega), ?_⟩, frozen_of_row w _ i _ _ hcell⟩
    · rw [Array.toList_setIfInBounds, List.take_set, htk, List.map_set]
    · rw [cell_row hcell]
      have : (cur.toList.take (n * 1))[i]? = some (.int .i64 (zs[i]'(by omega))) := by rw [htk]; simp [hzl, hi]
      rw [List.getElem?_take, if_pos (by omega)] at this
      simpa using this
theorem AuL.drew {w9 wx : World} {aub m : Nat} {R : List Int} {av gv : Value} {i : Nat} (h : AuL w9 wx aub m R av gv i) : AuL w9 wx.drew aub m R av gv i := ⟨h.blk, h.ac, h.gu, ⟨h.fr.os, h.fr.tape, h.fr.output, h.fr.size, h.fr.keep, h.fr.foot⟩⟩
/-- The guard is set to the reference. -/
theorem auL_set {w9 w5 : World} {aub m : Nat} {R : List Int} {av : Value} {j g7 c7 : Nat} {bs : List Bool} {z : Int} (hblk : w5.heap[aub]? = some (.cells #[.int .i64 (m : Int), av, .slice (some ⟨g7, 0, none⟩) (j + 1) c7, .slice none 0 0] 48 (0, 0))) (hb : w5.ownsRow w9.heap.size 4 1 av (j + 1) (bs.map Value.bool)) (hgu : w5.ownsRow w9.heap.size 3 1 (.slice (some ⟨g7, 0, none⟩) (j + 1) c7) (j + 1) ((gsL R j ++ [-1]).map (Value.int .i64))) (hfr : Fr w9 w5 (fun b => b = aub) (fun b => b = aub)) (hz : R.getD j (-1) = z) :
    AuL w9 (w5.setCell ⟨g7, j, none⟩ (.int .i64 z)) aub m R av (.slice (some ⟨g7, 0, none⟩) (j + 1) c7) (j + 1) := by
  have h1 := (own_setZ hgu (i := j) (by omega) z).1
  have e : (gsL R j ++ [-1]).set j z = gsL R (j + 1) := by
    rw [gsL_next, hz, List.set_append_right _ _ (by rw [gsL_len]; exact Nat.le_refl _), gsL_len]; simp
  rw [e] at h1
  have hne := auB_ne hblk hgu (by decide)
  have hne2 : g7 ≠ aub := fun e => hne (by rw [← e]; rfl)
  refine ⟨(Below.heap_setCell _ _ _ _ (by dsimp only; exact fun e => hne2 e.symm)).trans hblk, ⟨bs, own_farG hb fun b hb' => Below.heap_setCell _ _ _ _ (fun e => ?_)⟩, h1, hfr.set _ (.inr (own_ge hgu g7 rfl))⟩
  dsimp only at e
  subst e
  exact own_apart hb hgu (by decide) b hb' rfl
theorem auL_same {w9 w5 : World} {aub m : Nat} {R : List Int} {av : Value} {j g7 c7 : Nat} {bs : List Bool} (hblk : w5.heap[aub]? = some (.cells #[.int .i64 (m : Int), av, .slice (some ⟨g7, 0, none⟩) (j + 1) c7, .slice none 0 0] 48 (0, 0))) (hb : w5.ownsRow w9.heap.size 4 1 av (j + 1) (bs.map Value.bool)) (hgu : w5.ownsRow w9.heap.size 3 1 (.slice (some ⟨g7, 0, none⟩) (j + 1) c7) (j + 1) ((gsL R j ++ [-1]).map (Value.int .i64))) (hfr : Fr w9 w5 (fun b => b = aub) (fun b => b = aub)) (hz : R.length ≤ j) :
    AuL w9 w5 aub m R av (.slice (some ⟨g7, 0, none⟩) (j + 1) c7) (j + 1) := by
  refine ⟨hblk, ⟨bs, hb⟩, ?_, hfr⟩
  rw [gsL_next, List.getD_eq_getElem?_getD, List.getElem?_eq_none hz]
  exact hgu
end Go.Proofs.Ytmnkkknkmbldhaa
