/- Rows of parts that a call has made, cut and put behind one another. -/
import Derived.Test.YtfgaieefejdkbaaWTok4
import Derived.Test.YtfgaieefejdkbaaWTk
namespace Go.Proofs.Ytfgaieefejdkbaa
open Go.RowKit Go.Maps

theorem encP_take (ps : List Pt) (m : Nat) : (encP ps).take (m * 4) = encP (ps.take m) := by
  induction ps generalizing m with
  | nil => simp [encP]
  | cons p ps ih =>
    cases m with
    | zero => simp [encP]
    | succ m => rw [encP_cons, show (m + 1) * 4 = m * 4 + 1 + 1 + 1 + 1 by omega, List.take_succ_cons, List.take_succ_cons, List.take_succ_cons, List.take_succ_cons, ih, List.take_succ_cons, encP_cons]
theorem ptSl_zero {P : Program} {T : TypeId} {w : World} {a : Option Addr} {g o cap : Nat} (h : cap ≤ maxLen) : PtSl P T w a g o 0 cap [] :=
  ⟨rfl, Nat.zero_le _, h, fun n k w h1 h2 => absurd h1 (by omega), fun k h => absurd h (by simp), fun k h => absurd h (by simp), fun k h => absurd h (by simp), fun k h => absurd h (by simp), fun h => absurd h (by omega)⟩
/-- A row of parts of the call's own, from lo on, up to m. -/
theorem own_pt {P : Program} {T e : TypeId} {w : World} {base n : Nat} {v : Value} {ps : List Pt} (h : w.ownsRow base e 4 v n (encP ps)) (hu : P.underlying T = some (.slice e)) (hs : (P.info? e).map (·.size) = some 4) :
    ∃ a g cap, v = .slice a n cap ∧ ((a = none ∧ n = 0 ∧ cap = 0) ∨ a = some ⟨g, 0, none⟩) ∧ PtSl P T w a g 0 n cap ps ∧
      (∀ lo, lo ≤ n → ∃ a', (∀ w', (Instr.sliceAt T (.slice a n cap) (some (.int .i64 (lo : Int))) none none).run P w' = .ok (.slice a' (n - lo) (cap - lo)) w') ∧ PtSl P T w a' g (4 * lo) (n - lo) (cap - lo) (ps.drop lo)) ∧
      (∀ m, m ≤ n → (∀ w', (Instr.sliceAt T (.slice a n cap) none (some (.int .i64 (m : Int))) none).run P w' = .ok (.slice a m cap) w') ∧ ∀ j, j < m * 4 → w.cell? ⟨g, j, none⟩ = (encP (ps.take m))[j]?) := by
  have h' := h
  have hh := own_ptSl h hu hs
  rcases hh with ⟨rfl, rfl, rfl⟩ | ⟨g, cap, rfl, hg, hP⟩
  · refine ⟨none, 0, 0, rfl, Or.inl ⟨rfl, rfl, rfl⟩, ptSl_zero (Nat.zero_le _), fun lo hlo => ?_, fun m hm => ?_⟩
    · obtain rfl : lo = 0 := by omega
      refine ⟨none, fun w' => ?_, ptSl_zero (Nat.zero_le _)⟩
      simp [Instr.sliceAt, Instr.slice, run_underlying hu, sizeOf_run4 hs, go_sem]
    · obtain rfl : m = 0 := by omega
      refine ⟨fun w' => ?_, fun j hj => absurd hj (by omega)⟩
      simp [Instr.sliceAt, Instr.slice, run_underlying hu, sizeOf_run4 hs, go_sem]
  · obtain ⟨hl, h⟩ := h'
    rw [encP_len] at hl
    have h0 := hP 0 (Nat.zero_le _)
    rw [List.drop_zero, Nat.sub_zero, Nat.sub_zero, Nat.mul_zero] at h0
    refine ⟨some ⟨g, 0, none⟩, g, cap, rfl, Or.inr rfl, h0, fun lo hlo => ?_, fun m hm => ?_⟩
    · have hcap := h0.hcap
      by_cases hz : cap = lo
      · refine ⟨some ⟨g, 0, none⟩, fun w' => ?_, ?_⟩
        · have hz2 : cap - lo = 0 := by omega
          simp [Instr.sliceAt, Instr.slice, run_underlying hu, sizeOf_run4 hs, go_sem, hlo, hz2]
          exact fun h => absurd hz h
        · have e1 : n - lo = 0 := by omega
          rw [e1, List.drop_of_length_le (by omega)]
          exact ptSl_zero (by have := h0.bd; omega)
      · refine ⟨some ⟨g, 4 * lo, none⟩, fun w' => ?_, hP lo hlo⟩
        simp [Instr.sliceAt, Instr.slice, run_underlying hu, sizeOf_run4 hs, go_sem, hlo, add_plain, Nat.mul_comm]
        exact fun h => absurd h hz
    · refine ⟨fun w' => ?_, fun j hj => ?_⟩
      · have hcap := h0.hcap
        have hmc : m ≤ cap := by omega
        simp [Instr.sliceAt, Instr.slice, run_underlying hu, sizeOf_run4 hs, go_sem, hmc]
      · rcases h with ⟨hn, _⟩ | ⟨g', cap', cur, hv, _, hcell, hnc, hcm, hsz, htk⟩
        · exact absurd hn (by simp)
        · injection hv with hv _ _
          injection hv with hv
          injection hv with hv _ _
          subst hv
          rw [← encP_take, ← htk, List.take_take, Nat.min_eq_left (by omega), List.getElem?_take, if_pos hj]
          simp [World.cell?, hcell]
/-- One part more behind a list of the call's own, and where it lies. -/
theorem Try.append_pt2 {w : World} {ops : Array Oper} {rest : List Oper} {o : Oper} {a : Act} {Q : Exit → Act → World → Prop} (hgd : o.guard = none) (s x : Operand)
    (ho : o.op = .call { callee := .builtin .append, args := #[s, x], argTypes := #[61, 61] }) (base : Nat)
    (v : Value) (n : Nat) (ps : List Pt) (hs : a.eval s = v) (hown : w.ownsRow base 65 4 v n (encP ps)) (g : Nat) (p : Pt) (hx : a.eval x = .slice (some ⟨g, 0, none⟩) 1 1) (hB : PtBlk w g 65 p)
    (hn : n ≤ 1000000) (hbase : base ≤ w.heap.size)
    (h : ∀ v' w', w'.ownsRow base 65 4 v' (n + 1) (encP (ps ++ [p])) → w.grownBy w' v.ownBlock → (v'.ownBlock = v.ownBlock ∨ v'.ownBlock = some w.heap.size) → wpList Try.prog ops Q rest (a.put o.dst v') w') : wpList Try.prog ops Q (o :: rest) a w := by
  obtain ⟨i, hi, hz0, hz1, hz2⟩ := info_parts Try.infoPart
  refine wpList_append_own_at w hgd s x 61 ho base 65 i _ 4 24 Try.underlying61 hi hz0 hz1 hz2 rfl (by decide) v n _ hs hown ⟨g, 0, none⟩ 1 1 (ptCells p).toList hx rfl hB.cells (fun u hu => encP_one [p] u (by simpa [encP] using hu)) (by unfold maxLen; omega) (by omega) hbase ?_
  intro v' w' h1 h2 _ h3
  exact h v' w' (by rw [encP_append]; simpa [encP] using h1) h2 h3
/-- The first parts of a list behind nothing: a list of the call's own. -/
theorem Try.append_pts {w : World} {ops : Array Oper} {rest : List Oper} {o : Oper} {a : Act} {Q : Exit → Act → World → Prop} (hgd : o.guard = none) (s x : Operand)
    (ho : o.op = .call { callee := .builtin .append, args := #[s, x], argTypes := #[61, 61] }) (base : Nat)
    (hs : a.eval s = .slice none 0 0) (b : Option Addr) (g m cap : Nat) (ps : List Pt) (hx : a.eval x = .slice b m cap) (hb : (b = none ∧ m = 0 ∧ cap = 0) ∨ b = some ⟨g, 0, none⟩) (hl : ps.length = m)
    (hc : ∀ j, j < m * 4 → w.cell? ⟨g, j, none⟩ = (encP ps)[j]?)
    (hn : m ≤ 1000000) (hbase : base ≤ w.heap.size)
    (h : ∀ v' w', w'.ownsRow base 65 4 v' m (encP ps) → w.grownBy w' none → (v'.ownBlock = none ∨ v'.ownBlock = some w.heap.size) → wpList Try.prog ops Q rest (a.put o.dst v') w') : wpList Try.prog ops Q (o :: rest) a w := by
  obtain ⟨i, hi, hz0, hz1, hz2⟩ := info_parts Try.infoPart
  have hnil : w.ownsRow base 65 4 (.slice none 0 0) 0 [] := ⟨rfl, Or.inl ⟨rfl, rfl⟩⟩
  rcases hb with ⟨rfl, rfl, rfl⟩ | rfl
  · refine wpList_plain hgd fun _ hK => ?_
    obtain rfl := List.eq_nil_of_length_eq_zero hl
    have hrun := run_append_owned_none (P := Try.prog) w base 61 o.type 65 i 4 Try.underlying61 hi (.slice none 0 0) 0 [] hnil
    unfold Oper.wp execOp
    simp only [ho, resolve, invoke, builtin, Sem.run_bind, Sem.run_pure, Result.andThen_ok, List.map_toArray, List.map_cons, List.map_nil, hs, hx, hrun]
    exact hK _ _ (h _ w hnil (World.grownBy.refl _ _) (Or.inl rfl))
  · refine wpList_append_own_at w hgd s x 61 ho base 65 i _ 4 24 Try.underlying61 hi hz0 hz1 hz2 rfl (by decide) (.slice none 0 0) 0 [] hs hnil ⟨g, 0, none⟩ m cap (encP ps) hx (by rw [encP_len, hl]) (fun j u hj => ?_) (encP_one ps) (by unfold maxLen; omega) (by omega) hbase ?_
    · rw [add_plain, Nat.zero_add, hc j (by have := (List.getElem?_eq_some_iff.1 hj).1; rw [encP_len, hl] at this; exact this)]; exact hj
    · intro v' w' h1 h2 _ h3
      exact h v' w' (by simpa using h1) h2 h3
/-- What Read answers. -/
def ReadR (T : TypeId) (r : Option (List Pt × List Pt)) (w : World) (e : Ending) (w' : World) : Prop :=
  match r with
  | none => e = .returned (.tuple #[.slice none 0 0, .slice none 0 0, .bool false])
  | some x => ∃ v1 v2, e = .returned (.tuple #[v1, v2, .bool true]) ∧ w'.ownsRow w.heap.size T 4 v1 x.1.length (encP x.1) ∧ w'.ownsRow w.heap.size T 4 v2 x.2.length (encP x.2)
theorem takesN_op {op p n : Nat} (h : takesN (op, p) = some n) : op ≤ 23 := by
  unfold takesN at h
  split at h
  · cases h
  · next h2 => dsimp only at h2; omega
theorem PtBlk.new (w : World) (t : TypeId) (p : Pt) : PtBlk (w.alloc (.cells (ptCells p) t)) w.heap.size t p := (MapKept.heap_alloc w _).1
theorem PtBlk.grown {w w' : World} {g : Nat} {t : TypeId} {p : Pt} {row : Option Nat} (h : PtBlk w g t p) (hg : w.grownBy w' row) (hne : row ≠ some g) : PtBlk w' g t p := (hg.block g h.lt (fun e => hne e.symm)).trans h
end Go.Proofs.Ytfgaieefejdkbaa
