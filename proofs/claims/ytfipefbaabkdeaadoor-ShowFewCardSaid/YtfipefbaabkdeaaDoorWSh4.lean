/- Package show: what tell answers. -/
import Derived.Test.YtfipefbaabkdeaaDoorWSh3
namespace Go.Proofs.YtfipefbaabkdeaaDoor
open Go.RowKit Go.Maps

/-- One text more on a stack of the call's own. -/
theorem Tryd.wp_pc {w : World} {o : Oper} {a : Act} {K : Act → World → Prop} {Q : Exit → Act → World → Prop} (s x : Operand)
    (ho : o.op = .call { callee := .builtin .append, args := #[s, x], argTypes := #[50, 50] }) (base : Nat)
    (v : Value) (st : List Tx) (t : ByteArray) (m : Nat) (g : Nat) (hs : a.eval s = v) (hx : a.eval x = .slice (some ⟨g, 0, none⟩) 1 1) (hown : w.ownsRow base 57 2 v st.length (encX .u8 st))
    (hB : w.heap[g]? = some (.cells #[.string t, .int .u8 (m : Int)] 57 (0, 0))) (hn : st.length ≤ 10000000) (hbase : base ≤ w.heap.size)
    (h : ∀ v' w', w'.ownsRow base 57 2 v' (st.length + 1) (encX .u8 (st ++ [(t.toList, m)])) → w.grownBy w' v.ownBlock → K (a.put o.dst v') w') : o.wp Tryd.prog a w K Q := by
  obtain ⟨i, hi, hz0, hz1, hz2⟩ := info_parts Tryd.infoPc
  have e : encX .u8 [(t.toList, m)] = [.string t, .int .u8 (m : Int)] := by simp [encX, mkB_of]
  refine wp_append_own w s x 50 ho base 57 i _ 2 24 Tryd.underlying50 hi hz0 hz1 hz2 rfl (by decide) v st.length _ hs hown ⟨g, 0, none⟩ 1 1 [.string t, .int .u8 (m : Int)] hx rfl (fun j u hj => ?_) (by rw [← e]; exact encX_one _ _) (by unfold maxLen; omega) (by omega) hbase ?_
  · rw [add_plain, Nat.zero_add, cell_row hB]; simpa using hj
  · intro v' w' h1 h2 _
    exact h v' w' (by rw [encX_append, e]; exact h1) h2
theorem Tryd.stepg_pc {w : World} {ops : Array Oper} {o : Oper} {a : Act} {K : Act → World → Prop} {Q : Exit → Act → World → Prop} {E : Prop} (hw : Region.wanted o (yielded ops a.tmps) = true) (s x : Operand)
    (ho : o.op = .call { callee := .builtin .append, args := #[s, x], argTypes := #[50, 50] }) (base : Nat)
    (v : Value) (st : List Tx) (t : ByteArray) (m : Nat) (g : Nat) (hs : a.eval s = v) (hx : a.eval x = .slice (some ⟨g, 0, none⟩) 1 1) (hown : w.ownsRow base 57 2 v st.length (encX .u8 st))
    (hB : w.heap[g]? = some (.cells #[.string t, .int .u8 (m : Int)] 57 (0, 0))) (hn : st.length ≤ 10000000) (hbase : base ≤ w.heap.size)
    (h : ∀ v' w', w'.ownsRow base 57 2 v' (st.length + 1) (encX .u8 (st ++ [(t.toList, m)])) → w.grownBy w' v.ownBlock → K (a.put o.dst v') w') :
    if Region.wanted o (yielded ops a.tmps) = true then Oper.wp Tryd.prog o a w K Q else E := by
  rw [if_pos hw]
  exact Tryd.wp_pc s x ho base v st t m g hs hx hown hB hn hbase h
theorem sizeOf_run5 {P : Program} {e : TypeId} (h : (P.info? e).map (·.size) = some 5) (w : World) : (sizeOf e).run P w = .ok 5 w := by
  cases hq : P.info? e with
  | none => simp [hq] at h
  | some i => simp [hq] at h; simp [sizeOf, typeInfo, hq, h]
theorem Tryd.sizeOp : (Tryd.prog.info? 54).map (·.size) = some 5 := by kernel_rfl
theorem Tryd.idxOp {op : Nat} (h : op ≤ 23) (w : World) : (Instr.indexAt 55 (.pointer (some ⟨0, 0, none⟩)) (.int .u8 (op : Int))).run Tryd.prog w = .ok (.pointer (some ⟨0, 5 * op, none⟩)) w := by
  have h' : op < 24 := by omega
  simp [Instr.indexAt, run_underlying Tryd.underlying55, asIntOf, sizeOf_run5 Tryd.sizeOp, h', Result.andThen, go_sem, add_plain, Nat.mul_comm]
/-- What a row of texts is, is no token. -/
theorem own_ne {w : World} {base n g : Nat} {v : Value} {st : List Tx} {cs : Array Value} (h : w.ownsRow base 57 2 v n (encX .u8 st)) (hg : w.heap[g]? = some (.cells cs 39 (0, 0))) : v.ownBlock ≠ some g := by
  rcases h.2 with ⟨rfl, _⟩ | ⟨g', cap, cur, rfl, _, hc, _⟩
  · intro e; cases e
  · intro e
    injection e with e
    dsimp only at e
    subst e
    rw [hg] at hc
    injection hc with hc
    injection hc with _ hc _
    exact absurd hc (by decide)
end Go.Proofs.YtfipefbaabkdeaaDoor
