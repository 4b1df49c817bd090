/- Rows of parts that a call has made; one part more; some parts more. -/
import Derived.Test.YtfgaieefejdkbaaWTok3
namespace Go.Proofs.Ytfgaieefejdkbaa
open Go.RowKit Go.Maps

def encP (ps : List Pt) : List Value := ps.flatMap fun p => (ptCells p).toList
theorem encP_cons (p : Pt) (ps : List Pt) : encP (p :: ps) = .bool p.path :: .bool p.plain :: .int .i64 (p.dep : Int) :: .int .i64 (p.frm : Int) :: encP ps := rfl
theorem encP_append (xs ys : List Pt) : encP (xs ++ ys) = encP xs ++ encP ys := by simp [encP]
theorem encP_len : ∀ ps : List Pt, (encP ps).length = ps.length * 4
  | [] => rfl
  | p :: ps => by rw [encP_cons]; simp [encP_len ps]; omega
theorem encP_get : ∀ (ps : List Pt) (k : Nat) (h : k < ps.length), (encP ps)[4 * k]? = some (.bool ps[k].path) ∧ (encP ps)[4 * k + 1]? = some (.bool ps[k].plain) ∧ (encP ps)[4 * k + 2]? = some (.int .i64 (ps[k].dep : Int)) ∧ (encP ps)[4 * k + 3]? = some (.int .i64 (ps[k].frm : Int))
  | [], k, h => absurd h (by simp)
  | p :: ps, 0, _ => ⟨rfl, rfl, rfl, rfl⟩
  | p :: ps, k + 1, h => by
    have := encP_get ps k (by simpa using h)
    rw [encP_cons, show 4 * (k + 1) = 4 * k + 1 + 1 + 1 + 1 by omega, show 4 * k + 1 + 1 + 1 + 1 + 1 = 4 * k + 1 + 1 + 1 + 1 + 1 from rfl, show 4 * k + 1 + 1 + 1 + 1 + 2 = 4 * k + 2 + 1 + 1 + 1 + 1 by omega, show 4 * k + 1 + 1 + 1 + 1 + 3 = 4 * k + 3 + 1 + 1 + 1 + 1 by omega, show 4 * k + 1 + 1 + 1 + 1 + 1 = (4 * k + 1) + 1 + 1 + 1 + 1 by omega]
    simpa using this
theorem encP_one (ps : List Pt) : ∀ u ∈ encP ps, u.oneCell' = true := by
  intro u hu
  unfold encP at hu
  obtain ⟨p, _, hc⟩ := List.mem_flatMap.1 hu
  simp [ptCells] at hc
  rcases hc with rfl | rfl | rfl | rfl <;> rfl
theorem Try.sizePart : (Try.prog.info? 65).map (·.size) = some 4 := by kernel_rfl
theorem Try.infoPart : (Try.prog.info? 65).map (fun i => (i.zero, i.size, i.bytes)) = some (some (.agg #[.bool false, .bool false, .int .i64 0, .int .i64 0]), 4, 24) := by kernel_rfl
theorem sizeOf_run4 {P : Program} {e : TypeId} (h : (P.info? e).map (·.size) = some 4) (w : World) : (sizeOf e).run P w = .ok 4 w := by
  cases hq : P.info? e with
  | none => simp [hq] at h
  | some i => simp [hq] at h; simp [sizeOf, typeInfo, hq, h]
theorem idx_of4 {P : Program} {T e : TypeId} (hu : P.underlying T = some (.slice e)) (hs : (P.info? e).map (·.size) = some 4) {g o cap n : Nat} (k : Nat) (w : World) (hk : k < n) :
    (Instr.indexAt T (.slice (some ⟨g, o, none⟩) n cap) (.int .i64 k)).run P w = .ok (.pointer (some ⟨g, o + 4 * k, none⟩)) w := by
  simp [Instr.indexAt, run_underlying hu, asIntOf, sizeOf_run4 hs, hk, Result.andThen, go_sem, add_plain, Nat.mul_comm]
/-- A row of parts, and its parts from lo on. -/
theorem own_ptSl {P : Program} {T e : TypeId} {w : World} {base n : Nat} {v : Value} {ps : List Pt} (h : w.ownsRow base e 4 v n (encP ps)) (hu : P.underlying T = some (.slice e)) (hs : (P.info? e).map (·.size) = some 4) :
    (v = .slice none 0 0 ∧ n = 0 ∧ ps = []) ∨ ∃ g cap, v = .slice (some ⟨g, 0, none⟩) n cap ∧ base ≤ g ∧ ∀ lo, lo ≤ n → PtSl P T w (some ⟨g, 4 * lo, none⟩) g (4 * lo) (n - lo) (cap - lo) (ps.drop lo) := by
  obtain ⟨hl, h⟩ := h
  rw [encP_len] at hl
  have hl' : ps.length = n := by omega
  rcases h with ⟨rfl, rfl⟩ | ⟨g, cap, cur, rfl, hg, hcell, hnc, hcm, hsz, htk⟩
  · exact Or.inl ⟨rfl, rfl, List.eq_nil_of_length_eq_zero hl'⟩
  · have hlt : g < w.heap.size := (Array.getElem?_eq_some_iff.1 hcell).1
    have key : ∀ j, j < n * 4 → w.cell? ⟨g, j, none⟩ = (encP ps)[j]? := fun j hj => by
      rw [← htk, List.getElem?_take, if_pos hj]
      simp [World.cell?, hcell]
    refine Or.inr ⟨g, cap, rfl, hg, fun lo hlo => ?_⟩
    have hget : ∀ k (h : k < (ps.drop lo).length), (ps.drop lo)[k] = ps[lo + k]'(by simp at h; omega) := fun k h => by simp
    have hof : ∀ k, 4 * lo + 4 * k = 4 * (lo + k) := fun k => by omega
    refine ⟨by simp; omega, by omega, by omega, fun m k w hk hm => idx_of4 hu hs k w hk, fun k hk => ?_, fun k hk => ?_, fun k hk => ?_, fun k hk => ?_, fun _ => hlt⟩ <;>
    · have hk' : lo + k < ps.length := by simp at hk; omega
      rw [hget k hk, hof, key _ (by omega)]
      first
      | exact (encP_get ps (lo + k) hk').1
      | exact (encP_get ps (lo + k) hk').2.1
      | exact (encP_get ps (lo + k) hk').2.2.1
      | exact (encP_get ps (lo + k) hk').2.2.2
theorem PtBlk.cells {w : World} {g : Nat} {t : TypeId} {p : Pt} (h : PtBlk w g t p) : ∀ j u, (ptCells p).toList[j]? = some u → w.cell? ((⟨g, 0, none⟩ : Addr).add j) = some u := by
  intro j u hj
  rw [add_plain, Nat.zero_add]
  unfold PtBlk at h
  simp only [World.cell?, h]
  simpa using hj
/-- One part more behind a list of the call's own. -/
theorem Try.append_pt {w : World} {ops : Array Oper} {rest : List Oper} {o : Oper} {a : Act} {Q : Exit → Act → World → Prop} (hgd : o.guard = none) (s x : Operand)
    (ho : o.op = .call { callee := .builtin .append, args := #[s, x], argTypes := #[61, 61] }) (base : Nat)
    (v : Value) (n : Nat) (ps : List Pt) (hs : a.eval s = v) (hown : w.ownsRow base 65 4 v n (encP ps)) (g : Nat) (p : Pt) (hx : a.eval x = .slice (some ⟨g, 0, none⟩) 1 1) (hB : PtBlk w g 65 p)
    (hn : n ≤ 1000000) (hbase : base ≤ w.heap.size)
    (h : ∀ v' w', w'.ownsRow base 65 4 v' (n + 1) (encP (ps ++ [p])) → w.grownBy w' v.ownBlock → wpList Try.prog ops Q rest (a.put o.dst v') w') : wpList Try.prog ops Q (o :: rest) a w := by
  obtain ⟨i, hi, hz0, hz1, hz2⟩ := info_parts Try.infoPart
  refine wpList_append_own w hgd s x 61 ho base 65 i _ 4 24 Try.underlying61 hi hz0 hz1 hz2 rfl (by decide) v n _ hs hown ⟨g, 0, none⟩ 1 1 (ptCells p).toList hx rfl hB.cells (fun u hu => encP_one [p] u (by simpa [encP] using hu)) (by unfold maxLen; omega) (by omega) hbase ?_
  intro v' w' h1 h2 _
  exact h v' w' (by rw [encP_append]; simpa [encP] using h1) h2
end Go.Proofs.Ytfgaieefejdkbaa
