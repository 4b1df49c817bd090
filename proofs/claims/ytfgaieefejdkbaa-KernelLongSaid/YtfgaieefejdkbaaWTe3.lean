/- Package term's read: tokens to parts, by a stack. -/
import Derived.Test.YtfgaieefejdkbaaWTe2
import Derived.Test.YtfgaieefejdkbaaWTk
namespace Go.Proofs.Ytfgaieefejdkbaa
open Go.RowKit Go.Maps

def encK (ks : List Kp) : List Value := ks.flatMap fun p => (kpCells p).toList
theorem encK_cons (p : Kp) (ks : List Kp) : encK (p :: ks) = .int .u8 (p.k : Int) :: .int .i64 (p.b : Int) :: .int .i64 (p.d : Int) :: encK ks := rfl
theorem encK_append (xs ys : List Kp) : encK (xs ++ ys) = encK xs ++ encK ys := by simp [encK]
theorem encK_len : ∀ ks : List Kp, (encK ks).length = ks.length * 3
  | [] => rfl
  | p :: ks => by rw [encK_cons]; simp [encK_len ks]; omega
theorem encK_get : ∀ (ks : List Kp) (k : Nat) (h : k < ks.length), (encK ks)[3 * k]? = some (.int .u8 (ks[k].k : Int)) ∧ (encK ks)[3 * k + 1]? = some (.int .i64 (ks[k].b : Int)) ∧ (encK ks)[3 * k + 2]? = some (.int .i64 (ks[k].d : Int))
  | [], k, h => absurd h (by simp)
  | p :: ks, 0, _ => ⟨rfl, rfl, rfl⟩
  | p :: ks, k + 1, h => by
    have := encK_get ks k (by simpa using h)
    rw [encK_cons, show 3 * (k + 1) + 2 = (3 * k + 2) + 1 + 1 + 1 by omega, show 3 * (k + 1) + 1 = (3 * k + 1) + 1 + 1 + 1 by omega, show 3 * (k + 1) = 3 * k + 1 + 1 + 1 by omega]
    simpa using this
theorem encK_one (ks : List Kp) : ∀ u ∈ encK ks, u.oneCell' = true := by
  intro u hu
  unfold encK at hu
  obtain ⟨p, _, hc⟩ := List.mem_flatMap.1 hu
  simp [kpCells] at hc
  rcases hc with rfl | rfl | rfl <;> rfl
theorem encK_take (ks : List Kp) (m : Nat) : (encK ks).take (m * 3) = encK (ks.take m) := by
  induction ks generalizing m with
  | nil => simp [encK]
  | cons p ks ih =>
    cases m with
    | zero => simp [encK]
    | succ m => rw [encK_cons, show (m + 1) * 3 = m * 3 + 1 + 1 + 1 by omega, List.take_succ_cons, List.take_succ_cons, List.take_succ_cons, ih, List.take_succ_cons, encK_cons]
theorem Try.sizeKp : (Try.prog.info? 104).map (·.size) = some 3 := by kernel_rfl
theorem Try.infoKp : (Try.prog.info? 104).map (fun i => (i.zero, i.size, i.bytes)) = some (some (.agg #[.int .u8 0, .int .i64 0, .int .i64 0]), 3, 24) := by kernel_rfl
theorem idx_of3 {P : Program} {T e : TypeId} (hu : P.underlying T = some (.slice e)) (hs : (P.info? e).map (·.size) = some 3) {g cap n : Nat} (k : Nat) (w : World) (hk : k < n) :
    (Instr.indexAt T (.slice (some ⟨g, 0, none⟩) n cap) (.int .i64 k)).run P w = .ok (.pointer (some ⟨g, 3 * k, none⟩)) w := by
  simp [Instr.indexAt, run_underlying hu, asIntOf, sizeOf_run3 hs, hk, Result.andThen, go_sem, add_plain, Nat.mul_comm]
/-- A row of parts of the call's own, as the walk reads it. -/
theorem own_kp {P : Program} {T e : TypeId} {w : World} {base n : Nat} {v : Value} {ks : List Kp} (h : w.ownsRow base e 3 v n (encK ks)) (hu : P.underlying T = some (.slice e)) (hs : (P.info? e).map (·.size) = some 3) :
    ∃ a g cap, v = .slice a n cap ∧ KpSl P T w a g n cap ks ∧ ∀ m, m ≤ n → w.ownsRow base e 3 (.slice a m cap) m (encK (ks.take m)) ∧ (Value.slice a m cap).ownBlock = v.ownBlock := by
  have h' := h
  obtain ⟨hl, h⟩ := h
  rw [encK_len] at hl
  have hl' : ks.length = n := by omega
  rcases h with ⟨rfl, rfl⟩ | ⟨g, cap, cur, rfl, hg, hcell, hnc, hcm, hsz, htk⟩
  · obtain rfl := List.eq_nil_of_length_eq_zero hl'
    refine ⟨none, 0, 0, rfl, ⟨rfl, Nat.le_refl _, Nat.zero_le _, Or.inl ⟨rfl, rfl⟩, fun n k w h1 h2 => absurd h1 (by omega), fun k h => absurd h (by simp), fun k h => absurd h (by simp), fun k h => absurd h (by simp), fun h => absurd h (by omega)⟩, fun m hm => ?_⟩
    obtain rfl : m = 0 := by omega
    exact ⟨h', rfl⟩
  · have hlt : g < w.heap.size := (Array.getElem?_eq_some_iff.1 hcell).1
    have key : ∀ j, j < n * 3 → w.cell? ⟨g, j, none⟩ = (encK ks)[j]? := fun j hj => by
      rw [← htk, List.getElem?_take, if_pos hj]
      simp [World.cell?, hcell]
    refine ⟨some ⟨g, 0, none⟩, g, cap, rfl, ⟨hl', hnc, hcm, Or.inr rfl, fun m k w hk hm => idx_of3 hu hs k w hk, fun k hk => ?_, fun k hk => ?_, fun k hk => ?_, fun _ => hlt⟩, fun m hm => ?_⟩
    · rw [key _ (by omega)]; exact (encK_get ks k hk).1
    · rw [key _ (by omega)]; exact (encK_get ks k hk).2.1
    · rw [key _ (by omega)]; exact (encK_get ks k hk).2.2
    · refine ⟨⟨by rw [encK_len, List.length_take]; omega, Or.inr ⟨g, cap, cur, rfl, hg, hcell, by omega, hcm, hsz, ?_⟩⟩, rfl⟩
      rw [← encK_take, ← htk, List.take_take, Nat.min_eq_left (by omega)]
theorem KpBlk.cells {w : World} {g : Nat} {t : TypeId} {p : Kp} (h : KpBlk w g t p) : ∀ j u, (kpCells p).toList[j]? = some u → w.cell? ((⟨g, 0, none⟩ : Addr).add j) = some u := by
  intro j u hj
  rw [add_plain, Nat.zero_add]
  unfold KpBlk at h
  simp only [World.cell?, h]
  simpa using hj
theorem KpBlk.grown {w w' : World} {g : Nat} {t : TypeId} {p : Kp} {row : Option Nat} (h : KpBlk w g t p) (hg : w.grownBy w' row) (hne : row ≠ some g) : KpBlk w' g t p := (hg.block g h.lt (fun e => hne e.symm)).trans h
/-- One part more behind a list of the call's own. -/
theorem Try.append_kp {w : World} {ops : Array Oper} {rest : List Oper} {o : Oper} {a : Act} {Q : Exit → Act → World → Prop} (hgd : o.guard = none) (s x : Operand)
    (ho : o.op = .call { callee := .builtin .append, args := #[s, x], argTypes := #[68, 68] }) (base : Nat)
    (v : Value) (n : Nat) (ks : List Kp) (hs : a.eval s = v) (hown : w.ownsRow base 104 3 v n (encK ks)) (g : Nat) (p : Kp) (hx : a.eval x = .slice (some ⟨g, 0, none⟩) 1 1) (hB : KpBlk w g 104 p)
    (hn : n ≤ 1000000) (hbase : base ≤ w.heap.size)
    (h : ∀ v' w', w'.ownsRow base 104 3 v' (n + 1) (encK (ks ++ [p])) → w.grownBy w' v.ownBlock → (v'.ownBlock = v.ownBlock ∨ v'.ownBlock = some w.heap.size) → wpList Try.prog ops Q rest (a.put o.dst v') w') : wpList Try.prog ops Q (o :: rest) a w := by
  obtain ⟨i, hi, hz0, hz1, hz2⟩ := info_parts Try.infoKp
  refine wpList_append_own_at w hgd s x 68 ho base 104 i _ 3 24 Try.underlying68 hi hz0 hz1 hz2 rfl (by decide) v n _ hs hown ⟨g, 0, none⟩ 1 1 (kpCells p).toList hx rfl hB.cells (fun u hu => encK_one [p] u (by simpa [encK] using hu)) (by unfold maxLen; omega) (by omega) hbase ?_
  intro v' w' h1 h2 _ h3
  exact h v' w' (by rw [encK_append]; simpa [encK] using h1) h2 h3

theorem takeK_spec (op p i : Nat) (st : List Pt) (hs : ∀ x ∈ st, Sane x) : takeK op p i (st.map kp) = match takesN (op, p) with | none => none | some n => if st.length < n then none else if fitsP op (st.drop (st.length - n)) then some (kp (putP (op, p) (st.drop (st.length - n)) i)) else none := by
  unfold takeK
  cases hm : mayB op p with
  | false => rw [takesN_mayB, hm]; rfl
  | true =>
    have ht : takesN (op, p) = some (takesK op).length := by rw [takesN_mayB, hm]; rfl
    rw [ht]
    simp only [if_true, List.length_map]
    by_cases hl : st.length < (takesK op).length
    · rw [if_pos hl, if_pos hl]
    · rw [if_neg hl, if_neg hl, ← List.map_drop]
      have hdl : (st.drop (st.length - (takesK op).length)).length = (takesK op).length := by simp; omega
      have hds : ∀ x ∈ st.drop (st.length - (takesK op).length), Sane x := fun x hx => hs x (List.mem_of_mem_drop hx)
      rw [fitsK_fitsP ht hdl hds]
      by_cases hf : fitsP op (st.drop (st.length - (takesK op).length)) = true
      · rw [if_pos hf, if_pos hf, madeK_putP ht hdl hf hds]
      · rw [if_neg hf, if_neg hf]
/-- One round of the reading, plain. -/
theorem readP_step {t : Tk} {r : List Tk} {i : Nat} {st : List Pt} : readP (t :: r) i st = match takesN t with | none => none | some n => if st.length < n then none else if fitsP t.1 (st.drop (st.length - n)) then (readP r (i + 1) (st.take (st.length - n) ++ [putP t (st.drop (st.length - n)) i])).map (fun x => (putP t (st.drop (st.length - n)) i :: x.1, x.2)) else none := by
  rw [readP]; cases takesN t <;> rfl
theorem putP_dep {t : Tk} {a : List Pt} {i k : Nat} (h : ∀ x ∈ a, x.dep ≤ k) : (putP t a i).dep ≤ k + 1 := by
  show a.foldl _ 1 ≤ k + 1
  have key : ∀ (a : List Pt) (d : Nat), d ≤ k + 1 → (∀ x ∈ a, x.dep ≤ k) → a.foldl (fun d x => max d (x.dep + 1)) d ≤ k + 1 := by
    intro a
    induction a with
    | nil => intro d hd _; exact hd
    | cons y r ih => intro d hd hx; exact ih _ (by have := hx y (by simp); dsimp only; omega) (fun x h => hx x (List.mem_cons_of_mem _ h))
  exact key a 1 (by omega) h
end Go.Proofs.Ytfgaieefejdkbaa
