/- Lists of numbers of the call's own: one more behind. -/
import Derived.Test.YtmnkkknkmbldhaaWGn1
namespace Go.Proofs.Ytmnkkknkmbldhaa
open Go.RowKit Go.Maps

theorem ownZ_sl {P : Program} {T e : TypeId} {w : World} {base n : Nat} {v : Value} {zs : List Int} (h : w.ownsRow base e 1 v n (zs.map (Value.int .i64))) (hu : P.underlying T = some (.slice e)) (hs : (P.info? e).map (·.size) = some 1) :
    ∃ a cap, v = .slice a n cap ∧ IntSl P T .i64 w a n cap zs ∧ (∀ k, k < n → base ≤ (adOf a k).block) ∧ ∀ x, a = some x → x.block < w.heap.size := by
  obtain ⟨hl, h⟩ := h
  simp at hl
  rcases h with ⟨rfl, rfl⟩ | ⟨g, cap, cur, rfl, hg, hcell, hnc, hcm, hsz, htk⟩
  · have : zs = [] := List.eq_nil_of_length_eq_zero hl
    subst this
    exact ⟨none, 0, rfl, ⟨rfl, Nat.le_refl _, Nat.zero_le _, fun m k w hk hm => absurd hk (by omega), fun k hk => absurd hk (by omega), fun k hk => absurd hk (by omega), fun _ => rfl⟩, fun k hk => absurd hk (by omega), fun x hx => by cases hx⟩
  · have had : ∀ k, adOf (some ⟨g, 0, none⟩) k = ⟨g, k, none⟩ := fun k => by simp [adOf, add_plain]
    have hlt : g < w.heap.size := (Array.getElem?_eq_some_iff.1 hcell).1
    refine ⟨some ⟨g, 0, none⟩, cap, rfl, ⟨hl, hnc, hcm, fun m k w hk hm => idx_of hu hs (by simp) k w hk, fun k hk => ?_, fun k hk => by rw [had]; exact hlt, by simp⟩, fun k hk => by rw [had]; exact hg, fun x hx => by injection hx with hx; rw [← hx]; exact hlt⟩
    rw [had]
    have hk2 : (cur.toList.take (n * 1))[k]? = some (.int .i64 (zs.getD k 0)) := by
      rw [htk]; simp [List.getD_eq_getElem?_getD, List.getElem?_eq_getElem (show k < zs.length by omega)]
    rw [List.getElem?_take, if_pos (by omega)] at hk2
    simp [World.cell?, hcell]
    simpa using hk2
/-- One number more behind a list of the call's own. -/
theorem Try.append_z {w : World} {ops : Array Oper} {rest : List Oper} {o : Oper} {a : Act} {Q : Exit → Act → World → Prop} (hgd : o.guard = none) (s x : Operand)
    (ho : o.op = .call { callee := .builtin .append, args := #[s, x], argTypes := #[30, 30] }) (base : Nat)
    (v : Value) (n : Nat) (zs : List Int) (hs : a.eval s = v) (hown : w.ownsRow base 3 1 v n (zs.map (Value.int .i64))) (g' : Nat) (z : Int) (hx : a.eval x = .slice (some ⟨g', 0, none⟩) 1 1) (hc : w.cell? ⟨g', 0, none⟩ = some (.int .i64 z))
    (hn : n + 1 ≤ 2000000) (hbase : base ≤ w.heap.size)
    (h : ∀ v' w', w'.ownsRow base 3 1 v' (n + 1) ((zs ++ [z]).map (Value.int .i64)) → w.grownBy w' v.ownBlock → wpList Try.prog ops Q rest (a.put o.dst v') w') : wpList Try.prog ops Q (o :: rest) a w := by
  obtain ⟨i, hi, hz0, hz1, hz2⟩ := info_parts Try.infoInt
  refine wpList_append_own w hgd s x 30 ho base 3 i _ 1 8 Try.underlying30 hi hz0 hz1 hz2 rfl (by decide) v n _ hs hown ⟨g', 0, none⟩ 1 1 [.int .i64 z] hx rfl ?_ (fun u hu => by simp at hu; subst hu; rfl) (by unfold maxLen; omega) (by omega) hbase ?_
  · intro j u hj
    match j with
    | 0 => simp at hj; rw [← hj, add_plain]; exact hc
    | j + 1 => simp at hj
  · intro v' w' h1 h2 _
    exact h v' w' (by rw [List.map_append]; exact h1) h2
theorem own_slZ {w : World} {base e size n : Nat} {v : Value} {xs : List Value} (h : w.ownsRow base e size v n xs) : ∃ a c, v = .slice a n c := by
  rcases h.2 with ⟨rfl, rfl⟩ | ⟨g, cap, cur, rfl, _⟩
  · exact ⟨none, 0, rfl⟩
  · exact ⟨_, cap, rfl⟩
end Go.Proofs.Ytmnkkknkmbldhaa
