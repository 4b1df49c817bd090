/- Stage 14: a store of the program and one of the document, side by side. -/
import Derived.Test.YtmnkkknkmbldhaaWGs6
import Derived.Test.YtmnkkknkmbldhaaWGn3
import Derived.Test.YtmnkkknkmbldhaaWGz
import Derived.Lib.QuietBelow
import Derived.BigQuiet
namespace Go.Proofs.Ytmnkkknkmbldhaa
open Go.RowKit Go.Maps Go.Sort

theorem RSt.far {w w' : World} {F : Nat → Prop} {g n : Nat} {N : List Gd} (h : RSt w F g n N) (hb : ∀ k, F k → w'.heap[k]? = w.heap[k]?) : RSt w' F g n N := by
  obtain ⟨v, h1, h2, h3⟩ := h.blk
  exact ⟨⟨v, (hb g ((h3 g).2 (.inl rfl))).trans h1, own_farG h2 (fun k hk => hb k ((h3 k).2 (.inr hk))), h3⟩, h.ok⟩
theorem addG_few {n : Nat} {N : List Gd} {l : List Int} (h : N.length ≤ 4096) : (addG n N l).2.length ≤ 4096 := by
  unfold addG
  split
  · exact h
  · split
    · exact h
    · dsimp only; omega
/-- The two stores, apart, in new memory. -/
structure Pair (w wr : World) (g n : Nat) (F : Nat → Prop) (q : Nat) (R : Nat → Prop) (N M : List Gd) : Prop where
  st : StG wr F g n N
  rf : RSt wr R q n M
  dis : ∀ k, F k → ¬ R k
  nf : ∀ k, F k → w.heap.size ≤ k
  nr : ∀ k, R k → w.heap.size ≤ k
  bel : Below w.heap.size w wr
theorem Pair.up {w wr w' : World} {g n : Nat} {F : Nat → Prop} {q : Nat} {R : Nat → Prop} {N M : List Gd} (h : Pair w wr g n F q R N M) (hb : Below wr.heap.size wr w') : Pair w w' g n F q R N M :=
  ⟨h.st.up hb, h.rf.up hb, h.dis, h.nf, h.nr, below_step h.bel hb⟩
theorem Pair.add1 {w wr w2 : World} {g n : Nat} {F F' : Nat → Prop} {q : Nat} {R : Nat → Prop} {N N' M : List Gd} (h : Pair w wr g n F q R N M) (hs : StG w2 F' g n N') (hf : Fr wr w2 F F') : Pair w w2 g n F' q R N' M :=
  ⟨hs, h.rf.far (fun k hk => hf.keep k (h.rf.lt k hk).2 (fun e => h.dis k e hk)), fun k hk hr => by
    rcases hf.foot k hk with e | e
    · exact h.dis k e hr
    · have := (h.rf.lt k hr).2; omega, hf.ge h.nf h.bel.size, h.nr, h.bel.trans (hf.below h.nf h.bel.size)⟩
theorem Pair.add2 {w wr w2 : World} {g n : Nat} {F : Nat → Prop} {q : Nat} {R R' : Nat → Prop} {N M M' : List Gd} (h : Pair w wr g n F q R N M) (hs : RSt w2 R' q n M') (hf : Fr wr w2 R R') : Pair w w2 g n F q R' N M' :=
  ⟨h.st.far (fun k hk => hf.keep k (h.st.lt k hk) (h.dis k hk)), hs, fun k hk hr => by
    rcases hf.foot k hr with e | e
    · exact h.dis k hk e
    · have := h.st.lt k hk; omega, h.nf, hf.ge h.nr h.bel.size, h.bel.trans (hf.below h.nr h.bel.size)⟩
theorem RSt.nodes {w : World} {F : Nat → Prop} {g n : Nat} {N : List Gd} (h : RSt w F g n N) : ∃ a c, w.cell? ⟨g, 1, none⟩ = some (.slice a N.length c) ∧ NdSl w a N.length c N := by
  obtain ⟨v, h1, h2, h3⟩ := h.blk
  obtain ⟨a, c, rfl, hn, _⟩ := own_nd h2 h.ok
  exact ⟨a, c, cell_row h1 1, hn⟩
/-- The changed list of nodes: its block, whatever it holds; all else as it was. -/
structure Chg (w6 wr : World) (ga S : Nat) : Prop where
  os : wr.os = w6.os
  tape : wr.tape = w6.tape
  output : wr.output = w6.output
  size : wr.heap.size = w6.heap.size
  keep : ∀ k, k ≠ ga → wr.heap[k]? = w6.heap[k]?
  row : 0 < S → ∃ cur, wr.heap[ga]? = some (.cells cur 44 (0, 0)) ∧ S ≤ cur.size
theorem Chg.next {w6 wr : World} {ga S k : Nat} (h : Chg w6 wr ga S) (hk : 3 * k + 3 ≤ S) (vs : List Value) (hv : vs.length = 3) (h1 : ∀ v ∈ vs, v.oneCell' = true) :
    ∃ w7, (storeCells ⟨ga, 3 * k, none⟩ vs 0).run Try.prog wr = .ok () w7 ∧ Chg w6 w7 ga S := by
  obtain ⟨cur, hc, hs⟩ := h.row (by omega)
  have hr := run_storeCells_at (P := Try.prog) ga (3 * k) 44 vs 0 cur wr hc (by omega) h1
  refine ⟨_, hr, ⟨h.os, h.tape, h.output, ?_, fun j hj => (setRow_other _ _ _ _ hj).trans (h.keep j hj), fun _ => ⟨_, setRow_heap _ _ _ _ _ _ hc, ?_⟩⟩⟩
  · simpa using h.size
  · simp; omega
theorem Chg.start (w6 : World) {ga n : Nat} {v : Value} {N : List Gd} {base : Nat} (h : w6.ownsRow base 44 3 v n (encG N)) (hv : v.ownBlock = some ga ∨ n = 0) : Chg w6 w6 ga (3 * n) :=
  ⟨rfl, rfl, rfl, rfl, fun _ _ => rfl, fun hS => by
    rcases h.2 with ⟨rfl, e⟩ | ⟨g', cap, cur, rfl, _, hc, hnc, _, hsz, _⟩
    · omega
    · rcases hv with e | e
      · injection e with e
        dsimp only at e
        subst e
        exact ⟨cur, hc, by omega⟩
      · omega⟩
theorem Chg.cell {w6 wr : World} {ga S : Nat} (h : Chg w6 wr ga S) {p : Addr} {v : Value} (hc : w6.cell? p = some v) (hp : p.block ≠ ga) : wr.cell? p = some v := by
  unfold World.cell? at hc ⊢
  rw [h.keep _ hp]; exact hc
theorem Chg.nds {w6 wr : World} {ga S : Nat} (h : Chg w6 wr ga S) {a : Option Addr} {len cap : Nat} {N : List Gd} (hN : NdSl w6 a len cap N) (hp : ∀ x, a = some x → x.block ≠ ga) : NdSl wr a len cap N := by
  cases a with
  | none => exact ⟨hN.hlen, hN.hcap, hN.bd, hN.nn, fun x hx => (by cases hx), fun x hx => (by cases hx), fun x hx => (by cases hx), hN.ok⟩
  | some y => exact hN.keep fun p v hc hx => h.cell hc (by rw [hx y rfl]; exact hp y rfl)
theorem Chg.below {w w6 wr : World} {ga S : Nat} (h : Chg w6 wr ga S) (hb : Below w.heap.size w w6) (hg : w.heap.size ≤ ga) : Below w.heap.size w wr :=
  ⟨h.os.trans hb.os, h.tape.trans hb.tape, h.output.trans hb.output, by rw [h.size]; exact hb.size, fun k hk => (h.keep k (by omega)).trans (hb.block k hk)⟩
theorem Chg.st {w6 wr : World} {ga S : Nat} (h : Chg w6 wr ga S) {F : Nat → Prop} {g n : Nat} {N : List Gd} (hs : StG w6 F g n N) (hg : ¬ F ga) : StG wr F g n N := hs.far fun k hk => h.keep k (fun e => hg (e ▸ hk))
theorem Chg.rf {w6 wr : World} {ga S : Nat} (h : Chg w6 wr ga S) {F : Nat → Prop} {g n : Nat} {N : List Gd} (hs : RSt w6 F g n N) (hg : ¬ F ga) : RSt wr F g n N := hs.far fun k hk => h.keep k (fun e => hg (e ▸ hk))
theorem nd_idx {w : World} {base n : Nat} {v : Value} {N : List Gd} (h : w.ownsRow base 44 3 v n (encG N)) (B : Nat) :
    ∃ a c ga, v = .slice a n c ∧ (v.ownBlock = some ga ∨ (n = 0 ∧ ga = B)) ∧ ∀ (k : Nat) (w' : World), k < n → (Instr.indexAt 38 (.slice a n c) (.int .i64 (k : Int))).run Try.prog w' = .ok (.pointer (some ⟨ga, 3 * k, none⟩)) w' := by
  rcases h.2 with ⟨rfl, rfl⟩ | ⟨g, cap, cur, rfl, _, _, hnc, _, _, _⟩
  · exact ⟨none, 0, B, rfl, .inr ⟨rfl, rfl⟩, fun k w' hk => absurd hk (by omega)⟩
  · refine ⟨_, cap, g, rfl, .inl rfl, fun k w' hk => ?_⟩
    simp [Instr.indexAt, run_underlying Try.underlying38, asIntOf, sizeOf_run3 Try.sizeNode, hk, Result.andThen, go_sem, add_plain, Nat.mul_comm]
theorem Chg.one {w6 wr : World} {ga S o : Nat} (h : Chg w6 wr ga S) (ho : o < S) (v : Value) : (∃ u, wr.cell? ⟨ga, o, none⟩ = some u) ∧ wr.frozen? ⟨ga, o, none⟩ = false ∧ Chg w6 (wr.setCell ⟨ga, o, none⟩ v) ga S := by
  obtain ⟨cur, hc, hs⟩ := h.row (by omega)
  have hlt : o < cur.size := by omega
  refine ⟨⟨cur[o], by rw [cell_row hc]; exact Array.getElem?_eq_getElem hlt⟩, frozen_of_row wr _ o _ _ hc, ⟨h.os, h.tape, h.output, by simpa using h.size, fun k hk => (Below.heap_setCell _ _ _ _ (by dsimp only; exact hk)).trans (h.keep k hk), fun _ => ⟨_, heap_setCell_same wr _ o _ _ v hc, by simpa using hs⟩⟩⟩
/-- A node's three cells, one behind the other. -/
theorem Chg.three {w6 wr : World} {ga S o : Nat} (h : Chg w6 wr ga S) (ho : o + 3 ≤ S) (v0 v1 v2 : Value) :
    (∃ u, wr.cell? ⟨ga, o, none⟩ = some u) ∧ wr.frozen? ⟨ga, o, none⟩ = false ∧ (∃ u, (wr.setCell ⟨ga, o, none⟩ v0).cell? ⟨ga, o + 1, none⟩ = some u) ∧ (wr.setCell ⟨ga, o, none⟩ v0).frozen? ⟨ga, o + 1, none⟩ = false ∧
      (∃ u, ((wr.setCell ⟨ga, o, none⟩ v0).setCell ⟨ga, o + 1, none⟩ v1).cell? ⟨ga, o + 2, none⟩ = some u) ∧ ((wr.setCell ⟨ga, o, none⟩ v0).setCell ⟨ga, o + 1, none⟩ v1).frozen? ⟨ga, o + 2, none⟩ = false ∧
      Chg w6 (((wr.setCell ⟨ga, o, none⟩ v0).setCell ⟨ga, o + 1, none⟩ v1).setCell ⟨ga, o + 2, none⟩ v2) ga S := by
  obtain ⟨a1, a2, a3⟩ := h.one (o := o) (by omega) v0
  obtain ⟨b1, b2, b3⟩ := a3.one (o := o + 1) (by omega) v1
  obtain ⟨c1, c2, c3⟩ := b3.one (o := o + 2) (by omega) v2
  exact ⟨a1, a2, b1, b2, c1, c2, c3⟩
end Go.Proofs.Ytmnkkknkmbldhaa
