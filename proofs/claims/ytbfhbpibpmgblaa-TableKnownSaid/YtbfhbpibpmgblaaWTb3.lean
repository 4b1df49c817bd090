/- Stage 9: TableOnce: what its first loop keeps. -/
import Derived.Test.YtbfhbpibpmgblaaWTb2
namespace Go.Proofs.Ytbfhbpibpmgblaa
open Go.RowKit Go.Maps

/-- A formula that was kept: the list that came in, its number. -/
structure Kg where
  r : Pc
  n : Nat
def sv (g : Kg) : Value := .slice g.r.a g.r.len g.r.cap
def nv (g : Kg) : Value := .int .i64 (g.n : Int)
def GK (w : World) (items : List It) (g : Kg) : Prop := TkSl w g.r.a g.r.len g.r.cap g.r.ts ∧ g.r.ts.length ≤ 400 ∧ ∃ T : Tr, T.WF ∧ g.r.ts = T.flat ∧ Rep items g.n T
/-- What lies in memory between two rounds. -/
structure St (Tab : TabP) (w wr : World) (t : Nat) (v5 v6 : Value) (items : List It) (F : Nat → Prop) (gs : List Kg) : Prop where
  tab : Tab wr F t items
  ge : ∀ k, F k → w.heap.size ≤ k
  o5 : wr.ownsRow w.heap.size 29 1 v5 gs.length (gs.map sv)
  o6 : wr.ownsRow w.heap.size 3 1 v6 gs.length (gs.map nv)
  n5 : ∀ k, v5.ownBlock = some k → ¬ F k
  n6 : ∀ k, v6.ownBlock = some k → ¬ F k
  gk : ∀ g ∈ gs, GK w items g
  bel : Below w.heap.size w wr
theorem St.fr {Tab : TabP} {w wr w' : World} {t : Nat} {v5 v6 : Value} {items : List It} {F F' : Nat → Prop} {gs : List Kg} {items' : List It} (h : St Tab w wr t v5 v6 items F gs) (hT : Tab w' F' t items') (fr : Fr wr w' F F') (hp : ∃ l, items' = items ++ l) : St Tab w w' t v5 v6 items' F' gs := by
  obtain ⟨l, rfl⟩ := hp
  exact ⟨hT, fr.ge h.ge h.bel.size, fr.own h.o5 h.n5, fr.own h.o6 h.n6, fun k hk => fr.out (h.n5 k hk) (own_lt h.o5 k hk), fun k hk => fr.out (h.n6 k hk) (own_lt h.o6 k hk), fun g hg => by
    obtain ⟨h1, h2, T, h3, h4, h5⟩ := h.gk g hg
    exact ⟨h1, h2, T, h3, h4, h5.more l⟩, h.bel.trans (fr.below h.ge h.bel.size)⟩
theorem St.up {Tab : TabP} (C : TabC Tab) {w wr w' : World} {t : Nat} {v5 v6 : Value} {items : List It} {F : Nat → Prop} {gs : List Kg} (h : St Tab w wr t v5 v6 items F gs) (hb : Below wr.heap.size wr w') : St Tab w w' t v5 v6 items F gs :=
  ⟨C.up h.tab hb, h.ge, owns_up h.o5 hb, owns_up h.o6 hb, h.n5, h.n6, h.gk, below_step h.bel hb⟩
/-- The block of the numbers is a block of numbers still. -/
theorem owns_v6 {wa wb wc : World} {base n m : Nat} {v5 v6 : Value} {xs ys : List Value} (o6 : wa.ownsRow base 3 1 v6 n xs) (g5 : wa.grownBy wb v5.ownBlock) (hb : Below wb.heap.size wb wc) (o5 : wa.ownsRow base 29 1 v5 m ys) {k : Nat} (hk : v6.ownBlock = some k) : ∃ cs, wc.heap[k]? = some (.cells cs 3 (0, 0)) := by
  rcases o6.2 with ⟨rfl, _⟩ | ⟨g, cap, cur, rfl, _, hcell, _⟩
  · cases hk
  · injection hk with hk
    dsimp only at hk
    subst hk
    have hl := (Array.getElem?_eq_some_iff.1 hcell).1
    have hs := g5.size
    refine ⟨cur, (hb.block g (by omega)).trans ((g5.block g hl (fun e => ?_)).trans hcell)⟩
    rcases o5.2 with ⟨rfl, _⟩ | ⟨g', cap', cur', rfl, _, hcell', _⟩
    · cases e
    · injection e with e
      dsimp only at e
      subst e
      rw [hcell] at hcell'
      injection hcell' with hcell'
      injection hcell' with _ hcc _
      exact absurd hcc (by decide)
/-- Both rows grow by one. -/
theorem St.more {Tab : TabP} (C : TabC Tab) {w wa wb wc wd : World} {t : Nat} {v5 v6 v5' v6' : Value} {items : List It} {F : Nat → Prop} {gs : List Kg} (h : St Tab w wa t v5 v6 items F gs) (g : Kg) (hg : GK w items g)
    (o5 : wb.ownsRow w.heap.size 29 1 v5' (gs.length + 1) (gs.map sv ++ [sv g])) (g5 : wa.grownBy wb v5.ownBlock) (b5 : v5'.ownBlock = v5.ownBlock ∨ v5'.ownBlock = some wa.heap.size)
    (hb : Below wb.heap.size wb wc) (o6 : wd.ownsRow w.heap.size 3 1 v6' (gs.length + 1) (gs.map nv ++ [nv g])) (g6 : wc.grownBy wd v6.ownBlock) (b6 : v6'.ownBlock = v6.ownBlock ∨ v6'.ownBlock = some wc.heap.size) : St Tab w wd t v5' v6' items F (gs ++ [g]) := by
  have hlt := C.lt h.tab
  have hs1 := g5.size
  have hs2 := hb.size
  have e6 : ∀ k, v6.ownBlock = some k → k < wa.heap.size := own_lt h.o6
  have far : ∀ k, F k → wd.heap[k]? = wa.heap[k]? := fun k hk => by
    have hk1 := hlt k hk
    have q1 := g5.block k hk1 (fun e => h.n5 k e.symm hk)
    have q2 := hb.block k (by omega)
    have q3 := g6.block k (by omega) (fun e => h.n6 k e.symm hk)
    exact q3.trans (q2.trans q1)
  have f5 : ∀ k, v5'.ownBlock = some k → ¬ F k := fun k hk hf => by
    rcases b5 with e | e
    · exact h.n5 k (e ▸ hk) hf
    · rw [e] at hk; injection hk with hk; have := hlt k hf; omega
  have o5' : wd.ownsRow w.heap.size 29 1 v5' (gs.length + 1) (gs.map sv ++ [sv g]) := by
    have q := owns_up o5 hb
    obtain ⟨hl, q⟩ := q
    refine ⟨hl, q.imp id ?_⟩
    rintro ⟨g', cap, cur, rfl, hgb, hcell, r⟩
    refine ⟨g', cap, cur, rfl, hgb, (g6.block g' (Array.getElem?_eq_some_iff.1 hcell).1 (fun e => ?_)).trans hcell, r⟩
    have hc6 := owns_v6 h.o6 g5 hb h.o5 e.symm
    obtain ⟨cs, hc6⟩ := hc6
    rw [hc6] at hcell
    injection hcell with hcell
    injection hcell with _ hcc _
    exact absurd hcc (by decide)
  refine ⟨C.far h.tab far, h.ge, ?_, ?_, f5, ?_, ?_, ?_⟩
  · rw [List.length_append, List.map_append]; exact o5'
  · rw [List.length_append, List.map_append]; exact o6
  · intro k hk hf
    rcases b6 with e | e
    · exact h.n6 k (e ▸ hk) hf
    · rw [e] at hk; injection hk with hk; have := hlt k hf; omega
  · intro x hx
    rcases List.mem_append.1 hx with hx | hx
    · exact h.gk x hx
    · simp at hx; subst hx; exact hg
  · have q1 : Below w.heap.size w wb := h.bel.grown g5 h.bel.size (own_ge h.o5)
    have q2 : Below w.heap.size w wc := below_step q1 hb
    exact q2.grown g6 q2.size (own_ge h.o6)
end Go.Proofs.Ytbfhbpibpmgblaa
