/- Stage 14: GuardBack: all that lies in memory at the end. -/
import Derived.Test.YtmnkkknkmbldhaaWGb3
namespace Go.Proofs.Ytmnkkknkmbldhaa
open Go.RowKit Go.Maps

structure BkF (w wx : World) (g n : Nat) (F : Nat → Prop) (N : List Gd) (K : List (List Nat)) (R : List Int) (ka : Option Addr) (kc : Nat) (ra : Option Addr) (rc k aub : Nat) (aa : Option Addr) (ac : Nat) (ga : Option Addr) (gc : Nat) (an : Option Addr) (cn : Nat) : Prop where
  st : StG wx F g n N
  au : AuB wx aub (n : Int) aa 12 ac ga 12 gc an N.length cn
  nd : NdSl wx an N.length cn N
  gu : ZSl wx ga 12 gc (gsL R 12)
  rf : ZSl wx ra k rc R
  kp : ∀ (i : Nat) (l : List Nat), K[i]? = some l → ∃ gi b c, (∀ w', (Instr.indexAt 22 (.slice ka k kc) (.int .i64 (i : Int))).run Try.prog w' = .ok (.pointer (some ⟨gi, i, none⟩)) w') ∧ wx.cell? ⟨gi, i, none⟩ = some (.slice (some ⟨b, 0, none⟩) (2 ^ n) c) ∧ ZSl wx (some ⟨b, 0, none⟩) (2 ^ n) c (l.map Int.ofNat)
  bel : Below w.heap.size w wx
theorem BkF.up {w wx w' : World} {g n : Nat} {F : Nat → Prop} {N : List Gd} {K : List (List Nat)} {R : List Int} {ka : Option Addr} {kc : Nat} {ra : Option Addr} {rc k aub : Nat} {aa : Option Addr} {ac : Nat} {ga : Option Addr} {gc : Nat} {an : Option Addr} {cn : Nat} (h : BkF w wx g n F N K R ka kc ra rc k aub aa ac ga gc an cn) (hb : Below wx.heap.size wx w') : BkF w w' g n F N K R ka kc ra rc k aub aa ac ga gc an cn := by
  refine ⟨h.st.up hb, h.au.up hb, h.nd.up hb, h.gu.up hb, h.rf.up hb, fun i l hl => ?_, below_step h.bel hb⟩
  obtain ⟨gi, b, c, e1, e2, e3⟩ := h.kp i l hl
  exact ⟨gi, b, c, e1, kept_cell e2 hb, e3.up hb⟩
theorem own_cell1 {w : World} {base e n g c i : Nat} {vs : List Value} {v : Value} (h : w.ownsRow base e 1 (.slice (some ⟨g, 0, none⟩) n c) n vs) (hi : vs[i]? = some v) : w.cell? ⟨g, i, none⟩ = some v := by
  obtain ⟨hl, h⟩ := h
  rcases h with ⟨e, _⟩ | ⟨g', cap, cur, e, hg, hcell, hnc, hcm, hsz, htk⟩
  · cases e
  · injection e with e1 _ e3
    injection e1 with e1
    injection e1 with e1 _ _
    subst e1 e3
    have hil := (List.getElem?_eq_some_iff.1 hi).1
    rw [cell_row hcell]
    rw [← htk, List.getElem?_take, if_pos (by omega)] at hi
    simpa using hi
/-- The nodes are laid into the automaton's variable. -/
theorem bkF_of {w w9 wr w2 : World} {g m : Nat} {F : Nat → Prop} {N : List Gd} {K : List (List Nat)} {R : List Int} {ka : Option Addr} {kc : Nat} {ra : Option Addr} {rc k aub : Nat} {aa : Option Addr} {ac : Nat} {ga : Option Addr} {gc : Nat} {an : Option Addr} {cn : Nat}
    (hL : BkL w w9 g m F N K R (.slice ka k kc) (.slice ra k rc) k aub) (hA : AuL w9 wr aub m R (.slice aa 12 ac) (.slice ga 12 gc) 12) (hb : Below wr.heap.size wr w2) (hn : w2.ownsRow wr.heap.size 44 3 (.slice an N.length cn) N.length (encG N)) :
    StG wr F g m N ∧ w2.heap[aub]? = some (.cells #[.int .i64 (m : Int), .slice aa 12 ac, .slice ga 12 gc, .slice none 0 0] 48 (0, 0)) ∧ BkF w (w2.setCell ⟨aub, 3, none⟩ (.slice an N.length cn)) g m F N K R ka kc ra rc k aub aa ac ga gc an cn := by
  have hau9 := hL.mem.au
  have nf : ∀ b, F b → b ≠ aub := fun b hb e => by
    subst e
    rcases hL.st.type hb hau9 with e | e <;> exact absurd e (by decide)
  have hst : StG wr F g m N := hL.st.far fun b hb => hA.fr.keep b (hL.st.lt b hb) (nf b hb)
  have h2 := (hb.block aub (Array.getElem?_eq_some_iff.1 hA.blk).1).trans hA.blk
  have hset : (w2.setCell ⟨aub, 3, none⟩ (.slice an N.length cn)).heap[aub]? = some (.cells #[.int .i64 (m : Int), .slice aa 12 ac, .slice ga 12 gc, .slice an N.length cn] 48 (0, 0)) := by
    rw [heap_setCell_same w2 aub 3 _ _ _ h2]; rfl
  have ko : ∀ {base e size kk : Nat} {v : Value} {xs : List Value}, w2.ownsRow base e size v kk xs → e ≠ 48 → (w2.setCell ⟨aub, 3, none⟩ (.slice an N.length cn)).ownsRow base e size v kk xs := fun hh he => own_farG hh fun b hb' => Below.heap_setCell _ _ _ _ (fun e => auB_ne h2 hh he (by dsimp only at e; rw [← e]; exact hb'))
  have k9 : ∀ {base e size kk : Nat} {v : Value} {xs : List Value}, w9.ownsRow base e size v kk xs → e ≠ 48 → w2.ownsRow base e size v kk xs := fun hh he => owns_up (hA.fr.own hh (fun b hb' e => auB_ne hau9 hh he (by rw [← e]; exact hb'))) hb
  obtain ⟨vs, hvs, hrow⟩ := hL.mem.rows
  have hN := ko hn (by decide)
  obtain ⟨_, _, e1, hnd, _⟩ := own_nd hN hL.st.ok
  injection e1 with e1a _ e1b
  subst e1a e1b
  obtain ⟨_, _, e2, hgu, _, _⟩ := ownZ_sl (T := 30) (ko (owns_up hA.gu hb) (by decide)) Try.underlying30 Try.sizeInt
  injection e2 with e2a _ e2b
  subst e2a e2b
  obtain ⟨_, _, e3, hrf, _, _⟩ := ownZ_sl (T := 30) (ko (k9 hL.mem.refs (by decide)) (by decide)) Try.underlying30 Try.sizeInt
  injection e3 with e3a _ e3b
  subst e3a e3b
  refine ⟨hst, h2, ⟨?_, ⟨cell_row hset 0, cell_row hset 1, cell_row hset 2, cell_row hset 3⟩, hnd, hgu, hrf, fun i l hl => ?_, ?_⟩⟩
  · exact (hst.up hb).far fun b hb' => Below.heap_setCell _ _ _ _ (by dsimp only; exact nf b hb')
  · obtain ⟨b, c, e1, e2, _⟩ := hrow i l hl
    have hvk := ko (k9 hvs (by decide)) (by decide)
    have hil : i < k := by have := (List.getElem?_eq_some_iff.1 hl).1; rw [hL.kl] at this; exact this
    obtain ⟨gk, hka⟩ : ∃ gk, ka = some ⟨gk, 0, none⟩ := by
      rcases hvk.2 with ⟨e, e0⟩ | ⟨g', _, _, e, _⟩
      · omega
      · injection e with e _ _; exact ⟨g', e⟩
    subst hka
    obtain ⟨_, _, e4, hz, _, _⟩ := ownZ_sl (T := 30) (ko (k9 e2 (by decide)) (by decide)) Try.underlying30 Try.sizeInt
    injection e4 with e4a _ e4b
    subst e4a e4b
    refine ⟨gk, b, c, fun w' => ?_, own_cell1 hvk e1, hz⟩
    have := idx_of (P := Try.prog) (T := 22) (e := 30) Try.underlying22 Try.sizeInts2 (a := some ⟨gk, 0, none⟩) (cap := kc) (n := k) (by simp) i w' hil
    simpa [adOf, add_plain] using this
  · have hb3 : Below w.heap.size w wr := hL.mem.bel.trans (hA.fr.below (fun b hb' => by rw [hb']; exact hL.mem.aul) hL.mem.bel.size)
    exact (below_step hb3 hb).setCell (by dsimp only; exact hL.mem.aul) _
/-- What is known of a reference. -/
theorem BkG.ref {n m : Nat} {N : List Gd} {K : List (List Nat)} {R : List Int} (h : BkG n m N K R) (hm : m ≤ 100) (hN : N.length ≤ 4096) {i : Nat} {r : Int} (hr : R[i]? = some r) : I64 r := by
  have hi : i < K.length := by rw [← h.len]; exact (List.getElem?_eq_some_iff.1 hr).1
  rcases (h.it i _ r (List.getElem?_eq_getElem hi) hr).2.1 with ⟨h1, h2⟩ | ⟨j, e, hj, _⟩
  · exact ⟨by omega, by omega⟩
  · exact ⟨by omega, by omega⟩
theorem gsL_mem {R : List Int} {g : Int} (h : g ∈ gsL R 12) : g = -1 ∨ g ∈ R := by
  unfold gsL at h
  obtain ⟨j, _, rfl⟩ := List.mem_map.1 h
  rw [List.getD_eq_getElem?_getD]
  rcases e : R[j]? with _ | x
  · exact .inl rfl
  · exact .inr (List.mem_iff_getElem?.2 ⟨j, e⟩)
end Go.Proofs.Ytmnkkknkmbldhaa
