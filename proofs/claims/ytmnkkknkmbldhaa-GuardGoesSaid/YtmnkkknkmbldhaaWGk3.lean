/- LentAuto. -/
import Derived.Test.YtmnkkknkmbldhaaWGk2
import Derived.Deep.RegionWith
import Derived.Deep.DeepCutAuto
namespace Go.Proofs.Ytmnkkknkmbldhaa
open Go.RowKit Go.Maps

def auZ : Obj := .cells #[.int .i64 0, .slice none 0 0, .slice none 0 0, .slice none 0 0] 48 (0, 0)
/-- LentAuto behind its first statement: what is handed in in its box, the result's variable, the new automaton's. -/
structure LaM (w wx : World) (p : Int) (aA : Option Addr) (nA cA : Nat) (aG : Option Addr) (nG cG : Nat) (aN : Option Addr) (nN cN : Nat) (gs : List Int) (vb gb : Nat) : Prop where
  box : AuB wx w.heap.size p aA nA cA aG nG cG aN nN cN
  res : wx.heap[w.heap.size + 1]? = some auZ
  new : wx.heap[vb]? = some (.cells #[.int .i64 p, .slice none 0 0, .slice (some ⟨gb, 0, none⟩) nG (nG + 3), .slice none 0 0] 48 (0, 0))
  row : RowI wx 3 gb (lentZ gs)
  vlt : w.heap.size + 1 < vb
  glt : w.heap.size + 1 < gb
  bel : Below w.heap.size w wx
theorem LaM.after {w w2 w6 : World} {p : Int} {aA : Option Addr} {nA cA : Nat} {aG : Option Addr} {nG cG : Nat} {aN : Option Addr} {nN cN : Nat} {gs : List Int} (hs : w2.heap.size = w.heap.size + 2) (hb : Below w.heap.size w w2) (hA : AuB w2 w.heap.size p aA nA cA aG nG cG aN nN cN) (hz : w2.heap[w.heap.size + 1]? = some auZ) (hr : RowI w6 3 w2.heap.size (lentZ gs)) (h6 : Below w2.heap.size w2 w6) :
    LaM w (w6.alloc (.cells #[.int .i64 p, .slice none 0 0, .slice (some ⟨w2.heap.size, 0, none⟩) nG (nG + 3), .slice none 0 0] 48 (0, 0))) p aA nA cA aG nG cG aN nN cN gs w6.heap.size w2.heap.size := by
  have hn := below_new w6 (.cells #[.int .i64 p, .slice none 0 0, .slice (some ⟨w2.heap.size, 0, none⟩) nG (nG + 3), .slice none 0 0] 48 (0, 0))
  have hb6 := below_step h6 hn
  have hsz := h6.size
  exact ⟨hA.up hb6, (hb6.block _ (by omega)).trans hz, (MapKept.heap_alloc w6 _).1, (hn.block _ (Array.getElem?_eq_some_iff.1 hr).1).trans hr, by omega, by omega, below_step hb hb6⟩
theorem LaM.ahead {w w2 w6 : World} {p : Int} {aA : Option Addr} {nA cA : Nat} {aG : Option Addr} {nG cG : Nat} {aN : Option Addr} {nN cN : Nat} {gs : List Int} (hs : w2.heap.size = w.heap.size + 2) (hb : Below w.heap.size w w2) (hA : AuB w2 w.heap.size p aA nA cA aG nG cG aN nN cN) (hz : w2.heap[w.heap.size + 1]? = some auZ) (hr : RowI w6 3 (w2.heap.size + 1) (lentZ gs)) (h6 : Below (w2.alloc auZ).heap.size (w2.alloc auZ) w6) :
    LaM w ((((w6.setCell ⟨w2.heap.size, 0, none⟩ (.int .i64 p)).setCell ⟨w2.heap.size, 1, none⟩ (.slice none 0 0)).setCell ⟨w2.heap.size, 2, none⟩ (.slice (some ⟨w2.heap.size + 1, 0, none⟩) nG (nG + 3))).setCell ⟨w2.heap.size, 3, none⟩ (.slice none 0 0)) p aA nA cA aG nG cG aN nN cN gs w2.heap.size (w2.heap.size + 1) := by
  have hn := below_new w2 auZ
  have hb6 := below_step hn h6
  have hsz := hb6.size
  have h0 : w6.heap[w2.heap.size]? = some auZ := (h6.block _ (by simp)).trans (MapKept.heap_alloc w2 _).1
  unfold auZ at h0
  have e1 := heap_setCell_same w6 w2.heap.size 0 _ _ (.int .i64 p) h0
  have e2 := heap_setCell_same _ w2.heap.size 1 _ _ (.slice none 0 0) e1
  have e3 := heap_setCell_same _ w2.heap.size 2 _ _ (.slice (some ⟨w2.heap.size + 1, 0, none⟩) nG (nG + 3)) e2
  have e4 := heap_setCell_same _ w2.heap.size 3 _ _ (.slice none 0 0) e3
  have far : ∀ k, k ≠ w2.heap.size → ((((w6.setCell ⟨w2.heap.size, 0, none⟩ (.int .i64 p)).setCell ⟨w2.heap.size, 1, none⟩ (.slice none 0 0)).setCell ⟨w2.heap.size, 2, none⟩ (.slice (some ⟨w2.heap.size + 1, 0, none⟩) nG (nG + 3))).setCell ⟨w2.heap.size, 3, none⟩ (.slice none 0 0)).heap[k]? = w6.heap[k]? := fun k hk =>
    (Below.heap_setCell _ _ _ _ (by dsimp only; exact hk)).trans ((Below.heap_setCell _ _ _ _ (by dsimp only; exact hk)).trans ((Below.heap_setCell _ _ _ _ (by dsimp only; exact hk)).trans (Below.heap_setCell _ _ _ _ (by dsimp only; exact hk))))
  have hA6 := hA.up hb6
  have cf : ∀ (q : Addr) v, q.block ≠ w2.heap.size → w6.cell? q = some v → ((((w6.setCell ⟨w2.heap.size, 0, none⟩ (.int .i64 p)).setCell ⟨w2.heap.size, 1, none⟩ (.slice none 0 0)).setCell ⟨w2.heap.size, 2, none⟩ (.slice (some ⟨w2.heap.size + 1, 0, none⟩) nG (nG + 3))).setCell ⟨w2.heap.size, 3, none⟩ (.slice none 0 0)).cell? q = some v := fun q v hq hc => by
    have := far q.block hq
    unfold World.cell? at hc ⊢
    rw [this]; exact hc
  have hne : ∀ o, (⟨w.heap.size, o, none⟩ : Addr).block ≠ w2.heap.size := fun o => by dsimp only; omega
  exact ⟨⟨cf _ _ (hne _) hA6.c0, cf _ _ (hne _) hA6.c1, cf _ _ (hne _) hA6.c2, cf _ _ (hne _) hA6.c3⟩, (far _ (by omega)).trans ((hb6.block _ (by omega)).trans hz), e4, (far _ (by omega)).trans hr, by omega, by omega, ((((below_step hb hb6).setCell (by dsimp only; omega) _).setCell (by dsimp only; omega) _).setCell (by dsimp only; omega) _).setCell (by dsimp only; omega) _⟩
theorem LaM.drew {w wx : World} {p : Int} {aA : Option Addr} {nA cA : Nat} {aG : Option Addr} {nG cG : Nat} {aN : Option Addr} {nN cN : Nat} {gs : List Int} {vb gb : Nat} (h : LaM w wx p aA nA cA aG nG cG aN nN cN gs vb gb) : LaM w wx.drew p aA nA cA aG nG cG aN nN cN gs vb gb :=
  ⟨⟨h.box.c0, h.box.c1, h.box.c2, h.box.c3⟩, h.res, h.new, h.row, h.vlt, h.glt, h.bel.drew⟩
/-- What LentAuto answers. -/
def LaR (p : Int) (nA nG nN : Nat) (bs : List Bool) (gs : List Int) (N : List Gd) (w : World) (e : Ending) (w' : World) : Prop := ∃ b1 gb b2, e = .returned (.agg #[.int .i64 p, .slice (some ⟨b1, 0, none⟩) nA (nA + 3), .slice (some ⟨gb, 0, none⟩) nG (nG + 3), .slice (some ⟨b2, 0, none⟩) nN (nN + 3)]) ∧ BoRow w' b1 (bs ++ zB 3) ∧ RowI w' 3 gb (lentZ gs) ∧ NdRow w' b2 (N ++ zG 3) ∧ Below w.heap.size w w'
set_option maxRecDepth 100000 in
set_option maxHeartbeats 4000000 in
theorem Try.lentAu_any (p : Int) (aA : Option Addr) (nA cA : Nat) (aG : Option Addr) (nG cG : Nat) (aN : Option Addr) (nN cN : Nat) (bs : List Bool) (gs : List Int) (N : List Gd) (w : World)
    (h1 : BoSl w aA nA cA bs) (h2 : ZSl w aG nG cG gs) (h3 : NdSl w aN nN cN N) (hA : nA ≤ 900000) (hG : nG ≤ 900000) (hN : nN ≤ 900000) :
    Calls Try.prog 17 #[.agg #[.int .i64 p, .slice aA nA cA, .slice aG nG cG, .slice aN nN cN]] w (LaR p nA nG nN bs gs N w) := by
  obtain ⟨Q, eQ⟩ : ∃ Q, Q = LaR p nA nG nN bs gs N w := ⟨_, rfl⟩
  have HQ : Hid (∀ e w', LaR p nA nG nN bs gs N w e w' → Q e w') := fun e w' h => by rw [eQ]; exact h
  rw [← eQ]
  clear eQ
  have HA0 : Hid _ := aub_new w p aA nA cA aG nG cG aN nN cN
  have HB0 : Hid _ := below_new w (.cells #[.int .i64 p, .slice aA nA cA, .slice aG nG cG, .slice aN nN cN] 48 (0, 0))
  have HL : Hid (∀ w', Below w.heap.size w w' → Calls Try.prog 10 #[.slice aG nG cG] w' fun e w2 => e = .returned (.slice (some ⟨w'.heap.size, 0, none⟩) nG (nG + 3)) ∧ RowI w2 3 w'.heap.size (lentZ gs) ∧ Below w'.heap.size w' w2) := fun w' hb => Try.lentZ_any aG nG cG gs w' (h2.up hb) hG
  have HH1 : Hid _ := h1
  have HH3 : Hid _ := h3
  clear h1 h2 h3
  generalize hw1 : w.alloc (.cells #[.int .i64 p, .slice aA nA cA, .slice aG nG cG, .slice aN nN cN] 48 (0, 0)) = w1 at *
  have hs1 : w1.heap.size = w.heap.size + 1 := by rw [← hw1]; simp
  have HB1 : Hid _ := below_step HB0.out (below_new w1 auZ)
  have HA1 : Hid _ := HA0.out.up (below_new w1 auZ)
  have HZ1 : Hid ((w1.alloc auZ).heap[w.heap.size + 1]? = some auZ) := by
    have := (MapKept.heap_alloc w1 auZ).1
    rw [hs1] at this
    exact this
  have HS2 : Hid ((w1.alloc auZ).heap.size = w.heap.size + 2) := by show _ = _; simp [hs1]
  unfold auZ at HB1 HA1 HZ1 HS2
  generalize hw2 : w1.alloc (.cells #[.int .i64 0, .slice none 0 0, .slice none 0 0, .slice none 0 0] 48 (0, 0)) = w2 at *
  obtain ⟨c0, c1, c2, c3⟩ := HA1.out
  have j1 := HL.out w2.drew (HB1.out.drew)
  have HB2 : Hid _ := below_step HB1.out (below_new w2 auZ)
  have HZ : Hid _ := (MapKept.heap_alloc w2 auZ).1
  have HZZ : Hid (∀ w6, Below (w2.alloc auZ).drew.heap.size (w2.alloc auZ).drew w6 → w6.heap[w2.heap.size]? = some auZ) := fun w6 hb => (hb.block _ (by simp)).trans HZ.out
  have HX1 : Hid (∀ w6, Below w2.drew.heap.size w2.drew w6 → AuB w6 w.heap.size p aA nA cA aG nG cG aN nN cN) := fun w6 hb => (HA1.out.up ((Below.refl _ _).drew)).up hb
  have HX2 : Hid (∀ w6, Below (w2.alloc auZ).drew.heap.size (w2.alloc auZ).drew w6 → AuB w6 w.heap.size p aA nA cA aG nG cG aN nN cN) := fun w6 hb => ((HA1.out.up (below_new w2 auZ)).up ((Below.refl _ _).drew)).up hb
  obtain ⟨d0, d1, d2, d3⟩ := HA1.out.up (below_new w2 auZ)
  have j2 := HL.out (w2.alloc auZ).drew (HB2.out.drew)
  have HFA : Hid (∀ w6, RowI w6 3 w2.heap.size (lentZ gs) → Below w2.drew.heap.size w2.drew w6 → _) := fun w6 q1 q2 => LaM.after (nG := nG) HS2.out HB1.out HA1.out HZ1.out q1 (below_step ((Below.refl w2.heap.size w2).drew) q2)
  have HFB : Hid (∀ w6, RowI w6 3 (w2.heap.size + 1) (lentZ gs) → Below (w2.alloc auZ).drew.heap.size (w2.alloc auZ).drew w6 → _) := fun w6 q1 q2 => LaM.ahead (nG := nG) HS2.out HB1.out HA1.out HZ1.out q1 (below_step ((Below.refl (w2.alloc auZ).heap.size (w2.alloc auZ)).drew) q2)
  unfold auZ at d0 d1 d2 d3 j2 HZZ HX2
  go_enter Try.func17, Try.ntmps17
  go_upto_region 7 with fail
  clear hw1 hw2
  go_cut [3] (fun t wx => ∃ (vb gb : Nat), t = .pointer (some ⟨vb, 0, none⟩) ∧ Hid (LaM w wx p aA nA cA aG nG cG aN nN cN gs vb gb))
  case first =>
    go_region_with (first
      | (revert j1; intro j1; go_at_call 10; (with_reducible refine j1.mono ?_); rintro e w6 ⟨rfl, hr6, hb6⟩; have x0 := (HX1.out w6 hb6).c0; have x0b := kept_cell x0 (below_new w6 (.cells #[.int .i64 0, .slice none 0 0, .slice none 0 0, .slice none 0 0] 48 (0, 0))); have HE : Hid _ := HFA.out w6 hr6 hb6; clear hr6 hb6)
      | (revert j2; intro j2; go_at_call 10; (with_reducible refine j2.mono ?_); rintro e w6 ⟨rfl, hr6, hb6⟩; have x0 := (HX2.out w6 hb6).c0; have hz6 := HZZ.out w6 hb6; have HE : Hid _ := HFB.out w6 (by simpa using hr6) hb6; clear hr6 hb6; have z0 := cell_row hz6 0; have z1 := cell_row hz6 1; have z2 := cell_row hz6 2; have z3 := cell_row hz6 3; have f0 := frozen_of_row w6 _ 0 _ _ hz6; have f1 := frozen_of_row w6 _ 1 _ _ hz6; have f2 := frozen_of_row w6 _ 2 _ _ hz6; have f3 := frozen_of_row w6 _ 3 _ _ hz6; simp only [List.getElem?_toArray, List.getElem?_cons_zero, List.getElem?_cons_succ] at z0 z1 z2 z3)
      | fail)
    all_goals
      go_wp2_with fail
      go_meet
      first
        | exact ⟨_, _, rfl, HE⟩
        | exact ⟨_, _, rfl, HE.out.drew⟩
        | fail
  case rest =>
    obtain ⟨vb, gb, rfl, HM⟩ := hcut
    clear HA0 HB0 HL HB1 HA1 HZ1 HS2 HB2 HZ HZZ HX1 HX2 HFA HFB j1 j2 c0 c1 c2 c3 d0 d1 d2 d3
    have k1 := HM.out.box.c1
    have hmk := fun w => Try.makeBo nA (nA + 3) (nA : Int) ((nA : Int) + 3) rfl (by omega) (by omega) (by omega) w
    have hb3 := below_new wc (.cells ((zB (nA + 3)).map Value.bool).toArray 4)
    have hr3 : BoRow (wc.alloc (.cells ((zB (nA + 3)).map Value.bool).toArray 4)) wc.heap.size (zB (nA + 3)) := (MapKept.heap_alloc wc _).1
    have hvl := (Array.getElem?_eq_some_iff.1 HM.out.new).1
    have hv3 := (hb3.block vb hvl).trans HM.out.new
    obtain ⟨Z, hZ⟩ : ∃ Z, Z = ((zB (nA + 3)).map Value.bool).toArray := ⟨_, rfl⟩
    simp only [← hZ] at hmk hb3 hr3 hv3
    clear hZ
    have k1b := kept_cell k1 hb3
    have y1 : (wc.alloc (.cells Z 4)).cell? ⟨vb, 1, none⟩ = some (.slice none 0 0) := cell_row hv3 1
    have z1 : (wc.alloc (.cells Z 4)).frozen? ⟨vb, 1, none⟩ = false := frozen_of_row _ _ 1 _ _ hv3
    obtain ⟨w3, hw3⟩ : ∃ w3, w3 = (wc.alloc (.cells Z 4)).setCell ⟨vb, 1, none⟩ (.slice (some ⟨wc.heap.size, 0, none⟩) nA (nA + 3)) := ⟨_, rfl⟩
    have hne3 : ∀ k, k ≠ vb → w3.heap[k]? = (wc.alloc (.cells Z 4)).heap[k]? := fun k hk => by rw [hw3]; exact Below.heap_setCell _ _ _ _ (by dsimp only; exact hk)
    have hw3v : w3.heap[vb]? = some (.cells #[.int .i64 p, .slice (some ⟨wc.heap.size, 0, none⟩) nA (nA + 3), .slice (some ⟨gb, 0, none⟩) nG (nG + 3), .slice none 0 0] 48 (0, 0)) := by
      rw [hw3, heap_setCell_same _ vb 1 _ _ _ hv3]; rfl
    have hbel3 : Below w.heap.size w w3 := by rw [hw3]; exact (below_step HM.out.bel hb3).setCell (by dsimp only; have := HM.out.vlt; omega) _
    have hr3' : BoRow w3 wc.heap.size (zB (nA + 3)) := (hne3 _ (by omega)).trans hr3
    obtain ⟨w4, hcp, hrow4, hbel4, hfar4⟩ := Try.copyBo wc.heap.size aA nA cA bs w3 hr3' (HH1.out.up hbel3) w.heap.size (by have := HM.out.bel.size; omega) w hbel3
    have lk : ∀ k, k < wc.heap.size → k ≠ vb → w4.heap[k]? = wc.heap[k]? := fun k hk hv => (hfar4 k (by omega)).trans ((hne3 k hv).trans (hb3.block k hk))
    have hv4 : w4.heap[vb]? = some (.cells #[.int .i64 p, .slice (some ⟨wc.heap.size, 0, none⟩) nA (nA + 3), .slice (some ⟨gb, 0, none⟩) nG (nG + 3), .slice none 0 0] 48 (0, 0)) := (hfar4 vb (by omega)).trans hw3v
    have hbx : ∀ {q : Addr} {v : Value}, wc.cell? q = some v → q.block ≠ vb → w4.cell? q = some v := fun {q v} hc hq => by
      have hl := World.block_lt_of_cell? _ _ hc
      have := lk q.block hl hq
      unfold World.cell? at hc ⊢
      rw [this]; exact hc
    have hbne : ∀ o, (⟨w.heap.size, o, none⟩ : Addr).block ≠ vb := fun o => by have := HM.out.vlt; dsimp only; omega
    have q3 := hbx HM.out.box.c3 (hbne _)
    have y1c : w3.cell? ⟨vb, 1, none⟩ = some (.slice (some ⟨wc.heap.size, 0, none⟩) nA (nA + 3)) := cell_row hw3v 1
    have q1c : w3.cell? ⟨w.heap.size, 1, none⟩ = some (.slice aA nA cA) := by
      have := k1b
      have h2 := hne3 w.heap.size (hbne 1)
      unfold World.cell? at this ⊢
      rw [h2]; exact this
    rw [hw3] at hcp y1c q1c
    have HV4 : Hid _ := hv4
    have HRW4 : Hid _ := hrow4
    have HBL4 : Hid _ := hbel4
    have HRS4 : Hid (w4.heap[w.heap.size + 1]? = some auZ) := (lk _ (Array.getElem?_eq_some_iff.1 HM.out.res).1 (by have := HM.out.vlt; omega)).trans HM.out.res
    have HGB4 : Hid (RowI w4 3 gb (lentZ gs)) := (lk _ (Array.getElem?_eq_some_iff.1 HM.out.row).1 (fun e => by
      have h1 := HM.out.row
      have h2 := HM.out.new
      unfold RowI at h1
      rw [e, h2] at h1
      injection h1 with h1
      injection h1 with _ h1 _
      exact absurd h1 (by decide))).trans HM.out.row
    have HVL : Hid (w.heap.size + 1 < vb ∧ vb < wc.heap.size ∧ vb < w4.heap.size) := ⟨HM.out.vlt, hvl, (Array.getElem?_eq_some_iff.1 hv4).1⟩
    have HWC : Hid (wc.heap.size < w4.heap.size) := (Array.getElem?_eq_some_iff.1 hrow4).1
    have HQ4 : Hid (∀ w', Below w4.heap.size w4 w' → w'.cell? ⟨w.heap.size, 3, none⟩ = some (.slice aN nN cN)) := fun w' hb => kept_cell q3 hb
    clear hb3 hr3 hv3 hne3 hw3v hbel3 hr3' lk hv4 hbx hbne hrow4 hbel4 hfar4 hw3 HM hvl
    have hmkN := fun w => Try.makeNd nN (nN + 3) (nN : Int) ((nN : Int) + 3) rfl (by omega) (by omega) (by omega) w
    have hb5 := below_new w4 (.cells (encG (zG (nN + 3))).toArray 44)
    have hr5 : NdRow (w4.alloc (.cells (encG (zG (nN + 3))).toArray 44)) w4.heap.size (zG (nN + 3)) := (MapKept.heap_alloc w4 _).1
    have hv5 := (hb5.block vb HVL.out.2.2).trans HV4.out
    obtain ⟨Y, hY⟩ : ∃ Y, Y = (encG (zG (nN + 3))).toArray := ⟨_, rfl⟩
    simp only [← hY] at hmkN hb5 hr5 hv5
    clear hY
    have y3 : (w4.alloc (.cells Y 44)).cell? ⟨vb, 3, none⟩ = some (.slice none 0 0) := cell_row hv5 3
    have z3 : (w4.alloc (.cells Y 44)).frozen? ⟨vb, 3, none⟩ = false := frozen_of_row _ _ 3 _ _ hv5
    obtain ⟨w5, hw5⟩ : ∃ w5, w5 = (w4.alloc (.cells Y 44)).setCell ⟨vb, 3, none⟩ (.slice (some ⟨w4.heap.size, 0, none⟩) nN (nN + 3)) := ⟨_, rfl⟩
    have hne5 : ∀ k, k ≠ vb → w5.heap[k]? = (w4.alloc (.cells Y 44)).heap[k]? := fun k hk => by rw [hw5]; exact Below.heap_setCell _ _ _ _ (by dsimp only; exact hk)
    have hw5v : w5.heap[vb]? = some (.cells #[.int .i64 p, .slice (some ⟨wc.heap.size, 0, none⟩) nA (nA + 3), .slice (some ⟨gb, 0, none⟩) nG (nG + 3), .slice (some ⟨w4.heap.size, 0, none⟩) nN (nN + 3)] 48 (0, 0)) := by
      rw [hw5, heap_setCell_same _ vb 3 _ _ _ hv5]; rfl
    have hvv := HVL.out
    have hbel5 : Below w.heap.size w w5 := by rw [hw5]; exact (below_step HBL4.out hb5).setCell (by dsimp only; omega) _
    have hr5' : NdRow w5 w4.heap.size (zG (nN + 3)) := (hne5 _ (by omega)).trans hr5
    obtain ⟨w6, hcpN, hrow6, hbel6, hfar6⟩ := Try.copyNd w4.heap.size aN nN cN N w5 hr5' (HH3.out.up hbel5) w.heap.size (by have := HBL4.out.size; omega) w hbel5
    have lk6 : ∀ k, k < w4.heap.size → k ≠ vb → w6.heap[k]? = w4.heap[k]? := fun k hk hv => (hfar6 k (by omega)).trans ((hne5 k hv).trans (hb5.block k hk))
    have hv6 : w6.heap[vb]? = some (.cells #[.int .i64 p, .slice (some ⟨wc.heap.size, 0, none⟩) nA (nA + 3), .slice (some ⟨gb, 0, none⟩) nG (nG + 3), .slice (some ⟨w4.heap.size, 0, none⟩) nN (nN + 3)] 48 (0, 0)) := (hfar6 vb (by omega)).trans hw5v
    have y3c : w5.cell? ⟨vb, 3, none⟩ = some (.slice (some ⟨w4.heap.size, 0, none⟩) nN (nN + 3)) := cell_row hw5v 3
    have q3b := HQ4.out _ hb5
    have q3c : w5.cell? ⟨w.heap.size, 3, none⟩ = some (.slice aN nN cN) := by
      have h2 := hne5 w.heap.size (by omega)
      unfold World.cell? at q3b ⊢
      rw [h2]; exact q3b
    rw [hw5] at hcpN y3c q3c
    have v0 : w6.cell? ⟨vb, 0, none⟩ = some (.int .i64 p) := cell_row hv6 0
    have v1 : w6.cell? ⟨vb, 1, none⟩ = some (.slice (some ⟨wc.heap.size, 0, none⟩) nA (nA + 3)) := cell_row hv6 1
    have v2 : w6.cell? ⟨vb, 2, none⟩ = some (.slice (some ⟨gb, 0, none⟩) nG (nG + 3)) := cell_row hv6 2
    have v3 : w6.cell? ⟨vb, 3, none⟩ = some (.slice (some ⟨w4.heap.size, 0, none⟩) nN (nN + 3)) := cell_row hv6 3
    have hrs6 : w6.heap[w.heap.size + 1]? = some auZ := (lk6 _ (by omega) (by omega)).trans HRS4.out
    have hlw : w.heap.size + 1 < w6.heap.size := (Array.getElem?_eq_some_iff.1 hrs6).1
    unfold auZ at hrs6
    have e1 := heap_setCell_same w6 (w.heap.size + 1) 0 _ _ (.int .i64 p) hrs6
    have e2 := heap_setCell_same _ (w.heap.size + 1) 1 _ _ (.slice (some ⟨wc.heap.size, 0, none⟩) nA (nA + 3)) e1
    have e3 := heap_setCell_same _ (w.heap.size + 1) 2 _ _ (.slice (some ⟨gb, 0, none⟩) nG (nG + 3)) e2
    have e4 := heap_setCell_same _ (w.heap.size + 1) 3 _ _ (.slice (some ⟨w4.heap.size, 0, none⟩) nN (nN + 3)) e3
    have s0 : w6.cell? ⟨w.heap.size + 1, 0, none⟩ = some (.int .i64 0) := cell_row hrs6 0
    have g0 := frozen_of_row w6 _ 0 _ _ hrs6
    have s1 := cell_row e1 1
    have g1 := frozen_of_row _ _ 1 _ _ e1
    have s2 := cell_row e2 2
    have g2 := frozen_of_row _ _ 2 _ _ e2
    have s3 := cell_row e3 3
    have g3 := frozen_of_row _ _ 3 _ _ e3
    have r0 := cell_row e4 0
    have r1 := cell_row e4 1
    have r2 := cell_row e4 2
    have r3 := cell_row e4 3
    have HE : Hid (Q (.returned (.agg #[.int .i64 p, .slice (some ⟨wc.heap.size, 0, none⟩) nA (nA + 3), .slice (some ⟨gb, 0, none⟩) nG (nG + 3), .slice (some ⟨w4.heap.size, 0, none⟩) nN (nN + 3)])) ((((w6.setCell ⟨w.heap.size + 1, 0, none⟩ (.int .i64 p)).setCell ⟨w.heap.size + 1, 1, none⟩ (.slice (some ⟨wc.heap.size, 0, none⟩) nA (nA + 3))).setCell ⟨w.heap.size + 1, 2, none⟩ (.slice (some ⟨gb, 0, none⟩) nG (nG + 3))).setCell ⟨w.heap.size + 1, 3, none⟩ (.slice (some ⟨w4.heap.size, 0, none⟩) nN (nN + 3)))) := by
      have far : ∀ k, k ≠ w.heap.size + 1 → ((((w6.setCell ⟨w.heap.size + 1, 0, none⟩ (.int .i64 p)).setCell ⟨w.heap.size + 1, 1, none⟩ (.slice (some ⟨wc.heap.size, 0, none⟩) nA (nA + 3))).setCell ⟨w.heap.size + 1, 2, none⟩ (.slice (some ⟨gb, 0, none⟩) nG (nG + 3))).setCell ⟨w.heap.size + 1, 3, none⟩ (.slice (some ⟨w4.heap.size, 0, none⟩) nN (nN + 3))).heap[k]? = w6.heap[k]? := fun k hk =>
        (Below.heap_setCell _ _ _ _ (by dsimp only; exact hk)).trans ((Below.heap_setCell _ _ _ _ (by dsimp only; exact hk)).trans ((Below.heap_setCell _ _ _ _ (by dsimp only; exact hk)).trans (Below.heap_setCell _ _ _ _ (by dsimp only; exact hk))))
      have hg4 := (Array.getElem?_eq_some_iff.1 HGB4.out).1
      have hgv : gb ≠ vb := fun e => by
        have h1 := HGB4.out
        have h2 := HV4.out
        unfold RowI at h1
        rw [e, h2] at h1
        injection h1 with h1
        injection h1 with _ h1 _
        exact absurd h1 (by decide)
      have hgr : gb ≠ w.heap.size + 1 := fun e => by
        have h1 := HGB4.out
        have h2 := HRS4.out
        unfold RowI at h1
        unfold auZ at h2
        rw [e, h2] at h1
        injection h1 with h1
        injection h1 with _ h1 _
        exact absurd h1 (by decide)
      have hwc := HWC.out
      refine HQ.out _ _ ⟨wc.heap.size, gb, w4.heap.size, rfl, (far _ (by omega)).trans ((lk6 _ hwc (by omega)).trans HRW4.out), (far _ hgr).trans ((lk6 _ hg4 hgv).trans HGB4.out), (far _ (by omega)).trans hrow6, ?_⟩
      exact (((hbel6.setCell (by dsimp only; omega) _).setCell (by dsimp only; omega) _).setCell (by dsimp only; omega) _).setCell (by dsimp only; omega) _
    simp only [Array.getElem?_setIfInBounds, List.getElem?_toArray, List.getElem?_cons_zero, List.getElem?_cons_succ, List.size_toArray, List.length_cons, List.length_nil] at s1 s2 s3 r0 r1 r2 r3
    clear hb5 hr5 hv5 hne5 hw5v hbel5 hr5' lk6 hv6 hrow6 hbel6 hfar6 hw5 hvv e1 e2 e3 e4 hrs6 hlw HVL HV4 HRW4 HBL4 HRS4 HGB4 HWC HQ4 HQ
    go_wp2
    refine bodyPost_ret (v := .agg #[.int .i64 p, .slice (some ⟨wc.heap.size, 0, none⟩) nA (nA + 3), .slice (some ⟨gb, 0, none⟩) nG (nG + 3), .slice (some ⟨w4.heap.size, 0, none⟩) nN (nN + 3)]) (by simp [results, Try.results17, go_sem, r0, r1, r2, r3]) rfl HE.out
end Go.Proofs.Ytmnkkknkmbldhaa
