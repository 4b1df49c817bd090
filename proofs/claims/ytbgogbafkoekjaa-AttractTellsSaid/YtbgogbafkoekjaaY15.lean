/- Texts of the proof, put together: what it uses. -/
import Derived.Deep.RegionWith
import Derived.Deep.DeepCutAuto
import Derived.Test.YtbgogbafkoekjaaY04
set_option maxRecDepth 100000
set_option maxHeartbeats 16000000
namespace Go.Proofs.Ytbgogbafkoekjaa
open Go.RowKit Go.Maps
def auZ : Obj := .cells #[.int .i64 0,.slice none 0 0,.slice none 0 0,.slice none 0 0] 26 (0,0)
structure LaM (w wx : World) (p : Int) (aA : Option Addr) (nA cA : Nat) (aG : Option Addr) (nG cG : Nat) (aN : Option Addr) (nN cN : Nat) (gs : List Int) (vb gb : Nat) : Prop where
 box : AuB wx w.heap.size p aA nA cA aG nG cG aN nN cN
 res : wx.heap[w.heap.size + 1]? = some auZ
 new : wx.heap[vb]? = some (.cells #[.int .i64 p,.slice none 0 0,.slice (some ⟨gb,0,none⟩) nG (nG + 3),.slice none 0 0] 26 (0,0))
 row : RowI wx 3 gb (lentZ gs)
 vlt : w.heap.size + 1 < vb
 glt : w.heap.size + 1 < gb
 bel : Below w.heap.size w wx
theorem LaM.after {w w2 w6 : World} {p : Int} {aA : Option Addr} {nA cA : Nat} {aG : Option Addr} {nG cG : Nat} {aN : Option Addr} {nN cN : Nat} {gs : List Int} (hs : w2.heap.size = w.heap.size + 2) (hb : Below w.heap.size w w2) (hA : AuB w2 w.heap.size p aA nA cA aG nG cG aN nN cN) (hz : w2.heap[w.heap.size + 1]? = some auZ) (hr : RowI w6 3 w2.heap.size (lentZ gs)) (h6 : Below w2.heap.size w2 w6) :
  LaM w (w6.alloc (.cells #[.int .i64 p,.slice none 0 0,.slice (some ⟨w2.heap.size,0,none⟩) nG (nG + 3),.slice none 0 0] 26 (0,0))) p aA nA cA aG nG cG aN nN cN gs w6.heap.size w2.heap.size := by
 have hn := q7 w6 (.cells #[.int .i64 p,.slice none 0 0,.slice (some ⟨w2.heap.size,0,none⟩) nG (nG + 3),.slice none 0 0] 26 (0,0))
 have hb6 := q5 h6 hn
 have hsz := h6.size
 exact ⟨hA.up hb6,(hb6.block _ (by omega)).trans hz,(MapKept.heap_alloc w6 _).1,(hn.block _ (Array.getElem?_eq_some_iff.1 hr).1).trans hr,by omega,by omega,q5 hb hb6⟩
theorem LaM.ahead {w w2 w6 : World} {p : Int} {aA : Option Addr} {nA cA : Nat} {aG : Option Addr} {nG cG : Nat} {aN : Option Addr} {nN cN : Nat} {gs : List Int} (hs : w2.heap.size = w.heap.size + 2) (hb : Below w.heap.size w w2) (hA : AuB w2 w.heap.size p aA nA cA aG nG cG aN nN cN) (hz : w2.heap[w.heap.size + 1]? = some auZ) (hr : RowI w6 3 (w2.heap.size + 1) (lentZ gs)) (h6 : Below (w2.alloc auZ).heap.size (w2.alloc auZ) w6) :
  LaM w ((((w6.setCell ⟨w2.heap.size,0,none⟩ (.int .i64 p)).setCell ⟨w2.heap.size,1,none⟩ (.slice none 0 0)).setCell ⟨w2.heap.size,2,none⟩ (.slice (some ⟨w2.heap.size + 1,0,none⟩) nG (nG + 3))).setCell ⟨w2.heap.size,3,none⟩ (.slice none 0 0)) p aA nA cA aG nG cG aN nN cN gs w2.heap.size (w2.heap.size + 1) := by
 have hn := q7 w2 auZ
 have hb6 := q5 hn h6
 have hsz := hb6.size
 have h0 : w6.heap[w2.heap.size]? = some auZ := (h6.block _ (by simp)).trans (MapKept.heap_alloc w2 _).1
 unfold auZ at h0
 have e1 := heap_setCell_same w6 w2.heap.size 0 _ _ (.int .i64 p) h0
 have e2 := heap_setCell_same _ w2.heap.size 1 _ _ (.slice none 0 0) e1
 have e3 := heap_setCell_same _ w2.heap.size 2 _ _ (.slice (some ⟨w2.heap.size + 1,0,none⟩) nG (nG + 3)) e2
 have e4 := heap_setCell_same _ w2.heap.size 3 _ _ (.slice none 0 0) e3
 have far : ∀ k,k ≠ w2.heap.size → ((((w6.setCell ⟨w2.heap.size,0,none⟩ (.int .i64 p)).setCell ⟨w2.heap.size,1,none⟩ (.slice none 0 0)).setCell ⟨w2.heap.size,2,none⟩ (.slice (some ⟨w2.heap.size + 1,0,none⟩) nG (nG + 3))).setCell ⟨w2.heap.size,3,none⟩ (.slice none 0 0)).heap[k]? = w6.heap[k]? := fun k hk =>
  (Below.heap_setCell _ _ _ _ (by dsimp only; exact hk)).trans ((Below.heap_setCell _ _ _ _ (by dsimp only; exact hk)).trans ((Below.heap_setCell _ _ _ _ (by dsimp only; exact hk)).trans (Below.heap_setCell _ _ _ _ (by dsimp only; exact hk))))
 have hA6 := hA.up hb6
 have cf : ∀ (q : Addr) v,q.block ≠ w2.heap.size → w6.cell? q = some v → ((((w6.setCell ⟨w2.heap.size,0,none⟩ (.int .i64 p)).setCell ⟨w2.heap.size,1,none⟩ (.slice none 0 0)).setCell ⟨w2.heap.size,2,none⟩ (.slice (some ⟨w2.heap.size + 1,0,none⟩) nG (nG + 3))).setCell ⟨w2.heap.size,3,none⟩ (.slice none 0 0)).cell? q = some v := fun q v hq hc => by
  have := far q.block hq
  unfold World.cell? at hc ⊢
  rw [this]; exact hc
 have hne : ∀ o,(⟨w.heap.size,o,none⟩ : Addr).block ≠ w2.heap.size := fun o => by dsimp only; omega
 exact ⟨⟨cf _ _ (hne _) hA6.c0,cf _ _ (hne _) hA6.c1,cf _ _ (hne _) hA6.c2,cf _ _ (hne _) hA6.c3⟩,(far _ (by omega)).trans ((hb6.block _ (by omega)).trans hz),e4,(far _ (by omega)).trans hr,by omega,by omega,((((q5 hb hb6).setCell (by dsimp only; omega) _).setCell (by dsimp only; omega) _).setCell (by dsimp only; omega) _).setCell (by dsimp only; omega) _⟩
def LaRN (p : Int) (nA nG nN : Nat) (bs : List Bool) (gs : List Int) (N : List Gd) (w : World) (e : Ending) (w' : World) : Prop := ∃ b1 gb b2,e = .returned (.agg #[.int .i64 p,.slice (some ⟨b1,0,none⟩) nA (nA + 3),.slice (some ⟨gb,0,none⟩) nG (nG + 3),.slice (some ⟨b2,0,none⟩) nN (nN + 3)]) ∧ BoRow w' b1 (bs ++ zB 3) ∧ RowI w' 3 gb (lentZ gs) ∧ NdRow w' b2 (N ++ zG 3) ∧ Below w.heap.size w w' ∧ w.heap.size ≤ b1 ∧ w.heap.size ≤ gb ∧ w.heap.size ≤ b2
theorem q1F (p : Int) (aA : Option Addr) (nA cA : Nat) (aG : Option Addr) (nG cG : Nat) (aN : Option Addr) (nN cN : Nat) (bs : List Bool) (gs : List Int) (N : List Gd) (w : World)
  (h1 : BoSl w aA nA cA bs) (h2 : ZSl w aG nG cG gs) (h3 : NdSl w aN nN cN N) (hA : nA ≤ 900000) (hG : nG ≤ 900000) (hN : nN ≤ 900000) :
  Calls Try.prog 8 #[.agg #[.int .i64 p,.slice aA nA cA,.slice aG nG cG,.slice aN nN cN]] w (LaRN p nA nG nN bs gs N w) := by
 obtain ⟨Q,eQ⟩ : ∃ Q,Q = LaRN p nA nG nN bs gs N w := ⟨_,rfl⟩
 have HQ : Hid (∀ e w',LaRN p nA nG nN bs gs N w e w' → Q e w') := fun e w' h => by rw [eQ]; exact h
 rw [← eQ]
 clear eQ
 have HA0 : Hid _ := qa w p aA nA cA aG nG cG aN nN cN
 have HB0 : Hid _ := q7 w (.cells #[.int .i64 p,.slice aA nA cA,.slice aG nG cG,.slice aN nN cN] 26 (0,0))
 have HL : Hid (∀ w',Below w.heap.size w w' → Calls Try.prog 27 #[.slice aG nG cG] w' fun e w2 => e = .returned (.slice (some ⟨w'.heap.size,0,none⟩) nG (nG + 3)) ∧ RowI w2 3 w'.heap.size (lentZ gs) ∧ Below w'.heap.size w' w2) := fun w' hb => q13 aG nG cG gs w' (h2.up hb) hG
 have HH1 : Hid _ := h1
 have HH3 : Hid _ := h3
 clear h1 h2 h3
 generalize hw1 : w.alloc (.cells #[.int .i64 p,.slice aA nA cA,.slice aG nG cG,.slice aN nN cN] 26 (0,0)) = w1 at *
 have hs1 : w1.heap.size = w.heap.size + 1 := by rw [← hw1]; simp
 have HB1 : Hid _ := q5 HB0.out (q7 w1 auZ)
 have HA1 : Hid _ := HA0.out.up (q7 w1 auZ)
 have HZ1 : Hid ((w1.alloc auZ).heap[w.heap.size + 1]? = some auZ) := by
  have := (MapKept.heap_alloc w1 auZ).1
  rw [hs1] at this
  exact this
 have HS2 : Hid ((w1.alloc auZ).heap.size = w.heap.size + 2) := by show _ = _; simp [hs1]
 unfold auZ at HB1 HA1 HZ1 HS2
 generalize hw2 : w1.alloc (.cells #[.int .i64 0,.slice none 0 0,.slice none 0 0,.slice none 0 0] 26 (0,0)) = w2 at *
 obtain ⟨c0,c1,c2,c3⟩ := HA1.out
 have j1 := HL.out w2.drew (HB1.out.drew)
 have HB2 : Hid _ := q5 HB1.out (q7 w2 auZ)
 have HZ : Hid _ := (MapKept.heap_alloc w2 auZ).1
 have HZZ : Hid (∀ w6,Below (w2.alloc auZ).drew.heap.size (w2.alloc auZ).drew w6 → w6.heap[w2.heap.size]? = some auZ) := fun w6 hb => (hb.block _ (by simp)).trans HZ.out
 have HX1 : Hid (∀ w6,Below w2.drew.heap.size w2.drew w6 → AuB w6 w.heap.size p aA nA cA aG nG cG aN nN cN) := fun w6 hb => (HA1.out.up ((Below.refl _ _).drew)).up hb
 have HX2 : Hid (∀ w6,Below (w2.alloc auZ).drew.heap.size (w2.alloc auZ).drew w6 → AuB w6 w.heap.size p aA nA cA aG nG cG aN nN cN) := fun w6 hb => ((HA1.out.up (q7 w2 auZ)).up ((Below.refl _ _).drew)).up hb
 obtain ⟨d0,d1,d2,d3⟩ := HA1.out.up (q7 w2 auZ)
 have j2 := HL.out (w2.alloc auZ).drew (HB2.out.drew)
 have HFA : Hid (∀ w6,RowI w6 3 w2.heap.size (lentZ gs) → Below w2.drew.heap.size w2.drew w6 → _) := fun w6 q1 q2 => LaM.after (nG := nG) HS2.out HB1.out HA1.out HZ1.out q1 (q5 ((Below.refl w2.heap.size w2).drew) q2)
 have HFB : Hid (∀ w6,RowI w6 3 (w2.heap.size + 1) (lentZ gs) → Below (w2.alloc auZ).drew.heap.size (w2.alloc auZ).drew w6 → _) := fun w6 q1 q2 => LaM.ahead (nG := nG) HS2.out HB1.out HA1.out HZ1.out q1 (q5 ((Below.refl (w2.alloc auZ).heap.size (w2.alloc auZ)).drew) q2)
 unfold auZ at d0 d1 d2 d3 j2 HZZ HX2
 go_enter Try.func8,Try.ntmps8
 go_upto_region 7 with fail
 clear hw1 hw2
 go_cut [3] (fun t wx => ∃ (vb gb : Nat),t = .pointer (some ⟨vb,0,none⟩) ∧ Hid (LaM w wx p aA nA cA aG nG cG aN nN cN gs vb gb))
 case first =>
  go_region_with (first
   | (revert j1; intro j1; go_at_call 27; (with_reducible refine j1.mono ?_); rintro e w6 ⟨rfl,hr6,hb6⟩; have x0 := (HX1.out w6 hb6).c0; have x0b := q9 x0 (q7 w6 (.cells #[.int .i64 0,.slice none 0 0,.slice none 0 0,.slice none 0 0] 26 (0,0))); have HE : Hid _ := HFA.out w6 hr6 hb6; clear hr6 hb6)
   | (revert j2; intro j2; go_at_call 27; (with_reducible refine j2.mono ?_); rintro e w6 ⟨rfl,hr6,hb6⟩; have x0 := (HX2.out w6 hb6).c0; have hz6 := HZZ.out w6 hb6; have HE : Hid _ := HFB.out w6 (by simpa using hr6) hb6; clear hr6 hb6; have z0 := q6 hz6 0; have z1 := q6 hz6 1; have z2 := q6 hz6 2; have z3 := q6 hz6 3; have f0 := frozen_of_row w6 _ 0 _ _ hz6; have f1 := frozen_of_row w6 _ 1 _ _ hz6; have f2 := frozen_of_row w6 _ 2 _ _ hz6; have f3 := frozen_of_row w6 _ 3 _ _ hz6; simp only [List.getElem?_toArray,List.getElem?_cons_zero,List.getElem?_cons_succ] at z0 z1 z2 z3)
   | fail)
  all_goals
   go_wp2_with fail
   go_meet
   first
    | exact ⟨_,_,rfl,HE⟩
    | exact ⟨_,_,rfl,HE.out.drew⟩
    | fail
 case rest =>
  obtain ⟨vb,gb,rfl,HM⟩ := hcut
  clear HA0 HB0 HL HB1 HA1 HZ1 HS2 HB2 HZ HZZ HX1 HX2 HFA HFB j1 j2 c0 c1 c2 c3 d0 d1 d2 d3
  have HGL : Hid (w.heap.size + 1 < gb ∧ w.heap.size ≤ wc.heap.size) := ⟨HM.out.glt,HM.out.bel.size⟩
  have k1 := HM.out.box.c1
  have hmk := fun w => qB nA (nA + 3) (nA : Int) ((nA : Int) + 3) rfl (by omega) (by omega) (by omega) w
  have hb3 := q7 wc (.cells ((zB (nA + 3)).map Value.bool).toArray 4)
  have hr3 : BoRow (wc.alloc (.cells ((zB (nA + 3)).map Value.bool).toArray 4)) wc.heap.size (zB (nA + 3)) := (MapKept.heap_alloc wc _).1
  have hvl := (Array.getElem?_eq_some_iff.1 HM.out.new).1
  have hv3 := (hb3.block vb hvl).trans HM.out.new
  obtain ⟨Z,hZ⟩ : ∃ Z,Z = ((zB (nA + 3)).map Value.bool).toArray := ⟨_,rfl⟩
  simp only [← hZ] at hmk hb3 hr3 hv3
  clear hZ
  have k1b := q9 k1 hb3
  have y1 : (wc.alloc (.cells Z 4)).cell? ⟨vb,1,none⟩ = some (.slice none 0 0) := q6 hv3 1
  have z1 : (wc.alloc (.cells Z 4)).frozen? ⟨vb,1,none⟩ = false := frozen_of_row _ _ 1 _ _ hv3
  obtain ⟨w3,hw3⟩ : ∃ w3,w3 = (wc.alloc (.cells Z 4)).setCell ⟨vb,1,none⟩ (.slice (some ⟨wc.heap.size,0,none⟩) nA (nA + 3)) := ⟨_,rfl⟩
  have hne3 : ∀ k,k ≠ vb → w3.heap[k]? = (wc.alloc (.cells Z 4)).heap[k]? := fun k hk => by rw [hw3]; exact Below.heap_setCell _ _ _ _ (by dsimp only; exact hk)
  have hw3v : w3.heap[vb]? = some (.cells #[.int .i64 p,.slice (some ⟨wc.heap.size,0,none⟩) nA (nA + 3),.slice (some ⟨gb,0,none⟩) nG (nG + 3),.slice none 0 0] 26 (0,0)) := by
   rw [hw3,heap_setCell_same _ vb 1 _ _ _ hv3]; rfl
  have hbel3 : Below w.heap.size w w3 := by rw [hw3]; exact (q5 HM.out.bel hb3).setCell (by dsimp only; have := HM.out.vlt; omega) _
  have hr3' : BoRow w3 wc.heap.size (zB (nA + 3)) := (hne3 _ (by omega)).trans hr3
  obtain ⟨w4,hcp,hrow4,hbel4,hfar4⟩ := q3G wc.heap.size aA nA cA bs w3 hr3' (HH1.out.up hbel3) w.heap.size (by have := HM.out.bel.size; omega) w hbel3
  have lk : ∀ k,k < wc.heap.size → k ≠ vb → w4.heap[k]? = wc.heap[k]? := fun k hk hv => (hfar4 k (by omega)).trans ((hne3 k hv).trans (hb3.block k hk))
  have hv4 : w4.heap[vb]? = some (.cells #[.int .i64 p,.slice (some ⟨wc.heap.size,0,none⟩) nA (nA + 3),.slice (some ⟨gb,0,none⟩) nG (nG + 3),.slice none 0 0] 26 (0,0)) := (hfar4 vb (by omega)).trans hw3v
  have hbx : ∀ {q : Addr} {v : Value},wc.cell? q = some v → q.block ≠ vb → w4.cell? q = some v := fun {q v} hc hq => by
   have hl := World.block_lt_of_cell? _ _ hc
   have := lk q.block hl hq
   unfold World.cell? at hc ⊢
   rw [this]; exact hc
  have hbne : ∀ o,(⟨w.heap.size,o,none⟩ : Addr).block ≠ vb := fun o => by have := HM.out.vlt; dsimp only; omega
  have q3 := hbx HM.out.box.c3 (hbne _)
  have y1c : w3.cell? ⟨vb,1,none⟩ = some (.slice (some ⟨wc.heap.size,0,none⟩) nA (nA + 3)) := q6 hw3v 1
  have q1c : w3.cell? ⟨w.heap.size,1,none⟩ = some (.slice aA nA cA) := by
   have := k1b
   have h2 := hne3 w.heap.size (hbne 1)
   unfold World.cell? at this ⊢
   rw [h2]; exact this
  rw [hw3] at hcp y1c q1c
  have HV4 : Hid _ := hv4
  have HRW4 : Hid _ := hrow4
  have HBL4 : Hid _ := hbel4
  have HRS4 : Hid (w4.heap[w.heap.size + 1]? = some auZ) := (lk _ (Array.getElem?_eq_some_iff.1 HM.out.res).1 (by have := HM.out.vlt; omega)).trans HM.out.res
  have HGB4 : Hid (RowI w4 3 gb (lentZ gs)) := (lk _ (Array.getElem?_eq_some_iff.1 HM.out.row).1 (fun e => by
   have h1 := HM.out.row
   have h2 := HM.out.new
   unfold RowI at h1
   rw [e,h2] at h1
   injection h1 with h1
   injection h1 with _ h1 _
   exact absurd h1 (by decide))).trans HM.out.row
  have HVL : Hid (w.heap.size + 1 < vb ∧ vb < wc.heap.size ∧ vb < w4.heap.size) := ⟨HM.out.vlt,hvl,(Array.getElem?_eq_some_iff.1 hv4).1⟩
  have HWC : Hid (wc.heap.size < w4.heap.size) := (Array.getElem?_eq_some_iff.1 hrow4).1
  have HQ4 : Hid (∀ w',Below w4.heap.size w4 w' → w'.cell? ⟨w.heap.size,3,none⟩ = some (.slice aN nN cN)) := fun w' hb => q9 q3 hb
  clear hb3 hr3 hv3 hne3 hw3v hbel3 hr3' lk hv4 hbx hbne hrow4 hbel4 hfar4 hw3 HM hvl
  have hmkN := fun w => q3N nN (nN + 3) (nN : Int) ((nN : Int) + 3) rfl (by omega) (by omega) (by omega) w
  have hb5 := q7 w4 (.cells (encGd (zG (nN + 3))).toArray 63)
  have hr5 : NdRow (w4.alloc (.cells (encGd (zG (nN + 3))).toArray 63)) w4.heap.size (zG (nN + 3)) := (MapKept.heap_alloc w4 _).1
  have hv5 := (hb5.block vb HVL.out.2.2).trans HV4.out
  obtain ⟨Y,hY⟩ : ∃ Y,Y = (encGd (zG (nN + 3))).toArray := ⟨_,rfl⟩
  simp only [← hY] at hmkN hb5 hr5 hv5
  clear hY
  have y3 : (w4.alloc (.cells Y 63)).cell? ⟨vb,3,none⟩ = some (.slice none 0 0) := q6 hv5 3
  have z3 : (w4.alloc (.cells Y 63)).frozen? ⟨vb,3,none⟩ = false := frozen_of_row _ _ 3 _ _ hv5
  obtain ⟨w5,hw5⟩ : ∃ w5,w5 = (w4.alloc (.cells Y 63)).setCell ⟨vb,3,none⟩ (.slice (some ⟨w4.heap.size,0,none⟩) nN (nN + 3)) := ⟨_,rfl⟩
  have hne5 : ∀ k,k ≠ vb → w5.heap[k]? = (w4.alloc (.cells Y 63)).heap[k]? := fun k hk => by rw [hw5]; exact Below.heap_setCell _ _ _ _ (by dsimp only; exact hk)
  have hw5v : w5.heap[vb]? = some (.cells #[.int .i64 p,.slice (some ⟨wc.heap.size,0,none⟩) nA (nA + 3),.slice (some ⟨gb,0,none⟩) nG (nG + 3),.slice (some ⟨w4.heap.size,0,none⟩) nN (nN + 3)] 26 (0,0)) := by
   rw [hw5,heap_setCell_same _ vb 3 _ _ _ hv5]; rfl
  have hvv := HVL.out
  have hbel5 : Below w.heap.size w w5 := by rw [hw5]; exact (q5 HBL4.out hb5).setCell (by dsimp only; omega) _
  have hr5' : NdRow w5 w4.heap.size (zG (nN + 3)) := (hne5 _ (by omega)).trans hr5
  obtain ⟨w6,hcpN,hrow6,hbel6,hfar6⟩ := q3I w4.heap.size aN nN cN N w5 hr5' (HH3.out.up hbel5) w.heap.size (by have := HBL4.out.size; omega) w hbel5
  have lk6 : ∀ k,k < w4.heap.size → k ≠ vb → w6.heap[k]? = w4.heap[k]? := fun k hk hv => (hfar6 k (by omega)).trans ((hne5 k hv).trans (hb5.block k hk))
  have hv6 : w6.heap[vb]? = some (.cells #[.int .i64 p,.slice (some ⟨wc.heap.size,0,none⟩) nA (nA + 3),.slice (some ⟨gb,0,none⟩) nG (nG + 3),.slice (some ⟨w4.heap.size,0,none⟩) nN (nN + 3)] 26 (0,0)) := (hfar6 vb (by omega)).trans hw5v
  have y3c : w5.cell? ⟨vb,3,none⟩ = some (.slice (some ⟨w4.heap.size,0,none⟩) nN (nN + 3)) := q6 hw5v 3
  have q3b := HQ4.out _ hb5
  have q3c : w5.cell? ⟨w.heap.size,3,none⟩ = some (.slice aN nN cN) := by
   have h2 := hne5 w.heap.size (by omega)
   unfold World.cell? at q3b ⊢
   rw [h2]; exact q3b
  rw [hw5] at hcpN y3c q3c
  have v0 : w6.cell? ⟨vb,0,none⟩ = some (.int .i64 p) := q6 hv6 0
  have v1 : w6.cell? ⟨vb,1,none⟩ = some (.slice (some ⟨wc.heap.size,0,none⟩) nA (nA + 3)) := q6 hv6 1
  have v2 : w6.cell? ⟨vb,2,none⟩ = some (.slice (some ⟨gb,0,none⟩) nG (nG + 3)) := q6 hv6 2
  have v3 : w6.cell? ⟨vb,3,none⟩ = some (.slice (some ⟨w4.heap.size,0,none⟩) nN (nN + 3)) := q6 hv6 3
  have hrs6 : w6.heap[w.heap.size + 1]? = some auZ := (lk6 _ (by omega) (by omega)).trans HRS4.out
  have hlw : w.heap.size + 1 < w6.heap.size := (Array.getElem?_eq_some_iff.1 hrs6).1
  unfold auZ at hrs6
  have e1 := heap_setCell_same w6 (w.heap.size + 1) 0 _ _ (.int .i64 p) hrs6
  have e2 := heap_setCell_same _ (w.heap.size + 1) 1 _ _ (.slice (some ⟨wc.heap.size,0,none⟩) nA (nA + 3)) e1
  have e3 := heap_setCell_same _ (w.heap.size + 1) 2 _ _ (.slice (some ⟨gb,0,none⟩) nG (nG + 3)) e2
  have e4 := heap_setCell_same _ (w.heap.size + 1) 3 _ _ (.slice (some ⟨w4.heap.size,0,none⟩) nN (nN + 3)) e3
  have s0 : w6.cell? ⟨w.heap.size + 1,0,none⟩ = some (.int .i64 0) := q6 hrs6 0
  have g0 := frozen_of_row w6 _ 0 _ _ hrs6
  have s1 := q6 e1 1
  have g1 := frozen_of_row _ _ 1 _ _ e1
  have s2 := q6 e2 2
  have g2 := frozen_of_row _ _ 2 _ _ e2
  have s3 := q6 e3 3
  have g3 := frozen_of_row _ _ 3 _ _ e3
  have r0 := q6 e4 0
  have r1 := q6 e4 1
  have r2 := q6 e4 2
  have r3 := q6 e4 3
  have HE : Hid (Q (.returned (.agg #[.int .i64 p,.slice (some ⟨wc.heap.size,0,none⟩) nA (nA + 3),.slice (some ⟨gb,0,none⟩) nG (nG + 3),.slice (some ⟨w4.heap.size,0,none⟩) nN (nN + 3)])) ((((w6.setCell ⟨w.heap.size + 1,0,none⟩ (.int .i64 p)).setCell ⟨w.heap.size + 1,1,none⟩ (.slice (some ⟨wc.heap.size,0,none⟩) nA (nA + 3))).setCell ⟨w.heap.size + 1,2,none⟩ (.slice (some ⟨gb,0,none⟩) nG (nG + 3))).setCell ⟨w.heap.size + 1,3,none⟩ (.slice (some ⟨w4.heap.size,0,none⟩) nN (nN + 3)))) := by
   have far : ∀ k,k ≠ w.heap.size + 1 → ((((w6.setCell ⟨w.heap.size + 1,0,none⟩ (.int .i64 p)).setCell ⟨w.heap.size + 1,1,none⟩ (.slice (some ⟨wc.heap.size,0,none⟩) nA (nA + 3))).setCell ⟨w.heap.size + 1,2,none⟩ (.slice (some ⟨gb,0,none⟩) nG (nG + 3))).setCell ⟨w.heap.size + 1,3,none⟩ (.slice (some ⟨w4.heap.size,0,none⟩) nN (nN + 3))).heap[k]? = w6.heap[k]? := fun k hk =>
    (Below.heap_setCell _ _ _ _ (by dsimp only; exact hk)).trans ((Below.heap_setCell _ _ _ _ (by dsimp only; exact hk)).trans ((Below.heap_setCell _ _ _ _ (by dsimp only; exact hk)).trans (Below.heap_setCell _ _ _ _ (by dsimp only; exact hk))))
   have hg4 := (Array.getElem?_eq_some_iff.1 HGB4.out).1
   have hgv : gb ≠ vb := fun e => by
    have h1 := HGB4.out
    have h2 := HV4.out
    unfold RowI at h1
    rw [e,h2] at h1
    injection h1 with h1
    injection h1 with _ h1 _
    exact absurd h1 (by decide)
   have hgr : gb ≠ w.heap.size + 1 := fun e => by
    have h1 := HGB4.out
    have h2 := HRS4.out
    unfold RowI at h1
    unfold auZ at h2
    rw [e,h2] at h1
    injection h1 with h1
    injection h1 with _ h1 _
    exact absurd h1 (by decide)
   have hwc := HWC.out
   refine HQ.out _ _ ⟨wc.heap.size,gb,w4.heap.size,rfl,(far _ (by omega)).trans ((lk6 _ hwc (by omega)).trans HRW4.out),(far _ hgr).trans ((lk6 _ hg4 hgv).trans HGB4.out),(far _ (by omega)).trans hrow6,?_,HGL.out.2,by have := HGL.out.1; omega,by have := HGL.out.2; omega⟩
   exact (((hbel6.setCell (by dsimp only; omega) _).setCell (by dsimp only; omega) _).setCell (by dsimp only; omega) _).setCell (by dsimp only; omega) _
  simp only [Array.getElem?_setIfInBounds,List.getElem?_toArray,List.getElem?_cons_zero,List.getElem?_cons_succ,List.size_toArray,List.length_cons,List.length_nil] at s1 s2 s3 r0 r1 r2 r3
  clear hb5 hr5 hv5 hne5 hw5v hbel5 hr5' lk6 hv6 hrow6 hbel6 hfar6 hw5 hvv e1 e2 e3 e4 hrs6 hlw HVL HV4 HRW4 HBL4 HRS4 HGB4 HWC HQ4 HQ
  go_wp2
  refine bodyPost_ret (v := .agg #[.int .i64 p,.slice (some ⟨wc.heap.size,0,none⟩) nA (nA + 3),.slice (some ⟨gb,0,none⟩) nG (nG + 3),.slice (some ⟨w4.heap.size,0,none⟩) nN (nN + 3)]) (by simp [results,Try.results8,go_sem,r0,r1,r2,r3]) rfl HE.out
theorem BoRow.sl {w : World} {g n : Nat} {bs : List Bool} (h : BoRow w g (bs ++ zB 3)) (hn : bs.length = n) (hb : n ≤ 900000) : BoSl w (some ⟨g,0,none⟩) n (n + 3) bs := by
 refine ⟨hn,by omega,by unfold maxLen; omega,fun e => (by cases e),fun x hx k hk => ?_⟩
 injection hx with hx
 subst hx
 unfold BoRow at h
 rw [q8,Nat.zero_add,q6 h]
 simp only [List.getElem?_toArray,List.getElem?_map]
 rw [List.getElem?_append_left hk,List.getElem?_eq_getElem hk]
 rfl
theorem BoRow.room {w : World} {g n i : Nat} {bs : List Bool} (h : BoRow w g (bs ++ zB 3)) (hn : bs.length = n) (h1 : n ≤ i) (h2 : i < n + 3) : w.cell? ⟨g,i,none⟩ = some (.bool false) := by
 unfold BoRow at h
 rw [q6 h]
 simp only [List.getElem?_toArray,List.getElem?_map]
 rw [List.getElem?_append_right (by omega)]
 unfold zB
 rw [List.getElem?_replicate,if_pos (by omega)]
 rfl
theorem NdRow.cells {w : World} {g : Nat} {N : List Gd} (h : NdRow w g N) : ∀ j u,(encGd N)[j]? = some u → w.cell? ⟨g,j,none⟩ = some u := fun j u hj => by
 unfold NdRow at h
 rw [q6 h]
 simpa using hj
theorem NdRow.sl {w : World} {g n : Nat} {N : List Gd} (h : NdRow w g (N ++ zG 3)) (hn : N.length = n) (hb : n ≤ 900000) (hok : ∀ t ∈ N,GdOk t) : NdSl w (some ⟨g,0,none⟩) n (n + 3) N := by
 have hc : ∀ j u,(encGd N)[j]? = some u → w.cell? ((⟨g,0,none⟩ : Addr).add j) = some u := fun j u hj => by
  rw [q8,Nat.zero_add]
  refine h.cells j u ?_
  rw [qG,List.getElem?_append_left (List.getElem?_eq_some_iff.1 hj).1]
  exact hj
 refine ⟨hn,by omega,by unfold maxLen; omega,fun e => (by cases e),fun x hx k hk => ?_,fun x hx k hk => ?_,fun x hx k hk => ?_,hok⟩
 ·injection hx with hx; subst hx; exact hc _ _ (qf N k hk).1
 ·injection hx with hx; subst hx; exact hc _ _ (qf N k hk).2.1
 ·injection hx with hx; subst hx; exact hc _ _ (qf N k hk).2.2
theorem NdRow.room {w : World} {g n i : Nat} {N : List Gd} (h : NdRow w g (N ++ zG 3)) (hn : N.length = n) (h1 : n ≤ i) (h2 : i < n + 3) : w.cell? ⟨g,3 * i,none⟩ = some (.int .i64 0) ∧ w.cell? ⟨g,3 * i + 1,none⟩ = some (.int .i64 0) ∧ w.cell? ⟨g,3 * i + 2,none⟩ = some (.int .i64 0) := by
 have hl : i < (N ++ zG 3).length := by simp [zG]; omega
 have hz : (N ++ zG 3)[i] = (0,0,0) := by
  rw [List.getElem_append_right (by omega)]; exact List.getElem_replicate _
 obtain ⟨q0,q1,q2⟩ := qf (N ++ zG 3) i hl
 rw [hz] at q0 q1 q2
 exact ⟨h.cells _ _ q0,h.cells _ _ q1,h.cells _ _ q2⟩
theorem BoRow.up {w w' : World} {g : Nat} {bs : List Bool} (h : BoRow w g bs) (hb : Below w.heap.size w w') : BoRow w' g bs := (hb.block g (Array.getElem?_eq_some_iff.1 h).1).trans h
theorem NdRow.up {w w' : World} {g : Nat} {N : List Gd} (h : NdRow w g N) (hb : Below w.heap.size w w') : NdRow w' g N := (hb.block g (Array.getElem?_eq_some_iff.1 h).1).trans h
theorem q3x {P : Program} {e : TypeId} {s : Nat} (h : (P.info? e).map (·.size) = some s) (w : World) : (sizeOf e).run P w = .ok s w := by
 cases hq : P.info? e with
 | none => simp [hq] at h
 | some i => simp [hq] at h; simp [sizeOf,typeInfo,hq,h]
theorem q2q {P : Program} {T e : TypeId} {s : Nat} (hu : P.underlying T = some (.slice e)) (hs : (P.info? e).map (·.size) = some s) (g n M : Nat) (w : World) : (Instr.sliceAt T (.slice (some ⟨g,0,none⟩) n M) none (some (.int .i64 (M : Int))) none).run P w = .ok (.slice (some ⟨g,0,none⟩) M M) w := by
 simp [Instr.sliceAt,Instr.slice,run_underlying hu,q3x hs,go_sem]
theorem q3n (g n : Nat) (w : World) : (Instr.sliceAt 22 (.slice (some ⟨g,0,none⟩) n (n + 3)) none (some (.int .i64 ((n : Int) + 3))) none).run Try.prog w = .ok (.slice (some ⟨g,0,none⟩) (n + 3) (n + 3)) w := by
 have := q2q (P := Try.prog) Try.underlying22 qg g n (n + 3) w
 rwa [show (((n + 3 : Nat)) : Int) = (n : Int) + 3 by omega] at this
theorem q3o (g n : Nat) (w : World) : (Instr.sliceAt 24 (.slice (some ⟨g,0,none⟩) n (n + 3)) none (some (.int .i64 ((n : Int) + 3))) none).run Try.prog w = .ok (.slice (some ⟨g,0,none⟩) (n + 3) (n + 3)) w := by
 have := q2q (P := Try.prog) Try.underlying24 qc g n (n + 3) w
 rwa [show (((n + 3 : Nat)) : Int) = (n : Int) + 3 by omega] at this
theorem q23 (p : Int) (aA : Option Addr) (nA cA : Nat) (aG : Option Addr) (nG cG : Nat) (aN : Option Addr) (nN cN : Nat) (bs : List Bool) (gs : List Int) (N : List Gd) (b1 gb b2 : Nat) (w : World)
  (h1 : BoSl w aA nA cA bs) (h2 : ZSl w aG nG cG gs) (h3 : NdSl w aN nN cN N) (hA : nA ≤ 900000) (hG : nG ≤ 900000) (hN : nN ≤ 900000) (r1 : BoRow w b1 (bs ++ zB 3)) (r2 : RowI w 3 gb (lentZ gs)) (r3 : NdRow w b2 (N ++ zG 3)) :
  Calls Try.prog 17 #[.agg #[.int .i64 p,.slice (some ⟨b1,0,none⟩) nA (nA + 3),.slice (some ⟨gb,0,none⟩) nG (nG + 3),.slice (some ⟨b2,0,none⟩) nN (nN + 3)],.agg #[.int .i64 p,.slice aA nA cA,.slice aG nG cG,.slice aN nN cN]] w fun e w' => e = .returned (.bool true) ∧ Below w.heap.size w w' := by
 have hg2 : ZSl w (some ⟨gb,0,none⟩) nG (nG + 3) gs := by
  have hl := h2.hlen
  have := RowI.zsl (n := nG) r2 Try.underlying23 qb (by rw [qh]; omega) (by rw [qh]; unfold maxLen; omega)
  rw [qh,← hl,q1L] at this
  rw [hl] at this
  exact this
 have hA0 := qa w p (some ⟨b1,0,none⟩) nA (nA + 3) (some ⟨gb,0,none⟩) nG (nG + 3) (some ⟨b2,0,none⟩) nN (nN + 3)
 have hb0 := q7 w (.cells #[.int .i64 p,.slice (some ⟨b1,0,none⟩) nA (nA + 3),.slice (some ⟨gb,0,none⟩) nG (nG + 3),.slice (some ⟨b2,0,none⟩) nN (nN + 3)] 26 (0,0))
 obtain ⟨w1,hw1⟩ : ∃ w1,w1 = w.alloc (.cells #[.int .i64 p,.slice (some ⟨b1,0,none⟩) nA (nA + 3),.slice (some ⟨gb,0,none⟩) nG (nG + 3),.slice (some ⟨b2,0,none⟩) nN (nN + 3)] 26 (0,0)) := ⟨_,rfl⟩
 rw [← hw1] at hA0 hb0
 have hs1 : w1.heap.size = w.heap.size + 1 := by rw [hw1]; simp
 have hb1 := q7 w1 (.cells #[.int .i64 p,.slice aA nA cA,.slice aG nG cG,.slice aN nN cN] 26 (0,0))
 have hA1 := qa w1 p aA nA cA aG nG cG aN nN cN
 rw [hs1] at hA1
 have hA0' := hA0.up hb1
 have hbb := q5 hb0 hb1
 rw [hw1] at hA1 hA0' hbb
 clear hb1 hA0 hb0 hs1 hw1
 generalize hw2 : (w.alloc (.cells #[.int .i64 p,.slice (some ⟨b1,0,none⟩) nA (nA + 3),.slice (some ⟨gb,0,none⟩) nG (nG + 3),.slice (some ⟨b2,0,none⟩) nN (nN + 3)] 26 (0,0))).alloc (.cells #[.int .i64 p,.slice aA nA cA,.slice aG nG cG,.slice aN nN cN] 26 (0,0)) = w2 at *
 have HA0 : Hid _ := hA0'
 have HA1 : Hid _ := hA1
 have HBB : Hid _ := hbb
 have j1 := q28 p (some ⟨b1,0,none⟩) nA (nA + 3) (some ⟨gb,0,none⟩) nG (nG + 3) (some ⟨b2,0,none⟩) nN (nN + 3) aA cA aG cG aN cN bs gs N w2 ((r1.up hbb).sl h1.hlen hA) (hg2.up hbb) ((r3.up hbb).sl h3.hlen hN h3.ok) (h1.up hbb) (h2.up hbb) (h3.up hbb)
 have J2 : Hid (∀ w',Below w.heap.size w w' → Calls Try.prog 34 #[.slice (some ⟨gb,0,none⟩) nG (nG + 3),.slice aG nG cG] w' fun e w'' => e = .returned (.bool true) ∧ Below w'.heap.size w' w'') := fun w' hb => q2A gb nG aG cG gs w' ((hb.block gb (Array.getElem?_eq_some_iff.1 r2).1).trans r2) (h2.up hb) hG
 have HR1 : Hid (∀ w' i,Below w.heap.size w w' → nA ≤ i → i < nA + 3 → w'.cell? ⟨b1,i,none⟩ = some (.bool false)) := fun w' i hb q1 q2 => (r1.up hb).room h1.hlen q1 q2
 have HR3 : Hid (∀ w' i,Below w.heap.size w w' → nN ≤ i → i < nN + 3 → w'.cell? ⟨b2,3 * i,none⟩ = some (.int .i64 0) ∧ w'.cell? ⟨b2,3 * i + 1,none⟩ = some (.int .i64 0) ∧ w'.cell? ⟨b2,3 * i + 2,none⟩ = some (.int .i64 0)) := fun w' i hb q1 q2 => (r3.up hb).room h3.hlen q1 q2
 have HIA : Hid (∀ (i : Nat) (w' : World),i < nA + 3 → (Instr.indexAt 22 (.slice (some ⟨b1,0,none⟩) (nA + 3) (nA + 3)) (.int .i64 (i : Int))).run Try.prog w' = .ok (.pointer (some ⟨b1,i,none⟩)) w') := fun i w' hi => by
  have := qd (P := Try.prog) (T := 22) (e := 4) Try.underlying22 qg (a := some ⟨b1,0,none⟩) (cap := nA + 3) (n := nA + 3) (by simp) i w' hi
  simpa [adOf,q8] using this
 have HIN : Hid (∀ (i : Nat) (w' : World),i < nN + 3 → (Instr.indexAt 24 (.slice (some ⟨b2,0,none⟩) (nN + 3) (nN + 3)) (.int .i64 (i : Int))).run Try.prog w' = .ok (.pointer (some ⟨b2,3 * i,none⟩)) w') := fun i w' hi => by
  simp [Instr.indexAt,run_underlying Try.underlying24,asIntOf,q1v qc,hi,Result.andThen,go_sem,q8,Nat.mul_comm]
 clear h1 h2 h3 r1 r2 r3 hg2 hA0' hA1 hbb
 obtain ⟨c0,c1,c2,c3⟩ := HA0.out
 obtain ⟨d0,d1,d2,d3⟩ := HA1.out
 subst hw2
 go_enter Try.func17,Try.ntmps17
 go_wp2_with fail
 refine j1.mono ?_
 rintro e w3 ⟨rfl,hb3⟩
 have HA3 : Hid _ := HA0.out.up hb3
 have HD3 : Hid _ := HA1.out.up hb3
 have HB3 : Hid _ := q5 HBB.out hb3
 have j2 := J2.out w3 HB3.out
 clear c0 c1 c2 c3 d0 d1 d2 d3 hb3 j1 HA0 HA1 HBB J2
 obtain ⟨c0,c1,c2,c3⟩ := HA3.out
 obtain ⟨d0,d1,d2,d3⟩ := HD3.out
 go_wp2_with fail
 refine j2.mono ?_
 rintro e w4 ⟨rfl,hb4⟩
 have HA4 : Hid (∀ nq,AuB (w4.drewN nq) w.heap.size p (some ⟨b1,0,none⟩) nA (nA + 3) (some ⟨gb,0,none⟩) nG (nG + 3) (some ⟨b2,0,none⟩) nN (nN + 3)) := fun nq => (HA3.out.up hb4).up (below_drewN (Below.refl _ _) nq)
 have HD4 : Hid (∀ nq,AuB (w4.drewN nq) (w.heap.size + 1) p aA nA cA aG nG cG aN nN cN) := fun nq => (HD3.out.up hb4).up (below_drewN (Below.refl _ _) nq)
 have HB4 : Hid (∀ nq,Below w.heap.size w (w4.drewN nq)) := fun nq => below_drewN (q5 HB3.out hb4) nq
 clear c0 c1 c2 c3 d0 d1 d2 d3 j2
 obtain ⟨c0,c1,c2,c3⟩ := HA3.out.up hb4
 have hsb := fun w => q3n b1 nA w
 have hsn := fun w => q3o b2 nN w
 clear hb4 HA3 HD3 HB3
 go_upto_region 15 with fail
 go_quiet (fail)
 have HA5 : Hid _ := HA4.out nq
 have HD5 : Hid _ := HD4.out nq
 have HB5 : Hid _ := HB4.out nq
 clear HA4 HD4 HB4 hsb hsn c0 c1 c2 c3
 generalize w4.drewN nq = w5 at *
 have d1 := HD5.out.c1
 have d3 := HD5.out.c3
 go_wp2
 go_loopw [7] (fun i wx => ∃ k : Nat,nA ≤ k ∧ k ≤ nA + 3 ∧ i = .int .i64 (k : Int) ∧ wx = w5) (fun i _ => (nA + 3) - (intOf i).toNat)
 case atStart => exact ⟨nA,Nat.le_refl _,by omega,rfl,rfl⟩
 case round =>
  obtain ⟨k,hk1,hk2,rfl,rfl⟩ := hrel
  by_cases hlt : k < nA + 3
  ·have hix := fun w' => HIA.out k w' hlt
   have hce := HR1.out wr k HB5.out hk1 hlt
   go_wp2
   go_roundw
   case rel => exact ⟨k + 1,by omega,by omega,by go_num,trivial⟩
   case measure => simp [intOf]; omega
  ·go_wp2
   generalize hww : wr = w7 at *
   go_loopw [8] (fun i wx => ∃ k : Nat,nN ≤ k ∧ k ≤ nN + 3 ∧ i = .int .i64 (k : Int) ∧ wx = w7) (fun i _ => (nN + 3) - (intOf i).toNat)
   case atStart => exact ⟨nN,Nat.le_refl _,by omega,rfl,rfl⟩
   case round =>
    obtain ⟨k2,hk3,hk4,rfl,rfl⟩ := hrel
    by_cases hlt2 : k2 < nN + 3
    ·have hix := fun w' => HIN.out k2 w' hlt2
     obtain ⟨x0,x1,x2⟩ := HR3.out wr k2 HB5.out hk3 hlt2
     have hne := fun w => q1t 0 0 0 0 0 0 w
     rw [decide_eq_true rfl] at hne
     generalize 3 * k2 = o at *
     go_wp2
     go_roundw
     case rel => exact ⟨k2 + 1,by omega,by omega,by go_num,trivial⟩
     case measure => simp [intOf]; omega
    ·go_wp2
     go_ret
     exact ⟨rfl,HB5.out⟩
end Go.Proofs.Ytbgogbafkoekjaa
