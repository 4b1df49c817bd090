/- Texts of the proof, put together: what it uses. -/
import Derived.Defers
import Derived.Recover
import Derived.Deep.RegionHeld2
import Derived.Test.YtnedkpbpeolfoaaDoorY00
import Derived.Test.YtnedkpbpeolfoaaDoorY01
import Derived.Test.YtnedkpbpeolfoaaDoorY02
import Derived.Test.YtnedkpbpeolfoaaDoorY03
namespace Go.Proofs.YtnedkpbpeolfoaaDoor
open Go.RowKit Go.Maps
theorem lv_new {T0 : Tr} {p : Nat} {vs : Value} {x bn bl : Nat} {w w1 w' : World} {F : Nat → Prop} {items : List It} {M : Mt} {R : Rt} {l : List Nat} {e : Ending} (h : RdO T0 p vs x bn bl w F items M) (hb : Below w.heap.size w w1) (hR : R = some (l, M)) (hn : NewL l w1 e w') : RetQ (RdO T0 p vs x bn bl) w F items M R e w' := by
  rw [hR]
  exact (ret_new (rdO_obj T0 p vs x bn bl) ((rdO_obj T0 p vs x bn bl).up h hb) hn).after (Fr.ofBelow hb) (List.prefix_refl _) (List.prefix_refl _)
set_option maxRecDepth 100000 in
set_option maxHeartbeats 8000000 in
theorem Tryd.plv_yes {T0 : Tr} {p : Nat} {vs : Value} {x bn bl : Nat} (op : Nat) (ho : op = 0 ∨ op = 4 ∨ op = 1 ∨ op = 5) : LvQ T0 p vs x bn bl 51 (.leaf (op, 0)) := by
  intro w F items M i h hi
  obtain ⟨pp, hx⟩ : ∃ pp : Nat, items[i]? = some ⟨op, pp, -1, -1⟩ := by cases hi with | leaf h => exact ⟨0, h⟩
  obtain ⟨F1, _, _, _, _, hrd⟩ := id h
  obtain ⟨G, rest, hpo⟩ := hrd.pg.part
  obtain ⟨a, n, cap, g, o, c0, hidx, x0, x1, x2, x3⟩ := (hpo.up (below_new w (rdO p x bn bl))).at hx
  have hbx := (MapKept.heap_alloc w (rdO p x bn bl)).1
  have r0 : (w.alloc (rdO p x bn bl)).cell? ⟨w.heap.size, 0, none⟩ = some (.pointer (some ⟨p, 0, none⟩)) := cell_row hbx 0
  have hb : Below w.heap.size w (boxW w p x bn bl op pp (-1) (-1)) := below_step (below_new _ _) (below_new _ _)
  have HN : Hid (∀ e w', NewL (yesM (op == 0 || op == 4)) (boxW w p x bn bl op pp (-1) (-1)) e w' → RetQ (RdO T0 p vs x bn bl) w F items M (aftC (.leaf (op, 0)) x M) e w') := fun e w' hn => lv_new h hb (by rw [aftC_leaf]; rw [if_neg (by dsimp only; omega)]) hn
  have jj := Tryd.true_new (boxW w p x bn bl op pp (-1) (-1))
  clear hrd hpo hbx h hx hb hi
  generalize aftC (.leaf (op, 0)) x M = R at *
  obtain ⟨Q, hQ⟩ : ∃ Q : Ending → World → Prop, Q = RetQ (RdO T0 p vs x bn bl) w F items M R := ⟨_, rfl⟩
  rw [← hQ] at HN ⊢
  clear hQ
  rcases ho with rfl | rfl | rfl | rfl
  · unfold boxW itO rdO at *
    unfold rdV
    dsimp only at *
    go_enter Tryd.func51, Tryd.ntmps51
    go_wp2_with fail
    refine jj.mono ?_
    rintro e w1 ⟨q, C, rfl, hU, hb, hf⟩
    have HE : Hid (Q (.returned (.slice q [0].length C)) w1) := HN.out _ _ ⟨q, C, rfl, hU, hb, hf⟩
    clear jj hU hb hf
    go_wp2
    exact HE.out
  · unfold boxW itO rdO at *
    unfold rdV
    dsimp only at *
    go_enter Tryd.func51, Tryd.ntmps51
    go_wp2_with fail
    refine jj.mono ?_
    rintro e w1 ⟨q, C, rfl, hU, hb, hf⟩
    have HE : Hid (Q (.returned (.slice q [0].length C)) w1) := HN.out _ _ ⟨q, C, rfl, hU, hb, hf⟩
    clear jj hU hb hf
    go_wp2
    exact HE.out
  · have HE : Hid _ := HN.out _ _ (newL_nil _ _ (Below.refl _ _))
    unfold boxW itO rdO at *
    unfold rdV
    dsimp only at *
    clear jj
    go_enter Tryd.func51, Tryd.ntmps51
    go_wp2
    exact HE.out
  · have HE : Hid _ := HN.out _ _ (newL_nil _ _ (Below.refl _ _))
    unfold boxW itO rdO at *
    unfold rdV
    dsimp only at *
    clear jj
    go_enter Tryd.func51, Tryd.ntmps51
    go_wp2
    exact HE.out
set_option maxRecDepth 100000 in
set_option maxHeartbeats 8000000 in
theorem Tryd.plv_prop {T0 : Tr} {p : Nat} {vs : Value} {x bn bl : Nat} (hx8 : x < 256) (q : Nat) (hq : q ≤ 7) : LvQ T0 p vs x bn bl 51 (.leaf (2, q)) := by
  intro w F items M i h hi
  obtain ⟨op, hop, hx⟩ : ∃ op : Nat, op = 2 ∧ items[i]? = some ⟨op, q, -1, -1⟩ := by cases hi with | leaf h => exact ⟨2, rfl, h⟩
  obtain ⟨F1, _, _, _, _, hrd⟩ := id h
  obtain ⟨G, rest, hpo⟩ := hrd.pg.part
  obtain ⟨a, n, cap, g, o, c0, hidx, x0, x1, x2, x3⟩ := (hpo.up (below_new w (rdO p x bn bl))).at hx
  obtain ⟨m0, m00⟩ := mid_start h op q (-1) (-1)
  have hbx := (MapKept.heap_alloc w (rdO p x bn bl)).1
  have r0 : (w.alloc (rdO p x bn bl)).cell? ⟨w.heap.size, 0, none⟩ = some (.pointer (some ⟨p, 0, none⟩)) := cell_row hbx 0
  have s0 := m00.cells
  have s1 : (boxW w p x bn bl op q (-1) (-1)).cell? ⟨w.heap.size + 1, 1, none⟩ = some (.int .u8 (q : Int)) := cell_row m00.xb 1
  have hb : Below w.heap.size w (boxW w p x bn bl op q (-1) (-1)) := below_step (below_new _ _) (below_new _ _)
  have hhas := Tryd.phas_any p x bn bl q hx8 hq (boxW w p x bn bl op q (-1) (-1))
  have HN : Hid (∀ w1 e w', Below (boxW w p x bn bl op q (-1) (-1)).heap.size (boxW w p x bn bl op q (-1) (-1)) w1 → NewL (yesM (x.testBit q)) w1 e w' → RetQ (RdO T0 p vs x bn bl) w F items M (aftC (.leaf (2, q)) x M) e w') := fun w1 e w' hb1 hn => lv_new h (below_step hb hb1) (by rw [aftC_leaf]; rfl) hn
  clear hrd hpo hbx h hx hb hi m0 m00
  generalize aftC (.leaf (2, q)) x M = R at *
  obtain ⟨Q, hQ⟩ : ∃ Q : Ending → World → Prop, Q = RetQ (RdO T0 p vs x bn bl) w F items M R := ⟨_, rfl⟩
  rw [← hQ] at HN ⊢
  clear hQ
  have n0 : ((op : Int) == 0) = false := by rw [beq_eq_false_iff_ne]; omega
  have n1 : ((op : Int) == 1) = false := by rw [beq_eq_false_iff_ne]; omega
  have n4 : ((op : Int) == 4) = false := by rw [beq_eq_false_iff_ne]; omega
  have n5 : ((op : Int) == 5) = false := by rw [beq_eq_false_iff_ne]; omega
  have n2 : ((op : Int) == 2) = true := by rw [beq_iff_eq]; omega
  clear hop
  obtain ⟨⟨s00, s01, s02, s03⟩, _⟩ := s0
  unfold boxW itO rdO at *
  unfold rdV at *
  dsimp only at *
  go_enter Tryd.func51, Tryd.ntmps51
  go_wp2_with fail
  refine hhas.mono ?_
  rintro e w1 ⟨rfl, hb1⟩
  have jw := Tryd.pwhen_any (x.testBit q) w1
  have HB1 : Hid _ := hb1
  clear hhas hb1
  generalize x.testBit q = tb at *
  go_wp2_with fail
  refine jw.mono ?_
  intro e w2 hn
  have hn' := hn
  obtain ⟨qq, C, rfl, _⟩ := hn'
  have HE : Hid (Q (.returned (.slice qq (yesM tb).length C)) w2) := HN.out w1 _ _ HB1.out hn
  clear jw hn
  go_wp2
  exact HE.out
set_option maxRecDepth 100000 in
set_option maxHeartbeats 8000000 in
theorem Tryd.plv_not {T0 : Tr} {p : Nat} {vs : Value} {x bn bl : Nat} (hx8 : x < 256) (q : Nat) (hq : q ≤ 7) : LvQ T0 p vs x bn bl 51 (.un (6, 0) (.leaf (2, q))) := by
  intro w F items M i h hi
  obtain ⟨op, pp, m, hop, hx, hm⟩ : ∃ op pp m : Nat, op = 6 ∧ items[i]? = some ⟨op, pp, (m : Int), -1⟩ ∧ Rep items m (.leaf (2, q)) := by cases hi with | un h h1 h2 => exact ⟨6, 0, _, rfl, h, h2⟩
  have hxm : items[m]? = some ⟨2, q, -1, -1⟩ := by cases hm with | leaf h => exact h
  obtain ⟨m0, m00⟩ := mid_start h op pp (m : Int) (-1)
  have hb : Below w.heap.size w (boxW w p x bn bl op pp (m : Int) (-1)) := below_step (below_new _ _) (below_new _ _)
  obtain ⟨F1, _, _, _, _, hrd⟩ := id h
  obtain ⟨G, rest, hpo⟩ := hrd.pg.part
  obtain ⟨a, n, cap, g, o, c0, hidx, x0, x1, x2, x3⟩ := (hpo.up (below_new w (rdO p x bn bl))).at hx
  obtain ⟨a', n', cap', g', o', c0', hidx', _, y1, _, _⟩ := (hpo.up hb).at hxm
  have ea : Value.slice a n cap = .slice a' n' cap' := by
    have e1 := (hpo.up (below_new w (rdO p x bn bl))).up (below_new _ (itO ⟨op, pp, (m : Int), -1⟩))
    have e2 : (boxW w p x bn bl op pp (m : Int) (-1)).cell? ⟨p, 0, none⟩ = (w.alloc (rdO p x bn bl)).cell? ⟨p, 0, none⟩ := by
      obtain ⟨vi, mp, vt, hbk, _⟩ := (hpo.up (below_new w (rdO p x bn bl))).blk
      obtain ⟨vi', mp', vt', hbk', _⟩ := e1.blk
      have hlt := (Array.getElem?_eq_some_iff.1 hbk).1
      have : (boxW w p x bn bl op pp (m : Int) (-1)).heap[p]? = (w.alloc (rdO p x bn bl)).heap[p]? := (below_new (w.alloc (rdO p x bn bl)) (itO ⟨op, pp, (m : Int), -1⟩)).block p hlt
      unfold World.cell?
      rw [this]
    rw [c0', c0] at e2
    injection e2 with e2
    exact e2.symm
  injection ea with ea1 ea2 ea3
  subst ea1 ea2 ea3
  have hbx := (MapKept.heap_alloc w (rdO p x bn bl)).1
  have r0 : (w.alloc (rdO p x bn bl)).cell? ⟨w.heap.size, 0, none⟩ = some (.pointer (some ⟨p, 0, none⟩)) := cell_row hbx 0
  have hk0 := m0.cells
  have hk00 := m00.cells
  have hcc : (boxW w p x bn bl op pp (m : Int) (-1)).drew.cell? ⟨p, 0, none⟩ = some (.slice a n cap) := c0'
  have hyy : (boxW w p x bn bl op pp (m : Int) (-1)).drew.cell? ⟨g', o' + 1, none⟩ = some (.int .u8 (q : Int)) := y1
  have hhas := Tryd.phas_any p x bn bl q hx8 hq (boxW w p x bn bl op pp (m : Int) (-1)).drew
  have HN : Hid (∀ w1 e w', Below (boxW w p x bn bl op pp (m : Int) (-1)).drew.heap.size (boxW w p x bn bl op pp (m : Int) (-1)).drew w1 → NewL (yesM (!x.testBit q)) w1 e w' → RetQ (RdO T0 p vs x bn bl) w F items M (aftC (.un (6, 0) (.leaf (2, q))) x M) e w') := fun w1 e w' hb1 hn => lv_new h (below_step hb.drew hb1) (by rw [aftC_not]; rfl) hn
  clear hrd hpo hbx h hx hb hi m0 m00 hm hxm
  generalize aftC (.un (6, 0) (.leaf (2, q))) x M = R at *
  obtain ⟨Q, hQ⟩ : ∃ Q : Ending → World → Prop, Q = RetQ (RdO T0 p vs x bn bl) w F items M R := ⟨_, rfl⟩
  rw [← hQ] at HN ⊢
  clear hQ
  have n0 : ((op : Int) == 0) = false := by rw [beq_eq_false_iff_ne]; omega
  have n1 : ((op : Int) == 1) = false := by rw [beq_eq_false_iff_ne]; omega
  have n4 : ((op : Int) == 4) = false := by rw [beq_eq_false_iff_ne]; omega
  have n5 : ((op : Int) == 5) = false := by rw [beq_eq_false_iff_ne]; omega
  have n2 : ((op : Int) == 2) = false := by rw [beq_eq_false_iff_ne]; omega
  have n6 : ((op : Int) == 6) = true := by rw [beq_iff_eq]; omega
  clear hop
  unfold boxW itO rdO MidS at *
  unfold rdV at *
  dsimp only at *
  have hS0 := And.intro (And.intro hcc hyy) hk0
  have hS00 := And.intro (And.intro c0' y1) hk00
  have HKC : Hid (∀ (wa wb : World) (ad : Addr) (v : Value), wa.cell? ad = some v → Below wa.heap.size wa wb → wb.cell? ad = some v) := fun wa wb ad v h1 h2 => kept_cell h1 h2
  go_enter Tryd.func51, Tryd.ntmps51
  go_wp2_with fail
  go_region_held2 (fun w' => (w'.cell? ⟨p, 0, none⟩ = some (.slice a n cap) ∧ w'.cell? ⟨g', o' + 1, none⟩ = some (.int .u8 (q : Int))) ∧ (w'.cell? ⟨w.heap.size, 0, none⟩ = some (.pointer (some ⟨p, 0, none⟩)) ∧ w'.cell? ⟨w.heap.size, 1, none⟩ = some (.int .u8 (x : Int)) ∧ w'.cell? ⟨w.heap.size, 2, none⟩ = some (.map (some bn)) ∧ w'.cell? ⟨w.heap.size, 3, none⟩ = some (.map (some bl))) ∧ w'.cell? ⟨w.heap.size + 1, 2, none⟩ = some (.int .i64 (m : Int)) ∧ w'.cell? ⟨w.heap.size + 1, 3, none⟩ = some (.int .i64 (-1))) (first | exact hS0 | exact hS00 | assumption | fail) (first
    | (go_at_call 62; (with_reducible refine hhas.mono ?_); rintro e w1 ⟨rfl, hb1⟩; have hS1 := And.intro (And.intro (HKC.out _ w1 _ _ hS0.1.1 hb1) (HKC.out _ w1 _ _ hS0.1.2 hb1)) (And.intro (And.intro (HKC.out _ w1 _ _ hS0.2.1.1 hb1) (And.intro (HKC.out _ w1 _ _ hS0.2.1.2.1 hb1) (And.intro (HKC.out _ w1 _ _ hS0.2.1.2.2.1 hb1) (HKC.out _ w1 _ _ hS0.2.1.2.2.2 hb1)))) (And.intro (HKC.out _ w1 _ _ hS0.2.2.1 hb1) (HKC.out _ w1 _ _ hS0.2.2.2 hb1))); have jw := Tryd.pwhen_any (!x.testBit q) w1)
    | (revert jw; intro jw; go_at_call 61; (with_reducible refine jw.mono ?_); intro e w2 hn; have hn' := hn; obtain ⟨qq, C, rfl, _, hb2, _⟩ := hn'; have HE : Hid (Q (.returned (.slice qq (yesM (!x.testBit q)).length C)) w2) := (HN.out w1 _ _ hb1 hn); have hS2 := And.intro (And.intro (HKC.out _ w2 _ _ hS1.1.1 hb2) (HKC.out _ w2 _ _ hS1.1.2 hb2)) (And.intro (And.intro (HKC.out _ w2 _ _ hS1.2.1.1 hb2) (And.intro (HKC.out _ w2 _ _ hS1.2.1.2.1 hb2) (And.intro (HKC.out _ w2 _ _ hS1.2.1.2.2.1 hb2) (HKC.out _ w2 _ _ hS1.2.1.2.2.2 hb2)))) (And.intro (HKC.out _ w2 _ _ hS1.2.2.1 hb2) (HKC.out _ w2 _ _ hS1.2.2.2 hb2))))
    | fail)
  all_goals
    clear hhas jw
    go_wp2
    exact HE.out
theorem ho_yes (b : Bool) : hoB (yesM b) 0 = b := by cases b <;> decide
set_option maxRecDepth 100000 in
set_option maxHeartbeats 8000000 in
/-- A Step's formula: does the letter satisfy it? -/
theorem Tryd.pfits_any {T0 : Tr} {p : Nat} {vs : Value} {x bn bl : Nat} {w : World} {F : Nat → Prop} {items : List It} {M : Mt} (h : RdO T0 p vs x bn bl w F items M) (i : Nat) (S : Tr) (hi : Rep items i S) (kS : KT S) (pS : plainT S = true) (ha : LvQ T0 p vs x bn bl 34 S) :
    Calls Tryd.prog 75 #[rdV p x bn bl, .int .i64 (i : Int)] w fun e w' => e = .returned (.bool (plV x S)) ∧ ∃ F' items', Fr w w' F F' ∧ items <+: items' ∧ RdO T0 p vs x bn bl w' F' items' M := by
  have hb := below_new w (rdO p x bn bl)
  have hO := (rdO_obj T0 p vs x bn bl).up h hb
  have j1 := ha _ F items M i hO hi
  rw [aft_plain M kS pS] at j1
  have hbx := (MapKept.heap_alloc w (rdO p x bn bl)).1
  have b0 : (w.alloc (rdO p x bn bl)).cell? ⟨w.heap.size, 0, none⟩ = some (.pointer (some ⟨p, 0, none⟩)) := cell_row hbx 0
  have b1 : (w.alloc (rdO p x bn bl)).cell? ⟨w.heap.size, 1, none⟩ = some (.int .u8 (x : Int)) := cell_row hbx 1
  have b2 : (w.alloc (rdO p x bn bl)).cell? ⟨w.heap.size, 2, none⟩ = some (.map (some bn)) := cell_row hbx 2
  have b3 : (w.alloc (rdO p x bn bl)).cell? ⟨w.heap.size, 3, none⟩ = some (.map (some bl)) := cell_row hbx 3
  have HB : Hid (Fr w (w.alloc (rdO p x bn bl)) F F) := Fr.ofBelow hb
  clear h hb hO hbx hi kS pS ha
  generalize plV x S = v at *
  unfold rdO rdV at *
  go_enter Tryd.func75, Tryd.ntmps75
  go_wp2_with fail
  refine j1.mono ?_
  rintro e w1 ⟨F1, i1, fr1, hp1, ⟨L, M1, q, d, hs, rfl, hU, hO1⟩ | ⟨hs, _⟩⟩
  · injection hs with hs
    injection hs with hs1 hs2
    subst hs1 hs2
    have sm : Sm (yesM v) := fun y hy => by
      unfold yesM at hy
      cases v with
      | true => simp at hy; subst hy; decide
      | false => simp at hy
    have j2 := Tryd.holds_any q (yesM v).length d (yesM v) 0 w1 hU.sl sm (by decide)
    rw [ho_yes] at j2
    have HF : Hid (Fr w w1 F F1) := HB.out.trans fr1
    have HO : Hid _ := hO1
    clear j1 fr1 hU hO1 sm
    generalize (yesM v).length = n at *
    go_wp2_with fail
    refine j2.mono ?_
    rintro e w2 ⟨rfl, hb2⟩
    have HE : Hid (∃ F' items', Fr w w2 F F' ∧ items <+: items' ∧ RdO T0 p vs x bn bl w2 F' items' M) := ⟨F1, i1, HF.out.trans (Fr.ofBelow hb2), hp1, (rdO_obj T0 p vs x bn bl).up HO.out hb2⟩
    clear j2 hb2 HF HO
    go_wp2
    go_ret
    exact ⟨rfl, HE.out⟩
  · cases hs
end Go.Proofs.YtnedkpbpeolfoaaDoor
namespace Go.Proofs.YtnedkpbpeolfoaaDoor
open Go.RowKit Go.Maps
theorem MidR.drew {T0 : Tr} {p : Nat} {vs : Value} {x bn bl : Nat} {w : World} {F : Nat → Prop} {items : List It} {M : Mt} {B : Nat} {o : Obj} {wj : World} {Fj : Nat → Prop} {ij : List It} {Mj : Mt} (h : MidR T0 p vs x bn bl w F items M B o wj Fj ij Mj) : MidR T0 p vs x bn bl w F items M B o wj.drew Fj ij Mj :=
  ⟨(rdO_obj T0 p vs x bn bl).up h.obj (Below.refl _ _).drew, h.fr.trans (Fr.ofBelow (Below.refl _ _).drew), h.hi, h.hM, h.good, h.rb, h.rn, h.xb, h.xn⟩
theorem Tryd.true_one (w : World) : Calls Tryd.prog 31 #[] w fun e w' => ∃ q C, e = .returned (.slice q 1 C) ∧ USl w' q 1 C [0] ∧ Below w.heap.size w w' ∧ ∀ k, k < 1 → w.heap.size ≤ (adOf q k).block := Tryd.true_new w
theorem bd_zero (m : Nat) : BdL [0] m := bdL_yes true m
set_option maxRecDepth 100000 in
set_option maxHeartbeats 8000000 in
theorem Tryd.pwy_plus_false {T0 : Tr} {p : Nat} {vs : Value} {x bn bl : Nat} (c d f : Tr) (kr : KP (.bin (21, 0) c d)) (kf : KT f) (hc : WyQ T0 p vs x bn bl false c f) (hd : WyQ T0 p vs x bn bl false d f) : WyQ T0 p vs x bn bl false (.bin (21, 0) c d) f := by
  intro w F items M i k av cv s h hUs hls hbs hi hkf
  obtain ⟨op, pp, m, l, hop, hx, hm, hl⟩ : ∃ op pp m l : Nat, op = 21 ∧ items[i]? = some ⟨op, pp, (m : Int), (l : Int)⟩ ∧ Rep items m c ∧ Rep items l d := by cases hi with | bin h h1 h2 h3 h4 => exact ⟨_, 0, _, _, rfl, h, h3, h4⟩
  obtain ⟨F1, _, _, _, _, hrd⟩ := id h
  obtain ⟨G, rest, hpo⟩ := hrd.pg.part
  obtain ⟨a, n, cap, g, o, c0, hidx, x0, x1, x2, x3⟩ := (hpo.up (below_new w (rdO p x bn bl))).at hx
  obtain ⟨m0, m00⟩ := mid_start h op pp (m : Int) (l : Int)
  have hk0 := m0.cells
  have hk00 := m00.cells
  have HCL : Hid (∀ w' : World, w'.heap[w.heap.size]? = some (rdO p x bn bl) → w'.heap[w.heap.size + 1]? = some (itO ⟨op, pp, (m : Int), (l : Int)⟩) → MidS p x bn bl w.heap.size (m : Int) (l : Int) w') := fun w' e1 e2 => ⟨⟨cell_row e1 0, cell_row e1 1, cell_row e1 2, cell_row e1 3⟩, cell_row e2 2, cell_row e2 3⟩
  have hbx := (MapKept.heap_alloc w (rdO p x bn bl)).1
  have r0 : (w.alloc (rdO p x bn bl)).cell? ⟨w.heap.size, 0, none⟩ = some (.pointer (some ⟨p, 0, none⟩)) := cell_row hbx 0
  have HI : Hid (Rep items i (.bin (21, 0) c d)) := hi
  have ls : LstH s := ⟨lt_of_bd hbs m0.good.few, hls⟩
  obtain ⟨_, _, kc, kd⟩ := kp_bin kr
  have j1 := hc _ _ _ _ m k _ _ s m0.obj (hUs.fr m0.fr) hls hbs (hm) (hkf)
  unfold wyF at j1
  skip
  simp only [Bool.false_eq_true, if_false] at j1
  obtain ⟨R, hR⟩ : ∃ R, R = pthC false (.bin (21, 0) c d) s f x M := ⟨_, rfl⟩
  have HR0 : Hid (R = bindM (pthC false c s f x M) fun a M1 => bindM (pthC false d s f x M1) fun b M2 => twoM false a b M2) := by show _ = _; rw [hR]; exact pthC_plus kr s f x M
  rw [← hR]
  obtain ⟨Q, hQ⟩ : ∃ Q : Ending → World → Prop, Q = RetQ (RdO T0 p vs x bn bl) w F items M R := ⟨_, rfl⟩
  have HQ : Hid (∀ e w', RetQ (RdO T0 p vs x bn bl) w F items M R e w' → Q e w') := fun e w' h => by rw [hQ]; exact h
  rw [← hQ]
  clear hrd hpo hR hQ hbx h hx hi
  have n19 : ((op : Int) == 19) = false := by rw [beq_eq_false_iff_ne]; omega
  have n20 : ((op : Int) == 20) = false := by rw [beq_eq_false_iff_ne]; omega
  have n21 : ((op : Int) == 21) = true := by rw [beq_iff_eq]; omega
  clear hop
  unfold wyF
  simp only [Bool.false_eq_true, if_false]
  unfold boxW itO rdO MidS at *
  unfold rdV at *
  dsimp only at *
  go_enter Tryd.func65, Tryd.ntmps65
  go_wp2_with fail
  go_region_held2 (fun w' => (w'.cell? ⟨w.heap.size, 0, none⟩ = some (.pointer (some ⟨p, 0, none⟩)) ∧ w'.cell? ⟨w.heap.size, 1, none⟩ = some (.int .u8 (x : Int)) ∧ w'.cell? ⟨w.heap.size, 2, none⟩ = some (.map (some bn)) ∧ w'.cell? ⟨w.heap.size, 3, none⟩ = some (.map (some bl))) ∧ w'.cell? ⟨w.heap.size + 1, 2, none⟩ = some (.int .i64 (m : Int)) ∧ w'.cell? ⟨w.heap.size + 1, 3, none⟩ = some (.int .i64 (l : Int))) (first | exact hk0 | exact hk00 | assumption | fail) (first
      | (revert j1; intro j1; go_at_call 65; (with_reducible refine j1.mono ?_); rintro e w1 ⟨F1, i1, fr1, hp1, ⟨L1, M1, q1, d1, hs1, rfl, hU1, hO1⟩ | ⟨hs1, rfl, M1, hpm1, hO1⟩⟩; (case inr => exact ⟨rfl, HQ.out _ _ (m0.bad (by rw [HR0.out, hs1]; first | done | rfl) fr1 hp1 hpm1 hO1)⟩); have hr1 := HR0.out; rw [hs1] at hr1; dsimp only [bindM] at hr1; have HR1 : Hid _ := hr1; clear hr1; have l1 := pth_lg m0.good kc kf hbs hs1; have m1 := m0.step fr1 hp1 hO1 l1.pre l1.good; have hk1 := HCL.out _ m1.rb m1.xb; have j2 := hd _ _ _ _ l k _ _ s m1.obj (hUs.fr m1.fr) hls (hbs.mono m1.hM.length_le) (hl.pre m1.hi) (hkf.pre m1.hi); (try unfold wyF at j2); (try unfold rdV at j2); simp only [Bool.false_eq_true, if_false] at j2)
      | (revert j2; intro j2; go_at_call 65; (with_reducible refine j2.mono ?_); rintro e w2 ⟨F2, i2, fr2, hp2, ⟨L2, M2, q2, d2, hs2, rfl, hU2, hO2⟩ | ⟨hs2, rfl, M2, hpm2, hO2⟩⟩; (case inr => exact ⟨rfl, HQ.out _ _ (m1.bad (by rw [HR1.out, hs2]; first | done | rfl) fr2 hp2 hpm2 hO2)⟩); have hr2 := HR1.out; rw [hs2] at hr2; dsimp only [bindM] at hr2; have HR2 : Hid _ := hr2; clear hr2; have l2 := pth_lg m1.good kd kf (hbs.mono m1.hM.length_le) hs2; have m2 := m1.step fr2 hp2 hO2 l2.pre l2.good; have hk2 := HCL.out _ m2.rb m2.xb; have j3 := Tryd.ptwo (rdO_obj T0 p vs x bn bl) false m2.obj (hU1.fr fr2) (hU2) l1.lst l2.lst; unfold twF at j3; simp only [Bool.false_eq_true, if_false] at j3)
      | (revert j3; intro j3; go_at_call 35; (with_reducible refine j3.mono ?_); rintro e w3 ⟨F3, i3, fr3, hp3, ⟨L3, M3, q3, d3, hs3, rfl, hU3, hO3⟩ | ⟨hs3, rfl, M3, hpm3, hO3⟩⟩; (case inr => exact ⟨rfl, HQ.out _ _ (m2.bad (by rw [HR2.out, hs3]; first | done | rfl) fr3 hp3 hpm3 hO3)⟩); have hk3 : Hid (Q (.returned (.slice q3 L3.length d3)) w3) := (HQ.out _ _ (m2.fin (by rw [HR2.out, hs3]; first | done | rfl) fr3 hp3 hU3 hO3)); have hkk3 := HCL.out _ (box_keep m2.rb m2.rn fr3).1 (box_keep m2.xb m2.xn fr3).1)
      | fail)
  all_goals
    clear j1 j2 j3
    go_wp2
    exact hk3.out
set_option maxRecDepth 100000 in
set_option maxHeartbeats 8000000 in
theorem Tryd.pwy_seq_false {T0 : Tr} {p : Nat} {vs : Value} {x bn bl : Nat} (c d f : Tr) (kr : KP (.bin (22, 0) c d)) (kf : KT f) (hS : InC T0 (.bin (modeO false, 0) d f)) (hc : WyQ T0 p vs x bn bl false c (.bin (modeO false, 0) d f)) (hd : WyQ T0 p vs x bn bl false d f) : WyQ T0 p vs x bn bl false (.bin (22, 0) c d) f := by
  intro w F items M i k av cv s h hUs hls hbs hi hkf
  obtain ⟨op, pp, m, l, hop, hx, hm, hl⟩ : ∃ op pp m l : Nat, op = 22 ∧ items[i]? = some ⟨op, pp, (m : Int), (l : Int)⟩ ∧ Rep items m c ∧ Rep items l d := by cases hi with | bin h h1 h2 h3 h4 => exact ⟨_, 0, _, _, rfl, h, h3, h4⟩
  obtain ⟨F1, _, _, _, _, hrd⟩ := id h
  obtain ⟨G, rest, hpo⟩ := hrd.pg.part
  obtain ⟨a, n, cap, g, o, c0, hidx, x0, x1, x2, x3⟩ := (hpo.up (below_new w (rdO p x bn bl))).at hx
  obtain ⟨m0, m00⟩ := mid_start h op pp (m : Int) (l : Int)
  have hk0 := m0.cells
  have hk00 := m00.cells
  have HCL : Hid (∀ w' : World, w'.heap[w.heap.size]? = some (rdO p x bn bl) → w'.heap[w.heap.size + 1]? = some (itO ⟨op, pp, (m : Int), (l : Int)⟩) → MidS p x bn bl w.heap.size (m : Int) (l : Int) w') := fun w' e1 e2 => ⟨⟨cell_row e1 0, cell_row e1 1, cell_row e1 2, cell_row e1 3⟩, cell_row e2 2, cell_row e2 3⟩
  have hbx := (MapKept.heap_alloc w (rdO p x bn bl)).1
  have r0 : (w.alloc (rdO p x bn bl)).cell? ⟨w.heap.size, 0, none⟩ = some (.pointer (some ⟨p, 0, none⟩)) := cell_row hbx 0
  have HI : Hid (Rep items i (.bin (22, 0) c d)) := hi
  obtain ⟨_, _, kc, kd⟩ := kp_bin kr
  have HS : Hid (InC T0 (.bin (modeO false, 0) d f)) := hS
  have j1 := hd _ _ _ _ l k _ _ s m00.obj (hUs.fr m00.fr) hls hbs (hl) (hkf)
  unfold wyF at j1
  skip
  simp only [Bool.false_eq_true, if_false] at j1
  obtain ⟨R, hR⟩ : ∃ R, R = pthC false (.bin (22, 0) c d) s f x M := ⟨_, rfl⟩
  have HR0 : Hid (R = bindM (pthC false d s f x M) fun a M1 => pthC false c a (.bin (modeO false, 0) d f) x M1) := by show _ = _; rw [hR]; exact pthC_seq kr s f x M
  rw [← hR]
  obtain ⟨Q, hQ⟩ : ∃ Q : Ending → World → Prop, Q = RetQ (RdO T0 p vs x bn bl) w F items M R := ⟨_, rfl⟩
  have HQ : Hid (∀ e w', RetQ (RdO T0 p vs x bn bl) w F items M R e w' → Q e w') := fun e w' h => by rw [hQ]; exact h
  rw [← hQ]
  clear hrd hpo hR hQ hbx h hx hi
  have n19 : ((op : Int) == 19) = false := by rw [beq_eq_false_iff_ne]; omega
  have n20 : ((op : Int) == 20) = false := by rw [beq_eq_false_iff_ne]; omega
  have n21 : ((op : Int) == 21) = false := by rw [beq_eq_false_iff_ne]; omega
  have n22 : ((op : Int) == 22) = true := by rw [beq_iff_eq]; omega
  clear hop
  unfold wyF
  simp only [Bool.false_eq_true, if_false]
  unfold boxW itO rdO MidS at *
  unfold rdV at *
  dsimp only at *
  go_enter Tryd.func65, Tryd.ntmps65
  go_wp2_with fail
  refine j1.mono ?_
  rintro e w1 ⟨F1, i1, fr1, hp1, ⟨L1, M1, q1, d1, hs1, rfl, hU1, hO1⟩ | ⟨hs1, rfl, M1, hpm1, hO1⟩⟩
  case inr => exact ⟨rfl, HQ.out _ _ (m00.bad (by rw [HR0.out, hs1]; first | done | rfl) fr1 hp1 hpm1 hO1)⟩
  have hr1 := HR0.out
  rw [hs1] at hr1
  dsimp only [bindM] at hr1
  have HR1 : Hid _ := hr1
  have l1 := pth_lg m00.good kd kf hbs hs1
  have m1a := m00.step fr1 hp1 hO1 l1.pre l1.good
  have m1 := m1a.drew
  have hk1 := HCL.out _ m1.rb m1.xb
  have hk1a := HCL.out _ m1a.rb m1a.xb
  have hU1 : US w1.drew F1 q1 L1.length d1 L1 := hU1.up (Below.refl _ _).drew
  have j2 : Calls Tryd.prog 76 #[.pointer (some ⟨p, 0, none⟩), .int .u8 17, .int .i64 (l : Int), .int .i64 (k : Int)] w1.drew (KeptQ T0 p vs x bn bl w1.drew F1 i1 M1 (.bin (modeO false, 0) d f)) := kept_of m1.obj fun G rest hpo => Tryd.palong_any hpo 17 (by decide) l k d f (hl.pre m1.hi) (hkf.pre m1.hi) HS.out
  clear j1 hr1 hk0 hk00 m0
  go_wp2_with fail
  go_region_held2 (fun w' => (w'.cell? ⟨w.heap.size, 0, none⟩ = some (.pointer (some ⟨p, 0, none⟩)) ∧ w'.cell? ⟨w.heap.size, 1, none⟩ = some (.int .u8 (x : Int)) ∧ w'.cell? ⟨w.heap.size, 2, none⟩ = some (.map (some bn)) ∧ w'.cell? ⟨w.heap.size, 3, none⟩ = some (.map (some bl))) ∧ w'.cell? ⟨w.heap.size + 1, 2, none⟩ = some (.int .i64 (m : Int)) ∧ w'.cell? ⟨w.heap.size + 1, 3, none⟩ = some (.int .i64 (l : Int))) (first | exact hk1 | exact hk1a | assumption | fail) (first
      | (revert j2; intro j2; go_at_call 76; (with_reducible refine j2.mono ?_); rintro e w2 ⟨n2, i2, F2, rfl, hp2, hrep2, fr2, hO2⟩; have m2 := m1.step fr2 hp2 hO2 (List.prefix_refl _) m1.good; have hk2 := HCL.out _ m2.rb m2.xb; have HR2 : Hid _ := HR1.out; have j3 := hc _ _ _ _ m n2 _ _ L1 m2.obj (hU1.fr fr2) l1.len l1.bd (hm.pre m2.hi) (hrep2); (try unfold wyF at j3); (try unfold rdV at j3); simp only [Bool.false_eq_true, if_false] at j3)
      | (revert j3; intro j3; go_at_call 65; (with_reducible refine j3.mono ?_); rintro e w3 ⟨F3, i3, fr3, hp3, ⟨L3, M3, q3, d3, hs3, rfl, hU3, hO3⟩ | ⟨hs3, rfl, M3, hpm3, hO3⟩⟩; (case inr => exact ⟨rfl, HQ.out _ _ (m2.bad (by rw [HR2.out, hs3]; first | done | rfl) fr3 hp3 hpm3 hO3)⟩); have hk3 : Hid (Q (.returned (.slice q3 L3.length d3)) w3) := (HQ.out _ _ (m2.fin (by rw [HR2.out, hs3]; first | done | rfl) fr3 hp3 hU3 hO3)); have hkk3 := HCL.out _ (box_keep m2.rb m2.rn fr3).1 (box_keep m2.xb m2.xn fr3).1)
      | fail)
  all_goals
    clear j2 j3
    go_wp2
    exact hk3.out
set_option maxRecDepth 100000 in
set_option maxHeartbeats 8000000 in
theorem Tryd.pwy_plus_true {T0 : Tr} {p : Nat} {vs : Value} {x bn bl : Nat} (c d f : Tr) (kr : KP (.bin (21, 0) c d)) (kf : KT f) (hc : WyQ T0 p vs x bn bl true c f) (hd : WyQ T0 p vs x bn bl true d f) : WyQ T0 p vs x bn bl true (.bin (21, 0) c d) f := by
  intro w F items M i k av cv s h hUs hls hbs hi hkf
  obtain ⟨op, pp, m, l, hop, hx, hm, hl⟩ : ∃ op pp m l : Nat, op = 21 ∧ items[i]? = some ⟨op, pp, (m : Int), (l : Int)⟩ ∧ Rep items m c ∧ Rep items l d := by cases hi with | bin h h1 h2 h3 h4 => exact ⟨_, 0, _, _, rfl, h, h3, h4⟩
  obtain ⟨F1, _, _, _, _, hrd⟩ := id h
  obtain ⟨G, rest, hpo⟩ := hrd.pg.part
  obtain ⟨a, n, cap, g, o, c0, hidx, x0, x1, x2, x3⟩ := (hpo.up (below_new w (rdO p x bn bl))).at hx
  obtain ⟨m0, m00⟩ := mid_start h op pp (m : Int) (l : Int)
  have hk0 := m0.cells
  have hk00 := m00.cells
  have HCL : Hid (∀ w' : World, w'.heap[w.heap.size]? = some (rdO p x bn bl) → w'.heap[w.heap.size + 1]? = some (itO ⟨op, pp, (m : Int), (l : Int)⟩) → MidS p x bn bl w.heap.size (m : Int) (l : Int) w') := fun w' e1 e2 => ⟨⟨cell_row e1 0, cell_row e1 1, cell_row e1 2, cell_row e1 3⟩, cell_row e2 2, cell_row e2 3⟩
  have hbx := (MapKept.heap_alloc w (rdO p x bn bl)).1
  have r0 : (w.alloc (rdO p x bn bl)).cell? ⟨w.heap.size, 0, none⟩ = some (.pointer (some ⟨p, 0, none⟩)) := cell_row hbx 0
  have HI : Hid (Rep items i (.bin (21, 0) c d)) := hi
  have ls : LstH s := ⟨lt_of_bd hbs m0.good.few, hls⟩
  obtain ⟨_, _, kc, kd⟩ := kp_bin kr
  have j1 := hc _ _ _ _ m k _ _ s m0.obj (hUs.fr m0.fr) hls hbs (hm) (hkf)
  unfold wyF at j1
  skip
  simp only [if_true] at j1
  obtain ⟨R, hR⟩ : ∃ R, R = pthC true (.bin (21, 0) c d) s f x M := ⟨_, rfl⟩
  have HR0 : Hid (R = bindM (pthC true c s f x M) fun a M1 => bindM (pthC true d s f x M1) fun b M2 => twoM true a b M2) := by show _ = _; rw [hR]; exact pthC_plus kr s f x M
  rw [← hR]
  obtain ⟨Q, hQ⟩ : ∃ Q : Ending → World → Prop, Q = RetQ (RdO T0 p vs x bn bl) w F items M R := ⟨_, rfl⟩
  have HQ : Hid (∀ e w', RetQ (RdO T0 p vs x bn bl) w F items M R e w' → Q e w') := fun e w' h => by rw [hQ]; exact h
  rw [← hQ]
  clear hrd hpo hR hQ hbx h hx hi
  have n19 : ((op : Int) == 19) = false := by rw [beq_eq_false_iff_ne]; omega
  have n20 : ((op : Int) == 20) = false := by rw [beq_eq_false_iff_ne]; omega
  have n21 : ((op : Int) == 21) = true := by rw [beq_iff_eq]; omega
  clear hop
  unfold wyF
  simp only [if_true]
  unfold boxW itO rdO MidS at *
  unfold rdV at *
  dsimp only at *
  go_enter Tryd.func66, Tryd.ntmps66
  go_wp2_with fail
  go_region_held2 (fun w' => (w'.cell? ⟨w.heap.size, 0, none⟩ = some (.pointer (some ⟨p, 0, none⟩)) ∧ w'.cell? ⟨w.heap.size, 1, none⟩ = some (.int .u8 (x : Int)) ∧ w'.cell? ⟨w.heap.size, 2, none⟩ = some (.map (some bn)) ∧ w'.cell? ⟨w.heap.size, 3, none⟩ = some (.map (some bl))) ∧ w'.cell? ⟨w.heap.size + 1, 2, none⟩ = some (.int .i64 (m : Int)) ∧ w'.cell? ⟨w.heap.size + 1, 3, none⟩ = some (.int .i64 (l : Int))) (first | exact hk0 | exact hk00 | assumption | fail) (first
      | (revert j1; intro j1; go_at_call 66; (with_reducible refine j1.mono ?_); rintro e w1 ⟨F1, i1, fr1, hp1, ⟨L1, M1, q1, d1, hs1, rfl, hU1, hO1⟩ | ⟨hs1, rfl, M1, hpm1, hO1⟩⟩; (case inr => exact ⟨rfl, HQ.out _ _ (m0.bad (by rw [HR0.out, hs1]; first | done | rfl) fr1 hp1 hpm1 hO1)⟩); have hr1 := HR0.out; rw [hs1] at hr1; dsimp only [bindM] at hr1; have HR1 : Hid _ := hr1; clear hr1; have l1 := pth_lg m0.good kc kf hbs hs1; have m1 := m0.step fr1 hp1 hO1 l1.pre l1.good; have hk1 := HCL.out _ m1.rb m1.xb; have j2 := hd _ _ _ _ l k _ _ s m1.obj (hUs.fr m1.fr) hls (hbs.mono m1.hM.length_le) (hl.pre m1.hi) (hkf.pre m1.hi); (try unfold wyF at j2); (try unfold rdV at j2); simp only [if_true] at j2)
      | (revert j2; intro j2; go_at_call 66; (with_reducible refine j2.mono ?_); rintro e w2 ⟨F2, i2, fr2, hp2, ⟨L2, M2, q2, d2, hs2, rfl, hU2, hO2⟩ | ⟨hs2, rfl, M2, hpm2, hO2⟩⟩; (case inr => exact ⟨rfl, HQ.out _ _ (m1.bad (by rw [HR1.out, hs2]; first | done | rfl) fr2 hp2 hpm2 hO2)⟩); have hr2 := HR1.out; rw [hs2] at hr2; dsimp only [bindM] at hr2; have HR2 : Hid _ := hr2; clear hr2; have l2 := pth_lg m1.good kd kf (hbs.mono m1.hM.length_le) hs2; have m2 := m1.step fr2 hp2 hO2 l2.pre l2.good; have hk2 := HCL.out _ m2.rb m2.xb; have j3 := Tryd.ptwo (rdO_obj T0 p vs x bn bl) true m2.obj (hU1.fr fr2) (hU2) l1.lst l2.lst; unfold twF at j3; simp only [if_true] at j3)
      | (revert j3; intro j3; go_at_call 33; (with_reducible refine j3.mono ?_); rintro e w3 ⟨F3, i3, fr3, hp3, ⟨L3, M3, q3, d3, hs3, rfl, hU3, hO3⟩ | ⟨hs3, rfl, M3, hpm3, hO3⟩⟩; (case inr => exact ⟨rfl, HQ.out _ _ (m2.bad (by rw [HR2.out, hs3]; first | done | rfl) fr3 hp3 hpm3 hO3)⟩); have hk3 : Hid (Q (.returned (.slice q3 L3.length d3)) w3) := (HQ.out _ _ (m2.fin (by rw [HR2.out, hs3]; first | done | rfl) fr3 hp3 hU3 hO3)); have hkk3 := HCL.out _ (box_keep m2.rb m2.rn fr3).1 (box_keep m2.xb m2.xn fr3).1)
      | fail)
  all_goals
    clear j1 j2 j3
    go_wp2
    exact hk3.out
set_option maxRecDepth 100000 in
set_option maxHeartbeats 8000000 in
theorem Tryd.pwy_seq_true {T0 : Tr} {p : Nat} {vs : Value} {x bn bl : Nat} (c d f : Tr) (kr : KP (.bin (22, 0) c d)) (kf : KT f) (hS : InC T0 (.bin (modeO true, 0) d f)) (hc : WyQ T0 p vs x bn bl true c (.bin (modeO true, 0) d f)) (hd : WyQ T0 p vs x bn bl true d f) : WyQ T0 p vs x bn bl true (.bin (22, 0) c d) f := by
  intro w F items M i k av cv s h hUs hls hbs hi hkf
  obtain ⟨op, pp, m, l, hop, hx, hm, hl⟩ : ∃ op pp m l : Nat, op = 22 ∧ items[i]? = some ⟨op, pp, (m : Int), (l : Int)⟩ ∧ Rep items m c ∧ Rep items l d := by cases hi with | bin h h1 h2 h3 h4 => exact ⟨_, 0, _, _, rfl, h, h3, h4⟩
  obtain ⟨F1, _, _, _, _, hrd⟩ := id h
  obtain ⟨G, rest, hpo⟩ := hrd.pg.part
  obtain ⟨a, n, cap, g, o, c0, hidx, x0, x1, x2, x3⟩ := (hpo.up (below_new w (rdO p x bn bl))).at hx
  obtain ⟨m0, m00⟩ := mid_start h op pp (m : Int) (l : Int)
  have hk0 := m0.cells
  have hk00 := m00.cells
  have HCL : Hid (∀ w' : World, w'.heap[w.heap.size]? = some (rdO p x bn bl) → w'.heap[w.heap.size + 1]? = some (itO ⟨op, pp, (m : Int), (l : Int)⟩) → MidS p x bn bl w.heap.size (m : Int) (l : Int) w') := fun w' e1 e2 => ⟨⟨cell_row e1 0, cell_row e1 1, cell_row e1 2, cell_row e1 3⟩, cell_row e2 2, cell_row e2 3⟩
  have hbx := (MapKept.heap_alloc w (rdO p x bn bl)).1
  have r0 : (w.alloc (rdO p x bn bl)).cell? ⟨w.heap.size, 0, none⟩ = some (.pointer (some ⟨p, 0, none⟩)) := cell_row hbx 0
  have HI : Hid (Rep items i (.bin (22, 0) c d)) := hi
  obtain ⟨_, _, kc, kd⟩ := kp_bin kr
  have HS : Hid (InC T0 (.bin (modeO true, 0) d f)) := hS
  have j1 := hd _ _ _ _ l k _ _ s m00.obj (hUs.fr m00.fr) hls hbs (hl) (hkf)
  unfold wyF at j1
  skip
  simp only [if_true] at j1
  obtain ⟨R, hR⟩ : ∃ R, R = pthC true (.bin (22, 0) c d) s f x M := ⟨_, rfl⟩
  have HR0 : Hid (R = bindM (pthC true d s f x M) fun a M1 => pthC true c a (.bin (modeO true, 0) d f) x M1) := by show _ = _; rw [hR]; exact pthC_seq kr s f x M
  rw [← hR]
  obtain ⟨Q, hQ⟩ : ∃ Q : Ending → World → Prop, Q = RetQ (RdO T0 p vs x bn bl) w F items M R := ⟨_, rfl⟩
  have HQ : Hid (∀ e w', RetQ (RdO T0 p vs x bn bl) w F items M R e w' → Q e w') := fun e w' h => by rw [hQ]; exact h
  rw [← hQ]
  clear hrd hpo hR hQ hbx h hx hi
  have n19 : ((op : Int) == 19) = false := by rw [beq_eq_false_iff_ne]; omega
  have n20 : ((op : Int) == 20) = false := by rw [beq_eq_false_iff_ne]; omega
  have n21 : ((op : Int) == 21) = false := by rw [beq_eq_false_iff_ne]; omega
  have n22 : ((op : Int) == 22) = true := by rw [beq_iff_eq]; omega
  clear hop
  unfold wyF
  simp only [if_true]
  unfold boxW itO rdO MidS at *
  unfold rdV at *
  dsimp only at *
  go_enter Tryd.func66, Tryd.ntmps66
  go_wp2_with fail
  refine j1.mono ?_
  rintro e w1 ⟨F1, i1, fr1, hp1, ⟨L1, M1, q1, d1, hs1, rfl, hU1, hO1⟩ | ⟨hs1, rfl, M1, hpm1, hO1⟩⟩
  case inr => exact ⟨rfl, HQ.out _ _ (m00.bad (by rw [HR0.out, hs1]; first | done | rfl) fr1 hp1 hpm1 hO1)⟩
  have hr1 := HR0.out
  rw [hs1] at hr1
  dsimp only [bindM] at hr1
  have HR1 : Hid _ := hr1
  have l1 := pth_lg m00.good kd kf hbs hs1
  have m1a := m00.step fr1 hp1 hO1 l1.pre l1.good
  have m1 := m1a.drew
  have hk1 := HCL.out _ m1.rb m1.xb
  have hk1a := HCL.out _ m1a.rb m1a.xb
  have hU1 : US w1.drew F1 q1 L1.length d1 L1 := hU1.up (Below.refl _ _).drew
  have j2 : Calls Tryd.prog 76 #[.pointer (some ⟨p, 0, none⟩), .int .u8 18, .int .i64 (l : Int), .int .i64 (k : Int)] w1.drew (KeptQ T0 p vs x bn bl w1.drew F1 i1 M1 (.bin (modeO true, 0) d f)) := kept_of m1.obj fun G rest hpo => Tryd.palong_any hpo 18 (by decide) l k d f (hl.pre m1.hi) (hkf.pre m1.hi) HS.out
  clear j1 hr1 hk0 hk00 m0
  go_wp2_with fail
  go_region_held2 (fun w' => (w'.cell? ⟨w.heap.size, 0, none⟩ = some (.pointer (some ⟨p, 0, none⟩)) ∧ w'.cell? ⟨w.heap.size, 1, none⟩ = some (.int .u8 (x : Int)) ∧ w'.cell? ⟨w.heap.size, 2, none⟩ = some (.map (some bn)) ∧ w'.cell? ⟨w.heap.size, 3, none⟩ = some (.map (some bl))) ∧ w'.cell? ⟨w.heap.size + 1, 2, none⟩ = some (.int .i64 (m : Int)) ∧ w'.cell? ⟨w.heap.size + 1, 3, none⟩ = some (.int .i64 (l : Int))) (first | exact hk1 | exact hk1a | assumption | fail) (first
      | (revert j2; intro j2; go_at_call 76; (with_reducible refine j2.mono ?_); rintro e w2 ⟨n2, i2, F2, rfl, hp2, hrep2, fr2, hO2⟩; have m2 := m1.step fr2 hp2 hO2 (List.prefix_refl _) m1.good; have hk2 := HCL.out _ m2.rb m2.xb; have HR2 : Hid _ := HR1.out; have j3 := hc _ _ _ _ m n2 _ _ L1 m2.obj (hU1.fr fr2) l1.len l1.bd (hm.pre m2.hi) (hrep2); (try unfold wyF at j3); (try unfold rdV at j3); simp only [if_true] at j3)
      | (revert j3; intro j3; go_at_call 66; (with_reducible refine j3.mono ?_); rintro e w3 ⟨F3, i3, fr3, hp3, ⟨L3, M3, q3, d3, hs3, rfl, hU3, hO3⟩ | ⟨hs3, rfl, M3, hpm3, hO3⟩⟩; (case inr => exact ⟨rfl, HQ.out _ _ (m2.bad (by rw [HR2.out, hs3]; first | done | rfl) fr3 hp3 hpm3 hO3)⟩); have hk3 : Hid (Q (.returned (.slice q3 L3.length d3)) w3) := (HQ.out _ _ (m2.fin (by rw [HR2.out, hs3]; first | done | rfl) fr3 hp3 hU3 hO3)); have hkk3 := HCL.out _ (box_keep m2.rb m2.rn fr3).1 (box_keep m2.xb m2.xn fr3).1)
      | fail)
  all_goals
    clear j2 j3
    go_wp2
    exact hk3.out
set_option maxRecDepth 100000 in
set_option maxHeartbeats 8000000 in
theorem Tryd.pwy_star_false {T0 : Tr} {p : Nat} {vs : Value} {x bn bl : Nat} (c f : Tr) (kr : KP (.un (23, 0) c)) (kf : KT f) (hS : InC T0 (.bin (modeO false, 0) (.un (23, 0) c) f)) (hc : WyQ T0 p vs x bn bl false c (.bin (modeO false, 0) (.un (23, 0) c) f)) : WyQ T0 p vs x bn bl false (.un (23, 0) c) f := by
  intro w F items M i k av cv s h hUs hls hbs hi hkf
  obtain ⟨op, pp, m, hop, hx, hm⟩ : ∃ op pp m : Nat, op = 23 ∧ items[i]? = some ⟨op, pp, (m : Int), -1⟩ ∧ Rep items m c := by cases hi with | un h h1 h2 => exact ⟨_, 0, _, rfl, h, h2⟩
  obtain ⟨F1, _, _, _, _, hrd⟩ := id h
  obtain ⟨G, rest, hpo⟩ := hrd.pg.part
  obtain ⟨a, n, cap, g, o, c0, hidx, x0, x1, x2, x3⟩ := (hpo.up (below_new w (rdO p x bn bl))).at hx
  obtain ⟨m0, m00⟩ := mid_start h op pp (m : Int) (-1)
  have hk0 := m0.cells
  have hk00 := m00.cells
  have HCL : Hid (∀ w' : World, w'.heap[w.heap.size]? = some (rdO p x bn bl) → w'.heap[w.heap.size + 1]? = some (itO ⟨op, pp, (m : Int), (-1)⟩) → MidS p x bn bl w.heap.size (m : Int) (-1) w') := fun w' e1 e2 => ⟨⟨cell_row e1 0, cell_row e1 1, cell_row e1 2, cell_row e1 3⟩, cell_row e2 2, cell_row e2 3⟩
  have hbx := (MapKept.heap_alloc w (rdO p x bn bl)).1
  have r0 : (w.alloc (rdO p x bn bl)).cell? ⟨w.heap.size, 0, none⟩ = some (.pointer (some ⟨p, 0, none⟩)) := cell_row hbx 0
  have HI : Hid (Rep items i (.un (23, 0) c)) := hi
  have ls : LstH s := ⟨lt_of_bd hbs m0.good.few, hls⟩
  have kc : KP c := by
    rcases kp_un kr with ⟨_, ⟨h6, _⟩ | ⟨h6, _⟩ | ⟨_, h6⟩⟩
    · cases h6
    · cases h6
    · exact h6
  have HS : Hid (InC T0 (.bin (modeO false, 0) (.un (23, 0) c) f)) := hS
  have HKM : Hid (KT (.bin (modeO false, 0) (.un (23, 0) c) f)) := kt_mode kr kf false
  have j1 : Calls Tryd.prog 76 #[.pointer (some ⟨p, 0, none⟩), .int .u8 17, .int .i64 (i : Int), .int .i64 (k : Int)] (boxW w p x bn bl op pp (m : Int) (-1)).drew (KeptQ T0 p vs x bn bl (boxW w p x bn bl op pp (m : Int) (-1)).drew F items M (.bin (modeO false, 0) (.un (23, 0) c) f)) := kept_of m0.obj fun G rest hpo => Tryd.palong_any hpo 17 (by decide) i k (.un (23, 0) c) f (HI.out.pre m0.hi) (hkf.pre m0.hi) HS.out
  obtain ⟨R, hR⟩ : ∃ R, R = pthC false (.un (23, 0) c) s f x M := ⟨_, rfl⟩
  have HR0 : Hid (R = bindM (pthC false c [] (.bin (modeO false, 0) (.un (23, 0) c) f) x M) fun a M1 => twoM false s a M1) := by show _ = _; rw [hR]; exact pthC_star kr s f x M
  rw [← hR]
  obtain ⟨Q, hQ⟩ : ∃ Q : Ending → World → Prop, Q = RetQ (RdO T0 p vs x bn bl) w F items M R := ⟨_, rfl⟩
  have HQ : Hid (∀ e w', RetQ (RdO T0 p vs x bn bl) w F items M R e w' → Q e w') := fun e w' h => by rw [hQ]; exact h
  rw [← hQ]
  clear hrd hpo hR hQ hbx h hx hi
  have n19 : ((op : Int) == 19) = false := by rw [beq_eq_false_iff_ne]; omega
  have n20 : ((op : Int) == 20) = false := by rw [beq_eq_false_iff_ne]; omega
  have n21 : ((op : Int) == 21) = false := by rw [beq_eq_false_iff_ne]; omega
  have n22 : ((op : Int) == 22) = false := by rw [beq_eq_false_iff_ne]; omega
  clear hop
  unfold wyF
  simp only [Bool.false_eq_true, if_false]
  unfold boxW itO rdO MidS at *
  unfold rdV at *
  dsimp only at *
  go_enter Tryd.func65, Tryd.ntmps65
  go_wp2_with fail
  go_region_held2 (fun w' => (w'.cell? ⟨w.heap.size, 0, none⟩ = some (.pointer (some ⟨p, 0, none⟩)) ∧ w'.cell? ⟨w.heap.size, 1, none⟩ = some (.int .u8 (x : Int)) ∧ w'.cell? ⟨w.heap.size, 2, none⟩ = some (.map (some bn)) ∧ w'.cell? ⟨w.heap.size, 3, none⟩ = some (.map (some bl))) ∧ w'.cell? ⟨w.heap.size + 1, 2, none⟩ = some (.int .i64 (m : Int)) ∧ w'.cell? ⟨w.heap.size + 1, 3, none⟩ = some (.int .i64 (-1))) (first | exact hk0 | exact hk00 | assumption | fail) (first
      | (revert j1; intro j1; go_at_call 76; (with_reducible refine j1.mono ?_); rintro e w1 ⟨n1, i1, F1, rfl, hp1, hrep1, fr1, hO1⟩; have m1 := m0.step fr1 hp1 hO1 (List.prefix_refl _) m0.good; have hk1 := HCL.out _ m1.rb m1.xb; have HR1 : Hid _ := HR0.out; have j2 := hc _ _ _ _ m n1 _ _ [] m1.obj (nil_us _ _) (by simp) (bdL_yes false _) (hm.pre m1.hi) (hrep1); (try unfold wyF at j2); (try unfold rdV at j2); simp only [Bool.false_eq_true, if_false, List.length_nil] at j2)
      | (revert j2; intro j2; go_at_call 65; (with_reducible refine j2.mono ?_); rintro e w2 ⟨F2, i2, fr2, hp2, ⟨L2, M2, q2, d2, hs2, rfl, hU2, hO2⟩ | ⟨hs2, rfl, M2, hpm2, hO2⟩⟩; (case inr => exact ⟨rfl, HQ.out _ _ (m1.bad (by rw [HR1.out, hs2]; first | done | rfl) fr2 hp2 hpm2 hO2)⟩); have hr2 := HR1.out; rw [hs2] at hr2; dsimp only [bindM] at hr2; have HR2 : Hid _ := hr2; clear hr2; have l2 := pth_lg m1.good kc HKM.out (bdL_yes false _) hs2; have m2 := m1.step fr2 hp2 hO2 l2.pre l2.good; have hk2 := HCL.out _ m2.rb m2.xb; have j3 := Tryd.ptwo (rdO_obj T0 p vs x bn bl) false m2.obj (hUs.fr m2.fr) (hU2) ls l2.lst; unfold twF at j3; simp only [Bool.false_eq_true, if_false] at j3)
      | (revert j3; intro j3; go_at_call 35; (with_reducible refine j3.mono ?_); rintro e w3 ⟨F3, i3, fr3, hp3, ⟨L3, M3, q3, d3, hs3, rfl, hU3, hO3⟩ | ⟨hs3, rfl, M3, hpm3, hO3⟩⟩; (case inr => exact ⟨rfl, HQ.out _ _ (m2.bad (by rw [HR2.out, hs3]; first | done | rfl) fr3 hp3 hpm3 hO3)⟩); have hk3 : Hid (Q (.returned (.slice q3 L3.length d3)) w3) := (HQ.out _ _ (m2.fin (by rw [HR2.out, hs3]; first | done | rfl) fr3 hp3 hU3 hO3)); have hkk3 := HCL.out _ (box_keep m2.rb m2.rn fr3).1 (box_keep m2.xb m2.xn fr3).1)
      | fail)
  all_goals
    clear j1 j2 j3
    go_wp2
    exact hk3.out
set_option maxRecDepth 100000 in
set_option maxHeartbeats 8000000 in
theorem Tryd.pwy_star_true {T0 : Tr} {p : Nat} {vs : Value} {x bn bl : Nat} (c f : Tr) (kr : KP (.un (23, 0) c)) (kf : KT f) (hS : InC T0 (.bin (modeO true, 0) (.un (23, 0) c) f)) (hc : WyQ T0 p vs x bn bl true c (.bin (modeO true, 0) (.un (23, 0) c) f)) : WyQ T0 p vs x bn bl true (.un (23, 0) c) f := by
  intro w F items M i k av cv s h hUs hls hbs hi hkf
  obtain ⟨op, pp, m, hop, hx, hm⟩ : ∃ op pp m : Nat, op = 23 ∧ items[i]? = some ⟨op, pp, (m : Int), -1⟩ ∧ Rep items m c := by cases hi with | un h h1 h2 => exact ⟨_, 0, _, rfl, h, h2⟩
  obtain ⟨F1, _, _, _, _, hrd⟩ := id h
  obtain ⟨G, rest, hpo⟩ := hrd.pg.part
  obtain ⟨a, n, cap, g, o, c0, hidx, x0, x1, x2, x3⟩ := (hpo.up (below_new w (rdO p x bn bl))).at hx
  obtain ⟨m0, m00⟩ := mid_start h op pp (m : Int) (-1)
  have hk0 := m0.cells
  have hk00 := m00.cells
  have HCL : Hid (∀ w' : World, w'.heap[w.heap.size]? = some (rdO p x bn bl) → w'.heap[w.heap.size + 1]? = some (itO ⟨op, pp, (m : Int), (-1)⟩) → MidS p x bn bl w.heap.size (m : Int) (-1) w') := fun w' e1 e2 => ⟨⟨cell_row e1 0, cell_row e1 1, cell_row e1 2, cell_row e1 3⟩, cell_row e2 2, cell_row e2 3⟩
  have hbx := (MapKept.heap_alloc w (rdO p x bn bl)).1
  have r0 : (w.alloc (rdO p x bn bl)).cell? ⟨w.heap.size, 0, none⟩ = some (.pointer (some ⟨p, 0, none⟩)) := cell_row hbx 0
  have HI : Hid (Rep items i (.un (23, 0) c)) := hi
  have ls : LstH s := ⟨lt_of_bd hbs m0.good.few, hls⟩
  have kc : KP c := by
    rcases kp_un kr with ⟨_, ⟨h6, _⟩ | ⟨h6, _⟩ | ⟨_, h6⟩⟩
    · cases h6
    · cases h6
    · exact h6
  have HS : Hid (InC T0 (.bin (modeO true, 0) (.un (23, 0) c) f)) := hS
  have HKM : Hid (KT (.bin (modeO true, 0) (.un (23, 0) c) f)) := kt_mode kr kf true
  have j1 := Tryd.true_one (boxW w p x bn bl op pp (m : Int) (-1)).drew
  obtain ⟨R, hR⟩ : ∃ R, R = pthC true (.un (23, 0) c) s f x M := ⟨_, rfl⟩
  have HR0 : Hid (R = bindM (pthC true c [0] (.bin (modeO true, 0) (.un (23, 0) c) f) x M) fun a M1 => twoM true s a M1) := by show _ = _; rw [hR]; exact pthC_star kr s f x M
  rw [← hR]
  obtain ⟨Q, hQ⟩ : ∃ Q : Ending → World → Prop, Q = RetQ (RdO T0 p vs x bn bl) w F items M R := ⟨_, rfl⟩
  have HQ : Hid (∀ e w', RetQ (RdO T0 p vs x bn bl) w F items M R e w' → Q e w') := fun e w' h => by rw [hQ]; exact h
  rw [← hQ]
  clear hrd hpo hR hQ hbx h hx hi
  have n19 : ((op : Int) == 19) = false := by rw [beq_eq_false_iff_ne]; omega
  have n20 : ((op : Int) == 20) = false := by rw [beq_eq_false_iff_ne]; omega
  have n21 : ((op : Int) == 21) = false := by rw [beq_eq_false_iff_ne]; omega
  have n22 : ((op : Int) == 22) = false := by rw [beq_eq_false_iff_ne]; omega
  clear hop
  unfold wyF
  simp only [if_true]
  unfold boxW itO rdO MidS at *
  unfold rdV at *
  dsimp only at *
  go_enter Tryd.func66, Tryd.ntmps66
  go_wp2_with fail
  go_region_held2 (fun w' => (w'.cell? ⟨w.heap.size, 0, none⟩ = some (.pointer (some ⟨p, 0, none⟩)) ∧ w'.cell? ⟨w.heap.size, 1, none⟩ = some (.int .u8 (x : Int)) ∧ w'.cell? ⟨w.heap.size, 2, none⟩ = some (.map (some bn)) ∧ w'.cell? ⟨w.heap.size, 3, none⟩ = some (.map (some bl))) ∧ w'.cell? ⟨w.heap.size + 1, 2, none⟩ = some (.int .i64 (m : Int)) ∧ w'.cell? ⟨w.heap.size + 1, 3, none⟩ = some (.int .i64 (-1))) (first | exact hk0 | exact hk00 | assumption | fail) (first
      | (revert j1; intro j1; go_at_call 31; (with_reducible refine j1.mono ?_); rintro e w1 ⟨q1, C1, rfl, hU1, hb1, hf1⟩; have m1 := m0.step (Fr.ofBelow hb1) (List.prefix_refl _) ((rdO_obj T0 p vs x bn bl).up m0.obj hb1) (List.prefix_refl _) m0.good; have hU1 : US w1 F q1 [0].length C1 [0] := (⟨hU1, fun k hk hF => (by have := hf1 k hk; have := (rdO_obj T0 p vs x bn bl).lt m0.obj _ hF; omega)⟩); have hk1 := HCL.out _ m1.rb m1.xb; have HR1 : Hid _ := HR0.out; have j2 : Calls Tryd.prog 76 #[.pointer (some ⟨p, 0, none⟩), .int .u8 18, .int .i64 (i : Int), .int .i64 (k : Int)] w1 (KeptQ T0 p vs x bn bl w1 F items M (.bin (modeO true, 0) (.un (23, 0) c) f)) := kept_of m1.obj fun G rest hpo => Tryd.palong_any hpo 18 (by decide) i k (.un (23, 0) c) f (HI.out.pre m1.hi) (hkf.pre m1.hi) HS.out)
      | (revert j2; intro j2; go_at_call 76; (with_reducible refine j2.mono ?_); rintro e w2 ⟨n2, i2, F2, rfl, hp2, hrep2, fr2, hO2⟩; have m2 := m1.step fr2 hp2 hO2 (List.prefix_refl _) m1.good; have hk2 := HCL.out _ m2.rb m2.xb; have HR2 : Hid _ := HR1.out; have j3 := hc _ _ _ _ m n2 _ _ [0] m2.obj (hU1.fr fr2) (by simp) (bd_zero _) (hm.pre m2.hi) (hrep2); (try unfold wyF at j3); (try unfold rdV at j3); simp only [if_true, List.length_cons, List.length_nil, Nat.zero_add] at j3)
      | (revert j3; intro j3; go_at_call 66; (with_reducible refine j3.mono ?_); rintro e w3 ⟨F3, i3, fr3, hp3, ⟨L3, M3, q3, d3, hs3, rfl, hU3, hO3⟩ | ⟨hs3, rfl, M3, hpm3, hO3⟩⟩; (case inr => exact ⟨rfl, HQ.out _ _ (m2.bad (by rw [HR2.out, hs3]; first | done | rfl) fr3 hp3 hpm3 hO3)⟩); have hr3 := HR2.out; rw [hs3] at hr3; dsimp only [bindM] at hr3; have HR3 : Hid _ := hr3; clear hr3; have l3 := pth_lg m2.good kc HKM.out (bd_zero _) hs3; have m3 := m2.step fr3 hp3 hO3 l3.pre l3.good; have hk3 := HCL.out _ m3.rb m3.xb; have j4 := Tryd.ptwo (rdO_obj T0 p vs x bn bl) true m3.obj (hUs.fr m3.fr) (hU3) ls l3.lst; unfold twF at j4; simp only [if_true] at j4)
      | (revert j4; intro j4; go_at_call 33; (with_reducible refine j4.mono ?_); rintro e w4 ⟨F4, i4, fr4, hp4, ⟨L4, M4, q4, d4, hs4, rfl, hU4, hO4⟩ | ⟨hs4, rfl, M4, hpm4, hO4⟩⟩; (case inr => exact ⟨rfl, HQ.out _ _ (m3.bad (by rw [HR3.out, hs4]; first | done | rfl) fr4 hp4 hpm4 hO4)⟩); have hk4 : Hid (Q (.returned (.slice q4 L4.length d4)) w4) := (HQ.out _ _ (m3.fin (by rw [HR3.out, hs4]; first | done | rfl) fr4 hp4 hU4 hO4)); have hkk4 := HCL.out _ (box_keep m3.rb m3.rn fr4).1 (box_keep m3.xb m3.xn fr4).1)
      | fail)
  all_goals
    clear j1 j2 j3 j4
    go_wp2
    exact hk4.out
set_option maxRecDepth 100000 in
set_option maxHeartbeats 8000000 in
theorem Tryd.pwy_test_false {T0 : Tr} {p : Nat} {vs : Value} {x bn bl : Nat} (c f : Tr) (kr : KP (.un (20, 0) c)) (_ : KT f) (hc : LvQ T0 p vs x bn bl 34 c) : WyQ T0 p vs x bn bl false (.un (20, 0) c) f := by
  intro w F items M i k av cv s h hUs hls hbs hi hkf
  obtain ⟨op, pp, m, hop, hx, hm⟩ : ∃ op pp m : Nat, op = 20 ∧ items[i]? = some ⟨op, pp, (m : Int), -1⟩ ∧ Rep items m c := by cases hi with | un h h1 h2 => exact ⟨_, 0, _, rfl, h, h2⟩
  obtain ⟨F1, _, _, _, _, hrd⟩ := id h
  obtain ⟨G, rest, hpo⟩ := hrd.pg.part
  obtain ⟨a, n, cap, g, o, c0, hidx, x0, x1, x2, x3⟩ := (hpo.up (below_new w (rdO p x bn bl))).at hx
  obtain ⟨m0, m00⟩ := mid_start h op pp (m : Int) (-1)
  have hk0 := m0.cells
  have hk00 := m00.cells
  have HCL : Hid (∀ w' : World, w'.heap[w.heap.size]? = some (rdO p x bn bl) → w'.heap[w.heap.size + 1]? = some (itO ⟨op, pp, (m : Int), (-1)⟩) → MidS p x bn bl w.heap.size (m : Int) (-1) w') := fun w' e1 e2 => ⟨⟨cell_row e1 0, cell_row e1 1, cell_row e1 2, cell_row e1 3⟩, cell_row e2 2, cell_row e2 3⟩
  have hbx := (MapKept.heap_alloc w (rdO p x bn bl)).1
  have r0 : (w.alloc (rdO p x bn bl)).cell? ⟨w.heap.size, 0, none⟩ = some (.pointer (some ⟨p, 0, none⟩)) := cell_row hbx 0
  have HI : Hid (Rep items i (.un (20, 0) c)) := hi
  have ls : LstH s := ⟨lt_of_bd hbs m0.good.few, hls⟩
  have kc : KT c := by
    rcases kp_un kr with ⟨_, ⟨h6, _⟩ | ⟨_, h6⟩ | ⟨h6, _⟩⟩
    · cases h6
    · exact h6
    · cases h6
  have j1 := hc _ F items M m m00.obj hm
  obtain ⟨R, hR⟩ : ∃ R, R = pthC false (.un (20, 0) c) s f x M := ⟨_, rfl⟩
  have HR0 : Hid (R = bindM (aftC c x M) fun a M1 => twoM true a s M1) := by show _ = _; rw [hR]; exact pthC_test kr s f x M
  rw [← hR]
  obtain ⟨Q, hQ⟩ : ∃ Q : Ending → World → Prop, Q = RetQ (RdO T0 p vs x bn bl) w F items M R := ⟨_, rfl⟩
  have HQ : Hid (∀ e w', RetQ (RdO T0 p vs x bn bl) w F items M R e w' → Q e w') := fun e w' h => by rw [hQ]; exact h
  rw [← hQ]
  clear hrd hpo hR hQ hbx h hx hi
  have n19 : ((op : Int) == 19) = false := by rw [beq_eq_false_iff_ne]; omega
  have n20 : ((op : Int) == 20) = true := by rw [beq_iff_eq]; omega
  clear hop
  unfold wyF
  simp only [Bool.false_eq_true, if_false]
  unfold boxW itO rdO MidS at *
  unfold rdV at *
  dsimp only at *
  go_enter Tryd.func65, Tryd.ntmps65
  go_wp2_with fail
  refine j1.mono ?_
  rintro e w1 ⟨F1, i1, fr1, hp1, ⟨L1, M1, q1, d1, hs1, rfl, hU1, hO1⟩ | ⟨hs1, rfl, M1, hpm1, hO1⟩⟩
  case inr => exact ⟨rfl, HQ.out _ _ (m00.bad (by rw [HR0.out, hs1]; first | done | rfl) fr1 hp1 hpm1 hO1)⟩
  have hr1 := HR0.out
  rw [hs1] at hr1
  dsimp only [bindM] at hr1
  have HR1 : Hid _ := hr1
  have l1 := aft_lg m00.good kc hs1
  have m1 := m00.step fr1 hp1 hO1 l1.pre l1.good
  have j2 := Tryd.ptwo (rdO_obj T0 p vs x bn bl) true m1.obj (hU1) (hUs.fr m1.fr) l1.lst ls
  unfold twF at j2
  simp only [if_true] at j2
  clear j1 hr1 hk0 hk00
  go_wp2_with fail
  refine j2.mono ?_
  rintro e w2 ⟨F2, i2, fr2, hp2, ⟨L2, M2, q2, d2, hs2, rfl, hU2, hO2⟩ | ⟨hs2, rfl, M2, hpm2, hO2⟩⟩
  case inr => exact ⟨rfl, HQ.out _ _ (m1.bad (by rw [HR1.out, hs2]) fr2 hp2 hpm2 hO2)⟩
  have HE : Hid (Q (.returned (.slice q2 L2.length d2)) w2) := HQ.out _ _ (m1.fin (by rw [HR1.out, hs2]) fr2 hp2 hU2 hO2)
  clear j2
  go_wp2
  exact HE.out
set_option maxRecDepth 100000 in
set_option maxHeartbeats 8000000 in
theorem Tryd.pwy_test_true {T0 : Tr} {p : Nat} {vs : Value} {x bn bl : Nat} (c f : Tr) (kr : KP (.un (20, 0) c)) (_ : KT f) (hin : c ∈ subL T0) (hc : LvQ T0 p vs x bn bl 34 (kTr c).2) : WyQ T0 p vs x bn bl true (.un (20, 0) c) f := by
  intro w F items M i k av cv s h hUs hls hbs hi hkf
  obtain ⟨op, pp, m, hop, hx, hm⟩ : ∃ op pp m : Nat, op = 20 ∧ items[i]? = some ⟨op, pp, (m : Int), -1⟩ ∧ Rep items m c := by cases hi with | un h h1 h2 => exact ⟨_, 0, _, rfl, h, h2⟩
  obtain ⟨F1, _, _, _, _, hrd⟩ := id h
  obtain ⟨G, rest, hpo⟩ := hrd.pg.part
  obtain ⟨a, n, cap, g, o, c0, hidx, x0, x1, x2, x3⟩ := (hpo.up (below_new w (rdO p x bn bl))).at hx
  obtain ⟨m0, m00⟩ := mid_start h op pp (m : Int) (-1)
  have hk0 := m0.cells
  have hk00 := m00.cells
  have HCL : Hid (∀ w' : World, w'.heap[w.heap.size]? = some (rdO p x bn bl) → w'.heap[w.heap.size + 1]? = some (itO ⟨op, pp, (m : Int), (-1)⟩) → MidS p x bn bl w.heap.size (m : Int) (-1) w') := fun w' e1 e2 => ⟨⟨cell_row e1 0, cell_row e1 1, cell_row e1 2, cell_row e1 3⟩, cell_row e2 2, cell_row e2 3⟩
  have hbx := (MapKept.heap_alloc w (rdO p x bn bl)).1
  have r0 : (w.alloc (rdO p x bn bl)).cell? ⟨w.heap.size, 0, none⟩ = some (.pointer (some ⟨p, 0, none⟩)) := cell_row hbx 0
  have HI : Hid (Rep items i (.un (20, 0) c)) := hi
  have ls : LstH s := ⟨lt_of_bd hbs m0.good.few, hls⟩
  have kc : KT c := by
    rcases kp_un kr with ⟨_, ⟨h6, _⟩ | ⟨_, h6⟩ | ⟨h6, _⟩⟩
    · cases h6
    · exact h6
    · cases h6
  have HC2 : Hid (LvQ T0 p vs x bn bl 34 (kTr c).2) := hc
  have HKN : Hid (KT (kTr c).2) := kt_neg kc
  have j1 : Calls Tryd.prog 77 #[.pointer (some ⟨p, 0, none⟩), .int .i64 (m : Int)] (boxW w p x bn bl op pp (m : Int) (-1)).drew (KeptQ T0 p vs x bn bl (boxW w p x bn bl op pp (m : Int) (-1)).drew F items M (kTr c).2) := kept_of m0.obj fun G rest hpo => Tryd.pneg_any c kc hin items m hm _ _ _ (List.prefix_refl _) hpo
  obtain ⟨R, hR⟩ : ∃ R, R = pthC true (.un (20, 0) c) s f x M := ⟨_, rfl⟩
  have HR0 : Hid (R = bindM (aftC (kTr c).2 x M) fun a M1 => twoM false a s M1) := by show _ = _; rw [hR]; exact pthC_test kr s f x M
  rw [← hR]
  obtain ⟨Q, hQ⟩ : ∃ Q : Ending → World → Prop, Q = RetQ (RdO T0 p vs x bn bl) w F items M R := ⟨_, rfl⟩
  have HQ : Hid (∀ e w', RetQ (RdO T0 p vs x bn bl) w F items M R e w' → Q e w') := fun e w' h => by rw [hQ]; exact h
  rw [← hQ]
  clear hrd hpo hR hQ hbx h hx hi
  have n19 : ((op : Int) == 19) = false := by rw [beq_eq_false_iff_ne]; omega
  have n20 : ((op : Int) == 20) = true := by rw [beq_iff_eq]; omega
  clear hop
  unfold wyF
  simp only [if_true]
  unfold boxW itO rdO MidS at *
  unfold rdV at *
  dsimp only at *
  go_enter Tryd.func66, Tryd.ntmps66
  go_wp2_with fail
  go_region_held2 (fun w' => (w'.cell? ⟨w.heap.size, 0, none⟩ = some (.pointer (some ⟨p, 0, none⟩)) ∧ w'.cell? ⟨w.heap.size, 1, none⟩ = some (.int .u8 (x : Int)) ∧ w'.cell? ⟨w.heap.size, 2, none⟩ = some (.map (some bn)) ∧ w'.cell? ⟨w.heap.size, 3, none⟩ = some (.map (some bl))) ∧ w'.cell? ⟨w.heap.size + 1, 2, none⟩ = some (.int .i64 (m : Int)) ∧ w'.cell? ⟨w.heap.size + 1, 3, none⟩ = some (.int .i64 (-1))) (first | exact hk0 | exact hk00 | assumption | fail) (first
      | (revert j1; intro j1; go_at_call 77; (with_reducible refine j1.mono ?_); rintro e w1 ⟨n1, i1, F1, rfl, hp1, hrep1, fr1, hO1⟩; have m1 := m0.step fr1 hp1 hO1 (List.prefix_refl _) m0.good; have hk1 := HCL.out _ m1.rb m1.xb; have HR1 : Hid _ := HR0.out; have j2 := HC2.out _ F1 i1 M n1 m1.obj hrep1; (try unfold rdV at j2))
      | (revert j2; intro j2; go_at_call 34; (with_reducible refine j2.mono ?_); rintro e w2 ⟨F2, i2, fr2, hp2, ⟨L2, M2, q2, d2, hs2, rfl, hU2, hO2⟩ | ⟨hs2, rfl, M2, hpm2, hO2⟩⟩; (case inr => exact ⟨rfl, HQ.out _ _ (m1.bad (by rw [HR1.out, hs2]; first | done | rfl) fr2 hp2 hpm2 hO2)⟩); have hr2 := HR1.out; rw [hs2] at hr2; dsimp only [bindM] at hr2; have HR2 : Hid _ := hr2; clear hr2; have l2 := aft_lg m1.good HKN.out hs2; have m2 := m1.step fr2 hp2 hO2 l2.pre l2.good; have hk2 := HCL.out _ m2.rb m2.xb; have j3 := Tryd.ptwo (rdO_obj T0 p vs x bn bl) false m2.obj (hU2) (hUs.fr m2.fr) l2.lst ls; unfold twF at j3; simp only [Bool.false_eq_true, if_false] at j3)
      | (revert j3; intro j3; go_at_call 35; (with_reducible refine j3.mono ?_); rintro e w3 ⟨F3, i3, fr3, hp3, ⟨L3, M3, q3, d3, hs3, rfl, hU3, hO3⟩ | ⟨hs3, rfl, M3, hpm3, hO3⟩⟩; (case inr => exact ⟨rfl, HQ.out _ _ (m2.bad (by rw [HR2.out, hs3]; first | done | rfl) fr3 hp3 hpm3 hO3)⟩); have hk3 : Hid (Q (.returned (.slice q3 L3.length d3)) w3) := (HQ.out _ _ (m2.fin (by rw [HR2.out, hs3]; first | done | rfl) fr3 hp3 hU3 hO3)); have hkk3 := HCL.out _ (box_keep m2.rb m2.rn fr3).1 (box_keep m2.xb m2.xn fr3).1)
      | fail)
  all_goals
    clear j1 j2 j3
    go_wp2
    exact hk3.out
set_option maxRecDepth 100000 in
set_option maxHeartbeats 8000000 in
theorem Tryd.pwy_step_false {T0 : Tr} {p : Nat} {vs : Value} {x bn bl : Nat} (c f : Tr) (kr : KP (.un (19, 0) c)) (kf : KT f) (hS : InC T0 f) (hc : LvQ T0 p vs x bn bl 34 c) : WyQ T0 p vs x bn bl false (.un (19, 0) c) f := by
  intro w F items M i k av cv s h hUs hls hbs hi hkf
  obtain ⟨op, pp, m, hop, hx, hm⟩ : ∃ op pp m : Nat, op = 19 ∧ items[i]? = some ⟨op, pp, (m : Int), -1⟩ ∧ Rep items m c := by cases hi with | un h h1 h2 => exact ⟨_, 0, _, rfl, h, h2⟩
  obtain ⟨F1, _, _, _, _, hrd⟩ := id h
  obtain ⟨G, rest, hpo⟩ := hrd.pg.part
  obtain ⟨a, n, cap, g, o, c0, hidx, x0, x1, x2, x3⟩ := (hpo.up (below_new w (rdO p x bn bl))).at hx
  obtain ⟨m0, m00⟩ := mid_start h op pp (m : Int) (-1)
  have hk0 := m0.cells
  have hk00 := m00.cells
  have HCL : Hid (∀ w' : World, w'.heap[w.heap.size]? = some (rdO p x bn bl) → w'.heap[w.heap.size + 1]? = some (itO ⟨op, pp, (m : Int), (-1)⟩) → MidS p x bn bl w.heap.size (m : Int) (-1) w') := fun w' e1 e2 => ⟨⟨cell_row e1 0, cell_row e1 1, cell_row e1 2, cell_row e1 3⟩, cell_row e2 2, cell_row e2 3⟩
  have hbx := (MapKept.heap_alloc w (rdO p x bn bl)).1
  have r0 : (w.alloc (rdO p x bn bl)).cell? ⟨w.heap.size, 0, none⟩ = some (.pointer (some ⟨p, 0, none⟩)) := cell_row hbx 0
  have HI : Hid (Rep items i (.un (19, 0) c)) := hi
  obtain ⟨kc, pc⟩ := kt_step kr
  have jf := Tryd.pfits_any m00.obj m c hm kc pc hc
  obtain ⟨R, hR⟩ : ∃ R, R = pthC false (.un (19, 0) c) s f x M := ⟨_, rfl⟩
  have HR0 : Hid (R = if plV x c then needM f M else some (yesM false, M)) := by show _ = _; rw [hR]; exact pthC_step false c s f x M
  rw [← hR]
  obtain ⟨Q, hQ⟩ : ∃ Q : Ending → World → Prop, Q = RetQ (RdO T0 p vs x bn bl) w F items M R := ⟨_, rfl⟩
  have HQ : Hid (∀ e w', RetQ (RdO T0 p vs x bn bl) w F items M R e w' → Q e w') := fun e w' h => by rw [hQ]; exact h
  rw [← hQ]
  clear hrd hpo hR hQ hbx h hx hi
  have n19 : ((op : Int) == 19) = true := by rw [beq_iff_eq]; omega
  clear hop
  unfold wyF
  simp only [Bool.false_eq_true, if_false]
  unfold boxW itO rdO MidS at *
  unfold rdV at *
  dsimp only at *
  go_enter Tryd.func65, Tryd.ntmps65
  go_wp2_with fail
  refine jf.mono ?_
  rintro e w1 ⟨rfl, F1, i1, fr1, hp1, hO1⟩
  have m1 := m00.step fr1 hp1 hO1 (List.prefix_refl _) m00.good
  obtain ⟨⟨t0, t1, t2, t3⟩, _⟩ := HCL.out _ m1.rb m1.xb
  cases hv : plV x c with
  | true =>
    have hr1 := HR0.out
    rw [hv, if_pos rfl] at hr1
    have HR1 : Hid _ := hr1
    have j2 := Tryd.pneeds_any m1.obj k f (hkf.pre m1.hi) kf hS
    (try unfold rdV at j2)
    clear jf hr1 hk0 hk00 hv
    go_wp2_with fail
    refine j2.mono ?_
    rintro e w2 ⟨F2, i2, fr2, hp2, ⟨L2, M2, q2, d2, hs2, rfl, hU2, hO2⟩ | ⟨hs2, rfl, M2, hpm2, hO2⟩⟩
    case inr => exact ⟨rfl, HQ.out _ _ (m1.bad (by rw [HR1.out, hs2]) fr2 hp2 hpm2 hO2)⟩
    have HE : Hid (Q (.returned (.slice q2 L2.length d2)) w2) := HQ.out _ _ (m1.fin (by rw [HR1.out, hs2]) fr2 hp2 hU2 hO2)
    clear j2
    go_wp2
    exact HE.out
  | false =>
    have hr1 := HR0.out
    rw [hv, if_neg (by decide)] at hr1
    have HN : Hid (∀ e w', NewL (yesM false) w1 e w' → Q e w') := fun e w' hn => HQ.out e w' (by rw [hr1]; exact (ret_new (rdO_obj T0 p vs x bn bl) m1.obj hn).after m1.fr m1.hi (List.prefix_refl _))
    clear jf hr1 hk0 hk00 hv
    have HE : Hid (Q (.returned (.slice none 0 0)) w1) := HN.out _ _ (newL_nil _ _ (Below.refl _ _))
    go_wp2
    exact HE.out
set_option maxRecDepth 100000 in
set_option maxHeartbeats 8000000 in
theorem Tryd.pwy_step_true {T0 : Tr} {p : Nat} {vs : Value} {x bn bl : Nat} (c f : Tr) (kr : KP (.un (19, 0) c)) (kf : KT f) (hS : InC T0 f) (hc : LvQ T0 p vs x bn bl 34 c) : WyQ T0 p vs x bn bl true (.un (19, 0) c) f := by
  intro w F items M i k av cv s h hUs hls hbs hi hkf
  obtain ⟨op, pp, m, hop, hx, hm⟩ : ∃ op pp m : Nat, op = 19 ∧ items[i]? = some ⟨op, pp, (m : Int), -1⟩ ∧ Rep items m c := by cases hi with | un h h1 h2 => exact ⟨_, 0, _, rfl, h, h2⟩
  obtain ⟨F1, _, _, _, _, hrd⟩ := id h
  obtain ⟨G, rest, hpo⟩ := hrd.pg.part
  obtain ⟨a, n, cap, g, o, c0, hidx, x0, x1, x2, x3⟩ := (hpo.up (below_new w (rdO p x bn bl))).at hx
  obtain ⟨m0, m00⟩ := mid_start h op pp (m : Int) (-1)
  have hk0 := m0.cells
  have hk00 := m00.cells
  have HCL : Hid (∀ w' : World, w'.heap[w.heap.size]? = some (rdO p x bn bl) → w'.heap[w.heap.size + 1]? = some (itO ⟨op, pp, (m : Int), (-1)⟩) → MidS p x bn bl w.heap.size (m : Int) (-1) w') := fun w' e1 e2 => ⟨⟨cell_row e1 0, cell_row e1 1, cell_row e1 2, cell_row e1 3⟩, cell_row e2 2, cell_row e2 3⟩
  have hbx := (MapKept.heap_alloc w (rdO p x bn bl)).1
  have r0 : (w.alloc (rdO p x bn bl)).cell? ⟨w.heap.size, 0, none⟩ = some (.pointer (some ⟨p, 0, none⟩)) := cell_row hbx 0
  have HI : Hid (Rep items i (.un (19, 0) c)) := hi
  obtain ⟨kc, pc⟩ := kt_step kr
  have jf := Tryd.pfits_any m00.obj m c hm kc pc hc
  obtain ⟨R, hR⟩ : ∃ R, R = pthC true (.un (19, 0) c) s f x M := ⟨_, rfl⟩
  have HR0 : Hid (R = if plV x c then needM f M else some (yesM true, M)) := by show _ = _; rw [hR]; exact pthC_step true c s f x M
  rw [← hR]
  obtain ⟨Q, hQ⟩ : ∃ Q : Ending → World → Prop, Q = RetQ (RdO T0 p vs x bn bl) w F items M R := ⟨_, rfl⟩
  have HQ : Hid (∀ e w', RetQ (RdO T0 p vs x bn bl) w F items M R e w' → Q e w') := fun e w' h => by rw [hQ]; exact h
  rw [← hQ]
  clear hrd hpo hR hQ hbx h hx hi
  have n19 : ((op : Int) == 19) = true := by rw [beq_iff_eq]; omega
  clear hop
  unfold wyF
  simp only [if_true]
  unfold boxW itO rdO MidS at *
  unfold rdV at *
  dsimp only at *
  go_enter Tryd.func66, Tryd.ntmps66
  go_wp2_with fail
  refine jf.mono ?_
  rintro e w1 ⟨rfl, F1, i1, fr1, hp1, hO1⟩
  have m1 := m00.step fr1 hp1 hO1 (List.prefix_refl _) m00.good
  obtain ⟨⟨t0, t1, t2, t3⟩, _⟩ := HCL.out _ m1.rb m1.xb
  cases hv : plV x c with
  | true =>
    have hr1 := HR0.out
    rw [hv, if_pos rfl] at hr1
    have HR1 : Hid _ := hr1
    have j2 := Tryd.pneeds_any m1.obj k f (hkf.pre m1.hi) kf hS
    (try unfold rdV at j2)
    clear jf hr1 hk0 hk00 hv
    go_wp2_with fail
    refine j2.mono ?_
    rintro e w2 ⟨F2, i2, fr2, hp2, ⟨L2, M2, q2, d2, hs2, rfl, hU2, hO2⟩ | ⟨hs2, rfl, M2, hpm2, hO2⟩⟩
    case inr => exact ⟨rfl, HQ.out _ _ (m1.bad (by rw [HR1.out, hs2]) fr2 hp2 hpm2 hO2)⟩
    have HE : Hid (Q (.returned (.slice q2 L2.length d2)) w2) := HQ.out _ _ (m1.fin (by rw [HR1.out, hs2]) fr2 hp2 hU2 hO2)
    clear j2
    go_wp2
    exact HE.out
  | false =>
    have hr1 := HR0.out
    rw [hv, if_neg (by decide)] at hr1
    have HN : Hid (∀ e w', NewL (yesM true) w1 e w' → Q e w') := fun e w' hn => HQ.out e w' (by rw [hr1]; exact (ret_new (rdO_obj T0 p vs x bn bl) m1.obj hn).after m1.fr m1.hi (List.prefix_refl _))
    clear jf hr1 hk0 hk00 hv
    have jt := Tryd.true_new w1
    go_wp2_with fail
    refine jt.mono ?_
    rintro e w2 ⟨q2, C2, rfl, hU2, hb2, hf2⟩
    have HE : Hid (Q (.returned (.slice q2 [0].length C2)) w2) := HN.out _ _ ⟨q2, C2, rfl, hU2, hb2, hf2⟩
    clear jt hU2 hb2 hf2
    go_wp2
    exact HE.out
end Go.Proofs.YtnedkpbpeolfoaaDoor
namespace Go.Proofs.YtnedkpbpeolfoaaDoor
open Go.RowKit Go.Maps
theorem pws_star (box : Bool) (c f : Tr) : pws box (.un (23, 0) c) f = .bin (modeO box, 0) (.un (23, 0) c) f :: pws box c (.bin (modeO box, 0) (.un (23, 0) c) f) := rfl
theorem pws_plus (box : Bool) (c d f : Tr) : pws box (.bin (21, 0) c d) f = pws box c f ++ pws box d f := rfl
theorem pws_seq (box : Bool) (c d f : Tr) : pws box (.bin (22, 0) c d) f = .bin (modeO box, 0) d f :: (pws box d f ++ pws box c (.bin (modeO box, 0) d f)) := rfl
theorem Tryd.plv_all {T0 : Tr} (t0 : KT T0) {p : Nat} {vs : Value} {x bn bl : Nat} (hx : x < 256) : ∀ n, (∀ S, KT S → InC T0 S → hgt S ≤ n → LvQ T0 p vs x bn bl 34 S) ∧ (∀ box r f, KP r → r ∈ subL T0 → KT f → InC T0 f → (∀ T, T ∈ pws box r f → InC T0 T) → hgt r ≤ n → WyQ T0 p vs x bn bl box r f)
  | 0 => ⟨fun S _ _ h => absurd (hgt_pos S) (by omega), fun box r f _ _ _ _ _ h => absurd (hgt_pos r) (by omega)⟩
  | n + 1 => by
    obtain ⟨ih, jh⟩ := Tryd.plv_all t0 (p := p) (vs := vs) (bn := bn) (bl := bl) hx n
    refine ⟨fun S kS hS hn => ?_, fun box r f kr hr kf hf hp hn => ?_⟩
    · refine Tryd.pafter_of kS ?_ (fun M L M' hM h => ⟨(aft_lg hM kS h).lst, (aft_lg hM kS h).pre⟩)
      match S, kS, hS, hn with
      | .leaf (op, q), kS, hS, hn =>
        rcases kt_leaf kS with ⟨rfl, hq⟩ | ⟨rfl, ho⟩
        · exact Tryd.plv_prop hx q hq
        · exact Tryd.plv_yes op (by omega)
      | .un (op, q) c, kS, hS, hn =>
        rcases kt_un kS with ⟨rfl, ⟨rfl, q, rfl⟩ | ⟨ho, hc⟩⟩
        · have hq : q ≤ 7 := (wf_small _ kS.wf (2, q) (by simp [Tr.flat])).2
          exact Tryd.plv_not hx q hq
        · exact Tryd.plv_next op ho c kS hS
      | .bin (op, q) c d, kS, hS, hn =>
        obtain ⟨rfl, ho⟩ := kt_bin kS
        obtain ⟨ic, id, hsub⟩ := inC_bin hS
        have h2 : max (hgt c) (hgt d) + 1 ≤ n + 1 := hn
        by_cases hw : op = 17 ∨ op = 18
        · obtain ⟨kc, kd⟩ := kt_way kS hw
          refine Tryd.plv_way op hw c d kS (ih d kd id (by omega)) fun box hbox => ?_
          have hm : op = modeO box := by rcases hw with rfl | rfl <;> subst hbox <;> rfl
          refine jh box c d kc (hsub hw) kd id ?_ (by omega)
          rw [hm] at hS
          exact inC_pws hS
        · obtain ⟨kc, kd⟩ := kt_and kS (by omega)
          have hc := ih c kc ic (by omega)
          have hd := ih d kd id (by omega)
          by_cases h11 : op = 11 ∨ op = 12
          · exact Tryd.plv_two op h11 c d kS hc hd
          · exact Tryd.plv_until op (by omega) c d kS hS hc hd
    · match r, kr, hr, hp, hn with
      | .leaf k, kr, _, _, _ => exact (kp_leaf kr).elim
      | .un (op, q) c, kr, hr, hp, hn =>
        rcases kp_un kr with ⟨rfl, ⟨rfl, hcw, hpl⟩ | ⟨rfl, hc⟩ | ⟨rfl, hc⟩⟩
        · have h2 : hgt c + 1 ≤ n + 1 := hn
          have ha := ih c (kt_step kr).1 (inC_sub (sub_un hr)) (by omega)
          cases box with
          | false => exact Tryd.pwy_step_false c f kr kf hf ha
          | true => exact Tryd.pwy_step_true c f kr kf hf ha
        · have h2 : hgt c + 1 ≤ n + 1 := hn
          cases box with
          | false => exact Tryd.pwy_test_false c f kr kf (ih c hc (inC_sub (sub_un hr)) (by omega))
          | true => exact Tryd.pwy_test_true c f kr kf (sub_un hr) (ih _ (kt_neg hc) (inC_neg (sub_un hr) hc) (by rw [hgt_neg c hc]; omega))
        · have h2 : hgt c + 1 ≤ n + 1 := hn
          rw [pws_star] at hp
          have hT := hp _ (List.mem_cons_self ..)
          have hw := jh box c _ hc (sub_un hr) (kt_mode kr kf box) hT (fun T h => hp T (List.mem_cons_of_mem _ h)) (by omega)
          cases box with
          | false => exact Tryd.pwy_star_false c f kr kf hT hw
          | true => exact Tryd.pwy_star_true c f kr kf hT hw
      | .bin (op, q) c d, kr, hr, hp, hn =>
        obtain ⟨rfl, ho, kc, kd⟩ := kp_bin kr
        have h2 : max (hgt c) (hgt d) + 1 ≤ n + 1 := hn
        rcases ho with rfl | rfl
        · rw [pws_plus] at hp
          have hc := jh box c f kc (sub_bin hr).1 kf hf (fun T h => hp T (List.mem_append.2 (Or.inl h))) (by omega)
          have hd := jh box d f kd (sub_bin hr).2 kf hf (fun T h => hp T (List.mem_append.2 (Or.inr h))) (by omega)
          cases box with
          | false => exact Tryd.pwy_plus_false c d f kr kf hc hd
          | true => exact Tryd.pwy_plus_true c d f kr kf hc hd
        · rw [pws_seq] at hp
          have hT := hp _ (List.mem_cons_self ..)
          have hd := jh box d f kd (sub_bin hr).2 kf hf (fun T h => hp T (List.mem_cons_of_mem _ (List.mem_append.2 (Or.inl h)))) (by omega)
          have hc := jh box c _ kc (sub_bin hr).1 (kt_mode kd kf box) hT (fun T h => hp T (List.mem_cons_of_mem _ (List.mem_append.2 (Or.inr h)))) (by omega)
          cases box with
          | false => exact Tryd.pwy_seq_false c d f kr kf hT hc hd
          | true => exact Tryd.pwy_seq_true c d f kr kf hT hc hd
/-- What a letter leaves of a formula that comes of T0. -/
theorem Tryd.pafter_any {T0 : Tr} (t0 : KT T0) {p : Nat} {vs : Value} {x bn bl : Nat} (hx : x < 256) (S : Tr) (kS : KT S) (hS : InC T0 S) : LvQ T0 p vs x bn bl 34 S := (Tryd.plv_all t0 hx (hgt S)).1 S kS hS (Nat.le_refl _)
end Go.Proofs.YtnedkpbpeolfoaaDoor
namespace Go.Proofs.YtnedkpbpeolfoaaDoor
open Go.RowKit Go.Maps
theorem Tryd.pgInfo : ∃ j, Tryd.prog.info? 33 = some j := by
  cases h : Tryd.prog.info? 33 with
  | some j => exact ⟨j, rfl⟩
  | none => exact absurd h (by have : (Tryd.prog.info? 33).isSome = true := by kernel_rfl
                               intro e; rw [e] at this; cases this)
theorem Tryd.pptr_same (a : Addr) (w : World) : (binOp .eql 24 (.pointer (some a)) (.pointer (some a))).run Tryd.prog w = .ok (.bool true) w := by
  obtain ⟨j, hj⟩ := Tryd.pgInfo
  exact run_eql_ptr_same w a Tryd.underlying24 hj
theorem Tryd.pptr_none (a : Addr) (w : World) : (binOp .eql 24 (.pointer none) (.pointer (some a))).run Tryd.prog w = .ok (.bool false) w := by
  have h : ∀ d : Nat, (Op.equalIn (d + 1) 24 (.pointer none) (.pointer (some a))).run Tryd.prog w = .ok false w := fun d => by
    simp [Op.equalIn, run_underlying Tryd.underlying24]
  simp only [binOp]
  simp [Op.equal, Op.maxDepth, h 9999]
set_option maxRecDepth 100000 in
theorem Tryd.pmade_yes {T0 : Tr} {w : World} {F : Nat → Prop} {p : Nat} {vs : Value} {items : List It} {M : Mt} (h : PgO T0 w F p vs items M) : Calls Tryd.prog 12 #[.pointer (some ⟨p, 0, none⟩)] w fun e w' => e = .returned (.bool true) ∧ w' = w := by
  obtain ⟨G, mn, vm, met, hr, hF⟩ := h.ex
  have c3 := hr.c3
  have hp := fun w => Tryd.pptr_same ⟨p, 0, none⟩ w
  clear h hr hF
  go_enter Tryd.func12, Tryd.ntmps12
  go_wp2
  go_ret
  exact ⟨rfl, rfl⟩
set_option maxRecDepth 100000 in
theorem Tryd.pmade_none (w : World) : Calls Tryd.prog 12 #[.pointer none] w fun e w' => e = .returned (.bool false) ∧ w' = w := by
  go_enter Tryd.func12, Tryd.ntmps12
  go_wp2
  go_ret
  exact ⟨rfl, rfl⟩
set_option maxRecDepth 100000 in
theorem Tryd.pmade_zero (w : World) (t : Nat) (c3 : w.cell? ⟨t, 3, none⟩ = some (.pointer none)) : Calls Tryd.prog 12 #[.pointer (some ⟨t, 0, none⟩)] w fun e w' => e = .returned (.bool false) ∧ w' = w := by
  have hp := fun w => Tryd.pptr_none ⟨t, 0, none⟩ w
  go_enter Tryd.func12, Tryd.ntmps12
  go_wp2
  go_ret
  exact ⟨rfl, rfl⟩
set_option maxRecDepth 100000 in
theorem Tryd.pstart_yes {T0 : Tr} {w : World} {F : Nat → Prop} {p : Nat} {a : Option Addr} {c : Nat} {l0 : List Nat} {items : List It} {M : Mt} (h : PgO T0 w F p (.slice a l0.length c) items M) (hU : US w F a l0.length c l0) (hl : l0.length ≤ 1024) : Calls Tryd.prog 6 #[.pointer (some ⟨p, 0, none⟩)] w (CloU l0 w) := by
  have hm := Tryd.pmade_yes h
  obtain ⟨G, mn, vm, met, hr, hF⟩ := h.ex
  have c6 := hr.c6
  have jc := Tryd.clone_any a l0.length c l0 w hU.sl (by omega)
  clear h hr hF hU
  generalize l0.length = L at *
  go_enter Tryd.func6, Tryd.ntmps6
  go_wp2_with fail
  refine hm.mono ?_
  rintro e w1 ⟨rfl, hw1⟩
  obtain rfl := hw1.symm
  clear hm
  go_wp2_with fail
  refine jc.mono ?_
  intro e w2 hq
  have HQ : Hid _ := hq
  obtain ⟨_, ⟨_, q, rfl⟩ | ⟨G2, t, _, rfl, _⟩⟩ := hq
  · clear jc
    go_wp2
    go_ret
    exact HQ.out
  · clear jc
    go_wp2
    go_ret
    exact HQ.out
set_option maxRecDepth 100000 in
set_option maxHeartbeats 8000000 in
theorem Tryd.pends_yes (op pp : Nat) (xa xb : Int) (a : Option Addr) (n c : Nat) (w : World) (ho : op = 0 ∨ op = 5 ∨ op = 6 ∨ op = 8 ∨ op = 16 ∨ op = 23) :
    Calls Tryd.prog 37 #[itV ⟨op, pp, xa, xb⟩, .slice a n c] w fun e w' => e = .returned (.bool true) ∧ w' = w.alloc (itO ⟨op, pp, xa, xb⟩) := by
  rcases ho with ho | ho | ho | ho | ho | ho
  · have n0 : ((op : Int) == 0) = true := by rw [beq_iff_eq]; omega
    clear ho
    unfold itO itV at *
    dsimp only at *
    go_enter Tryd.func37, Tryd.ntmps37
    go_wp2
    go_ret
    exact ⟨rfl, rfl⟩
  · have n0 : ((op : Int) == 0) = false := by rw [beq_eq_false_iff_ne]; omega
    have n5 : ((op : Int) == 5) = true := by rw [beq_iff_eq]; omega
    clear ho
    unfold itO itV at *
    dsimp only at *
    go_enter Tryd.func37, Tryd.ntmps37
    go_wp2
    go_ret
    exact ⟨rfl, rfl⟩
  · have n0 : ((op : Int) == 0) = false := by rw [beq_eq_false_iff_ne]; omega
    have n5 : ((op : Int) == 5) = false := by rw [beq_eq_false_iff_ne]; omega
    have n6 : ((op : Int) == 6) = true := by rw [beq_iff_eq]; omega
    clear ho
    unfold itO itV at *
    dsimp only at *
    go_enter Tryd.func37, Tryd.ntmps37
    go_wp2
    go_ret
    exact ⟨rfl, rfl⟩
  · have n0 : ((op : Int) == 0) = false := by rw [beq_eq_false_iff_ne]; omega
    have n5 : ((op : Int) == 5) = false := by rw [beq_eq_false_iff_ne]; omega
    have n6 : ((op : Int) == 6) = false := by rw [beq_eq_false_iff_ne]; omega
    have n8 : ((op : Int) == 8) = true := by rw [beq_iff_eq]; omega
    clear ho
    unfold itO itV at *
    dsimp only at *
    go_enter Tryd.func37, Tryd.ntmps37
    go_wp2
    go_ret
    exact ⟨rfl, rfl⟩
  · have n0 : ((op : Int) == 0) = false := by rw [beq_eq_false_iff_ne]; omega
    have n5 : ((op : Int) == 5) = false := by rw [beq_eq_false_iff_ne]; omega
    have n6 : ((op : Int) == 6) = false := by rw [beq_eq_false_iff_ne]; omega
    have n8 : ((op : Int) == 8) = false := by rw [beq_eq_false_iff_ne]; omega
    have n16 : ((op : Int) == 16) = true := by rw [beq_iff_eq]; omega
    clear ho
    unfold itO itV at *
    dsimp only at *
    go_enter Tryd.func37, Tryd.ntmps37
    go_wp2
    go_ret
    exact ⟨rfl, rfl⟩
  · have n0 : ((op : Int) == 0) = false := by rw [beq_eq_false_iff_ne]; omega
    have n5 : ((op : Int) == 5) = false := by rw [beq_eq_false_iff_ne]; omega
    have n6 : ((op : Int) == 6) = false := by rw [beq_eq_false_iff_ne]; omega
    have n8 : ((op : Int) == 8) = false := by rw [beq_eq_false_iff_ne]; omega
    have n16 : ((op : Int) == 16) = false := by rw [beq_eq_false_iff_ne]; omega
    have n23 : ((op : Int) == 23) = true := by rw [beq_iff_eq]; omega
    clear ho
    unfold itO itV at *
    dsimp only at *
    go_enter Tryd.func37, Tryd.ntmps37
    go_wp2
    go_ret
    exact ⟨rfl, rfl⟩
set_option maxRecDepth 100000 in
set_option maxHeartbeats 8000000 in
theorem Tryd.pends_and (op pp : Nat) (xa xb : Int) (a : Option Addr) (n c g : Nat) (w : World) (ho : op = 11 ∨ op = 17 ∨ op = 22) (ia ib : Nat) (va vb : Bool) (ha : (Instr.indexAt 63 (.slice a n c) (.int .i64 xa)).run Tryd.prog (w.alloc (itO ⟨op, pp, xa, xb⟩)) = .ok (.pointer (some ⟨g, ia, none⟩)) (w.alloc (itO ⟨op, pp, xa, xb⟩))) (ca : (w.alloc (itO ⟨op, pp, xa, xb⟩)).cell? ⟨g, ia, none⟩ = some (.bool va)) (hb : (Instr.indexAt 63 (.slice a n c) (.int .i64 xb)).run Tryd.prog (w.alloc (itO ⟨op, pp, xa, xb⟩)) = .ok (.pointer (some ⟨g, ib, none⟩)) (w.alloc (itO ⟨op, pp, xa, xb⟩))) (cb : (w.alloc (itO ⟨op, pp, xa, xb⟩)).cell? ⟨g, ib, none⟩ = some (.bool vb)) :
    Calls Tryd.prog 37 #[itV ⟨op, pp, xa, xb⟩, .slice a n c] w fun e w' => e = .returned (.bool (va && vb)) ∧ w' = w.alloc (itO ⟨op, pp, xa, xb⟩) := by
  rcases ho with ho | ho | ho
  · have n0 : ((op : Int) == 0) = false := by rw [beq_eq_false_iff_ne]; omega
    have n5 : ((op : Int) == 5) = false := by rw [beq_eq_false_iff_ne]; omega
    have n6 : ((op : Int) == 6) = false := by rw [beq_eq_false_iff_ne]; omega
    have n8 : ((op : Int) == 8) = false := by rw [beq_eq_false_iff_ne]; omega
    have n16 : ((op : Int) == 16) = false := by rw [beq_eq_false_iff_ne]; omega
    have n23 : ((op : Int) == 23) = false := by rw [beq_eq_false_iff_ne]; omega
    have n11 : ((op : Int) == 11) = true := by rw [beq_iff_eq]; omega
    clear ho
    unfold itO itV at *
    dsimp only at *
    cases va <;> cases vb <;>
    · go_enter Tryd.func37, Tryd.ntmps37
      go_wp2
      go_ret
      exact ⟨rfl, rfl⟩
  · have n0 : ((op : Int) == 0) = false := by rw [beq_eq_false_iff_ne]; omega
    have n5 : ((op : Int) == 5) = false := by rw [beq_eq_false_iff_ne]; omega
    have n6 : ((op : Int) == 6) = false := by rw [beq_eq_false_iff_ne]; omega
    have n8 : ((op : Int) == 8) = false := by rw [beq_eq_false_iff_ne]; omega
    have n16 : ((op : Int) == 16) = false := by rw [beq_eq_false_iff_ne]; omega
    have n23 : ((op : Int) == 23) = false := by rw [beq_eq_false_iff_ne]; omega
    have n11 : ((op : Int) == 11) = false := by rw [beq_eq_false_iff_ne]; omega
    have n17 : ((op : Int) == 17) = true := by rw [beq_iff_eq]; omega
    clear ho
    unfold itO itV at *
    dsimp only at *
    cases va <;> cases vb <;>
    · go_enter Tryd.func37, Tryd.ntmps37
      go_wp2
      go_ret
      exact ⟨rfl, rfl⟩
  · have n0 : ((op : Int) == 0) = false := by rw [beq_eq_false_iff_ne]; omega
    have n5 : ((op : Int) == 5) = false := by rw [beq_eq_false_iff_ne]; omega
    have n6 : ((op : Int) == 6) = false := by rw [beq_eq_false_iff_ne]; omega
    have n8 : ((op : Int) == 8) = false := by rw [beq_eq_false_iff_ne]; omega
    have n16 : ((op : Int) == 16) = false := by rw [beq_eq_false_iff_ne]; omega
    have n23 : ((op : Int) == 23) = false := by rw [beq_eq_false_iff_ne]; omega
    have n11 : ((op : Int) == 11) = false := by rw [beq_eq_false_iff_ne]; omega
    have n17 : ((op : Int) == 17) = false := by rw [beq_eq_false_iff_ne]; omega
    have n22 : ((op : Int) == 22) = true := by rw [beq_iff_eq]; omega
    clear ho
    unfold itO itV at *
    dsimp only at *
    cases va <;> cases vb <;>
    · go_enter Tryd.func37, Tryd.ntmps37
      go_wp2
      go_ret
      exact ⟨rfl, rfl⟩
set_option maxRecDepth 100000 in
set_option maxHeartbeats 8000000 in
theorem Tryd.pends_or (op pp : Nat) (xa xb : Int) (a : Option Addr) (n c g : Nat) (w : World) (ho : op = 12 ∨ op = 21) (ia ib : Nat) (va vb : Bool) (ha : (Instr.indexAt 63 (.slice a n c) (.int .i64 xa)).run Tryd.prog (w.alloc (itO ⟨op, pp, xa, xb⟩)) = .ok (.pointer (some ⟨g, ia, none⟩)) (w.alloc (itO ⟨op, pp, xa, xb⟩))) (ca : (w.alloc (itO ⟨op, pp, xa, xb⟩)).cell? ⟨g, ia, none⟩ = some (.bool va)) (hb : (Instr.indexAt 63 (.slice a n c) (.int .i64 xb)).run Tryd.prog (w.alloc (itO ⟨op, pp, xa, xb⟩)) = .ok (.pointer (some ⟨g, ib, none⟩)) (w.alloc (itO ⟨op, pp, xa, xb⟩))) (cb : (w.alloc (itO ⟨op, pp, xa, xb⟩)).cell? ⟨g, ib, none⟩ = some (.bool vb)) :
    Calls Tryd.prog 37 #[itV ⟨op, pp, xa, xb⟩, .slice a n c] w fun e w' => e = .returned (.bool (va || vb)) ∧ w' = w.alloc (itO ⟨op, pp, xa, xb⟩) := by
  rcases ho with ho | ho
  · have n0 : ((op : Int) == 0) = false := by rw [beq_eq_false_iff_ne]; omega
    have n5 : ((op : Int) == 5) = false := by rw [beq_eq_false_iff_ne]; omega
    have n6 : ((op : Int) == 6) = false := by rw [beq_eq_false_iff_ne]; omega
    have n8 : ((op : Int) == 8) = false := by rw [beq_eq_false_iff_ne]; omega
    have n16 : ((op : Int) == 16) = false := by rw [beq_eq_false_iff_ne]; omega
    have n23 : ((op : Int) == 23) = false := by rw [beq_eq_false_iff_ne]; omega
    have n11 : ((op : Int) == 11) = false := by rw [beq_eq_false_iff_ne]; omega
    have n17 : ((op : Int) == 17) = false := by rw [beq_eq_false_iff_ne]; omega
    have n22 : ((op : Int) == 22) = false := by rw [beq_eq_false_iff_ne]; omega
    have n12 : ((op : Int) == 12) = true := by rw [beq_iff_eq]; omega
    clear ho
    unfold itO itV at *
    dsimp only at *
    cases va <;> cases vb <;>
    · go_enter Tryd.func37, Tryd.ntmps37
      go_wp2
      go_ret
      exact ⟨rfl, rfl⟩
  · have n0 : ((op : Int) == 0) = false := by rw [beq_eq_false_iff_ne]; omega
    have n5 : ((op : Int) == 5) = false := by rw [beq_eq_false_iff_ne]; omega
    have n6 : ((op : Int) == 6) = false := by rw [beq_eq_false_iff_ne]; omega
    have n8 : ((op : Int) == 8) = false := by rw [beq_eq_false_iff_ne]; omega
    have n16 : ((op : Int) == 16) = false := by rw [beq_eq_false_iff_ne]; omega
    have n23 : ((op : Int) == 23) = false := by rw [beq_eq_false_iff_ne]; omega
    have n11 : ((op : Int) == 11) = false := by rw [beq_eq_false_iff_ne]; omega
    have n17 : ((op : Int) == 17) = false := by rw [beq_eq_false_iff_ne]; omega
    have n22 : ((op : Int) == 22) = false := by rw [beq_eq_false_iff_ne]; omega
    have n12 : ((op : Int) == 12) = false := by rw [beq_eq_false_iff_ne]; omega
    have n21 : ((op : Int) == 21) = true := by rw [beq_iff_eq]; omega
    clear ho
    unfold itO itV at *
    dsimp only at *
    cases va <;> cases vb <;>
    · go_enter Tryd.func37, Tryd.ntmps37
      go_wp2
      go_ret
      exact ⟨rfl, rfl⟩
set_option maxRecDepth 100000 in
set_option maxHeartbeats 8000000 in
theorem Tryd.pends_box (op pp : Nat) (xa xb : Int) (a : Option Addr) (n c g : Nat) (w : World) (ho : op = 18) (ia ib : Nat) (va vb : Bool) (ha : (Instr.indexAt 63 (.slice a n c) (.int .i64 xa)).run Tryd.prog (w.alloc (itO ⟨op, pp, xa, xb⟩)) = .ok (.pointer (some ⟨g, ia, none⟩)) (w.alloc (itO ⟨op, pp, xa, xb⟩))) (ca : (w.alloc (itO ⟨op, pp, xa, xb⟩)).cell? ⟨g, ia, none⟩ = some (.bool va)) (hb : (Instr.indexAt 63 (.slice a n c) (.int .i64 xb)).run Tryd.prog (w.alloc (itO ⟨op, pp, xa, xb⟩)) = .ok (.pointer (some ⟨g, ib, none⟩)) (w.alloc (itO ⟨op, pp, xa, xb⟩))) (cb : (w.alloc (itO ⟨op, pp, xa, xb⟩)).cell? ⟨g, ib, none⟩ = some (.bool vb)) :
    Calls Tryd.prog 37 #[itV ⟨op, pp, xa, xb⟩, .slice a n c] w fun e w' => e = .returned (.bool (!va || vb)) ∧ w' = w.alloc (itO ⟨op, pp, xa, xb⟩) := by
  have n0 : ((op : Int) == 0) = false := by rw [beq_eq_false_iff_ne]; omega
  have n5 : ((op : Int) == 5) = false := by rw [beq_eq_false_iff_ne]; omega
  have n6 : ((op : Int) == 6) = false := by rw [beq_eq_false_iff_ne]; omega
  have n8 : ((op : Int) == 8) = false := by rw [beq_eq_false_iff_ne]; omega
  have n16 : ((op : Int) == 16) = false := by rw [beq_eq_false_iff_ne]; omega
  have n23 : ((op : Int) == 23) = false := by rw [beq_eq_false_iff_ne]; omega
  have n11 : ((op : Int) == 11) = false := by rw [beq_eq_false_iff_ne]; omega
  have n17 : ((op : Int) == 17) = false := by rw [beq_eq_false_iff_ne]; omega
  have n22 : ((op : Int) == 22) = false := by rw [beq_eq_false_iff_ne]; omega
  have n12 : ((op : Int) == 12) = false := by rw [beq_eq_false_iff_ne]; omega
  have n21 : ((op : Int) == 21) = false := by rw [beq_eq_false_iff_ne]; omega
  have n18 : ((op : Int) == 18) = true := by rw [beq_iff_eq]; omega
  clear ho
  unfold itO itV at *
  dsimp only at *
  cases va <;> cases vb <;>
  · go_enter Tryd.func37, Tryd.ntmps37
    go_wp2
    go_ret
    exact ⟨rfl, rfl⟩
set_option maxRecDepth 100000 in
set_option maxHeartbeats 8000000 in
theorem Tryd.pends_test (op pp : Nat) (xa xb : Int) (a : Option Addr) (n c g : Nat) (w : World) (ho : op = 20) (ia : Nat) (va : Bool) (ha : (Instr.indexAt 63 (.slice a n c) (.int .i64 xa)).run Tryd.prog (w.alloc (itO ⟨op, pp, xa, xb⟩)) = .ok (.pointer (some ⟨g, ia, none⟩)) (w.alloc (itO ⟨op, pp, xa, xb⟩))) (ca : (w.alloc (itO ⟨op, pp, xa, xb⟩)).cell? ⟨g, ia, none⟩ = some (.bool va)) :
    Calls Tryd.prog 37 #[itV ⟨op, pp, xa, xb⟩, .slice a n c] w fun e w' => e = .returned (.bool va) ∧ w' = w.alloc (itO ⟨op, pp, xa, xb⟩) := by
  have n0 : ((op : Int) == 0) = false := by rw [beq_eq_false_iff_ne]; omega
  have n5 : ((op : Int) == 5) = false := by rw [beq_eq_false_iff_ne]; omega
  have n6 : ((op : Int) == 6) = false := by rw [beq_eq_false_iff_ne]; omega
  have n8 : ((op : Int) == 8) = false := by rw [beq_eq_false_iff_ne]; omega
  have n16 : ((op : Int) == 16) = false := by rw [beq_eq_false_iff_ne]; omega
  have n23 : ((op : Int) == 23) = false := by rw [beq_eq_false_iff_ne]; omega
  have n11 : ((op : Int) == 11) = false := by rw [beq_eq_false_iff_ne]; omega
  have n17 : ((op : Int) == 17) = false := by rw [beq_eq_false_iff_ne]; omega
  have n22 : ((op : Int) == 22) = false := by rw [beq_eq_false_iff_ne]; omega
  have n12 : ((op : Int) == 12) = false := by rw [beq_eq_false_iff_ne]; omega
  have n21 : ((op : Int) == 21) = false := by rw [beq_eq_false_iff_ne]; omega
  have n18 : ((op : Int) == 18) = false := by rw [beq_eq_false_iff_ne]; omega
  have n20 : ((op : Int) == 20) = true := by rw [beq_iff_eq]; omega
  clear ho
  unfold itO itV at *
  dsimp only at *
  go_enter Tryd.func37, Tryd.ntmps37
  go_wp2
  go_ret
  exact ⟨rfl, rfl⟩
set_option maxRecDepth 100000 in
set_option maxHeartbeats 8000000 in
theorem Tryd.pends_no (op pp : Nat) (xa xb : Int) (a : Option Addr) (n c : Nat) (w : World) (ho : op ≠ 0 ∧ op ≠ 5 ∧ op ≠ 6 ∧ op ≠ 8 ∧ op ≠ 16 ∧ op ≠ 23 ∧ op ≠ 11 ∧ op ≠ 17 ∧ op ≠ 22 ∧ op ≠ 12 ∧ op ≠ 21 ∧ op ≠ 18 ∧ op ≠ 20) :
    Calls Tryd.prog 37 #[itV ⟨op, pp, xa, xb⟩, .slice a n c] w fun e w' => e = .returned (.bool false) ∧ w' = w.alloc (itO ⟨op, pp, xa, xb⟩) := by
  have n0 : ((op : Int) == 0) = false := by rw [beq_eq_false_iff_ne]; omega
  have n5 : ((op : Int) == 5) = false := by rw [beq_eq_false_iff_ne]; omega
  have n6 : ((op : Int) == 6) = false := by rw [beq_eq_false_iff_ne]; omega
  have n8 : ((op : Int) == 8) = false := by rw [beq_eq_false_iff_ne]; omega
  have n16 : ((op : Int) == 16) = false := by rw [beq_eq_false_iff_ne]; omega
  have n23 : ((op : Int) == 23) = false := by rw [beq_eq_false_iff_ne]; omega
  have n11 : ((op : Int) == 11) = false := by rw [beq_eq_false_iff_ne]; omega
  have n17 : ((op : Int) == 17) = false := by rw [beq_eq_false_iff_ne]; omega
  have n22 : ((op : Int) == 22) = false := by rw [beq_eq_false_iff_ne]; omega
  have n12 : ((op : Int) == 12) = false := by rw [beq_eq_false_iff_ne]; omega
  have n21 : ((op : Int) == 21) = false := by rw [beq_eq_false_iff_ne]; omega
  have n18 : ((op : Int) == 18) = false := by rw [beq_eq_false_iff_ne]; omega
  have n20 : ((op : Int) == 20) = false := by rw [beq_eq_false_iff_ne]; omega
  clear ho
  unfold itO itV at *
  dsimp only at *
  go_enter Tryd.func37, Tryd.ntmps37
  go_wp2
  go_ret
  exact ⟨rfl, rfl⟩
end Go.Proofs.YtnedkpbpeolfoaaDoor
namespace Go.Proofs.YtnedkpbpeolfoaaDoor
open Go.RowKit Go.Maps
theorem fresh_of {w : World} {base e n cap : Nat} {a : Option Addr} {xs : List Value} (h : w.ownsRow base e 1 (.slice a n cap) n xs) : ∀ k, k < n → base ≤ (adOf a k).block := fun k hk => by
  rcases h.2 with ⟨e, e0⟩ | ⟨g, cap', cur, e, hg, _⟩
  · omega
  · injection e with e1 _ _
    subst e1
    simp [adOf, add_plain]
    exact hg
/-- An answer that is a list of numbers, in new memory. -/
def INR (r : List Nat) (w : World) (e : Ending) (w' : World) : Prop := ∃ (a : Option Addr) (c : Nat), e = .returned (.slice a r.length c) ∧ ISl w' a r.length c r ∧ Below w.heap.size w w' ∧ ∀ k, k < r.length → w.heap.size ≤ (adOf a k).block
set_option maxRecDepth 100000 in
set_option maxHeartbeats 4000000 in
theorem Tryd.items_new (s : Nat) (hs : s < 2 ^ 64) (w : World) (hT : Tab64 w) : Calls Tryd.prog 32 #[.int .u64 (s : Int)] w (INR (itemsL s) w) := by
  have HT : Hid (Tab64 w) := hT
  have Hs : Hid (s < 2 ^ 64) := hs
  clear hT hs
  go_enter Tryd.func32, Tryd.ntmps32
  go_wp2
  go_loopw [3, 4] (fun v r wr => ∃ (x : Nat) (acc : List Nat), r = .int .u64 (x : Int) ∧ Hid (x < 2 ^ 64) ∧ Hid (itemsL s = acc ++ itemsL x) ∧ Hid (wr.ownsRow w.heap.size 3 1 v acc.length ((iU acc).map (Value.int .i64))) ∧ Hid (Below w.heap.size w wr)) (fun _ r _ => (intOf r).toNat)
  case atStart => exact ⟨s, [], rfl, Hs, rfl, ⟨rfl, Or.inl ⟨rfl, rfl⟩⟩, Below.refl _ _⟩
  case round =>
    obtain ⟨x, acc, rfl, HX, HE, HO, HB⟩ := hrel
    by_cases h0 : x = 0
    · subst h0
      have HE2 : Hid (itemsL s = acc) := by show _ = _; rw [HE.out, itemsL_zero, List.append_nil]
      obtain ⟨va, vc, rfl, hU⟩ := ownN_sl HO.out
      have HU : Hid _ := hU
      have HFS : Hid (∀ k, k < acc.length → w.heap.size ≤ (adOf va k).block) := fresh_of HO.out
      clear hU HO HE
      go_wp2
      go_ret
      exact ⟨va, vc, by rw [HE2.out]; rfl, by rw [HE2.out]; exact HU.out, HB.out, by rw [HE2.out]; exact HFS.out⟩
    · have htz := Tryd.tz_any x HX.out h0 wr (HT.out.up HB.out)
      obtain ⟨hk, hb, _⟩ := low_bits x h0 HX.out
      have hlt := dropB_lt hk hb
      have HS := items_step h0 HX.out
      have HE2 : Hid (itemsL s = (acc ++ [Lib.ctz 64 x]) ++ itemsL (dropB x (Lib.ctz 64 x))) := by show _ = _; rw [HE.out, HS]; simp
      have hln : acc.length ≤ 64 := by have := itemsL_len s; rw [HE.out, List.length_append] at this; omega
      have hne : ((x : Int) == 0) = false := by simp; omega
      have hp : 2 ^ Lib.ctz 64 x < 18446744073709551616 := Nat.pow_lt_pow_right (by decide) hk
      have hdr : bits .andNot .u64 (x : Int) (IntKind.u64.wrap ((2 : Int) ^ Lib.ctz 64 x)) = ((dropB x (Lib.ctz 64 x) : Nat) : Int) := by
        have e1 : IntKind.u64.wrap ((2 : Int) ^ Lib.ctz 64 x) = ((2 ^ Lib.ctz 64 x : Nat) : Int) := by
          rw [show (2 : Int) ^ Lib.ctz 64 x = ((2 ^ Lib.ctz 64 x : Nat) : Int) by simp, IntKind.wrap_u64]
          generalize 2 ^ Lib.ctz 64 x = q at *
          omega
        rw [e1]
        exact u64_andNot_nat x _ HX.out hp
      have HX2 : Hid (dropB x (Lib.ctz 64 x) < 2 ^ 64) := Nat.lt_of_le_of_lt (dropB_le _ _) HX.out
      obtain ⟨va, vc, rfl⟩ := own_slU HO.out
      clear HS hb HE HX
      generalize dropB x (Lib.ctz 64 x) = y at *
      generalize Lib.ctz 64 x = k at *
      go_wp2_with fail
      refine htz.mono ?_
      rintro e w3 ⟨rfl, hw⟩
      obtain rfl : wr = w3 := hw.symm
      have HOA : Hid ((wr.alloc (.cells #[.int .i64 (k : Int)] 3)).ownsRow w.heap.size 3 1 (.slice va acc.length vc) acc.length ((iU acc).map (Value.int .i64))) := World.ownsRow.alloc HO.out _
      have HCA : Hid ((wr.alloc (.cells #[.int .i64 (k : Int)] 3)).cell? ⟨wr.heap.size, 0, none⟩ = some (.int .i64 (k : Int))) := cell_row (MapKept.heap_alloc wr _).1 0
      have HWA : Hid (Below w.heap.size w (wr.alloc (.cells #[.int .i64 (k : Int)] 3))) := HB.out.alloc HB.out.size _
      have hszA : w.heap.size ≤ (wr.alloc (.cells #[.int .i64 (k : Int)] 3)).heap.size := HWA.out.size
      have HGE : Hid (∀ q, (Value.slice va acc.length vc).ownBlock = some q → w.heap.size ≤ q) := own_ge HO.out
      clear HO HB htz
      go_wp2_with (at_builtin; refine Tryd.append_i rfl _ _ rfl w.heap.size _ acc.length (iU acc) rfl HOA.out wr.heap.size (k : Int) rfl HCA.out (by omega) hszA ?_)
      intro v7 w7 hown7 hgr7
      have HO7 : Hid (w7.ownsRow w.heap.size 3 1 v7 (acc.length + 1) ((iU acc ++ [(k : Int)]).map (Value.int .i64))) := by show World.ownsRow _ _ _ _ _ _ _; simpa using hown7
      have HW7 : Hid (Below w.heap.size w w7) := HWA.out.grown hgr7 hszA (fun q e => HGE.out q e)
      clear hown7 hgr7 HOA HCA HWA hszA HGE
      go_wp2
      go_roundw
      case rel =>
        refine ⟨y, acc ++ [k], rfl, HX2, HE2, ?_, HW7⟩
        show World.ownsRow _ _ _ _ _ _ _
        rw [List.length_append, iU_snoc]
        exact HO7.out
      case measure => simp [intOf]; omega
def tabG : Nat := 0
theorem Tab64.fr {w w' : World} {F F' : Nat → Prop} (h : Tab64 w) (fr : Fr w w' F F') (hn : ¬ F tabG) : Tab64 w' := fun j hj => fr.cell (h j hj) hn
structure MidL (T0 : Tr) (p : Nat) (vs : Value) (x bn bl : Nat) (w : World) (F : Nat → Prop) (items : List It) (M : Mt) (B : Nat) (wj : World) (Fj : Nat → Prop) (ij : List It) (Mj : Mt) : Prop where
  obj : RdO T0 p vs x bn bl wj Fj ij Mj
  fr : Fr w wj F Fj
  hi : items <+: ij
  hM : M <+: Mj
  good : GoodM Mj
  rb : wj.heap[B]? = some (rdO p x bn bl)
  rn : ¬ Fj B
  tab : Tab64 wj
  tn : ¬ Fj tabG
section
variable {T0 : Tr} {p : Nat} {vs : Value} {x bn bl : Nat} {w : World} {F : Nat → Prop} {items : List It} {M : Mt} {B : Nat} {wj wk : World} {Fj Fk : Nat → Prop} {ij ik : List It} {Mj Mk : Mt}
theorem MidL.step (h : MidL T0 p vs x bn bl w F items M B wj Fj ij Mj) (fr : Fr wj wk Fj Fk) (hp : ij <+: ik) (hO : RdO T0 p vs x bn bl wk Fk ik Mk) (hm : Mj <+: Mk) (hg : GoodM Mk) : MidL T0 p vs x bn bl w F items M B wk Fk ik Mk :=
  ⟨hO, h.fr.trans fr, h.hi.trans hp, h.hM.trans hm, hg, (box_keep h.rb h.rn fr).1, (box_keep h.rb h.rn fr).2, h.tab.fr fr h.tn, fr.out h.tn (World.block_lt_of_cell? _ _ (h.tab 0 (by decide)))⟩
theorem MidL.up (h : MidL T0 p vs x bn bl w F items M B wj Fj ij Mj) (hb : Below wj.heap.size wj wk) : MidL T0 p vs x bn bl w F items M B wk Fj ij Mj := h.step (Fr.ofBelow hb) (List.prefix_refl _) ((rdO_obj T0 p vs x bn bl).up h.obj hb) (List.prefix_refl _) h.good
theorem MidL.bad (h : MidL T0 p vs x bn bl w F items M B wj Fj ij Mj) {R : Rt} (hR : R = none) (fr : Fr wj wk Fj Fk) (hp : ij <+: ik) (hm : Mj <+: Mk) (hO : RdO T0 p vs x bn bl wk Fk ik Mk) : RetQ (RdO T0 p vs x bn bl) w F items M R (.panicked thrownP) wk :=
  ⟨Fk, ik, h.fr.trans fr, h.hi.trans hp, Or.inr ⟨hR, rfl, Mk, h.hM.trans hm, hO⟩⟩
/-- An obligation that was met, where it lies. -/
theorem MidL.met (h : MidL T0 p vs x bn bl w F items M B wj Fj ij Mj) (k : Nat) (hk : k < Mj.length) : ∃ a n cap g o j S, wj.cell? ⟨p, 5, none⟩ = some (.slice a n cap) ∧ (∀ w', (Instr.indexAt 31 (.slice a n cap) (.int .i64 (k : Int))).run Tryd.prog w' = .ok (.pointer (some ⟨g, o, none⟩)) w') ∧ wj.cell? ⟨g, o, none⟩ = some (.int .i64 ((j : Nat) : Int)) ∧ Rep ij j S ∧ KT S ∧ InC T0 S ∧ Mj[k]? = some S.flat := by
  obtain ⟨F1, kn, kl, fn, fl, hr⟩ := h.obj
  obtain ⟨G, mn, vm, met, hg, hF⟩ := hr.pg.ex
  have hml := hg.met.1
  have hkm : k < met.length := by omega
  obtain ⟨S, hrep, hMk⟩ := hg.met.2 k met[k] (List.getElem?_eq_getElem hkm)
  obtain ⟨S2, k2, i2, e2⟩ := hr.pg.of S.flat (List.mem_of_getElem? hMk)
  have hw : S.WF := by
    obtain ⟨S3, h3, h4⟩ := hg.po.cov _ hrep.lt
    have := Rep.tree hrep h3
    subst this
    rcases inC_kind hg.po.t0.kt h4 with q | q <;> exact q.wf
  have e := flat_inj hw k2.wf e2
  subst e
  rcases hg.row.2 with ⟨e, e0⟩ | ⟨g, cap, cur, rfl, _, hcell, hnc, hcm, hsz, htk⟩
  · omega
  · refine ⟨some ⟨g, 0, none⟩, met.length, cap, g, k, met[k], S, hg.c5, fun w' => ?_, ?_, hrep, k2, i2, hMk⟩
    · simp [Instr.indexAt, run_underlying Tryd.underlying31, asIntOf, sizeOf_runI (show (Tryd.prog.info? 3).map (·.size) = some 1 by kernel_rfl), hkm, Result.andThen, go_sem, add_plain]
    · rw [cell_row hcell k]
      have : cur.toList[k]? = (encM met)[k]? := by rw [← htk, List.getElem?_take, if_pos (by omega)]
      rw [← Array.getElem?_toList, this]
      simp [encM, hkm]
end
end Go.Proofs.YtnedkpbpeolfoaaDoor
namespace Go.Proofs.YtnedkpbpeolfoaaDoor
open Go.RowKit Go.Maps
theorem aft_fuelN {T0 S : Tr} (t0 : T0k T0) (kS : KT S) (hS : InC T0 S) (x : Nat) {M : Mt} {k : Nat} (hk : M[k]? = some S.flat) : aftM fuelN (growT (M.getD k [])) x M = aftC S x M := by
  have e : M.getD k [] = S.flat := by rw [List.getD_eq_getElem?_getD, hk]; rfl
  rw [e, grow_flat kS.wf]
  exact congrFun (aft_C kS (inC_size t0.sz hS).2) M
/-- A list of numbers that is none of the object's blocks. -/
structure IU (w : World) (F : Nat → Prop) (a : Option Addr) (c : Nat) (ks : List Nat) : Prop where
  sl : ISl w a ks.length c ks
  nf : ∀ k, k < ks.length → ¬ F (adOf a k).block
theorem IU.fr {w w' : World} {F F' : Nat → Prop} {a : Option Addr} {c : Nat} {ks : List Nat} (h : IU w F a c ks) (fr : Fr w w' F F') : IU w' F' a c ks := ⟨fr.intSl h.sl h.nf, fun k hk => fr.out (h.nf k hk) (h.sl.blk k hk)⟩
/-- A list that a step has in hand. -/
structure LH (w : World) (F : Nat → Prop) (M : Mt) (a : Option Addr) (c : Nat) (l : List Nat) : Prop where
  us : US w F a l.length c l
  len : l.length ≤ 1024
  bd : BdL l M.length
theorem LH.fr {w w' : World} {F F' : Nat → Prop} {M M' : Mt} {a : Option Addr} {c : Nat} {l : List Nat} (h : LH w F M a c l) (fr : Fr w w' F F') (hM : M <+: M') : LH w' F' M' a c l := ⟨h.us.fr fr, h.len, h.bd.mono hM.length_le⟩
theorem LH.lst {w : World} {F : Nat → Prop} {M : Mt} {a : Option Addr} {c : Nat} {l : List Nat} (h : LH w F M a c l) (hg : GoodM M) : LstH l := ⟨lt_of_bd h.bd hg.few, h.len⟩
theorem items_lt {s m : Nat} (hm : m ≤ 64) (h : ∀ k, s.testBit k = true → k < m) : ∀ k ∈ itemsL s, k < m := (items_all hm h (· < m)).2 h
set_option maxRecDepth 100000 in
set_option maxHeartbeats 16000000 in
theorem Tryd.pstep_any {T0 : Tr} {p : Nat} {vs : Value} {x bn bl : Nat} (hx8 : x < 256) {w : World} {F : Nat → Prop} {items : List It} {M : Mt} (h : RdO T0 p vs x bn bl w F items M) (hT : Tab64 w) (hnG : ¬ F tabG) (a : Option Addr) (c : Nat) (l : List Nat) (hL : LH w F M a c l) (t0 : T0k T0) :
    Calls Tryd.prog 17 #[rdV p x bn bl, .slice a l.length c] w (RetQ (RdO T0 p vs x bn bl) w F items M (stepM fuelN x l [] M)) := by
  have hb := below_new w (rdO p x bn bl)
  have hO := (rdO_obj T0 p vs x bn bl).up h hb
  have hg : GoodM M := by obtain ⟨_, _, _, _, _, hr⟩ := h; exact hr.pg.good
  have hlt := (rdO_obj T0 p vs x bn bl).lt h
  have HM0 : Hid (MidL T0 p vs x bn bl w F items M w.heap.size (w.alloc (rdO p x bn bl)) F items M) := ⟨hO, Fr.ofBelow hb, List.prefix_refl _, List.prefix_refl _, hg, (MapKept.heap_alloc w _).1, fun e => by have := hlt _ e; omega, hT.up hb, hnG⟩
  have HL0 : Hid (LH (w.alloc (rdO p x bn bl)) F M a c l) := hL.fr (Fr.ofBelow hb) (List.prefix_refl _)
  have HN0 : Hid (LH (w.alloc (rdO p x bn bl)) F M none 0 []) := ⟨nil_us _ _, by simp, bdL_yes false _⟩
  have HT0 : Hid (T0k T0) := t0
  have hidx := fun (i : Nat) (w : World) (h : i < l.length) => hL.us.sl.idx l.length i w h (Nat.le_refl _)
  have hl1 : l.length ≤ 1024 := hL.len
  have hx8' := hx8
  obtain ⟨R, hR⟩ : ∃ R, R = stepM fuelN x l [] M := ⟨_, rfl⟩
  have HR0 : Hid (R = stepM fuelN x (l.drop 0) [] M) := by rw [List.drop_zero]; exact hR
  rw [← hR]
  obtain ⟨Q, hQ⟩ : ∃ Q : Ending → World → Prop, Q = RetQ (RdO T0 p vs x bn bl) w F items M R := ⟨_, rfl⟩
  have HQ : Hid (∀ e w', RetQ (RdO T0 p vs x bn bl) w F items M R e w' → Q e w') := fun e w' h => by rw [hQ]; exact h
  rw [← hQ]
  clear h hT hnG hL t0 hb hO hg hlt hR hQ
  obtain ⟨n, hn⟩ : ∃ n, n = l.length := ⟨_, rfl⟩
  have HNL : Hid (n = l.length) := hn
  rw [← hn] at hidx hl1 ⊢
  clear hn
  unfold rdV
  go_enter Tryd.func17, Tryd.ntmps17
  go_wp2
  go_loopw [5, 13] (fun v i wr => ∃ (k : Nat) (q5 : Option Addr) (d5 : Nat) (out : List Nat) (Fj : Nat → Prop) (ij : List It) (Mj : Mt), k ≤ n ∧ i = .int .i64 (k : Int) ∧ v = .slice q5 out.length d5 ∧ Hid (MidL T0 p vs x bn bl w F items M w.heap.size wr Fj ij Mj) ∧ Hid (LH wr Fj Mj q5 d5 out) ∧ Hid (LH wr Fj Mj a c l) ∧ Hid (R = stepM fuelN x (l.drop k) out Mj)) (fun _ i _ => n - (intOf i).toNat)
  case atStart => exact ⟨0, none, 0, [], F, items, M, Nat.zero_le _, rfl, rfl, HM0, HN0, HL0, HR0⟩
  case round =>
    clear HM0 HN0 HL0 HR0
    obtain ⟨k, q5, d5, out, Fj, ij, Mj, hk, rfl, rfl, HMJ, HO, HLL, HR⟩ := hrel
    by_cases hlt : k < n
    · have hkl : k < l.length := by have := HNL.out; omega
      have hc := HLL.out.us.sl.cell k hkl
      have hix := fun w' => hidx k w' hlt
      have hset : (iU l).getD k 0 = ((l[k] : Nat) : Int) := by simp [iU, List.getD_eq_getElem?_getD, hkl]
      rw [hset] at hc
      have hs64 : l[k] < 2 ^ 64 := (HLL.out.lst HMJ.out.good).sm _ (List.getElem_mem hkl)
      have HIT : Hid (∀ y ∈ itemsL l[k], y < Mj.length) := items_lt HMJ.out.good.few (HLL.out.bd _ (List.getElem_mem hkl))
      have HRD : Hid (R = bindM (setM fuelN x (itemsL l[k]) [0] Mj) fun m M1 => bindM (twoM false out m M1) fun o M2 => stepM fuelN x (l.drop (k + 1)) o M2) := by
        show _ = _
        rw [HR.out, List.drop_eq_getElem_cons hkl, stepM]
      have jt := Tryd.true_one wr
      have hil : (itemsL l[k]).length ≤ 64 := itemsL_len _
      generalize l[k] = st at *
      clear HR hset
      go_wp2_with fail
      refine jt.mono ?_
      rintro e w1 ⟨q1, C1, rfl, hU1, hb1, hf1⟩
      have m1 := HMJ.out.up hb1
      have HAL : Hid (LH w1 Fj Mj q1 C1 [0]) := ⟨⟨hU1, fun k hk hF => by have := hf1 k hk; have := (rdO_obj T0 p vs x bn bl).lt HMJ.out.obj _ hF; omega⟩, by simp, bd_zero _⟩
      have HO1 : Hid (LH w1 Fj Mj q5 d5 out) := HO.out.fr (Fr.ofBelow hb1) (List.prefix_refl _)
      have HL1 : Hid (LH w1 Fj Mj a c l) := HLL.out.fr (Fr.ofBelow hb1) (List.prefix_refl _)
      have ji := Tryd.items_new st hs64 w1 m1.tab
      have HM1 : Hid _ := m1
      clear jt hU1 hb1 hf1 HMJ HO HLL m1 hc hix
      generalize itemsL st = ks at *
      go_wp2_with fail
      refine ji.mono ?_
      rintro e w2 ⟨ia, ic, rfl, hI, hb2, hf2⟩
      have HM2 : Hid _ := HM1.out.up hb2
      have HIU : Hid (IU w2 Fj ia ic ks) := ⟨hI, fun k hk hF => by have := hf2 k hk; have := (rdO_obj T0 p vs x bn bl).lt HM1.out.obj _ hF; omega⟩
      have HAL2 : Hid (LH w2 Fj Mj q1 C1 [0]) := HAL.out.fr (Fr.ofBelow hb2) (List.prefix_refl _)
      have HO2 : Hid (LH w2 Fj Mj q5 d5 out) := HO1.out.fr (Fr.ofBelow hb2) (List.prefix_refl _)
      have HL2 : Hid (LH w2 Fj Mj a c l) := HL1.out.fr (Fr.ofBelow hb2) (List.prefix_refl _)
      have hidI := fun (i : Nat) (w : World) (h : i < ks.length) => hI.idx ks.length i w h (Nat.le_refl _)
      have HRI : Hid (R = bindM (setM fuelN x (ks.drop 0) [0] Mj) fun m M1 => bindM (twoM false out m M1) fun o M2 => stepM fuelN x (l.drop (k + 1)) o M2) := by rw [List.drop_zero]; exact HRD.out
      clear ji hI hb2 hf2 HM1 HAL HO1 HL1 HRD
      go_wp2
      generalize hLN : ks.length = ln at *
      have HLN : Hid (ks.length = ln) := hLN
      clear hLN
      go_loopw [8, 21] (fun v i w3 => ∃ (j : Nat) (q8 : Option Addr) (d8 : Nat) (al : List Nat) (Fi : Nat → Prop) (ii : List It) (Mi : Mt), j ≤ ln ∧ i = .int .i64 (j : Int) ∧ v = .slice q8 al.length d8 ∧ Hid (MidL T0 p vs x bn bl w F items M w.heap.size w3 Fi ii Mi) ∧ Hid (Mj <+: Mi) ∧ Hid (LH w3 Fi Mi q8 d8 al) ∧ Hid (LH w3 Fi Mi q5 d5 out) ∧ Hid (LH w3 Fi Mi a c l) ∧ Hid (IU w3 Fi ia ic ks) ∧ Hid (R = bindM (setM fuelN x (ks.drop j) al Mi) fun m M1 => bindM (twoM false out m M1) fun o M2 => stepM fuelN x (l.drop (k + 1)) o M2)) (fun _ i _ => ln - (intOf i).toNat)
      case atStart => exact ⟨0, q1, C1, [0], Fj, ij, Mj, Nat.zero_le _, rfl, rfl, HM2, List.prefix_refl _, HAL2, HO2, HL2, HIU, HRI⟩
      case round =>
        clear HM2 HAL2 HO2 HL2 HIU HRI
        obtain ⟨j, q8, d8, al, Fi, ii, Mi, hj, rfl, rfl, HMI, HPR, HAL, HO, HLL, HIU, HR⟩ := hrel
        by_cases hltj : j < ln
        · have hjk : j < ks.length := by have := HLN.out; omega
          have hcI := HIU.out.sl.cell j hjk
          have hixI := fun w' => hidI j w' hltj
          have hsI : (iU ks).getD j 0 = ((ks[j] : Nat) : Int) := by simp [iU, List.getD_eq_getElem?_getD, hjk]
          rw [hsI] at hcI
          have hkM : ks[j] < Mi.length := Nat.lt_of_lt_of_le (HIT.out _ (List.getElem_mem hjk)) HPR.out.length_le
          obtain ⟨ma, mnn, mcap, mg, mo, mj, S, c5, hidM, cM, hrepM, kS, hS, hMk⟩ := HMI.out.met ks[j] hkM
          have HRD : Hid (R = bindM (aftC S x Mi) fun a' M1 => bindM (twoM true al a' M1) fun b' M2 => bindM (setM fuelN x (ks.drop (j + 1)) b' M2) fun m M1 => bindM (twoM false out m M1) fun o M2 => stepM fuelN x (l.drop (k + 1)) o M2) := by
            show _ = _
            rw [HR.out, List.drop_eq_getElem_cons hjk, setM, aft_fuelN HT0.out kS hS x hMk]
            cases aftC S x Mi with
            | none => rfl
            | some z =>
              obtain ⟨z1, z2⟩ := z
              show bindM (bindM (twoM true al z1 z2) _) _ = bindM (twoM true al z1 z2) _
              cases twoM true al z1 z2 with
              | none => rfl
              | some y => rfl
          have m0 := HMI.out.up (Below.refl _ _).drew
          have ja := Tryd.pafter_any HT0.out.kt hx8 S kS hS _ Fi ii Mi mj m0.obj hrepM
          have HKS : Hid (KT S) := kS
          have c5d : (wr.drew).cell? ⟨p, 5, none⟩ = some (.slice ma mnn mcap) := c5
          have cMd : (wr.drew).cell? ⟨mg, mo, none⟩ = some (.int .i64 (mj : Int)) := cM
          have HCL : Hid (∀ w' : World, w'.heap[w.heap.size]? = some (rdO p x bn bl) → w'.cell? ⟨w.heap.size, 0, none⟩ = some (.pointer (some ⟨p, 0, none⟩)) ∧ w'.cell? ⟨w.heap.size, 1, none⟩ = some (.int .u8 (x : Int)) ∧ w'.cell? ⟨w.heap.size, 2, none⟩ = some (.map (some bn)) ∧ w'.cell? ⟨w.heap.size, 3, none⟩ = some (.map (some bl))) := fun w' e => ⟨cell_row e 0, cell_row e 1, cell_row e 2, cell_row e 3⟩
          have hk0 := HCL.out _ m0.rb
          have hk00 := HCL.out _ HMI.out.rb
          unfold rdV at ja
          generalize ks[j] = kj at *
          clear HR hsI hrepM kS hS hMk hkM
          go_wp2_with fail
          obtain ⟨e0, e1, e2, e3⟩ := hk0
          obtain ⟨g0, g1, g2, g3⟩ := hk00
          go_region_with (first
            | (revert ja; intro ja; go_at_call 34; (with_reducible refine ja.mono ?_); rintro e w4 ⟨F4, i4, fr4, hp4, ⟨L4, M4, q4, d4, hs4, rfl, hU4, hO4⟩ | ⟨hs4, rfl, M4, hpm4, hO4⟩⟩; (case inr => exact ⟨rfl, HQ.out _ _ (m0.bad (by rw [HRD.out, hs4]; first | done | rfl) fr4 hp4 hpm4 hO4)⟩); have l4 := aft_lg m0.good HKS.out hs4; have m4 := m0.step fr4 hp4 hO4 l4.pre l4.good; have frw : Fr wr w4 Fi F4 := ((Fr.ofBelow (Below.refl _ _).drew).trans fr4); have a4 := HAL.out.fr frw l4.pre; have jb := Tryd.ptwo (rdO_obj T0 p vs x bn bl) true m4.obj a4.us hU4 (a4.lst m4.good) l4.lst; unfold twF at jb; simp only [if_true] at jb)
            | (revert jb; intro jb; go_at_call 33; (with_reducible refine jb.mono ?_); rintro e w5 ⟨F5, i5, fr5, hp5, ⟨L5, M5, q6, d6, hs5, rfl, hU5, hO5⟩ | ⟨hs5, rfl, M5, hpm5, hO5⟩⟩; (case inr => exact ⟨rfl, HQ.out _ _ (m4.bad (by rw [HRD.out, hs4]; show bindM (twoM true al L4 M4) _ = none; rw [hs5]; rfl) fr5 hp5 hpm5 hO5)⟩); have l5 := two_lg m4.good a4.bd l4.bd hs5; have m5 := m4.step fr5 hp5 hO5 l5.pre l5.good; have fr5w : Fr wr w5 Fi F5 := (frw.trans fr5); have HRN : Hid (R = bindM (setM fuelN x (ks.drop (j + 1)) L5 M5) fun m M1 => bindM (twoM false out m M1) fun o M2 => stepM fuelN x (l.drop (k + 1)) o M2) := (by show _ = _; rw [HRD.out, hs4]; show bindM (twoM true al L4 M4) _ = _; rw [hs5]; rfl))
            | fail)
          all_goals
            have HM5 : Hid _ := m5
            have pr5 : Mi <+: M5 := l4.pre.trans l5.pre
            have HPR5 : Hid (Mj <+: M5) := HPR.out.trans pr5
            have HAL5 : Hid (LH w5 F5 M5 q6 d6 L5) := ⟨hU5, l5.len, l5.bd⟩
            have HO5 : Hid (LH w5 F5 M5 q5 d5 out) := HO.out.fr fr5w pr5
            have HL5 : Hid (LH w5 F5 M5 a c l) := HLL.out.fr fr5w pr5
            have HI5 : Hid (IU w5 F5 ia ic ks) := HIU.out.fr fr5w
            clear ja jb HMI HPR HAL HO HLL HIU HRD m0 m4 m5 l4 l5 fr4 fr5 frw fr5w hU4 hU5 hO4 hO5 hs4 hs5 e0 e1 e2 e3 g0 g1 g2 g3 c5 cM c5d cMd hcI hixI a4 pr5
            go_wp2
            go_roundw
            case rel => exact ⟨j + 1, q6, d6, L5, F5, i5, M5, by omega, by go_num, rfl, HM5, HPR5, HAL5, HO5, HL5, HI5, HRN⟩
            case measure => simp [intOf] <;> omega
        · obtain rfl : j = ln := by omega
          have HRF : Hid (R = bindM (twoM false out al Mi) fun o M2 => stepM fuelN x (l.drop (k + 1)) o M2) := by
            show _ = _
            rw [HR.out, List.drop_of_length_le (by have := HLN.out; omega)]
            rfl
          have jo := Tryd.ptwo (rdO_obj T0 p vs x bn bl) false HMI.out.obj HO.out.us HAL.out.us (HO.out.lst HMI.out.good) (HAL.out.lst HMI.out.good)
          unfold twF at jo
          simp only [Bool.false_eq_true, if_false] at jo
          clear HR
          go_wp2_with fail
          refine jo.mono ?_
          rintro e w6 ⟨F6, i6, fr6, hp6, ⟨L6, M6, q7, d7, hs6, rfl, hU6, hO6⟩ | ⟨hs6, rfl, M6, hpm6, hO6⟩⟩
          case inr => exact ⟨rfl, HQ.out _ _ (HMI.out.bad (by rw [HRF.out, hs6]; rfl) fr6 hp6 hpm6 hO6)⟩
          have l6 := two_lg HMI.out.good HO.out.bd HAL.out.bd hs6
          have HM6 : Hid _ := HMI.out.step fr6 hp6 hO6 l6.pre l6.good
          have HO6 : Hid (LH w6 F6 M6 q7 d7 L6) := ⟨hU6, l6.len, l6.bd⟩
          have HL6 : Hid (LH w6 F6 M6 a c l) := HLL.out.fr fr6 l6.pre
          have HRN : Hid (R = stepM fuelN x (l.drop (k + 1)) L6 M6) := by show _ = _; rw [HRF.out, hs6]; rfl
          clear jo HMI HPR HAL HO HLL HIU HRF l6 fr6 hU6 hO6 hs6
          go_wp2
          go_roundw
          case rel => exact ⟨k + 1, q7, d7, L6, F6, i6, M6, by omega, by go_num, rfl, HM6, HO6, HL6, HRN⟩
          case measure => simp [intOf] <;> omega
    · obtain rfl : k = n := by omega
      have HE : Hid (Q (.returned (.slice q5 out.length d5)) wr) := HQ.out _ _ ⟨Fj, ij, HMJ.out.fr, HMJ.out.hi, Or.inl ⟨out, Mj, q5, d5, by rw [HR.out, List.drop_of_length_le (by have := HNL.out; omega)]; rfl, rfl, HO.out.us, HMJ.out.obj⟩⟩
      clear HMJ HO HLL HR
      go_wp2
      exact HE.out
end Go.Proofs.YtnedkpbpeolfoaaDoor
namespace Go.Proofs.YtnedkpbpeolfoaaDoor
open Go.RowKit Go.Maps
/-- The variable of the error. -/
def Erc (w : World) (b : Nat) (e : Int) : Prop := w.heap[b]? = some (.cells #[.int .i64 e] 35 (0, 0))
set_option maxRecDepth 100000 in
set_option maxHeartbeats 4000000 in
theorem Tryd.catch_q (b : Nat) (e0 : Int) (older : List PanicEntry) (w : World) (h1 : Erc w b e0) :
    CallsD Tryd.prog 30 #[.pointer (some ⟨b, 0, none⟩)] (.panicking ({ v := .iface 72 (.int .i64 9), recovered := false } :: older)) w fun e u' w' =>
      e = .returned (.tuple #[]) ∧ u' = .panicking ({ v := .iface 72 (.int .i64 9), recovered := true } :: older) ∧ Erc w' b 9 ∧ w.grownBy w' (some b) := by
  refine callsD_of_wpS Tryd.func30 rfl fun c₀ cs hu => ?_
  have hta : ∀ w, (Instr.typeAssert (.iface 72 (.int .i64 9)) 20 72 true).run Tryd.prog w = .ok (.tuple #[.int .i64 9, .bool true]) w := fun w => by
    simp [Instr.typeAssert, go_sem]
  have f0 : w.cell? ⟨b, 0, none⟩ = some (.int .i64 e0) := cell_row h1 0
  have g0 : w.frozen? ⟨b, 0, none⟩ = false := frozen_of_row w b 0 _ _ h1
  have lb : b < w.heap.size := (Array.getElem?_eq_some_iff.1 h1).1
  have h2 := heap_setCell_same w b 0 _ _ (.int .i64 9) h1
  have HR : Hid (Erc (w.setCell ⟨b, 0, none⟩ (.int .i64 9)) b 9 ∧ w.grownBy (w.setCell ⟨b, 0, none⟩ (.int .i64 9)) (some b)) := ⟨h2, ⟨rfl, rfl, rfl, by simp, fun k hk hne => Below.heap_setCell _ _ _ _ (fun e => hne (congrArg some e))⟩⟩
  apply wpS_seq
  apply wpS_region
  simp [wpOpsS, go_sem, recoverD, hu, Tryd.ntmps30, Exit.thenS]
  refine wpS_of_wp ?_
  go_wp2
  simp [bodyPostS, results, Tryd.results30]
  exact HR.out
set_option maxRecDepth 100000 in
set_option maxHeartbeats 4000000 in
theorem Tryd.catch_n (b : Nat) (w : World) :
    CallsD Tryd.prog 30 #[.pointer (some ⟨b, 0, none⟩)] .returning w fun e u' w' => e = .returned (.tuple #[]) ∧ u' = .returning ∧ w' = w := by
  refine callsD_of_wpS Tryd.func30 rfl fun c₀ cs hu => ?_
  apply wpS_seq
  apply wpS_region
  simp [wpOpsS, go_sem, recoverD, hu, Tryd.ntmps30, Exit.thenS]
  refine wpS_of_wp ?_
  go_wp2
  cases c₀
  simp_all [bodyPostS, results, Tryd.results30]
set_option maxRecDepth 100000 in
set_option maxHeartbeats 8000000 in
/-- What may throw a refusal is done: which error was it? -/
theorem Tryd.pcaught_any (fid : Nat) (caps : Array Value) (w : World) (hE : EntersF fid) (P P' : World → Prop)
    (hP : ∀ w1 w2 b, P w1 → w1.grownBy w2 (some b) → b = w.heap.size → P w2) (hP' : ∀ w1 w2 b, P' w1 → w1.grownBy w2 (some b) → b = w.heap.size → P' w2)
    (jw : ∀ w0, w0 = w.alloc (.cells #[.int .i64 0] 35) → Calls Tryd.prog fid caps w0 fun e w' => (e = .returned (.tuple #[]) ∧ P w' ∧ Erc w' w.heap.size 0) ∨ (e = .panicked thrownP ∧ P' w' ∧ Erc w' w.heap.size 0)) :
    Calls Tryd.prog 14 #[.func (.func fid) #[] caps] w fun e w' => (e = .returned (.int .i64 0) ∧ P w') ∨ (e = .returned (.int .i64 9) ∧ P' w') := by
  have j0 := jw _ rfl
  unfold EntersF at hE
  clear jw
  go_enter_defers Tryd.func14, Tryd.ntmps14
  go_wp2_with fail
  refine j0.mono ?_
  rintro e w1 (⟨rfl, hp, herc⟩ | ⟨rfl, hp, herc⟩)
  · have f0 : w1.cell? ⟨w.heap.size, 0, none⟩ = some (.int .i64 0) := cell_row herc 0
    have g0 : w1.frozen? ⟨w.heap.size, 0, none⟩ = false := frozen_of_row w1 _ 0 _ _ herc
    have HP : Hid _ := hp
    have HE2 : Hid _ := herc
    clear j0 hp herc
    go_wp2
    have k2 := heap_setCell_same w1 w.heap.size 0 _ _ (.int .i64 0) HE2.out
    have hg : w1.grownBy (w1.setCell ⟨w.heap.size, 0, none⟩ (.int .i64 0)) (some w.heap.size) := ⟨rfl, rfl, rfl, by simp, fun k hk hne => Below.heap_setCell _ _ _ _ (fun e => hne (congrArg some e))⟩
    have hp2 := hP w1 _ _ HP.out hg rfl
    refine leaves_cons (f := 30) (args := #[.pointer (some ⟨w.heap.size, 0, none⟩)]) (by simp) (by simp [go_sem]) ?_
    refine (Tryd.catch_n w.heap.size _).mono ?_
    rintro e u' w3 ⟨rfl, rfl, rfl⟩
    have f1 : (w1.setCell ⟨w.heap.size, 0, none⟩ (.int .i64 0)).cell? ⟨w.heap.size, 0, none⟩ = some (.int .i64 0) := cell_row k2 0
    generalize w1.setCell ⟨w.heap.size, 0, none⟩ (.int .i64 0) = W at *
    simp [Leaves, settle, results, Tryd.results14, go_sem, f1]
    exact hp2
  · refine leaves_cons (f := 30) (args := #[.pointer (some ⟨w.heap.size, 0, none⟩)]) (by simp) (by simp [go_sem]) ?_
    refine (Tryd.catch_q w.heap.size 0 [] w1 herc).mono ?_
    rintro e u' w2 ⟨rfl, rfl, herc2, hg2⟩
    have f1 : w2.cell? ⟨w.heap.size, 0, none⟩ = some (.int .i64 9) := cell_row herc2 0
    have hp2 := hP' w1 w2 _ hp hg2 rfl
    simp [Leaves, settle, results, Tryd.results14, go_sem, f1]
    exact hp2
end Go.Proofs.YtnedkpbpeolfoaaDoor
namespace Go.Proofs.YtnedkpbpeolfoaaDoor
open Go.RowKit Go.Maps
/-- A reading begins: nothing was told yet. -/
theorem rd_new {T0 : Tr} {p : Nat} {vs : Value} (x : Nat) {w w' : World} {F : Nat → Prop} {items : List It} {M : Mt} {bn bl : Nat} (h : PgO T0 w F p vs items M) (hb : Below w.heap.size w w') (h1 : MemM w' bn [] (fun _ => none)) (h2 : MemM w' bl [] (fun _ => none)) (hne : bn ≠ bl) (n1 : w.heap.size ≤ bn) (n2 : w.heap.size ≤ bl) :
    RdO T0 p vs x bn bl w' (fun k => F k ∨ k = bn ∨ k = bl) items M ∧ Fr w w' F (fun k => F k ∨ k = bn ∨ k = bl) :=
  ⟨⟨F, [], [], _, _, h.up hb, h1, h2, hne, fun e => by have := h.lt _ e; omega, fun e => by have := h.lt _ e; omega, fun k => Iff.rfl, fun i v hv => (by cases hv), fun i v hv => (by cases hv)⟩,
   ⟨hb.os, hb.tape, hb.output, hb.size, fun k hk _ => hb.block k hk, fun k hk => by
    rcases hk with e | e | e
    · exact Or.inl e
    · right; omega
    · right; omega⟩⟩
set_option maxRecDepth 100000 in
set_option maxHeartbeats 4000000 in
theorem Tryd.pread_any {T0 : Tr} {p : Nat} {vs : Value} (x : Nat) {w : World} {F : Nat → Prop} {items : List It} {M : Mt} (h : PgO T0 w F p vs items M) :
    Calls Tryd.prog 16 #[.pointer (some ⟨p, 0, none⟩), .int .u8 (x : Int)] w fun e w' => ∃ bn bl, e = .returned (rdV p x bn bl) ∧ RdO T0 p vs x bn bl w' (fun k => F k ∨ k = bn ∨ k = bl) items M ∧ Fr w w' F (fun k => F k ∨ k = bn ∨ k = bl) ∧ Below w.heap.size w w' := by
  have HH : Hid _ := h
  have hmm := @run_makeMap Tryd.prog
  clear h
  go_enter Tryd.func16, Tryd.ntmps16
  go_wp2
  generalize hO : Obj.cells #[.pointer (some ⟨p, 0, none⟩), .int .u8 (x : Int), .map (some (w.heap.size + 1)), .map (some (w.heap.size + 1 + 1))] 56 = O
  have hb1 := below_new w O
  have hb2 := below_new (w.alloc O) (.map #[] 0)
  have hb3 := below_new ((w.alloc O).alloc (.map #[] 0)) (.map #[] 0)
  have hb : Below w.heap.size w (((w.alloc O).alloc (.map #[] 0)).alloc (.map #[] 0)) := below_step (below_step hb1 hb2) hb3
  have z1 : (w.alloc O).heap.size = w.heap.size + 1 := by simp
  have z2 : ((w.alloc O).alloc (.map #[] 0)).heap.size = w.heap.size + 1 + 1 := by simp
  have h1 : MemM (((w.alloc O).alloc (.map #[] 0)).alloc (.map #[] 0)) (w.heap.size + 1) [] (fun _ => none) := by
    have := mem_made (w.alloc O)
    rw [z1] at this
    exact this.far (hb3.block _ (by omega))
  have h2 : MemM (((w.alloc O).alloc (.map #[] 0)).alloc (.map #[] 0)) (w.heap.size + 1 + 1) [] (fun _ => none) := by
    have := mem_made ((w.alloc O).alloc (.map #[] 0))
    rw [z2] at this
    exact this
  have h0 : (((w.alloc O).alloc (.map #[] 0)).alloc (.map #[] 0)).heap[w.heap.size]? = some O := (hb3.block _ (by omega)).trans ((hb2.block _ (by omega)).trans (MapKept.heap_alloc w O).1)
  clear hb3 z2
  generalize ((w.alloc O).alloc (.map #[] 0)).alloc (.map #[] 0) = W at *
  rw [← hO] at h0
  have e0 : W.cell? ⟨w.heap.size, 0, none⟩ = some (.pointer (some ⟨p, 0, none⟩)) := cell_row h0 0
  have e1 : W.cell? ⟨w.heap.size, 1, none⟩ = some (.int .u8 (x : Int)) := cell_row h0 1
  have e2 : W.cell? ⟨w.heap.size, 2, none⟩ = some (.map (some (w.heap.size + 1))) := cell_row h0 2
  have e3 : W.cell? ⟨w.heap.size, 3, none⟩ = some (.map (some (w.heap.size + 1 + 1))) := cell_row h0 3
  obtain ⟨r1, r2⟩ := rd_new x HH.out hb h1 h2 (by omega) (by omega) (by omega)
  refine bodyPost_ret (v := rdV p x (w.heap.size + 1) (w.heap.size + 1 + 1)) (by simp [results, Tryd.results16, go_sem, e0, e1, e2, e3, rdV]) rfl ⟨_, _, rfl, r1, r2, hb⟩
set_option maxRecDepth 100000 in
set_option maxHeartbeats 8000000 in
theorem Tryd.pknows_any {T0 : Tr} {p : Nat} {vs : Value} {w : World} {F : Nat → Prop} {items : List It} {M : Mt} (h : PgO T0 w F p vs items M) (a : Option Addr) (c : Nat) (l : List Nat) (hU : USl w a l.length c l) (sm : Sm l) (hl : l.length ≤ 1024) :
    Calls Tryd.prog 13 #[.pointer (some ⟨p, 0, none⟩), .slice a l.length c] w fun e w' => (∃ b, e = .returned (.bool b) ∧ (b = true ↔ BdL l M.length)) ∧ w' = w := by
  obtain ⟨G, mn, vm, met, hr, hF⟩ := h.ex
  have c5 := hr.c5
  obtain ⟨ma, mc, rfl⟩ := own_slI hr.row
  have hml : met.length = M.length := hr.met.1
  have hfew := h.few
  rw [hml] at c5
  have hidx := fun (i : Nat) (w : World) (h : i < l.length) => hU.idx l.length i w h (Nat.le_refl _)
  have HC : Hid (∀ i (h : i < l.length), w.cell? (adOf a i) = some (.int .u64 ((l[i] : Nat) : Int))) := fun i hi => by
    have := hU.cell i hi
    rw [show (iU l).getD i 0 = ((l[i] : Nat) : Int) by simp [iU, List.getD_eq_getElem?_getD, hi]] at this
    exact this
  have HSM : Hid (Sm l) := sm
  clear h hr hF hU sm hml
  obtain ⟨n, hn⟩ : ∃ n, n = l.length := ⟨_, rfl⟩
  have HNL : Hid (n = l.length) := hn
  rw [← hn] at hidx hl ⊢
  clear hn
  generalize hm : M.length = m at *
  clear hm
  go_enter Tryd.func13, Tryd.ntmps13
  go_wp2
  go_loopw [9] (fun i wr => ∃ k : Nat, k ≤ n ∧ i = .int .i64 (k : Int) ∧ wr = w ∧ Hid (BdL (l.take k) m)) (fun i _ => n - (intOf i).toNat)
  case atStart => exact ⟨0, Nat.zero_le _, rfl, rfl, by show BdL _ _; rw [List.take_zero]; exact bdL_yes false _⟩
  case round =>
    obtain ⟨k, hk, rfl, rfl, HB⟩ := hrel
    by_cases hlt : k < n
    · have hkl : k < l.length := by have := HNL.out; omega
      have hc := HC.out k hkl
      have hix := fun w' => hidx k w' hlt
      have hs64 : l[k] < 2 ^ 64 := HSM.out _ (List.getElem_mem hkl)
      have HBN : Hid (l[k] < 2 ^ m → BdL (l.take (k + 1)) m) := fun hx s hs j hj => by
        rw [List.take_add_one, List.mem_append] at hs
        rcases hs with hs | hs
        · exact HB.out s hs j hj
        · rw [List.getElem?_eq_getElem hkl] at hs
          simp at hs
          subst hs
          exact Nat.lt_of_not_le fun hle => by
            have := Nat.testBit_lt_two_pow (Nat.lt_of_lt_of_le hx (Nat.pow_le_pow_right (by decide) hle))
            rw [hj] at this; cases this
      have HBF : Hid (¬ l[k] < 2 ^ m → ¬ BdL l m) := fun hx hb => hx (Nat.lt_pow_two_of_testBit _ fun j hj => by
        cases ht : l[k].testBit j with
        | false => rfl
        | true => have := hb _ (List.getElem_mem hkl) j ht; omega)
      generalize l[k] = y at *
      clear HB
      by_cases hy : y < 2 ^ m
      · have hz : ((y : Int) / 2 ^ m) = 0 := by
          rw [show ((2 : Int) ^ m) = ((2 ^ m : Nat) : Int) by simp, ← Int.natCast_ediv, Nat.div_eq_of_lt hy]; rfl
        have HBT : Hid _ := HBN.out hy
        clear HBN HBF
        go_wp2
        go_roundw
        case rel => exact ⟨k + 1, by omega, by go_num, by first | trivial | rfl, HBT⟩
        case measure => simp [intOf] <;> omega
      · have hz : ((y : Int) / 2 ^ m == 0) = false := by
          rw [show ((2 : Int) ^ m) = ((2 ^ m : Nat) : Int) by simp, ← Int.natCast_ediv, beq_eq_false_iff_ne]
          have : 0 < y / 2 ^ m := Nat.div_pos (by omega) (Nat.pow_pos (by decide))
          omega
        have HBT : Hid _ := HBF.out hy
        clear HBN HBF
        go_wp2
        go_ret
        exact ⟨⟨false, rfl, ⟨fun h => (by cases h), fun h => absurd h HBT.out⟩⟩, rfl⟩
    · obtain rfl : k = n := by omega
      have HBT : Hid (BdL l m) := by
        have := HB.out
        rw [List.take_of_length_le (by have := HNL.out; omega)] at this
        exact this
      clear HB
      go_wp2
      go_ret
      exact ⟨⟨true, rfl, ⟨fun _ => HBT.out, fun _ => rfl⟩⟩, rfl⟩
end Go.Proofs.YtnedkpbpeolfoaaDoor
namespace Go.Proofs.YtnedkpbpeolfoaaDoor
open Go.RowKit Go.Maps
/-- The variables of a Step: the prog, the letter, the list, what is left. -/
structure StV (w : World) (F : Nat → Prop) (p x : Nat) (a : Option Addr) (n c : Nat) (v : Value) (b0 b1 b2 b3 : Nat) : Prop where
  h0 : w.heap[b0]? = some (.cells #[.pointer (some ⟨p, 0, none⟩)] 24 (0, 0))
  h1 : w.heap[b1]? = some (.cells #[.slice a n c] 22 (0, 0))
  h2 : w.heap[b2]? = some (.cells #[.int .u8 (x : Int)] 23 (0, 0))
  h3 : w.heap[b3]? = some (.cells #[v] 22 (0, 0))
  n0 : ¬ F b0
  n1 : ¬ F b1
  n2 : ¬ F b2
  n3 : ¬ F b3
  d13 : b1 ≠ b3
theorem StV.fr {w w' : World} {F F' : Nat → Prop} {p x : Nat} {a : Option Addr} {n c : Nat} {v : Value} {b0 b1 b2 b3 : Nat} (h : StV w F p x a n c v b0 b1 b2 b3) (fr : Fr w w' F F') : StV w' F' p x a n c v b0 b1 b2 b3 :=
  ⟨(box_keep h.h0 h.n0 fr).1, (box_keep h.h1 h.n1 fr).1, (box_keep h.h2 h.n2 fr).1, (box_keep h.h3 h.n3 fr).1, (box_keep h.h0 h.n0 fr).2, (box_keep h.h1 h.n1 fr).2, (box_keep h.h2 h.n2 fr).2, (box_keep h.h3 h.n3 fr).2, h.d13⟩
def StC (p x b0 b1 b2 : Nat) (a : Option Addr) (n c : Nat) (w' : World) : Prop := w'.cell? ⟨b0, 0, none⟩ = some (.pointer (some ⟨p, 0, none⟩)) ∧ w'.cell? ⟨b2, 0, none⟩ = some (.int .u8 (x : Int)) ∧ w'.cell? ⟨b1, 0, none⟩ = some (.slice a n c)
theorem StV.cells {w : World} {F : Nat → Prop} {p x : Nat} {a : Option Addr} {n c : Nat} {v : Value} {b0 b1 b2 b3 : Nat} (h : StV w F p x a n c v b0 b1 b2 b3) : StC p x b0 b1 b2 a n c w := ⟨cell_row h.h0 0, cell_row h.h2 0, cell_row h.h1 0⟩
theorem StV.set {w : World} {F : Nat → Prop} {p x : Nat} {a : Option Addr} {n c : Nat} {v : Value} {b0 b1 b2 b3 : Nat} (h : StV w F p x a n c v b0 b1 b2 b3) (u : Value) : StC p x b0 b1 b2 a n c (w.setCell ⟨b3, 0, none⟩ u) := by
  have e0 : b0 ≠ b3 := fun e => by
    have := h.h0
    rw [e, h.h3] at this
    injection this with this
    injection this with _ this _
    exact absurd this (by decide)
  have e2 : b2 ≠ b3 := fun e => by
    have := h.h2
    rw [e, h.h3] at this
    injection this with this
    injection this with _ this _
    exact absurd this (by decide)
  exact ⟨cell_row ((Below.heap_setCell _ _ _ _ e0).trans h.h0) 0, cell_row ((Below.heap_setCell _ _ _ _ e2).trans h.h2) 0, cell_row ((Below.heap_setCell _ _ _ _ h.d13).trans h.h1) 0⟩
/-- What it answers. -/
def StepQ (T0 : Tr) (p : Nat) (vs : Value) (w : World) (F : Nat → Prop) (items : List It) (M : Mt) (b3 : Nat) (R : Rt) (e : Ending) (w' : World) : Prop :=
  (e = .returned (.tuple #[]) ∧ ∃ (L : List Nat) (M' : Mt) (q : Option Addr) (d : Nat) (F' : Nat → Prop) (items' : List It), R = some (L, M') ∧ w'.heap[b3]? = some (.cells #[.slice q L.length d] 22 (0, 0)) ∧ PgO T0 w' F' p vs items' M' ∧ US w' F' q L.length d L ∧ ¬ F' b3 ∧ items <+: items' ∧ M <+: M' ∧ Fr w w' (fun k => F k ∨ k = b3) F') ∨
  (e = .panicked thrownP ∧ R = none ∧ ∃ (M' : Mt) (F' : Nat → Prop) (items' : List It), PgO T0 w' F' p vs items' M' ∧ ¬ F' b3 ∧ items <+: items' ∧ M <+: M' ∧ Fr w w' (fun k => F k ∨ k = b3) F' ∧ w'.heap[b3]? = w.heap[b3]?)
theorem us_off {w : World} {F : Nat → Prop} {a : Option Addr} {n c : Nat} {l : List Nat} {b : Nat} {T : TypeId} (h : US w F a n c l) (hb : w.heap[b]? = some (.cells #[.slice none 0 0] T (0, 0))) : ∀ k, k < n → (adOf a k).block ≠ b := fun k hk e => by
  have hc := h.sl.cell k hk
  unfold World.cell? at hc
  rw [e, hb] at hc
  simp at hc
  match ho : (adOf a k).off, hc with
  | 0, hc => simp at hc
  | j + 1, hc => simp at hc
/-- The list is stored. -/
theorem step_fin {T0 : Tr} {p : Nat} {vs : Value} {x bn bl : Nat} {w w2 : World} {F F2 : Nat → Prop} {items i2 : List It} {M M2 : Mt} {b3 : Nat} {R : Rt} {L : List Nat} {q : Option Addr} {d : Nat} (hR : R = some (L, M2)) (h3 : w2.heap[b3]? = some (.cells #[.slice none 0 0] 22 (0, 0))) (n3 : ¬ F2 b3) (fr : Fr w w2 F F2) (hp : items <+: i2) (hM : M <+: M2) (hU : US w2 F2 q L.length d L) (hO : RdO T0 p vs x bn bl w2 F2 i2 M2) :
    StepQ T0 p vs w F items M b3 R (.returned (.tuple #[])) (w2.setCell ⟨b3, 0, none⟩ (.slice q L.length d)) := by
  obtain ⟨F1, kn, kl, fn, fl, hr⟩ := hO
  have st : ∀ k, k ≠ b3 → (w2.setCell ⟨b3, 0, none⟩ (.slice q L.length d)).heap[k]? = w2.heap[k]? := fun k hk => Below.heap_setCell _ _ _ _ hk
  have hoff := us_off hU h3
  have hsub : ∀ k, F1 k → F2 k := fun k hk => (hr.ff k).2 (Or.inl hk)
  refine Or.inl ⟨rfl, L, M2, q, d, F1, i2, hR, ?_, hr.pg.far fun k hk => st k (fun e => n3 (e ▸ hsub k hk)), ⟨?_, fun k hk e => hU.nf k hk (hsub _ e)⟩, fun e => n3 (hsub _ e), hp, hM, ?_⟩
  · rw [heap_setCell_same w2 b3 0 _ _ _ h3]; rfl
  · have hs := hU.sl
    refine ⟨hs.hlen, hs.hcap, hs.bd, hs.idx, fun k hk => ?_, fun k hk => by simp; exact hs.blk k hk, hs.nn⟩
    have := hs.cell k hk
    unfold World.cell? at this ⊢
    rw [st _ (hoff k hk)]
    exact this
  · exact ⟨fr.os, fr.tape, fr.output, by simp; exact fr.size, fun k hk hF => (st k fun e => hF (Or.inr e)).trans (fr.keep k hk fun e => hF (Or.inl e)), fun k hk => (fr.foot k (hsub k hk)).imp Or.inl id⟩
theorem step_bad {T0 : Tr} {p : Nat} {vs : Value} {x bn bl : Nat} {w w2 : World} {F F2 : Nat → Prop} {items i2 : List It} {M M2 : Mt} {b3 : Nat} {R : Rt} (hR : R = none) (h3 : w2.heap[b3]? = w.heap[b3]?) (n3 : ¬ F2 b3) (fr : Fr w w2 F F2) (hp : items <+: i2) (hM : M <+: M2) (hO : RdO T0 p vs x bn bl w2 F2 i2 M2) :
    StepQ T0 p vs w F items M b3 R (.panicked thrownP) w2 := by
  obtain ⟨F1, kn, kl, fn, fl, hr⟩ := hO
  have hsub : ∀ k, F1 k → F2 k := fun k hk => (hr.ff k).2 (Or.inl hk)
  exact Or.inr ⟨rfl, hR, M2, F1, i2, hr.pg, fun e => n3 (hsub _ e), hp, hM, fr.alike (fun k hk => Or.inl hk) hsub, h3⟩
set_option maxRecDepth 100000 in
set_option maxHeartbeats 8000000 in
theorem Tryd.pstep1_any {T0 : Tr} {p : Nat} {vs : Value} {x : Nat} (hx8 : x < 256) {w : World} {F : Nat → Prop} {items : List It} {M : Mt} (h : PgO T0 w F p vs items M) (hT : Tab64 w) (hnG : ¬ F tabG) (a : Option Addr) (c : Nat) (l : List Nat) (hL : LH w F M a c l) (b0 b1 b2 b3 : Nat) (hV : StV w F p x a l.length c (.slice none 0 0) b0 b1 b2 b3) :
    Calls Tryd.prog 15 #[.pointer (some ⟨b0, 0, none⟩), .pointer (some ⟨b2, 0, none⟩), .pointer (some ⟨b1, 0, none⟩), .pointer (some ⟨b3, 0, none⟩)] w (StepQ T0 p vs w F items M b3 (stepM fuelN x l [] M)) := by
  have hVd := hV.fr (Fr.ofBelow (F := F) (Below.refl w.heap.size w).drew)
  have hk0 := hVd.cells
  have hk00 := hV.cells
  have jr := Tryd.pread_any x (h.up (Below.refl w.heap.size w).drew)
  have HV : Hid _ := hVd
  have HT : Hid (Tab64 w.drew) := hT.up (Below.refl _ _).drew
  have HL : Hid (LH w.drew F M a c l) := hL.fr (Fr.ofBelow (Below.refl _ _).drew) (List.prefix_refl _)
  have HNG : Hid (¬ F tabG) := hnG
  have H0 : Hid (T0k T0) := h.t0
  have htl : Hid (tabG < w.heap.size) := World.block_lt_of_cell? _ _ (hT 0 (by decide))
  obtain ⟨R, hR⟩ : ∃ R, R = stepM fuelN x l [] M := ⟨_, rfl⟩
  rw [← hR]
  have HR : Hid _ := hR
  obtain ⟨Q, hQ⟩ : ∃ Q : Ending → World → Prop, Q = StepQ T0 p vs w F items M b3 R := ⟨_, rfl⟩
  have HQ : Hid (∀ e w', StepQ T0 p vs w F items M b3 R e w' → Q e w') := fun e w' h => by rw [hQ]; exact h
  rw [← hQ]
  clear h hT hnG hL hV hVd hR hQ
  generalize hN : l.length = n at *
  have HN : Hid _ := hN
  clear hN
  unfold StC at *
  unfold rdV at jr
  go_enter Tryd.func15, Tryd.ntmps15
  go_wp2_with fail
  go_region_held2 (fun w' => w'.cell? ⟨b0, 0, none⟩ = some (.pointer (some ⟨p, 0, none⟩)) ∧ w'.cell? ⟨b2, 0, none⟩ = some (.int .u8 (x : Int)) ∧ w'.cell? ⟨b1, 0, none⟩ = some (.slice a n c)) (first | exact hk0 | exact hk00 | assumption | fail) (first
      | (revert jr; intro jr; go_at_call 16; (with_reducible refine jr.mono ?_); rintro e w1 ⟨bn, bl, rfl, hO1, fr1, hb1⟩; have hV1 := HV.out.fr fr1; have hk1 := hV1.cells; unfold StC at hk1; have js := Tryd.pstep_any hx8 hO1 (HT.out.up hb1) (fr1.out HNG.out htl.out) a c l (HL.out.fr fr1 (List.prefix_refl _)) H0.out; rw [HN.out, ← HR.out] at js; unfold rdV at js)
      | (revert js; intro js; go_at_call 17; (with_reducible refine js.mono ?_); rintro e w2 ⟨F2, i2, fr2, hp2, ⟨L2, M2, q2, d2, hs2, rfl, hU2, hO2⟩ | ⟨hs2, rfl, M2, hpm2, hO2⟩⟩; (case inr => exact ⟨rfl, HQ.out _ _ (step_bad hs2 (((hV1.fr fr2).h3).trans HV.out.h3.symm) (hV1.fr fr2).n3 (((Fr.ofBelow (Below.refl _ _).drew).trans fr1).trans fr2) hp2 hpm2 hO2)⟩); have hV2 := hV1.fr fr2; have hk2 := hV2.cells; unfold StC at hk2; have hk3 := hV2.set (.slice q2 L2.length d2); unfold StC at hk3; have HE : Hid (Q (.returned (.tuple #[])) (w2.setCell ⟨b3, 0, none⟩ (.slice q2 L2.length d2))) := (HQ.out _ _ (step_fin hs2 hV2.h3 hV2.n3 (((Fr.ofBelow (Below.refl _ _).drew).trans fr1).trans fr2) hp2 (step_again fuelN x l [] M M2 L2 HL.out.bd (HR.out.symm.trans hs2)).1 hU2 hO2)); have z2 : w2.cell? ⟨b3, 0, none⟩ = some (.slice none 0 0) := cell_row hV2.h3 0; have z3 : w2.frozen? ⟨b3, 0, none⟩ = false := frozen_of_row w2 b3 0 _ _ hV2.h3)
      | fail)
  all_goals
    clear jr js
    go_wp2
    go_end0
    exact HE.out
end Go.Proofs.YtnedkpbpeolfoaaDoor
namespace Go.Proofs.YtnedkpbpeolfoaaDoor
open Go.RowKit Go.Maps
theorem nmF_at {M : Mt} (hM : ∀ f ∈ M, SmT f) (nd : M.Nodup) {i : Nat} (hi : i < M.length) : nmF M (txOf M[i]) = some i := by
  rw [nmF_is hM (hM _ (List.getElem_mem hi)), List.findIdx?_eq_some_iff_getElem]
  refine ⟨hi, by simp, fun j hj => ?_⟩
  intro e
  have e' : M[j] = M[i] := by simpa using e
  have := (List.getElem_inj nd).1 e'
  omega
theorem nmF_is_at {M : Mt} {y : ByteArray} {j : Nat} (h : nmF M y = some j) : ∃ hj : j < M.length, txOf M[j] = y := by
  unfold nmF at h
  obtain ⟨hj, h1, _⟩ := List.findIdx?_eq_some_iff_getElem.1 h
  exact ⟨hj, by simpa using h1⟩
/-- What is left of the numbers when i of them from n on are taken out. -/
def outN (M : Mt) (n i : Nat) (y : ByteArray) : Option Nat := (nmF M y).bind fun j => if n ≤ j ∧ j < n + i then none else some j
theorem outN_zero (M : Mt) (n : Nat) (y : ByteArray) : nmF M y = outN M n 0 y := by
  unfold outN
  cases nmF M y with
  | none => rfl
  | some j => simp only [Option.bind_some]; rw [if_neg (by omega)]
theorem outN_next {M : Mt} (hM : ∀ f ∈ M, SmT f) (nd : M.Nodup) {n i : Nat} (h : n + i < M.length) (y : ByteArray) : (if y = txOf M[n + i] then none else outN M n i y) = outN M n (i + 1) y := by
  unfold outN
  by_cases e : y = txOf M[n + i]
  · rw [if_pos e, e, nmF_at hM nd h]
    simp only [Option.bind_some]
    rw [if_pos (by omega)]
  · rw [if_neg e]
    cases hp : nmF M y with
    | none => rfl
    | some j =>
      obtain ⟨hj, ht⟩ := nmF_is_at hp
      have : j ≠ n + i := fun he => e (by subst he; exact ht.symm)
      simp only [Option.bind_some]
      by_cases h1 : n ≤ j ∧ j < n + i
      · rw [if_pos h1, if_pos (by omega)]
      · rw [if_neg h1, if_neg (by omega)]
theorem outN_there {M : Mt} (hM : ∀ f ∈ M, SmT f) (nd : M.Nodup) {n i : Nat} (h : n + i < M.length) : (outN M n i (txOf M[n + i])).isSome = true := by
  unfold outN
  rw [nmF_at hM nd h]
  simp only [Option.bind_some]
  rw [if_neg (by omega)]; rfl
theorem outN_end {M : Mt} {n : Nat} (hn : n ≤ M.length) (y : ByteArray) : outN M n (M.length - n) y = nmF (M.take n) y := by
  unfold outN nmF
  have e : M.findIdx? (fun f => decide (txOf f = y)) = ((M.take n).findIdx? fun f => decide (txOf f = y)).or (((M.drop n).findIdx? fun f => decide (txOf f = y)).map (· + (M.take n).length)) := by
    rw [← List.findIdx?_append, List.take_append_drop]
  rw [e]
  cases h1 : (M.take n).findIdx? fun f => decide (txOf f = y) with
  | some j =>
    have hj := (List.findIdx?_eq_some_iff_getElem.1 h1).1
    rw [List.length_take] at hj
    simp only [Option.some_or, Option.bind_some]
    rw [if_neg (by omega)]
  | none =>
    simp only [Option.none_or]
    cases h2 : (M.drop n).findIdx? fun f => decide (txOf f = y) with
    | none => rfl
    | some j =>
      have hj := (List.findIdx?_eq_some_iff_getElem.1 h2).1
      rw [List.length_drop] at hj
      simp only [Option.map_some, Option.bind_some, List.length_take]
      rw [if_pos (by omega)]
theorem Tryd.stepg_delS {w : World} {ops : Array Oper} {o : Oper} {a : Act} {K : Act → World → Prop} {Q : Exit → Act → World → Prop} {E : Prop} (hw : Region.wanted o (yielded ops a.tmps) = true) (m x : Operand)
    (ho : o.op = .call { callee := .builtin .delete, args := #[m, x], argTypes := #[30, 9] }) (b n : Nat) (f : ByteArray → Option Nat) (y : ByteArray) (hm : a.eval m = .map (some b)) (hx : a.eval x = .string y)
    (h : NumS w b n f) (hy : SOk y) (hf : (f y).isSome = true)
    (hK : ∀ w', NumS w' b (n - 1) (fun z => if z = y then none else f z) → w.grownBy w' (some b) → K (a.put o.dst (.tuple #[])) w') :
    if Region.wanted o (yielded ops a.tmps) = true then Oper.wp Tryd.prog o a w K Q else E := by
  rw [if_pos hw]
  obtain ⟨w', hr, h1, h2⟩ := h.drop hy hf o.type
  unfold Oper.wp execOp
  simp only [ho, resolve, invoke, builtin, Sem.run_bind, Sem.run_pure, Result.andThen_ok, List.map_toArray, List.map_cons, List.map_nil, hm, hx, hr]
  exact hK w' h1 h2
/-- What forget's loop keeps. -/
structure FgS (T0 : Tr) (w wr : World) (G : Nat → Prop) (p mn : Nat) (vm vs : Value) (items : List It) (met : List Nat) (M : Mt) (n k : Nat) : Prop where
  po : PtO T0 wr G p 33 (pgRest p mn vm vs) items
  num : NumS wr mn (met.length - k) (outN M n k)
  row : wr.ownsRow 0 3 1 vm met.length (encM met)
  fr : Fr w wr (FQ G mn vm) (FQ G mn vm)
theorem FgS.c4 {T0 : Tr} {w wr : World} {G : Nat → Prop} {p mn : Nat} {vm vs : Value} {items : List It} {met : List Nat} {M : Mt} {n k : Nat} (h : FgS T0 w wr G p mn vm vs items met M n k) : wr.cell? ⟨p, 4, none⟩ = some (.map (some mn)) ∧ wr.cell? ⟨p, 5, none⟩ = some vm ∧ wr.frozen? ⟨p, 5, none⟩ = false ∧ G p := by
  obtain ⟨vi, mp, vt, hb, hg⟩ := h.po.blk
  exact ⟨cell_row hb 4, cell_row hb 5, frozen_of_row wr p 5 _ _ hb, hg⟩
/-- One is forgotten. -/
theorem FgS.next {T0 : Tr} {w wr w1 w2 : World} {G : Nat → Prop} {p mn : Nat} {vm vs : Value} {items : List It} {met : List Nat} {M : Mt} {n k : Nat} {y : ByteArray} (h : FgS T0 w wr G p mn vm vs items met M n k) (ng : ¬ G mn) (nv : ∀ q, vm.ownBlock = some q → ¬ G q) (ht : TextP T0 wr.drew G p 33 (pgRest p mn vm vs) items w1)
    (hn : NumS w2 mn (met.length - k - 1) (fun z => if z = y then none else outN M n k z)) (hy : ∀ z, (if z = y then none else outN M n k z) = outN M n (k + 1) z) (hg : w1.grownBy w2 (some mn)) :
    FgS T0 w w2 G p mn vm vs items met M n (k + 1) := by
  have fr1 : Fr wr w1 G G := (Fr.ofBelow (Below.refl _ _).drew).trans ht.2
  obtain ⟨es, cl, hmap⟩ := h.num.isMap
  have hvn : vm.ownBlock ≠ some mn := own_not h.row hmap fun cs e => by cases e
  have st : ∀ q, q < w1.heap.size → q ≠ mn → w2.heap[q]? = w1.heap[q]? := fun q hq hne => hg.block q hq (fun e => hne (by injection e))
  have hs1 := fr1.size
  refine ⟨ht.1.far fun q hq => st q (ht.1.lt q hq) (fun e => ng (e ▸ hq)), ?_, owns_off h.row fun q hq => (st q (by have := own_lt h.row q hq; omega) (fun e => hvn (e ▸ hq))).trans (fr1.keep q (own_lt h.row q hq) (nv q hq)), h.fr.trans ⟨hg.os.trans fr1.os, hg.tape.trans fr1.tape, hg.output.trans fr1.output, Nat.le_trans fr1.size hg.size, fun q hq hF => (st q (by omega) (fun e => hF (Or.inr (Or.inl e)))).trans (fr1.keep q hq fun e => hF (Or.inl e)), fun _ hq => Or.inl hq⟩⟩
  rw [show met.length - (k + 1) = met.length - k - 1 by omega]
  exact hn.alike fun z _ => hy z
theorem forget_fin {T0 : Tr} {w wr : World} {F G : Nat → Prop} {p mn : Nat} {va : Option Addr} {vc L : Nat} {vs : Value} {items : List It} {met : List Nat} {M : Mt} {n : Nat} (h : PgO T0 w F p vs items M) (hr : PgR T0 w G p mn (.slice va L vc) vs items met M) (hF : ∀ k, F k ↔ FQ G mn (.slice va L vc) k) (hL : met.length = L) (hn : n ≤ M.length) (hS : FgS T0 w wr G p mn (.slice va L vc) vs items met M n (L - n)) :
    ∃ F', PgO T0 (wr.setCell ⟨p, 5, none⟩ (.slice va n vc)) F' p vs items (M.take n) ∧ Fr w (wr.setCell ⟨p, 5, none⟩ (.slice va n vc)) F F' := by
  have hml := hr.met.1
  have hrow := hS.row
  rw [hL] at hrow
  obtain ⟨va', vc', vb, e, _, hown, _, _, hob⟩ := ns_cut hrow (m := n) (by omega)
  injection e with e1 _ e3
  subst e1 e3
  obtain ⟨_, _, _, hgp⟩ := hS.c4
  have hob' : (Value.slice va n vc).ownBlock = (Value.slice va L vc).ownBlock := hob
  have st : ∀ k, k ≠ p → (wr.setCell ⟨p, 5, none⟩ (.slice va n vc)).heap[k]? = wr.heap[k]? := fun k hk => Below.heap_setCell _ _ _ _ hk
  have hmlen : (met.take n).length = n := by rw [List.length_take]; omega
  have hMlen : (M.take n).length = n := by rw [List.length_take]; omega
  refine ⟨FQ G mn (.slice va n vc), ⟨by rw [hMlen]; have := h.few; omega, h.nd.sublist (List.take_sublist _ _), fun f hf => h.of f (List.mem_of_mem_take hf), G, mn, .slice va n vc, met.take n, ⟨hS.po.setRest (j := 2) (.slice va n vc), ?_, ?_, ⟨by rw [hmlen, hMlen], fun q i hq => ?_⟩, hr.ng, fun q hq => hr.nv q (hob' ▸ hq)⟩, fun k => Iff.rfl⟩, ?_⟩
  · rw [hmlen]
    exact owns_off hown fun q hq => st q (fun e => hr.nv q (hob' ▸ hq) (e ▸ hgp))
  · rw [hmlen]
    have h1 := hS.num
    rw [show met.length - (L - n) = n by omega, show L - n = M.length - n by omega] at h1
    exact (h1.far (st mn (fun e => hr.ng (e ▸ hgp)))).alike fun y _ => outN_end hn y
  · have hqn : q < n := by have := (List.getElem?_eq_some_iff.1 hq).1; omega
    rw [List.getElem?_take, if_pos hqn] at hq
    obtain ⟨S, h1, h2⟩ := hr.met.2 q i hq
    exact ⟨S, h1, by rw [List.getElem?_take, if_pos hqn]; exact h2⟩
  · have fr := hS.fr
    exact ⟨fr.os, fr.tape, fr.output, by simp; exact fr.size, fun k hk hf => (st k fun e => hf ((hF k).2 (Or.inl (e ▸ hgp)))).trans (fr.keep k hk fun e => hf ((hF k).2 e)), fun k hk => by
      refine (fr.foot k ?_).imp (fun e => (hF k).2 e) id
      rcases hk with e | e | e
      · exact Or.inl e
      · exact Or.inr (Or.inl e)
      · exact Or.inr (Or.inr (hob' ▸ e))⟩
set_option maxRecDepth 100000 in
set_option maxHeartbeats 8000000 in
theorem Tryd.pforget_any {T0 : Tr} {w : World} {F : Nat → Prop} {p : Nat} {vs : Value} {items : List It} {M : Mt} (h : PgO T0 w F p vs items M) (n : Nat) (hn : n ≤ M.length) :
    Calls Tryd.prog 18 #[.pointer (some ⟨p, 0, none⟩), .int .i64 (n : Int)] w fun e w' => e = .returned (.tuple #[]) ∧ ∃ F', PgO T0 w' F' p vs items (M.take n) ∧ Fr w w' F F' := by
  obtain ⟨G, mn, vm, met, hr, hF⟩ := h.ex
  have hml := hr.met.1
  obtain ⟨va, vc, vb, rfl, hpre, _, hcut, _, _⟩ := ns_cut hr.row (m := n) (by omega)
  have HH : Hid _ := h
  have HRR : Hid _ := hr
  have HF : Hid _ := hF
  have HC0 : Hid (FgS T0 w w G p mn (.slice va met.length vc) vs items met M n 0) := ⟨hr.po, by rw [Nat.sub_zero]; exact hr.num.alike fun y _ => outN_zero M n y, hr.row, Fr.ofBelow (Below.refl _ _)⟩
  have c5 := hr.c5
  have HSM : Hid (∀ f ∈ M, SmT f) := h.small h.t0.kt
  have HML : Hid (met.length = M.length) := hml
  have HN : Hid (n ≤ M.length) := hn
  have hfew : met.length ≤ 64 := by have := h.few; omega
  have hn64 : n ≤ met.length := by omega
  have HCUT : Hid _ := hcut
  clear h hr hF hml hn
  generalize hL : met.length = L at *
  have HL : Hid (met.length = L) := hL
  clear hL
  go_enter Tryd.func18, Tryd.ntmps18
  go_wp2
  go_loopw [13] (fun i wr => ∃ k : Nat, k ≤ L - n ∧ i = .int .i64 (k : Int) ∧ Hid (FgS T0 w wr G p mn (.slice va L vc) vs items met M n k)) (fun i _ => (L - n) - (intOf i).toNat)
  case atStart => exact ⟨0, Nat.zero_le _, rfl, HC0⟩
  case round =>
    obtain ⟨k, hk, rfl, HC⟩ := hrel
    clear HC0 c5
    by_cases hlt : k < L - n
    · have hkm : n + k < met.length := by have := HL.out; omega
      have hkM : n + k < M.length := by have := HML.out; omega
      obtain ⟨va', vc', vb', e', _, _, hcut', hns', _⟩ := ns_cut (show wr.ownsRow 0 3 1 (.slice va L vc) L (encM met) by have := HC.out.row; rw [HL.out] at this; exact this) (m := n) hn64
      injection e' with e1 e2 e3
      subst e1 e3
      have eb : vb = vb' := by
        have := (HCUT.out wr).symm.trans (hcut' wr)
        injection this with this
        injection this
      subst eb
      have hdl : k < (met.drop n).length := by rw [List.length_drop]; omega
      obtain ⟨g1, o1, s1, hix, hcx⟩ := hns'.at k hdl
      have hval : (met.drop n)[k] = met[n + k] := by simp
      rw [hval] at hcx
      obtain ⟨S, hrep, hMk⟩ := HRR.out.met.2 (n + k) met[n + k] (List.getElem?_eq_getElem hkm)
      have hMg : M[n + k] = S.flat := by rw [List.getElem?_eq_getElem hkM] at hMk; injection hMk
      obtain ⟨S2, k2, i2, e2⟩ := HH.out.of S.flat (List.mem_of_getElem? hMk)
      have hw : S.WF := by
        obtain ⟨S3, h3, h4⟩ := HRR.out.po.cov _ hrep.lt
        have := Rep.tree hrep h3
        subst this
        rcases inC_kind HRR.out.po.t0.kt h4 with q | q <;> exact q.wf
      have e := flat_inj hw k2.wf e2
      subst e
      have jt := Tryd.ptext_any (HC.out.po.up (Below.refl _ _).drew) met[n + k] S hrep i2
      have htx : txB S = txOf M[n + k] := by rw [hMg]; rfl
      have HSO : Hid (SOk (txB S)) := by unfold Hid SOk; rw [txB_size]; have := (inC_size HH.out.t0.sz i2).1; omega
      have HTH : Hid ((outN M n k (txB S)).isSome = true) := by rw [htx]; exact outN_there HSM.out HH.out.nd hkM
      have HNX : Hid (∀ z, (if z = txB S then none else outN M n k z) = outN M n (k + 1) z) := fun z => by rw [htx]; exact outN_next HSM.out HH.out.nd hkM z
      obtain ⟨c4, c5, z5, hgp⟩ := HC.out.c4
      have c4d : wr.drew.cell? ⟨p, 4, none⟩ = some (.map (some mn)) := c4
      have HPN : Hid (p ≠ mn) := fun e => HRR.out.ng (e ▸ hgp)
      generalize txB S = tx at *
      generalize met[n + k] = mi at *
      clear hval hMg hMk hrep k2 i2 e2 hw htx hcut' hns'
      go_wp2
      go_region_held2 (fun w' => w'.cell? ⟨p, 4, none⟩ = some (.map (some mn))) (first | exact c4d | exact c4 | assumption | fail) (first
        | (revert jt; intro jt; go_at_call 21; (with_reducible refine jt.mono ?_); rintro e w1 ⟨rfl, hq⟩; have hfr1 : Fr wr w1 G G := ((Fr.ofBelow (Below.refl _ _).drew).trans hq.2); have hnum1 := HC.out.num.far (hfr1.keep mn HC.out.num.lt HRR.out.ng); have c41 : w1.cell? ⟨p, 4, none⟩ = some (.map (some mn)) := (by obtain ⟨vi, mp, vt, hb, _⟩ := hq.1.blk; exact cell_row hb 4))
        | (revert hnum1; intro hnum1; refine Tryd.stepg_delS rfl _ _ rfl mn _ (outN M n k) tx rfl rfl hnum1 HSO.out HTH.out ?_; intro w6 hn6 hg6; have c46 : w6.cell? ⟨p, 4, none⟩ = some (.map (some mn)) := (by unfold World.cell? at c41 ⊢; rw [hg6.block p (by have := hq.1.lt p hgp; exact this) (fun e => HPN.out (by injection e))]; exact c41))
        | fail)
      all_goals
        have HC6 : Hid (FgS T0 w w6 G p mn (.slice va L vc) vs items met M n (k + 1)) := HC.out.next HRR.out.ng HRR.out.nv hq hn6 HNX.out hg6
        clear jt hnum1 hq hn6 hg6 hfr1 c4 c4d c41 c46 c5 z5 hix hcx
        go_wp2
        go_roundw
        case rel => exact ⟨k + 1, by omega, by go_num, HC6⟩
        case measure => simp [intOf] <;> omega
    · obtain rfl : k = L - n := by omega
      obtain ⟨c4, c5, z5, hgp⟩ := HC.out.c4
      have HFIN : Hid _ := forget_fin HH.out HRR.out HF.out HL.out HN.out HC.out
      clear HC
      go_wp2
      go_end0
      exact ⟨rfl, HFIN.out⟩
end Go.Proofs.YtnedkpbpeolfoaaDoor
namespace Go.Proofs.YtnedkpbpeolfoaaDoor
open Go.RowKit Go.Maps
theorem us_offE {w : World} {F : Nat → Prop} {a : Option Addr} {n c : Nat} {l : List Nat} {b : Nat} (h : US w F a n c l) {e : Int} (hb : Erc w b e) : ∀ k, k < n → (adOf a k).block ≠ b := fun k hk e => by
  have hc := h.sl.cell k hk
  unfold Erc at hb
  unfold World.cell? at hc
  rw [e, hb] at hc
  simp at hc
  match ho : (adOf a k).off, hc with
  | 0, hc => simp at hc
  | j + 1, hc => simp at hc
/-- A list of sets that another block's change leaves. -/
theorem US.grown {w w' : World} {F : Nat → Prop} {a : Option Addr} {n c : Nat} {l : List Nat} {b : Nat} (h : US w F a n c l) (hg : w.grownBy w' (some b)) (hb : ∀ k, k < n → (adOf a k).block ≠ b) : US w' F a n c l := by
  have hs := h.sl
  refine ⟨⟨hs.hlen, hs.hcap, hs.bd, hs.idx, fun k hk => ?_, fun k hk => Nat.lt_of_lt_of_le (hs.blk k hk) hg.size, hs.nn⟩, h.nf⟩
  have := hs.cell k hk
  unfold World.cell? at this ⊢
  rw [hg.block _ (hs.blk k hk) (fun e => hb k hk (by injection e))]
  exact this
/-- What is so behind a step that went well; behind one that was refused. -/
def StP (T0 : Tr) (p : Nat) (vs : Value) (w : World) (F : Nat → Prop) (b3 E : Nat) (R : Rt) (w' : World) : Prop :=
  ∃ (L : List Nat) (M' : Mt) (q : Option Addr) (d : Nat) (F' : Nat → Prop) (items' : List It), R = some (L, M') ∧ w'.heap[b3]? = some (.cells #[.slice q L.length d] 22 (0, 0)) ∧ PgO T0 w' F' p vs items' M' ∧ US w' F' q L.length d L ∧ ¬ F' E ∧ (∀ k, k < L.length → (adOf q k).block ≠ E) ∧ Fr w w' (fun k => F k ∨ k = b3 ∨ k = E) F'
def StN (T0 : Tr) (p : Nat) (vs : Value) (w : World) (F : Nat → Prop) (M : Mt) (b3 E : Nat) (R : Rt) (w' : World) : Prop :=
  R = none ∧ ∃ (M' : Mt) (F' : Nat → Prop) (items' : List It), PgO T0 w' F' p vs items' M' ∧ M <+: M' ∧ ¬ F' E ∧ Fr w w' (fun k => F k ∨ k = b3 ∨ k = E) F'
theorem StP.grown {T0 : Tr} {p : Nat} {vs : Value} {w w1 w2 : World} {F : Nat → Prop} {b3 E : Nat} {R : Rt} (h : StP T0 p vs w F b3 E R w1) (hg : w1.grownBy w2 (some E)) (hbE : b3 ≠ E) (hb3 : b3 < w1.heap.size) : StP T0 p vs w F b3 E R w2 := by
  obtain ⟨L, M', q, d, F', i', h1, h2, h3, h4, h5, h6, h7⟩ := h
  refine ⟨L, M', q, d, F', i', h1, (hg.block b3 hb3 (fun e => hbE (by injection e))).trans h2, h3.far fun k hk => hg.block k (h3.lt k hk) (fun e => h5 (by injection e with e; exact e ▸ hk)), h4.grown hg h6, h5, h6, ⟨hg.os.trans h7.os, hg.tape.trans h7.tape, hg.output.trans h7.output, Nat.le_trans h7.size hg.size, fun k hk hF => (hg.block k (Nat.lt_of_lt_of_le hk h7.size) (fun e => hF (Or.inr (Or.inr (by injection e))))).trans (h7.keep k hk hF), h7.foot⟩⟩
theorem StN.grown {T0 : Tr} {p : Nat} {vs : Value} {w w1 w2 : World} {F : Nat → Prop} {M : Mt} {b3 E : Nat} {R : Rt} (h : StN T0 p vs w F M b3 E R w1) (hg : w1.grownBy w2 (some E)) : StN T0 p vs w F M b3 E R w2 := by
  obtain ⟨h1, M', F', i', h3, hM, h5, h7⟩ := h
  exact ⟨h1, M', F', i', h3.far fun k hk => hg.block k (h3.lt k hk) (fun e => h5 (by injection e with e; exact e ▸ hk)), hM, h5, ⟨hg.os.trans h7.os, hg.tape.trans h7.tape, hg.output.trans h7.output, Nat.le_trans h7.size hg.size, fun k hk hF => (hg.block k (Nat.lt_of_lt_of_le hk h7.size) (fun e => hF (Or.inr (Or.inr (by injection e))))).trans (h7.keep k hk hF), h7.foot⟩⟩
set_option maxRecDepth 100000 in
theorem Tryd.ent_step1 : EntersF 15 := fun _ _ => rfl
/-- What caught answers of a step. -/
theorem Tryd.pcaught_step {T0 : Tr} {p : Nat} {vs : Value} {x : Nat} (hx8 : x < 256) {w : World} {F : Nat → Prop} {items : List It} {M : Mt} (h : PgO T0 w F p vs items M) (hT : Tab64 w) (hnG : ¬ F tabG) (a : Option Addr) (c : Nat) (l : List Nat) (hL : LH w F M a c l) (b0 b1 b2 b3 : Nat) (hV : StV w F p x a l.length c (.slice none 0 0) b0 b1 b2 b3) :
    Calls Tryd.prog 14 #[.func (.func 15) #[] #[.pointer (some ⟨b0, 0, none⟩), .pointer (some ⟨b2, 0, none⟩), .pointer (some ⟨b1, 0, none⟩), .pointer (some ⟨b3, 0, none⟩)]] w fun e w' =>
      (e = .returned (.int .i64 0) ∧ StP T0 p vs w F b3 w.heap.size (stepM fuelN x l [] M) w') ∨ (e = .returned (.int .i64 9) ∧ StN T0 p vs w F M b3 w.heap.size (stepM fuelN x l [] M) w') := by
  have h3l : b3 < w.heap.size := (Array.getElem?_eq_some_iff.1 hV.h3).1
  refine (Tryd.pcaught_any 15 _ w Tryd.ent_step1 (fun w' => StP T0 p vs w F b3 w.heap.size (stepM fuelN x l [] M) w' ∧ b3 < w'.heap.size) (fun w' => StN T0 p vs w F M b3 w.heap.size (stepM fuelN x l [] M) w') ?_ ?_ ?_).mono ?_
  · rintro w1 w2 b ⟨hp, hb⟩ hg rfl
    exact ⟨hp.grown hg (by omega) hb, Nat.lt_of_lt_of_le hb hg.size⟩
  · rintro w1 w2 b hp hg rfl
    exact hp.grown hg
  · intro w0 hw0
    have hb : Below w.heap.size w w0 := by rw [hw0]; exact below_new _ _
    have hE : Erc w0 w.heap.size 0 := by rw [hw0]; exact (MapKept.heap_alloc w _).1
    have hz : w0.heap.size = w.heap.size + 1 := by rw [hw0]; simp
    have hnE : ¬ F w.heap.size := fun e => Nat.lt_irrefl _ (h.lt _ e)
    refine (Tryd.pstep1_any hx8 (h.up hb) (hT.up hb) hnG a c l (hL.fr (Fr.ofBelow hb) (List.prefix_refl _)) b0 b1 b2 b3 (hV.fr (Fr.ofBelow hb))).mono ?_
    rintro e w' (⟨rfl, L, M', q, d, F', i', hs, h3, hO, hU, hn3, hp, hM, fr⟩ | ⟨rfl, hs, M', F', i', hO, hn3, hp, hM, fr, h3⟩)
    · have hE' : Erc w' w.heap.size 0 := (fr.keep _ (by omega) (fun e => by rcases e with e | e; exact hnE e; omega)).trans hE
      have hnE' : ¬ F' w.heap.size := fr.out (fun e => by rcases e with e | e; exact hnE e; omega) (by omega)
      refine Or.inl ⟨rfl, ⟨⟨L, M', q, d, F', i', hs, h3, hO, hU, hnE', us_offE hU hE', ?_⟩, (Array.getElem?_eq_some_iff.1 h3).1⟩, hE'⟩
      exact ((Fr.ofBelow hb).trans fr).alike (fun k hk => by rcases hk with e | e; exact Or.inl e; exact Or.inr (Or.inl e)) (fun k hk => hk)
    · have hE' : Erc w' w.heap.size 0 := (fr.keep _ (by omega) (fun e => by rcases e with e | e; exact hnE e; omega)).trans hE
      have hnE' : ¬ F' w.heap.size := fr.out (fun e => by rcases e with e | e; exact hnE e; omega) (by omega)
      refine Or.inr ⟨rfl, ⟨hs, M', F', i', hO, hM, hnE', ?_⟩, hE'⟩
      exact ((Fr.ofBelow hb).trans fr).alike (fun k hk => by rcases hk with e | e; exact Or.inl e; exact Or.inr (Or.inl e)) (fun k hk => hk)
  · rintro e w' (⟨h1, h2⟩ | ⟨h1, h2⟩)
    · exact Or.inl ⟨h1, h2.1⟩
    · exact Or.inr ⟨h1, h2⟩
theorem take_pre {M M' : Mt} (h : M <+: M') : M'.take M.length = M := by
  obtain ⟨r, rfl⟩ := h
  simp
/-- What Step answers of a list that it knows. -/
def StepR (T0 : Tr) (p : Nat) (vs : Value) (w : World) (F : Nat → Prop) (M : Mt) (R : Rt) (e : Ending) (w' : World) : Prop :=
  ∃ (F' : Nat → Prop) (items' : List It), Fr w w' F F' ∧ ((R = none ∧ e = .returned (.tuple #[.slice none 0 0, .int .i64 9]) ∧ PgO T0 w' F' p vs items' M) ∨
    ∃ (L : List Nat) (M' : Mt) (q : Option Addr) (d : Nat), R = some (L, M') ∧ e = .returned (.tuple #[.slice q L.length d, .int .i64 0]) ∧ US w' F' q L.length d L ∧ PgO T0 w' F' p vs items' M')
theorem fr_new {w w4 w5 : World} {F F' : Nat → Prop} {b3 E : Nat} (hb : Below w.heap.size w w4) (fr : Fr w4 w5 (fun k => F k ∨ k = b3 ∨ k = E) F') (h3 : w.heap.size ≤ b3) (hE : w.heap.size ≤ E) : Fr w w5 F F' :=
  ⟨fr.os.trans hb.os, fr.tape.trans hb.tape, fr.output.trans hb.output, Nat.le_trans hb.size fr.size, fun k hk hF => (fr.keep k (Nat.lt_of_lt_of_le hk hb.size) (fun e => by rcases e with e | e | e; exact hF e; omega; omega)).trans (hb.block k hk), fun k hk => by
    have := hb.size
    rcases fr.foot k hk with (e | e | e) | e
    · exact Or.inl e
    · right; omega
    · right; omega
    · right; omega⟩
set_option maxRecDepth 100000 in
set_option maxHeartbeats 8000000 in
theorem Tryd.pStep_any {T0 : Tr} {p : Nat} {vs : Value} {x : Nat} (hx8 : x < 256) {w : World} {F : Nat → Prop} {items : List It} {M : Mt} (h : PgO T0 w F p vs items M) (hT : Tab64 w) (hnG : ¬ F tabG) (a : Option Addr) (c : Nat) (l : List Nat) (hL : LH w F M a c l) :
    Calls Tryd.prog 5 #[.pointer (some ⟨p, 0, none⟩), .slice a l.length c, .int .u8 (x : Int)] w (StepR T0 p vs w F M (stepM fuelN x l [] M)) := by
  obtain ⟨w1, hw1⟩ : ∃ w1, w1 = w.alloc (.cells #[.pointer (some ⟨p, 0, none⟩)] 24) := ⟨_, rfl⟩
  obtain ⟨w2, hw2⟩ : ∃ w2, w2 = w1.alloc (.cells #[.slice a l.length c] 22) := ⟨_, rfl⟩
  obtain ⟨w3, hw3⟩ : ∃ w3, w3 = w2.alloc (.cells #[.int .u8 (x : Int)] 23) := ⟨_, rfl⟩
  obtain ⟨w4, hw4⟩ : ∃ w4, w4 = w3.alloc (.cells #[.slice none 0 0] 22) := ⟨_, rfl⟩
  have z1 : w1.heap.size = w.heap.size + 1 := by rw [hw1]; simp
  have z2 : w2.heap.size = w.heap.size + 1 + 1 := by rw [hw2]; simp [z1]
  have z3 : w3.heap.size = w.heap.size + 1 + 1 + 1 := by rw [hw3]; simp [z2]
  have z4 : w4.heap.size = w.heap.size + 1 + 1 + 1 + 1 := by rw [hw4]; simp [z3]
  have b1 : Below w.heap.size w w1 := by rw [hw1]; exact below_new _ _
  have b2 : Below w1.heap.size w1 w2 := by rw [hw2]; exact below_new _ _
  have b3 : Below w2.heap.size w2 w3 := by rw [hw3]; exact below_new _ _
  have b4 : Below w3.heap.size w3 w4 := by rw [hw4]; exact below_new _ _
  have hb3 : Below w.heap.size w w3 := below_step (below_step b1 b2) b3
  have hb4 : Below w.heap.size w w4 := below_step hb3 b4
  have v0 : w1.heap[w.heap.size]? = some (.cells #[.pointer (some ⟨p, 0, none⟩)] 24 (0, 0)) := by rw [hw1]; exact (MapKept.heap_alloc w _).1
  have v1 : w2.heap[w.heap.size + 1]? = some (.cells #[.slice a l.length c] 22 (0, 0)) := by rw [← z1, hw2]; exact (MapKept.heap_alloc w1 _).1
  have v2 : w3.heap[w.heap.size + 1 + 1]? = some (.cells #[.int .u8 (x : Int)] 23 (0, 0)) := by rw [← z2, hw3]; exact (MapKept.heap_alloc w2 _).1
  have v3 : w4.heap[w.heap.size + 1 + 1 + 1]? = some (.cells #[.slice none 0 0] 22 (0, 0)) := by rw [← z3, hw4]; exact (MapKept.heap_alloc w3 _).1
  have u0 : w3.heap[w.heap.size]? = some (.cells #[.pointer (some ⟨p, 0, none⟩)] 24 (0, 0)) := (b3.block _ (by omega)).trans ((b2.block _ (by omega)).trans v0)
  have u1 : w3.heap[w.heap.size + 1]? = some (.cells #[.slice a l.length c] 22 (0, 0)) := (b3.block _ (by omega)).trans v1
  have hlt := h.lt
  have hV : StV w4 F p x a l.length c (.slice none 0 0) w.heap.size (w.heap.size + 1) (w.heap.size + 1 + 1) (w.heap.size + 1 + 1 + 1) := ⟨(b4.block _ (by omega)).trans u0, (b4.block _ (by omega)).trans u1, (b4.block _ (by omega)).trans v2, v3, fun e => by have := hlt _ e; omega, fun e => by have := hlt _ e; omega, fun e => by have := hlt _ e; omega, fun e => by have := hlt _ e; omega, by omega⟩
  have jm := Tryd.pmade_yes (h.up hb3)
  have hL3 := hL.fr (Fr.ofBelow (F := F) hb3) (List.prefix_refl _)
  have jk := Tryd.pknows_any (h.up hb3) a c l hL3.us.sl (hL3.lst h.good).sm hL3.len
  have jc := Tryd.pcaught_step hx8 (h.up hb4) (hT.up hb4) hnG a c l (hL.fr (Fr.ofBelow hb4) (List.prefix_refl _)) _ _ _ _ hV
  obtain ⟨G, mn, vm, met, hr, hF⟩ := (h.up hb3).ex
  have c5 := hr.c5
  obtain ⟨ma, mc, rfl⟩ := own_slI hr.row
  rw [hr.met.1] at c5
  have q0 : w3.cell? ⟨w.heap.size, 0, none⟩ = some (.pointer (some ⟨p, 0, none⟩)) := cell_row u0 0
  have q1 : w3.cell? ⟨w.heap.size + 1, 0, none⟩ = some (.slice a l.length c) := cell_row u1 0
  have HBD : Hid (BdL l M.length) := hL.bd
  have HH : Hid _ := h
  have HV : Hid _ := hV
  have HB4 : Hid _ := hb4
  have Z4 : Hid _ := z4
  obtain ⟨R, hR⟩ : ∃ R, R = stepM fuelN x l [] M := ⟨_, rfl⟩
  rw [← hR] at jc ⊢
  obtain ⟨Q, hQ⟩ : ∃ Q : Ending → World → Prop, Q = StepR T0 p vs w F M R := ⟨_, rfl⟩
  have HQ : Hid (∀ e w', StepR T0 p vs w F M R e w' → Q e w') := fun e w' h => by rw [hQ]; exact h
  rw [← hQ]
  clear h hT hnG hL hL3 hV hlt hr hF hR hQ b1 b2 b3 b4 hb3 hb4 v0 v1 v2 v3 u0 u1
  have HW1 : Hid _ := hw1
  have HW2 : Hid _ := hw2
  have HW3 : Hid _ := hw3
  have HW4 : Hid _ := hw4
  have Z3 : Hid _ := z3
  clear hw1 hw2 hw3 hw4 z1 z2 z3 z4
  generalize l.length = n at *
  go_enter Tryd.func5, Tryd.ntmps5
  go_wp2_with fail
  rw [← HW1.out, ← HW2.out, ← HW3.out]
  refine jm.mono ?_
  rintro e w5 ⟨rfl, hw5⟩
  obtain rfl := hw5.symm
  clear jm
  go_wp2_with fail
  refine jk.mono ?_
  rintro e w5 ⟨⟨b, rfl, hbd⟩, hw5⟩
  obtain rfl := hw5.symm
  have hbt : b = true := hbd.2 HBD.out
  subst hbt
  clear jk hbd
  go_wp2_with fail
  rw [← HW4.out, Z3.out]
  refine jc.mono ?_
  clear jc
  rintro e w5 (⟨rfl, L, M', q, d, F', i', hs, h3, hO, hU, hnE, hoff, fr⟩ | ⟨rfl, hs, M', F', i', hO, hM, hnE, fr⟩)
  · have r3 : w5.cell? ⟨w.heap.size + 1 + 1 + 1, 0, none⟩ = some (.slice q L.length d) := cell_row h3 0
    have HE : Hid (Q (.returned (.tuple #[.slice q L.length d, .int .i64 0])) w5) := HQ.out _ _ ⟨F', i', fr_new HB4.out fr (by omega) (by rw [Z4.out]; omega), Or.inr ⟨L, M', q, d, hs, rfl, hU, hO⟩⟩
    clear hs h3 hO hU hnE hoff fr
    go_wp2
    exact HE.out
  · have r0 : w5.heap[w.heap.size]? = some (.cells #[.pointer (some ⟨p, 0, none⟩)] 24 (0, 0)) := (fr.keep _ (by rw [Z4.out]; omega) (fun e => by rcases e with e | e | e; exact HV.out.n0 e; omega; rw [Z4.out] at e; omega)).trans HV.out.h0
    have rc : w5.cell? ⟨w.heap.size, 0, none⟩ = some (.pointer (some ⟨p, 0, none⟩)) := cell_row r0 0
    have jf := Tryd.pforget_any hO M.length hM.length_le
    have HFR : Hid (Fr w w5 F F') := fr_new HB4.out fr (by omega) (by rw [Z4.out]; omega)
    rw [take_pre hM] at jf
    clear r0 hO hnE fr
    go_wp2_with fail
    refine jf.mono ?_
    rintro e w6 ⟨rfl, F6, hO6, fr6⟩
    have HE : Hid (Q (.returned (.tuple #[.slice none 0 0, .int .i64 9])) w6) := HQ.out _ _ ⟨F6, i', HFR.out.trans fr6, Or.inl ⟨hs, rfl, hO6⟩⟩
    clear jf hs hO6 fr6
    go_wp2
    exact HE.out
set_option maxRecDepth 100000 in
set_option maxHeartbeats 8000000 in
/-- A number of no obligation. -/
theorem Tryd.pStep_arg {T0 : Tr} {p : Nat} {vs : Value} {x : Nat} {w : World} {F : Nat → Prop} {items : List It} {M : Mt} (h : PgO T0 w F p vs items M) (a : Option Addr) (c : Nat) (l : List Nat) (hU : US w F a l.length c l) (sm : Sm l) (hl : l.length ≤ 1024) (hbd : ¬ BdL l M.length) :
    Calls Tryd.prog 5 #[.pointer (some ⟨p, 0, none⟩), .slice a l.length c, .int .u8 (x : Int)] w fun e w' => e = .returned (.tuple #[.slice none 0 0, .int .i64 2]) ∧ Below w.heap.size w w' := by
  obtain ⟨w1, hw1⟩ : ∃ w1, w1 = w.alloc (.cells #[.pointer (some ⟨p, 0, none⟩)] 24) := ⟨_, rfl⟩
  obtain ⟨w2, hw2⟩ : ∃ w2, w2 = w1.alloc (.cells #[.slice a l.length c] 22) := ⟨_, rfl⟩
  obtain ⟨w3, hw3⟩ : ∃ w3, w3 = w2.alloc (.cells #[.int .u8 (x : Int)] 23) := ⟨_, rfl⟩
  have z1 : w1.heap.size = w.heap.size + 1 := by rw [hw1]; simp
  have z2 : w2.heap.size = w.heap.size + 1 + 1 := by rw [hw2]; simp [z1]
  have b1 : Below w.heap.size w w1 := by rw [hw1]; exact below_new _ _
  have b2 : Below w1.heap.size w1 w2 := by rw [hw2]; exact below_new _ _
  have b3 : Below w2.heap.size w2 w3 := by rw [hw3]; exact below_new _ _
  have hb3 : Below w.heap.size w w3 := below_step (below_step b1 b2) b3
  have v0 : w1.heap[w.heap.size]? = some (.cells #[.pointer (some ⟨p, 0, none⟩)] 24 (0, 0)) := by rw [hw1]; exact (MapKept.heap_alloc w _).1
  have v1 : w2.heap[w.heap.size + 1]? = some (.cells #[.slice a l.length c] 22 (0, 0)) := by rw [← z1, hw2]; exact (MapKept.heap_alloc w1 _).1
  have u0 : w3.heap[w.heap.size]? = some (.cells #[.pointer (some ⟨p, 0, none⟩)] 24 (0, 0)) := (b3.block _ (by omega)).trans ((b2.block _ (by omega)).trans v0)
  have u1 : w3.heap[w.heap.size + 1]? = some (.cells #[.slice a l.length c] 22 (0, 0)) := (b3.block _ (by omega)).trans v1
  have jm := Tryd.pmade_yes (h.up hb3)
  have jk := Tryd.pknows_any (h.up hb3) a c l (hU.fr (Fr.ofBelow (F := F) hb3)).sl sm hl
  have q0 : w3.cell? ⟨w.heap.size, 0, none⟩ = some (.pointer (some ⟨p, 0, none⟩)) := cell_row u0 0
  have q1 : w3.cell? ⟨w.heap.size + 1, 0, none⟩ = some (.slice a l.length c) := cell_row u1 0
  have HBD : Hid (¬ BdL l M.length) := hbd
  have HB3 : Hid _ := hb3
  have HW1 : Hid _ := hw1
  have HW2 : Hid _ := hw2
  have HW3 : Hid _ := hw3
  clear h hU sm hl hbd b1 b2 b3 hb3 v0 v1 u0 u1 hw1 hw2 hw3 z1 z2
  generalize l.length = n at *
  go_enter Tryd.func5, Tryd.ntmps5
  go_wp2_with fail
  rw [← HW1.out, ← HW2.out, ← HW3.out]
  refine jm.mono ?_
  rintro e w5 ⟨rfl, hw5⟩
  obtain rfl := hw5.symm
  clear jm
  go_wp2_with fail
  refine jk.mono ?_
  rintro e w5 ⟨⟨b, rfl, hbd⟩, hw5⟩
  obtain rfl := hw5.symm
  have hbt : b = false := by
    cases b with
    | false => rfl
    | true => exact absurd (hbd.1 rfl) HBD.out
  subst hbt
  clear jk hbd
  go_wp2
  go_ret2
  exact ⟨rfl, HB3.out⟩
end Go.Proofs.YtnedkpbpeolfoaaDoor
namespace Go.Proofs.YtnedkpbpeolfoaaDoor
open Go.RowKit Go.Maps
/-- A row of bools. -/
def EbAt (w : World) (g : Nat) (bs : List Bool) : Prop := w.heap[g]? = some (.cells (bs.map Value.bool).toArray 4 (0, 0))
theorem EbAt.lt {w : World} {g : Nat} {bs : List Bool} (h : EbAt w g bs) : g < w.heap.size := (Array.getElem?_eq_some_iff.1 h).1
theorem EbAt.up {w w' : World} {g : Nat} {bs : List Bool} (h : EbAt w g bs) (hb : Below w.heap.size w w') : EbAt w' g bs := (hb.block g h.lt).trans h
theorem EbAt.cell {w : World} {g : Nat} {bs : List Bool} (h : EbAt w g bs) {i : Nat} {b : Bool} (hi : bs[i]? = some b) : w.cell? ⟨g, i, none⟩ = some (.bool b) := by
  unfold EbAt at h
  rw [cell_row h i]
  simp [hi]
theorem EbAt.fz {w : World} {g : Nat} {bs : List Bool} (h : EbAt w g bs) (i : Nat) : w.frozen? ⟨g, i, none⟩ = false := frozen_of_row w g i _ _ h
theorem EbAt.set {w : World} {g : Nat} {bs : List Bool} (h : EbAt w g bs) (i : Nat) (b : Bool) : EbAt (w.setCell ⟨g, i, none⟩ (.bool b)) g (bs.set i b) := by
  unfold EbAt at h ⊢
  rw [heap_setCell_same w g i _ _ _ h]
  congr 2
  simp
theorem Tryd.idxEb (g n i : Nat) (hi : i < n) (w : World) : (Instr.indexAt 63 (.slice (some ⟨g, 0, none⟩) n n) (.int .i64 (i : Int))).run Tryd.prog w = .ok (.pointer (some ⟨g, i, none⟩)) w := by
  simp [Instr.indexAt, run_underlying Tryd.underlying63, asIntOf, sizeOf_runI (show (Tryd.prog.info? 4).map (·.size) = some 1 by kernel_rfl), hi, Result.andThen, go_sem, add_plain]
/-- What an item says at the end, where those that it takes are told. -/
theorem Tryd.pendsAs_tree {T0 : Tr} (t0 : KT T0) {items : List It} {k : Nat} {S : Tr} (hk : Rep items k S) (hS : InC T0 S) (x : It) (hx : items[k]? = some x) (g n : Nat) (bs : List Bool) (w : World) (hb : EbAt w g bs) (hn : bs.length = n) (hall : ∀ j S, j < k → Rep items j S → bs[j]? = some (endB S)) :
    Calls Tryd.prog 37 #[itV x, .slice (some ⟨g, 0, none⟩) n n] w fun e w' => e = .returned (.bool (endB S)) ∧ w' = w.alloc (itO x) := by
  have hkind := inC_kind t0 hS
  have key : ∀ (m : Nat) (c : Tr), m < k → Rep items m c → (∀ w', (Instr.indexAt 63 (.slice (some ⟨g, 0, none⟩) n n) (.int .i64 (m : Int))).run Tryd.prog w' = .ok (.pointer (some ⟨g, m, none⟩)) w') ∧ ∀ o, (w.alloc o).cell? ⟨g, m, none⟩ = some (.bool (endB c)) := fun m c hm hr => by
    have hq := hall m c hm hr
    have hlt : m < n := by rw [← hn]; exact (List.getElem?_eq_some_iff.1 hq).1
    exact ⟨fun w' => Tryd.idxEb g n m hlt w', fun o => (hb.up (below_new w o)).cell hq⟩
  match S, hk, hS, hkind with
  | .leaf (op, pp), hk, hS, hkind =>
    obtain rfl : x = ⟨op, pp, -1, -1⟩ := by cases hk with | leaf h => rw [h] at hx; injection hx with hx; exact hx.symm
    have ho : op = 0 ∨ op = 1 ∨ op = 2 ∨ op = 4 ∨ op = 5 := by
      rcases hkind with q | q
      · rcases kt_leaf q with ⟨h, _⟩ | ⟨_, h⟩ <;> omega
      · exact (kp_leaf q).elim
    rcases ho with rfl | rfl | rfl | rfl | rfl
    · exact Tryd.pends_yes _ _ _ _ _ _ _ _ (by simp)
    · exact Tryd.pends_no _ _ _ _ _ _ _ _ (by simp)
    · exact Tryd.pends_no _ _ _ _ _ _ _ _ (by simp)
    · exact Tryd.pends_no _ _ _ _ _ _ _ _ (by simp)
    · exact Tryd.pends_yes _ _ _ _ _ _ _ _ (by simp)
  | .un (op, pp) c, hk, hS, hkind =>
    obtain ⟨m, rfl, hm, hr⟩ : ∃ m : Nat, x = ⟨op, pp, (m : Int), -1⟩ ∧ m < k ∧ Rep items m c := by cases hk with | un h h1 h2 => rw [h] at hx; injection hx with hx; exact ⟨_, hx.symm, h1, h2⟩
    obtain ⟨hi, hc⟩ := key m c hm hr
    have ho : op = 6 ∨ op = 7 ∨ op = 8 ∨ op = 19 ∨ op = 20 ∨ op = 23 := by
      rcases hkind with q | q
      · rcases kt_un q with ⟨_, ⟨h, _⟩ | ⟨h, _⟩⟩ <;> omega
      · rcases kp_un q with ⟨_, ⟨h, _⟩ | ⟨h, _⟩ | ⟨h, _⟩⟩ <;> omega
    rcases ho with rfl | rfl | rfl | rfl | rfl | rfl
    · exact Tryd.pends_yes _ _ _ _ _ _ _ _ (by simp)
    · exact Tryd.pends_no _ _ _ _ _ _ _ _ (by simp)
    · exact Tryd.pends_yes _ _ _ _ _ _ _ _ (by simp)
    · exact Tryd.pends_no _ _ _ _ _ _ _ _ (by simp)
    · exact Tryd.pends_test _ _ _ _ _ _ _ g _ rfl m (endB c) (hi _) (hc _)
    · exact Tryd.pends_yes _ _ _ _ _ _ _ _ (by simp)
  | .bin (op, pp) c d, hk, hS, hkind =>
    obtain ⟨m, l, rfl, hm, hl, hr, hr2⟩ : ∃ m l : Nat, x = ⟨op, pp, (m : Int), (l : Int)⟩ ∧ m < k ∧ l < k ∧ Rep items m c ∧ Rep items l d := by cases hk with | bin h h1 h2 h3 h4 => rw [h] at hx; injection hx with hx; exact ⟨_, _, hx.symm, h1, h2, h3, h4⟩
    obtain ⟨hi, hc⟩ := key m c hm hr
    obtain ⟨hi2, hc2⟩ := key l d hl hr2
    have ho : op = 11 ∨ op = 12 ∨ op = 15 ∨ op = 16 ∨ op = 17 ∨ op = 18 ∨ op = 21 ∨ op = 22 := by
      rcases hkind with q | q
      · have := (kt_bin q).2; omega
      · have := (kp_bin q).2.1; omega
    rcases ho with rfl | rfl | rfl | rfl | rfl | rfl | rfl | rfl
    · exact Tryd.pends_and _ _ _ _ _ _ _ g _ (by simp) m l (endB c) (endB d) (hi _) (hc _) (hi2 _) (hc2 _)
    · exact Tryd.pends_or _ _ _ _ _ _ _ g _ (by simp) m l (endB c) (endB d) (hi _) (hc _) (hi2 _) (hc2 _)
    · exact Tryd.pends_no _ _ _ _ _ _ _ _ (by simp)
    · exact Tryd.pends_yes _ _ _ _ _ _ _ _ (by simp)
    · exact Tryd.pends_and _ _ _ _ _ _ _ g _ (by simp) m l (endB c) (endB d) (hi _) (hc _) (hi2 _) (hc2 _)
    · exact Tryd.pends_box _ _ _ _ _ _ _ g _ rfl m l (endB c) (endB d) (hi _) (hc _) (hi2 _) (hc2 _)
    · exact Tryd.pends_or _ _ _ _ _ _ _ g _ (by simp) m l (endB c) (endB d) (hi _) (hc _) (hi2 _) (hc2 _)
    · exact Tryd.pends_and _ _ _ _ _ _ _ g _ (by simp) m l (endB c) (endB d) (hi _) (hc _) (hi2 _) (hc2 _)
theorem Tryd.infoEb : (Tryd.prog.info? 4).map (fun i => (i.zero, i.size, i.bytes)) = some (some (.bool false), 1, 1) := by kernel_rfl
theorem madeEb (n : Nat) : madeCells #[.bool false] n = Array.replicate n (.bool false) := by
  unfold madeCells
  apply Array.ext
  · simp
  · intro i h1 h2
    simp [Nat.mod_one]
theorem Tryd.makeEb (l : Nat) (hb : l ≤ 100000000) (w : World) :
    (Instr.makeSlice 63 (.int .i64 (l : Int)) (.int .i64 (l : Int))).run Tryd.prog w = .ok (.slice (some ⟨w.heap.size, 0, none⟩) l l) (w.alloc (.cells (Array.replicate l (Value.bool false)) 4)) := by
  obtain ⟨i, hi, hz0, hz1, hz2⟩ := info_parts Tryd.infoEb
  have := run_make (P := Tryd.prog) w 63 4 i (.bool false) Tryd.underlying63 hi hz0 .i64 .i64 (l : Int) (l : Int) (by omega) (by omega) (by rw [hz2]; omega) (by omega)
  rw [this, hz1]
  simp only [Int.toNat_natCast, Nat.mul_one]
  have e : (Value.bool false).cells = #[.bool false] := rfl
  rw [e, madeEb]
theorem EbAt.made (w : World) (l : Nat) : EbAt (w.alloc (.cells (Array.replicate l (Value.bool false)) 4)) w.heap.size (List.replicate l false) := by
  unfold EbAt
  rw [(MapKept.heap_alloc w _).1]
  simp
/-- What ends answers. -/
structure EndL (items : List It) (bs : List Bool) : Prop where
  len : bs.length = items.length
  all : ∀ j S, Rep items j S → bs[j]? = some (endB S)
set_option maxRecDepth 100000 in
set_option maxHeartbeats 8000000 in
theorem Tryd.pends_any {T0 : Tr} {w : World} {G : Nat → Prop} {b : Nat} {T : TypeId} {rest : List Value} {items : List It} (h : PtO T0 w G b T rest items) :
    Calls Tryd.prog 22 #[.pointer (some ⟨b, 0, none⟩)] w fun e w' => e = .returned (.slice (some ⟨w.heap.size, 0, none⟩) items.length items.length) ∧ (∃ bs, EndL items bs ∧ EbAt w' w.heap.size bs) ∧ Below w.heap.size w w' := by
  have hfew := h.few
  obtain ⟨texts, hp, _⟩ := h.ex
  obtain ⟨vi, mp, vt, hr, _⟩ := hp.ex
  obtain ⟨ai, ci, rfl⟩ := own_slI hr.ri
  have c0 := hr.c0
  have c0b : (w.alloc (.cells (Array.replicate items.length (Value.bool false)) 4)).cell? ⟨b, 0, none⟩ = some (.slice ai items.length ci) := (hr.up (below_new w _)).c0
  have hmk := Tryd.makeEb items.length (by omega) w
  have HH : Hid _ := h
  have HE0 : Hid _ := EbAt.made w items.length
  have HB0 : Hid _ := below_new w (.cells (Array.replicate items.length (Value.bool false)) 4)
  have HC : Hid (w.cell? ⟨b, 0, none⟩ = some (.slice ai items.length ci)) := c0
  clear h hp hr
  generalize hL : items.length = L at *
  have HL : Hid (items.length = L) := hL
  clear hL
  go_enter Tryd.func22, Tryd.ntmps22
  go_wp2
  go_loopw [17] (fun i wr => ∃ (k : Nat) (bs : List Bool), k ≤ L ∧ i = .int .i64 (k : Int) ∧ Hid (EbAt wr w.heap.size bs) ∧ Hid (bs.length = L) ∧ Hid (∀ j S, j < k → Rep items j S → bs[j]? = some (endB S)) ∧ Hid (Below w.heap.size w wr)) (fun i _ => L - (intOf i).toNat)
  case atStart => exact ⟨0, List.replicate L false, Nat.zero_le _, rfl, HE0, by simp [Hid], fun j S hj => absurd hj (by omega), HB0⟩
  case round =>
    clear HE0 HB0 c0 c0b hmk
    obtain ⟨k, bs, hk, rfl, HE, HLN, HALL, HB⟩ := hrel
    by_cases hlt : k < L
    · have hki : k < items.length := by have := HL.out; omega
      obtain ⟨S, hrep, hS⟩ := HH.out.cov k hki
      obtain ⟨a, n, cap, g, o, d0, hidx, x0, x1, x2, x3⟩ := (HH.out.up HB.out).at (List.getElem?_eq_getElem hki)
      have ea : Value.slice a n cap = .slice ai L ci := by
        have e1 := kept_cell HC.out HB.out
        rw [d0] at e1
        injection e1
      injection ea with e1 e2 e3
      subst e1 e2 e3
      have hb1 := below_new wr (itO items[k])
      have je := Tryd.pendsAs_tree HH.out.t0.kt hrep hS items[k] (List.getElem?_eq_getElem hki) w.heap.size n bs (wr.alloc (itO items[k])) (HE.out.up hb1) HLN.out HALL.out
      have hz : (wr.alloc (itO items[k])).heap.size = wr.heap.size + 1 := by simp
      have hbx := (MapKept.heap_alloc wr (itO items[k])).1
      have y0 : (wr.alloc (itO items[k])).cell? ⟨wr.heap.size, 0, none⟩ = some (.int .u8 (items[k].op : Int)) := cell_row hbx 0
      have y1 : (wr.alloc (itO items[k])).cell? ⟨wr.heap.size, 1, none⟩ = some (.int .u8 (items[k].p : Int)) := cell_row hbx 1
      have y2 : (wr.alloc (itO items[k])).cell? ⟨wr.heap.size, 2, none⟩ = some (.int .i64 items[k].a) := cell_row hbx 2
      have y3 : (wr.alloc (itO items[k])).cell? ⟨wr.heap.size, 3, none⟩ = some (.int .i64 items[k].b) := cell_row hbx 3
      have hb2 : Below wr.heap.size wr ((wr.alloc (itO items[k])).alloc (itO items[k])) := below_step hb1 (below_new _ _)
      have HE2 : Hid (EbAt ((wr.alloc (itO items[k])).alloc (itO items[k])) w.heap.size bs) := EbAt.up HE.out hb2
      have HB2 : Hid _ := below_step HB.out hb2
      have hix := fun w' => Tryd.idxEb w.heap.size n k hlt w'
      have hbk : bs[k]? = some (bs[k]'(by rw [HLN.out]; exact hlt)) := List.getElem?_eq_getElem _
      have cB := HE2.out.cell hbk
      have zB := HE2.out.fz k
      have HNX : Hid (∀ j S', j < k + 1 → Rep items j S' → (bs.set k (endB S))[j]? = some (endB S')) := fun j S' hj hr => by
        by_cases e : j = k
        · subst e
          have := Rep.tree hrep hr
          subst this
          rw [List.getElem?_set_self (by rw [HLN.out]; exact hlt)]
        · rw [List.getElem?_set_ne (fun h => e h.symm)]
          exact HALL.out j S' (by omega) hr
      have HES : Hid (EbAt (((wr.alloc (itO items[k])).alloc (itO items[k])).setCell ⟨w.heap.size, k, none⟩ (.bool (endB S))) w.heap.size (bs.set k (endB S))) := HE2.out.set k _
      have HBS : Hid (Below w.heap.size w (((wr.alloc (itO items[k])).alloc (itO items[k])).setCell ⟨w.heap.size, k, none⟩ (.bool (endB S)))) := ⟨HB2.out.os, HB2.out.tape, HB2.out.output, by simp; have := HB2.out.size; simp at this; omega, fun j hj => (Below.heap_setCell _ _ _ _ (by dsimp only; omega)).trans (HB2.out.block j hj)⟩
      generalize items[k] = xx at *
      obtain ⟨op, pp, xa, xb⟩ := xx
      generalize endB S = bv at *
      unfold itO itV at *
      dsimp only at *
      clear hbx hb1 hb2 hrep hS HB HE HALL HE2 HB2 hbk
      go_wp2_with fail
      refine je.mono ?_
      rintro e w5 ⟨rfl, rfl⟩
      clear je y0 y1 y2 y3 x0 x1 x2 x3 d0 hidx
      have HLN2 : Hid ((bs.set k bv).length = n) := by show _ = _; rw [List.length_set]; exact HLN.out
      go_wp2
      go_roundw
      case rel => exact ⟨k + 1, bs.set k bv, by omega, by go_num, HES, HLN2, HNX, HBS⟩
      case measure => simp [intOf] <;> omega
    · obtain rfl : k = L := by omega
      have HEND : Hid (∃ bs, EndL items bs ∧ EbAt wr w.heap.size bs) := ⟨bs, ⟨by rw [HLN.out, HL.out], fun j S hr => HALL.out j S (by have := hr.lt; have := HL.out; omega) hr⟩, HE.out⟩
      clear HE HALL
      go_wp2
      go_ret
      exact ⟨rfl, HEND.out, HB.out⟩
end Go.Proofs.YtnedkpbpeolfoaaDoor
namespace Go.Proofs.YtnedkpbpeolfoaaDoor
open Go.RowKit Go.Maps
def TabT (w : World) (F : Nat → Prop) (t : Nat) (items : List It) : Prop := TabI w F t items ∧ TabIs items
theorem flat_pos : ∀ T : Tr, 0 < T.flat.length
  | .leaf _ => by simp [Tr.flat]
  | .un _ _ => by simp [Tr.flat]
  | .bin _ _ _ => by simp [Tr.flat]; omega
/-- Tokens that were checked. -/
structure Chkd (ts : List Tk) : Prop where
  pos : 0 < ts.length
  few : fewL false ts = true
  good : ∃ T, GGood ts T
theorem chkd {ts : List Tk} (h : chkE ts = 0) : Chkd ts := by
  obtain ⟨hl, hk⟩ := chk_zero.1 h
  have hf := ((isKer_iff ts).1 hk).1
  obtain ⟨T, hW, _, _, rfl⟩ := hk
  exact ⟨flat_pos T, hf, T, ggood hW hl⟩
/-- A table in a variable of the call's own. -/
theorem tabB_new {w w' : World} {F : Nat → Prop} {t : Nat} {items : List It} (h : TabI w F t items) (hb : Below (w.alloc (.cells #[tbV t] 95)).heap.size (w.alloc (.cells #[tbV t] 95)) w') : TabB t w.heap.size w' (fun k => F k ∨ k = w.heap.size) items := by
  have hb1 := below_new w (.cells #[tbV t] 95)
  refine ⟨F, h.up (below_step hb1 hb), (hb.block _ (by simp)).trans (MapKept.heap_alloc w _).1, fun hf => ?_, fun k => Iff.rfl⟩
  have := h.lt _ hf
  omega
/-- What is known of it behind a call that has changed it. -/
theorem tabB_fin {w w1 w2 : World} {F G' : Nat → Prop} {t : Nat} {items : List It} (hb : Below w.heap.size w w1) (hB : TabB t w.heap.size w2 G' items) (fr : Fr w1 w2 (fun k => F k ∨ k = w.heap.size) G') : ∃ F', TabI w2 F' t items ∧ Fr w w2 F F' := by
  obtain ⟨F', h1, _, _, h4⟩ := hB
  refine ⟨F', h1, fr.os.trans hb.os, fr.tape.trans hb.tape, fr.output.trans hb.output, Nat.le_trans hb.size fr.size, fun k hk hf => (fr.keep k (Nat.lt_of_lt_of_le hk hb.size) (fun h => ?_)).trans (hb.block k hk), fun k hk => ?_⟩
  · rcases h with h | h
    · exact hf h
    · omega
  · rcases fr.foot k ((h4 k).2 (Or.inl hk)) with (h | h) | h
    · exact Or.inl h
    · exact Or.inr (by omega)
    · exact Or.inr (Nat.le_trans hb.size h)
set_option maxRecDepth 100000 in
theorem Tryd.ent_keep1 : EntersT 70 := fun _ _ => rfl
theorem keep_yes {items items' : List It} {ts : List Tk} {st : List Nat} {j : Nat} (hl : items.length ≤ 4096) (hc : chkE ts = 0) (h : nS kpF ts (items, []) = some (items', st ++ [j])) : keepE items ts = 0 ∧ keepI items ts = items' ∧ keepN items ts = j := by
  rw [nS_keep ts (items, []) hl] at h
  by_cases c : (tkS ts (items, [])).1.length ≤ 4096
  · rw [if_pos c] at h
    injection h with h
    have e1 : kI items ts = items' := by unfold kI; rw [h]
    have e2 : kN items ts = j := by unfold kN; rw [h]; simp
    have e0 : keepE items ts = 0 := by
      unfold keepE
      rw [if_neg (by omega), if_neg (by unfold kI; omega)]
    exact ⟨e0, by unfold keepI; rw [if_pos e0, e1], by unfold keepN; rw [if_pos e0, e2]⟩
  · rw [if_neg c] at h; cases h
theorem keep_no {items : List It} {ts : List Tk} (hl : items.length ≤ 4096) (hc : chkE ts = 0) (h : nS kpF ts (items, []) = none) : keepE items ts = 3 ∧ keepI items ts = items ∧ keepN items ts = 0 := by
  rw [nS_keep ts (items, []) hl] at h
  by_cases c : (tkS ts (items, [])).1.length ≤ 4096
  · rw [if_pos c] at h; cases h
  · have e0 : keepE items ts = 3 := by
      unfold keepE
      rw [if_neg (by omega), if_pos (by unfold kI; omega)]
    exact ⟨e0, by unfold keepI; rw [if_neg (by omega)], by unfold keepN; rw [if_neg (by omega)]⟩
theorem keep_off {items : List It} {ts : List Tk} (hc : chkE ts ≠ 0) : keepE items ts = chkE ts ∧ keepI items ts = items ∧ keepN items ts = 0 := by
  have e0 : keepE items ts = chkE ts := by unfold keepE; rw [if_pos hc]
  exact ⟨e0, by unfold keepI; rw [if_neg (by omega)], by unfold keepN; rw [if_neg (by omega)]⟩
theorem Fr.self {w w' : World} {F : Nat → Prop} {t : Nat} {items : List It} (h : TabT w F t items) (hb : Below w.heap.size w w') : ∃ F', TabT w' F' t items ∧ Fr w w' F F' := ⟨F, ⟨h.1.up hb, h.2⟩, Fr.same hb⟩
set_option maxRecDepth 100000 in
set_option maxHeartbeats 4000000 in
theorem Tryd.tkeep_any {w : World} {F : Nat → Prop} {t : Nat} {items : List It} (a : Option Addr) (len cap : Nat) (ts : List Tk) (h : TabT w F t items) (hT : TkSl w a len cap ts) (hA : 0 < len → ∀ x, a = some x → ¬ F x.block) :
    Calls Tryd.prog 54 #[.pointer (some ⟨t, 0, none⟩), .slice a len cap] w fun e w' => e = .returned (.tuple #[.int .i64 (keepN items ts : Int), .int .i64 (keepE items ts : Int)]) ∧ ∃ F', TabT w' F' t (keepI items ts) ∧ Fr w w' F F' := by
  have hb1 := below_new w (.cells #[tbV t] 95)
  obtain ⟨aa, ca, mb, hr, _⟩ := (h.1.up hb1).read
  have hm := Tryd.made_tab hr
  have HI : Hid _ := h
  have hck := Tryd.kcheck_any a len cap ts (w.alloc (.cells #[tbV t] 95)) (hT.up hb1)
  have cb : ∀ w', Below (w.alloc (.cells #[tbV t] 95)).heap.size (w.alloc (.cells #[tbV t] 95)) w' → w'.cell? ⟨w.heap.size, 0, none⟩ = some (.pointer (some ⟨t, 0, none⟩)) := fun w' hb => kept_cell (cell_row (MapKept.heap_alloc w _).1 0) hb
  have cb0 := cb _ (Below.refl _ _)
  by_cases hc : chkE ts = 0
  · have HC : Hid _ := hc
    have hck' := chkd hc
    have HCK : Hid _ := hck'
    rw [hc] at hck
    have HT : Hid _ := hT
    have HA : Hid _ := hA
    have HCB : Hid _ := cb
    clear hT hA h hr cb hc hck' hb1
    unfold tbV at hm hck cb0 HCB
    go_enter Tryd.func54, Tryd.ntmps54
    go_wp2_with fail
    refine hm.mono ?_
    rintro e w1 ⟨rfl, hw1⟩
    obtain rfl := hw1.symm
    go_wp2_with fail
    refine hck.mono ?_
    rintro e w2 ⟨rfl, hb2⟩
    have HB2 : Hid (Below w.heap.size w w2) := below_step (below_new w _) hb2
    have cb2 := HCB.out w2 hb2
    obtain ⟨a2, k2, m2, hr2, _⟩ := (HI.out.1.up HB2.out).read
    have c1 := hr2.c1
    obtain ⟨T, hgood⟩ := HCK.out.good
    have hnum := Tryd.tnumber_any (TabB t w.heap.size) kpF 70 w.heap.size Tryd.ent_keep1 (Tryd.tkeep1_any t w.heap.size) kpF_ok TabB.lt TabB.far w2 (fun k => F k ∨ k = w.heap.size) items a len cap ts T (tabB_new HI.out.1 hb2) (HT.out.up HB2.out) (fun hp x hx hg => by
      rcases hg with hg | hg
      · exact HA.out hp x hx hg
      · subst hx; have := HT.out.lt hp; omega) (by have := HCK.out.pos; have := HT.out.hlen; omega) hgood HCK.out.few
    clear hm hck hr2 hb2 cb0 HCB hgood
    go_wp2_with fail
    refine hnum.mono ?_
    rintro e w3 ⟨G3, items3, hB3, fr3, ⟨l3, hl3⟩, ⟨q3, st3, hq3⟩, (⟨j, st, hns, rfl⟩ | ⟨hns, rfl⟩)⟩
    · obtain ⟨k1, k2, k3⟩ := keep_yes HI.out.1.few HC.out hns
      have HK : Hid _ := And.intro k1 (And.intro k2 k3)
      obtain ⟨F3, hI3, hf3⟩ := tabB_fin HB2.out hB3 fr3
      have HF : Hid _ := And.intro hI3 hf3
      have HIS : Hid (TabIs (keepI items ts)) := (kept HI.out.2 k1).is
      clear hnum hB3 fr3 hl3 hq3 hns k1 k2 k3 hI3 hf3 c1 cb2
      go_wp2
      go_ret2
      rw [HK.out.1, HK.out.2.2]
      exact ⟨rfl, F3, ⟨by rw [HK.out.2.1]; exact HF.out.1, HIS.out⟩, HF.out.2⟩
    · have HK : Hid _ := keep_no HI.out.1.few HC.out hns
      obtain ⟨F3, hI3, hf3⟩ := tabB_fin HB2.out hB3 fr3
      have HF : Hid _ := hf3
      have cb3 : w3.cell? ⟨w.heap.size, 0, none⟩ = some (.pointer (some ⟨t, 0, none⟩)) := by
        obtain ⟨F', _, h2, _⟩ := hB3
        exact cell_row h2 0
      have hcut := Tryd.tcut_any hI3 items.length (by rw [hl3]; simp)
      rw [show items3.take items.length = items by rw [hl3]; simp] at hcut
      clear hnum hB3 fr3 hl3 hq3 hns hI3 hf3 c1 cb2
      go_wp2_with fail
      refine hcut.mono ?_
      rintro e w4 ⟨rfl, hI4, fr4⟩
      have HI4 : Hid _ := And.intro hI4 fr4
      clear hcut hI4 fr4
      go_wp2
      go_ret2
      rw [HK.out.1, HK.out.2.2, HK.out.2.1]
      exact ⟨rfl, F3, ⟨HI4.out.1, HI.out.2⟩, HF.out.trans' HI4.out.2⟩
  · have HK : Hid _ := keep_off (items := items) hc
    have hc' : ¬ (chkE ts : Int) = 0 := by omega
    have hc2 : ((chkE ts : Int) == 0) = false := by rw [beq_eq_false_iff_ne]; exact hc'
    clear hT hA h hr cb hb1 hc
    unfold tbV at hm hck cb0
    generalize chkE ts = E at *
    go_enter Tryd.func54, Tryd.ntmps54
    go_wp2_with fail
    refine hm.mono ?_
    rintro e w1 ⟨rfl, hw1⟩
    obtain rfl := hw1.symm
    go_wp2_with fail
    refine hck.mono ?_
    rintro e w2 ⟨rfl, hb2⟩
    have HB2 : Hid (Below w.heap.size w w2) := below_step (below_new w _) hb2
    clear hm hck hb2 cb0
    go_wp2
    go_ret2
    rw [HK.out.1, HK.out.2.2, HK.out.2.1]
    exact ⟨rfl, Fr.self HI.out HB2.out⟩
end Go.Proofs.YtnedkpbpeolfoaaDoor
namespace Go.Proofs.YtnedkpbpeolfoaaDoor
/-- Each new item is some part's. -/
theorem insT_sub : ∀ (T : Tr) (items : List It), items.Nodup → Low items → ∀ n, n < (insT items T).1.length → n < items.length ∨ ∃ S, Rep (insT items T).1 n S ∧ S ∈ subL T
  | .leaf k, items, hn, hl, n, hlt => by
    have ok := insT_ok (.leaf k) items hn hl
    by_cases h : n < items.length
    · exact Or.inl h
    · obtain ⟨l, e, hl1⟩ := addI_pre items (itemOf k [])
      have e2 : (insT items (.leaf k)).1 = items ++ l := e
      rcases addI_cases items (itemOf k []) with ⟨j, e3, _⟩ | ⟨e3, _⟩
      · exfalso
        have : (insT items (.leaf k)).1 = items := congrArg Prod.fst e3
        rw [this] at hlt; exact h hlt
      · have e4 : (insT items (.leaf k)) = (items ++ [itemOf k []], items.length) := e3
        rw [e4] at hlt ok ⊢
        simp at hlt
        obtain rfl : n = items.length := by omega
        exact Or.inr ⟨_, ok.rep, sub_self _⟩
  | .un k c, items, hn, hl, n, hlt => by
    have ok := insT_ok (.un k c) items hn hl
    have ih := insT_ok c items hn hl
    have key : (insT items (.un k c)) = addI (insT items c).1 (itemOf k [(insT items c).2]) := rfl
    by_cases h : n < (insT items c).1.length
    · refine (insT_sub c items hn hl n h).imp id ?_
      rintro ⟨S, h1, h2⟩
      refine ⟨S, ?_, by simp [subL, h2]⟩
      obtain ⟨l, e, _⟩ := addI_pre (insT items c).1 (itemOf k [(insT items c).2])
      rw [key, e]
      exact h1.more l
    · rcases addI_cases (insT items c).1 (itemOf k [(insT items c).2]) with ⟨j, e3, _⟩ | ⟨e3, _⟩
      · exfalso
        rw [key, e3] at hlt; exact h hlt
      · rw [key, e3] at hlt ok ⊢
        simp at hlt
        obtain rfl : n = (insT items c).1.length := by omega
        exact Or.inr ⟨_, ok.rep, sub_self _⟩
  | .bin k c d, items, hn, hl, n, hlt => by
    have ok := insT_ok (.bin k c d) items hn hl
    have ih := insT_ok c items hn hl
    have jh := insT_ok d _ ih.nodup ih.low
    have key : (insT items (.bin k c d)) = addI (insT (insT items c).1 d).1 (itemOf k [(insT items c).2, (insT (insT items c).1 d).2]) := rfl
    obtain ⟨l, e, _⟩ := addI_pre (insT (insT items c).1 d).1 (itemOf k [(insT items c).2, (insT (insT items c).1 d).2])
    by_cases h : n < (insT (insT items c).1 d).1.length
    · rcases insT_sub d _ ih.nodup ih.low n h with h1 | ⟨S, h1, h2⟩
      · refine (insT_sub c items hn hl n h1).imp id ?_
        rintro ⟨S, h3, h4⟩
        refine ⟨S, ?_, by simp [subL, h4]⟩
        obtain ⟨l2, e2, _⟩ := jh.pre
        rw [key, e, e2, List.append_assoc]
        exact h3.more _
      · refine Or.inr ⟨S, ?_, by simp [subL, h2]⟩
        rw [key, e]
        exact h1.more l
    · rcases addI_cases (insT (insT items c).1 d).1 (itemOf k [(insT items c).2, (insT (insT items c).1 d).2]) with ⟨j, e3, _⟩ | ⟨e3, _⟩
      · exfalso
        rw [key, e3] at hlt; exact h hlt
      · rw [key, e3] at hlt ok ⊢
        simp at hlt
        obtain rfl : n = (insT (insT items c).1 d).1.length := by omega
        exact Or.inr ⟨_, ok.rep, sub_self _⟩
/-- What a new table keeps of a kernel formula. -/
structure PtK (T : Tr) (items : List It) (n : Nat) : Prop where
  nd : items.Nodup
  low : Low items
  few : items.length ≤ 2048
  cov : ∀ n, n < items.length → ∃ S, Rep items n S ∧ InC T S
  rep : Rep items n T
theorem size_flat : ∀ T : Tr, T.size = T.flat.length
  | .leaf k => rfl
  | .un k c => by simp [Tr.size, Tr.flat, size_flat c]
  | .bin k c d => by simp [Tr.size, Tr.flat, size_flat c, size_flat d]; omega
theorem kept_all {ts : List Tk} (hc : chkE ts = 0) : ∃ T, KT T ∧ T.size ≤ 2048 ∧ ts = T.flat ∧ keepE [] ts = 0 ∧ PtK T (keepI [] ts) (keepN [] ts) := by
  obtain ⟨hts, T, hW, hp, hk, rfl⟩ := chk_zero.1 hc
  have hsz : T.size ≤ 2048 := by rw [size_flat]; exact hts
  have hl0 : Low [] := fun n x h => (by simp at h)
  obtain ⟨e1, e2⟩ := kI_tree hW []
  have ok := insT_ok T [] (by simp) hl0
  obtain ⟨l, el, hll⟩ := ok.pre
  have hlen : (insT [] T).1.length ≤ 2048 := by rw [el]; simp; omega
  have hE : keepE [] T.flat = 0 := by unfold keepE; rw [if_neg (by omega), e1, if_neg (by omega)]
  have hI : keepI [] T.flat = (insT [] T).1 := by unfold keepI; rw [if_pos hE, e1]
  have hN : keepN [] T.flat = (insT [] T).2 := by unfold keepN; rw [if_pos hE, e2]
  refine ⟨T, ⟨hW, hp, hk⟩, hsz, rfl, hE, ?_⟩
  rw [hI, hN]
  refine ⟨ok.nodup, ok.low, hlen, fun n hn => ?_, ok.rep⟩
  rcases insT_sub T [] (by simp) hl0 n hn with h | ⟨S, h1, h2⟩
  · simp at h
  · exact ⟨S, h1, inC_sub h2⟩
end Go.Proofs.YtnedkpbpeolfoaaDoor
namespace Go.Proofs.YtnedkpbpeolfoaaDoor
open Go.RowKit Go.Maps
/-- No text was asked for yet. -/
def noTx (n : Nat) : List ByteArray := List.replicate n ⟨#[]⟩
theorem noTx_snoc (n : Nat) : noTx n ++ [⟨#[]⟩] = noTx (n + 1) := by
  unfold noTx
  rw [List.replicate_succ']
/-- The parts of a formula, in a variable of their own. -/
structure PtN (w : World) (B b : Nat) (vi : Value) (mp : Nat) (vt : Value) (T : Tr) (items : List It) (n : Nat) : Prop where
  k : PtK T items n
  ok : ∀ x ∈ items, ItOk x
  r : PtR w b 29 [] vi mp vt items (noTx items.length) items.length (posI items)
  ge : ∀ k, FP b mp vi vt k → B ≤ k
theorem pts_new {w3 : World} {b : Nat} (hb : w3.heap[b]? = some (.cells #[.slice none 0 0, .map none, .slice none 0 0] 29 (0, 0))) :
    Pts ((w3.setCell ⟨b, 1, none⟩ (.map (some w3.heap.size))).alloc (.map #[] 0)) (fun k => k = b ∨ k = w3.heap.size) b 29 [] [] [] := by
  have hl : b < w3.heap.size := (Array.getElem?_eq_some_iff.1 hb).1
  have h1 := heap_setCell_same _ b 1 _ _ (.map (some w3.heap.size)) hb
  have hz : (w3.setCell ⟨b, 1, none⟩ (.map (some w3.heap.size))).heap.size = w3.heap.size := by simp
  have hn := num_made (w3.setCell ⟨b, 1, none⟩ (.map (some w3.heap.size)))
  rw [hz] at hn
  refine ⟨by simp, rfl, by simp, fun x hx => (by cases hx), fun x hx => (by cases hx), .slice none 0 0, w3.heap.size, .slice none 0 0, ⟨Or.inl rfl, ?_, ⟨rfl, Or.inl ⟨rfl, rfl⟩⟩, ⟨rfl, Or.inl ⟨rfl, rfl⟩⟩, hn.alike fun x _ => rfl⟩, fun k => ?_⟩
  · rw [(below_new _ _).block b (by rw [hz]; exact hl), h1]; rfl
  · constructor
    · rintro (h | h)
      · exact Or.inl h
      · exact Or.inr (Or.inl h)
    · rintro (h | h | h | h)
      · exact Or.inl h
      · exact Or.inr h
      · cases h
      · cases h
/-- The same values are stored again. -/
theorem PtR.again {w : World} {b mp n : Nat} {T : TypeId} {vi vt : Value} {items : List It} {texts : List ByteArray} {f : It → Option Nat} (h : PtR w b T [] vi mp vt items texts n f) :
    PtR (((w.setCell ⟨b, 0, none⟩ vi).setCell ⟨b, 1, none⟩ (.map (some mp))).setCell ⟨b, 2, none⟩ vt) b T [] vi mp vt items texts n f ∧ ∀ k : Nat, (((w.setCell ⟨b, 0, none⟩ vi).setCell ⟨b, 1, none⟩ (.map (some mp))).setCell ⟨b, 2, none⟩ vt).heap[k]? = w.heap[k]? := by
  have k1 := heap_setCell_same w b 0 _ _ vi h.blk
  have k2 := heap_setCell_same _ b 1 _ _ (.map (some mp)) k1
  have k3 := heap_setCell_same _ b 2 _ _ vt k2
  have all : ∀ k : Nat, (((w.setCell ⟨b, 0, none⟩ vi).setCell ⟨b, 1, none⟩ (.map (some mp))).setCell ⟨b, 2, none⟩ vt).heap[k]? = w.heap[k]? := fun k => by
    by_cases e : k = b
    · subst e; rw [k3, h.blk]; rfl
    · exact (Below.heap_setCell _ _ _ _ e).trans ((Below.heap_setCell _ _ _ _ e).trans (Below.heap_setCell _ _ _ _ e))
  exact ⟨h.far fun k _ => all k, all⟩
theorem bel_set {B : Nat} {w w' : World} (h : Below B w w') (a : Addr) (v : Value) (ha : B ≤ a.block) : Below B w (w'.setCell a v) :=
  ⟨h.os, h.tape, h.output, by simp; exact h.size, fun k hk => (Below.heap_setCell _ _ _ _ (by omega)).trans (h.block k hk)⟩
/-- Parts that grow, item by item. -/
structure PtG (w wr : World) (b t : Nat) (F : Nat → Prop) (items : List It) (k : Nat) : Prop where
  p : ∃ G, Pts wr G b 29 [] (items.take k) (noTx k) ∧ (∀ j, G j → w.heap.size ≤ j) ∧ ∀ j, F j → ¬ G j
  t : TabI wr F t items
  b : Below w.heap.size w wr
theorem take_new {items : List It} (hn : items.Nodup) {k : Nat} (hk : k < items.length) : items[k] ∉ items.take k := fun h => by
  obtain ⟨j, hj, e⟩ := List.getElem_of_mem h
  rw [List.getElem_take] at e
  have := (List.getElem_inj hn).1 e
  simp at hj
  omega
theorem PtG.up {w wr w' : World} {b t : Nat} {F : Nat → Prop} {items : List It} {k : Nat} (h : PtG w wr b t F items k) (hb : Below wr.heap.size wr w') : PtG w w' b t F items k := by
  obtain ⟨G, hp, h1, h2⟩ := h.p
  exact ⟨⟨G, hp.up hb, h1, h2⟩, h.t.up hb, below_step h.b hb⟩
theorem Tryd.pkeep_next {w wr : World} {b t : Nat} {F : Nat → Prop} {items : List It} {k : Nat} (h : PtG w wr b t F items k) (hk : k < items.length) : Calls Tryd.prog 57 #[.pointer (some ⟨b, 0, none⟩), itV items[k]] wr fun e w' => (∃ j, e = .returned (.int .i64 j)) ∧ PtG w w' b t F items (k + 1) := by
  obtain ⟨G, hp, h1, h2⟩ := h.p
  have hnd := h.t.nd
  have hfew := h.t.few
  refine (Tryd.pkeep_new hp items[k] (h.t.ok _ (List.getElem_mem hk)) (take_new hnd hk) (by simp; omega)).mono ?_
  rintro e w' ⟨rfl, G', hp', fr⟩
  rw [noTx_snoc, List.take_append_getElem hk] at hp'
  refine ⟨⟨_, rfl⟩, ⟨G', hp', fr.ge h1 h.b.size, fun j hj hG => ?_⟩, h.t.far fun j hj => fr.keep j (h.t.lt j hj) (h2 j hj), h.b.trans (fr.below h1 h.b.size)⟩
  rcases fr.foot j hG with e | e
  · exact h2 j hj e
  · have := h.t.lt j hj; omega
/-- What the parts are when all items are kept. -/
theorem PtG.fin {w wr : World} {b t : Nat} {F : Nat → Prop} {items : List It} (h : PtG w wr b t F items items.length) : ∃ vi mp vt, PtR wr b 29 [] vi mp vt items (noTx items.length) items.length (posI items) ∧ ∀ k, FP b mp vi vt k → w.heap.size ≤ k := by
  obtain ⟨G, hp, h1, _⟩ := h.p
  rw [List.take_length] at hp
  obtain ⟨vi, mp, vt, hr, hG⟩ := hp.ex
  exact ⟨vi, mp, vt, hr, fun k hk => h1 k ((hG k).2 hk)⟩
set_option maxRecDepth 100000 in
set_option maxHeartbeats 8000000 in
theorem Tryd.ppartsOf_any (a : Option Addr) (len cap : Nat) (ts : List Tk) (w : World) (hT : TkSl w a len cap ts) :
    Calls Tryd.prog 39 #[.slice a len cap] w fun e w' => Below w.heap.size w w' ∧ ((chkE ts ≠ 0 ∧ e = .returned (.tuple #[.agg #[.slice none 0 0, .map none, .slice none 0 0], .int .i64 0, .int .i64 (chkE ts : Int)])) ∨
      (chkE ts = 0 ∧ ∃ T items n b vi mp vt, KT T ∧ T.size ≤ 2048 ∧ ts = T.flat ∧ PtN w' w.heap.size b vi mp vt T items n ∧ e = .returned (.tuple #[.agg #[vi, .map (some mp), vt], .int .i64 (n : Int), .int .i64 0]))) := by
  obtain ⟨w0, hw0⟩ : ∃ w0, w0 = w.alloc (.cells #[.slice none 0 0, .map none, .slice none 0 0] 29) := ⟨_, rfl⟩
  have hb0 : Below w.heap.size w w0 := by rw [hw0]; exact below_new _ _
  have hz0 : w0.heap.size = w.heap.size + 1 := by rw [hw0]; simp
  have hv0 : w0.heap[w.heap.size]? = some (.cells #[.slice none 0 0, .map none, .slice none 0 0] 29 (0, 0)) := by rw [hw0]; exact (MapKept.heap_alloc w _).1
  have jn := Tryd.tnew_any w0
  have hmm := @run_makeMap Tryd.prog
  have HT : Hid _ := hT.up hb0
  have HTS : Hid (∀ x, a = some x → 0 < len → x.block < w0.heap.size) := fun x hx hl => by
    have h1 := (hT.up hb0)
    subst hx
    exact h1.lt hl
  have HB0 : Hid _ := hb0
  have HZ0 : Hid _ := hz0
  have HV0 : Hid _ := hv0
  have HW0 : Hid _ := hw0
  clear hT hb0 hz0 hv0 hw0
  by_cases hc : chkE ts = 0
  · obtain ⟨T, kT, hsz, hts, hE, hK⟩ := kept_all hc
    obtain ⟨items, hi⟩ : ∃ items, items = keepI [] ts := ⟨_, rfl⟩
    obtain ⟨n, hn⟩ : ∃ n, n = keepN [] ts := ⟨_, rfl⟩
    rw [← hi, ← hn] at hK
    have HFIN : Hid (∀ w' vi mp vt, PtN w' w.heap.size w.heap.size vi mp vt T items n → ∃ T' items' n' b vi' mp' vt', KT T' ∧ T'.size ≤ 2048 ∧ ts = T'.flat ∧ PtN w' w.heap.size b vi' mp' vt' T' items' n' ∧ (Ending.returned (.tuple #[.agg #[vi, .map (some mp), vt], .int .i64 (n : Int), .int .i64 0])) = .returned (.tuple #[.agg #[vi', .map (some mp'), vt'], .int .i64 (n' : Int), .int .i64 0])) := fun w' vi mp vt h => ⟨T, items, n, _, vi, mp, vt, kT, hsz, hts, h, rfl⟩
    have HK : Hid _ := hK
    have HI : Hid _ := hi
    have HN : Hid _ := hn
    have HE : Hid _ := hE
    have HC : Hid _ := hc
    clear kT hsz hts hK hi hn hE hc
    go_enter Tryd.func39, Tryd.ntmps39
    go_wp2_with fail
    rw [← HW0.out]
    refine jn.mono ?_
    rintro e w1 ⟨t, F, rfl, hTab, hge, hb1⟩
    have jk := Tryd.tkeep_any a len cap ts ⟨hTab, tabIs_nil⟩ (HT.out.up hb1) (fun hl x hx e => by have := HTS.out x hx hl; have := hge _ e; omega)
    rw [HE.out, ← HI.out, ← HN.out] at jk
    have HGE : Hid (∀ k, F k → w0.heap.size ≤ k) := hge
    have HB1 : Hid _ := hb1
    clear jn hTab hge hb1
    unfold tbV
    go_wp2_with fail
    refine jk.mono ?_
    rintro e w2 ⟨rfl, F2, hTab2, fr2⟩
    have hb2 : Below w0.heap.size w1 w2 := fr2.below HGE.out HB1.out.size
    have hbb : Below w0.heap.size w0 w2 := HB1.out.trans hb2
    have hv2 : w2.heap[w.heap.size]? = some (.cells #[.slice none 0 0, .map none, .slice none 0 0] 29 (0, 0)) := (hbb.block _ (by have := HZ0.out; omega)).trans HV0.out
    have hg2 : ∀ k, F2 k → w0.heap.size ≤ k := fr2.ge HGE.out HB1.out.size
    have hp0 := pts_new hv2
    have HB2 : Hid (Below w.heap.size w w2) := HB0.out.trans (hbb.mono (by have := HZ0.out; omega))
    have hl2 : w.heap.size < w2.heap.size := (Array.getElem?_eq_some_iff.1 hv2).1
    have d1 : w2.cell? ⟨w.heap.size, 1, none⟩ = some (.map none) := cell_row hv2 1
    have z1 : w2.frozen? ⟨w.heap.size, 1, none⟩ = false := frozen_of_row _ _ 1 _ _ hv2
    have hzs : (w2.setCell ⟨w.heap.size, 1, none⟩ (.map (some w2.heap.size))).heap.size = w2.heap.size := by simp
    have HG0 : Hid (PtG w ((w2.setCell ⟨w.heap.size, 1, none⟩ (.map (some w2.heap.size))).alloc (.map #[] 0)) w.heap.size t F2 items 0) := by
      refine ⟨⟨_, hp0, fun j hj => ?_, fun j hj hG => ?_⟩, hTab2.1.far fun k hk => ?_, ?_⟩
      · rcases hj with rfl | rfl <;> omega
      · have h1 := hg2 j hj
        have h2 := hTab2.1.lt j hj
        have := HZ0.out
        rcases hG with e | e <;> omega
      · have h1 := hg2 k hk
        have h2 := hTab2.1.lt k hk
        have := HZ0.out
        exact ((below_new _ _).block k (by rw [hzs]; exact h2)).trans (Below.heap_setCell _ _ _ _ (by dsimp only; omega))
      · exact below_step (bel_set HB2.out _ _ (Nat.le_refl _)) (below_new _ _)
    clear jk hTab2 fr2 hb2 hbb hv2 hg2 hp0 hzs
    have hfew : items.length ≤ 2048 := HK.out.few
    generalize hL : items.length = L at *
    have HL : Hid (items.length = L) := hL
    clear hL
    go_wp2_with fail
    generalize (w2.setCell ⟨w.heap.size, 1, none⟩ (.map (some w2.heap.size))).alloc (.map #[] 0) = w3 at *
    have jl := Tryd.tlen_any HG0.out.t
    rw [HL.out] at jl
    refine jl.mono ?_
    rintro e w4 ⟨rfl, hw4⟩
    obtain rfl := hw4.symm
    clear jl d1 z1
    go_wp2
    go_loopw [24] (fun i wr => ∃ k : Nat, k ≤ L ∧ i = .int .i64 (k : Int) ∧ Hid (PtG w wr w.heap.size t F2 items k)) (fun i _ => L - (intOf i).toNat)
    case atStart => exact ⟨0, Nat.zero_le _, rfl, HG0⟩
    case round =>
      clear HG0
      obtain ⟨k, hk, rfl, HG⟩ := hrel
      by_cases hlt : k < L
      · have hki : k < items.length := by have := HL.out; omega
        have ji := Tryd.titem_any HG.out.t k items[k] (List.getElem?_eq_getElem hki)
        have HKN : Hid (∀ w', Below wr.heap.size wr w' → Calls Tryd.prog 57 #[.pointer (some ⟨w.heap.size, 0, none⟩), itV items[k]] (w'.alloc (itO items[k])) fun e w'' => (∃ j, e = .returned (.int .i64 j)) ∧ PtG w w'' w.heap.size t F2 items (k + 1)) := fun w' hb => Tryd.pkeep_next ((HG.out.up hb).up (below_new w' _)) hki
        obtain ⟨x, hx⟩ : ∃ x, x = items[k] := ⟨_, rfl⟩
        rw [← hx] at ji HKN
        clear hx HG
        obtain ⟨op, p, xa, xb⟩ := x
        unfold itV at *
        unfold itO at *
        dsimp only at *
        go_wp2_with fail
        refine ji.mono ?_
        rintro e w5 ⟨rfl, hb5⟩
        have jk := HKN.out w5 hb5
        clear ji hb5
        go_wp2_with fail
        refine jk.mono ?_
        rintro e w6 ⟨⟨j, rfl⟩, hG6⟩
        have HG6 : Hid _ := hG6
        clear jk hG6
        go_wp2
        go_roundw
        case rel => exact ⟨k + 1, by omega, by go_num, HG6⟩
        case measure => simp [intOf] <;> omega
      · obtain rfl : k = L := by omega
        have hg := HG.out
        rw [← HL.out] at hg
        obtain ⟨vi, mp, vt, hr, hge⟩ := hg.fin
        have h3 := hr.again
        obtain ⟨ai, ci, rfl⟩ := own_slI hr.ri
        obtain ⟨at', ct, rfl⟩ := own_slI hr.rt
        have f0 := hr.c0
        have f1 := hr.c1
        have f2 := hr.c2
        have z0 : wr.frozen? ⟨w.heap.size, 0, none⟩ = false := frozen_of_row _ _ 0 _ _ hr.blk
        have z1 : wr.frozen? ⟨w.heap.size, 1, none⟩ = false := frozen_of_row _ _ 1 _ _ hr.blk
        have z2 : wr.frozen? ⟨w.heap.size, 2, none⟩ = false := frozen_of_row _ _ 2 _ _ hr.blk
        have HQ : Hid _ := HFIN.out _ _ _ _ ⟨HK.out, HG.out.t.ok, h3.1, hge⟩
        have HBW : Hid _ := bel_set (bel_set (bel_set HG.out.b ⟨w.heap.size, 0, none⟩ (.slice ai items.length ci) (Nat.le_refl _)) ⟨w.heap.size, 1, none⟩ (.map (some mp)) (Nat.le_refl _)) ⟨w.heap.size, 2, none⟩ (.slice at' (noTx items.length).length ct) (Nat.le_refl _)
        have g0 := h3.1.c0
        have g1 := h3.1.c1
        have g2 := h3.1.c2
        clear hr hg h3 hge HG
        go_wp2
        generalize (((wr.setCell ⟨w.heap.size, 0, none⟩ (.slice ai items.length ci)).setCell ⟨w.heap.size, 1, none⟩ (.map (some mp))).setCell ⟨w.heap.size, 2, none⟩ (.slice at' (noTx items.length).length ct)) = W at *
        refine bodyPost_ret (v := .tuple #[.agg #[.slice ai items.length ci, .map (some mp), .slice at' (noTx items.length).length ct], .int .i64 (n : Int), .int .i64 0]) (by simp [results, Tryd.results39, go_sem, g0, g1, g2]) rfl ⟨HBW.out, Or.inr ⟨HC.out, HQ.out⟩⟩
  · obtain ⟨h1, h2, h3⟩ := keep_off (items := []) hc
    have hne : (((chkE ts : Nat) : Int) != 0) = true := by simp; omega
    have HC : Hid _ := hc
    have H1 : Hid _ := h1
    have H3 : Hid _ := h3
    clear hc h1 h2 h3
    obtain ⟨E, hE⟩ : ∃ E, E = chkE ts := ⟨_, rfl⟩
    have HE : Hid _ := hE
    rw [← hE] at hne
    rw [← hE]
    clear hE
    go_enter Tryd.func39, Tryd.ntmps39
    go_wp2_with fail
    rw [← HW0.out]
    refine jn.mono ?_
    rintro e w1 ⟨t, F, rfl, hTab, hge, hb1⟩
    have jk := Tryd.tkeep_any a len cap ts ⟨hTab, tabIs_nil⟩ (HT.out.up hb1) (fun hl x hx e => by have := HTS.out x hx hl; have := hge _ e; omega)
    rw [H1.out, H3.out, ← HE.out] at jk
    have HGE : Hid (∀ k, F k → w0.heap.size ≤ k) := hge
    have HB1 : Hid _ := hb1
    clear jn hTab hge hb1 hmm
    unfold tbV
    go_wp2_with fail
    refine jk.mono ?_
    rintro e w2 ⟨rfl, F2, hTab2, fr2⟩
    have hb2 : Below w0.heap.size w1 w2 := fr2.below HGE.out HB1.out.size
    have hbb : Below w0.heap.size w0 w2 := HB1.out.trans hb2
    have hv2 : w2.heap[w.heap.size]? = some (.cells #[.slice none 0 0, .map none, .slice none 0 0] 29 (0, 0)) := (hbb.block _ (by have := HZ0.out; omega)).trans HV0.out
    have HB2 : Hid (Below w.heap.size w w2) := HB0.out.trans (hbb.mono (by have := HZ0.out; omega))
    have f0 : w2.cell? ⟨w.heap.size, 0, none⟩ = some (.slice none 0 0) := cell_row hv2 0
    have f1 : w2.cell? ⟨w.heap.size, 1, none⟩ = some (.map none) := cell_row hv2 1
    have f2 : w2.cell? ⟨w.heap.size, 2, none⟩ = some (.slice none 0 0) := cell_row hv2 2
    have z0 : w2.frozen? ⟨w.heap.size, 0, none⟩ = false := frozen_of_row _ _ 0 _ _ hv2
    have z1 : w2.frozen? ⟨w.heap.size, 1, none⟩ = false := frozen_of_row _ _ 1 _ _ hv2
    have z2 : w2.frozen? ⟨w.heap.size, 2, none⟩ = false := frozen_of_row _ _ 2 _ _ hv2
    have HBW : Hid _ := bel_set (bel_set (bel_set HB2.out ⟨w.heap.size, 0, none⟩ (.slice none 0 0) (Nat.le_refl _)) ⟨w.heap.size, 1, none⟩ (.map none) (Nat.le_refl _)) ⟨w.heap.size, 2, none⟩ (.slice none 0 0) (Nat.le_refl _)
    have k1 := heap_setCell_same w2 _ 0 _ _ (.slice none 0 0) hv2
    have k2 := heap_setCell_same _ _ 1 _ _ (.map none) k1
    have k3 := heap_setCell_same _ _ 2 _ _ (.slice none 0 0) k2
    have g0 : (((w2.setCell ⟨w.heap.size, 0, none⟩ (.slice none 0 0)).setCell ⟨w.heap.size, 1, none⟩ (.map none)).setCell ⟨w.heap.size, 2, none⟩ (.slice none 0 0)).cell? ⟨w.heap.size, 0, none⟩ = some (.slice none 0 0) := cell_row k3 0
    have g1 : (((w2.setCell ⟨w.heap.size, 0, none⟩ (.slice none 0 0)).setCell ⟨w.heap.size, 1, none⟩ (.map none)).setCell ⟨w.heap.size, 2, none⟩ (.slice none 0 0)).cell? ⟨w.heap.size, 1, none⟩ = some (.map none) := cell_row k3 1
    have g2 : (((w2.setCell ⟨w.heap.size, 0, none⟩ (.slice none 0 0)).setCell ⟨w.heap.size, 1, none⟩ (.map none)).setCell ⟨w.heap.size, 2, none⟩ (.slice none 0 0)).cell? ⟨w.heap.size, 2, none⟩ = some (.slice none 0 0) := cell_row k3 2
    clear jk hTab2 fr2 hb2 hbb hv2 k1 k2 k3
    go_wp2
    generalize (((w2.setCell ⟨w.heap.size, 0, none⟩ (.slice none 0 0)).setCell ⟨w.heap.size, 1, none⟩ (.map none)).setCell ⟨w.heap.size, 2, none⟩ (.slice none 0 0)) = W at *
    have HCE : Hid (E ≠ 0) := by have := HC.out; rw [← HE.out] at this; exact this
    refine bodyPost_ret (v := .tuple #[.agg #[.slice none 0 0, .map none, .slice none 0 0], .int .i64 0, .int .i64 (E : Int)]) (by simp [results, Tryd.results39, go_sem, g0, g1, g2]) rfl ⟨HBW.out, Or.inl ⟨HCE.out, rfl⟩⟩
end Go.Proofs.YtnedkpbpeolfoaaDoor
namespace Go.Proofs.YtnedkpbpeolfoaaDoor
open Go.RowKit Go.Maps
/-- What is to do at the beginning is stored. -/
theorem PgO.start {T0 : Tr} {w : World} {F : Nat → Prop} {p : Nat} {vs : Value} {items : List It} {M : Mt} (h : PgO T0 w F p vs items M) (v : Value) : PgO T0 (w.setCell ⟨p, 6, none⟩ v) F p v items M ∧ F p ∧ w.cell? ⟨p, 6, none⟩ = some vs ∧ w.frozen? ⟨p, 6, none⟩ = false := by
  obtain ⟨G, mn, vm, met, hr, hF⟩ := h.ex
  have st : ∀ k, k ≠ p → (w.setCell ⟨p, 6, none⟩ v).heap[k]? = w.heap[k]? := fun k hk => Below.heap_setCell _ _ _ _ hk
  refine ⟨⟨h.few, h.nd, h.of, G, mn, vm, met, ⟨hr.po.setRest (j := 3) v, owns_off hr.row fun k hk => st k fun e => hr.nv k hk (e ▸ hr.gp), hr.num.far (st mn fun e => hr.ng (e ▸ hr.gp)), hr.met, hr.ng, hr.nv⟩, hF⟩, (hF p).2 (Or.inl hr.gp), hr.c6, hr.fz 6⟩
/-- A prog that has met nothing yet. -/
theorem pg_new {w1 W : World} {B b : Nat} {vi : Value} {mp : Nat} {vt : Value} {T : Tr} {items : List It} {n p mn : Nat} (kT : KT T) (hsz : T.size ≤ 2048) (h : PtN w1 B b vi mp vt T items n) (hb : Below w1.heap.size w1 W) (hp : w1.heap.size ≤ p) (hm : w1.heap.size ≤ mn) (hB : B ≤ w1.heap.size)
    (hP : W.heap[p]? = some (.cells (ptA vi mp vt (pgRest p mn (.slice none 0 0) (.slice none 0 0))) 33 (0, 0))) (hN : NumS W mn 0 (fun _ => none)) :
    ∃ F, PgO T W F p (.slice none 0 0) items [] ∧ ∀ k, F k → B ≤ k ∧ (k < w1.heap.size ∨ k = p ∨ k = mn) := by
  obtain ⟨es, c, hmap⟩ := hN.isMap
  have hpm : p ≠ mn := fun e => by rw [e, hmap] at hP; cases hP
  have hlt := h.r.lt
  have hR : PtR W p 33 (pgRest p mn (.slice none 0 0) (.slice none 0 0)) vi mp vt items (noTx items.length) items.length (posI items) :=
    ⟨Or.inr rfl, hP, owns_up h.r.ri hb, owns_up h.r.rt hb, h.r.num.far (hb.block mp h.r.num.lt)⟩
  have hG : ∀ k, FP p mp vi vt k → k = p ∨ FP b mp vi vt k := fun k hk => by
    rcases hk with e | e
    · exact Or.inl e
    · exact Or.inr (Or.inr e)
  have hpo : PtO T W (FP p mp vi vt) p 33 (pgRest p mn (.slice none 0 0) (.slice none 0 0)) items := by
    refine ⟨⟨kT, hsz⟩, h.k.low, h.k.cov, noTx items.length, ⟨h.k.nd, by simp [noTx], by have := h.k.few; omega, h.ok, fun s hs => ?_, vi, mp, vt, hR, fun k => Iff.rfl⟩, fun j S hr => Or.inl ?_⟩
    · have := List.eq_of_mem_replicate hs
      subst this
      unfold SOk
      decide
    · unfold noTx
      rw [List.getElem?_replicate, if_pos hr.lt]
  refine ⟨FQ (FP p mp vi vt) mn (.slice none 0 0), ⟨by simp, by simp, fun f hf => (by cases hf), FP p mp vi vt, mn, .slice none 0 0, [], ⟨hpo, ⟨rfl, Or.inl ⟨rfl, rfl⟩⟩, hN.alike fun x _ => rfl, ⟨rfl, fun n i hi => (by simp at hi)⟩, fun e => ?_, fun k hk => (by cases hk)⟩, fun k => Iff.rfl⟩, fun k hk => ?_⟩
  · rcases hG _ e with e | e
    · exact hpm e.symm
    · have := hlt _ e; omega
  · rcases hk with e | e | e
    · rcases hG _ e with e | e
      · exact ⟨by omega, Or.inr (Or.inl e)⟩
      · exact ⟨h.ge k e, Or.inl (hlt _ e)⟩
    · exact ⟨by omega, Or.inr (Or.inr e)⟩
    · cases e
/-- The variables of New. -/
structure NwV (w : World) (F : Nat → Prop) (p n bp bw : Nat) : Prop where
  h0 : w.heap[bp]? = some (.cells #[.pointer (some ⟨p, 0, none⟩)] 24 (0, 0))
  h1 : w.heap[bw]? = some (.cells #[.int .i64 (n : Int)] 3 (0, 0))
  n0 : ¬ F bp
  n1 : ¬ F bw
theorem NwV.fr {w w' : World} {F F' : Nat → Prop} {p n bp bw : Nat} (h : NwV w F p n bp bw) (fr : Fr w w' F F') : NwV w' F' p n bp bw :=
  ⟨(box_keep h.h0 h.n0 fr).1, (box_keep h.h1 h.n1 fr).1, (box_keep h.h0 h.n0 fr).2, (box_keep h.h1 h.n1 fr).2⟩
theorem NwV.cells {w : World} {F : Nat → Prop} {p n bp bw : Nat} (h : NwV w F p n bp bw) : w.cell? ⟨bp, 0, none⟩ = some (.pointer (some ⟨p, 0, none⟩)) ∧ w.cell? ⟨bw, 0, none⟩ = some (.int .i64 (n : Int)) := ⟨cell_row h.h0 0, cell_row h.h1 0⟩
theorem NwV.set {w : World} {F : Nat → Prop} {p n bp bw : Nat} (h : NwV w F p n bp bw) (hp : F p) (j : Nat) (v : Value) : (w.setCell ⟨p, j, none⟩ v).cell? ⟨bp, 0, none⟩ = some (.pointer (some ⟨p, 0, none⟩)) ∧ (w.setCell ⟨p, j, none⟩ v).cell? ⟨bw, 0, none⟩ = some (.int .i64 (n : Int)) :=
  ⟨cell_row ((Below.heap_setCell _ _ _ _ (fun e => h.n0 (by have e' : bp = p := e; rw [e']; exact hp))).trans h.h0) 0, cell_row ((Below.heap_setCell _ _ _ _ (fun e => h.n1 (by have e' : bw = p := e; rw [e']; exact hp))).trans h.h1) 0⟩
/-- A list that is stored into a block of the object's. -/
theorem us_set {w : World} {F : Nat → Prop} {a : Option Addr} {n c : Nat} {l : List Nat} (h : US w F a n c l) {p : Nat} (hp : F p) (j : Nat) (v : Value) : US (w.setCell ⟨p, j, none⟩ v) F a n c l := by
  have hs := h.sl
  refine ⟨⟨hs.hlen, hs.hcap, hs.bd, hs.idx, fun k hk => ?_, fun k hk => by simp; exact hs.blk k hk, hs.nn⟩, h.nf⟩
  have := hs.cell k hk
  unfold World.cell? at this ⊢
  rw [Below.heap_setCell _ _ _ _ (fun e => h.nf k hk (by rw [e]; exact hp))]
  exact this
theorem fr_set {w w1 : World} {F F1 : Nat → Prop} (fr : Fr w w1 F F1) {p : Nat} (hp : F1 p) (j : Nat) (v : Value) : Fr w (w1.setCell ⟨p, j, none⟩ v) F F1 := by
  refine fr.trans ⟨rfl, rfl, rfl, by simp, fun k hk hF => Below.heap_setCell _ _ _ _ (fun e => hF (e ▸ hp)), fun k hk => Or.inl hk⟩
/-- What it answers. -/
def NewQ (T0 : Tr) (p : Nat) (w : World) (F : Nat → Prop) (R : Rt) (e : Ending) (w' : World) : Prop :=
  (e = .returned (.tuple #[]) ∧ ∃ (L : List Nat) (M' : Mt) (q : Option Addr) (d : Nat) (F' : Nat → Prop) (items' : List It), R = some (L, M') ∧ PgO T0 w' F' p (.slice q L.length d) items' M' ∧ US w' F' q L.length d L ∧ Fr w w' F F') ∨
  (e = .panicked thrownP ∧ R = none ∧ ∃ (F' : Nat → Prop), Fr w w' F F')
theorem new_fin {T0 : Tr} {p : Nat} {w w1 : World} {F F1 : Nat → Prop} {items : List It} {M : Mt} {R : Rt} {L : List Nat} {q : Option Addr} {d : Nat} {vs : Value} (hR : R = some (L, M)) (fr : Fr w w1 F F1) (hU : US w1 F1 q L.length d L) (hO : PgO T0 w1 F1 p vs items M) : NewQ T0 p w F R (.returned (.tuple #[])) (w1.setCell ⟨p, 6, none⟩ (.slice q L.length d)) := by
  obtain ⟨h1, h2, _, _⟩ := hO.start (.slice q L.length d)
  exact Or.inl ⟨rfl, L, M, q, d, F1, items, hR, h1, us_set hU h2 _ _, fr_set fr h2 _ _⟩
set_option maxRecDepth 100000 in
set_option maxHeartbeats 8000000 in
theorem Tryd.pnew1_any {T0 : Tr} (kT : KT T0) {p n : Nat} {w : World} {F : Nat → Prop} {items : List It} (h : PgO T0 w F p (.slice none 0 0) items []) (hn : Rep items n T0) (bp bw : Nat) (hV : NwV w F p n bp bw) :
    Calls Tryd.prog 40 #[.pointer (some ⟨bp, 0, none⟩), .pointer (some ⟨bw, 0, none⟩)] w (NewQ T0 p w F (needM T0 [])) := by
  have hVd := hV.fr (Fr.ofBelow (F := F) (Below.refl w.heap.size w).drew)
  have hk0 := hVd.cells
  have hk00 := hV.cells
  have jn := Tryd.pneed_any (T0 := T0) (p := p) (vs := .slice none 0 0) T0 kT (inC_self T0) w.drew F items [] n (h.up (Below.refl w.heap.size w).drew) hn
  have HV : Hid _ := hVd
  obtain ⟨R, hR⟩ : ∃ R, R = needM T0 [] := ⟨_, rfl⟩
  rw [← hR] at jn ⊢
  obtain ⟨Q, hQ⟩ : ∃ Q : Ending → World → Prop, Q = NewQ T0 p w F R := ⟨_, rfl⟩
  have HQ : Hid (∀ e w', NewQ T0 p w F R e w' → Q e w') := fun e w' h => by rw [hQ]; exact h
  rw [← hQ]
  clear h hn hV hVd hR hQ
  go_enter Tryd.func40, Tryd.ntmps40
  go_wp2_with fail
  go_region_held2 (fun w' => w'.cell? ⟨bp, 0, none⟩ = some (.pointer (some ⟨p, 0, none⟩)) ∧ w'.cell? ⟨bw, 0, none⟩ = some (.int .i64 (n : Int))) (first | exact hk0 | exact hk00 | assumption | fail) (first
      | (revert jn; intro jn; go_at_call 41; (with_reducible refine jn.mono ?_); rintro e w1 ⟨F1, i1, fr1, hp1, ⟨L1, M1, q1, d1, hs1, rfl, hU1, hO1⟩ | ⟨hs1, rfl, M1, hpm1, hO1⟩⟩; (case inr => exact ⟨rfl, HQ.out _ _ (Or.inr ⟨rfl, hs1, F1, (Fr.ofBelow (Below.refl _ _).drew).trans fr1⟩)⟩); have hV1 := HV.out.fr fr1; have hk1 := hV1.cells; have hst := hO1.start (.slice q1 L1.length d1); have hk2 := hV1.set hst.2.1 6 (.slice q1 L1.length d1); have z2 := hst.2.2.1; have zf := hst.2.2.2; have HE : Hid (Q (.returned (.tuple #[])) (w1.setCell ⟨p, 6, none⟩ (.slice q1 L1.length d1))) := HQ.out _ _ (new_fin hs1 ((Fr.ofBelow (Below.refl _ _).drew).trans fr1) hU1 hO1))
      | fail)
  all_goals
    clear jn
    go_wp2
    go_end0
    exact HE.out
/-- Behind caught: there is a prog, or none. -/
def NwP (T0 : Tr) (p : Nat) (w : World) (F : Nat → Prop) (E : Nat) (R : Rt) (w' : World) : Prop :=
  ∃ (L : List Nat) (M' : Mt) (q : Option Addr) (d : Nat) (F' : Nat → Prop) (items' : List It), R = some (L, M') ∧ PgO T0 w' F' p (.slice q L.length d) items' M' ∧ US w' F' q L.length d L ∧ ¬ F' E ∧ (∀ k, k < L.length → (adOf q k).block ≠ E) ∧ Fr w w' (fun k => F k ∨ k = E) F'
def NwN (w : World) (F : Nat → Prop) (E : Nat) (R : Rt) (w' : World) : Prop := R = none ∧ ∃ F' : Nat → Prop, Fr w w' (fun k => F k ∨ k = E) F'
theorem fr_grown {w w1 w2 : World} {F F' : Nat → Prop} {E : Nat} (h7 : Fr w w1 (fun k => F k ∨ k = E) F') (hg : w1.grownBy w2 (some E)) : Fr w w2 (fun k => F k ∨ k = E) F' :=
  ⟨hg.os.trans h7.os, hg.tape.trans h7.tape, hg.output.trans h7.output, Nat.le_trans h7.size hg.size, fun k hk hF => (hg.block k (Nat.lt_of_lt_of_le hk h7.size) (fun e => hF (Or.inr (by injection e)))).trans (h7.keep k hk hF), h7.foot⟩
theorem NwP.grown {T0 : Tr} {p : Nat} {w w1 w2 : World} {F : Nat → Prop} {E : Nat} {R : Rt} (h : NwP T0 p w F E R w1) (hg : w1.grownBy w2 (some E)) : NwP T0 p w F E R w2 := by
  obtain ⟨L, M', q, d, F', i', h1, h3, h4, h5, h6, h7⟩ := h
  exact ⟨L, M', q, d, F', i', h1, h3.far fun k hk => hg.block k (h3.lt k hk) (fun e => h5 (by injection e with e; exact e ▸ hk)), h4.grown hg h6, h5, h6, fr_grown h7 hg⟩
set_option maxRecDepth 100000 in
theorem Tryd.ent_new1 : EntersF 40 := fun _ _ => rfl
theorem Tryd.pcaught_new {T0 : Tr} (kT : KT T0) {p n : Nat} {w : World} {F : Nat → Prop} {items : List It} (h : PgO T0 w F p (.slice none 0 0) items []) (hn : Rep items n T0) (bp bw : Nat) (hV : NwV w F p n bp bw) :
    Calls Tryd.prog 14 #[.func (.func 40) #[] #[.pointer (some ⟨bp, 0, none⟩), .pointer (some ⟨bw, 0, none⟩)]] w fun e w' =>
      (e = .returned (.int .i64 0) ∧ NwP T0 p w F w.heap.size (needM T0 []) w') ∨ (e = .returned (.int .i64 9) ∧ NwN w F w.heap.size (needM T0 []) w') := by
  refine (Tryd.pcaught_any 40 _ w Tryd.ent_new1 (fun w' => NwP T0 p w F w.heap.size (needM T0 []) w') (fun w' => NwN w F w.heap.size (needM T0 []) w') ?_ ?_ ?_).mono ?_
  · rintro w1 w2 b hp hg rfl
    exact hp.grown hg
  · rintro w1 w2 b ⟨h1, F', h7⟩ hg rfl
    exact ⟨h1, F', fr_grown h7 hg⟩
  · intro w0 hw0
    have hb : Below w.heap.size w w0 := by rw [hw0]; exact below_new _ _
    have hE : Erc w0 w.heap.size 0 := by rw [hw0]; exact (MapKept.heap_alloc w _).1
    have hz : w0.heap.size = w.heap.size + 1 := by rw [hw0]; simp
    have hnE : ¬ F w.heap.size := fun e => Nat.lt_irrefl _ (h.lt _ e)
    refine (Tryd.pnew1_any kT (h.up hb) hn bp bw (hV.fr (Fr.ofBelow hb))).mono ?_
    rintro e w' (⟨rfl, L, M', q, d, F', i', hs, hO, hU, fr⟩ | ⟨rfl, hs, F', fr⟩)
    · have hE' : Erc w' w.heap.size 0 := (fr.keep _ (by omega) hnE).trans hE
      exact Or.inl ⟨rfl, ⟨L, M', q, d, F', i', hs, hO, hU, fr.out hnE (by omega), us_offE hU hE', ((Fr.ofBelow hb).trans fr).alike (fun k hk => Or.inl hk) (fun k hk => hk)⟩, hE'⟩
    · have hE' : Erc w' w.heap.size 0 := (fr.keep _ (by omega) hnE).trans hE
      exact Or.inr ⟨rfl, ⟨hs, F', ((Fr.ofBelow hb).trans fr).alike (fun k hk => Or.inl hk) (fun k hk => hk)⟩, hE'⟩
  · rintro e w' (⟨h1, h2⟩ | ⟨h1, h2⟩)
    · exact Or.inl ⟨h1, h2⟩
    · exact Or.inr ⟨h1, h2⟩
/-- What New has made when it calls caught. -/
theorem new_made {w w1 : World} {b : Nat} {vi : Value} {mp : Nat} {vt : Value} {T : Tr} {items : List It} {n : Nat} (kT : KT T) (hsz : T.size ≤ 2048) (hb1 : Below w.heap.size w w1) (hN : PtN w1 w.heap.size b vi mp vt T items n) (o : Obj) :
    ∃ W, W = ((((w1.alloc o).alloc (.cells #[.int .i64 (n : Int)] 3)).alloc (.map #[] 0)).alloc (.cells #[vi, .map (some mp), vt, .pointer (some ⟨w1.heap.size + 1 + 1 + 1, 0, none⟩), .map (some (w1.heap.size + 1 + 1)), .slice none 0 0, .slice none 0 0] 33)).alloc (.cells #[.pointer (some ⟨w1.heap.size + 1 + 1 + 1, 0, none⟩)] 24) ∧
      Below w.heap.size w W ∧ ∃ F, PgO T W F (w1.heap.size + 1 + 1 + 1) (.slice none 0 0) items [] ∧ (∀ k, F k → w.heap.size ≤ k) ∧ NwV W F (w1.heap.size + 1 + 1 + 1) n (w1.heap.size + 1 + 1 + 1 + 1) (w1.heap.size + 1) := by
  obtain ⟨u1, hu1⟩ : ∃ u, u = w1.alloc o := ⟨_, rfl⟩
  obtain ⟨u2, hu2⟩ : ∃ u, u = u1.alloc (.cells #[.int .i64 (n : Int)] 3) := ⟨_, rfl⟩
  obtain ⟨u3, hu3⟩ : ∃ u, u = u2.alloc (.map #[] 0) := ⟨_, rfl⟩
  obtain ⟨u4, hu4⟩ : ∃ u, u = u3.alloc (.cells #[vi, .map (some mp), vt, .pointer (some ⟨w1.heap.size + 1 + 1 + 1, 0, none⟩), .map (some (w1.heap.size + 1 + 1)), .slice none 0 0, .slice none 0 0] 33) := ⟨_, rfl⟩
  obtain ⟨u5, hu5⟩ : ∃ u, u = u4.alloc (.cells #[.pointer (some ⟨w1.heap.size + 1 + 1 + 1, 0, none⟩)] 24) := ⟨_, rfl⟩
  refine ⟨u5, by rw [hu5, hu4, hu3, hu2, hu1], ?_⟩
  have z1 : u1.heap.size = w1.heap.size + 1 := by rw [hu1]; simp
  have z2 : u2.heap.size = w1.heap.size + 1 + 1 := by rw [hu2]; simp [z1]
  have z3 : u3.heap.size = w1.heap.size + 1 + 1 + 1 := by rw [hu3]; simp [z2]
  have z4 : u4.heap.size = w1.heap.size + 1 + 1 + 1 + 1 := by rw [hu4]; simp [z3]
  have b1 : Below w1.heap.size w1 u1 := by rw [hu1]; exact below_new _ _
  have b2 : Below u1.heap.size u1 u2 := by rw [hu2]; exact below_new _ _
  have b3 : Below u2.heap.size u2 u3 := by rw [hu3]; exact below_new _ _
  have b4 : Below u3.heap.size u3 u4 := by rw [hu4]; exact below_new _ _
  have b5 : Below u4.heap.size u4 u5 := by rw [hu5]; exact below_new _ _
  have hB : Below w1.heap.size w1 u5 := below_step (below_step (below_step (below_step b1 b2) b3) b4) b5
  have v2 : u2.heap[w1.heap.size + 1]? = some (.cells #[.int .i64 (n : Int)] 3 (0, 0)) := by rw [← z1, hu2]; exact (MapKept.heap_alloc u1 _).1
  have hnum : NumS u3 (w1.heap.size + 1 + 1) 0 (fun _ => none) := by rw [← z2, hu3]; exact nums_made u2
  have v4 : u4.heap[w1.heap.size + 1 + 1 + 1]? = some (.cells #[vi, .map (some mp), vt, .pointer (some ⟨w1.heap.size + 1 + 1 + 1, 0, none⟩), .map (some (w1.heap.size + 1 + 1)), .slice none 0 0, .slice none 0 0] 33 (0, 0)) := by
    have := (MapKept.heap_alloc u3 (.cells #[vi, .map (some mp), vt, .pointer (some ⟨w1.heap.size + 1 + 1 + 1, 0, none⟩), .map (some (w1.heap.size + 1 + 1)), .slice none 0 0, .slice none 0 0] 33)).1
    rw [← hu4, z3] at this
    exact this
  have v5 : u5.heap[w1.heap.size + 1 + 1 + 1 + 1]? = some (.cells #[.pointer (some ⟨w1.heap.size + 1 + 1 + 1, 0, none⟩)] 24 (0, 0)) := by
    have := (MapKept.heap_alloc u4 (.cells #[.pointer (some ⟨w1.heap.size + 1 + 1 + 1, 0, none⟩)] 24)).1
    rw [← hu5, z4] at this
    exact this
  obtain ⟨F, hO, hF⟩ := pg_new (W := u5) (p := w1.heap.size + 1 + 1 + 1) (mn := w1.heap.size + 1 + 1) kT hsz hN hB (by omega) (by omega) hb1.size ((b5.block _ (by omega)).trans v4) (hnum.far ((b5.block _ (by omega)).trans (b4.block _ (by omega))))
  refine ⟨below_step hb1 hB, F, hO, fun k hk => (hF k hk).1, v5, ?_, fun e => ?_, fun e => ?_⟩
  · exact (b5.block _ (by omega)).trans ((b4.block _ (by omega)).trans ((b3.block _ (by omega)).trans v2))
  · have := (hF _ e).2; omega
  · have := (hF _ e).2; omega
/-- What New answers. -/
def NewR (w : World) (ts : List Tk) (e : Ending) (w' : World) : Prop := Below w.heap.size w w' ∧ ((chkE ts ≠ 0 ∧ e = .returned (.tuple #[.pointer none, .int .i64 (chkE ts : Int)])) ∨
  ∃ T, KT T ∧ ts = T.flat ∧ chkE ts = 0 ∧ ((needM T [] = none ∧ e = .returned (.tuple #[.pointer none, .int .i64 9])) ∨
    ∃ (l0 : List Nat) (M : Mt) (p : Nat) (F : Nat → Prop) (q : Option Addr) (d : Nat) (items : List It), needM T [] = some (l0, M) ∧ e = .returned (.tuple #[pgV p, .int .i64 0]) ∧ PgO T w' F p (.slice q l0.length d) items M ∧ US w' F q l0.length d l0 ∧ (∀ k, F k → w.heap.size ≤ k)))
set_option maxRecDepth 100000 in
set_option maxHeartbeats 8000000 in
theorem Tryd.pNew_any (a : Option Addr) (len cap : Nat) (ts : List Tk) (w : World) (hT : TkSl w a len cap ts) : Calls Tryd.prog 24 #[.slice a len cap] w (NewR w ts) := by
  have jp := Tryd.ppartsOf_any a len cap ts w hT
  have hmm := @run_makeMap Tryd.prog
  obtain ⟨Q, hQ⟩ : ∃ Q : Ending → World → Prop, Q = NewR w ts := ⟨_, rfl⟩
  have HQ : Hid (∀ e w', NewR w ts e w' → Q e w') := fun e w' h => by rw [hQ]; exact h
  rw [← hQ]
  clear hT hQ
  go_enter Tryd.func24, Tryd.ntmps24
  go_wp2_with fail
  refine jp.mono ?_
  rintro e w1 ⟨hb1, ⟨hc, rfl⟩ | ⟨hc, T, items, n, b, vi, mp, vt, kT, hsz, hts, hN, rfl⟩⟩
  · have hne : (((chkE ts : Nat) : Int) != 0) = true := by simp; omega
    have HC : Hid _ := hc
    have HB1 : Hid _ := hb1
    clear jp hc hb1 hmm
    generalize hE : chkE ts = E at *
    have HE : Hid _ := hE
    clear hE
    go_wp2
    exact HQ.out _ _ ⟨below_step HB1.out (below_step (below_new _ _) (below_new _ _)), Or.inl ⟨by rw [HE.out]; exact HC.out, by rw [HE.out]; rfl⟩⟩
  · obtain ⟨ai, ci, rfl⟩ := own_slI hN.r.ri
    obtain ⟨at', ct, rfl⟩ := own_slI hN.r.rt
    obtain ⟨W, hW, hbW, F, hO, hF, hV⟩ := new_made kT hsz hb1 hN (.cells #[.slice ai items.length ci, .map (some mp), .slice at' (noTx items.length).length ct] 29)
    have jc := Tryd.pcaught_new kT hO hN.k.rep _ _ hV
    have HW : Hid _ := hW
    have HBW : Hid _ := hbW
    have HF : Hid _ := hF
    have HV : Hid _ := hV
    have HC : Hid _ := hc
    have HTS : Hid _ := hts
    have HKT : Hid _ := kT
    clear jp hc hb1 hN hts hW hbW hF hV hO kT hsz
    go_wp2_with fail
    rw [← HW.out]
    refine jc.mono ?_
    rintro e w6 (⟨rfl, L, M', q, d, F', i', hs, hO, hU, hnE, _, fr⟩ | ⟨rfl, hs, F', fr⟩)
    · have hge : ∀ k, F k ∨ k = W.heap.size → w.heap.size ≤ k := fun k hk => by
        rcases hk with hk | hk
        · exact HF.out k hk
        · have := HBW.out.size; omega
      have hb6 : Below w.heap.size w w6 := HBW.out.trans (fr.below hge HBW.out.size)
      have hl0 := (Array.getElem?_eq_some_iff.1 HV.out.h0).1
      have hc0 : w6.cell? ⟨w1.heap.size + 1 + 1 + 1 + 1, 0, none⟩ = some (.pointer (some ⟨w1.heap.size + 1 + 1 + 1, 0, none⟩)) := cell_row ((fr.keep _ hl0 (fun e => by rcases e with e | e; exact HV.out.n0 e; omega)).trans HV.out.h0) 0
      have HE : Hid (Q (.returned (.tuple #[pgV (w1.heap.size + 1 + 1 + 1), .int .i64 0])) w6) := HQ.out _ _ ⟨hb6, Or.inr ⟨T, HKT.out, HTS.out, HC.out, Or.inr ⟨L, M', _, F', q, d, i', hs, rfl, hO, hU, fr.ge hge HBW.out.size⟩⟩⟩
      clear jc hs hO hU hnE fr hge hb6 hl0
      unfold pgV at HE
      go_wp2
      exact HE.out
    · have hge : ∀ k, F k ∨ k = W.heap.size → w.heap.size ≤ k := fun k hk => by
        rcases hk with hk | hk
        · exact HF.out k hk
        · have := HBW.out.size; omega
      have hb6 : Below w.heap.size w w6 := HBW.out.trans (fr.below hge HBW.out.size)
      have HE : Hid (Q (.returned (.tuple #[.pointer none, .int .i64 9])) w6) := HQ.out _ _ ⟨hb6, Or.inr ⟨T, HKT.out, HTS.out, HC.out, Or.inl ⟨hs, rfl⟩⟩⟩
      clear jc hs fr hge hb6
      go_wp2
      exact HE.out
end Go.Proofs.YtnedkpbpeolfoaaDoor
