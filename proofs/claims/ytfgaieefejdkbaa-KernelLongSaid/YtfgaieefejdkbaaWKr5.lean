/- The document's Grow. -/
import Derived.Test.YtfgaieefejdkbaaWKr4
namespace Go.Proofs.Ytfgaieefejdkbaa
open Go.RowKit Go.Maps

theorem set3_cells {w : World} {r : Nat} {a0 a1 a2 : Value} {T : TypeId} (hr : w.heap[r]? = some (.cells #[a0, a1, a2] T (0, 0))) (x y z : Value) :
    (((w.setCell ⟨r, 0, none⟩ x).setCell ⟨r, 1, none⟩ y).setCell ⟨r, 2, none⟩ z).cell? ⟨r, 0, none⟩ = some x ∧ (((w.setCell ⟨r, 0, none⟩ x).setCell ⟨r, 1, none⟩ y).setCell ⟨r, 2, none⟩ z).cell? ⟨r, 1, none⟩ = some y ∧ (((w.setCell ⟨r, 0, none⟩ x).setCell ⟨r, 1, none⟩ y).setCell ⟨r, 2, none⟩ z).cell? ⟨r, 2, none⟩ = some z := by
  have h1 := heap_setCell_same w r 0 _ T x hr
  have h2 := heap_setCell_same _ r 1 _ T y h1
  have h3 := heap_setCell_same _ r 2 _ T z h2
  simp [World.cell?, h3]
theorem g_first {w : World} {base n : Nat} {a : Option Addr} {cap : Nat} {y : Nd} {r : List Nd} (h : w.ownsRow base 54 3 (.slice a n cap) n (encG (y :: r))) :
    ∃ g, (∀ w', (Instr.indexAt 52 (.slice a n cap) (.int .i64 0)).run Try.prog w' = .ok (.pointer (some ⟨g, 0, none⟩)) w') ∧ NodeAt w g 0 y.1 y.2 := by
  have hl := h.1
  rw [encG_len, List.length_cons] at hl
  rcases h.2 with ⟨e, e0⟩ | ⟨g, cap', cur, e, _, hcell, hnc, hcm, hsz, htk⟩
  · omega
  · injection e with e1 _ e3
    subst e1 e3
    have key : ∀ j, j < n * 3 → w.cell? ⟨g, j, none⟩ = (encG (y :: r))[j]? := fun j hj => by
      rw [← htk, List.getElem?_take, if_pos hj]
      simp [World.cell?, hcell]
    refine ⟨g, fun w' => Try.idxT0 g n cap w' (by omega), ?_, ?_, ?_⟩
    · rw [key _ (by omega)]; rfl
    · rw [key _ (by omega)]; rfl
    · rw [key _ (by omega)]; rfl
/-- What Grow answers. -/
def GrowR (T : Tr) (w : World) (e : Ending) (w' : World) : Prop := ∃ u, e = .returned (treeV (rootK T) u) ∧ TrAt w' T u ∧ Below w.heap.size w w'
set_option maxRecDepth 100000 in
set_option maxHeartbeats 8000000 in
theorem Try.rgrow_any (a : Option Addr) (len cap : Nat) (ts : List Tk) (T : Tr) (w : World) (hT : TkSl w a len cap ts) (hG : GGood ts T) :
    Calls Try.prog 30 #[.slice a len cap] w (GrowR T w) := by
  have HT : Hid (TkSl w a len cap ts) := hT
  have HLEN : Hid (ts.length = len) := hT.hlen
  have HG : Hid (GGood ts T) := hG
  have hln : len ≤ 2048 := by have := hG.few; have := hT.hlen; omega
  have HB0 : Hid _ := below_new w (.cells #[.int .u8 0, .int .u8 0, .slice none 0 0] 54)
  have HR0 : Hid _ := (MapKept.heap_alloc w (.cells #[.int .u8 0, .int .u8 0, .slice none 0 0] 54)).1
  have HZ0 : Hid ((w.alloc (.cells #[.int .u8 0, .int .u8 0, .slice none 0 0] 54)).heap.size = w.heap.size + 1) := by show _ = _; simp
  clear hT hG
  go_enter Try.func30, Try.ntmps30
  go_wp2
  generalize w.alloc (.cells #[.int .u8 0, .int .u8 0, .slice none 0 0] 54) = w0 at *
  go_loopw [3, 4] (fun v i wr => ∃ k : Nat, k ≤ len ∧ i = .int .i64 k ∧ (∃ ys : List Nd, Hid (wr.ownsRow (w.heap.size + 1) 54 3 v ys.length (encG ys)) ∧ Hid (GOns wr (w.heap.size + 1) ys (gS (ts.take k) [])) ∧ Hid (ys.length ≤ k)) ∧ Hid (Below (w.heap.size + 1) w0 wr)) (fun _ i _ => len - (intOf i).toNat)
  case atStart => exact ⟨0, Nat.zero_le _, rfl, ⟨[], ⟨rfl, Or.inl ⟨rfl, rfl⟩⟩, .nil, Nat.le_refl _⟩, Below.refl _ _⟩
  case round =>
    obtain ⟨k, hk, rfl, ⟨ys, HO, HE, HLL⟩, HW⟩ := hrel
    have hll := HLL.out
    have hszr := HW.out.size
    have hz0 := HZ0.out
    have HWW : Hid (Below w.heap.size w wr) := HB0.out.trans (HW.out.mono (by omega))
    by_cases hlt : k < len
    · have hxl : k < ts.length := by have := HLEN.out; omega
      obtain ⟨g1, o1, s1, hi1, hx0, hx1, hg1, _⟩ := (HT.out.up HWW.out).at Try.underlying22 Try.sizeTok k hlt
      have hidx := fun w' => hi1 len w' hlt
      clear hi1
      obtain ⟨⟨n, hn⟩, hle⟩ := HG.out.ok k hxl
      have HNX : Hid (gS (ts.take (k + 1)) [] = gStep (gS (ts.take k) []) ts[k]) := gS_next hxl []
      have htok := HT.out.ok ts[k] (List.getElem_mem hxl)
      generalize ts[k] = t at *
      have hnC := tak_of hn
      have hn2 := takesN_le hn
      have hti : takesI t = (n : Int) := by unfold takesI; rw [hn]
      obtain ⟨op, p⟩ := t
      dsimp only at hx0 hx1 HNX htok
      have hTk := fun w' => Try.takes_any op p w' htok.2
      rw [hti] at hTk
      have hel := HE.out.len
      unfold gStep at HNX
      rw [hnC, ← hel] at HNX
      rw [hnC, ← hel] at hle
      obtain ⟨M, hM⟩ : ∃ M, M = ys.length - n := ⟨_, rfl⟩
      rw [← hM] at HNX
      obtain ⟨av, cv, bv, rfl, hpre, hgt, hcut, hgd⟩ := g_cut HO.out (m := M) (by omega)
      rw [show ys.length - M = n by omega] at hcut hgd
      have hwr : IntKind.i64.wrap ((ys.length : Int) - (n : Int)) = (M : Int) := by rw [IntKind.wrap_i64]; omega
      have hML : M ≤ ys.length := by omega
      have HTL : Hid ((ys.take M).length = M) := by show _ = _; simp; omega
      have HDL : Hid ((ys.drop M).length = n) := by show _ = _; simp; omega
      have HOT : Hid (GOns wr (w.heap.size + 1) (ys.take M) ((gS (ts.take k) []).take M)) := HE.out.take M
      have HOD : Hid (GOns wr (w.heap.size + 1) (ys.drop M) ((gS (ts.take k) []).drop M)) := HE.out.drop M
      have HGT : Hid (GSl wr av M cv (ys.take M)) := hgt
      have HGD : Hid (GSl wr bv n (cv - M) (ys.drop M)) := hgd
      clear hgt hgd hn hnC hle HO HE hM hti hel htok
      generalize ys.take M = tk at *
      generalize ys.drop M = dk at *
      generalize (gS (ts.take k) []).take M = jtk at *
      generalize (gS (ts.take k) []).drop M = jdk at *
      generalize ys.length = L at *
      go_wp2_with fail
      refine (hTk _).mono ?_
      rintro e w1 ⟨rfl, hb1⟩
      have HB1 : Hid (Below wr.heap.size wr w1) := hb1
      have HO1 : Hid (w1.ownsRow w1.heap.size 54 3 (.slice none 0 0) 0 (encG [])) := ⟨rfl, Or.inl ⟨rfl, rfl⟩⟩
      have HGD1 : Hid (GSl w1 bv n (cv - M) dk) := HGD.out.up hb1
      have hdl := HDL.out
      have htl := HTL.out
      have hy0 := kept_cell hx0 hb1
      have hy1 := kept_cell hx1 hb1
      clear hb1 hTk hx0 hx1
      go_wp2_with (at_builtin; refine Try.append_gs rfl _ _ rfl w1.heap.size _ 0 [] dk bv n (cv - M) rfl rfl HO1.out HGD1.out HOD.out.one (by omega) (by omega) (Nat.le_refl _) ?_)
      intro v2 w2 ho2 hg2
      have hb2 : Below w1.heap.size w1 w2 := (Below.refl _ _).grown hg2 (Nat.le_refl _) (fun j e => by cases e)
      have ho2 : w2.ownsRow w1.heap.size 54 3 v2 n (encG dk) := by simpa using ho2
      have HNODE : Hid (TrIn w2 (w.heap.size + 1) (mkT (op, p) jdk) v2) := node_of (op, p) ho2 (by have := HB1.out.size; omega) ((HOD.out.up HB1.out).up hb2) hdl hn2
      have HB2 : Hid (Below wr.heap.size wr w2) := below_step HB1.out hb2
      have hz0 := kept_cell hy0 hb2
      have hz1 := kept_cell hy1 hb2
      obtain ⟨x2, d2, rfl, _⟩ := own_pre ho2 (Nat.le_refl _)
      have HO2 : Hid (w2.ownsRow w2.heap.size 54 3 (.slice none 0 0) 0 (encG [])) := ⟨rfl, Or.inl ⟨rfl, rfl⟩⟩
      have HGT2 : Hid (GSl w2 av M cv tk) := HGT.out.up HB2.out
      clear ho2 hg2 hb2 hy0 hy1 HO1 HGD1
      go_wp2_with (at_builtin; refine Try.append_gs rfl _ _ rfl w2.heap.size _ 0 [] tk av M cv rfl rfl HO2.out HGT2.out HOT.out.one (by omega) (by omega) (Nat.le_refl _) ?_)
      intro v3 w3 ho3 hg3
      have hb3 : Below w2.heap.size w2 w3 := (Below.refl _ _).grown hg3 (Nat.le_refl _) (fun j e => by cases e)
      have ho3 : w3.ownsRow w2.heap.size 54 3 v3 M (encG tk) := by simpa using ho3
      have hu0 := kept_cell hz0 hb3
      have hu1 := kept_cell hz1 hb3
      obtain ⟨x3, d3, rfl, _⟩ := own_pre ho3 (Nat.le_refl _)
      have hb4 := below_step hb3 (below_new w3 (.cells #[.int .u8 (op : Int), .int .u8 (p : Int), .slice x2 n d2] 54))
      have HO4 : Hid ((w3.alloc (.cells #[.int .u8 (op : Int), .int .u8 (p : Int), .slice x2 n d2] 54)).ownsRow w2.heap.size 54 3 (.slice x3 M d3) M (encG tk)) := owns_up ho3 (below_new _ _)
      have hr4 := (MapKept.heap_alloc w3 (.cells #[.int .u8 (op : Int), .int .u8 (p : Int), .slice x2 n d2] 54)).1
      have HG4 : Hid (GSl (w3.alloc (.cells #[.int .u8 (op : Int), .int .u8 (p : Int), .slice x2 n d2] 54)) (some ⟨w3.heap.size, 0, none⟩) 1 1 [((op, p), .slice x2 n d2)]) := ⟨rfl, fun e => (by cases e), fun x hx j u hj => by
        injection hx with hx
        subst hx
        rw [add_plain, Nat.zero_add, cell_row hr4]
        simpa [encG] using hj⟩
      have HB4 : Hid _ := hb4
      have hz4 := hb4.size
      have HGE : Hid _ := own_ge ho3
      have H1 : Hid (∀ u ∈ encG [((op, p), Value.slice x2 n d2)], u.oneCell' = true) := fun u hu => by
        simp [encG] at hu
        rcases hu with rfl | rfl | rfl <;> rfl
      clear ho3 hg3 hb3 hz0 hz1 HO2 HGT2 hr4 hb4
      go_wp2_with (at_builtin; refine Try.append_gs rfl _ _ rfl w2.heap.size _ M tk [((op, p), .slice x2 n d2)] (some ⟨w3.heap.size, 0, none⟩) 1 1 rfl rfl HO4.out HG4.out H1.out (by omega) (by simp) hz4 ?_)
      intro v5 w5 ho5 hg5
      have hb5 : Below w2.heap.size w2 w5 := HB4.out.grown hg5 hz4 HGE.out
      have hbx := below_step HB2.out hb5
      have HF1 : Hid (w5.ownsRow (w.heap.size + 1) 54 3 v5 (tk ++ [((op, p), Value.slice x2 n d2)]).length (encG (tk ++ [((op, p), Value.slice x2 n d2)]))) := by
        show World.ownsRow _ _ _ _ _ _ _
        rw [List.length_append, htl]
        exact owns_base ho5 (by have := HB2.out.size; omega)
      have HF2 : Hid (GOns w5 (w.heap.size + 1) (tk ++ [((op, p), Value.slice x2 n d2)]) (gS (ts.take (k + 1)) [])) := by
        show GOns _ _ _ _
        rw [HNX.out]
        refine GOns.snoc ?_ (TrIn.up hb5 HNODE.out) (HOT.out.up hbx)
        show (op, p) = rootK (mkT (op, p) jdk)
        unfold mkT
        split <;> rfl
      have HF3 : Hid (Below (w.heap.size + 1) w0 w5) := HW.out.trans (hbx.mono (by omega))
      clear ho5 hg5 hb5 hbx HO4 HG4 H1
      go_wp2
      go_roundw
      case rel =>
        refine ⟨k + 1, by omega, by go_num, ⟨tk ++ [((op, p), Value.slice x2 n d2)], HF1, HF2, ?_⟩, HF3⟩
        show _ ≤ _
        rw [List.length_append, htl]; simp; omega
      case measure => simp [intOf] <;> omega
    · obtain rfl : k = len := by omega
      have he := HE.out
      rw [List.take_of_length_le (by have := HLEN.out; omega), HG.out.fin] at he
      obtain ⟨y, rfl, hy0, hy⟩ : ∃ y, ys = [y] ∧ y.1 = rootK T ∧ TrIn wr (w.heap.size + 1) T y.2 := by
        cases he with
        | cons e h t => cases t with | nil => exact ⟨_, rfl, e, h⟩
      obtain ⟨av, cv, rfl, _⟩ := own_pre HO.out (Nat.le_refl _)
      have hget : ∃ g, (∀ w', (Instr.indexAt 52 (.slice av 1 cv) (.int .i64 0)).run Try.prog w' = .ok (.pointer (some ⟨g, 0, none⟩)) w') ∧ NodeAt wr g 0 y.1 y.2 := g_first HO.out
      obtain ⟨g2, hi2, c20, c21, c22⟩ := hget
      obtain ⟨⟨ko, kp⟩, u⟩ := y
      obtain ⟨ua, un, uc, e'⟩ := hy.sl
      dsimp only at hy hy0 e' c20 c21 c22
      subst e'
      have hrr := (HW.out.block w.heap.size (by omega)).trans HR0.out
      have r0 := cell_row hrr 0
      have r1 := cell_row hrr 1
      have r2 := cell_row hrr 2
      have f0 := frozen_of_row _ _ 0 _ _ hrr
      have f1 := frozen_of_row _ _ 1 _ _ hrr
      have f2 := frozen_of_row _ _ 2 _ _ hrr
      simp at r0 r1 r2
      have HRR : Hid _ := hrr
      have HF : Hid (GrowR T w (.returned (.agg #[.int .u8 (ko : Int), .int .u8 (kp : Int), .slice ua un uc])) (((wr.setCell ⟨w.heap.size, 0, none⟩ (.int .u8 (ko : Int))).setCell ⟨w.heap.size, 1, none⟩ (.int .u8 (kp : Int))).setCell ⟨w.heap.size, 2, none⟩ (.slice ua un uc))) := by
        refine ⟨.slice ua un uc, by unfold treeV; rw [← hy0], (((hy.set (Nat.lt_succ_self _)).set (Nat.lt_succ_self _)).set (Nat.lt_succ_self _)).at, ?_⟩
        exact ((HWW.out.setCell (Nat.le_refl _) _).setCell (Nat.le_refl _) _).setCell (Nat.le_refl _) _
      clear hy hy0 hrr HO HE he
      go_wp2
      have f := set3_cells HRR.out (.int .u8 (ko : Int)) (.int .u8 (kp : Int)) (.slice ua un uc)
      refine bodyPost_ret (v := .agg #[.int .u8 (ko : Int), .int .u8 (kp : Int), .slice ua un uc]) (by simp [results, Try.results30, go_sem, f.1, f.2.1, f.2.2]) rfl ?_
      exact HF.out
end Go.Proofs.Ytfgaieefejdkbaa
