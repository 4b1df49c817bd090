/- The document's layer 6: the text of tokens. -/
import Derived.Test.YtfipefbaabkdeaaGreatDoorWSr3
import Derived.Test.YtfipefbaabkdeaaGreatDoorWSh5
namespace Go.Proofs.YtfipefbaabkdeaaGreatDoor
open Go.RowKit Go.Maps

theorem far_none {ns : List Bytes} {ts : List Tk} (h1 : ts.any odd4 = false) (h2 : ts.any (far2 ns) = false) : refS ns ts = 0 := by unfold refS; rw [h1, h2]; rfl
/-- What told answers, of tokens that are one part's. -/
def toldL (ns : List Bytes) (ts : List Tk) : Bytes × Int := if refS ns ts ≠ 0 then ([], refS ns ts) else if 4096 < (textL ns ts).length then ([], 3) else (textL ns ts, 0)
set_option maxRecDepth 100000 in
set_option maxHeartbeats 4000000 in
theorem Tryz.rtold_any (a : Option Addr) (len cap : Nat) (ad : Nat → Addr) (ss : List ByteArray) (a' : Option Addr) (l' cap' : Nat) (ts : List Tk) (w : World) (hS : StrSl Tryz.prog 22 w a len cap ad ss) (hT : TkSl w a' l' cap' ts)
    (hTL : refS (nms ss) ts = 0 → Told (nms ss) ts) :
    Calls Tryz.prog 17 #[.slice a len cap, .slice a' l' cap'] w fun e w' => e = .returned (.tuple #[.string (mkB (toldL (nms ss) ts).1), .int .i64 (toldL (nms ss) ts).2]) ∧ Below w.heap.size w w' := by
  have hb0 := hT.bd
  have hb1 := hT.hcap
  have hb2 := Nat.le_trans hS.hcap hS.bd
  unfold maxLen at hb0 hb2
  have hnl : (nms ss).length = len := by unfold nms; rw [List.length_map]; exact hS.hlen
  have hlen := hT.hlen
  have HS : Hid (StrSl Tryz.prog 22 w a len cap ad ss) := hS
  have HT : Hid (TkSl w a' l' cap' ts) := hT
  have HTL : Hid (refS (nms ss) ts = 0 → Told (nms ss) ts) := hTL
  clear hS hT hTL
  go_enter Tryz.func17, Tryz.ntmps17
  go_wp2
  go_loopw [6] (fun i wr => ∃ k : Nat, k ≤ l' ∧ i = .int .i64 k ∧ Hid ((ts.take k).any odd4 = false) ∧ Hid (Below w.heap.size w wr)) (fun i _ => l' - (intOf i).toNat)
  case atStart => exact ⟨0, Nat.zero_le _, rfl, rfl, Below.refl _ _⟩
  case round =>
    obtain ⟨k, hk, rfl, HU, HB⟩ := hrel
    by_cases hlt : k < l'
    · obtain ⟨g1, o1, s1, hi1, hx0, hx1, hg1, _⟩ := (HT.out.up HB.out).at Tryz.underlying23 Tryz.sizeTok k hlt
      have hidx := fun w' => hi1 l' w' hlt
      clear hi1
      have hxl : k < ts.length := by omega
      have HA : Hid (odd4 ts[k] = false → (ts.take (k + 1)).any odd4 = false) := fun e => by rw [any_next _ hxl, HU.out, e]; rfl
      have HR : Hid (odd4 ts[k] = true → toldL (nms ss) ts = ([], 160)) := fun e => by
        have : refS (nms ss) ts = 160 := by unfold refS; rw [if_pos (List.any_eq_true.2 ⟨_, List.getElem_mem hxl, e⟩)]
        unfold toldL; rw [this, if_pos (by decide)]
      generalize ts[k] = x at *
      obtain ⟨x0, x1⟩ := x
      dsimp only at hx0 hx1
      by_cases h4 : x0 = 4
      · subst h4
        go_wp2
        go_ret2
        exact ⟨by rw [HR.out rfl]; rfl, HB.out⟩
      · by_cases h5 : x0 = 5
        · subst h5
          go_wp2
          go_ret2
          exact ⟨by rw [HR.out rfl]; rfl, HB.out⟩
        · have HA2 : Hid ((ts.take (k + 1)).any odd4 = false) := HA.out (by simp [odd4, h4, h5])
          have e4 : ((x0 : Int) == 4) = false := by simp; omega
          have e5 : ((x0 : Int) == 5) = false := by simp; omega
          clear HA HR
          go_wp2
          go_roundw
          case rel => exact ⟨k + 1, by omega, by go_num, HA2, HB⟩
          case measure => simp [intOf]; omega
    · have HO : Hid (ts.any odd4 = false) := by
        have := HU.out
        rw [List.take_of_length_le (by omega)] at this
        exact this
      clear HU
      go_wp2
      go_loopw [7] (fun i wr => ∃ k : Nat, k ≤ l' ∧ i = .int .i64 k ∧ Hid ((ts.take k).any (far2 (nms ss)) = false) ∧ Hid (Below w.heap.size w wr)) (fun i _ => l' - (intOf i).toNat)
      case atStart => exact ⟨0, Nat.zero_le _, rfl, rfl, HB⟩
      case round =>
        obtain ⟨k2, hk2, rfl, HU, HB2⟩ := hrel
        by_cases hlt2 : k2 < l'
        · obtain ⟨g1, o1, s1, hi1, hx0, hx1, hg1, _⟩ := (HT.out.up HB2.out).at Tryz.underlying23 Tryz.sizeTok k2 hlt2
          have hidx := fun w' => hi1 l' w' hlt2
          clear hi1
          have hxl : k2 < ts.length := by omega
          have HA : Hid (far2 (nms ss) ts[k2] = false → (ts.take (k2 + 1)).any (far2 (nms ss)) = false) := fun e => by rw [any_next _ hxl, HU.out, e]; rfl
          have HR : Hid (far2 (nms ss) ts[k2] = true → toldL (nms ss) ts = ([], 2)) := fun e => by
            have : refS (nms ss) ts = 2 := by unfold refS; rw [HO.out, if_neg (by decide), if_pos (List.any_eq_true.2 ⟨_, List.getElem_mem hxl, e⟩)]
            unfold toldL; rw [this, if_pos (by decide)]
          have hok := HT.out.ok _ (List.getElem_mem hxl)
          have HX : Hid (far2 (nms ss) ts[k2] = (decide (ts[k2].1 = 2) && decide (len ≤ ts[k2].2))) := by show _ = _; unfold far2; rw [hnl]
          generalize ts[k2] = x at *
          obtain ⟨x0, x1⟩ := x
          dsimp only at hx0 hx1 hok HX
          by_cases h2 : x0 = 2
          · subst h2
            by_cases hp : len ≤ x1
            · have hp' : (len : Int) ≤ (x1 : Int) := by omega
              have HR2 : Hid (toldL (nms ss) ts = ([], 2)) := HR.out (by rw [HX.out]; simp [hp])
              clear HA HR HX
              go_wp2
              go_ret2
              exact ⟨by rw [HR2.out]; rfl, HB2.out⟩
            · have hp' : ¬ (len : Int) ≤ (x1 : Int) := by omega
              have HA2 : Hid ((ts.take (k2 + 1)).any (far2 (nms ss)) = false) := HA.out (by rw [HX.out]; simp [hp])
              clear HA HR HX
              go_wp2
              go_roundw
              case rel => exact ⟨k2 + 1, by omega, by go_num, HA2, HB2⟩
              case measure => simp [intOf]; omega
          · have HA2 : Hid ((ts.take (k2 + 1)).any (far2 (nms ss)) = false) := HA.out (by rw [HX.out]; simp [h2])
            have e2 : ((x0 : Int) == 2) = false := by simp; omega
            clear HA HR HX
            go_wp2
            go_roundw
            case rel => exact ⟨k2 + 1, by omega, by go_num, HA2, HB2⟩
            case measure => simp [intOf]; omega
        · have HF : Hid (ts.any (far2 (nms ss)) = false) := by
            have := HU.out
            rw [List.take_of_length_le (by omega)] at this
            exact this
          have HRS : Hid (refS (nms ss) ts = 0) := far_none HO.out HF.out
          have HTO : Hid (Told (nms ss) ts) := HTL.out HRS.out
          have hl5 := HTO.out.few
          clear HU HO HF HB
          go_wp2
          go_loopw [9, 8] (fun i v wr => ∃ k : Nat, k ≤ l' ∧ i = .int .i64 k ∧ Hid (wr.ownsRow w.heap.size 75 2 v (stS (nms ss) (ts.take k) []).length (encX .i64 (stS (nms ss) (ts.take k) []))) ∧ Hid (Below w.heap.size w wr)) (fun i _ _ => l' - (intOf i).toNat)
          case atStart => exact ⟨0, Nat.zero_le _, rfl, ⟨rfl, Or.inl ⟨rfl, rfl⟩⟩, HB2⟩
          case round =>
            obtain ⟨k, hk, rfl, HK, HB⟩ := hrel
            by_cases hlt : k < l'
            · obtain ⟨g1, o1, s1, hi1, hx0, hx1, hg1, _⟩ := (HT.out.up HB.out).at Tryz.underlying23 Tryz.sizeTok k hlt
              have hidx := fun w' => hi1 l' w' hlt
              clear hi1
              have hxl : k < ts.length := by omega
              have hokk := HT.out.ok _ (List.getElem_mem hxl)
              obtain ⟨htok, n, htn, hnl⟩ := HTO.out.tok k hxl
              obtain ⟨hst1, hst2⟩ := HTO.out.st k
              have HNX : Hid (stS (nms ss) (ts.take (k + 1)) [] = stepS (nms ss) (stS (nms ss) (ts.take k) []) ts[k]) := stS_next _ hxl
              generalize stS (nms ss) (ts.take k) [] = st at *
              generalize ts[k] = x at *
              obtain ⟨op, p⟩ := x
              have hop : op ≤ 23 := takes_op htn
              dsimp only at hx0 hx1 hokk
              obtain ⟨_, va, vc, vg, hv, hvn, hvg, hcut, hcell⟩ := own_cut HK.out
              subst hv
              obtain ⟨⟨ca, hsl1, htx⟩, hsl2⟩ := hcut (st.length - n) (Nat.sub_le _ _)
              have hdl : (st.drop (st.length - n)).length = n := by simp; omega
              rw [show st.length - (st.length - n) = n by omega] at hsl1 htx
              have HNY : Hid (stS (nms ss) (ts.take (k + 1)) [] = st.take (st.length - n) ++ [(putT (nms ss) op p (st.drop (st.length - n)), strN op)]) := by
                have e1 : takesC (op, p) = n := by unfold takesC; rw [htn]; rfl
                show _ = _
                rw [HNX.out, stepS, e1]
              have hTk := fun w' => Tryz.takes_any op p w' (by omega)
              have hti : takesI (op, p) = (n : Int) := by unfold takesI; rw [htn]
              rw [hti] at hTk
              have hPt := fun w' (hw : Below wr.heap.size wr w') => Tryz.rput6_any a len cap ad ss ca n (vc - (st.length - n)) vg (2 * (st.length - n)) op p n (st.drop (st.length - n)) w' ((HS.out.up HB.out).up hw) htn hdl htok (fun z hz => hst2 z (List.mem_of_mem_drop hz)) (htx.up hw)
              have hSt := fun w' => Tryz.rstr_any op hop w'
              obtain ⟨M, hM⟩ : ∃ M, M = st.length - n := ⟨_, rfl⟩
              rw [← hM] at hsl1 hsl2 hPt HNY
              have hwM : IntKind.i64.wrap ((st.length : Int) - (n : Int)) = (M : Int) := by rw [IntKind.wrap_i64]; omega
              have hMs : M ≤ st.length := by omega
              clear htok hst2 HNX hdl htx hcut hti hM
              generalize putT (nms ss) op p (st.drop M) = tx at *
              obtain ⟨ti, hti, hz0, hz1, hz2⟩ := info_parts Tryz.infoTx
              go_wp2_with fail
              refine (hTk _).mono ?_
              rintro e w3 ⟨rfl, hb3⟩
              have q0 : w3.cell? ⟨g1, o1, s1⟩ = some (.int .u8 (op : Int)) := kept_cell hx0 hb3
              have q1 : w3.cell? ⟨g1, o1 + 1, none⟩ = some (.int .u8 (p : Int)) := kept_cell hx1 hb3
              have hk0 : w3.drew.cell? ⟨g1, o1, s1⟩ = some (.int .u8 (op : Int)) ∧ w3.drew.cell? ⟨g1, o1 + 1, none⟩ = some (.int .u8 (p : Int)) := ⟨q0, q1⟩
              have hk1 : ∀ v0 v1 : World, (v0.cell? ⟨g1, o1, s1⟩ = some (.int .u8 (op : Int)) ∧ v0.cell? ⟨g1, o1 + 1, none⟩ = some (.int .u8 (p : Int))) → Below v0.heap.size v0 v1 → (v1.cell? ⟨g1, o1, s1⟩ = some (.int .u8 (op : Int)) ∧ v1.cell? ⟨g1, o1 + 1, none⟩ = some (.int .u8 (p : Int))) := fun v0 v1 h hb => ⟨kept_cell h.1 hb, kept_cell h.2 hb⟩
              have hglt : g1 < w3.heap.size := World.block_lt_of_cell? _ _ q0
              have hk2 : ∀ v0 v1 : World, (v0.cell? ⟨g1, o1, s1⟩ = some (.int .u8 (op : Int)) ∧ v0.cell? ⟨g1, o1 + 1, none⟩ = some (.int .u8 (p : Int))) → Below w3.heap.size v0 v1 → (v1.cell? ⟨g1, o1, s1⟩ = some (.int .u8 (op : Int)) ∧ v1.cell? ⟨g1, o1 + 1, none⟩ = some (.int .u8 (p : Int))) := fun v0 v1 h hb => ⟨(hb.cell hglt).trans h.1, (hb.cell hglt).trans h.2⟩
              have hk0a : ((w3.alloc (.cells #[.string ⟨#[]⟩, .int .i64 0] 75)).drew.cell? ⟨g1, o1, s1⟩ = some (.int .u8 (op : Int)) ∧ (w3.alloc (.cells #[.string ⟨#[]⟩, .int .i64 0] 75)).drew.cell? ⟨g1, o1 + 1, none⟩ = some (.int .u8 (p : Int))) := hk2 w3 _ ⟨q0, q1⟩ (below_new w3 _).drew
              have hbd : Below wr.heap.size wr w3.drew := hb3.drew
              have hba : Below wr.heap.size wr (w3.alloc (.cells #[.string ⟨#[]⟩, .int .i64 0] 75)).drew := (below_step hb3 (below_new _ _)).drew
              have hra : (w3.alloc (.cells #[.string ⟨#[]⟩, .int .i64 0] 75)).drew.heap[w3.heap.size]? = some (.cells #[.string ⟨#[]⟩, .int .i64 0] 75 (0, 0)) := (MapKept.heap_alloc w3 _).1
              have hr4f : ∀ W : World, Below (w3.alloc (.cells #[.string ⟨#[]⟩, .int .i64 0] 75)).drew.heap.size (w3.alloc (.cells #[.string ⟨#[]⟩, .int .i64 0] 75)).drew W → W.heap[w3.heap.size]? = some (.cells #[.string ⟨#[]⟩, .int .i64 0] 75 (0, 0)) ∧ W.cell? ⟨w3.heap.size, 0, none⟩ = some (.string ⟨#[]⟩) ∧ W.cell? ⟨w3.heap.size, 1, none⟩ = some (.int .i64 0) ∧ W.frozen? ⟨w3.heap.size, 0, none⟩ = false ∧ W.frozen? ⟨w3.heap.size, 1, none⟩ = false := fun W hW => by
                have hr := (hW.block _ (Array.getElem?_eq_some_iff.1 hra).1).trans hra
                exact ⟨hr, cell_row hr 0, cell_row hr 1, frozen_of_row W _ 0 _ _ hr, frozen_of_row W _ 1 _ _ hr⟩
              have hw3 := hb3.size
              clear hTk hx0 hx1
              go_upto_region 16 with fail
              go_region_held3 (fun w' => w'.cell? ⟨g1, o1, s1⟩ = some (.int .u8 (op : Int)) ∧ w'.cell? ⟨g1, o1 + 1, none⟩ = some (.int .u8 (p : Int))) (first | exact hk0 | exact hk0a | exact iv4 | exact hk1 _ _ iv4 (below_new _ _) | exact hk2 _ _ iv4 (below_set2 (Below.refl _ _) (Nat.le_refl _) _ _) | exact hk2 _ _ iv4 ((Below.refl _ _).setCell (Nat.le_refl _) _))
                (first
                  | (go_at_call 33; with_reducible refine (hPt _ hbd).mono ?_; rintro e w4 ⟨rfl, hb4⟩; have hB4 := below_step hbd hb4; have iv4 := hk1 _ _ hk0 hb4)
                  | (go_at_call 33; with_reducible refine (hPt _ hba).mono ?_; rintro e w4 ⟨rfl, hb4⟩; have hB4 := below_step hba hb4; have iv4 := hk1 _ _ hk0a hb4; obtain ⟨hr4, y0, y1, z0, z1⟩ := hr4f w4 hb4)
                  | (go_at_call 34; with_reducible refine (hSt _).mono ?_; rintro e w5 ⟨rfl, hw5⟩; obtain rfl := hw5.symm))
              · have HBW : Hid (Below wr.heap.size wr (w4.alloc (.cells #[.string (mkB tx), .int .i64 (strN op : Int)] 75))) := below_step hB4 (below_new _ _)
                have hrw := (MapKept.heap_alloc w4 (.cells #[.string (mkB tx), .int .i64 (strN op : Int)] 75)).1
                have hT0 : (w4.alloc (.cells #[.string (mkB tx), .int .i64 (strN op : Int)] 75)).cell? ⟨w4.heap.size, 0, none⟩ = some (.string (mkB tx)) := cell_row hrw 0
                have hT1 : (w4.alloc (.cells #[.string (mkB tx), .int .i64 (strN op : Int)] 75)).cell? ⟨w4.heap.size, 1, none⟩ = some (.int .i64 (strN op : Int)) := cell_row hrw 1
                clear hk0 hk1 hk0a hk2 iv4 hglt hr4f hbd hba hra hPt hSt hb4 hB4 hrw q0 q1 hb3 hw3 hidx hsl1
                have HKW : Hid ((w4.alloc (.cells #[.string (mkB tx), .int .i64 (strN op : Int)] 75)).ownsRow w.heap.size 75 2 (.slice va st.length vc) st.length (encX .i64 st)) := owns_up HK.out HBW.out
                have hWs := HBW.out.size
                generalize w4.alloc (.cells #[.string (mkB tx), .int .i64 (strN op : Int)] 75) = W at *
                generalize w4.heap.size = gt at *
                have hO5 : ∀ b, va = some b → ∀ j u, (encX .i64 (st.take M))[j]? = some u → (W.alloc (.cells #[.string (mkB tx), .int .i64 (strN op : Int)] 75)).drew.cell? (b.add j) = some u := fun b hb j u hj => by
                  refine kept_cell ?_ (below_new W (.cells #[.string (mkB tx), .int .i64 (strN op : Int)] 75)).drew
                  refine kept_cell (hcell b hb j u ?_) HBW.out
                  rw [← encX_take] at hj
                  rw [List.getElem?_take] at hj
                  split at hj
                  · exact hj
                  · cases hj
                have hnew : (W.alloc (.cells #[.string (mkB tx), .int .i64 (strN op : Int)] 75)).drew.heap[W.heap.size]? = some (.cells #[.string (mkB tx), .int .i64 (strN op : Int)] 75 (0, 0)) := (MapKept.heap_alloc W _).1
                have hc5 : ∀ j u, ([.string (mkB tx), .int .i64 (strN op : Int)] : List Value)[j]? = some u → (W.alloc (.cells #[.string (mkB tx), .int .i64 (strN op : Int)] 75)).drew.cell? ((⟨W.heap.size, 0, none⟩ : Addr).add j) = some u := fun j u hj => by
                  rw [add_plain, Nat.zero_add, cell_row hnew]; simpa using hj
                have h1c : ∀ u ∈ ([.string (mkB tx), .int .i64 (strN op : Int)] : List Value), u.oneCell' = true := fun u hu => by
                  simp at hu; rcases hu with rfl | rfl <;> rfl
                have hlo5 : (encX .i64 (st.take M)).length = M * 2 := by rw [encX_len]; simp; omega
                have hno5 : va = none → M = 0 ∧ M = 0 := fun h => by have := hvn h; omega
                have hf5 : M < M + 1 := by omega
                have hb5 : M + 1 ≤ maxLen := by unfold maxLen; omega
                have hb6 : (M + 1) * 24 ≤ 140737488355328 := by omega
                go_upto_region 17 with fail
                go_region_law (refine step_append_grows rfl (.tmp 88) (.tmp 90) 70 rfl 75 ti _ 2 24 Tryz.underlying70 hti hz0 hz1 hz2 rfl (by decide) va M M (encX .i64 (st.take M)) rfl hno5 hlo5 hO5 ⟨W.heap.size, 0, none⟩ 1 1 [.string (mkB tx), .int .i64 (strN op : Int)] rfl rfl hc5 h1c hf5 hb5 hb6 ?_; intro v6 w6 hown6 hgr6)
                all_goals
                  have HB6 : Hid (Below w.heap.size w w6) := by
                    have e2 : Below w.heap.size w (W.alloc (.cells #[.string (mkB tx), .int .i64 (strN op : Int)] 75)).drew := below_step (below_step HB.out HBW.out) (below_new W _).drew
                    exact e2.grown hgr6 e2.size (fun j e => by cases e)
                  have HK6 : Hid (w6.ownsRow w.heap.size 75 2 v6 (stS (nms ss) (ts.take (k + 1)) []).length (encX .i64 (stS (nms ss) (ts.take (k + 1)) []))) := by
                    show World.ownsRow _ _ _ _ _ _ _
                    rw [HNY.out, encX_append, List.length_append, List.length_take]
                    have hle : min M st.length = M := by omega
                    rw [hle]
                    refine owns_base hown6 ?_
                    have := HB.out.size
                    simp; omega
                  clear hO5 hnew hc5 h1c hown6 hgr6 hT0 hT1 hsl2
                  go_wp2
                  go_roundw
                  case rel => exact ⟨k + 1, by omega, by go_num, HK6, HB6⟩
                  case measure => simp [intOf]; omega
              · have HBW : Hid (Below wr.heap.size wr (w4.alloc (.cells #[.string (mkB tx), .int .i64 (strN op : Int)] 75))) := below_step hB4 (below_new _ _)
                have hrw := (MapKept.heap_alloc w4 (.cells #[.string (mkB tx), .int .i64 (strN op : Int)] 75)).1
                have hT0 : (w4.alloc (.cells #[.string (mkB tx), .int .i64 (strN op : Int)] 75)).cell? ⟨w4.heap.size, 0, none⟩ = some (.string (mkB tx)) := cell_row hrw 0
                have hT1 : (w4.alloc (.cells #[.string (mkB tx), .int .i64 (strN op : Int)] 75)).cell? ⟨w4.heap.size, 1, none⟩ = some (.int .i64 (strN op : Int)) := cell_row hrw 1
                clear hk0 hk1 hk0a hk2 iv4 hglt hr4f hbd hba hra hPt hSt hb4 hB4 hrw q0 q1 hb3 hw3 hidx hsl1
                have HKW : Hid ((w4.alloc (.cells #[.string (mkB tx), .int .i64 (strN op : Int)] 75)).ownsRow w.heap.size 75 2 (.slice va st.length vc) st.length (encX .i64 st)) := owns_up HK.out HBW.out
                have hWs := HBW.out.size
                generalize w4.alloc (.cells #[.string (mkB tx), .int .i64 (strN op : Int)] 75) = W at *
                generalize w4.heap.size = gt at *
                have hO5 : ∀ b, va = some b → ∀ j u, (encX .i64 (st.take M))[j]? = some u → (W.alloc (.cells #[.string (mkB tx), .int .i64 (strN op : Int)] 75)).drew.cell? (b.add j) = some u := fun b hb j u hj => by
                  refine kept_cell ?_ (below_new W (.cells #[.string (mkB tx), .int .i64 (strN op : Int)] 75)).drew
                  refine kept_cell (hcell b hb j u ?_) HBW.out
                  rw [← encX_take] at hj
                  rw [List.getElem?_take] at hj
                  split at hj
                  · exact hj
                  · cases hj
                have hnew : (W.alloc (.cells #[.string (mkB tx), .int .i64 (strN op : Int)] 75)).drew.heap[W.heap.size]? = some (.cells #[.string (mkB tx), .int .i64 (strN op : Int)] 75 (0, 0)) := (MapKept.heap_alloc W _).1
                have hc5 : ∀ j u, ([.string (mkB tx), .int .i64 (strN op : Int)] : List Value)[j]? = some u → (W.alloc (.cells #[.string (mkB tx), .int .i64 (strN op : Int)] 75)).drew.cell? ((⟨W.heap.size, 0, none⟩ : Addr).add j) = some u := fun j u hj => by
                  rw [add_plain, Nat.zero_add, cell_row hnew]; simpa using hj
                have h1c : ∀ u ∈ ([.string (mkB tx), .int .i64 (strN op : Int)] : List Value), u.oneCell' = true := fun u hu => by
                  simp at hu; rcases hu with rfl | rfl <;> rfl
                have hlo5 : (encX .i64 (st.take M)).length = M * 2 := by rw [encX_len]; simp; omega
                have hno5 : va = none → M = 0 ∧ M = 0 := fun h => by have := hvn h; omega
                have hf5 : M < M + 1 := by omega
                have hb5 : M + 1 ≤ maxLen := by unfold maxLen; omega
                have hb6 : (M + 1) * 24 ≤ 140737488355328 := by omega
                go_upto_region 17 with fail
                go_region_law (refine step_append_grows rfl (.tmp 88) (.tmp 90) 70 rfl 75 ti _ 2 24 Tryz.underlying70 hti hz0 hz1 hz2 rfl (by decide) va M M (encX .i64 (st.take M)) rfl hno5 hlo5 hO5 ⟨W.heap.size, 0, none⟩ 1 1 [.string (mkB tx), .int .i64 (strN op : Int)] rfl rfl hc5 h1c hf5 hb5 hb6 ?_; intro v6 w6 hown6 hgr6)
                all_goals
                  have HB6 : Hid (Below w.heap.size w w6) := by
                    have e2 : Below w.heap.size w (W.alloc (.cells #[.string (mkB tx), .int .i64 (strN op : Int)] 75)).drew := below_step (below_step HB.out HBW.out) (below_new W _).drew
                    exact e2.grown hgr6 e2.size (fun j e => by cases e)
                  have HK6 : Hid (w6.ownsRow w.heap.size 75 2 v6 (stS (nms ss) (ts.take (k + 1)) []).length (encX .i64 (stS (nms ss) (ts.take (k + 1)) []))) := by
                    show World.ownsRow _ _ _ _ _ _ _
                    rw [HNY.out, encX_append, List.length_append, List.length_take]
                    have hle : min M st.length = M := by omega
                    rw [hle]
                    refine owns_base hown6 ?_
                    have := HB.out.size
                    simp; omega
                  clear hO5 hnew hc5 h1c hown6 hgr6 hT0 hT1 hsl2
                  go_wp2
                  go_roundw
                  case rel => exact ⟨k + 1, by omega, by go_num, HK6, HB6⟩
                  case measure => simp [intOf]; omega
              · have k2 := heap_setCell_same w4 w3.heap.size 0 _ _ (.string (mkB tx)) hr4
                have k3 := heap_setCell_same _ w3.heap.size 1 _ _ (.int .i64 (strN op : Int)) k2
                have HBW : Hid (Below wr.heap.size wr ((w4.setCell ⟨w3.heap.size, 0, none⟩ (.string (mkB tx))).setCell ⟨w3.heap.size, 1, none⟩ (.int .i64 (strN op : Int)))) := below_set2 hB4 hw3 _ _
                have hT0 : ((w4.setCell ⟨w3.heap.size, 0, none⟩ (.string (mkB tx))).setCell ⟨w3.heap.size, 1, none⟩ (.int .i64 (strN op : Int))).cell? ⟨w3.heap.size, 0, none⟩ = some (.string (mkB tx)) := cell_row k3 0
                have hT1 : ((w4.setCell ⟨w3.heap.size, 0, none⟩ (.string (mkB tx))).setCell ⟨w3.heap.size, 1, none⟩ (.int .i64 (strN op : Int))).cell? ⟨w3.heap.size, 1, none⟩ = some (.int .i64 (strN op : Int)) := cell_row k3 1
                clear hk0 hk1 hk0a hk2 iv4 hglt hr4f hbd hba hra hPt hSt hb4 hB4 q0 q1 hb3 hw3 hidx hsl1 k2 k3 hr4 y0 y1 z0 z1
                have HKW : Hid (((w4.setCell ⟨w3.heap.size, 0, none⟩ (.string (mkB tx))).setCell ⟨w3.heap.size, 1, none⟩ (.int .i64 (strN op : Int))).ownsRow w.heap.size 75 2 (.slice va st.length vc) st.length (encX .i64 st)) := owns_up HK.out HBW.out
                have hWs := HBW.out.size
                generalize (w4.setCell ⟨w3.heap.size, 0, none⟩ (.string (mkB tx))).setCell ⟨w3.heap.size, 1, none⟩ (.int .i64 (strN op : Int)) = W at *
                generalize w3.heap.size = gt at *
                have hO5 : ∀ b, va = some b → ∀ j u, (encX .i64 (st.take M))[j]? = some u → (W.alloc (.cells #[.string (mkB tx), .int .i64 (strN op : Int)] 75)).drew.cell? (b.add j) = some u := fun b hb j u hj => by
                  refine kept_cell ?_ (below_new W (.cells #[.string (mkB tx), .int .i64 (strN op : Int)] 75)).drew
                  refine kept_cell (hcell b hb j u ?_) HBW.out
                  rw [← encX_take] at hj
                  rw [List.getElem?_take] at hj
                  split at hj
                  · exact hj
                  · cases hj
                have hnew : (W.alloc (.cells #[.string (mkB tx), .int .i64 (strN op : Int)] 75)).drew.heap[W.heap.size]? = some (.cells #[.string (mkB tx), .int .i64 (strN op : Int)] 75 (0, 0)) := (MapKept.heap_alloc W _).1
                have hc5 : ∀ j u, ([.string (mkB tx), .int .i64 (strN op : Int)] : List Value)[j]? = some u → (W.alloc (.cells #[.string (mkB tx), .int .i64 (strN op : Int)] 75)).drew.cell? ((⟨W.heap.size, 0, none⟩ : Addr).add j) = some u := fun j u hj => by
                  rw [add_plain, Nat.zero_add, cell_row hnew]; simpa using hj
                have h1c : ∀ u ∈ ([.string (mkB tx), .int .i64 (strN op : Int)] : List Value), u.oneCell' = true := fun u hu => by
                  simp at hu; rcases hu with rfl | rfl <;> rfl
                have hlo5 : (encX .i64 (st.take M)).length = M * 2 := by rw [encX_len]; simp; omega
                have hno5 : va = none → M = 0 ∧ M = 0 := fun h => by have := hvn h; omega
                have hf5 : M < M + 1 := by omega
                have hb5 : M + 1 ≤ maxLen := by unfold maxLen; omega
                have hb6 : (M + 1) * 24 ≤ 140737488355328 := by omega
                go_upto_region 17 with fail
                go_region_law (refine step_append_grows rfl (.tmp 88) (.tmp 90) 70 rfl 75 ti _ 2 24 Tryz.underlying70 hti hz0 hz1 hz2 rfl (by decide) va M M (encX .i64 (st.take M)) rfl hno5 hlo5 hO5 ⟨W.heap.size, 0, none⟩ 1 1 [.string (mkB tx), .int .i64 (strN op : Int)] rfl rfl hc5 h1c hf5 hb5 hb6 ?_; intro v6 w6 hown6 hgr6)
                all_goals
                  have HB6 : Hid (Below w.heap.size w w6) := by
                    have e2 : Below w.heap.size w (W.alloc (.cells #[.string (mkB tx), .int .i64 (strN op : Int)] 75)).drew := below_step (below_step HB.out HBW.out) (below_new W _).drew
                    exact e2.grown hgr6 e2.size (fun j e => by cases e)
                  have HK6 : Hid (w6.ownsRow w.heap.size 75 2 v6 (stS (nms ss) (ts.take (k + 1)) []).length (encX .i64 (stS (nms ss) (ts.take (k + 1)) []))) := by
                    show World.ownsRow _ _ _ _ _ _ _
                    rw [HNY.out, encX_append, List.length_append, List.length_take]
                    have hle : min M st.length = M := by omega
                    rw [hle]
                    refine owns_base hown6 ?_
                    have := HB.out.size
                    simp; omega
                  clear hO5 hnew hc5 h1c hown6 hgr6 hT0 hT1 hsl2
                  go_wp2
                  go_roundw
                  case rel => exact ⟨k + 1, by omega, by go_num, HK6, HB6⟩
                  case measure => simp [intOf]; omega
            · obtain ⟨sz, hfs, hfl⟩ := HTO.out.fin
              have hk' : ts.take k = ts := List.take_of_length_le (by omega)
              have HK2 := HK.out
              rw [hk', hfs] at HK2
              obtain ⟨g, cp, hv, _, hcp, _, _, hcs⟩ := own_tx HK2 (by simp)
              subst hv
              have hc0 := (hcs 0 (by simp)).1
              have hi0 : ∀ w', (Instr.indexAt 70 (.slice (some ⟨g, 0, none⟩) 1 cp) (.int .i64 0)).run Tryz.prog w' = .ok (.pointer (some ⟨g, 0, none⟩)) w' := fun w' => idx_of2 Tryz.underlying70 Tryz.sizeTx (g := g) (cap := cp) (n := 1) 0 w' (by omega)
              dsimp only [List.length_cons, List.length_nil, List.getElem_cons_zero, Nat.mul_zero] at hc0 hcp ⊢
              have hsz := mkB_size (textL (nms ss) ts)
              clear hcs HK HK2 hfs HTO HTL
              by_cases hq : 4096 < (textL (nms ss) ts).length
              · have hq' : (4096 : Int) < ((mkB (textL (nms ss) ts)).size : Int) := by omega
                have HL : Hid (toldL (nms ss) ts = ([], 3)) := by show _ = _; unfold toldL; rw [HRS.out, if_neg (by decide), if_pos hq]
                clear hq
                generalize mkB (textL (nms ss) ts) = tb at *
                go_wp2
                go_ret2
                exact ⟨by rw [HL.out]; rfl, HB.out⟩
              · have hq' : ¬ (4096 : Int) < ((mkB (textL (nms ss) ts)).size : Int) := by omega
                have HL : Hid (toldL (nms ss) ts = (textL (nms ss) ts, 0)) := by show _ = _; unfold toldL; rw [HRS.out, if_neg (by decide), if_neg hq]
                clear hq
                generalize htb : mkB (textL (nms ss) ts) = tb at *
                go_wp2
                go_ret2
                exact ⟨by rw [HL.out, ← htb]; rfl, HB.out⟩
end Go.Proofs.YtfipefbaabkdeaaGreatDoor
