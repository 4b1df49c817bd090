/- Package table: Below. -/
import Derived.Test.YtbfhbpibpmgblaaWTmA
import Derived.Test.YtbfhbpibpmgblaaKtS
namespace Go.Proofs.Ytbfhbpibpmgblaa
open Go.RowKit Go.Maps

/-- Block g: a row of marks. -/
def BoAt (w : World) (g : Nat) (bs : List Bool) : Prop := w.heap[g]? = some (.cells (bs.map Value.bool).toArray 4 (0, 0))
theorem BoAt.lt {w : World} {g : Nat} {bs : List Bool} (h : BoAt w g bs) : g < w.heap.size := (Array.getElem?_eq_some_iff.1 h).1
theorem BoAt.up {w w' : World} {g : Nat} {bs : List Bool} (h : BoAt w g bs) (hb : Below w.heap.size w w') : BoAt w' g bs := (hb.block g h.lt).trans h
theorem BoAt.cell {w : World} {g : Nat} {bs : List Bool} (h : BoAt w g bs) {i : Nat} (hi : i < bs.length) : w.cell? ⟨g, i, none⟩ = some (.bool (bs.getD i false)) := by
  unfold BoAt at h; simp [World.cell?, h, List.getD_eq_getElem?_getD, List.getElem?_eq_getElem hi]
theorem BoAt.fz {w : World} {g : Nat} {bs : List Bool} (h : BoAt w g bs) (i : Nat) : w.frozen? ⟨g, i, none⟩ = false := frozen_of_row w g i _ _ h
theorem BoAt.set {w : World} {g : Nat} {bs : List Bool} (h : BoAt w g bs) (i : Nat) (b : Bool) : BoAt (w.setCell ⟨g, i, none⟩ (.bool b)) g (bs.set i b) := by
  have := heap_setCell_same w g i _ _ (.bool b) h
  unfold BoAt; rw [this]; simp [List.map_set]
theorem Try.sizeBoT : (Try.prog.info? 4).map (·.size) = some 1 := by kernel_rfl
theorem Try.infoBoT : (Try.prog.info? 4).map (fun i => (i.zero, i.size, i.bytes)) = some (some (.bool false), 1, 1) := by kernel_rfl
theorem Try.idxBT (g n k : Nat) (w : World) (hk : k < n) : (Instr.indexAt 78 (.slice (some ⟨g, 0, none⟩) n n) (.int .i64 (k : Int))).run Try.prog w = .ok (.pointer (some ⟨g, k, none⟩)) w := by
  have := idx_of (P := Try.prog) (T := 78) (e := 4) Try.underlying78 Try.sizeBoT (a := some ⟨g, 0, none⟩) (cap := n) (n := n) (by simp) k w hk
  simpa [adOf, add_plain] using this
theorem madeB1 (v : Value) (n : Nat) : madeCells #[v] n = (List.replicate n v).toArray := by
  apply Array.ext_getElem?
  intro i
  by_cases h : i < n
  · simp [madeCells, h, Nat.mod_one]
  · simp [madeCells, h]
theorem Try.makeBT (l : Nat) (hb : l ≤ 1000000) (w : World) :
    (Instr.makeSlice 78 (.int .i64 (l : Int)) (.int .i64 (l : Int))).run Try.prog w = .ok (.slice (some ⟨w.heap.size, 0, none⟩) l l) (w.alloc (.cells (Array.replicate l (Value.bool false)) 4)) := by
  obtain ⟨i, hi, hz0, hz1, hz2⟩ := info_parts Try.infoBoT
  have := run_make (P := Try.prog) w 78 4 i (.bool false) Try.underlying78 hi hz0 .i64 .i64 (l : Int) (l : Int) (by omega) (by omega) (by rw [hz2]; omega) (by omega)
  rw [this, hz1]
  simp only [Int.toNat_natCast, Nat.mul_one]
  have e : (Value.bool false).cells = #[.bool false] := rfl
  rw [e, madeB1]
  simp
theorem BoAt.made (w : World) (l : Nat) : BoAt (w.alloc (.cells (Array.replicate l (Value.bool false)) 4)) w.heap.size (List.replicate l false) := by
  unfold BoAt
  rw [(MapKept.heap_alloc w _).1]
  simp
def markR (B : List Bool) (xa xb : Int) : Nat → List Bool
  | 0 => B
  | 1 => mark1 B xa
  | _ => mark1 (mark1 B xa) xb
theorem markR_len (B : List Bool) (xa xb : Int) (r : Nat) : (markR B xa xb r).length = B.length := by
  match r with
  | 0 => rfl
  | 1 => exact mark1_len _ _
  | _ + 2 => show (mark1 (mark1 B xa) xb).length = _; rw [mark1_len, mark1_len]
theorem getD_true {B : List Bool} {k : Nat} : B.getD k false = true ↔ B[k]? = some true := by
  rw [List.getD_eq_getElem?_getD]
  cases B[k]? with
  | none => simp
  | some b => cases b <;> simp
set_option maxRecDepth 100000 in
set_option maxHeartbeats 8000000 in
theorem Try.tbelow_any {w : World} {F : Nat → Prop} {t : Nat} {items : List It} (n : Nat) (h : TabI w F t items) (hlow : Low items) (hn : n < items.length) :
    Calls Try.prog 21 #[.pointer (some ⟨t, 0, none⟩), .int .i64 (n : Int)] w fun e w' => ∃ a cap, e = .returned (.tuple #[.slice a (belowL items n).length cap, .int .i64 0]) ∧ w'.ownsRow w.heap.size 3 1 (.slice a (belowL items n).length cap) (belowL items n).length ((belowL items n).map (Value.int .i64)) ∧ Below w.heap.size w w' := by
  obtain ⟨ai, ci, mb, hr, _⟩ := h.read
  have hf := Try.tref_ok hr n hn
  have hfew := h.few
  have hmk := Try.makeBT (n + 1) (by omega)
  rw [show ((n + 1 : Nat) : Int) = (n : Int) + 1 by omega] at hmk
  have hwr : IntKind.i64.wrap ((n : Int) + 1) = (n : Int) + 1 := by rw [IntKind.wrap_i64]; omega
  have hn4 : n < 4096 := by omega
  have HR : Hid _ := hr
  have HOK : Hid _ := h.ok
  have HLOW : Hid _ := hlow
  have HN : Hid (n < items.length) := hn
  have hi0 := fun w' => Try.idxBT w.heap.size (n + 1) n w' (by omega)
  have hv0 := BoAt.made w (n + 1)
  have hb0 := below_new w (.cells (Array.replicate (n + 1) (Value.bool false)) 4)
  have z0 := hv0.fz n
  have c0 := hv0.cell (i := n) (by simp)
  have HV0 : Hid (BoAt (w.alloc (.cells ((Array.replicate (n + 1) (Value.bool false)).setIfInBounds n (.bool true)) 4)) w.heap.size ((List.replicate (n + 1) false).set n true)) := by
    show BoAt _ _ _
    unfold BoAt
    rw [(MapKept.heap_alloc w _).1]
    refine congrArg some (congrArg (fun c => Obj.cells c 4 (0, 0)) (Array.toList_inj.1 ?_))
    simp [List.map_set]
  have HB0 : Hid (Below w.heap.size w (w.alloc (.cells ((Array.replicate (n + 1) (Value.bool false)).setIfInBounds n (.bool true)) 4))) := below_new w _
  have HM0 : Hid _ := marks_start items n
  clear h hr hlow hn hv0 hb0
  go_enter Try.func21, Try.ntmps21
  go_wp2_with fail
  refine hf.mono ?_
  rintro e w1 ⟨rfl, hw1⟩
  obtain rfl := hw1.symm
  clear hf
  go_wp2
  generalize w.alloc (.cells ((Array.replicate (n + 1) (Value.bool false)).setIfInBounds n (.bool true)) 4) = w1 at *
  clear hmk hi0 z0 c0 hwr
  go_loopw [8] (fun jv wr => ∃ (i : Int) (k : Nat), jv = .int .i64 i ∧ i = (k : Int) - 1 ∧ k ≤ n + 1 ∧ ∃ B, Hid (BoAt wr w.heap.size B) ∧ Hid (Marks items n k B) ∧ Hid (Below w.heap.size w wr)) (fun jv _ => (intOf jv + 1).toNat)
  case atStart => exact ⟨(n : Int), n + 1, rfl, by omega, Nat.le_refl _, _, HV0, HM0, HB0⟩
  case round =>
    obtain ⟨i, k, rfl, hik, hk, B, HV, HM, HB⟩ := hrel
    clear HV0 HM0 HB0
    cases k with
    | zero =>
      obtain rfl : i = -1 := by omega
      have HBL : Hid (belowL items n = (trueN B (n + 1)).map fun j : Nat => (j : Int)) := trueN_end HLOW.out HN.out HM.out
      have HLB : Hid (B.length = n + 1) := HM.out.len
      have HOW : Hid (wr.ownsRow w.heap.size 3 1 (.slice none 0 0) (trueN B 0).length (encM (trueN B 0))) := ⟨rfl, Or.inl ⟨rfl, rfl⟩⟩
      clear HM hik
      go_wp2
      go_loopw [11, 66] (fun v c wq => ∃ k : Nat, k ≤ n + 1 ∧ c = .int .i64 (k : Int) ∧ Hid (wq.ownsRow w.heap.size 3 1 v (trueN B k).length (encM (trueN B k))) ∧ Hid (BoAt wq w.heap.size B) ∧ Hid (Below w.heap.size w wq) ∧ Hid (v.ownBlock ≠ some w.heap.size)) (fun _ c _ => n + 1 - (intOf c).toNat)
      case atStart => exact ⟨0, Nat.zero_le _, rfl, HOW, HV, HB, fun e => by cases e⟩
      case round =>
        obtain ⟨k, hk, rfl, HO, HV2, HB2, HNE⟩ := hrel
        clear HOW HV HB
        obtain ⟨av, cv, rfl⟩ := own_slI HO.out
        have htl := trueN_len B k
        by_cases hlt : k < n + 1
        · have hi1 := fun w' => Try.idxBT w.heap.size (n + 1) k w' hlt
          have hc1 := HV2.out.cell (i := k) (by rw [HLB.out]; omega)
          have HSU : Hid _ := trueN_succ B k
          cases hb : B.getD k false with
          | false =>
            rw [hb] at hc1
            have HO3 : Hid (wr.ownsRow w.heap.size 3 1 (.slice av (trueN B k).length cv) (trueN B (k + 1)).length (encM (trueN B (k + 1)))) := by
              show World.ownsRow _ _ _ _ _ _ _
              rw [HSU.out, if_neg (fun e => by rw [getD_true.2 e] at hb; cases hb), List.append_nil]
              exact HO.out
            clear HO HSU hb
            go_wp2
            go_roundw
            case rel => exact ⟨k + 1, by omega, by go_num, HO3, HV2, HB2, HNE⟩
            case measure => simp [intOf] <;> omega
          | true =>
            rw [hb] at hc1
            have HSU2 : Hid (trueN B (k + 1) = trueN B k ++ [k]) := by
              show _ = _
              rw [HSU.out, if_pos (getD_true.1 hb)]
            have hbn := below_new wr (.cells #[.int .i64 (k : Int)] 3)
            have hc4 : (wr.alloc (.cells #[.int .i64 (k : Int)] 3)).cell? ⟨wr.heap.size, 0, none⟩ = some (.int .i64 (k : Int)) := cell_row (MapKept.heap_alloc wr _).1 0
            have HO4 : Hid ((wr.alloc (.cells #[.int .i64 (k : Int)] 3)).ownsRow w.heap.size 3 1 (.slice av (trueN B k).length cv) (trueN B k).length (encM (trueN B k))) := World.ownsRow.alloc HO.out _
            have hz4 : w.heap.size ≤ (wr.alloc (.cells #[.int .i64 (k : Int)] 3)).heap.size := by have := HB2.out.size; simp; omega
            have HV4 : Hid _ := HV2.out.up hbn
            have HB4 : Hid _ := below_step HB2.out hbn
            have hlt2 := HV2.out.lt
            clear HO HSU hb HV2 HB2
            generalize htn : trueN B k = tn at *
            go_wp2_with (at_builtin; refine append_v1 Try.underlying41 Try.infoIntM rfl (by decide) rfl _ _ rfl w.heap.size _ tn.length (encM tn) (.int .i64 (k : Int)) wr.heap.size rfl rfl HO4.out hc4 rfl (by omega) hz4 ?_)
            intro v4 w4 hown4 hgr4 hloc4
            have HO5 : Hid (w4.ownsRow w.heap.size 3 1 v4 (trueN B (k + 1)).length (encM (trueN B (k + 1)))) := by
              show World.ownsRow _ _ _ _ _ _ _
              rw [HSU2.out, List.length_append]
              unfold encM at hown4 ⊢
              rw [List.map_append]; exact hown4
            have HV5 : Hid (BoAt w4 w.heap.size B) := (hgr4.block _ (Nat.lt_of_lt_of_le hlt2 hbn.size) (fun e => HNE.out e.symm)).trans HV4.out
            have HB5 : Hid (Below w.heap.size w w4) := HB4.out.grown hgr4 hz4 (own_ge HO4.out)
            have HNE5 : Hid (v4.ownBlock ≠ some w.heap.size) := fun e => by
              rcases hloc4 with h | h
              · exact HNE.out (h ▸ e)
              · rw [h] at e
                injection e with e
                have := hbn.size
                omega
            clear hown4 hgr4 hloc4 hc4 HO4 hbn
            go_wp2
            go_roundw
            case rel => exact ⟨k + 1, by omega, by go_num, HO5, HV5, HB5, HNE5⟩
            case measure => simp [intOf] <;> omega
        · obtain rfl : k = n + 1 := by omega
          have HFIN : Hid (wr.ownsRow w.heap.size 3 1 (.slice av (belowL items n).length cv) (belowL items n).length ((belowL items n).map (Value.int .i64)) ∧ (trueN B (n + 1)).length = (belowL items n).length) := by
            have h := HO.out
            show _ ∧ _
            rw [HBL.out, List.length_map, List.map_map]
            exact ⟨h, rfl⟩
          rw [HFIN.out.2]
          clear HO HV2 htl
          go_wp2
          go_ret2
          exact ⟨av, cv, rfl, HFIN.out.1, HB2.out⟩
    | succ m =>
      obtain rfl : i = (m : Int) := by omega
      have hmn : m < n + 1 := by omega
      have hi1 := fun w' => Try.idxBT w.heap.size (n + 1) m w' hmn
      have hc1 := HV.out.cell (i := m) (by rw [HM.out.len]; omega)
      have hdec : IntKind.i64.wrap ((m : Int) - 1) = (m : Int) - 1 := by rw [IntKind.wrap_i64]; omega
      cases hb : B.getD m false with
      | false =>
        rw [hb] at hc1
        have HM2 : Hid (Marks items n m B) := marks_skip HM.out (fun e => by rw [getD_true.2 e] at hb; cases hb)
        clear hb HM hik
        go_wp2
        go_roundw
        case rel => exact ⟨(m : Int) - 1, m, rfl, rfl, by omega, B, HV, HM2, HB⟩
        case measure => simp [intOf]
      | true =>
        rw [hb] at hc1
        have hmi : m < items.length := by have := HN.out; omega
        have hr2 := HR.out.up HB.out
        have c1 := hr2.c1
        obtain ⟨g, o, hio, q0, q1, q2, q3⟩ := hr2.at m hmi
        have HM2 : Hid (Marks items n m (mark1 (mark1 B items[m].a) items[m].b)) := marks_step HLOW.out HM.out (getD_true.1 hb) (by omega) (List.getElem?_eq_getElem hmi) (HOK.out _ (List.getElem_mem hmi)).2.2.1 (HOK.out _ (List.getElem_mem hmi)).2.2.2.2.1
        have hla := HLOW.out m _ (List.getElem?_eq_getElem hmi)
        have hoa := HOK.out _ (List.getElem_mem hmi)
        have HLB : Hid (B.length = n + 1) := HM.out.len
        generalize items[m] = x at *
        obtain ⟨op, p, xa, xb⟩ := x
        dsimp only at q2 q3 HM2 hla
        obtain ⟨_, _, ha1, _, hb1, _⟩ := hoa
        dsimp only at ha1 hb1
        clear hb HM q0 q1 hr2 hik
        go_wp2
        go_upto_region 15 with fail
        go_region
        all_goals
          have hb2 := below_new wr (.cells #[.int .i64 xa, .int .i64 xb] 3)
          have HVN : Hid (BoAt (wr.alloc (.cells #[.int .i64 xa, .int .i64 xb] 3)).drew w.heap.size B) := HV.out.up hb2.drew
          have HLN : Hid ((wr.alloc (.cells #[.int .i64 xa, .int .i64 xb] 3)).drew.heap[wr.heap.size]? = some (.cells #[.int .i64 xa, .int .i64 xb] 3 (0, 0))) := (MapKept.heap_alloc wr _).1
          have HBN : Hid (Below w.heap.size w (wr.alloc (.cells #[.int .i64 xa, .int .i64 xb] 3)).drew) := below_step HB.out hb2.drew
          have hidx : ∀ (r : Nat) (w' : World), r < 2 → (Instr.indexAt 41 (.slice (some ⟨wr.heap.size, 0, none⟩) 2 2) (.int .i64 (r : Int))).run Try.prog w' = .ok (.pointer (some ⟨wr.heap.size, r, none⟩)) w' := fun r w' hr => by
            have := idx_of (P := Try.prog) (T := 41) (e := 3) Try.underlying41 Try.sizeIntM (a := some ⟨wr.heap.size, 0, none⟩) (cap := 2) (n := 2) (by simp) r w' hr
            simpa [adOf, add_plain] using this
          have hwl : w.heap.size < wr.heap.size := HV.out.lt
          clear hb2 hi1 hc1 c1 hio q2 q3 HV HB
          generalize (wr.alloc (.cells #[.int .i64 xa, .int .i64 xb] 3)).drew = w2 at *
          generalize wr.heap.size = gl at *
          go_wp2
          go_loopw [54] (fun rv wr => ∃ r : Nat, r ≤ 2 ∧ rv = .int .i64 (r : Int) ∧ Hid (BoAt wr w.heap.size (markR B xa xb r)) ∧ Hid (wr.heap[gl]? = some (.cells #[.int .i64 xa, .int .i64 xb] 3 (0, 0))) ∧ Hid (Below w.heap.size w wr)) (fun rv _ => 2 - (intOf rv).toNat)
          case atStart => exact ⟨0, by omega, rfl, HVN, HLN, HBN⟩
          case round =>
            obtain ⟨r, hr, rfl, HV2, HL2, HB2⟩ := hrel
            clear HVN HLN HBN
            by_cases hr2 : r < 2
            · obtain ⟨x, hcx, hx1, hx2, hnx⟩ : ∃ x : Int, wr.cell? ⟨gl, r, none⟩ = some (.int .i64 x) ∧ -1 ≤ x ∧ x < (m : Int) ∧ markR B xa xb (r + 1) = mark1 (markR B xa xb r) x := by
                match r, hr2 with
                | 0, _ => exact ⟨xa, cell_row HL2.out 0, ha1, hla.1, rfl⟩
                | 1, _ => exact ⟨xb, cell_row HL2.out 1, hb1, hla.2, rfl⟩
              have HNX : Hid _ := hnx
              have hj := fun w' => hidx r w' hr2
              clear hnx
              by_cases hz : x = -1
              · subst hz
                have HV3 : Hid (BoAt wr w.heap.size (markR B xa xb (r + 1))) := by
                  show BoAt _ _ _
                  rw [HNX.out]; exact HV2.out
                clear HV2 HNX
                go_wp2
                go_roundw
                case rel => exact ⟨r + 1, by omega, by go_num, HV3, HL2, HB2⟩
                case measure => simp [intOf] <;> omega
              · obtain ⟨q, rfl⟩ := Int.eq_ofNat_of_zero_le (show 0 ≤ x by omega)
                have hz' : ((q : Int) == -1) = false := by rw [beq_eq_false_iff_ne]; omega
                have hjq := fun w' => Try.idxBT w.heap.size (n + 1) q w' (by omega)
                have fz := HV2.out.fz q
                have cq := HV2.out.cell (i := q) (by rw [markR_len, HLB.out]; omega)
                have HV3 : Hid (BoAt (wr.setCell ⟨w.heap.size, q, none⟩ (.bool true)) w.heap.size (markR B xa xb (r + 1))) := by
                  show BoAt _ _ _
                  have := HV2.out.set q true
                  rw [HNX.out]
                  unfold mark1
                  rw [if_neg (by omega)]
                  exact this
                have HL3 : Hid ((wr.setCell ⟨w.heap.size, q, none⟩ (.bool true)).heap[gl]? = some (.cells #[.int .i64 xa, .int .i64 xb] 3 (0, 0))) := (Below.heap_setCell _ _ _ _ (by dsimp only; omega)).trans HL2.out
                have HB3 : Hid (Below w.heap.size w (wr.setCell ⟨w.heap.size, q, none⟩ (.bool true))) := HB2.out.setCell (by dsimp only; omega) _
                clear HV2 HNX HL2 HB2
                go_wp2
                go_roundw
                case rel => exact ⟨r + 1, by omega, by go_num, HV3, HL3, HB3⟩
                case measure => simp [intOf] <;> omega
            · obtain rfl : r = 2 := by omega
              go_wp2
              go_roundw
              case rel => exact ⟨(m : Int) - 1, m, rfl, rfl, by omega, _, HV2, HM2, HB2⟩
              case measure => simp [intOf]
end Go.Proofs.Ytbfhbpibpmgblaa
