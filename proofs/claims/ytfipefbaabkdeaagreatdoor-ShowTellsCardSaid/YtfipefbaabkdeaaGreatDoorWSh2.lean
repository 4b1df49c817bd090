/- Package show: the table of operators; a token's text. -/
import Derived.Test.YtfipefbaabkdeaaGreatDoorWSh1
namespace Go.Proofs.YtfipefbaabkdeaaGreatDoor
open Go.RowKit Go.Maps

def opsC : List Value := orows.flatMap fun r => [.string (mkB r.1), .string (mkB r.2.1), .int .u8 (r.2.2.1 : Int), .int .u8 (r.2.2.2.1 : Int), .int .u8 (r.2.2.2.2 : Int)]
/-- The table of operators is as it was laid. -/
def OpT (w : World) : Prop := w.var? Tryz.prog "rejoinder/show.operators" = some opsC.toArray
theorem OpT.up {w w' : World} (h : OpT w) (hb : Below w.heap.size w w') : OpT w' := Joins.var_stays (g := 0) (by kernel_rfl) h hb (Nat.le_refl _)
theorem OpT.cell {w : World} (h : OpT w) : ∀ j, w.cell? ⟨0, j, none⟩ = opsC[j]? := by
  intro j
  unfold OpT World.var? at h
  rw [show Tryz.prog.globalNamed "rejoinder/show.operators" = some 0 by kernel_rfl] at h
  simp only [Option.bind_some] at h
  split at h
  · next cs t f he => injection h with h; subst h; simp [World.cell?, he]
  · cases h
theorem opsC_get : ∀ {op : Nat}, op ≤ 23 → opsC[5 * op]? = some (.string (mkB (ahT op))) ∧ opsC[5 * op + 1]? = some (.string (mkB (beT op))) ∧ opsC[5 * op + 2]? = some (.int .u8 (owT op : Int)) ∧ opsC[5 * op + 3]? = some (.int .u8 (fiT op : Int)) ∧ opsC[5 * op + 4]? = some (.int .u8 (seT op : Int)) := by
  intro op ho
  match op, ho with
  | 0, _ => exact ⟨rfl, rfl, rfl, rfl, rfl⟩
  | 1, _ => exact ⟨rfl, rfl, rfl, rfl, rfl⟩
  | 2, _ => exact ⟨rfl, rfl, rfl, rfl, rfl⟩
  | 3, _ => exact ⟨rfl, rfl, rfl, rfl, rfl⟩
  | 4, _ => exact ⟨rfl, rfl, rfl, rfl, rfl⟩
  | 5, _ => exact ⟨rfl, rfl, rfl, rfl, rfl⟩
  | 6, _ => exact ⟨rfl, rfl, rfl, rfl, rfl⟩
  | 7, _ => exact ⟨rfl, rfl, rfl, rfl, rfl⟩
  | 8, _ => exact ⟨rfl, rfl, rfl, rfl, rfl⟩
  | 9, _ => exact ⟨rfl, rfl, rfl, rfl, rfl⟩
  | 10, _ => exact ⟨rfl, rfl, rfl, rfl, rfl⟩
  | 11, _ => exact ⟨rfl, rfl, rfl, rfl, rfl⟩
  | 12, _ => exact ⟨rfl, rfl, rfl, rfl, rfl⟩
  | 13, _ => exact ⟨rfl, rfl, rfl, rfl, rfl⟩
  | 14, _ => exact ⟨rfl, rfl, rfl, rfl, rfl⟩
  | 15, _ => exact ⟨rfl, rfl, rfl, rfl, rfl⟩
  | 16, _ => exact ⟨rfl, rfl, rfl, rfl, rfl⟩
  | 17, _ => exact ⟨rfl, rfl, rfl, rfl, rfl⟩
  | 18, _ => exact ⟨rfl, rfl, rfl, rfl, rfl⟩
  | 19, _ => exact ⟨rfl, rfl, rfl, rfl, rfl⟩
  | 20, _ => exact ⟨rfl, rfl, rfl, rfl, rfl⟩
  | 21, _ => exact ⟨rfl, rfl, rfl, rfl, rfl⟩
  | 22, _ => exact ⟨rfl, rfl, rfl, rfl, rfl⟩
  | 23, _ => exact ⟨rfl, rfl, rfl, rfl, rfl⟩
  | n + 24, h => exact absurd h (by omega)
set_option maxRecDepth 100000 in
set_option maxHeartbeats 1000000 in
/-- A token that takes nothing. -/
theorem Tryz.sh_leaf (b : Nat) (a : Option Addr) (len cap : Nat) (ad : Nat → Addr) (ss : List ByteArray) (op p : Nat) (w : World) (hS : StrSl Tryz.prog 22 w a len cap ad ss) (hO : OpT w) (ho : op = 0 ∨ op = 1 ∨ op = 3 ∨ op = 2 ∧ p < len) :
    Calls Tryz.prog 25 #[.pointer (some ⟨b, 0, none⟩), .slice a len cap, .agg #[.int .u8 (op : Int), .int .u8 (p : Int)]] w fun e w' => e = .returned (.string (mkB (leafT (nms ss) (op, p)))) ∧ Below w.heap.size w w' := by
  obtain ⟨t0, t1, t2, t3, t4⟩ := opsC_get (op := op) (by omega)
  rw [← hO.cell] at t0 t1 t2 t3 t4
  have hlt := World.block_lt_of_cell? _ _ t0
  rcases ho with rfl | rfl | rfl | ⟨rfl, hp⟩
  iterate 3
    · go_enter Tryz.func25, Tryz.ntmps25
      go_wp2
      go_ret
      exact ⟨rfl, (below_new _ _).alloc (by simp) _⟩
  · have hi : ∀ w', (Instr.indexAt 22 (.slice a len cap) (.int .u8 (p : Int))).run Tryz.prog w' = .ok (.pointer (some (ad p))) w' := fun w' => hS.idx len p w' hp (Nat.le_refl _)
    have hc := hS.cell p hp
    have hbl := hS.blk p hp
    have hbd := Nat.le_trans hS.hcap hS.bd
    unfold maxLen at hbd
    have hres : ss.getD p ByteArray.empty = mkB (leafT (nms ss) (2, p)) := by
      have hl := hS.hlen
      unfold leafT nms
      have : p < ss.length := by omega
      simp [List.getD_eq_getElem?_getD, this, mkB_of]
    rw [hres] at hc
    clear hS hO hres
    generalize mkB (leafT (nms ss) (2, p)) = r at *
    go_enter Tryz.func25, Tryz.ntmps25
    go_wp2
    go_ret
    exact ⟨rfl, (below_new _ _).alloc (by simp) _⟩
set_option maxRecDepth 100000 in
set_option maxHeartbeats 4000000 in
/-- A token that takes one part. -/
theorem Tryz.sh_un (b : Nat) (a : Option Addr) (len cap : Nat) (op p : Nat) (st : List Tx) (x : Tx) (w : World) (h : StkAt w b (st ++ [x])) (hO : OpT w) (ho : op = 6 ∨ op = 7 ∨ op = 8 ∨ op = 9 ∨ op = 10 ∨ op = 19 ∨ op = 20 ∨ op = 23) (hx : x.1.length ≤ 1000000) (hn : st.length ≤ 1000000) :
    Calls Tryz.prog 25 #[.pointer (some ⟨b, 0, none⟩), .slice a len cap, .agg #[.int .u8 (op : Int), .int .u8 (p : Int)]] w fun e w' => e = .returned (.string (mkB (ahT op ++ (wiX x (fiT op) ++ beT op)))) ∧ StkAt w' b st ∧ w.grownBy w' (some b) := by
  obtain ⟨t0, t1, t2, t3, t4⟩ := opsC_get (op := op) (by omega)
  rw [← hO.cell] at t0 t1 t2 t3 t4
  have hlt := World.block_lt_of_cell? _ _ t0
  have hb := h.lt
  have hxl : (wiX x (fiT op)).length ≤ x.1.length + 2 := wi_len _ _
  have hos := ow_small op
  have s1 : ¬ 9223372036854775807 < (mkB (ahT op)).size + (mkB (wiX x (fiT op))).size := by rw [mkB_size, mkB_size]; omega
  have s2 : ¬ 9223372036854775807 < (mkB (ahT op)).size + (mkB (wiX x (fiT op))).size + (mkB (beT op)).size := by rw [mkB_size, mkB_size, mkB_size]; omega
  obtain ⟨wa, hwa⟩ : ∃ wa, wa = (w.alloc (.cells #[.int .u8 (op : Int), .int .u8 (p : Int)] 41)).alloc (.cells #[.string (mkB (ahT op)), .string (mkB (beT op)), .int .u8 (owT op : Int), .int .u8 (fiT op : Int), .int .u8 (seT op : Int)] 55) := ⟨_, rfl⟩
  have hba : Below w.heap.size w wa := by rw [hwa]; exact (below_new _ _).alloc (by simp) _
  have hrow : wa.heap[w.heap.size + 1]? = some (.cells #[.string (mkB (ahT op)), .string (mkB (beT op)), .int .u8 (owT op : Int), .int .u8 (fiT op : Int), .int .u8 (seT op : Int)] 55 (0, 0)) := by
    have h1 := (MapKept.heap_alloc (w.alloc (.cells #[.int .u8 (op : Int), .int .u8 (p : Int)] 41)) (.cells #[.string (mkB (ahT op)), .string (mkB (beT op)), .int .u8 (owT op : Int), .int .u8 (fiT op : Int), .int .u8 (seT op : Int)] 55)).1
    have e : (w.alloc (.cells #[.int .u8 (op : Int), .int .u8 (p : Int)] 41)).heap.size = w.heap.size + 1 := by simp
    rw [e] at h1; rw [hwa]; exact h1
  have k0 : wa.cell? ⟨w.heap.size + 1, 0, none⟩ = some (.string (mkB (ahT op))) := cell_row hrow 0
  have k1 : wa.cell? ⟨w.heap.size + 1, 1, none⟩ = some (.string (mkB (beT op))) := cell_row hrow 1
  have k3 : wa.cell? ⟨w.heap.size + 1, 3, none⟩ = some (.int .u8 (fiT op : Int)) := cell_row hrow 3
  have hk0 : wa.drew.cell? ⟨w.heap.size + 1, 0, none⟩ = some (.string (mkB (ahT op))) ∧ wa.drew.cell? ⟨w.heap.size + 1, 1, none⟩ = some (.string (mkB (beT op))) ∧ wa.drew.cell? ⟨w.heap.size + 1, 3, none⟩ = some (.int .u8 (fiT op : Int)) := ⟨k0, k1, k3⟩
  have hk1 : ∀ w1, wa.drew.grownBy w1 (some b) → w1.cell? ⟨w.heap.size + 1, 0, none⟩ = some (.string (mkB (ahT op))) ∧ w1.cell? ⟨w.heap.size + 1, 1, none⟩ = some (.string (mkB (beT op))) ∧ w1.cell? ⟨w.heap.size + 1, 3, none⟩ = some (.int .u8 (fiT op : Int)) := fun w1 hg =>
    ⟨grown_cell hk0.1 hg (fun e => by injection e with e; dsimp only at e; omega), grown_cell hk0.2.1 hg (fun e => by injection e with e; dsimp only at e; omega), grown_cell hk0.2.2 hg (fun e => by injection e with e; dsimp only at e; omega)⟩
  have hT := Tryz.sh_take b (fiT op) st x wa.drew ((h.up hba).keep fun _ _ _ => rfl) (by omega) hn
  have hres : mkB (ahT op) ++ mkB (wiX x (fiT op)) ++ mkB (beT op) = mkB (ahT op ++ (wiX x (fiT op) ++ beT op)) := by rw [mkB_app, mkB_app, List.append_assoc]
  have g1 : w.grownBy wa.drew (some b) := ⟨hba.os, hba.tape, hba.output, hba.size, fun k hk _ => hba.block k hk⟩
  have HW : Hid (∀ w1, wa.drew.grownBy w1 (some b) → w.grownBy w1 (some b)) := fun w1 hg => g1.trans hg
  rw [← hres]
  generalize mkB (wiX x (fiT op)) = r at *
  generalize mkB (ahT op) = ah at *
  generalize mkB (beT op) = be at *
  generalize fiT op = fi at *
  generalize owT op = ow at *
  generalize seT op = se at *
  clear h hO hos hx hxl hn hba hrow k0 k1 k3 hres g1
  rcases ho with rfl | rfl | rfl | rfl | rfl | rfl | rfl | rfl
  all_goals
    go_enter Tryz.func25, Tryz.ntmps25
    go_upto_region 17 with fail
    generalize (w.alloc _).alloc _ = wb at *
    subst hwa
    go_region_held3 (fun w' => w'.cell? ⟨w.heap.size + 1, 0, none⟩ = some (.string ah) ∧ w'.cell? ⟨w.heap.size + 1, 1, none⟩ = some (.string be) ∧ w'.cell? ⟨w.heap.size + 1, 3, none⟩ = some (.int .u8 (fi : Int))) (first | exact hk0 | exact hk1 _ ‹_›)
      ((go_at_call 26; refine hT.mono ?_; rintro e w1 ⟨rfl, hs1, hg1⟩))
    go_wp2
    go_ret
    exact ⟨rfl, hs1, HW.out _ hg1⟩
set_option maxRecDepth 100000 in
set_option maxHeartbeats 4000000 in
/-- A token that takes two parts. -/
theorem Tryz.sh_bin (b : Nat) (a : Option Addr) (len cap : Nat) (op p : Nat) (st : List Tx) (x y : Tx) (w : World) (h : StkAt w b (st ++ [x] ++ [y])) (hO : OpT w) (ho : op = 11 ∨ op = 12 ∨ op = 13 ∨ op = 14 ∨ op = 15 ∨ op = 16 ∨ op = 17 ∨ op = 18 ∨ op = 21 ∨ op = 22) (hx : x.1.length ≤ 1000000) (hy : y.1.length ≤ 1000000) (hn : st.length ≤ 900000) :
    Calls Tryz.prog 25 #[.pointer (some ⟨b, 0, none⟩), .slice a len cap, .agg #[.int .u8 (op : Int), .int .u8 (p : Int)]] w fun e w' => e = .returned (.string (mkB (ahT op ++ (wiX x (fiT op) ++ (beT op ++ wiX y (seT op)))))) ∧ StkAt w' b st ∧ w.grownBy w' (some b) := by
  obtain ⟨t0, t1, t2, t3, t4⟩ := opsC_get (op := op) (by omega)
  rw [← hO.cell] at t0 t1 t2 t3 t4
  have hlt := World.block_lt_of_cell? _ _ t0
  have hb := h.lt
  have hxl : (wiX x (fiT op)).length ≤ x.1.length + 2 := wi_len _ _
  have hyl : (wiX y (seT op)).length ≤ y.1.length + 2 := wi_len _ _
  have hos := ow_small op
  have s1 : ¬ 9223372036854775807 < (mkB (ahT op)).size + (mkB (wiX x (fiT op))).size := by rw [mkB_size, mkB_size]; omega
  have s2 : ¬ 9223372036854775807 < (mkB (ahT op)).size + (mkB (wiX x (fiT op))).size + (mkB (beT op)).size := by rw [mkB_size, mkB_size, mkB_size]; omega
  have s3 : ¬ 9223372036854775807 < (mkB (ahT op)).size + (mkB (wiX x (fiT op))).size + (mkB (beT op)).size + (mkB (wiX y (seT op))).size := by rw [mkB_size, mkB_size, mkB_size, mkB_size]; omega
  obtain ⟨wa, hwa⟩ : ∃ wa, wa = (w.alloc (.cells #[.int .u8 (op : Int), .int .u8 (p : Int)] 41)).alloc (.cells #[.string (mkB (ahT op)), .string (mkB (beT op)), .int .u8 (owT op : Int), .int .u8 (fiT op : Int), .int .u8 (seT op : Int)] 55) := ⟨_, rfl⟩
  have hba : Below w.heap.size w wa := by rw [hwa]; exact (below_new _ _).alloc (by simp) _
  have hrow : wa.heap[w.heap.size + 1]? = some (.cells #[.string (mkB (ahT op)), .string (mkB (beT op)), .int .u8 (owT op : Int), .int .u8 (fiT op : Int), .int .u8 (seT op : Int)] 55 (0, 0)) := by
    have h1 := (MapKept.heap_alloc (w.alloc (.cells #[.int .u8 (op : Int), .int .u8 (p : Int)] 41)) (.cells #[.string (mkB (ahT op)), .string (mkB (beT op)), .int .u8 (owT op : Int), .int .u8 (fiT op : Int), .int .u8 (seT op : Int)] 55)).1
    have e : (w.alloc (.cells #[.int .u8 (op : Int), .int .u8 (p : Int)] 41)).heap.size = w.heap.size + 1 := by simp
    rw [e] at h1; rw [hwa]; exact h1
  have k0 : wa.cell? ⟨w.heap.size + 1, 0, none⟩ = some (.string (mkB (ahT op))) := cell_row hrow 0
  have k1 : wa.cell? ⟨w.heap.size + 1, 1, none⟩ = some (.string (mkB (beT op))) := cell_row hrow 1
  have k3 : wa.cell? ⟨w.heap.size + 1, 3, none⟩ = some (.int .u8 (fiT op : Int)) := cell_row hrow 3
  have k4 : wa.cell? ⟨w.heap.size + 1, 4, none⟩ = some (.int .u8 (seT op : Int)) := cell_row hrow 4
  have hk1 : ∀ w1 w2 : World, w1.grownBy w2 (some b) → ∀ j v, w1.cell? ⟨w.heap.size + 1, j, none⟩ = some v → w2.cell? ⟨w.heap.size + 1, j, none⟩ = some v := fun w1 w2 hg j v hv => grown_cell hv hg (fun e => by injection e with e; dsimp only at e; omega)
  have hT := Tryz.sh_take b (seT op) (st ++ [x]) y wa (h.up hba) (by omega) (by simp; omega)
  have hT2 := fun w1 (h1 : StkAt w1 b (st ++ [x])) => Tryz.sh_take b (fiT op) st x w1 h1 (by omega) (by omega)
  have hres : mkB (ahT op) ++ mkB (wiX x (fiT op)) ++ mkB (beT op) ++ mkB (wiX y (seT op)) = mkB (ahT op ++ (wiX x (fiT op) ++ (beT op ++ wiX y (seT op)))) := by rw [mkB_app, mkB_app, mkB_app, List.append_assoc, List.append_assoc]
  have g1 : w.grownBy wa (some b) := ⟨hba.os, hba.tape, hba.output, hba.size, fun k hk _ => hba.block k hk⟩
  have HW : Hid (∀ w1 w2, wa.grownBy w1 (some b) → w1.grownBy w2 (some b) → w.grownBy w2 (some b)) := fun w1 w2 hg hg2 => (g1.trans hg).trans hg2
  rw [← hres]
  generalize mkB (wiX x (fiT op)) = r at *
  generalize mkB (wiX y (seT op)) = r2 at *
  generalize mkB (ahT op) = ah at *
  generalize mkB (beT op) = be at *
  generalize fiT op = fi at *
  generalize owT op = ow at *
  generalize seT op = se at *
  clear h hO hos hx hxl hy hyl hn hba hrow hres g1
  rcases ho with rfl | rfl | rfl | rfl | rfl | rfl | rfl | rfl | rfl | rfl
  all_goals
    go_enter Tryz.func25, Tryz.ntmps25
    go_wp2_with fail
    generalize (w.alloc _).alloc _ = wb at *
    subst hwa
    refine hT.mono ?_
    rintro e w1 ⟨rfl, hs1, hg1⟩
    have j0 := hk1 _ _ hg1 _ _ k0
    have j1 := hk1 _ _ hg1 _ _ k1
    have j3 := hk1 _ _ hg1 _ _ k3
    clear k0 k1 k3 k4 hT
    go_wp2_with fail
    refine (hT2 _ hs1).mono ?_
    rintro e w2 ⟨rfl, hs2, hg2⟩
    have i0 := hk1 _ _ hg2 _ _ j0
    have i1 := hk1 _ _ hg2 _ _ j1
    clear j0 j1 j3
    go_wp2
    go_ret
    exact ⟨rfl, hs2, HW.out _ _ hg1 hg2⟩
end Go.Proofs.YtfipefbaabkdeaaGreatDoor
