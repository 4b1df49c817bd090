/- Package mean in memory: rows of words, the ends of a path, rows of bools; has, put, join. -/
import Derived.Test.YtfgaieefejdkbaaMnM
import Derived.Test.YtfgaieefejdkbaaWMn3
import Derived.Test.YtfgaieefejdkbaaWTe9
import Derived.Deep.RegionLaw
import Derived.WalkSmall
import Derived.Deep.RegionHeld3
namespace Go.Proofs.Ytfgaieefejdkbaa
open Go.RowKit Go.Maps

/-- Block g: a row of words. -/
def encU (ws : List Nat) : Array Value := (ws.map fun (x : Nat) => Value.int .u64 (x : Int)).toArray
def RowU (w : World) (g : Nat) (ws : List Nat) : Prop := w.heap[g]? = some (.cells (encU ws) 136 (0, 0))
theorem RowU.lt {w : World} {g : Nat} {ws : List Nat} (h : RowU w g ws) : g < w.heap.size := (Array.getElem?_eq_some_iff.1 h).1
theorem RowU.up {w w' : World} {g : Nat} {ws : List Nat} (h : RowU w g ws) (hb : Below w.heap.size w w') : RowU w' g ws := (hb.block g h.lt).trans h
theorem RowU.grown {w w' : World} {g : Nat} {ws : List Nat} {row : Option Nat} (h : RowU w g ws) (hb : w.grownBy w' row) (hne : row ≠ some g) : RowU w' g ws := (hb.block g h.lt (fun e => hne e.symm)).trans h
theorem RowU.cell {w : World} {g : Nat} {ws : List Nat} (h : RowU w g ws) {i : Nat} (hi : i < ws.length) : w.cell? ⟨g, i, none⟩ = some (.int .u64 (ws.getD i 0 : Nat)) := by
  unfold RowU encU at h
  simp [World.cell?, h, List.getD_eq_getElem?_getD, List.getElem?_eq_getElem hi]
theorem RowU.fz {w : World} {g : Nat} {ws : List Nat} (h : RowU w g ws) (i : Nat) : w.frozen? ⟨g, i, none⟩ = false := frozen_of_row w g i _ _ h
theorem RowU.set {w : World} {g : Nat} {ws : List Nat} (h : RowU w g ws) (i x : Nat) : RowU (w.setCell ⟨g, i, none⟩ (.int .u64 (x : Int))) g (ws.set i x) := by
  have := heap_setCell_same w g i _ _ (.int .u64 (x : Int)) h
  unfold RowU encU; rw [this]; simp [encU, List.map_set]
theorem wr64 (n : Int) (h : 0 ≤ n ∧ n ≤ 1000000000) : wrap64 n = n := by unfold wrap64; omega
theorem Try.sizeU64 : (Try.prog.info? 136).map (·.size) = some 1 := by kernel_rfl
theorem Try.idxU (g o n cap k : Nat) (w : World) (hk : k < n) : (Instr.indexAt 133 (.slice (some ⟨g, o, none⟩) n cap) (.int .i64 (k : Int))).run Try.prog w = .ok (.pointer (some ⟨g, o + k, none⟩)) w := by
  have := idx_of (P := Try.prog) (T := 133) (e := 136) Try.underlying133 Try.sizeU64 (a := some ⟨g, o, none⟩) (cap := cap) (n := n) (by simp) k w hk
  simpa [adOf, add_plain] using this
set_option maxHeartbeats 800000 in
theorem Try.mhas_same (g W k : Nat) (ws : List Nat) (w : World) (hR : RowU w g ws) (hW : OkW W ws) (hk : k / 64 < W) (hk2 : k ≤ 1000000) :
    Calls Try.prog 88 #[.slice (some ⟨g, 0, none⟩) W W, .int .i64 (k : Int)] w fun e w' => e = .returned (.bool (hasW ws k)) ∧ w' = w := by
  have hc := hR.cell (i := k / 64) (by rw [hW.1]; exact hk)
  have hi := fun w => Try.idxU g 0 W W (k / 64) w hk
  simp only [Nat.zero_add] at hi
  have HB : Hid (∀ m : Int, m = ((k % 64 : Nat) : Int) → (bits .and .u64 (((ws.getD (k / 64) 0 : Nat) : Int) / 2 ^ m.toNat) 1 == 1) = hasW ws k) := fun m hm => by
    subst hm
    exact u64_bit _ _ (hW.2 _)
  have e1 : (k : Int).tdiv 64 = ((k / 64 : Nat) : Int) := by
    rw [Int.tdiv_eq_ediv_of_nonneg (by omega)]; omega
  have e2 : (k : Int).tmod 64 = ((k % 64 : Nat) : Int) := by
    rw [Int.tmod_eq_emod_of_nonneg (by omega)]; omega
  generalize ws.getD (k / 64) 0 = x at *
  generalize hasW ws k = r at *
  have h64 : k % 64 < 64 := Nat.mod_lt _ (by decide)
  have h65 : k / 64 ≤ 1000000 := by omega
  generalize k / 64 = q at *
  generalize k % 64 = s at *
  have w1 := wr64 (q : Int) (by omega)
  have w2 := wr64 (s : Int) (by omega)
  clear hR hW
  go_enter Try.func88, Try.ntmps88
  go_wp2
  go_ret
  exact ⟨by rw [← HB.out _ rfl]; rfl, rfl⟩
theorem Try.mhas_any (g W k : Nat) (ws : List Nat) (w : World) (hR : RowU w g ws) (hW : OkW W ws) (hk : k / 64 < W) (hk2 : k ≤ 1000000) :
    Calls Try.prog 88 #[.slice (some ⟨g, 0, none⟩) W W, .int .i64 (k : Int)] w fun e w' => e = .returned (.bool (hasW ws k)) ∧ Below w.heap.size w w' :=
  (Try.mhas_same g W k ws w hR hW hk hk2).mono fun _ _ h => ⟨h.1, h.2 ▸ Below.refl _ _⟩
theorem Try.slU (g W q : Nat) (w : World) (hq : q < W) : (Instr.sliceAt 133 (.slice (some ⟨g, 0, none⟩) W W) (some (.int .i64 (q : Int))) none none).run Try.prog w = .ok (.slice (some ⟨g, q, none⟩) (W - q) (W - q)) w := by
  simp [Instr.sliceAt, Instr.slice, run_underlying Try.underlying133, sizeOf_run Try.sizeU64, go_sem, add_plain, Nat.le_of_lt hq]
  omega
set_option maxHeartbeats 800000 in
theorem Try.mput_any (g W k : Nat) (ws : List Nat) (w : World) (hR : RowU w g ws) (hW : OkW W ws) (hk : k / 64 < W) (hk2 : k ≤ 1000000) :
    Calls Try.prog 87 #[.slice (some ⟨g, 0, none⟩) W W, .int .i64 (k : Int)] w fun e w' => e = .returned (.tuple #[]) ∧ RowU w' g (putW ws k) ∧ w.grownBy w' (some g) := by
  have hc := hR.cell (i := k / 64) (by rw [hW.1]; exact hk)
  have hz := hR.fz (k / 64)
  have hi := fun w => Try.idxU g 0 W W (k / 64) w hk
  simp only [Nat.zero_add] at hi
  have hx := hW.2 (k / 64)
  have HB : Hid (∀ m : Nat, m = 2 ^ (k % 64) → bits .or .u64 ((ws.getD (k / 64) 0 : Nat) : Int) (m : Int) = ((ws.getD (k / 64) 0 ||| 2 ^ (k % 64) : Nat) : Int)) := fun m hm => by
    subst hm
    exact u64_or_nat _ _ hx (by rw [two64]; exact Nat.pow_lt_pow_right (by decide) (by omega))
  have HR : Hid (RowU (w.setCell ⟨g, k / 64, none⟩ (.int .u64 ((ws.getD (k / 64) 0 ||| 2 ^ (k % 64) : Nat) : Int))) g (putW ws k)) := hR.set _ _
  have e1 : (k : Int).tdiv 64 = ((k / 64 : Nat) : Int) := by
    rw [Int.tdiv_eq_ediv_of_nonneg (by omega)]; omega
  have e2 : (k : Int).tmod 64 = ((k % 64 : Nat) : Int) := by
    rw [Int.tmod_eq_emod_of_nonneg (by omega)]; omega
  have h64 : k % 64 < 64 := Nat.mod_lt _ (by decide)
  have h65 : k / 64 ≤ 1000000 := by omega
  have HP : Hid (2 ^ (k % 64) < 18446744073709551616) := by show _ < _; rw [two64]; exact Nat.pow_lt_pow_right (by decide) (by omega)
  generalize ws.getD (k / 64) 0 = x at *
  generalize putW ws k = r at *
  generalize k / 64 = q at *
  generalize k % 64 = s at *
  have w1 := wr64 (q : Int) (by omega)
  have w2 := wr64 (s : Int) (by omega)
  clear hR hW
  go_enter Try.func87, Try.ntmps87
  go_wp2
  go_region
  go_wp2
  go_end0
  have e : bits BinOp.or IntKind.u64 (x : Int) (IntKind.u64.wrap (2 ^ s)) = ((x ||| 2 ^ s : Nat) : Int) := by
    have e3 : IntKind.u64.wrap (2 ^ s) = ((2 ^ s : Nat) : Int) := by
      have := HP.out
      rw [IntKind.wrap_u64, show ((2 : Int) ^ s) = ((2 ^ s : Nat) : Int) by simp]
      generalize 2 ^ s = y at this ⊢
      omega
    rw [e3]; exact HB.out _ rfl
  rw [e]
  exact ⟨rfl, HR.out, ⟨rfl, rfl, rfl, by simp, fun k hk hne => Below.heap_setCell _ _ _ _ (fun e => hne (congrArg some e))⟩⟩
set_option maxHeartbeats 1600000 in
theorem Try.mjoin_any (g g' W p : Nat) (ws us : List Nat) (w : World) (hR : RowU w g ws) (hR' : RowU w g' us) (hW : OkW W ws) (hU : OkW W us) (hs : g = g' → ws = us) (hp : p / 64 < W) (hp2 : W ≤ 1000000) :
    Calls Try.prog 89 #[.slice (some ⟨g, 0, none⟩) W W, .slice (some ⟨g', 0, none⟩) W W, .int .i64 (p : Int)] w fun e w' => e = .returned (.bool (decide (joinW ws us (p / 64) ≠ ws))) ∧ RowU w' g (joinW ws us (p / 64)) ∧ w.grownBy w' (some g) := by
  have e1 : (p : Int).tdiv 64 = ((p / 64 : Nat) : Int) := by
    rw [Int.tdiv_eq_ediv_of_nonneg (by omega)]; omega
  have h1 := fun w => Try.slU g W (p / 64) w (by omega)
  have h2 := fun w => Try.slU g' W (p / 64) w (by omega)
  unfold joinW
  rw [hW.1]
  generalize p / 64 = q at *
  have w1 := wr64 (q : Int) (by omega)
  have HR : Hid (RowU w g ws) := hR
  have HR' : Hid (RowU w g' us) := hR'
  have HW : Hid (OkW W ws) := hW
  have HU : Hid (OkW W us) := hU
  have HS : Hid (g = g' → ws = us) := hs
  clear hR hR' hW hU hs
  go_enter Try.func89, Try.ntmps89
  go_wp2
  go_loopw [7, 19] (fun r i wr => ∃ k : Nat, k ≤ W - q ∧ i = .int .i64 k ∧ (∃ bb : Bool, r = .bool bb ∧ Hid (bb = decide (joinT ws us q (q + k) ≠ ws))) ∧ Hid (RowU wr g (joinT ws us q (q + k))) ∧ Hid (RowU wr g' us) ∧ Hid (w.grownBy wr (some g))) (fun _ i _ => W - q - (intOf i).toNat)
  case atStart => exact ⟨0, Nat.zero_le _, rfl, ⟨false, rfl, by show _ = _; rw [Nat.add_zero, joinT_low]; simp⟩, by show RowU _ _ _; rw [Nat.add_zero, joinT_low]; exact HR.out, HR'.out, ⟨rfl, rfl, rfl, Nat.le_refl _, fun _ _ _ => rfl⟩⟩
  case round =>
    obtain ⟨k, hk, rfl, ⟨bb, rfl, HB⟩, HG, HG', HF⟩ := hrel
    clear h1 h2
    by_cases hlt : k < W - q
    · have hi1 := fun w => Try.idxU g q (W - q) (W - q) k w hlt
      have hi2 := fun w => Try.idxU g' q (W - q) (W - q) k w hlt
      have hlw : q + k < ws.length := by rw [HW.out.1]; omega
      have hc1 := HG.out.cell (i := q + k) (by rw [joinT_len]; exact hlw)
      have hc2 := HG'.out.cell (i := q + k) (by rw [HU.out.1]; omega)
      have hz1 := HG.out.fz (q + k)
      have e3 : (joinT ws us q (q + k)).getD (q + k) 0 = ws.getD (q + k) 0 := by rw [joinT_get, if_neg (by omega)]
      rw [e3] at hc1
      have hx := HW.out.2 (q + k)
      have hy := HU.out.2 (q + k)
      have HN1 : Hid _ := joinT_next ws us q (q + k) (by omega) hlw
      have HN2 : Hid (ws.getD (q + k) 0 ||| us.getD (q + k) 0 = ws.getD (q + k) 0 → joinT ws us q (q + k + 1) = joinT ws us q (q + k)) := fun h => joinT_same h (by omega) hlw
      have HNE : Hid (ws.getD (q + k) 0 ||| us.getD (q + k) 0 ≠ ws.getD (q + k) 0 → joinT ws us q (q + k + 1) ≠ ws ∧ g ≠ g') := fun h => by
        refine ⟨fun e => h ?_, fun e => h ?_⟩
        · have := congrArg (fun l => l.getD (q + k) 0) e
          simp only [joinT_get] at this
          rwa [if_pos ⟨by omega, by omega, hlw⟩] at this
        · rw [← HS.out e, Nat.or_self]
      have HO : Hid _ := u64_or_nat _ _ hx hy
      have HA : Hid _ := u64_andNot_nat _ _ hy hx
      have HZ : Hid _ := andNot_zero _ _ hy hx
      generalize ws.getD (q + k) 0 = x at *
      generalize us.getD (q + k) 0 = y at *
      by_cases hc : x ||| y = x
      · have hc' : bits .andNot .u64 (y : Int) (x : Int) = 0 := by rw [HA.out, HZ.out.2 hc]; rfl
        have HN : Hid (joinT ws us q (q + (k + 1)) = joinT ws us q (q + k)) := HN2.out hc
        clear hc HZ HA HO HN1 HN2 HNE hx hy e3 hlw
        go_wp2
        go_roundw
        case rel => exact ⟨k + 1, by omega, by go_num, ⟨bb, rfl, by show _ = _; rw [HN.out]; exact HB.out⟩, by show RowU _ _ _; rw [HN.out]; exact HG.out, HG'.out, HF.out⟩
        case measure => simp [intOf]; omega
      · have hc' : bits .andNot .u64 (y : Int) (x : Int) ≠ 0 := by
          rw [HA.out]
          intro h
          exact hc (HZ.out.1 (by omega))
        have hc2' := HO.out
        obtain ⟨hn1, hn2⟩ := HNE.out hc
        have HN : Hid (true = decide (joinT ws us q (q + (k + 1)) ≠ ws)) := (decide_eq_true hn1).symm
        have HRN : Hid _ := HG.out.set (q + k) (x ||| y)
        have HG2 : Hid (g ≠ g') := hn2
        clear hn1 hn2 hc HZ HA HO HN2 HNE hx hy e3 hlw
        go_wp2
        go_roundw
        case rel =>
          refine ⟨k + 1, by omega, by go_num, ⟨true, rfl, HN⟩, ?_, ?_, ?_⟩
          · show RowU _ _ _
            rw [show q + (k + 1) = q + k + 1 by omega, HN1.out]
            exact HRN.out
          · exact (Below.heap_setCell _ _ _ _ (fun e => HG2.out e.symm)).trans HG'.out
          · exact HF.out.trans ⟨rfl, rfl, rfl, by simp, fun k hk hne => Below.heap_setCell _ _ _ _ (fun e => hne (congrArg some e))⟩
        case measure => simp [intOf]; omega
    · obtain rfl : k = W - q := by omega
      have HE : Hid (q + (W - q) = W) := by show _ = _; omega
      go_wp2
      go_ret
      refine ⟨?_, ?_, HF.out⟩
      · rw [HB.out, HE.out]; rfl
      · have := HG.out; rw [HE.out] at this; exact this
end Go.Proofs.Ytfgaieefejdkbaa
namespace Go.Proofs.Ytfgaieefejdkbaa
open Go.RowKit Go.Maps

def wordsN (P : Nat) : Nat := (P + 63) / 64
/-- Block g: the rows of P places, each in a block of its own behind it. -/
structure EndAt (w : World) (g P : Nat) (rs : Nat → List Nat) : Prop where
  outer : ∃ cur : Array Value, w.heap[g]? = some (.cells cur 133 (0, 0)) ∧ cur.size = P ∧ ∀ i, i < P → cur[i]? = some (.slice (some ⟨g + 1 + i, 0, none⟩) (wordsN P) (wordsN P))
  rows : ∀ i, i < P → RowU w (g + 1 + i) (rs i)
  ok : ∀ i, i < P → OkW (wordsN P) (rs i)
theorem EndAt.cell {w : World} {g P : Nat} {rs : Nat → List Nat} (h : EndAt w g P rs) {i : Nat} (hi : i < P) : w.cell? ⟨g, i, none⟩ = some (.slice (some ⟨g + 1 + i, 0, none⟩) (wordsN P) (wordsN P)) := by
  obtain ⟨cur, h1, _, h3⟩ := h.outer
  rw [cell_row h1, h3 i hi]
/-- Blocks below g, and those that hold no words, are as they were. -/
structure Only (g : Nat) (w w' : World) : Prop where
  os : w'.os = w.os
  tape : w'.tape = w.tape
  output : w'.output = w.output
  size : w.heap.size ≤ w'.heap.size
  block : ∀ k, k < w.heap.size → (k < g ∨ ∀ c z, w.heap[k]? ≠ some (.cells c 136 z)) → w'.heap[k]? = w.heap[k]?
theorem Only.refl (g : Nat) (w : World) : Only g w w := ⟨rfl, rfl, rfl, Nat.le_refl _, fun _ _ _ => rfl⟩
theorem Only.trans {g : Nat} {a b c : World} (h : Only g a b) (k : Only g b c) : Only g a c :=
  ⟨k.os.trans h.os, k.tape.trans h.tape, k.output.trans h.output, Nat.le_trans h.size k.size, fun i hi hk => by
    have e := h.block i hi hk
    refine (k.block i (Nat.lt_of_lt_of_le hi h.size) ?_).trans e
    rcases hk with hk | hk
    · exact Or.inl hk
    · exact Or.inr (by rw [e]; exact hk)⟩
theorem Only.mono {g g' : Nat} {w w' : World} (h : Only g w w') (hg : g' ≤ g) : Only g' w w' := ⟨h.os, h.tape, h.output, h.size, fun k hk hc => h.block k hk (hc.imp (fun a => by omega) id)⟩
theorem Only.of_below {g : Nat} {w w' : World} (h : Below w.heap.size w w') : Only g w w' := ⟨h.os, h.tape, h.output, h.size, fun k hk _ => h.block k hk⟩
theorem Only.of_row {g j : Nat} {w w' : World} {ws : List Nat} (hr : RowU w j ws) (h : w.grownBy w' (some j)) (hg : g ≤ j) : Only g w w' :=
  ⟨h.os, h.tape, h.output, h.size, fun k hk hc => h.block k hk fun e => by
    injection e with e
    subst e
    rcases hc with hc | hc
    · omega
    · exact hc _ _ hr⟩
theorem Only.below {g B : Nat} {w w' : World} (h : Only g w w') (hB : B ≤ g) (hs : B ≤ w.heap.size) : Below B w w' := ⟨h.os, h.tape, h.output, h.size, fun k hk => h.block k (by omega) (Or.inl (by omega))⟩
theorem EndAt.keep {w w' : World} {g P : Nat} {rs : Nat → List Nat} (h : EndAt w g P rs) (hk : ∀ k c t z, w.heap[k]? = some (.cells c t z) → (t = 133 ∨ t = 136) → g ≤ k → k ≤ g + P → w'.heap[k]? = w.heap[k]?) : EndAt w' g P rs := by
  obtain ⟨cur, h1, h2, h3⟩ := h.outer
  exact ⟨⟨cur, (hk g _ _ _ h1 (Or.inl rfl) (Nat.le_refl _) (Nat.le_add_right _ _)).trans h1, h2, h3⟩, fun i hi => (hk _ _ _ _ (h.rows i hi) (Or.inr rfl) (by omega) (by omega)).trans (h.rows i hi), h.ok⟩
theorem EndAt.up {w w' : World} {g P : Nat} {rs : Nat → List Nat} (h : EndAt w g P rs) (hb : Below w.heap.size w w') : EndAt w' g P rs :=
  h.keep fun k _ _ _ hc _ _ _ => hb.block k (Array.getElem?_eq_some_iff.1 hc).1
theorem EndAt.lt {w : World} {g P : Nat} {rs : Nat → List Nat} (h : EndAt w g P rs) : g + P < w.heap.size := by
  cases P with
  | zero => obtain ⟨cur, h1, _⟩ := h.outer; exact (Array.getElem?_eq_some_iff.1 h1).1
  | succ P => have := (h.rows P (Nat.lt_succ_self _)).lt; omega
/-- One row of them is turned. -/
theorem EndAt.turn {w w' : World} {g P i : Nat} {rs : Nat → List Nat} {x : List Nat} (h : EndAt w g P rs) (hi : i < P) (hr : RowU w' (g + 1 + i) x) (ho : OkW (wordsN P) x) (hb : w.grownBy w' (some (g + 1 + i))) : EndAt w' g P (upd rs i x) := by
  obtain ⟨cur, h1, h2, h3⟩ := h.outer
  have hlt := h.lt
  refine ⟨⟨cur, (hb.block g (by omega) (fun e => by injection e with e; omega)).trans h1, h2, h3⟩, fun j hj => ?_, fun j hj => ?_⟩
  · by_cases e : j = i
    · subst e; rw [upd_same]; exact hr
    · rw [upd_ne _ _ e]; exact (h.rows j hj).grown hb (fun e' => by injection e' with e'; omega)
  · by_cases e : j = i
    · subst e; rw [upd_same]; exact ho
    · rw [upd_ne _ _ e]; exact h.ok j hj
theorem made1 (v : Value) (n : Nat) : madeCells #[v] n = (List.replicate n v).toArray := by
  apply Array.ext_getElem?
  intro i
  by_cases h : i < n
  · simp [madeCells, h, Nat.mod_one]
  · simp [madeCells, h]
theorem Try.infoU64 : (Try.prog.info? 136).map (fun i => (i.zero, i.size, i.bytes)) = some (some (.int .u64 0), 1, 8) := by kernel_rfl
theorem Try.infoUs : (Try.prog.info? 133).map (fun i => (i.zero, i.size, i.bytes)) = some (some (.slice none 0 0), 1, 24) := by kernel_rfl
theorem Try.sizeUs : (Try.prog.info? 133).map (·.size) = some 1 := by kernel_rfl
theorem Try.makeU (l : Nat) (hb : l ≤ 1000000) (w : World) :
    (Instr.makeSlice 133 (.int .i64 (l : Int)) (.int .i64 (l : Int))).run Try.prog w = .ok (.slice (some ⟨w.heap.size, 0, none⟩) l l) (w.alloc (.cells (encU (List.replicate l 0)) 136)) := by
  obtain ⟨i, hi, hz0, hz1, hz2⟩ := info_parts Try.infoU64
  have := run_make (P := Try.prog) w 133 136 i (.int .u64 0) Try.underlying133 hi hz0 .i64 .i64 (l : Int) (l : Int) (by omega) (by omega) (by rw [hz2]; omega) (by omega)
  rw [this, hz1]
  simp only [Int.toNat_natCast, Nat.mul_one]
  have e : (Value.int .u64 0).cells = #[.int .u64 0] := rfl
  rw [e, made1]
  simp [encU]
theorem Try.makeUs (l : Nat) (hb : l ≤ 1000000) (w : World) :
    (Instr.makeSlice 73 (.int .i64 (l : Int)) (.int .i64 (l : Int))).run Try.prog w = .ok (.slice (some ⟨w.heap.size, 0, none⟩) l l) (w.alloc (.cells (List.replicate l (Value.slice none 0 0)).toArray 133)) := by
  obtain ⟨i, hi, hz0, hz1, hz2⟩ := info_parts Try.infoUs
  have := run_make (P := Try.prog) w 73 133 i (.slice none 0 0) Try.underlying73 hi hz0 .i64 .i64 (l : Int) (l : Int) (by omega) (by omega) (by rw [hz2]; omega) (by omega)
  rw [this, hz1]
  simp only [Int.toNat_natCast, Nat.mul_one]
  have e : (Value.slice none 0 0).cells = #[.slice none 0 0] := rfl
  rw [e, made1]
theorem Try.idxUs (g n k : Nat) (w : World) (hk : k < n) : (Instr.indexAt 73 (.slice (some ⟨g, 0, none⟩) n n) (.int .i64 (k : Int))).run Try.prog w = .ok (.pointer (some ⟨g, k, none⟩)) w := by
  have := idx_of (P := Try.prog) (T := 73) (e := 133) Try.underlying73 Try.sizeUs (a := some ⟨g, 0, none⟩) (cap := n) (n := n) (by simp) k w hk
  simpa [adOf, add_plain] using this
/-- As far as nowhere has come. -/
structure NowAt (w : World) (g P k : Nat) : Prop where
  outer : ∃ cur : Array Value, w.heap[g]? = some (.cells cur 133 (0, 0)) ∧ cur.size = P ∧ ∀ i, i < k → cur[i]? = some (.slice (some ⟨g + 1 + i, 0, none⟩) (wordsN P) (wordsN P))
  rows : ∀ i, i < k → RowU w (g + 1 + i) (List.replicate (wordsN P) 0)
  size : w.heap.size = g + 1 + k
set_option maxHeartbeats 1600000 in
theorem Try.mnow_any (P : Nat) (w : World) (hP : P ≤ 100000) :
    Calls Try.prog 86 #[.int .i64 (P : Int)] w fun e w' => e = .returned (.slice (some ⟨w.heap.size, 0, none⟩) P P) ∧ EndAt w' w.heap.size P (fun _ => List.replicate (wordsN P) 0) ∧ Below w.heap.size w w' := by
  have e1 : ((P : Int) + 63).tdiv 64 = (wordsN P : Int) := by
    rw [Int.tdiv_eq_ediv_of_nonneg (by omega)]; unfold wordsN; omega
  have hWb : wordsN P ≤ 100000 := by unfold wordsN; omega
  have w2 := wr64 (wordsN P : Int) (by omega)
  have w1 : wrap64 ((P : Int) + 63) = (P : Int) + 63 := wr64 _ (by omega)
  have hm1 := Try.makeUs P (by omega)
  have hm2 := Try.makeU (wordsN P) (by omega)
  go_enter Try.func86, Try.ntmps86
  go_wp2
  clear hm1
  go_loopw [9] (fun i wr => ∃ k : Nat, k ≤ P ∧ i = .int .i64 k ∧ Hid (NowAt wr w.heap.size P k) ∧ Hid (Below w.heap.size w wr)) (fun i _ => P - (intOf i).toNat)
  case atStart =>
    refine ⟨0, Nat.zero_le _, rfl, ⟨⟨_, (MapKept.heap_alloc w _).1, by simp, fun i hi => absurd hi (by omega)⟩, fun i hi => absurd hi (by omega), by simp⟩, below_new _ _⟩
  case round =>
    obtain ⟨k, hk, rfl, HN, HB⟩ := hrel
    by_cases hlt : k < P
    · have hi1 := fun w' => Try.idxUs w.heap.size P k w' hlt
      obtain ⟨cur, ho1, ho2, ho3⟩ := HN.out.outer
      have hsz := HN.out.size
      have HO : Hid (wr.heap[w.heap.size]? = some (.cells cur 133 (0, 0))) := ho1
      have HO3 : Hid _ := ho3
      have hcm := cell_row ((Below.heap_alloc wr (.cells (encU (List.replicate (wordsN P) 0)) 136) w.heap.size (by omega)).trans ho1) k
      rw [Array.getElem?_eq_getElem (by omega)] at hcm
      have hzm := frozen_of_row _ w.heap.size k _ _ ((Below.heap_alloc wr (.cells (encU (List.replicate (wordsN P) 0)) 136) w.heap.size (by omega)).trans ho1)
      clear ho1 ho3
      go_wp2
      go_roundw
      case rel =>
        have hlw : w.heap.size < wr.heap.size := by omega
        have hne : w.heap.size ≠ wr.heap.size := by omega
        refine ⟨k + 1, by omega, by go_num, ⟨⟨cur.setIfInBounds k (.slice (some ⟨w.heap.size + 1 + k, 0, none⟩) (wordsN P) (wordsN P)), ?_, by simpa using ho2, fun i hi => ?_⟩, fun i hi => ?_, by simp; omega⟩, ?_⟩
        · exact heap_setCell_same _ _ _ _ _ _ ((Below.heap_alloc wr _ w.heap.size hlw).trans HO.out)
        · rw [Array.getElem?_setIfInBounds]
          by_cases e : k = i
          · subst e; rw [if_pos rfl, if_pos (by omega)]
          · rw [if_neg e]; exact HO3.out i (by omega)
        · refine (Below.heap_setCell _ _ _ _ (fun e => by dsimp only at e; omega)).trans ?_
          by_cases e : i = k
          · subst e
            rw [← hsz]
            exact (MapKept.heap_alloc wr _).1
          · have := HN.out.rows i (by omega)
            exact (Below.heap_alloc wr _ _ this.lt).trans this
        · exact (HB.out.trans ((below_new _ _).mono (by omega))).setCell (Nat.le_refl _) _
      case measure => simp [intOf]; omega
    · obtain rfl : k = P := by omega
      go_wp2
      go_ret
      exact ⟨rfl, ⟨HN.out.outer, HN.out.rows, fun _ _ => OkW.zero _⟩, HB.out⟩
/-- Block g: a row of bools. -/
def ValAt (w : World) (g : Nat) (bs : List Bool) : Prop := w.heap[g]? = some (.cells (bs.map Value.bool).toArray 4 (0, 0))
theorem ValAt.lt {w : World} {g : Nat} {bs : List Bool} (h : ValAt w g bs) : g < w.heap.size := (Array.getElem?_eq_some_iff.1 h).1
theorem ValAt.up {w w' : World} {g : Nat} {bs : List Bool} (h : ValAt w g bs) (hb : Below w.heap.size w w') : ValAt w' g bs := (hb.block g h.lt).trans h
theorem ValAt.only {w w' : World} {g G : Nat} {bs : List Bool} (h : ValAt w g bs) (hb : Only G w w') : ValAt w' g bs := (hb.block g h.lt (Or.inr fun c z e => by
  unfold ValAt at h; rw [h] at e; injection e with e; injection e with _ e _; exact absurd e (by decide))).trans h
theorem ValAt.cell {w : World} {g : Nat} {bs : List Bool} (h : ValAt w g bs) {i : Nat} (hi : i < bs.length) : w.cell? ⟨g, i, none⟩ = some (.bool (bs.getD i false)) := by
  unfold ValAt at h; simp [World.cell?, h, List.getD_eq_getElem?_getD, List.getElem?_eq_getElem hi]
theorem ValAt.fz {w : World} {g : Nat} {bs : List Bool} (h : ValAt w g bs) (i : Nat) : w.frozen? ⟨g, i, none⟩ = false := frozen_of_row w g i _ _ h
theorem ValAt.set {w : World} {g : Nat} {bs : List Bool} (h : ValAt w g bs) (i : Nat) (b : Bool) : ValAt (w.setCell ⟨g, i, none⟩ (.bool b)) g (bs.set i b) := by
  have := heap_setCell_same w g i _ _ (.bool b) h
  unfold ValAt; rw [this]; simp [List.map_set]
theorem Try.idxB (g n k : Nat) (w : World) (hk : k < n) : (Instr.indexAt 41 (.slice (some ⟨g, 0, none⟩) n n) (.int .i64 (k : Int))).run Try.prog w = .ok (.pointer (some ⟨g, k, none⟩)) w := by
  have := idx_of (P := Try.prog) (T := 41) (e := 4) Try.underlying41 Try.sizeBo (a := some ⟨g, 0, none⟩) (cap := n) (n := n) (by simp) k w hk
  simpa [adOf, add_plain] using this
theorem Try.infoBo : (Try.prog.info? 4).map (fun i => (i.zero, i.size, i.bytes)) = some (some (.bool false), 1, 1) := by kernel_rfl
theorem Try.makeB (l : Nat) (hb : l ≤ 1000000) (w : World) :
    (Instr.makeSlice 41 (.int .i64 (l : Int)) (.int .i64 (l : Int))).run Try.prog w = .ok (.slice (some ⟨w.heap.size, 0, none⟩) l l) (w.alloc (.cells (Array.replicate l (Value.bool false)) 4)) := by
  obtain ⟨i, hi, hz0, hz1, hz2⟩ := info_parts Try.infoBo
  have := run_make (P := Try.prog) w 41 4 i (.bool false) Try.underlying41 hi hz0 .i64 .i64 (l : Int) (l : Int) (by omega) (by omega) (by rw [hz2]; omega) (by omega)
  rw [this, hz1]
  simp only [Int.toNat_natCast, Nat.mul_one]
  have e : (Value.bool false).cells = #[.bool false] := rfl
  rw [e, made1]
  simp
theorem ValAt.made (w : World) (l : Nat) : ValAt (w.alloc (.cells (Array.replicate l (Value.bool false)) 4)) w.heap.size (List.replicate l false) := by
  unfold ValAt
  rw [(MapKept.heap_alloc w _).1]
  simp
def stpF (bs : List Bool) (P i j : Nat) : Bool := bs.getD i false && decide (i + 1 < P) && decide (j = i + 1)
def tstF (bs : List Bool) (_P i j : Nat) : Bool := bs.getD i false && decide (j = i)
set_option maxHeartbeats 1600000 in
theorem Try.mstep_any (gb P : Nat) (bs : List Bool) (w : World) (hP : P ≤ 100000) (hV : ValAt w gb bs) (hl : bs.length = P) :
    Calls Try.prog 75 #[.slice (some ⟨gb, 0, none⟩) P P] w fun e w' => e = .returned (.slice (some ⟨w.heap.size, 0, none⟩) P P) ∧ (∃ rs, EndAt w' w.heap.size P rs ∧ ∀ i, i < P → ∀ j, hasW (rs i) j = stpF bs P i j) ∧ Below w.heap.size w w' := by
  have hnow := Try.mnow_any P w hP
  go_enter Try.func75, Try.ntmps75
  go_wp2_with fail
  refine hnow.mono ?_
  rintro e w1 ⟨rfl, hE1, hB1⟩
  have HE1 : Hid (EndAt w1 w.heap.size P (fun _ => List.replicate (wordsN P) 0)) := hE1
  have HV1 : Hid (ValAt w1 gb bs) := hV.up hB1
  have HB1 : Hid (Below w.heap.size w w1) := hB1
  have HVL : Hid (gb < w.heap.size) := hV.lt
  clear hnow hE1 hB1 hV
  go_wp2
  go_loopw [11] (fun i wr => ∃ k : Nat, k ≤ P ∧ i = .int .i64 k ∧ (∃ rs, Hid (EndAt wr w.heap.size P rs) ∧ Hid (∀ i, i < k → ∀ j, hasW (rs i) j = stpF bs P i j) ∧ Hid (∀ i, k ≤ i → rs i = List.replicate (wordsN P) 0)) ∧ Hid (ValAt wr gb bs) ∧ Hid (Below w.heap.size w wr)) (fun i _ => P - (intOf i).toNat)
  case atStart => exact ⟨0, Nat.zero_le _, rfl, ⟨_, HE1, fun i hi => absurd hi (by omega), fun _ _ => rfl⟩, HV1, HB1⟩
  case round =>
    obtain ⟨k, hk, rfl, ⟨rs, HE, HD, HZ⟩, HV, HB⟩ := hrel
    clear HE1 HV1 HB1
    by_cases hlt : k < P
    · have hi1 := fun w' => Try.idxB gb P k w' hlt
      have hi2 := fun w' => Try.idxUs w.heap.size P k w' hlt
      have hc1 := HV.out.cell (i := k) (by omega)
      have hc2 := HE.out.cell hlt
      have HF : Hid (∀ j, stpF bs P k j = (bs.getD k false && decide (k + 1 < P) && decide (j = k + 1))) := fun j => rfl
      have HZk : Hid (rs k = List.replicate (wordsN P) 0) := HZ.out k (Nat.le_refl _)
      generalize bs.getD k false = q at *
      have HNO : Hid ((q && decide (k + 1 < P)) = false → (∀ i, i < k + 1 → ∀ j, hasW (rs i) j = stpF bs P i j)) := fun hq i hi j => by
        by_cases e : i = k
        · subst e; rw [HZk.out, hasW_zero, HF.out, hq]; rfl
        · exact HD.out i (by omega) j
      have HZn : Hid (∀ i, k + 1 ≤ i → rs i = List.replicate (wordsN P) 0) := fun i hi => HZ.out i (by omega)
      cases q with
      | false =>
        go_wp2
        go_roundw
        case rel => exact ⟨k + 1, by omega, by go_num, ⟨rs, HE, HNO.out (by simp), HZn⟩, HV, HB⟩
        case measure => simp [intOf]; omega
      | true =>
        by_cases hc : k + 1 < P
        · have hck : (k : Int) + 1 < (P : Int) := by omega
          have hput := Try.mput_any (w.heap.size + 1 + k) (wordsN P) (k + 1) (rs k) wr (HE.out.rows k hlt) (HE.out.ok k hlt) (by unfold wordsN; omega) (by omega)
          have HPW : Hid (∀ j, hasW (putW (rs k) (k + 1)) j = decide (j = k + 1)) := fun j => by rw [hasW_put (HE.out.ok k hlt) (by unfold wordsN; omega), HZk.out, hasW_zero, Bool.false_or]
          have HPO : Hid (OkW (wordsN P) (putW (rs k) (k + 1))) := (HE.out.ok k hlt).put
          go_wp2_with fail
          rw [show ((k + 1 : Nat) : Int) = (k : Int) + 1 by omega] at hput
          refine hput.mono ?_
          rintro e w2 ⟨rfl, hr2, hg2⟩
          have HE2 : Hid (EndAt w2 w.heap.size P (upd rs k (putW (rs k) (k + 1)))) := HE.out.turn hlt hr2 HPO.out hg2
          have HV2 : Hid (ValAt w2 gb bs) := (hg2.block gb HV.out.lt (fun e => by injection e with e; have := HVL.out; omega)).trans HV.out
          have HB2 : Hid (Below w.heap.size w w2) := HB.out.grown hg2 HB.out.size (fun j e => by injection e with e; omega)
          clear hput hr2 hg2 hc1 hc2
          go_wp2
          go_roundw
          case rel =>
            refine ⟨k + 1, by omega, by go_num, ⟨_, HE2, fun i hi j => ?_, fun i hi => ?_⟩, HV2, HB2⟩
            · by_cases e : i = k
              · subst e; rw [upd_same, HPW.out, HF.out]; simp [hc]
              · rw [upd_ne _ _ e]; exact HD.out i (by omega) j
            · rw [upd_ne _ _ (by omega)]; exact HZ.out i (by omega)
          case measure => simp [intOf]; omega
        · have hck : ¬ (k : Int) + 1 < (P : Int) := by omega
          go_wp2
          go_roundw
          case rel => exact ⟨k + 1, by omega, by go_num, ⟨rs, HE, HNO.out (by simp [hc]), HZn⟩, HV, HB⟩
          case measure => simp [intOf]; omega
    · obtain rfl : k = P := by omega
      go_wp2
      go_ret
      exact ⟨rfl, ⟨rs, HE.out, HD.out⟩, HB.out⟩
set_option maxHeartbeats 1600000 in
theorem Try.mtest_any (gb P : Nat) (bs : List Bool) (w : World) (hP : P ≤ 100000) (hV : ValAt w gb bs) (hl : bs.length = P) :
    Calls Try.prog 76 #[.slice (some ⟨gb, 0, none⟩) P P] w fun e w' => e = .returned (.slice (some ⟨w.heap.size, 0, none⟩) P P) ∧ (∃ rs, EndAt w' w.heap.size P rs ∧ ∀ i, i < P → ∀ j, hasW (rs i) j = tstF bs P i j) ∧ Below w.heap.size w w' := by
  have hnow := Try.mnow_any P w hP
  go_enter Try.func76, Try.ntmps76
  go_wp2_with fail
  refine hnow.mono ?_
  rintro e w1 ⟨rfl, hE1, hB1⟩
  have HE1 : Hid (EndAt w1 w.heap.size P (fun _ => List.replicate (wordsN P) 0)) := hE1
  have HV1 : Hid (ValAt w1 gb bs) := hV.up hB1
  have HB1 : Hid (Below w.heap.size w w1) := hB1
  have HVL : Hid (gb < w.heap.size) := hV.lt
  clear hnow hE1 hB1 hV
  go_wp2
  go_loopw [11] (fun i wr => ∃ k : Nat, k ≤ P ∧ i = .int .i64 k ∧ (∃ rs, Hid (EndAt wr w.heap.size P rs) ∧ Hid (∀ i, i < k → ∀ j, hasW (rs i) j = tstF bs P i j) ∧ Hid (∀ i, k ≤ i → rs i = List.replicate (wordsN P) 0)) ∧ Hid (ValAt wr gb bs) ∧ Hid (Below w.heap.size w wr)) (fun i _ => P - (intOf i).toNat)
  case atStart => exact ⟨0, Nat.zero_le _, rfl, ⟨_, HE1, fun i hi => absurd hi (by omega), fun _ _ => rfl⟩, HV1, HB1⟩
  case round =>
    obtain ⟨k, hk, rfl, ⟨rs, HE, HD, HZ⟩, HV, HB⟩ := hrel
    clear HE1 HV1 HB1
    by_cases hlt : k < P
    · have hi1 := fun w' => Try.idxB gb P k w' hlt
      have hi2 := fun w' => Try.idxUs w.heap.size P k w' hlt
      have hc1 := HV.out.cell (i := k) (by omega)
      have hc2 := HE.out.cell hlt
      have HF : Hid (∀ j, tstF bs P k j = (bs.getD k false && decide (j = k))) := fun j => rfl
      have HZk : Hid (rs k = List.replicate (wordsN P) 0) := HZ.out k (Nat.le_refl _)
      generalize bs.getD k false = q at *
      have HNO : Hid ((q) = false → (∀ i, i < k + 1 → ∀ j, hasW (rs i) j = tstF bs P i j)) := fun hq i hi j => by
        by_cases e : i = k
        · subst e; rw [HZk.out, hasW_zero, HF.out, hq]; rfl
        · exact HD.out i (by omega) j
      have HZn : Hid (∀ i, k + 1 ≤ i → rs i = List.replicate (wordsN P) 0) := fun i hi => HZ.out i (by omega)
      cases q with
      | false =>
        go_wp2
        go_roundw
        case rel => exact ⟨k + 1, by omega, by go_num, ⟨rs, HE, HNO.out (by simp), HZn⟩, HV, HB⟩
        case measure => simp [intOf]; omega
      | true =>
        have hput := Try.mput_any (w.heap.size + 1 + k) (wordsN P) (k) (rs k) wr (HE.out.rows k hlt) (HE.out.ok k hlt) (by unfold wordsN; omega) (by omega)
        have HPW : Hid (∀ j, hasW (putW (rs k) (k)) j = decide (j = k)) := fun j => by rw [hasW_put (HE.out.ok k hlt) (by unfold wordsN; omega), HZk.out, hasW_zero, Bool.false_or]
        have HPO : Hid (OkW (wordsN P) (putW (rs k) (k))) := (HE.out.ok k hlt).put
        go_wp2_with fail
        refine ( hput).mono ?_
        rintro e w2 ⟨rfl, hr2, hg2⟩
        have HE2 : Hid (EndAt w2 w.heap.size P (upd rs k (putW (rs k) (k)))) := HE.out.turn hlt hr2 HPO.out hg2
        have HV2 : Hid (ValAt w2 gb bs) := (hg2.block gb HV.out.lt (fun e => by injection e with e; have := HVL.out; omega)).trans HV.out
        have HB2 : Hid (Below w.heap.size w w2) := HB.out.grown hg2 HB.out.size (fun j e => by injection e with e; omega)
        clear hput hr2 hg2 hc1 hc2
        go_wp2
        go_roundw
        case rel =>
          refine ⟨k + 1, by omega, by go_num, ⟨_, HE2, fun i hi j => ?_, fun i hi => ?_⟩, HV2, HB2⟩
          · by_cases e : i = k
            · subst e; rw [upd_same, HPW.out, HF.out]; simp 
            · rw [upd_ne _ _ e]; exact HD.out i (by omega) j
          · rw [upd_ne _ _ (by omega)]; exact HZ.out i (by omega)
        case measure => simp [intOf]; omega
    · obtain rfl : k = P := by omega
      go_wp2
      go_ret
      exact ⟨rfl, ⟨rs, HE.out, HD.out⟩, HB.out⟩
end Go.Proofs.Ytfgaieefejdkbaa
namespace Go.Proofs.Ytfgaieefejdkbaa
open Go.RowKit Go.Maps

def plusTo (rs us : Nat → List Nat) (k i : Nat) : List Nat := if i < k then joinW (rs i) (us i) (i / 64) else rs i
theorem plusTo_next (rs us : Nat → List Nat) (k : Nat) : upd (plusTo rs us k) k (joinW (rs k) (us k) (k / 64)) = plusTo rs us (k + 1) := by
  funext j
  unfold upd plusTo
  by_cases e : j = k
  · subst e; rw [if_pos rfl, if_pos (Nat.lt_succ_self _)]
  · rw [if_neg e]
    by_cases h : j < k
    · rw [if_pos h, if_pos (by omega)]
    · rw [if_neg h, if_neg (by omega)]
theorem words_in {k P : Nat} (h : k < P) : k / 64 < wordsN P := by unfold wordsN; omega
theorem words_le {P : Nat} (h : P ≤ 100000) : wordsN P ≤ 1000000 := by unfold wordsN; omega
theorem EndAt.other {w w' : World} {g P j : Nat} {rs : Nat → List Nat} (h : EndAt w g P rs) (hb : w.grownBy w' (some j)) (hj : j < g ∨ g + P < j) : EndAt w' g P rs :=
  h.keep fun k _ _ _ hc _ h1 h2 => hb.block k (Array.getElem?_eq_some_iff.1 hc).1 (fun e => by injection e with e; omega)
set_option maxHeartbeats 1600000 in
theorem Try.mplus_any (g g' P : Nat) (rs us : Nat → List Nat) (w : World) (hP : P ≤ 100000) (hA : EndAt w g P rs) (hB : EndAt w g' P us) (hd : g + P < g') :
    Calls Try.prog 80 #[.slice (some ⟨g, 0, none⟩) P P, .slice (some ⟨g', 0, none⟩) P P] w fun e w' => e = .returned (.slice (some ⟨g, 0, none⟩) P P) ∧ EndAt w' g P (plusTo rs us P) ∧ Only (g + 1) w w' := by
  have HA : Hid (EndAt w g P (plusTo rs us 0)) := by
    have e : plusTo rs us 0 = rs := by funext j; exact if_neg (by omega)
    show EndAt _ _ _ _; rw [e]; exact hA
  have HB : Hid (EndAt w g' P us) := hB
  clear hA hB
  go_enter Try.func80, Try.ntmps80
  go_wp2
  go_loopw [8] (fun i wr => ∃ k : Nat, k ≤ P ∧ i = .int .i64 k ∧ Hid (EndAt wr g P (plusTo rs us k)) ∧ Hid (EndAt wr g' P us) ∧ Hid (Only (g + 1) w wr)) (fun i _ => P - (intOf i).toNat)
  case atStart => exact ⟨0, Nat.zero_le _, rfl, HA, HB, Only.refl _ _⟩
  case round =>
    obtain ⟨k, hk, rfl, HE, HU, HO⟩ := hrel
    clear HA HB
    by_cases hlt : k < P
    · have hi1 := fun w' => Try.idxUs g P k w' hlt
      have hi2 := fun w' => Try.idxUs g' P k w' hlt
      have hc1 := HE.out.cell hlt
      have hc2 := HU.out.cell hlt
      have e0 : plusTo rs us k k = rs k := if_neg (Nat.lt_irrefl _)
      have hr1 := HE.out.rows k hlt
      have ho1 := HE.out.ok k hlt
      rw [e0] at hr1 ho1
      have hjn := Try.mjoin_any (g + 1 + k) (g' + 1 + k) (wordsN P) k (rs k) (us k) wr.drew hr1 (HU.out.rows k hlt) ho1 (HU.out.ok k hlt) (fun e => by omega) (words_in hlt) (words_le hP)
      have HX : Hid (∀ w2, RowU w2 (g + 1 + k) (joinW (rs k) (us k) (k / 64)) → wr.drew.grownBy w2 (some (g + 1 + k)) → EndAt w2 g P (plusTo rs us (k + 1)) ∧ EndAt w2 g' P us ∧ Only (g + 1) w w2) := fun w2 h1 h2 => by
        have h2' : wr.grownBy w2 (some (g + 1 + k)) := ⟨h2.os, h2.tape, h2.output, h2.size, h2.block⟩
        refine ⟨?_, HU.out.other h2' (Or.inl (by omega)), HO.out.trans (Only.of_row hr1 h2' (by omega))⟩
        rw [← plusTo_next]
        exact HE.out.turn hlt h1 (ho1.join (HU.out.ok k hlt) _ _) h2'
      have hkeep : ∀ w2, wr.drew.grownBy w2 (some (g + 1 + k)) → w2.cell? ⟨g, k, none⟩ = some (.slice (some ⟨g + 1 + k, 0, none⟩) (wordsN P) (wordsN P)) ∧ w2.cell? ⟨g', k, none⟩ = some (.slice (some ⟨g' + 1 + k, 0, none⟩) (wordsN P) (wordsN P)) := fun w2 h2 =>
        ⟨grown_cell (w0 := wr.drew) hc1 h2 (fun e => by injection e with e; dsimp only at e; omega), grown_cell (w0 := wr.drew) hc2 h2 (fun e => by injection e with e; dsimp only at e; omega)⟩
      have hk0 : wr.cell? ⟨g, k, none⟩ = some (.slice (some ⟨g + 1 + k, 0, none⟩) (wordsN P) (wordsN P)) ∧ wr.cell? ⟨g', k, none⟩ = some (.slice (some ⟨g' + 1 + k, 0, none⟩) (wordsN P) (wordsN P)) := ⟨hc1, hc2⟩
      clear hr1 ho1 e0
      generalize wordsN P = W at *
      go_wp2
      go_region_held3 (fun w' => w'.cell? ⟨g, k, none⟩ = some (.slice (some ⟨g + 1 + k, 0, none⟩) W W) ∧ w'.cell? ⟨g', k, none⟩ = some (.slice (some ⟨g' + 1 + k, 0, none⟩) W W)) (first | exact hk0 | exact hkeep _ ‹_›) ((go_at_call 89; refine hjn.mono ?_; rintro e w2 ⟨rfl, hr2, hg2⟩))
      obtain ⟨q1, q2, q3⟩ := HX.out _ hr2 hg2
      have H1 : Hid _ := q1
      have H2 : Hid _ := q2
      have H3 : Hid _ := q3
      clear hjn hkeep hk0 hc1 hc2 hr2 hg2 q1 q2 q3 HX
      go_wp2
      go_roundw
      case rel => exact ⟨k + 1, by omega, by go_num, H1, H2, H3⟩
      case measure => simp [intOf]; omega
    · obtain rfl : k = P := by omega
      go_wp2
      go_ret
      exact ⟨rfl, HE.out, HO.out⟩
def SeqTo (rs us : Nat → List Nat) (i j : Nat) (x : List Nat) : Prop := ∀ k, hasW x k = true ↔ ∃ m, m < j ∧ hasW (rs i) m = true ∧ hasW (us m) k = true
theorem SeqTo.skip {rs us : Nat → List Nat} {i j : Nat} {x : List Nat} (h : SeqTo rs us i j x) (hn : hasW (rs i) j = false) : SeqTo rs us i (j + 1) x := fun k => by
  rw [h k]
  constructor
  · rintro ⟨m, h1, h2⟩; exact ⟨m, by omega, h2⟩
  · rintro ⟨m, h1, h2⟩
    by_cases e : m = j
    · subst e; rw [hn] at h2; cases h2.1
    · exact ⟨m, by omega, h2⟩
theorem SeqTo.join {rs us : Nat → List Nat} {i j W : Nat} {x : List Nat} (h : SeqTo rs us i j x) (hn : hasW (rs i) j = true) (hx : OkW W x) (hu : OkW W (us j)) (hq : ∀ k, hasW (us j) k = true → j ≤ k) : SeqTo rs us i (j + 1) (joinW x (us j) (j / 64)) := fun k => by
  rw [hasW_join hx hu j k hq, Bool.or_eq_true, h k]
  constructor
  · rintro (⟨m, h1, h2⟩ | h1)
    · exact ⟨m, by omega, h2⟩
    · exact ⟨j, by omega, hn, h1⟩
  · rintro ⟨m, h1, h2, h3⟩
    by_cases e : m = j
    · subst e; exact Or.inr h3
    · exact Or.inl ⟨m, by omega, h2, h3⟩
set_option maxHeartbeats 3200000 in
theorem Try.mseq_any (g g' P : Nat) (rs us : Nat → List Nat) (w : World) (hP : P ≤ 100000) (hA : EndAt w g P rs) (hB : EndAt w g' P us) (hq : ∀ j, j < P → ∀ k, hasW (us j) k = true → j ≤ k) :
    Calls Try.prog 81 #[.slice (some ⟨g, 0, none⟩) P P, .slice (some ⟨g', 0, none⟩) P P] w fun e w' => e = .returned (.slice (some ⟨w.heap.size, 0, none⟩) P P) ∧ (∃ xs, EndAt w' w.heap.size P xs ∧ ∀ i, i < P → SeqTo rs us i P (xs i)) ∧ Below w.heap.size w w' := by
  have hnow := Try.mnow_any P w hP
  have HQ : Hid _ := hq
  have HA : Hid (EndAt w g P rs) := hA
  have HB : Hid (EndAt w g' P us) := hB
  have hl1 := hA.lt
  have hl2 := hB.lt
  clear hA hB hq
  go_enter Try.func81, Try.ntmps81
  go_wp2_with fail
  refine hnow.mono ?_
  rintro e w1 ⟨rfl, hE1, hB1⟩
  have HE1 : Hid (EndAt w1 w.heap.size P (fun _ => List.replicate (wordsN P) 0)) := hE1
  have HB1 : Hid (Below w.heap.size w w1) := hB1
  clear hnow hE1 hB1
  go_wp2
  go_loopw [13] (fun i wr => ∃ n : Nat, n ≤ P ∧ i = .int .i64 n ∧ (∃ xs, Hid (EndAt wr w.heap.size P xs) ∧ Hid (∀ i, i < n → SeqTo rs us i P (xs i)) ∧ Hid (∀ i, n ≤ i → xs i = List.replicate (wordsN P) 0)) ∧ Hid (Below w.heap.size w wr)) (fun i _ => P - (intOf i).toNat)
  case atStart => exact ⟨0, Nat.zero_le _, rfl, ⟨_, HE1, fun i hi => absurd hi (by omega), fun _ _ => rfl⟩, HB1⟩
  case round =>
    obtain ⟨n, hn, rfl, ⟨xs0, HE0, HD0, HZ0⟩, HW0⟩ := hrel
    clear HE1 HB1
    by_cases hnP : n < P
    · go_wp2
      go_loopw [18] (fun i wr => ∃ k : Nat, k ≤ P ∧ i = .int .i64 k ∧ (∃ xs, Hid (EndAt wr w.heap.size P xs) ∧ Hid (∀ i, i < n → SeqTo rs us i P (xs i)) ∧ Hid (SeqTo rs us n k (xs n)) ∧ Hid (∀ i, n + 1 ≤ i → xs i = List.replicate (wordsN P) 0)) ∧ Hid (Below w.heap.size w wr)) (fun i _ => P - (intOf i).toNat)
      case atStart => exact ⟨0, Nat.zero_le _, rfl, ⟨xs0, HE0, HD0, fun k => by rw [HZ0.out n (Nat.le_refl _), hasW_zero]; exact ⟨fun h => (by cases h), fun ⟨m, h, _⟩ => absurd h (by omega)⟩, fun i hi => HZ0.out i (by omega)⟩, HW0⟩
      case round =>
        obtain ⟨k, hk, rfl, ⟨xs, HE, HD, HS, HZ⟩, HW⟩ := hrel
        clear HE0 HD0 HZ0 HW0
        by_cases hlt : k < P
        · have hA2 := HA.out.up HW.out
          have hB2 := HB.out.up HW.out
          have hhas := fun W (h : Below wr.heap.size wr W) => Try.mhas_any (g + 1 + n) (wordsN P) k (rs n) W ((hA2.rows n hnP).up h) (HA.out.ok n hnP) (words_in hlt) (by omega)
          have hi0 := fun w' => Try.idxUs g P n w' hnP
          have hc0 := hA2.cell hnP
          have HSK : Hid _ := HS.out.skip
          have HSJ : Hid _ := fun hn => HS.out.join hn (HE.out.ok n hnP) (HB.out.ok k hlt) (HQ.out k hlt)
          go_wp2_with fail
          refine (hhas _ (Below.refl _ _)).mono ?_
          rintro e w3 ⟨rfl, hb3⟩
          have HE3 : Hid _ := HE.out.up hb3
          have HW3 : Hid (Below w.heap.size w w3) := below_step HW.out hb3
          clear hhas hi0 hc0 hb3 HE HW HS hA2 hB2
          cases hh : hasW (rs n) k with
          | false =>
            have HS4 : Hid _ := HSK.out hh
            clear hh HSK HSJ
            go_wp2
            go_roundw
            case rel => exact ⟨k + 1, by omega, by go_num, ⟨xs, HE3, HD, HS4, HZ⟩, HW3⟩
            case measure => simp [intOf]; omega
          | true =>
            have HS4 : Hid _ := HSJ.out hh
            have hi1 := fun w' => Try.idxUs w.heap.size P n w' hnP
            have hi2 := fun w' => Try.idxUs g' P k w' hlt
            have hc1 := HE3.out.cell hnP
            have hB3 := HB.out.up HW3.out
            have hc2 := hB3.cell hlt
            have hr1 := HE3.out.rows n hnP
            have ho1 := HE3.out.ok n hnP
            have hjn := Try.mjoin_any (w.heap.size + 1 + n) (g' + 1 + k) (wordsN P) k (xs n) (us k) w3.drew hr1 (hB3.rows k hlt) ho1 (hB3.ok k hlt) (fun e => by omega) (words_in hlt) (words_le hP)
            have HX : Hid (∀ w2, RowU w2 (w.heap.size + 1 + n) (joinW (xs n) (us k) (k / 64)) → w3.drew.grownBy w2 (some (w.heap.size + 1 + n)) → EndAt w2 w.heap.size P (upd xs n (joinW (xs n) (us k) (k / 64))) ∧ Below w.heap.size w w2) := fun w2 h1 h2 => by
              have h2' : w3.grownBy w2 (some (w.heap.size + 1 + n)) := ⟨h2.os, h2.tape, h2.output, h2.size, h2.block⟩
              exact ⟨HE3.out.turn hnP h1 (ho1.join (hB3.ok k hlt) _ _) h2', HW3.out.grown h2' HW3.out.size (fun j e => by injection e with e; omega)⟩
            have hkeep : ∀ w2, w3.drew.grownBy w2 (some (w.heap.size + 1 + n)) → w2.cell? ⟨w.heap.size, n, none⟩ = some (.slice (some ⟨w.heap.size + 1 + n, 0, none⟩) (wordsN P) (wordsN P)) ∧ w2.cell? ⟨g', k, none⟩ = some (.slice (some ⟨g' + 1 + k, 0, none⟩) (wordsN P) (wordsN P)) := fun w2 h2 =>
              ⟨grown_cell (w0 := w3.drew) hc1 h2 (fun e => by injection e with e; dsimp only at e; omega), grown_cell (w0 := w3.drew) hc2 h2 (fun e => by injection e with e; dsimp only at e; omega)⟩
            have hk0 : w3.cell? ⟨w.heap.size, n, none⟩ = some (.slice (some ⟨w.heap.size + 1 + n, 0, none⟩) (wordsN P) (wordsN P)) ∧ w3.cell? ⟨g', k, none⟩ = some (.slice (some ⟨g' + 1 + k, 0, none⟩) (wordsN P) (wordsN P)) := ⟨hc1, hc2⟩
            clear hr1 ho1 hB3 hh HSK HSJ HE3 HW3
            generalize hWW : wordsN P = W at *
            have HWW : Hid (wordsN P = W) := hWW
            clear hWW
            go_wp2
            go_region_held3 (fun w' => w'.cell? ⟨w.heap.size, n, none⟩ = some (.slice (some ⟨w.heap.size + 1 + n, 0, none⟩) W W) ∧ w'.cell? ⟨g', k, none⟩ = some (.slice (some ⟨g' + 1 + k, 0, none⟩) W W)) (first | exact hk0 | exact hkeep _ ‹_›) ((go_at_call 89; refine hjn.mono ?_; rintro e w2 ⟨rfl, hr2, hg2⟩))
            obtain ⟨q1, q2⟩ := HX.out _ hr2 hg2
            have H1 : Hid _ := q1
            have H2 : Hid _ := q2
            clear hjn hkeep hk0 hc1 hc2 hr2 hg2 q1 q2 HX
            go_wp2
            go_roundw
            case rel =>
              refine ⟨k + 1, by omega, by go_num, ⟨_, H1, fun i hi => ?_, ?_, fun i hi => ?_⟩, H2⟩
              · rw [upd_ne _ _ (by omega)]; exact HD.out i hi
              · show SeqTo _ _ _ _ _; rw [upd_same]; exact HS4.out
              · rw [upd_ne _ _ (by omega), HWW.out]; exact HZ.out i hi
            case measure => simp [intOf]; omega
        · obtain rfl : k = P := by omega
          go_wp2
          go_roundw
          case rel =>
            refine ⟨n + 1, by omega, by go_num, ⟨xs, HE, fun i hi => ?_, HZ⟩, HW⟩
            by_cases e : i = n
            · subst e; exact HS.out
            · exact HD.out i (by omega)
          case measure => simp [intOf]; omega
    · obtain rfl : n = P := by omega
      go_wp2
      go_ret
      exact ⟨rfl, ⟨xs0, HE0.out, HD0.out⟩, HW0.out⟩
end Go.Proofs.Ytfgaieefejdkbaa
