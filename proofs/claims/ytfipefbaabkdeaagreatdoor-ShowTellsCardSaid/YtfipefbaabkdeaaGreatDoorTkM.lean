/- The document's tokens: how many parts a token takes; which put a path; which are of letters alone. -/
import Derived.Test.YtfipefbaabkdeaaGreatDoorKGen
import Derived.Test.YtfipefbaabkdeaaGreatDoorTermK
import Derived.Test.YtfipefbaabkdeaaGreatDoorTermQ
import Derived.Deep.RegionHeld3
import Derived.Deep.DeepCutAuto
import Derived.Test.YtfipefbaabkdeaaGreatDoorWTk
import Derived.Test.YtfipefbaabkdeaaGreatDoorWTe3
import Derived.Test.YtfipefbaabkdeaaGreatDoorWTe4
namespace Go.Proofs.YtfipefbaabkdeaaGreatDoor
open Go.RowKit Go.Maps

def takesI (t : Tk) : Int := match takesN t with | none => -1 | some n => (n : Int)

theorem Tryz.isPath_any (op : Nat) (w : World) :
    Calls Tryz.prog 81 #[.int .u8 (op : Int)] w fun e w' => e = .returned (.bool (isPathB op)) ∧ w' = w := by
  by_cases h : 19 ≤ op
  · have HX : Hid (isPathB op = true) := decide_eq_true h
    have h1 : (19 : Int) ≤ (op : Int) := by omega
    go_enter Tryz.func81, Tryz.ntmps81
    go_wp2
    go_ret
    exact ⟨by rw [HX.out]; rfl, rfl⟩
  · have HX : Hid (isPathB op = false) := decide_eq_false h
    have h1 : decide ((19 : Int) ≤ (op : Int)) = false := decide_eq_false (by omega)
    go_enter Tryz.func81, Tryz.ntmps81
    go_wp2
    go_ret
    exact ⟨by rw [HX.out]; rfl, rfl⟩
set_option maxHeartbeats 1000000 in
theorem Tryz.plainOp_any (op : Nat) (w : World) (hop : op ≤ 23) :
    Calls Tryz.prog 82 #[.int .u8 (op : Int)] w fun e w' => e = .returned (.bool (plainB op)) ∧ w' = w := by
  rcases op_cases hop with rfl | rfl | rfl | rfl | rfl | rfl | rfl | rfl | rfl | rfl | rfl | rfl | rfl | rfl | rfl | rfl | rfl | rfl | rfl | rfl | rfl | rfl | rfl | rfl <;>
  · go_enter Tryz.func82, Tryz.ntmps82
    go_wp2
    go_ret
    exact ⟨rfl, rfl⟩
set_option maxHeartbeats 4000000 in
theorem Tryz.takes_small (op p : Nat) (w : World) (hop : op ≤ 23) (hp : p < 256) :
    Calls Tryz.prog 32 #[.agg #[.int .u8 (op : Int), .int .u8 (p : Int)]] w fun e w' => e = .returned (.int .i64 (takesI (op, p))) ∧ Below w.heap.size w w' := by
  by_cases h2 : op = 2
  · subst h2
    by_cases hp7 : 7 < p
    · have HX : Hid (takesI (2, p) = -1) := by show _ = _; simp [takesI, takesN, hp7]
      have h7 : (7 : Int) < (p : Int) := by omega
      go_enter Tryz.func32, Tryz.ntmps32
      go_wp2
      go_ret
      exact ⟨by rw [HX.out]; rfl, below_new _ _⟩
    · have HX : Hid (takesI (2, p) = 0) := by show _ = _; simp [takesI, takesN, hp7]
      have h7 : decide ((7 : Int) < (p : Int)) = false := decide_eq_false (by omega)
      go_enter Tryz.func32, Tryz.ntmps32
      go_wp2
      go_ret
      exact ⟨by rw [HX.out]; rfl, below_new _ _⟩
  · by_cases hp0 : p = 0
    · subst hp0
      rcases op_cases hop with rfl | rfl | rfl | rfl | rfl | rfl | rfl | rfl | rfl | rfl | rfl | rfl | rfl | rfl | rfl | rfl | rfl | rfl | rfl | rfl | rfl | rfl | rfl | rfl <;>
      first
      | exact absurd rfl h2
      | (go_enter Tryz.func32, Tryz.ntmps32
         go_wp2
         go_ret
         exact ⟨rfl, below_new _ _⟩)
    · have HX : Hid (takesI (op, p) = -1) := by show _ = _; simp [takesI, takesN, h2, hp0]
      have h3 : ((op : Int) != 2) = true := by simp; omega
      have h4 : ((p : Int) != 0) = true := by simp; omega
      have h5 : decide ((23 : Int) < (op : Int)) = false := decide_eq_false (by omega)
      go_enter Tryz.func32, Tryz.ntmps32
      go_wp2
      go_ret
      exact ⟨by rw [HX.out]; rfl, below_new _ _⟩
theorem Tryz.takes_any (op p : Nat) (w : World) (hp : p < 256) :
    Calls Tryz.prog 32 #[.agg #[.int .u8 (op : Int), .int .u8 (p : Int)]] w fun e w' => e = .returned (.int .i64 (takesI (op, p))) ∧ Below w.heap.size w w' := by
  by_cases hop : op ≤ 23
  · exact Tryz.takes_small op p w hop hp
  · have HX : Hid (takesI (op, p) = -1) := by show _ = _; unfold takesI takesN; rw [if_pos (Or.inl (by omega))]
    have h5 : (23 : Int) < (op : Int) := by omega
    go_enter Tryz.func32, Tryz.ntmps32
    go_wp2
    go_ret
    exact ⟨by rw [HX.out]; rfl, below_new _ _⟩
end Go.Proofs.YtfipefbaabkdeaaGreatDoor
namespace Go.Proofs.YtfipefbaabkdeaaGreatDoor
open Go.RowKit Go.Maps

/-- A list of parts as the walk reads it. -/
structure PtSl (P : Program) (T : TypeId) (w : World) (a : Option Addr) (g o len cap : Nat) (ps : List Pt) : Prop where
  hlen : ps.length = len
  hcap : len ≤ cap
  bd : cap ≤ maxLen
  idx : ∀ (n k : Nat) (w : World), k < n → n ≤ len → (Instr.indexAt T (.slice a n cap) (.int .i64 k)).run P w = .ok (.pointer (some ⟨g, o + 4 * k, none⟩)) w
  c0 : ∀ k (h : k < ps.length), w.cell? ⟨g, o + 4 * k, none⟩ = some (.bool ps[k].path)
  c1 : ∀ k (h : k < ps.length), w.cell? ⟨g, o + 4 * k + 1, none⟩ = some (.bool ps[k].plain)
  c2 : ∀ k (h : k < ps.length), w.cell? ⟨g, o + 4 * k + 2, none⟩ = some (.int .i64 (ps[k].dep : Int))
  c3 : ∀ k (h : k < ps.length), w.cell? ⟨g, o + 4 * k + 3, none⟩ = some (.int .i64 (ps[k].frm : Int))
  blk : 0 < len → g < w.heap.size
theorem PtSl.later {P : Program} {T : TypeId} {w w' : World} {a : Option Addr} {g o len cap : Nat} {ps : List Pt} (h : PtSl P T w a g o len cap ps) {B : Nat} (hb : Below B w w') (hB : 0 < len → g < B) : PtSl P T w' a g o len cap ps :=
  ⟨h.hlen, h.hcap, h.bd, h.idx, fun k hk => (hb.cell (hB (by have := h.hlen; omega))).trans (h.c0 k hk), fun k hk => (hb.cell (hB (by have := h.hlen; omega))).trans (h.c1 k hk), fun k hk => (hb.cell (hB (by have := h.hlen; omega))).trans (h.c2 k hk), fun k hk => (hb.cell (hB (by have := h.hlen; omega))).trans (h.c3 k hk), fun hk => Nat.lt_of_lt_of_le (h.blk hk) hb.size⟩
theorem PtSl.up {P : Program} {T : TypeId} {w w' : World} {a : Option Addr} {g o len cap : Nat} {ps : List Pt} (h : PtSl P T w a g o len cap ps) (hb : Below w.heap.size w w') : PtSl P T w' a g o len cap ps := h.later hb h.blk

theorem fits_two {op : Nat} (h : op = 17 ∨ op = 18) (x y : Pt) : fitsP op [x, y] = (x.path && !y.path) := by unfold fitsP; rw [if_pos h]
theorem fits_step (x : Pt) : fitsP 19 [x] = (!x.path && x.plain) := by rfl
theorem fits_paths {op : Nat} (h : op = 21 ∨ op = 22) (x y : Pt) : fitsP op [x, y] = (x.path && y.path) := by rcases h with rfl | rfl <;> rfl
theorem fits_star (x : Pt) : fitsP 23 [x] = x.path := by rfl
theorem fits_rest {op : Nat} (h1 : op ≠ 17) (h2 : op ≠ 18) (h3 : op ≠ 19) (h4 : op ≠ 21) (h5 : op ≠ 22) (h6 : op ≠ 23) (a : List Pt) : fitsP op a = a.all fun x => !x.path := by
  unfold fitsP; rw [if_neg (by omega), if_neg h3, if_neg (by omega), if_neg h6]

set_option maxHeartbeats 1000000 in
/-- The ops that ask that no part be a path. -/
theorem Tryz.fits_plain (op : Nat) (a : Option Addr) (g o len cap : Nat) (ps : List Pt) (w : World) (hS : PtSl Tryz.prog 67 w a g o len cap ps) (hl2 : len ≤ 2) (h1 : op ≠ 17) (h2 : op ≠ 18) (h3 : op ≠ 19) (h4 : op ≠ 21) (h5 : op ≠ 22) (h6 : op ≠ 23) :
    Calls Tryz.prog 59 #[.int .u8 (op : Int), .slice a len cap] w fun e w' => e = .returned (.bool (fitsP op ps)) ∧ ∃ n, w' = w.drewN n := by
  have HX : Hid _ := fits_rest h1 h2 h3 h4 h5 h6 ps
  have q1 : ((op : Int) == 17) = false := by rw [beq_eq_false_iff_ne]; omega
  have q2 : ((op : Int) == 18) = false := by rw [beq_eq_false_iff_ne]; omega
  have q3 : ((op : Int) == 19) = false := by rw [beq_eq_false_iff_ne]; omega
  have q4 : ((op : Int) == 21) = false := by rw [beq_eq_false_iff_ne]; omega
  have q5 : ((op : Int) == 22) = false := by rw [beq_eq_false_iff_ne]; omega
  have q6 : ((op : Int) == 23) = false := by rw [beq_eq_false_iff_ne]; omega
  have hidx := fun (k : Nat) (w : World) (h : k < len) => hS.idx len k w h (Nat.le_refl _)
  have hlen := hS.hlen
  clear h1 h2 h3 h4 h5 h6
  go_enter Tryz.func59, Tryz.ntmps59
  go_wp2
  go_loopw [5] (fun i wr => ∃ k : Nat, k ≤ len ∧ i = .int .i64 k ∧ Hid ((ps.take k).all (fun x => !x.path) = true) ∧ Hid (∃ n, wr = w.drewN n)) (fun i _ => len - (intOf i).toNat)
  case atStart => exact ⟨0, Nat.zero_le _, rfl, by show _ = _; simp, 0, rfl⟩
  case round =>
    obtain ⟨k, hk, rfl, HU, hwr⟩ := hrel
    by_cases hlt : k < len
    · have hkl : k < ps.length := by omega
      have hc := (hS.up (below_of_drew hwr.out)).c0 k hkl
      have HN : Hid (ps[k].path = false → (ps.take (k + 1)).all (fun x => !x.path) = true) := fun h => by
        rw [List.take_add_one, List.getElem?_eq_getElem hkl, List.all_append, HU.out]; simp [h]
      have HF : Hid (ps[k].path = true → fitsP op ps = false) := fun h => by
        rw [HX.out, List.all_eq_false]; exact ⟨ps[k], List.getElem_mem hkl, by simp [h]⟩
      generalize ps[k].path = q at *
      cases q with
      | false =>
        go_wp2
        go_roundw
        case rel => exact ⟨k + 1, by omega, by go_num, HN.out (by first | rfl | trivial), hwr⟩
        case measure => simp [intOf]; omega
      | true =>
        go_wp2
        go_ret
        exact ⟨by rw [HF.out (by first | rfl | trivial)]; rfl, hwr.out⟩
    · obtain rfl : k = len := by omega
      have HT : Hid (fitsP op ps = true) := by
        rw [HX.out]; have := HU.out; rw [List.take_of_length_le (by omega)] at this; exact this
      go_wp2
      go_ret
      exact ⟨by rw [HT.out]; rfl, hwr.out⟩
set_option maxHeartbeats 1000000 in
theorem Tryz.fits_mod (op : Nat) (hop : op = 17 ∨ op = 18) (a : Option Addr) (g o cap : Nat) (x y : Pt) (w : World) (hS : PtSl Tryz.prog 67 w a g o 2 cap [x, y]) :
    Calls Tryz.prog 59 #[.int .u8 (op : Int), .slice a 2 cap] w fun e w' => e = .returned (.bool (fitsP op [x, y])) ∧ ∃ n, w' = w.drewN n := by
  have HX : Hid _ := fits_two hop x y
  have hi0 : ∀ w, (Instr.indexAt 67 (.slice a 2 cap) (.int .i64 0)).run Tryz.prog w = .ok (.pointer (some ⟨g, o + 4 * 0, none⟩)) w := fun w => hS.idx 2 0 w (by decide) (by decide)
  have hi1 : ∀ w, (Instr.indexAt 67 (.slice a 2 cap) (.int .i64 1)).run Tryz.prog w = .ok (.pointer (some ⟨g, o + 4 * 1, none⟩)) w := fun w => hS.idx 2 1 w (by decide) (by decide)
  have hc0 : w.cell? ⟨g, o + 4 * 0, none⟩ = some (.bool x.path) := hS.c0 0 (by simp)
  have hc1 : w.cell? ⟨g, o + 4 * 1, none⟩ = some (.bool y.path) := hS.c0 1 (by simp)
  generalize o + 4 * 0 = o0 at *
  generalize o + 4 * 1 = o1 at *
  generalize x.path = p at *
  generalize y.path = q at *
  rcases hop with rfl | rfl <;> cases p <;> cases q <;>
  · go_enter Tryz.func59, Tryz.ntmps59
    go_wp2
    go_ret
    exact ⟨by rw [HX.out]; rfl, 0, rfl⟩
set_option maxHeartbeats 1000000 in
theorem Tryz.fits_pp (op : Nat) (hop : op = 21 ∨ op = 22) (a : Option Addr) (g o cap : Nat) (x y : Pt) (w : World) (hS : PtSl Tryz.prog 67 w a g o 2 cap [x, y]) :
    Calls Tryz.prog 59 #[.int .u8 (op : Int), .slice a 2 cap] w fun e w' => e = .returned (.bool (fitsP op [x, y])) ∧ ∃ n, w' = w.drewN n := by
  have HX : Hid _ := fits_paths hop x y
  have hi0 : ∀ w, (Instr.indexAt 67 (.slice a 2 cap) (.int .i64 0)).run Tryz.prog w = .ok (.pointer (some ⟨g, o + 4 * 0, none⟩)) w := fun w => hS.idx 2 0 w (by decide) (by decide)
  have hi1 : ∀ w, (Instr.indexAt 67 (.slice a 2 cap) (.int .i64 1)).run Tryz.prog w = .ok (.pointer (some ⟨g, o + 4 * 1, none⟩)) w := fun w => hS.idx 2 1 w (by decide) (by decide)
  have hc0 : w.cell? ⟨g, o + 4 * 0, none⟩ = some (.bool x.path) := hS.c0 0 (by simp)
  have hc1 : w.cell? ⟨g, o + 4 * 1, none⟩ = some (.bool y.path) := hS.c0 1 (by simp)
  generalize o + 4 * 0 = o0 at *
  generalize o + 4 * 1 = o1 at *
  generalize x.path = p at *
  generalize y.path = q at *
  rcases hop with rfl | rfl <;> cases p <;> cases q <;>
  · go_enter Tryz.func59, Tryz.ntmps59
    go_wp2
    go_ret
    exact ⟨by rw [HX.out]; rfl, 0, rfl⟩
set_option maxHeartbeats 1000000 in
theorem Tryz.fits_st (a : Option Addr) (g o cap : Nat) (x : Pt) (w : World) (hS : PtSl Tryz.prog 67 w a g o 1 cap [x]) :
    Calls Tryz.prog 59 #[.int .u8 19, .slice a 1 cap] w fun e w' => e = .returned (.bool (fitsP 19 [x])) ∧ ∃ n, w' = w.drewN n := by
  have HX : Hid _ := fits_step x
  have hi0 : ∀ w, (Instr.indexAt 67 (.slice a 1 cap) (.int .i64 0)).run Tryz.prog w = .ok (.pointer (some ⟨g, o + 4 * 0, none⟩)) w := fun w => hS.idx 1 0 w (by decide) (by decide)
  have hc0 : w.cell? ⟨g, o + 4 * 0, none⟩ = some (.bool x.path) := hS.c0 0 (by simp)
  have hc1 : w.cell? ⟨g, o + 4 * 0 + 1, none⟩ = some (.bool x.plain) := hS.c1 0 (by simp)
  generalize o + 4 * 0 = o0 at *
  generalize x.path = p at *
  generalize x.plain = q at *
  cases p <;> cases q <;>
  · go_enter Tryz.func59, Tryz.ntmps59
    go_wp2
    go_ret
    exact ⟨by rw [HX.out]; rfl, 0, rfl⟩
theorem Tryz.fits_sr (a : Option Addr) (g o cap : Nat) (x : Pt) (w : World) (hS : PtSl Tryz.prog 67 w a g o 1 cap [x]) :
    Calls Tryz.prog 59 #[.int .u8 23, .slice a 1 cap] w fun e w' => e = .returned (.bool (fitsP 23 [x])) ∧ ∃ n, w' = w.drewN n := by
  have HX : Hid _ := fits_star x
  have hi0 : ∀ w, (Instr.indexAt 67 (.slice a 1 cap) (.int .i64 0)).run Tryz.prog w = .ok (.pointer (some ⟨g, o + 4 * 0, none⟩)) w := fun w => hS.idx 1 0 w (by decide) (by decide)
  have hc0 : w.cell? ⟨g, o + 4 * 0, none⟩ = some (.bool x.path) := hS.c0 0 (by simp)
  generalize o + 4 * 0 = o0 at *
  generalize x.path = p at *
  go_enter Tryz.func59, Tryz.ntmps59
  go_wp2
  go_ret
  exact ⟨by rw [HX.out]; rfl, 0, rfl⟩
/-- May a token take these parts? As many as it takes. -/
theorem Tryz.fits_any (op p : Nat) (a : Option Addr) (g o len cap : Nat) (ps : List Pt) (w : World) (hS : PtSl Tryz.prog 67 w a g o len cap ps) (ht : takesN (op, p) = some len) :
    Calls Tryz.prog 59 #[.int .u8 (op : Int), .slice a len cap] w fun e w' => e = .returned (.bool (fitsP op ps)) ∧ ∃ n, w' = w.drewN n := by
  have hl2 := takesN_le ht
  have hlen := hS.hlen
  have two : (op = 17 ∨ op = 18 ∨ op = 21 ∨ op = 22) → len = 2 := fun h => by
    unfold takesN at ht
    split at ht
    · cases ht
    · rw [if_neg (by dsimp only; omega), if_neg (by dsimp only; omega)] at ht; injection ht with ht; omega
  have one : (op = 19 ∨ op = 23) → len = 1 := fun h => by
    unfold takesN at ht
    split at ht
    · cases ht
    · rw [if_neg (by dsimp only; omega), if_pos (by dsimp only; omega)] at ht; injection ht with ht; omega
  by_cases h1 : op = 17 ∨ op = 18
  · obtain rfl := two (by omega)
    match ps, hlen with
    | [x, y], _ => exact Tryz.fits_mod op h1 a g o cap x y w hS
  · by_cases h2 : op = 21 ∨ op = 22
    · obtain rfl := two (by omega)
      match ps, hlen with
      | [x, y], _ => exact Tryz.fits_pp op h2 a g o cap x y w hS
    · by_cases h3 : op = 19
      · subst h3
        obtain rfl := one (by omega)
        match ps, hlen with
        | [x], _ => exact Tryz.fits_st a g o cap x w hS
      · by_cases h4 : op = 23
        · subst h4
          obtain rfl := one (by omega)
          match ps, hlen with
          | [x], _ => exact Tryz.fits_sr a g o cap x w hS
        · exact Tryz.fits_plain op a g o len cap ps w hS hl2 (by omega) (by omega) h3 (by omega) (by omega) h4
end Go.Proofs.YtfipefbaabkdeaaGreatDoor
namespace Go.Proofs.YtfipefbaabkdeaaGreatDoor
open Go.RowKit Go.Maps

def ptCells (p : Pt) : Array Value := #[.bool p.path, .bool p.plain, .int .i64 (p.dep : Int), .int .i64 (p.frm : Int)]
/-- Block g is a variable that holds a part. -/
def PtBlk (w : World) (g : Nat) (t : TypeId) (p : Pt) : Prop := w.heap[g]? = some (.cells (ptCells p) t (0, 0))
theorem PtBlk.lt {w : World} {g : Nat} {t : TypeId} {p : Pt} (h : PtBlk w g t p) : g < w.heap.size := (Array.getElem?_eq_some_iff.1 h).1
theorem PtBlk.up {w w' : World} {g : Nat} {t : TypeId} {p : Pt} (h : PtBlk w g t p) (hb : Below w.heap.size w w') : PtBlk w' g t p := (hb.block g h.lt).trans h
theorem PtBlk.c0 {w : World} {g : Nat} {t : TypeId} {p : Pt} (h : PtBlk w g t p) : w.cell? ⟨g, 0, none⟩ = some (.bool p.path) := by unfold PtBlk at h; simp [World.cell?, h, ptCells]
theorem PtBlk.c1 {w : World} {g : Nat} {t : TypeId} {p : Pt} (h : PtBlk w g t p) : w.cell? ⟨g, 1, none⟩ = some (.bool p.plain) := by unfold PtBlk at h; simp [World.cell?, h, ptCells]
theorem PtBlk.c2 {w : World} {g : Nat} {t : TypeId} {p : Pt} (h : PtBlk w g t p) : w.cell? ⟨g, 2, none⟩ = some (.int .i64 (p.dep : Int)) := by unfold PtBlk at h; simp [World.cell?, h, ptCells]
theorem PtBlk.c3 {w : World} {g : Nat} {t : TypeId} {p : Pt} (h : PtBlk w g t p) : w.cell? ⟨g, 3, none⟩ = some (.int .i64 (p.frm : Int)) := by unfold PtBlk at h; simp [World.cell?, h, ptCells]
theorem PtBlk.fz {w : World} {g : Nat} {t : TypeId} {p : Pt} (h : PtBlk w g t p) (i : Nat) : w.frozen? ⟨g, i, none⟩ = false := frozen_of_row w g i _ t h
theorem PtBlk.set1 {w : World} {g : Nat} {t : TypeId} {p : Pt} (h : PtBlk w g t p) (x : Bool) : PtBlk (w.setCell ⟨g, 1, none⟩ (.bool x)) g t { p with plain := x } := heap_setCell_same w g 1 _ t (.bool x) h
theorem PtBlk.set2 {w : World} {g : Nat} {t : TypeId} {p : Pt} (h : PtBlk w g t p) (x : Nat) : PtBlk (w.setCell ⟨g, 2, none⟩ (.int .i64 (x : Int))) g t { p with dep := x } := heap_setCell_same w g 2 _ t (.int .i64 (x : Int)) h
theorem PtBlk.set3 {w : World} {g : Nat} {t : TypeId} {p : Pt} (h : PtBlk w g t p) (x : Nat) : PtBlk (w.setCell ⟨g, 3, none⟩ (.int .i64 (x : Int))) g t { p with frm := x } := heap_setCell_same w g 3 _ t (.int .i64 (x : Int)) h

theorem foldl_dep_le {l : List Pt} (h : ∀ x ∈ l, x.dep ≤ 1000000) : ∀ (d : Nat), d ≤ 1000001 → l.foldl (fun d x => max d (x.dep + 1)) d ≤ 1000001 := by
  induction l with
  | nil => intro d hd; exact hd
  | cons y r ih =>
    intro d hd
    have hy := h y (by simp)
    exact ih (fun x hx => h x (List.mem_cons_of_mem _ hx)) _ (by dsimp only; omega)
/-- The part as far as the first k parts tell. -/
def putTo (op i : Nat) (ps : List Pt) (k : Nat) : Pt := ⟨isPathB op, plainB op && (ps.take k).all (·.plain), (ps.take k).foldl (fun d x => max d (x.dep + 1)) 1, i⟩
theorem putTo_next {op i k : Nat} {ps : List Pt} (h : k < ps.length) : putTo op i ps (k + 1) = { putTo op i ps k with plain := (putTo op i ps k).plain && ps[k].plain, dep := max (putTo op i ps k).dep (ps[k].dep + 1) } := by
  have e : ps.take (k + 1) = ps.take k ++ [ps[k]] := by rw [List.take_add_one, List.getElem?_eq_getElem h]; rfl
  unfold putTo
  rw [e, List.all_append, List.foldl_append, ← Bool.and_assoc]
  simp
theorem putTo_dep {op i k : Nat} {ps : List Pt} (h : ∀ x ∈ ps, x.dep ≤ 1000000) : (putTo op i ps k).dep ≤ 1000001 := foldl_dep_le (fun x hx => h x (List.mem_of_mem_take hx)) 1 (by decide)
theorem putTo_all {op pp i : Nat} {ps : List Pt} : putP (op, pp) ps i = { putTo op i ps ps.length with frm := (putP (op, pp) ps i).frm } := by
  unfold putTo putP; simp

theorem PtBlk.other {w : World} {g g' : Nat} {t : TypeId} {p : Pt} (h : PtBlk w g t p) (hne : g ≠ g') (i : Nat) (x : Value) : PtBlk (w.setCell ⟨g', i, none⟩ x) g t p := (Below.heap_setCell _ _ _ _ hne).trans h
set_option maxHeartbeats 2000000 in
theorem Tryz.rput_any (op pp i : Nat) (a : Option Addr) (g o len cap : Nat) (ps : List Pt) (w : World) (hS : PtSl Tryz.prog 67 w a g o len cap ps) (hl2 : len ≤ 2) (hop : op ≤ 23) (hd : ∀ x ∈ ps, x.dep ≤ 1000000) :
    Calls Tryz.prog 60 #[.agg #[.int .u8 (op : Int), .int .u8 (pp : Int)], .slice a len cap, .int .i64 (i : Int)] w fun e w' => e = .returned (.agg (ptCells (putP (op, pp) ps i))) ∧ Below w.heap.size w w' := by
  have hip := fun w => Tryz.isPath_any op w
  have hpl := fun w => Tryz.plainOp_any op w hop
  have hidx := fun (k : Nat) (w : World) (h : k < len) => hS.idx len k w h (Nat.le_refl _)
  have hlen := hS.hlen
  go_enter Tryz.func60, Tryz.ntmps60
  go_upto_region 1 with fail
  go_cut [7] (fun t wx => t = .pointer (some ⟨w.heap.size + 1 + 1, 0, none⟩) ∧ Hid (PtBlk wx (w.heap.size + 1 + 1) 93 (putTo op i ps 0)) ∧ Hid (PtBlk wx (w.heap.size + 1) 93 ⟨false, false, 0, 0⟩) ∧ Hid (Below w.heap.size w wx))
  case first =>
    go_region_held3 (fun w' => w'.cell? ⟨w.heap.size, 0, none⟩ = some (.int .u8 (op : Int))) (simp [go_sem]) (first | (go_at_call 81; refine (hip _).mono ?_; rintro e w' ⟨rfl, rfl⟩) | (go_at_call 82; refine (hpl _).mono ?_; rintro e w' ⟨rfl, rfl⟩))
    all_goals
      go_wp2_with fail
      go_meet
      refine ⟨rfl, ?_, ?_, ?_⟩
      · show PtBlk _ _ _ _
        have := (MapKept.heap_alloc ((w.alloc (.cells #[.int .u8 (op : Int), .int .u8 (pp : Int)] 41)).alloc (.cells #[.bool false, .bool false, .int .i64 0, .int .i64 0] 93)) (.cells #[.bool (isPathB op), .bool (plainB op), .int .i64 1, .int .i64 (i : Int)] 93)).1
        have h2 : PtBlk (((w.alloc (.cells #[.int .u8 (op : Int), .int .u8 (pp : Int)] 41)).alloc (.cells #[.bool false, .bool false, .int .i64 0, .int .i64 0] 93)).alloc (.cells #[.bool (isPathB op), .bool (plainB op), .int .i64 1, .int .i64 (i : Int)] 93)) (w.heap.size + 1 + 1) 93 (putTo op i ps 0) := by simpa [PtBlk, putTo, ptCells] using this
        exact h2
      · show PtBlk _ _ _ _
        have := (MapKept.heap_alloc (w.alloc (.cells #[.int .u8 (op : Int), .int .u8 (pp : Int)] 41)) (.cells #[.bool false, .bool false, .int .i64 0, .int .i64 0] 93)).1
        have h2 : PtBlk ((w.alloc (.cells #[.int .u8 (op : Int), .int .u8 (pp : Int)] 41)).alloc (.cells #[.bool false, .bool false, .int .i64 0, .int .i64 0] 93)) (w.heap.size + 1) 93 ⟨false, false, 0, 0⟩ := by simpa [PtBlk, ptCells] using this
        exact h2.up (below_new _ _).drew
      · show Below _ _ _
        exact ((((below_new w _).alloc (by simp) _).alloc (by simp; omega) _)).drew
  case rest =>
    obtain ⟨rfl, hB, hZ, hbw⟩ := hcut
    go_wp2
    go_loopw [8] (fun j wr => ∃ k : Nat, k ≤ len ∧ j = .int .i64 k ∧ Hid (PtBlk wr (w.heap.size + 1 + 1) 93 (putTo op i ps k)) ∧ Hid (PtBlk wr (w.heap.size + 1) 93 ⟨false, false, 0, 0⟩) ∧ Hid (Below w.heap.size w wr)) (fun j _ => len - (intOf j).toNat)
    case atStart => exact ⟨0, Nat.zero_le _, rfl, hB, hZ, hbw⟩
    case round =>
      obtain ⟨k, hk, rfl, hBk, hZk, hbk⟩ := hrel
      by_cases hlt : k < len
      · have hkl : k < ps.length := by omega
        have HN : Hid _ := putTo_next (op := op) (i := i) hkl
        have hdk := putTo_dep (op := op) (i := i) (k := k) hd
        have hdx := hd ps[k] (List.getElem_mem hkl)
        have hgw : g < w.heap.size := hS.blk (by omega)
        have hSk := hS.up hbk.out
        have hp1 := hSk.c1 k hkl
        have hp2 := hSk.c2 k hkl
        have hq1 := hBk.out.c1
        have hf1 := hBk.out.fz 1
        have HB1 : ∀ x, Hid (PtBlk _ _ _ _) := fun x => hBk.out.set1 x
        have hq2 := fun x => (HB1 x).out.c2
        have hf2 := fun x => (HB1 x).out.fz 2
        have hp2' : ∀ x, (wr.setCell ⟨w.heap.size + 1 + 1, 1, none⟩ x).cell? ⟨g, o + 4 * k + 2, none⟩ = some (.int .i64 (ps[k].dep : Int)) := fun x => by
          rw [← hp2]; exact World.cell?_setCell_other _ _ _ _ (by intro e; injection e; omega)
        have hw1 : ∀ z : Nat, z ≤ 1000000 → IntKind.i64.wrap ((z : Int) + 1) = ((z + 1 : Nat) : Int) := fun z hz => by rw [IntKind.wrap_i64]; omega
        have hwx := hw1 _ hdx
        generalize hP : putTo op i ps k = P at *
        obtain ⟨p0, p1, p2, p3⟩ := P
        generalize hX : ps[k] = X at *
        obtain ⟨x0, x1, x2, x3⟩ := X
        dsimp only at *
        clear hidx
        have hidx := fun w => hS.idx len k w hlt (Nat.le_refl _)
        cases p1 with
        | false =>
          go_wp2
          by_cases hm : p2 < x2 + 1
          · go_region
            go_wp2
            refine ⟨⟨k + 1, by omega, by go_num, ?_, ?_, ?_⟩, by simp [intOf]; omega⟩
            · show PtBlk _ _ _ _
              have h := (HB1 false).out.set2 (x2 + 1)
              have e : putTo op i ps (k + 1) = ⟨p0, false, (x2 + 1), p3⟩ := by rw [HN.out]; simp; omega
              rw [e]; exact h
            · show PtBlk _ _ _ _
              exact (PtBlk.other (PtBlk.other hZk.out (by omega) _ _) (by omega) _ _)
            · show Below _ _ _
              exact ((hbk.out.setCell (by dsimp only; omega) _).setCell (by dsimp only; omega) _).drew
          · go_region
            go_wp2
            refine ⟨⟨k + 1, by omega, by go_num, ?_, ?_, ?_⟩, by simp [intOf]; omega⟩
            · show PtBlk _ _ _ _
              have h := (HB1 false).out.set2 p2
              have e : putTo op i ps (k + 1) = ⟨p0, false, p2, p3⟩ := by rw [HN.out]; simp; omega
              rw [e]; exact h
            · show PtBlk _ _ _ _
              exact (PtBlk.other (PtBlk.other hZk.out (by omega) _ _) (by omega) _ _)
            · show Below _ _ _
              exact ((hbk.out.setCell (by dsimp only; omega) _).setCell (by dsimp only; omega) _).drew
        | true =>
          go_wp2
          by_cases hm : p2 < x2 + 1
          · go_region
            go_wp2
            refine ⟨⟨k + 1, by omega, by go_num, ?_, ?_, ?_⟩, by simp [intOf]; omega⟩
            · show PtBlk _ _ _ _
              have h := (HB1 x1).out.set2 (x2 + 1)
              have e : putTo op i ps (k + 1) = ⟨p0, x1, (x2 + 1), p3⟩ := by rw [HN.out]; simp; omega
              rw [e]; exact h
            · show PtBlk _ _ _ _
              exact (PtBlk.other (PtBlk.other hZk.out (by omega) _ _) (by omega) _ _)
            · show Below _ _ _
              exact ((hbk.out.setCell (by dsimp only; omega) _).setCell (by dsimp only; omega) _).drew
          · go_region
            go_wp2
            refine ⟨⟨k + 1, by omega, by go_num, ?_, ?_, ?_⟩, by simp [intOf]; omega⟩
            · show PtBlk _ _ _ _
              have h := (HB1 x1).out.set2 p2
              have e : putTo op i ps (k + 1) = ⟨p0, x1, p2, p3⟩ := by rw [HN.out]; simp; omega
              rw [e]; exact h
            · show PtBlk _ _ _ _
              exact (PtBlk.other (PtBlk.other hZk.out (by omega) _ _) (by omega) _ _)
            · show Below _ _ _
              exact ((hbk.out.setCell (by dsimp only; omega) _).setCell (by dsimp only; omega) _).drew
      · obtain rfl : k = len := by omega
        have hz0 := hZk.out.c0
        have hz1 := hZk.out.c1
        have hz2 := hZk.out.c2
        have hz3 := hZk.out.c3
        have hy := hZk.out.fz
        by_cases h0 : k = 0
        · subst h0
          have HE : Hid _ := (List.eq_nil_of_length_eq_zero hlen)
          have HP : Hid (putP (op, pp) ps i = putTo op i ps 0) := by show _ = _; rw [HE.out]; simp [putP, putTo]
          have hq0 := hBk.out.c0
          have hq1 := hBk.out.c1
          have hq2 := hBk.out.c2
          have hq3 := hBk.out.c3
          go_wp2
          refine bodyPost_ret (v := .agg (ptCells (putTo op i ps 0))) (by simp [results, Tryz.results60, go_sem, hz0, hz1, hz2, hz3, ptCells]) rfl ⟨by rw [HP.out], ?_⟩
          exact (((hbk.out.setCell (by dsimp only; omega) _).setCell (by dsimp only; omega) _).setCell (by dsimp only; omega) _).setCell (by dsimp only; omega) _
        · have hkl : 0 < ps.length := by omega
          have hp3 := (hS.up hbk.out).c3 0 hkl
          have hidx0 : ∀ w, (Instr.indexAt 67 (.slice a k cap) (.int .i64 0)).run Tryz.prog w = .ok (.pointer (some ⟨g, o + 4 * 0, none⟩)) w := fun w => hS.idx k 0 w (by omega) (Nat.le_refl _)
          have HP : Hid (putP (op, pp) ps i = { putTo op i ps k with frm := ps[0].frm }) := by
            show _ = _; rw [putTo_all, hlen]
            match ps, hkl with
            | x :: r, _ => rfl
          have hf3 := hBk.out.fz 3
          have hq3 := hBk.out.c3
          have HB3 : Hid (PtBlk _ _ _ _) := hBk.out.set3 ps[0].frm
          have hr0 := HB3.out.c0
          have hr1 := HB3.out.c1
          have hr2 := HB3.out.c2
          have hr3 := HB3.out.c3
          have HZ3 : Hid (PtBlk (wr.setCell ⟨w.heap.size + 1 + 1, 3, none⟩ (.int .i64 (ps[0].frm : Int))) (w.heap.size + 1) 93 ⟨false, false, 0, 0⟩) := PtBlk.other hZk.out (by omega) _ _
          have hy0 := HZ3.out.c0
          have hy1 := HZ3.out.c1
          have hy2 := HZ3.out.c2
          have hy3 := HZ3.out.c3
          have hyf := HZ3.out.fz
          have hk0 : (0 : Int) < (k : Int) := by omega
          go_wp2
          refine bodyPost_ret (v := .agg (ptCells { putTo op i ps k with frm := ps[0].frm })) (by simp [results, Tryz.results60, go_sem, hy0, hy1, hy2, hy3, ptCells]) rfl ⟨by rw [HP.out], ?_⟩
          exact ((((hbk.out.setCell (by dsimp only; omega) _).setCell (by dsimp only; omega) _).setCell (by dsimp only; omega) _).setCell (by dsimp only; omega) _).setCell (by dsimp only; omega) _
end Go.Proofs.YtfipefbaabkdeaaGreatDoor
namespace Go.Proofs.YtfipefbaabkdeaaGreatDoor
open Go.RowKit Go.Maps

def encP (ps : List Pt) : List Value := ps.flatMap fun p => (ptCells p).toList
theorem encP_cons (p : Pt) (ps : List Pt) : encP (p :: ps) = .bool p.path :: .bool p.plain :: .int .i64 (p.dep : Int) :: .int .i64 (p.frm : Int) :: encP ps := rfl
theorem encP_append (xs ys : List Pt) : encP (xs ++ ys) = encP xs ++ encP ys := by simp [encP]
theorem encP_len : ∀ ps : List Pt, (encP ps).length = ps.length * 4
  | [] => rfl
  | p :: ps => by rw [encP_cons]; simp [encP_len ps]; omega
theorem encP_get : ∀ (ps : List Pt) (k : Nat) (h : k < ps.length), (encP ps)[4 * k]? = some (.bool ps[k].path) ∧ (encP ps)[4 * k + 1]? = some (.bool ps[k].plain) ∧ (encP ps)[4 * k + 2]? = some (.int .i64 (ps[k].dep : Int)) ∧ (encP ps)[4 * k + 3]? = some (.int .i64 (ps[k].frm : Int))
  | [], k, h => absurd h (by simp)
  | p :: ps, 0, _ => ⟨rfl, rfl, rfl, rfl⟩
  | p :: ps, k + 1, h => by
    have := encP_get ps k (by simpa using h)
    rw [encP_cons, show 4 * (k + 1) = 4 * k + 1 + 1 + 1 + 1 by omega, show 4 * k + 1 + 1 + 1 + 1 + 1 = 4 * k + 1 + 1 + 1 + 1 + 1 from rfl, show 4 * k + 1 + 1 + 1 + 1 + 2 = 4 * k + 2 + 1 + 1 + 1 + 1 by omega, show 4 * k + 1 + 1 + 1 + 1 + 3 = 4 * k + 3 + 1 + 1 + 1 + 1 by omega, show 4 * k + 1 + 1 + 1 + 1 + 1 = (4 * k + 1) + 1 + 1 + 1 + 1 by omega]
    simpa using this
theorem encP_one (ps : List Pt) : ∀ u ∈ encP ps, u.oneCell' = true := by
  intro u hu
  unfold encP at hu
  obtain ⟨p, _, hc⟩ := List.mem_flatMap.1 hu
  simp [ptCells] at hc
  rcases hc with rfl | rfl | rfl | rfl <;> rfl
theorem Tryz.sizePart : (Tryz.prog.info? 93).map (·.size) = some 4 := by kernel_rfl
theorem Tryz.infoPart : (Tryz.prog.info? 93).map (fun i => (i.zero, i.size, i.bytes)) = some (some (.agg #[.bool false, .bool false, .int .i64 0, .int .i64 0]), 4, 24) := by kernel_rfl
theorem sizeOf_run4 {P : Program} {e : TypeId} (h : (P.info? e).map (·.size) = some 4) (w : World) : (sizeOf e).run P w = .ok 4 w := by
  cases hq : P.info? e with
  | none => simp [hq] at h
  | some i => simp [hq] at h; simp [sizeOf, typeInfo, hq, h]
theorem idx_of4 {P : Program} {T e : TypeId} (hu : P.underlying T = some (.slice e)) (hs : (P.info? e).map (·.size) = some 4) {g o cap n : Nat} (k : Nat) (w : World) (hk : k < n) :
    (Instr.indexAt T (.slice (some ⟨g, o, none⟩) n cap) (.int .i64 k)).run P w = .ok (.pointer (some ⟨g, o + 4 * k, none⟩)) w := by
  simp [Instr.indexAt, run_underlying hu, asIntOf, sizeOf_run4 hs, hk, Result.andThen, go_sem, add_plain, Nat.mul_comm]
/-- A row of parts, and its parts from lo on. -/
theorem own_ptSl {P : Program} {T e : TypeId} {w : World} {base n : Nat} {v : Value} {ps : List Pt} (h : w.ownsRow base e 4 v n (encP ps)) (hu : P.underlying T = some (.slice e)) (hs : (P.info? e).map (·.size) = some 4) :
    (v = .slice none 0 0 ∧ n = 0 ∧ ps = []) ∨ ∃ g cap, v = .slice (some ⟨g, 0, none⟩) n cap ∧ base ≤ g ∧ ∀ lo, lo ≤ n → PtSl P T w (some ⟨g, 4 * lo, none⟩) g (4 * lo) (n - lo) (cap - lo) (ps.drop lo) := by
  obtain ⟨hl, h⟩ := h
  rw [encP_len] at hl
  have hl' : ps.length = n := by omega
  rcases h with ⟨rfl, rfl⟩ | ⟨g, cap, cur, rfl, hg, hcell, hnc, hcm, hsz, htk⟩
  · exact Or.inl ⟨rfl, rfl, List.eq_nil_of_length_eq_zero hl'⟩
  · have hlt : g < w.heap.size := (Array.getElem?_eq_some_iff.1 hcell).1
    have key : ∀ j, j < n * 4 → w.cell? ⟨g, j, none⟩ = (encP ps)[j]? := fun j hj => by
      rw [← htk, List.getElem?_take, if_pos hj]
      simp [World.cell?, hcell]
    refine Or.inr ⟨g, cap, rfl, hg, fun lo hlo => ?_⟩
    have hget : ∀ k (h : k < (ps.drop lo).length), (ps.drop lo)[k] = ps[lo + k]'(by simp at h; omega) := fun k h => by simp
    have hof : ∀ k, 4 * lo + 4 * k = 4 * (lo + k) := fun k => by omega
    refine ⟨by simp; omega, by omega, by omega, fun m k w hk hm => idx_of4 hu hs k w hk, fun k hk => ?_, fun k hk => ?_, fun k hk => ?_, fun k hk => ?_, fun _ => hlt⟩ <;>
    · have hk' : lo + k < ps.length := by simp at hk; omega
      rw [hget k hk, hof, key _ (by omega)]
      first
      | exact (encP_get ps (lo + k) hk').1
      | exact (encP_get ps (lo + k) hk').2.1
      | exact (encP_get ps (lo + k) hk').2.2.1
      | exact (encP_get ps (lo + k) hk').2.2.2
theorem PtBlk.cells {w : World} {g : Nat} {t : TypeId} {p : Pt} (h : PtBlk w g t p) : ∀ j u, (ptCells p).toList[j]? = some u → w.cell? ((⟨g, 0, none⟩ : Addr).add j) = some u := by
  intro j u hj
  rw [add_plain, Nat.zero_add]
  unfold PtBlk at h
  simp only [World.cell?, h]
  simpa using hj
/-- One part more behind a list of the call's own. -/
theorem Tryz.append_pt {w : World} {ops : Array Oper} {rest : List Oper} {o : Oper} {a : Act} {Q : Exit → Act → World → Prop} (hgd : o.guard = none) (s x : Operand)
    (ho : o.op = .call { callee := .builtin .append, args := #[s, x], argTypes := #[67, 67] }) (base : Nat)
    (v : Value) (n : Nat) (ps : List Pt) (hs : a.eval s = v) (hown : w.ownsRow base 93 4 v n (encP ps)) (g : Nat) (p : Pt) (hx : a.eval x = .slice (some ⟨g, 0, none⟩) 1 1) (hB : PtBlk w g 93 p)
    (hn : n ≤ 1000000) (hbase : base ≤ w.heap.size)
    (h : ∀ v' w', w'.ownsRow base 93 4 v' (n + 1) (encP (ps ++ [p])) → w.grownBy w' v.ownBlock → wpList Tryz.prog ops Q rest (a.put o.dst v') w') : wpList Tryz.prog ops Q (o :: rest) a w := by
  obtain ⟨i, hi, hz0, hz1, hz2⟩ := info_parts Tryz.infoPart
  refine wpList_append_own w hgd s x 67 ho base 93 i _ 4 24 Tryz.underlying67 hi hz0 hz1 hz2 rfl (by decide) v n _ hs hown ⟨g, 0, none⟩ 1 1 (ptCells p).toList hx rfl hB.cells (fun u hu => encP_one [p] u (by simpa [encP] using hu)) (by unfold maxLen; omega) (by omega) hbase ?_
  intro v' w' h1 h2 _
  exact h v' w' (by rw [encP_append]; simpa [encP] using h1) h2
end Go.Proofs.YtfipefbaabkdeaaGreatDoor
namespace Go.Proofs.YtfipefbaabkdeaaGreatDoor
open Go.RowKit Go.Maps

theorem encP_take (ps : List Pt) (m : Nat) : (encP ps).take (m * 4) = encP (ps.take m) := by
  induction ps generalizing m with
  | nil => simp [encP]
  | cons p ps ih =>
    cases m with
    | zero => simp [encP]
    | succ m => rw [encP_cons, show (m + 1) * 4 = m * 4 + 1 + 1 + 1 + 1 by omega, List.take_succ_cons, List.take_succ_cons, List.take_succ_cons, List.take_succ_cons, ih, List.take_succ_cons, encP_cons]
theorem ptSl_zero {P : Program} {T : TypeId} {w : World} {a : Option Addr} {g o cap : Nat} (h : cap ≤ maxLen) : PtSl P T w a g o 0 cap [] :=
  ⟨rfl, Nat.zero_le _, h, fun n k w h1 h2 => absurd h1 (by omega), fun k h => absurd h (by simp), fun k h => absurd h (by simp), fun k h => absurd h (by simp), fun k h => absurd h (by simp), fun h => absurd h (by omega)⟩
/-- A row of parts of the call's own, from lo on, up to m. -/
theorem own_pt {P : Program} {T e : TypeId} {w : World} {base n : Nat} {v : Value} {ps : List Pt} (h : w.ownsRow base e 4 v n (encP ps)) (hu : P.underlying T = some (.slice e)) (hs : (P.info? e).map (·.size) = some 4) :
    ∃ a g cap, v = .slice a n cap ∧ ((a = none ∧ n = 0 ∧ cap = 0) ∨ a = some ⟨g, 0, none⟩) ∧ PtSl P T w a g 0 n cap ps ∧
      (∀ lo, lo ≤ n → ∃ a', (∀ w', (Instr.sliceAt T (.slice a n cap) (some (.int .i64 (lo : Int))) none none).run P w' = .ok (.slice a' (n - lo) (cap - lo)) w') ∧ PtSl P T w a' g (4 * lo) (n - lo) (cap - lo) (ps.drop lo)) ∧
      (∀ m, m ≤ n → (∀ w', (Instr.sliceAt T (.slice a n cap) none (some (.int .i64 (m : Int))) none).run P w' = .ok (.slice a m cap) w') ∧ ∀ j, j < m * 4 → w.cell? ⟨g, j, none⟩ = (encP (ps.take m))[j]?) := by
  have h' := h
  have hh := own_ptSl h hu hs
  rcases hh with ⟨rfl, rfl, rfl⟩ | ⟨g, cap, rfl, hg, hP⟩
  · refine ⟨none, 0, 0, rfl, Or.inl ⟨rfl, rfl, rfl⟩, ptSl_zero (Nat.zero_le _), fun lo hlo => ?_, fun m hm => ?_⟩
    · obtain rfl : lo = 0 := by omega
      refine ⟨none, fun w' => ?_, ptSl_zero (Nat.zero_le _)⟩
      simp [Instr.sliceAt, Instr.slice, run_underlying hu, sizeOf_run4 hs, go_sem]
    · obtain rfl : m = 0 := by omega
      refine ⟨fun w' => ?_, fun j hj => absurd hj (by omega)⟩
      simp [Instr.sliceAt, Instr.slice, run_underlying hu, sizeOf_run4 hs, go_sem]
  · obtain ⟨hl, h⟩ := h'
    rw [encP_len] at hl
    have h0 := hP 0 (Nat.zero_le _)
    rw [List.drop_zero, Nat.sub_zero, Nat.sub_zero, Nat.mul_zero] at h0
    refine ⟨some ⟨g, 0, none⟩, g, cap, rfl, Or.inr rfl, h0, fun lo hlo => ?_, fun m hm => ?_⟩
    · have hcap := h0.hcap
      by_cases hz : cap = lo
      · refine ⟨some ⟨g, 0, none⟩, fun w' => ?_, ?_⟩
        · have hz2 : cap - lo = 0 := by omega
          simp [Instr.sliceAt, Instr.slice, run_underlying hu, sizeOf_run4 hs, go_sem, hlo, hz2]
          exact fun h => absurd hz h
        · have e1 : n - lo = 0 := by omega
          rw [e1, List.drop_of_length_le (by omega)]
          exact ptSl_zero (by have := h0.bd; omega)
      · refine ⟨some ⟨g, 4 * lo, none⟩, fun w' => ?_, hP lo hlo⟩
        simp [Instr.sliceAt, Instr.slice, run_underlying hu, sizeOf_run4 hs, go_sem, hlo, add_plain, Nat.mul_comm]
        exact fun h => absurd h hz
    · refine ⟨fun w' => ?_, fun j hj => ?_⟩
      · have hcap := h0.hcap
        have hmc : m ≤ cap := by omega
        simp [Instr.sliceAt, Instr.slice, run_underlying hu, sizeOf_run4 hs, go_sem, hmc]
      · rcases h with ⟨hn, _⟩ | ⟨g', cap', cur, hv, _, hcell, hnc, hcm, hsz, htk⟩
        · exact absurd hn (by simp)
        · injection hv with hv _ _
          injection hv with hv
          injection hv with hv _ _
          subst hv
          rw [← encP_take, ← htk, List.take_take, Nat.min_eq_left (by omega), List.getElem?_take, if_pos hj]
          simp [World.cell?, hcell]
/-- One part more behind a list of the call's own, and where it lies. -/
theorem Tryz.append_pt2 {w : World} {ops : Array Oper} {rest : List Oper} {o : Oper} {a : Act} {Q : Exit → Act → World → Prop} (hgd : o.guard = none) (s x : Operand)
    (ho : o.op = .call { callee := .builtin .append, args := #[s, x], argTypes := #[67, 67] }) (base : Nat)
    (v : Value) (n : Nat) (ps : List Pt) (hs : a.eval s = v) (hown : w.ownsRow base 93 4 v n (encP ps)) (g : Nat) (p : Pt) (hx : a.eval x = .slice (some ⟨g, 0, none⟩) 1 1) (hB : PtBlk w g 93 p)
    (hn : n ≤ 1000000) (hbase : base ≤ w.heap.size)
    (h : ∀ v' w', w'.ownsRow base 93 4 v' (n + 1) (encP (ps ++ [p])) → w.grownBy w' v.ownBlock → (v'.ownBlock = v.ownBlock ∨ v'.ownBlock = some w.heap.size) → wpList Tryz.prog ops Q rest (a.put o.dst v') w') : wpList Tryz.prog ops Q (o :: rest) a w := by
  obtain ⟨i, hi, hz0, hz1, hz2⟩ := info_parts Tryz.infoPart
  refine wpList_append_own_at w hgd s x 67 ho base 93 i _ 4 24 Tryz.underlying67 hi hz0 hz1 hz2 rfl (by decide) v n _ hs hown ⟨g, 0, none⟩ 1 1 (ptCells p).toList hx rfl hB.cells (fun u hu => encP_one [p] u (by simpa [encP] using hu)) (by unfold maxLen; omega) (by omega) hbase ?_
  intro v' w' h1 h2 _ h3
  exact h v' w' (by rw [encP_append]; simpa [encP] using h1) h2 h3
/-- The first parts of a list behind nothing: a list of the call's own. -/
theorem Tryz.append_pts {w : World} {ops : Array Oper} {rest : List Oper} {o : Oper} {a : Act} {Q : Exit → Act → World → Prop} (hgd : o.guard = none) (s x : Operand)
    (ho : o.op = .call { callee := .builtin .append, args := #[s, x], argTypes := #[67, 67] }) (base : Nat)
    (hs : a.eval s = .slice none 0 0) (b : Option Addr) (g m cap : Nat) (ps : List Pt) (hx : a.eval x = .slice b m cap) (hb : (b = none ∧ m = 0 ∧ cap = 0) ∨ b = some ⟨g, 0, none⟩) (hl : ps.length = m)
    (hc : ∀ j, j < m * 4 → w.cell? ⟨g, j, none⟩ = (encP ps)[j]?)
    (hn : m ≤ 1000000) (hbase : base ≤ w.heap.size)
    (h : ∀ v' w', w'.ownsRow base 93 4 v' m (encP ps) → w.grownBy w' none → (v'.ownBlock = none ∨ v'.ownBlock = some w.heap.size) → wpList Tryz.prog ops Q rest (a.put o.dst v') w') : wpList Tryz.prog ops Q (o :: rest) a w := by
  obtain ⟨i, hi, hz0, hz1, hz2⟩ := info_parts Tryz.infoPart
  have hnil : w.ownsRow base 93 4 (.slice none 0 0) 0 [] := ⟨rfl, Or.inl ⟨rfl, rfl⟩⟩
  rcases hb with ⟨rfl, rfl, rfl⟩ | rfl
  · refine wpList_plain hgd fun _ hK => ?_
    obtain rfl := List.eq_nil_of_length_eq_zero hl
    have hrun := run_append_owned_none (P := Tryz.prog) w base 67 o.type 93 i 4 Tryz.underlying67 hi (.slice none 0 0) 0 [] hnil
    unfold Oper.wp execOp
    simp only [ho, resolve, invoke, builtin, Sem.run_bind, Sem.run_pure, Result.andThen_ok, List.map_toArray, List.map_cons, List.map_nil, hs, hx, hrun]
    exact hK _ _ (h _ w hnil (World.grownBy.refl _ _) (Or.inl rfl))
  · refine wpList_append_own_at w hgd s x 67 ho base 93 i _ 4 24 Tryz.underlying67 hi hz0 hz1 hz2 rfl (by decide) (.slice none 0 0) 0 [] hs hnil ⟨g, 0, none⟩ m cap (encP ps) hx (by rw [encP_len, hl]) (fun j u hj => ?_) (encP_one ps) (by unfold maxLen; omega) (by omega) hbase ?_
    · rw [add_plain, Nat.zero_add, hc j (by have := (List.getElem?_eq_some_iff.1 hj).1; rw [encP_len, hl] at this; exact this)]; exact hj
    · intro v' w' h1 h2 _ h3
      exact h v' w' (by simpa using h1) h2 h3
/-- What Read answers. -/
def ReadR (T : TypeId) (r : Option (List Pt × List Pt)) (w : World) (e : Ending) (w' : World) : Prop :=
  match r with
  | none => e = .returned (.tuple #[.slice none 0 0, .slice none 0 0, .bool false])
  | some x => ∃ v1 v2, e = .returned (.tuple #[v1, v2, .bool true]) ∧ w'.ownsRow w.heap.size T 4 v1 x.1.length (encP x.1) ∧ w'.ownsRow w.heap.size T 4 v2 x.2.length (encP x.2)
theorem takesN_op {op p n : Nat} (h : takesN (op, p) = some n) : op ≤ 23 := by
  unfold takesN at h
  split at h
  · cases h
  · next h2 => dsimp only at h2; omega
theorem PtBlk.new (w : World) (t : TypeId) (p : Pt) : PtBlk (w.alloc (.cells (ptCells p) t)) w.heap.size t p := (MapKept.heap_alloc w _).1
theorem PtBlk.grown {w w' : World} {g : Nat} {t : TypeId} {p : Pt} {row : Option Nat} (h : PtBlk w g t p) (hg : w.grownBy w' row) (hne : row ≠ some g) : PtBlk w' g t p := (hg.block g h.lt (fun e => hne e.symm)).trans h
end Go.Proofs.YtfipefbaabkdeaaGreatDoor
namespace Go.Proofs.YtfipefbaabkdeaaGreatDoor
open Go.RowKit Go.Maps

theorem own_cells {w : World} {base e n m g cap : Nat} {a : Option Addr} {ps : List Pt} (h : w.ownsRow base e 4 (.slice a n cap) n (encP ps)) (hsh : (a = none ∧ n = 0 ∧ cap = 0) ∨ a = some ⟨g, 0, none⟩) (hm : m ≤ n) : ∀ j, j < m * 4 → w.cell? ⟨g, j, none⟩ = (encP (ps.take m))[j]? := by
  intro j hj
  obtain ⟨hl, h⟩ := h
  rcases h with ⟨hn, h0⟩ | ⟨g', cap', cur, hv, _, hcell, hnc, hcm, hsz, htk⟩
  · omega
  · injection hv with hv _ _
    rcases hsh with ⟨h1, h2, _⟩ | h1
    · omega
    · rw [h1] at hv
      injection hv with hv
      injection hv with hv _ _
      subst hv
      rw [← encP_take, ← htk, List.take_take, Nat.min_eq_left (by omega), List.getElem?_take, if_pos hj]
      simp [World.cell?, hcell]
set_option maxHeartbeats 4000000 in
theorem Tryz.Read_any (a : Option Addr) (len cap : Nat) (ts : List Tk) (w : World) (hT : TkSl w a len cap ts) (hn : len ≤ 1000) :
    Calls Tryz.prog 43 #[.slice a len cap] w fun e w' => ReadR 93 (readP ts 0 []) w e w' ∧ Below w.heap.size w w' := by
  have hlen := hT.hlen
  go_enter Tryz.func43, Tryz.ntmps43
  go_wp2
  go_loopw [5, 6, 7] (fun v1 v2 j wr => ∃ (k : Nat) (all st : List Pt), k ≤ len ∧ j = .int .i64 k ∧ all.length = k ∧ st.length ≤ k ∧ (∀ x ∈ st, x.dep ≤ k) ∧ Hid (readP ts 0 [] = (readP (ts.drop k) k st).map fun x => (all ++ x.1, x.2)) ∧ Hid (wr.ownsRow w.heap.size 93 4 v1 all.length (encP all)) ∧ Hid (wr.ownsRow w.heap.size 93 4 v2 st.length (encP st)) ∧ Hid (∀ b1, v1.ownBlock = some b1 → v2.ownBlock ≠ some b1) ∧ Hid (Below w.heap.size w wr)) (fun _ _ j _ => len - (intOf j).toNat)
  case atStart => exact ⟨0, [], [], Nat.zero_le _, rfl, rfl, Nat.le_refl _, by simp, by show _ = _; simp, ⟨rfl, Or.inl ⟨rfl, rfl⟩⟩, ⟨rfl, Or.inl ⟨rfl, rfl⟩⟩, fun b h => by simp [Value.ownBlock] at h, Below.refl _ _⟩
  case round =>
    obtain ⟨k, all, st, hk, rfl, hal, hst, hdp, HR, HO1, HO2, HD, hbk⟩ := hrel
    by_cases hlt : k < len
    · have hkl : k < ts.length := by omega
      obtain ⟨g, o, s, hidx0, hc0, hc1, hgw, _⟩ := (hT.up hbk.out).at Tryz.underlying23 Tryz.sizeTok k hlt
      have hidx := fun w' => hidx0 len w' hlt
      clear hidx0
      obtain ⟨hop, hpp⟩ := hT.ok ts[k] (List.getElem_mem hkl)
      have HC : Hid _ := List.drop_eq_getElem_cons hkl
      have HS0 : Hid _ := HR.out.trans (congrArg _ (congrFun (congrFun (congrArg readP HC.out) k) st))
      generalize ts[k] = t at *
      obtain ⟨op, pp⟩ := t
      dsimp only at *
      have HS : Hid (readP ts 0 [] = Option.map (fun x => (all ++ x.1, x.2)) (match takesN (op, pp) with | none => none | some n => if st.length < n then none else if fitsP op (st.drop (st.length - n)) then (readP (ts.drop (k + 1)) (k + 1) (st.take (st.length - n) ++ [putP (op, pp) (st.drop (st.length - n)) k])).map (fun x => (putP (op, pp) (st.drop (st.length - n)) k :: x.1, x.2)) else none)) := HS0.out.trans (congrArg _ readP_step)
      clear HS0 HR HC
      have htk := fun w => Tryz.takes_any op pp w hpp
      obtain ⟨a2, g2, cap2, rfl, hsh, hP2, hcutF, hcutT⟩ := own_pt HO2.out Tryz.underlying67 Tryz.sizePart
      cases htn : takesN (op, pp) with
      | none =>
        have HF : Hid (readP ts 0 [] = none) := by show _ = _; rw [HS.out, htn]; rfl
        have hti : takesI (op, pp) = -1 := by unfold takesI; rw [htn]
        rw [hti] at htk
        clear HS hcutF hcutT hP2 hsh
        go_wp2_with fail
        refine (htk _).mono ?_
        rintro e w1 ⟨rfl, hw1⟩
        go_wp2
        refine bodyPost_ret (v := .tuple #[.slice none 0 0, .slice none 0 0, .bool false]) (by simp [results, Tryz.results43, go_sem]) rfl ⟨?_, below_step hbk.out hw1⟩
        rw [HF.out]; rfl
      | some n =>
        have hti : takesI (op, pp) = (n : Int) := by unfold takesI; rw [htn]
        rw [hti] at htk
        rw [htn] at HS
        dsimp only at HS
        have hn2 := takesN_le htn
        have hop23 := takesN_op htn
        by_cases hnl : st.length < n
        · have HF : Hid (readP ts 0 [] = none) := by show _ = _; rw [HS.out, if_pos hnl]; rfl
          have hg1 : ((st.length : Nat) : Int) < (n : Int) := by omega
          clear HS hcutF hcutT hP2 hsh
          go_wp2_with fail
          refine (htk _).mono ?_
          rintro e w1 ⟨rfl, hw1⟩
          go_wp2
          refine bodyPost_ret (v := .tuple #[.slice none 0 0, .slice none 0 0, .bool false]) (by simp [results, Tryz.results43, go_sem]) rfl ⟨?_, below_step hbk.out hw1⟩
          rw [HF.out]; rfl
        · have HS2 : Hid _ := HS.out
          rw [if_neg hnl] at HS2
          clear HS
          obtain ⟨lo, hlo⟩ : ∃ lo, lo = st.length - n := ⟨_, rfl⟩
          have hwl : IntKind.i64.wrap (((st.length : Nat) : Int) - (n : Int)) = (lo : Int) := by rw [IntKind.wrap_i64]; omega
          rw [← hlo] at HS2
          have hlo2 : lo + n = st.length := by omega
          clear hlo
          have hA : decide ((n : Int) < 0) = false := decide_eq_false (by omega)
          have hBd : decide (((st.length : Nat) : Int) < (n : Int)) = false := decide_eq_false (by omega)
          obtain ⟨a9, hslF, hP9⟩ := hcutF lo (by omega)
          obtain ⟨hslT, hcT⟩ := hcutT lo (by omega)
          have HCT : Hid _ := hcT
          clear hcutF hcutT hcT hP2
          have hnn : st.length - lo = n := by omega
          rw [hnn] at hslF hP9
          generalize cap2 - lo = cap9 at *
          have hdl : ∀ x ∈ st.drop lo, x.dep ≤ 1000000 := fun x hx => by have := hdp x (List.mem_of_mem_drop hx); omega
          have hdk : ∀ x ∈ st.drop lo, x.dep ≤ k := fun x hx => hdp x (List.mem_of_mem_drop hx)
          have hfit := fun w' (h : PtSl Tryz.prog 67 w' a9 g2 (4 * lo) n cap9 (st.drop lo)) => Tryz.fits_any op pp a9 g2 (4 * lo) n cap9 _ w' h htn
          have hput := fun w' (h : PtSl Tryz.prog 67 w' a9 g2 (4 * lo) n cap9 (st.drop lo)) => Tryz.rput_any op pp k a9 g2 (4 * lo) n cap9 _ w' h hn2 hop23 hdl
          have hpd := putP_dep (t := (op, pp)) (i := k) hdk
          have hltk : st.take lo ++ [] = st.take lo := by simp
          generalize st.drop lo = args at *
          go_wp2_with fail
          refine (htk _).mono ?_
          rintro e w1 ⟨rfl, hw1⟩
          have hd0 := kept_cell hc0 hw1
          have hd1 := kept_cell hc1 hw1
          have hP1 := hP9.up hw1
          have hb1 : Hid (Below w.heap.size w w1) := below_step hbk.out hw1
          have HO11 : Hid (World.ownsRow _ _ _ _ _ _ _) := owns_up HO1.out hw1
          have HO21 : Hid (World.ownsRow _ _ _ _ _ _ _) := owns_up HO2.out hw1
          clear hc0 hc1 hP9
          go_wp2_with fail
          refine (hfit _ hP1).mono ?_
          rintro e w2 ⟨rfl, hq2⟩
          have hw2 := below_of_drew hq2
          have hb2 : Hid (Below w.heap.size w w2) := below_step hb1.out hw2
          have HO12 : Hid (World.ownsRow _ _ _ _ _ _ _) := owns_up HO11.out hw2
          have HO22 : Hid (World.ownsRow _ _ _ _ _ _ _) := owns_up HO21.out hw2
          have he0 := kept_cell hd0 hw2
          have he1 := kept_cell hd1 hw2
          have hP2 := hP1.up hw2
          clear hd0 hd1 hP1 hq2 hfit HO11 HO21 hb1 htk
          by_cases hfp : fitsP op args = true
          · have HS3 : Hid _ := HS2.out
            rw [if_pos hfp, Option.map_map] at HS3
            clear HS2
            rw [hfp]
            go_wp2_with fail
            refine (hput _ hP2).mono ?_
            rintro e w3 ⟨rfl, hw3⟩
            have hb3 : Hid (Below w.heap.size w w3) := below_step hb2.out hw3
            have HO13 : Hid (World.ownsRow _ _ _ _ _ _ _) := owns_up HO12.out hw3
            have HO23 : Hid (World.ownsRow _ _ _ _ _ _ _) := owns_up HO22.out hw3
            clear hput hP2 he0 he1 HO12 HO22 hb2 hfp
            generalize putP (op, pp) args k = P at *
            have hm3 := hb3.out.size
            have hpd2 : P.dep ≤ k + 1 := hpd
            have hltk1 : (st.take lo).length = lo := by simp; omega
            have HSH : Hid _ := hsh
            have HA : Hid (PtBlk (w3.alloc (.cells (ptCells P) 93)) w3.heap.size 93 P) := PtBlk.new w3 93 P
            have hsz1 : (w3.alloc (.cells (ptCells P) 93)).heap.size = w3.heap.size + 1 := by simp
            have HA2 : Hid (PtBlk _ _ _ _) := PtBlk.new (w3.alloc (.cells (ptCells P) 93)) 93 P
            rw [hsz1] at HA2
            have HA1 : Hid (PtBlk _ _ _ _) := PtBlk.up HA.out (below_new _ (.cells (ptCells P) 93))
            have HO1A : Hid (World.ownsRow _ _ _ _ _ _ _) := World.ownsRow.alloc (World.ownsRow.alloc HO13.out (.cells (ptCells P) 93)) (.cells (ptCells P) 93)
            have HO2A : Hid (World.ownsRow _ _ _ _ _ _ _) := World.ownsRow.alloc (World.ownsRow.alloc HO23.out (.cells (ptCells P) 93)) (.cells (ptCells P) 93)
            have hb5 : Hid (Below w.heap.size w ((w3.alloc (.cells (ptCells P) 93)).alloc (.cells (ptCells P) 93))) := (hb3.out.alloc (by omega) _).alloc (by simp; omega) _
            have HPT : Hid (P = P) := rfl
            obtain ⟨p0, p1, p2, p3⟩ := P
            dsimp only [ptCells] at *
            clear hsh HO1 HO2
            go_wp2_with (at_builtin; refine Tryz.append_pt2 rfl _ _ rfl w.heap.size _ all.length all rfl HO1A.out (w3.heap.size + 1) ⟨p0, p1, p2, p3⟩ rfl HA2.out (by omega) (by simp; omega) ?_)
            intro v5 w5 hown5 hgr5 hat5
            have hlt1 := World.ownsRow.lt HO13.out
            have hlt2 := World.ownsRow.lt HO23.out
            have HB5 : Hid (PtBlk w5 w3.heap.size 93 ⟨p0, p1, p2, p3⟩) := PtBlk.grown HA1.out hgr5 (fun e => by have := hlt1 _ e; omega)
            have HO15 : Hid (World.ownsRow w5 _ _ _ _ _ _) := hown5
            have HO25 : Hid (World.ownsRow w5 _ _ _ _ _ _) := World.ownsRow.kept HO2A.out hgr5 (by
              cases h4 : (Value.slice a2 st.length cap2).ownBlock with
              | none => exact Or.inl rfl
              | some j => exact Or.inr (fun e => HD.out j e.symm h4))
            have hb6 : Hid (Below w.heap.size w w5) := hb5.out.grown hgr5 (by simp; omega) (fun j e => (hlt1 j e).1)
            have hs5 : w3.heap.size + 1 + 1 ≤ w5.heap.size := by have := hgr5.size; simpa using this
            have hlt15 := World.ownsRow.lt HO15.out
            have hcT : ∀ j, j < lo * 4 → w5.cell? ⟨g2, j, none⟩ = (encP (st.take lo))[j]? := own_cells HO25.out HSH.out (by omega)
            have HCT5 : Hid _ := hcT
            have HSH5 : Hid ((a2 = none ∧ lo = 0 ∧ cap2 = 0) ∨ a2 = some ⟨g2, 0, none⟩) := by
              rcases HSH.out with ⟨h1, h2, h3⟩ | h1
              · exact Or.inl ⟨h1, by omega, h3⟩
              · exact Or.inr h1
            clear hown5 hgr5 hat5 HO1A HO2A hb5 HA HA1 HA2 HO13 HO23 hcT HCT
            go_wp2_with (at_builtin; refine Tryz.append_pts rfl _ _ rfl w.heap.size rfl a2 g2 lo cap2 (st.take lo) rfl HSH5.out hltk1 HCT5.out (by omega) (by omega) ?_)
            intro v6 w6 hown6 hgr6 hat6
            have HB6 : Hid (PtBlk w6 w3.heap.size 93 ⟨p0, p1, p2, p3⟩) := PtBlk.grown HB5.out hgr6 (by simp)
            have HO16 : Hid (World.ownsRow w6 _ _ _ _ _ _) := World.ownsRow.kept HO15.out hgr6 (by
              cases h4 : v5.ownBlock with
              | none => exact Or.inl rfl
              | some j => exact Or.inr (by simp))
            have HO26 : Hid (World.ownsRow w6 _ _ _ _ _ _) := hown6
            have hb7 : Hid (Below w.heap.size w w6) := hb6.out.grown hgr6 (by omega) (fun j e => (by cases e))
            have hs6 : w5.heap.size ≤ w6.heap.size := hgr6.size
            have hlt26 := World.ownsRow.lt HO26.out
            have hlt16 := World.ownsRow.lt HO16.out
            have HD6 : Hid (∀ b1, v5.ownBlock = some b1 → v6.ownBlock ≠ some b1) := fun b1 h e => by
              rcases hat6 with h3 | h3
              · rw [h3] at e; cases e
              · rw [h3] at e; injection e with e; have := hlt15 b1 h; omega
            clear hown6 hgr6 hat6 HO15 HO25 HB5 hb6 hlt15
            have h60 := HB6.out.c0
            have h61 := HB6.out.c1
            have h62 := HB6.out.c2
            have h63 := HB6.out.c3
            dsimp only at h60 h61 h62 h63
            have HN : Hid (PtBlk _ _ _ _) := PtBlk.new w6 93 ⟨p0, p1, p2, p3⟩
            have HO2B : Hid (World.ownsRow _ _ _ _ _ _ _) := World.ownsRow.alloc HO26.out (.cells (ptCells ⟨p0, p1, p2, p3⟩) 93)
            go_wp2_with (at_builtin; refine Tryz.append_pt2 rfl _ _ rfl w.heap.size _ lo (st.take lo) rfl HO2B.out w6.heap.size ⟨p0, p1, p2, p3⟩ rfl HN.out (by omega) (by simp; omega) ?_)
            intro v7 w7 hown7 hgr7 hat7
            have HO27 : Hid (World.ownsRow w7 _ _ _ _ _ _) := hown7
            have HO17 : Hid (World.ownsRow w7 _ _ _ _ _ _) := World.ownsRow.kept (World.ownsRow.alloc HO16.out (.cells (ptCells ⟨p0, p1, p2, p3⟩) 93)) hgr7 (by
              cases h4 : v5.ownBlock with
              | none => exact Or.inl rfl
              | some j => exact Or.inr (fun e => HD6.out j h4 e.symm))
            have hb8 : Hid (Below w.heap.size w w7) := (hb7.out.alloc (by omega) _).grown hgr7 (by simp; omega) (fun j e => (hlt26 j e).1)
            have HD7 : Hid (∀ b1, v5.ownBlock = some b1 → v7.ownBlock ≠ some b1) := fun b1 h e => by
              rcases hat7 with h3 | h3
              · rw [h3] at e; exact HD6.out b1 h e
              · rw [h3] at e; injection e with e; have := hlt16 b1 h; omega
            clear hown7 hgr7 hat7 h60 h61 h62 h63
            go_wp2
            go_roundw
            case rel =>
              refine ⟨k + 1, all ++ [⟨p0, p1, p2, p3⟩], st.take lo ++ [⟨p0, p1, p2, p3⟩], by omega, by go_num, by simp; omega, by simp; omega, ?_, ?_, ?_, ?_, HD7, hb8⟩
              · intro x hx
                rcases List.mem_append.1 hx with h | h
                · have := hdp x (List.mem_of_mem_take h); omega
                · rw [List.mem_singleton.1 h]; exact hpd2
              · show _ = _
                rw [HS3.out]
                congr 1
                funext x
                simp
              · show World.ownsRow _ _ _ _ _ _ _
                have h := HO17.out
                rw [List.length_append, hal]; exact h
              · show World.ownsRow _ _ _ _ _ _ _
                have h := HO27.out
                rw [List.length_append, hltk1]; exact h
            case measure => simp [intOf]; omega
          · have hff : fitsP op args = false := by simpa using hfp
            have HF : Hid (readP ts 0 [] = none) := by show _ = _; rw [HS2.out, if_neg hfp]; rfl
            rw [hff]
            clear HS2 hfp hff
            go_wp2
            refine bodyPost_ret (v := .tuple #[.slice none 0 0, .slice none 0 0, .bool false]) (by simp [results, Tryz.results43, go_sem]) rfl ⟨?_, hb2.out⟩
            rw [HF.out]; rfl
    · obtain rfl : k = len := by omega
      have HE : Hid (readP ts 0 [] = some (all, st)) := by
        show _ = _
        rw [HR.out, List.drop_of_length_le (by omega)]; simp [readP]
      go_wp2
      refine bodyPost_ret (v := .tuple #[u5, u6, .bool true]) (by simp [results, Tryz.results43, go_sem]) rfl ⟨?_, hbk.out⟩
      rw [HE.out]
      exact ⟨_, _, rfl, HO1.out, HO2.out⟩
end Go.Proofs.YtfipefbaabkdeaaGreatDoor
namespace Go.Proofs.YtfipefbaabkdeaaGreatDoor
open Go.RowKit Go.Maps

def wantOf (f p : Bool) : Nat := if f then (if p then 4 else 1) else 3
/-- What the document's kind answers. -/
def KindR (T : TypeId) (E : Nat) (all : List Pt) (w : World) (e : Ending) (w' : World) : Prop :=
  ∃ v, e = .returned (.tuple #[v, .int .i64 (E : Int)]) ∧ (E = 0 → w'.ownsRow w.heap.size T 4 v all.length (encP all)) ∧ (E ≠ 0 → v = .slice none 0 0)
theorem read_deps {ts : List Tk} {all : List Pt} {p : Pt} (h : readP ts 0 [] = some (all, [p])) : (∃ q ∈ all, 64 < q.dep) ↔ 64 < p.dep := by
  obtain ⟨t, h1, h2, h3, h4⟩ := read_one.1 h
  subst h3 h4
  constructor
  · rintro ⟨q, hq, h5⟩
    have := parts_dep t 0 q hq
    omega
  · intro h5
    obtain ⟨q, hq, _⟩ := parts_last t 0
    exact ⟨_, by rw [hq]; simp, h5⟩
theorem want_is {f p : Bool} (h : (f || p) = true) (q : Pt) : isK (kindOf q) (wantOf f p) = ((q.path && p) || (!q.path && f)) := by
  obtain ⟨a, b, c, d⟩ := q
  cases f <;> cases p <;> cases a <;> cases b <;> first | rfl | cases h
set_option maxHeartbeats 4000000 in
theorem Tryz.kind_any (a : Option Addr) (len cap : Nat) (f p : Bool) (ts : List Tk) (w : World) (hT : TkSl w a len cap ts) (hfp : (f || p) = true) :
    Calls Tryz.prog 31 #[.slice a len cap, .bool f, .bool p] w fun e w' => KindR 93 (lookE ts (wantOf f p)) (allP ts) w e w' ∧ Below w.heap.size w w' := by
  have hlen := hT.hlen
  have hlm := hT.hcap
  have hbm := hT.bd
  by_cases h512 : 512 < len
  · have HE : Hid (lookE ts (wantOf f p) = 3) := by show _ = _; unfold lookE; rw [if_pos (by omega)]
    have hg : (512 : Int) < (len : Int) := by omega
    go_enter Tryz.func31, Tryz.ntmps31
    go_wp2
    go_ret2
    rw [HE.out]
    exact ⟨⟨_, rfl, fun h => absurd h (by decide), fun _ => rfl⟩, Below.refl _ _⟩
  · have hg : ¬ 512 < len := h512
    have hr := fun w' (h : TkSl w' a len cap ts) => Tryz.Read_any a len cap ts w' h (by omega)
    have HE : Hid (lookE ts (wantOf f p) = lookOf (readP ts 0 []) (wantOf f p)) := by show _ = _; unfold lookE; rw [if_neg (by omega)]
    have HA : Hid (allP ts = match readP ts 0 [] with | some x => x.1 | none => []) := rfl
    have HL : Hid (∀ all p, readP ts 0 [] = some (all, [p]) → ((∃ q ∈ all, 64 < q.dep) ↔ 64 < p.dep)) := fun all p h => read_deps h
    have HW : Hid _ := want_is hfp
    have HN : Hid (∀ all st, readP ts 0 [] = some (all, st) → all.length = ts.length) := fun all st h => read_length ts 0 [] all st h
    generalize lookE ts (wantOf f p) = E at *
    generalize allP ts = A at *
    go_enter Tryz.func31, Tryz.ntmps31
    go_wp2_with fail
    refine (hr _ hT).mono ?_
    rintro e w1 ⟨hR, hw1⟩
    generalize readP ts 0 [] = R at *
    cases R with
    | none =>
      have he : e = _ := hR
      subst he
      have HE7 : Hid (E = 7) := HE.out
      go_wp2
      go_ret2
      rw [HE7.out]
      exact ⟨⟨_, rfl, fun h => absurd h (by decide), fun _ => rfl⟩, hw1⟩
    | some x =>
      obtain ⟨all, st⟩ := x
      obtain ⟨v1, v2, rfl, hown1, hown2⟩ := hR
      have HO1 : Hid (World.ownsRow _ _ _ _ _ _ _) := hown1
      have HO2 : Hid (World.ownsRow _ _ _ _ _ _ _) := hown2
      have HAE : Hid (A = all) := HA.out
      have HNL := HN.out all st rfl
      clear hown1 hown2 HA HN
      dsimp only at *
      obtain ⟨a2, g2, cap2, rfl, hsh, hP2, _, _⟩ := own_pt HO2.out Tryz.underlying67 Tryz.sizePart
      obtain ⟨a1, g1, cap1, rfl, _, hP1, _, _⟩ := own_pt HO1.out Tryz.underlying67 Tryz.sizePart
      by_cases hone : st.length = 1
      · obtain ⟨q, rfl⟩ := List.length_eq_one_iff.1 hone
        have HE2 : Hid (E = if isK (kindOf q) (wantOf f p) then (if 64 < q.dep then 8 else 0) else 7) := HE.out
        have hdq := HL.out all q rfl
        have hix : ∀ w', (Instr.indexAt 67 (.slice a2 1 cap2) (.int .i64 0)).run Tryz.prog w' = .ok (.pointer (some ⟨g2, 0 + 4 * 0, none⟩)) w' := fun w' => hP2.idx 1 0 w' (by decide) (Nat.le_refl _)
        have hc0 : w1.cell? ⟨g2, 0 + 4 * 0, none⟩ = some (.bool q.path) := hP2.c0 0 (by simp)
        clear HE HL hone hP2 hsh HO2
        have HI := HW.out q
        rw [HI] at HE2
        clear HI HW
        generalize 0 + 4 * 0 = z0 at *
        generalize hqp : q.path = b at *
        have HP1 : Hid _ := hP1
        dsimp only [List.length_singleton] at *
        have hfail : ((b && p) || (!b && f)) = false → Hid (E = 7) := fun h => by show _ = _; rw [HE2.out, h]; rfl
        have hgood : ((b && p) || (!b && f)) = true → Hid (E = if 64 < q.dep then 8 else 0) := fun h => by show _ = _; rw [HE2.out, h]; rfl
        clear HE2
        cases hbb : ((b && p) || (!b && f)) with
        | false =>
          have HE7 := hfail hbb
          have hw2 : ∀ (x y : Bool), True := fun _ _ => trivial
          clear hfail hgood
          cases b <;> cases p <;> cases f <;> first | (exfalso; revert hbb; decide) | (exfalso; revert hfp; decide) | skip
          all_goals
            go_wp2
            go_ret2
            rw [HE7.out]
            exact ⟨⟨_, rfl, fun h => absurd h (by decide), fun _ => rfl⟩, hw1⟩
        | true =>
          have HEG := hgood hbb
          have hl2 : all.length ≤ 512 := by omega
          clear hfail hgood HNL hP1
          obtain ⟨L, hL⟩ : ∃ L, L = all.length := ⟨_, rfl⟩
          have HLE : Hid (L = all.length) := hL
          have HO1L : Hid (World.ownsRow w1 w.heap.size 93 4 (.slice a1 L cap1) all.length (encP all)) := by rw [hL]; exact HO1.out
          have HPL : Hid (PtSl Tryz.prog 67 w1 a1 g1 0 L cap1 all) := by rw [hL]; exact HP1.out
          rw [← hL] at hl2 ⊢
          have HDQ : Hid _ := hdq
          clear hL HO1 HP1 hdq
          cases b <;> cases p <;> cases f <;> first | (exfalso; revert hbb; decide) | (exfalso; revert hfp; decide) | skip
          all_goals
            go_wp2
            go_loopw [11] (fun j wr => ∃ k : Nat, k ≤ L ∧ j = .int .i64 k ∧ Hid (∀ x ∈ all.take k, x.dep ≤ 64) ∧ wr = w1) (fun j _ => L - (intOf j).toNat)
            case atStart => exact ⟨0, Nat.zero_le _, rfl, by intro x hx; simp at hx, rfl⟩
            case round =>
              obtain ⟨k, hk, rfl, HU, hwr⟩ := hrel
              obtain rfl : w1 = wr := hwr.symm
              by_cases hlt : k < L
              · have hka : k < all.length := by rw [← HLE.out]; exact hlt
                have hidx := fun w' => HPL.out.idx L k w' hlt (Nat.le_refl _)
                have hc2 := HPL.out.c2 k hka
                generalize 0 + 4 * k = oo at hidx hc2
                have HN : Hid (all[k].dep ≤ 64 → ∀ x ∈ all.take (k + 1), x.dep ≤ 64) := fun h x hx => by
                  rw [List.take_add_one, List.getElem?_eq_getElem hka] at hx
                  rcases List.mem_append.1 hx with h1 | h1
                  · exact HU.out x h1
                  · simp at h1; rw [h1]; exact h
                have HF : Hid (64 < all[k].dep → E = 8) := fun h => by
                  rw [HEG.out, if_pos (HDQ.out.1 ⟨_, List.getElem_mem hka, h⟩)]
                generalize all[k].dep = d at *
                by_cases hd : 64 < d
                · have hd' : (64 : Int) < (d : Int) := by omega
                  have HE8 : Hid (E = 8) := HF.out hd
                  go_wp2
                  go_ret2
                  rw [HE8.out]
                  exact ⟨⟨_, rfl, fun h => absurd h (by decide), fun _ => rfl⟩, hw1⟩
                · have HN2 : Hid _ := HN.out (by omega)
                  go_wp2
                  go_roundw
                  case rel => exact ⟨k + 1, by omega, by go_num, HN2, trivial⟩
                  case measure => simp [intOf]; omega
              · obtain rfl : k = L := by omega
                have HE0 : Hid (E = 0) := by
                  show _ = _
                  rw [HEG.out, if_neg]
                  intro h
                  obtain ⟨q', h1, h2⟩ := HDQ.out.2 h
                  have := HU.out q' (by rw [List.take_of_length_le (by rw [HLE.out]; exact Nat.le_refl _)]; exact h1)
                  omega
                go_wp2
                go_ret2
                rw [HE0.out]
                exact ⟨⟨_, rfl, fun _ => by rw [HAE.out]; exact HO1L.out, fun h => absurd rfl h⟩, hw1⟩
      · have HE7 : Hid (E = 7) := by
          show _ = _
          rw [HE.out]
          match st, hone with
          | [], _ => rfl
          | [p], h => exact absurd rfl h
          | x :: y :: r, _ => rfl
        have hq : ((st.length : Int) != 1) = true := by simp; omega
        go_wp2
        go_ret2
        rw [HE7.out]
        exact ⟨⟨_, rfl, fun h => absurd h (by decide), fun _ => rfl⟩, hw1⟩
end Go.Proofs.YtfipefbaabkdeaaGreatDoor
namespace Go.Proofs.YtfipefbaabkdeaaGreatDoor
open Go.RowKit Go.Maps

theorem Tryz.rCheck_any (a : Option Addr) (len cap : Nat) (ts : List Tk) (w : World) (hT : TkSl w a len cap ts) :
    Calls Tryz.prog 16 #[.slice a len cap] w fun e w' => e = .returned (.int .i64 (lookE ts 1 : Int)) ∧ Below w.heap.size w w' := by
  have hl := Tryz.kind_any a len cap true false ts w hT rfl
  have hwo : wantOf true false = 1 := rfl
  rw [hwo] at hl
  generalize lookE ts 1 = E at *
  go_enter Tryz.func16, Tryz.ntmps16
  go_wp2_with fail
  refine hl.mono ?_
  rintro e w1 ⟨⟨v, rfl, _, _⟩, hw1⟩
  go_wp2
  go_ret
  exact ⟨rfl, hw1⟩
theorem Tryz.rPath_any (a : Option Addr) (len cap : Nat) (ts : List Tk) (w : World) (hT : TkSl w a len cap ts) :
    Calls Tryz.prog 19 #[.slice a len cap] w fun e w' => e = .returned (.int .i64 (lookE ts 3 : Int)) ∧ Below w.heap.size w w' := by
  have hl := Tryz.kind_any a len cap false true ts w hT rfl
  have hwo : wantOf false true = 3 := rfl
  rw [hwo] at hl
  generalize lookE ts 3 = E at *
  go_enter Tryz.func19, Tryz.ntmps19
  go_wp2_with fail
  refine hl.mono ?_
  rintro e w1 ⟨⟨v, rfl, _, _⟩, hw1⟩
  go_wp2
  go_ret
  exact ⟨rfl, hw1⟩
end Go.Proofs.YtfipefbaabkdeaaGreatDoor
