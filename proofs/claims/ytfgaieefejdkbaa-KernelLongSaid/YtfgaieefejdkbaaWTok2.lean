/- The document's parts in memory; may a token take these parts; the part that it puts. -/
import Derived.Test.YtfgaieefejdkbaaKGen
import Derived.Test.YtfgaieefejdkbaaTermM
namespace Go.Proofs.Ytfgaieefejdkbaa
open Go.RowKit Go.Maps

/-- A list of parts as the walk reads it. -/
structure PtSl (P : Program) (T : TypeId) (w : World) (a : Option Addr) (g o len cap : Nat) (ps : List Pt) : Prop where
  hlen : ps.length = len
  hcap : len ≤ cap
  bd : cap ≤ maxLen
  idx : ∀ (n k : Nat) (w : World), k < n → n ≤ len → (Instr.indexAt T (.slice a n cap) (.int .i64 k)).run P w = .ok (.pointer (some ⟨g, o + 4 * k, none⟩)) w
  c0 : ∀ k (h : k < ps.length), w.cell? ⟨g, o + 4 * k, none⟩ = some (.bool ps[k].path)
  c1 : ∀ k (h : k < ps.length), w.cell? ⟨g, o + 4 * k + 1, none⟩ = some (.bool ps[k].plain)
  c2 : ∀ k (h : k < ps.length), w.cell? ⟨g, o + 4 * k + 2, none⟩ = some (.int .i64 (ps[k].dep : Int))
  c3 : ∀ k (h : k < ps.length), w.cell? ⟨g, o + 4 * k + 3, none⟩ = some (.int .i64 (ps[k].frm : Int))
  blk : 0 < len → g < w.heap.size
theorem PtSl.later {P : Program} {T : TypeId} {w w' : World} {a : Option Addr} {g o len cap : Nat} {ps : List Pt} (h : PtSl P T w a g o len cap ps) {B : Nat} (hb : Below B w w') (hB : 0 < len → g < B) : PtSl P T w' a g o len cap ps :=
  ⟨h.hlen, h.hcap, h.bd, h.idx, fun k hk => (hb.cell (hB (by have := h.hlen; omega))).trans (h.c0 k hk), fun k hk => (hb.cell (hB (by have := h.hlen; omega))).trans (h.c1 k hk), fun k hk => (hb.cell (hB (by have := h.hlen; omega))).trans (h.c2 k hk), fun k hk => (hb.cell (hB (by have := h.hlen; omega))).trans (h.c3 k hk), fun hk => Nat.lt_of_lt_of_le (h.blk hk) hb.size⟩
theorem PtSl.up {P : Program} {T : TypeId} {w w' : World} {a : Option Addr} {g o len cap : Nat} {ps : List Pt} (h : PtSl P T w a g o len cap ps) (hb : Below w.heap.size w w') : PtSl P T w' a g o len cap ps := h.later hb h.blk

theorem fits_two {op : Nat} (h : op = 17 ∨ op = 18) (x y : Pt) : fitsP op [x, y] = (x.path && !y.path) := by unfold fitsP; rw [if_pos h]
theorem fits_step (x : Pt) : fitsP 19 [x] = (!x.path && x.plain) := by rfl
theorem fits_paths {op : Nat} (h : op = 21 ∨ op = 22) (x y : Pt) : fitsP op [x, y] = (x.path && y.path) := by rcases h with rfl | rfl <;> rfl
theorem fits_star (x : Pt) : fitsP 23 [x] = x.path := by rfl
theorem fits_rest {op : Nat} (h1 : op ≠ 17) (h2 : op ≠ 18) (h3 : op ≠ 19) (h4 : op ≠ 21) (h5 : op ≠ 22) (h6 : op ≠ 23) (a : List Pt) : fitsP op a = a.all fun x => !x.path := by
  unfold fitsP; rw [if_neg (by omega), if_neg h3, if_neg (by omega), if_neg h6]

set_option maxHeartbeats 1000000 in
/-- The ops that ask that no part be a path. -/
theorem Try.fits_plain (op : Nat) (a : Option Addr) (g o len cap : Nat) (ps : List Pt) (w : World) (hS : PtSl Try.prog 61 w a g o len cap ps) (hl2 : len ≤ 2) (h1 : op ≠ 17) (h2 : op ≠ 18) (h3 : op ≠ 19) (h4 : op ≠ 21) (h5 : op ≠ 22) (h6 : op ≠ 23) :
    Calls Try.prog 59 #[.int .u8 (op : Int), .slice a len cap] w fun e w' => e = .returned (.bool (fitsP op ps)) ∧ ∃ n, w' = w.drewN n := by
  have HX : Hid _ := fits_rest h1 h2 h3 h4 h5 h6 ps
  have q1 : ((op : Int) == 17) = false := by rw [beq_eq_false_iff_ne]; omega
  have q2 : ((op : Int) == 18) = false := by rw [beq_eq_false_iff_ne]; omega
  have q3 : ((op : Int) == 19) = false := by rw [beq_eq_false_iff_ne]; omega
  have q4 : ((op : Int) == 21) = false := by rw [beq_eq_false_iff_ne]; omega
  have q5 : ((op : Int) == 22) = false := by rw [beq_eq_false_iff_ne]; omega
  have q6 : ((op : Int) == 23) = false := by rw [beq_eq_false_iff_ne]; omega
  have hidx := fun (k : Nat) (w : World) (h : k < len) => hS.idx len k w h (Nat.le_refl _)
  have hlen := hS.hlen
  clear h1 h2 h3 h4 h5 h6
  go_enter Try.func59, Try.ntmps59
  go_wp2
  go_loopw [5] (fun i wr => ∃ k : Nat, k ≤ len ∧ i = .int .i64 k ∧ Hid ((ps.take k).all (fun x => !x.path) = true) ∧ Hid (∃ n, wr = w.drewN n)) (fun i _ => len - (intOf i).toNat)
  case atStart => exact ⟨0, Nat.zero_le _, rfl, by show _ = _; simp, 0, rfl⟩
  case round =>
    obtain ⟨k, hk, rfl, HU, hwr⟩ := hrel
    by_cases hlt : k < len
    · have hkl : k < ps.length := by omega
      have hc := (hS.up (below_of_drew hwr.out)).c0 k hkl
      have HN : Hid (ps[k].path = false → (ps.take (k + 1)).all (fun x => !x.path) = true) := fun h => by
        rw [List.take_add_one, List.getElem?_eq_getElem hkl, List.all_append, HU.out]; simp [h]
      have HF : Hid (ps[k].path = true → fitsP op ps = false) := fun h => by
        rw [HX.out, List.all_eq_false]; exact ⟨ps[k], List.getElem_mem hkl, by simp [h]⟩
      generalize ps[k].path = q at *
      cases q with
      | false =>
        go_wp2
        go_roundw
        case rel => exact ⟨k + 1, by omega, by go_num, HN.out (by first | rfl | trivial), hwr⟩
        case measure => simp [intOf]; omega
      | true =>
        go_wp2
        go_ret
        exact ⟨by rw [HF.out (by first | rfl | trivial)]; rfl, hwr.out⟩
    · obtain rfl : k = len := by omega
      have HT : Hid (fitsP op ps = true) := by
        rw [HX.out]; have := HU.out; rw [List.take_of_length_le (by omega)] at this; exact this
      go_wp2
      go_ret
      exact ⟨by rw [HT.out]; rfl, hwr.out⟩
set_option maxHeartbeats 1000000 in
theorem Try.fits_mod (op : Nat) (hop : op = 17 ∨ op = 18) (a : Option Addr) (g o cap : Nat) (x y : Pt) (w : World) (hS : PtSl Try.prog 61 w a g o 2 cap [x, y]) :
    Calls Try.prog 59 #[.int .u8 (op : Int), .slice a 2 cap] w fun e w' => e = .returned (.bool (fitsP op [x, y])) ∧ ∃ n, w' = w.drewN n := by
  have HX : Hid _ := fits_two hop x y
  have hi0 : ∀ w, (Instr.indexAt 61 (.slice a 2 cap) (.int .i64 0)).run Try.prog w = .ok (.pointer (some ⟨g, o + 4 * 0, none⟩)) w := fun w => hS.idx 2 0 w (by decide) (by decide)
  have hi1 : ∀ w, (Instr.indexAt 61 (.slice a 2 cap) (.int .i64 1)).run Try.prog w = .ok (.pointer (some ⟨g, o + 4 * 1, none⟩)) w := fun w => hS.idx 2 1 w (by decide) (by decide)
  have hc0 : w.cell? ⟨g, o + 4 * 0, none⟩ = some (.bool x.path) := hS.c0 0 (by simp)
  have hc1 : w.cell? ⟨g, o + 4 * 1, none⟩ = some (.bool y.path) := hS.c0 1 (by simp)
  generalize o + 4 * 0 = o0 at *
  generalize o + 4 * 1 = o1 at *
  generalize x.path = p at *
  generalize y.path = q at *
  rcases hop with rfl | rfl <;> cases p <;> cases q <;>
  · go_enter Try.func59, Try.ntmps59
    go_wp2
    go_ret
    exact ⟨by rw [HX.out]; rfl, 0, rfl⟩
set_option maxHeartbeats 1000000 in
theorem Try.fits_pp (op : Nat) (hop : op = 21 ∨ op = 22) (a : Option Addr) (g o cap : Nat) (x y : Pt) (w : World) (hS : PtSl Try.prog 61 w a g o 2 cap [x, y]) :
    Calls Try.prog 59 #[.int .u8 (op : Int), .slice a 2 cap] w fun e w' => e = .returned (.bool (fitsP op [x, y])) ∧ ∃ n, w' = w.drewN n := by
  have HX : Hid _ := fits_paths hop x y
  have hi0 : ∀ w, (Instr.indexAt 61 (.slice a 2 cap) (.int .i64 0)).run Try.prog w = .ok (.pointer (some ⟨g, o + 4 * 0, none⟩)) w := fun w => hS.idx 2 0 w (by decide) (by decide)
  have hi1 : ∀ w, (Instr.indexAt 61 (.slice a 2 cap) (.int .i64 1)).run Try.prog w = .ok (.pointer (some ⟨g, o + 4 * 1, none⟩)) w := fun w => hS.idx 2 1 w (by decide) (by decide)
  have hc0 : w.cell? ⟨g, o + 4 * 0, none⟩ = some (.bool x.path) := hS.c0 0 (by simp)
  have hc1 : w.cell? ⟨g, o + 4 * 1, none⟩ = some (.bool y.path) := hS.c0 1 (by simp)
  generalize o + 4 * 0 = o0 at *
  generalize o + 4 * 1 = o1 at *
  generalize x.path = p at *
  generalize y.path = q at *
  rcases hop with rfl | rfl <;> cases p <;> cases q <;>
  · go_enter Try.func59, Try.ntmps59
    go_wp2
    go_ret
    exact ⟨by rw [HX.out]; rfl, 0, rfl⟩
set_option maxHeartbeats 1000000 in
theorem Try.fits_st (a : Option Addr) (g o cap : Nat) (x : Pt) (w : World) (hS : PtSl Try.prog 61 w a g o 1 cap [x]) :
    Calls Try.prog 59 #[.int .u8 19, .slice a 1 cap] w fun e w' => e = .returned (.bool (fitsP 19 [x])) ∧ ∃ n, w' = w.drewN n := by
  have HX : Hid _ := fits_step x
  have hi0 : ∀ w, (Instr.indexAt 61 (.slice a 1 cap) (.int .i64 0)).run Try.prog w = .ok (.pointer (some ⟨g, o + 4 * 0, none⟩)) w := fun w => hS.idx 1 0 w (by decide) (by decide)
  have hc0 : w.cell? ⟨g, o + 4 * 0, none⟩ = some (.bool x.path) := hS.c0 0 (by simp)
  have hc1 : w.cell? ⟨g, o + 4 * 0 + 1, none⟩ = some (.bool x.plain) := hS.c1 0 (by simp)
  generalize o + 4 * 0 = o0 at *
  generalize x.path = p at *
  generalize x.plain = q at *
  cases p <;> cases q <;>
  · go_enter Try.func59, Try.ntmps59
    go_wp2
    go_ret
    exact ⟨by rw [HX.out]; rfl, 0, rfl⟩
theorem Try.fits_sr (a : Option Addr) (g o cap : Nat) (x : Pt) (w : World) (hS : PtSl Try.prog 61 w a g o 1 cap [x]) :
    Calls Try.prog 59 #[.int .u8 23, .slice a 1 cap] w fun e w' => e = .returned (.bool (fitsP 23 [x])) ∧ ∃ n, w' = w.drewN n := by
  have HX : Hid _ := fits_star x
  have hi0 : ∀ w, (Instr.indexAt 61 (.slice a 1 cap) (.int .i64 0)).run Try.prog w = .ok (.pointer (some ⟨g, o + 4 * 0, none⟩)) w := fun w => hS.idx 1 0 w (by decide) (by decide)
  have hc0 : w.cell? ⟨g, o + 4 * 0, none⟩ = some (.bool x.path) := hS.c0 0 (by simp)
  generalize o + 4 * 0 = o0 at *
  generalize x.path = p at *
  go_enter Try.func59, Try.ntmps59
  go_wp2
  go_ret
  exact ⟨by rw [HX.out]; rfl, 0, rfl⟩
/-- May a token take these parts? As many as it takes. -/
theorem Try.fits_any (op p : Nat) (a : Option Addr) (g o len cap : Nat) (ps : List Pt) (w : World) (hS : PtSl Try.prog 61 w a g o len cap ps) (ht : takesN (op, p) = some len) :
    Calls Try.prog 59 #[.int .u8 (op : Int), .slice a len cap] w fun e w' => e = .returned (.bool (fitsP op ps)) ∧ ∃ n, w' = w.drewN n := by
  have hl2 := takesN_le ht
  have hlen := hS.hlen
  have two : (op = 17 ∨ op = 18 ∨ op = 21 ∨ op = 22) → len = 2 := fun h => by
    unfold takesN at ht
    split at ht
    · cases ht
    · rw [if_neg (by dsimp only; omega), if_neg (by dsimp only; omega)] at ht; injection ht with ht; omega
  have one : (op = 19 ∨ op = 23) → len = 1 := fun h => by
    unfold takesN at ht
    split at ht
    · cases ht
    · rw [if_neg (by dsimp only; omega), if_pos (by dsimp only; omega)] at ht; injection ht with ht; omega
  by_cases h1 : op = 17 ∨ op = 18
  · obtain rfl := two (by omega)
    match ps, hlen with
    | [x, y], _ => exact Try.fits_mod op h1 a g o cap x y w hS
  · by_cases h2 : op = 21 ∨ op = 22
    · obtain rfl := two (by omega)
      match ps, hlen with
      | [x, y], _ => exact Try.fits_pp op h2 a g o cap x y w hS
    · by_cases h3 : op = 19
      · subst h3
        obtain rfl := one (by omega)
        match ps, hlen with
        | [x], _ => exact Try.fits_st a g o cap x w hS
      · by_cases h4 : op = 23
        · subst h4
          obtain rfl := one (by omega)
          match ps, hlen with
          | [x], _ => exact Try.fits_sr a g o cap x w hS
        · exact Try.fits_plain op a g o len cap ps w hS hl2 (by omega) (by omega) h3 (by omega) (by omega) h4
end Go.Proofs.Ytfgaieefejdkbaa
