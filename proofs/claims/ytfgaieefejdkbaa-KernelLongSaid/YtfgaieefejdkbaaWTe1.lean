/- Package term's small functions: the parts of the program in memory; is, over, shape, mayBe. -/
import Derived.Test.YtfgaieefejdkbaaKGen
import Derived.Test.YtfgaieefejdkbaaTermM
namespace Go.Proofs.Ytfgaieefejdkbaa
open Go.RowKit Go.Maps

def kpCells (p : Kp) : Array Value := #[.int .u8 (p.k : Int), .int .i64 (p.b : Int), .int .i64 (p.d : Int)]
/-- Block g is a variable that holds a part. -/
def KpBlk (w : World) (g : Nat) (t : TypeId) (p : Kp) : Prop := w.heap[g]? = some (.cells (kpCells p) t (0, 0))
theorem KpBlk.new (w : World) (t : TypeId) (p : Kp) : KpBlk (w.alloc (.cells (kpCells p) t)) w.heap.size t p := (MapKept.heap_alloc w _).1
theorem KpBlk.lt {w : World} {g : Nat} {t : TypeId} {p : Kp} (h : KpBlk w g t p) : g < w.heap.size := (Array.getElem?_eq_some_iff.1 h).1
theorem KpBlk.up {w w' : World} {g : Nat} {t : TypeId} {p : Kp} (h : KpBlk w g t p) (hb : Below w.heap.size w w') : KpBlk w' g t p := (hb.block g h.lt).trans h
theorem KpBlk.c0 {w : World} {g : Nat} {t : TypeId} {p : Kp} (h : KpBlk w g t p) : w.cell? ⟨g, 0, none⟩ = some (.int .u8 (p.k : Int)) := by unfold KpBlk at h; simp [World.cell?, h, kpCells]
theorem KpBlk.c1 {w : World} {g : Nat} {t : TypeId} {p : Kp} (h : KpBlk w g t p) : w.cell? ⟨g, 1, none⟩ = some (.int .i64 (p.b : Int)) := by unfold KpBlk at h; simp [World.cell?, h, kpCells]
theorem KpBlk.c2 {w : World} {g : Nat} {t : TypeId} {p : Kp} (h : KpBlk w g t p) : w.cell? ⟨g, 2, none⟩ = some (.int .i64 (p.d : Int)) := by unfold KpBlk at h; simp [World.cell?, h, kpCells]
theorem KpBlk.fz {w : World} {g : Nat} {t : TypeId} {p : Kp} (h : KpBlk w g t p) (i : Nat) : w.frozen? ⟨g, i, none⟩ = false := frozen_of_row w g i _ t h
theorem KpBlk.set0 {w : World} {g : Nat} {t : TypeId} {p : Kp} (h : KpBlk w g t p) (x : Nat) : KpBlk (w.setCell ⟨g, 0, none⟩ (.int .u8 (x : Int))) g t { p with k := x } := heap_setCell_same w g 0 _ t (.int .u8 (x : Int)) h
theorem KpBlk.set1 {w : World} {g : Nat} {t : TypeId} {p : Kp} (h : KpBlk w g t p) (x : Nat) : KpBlk (w.setCell ⟨g, 1, none⟩ (.int .i64 (x : Int))) g t { p with b := x } := heap_setCell_same w g 1 _ t (.int .i64 (x : Int)) h
theorem KpBlk.set2 {w : World} {g : Nat} {t : TypeId} {p : Kp} (h : KpBlk w g t p) (x : Nat) : KpBlk (w.setCell ⟨g, 2, none⟩ (.int .i64 (x : Int))) g t { p with d := x } := heap_setCell_same w g 2 _ t (.int .i64 (x : Int)) h
theorem KpBlk.store {w : World} {g : Nat} {t : TypeId} {p : Kp} (h : KpBlk w g t p) (q : Kp) : KpBlk (((w.setCell ⟨g, 0, none⟩ (.int .u8 (q.k : Int))).setCell ⟨g, 1, none⟩ (.int .i64 (q.b : Int))).setCell ⟨g, 2, none⟩ (.int .i64 (q.d : Int))) g t q := ((h.set0 q.k).set1 q.b).set2 q.d
theorem KpBlk.other {w : World} {g g' : Nat} {t : TypeId} {p : Kp} (h : KpBlk w g t p) (hne : g ≠ g') (i : Nat) (x : Value) : KpBlk (w.setCell ⟨g', i, none⟩ x) g t p := (Below.heap_setCell _ _ _ _ hne).trans h

set_option maxHeartbeats 1000000 in
theorem Try.is_any (p : Kp) (want : Nat) (w : World) :
    Calls Try.prog 70 #[.agg (kpCells p), .int .u8 (want : Int)] w fun e w' => e = .returned (.bool (isK p.k want)) ∧ Below w.heap.size w w' := by
  obtain ⟨k, b, d⟩ := p
  dsimp only [kpCells]
  by_cases h4 : want = 4
  · subst h4
    go_enter Try.func70, Try.ntmps70
    go_wp2
    go_ret
    exact ⟨rfl, below_new _ _⟩
  · by_cases h1 : want = 1
    · subst h1
      have HX : Hid (isK k 1 = (decide (k = 1) || decide (k = 2))) := rfl
      by_cases k1 : k = 1
      · subst k1
        go_enter Try.func70, Try.ntmps70
        go_wp2
        go_ret
        exact ⟨rfl, below_new _ _⟩
      · have q1 : ((k : Int) == 1) = false := by rw [beq_eq_false_iff_ne]; omega
        by_cases k2 : k = 2
        · subst k2
          go_enter Try.func70, Try.ntmps70
          go_wp2
          go_ret
          exact ⟨rfl, below_new _ _⟩
        · have q2 : ((k : Int) == 2) = false := by rw [beq_eq_false_iff_ne]; omega
          have HZ : Hid (isK k 1 = false) := by show _ = _; rw [HX.out]; simp [k1, k2]
          go_enter Try.func70, Try.ntmps70
          go_wp2
          go_ret
          exact ⟨by rw [HZ.out]; rfl, below_new _ _⟩
    · have q4 : ((want : Int) == 4) = false := by rw [beq_eq_false_iff_ne]; omega
      have q1 : ((want : Int) == 1) = false := by rw [beq_eq_false_iff_ne]; omega
      have HX : Hid (isK k want = decide (k = want)) := by show _ = _; unfold isK; rw [if_neg h4, if_neg h1]
      have q : ((k : Int) == (want : Int)) = decide (k = want) := cast_beq k want
      go_enter Try.func70, Try.ntmps70
      go_wp2
      go_ret
      exact ⟨by rw [HX.out]; rfl, below_new _ _⟩
theorem Try.mayBe_any (op p : Nat) (w : World) :
    Calls Try.prog 84 #[.agg #[.int .u8 (op : Int), .int .u8 (p : Int)]] w fun e w' => e = .returned (.bool (mayB op p)) ∧ Below w.heap.size w w' := by
  by_cases h2 : op = 2
  · subst h2
    have HX : Hid (mayB 2 p = decide (p < 8)) := rfl
    have q : decide ((p : Int) < 8) = decide (p < 8) := by rw [decide_eq_decide]; omega
    go_enter Try.func84, Try.ntmps84
    go_wp2
    go_ret
    exact ⟨by rw [HX.out]; rfl, below_new _ _⟩
  · have q2 : ((op : Int) == 2) = false := by rw [beq_eq_false_iff_ne]; omega
    have HX : Hid (mayB op p = (decide (op ≤ 23) && decide (p = 0))) := by show _ = _; unfold mayB; rw [if_neg h2]
    by_cases h23 : op ≤ 23
    · have q3 : (op : Int) ≤ 23 := by omega
      have q0 : ((p : Int) == 0) = decide (p = 0) := cast_beq p 0
      go_enter Try.func84, Try.ntmps84
      go_wp2
      go_ret
      exact ⟨by rw [HX.out, decide_eq_true h23]; rfl, below_new _ _⟩
    · have q3 : decide ((op : Int) ≤ 23) = false := decide_eq_false (by omega)
      go_enter Try.func84, Try.ntmps84
      go_wp2
      go_ret
      exact ⟨by rw [HX.out, decide_eq_false h23]; rfl, below_new _ _⟩
theorem al3 (w : World) (A B C : Obj) : (((w.alloc A).alloc B).alloc C).heap[w.heap.size]? = some A ∧ (((w.alloc A).alloc B).alloc C).heap[w.heap.size + 1]? = some B ∧ (((w.alloc A).alloc B).alloc C).heap[w.heap.size + 1 + 1]? = some C ∧ Below w.heap.size w (((w.alloc A).alloc B).alloc C) := by
  have h1 := (MapKept.heap_alloc w A).1
  have h2 := (MapKept.heap_alloc (w.alloc A) B).1
  have h3 := (MapKept.heap_alloc ((w.alloc A).alloc B) C).1
  have e1 : (w.alloc A).heap.size = w.heap.size + 1 := by simp
  have e2 : ((w.alloc A).alloc B).heap.size = w.heap.size + 1 + 1 := by simp
  have b1 := below_new (w.alloc A) B
  have b2 := below_new ((w.alloc A).alloc B) C
  rw [e1] at h2 b1
  rw [e2] at h3 b2
  refine ⟨?_, ?_, h3, ?_⟩
  · rw [b2.block _ (by omega), b1.block _ (by omega)]; exact h1
  · rw [b2.block _ (by omega)]; exact h2
  · exact ((below_new w A).alloc (by omega) B).alloc (by omega) C
set_option maxHeartbeats 2000000 in
/-- The part's own depth is the greater. -/
theorem Try.over_low (p t : Kp) (K : Nat) (w : World) (ht : t.d ≤ 1000000) (hm : ¬ p.d < t.d + 1) (HK : Hid (K = if p.k = 2 ∧ t.k ≠ 2 then 1 else p.k)) :
    Calls Try.prog 85 #[.agg (kpCells p), .agg (kpCells t)] w fun e w' => e = .returned (.agg (kpCells ⟨K, t.b, p.d⟩)) ∧ Below w.heap.size w w' := by
  obtain ⟨k, b, d⟩ := p
  obtain ⟨k', b', d'⟩ := t
  dsimp only [kpCells] at *
  have hw1 : IntKind.i64.wrap ((d' : Int) + 1) = ((d' + 1 : Nat) : Int) := by rw [IntKind.wrap_i64]; omega
  have hi := fun w => Try.is_any ⟨k', b', d'⟩ 2 w
  dsimp only [kpCells] at hi
  have HZ : Hid (isK k' 2 = decide (k' = 2)) := rfl
  by_cases hk : k = 2
  · subst hk
    have H3 := al3 w (.cells #[.int .u8 2, .int .i64 (b' : Int), .int .i64 ((d : Int))] 104) (.cells #[.int .u8 (k' : Int), .int .i64 (b' : Int), .int .i64 (d' : Int)] 104) (.cells #[.int .u8 0, .int .i64 0, .int .i64 0] 104)
    generalize isK k' 2 = z at *
    go_enter Try.func85, Try.ntmps85
    go_wp2_with fail
    refine (hi _).mono ?_
    rintro e w2 ⟨rfl, hw2⟩
    have hA : KpBlk w2 w.heap.size 104 ⟨2, b', d⟩ := KpBlk.up H3.1 hw2
    have hC : KpBlk w2 (w.heap.size + 1 + 1) 104 ⟨0, 0, 0⟩ := KpBlk.up H3.2.2.1 hw2
    have hb2 := below_step H3.2.2.2 hw2
    clear hw2 H3
    have hA0 := hA.c0
    have hA1 := hA.c1
    have hA2 := hA.c2
    have hAf := hA.fz
    have hC0 := hC.c0
    have hC1 := hC.c1
    have hC2 := hC.c2
    have hCf := hC.fz
    cases z with
    | false =>
      have HK1 : Hid (K = 1) := by
        have h1 : ¬ k' = 2 := of_decide_eq_false HZ.out.symm
        have h2 := HK.out
        rw [if_pos ⟨trivial, h1⟩] at h2; exact h2
      go_wp2
      refine bodyPost_ret (v := .agg #[.int .u8 1, .int .i64 (b' : Int), .int .i64 ((d : Int))]) (by simp [results, Try.results85, go_sem, hC0, hC1, hC2]) rfl ⟨by rw [HK1.out]; rfl, ?_⟩
      exact (((hb2.setCell (by dsimp only; omega) _).setCell (by dsimp only; omega) _).setCell (by dsimp only; omega) _).setCell (by dsimp only; omega) _
    | true =>
      have HK1 : Hid (K = 2) := by
        have h1 : k' = 2 := of_decide_eq_true HZ.out.symm
        have h2 := HK.out
        rw [if_neg (fun h => h.2 h1)] at h2; exact h2
      go_wp2
      refine bodyPost_ret (v := .agg #[.int .u8 2, .int .i64 (b' : Int), .int .i64 ((d : Int))]) (by simp [results, Try.results85, go_sem, hC0, hC1, hC2]) rfl ⟨by rw [HK1.out]; rfl, ?_⟩
      exact ((hb2.setCell (by dsimp only; omega) _).setCell (by dsimp only; omega) _).setCell (by dsimp only; omega) _
  · have hk2 : ((k : Int) == 2) = false := by rw [beq_eq_false_iff_ne]; omega
    have HK1 : Hid (K = k) := by
      have h2 := HK.out
      rw [if_neg (fun h => hk h.1)] at h2; exact h2
    have H3 := (al3 w (.cells #[.int .u8 (k : Int), .int .i64 (b' : Int), .int .i64 ((d : Int))] 104) (.cells #[.int .u8 (k' : Int), .int .i64 (b' : Int), .int .i64 (d' : Int)] 104) (.cells #[.int .u8 (k : Int), .int .i64 (b' : Int), .int .i64 ((d : Int))] 104)).2.2.2
    go_enter Try.func85, Try.ntmps85
    go_wp2
    refine bodyPost_ret (v := .agg #[.int .u8 (k : Int), .int .i64 (b' : Int), .int .i64 ((d : Int))]) (by simp [results, Try.results85, go_sem]) rfl ⟨by rw [HK1.out]; first | done | rfl, H3⟩
set_option maxHeartbeats 2000000 in
/-- What it takes is as deep. -/
theorem Try.over_high (p t : Kp) (K : Nat) (w : World) (ht : t.d ≤ 1000000) (hm : p.d < t.d + 1) (HK : Hid (K = if p.k = 2 ∧ t.k ≠ 2 then 1 else p.k)) :
    Calls Try.prog 85 #[.agg (kpCells p), .agg (kpCells t)] w fun e w' => e = .returned (.agg (kpCells ⟨K, t.b, t.d + 1⟩)) ∧ Below w.heap.size w w' := by
  obtain ⟨k, b, d⟩ := p
  obtain ⟨k', b', d'⟩ := t
  dsimp only [kpCells] at *
  have hw1 : IntKind.i64.wrap ((d' : Int) + 1) = ((d' + 1 : Nat) : Int) := by rw [IntKind.wrap_i64]; omega
  have hi := fun w => Try.is_any ⟨k', b', d'⟩ 2 w
  dsimp only [kpCells] at hi
  have HZ : Hid (isK k' 2 = decide (k' = 2)) := rfl
  by_cases hk : k = 2
  · subst hk
    have H3 := al3 w (.cells #[.int .u8 2, .int .i64 (b' : Int), .int .i64 ((d' : Int) + 1)] 104) (.cells #[.int .u8 (k' : Int), .int .i64 (b' : Int), .int .i64 (d' : Int)] 104) (.cells #[.int .u8 0, .int .i64 0, .int .i64 0] 104)
    generalize isK k' 2 = z at *
    go_enter Try.func85, Try.ntmps85
    go_wp2_with fail
    refine (hi _).mono ?_
    rintro e w2 ⟨rfl, hw2⟩
    have hA : KpBlk w2 w.heap.size 104 ⟨2, b', d' + 1⟩ := KpBlk.up H3.1 hw2
    have hC : KpBlk w2 (w.heap.size + 1 + 1) 104 ⟨0, 0, 0⟩ := KpBlk.up H3.2.2.1 hw2
    have hb2 := below_step H3.2.2.2 hw2
    clear hw2 H3
    have hA0 := hA.c0
    have hA1 := hA.c1
    have hA2 := hA.c2
    have hAf := hA.fz
    have hC0 := hC.c0
    have hC1 := hC.c1
    have hC2 := hC.c2
    have hCf := hC.fz
    cases z with
    | false =>
      have HK1 : Hid (K = 1) := by
        have h1 : ¬ k' = 2 := of_decide_eq_false HZ.out.symm
        have h2 := HK.out
        rw [if_pos ⟨trivial, h1⟩] at h2; exact h2
      go_wp2
      refine bodyPost_ret (v := .agg #[.int .u8 1, .int .i64 (b' : Int), .int .i64 ((d' : Int) + 1)]) (by simp [results, Try.results85, go_sem, hC0, hC1, hC2]) rfl ⟨by rw [HK1.out]; rfl, ?_⟩
      exact (((hb2.setCell (by dsimp only; omega) _).setCell (by dsimp only; omega) _).setCell (by dsimp only; omega) _).setCell (by dsimp only; omega) _
    | true =>
      have HK1 : Hid (K = 2) := by
        have h1 : k' = 2 := of_decide_eq_true HZ.out.symm
        have h2 := HK.out
        rw [if_neg (fun h => h.2 h1)] at h2; exact h2
      go_wp2
      refine bodyPost_ret (v := .agg #[.int .u8 2, .int .i64 (b' : Int), .int .i64 ((d' : Int) + 1)]) (by simp [results, Try.results85, go_sem, hC0, hC1, hC2]) rfl ⟨by rw [HK1.out]; rfl, ?_⟩
      exact ((hb2.setCell (by dsimp only; omega) _).setCell (by dsimp only; omega) _).setCell (by dsimp only; omega) _
  · have hk2 : ((k : Int) == 2) = false := by rw [beq_eq_false_iff_ne]; omega
    have HK1 : Hid (K = k) := by
      have h2 := HK.out
      rw [if_neg (fun h => hk h.1)] at h2; exact h2
    have H3 := (al3 w (.cells #[.int .u8 (k : Int), .int .i64 (b' : Int), .int .i64 ((d' : Int) + 1)] 104) (.cells #[.int .u8 (k' : Int), .int .i64 (b' : Int), .int .i64 (d' : Int)] 104) (.cells #[.int .u8 (k : Int), .int .i64 (b' : Int), .int .i64 ((d' : Int) + 1)] 104)).2.2.2
    go_enter Try.func85, Try.ntmps85
    go_wp2
    refine bodyPost_ret (v := .agg #[.int .u8 (k : Int), .int .i64 (b' : Int), .int .i64 ((d' : Int) + 1)]) (by simp [results, Try.results85, go_sem]) rfl ⟨by rw [HK1.out]; first | done | rfl, H3⟩
theorem Try.over_any (p t : Kp) (w : World) (ht : t.d ≤ 1000000) :
    Calls Try.prog 85 #[.agg (kpCells p), .agg (kpCells t)] w fun e w' => e = .returned (.agg (kpCells (overK p t))) ∧ Below w.heap.size w w' := by
  by_cases hm : p.d < t.d + 1
  · have e : overK p t = ⟨if p.k = 2 ∧ t.k ≠ 2 then 1 else p.k, t.b, t.d + 1⟩ := by unfold overK; rw [Nat.max_eq_right (by omega)]
    rw [e]; exact Try.over_high p t _ w ht hm rfl
  · have e : overK p t = ⟨if p.k = 2 ∧ t.k ≠ 2 then 1 else p.k, t.b, p.d⟩ := by unfold overK; rw [Nat.max_eq_left (by omega)]
    rw [e]; exact Try.over_low p t _ w ht hm rfl
theorem adOf_block (g o k : Nat) : (adOf (some ⟨g, o, none⟩) k).block = g := by simp [adOf, add_plain]
set_option maxHeartbeats 4000000 in
theorem Try.shape_small (op : Nat) (w : World) (hop : op ≤ 23) :
    Calls Try.prog 83 #[.int .u8 (op : Int)] w fun e w' => ∃ a, e = .returned (.tuple #[.slice a (takesK op).length (takesK op).length, .int .u8 (putsK op : Int)]) ∧ IntSl Try.prog 126 .u8 w' a (takesK op).length (takesK op).length ((takesK op).map Int.ofNat) ∧ Below w.heap.size w w' ∧ ∀ k, k < (takesK op).length → w.heap.size ≤ (adOf a k).block := by
  rcases op_cases hop with rfl | rfl | rfl | rfl | rfl | rfl | rfl | rfl | rfl | rfl | rfl | rfl | rfl | rfl | rfl | rfl | rfl | rfl | rfl | rfl | rfl | rfl | rfl | rfl <;>
  · go_enter Try.func83, Try.ntmps83
    go_wp2
    go_ret2
    first
    | exact ⟨none, rfl, intSl_nil, Below.refl _ _, fun k hk => absurd hk (Nat.not_lt_zero _)⟩
    | exact ⟨some ⟨w.heap.size, 0, none⟩, rfl, (RowAt.new w 71 [1]).intSl Try.underlying126 (by kernel_rfl) (Nat.le_refl _) (by decide), below_new _ _, fun k _ => Nat.le_of_eq (adOf_block _ _ _).symm⟩
    | exact ⟨some ⟨w.heap.size, 0, none⟩, rfl, (RowAt.new w 71 [2]).intSl Try.underlying126 (by kernel_rfl) (Nat.le_refl _) (by decide), below_new _ _, fun k _ => Nat.le_of_eq (adOf_block _ _ _).symm⟩
    | exact ⟨some ⟨w.heap.size, 0, none⟩, rfl, (RowAt.new w 71 [3]).intSl Try.underlying126 (by kernel_rfl) (Nat.le_refl _) (by decide), below_new _ _, fun k _ => Nat.le_of_eq (adOf_block _ _ _).symm⟩
    | exact ⟨some ⟨w.heap.size, 0, none⟩, rfl, (RowAt.new w 71 [1, 1]).intSl Try.underlying126 (by kernel_rfl) (Nat.le_refl _) (by decide), below_new _ _, fun k _ => Nat.le_of_eq (adOf_block _ _ _).symm⟩
    | exact ⟨some ⟨w.heap.size, 0, none⟩, rfl, (RowAt.new w 71 [3, 1]).intSl Try.underlying126 (by kernel_rfl) (Nat.le_refl _) (by decide), below_new _ _, fun k _ => Nat.le_of_eq (adOf_block _ _ _).symm⟩
    | exact ⟨some ⟨w.heap.size, 0, none⟩, rfl, (RowAt.new w 71 [3, 3]).intSl Try.underlying126 (by kernel_rfl) (Nat.le_refl _) (by decide), below_new _ _, fun k _ => Nat.le_of_eq (adOf_block _ _ _).symm⟩
set_option maxHeartbeats 4000000 in
theorem Try.shape_any (op : Nat) (w : World) :
    Calls Try.prog 83 #[.int .u8 (op : Int)] w fun e w' => ∃ a, e = .returned (.tuple #[.slice a (takesK op).length (takesK op).length, .int .u8 (putsK op : Int)]) ∧ IntSl Try.prog 126 .u8 w' a (takesK op).length (takesK op).length ((takesK op).map Int.ofNat) ∧ Below w.heap.size w w' ∧ ∀ k, k < (takesK op).length → w.heap.size ≤ (adOf a k).block := by
  by_cases hop : op ≤ 23
  · exact Try.shape_small op w hop
  · have HT : Hid (takesK op = []) := by
      show _ = _
      unfold takesK
      repeat rw [if_neg (by omega)]
    have HP : Hid (putsK op = 0) := by
      show _ = _
      unfold putsK
      repeat rw [if_neg (by omega)]
    have q : ∀ n : Nat, n ≤ 23 → ((op : Int) == (n : Int)) = false := fun n hn => by rw [beq_eq_false_iff_ne]; omega
    have q0 := q 0 (by decide)
    have q1 := q 1 (by decide)
    have q2 := q 2 (by decide)
    have q3 := q 3 (by decide)
    have q4 := q 4 (by decide)
    have q5 := q 5 (by decide)
    have q6 := q 6 (by decide)
    have q7 := q 7 (by decide)
    have q8 := q 8 (by decide)
    have q9 := q 9 (by decide)
    have q10 := q 10 (by decide)
    have q11 := q 11 (by decide)
    have q12 := q 12 (by decide)
    have q13 := q 13 (by decide)
    have q14 := q 14 (by decide)
    have q15 := q 15 (by decide)
    have q16 := q 16 (by decide)
    have q17 := q 17 (by decide)
    have q18 := q 18 (by decide)
    have q19 := q 19 (by decide)
    have q20 := q 20 (by decide)
    have q21 := q 21 (by decide)
    have q22 := q 22 (by decide)
    have q23 := q 23 (by decide)
    clear q
    go_enter Try.func83, Try.ntmps83
    go_wp2
    go_ret2
    rw [HT.out, HP.out]
    exact ⟨none, rfl, intSl_nil, Below.refl _ _, fun k hk => absurd hk (Nat.not_lt_zero _)⟩
end Go.Proofs.Ytfgaieefejdkbaa
