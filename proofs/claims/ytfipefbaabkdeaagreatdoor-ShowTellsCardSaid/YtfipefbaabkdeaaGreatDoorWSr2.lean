/- The document's layer 6: the text of a token and what it takes. -/
import Derived.Test.YtfipefbaabkdeaaGreatDoorWSr1
import Derived.Deep.RegionHeld3
namespace Go.Proofs.YtfipefbaabkdeaaGreatDoor
open Go.RowKit Go.Maps

/-- Texts that lie in a row: a list of them. -/
structure TxSl (w : World) (a : Option Addr) (len cap g o : Nat) (A : List Tx) : Prop where
  idx : ∀ (i : Nat) (w' : World), i < A.length → (Instr.indexAt 70 (.slice a len cap) (.int .i64 (i : Int))).run Tryz.prog w' = .ok (.pointer (some ⟨g, o + 2 * i, none⟩)) w'
  c0 : ∀ i (h : i < A.length), w.cell? ⟨g, o + 2 * i, none⟩ = some (.string (mkB A[i].1))
  c1 : ∀ i (h : i < A.length), w.cell? ⟨g, o + 2 * i + 1, none⟩ = some (.int .i64 (A[i].2 : Int))
theorem TxSl.up {w w' : World} {a : Option Addr} {len cap g o : Nat} {A : List Tx} (h : TxSl w a len cap g o A) (hb : Below w.heap.size w w') : TxSl w' a len cap g o A :=
  ⟨h.idx, fun i hi => kept_cell (h.c0 i hi) hb, fun i hi => kept_cell (h.c1 i hi) hb⟩
theorem str_le (op : Nat) : strN op ≤ 7 := by
  unfold strN
  repeat' split
  all_goals omega
set_option maxRecDepth 100000 in
set_option maxHeartbeats 2000000 in
theorem Tryz.rput_leaf (a : Option Addr) (len cap : Nat) (ad : Nat → Addr) (ss : List ByteArray) (b : Option Addr) (n m : Nat) (op p : Nat) (w : World) (hS : StrSl Tryz.prog 22 w a len cap ad ss) (ho : op = 0 ∨ op = 1 ∨ op = 3 ∨ op = 2 ∧ p < len) :
    Calls Tryz.prog 33 #[.slice a len cap, .agg #[.int .u8 (op : Int), .int .u8 (p : Int)], .slice b n m] w fun e w' => e = .returned (.string (mkB (leafT (nms ss) (op, p)))) ∧ Below w.heap.size w w' := by
  have hst := fun w' => Tryz.rstr_any op (by omega) w'
  rcases ho with rfl | rfl | rfl | ⟨rfl, hp⟩
  iterate 3
    · clear hS
      go_enter Tryz.func33, Tryz.ntmps33
      go_wp2_with (go_at_call 34; refine (hst _).mono ?_; rintro e w' ⟨rfl, rfl⟩)
      go_ret
      exact ⟨rfl, below_new _ _⟩
  · have hi : ∀ w', (Instr.indexAt 22 (.slice a len cap) (.int .u8 (p : Int))).run Tryz.prog w' = .ok (.pointer (some (ad p))) w' := fun w' => hS.idx len p w' hp (Nat.le_refl _)
    have hc := hS.cell p hp
    have hbl := hS.blk p hp
    have hbd := Nat.le_trans hS.hcap hS.bd
    unfold maxLen at hbd
    have hres : ss.getD p ByteArray.empty = mkB (leafT (nms ss) (2, p)) := by
      have hl := hS.hlen
      unfold leafT nms
      have : p < ss.length := by omega
      simp [List.getD_eq_getElem?_getD, this, mkB_of]
    rw [hres] at hc
    clear hS hres
    generalize mkB (leafT (nms ss) (2, p)) = r at *
    go_enter Tryz.func33, Tryz.ntmps33
    go_wp2_with (go_at_call 34; refine (hst _).mono ?_; rintro e w' ⟨rfl, rfl⟩)
    go_ret
    exact ⟨rfl, below_new _ _⟩
set_option maxRecDepth 100000 in
set_option maxHeartbeats 4000000 in
theorem Tryz.rput_un (a : Option Addr) (len cap : Nat) (b : Option Addr) (n m g o : Nat) (op p : Nat) (x : Tx) (w : World) (ho : op = 6 ∨ op = 7 ∨ op = 8 ∨ op = 9 ∨ op = 10 ∨ op = 20) (hx : x.1.length ≤ 1000000) (hA : TxSl w b n m g o [x]) :
    Calls Tryz.prog 33 #[.slice a len cap, .agg #[.int .u8 (op : Int), .int .u8 (p : Int)], .slice b n m] w fun e w' => e = .returned (.string (mkB (unW op ++ (gapB op ++ wiX x 6)))) ∧ Below w.heap.size w w' := by
  have hst := fun w' => Tryz.rstr_any op (by omega) w'
  have hi0 : ∀ w', (Instr.indexAt 70 (.slice b n m) (.int .i64 0)).run Tryz.prog w' = .ok (.pointer (some ⟨g, o, none⟩)) w' := fun w' => hA.idx 0 w' (by simp)
  obtain ⟨wa, hwa⟩ : ∃ wa, wa = w.alloc (.cells #[.int .u8 (op : Int), .int .u8 (p : Int)] 41) := ⟨_, rfl⟩
  have hba : Below w.heap.size w wa := by rw [hwa]; exact below_new _ _
  have hrow : wa.heap[w.heap.size]? = some (.cells #[.int .u8 (op : Int), .int .u8 (p : Int)] 41 (0, 0)) := by rw [hwa]; exact (MapKept.heap_alloc w _).1
  have ct : wa.cell? ⟨w.heap.size, 0, none⟩ = some (.int .u8 (op : Int)) := cell_row hrow 0
  have c00 : wa.cell? ⟨g, o, none⟩ = some (.string (mkB x.1)) := kept_cell (hA.c0 0 (by simp)) hba
  have c01 : wa.cell? ⟨g, o + 1, none⟩ = some (.int .i64 (x.2 : Int)) := kept_cell (hA.c1 0 (by simp)) hba
  have h1 := un_len op
  have h2 := gap_len op
  have h3 := bin_len op
  have hah := fun w' => Tryz.rahead_any op ho w'
  have hwi := fun w' => Tryz.rwithin_any x 6 6 rfl w' (by omega)
  have h4 : (wiX x 6).length ≤ x.1.length + 2 := wi_len _ _
  have s2 : ¬ 9223372036854775807 < (mkB (unW op ++ gapB op)).size + (mkB (wiX x 6)).size := by rw [mkB_size, mkB_size]; first | (simp; done) | (simp; omega)
  have hres : mkB (unW op ++ gapB op) ++ mkB (wiX x 6) = mkB (unW op ++ (gapB op ++ wiX x 6)) := by simp [mkB_app]
  rw [← hres]
  have hk0 : (wa.drew.cell? ⟨w.heap.size, 0, none⟩ = some (.int .u8 (op : Int)) ∧ wa.drew.cell? ⟨g, o, none⟩ = some (.string (mkB x.1)) ∧ wa.drew.cell? ⟨g, o + 1, none⟩ = some (.int .i64 (x.2 : Int))) := ⟨ct, c00, c01⟩
  have hk1 : ∀ w0 w1 : World, (w0.cell? ⟨w.heap.size, 0, none⟩ = some (.int .u8 (op : Int)) ∧ w0.cell? ⟨g, o, none⟩ = some (.string (mkB x.1)) ∧ w0.cell? ⟨g, o + 1, none⟩ = some (.int .i64 (x.2 : Int))) → Below w0.heap.size w0 w1 → (w1.cell? ⟨w.heap.size, 0, none⟩ = some (.int .u8 (op : Int)) ∧ w1.cell? ⟨g, o, none⟩ = some (.string (mkB x.1)) ∧ w1.cell? ⟨g, o + 1, none⟩ = some (.int .i64 (x.2 : Int))) := fun w0 w1 h hb => ⟨kept_cell h.1 hb, kept_cell h.2.1 hb, kept_cell h.2.2 hb⟩
  have HBA : Hid (Below w.heap.size w wa) := hba
  clear hA hrow hres hba hx h1 h2 h3
  generalize strN op = k at *
  generalize mkB (unW op ++ gapB op) = ah at *
  generalize mkB (wiX x 6) = wi at *
  obtain ⟨z, hz⟩ : ∃ z : Int, z = (op : Int) := ⟨_, rfl⟩
  rw [← hz] at hk0
  simp only [← hz] at hk1 hah
  clear hz
  rcases ho with rfl | rfl | rfl | rfl | rfl | rfl
  all_goals
    go_enter Tryz.func33, Tryz.ntmps33
    go_upto_region 17 with (go_at_call 34; refine (hst _).mono ?_; rintro e w' ⟨rfl, rfl⟩)
    generalize w.alloc _ = wb at *
    subst hwa
    go_region_held3 (fun w' => w'.cell? ⟨w.heap.size, 0, none⟩ = some (.int .u8 z) ∧ w'.cell? ⟨g, o, none⟩ = some (.string (mkB x.1)) ∧ w'.cell? ⟨g, o + 1, none⟩ = some (.int .i64 (x.2 : Int))) (first | exact hk0 | exact hk1 _ _ hk0 ‹_› | exact hk1 _ _ ‹_› ‹_›)
      (first
        | (go_at_call 44; refine (hah _).mono ?_; rintro e w1 ⟨rfl, rfl⟩)
        | (go_at_call 45; refine (hwi _).mono ?_; rintro e w2 ⟨rfl, hb2⟩))
    have HB2 : Hid (Below w.heap.size w w2) := below_step HBA.out.drew hb2
    clear hk0 hk1 hb2
    go_wp2
    go_ret
    exact ⟨rfl, HB2.out⟩
set_option maxRecDepth 100000 in
set_option maxHeartbeats 4000000 in
theorem Tryz.rput_step (a : Option Addr) (len cap : Nat) (b : Option Addr) (n m g o : Nat) (op p : Nat) (x : Tx) (w : World) (ho : op = 19) (hx : x.1.length ≤ 1000000) (hA : TxSl w b n m g o [x]) :
    Calls Tryz.prog 33 #[.slice a len cap, .agg #[.int .u8 (op : Int), .int .u8 (p : Int)], .slice b n m] w fun e w' => e = .returned (.string (mkB (123 :: (x.1 ++ [125])))) ∧ Below w.heap.size w w' := by
  have hst := fun w' => Tryz.rstr_any op (by omega) w'
  have hi0 : ∀ w', (Instr.indexAt 70 (.slice b n m) (.int .i64 0)).run Tryz.prog w' = .ok (.pointer (some ⟨g, o, none⟩)) w' := fun w' => hA.idx 0 w' (by simp)
  obtain ⟨wa, hwa⟩ : ∃ wa, wa = w.alloc (.cells #[.int .u8 (op : Int), .int .u8 (p : Int)] 41) := ⟨_, rfl⟩
  have hba : Below w.heap.size w wa := by rw [hwa]; exact below_new _ _
  have hrow : wa.heap[w.heap.size]? = some (.cells #[.int .u8 (op : Int), .int .u8 (p : Int)] 41 (0, 0)) := by rw [hwa]; exact (MapKept.heap_alloc w _).1
  have ct : wa.cell? ⟨w.heap.size, 0, none⟩ = some (.int .u8 (op : Int)) := cell_row hrow 0
  have c00 : wa.cell? ⟨g, o, none⟩ = some (.string (mkB x.1)) := kept_cell (hA.c0 0 (by simp)) hba
  have c01 : wa.cell? ⟨g, o + 1, none⟩ = some (.int .i64 (x.2 : Int)) := kept_cell (hA.c1 0 (by simp)) hba
  have h1 := un_len op
  have h2 := gap_len op
  have h3 := bin_len op
  have s2 : ¬ 9223372036854775807 < (mkB ([123])).size + (mkB (x.1)).size := by rw [mkB_size, mkB_size]; first | (simp; done) | (simp; omega)
  have s3 : ¬ 9223372036854775807 < (mkB ([123])).size + (mkB (x.1)).size + (mkB ([125])).size := by rw [mkB_size, mkB_size, mkB_size]; first | (simp; done) | (simp; omega)
  have hres : mkB ([123]) ++ mkB (x.1) ++ mkB ([125]) = mkB (123 :: (x.1 ++ [125])) := by simp [mkB_app]
  rw [← hres]
  have hk0 : (wa.drew.cell? ⟨w.heap.size, 0, none⟩ = some (.int .u8 (op : Int)) ∧ wa.drew.cell? ⟨g, o, none⟩ = some (.string (mkB x.1)) ∧ wa.drew.cell? ⟨g, o + 1, none⟩ = some (.int .i64 (x.2 : Int))) := ⟨ct, c00, c01⟩
  have hk1 : ∀ w0 w1 : World, (w0.cell? ⟨w.heap.size, 0, none⟩ = some (.int .u8 (op : Int)) ∧ w0.cell? ⟨g, o, none⟩ = some (.string (mkB x.1)) ∧ w0.cell? ⟨g, o + 1, none⟩ = some (.int .i64 (x.2 : Int))) → Below w0.heap.size w0 w1 → (w1.cell? ⟨w.heap.size, 0, none⟩ = some (.int .u8 (op : Int)) ∧ w1.cell? ⟨g, o, none⟩ = some (.string (mkB x.1)) ∧ w1.cell? ⟨g, o + 1, none⟩ = some (.int .i64 (x.2 : Int))) := fun w0 w1 h hb => ⟨kept_cell h.1 hb, kept_cell h.2.1 hb, kept_cell h.2.2 hb⟩
  have HBA : Hid (Below w.heap.size w wa) := hba
  clear hA hrow hres hba hx h1 h2 h3
  have m1 : mkB [123] = { data := #[123] } := rfl
  have m2 : mkB [125] = { data := #[125] } := rfl
  rw [m1, m2]
  rw [m1, m2] at s3
  rw [m1] at s2
  have s2' : ¬ 9223372036854775807 < 1 + (mkB x.1).size := s2
  have s3' : ¬ 9223372036854775807 < 1 + (mkB x.1).size + 1 := s3
  clear s2 s3 m1 m2 hk0 hk1
  subst ho
  go_enter Tryz.func33, Tryz.ntmps33
  go_wp2_with fail
  refine (hst _).mono ?_
  rintro e w' ⟨rfl, rfl⟩
  generalize w.alloc _ = wb at *
  subst hwa
  go_wp2
  go_ret
  exact ⟨rfl, HBA.out⟩
set_option maxRecDepth 100000 in
set_option maxHeartbeats 4000000 in
theorem Tryz.rput_star (a : Option Addr) (len cap : Nat) (b : Option Addr) (n m g o : Nat) (op p : Nat) (x : Tx) (w : World) (ho : op = 23) (hx : x.1.length ≤ 1000000) (hA : TxSl w b n m g o [x]) :
    Calls Tryz.prog 33 #[.slice a len cap, .agg #[.int .u8 (op : Int), .int .u8 (p : Int)], .slice b n m] w fun e w' => e = .returned (.string (mkB (wiX x 3 ++ [42]))) ∧ Below w.heap.size w w' := by
  have hst := fun w' => Tryz.rstr_any op (by omega) w'
  have hi0 : ∀ w', (Instr.indexAt 70 (.slice b n m) (.int .i64 0)).run Tryz.prog w' = .ok (.pointer (some ⟨g, o, none⟩)) w' := fun w' => hA.idx 0 w' (by simp)
  obtain ⟨wa, hwa⟩ : ∃ wa, wa = w.alloc (.cells #[.int .u8 (op : Int), .int .u8 (p : Int)] 41) := ⟨_, rfl⟩
  have hba : Below w.heap.size w wa := by rw [hwa]; exact below_new _ _
  have hrow : wa.heap[w.heap.size]? = some (.cells #[.int .u8 (op : Int), .int .u8 (p : Int)] 41 (0, 0)) := by rw [hwa]; exact (MapKept.heap_alloc w _).1
  have ct : wa.cell? ⟨w.heap.size, 0, none⟩ = some (.int .u8 (op : Int)) := cell_row hrow 0
  have c00 : wa.cell? ⟨g, o, none⟩ = some (.string (mkB x.1)) := kept_cell (hA.c0 0 (by simp)) hba
  have c01 : wa.cell? ⟨g, o + 1, none⟩ = some (.int .i64 (x.2 : Int)) := kept_cell (hA.c1 0 (by simp)) hba
  have h1 := un_len op
  have h2 := gap_len op
  have h3 := bin_len op
  have hwi := fun w' => Tryz.rwithin_any x 3 3 rfl w' (by omega)
  have h4 : (wiX x 3).length ≤ x.1.length + 2 := wi_len _ _
  have s2 : ¬ 9223372036854775807 < (mkB (wiX x 3)).size + (mkB ([42])).size := by rw [mkB_size, mkB_size]; first | (simp; done) | (simp; omega)
  have hres : mkB (wiX x 3) ++ mkB ([42]) = mkB (wiX x 3 ++ [42]) := by simp [mkB_app]
  rw [← hres]
  have hk0 : (wa.drew.cell? ⟨w.heap.size, 0, none⟩ = some (.int .u8 (op : Int)) ∧ wa.drew.cell? ⟨g, o, none⟩ = some (.string (mkB x.1)) ∧ wa.drew.cell? ⟨g, o + 1, none⟩ = some (.int .i64 (x.2 : Int))) := ⟨ct, c00, c01⟩
  have hk1 : ∀ w0 w1 : World, (w0.cell? ⟨w.heap.size, 0, none⟩ = some (.int .u8 (op : Int)) ∧ w0.cell? ⟨g, o, none⟩ = some (.string (mkB x.1)) ∧ w0.cell? ⟨g, o + 1, none⟩ = some (.int .i64 (x.2 : Int))) → Below w0.heap.size w0 w1 → (w1.cell? ⟨w.heap.size, 0, none⟩ = some (.int .u8 (op : Int)) ∧ w1.cell? ⟨g, o, none⟩ = some (.string (mkB x.1)) ∧ w1.cell? ⟨g, o + 1, none⟩ = some (.int .i64 (x.2 : Int))) := fun w0 w1 h hb => ⟨kept_cell h.1 hb, kept_cell h.2.1 hb, kept_cell h.2.2 hb⟩
  have HBA : Hid (Below w.heap.size w wa) := hba
  clear hA hrow hres hba hx h1 h2 h3
  have m2 : mkB [42] = { data := #[42] } := rfl
  rw [m2]
  rw [m2] at s2
  have s2' : ¬ 9223372036854775807 < (mkB (wiX x 3)).size + 1 := s2
  clear s2 m2 hk0 hk1
  generalize mkB (wiX x 3) = wi at *
  subst ho
  go_enter Tryz.func33, Tryz.ntmps33
  go_wp2_with fail
  refine (hst _).mono ?_
  rintro e w' ⟨rfl, rfl⟩
  generalize w.alloc _ = wb at *
  subst hwa
  go_wp2_with fail
  refine (hwi _).mono ?_
  rintro e w2 ⟨rfl, hb2⟩
  have HB2 : Hid (Below w.heap.size w w2) := below_step HBA.out hb2
  clear hb2
  go_wp2
  go_ret
  exact ⟨rfl, HB2.out⟩
set_option maxRecDepth 100000 in
set_option maxHeartbeats 4000000 in
theorem Tryz.rput_dia (a : Option Addr) (len cap : Nat) (b : Option Addr) (n m g o : Nat) (op p : Nat) (x y : Tx) (w : World) (ho : op = 17) (hx : x.1.length ≤ 1000000) (hy : y.1.length ≤ 1000000) (hA : TxSl w b n m g o [x, y]) :
    Calls Tryz.prog 33 #[.slice a len cap, .agg #[.int .u8 (op : Int), .int .u8 (p : Int)], .slice b n m] w fun e w' => e = .returned (.string (mkB (60 :: (x.1 ++ 62 :: 32 :: wiX y 6)))) ∧ Below w.heap.size w w' := by
  have hst := fun w' => Tryz.rstr_any op (by omega) w'
  have hi0 : ∀ w', (Instr.indexAt 70 (.slice b n m) (.int .i64 0)).run Tryz.prog w' = .ok (.pointer (some ⟨g, o, none⟩)) w' := fun w' => hA.idx 0 w' (by simp)
  have hi1 : ∀ w', (Instr.indexAt 70 (.slice b n m) (.int .i64 1)).run Tryz.prog w' = .ok (.pointer (some ⟨g, o + 2, none⟩)) w' := fun w' => hA.idx 1 w' (by simp)
  obtain ⟨wa, hwa⟩ : ∃ wa, wa = w.alloc (.cells #[.int .u8 (op : Int), .int .u8 (p : Int)] 41) := ⟨_, rfl⟩
  have hba : Below w.heap.size w wa := by rw [hwa]; exact below_new _ _
  have hrow : wa.heap[w.heap.size]? = some (.cells #[.int .u8 (op : Int), .int .u8 (p : Int)] 41 (0, 0)) := by rw [hwa]; exact (MapKept.heap_alloc w _).1
  have ct : wa.cell? ⟨w.heap.size, 0, none⟩ = some (.int .u8 (op : Int)) := cell_row hrow 0
  have c00 : wa.cell? ⟨g, o, none⟩ = some (.string (mkB x.1)) := kept_cell (hA.c0 0 (by simp)) hba
  have c01 : wa.cell? ⟨g, o + 1, none⟩ = some (.int .i64 (x.2 : Int)) := kept_cell (hA.c1 0 (by simp)) hba
  have c10 : wa.cell? ⟨g, o + 2, none⟩ = some (.string (mkB y.1)) := kept_cell (hA.c0 1 (by simp)) hba
  have c11 : wa.cell? ⟨g, o + 2 + 1, none⟩ = some (.int .i64 (y.2 : Int)) := kept_cell (hA.c1 1 (by simp)) hba
  have h1 := un_len op
  have h2 := gap_len op
  have h3 := bin_len op
  have hwi := fun w' => Tryz.rwithin_any y 6 6 rfl w' (by omega)
  have h4 : (wiX y 6).length ≤ y.1.length + 2 := wi_len _ _
  have s2 : ¬ 9223372036854775807 < (mkB ([60])).size + (mkB (x.1)).size := by rw [mkB_size, mkB_size]; first | (simp; done) | (simp; omega)
  have s3 : ¬ 9223372036854775807 < (mkB ([60])).size + (mkB (x.1)).size + (mkB ([62, 32])).size := by rw [mkB_size, mkB_size, mkB_size]; first | (simp; done) | (simp; omega)
  have s4 : ¬ 9223372036854775807 < (mkB ([60])).size + (mkB (x.1)).size + (mkB ([62, 32])).size + (mkB (wiX y 6)).size := by rw [mkB_size, mkB_size, mkB_size, mkB_size]; first | (simp; done) | (simp; omega)
  have hres : mkB ([60]) ++ mkB (x.1) ++ mkB ([62, 32]) ++ mkB (wiX y 6) = mkB (60 :: (x.1 ++ 62 :: 32 :: wiX y 6)) := by simp [mkB_app]
  rw [← hres]
  have hk0 : (wa.drew.cell? ⟨w.heap.size, 0, none⟩ = some (.int .u8 (op : Int)) ∧ wa.drew.cell? ⟨g, o, none⟩ = some (.string (mkB x.1)) ∧ wa.drew.cell? ⟨g, o + 1, none⟩ = some (.int .i64 (x.2 : Int)) ∧ wa.drew.cell? ⟨g, o + 2, none⟩ = some (.string (mkB y.1)) ∧ wa.drew.cell? ⟨g, o + 2 + 1, none⟩ = some (.int .i64 (y.2 : Int))) := ⟨ct, c00, c01, c10, c11⟩
  have hk1 : ∀ w0 w1 : World, (w0.cell? ⟨w.heap.size, 0, none⟩ = some (.int .u8 (op : Int)) ∧ w0.cell? ⟨g, o, none⟩ = some (.string (mkB x.1)) ∧ w0.cell? ⟨g, o + 1, none⟩ = some (.int .i64 (x.2 : Int)) ∧ w0.cell? ⟨g, o + 2, none⟩ = some (.string (mkB y.1)) ∧ w0.cell? ⟨g, o + 2 + 1, none⟩ = some (.int .i64 (y.2 : Int))) → Below w0.heap.size w0 w1 → (w1.cell? ⟨w.heap.size, 0, none⟩ = some (.int .u8 (op : Int)) ∧ w1.cell? ⟨g, o, none⟩ = some (.string (mkB x.1)) ∧ w1.cell? ⟨g, o + 1, none⟩ = some (.int .i64 (x.2 : Int)) ∧ w1.cell? ⟨g, o + 2, none⟩ = some (.string (mkB y.1)) ∧ w1.cell? ⟨g, o + 2 + 1, none⟩ = some (.int .i64 (y.2 : Int))) := fun w0 w1 h hb => ⟨kept_cell h.1 hb, kept_cell h.2.1 hb, kept_cell h.2.2.1 hb, kept_cell h.2.2.2.1 hb, kept_cell h.2.2.2.2 hb⟩
  have HBA : Hid (Below w.heap.size w wa) := hba
  clear hA hrow hres hba hx hy h1 h2 h3
  have m1 : mkB [60] = { data := #[60] } := rfl
  have m2 : mkB [62, 32] = { data := #[62, 32] } := rfl
  rw [m1, m2]
  rw [m1, m2] at s3 s4
  rw [m1] at s2
  have s2' : ¬ 9223372036854775807 < 1 + (mkB x.1).size := s2
  have s3' : ¬ 9223372036854775807 < 1 + (mkB x.1).size + 2 := s3
  have s4' : ¬ 9223372036854775807 < 1 + (mkB x.1).size + 2 + (mkB (wiX y 6)).size := s4
  clear s2 s3 s4 m1 m2
  generalize mkB (wiX y 6) = wi at *
  obtain ⟨z, hz⟩ : ∃ z : Int, z = (op : Int) := ⟨_, rfl⟩
  rw [← hz] at hk0
  simp only [← hz] at hk1
  clear hz
  subst ho
  go_enter Tryz.func33, Tryz.ntmps33
  go_upto_region 23 with (go_at_call 34; refine (hst _).mono ?_; rintro e w' ⟨rfl, rfl⟩)
  generalize w.alloc _ = wb at *
  subst hwa
  go_region_held3 (fun w' => w'.cell? ⟨w.heap.size, 0, none⟩ = some (.int .u8 z) ∧ w'.cell? ⟨g, o, none⟩ = some (.string (mkB x.1)) ∧ w'.cell? ⟨g, o + 1, none⟩ = some (.int .i64 (x.2 : Int)) ∧ w'.cell? ⟨g, o + 2, none⟩ = some (.string (mkB y.1)) ∧ w'.cell? ⟨g, o + 2 + 1, none⟩ = some (.int .i64 (y.2 : Int))) (first | exact hk0 | exact hk1 _ _ hk0 ‹_› | exact hk1 _ _ ‹_› ‹_›)
    (first
      | (go_at_call 45; refine (hwi _).mono ?_; rintro e w2 ⟨rfl, hb2⟩))
  have HB2 : Hid (Below w.heap.size w w2) := below_step HBA.out.drew hb2
  clear hk0 hk1 hb2
  go_wp2
  go_ret
  exact ⟨rfl, HB2.out⟩
set_option maxRecDepth 100000 in
set_option maxHeartbeats 4000000 in
theorem Tryz.rput_box (a : Option Addr) (len cap : Nat) (b : Option Addr) (n m g o : Nat) (op p : Nat) (x y : Tx) (w : World) (ho : op = 18) (hx : x.1.length ≤ 1000000) (hy : y.1.length ≤ 1000000) (hA : TxSl w b n m g o [x, y]) :
    Calls Tryz.prog 33 #[.slice a len cap, .agg #[.int .u8 (op : Int), .int .u8 (p : Int)], .slice b n m] w fun e w' => e = .returned (.string (mkB (91 :: (x.1 ++ 93 :: 32 :: wiX y 6)))) ∧ Below w.heap.size w w' := by
  have hst := fun w' => Tryz.rstr_any op (by omega) w'
  have hi0 : ∀ w', (Instr.indexAt 70 (.slice b n m) (.int .i64 0)).run Tryz.prog w' = .ok (.pointer (some ⟨g, o, none⟩)) w' := fun w' => hA.idx 0 w' (by simp)
  have hi1 : ∀ w', (Instr.indexAt 70 (.slice b n m) (.int .i64 1)).run Tryz.prog w' = .ok (.pointer (some ⟨g, o + 2, none⟩)) w' := fun w' => hA.idx 1 w' (by simp)
  obtain ⟨wa, hwa⟩ : ∃ wa, wa = w.alloc (.cells #[.int .u8 (op : Int), .int .u8 (p : Int)] 41) := ⟨_, rfl⟩
  have hba : Below w.heap.size w wa := by rw [hwa]; exact below_new _ _
  have hrow : wa.heap[w.heap.size]? = some (.cells #[.int .u8 (op : Int), .int .u8 (p : Int)] 41 (0, 0)) := by rw [hwa]; exact (MapKept.heap_alloc w _).1
  have ct : wa.cell? ⟨w.heap.size, 0, none⟩ = some (.int .u8 (op : Int)) := cell_row hrow 0
  have c00 : wa.cell? ⟨g, o, none⟩ = some (.string (mkB x.1)) := kept_cell (hA.c0 0 (by simp)) hba
  have c01 : wa.cell? ⟨g, o + 1, none⟩ = some (.int .i64 (x.2 : Int)) := kept_cell (hA.c1 0 (by simp)) hba
  have c10 : wa.cell? ⟨g, o + 2, none⟩ = some (.string (mkB y.1)) := kept_cell (hA.c0 1 (by simp)) hba
  have c11 : wa.cell? ⟨g, o + 2 + 1, none⟩ = some (.int .i64 (y.2 : Int)) := kept_cell (hA.c1 1 (by simp)) hba
  have h1 := un_len op
  have h2 := gap_len op
  have h3 := bin_len op
  have hwi := fun w' => Tryz.rwithin_any y 6 6 rfl w' (by omega)
  have h4 : (wiX y 6).length ≤ y.1.length + 2 := wi_len _ _
  have s2 : ¬ 9223372036854775807 < (mkB ([91])).size + (mkB (x.1)).size := by rw [mkB_size, mkB_size]; first | (simp; done) | (simp; omega)
  have s3 : ¬ 9223372036854775807 < (mkB ([91])).size + (mkB (x.1)).size + (mkB ([93, 32])).size := by rw [mkB_size, mkB_size, mkB_size]; first | (simp; done) | (simp; omega)
  have s4 : ¬ 9223372036854775807 < (mkB ([91])).size + (mkB (x.1)).size + (mkB ([93, 32])).size + (mkB (wiX y 6)).size := by rw [mkB_size, mkB_size, mkB_size, mkB_size]; first | (simp; done) | (simp; omega)
  have hres : mkB ([91]) ++ mkB (x.1) ++ mkB ([93, 32]) ++ mkB (wiX y 6) = mkB (91 :: (x.1 ++ 93 :: 32 :: wiX y 6)) := by simp [mkB_app]
  rw [← hres]
  have hk0 : (wa.drew.cell? ⟨w.heap.size, 0, none⟩ = some (.int .u8 (op : Int)) ∧ wa.drew.cell? ⟨g, o, none⟩ = some (.string (mkB x.1)) ∧ wa.drew.cell? ⟨g, o + 1, none⟩ = some (.int .i64 (x.2 : Int)) ∧ wa.drew.cell? ⟨g, o + 2, none⟩ = some (.string (mkB y.1)) ∧ wa.drew.cell? ⟨g, o + 2 + 1, none⟩ = some (.int .i64 (y.2 : Int))) := ⟨ct, c00, c01, c10, c11⟩
  have hk1 : ∀ w0 w1 : World, (w0.cell? ⟨w.heap.size, 0, none⟩ = some (.int .u8 (op : Int)) ∧ w0.cell? ⟨g, o, none⟩ = some (.string (mkB x.1)) ∧ w0.cell? ⟨g, o + 1, none⟩ = some (.int .i64 (x.2 : Int)) ∧ w0.cell? ⟨g, o + 2, none⟩ = some (.string (mkB y.1)) ∧ w0.cell? ⟨g, o + 2 + 1, none⟩ = some (.int .i64 (y.2 : Int))) → Below w0.heap.size w0 w1 → (w1.cell? ⟨w.heap.size, 0, none⟩ = some (.int .u8 (op : Int)) ∧ w1.cell? ⟨g, o, none⟩ = some (.string (mkB x.1)) ∧ w1.cell? ⟨g, o + 1, none⟩ = some (.int .i64 (x.2 : Int)) ∧ w1.cell? ⟨g, o + 2, none⟩ = some (.string (mkB y.1)) ∧ w1.cell? ⟨g, o + 2 + 1, none⟩ = some (.int .i64 (y.2 : Int))) := fun w0 w1 h hb => ⟨kept_cell h.1 hb, kept_cell h.2.1 hb, kept_cell h.2.2.1 hb, kept_cell h.2.2.2.1 hb, kept_cell h.2.2.2.2 hb⟩
  have HBA : Hid (Below w.heap.size w wa) := hba
  clear hA hrow hres hba hx hy h1 h2 h3
  have m1 : mkB [91] = { data := #[91] } := rfl
  have m2 : mkB [93, 32] = { data := #[93, 32] } := rfl
  rw [m1, m2]
  rw [m1, m2] at s3 s4
  rw [m1] at s2
  have s2' : ¬ 9223372036854775807 < 1 + (mkB x.1).size := s2
  have s3' : ¬ 9223372036854775807 < 1 + (mkB x.1).size + 2 := s3
  have s4' : ¬ 9223372036854775807 < 1 + (mkB x.1).size + 2 + (mkB (wiX y 6)).size := s4
  clear s2 s3 s4 m1 m2
  generalize mkB (wiX y 6) = wi at *
  obtain ⟨z, hz⟩ : ∃ z : Int, z = (op : Int) := ⟨_, rfl⟩
  rw [← hz] at hk0
  simp only [← hz] at hk1
  clear hz
  subst ho
  go_enter Tryz.func33, Tryz.ntmps33
  go_upto_region 25 with (go_at_call 34; refine (hst _).mono ?_; rintro e w' ⟨rfl, rfl⟩)
  generalize w.alloc _ = wb at *
  subst hwa
  go_region_held3 (fun w' => w'.cell? ⟨w.heap.size, 0, none⟩ = some (.int .u8 z) ∧ w'.cell? ⟨g, o, none⟩ = some (.string (mkB x.1)) ∧ w'.cell? ⟨g, o + 1, none⟩ = some (.int .i64 (x.2 : Int)) ∧ w'.cell? ⟨g, o + 2, none⟩ = some (.string (mkB y.1)) ∧ w'.cell? ⟨g, o + 2 + 1, none⟩ = some (.int .i64 (y.2 : Int))) (first | exact hk0 | exact hk1 _ _ hk0 ‹_› | exact hk1 _ _ ‹_› ‹_›)
    (first
      | (go_at_call 45; refine (hwi _).mono ?_; rintro e w2 ⟨rfl, hb2⟩))
  have HB2 : Hid (Below w.heap.size w w2) := below_step HBA.out.drew hb2
  clear hk0 hk1 hb2
  go_wp2
  go_ret
  exact ⟨rfl, HB2.out⟩
set_option maxRecDepth 100000 in
set_option maxHeartbeats 4000000 in
theorem Tryz.rput_right (a : Option Addr) (len cap : Nat) (b : Option Addr) (n m g o : Nat) (op p : Nat) (x y : Tx) (w : World) (ho : op = 13 ∨ op = 15 ∨ op = 16) (hx : x.1.length ≤ 1000000) (hy : y.1.length ≤ 1000000) (hA : TxSl w b n m g o [x, y]) :
    Calls Tryz.prog 33 #[.slice a len cap, .agg #[.int .u8 (op : Int), .int .u8 (p : Int)], .slice b n m] w fun e w' => e = .returned (.string (mkB (wiX x (strN op + 1) ++ 32 :: (binW op ++ 32 :: wiX y (strN op))))) ∧ Below w.heap.size w w' := by
  have hst := fun w' => Tryz.rstr_any op (by omega) w'
  have hi0 : ∀ w', (Instr.indexAt 70 (.slice b n m) (.int .i64 0)).run Tryz.prog w' = .ok (.pointer (some ⟨g, o, none⟩)) w' := fun w' => hA.idx 0 w' (by simp)
  have hi1 : ∀ w', (Instr.indexAt 70 (.slice b n m) (.int .i64 1)).run Tryz.prog w' = .ok (.pointer (some ⟨g, o + 2, none⟩)) w' := fun w' => hA.idx 1 w' (by simp)
  obtain ⟨wa, hwa⟩ : ∃ wa, wa = w.alloc (.cells #[.int .u8 (op : Int), .int .u8 (p : Int)] 41) := ⟨_, rfl⟩
  have hba : Below w.heap.size w wa := by rw [hwa]; exact below_new _ _
  have hrow : wa.heap[w.heap.size]? = some (.cells #[.int .u8 (op : Int), .int .u8 (p : Int)] 41 (0, 0)) := by rw [hwa]; exact (MapKept.heap_alloc w _).1
  have ct : wa.cell? ⟨w.heap.size, 0, none⟩ = some (.int .u8 (op : Int)) := cell_row hrow 0
  have c00 : wa.cell? ⟨g, o, none⟩ = some (.string (mkB x.1)) := kept_cell (hA.c0 0 (by simp)) hba
  have c01 : wa.cell? ⟨g, o + 1, none⟩ = some (.int .i64 (x.2 : Int)) := kept_cell (hA.c1 0 (by simp)) hba
  have c10 : wa.cell? ⟨g, o + 2, none⟩ = some (.string (mkB y.1)) := kept_cell (hA.c0 1 (by simp)) hba
  have c11 : wa.cell? ⟨g, o + 2 + 1, none⟩ = some (.int .i64 (y.2 : Int)) := kept_cell (hA.c1 1 (by simp)) hba
  have h1 := un_len op
  have h2 := gap_len op
  have h3 := bin_len op
  have hwx := fun w' => Tryz.rwithin_any x (strN op + 1) ((strN op : Int) + 1) (by omega) w' (by omega)
  have hwy := fun w' => Tryz.rwithin_any y (strN op) ((strN op : Int)) (by omega) w' (by omega)
  have hwd := fun w' => Tryz.rword_any op (by omega) w'
  have h4 : (wiX x (strN op + 1)).length ≤ x.1.length + 2 := wi_len _ _
  have h5 : (wiX y (strN op)).length ≤ y.1.length + 2 := wi_len _ _
  have h6 : strN op ≤ 7 := str_le op
  have s2 : ¬ 9223372036854775807 < (mkB (wiX x (strN op + 1))).size + (mkB (32 :: (binW op ++ [32]))).size := by rw [mkB_size, mkB_size]; first | (simp; done) | (simp; omega)
  have s3 : ¬ 9223372036854775807 < (mkB (wiX x (strN op + 1))).size + (mkB (32 :: (binW op ++ [32]))).size + (mkB (wiX y (strN op))).size := by rw [mkB_size, mkB_size, mkB_size]; first | (simp; done) | (simp; omega)
  have hres : mkB (wiX x (strN op + 1)) ++ mkB (32 :: (binW op ++ [32])) ++ mkB (wiX y (strN op)) = mkB (wiX x (strN op + 1) ++ 32 :: (binW op ++ 32 :: wiX y (strN op))) := by simp [mkB_app]
  rw [← hres]
  have hk0 : (wa.drew.cell? ⟨w.heap.size, 0, none⟩ = some (.int .u8 (op : Int)) ∧ wa.drew.cell? ⟨g, o, none⟩ = some (.string (mkB x.1)) ∧ wa.drew.cell? ⟨g, o + 1, none⟩ = some (.int .i64 (x.2 : Int)) ∧ wa.drew.cell? ⟨g, o + 2, none⟩ = some (.string (mkB y.1)) ∧ wa.drew.cell? ⟨g, o + 2 + 1, none⟩ = some (.int .i64 (y.2 : Int))) := ⟨ct, c00, c01, c10, c11⟩
  have hk1 : ∀ w0 w1 : World, (w0.cell? ⟨w.heap.size, 0, none⟩ = some (.int .u8 (op : Int)) ∧ w0.cell? ⟨g, o, none⟩ = some (.string (mkB x.1)) ∧ w0.cell? ⟨g, o + 1, none⟩ = some (.int .i64 (x.2 : Int)) ∧ w0.cell? ⟨g, o + 2, none⟩ = some (.string (mkB y.1)) ∧ w0.cell? ⟨g, o + 2 + 1, none⟩ = some (.int .i64 (y.2 : Int))) → Below w0.heap.size w0 w1 → (w1.cell? ⟨w.heap.size, 0, none⟩ = some (.int .u8 (op : Int)) ∧ w1.cell? ⟨g, o, none⟩ = some (.string (mkB x.1)) ∧ w1.cell? ⟨g, o + 1, none⟩ = some (.int .i64 (x.2 : Int)) ∧ w1.cell? ⟨g, o + 2, none⟩ = some (.string (mkB y.1)) ∧ w1.cell? ⟨g, o + 2 + 1, none⟩ = some (.int .i64 (y.2 : Int))) := fun w0 w1 h hb => ⟨kept_cell h.1 hb, kept_cell h.2.1 hb, kept_cell h.2.2.1 hb, kept_cell h.2.2.2.1 hb, kept_cell h.2.2.2.2 hb⟩
  have HBA : Hid (Below w.heap.size w wa) := hba
  clear hA hrow hres hba hx hy h1 h2 h3
  generalize mkB (wiX x (strN op + 1)) = wx at *
  generalize mkB (wiX y (strN op)) = wy at *
  generalize mkB (32 :: (binW op ++ [32])) = wo at *
  generalize strN op = k at *
  have hwr : IntKind.i64.wrap ((k : Int) + 1) = (k : Int) + 1 := by rw [IntKind.wrap_i64]; omega
  obtain ⟨z, hz⟩ : ∃ z : Int, z = (op : Int) := ⟨_, rfl⟩
  rw [← hz] at hk0
  simp only [← hz] at hk1 hwd
  clear hz
  rcases ho with rfl | rfl | rfl
  all_goals
    go_enter Tryz.func33, Tryz.ntmps33
    go_upto_region 29 with (go_at_call 34; refine (hst _).mono ?_; rintro e w' ⟨rfl, rfl⟩)
    generalize w.alloc _ = wb at *
    subst hwa
    go_region_held3 (fun w' => w'.cell? ⟨w.heap.size, 0, none⟩ = some (.int .u8 z) ∧ w'.cell? ⟨g, o, none⟩ = some (.string (mkB x.1)) ∧ w'.cell? ⟨g, o + 1, none⟩ = some (.int .i64 (x.2 : Int)) ∧ w'.cell? ⟨g, o + 2, none⟩ = some (.string (mkB y.1)) ∧ w'.cell? ⟨g, o + 2 + 1, none⟩ = some (.int .i64 (y.2 : Int))) (first | exact hk0 | exact hk1 _ _ hk0 ‹_› | exact hk1 _ _ ‹_› ‹_›)
      (first
        | (go_at_call 45; with_reducible refine (hwx _).mono ?_; rintro e w2 ⟨rfl, hb2⟩)
        | (go_at_call 46; with_reducible refine (hwd _).mono ?_; rintro e w3 ⟨rfl, rfl⟩)
        | (go_at_call 45; with_reducible refine (hwy _).mono ?_; rintro e w4 ⟨rfl, hb4⟩))
    have HB4 : Hid (Below w.heap.size w w4) := below_step (below_step HBA.out.drew hb2) hb4
    clear hk0 hk1 hb2 hb4
    go_wp2
    go_ret
    exact ⟨rfl, HB4.out⟩
set_option maxRecDepth 100000 in
set_option maxHeartbeats 4000000 in
theorem Tryz.rput_left (a : Option Addr) (len cap : Nat) (b : Option Addr) (n m g o : Nat) (op p : Nat) (x y : Tx) (w : World) (ho : op = 11 ∨ op = 12 ∨ op = 14 ∨ op = 21 ∨ op = 22) (hx : x.1.length ≤ 1000000) (hy : y.1.length ≤ 1000000) (hA : TxSl w b n m g o [x, y]) :
    Calls Tryz.prog 33 #[.slice a len cap, .agg #[.int .u8 (op : Int), .int .u8 (p : Int)], .slice b n m] w fun e w' => e = .returned (.string (mkB (wiX x (strN op) ++ 32 :: (binW op ++ 32 :: wiX y (strN op + 1))))) ∧ Below w.heap.size w w' := by
  have hst := fun w' => Tryz.rstr_any op (by omega) w'
  have hi0 : ∀ w', (Instr.indexAt 70 (.slice b n m) (.int .i64 0)).run Tryz.prog w' = .ok (.pointer (some ⟨g, o, none⟩)) w' := fun w' => hA.idx 0 w' (by simp)
  have hi1 : ∀ w', (Instr.indexAt 70 (.slice b n m) (.int .i64 1)).run Tryz.prog w' = .ok (.pointer (some ⟨g, o + 2, none⟩)) w' := fun w' => hA.idx 1 w' (by simp)
  obtain ⟨wa, hwa⟩ : ∃ wa, wa = w.alloc (.cells #[.int .u8 (op : Int), .int .u8 (p : Int)] 41) := ⟨_, rfl⟩
  have hba : Below w.heap.size w wa := by rw [hwa]; exact below_new _ _
  have hrow : wa.heap[w.heap.size]? = some (.cells #[.int .u8 (op : Int), .int .u8 (p : Int)] 41 (0, 0)) := by rw [hwa]; exact (MapKept.heap_alloc w _).1
  have ct : wa.cell? ⟨w.heap.size, 0, none⟩ = some (.int .u8 (op : Int)) := cell_row hrow 0
  have c00 : wa.cell? ⟨g, o, none⟩ = some (.string (mkB x.1)) := kept_cell (hA.c0 0 (by simp)) hba
  have c01 : wa.cell? ⟨g, o + 1, none⟩ = some (.int .i64 (x.2 : Int)) := kept_cell (hA.c1 0 (by simp)) hba
  have c10 : wa.cell? ⟨g, o + 2, none⟩ = some (.string (mkB y.1)) := kept_cell (hA.c0 1 (by simp)) hba
  have c11 : wa.cell? ⟨g, o + 2 + 1, none⟩ = some (.int .i64 (y.2 : Int)) := kept_cell (hA.c1 1 (by simp)) hba
  have h1 := un_len op
  have h2 := gap_len op
  have h3 := bin_len op
  have hwx := fun w' => Tryz.rwithin_any x (strN op) ((strN op : Int)) (by omega) w' (by omega)
  have hwy := fun w' => Tryz.rwithin_any y (strN op + 1) ((strN op : Int) + 1) (by omega) w' (by omega)
  have hwd := fun w' => Tryz.rword_any op (by omega) w'
  have h4 : (wiX x (strN op)).length ≤ x.1.length + 2 := wi_len _ _
  have h5 : (wiX y (strN op + 1)).length ≤ y.1.length + 2 := wi_len _ _
  have h6 : strN op ≤ 7 := str_le op
  have s2 : ¬ 9223372036854775807 < (mkB (wiX x (strN op))).size + (mkB (32 :: (binW op ++ [32]))).size := by rw [mkB_size, mkB_size]; first | (simp; done) | (simp; omega)
  have s3 : ¬ 9223372036854775807 < (mkB (wiX x (strN op))).size + (mkB (32 :: (binW op ++ [32]))).size + (mkB (wiX y (strN op + 1))).size := by rw [mkB_size, mkB_size, mkB_size]; first | (simp; done) | (simp; omega)
  have hres : mkB (wiX x (strN op)) ++ mkB (32 :: (binW op ++ [32])) ++ mkB (wiX y (strN op + 1)) = mkB (wiX x (strN op) ++ 32 :: (binW op ++ 32 :: wiX y (strN op + 1))) := by simp [mkB_app]
  rw [← hres]
  have hk0 : (wa.drew.cell? ⟨w.heap.size, 0, none⟩ = some (.int .u8 (op : Int)) ∧ wa.drew.cell? ⟨g, o, none⟩ = some (.string (mkB x.1)) ∧ wa.drew.cell? ⟨g, o + 1, none⟩ = some (.int .i64 (x.2 : Int)) ∧ wa.drew.cell? ⟨g, o + 2, none⟩ = some (.string (mkB y.1)) ∧ wa.drew.cell? ⟨g, o + 2 + 1, none⟩ = some (.int .i64 (y.2 : Int))) := ⟨ct, c00, c01, c10, c11⟩
  have hk1 : ∀ w0 w1 : World, (w0.cell? ⟨w.heap.size, 0, none⟩ = some (.int .u8 (op : Int)) ∧ w0.cell? ⟨g, o, none⟩ = some (.string (mkB x.1)) ∧ w0.cell? ⟨g, o + 1, none⟩ = some (.int .i64 (x.2 : Int)) ∧ w0.cell? ⟨g, o + 2, none⟩ = some (.string (mkB y.1)) ∧ w0.cell? ⟨g, o + 2 + 1, none⟩ = some (.int .i64 (y.2 : Int))) → Below w0.heap.size w0 w1 → (w1.cell? ⟨w.heap.size, 0, none⟩ = some (.int .u8 (op : Int)) ∧ w1.cell? ⟨g, o, none⟩ = some (.string (mkB x.1)) ∧ w1.cell? ⟨g, o + 1, none⟩ = some (.int .i64 (x.2 : Int)) ∧ w1.cell? ⟨g, o + 2, none⟩ = some (.string (mkB y.1)) ∧ w1.cell? ⟨g, o + 2 + 1, none⟩ = some (.int .i64 (y.2 : Int))) := fun w0 w1 h hb => ⟨kept_cell h.1 hb, kept_cell h.2.1 hb, kept_cell h.2.2.1 hb, kept_cell h.2.2.2.1 hb, kept_cell h.2.2.2.2 hb⟩
  have HBA : Hid (Below w.heap.size w wa) := hba
  clear hA hrow hres hba hx hy h1 h2 h3
  generalize mkB (wiX x (strN op)) = wx at *
  generalize mkB (wiX y (strN op + 1)) = wy at *
  generalize mkB (32 :: (binW op ++ [32])) = wo at *
  generalize strN op = k at *
  have hwr : IntKind.i64.wrap ((k : Int) + 1) = (k : Int) + 1 := by rw [IntKind.wrap_i64]; omega
  obtain ⟨z, hz⟩ : ∃ z : Int, z = (op : Int) := ⟨_, rfl⟩
  rw [← hz] at hk0
  simp only [← hz] at hk1 hwd
  clear hz
  rcases ho with rfl | rfl | rfl | rfl | rfl
  all_goals
    go_enter Tryz.func33, Tryz.ntmps33
    go_upto_region 30 with (go_at_call 34; refine (hst _).mono ?_; rintro e w' ⟨rfl, rfl⟩)
    generalize w.alloc _ = wb at *
    subst hwa
    go_region_held3 (fun w' => w'.cell? ⟨w.heap.size, 0, none⟩ = some (.int .u8 z) ∧ w'.cell? ⟨g, o, none⟩ = some (.string (mkB x.1)) ∧ w'.cell? ⟨g, o + 1, none⟩ = some (.int .i64 (x.2 : Int)) ∧ w'.cell? ⟨g, o + 2, none⟩ = some (.string (mkB y.1)) ∧ w'.cell? ⟨g, o + 2 + 1, none⟩ = some (.int .i64 (y.2 : Int))) (first | exact hk0 | exact hk1 _ _ hk0 ‹_› | exact hk1 _ _ ‹_› ‹_›)
      (first
        | (go_at_call 45; with_reducible refine (hwx _).mono ?_; rintro e w2 ⟨rfl, hb2⟩)
        | (go_at_call 46; with_reducible refine (hwd _).mono ?_; rintro e w3 ⟨rfl, rfl⟩)
        | (go_at_call 45; with_reducible refine (hwy _).mono ?_; rintro e w4 ⟨rfl, hb4⟩))
    have HB4 : Hid (Below w.heap.size w w4) := below_step (below_step HBA.out.drew hb2) hb4
    clear hk0 hk1 hb2 hb4
    go_wp2
    go_ret
    exact ⟨rfl, HB4.out⟩
end Go.Proofs.YtfipefbaabkdeaaGreatDoor
