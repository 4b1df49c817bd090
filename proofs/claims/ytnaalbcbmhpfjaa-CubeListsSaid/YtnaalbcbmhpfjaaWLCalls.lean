/- The law CubeCalls: which letters a cube has, which both of two have, which the one has alone. -/
import Derived.Test.YtnaalbcbmhpfjaaWCubR4
import Derived.Deep.DeepCutAuto
namespace Go.Proofs.Ytnaalbcbmhpfjaa
open Go.RowKit Go.Maps

/-- Two cubes' variables, g and the next one, as a region holds them. -/
theorem two_up {W : World} {g a b c d : Nat} (w0 w1 : World) (h : w0.cell? ⟨g, 0, none⟩ = some (.int .u8 (a : Int)) ∧ w0.cell? ⟨g, 1, none⟩ = some (.int .u8 (b : Int)) ∧ w0.cell? ⟨g + 1, 0, none⟩ = some (.int .u8 (c : Int)) ∧ w0.cell? ⟨g + 1, 1, none⟩ = some (.int .u8 (d : Int)) ∧ Hid (Below W.heap.size W w0)) (hb : Below w0.heap.size w0 w1) :
    w1.cell? ⟨g, 0, none⟩ = some (.int .u8 (a : Int)) ∧ w1.cell? ⟨g, 1, none⟩ = some (.int .u8 (b : Int)) ∧ w1.cell? ⟨g + 1, 0, none⟩ = some (.int .u8 (c : Int)) ∧ w1.cell? ⟨g + 1, 1, none⟩ = some (.int .u8 (d : Int)) ∧ Hid (Below W.heap.size W w1) :=
  ⟨kept_cell h.1 hb, kept_cell h.2.1 hb, kept_cell h.2.2.1 hb, kept_cell h.2.2.2.1 hb, below_step h.2.2.2.2.out hb⟩
theorem two_of {W w0 : World} {g a b c d : Nat} {t : TypeId} (h1 : Blk w0 g t a b) (h2 : Blk w0 (g + 1) t c d) (h : Below W.heap.size W w0) :
    w0.cell? ⟨g, 0, none⟩ = some (.int .u8 (a : Int)) ∧ w0.cell? ⟨g, 1, none⟩ = some (.int .u8 (b : Int)) ∧ w0.cell? ⟨g + 1, 0, none⟩ = some (.int .u8 (c : Int)) ∧ w0.cell? ⟨g + 1, 1, none⟩ = some (.int .u8 (d : Int)) ∧ Hid (Below W.heap.size W w0) := ⟨h1.c0, h1.c1, h2.c0, h2.c1, h⟩

theorem CuSl.other {P : Program} {T : TypeId} {w : World} {a : Option Addr} {g len cap : Nat} {cs : List Cu} (h : CuSl P T w a g len cap cs) {p : Addr} (hne : 0 < len → g ≠ p.block) (v : Value) : CuSl P T (w.setCell p v) a g len cap cs :=
  ⟨h.hlen, h.hcap, h.bd, h.idx, fun k hk => (World.cell?_of_block (w := w) (Below.heap_setCell w p v g (hne (by omega)))).trans (h.c0 k hk), fun k hk => (World.cell?_of_block (w := w) (Below.heap_setCell w p v g (hne (by omega)))).trans (h.c1 k hk), fun hk => by simpa using h.blk hk, h.ok⟩
/-- A row that may be written. -/
def RowW (w : World) (e : TypeId) (g n : Nat) : Prop := ∃ cur, w.heap[g]? = some (.cells cur e (0, 0)) ∧ n * 2 ≤ cur.size
theorem RowW.up {w w' : World} {e g n : Nat} (h : RowW w e g n) (hb : Below w.heap.size w w') : RowW w' e g n := by
  obtain ⟨cur, h1, h2⟩ := h
  exact ⟨cur, (hb.block g (Array.getElem?_eq_some_iff.1 h1).1).trans h1, h2⟩
theorem RowW.set {w : World} {e g n : Nat} (h : RowW w e g n) (i : Nat) (v : Value) : RowW (w.setCell ⟨g, i, none⟩ v) e g n := by
  obtain ⟨cur, h1, h2⟩ := h
  exact ⟨_, heap_setCell_same w g i _ e v h1, by simpa using h2⟩
theorem RowW.fz {w : World} {e g n : Nat} (h : RowW w e g n) (i : Nat) : w.frozen? ⟨g, i, none⟩ = false := by
  obtain ⟨cur, h1, h2⟩ := h
  exact frozen_of_row w g i _ e h1
theorem RowW.cell {w : World} {e g n : Nat} (h : RowW w e g n) {i : Nat} (hi : i < n * 2) : ∃ v, w.cell? ⟨g, i, none⟩ = some v := by
  obtain ⟨cur, h1, h2⟩ := h
  exact ⟨cur[i]'(by omega), by simp [World.cell?, h1, Array.getElem?_eq_getElem (show i < cur.size by omega)]⟩
theorem own_rowW {P : Program} {T e : TypeId} {w : World} {base n : Nat} {v : Value} {cs : List Cu} (h : w.ownsRow base e 2 v n (encC cs)) (hu : P.underlying T = some (.slice e)) (hs : (P.info? e).map (·.size) = some 2) (hok : ∀ c ∈ cs, c.ok) :
    ∃ a g cap, v = .slice a n cap ∧ CuSl P T w a g n cap cs ∧ (0 < n → base ≤ g) ∧ (0 < n → RowW w e g n) := by
  have h' := h
  obtain ⟨a, g, cap, rfl, h1, h2⟩ := own_cuSl h hu hs hok
  refine ⟨a, g, cap, rfl, h1, h2, fun hn => ?_⟩
  rcases h'.2 with ⟨_, h0⟩ | ⟨g', cap', cur, hv, hg, hcell, hnc, hcm, hsz, htk⟩
  · omega
  · injection hv with e1 e2 e3
    subst e1
    have hi := h1.idx n 0 w hn (Nat.le_refl _)
    have hi2 := idx_of2 hu hs (g := g') (cap := cap) (n := n) 0 w hn
    rw [hi2] at hi
    injection hi with hi _
    injection hi with hi
    injection hi with hi
    injection hi with hi _
    subst hi
    exact ⟨cur, hcell, by rw [hsz]; exact Nat.mul_le_mul_right 2 hnc⟩

set_option maxRecDepth 100000 in
set_option maxHeartbeats 2000000 in
theorem Try.calls_any (n : Int) (a b c d l : Nat) (w : World) (ha : a < 256) (hb : b < 256) (hc : c < 256) (hd : d < 256) (hl : l < 256) :
    Calls Try.prog 3 #[.int .i64 n, .agg #[.int .u8 (a : Int), .int .u8 (b : Int)], .agg #[.int .u8 (c : Int), .int .u8 (d : Int)], .int .u8 (l : Int)] w fun e w' => e = .returned (.bool true) ∧ Below w.heap.size w w' := by
  have hk1 := fun w => Try.check_any n a b w ha hb
  have hk2 := fun w => Try.rcheck_any n a b w ha hb
  have hh1 := fun w => Try.has_any a b l w ha hb hl
  have hh2 := fun w => Try.rhas_any a b l w ha hb hl
  have hi1 := fun w => Try.within_any a b c d w ha hb hc hd
  have hi2 := fun w => Try.rwithin_any a b c d w ha hb hc hd
  have hm1 := fun w => Try.meet_any a b c d w ha hb hc hd
  have hm2 := fun w => Try.rmeet_any a b c d w ha hb hc hd
  have hn1 := fun w => Try.minus_any a b c d w ha hb hc hd
  have hn2 := fun w => Try.rminus_any a b c d w ha hb hc hd
  have HOK : Hid _ := minus_ok (b := (c, d)) (show (Cu.ok (a, b)) from ⟨ha, hb⟩)
  have HL : Hid _ := minus_len (a, b) (c, d)
  unfold MeetR at hm1 hm2
  unfold MinusR at hn1 hn2
  generalize errC n (a, b) = E at *
  generalize hasC (a, b) l = p at *
  generalize inC (a, b) (c, d) = q at *
  generalize meetV (a, b) (c, d) = m at *
  obtain ⟨m0, m1⟩ := m
  generalize compC (a, b) (c, d) = r at *
  generalize minusC (a, b) (c, d) = cs at *
  have hpp : (p != p) = false := by simp
  have hqq : (q != q) = false := by simp
  have hrr : (r != r) = false := by simp
  have hEE : (E != E) = false := by simp
  go_enter Try.func3, Try.ntmps3
  have hA0 : Blk ((w.alloc (.cells #[.int .u8 (a : Int), .int .u8 (b : Int)] 24)).alloc (.cells #[.int .u8 (c : Int), .int .u8 (d : Int)] 24)).drew w.heap.size 24 a b := ((Blk.at rfl).al _).up (Below.refl _ _).drew
  have hD0 : Blk ((w.alloc (.cells #[.int .u8 (a : Int), .int .u8 (b : Int)] 24)).alloc (.cells #[.int .u8 (c : Int), .int .u8 (d : Int)] 24)).drew (w.heap.size + 1) 24 c d := (Blk.at (by simp)).up (Below.refl _ _).drew
  have hin := two_of hA0 hD0 (W := w) (((below_new _ _).alloc (by simp) _).drew)
  have hup := @two_up w w.heap.size a b c d
  go_wp2_with fail
  go_region_held3 (fun w' => w'.cell? ⟨w.heap.size, 0, none⟩ = some (.int .u8 (a : Int)) ∧ w'.cell? ⟨w.heap.size, 1, none⟩ = some (.int .u8 (b : Int)) ∧ w'.cell? ⟨w.heap.size + 1, 0, none⟩ = some (.int .u8 (c : Int)) ∧ w'.cell? ⟨w.heap.size + 1, 1, none⟩ = some (.int .u8 (d : Int)) ∧ Hid (Below w.heap.size w w')) (first | exact hin | exact hup _ _ ‹_› ‹_›) (first | (go_at_call 9; refine (hk1 _).mono ?_; rintro e w1 ⟨rfl, hw1⟩) | (go_at_call 10; refine (hk2 _).mono ?_; rintro e w2 ⟨rfl, hw2⟩) | (go_at_call 11; refine (hh1 _).mono ?_; rintro e w3 ⟨rfl, hw3⟩) | (go_at_call 12; refine (hh2 _).mono ?_; rintro e w4 ⟨rfl, hw4⟩) | (go_at_call 13; refine (hi1 _).mono ?_; rintro e w5 ⟨rfl, hw5⟩) | (go_at_call 14; refine (hi2 _).mono ?_; rintro e w6 ⟨rfl, hw6⟩))
  have hA6 := (((((hA0.up hw1).up hw2).up hw3).up hw4).up hw5).up hw6
  have hD6 := (((((hD0.up hw1).up hw2).up hw3).up hw4).up hw5).up hw6
  have hb6 : Below w.heap.size w w6 := (‹_ ∧ _ ∧ _ ∧ _ ∧ Hid (Below w.heap.size w w6)›).2.2.2.2.out
  clear hw1 hw2 hw3 hw4 hw5 hw6 hA0 hD0 hin hk1 hk2 hh1 hh2 hi1 hi2 hpp hqq hEE
  have h00 := hA6.c0
  have h01 := hA6.c1
  have h10 := hD6.c0
  have h11 := hD6.c1
  go_wp2_with fail
  refine (hm1 _).mono ?_
  rintro e w7 ⟨rfl, hw7⟩
  have hA7 := (hA6.up hw7).al (.cells #[.int .u8 (m0 : Int), .int .u8 (m1 : Int)] 24)
  have hD7 := (hD6.up hw7).al (.cells #[.int .u8 (m0 : Int), .int .u8 (m1 : Int)] 24)
  have hX7 := Blk.new w7 24 m0 m1
  have hb7 := below_step (below_step hb6 hw7) (below_new w7 (.cells #[.int .u8 (m0 : Int), .int .u8 (m1 : Int)] 24))
  clear hw7 h00 h01 h10 h11 hA6 hD6 hb6 hm1
  have h00 := hA7.c0
  have h01 := hA7.c1
  have h10 := hD7.c0
  have h11 := hD7.c1
  go_wp2_with fail
  refine (hm2 _).mono ?_
  rintro e w8 ⟨rfl, hw8⟩
  have hA8 := ((hA7.up hw8).al (.cells #[.int .u8 (m0 : Int), .int .u8 (m1 : Int)] 24)).up (Below.refl _ _).drew
  have hD8 := ((hD7.up hw8).al (.cells #[.int .u8 (m0 : Int), .int .u8 (m1 : Int)] 24)).up (Below.refl _ _).drew
  have hX8 := ((hX7.up hw8).al (.cells #[.int .u8 (m0 : Int), .int .u8 (m1 : Int)] 24)).up (Below.refl _ _).drew
  have hY8 := (Blk.new w8 24 m0 m1).up (Below.refl _ _).drew
  have hb8 := (below_step (below_step hb7 hw8) (below_new w8 (.cells #[.int .u8 (m0 : Int), .int .u8 (m1 : Int)] 24))).drew
  clear hw8 h00 h01 h10 h11 hA7 hD7 hX7 hb7 hm2
  have hin := two_of hA8 hD8 hb8
  go_wp2_with fail
  go_region_held3 (fun w' => w'.cell? ⟨w.heap.size, 0, none⟩ = some (.int .u8 (a : Int)) ∧ w'.cell? ⟨w.heap.size, 1, none⟩ = some (.int .u8 (b : Int)) ∧ w'.cell? ⟨w.heap.size + 1, 0, none⟩ = some (.int .u8 (c : Int)) ∧ w'.cell? ⟨w.heap.size + 1, 1, none⟩ = some (.int .u8 (d : Int)) ∧ Hid (Below w.heap.size w w')) (first | exact hin | exact hup _ _ ‹_› ‹_›) (first | (go_at_call 17; with_reducible refine (hn1 (w8.alloc (.cells #[.int .u8 (m0 : Int), .int .u8 (m1 : Int)] 24)).drew).mono ?_; rintro e w9 ⟨⟨v9, rfl, hown9⟩, hw9⟩) | (go_at_call 17; refine (hn1 w9).mono ?_; rintro e w10 ⟨⟨v10, rfl, hown10⟩, hw10⟩))
  have hA10 := (hA8.up hw9).up hw10
  have hD10 := (hD8.up hw9).up hw10
  have hX10 := (hX8.up hw9).up hw10
  have hY10 := (hY8.up hw9).up hw10
  have hb10 := below_step (below_step hb8 hw9) hw10
  have hsz9 := hb8.size
  obtain ⟨ca, cg, ccap, rfl, hcS9, hcb, hcw9⟩ := own_rowW (P := Try.prog) (T := 32) hown9 Try.underlying32 Try.sizeCube HOK.out
  obtain ⟨da, dg, dcap, rfl, hdS10, hdb⟩ := own_cuSl (P := Try.prog) (T := 32) hown10 Try.underlying32 Try.sizeCube HOK.out
  have hcg : 0 < cs.length → w.heap.size ≤ cg ∧ cg < w9.heap.size := fun h => ⟨Nat.le_trans hsz9 (hcb h), hcS9.blk h⟩
  have hdg : 0 < cs.length → w9.heap.size ≤ dg ∧ dg < w10.heap.size := fun h => ⟨hdb h, hdS10.blk h⟩
  clear hA8 hD8 hX8 hY8 hb8 hin hup hn1 hown9 hown10 hsz9 hcb hdb
  have h00 := hA10.c0
  have h01 := hA10.c1
  have h10 := hD10.c0
  have h11 := hD10.c1
  go_wp2_with fail
  refine (hn2 _).mono ?_
  rintro e w11 ⟨⟨v11, rfl, hown11⟩, hw11⟩
  have hX11 := hX10.up hw11
  have hY11 := hY10.up hw11
  have hb11 := below_step hb10 hw11
  obtain ⟨fa, fg, fcap, rfl, hfS, hfb⟩ := own_cuSl (P := Try.prog) (T := 32) hown11 Try.underlying32 Try.sizeCube HOK.out
  have hcS := (hcS9.up hw10).up hw11
  have hdS := hdS10.up hw11
  have hcw : 0 < cs.length → RowW w11 24 cg cs.length := fun h => ((hcw9 h).up hw10).up hw11
  have hne : 0 < cs.length → dg ≠ cg ∧ fg ≠ cg := fun h => ⟨by have := hcg h; have := hdg h; omega, by have := hcg h; have := hfb h; have := hw10.size; omega⟩
  have hcg2 : 0 < cs.length → w.heap.size ≤ cg := fun h => (hcg h).1
  clear hcS9 hdS10 hcw9 hown11 hw9 hw10 hw11 hcg hdg hfb hA10 hD10 hX10 hY10 hb10 h00 h01 h10 h11 hn2
  have hX0 := hX11.c0
  have hX1 := hX11.c1
  have hY0 := hY11.c0
  have hY1 := hY11.c1
  have hxy := Try.neqCube m0 m1 m0 m1
  rw [decide_eq_true rfl] at hxy
  have hsC : ∀ w', Below w11.heap.size w11 w' → Calls Try.prog 19 #[.slice ca cs.length ccap, .slice fa cs.length fcap] w' fun e w'' => e = .returned (.bool true) ∧ Below w'.heap.size w' w'' := fun w' hb => by
    have := Try.sameC_any ca cg cs.length ccap cs fa fg cs.length fcap cs w' (hcS.up hb) (hfS.up hb)
    rw [decide_eq_true rfl] at this; exact this
  have hsD : ∀ w', Below w11.heap.size w11 w' → Calls Try.prog 19 #[.slice da cs.length dcap, .slice fa cs.length fcap] w' fun e w'' => e = .returned (.bool true) ∧ Below w'.heap.size w' w'' := fun w' hb => by
    have := Try.sameC_any da dg cs.length dcap cs fa fg cs.length fcap cs w' (hdS.up hb) (hfS.up hb)
    rw [decide_eq_true rfl] at this; exact this
  go_wp2_with fail
  refine (hsC _ (Below.refl _ _)).mono ?_
  rintro e w12 ⟨rfl, hw12⟩
  go_wp2_with fail
  refine (hsD _ hw12).mono ?_
  rintro e w13 ⟨rfl, hw13⟩
  have hbb := below_step hw12 hw13
  have hcS13 := hcS.up hbb
  have hdS13 := hdS.up hbb
  have hfS13 := hfS.up hbb
  have hcw13 : Hid (0 < cs.length → RowW w13 24 cg cs.length) := fun h => (hcw h).up hbb
  have hb13 := below_step hb11 hbb
  have hl8 := HL.out
  have hidx := fun (j : Nat) (w : World) (h : j < cs.length) => hcS.idx cs.length j w h (Nat.le_refl _)
  have hbd := hcS.hcap
  have hbm := hcS.bd
  unfold maxLen at hbm
  clear hcS hdS hfS hcw hb11 hbb hw12 hw13 hsC hsD hX0 hX1 hY0 hY1 hxy hX11 hY11 hcS13 HOK
  have HNE : Hid _ := hne
  have HCG : Hid _ := hcg2
  clear hne hcg2
  go_wp2
  go_loopw [16] (fun i wr => ∃ k : Nat, k ≤ cs.length ∧ i = .int .i64 k ∧ Hid (0 < cs.length → RowW wr 24 cg cs.length) ∧ CuSl Try.prog 32 wr da dg cs.length dcap cs ∧ CuSl Try.prog 32 wr fa fg cs.length fcap cs ∧ Below w.heap.size w wr) (fun i _ => cs.length - (intOf i).toNat)
  case atStart => exact ⟨0, Nat.zero_le _, rfl, hcw13, hdS13, hfS13, hb13⟩
  case round =>
    obtain ⟨k, hk, rfl, hcw, hdS, hfS, hbw⟩ := hrel
    clear hcw13 hdS13 hfS13 hb13
    by_cases hlt : k < cs.length
    · have hrw := hcw.out (by omega)
      obtain ⟨x0, hx0⟩ := hrw.cell (i := 2 * k) (by omega)
      obtain ⟨x1, hx1⟩ := hrw.cell (i := 2 * k + 1) (by omega)
      have hz0 := hrw.fz (2 * k)
      have hz1 := hrw.fz (2 * k + 1)
      have hrw2 : Hid (0 < cs.length → RowW ((wr.setCell ⟨cg, 2 * k, none⟩ (.int .u8 7)).setCell ⟨cg, 2 * k + 1, none⟩ (.int .u8 99)) 24 cg cs.length) := fun _ => (hrw.set _ _).set _ _
      have hdS2 := (hdS.other (p := ⟨cg, 2 * k, none⟩) (fun h => (HNE.out h).1) (.int .u8 7)).other (p := ⟨cg, 2 * k + 1, none⟩) (fun h => (HNE.out h).1) (.int .u8 99)
      have hfS2 := (hfS.other (p := ⟨cg, 2 * k, none⟩) (fun h => (HNE.out h).2) (.int .u8 7)).other (p := ⟨cg, 2 * k + 1, none⟩) (fun h => (HNE.out h).2) (.int .u8 99)
      have hbw2 := (hbw.setCell (p := ⟨cg, 2 * k, none⟩) (HCG.out (by omega)) (.int .u8 7)).setCell (p := ⟨cg, 2 * k + 1, none⟩) (HCG.out (by omega)) (.int .u8 99)
      clear hrw hdS hfS hbw hcw
      go_wp2
      go_roundw
      case rel => exact ⟨k + 1, by omega, by go_num, hrw2, hdS2, hfS2, hbw2⟩
      case measure => simp [intOf]; omega
    · have hend := Try.sameC_any da dg cs.length dcap cs fa fg cs.length fcap cs wr hdS hfS
      rw [decide_eq_true rfl] at hend
      go_wp2_with fail
      refine hend.mono ?_
      rintro e w14 ⟨rfl, hw14⟩
      go_wp2
      go_ret
      exact ⟨rfl, below_step hbw hw14⟩
end Go.Proofs.Ytnaalbcbmhpfjaa
