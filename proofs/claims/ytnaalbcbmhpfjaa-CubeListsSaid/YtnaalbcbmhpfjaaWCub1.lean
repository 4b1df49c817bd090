/- What package cube tells of one cube and of two: Has, bit, say, Check, Meet, Within. -/
import Derived.Test.YtnaalbcbmhpfjaaWAll
import Derived.Test.YtnaalbcbmhpfjaaCubeS
import Derived.Deep.RegionHeld3
import Derived.Deep.RegionWith
namespace Go.Proofs.Ytnaalbcbmhpfjaa
open Go.RowKit Go.Maps

theorem below_new (w : World) (o : Obj) : Below w.heap.size w (w.alloc o) := (Below.refl _ _).alloc (Nat.le_refl _) _
theorem below_step {w w1 w2 : World} (h : Below w.heap.size w w1) (k : Below w1.heap.size w1 w2) : Below w.heap.size w w2 := h.trans (k.mono h.size)
theorem cast_beq (x y : Nat) : ((x : Int) == (y : Int)) = decide (x = y) := by
  by_cases h : x = y
  · simp [h]
  · rw [decide_eq_false h, beq_eq_false_iff_ne]; omega

/-- Block g is a variable that holds a cube. -/
def Blk (w : World) (g : Nat) (t : TypeId) (a b : Nat) : Prop := w.heap[g]? = some (.cells #[.int .u8 (a : Int), .int .u8 (b : Int)] t (0, 0))
theorem Blk.new (w : World) (t : TypeId) (a b : Nat) : Blk (w.alloc (.cells #[.int .u8 (a : Int), .int .u8 (b : Int)] t)) w.heap.size t a b := (MapKept.heap_alloc w _).1
theorem Blk.at {w : World} {g : Nat} {t : TypeId} {a b : Nat} (h : g = w.heap.size) : Blk (w.alloc (.cells #[.int .u8 (a : Int), .int .u8 (b : Int)] t)) g t a b := h ▸ Blk.new w t a b
theorem Blk.lt {w : World} {g : Nat} {t : TypeId} {a b : Nat} (h : Blk w g t a b) : g < w.heap.size := (Array.getElem?_eq_some_iff.1 h).1
theorem Blk.up {w w' : World} {g : Nat} {t : TypeId} {a b : Nat} (h : Blk w g t a b) (hb : Below w.heap.size w w') : Blk w' g t a b := (hb.block g h.lt).trans h
theorem Blk.al {w : World} {g : Nat} {t : TypeId} {a b : Nat} (h : Blk w g t a b) (o : Obj) : Blk (w.alloc o) g t a b := h.up (below_new w o)
theorem Blk.c0 {w : World} {g : Nat} {t : TypeId} {a b : Nat} (h : Blk w g t a b) : w.cell? ⟨g, 0, none⟩ = some (.int .u8 (a : Int)) := by unfold Blk at h; simp [World.cell?, h]
theorem Blk.c1 {w : World} {g : Nat} {t : TypeId} {a b : Nat} (h : Blk w g t a b) : w.cell? ⟨g, 1, none⟩ = some (.int .u8 (b : Int)) := by unfold Blk at h; simp [World.cell?, h]
theorem Blk.fz {w : World} {g : Nat} {t : TypeId} {a b : Nat} (h : Blk w g t a b) (i : Nat) : w.frozen? ⟨g, i, none⟩ = false := frozen_of_row w g i _ t h

theorem Blk.set0 {w : World} {g : Nat} {t : TypeId} {a b : Nat} (h : Blk w g t a b) (x : Nat) : Blk (w.setCell ⟨g, 0, none⟩ (.int .u8 (x : Int))) g t x b := heap_setCell_same w g 0 _ t (.int .u8 (x : Int)) h
theorem Blk.set1 {w : World} {g : Nat} {t : TypeId} {a b : Nat} (h : Blk w g t a b) (x : Nat) : Blk (w.setCell ⟨g, 1, none⟩ (.int .u8 (x : Int))) g t a x := heap_setCell_same w g 1 _ t (.int .u8 (x : Int)) h

theorem Try.has_any (a b l : Nat) (w : World) (ha : a < 256) (hb : b < 256) (hl : l < 256) :
    Calls Try.prog 11 #[.agg #[.int .u8 (a : Int), .int .u8 (b : Int)], .int .u8 (l : Int)] w fun e w' => e = .returned (.bool (hasC (a, b) l)) ∧ Below w.heap.size w w' := by
  have HX : Hid ((bits BinOp.and IntKind.u8 (l : Int) (a : Int) == (b : Int)) = hasC (a, b) l) := by
    show _ = _; rw [u8_and_nat l a hl ha, has_and (a := (a, b)) ⟨ha, hb⟩ l, cast_beq]
  go_enter Try.func11, Try.ntmps11
  go_wp2
  go_ret
  exact ⟨by rw [← HX.out]; rfl, below_new _ _⟩

theorem Try.size_any (n : Int) (w : World) :
    Calls Try.prog 35 #[.int .i64 n] w fun e w' => e = .returned (.bool (decide (0 ≤ n ∧ n ≤ 8))) ∧ w' = w := by
  have HX : Hid (fitsB n 0 = decide (0 ≤ n ∧ n ≤ 8)) := by
    show _ = _; unfold fitsB; rw [Int.zero_ediv]; simp
  go_enter Try.func35, Try.ntmps35
  go_wp2_with (go_at_call 37; refine (Try.fits_any n 0 _).mono ?_; rintro e w' ⟨rfl, rfl⟩)
  go_ret
  exact ⟨by rw [← HX.out]; rfl, rfl⟩

theorem Try.may_any (a b : Nat) (w : World) (ha : a < 256) (hb : b < 256) :
    Calls Try.prog 36 #[.agg #[.int .u8 (a : Int), .int .u8 (b : Int)]] w fun e w' => e = .returned (.bool (mayC (a, b))) ∧ Below w.heap.size w w' := by
  have HX : Hid _ := may_has (a := (a, b)) ⟨ha, hb⟩
  go_enter Try.func36, Try.ntmps36
  go_wp2_with fail
  refine (Try.has_any a b b _ ha hb hb).mono ?_
  rintro e w' ⟨rfl, hw⟩
  go_wp2
  go_ret
  exact ⟨by rw [HX.out]; rfl, below_step (below_new _ _) hw⟩

theorem pow_u8 {p : Nat} (hp : p < 8) : (2 : Int) ^ p % 256 = ((2 ^ p : Nat) : Int) := by
  have h : 2 ^ p < 256 := Nat.pow_lt_pow_right (a := 2) (n := 8) (by decide) hp
  have e : (2 : Int) ^ p = ((2 ^ p : Nat) : Int) := by simp
  rw [e]; generalize 2 ^ p = x at *; omega
theorem Try.cbit_any (p : Nat) (w : World) (hp : p < 8) :
    Calls Try.prog 42 #[.int .i64 (p : Int)] w fun e w' => e = .returned (.int .u8 ((2 ^ p : Nat) : Int)) ∧ w' = w := by
  have HX : Hid _ := pow_u8 hp
  go_enter Try.func42, Try.ntmps42
  go_wp2
  go_ret
  exact ⟨by rw [← HX.out]; rfl, rfl⟩

theorem pow_lt {p : Nat} (hp : p < 8) : 2 ^ p < 256 := Nat.pow_lt_pow_right (a := 2) (n := 8) (by decide) hp

def SayR (c : Cu) (e : Ending) : Prop := e = .returned (.agg #[.int .u8 (c.1 : Int), .int .u8 (c.2 : Int)])
set_option maxHeartbeats 800000 in
theorem Try.say_any (a b p l : Nat) (w : World) (ha : a < 256) (hb : b < 256) (hp : p < 8) (hl : l < 256) :
    Calls Try.prog 43 #[.agg #[.int .u8 (a : Int), .int .u8 (b : Int)], .int .i64 (p : Int), .int .u8 (l : Int)] w fun e w' => SayR (sayC (a, b) p (l.testBit p)) e ∧ Below w.heap.size w w' := by
  have h2 := pow_lt hp
  have hl2 : l &&& 2 ^ p < 256 := Nat.and_lt_two_pow (n := 8) _ h2
  have HX : Hid _ := say_mask (a, b) p l
  have H1 : Hid _ := u8_or_nat a (2 ^ p) ha h2
  have H2 : Hid _ := u8_and_nat l (2 ^ p) hl h2
  have H3 : Hid _ := u8_or_nat b (l &&& 2 ^ p) hb hl2
  have hbt := fun w => Try.cbit_any p w hp
  clear h2 hl2
  generalize 2 ^ p = x at *
  go_enter Try.func43, Try.ntmps43
  go_wp2_with fail
  go_region_held3 (fun w' => w'.cell? ⟨w.heap.size, 0, none⟩ = some (.int .u8 (a : Int)) ∧ w'.cell? ⟨w.heap.size, 1, none⟩ = some (.int .u8 (b : Int))) (simp [go_sem]) ((go_at_call 42; refine (hbt _).mono ?_; rintro e w' ⟨rfl, rfl⟩))
  go_wp2
  refine bodyPost_ret (v := .agg #[.int .u8 (bits BinOp.or IntKind.u8 (a : Int) (x : Int)), .int .u8 (bits BinOp.or IntKind.u8 (b : Int) (bits BinOp.and IntKind.u8 (l : Int) (x : Int)))]) (by simp [results, Try.results43, go_sem]) rfl ⟨?_, ?_⟩
  · unfold SayR; rw [← HX.out, H1.out, H2.out, H3.out]
  · exact (((below_new _ _).alloc (by simp) _).drew)

theorem fits_care {n : Int} {a : Nat} : fitsB n (a : Int) = (decide (0 ≤ n ∧ n ≤ 8) && decide (a / 2 ^ n.toNat = 0)) := by
  unfold fitsB
  have e : (a : Int) / 2 ^ n.toNat = ((a / 2 ^ n.toNat : Nat) : Int) := by simp
  rw [e]
  have := cast_beq (a / 2 ^ n.toNat) 0
  simp only [Int.natCast_zero] at this
  rw [this]
theorem Try.check_any (n : Int) (a b : Nat) (w : World) (ha : a < 256) (hb : b < 256) :
    Calls Try.prog 9 #[.int .i64 n, .agg #[.int .u8 (a : Int), .int .u8 (b : Int)]] w fun e w' => e = .returned (.int .i64 (errC n (a, b))) ∧ Below w.heap.size w w' := by
  have hsz := fun w => Try.size_any n w
  have hmy := fun w => Try.may_any a b w ha hb
  have hft := fun w => Try.fits_any n a w
  by_cases hn : 0 ≤ n ∧ n ≤ 8
  · rw [decide_eq_true hn] at hsz
    have hf : fitsB n (a : Int) = decide (a / 2 ^ n.toNat = 0) := by rw [fits_care, decide_eq_true hn]; rfl
    have HE : Hid (errC n (a, b) = if mayC (a, b) && fitsB n (a : Int) then 0 else 120) := by
      show _ = _; unfold errC; rw [if_pos hn, ofN_shr (a := (a, b)) ⟨ha, hb⟩, hf]
    clear hf hn
    generalize fitsB n (a : Int) = f at *
    generalize mayC (a, b) = m at *
    go_enter Try.func9, Try.ntmps9
    go_wp2_with fail
    refine (hsz _).mono ?_
    rintro e w' ⟨rfl, rfl⟩
    go_wp2_with fail
    refine (hmy _).mono ?_
    rintro e w1 ⟨rfl, hw1⟩
    cases m with
    | false =>
      go_wp2
      go_ret
      exact ⟨by rw [HE.out]; rfl, below_step (below_new _ _) hw1⟩
    | true =>
      have hB := (Blk.new w 24 a b).up hw1
      have hc0 := hB.c0
      clear hB
      go_wp2_with fail
      refine (hft _).mono ?_
      rintro e w' ⟨rfl, rfl⟩
      cases f with
      | false =>
        go_wp2
        go_ret
        exact ⟨by rw [HE.out]; rfl, below_step (below_new _ _) hw1⟩
      | true =>
        go_wp2
        go_ret
        exact ⟨by rw [HE.out]; rfl, below_step (below_new _ _) hw1⟩
  · rw [decide_eq_false hn] at hsz
    have HE : Hid (errC n (a, b) = 2) := by show _ = _; unfold errC; rw [if_neg hn]
    go_enter Try.func9, Try.ntmps9
    go_wp2_with fail
    refine (hsz _).mono ?_
    rintro e w' ⟨rfl, rfl⟩
    go_wp2
    go_ret
    exact ⟨by rw [HE.out]; rfl, below_new _ _⟩

def meetV (a b : Cu) : Cu := if compC a b then meetC a b else (0, 0)
def MeetR (a b : Cu) (e : Ending) : Prop := e = .returned (.tuple #[.agg #[.int .u8 ((meetV a b).1 : Int), .int .u8 ((meetV a b).2 : Int)], .bool (compC a b)])
set_option maxHeartbeats 800000 in
theorem Try.meet_any (a b c d : Nat) (w : World) (ha : a < 256) (hb : b < 256) (hc : c < 256) (hd : d < 256) :
    Calls Try.prog 15 #[.agg #[.int .u8 (a : Int), .int .u8 (b : Int)], .agg #[.int .u8 (c : Int), .int .u8 (d : Int)]] w fun e w' => MeetR (a, b) (c, d) e ∧ Below w.heap.size w w' := by
  have H1 := u8_or_nat a c ha hc
  have H2 := u8_or_nat b d hb hd
  have hx := or_lt ha hc
  have hy := or_lt hb hd
  have HC : Hid _ := comp_has (a, b) (c, d)
  have hh1 := fun w => Try.has_any a b (b ||| d) w ha hb hy
  have hh2 := fun w => Try.has_any c d (b ||| d) w hc hd hy
  have HM : Hid (meetC (a, b) (c, d) = (a ||| c, b ||| d)) := rfl
  generalize a ||| c = x at *
  generalize b ||| d = y at *
  generalize hasC (a, b) y = p at *
  generalize hasC (c, d) y = q at *
  go_enter Try.func15, Try.ntmps15
  go_wp2_with fail
  refine (hh1 _).mono ?_
  rintro e w1 ⟨rfl, hw1⟩
  have hb1 : Blk w1 (w.heap.size + 1) 24 c d := (((Blk.at (by simp)).al _).al _).up hw1
  have hb2 : Blk w1 (w.heap.size + 1 + 1) 24 0 0 := ((Blk.at (by simp)).al _).up hw1
  have hb3 : Blk w1 (w.heap.size + 1 + 1 + 1) 24 x y := (Blk.at (by simp)).up hw1
  have hbw := below_step ((((below_new w _).alloc (by simp) _).alloc (by simp; omega) _).alloc (by simp; omega) _) hw1
  clear hw1
  cases p with
  | false =>
    have HF : Hid (meetV (a, b) (c, d) = (0, 0) ∧ compC (a, b) (c, d) = false) := by
      have : compC (a, b) (c, d) = false := by rw [HC.out]; rfl
      exact ⟨by unfold meetV; rw [this]; rfl, this⟩
    have h20 := hb2.c0
    have h21 := hb2.c1
    have hf0 := hb2.fz 0
    have hf1 := hb2.fz 1
    have hB := (hb2.set0 0).set1 0
    have hB0 := hB.c0
    have hB1 := hB.c1
    go_wp2
    refine bodyPost_ret (v := .tuple #[.agg #[.int .u8 0, .int .u8 0], .bool false]) (by simp [results, Try.results15, go_sem, h20, h21]) rfl ⟨?_, ?_⟩
    · unfold MeetR; rw [HF.out.1, HF.out.2]; rfl
    · exact (hbw.setCell (by simp; omega) _).setCell (by simp; omega) _
  | true =>
    have h10 := hb1.c0
    have h11 := hb1.c1
    have h31 := hb3.c1
    go_wp2_with fail
    refine (hh2 _).mono ?_
    rintro e w2 ⟨rfl, hw2⟩
    have hb2' := hb2.up hw2
    have hb3' := hb3.up hw2
    have hbw2 := below_step hbw hw2
    clear hw2 h10 h11 h31 hb1 hb2 hb3 hbw
    have h20 := hb2'.c0
    have h21 := hb2'.c1
    have hf0 := hb2'.fz 0
    have hf1 := hb2'.fz 1
    have h30 := hb3'.c0
    have h31 := hb3'.c1
    cases q with
    | false =>
      have HF : Hid (meetV (a, b) (c, d) = (0, 0) ∧ compC (a, b) (c, d) = false) := by
        have : compC (a, b) (c, d) = false := by rw [HC.out]; rfl
        exact ⟨by unfold meetV; rw [this]; rfl, this⟩
      go_wp2
      refine bodyPost_ret (v := .tuple #[.agg #[.int .u8 0, .int .u8 0], .bool false]) (by simp [results, Try.results15, go_sem, h20, h21]) rfl ⟨?_, ?_⟩
      · unfold MeetR; rw [HF.out.1, HF.out.2]; rfl
      · exact (hbw2.setCell (by simp; omega) _).setCell (by simp; omega) _
    | true =>
      have HF : Hid (meetV (a, b) (c, d) = (x, y) ∧ compC (a, b) (c, d) = true) := by
        have : compC (a, b) (c, d) = true := by rw [HC.out]; rfl
        exact ⟨by unfold meetV; rw [this, HM.out]; rfl, this⟩
      go_wp2
      refine bodyPost_ret (v := .tuple #[.agg #[.int .u8 (x : Int), .int .u8 (y : Int)], .bool true]) (by simp [results, Try.results15, go_sem, h20, h21]) rfl ⟨?_, ?_⟩
      · unfold MeetR; rw [HF.out.1, HF.out.2]
      · exact (hbw2.setCell (by simp; omega) _).setCell (by simp; omega) _
end Go.Proofs.Ytnaalbcbmhpfjaa
