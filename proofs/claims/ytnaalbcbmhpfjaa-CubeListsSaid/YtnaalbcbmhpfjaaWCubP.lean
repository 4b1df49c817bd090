/- Which cube a text is: Parse, of package cube and of the document; the law CubeReads. -/
import Derived.Test.YtnaalbcbmhpfjaaWCub2
import Derived.Test.YtnaalbcbmhpfjaaWCubR3
namespace Go.Proofs.Ytnaalbcbmhpfjaa
open Go.RowKit Go.Maps

theorem by_len (s : ByteArray) : s.toList.length = s.size := by rw [ByteArray.toList_eq]; rfl
theorem by_drop (s : ByteArray) (k : Nat) (h : k < s.size) : s.toList.drop k = s[k] :: s.toList.drop (k + 1) := by
  have hl : k < s.toList.length := by rw [by_len]; exact h
  rw [List.drop_eq_getElem_cons hl]
  congr 1
  simp only [ByteArray.toList_eq]; rfl
/-- What is read from place k on. -/
def rdAt (s : ByteArray) (k : Nat) (c : Cu) : Option Cu := readC (s.toList.drop k) k c
theorem rdAt_end {s : ByteArray} {c : Cu} : rdAt s s.size c = some c := by
  unfold rdAt; rw [List.drop_of_length_le (by rw [by_len]; exact Nat.le_refl _)]; rfl
theorem rdAt_free {s : ByteArray} {k : Nat} {c : Cu} (h : k < s.size) (hx : s[k] = 45) : rdAt s k c = rdAt s (k + 1) c := by
  unfold rdAt; rw [by_drop s k h]; show (if _ then _ else _) = _; rw [if_pos hx]
theorem rdAt_off {s : ByteArray} {k : Nat} {c : Cu} (h : k < s.size) (hx : s[k] = 48) : rdAt s k c = rdAt s (k + 1) (sayC c k false) := by
  unfold rdAt; rw [by_drop s k h]; show (if _ then _ else _) = _; rw [if_neg (by rw [hx]; decide), if_pos hx]
theorem rdAt_on {s : ByteArray} {k : Nat} {c : Cu} (h : k < s.size) (hx : s[k] = 49) : rdAt s k c = rdAt s (k + 1) (sayC c k true) := by
  unfold rdAt; rw [by_drop s k h]; show (if _ then _ else _) = _; rw [if_neg (by rw [hx]; decide), if_neg (by rw [hx]; decide), if_pos hx]
theorem rdAt_bad {s : ByteArray} {k : Nat} {c : Cu} (h : k < s.size) (h1 : s[k] ≠ 45) (h2 : s[k] ≠ 48) (h3 : s[k] ≠ 49) : rdAt s k c = none := by
  unfold rdAt; rw [by_drop s k h]; show (if _ then _ else _) = _; rw [if_neg h1, if_neg h2, if_neg h3]
/-- What Parse answers. -/
def parseV (n : Int) (s : List UInt8) : Cu × Int := if 0 ≤ n ∧ n ≤ 8 then (match parseC n.toNat s with | some c => (c, 0) | none => ((0, 0), 120)) else ((0, 0), 2)
theorem parseV_out {n : Int} {s : List UInt8} (h : ¬ (0 ≤ n ∧ n ≤ 8)) : parseV n s = ((0, 0), 2) := by unfold parseV; rw [if_neg h]
theorem parseV_len {N : Nat} {s : ByteArray} (h : N ≤ 8) (hl : s.size ≠ N) : parseV N s.toList = ((0, 0), 120) := by
  unfold parseV; rw [if_pos (by omega)]
  have : parseC (N : Int).toNat s.toList = none := by unfold parseC; rw [if_neg (by rw [by_len]; simpa using hl)]
  rw [this]
theorem parseV_rd {s : ByteArray} (h : s.size ≤ 8) : parseV s.size s.toList = match rdAt s 0 (0, 0) with | some c => (c, 0) | none => ((0, 0), 120) := by
  unfold parseV; rw [if_pos (by omega)]
  have : parseC ((s.size : Nat) : Int).toNat s.toList = rdAt s 0 (0, 0) := by unfold parseC rdAt; rw [if_pos (by rw [by_len]; simp)]; rfl
  rw [this]
theorem parseV_ok {n : Int} {s : ByteArray} : (parseV n s.toList).1.ok := by
  by_cases hn : 0 ≤ n ∧ n ≤ 8
  · obtain ⟨N, rfl⟩ := Int.eq_ofNat_of_zero_le hn.1
    by_cases hl : s.size = N
    · subst hl
      rw [parseV_rd (by omega)]
      have key : ∀ (d k : Nat) (c : Cu), k + d = s.size → c.ok → ∀ x, rdAt s k c = some x → x.ok := by
        intro d
        induction d with
        | zero => intro k c hk hc x hx; rw [show k = s.size by omega, rdAt_end] at hx; cases hx; exact hc
        | succ d ih =>
          intro k c hk hc x hx
          have hks : k < s.size := by omega
          by_cases h1 : s[k] = 45
          · rw [rdAt_free hks h1] at hx; exact ih (k + 1) c (by omega) hc x hx
          · by_cases h2 : s[k] = 48
            · rw [rdAt_off hks h2] at hx; exact ih (k + 1) _ (by omega) (say_ok hc (by omega) _) x hx
            · by_cases h3 : s[k] = 49
              · rw [rdAt_on hks h3] at hx; exact ih (k + 1) _ (by omega) (say_ok hc (by omega) _) x hx
              · rw [rdAt_bad hks h1 h2 h3] at hx; cases hx
      cases hr : rdAt s 0 (0, 0) with
      | none => exact ⟨by decide, by decide⟩
      | some x => exact key s.size 0 (0, 0) (by omega) ⟨by decide, by decide⟩ x hr
    · rw [parseV_len (by omega) hl]; exact ⟨by decide, by decide⟩
  · rw [parseV_out hn]; exact ⟨by decide, by decide⟩
def ParseCR (x : Cu × Int) (e : Ending) : Prop := e = .returned (.tuple #[.agg #[.int .u8 (x.1.1 : Int), .int .u8 (x.1.2 : Int)], .int .i64 x.2])
theorem u8_eq {x : UInt8} {y : Nat} (h : y < 256) : ((x.toNat : Int) == (y : Int)) = decide (x = UInt8.ofNat y) := by
  by_cases e : x.toNat = y
  · have : x = UInt8.ofNat y := by rw [← e]; simp
    rw [decide_eq_true this]; simp [e]
  · have : ¬ x = UInt8.ofNat y := fun h2 => e (by rw [h2]; simp; omega)
    rw [decide_eq_false this, beq_eq_false_iff_ne]; omega

theorem blk_other {w : World} {g g' : Nat} {t : TypeId} {a b : Nat} (h : Blk w g t a b) (hne : g ≠ g') (x y : Value) : Blk ((w.setCell ⟨g', 0, none⟩ x).setCell ⟨g', 1, none⟩ y) g t a b :=
  ((Below.heap_setCell _ _ _ _ hne).trans (Below.heap_setCell _ _ _ _ hne)).trans h
theorem below_set2 {B g : Nat} {a w : World} (h : Below B a w) (hg : B ≤ g) (x y : Value) : Below B a ((w.setCell ⟨g, 0, none⟩ x).setCell ⟨g, 1, none⟩ y) := (h.setCell hg _).setCell hg _

set_option maxHeartbeats 1000000 in
theorem Try.parse_any (n : Int) (s : ByteArray) (w : World) (hs : s.size ≤ maxLen) :
    Calls Try.prog 31 #[.int .i64 n, .string s] w fun e w' => ParseCR (parseV n s.toList) e ∧ Below w.heap.size w w' := by
  unfold maxLen at hs
  have hsz := fun w => Try.size_any n w
  by_cases hn : 0 ≤ n ∧ n ≤ 8
  · rw [decide_eq_true hn] at hsz
    obtain ⟨N, rfl⟩ := Int.eq_ofNat_of_zero_le hn.1
    have hN : N ≤ 8 := by omega
    by_cases hl : s.size = N
    · subst hl
      have HR : Hid _ := parseV_rd hN
      clear hn
      go_enter Try.func31, Try.ntmps31
      go_wp2_with fail
      refine (hsz _).mono ?_
      rintro e w' ⟨rfl, rfl⟩
      go_wp2
      go_loopw [18] (fun i wr => ∃ k : Nat, k ≤ s.size ∧ i = .int .i64 k ∧ (∃ a b : Nat, a < 256 ∧ b < 256 ∧ Hid (rdAt s k (a, b) = rdAt s 0 (0, 0)) ∧ Blk wr (w.heap.size + 1) 24 a b) ∧ Blk wr w.heap.size 24 0 0 ∧ Below w.heap.size w wr) (fun i _ => s.size - (intOf i).toNat)
      case atStart => exact ⟨0, Nat.zero_le _, rfl, ⟨0, 0, by decide, by decide, rfl, Blk.at (by simp)⟩, (Blk.at rfl).al _, (below_new _ _).alloc (by simp) _⟩
      case round =>
        obtain ⟨k, hk, rfl, ⟨a, b, ha, hb, HU, hC⟩, hB, hbw⟩ := hrel
        have h10 := hC.c0
        have h11 := hC.c1
        have h00 := hB.c0
        have h01 := hB.c1
        have hf0 := hB.fz 0
        have hf1 := hB.fz 1
        have hg0 := hC.fz 0
        have hg1 := hC.fz 1
        by_cases hlt : k < s.size
        · have hk8 : k < 8 := by omega
          by_cases e48 : s[k] = 48
          · have q48 : ((s[k].toNat : Int) == 48) = true := by rw [e48]; rfl
            have HN : Hid (rdAt s (k + 1) (sayC (a, b) k false) = rdAt s 0 (0, 0)) := by show _ = _; rw [← HU.out, rdAt_off hlt e48]
            have hsy := fun w => Try.say_any a b k 0 w ha hb hk8 (by decide)
            rw [show (0 : Nat).testBit k = false by simp] at hsy
            have hok := say_ok (a := (a, b)) ⟨ha, hb⟩ hk8 false
            unfold SayR at hsy
            clear e48
            generalize sayC (a, b) k false = c at *
            obtain ⟨c0, c1⟩ := c
            go_wp2_with fail
            refine (hsy _).mono ?_
            rintro e w1 ⟨rfl, hw1⟩
            have hC1 := hC.up hw1
            have hB1 := hB.up hw1
            have hbw1 := below_step hbw hw1
            clear hw1 h10 h11 h00 h01 hf0 hf1 hg0 hg1 hC hB hbw hsy
            have h10 := hC1.c0
            have h11 := hC1.c1
            have hg0 := hC1.fz 0
            have hg1 := hC1.fz 1
            have hC2 := (hC1.set0 c0).set1 c1
            have hB2 := blk_other hB1 (g' := w.heap.size + 1) (by omega) (.int .u8 (c0 : Int)) (.int .u8 (c1 : Int))
            have hbw2 := below_set2 hbw1 (g := w.heap.size + 1) (by omega) (.int .u8 (c0 : Int)) (.int .u8 (c1 : Int))
            clear hC1 hB1 hbw1
            go_wp2
            go_roundw
            case rel => exact ⟨k + 1, by omega, by go_num, ⟨c0, c1, hok.1, hok.2, HN, hC2⟩, hB2, hbw2⟩
            case measure => simp [intOf]; omega
          · have q48 : ((s[k].toNat : Int) == 48) = false := by rw [show (48 : Int) = ((48 : Nat) : Int) from rfl, u8_eq (by decide)]; exact decide_eq_false e48
            by_cases e49 : s[k] = 49
            · have q49 : ((s[k].toNat : Int) == 49) = true := by rw [e49]; rfl
              have HN : Hid (rdAt s (k + 1) (sayC (a, b) k true) = rdAt s 0 (0, 0)) := by show _ = _; rw [← HU.out, rdAt_on hlt e49]
              have hbt := fun w => Try.cbit_any k w hk8
              have hsy := fun w => Try.say_any a b k (2 ^ k) w ha hb hk8 (pow_lt hk8)
              rw [show Nat.testBit (2 ^ k) k = true by simp] at hsy
              have hok := say_ok (a := (a, b)) ⟨ha, hb⟩ hk8 true
              unfold SayR at hsy
              clear e48 e49
              generalize 2 ^ k = z at *
              generalize sayC (a, b) k true = c at *
              obtain ⟨c0, c1⟩ := c
              have hCd : Blk wr.drew (w.heap.size + 1) 24 a b := hC.up (Below.refl _ _).drew
              have hBd : Blk wr.drew w.heap.size 24 0 0 := hB.up (Below.refl _ _).drew
              have hbd : Below w.heap.size w wr.drew := hbw.drew
              clear hC hB hbw
              go_wp2_with fail
              go_region_with (first | (go_at_call 42; refine (hbt _).mono ?_; rintro e w' ⟨rfl, rfl⟩) | (go_at_call 43; refine (hsy _).mono ?_; rintro e w1 ⟨rfl, hw1⟩; have hC1 := hCd.up hw1; have i10 := hC1.c0; have i11 := hC1.c1; have ig0 := hC1.fz 0; have ig1 := hC1.fz 1))
              all_goals
                have hC2 := (hC1.set0 c0).set1 c1
                have hB2 := blk_other (hBd.up hw1) (g' := w.heap.size + 1) (by omega) (.int .u8 (c0 : Int)) (.int .u8 (c1 : Int))
                have hbw2 := below_set2 (below_step hbd hw1) (g := w.heap.size + 1) (by omega) (.int .u8 (c0 : Int)) (.int .u8 (c1 : Int))
                clear hC1 hBd hbd hCd i10 i11 ig0 ig1 h10 h11 h00 h01 hf0 hf1 hg0 hg1
                go_wp2
                go_roundw
                case rel => exact ⟨k + 1, by omega, by go_num, ⟨c0, c1, hok.1, hok.2, HN, hC2⟩, hB2, hbw2⟩
                case measure => simp [intOf]; omega
            · have q49 : ((s[k].toNat : Int) == 49) = false := by rw [show (49 : Int) = ((49 : Nat) : Int) from rfl, u8_eq (by decide)]; exact decide_eq_false e49
              by_cases e45 : s[k] = 45
              · have q45 : ((s[k].toNat : Int) == 45) = true := by rw [e45]; rfl
                have HN : Hid (rdAt s (k + 1) (a, b) = rdAt s 0 (0, 0)) := by show _ = _; rw [← HU.out, rdAt_free hlt e45]
                clear e48 e49 e45
                go_wp2
                go_roundw
                case rel => exact ⟨k + 1, by omega, by go_num, ⟨a, b, ha, hb, HN, hC⟩, hB, hbw⟩
                case measure => simp [intOf]; omega
              · have q45 : ((s[k].toNat : Int) == 45) = false := by rw [show (45 : Int) = ((45 : Nat) : Int) from rfl, u8_eq (by decide)]; exact decide_eq_false e45
                have HN : Hid (parseV s.size s.toList = ((0, 0), 120)) := by show _ = _; rw [HR.out, ← HU.out, rdAt_bad hlt e45 e48 e49]
                clear e48 e49 e45
                go_wp2
                refine bodyPost_ret (v := .tuple #[.agg #[.int .u8 0, .int .u8 0], .int .i64 120]) (by simp [results, Try.results31, go_sem, h00, h01]) rfl ⟨?_, ?_⟩
                · unfold ParseCR; rw [HN.out]; rfl
                · exact (hbw.setCell (by simp) _).setCell (by simp) _
        · obtain rfl : k = s.size := by omega
          have HN : Hid (parseV s.size s.toList = ((a, b), 0)) := by show _ = _; rw [HR.out, ← HU.out, rdAt_end]
          go_wp2
          refine bodyPost_ret (v := .tuple #[.agg #[.int .u8 (a : Int), .int .u8 (b : Int)], .int .i64 0]) (by simp [results, Try.results31, go_sem, h00, h01]) rfl ⟨?_, ?_⟩
          · unfold ParseCR; rw [HN.out]
          · exact (hbw.setCell (by simp) _).setCell (by simp) _
    · have HR : Hid _ := parseV_len hN hl
      have hl' : ((s.size : Int) != (N : Int)) = true := by simp; omega
      clear hn hl
      go_enter Try.func31, Try.ntmps31
      go_wp2_with fail
      refine (hsz _).mono ?_
      rintro e w' ⟨rfl, rfl⟩
      go_wp2
      refine bodyPost_ret (v := .tuple #[.agg #[.int .u8 0, .int .u8 0], .int .i64 120]) (by simp [results, Try.results31, go_sem]) rfl ⟨?_, ?_⟩
      · unfold ParseCR; rw [HR.out]; rfl
      · exact below_new _ _
  · rw [decide_eq_false hn] at hsz
    have HR : Hid _ := parseV_out (s := s.toList) hn
    go_enter Try.func31, Try.ntmps31
    go_wp2_with fail
    refine (hsz _).mono ?_
    rintro e w' ⟨rfl, rfl⟩
    go_wp2
    refine bodyPost_ret (v := .tuple #[.agg #[.int .u8 0, .int .u8 0], .int .i64 2]) (by simp [results, Try.results31, go_sem]) rfl ⟨?_, ?_⟩
    · unfold ParseCR; rw [HR.out]; rfl
    · exact below_new _ _

set_option maxHeartbeats 1000000 in
theorem Try.rparse_any (n : Int) (s : ByteArray) (w : World) (hs : s.size ≤ maxLen) :
    Calls Try.prog 32 #[.int .i64 n, .string s] w fun e w' => ParseCR (parseV n s.toList) e ∧ Below w.heap.size w w' := by
  unfold maxLen at hs
  by_cases h0 : 0 ≤ n
  · by_cases h8 : n ≤ 8
    · obtain ⟨N, rfl⟩ := Int.eq_ofNat_of_zero_le h0
      have hN : N ≤ 8 := by omega
      by_cases hl : s.size = N
      · subst hl
        have HR : Hid _ := parseV_rd hN
        clear h0 h8
        go_enter Try.func32, Try.ntmps32
        go_wp2
        go_loopw [7] (fun i wr => ∃ k : Nat, k ≤ s.size ∧ i = .int .i64 k ∧ (∃ a b : Nat, a < 256 ∧ b < 256 ∧ Hid (rdAt s k (a, b) = rdAt s 0 (0, 0)) ∧ Blk wr (w.heap.size + 1) 24 a b) ∧ Blk wr w.heap.size 24 0 0 ∧ Below w.heap.size w wr) (fun i _ => s.size - (intOf i).toNat)
        case atStart => exact ⟨0, Nat.zero_le _, rfl, ⟨0, 0, by decide, by decide, rfl, Blk.at (by simp)⟩, (Blk.at rfl).al _, (below_new _ _).alloc (by simp) _⟩
        case round =>
          obtain ⟨k, hk, rfl, ⟨a, b, ha, hb, HU, hC⟩, hB, hbw⟩ := hrel
          have h10 := hC.c0
          have h11 := hC.c1
          have h00 := hB.c0
          have h01 := hB.c1
          have hf0 := hB.fz 0
          have hf1 := hB.fz 1
          have hg0 := hC.fz 0
          have hg1 := hC.fz 1
          by_cases hlt : k < s.size
          · have hk8 : k < 8 := by omega
            by_cases e45 : s[k] = 45
            · have q45 : ((s[k].toNat : Int) == 45) = true := by rw [e45]; rfl
              have HN : Hid (rdAt s (k + 1) (a, b) = rdAt s 0 (0, 0)) := by show _ = _; rw [← HU.out, rdAt_free hlt e45]
              clear e45
              go_wp2
              go_roundw
              case rel => exact ⟨k + 1, by omega, by go_num, ⟨a, b, ha, hb, HN, hC⟩, hB, hbw⟩
              case measure => simp [intOf]; omega
            · have q45 : ((s[k].toNat : Int) == 45) = false := by rw [show (45 : Int) = ((45 : Nat) : Int) from rfl, u8_eq (by decide)]; exact decide_eq_false e45
              by_cases e48 : s[k] = 48
              · have q48 : ((s[k].toNat : Int) == 48) = true := by rw [e48]; rfl
                have HN : Hid (rdAt s (k + 1) (sayC (a, b) k false) = rdAt s 0 (0, 0)) := by show _ = _; rw [← HU.out, rdAt_off hlt e48]
                have hsy := fun w => Try.rsay_any a b k false 0 w ha hb hk8 rfl
                have hok := say_ok (a := (a, b)) ⟨ha, hb⟩ hk8 false
                unfold SayR at hsy
                clear e45 e48
                generalize sayC (a, b) k false = c at *
                obtain ⟨c0, c1⟩ := c
                go_wp2_with fail
                refine (hsy _).mono ?_
                rintro e w1 ⟨rfl, hw1⟩
                have hC1 := hC.up hw1
                have hB1 := hB.up hw1
                have hbw1 := below_step hbw hw1
                clear hw1 h10 h11 h00 h01 hf0 hf1 hg0 hg1 hC hB hbw hsy
                have h10 := hC1.c0
                have h11 := hC1.c1
                have hg0 := hC1.fz 0
                have hg1 := hC1.fz 1
                have hC2 := (hC1.set0 c0).set1 c1
                have hB2 := blk_other hB1 (g' := w.heap.size + 1) (by omega) (.int .u8 (c0 : Int)) (.int .u8 (c1 : Int))
                have hbw2 := below_set2 hbw1 (g := w.heap.size + 1) (by omega) (.int .u8 (c0 : Int)) (.int .u8 (c1 : Int))
                clear hC1 hB1 hbw1
                go_wp2
                go_roundw
                case rel => exact ⟨k + 1, by omega, by go_num, ⟨c0, c1, hok.1, hok.2, HN, hC2⟩, hB2, hbw2⟩
                case measure => simp [intOf]; omega
              · have q48 : ((s[k].toNat : Int) == 48) = false := by rw [show (48 : Int) = ((48 : Nat) : Int) from rfl, u8_eq (by decide)]; exact decide_eq_false e48
                by_cases e49 : s[k] = 49
                · have q49 : ((s[k].toNat : Int) == 49) = true := by rw [e49]; rfl
                  have HN : Hid (rdAt s (k + 1) (sayC (a, b) k true) = rdAt s 0 (0, 0)) := by show _ = _; rw [← HU.out, rdAt_on hlt e49]
                  have hsy := fun w => Try.rsay_any a b k true 1 w ha hb hk8 rfl
                  have hok := say_ok (a := (a, b)) ⟨ha, hb⟩ hk8 true
                  unfold SayR at hsy
                  clear e45 e48 e49
                  generalize sayC (a, b) k true = c at *
                  obtain ⟨c0, c1⟩ := c
                  go_wp2_with fail
                  refine (hsy _).mono ?_
                  rintro e w1 ⟨rfl, hw1⟩
                  have hC1 := hC.up hw1
                  have hB1 := hB.up hw1
                  have hbw1 := below_step hbw hw1
                  clear hw1 h10 h11 h00 h01 hf0 hf1 hg0 hg1 hC hB hbw hsy
                  have h10 := hC1.c0
                  have h11 := hC1.c1
                  have hg0 := hC1.fz 0
                  have hg1 := hC1.fz 1
                  have hC2 := (hC1.set0 c0).set1 c1
                  have hB2 := blk_other hB1 (g' := w.heap.size + 1) (by omega) (.int .u8 (c0 : Int)) (.int .u8 (c1 : Int))
                  have hbw2 := below_set2 hbw1 (g := w.heap.size + 1) (by omega) (.int .u8 (c0 : Int)) (.int .u8 (c1 : Int))
                  clear hC1 hB1 hbw1
                  go_wp2
                  go_roundw
                  case rel => exact ⟨k + 1, by omega, by go_num, ⟨c0, c1, hok.1, hok.2, HN, hC2⟩, hB2, hbw2⟩
                  case measure => simp [intOf]; omega
                · have q49 : ((s[k].toNat : Int) == 49) = false := by rw [show (49 : Int) = ((49 : Nat) : Int) from rfl, u8_eq (by decide)]; exact decide_eq_false e49
                  have HN : Hid (parseV s.size s.toList = ((0, 0), 120)) := by show _ = _; rw [HR.out, ← HU.out, rdAt_bad hlt e45 e48 e49]
                  clear e48 e49 e45
                  go_wp2
                  refine bodyPost_ret (v := .tuple #[.agg #[.int .u8 0, .int .u8 0], .int .i64 120]) (by simp [results, Try.results32, go_sem, h00, h01]) rfl ⟨?_, ?_⟩
                  · unfold ParseCR; rw [HN.out]; rfl
                  · exact (hbw.setCell (by simp) _).setCell (by simp) _
          · obtain rfl : k = s.size := by omega
            have HN : Hid (parseV s.size s.toList = ((a, b), 0)) := by show _ = _; rw [HR.out, ← HU.out, rdAt_end]
            go_wp2
            refine bodyPost_ret (v := .tuple #[.agg #[.int .u8 (a : Int), .int .u8 (b : Int)], .int .i64 0]) (by simp [results, Try.results32, go_sem, h00, h01]) rfl ⟨?_, ?_⟩
            · unfold ParseCR; rw [HN.out]
            · exact (hbw.setCell (by simp) _).setCell (by simp) _
      · have HR : Hid _ := parseV_len hN hl
        have hl' : ((s.size : Int) != (N : Int)) = true := by simp; omega
        clear hl
        go_enter Try.func32, Try.ntmps32
        go_wp2
        refine bodyPost_ret (v := .tuple #[.agg #[.int .u8 0, .int .u8 0], .int .i64 120]) (by simp [results, Try.results32, go_sem]) rfl ⟨?_, ?_⟩
        · unfold ParseCR; rw [HR.out]; rfl
        · exact below_new _ _
    · have HR : Hid _ := parseV_out (n := n) (s := s.toList) (by omega)
      go_enter Try.func32, Try.ntmps32
      go_wp2
      refine bodyPost_ret (v := .tuple #[.agg #[.int .u8 0, .int .u8 0], .int .i64 2]) (by simp [results, Try.results32, go_sem]) rfl ⟨?_, ?_⟩
      · unfold ParseCR; rw [HR.out]; rfl
      · exact below_new _ _
  · have HR : Hid _ := parseV_out (n := n) (s := s.toList) (by omega)
    go_enter Try.func32, Try.ntmps32
    go_wp2
    refine bodyPost_ret (v := .tuple #[.agg #[.int .u8 0, .int .u8 0], .int .i64 2]) (by simp [results, Try.results32, go_sem]) rfl ⟨?_, ?_⟩
    · unfold ParseCR; rw [HR.out]; rfl
    · exact below_new _ _

set_option maxHeartbeats 800000 in
/-- The law CubeReads. -/
theorem Try.reads_any (n : Int) (s : ByteArray) (w : World) (hs : s.size ≤ maxLen) :
    Calls Try.prog 5 #[.int .i64 n, .string s] w fun e w' => e = .returned (.bool true) ∧ Below w.heap.size w w' := by
  have h1 := fun w => Try.parse_any n s w hs
  have h2 := fun w => Try.rparse_any n s w hs
  unfold ParseCR at h1 h2
  generalize parseV n s.toList = x at *
  obtain ⟨⟨a, b⟩, e⟩ := x
  have heq := Try.eqlCube a b a b
  rw [decide_eq_true rfl] at heq
  go_enter Try.func5, Try.ntmps5
  go_wp2_with fail
  refine (h1 _).mono ?_
  rintro e1 w1 ⟨rfl, hw1⟩
  go_wp2_with fail
  refine (h2 _).mono ?_
  rintro e2 w2 ⟨rfl, hw2⟩
  have hbw := below_step (below_step hw1 (below_new w1 (.cells #[.int .u8 (a : Int), .int .u8 (b : Int)] 24))) hw2
  have hB1 := (Blk.new w1 24 a b).up hw2
  have c0 := fun o => (hB1.al o).c0
  have c1 := fun o => (hB1.al o).c1
  go_wp2
  go_ret
  exact ⟨rfl, hbw.alloc hbw.size _⟩
end Go.Proofs.Ytnaalbcbmhpfjaa
