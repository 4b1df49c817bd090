/- KernelLong, over contracts of package kernel and of the document's. -/
import Derived.Test.YtfgaieefejdkbaaWKl1
import Derived.Test.YtfgaieefejdkbaaWTs
namespace Go.Proofs.Ytfgaieefejdkbaa
open Go.RowKit Go.Maps

def sizeN (ts : List Tk) : Nat := if lookE ts 1 = 0 then min (kL ts).1.length 2049 else 0
def SizeC2 (F : FuncId) : Prop := ∀ (a : Option Addr) (len cap : Nat) (ts : List Tk) (w : World), TkSl w a len cap ts → Calls Try.prog F #[.slice a len cap] w fun e w' => e = .returned (.tuple #[.int .i64 (sizeN ts : Int), .int .i64 (lookE ts 1 : Int)]) ∧ Below w.heap.size w w'
theorem and7 : ∀ k, k < 81 → bits BinOp.and IntKind.i64 ((k : Nat) : Int) 7 = ((k % 8 : Nat) : Int) := by decide +kernel
theorem lg_tks {w : World} {cs : Array Value} {T : List Tk} (hc : cs.toList = encT T) (hok : ∀ t ∈ T, t.1 < 256 ∧ t.2 < 256) (hl : T.length ≤ 100) : TkSl (w.alloc (.cells cs 37)) (some ⟨w.heap.size, 0, none⟩) T.length T.length T := by
  have hs : cs.size = T.length * 2 := by rw [← Array.length_toList, hc, encT_len]
  have h1 : (w.alloc (.cells cs 37)).ownsRow w.heap.size 37 2 (.slice (some ⟨w.heap.size, 0, none⟩) T.length T.length) T.length (encT T) := ⟨encT_len T, Or.inr ⟨w.heap.size, T.length, cs, rfl, Nat.le_refl _, (MapKept.heap_alloc w _).1, Nat.le_refl _, by unfold maxLen; omega, hs, by rw [hc, ← encT_len T, List.take_length]⟩⟩
  obtain ⟨a, c, e, t, _⟩ := own_tk h1 hok
  injection e with e1 _ e3
  subst e1 e3
  exact t
/-- A list of tokens of the call's own: what the loop keeps. -/
structure Lg (w wr : World) (v : Value) (k : Nat) (xs : List Tk) : Prop where
  own : wr.ownsRow w.heap.size 37 2 v xs.length (encT xs)
  ok : ∀ t ∈ xs, t.1 < 256 ∧ t.2 < 256
  len : xs.length ≤ 20 + 3 * k
  below : Below w.heap.size w wr
theorem Lg.app {w wr w1 w5 : World} {v v5 : Value} {k k' : Nat} {xs ys : List Tk} (h : Lg w wr v k xs) (hb : Below wr.heap.size wr w1) (hg : w1.grownBy w5 v.ownBlock) (ho : w5.ownsRow w.heap.size 37 2 v5 (xs ++ ys).length (encT (xs ++ ys))) (hy : ∀ t ∈ ys, t.1 < 256 ∧ t.2 < 256) (hl : (xs ++ ys).length ≤ 20 + 3 * k') : Lg w w5 v5 k' (xs ++ ys) :=
  ⟨ho, fun t ht => (List.mem_append.1 ht).elim (h.ok t) (hy t), hl, (below_step h.below hb).grown hg (below_step h.below hb).size (own_ge h.own)⟩
theorem own_slL {w : World} {base e size n : Nat} {v : Value} {xs : List Value} (h : w.ownsRow base e size v n xs) : ∃ a cap, v = .slice a n cap := by
  rcases h.2 with ⟨rfl, rfl⟩ | ⟨g, cap, cur, rfl, _⟩
  · exact ⟨none, 0, rfl⟩
  · exact ⟨_, cap, rfl⟩
set_option maxRecDepth 100000 in
set_option maxHeartbeats 8000000 in
theorem Try.klong_any (hOf : OfC 10) (hNeg : NegC 12) (hChk : ChkC 17) (hSz : SizeC2 14) (rOf : OfC 11) (rNeg : NegC 13) (rChk : ChkC 18) (rSz : SizeC2 15) (a : Option Addr) (la ca : Nat) (l : List Tk) (often : Int) (b : Bool) (w : World) (hA : TkSl w a la ca l) :
    Calls Try.prog 4 #[.slice a la ca, .int .i64 often, .bool b] w fun e w' => e = .returned (.bool true) ∧ Below w.heap.size w w' := by
  have hlen := hA.hlen
  by_cases c1 : 20 < la
  · have c1' : (20 : Int) < (la : Int) := by omega
    clear hA hlen hOf hNeg hChk hSz rOf rNeg rChk rSz
    go_enter Try.func4, Try.ntmps4
    go_wp2
    go_ret
    exact ⟨rfl, Below.refl _ _⟩
  have c1' : decide ((20 : Int) < (la : Int)) = false := decide_eq_false (by omega)
  by_cases c2 : often < 0
  · clear hA hlen hOf hNeg hChk hSz rOf rNeg rChk rSz
    go_enter Try.func4, Try.ntmps4
    go_wp2
    go_ret
    exact ⟨rfl, Below.refl _ _⟩
  have c2' : decide (often < 0) = false := decide_eq_false c2
  by_cases c3 : 80 < often
  · clear hA hlen hOf hNeg hChk hSz rOf rNeg rChk rSz
    go_enter Try.func4, Try.ntmps4
    go_wp2
    go_ret
    exact ⟨rfl, Below.refl _ _⟩
  have c3' : decide (80 < often) = false := decide_eq_false c3
  obtain ⟨N, rfl⟩ : ∃ N : Nat, often = (N : Int) := ⟨often.toNat, by omega⟩
  have hN : N ≤ 80 := by omega
  have c2' : decide ((N : Int) < 0) = false := c2'
  have c3' : decide ((80 : Int) < (N : Int)) = false := c3'
  have c2'' : decide (N < 0) = false := decide_eq_false (by omega)
  have c3'' : decide (80 < N) = false := decide_eq_false (by omega)
  have c1'' : decide (20 < la) = false := decide_eq_false c1
  have HA : Hid (TkSl w a la ca l) := hA
  have HOf : Hid _ := hOf
  have HNeg : Hid _ := hNeg
  have HChk : Hid _ := hChk
  have HSz : Hid _ := hSz
  have ROf : Hid _ := rOf
  have RNeg : Hid _ := rNeg
  have RChk : Hid _ := rChk
  have RSz : Hid _ := rSz
  have HO0 : Hid (w.ownsRow w.heap.size 37 2 (.slice none 0 0) ([] : List Tk).length (encT [])) := ⟨rfl, Or.inl ⟨rfl, rfl⟩⟩
  have HLA : Hid (l.length = la) := hlen
  clear hA hOf hNeg hChk hSz rOf rNeg rChk rSz hlen c1 c2 c3
  go_enter Try.func4, Try.ntmps4
  go_wp2_with (at_builtin; refine Try.append_tks rfl _ _ rfl w.heap.size _ [] l a la ca rfl rfl HO0.out HA.out (by simp) (by have := HLA.out; have := of_decide_eq_false c1''; omega) (Nat.le_refl _) ?_)
  intro v0 w0 ho0 hg0
  have hb0 : Below w.heap.size w w0 := (Below.refl _ _).grown hg0 (Nat.le_refl _) (fun j e => by cases e)
  have HL0 : Hid (Lg w w0 v0 0 l) := ⟨by simpa using ho0, HA.out.ok, by have := HLA.out; have := of_decide_eq_false c1''; omega, hb0⟩
  clear ho0 hg0 hb0 HO0
  go_wp2
  go_loopw [7, 8] (fun v i wr => ∃ k : Nat, k ≤ N ∧ i = .int .i64 k ∧ ∃ xs : List Tk, Hid (Lg w wr v k xs)) (fun _ i _ => N - (intOf i).toNat)
  case atStart => exact ⟨0, Nat.zero_le _, rfl, l, HL0⟩
  case round =>
    obtain ⟨k, hk, rfl, xs, HL⟩ := hrel
    clear HL0
    by_cases hlt : k < N
    · obtain ⟨av, cv, rfl⟩ := own_slL HL.out.own
      obtain ⟨p, hp⟩ : ∃ p, p = k % 8 := ⟨_, rfl⟩
      have hp8 : p < 8 := by omega
      have hb7 : bits BinOp.and IntKind.i64 (k : Int) 7 = (p : Int) := by rw [hp]; exact and7 k (by omega)
      have hcv : IntKind.u8.wrap (p : Int) = (p : Int) := by rw [IntKind.wrap_u8]; omega
      have hlx := HL.out.len
      have hb1 := below_new wr (.cells #[.int .u8 2, .int .u8 (p : Int), .int .u8 14, .int .u8 0] 37)
      have HB1 : Hid _ := hb1
      have HT1 : Hid (TkSl (wr.alloc (.cells #[.int .u8 2, .int .u8 (p : Int), .int .u8 14, .int .u8 0] 37)) (some ⟨wr.heap.size, 0, none⟩) 2 2 [(2, p), (14, 0)]) := lg_tks (T := [(2, p), (14, 0)]) rfl (by intro t ht; simp at ht; rcases ht with rfl | rfl; exact ⟨by show 2 < 256; decide, by show p < 256; omega⟩; exact ⟨by show 14 < 256; decide, by show 0 < 256; decide⟩) (by simp)
      have HO1 : Hid ((wr.alloc (.cells #[.int .u8 2, .int .u8 (p : Int), .int .u8 14, .int .u8 0] 37)).ownsRow w.heap.size 37 2 (.slice av xs.length cv) xs.length (encT xs)) := owns_up HL.out.own hb1
      have hz1 : w.heap.size ≤ (wr.alloc (.cells #[.int .u8 2, .int .u8 (p : Int), .int .u8 14, .int .u8 0] 37)).heap.size := by have := HL.out.below.size; simp; omega
      clear hp hb1
      go_wp2_with (at_builtin; refine Try.append_tks rfl _ _ rfl w.heap.size _ xs [(2, p), (14, 0)] (some ⟨wr.heap.size, 0, none⟩) 2 2 rfl rfl HO1.out HT1.out (by omega) (by simp) hz1 ?_)
      intro v2 w2 ho2 hg2
      have hl2 : (xs ++ [(2, p), (14, 0)]).length ≤ 20 + 3 * (k + 1) - 1 := by simp; omega
      have ho2' : w2.ownsRow w.heap.size 37 2 v2 (xs ++ [(2, p), (14, 0)]).length (encT (xs ++ [(2, p), (14, 0)])) := by rw [List.length_append]; exact ho2
      have HL3 : Hid (Lg w w2 v2 (k + 1) (xs ++ [(2, p), (14, 0)])) := HL.out.app HB1.out hg2 ho2' (by intro t ht; simp at ht; rcases ht with rfl | rfl; exact ⟨by show 2 < 256; decide, by show p < 256; omega⟩; exact ⟨by show 14 < 256; decide, by show 0 < 256; decide⟩) (by omega)
      clear ho2 hg2 ho2' HO1 HT1 HB1 hz1 hb7 hcv
      generalize xs ++ [(2, p), (14, 0)] = ys at *
      cases b with
      | false =>
        go_wp2
        go_roundw
        case rel => exact ⟨k + 1, by omega, by go_num, ys, HL3⟩
        case measure => simp [intOf] <;> omega
      | true =>
        obtain ⟨av2, cv2, rfl⟩ := own_slL HL3.out.own
        have hb3 := below_new w2 (.cells #[.int .u8 6, .int .u8 0] 37)
        have HB3 : Hid _ := hb3
        have HT3 : Hid (TkSl (w2.alloc (.cells #[.int .u8 6, .int .u8 0] 37)) (some ⟨w2.heap.size, 0, none⟩) 1 1 [(6, 0)]) := lg_tks (T := [(6, 0)]) rfl (by decide) (by simp)
        have HO3 : Hid ((w2.alloc (.cells #[.int .u8 6, .int .u8 0] 37)).ownsRow w.heap.size 37 2 (.slice av2 ys.length cv2) ys.length (encT ys)) := owns_up HL3.out.own hb3
        have hz3 : w.heap.size ≤ (w2.alloc (.cells #[.int .u8 6, .int .u8 0] 37)).heap.size := by have := HL3.out.below.size; simp; omega
        clear hb3
        go_wp2_with (at_builtin; refine Try.append_tks rfl _ _ rfl w.heap.size _ ys [(6, 0)] (some ⟨w2.heap.size, 0, none⟩) 1 1 rfl rfl HO3.out HT3.out (by omega) (by simp) hz3 ?_)
        intro v4 w4 ho4 hg4
        have ho4' : w4.ownsRow w.heap.size 37 2 v4 (ys ++ [(6, 0)]).length (encT (ys ++ [(6, 0)])) := by rw [List.length_append]; exact ho4
        have HL4 : Hid (Lg w w4 v4 (k + 1) (ys ++ [(6, 0)])) := HL3.out.app HB3.out hg4 ho4' (by decide) (by simp; omega)
        clear ho4 hg4 ho4' HO3 HT3 HB3 hz3
        generalize ys ++ [(6, 0)] = zs at *
        go_wp2
        go_roundw
        case rel => exact ⟨k + 1, by omega, by go_num, zs, HL4⟩
        case measure => simp [intOf] <;> omega
    · obtain rfl : k = N := by omega
      obtain ⟨av, cv, e', hT, _⟩ := own_tk HL.out.own HL.out.ok
      subst e'
      have HB0 : Hid (Below w.heap.size w wr) := HL.out.below
      have HT0 : Hid (TkSl wr av xs.length cv xs) := hT
      have hlx := HL.out.len
      clear hT HL
      have j1 := HOf.out _ _ _ _ wr HT0.out
      unfold OfR at j1
      go_wp2_with fail
      refine j1.mono ?_
      rintro e w1 ⟨a1, c1x, rfl, t1, b1⟩
      have HB1 : Hid _ := below_step HB0.out b1
      have HT1 : Hid _ := HT0.out.up b1
      have HX1 : Hid _ := t1
      have j2 := ROf.out _ _ _ _ w1 HT1.out
      unfold OfR at j2
      clear b1 t1 j1
      go_wp2_with fail
      refine j2.mono ?_
      rintro e w2 ⟨a2, c2x, rfl, t2, b2⟩
      have HB2 : Hid _ := below_step HB1.out b2
      have HT2 : Hid _ := HT1.out.up b2
      have HX2 : Hid _ := HX1.out.up b2
      have HY2 : Hid _ := t2
      have j3 := HSz.out _ _ _ _ w2 HT2.out
      clear b2 t2 j2
      go_wp2_with fail
      refine j3.mono ?_
      rintro e w3 ⟨rfl, b3⟩
      have HB3 : Hid _ := below_step HB2.out b3
      have HT3 : Hid _ := HT2.out.up b3
      have HX3 : Hid _ := HX2.out.up b3
      have HY3 : Hid _ := HY2.out.up b3
      have j4 := RSz.out _ _ _ _ w3 HT3.out
      clear b3 j3
      go_wp2_with fail
      refine j4.mono ?_
      rintro e w4 ⟨rfl, b4⟩
      have HB4 : Hid _ := below_step HB3.out b4
      have HX4 : Hid _ := HX3.out.up b4
      have HY4 : Hid _ := HY3.out.up b4
      have j5 := HNeg.out _ _ _ _ w4 HY4.out
      unfold NegR at j5
      clear b4 j4
      go_wp2_with fail
      refine j5.mono ?_
      rintro e w5 ⟨a5, c5x, rfl, t5, b5⟩
      have HB5 : Hid _ := below_step HB4.out b5
      have HX5 : Hid _ := HX4.out.up b5
      have HY5 : Hid _ := HY4.out.up b5
      have HP5 : Hid _ := t5
      have j6 := RNeg.out _ _ _ _ w5 HY5.out
      unfold NegR at j6
      clear b5 t5 j5
      go_wp2_with fail
      refine j6.mono ?_
      rintro e w6 ⟨a6, c6x, rfl, t6, b6⟩
      have HB6 : Hid _ := below_step HB5.out b6
      have HX6 : Hid _ := HX5.out.up b6
      have HY6 : Hid _ := HY5.out.up b6
      have HP6 : Hid _ := HP5.out.up b6
      have HQ6 : Hid _ := t6
      clear b6 t6 j6
      generalize negL (ofL xs) = P at *
      generalize ofL xs = O at *
      generalize negE O = nE at *
      generalize ofE xs = oE at *
      generalize sizeN xs = sN at *
      generalize lookE xs 1 = lE at *
      have j7 := Try.sameT_any _ _ _ _ _ _ _ _ w6 HX6.out HY6.out
      rw [decide_eq_true rfl] at j7
      go_wp2_with fail
      refine j7.mono ?_
      rintro e w7 ⟨rfl, b7⟩
      have HB7 : Hid _ := below_step HB6.out b7
      have HY7 : Hid _ := HY6.out.up b7
      have j8 := Try.sameT_any _ _ _ _ _ _ _ _ w7 (HP6.out.up b7) (HQ6.out.up b7)
      rw [decide_eq_true rfl] at j8
      clear b7 j7
      go_wp2_with fail
      refine j8.mono ?_
      rintro e w8 ⟨rfl, b8⟩
      have HB8 : Hid _ := below_step HB7.out b8
      have HY8 : Hid _ := HY7.out.up b8
      have j9 := HChk.out _ _ _ _ w8 HY8.out
      clear b8 j8
      go_wp2_with fail
      refine j9.mono ?_
      rintro e w9 ⟨rfl, b9⟩
      have HB9 : Hid _ := below_step HB8.out b9
      have j10 := RChk.out _ _ _ _ w9 (HY8.out.up b9)
      clear b9 j9
      go_wp2_with fail
      refine j10.mono ?_
      rintro e w10 ⟨rfl, b10⟩
      have HB10 : Hid _ := below_step HB9.out b10
      clear b10 j10
      go_wp2
      go_ret
      exact ⟨rfl, HB10.out⟩
end Go.Proofs.Ytfgaieefejdkbaa
