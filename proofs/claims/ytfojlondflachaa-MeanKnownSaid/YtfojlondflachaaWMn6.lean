/- Stage 7's law MeanCut over the contracts of package mean (handed in). -/
import Derived.Test.YtfojlondflachaaWMn3
namespace Go.Proofs.Ytfojlondflachaa
open Go.RowKit Go.Maps

/-- Pick: one of n. -/
theorem Try.mpick_any (k : Int) (n : Nat) (w : World) (hn : 1 ≤ n) (hn2 : n ≤ 1000) :
    Calls Try.prog 32 #[.int .i64 k, .int .i64 (n : Int)] w fun e w' => ∃ i : Nat, i < n ∧ e = .returned (.int .i64 (i : Int)) ∧ w' = w := by
  have b1 : k.tmod n < n := Int.tmod_lt_of_pos k (by omega)
  have b2 : -(n : Int) < k.tmod n := Int.lt_tmod_of_pos k (by omega)
  have hn0 : ¬ ((n : Int) = 0) := by omega
  have hn1 : ¬ ((n : Int) < 1) := by omega
  have hw : IntKind.i64.wrap (k.tmod n) = k.tmod n := by rw [IntKind.wrap_i64]; omega
  by_cases h0 : k.tmod n < 0
  · have hw2 : IntKind.i64.wrap (k.tmod n + n) = k.tmod n + n := by rw [IntKind.wrap_i64]; omega
    go_enter Try.func32, Try.ntmps32
    go_wp2
    go_ret
    exact ⟨(k.tmod n + n).toNat, by omega, by show Ending.returned (Value.int IntKind.i64 (k.tmod n + n)) = _; rw [Int.toNat_of_nonneg (by omega)], rfl⟩
  · go_enter Try.func32, Try.ntmps32
    go_wp2
    go_ret
    exact ⟨(k.tmod n).toNat, by omega, by show Ending.returned (Value.int IntKind.i64 (k.tmod n)) = _; rw [Int.toNat_of_nonneg (by omega)], rfl⟩
/-- A list of one cell an element, from lo on. -/
theorem cut_one {P : Program} {T e : TypeId} (hu : P.underlying T = some (.slice e)) (hs : (P.info? e).map (·.size) = some 1) (a : Option Addr) (n cap lo : Nat) (hl : lo ≤ n) (hc : n ≤ cap) (hn : a = none → cap = 0) :
    ∃ a', (∀ w, (Instr.sliceAt T (.slice a n cap) (some (.int .i64 (lo : Int))) none none).run P w = .ok (.slice a' (n - lo) (cap - lo)) w) ∧ (a' = none → cap - lo = 0) ∧ ∀ k, k < n - lo → adOf a' k = adOf a (lo + k) := by
  cases a with
  | none =>
    have := hn rfl
    subst this
    obtain rfl : n = 0 := by omega
    obtain rfl : lo = 0 := by omega
    exact ⟨none, fun w => by simp [Instr.sliceAt, Instr.slice, run_underlying hu, sizeOf_run hs, go_sem], fun _ => rfl, fun k hk => absurd hk (by omega)⟩
  | some x =>
    by_cases hz : cap = lo
    · refine ⟨some x, fun w => ?_, (fun h => by cases h), fun k hk => absurd hk (by omega)⟩
      have hz2 : cap - lo = 0 := by omega
      simp [Instr.sliceAt, Instr.slice, run_underlying hu, sizeOf_run hs, go_sem, hl, hz2]
      exact fun h => absurd hz h
    · refine ⟨some (x.add lo), fun w => ?_, (fun h => by cases h), fun k hk => ?_⟩
      · simp [Instr.sliceAt, Instr.slice, run_underlying hu, sizeOf_run hs, go_sem, hl]
        exact fun h => absurd h hz
      · simp only [adOf]; rw [add_add]
theorem zN_drop (zs : List Int) (k : Nat) : zN (zs.drop k) = (zN zs).drop k := by simp [zN]
theorem cut_vals {zs : List Int} {ts : List Tk} {k : Nat} {bs cs : List Bool} (hk : k ≤ zs.length) (hl : lookE ts 1 = 0) (hb : ValB (zN zs) ts bs) (hc : ValB (zN (zs.drop k)) ts cs) : bs.drop k = cs := by
  obtain ⟨T, hT, rfl, _, _⟩ := Mn.of (zN zs) hl
  have h1 := cl_tree (zN zs) T hT
  have h2 := cl_tree (zN (zs.drop k)) T hT
  have hn := zN_len zs
  have hn2 := zN_len (zs.drop k)
  rw [List.length_drop] at hn2
  refine List.ext_getElem (by rw [List.length_drop, hb.1, hc.1]; omega) fun i i1 i2 => ?_
  have hi : i + k ≤ (zN zs).length := by rw [hc.1] at i2; omega
  have e1 := hb.2 _ h1 (i + k) (by rw [hb.1]; omega)
  have e2 := hc.2 _ h2 i i2
  have e3 := (cut_sem (zN zs) k (by omega) T hT i hi).1
  rw [zN_drop] at e2
  rw [List.getElem_drop]
  have e4 : bs[k + i]'(by rw [hb.1]; omega) = true ↔ cs[i] = true := by
    have : bs[k + i]'(by rw [hb.1]; omega) = bs[i + k]'(by rw [hb.1]; omega) := by congr 1; omega
    rw [this, e1, e2, e3]
  cases ha : bs[k + i]'(by rw [hb.1]; omega) <;> cases hb2 : cs[i] <;> simp_all
theorem trE_small {zs : List Int} (h : zs.length ≤ 1024) : trE zs = 0 := by unfold trE; rw [if_neg (by omega)]
theorem LtSl.cut {w : World} {a : Option Addr} {len cap : Nat} {zs : List Int} (h : LtSl w a len cap zs) (lo : Nat) (hl : lo ≤ len) :
    ∃ a', (∀ w', (Instr.sliceAt 23 (.slice a len cap) (some (.int .i64 (lo : Int))) none none).run Try.prog w' = .ok (.slice a' (len - lo) (cap - lo)) w') ∧ LtSl w a' (len - lo) (cap - lo) (zs.drop lo) := by
  obtain ⟨a', h1, h2, h3⟩ := cut_one (P := Try.prog) (T := 23) Try.underlying23 (by kernel_rfl) a len cap lo hl h.sl.hcap h.sl.nn
  have hz := h.sl.hlen
  refine ⟨a', h1, ⟨⟨by simp [hz], by have := h.sl.hcap; omega, by have := h.sl.bd; omega, fun n k w' hk hn => ?_, fun k hk => ?_, fun k hk => ?_, h2⟩, fun z hz => h.ok z (List.mem_of_mem_drop hz)⟩⟩
  · exact idx_of Try.underlying23 (by kernel_rfl) (fun e => by have := h2 e; have := h.sl.hcap; omega) k w' hk
  · rw [h3 k hk, h.sl.cell (lo + k) (by omega)]
    simp [List.getD_eq_getElem?_getD]
  · rw [h3 k hk]; exact h.sl.blk (lo + k) (by omega)
theorem BoSl.cut {w : World} {a : Option Addr} {len cap : Nat} {bs : List Bool} (h : BoSl w a len cap bs) (lo : Nat) (hl : lo ≤ len) :
    ∃ a', (∀ w', (Instr.sliceAt 27 (.slice a len cap) (some (.int .i64 (lo : Int))) none none).run Try.prog w' = .ok (.slice a' (len - lo) (cap - lo)) w') ∧ BoSl w a' (len - lo) (cap - lo) (bs.drop lo) := by
  obtain ⟨a', h1, h2, h3⟩ := cut_one (P := Try.prog) (T := 27) Try.underlying27 Try.sizeBo a len cap lo hl h.hcap h.nn
  have hz := h.hlen
  refine ⟨a', h1, ⟨by simp [hz], by have := h.hcap; omega, by have := h.bd; omega, h2, fun x hx k hk => ?_⟩⟩
  have hk' : k < len - lo := by simp at hk; omega
  obtain ⟨y, rfl⟩ := h.some_of (by omega)
  have e := h3 k hk'
  subst hx
  simp only [adOf] at e
  rw [e, h.c y rfl (lo + k) (by omega), List.getElem_drop]
set_option maxRecDepth 100000 in
set_option maxHeartbeats 2000000 in
theorem Try.mcut_any (hAll : AllC 11) (hAw : ∀ w, Calls Try.prog 24 #[] w fun e w' => e = .returned (.bool true) ∧ Below w.heap.size w w')
    (a : Option Addr) (la ca : Nat) (xs : List Tk) (d : Option Addr) (m c : Nat) (zs : List Int) (i : Int) (w : World) (hA : TkSl w a la ca xs) (hL : LtSl w d m c zs) :
    Calls Try.prog 6 #[.slice a la ca, .slice d m c, .int .i64 i] w fun e w' => e = .returned (.bool true) ∧ Below w.heap.size w w' := by
  have h0 := hAw w
  have hs1 := fun w' (hw : Below w.heap.size w w') => Try.msmall_any a la ca xs d m c zs w' (hA.up hw) (hL.up hw)
  have hlen := hL.sl.hlen
  by_cases c1 : la ≤ 30 ∧ m ≤ 16 ∧ lookE xs 1 = 0
  · have hm : m ≤ 16 := c1.2.1
    have HLK : Hid (lookE xs 1 = 0) := c1.2.2
    have hp := fun w' => Try.mpick_any i (m + 1) w' (by omega) (by omega)
    have h1 := fun w' (hw : Below w.heap.size w w') => hAll a la ca xs d m c zs w' (hA.up hw) (hL.up hw)
    have h2 := fun k (hk : k ≤ m) w' (hw : Below w.heap.size w w') => (hL.up hw).cut k hk
    have h3 := fun e n cp k w' (hw : Below w.heap.size w w') (hl : LtSl w' e n cp (zs.drop k)) => hAll a la ca xs e n cp (zs.drop k) w' (hA.up hw) hl
    rw [decide_eq_true c1] at hs1
    clear hA hL hAll hAw c1
    go_enter Try.func6, Try.ntmps6
    go_wp2_with fail
    refine h0.mono ?_
    rintro e w1 ⟨rfl, hb1⟩
    have HB1 : Hid (Below w.heap.size w w1) := hb1
    have j1 := hs1 w1 hb1
    clear h0 hs1 hb1
    go_wp2_with fail
    refine j1.mono ?_
    rintro e w2 ⟨rfl, hb2⟩
    have HB2 : Hid (Below w.heap.size w w2) := below_step HB1.out hb2
    have hwm : IntKind.i64.wrap ((m : Int) + 1) = ((m + 1 : Nat) : Int) := by rw [IntKind.wrap_i64]; omega
    have hp2 : Calls Try.prog 32 #[.int .i64 i, .int .i64 ((m : Int) + 1)] w2 _ := hp w2
    clear j1 hb2 hp
    go_wp2_with fail
    refine hp2.mono ?_
    rintro e w3 ⟨k, hk, rfl, hw3⟩
    obtain rfl := hw3.symm
    have j2 := h1 w2 HB2.out
    clear hp2 h1
    go_wp2_with fail
    refine j2.mono ?_
    rintro e w4 ⟨v4, E4, rfl, hb4, hr4⟩
    have HB4 : Hid (Below w.heap.size w w4) := below_step HB2.out hb4
    obtain ⟨e5, hsl5, hlt5⟩ := h2 k (by omega) w4 HB4.out
    have j3 := h3 e5 (m - k) (c - k) k w4 HB4.out hlt5
    rcases hr4 with ⟨q4, hq4, _⟩ | ⟨rfl, l4, t4, bs, ho4, hv4⟩
    · exfalso
      rcases hq4 with ⟨hq, _⟩ | ⟨_, hq⟩
      · exact hq HLK.out
      · rw [trE_small (by omega)] at hq; exact q4 hq
    · obtain ⟨a4, c4, rfl, hS4⟩ := own_bo ho4
      have hbl : bs.length = m + 1 := by rw [hv4.1, zN_len, hlen]
      clear j2 h2 h3 hlt5 ho4
      go_wp2_with fail
      refine j3.mono ?_
      rintro e w6 ⟨v6, E6, rfl, hb6, hr6⟩
      have HB6 : Hid (Below w.heap.size w w6) := below_step HB4.out hb6
      rcases hr6 with ⟨q6, hq6, _⟩ | ⟨rfl, l6, t6, cs, ho6, hv6⟩
      · exfalso
        rcases hq6 with ⟨hq, _⟩ | ⟨_, hq⟩
        · exact hq HLK.out
        · rw [trE_small (by simp; omega)] at hq; exact q6 hq
      · obtain ⟨a6, c6, rfl, hS6⟩ := own_bo ho6
        obtain ⟨a7, hsl7, hS7⟩ := (hS4.up hb6).cut k (by omega)
        have hcut : bs.drop k = cs := cut_vals (by omega) HLK.out hv4 hv6
        have j4 := Try.sameB_any _ _ _ _ _ _ _ _ w6 hS7 hS6
        rw [decide_eq_true hcut] at j4
        rw [hbl] at j4 hsl7
        clear j3 hb4 hb6 ho6 hS4 hS6 hS7 hcut hv4 hv6 hsl5
        go_wp2_with fail
        refine j4.mono ?_
        rintro e w8 ⟨rfl, hb8⟩
        have HB8 : Hid (Below w.heap.size w w8) := below_step HB6.out hb8
        clear j4 hb8
        go_wp2
        go_ret
        exact ⟨rfl, HB8.out⟩
  · rw [decide_eq_false c1] at hs1
    clear c1 hA hL hAll hAw
    go_enter Try.func6, Try.ntmps6
    go_wp2_with fail
    refine h0.mono ?_
    rintro e w1 ⟨rfl, hb1⟩
    have j1 := hs1 w1 hb1
    have HB1 : Hid (Below w.heap.size w w1) := hb1
    clear h0 hs1 hb1
    go_wp2_with fail
    refine j1.mono ?_
    rintro e w2 ⟨rfl, hb2⟩
    have HB2 : Hid (Below w.heap.size w w2) := below_step HB1.out hb2
    clear j1 hb2
    go_wp2
    go_ret
    exact ⟨rfl, HB2.out⟩
end Go.Proofs.Ytfojlondflachaa
