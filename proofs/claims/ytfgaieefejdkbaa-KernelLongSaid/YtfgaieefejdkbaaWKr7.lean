/- The document's kernel: word, Check. -/
import Derived.Test.YtfgaieefejdkbaaWKr5
import Derived.Test.YtfgaieefejdkbaaWTok6
import Derived.Test.YtfgaieefejdkbaaWTok8
namespace Go.Proofs.Ytfgaieefejdkbaa
open Go.RowKit Go.Maps

def wordAt (b : Bool) (op : Nat) : Bool := if op = 3 ∨ op = 9 ∨ op = 10 ∨ op = 13 ∨ op = 14 then false else if op = 6 then b else true
theorem few_word {q : Tk} {m : Nat} (h : takesN q = some m) (b : Bool) : fewAt b q.1 q.2 = wordAt b q.1 := by
  obtain ⟨op, p⟩ := q
  have h1 : ¬ (23 < op ∨ (op ≠ 2 ∧ p ≠ 0) ∨ (op = 2 ∧ 7 < p)) := by
    unfold takesN at h
    dsimp only at h
    split at h
    · cases h
    · assumption
  show fewAt b op p = wordAt b op
  unfold fewAt wordAt
  by_cases e2 : op = 2
  · subst e2
    rw [if_pos rfl, if_neg (by omega), if_neg (by omega)]
    simp; omega
  · rw [if_neg e2]
    by_cases e3 : op = 3 ∨ op = 9 ∨ op = 10 ∨ op = 13 ∨ op = 14
    · rw [if_pos e3, if_pos e3]
    · rw [if_neg e3, if_neg e3]
      by_cases e6 : op = 6
      · cases b with
        | false => rw [if_pos ⟨e6, rfl⟩, if_pos e6]
        | true => rw [if_neg (fun h => by cases h.2), if_pos e6]; simp; omega
      · rw [if_neg (fun h => e6 h.1), if_neg e6]; simp; omega
set_option maxRecDepth 100000 in
set_option maxHeartbeats 4000000 in
theorem Try.rword_any (a : Option Addr) (len cap : Nat) (ts : List Tk) (i : Nat) (w : World) (hT : TkSl w a len cap ts) (hi : i < len) (hln : len ≤ 1000000) (hx : i < ts.length) :
    Calls Try.prog 37 #[.slice a len cap, .int .i64 (i : Int)] w fun e w' => e = .returned (.bool (wordAt (lastP false (ts.take i)) ts[i].1)) ∧ w' = w := by
  obtain ⟨g1, o1, s1, hi1, hx0, hx1, hg1, hx2⟩ := hT.at Try.underlying22 Try.sizeTok i hi
  have hidx := fun w' => hi1 len w' hi
  clear hi1 hx1 hx2
  have hlen := hT.hlen
  have hpv : i = 0 ∨ ∃ j, j + 1 = i ∧ ∃ (g2 o2 : Nat) (s2 : _) (q : Nat), (∀ w', (Instr.indexAt 22 (.slice a len cap) (.int .i64 (j : Int))).run Try.prog w' = .ok (.pointer (some ⟨g2, o2, s2⟩)) w') ∧ w.cell? ⟨g2, o2, s2⟩ = some (.int .u8 (q : Int)) ∧ lastP false (ts.take i) = decide (q = 2) := by
    cases i with
    | zero => exact Or.inl rfl
    | succ j =>
      obtain ⟨g2, o2, s2, hi2, hy0, _, _⟩ := hT.at Try.underlying22 Try.sizeTok j (by omega)
      exact Or.inr ⟨j, rfl, g2, o2, s2, _, fun w' => hi2 len w' (by omega), hy0, last_at (by omega)⟩
  have HL : Hid (i = 0 → lastP false (ts.take i) = false) := fun h => by subst h; rfl
  generalize lastP false (ts.take i) = bp at *
  generalize ts[i].1 = op at *
  by_cases e3 : op = 3 ∨ op = 9 ∨ op = 10 ∨ op = 13 ∨ op = 14
  · have HZ : Hid (wordAt bp op = false) := if_pos e3
    clear hpv hT hlen
    rcases e3 with rfl | rfl | rfl | rfl | rfl <;>
    · go_enter Try.func37, Try.ntmps37
      go_wp2
      go_ret
      exact ⟨by rw [HZ.out]; rfl, rfl⟩
  by_cases e6 : op = 6
  · subst e6
    have HZ : Hid (wordAt bp 6 = bp) := rfl
    rcases hpv with h0 | ⟨j, hj, g2, o2, s2, q, hi2, hq, hl⟩
    · have hbp : bp = false := HL.out h0
      have hg : decide ((0 : Int) < (i : Int)) = false := decide_eq_false (by omega)
      have hg' : decide (0 < i) = false := decide_eq_false (by omega)
      have HBP : Hid _ := hbp
      clear hT hlen h0 hbp
      go_enter Try.func37, Try.ntmps37
      go_wp2
      go_ret
      exact ⟨by rw [HZ.out, HBP.out]; rfl, rfl⟩
    · have hg : (0 : Int) < (i : Int) := by omega
      have hsub : IntKind.i64.wrap ((i : Int) - 1) = (j : Int) := by rw [IntKind.wrap_i64]; omega
      have hqe : ((q : Int) == 2) = decide (q = 2) := cast_beq q 2
      have HBP : Hid _ := hl
      clear hT hlen hl hj
      generalize decide (q = 2) = qb at *
      go_enter Try.func37, Try.ntmps37
      go_wp2
      go_ret
      exact ⟨by rw [HZ.out, HBP.out]; rfl, rfl⟩
  · have HZ : Hid (wordAt bp op = true) := by show _ = _; unfold wordAt; rw [if_neg e3, if_neg e6]
    have q3 : ((op : Int) == 3) = false := by rw [beq_eq_false_iff_ne]; omega
    have q9 : ((op : Int) == 9) = false := by rw [beq_eq_false_iff_ne]; omega
    have q10 : ((op : Int) == 10) = false := by rw [beq_eq_false_iff_ne]; omega
    have q13 : ((op : Int) == 13) = false := by rw [beq_eq_false_iff_ne]; omega
    have q14 : ((op : Int) == 14) = false := by rw [beq_eq_false_iff_ne]; omega
    have q6 : ((op : Int) == 6) = false := by rw [beq_eq_false_iff_ne]; omega
    clear hpv hT hlen
    go_enter Try.func37, Try.ntmps37
    go_wp2
    go_ret
    exact ⟨by rw [HZ.out]; rfl, rfl⟩
theorem pt_first {w : World} {base n : Nat} {a : Option Addr} {cap : Nat} {q : Pt} {r : List Pt} (h : w.ownsRow base 65 4 (.slice a n cap) n (encP (q :: r))) (hn : 0 < n) :
    ∃ g, (∀ w', (Instr.indexAt 61 (.slice a n cap) (.int .i64 0)).run Try.prog w' = .ok (.pointer (some ⟨g, 0, none⟩)) w') ∧ w.cell? ⟨g, 0, none⟩ = some (.bool q.path) := by
  rcases h.2 with ⟨e, e0⟩ | ⟨g, cap', cur, e, _, hcell, hnc, hcm, hsz, htk⟩
  · omega
  · injection e with e1 _ e3
    subst e1 e3
    refine ⟨g, fun w' => ?_, ?_⟩
    · simp [Instr.indexAt, run_underlying Try.underlying61, asIntOf, sizeOf_runN Try.sizePart, hn, Result.andThen, go_sem]
    · have : (cur.toList.take (n * 4))[0]? = some (.bool q.path) := by rw [htk]; rfl
      rw [List.getElem?_take, if_pos (by omega)] at this
      rw [cell_row hcell]
      simpa using this
theorem notKer {ts : List Tk} (h : ∀ all p, readP ts 0 [] = some (all, [p]) → p.path = true) : ¬ IsKer ts := by
  rintro ⟨T, hW, hp, _, rfl⟩
  have := h _ _ (read_one.2 ⟨T, hW, rfl, rfl, rfl⟩)
  unfold pathT at hp
  rw [hp] at this
  cases this
set_option maxRecDepth 100000 in
set_option maxHeartbeats 4000000 in
theorem Try.rchk_any : ChkC 18 := by
  intro a len cap ts w hT
  have hlen := hT.hlen
  by_cases hl : 2048 < len
  · have HC : Hid (chkE ts = 3) := by show _ = _; unfold chkE; rw [if_pos (by omega)]
    have hl' : (2048 : Int) < (len : Int) := by omega
    clear hT hlen
    go_enter Try.func18, Try.ntmps18
    go_wp2
    go_ret
    exact ⟨by rw [HC.out]; rfl, Below.refl _ _⟩
  · have hl' : ¬ (2048 : Int) < (len : Int) := by omega
    have hr := Try.Read_any a len cap ts w hT (by omega)
    have HT : Hid _ := hT
    have HLEN : Hid (ts.length = len) := hlen
    have H7 : Hid (¬ IsKer ts → chkE ts = 7) := fun h => chk_form (by omega) h
    have H0 : Hid (IsKer ts → chkE ts = 0) := fun h => chk_zero.2 ⟨by omega, h⟩
    cases hR : readP ts 0 [] with
    | none =>
      have HC : Hid (chkE ts = 7) := H7.out (notKer fun all p h => by rw [hR] at h; cases h)
      rw [hR] at hr
      clear hT hlen
      go_enter Try.func18, Try.ntmps18
      go_wp2_with fail
      refine hr.mono ?_
      rintro e w1 ⟨h1, hb1⟩
      have h1 : e = _ := h1
      subst h1
      go_wp2
      go_ret
      exact ⟨by rw [HC.out]; rfl, hb1⟩
    | some x =>
      obtain ⟨all, st⟩ := x
      rw [hR] at hr
      have HR : Hid (readP ts 0 [] = some (all, st)) := hR
      by_cases hone : st.length = 1
      · obtain ⟨q, rfl⟩ := List.length_eq_one_iff.1 hone
        cases hq : q.path with
        | true =>
          have HC : Hid (chkE ts = 7) := H7.out (notKer fun all p h => by rw [hR] at h; injection h with h; injection h with _ h; injection h with h _; rw [← h]; exact hq)
          clear hT hlen hR hone
          go_enter Try.func18, Try.ntmps18
          go_wp2_with fail
          refine hr.mono ?_
          rintro e w1 ⟨⟨v1, v2, rfl, _, ho2⟩, hb1⟩
          obtain ⟨x2, d2, rfl, _⟩ := own_pre ho2 (Nat.le_refl _)
          have hget : ∃ g, (∀ w', (Instr.indexAt 61 (.slice x2 1 d2) (.int .i64 0)).run Try.prog w' = .ok (.pointer (some ⟨g, 0, none⟩)) w') ∧ w1.cell? ⟨g, 0, none⟩ = some (.bool q.path) := pt_first ho2 (by decide)
          obtain ⟨g2, hi2, c2⟩ := hget
          rw [hq] at c2
          clear ho2
          go_wp2
          go_ret
          exact ⟨by rw [HC.out]; rfl, hb1⟩
        | false =>
          obtain ⟨T, hW, hTs, _, hqe⟩ := read_one.1 hR
          have hpT : pathT T = false := by unfold pathT; rw [← hqe]; exact hq
          have HGG : Hid (GGood ts T) := by rw [hTs]; exact ggood hW (by rw [← hTs]; omega)
          have HKER : Hid (fewL false ts = true → IsKer ts) := fun h => ⟨T, hW, hpT, by rw [← (few_tree T hW false).1, ← hTs]; exact h, hTs⟩
          have HNOT : Hid (fewL false ts = false → chkE ts = 7) := fun h => H7.out fun hk => by rw [((isKer_iff ts).1 hk).1] at h; cases h
          clear hT hlen hR hone hTs hqe hW hpT
          go_enter Try.func18, Try.ntmps18
          go_wp2_with fail
          refine hr.mono ?_
          rintro e w1 ⟨⟨v1, v2, rfl, _, ho2⟩, hb1⟩
          obtain ⟨x2, d2, rfl, _⟩ := own_pre ho2 (Nat.le_refl _)
          have hget : ∃ g, (∀ w', (Instr.indexAt 61 (.slice x2 1 d2) (.int .i64 0)).run Try.prog w' = .ok (.pointer (some ⟨g, 0, none⟩)) w') ∧ w1.cell? ⟨g, 0, none⟩ = some (.bool q.path) := pt_first ho2 (by decide)
          obtain ⟨g2, hi2, c2⟩ := hget
          rw [hq] at c2
          have HT1 : Hid (TkSl w1 a len cap ts) := HT.out.up hb1
          have HB1 : Hid (Below w.heap.size w w1) := hb1
          clear ho2 hb1 hr
          go_wp2
          clear c2 hi2
          go_loopw [6] (fun i wr => ∃ k : Nat, k ≤ len ∧ i = .int .i64 k ∧ Hid (fewL false (ts.take k) = true) ∧ wr = w1) (fun i _ => len - (intOf i).toNat)
          case atStart => exact ⟨0, Nat.zero_le _, rfl, rfl, rfl⟩
          case round =>
            obtain ⟨k, hk, rfl, HF, rfl⟩ := hrel
            by_cases hlt : k < len
            · have hxl : k < ts.length := by have := HLEN.out; omega
              have hwd := Try.rword_any a len cap ts k _ HT1.out hlt (by omega) hxl
              obtain ⟨m, hm⟩ := (HGG.out.ok k hxl).1
              have HNX : Hid (fewL false (ts.take (k + 1)) = wordAt (lastP false (ts.take k)) ts[k].1) := (few_next hxl HF.out).trans (few_word hm _)
              clear hm
              generalize wordAt (lastP false (ts.take k)) ts[k].1 = bb at *
              have hwd := hwd.mono (fun e w' h => (And.intro h.1 h.2.symm : e = _ ∧ wr = w'))
              cases bb with
              | false =>
                have HC : Hid (chkE ts = 7) := HNOT.out (few_off HNX.out)
                go_wp2_with fail
                refine hwd.mono ?_
                rintro e w' ⟨rfl, rfl⟩
                go_wp2
                go_ret
                exact ⟨by rw [HC.out]; rfl, HB1.out⟩
              | true =>
                go_wp2_with fail
                refine hwd.mono ?_
                rintro e w' ⟨rfl, rfl⟩
                go_wp2
                go_roundw
                case rel => exact ⟨k + 1, by omega, by go_num, HNX, by first | rfl | trivial⟩
                case measure => simp [intOf] <;> omega
            · obtain rfl : k = len := by omega
              have HC : Hid (chkE ts = 0) := by
                have := HF.out
                rw [List.take_of_length_le (by have := HLEN.out; omega)] at this
                exact H0.out (HKER.out this)
              go_wp2
              go_ret
              exact ⟨by rw [HC.out]; rfl, HB1.out⟩
      · have HC : Hid (chkE ts = 7) := H7.out (notKer fun all' p h => by rw [hR] at h; injection h with h; injection h with _ h; rw [h] at hone; exact absurd rfl hone)
        have hne : ((st.length : Int) == 1) = false := by rw [beq_eq_false_iff_ne]; omega
        have hne2 : ((st.length : Int) != 1) = true := by rw [bne_iff_ne]; omega
        clear hT hlen hR hone
        go_enter Try.func18, Try.ntmps18
        go_wp2_with fail
        refine hr.mono ?_
        rintro e w1 ⟨⟨v1, v2, rfl, _, ho2⟩, hb1⟩
        obtain ⟨x2, d2, rfl, _⟩ := own_pre ho2 (Nat.le_refl _)
        dsimp only at ho2
        clear ho2
        go_wp2
        go_ret
        exact ⟨by rw [HC.out]; rfl, hb1⟩
end Go.Proofs.Ytfgaieefejdkbaa
