/- Package kernel: inFewWords. -/
import Derived.Test.YtbfhbpibpmgblaaWKc1
namespace Go.Proofs.Ytbfhbpibpmgblaa
open Go.RowKit Go.Maps

theorem few_next {ts : List Tk} {k : Nat} (h : k < ts.length) (hp : fewL false (ts.take k) = true) : fewL false (ts.take (k + 1)) = fewAt (lastP false (ts.take k)) ts[k].1 ts[k].2 := by
  rw [List.take_add_one, List.getElem?_eq_getElem h]
  show fewL false (ts.take k ++ [ts[k]]) = _
  rw [fewL_app, hp, fewL_one, Bool.true_and]
theorem few_off {ts : List Tk} {k : Nat} (h : fewL false (ts.take k) = false) : fewL false ts = false := by
  have : fewL false (ts.take k ++ ts.drop k) = false := by rw [fewL_app, h, Bool.false_and]
  rwa [List.take_append_drop] at this
theorem last_at {ts : List Tk} {k : Nat} (h : k + 1 ≤ ts.length) : lastP false (ts.take (k + 1)) = decide ((ts[k]'(by omega)).1 = 2) := by
  rw [List.take_add_one, List.getElem?_eq_getElem (by omega)]
  show lastP false (ts.take k ++ [ts[k]]) = _
  rw [lastP_snoc]
theorem few_a {b : Bool} {op p : Nat} (h : op ≠ 2) (h3 : op ≠ 3) (h9 : op ≠ 9) (h10 : op ≠ 10) (h13 : op ≠ 13) (h14 : op ≠ 14) (h6 : op = 6 → b = true) : fewAt b op p = (decide (op ≤ 23) && decide (p = 0)) := by
  unfold fewAt
  rw [if_neg h, if_neg (by omega), if_neg]
  rintro ⟨e, e'⟩
  rw [h6 e] at e'
  cases e'
set_option maxRecDepth 100000 in
set_option maxHeartbeats 8000000 in
theorem Try.kfew_any (a : Option Addr) (len cap : Nat) (ts : List Tk) (w : World) (hT : TkSl w a len cap ts) (hln : len ≤ 1000000) :
    Calls Try.prog 38 #[.slice a len cap] w fun e w' => e = .returned (.bool (fewL false ts)) ∧ Below w.heap.size w w' := by
  have hlen := hT.hlen
  have HT : Hid (TkSl w a len cap ts) := hT
  have HLEN : Hid (ts.length = len) := hlen
  clear hT hlen
  go_enter Try.func38, Try.ntmps38
  go_wp2
  go_loopw [7] (fun i wr => ∃ k : Nat, k ≤ len ∧ i = .int .i64 k ∧ Hid (fewL false (ts.take k) = true) ∧ Hid (Below w.heap.size w wr)) (fun i _ => len - (intOf i).toNat)
  case atStart => exact ⟨0, Nat.zero_le _, rfl, rfl, Below.refl _ _⟩
  case round =>
    obtain ⟨k, hk, rfl, HF, HW⟩ := hrel
    by_cases hlt : k < len
    · have hxl : k < ts.length := by have := HLEN.out; omega
      obtain ⟨g1, o1, s1, hi1, hx0, hx1, hg1, _⟩ := (HT.out.up HW.out).at Try.underlying29 Try.sizeTok k hlt
      have hidx := fun w' => hi1 len w' hlt
      clear hi1
      have HNX : Hid (fewL false (ts.take (k + 1)) = fewAt (lastP false (ts.take k)) ts[k].1 ts[k].2) := few_next hxl HF.out
      have HOFF : Hid (fewL false (ts.take (k + 1)) = false → fewL false ts = false) := fun h => few_off h
      have hpv : k = 0 ∨ ∃ j, j + 1 = k ∧ ∃ (g2 o2 : Nat) (s2 : _) (q : Nat), (∀ w', (Instr.indexAt 29 (.slice a len cap) (.int .i64 (j : Int))).run Try.prog w' = .ok (.pointer (some ⟨g2, o2, s2⟩)) w') ∧ wr.cell? ⟨g2, o2, s2⟩ = some (.int .u8 (q : Int)) ∧ lastP false (ts.take k) = decide (q = 2) := by
        cases k with
        | zero => exact Or.inl rfl
        | succ j =>
          obtain ⟨g2, o2, s2, hi2, hy0, _, _⟩ := (HT.out.up HW.out).at Try.underlying29 Try.sizeTok j (by omega)
          exact Or.inr ⟨j, rfl, g2, o2, s2, _, fun w' => hi2 len w' (by omega), hy0, last_at (by omega)⟩
      have HPV : Hid _ := hpv
      clear hpv
      have HB1 : Hid (Below w.heap.size w (wr.alloc (.cells #[.int .u8 (ts[k].1 : Int), .int .u8 (ts[k].2 : Int)] 61))) := below_step HW.out (below_new _ _)
      generalize ts[k] = q at *
      obtain ⟨op, p⟩ := q
      dsimp only at hx0 hx1 HNX HB1
      by_cases e2 : op = 2
      · subst e2
        clear HPV
        have HNX2 : Hid (fewL false (ts.take (k + 1)) = decide (p < 8)) := HNX.out
        clear HNX
        by_cases hp : p < 8
        · have HZ : Hid (fewL false (ts.take (k + 1)) = true) := HNX2.out.trans (decide_eq_true hp)
          have q8 : ¬ (8 : Int) ≤ (p : Int) := by omega
          go_wp2
          go_roundw
          case rel => exact ⟨k + 1, by omega, by go_num, HZ, HB1⟩
          case measure => simp [intOf] <;> omega
        · have HZ : Hid (fewL false (ts.take (k + 1)) = false) := HNX2.out.trans (decide_eq_false hp)
          have q8 : (8 : Int) ≤ (p : Int) := by omega
          go_wp2
          go_ret
          exact ⟨by rw [HOFF.out HZ.out]; rfl, HB1.out⟩
      have q2 : ((op : Int) == 2) = false := by rw [beq_eq_false_iff_ne]; omega
      by_cases e3 : op = 3
      · subst e3
        have HZ : Hid (fewL false (ts.take (k + 1)) = false) := HNX.out
        clear HPV HNX q2
        go_wp2
        go_ret
        exact ⟨by rw [HOFF.out HZ.out]; rfl, HB1.out⟩
      by_cases e9 : op = 9
      · subst e9
        have HZ : Hid (fewL false (ts.take (k + 1)) = false) := HNX.out
        clear HPV HNX q2
        go_wp2
        go_ret
        exact ⟨by rw [HOFF.out HZ.out]; rfl, HB1.out⟩
      by_cases e10 : op = 10
      · subst e10
        have HZ : Hid (fewL false (ts.take (k + 1)) = false) := HNX.out
        clear HPV HNX q2
        go_wp2
        go_ret
        exact ⟨by rw [HOFF.out HZ.out]; rfl, HB1.out⟩
      by_cases e13 : op = 13
      · subst e13
        have HZ : Hid (fewL false (ts.take (k + 1)) = false) := HNX.out
        clear HPV HNX q2
        go_wp2
        go_ret
        exact ⟨by rw [HOFF.out HZ.out]; rfl, HB1.out⟩
      by_cases e14 : op = 14
      · subst e14
        have HZ : Hid (fewL false (ts.take (k + 1)) = false) := HNX.out
        clear HPV HNX q2
        go_wp2
        go_ret
        exact ⟨by rw [HOFF.out HZ.out]; rfl, HB1.out⟩
      have q3 : ((op : Int) == 3) = false := by rw [beq_eq_false_iff_ne]; omega
      have q9 : ((op : Int) == 9) = false := by rw [beq_eq_false_iff_ne]; omega
      have q10 : ((op : Int) == 10) = false := by rw [beq_eq_false_iff_ne]; omega
      have q13 : ((op : Int) == 13) = false := by rw [beq_eq_false_iff_ne]; omega
      have q14 : ((op : Int) == 14) = false := by rw [beq_eq_false_iff_ne]; omega
      by_cases e6 : op = 6
      · subst e6
        clear q2 q3 q9 q10 q13 q14
        rcases HPV.out with hk0 | ⟨j, hjk, g2, o2, s2, q, hj, hc, hl⟩
        · have HZ : Hid (fewL false (ts.take (k + 1)) = false) := by show _ = _; rw [HNX.out, hk0]; rfl
          have hn0 : ((k : Int) == 0) = true := by rw [beq_iff_eq]; omega
          clear hk0
          clear HPV HNX
          go_wp2
          go_ret
          exact ⟨by rw [HOFF.out HZ.out]; rfl, HB1.out⟩
        · have hsub : IntKind.i64.wrap ((k : Int) - 1) = (j : Int) := by rw [IntKind.wrap_i64]; omega
          have hn0 : ((k : Int) == 0) = false := by rw [beq_eq_false_iff_ne]; omega
          have HL : Hid _ := hl
          clear hl HPV
          have hcA : ∀ o, (wr.alloc o).cell? ⟨g2, o2, s2⟩ = some (.int .u8 (q : Int)) := fun o => kept_cell hc (below_new _ _)
          by_cases hq : q = 2
          · subst hq
            have hfa := few_a (b := true) (op := 6) (p := p) (by decide) (by decide) (by decide) (by decide) (by decide) (by decide) (fun _ => rfl)
            have HNX2 : Hid (fewL false (ts.take (k + 1)) = decide (p = 0)) := by show _ = _; rw [HNX.out, HL.out]; exact hfa
            clear HNX hfa HL
            by_cases hp : p = 0
            · subst hp
              have HZ : Hid (fewL false (ts.take (k + 1)) = true) := HNX2.out
              go_wp2
              go_roundw
              case rel => exact ⟨k + 1, by omega, by go_num, HZ, HB1⟩
              case measure => simp [intOf] <;> omega
            · have HZ : Hid (fewL false (ts.take (k + 1)) = false) := HNX2.out.trans (decide_eq_false hp)
              have q0 : ((p : Int) == 0) = false := by rw [beq_eq_false_iff_ne]; omega
              have q0n : ((p : Int) != 0) = true := by rw [bne_iff_ne]; omega
              go_wp2
              go_ret
              exact ⟨by rw [HOFF.out HZ.out]; rfl, HB1.out⟩
          · have HZ : Hid (fewL false (ts.take (k + 1)) = false) := by show _ = _; rw [HNX.out, HL.out, decide_eq_false hq]; rfl
            have qq : ((q : Int) == 2) = false := by rw [beq_eq_false_iff_ne]; omega
            have qqn : ((q : Int) != 2) = true := by rw [bne_iff_ne]; omega
            clear HNX HL
            go_wp2
            go_ret
            exact ⟨by rw [HOFF.out HZ.out]; rfl, HB1.out⟩
      have q6 : ((op : Int) == 6) = false := by rw [beq_eq_false_iff_ne]; omega
      have HNX2 : Hid (fewL false (ts.take (k + 1)) = (decide (op ≤ 23) && decide (p = 0))) := HNX.out.trans (few_a e2 e3 e9 e10 e13 e14 (fun h => absurd h e6))
      clear HNX HPV
      by_cases h23 : op ≤ 23
      · have q23 : ¬ (23 : Int) < (op : Int) := by omega
        by_cases hp : p = 0
        · subst hp
          have HZ : Hid (fewL false (ts.take (k + 1)) = true) := by show _ = _; rw [HNX2.out, decide_eq_true h23]; rfl
          go_wp2
          go_roundw
          case rel => exact ⟨k + 1, by omega, by go_num, HZ, HB1⟩
          case measure => simp [intOf] <;> omega
        · have HZ : Hid (fewL false (ts.take (k + 1)) = false) := by show _ = _; rw [HNX2.out, decide_eq_false hp, Bool.and_false]
          have q0 : ((p : Int) == 0) = false := by rw [beq_eq_false_iff_ne]; omega
          have q0n : ((p : Int) != 0) = true := by rw [bne_iff_ne]; omega
          go_wp2
          go_ret
          exact ⟨by rw [HOFF.out HZ.out]; rfl, HB1.out⟩
      · have q23 : (23 : Int) < (op : Int) := by omega
        have HZ : Hid (fewL false (ts.take (k + 1)) = false) := by show _ = _; rw [HNX2.out, decide_eq_false h23]; rfl
        go_wp2
        go_ret
        exact ⟨by rw [HOFF.out HZ.out]; rfl, HB1.out⟩
    · obtain rfl : k = len := by omega
      have HZ : Hid (fewL false ts = true) := by
        show _ = _
        have := HF.out
        rwa [List.take_of_length_le (by have := HLEN.out; omega)] at this
      go_wp2
      go_ret
      exact ⟨by rw [HZ.out]; rfl, HW.out⟩
end Go.Proofs.Ytbfhbpibpmgblaa
