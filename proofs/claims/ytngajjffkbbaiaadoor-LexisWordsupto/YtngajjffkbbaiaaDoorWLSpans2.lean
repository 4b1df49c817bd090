/- LexisSpans, where the text has words. -/
import Derived.Test.YtngajjffkbbaiaaDoorWLSpans
namespace Go.Proofs.YtngajjffkbbaiaaDoor
open Go.RowKit Go.Maps

theorem same_at {m l : List Wd} (h : m.map same2 = l.map same2) {q : Nat} (hm : q < m.length) (hl : q < l.length) : m[q].so = l[q].so ∧ m[q].tx = l[q].tx := by
  have e := congrArg (fun x : List (Nat × ByteArray) => x[q]?) h
  simp only [List.getElem?_map, List.getElem?_eq_getElem hm, List.getElem?_eq_getElem hl, Option.map_some, same2] at e
  injection e with e
  injection e with e1 e2
  exact ⟨e1, e2⟩
theorem WBlk.lt {w : World} {g : Nat} {a : Int} {x : ByteArray} {b : Int} (h : WBlk w g a x b) : g < w.heap.size := (Array.getElem?_eq_some_iff.1 h).1
theorem WBlk.up {w w' : World} {g : Nat} {a : Int} {x : ByteArray} {b : Int} (h : WBlk w g a x b) (hb : Below w.heap.size w w') : WBlk w' g a x b := (hb.block g h.lt).trans h
theorem WBlk.c0 {w : World} {g : Nat} {a : Int} {x : ByteArray} {b : Int} (h : WBlk w g a x b) : w.cell? ⟨g, 0, none⟩ = some (.int .u8 a) := by unfold WBlk at h; simp [World.cell?, h]
theorem spans_next {s : Bytes} {l : List Wd} {k p : Nat} (hk : k < l.length) (h : Spans s p (l.drop k)) :
    ∃ q : Nat, l[k].pl = (q : Int) ∧ p ≤ q ∧ q + l[k].tx.toList.length ≤ s.length ∧ (s.drop q).take l[k].tx.toList.length = l[k].tx.toList ∧ blankL ((s.drop p).take (q - p)) = true ∧ WdGood l[k] ∧ Spans s (q + l[k].tx.toList.length) (l.drop (k + 1)) := by
  rw [List.drop_eq_getElem_cons hk] at h; exact h
set_option maxRecDepth 100000 in
set_option maxHeartbeats 4000000 in
theorem Tryd.lspans_ok (s : ByteArray) (w : World) (hT : Tab w) (h4 : s.size ≤ 4096) (l : List Wd) (hl : wordsL s.toList = (l, 0, 0)) (hSp : Spans s.toList 0 l) :
    Calls Tryd.prog 4 #[.string s] w fun e w' => e = .returned (.bool true) ∧ Below w.heap.size w w' := by
  have hA := Tryd.awake_any w hT
  have hW := fun w1 (hT1 : Tab w1) => Tryd.words_any s w1 hT1
  rw [hl] at hW
  have HT : Hid (Tab w) := hT
  have HSp : Hid (Spans s.toList 0 l) := hSp
  have HOk : Hid (∀ t ∈ l, t.Ok) := spans_ok (by rw [tl_len]; exact h4) hSp
  have hll : l.length ≤ 4096 := by have := spans_len hSp; rw [tl_len] at this; omega
  have HJ : Hid ((joinL (txs l)).length ≤ 8192) := by have := spans_join hSp; rw [tl_len] at this; show _ ≤ _; omega
  have HG : Hid (∀ t ∈ l, WdGood t) := spans_good hSp
  have hq := Tryd.neqFlt 0 0 0 0
  have hd : decide (((0 : Int), (0 : Int)) = ((0 : Int), (0 : Int))) = true := by decide
  rw [hd] at hq
  clear hd hl hT hSp
  go_enter Tryd.func4, Tryd.ntmps4
  go_wp2_with fail
  refine hA.mono ?_
  rintro e w1 ⟨rfl, hb1⟩
  have HB1 : Hid (Below w.heap.size w w1) := hb1
  have hW1 := hW w1 (HT.out.up hb1)
  clear hb1 hA hW
  go_wp2_with fail
  refine hW1.mono ?_
  rintro e w2 ⟨v, rfl, hown, hb2⟩
  obtain ⟨a1, c1, rfl, hS1, _⟩ := own_wd (ts := l) hown HOk.out
  have HB2 : Hid (Below w.heap.size w (w2.alloc (.cells #[.int .i64 0, .int .i64 0] 25))) := (below_step HB1.out hb2).alloc (below_step HB1.out hb2).size _
  have HS2 : Hid (WdSl (w2.alloc (.cells #[.int .i64 0, .int .i64 0] 25)) a1 l.length c1 l) := hS1.up (below_new _ _)
  have hc1 := hS1.hcap
  have hc2 := hS1.bd
  unfold maxLen at hc2
  clear hown hS1 hb2 hW1
  dsimp only
  generalize hlen : l.length = len at *
  have HL : Hid (l.length = len) := hlen
  clear hlen
  go_wp2
  generalize w2.alloc (.cells #[.int .i64 0, .int .i64 0] 25) = w3 at *
  go_loopw [6, 7] (fun at_ i wr => ∃ k p : Nat, k ≤ len ∧ i = .int .i64 k ∧ at_ = .int .i64 p ∧ p ≤ s.size ∧ Hid (Spans s.toList p (l.drop k)) ∧ Hid (Below w3.heap.size w3 wr)) (fun _ i _ => len - (intOf i).toNat)
  case atStart => exact ⟨0, 0, Nat.zero_le _, rfl, rfl, Nat.zero_le _, HSp.out, Below.refl _ _⟩
  case round =>
    obtain ⟨k, p, hk, rfl, rfl, hp, HU, HB⟩ := hrel
    by_cases hlt : k < len
    · have hkl : k < l.length := by have := HL.out; omega
      obtain ⟨q, e1, e2, e3, e4, e5, e6, e7⟩ := spans_next hkl HU.out
      have HU2 : Hid _ := e7
      obtain ⟨g, o, sh, hidx, hc0, hcc1, hcc2, hg, _⟩ := (HS2.out.up HB.out).at Tryd.underlying22 Tryd.sizeWd k hlt
      have hik := fun w => hidx len w hlt
      have hxs : l[k].tx.size ≤ maxLen := (HOk.out l[k] (List.getElem_mem hkl)).tx
      have hSo := fun (w' : World) (hT' : Tab w') => Tryd.sort_any l[k].tx w' hT' hxs
      rw [e6.2] at hSo
      rw [e1] at hcc2
      rw [tl_len, tl_len] at e3
      have HE4 : Hid (s.extract q (q + l[k].tx.size) = l[k].tx) := by
        show _ = _
        refine toList_inj ?_
        rw [ext_mid, ← tl_len]; exact e4
      have hBl := fun w' => Tryd.blank_any (s.extract p q) w' (by rw [← tl_len, ext_list, List.length_take, List.length_drop, tl_len]; omega)
      rw [ext_list, e5] at hBl
      clear hidx hxs e1 e4 e5 e6 e7 hg
      rw [tl_len] at HU2
      generalize l[k].so = so at *
      generalize l[k].tx = x at *
      generalize l[k].pl = pl at *
      have HV := WBlk.new wr (so : Int) x q
      have HBn : Hid (Below w3.heap.size w3 (wr.alloc (.cells #[.int .u8 (so : Int), .string x, .int .i64 (q : Int)] 33))) := HB.out.alloc HB.out.size _
      have hTn : Tab (wr.alloc (.cells #[.int .u8 (so : Int), .string x, .int .i64 (q : Int)] 33)) := Tab.up (w := w3) (Tab.up HT.out HB2.out) HBn.out
      have HVs : Hid (WBlk (wr.alloc (.cells #[.int .u8 (so : Int), .string x, .int .i64 (q : Int)] 33)) wr.heap.size (so : Int) x q) := HV
      have hSo1 := hSo _ hTn
      clear hSo HV hTn
      go_wp2_with fail
      refine hSo1.mono ?_
      rintro e w4 ⟨rfl, hb4⟩
      have hV4 := HVs.out.up hb4
      have HB4 : Hid (Below w3.heap.size w3 w4) := HBn.out.trans (hb4.mono HBn.out.size)
      have v0 := hV4.c0
      have v1 := hV4.c1
      have v2 := hV4.c2
      have hw1 : IntKind.i64.wrap ((q : Int) + (x.size : Int)) = ((q + x.size : Nat) : Int) := by rw [IntKind.wrap_i64] <;> omega
      have e4 : s.extract q (q + x.size) = x := HE4.out
      have d1 : decide ((q : Int) < (p : Int)) = false := by simp; omega
      have d2 : decide ((s.size : Int) < (q : Int) + (x.size : Int)) = false := by simp; omega
      have b1 : (q : Int) ≤ (q : Int) + (x.size : Int) := by omega
      have b2 : (q : Int) + (x.size : Int) ≤ (s.size : Int) := by omega
      have b3 : (p : Int) ≤ (q : Int) := by omega
      have b4 : (q : Int) ≤ (s.size : Int) := by omega
      have b5 : ((q : Int) + (x.size : Int)).toNat = q + x.size := by omega
      clear hSo1 hb4 hV4
      go_wp2
      go_quiet ((go_at_call 16; exact Calls.quiet_of_same (hBl _)))
      go_wp2
      go_roundw
      case rel => exact ⟨k + 1, q + x.size, by omega, by go_num, by go_num, by omega, HU2, below_drewN HB4.out nq⟩
      case measure => simp [intOf]; omega
    · obtain rfl : k = len := by omega
      have hu := HU.out
      rw [List.drop_of_length_le (by have := HL.out; omega)] at hu
      have hBl := Tryd.blank_any (s.extract p s.size) wr (by rw [ext_size]; omega)
      rw [extE, hu.2] at hBl
      have hJo := Tryd.join_any a1 k c1 l wr (HS2.out.up HB.out) (by have := HJ.out; omega)
      have HZ : Hid ((mkB (joinL (txs l))).size ≤ 8192) := by show _ ≤ _; rw [mkB_size]; exact HJ.out
      obtain ⟨m, hm1, hm2⟩ := wat_join HG.out
      have HM : Hid (m.map same2 = l.map same2) := hm2
      have hml : m.length = k := by have := congrArg List.length hm2; simp at this; have := HL.out; omega
      have HW2 : Hid ((mkB (joinL (txs l))).size ≤ 4096 → wordsL (mkB (joinL (txs l))).toList = (m, 0, 0)) := by
        intro h
        rw [mkB_size] at h
        rw [mkB_toList]
        exact wordsL_ok (by omega) hm1
      have HSp2 : Hid (Spans (mkB (joinL (txs l))).toList 0 m) := by show Spans _ _ _; rw [mkB_toList]; exact spans_wat hm1
      generalize mkB (joinL (txs l)) = j at *
      clear hu hm1 hm2
      go_wp2_with fail
      refine hBl.mono ?_
      rintro e w' ⟨rfl, hw'⟩
      obtain rfl := hw'.symm
      go_wp2_with fail
      refine hJo.mono ?_
      rintro e w5 ⟨rfl, hb5⟩
      have HB5 : Hid (Below w3.heap.size w3 w5) := HB.out.trans (hb5.mono HB.out.size)
      clear hb5 hJo hBl
      by_cases hj : 4096 < j.size
      · go_wp2
        go_ret
        exact ⟨rfl, HB2.out.trans (HB5.out.mono HB2.out.size)⟩
      · have hW5 := Tryd.words_any j w5 (Tab.up (w := w3) (Tab.up HT.out HB2.out) HB5.out)
        rw [HW2.out (by omega)] at hW5
        go_wp2_with fail
        refine hW5.mono ?_
        rintro e w6 ⟨v6, rfl, hown6, hb6⟩
        obtain ⟨a6, c6, rfl, hS6, _⟩ := own_wd (ts := m) hown6 (spans_ok (by rw [tl_len]; omega) HSp2.out)
        dsimp only
        have HS6 : Hid (WdSl (w6.alloc (.cells #[.int .i64 0, .int .i64 0] 25)) a6 k c6 m) := by
          show WdSl _ _ _ _ _
          rw [← hml]; exact hS6.up (below_new _ _)
        have HB6 : Hid (Below w3.heap.size w3 (w6.alloc (.cells #[.int .i64 0, .int .i64 0] 25))) := (HB5.out.trans (hb6.mono HB5.out.size)).alloc (HB5.out.trans (hb6.mono HB5.out.size)).size _
        have HS7 : Hid (WdSl (w6.alloc (.cells #[.int .i64 0, .int .i64 0] 25)) a1 k c1 l) := HS2.out.up HB6.out
        have hc6 := hS6.bd
        unfold maxLen at hc6
        rw [hml]
        have HML : Hid (m.length = k) := hml
        clear hown6 hS6 hb6 hW5 hml
        go_wp2
        generalize w6.alloc (.cells #[.int .i64 0, .int .i64 0] 25) = w7 at *
        go_loopw [14] (fun i wr => ∃ q : Nat, q ≤ k ∧ i = .int .i64 q ∧ Hid (∃ n, wr = w7.drewN n)) (fun i _ => k - (intOf i).toNat)
        case atStart => exact ⟨0, Nat.zero_le _, rfl, 0, rfl⟩
        case round =>
          obtain ⟨q, hq', rfl, n, rfl⟩ := hrel
          by_cases hqk : q < k
          · obtain ⟨g, o, sh, hidx, hc0, hcc1, _, hg, _⟩ := HS6.out.at Tryd.underlying22 Tryd.sizeWd q hqk
            obtain ⟨g', o', sh', hidx', hd0, hdd1, _, hg', _⟩ := HS7.out.at Tryd.underlying22 Tryd.sizeWd q hqk
            have hik := fun w => hidx k w hqk
            have hik' := fun w => hidx' k w hqk
            obtain ⟨s1, s2⟩ := same_at HM.out (by rw [HML.out]; exact hqk) (by rw [HL.out]; exact hqk)
            rw [s1] at hc0
            rw [s2] at hcc1
            clear hidx hidx' s1 s2 hg hg'
            generalize (l[q]'(by rw [HL.out]; exact hqk)).so = so at *
            generalize (l[q]'(by rw [HL.out]; exact hqk)).tx = x at *
            go_wp2
            go_quiet (fail)
            go_wp2
            go_roundw
            case rel => exact ⟨q + 1, by omega, by go_num, n + nq, rfl⟩
            case measure => simp [intOf]; omega
          · go_wp2
            go_ret
            exact ⟨rfl, below_drewN (HB2.out.trans (HB6.out.mono HB2.out.size)) n⟩
end Go.Proofs.YtngajjffkbbaiaaDoor
