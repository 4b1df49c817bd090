/- The words of a text: the document's Words. -/
import Derived.Test.YtfipefbaabkdeaaGreatDoorWWd
import Derived.OwnWalk
namespace Go.Proofs.YtfipefbaabkdeaaGreatDoor
open Go.RowKit Go.Maps

theorem sortL_le (s : Bytes) : (sortL s).1 ≤ 2 := by
  unfold sortL
  repeat' split
  all_goals simp
theorem extE (s : ByteArray) (k : Nat) : (s.extract k s.size).toList = s.toList.drop k := by
  rw [ext_list, List.take_of_length_le]; rw [List.length_drop, tl_len]; exact Nat.le_refl _
theorem ext_size (s : ByteArray) (k : Nat) : (s.extract k s.size).size = s.size - k := by rw [← tl_len, extE, List.length_drop, tl_len]
theorem fst_len {s : ByteArray} {k : Nat} (h : k ≤ s.size) : k + (mkB (firstL (s.toList.drop k))).size ≤ s.size := by
  have := first_le (s.toList.drop k)
  rw [List.length_drop, tl_len] at this
  rw [mkB_size]; omega
/-- A word at place k. -/
def wdAt (s : Bytes) (k : Nat) : Wd := ⟨(sortL (firstL (s.drop k))).1, mkB (firstL (s.drop k)), k⟩
theorem wdAt_ok {s : ByteArray} {k : Nat} (h : k ≤ s.size) (h4 : s.size ≤ 4096) : (wdAt s.toList k).Ok := by
  have h1 := fst_len h
  have h2 := sortL_le (firstL (s.toList.drop k))
  refine ⟨?_, ?_, ?_⟩
  · show (sortL _).1 < 256; omega
  · show (mkB _).size ≤ _; unfold maxLen; omega
  · show _ ≤ (k : Int) ∧ (k : Int) < _; omega
theorem byte32 {b : UInt8} (h : ((b.toNat : Int) == 32) = true) : b = 32 := by
  have : b.toNat = 32 := by simp at h; omega
  exact UInt8.toNat_inj.1 this
theorem byteNe {b : UInt8} (h : ((b.toNat : Int) == 32) = false) : b ≠ 32 := by
  intro e; subst e; simp at h
theorem wordsL_long {s : Bytes} (h : 4096 < s.length) : wordsL s = ([], 3, -1) := by unfold wordsL; rw [if_pos h]
theorem wordsL_ok {s : Bytes} {l : List Wd} (h : ¬ 4096 < s.length) (hw : wat s 0 = .ok l) : wordsL s = (l, 0, 0) := by unfold wordsL; rw [if_neg h, hw]
theorem wordsL_bad {s : Bytes} {p : Nat} (h : ¬ 4096 < s.length) (hw : wat s 0 = .error p) : wordsL s = ([], 140, (p : Int)) := by unfold wordsL; rw [if_neg h, hw]
theorem own_nil (w : World) (e : TypeId) : w.ownsRow w.heap.size e 3 (.slice none 0 0) 0 (encW []) := ⟨rfl, Or.inl ⟨rfl, rfl⟩⟩
theorem own_nil' (w : World) (b : Nat) (e : TypeId) : w.ownsRow b e 3 (.slice none 0 0) 0 (encW []) := ⟨rfl, Or.inl ⟨rfl, rfl⟩⟩

set_option maxHeartbeats 1000000 in
theorem Tryz.rwords_any (s : ByteArray) (w : World) :
    Calls Tryz.prog 52 #[.string s] w fun e w' => ∃ v, e = .returned (.tuple #[v, .int .i64 (wordsL s.toList).2.1, .int .i64 (wordsL s.toList).2.2]) ∧ w'.ownsRow w.heap.size 101 3 v (wordsL s.toList).1.length (encW (wordsL s.toList).1) ∧ Below w.heap.size w w' := by
  by_cases hl : 4096 < s.size
  · rw [wordsL_long (by rw [tl_len]; exact hl)]
    go_enter Tryz.func52, Tryz.ntmps52
    go_wp2
    go_ret3
    exact ⟨_, rfl, own_nil _ _, Below.refl _ _⟩
  have HL4 : Hid (¬ 4096 < s.toList.length) := by show ¬ _; rw [tl_len]; exact hl
  obtain ⟨W, hW⟩ : ∃ W, wordsL s.toList = W := ⟨_, rfl⟩
  have HW : Hid (wordsL s.toList = W) := hW
  rw [hW]
  clear hW
  go_enter Tryz.func52, Tryz.ntmps52
  go_wp2
  go_loopw [5, 6] (fun v i wr => ∃ (k : Nat) (ts : List Wd), k ≤ s.size ∧ i = .int .i64 k ∧ Hid (wat s.toList 0 = addW ts (wat s.toList k)) ∧ ts.length ≤ k ∧ Hid (wr.ownsRow w.heap.size 101 3 v ts.length (encW ts)) ∧ Hid (Below w.heap.size w wr)) (fun _ i _ => s.size - (intOf i).toNat)
  case atStart => exact ⟨0, [], Nat.zero_le _, rfl, by show _ = _; rw [addW_nil], Nat.le_refl _, own_nil _ _, Below.refl _ _⟩
  case round =>
    obtain ⟨k, ts, hk, rfl, HU, htl, HO, HB⟩ := hrel
    by_cases hlt : k < s.size
    · rcases Bool.eq_false_or_eq_true ((s[k].toNat : Int) == 32) with hb | hb
      · have HN : Hid _ := HU.out.trans (congrArg (addW ts) (wat_blank (by rw [tl_get s k hlt, byte32 hb])))
        go_wp2
        go_roundw
        case rel => exact ⟨k + 1, ts, by omega, by go_num, HN, by omega, HO, HB⟩
        case measure => simp [intOf]; omega
      · have hF := Tryz.rfirst_any (s.extract k s.size) wr (by rw [ext_size s k]; omega)
        rw [extE] at hF
        have hlen := fst_len hk
        by_cases h0 : firstL (s.toList.drop k) = []
        · have HX : Hid (W = ([], 140, (k : Int))) := by
            show _ = _
            rw [← HW.out]
            refine wordsL_bad HL4.out ?_
            rw [HU.out, wat_bad (tl_get s k hlt) (byteNe hb) h0]; rfl
          have he : (mkB (firstL (s.toList.drop k))).toList.isEmpty = true := by rw [mkB_toList, h0]; rfl
          generalize mkB (firstL (s.toList.drop k)) = x at *
          clear h0
          go_wp2_with fail
          refine hF.mono ?_
          rintro e w1 ⟨rfl, hb1⟩
          have HB1 : Hid (Below w.heap.size w w1) := HB.out.trans (hb1.mono HB.out.size)
          clear hb1
          go_wp2
          go_ret3
          exact ⟨_, by rw [HX.out]; rfl, by rw [HX.out]; exact own_nil' _ _ _, HB1.out⟩
        · have HN : Hid (wat s.toList 0 = addW (ts ++ [wdAt s.toList k]) (wat s.toList (k + (mkB (firstL (s.toList.drop k))).size))) := by
            show _ = _
            rw [HU.out, wat_word (tl_get s k hlt) (byteNe hb) h0, addW_add, mkB_size]; rfl
          have hOK := wdAt_ok hk (by omega)
          have he : (mkB (firstL (s.toList.drop k))).toList.isEmpty = false := by rw [mkB_toList]; simpa using h0
          have hpos : 0 < (mkB (firstL (s.toList.drop k))).size := by
            rw [mkB_size]; cases hc : firstL (s.toList.drop k) with
            | nil => exact absurd hc h0
            | cons => simp
          have hSo := fun w => Tryz.rsort_any (mkB (firstL (s.toList.drop k))) w (by unfold maxLen; omega)
          rw [mkB_toList] at hSo
          obtain ⟨t, ht⟩ : ∃ t, wdAt s.toList k = t := ⟨_, rfl⟩
          have e1 : (sortL (firstL (s.toList.drop k))).1 = t.so := by rw [← ht]; rfl
          have e2 : mkB (firstL (s.toList.drop k)) = t.tx := by rw [← ht]; rfl
          have HP : Hid ((k : Int) = t.pl) := by show _ = _; rw [← ht]; rfl
          rw [e1] at hSo
          rw [e2] at HN he hpos hSo hF hlen
          rw [ht] at HN hOK
          generalize (sortL (firstL (s.toList.drop k))).2 = okk at *
          clear h0 e1 e2 ht
          go_wp2_with fail
          refine hF.mono ?_
          rintro e w1 ⟨rfl, hb1⟩
          have HB1 : Hid (Below w.heap.size w w1) := HB.out.trans (hb1.mono HB.out.size)
          have HO1 : Hid (w1.ownsRow w.heap.size 101 3 u5 ts.length (encW ts)) := owns_up HO.out hb1
          clear hb1
          go_wp2_with fail
          refine (hSo w1).mono ?_
          rintro e w2 ⟨rfl, hb2⟩
          have HB2 : Hid (Below w.heap.size w w2) := HB1.out.trans (hb2.mono HB1.out.size)
          have HO2 : Hid (w2.ownsRow w.heap.size 101 3 u5 ts.length (encW ts)) := owns_up HO1.out hb2
          have hsz2 := HB2.out.size
          clear hb2
          have HT : Hid (WdSl (w2.alloc (.cells #[.int .u8 (t.so : Int), .string t.tx, .int .i64 (k : Int)] 101)) (some ⟨w2.heap.size, 0, none⟩) 1 1 [t]) := by
            rw [HP.out]; exact one_wd w2 t 101 hOK
          have HB3 : Hid (Below w.heap.size w (w2.alloc (.cells #[.int .u8 (t.so : Int), .string t.tx, .int .i64 (k : Int)] 101))) := HB2.out.alloc hsz2 _
          go_wp2_with (at_builtin; refine Tryz.append_wds rfl _ _ rfl w.heap.size _ ts [t] (some ⟨w2.heap.size, 0, none⟩) 1 1 rfl rfl (World.ownsRow.alloc HO2.out _) HT.out (by omega) (by simp) (by simp; omega) ?_)
          intro v' w3 hown hgr
          have HB4 : Hid (Below w.heap.size w w3) := HB3.out.grown hgr (by have := HB3.out.size; omega) (own_ge HO2.out)
          have HO4 : Hid (w3.ownsRow w.heap.size 101 3 v' (ts ++ [t]).length (encW (ts ++ [t]))) := by
            show World.ownsRow _ _ _ _ _ _ _
            rw [List.length_append]; exact hown
          clear hown hgr HT HB3
          go_wp2
          go_roundw
          case rel => exact ⟨k + t.tx.size, ts ++ [t], by omega, by go_num, HN, by simp; omega, HO4, HB4⟩
          case measure => simp [intOf]; omega
    · have HX : Hid (W = (ts, 0, 0)) := by
        show _ = _
        rw [← HW.out]
        refine wordsL_ok HL4.out ?_
        rw [HU.out, wat_end (by rw [tl_len]; omega)]; simp [addW]
      go_wp2
      go_ret3
      exact ⟨_, by rw [HX.out]; rfl, by rw [HX.out]; exact HO.out, HB.out⟩
end Go.Proofs.YtfipefbaabkdeaaGreatDoor
