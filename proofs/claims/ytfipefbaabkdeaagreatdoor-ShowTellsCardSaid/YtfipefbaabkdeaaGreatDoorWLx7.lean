/- The words of a text: the program's Words. -/
import Derived.Test.YtfipefbaabkdeaaGreatDoorWLx6
namespace Go.Proofs.YtfipefbaabkdeaaGreatDoor
open Go.RowKit Go.Maps

/-- A variable that holds a fault. -/
def Flt (w : World) (g : Nat) (a b : Int) : Prop := w.heap[g]? = some (.cells #[.int .i64 a, .int .i64 b] 31 (0, 0))
theorem Flt.new (w : World) (a b : Int) : Flt (w.alloc (.cells #[.int .i64 a, .int .i64 b] 31)) w.heap.size a b := (MapKept.heap_alloc w _).1
theorem Flt.lt {w : World} {g : Nat} {a b : Int} (h : Flt w g a b) : g < w.heap.size := (Array.getElem?_eq_some_iff.1 h).1
theorem Flt.up {w w' : World} {g : Nat} {a b : Int} (h : Flt w g a b) (hb : Below w.heap.size w w') : Flt w' g a b := (hb.block g h.lt).trans h
theorem Flt.c0 {w : World} {g : Nat} {a b : Int} (h : Flt w g a b) : w.cell? ⟨g, 0, none⟩ = some (.int .i64 a) := by unfold Flt at h; simp [World.cell?, h]
theorem Flt.c1 {w : World} {g : Nat} {a b : Int} (h : Flt w g a b) : w.cell? ⟨g, 1, none⟩ = some (.int .i64 b) := by unfold Flt at h; simp [World.cell?, h]
theorem Flt.fz {w : World} {g : Nat} {a b : Int} (h : Flt w g a b) (i : Nat) : w.frozen? ⟨g, i, none⟩ = false := frozen_of_row w g i _ 31 h
theorem Flt.grown {w w' : World} {g : Nat} {a b : Int} {row : Option Nat} (h : Flt w g a b) (hg : w.grownBy w' row) (hne : row ≠ some g) : Flt w' g a b := (hg.block g h.lt (fun e => hne e.symm)).trans h
theorem ext_mid (s : ByteArray) (k r : Nat) : (s.extract k (k + r)).toList = (s.toList.drop k).take r := by rw [ext_list]; congr 1; omega
theorem below_set {B g : Nat} {a w : World} (h : Below B a w) (hg : B ≤ g) (i j : Nat) (x y : Value) : Below B a ((w.setCell ⟨g, i, none⟩ x).setCell ⟨g, j, none⟩ y) := (h.setCell hg _).setCell hg _

set_option maxHeartbeats 2000000 in
theorem Tryz.words_any (s : ByteArray) (w : World) (hT : Tab w) :
    Calls Tryz.prog 47 #[.string s] w fun e w' => ∃ v, e = .returned (.tuple #[v, .agg #[.int .i64 (wordsL s.toList).2.1, .int .i64 (wordsL s.toList).2.2]]) ∧ w'.ownsRow w.heap.size 101 3 v (wordsL s.toList).1.length (encW (wordsL s.toList).1) ∧ Below w.heap.size w w' := by
  by_cases hl : 4096 < s.size
  · rw [wordsL_long (by rw [tl_len]; exact hl)]
    go_enter Tryz.func47, Tryz.ntmps47
    go_wp2
    refine bodyPost_ret (v := .tuple #[.slice none 0 0, .agg #[.int .i64 3, .int .i64 (-1)]]) (by simp [results, Tryz.results47, go_sem]) rfl ?_
    exact ⟨_, rfl, own_nil' _ _ _, below_new _ _⟩
  have HL4 : Hid (¬ 4096 < s.toList.length) := by show ¬ _; rw [tl_len]; exact hl
  obtain ⟨W, hW⟩ : ∃ W, wordsL s.toList = W := ⟨_, rfl⟩
  have HW : Hid (wordsL s.toList = W) := hW
  rw [hW]
  clear hW
  have hT1 : Tab (w.alloc (.cells #[.int .i64 0, .int .i64 0] 31)) := hT.up (below_new _ _)
  have hFl := Flt.new w 0 0
  have hFi := Tryz.fields_any _ hT1
  clear hT hT1
  go_enter Tryz.func47, Tryz.ntmps47
  go_wp2_with fail
  refine hFi.mono ?_
  rintro e w2 ⟨rfl, hb, hsz, hS⟩
  have HS2 : Hid (StAt w2 (w.heap.size + 1) sgP) := by show StAt _ _ _; simpa using hS
  have HF2 : Hid (Flt w2 w.heap.size 0 0) := hFl.up hb
  have HB2 : Hid (Below w.heap.size w w2) := below_step (below_new _ _) hb
  clear hb hsz hS hFl
  go_wp2
  go_loopw [5, 6] (fun v i wr => ∃ (k : Nat) (ts : List Wd), k ≤ s.size ∧ i = .int .i64 k ∧ Hid (wat s.toList 0 = addW ts (wat s.toList k)) ∧ ts.length ≤ k ∧ Hid (wr.ownsRow w2.heap.size 101 3 v ts.length (encW ts)) ∧ Hid (Below w2.heap.size w2 wr)) (fun _ i _ => s.size - (intOf i).toNat)
  case atStart => exact ⟨0, [], Nat.zero_le _, rfl, by show _ = _; rw [addW_nil], Nat.le_refl _, own_nil _ _, Below.refl _ _⟩
  case round =>
    obtain ⟨k, ts, hk, rfl, HU, htl, HO, HB⟩ := hrel
    have HF : Hid (Flt wr w.heap.size 0 0) := HF2.out.up HB.out
    have f0 := HF.out.c0
    have f1 := HF.out.c1
    have z0 := HF.out.fz 0
    have z1 := HF.out.fz 1
    by_cases hlt : k < s.size
    · rcases Bool.eq_false_or_eq_true ((s[k].toNat : Int) == 32) with hb | hb
      · have HN : Hid _ := HU.out.trans (congrArg (addW ts) (wat_blank (by rw [tl_get s k hlt, byte32 hb])))
        go_wp2
        go_roundw
        case rel => exact ⟨k + 1, ts, by omega, by go_num, HN, by omega, HO, HB⟩
        case measure => simp [intOf]; omega
      · have hS : StAt wr (w.heap.size + 1) sgP := HS2.out.up HB.out
        have hR := Tryz.reach_any (w.heap.size + 1) (s.extract k s.size) wr hS (by rw [ext_size]; unfold maxLen; omega)
        rw [extE] at hR
        have hrl : k + reachN (s.toList.drop k) ≤ s.size := by
          have := reach_le (s.toList.drop k); rw [List.length_drop, tl_len] at this; omega
        have hSo := fun (w' : World) (hS' : StAt w' (w.heap.size + 1) sgP) => Tryz.sortOf_any (w.heap.size + 1) (s.extract k (k + reachN (s.toList.drop k))) w' hS' (by rw [← tl_len, ext_mid, List.length_take, List.length_drop, tl_len]; unfold maxLen; omega)
        have hcl := fun w => Tryz.clone_any (s.extract k (k + reachN (s.toList.drop k))) w (by rw [← tl_len, ext_mid, List.length_take, List.length_drop, tl_len]; omega)
        rw [ext_mid] at hSo
        rcases Bool.eq_false_or_eq_true (sortL ((s.toList.drop k).take (reachN (s.toList.drop k)))).2 with hok | hok
        · obtain ⟨hf1, hf2, hf3⟩ := first_ok hok
          have HN : Hid (wat s.toList 0 = addW (ts ++ [wdAt s.toList k]) (wat s.toList (k + reachN (s.toList.drop k)))) := by
            show _ = _
            rw [HU.out, wat_word (tl_get s k hlt) (byteNe hb) hf2, addW_add, hf3]; rfl
          have hpos : 0 < reachN (s.toList.drop k) := by
            rw [← hf3]; cases hc : firstL (s.toList.drop k) with
            | nil => exact absurd hc hf2
            | cons => simp
          have hOK := wdAt_ok hk (by omega)
          obtain ⟨t, ht⟩ : ∃ t, wdAt s.toList k = t := ⟨_, rfl⟩
          have e1 : (sortL ((s.toList.drop k).take (reachN (s.toList.drop k)))).1 = t.so := by rw [← ht, ← hf1]; rfl
          have e2 : s.extract k (k + reachN (s.toList.drop k)) = t.tx := by
            rw [← ht, ← mkB_of (s.extract _ _), ext_mid, ← hf1]; rfl
          have HP : Hid ((k : Int) = t.pl) := by show _ = _; rw [← ht]; rfl
          rw [hok, e1] at hSo
          have HE : Hid (s.extract k (k + reachN (s.toList.drop k)) = t.tx) := e2
          rw [e2] at hcl hSo
          rw [ht] at HN hOK
          clear hok hf1 hf2 hf3 e1 ht hS e2
          generalize reachN (s.toList.drop k) = r at *
          go_wp2_with fail
          refine hR.mono ?_
          rintro e w3 ⟨rfl, hb3⟩
          have HB3 : Hid (Below w2.heap.size w2 w3) := HB.out.trans (hb3.mono HB.out.size)
          have HO3 : Hid (w3.ownsRow w2.heap.size 101 3 u5 ts.length (encW ts)) := owns_up HO.out hb3
          have hS3 : StAt w3 (w.heap.size + 1) sgP := HS2.out.up HB3.out
          have e2 : s.extract k (k + r) = t.tx := HE.out
          clear hb3 f0 f1 z0 z1
          have hw1 : IntKind.i64.wrap ((k : Int) + (r : Int)) = ((k + r : Nat) : Int) := by rw [IntKind.wrap_i64] <;> omega
          go_wp2_with fail
          refine (hSo w3 hS3).mono ?_
          rintro e w4 ⟨rfl, hw4⟩
          obtain rfl := hw4.symm
          go_wp2_with fail
          refine (hcl w3).mono ?_
          rintro e w5 ⟨rfl, hb5⟩
          have HB5 : Hid (Below w2.heap.size w2 w5) := HB3.out.trans (hb5.mono HB3.out.size)
          have HO5 : Hid (w5.ownsRow w2.heap.size 101 3 u5 ts.length (encW ts)) := owns_up HO3.out hb5
          have hsz5 := HB5.out.size
          clear hb5 hS3 hSo hR hcl
          have HT : Hid (WdSl (w5.alloc (.cells #[.int .u8 (t.so : Int), .string t.tx, .int .i64 (k : Int)] 101)) (some ⟨w5.heap.size, 0, none⟩) 1 1 [t]) := by
            rw [HP.out]; exact one_wd w5 t 101 hOK
          have HB6 : Hid (Below w2.heap.size w2 (w5.alloc (.cells #[.int .u8 (t.so : Int), .string t.tx, .int .i64 (k : Int)] 101))) := HB5.out.alloc hsz5 _
          go_wp2_with (at_builtin; refine Tryz.append_wds rfl _ _ rfl w2.heap.size _ ts [t] (some ⟨w5.heap.size, 0, none⟩) 1 1 rfl rfl (World.ownsRow.alloc HO5.out _) HT.out (by omega) (by simp) (by simp; omega) ?_)
          intro v' w7 hown hgr
          have HB7 : Hid (Below w2.heap.size w2 w7) := HB6.out.grown hgr (by have := HB6.out.size; omega) (own_ge HO5.out)
          have HO7 : Hid (w7.ownsRow w2.heap.size 101 3 v' (ts ++ [t]).length (encW (ts ++ [t]))) := by
            show World.ownsRow _ _ _ _ _ _ _
            rw [List.length_append]; exact hown
          clear hown hgr HT HB6
          go_wp2
          go_roundw
          case rel => exact ⟨k + r, ts ++ [t], by omega, by go_num, HN, by simp; omega, HO7, HB7⟩
          case measure => simp [intOf]; omega
        · have HX : Hid (W = ([], 140, (k : Int))) := by
            show _ = _
            rw [← HW.out]
            refine wordsL_bad HL4.out ?_
            rw [HU.out, wat_bad (tl_get s k hlt) (byteNe hb) (first_no hok)]; rfl
          rw [hok] at hSo
          clear hok hS hcl
          generalize (sortL ((s.toList.drop k).take (reachN (s.toList.drop k)))).1 = so at *
          generalize reachN (s.toList.drop k) = r at *
          go_wp2_with fail
          refine hR.mono ?_
          rintro e w3 ⟨rfl, hb3⟩
          have HB3 : Hid (Below w2.heap.size w2 w3) := HB.out.trans (hb3.mono HB.out.size)
          have hS3 : StAt w3 (w.heap.size + 1) sgP := HS2.out.up HB3.out
          have HF3 : Hid (Flt w3 w.heap.size 0 0) := HF2.out.up HB3.out
          clear hb3 f0 f1 z0 z1
          have f0 := HF3.out.c0
          have f1 := HF3.out.c1
          have z0 := HF3.out.fz 0
          have z1 := HF3.out.fz 1
          have hw1 : IntKind.i64.wrap ((k : Int) + (r : Int)) = ((k + r : Nat) : Int) := by rw [IntKind.wrap_i64] <;> omega
          go_wp2_with fail
          refine (hSo w3 hS3).mono ?_
          rintro e w4 ⟨rfl, hw4⟩
          obtain rfl := hw4.symm
          clear hSo hR hS3
          go_wp2
          refine bodyPost_ret (v := .tuple #[.slice none 0 0, .agg #[.int .i64 140, .int .i64 (k : Int)]]) (by simp [results, Tryz.results47, go_sem, f0, f1]) rfl ?_
          exact ⟨_, by rw [HX.out], by rw [HX.out]; exact own_nil' _ _ _, below_set (HB2.out.trans (HB3.out.mono HB2.out.size)) (Nat.le_refl _) _ _ _ _⟩
    · have HX : Hid (W = (ts, 0, 0)) := by
        show _ = _
        rw [← HW.out]
        refine wordsL_ok HL4.out ?_
        rw [HU.out, wat_end (by rw [tl_len]; omega)]; simp [addW]
      go_wp2
      refine bodyPost_ret (v := .tuple #[u5, .agg #[.int .i64 0, .int .i64 0]]) (by simp [results, Tryz.results47, go_sem, f0, f1]) rfl ?_
      exact ⟨_, by rw [HX.out], by rw [HX.out]; exact owns_base (owns_set (owns_set HO.out HF2.out.lt _) HF2.out.lt _) (Nat.le_of_lt HF2.out.lt), below_set (HB2.out.trans (HB.out.mono HB2.out.size)) (Nat.le_refl _) _ _ _ _⟩
end Go.Proofs.YtfipefbaabkdeaaGreatDoor
