/- Package parse: Formula and Path, of any names and any text. -/
import Derived.Test.YtfipefbaabkdeaaGreatDoorWPbB
namespace Go.Proofs.YtfipefbaabkdeaaGreatDoor
open Go.RowKit Go.Maps

theorem spans_len {s : Bytes} : ∀ {l : List Wd} {p : Nat}, Spans s p l → l.length ≤ s.length - p
  | [], p, _ => by simp
  | t :: l, p, h => by
    obtain ⟨q, _, h1, h2, _, _, hg, hr⟩ := h
    have ih := spans_len hr
    have hp : 0 < t.tx.toList.length := List.length_pos_iff.2 hg.1.1
    simp only [List.length_cons]; omega
theorem spans_ok {s : Bytes} (h4 : s.length ≤ 4096) : ∀ {l : List Wd} {p : Nat}, Spans s p l → ∀ t ∈ l, t.Ok
  | [], _, _, t, ht => by simp at ht
  | u :: l, p, h, t, ht => by
    obtain ⟨q, hq, h1, h2, _, _, hg, hr⟩ := h
    rcases List.mem_cons.1 ht with rfl | ht
    · have h3 := sortL_le t.tx.toList
      rw [hg.2] at h3
      rw [tl_len] at h2
      exact ⟨by dsimp only at h3; omega, by unfold maxLen; omega, by rw [hq]; omega⟩
    · exact spans_ok h4 hr t ht
/-- What Words tells, in two cases. -/
theorem words_two (s : ByteArray) : ((wordsL s.toList).1 = [] ∧ ((wordsL s.toList).2.1, (wordsL s.toList).2.2) ≠ ((0 : Int), (0 : Int))) ∨ (s.size ≤ 4096 ∧ ∃ l, wordsL s.toList = (l, 0, 0) ∧ Spans s.toList 0 l) := by
  by_cases h : 4096 < s.toList.length
  · rw [wordsL_long h]; exact Or.inl ⟨rfl, by decide⟩
  · cases hw : wat s.toList 0 with
    | error p => rw [wordsL_bad h hw]; exact Or.inl ⟨rfl, fun e => by injection e with e1 e2; cases e1⟩
    | ok l => exact Or.inr ⟨by rw [tl_len] at h; omega, l, wordsL_ok h hw, spans_wat hw⟩
theorem checkE_few {ns : List Bytes} (h : checkE ns = 0) : ns.length ≤ 8 := by
  unfold checkE at h; split at h
  · exact absurd h (by decide)
  · omega
/-- What begin answers. -/
def BegP (ss : List ByteArray) (s : ByteArray) (w : World) (e : Ending) (w' : World) : Prop :=
  Below w.heap.size w w' ∧
  if checkE (nms ss) ≠ 0 then e = .returned (.tuple #[.pointer none, .agg #[.int .i64 (checkE (nms ss)), .int .i64 (-1)]])
  else if ((wordsL s.toList).2.1, (wordsL s.toList).2.2) ≠ ((0 : Int), (0 : Int)) then e = .returned (.tuple #[.pointer none, .agg #[.int .i64 (wordsL s.toList).2.1, .int .i64 (wordsL s.toList).2.2]])
  else ∃ E : Ev, Env E ∧ E.w0 = w' ∧ E.ss = ss ∧ E.ws = (wordsL s.toList).1 ∧ E.fin = s.size ∧ w.heap.size ≤ E.g ∧ w'.heap[E.g]? = some (rowE E 0 (.slice none 0 0)) ∧ e = .returned (.tuple #[.pointer (some ⟨E.g, 0, none⟩), .agg #[.int .i64 0, .int .i64 0]])
theorem words_err (s : ByteArray) : (wordsL s.toList).2.1 = 0 ↔ ((wordsL s.toList).2.1, (wordsL s.toList).2.2) = ((0 : Int), (0 : Int)) := by
  by_cases h : 4096 < s.toList.length
  · rw [wordsL_long h]; decide
  · cases hw : wat s.toList 0 with
    | error p => rw [wordsL_bad h hw]; simp
    | ok l => rw [wordsL_ok h hw]; simp
set_option maxRecDepth 100000 in
set_option maxHeartbeats 4000000 in
theorem Tryz.pbegin_any (a : Option Addr) (len cap : Nat) (ad : Nat → Addr) (ss : List ByteArray) (s : ByteArray) (w : World) (hS : StrSl Tryz.prog 22 w a len cap ad ss) (hT : Tab w) :
    Calls Tryz.prog 35 #[.slice a len cap, .string s] w (BegP ss s w) := by
  have hCk := Tryz.check_any a len cap ad ss _ (hS.up (below_new w (.cells #[.int .i64 0, .int .i64 0] 31)))
  have hFl := Flt.new w 0 0
  obtain ⟨wa, hwa⟩ : ∃ wa, wa = w.alloc (.cells #[.int .i64 0, .int .i64 0] 31) := ⟨_, rfl⟩
  have hba : Below w.heap.size w wa := by rw [hwa]; exact below_new _ _
  have hza : wa.heap.size = w.heap.size + 1 := by rw [hwa]; simp
  rw [← hwa] at hCk hFl
  have HS : Hid (StrSl Tryz.prog 22 wa a len cap ad ss) := hS.up hba
  have HSB : Hid (∀ k, k < len → (ad k).block < w.heap.size) := hS.blk
  have HT : Hid (Tab wa) := hT.up hba
  have HBA : Hid (Below w.heap.size w wa) := hba
  have HFL : Hid (Flt wa w.heap.size 0 0) := hFl
  clear hS hT hFl hba
  by_cases hc : checkE (nms ss) = 0
  · rw [hc] at hCk
    have hW := fun w1 (hT1 : Tab w1) => Tryz.words_any s w1 hT1
    have hn8 := checkE_few hc
    by_cases hwd : ((wordsL s.toList).2.1, (wordsL s.toList).2.2) = ((0 : Int), (0 : Int))
    · have hw0 : (wordsL s.toList).2.1 = 0 := (words_err s).2 hwd
      have hw1 : (wordsL s.toList).2.2 = 0 := by injection hwd with _ h
      rcases words_two s with ⟨_, hbad⟩ | ⟨h4, l, hl, hsp⟩
      · exact absurd hwd hbad
      rw [hw0, hw1] at hW
      have HX : Hid (∀ e w', BegP ss s w e w' ↔ Below w.heap.size w w' ∧ ∃ E : Ev, Env E ∧ E.w0 = w' ∧ E.ss = ss ∧ E.ws = l ∧ E.fin = s.size ∧ w.heap.size ≤ E.g ∧ w'.heap[E.g]? = some (rowE E 0 (.slice none 0 0)) ∧ e = .returned (.tuple #[.pointer (some ⟨E.g, 0, none⟩), .agg #[.int .i64 0, .int .i64 0]])) := fun e w' => by
        unfold BegP; rw [if_neg (by simp [hc]), if_neg (by simp [hwd]), hl]
      have hll : (wordsL s.toList).1 = l := by rw [hl]
      rw [hll] at hW
      have HSP : Hid (Spans s.toList 0 l) := hsp
      have hfew : l.length ≤ 4096 := by have := spans_len hsp; rw [tl_len] at this; omega
      clear hl hll hw0 hw1 hwd hsp
      go_enter Tryz.func35, Tryz.ntmps35
      go_wp2_with fail
      rw [← hwa]
      refine hCk.mono ?_
      rintro e w1 ⟨rfl, hB1⟩
      have hW1 := hW w1 (HT.out.up hB1)
      have HB1 : Hid (Below wa.heap.size wa w1) := hB1
      clear hB1 hW hCk
      go_wp2_with fail
      refine hW1.mono ?_
      rintro e w2 ⟨v, rfl, ho, hB2⟩
      have HB2 : Hid (Below w1.heap.size w1 w2) := hB2
      have HO2 : Hid (w2.ownsRow w1.heap.size 101 3 v l.length (encW l)) := ho
      have hsz1 := HB1.out.size
      have hsz2 := hB2.size
      have hok : (endW s.size).Ok := ⟨by show 0 < 256; omega, by show (mkB []).size ≤ maxLen; rw [mkB_size]; exact Nat.zero_le _, by show -9223372036854775808 ≤ ((s.size : Nat) : Int) ∧ ((s.size : Nat) : Int) < 9223372036854775808; omega⟩
      obtain ⟨av, cv, rfl⟩ := own_sl ho
      have HO4 : Hid (((w2.alloc (.cells #[.int .i64 0, .int .i64 0] 31)).alloc (.cells #[.int .u8 0, .string ⟨#[]⟩, .int .i64 (s.size : Int)] 101)).ownsRow w1.heap.size 101 3 (.slice av l.length cv) l.length (encW l)) := World.ownsRow.alloc (World.ownsRow.alloc ho _) _
      have HONE : Hid (WdSl ((w2.alloc (.cells #[.int .i64 0, .int .i64 0] 31)).alloc (.cells #[.int .u8 0, .string ⟨#[]⟩, .int .i64 (s.size : Int)] 101)) (some ⟨w2.heap.size + 1, 0, none⟩) 1 1 [endW s.size]) := by
        have := one_wd (w2.alloc (.cells #[.int .i64 0, .int .i64 0] 31)) (endW s.size) 101 hok
        have e : (w2.alloc (.cells #[.int .i64 0, .int .i64 0] 31)).heap.size = w2.heap.size + 1 := by simp
        rw [e] at this
        exact this
      have HW4 : Hid (Below w2.heap.size w2 ((w2.alloc (.cells #[.int .i64 0, .int .i64 0] 31)).alloc (.cells #[.int .u8 0, .string ⟨#[]⟩, .int .i64 (s.size : Int)] 101))) := (below_new _ _).alloc (by simp) _
      have HZ4 : Hid (((w2.alloc (.cells #[.int .i64 0, .int .i64 0] 31)).alloc (.cells #[.int .u8 0, .string ⟨#[]⟩, .int .i64 (s.size : Int)] 101)).heap.size = w2.heap.size + 2) := by show _ = _; simp
      clear ho hB2 hW1
      go_wp2_with (at_builtin; refine Tryz.append_wds rfl _ _ rfl w1.heap.size (.slice av l.length cv) l [endW s.size] (some ⟨w2.heap.size + 1, 0, none⟩) 1 1 rfl rfl HO4.out HONE.out (by omega) (by simp) (by rw [HZ4.out]; omega) ?_)
      intro v5 w5 hown5 hgr5
      obtain ⟨w4, hw4⟩ : ∃ w4, w4 = (w2.alloc (.cells #[.int .i64 0, .int .i64 0] 31)).alloc (.cells #[.int .u8 0, .string ⟨#[]⟩, .int .i64 (s.size : Int)] 101) := ⟨_, rfl⟩
      rw [← hw4] at hgr5 HO4 HONE HW4 HZ4
      have hz4 := HZ4.out
      have hz5 := hgr5.size
      have hokl : ∀ t ∈ l ++ [endW s.size], t.Ok := fun t ht => by
        rcases List.mem_append.1 ht with ht | ht
        · exact spans_ok (by rw [tl_len]; exact h4) HSP.out t ht
        · simp at ht; subst ht; exact hok
      obtain ⟨a5, c5, rfl, hWd5, hge⟩ := own_wd hown5 hokl
      have hrow : ∀ k, some k = (Value.slice av l.length cv).ownBlock → w1.heap.size ≤ k := fun k e => own_ge HO4.out k e.symm
      have hbw4 : Below w.heap.size w w4 := below_step (below_step (below_step HBA.out HB1.out) HB2.out) HW4.out
      have hF4 : Flt w4 w.heap.size 0 0 := ((HFL.out.up HB1.out).up HB2.out).up HW4.out
      have hF5 : Flt w5 w.heap.size 0 0 := hF4.grown hgr5 (fun e => by have := hrow w.heap.size e.symm; omega)
      have hS5 : StrSl Tryz.prog 22 w5 a len cap ad ss := (((HS.out.up HB1.out).up HB2.out).up HW4.out).grown hgr5 (fun k hk e => by have := hrow _ e; have := HSB.out k hk; omega)
      have HBW5 : Hid (Below w.heap.size w w5) := hbw4.grown hgr5 (by omega) (fun k e => by have := hrow k e.symm; omega)
      have f0 := hF5.c0
      have f1 := hF5.c1
      have g0 := hF5.fz 0
      have g1 := hF5.fz 1
      have hnq : ¬ (w.heap.size = w5.heap.size) := by omega
      have HF5 : Hid (Flt w5 w.heap.size 0 0) := hF5
      have HS5 : Hid (StrSl Tryz.prog 22 w5 a len cap ad ss) := hS5
      have HW5 : Hid (WdSl w5 a5 (l.length + 1) c5 (l ++ [endW s.size])) := hWd5
      have HGE : Hid (∀ x, a5 = some x → w1.heap.size ≤ x.block) := fun x hx => (hge x hx).1
      have hl5 : w.heap.size < w5.heap.size := by omega
      clear hown5 hgr5 hw4 HO4 HONE HW4 HZ4 hbw4 hF4 hF5 hS5 hWd5 hge hrow hokl hok HO2 hz4
      go_wp2
      obtain ⟨k1, k2⟩ := flt_set HF5.out 0 0
      obtain ⟨W5, hW5⟩ : ∃ W5, W5 = (w5.setCell ⟨w.heap.size, 0, none⟩ (.int .i64 0)).setCell ⟨w.heap.size, 1, none⟩ (.int .i64 0) := ⟨_, rfl⟩
      rw [← hW5] at k1 k2 ⊢
      have hzW : W5.heap.size = w5.heap.size := by rw [hW5]; simp
      have hbW : Below w.heap.size w W5 := HBW5.out.grown k2 (by omega) (fun k e => by injection e with e; omega)
      have hnew : Below W5.heap.size W5 (W5.alloc (.cells #[.slice a len cap, .slice a5 (l.length + 1) c5, .int .i64 0, .slice none 0 0] 103)) := below_new _ _
      have hrow := (MapKept.heap_alloc W5 (.cells #[.slice a len cap, .slice a5 (l.length + 1) c5, .int .i64 0, .slice none 0 0] 103)).1
      have k3 := k1.up hnew
      have hszn : W5.heap.size < (W5.alloc (.cells #[.slice a len cap, .slice a5 (l.length + 1) c5, .int .i64 0, .slice none 0 0] 103)).heap.size := by simp
      have hWd : WdSl W5 a5 (l.length + 1) c5 (l ++ [endW s.size]) := HW5.out.grown k2 (fun x hx e => by injection e with e; have := HGE.out x hx; omega)
      have hWn : WdSl (W5.alloc (.cells #[.slice a len cap, .slice a5 (l.length + 1) c5, .int .i64 0, .slice none 0 0] 103)) a5 (l.length + 1) c5 (l ++ [endW s.size]) := hWd.up hnew
      have hSn : StrSl Tryz.prog 22 (W5.alloc (.cells #[.slice a len cap, .slice a5 (l.length + 1) c5, .int .i64 0, .slice none 0 0] 103)) a len cap ad ss :=
        (HS5.out.grown k2 (fun k hk e => by injection e with e; have := HSB.out k hk; omega)).up hnew
      have hbn : Below w.heap.size w (W5.alloc (.cells #[.slice a len cap, .slice a5 (l.length + 1) c5, .int .i64 0, .slice none 0 0] 103)) := below_step hbW hnew
      generalize W5.alloc (.cells #[.slice a len cap, .slice a5 (l.length + 1) c5, .int .i64 0, .slice none 0 0] 103) = WN at *
      have d0 := k3.c0
      have d1 := k3.c1
      refine bodyPost_ret (v := .tuple #[.pointer (some ⟨w5.heap.size, 0, none⟩), .agg #[.int .i64 0, .int .i64 0]]) (by simp [results, Tryz.results35, go_sem, d0, d1]) rfl ?_
      rw [HX.out]
      refine ⟨hbn, ⟨w5.heap.size, a, len, cap, ad, ss, a5, c5, l, s.size, WN⟩, ⟨hWn, hSn, ?_, ?_, hfew, h4, ?_, ?_⟩, rfl, rfl, rfl, rfl, ?_, ?_, rfl⟩
      · intro x hx
        have hx : a5 = some x := hx
        subst hx
        have := hWd.lt (by omega)
        show x.block ≠ w5.heap.size
        omega
      · intro k hk
        have := HSB.out k hk
        show (ad k).block ≠ w5.heap.size
        omega
      · show len ≤ 8
        have := HS.out.hlen; rw [nms_len] at hn8; omega
      · show w5.heap.size < WN.heap.size
        omega
      · show w.heap.size ≤ w5.heap.size
        omega
      · show WN.heap[w5.heap.size]? = _
        rw [← hzW]; exact hrow
    · have hw0 : ¬ ((wordsL s.toList).2.1 = 0) := fun e => hwd ((words_err s).1 e)
      have HX : Hid (∀ e w', BegP ss s w e w' ↔ Below w.heap.size w w' ∧ e = .returned (.tuple #[.pointer none, .agg #[.int .i64 (wordsL s.toList).2.1, .int .i64 (wordsL s.toList).2.2]])) := fun e w' => by
        unfold BegP; rw [if_neg (by simp [hc]), if_pos hwd]
      generalize (wordsL s.toList).2.1 = er at *
      generalize (wordsL s.toList).2.2 = ea at *
      clear hwd
      go_enter Tryz.func35, Tryz.ntmps35
      go_wp2_with fail
      rw [← hwa]
      refine hCk.mono ?_
      rintro e w1 ⟨rfl, hB1⟩
      have hW1 := hW w1 (HT.out.up hB1)
      have HB1 : Hid (Below wa.heap.size wa w1) := hB1
      clear hB1 hW hCk
      go_wp2_with fail
      refine hW1.mono ?_
      rintro e w2 ⟨v, rfl, ho, hB2⟩
      obtain ⟨av, cv, rfl⟩ := own_sl ho
      have hsz1 := HB1.out.size
      have hsz2 := hB2.size
      have hF2 : Flt w2 w.heap.size 0 0 := (HFL.out.up HB1.out).up hB2
      have HBW : Hid (Below w.heap.size w w2) := below_step (below_step HBA.out HB1.out) hB2
      have f0 := hF2.c0
      have f1 := hF2.c1
      have g0 := hF2.fz 0
      have g1 := hF2.fz 1
      have hnq : ¬ (w.heap.size = w2.heap.size) := by omega
      have hl2 : w.heap.size < w2.heap.size := by omega
      have HF2 : Hid (Flt w2 w.heap.size 0 0) := hF2
      clear ho hB2 hW1 hF2
      go_wp2
      go_region
      all_goals
        go_wp2
        obtain ⟨k1, k2⟩ := flt_set HF2.out er ea
        have hb : Below w.heap.size w (((w2.setCell ⟨w.heap.size, 0, none⟩ (.int .i64 er)).setCell ⟨w.heap.size, 1, none⟩ (.int .i64 ea)).alloc (.cells #[.int .i64 er, .int .i64 ea] 31)).drew :=
          below_drewN ((HBW.out.grown k2 (by omega) (fun k e => by injection e with e; omega)).alloc (by simp; omega) _) 1
        have k3 := k1.up (below_new _ (.cells #[.int .i64 er, .int .i64 ea] 31))
        have d0 := k3.c0
        have d1 := k3.c1
        refine bodyPost_ret (v := .tuple #[.pointer none, .agg #[.int .i64 er, .int .i64 ea]]) (by simp [results, Tryz.results35, go_sem, d0, d1]) rfl ?_
        rw [HX.out]
        exact ⟨hb, rfl⟩
  · have HX : Hid (∀ e w', BegP ss s w e w' ↔ Below w.heap.size w w' ∧ e = .returned (.tuple #[.pointer none, .agg #[.int .i64 (checkE (nms ss)), .int .i64 (-1)]])) := fun e w' => by
      unfold BegP; rw [if_pos hc]
    generalize checkE (nms ss) = er at *
    go_enter Tryz.func35, Tryz.ntmps35
    go_wp2_with fail
    rw [← hwa]
    refine hCk.mono ?_
    rintro e w1 ⟨rfl, hB1⟩
    have hF1 := HFL.out.up hB1
    have hsz1 := hB1.size
    have HBW : Hid (Below w.heap.size w w1) := below_step HBA.out hB1
    have f0 := hF1.c0
    have f1 := hF1.c1
    have g0 := hF1.fz 0
    have g1 := hF1.fz 1
    have HF1 : Hid (Flt w1 w.heap.size 0 0) := hF1
    clear hB1 hCk hF1
    go_wp2
    obtain ⟨k1, k2⟩ := flt_set HF1.out er (-1)
    have hb : Below w.heap.size w ((w1.setCell ⟨w.heap.size, 0, none⟩ (.int .i64 er)).setCell ⟨w.heap.size, 1, none⟩ (.int .i64 (-1))) :=
      HBW.out.grown k2 (by omega) (fun k e => by injection e with e; omega)
    have d0 := k1.c0
    have d1 := k1.c1
    generalize (w1.setCell ⟨w.heap.size, 0, none⟩ (.int .i64 er)).setCell ⟨w.heap.size, 1, none⟩ (.int .i64 (-1)) = W at *
    refine bodyPost_ret (v := .tuple #[.pointer none, .agg #[.int .i64 er, .int .i64 (-1)]]) (by simp [results, Tryz.results35, go_sem, d0, d1]) rfl ?_
    rw [HX.out]
    exact ⟨hb, rfl⟩
theorem form_eq (ns : List Bytes) (s : ByteArray) (nt : NT) (want : Nat) (hc : checkE ns = 0) (hw : ((wordsL s.toList).2.1, (wordsL s.toList).2.2) = ((0 : Int), (0 : Int))) : form5 ns s.toList nt want = ansR want (whole5 ns s.size nt (wordsL s.toList).1) := by
  unfold form5
  rw [if_neg (by simp [hc]), if_neg (by simp [hw]), tl_len]
  cases whole5 ns s.size nt (wordsL s.toList).1 with
  | error e => rfl
  | ok t => rfl
theorem ans_few {want : Nat} {y : Except Er (List Tk5)} : (ansR want y).1.length ≤ 512 := by
  cases y with
  | error e => simp [ansR]
  | ok t =>
    unfold ansR
    simp only
    split
    · simp
    · next h => exact (lookE_zero.1 (by simpa using h)).1
theorem ans_byt {want : Nat} {y : Except Er (List Tk5)} (h : ∀ t, y = .ok t → ∀ z ∈ t, z.1 < 256 ∧ z.2 < 256) : ∀ z ∈ (ansR want y).1, z.1 < 256 ∧ z.2 < 256 := by
  cases y with
  | error e => intro z hz; simp [ansR] at hz
  | ok t =>
    unfold ansR
    simp only
    split
    · intro z hz; simp at hz
    · exact h t rfl
set_option maxRecDepth 100000 in
set_option maxHeartbeats 4000000 in
theorem Tryz.formula_read : ReadC 20 formL := by
  intro a len cap ad ss s w hS _ hT
  have hBg := Tryz.pbegin_any a len cap ad ss s _ (hS.up (below_new w (.cells #[.int .i64 0, .int .i64 0] 31))) (hT.up (below_new _ _))
  have hFl := Flt.new w 0 0
  obtain ⟨wa, hwa⟩ : ∃ wa, wa = w.alloc (.cells #[.int .i64 0, .int .i64 0] 31) := ⟨_, rfl⟩
  have hba : Below w.heap.size w wa := by rw [hwa]; exact below_new _ _
  have hza : wa.heap.size = w.heap.size + 1 := by rw [hwa]; simp
  rw [← hwa] at hBg hFl
  have HBA : Hid (Below w.heap.size w wa) := hba
  have HFL : Hid (Flt wa w.heap.size 0 0) := hFl
  have hmf := mkfn
  clear hS hT hFl hba
  by_cases hc : checkE (nms ss) = 0
  · by_cases hwd : ((wordsL s.toList).2.1, (wordsL s.toList).2.2) = ((0 : Int), (0 : Int))
    · have hBg : Calls Tryz.prog 35 #[.slice a len cap, .string s] wa (fun e w' => Below wa.heap.size wa w' ∧ ∃ E : Ev, Env E ∧ E.w0 = w' ∧ E.ss = ss ∧ E.ws = (wordsL s.toList).1 ∧ E.fin = s.size ∧ wa.heap.size ≤ E.g ∧ w'.heap[E.g]? = some (rowE E 0 (.slice none 0 0)) ∧ e = .returned (.tuple #[.pointer (some ⟨E.g, 0, none⟩), .agg #[.int .i64 0, .int .i64 0]])) := hBg.mono fun e w' h => by
        unfold BegP at h; rw [if_neg (by simp [hc]), if_neg (by simp [hwd])] at h; exact h
      rcases words_two s with ⟨_, hbad⟩ | ⟨h4, l, hl, hsp⟩
      · exact absurd hwd hbad
      have hform : formL (nms ss) s.toList = ansR 1 (whole5 (nms ss) s.size (.lev 0) (wordsL s.toList).1) := form_eq _ _ _ _ hc hwd
      rw [hform]
      have hll : (wordsL s.toList).1 = l := by rw [hl]
      rw [hll] at hBg ⊢
      have HNE : Hid (∀ u ∈ l, u.tx.toList ≠ []) := fun u hu => (spans_good hsp u hu).1.1
      obtain ⟨x, hx, _⟩ := rd5_fine (nms ss) s.size (16 * l.length + 16) (.lev 0) l (need_le _ _)
      have hwh : whole5 (nms ss) s.size (.lev 0) l = endR (some x) := by unfold whole5; rw [hx]
      rw [hwh]
      have HTK : Hid (∀ z ∈ (ansR 1 (endR (some x))).1, z.1 < 256 ∧ z.2 < 256) := ans_byt fun t he => by
        cases x with
        | error er => simp [endR] at he
        | ok q =>
          obtain ⟨t', r⟩ := q
          cases r with
          | nil => simp [endR] at he; subst he; exact rd5_bytes _ (by have := checkE_few hc; omega) _ _ _ _ _ _ hx
          | cons u r => simp [endR] at he
      have HL : Hid ((ansR 1 (endR (some x))).1.length ≤ 512) := ans_few
      obtain ⟨y, hy⟩ : ∃ y, ansR 1 (endR (some x)) = y := ⟨_, rfl⟩
      rw [hy] at HTK HL ⊢
      have HY : Hid (ansR 1 (endR (some x)) = y) := hy
      obtain ⟨t, er, ea⟩ := y
      clear hform hl hll hwd hsp hc hwh hy
      go_enter Tryz.func20, Tryz.ntmps20
      go_wp2_with fail
      rw [← hwa]
      refine hBg.mono ?_
      rintro e w1 ⟨hB1, E, hV, rfl, hss, hws, hfin, hge, hrow, rfl⟩
      rw [← hss, ← hws, ← hfin] at hx
      have HNE : Hid (∀ u ∈ E.ws, u.tx.toList ≠ []) := by rw [hws]; exact HNE
      have hbn : Below E.w0.heap.size E.w0 (E.w0.alloc (.cells #[.int .i64 0, .int .i64 0] 31)) := below_new _ _
      have hWh := Tryz.pwhole_any (E.at (E.w0.alloc (.cells #[.int .i64 0, .int .i64 0] 31))) (16 * E.ws.length + 16) (.lev 0) 37 Tryz.call37 (fun E' => (all_c E' _).c_iff) 14 1 Tryz.call14 (fun a len cap ts w h => Tryz.tcheck_any a len cap ts w h) (hV.at hbn) ((hbn.block E.g hV.glt).trans hrow) HNE.out x hx
      have hWh : Calls Tryz.prog 36 #[.pointer (some ⟨E.g, 0, none⟩), fnV 37 E.g, .func (.func 14) #[] #[]] (E.w0.alloc (.cells #[.int .i64 0, .int .i64 0] 31)) (WholeP (E.at (E.w0.alloc (.cells #[.int .i64 0, .int .i64 0] 31))) (ansR 1 (endR (some x)))) := hWh
      rw [HY.out] at hWh
      have HB1 : Hid (Below wa.heap.size wa E.w0) := hB1
      have hlt := hV.glt
      have hsz := hB1.size
      clear hx hV hrow hBg hbn hB1 HNE hss hws hfin HY
      go_wp2_with fail
      refine hWh.mono ?_
      rintro e w3 ⟨v, rfl, ho, hg⟩
      obtain ⟨av, cv, rfl⟩ := own_sl ho
      have hzn : (E.at (E.w0.alloc (.cells #[.int .i64 0, .int .i64 0] 31))).w0.heap.size = E.w0.heap.size + 1 := by show (E.w0.alloc _).heap.size = _; simp
      have hg : (E.w0.alloc (.cells #[.int .i64 0, .int .i64 0] 31)).grownBy w3 (some E.g) := hg
      have hF3 : Flt w3 w.heap.size 0 0 := ((HFL.out.up HB1.out).up (below_new _ _)).grown hg (fun e => by injection e with e; omega)
      have HO3 : Hid (w3.ownsRow (E.w0.heap.size + 1) 41 2 (.slice av t.length cv) t.length (encT t)) := by rw [← hzn]; exact ho
      have HBW : Hid (Below w.heap.size w w3) := (below_step (below_step HBA.out HB1.out) (below_new _ _)).grown hg (by simp; omega) (fun k e => by injection e with e; omega)
      have f0 := hF3.c0
      have f1 := hF3.c1
      have g0 := hF3.fz 0
      have g1 := hF3.fz 1
      have HF3 : Hid (Flt w3 w.heap.size 0 0) := hF3
      clear ho hg hWh hF3 hzn
      go_wp2
      obtain ⟨k1, k2⟩ := flt_set HF3.out er ea
      have hb : Below w.heap.size w ((w3.setCell ⟨w.heap.size, 0, none⟩ (.int .i64 er)).setCell ⟨w.heap.size, 1, none⟩ (.int .i64 ea)) :=
        HBW.out.grown k2 (by have := HBW.out.size; omega) (fun k e => by injection e with e; omega)
      have hO := owns_low (base' := w.heap.size) (owns_keep HO3.out fun k hb hk => k2.block k hk (fun e => by injection e with e; omega)) (by omega)
      have d0 := k1.c0
      have d1 := k1.c1
      generalize (w3.setCell ⟨w.heap.size, 0, none⟩ (.int .i64 er)).setCell ⟨w.heap.size, 1, none⟩ (.int .i64 ea) = W at *
      refine bodyPost_ret (v := .tuple #[.slice av t.length cv, .agg #[.int .i64 er, .int .i64 ea]]) (by simp [results, Tryz.results20, go_sem, d0, d1]) rfl ?_
      exact ⟨_, rfl, hO, hb, HL.out, HTK.out⟩
    · have hw0 : ¬ ((wordsL s.toList).2.1 = 0) := fun e => hwd ((words_err s).1 e)
      have hBg : Calls Tryz.prog 35 #[.slice a len cap, .string s] wa (fun e w' => Below wa.heap.size wa w' ∧ e = .returned (.tuple #[.pointer none, .agg #[.int .i64 (wordsL s.toList).2.1, .int .i64 (wordsL s.toList).2.2]])) := hBg.mono fun e w' h => by
        unfold BegP at h; rw [if_neg (by simp [hc]), if_pos hwd] at h; exact h
      have hform : formL (nms ss) s.toList = ([], (wordsL s.toList).2.1, (wordsL s.toList).2.2) := by
        unfold formL form5; rw [if_neg (by simp [hc]), if_pos hwd]
      rw [hform]
      generalize (wordsL s.toList).2.1 = er at *
      generalize (wordsL s.toList).2.2 = ea at *
      clear hwd hc hform
      go_enter Tryz.func20, Tryz.ntmps20
      go_wp2_with fail
      rw [← hwa]
      refine hBg.mono ?_
      rintro e w1 ⟨hB1, rfl⟩
      have hF1 := HFL.out.up hB1
      have hsz1 := hB1.size
      have HBW : Hid (Below w.heap.size w w1) := below_step HBA.out hB1
      have f0 := hF1.c0
      have f1 := hF1.c1
      have g0 := hF1.fz 0
      have g1 := hF1.fz 1
      have hnq : ¬ (w.heap.size = w1.heap.size) := by omega
      have hl1 : w.heap.size < w1.heap.size := by omega
      have HF1 : Hid (Flt w1 w.heap.size 0 0) := hF1
      clear hB1 hBg hF1
      go_wp2
      go_region
      all_goals
        go_wp2
        obtain ⟨k1, k2⟩ := flt_set HF1.out er ea
        have hb : Below w.heap.size w (((w1.setCell ⟨w.heap.size, 0, none⟩ (.int .i64 er)).setCell ⟨w.heap.size, 1, none⟩ (.int .i64 ea)).alloc (.cells #[.int .i64 er, .int .i64 ea] 31)).drew :=
          below_drewN ((HBW.out.grown k2 (by omega) (fun k e => by injection e with e; omega)).alloc (by simp; omega) _) 1
        have k3 := k1.up (below_new _ (.cells #[.int .i64 er, .int .i64 ea] 31))
        have d0 := k3.c0
        have d1 := k3.c1
        refine bodyPost_ret (v := .tuple #[.slice none 0 0, .agg #[.int .i64 er, .int .i64 ea]]) (by simp [results, Tryz.results20, go_sem, d0, d1]) rfl ?_
        exact ⟨_, rfl, owns_nil _ _ _ _, hb, by simp, by intro z hz; simp at hz⟩
  · have hBg : Calls Tryz.prog 35 #[.slice a len cap, .string s] wa (fun e w' => Below wa.heap.size wa w' ∧ e = .returned (.tuple #[.pointer none, .agg #[.int .i64 (checkE (nms ss)), .int .i64 (-1)]])) := hBg.mono fun e w' h => by
      unfold BegP at h; rw [if_pos hc] at h; exact h
    have hform : formL (nms ss) s.toList = ([], checkE (nms ss), -1) := by
      unfold formL form5; rw [if_pos hc]
    rw [hform]
    generalize checkE (nms ss) = er at *
    obtain ⟨ea, hea⟩ : ∃ ea : Int, ea = -1 := ⟨_, rfl⟩
    rw [← hea] at hBg ⊢
    have hw0 := hc
    clear hc hform hea
    go_enter Tryz.func20, Tryz.ntmps20
    go_wp2_with fail
    rw [← hwa]
    refine hBg.mono ?_
    rintro e w1 ⟨hB1, rfl⟩
    have hF1 := HFL.out.up hB1
    have hsz1 := hB1.size
    have HBW : Hid (Below w.heap.size w w1) := below_step HBA.out hB1
    have f0 := hF1.c0
    have f1 := hF1.c1
    have g0 := hF1.fz 0
    have g1 := hF1.fz 1
    have hnq : ¬ (w.heap.size = w1.heap.size) := by omega
    have hl1 : w.heap.size < w1.heap.size := by omega
    have HF1 : Hid (Flt w1 w.heap.size 0 0) := hF1
    clear hB1 hBg hF1
    go_wp2
    go_region
    all_goals
      go_wp2
      obtain ⟨k1, k2⟩ := flt_set HF1.out er ea
      have hb : Below w.heap.size w (((w1.setCell ⟨w.heap.size, 0, none⟩ (.int .i64 er)).setCell ⟨w.heap.size, 1, none⟩ (.int .i64 ea)).alloc (.cells #[.int .i64 er, .int .i64 ea] 31)).drew :=
        below_drewN ((HBW.out.grown k2 (by omega) (fun k e => by injection e with e; omega)).alloc (by simp; omega) _) 1
      have k3 := k1.up (below_new _ (.cells #[.int .i64 er, .int .i64 ea] 31))
      have d0 := k3.c0
      have d1 := k3.c1
      refine bodyPost_ret (v := .tuple #[.slice none 0 0, .agg #[.int .i64 er, .int .i64 ea]]) (by simp [results, Tryz.results20, go_sem, d0, d1]) rfl ?_
      exact ⟨_, rfl, owns_nil _ _ _ _, hb, by simp, by intro z hz; simp at hz⟩
end Go.Proofs.YtfipefbaabkdeaaGreatDoor
