/- Stage 6's law ShowFew: no pair of brackets can be left out. -/
import Derived.Test.YtfipefbaabkdeaaDoorWSh11
namespace Go.Proofs.YtfipefbaabkdeaaDoor
open Go.RowKit Go.Maps

/-- A text without two of its bytes. -/
def cutL (s : Bytes) (i k : Nat) : Bytes := s.take i ++ (s.drop (i + 1)).take (k - (i + 1)) ++ s.drop (k + 1)
theorem cut_count {s : Bytes} {i k : Nat} (hi : i < k) (hk : k < s.length) (h40 : s[i] = 40) : (cutL s i k).count 40 < s.count 40 := by
  have e1 : s = s.take i ++ (s[i] :: s.drop (i + 1)) := by rw [List.getElem_cons_drop, List.take_append_drop]
  have e2 : s.drop (i + 1) = (s.drop (i + 1)).take (k - (i + 1)) ++ s.drop k := by
    conv => lhs; rw [← List.take_append_drop (k - (i + 1)) (s.drop (i + 1)), List.drop_drop, show i + 1 + (k - (i + 1)) = k by omega]
  have e3 : s.drop k = s[k] :: s.drop (k + 1) := by rw [List.getElem_cons_drop]
  have h1 : s.count 40 = (s.take i).count 40 + 1 + ((s.drop (i + 1)).take (k - (i + 1))).count 40 + (s.drop k).count 40 := by
    conv => lhs; rw [e1, h40, e2]
    rw [List.count_append, List.count_cons, List.count_append]; simp; omega
  have h2 : (s.drop (k + 1)).count 40 ≤ (s.drop k).count 40 := by rw [e3, List.count_cons]; omega
  unfold cutL
  rw [List.count_append, List.count_append, h1]
  omega
theorem tell_bad {ns : List Bytes} {ts : List Tk} {want : Nat} (h : (tellL ns ts want).2 ≠ 0) : (tellL ns ts want).1 = [] := by
  unfold tellL at h ⊢
  split
  · rfl
  · split
    · rfl
    · split
      · rfl
      · split
        · rfl
        · split
          · rfl
          · next h1 h2 h3 h4 h5 => rw [if_neg h1, if_neg h2, if_neg h3, if_neg h4, if_neg h5] at h; exact absurd rfl h
/-- What ShowFew needs of a text. -/
theorem few_of {ns : List Bytes} {ts : List Tk} (h : (tellL ns ts 1).2 = 0) : (tellL ns ts 1).1.length ≤ 4096 ∧ EndOk (tellL ns ts 1).1 := by
  obtain ⟨hc, _, t, ht, _, hs, _, hn, he⟩ := tell_ok h (Or.inl rfl)
  rw [he]
  exact ⟨hn, sh_end (check_names hc) t ht hs⟩
theorem Tryd.cutTo (S : ByteArray) (i : Nat) (h : i ≤ S.size) (w : World) : (Instr.sliceAt 9 (.string S) none (some (.int .i64 (i : Int))) none).run Tryd.prog w = .ok (.string (S.extract 0 i)) w := by
  simp [Instr.sliceAt, Instr.slice, run_underlying Tryd.underlying9, go_sem, h]
theorem Tryd.cutMid (S : ByteArray) (i k : Nat) (h1 : i + 1 ≤ k) (h : k ≤ S.size) (w : World) : (Instr.sliceAt 9 (.string S) (some (.int .i64 ((i : Int) + 1))) (some (.int .i64 (k : Int))) none).run Tryd.prog w = .ok (.string (S.extract (i + 1) k)) w := by
  have e : ((i : Int) + 1) = ((i + 1 : Nat) : Int) := by omega
  rw [e]
  simp [Instr.sliceAt, Instr.slice, run_underlying Tryd.underlying9, go_sem, h]
  intro h2
  exact absurd (h2 (by omega)) (by omega)
theorem Tryd.cutFrom (S : ByteArray) (k : Nat) (h : k + 1 ≤ S.size) (w : World) : (Instr.sliceAt 9 (.string S) (some (.int .i64 ((k : Int) + 1))) none none).run Tryd.prog w = .ok (.string (S.extract (k + 1) S.size)) w := by
  have e : ((k : Int) + 1) = ((k + 1 : Nat) : Int) := by omega
  rw [e]
  simp [Instr.sliceAt, Instr.slice, run_underlying Tryd.underlying9, go_sem]
  intro h2
  exact absurd (h2 (by omega)) (by omega)
theorem cut_tl (S : ByteArray) (i k : Nat) : (S.extract 0 i ++ S.extract (i + 1) k ++ S.extract (k + 1) S.size).toList = cutL S.toList i k := by
  unfold cutL
  simp only [ByteArray.toList_eq, ByteArray.data_append, ByteArray.data_extract, Array.toList_append, Array.toList_extract]
  have hl : S.data.toList.length = S.size := rfl
  simp [List.extract_eq_take_drop]
  rw [List.take_of_length_le (i := S.size - (k + 1)) (by simp)]
set_option maxRecDepth 100000 in
set_option maxHeartbeats 4000000 in
theorem Tryd.few_any (a : Option Addr) (len cap : Nat) (ad : Nat → Addr) (ss : List ByteArray) (a' : Option Addr) (l' cap' : Nat) (ts : List Tk) (w : World) (hT : Tab w) (hO : OpT w) (hN : StrSl Tryd.prog 22 w a len cap ad ss) (hL : TkSl w a' l' cap' ts) :
    Calls Tryd.prog 4 #[.slice a len cap, .slice a' l' cap'] w fun e w' => e = .returned (.bool true) ∧ Below w.heap.size w w' := by
  have hA := Tryd.awake6_any w hT hO
  have hlb := Nat.le_trans hL.hcap hL.bd
  unfold maxLen at hlb
  have HT : Hid (Tab w) := hT
  have HO : Hid (OpT w) := hO
  have HN : Hid (StrSl Tryd.prog 22 w a len cap ad ss) := hN
  have HL : Hid (TkSl w a' l' cap' ts) := hL
  by_cases hz : 100 < l'
  · clear hT hO hN hL HT HO HN HL
    go_enter Tryd.func4, Tryd.ntmps4
    go_wp2_with fail
    refine hA.mono ?_
    rintro e w1 ⟨rfl, hb1⟩
    go_wp2
    go_ret
    exact ⟨rfl, hb1⟩
  have h1 := fun w' (hw : Below w.heap.size w w') => Tryd.show_formula a len cap ad ss a' l' cap' ts w' (HN.out.up hw) (HL.out.up hw) (HO.out.up hw)
  have h3 := fun (x : ByteArray) w' (hw : Below w.heap.size w w') (ht : x.size ≤ 4096) => Tryd.formula_read a len cap ad ss x w' (HN.out.up hw) (by unfold maxLen; omega) (HT.out.up hw)
  have h6 := fun a2 c2 u w' (hw : Below w.heap.size w w') (h : TkSl w' a2 u.length c2 u) => Tryd.sameT_any a' l' cap' ts a2 u.length c2 u w' (HL.out.up hw) h
  unfold TellP at h1
  generalize nms ss = ns at *
  have HF : Hid ((tellL ns ts 1).2 = 0 → ∀ s : Bytes, s.count 40 < (tellL ns ts 1).1.count 40 → ∀ er ea, (er, ea) = ((0 : Int), (0 : Int)) → formL ns s ≠ (ts, er, ea)) := fun h s hs er ea h0 => show_few h hs er ea h0
  have HE : Hid ((tellL ns ts 1).2 = 0 → (tellL ns ts 1).1.length ≤ 4096 ∧ EndOk (tellL ns ts 1).1) := few_of
  have HG : Hid ((tellL ns ts 1).2 ≠ 0 → (tellL ns ts 1).1 = []) := tell_bad
  generalize tellL ns ts 1 = r1 at *
  obtain ⟨tx, e1⟩ := r1
  dsimp only at *
  clear hT hO hN hL
  by_cases q1 : e1 = 0
  · subst q1
    obtain ⟨hsz, hend⟩ := HE.out rfl
    have HF2 : Hid (∀ s : Bytes, s.count 40 < tx.count 40 → ∀ er ea, (er, ea) = ((0 : Int), (0 : Int)) → formL ns s ≠ (ts, er, ea)) := HF.out rfl
    have hbs : (mkB tx).size = tx.length := mkB_size tx
    have hbt : (mkB tx).toList = tx := mkB_toList tx
    generalize mkB tx = S at *
    subst hbt
    have hss : S.size ≤ 4096 := by rw [hbs]; exact hsz
    clear hsz hbs
    have HEN : Hid (EndOk S.toList) := hend
    clear HF HE HG hend
    go_enter Tryd.func4, Tryd.ntmps4
    go_wp2_with fail
    refine hA.mono ?_
    rintro e w1 ⟨rfl, hb1⟩
    have HX1 : Hid (Below w.heap.size w w1) := hb1
    have j1 := h1 w1 hb1
    clear hA h1 hb1
    go_wp2_with fail
    refine j1.mono ?_
    rintro e w2 ⟨rfl, hb2⟩
    have HX2 : Hid (Below w.heap.size w w2) := below_step HX1.out hb2
    clear j1 hb2
    go_wp2
    go_loopw [8] (fun i wr => ∃ k : Nat, k ≤ S.size ∧ i = .int .i64 k ∧ Hid (Below w.heap.size w wr)) (fun i _ => S.size - (intOf i).toNat)
    case atStart => exact ⟨0, Nat.zero_le _, rfl, HX2⟩
    case round =>
      obtain ⟨i, hi, rfl, HB⟩ := hrel
      by_cases hlt : i < S.size
      · by_cases ho : S[i] = 40
        · have hcl := Tryd.closing_any S i wr hlt ho (fun h => by
            obtain ⟨q, c, he, hc⟩ := HEN.out
            have hl := tl_get S (S.size - 1) h
            have hz : S.size = q.length + 1 := by rw [← tl_len, he]; simp
            intro hh
            rw [hh, he, show S.size - 1 = q.length by omega] at hl
            simp at hl
            exact hc hl) (by omega)
          go_wp2_with fail
          refine hcl.mono ?_
          rintro e w4 ⟨⟨k, rfl, hik, hkl⟩, hb4⟩
          have HB4 : Hid (Below w.heap.size w w4) := below_step HB.out hb4
          clear hcl hb4
          have hk1 : k + 1 ≤ S.size := hkl
          have hi1 : i + 1 ≤ k := hik
          have c1 := Tryd.cutTo S i (by omega)
          have c2 := Tryd.cutMid S i k hi1 (by omega)
          have c3 := Tryd.cutFrom S k hk1
          have w1 : IntKind.i64.wrap ((i : Int) + 1) = (i : Int) + 1 := by rw [IntKind.wrap_i64]; omega
          have w2 : IntKind.i64.wrap ((k : Int) + 1) = (k : Int) + 1 := by rw [IntKind.wrap_i64]; omega
          have n0 : (S.extract 0 i).size ≤ i ∧ (S.extract (i + 1) k).size ≤ k - (i + 1) ∧ (S.extract (k + 1) S.size).size ≤ S.size - (k + 1) := by simp [ByteArray.size_extract]; omega
          have hct := cut_tl S i k
          generalize S.extract 0 i = X1 at *
          generalize S.extract (i + 1) k = X2 at *
          generalize S.extract (k + 1) S.size = X3 at *
          have n1 : ¬ 9223372036854775807 < X1.size + X2.size := by omega
          have n2 : ¬ 9223372036854775807 < X1.size + X2.size + X3.size := by omega
          have hxs : (X1 ++ X2 ++ X3).size ≤ 4096 := by rw [ByteArray.size_append, ByteArray.size_append]; omega
          have hcc : (cutL S.toList i k).count 40 < S.toList.count 40 := cut_count hik (by rw [tl_len]; exact hkl) (by have h40 := tl_get S i hlt; rw [List.getElem?_eq_getElem (by rw [tl_len]; exact hlt)] at h40; rw [Option.some.inj h40]; exact ho)
          have j3 := fun W (hW : Below w.heap.size w W) => h3 (X1 ++ X2 ++ X3) W hW hxs
          have hNE := HF2.out _ hcc
          rw [← hct] at hNE
          generalize formL ns (X1 ++ X2 ++ X3).toList = r at *
          obtain ⟨u, er, ea⟩ := r
          dsimp only at j3
          have HNE : Hid ((er, ea) = ((0 : Int), (0 : Int)) → decide (ts = u) = false) := fun h => decide_eq_false fun e => hNE er ea h (by rw [e])
          have hb4d : Below w.heap.size w w4.drew := HB4.out.drew
          have hb4a : Below w.heap.size w (w4.alloc (.cells #[.int .i64 0, .int .i64 0] 29)).drew := (below_step HB4.out (below_new _ _)).drew
          have hFa : Flt (w4.alloc (.cells #[.int .i64 0, .int .i64 0] 29)).drew w4.heap.size 0 0 := Flt.new w4 0 0
          have HFa : Hid (Flt (w4.alloc (.cells #[.int .i64 0, .int .i64 0] 29)).drew w4.heap.size 0 0) := hFa
          clear hNE hct hcc hxs hFa n0 h3
          go_upto_region 12 with fail
          go_region_held3 (fun _ => True) (trivial) (first
            | (go_at_call 8; refine (j3 _ hb4d).mono ?_; rintro e x5 ⟨v5, rfl, hown5, hb5, _, hok5⟩; obtain ⟨a5, c5, rfl, hT5⟩ := own_tks hown5 hok5; have hX5 := below_step hb4d hb5)
            | (go_at_call 8; refine (j3 _ hb4a).mono ?_; rintro e x5 ⟨v5, rfl, hown5, hb5, _, hok5⟩; obtain ⟨a5, c5, rfl, hT5⟩ := own_tks hown5 hok5; have hX5 := below_step hb4a hb5; have f5 := HFa.out.up hb5; have f50 := f5.c0; have f51 := f5.c1; have f52 := f5.fz 0; have f53 := f5.fz 1))
          · have HY : Hid (Below w.heap.size w (x5.alloc (.cells #[.int .i64 er, .int .i64 ea] 29))) := below_step hX5 (below_new _ _)
            have HU : Hid (TkSl (x5.alloc (.cells #[.int .i64 er, .int .i64 ea] 29)) a5 u.length c5 u) := hT5.up (below_new _ _)
            have qe := Tryd.eqlFlt er ea 0 0
            by_cases hq : (er, ea) = ((0 : Int), (0 : Int))
            · have j6 := h6 a5 c5 u _ HY.out HU.out
              rw [HNE.out hq] at j6
              rw [decide_eq_true hq] at qe
              clear h6 hown5 hb5 hok5 hT5 hX5 j3 hb4d hb4a hq c1 c2 c3
              go_wp2_with fail
              refine j6.mono ?_
              rintro e w8 ⟨rfl, hb8⟩
              have HB8 : Hid (Below w.heap.size w w8) := below_step HY.out hb8
              clear j6 hb8
              go_wp2
              go_roundw
              case rel => exact ⟨i + 1, by omega, by go_num, HB8⟩
              case measure => simp [intOf]; omega
            · rw [decide_eq_false hq] at qe
              clear h6 hown5 hb5 hok5 hT5 hX5 j3 hb4d hb4a hq c1 c2 c3
              go_wp2
              go_roundw
              case rel => exact ⟨i + 1, by omega, by go_num, HY⟩
              case measure => simp [intOf]; omega
          · obtain ⟨k1, k2⟩ := flt_set f5 er ea
            have hy := HB4.out.size
            have HY : Hid (Below w.heap.size w ((x5.setCell ⟨w4.heap.size, 0, none⟩ (.int .i64 er)).setCell ⟨w4.heap.size, 1, none⟩ (.int .i64 ea))) := below_set2 hX5 hy _ _
            have HU : Hid (TkSl ((x5.setCell ⟨w4.heap.size, 0, none⟩ (.int .i64 er)).setCell ⟨w4.heap.size, 1, none⟩ (.int .i64 ea)) a5 u.length c5 u) := hT5.grown k2 fun z hz e => by
              subst hz
              have h1 := own_ge hown5 z.block rfl
              have h2 : (w4.alloc (.cells #[.int .i64 0, .int .i64 0] 29)).drew.heap.size = w4.heap.size + 1 := by simp
              injection e with e
              omega
            have d0 := k1.c0
            have d1 := k1.c1
            have qe := Tryd.eqlFlt er ea 0 0
            by_cases hq : (er, ea) = ((0 : Int), (0 : Int))
            · have j6 := h6 a5 c5 u _ HY.out HU.out
              rw [HNE.out hq] at j6
              rw [decide_eq_true hq] at qe
              clear h6 hown5 hb5 hok5 hT5 hX5 j3 hb4d hb4a hq c1 c2 c3 k1 k2 f5 f50 f51 f52 f53
              go_wp2_with fail
              refine j6.mono ?_
              rintro e w8 ⟨rfl, hb8⟩
              have HB8 : Hid (Below w.heap.size w w8) := below_step HY.out hb8
              clear j6 hb8
              go_wp2
              go_roundw
              case rel => exact ⟨i + 1, by omega, by go_num, HB8⟩
              case measure => simp [intOf]; omega
            · rw [decide_eq_false hq] at qe
              clear h6 hown5 hb5 hok5 hT5 hX5 j3 hb4d hb4a hq c1 c2 c3 k1 k2 f5 f50 f51 f52 f53
              go_wp2
              go_roundw
              case rel => exact ⟨i + 1, by omega, by go_num, HY⟩
              case measure => simp [intOf]; omega
        · have o1 : ((S[i].toNat : Int) == 40) = false := byte_no ho
          go_wp2
          go_roundw
          case rel => exact ⟨i + 1, by omega, by go_num, HB⟩
          case measure => simp [intOf]; omega
      · go_wp2
        go_ret
        exact ⟨rfl, HB.out⟩
  · have e1' : (e1 == 0) = false := by simpa using q1
    have hg := HG.out q1
    subst hg
    clear h3 h6 HF HE HG
    go_enter Tryd.func4, Tryd.ntmps4
    go_wp2_with fail
    refine hA.mono ?_
    rintro e w1 ⟨rfl, hb1⟩
    have HX1 : Hid (Below w.heap.size w w1) := hb1
    have j1 := h1 w1 hb1
    have m1 : mkB [] = { data := #[] } := rfl
    rw [m1] at j1
    clear hA h1 hb1
    go_wp2_with fail
    refine j1.mono ?_
    rintro e w2 ⟨rfl, hb2⟩
    have HX2 : Hid (Below w.heap.size w w2) := below_step HX1.out hb2
    clear j1 hb2
    go_wp2
    go_ret
    exact ⟨rfl, HX2.out⟩
end Go.Proofs.YtfipefbaabkdeaaDoor
