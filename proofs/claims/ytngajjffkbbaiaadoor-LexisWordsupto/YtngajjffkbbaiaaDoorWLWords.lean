/- LexisWords: which words a text has, which sort a word is, which text words have. -/
import Derived.Test.YtngajjffkbbaiaaDoorWLx14
namespace Go.Proofs.YtngajjffkbbaiaaDoor
open Go.RowKit Go.Maps

theorem words_ok (s : ByteArray) : ∀ t ∈ (wordsL s.toList).1, t.Ok := by
  rcases words_two s with ⟨h, _⟩ | ⟨h4, l, hl, hs⟩
  · rw [h]; intro t ht; simp at ht
  · rw [hl]; exact spans_ok (by rw [tl_len]; exact h4) hs
theorem words_few (s : ByteArray) : (wordsL s.toList).1.length ≤ 4096 := by
  rcases words_two s with ⟨h, _⟩ | ⟨h4, l, hl, hs⟩
  · rw [h]; simp
  · rw [hl]; have := spans_len hs; rw [tl_len] at this; show l.length ≤ 4096; omega
theorem pls_bd {ts : List Wd} (h : ∀ t ∈ ts, t.Ok) : ∀ z ∈ pls ts, -9223372036854775808 ≤ z ∧ z < 9223372036854775808 := by
  intro z hz
  obtain ⟨t, ht, rfl⟩ := List.mem_map.1 hz
  exact (h t ht).pl
set_option maxRecDepth 100000 in
theorem Tryd.lwords_out (s : ByteArray) (a : Option Addr) (len cap : Nat) (w : World) (h : 4116 < s.size ∨ 200 < len) :
    Calls Tryd.prog 3 #[.string s, .slice a len cap] w fun e w' => e = .returned (.bool true) ∧ Below w.heap.size w w' := by
  by_cases h1 : 4116 < s.size
  · clear h
    go_enter Tryd.func3, Tryd.ntmps3
    go_wp2
    go_ret
    exact ⟨rfl, Below.refl _ _⟩
  · have h2 : 200 < len := by omega
    clear h
    go_enter Tryd.func3, Tryd.ntmps3
    go_wp2
    go_ret
    exact ⟨rfl, Below.refl _ _⟩
set_option maxRecDepth 100000 in
set_option maxHeartbeats 4000000 in
theorem Tryd.lwords_in (s : ByteArray) (a : Option Addr) (len cap : Nat) (ts : List Wd) (w : World) (hT : Tab w) (hS : WdSl w a len cap ts) (h1 : s.size ≤ 4116) (h2 : len ≤ 200) (hj : (joinL (txs ts)).length ≤ 140737488355328) :
    Calls Tryd.prog 3 #[.string s, .slice a len cap] w fun e w' => e = .returned (.bool true) ∧ Below w.heap.size w w' := by
  have HT : Hid (Tab w) := hT
  have HSl : Hid (WdSl w a len cap ts) := hS
  have HJ : Hid ((joinL (txs ts)).length ≤ 140737488355328) := hj
  have HLl : Hid (ts.length = len) := hS.hlen
  have hcp := hS.hcap
  have hbd := hS.bd
  unfold maxLen at hbd
  have hW := fun w' (h : Tab w') => Tryd.words_any s w' h
  have hR := fun w' => Tryd.rwords_any s w'
  have hok := words_ok s
  have hfew := words_few s
  have HSo := fun w' (h : Tab w') => Tryd.sort_any s w' h (by unfold maxLen; omega)
  have HRs := fun w' => Tryd.rsort_any s w' (by unfold maxLen; omega)
  generalize (wordsL s.toList).1 = ws at *
  generalize (wordsL s.toList).2.1 = er at *
  generalize (wordsL s.toList).2.2 = ea at *
  generalize (sortL s.toList).1 = so at *
  generalize (sortL s.toList).2 = okk at *
  have HOk : Hid (∀ t ∈ ws, t.Ok) := hok
  obtain ⟨n, hn⟩ : ∃ n, ws.length = n := ⟨_, rfl⟩
  rw [hn] at hW hR hfew
  have HN : Hid (ws.length = n) := hn
  have h3 := hW w hT
  clear hT hS hj hok hn
  go_enter Tryd.func3, Tryd.ntmps3
  go_wp2_with fail
  refine h3.mono ?_
  rintro e x1 ⟨v1, rfl, hown1, hb1⟩
  have HO1 : Hid (x1.ownsRow w.heap.size 33 3 v1 n (encW ws)) := hown1
  have HB1 : Hid (Below w.heap.size w (x1.alloc (.cells #[.int .i64 er, .int .i64 ea] 25))) := hb1.alloc hb1.size _
  have HX1 : Hid (Below w.heap.size w x1) := hb1
  have HF1 : Hid (Flt (x1.alloc (.cells #[.int .i64 er, .int .i64 ea] 25)) x1.heap.size er ea) := Flt.new x1 er ea
  have hW1 : x1.heap.size < (x1.alloc (.cells #[.int .i64 er, .int .i64 ea] 25)).heap.size := by simp
  have HU1 : Hid (Below x1.heap.size x1 (x1.alloc (.cells #[.int .i64 er, .int .i64 ea] 25))) := below_new _ _
  have h4 := hW _ (Tab.up HT.out HB1.out)
  clear h3 hown1 hb1
  obtain ⟨a1, c1, rfl⟩ : ∃ a1 c1, v1 = .slice a1 n c1 := by
    obtain ⟨a1, c1, h, _⟩ := own_wd HO1.out HOk.out; exact ⟨a1, c1, h⟩
  go_wp2_with fail
  generalize x1.alloc (.cells #[.int .i64 er, .int .i64 ea] 25) = w1 at *
  refine h4.mono ?_
  rintro e x2 ⟨v2, rfl, hown2, hb2⟩
  obtain ⟨a2, c2, rfl, hS2, hg2⟩ := own_wd (ts := ws) hown2 HOk.out
  have HS2 : Hid (WdSl (x2.alloc (.cells #[.int .i64 er, .int .i64 ea] 25)) a2 n c2 ws) := hS2.up (below_new _ _)
  have HG2 : Hid (∀ x, a2 = some x → w1.heap.size ≤ x.block) := fun x hx => (hg2 x hx).1
  have HU2 : Hid (Below w1.heap.size w1 (x2.alloc (.cells #[.int .i64 er, .int .i64 ea] 25))) := hb2.alloc hb2.size _
  have HB2 : Hid (Below w.heap.size w (x2.alloc (.cells #[.int .i64 er, .int .i64 ea] 25))) := below_step HB1.out HU2.out
  have HF2 : Hid (Flt (x2.alloc (.cells #[.int .i64 er, .int .i64 ea] 25)) x2.heap.size er ea) := Flt.new x2 er ea
  clear h4 hown2 hS2 hg2 hb2 hW
  go_wp2_with fail
  generalize x2.alloc (.cells #[.int .i64 er, .int .i64 ea] 25) = w2 at *
  refine (hR w2).mono ?_
  rintro e w3 ⟨v3, rfl, hown3, hb3⟩
  obtain ⟨a3, c3, rfl, hS3, hg3⟩ := own_wd (ts := ws) hown3 HOk.out
  have HS3 : Hid (WdSl w3 a3 n c3 ws) := hS3
  have HG3 : Hid (∀ x, a3 = some x → w2.heap.size ≤ x.block) := fun x hx => (hg3 x hx).1
  have HB3 : Hid (Below w.heap.size w w3) := below_step HB2.out hb3
  have HS23 : Hid (WdSl w3 a2 n c2 ws) := HS2.out.up hb3
  have HU13 : Hid (Below x1.heap.size x1 w3) := HU1.out.trans ((below_step HU2.out hb3).mono HU1.out.size)
  obtain ⟨b1, d1, e1, hS1, _⟩ := own_wd HO1.out HOk.out
  have HS13 : Hid (WdSl w3 a1 n c1 ws) := by
    injection e1 with e1 _ e2
    subst e1 e2
    exact hS1.up HU13.out
  have hF1 := (HF1.out.up HU2.out).up hb3
  have hF2 := HF2.out.up hb3
  have HGA : Hid (∃ ga, w.heap.size ≤ ga ∧ ga < w1.heap.size ∧ (0 < n → a1 = some ⟨ga, 0, none⟩ ∧ RowV w3 ga n)) := by
    by_cases h0 : 0 < n
    · obtain ⟨g, cp, e, hv, hge⟩ := own_rowV HO1.out h0
      injection e with e _ _
      exact ⟨g, hge, by have := hv.lt; omega, fun _ => ⟨e, hv.up HU13.out⟩⟩
    · exact ⟨x1.heap.size, HX1.out.size, hW1, fun h => absurd h h0⟩
  have f10 := hF1.c0
  have f11 := hF1.c1
  have f20 := hF2.c0
  have f21 := hF2.c1
  have hq := Tryd.neqFlt er ea er ea
  rw [decide_eq_true (rfl : (er, ea) = (er, ea))] at hq
  clear hown3 hS3 hg3 hb3 hR hS1 e1 hF1 hF2
  have hs1 := fun w' (hb : Below w3.heap.size w3 w') => Tryd.same_eq a1 a3 n c1 c3 ws w' (HS13.out.up hb) (HS3.out.up hb)
  have hs2 := fun w' (hb : Below w3.heap.size w3 w') => Tryd.same_eq a2 a3 n c2 c3 ws w' (HS23.out.up hb) (HS3.out.up hb)
  go_wp2_with fail
  refine (hs1 w3 (Below.refl _ _)).mono ?_
  rintro e w' ⟨rfl, n1, rfl⟩
  go_wp2_with fail
  refine (hs2 _ (below_drewN (Below.refl _ _) n1)).mono ?_
  rintro e w' ⟨rfl, n2, rfl⟩
  clear hs1 hs2
  obtain ⟨ga, hga1, hga2, hga3⟩ := HGA.out
  have HGB : Hid (w3.grownBy (w3.drewN (n1 + n2)) (some ga)) := below_grownI (below_drewN (Below.refl _ _) (n1 + n2)) |> fun h => ⟨h.os, h.tape, h.output, h.size, fun k hk _ => h.block k hk (by simp)⟩
  go_wp2
  go_loopw [12] (fun i wr => ∃ k : Nat, k ≤ n ∧ i = .int .i64 k ∧ Hid (w3.grownBy wr (some ga)) ∧ Hid (0 < n → RowV wr ga n)) (fun i _ => n - (intOf i).toNat)
  case atStart => exact ⟨0, Nat.zero_le _, rfl, HGB, fun h => ((hga3 h).2.up (below_drewN (Below.refl _ _) (n1 + n2)))⟩
  case round =>
    obtain ⟨k, hk, rfl, HGW, HRW⟩ := hrel
    by_cases hlt : k < n
    · obtain ⟨rfl, _⟩ := hga3 (by omega)
      have hV := HRW.out (by omega)
      obtain ⟨o0, c0⟩ := hV.cell (i := 3 * k) (by omega)
      obtain ⟨o1, c1'⟩ := hV.cell (i := 3 * k + 1) (by omega)
      obtain ⟨o2, c2'⟩ := hV.cell (i := 3 * k + 2) (by omega)
      have z0 := hV.fz (3 * k)
      have z1 := hV.fz (3 * k + 1)
      have z2 := hV.fz (3 * k + 2)
      have hik : ∀ w', (Instr.indexAt 22 (.slice (some ⟨ga, 0, none⟩) n c1) (.int .i64 k)).run Tryd.prog w' = .ok (.pointer (some ⟨ga, 3 * k, none⟩)) w' := fun w' => by
        simp [Instr.indexAt, run_underlying Tryd.underlying22, asIntOf, sizeOf_run3 Tryd.sizeWd, hlt, Result.andThen, go_sem, Nat.mul_comm, add_plain]
      clear hV
      go_wp2
      go_roundw
      case rel => exact ⟨k + 1, by omega, by go_num, grown_set (grown_set (grown_set HGW.out _ _) _ _) _ _, fun h => (((HRW.out h).set _ _).set _ _).set _ _⟩
      case measure => simp [intOf]; omega
    · have HBw : Hid (Below w.heap.size w wr) := HB3.out.grown HGW.out HB3.out.size (fun q hq => by injection hq with hq; omega)
      have hge : w1.heap.size ≤ w2.heap.size := HU2.out.size
      have HSb : Hid (WdSl wr a2 n c2 ws) := HS23.out.grown HGW.out (fun x hx e => by have := HG2.out x hx; injection e with e; omega)
      have HSc : Hid (WdSl wr a3 n c3 ws) := HS3.out.grown HGW.out (fun x hx e => by have := HG3.out x hx; injection e with e; omega)
      clear hge
      have h5 := HSo wr (Tab.up HT.out HBw.out)
      go_wp2_with fail
      refine h5.mono ?_
      rintro e w5 ⟨rfl, hb5⟩
      clear h5
      go_wp2_with fail
      refine (HRs w5).mono ?_
      rintro e w6 ⟨rfl, hb6⟩
      have HB6 : Hid (Below wr.heap.size wr w6) := below_step hb5 hb6
      have HBw6 : Hid (Below w.heap.size w w6) := below_step HBw.out HB6.out
      have HSl6 : Hid (WdSl (w6.alloc (.cells #[] 33)) a len cap ts) := (HSl.out.up HBw6.out).up (below_new _ _)
      clear hb5 hb6 HSo HRs
      have HE6 : Hid ((w6.alloc (.cells #[] 33)).ownsRow w6.heap.size 33 3 (.slice (some ⟨w6.heap.size, 0, none⟩) 0 0) 0 (encW [])) := own_empty3 w6 _
      have hl2 : ts.length ≤ 10000000 := by have := HLl.out; omega
      go_wp2_with (at_builtin; refine Tryd.append_wds rfl _ _ rfl w6.heap.size _ [] ts a len cap rfl rfl HE6.out HSl6.out (by simp) hl2 (by simp) ?_)
      intro v7 w7 hown7 hgr7
      have hown7' : w7.ownsRow w6.heap.size 33 3 v7 ts.length (encW ts) := hown7
      obtain ⟨a7, c7, rfl, hS7, _⟩ := own_wd (ts := ts) hown7' HSl.out.ok
      rw [HLl.out] at hS7 ⊢
      have HS7 : Hid (WdSl w7 a7 len c7 ts) := hS7
      have HB7 : Hid (Below w6.heap.size w6 w7) := (below_new w6 (.cells #[] 33)).grown hgr7 (by simp) (fun q hq => by simp [Value.ownBlock] at hq; omega)
      have hc7 := hS7.bd
      unfold maxLen at hc7
      clear hown7 hgr7 hown7' hS7 HE6 HSl6
      have h8 := Tryd.places_any a7 len c7 ts w7 HS7.out (by omega)
      go_wp2_with fail
      refine h8.mono ?_
      rintro e w8 ⟨rfl, hr8, hb8⟩
      have h9 := Tryd.places_any a7 len c7 ts w8 (HS7.out.up hb8) (by omega)
      have HR8 : Hid (RowI w8 3 w7.heap.size (pls ts)) := hr8
      have HB8 : Hid (Below w7.heap.size w7 w8) := hb8
      have hlt8 := hr8.lt
      clear h8 hr8 hb8
      go_wp2_with fail
      refine h9.mono ?_
      rintro e w9 ⟨rfl, hr9, hb9⟩
      have HR9 : Hid (RowI w9 3 w8.heap.size (pls ts)) := hr9
      have HR89 : Hid (RowI w9 3 w7.heap.size (pls ts)) := HR8.out.up hb9
      have HB9 : Hid (Below w7.heap.size w7 w9) := below_step HB8.out hb9
      have HBr9 : Hid (Below wr.heap.size wr w9) := below_step (below_step HB6.out HB7.out) HB9.out
      have HBw9 : Hid (Below w.heap.size w w9) := below_step HBw.out HBr9.out
      clear h9 hr9 hb9
      have h10 := Tryd.same_eq a2 a3 n c2 c3 ws w9 (HSb.out.up HBr9.out) (HSc.out.up HBr9.out)
      go_wp2_with fail
      refine h10.mono ?_
      rintro e w' ⟨rfl, n9, rfl⟩
      have HBd : Hid (Below w9.heap.size w9 (w9.drewN n9)) := below_drewN (Below.refl _ _) n9
      have h11 := Tryd.join_any a7 len c7 ts (w9.drewN n9) ((HS7.out.up HB9.out).up HBd.out) HJ.out
      clear h10
      go_wp2_with fail
      refine h11.mono ?_
      rintro e w11 ⟨rfl, hb11⟩
      have HB11 : Hid (Below w9.heap.size w9 w11) := below_step HBd.out hb11
      have h12 := Tryd.rjoin_any a len cap ts w11 (HSl.out.up (below_step HBw9.out HB11.out)) HJ.out
      clear h11 hb11
      generalize mkB (joinL (txs ts)) = jj at *
      go_wp2_with fail
      refine h12.mono ?_
      rintro e w' ⟨rfl, hw'⟩
      obtain rfl := hw'.symm
      have hpl : (pls ts).length = len := by rw [pls_len]; exact HLl.out
      have h13 := Tryd.apartI_two w11 w7.heap.size w8.heap.size (pls ts) (pls ts) (HR89.out.up HB11.out) (HR9.out.up HB11.out) (by omega) ⟨by omega, by omega⟩ ⟨pls_bd HSl.out.ok, pls_bd HSl.out.ok⟩
      rw [hpl] at h13
      clear h12
      go_wp2_with fail
      refine h13.mono ?_
      rintro e w13 ⟨rfl, hb13⟩
      have HB13 : Hid (Below w9.heap.size w9 w13) := below_step HB11.out hb13
      have HBw13 : Hid (Below w.heap.size w w13) := below_step HBw9.out HB13.out
      have HRp : Hid (RowI w13 3 w7.heap.size (pls ts)) := HR89.out.up HB13.out
      have HSl13 : Hid (WdSl w13 a len cap ts) := HSl.out.up HBw13.out
      clear h13 hb13
      go_wp2
      go_loopw [20] (fun i wr => ∃ k : Nat, k ≤ len ∧ i = .int .i64 k ∧ ∃ n, wr = w13.drewN n) (fun i _ => len - (intOf i).toNat)
      case atStart => exact ⟨0, Nat.zero_le _, rfl, 0, rfl⟩
      case round =>
        obtain ⟨k2, hk2, rfl, m2, rfl⟩ := hrel
        by_cases hlt2 : k2 < len
        · have hkl : k2 < ts.length := by have := HLl.out; omega
          obtain ⟨g, o, sh, hidx, _, _, c2', _, _⟩ := HSl13.out.at Tryd.underlying22 Tryd.sizeWd k2 hlt2
          have hik := fun w => hidx len w hlt2
          have hpc := HRp.out.cell (i := k2) (by rw [hpl]; exact hlt2)
          rw [pls_get hkl] at hpc
          have hidy : ∀ w', (Instr.indexAt 36 (.slice (some ⟨w7.heap.size, 0, none⟩) len len) (.int .i64 k2)).run Tryd.prog w' = .ok (.pointer (some ⟨w7.heap.size, k2, none⟩)) w' := fun w' => by
            have := idx_of (a := some ⟨w7.heap.size, 0, none⟩) (cap := len) (n := len) Tryd.underlying36 Tryd.sizeInt (by simp) k2 w' hlt2
            simpa [adOf, add_plain] using this
          clear hidx
          generalize (ts[k2]'hkl).pl = pl at *
          go_wp2
          go_quiet (fail)
          go_wp2
          go_roundw
          case rel => exact ⟨k2 + 1, by omega, by go_num, m2 + nq, rfl⟩
          case measure => simp [intOf]; omega
        · have HBd2 : Hid (Below w13.heap.size w13 (w13.drewN m2)) := below_drewN (Below.refl _ _) m2
          have h14 := Tryd.same_eq a7 a len c7 cap ts (w13.drewN m2) (((HS7.out.up HB9.out).up HB13.out).up HBd2.out) (HSl13.out.up HBd2.out)
          go_wp2_with fail
          refine h14.mono ?_
          rintro e w' ⟨rfl, m3, rfl⟩
          go_wp2
          go_ret
          exact ⟨rfl, below_drewN HBw13.out (m2 + m3)⟩
end Go.Proofs.YtngajjffkbbaiaaDoor
