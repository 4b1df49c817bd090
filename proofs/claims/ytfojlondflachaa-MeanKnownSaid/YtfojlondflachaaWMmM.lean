/- Package mean: what Ends answers. -/
import Derived.Test.YtfojlondflachaaWMmL
namespace Go.Proofs.Ytfojlondflachaa
open Go.RowKit Go.Maps

theorem Try.infoIn : (Try.prog.info? 3).map (fun i => (i.zero, i.size, i.bytes)) = some (some (.int .i64 0), 1, 8) := by kernel_rfl
/-- One number more behind a list of the call's own. -/
theorem Try.append_in {w : World} {ops : Array Oper} {rest : List Oper} {o : Oper} {a : Act} {Q : Exit → Act → World → Prop} (hgd : o.guard = none) (s x : Operand)
    (ho : o.op = .call { callee := .builtin .append, args := #[s, x], argTypes := #[35, 35] }) (base : Nat)
    (v : Value) (n : Nat) (zs : List Int) (hs : a.eval s = v) (hown : w.ownsRow base 3 1 v n (zs.map (Value.int .i64))) (g' : Nat) (z : Int) (hx : a.eval x = .slice (some ⟨g', 0, none⟩) 1 1) (hc : w.cell? ⟨g', 0, none⟩ = some (.int .i64 z))
    (hn : n + 1 ≤ 1000000) (hbase : base ≤ w.heap.size)
    (h : ∀ v' w', w'.ownsRow base 3 1 v' (n + 1) ((zs ++ [z]).map (Value.int .i64)) → w.grownBy w' v.ownBlock → wpList Try.prog ops Q rest (a.put o.dst v') w') : wpList Try.prog ops Q (o :: rest) a w := by
  obtain ⟨i, hi, hz0, hz1, hz2⟩ := info_parts Try.infoIn
  refine wpList_append_own w hgd s x 35 ho base 3 i _ 1 8 Try.underlying35 hi hz0 hz1 hz2 rfl (by decide) v n _ hs hown ⟨g', 0, none⟩ 1 1 [.int .i64 z] hx rfl ?_ (fun u hu => by simp at hu; subst hu; rfl) (by unfold maxLen; omega) (by omega) hbase ?_
  · intro j u hj
    match j with
    | 0 => simp at hj; rw [← hj, add_plain]; exact hc
    | j + 1 => simp at hj
  · intro v' w' h1 h2 _
    exact h v' w' (by rw [List.map_append]; exact h1) h2
def esT (rs : List Nat) (k : Nat) : List Nat := (List.range k).filter (hasW rs)
theorem esT_succ (rs : List Nat) (k : Nat) : esT rs (k + 1) = esT rs k ++ (if hasW rs k then [k] else []) := by
  unfold esT
  rw [List.range_succ, List.filter_append]
  cases h : hasW rs k <;> simp [h]
theorem esT_len (rs : List Nat) (k : Nat) : (esT rs k).length ≤ k := by
  unfold esT
  exact Nat.le_trans (List.length_filter_le _ _) (by simp)
theorem EndB.of {t : List Nat} {ts : List Tk} {v : Sv} {n i : Nat} {rs : List Nat} (hc : Cl t ts v) (hl : t.length = n) (hv : ∀ k, hasW rs k = true ↔ v.2 i k) : EndB t ts i (esT rs (n + 1)) := by
  refine ⟨List.pairwise_lt_range.filter _, fun u hu k => ?_⟩
  obtain rfl := hc.same hu
  unfold esT
  rw [List.mem_filter, List.mem_range, hv, hl, Nat.lt_succ_iff]
theorem RowU.grownI {w w' : World} {g base n : Nat} {ws : List Nat} {v : Value} {xs : List Value} (h : RowU w g ws) (ho : w.ownsRow base 3 1 v n xs) (hg : w.grownBy w' v.ownBlock) : RowU w' g ws := by
  refine h.grown hg fun e => ?_
  rcases ho.2 with ⟨rfl, _⟩ | ⟨g', cap, cur, rfl, _, hc, _⟩
  · cases e
  · injection e with e
    dsimp only at e
    subst e
    rw [h] at hc
    injection hc with hc
    injection hc with _ hc _
    exact absurd hc (by decide)
set_option maxRecDepth 100000 in
set_option maxHeartbeats 3200000 in
theorem Try.mEnds_any : EndsC 18 := by
  intro a len cap ts d m c zs i w hT hL
  have hm : zs.length = m := hL.sl.hlen
  have h1 := Try.mref_any 40 3 Try.ent_path Try.path_any a len cap ts d m c zs w hT hL
  have HK : Hid _ := ref_cases ts 3 zs
  have HG : Hid (lookE ts 3 = 0 → trE zs = 0 → ∀ w', Below w.heap.size w w' → Calls Try.prog 35 #[.slice a len cap, .slice d m c] w' fun e w'' => ∃ g rs q, e = .returned (.agg #[slV q, .slice (some ⟨g, 0, none⟩) (m + 1) (m + 1)]) ∧ EndAt w'' g (m + 1) rs ∧ (∀ i, i ≤ m → EndB (zN zs) ts i (esT (rs i) (m + 1))) ∧ Below w'.heap.size w' w'') := fun h0 ht w' hb => by
    obtain ⟨v, b, hc, hg, _, hb3, _⟩ := good_of zs h0
    have hf := tr_few ht
    refine (Try.mwhole_any a len cap ts m c d zs (b, v) w' (hT.up hb) (hL.up hb) (by omega) hg).mono fun e w'' h => ?_
    obtain ⟨g, rs, q, h1, h2, h3, h4⟩ := whole_end h (hb3 rfl)
    exact ⟨g, rs, q, h1, h2, fun i hi => EndB.of hc (by rw [zN_len]; exact hm) (h3 i hi), h4⟩
  clear hT hL
  unfold EndsR
  generalize refM ts 3 zs = R at *
  rcases HK.out with ⟨hr, hk⟩ | ⟨hr, hk1, hk2⟩
  · have HKK : Hid _ := hk
    clear HK HG hk
    go_enter Try.func18, Try.ntmps18
    go_wp2_with fail
    refine h1.mono ?_
    rintro e w1 ⟨rfl, hb1⟩
    have HB : Hid _ := hb1
    clear h1 hb1
    go_wp2
    go_ret2
    exact ⟨_, R, rfl, HB.out, Or.inl ⟨hr, (by rcases HKK.out with ⟨q1, q2⟩ | ⟨q1, q2, q3⟩; exact Or.inl ⟨q1, q2⟩; exact Or.inr (Or.inl ⟨q1, q2, q3⟩)), rfl⟩⟩
  · have h2 := HG.out hk1 hk2
    have HK1 : Hid _ := hk1
    have HK2 : Hid _ := hk2
    have hm1 : m ≤ 1024 := by have := tr_few hk2; omega
    have Hzm : Hid (zs.length = m) := hm
    subst hr
    clear HK HG hk1 hk2
    have hpl := fun w' => Try.mplace_any i d m c w'
    by_cases hi : 0 ≤ i ∧ i ≤ (m : Int)
    · have hp1 : plcB i m = true := decide_eq_true hi
      simp only [hp1] at hpl
      obtain ⟨k, rfl⟩ : ∃ k : Nat, i = (k : Int) := ⟨i.toNat, by omega⟩
      have hkm : k < m + 1 := by omega
      clear hp1
      go_enter Try.func18, Try.ntmps18
      go_wp2_with fail
      refine h1.mono ?_
      rintro e w1 ⟨rfl, hb1⟩
      go_wp2_with fail
      refine (hpl w1).mono ?_
      rintro e w1' ⟨rfl, hw⟩
      obtain rfl : w1 = w1' := hw.symm
      have h3 := h2 w1 hb1
      have HB1 : Hid _ := hb1
      clear h1 hb1 h2 hpl
      go_wp2_with fail
      refine h3.mono ?_
      rintro e w2 ⟨g, rs, q, rfl, hE, hv, hb2⟩
      have hfd := Try.fld1 (slV q) (.slice (some ⟨g, 0, none⟩) (m + 1) (m + 1))
      have hix := fun w' => Try.idxUs g (m + 1) k w' hkm
      have hcl := hE.cell (i := k) hkm
      have Hv : Hid (EndB (zN zs) ts k (esT (rs k) (m + 1))) := hv k (by omega)
      have HB2 : Hid (Below w.heap.size w w2) := below_step HB1.out hb2
      have HRW : Hid (RowU w2 (g + 1 + k) (rs k)) := hE.rows k hkm
      have HOK : Hid (OkW (wordsN (m + 1)) (rs k)) := hE.ok k hkm
      clear hv hb2 h3 hE HB1
      generalize rs k = ws at *
      have HWI : Hid (∀ j, j < m + 1 → j / 64 < wordsN (m + 1)) := fun j hj => words_in hj
      generalize wordsN (m + 1) = W at *
      go_wp2
      clear hfd hix hcl
      go_loopw [10, 32] (fun v i wr => ∃ j : Nat, j ≤ m + 1 ∧ i = .int .i64 j ∧ Hid (wr.ownsRow w.heap.size 3 1 v (esT ws j).length (((esT ws j).map Int.ofNat).map (Value.int .i64))) ∧ Hid (RowU wr (g + 1 + k) ws) ∧ Hid (Below w.heap.size w wr)) (fun _ i _ => m + 1 - (intOf i).toNat)
      case atStart => exact ⟨0, Nat.zero_le _, rfl, ⟨rfl, Or.inl ⟨rfl, rfl⟩⟩, HRW, HB2⟩
      case round =>
        obtain ⟨j, hj, rfl, HO, HR, HW⟩ := hrel
        clear HRW HB2
        obtain ⟨va, vc, rfl⟩ := own_sl HO.out
        by_cases hlt : j < m + 1
        · have hhas := Try.mhas_same (g + 1 + k) W j ws wr HR.out HOK.out (HWI.out j hlt) (by omega)
          have HSU : Hid _ := esT_succ ws j
          have hln := esT_len ws j
          generalize hasW ws j = p at *
          go_wp2_with fail
          refine hhas.mono ?_
          rintro e w3 ⟨rfl, hw⟩
          obtain rfl : wr = w3 := hw.symm
          clear hhas
          cases p with
          | false =>
            have HSE : Hid (esT ws (j + 1) = esT ws j) := by show _ = _; rw [HSU.out]; simp
            clear HSU
            go_wp2
            go_roundw
            case rel => exact ⟨j + 1, by omega, by go_num, by show World.ownsRow _ _ _ _ _ _ _; rw [HSE.out]; exact HO.out, HR, HW⟩
            case measure => simp [intOf] <;> omega
          | true =>
            have HSE : Hid (esT ws (j + 1) = esT ws j ++ [j]) := by show _ = _; rw [HSU.out]; simp
            clear HSU
            generalize esT ws j = es at *
            have HOA : Hid ((wr.alloc (.cells #[.int .i64 (j : Int)] 3)).ownsRow w.heap.size 3 1 (.slice va es.length vc) es.length ((es.map Int.ofNat).map (Value.int .i64))) := World.ownsRow.alloc HO.out _
            have HCA : Hid ((wr.alloc (.cells #[.int .i64 (j : Int)] 3)).cell? ⟨wr.heap.size, 0, none⟩ = some (.int .i64 (j : Int))) := cell_row (MapKept.heap_alloc wr _).1 0
            have HRA : Hid (RowU (wr.alloc (.cells #[.int .i64 (j : Int)] 3)) (g + 1 + k) ws) := HR.out.up (below_new _ _)
            have HWA : Hid (Below w.heap.size w (wr.alloc (.cells #[.int .i64 (j : Int)] 3))) := HW.out.alloc HW.out.size _
            have hszA : w.heap.size ≤ (wr.alloc (.cells #[.int .i64 (j : Int)] 3)).heap.size := HWA.out.size
            have HGE : Hid (∀ q, (Value.slice va es.length vc).ownBlock = some q → w.heap.size ≤ q) := own_ge HO.out
            clear HO HR HW
            go_wp2_with (at_builtin; refine Try.append_in rfl _ _ rfl w.heap.size _ es.length (es.map Int.ofNat) rfl HOA.out wr.heap.size (j : Int) rfl HCA.out (by omega) hszA ?_)
            intro v7 w7 hown7 hgr7
            have HO7 : Hid (w7.ownsRow w.heap.size 3 1 v7 (es.length + 1) ((es.map Int.ofNat ++ [(j : Int)]).map (Value.int .i64))) := by show World.ownsRow _ _ _ _ _ _ _; simpa using hown7
            have HR7 : Hid (RowU w7 (g + 1 + k) ws) := HRA.out.grownI HOA.out hgr7
            have HW7 : Hid (Below w.heap.size w w7) := HWA.out.grown hgr7 hszA (fun q e => HGE.out q e)
            clear hown7 hgr7 HOA HCA HRA HWA hszA HGE
            go_wp2
            go_roundw
            case rel =>
              refine ⟨j + 1, by omega, by go_num, ?_, HR7, HW7⟩
              show World.ownsRow _ _ _ _ _ _ _
              rw [HSE.out, List.length_append, List.map_append]
              exact HO7.out
            case measure => simp [intOf] <;> omega
        · obtain rfl : j = m + 1 := by omega
          go_wp2
          go_ret2
          exact ⟨_, 0, rfl, HW.out, Or.inr ⟨rfl, HK1.out, HK2.out, by omega, by rw [Hzm.out]; omega, esT ws (m + 1), HO.out, by rw [Int.toNat_natCast]; exact Hv.out⟩⟩
    · have hp1 : plcB i m = false := decide_eq_false hi
      simp only [hp1] at hpl
      have HI : Hid (i < 0 ∨ (zs.length : Int) < i) := by show _ ∨ _; rw [hm]; omega
      clear hp1 hi h2
      go_enter Try.func18, Try.ntmps18
      go_wp2_with fail
      refine h1.mono ?_
      rintro e w1 ⟨rfl, hb1⟩
      go_wp2_with fail
      refine (hpl w1).mono ?_
      rintro e w1' ⟨rfl, hw⟩
      obtain rfl : w1 = w1' := hw.symm
      have HB1 : Hid _ := hb1
      clear h1 hb1 hpl
      go_wp2
      go_ret2
      exact ⟨_, 2, rfl, HB1.out, Or.inl ⟨by decide, Or.inr (Or.inr ⟨HK1.out, HK2.out, rfl, HI.out⟩), rfl⟩⟩
end Go.Proofs.Ytfojlondflachaa
