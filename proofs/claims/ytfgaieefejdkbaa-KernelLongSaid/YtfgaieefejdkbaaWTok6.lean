/- The document's Read: tokens to parts, by a stack. -/
import Derived.Test.YtfgaieefejdkbaaWTok5
import Derived.Test.YtfgaieefejdkbaaWTe3
namespace Go.Proofs.Ytfgaieefejdkbaa
open Go.RowKit Go.Maps

theorem own_cells {w : World} {base e n m g cap : Nat} {a : Option Addr} {ps : List Pt} (h : w.ownsRow base e 4 (.slice a n cap) n (encP ps)) (hsh : (a = none ∧ n = 0 ∧ cap = 0) ∨ a = some ⟨g, 0, none⟩) (hm : m ≤ n) : ∀ j, j < m * 4 → w.cell? ⟨g, j, none⟩ = (encP (ps.take m))[j]? := by
  intro j hj
  obtain ⟨hl, h⟩ := h
  rcases h with ⟨hn, h0⟩ | ⟨g', cap', cur, hv, _, hcell, hnc, hcm, hsz, htk⟩
  · omega
  · injection hv with hv _ _
    rcases hsh with ⟨h1, h2, _⟩ | h1
    · omega
    · rw [h1] at hv
      injection hv with hv
      injection hv with hv _ _
      subst hv
      rw [← encP_take, ← htk, List.take_take, Nat.min_eq_left (by omega), List.getElem?_take, if_pos hj]
      simp [World.cell?, hcell]
set_option maxHeartbeats 4000000 in
theorem Try.Read_any (a : Option Addr) (len cap : Nat) (ts : List Tk) (w : World) (hT : TkSl w a len cap ts) (hn : len ≤ 100000) :
    Calls Try.prog 36 #[.slice a len cap] w fun e w' => ReadR 65 (readP ts 0 []) w e w' ∧ Below w.heap.size w w' := by
  have hlen := hT.hlen
  go_enter Try.func36, Try.ntmps36
  go_wp2
  go_loopw [5, 6, 7] (fun v1 v2 j wr => ∃ (k : Nat) (all st : List Pt), k ≤ len ∧ j = .int .i64 k ∧ all.length = k ∧ st.length ≤ k ∧ (∀ x ∈ st, x.dep ≤ k) ∧ Hid (readP ts 0 [] = (readP (ts.drop k) k st).map fun x => (all ++ x.1, x.2)) ∧ Hid (wr.ownsRow w.heap.size 65 4 v1 all.length (encP all)) ∧ Hid (wr.ownsRow w.heap.size 65 4 v2 st.length (encP st)) ∧ Hid (∀ b1, v1.ownBlock = some b1 → v2.ownBlock ≠ some b1) ∧ Hid (Below w.heap.size w wr)) (fun _ _ j _ => len - (intOf j).toNat)
  case atStart => exact ⟨0, [], [], Nat.zero_le _, rfl, rfl, Nat.le_refl _, by simp, by show _ = _; simp, ⟨rfl, Or.inl ⟨rfl, rfl⟩⟩, ⟨rfl, Or.inl ⟨rfl, rfl⟩⟩, fun b h => by simp [Value.ownBlock] at h, Below.refl _ _⟩
  case round =>
    obtain ⟨k, all, st, hk, rfl, hal, hst, hdp, HR, HO1, HO2, HD, hbk⟩ := hrel
    by_cases hlt : k < len
    · have hkl : k < ts.length := by omega
      obtain ⟨g, o, s, hidx0, hc0, hc1, hgw, _⟩ := (hT.up hbk.out).at Try.underlying22 Try.sizeTok k hlt
      have hidx := fun w' => hidx0 len w' hlt
      clear hidx0
      obtain ⟨hop, hpp⟩ := hT.ok ts[k] (List.getElem_mem hkl)
      have HC : Hid _ := List.drop_eq_getElem_cons hkl
      have HS0 : Hid _ := HR.out.trans (congrArg _ (congrFun (congrFun (congrArg readP HC.out) k) st))
      generalize ts[k] = t at *
      obtain ⟨op, pp⟩ := t
      dsimp only at *
      have HS : Hid (readP ts 0 [] = Option.map (fun x => (all ++ x.1, x.2)) (match takesN (op, pp) with | none => none | some n => if st.length < n then none else if fitsP op (st.drop (st.length - n)) then (readP (ts.drop (k + 1)) (k + 1) (st.take (st.length - n) ++ [putP (op, pp) (st.drop (st.length - n)) k])).map (fun x => (putP (op, pp) (st.drop (st.length - n)) k :: x.1, x.2)) else none)) := HS0.out.trans (congrArg _ readP_step)
      clear HS0 HR HC
      have htk := fun w => Try.takes_any op pp w hpp
      obtain ⟨a2, g2, cap2, rfl, hsh, hP2, hcutF, hcutT⟩ := own_pt HO2.out Try.underlying61 Try.sizePart
      cases htn : takesN (op, pp) with
      | none =>
        have HF : Hid (readP ts 0 [] = none) := by show _ = _; rw [HS.out, htn]; rfl
        have hti : takesI (op, pp) = -1 := by unfold takesI; rw [htn]
        rw [hti] at htk
        clear HS hcutF hcutT hP2 hsh
        go_wp2_with fail
        refine (htk _).mono ?_
        rintro e w1 ⟨rfl, hw1⟩
        go_wp2
        refine bodyPost_ret (v := .tuple #[.slice none 0 0, .slice none 0 0, .bool false]) (by simp [results, Try.results36, go_sem]) rfl ⟨?_, below_step hbk.out hw1⟩
        rw [HF.out]; rfl
      | some n =>
        have hti : takesI (op, pp) = (n : Int) := by unfold takesI; rw [htn]
        rw [hti] at htk
        rw [htn] at HS
        dsimp only at HS
        have hn2 := takesN_le htn
        have hop23 := takesN_op htn
        by_cases hnl : st.length < n
        · have HF : Hid (readP ts 0 [] = none) := by show _ = _; rw [HS.out, if_pos hnl]; rfl
          have hg1 : ((st.length : Nat) : Int) < (n : Int) := by omega
          clear HS hcutF hcutT hP2 hsh
          go_wp2_with fail
          refine (htk _).mono ?_
          rintro e w1 ⟨rfl, hw1⟩
          go_wp2
          refine bodyPost_ret (v := .tuple #[.slice none 0 0, .slice none 0 0, .bool false]) (by simp [results, Try.results36, go_sem]) rfl ⟨?_, below_step hbk.out hw1⟩
          rw [HF.out]; rfl
        · have HS2 : Hid _ := HS.out
          rw [if_neg hnl] at HS2
          clear HS
          obtain ⟨lo, hlo⟩ : ∃ lo, lo = st.length - n := ⟨_, rfl⟩
          have hwl : IntKind.i64.wrap (((st.length : Nat) : Int) - (n : Int)) = (lo : Int) := by rw [IntKind.wrap_i64]; omega
          rw [← hlo] at HS2
          have hlo2 : lo + n = st.length := by omega
          clear hlo
          have hA : decide ((n : Int) < 0) = false := decide_eq_false (by omega)
          have hBd : decide (((st.length : Nat) : Int) < (n : Int)) = false := decide_eq_false (by omega)
          obtain ⟨a9, hslF, hP9⟩ := hcutF lo (by omega)
          obtain ⟨hslT, hcT⟩ := hcutT lo (by omega)
          have HCT : Hid _ := hcT
          clear hcutF hcutT hcT hP2
          have hnn : st.length - lo = n := by omega
          rw [hnn] at hslF hP9
          generalize cap2 - lo = cap9 at *
          have hdl : ∀ x ∈ st.drop lo, x.dep ≤ 1000000 := fun x hx => by have := hdp x (List.mem_of_mem_drop hx); omega
          have hdk : ∀ x ∈ st.drop lo, x.dep ≤ k := fun x hx => hdp x (List.mem_of_mem_drop hx)
          have hfit := fun w' (h : PtSl Try.prog 61 w' a9 g2 (4 * lo) n cap9 (st.drop lo)) => Try.fits_any op pp a9 g2 (4 * lo) n cap9 _ w' h htn
          have hput := fun w' (h : PtSl Try.prog 61 w' a9 g2 (4 * lo) n cap9 (st.drop lo)) => Try.rput_any op pp k a9 g2 (4 * lo) n cap9 _ w' h hn2 hop23 hdl
          have hpd := putP_dep (t := (op, pp)) (i := k) hdk
          have hltk : st.take lo ++ [] = st.take lo := by simp
          generalize st.drop lo = args at *
          go_wp2_with fail
          refine (htk _).mono ?_
          rintro e w1 ⟨rfl, hw1⟩
          have hd0 := kept_cell hc0 hw1
          have hd1 := kept_cell hc1 hw1
          have hP1 := hP9.up hw1
          have hb1 : Hid (Below w.heap.size w w1) := below_step hbk.out hw1
          have HO11 : Hid (World.ownsRow _ _ _ _ _ _ _) := owns_up HO1.out hw1
          have HO21 : Hid (World.ownsRow _ _ _ _ _ _ _) := owns_up HO2.out hw1
          clear hc0 hc1 hP9
          go_wp2_with fail
          refine (hfit _ hP1).mono ?_
          rintro e w2 ⟨rfl, hq2⟩
          have hw2 := below_of_drew hq2
          have hb2 : Hid (Below w.heap.size w w2) := below_step hb1.out hw2
          have HO12 : Hid (World.ownsRow _ _ _ _ _ _ _) := owns_up HO11.out hw2
          have HO22 : Hid (World.ownsRow _ _ _ _ _ _ _) := owns_up HO21.out hw2
          have he0 := kept_cell hd0 hw2
          have he1 := kept_cell hd1 hw2
          have hP2 := hP1.up hw2
          clear hd0 hd1 hP1 hq2 hfit HO11 HO21 hb1 htk
          by_cases hfp : fitsP op args = true
          · have HS3 : Hid _ := HS2.out
            rw [if_pos hfp, Option.map_map] at HS3
            clear HS2
            rw [hfp]
            go_wp2_with fail
            refine (hput _ hP2).mono ?_
            rintro e w3 ⟨rfl, hw3⟩
            have hb3 : Hid (Below w.heap.size w w3) := below_step hb2.out hw3
            have HO13 : Hid (World.ownsRow _ _ _ _ _ _ _) := owns_up HO12.out hw3
            have HO23 : Hid (World.ownsRow _ _ _ _ _ _ _) := owns_up HO22.out hw3
            clear hput hP2 he0 he1 HO12 HO22 hb2 hfp
            generalize putP (op, pp) args k = P at *
            have hm3 := hb3.out.size
            have hpd2 : P.dep ≤ k + 1 := hpd
            have hltk1 : (st.take lo).length = lo := by simp; omega
            have HSH : Hid _ := hsh
            have HA : Hid (PtBlk (w3.alloc (.cells (ptCells P) 65)) w3.heap.size 65 P) := PtBlk.new w3 65 P
            have hsz1 : (w3.alloc (.cells (ptCells P) 65)).heap.size = w3.heap.size + 1 := by simp
            have HA2 : Hid (PtBlk _ _ _ _) := PtBlk.new (w3.alloc (.cells (ptCells P) 65)) 65 P
            rw [hsz1] at HA2
            have HA1 : Hid (PtBlk _ _ _ _) := PtBlk.up HA.out (below_new _ (.cells (ptCells P) 65))
            have HO1A : Hid (World.ownsRow _ _ _ _ _ _ _) := World.ownsRow.alloc (World.ownsRow.alloc HO13.out (.cells (ptCells P) 65)) (.cells (ptCells P) 65)
            have HO2A : Hid (World.ownsRow _ _ _ _ _ _ _) := World.ownsRow.alloc (World.ownsRow.alloc HO23.out (.cells (ptCells P) 65)) (.cells (ptCells P) 65)
            have hb5 : Hid (Below w.heap.size w ((w3.alloc (.cells (ptCells P) 65)).alloc (.cells (ptCells P) 65))) := (hb3.out.alloc (by omega) _).alloc (by simp; omega) _
            have HPT : Hid (P = P) := rfl
            obtain ⟨p0, p1, p2, p3⟩ := P
            dsimp only [ptCells] at *
            clear hsh HO1 HO2
            go_wp2_with (at_builtin; refine Try.append_pt2 rfl _ _ rfl w.heap.size _ all.length all rfl HO1A.out (w3.heap.size + 1) ⟨p0, p1, p2, p3⟩ rfl HA2.out (by omega) (by simp; omega) ?_)
            intro v5 w5 hown5 hgr5 hat5
            have hlt1 := World.ownsRow.lt HO13.out
            have hlt2 := World.ownsRow.lt HO23.out
            have HB5 : Hid (PtBlk w5 w3.heap.size 65 ⟨p0, p1, p2, p3⟩) := PtBlk.grown HA1.out hgr5 (fun e => by have := hlt1 _ e; omega)
            have HO15 : Hid (World.ownsRow w5 _ _ _ _ _ _) := hown5
            have HO25 : Hid (World.ownsRow w5 _ _ _ _ _ _) := World.ownsRow.kept HO2A.out hgr5 (by
              cases h4 : (Value.slice a2 st.length cap2).ownBlock with
              | none => exact Or.inl rfl
              | some j => exact Or.inr (fun e => HD.out j e.symm h4))
            have hb6 : Hid (Below w.heap.size w w5) := hb5.out.grown hgr5 (by simp; omega) (fun j e => (hlt1 j e).1)
            have hs5 : w3.heap.size + 1 + 1 ≤ w5.heap.size := by have := hgr5.size; simpa using this
            have hlt15 := World.ownsRow.lt HO15.out
            have hcT : ∀ j, j < lo * 4 → w5.cell? ⟨g2, j, none⟩ = (encP (st.take lo))[j]? := own_cells HO25.out HSH.out (by omega)
            have HCT5 : Hid _ := hcT
            have HSH5 : Hid ((a2 = none ∧ lo = 0 ∧ cap2 = 0) ∨ a2 = some ⟨g2, 0, none⟩) := by
              rcases HSH.out with ⟨h1, h2, h3⟩ | h1
              · exact Or.inl ⟨h1, by omega, h3⟩
              · exact Or.inr h1
            clear hown5 hgr5 hat5 HO1A HO2A hb5 HA HA1 HA2 HO13 HO23 hcT HCT
            go_wp2_with (at_builtin; refine Try.append_pts rfl _ _ rfl w.heap.size rfl a2 g2 lo cap2 (st.take lo) rfl HSH5.out hltk1 HCT5.out (by omega) (by omega) ?_)
            intro v6 w6 hown6 hgr6 hat6
            have HB6 : Hid (PtBlk w6 w3.heap.size 65 ⟨p0, p1, p2, p3⟩) := PtBlk.grown HB5.out hgr6 (by simp)
            have HO16 : Hid (World.ownsRow w6 _ _ _ _ _ _) := World.ownsRow.kept HO15.out hgr6 (by
              cases h4 : v5.ownBlock with
              | none => exact Or.inl rfl
              | some j => exact Or.inr (by simp))
            have HO26 : Hid (World.ownsRow w6 _ _ _ _ _ _) := hown6
            have hb7 : Hid (Below w.heap.size w w6) := hb6.out.grown hgr6 (by omega) (fun j e => (by cases e))
            have hs6 : w5.heap.size ≤ w6.heap.size := hgr6.size
            have hlt26 := World.ownsRow.lt HO26.out
            have hlt16 := World.ownsRow.lt HO16.out
            have HD6 : Hid (∀ b1, v5.ownBlock = some b1 → v6.ownBlock ≠ some b1) := fun b1 h e => by
              rcases hat6 with h3 | h3
              · rw [h3] at e; cases e
              · rw [h3] at e; injection e with e; have := hlt15 b1 h; omega
            clear hown6 hgr6 hat6 HO15 HO25 HB5 hb6 hlt15
            have h60 := HB6.out.c0
            have h61 := HB6.out.c1
            have h62 := HB6.out.c2
            have h63 := HB6.out.c3
            dsimp only at h60 h61 h62 h63
            have HN : Hid (PtBlk _ _ _ _) := PtBlk.new w6 65 ⟨p0, p1, p2, p3⟩
            have HO2B : Hid (World.ownsRow _ _ _ _ _ _ _) := World.ownsRow.alloc HO26.out (.cells (ptCells ⟨p0, p1, p2, p3⟩) 65)
            go_wp2_with (at_builtin; refine Try.append_pt2 rfl _ _ rfl w.heap.size _ lo (st.take lo) rfl HO2B.out w6.heap.size ⟨p0, p1, p2, p3⟩ rfl HN.out (by omega) (by simp; omega) ?_)
            intro v7 w7 hown7 hgr7 hat7
            have HO27 : Hid (World.ownsRow w7 _ _ _ _ _ _) := hown7
            have HO17 : Hid (World.ownsRow w7 _ _ _ _ _ _) := World.ownsRow.kept (World.ownsRow.alloc HO16.out (.cells (ptCells ⟨p0, p1, p2, p3⟩) 65)) hgr7 (by
              cases h4 : v5.ownBlock with
              | none => exact Or.inl rfl
              | some j => exact Or.inr (fun e => HD6.out j h4 e.symm))
            have hb8 : Hid (Below w.heap.size w w7) := (hb7.out.alloc (by omega) _).grown hgr7 (by simp; omega) (fun j e => (hlt26 j e).1)
            have HD7 : Hid (∀ b1, v5.ownBlock = some b1 → v7.ownBlock ≠ some b1) := fun b1 h e => by
              rcases hat7 with h3 | h3
              · rw [h3] at e; exact HD6.out b1 h e
              · rw [h3] at e; injection e with e; have := hlt16 b1 h; omega
            clear hown7 hgr7 hat7 h60 h61 h62 h63
            go_wp2
            go_roundw
            case rel =>
              refine ⟨k + 1, all ++ [⟨p0, p1, p2, p3⟩], st.take lo ++ [⟨p0, p1, p2, p3⟩], by omega, by go_num, by simp; omega, by simp; omega, ?_, ?_, ?_, ?_, HD7, hb8⟩
              · intro x hx
                rcases List.mem_append.1 hx with h | h
                · have := hdp x (List.mem_of_mem_take h); omega
                · rw [List.mem_singleton.1 h]; exact hpd2
              · show _ = _
                rw [HS3.out]
                congr 1
                funext x
                simp
              · show World.ownsRow _ _ _ _ _ _ _
                have h := HO17.out
                rw [List.length_append, hal]; exact h
              · show World.ownsRow _ _ _ _ _ _ _
                have h := HO27.out
                rw [List.length_append, hltk1]; exact h
            case measure => simp [intOf]; omega
          · have hff : fitsP op args = false := by simpa using hfp
            have HF : Hid (readP ts 0 [] = none) := by show _ = _; rw [HS2.out, if_neg hfp]; rfl
            rw [hff]
            clear HS2 hfp hff
            go_wp2
            refine bodyPost_ret (v := .tuple #[.slice none 0 0, .slice none 0 0, .bool false]) (by simp [results, Try.results36, go_sem]) rfl ⟨?_, hb2.out⟩
            rw [HF.out]; rfl
    · obtain rfl : k = len := by omega
      have HE : Hid (readP ts 0 [] = some (all, st)) := by
        show _ = _
        rw [HR.out, List.drop_of_length_le (by omega)]; simp [readP]
      go_wp2
      refine bodyPost_ret (v := .tuple #[u5, u6, .bool true]) (by simp [results, Try.results36, go_sem]) rfl ⟨?_, hbk.out⟩
      rw [HE.out]
      exact ⟨_, _, rfl, HO1.out, HO2.out⟩
end Go.Proofs.Ytfgaieefejdkbaa
