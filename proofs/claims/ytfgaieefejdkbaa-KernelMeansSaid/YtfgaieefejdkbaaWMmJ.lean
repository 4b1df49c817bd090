/- Package mean: whole. -/
import Derived.Test.YtfgaieefejdkbaaWMmI
import Derived.OwnWalk
namespace Go.Proofs.Ytfgaieefejdkbaa
open Go.RowKit Go.Maps

/-- Checked tokens. -/
structure Good (t : List Nat) (ts : List Tk) (x : Sk) : Prop where
  few : ts.length ≤ 512
  ok : ∀ k (h : k < ts.length), OkAt t.length (skS t (ts.take k) []) ts[k]
  fin : skS t ts [] = [x]
theorem skS_nil (t : List Nat) : skS t [] [] = [] := rfl
theorem PartOk.low {w : World} {n b b' lo hi : Nat} {x : Sk} {p : Mp} (h : PartOk w n b x p lo hi) (hb : b' ≤ b) : PartOk w n b' x p lo hi := ⟨h.1, fun hx => by
  obtain ⟨g, bs, h1, h2, h3, h4, h5⟩ := h.2 hx
  exact ⟨g, bs, h1, h2, h3, h4, Nat.le_trans hb h5⟩⟩
/-- What whole answers. -/
def WholeR (n : Nat) (x : Sk) (w : World) (e : Ending) (w' : World) : Prop := ∃ p lo hi, e = .returned (.agg #[slV p.1, slV p.2]) ∧ PartOk w' n w.heap.size x p lo hi ∧ w.heap.size ≤ lo ∧ Below w.heap.size w w'
theorem own_new {w : World} {b B : Nat} {st : List Mp} {va : Option Addr} {vl vc : Nat} (h : StkAt w b B st) (hc : w.heap[b]? = some (.cells #[.slice va vl vc] 107 (0, 0))) : w.ownsRow (b + 1) 75 2 (.slice va vl vc) st.length (encS st) ∧ vl = st.length := by
  obtain ⟨v, h1, h2, _⟩ := h.c
  rw [hc] at h1
  injection h1 with h1
  injection h1 with h1 _ _
  have : v = .slice va vl vc := by simpa using h1.symm
  subst this
  refine ⟨h2, ?_⟩
  rcases h2.2 with ⟨e, hn⟩ | ⟨g, cap, cur, e, _⟩
  · injection e with _ e _; omega
  · injection e
theorem KeepT.of_grownO {G : Nat} {w w' : World} {v : Value} {n m : Nat} {xs : List Value} (h : w.grownBy w' v.ownBlock) (ho : w.ownsRow m 75 2 v n xs) : KeepT G w w' := fun k c t z hc ht =>
  h.block k (Array.getElem?_eq_some_iff.1 hc).1 fun e => by
    rcases ho.2 with ⟨rfl, _⟩ | ⟨g, cap, cur, rfl, _, hcell, _⟩
    · cases e
    · injection e with e
      dsimp only at e
      subst e
      rw [hcell] at hc
      injection hc with hc
      injection hc with _ hc _
      subst hc
      rcases ht with ht | ⟨ht | ht, _⟩ <;> exact absurd ht (by decide)
theorem KeepT.of_set {G b : Nat} {w : World} {c0 : Array Value} {z0 : Nat × Nat} (hj : w.heap[b]? = some (.cells c0 107 z0)) (i : Nat) (u : Value) : KeepT G w (w.setCell ⟨b, i, none⟩ u) :=
  KeepT.of_grown (j := b) ⟨rfl, rfl, rfl, by simp [World.setCell], fun k _ hne => Below.heap_setCell _ _ _ _ (fun e => hne (congrArg some e))⟩ hj (by decide) (by decide) (by decide)
set_option maxRecDepth 100000 in
set_option maxHeartbeats 4000000 in
theorem Try.mwhole_any (a : Option Addr) (len cap : Nat) (ts : List Tk) (n c : Nat) (d : Option Addr) (zs : List Int) (x : Sk) (w : World) (hT : TkSl w a len cap ts) (hL : LtSl w d n c zs) (hn : n ≤ 10000) (hG : Good (zN zs) ts x) :
    Calls Try.prog 42 #[.slice a len cap, .slice d n c] w (WholeR n x w) := by
  have hlen := hT.hlen
  have hzl : (zN zs).length = n := by rw [zN_len]; exact hL.sl.hlen
  have hl5 := hG.few
  have HT : Hid (TkSl w a len cap ts) := hT
  have HL : Hid (LtSl w d n c zs) := hL
  have HG : Hid (Good (zN zs) ts x) := hG
  have hw2 := below_step (below_new w (.cells #[.slice none 0 0, .slice none 0 0] 75)) (below_new (w.alloc (.cells #[.slice none 0 0, .slice none 0 0] 75)) (.cells #[.slice none 0 0] 107))
  have hres := (Below.heap_alloc (w.alloc (.cells #[.slice none 0 0, .slice none 0 0] 75)) (.cells #[.slice none 0 0] 107) w.heap.size (by simp)).trans (MapKept.heap_alloc w _).1
  have hstk := (MapKept.heap_alloc (w.alloc (.cells #[.slice none 0 0, .slice none 0 0] 75)) (.cells #[.slice none 0 0] 107)).1
  have hsz : ((w.alloc (.cells #[.slice none 0 0, .slice none 0 0] 75)).alloc (.cells #[.slice none 0 0] 107)).heap.size = w.heap.size + 2 := by simp
  rw [show (w.alloc (.cells #[.slice none 0 0, .slice none 0 0] 75)).heap.size = w.heap.size + 1 by simp] at hstk
  clear hT hL hG
  go_enter Try.func42, Try.ntmps42
  go_wp2
  generalize (w.alloc (.cells #[.slice none 0 0, .slice none 0 0] 75)).alloc (.cells #[.slice none 0 0] 107) = w2 at *
  have HB2 : Hid (Below w.heap.size w w2) := hw2
  have HS0 : Hid (StkAt w2 (w.heap.size + 1) w2.heap.size []) := ⟨⟨.slice none 0 0, hstk, ⟨rfl, Or.inl ⟨rfl, rfl⟩⟩, fun k hk => by cases hk⟩, by omega⟩
  have HR : Hid _ := hres
  have Hsz : Hid _ := hsz
  clear hw2 hres hstk hsz
  go_loopw [11] (fun i wr => ∃ k : Nat, k ≤ len ∧ i = .int .i64 k ∧ (∃ l : List (Sk × Mp), Hid (StkAt wr (w.heap.size + 1) wr.heap.size ((l.map (·.2)).reverse)) ∧ Hid (Parts wr n (w.heap.size + 1) wr.heap.size l) ∧ Hid ((l.map (·.1)).reverse = skS (zN zs) (ts.take k) []) ∧ Hid (l.length ≤ k)) ∧ Hid (Below (w.heap.size + 1) w2 wr)) (fun i _ => len - (intOf i).toNat)
  case atStart => exact ⟨0, Nat.zero_le _, rfl, ⟨[], HS0, by show Parts _ _ _ _ _; have := Hsz.out; unfold Parts; omega, rfl, Nat.le_refl _⟩, Below.refl _ _⟩
  case round =>
    obtain ⟨k, hk, rfl, ⟨l, HS, HP, HE, HLL⟩, HW⟩ := hrel
    clear HS0
    have hszr := HW.out.size
    have hsz2 := Hsz.out
    have HWW : Hid (Below w.heap.size w wr) := HB2.out.trans (HW.out.mono (by omega))
    by_cases hlt : k < len
    · obtain ⟨g1, o1, s1, hi1, hx0, hx1, hg1, _⟩ := (HT.out.up HWW.out).at Try.underlying22 Try.sizeTok k hlt
      have hidx := fun w' => hi1 len w' hlt
      clear hi1
      have hxl : k < ts.length := by omega
      have hok := HG.out.ok k hxl
      have HNX : Hid (skS (zN zs) (ts.take (k + 1)) [] = skStep (zN zs) (skS (zN zs) (ts.take k) []) ts[k]) := skS_next _ hxl _
      rw [← HE.out] at hok HNX
      rw [hzl] at hok
      generalize ts[k] = q at *
      obtain ⟨op, p⟩ := q
      dsimp only at hx0 hx1
      have hb1 := below_new wr (.cells #[.int .u8 (op : Int), .int .u8 (p : Int)] 37)
      have hll := HLL.out
      obtain ⟨y, rest, hst, hrl, hcall⟩ := Try.mwork_any (w.heap.size + 1) n c wr.heap.size d zs op p l (wr.alloc (.cells #[.int .u8 (op : Int), .int .u8 (p : Int)] 37)) ((HL.out.up HWW.out).up hb1) hn ((HS.out.up hb1).size) (HP.out.keep (KeepT.of_below hb1)) hb1.size (by omega) hok
      have HST : Hid _ := hst
      have HRL : Hid _ := hrl
      have hz1 : (wr.alloc (.cells #[.int .u8 (op : Int), .int .u8 (p : Int)] 37)).heap.size = wr.heap.size + 1 := by simp
      clear hst hrl hok HS HP
      go_wp2_with fail
      have HB1 : Hid _ := hb1
      clear hb1 hx0 hx1 hidx
      generalize wr.alloc (.cells #[.int .u8 (op : Int), .int .u8 (p : Int)] 37) = w3 at *
      refine hcall.mono ?_
      rintro e w4 ⟨pv, rfl, hs4, hp4, hb4⟩
      obtain ⟨⟨xa, xl, xc⟩, ⟨ya, yl, yc⟩⟩ := pv
      obtain ⟨v, hr4, ho4, _⟩ := hs4.c
      obtain ⟨va, vc, rfl⟩ := own_sl ho4
      have hbl4 : w.heap.size + 1 < w4.heap.size := (Array.getElem?_eq_some_iff.1 hr4).1
      have hz4 := hb4.size
      rw [hz1] at hz4
      have hlr := HRL.out
      have HRS : Hid (((((y, ((xa, xl, xc), (ya, yl, yc))) :: rest).map (·.2)).reverse : List Mp) = (rest.map (·.2)).reverse ++ [((xa, xl, xc), (ya, yl, yc))]) := by show _ = _; simp
      have HLE : Hid (((rest.map (·.2)).reverse : List Mp).length = rest.length) := by show _ = _; simp
      have HPt : Hid (Parts w4 n (w.heap.size + 1) w4.heap.size ((y, ((xa, xl, xc), (ya, yl, yc))) :: rest)) := hp4
      have hll3 : ((rest.map (·.2)).reverse : List Mp).length ≤ 1000 := by rw [HLE.out]; omega
      have hz4' := hb4.size
      have HW4 : Hid (Below (w.heap.size + 1) w2 w4) := (HW.out.trans (HB1.out.mono (by omega))).trans hb4
      generalize hst : ((rest.map (·.2)).reverse : List Mp) = st at *
      have HST2 : Hid (((rest.map (·.2)).reverse : List Mp) = st) := hst
      clear hst
      have hb5 := below_new w4 (.cells #[.slice xa xl xc, .slice ya yl yc] 75)
      have hb6 := below_step hb5 (below_new (w4.alloc (.cells #[.slice xa xl xc, .slice ya yl yc] 75)) (.cells #[.slice xa xl xc, .slice ya yl yc] 75))
      have cb5 := cell_row ((hb5.block (w.heap.size + 1) (by omega)).trans hr4) 0
      simp at cb5
      have hO6 := owns_up ho4 hb6
      have hB6 := (MapKept.heap_alloc (w4.alloc (.cells #[.slice xa xl xc, .slice ya yl yc] 75)) (.cells #[.slice xa xl xc, .slice ya yl yc] 75)).1
      rw [show (w4.alloc (.cells #[.slice xa xl xc, .slice ya yl yc] 75)).heap.size = w4.heap.size + 1 by simp] at hB6
      have hR6 := (hb6.block (w.heap.size + 1) (by omega)).trans hr4
      have hz6 : ((w4.alloc (.cells #[.slice xa xl xc, .slice ya yl yc] 75)).alloc (.cells #[.slice xa xl xc, .slice ya yl yc] 75)).heap.size = w4.heap.size + 2 := by simp
      have HO6 : Hid _ := hO6
      have HB6 : Hid _ := hB6
      have HR6 : Hid _ := hR6
      have Hb6 : Hid _ := hb6
      have Hz6 : Hid _ := hz6
      have HGE : Hid (∀ j, (Value.slice va st.length vc).ownBlock = some j → w.heap.size + 1 + 1 ≤ j) := own_ge ho4
      unfold slV
      clear hO6 hB6 hR6 hb6 hz6 ho4 hr4 hs4 hp4 hb4 hb5 hcall
      dsimp only
      go_wp2_with (at_builtin; refine Try.append_mp rfl _ _ rfl (w.heap.size + 1 + 1) _ st rfl HO6.out (w4.heap.size + 1) ((xa, xl, xc), (ya, yl, yc)) rfl HB6.out (by omega) (by rw [Hz6.out]; omega) ?_)
      intro v7 w7 hown7 hgr7
      obtain ⟨va7, vc7, rfl⟩ := own_sl hown7
      have hR7 := (hgr7.block (w.heap.size + 1) (by rw [Hz6.out]; omega) (fun e => by have := HGE.out _ e.symm; omega)).trans HR6.out
      have cb7 := cell_row hR7 0
      have zb7 := frozen_of_row _ _ 0 _ _ hR7
      simp at cb7
      have HFIN : Hid (StkAt (w7.setCell ⟨w.heap.size + 1, 0, none⟩ (.slice va7 (st.length + 1) vc7)) (w.heap.size + 1) (w7.setCell ⟨w.heap.size + 1, 0, none⟩ (.slice va7 (st.length + 1) vc7)).heap.size (st ++ [((xa, xl, xc), (ya, yl, yc))]) ∧ Parts (w7.setCell ⟨w.heap.size + 1, 0, none⟩ (.slice va7 (st.length + 1) vc7)) n (w.heap.size + 1) (w7.setCell ⟨w.heap.size + 1, 0, none⟩ (.slice va7 (st.length + 1) vc7)).heap.size ((y, ((xa, xl, xc), (ya, yl, yc))) :: rest) ∧ Below (w.heap.size + 1) w2 (w7.setCell ⟨w.heap.size + 1, 0, none⟩ (.slice va7 (st.length + 1) vc7))) := by
        have hK : KeepT w4.heap.size w4 (w7.setCell ⟨w.heap.size + 1, 0, none⟩ (.slice va7 (st.length + 1) vc7)) := ((KeepT.of_below Hb6.out).trans (KeepT.of_grownO hgr7 HO6.out)).trans (KeepT.of_set hR7 0 _)
        have hsS : (w7.setCell ⟨w.heap.size + 1, 0, none⟩ (.slice va7 (st.length + 1) vc7)).heap.size = w7.heap.size := by simp [World.setCell]
        have hsz7 := hgr7.size
        rw [Hz6.out] at hsz7
        refine ⟨?_, (HPt.out.keep hK).mono (by omega), ?_⟩
        · have hfin : StkAt (w7.setCell ⟨w.heap.size + 1, 0, none⟩ (.slice va7 (st.length + 1) vc7)) (w.heap.size + 1) (w7.setCell ⟨w.heap.size + 1, 0, none⟩ (.slice va7 (st.length + 1) vc7)).heap.size (st ++ [((xa, xl, xc), (ya, yl, yc))]) := by
            refine ⟨⟨.slice va7 (st.length + 1) vc7, ?_, ?_, fun j hj => ?_⟩, by omega⟩
            · rw [heap_setCell_same _ _ 0 _ _ _ hR7]; rfl
            · have h8 : (w7.setCell ⟨w.heap.size + 1, 0, none⟩ (.slice va7 (st.length + 1) vc7)).ownsRow (w.heap.size + 1 + 1) 75 2 (.slice va7 (st.length + 1) vc7) (st.length + 1) (encS (st ++ [((xa, xl, xc), (ya, yl, yc))])) := owns_set hown7 (by dsimp only; omega) _
              rw [List.length_append]; exact h8
            · rcases hown7.2 with ⟨e, _⟩ | ⟨g, cap, cur, e, _, hcell, _⟩
              · rw [e] at hj; cases hj
              · rw [e] at hj
                injection hj with hj
                dsimp only at hj
                subst hj
                rw [hsS]
                exact (Array.getElem?_eq_some_iff.1 hcell).1
          exact hfin
        · have h9 : Below (w.heap.size + 1) w2 w7 := (HW4.out.trans (Hb6.out.mono (by omega))).grown hgr7 (by rw [Hz6.out]; omega) (fun j e => by have := HGE.out _ e; omega)
          exact h9.setCell (by dsimp only; omega) _
      clear hown7 hgr7 hR7
      go_wp2
      go_roundw
      case rel =>
        refine ⟨k + 1, by omega, by go_num, ⟨(y, ((xa, xl, xc), (ya, yl, yc))) :: rest, ?_, HFIN.out.2.1, ?_, ?_⟩, HFIN.out.2.2⟩
        · show StkAt _ _ _ _
          rw [HRS.out]; exact HFIN.out.1
        · show _ = _
          rw [HNX.out, HST.out]; simp
        · show _ ≤ _
          simp; omega
      case measure => simp [intOf] <;> omega
    · obtain rfl : k = len := by omega
      have he := HE.out
      rw [List.take_of_length_le (by omega), HG.out.fin] at he
      obtain ⟨⟨x', p⟩, rfl⟩ : ∃ q, l = [q] := by
        match l, he with
        | [], h => simp at h
        | [q], _ => exact ⟨q, rfl⟩
        | _ :: _ :: _, h => have := congrArg List.length h; simp at this
      obtain rfl : x' = x := by simpa using he
      obtain ⟨⟨xa, xl, xc⟩, ⟨ya, yl, yc⟩⟩ := p
      have hS := HS.out
      have htk := Try.mtake_any (w.heap.size + 1) wr.heap.size [] ((xa, xl, xc), (ya, yl, yc)) wr (by simpa using hS) (by simp)
      obtain ⟨lo, hpo, hlo, hlo2⟩ := HP.out
      have hlo3 : w.heap.size + 1 < lo := hlo2
      have hrr := (HW.out.block w.heap.size (by omega)).trans HR.out
      have HPO : Hid (PartOk wr n (w.heap.size + 1) x' ((xa, xl, xc), (ya, yl, yc)) lo wr.heap.size) := hpo
      have HRR : Hid _ := hrr
      have HSS : Hid _ := hS
      clear hpo hrr hS HS HP HE he
      unfold slV at htk
      dsimp only at htk
      go_wp2_with fail
      refine htk.mono ?_
      rintro e w3 ⟨rfl, hs3, hg3⟩
      have hr3 := (hg3.block w.heap.size (by omega) (fun e => by injection e with e; omega)).trans HRR.out
      have c0 := cell_row hr3 0
      have c1 := cell_row hr3 1
      have z0 := frozen_of_row _ _ 0 _ _ hr3
      have z1 := frozen_of_row _ _ 1 _ _ hr3
      simp at c0 c1
      have HR3 : Hid _ := hr3
      have HF : Hid (WholeR n x' w (.returned (.agg #[.slice xa xl xc, .slice ya yl yc])) ((w3.setCell ⟨w.heap.size, 0, none⟩ (.slice xa xl xc)).setCell ⟨w.heap.size, 1, none⟩ (.slice ya yl yc))) := by
        obtain ⟨v0, hv0, _⟩ := HSS.out.c
        have hK : KeepT wr.heap.size wr ((w3.setCell ⟨w.heap.size, 0, none⟩ (.slice xa xl xc)).setCell ⟨w.heap.size, 1, none⟩ (.slice ya yl yc)) := (KeepT.of_grown hg3 hv0 (by decide) (by decide) (by decide)).trans (KeepT.of_grown (grown_set2 ..) hr3 (by decide) (by decide) (by decide))
        refine ⟨((xa, xl, xc), (ya, yl, yc)), lo, wr.heap.size, rfl, (PartOk.keep HPO.out hK).low (by omega), by omega, ?_⟩
        have h1 : Below w.heap.size w w3 := HWW.out.trans ⟨hg3.os, hg3.tape, hg3.output, hg3.size, fun k hk => hg3.block k (by omega) (fun e => by injection e with e; omega)⟩
        exact (h1.setCell (Nat.le_refl _) _).setCell (Nat.le_refl _) _
      clear hs3 hg3 hr3 htk
      go_wp2
      have f := set2_cells HR3.out (.slice xa xl xc) (.slice ya yl yc)
      refine bodyPost_ret (v := .agg #[.slice xa xl xc, .slice ya yl yc]) (by simp [results, Try.results42, go_sem, f.1, f.2.1]) rfl ?_
      exact HF.out
end Go.Proofs.Ytfgaieefejdkbaa
