/- Stage 9: TableOnce. -/
import Derived.Test.YtbfhbpibpmgblaaWTb3
import Derived.Deep.RegionHeld3
namespace Go.Proofs.Ytbfhbpibpmgblaa
open Go.RowKit Go.Maps

theorem Try.infoToks : (Try.prog.info? 29).map (fun i => (i.zero, i.size, i.bytes)) = some (some (.slice none 0 0), 1, 24) := by kernel_rfl
theorem Try.infoInt : (Try.prog.info? 3).map (fun i => (i.zero, i.size, i.bytes)) = some (some (.int .i64 0), 1, 8) := by kernel_rfl
theorem own_slT {w : World} {base e size n : Nat} {v : Value} {xs : List Value} (h : w.ownsRow base e size v n xs) : ∃ a cap, v = .slice a n cap := by
  rcases h.2 with ⟨rfl, rfl⟩ | ⟨g, cap, cur, rfl, _⟩
  · exact ⟨none, 0, rfl⟩
  · exact ⟨_, cap, rfl⟩
theorem St.six {Tab : TabP} {w wa wb wc : World} {t : Nat} {v5 v6 : Value} {items : List It} {F : Nat → Prop} {gs : List Kg} (h : St Tab w wa t v5 v6 items F gs) (g5 : wa.grownBy wb v5.ownBlock) (hb : Below wb.heap.size wb wc) : wc.ownsRow w.heap.size 3 1 v6 gs.length (gs.map nv) := by
  obtain ⟨hl, o6⟩ := h.o6
  refine ⟨hl, o6.imp id ?_⟩
  rintro ⟨g, cap, cur, rfl, hgb, hcell, r⟩
  have hlt := (Array.getElem?_eq_some_iff.1 hcell).1
  have hs := g5.size
  refine ⟨g, cap, cur, rfl, hgb, (hb.block g (by omega)).trans ((g5.block g hlt (fun e => ?_)).trans hcell), r⟩
  rcases h.o5.2 with ⟨rfl, _⟩ | ⟨g', cap', cur', rfl, _, hcell', _⟩
  · cases e
  · injection e with e
    dsimp only at e
    subst e
    rw [hcell] at hcell'
    injection hcell' with hcell'
    injection hcell' with _ hcc _
    exact absurd hcc (by decide)
theorem own_at1 {T E : TypeId} (hu : Try.prog.underlying T = some (.slice E)) (hs : (Try.prog.info? E).map (·.size) = some 1) {w : World} {base n cap : Nat} {b : Option Addr} {xs : List Value} (h : w.ownsRow base E 1 (.slice b n cap) n xs) (k : Nat) (hk : k < n) :
    ∃ g, b = some ⟨g, 0, none⟩ ∧ (∀ j, j < n → ∀ w', (Instr.indexAt T (.slice b n cap) (.int .i64 (j : Int))).run Try.prog w' = .ok (.pointer (some ⟨g, j, none⟩)) w') := by
  rcases h.2 with ⟨e, e0⟩ | ⟨g, cap', cur, e, _⟩
  · omega
  · injection e with e1 _ e3
    subst e1 e3
    refine ⟨g, rfl, fun j hj w' => ?_⟩
    have := idx_of (P := Try.prog) (T := T) hu hs (a := some ⟨g, 0, none⟩) (cap := cap) (n := n) (fun e => by cases e) j w' hj
    simp only [adOf, add_plain, Nat.zero_add] at this
    exact this
theorem own_cell1 {E : TypeId} {w : World} {base n cap g : Nat} {xs : List Value} (h : w.ownsRow base E 1 (.slice (some ⟨g, 0, none⟩) n cap) n xs) (k : Nat) (hk : k < n) : w.cell? ⟨g, k, none⟩ = xs[k]? := by
  rcases h.2 with ⟨e, e0⟩ | ⟨g', cap', cur, e, _, hcell, _, _, _, htk⟩
  · omega
  · injection e with e1 _ e3
    injection e1 with e1
    injection e1 with e1 _ _
    subst e1
    rw [cell_row hcell, ← htk, List.getElem?_take, if_pos (by omega)]
    simp
theorem St.num {Tab : TabP} {w wr : World} {t g6 c6 : Nat} {v5 : Value} {items : List It} {F : Nat → Prop} {gs : List Kg} (h : St Tab w wr t v5 (.slice (some ⟨g6, 0, none⟩) gs.length c6) items F gs) (k : Nat) (hk : k < gs.length) : wr.cell? ⟨g6, k, none⟩ = some (.int .i64 (gs[k].n : Int)) := by
  rw [own_cell1 h.o6 k hk]
  simp [hk, nv]
theorem St.row {Tab : TabP} {w wr : World} {t g5 c5 : Nat} {v6 : Value} {items : List It} {F : Nat → Prop} {gs : List Kg} (h : St Tab w wr t (.slice (some ⟨g5, 0, none⟩) gs.length c5) v6 items F gs) (k : Nat) (hk : k < gs.length) : wr.cell? ⟨g5, k, none⟩ = some (.slice gs[k].r.a gs[k].r.len gs[k].r.cap) := by
  rw [own_cell1 h.o5 k hk]
  simp [hk, sv]
theorem pre_same {items : List It} : ∃ l, items = items ++ l := ⟨[], by simp⟩
set_option maxRecDepth 100000 in
set_option maxHeartbeats 8000000 in
theorem Try.tonce_any {Tab : TabP} (C : TabC Tab) (a : Option Addr) (la ca : Nat) (rs : List Pc) (w : World) (hA : RwSl w a la ca rs) :
    Calls Try.prog 4 #[.slice a la ca] w fun e w' => e = .returned (.bool true) ∧ Below w.heap.size w w' := by
  have HC : Hid (TabC Tab) := C
  have HA : Hid (RwSl w a la ca rs) := hA
  have HLEN : Hid (rs.length = la) := hA.hlen
  have haw := Try.tawake_any C w
  clear C hA
  by_cases c1 : 12 < la
  · have c1' : (12 : Int) < (la : Int) := by omega
    go_enter Try.func4, Try.ntmps4
    go_wp2_with fail
    refine haw.mono ?_
    rintro e w1 ⟨rfl, b1⟩
    have hnew := HC.out.new w1
    unfold tbV at hnew
    have HB1 : Hid _ := b1
    clear haw b1
    go_wp2_with fail
    refine hnew.mono ?_
    rintro e w2 ⟨t, F, rfl, _, _, b2⟩
    have HB2 : Hid _ := below_step HB1.out b2
    clear hnew b2
    go_wp2
    go_ret
    exact ⟨rfl, HB2.out⟩
  have c1' : decide ((12 : Int) < (la : Int)) = false := decide_eq_false (by omega)
  have c1'' : decide (12 < la) = false := decide_eq_false (by omega)
  go_enter Try.func4, Try.ntmps4
  go_wp2_with fail
  refine haw.mono ?_
  rintro e w1 ⟨rfl, b1⟩
  have hnew := HC.out.new w1
  unfold tbV at hnew
  have HB1 : Hid _ := b1
  clear haw b1
  go_wp2_with fail
  refine hnew.mono ?_
  rintro e w2 ⟨t, F, rfl, hT2, hF2, b2⟩
  have HS0 : Hid (St Tab w w2 t (.slice none 0 0) (.slice none 0 0) [] F []) := ⟨hT2, fun k hk => Nat.le_trans HB1.out.size (hF2 k hk), ⟨rfl, Or.inl ⟨rfl, rfl⟩⟩, ⟨rfl, Or.inl ⟨rfl, rfl⟩⟩, fun k hk => (by cases hk), fun k hk => (by cases hk), fun g hg => (by simp at hg), below_step HB1.out b2⟩
  clear hnew b2 hT2 hF2 HB1
  go_wp2
  go_loopw [5, 6, 7] (fun v5 v6 i wr => ∃ k : Nat, k ≤ la ∧ i = .int .i64 k ∧ ∃ items F gs, Hid (St Tab w wr t v5 v6 items F gs) ∧ Hid (gs.length ≤ k)) (fun _ _ i _ => la - (intOf i).toNat)
  case atStart => exact ⟨0, Nat.zero_le _, rfl, [], F, [], HS0, Nat.le_refl _⟩
  case round =>
    obtain ⟨k, hk, rfl, items, F1, gs, HS, HGL⟩ := hrel
    clear HS0
    by_cases hlt : k < la
    · have hkl : k < rs.length := by have := HLEN.out; omega
      obtain ⟨g1, o1, s1, hi1, hx0⟩ := HA.out.at k hlt
      have hTr : TkSl w _ _ _ _ := HA.out.t rs[k] (List.getElem_mem hkl)
      generalize rs[k] = r at *
      obtain ⟨ra, rl, rc, rts⟩ := r
      dsimp only at hx0 hTr
      have HX : Hid (∀ w', Below w.heap.size w w' → w'.cell? ⟨g1, o1, s1⟩ = some (.slice ra rl rc)) := fun w' hb => kept_cell hx0 hb
      have hx1 := HX.out _ HS.out.bel
      clear hx0
      have hrl := hTr.hlen
      obtain ⟨b5, e5, rfl⟩ := own_slT HS.out.o5
      obtain ⟨b6, e6, rfl⟩ := own_slT HS.out.o6
      by_cases c2 : 400 < rl
      · have c2' : (400 : Int) < (rl : Int) := by omega
        go_wp2
        go_ret
        exact ⟨rfl, HS.out.bel⟩
      · have c2' : ¬ (400 : Int) < (rl : Int) := by omega
        have HTr : Hid (TkSl w ra rl rc rts) := hTr
        have HNF : Hid (∀ F' : Nat → Prop, (∀ k, F' k → w.heap.size ≤ k) → 0 < rl → ∀ x, ra = some x → ¬ F' x.block) := fun F' hF' h0 x hx hf => by
          subst hx
          have := hF' _ hf
          have := HTr.out.lt h0
          omega
        clear hTr
        have j1 := HC.out.keep ra rl rc rts HS.out.tab (HTr.out.up HS.out.bel) (HNF.out _ HS.out.ge)
        unfold tbV at j1
        go_wp2_with fail
        refine j1.mono ?_
        rintro e w3 ⟨rfl, F3, hT3, fr3⟩
        by_cases he : keepE items rts = 0
        · have HK : Hid (Kept items rts (keepN items rts) (keepI items rts)) := kept (HC.out.is HS.out.tab) he
          have HS3 : Hid (St Tab w w3 t _ _ (keepI items rts) F3 gs) := HS.out.fr hT3 fr3 HK.out.pre
          rw [he]
          obtain ⟨n, hn⟩ : ∃ n, n = keepN items rts := ⟨_, rfl⟩
          obtain ⟨I, hI⟩ : ∃ I, I = keepI items rts := ⟨_, rfl⟩
          rw [← hn, ← hI] at HK
          rw [← hI] at HS3
          rw [← hn]
          clear hn hI hT3 fr3 j1 he HS
          have j2 := HC.out.len HS3.out.tab
          unfold tbV at j2
          go_wp2_with fail
          refine j2.mono ?_
          rintro e w4 ⟨rfl, F4, hT4, fr4⟩
          have HS4 : Hid (St Tab w w4 t _ _ I F4 gs) := HS3.out.fr hT4 fr4 pre_same
          have hx4 := HX.out _ HS4.out.bel
          have j3 := HC.out.keep ra rl rc rts HS4.out.tab (HTr.out.up HS4.out.bel) (HNF.out _ HS4.out.ge)
          rw [HK.out.again.1, HK.out.again.2.1, HK.out.again.2.2] at j3
          unfold tbV at j3
          clear j2 hT4 fr4 HS3 hx1
          go_wp2_with fail
          refine j3.mono ?_
          rintro e w5 ⟨rfl, F5, hT5, fr5⟩
          have HS5 : Hid (St Tab w w5 t _ _ I F5 gs) := HS4.out.fr hT5 fr5 pre_same
          have hx5 := HX.out _ HS5.out.bel
          have j4 := HC.out.find ra rl rc rts HS5.out.tab (HTr.out.up HS5.out.bel) (HNF.out _ HS5.out.ge)
          rw [HK.out.find.1, HK.out.find.2] at j4
          unfold tbV at j4
          clear j3 hT5 fr5 HS4 hx4
          go_wp2_with fail
          refine j4.mono ?_
          rintro e w6 ⟨rfl, F6, hT6, fr6⟩
          have HS6 : Hid (St Tab w w6 t _ _ I F6 gs) := HS5.out.fr hT6 fr6 pre_same
          have hx6 := HX.out _ HS6.out.bel
          have j5 := HC.out.len HS6.out.tab
          unfold tbV at j5
          have hnl : ¬ (I.length : Int) ≤ (n : Int) := by have := HK.out.lt; omega
          have hnl2 : decide (I.length ≤ n) = false := decide_eq_false (by omega)
          clear j4 hT6 fr6 HS5 hx5
          go_wp2_with fail
          refine j5.mono ?_
          rintro e w7 ⟨rfl, F7, hT7, fr7⟩
          have HS7 : Hid (St Tab w w7 t _ _ I F7 gs) := HS6.out.fr hT7 fr7 pre_same
          have hx7 := HX.out _ HS7.out.bel
          clear j5 hT7 fr7 HS6 hx6
          have hb8 := below_new w7 (.cells #[.slice ra rl rc] 29)
          have HS8 : Hid (St Tab w (w7.alloc (.cells #[.slice ra rl rc] 29)) t (.slice b5 gs.length e5) (.slice b6 gs.length e6) I F7 gs) := HS7.out.up HC.out hb8
          have c8 : (w7.alloc (.cells #[.slice ra rl rc] 29)).cell? ⟨w7.heap.size, 0, none⟩ = some (.slice ra rl rc) := cell_row (MapKept.heap_alloc w7 _).1 0
          have hz8 : w.heap.size ≤ (w7.alloc (.cells #[.slice ra rl rc] 29)).heap.size := HS8.out.bel.size
          have hgl := HGL.out
          have HG : Hid (GK w I ⟨⟨ra, rl, rc, rts⟩, n⟩) := ⟨HTr.out, by show rts.length ≤ 400; omega, by obtain ⟨T, h1, _, h3, h4⟩ := HK.out.rep; exact ⟨T, h1, h3, h4⟩⟩
          clear hb8 HS7
          go_wp2_with (at_builtin; refine append_v1 Try.underlying22 Try.infoToks rfl (by decide) rfl _ _ rfl w.heap.size _ gs.length (gs.map sv) (.slice ra rl rc) w7.heap.size rfl rfl HS8.out.o5 c8 rfl (by omega) hz8 ?_)
          intro v9 w9 ho9 hg9 hb9
          obtain ⟨p9, q9, rfl⟩ := own_slT ho9
          have hbn := below_new w9 (.cells #[.int .i64 (n : Int)] 3)
          have HO10 : Hid ((w9.alloc (.cells #[.int .i64 (n : Int)] 3)).ownsRow w.heap.size 3 1 (.slice b6 gs.length e6) gs.length (gs.map nv)) := HS8.out.six hg9 hbn
          have c10 : (w9.alloc (.cells #[.int .i64 (n : Int)] 3)).cell? ⟨w9.heap.size, 0, none⟩ = some (.int .i64 (n : Int)) := cell_row (MapKept.heap_alloc w9 _).1 0
          have hz10 : w.heap.size ≤ (w9.alloc (.cells #[.int .i64 (n : Int)] 3)).heap.size := by have := hg9.size; simp; omega
          have HM : Hid (∀ v11 w11, w11.ownsRow w.heap.size 3 1 v11 (gs.length + 1) (gs.map nv ++ [.int .i64 (n : Int)]) → (w9.alloc (.cells #[.int .i64 (n : Int)] 3)).grownBy w11 (Value.slice b6 gs.length e6).ownBlock → (v11.ownBlock = (Value.slice b6 gs.length e6).ownBlock ∨ v11.ownBlock = some (w9.alloc (.cells #[.int .i64 (n : Int)] 3)).heap.size) → St Tab w w11 t (.slice p9 (gs.length + 1) q9) v11 I F7 (gs ++ [⟨⟨ra, rl, rc, rts⟩, n⟩])) := fun v11 w11 o11 g11 b11 => HS8.out.more HC.out ⟨⟨ra, rl, rc, rts⟩, n⟩ HG.out ho9 hg9 (hb9.imp id fun h => h.trans (by simp)) hbn o11 g11 b11
          clear ho9 hg9 hb9 hbn c8 hz8 HS8
          go_wp2_with (at_builtin; refine append_v1 Try.underlying41 Try.infoInt rfl (by decide) rfl _ _ rfl w.heap.size _ gs.length (gs.map nv) (.int .i64 (n : Int)) w9.heap.size rfl rfl HO10.out c10 rfl (by omega) hz10 ?_)
          intro v11 w11 ho11 hg11 hb11
          have HS11 : Hid _ := HM.out v11 w11 ho11 hg11 (hb11.imp id fun h => h.trans (by simp))
          clear ho11 hg11 hb11 HM HO10 c10 hz10
          go_wp2
          go_roundw
          case rel => exact ⟨k + 1, by omega, by go_num, I, F7, gs ++ [⟨⟨ra, rl, rc, rts⟩, n⟩], HS11, by show _ ≤ _; rw [List.length_append]; simp; omega⟩
          case measure => simp [intOf] <;> omega
        · have heE : keepI items rts = items := if_neg he
          rw [heE] at hT3
          have HS3 : Hid _ := HS.out.fr hT3 fr3 pre_same
          have q1 : (((keepE items rts : Nat) : Int) != 0) = true := by rw [bne_iff_ne]; omega
          have q2 : (((keepE items rts : Nat) : Int) == 0) = false := by rw [beq_eq_false_iff_ne]; omega
          clear he heE hT3 fr3 j1
          generalize keepE items rts = kE at *
          generalize keepN items rts = kNn at *
          go_wp2
          go_roundw
          case rel => exact ⟨k + 1, by omega, by go_num, items, F3, gs, HS3, Nat.le_succ_of_le HGL.out⟩
          case measure => simp [intOf] <;> omega
    · obtain rfl : k = la := by omega
      obtain ⟨b5, e5, rfl⟩ := own_slT HS.out.o5
      obtain ⟨b6, e6, rfl⟩ := own_slT HS.out.o6
      have hgl := HGL.out
      clear hlt c1' c1''
      go_wp2
      go_loopw [15] (fun i wr2 => ∃ j : Nat, j ≤ gs.length ∧ i = .int .i64 j ∧ ∃ F2, Hid (St Tab w wr2 t (.slice b5 gs.length e5) (.slice b6 gs.length e6) items F2 gs)) (fun i _ => gs.length - (intOf i).toNat)
      case atStart => exact ⟨0, Nat.zero_le _, rfl, F1, HS⟩
      case round =>
        obtain ⟨j, hj, rfl, F2, HS2⟩ := hrel
        clear HS
        by_cases hjl : j < gs.length
        · obtain ⟨g5, rfl, hi5⟩ := own_at1 (T := 22) Try.underlying22 Try.sizeToks HS2.out.o5 j hjl
          obtain ⟨g6, rfl, hi6⟩ := own_at1 (T := 41) Try.underlying41 (by kernel_rfl) HS2.out.o6 j hjl
          have hx5 := hi5 j hjl
          have hx6 := hi6 j hjl
          obtain ⟨hgT, hg4, T, hTw, hTe, hTr⟩ := HS2.out.gk gs[j] (List.getElem_mem hjl)
          have HN : Hid (∀ w' F', St Tab w w' t (.slice (some ⟨g5, 0, none⟩) gs.length e5) (.slice (some ⟨g6, 0, none⟩) gs.length e6) items F' gs → ∀ m (hm : m < gs.length), w'.cell? ⟨g6, m, none⟩ = some (.int .i64 (gs[m].n : Int)) ∧ w'.cell? ⟨g5, m, none⟩ = some (.slice gs[m].r.a gs[m].r.len gs[m].r.cap)) := fun w' F' h m hm => ⟨h.num m hm, h.row m hm⟩
          have HNj : Hid (∀ w' F', St Tab w w' t (.slice (some ⟨g5, 0, none⟩) gs.length e5) (.slice (some ⟨g6, 0, none⟩) gs.length e6) items F' gs → w'.cell? ⟨g6, j, none⟩ = some (.int .i64 (gs[j].n : Int)) ∧ w'.cell? ⟨g5, j, none⟩ = some (.slice gs[j].r.a gs[j].r.len gs[j].r.cap)) := fun w' F' h => HN.out w' F' h j hjl
          have HGJ : Hid (GK w items gs[j]) := ⟨hgT, hg4, T, hTw, hTe, hTr⟩
          obtain ⟨x, hx⟩ : ∃ x, items[gs[j].n]? = some x := ⟨_, List.getElem?_eq_getElem hTr.lt⟩
          have hlow := rep_low (HC.out.is HS2.out.tab) hx
          generalize hgj : gs[j] = gj at *
          have HGE : Hid (gs[j] = gj) := hgj
          obtain ⟨⟨ra, rl, rc, rts⟩, nj⟩ := gj
          dsimp only at hgT hg4 hTe hTr hx hlow HNj
          subst hTe
          have j1 := HC.out.text nj T HS2.out.tab hTr (by omega)
          unfold tbV at j1
          have hc2 := (HNj.out _ _ HS2.out).1
          have hrl := hgT.hlen
          have HGT : Hid (TkSl w ra rl rc T.flat) := hgT
          have HX : Hid (items[nj]? = some x) := hx
          clear hgj hgT hx hTr hTw hg4
          go_wp2_with fail
          refine j1.mono ?_
          rintro e w3 ⟨sa, sc, F3, rfl, ts3, hnf3, hT3, fr3⟩
          have HS3 : Hid _ := HS2.out.fr hT3 fr3 pre_same
          have hc3 := (HNj.out _ _ HS3.out).1
          have j2 := HC.out.item nj x HS3.out.tab HX.out
          unfold tbV itV at j2
          have HT3 : Hid _ := ts3
          have HNF3 : Hid _ := hnf3
          clear j1 hT3 fr3 HS2 hc2 ts3 hnf3
          obtain ⟨xo, xp, xa, xb⟩ := x
          dsimp only at j2 hlow
          go_wp2_with fail
          refine j2.mono ?_
          rintro e w4 ⟨rfl, F4, hT4, fr4⟩
          have HS4 : Hid (St Tab w w4 t _ _ items F4 gs) := HS3.out.fr hT4 fr4 pre_same
          have HT4 : Hid _ := fr4.tks HT3.out HNF3.out
          clear j2 hT4 fr4 HS3 hc3 HT3 HNF3
          have hb5 := below_new w4 (.cells #[.int .u8 (xo : Int), .int .u8 (xp : Int), .int .i64 xa, .int .i64 xb] 49)
          have hr5 := (MapKept.heap_alloc w4 (.cells #[.int .u8 (xo : Int), .int .u8 (xp : Int), .int .i64 xa, .int .i64 xb] 49)).1
          have HS5 : Hid (St Tab w (w4.alloc (.cells #[.int .u8 (xo : Int), .int .u8 (xp : Int), .int .i64 xa, .int .i64 xb] 49)) t _ _ items F4 gs) := HS4.out.up HC.out hb5
          have HT5 : Hid _ := HT4.out.up hb5
          have k2 : (w4.alloc (.cells #[.int .u8 (xo : Int), .int .u8 (xp : Int), .int .i64 xa, .int .i64 xb] 49)).cell? ⟨w4.heap.size, 2, none⟩ = some (.int .i64 xa) := cell_row hr5 2
          have k3 : (w4.alloc (.cells #[.int .u8 (xo : Int), .int .u8 (xp : Int), .int .i64 xa, .int .i64 xb] 49)).cell? ⟨w4.heap.size, 3, none⟩ = some (.int .i64 xb) := cell_row hr5 3
          clear hb5 hr5 HS4 HT4
          go_wp2
          generalize w4.alloc (.cells #[.int .u8 (xo : Int), .int .u8 (xp : Int), .int .i64 xa, .int .i64 xb] 49) = w5 at *
          have hD : Below w5.heap.size w5 w5.drew := (Below.refl _ _).drew
          have HS6 : Hid (St Tab w w5.drew t _ _ items F4 gs) := HS5.out.up HC.out hD
          have hcc := HNj.out _ _ HS6.out
          have hk0 : w5.drew.cell? ⟨w4.heap.size, 2, none⟩ = some (.int .i64 xa) ∧ w5.drew.cell? ⟨w4.heap.size, 3, none⟩ = some (.int .i64 xb) ∧ w5.drew.cell? ⟨g5, j, none⟩ = some (.slice ra rl rc) ∧ w5.drew.cell? ⟨g6, j, none⟩ = some (.int .i64 (nj : Int)) := ⟨k2, k3, hcc.2, hcc.1⟩
          have jS := Try.sameT_any _ _ _ _ _ _ _ _ w5.drew (HT5.out.up hD) (HGT.out.up HS6.out.bel)
          rw [decide_eq_true rfl, hrl] at jS
          have qa : decide ((nj : Int) ≤ xa) = false := decide_eq_false (by omega)
          have qb : decide ((nj : Int) ≤ xb) = false := decide_eq_false (by omega)
          clear hcc k2 k3 hD HS5 HT5
          go_region_held3 (fun w' => w'.cell? ⟨w4.heap.size, 2, none⟩ = some (.int .i64 xa) ∧ w'.cell? ⟨w4.heap.size, 3, none⟩ = some (.int .i64 xb) ∧ w'.cell? ⟨g5, j, none⟩ = some (.slice ra rl rc) ∧ w'.cell? ⟨g6, j, none⟩ = some (.int .i64 (nj : Int))) (first | exact hk0 | exact hk7 | fail) (first
            | (go_at_call 20; (with_reducible refine jS.mono ?_); rintro e w7 ⟨rfl, b7⟩; have hk7 : w7.cell? ⟨w4.heap.size, 2, none⟩ = some (.int .i64 xa) ∧ w7.cell? ⟨w4.heap.size, 3, none⟩ = some (.int .i64 xb) ∧ w7.cell? ⟨g5, j, none⟩ = some (.slice ra rl rc) ∧ w7.cell? ⟨g6, j, none⟩ = some (.int .i64 (nj : Int)) := ⟨kept_cell hk0.1 b7, kept_cell hk0.2.1 b7, kept_cell hk0.2.2.1 b7, kept_cell hk0.2.2.2 b7⟩)
            | fail)
          all_goals
            have HS7 : Hid (St Tab w w7 t _ _ items F4 gs) := HS6.out.up HC.out b7
            clear hk0 hk7 jS b7 HS6
            go_wp2
            go_loopw [20] (fun i wr3 => ∃ m : Nat, m ≤ j ∧ i = .int .i64 m ∧ Hid (St Tab w wr3 t (.slice (some ⟨g5, 0, none⟩) gs.length e5) (.slice (some ⟨g6, 0, none⟩) gs.length e6) items F4 gs)) (fun i _ => j - (intOf i).toNat)
            case atStart => exact ⟨0, Nat.zero_le _, rfl, HS7⟩
            case round =>
              obtain ⟨m, hm, rfl, HS8⟩ := hrel
              clear HS7
              by_cases hmj : m < j
              · have hml : m < gs.length := by omega
                have hy5 := hi5 m hml
                have hy6 := hi6 m hml
                have hD : Below wr.heap.size wr wr.drew := (Below.refl _ _).drew
                have HS9 : Hid (St Tab w wr.drew t _ _ items F4 gs) := HS8.out.up HC.out hD
                have hcj := HNj.out _ _ HS9.out
                have hcm := HN.out _ _ HS9.out m hml
                obtain ⟨hmT, _, S, hSw, hSe, hSr⟩ := HS9.out.gk gs[m] (List.getElem_mem hml)
                obtain ⟨_, _, T', hTw', hTe', hTr'⟩ := HGJ.out
                dsimp only at hTe' hTr'
                have hsn := same_num (HC.out.is HS9.out.tab) hTw' hSw hTr' hSr
                generalize gs[m] = gm at *
                obtain ⟨⟨ya, yl, yc, yts⟩, nm⟩ := gm
                dsimp only at hcm hmT hSe hsn
                rw [← hSe, ← hTe'] at hsn
                have jT := Try.sameT_any _ _ _ _ _ _ _ _ wr.drew (HGT.out.up HS9.out.bel) (hmT.up HS9.out.bel)
                have hde : decide (T.flat = yts) = decide (nj = nm) := by rw [decide_eq_decide]; exact hsn.symm
                rw [hde] at jT
                have hbe : ((nj : Int) == (nm : Int)) = decide (nj = nm) := cast_beq nj nm
                have hk0 : wr.drew.cell? ⟨g5, j, none⟩ = some (.slice ra rl rc) ∧ wr.drew.cell? ⟨g6, j, none⟩ = some (.int .i64 (nj : Int)) ∧ wr.drew.cell? ⟨g5, m, none⟩ = some (.slice ya yl yc) ∧ wr.drew.cell? ⟨g6, m, none⟩ = some (.int .i64 (nm : Int)) := ⟨hcj.2, hcj.1, hcm.2, hcm.1⟩
                generalize decide (nj = nm) = qd at *
                clear hcj hcm hmT hSe hSr hSw hTw' hTe' hTr' hsn hde hD
                go_wp2
                go_region_held3 (fun w' => w'.cell? ⟨g5, j, none⟩ = some (.slice ra rl rc) ∧ w'.cell? ⟨g6, j, none⟩ = some (.int .i64 (nj : Int)) ∧ w'.cell? ⟨g5, m, none⟩ = some (.slice ya yl yc) ∧ w'.cell? ⟨g6, m, none⟩ = some (.int .i64 (nm : Int))) (first | exact hk0 | exact hk9 | fail) (first
                  | (go_at_call 20; (with_reducible refine jT.mono ?_); rintro e w9 ⟨rfl, b9⟩; have hk9 : w9.cell? ⟨g5, j, none⟩ = some (.slice ra rl rc) ∧ w9.cell? ⟨g6, j, none⟩ = some (.int .i64 (nj : Int)) ∧ w9.cell? ⟨g5, m, none⟩ = some (.slice ya yl yc) ∧ w9.cell? ⟨g6, m, none⟩ = some (.int .i64 (nm : Int)) := ⟨kept_cell hk0.1 b9, kept_cell hk0.2.1 b9, kept_cell hk0.2.2.1 b9, kept_cell hk0.2.2.2 b9⟩)
                  | fail)
                all_goals
                  have HS10 : Hid (St Tab w w9 t _ _ items F4 gs) := HS9.out.up HC.out b9
                  clear hk0 hk9 jT b9 HS9 HS8
                  cases qd <;>
                  · go_wp2
                    go_roundw
                    case rel => exact ⟨m + 1, by omega, by go_num, HS10⟩
                    case measure => simp [intOf] <;> omega
              · obtain rfl : m = j := by omega
                go_wp2
                go_roundw
                case rel => exact ⟨m + 1, by omega, by go_num, F4, HS8⟩
                case measure => simp [intOf] <;> omega
        · obtain rfl : j = gs.length := by omega
          go_wp2
          go_ret
          exact ⟨rfl, HS2.out.bel⟩
end Go.Proofs.Ytbfhbpibpmgblaa
