/- Package table: number. -/
import Derived.Test.YtbfhbpibpmgblaaWTm7
import Derived.Deep.RegionHeld3
namespace Go.Proofs.Ytbfhbpibpmgblaa
open Go.RowKit Go.Maps

def encM (ns : List Nat) : List Value := ns.map fun n : Nat => Value.int .i64 (n : Int)
theorem encM_take (ks : List Nat) (m : Nat) : (encM ks).take (m * 1) = encM (ks.take m) := by simp [encM, List.map_take]
theorem Try.sizeIntM : (Try.prog.info? 3).map (·.size) = some 1 := by kernel_rfl
theorem Try.infoIntM : (Try.prog.info? 3).map (fun i => (i.zero, i.size, i.bytes)) = some (some (.int .i64 0), 1, 8) := by kernel_rfl
/-- A row of numbers of the call's own, cut in two. -/
theorem ns_cut {w : World} {base L m : Nat} {v : Value} {ns : List Nat} (h : w.ownsRow base 3 1 v L (encM ns)) (hm : m ≤ L) :
    ∃ a cap b, v = .slice a L cap ∧ (∀ w', (Instr.sliceAt 41 (.slice a L cap) none (some (.int .i64 (m : Int))) none).run Try.prog w' = .ok (.slice a m cap) w') ∧ w.ownsRow base 3 1 (.slice a m cap) m (encM (ns.take m)) ∧ (∀ w', (Instr.sliceAt 41 (.slice a L cap) (some (.int .i64 (m : Int))) none none).run Try.prog w' = .ok (.slice b (L - m) (cap - m)) w') ∧ NsSl w b (L - m) (cap - m) (ns.drop m) ∧ (Value.slice a m cap).ownBlock = v.ownBlock := by
  have hlen : ns.length = L := by have := h.1; simpa [encM] using this
  obtain ⟨a, cap, rfl, h1, h2, h3, h4, h0⟩ := own_pre h hm
  rw [encM_take] at h4
  obtain ⟨b, h5, h6, h7⟩ := cut_n (P := Try.prog) (T := 41) Try.underlying41 Try.sizeIntM a L cap m hm h1 h3
  refine ⟨a, cap, b, rfl, pre_n Try.underlying41 Try.sizeIntM a L cap m hm h1 h3, h4, h5, ?_, h0⟩
  have had : ∀ k, k < L - m → ∃ g cur, a = some ⟨g, 0, none⟩ ∧ w.heap[g]? = some (.cells cur 3 (0, 0)) ∧ cur.toList.take (L * 1) = encM ns ∧ adOf b k = ⟨g, m + k, none⟩ := fun k hk => by
    rcases h.2 with ⟨e, e0⟩ | ⟨g, cap', cur, e, _, hcell, _, _, _, htk⟩
    · omega
    · injection e with e1 _ _
      subst e1
      refine ⟨g, cur, rfl, hcell, htk, ?_⟩
      rw [h7 (by omega) _ rfl]
      simp [adOf, add_plain]
  refine ⟨by simp [hlen], by omega, by omega, fun n k w' hk hn => ?_, fun k hk => ?_, fun k hk => ?_, h6⟩
  · exact idx_of Try.underlying41 Try.sizeIntM (fun e => by have := h6 e; omega) k w' hk
  · obtain ⟨g, cur, _, hcell, htk, e⟩ := had k hk
    rw [e, cell_row hcell]
    have : cur.toList[m + k]? = (encM ns)[m + k]? := by rw [← htk, List.getElem?_take, if_pos (by omega)]
    rw [← Array.getElem?_toList, this]
    have hmk : m + k < ns.length := by omega
    simp [encM, List.getD_eq_getElem?_getD, hmk]
  · obtain ⟨g, cur, _, hcell, _, e⟩ := had k hk
    rw [e]
    exact (Array.getElem?_eq_some_iff.1 hcell).1
/-- What number's loop keeps. -/
structure NumSt (S : World → (Nat → Prop) → List It → Prop) (fd : Fnd) (w wr : World) (G G1 : Nat → Prop) (items items1 : List It) (a : Option Addr) (len cap : Nat) (ts : List Tk) (v : Value) (st : List Nat) (k : Nat) : Prop where
  s : S wr G1 items1
  fr : Fr w wr G G1
  tk : TkSl wr a len cap ts
  ap : 0 < len → ∀ x, a = some x → ¬ G1 x.block
  row : wr.ownsRow w.heap.size 3 1 v st.length (encM st)
  off : ∀ k, v.ownBlock = some k → ¬ G1 k
  ns : nS fd (ts.take k) (items, []) = some (items1, st)
  lt : ∀ j ∈ st, j < items1.length
  pre : ∃ l, items1 = items ++ l
  few : st.length ≤ k
def EntersT (F : FuncId) : Prop := ∀ args w, (callFunc F args).run Try.prog w = .ok (.enter F args) w
theorem item_ok {op p : Nat} {ns : List Nat} {N : Nat} (h1 : op < 256) (h2 : p < 256) (hN : N ≤ 4096) (h : ∀ j ∈ ns, j < N) : ItOk (itemOf (op, p) ns) := by
  match ns, h with
  | [], _ => exact ⟨h1, h2, by show (-1 : Int) ≤ -1; omega, by show (-1 : Int) < 4096; omega, by show (-1 : Int) ≤ -1; omega, by show (-1 : Int) < 4096; omega⟩
  | [x], h =>
    have := h x (by simp)
    exact ⟨h1, h2, by show (-1 : Int) ≤ (x : Int); omega, by show (x : Int) < 4096; omega, by show (-1 : Int) ≤ -1; omega, by show (-1 : Int) < 4096; omega⟩
  | x :: y :: _, h =>
    have := h x (by simp)
    have := h y (by simp)
    exact ⟨h1, h2, by show (-1 : Int) ≤ (x : Int); omega, by show (x : Int) < 4096; omega, by show (-1 : Int) ≤ (y : Int); omega, by show (y : Int) < 4096; omega⟩
theorem Fr.trans' {w w1 w2 : World} {F F1 F2 : Nat → Prop} (h : Fr w w1 F F1) (k : Fr w1 w2 F1 F2) : Fr w w2 F F2 :=
  ⟨k.os.trans h.os, k.tape.trans h.tape, k.output.trans h.output, Nat.le_trans h.size k.size, fun j hj hf => (k.keep j (Nat.lt_of_lt_of_le hj h.size) (fun h1 => by
    rcases h.foot j h1 with e | e
    · exact hf e
    · omega)).trans (h.keep j hj hf), fun j hj => by
    rcases k.foot j hj with e | e
    · exact h.foot j e
    · exact Or.inr (Nat.le_trans h.size e)⟩
theorem FindC.uni {S : World → (Nat → Prop) → List It → Prop} {fd : Fnd} {fid bx : Nat} (h : FindC S fd fid bx) (w : World) (G : Nat → Prop) (items : List It) (x : It) (hx : ItOk x) (hS : S w G items) : Calls Try.prog fid #[itV x, .pointer (some ⟨bx, 0, none⟩)] w fun e w' =>
    ∃ (j : Nat) (f : Bool), e = .returned (.tuple #[.int .i64 (j : Int), .bool f]) ∧ ((f = true ∧ ∃ items', fd items x = some (items', j) ∧ ∃ G', S w' G' items' ∧ Fr w w' G G') ∨ (f = false ∧ fd items x = none ∧ ∃ G', S w' G' items ∧ Fr w w' G G')) :=
  (h w G items x hx hS).mono fun e w' hq => by
    rcases hq with ⟨⟨r, j⟩, h1, h2, h3⟩ | ⟨h1, h2, h3⟩
    · exact ⟨j, true, h2, Or.inl ⟨rfl, r, h1, h3⟩⟩
    · exact ⟨0, false, h2, Or.inr ⟨rfl, h1, h3⟩⟩
set_option maxRecDepth 100000 in
set_option maxHeartbeats 8000000 in
theorem Try.tnumber_any (S : World → (Nat → Prop) → List It → Prop) (fd : Fnd) (fid bx : Nat) (hE : EntersT fid) (hFd : FindC S fd fid bx) (hP : FdOk fd)
    (hlt : ∀ {w G items}, S w G items → (∀ k, G k → k < w.heap.size) ∧ items.length ≤ 4096) (hfar : ∀ {w w' G items}, S w G items → (∀ k, G k → w'.heap[k]? = w.heap[k]?) → S w' G items)
    (w : World) (G : Nat → Prop) (items : List It) (a : Option Addr) (len cap : Nat) (ts : List Tk) (T : Tr) (hS : S w G items) (hT : TkSl w a len cap ts) (hA : 0 < len → ∀ x, a = some x → ¬ G x.block)
    (hl : 0 < len) (hg : GGood ts T) (hf : fewL false ts = true) :
    Calls Try.prog 25 #[.slice a len cap, .func (.func fid) #[] #[.pointer (some ⟨bx, 0, none⟩)]] w fun e w' => ∃ G' items', S w' G' items' ∧ Fr w w' G G' ∧ (∃ l, items' = items ++ l) ∧ (∃ k st, nS fd (ts.take k) (items, []) = some (items', st)) ∧
      ((∃ j st, nS fd ts (items, []) = some (items', st ++ [j]) ∧ e = .returned (.tuple #[.int .i64 (j : Int), .bool true])) ∨ (nS fd ts (items, []) = none ∧ e = .returned (.tuple #[.int .i64 0, .bool false]))) := by
  have HS0 : Hid (NumSt S fd w w G G items items a len cap ts (.slice none 0 0) [] 0) := ⟨hS, Fr.same (Below.refl _ _), hT, hA, ⟨rfl, Or.inl ⟨rfl, rfl⟩⟩, fun k hk => (by cases hk), rfl, fun j hj => (by simp at hj), ⟨[], by simp⟩, Nat.le_refl _⟩
  have HLEN : Hid (ts.length = len) := hT.hlen
  have HT0 : Hid _ := hT
  have HA0 : Hid _ := hA
  have HG : Hid _ := hg
  have hl2 : len ≤ 2048 := by have := hg.few; have := hT.hlen; omega
  have HF : Hid _ := hf
  have HFD : Hid _ := hFd
  have HLT : Hid (∀ {w G items}, S w G items → (∀ k, G k → k < w.heap.size) ∧ items.length ≤ 4096) := hlt
  have HFAR : Hid (∀ {w w' G items}, S w G items → (∀ k, G k → w'.heap[k]? = w.heap[k]?) → S w' G items) := hfar
  have HP : Hid _ := hP
  unfold EntersT at hE
  clear hS hT hA hg hf hFd hlt hfar hP
  go_enter Try.func25, Try.ntmps25
  go_wp2
  go_loopw [4, 5, 6, 12] (fun i b v c wr => ∃ k : Nat, k ≤ len ∧ c = .int .i64 k ∧ ∃ (j : Nat) (f : Bool), i = .int .i64 (j : Int) ∧ b = .bool f ∧ ∃ G1 items1 st, Hid (NumSt S fd w wr G G1 items items1 a len cap ts v st k) ∧ Hid (0 < k → f = true ∧ ∃ st', st = st' ++ [j])) (fun _ _ _ c _ => len - (intOf c).toNat)
  case atStart => exact ⟨0, Nat.zero_le _, rfl, 0, false, rfl, rfl, G, items, [], HS0, fun h => absurd h (by omega)⟩
  case round =>
    obtain ⟨k, hk, rfl, j, f, rfl, rfl, G1, items1, st, HN, HJ⟩ := hrel
    clear HS0
    have hfw := HN.out.few
    by_cases hlt : k < len
    · have hxl : k < ts.length := by have := HLEN.out; omega
      obtain ⟨g1, o1, s1, hi1, hx0, hx1, hg1, _⟩ := HN.out.tk.at Try.underlying29 Try.sizeTok k hlt
      have hidx := fun w' => hi1 len w' hlt
      clear hi1
      have HNX : Hid (nS fd (ts.take (k + 1)) (items, []) = nStep fd (items1, st) ts[k]) := nS_next fd hxl HN.out.ns
      have HOFF : Hid (nStep fd (items1, st) ts[k] = none → nS fd ts (items, []) = none) := fun h => nS_off fd (k := k + 1) (HNX.out.trans h)
      have hdep : takC ts[k] ≤ st.length := by
        have := (HG.out.ok k hxl).2
        rw [← nS_len fd (ts.take k) (items, []) (items1, st) [] rfl HN.out.ns] at this
        exact this
      obtain ⟨b, hfa⟩ := few_at hxl HF.out
      have hok := HN.out.tk.ok ts[k] (List.getElem_mem hxl)
      generalize ts[k] = q at *
      obtain ⟨op, p⟩ := q
      dsimp only at hx0 hx1 HNX hfa hok
      obtain ⟨htn, h23, n3, n9, n10, n13, n14, _⟩ := few_takes hfa
      have hc := tak_of htn
      clear hfa htn
      have hTk := fun w' => Try.ttakes_any op w' h23 n3 n9 n10
      rw [← hc] at hTk
      have hn2 : takC (op, p) ≤ 2 := by rw [hc]; exact takO_le op
      have HSTEP : Hid (nStep fd (items1, st) (op, p) = (fd items1 (itemOf (op, p) (st.drop (st.length - takC (op, p))))).map fun r => (r.1, st.take (st.length - takC (op, p)) ++ [r.2])) := rfl
      clear hc
      generalize takC (op, p) = n at *
      obtain ⟨M, hM⟩ : ∃ M, M = st.length - n := ⟨_, rfl⟩
      rw [← hM] at HSTEP
      obtain ⟨av, cv, bv, rfl, hpre, hown, hcut, hns, hob⟩ := ns_cut HN.out.row (m := M) (by omega)
      rw [show st.length - M = n by omega] at hcut hns
      have HO : Hid _ := hown
      have HOB : Hid _ := hob
      have HIX : Hid (ItOk (itemOf (op, p) (st.drop M))) := item_ok hok.1 hok.2 (HLT.out HN.out.s).2 (fun j hj => HN.out.lt j (List.mem_of_mem_drop hj))
      have hb1 := below_new wr (.cells #[.int .u8 (op : Int), .int .u8 (p : Int)] 61)
      have hwr : IntKind.i64.wrap ((st.length : Int) - (n : Int)) = (M : Int) := by rw [IntKind.wrap_i64]; omega
      have hML : M ≤ st.length := by omega
      have HIT : Hid (∀ w', Below wr.heap.size wr w' → Calls Try.prog 41 #[.agg #[.int .u8 (op : Int), .int .u8 (p : Int)], .slice bv n (cv - M)] w' fun e w'' => e = .returned (itV (itemOf (op, p) (st.drop M))) ∧ Below w'.heap.size w' w'') := fun w' hb => Try.titemOf_any op p bv n (cv - M) (st.drop M) w' (hns.up hb) hn2
      have HFI : Hid (∀ w', Below wr.heap.size wr w' → S w' G1 items1) := fun w' hb => HFAR.out HN.out.s fun k hk => hb.block k ((HLT.out HN.out.s).1 k hk)
      clear hns hown hob hM
      go_wp2_with (go_at_call 40; refine (hTk _).mono ?_; rintro e w' ⟨rfl, rfl⟩)
      have ct0 : (wr.alloc (.cells #[.int .u8 (op : Int), .int .u8 (p : Int)] 61)).cell? ⟨wr.heap.size, 0, none⟩ = some (.int .u8 (op : Int)) := cell_row (MapKept.heap_alloc wr _).1 0
      have ct1 : (wr.alloc (.cells #[.int .u8 (op : Int), .int .u8 (p : Int)] 61)).cell? ⟨wr.heap.size, 1, none⟩ = some (.int .u8 (p : Int)) := cell_row (MapKept.heap_alloc wr _).1 1
      have hitem := HIT.out (wr.alloc (.cells #[.int .u8 (op : Int), .int .u8 (p : Int)] 61)).drew hb1.drew
      have HB1 : Hid _ := hb1.drew
      have hz1 : (wr.alloc (.cells #[.int .u8 (op : Int), .int .u8 (p : Int)] 61)).heap.size = wr.heap.size + 1 := by simp
      clear hb1
      generalize st.drop M = dk at *
      generalize itemOf (op, p) dk = x at *
      go_region_with (first
        | (go_at_call 41; (with_reducible refine hitem.mono ?_); rintro e w2 ⟨rfl, hb2⟩; have hfind := FindC.uni HFD.out w2 G1 items1 x HIX.out (HFI.out w2 (below_step HB1.out hb2)))
        | ((with_reducible refine hfind.mono ?_); rintro e w3 ⟨j3, f3, rfl, hw3⟩)
        | fail)
      all_goals
        have HB2 : Hid (Below wr.heap.size wr w2) := below_step HB1.out hb2
        clear hitem hfind hb2 HB1 ct0 ct1 HIT HFI hE hcut hpre hidx hx0 hx1 hTk
        rcases hw3 with ⟨rfl, items2, hfd, G2, hS2, fr2⟩ | ⟨rfl, hfd, G2, hS2, fr2⟩
        · have HSTEP2 : Hid (nS fd (ts.take (k + 1)) (items, []) = some (items2, st.take M ++ [j3])) := by
            show _ = _
            rw [HNX.out, HSTEP.out, hfd]; rfl
          have hoff1 : ∀ q, (Value.slice av M cv).ownBlock = some q → ¬ G1 q := fun q hq => HN.out.off q (HOB.out ▸ hq)
          have HO3 : Hid (w3.ownsRow w.heap.size 3 1 (.slice av M cv) M (encM (st.take M))) := fr2.own (owns_up HO.out HB2.out) hoff1
          have hlt1 := own_lt HO.out
          have HOFF3 : Hid (∀ q, (Value.slice av M cv).ownBlock = some q → ¬ G2 q) := fun q hq => fr2.out (hoff1 q hq) (Nat.lt_of_lt_of_le (hlt1 q hq) HB2.out.size)
          have HFR : Hid (Fr w w3 G G2) := HN.out.fr.trans' ((Fr.same HB2.out).trans' fr2)
          have HTK : Hid (TkSl w3 a len cap ts) := fr2.tks (HN.out.tk.up HB2.out) HN.out.ap
          have HAP : Hid (0 < len → ∀ x, a = some x → ¬ G2 x.block) := fun h x hx => by
            subst hx
            have := (HN.out.tk.up HB2.out).lt h
            exact fr2.out (HN.out.ap h x rfl) this
          have HS3 : Hid _ := hS2
          obtain ⟨l2, hl2'⟩ := HP.out.pre hfd
          have hj3 : j3 < items2.length := HP.out.lt hfd
          have HPRE : Hid (∃ l, items2 = items ++ l) := by
            obtain ⟨l, hl⟩ := HN.out.pre
            exact ⟨l ++ l2, by rw [show items2 = items1 ++ l2 from hl2', hl, List.append_assoc]⟩
          have HLL : Hid (∀ j ∈ st.take M ++ [j3], j < items2.length) := fun j hj => by
            rcases List.mem_append.1 hj with hj | hj
            · have := HN.out.lt j (List.mem_of_mem_take hj)
              rw [show items2 = items1 ++ l2 from hl2', List.length_append]; omega
            · simp at hj; omega
          have HTL : Hid ((st.take M).length = M) := by show _ = _; simp; omega
          have hz3 := fr2.size
          have hwz := HN.out.fr.size
          have hw2z := HB2.out.size
          clear hfd hS2 fr2 hoff1 hlt1 HNX HSTEP HOFF HN HJ HO HOB hl2' HIX HB2
          generalize st.take M = tk at *
          have hc4 : (w3.alloc (.cells #[.int .i64 (j3 : Int)] 3)).cell? ⟨w3.heap.size, 0, none⟩ = some (.int .i64 (j3 : Int)) := cell_row (MapKept.heap_alloc w3 _).1 0
          have HO4 : Hid ((w3.alloc (.cells #[.int .i64 (j3 : Int)] 3)).ownsRow w.heap.size 3 1 (.slice av M cv) M (encM tk)) := World.ownsRow.alloc HO3.out _
          have hz4 : w.heap.size ≤ (w3.alloc (.cells #[.int .i64 (j3 : Int)] 3)).heap.size := by simp; omega
          go_wp2_with (at_builtin; refine append_v1 Try.underlying41 Try.infoIntM rfl (by decide) rfl _ _ rfl w.heap.size _ M (encM tk) (.int .i64 (j3 : Int)) w3.heap.size rfl rfl HO4.out hc4 rfl (by omega) hz4 ?_)
          intro v4 w4 hown4 hgr4 hloc4
          have hbn := below_new w3 (.cells #[.int .i64 (j3 : Int)] 3)
          have hge := own_ge HO3.out
          have hG2 := (HLT.out HS3.out).1
          have hs4 := hgr4.size
          have hsn := hbn.size
          have HFR4 : Hid (Fr w w4 G G2) := ⟨hgr4.os.trans (hbn.os.trans HFR.out.os), hgr4.tape.trans (hbn.tape.trans HFR.out.tape), hgr4.output.trans (hbn.output.trans HFR.out.output), by omega, fun q hq hg => (hgr4.block q (by omega) (fun e => by have := hge q e.symm; omega)).trans ((hbn.block q (by omega)).trans (HFR.out.keep q hq hg)), HFR.out.foot⟩
          have HNEW : Hid (NumSt S fd w w4 G G2 items items2 a len cap ts v4 (tk ++ [j3]) (k + 1)) := by
            refine ⟨HFAR.out HS3.out fun q hq => (hgr4.block q (by have := hG2 q hq; omega) (fun e => HOFF3.out q e.symm hq)).trans (hbn.block q (hG2 q hq)), HFR4.out, HFR4.out.tks HT0.out HA0.out, HAP.out, ?_, fun q hq hg => ?_, HSTEP2.out, HLL.out, HPRE.out, ?_⟩
            · rw [List.length_append, HTL.out]
              unfold encM at hown4 ⊢
              rw [List.map_append]; exact hown4
            · rcases hloc4 with e | e
              · exact HOFF3.out q (e ▸ hq) hg
              · rw [e] at hq; injection hq with hq; have := hG2 q hg; omega
            · rw [List.length_append, HTL.out]; simp; omega
          clear hown4 hgr4 hloc4 hc4 HO4 HO3 hbn hge hG2
          go_wp2
          go_roundw
          case rel => exact ⟨k + 1, by omega, by go_num, j3, true, rfl, rfl, G2, items2, tk ++ [j3], HNEW, fun _ => ⟨rfl, tk, rfl⟩⟩
          case measure => simp [intOf] <;> omega
        · have HNO : Hid (nS fd ts (items, []) = none) := HOFF.out (by rw [HSTEP.out, hfd]; rfl)
          have HFR : Hid (Fr w w3 G G2) := HN.out.fr.trans' ((Fr.same HB2.out).trans' fr2)
          have HS3 : Hid _ := hS2
          have HPRE : Hid _ := HN.out.pre
          have HSO : Hid _ := HN.out.ns
          clear hfd hS2 fr2 HNX HSTEP HOFF HN HJ HO HOB HIX HB2
          go_wp2
          go_ret2
          exact ⟨G2, items1, HS3.out, HFR.out, HPRE.out, ⟨_, _, HSO.out⟩, Or.inr ⟨HNO.out, rfl⟩⟩
    · obtain rfl : k = len := by omega
      obtain ⟨rfl, st', rfl⟩ := HJ.out hl
      have HYES : Hid (nS fd ts (items, []) = some (items1, st' ++ [j])) := by
        have := HN.out.ns
        rw [List.take_of_length_le (by have := HLEN.out; omega)] at this
        exact this
      have HFR : Hid _ := HN.out.fr
      have HS3 : Hid _ := HN.out.s
      have HPRE : Hid _ := HN.out.pre
      have HSO : Hid _ := HN.out.ns
      clear HN HJ hfw
      go_wp2
      go_ret2
      exact ⟨G1, items1, HS3.out, HFR.out, HPRE.out, ⟨_, _, HSO.out⟩, Or.inl ⟨j, st', HYES.out, rfl⟩⟩
end Go.Proofs.Ytbfhbpibpmgblaa
