/- Package table: cut. -/
import Derived.Test.YtbfhbpibpmgblaaTmM
import Derived.Test.YtbfhbpibpmgblaaWKc4
namespace Go.Proofs.Ytbfhbpibpmgblaa
open Go.RowKit Go.Maps

theorem Try.stepg_del {w : World} {ops : Array Oper} {o : Oper} {a : Act} {K : Act → World → Prop} {Q : Exit → Act → World → Prop} {E : Prop} (hw : Region.wanted o (yielded ops a.tmps) = true) (m x : Operand)
    (ho : o.op = .call { callee := .builtin .delete, args := #[m, x], argTypes := #[53, 49] }) (b n : Nat) (f : It → Option Nat) (y : It) (hm : a.eval m = .map (some b)) (hx : a.eval x = itV y)
    (h : NumOf w b n f) (hy : ItOk y) (hf : (f y).isSome = true)
    (hK : ∀ w', NumOf w' b (n - 1) (fun z => if z = y then none else f z) → w.grownBy w' (some b) → K (a.put o.dst (.tuple #[])) w') :
    if Region.wanted o (yielded ops a.tmps) = true then Oper.wp Try.prog o a w K Q else E := by
  rw [if_pos hw]
  obtain ⟨w', hr, h1, h2⟩ := h.drop hy hf o.type
  unfold Oper.wp execOp
  simp only [ho, resolve, invoke, builtin, Sem.run_bind, Sem.run_pure, Result.andThen_ok, List.map_toArray, List.map_cons, List.map_nil, hm, hx, hr]
  exact hK w' h1 h2
/-- What is left of the numbers when i items from n on are taken out. -/
def outI (items : List It) (n i : Nat) (y : It) : Option Nat := (posI items y).bind fun j => if n ≤ j ∧ j < n + i then none else some j
theorem outI_zero (items : List It) (n : Nat) (y : It) : posI items y = outI items n 0 y := by
  unfold outI
  cases posI items y with
  | none => rfl
  | some j => simp only [Option.bind_some]; rw [if_neg (by omega)]
theorem outI_next {items : List It} (hn : items.Nodup) {n i : Nat} (h : n + i < items.length) (y : It) : (if y = items[n + i] then none else outI items n i y) = outI items n (i + 1) y := by
  unfold outI
  by_cases e : y = items[n + i]
  · rw [if_pos e, (posI_some hn (j := n + i)).2 (by rw [e]; exact List.getElem?_eq_getElem h)]
    simp only [Option.bind_some]
    rw [if_pos (by omega)]
  · rw [if_neg e]
    cases hp : posI items y with
    | none => rfl
    | some j =>
      have hj := (posI_some hn).1 hp
      have : j ≠ n + i := fun he => e (by subst he; rw [List.getElem?_eq_getElem h] at hj; injection hj with hj; exact hj.symm)
      simp only [Option.bind_some]
      by_cases c : n ≤ j ∧ j < n + i
      · rw [if_pos c, if_pos (by omega)]
      · rw [if_neg c, if_neg (by omega)]
theorem outI_there {items : List It} (hn : items.Nodup) {n i : Nat} (h : n + i < items.length) : (outI items n i items[n + i]).isSome = true := by
  unfold outI
  rw [(posI_some hn (j := n + i)).2 (List.getElem?_eq_getElem h)]
  simp only [Option.bind_some]
  rw [if_neg (by omega)]
  rfl
theorem outI_all {items : List It} (hn : items.Nodup) {n : Nat} (h : n ≤ items.length) (y : It) : outI items n (items.length - n) y = posI (items.take n) y := by
  unfold outI
  cases hp : posI items y with
  | none =>
    rw [posI_none] at hp
    exact (posI_none.2 (fun hy => hp (List.mem_of_mem_take hy))).symm
  | some j =>
    have hj := (posI_some hn).1 hp
    have hl := posI_lt hp
    simp only [Option.bind_some]
    by_cases c : j < n
    · rw [if_neg (by omega)]
      refine ((posI_some (hn.sublist (List.take_sublist _ _))).2 ?_).symm
      rw [List.getElem?_take, if_pos c]; exact hj
    · rw [if_pos (by omega)]
      refine (posI_none.2 fun hy => ?_).symm
      obtain ⟨i, hi⟩ := List.mem_iff_getElem?.1 hy
      rw [List.getElem?_take] at hi
      by_cases ci : i < n
      · rw [if_pos ci] at hi
        have := nodup_at hn hi hj
        omega
      · rw [if_neg ci] at hi; cases hi
/-- The items from n on, as a list. -/
theorem row_cut {w : World} {a : Option Addr} {n cap m : Nat} {items : List It} (h : w.ownsRow 0 49 4 (.slice a n cap) n (encI items)) (hl : items.length = n) (hm : m ≤ n) :
    ∃ a', (∀ w', (Instr.sliceAt 26 (.slice a n cap) (some (.int .i64 (m : Int))) none none).run Try.prog w' = .ok (.slice a' (n - m) (cap - m)) w') ∧
      ∀ k (x : It), items[m + k]? = some x → ∃ g o, (∀ w', (Instr.indexAt 26 (.slice a' (n - m) (cap - m)) (.int .i64 (k : Int))).run Try.prog w' = .ok (.pointer (some ⟨g, o, none⟩)) w') ∧
        ∀ w' : World, w'.ownsRow 0 49 4 (.slice a n cap) n (encI items) → w'.cell? ⟨g, o, none⟩ = some (.int .u8 (x.op : Int)) ∧ w'.cell? ⟨g, o + 1, none⟩ = some (.int .u8 (x.p : Int)) ∧ w'.cell? ⟨g, o + 2, none⟩ = some (.int .i64 x.a) ∧ w'.cell? ⟨g, o + 3, none⟩ = some (.int .i64 x.b) := by
  rcases h.2 with ⟨e, e0⟩ | ⟨g, cap', cur, e, _, hcell, hnc, _, hsz, htk⟩
  · injection e with e1 _ e3
    subst e1 e3 e0
    obtain ⟨a', h1, _⟩ := cut_n (P := Try.prog) Try.underlying26 Try.sizeItem none 0 0 m hm (Nat.le_refl _) (fun _ => rfl)
    exact ⟨a', h1, fun k x hk => absurd (List.getElem?_eq_some_iff.1 hk).1 (by omega)⟩
  · injection e with e1 _ e3
    subst e1 e3
    obtain ⟨a', h1, _, h3⟩ := cut_n (P := Try.prog) Try.underlying26 Try.sizeItem (some ⟨g, 0, none⟩) n cap m hm hnc (fun e => by cases e)
    refine ⟨a', h1, fun k x hx => ?_⟩
    obtain ⟨hk, rfl⟩ := List.getElem?_eq_some_iff.1 hx
    have ha := h3 (by omega) _ rfl
    rw [add_plain, Nat.zero_add] at ha
    subst ha
    have hkn : k < n - m := by omega
    refine ⟨g, 4 * (m + k), fun w' => ?_, fun w' ho => ?_⟩
    · simp [Instr.indexAt, run_underlying Try.underlying26, asIntOf, sizeOf_runI Try.sizeItem, hkn, Result.andThen, go_sem, add_plain, Nat.mul_comm]
    · rcases ho.2 with ⟨e, e0⟩ | ⟨g', cap', cur', e, _, hcell', hnc', _, hsz', htk'⟩
      · cases e
      · injection e with e1 _ e3
        injection e1 with e1
        injection e1 with e1 _ _
        subst e1
        have key : ∀ j, j < n * 4 → w'.cell? ⟨g, j, none⟩ = (encI items)[j]? := fun j hj => by
          rw [← htk', List.getElem?_take, if_pos hj]
          simp [World.cell?, hcell']
        obtain ⟨q0, q1, q2, q3⟩ := encI_get items (m + k) hk
        refine ⟨?_, ?_, ?_, ?_⟩
        · rw [key _ (by omega)]; exact q0
        · rw [key _ (by omega)]; exact q1
        · rw [key _ (by omega)]; exact q2
        · rw [key _ (by omega)]; exact q3
/-- What cut's loop keeps. -/
structure Cut (w wr : World) (t mb L i n : Nat) (a : Option Addr) (cap : Nat) (items : List It) : Prop where
  num : NumOf wr mb (L - i) (outI items n i)
  gr : w.grownBy wr (some mb)
theorem Cut.blk {w wr : World} {t mb i n cap : Nat} {a : Option Addr} {items : List It} (h : TabR w t a items.length cap mb items) (c : Cut w wr t mb items.length i n a cap items) : wr.heap[t]? = some (.cells #[tbV t, .slice a items.length cap, .map (some mb)] 55 (0, 0)) ∧ wr.ownsRow 0 49 4 (.slice a items.length cap) items.length (encI items) := by
  obtain ⟨es, cl, hmap⟩ := h.num.isMap
  have hmt : t ≠ mb := fun e => by rw [← e, h.blk] at hmap; cases hmap
  have hnm : (Value.slice a items.length cap).ownBlock ≠ some mb := own_neI h.row hmap (fun cs e => by cases e)
  have st : ∀ k, k < w.heap.size → k ≠ mb → wr.heap[k]? = w.heap[k]? := fun k hk hne => c.gr.block k hk (fun e => hne (by injection e))
  exact ⟨(st t (Array.getElem?_eq_some_iff.1 h.blk).1 hmt).trans h.blk, owns_off h.row fun k hk => st k (own_lt h.row k hk) (fun e => hnm (e ▸ hk))⟩
theorem cut_fin {w wr : World} {F : Nat → Prop} {t mb n cap : Nat} {a : Option Addr} {items : List It} (hI : TabI w F t items) (h : TabR w t a items.length cap mb items) (hF : ∀ k, F k ↔ (k = t ∨ k = mb ∨ (Value.slice a items.length cap).ownBlock = some k)) (hn : n ≤ items.length)
    (c : Cut w wr t mb items.length (items.length - n) n a cap items) : TabI (wr.setCell ⟨t, 1, none⟩ (.slice a n cap)) F t (items.take n) ∧ Fr w (wr.setCell ⟨t, 1, none⟩ (.slice a n cap)) F F := by
  obtain ⟨h1, h2⟩ := c.blk h
  obtain ⟨es, cl, hmap⟩ := c.num.isMap
  have hmt : mb ≠ t := fun e => by rw [e, h1] at hmap; cases hmap
  have hne : (Value.slice a items.length cap).ownBlock ≠ some t := own_neI h2 h1 (fun cs e => by injection e with _ e _; exact absurd e (by decide))
  have hlen : (items.take n).length = n := by simp; omega
  obtain ⟨a', cap', e, _, _, _, h4, h5⟩ := own_pre h2 hn
  injection e with e1 _ e3
  subst e1 e3
  rw [encI_take] at h4
  refine ⟨⟨hI.nd.sublist (List.take_sublist _ _), by have := hI.few; omega, fun x hx => hI.ok x (List.mem_of_mem_take hx), .slice a n cap, mb, ?_, ?_, ?_, fun k => ?_⟩, ?_⟩
  · rw [heap_setCell_same wr t 1 _ _ _ h1]; rfl
  · rw [hlen]
    refine owns_off h4 fun k hk => Below.heap_setCell _ _ _ _ ?_
    dsimp only
    rintro rfl
    rw [h5] at hk; exact hne hk
  · rw [hlen]
    have := c.num
    rw [show items.length - (items.length - n) = n by omega] at this
    exact (this.far (Below.heap_setCell _ _ _ _ (by dsimp only; exact hmt))).alike fun y _ => outI_all hI.nd hn y
  · rw [h5]; exact hF k
  · refine ⟨c.gr.os, c.gr.tape, c.gr.output, by have := c.gr.size; simpa using this, fun k hk hf => ?_, fun _ hk => Or.inl hk⟩
    have hf' := fun e => hf ((hF k).2 e)
    exact (Below.heap_setCell _ _ _ _ (by dsimp only; exact fun e => hf' (Or.inl e))).trans (c.gr.block k hk (fun e => hf' (Or.inr (Or.inl (by injection e)))))
set_option maxRecDepth 100000 in
set_option maxHeartbeats 4000000 in
theorem Try.tcut_any {w : World} {F : Nat → Prop} {t : Nat} {items : List It} (h : TabI w F t items) (n : Nat) (hn : n ≤ items.length) :
    Calls Try.prog 31 #[.pointer (some ⟨t, 0, none⟩), .int .i64 (n : Int)] w fun e w' => e = .returned (.tuple #[]) ∧ TabI w' F t (items.take n) ∧ Fr w w' F F := by
  obtain ⟨a, cap, mb, hr, hF⟩ := h.read
  have c1 := hr.c1
  obtain ⟨a', hcut, hat⟩ := row_cut hr.row rfl hn
  have hpre := fun w' => pre_n (P := Try.prog) Try.underlying26 Try.sizeItem a items.length cap n hn hr.hc hr.nn w'
  have HR : Hid _ := hr
  have HF : Hid _ := hF
  have HI : Hid _ := h
  have HAT : Hid _ := hat
  have HC0 : Hid (Cut w w t mb items.length 0 n a cap items) := ⟨hr.num.alike fun y _ => outI_zero items n y, ⟨rfl, rfl, rfl, Nat.le_refl _, fun _ _ _ => rfl⟩⟩
  have HN : Hid (n ≤ items.length) := hn
  have hfew := h.few
  clear h hr hF hat hn
  generalize hL : items.length = L at *
  have HL : Hid (items.length = L) := hL
  clear hL
  go_enter Try.func31, Try.ntmps31
  go_wp2
  go_loopw [13] (fun i wr => ∃ k : Nat, k ≤ L - n ∧ i = .int .i64 k ∧ Hid (Cut w wr t mb L k n a cap items)) (fun i _ => (L - n) - (intOf i).toNat)
  case atStart => exact ⟨0, Nat.zero_le _, rfl, HC0⟩
  case round =>
    obtain ⟨k, hk, rfl, HC⟩ := hrel
    clear HC0 c1
    by_cases hlt : k < L - n
    · have hkl : n + k < items.length := by have := HL.out; omega
      have hx : items[n + k]? = some items[n + k] := List.getElem?_eq_getElem hkl
      have HX : Hid (ItOk items[n + k]) := HI.out.ok _ (List.getElem_mem hkl)
      have HTH : Hid ((outI items n k items[n + k]).isSome = true) := outI_there HI.out.nd hkl
      have HNX : Hid (∀ y, (if y = items[n + k] then none else outI items n k y) = outI items n (k + 1) y) := fun y => outI_next HI.out.nd hkl y
      obtain ⟨g, o, hio, hcs⟩ := HAT.out k _ hx
      have HB : Hid _ := (show Cut w wr t mb items.length k n a cap items by rw [HL.out]; exact HC.out).blk (by rw [HL.out]; exact HR.out)
      rw [HL.out] at HB
      obtain ⟨q0, q1, q2, q3⟩ := hcs wr HB.out.2
      generalize items[n + k] = x at *
      obtain ⟨op, p, xa, xb⟩ := x
      dsimp only at q0 q1 q2 q3
      clear hx hkl hcs
      have hb1 := below_new wr (.cells #[.int .u8 (op : Int), .int .u8 (p : Int), .int .i64 xa, .int .i64 xb] 49)
      have c2 : (wr.alloc (.cells #[.int .u8 (op : Int), .int .u8 (p : Int), .int .i64 xa, .int .i64 xb] 49)).cell? ⟨t, 2, none⟩ = some (.map (some mb)) := kept_cell (cell_row HB.out.1 2) hb1
      have hnum : NumOf (wr.alloc (.cells #[.int .u8 (op : Int), .int .u8 (p : Int), .int .i64 xa, .int .i64 xb] 49)).drew mb (L - k) (outI items n k) := HC.out.num.far (hb1.block mb HC.out.num.lt)
      have HGR : Hid (w.grownBy (wr.alloc (.cells #[.int .u8 (op : Int), .int .u8 (p : Int), .int .i64 xa, .int .i64 xb] 49)).drew (some mb)) := ⟨HC.out.gr.os, HC.out.gr.tape, HC.out.gr.output, by have := HC.out.gr.size; simp; omega, fun j hj hne => (hb1.block j (by have := HC.out.gr.size; omega)).trans (HC.out.gr.block j hj hne)⟩
      clear hb1 HB HC
      go_wp2
      go_upto_region 15 with fail
      go_region_law ((refine Try.stepg_del rfl _ _ rfl mb (L - k) (outI items n k) ⟨op, p, xa, xb⟩ rfl rfl hnum HX.out HTH.out ?_; intro w6 hn6 hg6))
      all_goals
        have HC6 : Hid (Cut w w6 t mb L (k + 1) n a cap items) := by
          refine ⟨?_, ⟨hg6.os.trans HGR.out.os, hg6.tape.trans HGR.out.tape, hg6.output.trans HGR.out.output, Nat.le_trans HGR.out.size hg6.size, fun j hj hne => (hg6.block j (Nat.lt_of_lt_of_le hj HGR.out.size) hne).trans (HGR.out.block j hj hne)⟩⟩
          rw [show L - (k + 1) = L - k - 1 by omega]
          exact hn6.alike fun y _ => HNX.out y
        clear hnum c2 hn6 hg6 HGR
        go_wp2
        go_roundw
        case rel => exact ⟨k + 1, by omega, by go_num, HC6⟩
        case measure => simp [intOf] <;> omega
    · obtain rfl : k = L - n := by omega
      have HC' : Hid (Cut w wr t mb items.length (items.length - n) n a cap items) := by show Cut _ _ _ _ _ _ _ _ _ _; rw [HL.out]; exact HC.out
      have HR' : Hid (TabR w t a items.length cap mb items) := by show TabR _ _ _ _ _ _ _; rw [HL.out]; exact HR.out
      have hb := HC'.out.blk HR'.out
      rw [HL.out] at hb
      have c1 : wr.cell? ⟨t, 1, none⟩ = some (.slice a L cap) := cell_row hb.1 1
      have z1 : wr.frozen? ⟨t, 1, none⟩ = false := frozen_of_row wr _ 1 _ _ hb.1
      have HFIN : Hid _ := cut_fin HI.out HR'.out (by rw [HL.out]; exact HF.out) (by rw [HL.out]; exact HN.out) HC'.out
      clear hb HC'
      go_wp2
      go_end0
      exact ⟨rfl, HFIN.out⟩
end Go.Proofs.Ytbfhbpibpmgblaa
