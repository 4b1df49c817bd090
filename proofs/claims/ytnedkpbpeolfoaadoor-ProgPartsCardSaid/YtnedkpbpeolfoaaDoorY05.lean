/- Texts of the proof, put together: what it uses. -/
import Derived.Test.YtnedkpbpeolfoaaDoorY00
import Derived.Test.YtnedkpbpeolfoaaDoorY01
import Derived.Test.YtnedkpbpeolfoaaDoorY02
import Derived.Test.YtnedkpbpeolfoaaDoorY03
import Derived.Test.YtnedkpbpeolfoaaDoorY04
namespace Go.Proofs.YtnedkpbpeolfoaaDoor
open Go.RowKit Go.Maps
/-- The numbers of those that are so. -/
def HeldN (M : Mt) (k h : Nat) : Prop := h < 2 ^ k ∧ ∀ j, h.testBit j = true ↔ j < k ∧ SatM [] M 0 j
theorem held_zero (M : Mt) : HeldN M 0 0 := ⟨by decide, fun j => by simp⟩
theorem held_yes {M : Mt} {k h : Nat} (hh : HeldN M k h) (hs : SatM [] M 0 k) : HeldN M (k + 1) (h ||| 2 ^ k) := by
  refine ⟨Nat.or_lt_two_pow (Nat.lt_of_lt_of_le hh.1 (Nat.pow_le_pow_right (by decide) (by omega))) (Nat.pow_lt_pow_right (by decide) (by omega)), fun j => ?_⟩
  rw [Nat.testBit_or, Bool.or_eq_true, hh.2 j, Nat.testBit_two_pow]
  constructor
  · rintro (⟨h1, h2⟩ | h1)
    · exact ⟨by omega, h2⟩
    · have : k = j := by simpa using h1
      subst this
      exact ⟨by omega, hs⟩
  · rintro ⟨h1, h2⟩
    by_cases e : j < k
    · exact Or.inl ⟨e, h2⟩
    · have : k = j := by omega
      exact Or.inr (by simpa using this)
theorem held_no {M : Mt} {k h : Nat} (hh : HeldN M k h) (hs : ¬ SatM [] M 0 k) : HeldN M (k + 1) h := by
  refine ⟨Nat.lt_of_lt_of_le hh.1 (Nat.pow_le_pow_right (by decide) (by omega)), fun j => ?_⟩
  rw [hh.2 j]
  constructor
  · rintro ⟨h1, h2⟩
    exact ⟨by omega, h2⟩
  · rintro ⟨h1, h2⟩
    by_cases e : j < k
    · exact ⟨e, h2⟩
    · have : j = k := by omega
      subst this
      exact absurd h2 hs
/-- All of one of the sets: held. -/
theorem held_fin {M : Mt} {h : Nat} {l : List Nat} (hh : HeldN M M.length h) : hoB l h = true ↔ FinP M l := by
  show decide (HoP l h) = true ↔ _
  rw [decide_eq_true_iff]
  unfold FinP LsP HoP
  constructor
  · rintro ⟨s, hs, hw⟩
    exact ⟨s, hs, fun k hk => ((hh.2 k).1 (wi_iff.1 hw k hk)).2⟩
  · rintro ⟨s, hs, hw⟩
    refine ⟨s, hs, wi_iff.2 fun k hk => (hh.2 k).2 ⟨?_, hw k hk⟩⟩
    obtain ⟨T, _, h2, _⟩ := hw k hk
    exact (List.getElem?_eq_some_iff.1 h2).1
theorem PgR.metAt {T0 : Tr} {w w2 : World} {G : Nat → Prop} {p mn : Nat} {va : Option Addr} {m vc : Nat} {vs : Value} {items : List It} {met : List Nat} {M : Mt} (h : PgR T0 w G p mn (.slice va m vc) vs items met M) (hof : ∀ f ∈ M, ∃ S, KT S ∧ InC T0 S ∧ f = S.flat) (hb : Below w.heap.size w w2) (k : Nat) (hk : k < m) (hm : met.length = m) : ∃ g o j S, (∀ w', (Instr.indexAt 31 (.slice va m vc) (.int .i64 (k : Int))).run Tryd.prog w' = .ok (.pointer (some ⟨g, o, none⟩)) w') ∧ w2.cell? ⟨g, o, none⟩ = some (.int .i64 ((j : Nat) : Int)) ∧ Rep items j S ∧ KT S ∧ M[k]? = some S.flat := by
  have hkm : k < met.length := by omega
  obtain ⟨S, hrep, hMk⟩ := h.met.2 k met[k] (List.getElem?_eq_getElem hkm)
  obtain ⟨S2, k2, i2, e2⟩ := hof S.flat (List.mem_of_getElem? hMk)
  have hw : S.WF := by
    obtain ⟨S3, h3, h4⟩ := h.po.cov _ hrep.lt
    have := Rep.tree hrep h3
    subst this
    rcases inC_kind h.po.t0.kt h4 with q | q <;> exact q.wf
  have e := flat_inj hw k2.wf e2
  subst e
  rcases (owns_up h.row hb).2 with ⟨e, e0⟩ | ⟨g, cap, cur, e, _, hcell, hnc, hcm, hsz, htk⟩
  · omega
  · injection e with e1 e2 e3
    subst e1 e3
    refine ⟨g, k, met[k], S, fun w' => ?_, ?_, hrep, k2, hMk⟩
    · simp [Instr.indexAt, run_underlying Tryd.underlying31, asIntOf, sizeOf_runI (show (Tryd.prog.info? 3).map (·.size) = some 1 by kernel_rfl), hk, Result.andThen, go_sem, add_plain]
    · rw [cell_row hcell k]
      have : cur.toList[k]? = (encM met)[k]? := by rw [← htk, List.getElem?_take, if_pos (by omega)]
      rw [← Array.getElem?_toList, this]
      simp [encM, hkm]
set_option maxRecDepth 100000 in
set_option maxHeartbeats 8000000 in
theorem Tryd.pFinal_any {T0 : Tr} {p : Nat} {vs : Value} {w : World} {F : Nat → Prop} {items : List It} {M : Mt} (h : PgO T0 w F p vs items M) (a : Option Addr) (c : Nat) (l : List Nat) (hU : USl w a l.length c l) (sm : Sm l) :
    Calls Tryd.prog 8 #[.pointer (some ⟨p, 0, none⟩), .slice a l.length c] w fun e w' => (∃ b, e = .returned (.bool b) ∧ (b = true ↔ FinP M l)) ∧ Below w.heap.size w w' := by
  have jm := Tryd.pmade_yes h
  obtain ⟨G, mn, vm, met, hr, hF⟩ := h.ex
  have je := Tryd.pends_any hr.po
  have c5 := hr.c5
  obtain ⟨ma, mc, rfl⟩ := own_slI hr.row
  have hml : met.length = M.length := hr.met.1
  have hfew : M.length ≤ 64 := h.few
  have hm64 : met.length ≤ 64 := by omega
  have HH : Hid _ := h
  have HR : Hid _ := hr
  have HU : Hid _ := hU
  have HSM : Hid (Sm l) := sm
  have HML : Hid (met.length = M.length) := hml
  have HC5 : Hid _ := c5
  clear h hr hF hU sm hml c5
  generalize hmm : met.length = m at *
  have HM : Hid (met.length = m) := hmm
  clear hmm
  generalize hil0 : items.length = il at *
  have HIL : Hid (items.length = il) := hil0
  clear hil0
  generalize hn0 : l.length = n at *
  have HNN : Hid (l.length = n) := hn0
  clear hn0
  go_enter Tryd.func8, Tryd.ntmps8
  go_wp2_with fail
  refine jm.mono ?_
  rintro e w1 ⟨rfl, hw1⟩
  obtain rfl := hw1.symm
  clear jm
  go_wp2_with fail
  refine je.mono ?_
  rintro e w2 ⟨rfl, ⟨bs, hEL, hEb⟩, hb2⟩
  have c5 : w2.cell? ⟨p, 5, none⟩ = some (.slice ma m mc) := kept_cell HC5.out hb2
  have HEL : Hid (EndL items bs) := hEL
  have HEB : Hid (EbAt w2 w.heap.size bs) := hEb
  have HB2 : Hid (Below w.heap.size w w2) := hb2
  clear je hEL hEb hb2
  go_wp2
  go_loopw [6, 21] (fun v i wr => ∃ (k hd : Nat), k ≤ m ∧ i = .int .i64 (k : Int) ∧ v = .int .u64 (hd : Int) ∧ wr = w2 ∧ Hid (HeldN M k hd)) (fun _ i _ => m - (intOf i).toNat)
  case atStart => exact ⟨0, 0, Nat.zero_le _, rfl, rfl, rfl, held_zero M⟩
  case round =>
    clear c5
    obtain ⟨k, hd, hk, rfl, rfl, rfl, HHD⟩ := hrel
    by_cases hlt : k < m
    · obtain ⟨g, o, j, S, hidx, hcj, hrep, kS, hMk⟩ := HR.out.metAt HH.out.of HB2.out k hlt HM.out
      have hbj := HEL.out.all j S hrep
      have hjl : j < bs.length := (List.getElem?_eq_some_iff.1 hbj).1
      have hil : bs.length = items.length := HEL.out.len
      have hcb := HEB.out.cell hbj
      have hsat : SatM [] M 0 k ↔ endB S = true := (sat_at kS hMk).trans ((end_both S).1 kS).symm
      have hix := fun w' => Tryd.idxEb w.heap.size il j (by have := HIL.out; omega) w'
      have HE : Hid (bits BinOp.or IntKind.u64 (hd : Int) (IntKind.u64.wrap (2 ^ k)) = ((hd ||| 2 ^ k : Nat) : Int)) := by
        have h1 : (2 : Nat) ^ k < 2 ^ 64 := Nat.pow_lt_pow_right (by decide) (by omega)
        have h2 : hd < 2 ^ 64 := Nat.lt_of_lt_of_le HHD.out.1 (Nat.pow_le_pow_right (by decide) (by omega))
        have e3 : IntKind.u64.wrap (2 ^ k) = ((2 ^ k : Nat) : Int) := by
          rw [IntKind.wrap_u64, show ((2 : Int) ^ k) = ((2 ^ k : Nat) : Int) by simp]
          generalize 2 ^ k = y at h1 ⊢
          omega
        show _ = _
        rw [e3]
        exact u64_or_nat _ _ h2 h1
      cases hv : endB S with
      | true =>
        rw [hv] at hcb hsat
        have HN : Hid (HeldN M (k + 1) (hd ||| 2 ^ k)) := held_yes HHD.out (hsat.2 rfl)
        clear hsat HHD hrep kS hMk hbj hjl hil hv
        have hmin : min k 64 = k := by omega
        go_wp2
        go_roundw
        case rel => exact ⟨k + 1, hd ||| 2 ^ k, by omega, by go_num, congrArg (Value.int .u64) HE.out, by first | trivial | rfl, HN⟩
        case measure => simp [intOf] <;> omega
      | false =>
        rw [hv] at hcb hsat
        have HN : Hid (HeldN M (k + 1) hd) := held_no HHD.out (fun e => by have := hsat.1 e; cases this)
        clear hsat HHD hrep kS hMk hbj hjl hil hv HE
        go_wp2
        go_roundw
        case rel => exact ⟨k + 1, hd, by omega, by go_num, rfl, by first | trivial | rfl, HN⟩
        case measure => simp [intOf] <;> omega
    · obtain rfl : k = m := by omega
      have hdm : HeldN M M.length hd := by have := HHD.out; rw [show k = M.length by have := HML.out; omega] at this; exact this
      have h2 : hd < 2 ^ 64 := Nat.lt_of_lt_of_le hdm.1 (Nat.pow_le_pow_right (by decide) (by omega))
      have jh := Tryd.holds_any a l.length c l hd wr ((show USl w a l.length c l by rw [HNN.out]; exact HU.out).up HB2.out) HSM.out h2
      rw [HNN.out] at jh
      have HFI : Hid (hoB l hd = true ↔ FinP M l) := held_fin hdm
      clear HHD hdm h2
      go_wp2_with fail
      refine jh.mono ?_
      rintro e w4 ⟨rfl, hb4⟩
      have HB4 : Hid (Below w.heap.size w w4) := below_step HB2.out hb4
      clear jh hb4
      generalize hoB l hd = bb at *
      go_wp2
      go_ret
      exact ⟨⟨bb, rfl, HFI.out⟩, HB4.out⟩
end Go.Proofs.YtnedkpbpeolfoaaDoor
namespace Go.Proofs.YtnedkpbpeolfoaaDoor
open Go.RowKit Go.Maps
/-- A prog in memory, with what was to do at the beginning. -/
structure PrgAt (w : World) (F : Nat → Prop) (p : Nat) (l0 : List Nat) (M : Mt) (T0 : Tr) (q : Option Addr) (d : Nat) (items : List It) : Prop where
  o : PgO T0 w F p (.slice q l0.length d) items M
  u : US w F q l0.length d l0
  l : LstH l0
  g : ¬ F tabG
def Prg (w : World) (F : Nat → Prop) (p : Nat) (l0 : List Nat) (M : Mt) : Prop := ∃ T0 q d items, PrgAt w F p l0 M T0 q d items
theorem clo_us {w w' : World} {F : Nat → Prop} {l : List Nat} {e : Ending} (hF : ∀ k, F k → k < w.heap.size) (h : CloU l w e w') : Below w.heap.size w w' ∧ ∃ a c, e = .returned (.slice a l.length c) ∧ US w' F a l.length c l := by
  refine ⟨h.1, ?_⟩
  rcases h.2 with ⟨rfl, p, rfl⟩ | ⟨G, t, _, rfl, hS, h1, h2⟩
  · exact ⟨p, 0, rfl, ⟨⟨rfl, Nat.le_refl _, Nat.zero_le _, fun m k w hk hm => absurd hk (by simp at hm; omega), fun k hk => absurd hk (by simp), fun k hk => absurd hk (by simp), fun _ => rfl⟩, fun k hk => absurd hk (by simp)⟩⟩
  · refine ⟨_, G, rfl, hS.usl rfl rfl h1 h2, fun k hk e => ?_⟩
    have := hF _ e
    simp [adOf, add_plain] at this
    omega
theorem Tryd.progC : ProgC Prg where
  lt := fun ⟨_, _, _, _, h⟩ => h.o.lt
  up := fun ⟨T0, q, d, items, h⟩ hb => ⟨T0, q, d, items, h.o.up hb, h.u.up hb, h.l, h.g⟩
  new := fun a len cap ts w hT hB => (Tryd.pNew_any a len cap ts w hT).mono fun e w' ⟨hb, h⟩ => ⟨hb, h.imp id fun ⟨T, kT, hts, hc, h2⟩ => ⟨T, kT, hts, hc, h2.imp id fun ⟨l0, M, p, F, q, d, items, hn, he, hO, hU, hF⟩ => ⟨l0, M, p, F, hn, he, ⟨T, q, d, items, hO, hU, ⟨lt_of_bd (need_ok T good_nil kT hn).1.bd hO.few, need_len T hn⟩, fun e => by
      have h1 := hF _ e
      have h2 := World.block_lt_of_cell? _ _ (hB 0 (by decide))
      exact Nat.lt_irrefl _ (Nat.lt_of_lt_of_le h2 h1)⟩, hF⟩⟩⟩
  start := fun {w F p l0 M} ⟨T0, q, d, items, h⟩ => (Tryd.pstart_yes h.o h.u h.l.few).mono fun e w' hc => by
    obtain ⟨hb, a, c, he, hU⟩ := clo_us h.o.lt hc
    exact ⟨a, c, F, he, hU, ⟨T0, q, d, items, h.o.up hb, h.u.up hb, h.l, h.g⟩, Fr.ofBelow hb⟩
  step := fun {w F p l0 M} a n c l x ⟨T0, q, d, items, h⟩ hB hU hs hn hb hx => by
    obtain rfl : l.length = n := hU.sl.len.symm
    refine (Tryd.pStep_any hx h.o hB h.g a c l ⟨hU, hn, hb⟩).mono ?_
    have htl := World.block_lt_of_cell? _ _ (hB 0 (by decide))
    rintro e w' ⟨F', i', fr, ⟨h1, rfl, hO⟩ | ⟨L, M', q', d', h1, rfl, hU', hO⟩⟩
    · exact ⟨F', fr, Or.inl ⟨none, 0, h1, rfl, nil_us _ _, T0, q, d, i', hO, h.u.fr fr, h.l, fr.out h.g htl⟩⟩
    · exact ⟨F', fr, Or.inr ⟨L, M', q', d', h1, rfl, hU', T0, q, d, i', hO, h.u.fr fr, h.l, fr.out h.g htl⟩⟩
  arg := fun {w F p l0 M} a n c l x ⟨T0, q, d, items, h⟩ hU hs hn hb hx => by
    obtain rfl : l.length = n := hU.sl.len.symm
    refine (Tryd.pStep_arg (x := x) h.o a c l hU hs hn hb).mono ?_
    rintro e w' ⟨rfl, hbw⟩
    exact ⟨F, none, 0, rfl, nil_us _ _, ⟨T0, q, d, items, h.o.up hbw, h.u.up hbw, h.l, h.g⟩, Fr.ofBelow hbw⟩
  fin := fun {w F p l0 M} a n c l ⟨T0, q, d, items, h⟩ hB hU hs hn => by
    obtain rfl : l.length = n := hU.sl.len.symm
    refine (Tryd.pFinal_any h.o a c l hU.sl hs).mono ?_
    rintro e w' ⟨⟨b, rfl, hbb⟩, hbw⟩
    exact ⟨b, F, rfl, hbb, ⟨T0, q, d, items, h.o.up hbw, h.u.up hbw, h.l, h.g⟩, Fr.ofBelow hbw⟩
end Go.Proofs.YtnedkpbpeolfoaaDoor
namespace Go.Proofs.YtnedkpbpeolfoaaDoor
open Go.RowKit Go.Maps
/-- No prog that New answered. -/
def OffP (w : World) (x : Option Addr) : Prop := x = none ∨ ∃ t, x = some ⟨t, 0, none⟩ ∧ w.cell? ⟨t, 3, none⟩ = some (.pointer none)
theorem OffP.up {w w' : World} {x : Option Addr} (h : OffP w x) (hb : Below w.heap.size w w') : OffP w' x := by
  rcases h with h | ⟨t, h1, h2⟩
  · exact Or.inl h
  · exact Or.inr ⟨t, h1, kept_cell h2 hb⟩
theorem Tryd.pmade_off {w : World} {x : Option Addr} (h : OffP w x) : Calls Tryd.prog 12 #[.pointer x] w fun e w' => e = .returned (.bool false) ∧ w' = w := by
  rcases h with rfl | ⟨t, rfl, h2⟩
  · exact Tryd.pmade_none w
  · exact Tryd.pmade_zero w t h2
set_option maxRecDepth 100000 in
theorem Tryd.pstart_off {w : World} {x : Option Addr} (h : OffP w x) : Calls Tryd.prog 6 #[.pointer x] w fun e w' => e = .returned (.slice none 0 0) ∧ w' = w := by
  have hm := Tryd.pmade_off h
  clear h
  go_enter Tryd.func6, Tryd.ntmps6
  go_wp2_with fail
  refine hm.mono ?_
  rintro e w1 ⟨rfl, hw1⟩
  obtain rfl := hw1.symm
  go_wp2
  go_ret
  exact ⟨rfl, rfl⟩
set_option maxRecDepth 100000 in
theorem Tryd.patoms_off {w : World} {x : Option Addr} (h : OffP w x) : Calls Tryd.prog 7 #[.pointer x] w fun e w' => e = .returned (.slice none 0 0) ∧ w' = w := by
  have hm := Tryd.pmade_off h
  clear h
  go_enter Tryd.func7, Tryd.ntmps7
  go_wp2_with fail
  refine hm.mono ?_
  rintro e w1 ⟨rfl, hw1⟩
  obtain rfl := hw1.symm
  go_wp2
  go_ret
  exact ⟨rfl, rfl⟩
set_option maxRecDepth 100000 in
theorem Tryd.pfinal_off {w : World} {x : Option Addr} (h : OffP w x) (a : Option Addr) (n c : Nat) : Calls Tryd.prog 8 #[.pointer x, .slice a n c] w fun e w' => e = .returned (.bool false) ∧ w' = w := by
  have hm := Tryd.pmade_off h
  clear h
  go_enter Tryd.func8, Tryd.ntmps8
  go_wp2_with fail
  refine hm.mono ?_
  rintro e w1 ⟨rfl, hw1⟩
  obtain rfl := hw1.symm
  go_wp2
  go_ret
  exact ⟨rfl, rfl⟩
set_option maxRecDepth 100000 in
set_option maxHeartbeats 4000000 in
theorem Tryd.pStep_off {w : World} {x : Option Addr} (h : OffP w x) (a : Option Addr) (n c : Nat) (y : Int) : Calls Tryd.prog 5 #[.pointer x, .slice a n c, .int .u8 y] w fun e w' => e = .returned (.tuple #[.slice none 0 0, .int .i64 1]) ∧ Below w.heap.size w w' := by
  obtain ⟨w1, hw1⟩ : ∃ w1, w1 = w.alloc (.cells #[.pointer x] 24) := ⟨_, rfl⟩
  obtain ⟨w2, hw2⟩ : ∃ w2, w2 = w1.alloc (.cells #[.slice a n c] 22) := ⟨_, rfl⟩
  obtain ⟨w3, hw3⟩ : ∃ w3, w3 = w2.alloc (.cells #[.int .u8 y] 23) := ⟨_, rfl⟩
  have b1 : Below w.heap.size w w1 := by rw [hw1]; exact below_new _ _
  have b2 : Below w1.heap.size w1 w2 := by rw [hw2]; exact below_new _ _
  have b3 : Below w2.heap.size w2 w3 := by rw [hw3]; exact below_new _ _
  have hb3 : Below w.heap.size w w3 := below_step (below_step b1 b2) b3
  have jm := Tryd.pmade_off (h.up hb3)
  have HB3 : Hid _ := hb3
  have HW1 : Hid _ := hw1
  have HW2 : Hid _ := hw2
  have HW3 : Hid _ := hw3
  clear h b1 b2 b3 hb3 hw1 hw2 hw3
  go_enter Tryd.func5, Tryd.ntmps5
  go_wp2_with fail
  rw [← HW1.out, ← HW2.out, ← HW3.out]
  refine jm.mono ?_
  rintro e w5 ⟨rfl, hw5⟩
  obtain rfl := hw5.symm
  clear jm
  go_wp2
  go_ret2
  exact ⟨rfl, HB3.out⟩
end Go.Proofs.YtnedkpbpeolfoaaDoor
namespace Go.Proofs.YtnedkpbpeolfoaaDoor
open Go.RowKit Go.Maps
theorem Tryd.pop_any (op : Nat) (w : World) (h : op < 256) : Calls Tryd.prog 26 #[.int .u8 (op : Int)] w fun e w' => e = .returned (.int .i64 (100 + (op : Int))) ∧ w' = w := by
  have h1 := fun w' => Tryd.op_any op w' h
  clear h
  go_enter Tryd.func26, Tryd.ntmps26
  go_wp2_with (go_at_call 43; refine (h1 _).mono ?_; rintro e w' ⟨rfl, rfl⟩)
  go_ret
  exact ⟨rfl, rfl⟩
/-- Tokens that are written out: a row of the call's own. -/
theorem Tryd.pt_lit (zs : List Int) (ts : List Tk) (w : World) (he : zs.map tokOf = ts) (hz : ∀ z ∈ zs, 0 ≤ z ∧ z < 356) (hl : zs.length ≤ 20) :
    Calls Tryd.prog 25 #[.slice (some ⟨w.heap.size, 0, none⟩) zs.length zs.length] (w.alloc (.cells (zs.map (Value.int .i64)).toArray 3)) fun e w' => ∃ a cap, e = .returned (.slice a ts.length cap) ∧ w'.ownsRow w.heap.size 49 2 (.slice a ts.length cap) ts.length (encT ts) ∧ TkSl w' a ts.length cap ts ∧ Below w.heap.size w w' := by
  subst he
  have h5 := Tryd.t_any _ _ _ zs _ (Tryd.kint_lit zs w hl) hz (by omega)
  have hok : ∀ t ∈ zs.map tokOf, t.1 < 256 ∧ t.2 < 256 := fun t ht => by
    obtain ⟨z, hz1, rfl⟩ := List.mem_map.1 ht
    exact tokOf_ok (hz z hz1).1 (hz z hz1).2
  have hsz : w.heap.size ≤ (w.alloc (.cells (zs.map (Value.int .i64)).toArray 3)).heap.size := by simp
  have hb0 := below_new w (.cells (zs.map (Value.int .i64)).toArray 3)
  generalize w.alloc (.cells (zs.map (Value.int .i64)).toArray 3) = w0 at *
  generalize zs.map tokOf = ts at *
  go_enter Tryd.func25, Tryd.ntmps25
  go_wp2_with fail
  refine h5.mono ?_
  rintro e w1 ⟨v, rfl, hown, hb1⟩
  obtain ⟨a1, c1, rfl, hT1, _⟩ := own_tk hown hok
  have HO : Hid (w1.ownsRow w.heap.size 49 2 (.slice a1 ts.length c1) ts.length (encT ts)) := owns_base hown hsz
  have HT : Hid (TkSl w1 a1 ts.length c1 ts) := hT1
  have HB1 : Hid (Below w.heap.size w w1) := below_step hb0 hb1
  clear h5 hown hb1 hT1 hok
  go_wp2
  go_ret
  exact ⟨_, _, rfl, HO.out, HT.out, HB1.out⟩
theorem kt_untl : KT (.bin (15, 0) (.leaf (2, 0)) (.leaf (2, 1))) := ⟨⟨rfl, rfl, ⟨rfl, rfl⟩, rfl, rfl⟩, rfl, rfl⟩
/-- New of tokens whose tree is known. -/
theorem ProgC.made {Prg : PrgP} (C : ProgC Prg) {a : Option Addr} {len cap : Nat} {T : Tr} {w : World} (hT : KT T) (hS : TkSl w a len cap T.flat) (hl : T.flat.length ≤ 2048) (hB : Tab64 w) {l0 : List Nat} {M : Mt} (hn : needM T [] = some (l0, M)) :
    Calls Tryd.prog 24 #[.slice a len cap] w fun e w' => ∃ p F, e = .returned (.tuple #[pgV p, .int .i64 0]) ∧ PS Prg w w' F p l0 M := by
  have hc : chkE T.flat = 0 := chk_zero.2 ⟨hl, T, hT.wf, hT.np, hT.kr, rfl⟩
  refine (C.new a len cap T.flat w hS hB).mono ?_
  rintro e w' ⟨hb, ⟨h1, _⟩ | ⟨S, hS2, he, _, h2⟩⟩
  · exact absurd hc h1
  · have hSn : needM S [] = needM T [] := by
      have e1 := grow_flat hT.wf
      have e2 := grow_flat hS2.wf
      rw [he] at e1
      rw [← e1, e2]
    rcases h2 with ⟨h3, _⟩ | ⟨l1, M1, p, F, h3, rfl, h4, h5⟩
    · rw [hSn, hn] at h3; cases h3
    · rw [hSn, hn] at h3
      injection h3 with h3
      injection h3 with h6 h7
      subst h6 h7
      exact ⟨p, F, rfl, h4, h5, hb⟩
/-- A step whose answer is known. -/
theorem ProgC.went {Prg : PrgP} (C : ProgC Prg) {w0 w : World} {F : Nat → Prop} {p : Nat} {l0 : List Nat} {M : Mt} (h : PS Prg w0 w F p l0 M) (hT : Tab64 w0) (a : Option Addr) (n c : Nat) (l : List Nat) (x : Nat) (hU : US w F a n c l) (hs : Sm l) (hn : n ≤ 1024) (hb : BdL l M.length) (hx : x < 256) {L : List Nat} {M' : Mt} (hr : stepM fuelN x l [] M = some (L, M')) :
    Calls Tryd.prog 5 #[pgV p, .slice a n c, .int .u8 (x : Int)] w fun e w' => ∃ q d F', e = .returned (.tuple #[.slice q L.length d, .int .i64 0]) ∧ US w' F' q L.length d L ∧ PS Prg w0 w' F' p l0 M' ∧ Fr w w' F F' := by
  refine (C.step a n c l x h.prg (hT.up h.bel) hU hs hn hb hx).mono ?_
  rintro e w' ⟨F', fr, ⟨q, d, h1, _⟩ | ⟨L1, M1, q, d, h1, rfl, h2, h3⟩⟩
  · rw [hr] at h1; cases h1
  · rw [hr] at h1
    injection h1 with h1
    injection h1 with h4 h5
    subst h4 h5
    exact ⟨q, d, F', rfl, h2, h.fr h3 fr, fr⟩
theorem ProgC.told {Prg : PrgP} (C : ProgC Prg) {w0 w : World} {F : Nat → Prop} {p : Nat} {l0 : List Nat} {M : Mt} (h : PS Prg w0 w F p l0 M) :
    Calls Tryd.prog 6 #[pgV p] w fun e w' => ∃ q d F', e = .returned (.slice q l0.length d) ∧ US w' F' q l0.length d l0 ∧ PS Prg w0 w' F' p l0 M ∧ Fr w w' F F' := by
  refine (C.start h.prg).mono ?_
  rintro e w' ⟨q, d, F', rfl, h1, h2, fr⟩
  exact ⟨q, d, F', rfl, h1, h.fr h2 fr, fr⟩
end Go.Proofs.YtnedkpbpeolfoaaDoor
namespace Go.Proofs.YtnedkpbpeolfoaaDoor
open Go.RowKit Go.Maps
theorem Tryd.ptr_no (a : Addr) (w : World) : (binOp .eql 24 (.pointer (some a)) (.pointer none)).run Tryd.prog w = .ok (.bool false) w := by
  have h : ∀ d : Nat, (Op.equalIn (d + 1) 24 (.pointer (some a)) (.pointer none)).run Tryd.prog w = .ok false w := fun d => by
    simp [Op.equalIn, run_underlying Tryd.underlying24]
  simp only [binOp]
  simp [Op.equal, Op.maxDepth, h 9999]
theorem bd1 (m : Nat) (h : 0 < m) : BdL [1] m := bdL_one (i := 0) h
set_option maxRecDepth 100000 in
set_option maxHeartbeats 2000000 in
theorem Tryd.pawake_any {Prg : PrgP} (C : ProgC Prg) (w : World) (hT : Tab64 w) : Calls Tryd.prog 9 #[] w (BR true w) := by
  have HC : Hid (ProgC Prg) := C
  have HT : Hid (Tab64 w) := hT
  have o15 : ∀ w', Calls Tryd.prog 26 #[.int .u8 15] w' fun e w'' => e = .returned (.int .i64 115) ∧ w'' = w' := fun w' => Tryd.pop_any 15 w' (by decide)
  have tt := fun w' => Tryd.pt_lit [0, 1, 115] [(2, 0), (2, 1), (15, 0)] w' rfl (by decide) (by decide)
  dsimp only [List.map_cons, List.map_nil, List.length_cons, List.length_nil, Nat.zero_add, Nat.reduceAdd] at tt
  clear C hT
  go_enter Tryd.func9, Tryd.ntmps9
  go_wp2_with fail
  refine (o15 _).mono ?_
  rintro e w' ⟨rfl, hw'⟩
  obtain rfl := hw'.symm
  go_wp2_with fail
  refine (tt _).mono ?_
  rintro e x0 ⟨a1, c1, rfl, ho, hTk, hb⟩
  have HB0 : Hid (Below w.heap.size w x0) := hb
  have HT0 : Hid (Tab64 x0) := HT.out.up hb
  have jN := HC.out.made (T := .bin (15, 0) (.leaf (2, 0)) (.leaf (2, 1))) kt_untl hTk (by decide) HT0.out pk1
  clear o15 tt ho hTk hb HT
  go_wp2_with fail
  refine jN.mono ?_
  rintro e w0 ⟨p, F0, rfl, hP⟩
  have HP0 : Hid (PS Prg x0 w0 F0 p [1] [[(2, 0), (2, 1), (15, 0)]]) := hP
  have hno := fun w => Tryd.ptr_no ⟨p, 0, none⟩ w
  unfold pgV
  clear jN hP
  have jj := HC.out.told HP0.out
  unfold pgV at jj
  go_wp2_with fail
  refine jj.mono ?_
  rintro e w1 ⟨sa, sad, F1, rfl, hU, hP, fr⟩
  have SA_1 : Hid (US w1 F1 sa 1 sad [1]) := hU
  have HP1 : Hid (PS Prg x0 w1 F1 p [1] [[(2, 0), (2, 1), (15, 0)]]) := hP
  clear jj hU hP fr HP0
  dsimp only [List.length_cons, List.length_nil, Nat.zero_add, Nat.reduceAdd]
  have jj := HC.out.went HP1.out HT0.out sa 1 sad [1] 1 SA_1.out (by unfold Sm; decide) (by decide) (bd1 _ (by decide)) (by decide) pk2
  unfold pgV at jj
  go_wp2_with fail
  refine jj.mono ?_
  rintro e w2 ⟨ra, rad, F2, rfl, hU, hP, fr⟩
  clear SA_1
  have RA_2 : Hid (US w2 F2 ra 1 rad [1]) := hU
  have HP2 : Hid (PS Prg x0 w2 F2 p [1] [[(2, 0), (2, 1), (15, 0)]]) := hP
  clear jj hU hP fr HP1
  dsimp only [List.length_cons, List.length_nil, Nat.zero_add, Nat.reduceAdd]
  have jj := HC.out.told HP2.out
  unfold pgV at jj
  go_wp2_with fail
  refine jj.mono ?_
  rintro e w3 ⟨sb, sbd, F3, rfl, hU, hP, fr⟩
  have RA_3 : Hid (US w3 F3 ra 1 rad [1]) := RA_2.out.fr fr
  clear RA_2
  have SB_3 : Hid (US w3 F3 sb 1 sbd [1]) := hU
  have HP3 : Hid (PS Prg x0 w3 F3 p [1] [[(2, 0), (2, 1), (15, 0)]]) := hP
  clear jj hU hP fr HP2
  dsimp only [List.length_cons, List.length_nil, Nat.zero_add, Nat.reduceAdd]
  have jj := HC.out.went HP3.out HT0.out sb 1 sbd [1] 2 SB_3.out (by unfold Sm; decide) (by decide) (bd1 _ (by decide)) (by decide) pk3
  unfold pgV at jj
  go_wp2_with fail
  refine jj.mono ?_
  rintro e w4 ⟨rb, rbd, F4, rfl, hU, hP, fr⟩
  clear SB_3
  have RA_4 : Hid (US w4 F4 ra 1 rad [1]) := RA_3.out.fr fr
  clear RA_3
  have RB_4 : Hid (US w4 F4 rb 1 rbd [0]) := hU
  have HP4 : Hid (PS Prg x0 w4 F4 p [1] [[(2, 0), (2, 1), (15, 0)]]) := hP
  clear jj hU hP fr HP3
  dsimp only [List.length_cons, List.length_nil, Nat.zero_add, Nat.reduceAdd]
  have jj := HC.out.told HP4.out
  unfold pgV at jj
  go_wp2_with fail
  refine jj.mono ?_
  rintro e w5 ⟨sc, scd, F5, rfl, hU, hP, fr⟩
  have RA_5 : Hid (US w5 F5 ra 1 rad [1]) := RA_4.out.fr fr
  clear RA_4
  have RB_5 : Hid (US w5 F5 rb 1 rbd [0]) := RB_4.out.fr fr
  clear RB_4
  have SC_5 : Hid (US w5 F5 sc 1 scd [1]) := hU
  have HP5 : Hid (PS Prg x0 w5 F5 p [1] [[(2, 0), (2, 1), (15, 0)]]) := hP
  clear jj hU hP fr HP4
  dsimp only [List.length_cons, List.length_nil, Nat.zero_add, Nat.reduceAdd]
  have jj := HC.out.went HP5.out HT0.out sc 1 scd [1] 0 SC_5.out (by unfold Sm; decide) (by decide) (bd1 _ (by decide)) (by decide) pk4
  unfold pgV at jj
  go_wp2_with fail
  refine jj.mono ?_
  rintro e w6 ⟨rc, rcd, F6, rfl, hU, hP, fr⟩
  clear SC_5
  have RA_6 : Hid (US w6 F6 ra 1 rad [1]) := RA_5.out.fr fr
  clear RA_5
  have RB_6 : Hid (US w6 F6 rb 1 rbd [0]) := RB_5.out.fr fr
  clear RB_5
  have RC_6 : Hid (US w6 F6 rc 0 rcd []) := hU
  have HP6 : Hid (PS Prg x0 w6 F6 p [1] [[(2, 0), (2, 1), (15, 0)]]) := hP
  clear jj hU hP fr HP5
  dsimp only [List.length_cons, List.length_nil, Nat.zero_add, Nat.reduceAdd]
  have jj := HC.out.told HP6.out
  unfold pgV at jj
  go_wp2_with fail
  refine jj.mono ?_
  rintro e w7 ⟨sd, sdd, F7, rfl, hU, hP, fr⟩
  have RA_7 : Hid (US w7 F7 ra 1 rad [1]) := RA_6.out.fr fr
  clear RA_6
  have RB_7 : Hid (US w7 F7 rb 1 rbd [0]) := RB_6.out.fr fr
  clear RB_6
  have RC_7 : Hid (US w7 F7 rc 0 rcd []) := RC_6.out.fr fr
  clear RC_6
  have SD_7 : Hid (US w7 F7 sd 1 sdd [1]) := hU
  have HP7 : Hid (PS Prg x0 w7 F7 p [1] [[(2, 0), (2, 1), (15, 0)]]) := hP
  clear jj hU hP fr HP6
  dsimp only [List.length_cons, List.length_nil, Nat.zero_add, Nat.reduceAdd]
  have hn : Below w7.heap.size w7 (w7.alloc (.cells #[.int .u64 1] 60)) := below_new _ _
  have l0 : USl (w7.alloc (.cells #[.int .u64 1] 60)) (some ⟨w7.heap.size, 0, none⟩) 1 1 [1] := Tryd.set_lit [1] w7 (by decide)
  have jj := Tryd.sameS_any sd 1 sdd [1] _ 1 1 [1] _ (SD_7.out.up hn).sl l0
  rw [decide_eq_true rfl] at jj
  have HN : Hid _ := hn
  clear l0 hn
  go_wp2_with fail
  refine jj.mono ?_
  rintro e w8 ⟨rfl, hb⟩
  have hst : Below w7.heap.size w7 w8 := below_step HN.out hb
  clear SD_7
  have RA_8 : Hid (US w8 F7 ra 1 rad [1]) := RA_7.out.up hst
  clear RA_7
  have RB_8 : Hid (US w8 F7 rb 1 rbd [0]) := RB_7.out.up hst
  clear RB_7
  have RC_8 : Hid (US w8 F7 rc 0 rcd []) := RC_7.out.up hst
  clear RC_7
  have HP8 : Hid (PS Prg x0 w8 F7 p [1] [[(2, 0), (2, 1), (15, 0)]]) := HP7.out.up HC.out hst
  clear jj hb hst HN HP7
  have hn : Below w8.heap.size w8 (w8.alloc (.cells #[.int .u64 1] 60)) := below_new _ _
  have l0 : USl (w8.alloc (.cells #[.int .u64 1] 60)) (some ⟨w8.heap.size, 0, none⟩) 1 1 [1] := Tryd.set_lit [1] w8 (by decide)
  have jj := Tryd.sameS_any ra 1 rad [1] _ 1 1 [1] _ (RA_8.out.up hn).sl l0
  rw [decide_eq_true rfl] at jj
  have HN : Hid _ := hn
  clear l0 hn
  go_wp2_with fail
  refine jj.mono ?_
  rintro e w9 ⟨rfl, hb⟩
  have hst : Below w8.heap.size w8 w9 := below_step HN.out hb
  clear RA_8
  have RB_9 : Hid (US w9 F7 rb 1 rbd [0]) := RB_8.out.up hst
  clear RB_8
  have RC_9 : Hid (US w9 F7 rc 0 rcd []) := RC_8.out.up hst
  clear RC_8
  have HP9 : Hid (PS Prg x0 w9 F7 p [1] [[(2, 0), (2, 1), (15, 0)]]) := HP8.out.up HC.out hst
  clear jj hb hst HN HP8
  have hn : Below w9.heap.size w9 (w9.alloc (.cells #[.int .u64 0] 60)) := below_new _ _
  have l0 : USl (w9.alloc (.cells #[.int .u64 0] 60)) (some ⟨w9.heap.size, 0, none⟩) 1 1 [0] := Tryd.set_lit [0] w9 (by decide)
  have jj := Tryd.sameS_any rb 1 rbd [0] _ 1 1 [0] _ (RB_9.out.up hn).sl l0
  rw [decide_eq_true rfl] at jj
  have HN : Hid _ := hn
  clear l0 hn
  go_wp2_with fail
  refine jj.mono ?_
  rintro e w10 ⟨rfl, hb⟩
  have hst : Below w9.heap.size w9 w10 := below_step HN.out hb
  clear RB_9
  have RC_10 : Hid (US w10 F7 rc 0 rcd []) := RC_9.out.up hst
  clear RC_9
  have HP10 : Hid (PS Prg x0 w10 F7 p [1] [[(2, 0), (2, 1), (15, 0)]]) := HP9.out.up HC.out hst
  clear jj hb hst HN HP9
  go_wp2_with fail
  go_ret
  exact ⟨rfl, below_step HB0.out HP10.out.bel⟩
end Go.Proofs.YtnedkpbpeolfoaaDoor
namespace Go.Proofs.YtnedkpbpeolfoaaDoor
open Go.RowKit Go.Maps
set_option maxRecDepth 100000 in
set_option maxHeartbeats 4000000 in
theorem Tryd.pnone_any {Prg : PrgP} (C : ProgC Prg) (a : Option Addr) (n c : Nat) (y : Int) (w : World) (hT : Tab64 w) : Calls Tryd.prog 3 #[.slice a n c, .int .u8 y] w (BR true w) := by
  obtain ⟨w1, hw1⟩ : ∃ w1, w1 = w.alloc (.cells #[.slice none 0 0, .map none, .slice none 0 0, .pointer none, .map none, .slice none 0 0, .slice none 0 0] 33) := ⟨_, rfl⟩
  obtain ⟨w2, hw2⟩ : ∃ w2, w2 = w1.alloc (.cells #[.pointer none, .pointer (some ⟨w.heap.size, 0, none⟩)] 24) := ⟨_, rfl⟩
  have z1 : w1.heap.size = w.heap.size + 1 := by rw [hw1]; simp
  have b1 : Below w.heap.size w w1 := by rw [hw1]; exact below_new _ _
  have b2 : Below w1.heap.size w1 w2 := by rw [hw2]; exact below_new _ _
  have v1 : w1.heap[w.heap.size]? = some (.cells #[.slice none 0 0, .map none, .slice none 0 0, .pointer none, .map none, .slice none 0 0, .slice none 0 0] 33 (0, 0)) := by rw [hw1]; exact (MapKept.heap_alloc w _).1
  have v2 : w2.heap[w.heap.size + 1]? = some (.cells #[.pointer none, .pointer (some ⟨w.heap.size, 0, none⟩)] 24 (0, 0)) := by rw [← z1, hw2]; exact (MapKept.heap_alloc w1 _).1
  have u1 : w2.cell? ⟨w.heap.size, 3, none⟩ = some (.pointer none) := cell_row ((b2.block _ (by omega)).trans v1) 3
  have p0 : w2.cell? ⟨w.heap.size + 1, 0, none⟩ = some (.pointer none) := cell_row v2 0
  have p1 : w2.cell? ⟨w.heap.size + 1, 1, none⟩ = some (.pointer (some ⟨w.heap.size, 0, none⟩)) := cell_row v2 1
  have HB2 : Hid (Below w.heap.size w w2) := below_step b1 b2
  have HP : Hid (∀ k : Nat, k < 2 → ∃ x, w2.cell? ⟨w.heap.size + 1, k, none⟩ = some (.pointer x) ∧ OffP w2 x) := fun k hk => by
    rcases (show k = 0 ∨ k = 1 by omega) with rfl | rfl
    · exact ⟨_, p0, Or.inl rfl⟩
    · exact ⟨_, p1, Or.inr ⟨_, rfl, u1⟩⟩
  have HIX : Hid (∀ k : Nat, k < 2 → ∀ w', (Instr.indexAt 34 (.slice (some ⟨w.heap.size + 1, 0, none⟩) 2 2) (.int .i64 (k : Int))).run Tryd.prog w' = .ok (.pointer (some ⟨w.heap.size + 1, k, none⟩)) w') := fun k hk w' => by
    simp [Instr.indexAt, run_underlying Tryd.underlying34, asIntOf, sizeOf_runI (show (Tryd.prog.info? 24).map (·.size) = some 1 by kernel_rfl), hk, Result.andThen, go_sem, add_plain]
  have HC : Hid (ProgC Prg) := C
  have HT : Hid (Tab64 w) := hT
  have HW1 : Hid _ := hw1
  have HW2 : Hid _ := hw2
  have HZ1 : Hid _ := z1
  clear hT hw1 hw2 z1 b1 b2 v1 v2 u1 p0 p1 C
  go_enter Tryd.func3, Tryd.ntmps3
  go_wp2
  rw [← HW1.out, ← HW2.out]
  go_loopw [6] (fun i wr => ∃ k : Nat, k ≤ 2 ∧ i = .int .i64 (k : Int) ∧ Hid (Below w2.heap.size w2 wr)) (fun i _ => 2 - (intOf i).toNat)
  case atStart => exact ⟨0, Nat.zero_le _, rfl, Below.refl _ _⟩
  case round =>
    obtain ⟨k, hk, rfl, HB⟩ := hrel
    by_cases hlt : k < 2
    · obtain ⟨x, hx, hoff⟩ := HP.out k hlt
      have cx := kept_cell hx HB.out
      have hix := HIX.out k hlt
      have js := Tryd.pStep_off (hoff.up HB.out) a n c y
      have HOFF : Hid (OffP wr x) := hoff.up HB.out
      clear hx hoff
      go_wp2_with fail
      refine js.mono ?_
      rintro e w3 ⟨rfl, hb3⟩
      have ho3 := HOFF.out.up hb3
      have j1 := Tryd.pstart_off ho3
      have j2 := Tryd.patoms_off ho3
      have j3 := Tryd.pfinal_off ho3 a n c
      have HB3 : Hid (Below w2.heap.size w2 w3) := below_step HB.out hb3
      clear js hb3 ho3 cx
      go_wp2_with (first
        | (go_at_call 6; refine j1.mono ?_; rintro e w4 ⟨rfl, hw4⟩; obtain rfl := hw4.symm)
        | (go_at_call 7; refine j2.mono ?_; rintro e w4 ⟨rfl, hw4⟩; obtain rfl := hw4.symm)
        | (go_at_call 8; refine j3.mono ?_; rintro e w4 ⟨rfl, hw4⟩; obtain rfl := hw4.symm)
        | fail)
      go_roundw
      case rel => exact ⟨k + 1, by omega, by go_num, HB3⟩
      case measure => simp [intOf] <;> omega
    · obtain rfl : k = 2 := by omega
      have hbw : Below w.heap.size w wr := below_step HB2.out HB.out
      have ja := Tryd.pawake_any HC.out wr (HT.out.up hbw)
      have HBW : Hid _ := hbw
      clear hbw
      go_wp2_with fail
      refine ja.mono ?_
      rintro e w3 ⟨rfl, hb3⟩
      have HB3 : Hid _ := below_step HBW.out hb3
      clear ja hb3
      go_wp2
      go_ret
      exact ⟨rfl, HB3.out⟩
theorem Tryd.pnone_all (a : Option Addr) (n c : Nat) (x : Nat) (w : World) (hT : Tab64 w) (_ : x < 256) : Calls Tryd.prog 3 #[.slice a n c, .int .u8 (x : Int)] w (BR true w) := Tryd.pnone_any Tryd.progC a n c (x : Int) w hT
end Go.Proofs.YtnedkpbpeolfoaaDoor
namespace Go.Proofs.YtnedkpbpeolfoaaDoor
open Go.RowKit Go.Maps
theorem zN_get {zs : List Int} {k : Nat} (h : k < zs.length) (h0 : ∀ z ∈ zs, 0 ≤ z ∧ z < 256) : ∃ x : Nat, zs.getD k 0 = (x : Int) ∧ x < 256 ∧ (zN zs)[k]? = some x := by
  have hm := h0 zs[k] (List.getElem_mem h)
  refine ⟨zs[k].toNat, ?_, by omega, ?_⟩
  · rw [List.getD_eq_getElem?_getD, List.getElem?_eq_getElem h]
    show zs[k] = _
    omega
  · unfold zN
    rw [List.getElem?_map, List.getElem?_eq_getElem h]; rfl
/-- What there is at a place of a trace. -/
structure Now (Prg : PrgP) (w wr : World) (F : Nat → Prop) (p : Nat) (l0 : List Nat) (t : List Nat) (T : Tr) (i : Nat) (q : Option Addr) (n c : Nat) (l : List Nat) (M : Mt) : Prop where
  ps : PS Prg w wr F p l0 M
  us : US wr F q n c l
  at_ : At t T i l M
  few : n ≤ 1024
theorem Now.sm {Prg : PrgP} {w wr : World} {F : Nat → Prop} {p : Nat} {l0 t : List Nat} {T : Tr} {i : Nat} {q : Option Addr} {n c : Nat} {l : List Nat} {M : Mt} (h : Now Prg w wr F p l0 t T i q n c l M) : Sm l := h.at_.lt
/-- A letter more. -/
theorem Now.step {Prg : PrgP} (C : ProgC Prg) {w wr : World} {F : Nat → Prop} {p : Nat} {l0 t : List Nat} {T : Tr} {i : Nat} {q : Option Addr} {n c : Nat} {l : List Nat} {M : Mt} (h : Now Prg w wr F p l0 t T i q n c l M) (hT : Tab64 w) {x : Nat} (hx : t[i]? = some x) (hx2 : x < 256) :
    Calls Tryd.prog 5 #[pgV p, .slice q n c, .int .u8 (x : Int)] wr fun e w' => ∃ F' q' n' c' l' M' E, e = .returned (.tuple #[.slice q' n' c', .int .i64 E]) ∧ Fr wr w' F F' ∧ PS Prg w w' F' p l0 M' ∧ US w' F' q' n' c' l' ∧ ((E = 9 ∧ stepM fuelN x l [] M = none ∧ M' = M ∧ l' = []) ∨ (E = 0 ∧ stepM fuelN x l [] M = some (l', M') ∧ Now Prg w w' F' p l0 t T (i + 1) q' n' c' l' M' ∧ l' = leastL l')) := by
  refine (C.step q n c l x h.ps.prg (hT.up h.ps.bel) h.us h.sm h.few h.at_.bd hx2).mono ?_
  rintro e w' ⟨F', fr, ⟨q', d, h1, rfl, h2, h3⟩ | ⟨L, M', q', d, h1, rfl, h2, h3⟩⟩
  · exact ⟨F', q', 0, d, [], M, 9, rfl, fr, h.ps.fr h3 fr, h2, Or.inl ⟨rfl, h1, rfl, rfl⟩⟩
  · have hl := step_len fuelN x l [] (by simp) h1
    exact ⟨F', q', L.length, d, L, M', 0, rfl, fr, h.ps.fr h3 fr, h2, Or.inr ⟨rfl, h1, ⟨h.ps.fr h3 fr, h2, h.at_.step hx h1, hl⟩, step_least (by rfl) h1⟩⟩
set_option maxRecDepth 100000 in
set_option maxHeartbeats 4000000 in
theorem Tryd.final_any {Prg : PrgP} (C : ProgC Prg) (a : Option Addr) (len cap : Nat) (T : Tr) (d : Option Addr) (m c : Nat) (zs : List Int) (w : World) (hS : TkSl w a len cap T.flat) (hK : KT T) (hl : T.flat.length ≤ 2048) (hL : LtSl w d m c zs) (hm : m ≤ 1000) (hT : Tab64 w) :
    Calls Tryd.prog 11 #[.slice a len cap, .slice d m c] w fun e w' => ∃ x ok, e = .returned (.tuple #[.bool x, .bool ok]) ∧ Below w.heap.size w w' ∧ (ok = true → (x = true ↔ (semTr (zN zs) T).1 0)) := by
  have HC : Hid (ProgC Prg) := C
  have HT : Hid (Tab64 w) := hT
  have HL : Hid (LtSl w d m c zs) := hL
  have hlen := hL.sl.hlen
  have HLN : Hid (zs.length = m) := hlen
  have hidx := fun (k : Nat) (w : World) (h : k < m) => hL.sl.idx m k w h (Nat.le_refl _)
  have hc0 : chkE T.flat = 0 := chk_zero.2 ⟨hl, T, hK.wf, hK.np, hK.kr, rfl⟩
  have jN := C.new a len cap T.flat w hS hT
  have HK : Hid (KT T) := hK
  have HC0 : Hid (chkE T.flat = 0) := hc0
  have hno := fun (p : Nat) w => Tryd.ptr_no ⟨p, 0, none⟩ w
  clear C hT hL hlen hS hK hc0
  go_enter Tryd.func11, Tryd.ntmps11
  go_wp2_with fail
  refine jN.mono ?_
  rintro e w1 ⟨hb, ⟨h1, _⟩ | ⟨S, hS2, he, _, h2⟩⟩
  · exact absurd HC0.out h1
  · have hSn : needM S [] = needM T [] := by
      have e1 := grow_flat HK.out.wf
      have e2 := grow_flat hS2.wf
      rw [he] at e1
      rw [← e1, e2]
    rcases h2 with ⟨h3, rfl⟩ | ⟨l0, M, p, F, h3, rfl, h4, h5⟩
    · have HB : Hid (Below w.heap.size w w1) := hb
      clear jN hS2 he hSn h3 hb
      go_wp2_with fail
      go_ret2
      exact ⟨false, false, rfl, HB.out, fun h => by cases h⟩
    · rw [hSn] at h3
      have HP : Hid (PS Prg w w1 F p l0 M) := ⟨h4, h5, hb⟩
      have HA : Hid (At (zN zs) T 0 l0 M) := At.start HK.out h3
      have HF : Hid (l0.length ≤ 1024) := need_len T h3
      have jS := HC.out.told HP.out
      clear jN hS2 he hSn h3 hb h4 h5
      unfold pgV at jS ⊢
      go_wp2_with fail
      refine jS.mono ?_
      rintro e w2 ⟨q, qd, F2, rfl, hU, hP2, _⟩
      have HN : Hid (Now Prg w w2 F2 p l0 (zN zs) T 0 q l0.length qd l0 M) := ⟨hP2, hU, HA.out, HF.out⟩
      clear jS hU hP2 HP HA HF
      generalize l0.length = n0 at *
      go_wp2
      go_loopw [7, 8, 9] (fun v7 v8 v9 wr => ∃ k : Nat, k ≤ m ∧ v9 = .int .i64 (k : Int) ∧ v7 = .int .i64 0 ∧ ∃ F q n c l M, v8 = .slice q n c ∧ Hid (Now Prg w wr F p l0 (zN zs) T k q n c l M)) (fun _ _ v9 _ => m - (intOf v9).toNat)
      case atStart => exact ⟨0, Nat.zero_le _, rfl, rfl, F2, q, n0, qd, l0, M, rfl, HN⟩
      case round =>
        obtain ⟨k, hk, rfl, rfl, F3, q3, n3, c3, l3, M3, rfl, HW⟩ := hrel
        clear HN
        by_cases hlt : k < m
        · obtain ⟨x, hx1, hx2, hx3⟩ := zN_get (k := k) (by rw [HLN.out]; exact hlt) HL.out.ok
          have hcell := (HL.out.up HW.out.ps.bel).sl.cell k hlt
          rw [hx1] at hcell
          have hx := fun w' => hidx k w' hlt
          have jj := HW.out.step HC.out HT.out hx3 hx2
          clear hidx hx1
          unfold pgV at jj
          go_wp2_with fail
          refine jj.mono ?_
          rintro e w4 ⟨F4, q4, n4, c4, l4, M4, E, rfl, fr, hP4, hU4, ⟨rfl, _, _, _⟩ | ⟨rfl, _, hW4, _⟩⟩
          · have HB : Hid (Below w.heap.size w w4) := hP4.bel
            clear jj fr hP4 hU4 HW
            go_wp2_with fail
            go_ret2
            exact ⟨false, false, rfl, HB.out, fun h => by cases h⟩
          · have HW4 : Hid _ := hW4
            clear jj fr hP4 hU4 HW hW4
            go_wp2
            go_roundw
            case rel => exact ⟨k + 1, by omega, by go_num, rfl, F4, q4, n4, c4, l4, M4, rfl, HW4⟩
            case measure => simp [intOf]; omega
        · obtain rfl : k = m := by omega
          have hA := HW.out.at_
          rw [show k = (zN zs).length by rw [zN_len, HLN.out]] at hA
          have HFE : Hid _ := hA.fin
          have jF := HC.out.fin q3 n3 c3 l3 HW.out.ps.prg (HT.out.up HW.out.ps.bel) HW.out.us HW.out.sm HW.out.few
          have HPS : Hid _ := HW.out.ps
          clear hA HW hidx
          unfold pgV at jF
          go_wp2_with fail
          refine jF.mono ?_
          rintro e w4 ⟨b, F4, rfl, hb, hP4, fr⟩
          have HB : Hid (Below w.heap.size w w4) := (HPS.out.fr hP4 fr).bel
          have HE : Hid (b = true ↔ (semTr (zN zs) T).1 0) := hb.trans HFE.out
          clear jF hP4 fr hb HPS HFE
          go_wp2
          go_ret2
          exact ⟨b, true, rfl, HB.out, fun _ => HE.out⟩
end Go.Proofs.YtnedkpbpeolfoaaDoor
namespace Go.Proofs.YtnedkpbpeolfoaaDoor
open Go.RowKit Go.Maps
theorem own_none2 (w : World) (e : TypeId) : (w.alloc (.cells #[] e)).ownsRow w.heap.size e 2 (.slice (some ⟨w.heap.size, 0, none⟩) 0 0) ([] : List Tk).length (encT []) :=
  ⟨rfl, Or.inr ⟨w.heap.size, 0, #[], rfl, Nat.le_refl _, (MapKept.heap_alloc w _).1, Nat.le_refl _, Nat.zero_le _, rfl, rfl⟩⟩
theorem bool_iff {x y v : Bool} {X Y : Prop} (hx : x = true ↔ X) (hy : y = true ↔ Y) : ((v = true ↔ X ∧ Y) → v = (x && y)) ∧ ((v = true ↔ X ∨ Y) → v = (x || y)) := by
  constructor
  · intro h
    rw [Bool.eq_iff_iff, h, Bool.and_eq_true, hx, hy]
  · intro h
    rw [Bool.eq_iff_iff, h, Bool.or_eq_true, hx, hy]
set_option maxRecDepth 100000 in
set_option maxHeartbeats 8000000 in
theorem Tryd.pparts_any {Prg : PrgP} (C : ProgC Prg) (hChk : ChkC 10) (a : Option Addr) (la ca : Nat) (xs : List Tk) (b : Option Addr) (lb cb : Nat) (ys : List Tk) (d : Option Addr) (m c : Nat) (zs : List Int) (w : World) (hA : TkSl w a la ca xs) (hB : TkSl w b lb cb ys) (hL : LtSl w d m c zs) (hT : Tab64 w) :
    Calls Tryd.prog 4 #[.slice a la ca, .slice b lb cb, .slice d m c] w (BR true w) := by
  have HC : Hid (ProgC Prg) := C
  have HT : Hid (Tab64 w) := hT
  have HA : Hid (TkSl w a la ca xs) := hA
  have HB : Hid (TkSl w b lb cb ys) := hB
  have HL : Hid (LtSl w d m c zs) := hL
  have HK : Hid (ChkC 10) := hChk
  have HLA : Hid (xs.length = la) := hA.hlen
  have HLB : Hid (ys.length = lb) := hB.hlen
  have bda := Nat.le_trans hA.hcap hA.bd
  have bdb := Nat.le_trans hB.hcap hB.bd
  have bdm := Nat.le_trans hL.sl.hcap hL.sl.bd
  have j0 := Tryd.pawake_any C w hT
  clear C hT hA hB hL hChk
  go_enter Tryd.func4, Tryd.ntmps4
  go_wp2_with fail
  refine j0.mono ?_
  rintro e w0 ⟨rfl, hb⟩
  have HB0 : Hid (Below w.heap.size w w0) := hb
  clear j0 hb
  by_cases c1 : (25 : Int) < (la : Int)
  · have c1b : decide ((25 : Int) < (la : Int)) = true := decide_eq_true c1
    go_wp2_with fail
    go_ret
    exact ⟨rfl, HB0.out⟩
  have c1b : decide ((25 : Int) < (la : Int)) = false := decide_eq_false c1
  by_cases c2 : (25 : Int) < (lb : Int)
  · have c2b : decide ((25 : Int) < (lb : Int)) = true := decide_eq_true c2
    go_wp2_with fail
    go_ret
    exact ⟨rfl, HB0.out⟩
  have c2b : decide ((25 : Int) < (lb : Int)) = false := decide_eq_false c2
  by_cases c3 : (12 : Int) < (m : Int)
  · have c3b : decide ((12 : Int) < (m : Int)) = true := decide_eq_true c3
    go_wp2_with fail
    go_ret
    exact ⟨rfl, HB0.out⟩
  have c3b : decide ((12 : Int) < (m : Int)) = false := decide_eq_false c3
  have k1 := HK.out a la ca xs w0 (HA.out.up HB0.out)
  obtain ⟨E1, hE1⟩ : ∃ E, E = chkE xs := ⟨_, rfl⟩
  have HE1 : Hid (E1 = chkE xs) := hE1
  rw [← hE1] at k1
  clear hE1
  go_wp2_with fail
  refine k1.mono ?_
  rintro e w1 ⟨rfl, hb⟩
  have HB1 : Hid (Below w.heap.size w w1) := below_step HB0.out hb
  clear k1 hb HB0
  by_cases d1 : E1 = 0
  case neg =>
    have d1' : ((E1 : Int) != 0) = true := by simp; omega
    go_wp2_with fail
    go_ret
    exact ⟨rfl, HB1.out⟩
  subst d1
  have k2 := HK.out b lb cb ys w1 (HB.out.up HB1.out)
  obtain ⟨E2, hE2⟩ : ∃ E, E = chkE ys := ⟨_, rfl⟩
  have HE2 : Hid (E2 = chkE ys) := hE2
  rw [← hE2] at k2
  clear hE2
  go_wp2_with fail
  refine k2.mono ?_
  rintro e w2 ⟨rfl, hb⟩
  have HB2 : Hid (Below w.heap.size w w2) := below_step HB1.out hb
  clear k2 hb HB1
  by_cases d2 : E2 = 0
  case neg =>
    have d2' : ((E2 : Int) != 0) = true := by simp; omega
    go_wp2_with fail
    go_ret
    exact ⟨rfl, HB2.out⟩
  subst d2
  obtain ⟨hk1, S, hS, hxs⟩ := chk_kt HE1.out.symm
  obtain ⟨hk2, R, hR, hys⟩ := chk_kt HE2.out.symm
  have HS : Hid (KT S) := hS
  have HR : Hid (KT R) := hR
  have HXS : Hid (xs = S.flat) := hxs
  have HYS : Hid (ys = R.flat) := hys
  clear hk1 hk2 hS hR hxs hys HE1 HE2 HK
  have hxl : xs.length ≤ 25 := by rw [HLA.out]; omega
  have hyl : ys.length ≤ 25 := by rw [HLB.out]; omega
  have m3 : m ≤ 12 := by omega
  clear c1 c2 c3 c1b c2b c3b
  have HO : Hid ((w2.alloc (.cells #[] 49)).ownsRow w2.heap.size 49 2 (.slice (some ⟨w2.heap.size, 0, none⟩) 0 0) ([] : List Tk).length (encT [])) := own_none2 w2 _
  have HBn : Hid (Below w2.heap.size w2 (w2.alloc (.cells #[] 49))) := below_new _ _
  have HT1 : Hid (TkSl (w2.alloc (.cells #[] 49)) a la ca xs) := (HA.out.up HB2.out).up HBn.out
  go_wp2_with (at_builtin; refine Tryd.append_tks rfl _ _ rfl w2.heap.size _ [] xs a la ca rfl rfl HO.out HT1.out (by simp) (by omega) (by simp) ?_)
  intro v1 x1 hown hgr
  have HBx : Hid (Below w2.heap.size w2 x1) := HBn.out.grown hgr (by simp) (fun q hq => by simp [Value.ownBlock] at hq; omega)
  have HO1 : Hid (x1.ownsRow w2.heap.size 49 2 v1 xs.length (encT xs)) := hown
  clear hown hgr HO HBn HT1
  have HT2 : Hid (TkSl x1 b lb cb ys) := (HB.out.up HB2.out).up HBx.out
  have HG1 : Hid (∀ q, v1.ownBlock = some q → w2.heap.size ≤ q) := own_ge HO1.out
  go_wp2_with (at_builtin; refine Tryd.append_tks rfl _ _ rfl w2.heap.size _ xs ys b lb cb rfl rfl HO1.out HT2.out (by omega) (by omega) HBx.out.size ?_)
  intro v2 x2 hown hgr
  have HBy : Hid (Below w2.heap.size w2 x2) := HBx.out.grown hgr HBx.out.size (fun q hq => HG1.out q hq)
  have HO2 : Hid (x2.ownsRow w2.heap.size 49 2 v2 (xs ++ ys).length (encT (xs ++ ys))) := by show World.ownsRow _ _ _ _ _ _ _; rw [List.length_append]; exact hown
  clear hown hgr HO1 HBx HT2 HG1
  have HK3 : Hid (Blk (x2.alloc (.cells #[.int .u8 11, .int .u8 0] 49)) x2.heap.size 49 11 0) := Blk.new x2 49 11 0
  have HT3 : Hid (TkSl (x2.alloc (.cells #[.int .u8 11, .int .u8 0] 49)) (some ⟨x2.heap.size, 0, none⟩) 1 1 [(11, 0)]) := blk_tk HK3.out (by decide) (by decide)
  have HO3 : Hid ((x2.alloc (.cells #[.int .u8 11, .int .u8 0] 49)).ownsRow w2.heap.size 49 2 v2 (xs ++ ys).length (encT (xs ++ ys))) := World.ownsRow.alloc HO2.out _
  have HBz : Hid (Below w2.heap.size w2 (x2.alloc (.cells #[.int .u8 11, .int .u8 0] 49))) := HBy.out.alloc HBy.out.size _
  have HG2 : Hid (∀ q, v2.ownBlock = some q → w2.heap.size ≤ q) := own_ge HO2.out
  have hsz3 : w2.heap.size ≤ (x2.alloc (.cells #[.int .u8 11, .int .u8 0] 49)).heap.size := HBz.out.size
  clear HK3 HO2 HBy
  go_wp2_with (at_builtin; refine Tryd.append_tks rfl _ _ rfl w2.heap.size _ (xs ++ ys) [(11, 0)] (some ⟨x2.heap.size, 0, none⟩) 1 1 rfl rfl HO3.out HT3.out (by rw [List.length_append]; omega) (by simp) hsz3 ?_)
  intro v3 w3 hown hgr
  have hst : Below w2.heap.size w2 w3 := HBz.out.grown hgr hsz3 (fun q hq => HG2.out q hq)
  have HB3 : Hid (Below w.heap.size w w3) := below_step HB2.out hst
  have hokt : ∀ t ∈ xs ++ (ys ++ [(11, 0)]), t.1 < 256 ∧ t.2 < 256 := fun t ht => by
    rcases List.mem_append.1 ht with ht | ht
    · exact HA.out.ok t ht
    · rcases List.mem_append.1 ht with ht | ht
      · exact HB.out.ok t ht
      · rw [List.mem_singleton.1 ht]; exact ⟨by decide, by decide⟩
  obtain ⟨bo, boc, rfl, hTk, _⟩ := own_tk hown hokt
  have BO_3 : Hid (TkSl w3 bo (xs.length + (ys.length + 1)) boc (xs ++ (ys ++ [(11, 0)]))) := hTk
  clear hown hgr hst hokt hTk HT3 HO3 HBz HG2 hsz3 HB2
  have HO : Hid ((w3.alloc (.cells #[] 49)).ownsRow w3.heap.size 49 2 (.slice (some ⟨w3.heap.size, 0, none⟩) 0 0) ([] : List Tk).length (encT [])) := own_none2 w3 _
  have HBn : Hid (Below w3.heap.size w3 (w3.alloc (.cells #[] 49))) := below_new _ _
  have HT1 : Hid (TkSl (w3.alloc (.cells #[] 49)) a la ca xs) := (HA.out.up HB3.out).up HBn.out
  go_wp2_with (at_builtin; refine Tryd.append_tks rfl _ _ rfl w3.heap.size _ [] xs a la ca rfl rfl HO.out HT1.out (by simp) (by omega) (by simp) ?_)
  intro v1 x1 hown hgr
  have HBx : Hid (Below w3.heap.size w3 x1) := HBn.out.grown hgr (by simp) (fun q hq => by simp [Value.ownBlock] at hq; omega)
  have HO1 : Hid (x1.ownsRow w3.heap.size 49 2 v1 xs.length (encT xs)) := hown
  clear hown hgr HO HBn HT1
  have HT2 : Hid (TkSl x1 b lb cb ys) := (HB.out.up HB3.out).up HBx.out
  have HG1 : Hid (∀ q, v1.ownBlock = some q → w3.heap.size ≤ q) := own_ge HO1.out
  go_wp2_with (at_builtin; refine Tryd.append_tks rfl _ _ rfl w3.heap.size _ xs ys b lb cb rfl rfl HO1.out HT2.out (by omega) (by omega) HBx.out.size ?_)
  intro v2 x2 hown hgr
  have HBy : Hid (Below w3.heap.size w3 x2) := HBx.out.grown hgr HBx.out.size (fun q hq => HG1.out q hq)
  have HO2 : Hid (x2.ownsRow w3.heap.size 49 2 v2 (xs ++ ys).length (encT (xs ++ ys))) := by show World.ownsRow _ _ _ _ _ _ _; rw [List.length_append]; exact hown
  clear hown hgr HO1 HBx HT2 HG1
  have HK3 : Hid (Blk (x2.alloc (.cells #[.int .u8 12, .int .u8 0] 49)) x2.heap.size 49 12 0) := Blk.new x2 49 12 0
  have HT3 : Hid (TkSl (x2.alloc (.cells #[.int .u8 12, .int .u8 0] 49)) (some ⟨x2.heap.size, 0, none⟩) 1 1 [(12, 0)]) := blk_tk HK3.out (by decide) (by decide)
  have HO3 : Hid ((x2.alloc (.cells #[.int .u8 12, .int .u8 0] 49)).ownsRow w3.heap.size 49 2 v2 (xs ++ ys).length (encT (xs ++ ys))) := World.ownsRow.alloc HO2.out _
  have HBz : Hid (Below w3.heap.size w3 (x2.alloc (.cells #[.int .u8 12, .int .u8 0] 49))) := HBy.out.alloc HBy.out.size _
  have HG2 : Hid (∀ q, v2.ownBlock = some q → w3.heap.size ≤ q) := own_ge HO2.out
  have hsz3 : w3.heap.size ≤ (x2.alloc (.cells #[.int .u8 12, .int .u8 0] 49)).heap.size := HBz.out.size
  clear HK3 HO2 HBy
  go_wp2_with (at_builtin; refine Tryd.append_tks rfl _ _ rfl w3.heap.size _ (xs ++ ys) [(12, 0)] (some ⟨x2.heap.size, 0, none⟩) 1 1 rfl rfl HO3.out HT3.out (by rw [List.length_append]; omega) (by simp) hsz3 ?_)
  intro v3 w4 hown hgr
  have hst : Below w3.heap.size w3 w4 := HBz.out.grown hgr hsz3 (fun q hq => HG2.out q hq)
  have HB4 : Hid (Below w.heap.size w w4) := below_step HB3.out hst
  have hokt : ∀ t ∈ xs ++ (ys ++ [(12, 0)]), t.1 < 256 ∧ t.2 < 256 := fun t ht => by
    rcases List.mem_append.1 ht with ht | ht
    · exact HA.out.ok t ht
    · rcases List.mem_append.1 ht with ht | ht
      · exact HB.out.ok t ht
      · rw [List.mem_singleton.1 ht]; exact ⟨by decide, by decide⟩
  obtain ⟨so, soc, rfl, hTk, _⟩ := own_tk hown hokt
  have BO_4 : Hid (TkSl w4 bo (xs.length + (ys.length + 1)) boc (xs ++ (ys ++ [(11, 0)]))) := BO_3.out.up hst
  clear BO_3
  have SO_4 : Hid (TkSl w4 so (xs.length + (ys.length + 1)) soc (xs ++ (ys ++ [(12, 0)]))) := hTk
  clear hown hgr hst hokt hTk HT3 HO3 HBz HG2 hsz3 HB3
  have jj := Tryd.final_any HC.out a la ca (S) d m c zs w4 (by rw [← HXS.out]; exact HA.out.up HB4.out) (HS.out) (by rw [← HXS.out]; omega) (HL.out.up HB4.out) (by omega) (HT.out.up HB4.out)
  go_wp2_with fail
  refine jj.mono ?_
  rintro e w5 ⟨x1, ok1, rfl, hst, hres⟩
  have HB5 : Hid (Below w.heap.size w w5) := below_step HB4.out hst
  have HR1 : Hid (ok1 = true → (x1 = true ↔ (semTr (zN zs) (S)).1 0)) := hres
  have BO_5 : Hid (TkSl w5 bo (xs.length + (ys.length + 1)) boc (xs ++ (ys ++ [(11, 0)]))) := BO_4.out.up hst
  clear BO_4
  have SO_5 : Hid (TkSl w5 so (xs.length + (ys.length + 1)) soc (xs ++ (ys ++ [(12, 0)]))) := SO_4.out.up hst
  clear SO_4
  clear jj hst hres HB4
  have jj := Tryd.final_any HC.out b lb cb (R) d m c zs w5 (by rw [← HYS.out]; exact HB.out.up HB5.out) (HR.out) (by rw [← HYS.out]; omega) (HL.out.up HB5.out) (by omega) (HT.out.up HB5.out)
  go_wp2_with fail
  refine jj.mono ?_
  rintro e w6 ⟨x2, ok2, rfl, hst, hres⟩
  have HB6 : Hid (Below w.heap.size w w6) := below_step HB5.out hst
  have HR2 : Hid (ok2 = true → (x2 = true ↔ (semTr (zN zs) (R)).1 0)) := hres
  have BO_6 : Hid (TkSl w6 bo (xs.length + (ys.length + 1)) boc (xs ++ (ys ++ [(11, 0)]))) := BO_5.out.up hst
  clear BO_5
  have SO_6 : Hid (TkSl w6 so (xs.length + (ys.length + 1)) soc (xs ++ (ys ++ [(12, 0)]))) := SO_5.out.up hst
  clear SO_5
  clear jj hst hres HB5
  have jj := Tryd.final_any HC.out bo (xs.length + (ys.length + 1)) boc (.bin (11, 0) S R) d m c zs w6 (by show TkSl _ _ _ _ (S.flat ++ R.flat ++ [(11, 0)]); rw [List.append_assoc, ← HXS.out, ← HYS.out]; exact BO_6.out) (kt_two HS.out HR.out 11 (Or.inl rfl)) (by show (S.flat ++ R.flat ++ [(11, 0)]).length ≤ 2048; rw [← HXS.out, ← HYS.out, List.length_append, List.length_append, List.length_singleton]; omega) (HL.out.up HB6.out) (by omega) (HT.out.up HB6.out)
  go_wp2_with fail
  refine jj.mono ?_
  rintro e w7 ⟨x3, ok3, rfl, hst, hres⟩
  have HB7 : Hid (Below w.heap.size w w7) := below_step HB6.out hst
  have HR3 : Hid (ok3 = true → (x3 = true ↔ (semTr (zN zs) (.bin (11, 0) S R)).1 0)) := hres
  have BO_7 : Hid (TkSl w7 bo (xs.length + (ys.length + 1)) boc (xs ++ (ys ++ [(11, 0)]))) := BO_6.out.up hst
  clear BO_6
  have SO_7 : Hid (TkSl w7 so (xs.length + (ys.length + 1)) soc (xs ++ (ys ++ [(12, 0)]))) := SO_6.out.up hst
  clear SO_6
  clear jj hst hres HB6
  have jj := Tryd.final_any HC.out so (xs.length + (ys.length + 1)) soc (.bin (12, 0) S R) d m c zs w7 (by show TkSl _ _ _ _ (S.flat ++ R.flat ++ [(12, 0)]); rw [List.append_assoc, ← HXS.out, ← HYS.out]; exact SO_7.out) (kt_two HS.out HR.out 12 (Or.inr rfl)) (by show (S.flat ++ R.flat ++ [(12, 0)]).length ≤ 2048; rw [← HXS.out, ← HYS.out, List.length_append, List.length_append, List.length_singleton]; omega) (HL.out.up HB7.out) (by omega) (HT.out.up HB7.out)
  go_wp2_with fail
  refine jj.mono ?_
  rintro e w8 ⟨x4, ok4, rfl, hst, hres⟩
  have HB8 : Hid (Below w.heap.size w w8) := below_step HB7.out hst
  have HR4 : Hid (ok4 = true → (x4 = true ↔ (semTr (zN zs) (.bin (12, 0) S R)).1 0)) := hres
  have BO_8 : Hid (TkSl w8 bo (xs.length + (ys.length + 1)) boc (xs ++ (ys ++ [(11, 0)]))) := BO_7.out.up hst
  clear BO_7
  have SO_8 : Hid (TkSl w8 so (xs.length + (ys.length + 1)) soc (xs ++ (ys ++ [(12, 0)]))) := SO_7.out.up hst
  clear SO_7
  clear jj hst hres HB7
  cases ok1 with
  | false =>
    go_wp2_with fail
    go_ret
    exact ⟨rfl, HB8.out⟩
  | true =>
  cases ok2 with
  | false =>
    go_wp2_with fail
    go_ret
    exact ⟨rfl, HB8.out⟩
  | true =>
  cases ok3 with
  | false =>
    go_wp2_with fail
    go_ret
    exact ⟨rfl, HB8.out⟩
  | true =>
  cases ok4 with
  | false =>
    go_wp2_with fail
    go_ret
    exact ⟨rfl, HB8.out⟩
  | true =>
  have e3 := (bool_iff (v := x3) (HR1.out rfl) (HR2.out rfl)).1 (HR3.out rfl)
  have e4 := (bool_iff (v := x4) (HR1.out rfl) (HR2.out rfl)).2 (HR4.out rfl)
  subst e3 e4
  clear HR1 HR2 HR3 HR4
  cases x1 <;> cases x2 <;> (go_wp2_with fail; go_ret; exact ⟨rfl, HB8.out⟩)
end Go.Proofs.YtnedkpbpeolfoaaDoor
namespace Go.Proofs.YtnedkpbpeolfoaaDoor
open Go.RowKit Go.Maps
theorem Tryd.pparts_all (a : Option Addr) (la ca : Nat) (xs : List Tk) (b : Option Addr) (lb cb : Nat) (ys : List Tk) (d : Option Addr) (m c : Nat) (zs : List Int) (w : World) (hT : Tab64 w) (hA : TkSl w a la ca xs) (hB : TkSl w b lb cb ys) (hL : LtSl w d m c zs) :
    Calls Tryd.prog 4 #[.slice a la ca, .slice b lb cb, .slice d m c] w (BR true w) := Tryd.pparts_any Tryd.progC Tryd.kcheck_any a la ca xs b lb cb ys d m c zs w hA hB hL hT
end Go.Proofs.YtnedkpbpeolfoaaDoor
