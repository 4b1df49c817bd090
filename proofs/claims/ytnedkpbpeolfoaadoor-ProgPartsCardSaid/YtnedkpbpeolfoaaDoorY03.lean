/- Texts of the proof, put together: what it uses. -/
import Derived.Laws.BytesString
import Derived.Laws.IdiomStrings
import Derived.OwnWalk
import Derived.Deep.QuietTactic
import Derived.BigQuiet
import Derived.Deep.RegionHeld3
import Derived.Deep.RegionHeld2
import Derived.Test.YtnedkpbpeolfoaaDoorY00
import Derived.Test.YtnedkpbpeolfoaaDoorY01
import Derived.Test.YtnedkpbpeolfoaaDoorY02
namespace Go.Proofs.YtnedkpbpeolfoaaDoor
open Go.RowKit Go.Maps
def tkY (k : Tk) : Nat := k.1 * 8 + k.2
def encY (ts : List Tk) : List Value := ts.map fun k => .int .u8 (tkY k : Int)
theorem encY_app (a b : List Tk) : encY (a ++ b) = encY a ++ encY b := by simp [encY]
/-- A row has grown: nothing else has changed. -/
structure GrowV (w w' : World) (v v' : Value) : Prop where
  gr : w.grownBy w' v.ownBlock
  loc : v'.ownBlock = v.ownBlock ∨ ∃ k, v'.ownBlock = some k ∧ w.heap.size ≤ k
theorem GrowV.refl (w : World) (v : Value) : GrowV w w v v := ⟨World.grownBy.refl _ _, Or.inl rfl⟩
theorem GrowV.ofBelow {w w' : World} (v : Value) (h : Below w.heap.size w w') : GrowV w w' v v := ⟨⟨h.os, h.tape, h.output, h.size, fun k hk _ => h.block k hk⟩, Or.inl rfl⟩
theorem GrowV.trans {w w1 w2 : World} {v v1 v2 : Value} (h : GrowV w w1 v v1) (k : GrowV w1 w2 v1 v2) : GrowV w w2 v v2 := by
  refine ⟨⟨k.gr.os.trans h.gr.os, k.gr.tape.trans h.gr.tape, k.gr.output.trans h.gr.output, Nat.le_trans h.gr.size k.gr.size, fun j hj hn => ?_⟩, ?_⟩
  · refine (k.gr.block j (Nat.lt_of_lt_of_le hj h.gr.size) ?_).trans (h.gr.block j hj hn)
    rcases h.loc with e | ⟨q, e, hq⟩
    · rw [e]; exact hn
    · rw [e]; intro e2; injection e2 with e2; omega
  · rcases k.loc with e | ⟨q, e, hq⟩
    · rw [e]
      exact h.loc
    · exact Or.inr ⟨q, e, Nat.le_trans h.gr.size hq⟩
/-- What write does of a number: so many tokens more. -/
def WrC (T0 : Tr) (base : Nat) (G : Nat → Prop) (b : Nat) (T : TypeId) (rest : List Value) (items : List It) (a : Int) (ts : List Tk) : Prop :=
  ∀ (w : World) (v : Value) (xs : List Tk), base ≤ w.heap.size → PtO T0 w G b T rest items → w.ownsRow base 5 1 v xs.length (encY xs) → xs.length + ts.length ≤ 60000000 →
    Calls Tryd.prog 36 #[.pointer (some ⟨b, 0, none⟩), v, .int .i64 a] w fun e w' => ∃ v', e = .returned v' ∧ GrowV w w' v v' ∧ w'.ownsRow base 5 1 v' (xs ++ ts).length (encY (xs ++ ts))
set_option maxRecDepth 100000 in
theorem Tryd.pwrite_none {T0 : Tr} {base : Nat} {G : Nat → Prop} {b : Nat} {T : TypeId} {rest : List Value} {items : List It} : WrC T0 base G b T rest items (-1) [] := by
  intro w v xs hb hP hO _
  have HQ : Hid (w.ownsRow base 5 1 v (xs ++ []).length (encY (xs ++ []))) := by rw [List.append_nil]; exact hO
  obtain ⟨a, cap, rfl⟩ := own_slI hO
  clear hP hO
  generalize xs.length = n at *
  go_enter Tryd.func36, Tryd.ntmps36
  go_wp2
  go_ret
  exact ⟨_, rfl, GrowV.refl _ _, HQ.out⟩
theorem Tryd.infoU8Q : (Tryd.prog.info? 5).map (fun i => (i.zero, i.size, i.bytes)) = some (some (.int .u8 0), 1, 1) := by kernel_rfl
theorem tok_byte {op p : Nat} (ho : op ≤ 23) (hp : p ≤ 7) : bits .or .u8 ((op : Int) * 8) (p : Int) = ((op * 8 + p : Nat) : Int) := by
  rcases op_cases ho with rfl | rfl | rfl | rfl | rfl | rfl | rfl | rfl | rfl | rfl | rfl | rfl | rfl | rfl | rfl | rfl | rfl | rfl | rfl | rfl | rfl | rfl | rfl | rfl <;>
  · have : p = 0 ∨ p = 1 ∨ p = 2 ∨ p = 3 ∨ p = 4 ∨ p = 5 ∨ p = 6 ∨ p = 7 := by omega
    rcases this with rfl | rfl | rfl | rfl | rfl | rfl | rfl | rfl <;> decide
set_option maxRecDepth 100000 in
set_option maxHeartbeats 8000000 in
theorem Tryd.pwrite_step {T0 : Tr} {base : Nat} {G : Nat → Prop} {b : Nat} {T : TypeId} {rest : List Value} {items : List It} (hG : ∀ k, G k → k < base) (i op p : Nat) (xa xb : Int) (hx : items[i]? = some ⟨op, p, xa, xb⟩) (ho : op ≤ 23) (hp : p ≤ 7) (ta tb : List Tk)
    (hA : WrC T0 base G b T rest items xa ta) (hB : WrC T0 base G b T rest items xb tb) : WrC T0 base G b T rest items (i : Int) (ta ++ tb ++ [(op, p)]) := by
  intro w v xs hb hP hO hn
  have hl : (ta ++ tb ++ [(op, p)]).length = ta.length + tb.length + 1 := by simp [Nat.add_assoc]
  rw [hl] at hn
  obtain ⟨a, n, cap, g, o, c0, hidx, x0, x1, x2, x3⟩ := hP.at hx
  have hbn := below_new w (itO ⟨op, p, xa, xb⟩)
  have hne : ((i : Int) == -1) = false := by rw [beq_eq_false_iff_ne]; omega
  have hbx := (MapKept.heap_alloc w (itO ⟨op, p, xa, xb⟩)).1
  have hz : (w.alloc (itO ⟨op, p, xa, xb⟩)).heap.size = w.heap.size + 1 := by simp
  have j1 := hA (w.alloc (itO ⟨op, p, xa, xb⟩)) v xs (by omega) (hP.up hbn) (owns_up hO hbn) (by omega)
  have hge := own_ge hO
  have hlt := own_lt hO
  have HP : Hid (∀ w' v', GrowV w w' v v' → PtO T0 w' G b T rest items) := fun w' v' hg => hP.far fun k hk => hg.gr.block k (by have := hG k hk; omega) (fun e => by have := hG k hk; have := hge k e.symm; omega)
  have HBXK : Hid (∀ w' v', GrowV (w.alloc (itO ⟨op, p, xa, xb⟩)) w' v v' → w'.heap[w.heap.size]? = some (itO ⟨op, p, xa, xb⟩)) := fun w' v' hg => (hg.gr.block _ (by omega) (fun e => by have := hlt _ e.symm; omega)).trans hbx
  have HB : Hid (WrC T0 base G b T rest items xb tb) := hB
  have HG0 : Hid (GrowV w (w.alloc (itO ⟨op, p, xa, xb⟩)) v v) := GrowV.ofBelow v hbn
  have HTB : Hid (bits .or .u8 ((op : Int) * 8) (p : Int) = ((op * 8 + p : Nat) : Int)) := tok_byte ho hp
  have HN : Hid (xs.length + (ta.length + tb.length + 1) ≤ 60000000) := hn
  have HBS : Hid (base ≤ w.heap.size) := hb
  have HZ : Hid _ := hz
  have a2 : (w.alloc (itO ⟨op, p, xa, xb⟩)).cell? ⟨w.heap.size, 2, none⟩ = some (.int .i64 xa) := cell_row hbx 2
  obtain ⟨sa, scap, rfl⟩ := own_slI hO
  clear hP hO hA hB hx hbn hbx hG hge hlt hn hl
  generalize hvv : Value.slice sa xs.length scap = v at *
  unfold itO at *
  dsimp only at *
  go_enter Tryd.func36, Tryd.ntmps36
  go_wp2_with fail
  refine j1.mono ?_
  rintro e w1 ⟨v1, rfl, hg1, ho1⟩
  have hbx1 := HBXK.out w1 v1 hg1
  have a3 : w1.cell? ⟨w.heap.size, 3, none⟩ = some (.int .i64 xb) := cell_row hbx1 3
  have hsz1 := hg1.gr.size
  have j2 := HB.out w1 v1 (xs ++ ta) (by have := HZ.out; have := HBS.out; omega) (HP.out w1 v1 (HG0.out.trans hg1)) ho1 (by have := HN.out; simp; omega)
  have HG1 : Hid _ := hg1
  clear j1 hg1 ho1 hbx1 a2 c0 hidx x0 x1 x2 x3 hsz1
  go_wp2_with fail
  refine j2.mono ?_
  rintro e w2 ⟨v2, rfl, hg2, ho2⟩
  have HGA : Hid _ := HG1.out.trans hg2
  have HG2 : Hid (GrowV w w2 v v2) := HG0.out.trans HGA.out
  have hbx2 := HBXK.out w2 v2 HGA.out
  have b0 : w2.cell? ⟨w.heap.size, 0, none⟩ = some (.int .u8 (op : Int)) := cell_row hbx2 0
  have b1 : w2.cell? ⟨w.heap.size, 1, none⟩ = some (.int .u8 (p : Int)) := cell_row hbx2 1
  obtain ⟨sb, bcap, rfl⟩ := own_slI ho2
  have HO2 : Hid _ := ho2
  have hL : (xs ++ ta ++ tb).length ≤ 60000000 := by have := HN.out; simp; omega
  have HS2 : Hid (w.heap.size ≤ w2.heap.size) := HG2.out.gr.size
  clear j2 hg2 ho2 hbx2 a3
  generalize hLL : (xs ++ ta ++ tb).length = L at *
  have HL : Hid _ := hLL
  clear hLL
  have hY : ∀ y : Int, (w2.alloc (.cells #[.int .u8 y] 5)).cell? ⟨w2.heap.size, 0, none⟩ = some (.int .u8 y) := fun y => cell_row (MapKept.heap_alloc w2 _).1 0
  have hOY : ∀ y : Int, (w2.alloc (.cells #[.int .u8 y] 5)).ownsRow base 5 1 (.slice sb L bcap) L (encY (xs ++ ta ++ tb)) := fun y => World.ownsRow.alloc HO2.out _
  go_wp2_with (at_builtin; refine append_v2 Tryd.underlying78 Tryd.infoU8Q rfl (by decide) rfl _ _ rfl base _ L (encY (xs ++ ta ++ tb)) _ w2.heap.size rfl rfl (hOY _) (hY _) rfl (by omega) (by have := HBS.out; have := HS2.out; simp; omega) ?_)
  intro v3 w3 hown3 hgr3 hloc3
  have e3 := HTB.out
  rw [e3] at hown3 hgr3
  have HO3 : Hid (w3.ownsRow base 5 1 v3 (xs ++ (ta ++ tb ++ [(op, p)])).length (encY (xs ++ (ta ++ tb ++ [(op, p)])))) := by
    have e : xs ++ (ta ++ tb ++ [(op, p)]) = xs ++ (ta ++ tb) ++ [(op, p)] := by simp
    have e2 : (xs ++ (ta ++ tb)).length = L := by have := HL.out; simpa using this
    show w3.ownsRow _ _ _ _ _ _
    rw [e, encY_app, List.length_append, e2]
    exact hown3
  have hbn := below_new w2 (.cells #[.int .u8 ((op * 8 + p : Nat) : Int)] 5)
  have HG3 : Hid (GrowV w w3 v v3) := HG2.out.trans ((GrowV.ofBelow _ hbn).trans ⟨hgr3, hloc3.imp id fun e => ⟨_, e, by simp⟩⟩)
  obtain ⟨s3, cap3, rfl⟩ := own_slI HO3.out
  clear hown3 hgr3 hloc3 hbn hY hOY HO2 e3
  go_wp2
  go_ret
  exact ⟨_, rfl, HG3.out, HO3.out⟩
/-- An item's tokens are written. -/
theorem Tryd.pwrite_any {T0 : Tr} {base : Nat} {G : Nat → Prop} {b : Nat} {T : TypeId} {rest : List Value} {items : List It} (hG : ∀ k, G k → k < base) : ∀ (S : Tr), S.WF → ∀ i, Rep items i S → WrC T0 base G b T rest items (i : Int) S.flat
  | .leaf (op, p), hw, i, hi => by
    have hx : items[i]? = some ⟨op, p, -1, -1⟩ := by cases hi with | leaf h => exact h
    have hs := wf_small _ hw (op, p) (by simp [Tr.flat])
    exact Tryd.pwrite_step hG i op p (-1) (-1) hx hs.1 hs.2 [] [] Tryd.pwrite_none Tryd.pwrite_none
  | .un (op, p) c, hw, i, hi => by
    obtain ⟨m, hx, hm⟩ : ∃ m : Nat, items[i]? = some ⟨op, p, (m : Int), -1⟩ ∧ Rep items m c := by cases hi with | un h h1 h2 => exact ⟨_, h, h2⟩
    have hs := wf_small _ hw (op, p) (by simp [Tr.flat])
    have h : WrC T0 base G b T rest items (i : Int) (c.flat ++ [] ++ [(op, p)]) := Tryd.pwrite_step hG i op p (m : Int) (-1) hx hs.1 hs.2 c.flat [] (Tryd.pwrite_any hG c (un_cases hw).2.1 m hm) Tryd.pwrite_none
    rw [List.append_nil] at h
    exact h
  | .bin (op, p) c d, hw, i, hi => by
    obtain ⟨m, l, hx, hm, hl⟩ : ∃ m l : Nat, items[i]? = some ⟨op, p, (m : Int), (l : Int)⟩ ∧ Rep items m c ∧ Rep items l d := by cases hi with | bin h h1 h2 h3 h4 => exact ⟨_, _, h, h3, h4⟩
    have hs := wf_small _ hw (op, p) (by simp [Tr.flat])
    exact Tryd.pwrite_step hG i op p (m : Int) (l : Int) hx hs.1 hs.2 c.flat d.flat (Tryd.pwrite_any hG c (bin_cases hw).2.1 m hm) (Tryd.pwrite_any hG d (bin_cases hw).2.2.1 l hl)
theorem Tryd.pconv {w : World} {base n : Nat} {v : Value} {ts : List Tk} (h : w.ownsRow base 5 1 v n (encY ts)) (hs : ∀ k ∈ ts, k.1 ≤ 23 ∧ k.2 ≤ 7) : (convert 78 9 v).run Tryd.prog w = .ok (.string ⟨(ts.map fun k => UInt8.ofNat (k.1 * 8 + k.2)).toArray⟩) w := by
  have hl : ts.length = n := by have := h.1; simpa [encY] using this
  rcases h.2 with ⟨rfl, h0⟩ | ⟨g, cap, cur, hv, hg, hcell, hnc, hcm, hsz, htk⟩
  · obtain rfl : ts = [] := List.eq_nil_of_length_eq_zero (by omega)
    rw [run_convert_bytes_string w 78 9 5 none 0 0 Tryd.underlying78 Tryd.underlying5 Tryd.underlying9]
    simp [Conv.bytesToString]
    rfl
  · subst hv hl
    have e : ts.length = (ts.map fun k => UInt8.ofNat (k.1 * 8 + k.2)).length := by simp
    have key := run_convert_bytes_back (P := Tryd.prog) w 78 9 5 ⟨g, 0, none⟩ cap (ts.map fun k => UInt8.ofNat (k.1 * 8 + k.2)) Tryd.underlying78 Tryd.underlying5 Tryd.underlying9 (fun j hj => by
      have hj' : j < ts.length := by simpa using hj
      have hk : (cur.toList.take (ts.length * 1))[j]? = some (.int .u8 (tkY ts[j] : Int)) := by rw [htk]; simp [encY, hj']
      rw [List.getElem?_take, if_pos (by omega)] at hk
      have hb := hs _ (List.getElem_mem hj')
      rw [add_plain, Nat.zero_add]
      simp [World.cell?, hcell]
      have e2 : (UInt8.ofNat (ts[j].1 * 8 + ts[j].2)).toNat = tkY ts[j] := by
        unfold tkY
        simp
        omega
      rw [show cur[j]? = cur.toList[j]? by simp, hk, ← e2]
      simp)
    rw [← e] at key
    exact key
/-- A cell of a row of one's own is stored. -/
theorem own_put {w : World} {base e n i : Nat} {v : Value} {xs : List Value} (h : w.ownsRow base e 1 v n xs) (hi : i < n) (y : Value) : ∃ g cap, v = .slice (some ⟨g, 0, none⟩) n cap ∧ base ≤ g ∧ n ≤ cap ∧ w.cell? ⟨g, i, none⟩ = xs[i]? ∧ w.frozen? ⟨g, i, none⟩ = false ∧ (w.setCell ⟨g, i, none⟩ y).ownsRow base e 1 v n (xs.set i y) := by
  obtain ⟨hl, h⟩ := h
  rcases h with ⟨rfl, h0⟩ | ⟨g, cap, cur, rfl, hg, hcell, hnc, hcm, hsz, htk⟩
  · omega
  · have hcu : cur.toList.length = cap := by simpa using hsz
    refine ⟨g, cap, rfl, hg, hnc, ?_, frozen_of_row w g i _ _ hcell, by simpa using hl, Or.inr ⟨g, cap, cur.setIfInBounds i y, rfl, hg, heap_setCell_same w g i _ _ y hcell, hnc, hcm, by simpa using hsz, ?_⟩⟩
    · rw [cell_row hcell i, ← htk, List.getElem?_take, if_pos (by omega)]
      simp
    · rw [← htk]
      simp [List.take_set]
theorem txB_ne (S : Tr) : txB S ≠ ⟨#[]⟩ := by
  intro h
  have h1 : (S.flat.map fun k => UInt8.ofNat (k.1 * 8 + k.2)).toArray = #[] := congrArg ByteArray.data h
  have h2 := congrArg Array.size h1
  simp at h2
  have h3 := flat_len S
  have := size_pos S
  rw [h2] at h3
  simp at h3
  omega
theorem txB_size (S : Tr) : (txB S).size = S.size := by
  show (S.flat.map fun k => UInt8.ofNat (k.1 * 8 + k.2)).toArray.size = _
  simp [flat_len]
/-- A text is stored. -/
theorem PtR.setT {w : World} {b mp n i : Nat} {T : TypeId} {rest : List Value} {vi vt : Value} {items : List It} {texts : List ByteArray} {f : It → Option Nat} (h : PtR w b T rest vi mp vt items texts n f) (hi : i < texts.length) (s : ByteArray) :
    ∃ g cap, vt = .slice (some ⟨g, 0, none⟩) texts.length cap ∧ texts.length ≤ cap ∧ w.cell? ⟨g, i, none⟩ = some (.string texts[i]) ∧ w.frozen? ⟨g, i, none⟩ = false ∧ PtR (w.setCell ⟨g, i, none⟩ (.string s)) b T rest vi mp vt items (texts.set i s) n f ∧ Fr w (w.setCell ⟨g, i, none⟩ (.string s)) (FP b mp vi vt) (FP b mp vi vt) := by
  obtain ⟨g, cap, rfl, _, hnc, hc, hz, ho⟩ := own_put h.rt hi (.string s)
  have hgb : b ≠ g := fun e => h.tb (by rw [e]; rfl)
  have hgm : mp ≠ g := fun e => h.tm (by rw [e]; rfl)
  have st : ∀ k, k ≠ g → (w.setCell ⟨g, i, none⟩ (.string s)).heap[k]? = w.heap[k]? := fun k hk => Below.heap_setCell _ _ _ _ hk
  refine ⟨g, cap, rfl, hnc, by rw [hc]; simp [hi], hz, ⟨h.ty, (st b hgb).trans h.blk, owns_off h.ri fun k hk => st k (fun e => h.it k hk (by rw [e]; rfl)), ?_, h.num.far (st mp hgm)⟩, rfl, rfl, rfl, by simp, fun k hk hF => st k (fun e => hF (Or.inr (Or.inr (Or.inr (by rw [e]; rfl))))), fun _ hk => Or.inl hk⟩
  rw [List.length_set, List.map_set]
  exact ho
/-- What text answers. -/
def TextP (T0 : Tr) (w : World) (G : Nat → Prop) (b : Nat) (T : TypeId) (rest : List Value) (items : List It) (w' : World) : Prop := PtO T0 w' G b T rest items ∧ Fr w w' G G
set_option maxRecDepth 100000 in
set_option maxHeartbeats 8000000 in
theorem Tryd.ptext_any {T0 : Tr} {w : World} {G : Nat → Prop} {b : Nat} {T : TypeId} {rest : List Value} {items : List It} (h : PtO T0 w G b T rest items) (i : Nat) (S : Tr) (hi : Rep items i S) (hS : InC T0 S) :
    Calls Tryd.prog 21 #[.pointer (some ⟨b, 0, none⟩), .int .i64 (i : Int)] w fun e w' => e = .returned (.string (txB S)) ∧ TextP T0 w G b T rest items w' := by
  obtain ⟨texts, hp, ht⟩ := h.ex
  obtain ⟨vi, mp, vt, hr, hG⟩ := hp.ex
  have hil : i < texts.length := by rw [hp.tl]; exact hi.lt
  obtain ⟨g, cap, rfl, hcap, hc, hz, hr2, fr2⟩ := hr.setT hil (txB S)
  have c2 := hr.c2
  have hidx : ∀ w', (Instr.indexAt 27 (.slice (some ⟨g, 0, none⟩) texts.length cap) (.int .i64 (i : Int))).run Tryd.prog w' = .ok (.pointer (some ⟨g, i, none⟩)) w' := fun w' => by
    simp [Instr.indexAt, run_underlying Tryd.underlying27, asIntOf, sizeOf_runI (show (Tryd.prog.info? 9).map (·.size) = some 1 by kernel_rfl), hil, Result.andThen, go_sem, add_plain]
  have hk := inC_kind h.t0.kt hS
  have hw : S.WF := by rcases hk with k | k <;> exact k.wf
  have hti : texts[i]? = some texts[i] := List.getElem?_eq_getElem hil
  rcases ht i S hi with h0 | h1
  · rw [hti] at h0
    injection h0 with h0
    rw [h0] at hc
    have hglt : ∀ k, G k → k < w.heap.size := h.lt
    have hsz := (inC_size h.t0.sz hS).1
    have hfl := flat_len S
    have hwr := Tryd.pwrite_any (T0 := T0) (T := T) (b := b) (rest := rest) hglt S hw i hi w.drew (.slice none 0 0) [] (Nat.le_refl _) (h.up (Below.refl _ _).drew) ⟨rfl, Or.inl ⟨rfl, rfl⟩⟩ (by simp; omega)
    have HW1 : Hid (∀ w1 v1, GrowV w.drew w1 (.slice none 0 0) v1 → w1.ownsRow w.heap.size 5 1 v1 ([] ++ S.flat).length (encY ([] ++ S.flat)) → (convert 78 9 v1).run Tryd.prog w1 = .ok (.string (txB S)) w1 ∧ w1.cell? ⟨b, 2, none⟩ = some (.slice (some ⟨g, 0, none⟩) texts.length cap) ∧ w1.cell? ⟨g, i, none⟩ = some (.string ⟨#[]⟩) ∧ w1.frozen? ⟨g, i, none⟩ = false ∧
        (w1.setCell ⟨g, i, none⟩ (.string (txB S))).cell? ⟨b, 2, none⟩ = some (.slice (some ⟨g, 0, none⟩) texts.length cap) ∧ (w1.setCell ⟨g, i, none⟩ (.string (txB S))).cell? ⟨g, i, none⟩ = some (.string (txB S)) ∧ TextP T0 w G b T rest items (w1.setCell ⟨g, i, none⟩ (.string (txB S)))) := by
      intro w1 v1 hg1 ho1
      have hb1 : Below w.heap.size w w1 := ⟨hg1.gr.os, hg1.gr.tape, hg1.gr.output, hg1.gr.size, fun k hk => hg1.gr.block k hk (fun e => by cases e)⟩
      have hr1 := hr.up hb1
      obtain ⟨g', cap', e, _, hc', hz', hr2', fr2'⟩ := hr1.setT hil (txB S)
      injection e with e1 e2 e3
      injection e1 with e1
      injection e1 with e1
      subst e1 e3
      obtain ⟨cs, hcs⟩ : ∃ cs, (w1.setCell ⟨g, i, none⟩ (.string (txB S))).heap[g]? = some (.cells cs 9 (0, 0)) := own_is hr2'.rt rfl
      have hown := own_put hr2'.rt (i := i) (by rw [List.length_set]; exact hil) (.string (txB S))
      obtain ⟨g2, cap2, e2, _, _, hc2, _⟩ := hown
      injection e2 with e2 _ _
      injection e2 with e2
      injection e2 with e2
      subst e2
      refine ⟨Tryd.pconv ho1 (wf_small S hw), hr1.c2, by rw [hc', h0], hz', hr2'.c2, by rw [hc2]; simp [hil], ⟨h.t0, h.low, h.cov, texts.set i (txB S), ⟨hp.nd, by rw [List.length_set]; exact hp.tl, hp.few, hp.ok, fun s hs => ?_, vi, mp, _, hr2', hG⟩, fun n S' hn => ?_⟩, ?_⟩
      · rcases List.mem_or_eq_of_mem_set hs with hs | rfl
        · exact hp.tok s hs
        · unfold SOk; rw [txB_size]; omega
      · by_cases e : n = i
        · subst e
          have := Rep.tree hi hn
          subst this
          exact Or.inr (by simp [hil])
        · rw [List.getElem?_set_ne (fun h => e h.symm)]
          exact ht n S' hn
      · exact ((Fr.ofBelow hb1).trans fr2').alike (fun k hk => (hG k).2 hk) (fun k hk => (hG k).1 hk)
    have hz0 : ((⟨#[]⟩ : ByteArray).toList == ([] : List UInt8)) = true := by rw [ByteArray.toList_eq]; rfl
    clear h hp ht hr hr2 fr2 hG hi hS hk hw hti h0 hglt hsz hfl
    generalize txB S = s at *
    generalize S.flat = fl at *
    generalize texts.length = L at *
    go_enter Tryd.func21, Tryd.ntmps21
    go_upto_region 40 with fail
    go_region_with (first
      | (go_at_call 36; (with_reducible refine hwr.mono ?_); rintro e w1 ⟨v1, rfl, hg1, ho1⟩; have hq := HW1.out w1 v1 hg1 ho1; have q1 := hq.1; have q0 := hq.2.1; have q2 := hq.2.2.1; have q3 := hq.2.2.2.1)
      | fail)
    all_goals
      have q4 := hq.2.2.2.2.1
      have q5 := hq.2.2.2.2.2.1
      have HQ : Hid _ := hq.2.2.2.2.2.2
      clear hwr hq q0 q1 q2 q3 hg1 ho1 HW1 c2 hc hz
      generalize w1.setCell ⟨g, i, none⟩ (.string s) = w2 at *
      go_wp2
      go_ret
      exact ⟨rfl, HQ.out⟩
  · rw [hti] at h1
    injection h1 with h1
    rw [h1] at hc
    have hne : ((txB S).toList == ([] : List UInt8)) = false := by
      rw [beq_eq_false_iff_ne]
      intro e
      refine txB_ne S ?_
      have : (txB S).toList = (txB S).data.toList := by rw [ByteArray.toList_eq]
      rw [this] at e
      have e2 : (txB S).data = #[] := by simpa using e
      exact congrArg ByteArray.mk e2
    have HQ : Hid (TextP T0 w G b T rest items w) := ⟨h, Fr.ofBelow (Below.refl _ _)⟩
    clear h hp ht hr hr2 fr2 hG hi hS hk hw hti h1
    generalize txB S = s at *
    go_enter Tryd.func21, Tryd.ntmps21
    go_wp2
    go_ret
    exact ⟨rfl, HQ.out⟩
end Go.Proofs.YtnedkpbpeolfoaaDoor
namespace Go.Proofs.YtnedkpbpeolfoaaDoor
open Go.RowKit Go.Maps
/-- What is thrown. -/
def thrownP : List PanicEntry := [{ v := .iface 72 (.int .i64 9), recovered := false }]
/-- What both, either answer. -/
def TwoR (r : Option (List Nat)) (w : World) (e : Ending) (w' : World) : Prop := Below w.heap.size w w' ∧ ((∃ L q d, r = some L ∧ e = .returned (.slice q L.length d) ∧ USl w' q L.length d L ∧ ∀ k, k < L.length → w.heap.size ≤ (adOf q k).block) ∨ (r = none ∧ e = .panicked thrownP))
set_option maxRecDepth 100000 in
theorem Tryd.pmust_ok (a : Option Addr) (n c : Nat) (w : World) : Calls Tryd.prog 48 #[.slice a n c, .int .i64 0] w fun e w' => e = .returned (.slice a n c) ∧ w' = w := by
  go_enter Tryd.func48, Tryd.ntmps48
  go_wp2
  go_ret
  exact ⟨rfl, rfl⟩
set_option maxRecDepth 100000 in
theorem Tryd.pmust_no (a : Option Addr) (n c : Nat) (w : World) : Calls Tryd.prog 48 #[.slice a n c, .int .i64 9] w fun e w' => e = .panicked thrownP ∧ w' = w := by
  go_enter Tryd.func48, Tryd.ntmps48
  go_wp2
  exact ⟨rfl, rfl, rfl⟩
set_option maxRecDepth 100000 in
theorem Tryd.pboth_any (a : Option Addr) (n c : Nat) (l : List Nat) (b : Option Addr) (m d : Nat) (k : List Nat) (w : World) (hA : USl w a n c l) (hB : USl w b m d k) (sL : Sm l) (sK : Sm k) (hn : n ≤ 2000) (hm : m ≤ 2000) :
    Calls Tryd.prog 33 #[.slice a n c, .slice b m d] w (TwoR (andM l k) w) := by
  have hl := hA.len
  have hk := hB.len
  by_cases h : n * m ≤ 1024
  · have hs : andM l k = some (leastL (uniL l k)) := by unfold andM; rw [if_pos (by rw [← hl, ← hk]; exact h)]
    have jj := Tryd.and_new a n c l b m d k w hA hB sL sK h hn hm
    rw [hs]
    clear hs hA hB hl hk h
    generalize leastL (uniL l k) = r at *
    go_enter Tryd.func33, Tryd.ntmps33
    go_wp2_with fail
    refine jj.mono ?_
    rintro e w1 ⟨q, C, rfl, hU, hb, hf⟩
    have HU : Hid _ := hU
    have HB : Hid _ := hb
    have HFS : Hid _ := hf
    clear jj hU hb hf
    go_wp2_with fail
    refine (Tryd.pmust_ok _ _ _ _).mono ?_
    rintro e w2 ⟨rfl, rfl⟩
    go_wp2
    go_ret
    exact ⟨HB.out, Or.inl ⟨r, q, C, rfl, rfl, HU.out, HFS.out⟩⟩
  · have hs : andM l k = none := by unfold andM; rw [if_neg (by rw [← hl, ← hk]; exact h)]
    have jj := Tryd.and_no a n c b m d w hn hm (by omega)
    rw [hs]
    clear hs hA hB hl hk h
    go_enter Tryd.func33, Tryd.ntmps33
    go_wp2_with fail
    refine jj.mono ?_
    rintro e w1 ⟨q, C, rfl, hU, hb⟩
    have HB : Hid _ := hb
    clear jj hU hb
    go_wp2_with fail
    refine (Tryd.pmust_no _ _ _ _).mono ?_
    rintro e w2 ⟨rfl, rfl⟩
    exact ⟨rfl, HB.out, Or.inr ⟨rfl, rfl⟩⟩
set_option maxRecDepth 100000 in
theorem Tryd.peither_any (a : Option Addr) (n c : Nat) (l : List Nat) (b : Option Addr) (m d : Nat) (k : List Nat) (w : World) (hA : USl w a n c l) (hB : USl w b m d k) (sL : Sm l) (sK : Sm k) (hn : n ≤ 2000) (hm : m ≤ 2000) :
    Calls Tryd.prog 35 #[.slice a n c, .slice b m d] w (TwoR (orM l k) w) := by
  have hl := hA.len
  have hk := hB.len
  by_cases h : n + m ≤ 1024
  · have hs : orM l k = some (leastL (l ++ k)) := by unfold orM; rw [if_pos (by rw [← hl, ← hk]; exact h)]
    have jj := Tryd.or_new a n c l b m d k w hA hB sL sK h
    rw [hs]
    clear hs hA hB hl hk h
    generalize leastL (l ++ k) = r at *
    go_enter Tryd.func35, Tryd.ntmps35
    go_wp2_with fail
    refine jj.mono ?_
    rintro e w1 ⟨q, C, rfl, hU, hb, hf⟩
    have HU : Hid _ := hU
    have HB : Hid _ := hb
    have HFS : Hid _ := hf
    clear jj hU hb hf
    go_wp2_with fail
    refine (Tryd.pmust_ok _ _ _ _).mono ?_
    rintro e w2 ⟨rfl, rfl⟩
    go_wp2
    go_ret
    exact ⟨HB.out, Or.inl ⟨r, q, C, rfl, rfl, HU.out, HFS.out⟩⟩
  · have hs : orM l k = none := by unfold orM; rw [if_neg (by rw [← hl, ← hk]; exact h)]
    have jj := Tryd.or_no a n c b m d w (by omega) (by omega) (by omega)
    rw [hs]
    clear hs hA hB hl hk h
    go_enter Tryd.func35, Tryd.ntmps35
    go_wp2_with fail
    refine jj.mono ?_
    rintro e w1 ⟨q, C, rfl, hU, hb⟩
    have HB : Hid _ := hb
    clear jj hU hb
    go_wp2_with fail
    refine (Tryd.pmust_no _ _ _ _).mono ?_
    rintro e w2 ⟨rfl, rfl⟩
    exact ⟨rfl, HB.out, Or.inr ⟨rfl, rfl⟩⟩
/-- A new list. -/
def NewL (l : List Nat) (w : World) (e : Ending) (w' : World) : Prop := ∃ q C, e = .returned (.slice q l.length C) ∧ USl w' q l.length C l ∧ Below w.heap.size w w' ∧ ∀ k, k < l.length → w.heap.size ≤ (adOf q k).block
theorem newL_nil (w w' : World) (h : Below w.heap.size w w') : NewL [] w (.returned (.slice none 0 0)) w' := ⟨none, 0, rfl, usl_nil, h, fun k hk => absurd hk (by simp)⟩
set_option maxRecDepth 100000 in
theorem Tryd.pwhen_any (b : Bool) (w : World) : Calls Tryd.prog 61 #[.bool b] w (NewL (yesM b) w) := by
  cases b with
  | true =>
    have jj := Tryd.true_new w
    go_enter Tryd.func61, Tryd.ntmps61
    go_wp2_with fail
    refine jj.mono ?_
    rintro e w1 ⟨q, C, rfl, hU, hb, hf⟩
    have HU : Hid (NewL (yesM true) w (.returned (.slice q [0].length C)) w1) := ⟨q, C, rfl, hU, hb, hf⟩
    clear jj hU hb hf
    go_wp2
    go_ret
    exact HU.out
  | false =>
    go_enter Tryd.func61, Tryd.ntmps61
    go_wp2
    go_ret
    exact newL_nil w w (Below.refl _ _)
theorem has_bits : ∀ x : Fin 256, ∀ q : Fin 8, (bits BinOp.and IntKind.u8 ((x.val : Nat) : Int) ((2 ^ q.val : Nat) : Int) != 0) = x.val.testBit q.val := by decide +kernel
/-- A reading, as a value. -/
def rdV (p x bn bl : Nat) : Value := .agg #[.pointer (some ⟨p, 0, none⟩), .int .u8 (x : Int), .map (some bn), .map (some bl)]
def rdO (p x bn bl : Nat) : Obj := .cells #[.pointer (some ⟨p, 0, none⟩), .int .u8 (x : Int), .map (some bn), .map (some bl)] 56 (0, 0)
set_option maxRecDepth 100000 in
set_option maxHeartbeats 4000000 in
theorem Tryd.phas_any (p x bn bl q : Nat) (hx : x < 256) (hq : q ≤ 7) (w : World) : Calls Tryd.prog 62 #[rdV p x bn bl, .int .u8 (q : Int)] w fun e w' => e = .returned (.bool (x.testBit q)) ∧ Below w.heap.size w w' := by
  have HB := below_new w (rdO p x bn bl)
  unfold rdV
  unfold rdO at HB
  have : q = 0 ∨ q = 1 ∨ q = 2 ∨ q = 3 ∨ q = 4 ∨ q = 5 ∨ q = 6 ∨ q = 7 := by omega
  have hh := has_bits ⟨x, hx⟩ ⟨q, by omega⟩
  dsimp only at hh
  rcases this with rfl | rfl | rfl | rfl | rfl | rfl | rfl | rfl <;>
  · have HH : Hid _ := hh
    clear hh
    go_enter Tryd.func62, Tryd.ntmps62
    go_wp2
    go_ret
    exact ⟨congrArg Ending.returned (congrArg Value.bool HH.out), HB⟩
end Go.Proofs.YtnedkpbpeolfoaaDoor
namespace Go.Proofs.YtnedkpbpeolfoaaDoor
open Go.RowKit Go.Maps
set_option maxHeartbeats 4000000 in
theorem Tryd.ktakes_any (op : Nat) (w : World) (hop : op ≤ 23) : Calls Tryd.prog 44 #[.int .u8 (op : Int)] w fun e w' => e = .returned (.int .i64 (takO op : Int)) ∧ w' = w := by
  rcases op_cases hop with rfl | rfl | rfl | rfl | rfl | rfl | rfl | rfl | rfl | rfl | rfl | rfl | rfl | rfl | rfl | rfl | rfl | rfl | rfl | rfl | rfl | rfl | rfl | rfl <;>
  · go_enter Tryd.func44, Tryd.ntmps44
    go_wp2
    go_ret
    exact ⟨rfl, rfl⟩
theorem Tryd.kis_any (k : Nat) (w : World) (hk : k ≤ 2) : Calls Tryd.prog 46 #[.int .u8 (k : Int), .int .u8 0] w fun e w' => e = .returned (.bool (isN k 0)) ∧ w' = w := by
  have : k = 0 ∨ k = 1 ∨ k = 2 := by omega
  rcases this with rfl | rfl | rfl <;>
  · go_enter Tryd.func46, Tryd.ntmps46
    go_wp2
    go_ret
    exact ⟨rfl, rfl⟩
end Go.Proofs.YtnedkpbpeolfoaaDoor
namespace Go.Proofs.YtnedkpbpeolfoaaDoor
open Go.RowKit Go.Maps
/-- Kinds, as they lie in memory. -/
def KdSl (w : World) (a : Option Addr) (len cap : Nat) (ks : List Nat) : Prop := IntSl Tryd.prog 86 .u8 w a len cap (ks.map fun o : Nat => (o : Int))
theorem kd_at0 {w : World} {a : Option Addr} {cap x : Nat} {r : List Nat} {n : Nat} (h : KdSl w a (n + 1) cap (x :: r)) : ∃ A, (∀ w', (Instr.indexAt 86 (.slice a (n + 1) cap) (.int .i64 0)).run Tryd.prog w' = .ok (.pointer (some A)) w') ∧ w.cell? A = some (.int .u8 (x : Int)) := ⟨adOf a 0, fun w' => IntSl.idx h (n + 1) 0 w' (by omega) (Nat.le_refl _), IntSl.cell h 0 (by omega)⟩
theorem kd_at1 {w : World} {a : Option Addr} {cap x y : Nat} {r : List Nat} {n : Nat} (h : KdSl w a (n + 2) cap (x :: y :: r)) : ∃ A, (∀ w', (Instr.indexAt 86 (.slice a (n + 2) cap) (.int .i64 1)).run Tryd.prog w' = .ok (.pointer (some A)) w') ∧ w.cell? A = some (.int .u8 (y : Int)) := ⟨adOf a 1, fun w' => IntSl.idx h (n + 2) 1 w' (by omega) (Nat.le_refl _), IntSl.cell h 1 (by omega)⟩
theorem Tryd.kis_0 (w : World) : Calls Tryd.prog 46 #[.int .u8 0, .int .u8 0] w fun e w' => e = .returned (.bool true) ∧ w' = w := Tryd.kis_any 0 w (by decide)
theorem Tryd.kis_1 (w : World) : Calls Tryd.prog 46 #[.int .u8 1, .int .u8 0] w fun e w' => e = .returned (.bool true) ∧ w' = w := Tryd.kis_any 1 w (by decide)
theorem Tryd.kis_2 (w : World) : Calls Tryd.prog 46 #[.int .u8 2, .int .u8 0] w fun e w' => e = .returned (.bool false) ∧ w' = w := Tryd.kis_any 2 w (by decide)
def PutR (op : Nat) (ks : List Nat) (w : World) (e : Ending) (w' : World) : Prop := e = .returned (.tuple #[.int .u8 (kiMade op ks : Int), .bool (kiFit op ks)]) ∧ ∃ m, w' = w.drewN m
theorem Tryd.kput_0 (a : Option Addr) (n c : Nat) (w : World) : Calls Tryd.prog 45 #[.int .u8 0, .slice a n c] w (PutR 0 [] w) := by
  go_enter Tryd.func45, Tryd.ntmps45
  go_wp2
  go_ret2
  exact ⟨rfl, 0, rfl⟩
theorem Tryd.kput_1 (a : Option Addr) (n c : Nat) (w : World) : Calls Tryd.prog 45 #[.int .u8 1, .slice a n c] w (PutR 1 [] w) := by
  go_enter Tryd.func45, Tryd.ntmps45
  go_wp2
  go_ret2
  exact ⟨rfl, 0, rfl⟩
theorem Tryd.kput_2 (a : Option Addr) (n c : Nat) (w : World) : Calls Tryd.prog 45 #[.int .u8 2, .slice a n c] w (PutR 2 [] w) := by
  go_enter Tryd.func45, Tryd.ntmps45
  go_wp2
  go_ret2
  exact ⟨rfl, 0, rfl⟩
theorem Tryd.kput_4 (a : Option Addr) (n c : Nat) (w : World) : Calls Tryd.prog 45 #[.int .u8 4, .slice a n c] w (PutR 4 [] w) := by
  go_enter Tryd.func45, Tryd.ntmps45
  go_wp2
  go_ret2
  exact ⟨rfl, 0, rfl⟩
theorem Tryd.kput_5 (a : Option Addr) (n c : Nat) (w : World) : Calls Tryd.prog 45 #[.int .u8 5, .slice a n c] w (PutR 5 [] w) := by
  go_enter Tryd.func45, Tryd.ntmps45
  go_wp2
  go_ret2
  exact ⟨rfl, 0, rfl⟩
set_option maxHeartbeats 2000000 in
theorem Tryd.kput_6 (a : Option Addr) (c x : Nat) (w : World) (hx : x ≤ 2) (h : KdSl w a 1 c [x]) : Calls Tryd.prog 45 #[.int .u8 6, .slice a 1 c] w (PutR 6 [x] w) := by
  obtain ⟨⟨g0, o0, s0⟩, i0, c0⟩ := kd_at0 h
  have hi := fun w' => Tryd.kis_any x w' hx
  clear h
  have : x = 0 ∨ x = 1 ∨ x = 2 := by omega
  rcases this with rfl | rfl | rfl <;>
  · clear hx
    go_enter Tryd.func45, Tryd.ntmps45
    go_wp2
    go_quiet (fail)
    go_wp2
    go_ret2
    exact ⟨rfl, by first | exact ⟨0, rfl⟩ | exact ⟨_, rfl⟩⟩
set_option maxHeartbeats 2000000 in
theorem Tryd.kput_7 (a : Option Addr) (c x : Nat) (w : World) (hx : x ≤ 2) (h : KdSl w a 1 c [x]) : Calls Tryd.prog 45 #[.int .u8 7, .slice a 1 c] w (PutR 7 [x] w) := by
  obtain ⟨⟨g0, o0, s0⟩, i0, c0⟩ := kd_at0 h
  have hi := fun w' => Tryd.kis_any x w' hx
  clear h
  have : x = 0 ∨ x = 1 ∨ x = 2 := by omega
  rcases this with rfl | rfl | rfl <;>
  · clear hx
    go_enter Tryd.func45, Tryd.ntmps45
    go_wp2_with (go_at_call 46; refine (hi _).mono ?_; rintro e w' ⟨rfl, rfl⟩)
    go_ret2
    exact ⟨rfl, by first | exact ⟨0, rfl⟩ | exact ⟨_, rfl⟩⟩
set_option maxHeartbeats 2000000 in
theorem Tryd.kput_8 (a : Option Addr) (c x : Nat) (w : World) (hx : x ≤ 2) (h : KdSl w a 1 c [x]) : Calls Tryd.prog 45 #[.int .u8 8, .slice a 1 c] w (PutR 8 [x] w) := by
  obtain ⟨⟨g0, o0, s0⟩, i0, c0⟩ := kd_at0 h
  have hi := fun w' => Tryd.kis_any x w' hx
  clear h
  have : x = 0 ∨ x = 1 ∨ x = 2 := by omega
  rcases this with rfl | rfl | rfl <;>
  · clear hx
    go_enter Tryd.func45, Tryd.ntmps45
    go_wp2_with (go_at_call 46; refine (hi _).mono ?_; rintro e w' ⟨rfl, rfl⟩)
    go_ret2
    exact ⟨rfl, by first | exact ⟨0, rfl⟩ | exact ⟨_, rfl⟩⟩
set_option maxHeartbeats 2000000 in
theorem Tryd.kput_19 (a : Option Addr) (c x : Nat) (w : World) (hx : x ≤ 2) (h : KdSl w a 1 c [x]) : Calls Tryd.prog 45 #[.int .u8 19, .slice a 1 c] w (PutR 19 [x] w) := by
  obtain ⟨⟨g0, o0, s0⟩, i0, c0⟩ := kd_at0 h
  have hi := fun w' => Tryd.kis_any x w' hx
  clear h
  have : x = 0 ∨ x = 1 ∨ x = 2 := by omega
  rcases this with rfl | rfl | rfl <;>
  · clear hx
    go_enter Tryd.func45, Tryd.ntmps45
    go_wp2
    go_quiet (fail)
    go_wp2
    go_ret2
    exact ⟨rfl, by first | exact ⟨0, rfl⟩ | exact ⟨_, rfl⟩⟩
set_option maxHeartbeats 2000000 in
theorem Tryd.kput_20 (a : Option Addr) (c x : Nat) (w : World) (hx : x ≤ 2) (h : KdSl w a 1 c [x]) : Calls Tryd.prog 45 #[.int .u8 20, .slice a 1 c] w (PutR 20 [x] w) := by
  obtain ⟨⟨g0, o0, s0⟩, i0, c0⟩ := kd_at0 h
  have hi := fun w' => Tryd.kis_any x w' hx
  clear h
  have : x = 0 ∨ x = 1 ∨ x = 2 := by omega
  rcases this with rfl | rfl | rfl <;>
  · clear hx
    go_enter Tryd.func45, Tryd.ntmps45
    go_wp2_with (go_at_call 46; refine (hi _).mono ?_; rintro e w' ⟨rfl, rfl⟩)
    go_ret2
    exact ⟨rfl, by first | exact ⟨0, rfl⟩ | exact ⟨_, rfl⟩⟩
set_option maxHeartbeats 2000000 in
theorem Tryd.kput_23 (a : Option Addr) (c x : Nat) (w : World) (hx : x ≤ 2) (h : KdSl w a 1 c [x]) : Calls Tryd.prog 45 #[.int .u8 23, .slice a 1 c] w (PutR 23 [x] w) := by
  obtain ⟨⟨g0, o0, s0⟩, i0, c0⟩ := kd_at0 h
  have hi := fun w' => Tryd.kis_any x w' hx
  clear h
  have : x = 0 ∨ x = 1 ∨ x = 2 := by omega
  rcases this with rfl | rfl | rfl <;>
  · clear hx
    go_enter Tryd.func45, Tryd.ntmps45
    go_wp2
    go_quiet (fail)
    go_wp2
    go_ret2
    exact ⟨rfl, by first | exact ⟨0, rfl⟩ | exact ⟨_, rfl⟩⟩
set_option maxHeartbeats 4000000 in
theorem Tryd.kput_11 (a : Option Addr) (c x y : Nat) (w : World) (hx : x ≤ 2) (hy : y ≤ 2) (h : KdSl w a 2 c [x, y]) : Calls Tryd.prog 45 #[.int .u8 11, .slice a 2 c] w (PutR 11 [x, y] w) := by
  obtain ⟨⟨g0, o0, s0⟩, i0, c0⟩ := kd_at0 h
  obtain ⟨⟨g1, o1, s1⟩, i1, c1⟩ := kd_at1 h
  have h0 := Tryd.kis_0
  have h1 := Tryd.kis_1
  have h2 := Tryd.kis_2
  clear h
  have hxx : x = 0 ∨ x = 1 ∨ x = 2 := by omega
  have hyy : y = 0 ∨ y = 1 ∨ y = 2 := by omega
  rcases hxx with rfl | rfl | rfl <;> rcases hyy with rfl | rfl | rfl <;>
  · clear hx hy
    go_enter Tryd.func45, Tryd.ntmps45
    go_wp2_with (go_at_call 46; (with_reducible first | refine (h0 _).mono ?_ | refine (h1 _).mono ?_ | refine (h2 _).mono ?_); rintro e w' ⟨rfl, rfl⟩)
    go_ret2
    exact ⟨rfl, by first | exact ⟨0, rfl⟩ | exact ⟨_, rfl⟩⟩
set_option maxHeartbeats 4000000 in
theorem Tryd.kput_12 (a : Option Addr) (c x y : Nat) (w : World) (hx : x ≤ 2) (hy : y ≤ 2) (h : KdSl w a 2 c [x, y]) : Calls Tryd.prog 45 #[.int .u8 12, .slice a 2 c] w (PutR 12 [x, y] w) := by
  obtain ⟨⟨g0, o0, s0⟩, i0, c0⟩ := kd_at0 h
  obtain ⟨⟨g1, o1, s1⟩, i1, c1⟩ := kd_at1 h
  have h0 := Tryd.kis_0
  have h1 := Tryd.kis_1
  have h2 := Tryd.kis_2
  clear h
  have hxx : x = 0 ∨ x = 1 ∨ x = 2 := by omega
  have hyy : y = 0 ∨ y = 1 ∨ y = 2 := by omega
  rcases hxx with rfl | rfl | rfl <;> rcases hyy with rfl | rfl | rfl <;>
  · clear hx hy
    go_enter Tryd.func45, Tryd.ntmps45
    go_wp2_with (go_at_call 46; (with_reducible first | refine (h0 _).mono ?_ | refine (h1 _).mono ?_ | refine (h2 _).mono ?_); rintro e w' ⟨rfl, rfl⟩)
    go_ret2
    exact ⟨rfl, by first | exact ⟨0, rfl⟩ | exact ⟨_, rfl⟩⟩
set_option maxHeartbeats 4000000 in
theorem Tryd.kput_15 (a : Option Addr) (c x y : Nat) (w : World) (hx : x ≤ 2) (hy : y ≤ 2) (h : KdSl w a 2 c [x, y]) : Calls Tryd.prog 45 #[.int .u8 15, .slice a 2 c] w (PutR 15 [x, y] w) := by
  obtain ⟨⟨g0, o0, s0⟩, i0, c0⟩ := kd_at0 h
  obtain ⟨⟨g1, o1, s1⟩, i1, c1⟩ := kd_at1 h
  have h0 := Tryd.kis_0
  have h1 := Tryd.kis_1
  have h2 := Tryd.kis_2
  clear h
  have hxx : x = 0 ∨ x = 1 ∨ x = 2 := by omega
  have hyy : y = 0 ∨ y = 1 ∨ y = 2 := by omega
  rcases hxx with rfl | rfl | rfl <;> rcases hyy with rfl | rfl | rfl <;>
  · clear hx hy
    go_enter Tryd.func45, Tryd.ntmps45
    go_wp2_with (go_at_call 46; (with_reducible first | refine (h0 _).mono ?_ | refine (h1 _).mono ?_ | refine (h2 _).mono ?_); rintro e w' ⟨rfl, rfl⟩)
    go_ret2
    exact ⟨rfl, by first | exact ⟨0, rfl⟩ | exact ⟨_, rfl⟩⟩
set_option maxHeartbeats 4000000 in
theorem Tryd.kput_16 (a : Option Addr) (c x y : Nat) (w : World) (hx : x ≤ 2) (hy : y ≤ 2) (h : KdSl w a 2 c [x, y]) : Calls Tryd.prog 45 #[.int .u8 16, .slice a 2 c] w (PutR 16 [x, y] w) := by
  obtain ⟨⟨g0, o0, s0⟩, i0, c0⟩ := kd_at0 h
  obtain ⟨⟨g1, o1, s1⟩, i1, c1⟩ := kd_at1 h
  have h0 := Tryd.kis_0
  have h1 := Tryd.kis_1
  have h2 := Tryd.kis_2
  clear h
  have hxx : x = 0 ∨ x = 1 ∨ x = 2 := by omega
  have hyy : y = 0 ∨ y = 1 ∨ y = 2 := by omega
  rcases hxx with rfl | rfl | rfl <;> rcases hyy with rfl | rfl | rfl <;>
  · clear hx hy
    go_enter Tryd.func45, Tryd.ntmps45
    go_wp2_with (go_at_call 46; (with_reducible first | refine (h0 _).mono ?_ | refine (h1 _).mono ?_ | refine (h2 _).mono ?_); rintro e w' ⟨rfl, rfl⟩)
    go_ret2
    exact ⟨rfl, by first | exact ⟨0, rfl⟩ | exact ⟨_, rfl⟩⟩
set_option maxHeartbeats 4000000 in
theorem Tryd.kput_17 (a : Option Addr) (c x y : Nat) (w : World) (hx : x ≤ 2) (hy : y ≤ 2) (h : KdSl w a 2 c [x, y]) : Calls Tryd.prog 45 #[.int .u8 17, .slice a 2 c] w (PutR 17 [x, y] w) := by
  obtain ⟨⟨g0, o0, s0⟩, i0, c0⟩ := kd_at0 h
  obtain ⟨⟨g1, o1, s1⟩, i1, c1⟩ := kd_at1 h
  have h0 := Tryd.kis_0
  have h1 := Tryd.kis_1
  have h2 := Tryd.kis_2
  clear h
  have hxx : x = 0 ∨ x = 1 ∨ x = 2 := by omega
  have hyy : y = 0 ∨ y = 1 ∨ y = 2 := by omega
  rcases hxx with rfl | rfl | rfl <;> rcases hyy with rfl | rfl | rfl <;>
  · clear hx hy
    go_enter Tryd.func45, Tryd.ntmps45
    go_wp2_with (go_at_call 46; (with_reducible first | refine (h0 _).mono ?_ | refine (h1 _).mono ?_ | refine (h2 _).mono ?_); rintro e w' ⟨rfl, rfl⟩)
    go_ret2
    exact ⟨rfl, by first | exact ⟨0, rfl⟩ | exact ⟨_, rfl⟩⟩
set_option maxHeartbeats 4000000 in
theorem Tryd.kput_18 (a : Option Addr) (c x y : Nat) (w : World) (hx : x ≤ 2) (hy : y ≤ 2) (h : KdSl w a 2 c [x, y]) : Calls Tryd.prog 45 #[.int .u8 18, .slice a 2 c] w (PutR 18 [x, y] w) := by
  obtain ⟨⟨g0, o0, s0⟩, i0, c0⟩ := kd_at0 h
  obtain ⟨⟨g1, o1, s1⟩, i1, c1⟩ := kd_at1 h
  have h0 := Tryd.kis_0
  have h1 := Tryd.kis_1
  have h2 := Tryd.kis_2
  clear h
  have hxx : x = 0 ∨ x = 1 ∨ x = 2 := by omega
  have hyy : y = 0 ∨ y = 1 ∨ y = 2 := by omega
  rcases hxx with rfl | rfl | rfl <;> rcases hyy with rfl | rfl | rfl <;>
  · clear hx hy
    go_enter Tryd.func45, Tryd.ntmps45
    go_wp2_with (go_at_call 46; (with_reducible first | refine (h0 _).mono ?_ | refine (h1 _).mono ?_ | refine (h2 _).mono ?_); rintro e w' ⟨rfl, rfl⟩)
    go_ret2
    exact ⟨rfl, by first | exact ⟨0, rfl⟩ | exact ⟨_, rfl⟩⟩
set_option maxHeartbeats 4000000 in
theorem Tryd.kput_21 (a : Option Addr) (c x y : Nat) (w : World) (hx : x ≤ 2) (hy : y ≤ 2) (h : KdSl w a 2 c [x, y]) : Calls Tryd.prog 45 #[.int .u8 21, .slice a 2 c] w (PutR 21 [x, y] w) := by
  obtain ⟨⟨g0, o0, s0⟩, i0, c0⟩ := kd_at0 h
  obtain ⟨⟨g1, o1, s1⟩, i1, c1⟩ := kd_at1 h
  have h0 := Tryd.kis_0
  have h1 := Tryd.kis_1
  have h2 := Tryd.kis_2
  clear h
  have hxx : x = 0 ∨ x = 1 ∨ x = 2 := by omega
  have hyy : y = 0 ∨ y = 1 ∨ y = 2 := by omega
  rcases hxx with rfl | rfl | rfl <;> rcases hyy with rfl | rfl | rfl <;>
  · clear hx hy
    go_enter Tryd.func45, Tryd.ntmps45
    go_wp2
    go_quiet (fail)
    go_wp2
    go_ret2
    exact ⟨rfl, by first | exact ⟨0, rfl⟩ | exact ⟨_, rfl⟩⟩
set_option maxHeartbeats 4000000 in
theorem Tryd.kput_22 (a : Option Addr) (c x y : Nat) (w : World) (hx : x ≤ 2) (hy : y ≤ 2) (h : KdSl w a 2 c [x, y]) : Calls Tryd.prog 45 #[.int .u8 22, .slice a 2 c] w (PutR 22 [x, y] w) := by
  obtain ⟨⟨g0, o0, s0⟩, i0, c0⟩ := kd_at0 h
  obtain ⟨⟨g1, o1, s1⟩, i1, c1⟩ := kd_at1 h
  have h0 := Tryd.kis_0
  have h1 := Tryd.kis_1
  have h2 := Tryd.kis_2
  clear h
  have hxx : x = 0 ∨ x = 1 ∨ x = 2 := by omega
  have hyy : y = 0 ∨ y = 1 ∨ y = 2 := by omega
  rcases hxx with rfl | rfl | rfl <;> rcases hyy with rfl | rfl | rfl <;>
  · clear hx hy
    go_enter Tryd.func45, Tryd.ntmps45
    go_wp2
    go_quiet (fail)
    go_wp2
    go_ret2
    exact ⟨rfl, by first | exact ⟨0, rfl⟩ | exact ⟨_, rfl⟩⟩
end Go.Proofs.YtnedkpbpeolfoaaDoor
namespace Go.Proofs.YtnedkpbpeolfoaaDoor
open Go.RowKit Go.Maps
theorem few_next {ts : List Tk} {k : Nat} (h : k < ts.length) (hp : fewL false (ts.take k) = true) : fewL false (ts.take (k + 1)) = fewAt (lastP false (ts.take k)) ts[k].1 ts[k].2 := by
  rw [List.take_add_one, List.getElem?_eq_getElem h]
  show fewL false (ts.take k ++ [ts[k]]) = _
  rw [fewL_app, hp, fewL_one, Bool.true_and]
theorem few_off {ts : List Tk} {k : Nat} (h : fewL false (ts.take k) = false) : fewL false ts = false := by
  have : fewL false (ts.take k ++ ts.drop k) = false := by rw [fewL_app, h, Bool.false_and]
  rwa [List.take_append_drop] at this
theorem last_at {ts : List Tk} {k : Nat} (h : k + 1 ≤ ts.length) : lastP false (ts.take (k + 1)) = decide ((ts[k]'(by omega)).1 = 2) := by
  rw [List.take_add_one, List.getElem?_eq_getElem (by omega)]
  show lastP false (ts.take k ++ [ts[k]]) = _
  rw [lastP_snoc]
theorem few_a {b : Bool} {op p : Nat} (h : op ≠ 2) (h3 : op ≠ 3) (h9 : op ≠ 9) (h10 : op ≠ 10) (h13 : op ≠ 13) (h14 : op ≠ 14) (h6 : op = 6 → b = true) : fewAt b op p = (decide (op ≤ 23) && decide (p = 0)) := by
  unfold fewAt
  rw [if_neg h, if_neg (by omega), if_neg]
  rintro ⟨e, e'⟩
  rw [h6 e] at e'
  cases e'
set_option maxRecDepth 100000 in
set_option maxHeartbeats 8000000 in
theorem Tryd.kfew_any (a : Option Addr) (len cap : Nat) (ts : List Tk) (w : World) (hT : TkSl w a len cap ts) (hln : len ≤ 1000000) :
    Calls Tryd.prog 28 #[.slice a len cap] w fun e w' => e = .returned (.bool (fewL false ts)) ∧ Below w.heap.size w w' := by
  have hlen := hT.hlen
  have HT : Hid (TkSl w a len cap ts) := hT
  have HLEN : Hid (ts.length = len) := hlen
  clear hT hlen
  go_enter Tryd.func28, Tryd.ntmps28
  go_wp2
  go_loopw [7] (fun i wr => ∃ k : Nat, k ≤ len ∧ i = .int .i64 k ∧ Hid (fewL false (ts.take k) = true) ∧ Hid (Below w.heap.size w wr)) (fun i _ => len - (intOf i).toNat)
  case atStart => exact ⟨0, Nat.zero_le _, rfl, rfl, Below.refl _ _⟩
  case round =>
    obtain ⟨k, hk, rfl, HF, HW⟩ := hrel
    by_cases hlt : k < len
    · have hxl : k < ts.length := by have := HLEN.out; omega
      obtain ⟨g1, o1, s1, hi1, hx0, hx1, hg1, _⟩ := (HT.out.up HW.out).at Tryd.underlying44 Tryd.sizeTok k hlt
      have hidx := fun w' => hi1 len w' hlt
      clear hi1
      have HNX : Hid (fewL false (ts.take (k + 1)) = fewAt (lastP false (ts.take k)) ts[k].1 ts[k].2) := few_next hxl HF.out
      have HOFF : Hid (fewL false (ts.take (k + 1)) = false → fewL false ts = false) := fun h => few_off h
      have hpv : k = 0 ∨ ∃ j, j + 1 = k ∧ ∃ (g2 o2 : Nat) (s2 : _) (q : Nat), (∀ w', (Instr.indexAt 44 (.slice a len cap) (.int .i64 (j : Int))).run Tryd.prog w' = .ok (.pointer (some ⟨g2, o2, s2⟩)) w') ∧ wr.cell? ⟨g2, o2, s2⟩ = some (.int .u8 (q : Int)) ∧ lastP false (ts.take k) = decide (q = 2) := by
        cases k with
        | zero => exact Or.inl rfl
        | succ j =>
          obtain ⟨g2, o2, s2, hi2, hy0, _, _⟩ := (HT.out.up HW.out).at Tryd.underlying44 Tryd.sizeTok j (by omega)
          exact Or.inr ⟨j, rfl, g2, o2, s2, _, fun w' => hi2 len w' (by omega), hy0, last_at (by omega)⟩
      have HPV : Hid _ := hpv
      clear hpv
      have HB1 : Hid (Below w.heap.size w (wr.alloc (.cells #[.int .u8 (ts[k].1 : Int), .int .u8 (ts[k].2 : Int)] 49))) := below_step HW.out (below_new _ _)
      generalize ts[k] = q at *
      obtain ⟨op, p⟩ := q
      dsimp only at hx0 hx1 HNX HB1
      by_cases e2 : op = 2
      · subst e2
        clear HPV
        have HNX2 : Hid (fewL false (ts.take (k + 1)) = decide (p < 8)) := HNX.out
        clear HNX
        by_cases hp : p < 8
        · have HZ : Hid (fewL false (ts.take (k + 1)) = true) := HNX2.out.trans (decide_eq_true hp)
          have q8 : ¬ (8 : Int) ≤ (p : Int) := by omega
          go_wp2
          go_roundw
          case rel => exact ⟨k + 1, by omega, by go_num, HZ, HB1⟩
          case measure => simp [intOf] <;> omega
        · have HZ : Hid (fewL false (ts.take (k + 1)) = false) := HNX2.out.trans (decide_eq_false hp)
          have q8 : (8 : Int) ≤ (p : Int) := by omega
          go_wp2
          go_ret
          exact ⟨by rw [HOFF.out HZ.out]; rfl, HB1.out⟩
      have q2 : ((op : Int) == 2) = false := by rw [beq_eq_false_iff_ne]; omega
      by_cases e3 : op = 3
      · subst e3
        have HZ : Hid (fewL false (ts.take (k + 1)) = false) := HNX.out
        clear HPV HNX q2
        go_wp2
        go_ret
        exact ⟨by rw [HOFF.out HZ.out]; rfl, HB1.out⟩
      by_cases e9 : op = 9
      · subst e9
        have HZ : Hid (fewL false (ts.take (k + 1)) = false) := HNX.out
        clear HPV HNX q2
        go_wp2
        go_ret
        exact ⟨by rw [HOFF.out HZ.out]; rfl, HB1.out⟩
      by_cases e10 : op = 10
      · subst e10
        have HZ : Hid (fewL false (ts.take (k + 1)) = false) := HNX.out
        clear HPV HNX q2
        go_wp2
        go_ret
        exact ⟨by rw [HOFF.out HZ.out]; rfl, HB1.out⟩
      by_cases e13 : op = 13
      · subst e13
        have HZ : Hid (fewL false (ts.take (k + 1)) = false) := HNX.out
        clear HPV HNX q2
        go_wp2
        go_ret
        exact ⟨by rw [HOFF.out HZ.out]; rfl, HB1.out⟩
      by_cases e14 : op = 14
      · subst e14
        have HZ : Hid (fewL false (ts.take (k + 1)) = false) := HNX.out
        clear HPV HNX q2
        go_wp2
        go_ret
        exact ⟨by rw [HOFF.out HZ.out]; rfl, HB1.out⟩
      have q3 : ((op : Int) == 3) = false := by rw [beq_eq_false_iff_ne]; omega
      have q9 : ((op : Int) == 9) = false := by rw [beq_eq_false_iff_ne]; omega
      have q10 : ((op : Int) == 10) = false := by rw [beq_eq_false_iff_ne]; omega
      have q13 : ((op : Int) == 13) = false := by rw [beq_eq_false_iff_ne]; omega
      have q14 : ((op : Int) == 14) = false := by rw [beq_eq_false_iff_ne]; omega
      by_cases e6 : op = 6
      · subst e6
        clear q2 q3 q9 q10 q13 q14
        rcases HPV.out with hk0 | ⟨j, hjk, g2, o2, s2, q, hj, hc, hl⟩
        · have HZ : Hid (fewL false (ts.take (k + 1)) = false) := by show _ = _; rw [HNX.out, hk0]; rfl
          have hn0 : ((k : Int) == 0) = true := by rw [beq_iff_eq]; omega
          clear hk0
          clear HPV HNX
          go_wp2
          go_ret
          exact ⟨by rw [HOFF.out HZ.out]; rfl, HB1.out⟩
        · have hsub : IntKind.i64.wrap ((k : Int) - 1) = (j : Int) := by rw [IntKind.wrap_i64]; omega
          have hn0 : ((k : Int) == 0) = false := by rw [beq_eq_false_iff_ne]; omega
          have HL : Hid _ := hl
          clear hl HPV
          have hcA : ∀ o, (wr.alloc o).cell? ⟨g2, o2, s2⟩ = some (.int .u8 (q : Int)) := fun o => kept_cell hc (below_new _ _)
          by_cases hq : q = 2
          · subst hq
            have hfa := few_a (b := true) (op := 6) (p := p) (by decide) (by decide) (by decide) (by decide) (by decide) (by decide) (fun _ => rfl)
            have HNX2 : Hid (fewL false (ts.take (k + 1)) = decide (p = 0)) := by show _ = _; rw [HNX.out, HL.out]; exact hfa
            clear HNX hfa HL
            by_cases hp : p = 0
            · subst hp
              have HZ : Hid (fewL false (ts.take (k + 1)) = true) := HNX2.out
              go_wp2
              go_roundw
              case rel => exact ⟨k + 1, by omega, by go_num, HZ, HB1⟩
              case measure => simp [intOf] <;> omega
            · have HZ : Hid (fewL false (ts.take (k + 1)) = false) := HNX2.out.trans (decide_eq_false hp)
              have q0 : ((p : Int) == 0) = false := by rw [beq_eq_false_iff_ne]; omega
              have q0n : ((p : Int) != 0) = true := by rw [bne_iff_ne]; omega
              go_wp2
              go_ret
              exact ⟨by rw [HOFF.out HZ.out]; rfl, HB1.out⟩
          · have HZ : Hid (fewL false (ts.take (k + 1)) = false) := by show _ = _; rw [HNX.out, HL.out, decide_eq_false hq]; rfl
            have qq : ((q : Int) == 2) = false := by rw [beq_eq_false_iff_ne]; omega
            have qqn : ((q : Int) != 2) = true := by rw [bne_iff_ne]; omega
            clear HNX HL
            go_wp2
            go_ret
            exact ⟨by rw [HOFF.out HZ.out]; rfl, HB1.out⟩
      have q6 : ((op : Int) == 6) = false := by rw [beq_eq_false_iff_ne]; omega
      have HNX2 : Hid (fewL false (ts.take (k + 1)) = (decide (op ≤ 23) && decide (p = 0))) := HNX.out.trans (few_a e2 e3 e9 e10 e13 e14 (fun h => absurd h e6))
      clear HNX HPV
      by_cases h23 : op ≤ 23
      · have q23 : ¬ (23 : Int) < (op : Int) := by omega
        by_cases hp : p = 0
        · subst hp
          have HZ : Hid (fewL false (ts.take (k + 1)) = true) := by show _ = _; rw [HNX2.out, decide_eq_true h23]; rfl
          go_wp2
          go_roundw
          case rel => exact ⟨k + 1, by omega, by go_num, HZ, HB1⟩
          case measure => simp [intOf] <;> omega
        · have HZ : Hid (fewL false (ts.take (k + 1)) = false) := by show _ = _; rw [HNX2.out, decide_eq_false hp, Bool.and_false]
          have q0 : ((p : Int) == 0) = false := by rw [beq_eq_false_iff_ne]; omega
          have q0n : ((p : Int) != 0) = true := by rw [bne_iff_ne]; omega
          go_wp2
          go_ret
          exact ⟨by rw [HOFF.out HZ.out]; rfl, HB1.out⟩
      · have q23 : (23 : Int) < (op : Int) := by omega
        have HZ : Hid (fewL false (ts.take (k + 1)) = false) := by show _ = _; rw [HNX2.out, decide_eq_false h23]; rfl
        go_wp2
        go_ret
        exact ⟨by rw [HOFF.out HZ.out]; rfl, HB1.out⟩
    · obtain rfl : k = len := by omega
      have HZ : Hid (fewL false ts = true) := by
        show _ = _
        have := HF.out
        rwa [List.take_of_length_le (by have := HLEN.out; omega)] at this
      go_wp2
      go_ret
      exact ⟨by rw [HZ.out]; rfl, HW.out⟩
end Go.Proofs.YtnedkpbpeolfoaaDoor
namespace Go.Proofs.YtnedkpbpeolfoaaDoor
open Go.RowKit Go.Maps
theorem sizeOf_runN {P : Program} {e : TypeId} {s : Nat} (h : (P.info? e).map (·.size) = some s) (w : World) : (sizeOf e).run P w = .ok s w := by
  cases hq : P.info? e with
  | none => simp [hq] at h
  | some i => simp [hq] at h; simp [sizeOf, typeInfo, hq, h]
/-- A list from lo on. -/
theorem cut_n {P : Program} {T e : TypeId} {s : Nat} (hu : P.underlying T = some (.slice e)) (hs : (P.info? e).map (·.size) = some s) (a : Option Addr) (n cap lo : Nat) (hl : lo ≤ n) (hc : n ≤ cap) (hn : a = none → cap = 0) :
    ∃ a', (∀ w, (Instr.sliceAt T (.slice a n cap) (some (.int .i64 (lo : Int))) none none).run P w = .ok (.slice a' (n - lo) (cap - lo)) w) ∧ (a' = none → cap - lo = 0) ∧ (lo < n → ∀ x, a = some x → a' = some (x.add (lo * s))) := by
  cases a with
  | none =>
    have := hn rfl
    subst this
    obtain rfl : n = 0 := by omega
    obtain rfl : lo = 0 := by omega
    exact ⟨none, fun w => by simp [Instr.sliceAt, Instr.slice, run_underlying hu, sizeOf_runN hs, go_sem], fun _ => rfl, fun hk => absurd hk (by omega)⟩
  | some x =>
    by_cases hz : cap = lo
    · refine ⟨some x, fun w => ?_, (fun h => by cases h), fun hk => absurd hk (by omega)⟩
      have hz2 : cap - lo = 0 := by omega
      simp [Instr.sliceAt, Instr.slice, run_underlying hu, sizeOf_runN hs, go_sem, hl, hz2]
      exact fun h => absurd hz h
    · refine ⟨some (x.add (lo * s)), fun w => ?_, (fun h => by cases h), fun _ y hy => by injection hy with hy; rw [hy]⟩
      simp [Instr.sliceAt, Instr.slice, run_underlying hu, sizeOf_runN hs, go_sem, hl]
      exact fun h => absurd h hz
/-- A list up to m. -/
theorem pre_n {P : Program} {T e : TypeId} {s : Nat} (hu : P.underlying T = some (.slice e)) (hs : (P.info? e).map (·.size) = some s) (a : Option Addr) (n cap m : Nat) (hl : m ≤ n) (hc : n ≤ cap) (hn : a = none → cap = 0) (w : World) :
    (Instr.sliceAt T (.slice a n cap) none (some (.int .i64 (m : Int))) none).run P w = .ok (.slice a m cap) w := by
  cases a with
  | none =>
    have := hn rfl
    subst this
    obtain rfl : n = 0 := by omega
    obtain rfl : m = 0 := by omega
    simp [Instr.sliceAt, Instr.slice, run_underlying hu, sizeOf_runN hs, go_sem]
  | some x =>
    have hmc : m ≤ cap := by omega
    simp [Instr.sliceAt, Instr.slice, run_underlying hu, sizeOf_runN hs, go_sem, hmc]
/-- A row of the call's own, up to m. -/
theorem own_pre {w : World} {base e size n m : Nat} {v : Value} {xs : List Value} (h : w.ownsRow base e size v n xs) (hm : m ≤ n) :
    ∃ a cap, v = .slice a n cap ∧ n ≤ cap ∧ cap ≤ maxLen ∧ (a = none → cap = 0) ∧ w.ownsRow base e size (.slice a m cap) m (xs.take (m * size)) ∧ (Value.slice a m cap).ownBlock = v.ownBlock := by
  obtain ⟨hl, h⟩ := h
  have hms : m * size ≤ n * size := Nat.mul_le_mul_right _ hm
  rcases h with ⟨rfl, rfl⟩ | ⟨g, cap, cur, rfl, hg, hcell, hnc, hcm, hsz, htk⟩
  · obtain rfl : m = 0 := by omega
    exact ⟨none, 0, rfl, Nat.le_refl _, Nat.zero_le _, fun _ => rfl, ⟨by simp, Or.inl ⟨rfl, rfl⟩⟩, rfl⟩
  · refine ⟨some ⟨g, 0, none⟩, cap, rfl, hnc, hcm, fun h => (by cases h), ⟨by simp; omega, Or.inr ⟨g, cap, cur, rfl, hg, hcell, by omega, hcm, hsz, ?_⟩⟩, rfl⟩
    rw [← htk, List.take_take, Nat.min_eq_left hms]
def encN (ks : List Nat) : List Value := (ks.map fun o : Nat => (o : Int)).map (Value.int .u8)
theorem encN_take (ks : List Nat) (m : Nat) : (encN ks).take (m * 1) = encN (ks.take m) := by simp [encN, List.map_take]
theorem Tryd.sizeKd : (Tryd.prog.info? 87).map (·.size) = some 1 := by kernel_rfl
theorem Tryd.infoKd : (Tryd.prog.info? 87).map (fun i => (i.zero, i.size, i.bytes)) = some (some (.int .u8 0), 1, 1) := by kernel_rfl
theorem kd_cut {w : World} {base L m : Nat} {v : Value} {ks : List Nat} (h : w.ownsRow base 87 1 v L (encN ks)) (hm : m ≤ L) :
    ∃ a cap b, v = .slice a L cap ∧ (∀ w', (Instr.sliceAt 86 (.slice a L cap) none (some (.int .i64 (m : Int))) none).run Tryd.prog w' = .ok (.slice a m cap) w') ∧ w.ownsRow base 87 1 (.slice a m cap) m (encN (ks.take m)) ∧ (∀ w', (Instr.sliceAt 86 (.slice a L cap) (some (.int .i64 (m : Int))) none none).run Tryd.prog w' = .ok (.slice b (L - m) (cap - m)) w') ∧ KdSl w b (L - m) (cap - m) (ks.drop m) := by
  obtain ⟨a, cap, rfl, h1, h2, h3, h4, _⟩ := own_pre h hm
  rw [encN_take] at h4
  obtain ⟨b, h5, h6, h7⟩ := cut_n (P := Tryd.prog) (T := 86) Tryd.underlying86 Tryd.sizeKd a L cap m hm h1 h3
  refine ⟨a, cap, b, rfl, pre_n Tryd.underlying86 Tryd.sizeKd a L cap m hm h1 h3, h4, h5, ?_⟩
  obtain ⟨a', cap', e, hI, _⟩ := ownsRow_intSl (P := Tryd.prog) (T := 86) h Tryd.underlying86 Tryd.sizeKd
  injection e with e1 _ e3
  subst e1 e3
  have hlen : ks.length = L := by have := hI.hlen; simpa using this
  have had : ∀ k, k < L - m → adOf b k = adOf a (m + k) := fun k hk => by
    cases a with
    | none => have := h3 rfl; omega
    | some x =>
      rw [h7 (by omega) x rfl]
      show (x.add (m * 1)).add k = x.add (m + k)
      rw [add_add, Nat.mul_one]
  refine ⟨by simp [hlen], by omega, by omega, fun n k w' hk hn => ?_, fun k hk => ?_, fun k hk => ?_, h6⟩
  · exact idx_of Tryd.underlying86 Tryd.sizeKd (fun e => by have := h6 e; omega) k w' hk
  · rw [had k hk, hI.cell (m + k) (by omega)]
    simp [List.getD_eq_getElem?_getD]
  · rw [had k hk]; exact hI.blk (m + k) (by omega)
theorem Tryd.append_kd {w : World} {ops : Array Oper} {rest : List Oper} {o : Oper} {a : Act} {Q : Exit → Act → World → Prop} (hgd : o.guard = none) (s x : Operand)
    (ho : o.op = .call { callee := .builtin .append, args := #[s, x], argTypes := #[86, 86] }) (base : Nat)
    (v : Value) (n : Nat) (ks : List Nat) (hs : a.eval s = v) (hown : w.ownsRow base 87 1 v n (encN ks)) (g' : Nat) (z : Nat) (hx : a.eval x = .slice (some ⟨g', 0, none⟩) 1 1) (hc : w.cell? ⟨g', 0, none⟩ = some (.int .u8 (z : Int)))
    (hn : n + 1 ≤ 140737488355328) (hbase : base ≤ w.heap.size)
    (h : ∀ v' w', w'.ownsRow base 87 1 v' (n + 1) (encN (ks ++ [z])) → w.grownBy w' v.ownBlock → wpList Tryd.prog ops Q rest (a.put o.dst v') w') : wpList Tryd.prog ops Q (o :: rest) a w := by
  obtain ⟨i, hi, hz0, hz1, hz2⟩ := info_parts Tryd.infoKd
  refine wpList_append_own w hgd s x 86 ho base 87 i _ 1 1 Tryd.underlying86 hi hz0 hz1 hz2 rfl (by decide) v n _ hs hown ⟨g', 0, none⟩ 1 1 [.int .u8 (z : Int)] hx rfl ?_ (ints_oneCell .u8 [(z : Int)]) (by unfold maxLen; omega) (by omega) hbase ?_
  · intro j u hj
    match j with
    | 0 => simp at hj; rw [← hj, add_plain]; exact hc
    | j + 1 => simp at hj
  · intro v' w' h1 h2 _
    exact h v' w' (by unfold encN; rw [List.map_append, List.map_append]; exact h1) h2
theorem Tryd.kput_any (op : Nat) (a : Option Addr) (c n : Nat) (ks : List Nat) (w : World) (h23 : op ≤ 23) (n3 : op ≠ 3) (n9 : op ≠ 9) (n10 : op ≠ 10) (n13 : op ≠ 13) (n14 : op ≠ 14) (hn : n = takO op) (hl : ks.length = n) (hk : ∀ x ∈ ks, x ≤ 2) (h : KdSl w a n c ks) :
    Calls Tryd.prog 45 #[.int .u8 (op : Int), .slice a n c] w (PutR op ks w) := by
  subst hl
  match ks, hn, hk, h with
  | [], hn, _, _ =>
    rcases arm0 hn n3 with rfl | rfl | rfl | rfl | rfl
    · exact Tryd.kput_0 a _ c w
    · exact Tryd.kput_1 a _ c w
    · exact Tryd.kput_2 a _ c w
    · exact Tryd.kput_4 a _ c w
    · exact Tryd.kput_5 a _ c w
  | [x], hn, hk, h =>
    have hx := hk x (by simp)
    by_cases e6 : op = 6
    · subst e6; exact Tryd.kput_6 a c x w hx h
    · rcases arm1 hn e6 n9 n10 with rfl | rfl | rfl | rfl | rfl
      · exact Tryd.kput_7 a c x w hx h
      · exact Tryd.kput_8 a c x w hx h
      · exact Tryd.kput_19 a c x w hx h
      · exact Tryd.kput_20 a c x w hx h
      · exact Tryd.kput_23 a c x w hx h
  | [x, y], hn, hk, h =>
    have hx := hk x (by simp)
    have hy := hk y (by simp)
    rcases arm2 hn h23 n13 n14 with rfl | rfl | rfl | rfl | rfl | rfl | rfl | rfl
    · exact Tryd.kput_11 a c x y w hx hy h
    · exact Tryd.kput_12 a c x y w hx hy h
    · exact Tryd.kput_15 a c x y w hx hy h
    · exact Tryd.kput_16 a c x y w hx hy h
    · exact Tryd.kput_17 a c x y w hx hy h
    · exact Tryd.kput_18 a c x y w hx hy h
    · exact Tryd.kput_21 a c x y w hx hy h
    · exact Tryd.kput_22 a c x y w hx hy h
  | _ :: _ :: _ :: _, hn, _, _ => have := takO_le op; simp at hn; omega
def kiStep (st : List Nat) (k : Tk) : Option (List Nat) := if st.length < takO k.1 then none else if kiFit k.1 (st.drop (st.length - takO k.1)) = true then some (st.take (st.length - takO k.1) ++ [kiMade k.1 (st.drop (st.length - takO k.1))]) else none
theorem kiS_cons (k : Tk) (r : List Tk) (st : List Nat) : kiS (k :: r) st = (kiStep st k).bind (kiS r) := by
  rw [kiS]
  unfold kiStep
  split
  · rfl
  · split <;> rfl
theorem kiS_app : ∀ (l r : List Tk) (st : List Nat), kiS (l ++ r) st = (kiS l st).bind (kiS r)
  | [], r, st => rfl
  | k :: l, r, st => by
    show kiS (k :: (l ++ r)) st = _
    rw [kiS_cons, kiS_cons]
    cases kiStep st k with
    | none => rfl
    | some s => exact kiS_app l r s
theorem kiS_next {ts : List Tk} {k : Nat} {ks : List Nat} (h : k < ts.length) (hs : kiS (ts.take k) [] = some ks) : kiS (ts.take (k + 1)) [] = kiStep ks ts[k] := by
  rw [List.take_add_one, List.getElem?_eq_getElem h]
  show kiS (ts.take k ++ [ts[k]]) [] = _
  rw [kiS_app, hs]
  show kiS [ts[k]] ks = _
  rw [kiS_cons]
  cases kiStep ks ts[k] <;> rfl
theorem kiS_off {ts : List Tk} {k : Nat} (h : kiS (ts.take k) [] = none) : kiOk ts = false := by
  have : kiS (ts.take k ++ ts.drop k) [] = none := by rw [kiS_app, h]; rfl
  rw [List.take_append_drop] at this
  unfold kiOk; rw [this]
def oneN (ks : List Nat) : Bool := match ks with | [x] => isN x 0 | _ => false
theorem kiOk_of {ts : List Tk} {ks : List Nat} (h : kiS ts [] = some ks) : kiOk ts = oneN ks := by
  unfold kiOk
  rw [h]
  match ks with
  | [] => rfl
  | [x] => rfl
  | _ :: _ :: _ => rfl
theorem kiMade_le (op : Nat) (a : List Nat) : kiMade op a ≤ 2 := by
  unfold kiMade
  repeat' split
  all_goals omega
theorem few_at {ts : List Tk} {k : Nat} (h : k < ts.length) (hf : fewL false ts = true) : ∃ b, fewAt b ts[k].1 ts[k].2 = true := by
  have h1 : fewL false (ts.take k) = true := by
    cases hc : fewL false (ts.take k) with
    | true => rfl
    | false => rw [few_off hc] at hf; cases hf
  refine ⟨lastP false (ts.take k), ?_⟩
  rw [← few_next h h1]
  cases hc : fewL false (ts.take (k + 1)) with
  | true => rfl
  | false => rw [few_off hc] at hf; cases hf
set_option maxRecDepth 100000 in
set_option maxHeartbeats 8000000 in
theorem Tryd.kform_any (a : Option Addr) (len cap : Nat) (ts : List Tk) (w : World) (hT : TkSl w a len cap ts) (hln : len ≤ 1000000) (hF : fewL false ts = true) :
    Calls Tryd.prog 29 #[.slice a len cap] w fun e w' => e = .returned (.bool (kiOk ts)) ∧ Below w.heap.size w w' := by
  have HT : Hid (TkSl w a len cap ts) := hT
  have HLEN : Hid (ts.length = len) := hT.hlen
  have HF : Hid (fewL false ts = true) := hF
  clear hT hF
  go_enter Tryd.func29, Tryd.ntmps29
  go_wp2
  go_loopw [3, 12] (fun v i wr => ∃ k : Nat, k ≤ len ∧ i = .int .i64 k ∧ (∃ ks : List Nat, Hid (wr.ownsRow w.heap.size 87 1 v ks.length (encN ks)) ∧ Hid (kiS (ts.take k) [] = some ks) ∧ Hid (ks.length ≤ k) ∧ Hid (∀ x ∈ ks, x ≤ 2)) ∧ Hid (Below w.heap.size w wr)) (fun _ i _ => len - (intOf i).toNat)
  case atStart => exact ⟨0, Nat.zero_le _, rfl, ⟨[], ⟨rfl, Or.inl ⟨rfl, rfl⟩⟩, rfl, Nat.le_refl _, fun x hx => (by simp at hx)⟩, Below.refl _ _⟩
  case round =>
    obtain ⟨k, hk, rfl, ⟨ks, HO, HE, HLL, HK2⟩, HW⟩ := hrel
    have hll := HLL.out
    have hszr := HW.out.size
    by_cases hlt : k < len
    · have hxl : k < ts.length := by have := HLEN.out; omega
      obtain ⟨g1, o1, s1, hi1, hx0, hx1, hg1, _⟩ := (HT.out.up HW.out).at Tryd.underlying44 Tryd.sizeTok k hlt
      have hidx := fun w' => hi1 len w' hlt
      clear hi1
      have HNX : Hid (kiS (ts.take (k + 1)) [] = kiStep ks ts[k]) := kiS_next hxl HE.out
      obtain ⟨b, hfa⟩ := few_at hxl HF.out
      have HOFF : Hid (kiS (ts.take (k + 1)) [] = none → kiOk ts = false) := fun h => kiS_off h
      generalize ts[k] = q at *
      obtain ⟨op, p⟩ := q
      dsimp only at hx0 hx1 HNX hfa
      obtain ⟨_, h23, n3, n9, n10, n13, n14, _⟩ := few_takes hfa
      clear hfa
      have hTk := fun w' => Tryd.ktakes_any op w' h23
      have hb1 := below_new wr (.cells #[.int .u8 (op : Int), .int .u8 (p : Int)] 49)
      have HB1 : Hid (Below w.heap.size w (wr.alloc (.cells #[.int .u8 (op : Int), .int .u8 (p : Int)] 49))) := below_step HW.out hb1
      have hz1 : (wr.alloc (.cells #[.int .u8 (op : Int), .int .u8 (p : Int)] 49)).heap.size = wr.heap.size + 1 := by simp
      have hTn : takO op = takO op := rfl
      obtain ⟨n, hn⟩ : ∃ n, n = takO op := ⟨_, rfl⟩
      have hn2 : n ≤ 2 := by rw [hn]; exact takO_le op
      have HS : Hid (kiStep ks (op, p) = if ks.length < n then none else if kiFit op (ks.drop (ks.length - n)) = true then some (ks.take (ks.length - n) ++ [kiMade op (ks.drop (ks.length - n))]) else none) := by show _ = _; rw [hn]; rfl
      rw [← hn] at hTk
      have HN : Hid (n = takO op) := hn
      clear hn hTn
      by_cases hs : ks.length < n
      · have HZ : Hid (kiOk ts = false) := HOFF.out (by rw [HNX.out, HS.out, if_pos hs])
        have hs' : (ks.length : Int) < (n : Int) := by omega
        obtain ⟨av, cv, rfl, _⟩ := own_pre HO.out (Nat.le_refl _)
        clear HS HNX hb1 HOFF
        go_wp2_with (go_at_call 44; refine (hTk _).mono ?_; rintro e w' ⟨rfl, rfl⟩)
        go_ret
        exact ⟨by rw [HZ.out]; rfl, HB1.out⟩
      · have hs' : ¬ (ks.length : Int) < (n : Int) := by omega
        obtain ⟨M, hM⟩ : ∃ M, M = ks.length - n := ⟨_, rfl⟩
        rw [if_neg hs, ← hM] at HS
        obtain ⟨av, cv, bv, rfl, hpre, hown, hcut, hkd⟩ := kd_cut HO.out (m := M) (by omega)
        rw [show ks.length - M = n by omega] at hcut hkd
        have hdl : (ks.drop M).length = n := by simp; omega
        have hdk : ∀ x ∈ ks.drop M, x ≤ 2 := fun x hx => HK2.out x (List.mem_of_mem_drop hx)
        have htk : ∀ x ∈ ks.take M, x ≤ 2 := fun x hx => HK2.out x (List.mem_of_mem_take hx)
        have htl : (ks.take M).length = M := by simp; omega
        have hkd1 : KdSl (wr.alloc (.cells #[.int .u8 (op : Int), .int .u8 (p : Int)] 49)) bv n (cv - M) (ks.drop M) := IntSl.up hkd hb1
        have hput : ∀ m, Calls Tryd.prog 45 #[.int .u8 (op : Int), .slice bv n (cv - M)] ((wr.alloc (.cells #[.int .u8 (op : Int), .int .u8 (p : Int)] 49)).drewN m) (fun e w' => e = .returned (.tuple #[.int .u8 (kiMade op (ks.drop M) : Int), .bool (kiFit op (ks.drop M))]) ∧ ∃ m', w' = ((wr.alloc (.cells #[.int .u8 (op : Int), .int .u8 (p : Int)] 49)).drewN m).drewN m') := fun m => Tryd.kput_any op bv (cv - M) n (ks.drop M) _ h23 n3 n9 n10 n13 n14 HN.out hdl hdk (IntSl.drewN hkd1 m)
        have hml := kiMade_le op (ks.drop M)
        have HNXT : Hid _ := HNX.out.trans HS.out
        have HTK : Hid _ := htk
        have HTL : Hid _ := htl
        have hwr : IntKind.i64.wrap ((ks.length : Int) - (n : Int)) = (M : Int) := by rw [IntKind.wrap_i64]; omega
        have hown1 := owns_up hown hb1
        have HO1 : Hid _ := hown1
        have hML : M ≤ ks.length := by omega
        have HGE : Hid (∀ j, (Value.slice av M cv).ownBlock = some j → w.heap.size ≤ j) := own_ge hown1
        have hcw0 : (wr.alloc (.cells #[.int .u8 (op : Int), .int .u8 (p : Int)] 49)).cell? ⟨wr.heap.size, 0, none⟩ = some (.int .u8 (op : Int)) := cell_row (MapKept.heap_alloc wr _).1 0
        clear HNX HS hown hown1 hkd hkd1 hdk htk htl hdl hb1 HO HE HK2 hM
        generalize ks.drop M = dk at *
        generalize ks.take M = tk at *
        generalize kiMade op dk = md at *
        generalize kiFit op dk = ft at *
        generalize ks.length = L at *
        go_wp2_with (go_at_call 44; refine (hTk _).mono ?_; rintro e w' ⟨rfl, rfl⟩)
        generalize hW1 : wr.alloc (.cells #[.int .u8 (op : Int), .int .u8 (p : Int)] 49) = w1 at *
        go_quiet ((go_at_call 45; exact Calls.quiet_of (hput _)))
        cases ft with
        | false =>
          have HZ : Hid (kiOk ts = false) := HOFF.out (by rw [HNXT.out]; rfl)
          go_wp2
          go_ret
          exact ⟨by rw [HZ.out]; rfl, below_step HB1.out (below_drewN (Below.refl _ _) _)⟩
        | true =>
          have HB2 : Hid (Below w.heap.size w (w1.drewN nq)) := below_step HB1.out (below_drewN (Below.refl _ _) _)
          have HO2 : Hid ((w1.drewN nq).ownsRow w.heap.size 87 1 (.slice av M cv) M (encN tk)) := owns_drew HO1.out nq
          have hz2 : (w1.drewN nq).heap.size = wr.heap.size + 1 := hz1
          clear hput hcw0 HO1 HB1
          generalize w1.drewN nq = w2 at *
          have HO3 : Hid ((w2.alloc (.cells #[.int .u8 (md : Int)] 87)).ownsRow w.heap.size 87 1 (.slice av M cv) M (encN tk)) := World.ownsRow.alloc HO2.out _
          have hc3 : (w2.alloc (.cells #[.int .u8 (md : Int)] 87)).cell? ⟨wr.heap.size + 1, 0, none⟩ = some (.int .u8 (md : Int)) := by rw [← hz2]; exact cell_row (MapKept.heap_alloc w2 _).1 0
          have hz3 : (w2.alloc (.cells #[.int .u8 (md : Int)] 87)).heap.size = w2.heap.size + 1 := by simp
          have HB3 : Hid (Below w.heap.size w (w2.alloc (.cells #[.int .u8 (md : Int)] 87))) := below_step HB2.out (below_new _ _)
          go_wp2_with (at_builtin; refine Tryd.append_kd rfl _ _ rfl w.heap.size _ M tk rfl HO3.out (wr.heap.size + 1) md rfl hc3 (by omega) (by rw [hz3]; omega) ?_)
          intro v4 w4 hown4 hgr4
          have HB4 : Hid (Below w.heap.size w w4) := HB3.out.grown hgr4 (by rw [hz3]; omega) HGE.out
          have HO4 : Hid (w4.ownsRow w.heap.size 87 1 v4 (tk ++ [md]).length (encN (tk ++ [md]))) := by
            show World.ownsRow _ _ _ _ _ _ _
            rw [List.length_append, HTL.out]; exact hown4
          clear hown4 hgr4 hc3 HO3
          go_wp2
          go_roundw
          case rel =>
            refine ⟨k + 1, by omega, by go_num, ⟨tk ++ [md], HO4, ?_, ?_, ?_⟩, HB4⟩
            · show _ = _
              rw [HNXT.out]; rfl
            · show _ ≤ _
              rw [List.length_append, HTL.out]; simp; omega
            · intro x hx
              rcases List.mem_append.1 hx with hx | hx
              · exact HTK.out x hx
              · simp at hx; omega
          case measure => simp [intOf] <;> omega
    · obtain rfl : k = len := by omega
      have HKO : Hid (kiOk ts = oneN ks) := by
        show _ = _
        have := HE.out
        rw [List.take_of_length_le (by have := HLEN.out; omega)] at this
        exact kiOk_of this
      obtain ⟨av, cv, rfl, _⟩ := own_pre HO.out (Nat.le_refl _)
      by_cases h1 : ks.length = 1
      · obtain ⟨x, rfl⟩ : ∃ x, ks = [x] := by
          match ks, h1 with
          | [x], _ => exact ⟨x, rfl⟩
        obtain ⟨a', c', b', e', _, _, _, _⟩ := kd_cut HO.out (m := 0) (Nat.zero_le _)
        obtain ⟨a2, c2, e2, hI, _⟩ := ownsRow_intSl (P := Tryd.prog) (T := 86) HO.out Tryd.underlying86 Tryd.sizeKd
        injection e2 with e2 _ e3
        subst e2 e3
        obtain ⟨⟨g0, o0, s0⟩, i0, c0⟩ := kd_at0 (n := 0) hI
        have hx2 : x ≤ 2 := HK2.out x (by simp)
        have his := fun w' => Tryd.kis_any x w' hx2
        have HKO2 : Hid (kiOk ts = isN x 0) := HKO.out
        clear HKO hI e' HK2 HE HO HLL hll h1 hx2
        go_wp2_with (go_at_call 46; refine (his _).mono ?_; rintro e w' ⟨rfl, rfl⟩)
        go_ret
        exact ⟨by rw [HKO2.out]; rfl, HW.out⟩
      · have h1' : ((ks.length : Int) == 1) = false := by rw [beq_eq_false_iff_ne]; omega
        have HZ : Hid (kiOk ts = false) := by
          show _ = _
          rw [HKO.out]
          match ks, h1 with
          | [], _ => rfl
          | [_], h => exact absurd rfl h
          | _ :: _ :: _, _ => rfl
        clear HKO
        go_wp2
        go_ret
        exact ⟨by rw [HZ.out]; rfl, HW.out⟩
set_option maxHeartbeats 2000000 in
theorem Tryd.kcheck_any (a : Option Addr) (len cap : Nat) (ts : List Tk) (w : World) (hT : TkSl w a len cap ts) : Calls Tryd.prog 10 #[.slice a len cap] w fun e w' => e = .returned (.int .i64 (chkE ts : Int)) ∧ Below w.heap.size w w' := by
  have hlen := hT.hlen
  by_cases hl : 2048 < len
  · have HC : Hid (chkE ts = 3) := by show _ = _; unfold chkE; rw [if_pos (by omega)]
    have hl' : (2048 : Int) < (len : Int) := by omega
    clear hT hlen
    go_enter Tryd.func10, Tryd.ntmps10
    go_wp2
    go_ret
    exact ⟨by rw [HC.out]; rfl, Below.refl _ _⟩
  · have hl' : ¬ (2048 : Int) < (len : Int) := by omega
    have h1 := Tryd.kfew_any a len cap ts w hT (by omega)
    cases hf : fewL false ts with
    | false =>
      have HC : Hid (chkE ts = 7) := by
        refine chk_form (by omega) (fun h => ?_)
        rw [((isKer_iff ts).1 h).1] at hf; cases hf
      rw [hf] at h1
      clear hT hlen hf
      go_enter Tryd.func10, Tryd.ntmps10
      go_wp2_with (go_at_call 28; refine h1.mono ?_; rintro e w1 ⟨rfl, hb1⟩)
      go_ret
      exact ⟨by rw [HC.out]; rfl, hb1⟩
    | true =>
      have HT : Hid _ := hT
      have HF : Hid _ := hf
      rw [hf] at h1
      cases hk : kiOk ts with
      | false =>
        have HC : Hid (chkE ts = 7) := by
          refine chk_form (by omega) (fun h => ?_)
          rw [((isKer_iff ts).1 h).2] at hk; cases hk
        have HK : Hid _ := hk
        clear hT hlen hf hk
        go_enter Tryd.func10, Tryd.ntmps10
        go_wp2_with (go_at_call 28; refine h1.mono ?_; rintro e w1 ⟨rfl, hb1⟩; have h2 := Tryd.kform_any a len cap ts w1 (HT.out.up hb1) (by omega) HF.out; rw [HK.out] at h2)
        go_wp2_with (go_at_call 29; refine h2.mono ?_; rintro e w2 ⟨rfl, hb2⟩)
        go_ret
        exact ⟨by rw [HC.out]; rfl, below_step hb1 hb2⟩
      | true =>
        have HC : Hid (chkE ts = 0) := chk_zero.2 ⟨by omega, (isKer_iff ts).2 ⟨hf, hk⟩⟩
        have HK : Hid _ := hk
        clear hT hlen hf hk
        go_enter Tryd.func10, Tryd.ntmps10
        go_wp2_with (go_at_call 28; refine h1.mono ?_; rintro e w1 ⟨rfl, hb1⟩; have h2 := Tryd.kform_any a len cap ts w1 (HT.out.up hb1) (by omega) HF.out; rw [HK.out] at h2)
        go_wp2_with (go_at_call 29; refine h2.mono ?_; rintro e w2 ⟨rfl, hb2⟩)
        go_ret
        exact ⟨by rw [HC.out]; rfl, below_step hb1 hb2⟩
end Go.Proofs.YtnedkpbpeolfoaaDoor
namespace Go.Proofs.YtnedkpbpeolfoaaDoor
open Go.RowKit Go.Maps
theorem Tryd.stepg_del {w : World} {ops : Array Oper} {o : Oper} {a : Act} {K : Act → World → Prop} {Q : Exit → Act → World → Prop} {E : Prop} (hw : Region.wanted o (yielded ops a.tmps) = true) (m x : Operand)
    (ho : o.op = .call { callee := .builtin .delete, args := #[m, x], argTypes := #[26, 81] }) (b n : Nat) (f : It → Option Nat) (y : It) (hm : a.eval m = .map (some b)) (hx : a.eval x = itV y)
    (h : NumOf w b n f) (hy : ItOk y) (hf : (f y).isSome = true)
    (hK : ∀ w', NumOf w' b (n - 1) (fun z => if z = y then none else f z) → w.grownBy w' (some b) → K (a.put o.dst (.tuple #[])) w') :
    if Region.wanted o (yielded ops a.tmps) = true then Oper.wp Tryd.prog o a w K Q else E := by
  rw [if_pos hw]
  obtain ⟨w', hr, h1, h2⟩ := h.drop hy hf o.type
  unfold Oper.wp execOp
  simp only [ho, resolve, invoke, builtin, Sem.run_bind, Sem.run_pure, Result.andThen_ok, List.map_toArray, List.map_cons, List.map_nil, hm, hx, hr]
  exact hK w' h1 h2
/-- What is left of the numbers when i items from n on are taken out. -/
def outI (items : List It) (n i : Nat) (y : It) : Option Nat := (posI items y).bind fun j => if n ≤ j ∧ j < n + i then none else some j
theorem outI_zero (items : List It) (n : Nat) (y : It) : posI items y = outI items n 0 y := by
  unfold outI
  cases posI items y with
  | none => rfl
  | some j => simp only [Option.bind_some]; rw [if_neg (by omega)]
theorem outI_next {items : List It} (hn : items.Nodup) {n i : Nat} (h : n + i < items.length) (y : It) : (if y = items[n + i] then none else outI items n i y) = outI items n (i + 1) y := by
  unfold outI
  by_cases e : y = items[n + i]
  · rw [if_pos e, (posI_some hn (j := n + i)).2 (by rw [e]; exact List.getElem?_eq_getElem h)]
    simp only [Option.bind_some]
    rw [if_pos (by omega)]
  · rw [if_neg e]
    cases hp : posI items y with
    | none => rfl
    | some j =>
      have hj := (posI_some hn).1 hp
      have : j ≠ n + i := fun he => e (by subst he; rw [List.getElem?_eq_getElem h] at hj; injection hj with hj; exact hj.symm)
      simp only [Option.bind_some]
      by_cases c : n ≤ j ∧ j < n + i
      · rw [if_pos c, if_pos (by omega)]
      · rw [if_neg c, if_neg (by omega)]
theorem outI_there {items : List It} (hn : items.Nodup) {n i : Nat} (h : n + i < items.length) : (outI items n i items[n + i]).isSome = true := by
  unfold outI
  rw [(posI_some hn (j := n + i)).2 (List.getElem?_eq_getElem h)]
  simp only [Option.bind_some]
  rw [if_neg (by omega)]
  rfl
theorem outI_all {items : List It} (hn : items.Nodup) {n : Nat} (h : n ≤ items.length) (y : It) : outI items n (items.length - n) y = posI (items.take n) y := by
  unfold outI
  cases hp : posI items y with
  | none =>
    rw [posI_none] at hp
    exact (posI_none.2 (fun hy => hp (List.mem_of_mem_take hy))).symm
  | some j =>
    have hj := (posI_some hn).1 hp
    have hl := posI_lt hp
    simp only [Option.bind_some]
    by_cases c : j < n
    · rw [if_neg (by omega)]
      refine ((posI_some (hn.sublist (List.take_sublist _ _))).2 ?_).symm
      rw [List.getElem?_take, if_pos c]; exact hj
    · rw [if_pos (by omega)]
      refine (posI_none.2 fun hy => ?_).symm
      obtain ⟨i, hi⟩ := List.mem_iff_getElem?.1 hy
      rw [List.getElem?_take] at hi
      by_cases ci : i < n
      · rw [if_pos ci] at hi
        have := nodup_at hn hi hj
        omega
      · rw [if_neg ci] at hi; cases hi
/-- The items from n on, as a list. -/
theorem row_cut {w : World} {a : Option Addr} {n cap m : Nat} {items : List It} (h : w.ownsRow 0 81 4 (.slice a n cap) n (encI items)) (hl : items.length = n) (hm : m ≤ n) :
    ∃ a', (∀ w', (Instr.sliceAt 25 (.slice a n cap) (some (.int .i64 (m : Int))) none none).run Tryd.prog w' = .ok (.slice a' (n - m) (cap - m)) w') ∧
      ∀ k (x : It), items[m + k]? = some x → ∃ g o, (∀ w', (Instr.indexAt 25 (.slice a' (n - m) (cap - m)) (.int .i64 (k : Int))).run Tryd.prog w' = .ok (.pointer (some ⟨g, o, none⟩)) w') ∧
        ∀ w' : World, w'.ownsRow 0 81 4 (.slice a n cap) n (encI items) → w'.cell? ⟨g, o, none⟩ = some (.int .u8 (x.op : Int)) ∧ w'.cell? ⟨g, o + 1, none⟩ = some (.int .u8 (x.p : Int)) ∧ w'.cell? ⟨g, o + 2, none⟩ = some (.int .i64 x.a) ∧ w'.cell? ⟨g, o + 3, none⟩ = some (.int .i64 x.b) := by
  rcases h.2 with ⟨e, e0⟩ | ⟨g, cap', cur, e, _, hcell, hnc, _, hsz, htk⟩
  · injection e with e1 _ e3
    subst e1 e3 e0
    obtain ⟨a', h1, _⟩ := cut_n (P := Tryd.prog) Tryd.underlying25 Tryd.sizeItem none 0 0 m hm (Nat.le_refl _) (fun _ => rfl)
    exact ⟨a', h1, fun k x hk => absurd (List.getElem?_eq_some_iff.1 hk).1 (by omega)⟩
  · injection e with e1 _ e3
    subst e1 e3
    obtain ⟨a', h1, _, h3⟩ := cut_n (P := Tryd.prog) Tryd.underlying25 Tryd.sizeItem (some ⟨g, 0, none⟩) n cap m hm hnc (fun e => by cases e)
    refine ⟨a', h1, fun k x hx => ?_⟩
    obtain ⟨hk, rfl⟩ := List.getElem?_eq_some_iff.1 hx
    have ha := h3 (by omega) _ rfl
    rw [add_plain, Nat.zero_add] at ha
    subst ha
    have hkn : k < n - m := by omega
    refine ⟨g, 4 * (m + k), fun w' => ?_, fun w' ho => ?_⟩
    · simp [Instr.indexAt, run_underlying Tryd.underlying25, asIntOf, sizeOf_runI Tryd.sizeItem, hkn, Result.andThen, go_sem, add_plain, Nat.mul_comm]
    · rcases ho.2 with ⟨e, e0⟩ | ⟨g', cap', cur', e, _, hcell', hnc', _, hsz', htk'⟩
      · cases e
      · injection e with e1 _ e3
        injection e1 with e1
        injection e1 with e1 _ _
        subst e1
        have key : ∀ j, j < n * 4 → w'.cell? ⟨g, j, none⟩ = (encI items)[j]? := fun j hj => by
          rw [← htk', List.getElem?_take, if_pos hj]
          simp [World.cell?, hcell']
        obtain ⟨q0, q1, q2, q3⟩ := encI_get items (m + k) hk
        refine ⟨?_, ?_, ?_, ?_⟩
        · rw [key _ (by omega)]; exact q0
        · rw [key _ (by omega)]; exact q1
        · rw [key _ (by omega)]; exact q2
        · rw [key _ (by omega)]; exact q3
/-- What cut's loop keeps. -/
structure Cut (w wr : World) (t mb L i n : Nat) (a : Option Addr) (cap : Nat) (items : List It) : Prop where
  num : NumOf wr mb (L - i) (outI items n i)
  gr : w.grownBy wr (some mb)
theorem Cut.blk {w wr : World} {t mb i n cap : Nat} {a : Option Addr} {items : List It} (h : TabR w t a items.length cap mb items) (c : Cut w wr t mb items.length i n a cap items) : wr.heap[t]? = some (.cells #[tbV t, .slice a items.length cap, .map (some mb)] 112 (0, 0)) ∧ wr.ownsRow 0 81 4 (.slice a items.length cap) items.length (encI items) := by
  obtain ⟨es, cl, hmap⟩ := h.num.isMap
  have hmt : t ≠ mb := fun e => by rw [← e, h.blk] at hmap; cases hmap
  have hnm : (Value.slice a items.length cap).ownBlock ≠ some mb := own_neI h.row hmap (fun cs e => by cases e)
  have st : ∀ k, k < w.heap.size → k ≠ mb → wr.heap[k]? = w.heap[k]? := fun k hk hne => c.gr.block k hk (fun e => hne (by injection e))
  exact ⟨(st t (Array.getElem?_eq_some_iff.1 h.blk).1 hmt).trans h.blk, owns_off h.row fun k hk => st k (own_lt h.row k hk) (fun e => hnm (e ▸ hk))⟩
theorem cut_fin {w wr : World} {F : Nat → Prop} {t mb n cap : Nat} {a : Option Addr} {items : List It} (hI : TabI w F t items) (h : TabR w t a items.length cap mb items) (hF : ∀ k, F k ↔ (k = t ∨ k = mb ∨ (Value.slice a items.length cap).ownBlock = some k)) (hn : n ≤ items.length)
    (c : Cut w wr t mb items.length (items.length - n) n a cap items) : TabI (wr.setCell ⟨t, 1, none⟩ (.slice a n cap)) F t (items.take n) ∧ Fr w (wr.setCell ⟨t, 1, none⟩ (.slice a n cap)) F F := by
  obtain ⟨h1, h2⟩ := c.blk h
  obtain ⟨es, cl, hmap⟩ := c.num.isMap
  have hmt : mb ≠ t := fun e => by rw [e, h1] at hmap; cases hmap
  have hne : (Value.slice a items.length cap).ownBlock ≠ some t := own_neI h2 h1 (fun cs e => by injection e with _ e _; exact absurd e (by decide))
  have hlen : (items.take n).length = n := by simp; omega
  obtain ⟨a', cap', e, _, _, _, h4, h5⟩ := own_pre h2 hn
  injection e with e1 _ e3
  subst e1 e3
  rw [encI_take] at h4
  refine ⟨⟨hI.nd.sublist (List.take_sublist _ _), by have := hI.few; omega, fun x hx => hI.ok x (List.mem_of_mem_take hx), .slice a n cap, mb, ?_, ?_, ?_, fun k => ?_⟩, ?_⟩
  · rw [heap_setCell_same wr t 1 _ _ _ h1]; rfl
  · rw [hlen]
    refine owns_off h4 fun k hk => Below.heap_setCell _ _ _ _ ?_
    dsimp only
    rintro rfl
    rw [h5] at hk; exact hne hk
  · rw [hlen]
    have := c.num
    rw [show items.length - (items.length - n) = n by omega] at this
    exact (this.far (Below.heap_setCell _ _ _ _ (by dsimp only; exact hmt))).alike fun y _ => outI_all hI.nd hn y
  · rw [h5]; exact hF k
  · refine ⟨c.gr.os, c.gr.tape, c.gr.output, by have := c.gr.size; simpa using this, fun k hk hf => ?_, fun _ hk => Or.inl hk⟩
    have hf' := fun e => hf ((hF k).2 e)
    exact (Below.heap_setCell _ _ _ _ (by dsimp only; exact fun e => hf' (Or.inl e))).trans (c.gr.block k hk (fun e => hf' (Or.inr (Or.inl (by injection e)))))
set_option maxRecDepth 100000 in
set_option maxHeartbeats 4000000 in
theorem Tryd.tcut_any {w : World} {F : Nat → Prop} {t : Nat} {items : List It} (h : TabI w F t items) (n : Nat) (hn : n ≤ items.length) :
    Calls Tryd.prog 72 #[.pointer (some ⟨t, 0, none⟩), .int .i64 (n : Int)] w fun e w' => e = .returned (.tuple #[]) ∧ TabI w' F t (items.take n) ∧ Fr w w' F F := by
  obtain ⟨a, cap, mb, hr, hF⟩ := h.read
  have c1 := hr.c1
  obtain ⟨a', hcut, hat⟩ := row_cut hr.row rfl hn
  have hpre := fun w' => pre_n (P := Tryd.prog) Tryd.underlying25 Tryd.sizeItem a items.length cap n hn hr.hc hr.nn w'
  have HR : Hid _ := hr
  have HF : Hid _ := hF
  have HI : Hid _ := h
  have HAT : Hid _ := hat
  have HC0 : Hid (Cut w w t mb items.length 0 n a cap items) := ⟨hr.num.alike fun y _ => outI_zero items n y, ⟨rfl, rfl, rfl, Nat.le_refl _, fun _ _ _ => rfl⟩⟩
  have HN : Hid (n ≤ items.length) := hn
  have hfew := h.few
  clear h hr hF hat hn
  generalize hL : items.length = L at *
  have HL : Hid (items.length = L) := hL
  clear hL
  go_enter Tryd.func72, Tryd.ntmps72
  go_wp2
  go_loopw [13] (fun i wr => ∃ k : Nat, k ≤ L - n ∧ i = .int .i64 k ∧ Hid (Cut w wr t mb L k n a cap items)) (fun i _ => (L - n) - (intOf i).toNat)
  case atStart => exact ⟨0, Nat.zero_le _, rfl, HC0⟩
  case round =>
    obtain ⟨k, hk, rfl, HC⟩ := hrel
    clear HC0 c1
    by_cases hlt : k < L - n
    · have hkl : n + k < items.length := by have := HL.out; omega
      have hx : items[n + k]? = some items[n + k] := List.getElem?_eq_getElem hkl
      have HX : Hid (ItOk items[n + k]) := HI.out.ok _ (List.getElem_mem hkl)
      have HTH : Hid ((outI items n k items[n + k]).isSome = true) := outI_there HI.out.nd hkl
      have HNX : Hid (∀ y, (if y = items[n + k] then none else outI items n k y) = outI items n (k + 1) y) := fun y => outI_next HI.out.nd hkl y
      obtain ⟨g, o, hio, hcs⟩ := HAT.out k _ hx
      have HB : Hid _ := (show Cut w wr t mb items.length k n a cap items by rw [HL.out]; exact HC.out).blk (by rw [HL.out]; exact HR.out)
      rw [HL.out] at HB
      obtain ⟨q0, q1, q2, q3⟩ := hcs wr HB.out.2
      generalize items[n + k] = x at *
      obtain ⟨op, p, xa, xb⟩ := x
      dsimp only at q0 q1 q2 q3
      clear hx hkl hcs
      have hb1 := below_new wr (.cells #[.int .u8 (op : Int), .int .u8 (p : Int), .int .i64 xa, .int .i64 xb] 81)
      have c2 : (wr.alloc (.cells #[.int .u8 (op : Int), .int .u8 (p : Int), .int .i64 xa, .int .i64 xb] 81)).cell? ⟨t, 2, none⟩ = some (.map (some mb)) := kept_cell (cell_row HB.out.1 2) hb1
      have hnum : NumOf (wr.alloc (.cells #[.int .u8 (op : Int), .int .u8 (p : Int), .int .i64 xa, .int .i64 xb] 81)).drew mb (L - k) (outI items n k) := HC.out.num.far (hb1.block mb HC.out.num.lt)
      have HGR : Hid (w.grownBy (wr.alloc (.cells #[.int .u8 (op : Int), .int .u8 (p : Int), .int .i64 xa, .int .i64 xb] 81)).drew (some mb)) := ⟨HC.out.gr.os, HC.out.gr.tape, HC.out.gr.output, by have := HC.out.gr.size; simp; omega, fun j hj hne => (hb1.block j (by have := HC.out.gr.size; omega)).trans (HC.out.gr.block j hj hne)⟩
      clear hb1 HB HC
      go_wp2
      go_upto_region 15 with fail
      go_region_law ((refine Tryd.stepg_del rfl _ _ rfl mb (L - k) (outI items n k) ⟨op, p, xa, xb⟩ rfl rfl hnum HX.out HTH.out ?_; intro w6 hn6 hg6))
      all_goals
        have HC6 : Hid (Cut w w6 t mb L (k + 1) n a cap items) := by
          refine ⟨?_, ⟨hg6.os.trans HGR.out.os, hg6.tape.trans HGR.out.tape, hg6.output.trans HGR.out.output, Nat.le_trans HGR.out.size hg6.size, fun j hj hne => (hg6.block j (Nat.lt_of_lt_of_le hj HGR.out.size) hne).trans (HGR.out.block j hj hne)⟩⟩
          rw [show L - (k + 1) = L - k - 1 by omega]
          exact hn6.alike fun y _ => HNX.out y
        clear hnum c2 hn6 hg6 HGR
        go_wp2
        go_roundw
        case rel => exact ⟨k + 1, by omega, by go_num, HC6⟩
        case measure => simp [intOf] <;> omega
    · obtain rfl : k = L - n := by omega
      have HC' : Hid (Cut w wr t mb items.length (items.length - n) n a cap items) := by show Cut _ _ _ _ _ _ _ _ _ _; rw [HL.out]; exact HC.out
      have HR' : Hid (TabR w t a items.length cap mb items) := by show TabR _ _ _ _ _ _ _; rw [HL.out]; exact HR.out
      have hb := HC'.out.blk HR'.out
      rw [HL.out] at hb
      have c1 : wr.cell? ⟨t, 1, none⟩ = some (.slice a L cap) := cell_row hb.1 1
      have z1 : wr.frozen? ⟨t, 1, none⟩ = false := frozen_of_row wr _ 1 _ _ hb.1
      have HFIN : Hid _ := cut_fin HI.out HR'.out (by rw [HL.out]; exact HF.out) (by rw [HL.out]; exact HN.out) HC'.out
      clear hb HC'
      go_wp2
      go_end0
      exact ⟨rfl, HFIN.out⟩
end Go.Proofs.YtnedkpbpeolfoaaDoor
namespace Go.Proofs.YtnedkpbpeolfoaaDoor
abbrev Fnd := List It → It → Option (List It × Nat)
def nStep (fd : Fnd) (s : List It × List Nat) (k : Tk) : Option (List It × List Nat) := (fd s.1 (itemOf k (s.2.drop (s.2.length - takC k)))).map fun r => (r.1, s.2.take (s.2.length - takC k) ++ [r.2])
def nS (fd : Fnd) : List Tk → List It × List Nat → Option (List It × List Nat)
  | [], s => some s
  | k :: r, s => (nStep fd s k).bind (nS fd r)
theorem nS_app (fd : Fnd) : ∀ (a b : List Tk) (s : List It × List Nat), nS fd (a ++ b) s = (nS fd a s).bind (nS fd b)
  | [], b, s => rfl
  | k :: a, b, s => by
    show (nStep fd s k).bind (nS fd (a ++ b)) = ((nStep fd s k).bind (nS fd a)).bind (nS fd b)
    cases nStep fd s k with
    | none => rfl
    | some t => exact nS_app fd a b t
theorem nS_next (fd : Fnd) {ts : List Tk} {k : Nat} (h : k < ts.length) {s t : List It × List Nat} (hs : nS fd (ts.take k) s = some t) : nS fd (ts.take (k + 1)) s = nStep fd t ts[k] := by
  rw [List.take_add_one, List.getElem?_eq_getElem h]
  show nS fd (ts.take k ++ [ts[k]]) s = _
  rw [nS_app, hs]
  show (nStep fd t ts[k]).bind (nS fd []) = _
  cases nStep fd t ts[k] <;> rfl
theorem nS_off (fd : Fnd) {ts : List Tk} {k : Nat} {s : List It × List Nat} (h : nS fd (ts.take k) s = none) : nS fd ts s = none := by
  have : nS fd (ts.take k ++ ts.drop k) s = none := by rw [nS_app, h]; rfl
  rwa [List.take_append_drop] at this
theorem nS_len (fd : Fnd) : ∀ (ts : List Tk) (s t : List It × List Nat) (g : List Tr), s.2.length = g.length → nS fd ts s = some t → t.2.length = (gS ts g).length
  | [], s, t, g, h, e => by injection e with e; subst e; exact h
  | k :: ts, s, t, g, h, e => by
    have e' : (nStep fd s k).bind (nS fd ts) = some t := e
    cases hn : nStep fd s k with
    | none => rw [hn] at e'; cases e'
    | some u =>
      rw [hn] at e'
      show t.2.length = (gS ts (gStep g k)).length
      refine nS_len fd ts u t _ ?_ e'
      unfold nStep at hn
      cases hf : fd s.1 (itemOf k (s.2.drop (s.2.length - takC k))) with
      | none => rw [hf] at hn; cases hn
      | some r =>
        rw [hf] at hn
        injection hn with hn
        subst hn
        unfold gStep
        simp [h]
/-- A finder: what it finds is there, and what was there stays. -/
structure FdOk (fd : Fnd) : Prop where
  lt : ∀ {items x r}, fd items x = some r → r.2 < r.1.length
  pre : ∀ {items x r}, fd items x = some r → ∃ l, r.1 = items ++ l
/-- Keep's, and Find's. -/
def kpF (items : List It) (x : It) : Option (List It × Nat) := match items.findIdx? (· = x) with
  | some j => some (items, j)
  | none => if items.length = 4096 then none else some (items ++ [x], items.length)
theorem kpF_ok : FdOk kpF := by
  refine ⟨fun {items x r} h => ?_, fun {items x r} h => ?_⟩
  · unfold kpF at h
    split at h
    · rename_i j hj
      injection h with h
      subst h
      exact (List.findIdx?_eq_some_iff_getElem.1 hj).1
    · split at h
      · cases h
      · injection h with h
        subst h
        simp
  · unfold kpF at h
    split at h
    · injection h with h
      subst h
      exact ⟨[], by simp⟩
    · split at h
      · cases h
      · injection h with h
        subst h
        exact ⟨[x], rfl⟩
theorem kpF_add (items : List It) (x : It) (hl : items.length ≤ 4096) : kpF items x = if (addI items x).1.length ≤ 4096 then some (addI items x) else none := by
  unfold kpF addI
  cases items.findIdx? (· = x) with
  | some j => simp only; rw [if_pos hl]
  | none =>
    simp only [List.length_append, List.length_cons, List.length_nil]
    by_cases e : items.length = 4096
    · rw [if_pos e, if_neg (by omega)]
    · rw [if_neg e, if_pos (by omega)]
theorem tkS_mono : ∀ (ts : List Tk) (s : List It × List Nat), ∃ l, (tkS ts s).1 = s.1 ++ l
  | [], s => ⟨[], by simp [tkS]⟩
  | k :: ts, s => by
    obtain ⟨l, h⟩ := tkS_mono ts (tkStep s k)
    obtain ⟨l', h', _⟩ := addI_pre s.1 (itemOf k (s.2.drop (s.2.length - takC k)))
    refine ⟨l' ++ l, ?_⟩
    show (tkS ts (tkStep s k)).1 = _
    rw [h, show (tkStep s k).1 = s.1 ++ l' from h', List.append_assoc]
/-- Keep: all items, or too many. -/
theorem nS_keep : ∀ (ts : List Tk) (s : List It × List Nat), s.1.length ≤ 4096 → nS kpF ts s = if (tkS ts s).1.length ≤ 4096 then some (tkS ts s) else none
  | [], s, h => by show some s = _; rw [show tkS [] s = s from rfl, if_pos h]
  | k :: ts, s, h => by
    show (nStep kpF s k).bind (nS kpF ts) = _
    rw [show tkS (k :: ts) s = tkS ts (tkStep s k) from rfl]
    unfold nStep
    rw [kpF_add _ _ h]
    by_cases c : (addI s.1 (itemOf k (s.2.drop (s.2.length - takC k)))).1.length ≤ 4096
    · rw [if_pos c]
      show nS kpF ts (tkStep s k) = _
      exact nS_keep ts _ c
    · rw [if_neg c]
      obtain ⟨l, hl⟩ := tkS_mono ts (tkStep s k)
      rw [if_neg]
      · rfl
      · rw [hl, List.length_append]
        have : (tkStep s k).1.length = (addI s.1 (itemOf k (s.2.drop (s.2.length - takC k)))).1.length := rfl
        omega
end Go.Proofs.YtnedkpbpeolfoaaDoor
namespace Go.Proofs.YtnedkpbpeolfoaaDoor
open Go.RowKit Go.Maps
/-- A table, and the variable that leads to it, which a closure holds. -/
def TabB (t bx : Nat) (w : World) (G : Nat → Prop) (items : List It) : Prop :=
  ∃ F, TabI w F t items ∧ w.heap[bx]? = some (.cells #[tbV t] 95 (0, 0)) ∧ ¬ F bx ∧ ∀ k, G k ↔ (F k ∨ k = bx)
theorem TabB.lt {t bx : Nat} {w : World} {G : Nat → Prop} {items : List It} (h : TabB t bx w G items) : (∀ k, G k → k < w.heap.size) ∧ items.length ≤ 4096 := by
  obtain ⟨F, h1, h2, _, h4⟩ := h
  refine ⟨fun k hk => ?_, h1.few⟩
  rcases (h4 k).1 hk with hk | rfl
  · exact h1.lt k hk
  · exact (Array.getElem?_eq_some_iff.1 h2).1
theorem TabB.far {t bx : Nat} {w w' : World} {G : Nat → Prop} {items : List It} (h : TabB t bx w G items) (hb : ∀ k, G k → w'.heap[k]? = w.heap[k]?) : TabB t bx w' G items := by
  obtain ⟨F, h1, h2, h3, h4⟩ := h
  exact ⟨F, h1.far (fun k hk => hb k ((h4 k).2 (Or.inl hk))), (hb bx ((h4 bx).2 (Or.inr rfl))).trans h2, h3, h4⟩
/-- A call that changed the table. -/
theorem TabB.fr {t bx : Nat} {w w' : World} {F F' G : Nat → Prop} {items : List It} (h2 : w.heap[bx]? = some (.cells #[tbV t] 95 (0, 0))) (h3 : ¬ F bx) (h4 : ∀ k, G k ↔ (F k ∨ k = bx)) (hT : TabI w' F' t items) (fr : Fr w w' F F') : ∃ G', TabB t bx w' G' items ∧ Fr w w' G G' := by
  have hl := (Array.getElem?_eq_some_iff.1 h2).1
  refine ⟨fun k => F' k ∨ k = bx, ⟨F', hT, (fr.keep bx hl h3).trans h2, fr.out h3 hl, fun k => Iff.rfl⟩, ⟨fr.os, fr.tape, fr.output, fr.size, fun k hk hg => fr.keep k hk (fun hf => hg ((h4 k).2 (Or.inl hf))), fun k hk => ?_⟩⟩
  rcases hk with hk | hk
  · rcases fr.foot k hk with h | h
    · exact Or.inl ((h4 k).2 (Or.inl h))
    · exact Or.inr h
  · exact Or.inl ((h4 k).2 (Or.inr hk))
/-- What is asked of a finder. -/
def FindC (S : World → (Nat → Prop) → List It → Prop) (fd : Fnd) (fid bx : Nat) : Prop := ∀ (w : World) (G : Nat → Prop) (items : List It) (x : It), ItOk x → S w G items → Calls Tryd.prog fid #[itV x, .pointer (some ⟨bx, 0, none⟩)] w fun e w' =>
  (∃ r, fd items x = some r ∧ e = .returned (.tuple #[.int .i64 (r.2 : Int), .bool true]) ∧ ∃ G', S w' G' r.1 ∧ Fr w w' G G') ∨ (fd items x = none ∧ e = .returned (.tuple #[.int .i64 0, .bool false]) ∧ ∃ G', S w' G' items ∧ Fr w w' G G')
set_option maxRecDepth 100000 in
set_option maxHeartbeats 4000000 in
theorem Tryd.tkeep1_any (t bx : Nat) : FindC (TabB t bx) kpF 70 bx := by
  intro w G items x hx hS
  obtain ⟨F, h1, h2, h3, h4⟩ := hS
  obtain ⟨a, cap, mb, hr, _⟩ := h1.read
  have hb := below_new w (itO x)
  have hr1 := hr.up hb
  have c1 := hr1.c1
  have c2 := hr1.c2
  have cb : (w.alloc (itO x)).cell? ⟨bx, 0, none⟩ = some (.pointer (some ⟨t, 0, none⟩)) := kept_cell (cell_row h2 0) hb
  have hlk := fun m => (show NumOf ((w.alloc (itO x)).drewN m) mb items.length (posI items) from hr1.num).look hx
  have HFIN : Hid (∀ w', Below (w.alloc (itO x)).heap.size (w.alloc (itO x)) w' → ∃ G', TabB t bx w' G' items ∧ Fr w w' G G') := fun w' hw => TabB.fr h2 h3 h4 (h1.up (below_step hb hw)) (Fr.same (below_step hb hw))
  have HFIN2 : Hid (∀ (w1 w' : World) (F' : Nat → Prop), Below (w.alloc (itO x)).heap.size (w.alloc (itO x)) w1 → TabI w' F' t (items ++ [x]) → Fr w1 w' F F' → ∃ G', TabB t bx w' G' (items ++ [x]) ∧ Fr w w' G G') := fun w1 w' F' hw hT fr => by
    have hw1 := below_step hb hw
    refine TabB.fr h2 h3 h4 hT ⟨fr.os.trans hw1.os, fr.tape.trans hw1.tape, fr.output.trans hw1.output, Nat.le_trans hw1.size fr.size, fun k hk hf => (fr.keep k (Nat.lt_of_lt_of_le hk hw1.size) hf).trans (hw1.block k hk), fun k hk => ?_⟩
    rcases fr.foot k hk with h | h
    · exact Or.inl h
    · exact Or.inr (Nat.le_trans hw1.size h)
  have HI : Hid (∀ w', Below (w.alloc (itO x)).heap.size (w.alloc (itO x)) w' → TabI w' F t items) := fun w' hw => h1.up (below_step hb hw)
  have HX : Hid _ := hx
  clear h1 h2 h3 h4 hr hr1 hb hx
  cases hp : posI items x with
  | some j =>
    have HP : Hid (kpF items x = some (items, j)) := by
      show _ = _
      unfold kpF
      rw [show items.findIdx? (· = x) = some j from hp]
    rw [hp] at hlk
    clear hp HFIN2
    obtain ⟨op, p, xa, xb⟩ := x
    unfold itV at hlk
    unfold itO at c1 c2 cb HFIN hlk
    dsimp only [Option.getD, Option.isSome] at c1 c2 cb HFIN hlk
    unfold itV
    dsimp only
    go_enter Tryd.func70, Tryd.ntmps70
    go_upto_region 15 with fail
    go_quiet (fail)
    go_wp2
    go_ret2
    exact Or.inl ⟨_, HP.out, rfl, HFIN.out _ (below_drewN (Below.refl _ _) _)⟩
  | none =>
    rw [hp] at hlk
    by_cases hl : items.length = 4096
    · have HP : Hid (kpF items x = none) := by
        show _ = _
        unfold kpF
        rw [show items.findIdx? (· = x) = none from hp]
        simp only
        rw [if_pos hl]
      have hl' : ((items.length : Int) == 4096) = true := by rw [beq_iff_eq]; omega
      clear hp hl
      obtain ⟨op, p, xa, xb⟩ := x
      unfold itV at hlk
      unfold itO at c1 c2 cb HFIN hlk
      dsimp only [Option.getD, Option.isSome] at c1 c2 cb HFIN hlk
      unfold itV
      dsimp only
      go_enter Tryd.func70, Tryd.ntmps70
      go_upto_region 15 with fail
      go_quiet (fail)
      go_wp2
      go_ret2
      exact Or.inr ⟨HP.out, rfl, HFIN.out _ (below_drewN (Below.refl _ _) _)⟩
    · have HP : Hid (kpF items x = some (items ++ [x], items.length)) := by
        show _ = _
        unfold kpF
        rw [show items.findIdx? (· = x) = none from hp]
        simp only
        rw [if_neg hl]
      have hadd : ∀ w', Below (w.alloc (itO x)).heap.size (w.alloc (itO x)) w' → _ := fun w' hw => Tryd.tadd_any (HI.out w' hw) x HX.out (posI_none.1 hp) (by have := (HI.out w' hw).few; omega)
      have hl' : ((items.length : Int) == 4096) = false := by rw [beq_eq_false_iff_ne]; omega
      clear hp hl HFIN
      obtain ⟨op, p, xa, xb⟩ := x
      unfold itV at hlk hadd
      unfold itO at c1 c2 cb HFIN2 hlk hadd
      dsimp only [Option.getD, Option.isSome] at c1 c2 cb HFIN2 hlk hadd
      unfold itV
      dsimp only
      go_enter Tryd.func70, Tryd.ntmps70
      go_upto_region 15 with fail
      go_quiet (fail)
      have hw1 := below_drewN (Below.refl (w.alloc (.cells #[.int .u8 (op : Int), .int .u8 (p : Int), .int .i64 xa, .int .i64 xb] 81)).heap.size (w.alloc (.cells #[.int .u8 (op : Int), .int .u8 (p : Int), .int .i64 xa, .int .i64 xb] 81))) nq
      have hadd1 := hadd _ hw1
      clear hadd
      go_wp2_with fail
      refine hadd1.mono ?_
      rintro e w2 ⟨rfl, F2, hT2, fr2⟩
      have HG : Hid _ := HFIN2.out _ _ _ hw1 hT2 fr2
      clear hadd1 hT2 fr2 hw1
      go_wp2
      go_ret2
      exact Or.inl ⟨_, HP.out, rfl, HG.out⟩
end Go.Proofs.YtnedkpbpeolfoaaDoor
namespace Go.Proofs.YtnedkpbpeolfoaaDoor
open Go.RowKit Go.Maps
def encM (ns : List Nat) : List Value := ns.map fun n : Nat => Value.int .i64 (n : Int)
theorem encM_take (ks : List Nat) (m : Nat) : (encM ks).take (m * 1) = encM (ks.take m) := by simp [encM, List.map_take]
theorem Tryd.sizeIntM : (Tryd.prog.info? 3).map (·.size) = some 1 := by kernel_rfl
theorem Tryd.infoIntM : (Tryd.prog.info? 3).map (fun i => (i.zero, i.size, i.bytes)) = some (some (.int .i64 0), 1, 8) := by kernel_rfl
/-- A row of numbers of the call's own, cut in two. -/
theorem ns_cut {w : World} {base L m : Nat} {v : Value} {ns : List Nat} (h : w.ownsRow base 3 1 v L (encM ns)) (hm : m ≤ L) :
    ∃ a cap b, v = .slice a L cap ∧ (∀ w', (Instr.sliceAt 31 (.slice a L cap) none (some (.int .i64 (m : Int))) none).run Tryd.prog w' = .ok (.slice a m cap) w') ∧ w.ownsRow base 3 1 (.slice a m cap) m (encM (ns.take m)) ∧ (∀ w', (Instr.sliceAt 31 (.slice a L cap) (some (.int .i64 (m : Int))) none none).run Tryd.prog w' = .ok (.slice b (L - m) (cap - m)) w') ∧ NsSl w b (L - m) (cap - m) (ns.drop m) ∧ (Value.slice a m cap).ownBlock = v.ownBlock := by
  have hlen : ns.length = L := by have := h.1; simpa [encM] using this
  obtain ⟨a, cap, rfl, h1, h2, h3, h4, h0⟩ := own_pre h hm
  rw [encM_take] at h4
  obtain ⟨b, h5, h6, h7⟩ := cut_n (P := Tryd.prog) (T := 31) Tryd.underlying31 Tryd.sizeIntM a L cap m hm h1 h3
  refine ⟨a, cap, b, rfl, pre_n Tryd.underlying31 Tryd.sizeIntM a L cap m hm h1 h3, h4, h5, ?_, h0⟩
  have had : ∀ k, k < L - m → ∃ g cur, a = some ⟨g, 0, none⟩ ∧ w.heap[g]? = some (.cells cur 3 (0, 0)) ∧ cur.toList.take (L * 1) = encM ns ∧ adOf b k = ⟨g, m + k, none⟩ := fun k hk => by
    rcases h.2 with ⟨e, e0⟩ | ⟨g, cap', cur, e, _, hcell, _, _, _, htk⟩
    · omega
    · injection e with e1 _ _
      subst e1
      refine ⟨g, cur, rfl, hcell, htk, ?_⟩
      rw [h7 (by omega) _ rfl]
      simp [adOf, add_plain]
  refine ⟨by simp [hlen], by omega, by omega, fun n k w' hk hn => ?_, fun k hk => ?_, fun k hk => ?_, h6⟩
  · exact idx_of Tryd.underlying31 Tryd.sizeIntM (fun e => by have := h6 e; omega) k w' hk
  · obtain ⟨g, cur, _, hcell, htk, e⟩ := had k hk
    rw [e, cell_row hcell]
    have : cur.toList[m + k]? = (encM ns)[m + k]? := by rw [← htk, List.getElem?_take, if_pos (by omega)]
    rw [← Array.getElem?_toList, this]
    have hmk : m + k < ns.length := by omega
    simp [encM, List.getD_eq_getElem?_getD, hmk]
  · obtain ⟨g, cur, _, hcell, _, e⟩ := had k hk
    rw [e]
    exact (Array.getElem?_eq_some_iff.1 hcell).1
/-- What number's loop keeps. -/
structure NumSt (S : World → (Nat → Prop) → List It → Prop) (fd : Fnd) (w wr : World) (G G1 : Nat → Prop) (items items1 : List It) (a : Option Addr) (len cap : Nat) (ts : List Tk) (v : Value) (st : List Nat) (k : Nat) : Prop where
  s : S wr G1 items1
  fr : Fr w wr G G1
  tk : TkSl wr a len cap ts
  ap : 0 < len → ∀ x, a = some x → ¬ G1 x.block
  row : wr.ownsRow w.heap.size 3 1 v st.length (encM st)
  off : ∀ k, v.ownBlock = some k → ¬ G1 k
  ns : nS fd (ts.take k) (items, []) = some (items1, st)
  lt : ∀ j ∈ st, j < items1.length
  pre : ∃ l, items1 = items ++ l
  few : st.length ≤ k
def EntersT (F : FuncId) : Prop := ∀ args w, (callFunc F args).run Tryd.prog w = .ok (.enter F args) w
theorem item_ok {op p : Nat} {ns : List Nat} {N : Nat} (h1 : op < 256) (h2 : p < 256) (hN : N ≤ 4096) (h : ∀ j ∈ ns, j < N) : ItOk (itemOf (op, p) ns) := by
  match ns, h with
  | [], _ => exact ⟨h1, h2, by show (-1 : Int) ≤ -1; omega, by show (-1 : Int) < 100000000; omega, by show (-1 : Int) ≤ -1; omega, by show (-1 : Int) < 100000000; omega⟩
  | [x], h =>
    have := h x (by simp)
    exact ⟨h1, h2, by show (-1 : Int) ≤ (x : Int); omega, by show (x : Int) < 100000000; omega, by show (-1 : Int) ≤ -1; omega, by show (-1 : Int) < 100000000; omega⟩
  | x :: y :: _, h =>
    have := h x (by simp)
    have := h y (by simp)
    exact ⟨h1, h2, by show (-1 : Int) ≤ (x : Int); omega, by show (x : Int) < 100000000; omega, by show (-1 : Int) ≤ (y : Int); omega, by show (y : Int) < 100000000; omega⟩
theorem Fr.trans' {w w1 w2 : World} {F F1 F2 : Nat → Prop} (h : Fr w w1 F F1) (k : Fr w1 w2 F1 F2) : Fr w w2 F F2 :=
  ⟨k.os.trans h.os, k.tape.trans h.tape, k.output.trans h.output, Nat.le_trans h.size k.size, fun j hj hf => (k.keep j (Nat.lt_of_lt_of_le hj h.size) (fun h1 => by
    rcases h.foot j h1 with e | e
    · exact hf e
    · omega)).trans (h.keep j hj hf), fun j hj => by
    rcases k.foot j hj with e | e
    · exact h.foot j e
    · exact Or.inr (Nat.le_trans h.size e)⟩
theorem FindC.uni {S : World → (Nat → Prop) → List It → Prop} {fd : Fnd} {fid bx : Nat} (h : FindC S fd fid bx) (w : World) (G : Nat → Prop) (items : List It) (x : It) (hx : ItOk x) (hS : S w G items) : Calls Tryd.prog fid #[itV x, .pointer (some ⟨bx, 0, none⟩)] w fun e w' =>
    ∃ (j : Nat) (f : Bool), e = .returned (.tuple #[.int .i64 (j : Int), .bool f]) ∧ ((f = true ∧ ∃ items', fd items x = some (items', j) ∧ ∃ G', S w' G' items' ∧ Fr w w' G G') ∨ (f = false ∧ fd items x = none ∧ ∃ G', S w' G' items ∧ Fr w w' G G')) :=
  (h w G items x hx hS).mono fun e w' hq => by
    rcases hq with ⟨⟨r, j⟩, h1, h2, h3⟩ | ⟨h1, h2, h3⟩
    · exact ⟨j, true, h2, Or.inl ⟨rfl, r, h1, h3⟩⟩
    · exact ⟨0, false, h2, Or.inr ⟨rfl, h1, h3⟩⟩
set_option maxRecDepth 100000 in
set_option maxHeartbeats 8000000 in
theorem Tryd.tnumber_any (S : World → (Nat → Prop) → List It → Prop) (fd : Fnd) (fid bx : Nat) (hE : EntersT fid) (hFd : FindC S fd fid bx) (hP : FdOk fd)
    (hlt : ∀ {w G items}, S w G items → (∀ k, G k → k < w.heap.size) ∧ items.length ≤ 4096) (hfar : ∀ {w w' G items}, S w G items → (∀ k, G k → w'.heap[k]? = w.heap[k]?) → S w' G items)
    (w : World) (G : Nat → Prop) (items : List It) (a : Option Addr) (len cap : Nat) (ts : List Tk) (T : Tr) (hS : S w G items) (hT : TkSl w a len cap ts) (hA : 0 < len → ∀ x, a = some x → ¬ G x.block)
    (hl : 0 < len) (hg : GGood ts T) (hf : fewL false ts = true) :
    Calls Tryd.prog 69 #[.slice a len cap, .func (.func fid) #[] #[.pointer (some ⟨bx, 0, none⟩)]] w fun e w' => ∃ G' items', S w' G' items' ∧ Fr w w' G G' ∧ (∃ l, items' = items ++ l) ∧ (∃ k st, nS fd (ts.take k) (items, []) = some (items', st)) ∧
      ((∃ j st, nS fd ts (items, []) = some (items', st ++ [j]) ∧ e = .returned (.tuple #[.int .i64 (j : Int), .bool true])) ∨ (nS fd ts (items, []) = none ∧ e = .returned (.tuple #[.int .i64 0, .bool false]))) := by
  have HS0 : Hid (NumSt S fd w w G G items items a len cap ts (.slice none 0 0) [] 0) := ⟨hS, Fr.same (Below.refl _ _), hT, hA, ⟨rfl, Or.inl ⟨rfl, rfl⟩⟩, fun k hk => (by cases hk), rfl, fun j hj => (by simp at hj), ⟨[], by simp⟩, Nat.le_refl _⟩
  have HLEN : Hid (ts.length = len) := hT.hlen
  have HT0 : Hid _ := hT
  have HA0 : Hid _ := hA
  have HG : Hid _ := hg
  have hl2 : len ≤ 2048 := by have := hg.few; have := hT.hlen; omega
  have HF : Hid _ := hf
  have HFD : Hid _ := hFd
  have HLT : Hid (∀ {w G items}, S w G items → (∀ k, G k → k < w.heap.size) ∧ items.length ≤ 4096) := hlt
  have HFAR : Hid (∀ {w w' G items}, S w G items → (∀ k, G k → w'.heap[k]? = w.heap[k]?) → S w' G items) := hfar
  have HP : Hid _ := hP
  unfold EntersT at hE
  clear hS hT hA hg hf hFd hlt hfar hP
  go_enter Tryd.func69, Tryd.ntmps69
  go_wp2
  go_loopw [4, 5, 6, 12] (fun i b v c wr => ∃ k : Nat, k ≤ len ∧ c = .int .i64 k ∧ ∃ (j : Nat) (f : Bool), i = .int .i64 (j : Int) ∧ b = .bool f ∧ ∃ G1 items1 st, Hid (NumSt S fd w wr G G1 items items1 a len cap ts v st k) ∧ Hid (0 < k → f = true ∧ ∃ st', st = st' ++ [j])) (fun _ _ _ c _ => len - (intOf c).toNat)
  case atStart => exact ⟨0, Nat.zero_le _, rfl, 0, false, rfl, rfl, G, items, [], HS0, fun h => absurd h (by omega)⟩
  case round =>
    obtain ⟨k, hk, rfl, j, f, rfl, rfl, G1, items1, st, HN, HJ⟩ := hrel
    clear HS0
    have hfw := HN.out.few
    by_cases hlt : k < len
    · have hxl : k < ts.length := by have := HLEN.out; omega
      obtain ⟨g1, o1, s1, hi1, hx0, hx1, hg1, _⟩ := HN.out.tk.at Tryd.underlying44 Tryd.sizeTok k hlt
      have hidx := fun w' => hi1 len w' hlt
      clear hi1
      have HNX : Hid (nS fd (ts.take (k + 1)) (items, []) = nStep fd (items1, st) ts[k]) := nS_next fd hxl HN.out.ns
      have HOFF : Hid (nStep fd (items1, st) ts[k] = none → nS fd ts (items, []) = none) := fun h => nS_off fd (k := k + 1) (HNX.out.trans h)
      have hdep : takC ts[k] ≤ st.length := by
        have := (HG.out.ok k hxl).2
        rw [← nS_len fd (ts.take k) (items, []) (items1, st) [] rfl HN.out.ns] at this
        exact this
      obtain ⟨b, hfa⟩ := few_at hxl HF.out
      have hok := HN.out.tk.ok ts[k] (List.getElem_mem hxl)
      generalize ts[k] = q at *
      obtain ⟨op, p⟩ := q
      dsimp only at hx0 hx1 HNX hfa hok
      obtain ⟨htn, h23, n3, n9, n10, n13, n14, _⟩ := few_takes hfa
      have hc := tak_of htn
      clear hfa htn
      have hTk := fun w' => Tryd.ttakes_any op w' h23 n3 n9 n10
      rw [← hc] at hTk
      have hn2 : takC (op, p) ≤ 2 := by rw [hc]; exact takO_le op
      have HSTEP : Hid (nStep fd (items1, st) (op, p) = (fd items1 (itemOf (op, p) (st.drop (st.length - takC (op, p))))).map fun r => (r.1, st.take (st.length - takC (op, p)) ++ [r.2])) := rfl
      clear hc
      generalize takC (op, p) = n at *
      obtain ⟨M, hM⟩ : ∃ M, M = st.length - n := ⟨_, rfl⟩
      rw [← hM] at HSTEP
      obtain ⟨av, cv, bv, rfl, hpre, hown, hcut, hns, hob⟩ := ns_cut HN.out.row (m := M) (by omega)
      rw [show st.length - M = n by omega] at hcut hns
      have HO : Hid _ := hown
      have HOB : Hid _ := hob
      have HIX : Hid (ItOk (itemOf (op, p) (st.drop M))) := item_ok hok.1 hok.2 (HLT.out HN.out.s).2 (fun j hj => HN.out.lt j (List.mem_of_mem_drop hj))
      have hb1 := below_new wr (.cells #[.int .u8 (op : Int), .int .u8 (p : Int)] 49)
      have hwr : IntKind.i64.wrap ((st.length : Int) - (n : Int)) = (M : Int) := by rw [IntKind.wrap_i64]; omega
      have hML : M ≤ st.length := by omega
      have HIT : Hid (∀ w', Below wr.heap.size wr w' → Calls Tryd.prog 80 #[.agg #[.int .u8 (op : Int), .int .u8 (p : Int)], .slice bv n (cv - M)] w' fun e w'' => e = .returned (itV (itemOf (op, p) (st.drop M))) ∧ Below w'.heap.size w' w'') := fun w' hb => Tryd.titemOf_any op p bv n (cv - M) (st.drop M) w' (hns.up hb) hn2
      have HFI : Hid (∀ w', Below wr.heap.size wr w' → S w' G1 items1) := fun w' hb => HFAR.out HN.out.s fun k hk => hb.block k ((HLT.out HN.out.s).1 k hk)
      clear hns hown hob hM
      go_wp2_with (go_at_call 79; refine (hTk _).mono ?_; rintro e w' ⟨rfl, rfl⟩)
      have ct0 : (wr.alloc (.cells #[.int .u8 (op : Int), .int .u8 (p : Int)] 49)).cell? ⟨wr.heap.size, 0, none⟩ = some (.int .u8 (op : Int)) := cell_row (MapKept.heap_alloc wr _).1 0
      have ct1 : (wr.alloc (.cells #[.int .u8 (op : Int), .int .u8 (p : Int)] 49)).cell? ⟨wr.heap.size, 1, none⟩ = some (.int .u8 (p : Int)) := cell_row (MapKept.heap_alloc wr _).1 1
      have hitem := HIT.out (wr.alloc (.cells #[.int .u8 (op : Int), .int .u8 (p : Int)] 49)).drew hb1.drew
      have HB1 : Hid _ := hb1.drew
      have hz1 : (wr.alloc (.cells #[.int .u8 (op : Int), .int .u8 (p : Int)] 49)).heap.size = wr.heap.size + 1 := by simp
      clear hb1
      generalize st.drop M = dk at *
      generalize itemOf (op, p) dk = x at *
      go_region_with (first
        | (go_at_call 80; (with_reducible refine hitem.mono ?_); rintro e w2 ⟨rfl, hb2⟩; have hfind := FindC.uni HFD.out w2 G1 items1 x HIX.out (HFI.out w2 (below_step HB1.out hb2)))
        | ((with_reducible refine hfind.mono ?_); rintro e w3 ⟨j3, f3, rfl, hw3⟩)
        | fail)
      all_goals
        have HB2 : Hid (Below wr.heap.size wr w2) := below_step HB1.out hb2
        clear hitem hfind hb2 HB1 ct0 ct1 HIT HFI hE hcut hpre hidx hx0 hx1 hTk
        rcases hw3 with ⟨rfl, items2, hfd, G2, hS2, fr2⟩ | ⟨rfl, hfd, G2, hS2, fr2⟩
        · have HSTEP2 : Hid (nS fd (ts.take (k + 1)) (items, []) = some (items2, st.take M ++ [j3])) := by
            show _ = _
            rw [HNX.out, HSTEP.out, hfd]; rfl
          have hoff1 : ∀ q, (Value.slice av M cv).ownBlock = some q → ¬ G1 q := fun q hq => HN.out.off q (HOB.out ▸ hq)
          have HO3 : Hid (w3.ownsRow w.heap.size 3 1 (.slice av M cv) M (encM (st.take M))) := fr2.own (owns_up HO.out HB2.out) hoff1
          have hlt1 := own_lt HO.out
          have HOFF3 : Hid (∀ q, (Value.slice av M cv).ownBlock = some q → ¬ G2 q) := fun q hq => fr2.out (hoff1 q hq) (Nat.lt_of_lt_of_le (hlt1 q hq) HB2.out.size)
          have HFR : Hid (Fr w w3 G G2) := HN.out.fr.trans' ((Fr.same HB2.out).trans' fr2)
          have HTK : Hid (TkSl w3 a len cap ts) := fr2.tks (HN.out.tk.up HB2.out) HN.out.ap
          have HAP : Hid (0 < len → ∀ x, a = some x → ¬ G2 x.block) := fun h x hx => by
            subst hx
            have := (HN.out.tk.up HB2.out).lt h
            exact fr2.out (HN.out.ap h x rfl) this
          have HS3 : Hid _ := hS2
          obtain ⟨l2, hl2'⟩ := HP.out.pre hfd
          have hj3 : j3 < items2.length := HP.out.lt hfd
          have HPRE : Hid (∃ l, items2 = items ++ l) := by
            obtain ⟨l, hl⟩ := HN.out.pre
            exact ⟨l ++ l2, by rw [show items2 = items1 ++ l2 from hl2', hl, List.append_assoc]⟩
          have HLL : Hid (∀ j ∈ st.take M ++ [j3], j < items2.length) := fun j hj => by
            rcases List.mem_append.1 hj with hj | hj
            · have := HN.out.lt j (List.mem_of_mem_take hj)
              rw [show items2 = items1 ++ l2 from hl2', List.length_append]; omega
            · simp at hj; omega
          have HTL : Hid ((st.take M).length = M) := by show _ = _; simp; omega
          have hz3 := fr2.size
          have hwz := HN.out.fr.size
          have hw2z := HB2.out.size
          clear hfd hS2 fr2 hoff1 hlt1 HNX HSTEP HOFF HN HJ HO HOB hl2' HIX HB2
          generalize st.take M = tk at *
          have hc4 : (w3.alloc (.cells #[.int .i64 (j3 : Int)] 3)).cell? ⟨w3.heap.size, 0, none⟩ = some (.int .i64 (j3 : Int)) := cell_row (MapKept.heap_alloc w3 _).1 0
          have HO4 : Hid ((w3.alloc (.cells #[.int .i64 (j3 : Int)] 3)).ownsRow w.heap.size 3 1 (.slice av M cv) M (encM tk)) := World.ownsRow.alloc HO3.out _
          have hz4 : w.heap.size ≤ (w3.alloc (.cells #[.int .i64 (j3 : Int)] 3)).heap.size := by simp; omega
          go_wp2_with (at_builtin; refine append_v1 Tryd.underlying31 Tryd.infoIntM rfl (by decide) rfl _ _ rfl w.heap.size _ M (encM tk) (.int .i64 (j3 : Int)) w3.heap.size rfl rfl HO4.out hc4 rfl (by omega) hz4 ?_)
          intro v4 w4 hown4 hgr4 hloc4
          have hbn := below_new w3 (.cells #[.int .i64 (j3 : Int)] 3)
          have hge := own_ge HO3.out
          have hG2 := (HLT.out HS3.out).1
          have hs4 := hgr4.size
          have hsn := hbn.size
          have HFR4 : Hid (Fr w w4 G G2) := ⟨hgr4.os.trans (hbn.os.trans HFR.out.os), hgr4.tape.trans (hbn.tape.trans HFR.out.tape), hgr4.output.trans (hbn.output.trans HFR.out.output), by omega, fun q hq hg => (hgr4.block q (by omega) (fun e => by have := hge q e.symm; omega)).trans ((hbn.block q (by omega)).trans (HFR.out.keep q hq hg)), HFR.out.foot⟩
          have HNEW : Hid (NumSt S fd w w4 G G2 items items2 a len cap ts v4 (tk ++ [j3]) (k + 1)) := by
            refine ⟨HFAR.out HS3.out fun q hq => (hgr4.block q (by have := hG2 q hq; omega) (fun e => HOFF3.out q e.symm hq)).trans (hbn.block q (hG2 q hq)), HFR4.out, HFR4.out.tks HT0.out HA0.out, HAP.out, ?_, fun q hq hg => ?_, HSTEP2.out, HLL.out, HPRE.out, ?_⟩
            · rw [List.length_append, HTL.out]
              unfold encM at hown4 ⊢
              rw [List.map_append]; exact hown4
            · rcases hloc4 with e | e
              · exact HOFF3.out q (e ▸ hq) hg
              · rw [e] at hq; injection hq with hq; have := hG2 q hg; omega
            · rw [List.length_append, HTL.out]; simp; omega
          clear hown4 hgr4 hloc4 hc4 HO4 HO3 hbn hge hG2
          go_wp2
          go_roundw
          case rel => exact ⟨k + 1, by omega, by go_num, j3, true, rfl, rfl, G2, items2, tk ++ [j3], HNEW, fun _ => ⟨rfl, tk, rfl⟩⟩
          case measure => simp [intOf] <;> omega
        · have HNO : Hid (nS fd ts (items, []) = none) := HOFF.out (by rw [HSTEP.out, hfd]; rfl)
          have HFR : Hid (Fr w w3 G G2) := HN.out.fr.trans' ((Fr.same HB2.out).trans' fr2)
          have HS3 : Hid _ := hS2
          have HPRE : Hid _ := HN.out.pre
          have HSO : Hid _ := HN.out.ns
          clear hfd hS2 fr2 HNX HSTEP HOFF HN HJ HO HOB HIX HB2
          go_wp2
          go_ret2
          exact ⟨G2, items1, HS3.out, HFR.out, HPRE.out, ⟨_, _, HSO.out⟩, Or.inr ⟨HNO.out, rfl⟩⟩
    · obtain rfl : k = len := by omega
      obtain ⟨rfl, st', rfl⟩ := HJ.out hl
      have HYES : Hid (nS fd ts (items, []) = some (items1, st' ++ [j])) := by
        have := HN.out.ns
        rw [List.take_of_length_le (by have := HLEN.out; omega)] at this
        exact this
      have HFR : Hid _ := HN.out.fr
      have HS3 : Hid _ := HN.out.s
      have HPRE : Hid _ := HN.out.pre
      have HSO : Hid _ := HN.out.ns
      clear HN HJ hfw
      go_wp2
      go_ret2
      exact ⟨G1, items1, HS3.out, HFR.out, HPRE.out, ⟨_, _, HSO.out⟩, Or.inl ⟨j, st', HYES.out, rfl⟩⟩
end Go.Proofs.YtnedkpbpeolfoaaDoor
namespace Go.Proofs.YtnedkpbpeolfoaaDoor
open Go.RowKit Go.Maps
def txOf (f : List Tk) : ByteArray := ⟨(f.map fun k => UInt8.ofNat (k.1 * 8 + k.2)).toArray⟩
def SmT (f : List Tk) : Prop := ∀ k ∈ f, k.1 ≤ 23 ∧ k.2 ≤ 7
theorem byte_inj {a b : Tk} (ha : a.1 ≤ 23 ∧ a.2 ≤ 7) (hb : b.1 ≤ 23 ∧ b.2 ≤ 7) (h : UInt8.ofNat (a.1 * 8 + a.2) = UInt8.ofNat (b.1 * 8 + b.2)) : a = b := by
  have := congrArg UInt8.toNat h
  simp at this
  obtain ⟨a1, a2⟩ := a
  obtain ⟨b1, b2⟩ := b
  simp only [Prod.mk.injEq]
  dsimp only at *
  omega
theorem txOf_inj : ∀ {f g : List Tk}, SmT f → SmT g → txOf f = txOf g → f = g := by
  intro f g hf hg h
  have h1 : (f.map fun k => UInt8.ofNat (k.1 * 8 + k.2)) = g.map fun k => UInt8.ofNat (k.1 * 8 + k.2) := by
    have := congrArg (fun x : ByteArray => x.data.toList) h
    simpa [txOf] using this
  clear h
  induction f generalizing g with
  | nil => cases g with
    | nil => rfl
    | cons y g => simp at h1
  | cons x f ih => cases g with
    | nil => simp at h1
    | cons y g =>
      rw [List.map_cons, List.map_cons] at h1
      injection h1 with e1 e2
      rw [byte_inj (hf x (by simp)) (hg y (by simp)) e1, ih (fun k hk => hf k (by simp [hk])) (fun k hk => hg k (by simp [hk])) e2]
/-- The numbers of what was met, by their texts. -/
def nmF (M : Mt) (s : ByteArray) : Option Nat := M.findIdx? fun f => decide (txOf f = s)
theorem findIdx_same {p q : List Tk → Bool} : ∀ {M : Mt}, (∀ f ∈ M, p f = q f) → M.findIdx? p = M.findIdx? q
  | [], _ => rfl
  | f :: M, h => by
    rw [List.findIdx?_cons, List.findIdx?_cons, h f (by simp), findIdx_same fun g hg => h g (by simp [hg])]
theorem nmF_is {M : Mt} (hM : ∀ f ∈ M, SmT f) {g : List Tk} (hg : SmT g) : nmF M (txOf g) = M.findIdx? (· == g) := by
  refine findIdx_same fun f hf => ?_
  by_cases e : f = g
  · subst e; simp
  · have : ¬ txOf f = txOf g := fun h => e (txOf_inj (hM f hf) hg h)
    simp [e, this]
theorem nmF_more {M : Mt} (hM : ∀ f ∈ M, SmT f) {g : List Tk} (hg : SmT g) (hn : M.findIdx? (· == g) = none) (y : ByteArray) : (if y = txOf g then some M.length else nmF M y) = nmF (M ++ [g]) y := by
  by_cases e : y = txOf g
  · subst e
    rw [if_pos rfl]
    unfold nmF
    rw [List.findIdx?_append, show M.findIdx? (fun f => decide (txOf f = txOf g)) = none from (nmF_is hM hg).trans hn]
    simp
  · rw [if_neg e]
    unfold nmF
    rw [List.findIdx?_append]
    have : ¬ txOf g = y := fun h => e h.symm
    simp [this]
theorem PtR.setRest {w : World} {b mp n j : Nat} {T : TypeId} {rest : List Value} {vi vt : Value} {items : List It} {texts : List ByteArray} {f : It → Option Nat} (h : PtR w b T rest vi mp vt items texts n f) (v : Value) :
    PtR (w.setCell ⟨b, 3 + j, none⟩ v) b T (rest.set j v) vi mp vt items texts n f := by
  have st : ∀ k, k ≠ b → (w.setCell ⟨b, 3 + j, none⟩ v).heap[k]? = w.heap[k]? := fun k hk => Below.heap_setCell _ _ _ _ hk
  refine ⟨h.ty, ?_, owns_off h.ri fun k hk => st k (fun e => h.ib (e ▸ hk)), owns_off h.rt fun k hk => st k (fun e => h.tb (e ▸ hk)), h.num.far (st mp h.mb)⟩
  rw [heap_setCell_same w b (3 + j) _ _ v h.blk]
  unfold ptA
  congr 2
  rw [show 3 + j = j + 1 + 1 + 1 by omega]
  simp
theorem PtO.setRest {T0 : Tr} {w : World} {G : Nat → Prop} {b j : Nat} {T : TypeId} {rest : List Value} {items : List It} (h : PtO T0 w G b T rest items) (v : Value) :
    PtO T0 (w.setCell ⟨b, 3 + j, none⟩ v) G b T (rest.set j v) items := by
  obtain ⟨texts, hp, ht⟩ := h.ex
  obtain ⟨vi, mp, vt, hr, hG⟩ := hp.ex
  exact ⟨h.t0, h.low, h.cov, texts, ⟨hp.nd, hp.tl, hp.few, hp.ok, hp.tok, vi, mp, vt, hr.setRest v, hG⟩, ht⟩
theorem PtO.blk {T0 : Tr} {w : World} {G : Nat → Prop} {b : Nat} {T : TypeId} {rest : List Value} {items : List It} (h : PtO T0 w G b T rest items) : ∃ vi mp vt, w.heap[b]? = some (.cells (ptA vi mp vt rest) T (0, 0)) ∧ G b := by
  obtain ⟨texts, hp, ht⟩ := h.ex
  obtain ⟨vi, mp, vt, hr, hG⟩ := hp.ex
  exact ⟨vi, mp, vt, hr.blk, (hG b).2 (Or.inl rfl)⟩
def pgRest (p mn : Nat) (vm vs : Value) : List Value := [pgV p, .map (some mn), vm, vs]
/-- What was met, as numbers of items. -/
def MetOk (items : List It) (met : List Nat) (M : Mt) : Prop := met.length = M.length ∧ ∀ (n i : Nat), met[n]? = some i → ∃ S : Tr, Rep items i S ∧ M[n]? = some S.flat
theorem MetOk.pre {items items' : List It} {met : List Nat} {M : Mt} (h : MetOk items met M) (hp : items <+: items') : MetOk items' met M := ⟨h.1, fun n i hi => by
  obtain ⟨S, h1, h2⟩ := h.2 n i hi
  exact ⟨S, h1.pre hp, h2⟩⟩
/-- What of a prog lies beside its parts. -/
structure PgR (T0 : Tr) (w : World) (G : Nat → Prop) (p mn : Nat) (vm vs : Value) (items : List It) (met : List Nat) (M : Mt) : Prop where
  po : PtO T0 w G p 33 (pgRest p mn vm vs) items
  row : w.ownsRow 0 3 1 vm met.length (encM met)
  num : NumS w mn met.length (nmF M)
  met : MetOk items met M
  ng : ¬ G mn
  nv : ∀ k, vm.ownBlock = some k → ¬ G k
def FQ (G : Nat → Prop) (mn : Nat) (vm : Value) (k : Nat) : Prop := G k ∨ k = mn ∨ vm.ownBlock = some k
/-- A prog in memory. -/
structure PgO (T0 : Tr) (w : World) (F : Nat → Prop) (p : Nat) (vs : Value) (items : List It) (M : Mt) : Prop where
  few : M.length ≤ 64
  nd : M.Nodup
  of : ∀ f ∈ M, ∃ S, KT S ∧ InC T0 S ∧ f = S.flat
  ex : ∃ G mn vm met, PgR T0 w G p mn vm vs items met M ∧ ∀ k, F k ↔ FQ G mn vm k
section
variable {T0 : Tr} {w : World} {G : Nat → Prop} {p mn : Nat} {vm vs : Value} {items : List It} {met : List Nat} {M : Mt}
theorem PgR.vn (h : PgR T0 w G p mn vm vs items met M) : vm.ownBlock ≠ some mn := by
  obtain ⟨es, c, hm⟩ := h.num.isMap
  exact own_not h.row hm fun cs e => by cases e
theorem PgR.lt (h : PgR T0 w G p mn vm vs items met M) : ∀ k, FQ G mn vm k → k < w.heap.size := fun k hk => by
  rcases hk with hk | rfl | hk
  · exact h.po.lt k hk
  · exact h.num.lt
  · exact own_lt h.row k hk
theorem PgR.far {w' : World} (h : PgR T0 w G p mn vm vs items met M) (hb : ∀ k, FQ G mn vm k → w'.heap[k]? = w.heap[k]?) : PgR T0 w' G p mn vm vs items met M :=
  ⟨h.po.far fun k hk => hb k (Or.inl hk), owns_off h.row fun k hk => hb k (Or.inr (Or.inr hk)), h.num.far (hb mn (Or.inr (Or.inl rfl))), h.met, h.ng, h.nv⟩
theorem PgR.c4 (h : PgR T0 w G p mn vm vs items met M) : w.cell? ⟨p, 4, none⟩ = some (.map (some mn)) := by
  obtain ⟨vi, mp, vt, hb, _⟩ := h.po.blk
  exact cell_row hb 4
theorem PgR.c3 (h : PgR T0 w G p mn vm vs items met M) : w.cell? ⟨p, 3, none⟩ = some (.pointer (some ⟨p, 0, none⟩)) := by
  obtain ⟨vi, mp, vt, hb, _⟩ := h.po.blk
  exact cell_row hb 3
theorem PgR.c5 (h : PgR T0 w G p mn vm vs items met M) : w.cell? ⟨p, 5, none⟩ = some vm := by
  obtain ⟨vi, mp, vt, hb, _⟩ := h.po.blk
  exact cell_row hb 5
theorem PgR.c6 (h : PgR T0 w G p mn vm vs items met M) : w.cell? ⟨p, 6, none⟩ = some vs := by
  obtain ⟨vi, mp, vt, hb, _⟩ := h.po.blk
  exact cell_row hb 6
theorem PgR.gp (h : PgR T0 w G p mn vm vs items met M) : G p := by
  obtain ⟨vi, mp, vt, hb, hg⟩ := h.po.blk
  exact hg
theorem PgR.fz (h : PgR T0 w G p mn vm vs items met M) (j : Nat) : w.frozen? ⟨p, j, none⟩ = false := by
  obtain ⟨vi, mp, vt, hb, _⟩ := h.po.blk
  exact frozen_of_row w p j _ _ hb
/-- The parts have changed. -/
theorem PgR.part {w' : World} {G' : Nat → Prop} {items' : List It} (h : PgR T0 w G p mn vm vs items met M) (hp : PtO T0 w' G' p 33 (pgRest p mn vm vs) items') (hi : items <+: items') (fr : Fr w w' G G') : PgR T0 w' G' p mn vm vs items' met M ∧ Fr w w' (FQ G mn vm) (FQ G' mn vm) := by
  refine ⟨⟨hp, owns_off h.row fun k hk => fr.keep k (own_lt h.row k hk) (h.nv k hk), h.num.far (fr.keep mn h.num.lt h.ng), h.met.pre hi, fr.out h.ng h.num.lt, fun k hk => fr.out (h.nv k hk) (own_lt h.row k hk)⟩, fr.os, fr.tape, fr.output, fr.size, fun k hk hF => fr.keep k hk fun e => hF (Or.inl e), fun k hk => ?_⟩
  rcases hk with hk | hk | hk
  · exact (fr.foot k hk).imp Or.inl id
  · exact Or.inl (Or.inr (Or.inl hk))
  · exact Or.inl (Or.inr (Or.inr hk))
/-- The numbers have changed. -/
theorem PgR.put {w' : World} (h : PgR T0 w G p mn vm vs items met M) (hg : w.grownBy w' (some mn)) : PtO T0 w' G p 33 (pgRest p mn vm vs) items ∧ w'.ownsRow 0 3 1 vm met.length (encM met) ∧ Fr w w' (FQ G mn vm) (FQ G mn vm) := by
  have st : ∀ k, k < w.heap.size → k ≠ mn → w'.heap[k]? = w.heap[k]? := fun k hk hne => hg.block k hk (fun e => hne (by injection e))
  exact ⟨h.po.far fun k hk => st k (h.po.lt k hk) (fun e => h.ng (e ▸ hk)), owns_off h.row fun k hk => st k (own_lt h.row k hk) (fun e => h.vn (e ▸ hk)), hg.os, hg.tape, hg.output, hg.size, fun k hk hF => st k hk fun e => hF (Or.inr (Or.inl e)), fun _ hk => Or.inl hk⟩
end
section
variable {T0 : Tr} {w : World} {F : Nat → Prop} {p : Nat} {vs : Value} {items : List It} {M : Mt}
theorem PgO.lt (h : PgO T0 w F p vs items M) : ∀ k, F k → k < w.heap.size := fun k hk => by
  obtain ⟨G, mn, vm, met, hr, hF⟩ := h.ex
  exact hr.lt k ((hF k).1 hk)
theorem PgO.far {w' : World} (h : PgO T0 w F p vs items M) (hb : ∀ k, F k → w'.heap[k]? = w.heap[k]?) : PgO T0 w' F p vs items M := by
  obtain ⟨G, mn, vm, met, hr, hF⟩ := h.ex
  exact ⟨h.few, h.nd, h.of, G, mn, vm, met, hr.far fun k hk => hb k ((hF k).2 hk), hF⟩
theorem PgO.up {w' : World} (h : PgO T0 w F p vs items M) (hb : Below w.heap.size w w') : PgO T0 w' F p vs items M := h.far fun k hk => hb.block k (h.lt k hk)
theorem PgO.small (h : PgO T0 w F p vs items M) (t0 : KT T0) : ∀ f ∈ M, SmT f := fun f hf => by
  obtain ⟨S, _, h2, rfl⟩ := h.of f hf
  exact inC_op t0 h2
theorem PgO.t0 (h : PgO T0 w F p vs items M) : T0k T0 := by
  obtain ⟨G, mn, vm, met, hr, hF⟩ := h.ex
  exact hr.po.t0
theorem PgO.good (h : PgO T0 w F p vs items M) : GoodM M := ⟨fun f hf => by
  obtain ⟨S, h1, _, rfl⟩ := h.of f hf
  exact ⟨S, h1, rfl⟩, h.few⟩
end
/-- What meet answers. -/
def MetR (T0 : Tr) (w : World) (F : Nat → Prop) (p : Nat) (vs : Value) (items : List It) (M : Mt) (S : Tr) (e : Ending) (w' : World) : Prop :=
  ∃ F', Fr w w' F F' ∧ ((∃ (n : Nat) (M' : Mt), meetM S.flat M = some ([2 ^ n], M') ∧ n < 64 ∧ e = .returned (.int .i64 (n : Int)) ∧ PgO T0 w' F' p vs items M') ∨ (meetM S.flat M = none ∧ e = .panicked thrownP ∧ PgO T0 w' F' p vs items M))
theorem met_at {items : List It} {M : Mt} {met : List Nat} (h : MetOk items met M) {n : Nat} {g : List Tk} (hn : M.findIdx? (· == g) = some n) : n < met.length := by
  have := (List.findIdx?_eq_some_iff_getElem.1 hn).1
  rw [h.1]; exact this
/-- A new obligation is among them. -/
theorem PgR.met1 {T0 : Tr} {w w5 : World} {G : Nat → Prop} {p mn : Nat} {vm vs v5 : Value} {items : List It} {met : List Nat} {M : Mt} {S : Tr} {i : Nat} (t0 : KT T0) (hM : ∀ f ∈ M, SmT f) (hS : InC T0 S) (hi : Rep items i S) (hno : M.findIdx? (· == S.flat) = none)
    (hpo : PtO T0 w G p 33 (pgRest p mn vm vs) items) (hrow : w.ownsRow 0 3 1 vm met.length (encM met)) (hnum : NumS w mn (met.length + 1) (fun y => if y = txB S then some met.length else nmF M y)) (hmet : MetOk items met M) (hng : ¬ G mn) (hnv : ∀ k, vm.ownBlock = some k → ¬ G k)
    (hg : (w.alloc (.cells #[.int .i64 (i : Int)] 3)).grownBy w5 vm.ownBlock) (ho : w5.ownsRow 0 3 1 v5 (met.length + 1) (encM met ++ [.int .i64 (i : Int)])) (hl : v5.ownBlock = vm.ownBlock ∨ v5.ownBlock = some (w.heap.size + 1)) :
    w5.cell? ⟨p, 5, none⟩ = some vm ∧ w5.frozen? ⟨p, 5, none⟩ = false ∧ PgR T0 (w5.setCell ⟨p, 5, none⟩ v5) G p mn v5 vs items (met ++ [i]) (M ++ [S.flat]) ∧ Fr w (w5.setCell ⟨p, 5, none⟩ v5) (FQ G mn vm) (FQ G mn v5) := by
  have hb1 := below_new w (.cells #[.int .i64 (i : Int)] 3)
  have hz : (w.alloc (.cells #[.int .i64 (i : Int)] 3)).heap.size = w.heap.size + 1 := by simp
  have hs := hg.size
  have st : ∀ k, k < w.heap.size → vm.ownBlock ≠ some k → w5.heap[k]? = w.heap[k]? := fun k hk hne => (hg.block k (by omega) (fun e => hne e.symm)).trans (hb1.block k hk)
  have hGv : ∀ k, G k → vm.ownBlock ≠ some k := fun k hk e => hnv k e hk
  have hpo5 := hpo.far (w' := w5) fun k hk => st k (hpo.lt k hk) (hGv k hk)
  obtain ⟨es, cl, hmap⟩ := hnum.isMap
  have hvn : vm.ownBlock ≠ some mn := own_not hrow hmap fun cs e => by cases e
  obtain ⟨vi, mp, vt, hb5, hgp⟩ := hpo5.blk
  have hv5 : ∀ k, v5.ownBlock = some k → ¬ G k := fun k hk hG => by
    rcases hl with e | e
    · rw [e] at hk; exact hnv k hk hG
    · rw [e] at hk; injection hk with hk; have := hpo.lt k hG; omega
  have s6 : ∀ k, k ≠ p → (w5.setCell ⟨p, 5, none⟩ v5).heap[k]? = w5.heap[k]? := fun k hk => Below.heap_setCell _ _ _ _ hk
  refine ⟨cell_row hb5 5, frozen_of_row w5 p 5 _ _ hb5, ⟨hpo5.setRest (j := 2) v5, ?_, ?_, ⟨by simp [hmet.1], fun n j hj => ?_⟩, hng, hv5⟩, hg.os, hg.tape, hg.output, by simp; omega, fun k hk hF => ?_, fun k hk => ?_⟩
  · rw [List.length_append]
    have : encM (met ++ [i]) = encM met ++ [.int .i64 (i : Int)] := by simp [encM]
    rw [this]
    exact owns_off ho fun k hk => s6 k (fun e => hv5 k hk (e ▸ hgp))
  · rw [List.length_append]
    refine ((hnum.far (w' := w5.setCell ⟨p, 5, none⟩ v5) ((s6 mn (fun e => hng (e ▸ hgp))).trans (st mn hnum.lt hvn))).alike fun y _ => ?_)
    rw [hmet.1]
    exact nmF_more hM (inC_op t0 hS) hno y
  · by_cases hlt : n < met.length
    · rw [List.getElem?_append_left hlt] at hj
      obtain ⟨S', h1, h2⟩ := hmet.2 n j hj
      exact ⟨S', h1, by rw [List.getElem?_append_left (by rw [← hmet.1]; exact hlt)]; exact h2⟩
    · have hn : n = met.length := by
        have := (List.getElem?_eq_some_iff.1 hj).1
        simp at this
        omega
      subst hn
      simp at hj
      subst hj
      exact ⟨S, hi, by rw [hmet.1]; simp⟩
  · exact (s6 k fun e => hF (Or.inl (e ▸ hgp))).trans (st k hk fun e => hF (Or.inr (Or.inr e)))
  · rcases hk with hk | hk | hk
    · exact Or.inl (Or.inl hk)
    · exact Or.inl (Or.inr (Or.inl hk))
    · rcases hl with e | e
      · rw [e] at hk; exact Or.inl (Or.inr (Or.inr hk))
      · rw [e] at hk; injection hk with hk; right; omega
set_option maxRecDepth 100000 in
set_option maxHeartbeats 8000000 in
theorem Tryd.pmeet_any {T0 : Tr} {w : World} {F : Nat → Prop} {p : Nat} {vs : Value} {items : List It} {M : Mt} (h : PgO T0 w F p vs items M) (i : Nat) (S : Tr) (hi : Rep items i S) (hS : InC T0 S) (kS : KT S) :
    Calls Tryd.prog 58 #[.pointer (some ⟨p, 0, none⟩), .int .i64 (i : Int)] w (MetR T0 w F p vs items M S) := by
  obtain ⟨G, mn, vm, met, hr, hF⟩ := h.ex
  have t0 := h.t0
  have hsm := h.small t0.kt
  have jt := Tryd.ptext_any hr.po i S hi hS
  have HT : Hid (∀ w1, TextP T0 w G p 33 (pgRest p mn vm vs) items w1 → PgR T0 w1 G p mn vm vs items met M ∧ Fr w w1 (FQ G mn vm) (FQ G mn vm)) := fun w1 hq => hr.part hq.1 (List.prefix_refl _) hq.2
  have hso : SOk (txB S) := by unfold SOk; rw [txB_size]; have := (inC_size t0.sz hS).1; omega
  have hlk : nmF M (txB S) = M.findIdx? (· == S.flat) := nmF_is hsm (inC_op t0.kt hS)
  have hfr : ∀ {w' : World} {G' : Nat → Prop} {mn' : Nat} {vm' : Value}, Fr w w' (FQ G mn vm) (FQ G' mn' vm') → Fr w w' F (FQ G' mn' vm') := fun fr => fr.alike (fun k hk => (hF k).2 hk) (fun k hk => hk)
  have hml := hr.met.1
  have hfew := h.few
  cases hf : M.findIdx? (· == S.flat) with
  | some n =>
    have hn := met_at hr.met hf
    have hm : meetM S.flat M = some ([2 ^ n], M) := by unfold meetM; rw [hf]
    have HFIN : Hid (∀ w1, TextP T0 w G p 33 (pgRest p mn vm vs) items w1 → MetR T0 w F p vs items M S (.returned (.int .i64 (n : Int))) w1) := fun w1 hq => by
      obtain ⟨h1, h2⟩ := HT.out w1 hq
      exact ⟨_, hfr h2, Or.inl ⟨n, M, hm, by omega, rfl, h.few, h.nd, h.of, G, mn, vm, met, h1, fun k => Iff.rfl⟩⟩
    have HLK : Hid (∀ w1, PgR T0 w1 G p mn vm vs items met M → (Instr.lookup 30 (.map (some mn)) (.string (txB S)) true).run Tryd.prog w1 = .ok (.tuple #[.int .i64 (n : Int), .bool true]) w1) := fun w1 h1 => by
      have := h1.num.look hso
      rw [hlk, hf] at this
      exact this
    clear h hr hF t0 hsm hi hS kS hso hlk hfr hml hfew hf hn hm
    generalize txB S = s at *
    go_enter Tryd.func58, Tryd.ntmps58
    go_wp2_with fail
    refine jt.mono ?_
    rintro e w1 ⟨rfl, hq⟩
    have hR := (HT.out w1 hq).1
    have c4 := hR.c4
    have hlook := HLK.out w1 hR
    have HQ : Hid _ := HFIN.out w1 hq
    clear jt hq hR HT HFIN HLK
    go_wp2
    go_ret
    exact HQ.out
  | none =>
    by_cases hl : M.length < 64
    · have hm : meetM S.flat M = some ([2 ^ met.length], M ++ [S.flat]) := by unfold meetM; rw [hf, hml]; dsimp only; rw [if_pos hl]
      have HLK : Hid (∀ w1, PgR T0 w1 G p mn vm vs items met M → (Instr.lookup 30 (.map (some mn)) (.string (txB S)) true).run Tryd.prog w1 = .ok (.tuple #[.int .i64 0, .bool false]) w1 ∧ ∃ w', (Instr.mapUpdate 30 (.map (some mn)) (.string (txB S)) (.int .i64 (met.length : Int))).run Tryd.prog w1 = .ok () w' ∧ NumS w' mn (met.length + 1) (fun y => if y = txB S then some met.length else nmF M y) ∧ w1.grownBy w' (some mn)) := fun w1 h1 => by
        have := h1.num.look hso
        rw [hlk, hf] at this
        exact ⟨this, h1.num.put (by omega) hso (hlk.trans hf) met.length (by omega)⟩
      have HM1 : Hid _ := fun (w : World) (w5 : World) (v5 : Value) a b c d e f => PgR.met1 (w := w) (w5 := w5) (v5 := v5) (p := p) (mn := mn) (vm := vm) (vs := vs) (G := G) (met := met) t0.kt hsm hS hi hf a b c hr.met hr.ng hr.nv d e f
      have HFIN : Hid (∀ w6 v5, PgR T0 w6 G p mn v5 vs items (met ++ [i]) (M ++ [S.flat]) → Fr w w6 (FQ G mn vm) (FQ G mn v5) → MetR T0 w F p vs items M S (.returned (.int .i64 (met.length : Int))) w6) := fun w6 v5 h1 h2 => by
        refine ⟨_, hfr h2, Or.inl ⟨met.length, _, hm, by omega, rfl, by simp; omega, List.nodup_append.2 ⟨h.nd, by simp, fun a ha b hb => by simp at hb; subst hb; exact fun e => (by have := List.findIdx?_eq_none_iff.1 hf a ha; simp [e] at this)⟩, fun f hf2 => ?_, G, mn, v5, _, h1, fun k => Iff.rfl⟩⟩
        rcases List.mem_append.1 hf2 with h3 | h3
        · exact h.of f h3
        · exact ⟨S, kS, hS, by simpa using h3⟩
      obtain ⟨av, cv, rfl⟩ := own_slI hr.row
      have hl64 : ((met.length : Int) == 64) = false := by rw [beq_eq_false_iff_ne]; omega
      have hl65 : met.length ≤ 64 := by omega
      clear h hr hF t0 hsm hi hS kS hso hlk hfr hml hfew hf hm hl
      generalize hs : txB S = s at *
      clear hs
      generalize hML : met.length = L at *
      go_enter Tryd.func58, Tryd.ntmps58
      go_wp2_with fail
      refine jt.mono ?_
      rintro e w1 ⟨rfl, hq⟩
      have hR := HT.out w1 hq
      have c4 := hR.1.c4
      have c5 := hR.1.c5
      obtain ⟨hlook, w2, hrun, hn2, hg2⟩ := HLK.out w1 hR.1
      obtain ⟨hpo2, hrow2, fr2⟩ := hR.1.put hg2
      obtain ⟨vi, mp, vt, hb2, hgp⟩ := hpo2.blk
      have d5 : w2.cell? ⟨p, 5, none⟩ = some (.slice av L cv) := cell_row hb2 5
      have hc3 : (w2.alloc (.cells #[.int .i64 (i : Int)] 3)).cell? ⟨w2.heap.size, 0, none⟩ = some (.int .i64 (i : Int)) := cell_row (MapKept.heap_alloc w2 _).1 0
      rw [hML] at hrow2
      have hO3 : (w2.alloc (.cells #[.int .i64 (i : Int)] 3)).ownsRow 0 3 1 (.slice av L cv) L (encM met) := World.ownsRow.alloc hrow2 _
      have HPO : Hid _ := hpo2
      have HROW : Hid _ := hrow2
      have HN2 : Hid _ := hn2
      have HFR2 : Hid (Fr w w2 _ _) := hR.2.trans fr2
      clear jt hq hR HT HLK hpo2 hrow2 fr2 hb2 hgp hn2 hg2
      go_wp2_with (at_builtin; refine append_v2 Tryd.underlying31 Tryd.infoIntM rfl (by decide) rfl _ _ rfl 0 _ L (encM met) (.int .i64 (i : Int)) w2.heap.size rfl rfl hO3 hc3 rfl (by omega) (Nat.zero_le _) ?_)
      intro v5 w5 hown5 hgr5 hloc5
      obtain ⟨a5, k5, rfl⟩ := own_slI hown5
      obtain ⟨e5, z5, hR5, fr5⟩ := HM1.out w2 w5 _ HPO.out HROW.out HN2.out hgr5 hown5 hloc5
      have HQ : Hid _ := HFIN.out _ _ hR5 (HFR2.out.trans fr5)
      clear hO3 hc3 hown5 hgr5 hloc5 hR5 fr5 d5 HPO HROW HN2 HFR2 HFIN HM1
      go_wp2
      go_ret
      exact HQ.out
    · have hm : meetM S.flat M = none := by unfold meetM; rw [hf]; dsimp only; rw [if_neg hl]
      have HLK : Hid (∀ w1, PgR T0 w1 G p mn vm vs items met M → (Instr.lookup 30 (.map (some mn)) (.string (txB S)) true).run Tryd.prog w1 = .ok (.tuple #[.int .i64 0, .bool false]) w1) := fun w1 h1 => by
        have := h1.num.look hso
        rw [hlk, hf] at this
        exact this
      have HFIN : Hid (∀ w1, TextP T0 w G p 33 (pgRest p mn vm vs) items w1 → MetR T0 w F p vs items M S (.panicked thrownP) w1) := fun w1 hq => by
        obtain ⟨h1, h2⟩ := HT.out w1 hq
        exact ⟨_, hfr h2, Or.inr ⟨hm, rfl, h.few, h.nd, h.of, G, mn, vm, met, h1, fun k => Iff.rfl⟩⟩
      obtain ⟨av, cv, rfl⟩ := own_slI hr.row
      have hl64 : ((met.length : Int) == 64) = true := by rw [beq_iff_eq]; omega
      clear h hr hF t0 hsm hi hS kS hso hlk hfr hml hfew hf hm hl
      generalize txB S = s at *
      go_enter Tryd.func58, Tryd.ntmps58
      go_wp2_with fail
      refine jt.mono ?_
      rintro e w1 ⟨rfl, hq⟩
      have hR := (HT.out w1 hq).1
      have c4 := hR.c4
      have c5 := hR.c5
      have hlook := HLK.out w1 hR
      have HQ : Hid _ := HFIN.out w1 hq
      clear jt hq hR HT HFIN HLK
      go_wp2
      obtain ⟨F', fr, ⟨_, _, _, _, h, _⟩ | ⟨h1, _, h3⟩⟩ := HQ.out
      · cases h
      · exact ⟨rfl, F', fr, Or.inr ⟨h1, rfl, h3⟩⟩
end Go.Proofs.YtnedkpbpeolfoaaDoor
namespace Go.Proofs.YtnedkpbpeolfoaaDoor
open Go.RowKit Go.Maps
abbrev ObjP := World → (Nat → Prop) → List It → Mt → Prop
structure ObjC (Obj : ObjP) : Prop where
  lt : ∀ {w F items M}, Obj w F items M → ∀ k, F k → k < w.heap.size
  up : ∀ {w w' F items M}, Obj w F items M → Below w.heap.size w w' → Obj w' F items M
/-- What a function of the object's answers: a list, or it throws; what was met by then. -/
def RetQ (Obj : ObjP) (w : World) (F : Nat → Prop) (items : List It) (M : Mt) (r : Rt) (e : Ending) (w' : World) : Prop :=
  ∃ F' items', Fr w w' F F' ∧ items <+: items' ∧ ((∃ (L : List Nat) (M' : Mt) (q : Option Addr) (d : Nat), r = some (L, M') ∧ e = .returned (.slice q L.length d) ∧ US w' F' q L.length d L ∧ Obj w' F' items' M') ∨ (r = none ∧ e = .panicked thrownP ∧ ∃ M', M <+: M' ∧ Obj w' F' items' M'))
/-- A new list is the object's no block. -/
theorem ret_new {Obj : ObjP} (C : ObjC Obj) {w w' : World} {F : Nat → Prop} {items : List It} {M : Mt} (h : Obj w F items M) {l : List Nat} {e : Ending} (hn : NewL l w e w') : RetQ Obj w F items M (some (l, M)) e w' := by
  obtain ⟨q, d, rfl, hU, hb, hf⟩ := hn
  exact ⟨F, items, Fr.ofBelow hb, List.prefix_refl _, Or.inl ⟨l, M, q, d, rfl, rfl, ⟨hU, fun k hk hF => by have := hf k hk; have := C.lt h _ hF; omega⟩, C.up h hb⟩⟩
/-- Behind what was done before. -/
theorem RetQ.after {Obj : ObjP} {w w1 w2 : World} {F F1 : Nat → Prop} {items items1 : List It} {M M1 : Mt} {r : Rt} {e : Ending} (fr : Fr w w1 F F1) (hi : items <+: items1) (hM : M <+: M1) (h : RetQ Obj w1 F1 items1 M1 r e w2) : RetQ Obj w F items M r e w2 := by
  obtain ⟨F', i', h1, h2, h3⟩ := h
  refine ⟨F', i', fr.trans h1, hi.trans h2, h3.imp id ?_⟩
  rintro ⟨a, b, M', c, d⟩
  exact ⟨a, b, M', hM.trans c, d⟩
/-- And, or Or of two lists at the end. -/
theorem ret_two {Obj : ObjP} (C : ObjC Obj) {w w' : World} {F : Nat → Prop} {items : List It} {M : Mt} (h : Obj w F items M) {r : Option (List Nat)} {e : Ending} (hn : TwoR r w e w') : RetQ Obj w F items M (r.map fun l => (l, M)) e w' := by
  obtain ⟨hb, ⟨L, q, d, rfl, rfl, hU, hf⟩ | ⟨rfl, rfl⟩⟩ := hn
  · exact ⟨F, items, Fr.ofBelow hb, List.prefix_refl _, Or.inl ⟨L, M, q, d, rfl, rfl, ⟨hU, fun k hk hF => by have := hf k hk; have := C.lt h _ hF; omega⟩, C.up h hb⟩⟩
  · exact ⟨F, items, Fr.ofBelow hb, List.prefix_refl _, Or.inr ⟨rfl, rfl, M, List.prefix_refl _, C.up h hb⟩⟩
/-- A list of the object's. -/
structure LstH (L : List Nat) : Prop where
  sm : Sm L
  few : L.length ≤ 1024
/-- And, or Or of two lists. -/
def twF (and : Bool) : FuncId := if and then 33 else 35
theorem Tryd.ptwo {Obj : ObjP} (C : ObjC Obj) (and : Bool) {w : World} {F : Nat → Prop} {items : List It} {M : Mt} (h : Obj w F items M) {a b : Option Addr} {c d : Nat} {l k : List Nat} (hA : US w F a l.length c l) (hB : US w F b k.length d k) (la : LstH l) (lb : LstH k) :
    Calls Tryd.prog (twF and) #[.slice a l.length c, .slice b k.length d] w (RetQ Obj w F items M (twoM and l k M)) := by
  cases and with
  | true => exact (Tryd.pboth_any a l.length c l b k.length d k w hA.sl hB.sl la.sm lb.sm (Nat.le_trans la.few (by decide)) (Nat.le_trans lb.few (by decide))).mono fun e w' hq => ret_two C h hq
  | false => exact (Tryd.peither_any a l.length c l b k.length d k w hA.sl hB.sl la.sm lb.sm (Nat.le_trans la.few (by decide)) (Nat.le_trans lb.few (by decide))).mono fun e w' hq => ret_two C h hq
theorem pgO_obj (T0 : Tr) (p : Nat) (vs : Value) : ObjC (fun w F items M => PgO T0 w F p vs items M) := ⟨fun h => h.lt, fun h hb => h.up hb⟩
/-- What need does of a formula. -/
def NeedQ (T0 : Tr) (p : Nat) (vs : Value) (S : Tr) : Prop := ∀ (w : World) (F : Nat → Prop) (items : List It) (M : Mt) (i : Nat), PgO T0 w F p vs items M → Rep items i S → Calls Tryd.prog 41 #[.pointer (some ⟨p, 0, none⟩), .int .i64 (i : Int)] w (RetQ (fun w F items M => PgO T0 w F p vs items M) w F items M (needM S M))
theorem PgO.part {T0 : Tr} {w : World} {F : Nat → Prop} {p : Nat} {vs : Value} {items : List It} {M : Mt} (h : PgO T0 w F p vs items M) : ∃ G rest, PtO T0 w G p 33 rest items := by
  obtain ⟨G, mn, vm, met, hr, hF⟩ := h.ex
  exact ⟨G, _, hr.po⟩
set_option maxRecDepth 100000 in
set_option maxHeartbeats 8000000 in
theorem Tryd.pneed_two {T0 : Tr} {p : Nat} {vs : Value} (op pp : Nat) (ho : op = 11 ∨ op = 12) (c d : Tr) (hT : KT (.bin (op, pp) c d)) (hc : NeedQ T0 p vs c) (hd : NeedQ T0 p vs d) : NeedQ T0 p vs (.bin (op, pp) c d) := by
  intro w F items M i h hi
  obtain ⟨kc, kd⟩ := kt_and hT (by omega)
  obtain ⟨m, l, hx, hm, hl⟩ : ∃ m l : Nat, items[i]? = some ⟨op, pp, (m : Int), (l : Int)⟩ ∧ Rep items m c ∧ Rep items l d := by cases hi with | bin h h1 h2 h3 h4 => exact ⟨_, _, h, h3, h4⟩
  obtain ⟨G, rest, hpo⟩ := h.part
  obtain ⟨a, n, cap, g, o, c0, hidx, x0, x1, x2, x3⟩ := hpo.at hx
  have hb := below_new w (itO ⟨op, pp, (m : Int), (l : Int)⟩)
  have hbx := (MapKept.heap_alloc w (itO ⟨op, pp, (m : Int), (l : Int)⟩)).1
  have hO1 := h.up hb.drew
  have j1 := hc _ F items M m hO1 hm
  obtain ⟨r1, hr1⟩ : ∃ r, r = needM c M := ⟨_, rfl⟩
  rw [← hr1] at j1
  have HR1 : Hid (r1 = needM c M) := hr1
  have cells : ∀ w' : World, w'.heap[w.heap.size]? = some (itO ⟨op, pp, (m : Int), (l : Int)⟩) → w'.cell? ⟨w.heap.size, 2, none⟩ = some (.int .i64 (m : Int)) ∧ w'.cell? ⟨w.heap.size, 3, none⟩ = some (.int .i64 (l : Int)) := fun w' e => ⟨cell_row e 2, cell_row e 3⟩
  have hk0 := cells (w.alloc (itO ⟨op, pp, (m : Int), (l : Int)⟩)).drew hbx
  have hk00 := cells _ hbx
  have HCL : Hid _ := cells
  have HBX : Hid ((w.alloc (itO ⟨op, pp, (m : Int), (l : Int)⟩)).drew.heap[w.heap.size]? = some (itO ⟨op, pp, (m : Int), (l : Int)⟩)) := hbx
  have HNF : Hid (¬ F w.heap.size) := fun e => Nat.lt_irrefl _ (h.lt _ e)
  have HD : Hid (NeedQ T0 p vs d) := hd
  have HL : Hid (Rep items l d) := hl
  have HG : Hid (GoodM M) := h.good
  have HK : Hid (KT c ∧ KT d) := ⟨kc, kd⟩
  have HF0 : Hid (Fr w (w.alloc (itO ⟨op, pp, (m : Int), (l : Int)⟩)).drew F F) := Fr.ofBelow hb.drew
  obtain ⟨R, hR⟩ : ∃ R, R = needM (.bin (op, pp) c d) M := ⟨_, rfl⟩
  have HR : Hid (R = bindM (needM c M) fun a M1 => bindM (needM d M1) fun b M2 => twoM (op == 11) a b M2) := by show _ = _; rw [hR, needM, if_pos ho]
  rw [← hR]
  obtain ⟨Q, hQ⟩ : ∃ Q : Ending → World → Prop, Q = RetQ (fun w F items M => PgO T0 w F p vs items M) w F items M R := ⟨_, rfl⟩
  have HQ : Hid (∀ e w', RetQ (fun w F items M => PgO T0 w F p vs items M) w F items M R e w' → Q e w') := fun e w' h => by rw [hQ]; exact h
  rw [← hQ]
  have HO : Hid (PgO T0 w F p vs items M) := h
  clear h hi hT hc hd hx hm hl hpo hb hbx hO1 hr1 cells kc kd hR hQ
  have n0 : ((op : Int) == 0) = false := by rw [beq_eq_false_iff_ne]; omega
  have n1 : ((op : Int) == 1) = false := by rw [beq_eq_false_iff_ne]; omega
  rcases ho with ho | ho
  · have n11 : ((op : Int) == 11) = true := by rw [beq_iff_eq]; omega
    have hob : (op == 11) = true := by simp [ho]
    rw [hob] at HR
    clear ho hob
    unfold itO at *
    dsimp only at *
    go_enter Tryd.func41, Tryd.ntmps41
    go_wp2_with fail
    go_region_held2 (fun w' => w'.cell? ⟨w.heap.size, 2, none⟩ = some (.int .i64 (m : Int)) ∧ w'.cell? ⟨w.heap.size, 3, none⟩ = some (.int .i64 (l : Int))) (first | exact hk0 | exact hk00 | assumption | fail) (first
      | (revert j1; intro j1; go_at_call 41; (with_reducible refine j1.mono ?_); rintro e w1 ⟨F1, i1, fr1, hp1, ⟨L1, M1, q1, d1, hs1, rfl, hU1, hO2⟩ | ⟨hs1, rfl, M1, hpm, hO2⟩⟩; (case inr => exact ⟨rfl, HQ.out _ _ ⟨F1, i1, HF0.out.trans fr1, hp1, Or.inr ⟨by rw [HR.out, ← HR1.out, hs1]; rfl, rfl, M1, hpm, hO2⟩⟩⟩); have hbk1 := box_keep HBX.out HNF.out fr1; have hk1 := HCL.out _ hbk1.1; have j2 := HD.out _ F1 i1 M1 l hO2 (HL.out.pre hp1); have ex1 := (need_ok c HG.out HK.out.1 (HR1.out.symm.trans hs1)).1; have nl1 := need_len c (HR1.out.symm.trans hs1))
      | (revert j2; intro j2; go_at_call 41; (with_reducible refine j2.mono ?_); rintro e w2 ⟨F2, i2, fr2, hp2, ⟨L2, M2, q2, d2, hs2, rfl, hU2, hO3⟩ | ⟨hs2, rfl, M2, hpm, hO3⟩⟩; (case inr => exact ⟨rfl, HQ.out _ _ ⟨F2, i2, (HF0.out.trans fr1).trans fr2, hp1.trans hp2, Or.inr ⟨by rw [HR.out, ← HR1.out, hs1]; show bindM (needM d M1) _ = none; rw [hs2]; rfl, rfl, M2, ex1.pre.trans hpm, hO3⟩⟩⟩); have hbk2 := box_keep hbk1.1 hbk1.2 fr2; have hk2 := HCL.out _ hbk2.1; have ex2 := (need_ok d ex1.good HK.out.2 hs2).1; have nl2 := need_len d hs2; have j3 := Tryd.ptwo (pgO_obj T0 p vs) true hO3 (hU1.fr fr2) hU2 ⟨lt_of_bd ex1.bd ex1.good.few, nl1⟩ ⟨lt_of_bd ex2.bd ex2.good.few, nl2⟩; unfold twF at j3; simp only [if_true] at j3)
      | (revert j3; intro j3; go_at_call 33; (with_reducible refine j3.mono ?_); rintro e w3 ⟨F3, i3, fr3, hp3, ⟨L3, M3, q3, d3, hs3, rfl, hU3, hO4⟩ | ⟨hs3, rfl, M3, hpm, hO4⟩⟩; (case inr => exact ⟨rfl, HQ.out _ _ ⟨F3, i3, ((HF0.out.trans fr1).trans fr2).trans fr3, (hp1.trans hp2).trans hp3, Or.inr ⟨by rw [HR.out, ← HR1.out, hs1]; show bindM (needM d M1) _ = none; rw [hs2]; exact hs3, rfl, M3, (ex1.pre.trans ex2.pre).trans hpm, hO4⟩⟩⟩); have hk3 := HCL.out _ (box_keep hbk2.1 hbk2.2 fr3).1; have HE : Hid (Q (.returned (.slice q3 L3.length d3)) w3) := (HQ.out _ _ ⟨F3, i3, ((HF0.out.trans fr1).trans fr2).trans fr3, (hp1.trans hp2).trans hp3, Or.inl ⟨L3, M3, q3, d3, by rw [HR.out, ← HR1.out, hs1]; show bindM (needM d M1) _ = _; rw [hs2]; exact hs3, rfl, hU3, hO4⟩⟩))
      | fail)
    all_goals
      clear j1 j2 j3
      go_wp2
      exact HE.out
  · have n11 : ((op : Int) == 11) = false := by rw [beq_eq_false_iff_ne]; omega
    have n12 : ((op : Int) == 12) = true := by rw [beq_iff_eq]; omega
    have hob : (op == 11) = false := by simp [ho]
    rw [hob] at HR
    clear ho hob
    unfold itO at *
    dsimp only at *
    go_enter Tryd.func41, Tryd.ntmps41
    go_wp2_with fail
    go_region_held2 (fun w' => w'.cell? ⟨w.heap.size, 2, none⟩ = some (.int .i64 (m : Int)) ∧ w'.cell? ⟨w.heap.size, 3, none⟩ = some (.int .i64 (l : Int))) (first | exact hk0 | exact hk00 | assumption | fail) (first
      | (revert j1; intro j1; go_at_call 41; (with_reducible refine j1.mono ?_); rintro e w1 ⟨F1, i1, fr1, hp1, ⟨L1, M1, q1, d1, hs1, rfl, hU1, hO2⟩ | ⟨hs1, rfl, M1, hpm, hO2⟩⟩; (case inr => exact ⟨rfl, HQ.out _ _ ⟨F1, i1, HF0.out.trans fr1, hp1, Or.inr ⟨by rw [HR.out, ← HR1.out, hs1]; rfl, rfl, M1, hpm, hO2⟩⟩⟩); have hbk1 := box_keep HBX.out HNF.out fr1; have hk1 := HCL.out _ hbk1.1; have j2 := HD.out _ F1 i1 M1 l hO2 (HL.out.pre hp1); have ex1 := (need_ok c HG.out HK.out.1 (HR1.out.symm.trans hs1)).1; have nl1 := need_len c (HR1.out.symm.trans hs1))
      | (revert j2; intro j2; go_at_call 41; (with_reducible refine j2.mono ?_); rintro e w2 ⟨F2, i2, fr2, hp2, ⟨L2, M2, q2, d2, hs2, rfl, hU2, hO3⟩ | ⟨hs2, rfl, M2, hpm, hO3⟩⟩; (case inr => exact ⟨rfl, HQ.out _ _ ⟨F2, i2, (HF0.out.trans fr1).trans fr2, hp1.trans hp2, Or.inr ⟨by rw [HR.out, ← HR1.out, hs1]; show bindM (needM d M1) _ = none; rw [hs2]; rfl, rfl, M2, ex1.pre.trans hpm, hO3⟩⟩⟩); have hbk2 := box_keep hbk1.1 hbk1.2 fr2; have hk2 := HCL.out _ hbk2.1; have ex2 := (need_ok d ex1.good HK.out.2 hs2).1; have nl2 := need_len d hs2; have j3 := Tryd.ptwo (pgO_obj T0 p vs) false hO3 (hU1.fr fr2) hU2 ⟨lt_of_bd ex1.bd ex1.good.few, nl1⟩ ⟨lt_of_bd ex2.bd ex2.good.few, nl2⟩; unfold twF at j3; simp only [Bool.false_eq_true, if_false] at j3)
      | (revert j3; intro j3; go_at_call 35; (with_reducible refine j3.mono ?_); rintro e w3 ⟨F3, i3, fr3, hp3, ⟨L3, M3, q3, d3, hs3, rfl, hU3, hO4⟩ | ⟨hs3, rfl, M3, hpm, hO4⟩⟩; (case inr => exact ⟨rfl, HQ.out _ _ ⟨F3, i3, ((HF0.out.trans fr1).trans fr2).trans fr3, (hp1.trans hp2).trans hp3, Or.inr ⟨by rw [HR.out, ← HR1.out, hs1]; show bindM (needM d M1) _ = none; rw [hs2]; exact hs3, rfl, M3, (ex1.pre.trans ex2.pre).trans hpm, hO4⟩⟩⟩); have hk3 := HCL.out _ (box_keep hbk2.1 hbk2.2 fr3).1; have HE : Hid (Q (.returned (.slice q3 L3.length d3)) w3) := (HQ.out _ _ ⟨F3, i3, ((HF0.out.trans fr1).trans fr2).trans fr3, (hp1.trans hp2).trans hp3, Or.inl ⟨L3, M3, q3, d3, by rw [HR.out, ← HR1.out, hs1]; show bindM (needM d M1) _ = _; rw [hs2]; exact hs3, rfl, hU3, hO4⟩⟩))
      | fail)
    all_goals
      clear j1 j2 j3
      go_wp2
      exact HE.out
set_option maxRecDepth 100000 in
set_option maxHeartbeats 8000000 in
theorem Tryd.pneed_yes {T0 : Tr} {p : Nat} {vs : Value} {w : World} {F : Nat → Prop} {items : List It} {M : Mt} (i op pp : Nat) (xa xb : Int) (S : Tr) (h : PgO T0 w F p vs items M) (hx : items[i]? = some ⟨op, pp, xa, xb⟩) (ho : op = 0 ∨ op = 1) (hs : needM S M = some (yesM (op == 0), M)) :
    Calls Tryd.prog 41 #[.pointer (some ⟨p, 0, none⟩), .int .i64 (i : Int)] w (RetQ (fun w F items M => PgO T0 w F p vs items M) w F items M (needM S M)) := by
  obtain ⟨G, rest, hpo⟩ := h.part
  obtain ⟨a, n, cap, g, o, c0, hidx, x0, x1, x2, x3⟩ := hpo.at hx
  have hb := below_new w (itO ⟨op, pp, xa, xb⟩)
  obtain ⟨Q, hQ⟩ : ∃ Q : Ending → World → Prop, Q = RetQ (fun w F items M => PgO T0 w F p vs items M) w F items M (needM S M) := ⟨_, rfl⟩
  have HQ : Hid (∀ e w', RetQ (fun w F items M => PgO T0 w F p vs items M) w F items M (needM S M) e w' → Q e w') := fun e w' h => by rw [hQ]; exact h
  rw [← hQ]
  have HF0 : Hid (Fr w (w.alloc (itO ⟨op, pp, xa, xb⟩)) F F) := Fr.ofBelow hb
  have HN : Hid (∀ l e w', NewL l (w.alloc (itO ⟨op, pp, xa, xb⟩)) e w' → l = yesM (op == 0) → Q e w') := fun l e w' hn hl => HQ.out e w' (by rw [hs, ← hl]; exact (ret_new (pgO_obj T0 p vs) (h.up hb) hn).after HF0.out (List.prefix_refl _) (List.prefix_refl _))
  have jj := Tryd.true_new (w.alloc (itO ⟨op, pp, xa, xb⟩))
  clear h hx hpo hb hQ HQ hs HF0
  rcases ho with rfl | rfl
  · unfold itO at *
    dsimp only at *
    go_enter Tryd.func41, Tryd.ntmps41
    go_wp2_with fail
    refine jj.mono ?_
    rintro e w1 ⟨q, C, rfl, hU, hbb, hf⟩
    have HE : Hid (Q (.returned (.slice q [0].length C)) w1) := HN.out [0] _ _ ⟨q, C, rfl, hU, hbb, hf⟩ rfl
    clear jj hU hbb hf
    go_wp2
    exact HE.out
  · have HE : Hid (Q (.returned (.slice none 0 0)) (w.alloc (itO ⟨1, pp, xa, xb⟩))) := HN.out [] _ _ (newL_nil _ _ (Below.refl _ _)) rfl
    unfold itO at *
    dsimp only at *
    clear jj
    go_enter Tryd.func41, Tryd.ntmps41
    go_wp2
    exact HE.out
/-- The list of the set of one number. -/
theorem Tryd.one_new (n : Nat) (w : World) : NewL [2 ^ n] w (.returned (.slice (some ⟨w.heap.size, 0, none⟩) 1 1)) (w.alloc (.cells #[.int .u64 ((2 ^ n : Nat) : Int)] 60)) :=
  ⟨_, 1, rfl, Tryd.set_lit [2 ^ n] w (by simp), below_new _ _, fun k hk => by simp [adOf, add_plain]⟩
set_option maxRecDepth 100000 in
set_option maxHeartbeats 8000000 in
theorem Tryd.pneed_meet {T0 : Tr} {p : Nat} {vs : Value} {w : World} {F : Nat → Prop} {items : List It} {M : Mt} (i op pp : Nat) (xa xb : Int) (S : Tr) (h : PgO T0 w F p vs items M) (hx : items[i]? = some ⟨op, pp, xa, xb⟩) (ho : op ≠ 0 ∧ op ≠ 1 ∧ op ≠ 11 ∧ op ≠ 12) (hi : Rep items i S) (hS : InC T0 S) (kS : KT S) (hs : needM S M = meetM S.flat M) :
    Calls Tryd.prog 41 #[.pointer (some ⟨p, 0, none⟩), .int .i64 (i : Int)] w (RetQ (fun w F items M => PgO T0 w F p vs items M) w F items M (needM S M)) := by
  obtain ⟨G, rest, hpo⟩ := h.part
  obtain ⟨a, n, cap, g, o, c0, hidx, x0, x1, x2, x3⟩ := hpo.at hx
  have hb := below_new w (itO ⟨op, pp, xa, xb⟩)
  obtain ⟨Q, hQ⟩ : ∃ Q : Ending → World → Prop, Q = RetQ (fun w F items M => PgO T0 w F p vs items M) w F items M (needM S M) := ⟨_, rfl⟩
  have HQ : Hid (∀ e w', RetQ (fun w F items M => PgO T0 w F p vs items M) w F items M (needM S M) e w' → Q e w') := fun e w' h => by rw [hQ]; exact h
  rw [← hQ]
  have HF0 : Hid (Fr w (w.alloc (itO ⟨op, pp, xa, xb⟩)) F F) := Fr.ofBelow hb
  have jm := Tryd.pmeet_any (h.up hb) i S hi hS kS
  have n0 : ((op : Int) == 0) = false := by rw [beq_eq_false_iff_ne]; omega
  have n1 : ((op : Int) == 1) = false := by rw [beq_eq_false_iff_ne]; omega
  have n11 : ((op : Int) == 11) = false := by rw [beq_eq_false_iff_ne]; omega
  have n12 : ((op : Int) == 12) = false := by rw [beq_eq_false_iff_ne]; omega
  rw [hs] at HQ
  clear h hx hpo hb hQ hs ho hi hS kS
  unfold itO at *
  dsimp only at *
  go_enter Tryd.func41, Tryd.ntmps41
  go_wp2_with fail
  refine jm.mono ?_
  rintro e w1 ⟨F1, fr1, ⟨k, M1, hm, hk, rfl, hO⟩ | ⟨hm, rfl, hO⟩⟩
  · have HE : Hid (Q (.returned (.slice (some ⟨w1.heap.size, 0, none⟩) 1 1)) (w1.alloc (.cells #[.int .u64 ((2 ^ k : Nat) : Int)] 60))) := HQ.out _ _ (by
      rw [hm]
      obtain ⟨F2, i2, f2, p2, h2⟩ := ret_new (pgO_obj T0 p vs) hO (Tryd.one_new k w1)
      refine ⟨F2, i2, (HF0.out.trans fr1).trans f2, p2, Or.inl ?_⟩
      rcases h2 with ⟨L, M', q, d, e, h3⟩ | ⟨e, _⟩
      · exact ⟨L, M', q, d, e, h3⟩
      · cases e)
    have hpw : IntKind.u64.wrap (2 ^ k) = ((2 ^ k : Nat) : Int) := by
      have : (2 : Nat) ^ k < 2 ^ 64 := Nat.pow_lt_pow_right (by decide) hk
      rw [IntKind.wrap_u64, show ((2 : Int) ^ k) = ((2 ^ k : Nat) : Int) by simp]
      generalize 2 ^ k = y at this ⊢
      omega
    have HPW : Hid _ := hpw
    clear jm hm fr1 hO hpw
    go_wp2
    have e := HPW.out
    rw [e]
    exact HE.out
  · exact ⟨rfl, HQ.out _ _ ⟨F1, items, HF0.out.trans fr1, List.prefix_refl _, Or.inr ⟨hm, rfl, M, List.prefix_refl _, hO⟩⟩⟩
/-- What a formula needs. -/
theorem Tryd.pneed_any {T0 : Tr} {p : Nat} {vs : Value} : ∀ (S : Tr), KT S → InC T0 S → NeedQ T0 p vs S
  | .leaf (op, pp), kS, hS => by
    intro w F items M i h hi
    have hx : items[i]? = some ⟨op, pp, -1, -1⟩ := by cases hi with | leaf h => exact h
    by_cases ho : op = 0 ∨ op = 1
    · refine Tryd.pneed_yes i op pp (-1) (-1) _ h hx ho ?_
      unfold needM
      rcases ho with rfl | rfl
      · rfl
      · rfl
    · have h4 : op ≠ 0 ∧ op ≠ 1 ∧ op ≠ 11 ∧ op ≠ 12 := by rcases kt_leaf kS with ⟨rfl, _⟩ | ⟨_, hh⟩ <;> omega
      refine Tryd.pneed_meet i op pp (-1) (-1) _ h hx h4 hi hS kS ?_
      unfold needM
      rw [if_neg (by dsimp only; omega), if_neg (by dsimp only; omega)]
  | .un (op, pp) c, kS, hS => by
    intro w F items M i h hi
    obtain ⟨m, hx⟩ : ∃ m : Nat, items[i]? = some ⟨op, pp, (m : Int), -1⟩ := by cases hi with | un h h1 h2 => exact ⟨_, h⟩
    have h4 : op ≠ 0 ∧ op ≠ 1 ∧ op ≠ 11 ∧ op ≠ 12 := by rcases kt_un kS with ⟨_, ⟨rfl, _⟩ | ⟨hh, _⟩⟩ <;> omega
    exact Tryd.pneed_meet i op pp (m : Int) (-1) _ h hx h4 hi hS kS rfl
  | .bin (op, pp) c d, kS, hS => by
    by_cases ho : op = 11 ∨ op = 12
    · obtain ⟨kc, kd⟩ := kt_and kS (by omega)
      obtain ⟨ic, id, _⟩ := inC_bin hS
      exact Tryd.pneed_two op pp ho c d kS (Tryd.pneed_any c kc ic) (Tryd.pneed_any d kd id)
    · intro w F items M i h hi
      obtain ⟨m, l, hx⟩ : ∃ m l : Nat, items[i]? = some ⟨op, pp, (m : Int), (l : Int)⟩ := by cases hi with | bin h h1 h2 h3 h4 => exact ⟨_, _, h⟩
      obtain ⟨_, hh⟩ := kt_bin kS
      refine Tryd.pneed_meet i op pp (m : Int) (l : Int) _ h hx (by omega) hi hS kS ?_
      rw [needM, if_neg ho]
end Go.Proofs.YtnedkpbpeolfoaaDoor
namespace Go.Proofs.YtnedkpbpeolfoaaDoor
open Go.RowKit Go.Maps
/-- An element reads as it is. -/
def anyElem (v : Value) : Option (DataW Value × List MemPlace) := some (.held v, [])
def klN (i : Nat) : Lit := .int .i64 (i : Int)
theorem Tryd.lawIntN : Keyed Tryd.prog 3 := int_keyed Tryd.underlying3
theorem Tryd.inKey (i : Nat) (h : i ≤ 100000000) : keyOf Tryd.prog 3 (.int .i64 (i : Int)) = some (klN i) := keyOf_int_mk Tryd.underlying3 (WalkArith.wf_i64 (by omega))
theorem klN_inj {x y : Nat} (h : klN x = klN y) : x = y := by
  injection h with _ h
  omega
theorem klN_key (i : Nat) : WideAt.IsKeyLit (klN i) := trivial
/-- A block that is a map from the numbers ks to values. -/
def MemM (w : World) (b : Nat) (ks : List Nat) (f : Nat → Option Value) : Prop :=
  ∃ D : DataW Value, w.ownsMap Tryd.prog 3 anyElem b ks.length D ∧ Tidy D ∧ Maps.size D = ks.length ∧ ks.Nodup ∧ (∀ i, (f i).isSome = true ↔ i ∈ ks) ∧ ∀ i, i ≤ 100000000 → has D (klN i) = (f i).isSome ∧ ∀ v, f i = some v → D.atKey (klN i) (.held (.slice none 0 0)) = .held v
theorem MemM.lt {w : World} {b : Nat} {ks : List Nat} {f : Nat → Option Value} (h : MemM w b ks f) : b < w.heap.size := by
  obtain ⟨D, h, _⟩ := h; exact h.lt
theorem MemM.far {w w' : World} {b : Nat} {ks : List Nat} {f : Nat → Option Value} (h : MemM w b ks f) (hb : w'.heap[b]? = w.heap[b]?) : MemM w' b ks f := by
  obtain ⟨D, ⟨es, clock, h1, h2⟩, r⟩ := h
  exact ⟨D, ⟨es, clock, hb.trans h1, h2⟩, r⟩
theorem MemM.isMap {w : World} {b : Nat} {ks : List Nat} {f : Nat → Option Value} (h : MemM w b ks f) : ∃ es c, w.heap[b]? = some (.map es c) := by
  obtain ⟨D, ⟨es, clock, h1, h2⟩, r⟩ := h
  exact ⟨es, clock, h1⟩
theorem mem_made (w : World) : MemM (w.alloc (.map #[] 0)) w.heap.size [] (fun _ => none) :=
  ⟨.map [], World.ownsMap_made _ _ _ _, tidy_empty, rfl, by simp, fun i => by simp, fun i _ => ⟨rfl, fun v hv => by cases hv⟩⟩
theorem Tryd.zeroSlU (w : World) : (zeroValue 22).run Tryd.prog w = .ok (.slice none 0 0) w := by kernel_rfl
set_option maxRecDepth 100000 in
theorem MemM.look {w : World} {b : Nat} {ks : List Nat} {f : Nat → Option Value} (h : MemM w b ks f) {i : Nat} (hi : i ≤ 100000000) :
    (Instr.lookup 54 (.map (some b)) (.int .i64 (i : Int)) true).run Tryd.prog w = .ok (.tuple #[(f i).getD (.slice none 0 0), .bool (f i).isSome]) w := by
  obtain ⟨D, h1, h2, _, h3, _, h4⟩ := h
  obtain ⟨hh, ha⟩ := h4 i hi
  obtain ⟨v, ps, hrun, hv⟩ := h1.look_ok Tryd.lawIntN Tryd.underlying54 (Tryd.zeroSlU w) (zd := .held (.slice none 0 0)) (zp := []) rfl (Tryd.inKey i hi)
  have hc : D.atKey (klN i) (.held (.slice none 0 0)) = .held v := by
    unfold anyElem at hv
    injection hv with hv
    injection hv with hv _
    exact hv.symm
  rw [hrun, hh]
  cases hf : f i with
  | none =>
    rw [hf] at hh
    rw [atKey_of_not_has hh] at hc
    injection hc with hc
    subst hc
    rfl
  | some u =>
    rw [ha u hf] at hc
    injection hc with hc
    subst hc
    rfl
/-- The numbers, one more. -/
def addK (ks : List Nat) (i : Nat) : List Nat := if i ∈ ks then ks else i :: ks
set_option maxRecDepth 100000 in
theorem MemM.put {w : World} {b : Nat} {ks : List Nat} {f : Nat → Option Value} (h : MemM w b ks f) (hn : ks.length ≤ 100000000) {i : Nat} (hi : i ≤ 100000000) (v : Value) :
    ∃ w', (Instr.mapUpdate 54 (.map (some b)) (.int .i64 (i : Int)) v).run Tryd.prog w = .ok () w' ∧ MemM w' b (addK ks i) (fun y => if y = i then some v else f y) ∧ w.grownBy w' (some b) := by
  obtain ⟨D, h1, h2, h6, h3, h5, h4⟩ := h
  obtain ⟨w', hrun, hown, hg⟩ := h1.update Tryd.lawIntN Tryd.underlying54 (by unfold maxLen; omega) (Tryd.inKey i hi) (val := v) (d := .held v) (ps := []) rfl
  have hsz : Maps.size (D.put (klN i) (.held v)) = (addK ks i).length := by
    rw [size_put h2, (h4 i hi).1, h6]
    unfold addK
    by_cases hm : i ∈ ks
    · rw [if_pos hm, (h5 i).2 hm]; rfl
    · have : (f i).isSome = false := by
        cases hq : (f i).isSome with
        | false => rfl
        | true => exact absurd ((h5 i).1 hq) hm
      rw [if_neg hm, this]; rfl
  have hown' : w'.ownsMap Tryd.prog 3 anyElem b (addK ks i).length (D.put (klN i) (.held v)) := by
    obtain ⟨es, clock, g1, g2, g3, g4⟩ := hown
    refine ⟨es, clock, g1, g2, ?_, g4⟩
    rw [← hsz, g4]
    simp [Maps.size, length_sorted]
  refine ⟨w', hrun, ⟨_, hown', h2.put (klN_key i) _, hsz, ?_, fun y => ?_, fun y hy => ?_⟩, hg⟩
  · unfold addK
    by_cases hm : i ∈ ks
    · rw [if_pos hm]; exact h3
    · rw [if_neg hm]; exact List.nodup_cons.2 ⟨hm, h3⟩
  · dsimp only
    unfold addK
    by_cases e : y = i
    · subst e
      by_cases hm : y ∈ ks
      · rw [if_pos rfl, if_pos hm]; simp [hm]
      · rw [if_pos rfl, if_neg hm]; simp
    · rw [if_neg e, h5 y]
      by_cases hm : i ∈ ks
      · rw [if_pos hm]
      · rw [if_neg hm]; simp [e]
  · dsimp only
    by_cases e : y = i
    · subst e
      rw [if_pos rfl]
      refine ⟨has_put_same h2.isMap (klN_key y) _, fun u hu => ?_⟩
      injection hu with hu
      subst hu
      exact atKey_put_same h2.isMap (klN_key y) _ _
    · have ne : klN y ≠ klN i := fun he => e (klN_inj he)
      rw [if_neg e, has_put_other ne]
      refine ⟨(h4 y hy).1, fun u hu => ?_⟩
      rw [atKey_put_other ne]
      exact (h4 y hy).2 u hu
def EntersF (F : FuncId) : Prop := ∀ args w, (callFunc F args).run Tryd.prog w = .ok (.enter F args) w
set_option maxRecDepth 100000 in
set_option maxHeartbeats 4000000 in
theorem Tryd.ponce_hit (b i fid : Nat) (u v : Value) (w : World) (hlook : (Instr.lookup 54 (.map (some b)) (.int .i64 (i : Int)) true).run Tryd.prog w = .ok (.tuple #[v, .bool true]) w) :
    Calls Tryd.prog 50 #[.map (some b), .int .i64 (i : Int), .func (.func fid) #[u] #[]] w fun e w' => e = .returned v ∧ w' = w := by
  go_enter Tryd.func50, Tryd.ntmps50
  go_wp2
  go_ret
  exact ⟨rfl, rfl⟩
set_option maxRecDepth 100000 in
set_option maxHeartbeats 4000000 in
theorem Tryd.ponce_miss (b i fid : Nat) (u : Value) (w : World) (Q : Ending → World → Prop) (hE : EntersF fid) (hlook : (Instr.lookup 54 (.map (some b)) (.int .i64 (i : Int)) true).run Tryd.prog w = .ok (.tuple #[.slice none 0 0, .bool false]) w)
    (jw : Calls Tryd.prog fid #[u, .int .i64 (i : Int)] w fun e w' => (∃ v w'', e = .returned v ∧ (Instr.mapUpdate 54 (.map (some b)) (.int .i64 (i : Int)) v).run Tryd.prog w' = .ok () w'' ∧ Q (.returned v) w'') ∨ (e = .panicked thrownP ∧ Q (.panicked thrownP) w')) :
    Calls Tryd.prog 50 #[.map (some b), .int .i64 (i : Int), .func (.func fid) #[u] #[]] w Q := by
  unfold EntersF at hE
  go_enter Tryd.func50, Tryd.ntmps50
  go_wp2_with fail
  refine jw.mono ?_
  rintro e w1 (⟨v, w2, rfl, hrun, hq⟩ | ⟨rfl, hq⟩)
  · have HQ : Hid _ := hq
    clear jw hq
    go_wp2
    exact HQ.out
  · exact ⟨rfl, hq⟩
/-- What was told of an item: its list, ever after. -/
def Told (w : World) (F : Nat → Prop) (items : List It) (M : Mt) (g : Tr → Mt → Rt) (i : Nat) (v : Value) : Prop :=
  ∃ (a : Option Addr) (c : Nat) (l : List Nat) (S : Tr), v = .slice a l.length c ∧ US w F a l.length c l ∧ LstH l ∧ Rep items i S ∧ ∀ M2, M <+: M2 → g S M2 = some (l, M2)
theorem Told.go {w w' : World} {F F' : Nat → Prop} {items items' : List It} {M M' : Mt} {g : Tr → Mt → Rt} {i : Nat} {v : Value} (h : Told w F items M g i v) (fr : Fr w w' F F') (hi : items <+: items') (hM : M <+: M') : Told w' F' items' M' g i v := by
  obtain ⟨a, c, l, S, h1, h2, h3, h4, h5⟩ := h
  exact ⟨a, c, l, S, h1, h2.fr fr, h3, h4.pre hi, fun M2 h => h5 M2 (hM.trans h)⟩
/-- A reading: a prog, a letter, what was told of needs and of what is left. -/
structure RdR (T0 : Tr) (p : Nat) (vs : Value) (x bn bl : Nat) (w : World) (F F1 : Nat → Prop) (items : List It) (M : Mt) (kn kl : List Nat) (fn fl : Nat → Option Value) : Prop where
  pg : PgO T0 w F1 p vs items M
  mn : MemM w bn kn fn
  ml : MemM w bl kl fl
  ne : bn ≠ bl
  nn : ¬ F1 bn
  nl : ¬ F1 bl
  ff : ∀ k, F k ↔ (F1 k ∨ k = bn ∨ k = bl)
  tn : ∀ i v, fn i = some v → Told w F items M needM i v
  tl : ∀ i v, fl i = some v → Told w F items M (fun S => aftC S x) i v
def RdO (T0 : Tr) (p : Nat) (vs : Value) (x bn bl : Nat) : ObjP := fun w F items M => ∃ F1 kn kl fn fl, RdR T0 p vs x bn bl w F F1 items M kn kl fn fl
theorem RdR.lt {T0 : Tr} {p : Nat} {vs : Value} {x bn bl : Nat} {w : World} {F F1 : Nat → Prop} {items : List It} {M : Mt} {kn kl : List Nat} {fn fl : Nat → Option Value} (h : RdR T0 p vs x bn bl w F F1 items M kn kl fn fl) : ∀ k, F k → k < w.heap.size := fun k hk => by
  rcases (h.ff k).1 hk with e | e | e
  · exact h.pg.lt k e
  · rw [e]; exact h.mn.lt
  · rw [e]; exact h.ml.lt
theorem RdR.up {T0 : Tr} {p : Nat} {vs : Value} {x bn bl : Nat} {w w' : World} {F F1 : Nat → Prop} {items : List It} {M : Mt} {kn kl : List Nat} {fn fl : Nat → Option Value} (h : RdR T0 p vs x bn bl w F F1 items M kn kl fn fl) (hb : Below w.heap.size w w') : RdR T0 p vs x bn bl w' F F1 items M kn kl fn fl :=
  ⟨h.pg.up hb, h.mn.far (hb.block _ h.mn.lt), h.ml.far (hb.block _ h.ml.lt), h.ne, h.nn, h.nl, h.ff, fun i v hv => (h.tn i v hv).go (Fr.ofBelow hb) (List.prefix_refl _) (List.prefix_refl _), fun i v hv => (h.tl i v hv).go (Fr.ofBelow hb) (List.prefix_refl _) (List.prefix_refl _)⟩
theorem rdO_obj (T0 : Tr) (p : Nat) (vs : Value) (x bn bl : Nat) : ObjC (RdO T0 p vs x bn bl) :=
  ⟨fun ⟨_, _, _, _, _, h⟩ => h.lt, fun ⟨F1, kn, kl, fn, fl, h⟩ hb => ⟨F1, kn, kl, fn, fl, h.up hb⟩⟩
/-- The prog has changed. -/
theorem RdR.prog {T0 : Tr} {p : Nat} {vs : Value} {x bn bl : Nat} {w w' : World} {F F1 F1' : Nat → Prop} {items items' : List It} {M M' : Mt} {kn kl : List Nat} {fn fl : Nat → Option Value} (h : RdR T0 p vs x bn bl w F F1 items M kn kl fn fl) (hp : PgO T0 w' F1' p vs items' M') (fr : Fr w w' F1 F1') (hi : items <+: items') (hM : M <+: M') :
    RdR T0 p vs x bn bl w' (fun k => F1' k ∨ k = bn ∨ k = bl) F1' items' M' kn kl fn fl ∧ Fr w w' F (fun k => F1' k ∨ k = bn ∨ k = bl) := by
  have fr2 : Fr w w' F (fun k => F1' k ∨ k = bn ∨ k = bl) := ⟨fr.os, fr.tape, fr.output, fr.size, fun k hk hF => fr.keep k hk fun e => hF ((h.ff k).2 (Or.inl e)), fun k hk => by
    rcases hk with e | e | e
    · exact (fr.foot k e).imp (fun e => (h.ff k).2 (Or.inl e)) id
    · exact Or.inl ((h.ff k).2 (Or.inr (Or.inl e)))
    · exact Or.inl ((h.ff k).2 (Or.inr (Or.inr e)))⟩
  exact ⟨⟨hp, h.mn.far (fr.keep _ h.mn.lt h.nn), h.ml.far (fr.keep _ h.ml.lt h.nl), h.ne, fr.out h.nn h.mn.lt, fr.out h.nl h.ml.lt, fun k => Iff.rfl, fun i v hv => (h.tn i v hv).go fr2 hi hM, fun i v hv => (h.tl i v hv).go fr2 hi hM⟩, fr2⟩
theorem keys_few {items : List It} {ks : List Nat} (hn : ks.Nodup) (h : ∀ i ∈ ks, i < items.length) : ks.length ≤ items.length := by
  have := nodup_le (m := List.range items.length) hn fun i hi => List.mem_range.2 (h i hi)
  simpa using this
end Go.Proofs.YtnedkpbpeolfoaaDoor
namespace Go.Proofs.YtnedkpbpeolfoaaDoor
open Go.RowKit Go.Maps
section
variable {T0 : Tr} {p : Nat} {vs : Value} {x bn bl : Nat} {w w' : World} {F F1 : Nat → Prop} {items : List It} {M : Mt} {kn kl kn' : List Nat} {fn fl fn' : Nat → Option Value}
theorem RdR.putN (h : RdR T0 p vs x bn bl w F F1 items M kn kl fn fl) (hm : MemM w' bn kn' fn') (hg : w.grownBy w' (some bn)) (ht : ∀ i v, fn' i = some v → Told w F items M needM i v) : RdR T0 p vs x bn bl w' F F1 items M kn' kl fn' fl ∧ Fr w w' F F := by
  have st : ∀ k, k < w.heap.size → k ≠ bn → w'.heap[k]? = w.heap[k]? := fun k hk hne => hg.block k hk (fun e => hne (by injection e))
  have fr : Fr w w' F F := ⟨hg.os, hg.tape, hg.output, hg.size, fun k hk hF => st k hk fun e => hF ((h.ff k).2 (Or.inr (Or.inl e))), fun _ hk => Or.inl hk⟩
  exact ⟨⟨h.pg.far fun k hk => st k (h.pg.lt k hk) (fun e => h.nn (e ▸ hk)), hm, h.ml.far (st bl h.ml.lt (fun e => h.ne e.symm)), h.ne, h.nn, h.nl, h.ff, fun i v hv => (ht i v hv).go fr (List.prefix_refl _) (List.prefix_refl _), fun i v hv => (h.tl i v hv).go fr (List.prefix_refl _) (List.prefix_refl _)⟩, fr⟩
theorem RdR.putL (h : RdR T0 p vs x bn bl w F F1 items M kn kl fn fl) (hm : MemM w' bl kn' fn') (hg : w.grownBy w' (some bl)) (ht : ∀ i v, fn' i = some v → Told w F items M (fun S => aftC S x) i v) : RdR T0 p vs x bn bl w' F F1 items M kn kn' fn fn' ∧ Fr w w' F F := by
  have st : ∀ k, k < w.heap.size → k ≠ bl → w'.heap[k]? = w.heap[k]? := fun k hk hne => hg.block k hk (fun e => hne (by injection e))
  have fr : Fr w w' F F := ⟨hg.os, hg.tape, hg.output, hg.size, fun k hk hF => st k hk fun e => hF ((h.ff k).2 (Or.inr (Or.inr e))), fun _ hk => Or.inl hk⟩
  exact ⟨⟨h.pg.far fun k hk => st k (h.pg.lt k hk) (fun e => h.nl (e ▸ hk)), h.mn.far (st bn h.mn.lt h.ne), hm, h.ne, h.nn, h.nl, h.ff, fun i v hv => (h.tn i v hv).go fr (List.prefix_refl _) (List.prefix_refl _), fun i v hv => (ht i v hv).go fr (List.prefix_refl _) (List.prefix_refl _)⟩, fr⟩
theorem RdR.small (h : RdR T0 p vs x bn bl w F F1 items M kn kl fn fl) : items.length ≤ 20000000 ∧ kn.length ≤ 20000000 ∧ kl.length ≤ 20000000 := by
  obtain ⟨G, rest, hpo⟩ := h.pg.part
  have hf := hpo.few
  obtain ⟨D, _, _, _, nd1, k1, _⟩ := h.mn
  obtain ⟨D2, _, _, _, nd2, k2, _⟩ := h.ml
  have a := keys_few (items := items) nd1 fun i hi => by
    obtain ⟨v, hv⟩ := Option.isSome_iff_exists.1 ((k1 i).2 hi)
    obtain ⟨_, _, _, _, _, _, _, hr, _⟩ := h.tn i v hv
    exact hr.lt
  have b := keys_few (items := items) nd2 fun i hi => by
    obtain ⟨v, hv⟩ := Option.isSome_iff_exists.1 ((k2 i).2 hi)
    obtain ⟨_, _, _, _, _, _, _, hr, _⟩ := h.tl i v hv
    exact hr.lt
  omega
end
set_option maxRecDepth 100000 in
theorem Tryd.ent_need : EntersF 41 := fun _ _ => rfl
set_option maxRecDepth 100000 in
theorem Tryd.ent_leaves : EntersF 51 := fun _ _ => rfl
theorem need_lst {S : Tr} {M M' : Mt} {L : List Nat} (hM : GoodM M) (hS : KT S) (h : needM S M = some (L, M')) : LstH L ∧ M <+: M' := by
  have ex := (need_ok S hM hS h).1
  exact ⟨⟨lt_of_bd ex.bd ex.good.few, need_len S h⟩, ex.pre⟩
set_option maxRecDepth 100000 in
set_option maxHeartbeats 8000000 in
/-- What a formula needs, told once. -/
theorem Tryd.pneeds_any {T0 : Tr} {p : Nat} {vs : Value} {x bn bl : Nat} {w : World} {F : Nat → Prop} {items : List It} {M : Mt} (h : RdO T0 p vs x bn bl w F items M) (i : Nat) (S : Tr) (hi : Rep items i S) (kS : KT S) (hS : InC T0 S) :
    Calls Tryd.prog 63 #[rdV p x bn bl, .int .i64 (i : Int)] w (RetQ (RdO T0 p vs x bn bl) w F items M (needM S M)) := by
  obtain ⟨F1, kn, kl, fn, fl, hr⟩ := h
  have hb := below_new w (rdO p x bn bl)
  have hr1 := hr.up hb
  have hbx := (MapKept.heap_alloc w (rdO p x bn bl)).1
  have hsm := hr.small
  have hil := hi.lt
  have hlk := hr1.mn.look (i := i) (by omega)
  have jj : Calls Tryd.prog 50 #[.map (some bn), .int .i64 (i : Int), .func (.func 41) #[.pointer (some ⟨p, 0, none⟩)] #[]] (w.alloc (rdO p x bn bl)) (RetQ (RdO T0 p vs x bn bl) w F items M (needM S M)) := by
    cases hf : fn i with
    | some v =>
      rw [hf] at hlk
      obtain ⟨a, c, l, S', rfl, hU, hl, hrep, hag⟩ := hr1.tn i v hf
      have e := Rep.tree hrep hi
      subst e
      refine (Tryd.ponce_hit bn i _ _ _ _ hlk).mono ?_
      rintro e w' ⟨rfl, rfl⟩
      exact ⟨F, items, Fr.ofBelow hb, List.prefix_refl _, Or.inl ⟨l, M, a, c, hag M (List.prefix_refl _), rfl, hU, F1, kn, kl, fn, fl, hr1⟩⟩
    | none =>
      rw [hf] at hlk
      refine Tryd.ponce_miss bn i _ _ _ _ Tryd.ent_need hlk ?_
      refine (Tryd.pneed_any S kS hS _ F1 items M i hr1.pg hi).mono ?_
      rintro e w1 ⟨F1', i1, fr1, hp1, ⟨L, M1, q, d, hs, rfl, hU, hO⟩ | ⟨hs, rfl, M1, hM1, hO⟩⟩
      · obtain ⟨hL, hpre⟩ := need_lst hr.pg.good kS hs
        obtain ⟨hr2, fr2⟩ := hr1.prog hO fr1 hp1 hpre
        obtain ⟨w2, hrun, hm2, hg2⟩ := hr2.mn.put (by have := hr2.small; omega) (i := i) (by omega) (.slice q L.length d)
        have hU2 : US w1 (fun k => F1' k ∨ k = bn ∨ k = bl) q L.length d L := ⟨hU.sl, fun k hk hF => by
          rcases hF with e | e | e
          · exact hU.nf k hk e
          · have hc := hU.sl.cell k hk
            obtain ⟨es, cl, hmap⟩ := hr2.mn.isMap
            rw [← e] at hmap
            unfold World.cell? at hc
            rw [hmap] at hc
            simp at hc
          · have hc := hU.sl.cell k hk
            obtain ⟨es, cl, hmap⟩ := hr2.ml.isMap
            rw [← e] at hmap
            unfold World.cell? at hc
            rw [hmap] at hc
            simp at hc⟩
        obtain ⟨hr3, fr3⟩ := hr2.putN hm2 hg2 fun y v hv => by
          by_cases e : y = i
          · subst e
            simp at hv
            subst hv
            exact ⟨q, d, L, S, rfl, hU2, hL, hi.pre hp1, fun M2 h2 => (again_need S M L M1 hs).2 M2 h2⟩
          · simp [e] at hv
            exact hr2.tn y v hv
        exact Or.inl ⟨_, w2, rfl, hrun, _, i1, ((Fr.ofBelow hb).trans fr2).trans fr3, hp1, Or.inl ⟨L, M1, q, d, hs, rfl, hU2.fr fr3, _, _, _, _, _, hr3⟩⟩
      · obtain ⟨hr2, fr2⟩ := hr1.prog hO fr1 hp1 hM1
        exact Or.inr ⟨rfl, _, i1, (Fr.ofBelow hb).trans fr2, hp1, Or.inr ⟨hs, rfl, M1, hM1, _, _, _, _, _, hr2⟩⟩
  have b0 : (w.alloc (rdO p x bn bl)).cell? ⟨w.heap.size, 0, none⟩ = some (.pointer (some ⟨p, 0, none⟩)) := cell_row hbx 0
  have b2 : (w.alloc (rdO p x bn bl)).cell? ⟨w.heap.size, 2, none⟩ = some (.map (some bn)) := cell_row hbx 2
  generalize needM S M = r at *
  clear hr hr1 hb hbx hsm hil hlk hi kS hS
  obtain ⟨Q, hQ⟩ : ∃ Q : Ending → World → Prop, Q = RetQ (RdO T0 p vs x bn bl) w F items M r := ⟨_, rfl⟩
  rw [← hQ]
  have HQ : Hid (Q = RetQ (RdO T0 p vs x bn bl) w F items M r) := hQ
  clear hQ
  unfold rdO rdV at *
  go_enter Tryd.func63, Tryd.ntmps63
  go_wp2_with fail
  refine jj.mono ?_
  intro e w1 hq
  have hq' := hq
  obtain ⟨F', i', _, _, ⟨L, M', q, d, _, rfl, _⟩ | ⟨_, rfl, _⟩⟩ := hq'
  · have HE : Hid (Q (.returned (.slice q L.length d)) w1) := by show Q _ _; rw [HQ.out]; exact hq
    clear jj hq
    go_wp2
    exact HE.out
  · refine ⟨rfl, ?_⟩
    rw [HQ.out]; exact hq
theorem yes_len (b : Bool) : (yesM b).length ≤ 1024 := by cases b <;> decide
/-- How long what is left is. -/
theorem len_both (x : Nat) : ∀ n, (∀ T M L M', aftM n T x M = some (L, M') → L.length ≤ 1024) ∧ (∀ box r s f M L M', pthM n box r s f x M = some (L, M') → L.length ≤ 1024)
  | 0 => ⟨fun T M L M' h => (by rw [aftM_zero] at h; cases h), fun box r s f M L M' h => (by rw [pthM_zero] at h; cases h)⟩
  | n + 1 => by
    obtain ⟨ih, jh⟩ := len_both x n
    refine ⟨fun T M L M' h => ?_, fun box r s f M L M' h => ?_⟩
    · match T, h with
      | .leaf k, h =>
        rw [aftM_leaf] at h
        injection h with h; injection h with h1 _; subst h1; exact yes_len _
      | .un k c, h =>
        rw [aftM_un] at h
        split at h
        · injection h with h; injection h with h1 _; subst h1; exact yes_len _
        · split at h
          · obtain ⟨_, _, _, h2⟩ := bindM_some h
            obtain ⟨_, _, _, h3⟩ := bindM_some h2
            exact two_len h3
          · obtain ⟨_, _, _, h2⟩ := bindM_some h
            obtain ⟨_, _, _, h3⟩ := bindM_some h2
            exact two_len h3
      | .bin k c d, h =>
        rw [aftM_bin] at h
        split at h
        · obtain ⟨_, _, _, h2⟩ := bindM_some h
          obtain ⟨_, _, _, h3⟩ := bindM_some h2
          exact two_len h3
        · split at h
          · obtain ⟨_, _, _, h2⟩ := bindM_some h
            obtain ⟨_, _, _, h3⟩ := bindM_some h2
            obtain ⟨_, _, _, h4⟩ := bindM_some h3
            obtain ⟨_, _, _, h5⟩ := bindM_some h4
            exact two_len h5
          · obtain ⟨_, _, _, h2⟩ := bindM_some h
            exact jh _ _ _ _ _ _ _ h2
    · match r, h with
      | .leaf k, h => rw [pthM_leaf] at h; cases h
      | .un k c, h =>
        rw [pthM_un] at h
        split at h
        · split at h
          · exact need_len f h
          · injection h with h; injection h with h1 _; subst h1; exact yes_len _
        · split at h
          · obtain ⟨_, _, _, h2⟩ := bindM_some h
            exact two_len h2
          · obtain ⟨_, _, _, h2⟩ := bindM_some h
            exact two_len h2
      | .bin k c d, h =>
        rw [pthM_bin] at h
        split at h
        · obtain ⟨_, _, _, h2⟩ := bindM_some h
          obtain ⟨_, _, _, h3⟩ := bindM_some h2
          exact two_len h3
        · obtain ⟨_, _, _, h2⟩ := bindM_some h
          exact jh _ _ _ _ _ _ _ h2
/-- What leaves, after do of a formula. -/
def LvQ (T0 : Tr) (p : Nat) (vs : Value) (x bn bl : Nat) (f : FuncId) (S : Tr) : Prop := ∀ (w : World) (F : Nat → Prop) (items : List It) (M : Mt) (i : Nat), RdO T0 p vs x bn bl w F items M → Rep items i S → Calls Tryd.prog f #[rdV p x bn bl, .int .i64 (i : Int)] w (RetQ (RdO T0 p vs x bn bl) w F items M (aftC S x M))
set_option maxRecDepth 100000 in
set_option maxHeartbeats 8000000 in
/-- What a formula leaves, told once. -/
theorem Tryd.pafter_of {T0 : Tr} {p : Nat} {vs : Value} {x bn bl : Nat} {S : Tr} (kS : KT S) (hlv : LvQ T0 p vs x bn bl 51 S) (hlen : ∀ M L M', GoodM M → aftC S x M = some (L, M') → LstH L ∧ M <+: M') : LvQ T0 p vs x bn bl 34 S := by
  intro w F items M i h hi
  obtain ⟨F1, kn, kl, fn, fl, hr⟩ := h
  have hb := below_new w (rdO p x bn bl)
  have hr1 := hr.up hb
  have hbx := (MapKept.heap_alloc w (rdO p x bn bl)).1
  have hsm := hr.small
  have hil := hi.lt
  have hlk := hr1.ml.look (i := i) (by omega)
  have jj : Calls Tryd.prog 50 #[.map (some bl), .int .i64 (i : Int), .func (.func 51) #[rdV p x bn bl] #[]] (w.alloc (rdO p x bn bl)) (RetQ (RdO T0 p vs x bn bl) w F items M (aftC S x M)) := by
    cases hf : fl i with
    | some v =>
      rw [hf] at hlk
      obtain ⟨a, c, l, S', rfl, hU, hl, hrep, hag⟩ := hr1.tl i v hf
      have e := Rep.tree hrep hi
      subst e
      refine (Tryd.ponce_hit bl i _ _ _ _ hlk).mono ?_
      rintro e w' ⟨rfl, rfl⟩
      exact ⟨F, items, Fr.ofBelow hb, List.prefix_refl _, Or.inl ⟨l, M, a, c, hag M (List.prefix_refl _), rfl, hU, F1, kn, kl, fn, fl, hr1⟩⟩
    | none =>
      rw [hf] at hlk
      refine Tryd.ponce_miss bl i _ _ _ _ Tryd.ent_leaves hlk ?_
      refine (hlv _ F items M i ⟨F1, kn, kl, fn, fl, hr1⟩ hi).mono ?_
      rintro e w1 ⟨F', i1, fr1, hp1, ⟨L, M1, q, d, hs, rfl, hU, F2, kn2, kl2, fn2, fl2, hr2⟩ | ⟨hs, rfl, M1, hM1, hO⟩⟩
      · obtain ⟨hL, hpre⟩ := hlen M L M1 hr.pg.good hs
        obtain ⟨w2, hrun, hm2, hg2⟩ := hr2.ml.put (by have := hr2.small; omega) (i := i) (by omega) (.slice q L.length d)
        obtain ⟨hr3, fr3⟩ := hr2.putL hm2 hg2 fun y v hv => by
          by_cases e : y = i
          · subst e
            simp at hv
            subst hv
            exact ⟨q, d, L, S, rfl, hU, hL, hi.pre hp1, fun M2 h2 => (again_aft S x M L M1 hs).2 M2 h2⟩
          · simp [e] at hv
            exact hr2.tl y v hv
        exact Or.inl ⟨_, w2, rfl, hrun, _, i1, ((Fr.ofBelow hb).trans fr1).trans fr3, hp1, Or.inl ⟨L, M1, q, d, hs, rfl, hU.fr fr3, _, _, _, _, _, hr3⟩⟩
      · exact Or.inr ⟨rfl, F', i1, (Fr.ofBelow hb).trans fr1, hp1, Or.inr ⟨hs, rfl, M1, hM1, hO⟩⟩
  have b0 : (w.alloc (rdO p x bn bl)).cell? ⟨w.heap.size, 0, none⟩ = some (.pointer (some ⟨p, 0, none⟩)) := cell_row hbx 0
  have b1 : (w.alloc (rdO p x bn bl)).cell? ⟨w.heap.size, 1, none⟩ = some (.int .u8 (x : Int)) := cell_row hbx 1
  have b2 : (w.alloc (rdO p x bn bl)).cell? ⟨w.heap.size, 2, none⟩ = some (.map (some bn)) := cell_row hbx 2
  have b3 : (w.alloc (rdO p x bn bl)).cell? ⟨w.heap.size, 3, none⟩ = some (.map (some bl)) := cell_row hbx 3
  generalize aftC S x M = r at *
  clear hr hr1 hb hbx hsm hil hlk hi kS hlv hlen
  obtain ⟨Q, hQ⟩ : ∃ Q : Ending → World → Prop, Q = RetQ (RdO T0 p vs x bn bl) w F items M r := ⟨_, rfl⟩
  rw [← hQ]
  have HQ : Hid (Q = RetQ (RdO T0 p vs x bn bl) w F items M r) := hQ
  clear hQ
  unfold rdO rdV at *
  go_enter Tryd.func34, Tryd.ntmps34
  go_wp2_with fail
  refine jj.mono ?_
  intro e w1 hq
  have hq' := hq
  obtain ⟨F', i', _, _, ⟨L, M', q, d, _, rfl, _⟩ | ⟨_, rfl, _⟩⟩ := hq'
  · have HE : Hid (Q (.returned (.slice q L.length d)) w1) := by show Q _ _; rw [HQ.out]; exact hq
    clear jj hq
    go_wp2
    exact HE.out
  · refine ⟨rfl, ?_⟩
    rw [HQ.out]; exact hq
end Go.Proofs.YtnedkpbpeolfoaaDoor
namespace Go.Proofs.YtnedkpbpeolfoaaDoor
open Go.RowKit Go.Maps
/-- A list that says something of what was met. -/
structure LG (M : Mt) (L : List Nat) (M' : Mt) : Prop where
  bd : BdL L M'.length
  len : L.length ≤ 1024
  pre : M <+: M'
  good : GoodM M'
theorem LG.lst {M M' : Mt} {L : List Nat} (h : LG M L M') : LstH L := ⟨lt_of_bd h.bd h.good.few, h.len⟩
theorem need_lg {S : Tr} {M M' : Mt} {L : List Nat} (hM : GoodM M) (kS : KT S) (h : needM S M = some (L, M')) : LG M L M' := by
  have ex := (need_ok S hM kS h).1
  exact ⟨ex.bd, need_len S h, ex.pre, ex.good⟩
theorem aft_lg {S : Tr} {x : Nat} {M M' : Mt} {L : List Nat} (hM : GoodM M) (kS : KT S) (h : aftC S x M = some (L, M')) : LG M L M' := by
  have ex := ((both_ok (hgt S)).1 S x M M' L hM kS h).1
  exact ⟨ex.bd, (len_both x (hgt S)).1 S M L M' h, ex.pre, ex.good⟩
theorem pth_lg {box : Bool} {r f : Tr} {s : List Nat} {x : Nat} {M M' : Mt} {L : List Nat} (hM : GoodM M) (kr : KP r) (kf : KT f) (hs : BdL s M.length) (h : pthC box r s f x M = some (L, M')) : LG M L M' := by
  have ex := ((both_ok (hgt r)).2 box r f s x M M' L hM kr kf hs h).1
  exact ⟨ex.bd, (len_both x (hgt r)).2 box r s f M L M' h, ex.pre, ex.good⟩
theorem two_lg {and : Bool} {a b : List Nat} {M M' : Mt} {l : List Nat} (hM : GoodM M) (ha : BdL a M.length) (hb : BdL b M.length) (h : twoM and a b M = some (l, M')) : LG M l M' := by
  have e := (twoM_some h).1
  have hl := two_len h
  have hbd := two_bd h ha hb
  subst e
  exact ⟨hbd, hl, List.prefix_refl _, hM⟩
theorem LG.mono {M M' M'' : Mt} {L : List Nat} (h : LG M L M') (hp : M' <+: M'') : BdL L M''.length := h.bd.mono hp.length_le
/-- On the way of a call: the reading's box, the item's box, the object as it is by now. -/
structure MidR (T0 : Tr) (p : Nat) (vs : Value) (x bn bl : Nat) (w : World) (F : Nat → Prop) (items : List It) (M : Mt) (B : Nat) (o : Obj) (wj : World) (Fj : Nat → Prop) (ij : List It) (Mj : Mt) : Prop where
  obj : RdO T0 p vs x bn bl wj Fj ij Mj
  fr : Fr w wj F Fj
  hi : items <+: ij
  hM : M <+: Mj
  good : GoodM Mj
  rb : wj.heap[B]? = some (rdO p x bn bl)
  rn : ¬ Fj B
  xb : wj.heap[B + 1]? = some o
  xn : ¬ Fj (B + 1)
section
variable {T0 : Tr} {p : Nat} {vs : Value} {x bn bl : Nat} {w : World} {F : Nat → Prop} {items : List It} {M : Mt} {B : Nat} {o : Obj} {wj wk : World} {Fj Fk : Nat → Prop} {ij ik : List It} {Mj Mk : Mt}
theorem MidR.step (h : MidR T0 p vs x bn bl w F items M B o wj Fj ij Mj) (fr : Fr wj wk Fj Fk) (hp : ij <+: ik) (hO : RdO T0 p vs x bn bl wk Fk ik Mk) (hm : Mj <+: Mk) (hg : GoodM Mk) : MidR T0 p vs x bn bl w F items M B o wk Fk ik Mk :=
  ⟨hO, h.fr.trans fr, h.hi.trans hp, h.hM.trans hm, hg, (box_keep h.rb h.rn fr).1, (box_keep h.rb h.rn fr).2, (box_keep h.xb h.xn fr).1, (box_keep h.xb h.xn fr).2⟩
theorem MidR.bad (h : MidR T0 p vs x bn bl w F items M B o wj Fj ij Mj) {R : Rt} (hR : R = none) (fr : Fr wj wk Fj Fk) (hp : ij <+: ik) (hm : Mj <+: Mk) (hO : RdO T0 p vs x bn bl wk Fk ik Mk) : RetQ (RdO T0 p vs x bn bl) w F items M R (.panicked thrownP) wk :=
  ⟨Fk, ik, h.fr.trans fr, h.hi.trans hp, Or.inr ⟨hR, rfl, Mk, h.hM.trans hm, hO⟩⟩
theorem MidR.fin (h : MidR T0 p vs x bn bl w F items M B o wj Fj ij Mj) {R : Rt} {L : List Nat} {q : Option Addr} {d : Nat} (hR : R = some (L, Mk)) (fr : Fr wj wk Fj Fk) (hp : ij <+: ik) (hU : US wk Fk q L.length d L) (hO : RdO T0 p vs x bn bl wk Fk ik Mk) : RetQ (RdO T0 p vs x bn bl) w F items M R (.returned (.slice q L.length d)) wk :=
  ⟨Fk, ik, h.fr.trans fr, h.hi.trans hp, Or.inl ⟨L, Mk, q, d, hR, rfl, hU, hO⟩⟩
/-- The cells that are read on the way. -/
def MidS (p x bn bl B : Nat) (xa xb : Int) (w' : World) : Prop := (w'.cell? ⟨B, 0, none⟩ = some (.pointer (some ⟨p, 0, none⟩)) ∧ w'.cell? ⟨B, 1, none⟩ = some (.int .u8 (x : Int)) ∧ w'.cell? ⟨B, 2, none⟩ = some (.map (some bn)) ∧ w'.cell? ⟨B, 3, none⟩ = some (.map (some bl))) ∧ w'.cell? ⟨B + 1, 2, none⟩ = some (.int .i64 xa) ∧ w'.cell? ⟨B + 1, 3, none⟩ = some (.int .i64 xb)
theorem MidR.cells {op pp : Nat} {xa xb : Int} (h : MidR T0 p vs x bn bl w F items M B (itO ⟨op, pp, xa, xb⟩) wj Fj ij Mj) : MidS p x bn bl B xa xb wj := ⟨⟨cell_row h.rb 0, cell_row h.rb 1, cell_row h.rb 2, cell_row h.rb 3⟩, cell_row h.xb 2, cell_row h.xb 3⟩
end
/-- The world in which a reading's call has its two boxes. -/
def boxW (w : World) (p x bn bl op pp : Nat) (xa xb : Int) : World := ((w.alloc (rdO p x bn bl)).alloc (itO ⟨op, pp, xa, xb⟩))
theorem mid_start {T0 : Tr} {p : Nat} {vs : Value} {x bn bl : Nat} {w : World} {F : Nat → Prop} {items : List It} {M : Mt} (h : RdO T0 p vs x bn bl w F items M) (op pp : Nat) (xa xb : Int) :
    MidR T0 p vs x bn bl w F items M w.heap.size (itO ⟨op, pp, xa, xb⟩) (boxW w p x bn bl op pp xa xb).drew F items M ∧ MidR T0 p vs x bn bl w F items M w.heap.size (itO ⟨op, pp, xa, xb⟩) (boxW w p x bn bl op pp xa xb) F items M := by
  have hb1 := below_new w (rdO p x bn bl)
  have hb2 := below_new (w.alloc (rdO p x bn bl)) (itO ⟨op, pp, xa, xb⟩)
  have hb : Below w.heap.size w (boxW w p x bn bl op pp xa xb) := below_step hb1 hb2
  have hz : (w.alloc (rdO p x bn bl)).heap.size = w.heap.size + 1 := by simp
  have hg : GoodM M := by obtain ⟨_, _, _, _, _, hr⟩ := h; exact hr.pg.good
  have hlt := (rdO_obj T0 p vs x bn bl).lt h
  have r1 : (boxW w p x bn bl op pp xa xb).heap[w.heap.size]? = some (rdO p x bn bl) := (hb2.block _ (by omega)).trans (MapKept.heap_alloc w _).1
  have r2 : (boxW w p x bn bl op pp xa xb).heap[w.heap.size + 1]? = some (itO ⟨op, pp, xa, xb⟩) := by
    have := (MapKept.heap_alloc (w.alloc (rdO p x bn bl)) (itO ⟨op, pp, xa, xb⟩)).1
    rw [hz] at this
    exact this
  have n1 : ¬ F w.heap.size := fun e => by have := hlt _ e; omega
  have n2 : ¬ F (w.heap.size + 1) := fun e => by have := hlt _ e; omega
  exact ⟨⟨(rdO_obj T0 p vs x bn bl).up h hb.drew, Fr.ofBelow hb.drew, List.prefix_refl _, List.prefix_refl _, hg, r1, n1, r2, n2⟩, ⟨(rdO_obj T0 p vs x bn bl).up h hb, Fr.ofBelow hb, List.prefix_refl _, List.prefix_refl _, hg, r1, n1, r2, n2⟩⟩
/-- What keeping a part answers, of a reading. -/
def KeptQ (T0 : Tr) (p : Nat) (vs : Value) (x bn bl : Nat) (w : World) (F : Nat → Prop) (items : List It) (M : Mt) (S : Tr) (e : Ending) (w' : World) : Prop :=
  ∃ (j : Nat) (items' : List It) (F' : Nat → Prop), e = .returned (.int .i64 (j : Int)) ∧ items <+: items' ∧ Rep items' j S ∧ Fr w w' F F' ∧ RdO T0 p vs x bn bl w' F' items' M
theorem kept_of {T0 : Tr} {p : Nat} {vs : Value} {x bn bl : Nat} {w : World} {F : Nat → Prop} {items : List It} {M : Mt} {S : Tr} {f : FuncId} {args : Array Value} (h : RdO T0 p vs x bn bl w F items M)
    (hc : ∀ G rest, PtO T0 w G p 33 rest items → Calls Tryd.prog f args w (KeepR T0 w G p 33 rest items (IsN S))) : Calls Tryd.prog f args w (KeptQ T0 p vs x bn bl w F items M S) := by
  obtain ⟨F1, kn, kl, fn, fl, hr⟩ := h
  obtain ⟨G, mn, vm, met, hg, hF⟩ := hr.pg.ex
  refine (hc G _ hg.po).mono ?_
  rintro e w' ⟨j, rfl, i', G', hp, ⟨m, rfl, hrep⟩, hpo, fr⟩
  obtain ⟨hg2, fr2⟩ := hg.part hpo hp fr
  have hpg : PgO T0 w' (FQ G' mn vm) p vs i' M := ⟨hr.pg.few, hr.pg.nd, hr.pg.of, G', mn, vm, met, hg2, fun k => Iff.rfl⟩
  obtain ⟨hr2, fr3⟩ := hr.prog hpg (fr2.alike (fun k hk => (hF k).2 hk) (fun k hk => hk)) hp (List.prefix_refl _)
  exact ⟨m, i', _, rfl, hp, hrep, fr3, _, _, _, _, _, hr2⟩
end Go.Proofs.YtnedkpbpeolfoaaDoor
namespace Go.Proofs.YtnedkpbpeolfoaaDoor
open Go.RowKit Go.Maps
set_option maxRecDepth 100000 in
set_option maxHeartbeats 8000000 in
theorem Tryd.plv_two {T0 : Tr} {p : Nat} {vs : Value} {x bn bl : Nat} (op : Nat) (ho : op = 11 ∨ op = 12) (c d : Tr) (kS : KT (.bin (op, 0) c d)) (hc : LvQ T0 p vs x bn bl 34 c) (hd : LvQ T0 p vs x bn bl 34 d) : LvQ T0 p vs x bn bl 51 (.bin (op, 0) c d) := by
  intro w F items M i h hi
  obtain ⟨pp, m, l, hx, hm, hl⟩ : ∃ pp m l : Nat, items[i]? = some ⟨op, pp, (m : Int), (l : Int)⟩ ∧ Rep items m c ∧ Rep items l d := by cases hi with | bin h h1 h2 h3 h4 => exact ⟨0, _, _, h, h3, h4⟩
  obtain ⟨F1, _, _, _, _, hrd⟩ := id h
  obtain ⟨G, rest, hpo⟩ := hrd.pg.part
  obtain ⟨a, n, cap, g, o, c0, hidx, x0, x1, x2, x3⟩ := (hpo.up (below_new w (rdO p x bn bl))).at hx
  obtain ⟨m0, m00⟩ := mid_start h op pp (m : Int) ((l : Int))
  have hk0 := m0.cells
  have hk00 := m00.cells
  have HCL : Hid (∀ w' : World, w'.heap[w.heap.size]? = some (rdO p x bn bl) → w'.heap[w.heap.size + 1]? = some (itO ⟨op, pp, (m : Int), (l : Int)⟩) → MidS p x bn bl w.heap.size (m : Int) ((l : Int)) w') := fun w' e1 e2 => ⟨⟨cell_row e1 0, cell_row e1 1, cell_row e1 2, cell_row e1 3⟩, cell_row e2 2, cell_row e2 3⟩
  have hbx := (MapKept.heap_alloc w (rdO p x bn bl)).1
  have r0 : (w.alloc (rdO p x bn bl)).cell? ⟨w.heap.size, 0, none⟩ = some (.pointer (some ⟨p, 0, none⟩)) := cell_row hbx 0
  obtain ⟨kc, kd⟩ := kt_and kS (by omega)
  have j1 := hc _ F items M m m0.obj hm
  obtain ⟨R, hR⟩ : ∃ R, R = aftC (.bin (op, 0) c d) x M := ⟨_, rfl⟩
  have HR0 : Hid (R = bindM (aftC c x M) fun a M1 => bindM (aftC d x M1) fun b M2 => twoM (op == 11) a b M2) := by show _ = _; rw [hR]; exact aftC_two kS ho x M
  rw [← hR]
  obtain ⟨Q, hQ⟩ : ∃ Q : Ending → World → Prop, Q = RetQ (RdO T0 p vs x bn bl) w F items M R := ⟨_, rfl⟩
  have HQ : Hid (∀ e w', RetQ (RdO T0 p vs x bn bl) w F items M R e w' → Q e w') := fun e w' h => by rw [hQ]; exact h
  rw [← hQ]
  clear hrd hpo hR hQ hbx h hx
  have n0 : ((op : Int) == 0) = false := by rw [beq_eq_false_iff_ne]; omega
  have n4 : ((op : Int) == 4) = false := by rw [beq_eq_false_iff_ne]; omega
  have n1 : ((op : Int) == 1) = false := by rw [beq_eq_false_iff_ne]; omega
  have n5 : ((op : Int) == 5) = false := by rw [beq_eq_false_iff_ne]; omega
  have n2 : ((op : Int) == 2) = false := by rw [beq_eq_false_iff_ne]; omega
  have n6 : ((op : Int) == 6) = false := by rw [beq_eq_false_iff_ne]; omega
  have n7 : ((op : Int) == 7) = false := by rw [beq_eq_false_iff_ne]; omega
  have n8 : ((op : Int) == 8) = false := by rw [beq_eq_false_iff_ne]; omega
  have n15 : ((op : Int) == 15) = false := by rw [beq_eq_false_iff_ne]; omega
  have n16 : ((op : Int) == 16) = false := by rw [beq_eq_false_iff_ne]; omega
  have n17 : ((op : Int) == 17) = false := by rw [beq_eq_false_iff_ne]; omega

  rcases ho with ho | ho
  · have n11 : ((op : Int) == 11) = true := by rw [beq_iff_eq]; omega
    have ob11 : (op == 11) = true := by simp [ho]
    rw [ob11] at HR0
    clear ho ob11
    unfold boxW itO rdO MidS at *
    unfold rdV at *
    dsimp only at *
    go_enter Tryd.func51, Tryd.ntmps51
    go_wp2_with fail
    go_region_held2 (fun w' => (w'.cell? ⟨w.heap.size, 0, none⟩ = some (.pointer (some ⟨p, 0, none⟩)) ∧ w'.cell? ⟨w.heap.size, 1, none⟩ = some (.int .u8 (x : Int)) ∧ w'.cell? ⟨w.heap.size, 2, none⟩ = some (.map (some bn)) ∧ w'.cell? ⟨w.heap.size, 3, none⟩ = some (.map (some bl))) ∧ w'.cell? ⟨w.heap.size + 1, 2, none⟩ = some (.int .i64 (m : Int)) ∧ w'.cell? ⟨w.heap.size + 1, 3, none⟩ = some (.int .i64 (l : Int))) (first | exact hk0 | exact hk00 | assumption | fail) (first
      | (revert j1; intro j1; go_at_call 34; (with_reducible refine j1.mono ?_); rintro e w1 ⟨F1, i1, fr1, hp1, ⟨L1, M1, q1, d1, hs1, rfl, hU1, hO1⟩ | ⟨hs1, rfl, M1, hpm1, hO1⟩⟩; (case inr => exact ⟨rfl, HQ.out _ _ (m0.bad (by rw [HR0.out, hs1]; first | done | rfl) fr1 hp1 hpm1 hO1)⟩); have hr1 := HR0.out; rw [hs1] at hr1; dsimp only [bindM] at hr1; have HR1 : Hid _ := hr1; clear hr1; have l1 := aft_lg m0.good kc hs1; have m1 := m0.step fr1 hp1 hO1 l1.pre l1.good; have hk1 := HCL.out _ m1.rb m1.xb; have j2 := hd _ F1 i1 M1 l m1.obj (hl.pre m1.hi); unfold rdV at j2)
      | (revert j2; intro j2; go_at_call 34; (with_reducible refine j2.mono ?_); rintro e w2 ⟨F2, i2, fr2, hp2, ⟨L2, M2, q2, d2, hs2, rfl, hU2, hO2⟩ | ⟨hs2, rfl, M2, hpm2, hO2⟩⟩; (case inr => exact ⟨rfl, HQ.out _ _ (m1.bad (by rw [HR1.out, hs2]; first | done | rfl) fr2 hp2 hpm2 hO2)⟩); have hr2 := HR1.out; rw [hs2] at hr2; dsimp only [bindM] at hr2; have HR2 : Hid _ := hr2; clear hr2; have l2 := aft_lg m1.good kd hs2; have m2 := m1.step fr2 hp2 hO2 l2.pre l2.good; have hk2 := HCL.out _ m2.rb m2.xb; have j3 := Tryd.ptwo (rdO_obj T0 p vs x bn bl) true m2.obj (hU1.fr fr2) (hU2) l1.lst l2.lst; unfold twF at j3; simp only [if_true] at j3)
      | (revert j3; intro j3; go_at_call 33; (with_reducible refine j3.mono ?_); rintro e w3 ⟨F3, i3, fr3, hp3, ⟨L3, M3, q3, d3, hs3, rfl, hU3, hO3⟩ | ⟨hs3, rfl, M3, hpm3, hO3⟩⟩; (case inr => exact ⟨rfl, HQ.out _ _ (m2.bad (by rw [HR2.out, hs3]; first | done | rfl) fr3 hp3 hpm3 hO3)⟩); have hk3 : Hid (Q (.returned (.slice q3 L3.length d3)) w3) := (HQ.out _ _ (m2.fin (by rw [HR2.out, hs3]; first | done | rfl) fr3 hp3 hU3 hO3)); have hkk3 := HCL.out _ (box_keep m2.rb m2.rn fr3).1 (box_keep m2.xb m2.xn fr3).1)
      | fail)
    all_goals
      clear j1 j2 j3
      go_wp2
      exact hk3.out
  · have n11 : ((op : Int) == 11) = false := by rw [beq_eq_false_iff_ne]; omega
    have n12 : ((op : Int) == 12) = true := by rw [beq_iff_eq]; omega
    have ob11 : (op == 11) = false := by simp [ho]
    rw [ob11] at HR0
    clear ho ob11
    unfold boxW itO rdO MidS at *
    unfold rdV at *
    dsimp only at *
    go_enter Tryd.func51, Tryd.ntmps51
    go_wp2_with fail
    go_region_held2 (fun w' => (w'.cell? ⟨w.heap.size, 0, none⟩ = some (.pointer (some ⟨p, 0, none⟩)) ∧ w'.cell? ⟨w.heap.size, 1, none⟩ = some (.int .u8 (x : Int)) ∧ w'.cell? ⟨w.heap.size, 2, none⟩ = some (.map (some bn)) ∧ w'.cell? ⟨w.heap.size, 3, none⟩ = some (.map (some bl))) ∧ w'.cell? ⟨w.heap.size + 1, 2, none⟩ = some (.int .i64 (m : Int)) ∧ w'.cell? ⟨w.heap.size + 1, 3, none⟩ = some (.int .i64 (l : Int))) (first | exact hk0 | exact hk00 | assumption | fail) (first
      | (revert j1; intro j1; go_at_call 34; (with_reducible refine j1.mono ?_); rintro e w1 ⟨F1, i1, fr1, hp1, ⟨L1, M1, q1, d1, hs1, rfl, hU1, hO1⟩ | ⟨hs1, rfl, M1, hpm1, hO1⟩⟩; (case inr => exact ⟨rfl, HQ.out _ _ (m0.bad (by rw [HR0.out, hs1]; first | done | rfl) fr1 hp1 hpm1 hO1)⟩); have hr1 := HR0.out; rw [hs1] at hr1; dsimp only [bindM] at hr1; have HR1 : Hid _ := hr1; clear hr1; have l1 := aft_lg m0.good kc hs1; have m1 := m0.step fr1 hp1 hO1 l1.pre l1.good; have hk1 := HCL.out _ m1.rb m1.xb; have j2 := hd _ F1 i1 M1 l m1.obj (hl.pre m1.hi); unfold rdV at j2)
      | (revert j2; intro j2; go_at_call 34; (with_reducible refine j2.mono ?_); rintro e w2 ⟨F2, i2, fr2, hp2, ⟨L2, M2, q2, d2, hs2, rfl, hU2, hO2⟩ | ⟨hs2, rfl, M2, hpm2, hO2⟩⟩; (case inr => exact ⟨rfl, HQ.out _ _ (m1.bad (by rw [HR1.out, hs2]; first | done | rfl) fr2 hp2 hpm2 hO2)⟩); have hr2 := HR1.out; rw [hs2] at hr2; dsimp only [bindM] at hr2; have HR2 : Hid _ := hr2; clear hr2; have l2 := aft_lg m1.good kd hs2; have m2 := m1.step fr2 hp2 hO2 l2.pre l2.good; have hk2 := HCL.out _ m2.rb m2.xb; have j3 := Tryd.ptwo (rdO_obj T0 p vs x bn bl) false m2.obj (hU1.fr fr2) (hU2) l1.lst l2.lst; unfold twF at j3; simp only [Bool.false_eq_true, if_false] at j3)
      | (revert j3; intro j3; go_at_call 35; (with_reducible refine j3.mono ?_); rintro e w3 ⟨F3, i3, fr3, hp3, ⟨L3, M3, q3, d3, hs3, rfl, hU3, hO3⟩ | ⟨hs3, rfl, M3, hpm3, hO3⟩⟩; (case inr => exact ⟨rfl, HQ.out _ _ (m2.bad (by rw [HR2.out, hs3]; first | done | rfl) fr3 hp3 hpm3 hO3)⟩); have hk3 : Hid (Q (.returned (.slice q3 L3.length d3)) w3) := (HQ.out _ _ (m2.fin (by rw [HR2.out, hs3]; first | done | rfl) fr3 hp3 hU3 hO3)); have hkk3 := HCL.out _ (box_keep m2.rb m2.rn fr3).1 (box_keep m2.xb m2.xn fr3).1)
      | fail)
    all_goals
      clear j1 j2 j3
      go_wp2
      exact hk3.out
set_option maxRecDepth 100000 in
set_option maxHeartbeats 8000000 in
theorem Tryd.plv_until {T0 : Tr} {p : Nat} {vs : Value} {x bn bl : Nat} (op : Nat) (ho : op = 15 ∨ op = 16) (c d : Tr) (kS : KT (.bin (op, 0) c d)) (hS : InC T0 (.bin (op, 0) c d)) (hc : LvQ T0 p vs x bn bl 34 c) (hd : LvQ T0 p vs x bn bl 34 d) : LvQ T0 p vs x bn bl 51 (.bin (op, 0) c d) := by
  intro w F items M i h hi
  obtain ⟨pp, m, l, hx, hm, hl⟩ : ∃ pp m l : Nat, items[i]? = some ⟨op, pp, (m : Int), (l : Int)⟩ ∧ Rep items m c ∧ Rep items l d := by cases hi with | bin h h1 h2 h3 h4 => exact ⟨0, _, _, h, h3, h4⟩
  obtain ⟨F1, _, _, _, _, hrd⟩ := id h
  obtain ⟨G, rest, hpo⟩ := hrd.pg.part
  obtain ⟨a, n, cap, g, o, c0, hidx, x0, x1, x2, x3⟩ := (hpo.up (below_new w (rdO p x bn bl))).at hx
  obtain ⟨m0, m00⟩ := mid_start h op pp (m : Int) ((l : Int))
  have hk0 := m0.cells
  have hk00 := m00.cells
  have HCL : Hid (∀ w' : World, w'.heap[w.heap.size]? = some (rdO p x bn bl) → w'.heap[w.heap.size + 1]? = some (itO ⟨op, pp, (m : Int), (l : Int)⟩) → MidS p x bn bl w.heap.size (m : Int) ((l : Int)) w') := fun w' e1 e2 => ⟨⟨cell_row e1 0, cell_row e1 1, cell_row e1 2, cell_row e1 3⟩, cell_row e2 2, cell_row e2 3⟩
  have hbx := (MapKept.heap_alloc w (rdO p x bn bl)).1
  have r0 : (w.alloc (rdO p x bn bl)).cell? ⟨w.heap.size, 0, none⟩ = some (.pointer (some ⟨p, 0, none⟩)) := cell_row hbx 0
  obtain ⟨kc, kd⟩ := kt_and kS (by omega)
  have HI : Hid (Rep items i (.bin (op, 0) c d)) := hi
  have HKS : Hid (KT (.bin (op, 0) c d) ∧ InC T0 (.bin (op, 0) c d)) := ⟨kS, hS⟩
  have j1 := hd _ F items M l m0.obj hl
  obtain ⟨R, hR⟩ : ∃ R, R = aftC (.bin (op, 0) c d) x M := ⟨_, rfl⟩
  have HR0 : Hid (R = bindM (aftC d x M) fun b M1 => bindM (aftC c x M1) fun a M2 => bindM (needM (.bin (op, 0) c d) M2) fun u M3 => bindM (twoM (op == 15) a u M3) fun v M4 => twoM (op == 16) b v M4) := by show _ = _; rw [hR]; exact aftC_until kS ho x M
  rw [← hR]
  obtain ⟨Q, hQ⟩ : ∃ Q : Ending → World → Prop, Q = RetQ (RdO T0 p vs x bn bl) w F items M R := ⟨_, rfl⟩
  have HQ : Hid (∀ e w', RetQ (RdO T0 p vs x bn bl) w F items M R e w' → Q e w') := fun e w' h => by rw [hQ]; exact h
  rw [← hQ]
  clear hrd hpo hR hQ hbx h hx
  have n0 : ((op : Int) == 0) = false := by rw [beq_eq_false_iff_ne]; omega
  have n4 : ((op : Int) == 4) = false := by rw [beq_eq_false_iff_ne]; omega
  have n1 : ((op : Int) == 1) = false := by rw [beq_eq_false_iff_ne]; omega
  have n5 : ((op : Int) == 5) = false := by rw [beq_eq_false_iff_ne]; omega
  have n2 : ((op : Int) == 2) = false := by rw [beq_eq_false_iff_ne]; omega
  have n6 : ((op : Int) == 6) = false := by rw [beq_eq_false_iff_ne]; omega
  have n11 : ((op : Int) == 11) = false := by rw [beq_eq_false_iff_ne]; omega
  have n12 : ((op : Int) == 12) = false := by rw [beq_eq_false_iff_ne]; omega
  have n7 : ((op : Int) == 7) = false := by rw [beq_eq_false_iff_ne]; omega
  have n8 : ((op : Int) == 8) = false := by rw [beq_eq_false_iff_ne]; omega
  have n17 : ((op : Int) == 17) = false := by rw [beq_eq_false_iff_ne]; omega

  rcases ho with ho | ho
  · have n15 : ((op : Int) == 15) = true := by rw [beq_iff_eq]; omega
    have ob15 : (op == 15) = true := by simp [ho]
    have ob16 : (op == 16) = false := by simp [ho]
    rw [ob15, ob16] at HR0
    clear ho ob15 ob16
    unfold boxW itO rdO MidS at *
    unfold rdV at *
    dsimp only at *
    go_enter Tryd.func51, Tryd.ntmps51
    go_wp2_with fail
    go_region_held2 (fun w' => (w'.cell? ⟨w.heap.size, 0, none⟩ = some (.pointer (some ⟨p, 0, none⟩)) ∧ w'.cell? ⟨w.heap.size, 1, none⟩ = some (.int .u8 (x : Int)) ∧ w'.cell? ⟨w.heap.size, 2, none⟩ = some (.map (some bn)) ∧ w'.cell? ⟨w.heap.size, 3, none⟩ = some (.map (some bl))) ∧ w'.cell? ⟨w.heap.size + 1, 2, none⟩ = some (.int .i64 (m : Int)) ∧ w'.cell? ⟨w.heap.size + 1, 3, none⟩ = some (.int .i64 (l : Int))) (first | exact hk0 | exact hk00 | assumption | fail) (first
      | (revert j1; intro j1; go_at_call 34; (with_reducible refine j1.mono ?_); rintro e w1 ⟨F1, i1, fr1, hp1, ⟨L1, M1, q1, d1, hs1, rfl, hU1, hO1⟩ | ⟨hs1, rfl, M1, hpm1, hO1⟩⟩; (case inr => exact ⟨rfl, HQ.out _ _ (m0.bad (by rw [HR0.out, hs1]; first | done | rfl) fr1 hp1 hpm1 hO1)⟩); have hr1 := HR0.out; rw [hs1] at hr1; dsimp only [bindM] at hr1; have HR1 : Hid _ := hr1; clear hr1; have l1 := aft_lg m0.good kd hs1; have m1 := m0.step fr1 hp1 hO1 l1.pre l1.good; have hk1 := HCL.out _ m1.rb m1.xb; have j2 := hc _ F1 i1 M1 m m1.obj (hm.pre m1.hi); unfold rdV at j2)
      | (revert j2; intro j2; go_at_call 34; (with_reducible refine j2.mono ?_); rintro e w2 ⟨F2, i2, fr2, hp2, ⟨L2, M2, q2, d2, hs2, rfl, hU2, hO2⟩ | ⟨hs2, rfl, M2, hpm2, hO2⟩⟩; (case inr => exact ⟨rfl, HQ.out _ _ (m1.bad (by rw [HR1.out, hs2]; first | done | rfl) fr2 hp2 hpm2 hO2)⟩); have hr2 := HR1.out; rw [hs2] at hr2; dsimp only [bindM] at hr2; have HR2 : Hid _ := hr2; clear hr2; have l2 := aft_lg m1.good kc hs2; have m2 := m1.step fr2 hp2 hO2 l2.pre l2.good; have hk2 := HCL.out _ m2.rb m2.xb; have j3 := Tryd.pneeds_any m2.obj i _ (HI.out.pre m2.hi) HKS.out.1 HKS.out.2; unfold rdV at j3)
      | (revert j3; intro j3; go_at_call 63; (with_reducible refine j3.mono ?_); rintro e w3 ⟨F3, i3, fr3, hp3, ⟨L3, M3, q3, d3, hs3, rfl, hU3, hO3⟩ | ⟨hs3, rfl, M3, hpm3, hO3⟩⟩; (case inr => exact ⟨rfl, HQ.out _ _ (m2.bad (by rw [HR2.out, hs3]; first | done | rfl) fr3 hp3 hpm3 hO3)⟩); have hr3 := HR2.out; rw [hs3] at hr3; dsimp only [bindM] at hr3; have HR3 : Hid _ := hr3; clear hr3; have l3 := need_lg m2.good HKS.out.1 hs3; have m3 := m2.step fr3 hp3 hO3 l3.pre l3.good; have hk3 := HCL.out _ m3.rb m3.xb; have j4 := Tryd.ptwo (rdO_obj T0 p vs x bn bl) true m3.obj (hU2.fr fr3) (hU3) l2.lst l3.lst; unfold twF at j4; simp only [if_true] at j4)
      | (revert j4; intro j4; go_at_call 33; (with_reducible refine j4.mono ?_); rintro e w4 ⟨F4, i4, fr4, hp4, ⟨L4, M4, q4, d4, hs4, rfl, hU4, hO4⟩ | ⟨hs4, rfl, M4, hpm4, hO4⟩⟩; (case inr => exact ⟨rfl, HQ.out _ _ (m3.bad (by rw [HR3.out, hs4]; first | done | rfl) fr4 hp4 hpm4 hO4)⟩); have hr4 := HR3.out; rw [hs4] at hr4; dsimp only [bindM] at hr4; have HR4 : Hid _ := hr4; clear hr4; have l4 := two_lg m3.good (l2.mono l3.pre) (l3.bd) hs4; have m4 := m3.step fr4 hp4 hO4 l4.pre l4.good; have hk4 := HCL.out _ m4.rb m4.xb; have j5 := Tryd.ptwo (rdO_obj T0 p vs x bn bl) false m4.obj (((hU1.fr fr2).fr fr3).fr fr4) (hU4) l1.lst l4.lst; unfold twF at j5; simp only [Bool.false_eq_true, if_false] at j5)
      | (revert j5; intro j5; go_at_call 35; (with_reducible refine j5.mono ?_); rintro e w5 ⟨F5, i5, fr5, hp5, ⟨L5, M5, q5, d5, hs5, rfl, hU5, hO5⟩ | ⟨hs5, rfl, M5, hpm5, hO5⟩⟩; (case inr => exact ⟨rfl, HQ.out _ _ (m4.bad (by rw [HR4.out, hs5]; first | done | rfl) fr5 hp5 hpm5 hO5)⟩); have hk5 : Hid (Q (.returned (.slice q5 L5.length d5)) w5) := (HQ.out _ _ (m4.fin (by rw [HR4.out, hs5]; first | done | rfl) fr5 hp5 hU5 hO5)); have hkk5 := HCL.out _ (box_keep m4.rb m4.rn fr5).1 (box_keep m4.xb m4.xn fr5).1)
      | fail)
    all_goals
      clear j1 j2 j3 j4 j5
      go_wp2
      exact hk5.out
  · have n15 : ((op : Int) == 15) = false := by rw [beq_eq_false_iff_ne]; omega
    have n16 : ((op : Int) == 16) = true := by rw [beq_iff_eq]; omega
    have ob15 : (op == 15) = false := by simp [ho]
    have ob16 : (op == 16) = true := by simp [ho]
    rw [ob15, ob16] at HR0
    clear ho ob15 ob16
    unfold boxW itO rdO MidS at *
    unfold rdV at *
    dsimp only at *
    go_enter Tryd.func51, Tryd.ntmps51
    go_wp2_with fail
    go_region_held2 (fun w' => (w'.cell? ⟨w.heap.size, 0, none⟩ = some (.pointer (some ⟨p, 0, none⟩)) ∧ w'.cell? ⟨w.heap.size, 1, none⟩ = some (.int .u8 (x : Int)) ∧ w'.cell? ⟨w.heap.size, 2, none⟩ = some (.map (some bn)) ∧ w'.cell? ⟨w.heap.size, 3, none⟩ = some (.map (some bl))) ∧ w'.cell? ⟨w.heap.size + 1, 2, none⟩ = some (.int .i64 (m : Int)) ∧ w'.cell? ⟨w.heap.size + 1, 3, none⟩ = some (.int .i64 (l : Int))) (first | exact hk0 | exact hk00 | assumption | fail) (first
      | (revert j1; intro j1; go_at_call 34; (with_reducible refine j1.mono ?_); rintro e w1 ⟨F1, i1, fr1, hp1, ⟨L1, M1, q1, d1, hs1, rfl, hU1, hO1⟩ | ⟨hs1, rfl, M1, hpm1, hO1⟩⟩; (case inr => exact ⟨rfl, HQ.out _ _ (m0.bad (by rw [HR0.out, hs1]; first | done | rfl) fr1 hp1 hpm1 hO1)⟩); have hr1 := HR0.out; rw [hs1] at hr1; dsimp only [bindM] at hr1; have HR1 : Hid _ := hr1; clear hr1; have l1 := aft_lg m0.good kd hs1; have m1 := m0.step fr1 hp1 hO1 l1.pre l1.good; have hk1 := HCL.out _ m1.rb m1.xb; have j2 := hc _ F1 i1 M1 m m1.obj (hm.pre m1.hi); unfold rdV at j2)
      | (revert j2; intro j2; go_at_call 34; (with_reducible refine j2.mono ?_); rintro e w2 ⟨F2, i2, fr2, hp2, ⟨L2, M2, q2, d2, hs2, rfl, hU2, hO2⟩ | ⟨hs2, rfl, M2, hpm2, hO2⟩⟩; (case inr => exact ⟨rfl, HQ.out _ _ (m1.bad (by rw [HR1.out, hs2]; first | done | rfl) fr2 hp2 hpm2 hO2)⟩); have hr2 := HR1.out; rw [hs2] at hr2; dsimp only [bindM] at hr2; have HR2 : Hid _ := hr2; clear hr2; have l2 := aft_lg m1.good kc hs2; have m2 := m1.step fr2 hp2 hO2 l2.pre l2.good; have hk2 := HCL.out _ m2.rb m2.xb; have j3 := Tryd.pneeds_any m2.obj i _ (HI.out.pre m2.hi) HKS.out.1 HKS.out.2; unfold rdV at j3)
      | (revert j3; intro j3; go_at_call 63; (with_reducible refine j3.mono ?_); rintro e w3 ⟨F3, i3, fr3, hp3, ⟨L3, M3, q3, d3, hs3, rfl, hU3, hO3⟩ | ⟨hs3, rfl, M3, hpm3, hO3⟩⟩; (case inr => exact ⟨rfl, HQ.out _ _ (m2.bad (by rw [HR2.out, hs3]; first | done | rfl) fr3 hp3 hpm3 hO3)⟩); have hr3 := HR2.out; rw [hs3] at hr3; dsimp only [bindM] at hr3; have HR3 : Hid _ := hr3; clear hr3; have l3 := need_lg m2.good HKS.out.1 hs3; have m3 := m2.step fr3 hp3 hO3 l3.pre l3.good; have hk3 := HCL.out _ m3.rb m3.xb; have j4 := Tryd.ptwo (rdO_obj T0 p vs x bn bl) false m3.obj (hU2.fr fr3) (hU3) l2.lst l3.lst; unfold twF at j4; simp only [Bool.false_eq_true, if_false] at j4)
      | (revert j4; intro j4; go_at_call 35; (with_reducible refine j4.mono ?_); rintro e w4 ⟨F4, i4, fr4, hp4, ⟨L4, M4, q4, d4, hs4, rfl, hU4, hO4⟩ | ⟨hs4, rfl, M4, hpm4, hO4⟩⟩; (case inr => exact ⟨rfl, HQ.out _ _ (m3.bad (by rw [HR3.out, hs4]; first | done | rfl) fr4 hp4 hpm4 hO4)⟩); have hr4 := HR3.out; rw [hs4] at hr4; dsimp only [bindM] at hr4; have HR4 : Hid _ := hr4; clear hr4; have l4 := two_lg m3.good (l2.mono l3.pre) (l3.bd) hs4; have m4 := m3.step fr4 hp4 hO4 l4.pre l4.good; have hk4 := HCL.out _ m4.rb m4.xb; have j5 := Tryd.ptwo (rdO_obj T0 p vs x bn bl) true m4.obj (((hU1.fr fr2).fr fr3).fr fr4) (hU4) l1.lst l4.lst; unfold twF at j5; simp only [if_true] at j5)
      | (revert j5; intro j5; go_at_call 33; (with_reducible refine j5.mono ?_); rintro e w5 ⟨F5, i5, fr5, hp5, ⟨L5, M5, q5, d5, hs5, rfl, hU5, hO5⟩ | ⟨hs5, rfl, M5, hpm5, hO5⟩⟩; (case inr => exact ⟨rfl, HQ.out _ _ (m4.bad (by rw [HR4.out, hs5]; first | done | rfl) fr5 hp5 hpm5 hO5)⟩); have hk5 : Hid (Q (.returned (.slice q5 L5.length d5)) w5) := (HQ.out _ _ (m4.fin (by rw [HR4.out, hs5]; first | done | rfl) fr5 hp5 hU5 hO5)); have hkk5 := HCL.out _ (box_keep m4.rb m4.rn fr5).1 (box_keep m4.xb m4.xn fr5).1)
      | fail)
    all_goals
      clear j1 j2 j3 j4 j5
      go_wp2
      exact hk5.out
/-- What someWay, everyWay do of a path. -/
def wyF (box : Bool) : FuncId := if box then 66 else 65
def WyQ (T0 : Tr) (p : Nat) (vs : Value) (x bn bl : Nat) (box : Bool) (r f : Tr) : Prop := ∀ (w : World) (F : Nat → Prop) (items : List It) (M : Mt) (i k : Nat) (a : Option Addr) (c : Nat) (s : List Nat), RdO T0 p vs x bn bl w F items M → US w F a s.length c s → s.length ≤ 1024 → BdL s M.length → Rep items i r → Rep items k f →
  Calls Tryd.prog (wyF box) #[rdV p x bn bl, .int .i64 (i : Int), .slice a s.length c, .int .i64 (k : Int)] w (RetQ (RdO T0 p vs x bn bl) w F items M (pthC box r s f x M))
set_option maxRecDepth 100000 in
set_option maxHeartbeats 8000000 in
theorem Tryd.plv_way {T0 : Tr} {p : Nat} {vs : Value} {x bn bl : Nat} (op : Nat) (ho : op = 17 ∨ op = 18) (c d : Tr) (kS : KT (.bin (op, 0) c d)) (hd : LvQ T0 p vs x bn bl 34 d) (hw : ∀ box, box = (op == 18) → WyQ T0 p vs x bn bl box c d) : LvQ T0 p vs x bn bl 51 (.bin (op, 0) c d) := by
  intro w F items M i h hi
  obtain ⟨pp, m, l, hx, hm, hl⟩ : ∃ pp m l : Nat, items[i]? = some ⟨op, pp, (m : Int), (l : Int)⟩ ∧ Rep items m c ∧ Rep items l d := by cases hi with | bin h h1 h2 h3 h4 => exact ⟨0, _, _, h, h3, h4⟩
  obtain ⟨F1, _, _, _, _, hrd⟩ := id h
  obtain ⟨G, rest, hpo⟩ := hrd.pg.part
  obtain ⟨a, n, cap, g, o, c0, hidx, x0, x1, x2, x3⟩ := (hpo.up (below_new w (rdO p x bn bl))).at hx
  obtain ⟨m0, m00⟩ := mid_start h op pp (m : Int) ((l : Int))
  have hk0 := m0.cells
  have hk00 := m00.cells
  have HCL : Hid (∀ w' : World, w'.heap[w.heap.size]? = some (rdO p x bn bl) → w'.heap[w.heap.size + 1]? = some (itO ⟨op, pp, (m : Int), (l : Int)⟩) → MidS p x bn bl w.heap.size (m : Int) ((l : Int)) w') := fun w' e1 e2 => ⟨⟨cell_row e1 0, cell_row e1 1, cell_row e1 2, cell_row e1 3⟩, cell_row e2 2, cell_row e2 3⟩
  have hbx := (MapKept.heap_alloc w (rdO p x bn bl)).1
  have r0 : (w.alloc (rdO p x bn bl)).cell? ⟨w.heap.size, 0, none⟩ = some (.pointer (some ⟨p, 0, none⟩)) := cell_row hbx 0
  obtain ⟨kc, kd⟩ := kt_way kS (by omega)
  have HW : Hid ((op = 17 → WyQ T0 p vs x bn bl false c d) ∧ (op = 18 → WyQ T0 p vs x bn bl true c d)) := ⟨fun h => hw false (by rw [h]; rfl), fun h => hw true (by rw [h]; rfl)⟩
  have j1 := hd _ F items M l m0.obj hl
  obtain ⟨R, hR⟩ : ∃ R, R = aftC (.bin (op, 0) c d) x M := ⟨_, rfl⟩
  have HR0 : Hid (R = bindM (aftC d x M) fun s M1 => pthC (op == 18) c s d x M1) := by show _ = _; rw [hR]; exact aftC_way kS ho x M
  rw [← hR]
  obtain ⟨Q, hQ⟩ : ∃ Q : Ending → World → Prop, Q = RetQ (RdO T0 p vs x bn bl) w F items M R := ⟨_, rfl⟩
  have HQ : Hid (∀ e w', RetQ (RdO T0 p vs x bn bl) w F items M R e w' → Q e w') := fun e w' h => by rw [hQ]; exact h
  rw [← hQ]
  clear hrd hpo hR hQ hbx h hx
  have n0 : ((op : Int) == 0) = false := by rw [beq_eq_false_iff_ne]; omega
  have n4 : ((op : Int) == 4) = false := by rw [beq_eq_false_iff_ne]; omega
  have n1 : ((op : Int) == 1) = false := by rw [beq_eq_false_iff_ne]; omega
  have n5 : ((op : Int) == 5) = false := by rw [beq_eq_false_iff_ne]; omega
  have n2 : ((op : Int) == 2) = false := by rw [beq_eq_false_iff_ne]; omega
  have n6 : ((op : Int) == 6) = false := by rw [beq_eq_false_iff_ne]; omega
  have n11 : ((op : Int) == 11) = false := by rw [beq_eq_false_iff_ne]; omega
  have n12 : ((op : Int) == 12) = false := by rw [beq_eq_false_iff_ne]; omega
  have n7 : ((op : Int) == 7) = false := by rw [beq_eq_false_iff_ne]; omega
  have n8 : ((op : Int) == 8) = false := by rw [beq_eq_false_iff_ne]; omega
  have n15 : ((op : Int) == 15) = false := by rw [beq_eq_false_iff_ne]; omega
  have n16 : ((op : Int) == 16) = false := by rw [beq_eq_false_iff_ne]; omega

  rcases ho with ho | ho
  · have n17 : ((op : Int) == 17) = true := by rw [beq_iff_eq]; omega
    have ob18 : (op == 18) = false := by simp [ho]
    rw [ob18] at HR0
    have HW1 : Hid _ := HW.out.1 ho
    clear ho ob18
    unfold boxW itO rdO MidS at *
    unfold rdV at *
    dsimp only at *
    go_enter Tryd.func51, Tryd.ntmps51
    go_wp2_with fail
    go_region_held2 (fun w' => (w'.cell? ⟨w.heap.size, 0, none⟩ = some (.pointer (some ⟨p, 0, none⟩)) ∧ w'.cell? ⟨w.heap.size, 1, none⟩ = some (.int .u8 (x : Int)) ∧ w'.cell? ⟨w.heap.size, 2, none⟩ = some (.map (some bn)) ∧ w'.cell? ⟨w.heap.size, 3, none⟩ = some (.map (some bl))) ∧ w'.cell? ⟨w.heap.size + 1, 2, none⟩ = some (.int .i64 (m : Int)) ∧ w'.cell? ⟨w.heap.size + 1, 3, none⟩ = some (.int .i64 (l : Int))) (first | exact hk0 | exact hk00 | assumption | fail) (first
      | (revert j1; intro j1; go_at_call 34; (with_reducible refine j1.mono ?_); rintro e w1 ⟨F1, i1, fr1, hp1, ⟨L1, M1, q1, d1, hs1, rfl, hU1, hO1⟩ | ⟨hs1, rfl, M1, hpm1, hO1⟩⟩; (case inr => exact ⟨rfl, HQ.out _ _ (m0.bad (by rw [HR0.out, hs1]; first | done | rfl) fr1 hp1 hpm1 hO1)⟩); have hr1 := HR0.out; rw [hs1] at hr1; dsimp only [bindM] at hr1; have HR1 : Hid _ := hr1; clear hr1; have l1 := aft_lg m0.good kd hs1; have m1 := m0.step fr1 hp1 hO1 l1.pre l1.good; have hk1 := HCL.out _ m1.rb m1.xb; have j2 := HW1.out _ F1 i1 M1 m l _ _ L1 m1.obj hU1 l1.len l1.bd (hm.pre m1.hi) (hl.pre m1.hi); (try unfold wyF at j2); (try unfold rdV at j2); simp only [Bool.false_eq_true, if_false] at j2)
      | (revert j2; intro j2; go_at_call 65; (with_reducible refine j2.mono ?_); rintro e w2 ⟨F2, i2, fr2, hp2, ⟨L2, M2, q2, d2, hs2, rfl, hU2, hO2⟩ | ⟨hs2, rfl, M2, hpm2, hO2⟩⟩; (case inr => exact ⟨rfl, HQ.out _ _ (m1.bad (by rw [HR1.out, hs2]; first | done | rfl) fr2 hp2 hpm2 hO2)⟩); have hk2 : Hid (Q (.returned (.slice q2 L2.length d2)) w2) := (HQ.out _ _ (m1.fin (by rw [HR1.out, hs2]; first | done | rfl) fr2 hp2 hU2 hO2)); have hkk2 := HCL.out _ (box_keep m1.rb m1.rn fr2).1 (box_keep m1.xb m1.xn fr2).1)
      | fail)
    all_goals
      clear j1 j2
      go_wp2
      exact hk2.out
  · have n17 : ((op : Int) == 17) = false := by rw [beq_eq_false_iff_ne]; omega
    have n18 : ((op : Int) == 18) = true := by rw [beq_iff_eq]; omega
    have ob18 : (op == 18) = true := by simp [ho]
    rw [ob18] at HR0
    have HW1 : Hid _ := HW.out.2 ho
    clear ho ob18
    unfold boxW itO rdO MidS at *
    unfold rdV at *
    dsimp only at *
    go_enter Tryd.func51, Tryd.ntmps51
    go_wp2_with fail
    go_region_held2 (fun w' => (w'.cell? ⟨w.heap.size, 0, none⟩ = some (.pointer (some ⟨p, 0, none⟩)) ∧ w'.cell? ⟨w.heap.size, 1, none⟩ = some (.int .u8 (x : Int)) ∧ w'.cell? ⟨w.heap.size, 2, none⟩ = some (.map (some bn)) ∧ w'.cell? ⟨w.heap.size, 3, none⟩ = some (.map (some bl))) ∧ w'.cell? ⟨w.heap.size + 1, 2, none⟩ = some (.int .i64 (m : Int)) ∧ w'.cell? ⟨w.heap.size + 1, 3, none⟩ = some (.int .i64 (l : Int))) (first | exact hk0 | exact hk00 | assumption | fail) (first
      | (revert j1; intro j1; go_at_call 34; (with_reducible refine j1.mono ?_); rintro e w1 ⟨F1, i1, fr1, hp1, ⟨L1, M1, q1, d1, hs1, rfl, hU1, hO1⟩ | ⟨hs1, rfl, M1, hpm1, hO1⟩⟩; (case inr => exact ⟨rfl, HQ.out _ _ (m0.bad (by rw [HR0.out, hs1]; first | done | rfl) fr1 hp1 hpm1 hO1)⟩); have hr1 := HR0.out; rw [hs1] at hr1; dsimp only [bindM] at hr1; have HR1 : Hid _ := hr1; clear hr1; have l1 := aft_lg m0.good kd hs1; have m1 := m0.step fr1 hp1 hO1 l1.pre l1.good; have hk1 := HCL.out _ m1.rb m1.xb; have j2 := HW1.out _ F1 i1 M1 m l _ _ L1 m1.obj hU1 l1.len l1.bd (hm.pre m1.hi) (hl.pre m1.hi); (try unfold wyF at j2); (try unfold rdV at j2); simp only [if_true] at j2)
      | (revert j2; intro j2; go_at_call 66; (with_reducible refine j2.mono ?_); rintro e w2 ⟨F2, i2, fr2, hp2, ⟨L2, M2, q2, d2, hs2, rfl, hU2, hO2⟩ | ⟨hs2, rfl, M2, hpm2, hO2⟩⟩; (case inr => exact ⟨rfl, HQ.out _ _ (m1.bad (by rw [HR1.out, hs2]; first | done | rfl) fr2 hp2 hpm2 hO2)⟩); have hk2 : Hid (Q (.returned (.slice q2 L2.length d2)) w2) := (HQ.out _ _ (m1.fin (by rw [HR1.out, hs2]; first | done | rfl) fr2 hp2 hU2 hO2)); have hkk2 := HCL.out _ (box_keep m1.rb m1.rn fr2).1 (box_keep m1.xb m1.xn fr2).1)
      | fail)
    all_goals
      clear j1 j2
      go_wp2
      exact hk2.out
set_option maxRecDepth 100000 in
set_option maxHeartbeats 8000000 in
theorem Tryd.plv_next {T0 : Tr} {p : Nat} {vs : Value} {x bn bl : Nat} (op : Nat) (ho : op = 7 ∨ op = 8) (c : Tr) (kS : KT (.un (op, 0) c)) (hS : InC T0 (.un (op, 0) c)) : LvQ T0 p vs x bn bl 51 (.un (op, 0) c) := by
  intro w F items M i h hi
  obtain ⟨pp, m, hx, hm⟩ : ∃ pp m : Nat, items[i]? = some ⟨op, pp, (m : Int), -1⟩ ∧ Rep items m c := by cases hi with | un h h1 h2 => exact ⟨0, _, h, h2⟩
  obtain ⟨F1, _, _, _, _, hrd⟩ := id h
  obtain ⟨G, rest, hpo⟩ := hrd.pg.part
  obtain ⟨a, n, cap, g, o, c0, hidx, x0, x1, x2, x3⟩ := (hpo.up (below_new w (rdO p x bn bl))).at hx
  obtain ⟨m0, m00⟩ := mid_start h op pp (m : Int) ((-1))
  have hk0 := m0.cells
  have hk00 := m00.cells
  have HCL : Hid (∀ w' : World, w'.heap[w.heap.size]? = some (rdO p x bn bl) → w'.heap[w.heap.size + 1]? = some (itO ⟨op, pp, (m : Int), (-1)⟩) → MidS p x bn bl w.heap.size (m : Int) ((-1)) w') := fun w' e1 e2 => ⟨⟨cell_row e1 0, cell_row e1 1, cell_row e1 2, cell_row e1 3⟩, cell_row e2 2, cell_row e2 3⟩
  have hbx := (MapKept.heap_alloc w (rdO p x bn bl)).1
  have r0 : (w.alloc (rdO p x bn bl)).cell? ⟨w.heap.size, 0, none⟩ = some (.pointer (some ⟨p, 0, none⟩)) := cell_row hbx 0
  have kc : KT c := by
    rcases kt_un kS with ⟨_, ⟨h6, _⟩ | ⟨_, hc⟩⟩
    · omega
    · exact hc
  have HKS : Hid (KT c ∧ InC T0 c) := ⟨kc, inC_un hS⟩
  obtain ⟨R, hR⟩ : ∃ R, R = aftC (.un (op, 0) c) x M := ⟨_, rfl⟩
  have HR0 : Hid (R = bindM (needM (.leaf (if op = 7 then 4 else 5, 0)) M) fun a M1 => bindM (needM c M1) fun b M2 => twoM (op == 7) a b M2) := by show _ = _; rw [hR]; exact aftC_next ho c x M
  rw [← hR]
  obtain ⟨Q, hQ⟩ : ∃ Q : Ending → World → Prop, Q = RetQ (RdO T0 p vs x bn bl) w F items M R := ⟨_, rfl⟩
  have HQ : Hid (∀ e w', RetQ (RdO T0 p vs x bn bl) w F items M R e w' → Q e w') := fun e w' h => by rw [hQ]; exact h
  rw [← hQ]
  clear hrd hpo hR hQ hbx h hx
  have n0 : ((op : Int) == 0) = false := by rw [beq_eq_false_iff_ne]; omega
  have n4 : ((op : Int) == 4) = false := by rw [beq_eq_false_iff_ne]; omega
  have n1 : ((op : Int) == 1) = false := by rw [beq_eq_false_iff_ne]; omega
  have n5 : ((op : Int) == 5) = false := by rw [beq_eq_false_iff_ne]; omega
  have n2 : ((op : Int) == 2) = false := by rw [beq_eq_false_iff_ne]; omega
  have n6 : ((op : Int) == 6) = false := by rw [beq_eq_false_iff_ne]; omega
  have n11 : ((op : Int) == 11) = false := by rw [beq_eq_false_iff_ne]; omega
  have n12 : ((op : Int) == 12) = false := by rw [beq_eq_false_iff_ne]; omega
  have n15 : ((op : Int) == 15) = false := by rw [beq_eq_false_iff_ne]; omega
  have n16 : ((op : Int) == 16) = false := by rw [beq_eq_false_iff_ne]; omega
  have n17 : ((op : Int) == 17) = false := by rw [beq_eq_false_iff_ne]; omega

  rcases ho with ho | ho
  · have n7 : ((op : Int) == 7) = true := by rw [beq_iff_eq]; omega
    have ob7 : (op == 7) = true := by simp [ho]
    rw [ob7] at HR0
    have j1 : Calls Tryd.prog 64 #[.pointer (some ⟨p, 0, none⟩), .int .u8 4] (boxW w p x bn bl op pp (m : Int) (-1)).drew (KeptQ T0 p vs x bn bl (boxW w p x bn bl op pp (m : Int) (-1)).drew F items M (.leaf (4, 0))) := kept_of m0.obj fun G rest hpo => Tryd.pleaf_any hpo 4 (by simp)
    rw [show (if op = 7 then 4 else 5) = 4 by simp [ho]] at HR0
    clear ho ob7
    unfold boxW itO rdO MidS at *
    unfold rdV at *
    dsimp only at *
    go_enter Tryd.func51, Tryd.ntmps51
    go_wp2_with fail
    go_region_held2 (fun w' => (w'.cell? ⟨w.heap.size, 0, none⟩ = some (.pointer (some ⟨p, 0, none⟩)) ∧ w'.cell? ⟨w.heap.size, 1, none⟩ = some (.int .u8 (x : Int)) ∧ w'.cell? ⟨w.heap.size, 2, none⟩ = some (.map (some bn)) ∧ w'.cell? ⟨w.heap.size, 3, none⟩ = some (.map (some bl))) ∧ w'.cell? ⟨w.heap.size + 1, 2, none⟩ = some (.int .i64 (m : Int)) ∧ w'.cell? ⟨w.heap.size + 1, 3, none⟩ = some (.int .i64 (-1))) (first | exact hk0 | exact hk00 | assumption | fail) (first
      | (revert j1; intro j1; go_at_call 64; (with_reducible refine j1.mono ?_); rintro e w1 ⟨n1, i1, F1, rfl, hp1, hrep1, fr1, hO1⟩; have m1 := m0.step fr1 hp1 hO1 (List.prefix_refl _) m0.good; have hk1 := HCL.out _ m1.rb m1.xb; have HR1 : Hid _ := HR0.out; have j2 := Tryd.pneeds_any m1.obj n1 _ hrep1 (kt_more 4 (by simp)) (inC_more (by simp)); unfold rdV at j2)
      | (revert j2; intro j2; go_at_call 63; (with_reducible refine j2.mono ?_); rintro e w2 ⟨F2, i2, fr2, hp2, ⟨L2, M2, q2, d2, hs2, rfl, hU2, hO2⟩ | ⟨hs2, rfl, M2, hpm2, hO2⟩⟩; (case inr => exact ⟨rfl, HQ.out _ _ (m1.bad (by rw [HR1.out, hs2]; first | done | rfl) fr2 hp2 hpm2 hO2)⟩); have hr2 := HR1.out; rw [hs2] at hr2; dsimp only [bindM] at hr2; have HR2 : Hid _ := hr2; clear hr2; have l2 := need_lg m1.good (kt_more 4 (by simp)) hs2; have m2 := m1.step fr2 hp2 hO2 l2.pre l2.good; have hk2 := HCL.out _ m2.rb m2.xb; have j3 := Tryd.pneeds_any m2.obj m _ (hm.pre m2.hi) HKS.out.1 HKS.out.2; unfold rdV at j3)
      | (revert j3; intro j3; go_at_call 63; (with_reducible refine j3.mono ?_); rintro e w3 ⟨F3, i3, fr3, hp3, ⟨L3, M3, q3, d3, hs3, rfl, hU3, hO3⟩ | ⟨hs3, rfl, M3, hpm3, hO3⟩⟩; (case inr => exact ⟨rfl, HQ.out _ _ (m2.bad (by rw [HR2.out, hs3]; first | done | rfl) fr3 hp3 hpm3 hO3)⟩); have hr3 := HR2.out; rw [hs3] at hr3; dsimp only [bindM] at hr3; have HR3 : Hid _ := hr3; clear hr3; have l3 := need_lg m2.good HKS.out.1 hs3; have m3 := m2.step fr3 hp3 hO3 l3.pre l3.good; have hk3 := HCL.out _ m3.rb m3.xb; have j4 := Tryd.ptwo (rdO_obj T0 p vs x bn bl) true m3.obj (hU2.fr fr3) (hU3) l2.lst l3.lst; unfold twF at j4; simp only [if_true] at j4)
      | (revert j4; intro j4; go_at_call 33; (with_reducible refine j4.mono ?_); rintro e w4 ⟨F4, i4, fr4, hp4, ⟨L4, M4, q4, d4, hs4, rfl, hU4, hO4⟩ | ⟨hs4, rfl, M4, hpm4, hO4⟩⟩; (case inr => exact ⟨rfl, HQ.out _ _ (m3.bad (by rw [HR3.out, hs4]; first | done | rfl) fr4 hp4 hpm4 hO4)⟩); have hk4 : Hid (Q (.returned (.slice q4 L4.length d4)) w4) := (HQ.out _ _ (m3.fin (by rw [HR3.out, hs4]; first | done | rfl) fr4 hp4 hU4 hO4)); have hkk4 := HCL.out _ (box_keep m3.rb m3.rn fr4).1 (box_keep m3.xb m3.xn fr4).1)
      | fail)
    all_goals
      clear j1 j2 j3 j4
      go_wp2
      exact hk4.out
  · have n7 : ((op : Int) == 7) = false := by rw [beq_eq_false_iff_ne]; omega
    have n8 : ((op : Int) == 8) = true := by rw [beq_iff_eq]; omega
    have ob7 : (op == 7) = false := by simp [ho]
    rw [ob7] at HR0
    have j1 : Calls Tryd.prog 64 #[.pointer (some ⟨p, 0, none⟩), .int .u8 5] (boxW w p x bn bl op pp (m : Int) (-1)).drew (KeptQ T0 p vs x bn bl (boxW w p x bn bl op pp (m : Int) (-1)).drew F items M (.leaf (5, 0))) := kept_of m0.obj fun G rest hpo => Tryd.pleaf_any hpo 5 (by simp)
    rw [show (if op = 7 then 4 else 5) = 5 by simp [ho]] at HR0
    clear ho ob7
    unfold boxW itO rdO MidS at *
    unfold rdV at *
    dsimp only at *
    go_enter Tryd.func51, Tryd.ntmps51
    go_wp2_with fail
    go_region_held2 (fun w' => (w'.cell? ⟨w.heap.size, 0, none⟩ = some (.pointer (some ⟨p, 0, none⟩)) ∧ w'.cell? ⟨w.heap.size, 1, none⟩ = some (.int .u8 (x : Int)) ∧ w'.cell? ⟨w.heap.size, 2, none⟩ = some (.map (some bn)) ∧ w'.cell? ⟨w.heap.size, 3, none⟩ = some (.map (some bl))) ∧ w'.cell? ⟨w.heap.size + 1, 2, none⟩ = some (.int .i64 (m : Int)) ∧ w'.cell? ⟨w.heap.size + 1, 3, none⟩ = some (.int .i64 (-1))) (first | exact hk0 | exact hk00 | assumption | fail) (first
      | (revert j1; intro j1; go_at_call 64; (with_reducible refine j1.mono ?_); rintro e w1 ⟨n1, i1, F1, rfl, hp1, hrep1, fr1, hO1⟩; have m1 := m0.step fr1 hp1 hO1 (List.prefix_refl _) m0.good; have hk1 := HCL.out _ m1.rb m1.xb; have HR1 : Hid _ := HR0.out; have j2 := Tryd.pneeds_any m1.obj n1 _ hrep1 (kt_more 5 (by simp)) (inC_more (by simp)); unfold rdV at j2)
      | (revert j2; intro j2; go_at_call 63; (with_reducible refine j2.mono ?_); rintro e w2 ⟨F2, i2, fr2, hp2, ⟨L2, M2, q2, d2, hs2, rfl, hU2, hO2⟩ | ⟨hs2, rfl, M2, hpm2, hO2⟩⟩; (case inr => exact ⟨rfl, HQ.out _ _ (m1.bad (by rw [HR1.out, hs2]; first | done | rfl) fr2 hp2 hpm2 hO2)⟩); have hr2 := HR1.out; rw [hs2] at hr2; dsimp only [bindM] at hr2; have HR2 : Hid _ := hr2; clear hr2; have l2 := need_lg m1.good (kt_more 5 (by simp)) hs2; have m2 := m1.step fr2 hp2 hO2 l2.pre l2.good; have hk2 := HCL.out _ m2.rb m2.xb; have j3 := Tryd.pneeds_any m2.obj m _ (hm.pre m2.hi) HKS.out.1 HKS.out.2; unfold rdV at j3)
      | (revert j3; intro j3; go_at_call 63; (with_reducible refine j3.mono ?_); rintro e w3 ⟨F3, i3, fr3, hp3, ⟨L3, M3, q3, d3, hs3, rfl, hU3, hO3⟩ | ⟨hs3, rfl, M3, hpm3, hO3⟩⟩; (case inr => exact ⟨rfl, HQ.out _ _ (m2.bad (by rw [HR2.out, hs3]; first | done | rfl) fr3 hp3 hpm3 hO3)⟩); have hr3 := HR2.out; rw [hs3] at hr3; dsimp only [bindM] at hr3; have HR3 : Hid _ := hr3; clear hr3; have l3 := need_lg m2.good HKS.out.1 hs3; have m3 := m2.step fr3 hp3 hO3 l3.pre l3.good; have hk3 := HCL.out _ m3.rb m3.xb; have j4 := Tryd.ptwo (rdO_obj T0 p vs x bn bl) false m3.obj (hU2.fr fr3) (hU3) l2.lst l3.lst; unfold twF at j4; simp only [Bool.false_eq_true, if_false] at j4)
      | (revert j4; intro j4; go_at_call 35; (with_reducible refine j4.mono ?_); rintro e w4 ⟨F4, i4, fr4, hp4, ⟨L4, M4, q4, d4, hs4, rfl, hU4, hO4⟩ | ⟨hs4, rfl, M4, hpm4, hO4⟩⟩; (case inr => exact ⟨rfl, HQ.out _ _ (m3.bad (by rw [HR3.out, hs4]; first | done | rfl) fr4 hp4 hpm4 hO4)⟩); have hk4 : Hid (Q (.returned (.slice q4 L4.length d4)) w4) := (HQ.out _ _ (m3.fin (by rw [HR3.out, hs4]; first | done | rfl) fr4 hp4 hU4 hO4)); have hkk4 := HCL.out _ (box_keep m3.rb m3.rn fr4).1 (box_keep m3.xb m3.xn fr4).1)
      | fail)
    all_goals
      clear j1 j2 j3 j4
      go_wp2
      exact hk4.out
end Go.Proofs.YtnedkpbpeolfoaaDoor
