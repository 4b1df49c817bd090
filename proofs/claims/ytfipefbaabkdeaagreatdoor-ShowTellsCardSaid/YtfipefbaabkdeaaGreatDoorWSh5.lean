/- Package show: what tell, Formula and Path answer. -/
import Derived.Test.YtfipefbaabkdeaaGreatDoorShK
import Derived.Deep.RegionLaw
namespace Go.Proofs.YtfipefbaabkdeaaGreatDoor
open Go.RowKit Go.Maps

theorem tellL_ref (ns : List Bytes) (ts : List Tk) (want : Nat) : tellL ns ts want = if checkE ns ≠ 0 then ([], checkE ns) else if lookE ts want ≠ 0 then ([], (lookE ts want : Int)) else if refS ns ts ≠ 0 then ([], refS ns ts) else if 4096 < (textL ns ts).length then ([], 3) else (textL ns ts, 0) := by
  unfold tellL refS
  by_cases h1 : checkE ns ≠ 0
  · rw [if_pos h1, if_pos h1]
  · rw [if_neg h1, if_neg h1]
    by_cases h2 : lookE ts want ≠ 0
    · rw [if_pos h2, if_pos h2]
    · rw [if_neg h2, if_neg h2]
      cases ts.any odd4 with
      | true => rfl
      | false =>
        cases ts.any (far2 ns) with
        | true => rfl
        | false => rfl
theorem refS_zero {ns : List Bytes} {ts : List Tk} (h : refS ns ts = 0) : ts.any odd4 = false ∧ ts.any (far2 ns) = false := by
  unfold refS at h
  cases h1 : ts.any odd4 with
  | true => simp [h1] at h
  | false =>
    cases h2 : ts.any (far2 ns) with
    | true => simp [h1, h2] at h
    | false => exact ⟨rfl, rfl⟩
theorem takes_op {op p n : Nat} (h : takesN (op, p) = some n) : op ≤ 23 := by
  unfold takesN at h
  split at h
  · cases h
  · next h2 => dsimp only at h2; omega
/-- What a telling call answers. -/
def TellP (ns : List Bytes) (ts : List Tk) (want : Nat) (w : World) (e : Ending) (w' : World) : Prop :=
  e = .returned (.tuple #[.string (mkB (tellL ns ts want).1), .int .i64 (tellL ns ts want).2]) ∧ Below w.heap.size w w'
def TellC (F : FuncId) (want : Nat) : Prop :=
  ∀ (a : Option Addr) (len cap : Nat) (ad : Nat → Addr) (ss : List ByteArray) (a' : Option Addr) (l' cap' : Nat) (ts : List Tk) (w : World), StrSl Tryz.prog 22 w a len cap ad ss → TkSl w a' l' cap' ts → OpT w →
    Calls Tryz.prog F #[.slice a len cap, .slice a' l' cap'] w (TellP (nms ss) ts want w)
set_option maxRecDepth 100000 in
set_option maxHeartbeats 4000000 in
theorem Tryz.tell_any (F : FuncId) (want : Nat) (hE : Enters F) (hF : ∀ a len cap ts w, TkSl w a len cap ts → Calls Tryz.prog F #[.slice a len cap] w fun e w' => e = .returned (.int .i64 (lookE ts want : Int)) ∧ Below w.heap.size w w')
    (a : Option Addr) (len cap : Nat) (ad : Nat → Addr) (ss : List ByteArray) (a' : Option Addr) (l' cap' : Nat) (ts : List Tk) (w : World) (hS : StrSl Tryz.prog 22 w a len cap ad ss) (hT : TkSl w a' l' cap' ts) (hO : OpT w) :
    Calls Tryz.prog 13 #[.slice a len cap, .slice a' l' cap', .func (.func F) #[] #[]] w (TellP (nms ss) ts want w) := by
  unfold TellP
  rw [tellL_ref]
  have h1 := Tryz.check_any a len cap ad ss w hS
  have h2 := fun w' (h : TkSl w' a' l' cap' ts) => hF a' l' cap' ts w' h
  have h3 := fun w' (h : StrSl Tryz.prog 22 w' a len cap ad ss) (h' : TkSl w' a' l' cap' ts) => Tryz.sh_refuse a len cap ad ss a' l' cap' ts w' h h'
  have HS : Hid (StrSl Tryz.prog 22 w a len cap ad ss) := hS
  have HT : Hid (TkSl w a' l' cap' ts) := hT
  have HO : Hid (OpT w) := hO
  have HTO : Hid (checkE (nms ss) = 0 → lookE ts want = 0 → refS (nms ss) ts = 0 → Told (nms ss) ts) := fun a b c => told_of a b (refS_zero c).1 (refS_zero c).2
  generalize checkE (nms ss) = E1 at *
  generalize lookE ts want = E2 at *
  generalize refS (nms ss) ts = E3 at *
  unfold Enters at hE
  clear hF hS hT hO
  by_cases q1 : E1 = 0
  · by_cases q2 : E2 = 0
    · by_cases q3 : E3 = 0
      · have HTL : Hid (Told (nms ss) ts) := HTO.out q1 q2 q3
        subst q1 q2 q3
        rw [if_neg (by decide), if_neg (by decide), if_neg (by decide)]
        have hlen := HT.out.hlen
        have hl5 := HTL.out.few
        go_enter Tryz.func13, Tryz.ntmps13
        go_wp2_with fail
        refine h1.mono ?_
        rintro e w1 ⟨rfl, hb1⟩
        go_wp2_with fail
        refine (h2 w1 (HT.out.up hb1)).mono ?_
        rintro e w2 ⟨rfl, hb2⟩
        have hb12 := below_step hb1 hb2
        go_wp2_with fail
        refine (h3 w2 (HS.out.up hb12) (HT.out.up hb12)).mono ?_
        rintro e w3 ⟨rfl, hb3⟩
        have HB3 : Hid (Below w.heap.size w w3) := below_step hb12 hb3
        have HS3 : Hid (StrSl Tryz.prog 22 w3 a len cap ad ss) := HS.out.up HB3.out
        have HT3 : Hid (TkSl w3 a' l' cap' ts) := HT.out.up HB3.out
        have HO3 : Hid (OpT w3) := OpT.up HO.out HB3.out
        clear h1 h2 h3 hb1 hb2 hb12 hb3 HS HT HO HTO hE
        have HK0 : Hid (StkAt (w3.alloc (.cells #[.slice none 0 0] 51)) w3.heap.size []) := ⟨.slice none 0 0, (MapKept.heap_alloc w3 _).1, ⟨rfl, Or.inl ⟨rfl, rfl⟩⟩⟩
        go_wp2
        go_loopw [35] (fun i wr => ∃ k : Nat, k ≤ l' ∧ i = .int .i64 k ∧ Hid (StkAt wr w3.heap.size (stS (nms ss) (ts.take k) [])) ∧ Hid (Below w3.heap.size w3 wr)) (fun i _ => l' - (intOf i).toNat)
        case atStart => exact ⟨0, Nat.zero_le _, rfl, HK0, below_new _ _⟩
        case round =>
          obtain ⟨k, hk, rfl, HK, hwr⟩ := hrel
          by_cases hlt : k < l'
          · obtain ⟨g1, o1, s1, hi1, hx0, hx1, hg1, _⟩ := (HT3.out.up hwr.out).at Tryz.underlying23 Tryz.sizeTok k hlt
            have hidx := fun w' => hi1 l' w' hlt
            clear hi1
            have hxl : k < ts.length := by omega
            obtain ⟨htok, n, htn, hnl⟩ := HTL.out.tok k hxl
            obtain ⟨hst1, hst2⟩ := HTL.out.st k
            have HNX : Hid (stS (nms ss) (ts.take (k + 1)) [] = stepS (nms ss) (stS (nms ss) (ts.take k) []) ts[k]) := stS_next _ hxl
            generalize stS (nms ss) (ts.take k) [] = st at *
            generalize ts[k] = x at *
            obtain ⟨op, p⟩ := x
            have hop : op ≤ 23 := takes_op htn
            have HNY : Hid (stS (nms ss) (ts.take (k + 1)) [] = st.take (st.length - n) ++ [(putT (nms ss) op p (st.drop (st.length - n)), owT op)]) := by
              have e1 : takesC (op, p) = n := by unfold takesC; rw [htn]; rfl
              have e2 := ow_str hop htok.1 htok.2.1
              show _ = _
              rw [HNX.out, stepS, e1, e2]
            have hX := Tryz.sh_text w3.heap.size a len cap ad ss op p n st (wr.alloc (.cells #[.int .u8 (op : Int), .int .u8 (p : Int)] 41)) ((HS3.out.up hwr.out).up (below_new _ _)) (OpT.up (OpT.up HO3.out hwr.out) (below_new _ _)) (HK.out.up (below_new _ _)) htn htok hnl hst1 hst2
            have HLN : Hid ((st.take (st.length - n)).length ≤ 512) := by show _ ≤ _; simp; omega
            have HG : Hid ((wr.alloc (.cells #[.int .u8 (op : Int), .int .u8 (p : Int)] 41)).heap[wr.heap.size]? = some (.cells #[.int .u8 (op : Int), .int .u8 (p : Int)] 41 (0, 0))) := (MapKept.heap_alloc wr _).1
            generalize putT (nms ss) op p (st.drop (st.length - n)) = tx at *
            generalize st.take (st.length - n) = st' at *
            dsimp only at hx0 hx1
            clear htok htn hnl hst1 hst2 HNX
            go_wp2_with fail
            have HWT : Hid (Below wr.heap.size wr (wr.alloc (.cells #[.int .u8 (op : Int), .int .u8 (p : Int)] 41))) := below_new _ _
            have hzt : (wr.alloc (.cells #[.int .u8 (op : Int), .int .u8 (p : Int)] 41)).heap.size = wr.heap.size + 1 := by simp
            generalize wr.alloc (.cells #[.int .u8 (op : Int), .int .u8 (p : Int)] 41) = wt at *
            refine hX.mono ?_
            rintro e w4 ⟨rfl, hs4, hg4⟩
            have hb3r := hwr.out.size
            have hbr := HK.out.lt
            have HB4 : Hid (Below w3.heap.size w3 w4) := ((below_step hwr.out HWT.out).grown hg4 (by omega) (fun j e => by injection e with e; omega))
            obtain ⟨v, hr4, ho4⟩ := hs4.c
            obtain ⟨va, vc, rfl⟩ := own_sl ho4
            have cb : w4.cell? ⟨w3.heap.size, 0, none⟩ = some (.slice va st'.length vc) := cell_row hr4 0
            have hgt : w4.heap[wr.heap.size]? = some (.cells #[.int .u8 (op : Int), .int .u8 (p : Int)] 41 (0, 0)) := (hg4.block _ (by omega) (fun e => by injection e with e; omega)).trans HG.out
            have ct : w4.cell? ⟨wr.heap.size, 0, none⟩ = some (.int .u8 (op : Int)) := cell_row hgt 0
            have co : w4.cell? ⟨0, 5 * op + 2, none⟩ = some (.int .u8 (owT op : Int)) := by rw [(OpT.up HO3.out HB4.out).cell]; exact (opsC_get hop).2.2.1
            have hln := HLN.out
            have hgb : 0 < w3.heap.size := by
              have := HO3.out.cell 0
              exact World.block_lt_of_cell? _ _ (this.trans (opsC_get (Nat.zero_le _)).1)
            have hne : ∀ j, (Value.slice va st'.length vc).ownBlock = some j → w3.heap.size + 1 ≤ j := own_ge ho4
            have hng : (Value.slice va st'.length vc).ownBlock ≠ some wr.heap.size := own_ne ho4 hgt
            have hlt4 : w3.heap.size < w4.heap.size := World.block_lt_of_cell? _ _ cb
            have hio := fun w' => Tryz.idxShow hop w'
            have HR4 : Hid (w4.heap[w3.heap.size]? = some (.cells #[.slice va st'.length vc] 51 (0, 0))) := hr4
            have hO5 : (w4.alloc (.cells #[.string (mkB tx), .int .u8 (owT op : Int)] 58)).drew.ownsRow (w3.heap.size + 1) 58 2 (.slice va st'.length vc) st'.length (encX .u8 st') := World.ownsRow.alloc ho4 _
            have hB5 : (w4.alloc (.cells #[.string (mkB tx), .int .u8 (owT op : Int)] 58)).drew.heap[w4.heap.size]? = some (.cells #[.string (mkB tx), .int .u8 (owT op : Int)] 58 (0, 0)) := (MapKept.heap_alloc w4 _).1
            have hn5 : st'.length ≤ 10000000 := by omega
            have hz5 : w3.heap.size + 1 ≤ (w4.alloc (.cells #[.string (mkB tx), .int .u8 (owT op : Int)] 58)).drew.heap.size := by simp; omega
            have hf5 : ∀ w5, (w4.alloc (.cells #[.string (mkB tx), .int .u8 (owT op : Int)] 58)).drew.grownBy w5 (Value.slice va st'.length vc).ownBlock → w5.heap[w3.heap.size]? = some (.cells #[.slice va st'.length vc] 51 (0, 0)) := fun w5 hg => (hg.block w3.heap.size (by simp; omega) (fun e => by have := hne _ e.symm; omega)).trans (((below_new w4 _).block _ hlt4).trans HR4.out)
            have hfin : Hid (∀ (w5 : World) (a5 : Option Addr) (k5 : Nat), (w4.alloc (.cells #[.string (mkB tx), .int .u8 (owT op : Int)] 58)).drew.grownBy w5 (Value.slice va st'.length vc).ownBlock → w5.ownsRow (w3.heap.size + 1) 58 2 (.slice a5 (st'.length + 1) k5) (st'.length + 1) (encX .u8 (st' ++ [((mkB tx).toList, owT op)])) →
                StkAt (w5.setCell ⟨w3.heap.size, 0, none⟩ (.slice a5 (st'.length + 1) k5)) w3.heap.size (stS (nms ss) (ts.take (k + 1)) []) ∧ Below w3.heap.size w3 (w5.setCell ⟨w3.heap.size, 0, none⟩ (.slice a5 (st'.length + 1) k5))) := fun w5 a5 k5 hg ho => by
              have e1 : w5.grownBy (w5.setCell ⟨w3.heap.size, 0, none⟩ (.slice a5 (st'.length + 1) k5)) (some w3.heap.size) := ⟨rfl, rfl, rfl, by simp, fun k hk hne => Below.heap_setCell _ _ _ _ (fun e => hne (congrArg some e))⟩
              have e2 : Below w3.heap.size w3 (w4.alloc (.cells #[.string (mkB tx), .int .u8 (owT op : Int)] 58)).drew := below_step HB4.out (below_new w4 _).drew
              have e3 : Below w3.heap.size w3 w5 := e2.grown hg e2.size (fun j e => by have := hne j e; omega)
              refine ⟨⟨.slice a5 (st'.length + 1) k5, ?_, ?_⟩, e3.grown e1 e3.size (fun j e => by injection e with e; omega)⟩
              · rw [heap_setCell_same w5 _ 0 _ _ _ (hf5 w5 hg)]; rfl
              · rw [HNY.out]
                rw [mkB_toList] at ho
                rw [List.length_append]
                exact owns_keep ho fun k hb hk => e1.block k hk (fun e => by injection e with e; omega)
            clear HNY hgt ct
            have ct : w4.cell? ⟨wr.heap.size, 0, none⟩ = some (.int .u8 (op : Int)) := grown_cell (cell_row HG.out 0) hg4 (fun e => by injection e with e; dsimp only at e; omega)
            go_upto_region 15 with fail
            go_region_law ((refine Tryz.stepg_pc rfl _ _ rfl (w3.heap.size + 1) (.slice va st'.length vc) st' (mkB tx) (owT op) w4.heap.size rfl rfl hO5 hB5 hn5 hz5 ?_; intro v5 w5 hown5 hgr5; have c5 : w5.cell? ⟨w3.heap.size, 0, none⟩ = some (.slice va st'.length vc) := cell_row (hf5 w5 hgr5) 0; have z5 : w5.frozen? ⟨w3.heap.size, 0, none⟩ = false := frozen_of_row w5 _ 0 _ _ (hf5 w5 hgr5); obtain ⟨a5, k5, rfl⟩ := own_sl hown5))
            all_goals
              obtain ⟨f1, f2⟩ := hfin.out w5 a5 k5 hgr5 hown5
              have HF1 : Hid (StkAt _ _ _) := f1
              have HF2 : Hid (Below _ _ _) := f2
              clear f1 f2 hO5 hB5 hf5 hown5 hgr5 hio co ct cb c5 z5 hr4 ho4 hs4 hg4
              go_wp2
              go_roundw
              case rel => exact ⟨k + 1, by omega, by go_num, HF1, HF2⟩
              case measure => simp [intOf]; omega
          · obtain ⟨sz, hfs, hfl⟩ := HTL.out.fin
            have hk' : ts.take k = ts := List.take_of_length_le (by omega)
            have HK2 : Hid (StkAt wr w3.heap.size ([] ++ [(textL (nms ss) ts, sz)])) := by
              have := HK.out; rw [hk', hfs] at this; exact this
            have hTk := Tryz.sh_take w3.heap.size 0 [] (textL (nms ss) ts, sz) wr HK2.out (by dsimp only; omega) (by simp)
            rw [wiX_zero] at hTk
            dsimp only at hTk
            have hCl := fun w' => Tryz.clone_any (mkB (textL (nms ss) ts)) w' (by rw [mkB_size]; omega)
            have hsz := mkB_size (textL (nms ss) ts)
            have HBR : Hid (Below w.heap.size w wr) := below_step HB3.out hwr.out
            have hb3 := HB3.out.size
            clear hfs HK HK2 HTL HK0
            by_cases hq : 4096 < (textL (nms ss) ts).length
            · have hq' : (4096 : Int) < ((mkB (textL (nms ss) ts)).size : Int) := by omega
              go_wp2_with fail
              refine hTk.mono ?_
              rintro e w4 ⟨rfl, _, hg4⟩
              have HB4 : Hid (Below w.heap.size w w4) := HBR.out.grown hg4 HBR.out.size (fun j e => by injection e with e; omega)
              go_wp2
              go_ret2
              exact ⟨rfl, HB4.out⟩
            · have hq' : ¬ (4096 : Int) < ((mkB (textL (nms ss) ts)).size : Int) := by omega
              go_wp2_with fail
              refine hTk.mono ?_
              rintro e w4 ⟨rfl, _, hg4⟩
              have HB4 : Hid (Below w.heap.size w w4) := HBR.out.grown hg4 HBR.out.size (fun j e => by injection e with e; omega)
              go_wp2_with fail
              refine (hCl _).mono ?_
              rintro e w5 ⟨rfl, hb5⟩
              have HB5 : Hid (Below w.heap.size w w5) := below_step HB4.out hb5
              go_wp2
              go_ret2
              exact ⟨rfl, HB5.out⟩
      · have e3 : (E3 == 0) = false := by simpa using q3
        subst q1 q2
        rw [if_neg (by decide), if_neg (by decide), if_pos q3]
        go_enter Tryz.func13, Tryz.ntmps13
        go_wp2_with fail
        refine h1.mono ?_
        rintro e w1 ⟨rfl, hb1⟩
        go_wp2_with fail
        refine (h2 w1 (HT.out.up hb1)).mono ?_
        rintro e w2 ⟨rfl, hb2⟩
        have hb12 := below_step hb1 hb2
        go_wp2_with fail
        refine (h3 w2 (HS.out.up hb12) (HT.out.up hb12)).mono ?_
        rintro e w3 ⟨rfl, hb3⟩
        have HB : Hid (Below w.heap.size w w3) := below_step hb12 hb3
        go_wp2
        go_ret2
        exact ⟨rfl, HB.out⟩
    · have e2 : ((E2 : Int) == 0) = false := by simp; omega
      subst q1
      rw [if_neg (by decide), if_pos q2]
      go_enter Tryz.func13, Tryz.ntmps13
      go_wp2_with fail
      refine h1.mono ?_
      rintro e w1 ⟨rfl, hb1⟩
      go_wp2_with fail
      refine (h2 w1 (HT.out.up hb1)).mono ?_
      rintro e w2 ⟨rfl, hb2⟩
      have HB : Hid (Below w.heap.size w w2) := below_step hb1 hb2
      go_wp2
      go_ret2
      exact ⟨rfl, HB.out⟩
  · have e1 : (E1 == 0) = false := by simpa using q1
    rw [if_pos q1]
    go_enter Tryz.func13, Tryz.ntmps13
    go_wp2_with fail
    refine h1.mono ?_
    rintro e w1 ⟨rfl, hb1⟩
    have HB : Hid (Below w.heap.size w w1) := hb1
    go_wp2
    go_ret2
    exact ⟨rfl, HB.out⟩
set_option maxRecDepth 100000 in
theorem Tryz.show_formula : TellC 5 1 := by
  intro a len cap ad ss a' l' cap' ts w hS hT hO
  have h := Tryz.tell_any 14 1 (fun _ _ => rfl) Tryz.tcheck_any a len cap ad ss a' l' cap' ts w hS hT hO
  clear hS hT hO
  unfold TellP at h ⊢
  generalize tellL (nms ss) ts 1 = r at *
  go_enter Tryz.func5, Tryz.ntmps5
  go_wp2_with fail
  refine h.mono ?_
  rintro e w1 ⟨rfl, hb1⟩
  go_wp2
  go_ret2
  exact ⟨rfl, hb1⟩
set_option maxRecDepth 100000 in
theorem Tryz.show_path : TellC 7 3 := by
  intro a len cap ad ss a' l' cap' ts w hS hT hO
  have h := Tryz.tell_any 18 3 (fun _ _ => rfl) Tryz.tpath_any a len cap ad ss a' l' cap' ts w hS hT hO
  clear hS hT hO
  unfold TellP at h ⊢
  generalize tellL (nms ss) ts 3 = r at *
  go_enter Tryz.func7, Tryz.ntmps7
  go_wp2_with fail
  refine h.mono ?_
  rintro e w1 ⟨rfl, hb1⟩
  go_wp2
  go_ret2
  exact ⟨rfl, hb1⟩
end Go.Proofs.YtfipefbaabkdeaaGreatDoor
