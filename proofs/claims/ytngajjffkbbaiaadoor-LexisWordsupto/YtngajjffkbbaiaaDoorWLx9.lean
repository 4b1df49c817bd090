/- The text of words: the program's Join (a Builder) and the document's; whether a text is blanks alone. -/
import Derived.Test.YtngajjffkbbaiaaDoorWLx8
import Derived.Test.YtngajjffkbbaiaaDoorLexQ
namespace Go.Proofs.YtngajjffkbbaiaaDoor
open Go.RowKit Go.Maps

def txs (ts : List Wd) : List Bytes := ts.map fun t => t.tx.toList
theorem txs_len (ts : List Wd) : (txs ts).length = ts.length := by simp [txs]
theorem txs_get {ts : List Wd} {k : Nat} (h : k < ts.length) : (txs ts)[k]? = some ts[k].tx.toList := by simp [txs, List.getElem?_eq_getElem h]
theorem take_snoc_tx {ts : List Wd} {k : Nat} (h : k < ts.length) : (txs ts).take (k + 1) = (txs ts).take k ++ [ts[k].tx.toList] := by rw [List.take_add_one, txs_get h]; rfl
theorem join_first {ts : List Wd} (h : 0 < ts.length) : joinL ((txs ts).take 1) = ts[0].tx.toList := by rw [take_snoc_tx h, List.take_zero, List.nil_append, joinL_one]
theorem join_next {ts : List Wd} {k : Nat} (h : k < ts.length) (h0 : 0 < k) : joinL ((txs ts).take (k + 1)) = joinL ((txs ts).take k) ++ 32 :: ts[k].tx.toList := by
  rw [take_snoc_tx h, joinL_snoc]
  intro e; have := congrArg List.length e; rw [List.length_take, txs_len, List.length_nil] at this; omega
theorem bat_up {T e : TypeId} {B b : Nat} {p : Value} {bs : List Value} {w w' : World} (h : Lib.BuilderAt T e B b p bs w) (hb : Below w.heap.size w w') : Lib.BuilderAt T e B b p bs w' := by
  obtain ⟨hB, v, hbk, hown, hne⟩ := h
  exact ⟨hB, v, (hb.block b (Array.getElem?_eq_some_iff.1 hbk).1).trans hbk, owns_up hown hb, hne⟩
theorem isb_up {T e : TypeId} {B b : Nat} {bs : List Value} {w w' : World} (h : Lib.IsBuilder T e B b bs w) (hb : Below w.heap.size w w') : Lib.IsBuilder T e B b bs w' := by
  rcases h with h | h
  · exact Or.inl (bat_up h hb)
  · exact Or.inr (bat_up h hb)
theorem isb_lt {T e : TypeId} {B b : Nat} {bs : List Value} {w : World} (h : Lib.IsBuilder T e B b bs w) : b < w.heap.size := by
  rcases h with h | h
  · exact h.lt
  · exact h.lt
/-- A variable that holds a word. -/
def WBlk (w : World) (g : Nat) (a : Int) (x : ByteArray) (b : Int) : Prop := w.heap[g]? = some (.cells #[.int .u8 a, .string x, .int .i64 b] 33 (0, 0))
theorem WBlk.c1 {w : World} {g : Nat} {a : Int} {x : ByteArray} {b : Int} (h : WBlk w g a x b) : w.cell? ⟨g, 1, none⟩ = some (.string x) := by unfold WBlk at h; simp [World.cell?, h]
theorem WBlk.c2 {w : World} {g : Nat} {a : Int} {x : ByteArray} {b : Int} (h : WBlk w g a x b) : w.cell? ⟨g, 2, none⟩ = some (.int .i64 b) := by unfold WBlk at h; simp [World.cell?, h]
theorem WBlk.new (w : World) (a : Int) (x : ByteArray) (b : Int) : WBlk (w.alloc (.cells #[.int .u8 a, .string x, .int .i64 b] 33)) w.heap.size a x b := (MapKept.heap_alloc w _).1
theorem str_cells (x : ByteArray) : Lib.strCells x = Lib.byteCells x.toList := by rw [ByteArray.toList_eq]; rfl
theorem cells_snoc (l : Bytes) (x : ByteArray) : Lib.byteCells l ++ Lib.strCells x = Lib.byteCells (l ++ x.toList) := by rw [str_cells, Lib.byteCells_append]
theorem cells_blank (l : Bytes) : Lib.byteCells l ++ [.int .u8 32] = Lib.byteCells (l ++ [32]) := by rw [Lib.byteCells_append]; rfl

set_option maxHeartbeats 2000000 in
theorem Tryd.join_any (a : Option Addr) (len cap : Nat) (ts : List Wd) (w : World) (hS : WdSl w a len cap ts) (hsz : (joinL (txs ts)).length ≤ 140737488355328) :
    Calls Tryd.prog 12 #[.slice a len cap] w fun e w' => e = .returned (.string (mkB (joinL (txs ts)))) ∧ Below w.heap.size w w' := by
  have HS : Hid (WdSl w a len cap ts) := hS
  have HL : Hid (ts.length = len) := hS.hlen
  have hbd := hS.bd
  have hcp := hS.hcap
  unfold maxLen at hbd
  have HZ : Hid ((joinL (txs ts)).length ≤ 140737488355328) := hsz
  clear hS hsz
  have hfr := Lib.fresh_isBuilder 55 5 w
  have HFR : Hid (Lib.IsBuilder 55 5 w.heap.size w.heap.size (Lib.byteCells []) (w.alloc (.cells #[.pointer none, .slice none 0 0] 55))) := hfr
  clear hfr
  go_enter Tryd.func12, Tryd.ntmps12
  go_wp2
  go_loopw [8] (fun i wr => ∃ k : Nat, k ≤ len ∧ i = .int .i64 k ∧ Hid (Lib.IsBuilder 55 5 w.heap.size w.heap.size (Lib.byteCells (joinL ((txs ts).take k))) wr) ∧ Hid (Below w.heap.size w wr)) (fun i _ => len - (intOf i).toNat)
  case atStart => exact ⟨0, Nat.zero_le _, rfl, HFR.out, below_new _ _⟩
  case round =>
    obtain ⟨k, hk, rfl, HI, HB⟩ := hrel
    by_cases hlt : k < len
    · have hkl : k < ts.length := by have := HL.out; omega
      obtain ⟨g, o, sh, hidx, hc0, hc1, hc2, hg, _⟩ := (HS.out.up HB.out).at Tryd.underlying22 Tryd.sizeWd k hlt
      have hik := fun w => hidx len w hlt
      clear hidx
      have hle := joinL_take_le (txs ts) (k + 1)
      have HJ0 : Hid (k = 0 → joinL ((txs ts).take (k + 1)) = joinL ((txs ts).take k) ++ ts[k].tx.toList) := by
        intro h; subst h; rw [join_first hkl, List.take_zero]; rfl
      have HJ1 : Hid (0 < k → joinL ((txs ts).take (k + 1)) = joinL ((txs ts).take k) ++ 32 :: ts[k].tx.toList) := fun h => join_next hkl h
      generalize ts[k].so = so at *
      generalize ts[k].tx = x at *
      generalize ts[k].pl = pl at *
      generalize hj1 : joinL ((txs ts).take (k + 1)) = j1 at *
      generalize hj0 : joinL ((txs ts).take k) = j0 at *
      have HE : Hid (joinL ((txs ts).take (k + 1)) = j1) := hj1
      have HI0 : Hid (Lib.IsBuilder 55 5 w.heap.size w.heap.size (Lib.byteCells j0) wr) := HI
      have hj1l : j1.length ≤ 140737488355328 := Nat.le_trans hle HZ.out
      have HV := WBlk.new wr (so : Int) x pl
      have HVs : Hid (WBlk (wr.alloc (.cells #[.int .u8 (so : Int), .string x, .int .i64 pl] 33)) wr.heap.size (so : Int) x pl) := HV
      have HI1 : Hid (Lib.IsBuilder 55 5 w.heap.size w.heap.size (Lib.byteCells j0) (wr.alloc (.cells #[.int .u8 (so : Int), .string x, .int .i64 pl] 33))) := isb_up HI.out (below_new _ _)
      have HB1 : Hid (Below w.heap.size w (wr.alloc (.cells #[.int .u8 (so : Int), .string x, .int .i64 pl] 33))) := HB.out.alloc HB.out.size _
      clear hle hj0 hg HV
      by_cases h0 : 0 < k
      · have hj := HJ1.out h0
        have hlx : j1.length = j0.length + (1 + x.size) := by rw [hj, List.length_append, List.length_cons, tl_len]; omega
        have HJ : Hid (j1 = j0 ++ 32 :: x.toList) := hj
        have hWB := Tryd.wbyte_any w.heap.size w.heap.size (Lib.byteCells j0) 32 _ HI1.out (by rw [Lib.byteCells_length]; omega) HB1.out.size
        clear hj hj1
        go_wp2_with fail
        refine hWB.mono ?_
        rintro e w3 ⟨rfl, hb3, hbl3, hk3⟩
        have hV3 : WBlk w3 wr.heap.size (so : Int) x pl := hk3 _ _ HVs.out (by have := isb_lt HI0.out; intro e; injection e with e; omega) (fun c fz e => by cases e)
        have v1 := hV3.c1
        have HB3 : Hid (Below w.heap.size w w3) := HB1.out.trans hbl3
        have hWS := Tryd.wstring_any w.heap.size w.heap.size (Lib.byteCells j0 ++ [.int .u8 32]) x w3 (Or.inr hb3) (by rw [List.length_append, Lib.byteCells_length]; simp; omega) HB3.out.size
        clear hb3 hbl3 hk3 hV3
        go_wp2_with fail
        refine hWS.mono ?_
        rintro e w4 ⟨rfl, hb4, hbl4, _⟩
        have HI4 : Hid (Lib.IsBuilder 55 5 w.heap.size w.heap.size (Lib.byteCells j1) w4) := by
          rw [cells_blank, cells_snoc, List.append_assoc] at hb4
          rw [HJ.out]; exact Or.inr hb4
        have HB4 : Hid (Below w.heap.size w w4) := HB3.out.trans hbl4
        clear hb4 hbl4
        go_wp2
        go_roundw
        case rel => exact ⟨k + 1, by omega, by go_num, by rw [HE.out]; exact HI4, HB4⟩
        case measure => simp [intOf]; omega
      · have hk0 : k = 0 := by omega
        have hj := HJ0.out hk0
        have hlx : j1.length = j0.length + x.size := by rw [hj, List.length_append, tl_len]
        have HJ : Hid (j1 = j0 ++ x.toList) := hj
        have v1 := HVs.out.c1
        have hWS := Tryd.wstring_any w.heap.size w.heap.size (Lib.byteCells j0) x _ HI1.out (by rw [Lib.byteCells_length]; omega) HB1.out.size
        clear hj hj1 hk0
        go_wp2_with fail
        refine hWS.mono ?_
        rintro e w4 ⟨rfl, hb4, hbl4, _⟩
        have HI4 : Hid (Lib.IsBuilder 55 5 w.heap.size w.heap.size (Lib.byteCells j1) w4) := by
          rw [cells_snoc] at hb4
          rw [HJ.out]; exact Or.inr hb4
        have HB4 : Hid (Below w.heap.size w w4) := HB1.out.trans hbl4
        clear hb4 hbl4
        go_wp2
        go_roundw
        case rel => exact ⟨k + 1, by omega, by go_num, by rw [HE.out]; exact HI4, HB4⟩
        case measure => simp [intOf]; omega
    · have hSt := Tryd.Builder_String_any w.heap.size w.heap.size (joinL (txs ts)) wr (by have := HI.out; rwa [List.take_of_length_le (by rw [txs_len]; have := HL.out; omega)] at this) HB.out.size
      have HX : Hid (mkB (joinL (txs ts)) = ⟨(joinL (txs ts)).toArray⟩) := rfl
      generalize (⟨(joinL (txs ts)).toArray⟩ : ByteArray) = r at *
      go_wp2_with fail
      refine hSt.mono ?_
      rintro e w4 ⟨rfl, hb4⟩
      have HB4 : Hid (Below w.heap.size w w4) := HB.out.trans hb4
      clear hb4
      go_wp2
      go_ret
      exact ⟨by rw [HX.out]; rfl, HB4.out⟩
end Go.Proofs.YtngajjffkbbaiaaDoor
