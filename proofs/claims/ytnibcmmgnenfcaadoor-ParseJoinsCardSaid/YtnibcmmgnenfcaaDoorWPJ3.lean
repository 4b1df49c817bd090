/- ParseJoins where both texts are formulas, over the contract of parse.Formula. -/
import Derived.Test.YtnibcmmgnenfcaaDoorWPJ2
namespace Go.Proofs.YtnibcmmgnenfcaaDoor
open Go.RowKit Go.Maps

theorem txt_one (sa : ByteArray) : ((({ data := #[32, 32, 40] } : ByteArray) ++ sa) ++ ({ data := #[32, 41, 32] } : ByteArray)).toList = 32 :: 32 :: 40 :: (sa.toList ++ [32, 41, 32]) := by
  rw [app_tl, app_tl]; simp [ByteArray.toList_eq]
theorem txt_two (sa sb o : ByteArray) : (((((({ data := #[40] } : ByteArray) ++ sa) ++ ({ data := #[41] } : ByteArray)) ++ o) ++ ({ data := #[40] } : ByteArray)) ++ sb ++ ({ data := #[41] } : ByteArray)).toList = 40 :: (sa.toList ++ 41 :: (o.toList ++ 40 :: (sb.toList ++ [41]))) := by
  simp only [app_tl]; simp [ByteArray.toList_eq]
/-- A variable that gets what it holds. -/
theorem flt_same {w : World} {g : Nat} {a b : Int} (h : Flt w g a b) : Below w.heap.size w ((w.setCell ⟨g, 0, none⟩ (.int .i64 a)).setCell ⟨g, 1, none⟩ (.int .i64 b)) := by
  have h1 := heap_setCell_same w g 0 _ _ (.int .i64 a) h
  have h2 := heap_setCell_same _ g 1 _ _ (.int .i64 b) h1
  refine ⟨rfl, rfl, rfl, by simp, fun k _ => ?_⟩
  by_cases hk : k = g
  · subst hk; rw [h2]; unfold Flt at h; rw [h]; rfl
  · rw [Below.heap_setCell _ _ _ _ hk, Below.heap_setCell _ _ _ _ hk]
theorem tk_far {w1 w2 : World} {a : Option Addr} {l c n : Nat} {ts : List Tk} {row : Option Nat} (h : TkSl w1 a l c ts) (hg : w1.grownBy w2 row) (hr : Hid (∀ j, row = some j → n ≤ j)) (hz : ∀ y, a = some y → y.block < n) : TkSl w2 a l c ts :=
  h.grown hg fun y hy e => by have := hr.out _ e.symm; have := hz y hy; omega
theorem tok_old {W w1 w2 : World} {l c : Nat} {ts : List Tk} {row : Option Nat} {o : Obj} (h : TkSl w1 (some ⟨W.heap.size, 0, none⟩) l c ts) (hg : w1.grownBy w2 row) (hr : Hid (∀ j, row = some j → (W.alloc o).drew.heap.size ≤ j)) : TkSl w2 (some ⟨W.heap.size, 0, none⟩) l c ts :=
  h.grown hg fun y hy e => by injection hy with hy; subst hy; have := hr.out _ e.symm; have e2 : (W.alloc o).drew.heap.size = W.heap.size + 1 := (by simp); rw [e2] at this; dsimp only at this; omega
theorem tok_new {wA wB : World} {base e n op : Nat} {v : Value} {xs : List Value} (hop : op < 256) (ho : wA.ownsRow base e 2 v n xs) (hg : (wA.alloc (.cells #[.int .u8 (op : Int), .int .u8 0] 42)).grownBy wB v.ownBlock) : TkSl wB (some ⟨wA.heap.size, 0, none⟩) 1 1 [(op, 0)] :=
  (one_tk wA hop).grown hg fun y hy e => by injection hy with hy; subst hy; have := (ho.lt _ e.symm).2; dsimp only at this; omega
theorem own_ge9 {w w9 : World} {e size n : Nat} {v : Value} {xs : List Value} (h : w.ownsRow w9.drew.heap.size e size v n xs) : Hid (∀ j, v.ownBlock = some j → w9.heap.size ≤ j) := fun j hj => by
  have := own_ge h j hj
  simpa using this
theorem own_len2 {w : World} {base e : Nat} {v : Value} {t u : List Tk} (h : w.ownsRow base e 2 v (t ++ u).length (encT (t ++ u))) : w.ownsRow base e 2 v (t ++ u).length (encT (t ++ u)) := h
/-- append of tokens under a guard. -/
theorem Tryd.stepg_tks {w : World} {ops : Array Oper} {o : Oper} {a : Act} {K : Act → World → Prop} {Q : Exit → Act → World → Prop} {E : Prop} (hw : Region.wanted o (yielded ops a.tmps) = true) (s x : Operand)
    (ho : o.op = .call { callee := .builtin .append, args := #[s, x], argTypes := #[23, 23] }) (base : Nat)
    (v : Value) (xs ys : List Tk) (b : Option Addr) (len cap : Nat) (hs : a.eval s = v) (hx : a.eval x = .slice b len cap) (hown : w.ownsRow base 42 2 v xs.length (encT xs)) (hT : TkSl w b len cap ys)
    (hn : xs.length ≤ 10000000) (hm : ys.length ≤ 10000000) (hbase : base ≤ w.heap.size)
    (h : ∀ v' w', w'.ownsRow base 42 2 v' (xs ++ ys).length (encT (xs ++ ys)) → w.grownBy w' v.ownBlock → K (a.put o.dst v') w') :
    if Region.wanted o (yielded ops a.tmps) = true then Oper.wp Tryd.prog o a w K Q else E := by
  rw [if_pos hw]
  exact Tryd.wp_tks s x ho base v xs ys b len cap hs hx hown hT hn hm hbase h
theorem bl_gr {w w9 w1 w2 : World} {row : Option Nat} (h : Below w.heap.size w w1) (h9 : w.heap.size ≤ w9.heap.size) (hg : w1.grownBy w2 row) (hr : Hid (∀ j, row = some j → w9.heap.size ≤ j)) : Below w.heap.size w w2 := h.grown hg h.size (fun j e => Nat.le_trans h9 (hr.out j e))
theorem below_newd (w : World) (o : Obj) : Below w.drew.heap.size w.drew (w.alloc o).drew := below_new w.drew o
theorem one_tkd (w : World) {op : Nat} (h : op < 256) : TkSl (w.alloc (.cells #[.int .u8 (op : Int), .int .u8 0] 42)).drew (some ⟨w.heap.size, 0, none⟩) 1 1 [(op, 0)] := one_tk w.drew h
def wl6 : List Bytes := [[60, 45, 62], [45, 62], [124], [38], [85], [82]]
def ol6 : List Int := [14, 13, 12, 11, 15, 16]
theorem six (i : Nat) (h : i < 6) : ∃ x ∈ opsL, wl6.getD i [] = x.1 ∧ ol6.getD i 0 = (x.2.1 : Int) ∧ x.2.1 < 256 ∧ x.1.length ≤ 3 := by
  match i, h with
  | 0, _ => exact ⟨_, List.mem_cons_self, rfl, rfl, by decide, by decide⟩
  | 1, _ => exact ⟨([45, 62], 13, 1), by decide, rfl, rfl, by decide, by decide⟩
  | 2, _ => exact ⟨([124], 12, 2), by decide, rfl, rfl, by decide, by decide⟩
  | 3, _ => exact ⟨([38], 11, 3), by decide, rfl, rfl, by decide, by decide⟩
  | 4, _ => exact ⟨([85], 15, 4), by decide, rfl, rfl, by decide, by decide⟩
  | 5, _ => exact ⟨([82], 16, 4), by decide, rfl, rfl, by decide, by decide⟩
set_option maxRecDepth 100000 in
set_option maxHeartbeats 4000000 in
theorem Tryd.pjoins_ok (hFm : ReadC 7 formL) (a : Option Addr) (len cap : Nat) (ad : Nat → Addr) (ss : List ByteArray) (sa sb : ByteArray) (k : Int) (w : World) (hT : Tab w) (hN : StrSl Tryd.prog 22 w a len cap ad ss) (h1 : sa.size ≤ 300) (h2 : sb.size ≤ 300)
    (t u : List Tk5) (ha : formL (nms ss) sa.toList = (t, 0, 0)) (hb : formL (nms ss) sb.toList = (u, 0, 0)) :
    Calls Tryd.prog 4 #[.slice a len cap, .string sa, .string sb, .int .i64 k] w fun e w' => e = .returned (.bool true) ∧ Below w.heap.size w w' := by
  have hA := Tryd.awake5_any hFm w hT
  have hFa := fun w' (hN' : StrSl Tryd.prog 22 w' a len cap ad ss) (hT' : Tab w') => hFm a len cap ad ss sa w' hN' (by unfold maxLen; omega) hT'
  have hFb := fun w' (hN' : StrSl Tryd.prog 22 w' a len cap ad ss) (hT' : Tab w') => hFm a len cap ad ss sb w' hN' (by unfold maxLen; omega) hT'
  have hsz1 : ((({ data := #[32, 32, 40] } : ByteArray) ++ sa) ++ ({ data := #[32, 41, 32] } : ByteArray)).size ≤ maxLen := by rw [← tl_len, txt_one]; simp [tl_len]; unfold maxLen; omega
  have hF1 := fun w' (hN' : StrSl Tryd.prog 22 w' a len cap ad ss) (hT' : Tab w') => hFm a len cap ad ss ((({ data := #[32, 32, 40] } : ByteArray) ++ sa) ++ ({ data := #[32, 41, 32] } : ByteArray)) w' hN' hsz1 hT'
  rw [txt_one, joins_one ha (by rw [tl_len]; exact h1)] at hF1
  rw [ha] at hFa
  rw [hb] at hFb
  have HFm : Hid (ReadC 7 formL) := hFm
  have HT : Hid (Tab w) := hT
  have HN : Hid (StrSl Tryd.prog 22 w a len cap ad ss) := hN
  have HA : Hid (formL (nms ss) sa.toList = (t, 0, 0)) := ha
  have HB : Hid (formL (nms ss) sb.toList = (u, 0, 0)) := hb
  have q1 := Tryd.neqFlt 0 0 0 0
  rw [decide_eq_true (rfl : ((0 : Int), (0 : Int)) = (0, 0))] at q1
  clear hFm hT hN ha hb hsz1
  go_enter Tryd.func4, Tryd.ntmps4
  go_wp2_with fail
  refine hA.mono ?_
  rintro e w1 ⟨rfl, hb1⟩
  have HB1 : Hid (Below w.heap.size w w1) := hb1
  have h3 := hFa w1 (HN.out.up hb1) (Tab.up HT.out hb1)
  clear hA hb1 hFa
  go_wp2_with fail
  refine h3.mono ?_
  rintro e x2 ⟨v2, rfl, hown2, hb2, hl2, hok2⟩
  have HO2 : Hid (x2.ownsRow w1.heap.size 42 2 v2 t.length (encT t)) := hown2
  obtain ⟨a2, c2, rfl, hT2⟩ := own_tks hown2 hok2
  have HB2 : Hid (Below w.heap.size w (x2.alloc (.cells #[.int .i64 0, .int .i64 0] 26))) := (below_step HB1.out hb2).alloc (below_step HB1.out hb2).size _
  have HF2 : Hid (Flt (x2.alloc (.cells #[.int .i64 0, .int .i64 0] 26)) x2.heap.size 0 0) := Flt.new _ _ _
  have HS2 : Hid (TkSl (x2.alloc (.cells #[.int .i64 0, .int .i64 0] 26)) a2 t.length c2 t) := hT2.up (below_new _ _)
  have HOK2 : Hid (∀ z ∈ t, z.1 < 256 ∧ z.2 < 256) := hok2
  have h4 := hFb _ (HN.out.up HB2.out) (Tab.up HT.out HB2.out)
  clear h3 hb2 hFb hown2 hT2 hok2 HO2
  go_wp2_with fail
  generalize x2.alloc (.cells #[.int .i64 0, .int .i64 0] 26) = w2 at *
  refine h4.mono ?_
  rintro e x3 ⟨v3, rfl, hown3, hb3, hl3, hok3⟩
  obtain ⟨a3, c3, rfl, hT3⟩ := own_tks hown3 hok3
  have HB23 : Hid (Below w2.heap.size w2 (x3.alloc (.cells #[.int .i64 0, .int .i64 0] 26))) := hb3.alloc hb3.size _
  have HB3 : Hid (Below w.heap.size w (x3.alloc (.cells #[.int .i64 0, .int .i64 0] 26))) := below_step HB2.out HB23.out
  have HF23 : Hid (Flt (x3.alloc (.cells #[.int .i64 0, .int .i64 0] 26)) x2.heap.size 0 0) := HF2.out.up HB23.out
  have HS23 : Hid (TkSl (x3.alloc (.cells #[.int .i64 0, .int .i64 0] 26)) a2 t.length c2 t) := HS2.out.up HB23.out
  have HS3 : Hid (TkSl (x3.alloc (.cells #[.int .i64 0, .int .i64 0] 26)) a3 u.length c3 u) := hT3.up (below_new _ _)
  have HOK3 : Hid (∀ z ∈ u, z.1 < 256 ∧ z.2 < 256) := hok3
  have f0 := HF23.out.c0
  have f1 := HF23.out.c1
  have h5 := hF1 _ (HN.out.up HB3.out) (Tab.up HT.out HB3.out)
  have s1 : ¬ 9223372036854775807 < 3 + sa.size := by omega
  have s2 : ¬ 9223372036854775807 < 3 + sa.size + 3 := by omega
  clear h4 hb3 hF1 hown3 hT3 hok3 HF2 HS2
  go_wp2_with fail
  generalize x3.alloc (.cells #[.int .i64 0, .int .i64 0] 26) = w3 at *
  refine h5.mono ?_
  rintro e x4 ⟨v4, rfl, hown4, hb4, hl4, hok4⟩
  obtain ⟨a4, c4, rfl, hT4⟩ := own_tks hown4 hok4
  have HB34 : Hid (Below w3.heap.size w3 (x4.alloc (.cells #[.int .i64 0, .int .i64 0] 26))) := hb4.alloc hb4.size _
  have HB4 : Hid (Below w.heap.size w (x4.alloc (.cells #[.int .i64 0, .int .i64 0] 26))) := below_step HB3.out HB34.out
  have HS24 : Hid (TkSl (x4.alloc (.cells #[.int .i64 0, .int .i64 0] 26)) a2 t.length c2 t) := HS23.out.up HB34.out
  have HS34 : Hid (TkSl (x4.alloc (.cells #[.int .i64 0, .int .i64 0] 26)) a3 u.length c3 u) := HS3.out.up HB34.out
  have hS4 : TkSl (x4.alloc (.cells #[.int .i64 0, .int .i64 0] 26)) a4 t.length c4 t := hT4.up (below_new _ _)
  have HF4 : Hid (Flt (x4.alloc (.cells #[.int .i64 0, .int .i64 0] 26)) x4.heap.size 0 0) := Flt.new _ _ _
  have hx4s : w.heap.size ≤ x4.heap.size := (below_step HB3.out hb4).size
  have h6 := Tryd.sameT_any _ _ _ _ _ _ _ _ _ HS24.out hS4
  rw [decide_eq_true (rfl : (t : List Tk) = t)] at h6
  clear h5 hb4 hown4 hT4 hok4 hl4 hS4 HS23 HS3 HF23 f0 f1
  go_wp2_with fail
  generalize x4.alloc (.cells #[.int .i64 0, .int .i64 0] 26) = w4 at *
  refine h6.mono ?_
  rintro e w5 ⟨rfl, hb5⟩
  have HB5 : Hid (Below w.heap.size w w5) := below_step HB4.out hb5
  have HS25 : Hid (TkSl w5 a2 t.length c2 t) := HS24.out.up hb5
  have HS35 : Hid (TkSl w5 a3 u.length c3 u) := HS34.out.up hb5
  have HF5 : Hid (Flt w5 x4.heap.size 0 0) := HF4.out.up hb5
  clear h6 hb5 HS24 HS34 HF4
  have HST : Hid (StAt ((w5.alloc (.cells #[.string { data := #[60, 45, 62] }, .string { data := #[45, 62] }, .string { data := #[124] }, .string { data := #[38] }, .string { data := #[85] }, .string { data := #[82] }] 9)).alloc (.cells #[.int .u8 14, .int .u8 13, .int .u8 12, .int .u8 11, .int .u8 15, .int .u8 16] 37)) w5.heap.size wl6) := (StAt.new w5 wl6).up (below_new _ _)
  have HRO : Hid (RowAt ((w5.alloc (.cells #[.string { data := #[60, 45, 62] }, .string { data := #[45, 62] }, .string { data := #[124] }, .string { data := #[38] }, .string { data := #[85] }, .string { data := #[82] }] 9)).alloc (.cells #[.int .u8 14, .int .u8 13, .int .u8 12, .int .u8 11, .int .u8 15, .int .u8 16] 37)) 37 (w5.heap.size + 1) ol6) := by
    have h := RowAt.new (w5.alloc (.cells #[.string { data := #[60, 45, 62] }, .string { data := #[45, 62] }, .string { data := #[124] }, .string { data := #[38] }, .string { data := #[85] }, .string { data := #[82] }] 9)) 37 ol6
    have e : (w5.alloc (.cells #[.string { data := #[60, 45, 62] }, .string { data := #[45, 62] }, .string { data := #[124] }, .string { data := #[38] }, .string { data := #[85] }, .string { data := #[82] }] 9)).heap.size = w5.heap.size + 1 := by simp
    rw [e] at h; exact h
  have hb57 : Below w5.heap.size w5 ((w5.alloc (.cells #[.string { data := #[60, 45, 62] }, .string { data := #[45, 62] }, .string { data := #[124] }, .string { data := #[38] }, .string { data := #[85] }, .string { data := #[82] }] 9)).alloc (.cells #[.int .u8 14, .int .u8 13, .int .u8 12, .int .u8 11, .int .u8 15, .int .u8 16] 37)) := (below_new _ _).alloc (by simp) _
  have HB7 : Hid (Below w.heap.size w ((w5.alloc (.cells #[.string { data := #[60, 45, 62] }, .string { data := #[45, 62] }, .string { data := #[124] }, .string { data := #[38] }, .string { data := #[85] }, .string { data := #[82] }] 9)).alloc (.cells #[.int .u8 14, .int .u8 13, .int .u8 12, .int .u8 11, .int .u8 15, .int .u8 16] 37))) := below_step HB5.out hb57
  have HS27 : Hid (TkSl ((w5.alloc (.cells #[.string { data := #[60, 45, 62] }, .string { data := #[45, 62] }, .string { data := #[124] }, .string { data := #[38] }, .string { data := #[85] }, .string { data := #[82] }] 9)).alloc (.cells #[.int .u8 14, .int .u8 13, .int .u8 12, .int .u8 11, .int .u8 15, .int .u8 16] 37)) a2 t.length c2 t) := HS25.out.up hb57
  have HS37 : Hid (TkSl ((w5.alloc (.cells #[.string { data := #[60, 45, 62] }, .string { data := #[45, 62] }, .string { data := #[124] }, .string { data := #[38] }, .string { data := #[85] }, .string { data := #[82] }] 9)).alloc (.cells #[.int .u8 14, .int .u8 13, .int .u8 12, .int .u8 11, .int .u8 15, .int .u8 16] 37)) a3 u.length c3 u) := HS35.out.up hb57
  have HF7 : Hid (Flt ((w5.alloc (.cells #[.string { data := #[60, 45, 62] }, .string { data := #[45, 62] }, .string { data := #[124] }, .string { data := #[38] }, .string { data := #[85] }, .string { data := #[82] }] 9)).alloc (.cells #[.int .u8 14, .int .u8 13, .int .u8 12, .int .u8 11, .int .u8 15, .int .u8 16] 37)) x4.heap.size 0 0) := HF5.out.up hb57
  clear hb57 HS25 HS35 HF5
  go_wp2_with fail
  generalize ((w5.alloc (.cells #[.string { data := #[60, 45, 62] }, .string { data := #[45, 62] }, .string { data := #[124] }, .string { data := #[38] }, .string { data := #[85] }, .string { data := #[82] }] 9)).alloc (.cells #[.int .u8 14, .int .u8 13, .int .u8 12, .int .u8 11, .int .u8 15, .int .u8 16] 37)) = w7 at *
  generalize w5.heap.size = gw at *
  refine (Tryd.pick6_any k w7).mono ?_
  rintro e w' ⟨i, hi, rfl, hw'⟩
  obtain rfl := hw'.symm
  obtain ⟨x, hx, hx1, hx2, hx3, hx4⟩ := six i hi
  have hcw := HST.out.cell (k := i) hi
  rw [hx1] at hcw
  have hiw := Tryd.idxS gw 6 i hi
  have hos : (mkB x.1).size ≤ 3 := by rw [mkB_size]; exact hx4
  have HTX : Hid ((((((({ data := #[40] } : ByteArray) ++ sa) ++ ({ data := #[41] } : ByteArray)) ++ mkB x.1) ++ ({ data := #[40] } : ByteArray)) ++ sb ++ ({ data := #[41] } : ByteArray)).toList = 40 :: (sa.toList ++ 41 :: (x.1 ++ 40 :: (sb.toList ++ [41])))) := by
    show _ = _
    rw [txt_two, mkB_toList]
  have hszz : ((((((({ data := #[40] } : ByteArray) ++ sa) ++ ({ data := #[41] } : ByteArray)) ++ mkB x.1) ++ ({ data := #[40] } : ByteArray)) ++ sb ++ ({ data := #[41] } : ByteArray))).size ≤ maxLen := by
    rw [← tl_len, HTX.out]; simp [tl_len]; unfold maxLen; omega
  have h8 := HFm.out a len cap ad ss _ w7 (HN.out.up HB7.out) hszz (Tab.up HT.out HB7.out)
  rw [HTX.out] at h8
  have hj := joins_two HA.out HB.out (by rw [tl_len]; exact h1) (by rw [tl_len]; exact h2) hx
  generalize mkB x.1 = o at *
  have r1 : ¬ 9223372036854775807 < 1 + sa.size := by omega
  have r2 : ¬ 9223372036854775807 < 1 + sa.size + 1 := by omega
  have r3 : ¬ 9223372036854775807 < 1 + sa.size + 1 + o.size := by omega
  have r4 : ¬ 9223372036854775807 < 1 + sa.size + 1 + o.size + 1 := by omega
  have r5 : ¬ 9223372036854775807 < 1 + sa.size + 1 + o.size + 1 + sb.size := by omega
  have r6 : ¬ 9223372036854775807 < 1 + sa.size + 1 + o.size + 1 + sb.size + 1 := by omega
  clear HTX hszz
  have f0 := HF7.out.c0
  have f1 := HF7.out.c1
  have z0 := HF7.out.fz 0
  have z1 := HF7.out.fz 1
  go_wp2_with fail
  refine h8.mono ?_
  rintro e w8 ⟨v8, rfl, hown8, hb8, hl8, hok8⟩
  have HF8 : Hid (Flt w8 x4.heap.size 0 0) := HF7.out.up hb8
  clear f0 f1 z0 z1 hcw
  have f0 := HF8.out.c0
  have f1 := HF8.out.c1
  have z0 := HF8.out.fz 0
  have z1 := HF8.out.fz 1
  have HB8 : Hid (Below w.heap.size w w8) := below_step HB7.out hb8
  rcases hj with hj | ⟨er, her, hj⟩
  · rw [hj] at hown8 hl8 hok8 ⊢
    obtain ⟨a8, c8, rfl, hT8⟩ := own_tks hown8 hok8
    have HS8 : Hid (TkSl w8 a8 (t ++ u ++ [(x.2.1, 0)]).length c8 (t ++ u ++ [(x.2.1, 0)])) := hT8
    have HS28 : Hid (TkSl w8 a2 t.length c2 t) := HS27.out.up hb8
    have HS38 : Hid (TkSl w8 a3 u.length c3 u) := HS37.out.up hb8
    have HRO8 : Hid (RowAt w8 37 (gw + 1) ol6) := HRO.out.up hb8
    clear hown8 hT8 h8 hb8 HS27 HS37 HRO HF7 HST
    dsimp only
    have hb89 : Below w8.heap.size w8 ((w8.setCell ⟨x4.heap.size, 0, none⟩ (.int .i64 0)).setCell ⟨x4.heap.size, 1, none⟩ (.int .i64 0)) := flt_same HF8.out
    have HB9 : Hid (Below w.heap.size w ((w8.setCell ⟨x4.heap.size, 0, none⟩ (.int .i64 0)).setCell ⟨x4.heap.size, 1, none⟩ (.int .i64 0))) := below_step HB8.out hb89
    have HS89 : Hid (TkSl ((w8.setCell ⟨x4.heap.size, 0, none⟩ (.int .i64 0)).setCell ⟨x4.heap.size, 1, none⟩ (.int .i64 0)) a8 (t.length + (u.length + 1)) c8 (t ++ u ++ [(x.2.1, 0)])) := by
      have := HS8.out.up hb89
      have hle : (t ++ u ++ [(x.2.1, 0)]).length = t.length + (u.length + 1) := by simp
      rw [hle] at this
      exact this
    have HS29 : Hid (TkSl ((w8.setCell ⟨x4.heap.size, 0, none⟩ (.int .i64 0)).setCell ⟨x4.heap.size, 1, none⟩ (.int .i64 0)) a2 t.length c2 t) := HS28.out.up hb89
    have HS39 : Hid (TkSl ((w8.setCell ⟨x4.heap.size, 0, none⟩ (.int .i64 0)).setCell ⟨x4.heap.size, 1, none⟩ (.int .i64 0)) a3 u.length c3 u) := HS38.out.up hb89
    have HF9 : Hid (Flt ((w8.setCell ⟨x4.heap.size, 0, none⟩ (.int .i64 0)).setCell ⟨x4.heap.size, 1, none⟩ (.int .i64 0)) x4.heap.size 0 0) := HF8.out.up hb89
    have HRO9 : Hid (RowAt ((w8.setCell ⟨x4.heap.size, 0, none⟩ (.int .i64 0)).setCell ⟨x4.heap.size, 1, none⟩ (.int .i64 0)) 37 (gw + 1) ol6) := HRO8.out.up hb89
    have q2 := Tryd.eqlFlt 0 0 0 0
    rw [decide_eq_true (rfl : ((0 : Int), (0 : Int)) = (0, 0))] at q2
    have hio : ∀ w', (Instr.indexAt 38 (.slice (some ⟨gw + 1, 0, none⟩) 6 6) (.int .i64 i)).run Tryd.prog w' = .ok (.pointer (some ⟨gw + 1, i, none⟩)) w' := fun w' => by
      have := idx_of (a := some ⟨gw + 1, 0, none⟩) (cap := 6) (n := 6) Tryd.underlying38 (by kernel_rfl) (by simp) i w' hi
      simpa [adOf, add_plain] using this
    go_upto_region 17 with fail
    clear f0 f1 z0 z1 hb89 HS8 HS28 HS38 HF8 HRO8 HB8 hiw hl8 hok8 r1 r2 r3 r4 r5 r6 s1 s2 hx hx1 hx4 hos HFm HN HT HA HB
    generalize (w8.setCell ⟨x4.heap.size, 0, none⟩ (.int .i64 0)).setCell ⟨x4.heap.size, 1, none⟩ (.int .i64 0) = w9 at *
    have hoc : w9.cell? ⟨gw + 1, i, none⟩ = some (.int .u8 (x.2.1 : Int)) := by rw [← hx2]; exact HRO9.out.cell hi
    have hg1 := HF9.out.lt
    have hg2 := HRO9.out.lt
    have hk0 : (w9.drew.cell? ⟨x4.heap.size, 0, none⟩ = some (.int .i64 0) ∧ w9.drew.cell? ⟨x4.heap.size, 1, none⟩ = some (.int .i64 0) ∧ w9.drew.cell? ⟨gw + 1, i, none⟩ = some (.int .u8 (x.2.1 : Int))) := ⟨HF9.out.c0, HF9.out.c1, hoc⟩
    have hk1 : ∀ w0 w1' : World, (w0.cell? ⟨x4.heap.size, 0, none⟩ = some (.int .i64 0) ∧ w0.cell? ⟨x4.heap.size, 1, none⟩ = some (.int .i64 0) ∧ w0.cell? ⟨gw + 1, i, none⟩ = some (.int .u8 (x.2.1 : Int))) → Below w0.heap.size w0 w1' → (w1'.cell? ⟨x4.heap.size, 0, none⟩ = some (.int .i64 0) ∧ w1'.cell? ⟨x4.heap.size, 1, none⟩ = some (.int .i64 0) ∧ w1'.cell? ⟨gw + 1, i, none⟩ = some (.int .u8 (x.2.1 : Int))) := fun w0 w1' h hb => ⟨kept_cell h.1 hb, kept_cell h.2.1 hb, kept_cell h.2.2 hb⟩
    have hk2 : ∀ (w0 w1' : World) (row : Option Nat), (w0.cell? ⟨x4.heap.size, 0, none⟩ = some (.int .i64 0) ∧ w0.cell? ⟨x4.heap.size, 1, none⟩ = some (.int .i64 0) ∧ w0.cell? ⟨gw + 1, i, none⟩ = some (.int .u8 (x.2.1 : Int))) → w0.grownBy w1' row → Hid (∀ j, row = some j → w9.heap.size ≤ j) → (w1'.cell? ⟨x4.heap.size, 0, none⟩ = some (.int .i64 0) ∧ w1'.cell? ⟨x4.heap.size, 1, none⟩ = some (.int .i64 0) ∧ w1'.cell? ⟨gw + 1, i, none⟩ = some (.int .u8 (x.2.1 : Int))) := fun w0 w1' row h hb hr => ⟨grown_cell h.1 hb (fun e => by have := hr.out _ e.symm; dsimp only at this; omega), grown_cell h.2.1 hb (fun e => by have := hr.out _ e.symm; dsimp only at this; omega), grown_cell h.2.2 hb (fun e => by have := hr.out _ e.symm; dsimp only at this; omega)⟩
    have HSa : Hid (TkSl w9.drew a2 t.length c2 t) := HS29.out.up (Below.refl _ _).drew
    have HSu : Hid (TkSl w9.drew a3 u.length c3 u) := HS39.out.up (Below.refl _ _).drew
    have HSz : Hid (TkSl w9.drew a8 (t.length + (u.length + 1)) c8 (t ++ u ++ [(x.2.1, 0)])) := HS89.out.up (Below.refl _ _).drew
    have hcp : ∀ W, Below w9.drew.heap.size w9.drew W → Calls Tryd.prog 16 #[.slice a2 t.length c2] W fun e w' => ∃ v, e = .returned v ∧ w'.ownsRow w9.drew.heap.size 42 2 v t.length (encT t) ∧ Below W.heap.size W w' ∧ Below w9.drew.heap.size w9.drew w' ∧ Hid (∀ j, v.ownBlock = some j → W.heap.size ≤ j) := fun W hW =>
      (Tryd.copyT_any a2 t.length c2 t W (HSa.out.up hW) (by omega)).mono fun e w' ⟨v, he, ho, hb⟩ => ⟨v, he, owns_base ho hW.size, hb, hW.trans (hb.mono hW.size), own_ge ho⟩
    have hlt : t.length ≤ 10000000 := by omega
    have hlu : u.length ≤ 10000000 := by omega
    have hltu : (t ++ u).length ≤ 10000000 := by simp; omega
    have hl1 : ([(x.2.1, 0)] : List Tk).length ≤ 10000000 := by simp
    have hz9 : ∀ y, a8 = some y → y.block < w9.heap.size := fun y hy => by
      have := HS89.out; rw [hy] at this; exact this.lt (by omega)
    have HB9d : Hid (Below w.heap.size w w9.drew) := below_step HB9.out (Below.refl _ _).drew
    have h9 := HB9.out.size
    have hokC : ∀ z ∈ (t ++ u ++ [(x.2.1, 0)] : List Tk), z.1 < 256 ∧ z.2 < 256 := HSz.out.ok
    clear hoc hx2 hj
    go_region_held3 (fun w' => w'.cell? ⟨x4.heap.size, 0, none⟩ = some (.int .i64 0) ∧ w'.cell? ⟨x4.heap.size, 1, none⟩ = some (.int .i64 0) ∧ w'.cell? ⟨gw + 1, i, none⟩ = some (.int .u8 (x.2.1 : Int))) (first | exact hk0 | exact hk1 _ _ ‹_› ‹_› | exact hk2 _ _ _ ‹_› ‹_› ‹_› | exact hk1 _ _ ‹_› (below_new _ _) | assumption)
      (first
        | (go_at_call 16; with_reducible refine (hcp _ (Below.refl _ _)).mono ?_; rintro e wA ⟨vA, rfl, hownA, hbA, hb0, hrowA⟩; have HZA := HSz.out.up hb0; have HBA := below_step HB9d.out hb0; have hrow9 : Hid (∀ j, vA.ownBlock = some j → w9.heap.size ≤ j) := own_ge9 hownA)
        | (go_at_call 16; with_reducible refine (hcp _ (below_newd _ _)).mono ?_; rintro e wA ⟨vA, rfl, hownA, hbA, hb0, hrowA⟩; have HZA := HSz.out.up hb0; have HBA := below_step HB9d.out hb0; have hrow9 : Hid (∀ j, vA.ownBlock = some j → w9.heap.size ≤ j) := own_ge9 hownA; have HTA := (one_tkd w9 hx3).up hbA)
        | (revert HTA; intro HTA; refine Tryd.stepg_tks rfl _ _ rfl w9.drew.heap.size vA t u a3 u.length c3 rfl rfl hownA (HSu.out.up hb0) hlt hlu hb0.size ?_; intro vB wB hownB hgrB; have HZB := tk_far HZA hgrB hrow9 hz9; have HBB := bl_gr HBA h9 hgrB hrow9; have HTB := tok_old HTA hgrB hrowA; have hrowB : Hid (∀ j, vB.ownBlock = some j → w9.heap.size ≤ j) := own_ge9 hownB; have hszB := Nat.le_trans hb0.size hgrB.size)
        | (revert hownA; intro hownA; refine Tryd.stepg_tks rfl _ _ rfl w9.drew.heap.size vA t u a3 u.length c3 rfl rfl hownA (HSu.out.up hb0) hlt hlu hb0.size ?_; intro vB wB hownB hgrB; have HZB := tk_far HZA hgrB hrow9 hz9; have HBB := bl_gr HBA h9 hgrB hrow9; have hrowB : Hid (∀ j, vB.ownBlock = some j → w9.heap.size ≤ j) := own_ge9 hownB; have hszB := Nat.le_trans hb0.size hgrB.size)
        | (revert hownA; intro hownA; refine Tryd.stepg_tks rfl _ _ rfl w9.drew.heap.size vA t u a3 u.length c3 rfl rfl (World.ownsRow.alloc hownA _) ((HSu.out.up hb0).up (below_new _ _)) hlt hlu (Nat.le_trans hb0.size (below_new _ _).size) ?_; intro vB wB hownB hgrB; have HZB := tk_far (HZA.up (below_new _ _)) hgrB hrow9 hz9; have HBB := bl_gr (HBA.alloc HBA.size _) h9 hgrB hrow9; have HTB := tok_new hx3 hownA hgrB; have hrowB : Hid (∀ j, vB.ownBlock = some j → w9.heap.size ≤ j) := own_ge9 hownB; have hszB := Nat.le_trans (Nat.le_trans hb0.size (below_new _ _).size) hgrB.size)
        | (revert HTB; intro HTB; refine Tryd.stepg_tks rfl _ _ rfl w9.drew.heap.size vB (t ++ u) [(x.2.1, 0)] _ 1 1 rfl rfl (own_len2 hownB) HTB hltu hl1 hszB ?_; intro vC wC hownC hgrC; have HZC := tk_far HZB hgrC hrowB hz9; have HBC := bl_gr HBB h9 hgrC hrowB)
        | (revert hownB; intro hownB; refine Tryd.stepg_tks rfl _ _ rfl w9.drew.heap.size vB (t ++ u) [(x.2.1, 0)] _ 1 1 rfl rfl (World.ownsRow.alloc (own_len2 hownB) _) (one_tk wB hx3) hltu hl1 (Nat.le_trans hszB (below_new _ _).size) ?_; intro vC wC hownC hgrC; have HZC := tk_far (HZB.up (below_new _ _)) hgrC hrowB hz9; have HBC := bl_gr (HBB.alloc HBB.size _) h9 hgrC hrowB)
        | (revert hownC; intro hownC; go_at_call 11; obtain ⟨aC, cC, rfl, hTC⟩ := own_tks hownC hokC; refine (Tryd.sameT_any _ _ _ _ _ _ _ _ _ HZC hTC).mono ?_; rintro e wD ⟨he, hbD⟩; rw [decide_eq_true rfl] at he; subst he; have HBD := below_step HBC hbD))
    all_goals
      have HBF : Hid (Below w.heap.size w wD) := HBD
      clear hk0 hk1 hk2 hcp hokC hz9
      go_wp2
      go_ret
      exact ⟨rfl, HBF.out⟩
  · rw [hj]
    clear hown8 hl8 hok8 h8
    rcases her with rfl | rfl
    · go_wp2
      go_ret
      exact ⟨rfl, below_set HB8.out hx4s _ _ _ _⟩
    · go_wp2
      go_ret
      exact ⟨rfl, below_set HB8.out hx4s _ _ _ _⟩
end Go.Proofs.YtnibcmmgnenfcaaDoor
