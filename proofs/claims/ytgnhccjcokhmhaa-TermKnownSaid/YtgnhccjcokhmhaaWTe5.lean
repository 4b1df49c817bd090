/- Package term's Check, Path, refusal, Blocks, Depths, Props, Plain. -/
import Derived.Test.YtgnhccjcokhmhaaWTe4
import Derived.Test.YtgnhccjcokhmhaaTermR
namespace Go.Proofs.Ytgnhccjcokhmhaa
open Go.RowKit Go.Maps

theorem Try.check_any (a : Option Addr) (len cap : Nat) (ts : List Tk) (w : World) (hT : TkSl w a len cap ts) :
    Calls Try.prog 18 #[.slice a len cap] w fun e w' => e = .returned (.int .i64 (lookE ts 1 : Int)) ∧ Below w.heap.size w w' := by
  have hl := fun w' (h : TkSl w' a len cap ts) => Try.look_any a len cap 1 ts w' h
  generalize lookE ts 1 = E at *
  go_enter Try.func18, Try.ntmps18
  go_wp2_with fail
  refine (hl _ hT).mono ?_
  rintro e w1 ⟨⟨v, rfl, _, _⟩, hw1⟩
  go_wp2
  go_ret
  exact ⟨rfl, hw1⟩
theorem Try.path_any (a : Option Addr) (len cap : Nat) (ts : List Tk) (w : World) (hT : TkSl w a len cap ts) :
    Calls Try.prog 20 #[.slice a len cap] w fun e w' => e = .returned (.int .i64 (lookE ts 3 : Int)) ∧ Below w.heap.size w w' := by
  have hl := fun w' (h : TkSl w' a len cap ts) => Try.look_any a len cap 3 ts w' h
  generalize lookE ts 3 = E at *
  go_enter Try.func20, Try.ntmps20
  go_wp2_with fail
  refine (hl _ hT).mono ?_
  rintro e w1 ⟨⟨v, rfl, _, _⟩, hw1⟩
  go_wp2
  go_ret
  exact ⟨rfl, hw1⟩
theorem Try.refusal_any (a : Option Addr) (len cap want : Nat) (ts : List Tk) (w : World) (hT : TkSl w a len cap ts) :
    Calls Try.prog 43 #[.slice a len cap, .int .u8 (want : Int)] w fun e w' => e = .returned (.int .i64 (refE ts want : Int)) ∧ Below w.heap.size w w' := by
  by_cases h3 : want = 3
  · subst h3
    have hl := Try.path_any a len cap ts w hT
    have HE : Hid (refE ts 3 = lookE ts 3) := rfl
    generalize lookE ts 3 = E at *
    go_enter Try.func43, Try.ntmps43
    go_wp2_with fail
    refine hl.mono ?_
    rintro e w1 ⟨rfl, hw1⟩
    go_wp2
    go_ret
    exact ⟨by rw [HE.out]; rfl, hw1⟩
  · have q3 : ((want : Int) == 3) = false := by rw [beq_eq_false_iff_ne]; omega
    have hl := Try.check_any a len cap ts w hT
    have HE : Hid (refE ts want = lookE ts 1) := by show _ = _; unfold refE; rw [if_neg h3]
    generalize lookE ts 1 = E at *
    go_enter Try.func43, Try.ntmps43
    go_wp2_with fail
    refine hl.mono ?_
    rintro e w1 ⟨rfl, hw1⟩
    go_wp2
    go_ret
    exact ⟨by rw [HE.out]; rfl, hw1⟩

/-- Block g is a row of just these numbers. -/
def RowI (w : World) (e : TypeId) (g : Nat) (cur : List Int) : Prop := w.heap[g]? = some (.cells (cur.map (Value.int .i64)).toArray e (0, 0))
theorem RowI.lt {w : World} {e : TypeId} {g : Nat} {cur : List Int} (h : RowI w e g cur) : g < w.heap.size := (Array.getElem?_eq_some_iff.1 h).1
theorem RowI.up {w w' : World} {e : TypeId} {g : Nat} {cur : List Int} (h : RowI w e g cur) (hb : Below w.heap.size w w') : RowI w' e g cur := (hb.block g h.lt).trans h
theorem RowI.cell {w : World} {e : TypeId} {g : Nat} {cur : List Int} (h : RowI w e g cur) {i : Nat} (hi : i < cur.length) : w.cell? ⟨g, i, none⟩ = some (.int .i64 (cur.getD i 0)) := by
  unfold RowI at h; simp [World.cell?, h, List.getD_eq_getElem?_getD, List.getElem?_eq_getElem hi]
theorem RowI.frozen {w : World} {e : TypeId} {g : Nat} {cur : List Int} (h : RowI w e g cur) (i : Nat) : w.frozen? ⟨g, i, none⟩ = false := frozen_of_row w g i _ e h
theorem RowI.set {w : World} {e : TypeId} {g : Nat} {cur : List Int} (h : RowI w e g cur) (i : Nat) (x : Int) : RowI (w.setCell ⟨g, i, none⟩ (.int .i64 x)) e g (cur.set i x) := by
  have := heap_setCell_same w g i _ e (.int .i64 x) h
  unfold RowI; rw [this]; simp [List.map_set]
theorem RowI.other {w : World} {e : TypeId} {g g' : Nat} {cur : List Int} (h : RowI w e g cur) (hne : g ≠ g') (i : Nat) (v : Value) : RowI (w.setCell ⟨g', i, none⟩ v) e g cur := (Below.heap_setCell _ _ _ _ hne).trans h
theorem RowI.owns {w : World} {e : TypeId} {g base n : Nat} {cur : List Int} (h : RowI w e g cur) (hb : base ≤ g) (hl : cur.length = n) (hm : n ≤ maxLen) : w.ownsRow base e 1 (.slice (some ⟨g, 0, none⟩) n n) n (cur.map (Value.int .i64)) :=
  ⟨by simp [hl], Or.inr ⟨g, n, _, rfl, hb, h, Nat.le_refl _, hm, by simp [hl], by rw [Nat.mul_one, List.take_of_length_le (by simp [hl])]⟩⟩
theorem madeI (n : Nat) : madeCells #[.int .i64 0] n = ((List.replicate n (0 : Int)).map (Value.int .i64)).toArray := by
  apply Array.ext_getElem?
  intro i
  by_cases h : i < n
  · simp [madeCells, h, Nat.mod_one]
  · simp [madeCells, h]
theorem set_fill {xs : List Int} {n k : Nat} (hl : xs.length = n) (hk : k < n) : (xs.take k ++ List.replicate (n - k) 0).set k (xs.getD k 0) = xs.take (k + 1) ++ List.replicate (n - (k + 1)) 0 := by
  have h1 : (xs.take k).length = k := by simp; omega
  have h2 : n - k = (n - (k + 1)) + 1 := by omega
  have e : xs.getD k 0 = xs[k]'(by omega) := by simp [List.getD_eq_getElem?_getD, List.getElem?_eq_getElem (show k < xs.length by omega)]
  rw [List.set_append_right _ _ (by omega), h1, Nat.sub_self, h2, List.replicate_succ, List.set_cons_zero, List.take_add_one, List.getElem?_eq_getElem (by omega), e, List.append_assoc]
  rfl
/-- What Blocks and Depths answer. -/
def IntsR (T : TypeId) (E : Nat) (zs : List Int) (w : World) (e : Ending) (w' : World) : Prop :=
  ∃ v, e = .returned (.tuple #[v, .int .i64 (E : Int)]) ∧ (E = 0 → w'.ownsRow w.heap.size T 1 v zs.length (zs.map (Value.int .i64))) ∧ (E ≠ 0 → v = .slice none 0 0)
theorem Try.infoInt : (Try.prog.info? 3).map (fun i => (i.zero, i.size, i.bytes)) = some (some (.int .i64 0), 1, 8) := by kernel_rfl
theorem Try.makeInts (l : Nat) (hb : l ≤ 1000000) (w : World) :
    (Instr.makeSlice 25 (.int .i64 (l : Int)) (.int .i64 (l : Int))).run Try.prog w = .ok (.slice (some ⟨w.heap.size, 0, none⟩) l l) (w.alloc (.cells (madeCells #[.int .i64 0] l) 3)) := by
  obtain ⟨i, hi, hz0, hz1, hz2⟩ := info_parts Try.infoInt
  have := run_make (P := Try.prog) w 25 3 i (.int .i64 0) Try.underlying25 hi hz0 .i64 .i64 (l : Int) (l : Int) (by omega) (by omega) (by rw [hz2]; omega) (by omega)
  rw [this, hz1]
  simp only [Int.toNat_natCast, Nat.mul_one]
  rfl
theorem Try.sizeInt : (Try.prog.info? 3).map (·.size) = some 1 := by kernel_rfl
set_option maxHeartbeats 2000000 in
theorem Try.blocks_any (a : Option Addr) (len cap : Nat) (ts : List Tk) (w : World) (hT : TkSl w a len cap ts) :
    Calls Try.prog 10 #[.slice a len cap] w fun e w' => IntsR 3 (lookE ts 4) ((allP ts).map fun p => (p.frm : Int)) w e w' ∧ Below w.heap.size w w' := by
  have hl := fun w' (h : TkSl w' a len cap ts) => Try.look_any a len cap 4 ts w' h
  have HN : Hid (lookE ts 4 = 0 → (allP ts).length ≤ 512) := fun h => by
    obtain ⟨h1, t, h2, h3, _⟩ := lookE_zero.1 h
    rw [h3, allP_tree h2, parts_len, ← flat_len, ← h3]; exact h1
  have hzl : ((allP ts).map fun p => (p.frm : Int)).length = (allP ts).length := by simp
  have hzk : ∀ k (h : k < (allP ts).length), ((allP ts).map fun p => (p.frm : Int)).getD k 0 = (((allP ts)[k].frm : Nat) : Int) := fun k h => by simp [List.getD_eq_getElem?_getD, List.getElem?_eq_getElem h]
  generalize ((allP ts).map fun p => (p.frm : Int)) = zs at *
  generalize lookE ts 4 = E at *
  generalize allP ts = all at *
  go_enter Try.func10, Try.ntmps10
  go_wp2_with fail
  refine (hl _ hT).mono ?_
  rintro e w1 ⟨⟨v, rfl, hv0, hv1⟩, hw1⟩
  by_cases hE : E = 0
  · subst hE
    have hN := HN.out rfl
    have HO : Hid _ := hv0 rfl
    clear hv0 hv1 HN hl
    obtain ⟨a2, g2, cap2, rfl, hK, _⟩ := own_kp HO.out Try.underlying53 Try.sizeKp
    have hblk := hK.blk
    have HK : Hid (KpSl _ _ _ _ _ _ _ _) := hK
    clear hK
    obtain ⟨n, hn⟩ : ∃ n, n = all.length := ⟨_, rfl⟩
    rw [← hn] at HK hN hzl ⊢
    have HNN : Hid (n = all.length) := hn
    clear hn
    have hwS := hw1.size
    have hmk := fun w' => Try.makeInts n (by omega) w'
    have HI0 : Hid (RowI (w1.alloc (.cells (madeCells #[.int .i64 0] n) 3)) 3 w1.heap.size (zs.take 0 ++ List.replicate (n - 0) 0)) := by
      have := (MapKept.heap_alloc w1 (.cells (madeCells #[.int .i64 0] n) 3)).1
      show w1.alloc _ |>.heap[_]? = _
      rw [this, madeI]; simp
    go_wp2
    go_loopw [22] (fun j wr => ∃ k : Nat, k ≤ n ∧ j = .int .i64 k ∧ Hid (RowI wr 3 w1.heap.size (zs.take k ++ List.replicate (n - k) 0)) ∧ Hid (Below w1.heap.size w1 wr)) (fun j _ => n - (intOf j).toNat)
    case atStart => exact ⟨0, Nat.zero_le _, rfl, HI0, below_new _ _⟩
    case round =>
      obtain ⟨k, hk, rfl, HI, hbk⟩ := hrel
      by_cases hlt : k < n
      · have hkl : k < all.length := by rw [← HNN.out]; exact hlt
        have hKk := HK.out.up hbk.out
        have hidx := fun w' => hKk.idx n k w' hlt (Nat.le_refl _)
        have hkm : k < (all.map kp).length := by rw [List.length_map]; exact hkl
        have hc0 := hKk.c0 k hkm
        have hc1 := hKk.c1 k hkm
        have hc2 := hKk.c2 k hkm
        have hme : (all.map kp)[k] = kp all[k] := by simp
        have hz := hzk k hkl
        rw [hme] at hc0 hc1 hc2
        have HS : Hid _ := set_fill (by omega : zs.length = n) hlt
        have hcl : (zs.take k ++ List.replicate (n - k) 0).length = n := by simp; omega
        have hic := HI.out.cell (i := k) (by omega)
        have hif := HI.out.frozen k
        have hlt1 := hbk.out.size
        have hil := HI.out.lt
        have hidy : ∀ w', (Instr.indexAt 25 (.slice (some ⟨w1.heap.size, 0, none⟩) n n) (.int .i64 k)).run Try.prog w' = .ok (.pointer (some ⟨w1.heap.size, k, none⟩)) w' := fun w' => by
          have := idx_of (a := some ⟨w1.heap.size, 0, none⟩) (cap := n) (n := n) Try.underlying25 Try.sizeInt (by simp) k w' hlt
          simpa [adOf, add_plain] using this
        have HV : Hid (zs.getD k 0 = ((kp all[k]).b : Int)) := hz
        rw [hz] at HS
        have HS2 : Hid ((zs.take k ++ List.replicate (n - k) 0).set k ((kp all[k]).b : Int) = zs.take (k + 1) ++ List.replicate (n - (k + 1)) 0) := HS.out
        generalize kp all[k] = q at *
        obtain ⟨q0, q1, q2⟩ := q
        dsimp only [kpCells] at *
        generalize (zs.take k ++ List.replicate (n - k) 0).getD k 0 = old at *
        clear hme hkm hKk hz HS
        go_wp2
        go_roundw
        case rel =>
          refine ⟨k + 1, by omega, by go_num, ?_, ?_⟩
          · show RowI _ _ _ _
            rw [← HS2.out]
            exact (HI.out.set k _).up (below_new _ _)
          · show Below _ _ _
            exact (hbk.out.setCell (by dsimp only; omega) _).alloc (by simp; omega) _
        case measure => simp [intOf]; omega
      · obtain rfl : k = n := by omega
        have HF : Hid (RowI wr 3 w1.heap.size zs) := by
          have h := HI.out
          rw [Nat.sub_self, List.replicate_zero, List.append_nil, List.take_of_length_le (by omega)] at h
          exact h
        go_wp2
        go_ret2
        exact ⟨⟨_, rfl, fun _ => by rw [hzl]; exact HF.out.owns hwS hzl (by unfold maxLen; omega), fun h => absurd rfl h⟩, below_step hw1 hbk.out⟩
  · obtain rfl := hv1 hE
    have hE' : ((E : Int) != 0) = true := by simp; omega
    clear hl HN hv0
    go_wp2
    go_ret2
    exact ⟨⟨_, rfl, fun h => absurd h hE, fun _ => rfl⟩, hw1⟩
set_option maxHeartbeats 2000000 in
theorem Try.depths_any (a : Option Addr) (len cap : Nat) (ts : List Tk) (w : World) (hT : TkSl w a len cap ts) :
    Calls Try.prog 12 #[.slice a len cap] w fun e w' => IntsR 3 (lookE ts 4) ((allP ts).map fun p => (p.dep : Int)) w e w' ∧ Below w.heap.size w w' := by
  have hl := fun w' (h : TkSl w' a len cap ts) => Try.look_any a len cap 4 ts w' h
  have HN : Hid (lookE ts 4 = 0 → (allP ts).length ≤ 512) := fun h => by
    obtain ⟨h1, t, h2, h3, _⟩ := lookE_zero.1 h
    rw [h3, allP_tree h2, parts_len, ← flat_len, ← h3]; exact h1
  have hzl : ((allP ts).map fun p => (p.dep : Int)).length = (allP ts).length := by simp
  have hzk : ∀ k (h : k < (allP ts).length), ((allP ts).map fun p => (p.dep : Int)).getD k 0 = (((allP ts)[k].dep : Nat) : Int) := fun k h => by simp [List.getD_eq_getElem?_getD, List.getElem?_eq_getElem h]
  generalize ((allP ts).map fun p => (p.dep : Int)) = zs at *
  generalize lookE ts 4 = E at *
  generalize allP ts = all at *
  go_enter Try.func12, Try.ntmps12
  go_wp2_with fail
  refine (hl _ hT).mono ?_
  rintro e w1 ⟨⟨v, rfl, hv0, hv1⟩, hw1⟩
  by_cases hE : E = 0
  · subst hE
    have hN := HN.out rfl
    have HO : Hid _ := hv0 rfl
    clear hv0 hv1 HN hl
    obtain ⟨a2, g2, cap2, rfl, hK, _⟩ := own_kp HO.out Try.underlying53 Try.sizeKp
    have hblk := hK.blk
    have HK : Hid (KpSl _ _ _ _ _ _ _ _) := hK
    clear hK
    obtain ⟨n, hn⟩ : ∃ n, n = all.length := ⟨_, rfl⟩
    rw [← hn] at HK hN hzl ⊢
    have HNN : Hid (n = all.length) := hn
    clear hn
    have hwS := hw1.size
    have hmk := fun w' => Try.makeInts n (by omega) w'
    have HI0 : Hid (RowI (w1.alloc (.cells (madeCells #[.int .i64 0] n) 3)) 3 w1.heap.size (zs.take 0 ++ List.replicate (n - 0) 0)) := by
      have := (MapKept.heap_alloc w1 (.cells (madeCells #[.int .i64 0] n) 3)).1
      show w1.alloc _ |>.heap[_]? = _
      rw [this, madeI]; simp
    go_wp2
    go_loopw [22] (fun j wr => ∃ k : Nat, k ≤ n ∧ j = .int .i64 k ∧ Hid (RowI wr 3 w1.heap.size (zs.take k ++ List.replicate (n - k) 0)) ∧ Hid (Below w1.heap.size w1 wr)) (fun j _ => n - (intOf j).toNat)
    case atStart => exact ⟨0, Nat.zero_le _, rfl, HI0, below_new _ _⟩
    case round =>
      obtain ⟨k, hk, rfl, HI, hbk⟩ := hrel
      by_cases hlt : k < n
      · have hkl : k < all.length := by rw [← HNN.out]; exact hlt
        have hKk := HK.out.up hbk.out
        have hidx := fun w' => hKk.idx n k w' hlt (Nat.le_refl _)
        have hkm : k < (all.map kp).length := by rw [List.length_map]; exact hkl
        have hc0 := hKk.c0 k hkm
        have hc1 := hKk.c1 k hkm
        have hc2 := hKk.c2 k hkm
        have hme : (all.map kp)[k] = kp all[k] := by simp
        have hz := hzk k hkl
        rw [hme] at hc0 hc1 hc2
        have HS : Hid _ := set_fill (by omega : zs.length = n) hlt
        have hcl : (zs.take k ++ List.replicate (n - k) 0).length = n := by simp; omega
        have hic := HI.out.cell (i := k) (by omega)
        have hif := HI.out.frozen k
        have hlt1 := hbk.out.size
        have hil := HI.out.lt
        have hidy : ∀ w', (Instr.indexAt 25 (.slice (some ⟨w1.heap.size, 0, none⟩) n n) (.int .i64 k)).run Try.prog w' = .ok (.pointer (some ⟨w1.heap.size, k, none⟩)) w' := fun w' => by
          have := idx_of (a := some ⟨w1.heap.size, 0, none⟩) (cap := n) (n := n) Try.underlying25 Try.sizeInt (by simp) k w' hlt
          simpa [adOf, add_plain] using this
        have HV : Hid (zs.getD k 0 = ((kp all[k]).d : Int)) := hz
        rw [hz] at HS
        have HS2 : Hid ((zs.take k ++ List.replicate (n - k) 0).set k ((kp all[k]).d : Int) = zs.take (k + 1) ++ List.replicate (n - (k + 1)) 0) := HS.out
        generalize kp all[k] = q at *
        obtain ⟨q0, q1, q2⟩ := q
        dsimp only [kpCells] at *
        generalize (zs.take k ++ List.replicate (n - k) 0).getD k 0 = old at *
        clear hme hkm hKk hz HS
        go_wp2
        go_roundw
        case rel =>
          refine ⟨k + 1, by omega, by go_num, ?_, ?_⟩
          · show RowI _ _ _ _
            rw [← HS2.out]
            exact (HI.out.set k _).up (below_new _ _)
          · show Below _ _ _
            exact (hbk.out.setCell (by dsimp only; omega) _).alloc (by simp; omega) _
        case measure => simp [intOf]; omega
      · obtain rfl : k = n := by omega
        have HF : Hid (RowI wr 3 w1.heap.size zs) := by
          have h := HI.out
          rw [Nat.sub_self, List.replicate_zero, List.append_nil, List.take_of_length_le (by omega)] at h
          exact h
        go_wp2
        go_ret2
        exact ⟨⟨_, rfl, fun _ => by rw [hzl]; exact HF.out.owns hwS hzl (by unfold maxLen; omega), fun h => absurd rfl h⟩, below_step hw1 hbk.out⟩
  · obtain rfl := hv1 hE
    have hE' : ((E : Int) != 0) = true := by simp; omega
    clear hl HN hv0
    go_wp2
    go_ret2
    exact ⟨⟨_, rfl, fun h => absurd h hE, fun _ => rfl⟩, hw1⟩

/-- As far as it has come. -/
def propsTo (ts : List Tk) (k : Nat) : Nat := (ts.take k).foldl (fun x t => if t.1 = 2 then x ||| 2 ^ t.2 % 256 else x) 0
theorem propsTo_next {ts : List Tk} {k : Nat} (h : k < ts.length) : propsTo ts (k + 1) = if ts[k].1 = 2 then propsTo ts k ||| 2 ^ ts[k].2 % 256 else propsTo ts k := by
  unfold propsTo
  rw [List.take_add_one, List.getElem?_eq_getElem h, List.foldl_append]
  rfl
set_option maxHeartbeats 1000000 in
/-- What Plain answers. -/
theorem Try.plain_any (a : Option Addr) (len cap : Nat) (ts : List Tk) (w : World) (hT : TkSl w a len cap ts) :
    Calls Try.prog 16 #[.slice a len cap] w fun e w' => e = .returned (.tuple #[.bool (decide (lookE ts 1 = 0) && ((allP ts).getLast?.map (·.plain)).getD false), .int .i64 (lookE ts 1 : Int)]) ∧ Below w.heap.size w w' := by
  have hl := fun w' (h : TkSl w' a len cap ts) => Try.look_any a len cap 1 ts w' h
  have HN : Hid (lookE ts 1 = 0 → ∃ q p, allP ts = q ++ [p] ∧ q.length ≤ 512 ∧ isK (kindOf p) 2 = p.plain) := fun h => by
    obtain ⟨h1, t, h2, h3, h4, _⟩ := lookE_zero.1 h
    obtain ⟨q, h5, h6⟩ := parts_last t 0
    have h7 : t.size ≤ 512 := by rw [← flat_len, ← h3]; exact h1
    refine ⟨q, t.part 0, by rw [h3, allP_tree h2, h5], by omega, ?_⟩
    rw [kind_formula] at h4
    cases hp : (t.part 0).path with
    | true => rw [hp] at h4; cases h4
    | false => rw [kind_plain _ (fun h => by rw [hp] at h; cases h), hp]; rfl
  generalize lookE ts 1 = E at *
  generalize allP ts = all at *
  go_enter Try.func16, Try.ntmps16
  go_wp2_with fail
  refine (hl _ hT).mono ?_
  rintro e w1 ⟨⟨v, rfl, hv0, hv1⟩, hw1⟩
  by_cases hE : E = 0
  · subst hE
    obtain ⟨q, p, hall, hql, hpp⟩ := HN.out rfl
    have HO : Hid _ := hv0 rfl
    clear hv0 hv1 HN hl
    obtain ⟨a2, g2, cap2, rfl, hK, _⟩ := own_kp HO.out Try.underlying53 Try.sizeKp
    have hlen : all.length = q.length + 1 := by rw [hall]; simp
    have hidx := fun w' => hK.idx all.length q.length w' (by omega) (Nat.le_refl _)
    have hce : ∀ h, (all.map kp)[q.length]'h = kp p := by simp [hall]
    have hc0 := hK.c0 q.length (by simp; omega)
    have hc1 := hK.c1 q.length (by simp; omega)
    have hc2 := hK.c2 q.length (by simp; omega)
    rw [hce] at hc0 hc1 hc2
    have hi := fun w => Try.is_any (kp p) 2 w
    have hw : IntKind.i64.wrap ((all.length : Int) - 1) = (q.length : Int) := by rw [IntKind.wrap_i64]; omega
    have HB : Hid ((decide (0 = 0) && (all.getLast?.map (·.plain)).getD false) = isK (kp p).k 2) := by
      show _ = _
      rw [hall]; simp; exact hpp.symm
    have HN2 : Hid (all.length = all.length) := rfl
    clear hall hce hK HO hpp
    generalize all.length = M at *
    generalize q.length = L at *
    generalize kp p = qk at *
    obtain ⟨q0, q1, q2⟩ := qk
    dsimp only [kpCells] at *
    clear hlen hql HN2
    go_wp2_with fail
    refine (hi _).mono ?_
    rintro e w3 ⟨rfl, hw3⟩
    go_wp2
    go_ret2
    refine ⟨?_, below_step hw1 hw3⟩
    have h := HB.out
    simp only [decide_true, Bool.true_and] at h ⊢
    rw [h]; rfl
  · obtain rfl := hv1 hE
    have hE' : ((E : Int) != 0) = true := by simp; omega
    have HB : Hid ((decide (E = 0) && (all.getLast?.map (·.plain)).getD false) = false) := by show _ = _; rw [decide_eq_false hE]; rfl
    clear hl HN hv0
    go_wp2
    go_ret2
    exact ⟨by rw [HB.out]; rfl, hw1⟩
end Go.Proofs.Ytgnhccjcokhmhaa
