/- Package term's Blocks and Depths: their answer is a whole block. -/
import Derived.Test.YtgnhccjcokhmhaaWTe5
namespace Go.Proofs.Ytgnhccjcokhmhaa
open Go.RowKit Go.Maps

/-- What Blocks and Depths answer, with where it lies. -/
def IntsX (T : TypeId) (E : Nat) (zs : List Int) (w : World) (e : Ending) (w' : World) : Prop :=
  ∃ v, e = .returned (.tuple #[v, .int .i64 (E : Int)]) ∧ (E = 0 → ∃ g, v = .slice (some ⟨g, 0, none⟩) zs.length zs.length ∧ RowI w' T g zs ∧ w.heap.size ≤ g) ∧ (E ≠ 0 → v = .slice none 0 0)
set_option maxHeartbeats 2000000 in
theorem Try.blocksX_any (a : Option Addr) (len cap : Nat) (ts : List Tk) (w : World) (hT : TkSl w a len cap ts) :
    Calls Try.prog 10 #[.slice a len cap] w fun e w' => IntsX 3 (lookE ts 4) ((allP ts).map fun p => (p.frm : Int)) w e w' ∧ Below w.heap.size w w' := by
  have hl := fun w' (h : TkSl w' a len cap ts) => Try.look_any a len cap 4 ts w' h
  have HN : Hid (lookE ts 4 = 0 → (allP ts).length ≤ 512) := fun h => by
    obtain ⟨h1, t, h2, h3, _⟩ := lookE_zero.1 h
    rw [h3, allP_tree h2, parts_len, ← flat_len, ← h3]; exact h1
  have hzl : ((allP ts).map fun p => (p.frm : Int)).length = (allP ts).length := by simp
  have hzk : ∀ k (h : k < (allP ts).length), ((allP ts).map fun p => (p.frm : Int)).getD k 0 = (((allP ts)[k].frm : Nat) : Int) := fun k h => by simp [List.getD_eq_getElem?_getD, List.getElem?_eq_getElem h]
  generalize ((allP ts).map fun p => (p.frm : Int)) = zs at *
  generalize lookE ts 4 = E at *
  generalize allP ts = all at *
  go_enter Try.func10, Try.ntmps10
  go_wp2_with fail
  refine (hl _ hT).mono ?_
  rintro e w1 ⟨⟨v, rfl, hv0, hv1⟩, hw1⟩
  by_cases hE : E = 0
  · subst hE
    have hN := HN.out rfl
    have HO : Hid _ := hv0 rfl
    clear hv0 hv1 HN hl
    obtain ⟨a2, g2, cap2, rfl, hK, _⟩ := own_kp HO.out Try.underlying53 Try.sizeKp
    have hblk := hK.blk
    have HK : Hid (KpSl _ _ _ _ _ _ _ _) := hK
    clear hK
    obtain ⟨n, hn⟩ : ∃ n, n = all.length := ⟨_, rfl⟩
    rw [← hn] at HK hN hzl ⊢
    have HNN : Hid (n = all.length) := hn
    clear hn
    have hwS := hw1.size
    have hmk := fun w' => Try.makeInts n (by omega) w'
    have HI0 : Hid (RowI (w1.alloc (.cells (madeCells #[.int .i64 0] n) 3)) 3 w1.heap.size (zs.take 0 ++ List.replicate (n - 0) 0)) := by
      have := (MapKept.heap_alloc w1 (.cells (madeCells #[.int .i64 0] n) 3)).1
      show w1.alloc _ |>.heap[_]? = _
      rw [this, madeI]; simp
    go_wp2
    go_loopw [22] (fun j wr => ∃ k : Nat, k ≤ n ∧ j = .int .i64 k ∧ Hid (RowI wr 3 w1.heap.size (zs.take k ++ List.replicate (n - k) 0)) ∧ Hid (Below w1.heap.size w1 wr)) (fun j _ => n - (intOf j).toNat)
    case atStart => exact ⟨0, Nat.zero_le _, rfl, HI0, below_new _ _⟩
    case round =>
      obtain ⟨k, hk, rfl, HI, hbk⟩ := hrel
      by_cases hlt : k < n
      · have hkl : k < all.length := by rw [← HNN.out]; exact hlt
        have hKk := HK.out.up hbk.out
        have hidx := fun w' => hKk.idx n k w' hlt (Nat.le_refl _)
        have hkm : k < (all.map kp).length := by rw [List.length_map]; exact hkl
        have hc0 := hKk.c0 k hkm
        have hc1 := hKk.c1 k hkm
        have hc2 := hKk.c2 k hkm
        have hme : (all.map kp)[k] = kp all[k] := by simp
        have hz := hzk k hkl
        rw [hme] at hc0 hc1 hc2
        have HS : Hid _ := set_fill (by omega : zs.length = n) hlt
        have hcl : (zs.take k ++ List.replicate (n - k) 0).length = n := by simp; omega
        have hic := HI.out.cell (i := k) (by omega)
        have hif := HI.out.frozen k
        have hlt1 := hbk.out.size
        have hil := HI.out.lt
        have hidy : ∀ w', (Instr.indexAt 25 (.slice (some ⟨w1.heap.size, 0, none⟩) n n) (.int .i64 k)).run Try.prog w' = .ok (.pointer (some ⟨w1.heap.size, k, none⟩)) w' := fun w' => by
          have := idx_of (a := some ⟨w1.heap.size, 0, none⟩) (cap := n) (n := n) Try.underlying25 Try.sizeInt (by simp) k w' hlt
          simpa [adOf, add_plain] using this
        have HV : Hid (zs.getD k 0 = ((kp all[k]).b : Int)) := hz
        rw [hz] at HS
        have HS2 : Hid ((zs.take k ++ List.replicate (n - k) 0).set k ((kp all[k]).b : Int) = zs.take (k + 1) ++ List.replicate (n - (k + 1)) 0) := HS.out
        generalize kp all[k] = q at *
        obtain ⟨q0, q1, q2⟩ := q
        dsimp only [kpCells] at *
        generalize (zs.take k ++ List.replicate (n - k) 0).getD k 0 = old at *
        clear hme hkm hKk hz HS
        go_wp2
        go_roundw
        case rel =>
          refine ⟨k + 1, by omega, by go_num, ?_, ?_⟩
          · show RowI _ _ _ _
            rw [← HS2.out]
            exact (HI.out.set k _).up (below_new _ _)
          · show Below _ _ _
            exact (hbk.out.setCell (by dsimp only; omega) _).alloc (by simp; omega) _
        case measure => simp [intOf]; omega
      · obtain rfl : k = n := by omega
        have HF : Hid (RowI wr 3 w1.heap.size zs) := by
          have h := HI.out
          rw [Nat.sub_self, List.replicate_zero, List.append_nil, List.take_of_length_le (by omega)] at h
          exact h
        go_wp2
        go_ret2
        exact ⟨⟨_, rfl, fun _ => ⟨w1.heap.size, by rw [hzl]; rfl, HF.out, hwS⟩, fun h => absurd rfl h⟩, below_step hw1 hbk.out⟩
  · obtain rfl := hv1 hE
    have hE' : ((E : Int) != 0) = true := by simp; omega
    clear hl HN hv0
    go_wp2
    go_ret2
    exact ⟨⟨_, rfl, fun h => absurd h hE, fun _ => rfl⟩, hw1⟩
set_option maxHeartbeats 2000000 in
theorem Try.depthsX_any (a : Option Addr) (len cap : Nat) (ts : List Tk) (w : World) (hT : TkSl w a len cap ts) :
    Calls Try.prog 12 #[.slice a len cap] w fun e w' => IntsX 3 (lookE ts 4) ((allP ts).map fun p => (p.dep : Int)) w e w' ∧ Below w.heap.size w w' := by
  have hl := fun w' (h : TkSl w' a len cap ts) => Try.look_any a len cap 4 ts w' h
  have HN : Hid (lookE ts 4 = 0 → (allP ts).length ≤ 512) := fun h => by
    obtain ⟨h1, t, h2, h3, _⟩ := lookE_zero.1 h
    rw [h3, allP_tree h2, parts_len, ← flat_len, ← h3]; exact h1
  have hzl : ((allP ts).map fun p => (p.dep : Int)).length = (allP ts).length := by simp
  have hzk : ∀ k (h : k < (allP ts).length), ((allP ts).map fun p => (p.dep : Int)).getD k 0 = (((allP ts)[k].dep : Nat) : Int) := fun k h => by simp [List.getD_eq_getElem?_getD, List.getElem?_eq_getElem h]
  generalize ((allP ts).map fun p => (p.dep : Int)) = zs at *
  generalize lookE ts 4 = E at *
  generalize allP ts = all at *
  go_enter Try.func12, Try.ntmps12
  go_wp2_with fail
  refine (hl _ hT).mono ?_
  rintro e w1 ⟨⟨v, rfl, hv0, hv1⟩, hw1⟩
  by_cases hE : E = 0
  · subst hE
    have hN := HN.out rfl
    have HO : Hid _ := hv0 rfl
    clear hv0 hv1 HN hl
    obtain ⟨a2, g2, cap2, rfl, hK, _⟩ := own_kp HO.out Try.underlying53 Try.sizeKp
    have hblk := hK.blk
    have HK : Hid (KpSl _ _ _ _ _ _ _ _) := hK
    clear hK
    obtain ⟨n, hn⟩ : ∃ n, n = all.length := ⟨_, rfl⟩
    rw [← hn] at HK hN hzl ⊢
    have HNN : Hid (n = all.length) := hn
    clear hn
    have hwS := hw1.size
    have hmk := fun w' => Try.makeInts n (by omega) w'
    have HI0 : Hid (RowI (w1.alloc (.cells (madeCells #[.int .i64 0] n) 3)) 3 w1.heap.size (zs.take 0 ++ List.replicate (n - 0) 0)) := by
      have := (MapKept.heap_alloc w1 (.cells (madeCells #[.int .i64 0] n) 3)).1
      show w1.alloc _ |>.heap[_]? = _
      rw [this, madeI]; simp
    go_wp2
    go_loopw [22] (fun j wr => ∃ k : Nat, k ≤ n ∧ j = .int .i64 k ∧ Hid (RowI wr 3 w1.heap.size (zs.take k ++ List.replicate (n - k) 0)) ∧ Hid (Below w1.heap.size w1 wr)) (fun j _ => n - (intOf j).toNat)
    case atStart => exact ⟨0, Nat.zero_le _, rfl, HI0, below_new _ _⟩
    case round =>
      obtain ⟨k, hk, rfl, HI, hbk⟩ := hrel
      by_cases hlt : k < n
      · have hkl : k < all.length := by rw [← HNN.out]; exact hlt
        have hKk := HK.out.up hbk.out
        have hidx := fun w' => hKk.idx n k w' hlt (Nat.le_refl _)
        have hkm : k < (all.map kp).length := by rw [List.length_map]; exact hkl
        have hc0 := hKk.c0 k hkm
        have hc1 := hKk.c1 k hkm
        have hc2 := hKk.c2 k hkm
        have hme : (all.map kp)[k] = kp all[k] := by simp
        have hz := hzk k hkl
        rw [hme] at hc0 hc1 hc2
        have HS : Hid _ := set_fill (by omega : zs.length = n) hlt
        have hcl : (zs.take k ++ List.replicate (n - k) 0).length = n := by simp; omega
        have hic := HI.out.cell (i := k) (by omega)
        have hif := HI.out.frozen k
        have hlt1 := hbk.out.size
        have hil := HI.out.lt
        have hidy : ∀ w', (Instr.indexAt 25 (.slice (some ⟨w1.heap.size, 0, none⟩) n n) (.int .i64 k)).run Try.prog w' = .ok (.pointer (some ⟨w1.heap.size, k, none⟩)) w' := fun w' => by
          have := idx_of (a := some ⟨w1.heap.size, 0, none⟩) (cap := n) (n := n) Try.underlying25 Try.sizeInt (by simp) k w' hlt
          simpa [adOf, add_plain] using this
        have HV : Hid (zs.getD k 0 = ((kp all[k]).d : Int)) := hz
        rw [hz] at HS
        have HS2 : Hid ((zs.take k ++ List.replicate (n - k) 0).set k ((kp all[k]).d : Int) = zs.take (k + 1) ++ List.replicate (n - (k + 1)) 0) := HS.out
        generalize kp all[k] = q at *
        obtain ⟨q0, q1, q2⟩ := q
        dsimp only [kpCells] at *
        generalize (zs.take k ++ List.replicate (n - k) 0).getD k 0 = old at *
        clear hme hkm hKk hz HS
        go_wp2
        go_roundw
        case rel =>
          refine ⟨k + 1, by omega, by go_num, ?_, ?_⟩
          · show RowI _ _ _ _
            rw [← HS2.out]
            exact (HI.out.set k _).up (below_new _ _)
          · show Below _ _ _
            exact (hbk.out.setCell (by dsimp only; omega) _).alloc (by simp; omega) _
        case measure => simp [intOf]; omega
      · obtain rfl : k = n := by omega
        have HF : Hid (RowI wr 3 w1.heap.size zs) := by
          have h := HI.out
          rw [Nat.sub_self, List.replicate_zero, List.append_nil, List.take_of_length_le (by omega)] at h
          exact h
        go_wp2
        go_ret2
        exact ⟨⟨_, rfl, fun _ => ⟨w1.heap.size, by rw [hzl]; rfl, HF.out, hwS⟩, fun h => absurd rfl h⟩, below_step hw1 hbk.out⟩
  · obtain rfl := hv1 hE
    have hE' : ((E : Int) != 0) = true := by simp; omega
    clear hl HN hv0
    go_wp2
    go_ret2
    exact ⟨⟨_, rfl, fun h => absurd h hE, fun _ => rfl⟩, hw1⟩

end Go.Proofs.Ytgnhccjcokhmhaa
