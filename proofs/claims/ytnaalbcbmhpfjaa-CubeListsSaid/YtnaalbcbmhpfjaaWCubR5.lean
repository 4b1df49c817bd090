/- The document's Letters and Print. -/
import Derived.Test.YtnaalbcbmhpfjaaWCub8
import Derived.Test.YtnaalbcbmhpfjaaWCubR4
namespace Go.Proofs.Ytnaalbcbmhpfjaa
open Go.RowKit Go.Maps

/-- The document's Letters' answer. -/
def RLettersR (T : TypeId) (n : Int) (c : Cu) (w : World) (e : Ending) (w' : World) : Prop :=
  (errC n c = 0 ∧ ∃ v, e = .returned (.tuple #[v, .int .i64 0]) ∧ w'.ownsRow w.heap.size T 1 v (lenC n.toNat c) ((lettI n.toNat c).map (Value.int .u8))) ∨ (errC n c ≠ 0 ∧ e = .returned (.tuple #[.slice none 0 0, .int .i64 (errC n c)]))
theorem ownsI_nil (w : World) (base : Nat) (T : TypeId) : w.ownsRow base T 1 (.slice none 0 0) 0 (([] : List Int).map (Value.int .u8)) := ⟨rfl, Or.inl ⟨rfl, rfl⟩⟩
set_option maxRecDepth 100000 in
set_option maxHeartbeats 1000000 in
theorem Try.rletters_any (n : Int) (a b : Nat) (w : World) (ha : a < 256) (hb : b < 256) :
    Calls Try.prog 23 #[.int .i64 n, .agg #[.int .u8 (a : Int), .int .u8 (b : Int)]] w fun e w' => RLettersR 22 n (a, b) w e w' ∧ Below w.heap.size w w' := by
  have hck := fun w => Try.rcheck_any n a b w ha hb
  by_cases h0 : errC n (a, b) = 0
  · obtain ⟨N, rfl, hN, ho⟩ := errC_zero h0
    have hp := powN_bd (n := (N : Int)) (by omega) (by omega)
    have hpw := powN_wrap (n := (N : Int)) (by omega) (by omega)
    have HP : Hid (powN (N : Int) = 2 ^ N) := rfl
    have HR : Hid (∀ e w', (∃ v, e = .returned (.tuple #[v, .int .i64 0]) ∧ w'.ownsRow w.heap.size 22 1 v (lettI N (a, b)).length ((lettI N (a, b)).map (Value.int .u8))) → RLettersR 22 N (a, b) w e w') := fun e w' h => Or.inl ⟨h0, by rw [lettI_len] at h; exact h⟩
    have HLE : Hid (letTo (a, b) (powN (N : Int)) = lettI N (a, b)) := rfl
    rw [h0] at hck
    clear h0 ho
    generalize powN (N : Int) = M at *
    have hpw2 : wrap64 (2 ^ N) = (M : Int) := hpw
    clear hpw
    go_enter Try.func23, Try.ntmps23
    go_wp2_with fail
    refine (hck _).mono ?_
    rintro e w1 ⟨rfl, hw1⟩
    have hB1 := (Blk.new w 24 a b).up hw1
    have hb1 := below_step (below_new _ _) hw1
    have hgs : w.heap.size < w1.heap.size := hB1.lt
    clear hw1 hck
    go_wp2
    go_loopw [7, 8] (fun v i wr => ∃ k : Nat, k ≤ M ∧ i = .int .i64 k ∧ (∃ m : Nat, m ≤ k ∧ Hid (m = (letTo (a, b) k).length) ∧ Hid (wr.ownsRow w1.heap.size 22 1 v m ((letTo (a, b) k).map (Value.int .u8)))) ∧ w1.heap.size ≤ wr.heap.size ∧ Blk wr w.heap.size 24 a b ∧ Below w.heap.size w wr) (fun _ i _ => M - (intOf i).toNat)
    case atStart => exact ⟨0, Nat.zero_le _, rfl, ⟨0, Nat.le_refl _, rfl, ownsI_nil _ _ _⟩, Nat.le_refl _, hB1, hb1⟩
    case round =>
      obtain ⟨k, hk, rfl, ⟨m, hm, HM, HO⟩, hsw, hB, hbw⟩ := hrel
      clear hB1 hb1
      by_cases hlt : k < M
      · have hh := fun w => Try.rhas_any a b k w ha hb (by omega)
        have HSC : Hid _ := letTo_succ (a, b) k
        have h00 := hB.c0
        have h01 := hB.c1
        have hcv : (k : Int) % 256 = (k : Int) := by omega
        generalize hasC (a, b) k = p at *
        go_wp2_with fail
        refine (hh _).mono ?_
        rintro e w4 ⟨rfl, hw4⟩
        have hB4 := hB.up hw4
        have HO4 : Hid _ := owns_up HO.out hw4
        have hb4 := below_step hbw hw4
        have hsw4 := Nat.le_trans hsw hw4.size
        clear hw4 hB HO hbw h00 h01 hh hsw
        cases p with
        | false =>
          have HT : Hid (letTo (a, b) (k + 1) = letTo (a, b) k) := by show _ = _; rw [HSC.out]; simp
          go_wp2
          go_roundw
          case rel => exact ⟨k + 1, by omega, by go_num, ⟨m, by omega, by rw [HT.out]; exact HM, by rw [HT.out]; exact HO4⟩, hsw4, hB4, hb4⟩
          case measure => simp [intOf]; omega
        | true =>
          have HT : Hid (letTo (a, b) (k + 1) = letTo (a, b) k ++ [(k : Int)]) := by show _ = _; rw [HSC.out]; simp
          have HTL : Hid (m + 1 = (letTo (a, b) (k + 1)).length) := by show _ = _; rw [HT.out, HM.out]; simp
          have hrow := own_ge HO4.out
          clear HSC
          go_wp2_with (at_builtin; refine Try.append_let rfl _ _ rfl w1.heap.size _ m (letTo (a, b) k) rfl (World.ownsRow.alloc HO4.out _) w4.heap.size (k : Int) rfl (by simp [go_sem]) (by omega) (by simp; omega) ?_)
          intro v5 w5 hown5 hgr5
          have hB5 := (hB4.al (.cells #[.int .u8 (k : Int)] 22)).grown hgr5 (fun e => by have := hrow _ e; omega)
          have hb5 : Below w.heap.size w w5 := (hb4.alloc hb4.size _).grown hgr5 (by simp; have := hb4.size; omega) (fun j e => by have := hrow j e; omega)
          have hsw5 : w1.heap.size ≤ w5.heap.size := by have := hgr5.size; simp at this; omega
          have HO5 : Hid (w5.ownsRow w1.heap.size 22 1 v5 (m + 1) ((letTo (a, b) (k + 1)).map (Value.int .u8))) := by rw [HT.out]; show World.ownsRow _ _ _ _ _ _ _; rw [List.map_append]; exact hown5
          clear hown5 hgr5 hB4 hb4 HO4 hsw4 hrow
          go_wp2
          go_roundw
          case rel => exact ⟨k + 1, by omega, by go_num, ⟨m + 1, by omega, HTL, HO5⟩, hsw5, hB5, hb5⟩
          case measure => simp [intOf]; omega
      · obtain rfl : k = M := by omega
        have HFin : Hid (RLettersR 22 N (a, b) w (.returned (.tuple #[u7, .int .i64 0])) wr) := HR.out _ _ ⟨_, rfl, by
          have := owns_base HO.out (Nat.le_of_lt hgs)
          rw [HM.out, HLE.out] at this; exact this⟩
        clear HO HM HR
        go_wp2
        go_ret2
        exact ⟨HFin.out, hbw⟩
  · have hne : (errC n (a, b) != 0) = true := by simpa using h0
    have HR : Hid (∀ e w', e = .returned (.tuple #[.slice none 0 0, .int .i64 (errC n (a, b))]) → RLettersR 22 n (a, b) w e w') := fun e w' h => Or.inr ⟨h0, h⟩
    clear h0
    generalize errC n (a, b) = E at *
    go_enter Try.func23, Try.ntmps23
    go_wp2_with fail
    refine (hck _).mono ?_
    rintro e w1 ⟨rfl, hw1⟩
    go_wp2
    go_ret2
    exact ⟨HR.out _ _ rfl, below_step (below_new _ _) hw1⟩
end Go.Proofs.Ytnaalbcbmhpfjaa
