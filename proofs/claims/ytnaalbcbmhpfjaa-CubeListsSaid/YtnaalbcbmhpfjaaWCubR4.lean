/- The document's Minus. -/
import Derived.Test.YtnaalbcbmhpfjaaWCubP
import Derived.Deep.AppendLies
namespace Go.Proofs.Ytnaalbcbmhpfjaa
open Go.RowKit Go.Maps

/-- One cube more behind a list of the call's own, in a region that draws. -/
theorem Try.step_cube {w : World} {ops : Array Oper} {o : Oper} {a : Act} {K : Act → World → Prop} {Q : Exit → Act → World → Prop} {E : Prop} (hgd : o.guard = none) (s x : Operand)
    (ho : o.op = .call { callee := .builtin .append, args := #[s, x], argTypes := #[32, 32] }) (base : Nat)
    (v : Value) (n : Nat) (cs : List Cu) (hs : a.eval s = v) (hown : w.ownsRow base 24 2 v n (encC cs)) (g : Nat) (c : Cu) (hx : a.eval x = .slice (some ⟨g, 0, none⟩) 1 1) (hB : Blk w g 24 c.1 c.2)
    (hn : n ≤ 1000000) (hbase : base ≤ w.heap.size)
    (h : ∀ v' w', w'.ownsRow base 24 2 v' (n + 1) (encC (cs ++ [c])) → w.grownBy w' v.ownBlock → K (a.put o.dst v') w') :
    if Region.wanted o (yielded ops a.tmps) = true then Oper.wp Try.prog o a w K Q else E := by
  have hw : Region.wanted o (yielded ops a.tmps) = true := by simp [Region.wanted, hgd]
  rw [if_pos hw]
  obtain ⟨i, hi, hz0, hz1, hz2⟩ := info_parts Try.infoCube
  refine wp_append_own w s x 32 ho base 24 i _ 2 2 Try.underlying32 hi hz0 hz1 hz2 rfl (by decide) v n _ hs hown ⟨g, 0, none⟩ 1 1 [.int .u8 (c.1 : Int), .int .u8 (c.2 : Int)] hx rfl hB.cells (two_oneCell _ _) (by unfold maxLen; omega) (by omega) hbase ?_
  intro v' w' h1 h2 _
  exact h v' w' (by rw [encC_append]; exact h1) h2
theorem grown_cell {w0 w1 : World} {p : Addr} {v : Value} {row : Option Nat} (h : w0.cell? p = some v) (hb : w0.grownBy w1 row) (hne : some p.block ≠ row) : w1.cell? p = some v := (hb.cell_far p (World.block_lt_of_cell? _ _ h) hne).trans h
set_option maxRecDepth 100000 in
set_option maxHeartbeats 1500000 in
theorem Try.rminus_any (a b c d : Nat) (w : World) (ha : a < 256) (hb : b < 256) (hc : c < 256) (hd : d < 256) :
    Calls Try.prog 18 #[.agg #[.int .u8 (a : Int), .int .u8 (b : Int)], .agg #[.int .u8 (c : Int), .int .u8 (d : Int)]] w fun e w' => MinusR 24 (minusC (a, b) (c, d)) w e w' ∧ Below w.heap.size w w' := by
  have hb1 := fun w => Try.both_any a b a b w ha hb ha hb
  have hb2 := fun w => Try.both_any a b c d w ha hb hc hd
  have hz1 := both_may (a := (a, b)) ⟨ha, hb⟩
  have hz2 := bothC_zero (a := (a, b)) (b := (c, d)) hb hd
  generalize bothC (a, b) (a, b) = z1 at *
  generalize bothC (a, b) (c, d) = z2 at *
  cases hm : mayC (a, b) with
  | false =>
    obtain rfl := hz1.2 hm
    have HX : Hid _ := minus_f (b := (c, d)) hm
    clear hm hz1 hz2
    go_enter Try.func18, Try.ntmps18
    go_wp2_with fail
    refine (hb1 _).mono ?_
    rintro e w1 ⟨rfl, hw1⟩
    have hbw := below_step ((below_new w _).alloc (by simp) _) hw1
    go_wp2
    go_ret
    exact ⟨⟨_, rfl, by rw [HX.out]; exact ownsC_nil _ _ _⟩, hbw⟩
  | true =>
    have hz1' : ((z1 : Int) == 0) = false := by
      have : z1 ≠ 0 := fun h => by rw [hz1.1 h] at hm; cases hm
      rw [beq_eq_false_iff_ne]; omega
    have HX : Hid _ := fun h => minus_c (b := (c, d)) hm h
    have HY : Hid _ := fun h => minus_t (b := (c, d)) hm h
    clear hz1 hm
    go_enter Try.func18, Try.ntmps18
    go_wp2_with fail
    refine (hb1 _).mono ?_
    rintro e w1 ⟨rfl, hw1⟩
    have hA1 : Blk w1 w.heap.size 24 a b := ((Blk.at rfl).al _).up hw1
    have hD1 : Blk w1 (w.heap.size + 1) 24 c d := (Blk.at (by simp)).up hw1
    have hbw1 := below_step ((below_new w _).alloc (by simp) _) hw1
    clear hw1 hb1
    have h00 := hA1.c0
    have h01 := hA1.c1
    have h10 := hD1.c0
    have h11 := hD1.c1
    cases hcc : compC (a, b) (c, d) with
    | false =>
      obtain rfl := hz2.2 hcc
      clear hz2
      go_wp2_with fail
      refine (hb2 _).mono ?_
      rintro e w2 ⟨rfl, hw2⟩
      have hA2 := hA1.up hw2
      have hbw2 := below_step hbw1 hw2
      clear hw2 h00 h01 h10 h11
      have h00 := hA2.c0
      have h01 := hA2.c1
      go_wp2
      go_ret
      refine ⟨⟨_, rfl, ?_⟩, hbw2.alloc hbw2.size _⟩
      rw [HX.out hcc]
      exact lit_one hbw2.size rfl (a, b)
    | true =>
      have hz2' : ((z2 : Int) == 0) = false := by
        have : z2 ≠ 0 := fun h => by rw [hz2.1 h] at hcc; cases hcc
        rw [beq_eq_false_iff_ne]; omega
      have HY2 : Hid _ := HY.out hcc
      clear hz2 hcc HX HY
      go_wp2_with fail
      refine (hb2 _).mono ?_
      rintro e w2 ⟨rfl, hw2⟩
      have hA2 := hA1.up hw2
      have hD2 := hD1.up hw2
      have hbw2 := below_step hbw1 hw2
      have hgs : w.heap.size + 2 ≤ w2.heap.size := hD2.lt
      clear hw2 h00 h01 h10 h11 hA1 hD1 hbw1 hb2
      go_wp2
      go_loopw [5, 6] (fun v i wr => ∃ k : Nat, k ≤ 8 ∧ i = .int .i64 k ∧ (∃ (a' b' : Nat) (cs : List Cu), a' < 256 ∧ b' < 256 ∧ cs.length ≤ k ∧ Hid (cs ++ minusGo (c, d) (List.range' k (8 - k)) (a', b') = minusC (a, b) (c, d)) ∧ Blk wr w.heap.size 24 a' b' ∧ Hid (wr.ownsRow w2.heap.size 24 2 v cs.length (encC cs))) ∧ Blk wr (w.heap.size + 1) 24 c d ∧ w2.heap.size ≤ wr.heap.size ∧ Below w.heap.size w wr) (fun _ i _ => 8 - (intOf i).toNat)
      case atStart =>
        refine ⟨0, Nat.zero_le _, rfl, ⟨a, b, [], ha, hb, Nat.le_refl _, ?_, hA2, ownsC_nil _ _ _⟩, hD2, Nat.le_refl _, hbw2⟩
        show _ = _; rw [HY2.out, List.range_eq_range']; rfl
      case round =>
        obtain ⟨k, hk, rfl, ⟨a', b', cs, ha', hb', hcs, HU, hB, HO⟩, hD, hsw, hbw⟩ := hrel
        clear hA2 hD2
        by_cases hlt : k < 8
        · have h00 := hB.c0
          have h01 := hB.c1
          have h10 := hD.c0
          have h11 := hD.c1
          cases hqc : c.testBit k with
          | false =>
            have hs1 := fun w => Try.said_f (b := d) hqc w hc hd (by omega)
            have HN : Hid (cs ++ minusGo (c, d) (List.range' (k + 1) (8 - (k + 1))) (a', b') = minusC (a, b) (c, d)) := by
              show _ = _; rw [← HU.out, show 8 - k = 8 - (k + 1) + 1 by omega, minusGo_no (b := (c, d)) (a := (a', b')) (by simp [hqc])]
            clear hqc HU
            go_wp2_with fail
            refine (hs1 _).mono ?_
            rintro e w3 ⟨rfl, hw3⟩
            have hB3 := hB.up hw3
            have hD3 := hD.up hw3
            have HO3 : Hid _ := owns_up HO.out hw3
            have hsw3 := Nat.le_trans hsw hw3.size
            have hbw3 := below_step hbw hw3
            clear hw3 hB hD HO hsw hbw h00 h01 h10 h11
            go_wp2
            go_roundw
            case rel => exact ⟨k + 1, by omega, by go_num, ⟨a', b', cs, ha', hb', by omega, HN, hB3, HO3⟩, hD3, hsw3, hbw3⟩
            case measure => simp [intOf]; omega
          | true =>
            have hs1 := fun w => Try.said_t (b := d) hqc (d.testBit k) rfl w hc hd (by omega)
            have hy0 : (0 : Int) ≤ (if d.testBit k then (1 : Int) else 0) := by split <;> decide
            cases hqa : a'.testBit k with
            | true =>
              have hs2 := fun w => Try.said_t (b := b') hqa (b'.testBit k) rfl w ha' hb' (by omega)
              have hy1 : (0 : Int) ≤ (if b'.testBit k then (1 : Int) else 0) := by split <;> decide
              have HN : Hid (cs ++ minusGo (c, d) (List.range' (k + 1) (8 - (k + 1))) (a', b') = minusC (a, b) (c, d)) := by
                show _ = _; rw [← HU.out, show 8 - k = 8 - (k + 1) + 1 by omega, minusGo_no (b := (c, d)) (a := (a', b')) (by simp [hqa])]
              clear hqc hqa HU
              generalize (if d.testBit k then (1 : Int) else 0) = y0 at *
              generalize (if b'.testBit k then (1 : Int) else 0) = y1 at *
              go_wp2_with fail
              refine (hs1 _).mono ?_
              rintro e w3 ⟨rfl, hw3⟩
              have hB3 := hB.up hw3
              have hD3 := hD.up hw3
              have HO3 : Hid _ := owns_up HO.out hw3
              have hsw3 := Nat.le_trans hsw hw3.size
              have hbw3 := below_step hbw hw3
              clear hw3 hB hD HO hsw hbw h00 h01 h10 h11
              have h00 := hB3.c0
              have h01 := hB3.c1
              go_wp2_with fail
              refine (hs2 _).mono ?_
              rintro e w4 ⟨rfl, hw4⟩
              have hB4 := hB3.up hw4
              have hD4 := hD3.up hw4
              have HO4 : Hid _ := owns_up HO3.out hw4
              have hsw4 := Nat.le_trans hsw3 hw4.size
              have hbw4 := below_step hbw3 hw4
              clear hw4 hB3 hD3 HO3 hsw3 hbw3 h00 h01
              go_wp2
              go_roundw
              case rel => exact ⟨k + 1, by omega, by go_num, ⟨a', b', cs, ha', hb', by omega, HN, hB4, HO4⟩, hD4, hsw4, hbw4⟩
              case measure => simp [intOf]; omega
            | false =>
              have hs2 := fun w => Try.said_f (b := b') hqa w ha' hb' (by omega)
              have HN : Hid (∀ x y : Cu, sayC (a', b') k (!d.testBit k) = x → sayC (a', b') k (d.testBit k) = y → (cs ++ [x]) ++ minusGo (c, d) (List.range' (k + 1) (8 - (k + 1))) y = minusC (a, b) (c, d)) := by
                rintro x y rfl rfl
                rw [← HU.out, show 8 - k = 8 - (k + 1) + 1 by omega, minusGo_yes (b := (c, d)) (a := (a', b')) (by simp [hqc, hqa]), List.append_assoc]; rfl
              have HN2 : Hid _ := HN.out _ _ rfl rfl
              have hsy1 := fun w => Try.rsay_any a' b' k (!d.testBit k) (IntKind.i64.wrap (1 - (if d.testBit k then (1 : Int) else 0))) w ha' hb' hlt (by cases d.testBit k <;> rfl)
              have hsy2 := fun w => Try.rsay_any a' b' k (d.testBit k) (if d.testBit k then (1 : Int) else 0) w ha' hb' hlt (by cases d.testBit k <;> rfl)
              have hok2 := say_ok (a := (a', b')) ⟨ha', hb'⟩ hlt (d.testBit k)
              have hwr : 0 ≤ (if d.testBit k then (1 : Int) else 0) ∧ (if d.testBit k then (1 : Int) else 0) ≤ 1 := by split <;> decide
              unfold SayR at hsy1 hsy2
              clear hqc hqa HU HN
              generalize (if d.testBit k then (1 : Int) else 0) = y0 at *
              generalize sayC (a', b') k (!d.testBit k) = s1 at *
              generalize sayC (a', b') k (d.testBit k) = s2 at *
              obtain ⟨s10, s11⟩ := s1
              obtain ⟨s20, s21⟩ := s2
              go_wp2_with fail
              refine (hs1 _).mono ?_
              rintro e w3 ⟨rfl, hw3⟩
              have hB3 := hB.up hw3
              have hD3 := hD.up hw3
              have HO3 : Hid _ := owns_up HO.out hw3
              have hsw3 := Nat.le_trans hsw hw3.size
              have hbw3 := below_step hbw hw3
              clear hw3 hB hD HO hsw hbw h00 h01 h10 h11
              have h00 := hB3.c0
              have h01 := hB3.c1
              go_wp2_with fail
              refine (hs2 _).mono ?_
              rintro e w4 ⟨rfl, hw4⟩
              have hB4 := hB3.up hw4
              have hD4 := hD3.up hw4
              have HO4 : Hid _ := owns_up HO3.out hw4
              have hsw4 := Nat.le_trans hsw3 hw4.size
              have hbw4 := below_step hbw3 hw4
              clear hw4 hB3 hD3 HO3 hsw3 hbw3 h00 h01
              have h00 := hB4.c0
              have h01 := hB4.c1
              have h10 := hD4.c0
              have h11 := hD4.c1
              have hrow : ∀ j, u5.ownBlock = some j → w.heap.size + 1 < j := fun j e => by have := own_ge HO4.out j e; omega
              have hBd := hB4.up (Below.refl _ _).drew
              have hDd := hD4.up (Below.refl _ _).drew
              have HO4d : Hid (w4.drew.ownsRow w2.heap.size 24 2 u5 cs.length (encC cs)) := owns_up HO4.out (Below.refl _ _).drew
              have hsw4d : w2.heap.size ≤ w4.drew.heap.size := hsw4
              have hk0 : w4.drew.cell? ⟨w.heap.size, 0, none⟩ = some (.int .u8 (a' : Int)) ∧ w4.drew.cell? ⟨w.heap.size, 1, none⟩ = some (.int .u8 (b' : Int)) ∧ w4.drew.cell? ⟨w.heap.size + 1, 0, none⟩ = some (.int .u8 (c : Int)) ∧ w4.drew.cell? ⟨w.heap.size + 1, 1, none⟩ = some (.int .u8 (d : Int)) := ⟨hBd.c0, hBd.c1, hDd.c0, hDd.c1⟩
              have hk1 : ∀ w0 w1' : World, (w0.cell? ⟨w.heap.size, 0, none⟩ = some (.int .u8 (a' : Int)) ∧ w0.cell? ⟨w.heap.size, 1, none⟩ = some (.int .u8 (b' : Int)) ∧ w0.cell? ⟨w.heap.size + 1, 0, none⟩ = some (.int .u8 (c : Int)) ∧ w0.cell? ⟨w.heap.size + 1, 1, none⟩ = some (.int .u8 (d : Int))) → Below w0.heap.size w0 w1' → (w1'.cell? ⟨w.heap.size, 0, none⟩ = some (.int .u8 (a' : Int)) ∧ w1'.cell? ⟨w.heap.size, 1, none⟩ = some (.int .u8 (b' : Int)) ∧ w1'.cell? ⟨w.heap.size + 1, 0, none⟩ = some (.int .u8 (c : Int)) ∧ w1'.cell? ⟨w.heap.size + 1, 1, none⟩ = some (.int .u8 (d : Int))) :=
                fun w0 w1' ⟨h0, h1, h2, h3⟩ hb => ⟨kept_cell h0 hb, kept_cell h1 hb, kept_cell h2 hb, kept_cell h3 hb⟩
              have hk3 : ∀ (w0 : World) (o : Obj), (w0.cell? ⟨w.heap.size, 0, none⟩ = some (.int .u8 (a' : Int)) ∧ w0.cell? ⟨w.heap.size, 1, none⟩ = some (.int .u8 (b' : Int)) ∧ w0.cell? ⟨w.heap.size + 1, 0, none⟩ = some (.int .u8 (c : Int)) ∧ w0.cell? ⟨w.heap.size + 1, 1, none⟩ = some (.int .u8 (d : Int))) → ((w0.alloc o).cell? ⟨w.heap.size, 0, none⟩ = some (.int .u8 (a' : Int)) ∧ (w0.alloc o).cell? ⟨w.heap.size, 1, none⟩ = some (.int .u8 (b' : Int)) ∧ (w0.alloc o).cell? ⟨w.heap.size + 1, 0, none⟩ = some (.int .u8 (c : Int)) ∧ (w0.alloc o).cell? ⟨w.heap.size + 1, 1, none⟩ = some (.int .u8 (d : Int))) := fun w0 o h => hk1 _ _ h (below_new _ _)
              have hk2 : ∀ w0 w1' : World, (w0.cell? ⟨w.heap.size, 0, none⟩ = some (.int .u8 (a' : Int)) ∧ w0.cell? ⟨w.heap.size, 1, none⟩ = some (.int .u8 (b' : Int)) ∧ w0.cell? ⟨w.heap.size + 1, 0, none⟩ = some (.int .u8 (c : Int)) ∧ w0.cell? ⟨w.heap.size + 1, 1, none⟩ = some (.int .u8 (d : Int))) → w0.grownBy w1' u5.ownBlock → (w1'.cell? ⟨w.heap.size, 0, none⟩ = some (.int .u8 (a' : Int)) ∧ w1'.cell? ⟨w.heap.size, 1, none⟩ = some (.int .u8 (b' : Int)) ∧ w1'.cell? ⟨w.heap.size + 1, 0, none⟩ = some (.int .u8 (c : Int)) ∧ w1'.cell? ⟨w.heap.size + 1, 1, none⟩ = some (.int .u8 (d : Int))) :=
                fun w0 w1' ⟨h0, h1, h2, h3⟩ hb => ⟨grown_cell h0 hb (fun e => by have h := hrow _ e.symm; dsimp only at h; omega), grown_cell h1 hb (fun e => by have h := hrow _ e.symm; dsimp only at h; omega), grown_cell h2 hb (fun e => by have h := hrow _ e.symm; dsimp only at h; omega), grown_cell h3 hb (fun e => by have h := hrow _ e.symm; dsimp only at h; omega)⟩
              clear HO4 hB4 hD4 hsw4 h00 h01 h10 h11
              go_wp2_with fail
              go_region_held3 (fun w' => w'.cell? ⟨w.heap.size, 0, none⟩ = some (.int .u8 (a' : Int)) ∧ w'.cell? ⟨w.heap.size, 1, none⟩ = some (.int .u8 (b' : Int)) ∧ w'.cell? ⟨w.heap.size + 1, 0, none⟩ = some (.int .u8 (c : Int)) ∧ w'.cell? ⟨w.heap.size + 1, 1, none⟩ = some (.int .u8 (d : Int))) (first | exact hk0 | exact hk3 _ _ ‹_› | exact hk1 _ _ ‹_› ‹_› | exact hk2 _ _ ‹_› ‹_›) (first | (go_at_call 40; refine (hs1 _).mono ?_; rintro e w5 ⟨rfl, hw5⟩) | (go_at_call 44; refine (hsy1 _).mono ?_; rintro e w6 ⟨rfl, hw6⟩; have HO6 : Hid _ := owns_up (owns_up HO4d.out hw5) hw6; have hsw6 := Nat.le_trans (Nat.le_trans hsw4d hw5.size) hw6.size) | (refine Try.step_cube rfl _ _ rfl w2.heap.size _ cs.length cs rfl (World.ownsRow.alloc HO6.out _) w6.heap.size (s10, s11) rfl (Blk.new w6 24 s10 s11) (by omega) (by simp; omega) ?_; intro v7 w7 hown7 hgr7))
              have hB7 := (((hBd.up hw5).up hw6).al (.cells #[.int .u8 (s10 : Int), .int .u8 (s11 : Int)] 24)).grown hgr7 (fun e => by have := hrow _ e; omega)
              have hD7 := (((hDd.up hw5).up hw6).al (.cells #[.int .u8 (s10 : Int), .int .u8 (s11 : Int)] 24)).grown hgr7 (fun e => by have := hrow _ e; omega)
              have hbw6 := below_step (below_step hbw4.drew hw5) hw6
              have hbw6a := hbw6.alloc hbw6.size (.cells #[.int .u8 (s10 : Int), .int .u8 (s11 : Int)] 24)
              have hbw7 : Below w.heap.size w w7 := hbw6a.grown hgr7 hbw6a.size (fun j e => by have := hrow j e; omega)
              have hsw7 : w2.heap.size ≤ w7.heap.size := by have := hgr7.size; simp at this; omega
              have HO7 : Hid _ := hown7
              clear hown7 hgr7 hw5 hw6 hbw6 hbw6a hbw4 hk0 hk1 hk2 hk3 hBd hDd HO4d HO6 hsw6 hsw4d hs2 hsy1
              have hBd := hB7.up (Below.refl _ _).drew
              have hDd := hD7.up (Below.refl _ _).drew
              have HOd : Hid _ := owns_up HO7.out (Below.refl w7.heap.size w7).drew
              have hswd : w2.heap.size ≤ w7.drew.heap.size := hsw7
              have hbd := hbw7.drew
              have h00 := hB7.c0
              have h01 := hB7.c1
              have h10 := hD7.c0
              have h11 := hD7.c1
              clear hB7 hD7 HO7 hsw7 hbw7
              have HL : Hid ((cs ++ [(s10, s11)]).length = cs.length + 1) := by show _ = _; simp
              go_wp2_with fail
              go_region_with (first | (go_at_call 40; refine (hs1 _).mono ?_; rintro e w8 ⟨rfl, hw8⟩; have hB8 := hBd.up hw8; have i00 := hB8.c0; have i01 := hB8.c1) | (go_at_call 44; refine (hsy2 _).mono ?_; rintro e w9 ⟨rfl, hw9⟩; have hB9 := hB8.up hw9; have j00 := hB9.c0; have j01 := hB9.c1; have jf0 := hB9.fz 0; have jf1 := hB9.fz 1))
              all_goals
                have hB10 := (hB9.set0 s20).set1 s21
                have hD10 := blk_other ((hDd.up hw8).up hw9) (g' := w.heap.size) (by omega) (.int .u8 (s20 : Int)) (.int .u8 (s21 : Int))
                have HO10 : Hid _ := owns_set (owns_set (owns_up (owns_up HOd.out hw8) hw9) (p := ⟨w.heap.size, 0, none⟩) (by simp; omega) (.int .u8 (s20 : Int))) (p := ⟨w.heap.size, 1, none⟩) (by simp; omega) (.int .u8 (s21 : Int))
                have hbw10 := below_set2 (below_step (below_step hbd hw8) hw9) (g := w.heap.size) (Nat.le_refl _) (.int .u8 (s20 : Int)) (.int .u8 (s21 : Int))
                have hsw10 : w2.heap.size ≤ ((w9.setCell ⟨w.heap.size, 0, none⟩ (.int .u8 (s20 : Int))).setCell ⟨w.heap.size, 1, none⟩ (.int .u8 (s21 : Int))).heap.size := by have := hw8.size; have := hw9.size; simp; simp at *; omega
                clear hB9 hB8 hDd hBd HOd hbd hswd hw8 hw9 i00 i01 j00 j01 jf0 jf1 h00 h01 h10 h11
                go_wp2
                go_roundw
                case rel => exact ⟨k + 1, by omega, by go_num, ⟨s20, s21, cs ++ [(s10, s11)], hok2.1, hok2.2, by rw [HL.out]; omega, HN2, hB10, by rw [HL.out]; exact HO10⟩, hD10, hsw10, hbw10⟩
                case measure => simp [intOf]; omega
        · obtain rfl : k = 8 := by omega
          have HV : Hid (minusC (a, b) (c, d) = cs) := by
            have := HU.out; simp [minusGo] at this; exact this.symm
          go_wp2
          go_ret
          exact ⟨⟨_, rfl, by rw [HV.out]; exact owns_base HO.out (by have := hbw2.size; omega)⟩, hbw⟩
end Go.Proofs.Ytnaalbcbmhpfjaa
