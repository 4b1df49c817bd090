/- What package cube tells of two cubes: Within, Minus. -/
import Derived.Test.YtnaalbcbmhpfjaaWCubM
namespace Go.Proofs.Ytnaalbcbmhpfjaa
open Go.RowKit Go.Maps

set_option maxHeartbeats 800000 in
theorem Try.within_any (a b c d : Nat) (w : World) (ha : a < 256) (hb : b < 256) (hc : c < 256) (hd : d < 256) :
    Calls Try.prog 13 #[.agg #[.int .u8 (a : Int), .int .u8 (b : Int)], .agg #[.int .u8 (c : Int), .int .u8 (d : Int)]] w fun e w' => e = .returned (.bool (inC (a, b) (c, d))) ∧ Below w.heap.size w w' := by
  have hmy := fun w => Try.may_any a b w ha hb
  cases hm : mayC (a, b) with
  | false =>
    rw [hm] at hmy
    have HX : Hid (inC (a, b) (c, d) = true) := by show _ = _; unfold inC; rw [hm]; rfl
    clear hm
    go_enter Try.func13, Try.ntmps13
    go_wp2_with fail
    refine (hmy _).mono ?_
    rintro e w1 ⟨rfl, hw1⟩
    have hbw := below_step ((below_new w _).alloc (by simp) _) hw1
    go_wp2
    go_ret
    exact ⟨by rw [HX.out]; rfl, hbw⟩
  | true =>
    rw [hm] at hmy
    have HX : Hid _ := within_meet (a := (a, b)) (b := (c, d)) ⟨ha, hb⟩ ⟨hc, hd⟩ hm
    have hme := fun w => Try.meet_any a b c d w ha hb hc hd
    have HV : Hid (compC (a, b) (c, d) = true → meetV (a, b) (c, d) = meetC (a, b) (c, d)) := fun h => by unfold meetV; rw [h]; rfl
    unfold MeetR at hme
    clear hm
    generalize hmv : meetV (a, b) (c, d) = m at *
    obtain ⟨x, y⟩ := m
    have heq := Try.eqlCube x y a b
    go_enter Try.func13, Try.ntmps13
    go_wp2_with fail
    refine (hmy _).mono ?_
    rintro e w1 ⟨rfl, hw1⟩
    have hb0 : Blk w1 w.heap.size 24 a b := ((Blk.at rfl).al _).up hw1
    have hb1 : Blk w1 (w.heap.size + 1) 24 c d := (Blk.at (by simp)).up hw1
    have hbw := below_step ((below_new w _).alloc (by simp) _) hw1
    clear hw1
    have h00 := hb0.c0
    have h01 := hb0.c1
    have h10 := hb1.c0
    have h11 := hb1.c1
    go_wp2_with fail
    refine (hme _).mono ?_
    rintro e w2 ⟨rfl, hw2⟩
    have hb0' := hb0.up hw2
    have hbw2 := below_step hbw hw2
    clear hw2 h00 h01 h10 h11 hb0 hb1 hbw hme hmy
    have h00 := fun o => (hb0'.al o).c0
    have h01 := fun o => (hb0'.al o).c1
    generalize compC (a, b) (c, d) = p at *
    cases p with
    | false =>
      go_wp2
      go_ret
      exact ⟨by rw [HX.out]; rfl, hbw2.alloc (by have := hbw2.size; omega) _⟩
    | true =>
      have HQ : Hid (inC (a, b) (c, d) = decide (((x, y) : Cu) = (a, b))) := by
        show _ = _; rw [HX.out, ← HV.out rfl]; cases hq : decide (((x, y) : Cu) = (a, b)) with
        | true => simpa using of_decide_eq_true hq
        | false => simpa using of_decide_eq_false hq
      generalize decide (((x, y) : Cu) = (a, b)) = q at *
      go_wp2
      go_ret
      exact ⟨by rw [HQ.out]; rfl, hbw2.alloc (by have := hbw2.size; omega) _⟩

/-- A new list of cubes. -/
def MinusR (T : TypeId) (cs : List Cu) (w : World) (e : Ending) (w' : World) : Prop := ∃ v, e = .returned v ∧ w'.ownsRow w.heap.size T 2 v cs.length (encC cs)
theorem ownsC_nil (w : World) (base : Nat) (T : TypeId) : w.ownsRow base T 2 (.slice none 0 0) 0 (encC []) := ⟨rfl, Or.inl ⟨rfl, rfl⟩⟩
theorem lit_one {w : World} {base g : Nat} {T : TypeId} (hb : base ≤ w.heap.size) (hg : g = w.heap.size) (c : Cu) : (w.alloc (.cells #[.int .u8 (c.1 : Int), .int .u8 (c.2 : Int)] T)).ownsRow base T 2 (.slice (some ⟨g, 0, none⟩) 1 1) 1 (encC [c]) := by
  subst hg
  exact World.ownsRow_lit (size := 2) _ #[.int .u8 (c.1 : Int), .int .u8 (c.2 : Int)] 1 hb (by decide) rfl
theorem minus_f {a b : Cu} (h : mayC a = false) : minusC a b = [] := by unfold minusC; rw [if_pos h]
theorem minus_c {a b : Cu} (h : mayC a = true) (hc : compC a b = false) : minusC a b = [a] := by unfold minusC; rw [if_neg (by rw [h]; simp), if_pos hc]
theorem minus_t {a b : Cu} (h : mayC a = true) (hc : compC a b = true) : minusC a b = minusGo b (List.range 8) a := by unfold minusC; rw [if_neg (by rw [h]; simp), if_neg (by rw [hc]; simp)]

theorem two_oneCell (a b : Int) : ∀ u ∈ [Value.int .u8 a, Value.int .u8 b], u.oneCell' = true := by
  intro u hu; simp at hu; rcases hu with rfl | rfl <;> rfl
theorem Blk.cells {w : World} {g : Nat} {t : TypeId} {a b : Nat} (h : Blk w g t a b) : ∀ j u, [Value.int .u8 (a : Int), Value.int .u8 (b : Int)][j]? = some u → w.cell? ((⟨g, 0, none⟩ : Addr).add j) = some u := by
  intro j u hj
  rw [add_plain, Nat.zero_add]
  match j with
  | 0 => simp at hj; rw [← hj]; exact h.c0
  | 1 => simp at hj; rw [← hj]; exact h.c1
  | j + 2 => simp at hj
/-- One cube more behind a list of the call's own. -/
theorem Try.append_cube {w : World} {ops : Array Oper} {rest : List Oper} {o : Oper} {a : Act} {Q : Exit → Act → World → Prop} (hgd : o.guard = none) (s x : Operand)
    (ho : o.op = .call { callee := .builtin .append, args := #[s, x], argTypes := #[32, 32] }) (base : Nat)
    (v : Value) (n : Nat) (cs : List Cu) (hs : a.eval s = v) (hown : w.ownsRow base 24 2 v n (encC cs)) (g : Nat) (c : Cu) (hx : a.eval x = .slice (some ⟨g, 0, none⟩) 1 1) (hB : Blk w g 24 c.1 c.2)
    (hn : n ≤ 1000000) (hbase : base ≤ w.heap.size)
    (h : ∀ v' w', w'.ownsRow base 24 2 v' (n + 1) (encC (cs ++ [c])) → w.grownBy w' v.ownBlock → wpList Try.prog ops Q rest (a.put o.dst v') w') : wpList Try.prog ops Q (o :: rest) a w := by
  obtain ⟨i, hi, hz0, hz1, hz2⟩ := info_parts Try.infoCube
  refine wpList_append_own w hgd s x 32 ho base 24 i _ 2 2 Try.underlying32 hi hz0 hz1 hz2 rfl (by decide) v n _ hs hown ⟨g, 0, none⟩ 1 1 [.int .u8 (c.1 : Int), .int .u8 (c.2 : Int)] hx rfl hB.cells (two_oneCell _ _) (by unfold maxLen; omega) (by omega) hbase ?_
  intro v' w' h1 h2 _
  exact h v' w' (by rw [encC_append]; exact h1) h2
theorem owns_set {w : World} {base e size n : Nat} {v : Value} {xs : List Value} (h : w.ownsRow base e size v n xs) {p : Addr} (hp : p.block < base) (u : Value) : (w.setCell p u).ownsRow base e size v n xs := by
  refine ⟨h.1, ?_⟩
  rcases h.2 with hn | ⟨g, cap, cur, h1, h2, h3, h4⟩
  · exact Or.inl hn
  · exact Or.inr ⟨g, cap, cur, h1, h2, (Below.heap_setCell w p u g (by omega)).trans h3, h4⟩
theorem owns_drew {w : World} {base e size n : Nat} {v : Value} {xs : List Value} (h : w.ownsRow base e size v n xs) (m : Nat) : (w.drewN m).ownsRow base e size v n xs := by
  refine ⟨h.1, ?_⟩
  rcases h.2 with hn | ⟨g, cap, cur, h1, h2, h3, h4⟩
  · exact Or.inl hn
  · have hb := below_drewN (Below.refl (g + 1) w) m
    exact Or.inr ⟨g, cap, cur, h1, h2, (hb.block g (by omega)).trans h3, h4⟩
theorem owns_up {w w' : World} {base e size n : Nat} {v : Value} {xs : List Value} (h : w.ownsRow base e size v n xs) (hb : Below w.heap.size w w') : w'.ownsRow base e size v n xs := by
  refine ⟨h.1, ?_⟩
  rcases h.2 with hn | ⟨g, cap, cur, h1, h2, h3, h4⟩
  · exact Or.inl hn
  · exact Or.inr ⟨g, cap, cur, h1, h2, (hb.block g (Array.getElem?_eq_some_iff.1 h3).1).trans h3, h4⟩
theorem owns_base {w : World} {base base' e size n : Nat} {v : Value} {xs : List Value} (h : w.ownsRow base e size v n xs) (hb : base' ≤ base) : w.ownsRow base' e size v n xs := by
  refine ⟨h.1, ?_⟩
  rcases h.2 with hn | ⟨g, cap, cur, h1, h2, h3, h4⟩
  · exact Or.inl hn
  · exact Or.inr ⟨g, cap, cur, h1, Nat.le_trans hb h2, h3, h4⟩
theorem Blk.grown {w w' : World} {g : Nat} {t : TypeId} {a b : Nat} {row : Option Nat} (h : Blk w g t a b) (hg : w.grownBy w' row) (hne : row ≠ some g) : Blk w' g t a b := (hg.block g h.lt (fun e => hne e.symm)).trans h
theorem minusGo_yes {b a : Cu} {p d : Nat} (h : (b.1.testBit p && !a.1.testBit p) = true) : minusGo b (List.range' p (d + 1)) a = sayC a p (!b.2.testBit p) :: minusGo b (List.range' (p + 1) d) (sayC a p (b.2.testBit p)) := by
  rw [List.range'_succ]; show (if _ then _ else _) = _; rw [if_pos h]
theorem minusGo_no {b a : Cu} {p d : Nat} (h : (b.1.testBit p && !a.1.testBit p) = false) : minusGo b (List.range' p (d + 1)) a = minusGo b (List.range' (p + 1) d) a := by
  rw [List.range'_succ]; show (if _ then _ else _) = _; rw [if_neg (by rw [h]; simp)]

theorem not_u8 {d : Nat} (h : d < 256) : bits BinOp.xor IntKind.u8 IntKind.u8.max (d : Int) = ((255 - d : Nat) : Int) := by
  have e : (IntKind.u8.max : Int) = ((255 : Nat) : Int) := rfl
  rw [e, u8_xor_nat 255 d (by decide) h]
  have : ∀ i : Fin 256, 255 ^^^ i.val = 255 - i.val := by decide +kernel
  rw [this ⟨d, h⟩]

set_option maxHeartbeats 1000000 in
theorem Try.minus_any (a b c d : Nat) (w : World) (ha : a < 256) (hb : b < 256) (hc : c < 256) (hd : d < 256) :
    Calls Try.prog 17 #[.agg #[.int .u8 (a : Int), .int .u8 (b : Int)], .agg #[.int .u8 (c : Int), .int .u8 (d : Int)]] w fun e w' => MinusR 24 (minusC (a, b) (c, d)) w e w' ∧ Below w.heap.size w w' := by
  have hmy := fun w => Try.may_any a b w ha hb
  cases hm : mayC (a, b) with
  | false =>
    rw [hm] at hmy
    have HX : Hid _ := minus_f (b := (c, d)) hm
    clear hm
    go_enter Try.func17, Try.ntmps17
    go_wp2_with fail
    refine (hmy _).mono ?_
    rintro e w1 ⟨rfl, hw1⟩
    have hbw := below_step ((below_new w _).alloc (by simp) _) hw1
    go_wp2
    go_ret
    exact ⟨⟨_, rfl, by rw [HX.out]; exact ownsC_nil _ _ _⟩, hbw⟩
  | true =>
    rw [hm] at hmy
    have hme := fun w => Try.meet_any a b c d w ha hb hc hd
    have HX : Hid _ := fun h => minus_c (b := (c, d)) hm h
    have HY : Hid _ := fun h => minus_t (b := (c, d)) hm h
    unfold MeetR at hme
    clear hm
    generalize hmv : meetV (a, b) (c, d) = m at *
    obtain ⟨x, y⟩ := m
    go_enter Try.func17, Try.ntmps17
    go_wp2_with fail
    refine (hmy _).mono ?_
    rintro e w1 ⟨rfl, hw1⟩
    have hb0 : Blk w1 w.heap.size 24 a b := ((Blk.at rfl).al _).up hw1
    have hb1 : Blk w1 (w.heap.size + 1) 24 c d := (Blk.at (by simp)).up hw1
    have hbw := below_step ((below_new w _).alloc (by simp) _) hw1
    clear hw1
    have h00 := hb0.c0
    have h01 := hb0.c1
    have h10 := hb1.c0
    have h11 := hb1.c1
    go_wp2_with fail
    refine (hme _).mono ?_
    rintro e w2 ⟨rfl, hw2⟩
    have hb0' := hb0.up hw2
    have hb1' := hb1.up hw2
    have hbw2 := below_step hbw hw2
    clear hw2 h00 h01 h10 h11 hb0 hb1 hbw hme hmy
    have h00 := fun o => (hb0'.al o).c0
    have h01 := fun o => (hb0'.al o).c1
    generalize compC (a, b) (c, d) = p at *
    cases p with
    | false =>
      go_wp2
      go_ret
      have hsz := hbw2.size
      have hbz := hbw2.alloc hsz (.cells #[.int .u8 (x : Int), .int .u8 (y : Int)] 24)
      refine ⟨⟨_, rfl, ?_⟩, hbz.alloc hbz.size _⟩
      rw [HX.out trivial]
      exact lit_one hbz.size (by simp) (a, b)
    | true =>
      have hgs : w.heap.size + 2 ≤ w2.heap.size := hb1'.lt
      have hb0'' := hb0'.al (.cells #[.int .u8 (x : Int), .int .u8 (y : Int)] 24)
      have hb1'' := hb1'.al (.cells #[.int .u8 (x : Int), .int .u8 (y : Int)] 24)
      have hbw3 := hbw2.alloc (by omega) (.cells #[.int .u8 (x : Int), .int .u8 (y : Int)] 24)
      have hsz3 : w2.heap.size ≤ (w2.alloc (.cells #[.int .u8 (x : Int), .int .u8 (y : Int)] 24)).heap.size := by simp
      clear h00 h01 hb0' hb1' HX
      go_wp2
      go_loopw [7, 22] (fun v i wr => ∃ k : Nat, k ≤ 8 ∧ i = .int .i64 k ∧ (∃ (a' b' : Nat) (cs : List Cu), a' < 256 ∧ b' < 256 ∧ cs.length ≤ k ∧ Hid (cs ++ minusGo (c, d) (List.range' k (8 - k)) (a', b') = minusC (a, b) (c, d)) ∧ Blk wr w.heap.size 24 a' b' ∧ Hid (wr.ownsRow w2.heap.size 24 2 v cs.length (encC cs))) ∧ Blk wr (w.heap.size + 1) 24 c d ∧ w2.heap.size ≤ wr.heap.size ∧ Below w.heap.size w wr) (fun _ i _ => 8 - (intOf i).toNat)
      case atStart =>
        refine ⟨0, Nat.zero_le _, rfl, ⟨a, b, [], ha, hb, Nat.le_refl _, ?_, hb0'', ownsC_nil _ _ _⟩, hb1'', hsz3, hbw3⟩
        show _ = _; rw [HY.out trivial, List.range_eq_range']; rfl
      case round =>
        obtain ⟨k, hk, rfl, ⟨a', b', cs, ha', hb', hcs, HU, hB, HO⟩, hD, hsw, hbw⟩ := hrel
        clear hb0'' hb1'' hbw3 hsz3
        by_cases hlt : k < 8
        · have h2 := pow_lt hlt
          have hca : c &&& (255 - a') < 256 := Nat.and_lt_two_pow (n := 8) _ (by omega)
          have H1 := u8_andNot_nat c a' hc ha'
          have H2 := u8_and_nat (c &&& (255 - a')) (2 ^ k) hca h2
          have HT : Hid _ := free_bit (a := (a', b')) (b := (c, d)) ⟨ha', hb'⟩ hlt
          have hbt := fun w => Try.cbit_any k w hlt
          have h00 := hB.c0
          have h10 := hD.c0
          cases hq : (c.testBit k && !a'.testBit k) with
          | false =>
            have H3 : (c &&& (255 - a')) &&& 2 ^ k = 0 := HT.out.2 hq
            rw [H3] at H2
            have HN : Hid (cs ++ minusGo (c, d) (List.range' (k + 1) (8 - (k + 1))) (a', b') = minusC (a, b) (c, d)) := by
              show _ = _; rw [← HU.out, show 8 - k = 8 - (k + 1) + 1 by omega, minusGo_no (b := (c, d)) (a := (a', b')) hq]
            clear hq H3 HT HU h2 hca
            generalize 2 ^ k = z at *
            generalize c &&& (255 - a') = u at *
            go_wp2_with fail
            go_quiet ((go_at_call 42; exact Calls.quiet_of_same (hbt _)))
            have hbd := below_drewN (Below.refl wr.heap.size wr) nq
            have hB2 := hB.up hbd
            have hD2 := hD.up hbd
            have HO2 : Hid _ := owns_up HO.out hbd
            have hsw2 := Nat.le_trans hsw hbd.size
            have hbw2 := below_step hbw hbd
            go_wp2
            go_roundw
            case rel => exact ⟨k + 1, by omega, by go_num, ⟨a', b', cs, ha', hb', by omega, HN, hB2, HO2⟩, hD2, hsw2, hbw2⟩
            case measure => simp [intOf]; omega
          | true =>
            have H3 : ((((c &&& (255 - a')) &&& 2 ^ k : Nat) : Int) == 0) = false := by
              have : (c &&& (255 - a')) &&& 2 ^ k ≠ 0 := fun h => by rw [HT.out.1 h] at hq; cases hq
              rw [beq_eq_false_iff_ne]; omega
            have HN : Hid (∀ x y : Cu, sayC (a', b') k (!d.testBit k) = x → sayC (a', b') k (d.testBit k) = y → (cs ++ [x]) ++ minusGo (c, d) (List.range' (k + 1) (8 - (k + 1))) y = minusC (a, b) (c, d)) := by
              rintro x y rfl rfl
              rw [← HU.out, show 8 - k = 8 - (k + 1) + 1 by omega, minusGo_yes (b := (c, d)) (a := (a', b')) hq, List.append_assoc]; rfl
            clear hq HT HU h2 hca
            have h01 := hB.c1
            have h11 := hD.c1
            generalize (c &&& (255 - a')) &&& 2 ^ k = t at *
            generalize 2 ^ k = z at *
            generalize c &&& (255 - a') = u at *
            go_wp2_with fail
            go_quiet ((go_at_call 42; exact Calls.quiet_of_same (hbt _)))
            have hbd := below_drewN (Below.refl wr.heap.size wr) nq
            have hB2 := hB.up hbd
            have hD2 := hD.up hbd
            have HO2 : Hid _ := owns_up HO.out hbd
            have hsw2 := Nat.le_trans hsw hbd.size
            have hbw2 := below_step hbw hbd
            clear hbd HO hsw hbw hB hD h00 h10 h01 h11
            generalize wr.drewN nq = w3 at *
            have h00 := hB2.c0
            have h01 := hB2.c1
            have h10 := hD2.c0
            have h11 := hD2.c1
            have H4 := not_u8 hd
            have hs1 := fun w => Try.say_any a' b' k (255 - d) w ha' hb' hlt (by omega)
            have hs2 := fun w => Try.say_any a' b' k d w ha' hb' hlt hd
            rw [not_bit hlt hd] at hs1
            have hok1 := say_ok (a := (a', b')) ⟨ha', hb'⟩ hlt (!d.testBit k)
            have hok2 := say_ok (a := (a', b')) ⟨ha', hb'⟩ hlt (d.testBit k)
            unfold SayR at hs1 hs2
            have HN2 : Hid _ := HN.out _ _ rfl rfl
            clear HN
            generalize sayC (a', b') k (!d.testBit k) = s1 at *
            generalize sayC (a', b') k (d.testBit k) = s2 at *
            obtain ⟨s10, s11⟩ := s1
            obtain ⟨s20, s21⟩ := s2
            generalize 255 - d = nd at *
            go_wp2_with fail
            refine (hs1 _).mono ?_
            rintro e w4 ⟨rfl, hw4⟩
            have hB4 := hB2.up hw4
            have hD4 := hD2.up hw4
            have HO4 : Hid _ := owns_up HO2.out hw4
            have hsw4 := Nat.le_trans hsw2 hw4.size
            have hbw4 := below_step hbw2 hw4
            clear hw4 HO2 hsw2 hbw2 hB2 hD2 h00 h01 h10 h11 hs1
            have HA : Hid _ := Blk.new w4 24 s10 s11
            go_wp2_with (at_builtin; refine Try.append_cube rfl _ _ rfl w2.heap.size _ cs.length cs rfl (World.ownsRow.alloc HO4.out _) w4.heap.size (s10, s11) rfl HA.out (by omega) (by simp; omega) ?_)
            intro v5 w5 hown5 hgr5
            have hne : ∀ j, j < w2.heap.size → u7.ownBlock ≠ some j := fun j hj e => by
              have := own_ge HO4.out j e; omega
            have hB5 := (hB4.al (.cells #[.int .u8 (s10 : Int), .int .u8 (s11 : Int)] 24)).grown hgr5 (hne _ (by omega))
            have hD5 := (hD4.al (.cells #[.int .u8 (s10 : Int), .int .u8 (s11 : Int)] 24)).grown hgr5 (hne _ (by omega))
            have hsw5 : w2.heap.size ≤ w5.heap.size := by have := hgr5.size; simp at this; omega
            have hbw5 : Below w.heap.size w w5 := (hbw4.alloc (by have := hbw4.size; omega) _).grown hgr5 (by simp; have := hbw4.size; omega) (fun j e => by have := own_ge HO4.out j e; omega)
            have HO5 : Hid _ := hown5
            clear hown5 hgr5 hne hB4 hD4 hsw4 hbw4 HO4 HA
            have h00 := hB5.c0
            have h01 := hB5.c1
            have h11 := hD5.c1
            go_wp2_with fail
            refine (hs2 _).mono ?_
            rintro e w6 ⟨rfl, hw6⟩
            have hB6 := hB5.up hw6
            have hD6 := hD5.up hw6
            have HO6 : Hid _ := owns_up HO5.out hw6
            have hsw6 := Nat.le_trans hsw5 hw6.size
            have hbw6 := below_step hbw5 hw6
            clear hw6 HO5 hsw5 hbw5 hB5 hD5 h00 h01 h11 hs2
            have h00 := hB6.c0
            have h01 := hB6.c1
            have hf0 := hB6.fz 0
            have hf1 := hB6.fz 1
            have hB7 := (hB6.set0 s20).set1 s21
            have HO7 : Hid _ := owns_set (owns_set HO6.out (p := ⟨w.heap.size, 0, none⟩) (by simp; omega) (.int .u8 (s20 : Int))) (p := ⟨w.heap.size, 1, none⟩) (by simp; omega) (.int .u8 (s21 : Int))
            have hD7 : Blk ((w6.setCell ⟨w.heap.size, 0, none⟩ (.int .u8 (s20 : Int))).setCell ⟨w.heap.size, 1, none⟩ (.int .u8 (s21 : Int))) (w.heap.size + 1) 24 c d := ((Below.heap_setCell _ _ _ _ (by simp)).trans (Below.heap_setCell _ _ _ _ (by simp))).trans hD6
            have hbw7 : Below w.heap.size w ((w6.setCell ⟨w.heap.size, 0, none⟩ (.int .u8 (s20 : Int))).setCell ⟨w.heap.size, 1, none⟩ (.int .u8 (s21 : Int))) := (hbw6.setCell (Nat.le_refl _) _).setCell (Nat.le_refl _) _
            have hsw7 : w2.heap.size ≤ ((w6.setCell ⟨w.heap.size, 0, none⟩ (.int .u8 (s20 : Int))).setCell ⟨w.heap.size, 1, none⟩ (.int .u8 (s21 : Int))).heap.size := by simpa using hsw6
            clear hB6 hD6 HO6 hbw6 hsw6
            have HL : Hid ((cs ++ [(s10, s11)]).length = cs.length + 1) := by show _ = _; simp
            go_wp2
            go_roundw
            case rel => exact ⟨k + 1, by omega, by go_num, ⟨s20, s21, cs ++ [(s10, s11)], hok2.1, hok2.2, by rw [HL.out]; omega, HN2, hB7, by rw [HL.out]; exact HO7⟩, hD7, hsw7, hbw7⟩
            case measure => simp [intOf]; omega
        · obtain rfl : k = 8 := by omega
          have HV : Hid (minusC (a, b) (c, d) = cs) := by
            have := HU.out; simp [minusGo] at this; exact this.symm
          go_wp2
          go_ret
          exact ⟨⟨_, rfl, by rw [HV.out]; exact owns_base HO.out (by have := hbw2.size; omega)⟩, hbw⟩
end Go.Proofs.Ytnaalbcbmhpfjaa
