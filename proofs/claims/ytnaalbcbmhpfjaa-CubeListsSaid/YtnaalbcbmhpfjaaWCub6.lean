/- The cubes of some letters: cover of package cube. -/
import Derived.Test.YtnaalbcbmhpfjaaWCub5
import Derived.Test.YtnaalbcbmhpfjaaWCubR3
namespace Go.Proofs.Ytnaalbcbmhpfjaa
open Go.RowKit Go.Maps

theorem encC_one (cs : List Cu) : ∀ u ∈ encC cs, u.oneCell' = true := by
  intro u hu
  unfold encC at hu
  obtain ⟨c, _, hc⟩ := List.mem_flatMap.1 hu
  exact two_oneCell _ _ u hc
/-- One list of cubes behind another one, both of the call's own. -/
theorem Try.wp_cubes {w : World} {o : Oper} {a : Act} {K : Act → World → Prop} {Q : Exit → Act → World → Prop} (s x : Operand)
    (ho : o.op = .call { callee := .builtin .append, args := #[s, x], argTypes := #[32, 32] }) (base base2 : Nat)
    (v v2 : Value) (xs ys : List Cu) (hs : a.eval s = v) (hx : a.eval x = v2) (hown : w.ownsRow base 24 2 v xs.length (encC xs)) (hown2 : w.ownsRow base2 24 2 v2 ys.length (encC ys))
    (hn : xs.length ≤ 100000) (hm : ys.length ≤ 100000) (hbase : base ≤ w.heap.size)
    (h : ∀ v' w', w'.ownsRow base 24 2 v' (xs ++ ys).length (encC (xs ++ ys)) → w.grownBy w' v.ownBlock → K (a.put o.dst v') w') : o.wp Try.prog a w K Q := by
  obtain ⟨i, hi, hz0, hz1, hz2⟩ := info_parts Try.infoCube
  have hown2' := hown2
  rcases hown2.2 with ⟨rfl, h0⟩ | ⟨g, cap, cur, hv, hg, hcell, hnc, hcm, hsz, htk⟩
  · have hy : ys = [] := List.eq_nil_of_length_eq_zero h0
    subst hy
    have hrun := run_append_owned_none (P := Try.prog) w base 32 o.type 24 i 2 Try.underlying32 hi v xs.length (encC xs) hown
    unfold Oper.wp execOp
    simp only [ho, resolve, invoke, builtin, Sem.run_bind, Sem.run_pure, Result.andThen_ok, List.map_toArray, List.map_cons, List.map_nil, hs, hx, hrun]
    exact h v w (by rw [List.append_nil]; exact hown) (World.grownBy.refl _ _)
  · refine wp_append_own w s x 32 ho base 24 i _ 2 2 Try.underlying32 hi hz0 hz1 hz2 rfl (by decide) v xs.length _ hs hown ⟨g, 0, none⟩ ys.length cap (encC ys) (by rw [hx, hv]) (encC_len ys) (hown2'.cells (by rw [hv]; rfl)) (encC_one ys) (by unfold maxLen; omega) (by omega) hbase ?_
    intro v' w' h1 h2 _
    exact h v' w' (by rw [encC_append, List.length_append]; exact h1) h2
theorem Try.append_cubes {w : World} {ops : Array Oper} {rest : List Oper} {o : Oper} {a : Act} {Q : Exit → Act → World → Prop} (hgd : o.guard = none) (s x : Operand)
    (ho : o.op = .call { callee := .builtin .append, args := #[s, x], argTypes := #[32, 32] }) (base base2 : Nat)
    (v v2 : Value) (xs ys : List Cu) (hs : a.eval s = v) (hx : a.eval x = v2) (hown : w.ownsRow base 24 2 v xs.length (encC xs)) (hown2 : w.ownsRow base2 24 2 v2 ys.length (encC ys))
    (hn : xs.length ≤ 100000) (hm : ys.length ≤ 100000) (hbase : base ≤ w.heap.size)
    (h : ∀ v' w', w'.ownsRow base 24 2 v' (xs ++ ys).length (encC (xs ++ ys)) → w.grownBy w' v.ownBlock → wpList Try.prog ops Q rest (a.put o.dst v') w') : wpList Try.prog ops Q (o :: rest) a w :=
  wpList_plain hgd fun _ hK => Try.wp_cubes s x ho base base2 v v2 xs ys hs hx hown hown2 hn hm hbase fun v' w' h1 h2 => hK _ _ (h v' w' h1 h2)
theorem Try.step_cubes {w : World} {ops : Array Oper} {o : Oper} {a : Act} {K : Act → World → Prop} {Q : Exit → Act → World → Prop} {E : Prop} (hgd : o.guard = none) (s x : Operand)
    (ho : o.op = .call { callee := .builtin .append, args := #[s, x], argTypes := #[32, 32] }) (base base2 : Nat)
    (v v2 : Value) (xs ys : List Cu) (hs : a.eval s = v) (hx : a.eval x = v2) (hown : w.ownsRow base 24 2 v xs.length (encC xs)) (hown2 : w.ownsRow base2 24 2 v2 ys.length (encC ys))
    (hn : xs.length ≤ 100000) (hm : ys.length ≤ 100000) (hbase : base ≤ w.heap.size)
    (h : ∀ v' w', w'.ownsRow base 24 2 v' (xs ++ ys).length (encC (xs ++ ys)) → w.grownBy w' v.ownBlock → K (a.put o.dst v') w') :
    if Region.wanted o (yielded ops a.tmps) = true then Oper.wp Try.prog o a w K Q else E := by
  have hw : Region.wanted o (yielded ops a.tmps) = true := by simp [Region.wanted, hgd]
  rw [if_pos hw]
  exact Try.wp_cubes s x ho base base2 v v2 xs ys hs hx hown hown2 hn hm hbase h

theorem coverF_none {n : Nat} {inn : Nat → Bool} {f p : Nat} {c : Cu} (h : amC n c inn = 0) : coverF n inn f p c = [] := by
  unfold coverF; exact if_pos h
theorem coverF_all {n : Nat} {inn : Nat → Bool} {f p : Nat} {c : Cu} (h0 : amC n c inn ≠ 0) (h : amC n c inn = lenC n c) : coverF n inn f p c = [c] := by
  unfold amC at h0 h; unfold lenC at h; unfold coverF; rw [if_neg h0, if_pos h]
theorem coverF_on {n : Nat} {inn : Nat → Bool} {f p : Nat} {c : Cu} (h0 : amC n c inn ≠ 0) (h : amC n c inn ≠ lenC n c) : coverF n inn (f + 1) p c = coverF n inn f (p + 1) (sayC c p false) ++ coverF n inn f (p + 1) (sayC c p true) := by
  unfold amC at h0 h; unfold lenC at h; rw [coverF, if_neg h0, if_neg h]
theorem amC_le (n : Nat) (c : Cu) (inn : Nat → Bool) : amC n c inn ≤ lenC n c := List.countP_le_length
theorem pow_100k {f : Nat} (h : f ≤ 8) : 2 ^ f ≤ 100000 := Nat.le_trans (pow_256 h) (by decide)

set_option maxRecDepth 100000 in
set_option maxHeartbeats 1000000 in
theorem Try.cover_any (n g : Nat) (bs : List Bool) (hn : n ≤ 8) (hl : bs.length = 256) : ∀ (f p a b : Nat) (w : World), p + f = n → a < 256 → b < 256 → Says p (a, b) → BRow w g 78 bs →
    Calls Try.prog 48 #[.int .i64 (n : Int), .pointer (some ⟨g, 0, none⟩), .agg #[.int .u8 (a : Int), .int .u8 (b : Int)], .int .i64 (p : Int)] w fun e w' => MinusR 24 (coverF n (innB bs) f p (a, b)) w e w' ∧ Below w.heap.size w w' := by
  intro f
  induction f with
  | zero =>
    intro p a b w hp ha hb hsay hR
    obtain rfl : p = n := by omega
    have hofn := hsay.ofN (Nat.le_refl p)
    have hct := fun w => Try.cnt_any p a b w hn ha hb hofn
    have ham := fun w hR => Try.among_any p g a b bs w hn ha hb hl hR
    have hone : lenC p (a, b) = 1 := hsay.one hn
    have hmL := amC_le p (a, b) (innB bs)
    have HX0 : Hid (amC p (a, b) (innB bs) = 0 → coverF p (innB bs) 0 p (a, b) = []) := fun h => coverF_none h
    have HX1 : Hid (amC p (a, b) (innB bs) ≠ 0 → amC p (a, b) (innB bs) = lenC p (a, b) → coverF p (innB bs) 0 p (a, b) = [(a, b)]) := fun h h' => coverF_all h h'
    generalize amC p (a, b) (innB bs) = m at *
    generalize lenC p (a, b) = L at *
    subst hone
    have hA1 := Blk.new w 24 a b
    have hR1 := hR.up (below_new w (.cells #[.int .u8 (a : Int), .int .u8 (b : Int)] 24))
    go_enter Try.func48, Try.ntmps48
    go_wp2_with fail
    refine (ham _ hR1).mono ?_
    rintro e w2 ⟨rfl, hw2⟩
    have hA2 := hA1.up hw2
    have hb2 := below_step (below_new w _) hw2
    clear hw2 hA1 hR1 ham
    by_cases hm0 : m = 0
    · subst hm0
      go_wp2
      go_ret
      exact ⟨⟨_, rfl, by rw [HX0.out trivial]; exact ownsC_nil _ _ _⟩, hb2⟩
    · obtain rfl : m = 1 := by omega
      have h00 := hA2.c0
      have h01 := hA2.c1
      have HX : Hid _ := HX1.out hm0 rfl
      clear HX0 HX1 hm0
      go_wp2_with fail
      refine (hct _).mono ?_
      rintro e w3 ⟨rfl, hw3⟩
      have hA3 := hA2.up hw3
      have hb3 := below_step hb2 hw3
      clear hw3 hA2 hb2 h00 h01 hct
      have h00 := hA3.c0
      have h01 := hA3.c1
      go_wp2
      go_ret
      refine ⟨⟨_, rfl, ?_⟩, hb3.alloc hb3.size _⟩
      rw [HX.out]
      exact lit_one hb3.size rfl (a, b)
  | succ f ih =>
    intro p a b w hp ha hb hsay hR
    have hofn := hsay.ofN (n := n) (by omega)
    have hct := fun w => Try.cnt_any n a b w hn ha hb hofn
    have ham := fun w hR => Try.among_any n g a b bs w hn ha hb hl hR
    have hLe := Nat.le_trans (lenC_le n (a, b)) (pow_256 hn)
    have hmL := amC_le n (a, b) (innB bs)
    have HX0 : Hid (amC n (a, b) (innB bs) = 0 → coverF n (innB bs) (f + 1) p (a, b) = []) := fun h => coverF_none h
    have HX1 : Hid (amC n (a, b) (innB bs) ≠ 0 → amC n (a, b) (innB bs) = lenC n (a, b) → coverF n (innB bs) (f + 1) p (a, b) = [(a, b)]) := fun h h' => coverF_all h h'
    have HX2 : Hid (amC n (a, b) (innB bs) ≠ 0 → amC n (a, b) (innB bs) ≠ lenC n (a, b) → coverF n (innB bs) (f + 1) p (a, b) = coverF n (innB bs) f (p + 1) (sayC (a, b) p false) ++ coverF n (innB bs) f (p + 1) (sayC (a, b) p true)) := fun h h' => coverF_on h h'
    generalize amC n (a, b) (innB bs) = m at *
    generalize lenC n (a, b) = L at *
    have hA1 := Blk.new w 24 a b
    have hR1 := hR.up (below_new w (.cells #[.int .u8 (a : Int), .int .u8 (b : Int)] 24))
    go_enter Try.func48, Try.ntmps48
    go_wp2_with fail
    refine (ham _ hR1).mono ?_
    rintro e w2 ⟨rfl, hw2⟩
    have hA2 := hA1.up hw2
    have hR2 := hR1.up hw2
    have hb2 := below_step (below_new w _) hw2
    clear hw2 hA1 hR1 ham
    by_cases hm0 : m = 0
    · subst hm0
      go_wp2
      go_ret
      exact ⟨⟨_, rfl, by rw [HX0.out trivial]; exact ownsC_nil _ _ _⟩, hb2⟩
    · have hm1 : ((m : Int) == 0) = false := by rw [beq_eq_false_iff_ne]; omega
      have h00 := hA2.c0
      have h01 := hA2.c1
      go_wp2_with fail
      refine (hct _).mono ?_
      rintro e w3 ⟨rfl, hw3⟩
      have hA3 := hA2.up hw3
      have hR3 := hR2.up hw3
      have hb3 := below_step hb2 hw3
      clear hw3 hA2 hR2 hb2 h00 h01 hct
      have h00 := hA3.c0
      have h01 := hA3.c1
      by_cases hmL2 : m = L
      · subst hmL2
        have HX : Hid _ := HX1.out hm0 rfl
        go_wp2
        go_ret
        refine ⟨⟨_, rfl, ?_⟩, hb3.alloc hb3.size _⟩
        rw [HX.out]
        exact lit_one hb3.size rfl (a, b)
      · have hmL3 : ((m : Int) == (L : Int)) = false := by rw [beq_eq_false_iff_ne]; omega
        have HX : Hid _ := HX2.out hm0 hmL2
        have hp8 : p < 8 := by omega
        have hs1 := fun w => Try.say_any a b p 0 w ha hb hp8 (by decide)
        rw [show (0 : Nat).testBit p = false by simp] at hs1
        have hs2 := fun w => Try.say_any a b p (2 ^ p) w ha hb hp8 (pow_lt hp8)
        rw [show Nat.testBit (2 ^ p) p = true by simp] at hs2
        have hbt := fun w => Try.cbit_any p w hp8
        have hok1 := say_ok (a := (a, b)) ⟨ha, hb⟩ hp8 false
        have hok2 := say_ok (a := (a, b)) ⟨ha, hb⟩ hp8 true
        have hsy1 := hsay.next false
        have hsy2 := hsay.next true
        have HLn : Hid (∀ c, (coverF n (innB bs) f (p + 1) c).length ≤ 100000) := fun c => Nat.le_trans (coverF_len _ f (p + 1) c) (pow_100k (by omega))
        unfold SayR at hs1 hs2
        generalize sayC (a, b) p false = c1 at *
        generalize sayC (a, b) p true = c2 at *
        obtain ⟨c10, c11⟩ := c1
        obtain ⟨c20, c21⟩ := c2
        have ih1 := fun w hR => ih (p + 1) c10 c11 w (by omega) hok1.1 hok1.2 hsy1 hR
        have ih2 := fun w hR => ih (p + 1) c20 c21 w (by omega) hok2.1 hok2.2 hsy2 hR
        rw [show (((p + 1 : Nat)) : Int) = (p : Int) + 1 from rfl] at ih1 ih2
        have HL1 : Hid _ := HLn.out (c10, c11)
        have HL2 : Hid _ := HLn.out (c20, c21)
        unfold MinusR at ih1 ih2
        clear ih HLn
        generalize coverF n (innB bs) f (p + 1) (c10, c11) = l1 at *
        generalize coverF n (innB bs) f (p + 1) (c20, c21) = l2 at *
        generalize 2 ^ p = z at *
        go_wp2_with fail
        refine (hs1 _).mono ?_
        rintro e w4 ⟨rfl, hw4⟩
        have hA4 := hA3.up hw4
        have hR4 := hR3.up hw4
        have hb4 := below_step hb3 hw4
        clear hw4 hA3 hR3 hb3 h00 h01 hs1
        go_wp2_with fail
        refine (ih1 _ hR4).mono ?_
        rintro e w5 ⟨⟨v5, rfl, hown5⟩, hw5⟩
        have hA5 := hA4.up hw5
        have hR5 := hR4.up hw5
        have hb5 := below_step hb4 hw5
        have hbs : w.heap.size ≤ w4.heap.size := hb4.size
        clear hw5 hA4 hR4 hb4 ih1
        have hAd := hA5.up (Below.refl _ _).drew
        have hRd := hR5.up (Below.refl _ _).drew
        have hbd := hb5.drew
        have hown5d := owns_up hown5 (Below.refl w5.heap.size w5).drew
        have hwp : IntKind.i64.wrap ((p : Int) + 1) = (p : Int) + 1 := by rw [IntKind.wrap_i64]; omega
        have hk0 : w5.drew.cell? ⟨w.heap.size, 0, none⟩ = some (.int .u8 (a : Int)) ∧ w5.drew.cell? ⟨w.heap.size, 1, none⟩ = some (.int .u8 (b : Int)) := ⟨hAd.c0, hAd.c1⟩
        have hk1 : ∀ w0 w1' : World, (w0.cell? ⟨w.heap.size, 0, none⟩ = some (.int .u8 (a : Int)) ∧ w0.cell? ⟨w.heap.size, 1, none⟩ = some (.int .u8 (b : Int))) → Below w0.heap.size w0 w1' → (w1'.cell? ⟨w.heap.size, 0, none⟩ = some (.int .u8 (a : Int)) ∧ w1'.cell? ⟨w.heap.size, 1, none⟩ = some (.int .u8 (b : Int))) := fun w0 w1' h hb => ⟨kept_cell h.1 hb, kept_cell h.2 hb⟩
        go_wp2_with fail
        go_region_held3 (fun w' => w'.cell? ⟨w.heap.size, 0, none⟩ = some (.int .u8 (a : Int)) ∧ w'.cell? ⟨w.heap.size, 1, none⟩ = some (.int .u8 (b : Int))) (first | exact hk0 | exact hk1 _ _ ‹_› ‹_› | assumption) (first | (go_at_call 42; refine (hbt _).mono ?_; rintro e w' ⟨rfl, rfl⟩) | (go_at_call 43; refine (hs2 _).mono ?_; rintro e w6 ⟨rfl, hw6⟩; have hR6 := hRd.up hw6) | (go_at_call 48; refine (ih2 _ hR6).mono ?_; rintro e w7 ⟨⟨v7, rfl, hown7⟩, hw7⟩))
        have hb7 := below_step (below_step hbd hw6) hw7
        have hown5' := owns_up (owns_up hown5d hw6) hw7
        have hrow5 : ∀ j, v5.ownBlock = some j → w.heap.size ≤ j := fun j e => Nat.le_trans hbs (own_ge hown5 j e)
        have HO5 : Hid _ := owns_base hown5' hbs
        have HO7 : Hid _ := hown7
        clear hbd hw6 hw7 hown5 hown5d hown5' hown7 hk0 hk1 hAd hRd hR6 hA5 hR5 hb5
        go_wp2_with (at_builtin; refine Try.append_cubes rfl _ _ rfl w.heap.size _ _ _ l1 l2 rfl rfl HO5.out HO7.out HL1.out HL2.out hb7.size ?_)
        intro v8 w8 hown8 hgr8
        have hb8 : Below w.heap.size w w8 := hb7.grown hgr8 hb7.size hrow5
        have HX3 : Hid (MinusR 24 (coverF n (innB bs) (f + 1) p (a, b)) w (.returned v8) w8) := ⟨v8, rfl, by rw [HX.out, List.length_append]; exact hown8⟩
        clear hown8 hgr8
        go_wp2
        go_ret
        exact ⟨HX3.out, hb8⟩
end Go.Proofs.Ytnaalbcbmhpfjaa
