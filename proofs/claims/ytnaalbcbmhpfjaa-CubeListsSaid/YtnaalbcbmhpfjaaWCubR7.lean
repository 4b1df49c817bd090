/- The document's cover. -/
import Derived.Test.YtnaalbcbmhpfjaaWCubR6
namespace Go.Proofs.Ytnaalbcbmhpfjaa
open Go.RowKit Go.Maps

theorem below_of_drewN {w w' : World} (h : ∃ n, w' = w.drewN n) : Below w.heap.size w w' := by obtain ⟨n, rfl⟩ := h; exact below_drewN (Below.refl _ _) n
def amL (ls : List Nat) (inn : Nat → Bool) (i : Nat) : Nat := (ls.take i).countP inn
theorem amL_succ {ls : List Nat} {inn : Nat → Bool} {i : Nat} (h : i < ls.length) : amL ls inn (i + 1) = amL ls inn i + (if inn ls[i] then 1 else 0) := by
  unfold amL; rw [List.take_add_one, List.getElem?_eq_getElem h, List.countP_append]
  simp [List.countP_cons]
theorem amL_le (ls : List Nat) (inn : Nat → Bool) (i : Nat) : amL ls inn i ≤ i := by
  unfold amL; exact Nat.le_trans List.countP_le_length (by simp; omega)
theorem Try.idxBoolN (g k : Nat) (h : k < 256) (w : World) : (Instr.indexAt 62 (.slice (some ⟨g, 0, none⟩) 256 256) (.int .u8 (k : Int))).run Try.prog w = .ok (.pointer (some ⟨g, k, none⟩)) w := by
  have hk : k < 256 := h
  simp [Instr.indexAt, run_underlying Try.underlying62, asIntOf, sizeOf_run Try.sizeBool, hk, Result.andThen, go_sem, add_plain]

set_option maxRecDepth 100000 in
set_option maxHeartbeats 2000000 in
theorem Try.rcover_step (n G p a b : Nat) (bs : List Bool) (cs : List Cu) (w : World) (hn : n ≤ 8) (ha : a < 256) (hb : b < 256) (hl : bs.length = 256) (hofn : ofN n (a, b) = true) (hR : BRow w G 4 bs) (hp8 : p ≤ 8)
    (h0 : amC n (a, b) (innB bs) = 0 → cs = []) (h1 : amC n (a, b) (innB bs) ≠ 0 → amC n (a, b) (innB bs) = lenC n (a, b) → cs = [(a, b)])
    (h2 : amC n (a, b) (innB bs) ≠ 0 → amC n (a, b) (innB bs) ≠ lenC n (a, b) → p < 8 ∧ ∃ l1 l2 : List Cu, cs = l1 ++ l2 ∧ l1.length ≤ 100000 ∧ l2.length ≤ 100000 ∧
      (∀ w, BRow w G 4 bs → Calls Try.prog 49 #[.int .i64 (n : Int), .int .i64 ((p : Int) + 1), .agg #[.int .u8 ((sayC (a, b) p false).1 : Int), .int .u8 ((sayC (a, b) p false).2 : Int)], .slice (some ⟨G, 0, none⟩) 256 256] w fun e w' => MinusR 24 l1 w e w' ∧ Below w.heap.size w w') ∧
      (∀ w, BRow w G 4 bs → Calls Try.prog 49 #[.int .i64 (n : Int), .int .i64 ((p : Int) + 1), .agg #[.int .u8 ((sayC (a, b) p true).1 : Int), .int .u8 ((sayC (a, b) p true).2 : Int)], .slice (some ⟨G, 0, none⟩) 256 256] w fun e w' => MinusR 24 l2 w e w' ∧ Below w.heap.size w w')) :
    Calls Try.prog 49 #[.int .i64 (n : Int), .int .i64 (p : Int), .agg #[.int .u8 (a : Int), .int .u8 (b : Int)], .slice (some ⟨G, 0, none⟩) 256 256] w fun e w' => MinusR 24 cs w e w' ∧ Below w.heap.size w w' := by
  have hlet : ∀ w, Calls Try.prog 23 #[.int .i64 (n : Int), .agg #[.int .u8 (a : Int), .int .u8 (b : Int)]] w fun e w' => (∃ v, e = .returned (.tuple #[v, .int .i64 0]) ∧ w'.ownsRow w.heap.size 22 1 v (lenC n (a, b)) ((lettI n (a, b)).map (Value.int .u8))) ∧ Below w.heap.size w w' := fun w => (Try.rletters_any n a b w ha hb).mono fun e w' ⟨h, hb'⟩ => by
    rcases h with ⟨_, h⟩ | ⟨h, _⟩
    · exact ⟨h, hb'⟩
    · exact absurd (errC_of hn hofn) h
  have HAM : Hid (amL (lettersC n (a, b)) (innB bs) (lenC n (a, b)) = amC n (a, b) (innB bs)) := by show _ = _; unfold amL lenC amC; rw [List.take_length]
  have HLL : Hid ((lettersC n (a, b)).length = lenC n (a, b)) := rfl
  have HLI : Hid (lettI n (a, b) = (lettersC n (a, b)).map fun (i : Nat) => (i : Int)) := rfl
  have HLV : Hid (∀ x ∈ lettersC n (a, b), x < 256) := fun x hx => by
    have h1 := (mem_letters.1 hx).1; have h2 := pow_256 hn; omega
  have hL256 := Nat.le_trans (lenC_le n (a, b)) (pow_256 hn)
  have hmle := amC_le n (a, b) (innB bs)
  have H0 : Hid _ := h0
  have H1 : Hid _ := h1
  have H2 : Hid _ := h2
  clear h0 h1 h2 hofn
  generalize amC n (a, b) (innB bs) = m at *
  generalize lenC n (a, b) = L at *
  generalize lettersC n (a, b) = ls at *
  generalize lettI n (a, b) = li at *
  go_enter Try.func49, Try.ntmps49
  go_wp2_with fail
  refine (hlet _).mono ?_
  rintro e w1 ⟨⟨v1, rfl, hown1⟩, hw1⟩
  have hC1 := (Blk.new w 24 a b).up hw1
  have hR1 := (hR.up (below_new w (.cells #[.int .u8 (a : Int), .int .u8 (b : Int)] 24))).up hw1
  have hb1 := below_step (below_new _ _) hw1
  obtain ⟨la, lcap, rfl, hlS, _⟩ := ownsRow_intSl (P := Try.prog) (T := 36) hown1 Try.underlying36 Try.sizeLet
  clear hw1 hown1 hlet hR
  have hidl := fun (k : Nat) (w : World) (h : k < L) => hlS.idx L k w h (Nat.le_refl _)
  have hlb := hlS.bd
  have hlc := hlS.hcap
  unfold maxLen at hlb
  go_wp2
  go_loopw [11, 12] (fun t i wr => ∃ j : Nat, j ≤ L ∧ i = .int .i64 j ∧ (∃ q : Nat, q ≤ j ∧ t = .int .i64 (q : Int) ∧ Hid (q = amL ls (innB bs) j)) ∧ (∃ d, wr = w1.drewN d)) (fun _ i _ => L - (intOf i).toNat)
  case atStart => exact ⟨0, Nat.zero_le _, rfl, ⟨0, Nat.le_refl _, rfl, by show _ = _; simp [amL]⟩, 0, rfl⟩
  case round =>
    obtain ⟨j, hj, rfl, ⟨q, hq, rfl, HQ⟩, hdr⟩ := hrel
    have hbd := below_of_drewN hdr
    by_cases hlt : j < L
    · have hck := (hlS.up hbd).cell j hlt
      have hjl : j < ls.length := by rw [HLL.out]; exact hlt
      have HS : Hid _ := amL_succ (inn := innB bs) hjl
      have hx256 := HLV.out _ (List.getElem_mem hjl)
      rw [show li.getD j 0 = (ls[j] : Int) by rw [HLI.out]; simp [List.getD_eq_getElem?_getD, List.getElem?_eq_getElem hjl]] at hck
      have HI : Hid (innB bs ls[j] = bs.getD ls[j] false) := rfl
      rw [HI.out] at HS
      generalize ls[j] = x at *
      have hix := Try.idxBoolN G x hx256
      have hcx := (hR1.up hbd).cell (i := x) (by omega)
      generalize bs.getD x false = y at *
      clear hjl hbd
      cases y with
      | false =>
        have HN : Hid (q = amL ls (innB bs) (j + 1)) := by show _ = _; rw [HS.out, HQ.out]; simp
        go_wp2
        go_roundw
        case rel => exact ⟨j + 1, by omega, by go_num, ⟨q, by omega, rfl, HN⟩, hdr⟩
        case measure => simp [intOf]; omega
      | true =>
        have HN : Hid (q + 1 = amL ls (innB bs) (j + 1)) := by show _ = _; rw [HS.out, HQ.out]; simp
        go_wp2
        go_roundw
        case rel => exact ⟨j + 1, by omega, by go_num, ⟨q + 1, by omega, by go_num, HN⟩, hdr⟩
        case measure => simp [intOf]; omega
    · obtain rfl : j = L := by omega
      obtain rfl : q = m := HQ.out.trans HAM.out
      have hC2 := hC1.up hbd
      have hR2 := hR1.up hbd
      have hb2 := below_step hb1 hbd
      clear hbd hC1 hR1 hb1 hdr HQ HAM hlS
      have h00 := hC2.c0
      have h01 := hC2.c1
      by_cases hq0 : q = 0
      · subst hq0
        have HX : Hid (cs = []) := H0.out rfl
        clear H0 H1 H2
        go_wp2
        go_ret
        exact ⟨⟨_, rfl, by rw [HX.out]; exact ownsC_nil _ _ _⟩, hb2⟩
      · have hq1 : ((q : Int) == 0) = false := by rw [beq_eq_false_iff_ne]; omega
        by_cases hqL : q = j
        · have HX : Hid (cs = [(a, b)]) := H1.out hq0 hqL
          subst hqL
          clear H0 H1 H2
          go_wp2
          go_ret
          refine ⟨⟨_, rfl, ?_⟩, hb2.alloc hb2.size _⟩
          rw [HX.out]
          exact lit_one hb2.size rfl (a, b)
        · have hqL1 : ((q : Int) == (j : Int)) = false := by rw [beq_eq_false_iff_ne]; omega
          obtain ⟨hp, l1, l2, hcs, hl1, hl2, ih1, ih2⟩ := H2.out hq0 hqL
          have HX : Hid (cs = l1 ++ l2) := hcs
          clear hcs H0 H1 H2
          have hs1 := fun w => Try.rsay_any a b p false 0 w ha hb hp rfl
          have hs2 := fun w => Try.rsay_any a b p true 1 w ha hb hp rfl
          unfold SayR at hs1 hs2
          unfold MinusR at ih1 ih2
          generalize sayC (a, b) p false = c1 at *
          generalize sayC (a, b) p true = c2 at *
          obtain ⟨c10, c11⟩ := c1
          obtain ⟨c20, c21⟩ := c2
          have hwp : IntKind.i64.wrap ((p : Int) + 1) = (p : Int) + 1 := by rw [IntKind.wrap_i64]; omega
          have hCd := hC2.up (Below.refl _ _).drew
          have hRd := hR2.up (Below.refl _ _).drew
          have hbd := hb2.drew
          have hk0 : wr.drew.cell? ⟨w.heap.size, 0, none⟩ = some (.int .u8 (a : Int)) ∧ wr.drew.cell? ⟨w.heap.size, 1, none⟩ = some (.int .u8 (b : Int)) := ⟨hCd.c0, hCd.c1⟩
          have hgw : w.heap.size < wr.heap.size := hC2.lt
          have hk1 : ∀ w0 w1' : World, (w0.cell? ⟨w.heap.size, 0, none⟩ = some (.int .u8 (a : Int)) ∧ w0.cell? ⟨w.heap.size, 1, none⟩ = some (.int .u8 (b : Int))) → Below w0.heap.size w0 w1' → (w1'.cell? ⟨w.heap.size, 0, none⟩ = some (.int .u8 (a : Int)) ∧ w1'.cell? ⟨w.heap.size, 1, none⟩ = some (.int .u8 (b : Int))) := fun w0 w1' h hb => ⟨kept_cell h.1 hb, kept_cell h.2 hb⟩
          have hk2 : ∀ (w0 w1' : World) (row : Option Nat), (w0.cell? ⟨w.heap.size, 0, none⟩ = some (.int .u8 (a : Int)) ∧ w0.cell? ⟨w.heap.size, 1, none⟩ = some (.int .u8 (b : Int))) → w0.grownBy w1' row → Hid (∀ j, row = some j → wr.heap.size ≤ j) → (w1'.cell? ⟨w.heap.size, 0, none⟩ = some (.int .u8 (a : Int)) ∧ w1'.cell? ⟨w.heap.size, 1, none⟩ = some (.int .u8 (b : Int))) := fun w0 w1' row h hb hr => ⟨grown_cell h.1 hb (fun e => by have := hr.out _ e.symm; dsimp only at this; omega), grown_cell h.2 hb (fun e => by have := hr.out _ e.symm; dsimp only at this; omega)⟩
          clear h00 h01
          go_wp2_with fail
          go_region_held3 (fun w' => w'.cell? ⟨w.heap.size, 0, none⟩ = some (.int .u8 (a : Int)) ∧ w'.cell? ⟨w.heap.size, 1, none⟩ = some (.int .u8 (b : Int))) (first | exact hk0 | exact hk1 _ _ ‹_› ‹_› | exact hk2 _ _ _ ‹_› ‹_› ‹_› | assumption) (first | (go_at_call 44; with_reducible refine (hs1 _).mono ?_; rintro e w6 ⟨rfl, hw6⟩; have hR6 := hRd.up hw6) | (go_at_call 49; with_reducible refine (ih1 _ hR6).mono ?_; rintro e w7 ⟨⟨v7, rfl, hown7⟩, hw7⟩; have hR7 := hR6.up hw7) | (go_at_call 44; refine (hs2 _).mono ?_; rintro e w8 ⟨rfl, hw8⟩; have hR8 := hR7.up hw8) | (go_at_call 49; refine (ih2 _ hR8).mono ?_; rintro e w9 ⟨⟨v9, rfl, hown9⟩, hw9⟩; have hown7' := owns_up (owns_up hown7 hw8) hw9; have hrow7 : Hid (∀ j, v7.ownBlock = some j → wr.heap.size ≤ j) := (fun j e => Nat.le_trans hw6.size (own_ge hown7 j e))) | (refine Try.step_cubes rfl _ _ rfl w6.heap.size w8.heap.size v7 v9 l1 l2 rfl rfl hown7' hown9 hl1 hl2 (Nat.le_trans hw7.size (Nat.le_trans hw8.size hw9.size)) ?_; intro v10 w10 hown10 hgr10))
          have hb9 := below_step (below_step (below_step (below_step hbd hw6) hw7) hw8) hw9
          have hb10 : Below w.heap.size w w10 := hb9.grown hgr10 hb9.size (fun j e => by have := hrow7.out j e; omega)
          have HF : Hid (MinusR 24 cs w (.returned v10) w10) := ⟨v10, rfl, by
            rw [HX.out]
            have hbase : w.heap.size ≤ w6.heap.size := by have := hw6.size; simp at this; omega
            have := owns_base hown10 hbase
            first | exact this | (rw [List.length_append]; exact this)⟩
          clear hown10 hgr10 hown7 hown7' hown9 hw6 hw7 hw8 hw9 hR6 hR7 hR8 hk0 hk1 hk2 hs1 hs2 ih1 ih2 hbd hCd hRd hC2 hR2 hb2 hb9 hrow7
          go_wp2
          go_ret
          exact ⟨HF.out, hb10⟩
theorem Try.rcover_any (n G : Nat) (bs : List Bool) (hn : n ≤ 8) (hl : bs.length = 256) : ∀ (f p a b : Nat) (w : World), p + f = n → a < 256 → b < 256 → Says p (a, b) → BRow w G 4 bs →
    Calls Try.prog 49 #[.int .i64 (n : Int), .int .i64 (p : Int), .agg #[.int .u8 (a : Int), .int .u8 (b : Int)], .slice (some ⟨G, 0, none⟩) 256 256] w fun e w' => MinusR 24 (coverF n (innB bs) f p (a, b)) w e w' ∧ Below w.heap.size w w' := by
  intro f
  induction f with
  | zero =>
    intro p a b w hp ha hb hsay hR
    obtain rfl : p = n := by omega
    have hone : lenC p (a, b) = 1 := hsay.one hn
    have hle := amC_le p (a, b) (innB bs)
    exact Try.rcover_step p G p a b bs _ w hn ha hb hl (hsay.ofN (Nat.le_refl p)) hR hn (fun h => coverF_none h) (fun h h' => coverF_all h h') (fun h h' => absurd (by omega) h')
  | succ f ih =>
    intro p a b w hp ha hb hsay hR
    refine Try.rcover_step n G p a b bs _ w hn ha hb hl (hsay.ofN (by omega)) hR (by omega) (fun h => coverF_none h) (fun h h' => coverF_all h h') (fun h h' => ⟨by omega, coverF n (innB bs) f (p + 1) (sayC (a, b) p false), coverF n (innB bs) f (p + 1) (sayC (a, b) p true), coverF_on h h', Nat.le_trans (coverF_len _ f (p + 1) _) (pow_100k (by omega)), Nat.le_trans (coverF_len _ f (p + 1) _) (pow_100k (by omega)), fun w hR => ?_, fun w hR => ?_⟩)
    · have hok := say_ok (a := (a, b)) ⟨ha, hb⟩ (show p < 8 by omega) false
      exact ih (p + 1) _ _ w (by omega) hok.1 hok.2 (hsay.next false) hR
    · have hok := say_ok (a := (a, b)) ⟨ha, hb⟩ (show p < 8 by omega) true
      exact ih (p + 1) _ _ w (by omega) hok.1 hok.2 (hsay.next true) hR
end Go.Proofs.Ytnaalbcbmhpfjaa
