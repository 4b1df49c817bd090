/- How many letters a cube has, and which: Count, Letters of package cube. -/
import Derived.Test.YtnaalbcbmhpfjaaWCub2
namespace Go.Proofs.Ytnaalbcbmhpfjaa
open Go.RowKit Go.Maps

theorem Try.ones_any (x : Nat) (w : World) (hx : x < 256) :
    Calls Try.prog 53 #[.int .u8 (x : Int)] w fun e w' => e = .returned (.int .i64 (Go.Lib.onesCount x : Int)) ∧ w' = w := by
  have h0 : (0 : Int) ≤ (x : Int) := by omega
  have h1 : (x : Int) ≤ 255 := by omega
  have HX : Hid (wrap64 (Go.Lib.pop8 (x : Int)) = (Go.Lib.onesCount x : Int)) := by
    have h := Go.Lib.pop8_int (x : Int) h0 h1
    rw [Int.toNat_natCast] at h
    show _ = _
    unfold wrap64
    exact h
  go_enter Try.func53, Try.ntmps53
  go_wp2
  go_ret
  exact ⟨by rw [← HX.out]; rfl, rfl⟩

def lenC (n : Nat) (c : Cu) : Nat := (lettersC n c).length
theorem lenC_le (n : Nat) (c : Cu) : lenC n c ≤ 2 ^ n := by
  unfold lenC lettersC
  exact Nat.le_trans (List.length_filter_le _ _) (by simp)
theorem pow_256 {n : Nat} (h : n ≤ 8) : 2 ^ n ≤ 256 := Nat.le_trans (Nat.pow_le_pow_right (by decide) h) (by decide)
theorem Try.cnt_any (n a b : Nat) (w : World) (hn : n ≤ 8) (ha : a < 256) (hb : b < 256) (h : ofN n (a, b) = true) :
    Calls Try.prog 45 #[.int .i64 (n : Int), .agg #[.int .u8 (a : Int), .int .u8 (b : Int)]] w fun e w' => e = .returned (.int .i64 (lenC n (a, b) : Int)) ∧ Below w.heap.size w w' := by
  have hc := count_pow (a := (a, b)) hn ⟨ha, hb⟩ h
  have hon := fun w => Try.ones_any a w ha
  have hle := Nat.le_trans (lenC_le n (a, b)) (pow_256 hn)
  have hle2 := hc.1
  have HX : Hid (lenC n (a, b) = 2 ^ (n - Go.Lib.onesCount a)) := hc.2
  clear hc h
  dsimp only at hle2
  generalize lenC n (a, b) = L at *
  generalize Go.Lib.onesCount a = z at *
  go_enter Try.func45, Try.ntmps45
  go_wp2_with fail
  refine (hon _).mono ?_
  rintro e w' ⟨rfl, rfl⟩
  have HW : Hid (wrap64 (2 ^ (n - z)) = (L : Int)) := by
    have e : (2 : Int) ^ (n - z) = (L : Int) := by rw [HX.out]; simp
    show _ = _; rw [e]; unfold wrap64; omega
  go_wp2
  go_ret
  exact ⟨by rw [← HW.out]; rfl, below_new _ _⟩

/-- Count's answer. -/
def countV (n : Int) (c : Cu) : Int := if errC n c = 0 then (lenC n.toNat c : Int) else 0
theorem errC_zero {n : Int} {c : Cu} (h : errC n c = 0) : ∃ N : Nat, n = (N : Int) ∧ N ≤ 8 ∧ ofN N c = true := by
  unfold errC at h
  by_cases hn : 0 ≤ n ∧ n ≤ 8
  · rw [if_pos hn] at h
    obtain ⟨N, rfl⟩ := Int.eq_ofNat_of_zero_le hn.1
    refine ⟨N, rfl, by omega, ?_⟩
    cases ho : ofN N c with
    | true => rfl
    | false => rw [show ((N : Int).toNat) = N from rfl, ho] at h; simp at h
  · rw [if_neg hn] at h; cases h
theorem errC_of {N : Nat} {c : Cu} (hN : N ≤ 8) (h : ofN N c = true) : errC N c = 0 := by
  unfold errC; rw [if_pos (by omega), show ((N : Int).toNat) = N from rfl, h]; rfl
theorem Try.count_any (n : Int) (a b : Nat) (w : World) (ha : a < 256) (hb : b < 256) :
    Calls Try.prog 21 #[.int .i64 n, .agg #[.int .u8 (a : Int), .int .u8 (b : Int)]] w fun e w' => e = .returned (.tuple #[.int .i64 (countV n (a, b)), .int .i64 (errC n (a, b))]) ∧ Below w.heap.size w w' := by
  have hck := fun w => Try.check_any n a b w ha hb
  by_cases h0 : errC n (a, b) = 0
  · obtain ⟨N, rfl, hN, ho⟩ := errC_zero h0
    have hct := fun w => Try.cnt_any N a b w hN ha hb ho
    have HV : Hid (countV N (a, b) = (lenC N (a, b) : Int)) := by show _ = _; unfold countV; rw [if_pos h0]; rfl
    rw [h0] at hck ⊢
    clear h0
    generalize lenC N (a, b) = L at *
    go_enter Try.func21, Try.ntmps21
    go_wp2_with fail
    refine (hck _).mono ?_
    rintro e w1 ⟨rfl, hw1⟩
    have hB := (Blk.new w 24 a b).up hw1
    have hb1 := below_step (below_new _ _) hw1
    have h00 := hB.c0
    have h01 := hB.c1
    go_wp2_with fail
    refine (hct _).mono ?_
    rintro e w2 ⟨rfl, hw2⟩
    go_wp2
    go_ret2
    exact ⟨by rw [HV.out]; rfl, below_step hb1 hw2⟩
  · have HV : Hid (countV n (a, b) = 0) := by show _ = _; unfold countV; rw [if_neg h0]
    have hne : (errC n (a, b) != 0) = true := by simpa using h0
    clear h0
    generalize errC n (a, b) = E at *
    go_enter Try.func21, Try.ntmps21
    go_wp2_with fail
    refine (hck _).mono ?_
    rintro e w1 ⟨rfl, hw1⟩
    go_wp2
    go_ret2
    exact ⟨by rw [HV.out]; rfl, below_step (below_new _ _) hw1⟩

/-- The letters of a cube, as numbers. -/
def lettI (n : Nat) (c : Cu) : List Int := (lettersC n c).map fun (i : Nat) => (i : Int)
def letTo (c : Cu) (k : Nat) : List Int := ((List.range k).filter (hasC c)).map fun (i : Nat) => (i : Int)
theorem letTo_succ (c : Cu) (k : Nat) : letTo c (k + 1) = letTo c k ++ (if hasC c k then [(k : Int)] else []) := by
  unfold letTo; rw [List.range_succ, List.filter_append, List.map_append]
  cases h : hasC c k <;> simp [h]
theorem letTo_end (n : Nat) (c : Cu) : letTo c (2 ^ n) = lettI n c := rfl
theorem letTo_len_mono (c : Cu) {j k : Nat} (h : j ≤ k) : (letTo c j).length ≤ (letTo c k).length := by
  unfold letTo
  simp only [List.length_map]
  obtain ⟨d, rfl⟩ := Nat.exists_eq_add_of_le h
  rw [List.range_add, List.filter_append, List.length_append]; omega
theorem lettI_len (n : Nat) (c : Cu) : (lettI n c).length = lenC n c := by simp [lettI, lenC]
theorem lettI_val {n : Nat} {c : Cu} (hn : n ≤ 8) : ∀ z ∈ lettI n c, 0 ≤ z ∧ z < 256 := by
  intro z hz
  unfold lettI at hz
  obtain ⟨i, hi, rfl⟩ := List.mem_map.1 hz
  have := (mem_letters.1 hi).1
  have := pow_256 hn
  omega
/-- One letter more behind a list of the call's own, with room. -/
theorem Try.append_room {w : World} {ops : Array Oper} {rest : List Oper} {o : Oper} {a : Act} {Q : Exit → Act → World → Prop} (hgd : o.guard = none) (s x : Operand)
    (ho : o.op = .call { callee := .builtin .append, args := #[s, x], argTypes := #[36, 36] }) (base : Nat)
    (g k cap : Nat) (zs : List Int) (hs : a.eval s = .slice (some ⟨g, 0, none⟩) k cap) (hown : w.ownsRow base 22 1 (.slice (some ⟨g, 0, none⟩) k cap) k (zs.map (Value.int .u8))) (g' : Nat) (z : Int) (hx : a.eval x = .slice (some ⟨g', 0, none⟩) 1 1) (hc : w.cell? ⟨g', 0, none⟩ = some (.int .u8 z))
    (hk : k + 1 ≤ cap)
    (h : ∀ w', w'.ownsRow base 22 1 (.slice (some ⟨g, 0, none⟩) (k + 1) cap) (k + 1) ((zs ++ [z]).map (Value.int .u8)) → w.grownBy w' (some g) → wpList Try.prog ops Q rest (a.put o.dst (.slice (some ⟨g, 0, none⟩) (k + 1) cap)) w') : wpList Try.prog ops Q (o :: rest) a w := by
  obtain ⟨i, hi, hz0, hz1, hz2⟩ := info_parts Try.infoLet
  refine wpList_append_fits w hgd s x 36 ho base 22 i 1 Try.underlying36 hi hz1 g k cap _ hs hown ⟨g', 0, none⟩ 1 1 [.int .u8 z] hx rfl ?_ (ints_oneCell .u8 [z]) hk ?_
  · intro j u hj
    match j with
    | 0 => simp at hj; rw [← hj, add_plain]; exact hc
    | j + 1 => simp at hj
  · intro w' h1 h2
    exact h w' (by rw [List.map_append]; exact h1) h2
/-- A list that fills its row. -/
theorem own_full {w : World} {base e g n : Nat} {zs : List Int} (h : w.ownsRow base e 1 (.slice (some ⟨g, 0, none⟩) n n) n (zs.map (Value.int .u8))) : RowAt w e g zs ∧ base ≤ g := by
  rcases h.2 with ⟨h0, _⟩ | ⟨g', cap, cur, hv, hg, hcell, hnc, hcm, hsz, htk⟩
  · cases h0
  · injection hv with e1 e2 e3
    injection e1 with e1
    injection e1 with e1 _
    subst e1 e3
    refine ⟨?_, hg⟩
    unfold RowAt enc8
    rw [hcell, ← htk, List.take_of_length_le (by simp [hsz])]

/-- Letters' answer. -/
def LettersR (T : TypeId) (n : Int) (c : Cu) (w : World) (e : Ending) (w' : World) : Prop :=
  (errC n c = 0 ∧ ∃ g, e = .returned (.tuple #[.slice (some ⟨g, 0, none⟩) (lenC n.toNat c) (lenC n.toNat c), .int .i64 0]) ∧ RowAt w' T g (lettI n.toNat c) ∧ w.heap.size ≤ g) ∨ (errC n c ≠ 0 ∧ e = .returned (.tuple #[.slice none 0 0, .int .i64 (errC n c)]))
set_option maxHeartbeats 1000000 in
theorem Try.letters_any (n : Int) (a b : Nat) (w : World) (ha : a < 256) (hb : b < 256) :
    Calls Try.prog 22 #[.int .i64 n, .agg #[.int .u8 (a : Int), .int .u8 (b : Int)]] w fun e w' => LettersR 22 n (a, b) w e w' ∧ Below w.heap.size w w' := by
  have hck := fun w => Try.check_any n a b w ha hb
  by_cases h0 : errC n (a, b) = 0
  · obtain ⟨N, rfl, hN, ho⟩ := errC_zero h0
    have hct := fun w => Try.cnt_any N a b w hN ha hb ho
    have hal := fun w => Try.all_any (N : Int) w (by omega) (by omega)
    have HP : Hid (powN (N : Int) = 2 ^ N) := rfl
    have hp := powN_bd (n := (N : Int)) (by omega) (by omega)
    have HL : Hid _ := lettI_len N (a, b)
    have HR : Hid (∀ e w', (∃ g, e = .returned (.tuple #[.slice (some ⟨g, 0, none⟩) (lenC N (a, b)) (lenC N (a, b)), .int .i64 0]) ∧ RowAt w' 22 g (lettI N (a, b)) ∧ w.heap.size ≤ g) → LettersR 22 N (a, b) w e w') := fun e w' h => Or.inl ⟨h0, h⟩
    have hle : lenC N (a, b) ≤ 256 := Nat.le_trans (lenC_le N (a, b)) (pow_256 hN)
    have hmk := fun w => Try.makeLet 0 (lenC N (a, b)) 0 (lenC N (a, b) : Int) rfl rfl (Nat.zero_le _) (by omega) w
    rw [h0] at hck
    clear h0 ho
    generalize hLL : lenC N (a, b) = L at *
    generalize powN (N : Int) = M at *
    go_enter Try.func22, Try.ntmps22
    go_wp2_with fail
    refine (hck _).mono ?_
    rintro e w1 ⟨rfl, hw1⟩
    have hB := (Blk.new w 24 a b).up hw1
    have hb1 := below_step (below_new _ _) hw1
    clear hw1 hck
    have h00 := hB.c0
    have h01 := hB.c1
    go_wp2_with fail
    refine (hct _).mono ?_
    rintro e w2 ⟨rfl, hw2⟩
    have hB2 := hB.up hw2
    have hb2 := below_step hb1 hw2
    clear hw2 hB hb1 h00 h01 hct
    go_wp2_with fail
    refine (hal _).mono ?_
    rintro e w3 ⟨rfl, hrow, hw3⟩
    have hO3 : Hid (w3.ownsRow w2.heap.size 22 1 (.slice (some ⟨w2.heap.size, 0, none⟩) 0 L) 0 ((letTo (a, b) 0).map (Value.int .u8))) :=
      owns_up (World.ownsRow_made w2 (enc8 (List.replicate L 0)) L (Nat.le_refl _) (by unfold maxLen; omega) (by simp [enc8])) hw3
    have hB3 := (hB2.al (.cells (enc8 (List.replicate L 0)) 22)).up hw3
    have hb3 := below_step (below_step hb2 (below_new w2 (.cells (enc8 (List.replicate L 0)) 22))) hw3
    have hgs : w.heap.size < w2.heap.size := hB2.lt
    have hG : (w2.alloc (.cells (enc8 (List.replicate L 0)) 22)).heap.size = w2.heap.size + 1 := by simp
    rw [hG] at hrow
    clear hw3 hB2 hb2 hal hmk
    simp only [hG]
    clear hG
    have HLE : Hid (letTo (a, b) M = lettI N (a, b)) := by rw [HP.out]; rfl
    have hidx := fun (k : Nat) (w : World) (h : k < M) => idx_of (P := Try.prog) (T := 36) (e := 22) Try.underlying36 Try.sizeLet (a := some ⟨w2.heap.size + 1, 0, none⟩) (cap := M) (n := M) (by simp) k w h
    have had : ∀ k, adOf (some ⟨w2.heap.size + 1, 0, none⟩) k = ⟨w2.heap.size + 1, k, none⟩ := fun k => by simp [adOf, add_plain]
    simp only [had] at hidx
    clear had
    go_wp2
    go_loopw [7, 23] (fun v i wr => ∃ k : Nat, k ≤ M ∧ i = .int .i64 k ∧ (∃ m : Nat, v = .slice (some ⟨w2.heap.size, 0, none⟩) m L ∧ m ≤ L ∧ Hid (m = (letTo (a, b) k).length) ∧ Hid (wr.ownsRow w2.heap.size 22 1 (.slice (some ⟨w2.heap.size, 0, none⟩) m L) m ((letTo (a, b) k).map (Value.int .u8)))) ∧ RowAt wr 22 (w2.heap.size + 1) (allN M) ∧ Blk wr w.heap.size 24 a b ∧ Below w.heap.size w wr) (fun _ i _ => M - (intOf i).toNat)
    case atStart => exact ⟨0, Nat.zero_le _, rfl, ⟨0, rfl, Nat.zero_le _, rfl, hO3⟩, hrow, hB3, hb3⟩
    case round =>
      obtain ⟨k, hk, rfl, ⟨m, rfl, hm, HM, HO⟩, hrw, hB, hbw⟩ := hrel
      clear hrow hB3 hb3 hO3
      by_cases hlt : k < M
      · have hck := hrw.cell (i := k) (by rw [allN_len]; exact hlt)
        rw [show (allN M).getD k 0 = (k : Int) by simp [allN, List.getD_eq_getElem?_getD, hlt]] at hck
        have hh := fun w => Try.has_any a b k w ha hb (by omega)
        have HSC : Hid _ := letTo_succ (a, b) k
        have HMO : Hid ((letTo (a, b) (k + 1)).length ≤ L) := by
          show _ ≤ _; rw [← hLL, ← lettI_len, ← HLE.out]; exact letTo_len_mono (a, b) (by omega)
        have h00 := hB.c0
        have h01 := hB.c1
        generalize hasC (a, b) k = p at *
        go_wp2_with fail
        refine (hh _).mono ?_
        rintro e w4 ⟨rfl, hw4⟩
        have hB4 := hB.up hw4
        have hrw4 := hrw.up hw4
        have HO4 : Hid _ := owns_up HO.out hw4
        have hb4 := below_step hbw hw4
        have hs4 : w2.heap.size < w4.heap.size := by have := hrw4.lt; omega
        clear hw4 hB hrw HO hbw h00 h01 hck hh
        cases p with
        | false =>
          have HT : Hid (letTo (a, b) (k + 1) = letTo (a, b) k) := by show _ = _; rw [HSC.out]; simp
          go_wp2
          go_roundw
          case rel => exact ⟨k + 1, by omega, by go_num, ⟨m, rfl, hm, by rw [HT.out]; exact HM, by rw [HT.out]; exact HO4⟩, hrw4, hB4, hb4⟩
          case measure => simp [intOf]; omega
        | true =>
          have HT : Hid (letTo (a, b) (k + 1) = letTo (a, b) k ++ [(k : Int)]) := by show _ = _; rw [HSC.out]; simp
          have HTL : Hid (m + 1 = (letTo (a, b) (k + 1)).length) := by show _ = _; rw [HT.out, HM.out]; simp
          have hroom : m + 1 ≤ L := by rw [HTL.out]; exact HMO.out
          clear HSC
          go_wp2_with (at_builtin; refine Try.append_room rfl _ _ rfl w2.heap.size w2.heap.size m L (letTo (a, b) k) rfl (World.ownsRow.alloc HO4.out _) w4.heap.size (k : Int) rfl (by simp [go_sem]) hroom ?_)
          intro w5 hown5 hgr5
          have hB5 := (hB4.al (.cells #[.int .u8 (k : Int)] 22)).grown hgr5 (by simp; omega)
          have hrw5 : RowAt w5 22 (w2.heap.size + 1) (allN M) := (hgr5.block _ (by have := hrw4.lt; simp; omega) (by simp)).trans (hrw4.up (below_new w4 _))
          have hb5 : Below w.heap.size w w5 := (hb4.alloc hb4.size _).grown hgr5 (by simp; have := hb4.size; omega) (fun j e => by injection e with e; omega)
          have HO5 : Hid (w5.ownsRow w2.heap.size 22 1 (.slice (some ⟨w2.heap.size, 0, none⟩) (m + 1) L) (m + 1) ((letTo (a, b) (k + 1)).map (Value.int .u8))) := by rw [HT.out]; show World.ownsRow _ _ _ _ _ _ _; rw [List.map_append]; exact hown5
          clear hown5 hgr5 hB4 hrw4 hb4 HO4
          go_wp2
          go_roundw
          case rel => exact ⟨k + 1, by omega, by go_num, ⟨m + 1, rfl, hroom, HTL, HO5⟩, hrw5, hB5, hb5⟩
          case measure => simp [intOf]; omega
      · obtain rfl : k = M := by omega
        have hmL : m = L := by rw [HM.out, HLE.out, lettI_len, hLL]
        subst hmL
        rw [HLE.out] at HO
        have hfull := own_full HO.out
        clear HO HM hLL
        go_wp2
        go_ret2
        refine ⟨HR.out _ _ ⟨w2.heap.size, rfl, hfull.1, by omega⟩, hbw⟩
  · have hne : (errC n (a, b) != 0) = true := by simpa using h0
    have HR : Hid (∀ e w', e = .returned (.tuple #[.slice none 0 0, .int .i64 (errC n (a, b))]) → LettersR 22 n (a, b) w e w') := fun e w' h => Or.inr ⟨h0, h⟩
    clear h0
    generalize errC n (a, b) = E at *
    go_enter Try.func22, Try.ntmps22
    go_wp2_with fail
    refine (hck _).mono ?_
    rintro e w1 ⟨rfl, hw1⟩
    go_wp2
    go_ret2
    exact ⟨HR.out _ _ rfl, below_step (below_new _ _) hw1⟩
end Go.Proofs.Ytnaalbcbmhpfjaa
