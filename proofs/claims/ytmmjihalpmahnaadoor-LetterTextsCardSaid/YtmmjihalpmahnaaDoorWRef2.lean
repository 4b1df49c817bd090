/- The document's Parse and PrintTrace. -/
import Derived.Test.YtmmjihalpmahnaaDoorWRef
namespace Go.Proofs.YtmmjihalpmahnaaDoor
open Go.RowKit Go.Maps

theorem parseE_hit {ss : List ByteArray} {s : ByteArray} {k : Nat} (hz : checkE (nms ss) = 0) (hk : k < 2 ^ ss.length) (h : (textB k ss).toList = s.toList) : parseE (nms ss) s.toList = ((k : Int), 0) := by
  have h8 := checkE_len hz
  rw [nms_len] at h8
  unfold parseE; rw [if_pos hz, ← h, textB_L k ss h8, read_text hz (by rw [nms_len]; exact hk)]
theorem parseE_miss {ss : List ByteArray} {s : ByteArray} (hz : checkE (nms ss) = 0) (h : ∀ k : Nat, k < 2 ^ ss.length → (textB k ss).toList ≠ s.toList) : parseE (nms ss) s.toList = (0, 110) := by
  have h8 := checkE_len hz
  rw [nms_len] at h8
  unfold parseE; rw [if_pos hz]
  cases hr : readL (nms ss) s.toList with
  | none => rfl
  | some l =>
    obtain ⟨y, _, hy, ht⟩ := text_read hz hr
    rw [nms_len] at hy
    exact absurd (by rw [textB_L y ss h8]; exact ht) (h y hy)

set_option maxRecDepth 100000 in
set_option maxHeartbeats 1000000 in
theorem Tryd.rparse_any (a : Option Addr) (len cap : Nat) (ad : Nat → Addr) (ss : List ByteArray) (s : ByteArray) (w : World) (hS : StrSl Tryd.prog 22 w a len cap ad ss) :
    Calls Tryd.prog 13 #[.slice a len cap, .string s] w fun e w' => ParseR (parseE (nms ss) s.toList) e ∧ Below w.heap.size w w' := by
  have hck0 := Tryd.rcheck_any a len cap ad ss w hS
  by_cases hz : checkE (nms ss) = 0
  · have hck : Calls Tryd.prog 33 #[.slice a len cap] w fun e w' => e = .returned (.int .i64 0) ∧ Below w.heap.size w w' := hck0.mono fun e w' ⟨he, hb⟩ => ⟨by rw [he, hz], drew_below hb⟩
    have HL : Hid (ss.length = len) := hS.hlen
    have h8 : len ≤ 8 := by have := checkE_len hz; rw [nms_len, HL.out] at this; exact this
    have hbd := powN_bd (n := (len : Int)) (by omega) (by omega)
    have hral := fun W => Tryd.rall_any (len : Int) W (by omega) (by omega)
    have HH : Hid (∀ k : Nat, k < powN len → (textB k ss).toList = s.toList → parseE (nms ss) s.toList = ((k : Int), 0)) := fun k hk h => parseE_hit hz (by unfold powN at hk; rw [Int.toNat_natCast] at hk; rw [HL.out]; exact hk) h
    have HM : Hid ((∀ k : Nat, k < powN len → (textB k ss).toList ≠ s.toList) → parseE (nms ss) s.toList = (0, 110)) := fun h => parseE_miss hz (fun k hk => h k (by unfold powN; rw [Int.toNat_natCast]; rw [HL.out] at hk; exact hk))
    have htx := fun W (hW : Below w.heap.size w W) (k : Nat) (hk : k < 256) => Tryd.rtext_any a len cap ad ss k W (hS.up hW) hz (by omega) (by omega)
    clear hz hck0
    generalize powN (len : Int) = M at *
    go_enter Tryd.func13, Tryd.ntmps13
    go_wp2_with fail
    refine hck.mono ?_
    rintro e w1 ⟨rfl, hb1⟩
    go_wp2_with fail
    refine (hral w1).mono ?_
    rintro e w2 ⟨a9, c9, rfl, hI, hb2⟩
    have hB2 : Below w.heap.size w w2 := hb1.trans (hb2.mono hb1.size)
    clear hral hck hb1 hb2
    have hidx := fun (k : Nat) (w : World) (h : k < M) => hI.idx M k w h (Nat.le_refl _)
    have hcell : ∀ k : Nat, k < M → w2.cell? (adOf a9 k) = some (.int .u8 (k : Int)) := fun k hk => by
      rw [hI.cell k hk]; simp [allN, List.getD_eq_getElem?_getD, hk]
    have hib := hI.bd
    have hic := hI.hcap
    unfold maxLen at hib
    clear hI
    go_wp2
    go_loop [8] (fun i => ∃ k : Nat, k ≤ M ∧ i = .int .i64 k ∧ Hid (∀ j : Nat, j < k → (textB j ss).toList ≠ s.toList)) (fun i => M - (intOf i).toNat)
    case atStart => exact ⟨0, Nat.zero_le _, rfl, fun j hj => absurd hj (by omega)⟩
    case round =>
      obtain ⟨k, hk, rfl, HU⟩ := hrel
      by_cases hlt : k < M
      · have hck := hcell k hlt
        have htk := htx w2 hB2 k (by omega)
        have HH2 : Hid _ := HH.out k hlt
        have HN : (textB k ss).toList ≠ s.toList → Hid (∀ j : Nat, j < k + 1 → (textB j ss).toList ≠ s.toList) := fun h j hj => by
          by_cases e : j = k
          · subst e; exact h
          · exact HU.out j (by omega)
        clear hcell htx
        generalize textB (k : Int) ss = tx at *
        rcases Bool.eq_false_or_eq_true (tx.toList == s.toList) with ht | ht
        · have HX : Hid _ := HH2.out (by simpa using ht)
          go_wp2_with (go_at_call 35; refine htk.mono ?_; rintro e w' ⟨rfl, rfl⟩)
          go_ret2
          exact ⟨by unfold ParseR; rw [HX.out]; rfl, hB2⟩
        · have HN2 := HN (by simpa using ht)
          go_wp2_with (go_at_call 35; refine htk.mono ?_; rintro e w' ⟨rfl, rfl⟩)
          go_round
          case rel => exact ⟨k + 1, by omega, by go_num, HN2⟩
          case measure => simp [intOf]; omega
      · have HX : Hid _ := HM.out (fun j hj => HU.out j (by omega))
        clear hcell htx
        go_wp2
        go_ret2
        exact ⟨by unfold ParseR; rw [HX.out]; rfl, hB2⟩
  · have HX : Hid (parseE (nms ss) s.toList = (0, checkE (nms ss))) := by show _ = _; unfold parseE; rw [if_neg hz]
    have hz' : (checkE (nms ss) != 0) = true := by simpa using hz
    have hck : Calls Tryd.prog 33 #[.slice a len cap] w fun e w' => e = .returned (.int .i64 (checkE (nms ss))) ∧ Below w.heap.size w w' := hck0.mono fun e w' ⟨he, hb⟩ => ⟨he, drew_below hb⟩
    clear hz hck0
    go_enter Tryd.func13, Tryd.ntmps13
    go_wp2_with fail
    refine hck.mono ?_
    rintro e w1 ⟨rfl, hb1⟩
    go_wp2
    go_ret2
    exact ⟨by unfold ParseR; rw [HX.out]; rfl, hb1⟩

/-! ### PrintTrace -/
def txts (zs : List Int) (ss : List ByteArray) (k : Nat) : List ByteArray := (zs.take k).map (fun z => textB z ss)
theorem txts_succ {zs : List Int} {ss : List ByteArray} {k : Nat} (h : k < zs.length) : txts zs ss (k + 1) = txts zs ss k ++ [textB (zs.getD k 0) ss] := by
  unfold txts; rw [take_snoc_int h, List.map_append]; rfl
theorem txts_end (zs : List Int) (ss : List ByteArray) : jB 59 (txts zs ss zs.length) = traceB zs ss := by unfold txts; rw [List.take_length]; rfl
theorem jB_app_size (c : UInt8) (xs ys : List ByteArray) : (jB c xs).size ≤ (jB c (xs ++ ys)).size := by
  induction ys generalizing xs with
  | nil => simp
  | cons y r ih =>
    have h := ih (xs ++ [y])
    rw [List.append_assoc, List.singleton_append] at h
    refine Nat.le_trans ?_ h
    by_cases hx : xs = []
    · subst hx; rw [jB_nil]; exact Nat.zero_le _
    · rw [jB_more c y hx, ByteArray.size_append, ByteArray.size_append]; omega
theorem txts_le (zs : List Int) (ss : List ByteArray) (k : Nat) : (jB 59 (txts zs ss k)).size ≤ (traceB zs ss).size := by
  have h := jB_app_size 59 (txts zs ss k) ((zs.drop k).map (fun z => textB z ss))
  have e : txts zs ss k ++ (zs.drop k).map (fun z => textB z ss) = txts zs ss zs.length := by
    unfold txts; rw [← List.map_append, List.take_append_drop, List.take_length]
  rwa [e, txts_end] at h

set_option maxRecDepth 100000 in
set_option maxHeartbeats 1600000 in
theorem Tryd.rprintT_any (a : Option Addr) (len cap : Nat) (ad : Nat → Addr) (ss : List ByteArray) (ta : Option Addr) (tlen tcap : Nat) (zs : List Int) (w : World) (hS : StrSl Tryd.prog 22 w a len cap ad ss)
    (hT : IntSl Tryd.prog 24 .u8 w ta tlen tcap zs) (hv : ∀ z ∈ zs, 0 ≤ z ∧ z < 256) :
    Calls Tryd.prog 15 #[.slice a len cap, .slice ta tlen tcap] w fun e w' => PrintR (printTB zs ss) e ∧ Below w.heap.size w w' := by
  have hck0 := Tryd.rcheck_any a len cap ad ss w hS
  by_cases hz : checkE (nms ss) = 0
  · have hck : Calls Tryd.prog 33 #[.slice a len cap] w fun e w' => e = .returned (.int .i64 0) ∧ Below w.heap.size w w' := hck0.mono fun e w' ⟨he, hb⟩ => ⟨by rw [he, hz], drew_below hb⟩
    have HSL : Hid (ss.length = len) := hS.hlen
    have h8 : len ≤ 8 := by have := checkE_len hz; rw [nms_len, HSL.out] at this; exact this
    have hsz := names_size hz
    have HX : Hid (printTB zs ss = if traceE len zs = 0 then (if 4096 < (traceB zs ss).size then (⟨#[]⟩, 3) else (traceB zs ss, 0)) else (⟨#[]⟩, traceE len zs)) := by show _ = _; unfold printTB; rw [if_pos hz, hS.hlen]
    have htx := fun W (hW : Below w.heap.size w W) (l : Int) (h0 : 0 ≤ l) (h1 : l < 256) => Tryd.rtext_any a len cap ad ss l W (hS.up hW) hz h0 h1
    have htr0 : ∀ W, Below w.heap.size w W → Calls Tryd.prog 20 #[.int .i64 len, .slice ta tlen tcap] W fun e w' => e = .returned (.int .i64 (traceE len zs)) ∧ W = w' := fun W hW => (Tryd.rtrace_any len ta tlen tcap zs W (hT.up hW) hv).mono fun e w' ⟨he, hw⟩ => ⟨he, hw.symm⟩
    clear hz hck0
    by_cases hf : traceE len zs = 0
    · rw [hf] at htr0
      have hlong := traceE_len hf
      have HL : Hid (zs.length = tlen) := hT.hlen
      rw [HL.out] at hlong
      have HX2 : Hid (printTB zs ss = if 4096 < (traceB zs ss).size then (⟨#[]⟩, 3) else (traceB zs ss, 0)) := by show _ = _; rw [HX.out, if_pos hf]
      have hidx := fun (k : Nat) (w : World) (h : k < tlen) => hT.idx tlen k w h (Nat.le_refl _)
      clear hf HX
      go_enter Tryd.func15, Tryd.ntmps15
      go_wp2_with fail
      refine hck.mono ?_
      rintro e w1 ⟨rfl, hb1⟩
      go_wp2_with fail
      refine (htr0 w1 hb1).mono ?_
      rintro e w1' ⟨rfl, rfl⟩
      clear htr0 hck
      have hcell := (hT.up hb1).cell
      go_wp2
      go_loop [7, 8] (fun t i => ∃ k : Nat, k ≤ tlen ∧ i = .int .i64 k ∧ t = .string (jB 59 (txts zs ss k))) (fun _ i => tlen - (intOf i).toNat)
      case atStart => exact ⟨0, Nat.zero_le _, rfl, rfl⟩
      case round =>
        obtain ⟨k, hk, rfl, rfl⟩ := hrel
        have hbnd : (jB 59 (txts zs ss k)).size ≤ 1024 * 169 := by
          have h1 := jB_size 59 168 (txts zs ss k) (fun x hx => by
            unfold txts at hx
            obtain ⟨z, _, rfl⟩ := List.mem_map.1 hx
            exact textB_size (by rw [HSL.out]; exact h8) hsz)
          have h2 : (txts zs ss k).length ≤ 1024 := by unfold txts; simp; omega
          have h3 : (txts zs ss k).length * (168 + 1) ≤ 1024 * 169 := Nat.mul_le_mul h2 (by decide)
          omega
        by_cases h4 : 4096 < (jB 59 (txts zs ss k)).size
        · have HX3 : Hid (printTB zs ss = (⟨#[]⟩, 3)) := by show _ = _; rw [HX2.out, if_pos (Nat.lt_of_lt_of_le h4 (txts_le zs ss k))]
          clear hcell
          generalize jB 59 (txts zs ss k) = t at *
          have h4' : decide ((t.size : Int) ≤ 4096) = false := decide_eq_false (by omega)
          by_cases hlt : k < tlen
          · go_wp2
            go_ret2
            exact ⟨by unfold PrintR; rw [HX3.out]; rfl, hb1⟩
          · go_wp2
            go_ret2
            exact ⟨by unfold PrintR; rw [HX3.out]; rfl, hb1⟩
        · by_cases hlt : k < tlen
          · have hck := hcell k hlt
            have hvx := hv (zs.getD k 0) (by rw [List.getD_eq_getElem?_getD, List.getElem?_eq_getElem (by rw [HL.out]; exact hlt)]; exact List.getElem_mem _)
            have htk := htx w1 hb1 (zs.getD k 0) hvx.1 hvx.2
            have HS : Hid (txts zs ss (k + 1) = txts zs ss k ++ [textB (zs.getD k 0) ss]) := txts_succ (by rw [HL.out]; exact hlt)
            have hts : (textB (zs.getD k 0) ss).size ≤ 168 := textB_size (by rw [HSL.out]; exact h8) hsz
            clear hcell htx
            generalize zs.getD k 0 = x at *
            by_cases hk0 : k = 0
            · have hkz : k ≤ 0 := by omega
              have HE : Hid (jB 59 (txts zs ss (k + 1)) = textB x ss) := by show _ = _; rw [HS.out, hk0]; unfold txts; rw [List.take_zero, List.map_nil, List.nil_append, jB_first]
              have ht0 : jB 59 (txts zs ss k) = ⟨#[]⟩ := by rw [hk0]; unfold txts; rw [List.take_zero, List.map_nil, jB_nil]
              rw [ht0] at h4 hbnd ⊢
              clear ht0 hk0
              generalize textB x ss = tx at *
              go_wp2_with (go_at_call 35; refine htk.mono ?_; rintro e w' ⟨rfl, rfl⟩)
              go_round
              case rel => exact ⟨k + 1, by omega, by go_num, by rw [HE.out]; first | rfl | simp⟩
              case measure => simp [intOf]; omega
            · have HE : Hid (jB 59 (txts zs ss (k + 1)) = (jB 59 (txts zs ss k) ++ ⟨#[59]⟩) ++ textB x ss) := by
                show _ = _
                rw [HS.out, jB_more 59 _ (by
                  intro e
                  have hl2 : (txts zs ss k).length = k := by unfold txts; rw [List.length_map, List.length_take, HL.out]; omega
                  rw [e] at hl2; simp at hl2; omega)]
              generalize textB x ss = tx at *
              generalize jB 59 (txts zs ss k) = t at *
              go_wp2_with (go_at_call 35; refine htk.mono ?_; rintro e w' ⟨rfl, rfl⟩)
              go_round
              case rel => exact ⟨k + 1, by omega, by go_num, by rw [HE.out]⟩
              case measure => simp [intOf]; omega
          · obtain rfl : tlen = k := by omega
            have HE : Hid (traceB zs ss = jB 59 (txts zs ss tlen)) := by show _ = _; rw [← txts_end, HL.out]
            have HX3 : Hid (printTB zs ss = (jB 59 (txts zs ss tlen), 0)) := by show _ = _; rw [HX2.out, HE.out, if_neg h4]
            clear hcell
            generalize jB 59 (txts zs ss tlen) = t at *
            go_wp2
            go_ret2
            exact ⟨by unfold PrintR; rw [HX3.out]; rfl, hb1⟩
    · have HX2 : Hid (printTB zs ss = (⟨#[]⟩, traceE len zs)) := by show _ = _; rw [HX.out, if_neg hf]
      have hf' : (traceE len zs != 0) = true := by simpa using hf
      clear hf HX htx
      go_enter Tryd.func15, Tryd.ntmps15
      go_wp2_with fail
      refine hck.mono ?_
      rintro e w1 ⟨rfl, hb1⟩
      go_wp2_with fail
      refine (htr0 w1 hb1).mono ?_
      rintro e w1' ⟨rfl, rfl⟩
      go_wp2
      go_ret2
      exact ⟨by unfold PrintR; rw [HX2.out]; rfl, hb1⟩
  · have HX : Hid (printTB zs ss = (⟨#[]⟩, checkE (nms ss))) := by show _ = _; unfold printTB; rw [if_neg hz]
    have hz' : (checkE (nms ss) != 0) = true := by simpa using hz
    have hck : Calls Tryd.prog 33 #[.slice a len cap] w fun e w' => e = .returned (.int .i64 (checkE (nms ss))) ∧ Below w.heap.size w w' := hck0.mono fun e w' ⟨he, hb⟩ => ⟨he, drew_below hb⟩
    clear hz hck0
    go_enter Tryd.func15, Tryd.ntmps15
    go_wp2_with fail
    refine hck.mono ?_
    rintro e w1 ⟨rfl, hb1⟩
    go_wp2
    go_ret2
    exact ⟨by unfold PrintR; rw [HX.out]; rfl, hb1⟩
end Go.Proofs.YtmmjihalpmahnaaDoor
