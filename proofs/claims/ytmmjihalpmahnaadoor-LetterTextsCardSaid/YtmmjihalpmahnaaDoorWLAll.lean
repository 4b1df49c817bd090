/- The law LetterAll, walked. -/
import Derived.Test.YtmmjihalpmahnaaDoorWAwake
namespace Go.Proofs.YtmmjihalpmahnaaDoor
open Go.RowKit Go.Maps

theorem or_bit (x k : Nat) (hx : x < 2 ^ k) (hk : k < 8) : bits BinOp.or IntKind.u8 (x : Int) (2 ^ k % 256) = ((x + 2 ^ k : Nat) : Int) := by
  have hp : (2 ^ k : Nat) < 256 := Nat.lt_of_lt_of_le (Nat.pow_lt_pow_right (by decide) hk) (by decide)
  have key : ∀ M : Nat, M < 256 → ((M : Int) % 256 = (M : Int)) := fun M h => by omega
  rw [pow_cast, key _ hp, u8_or_nat x (2 ^ k) (by omega) hp]
  have := Nat.two_pow_add_eq_or_of_lt hx 1
  rw [Nat.mul_one] at this
  rw [Nat.or_comm, ← this, Nat.add_comm]
theorem mod_next (i k : Nat) : i % 2 ^ (k + 1) = i % 2 ^ k + 2 ^ k * (i / 2 ^ k % 2) := by
  rw [Nat.pow_succ, Nat.mod_mul]
theorem bitB_nat (i k : Nat) (hk : k < 8) : bitB (i : Int) (k : Int) = decide (i / 2 ^ k % 2 = 1) := by
  unfold bitB
  rw [decide_eq_true (show 0 ≤ (k : Int) ∧ (k : Int) < 8 by omega), Bool.true_and, Int.toNat_natCast, pow_cast]
  have : (i : Int) / ((2 ^ k : Nat) : Int) % 2 = ((i / 2 ^ k % 2 : Nat) : Int) := by
    rw [← Int.natCast_ediv]; exact (Int.natCast_emod _ 2).symm
  rw [this]
  generalize i / 2 ^ k % 2 = q
  by_cases h : q = 1
  · subst h; rfl
  · rw [decide_eq_false h, decide_eq_false (by omega)]

theorem and_one_i64 (x : Int) (h0 : 0 ≤ x) (h1 : x < 256) : bits BinOp.and IntKind.i64 x 1 = x % 2 := by
  have := bits_mask .i64 8 (by decide) (fun n h0 h1 => by rw [IntKind.wrap_i64]; omega) 1 (by decide) x h0 (by omega)
  simpa using this
theorem int_bit (i j : Nat) (hi : i < 256) (hj : j < 8) : (bits BinOp.and IntKind.i64 ((i : Int) / 2 ^ j) 1 == 1) = bitB i j := by
  have hb := bitB_nat i j hj
  have hd : (i : Int) / ((2 ^ j : Nat) : Int) = ((i / 2 ^ j : Nat) : Int) := (Int.natCast_ediv _ _).symm
  have hle : i / 2 ^ j < 256 := Nat.lt_of_le_of_lt (Nat.div_le_self _ _) hi
  rw [hb, pow_cast, hd]
  generalize i / 2 ^ j = q at *
  rw [and_one_i64 _ (by omega) (by omega)]
  by_cases h : q % 2 = 1
  · have : ((q : Int) % 2 == 1) = true := by simp; omega
    rw [this, decide_eq_true h]
  · have : ((q : Int) % 2 == 1) = false := by simp; omega
    rw [this, decide_eq_false h]
theorem nms_append (a b : List ByteArray) : nms (a ++ b) = nms a ++ nms b := by simp [nms]
/-- Of, with the names that hold in a letter, is the letter. -/
theorem of_on (ss : List ByteArray) (i : Nat) (hnd : NDk (nms ss) ss.length) (h8 : ss.length ≤ 8) : ∀ k, k ≤ ss.length → ∀ rest, ofGo (nms ss) (nms (onB i ss k) ++ rest) 0 = ofGo (nms ss) rest ((i % 2 ^ k : Nat) : Int)
  | 0, _, rest => by simp [onB, nms, Nat.mod_one]
  | k + 1, hk, rest => by
    have hb := bitB_nat i k (by omega)
    have hm := mod_next i k
    by_cases h : i / 2 ^ k % 2 = 1
    · rw [onB_t (by rw [hb]; exact decide_eq_true h), nms_append, List.append_assoc, of_on ss i hnd h8 k (by omega)]
      have hg := nms_get (ss := ss) (k := k) (by omega)
      have hat := atI_hit hg (hnd k _ (by omega) hg)
      have e : nms [ss.getD k ByteArray.empty] ++ rest = (ss.getD k ByteArray.empty).toList :: rest := by simp [nms]
      rw [e, ofGo, hat, if_neg (by omega), Int.toNat_natCast, or_bit _ k (Nat.mod_lt _ (Nat.two_pow_pos k)) (by omega), hm, h, Nat.mul_one]
    · have h0 : i / 2 ^ k % 2 = 0 := (Nat.mod_two_eq_zero_or_one _).resolve_right h
      rw [onB_f (by rw [hb]; exact decide_eq_false h), of_on ss i hnd h8 k (by omega), hm, h0, Nat.mul_zero, Nat.add_zero]
theorem chkGo_nd : ∀ (rest seen : List Bytes), chkGo seen rest = 0 → ∀ j s, rest[j]? = some s → (seen ++ rest.take j).contains s = false
  | x :: r, seen, h, 0, s, hs => by
    simp at hs; subst hs
    unfold chkGo at h
    split at h
    · exact absurd h (by decide)
    · split at h
      · exact absurd h (by decide)
      · rename_i hc; simpa using hc
  | x :: r, seen, h, j + 1, s, hs => by
    unfold chkGo at h
    split at h
    · exact absurd h (by decide)
    · split at h
      · exact absurd h (by decide)
      · have := chkGo_nd r (seen ++ [x]) h j s (by simpa using hs)
        simpa [List.append_assoc] using this
theorem checkE_nd {ns : List Bytes} (h : checkE ns = 0) : NDk ns ns.length := by
  unfold checkE at h; split at h
  · exact absurd h (by decide)
  · intro j s _ hs
    have := chkGo_nd ns [] h j s hs
    simpa using this
theorem of_all {ss : List ByteArray} {i : Nat} (hz : checkE (nms ss) = 0) (hi : i < 2 ^ ss.length) : ofE (nms ss) (nms (onB i ss ss.length)) = ((i : Int), 0) := by
  have hnd := checkE_nd hz
  rw [nms_len] at hnd
  have h8 := checkE_len hz
  rw [nms_len] at h8
  have := of_on ss i hnd h8 ss.length (Nat.le_refl _) []
  rw [List.append_nil] at this
  unfold ofE; rw [if_pos hz, this, Nat.mod_eq_of_lt hi]; rfl
theorem fits_all {n : Int} {i : Nat} (h0 : 0 ≤ n) (h8 : n ≤ 8) (hi : i < powN n) : fitsB n (i : Int) = true := by
  rw [fitsB_t h0 h8]
  unfold powN at hi
  rw [pow_cast, ← Int.natCast_ediv, Nat.div_eq_of_lt hi]; rfl

theorem ownsRow_strSl {P : Program} {T e : TypeId} {w : World} {base n : Nat} {v : Value} {xs : List ByteArray} (h : w.ownsRow base e 1 v n (xs.map Value.string)) (hu : P.underlying T = some (.slice e)) (hs : (P.info? e).map (·.size) = some 1) (hz : ∀ x ∈ xs, x.size ≤ maxLen) :
    ∃ a cap, v = .slice a n cap ∧ StrSl P T w a n cap (adOf a) xs := by
  obtain ⟨hl, h⟩ := h
  simp at hl
  have hsz : ∀ k, (xs.getD k ByteArray.empty).size ≤ maxLen := fun k => by
    by_cases hk : k < xs.length
    · rw [List.getD_eq_getElem?_getD, List.getElem?_eq_getElem hk]; exact hz _ (List.getElem_mem hk)
    · rw [List.getD_eq_getElem?_getD, List.getElem?_eq_none (by omega)]; simp [maxLen, ByteArray.size_empty]
  rcases h with ⟨rfl, rfl⟩ | ⟨g, cap, cur, rfl, hg, hcell, hnc, hcm, hsz2, htk⟩
  · have : xs = [] := List.eq_nil_of_length_eq_zero hl
    subst this
    exact ⟨none, 0, rfl, rfl, Nat.le_refl _, Nat.zero_le _, fun n k w hk hn => absurd hk (by omega), fun k hk => absurd hk (by omega), fun k hk => absurd hk (by omega), hsz, fun _ => rfl⟩
  · have had : ∀ k, adOf (some ⟨g, 0, none⟩) k = ⟨g, k, none⟩ := fun k => by simp [adOf, add_plain]
    have hlt : g < w.heap.size := (Array.getElem?_eq_some_iff.1 hcell).1
    refine ⟨some ⟨g, 0, none⟩, cap, rfl, hl, hnc, hcm, fun m k w hk hm => idx_of hu hs (by simp) k w hk, fun k hk => ?_, fun k hk => by rw [had]; exact hlt, hsz, by simp⟩
    rw [had]
    have hk2 : (cur.toList.take (n * 1))[k]? = some (.string (xs.getD k ByteArray.empty)) := by
      rw [htk]; simp [List.getD_eq_getElem?_getD, List.getElem?_eq_getElem (show k < xs.length by omega)]
    rw [List.getElem?_take, if_pos (by omega)] at hk2
    simp [World.cell?, hcell]
    simpa using hk2

set_option maxRecDepth 100000 in
set_option maxHeartbeats 3000000 in
theorem Tryd.lall_any (a : Option Addr) (len cap : Nat) (ss : List ByteArray) (n : Int) (w : World) (hS : StrSl Tryd.prog 22 w a len cap (adOf a) ss) (hm : MaxOk w) :
    Calls Tryd.prog 5 #[.slice a len cap, .int .i64 n] w fun e w' => e = .returned (.bool true) ∧ Below w.heap.size w w' := by
  by_cases hn : 0 ≤ n ∧ n ≤ 8
  · obtain ⟨h0, h8⟩ := hn
    have hbd := powN_bd h0 h8
    have hpw := powN_wrap h0 h8
    have HF : Hid (∀ i : Nat, i < powN n → fitsB n (i : Int) = true) := fun i hi => fits_all h0 h8 hi
    go_enter Tryd.func5, Tryd.ntmps5
    go_wp2_with fail
    refine (Tryd.awake_any w hm).mono ?_
    rintro e w1 ⟨rfl, hb1⟩
    go_wp2_with fail
    refine (Tryd.all_any n w1 h0 h8).mono ?_
    rintro e w2 ⟨rfl, hrow, hb2⟩
    have hB2 : Below w.heap.size w w2 := hb1.trans (hb2.mono hb1.size)
    have hcell : ∀ i : Nat, i < powN n → w2.cell? ⟨w1.heap.size, i, none⟩ = some (.int .u8 (i : Int)) := fun i hi => by
      rw [hrow.cell (by rw [allN_len]; exact hi)]; simp [allN, List.getD_eq_getElem?_getD, hi]
    clear hrow hb1 hb2
    generalize powN n = M at *
    go_wp2
    clear hpw
    go_loop [7] (fun i => ∃ k : Nat, k ≤ M ∧ i = .int .i64 k) (fun i => M - (intOf i).toNat)
    case atStart => exact ⟨0, Nat.zero_le _, rfl⟩
    case round =>
      obtain ⟨k, hk, rfl⟩ := hrel
      by_cases hlt : k < M
      · have hck := hcell k hlt
        have hft : ∀ W, Calls Tryd.prog 26 #[.int .i64 n, .int .u8 (k : Int)] W fun e w' => e = .returned (.bool true) ∧ W = w' := fun W => (Tryd.fits_any n k W).mono fun e w' ⟨he, hw⟩ => ⟨by rw [he, HF.out k hlt], hw.symm⟩
        clear hcell
        go_wp2_with (go_at_call 26; refine (hft _).mono ?_; rintro e w1' ⟨rfl, rfl⟩)
        go_round
        case rel => exact ⟨k + 1, by omega, by go_num⟩
        case measure => simp [intOf]; omega
      · clear hcell
        go_wp2_with fail
        refine (Tryd.large_any a len cap _ ss w2 (hS.up hB2)).mono ?_
        rintro e w2' ⟨⟨b0, rfl, hb0⟩, hw⟩
        subst hw
        cases b0 with
        | true =>
          go_wp2
          go_ret
          exact ⟨rfl, hB2⟩
        | false =>
          have hS2 := hS.up hB2
          go_wp2_with fail
          refine (Tryd.check_any a len cap _ ss _ hS2).mono ?_
          rintro e w3 ⟨rfl, hb3⟩
          have hB3 := hB2.trans (hb3.mono hB2.size)
          by_cases hz : checkE (nms ss) = 0
          · have HZ : Hid (checkE (nms ss) = 0) := hz
            have hS3 := hS2.up hb3
            have h88 : len ≤ 8 := by have := checkE_len hz; rw [nms_len, hS.hlen] at this; exact this
            have HL : Hid (ss.length = len) := hS.hlen
            have hpw2 : wrap64 (2 ^ len) = ((2 ^ len : Nat) : Int) := by
              have := powN_wrap (n := (len : Int)) (by omega) (by omega)
              rwa [Int.toNat_natCast] at this
            have hlb : 2 ^ len ≤ 256 := Nat.le_trans (Nat.pow_le_pow_right (by decide) h88) (by decide)
            have HON : Hid (∀ i : Nat, i < 2 ^ len → ofE (nms ss) (nms (onB i ss len)) = ((i : Int), 0)) := fun i hi => by rw [← HL.out]; exact of_all hz (by rw [HL.out]; exact hi)
            rw [hz]
            clear hz hS2 hb3 HF
            generalize hQ : 2 ^ len = Q at *
            clear hQ
            go_wp2
            go_loopw [8] (fun i wr => ∃ i1 : Nat, i1 ≤ Q ∧ i = .int .i64 i1 ∧ Below w3.heap.size w3 wr) (fun i _ => Q - (intOf i).toNat)
            case atStart => exact ⟨0, Nat.zero_le _, rfl, Below.refl _ _⟩
            case round =>
              rename World => W0
              obtain ⟨i, hi, rfl, hbW⟩ := hrel
              by_cases hiq : i < Q
              · have hSW := hS3.up hbW
                have hidx := fun (k : Nat) (w : World) (h : k < len) => hSW.idx len k w h (Nat.le_refl _)
                have HOF : Hid _ := HON.out i hiq
                go_wp2
                go_loopw [9, 10] (fun o p wx => ∃ j : Nat, j ≤ len ∧ p = .int .i64 j ∧ wx.ownsRow W0.heap.size 9 1 o (onB i ss j).length ((onB i ss j).map Value.string) ∧ Below W0.heap.size W0 wx) (fun _ p _ => len - (intOf p).toNat)
                case atStart => exact ⟨0, Nat.zero_le _, rfl, ⟨by simp [onB], Or.inl ⟨rfl, rfl⟩⟩, Below.refl _ _⟩
                case round =>
                  obtain ⟨j, hj, rfl, hown, hnx⟩ := hrel
                  clear hpw2
                  have hsw := hnx.size
                  by_cases hjl : j < len
                  · have hck := (hSW.up hnx).cell j hjl
                    have hbit : Hid ((bits BinOp.and IntKind.i64 ((i : Int) / 2 ^ j) 1 == 1) = bitB i j) := int_bit i j (by omega) (by omega)
                    have hol := onB_len i ss j
                    have ht : bitB i j = true → Hid (onB i ss (j + 1) = onB i ss j ++ [ss.getD j ByteArray.empty]) := fun h => onB_t h
                    generalize ss.getD j ByteArray.empty = x at *
                    rcases Bool.eq_false_or_eq_true (bitB i j) with hb | hb
                    · have HT := ht hb
                      have hbx := hbit.out
                      rw [hb] at hbx
                      clear ht hb
                      generalize onB i ss j = xs at *
                      obtain ⟨i0, hi0, hz0, hz1, hz2⟩ := info_parts Tryd.infoStr
                      have HI : Hid (Tryd.prog.info? 9 = some i0) := hi0
                      have HZ0 : Hid (i0.zero = some (.string ByteArray.empty)) := hz0
                      have HZ1 : Hid (i0.size = 1) := hz1
                      have HZ2 : Hid (i0.bytes = 16) := hz2
                      clear hi0 hz0 hz1 hz2
                      go_wp2_with (at_builtin; refine wpList_append_own _ rfl _ _ 22 rfl W0.heap.size 9 i0 (.string ByteArray.empty) 1 16 Tryd.underlying22 HI.out HZ0.out HZ1.out HZ2.out rfl (by decide) _ xs.length _ rfl (hown.alloc _) ⟨_, 0, none⟩ 1 1 [.string x] rfl rfl (cell_one_new _ _ _) (by intro u hu; simp at hu; subst hu; rfl) (by unfold maxLen; omega) (by omega) (by simp; omega) ?_)
                      intro v' w5 hown1 hgrow1 _
                      have R1 : Hid (w5.ownsRow W0.heap.size 9 1 v' (onB i ss (j + 1)).length ((onB i ss (j + 1)).map Value.string)) := by
                        show World.ownsRow _ _ _ _ _ _ _
                        rw [HT.out, List.map_append, List.length_append]; exact hown1
                      have R2 := (hnx.alloc hsw _).grown hgrow1 (by simp; omega) (own_ge hown)
                      clear hown1 hgrow1 hown hbx
                      go_wp2
                      go_roundw
                      case rel => first | exact ⟨j + 1, by omega, by go_num, R1.out, R2⟩ | ((repeat apply Exists.intro); refine ⟨⟨j + 1, by omega, ?_, R1.out, R2⟩, rfl⟩; go_num)
                      case measure => simp [intOf]; omega
                    · have hbx := hbit.out
                      rw [hb] at hbx
                      have HR : Hid (onB i ss (j + 1) = onB i ss j) := onB_f hb
                      clear hb ht
                      go_wp2
                      go_roundw
                      case rel => exact ⟨j + 1, by omega, by go_num, by rw [HR.out]; exact hown, hnx⟩
                      case measure => simp [intOf]; omega
                  · obtain rfl : len = j := by omega
                    have hzz : ∀ x ∈ onB i ss len, x.size ≤ maxLen := fun x hx => by
                      have := onB_size (l := i) (names_size HZ.out) len x hx; unfold maxLen; omega
                    obtain ⟨a9, c9, hv, hsl⟩ := ownsRow_strSl hown Tryd.underlying22 Tryd.sizeStr hzz
                    have hof := Tryd.of_any _ _ _ _ ss _ _ _ _ (onB i ss len) _ (hSW.up hnx) hsl
                    unfold OfR at hof
                    rw [HOF.out] at hof
                    clear hsl hown hzz
                    generalize (onB i ss len).length = q at *
                    go_wp2_with fail
                    refine hof.mono ?_
                    rintro e w6 ⟨rfl, hb6⟩
                    clear hof
                    go_wp2
                    go_roundw
                    case rel => exact ⟨i + 1, by omega, by go_num, hbW.trans ((hnx.trans (hb6.mono hnx.size)).mono hbW.size)⟩
                    case measure => simp [intOf]; omega
              · go_wp2
                go_ret
                exact ⟨rfl, hB3.trans (hbW.mono hB3.size)⟩
          · have hz' : (checkE (nms ss) != 0) = true := by simpa using hz
            clear hz
            go_wp2
            go_ret
            exact ⟨rfl, hB3⟩
  · have hn' : n < 0 ∨ 8 < n := by omega
    have hal := fun W => Tryd.all_none n W hn'
    rcases hn' with h | h
    · go_enter Tryd.func5, Tryd.ntmps5
      go_wp2_with fail
      refine (Tryd.awake_any w hm).mono ?_
      rintro e w1 ⟨rfl, hb1⟩
      go_wp2_with fail
      refine (hal w1).mono ?_
      rintro e w2 ⟨rfl, rfl⟩
      go_wp2
      go_ret
      exact ⟨rfl, hb1⟩
    · have h' : ¬ n < 0 := by omega
      go_enter Tryd.func5, Tryd.ntmps5
      go_wp2_with fail
      refine (Tryd.awake_any w hm).mono ?_
      rintro e w1 ⟨rfl, hb1⟩
      go_wp2_with fail
      refine (hal w1).mono ?_
      rintro e w2 ⟨rfl, rfl⟩
      go_wp2
      go_ret
      exact ⟨rfl, hb1⟩
end Go.Proofs.YtmmjihalpmahnaaDoor
