/- What rejoinderkit.SameInts and SameToks tell. -/
import Derived.Test.YtbfhbpibpmgblaaWTk
namespace Go.Proofs.Ytbfhbpibpmgblaa
open Go.RowKit Go.Maps

/-- SameInts tells whether two lists are one. -/
theorem Try.sameI_any (a : Option Addr) (len cap : Nat) (xs : List Int) (a' : Option Addr) (len' cap' : Nat) (ys : List Int) (w : World)
    (hS : IntSl Try.prog 41 .i64 w a len cap xs) (hO : IntSl Try.prog 41 .i64 w a' len' cap' ys) :
    Calls Try.prog 22 #[.slice a len cap, .slice a' len' cap'] w fun e w' => e = .returned (.bool (decide (xs = ys))) ∧ ∃ n, w' = w.drewN n := by
  have hb0 := hS.bd
  have hb1 := hS.hcap
  have hb2 := hO.bd
  have hb3 := hO.hcap
  unfold maxLen at hb0 hb2
  by_cases hll : len = len'
  · subst hll
    have hidx := fun (k : Nat) (w : World) (h : k < len) => hS.idx len k w h (Nat.le_refl _)
    have hidx' := fun (k : Nat) (w : World) (h : k < len) => hO.idx len k w h (Nat.le_refl _)
    go_enter Try.func22, Try.ntmps22
    go_wp2
    go_loopw [5] (fun i wr => ∃ k : Nat, k ≤ len ∧ i = .int .i64 k ∧ Hid (xs.take k = ys.take k) ∧ Hid (∃ n, wr = w.drewN n)) (fun i _ => len - (intOf i).toNat)
    case atStart => exact ⟨0, Nat.zero_le _, rfl, by show _ = _; simp, 0, rfl⟩
    case round =>
      obtain ⟨k, hk, rfl, HU, hwr⟩ := hrel
      by_cases hlt : k < len
      · have hS' : IntSl Try.prog 41 .i64 wr a len cap xs := by obtain ⟨n, hn⟩ := hwr.out; rw [hn]; exact hS.drewN n
        have hO' : IntSl Try.prog 41 .i64 wr a' len cap' ys := by obtain ⟨n, hn⟩ := hwr.out; rw [hn]; exact hO.drewN n
        have hck := hS'.cell k hlt
        have hck' := hO'.cell k hlt
        have HN : Hid (xs.getD k 0 = ys.getD k 0 → xs.take (k + 1) = ys.take (k + 1)) := fun h => take_eq_next (by rw [hS.hlen]; exact hlt) (by rw [hO.hlen]; exact hlt) HU.out h
        have HM : Hid (xs.getD k 0 ≠ ys.getD k 0 → decide (xs = ys) = false) := fun h => decide_eq_false (fun e => h (by rw [e]))
        clear hS' hO'
        generalize xs.getD k 0 = x at *
        generalize ys.getD k 0 = y at *
        go_wp2
        go_quiet (fail)
        rcases Bool.eq_false_or_eq_true (x != y) with ht | ht
        · go_wp2
          go_ret
          obtain ⟨n, hn⟩ := hwr.out
          exact ⟨by rw [HM.out (by simpa using ht)]; rfl, n + nq, by rw [hn, World.drewN_drewN]⟩
        · have HN2 : Hid _ := HN.out (by simpa using ht)
          go_wp2
          go_roundw
          case rel =>
            obtain ⟨n, hn⟩ := hwr.out
            exact ⟨k + 1, by omega, by go_num, HN2, n + nq, by rw [hn, World.drewN_drewN]⟩
          case measure => simp [intOf]; omega
      · have hx : Hid (decide (xs = ys) = true) := by
          have := HU.out
          rw [List.take_of_length_le (by rw [hS.hlen]; omega), List.take_of_length_le (by rw [hO.hlen]; omega)] at this
          exact decide_eq_true this
        go_wp2
        go_ret
        exact ⟨by rw [hx.out]; rfl, hwr.out⟩
  · have hx : Hid (decide (xs = ys) = false) := decide_eq_false (fun e => hll (by rw [← hS.hlen, ← hO.hlen, e]))
    have hll' : ((len : Int) != (len' : Int)) = true := by simp; omega
    clear hll
    go_enter Try.func22, Try.ntmps22
    go_wp2
    go_ret
    exact ⟨by rw [hx.out]; rfl, 0, rfl⟩
theorem take_snocC {cs : List Tk} {k : Nat} (h : k < cs.length) : cs.take (k + 1) = cs.take k ++ [cs.getD k (0, 0)] := by
  rw [List.take_add_one, List.getElem?_eq_getElem h]; simp [List.getD_eq_getElem?_getD, List.getElem?_eq_getElem h]
theorem takeC_next {xs ys : List Tk} {k : Nat} (hx : k < xs.length) (hy : k < ys.length) (h : xs.take k = ys.take k) (he : xs.getD k (0, 0) = ys.getD k (0, 0)) : xs.take (k + 1) = ys.take (k + 1) := by
  rw [take_snocC hx, take_snocC hy, h, he]

theorem Try.fieldsTok : ∃ f0 f1, (Try.prog.fieldsOf 61).toList = [f0, f1] ∧ (f0.name = "Op" ∧ f0.type = 47 ∧ f0.offset = 0) ∧ (f1.name = "P" ∧ f1.type = 5 ∧ f1.offset = 1) := by
  have hfl : (Try.prog.fieldsOf 61).toList.map (fun f => (f.name, f.type, f.offset)) = [("Op", 47, 0), ("P", 5, 1)] := by kernel_rfl
  cases hl : (Try.prog.fieldsOf 61).toList with
  | nil => rw [hl] at hfl; simp at hfl
  | cons f0 r =>
    cases r with
    | nil => rw [hl] at hfl; simp at hfl
    | cons f1 r =>
      rw [hl] at hfl
      simp at hfl
      obtain ⟨h0, h1, rfl⟩ := hfl
      exact ⟨f0, f1, rfl, h0, h1⟩
theorem Try.eqlTok (x0 x1 y0 y1 : Nat) (w : World) : (binOp .eql 61 (.agg #[.int .u8 (x0 : Int), .int .u8 (x1 : Int)]) (.agg #[.int .u8 (y0 : Int), .int .u8 (y1 : Int)])).run Try.prog w = .ok (.bool (decide (((x0, x1) : Tk) = (y0, y1)))) w := by
  have ht : Try.prog.underlying 61 = some (.struct (Try.prog.fieldsOf 61)) := by kernel_rfl
  have hp : Try.prog.stoodInHeld 61 = false := by kernel_rfl
  rw [run_eql_struct, run_equalIn_agg _ 9999 _ _ _ ht hp]
  obtain ⟨f0, f1, hl, ⟨a1, a2, a3⟩, ⟨b1, b2, b3⟩⟩ := Try.fieldsTok
  rw [hl]
  by_cases h0 : x0 = y0
  · by_cases h1 : x1 = y1
    · simp [Op.eqFields, a1, a2, a3, b1, b2, b3, go_sem, h0, h1, run_equalIn_int _ 9998 _ _ _ _ _ Try.underlying47, run_equalIn_int _ 9998 _ _ _ _ _ Try.underlying5]
    · have h1' : ¬ (x1 : Int) = (y1 : Int) := by omega
      simp [Op.eqFields, a1, a2, a3, b1, b2, b3, go_sem, h0, h1, h1', run_equalIn_int _ 9998 _ _ _ _ _ Try.underlying47, run_equalIn_int _ 9998 _ _ _ _ _ Try.underlying5]
  · have h0' : ¬ (x0 : Int) = (y0 : Int) := by omega
    simp [Op.eqFields, a1, a2, a3, go_sem, h0, h0', run_equalIn_int _ 9998 _ _ _ _ _ Try.underlying47]
theorem Try.neqTok (x0 x1 y0 y1 : Nat) (w : World) : (binOp .neq 61 (.agg #[.int .u8 (x0 : Int), .int .u8 (x1 : Int)]) (.agg #[.int .u8 (y0 : Int), .int .u8 (y1 : Int)])).run Try.prog w = .ok (.bool (!decide (((x0, x1) : Tk) = (y0, y1)))) w := by
  have h := Try.eqlTok x0 x1 y0 y1 w
  rw [run_eql_struct] at h
  rw [run_neq_struct]
  cases hr : (Op.equalIn 10000 61 (.agg #[.int .u8 (x0 : Int), .int .u8 (x1 : Int)]) (.agg #[.int .u8 (y0 : Int), .int .u8 (y1 : Int)])).run Try.prog w with
  | ok b w1 =>
    rw [hr] at h
    simp [Result.andThen] at h ⊢
    obtain ⟨rfl, rfl⟩ := h
    exact ⟨rfl, rfl⟩
  | halt x w1 => rw [hr] at h; simp [Result.andThen] at h

set_option maxHeartbeats 800000 in
/-- Same tells whether two lists are one. -/
theorem Try.sameT_any (a : Option Addr) (len cap : Nat) (xs : List Tk) (a' : Option Addr) (len' cap' : Nat) (ys : List Tk) (w : World)
    (hS : TkSl w a len cap xs) (hO : TkSl w a' len' cap' ys) :
    Calls Try.prog 20 #[.slice a len cap, .slice a' len' cap'] w fun e w' => e = .returned (.bool (decide (xs = ys))) ∧ Below w.heap.size w w' := by
  have hb0 := hS.bd
  have hb1 := hS.hcap
  have hb2 := hO.bd
  have hb3 := hO.hcap
  unfold maxLen at hb0 hb2
  by_cases hll : len = len'
  · subst hll
    go_enter Try.func20, Try.ntmps20
    go_wp2
    go_loopw [5] (fun i wr => ∃ k : Nat, k ≤ len ∧ i = .int .i64 k ∧ Hid (xs.take k = ys.take k) ∧ Hid (Below w.heap.size w wr)) (fun i _ => len - (intOf i).toNat)
    case atStart => exact ⟨0, Nat.zero_le _, rfl, by show _ = _; simp, Below.refl _ _⟩
    case round =>
      obtain ⟨k, hk, rfl, HU, hwr⟩ := hrel
      by_cases hlt : k < len
      · obtain ⟨g1, o1, s1, hi1, hx0, hx1, _, _⟩ := (hS.up hwr.out).at Try.underlying29 Try.sizeTok k hlt
        obtain ⟨g2, o2, s2, hi2, hy0, hy1, _, _⟩ := (hO.up hwr.out).at Try.underlying29 Try.sizeTok k hlt
        have hidx := fun w' => hi1 len w' hlt
        have hidx' := fun w' => hi2 len w' hlt
        clear hi1 hi2
        have hxl : k < xs.length := by rw [hS.hlen]; exact hlt
        have hyl : k < ys.length := by rw [hO.hlen]; exact hlt
        have ex : xs[k] = xs.getD k (0, 0) := by simp [List.getD_eq_getElem?_getD, List.getElem?_eq_getElem hxl]
        have ey : ys[k] = ys.getD k (0, 0) := by simp [List.getD_eq_getElem?_getD, List.getElem?_eq_getElem hyl]
        rw [ex] at hx0 hx1
        rw [ey] at hy0 hy1
        clear ex ey
        have HN : Hid (xs.getD k (0, 0) = ys.getD k (0, 0) → xs.take (k + 1) = ys.take (k + 1)) := fun h => takeC_next (by rw [hS.hlen]; exact hlt) (by rw [hO.hlen]; exact hlt) HU.out h
        have HM : Hid (xs.getD k (0, 0) ≠ ys.getD k (0, 0) → decide (xs = ys) = false) := fun h => decide_eq_false (fun e => h (by rw [e]))
        generalize xs.getD k (0, 0) = x at *
        generalize ys.getD k (0, 0) = y at *
        obtain ⟨x0, x1⟩ := x
        obtain ⟨y0, y1⟩ := y
        have hne := Try.neqTok x0 x1 y0 y1
        have HD : Hid (∀ b, decide (((x0, x1) : Tk) = (y0, y1)) = b → b = true → ((x0, x1) : Tk) = (y0, y1)) := fun b h1 h2 => of_decide_eq_true (h1.trans h2)
        have HE : Hid (∀ b, decide (((x0, x1) : Tk) = (y0, y1)) = b → b = false → ((x0, x1) : Tk) ≠ (y0, y1)) := fun b h1 h2 => of_decide_eq_false (h1.trans h2)
        generalize hq : decide (((x0, x1) : Tk) = (y0, y1)) = q at hne
        go_wp2_with fail
        go_quiet (fail)
        cases q with
        | false =>
          have HM2 : Hid _ := HM.out (HE.out false hq rfl)
          go_wp2
          go_ret
          exact ⟨by rw [HM2.out]; rfl, below_drewN hwr.out nq⟩
        | true =>
          have HN2 : Hid _ := HN.out (HD.out true hq rfl)
          go_wp2
          go_roundw
          case rel => exact ⟨k + 1, by omega, by go_num, HN2, below_drewN hwr.out nq⟩
          case measure => simp [intOf]; omega
      · have hx : Hid (decide (xs = ys) = true) := by
          have := HU.out
          rw [List.take_of_length_le (by rw [hS.hlen]; omega), List.take_of_length_le (by rw [hO.hlen]; omega)] at this
          exact decide_eq_true this
        go_wp2
        go_ret
        exact ⟨by rw [hx.out]; rfl, hwr.out⟩
  · have hx : Hid (decide (xs = ys) = false) := decide_eq_false (fun e => hll (by rw [← hS.hlen, ← hO.hlen, e]))
    have hll' : ((len : Int) != (len' : Int)) = true := by simp; omega
    clear hll
    go_enter Try.func20, Try.ntmps20
    go_wp2
    go_ret
    exact ⟨by rw [hx.out]; rfl, Below.refl _ _⟩
theorem ownI_sl {P : Program} {T e : TypeId} {w : World} {base n : Nat} {v : Value} {zs : List Int} (h : w.ownsRow base e 1 v n (zs.map (Value.int .i64))) (hu : P.underlying T = some (.slice e)) (hs : (P.info? e).map (·.size) = some 1) :
    ∃ a cap, v = .slice a n cap ∧ IntSl P T .i64 w a n cap zs ∧ (∀ k, k < n → base ≤ (adOf a k).block) ∧ ∀ x, a = some x → x.block < w.heap.size := by
  obtain ⟨hl, h⟩ := h
  simp at hl
  rcases h with ⟨rfl, rfl⟩ | ⟨g, cap, cur, rfl, hg, hcell, hnc, hcm, hsz, htk⟩
  · have : zs = [] := List.eq_nil_of_length_eq_zero hl
    subst this
    exact ⟨none, 0, rfl, ⟨rfl, Nat.le_refl _, Nat.zero_le _, fun m k w hk hm => absurd hk (by omega), fun k hk => absurd hk (by omega), fun k hk => absurd hk (by omega), fun _ => rfl⟩, fun k hk => absurd hk (by omega), fun x hx => by cases hx⟩
  · have had : ∀ k, adOf (some ⟨g, 0, none⟩) k = ⟨g, k, none⟩ := fun k => by simp [adOf, add_plain]
    have hlt : g < w.heap.size := (Array.getElem?_eq_some_iff.1 hcell).1
    refine ⟨some ⟨g, 0, none⟩, cap, rfl, ⟨hl, hnc, hcm, fun m k w hk hm => idx_of hu hs (by simp) k w hk, fun k hk => ?_, fun k hk => by rw [had]; exact hlt, by simp⟩, fun k hk => by rw [had]; exact hg, fun x hx => by injection hx with hx; rw [← hx]; exact hlt⟩
    rw [had]
    have hk2 : (cur.toList.take (n * 1))[k]? = some (.int .i64 (zs.getD k 0)) := by
      rw [htk]; simp [List.getD_eq_getElem?_getD, List.getElem?_eq_getElem (show k < zs.length by omega)]
    rw [List.getElem?_take, if_pos (by omega)] at hk2
    simp [World.cell?, hcell]
    simpa using hk2
end Go.Proofs.Ytbfhbpibpmgblaa
