/- Lists of cubes in memory; what Same tells. -/
import Derived.Test.YtnaalbcbmhpfjaaWCub1
namespace Go.Proofs.Ytnaalbcbmhpfjaa
open Go.RowKit Go.Maps

def encC (cs : List Cu) : List Value := cs.flatMap fun c => [.int .u8 (c.1 : Int), .int .u8 (c.2 : Int)]
theorem encC_cons (c : Cu) (cs : List Cu) : encC (c :: cs) = .int .u8 (c.1 : Int) :: .int .u8 (c.2 : Int) :: encC cs := rfl
theorem encC_append (xs ys : List Cu) : encC (xs ++ ys) = encC xs ++ encC ys := by simp [encC]
theorem encC_len : ∀ cs : List Cu, (encC cs).length = cs.length * 2
  | [] => rfl
  | c :: cs => by rw [encC_cons]; simp [encC_len cs]; omega
theorem encC_get : ∀ (cs : List Cu) (k : Nat), k < cs.length → (encC cs)[2 * k]? = some (.int .u8 ((cs.getD k (0, 0)).1 : Int)) ∧ (encC cs)[2 * k + 1]? = some (.int .u8 ((cs.getD k (0, 0)).2 : Int))
  | [], k, h => absurd h (by simp)
  | c :: cs, 0, _ => ⟨rfl, rfl⟩
  | c :: cs, k + 1, h => by
    have := encC_get cs k (by simpa using h)
    rw [encC_cons]
    refine ⟨?_, ?_⟩
    · rw [show 2 * (k + 1) = 2 * k + 1 + 1 by omega]; simpa using this.1
    · rw [show 2 * (k + 1) + 1 = 2 * k + 1 + 1 + 1 by omega]; simpa using this.2

/-- A list of cubes as the walk reads it. -/
structure CuSl (P : Program) (T : TypeId) (w : World) (a : Option Addr) (g len cap : Nat) (cs : List Cu) : Prop where
  hlen : cs.length = len
  hcap : len ≤ cap
  bd : cap ≤ maxLen
  idx : ∀ (n k : Nat) (w : World), k < n → n ≤ len → (Instr.indexAt T (.slice a n cap) (.int .i64 k)).run P w = .ok (.pointer (some ⟨g, 2 * k, none⟩)) w
  c0 : ∀ k, k < len → w.cell? ⟨g, 2 * k, none⟩ = some (.int .u8 ((cs.getD k (0, 0)).1 : Int))
  c1 : ∀ k, k < len → w.cell? ⟨g, 2 * k + 1, none⟩ = some (.int .u8 ((cs.getD k (0, 0)).2 : Int))
  blk : 0 < len → g < w.heap.size
  ok : ∀ c ∈ cs, c.ok
theorem CuSl.later {P : Program} {T : TypeId} {w w' : World} {a : Option Addr} {g len cap : Nat} {cs : List Cu} (h : CuSl P T w a g len cap cs) {B : Nat} (hb : Below B w w') (hB : 0 < len → g < B) : CuSl P T w' a g len cap cs :=
  ⟨h.hlen, h.hcap, h.bd, h.idx, fun k hk => (hb.cell (hB (by omega))).trans (h.c0 k hk), fun k hk => (hb.cell (hB (by omega))).trans (h.c1 k hk), fun hk => Nat.lt_of_lt_of_le (h.blk hk) hb.size, h.ok⟩
theorem CuSl.up {P : Program} {T : TypeId} {w w' : World} {a : Option Addr} {g len cap : Nat} {cs : List Cu} (h : CuSl P T w a g len cap cs) (hb : Below w.heap.size w w') : CuSl P T w' a g len cap cs := h.later hb h.blk
theorem CuSl.drewN {P : Program} {T : TypeId} {w : World} {a : Option Addr} {g len cap : Nat} {cs : List Cu} (h : CuSl P T w a g len cap cs) (n : Nat) : CuSl P T (w.drewN n) a g len cap cs := h.up (below_drewN (Below.refl _ _) n)
theorem CuSl.get_ok {P : Program} {T : TypeId} {w : World} {a : Option Addr} {g len cap : Nat} {cs : List Cu} (h : CuSl P T w a g len cap cs) (k : Nat) : (cs.getD k (0, 0)).ok := by
  by_cases hk : k < cs.length
  · have : cs.getD k (0, 0) = cs[k] := by simp [List.getD_eq_getElem?_getD, List.getElem?_eq_getElem hk]
    rw [this]; exact h.ok _ (List.getElem_mem hk)
  · rw [List.getD_eq_getElem?_getD, List.getElem?_eq_none (by omega)]; exact ⟨by decide, by decide⟩

theorem Try.sizeCube : (Try.prog.info? 24).map (·.size) = some 2 := by kernel_rfl
theorem Try.infoCube : (Try.prog.info? 24).map (fun i => (i.zero, i.size, i.bytes)) = some (some (.agg #[.int .u8 0, .int .u8 0]), 2, 2) := by kernel_rfl
theorem sizeOf_run2 {P : Program} {e : TypeId} (h : (P.info? e).map (·.size) = some 2) (w : World) : (sizeOf e).run P w = .ok 2 w := by
  cases hq : P.info? e with
  | none => simp [hq] at h
  | some i => simp [hq] at h; simp [sizeOf, typeInfo, hq, h]
theorem idx_of2 {P : Program} {T e : TypeId} (hu : P.underlying T = some (.slice e)) (hs : (P.info? e).map (·.size) = some 2) {g cap n : Nat} (k : Nat) (w : World) (hk : k < n) :
    (Instr.indexAt T (.slice (some ⟨g, 0, none⟩) n cap) (.int .i64 k)).run P w = .ok (.pointer (some ⟨g, 2 * k, none⟩)) w := by
  simp [Instr.indexAt, run_underlying hu, asIntOf, sizeOf_run2 hs, hk, Result.andThen, go_sem, add_plain, Nat.mul_comm]

theorem own_cuSl {P : Program} {T e : TypeId} {w : World} {base n : Nat} {v : Value} {cs : List Cu} (h : w.ownsRow base e 2 v n (encC cs)) (hu : P.underlying T = some (.slice e)) (hs : (P.info? e).map (·.size) = some 2) (hok : ∀ c ∈ cs, c.ok) :
    ∃ a g cap, v = .slice a n cap ∧ CuSl P T w a g n cap cs ∧ (0 < n → base ≤ g) := by
  obtain ⟨hl, h⟩ := h
  rw [encC_len] at hl
  have hl' : cs.length = n := by omega
  rcases h with ⟨rfl, rfl⟩ | ⟨g, cap, cur, rfl, hg, hcell, hnc, hcm, hsz, htk⟩
  · exact ⟨none, 0, 0, rfl, ⟨hl', Nat.le_refl _, Nat.zero_le _, fun m k w hk hm => absurd hk (by omega), fun k hk => absurd hk (by omega), fun k hk => absurd hk (by omega), fun hk => absurd hk (by omega), hok⟩, fun hk => absurd hk (by omega)⟩
  · have hlt : g < w.heap.size := (Array.getElem?_eq_some_iff.1 hcell).1
    have key : ∀ j, j < n * 2 → w.cell? ⟨g, j, none⟩ = (encC cs)[j]? := fun j hj => by
      rw [← htk, List.getElem?_take, if_pos hj]
      simp [World.cell?, hcell]
    refine ⟨some ⟨g, 0, none⟩, g, cap, rfl, ⟨hl', hnc, hcm, fun m k w hk hm => idx_of2 hu hs k w hk, fun k hk => ?_, fun k hk => ?_, fun _ => hlt, hok⟩, fun _ => hg⟩
    · rw [key _ (by omega)]; exact (encC_get cs k (by omega)).1
    · rw [key _ (by omega)]; exact (encC_get cs k (by omega)).2

theorem take_snocC {cs : List Cu} {k : Nat} (h : k < cs.length) : cs.take (k + 1) = cs.take k ++ [cs.getD k (0, 0)] := by
  rw [List.take_add_one, List.getElem?_eq_getElem h]; simp [List.getD_eq_getElem?_getD, List.getElem?_eq_getElem h]
theorem takeC_next {xs ys : List Cu} {k : Nat} (hx : k < xs.length) (hy : k < ys.length) (h : xs.take k = ys.take k) (he : xs.getD k (0, 0) = ys.getD k (0, 0)) : xs.take (k + 1) = ys.take (k + 1) := by
  rw [take_snocC hx, take_snocC hy, h, he]

theorem Try.fieldsCube : ∃ f0 f1, (Try.prog.fieldsOf 24).toList = [f0, f1] ∧ (f0.name = "Care" ∧ f0.type = 22 ∧ f0.offset = 0) ∧ (f1.name = "Value" ∧ f1.type = 22 ∧ f1.offset = 1) := by
  have hfl : (Try.prog.fieldsOf 24).toList.map (fun f => (f.name, f.type, f.offset)) = [("Care", 22, 0), ("Value", 22, 1)] := by kernel_rfl
  cases hl : (Try.prog.fieldsOf 24).toList with
  | nil => rw [hl] at hfl; simp at hfl
  | cons f0 r =>
    cases r with
    | nil => rw [hl] at hfl; simp at hfl
    | cons f1 r =>
      rw [hl] at hfl
      simp at hfl
      obtain ⟨h0, h1, rfl⟩ := hfl
      exact ⟨f0, f1, rfl, h0, h1⟩
theorem Try.eqlCube (x0 x1 y0 y1 : Nat) (w : World) : (binOp .eql 24 (.agg #[.int .u8 (x0 : Int), .int .u8 (x1 : Int)]) (.agg #[.int .u8 (y0 : Int), .int .u8 (y1 : Int)])).run Try.prog w = .ok (.bool (decide (((x0, x1) : Cu) = (y0, y1)))) w := by
  have ht : Try.prog.underlying 24 = some (.struct (Try.prog.fieldsOf 24)) := by kernel_rfl
  have hp : Try.prog.stoodInHeld 24 = false := by kernel_rfl
  rw [run_eql_struct, run_equalIn_agg _ 9999 _ _ _ ht hp]
  obtain ⟨f0, f1, hl, ⟨a1, a2, a3⟩, ⟨b1, b2, b3⟩⟩ := Try.fieldsCube
  rw [hl]
  by_cases h0 : x0 = y0
  · by_cases h1 : x1 = y1
    · simp [Op.eqFields, a1, a2, a3, b1, b2, b3, go_sem, h0, h1, run_equalIn_int _ 9998 _ _ _ _ _ Try.underlying22]
    · have h1' : ¬ (x1 : Int) = (y1 : Int) := by omega
      simp [Op.eqFields, a1, a2, a3, b1, b2, b3, go_sem, h0, h1, h1', run_equalIn_int _ 9998 _ _ _ _ _ Try.underlying22]
  · have h0' : ¬ (x0 : Int) = (y0 : Int) := by omega
    simp [Op.eqFields, a1, a2, a3, go_sem, h0, h0', run_equalIn_int _ 9998 _ _ _ _ _ Try.underlying22]
theorem Try.neqCube (x0 x1 y0 y1 : Nat) (w : World) : (binOp .neq 24 (.agg #[.int .u8 (x0 : Int), .int .u8 (x1 : Int)]) (.agg #[.int .u8 (y0 : Int), .int .u8 (y1 : Int)])).run Try.prog w = .ok (.bool (!decide (((x0, x1) : Cu) = (y0, y1)))) w := by
  have h := Try.eqlCube x0 x1 y0 y1 w
  rw [run_eql_struct] at h
  rw [run_neq_struct]
  cases hr : (Op.equalIn 10000 24 (.agg #[.int .u8 (x0 : Int), .int .u8 (x1 : Int)]) (.agg #[.int .u8 (y0 : Int), .int .u8 (y1 : Int)])).run Try.prog w with
  | ok b w1 =>
    rw [hr] at h
    simp [Result.andThen] at h ⊢
    obtain ⟨rfl, rfl⟩ := h
    exact ⟨rfl, rfl⟩
  | halt x w1 => rw [hr] at h; simp [Result.andThen] at h

set_option maxHeartbeats 800000 in
/-- Same tells whether two lists are one. -/
theorem Try.sameC_any (a : Option Addr) (g len cap : Nat) (xs : List Cu) (a' : Option Addr) (g' len' cap' : Nat) (ys : List Cu) (w : World)
    (hS : CuSl Try.prog 32 w a g len cap xs) (hO : CuSl Try.prog 32 w a' g' len' cap' ys) :
    Calls Try.prog 19 #[.slice a len cap, .slice a' len' cap'] w fun e w' => e = .returned (.bool (decide (xs = ys))) ∧ Below w.heap.size w w' := by
  have hb0 := hS.bd
  have hb1 := hS.hcap
  have hb2 := hO.bd
  have hb3 := hO.hcap
  unfold maxLen at hb0 hb2
  by_cases hll : len = len'
  · subst hll
    have hidx := fun (k : Nat) (w : World) (h : k < len) => hS.idx len k w h (Nat.le_refl _)
    have hidx' := fun (k : Nat) (w : World) (h : k < len) => hO.idx len k w h (Nat.le_refl _)
    go_enter Try.func19, Try.ntmps19
    go_wp2
    go_loopw [5] (fun i wr => ∃ k : Nat, k ≤ len ∧ i = .int .i64 k ∧ Hid (xs.take k = ys.take k) ∧ Hid (Below w.heap.size w wr)) (fun i _ => len - (intOf i).toNat)
    case atStart => exact ⟨0, Nat.zero_le _, rfl, by show _ = _; simp, Below.refl _ _⟩
    case round =>
      obtain ⟨k, hk, rfl, HU, hwr⟩ := hrel
      by_cases hlt : k < len
      · have hS' : CuSl Try.prog 32 wr a g len cap xs := hS.up hwr.out
        have hO' : CuSl Try.prog 32 wr a' g' len cap' ys := hO.up hwr.out
        have hx0 := hS'.c0 k hlt
        have hx1 := hS'.c1 k hlt
        have hy0 := hO'.c0 k hlt
        have hy1 := hO'.c1 k hlt
        have HN : Hid (xs.getD k (0, 0) = ys.getD k (0, 0) → xs.take (k + 1) = ys.take (k + 1)) := fun h => takeC_next (by rw [hS.hlen]; exact hlt) (by rw [hO.hlen]; exact hlt) HU.out h
        have HM : Hid (xs.getD k (0, 0) ≠ ys.getD k (0, 0) → decide (xs = ys) = false) := fun h => decide_eq_false (fun e => h (by rw [e]))
        clear hS' hO'
        generalize xs.getD k (0, 0) = x at *
        generalize ys.getD k (0, 0) = y at *
        obtain ⟨x0, x1⟩ := x
        obtain ⟨y0, y1⟩ := y
        have hne := Try.neqCube x0 x1 y0 y1
        have HD : Hid (∀ b, decide (((x0, x1) : Cu) = (y0, y1)) = b → b = true → ((x0, x1) : Cu) = (y0, y1)) := fun b h1 h2 => of_decide_eq_true (h1.trans h2)
        have HE : Hid (∀ b, decide (((x0, x1) : Cu) = (y0, y1)) = b → b = false → ((x0, x1) : Cu) ≠ (y0, y1)) := fun b h1 h2 => of_decide_eq_false (h1.trans h2)
        generalize hq : decide (((x0, x1) : Cu) = (y0, y1)) = q at hne
        go_wp2_with fail
        go_quiet (fail)
        cases q with
        | false =>
          have HM2 : Hid _ := HM.out (HE.out false hq rfl)
          go_wp2
          go_ret
          exact ⟨by rw [HM2.out]; rfl, below_drewN hwr.out nq⟩
        | true =>
          have HN2 : Hid _ := HN.out (HD.out true hq rfl)
          go_wp2
          go_roundw
          case rel => exact ⟨k + 1, by omega, by go_num, HN2, below_drewN hwr.out nq⟩
          case measure => simp [intOf]; omega
      · have hx : Hid (decide (xs = ys) = true) := by
          have := HU.out
          rw [List.take_of_length_le (by rw [hS.hlen]; omega), List.take_of_length_le (by rw [hO.hlen]; omega)] at this
          exact decide_eq_true this
        go_wp2
        go_ret
        exact ⟨by rw [hx.out]; rfl, hwr.out⟩
  · have hx : Hid (decide (xs = ys) = false) := decide_eq_false (fun e => hll (by rw [← hS.hlen, ← hO.hlen, e]))
    have hll' : ((len : Int) != (len' : Int)) = true := by simp; omega
    clear hll
    go_enter Try.func19, Try.ntmps19
    go_wp2
    go_ret
    exact ⟨by rw [hx.out]; rfl, Below.refl _ _⟩
end Go.Proofs.Ytnaalbcbmhpfjaa
