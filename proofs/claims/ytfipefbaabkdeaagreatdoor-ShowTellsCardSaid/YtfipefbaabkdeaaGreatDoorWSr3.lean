/- The document's layer 6: any token's text; rows of texts, cut. -/
import Derived.Test.YtfipefbaabkdeaaGreatDoorWSr2
import Derived.Test.YtfipefbaabkdeaaGreatDoorShK
import Derived.Test.YtfipefbaabkdeaaGreatDoorTkM
import Derived.Deep.RegionLawGrows
namespace Go.Proofs.YtfipefbaabkdeaaGreatDoor
open Go.RowKit Go.Maps

theorem Tryz.rput6_any (a : Option Addr) (len cap : Nat) (ad : Nat → Addr) (ss : List ByteArray) (b : Option Addr) (n m g o : Nat) (op p k : Nat) (A : List Tx) (w : World) (hS : StrSl Tryz.prog 22 w a len cap ad ss)
    (ht : takesN (op, p) = some k) (hk : A.length = k) (hok : tokS (nms ss) (op, p)) (hx : ∀ x ∈ A, x.1.length ≤ 20000) (hA : TxSl w b n m g o A) :
    Calls Tryz.prog 33 #[.slice a len cap, .agg #[.int .u8 (op : Int), .int .u8 (p : Int)], .slice b n m] w fun e w' => e = .returned (.string (mkB (putT (nms ss) op p A))) ∧ Below w.heap.size w w' := by
  have h2 := takesN_le ht
  have hnl : (nms ss).length = len := by unfold nms; rw [List.length_map]; exact hS.hlen
  match k, h2 with
  | 0, _ =>
    obtain rfl := List.eq_nil_of_length_eq_zero hk
    have h5 := takes_zero ht
    exact Tryz.rput_leaf a len cap ad ss b n m op p w hS (by
      have h1 := hok.1
      have h2 := hok.2.1
      have h3 := hok.2.2
      dsimp only at h1 h2 h3
      rw [hnl] at h3
      omega)
  | 1, _ =>
    match A, hk with
    | [x], _ =>
      have hx1 : x.1.length ≤ 1000000 := by have := hx x (by simp); omega
      have h5 := takes_one ht
      by_cases q1 : op = 19
      · subst q1; exact Tryz.rput_step a len cap b n m g o 19 p x w rfl hx1 hA
      · by_cases q2 : op = 23
        · subst q2; exact Tryz.rput_star a len cap b n m g o 23 p x w rfl hx1 hA
        · have e : putT (nms ss) op p [x] = unW op ++ (gapB op ++ wiX x 6) := by simp [putT, q1, q2]
          rw [e]
          exact Tryz.rput_un a len cap b n m g o op p x w (by omega) hx1 hA
  | 2, _ =>
    match A, hk with
    | [x, y], _ =>
      have hx1 : x.1.length ≤ 1000000 := by have := hx x (by simp); omega
      have hy1 : y.1.length ≤ 1000000 := by have := hx y (by simp); omega
      have h5 := takes_two ht
      by_cases q1 : op = 17
      · subst q1; exact Tryz.rput_dia a len cap b n m g o 17 p x y w rfl hx1 hy1 hA
      · by_cases q2 : op = 18
        · subst q2; exact Tryz.rput_box a len cap b n m g o 18 p x y w rfl hx1 hy1 hA
        · have e : putT (nms ss) op p [x, y] = wiX x (leastA op) ++ 32 :: (binW op ++ 32 :: wiX y (leastB op)) := by simp [putT, q1, q2]
          rw [e]
          by_cases q3 : op = 13 ∨ op = 15 ∨ op = 16
          · have e1 : leastA op = strN op + 1 ∧ leastB op = strN op := by rcases q3 with rfl | rfl | rfl <;> exact ⟨rfl, rfl⟩
            rw [e1.1, e1.2]
            exact Tryz.rput_right a len cap b n m g o op p x y w q3 hx1 hy1 hA
          · have e1 : leastA op = strN op ∧ leastB op = strN op + 1 := by
              have : op = 11 ∨ op = 12 ∨ op = 14 ∨ op = 21 ∨ op = 22 := by omega
              rcases this with rfl | rfl | rfl | rfl | rfl <;> exact ⟨rfl, rfl⟩
            rw [e1.1, e1.2]
            exact Tryz.rput_left a len cap b n m g o op p x y w (by omega) hx1 hy1 hA
theorem Tryz.sizeTx : (Tryz.prog.info? 75).map (·.size) = some 2 := by kernel_rfl
theorem Tryz.infoTx : (Tryz.prog.info? 75).map (fun i => (i.zero, i.size, i.bytes)) = some (some (.agg #[.string ⟨#[]⟩, .int .i64 0]), 2, 24) := by kernel_rfl
theorem txSl_nil {w : World} {a : Option Addr} {len cap g o : Nat} : TxSl w a len cap g o [] := ⟨fun i w' h => absurd h (by simp), fun i h => absurd h (by simp), fun i h => absurd h (by simp)⟩
/-- A row of texts of the call's own, from lo on, and up to lo. -/
theorem own_cut {w : World} {base n : Nat} {v : Value} {st : List Tx} (h : w.ownsRow base 75 2 v n (encX .i64 st)) :
    st.length = n ∧ ∃ a cap g, v = .slice a n cap ∧ (a = none → n = 0 ∧ cap = 0) ∧ (∀ x, a = some x → x = ⟨g, 0, none⟩) ∧ (∀ lo, lo ≤ n →
      (∃ a', (∀ w', (Instr.sliceAt 70 (.slice a n cap) (some (.int .i64 (lo : Int))) none none).run Tryz.prog w' = .ok (.slice a' (n - lo) (cap - lo)) w') ∧ TxSl w a' (n - lo) (cap - lo) g (2 * lo) (st.drop lo)) ∧
      (∀ w', (Instr.sliceAt 70 (.slice a n cap) none (some (.int .i64 (lo : Int))) (some (.int .i64 (lo : Int)))).run Tryz.prog w' = .ok (.slice a lo lo) w')) ∧
      (∀ x, a = some x → ∀ j u, (encX .i64 st)[j]? = some u → w.cell? (x.add j) = some u) := by
  obtain ⟨hl, h⟩ := h
  rw [encX_len] at hl
  have hl' : st.length = n := by omega
  refine ⟨hl', ?_⟩
  rcases h with ⟨rfl, rfl⟩ | ⟨g, cap, cur, rfl, hg, hcell, hnc, hcm, hsz, htk⟩
  · obtain rfl := List.eq_nil_of_length_eq_zero hl'
    refine ⟨none, 0, 0, rfl, fun _ => ⟨rfl, rfl⟩, (fun x hx => by cases hx), fun lo hlo => ?_, (fun x hx => by cases hx)⟩
    obtain rfl : lo = 0 := by omega
    refine ⟨⟨none, fun w' => ?_, txSl_nil⟩, fun w' => ?_⟩
    · simp [Instr.sliceAt, Instr.slice, run_underlying Tryz.underlying70, sizeOf_run2 Tryz.sizeTx, go_sem]
    · simp [Instr.sliceAt, Instr.slice, run_underlying Tryz.underlying70, sizeOf_run2 Tryz.sizeTx, go_sem]
  · have key : ∀ j, j < n * 2 → w.cell? ⟨g, j, none⟩ = (encX .i64 st)[j]? := fun j hj => by
      rw [← htk, List.getElem?_take, if_pos hj]
      simp [World.cell?, hcell]
    refine ⟨some ⟨g, 0, none⟩, cap, g, rfl, (fun h => by cases h), fun x hx => (Option.some.inj hx).symm, fun lo hlo => ⟨?_, fun w' => ?_⟩, fun x hx j u hj => ?_⟩
    · by_cases hz : cap = lo
      · refine ⟨some ⟨g, 0, none⟩, fun w' => ?_, ?_⟩
        · have hz2 : cap - lo = 0 := by omega
          simp [Instr.sliceAt, Instr.slice, run_underlying Tryz.underlying70, sizeOf_run2 Tryz.sizeTx, go_sem, hlo, hz2]
          exact fun h => absurd hz h
        · rw [List.drop_of_length_le (by omega)]; exact txSl_nil
      · refine ⟨some ⟨g, 2 * lo, none⟩, fun w' => ?_, ⟨fun i w' hi => ?_, fun i hi => ?_, fun i hi => ?_⟩⟩
        · simp [Instr.sliceAt, Instr.slice, run_underlying Tryz.underlying70, sizeOf_run2 Tryz.sizeTx, go_sem, hlo, add_plain, Nat.mul_comm]
          exact fun h => absurd h hz
        · simp at hi
          have hi' : i < n - lo := by omega
          simp [Instr.indexAt, run_underlying Tryz.underlying70, asIntOf, sizeOf_run2 Tryz.sizeTx, hi', Result.andThen, go_sem, add_plain, Nat.mul_comm]
        · have hi' : lo + i < st.length := by simp at hi; omega
          rw [show 2 * lo + 2 * i = 2 * (lo + i) by omega, key _ (by omega), (encX_get .i64 st (lo + i) hi').1, List.getElem_drop]
        · have hi' : lo + i < st.length := by simp at hi; omega
          rw [show 2 * lo + 2 * i + 1 = 2 * (lo + i) + 1 by omega, key _ (by omega), (encX_get .i64 st (lo + i) hi').2, List.getElem_drop]
    · have hmc : lo ≤ cap := by omega
      simp [Instr.sliceAt, Instr.slice, run_underlying Tryz.underlying70, sizeOf_run2 Tryz.sizeTx, go_sem, hmc]
    · obtain rfl : x = ⟨g, 0, none⟩ := (Option.some.inj hx).symm
      have hj2 := (List.getElem?_eq_some_iff.1 hj).1
      rw [encX_len] at hj2
      rw [add_plain, Nat.zero_add, key j (by omega)]; exact hj
end Go.Proofs.YtfipefbaabkdeaaGreatDoor
