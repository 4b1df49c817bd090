/- Lists of nodes and of bools with room behind them: made and copied. -/
import Derived.Test.YtmnkkknkmbldhaaWGk1
namespace Go.Proofs.Ytmnkkknkmbldhaa
open Go.RowKit Go.Maps

theorem run_copy_rowS {P : Program} {s : Nat} (w : World) (dT sT ty elem : TypeId) (g dLen dCap : Nat) (a : Addr) (sLen sCap : Nat) (cur : Array Value) (t : TypeId) (cs : List Value)
    (hu : P.underlying dT = some (.slice elem)) (hs : (P.info? elem).map (·.size) = some s)
    (hg : w.heap[g]? = some (.cells cur t (0, 0))) (hn : Nat.min sLen dLen = sLen) (hl : cs.length = sLen * s)
    (hsrc : ∀ j v, cs[j]? = some v → w.cell? (a.add j) = some v) (hfit : cs.length ≤ cur.size) (h1 : ∀ v ∈ cs, v.oneCell' = true) :
    (Builtin.copy_ #[dT, sT] ty #[.slice (some ⟨g, 0, none⟩) dLen dCap, .slice (some a) sLen sCap]).run P w =
      .ok (goInt sLen) (w.setRow g (cs ++ cur.toList.drop cs.length).toArray) := by
  have hld := run_loadCells_list (P := P) w a cs hsrc
  have hst := run_storeCells_at P g 0 t cs 0 cur w hg (by simpa using hfit) h1
  cases hq : P.info? elem with
  | none => simp [hq] at hs
  | some i =>
    have hi : i.size = s := by simpa [hq] using hs
    have hn' : min sLen dLen = sLen := hn
    simp [Builtin.copy_, run_underlying hu, Builtin.lenOf, Builtin.firstCells, sizeOf, typeInfo, hq, hi, hn', ← hl, hld, hst]
theorem run_copy_zeroS {P : Program} {s : Nat} (w : World) (dT sT ty elem : TypeId) (d a : Option Addr) (dLen dCap sCap : Nat) (hu : P.underlying dT = some (.slice elem)) (hs : (P.info? elem).map (·.size) = some s) :
    (Builtin.copy_ #[dT, sT] ty #[.slice d dLen dCap, .slice a 0 sCap]).run P w = .ok (goInt 0) w := by
  cases hq : P.info? elem with
  | none => simp [hq] at hs
  | some i =>
    have hmin : Nat.min 0 dLen = 0 := Nat.zero_min _
    cases d <;> cases a <;> simp [Builtin.copy_, run_underlying hu, Builtin.lenOf, Builtin.firstCells, sizeOf, typeInfo, hq, hmin, loadCells, loadCellsFrom, storeCells]
/-- Block g is a row of just these nodes. -/
def NdRow (w : World) (g : Nat) (N : List Gd) : Prop := w.heap[g]? = some (.cells (encG N).toArray 44 (0, 0))
def zG (k : Nat) : List Gd := List.replicate k (0, 0, 0)
theorem madeG (n : Nat) : madeCells #[.int .i64 0, .int .i64 0, .int .i64 0] (n * 3) = (encG (zG n)).toArray := by
  apply Array.ext_getElem?
  intro i
  by_cases h : i < n * 3
  · have hl : ∀ i, i < n * 3 → (encG (zG n))[i]? = some (.int .i64 0) := by
      intro i h
      obtain ⟨k, h0⟩ : ∃ k, i = 3 * k ∨ i = 3 * k + 1 ∨ i = 3 * k + 2 := ⟨i / 3, by omega⟩
      rcases h0 with rfl | rfl | rfl
      · rw [(encG_get _ k (by simp [zG]; omega)).1]; simp [zG]
      · rw [(encG_get _ k (by simp [zG]; omega)).2.1]; simp [zG]
      · rw [(encG_get _ k (by simp [zG]; omega)).2.2]; simp [zG]
    have hr : (encG (zG n)).toArray[i]? = some (.int .i64 0) := by simpa using hl i h
    rw [hr]
    have h3 : i % 3 = 0 ∨ i % 3 = 1 ∨ i % 3 = 2 := by omega
    rcases h3 with h0 | h0 | h0 <;> simp [madeCells, h, h0]
  · have hr : (encG (zG n)).toArray[i]? = none := by
      rw [Array.getElem?_eq_none]; rw [List.size_toArray, encG_len]; simp [zG]; omega
    rw [hr, Array.getElem?_eq_none]
    simp [madeCells]; omega
theorem Try.makeNd (l c : Nat) (L C : Int) (hl : L = l) (hc : C = c) (hlc : l ≤ c) (hb : c ≤ 1000000) (w : World) :
    (Instr.makeSlice 38 (.int .i64 L) (.int .i64 C)).run Try.prog w = .ok (.slice (some ⟨w.heap.size, 0, none⟩) l c) (w.alloc (.cells (encG (zG c)).toArray 44)) := by
  obtain ⟨i, hi, hz0, hz1, hz2⟩ := info_parts Try.infoNode
  have := run_make (P := Try.prog) w 38 44 i (.agg #[.int .i64 0, .int .i64 0, .int .i64 0]) Try.underlying38 hi hz0 .i64 .i64 L C (by omega) (by omega) (by rw [hz2]; omega) (by omega)
  rw [this, hl, hc, hz1, ← madeG]
  simp only [Int.toNat_natCast]
  rfl
/-- copy(new, l), the new one with room for three more. -/
theorem Try.copyNd (g : Nat) (a : Option Addr) (len cap : Nat) (N : List Gd) (w : World) (hg : NdRow w g (zG (len + 3))) (hS : NdSl w a len cap N) (B : Nat) (hB : B ≤ g) (W : World) (hW : Below B W w) :
    ∃ w2, (∀ ty, (Builtin.copy_ #[38, 38] ty #[.slice (some ⟨g, 0, none⟩) len (len + 3), .slice a len cap]).run Try.prog w = .ok (goInt len) w2) ∧ NdRow w2 g (N ++ zG 3) ∧ Below B W w2 ∧ ∀ k, k ≠ g → w2.heap[k]? = w.heap[k]? := by
  by_cases h0 : len = 0
  · subst h0
    have hnil : N = [] := List.eq_nil_of_length_eq_zero hS.hlen
    subst hnil
    exact ⟨w, fun ty => run_copy_zeroS _ _ _ ty 44 _ _ _ _ _ Try.underlying38 Try.sizeNode, hg, hW, fun _ _ => rfl⟩
  · cases a with
    | none => have h1 := hS.nn rfl; have h2 := hS.hcap; exact absurd h1 (by omega)
    | some x =>
      have hlm : (encG N).length = len * 3 := by rw [encG_len, hS.hlen]
      have hrl : (encG (zG (len + 3))).length = (len + 3) * 3 := by rw [encG_len]; simp [zG]
      have hrun := fun ty => run_copy_rowS (P := Try.prog) w 38 38 ty 44 g len (len + 3) x len cap _ 44 (encG N) Try.underlying38 Try.sizeNode hg
        (Nat.min_eq_left (by omega)) hlm (fun j v hj => hS.cells j v hj) (by rw [hlm, List.size_toArray, hrl]; omega) (encG_one N)
      refine ⟨_, hrun, ?_, below_setRow hW hB _, fun k hk => ?_⟩
      · unfold NdRow
        rw [setRow_heap _ _ _ _ _ _ hg]
        congr 3
        have e1 : zG (len + 3) = zG len ++ zG 3 := by unfold zG; rw [List.replicate_append_replicate]
        have e2 : (encG (zG len)).length = (encG N).length := by rw [encG_len, hlm]; simp [zG]
        show (encG N ++ (encG (zG (len + 3))).toArray.toList.drop (encG N).length) = encG (N ++ zG 3)
        have e3 : (encG (zG (len + 3))).toArray.toList = encG (zG (len + 3)) := rfl
        rw [e3, e1, encG_append, ← e2, List.drop_left, ← encG_append]
      · exact setRow_other _ _ _ _ hk
/-- Block g is a row of just these bools. -/
def BoRow (w : World) (g : Nat) (bs : List Bool) : Prop := w.heap[g]? = some (.cells (bs.map Value.bool).toArray 4 (0, 0))
def zB (k : Nat) : List Bool := List.replicate k false
theorem madeB (n : Nat) : madeCells #[.bool false] n = ((zB n).map Value.bool).toArray := by
  apply Array.ext_getElem?
  intro i
  by_cases h : i < n
  · simp [madeCells, zB, h, Nat.mod_one]
  · simp [madeCells, zB, h]
theorem Try.infoBo : (Try.prog.info? 4).map (fun i => (i.zero, i.size, i.bytes)) = some (some (.bool false), 1, 1) := by kernel_rfl
theorem Try.makeBo (l c : Nat) (L C : Int) (hl : L = l) (hc : C = c) (hlc : l ≤ c) (hb : c ≤ 1000000) (w : World) :
    (Instr.makeSlice 46 (.int .i64 L) (.int .i64 C)).run Try.prog w = .ok (.slice (some ⟨w.heap.size, 0, none⟩) l c) (w.alloc (.cells ((zB c).map Value.bool).toArray 4)) := by
  obtain ⟨i, hi, hz0, hz1, hz2⟩ := info_parts Try.infoBo
  have := run_make (P := Try.prog) w 46 4 i (.bool false) Try.underlying46 hi hz0 .i64 .i64 L C (by omega) (by omega) (by rw [hz2]; omega) (by omega)
  rw [this, hl, hc, hz1, ← madeB]
  simp only [Int.toNat_natCast, Nat.mul_one]
  rfl
/-- copy(new, l), the new one with room for three more. -/
theorem Try.copyBo (g : Nat) (a : Option Addr) (len cap : Nat) (bs : List Bool) (w : World) (hg : BoRow w g (zB (len + 3))) (hS : BoSl w a len cap bs) (B : Nat) (hB : B ≤ g) (W : World) (hW : Below B W w) :
    ∃ w2, (∀ ty, (Builtin.copy_ #[46, 46] ty #[.slice (some ⟨g, 0, none⟩) len (len + 3), .slice a len cap]).run Try.prog w = .ok (goInt len) w2) ∧ BoRow w2 g (bs ++ zB 3) ∧ Below B W w2 ∧ ∀ k, k ≠ g → w2.heap[k]? = w.heap[k]? := by
  by_cases h0 : len = 0
  · subst h0
    have hnil : bs = [] := List.eq_nil_of_length_eq_zero hS.hlen
    subst hnil
    exact ⟨w, fun ty => run_copy_zeroS _ _ _ ty 4 _ _ _ _ _ Try.underlying46 Try.sizeBo, hg, hW, fun _ _ => rfl⟩
  · cases a with
    | none => have h1 := hS.nn rfl; have h2 := hS.hcap; exact absurd h1 (by omega)
    | some x =>
      have hlm : (bs.map Value.bool).length = len * 1 := by rw [List.length_map, hS.hlen, Nat.mul_one]
      have hrun := fun ty => run_copy_rowS (P := Try.prog) w 46 46 ty 4 g len (len + 3) x len cap _ 4 (bs.map Value.bool) Try.underlying46 Try.sizeBo hg
        (Nat.min_eq_left (by omega)) hlm (fun j v hj => by
          have hjl : j < bs.length := by simpa using (List.getElem?_eq_some_iff.1 hj).1
          have := hS.c x rfl j hjl
          rw [this]
          simpa [List.getElem?_eq_getElem hjl] using hj) (by rw [hlm]; simp [zB]) (by
          intro v hv; obtain ⟨b, _, rfl⟩ := List.mem_map.1 hv; rfl)
      refine ⟨_, hrun, ?_, below_setRow hW hB _, fun k hk => setRow_other _ _ _ _ hk⟩
      unfold BoRow
      rw [setRow_heap _ _ _ _ _ _ hg]
      congr 2
      apply Array.ext'
      simp [zB, hS.hlen]
end Go.Proofs.Ytmnkkknkmbldhaa
