/- The words that come in, opened; how long their text can be where what is read is small. -/
import Derived.Test.YtngajjffkbbaiaaDoorLFrame
import Derived.Test.YtngajjffkbbaiaaDoorWLWords
import Derived.Deep.SlicePairs
namespace Go.Proofs.YtngajjffkbbaiaaDoor
open Go.ChangeShapes Go.WideShapes Go.ChangeAt Go.RowKit

theorem Tryd.cellsWd : Tryd.prog.cellsOf 33 = 3 := by kernel_rfl
theorem Tryd.cells1 : Tryd.prog.cellsOf 31 = 1 ∧ Tryd.prog.cellsOf 9 = 1 ∧ Tryd.prog.cellsOf 3 = 1 := ⟨by kernel_rfl, by kernel_rfl, by kernel_rfl⟩
/-- How a word reads. -/
def wdData {H : Type} (t : Wd) : DataW H := .agg [.lit (.int .u8 (t.so : Int)), .lit (.string t.tx.data.toList), .lit (.int .i64 t.pl)]
theorem bulk_wd {H : Type} (t : Wd) : Rows.uptoBulk (wdData t : DataW H) = t.tx.toList.length + 4 := by
  rw [ByteArray.toList_eq]; simp [wdData, Rows.uptoBulk, Rows.uptoBulkAll]; omega
theorem bulk_wds {H : Type} : ∀ ts : List Wd, (tailL (txs ts)).length ≤ Rows.uptoBulkAll (ts.map (wdData (H := H)))
  | [] => by simp [txs, tailL]
  | t :: ts => by
    have ih := bulk_wds (H := H) ts
    have e : (tailL (txs (t :: ts))).length = 1 + (t.tx.toList.length + (tailL (txs ts)).length) := by simp [txs, tailL]; omega
    rw [e, List.map_cons, Rows.uptoBulkAll, bulk_wd]
    omega
theorem Tryd.wdSl_of {H : Type} {enc : TypeId × Value → H} {W : World} {a : Option Addr} {len cap : Nat} {d : DataW H} {p : List MemPlace}
    (h : DataW.Trod enc Tryd.prog W 0 (fun _ => true) true 22 (.slice a len cap) d p) : ∃ ts, WdSl W a len cap ts ∧ (joinL (txs ts)).length ≤ Rows.uptoBulk d := by
  obtain ⟨fuel, hf⟩ := h
  rcases Go.Deep.open_slice Tryd.underlying22 hf with ⟨hcs, _⟩ | ⟨x, l, c, m, n, D, Pl, hcs, _, hl, hm, hmm, hx, hall⟩
  · simp [Value.cells] at hcs
    obtain ⟨rfl, rfl, rfl⟩ := hcs
    exact ⟨[], WdSl.nil, by simp [txs, joinL]⟩
  · simp [Value.cells] at hcs
    obtain ⟨rfl, rfl, rfl⟩ := hcs
    simp only [if_true] at hmm
    subst hmm
    have each : ∀ i, i < len → ∃ t : Wd, W.cell? (x.add (3 * i)) = some (.int .u8 (t.so : Int)) ∧ W.cell? (x.add (3 * i + 1)) = some (.string t.tx) ∧ W.cell? (x.add (3 * i + 2)) = some (.int .i64 t.pl) ∧ t.Ok ∧ D i = wdData t := by
      intro i hi
      obtain ⟨cs', h1, h2⟩ := hall i (by omega)
      rw [Tryd.cellsWd] at h1
      obtain ⟨_, hlen, hcell⟩ := World.cells?_some h1
      obtain ⟨xs, k, hk, hxy, _, hxl, hfd⟩ := DataW.trod_struct Tryd.underlying33 h2
      match xs, hxl, cs', hlen with
      | [y0, y1, y2], _, [v0, v1, v2], _ =>
        have g0 := hfd 0 _ rfl
        have g1 := hfd 1 _ rfl
        have g2 := hfd 2 _ rfl
        obtain ⟨k0, k1, k2⟩ := Tryd.cells1
        simp [k0, k1, k2] at g0 g1 g2
        have e0 := hcell 0 (by omega)
        have e1 := hcell 1 (by omega)
        have e2 := hcell 2 (by omega)
        rw [Go.Deep.add_add] at e0 e1 e2
        obtain ⟨z0, q0, r0, w0⟩ := DataW.trod_int Tryd.underlying31 g0
        obtain ⟨s1, q1, r1, w1⟩ := DataW.trod_string Tryd.underlying9 g1
        obtain ⟨z2, q2, r2, w2⟩ := DataW.trod_int Tryd.underlying3 g2
        simp at q0 q1 q2
        subst q0 q1 q2
        have b0 := bounds_u8 w0
        have b2 := bounds_i64 w2
        refine ⟨⟨z0.toNat, s1, z2⟩, ?_, ?_, ?_, ⟨?_, w1, ?_⟩, ?_⟩
        · have : ((z0.toNat : Nat) : Int) = z0 := by omega
          show _ = some (Value.int .u8 ((z0.toNat : Nat) : Int))
          rw [this, Nat.mul_comm]; simpa using e0
        · rw [Nat.mul_comm]; simpa using e1
        · rw [Nat.mul_comm]; simpa using e2
        · show z0.toNat < 256; omega
        · exact ⟨by show _ ≤ z2; omega, by show z2 < _; omega⟩
        · simp only [Prod.mk.injEq] at hxy
          rw [hxy.1]
          have : ((z0.toNat : Nat) : Int) = z0 := by omega
          simp [wdData, r0, r1, r2, this]
    obtain ⟨f, hff⟩ := Go.Deep.choose_lt each
    have hget : ∀ k (hk : k < ((List.range len).map f).length), ((List.range len).map f)[k] = f k := fun k hk => by simp
    refine ⟨(List.range len).map f, ⟨by simp, hl, hm, fun hn => (nomatch hn), fun y hy k hk => ?_, fun y hy k hk => ?_, fun y hy k hk => ?_, fun t ht => ?_⟩, ?_⟩
    · injection hy with hy; subst hy
      rw [hget k hk]; exact (hff k (by simpa using hk)).1
    · injection hy with hy; subst hy
      rw [hget k hk]; exact (hff k (by simpa using hk)).2.1
    · injection hy with hy; subst hy
      rw [hget k hk]; exact (hff k (by simpa using hk)).2.2.1
    · obtain ⟨i, hi, rfl⟩ := List.mem_map.1 ht
      exact (hff i (List.mem_range.1 hi)).2.2.2.1
    · have e : (List.range len).map D = ((List.range len).map f).map wdData := by
        rw [List.map_map]
        exact List.map_congr_left fun i hi => (hff i (List.mem_range.1 hi)).2.2.2.2
      simp only [Prod.mk.injEq] at hx
      rw [hx.1, e]
      have h1 := bulk_wds (H := H) ((List.range len).map f)
      have h2 := join_le_tail (txs ((List.range len).map f))
      simp only [Rows.uptoBulk]
      omega
end Go.Proofs.YtngajjffkbbaiaaDoor
