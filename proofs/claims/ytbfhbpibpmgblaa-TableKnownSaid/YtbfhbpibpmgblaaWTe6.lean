/- slices.Grow and slices.Concat of lists of tokens. -/
import Derived.Test.YtbfhbpibpmgblaaWTk
import Derived.Lib.AppendZerosOnto
namespace Go.Proofs.Ytbfhbpibpmgblaa
open Go.RowKit Go.Maps

theorem size_zeroTok (n : Nat) : (Builtin.zeroCells (Value.agg #[.int .u8 0, .int .u8 0]).cells n).size = n * 2 := by
  rw [size_zeroCells]; rfl
theorem Try.append_zeros {w : World} {ops : Array Oper} {rest : List Oper} {o : Oper} {a : Act} {Q : Exit → Act → World → Prop} (hgd : o.guard = none) (s x : Operand)
    (ho : o.op = .call { callee := .builtin .append, args := #[s, x], argTypes := #[29, 3] }) (n : Nat) (hs : a.eval s = .slice none 0 0) (hx : a.eval x = .int .i64 (n : Int)) (h0 : 0 < n) (hn : n ≤ 1000000)
    (h : ∀ G w', n ≤ G → w'.ownsRow w.heap.size 61 2 (.slice (some ⟨w.heap.size, 0, none⟩) 0 G) 0 (encT []) → Below w.heap.size w w' → wpList Try.prog ops Q rest (a.put o.dst (.slice (some ⟨w.heap.size, 0, none⟩) n G)) w') : wpList Try.prog ops Q (o :: rest) a w := by
  refine wpList_plain hgd fun _ hK => ?_
  obtain ⟨i, hi, hz0, hz1, hz2⟩ := info_parts Try.infoTok
  have hrz : ∀ ty, (Builtin.append_ #[29, 3] ty #[.slice none 0 0, .int .i64 (n : Int)]).run Try.prog w = .ok (.slice (some ⟨w.heap.size, 0, none⟩) n (grownCap w n 0 61)) (w.drew.alloc (.cells (Builtin.zeroCells (Value.agg #[.int .u8 0, .int .u8 0]).cells n ++ Builtin.zeroCells (Value.agg #[.int .u8 0, .int .u8 0]).cells (grownCap w n 0 61 - n)) 61)) := fun ty => by
    have h := Lib.run_append_grow_zeros w 29 3 ty 61 i (.agg #[.int .u8 0, .int .u8 0]) .i64 .i64 Try.underlying29 Try.underlying3 hi hz0 none 0 0 [] (run_firstCells_none w.drew i.size 0 0 0) n (by omega) (by omega) (by omega) (by omega) (by rw [hz2]; omega) (growslice_fits (by omega) (by rw [hz2]; omega))
    simpa using h
  have hG := grownCap_ge w n 0 61
  have hG2 := grownCap_le_maxLen w n 0 61 (by unfold maxLen; omega)
  have hcs : (Builtin.zeroCells (Value.agg #[.int .u8 0, .int .u8 0]).cells n ++ Builtin.zeroCells (Value.agg #[.int .u8 0, .int .u8 0]).cells (grownCap w n 0 61 - n)).size = grownCap w n 0 61 * 2 := by
    rw [Array.size_append, size_zeroTok, size_zeroTok]; omega
  generalize Builtin.zeroCells (Value.agg #[.int .u8 0, .int .u8 0]).cells n ++ Builtin.zeroCells (Value.agg #[.int .u8 0, .int .u8 0]).cells (grownCap w n 0 61 - n) = cs at *
  generalize grownCap w n 0 61 = G at *
  have HW : (w.drew.alloc (.cells cs 61)).ownsRow w.heap.size 61 2 (.slice (some ⟨w.heap.size, 0, none⟩) 0 G) 0 (encT []) := ⟨rfl, Or.inr ⟨w.heap.size, G, cs, rfl, Nat.le_refl _, (MapKept.heap_alloc w.drew _).1, Nat.zero_le _, hG2, hcs, rfl⟩⟩
  have HB : Below w.heap.size w (w.drew.alloc (.cells cs 61)) := (Below.refl _ w).drew.alloc (Nat.le_refl _) _
  have hrun := hrz o.type
  unfold Oper.wp execOp
  simp only [ho, resolve, invoke, builtin, Sem.run_bind, Sem.run_pure, Result.andThen_ok, List.map_toArray, List.map_cons, List.map_nil, hs, hx, hrun]
  exact hK _ _ (h G _ hG HW HB)
/-- A piece: a list of tokens, wherever it lies. -/
structure Pc where
  a : Option Addr
  len : Nat
  cap : Nat
  ts : List Tk
def joinP (ps : List Pc) : List Tk := ps.flatMap (·.ts)
def lensTo (ps : List Pc) (k : Nat) : Nat := (joinP (ps.take k)).length
theorem join_next {ps : List Pc} {k : Nat} (h : k < ps.length) : joinP (ps.take (k + 1)) = joinP (ps.take k) ++ ps[k].ts := by
  unfold joinP; rw [List.take_add_one, List.getElem?_eq_getElem h, List.flatMap_append]; simp
theorem join_le (ps : List Pc) (k : Nat) : (joinP (ps.take k)).length ≤ (joinP ps).length := by
  have h : joinP ps = joinP (ps.take k) ++ joinP (ps.drop k) := by
    unfold joinP; rw [← List.flatMap_append, List.take_append_drop]
  rw [h, List.length_append]; omega
theorem Try.sizeToks : (Try.prog.info? 29).map (·.size) = some 1 := by kernel_rfl
end Go.Proofs.Ytbfhbpibpmgblaa
