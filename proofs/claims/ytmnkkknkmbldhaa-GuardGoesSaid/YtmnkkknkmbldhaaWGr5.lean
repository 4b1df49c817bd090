/- The document's store: in memory; New; two lists of numbers side by side. -/
import Derived.Test.YtmnkkknkmbldhaaWGr2
import Derived.Test.YtmnkkknkmbldhaaKFr
import Derived.Deep.RegionLaw
namespace Go.Proofs.Ytmnkkknkmbldhaa
open Go.RowKit Go.Maps

/-- The document's store: its blocks F, its variable g. -/
structure RSt (w : World) (F : Nat → Prop) (g n : Nat) (N : List Gd) : Prop where
  blk : ∃ v, w.heap[g]? = some (.cells #[.int .i64 (n : Int), v] 40 (0, 0)) ∧ w.ownsRow (g + 1) 44 3 v N.length (encG N) ∧ ∀ k, F k ↔ (k = g ∨ v.ownBlock = some k)
  ok : ∀ t ∈ N, GdOk t
theorem RSt.lt {w : World} {F : Nat → Prop} {g n : Nat} {N : List Gd} (h : RSt w F g n N) : ∀ k, F k → g ≤ k ∧ k < w.heap.size := by
  obtain ⟨v, h1, h2, h3⟩ := h.blk
  intro k hk
  have hg := (Array.getElem?_eq_some_iff.1 h1).1
  rcases (h3 k).1 hk with rfl | h
  · exact ⟨Nat.le_refl _, hg⟩
  · have := h2.lt k h; omega
theorem RSt.up {w w' : World} {F : Nat → Prop} {g n : Nat} {N : List Gd} (h : RSt w F g n N) (hb : Below w.heap.size w w') : RSt w' F g n N := by
  obtain ⟨v, h1, h2, h3⟩ := h.blk
  exact ⟨⟨v, (hb.block g (Array.getElem?_eq_some_iff.1 h1).1).trans h1, owns_up h2 hb, h3⟩, h.ok⟩
/-- What New answers. -/
def RnR (n : Int) (w : World) (e : Ending) (w' : World) : Prop := Below w.heap.size w w' ∧
  ((¬ (0 ≤ n ∧ n ≤ 8) ∧ e = .returned (.tuple #[.pointer none, .int .i64 2])) ∨
    (0 ≤ n ∧ n ≤ 8 ∧ ∃ g F, e = .returned (.tuple #[.pointer (some ⟨g, 0, none⟩), .int .i64 0]) ∧ w.heap.size ≤ g ∧ RSt w' F g n.toNat []))
set_option maxHeartbeats 800000 in
theorem Try.rnew_any (n : Int) (w : World) : Calls Try.prog 9 #[.int .i64 n] w (RnR n w) := by
  by_cases h : 0 ≤ n ∧ n ≤ 8
  · obtain ⟨h0, h8⟩ := h
    have HE : Hid (RnR n w (.returned (.tuple #[.pointer (some ⟨w.heap.size, 0, none⟩), .int .i64 0])) (w.alloc (.cells #[.int .i64 n, .slice none 0 0] 40 (0, 0)))) := by
      refine ⟨below_new w _, .inr ⟨h0, h8, w.heap.size, fun k => k = w.heap.size, rfl, Nat.le_refl _, ⟨⟨.slice none 0 0, ?_, ⟨rfl, Or.inl ⟨rfl, rfl⟩⟩, fun k => by simp [Value.ownBlock]⟩, fun t ht => by simp at ht⟩⟩⟩
      rw [Int.toNat_of_nonneg h0]
      exact (MapKept.heap_alloc w _).1
    generalize RnR n w = Q at *
    go_enter Try.func9, Try.ntmps9
    go_wp2
    exact HE.out
  · have HE : Hid (RnR n w (.returned (.tuple #[.pointer none, .int .i64 2])) w) := ⟨Below.refl _ _, .inl ⟨h, rfl⟩⟩
    generalize RnR n w = Q at *
    by_cases h0 : n < 0
    · go_enter Try.func9, Try.ntmps9
      go_wp2
      exact HE.out
    · have h8 : 8 < n := by omega
      clear h
      go_enter Try.func9, Try.ntmps9
      go_wp2
      exact HE.out
/-- Two lists of numbers of the call's own, apart. -/
structure Hv (w0 w : World) (vl vh : Value) (lo hi : List Int) : Prop where
  ol : w.ownsRow w0.heap.size 3 1 vl lo.length (lo.map (Value.int .i64))
  oh : w.ownsRow w0.heap.size 3 1 vh hi.length (hi.map (Value.int .i64))
  dis : ∀ x, vl.ownBlock = some x → vh.ownBlock ≠ some x
  bel : Below w0.heap.size w0 w
theorem Hv.nil (w : World) : Hv w w (.slice none 0 0) (.slice none 0 0) [] [] := ⟨⟨rfl, Or.inl ⟨rfl, rfl⟩⟩, ⟨rfl, Or.inl ⟨rfl, rfl⟩⟩, fun x h => by simp [Value.ownBlock] at h, Below.refl _ _⟩
theorem Hv.swap {w0 w : World} {vl vh : Value} {lo hi : List Int} (h : Hv w0 w vl vh lo hi) : Hv w0 w vh vl hi lo := ⟨h.oh, h.ol, fun x hx he => h.dis x he hx, h.bel⟩
theorem Hv.push {w0 w w' : World} {vl vh : Value} {lo hi : List Int} (h : Hv w0 w vl vh lo hi) (z : Int) (o : Obj) {g cap : Nat} (hown : w'.ownsRow w0.heap.size 3 1 (.slice (some ⟨g, 0, none⟩) (lo.length + 1) cap) (lo.length + 1) ((lo ++ [z]).map (Value.int .i64))) (hg : (w.alloc o).grownBy w' vl.ownBlock) (hl : vl.ownBlock = some g ∨ g = (w.alloc o).heap.size) :
    Hv w0 w' (.slice (some ⟨g, 0, none⟩) (lo.length + 1) cap) vh (lo ++ [z]) hi := by
  refine ⟨by rw [List.length_append]; exact hown, (h.oh.alloc o).kept hg ?_, fun x hx he => ?_, ?_⟩
  · rcases e : vh.ownBlock with _ | x
    · exact .inl rfl
    · refine .inr fun e2 => ?_
      exact h.dis x e2.symm e
  · simp [Value.ownBlock] at hx
    subst hx
    rcases hl with hl | hl
    · exact h.dis _ hl he
    · have := (h.oh.alloc o).lt _ he; omega
  · exact (h.bel.alloc h.bel.size o).grown hg (h.bel.alloc h.bel.size o).size (fun q e => (h.ol.lt q e).1)
/-- One number more, and where it lies then. -/
theorem Try.append_z1 {w : World} {ops : Array Oper} {rest : List Oper} {o : Oper} {a : Act} {Q : Exit → Act → World → Prop} (hgd : o.guard = none) (s x : Operand)
    (ho : o.op = .call { callee := .builtin .append, args := #[s, x], argTypes := #[30, 30] }) (base : Nat)
    (v : Value) (n : Nat) (zs : List Int) (hs : a.eval s = v) (hown : w.ownsRow base 3 1 v n (zs.map (Value.int .i64))) (g' : Nat) (z : Int) (hx : a.eval x = .slice (some ⟨g', 0, none⟩) 1 1) (hc : w.cell? ⟨g', 0, none⟩ = some (.int .i64 z))
    (hn : n + 1 ≤ 2000000) (hbase : base ≤ w.heap.size)
    (h : ∀ g cap w', w'.ownsRow base 3 1 (.slice (some ⟨g, 0, none⟩) (n + 1) cap) (n + 1) ((zs ++ [z]).map (Value.int .i64)) → w.grownBy w' v.ownBlock → (v.ownBlock = some g ∨ g = w.heap.size) → wpList Try.prog ops Q rest (a.put o.dst (.slice (some ⟨g, 0, none⟩) (n + 1) cap)) w') : wpList Try.prog ops Q (o :: rest) a w := by
  obtain ⟨i, hi, hz0, hz1, hz2⟩ := info_parts Try.infoInt
  refine wpList_append_lies w hgd s x 30 ho base 3 i _ 1 8 Try.underlying30 hi hz0 hz1 hz2 rfl (by decide) v n _ hs hown ⟨g', 0, none⟩ 1 1 [.int .i64 z] hx rfl ?_ (fun u hu => by simp at hu; subst hu; rfl) (by decide) (by unfold maxLen; omega) (by omega) hbase _ rfl ?_
  · intro j u hj
    match j with
    | 0 => simp at hj; rw [← hj, add_plain]; exact hc
    | j + 1 => simp at hj
  · intro g cap w' h1 h2 h3 _
    exact h g cap w' (by rw [List.map_append]; exact h1) h2 h3
def ndO (y : Gd) : Obj := .cells #[.int .i64 y.1, .int .i64 y.2.1, .int .i64 y.2.2] 44 (0, 0)
/-- One node more, and where it lies then. -/
theorem Try.wp_nd1 {w : World} {o : Oper} {a : Act} {K : Act → World → Prop} {Q : Exit → Act → World → Prop} (s x : Operand)
    (ho : o.op = .call { callee := .builtin .append, args := #[s, x], argTypes := #[38, 38] }) (base : Nat)
    (v : Value) (n : Nat) (N : List Gd) (y : Gd) (g' : Nat) (hs : a.eval s = v) (hx : a.eval x = .slice (some ⟨g', 0, none⟩) 1 1) (hown : w.ownsRow base 44 3 v n (encG N)) (hB : w.heap[g']? = some (ndO y)) (hn : n ≤ 1000000) (hbase : base ≤ w.heap.size)
    (h : ∀ g cap w', w'.ownsRow base 44 3 (.slice (some ⟨g, 0, none⟩) (n + 1) cap) (n + 1) (encG (N ++ [y])) → w.grownBy w' v.ownBlock → (v.ownBlock = some g ∨ g = w.heap.size) → K (a.put o.dst (.slice (some ⟨g, 0, none⟩) (n + 1) cap)) w') : o.wp Try.prog a w K Q := by
  obtain ⟨i, hi, hz0, hz1, hz2⟩ := info_parts Try.infoNode
  refine wp_append_lies w s x 38 ho base 44 i _ 3 24 Try.underlying38 hi hz0 hz1 hz2 rfl (by decide) v n _ hs hown ⟨g', 0, none⟩ 1 1 (encG [y]) hx rfl (fun j u hj => ?_) (encG_one [y]) (by decide) (by unfold maxLen; omega) (by omega) hbase _ rfl ?_
  · rw [add_plain, Nat.zero_add, cell_row hB]
    simpa [encG] using hj
  · intro g cap w' h1 h2 h3 _
    exact h g cap w' (by rw [encG_append]; exact h1) h2 h3
theorem Try.stepg_nd {w : World} {ops : Array Oper} {o : Oper} {a : Act} {K : Act → World → Prop} {Q : Exit → Act → World → Prop} {E : Prop} (hw : Region.wanted o (yielded ops a.tmps) = true) (s x : Operand)
    (ho : o.op = .call { callee := .builtin .append, args := #[s, x], argTypes := #[38, 38] }) (base : Nat)
    (v : Value) (n : Nat) (N : List Gd) (y : Gd) (g' : Nat) (hs : a.eval s = v) (hx : a.eval x = .slice (some ⟨g', 0, none⟩) 1 1) (hown : w.ownsRow base 44 3 v n (encG N)) (hB : w.heap[g']? = some (ndO y)) (hn : n ≤ 1000000) (hbase : base ≤ w.heap.size)
    (h : ∀ g cap w', w'.ownsRow base 44 3 (.slice (some ⟨g, 0, none⟩) (n + 1) cap) (n + 1) (encG (N ++ [y])) → w.grownBy w' v.ownBlock → (v.ownBlock = some g ∨ g = w.heap.size) → K (a.put o.dst (.slice (some ⟨g, 0, none⟩) (n + 1) cap)) w') :
    if Region.wanted o (yielded ops a.tmps) = true then Oper.wp Try.prog o a w K Q else E := by
  rw [if_pos hw]
  exact Try.wp_nd1 s x ho base v n N y g' hs hx hown hB hn hbase h
/-- The store with one node more. -/
theorem rst_push {w w5 : World} {F : Nat → Prop} {g n cap g5 c5 : Nat} {a : Option Addr} {N : List Gd} (y : Gd) (hy : GdOk y) (hok : ∀ t ∈ N, GdOk t)
    (hb : w.heap[g]? = some (.cells #[.int .i64 (n : Int), .slice a N.length cap] 40 (0, 0))) (hown : w.ownsRow (g + 1) 44 3 (.slice a N.length cap) N.length (encG N)) (hF : ∀ k, F k ↔ (k = g ∨ (Value.slice a N.length cap).ownBlock = some k))
    (hg : (w.alloc (ndO y)).drew.grownBy w5 (Value.slice a N.length cap).ownBlock) (ho : w5.ownsRow (g + 1) 44 3 (.slice (some ⟨g5, 0, none⟩) (N.length + 1) c5) (N.length + 1) (encG (N ++ [y])))
    (hl : (Value.slice a N.length cap).ownBlock = some g5 ∨ g5 = (w.alloc (ndO y)).drew.heap.size) :
    w5.heap[g]? = some (.cells #[.int .i64 (n : Int), .slice a N.length cap] 40 (0, 0)) ∧
      (w5.setCell ⟨g, 1, none⟩ (.slice (some ⟨g5, 0, none⟩) (N.length + 1) c5)).heap[g]? = some (.cells #[.int .i64 (n : Int), .slice (some ⟨g5, 0, none⟩) (N.length + 1) c5] 40 (0, 0)) ∧
      RSt (w5.setCell ⟨g, 1, none⟩ (.slice (some ⟨g5, 0, none⟩) (N.length + 1) c5)) (fun k => k = g ∨ k = g5) g n (N ++ [y]) ∧ Fr w (w5.setCell ⟨g, 1, none⟩ (.slice (some ⟨g5, 0, none⟩) (N.length + 1) c5)) F (fun k => k = g ∨ k = g5) := by
  have hb1 := below_new w (ndO y)
  have hgl := (Array.getElem?_eq_some_iff.1 hb).1
  have hlb := hown.lt
  have hne : (Value.slice a N.length cap).ownBlock ≠ some g := fun e => by have := (hlb g e).1; omega
  have hz : (w.alloc (ndO y)).drew.heap.size = w.heap.size + 1 := by simp
  have st : ∀ k, k < w.heap.size → (Value.slice a N.length cap).ownBlock ≠ some k → w5.heap[k]? = w.heap[k]? := fun k hk hn => (hg.block k (by omega) (fun e => hn e.symm)).trans (hb1.block k hk)
  have h5 := (st g hgl hne).trans hb
  have hs5 := hg.size
  have hg5 : g5 ≠ g := fun e => by
    rcases hl with e2 | e2
    · rw [e] at e2; exact hne e2
    · omega
  have hset : (w5.setCell ⟨g, 1, none⟩ (.slice (some ⟨g5, 0, none⟩) (N.length + 1) c5)).heap[g]? = some (.cells #[.int .i64 (n : Int), .slice (some ⟨g5, 0, none⟩) (N.length + 1) c5] 40 (0, 0)) := by
    rw [heap_setCell_same w5 g 1 _ _ _ h5]; rfl
  refine ⟨h5, hset, ⟨⟨_, hset, ?_, fun k => ?_⟩, fun t ht => ?_⟩, ⟨hg.os, hg.tape, hg.output, ?_, fun k hk hf => ?_, fun k hk => ?_⟩⟩
  · rw [List.length_append]
    exact owns_set ho (by dsimp only; omega) _
  · simp [Value.ownBlock, eq_comm]
  · rcases List.mem_append.1 ht with h | h
    · exact hok t h
    · simp at h; subst h; exact hy
  · simp; omega
  · have hf' := fun e => hf ((hF k).2 e)
    exact (Below.heap_setCell _ _ _ _ (by dsimp only; exact fun e => hf' (.inl e))).trans (st k hk (fun e => hf' (.inr e)))
  · rcases hk with rfl | rfl
    · exact .inl ((hF k).2 (.inl rfl))
    · rcases hl with e | e
      · exact .inl ((hF k).2 (.inr e))
      · right; omega
end Go.Proofs.Ytmnkkknkmbldhaa
