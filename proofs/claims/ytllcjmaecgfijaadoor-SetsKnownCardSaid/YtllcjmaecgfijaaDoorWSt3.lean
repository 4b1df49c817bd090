/- Package sets over the model: slices.Grow, slices.Concat. -/
import Derived.Test.YtllcjmaecgfijaaDoorWSt2
namespace Go.Proofs.YtllcjmaecgfijaaDoor
open Go.RowKit Go.Maps

theorem size_zeroU (n : Nat) : (Builtin.zeroCells (Value.int .u64 0).cells n).size = n * 1 := by
  rw [size_zeroCells]; rfl
theorem iU_append (l k : List Nat) : iU (l ++ k) = iU l ++ iU k := by simp [iU]
/-- Sets behind a list of the call's own. -/
theorem Tryd.append_us {w : World} {ops : Array Oper} {rest : List Oper} {o : Oper} {a : Act} {Q : Exit → Act → World → Prop} (hgd : o.guard = none) (s x : Operand)
    (ho : o.op = .call { callee := .builtin .append, args := #[s, x], argTypes := #[25, 25] }) (base : Nat)
    (v : Value) (xs ys : List Nat) (b : Option Addr) (len cap : Nat) (hs : a.eval s = v) (hx : a.eval x = .slice b len cap) (hown : w.ownsRow base 22 1 v xs.length ((iU xs).map (Value.int .u64))) (hT : USl w b len cap ys)
    (hn : xs.length ≤ 10000000) (hm : ys.length ≤ 10000000) (hbase : base ≤ w.heap.size)
    (h : ∀ v' w', w'.ownsRow base 22 1 v' (xs ++ ys).length ((iU (xs ++ ys)).map (Value.int .u64)) → w.grownBy w' v.ownBlock → wpList Tryd.prog ops Q rest (a.put o.dst v') w') : wpList Tryd.prog ops Q (o :: rest) a w := by
  obtain ⟨i, hi, hz0, hz1, hz2⟩ := info_parts Tryd.infoU64
  have hl := hT.len
  cases b with
  | none =>
    have hc := hT.nn rfl
    have hcl := hT.hcap
    obtain rfl : len = 0 := by omega
    subst hc
    have hy : ys = [] := List.eq_nil_of_length_eq_zero hl.symm
    subst hy
    refine wpList_plain hgd fun _ hK => ?_
    have hrun := run_append_owned_none (P := Tryd.prog) w base 25 o.type 22 i 1 Tryd.underlying25 hi v xs.length _ hown
    unfold Oper.wp execOp
    simp only [ho, resolve, invoke, builtin, Sem.run_bind, Sem.run_pure, Result.andThen_ok, List.map_toArray, List.map_cons, List.map_nil, hs, hx, hrun]
    refine hK _ _ ?_
    exact h v w (by rw [List.append_nil]; exact hown) (World.grownBy.refl _ _)
  | some y =>
    refine wpList_append_own w hgd s x 25 ho base 22 i _ 1 8 Tryd.underlying25 hi hz0 hz1 hz2 rfl (by decide) v xs.length _ hs hown y len cap ((iU ys).map (Value.int .u64)) hx (by simp [hl]) (usl_cells hT) (ints_oneCell .u64 (iU ys)) (by unfold maxLen; omega) (by omega) hbase ?_
    intro v' w' h1 h2 _
    exact h v' w' (by rw [iU_append, List.map_append, List.length_append, ← hl]; exact h1) h2
theorem Tryd.append_zerosU {w : World} {ops : Array Oper} {rest : List Oper} {o : Oper} {a : Act} {Q : Exit → Act → World → Prop} (hgd : o.guard = none) (s x : Operand)
    (ho : o.op = .call { callee := .builtin .append, args := #[s, x], argTypes := #[25, 3] }) (n : Nat) (hs : a.eval s = .slice none 0 0) (hx : a.eval x = .int .i64 (n : Int)) (h0 : 0 < n) (hn : n ≤ 1000000)
    (h : ∀ G w', n ≤ G → w'.ownsRow w.heap.size 22 1 (.slice (some ⟨w.heap.size, 0, none⟩) 0 G) 0 (([] : List Value)) → Below w.heap.size w w' → wpList Tryd.prog ops Q rest (a.put o.dst (.slice (some ⟨w.heap.size, 0, none⟩) n G)) w') : wpList Tryd.prog ops Q (o :: rest) a w := by
  refine wpList_plain hgd fun _ hK => ?_
  obtain ⟨i, hi, hz0, hz1, hz2⟩ := info_parts Tryd.infoU64
  have hrz : ∀ ty, (Builtin.append_ #[25, 3] ty #[.slice none 0 0, .int .i64 (n : Int)]).run Tryd.prog w = .ok (.slice (some ⟨w.heap.size, 0, none⟩) n (grownCap w n 0 22)) (w.drew.alloc (.cells (Builtin.zeroCells (Value.int .u64 0).cells n ++ Builtin.zeroCells (Value.int .u64 0).cells (grownCap w n 0 22 - n)) 22)) := fun ty => by
    have h := Lib.run_append_grow_zeros w 25 3 ty 22 i (.int .u64 0) .i64 .i64 Tryd.underlying25 Tryd.underlying3 hi hz0 none 0 0 [] (run_firstCells_none w.drew i.size 0 0 0) n (by omega) (by omega) (by omega) (by omega) (by rw [hz2]; omega) (growslice_fits (by omega) (by rw [hz2]; omega))
    simpa using h
  have hG := grownCap_ge w n 0 22
  have hG2 := grownCap_le_maxLen w n 0 22 (by unfold maxLen; omega)
  have hcs : (Builtin.zeroCells (Value.int .u64 0).cells n ++ Builtin.zeroCells (Value.int .u64 0).cells (grownCap w n 0 22 - n)).size = grownCap w n 0 22 * 1 := by
    rw [Array.size_append, size_zeroU, size_zeroU]; omega
  generalize Builtin.zeroCells (Value.int .u64 0).cells n ++ Builtin.zeroCells (Value.int .u64 0).cells (grownCap w n 0 22 - n) = cs at *
  generalize grownCap w n 0 22 = G at *
  have HW : (w.drew.alloc (.cells cs 22)).ownsRow w.heap.size 22 1 (.slice (some ⟨w.heap.size, 0, none⟩) 0 G) 0 (([] : List Value)) := ⟨rfl, Or.inr ⟨w.heap.size, G, cs, rfl, Nat.le_refl _, (MapKept.heap_alloc w.drew _).1, Nat.zero_le _, hG2, hcs, rfl⟩⟩
  have HB : Below w.heap.size w (w.drew.alloc (.cells cs 22)) := (Below.refl _ w).drew.alloc (Nat.le_refl _) _
  have hrun := hrz o.type
  unfold Oper.wp execOp
  simp only [ho, resolve, invoke, builtin, Sem.run_bind, Sem.run_pure, Result.andThen_ok, List.map_toArray, List.map_cons, List.map_nil, hs, hx, hrun]
  exact hK _ _ (h G _ hG HW HB)
theorem Tryd.grow_nilU (n : Nat) (w : World) (hn : n ≤ 1000000) :
    Calls Tryd.prog 31 #[.slice none 0 0, .int .i64 (n : Int)] w fun e w' => ∃ v, e = .returned v ∧ w'.ownsRow w.heap.size 22 1 v 0 (([] : List Value)) ∧ Below w.heap.size w w' := by
  have h1 : ¬ ((n : Int) < 0) := by omega
  by_cases h0 : n = 0
  · subst h0
    go_enter Tryd.func31, Tryd.ntmps31
    go_wp2
    go_ret
    exact ⟨_, rfl, ⟨rfl, Or.inl ⟨rfl, rfl⟩⟩, Below.refl _ _⟩
  · have hpos : (0 : Int) < (n : Int) := by omega
    have hw2 : IntKind.i64.wrap ((n : Int) - 0) = (n : Int) := by rw [IntKind.wrap_i64]; omega
    go_enter Tryd.func31, Tryd.ntmps31
    go_wp2_with (at_builtin; refine Tryd.append_zerosU rfl _ _ rfl n rfl rfl (by omega) hn ?_)
    intro G w' hG HW HB
    have HW1 : Hid (World.ownsRow w' w.heap.size 22 1 (.slice (some ⟨w.heap.size, 0, none⟩) 0 G) 0 (([] : List Value))) := HW
    clear HW
    have hG0 : G ≠ 0 := by omega
    go_wp2
    go_ret
    exact ⟨.slice (some ⟨w.heap.size, 0, none⟩) 0 G, rfl, HW1.out, HB⟩
/-- A piece: a list of sets, wherever it lies. -/
structure PcU where
  a : Option Addr
  len : Nat
  cap : Nat
  ts : List Nat
def joinU (ps : List PcU) : List Nat := ps.flatMap (·.ts)
def lensU (ps : List PcU) (k : Nat) : Nat := (joinU (ps.take k)).length
theorem joinU_next {ps : List PcU} {k : Nat} (h : k < ps.length) : joinU (ps.take (k + 1)) = joinU (ps.take k) ++ ps[k].ts := by
  unfold joinU; rw [List.take_add_one, List.getElem?_eq_getElem h, List.flatMap_append]; simp
theorem joinU_le (ps : List PcU) (k : Nat) : (joinU (ps.take k)).length ≤ (joinU ps).length := by
  have h : joinU ps = joinU (ps.take k) ++ joinU (ps.drop k) := by
    unfold joinU; rw [← List.flatMap_append, List.take_append_drop]
  rw [h, List.length_append]; omega
theorem Tryd.sizeUs : (Tryd.prog.info? 25).map (·.size) = some 1 := by kernel_rfl
set_option maxHeartbeats 2000000 in
theorem Tryd.concatU_any (g : Nat) (ps : List PcU) (w : World) (hc : ∀ k (h : k < ps.length), w.cell? ⟨g, k, none⟩ = some (.slice ps[k].a ps[k].len ps[k].cap)) (hg : g < w.heap.size) (hT : ∀ p ∈ ps, USl w p.a p.len p.cap p.ts) (hn : (joinU ps).length ≤ 1000000) (hp : ps.length ≤ 1000) :
    Calls Tryd.prog 27 #[.slice (some ⟨g, 0, none⟩) ps.length ps.length] w fun e w' => ∃ v, e = .returned v ∧ w'.ownsRow w.heap.size 22 1 v (joinU ps).length ((iU (joinU ps)).map (Value.int .u64)) ∧ Below w.heap.size w w' := by
  have hix : ∀ k w', k < ps.length → (Instr.indexAt 32 (.slice (some ⟨g, 0, none⟩) ps.length ps.length) (.int .i64 (k : Nat))).run Tryd.prog w' = .ok (.pointer (some ⟨g, k, none⟩)) w' := fun k w' h => by
    have := idx_of (a := some ⟨g, 0, none⟩) (cap := ps.length) (n := ps.length) Tryd.underlying32 Tryd.sizeUs (by simp) k w' h
    simpa [adOf, add_plain] using this
  have HC : Hid _ := hc
  have HT : Hid _ := hT
  clear hc hT
  have hgr := fun (n : Nat) (h : n ≤ 1000000) w' => Tryd.grow_nilU n w' h
  obtain ⟨n, hnn⟩ : ∃ n, n = ps.length := ⟨_, rfl⟩
  have HN : Hid (n = ps.length) := hnn
  rw [← hnn] at hp hix ⊢
  clear hnn
  have hbk0 : ∀ k, (joinU (ps.take k)).length ≤ 1000000 := fun k => Nat.le_trans (joinU_le ps k) hn
  go_enter Tryd.func27, Tryd.ntmps27
  go_wp2
  go_loopw [3, 11] (fun s j wr => ∃ k : Nat, k ≤ n ∧ j = .int .i64 k ∧ s = .int .i64 (lensU ps k : Nat) ∧ wr = w) (fun _ j _ => n - (intOf j).toNat)
  case atStart => exact ⟨0, Nat.zero_le _, rfl, by simp [lensU, joinU], rfl⟩
  case round =>
    obtain ⟨k, hk, rfl, rfl, hww⟩ := hrel
    obtain rfl : w = wr := hww.symm
    by_cases hlt : k < n
    · have hkl : k < ps.length := by rw [← HN.out]; exact hlt
      have hi := fun w' => hix k w' hlt
      have hc1 := HC.out k hkl
      have hl := (HT.out ps[k] (List.getElem_mem hkl)).len
      have HLL : Hid _ := hl
      have HS : Hid (lensU ps (k + 1) = lensU ps k + ps[k].len) := by
        show _ = _; unfold lensU; rw [joinU_next hkl, List.length_append, hl]
      have hb1 : lensU ps k + ps[k].len ≤ 1000000 := by rw [← HS.out]; exact hbk0 (k + 1)
      generalize lensU ps k = S at *
      generalize ps[k] = p at *
      obtain ⟨pa, pl, pc, pt⟩ := p
      dsimp only at *
      have hw : IntKind.i64.wrap ((S : Int) + (pl : Int)) = ((S + pl : Nat) : Int) := by rw [IntKind.wrap_i64]; omega
      have hneg : ¬ (((S + pl : Nat) : Int) < 0) := by omega
      clear hix
      go_wp2
      go_roundw
      case rel => exact ⟨k + 1, by omega, by go_num, by rw [HS.out]; simp [HLL.out], trivial⟩
      case measure => simp [intOf]; omega
    · obtain rfl : k = n := by omega
      have hbn := hbk0 k
      have HJ : Hid (joinU (ps.take k) = joinU ps) := by show _ = _; rw [List.take_of_length_le (by rw [HN.out]; exact Nat.le_refl _)]
      have hgn := hgr (lensU ps k) hbn
      generalize lensU ps k = S at *
      clear hix
      have hix : ∀ j w', j < k → (Instr.indexAt 32 (.slice (some ⟨g, 0, none⟩) k k) (.int .i64 (j : Nat))).run Tryd.prog w' = .ok (.pointer (some ⟨g, j, none⟩)) w' := fun j w' h => by
        have := idx_of (a := some ⟨g, 0, none⟩) (cap := k) (n := k) Tryd.underlying32 Tryd.sizeUs (by simp) j w' h
        simpa [adOf, add_plain] using this
      go_wp2_with fail
      refine (hgn _).mono ?_
      rintro e w1 ⟨v, rfl, hown, hw1⟩
      have HO : Hid (w1.ownsRow w.heap.size 22 1 v 0 (([] : List Value))) := hown
      clear hown
      go_wp2
      go_loopw [6, 27] (fun s j w2 => ∃ m : Nat, m ≤ k ∧ j = .int .i64 m ∧ Hid (w2.ownsRow w.heap.size 22 1 s (joinU (ps.take m)).length ((iU (joinU (ps.take m))).map (Value.int .u64))) ∧ Hid (Below w.heap.size w w2)) (fun _ j _ => k - (intOf j).toNat)
      case atStart => exact ⟨0, Nat.zero_le _, rfl, HO, hw1⟩
      case round =>
        obtain ⟨m, hm, rfl, HO2, hb2⟩ := hrel
        by_cases hltm : m < k
        · have hml : m < ps.length := by rw [← HN.out]; exact hltm
          have hi := fun w' => hix m w' hltm
          have hc1 := (hb2.out.cell hg).trans (HC.out m hml)
          have hTm := (HT.out ps[m] (List.getElem_mem hml)).up hb2.out
          have HS : Hid (joinU (ps.take (m + 1)) = joinU (ps.take m) ++ ps[m].ts) := joinU_next hml
          have hbm := hbk0 m
          have hpm : ps[m].ts.length ≤ 1000000 := by
            have := hbk0 (m + 1); rw [HS.out, List.length_append] at this; omega
          have hlt := World.ownsRow.lt HO2.out
          have hsz := hb2.out.size
          generalize joinU (ps.take m) = J at *
          generalize ps[m] = p at *
          obtain ⟨pa, pl, pc, pt⟩ := p
          dsimp only at *
          clear hix
          go_wp2_with (at_builtin; refine Tryd.append_us rfl _ _ rfl w.heap.size _ J pt pa pl pc rfl rfl HO2.out hTm (by omega) (by omega) (by omega) ?_)
          intro v3 w3 hown3 hgr3
          have HO3 : Hid (w3.ownsRow w.heap.size 22 1 v3 (J ++ pt).length ((iU (J ++ pt)).map (Value.int .u64))) := by show World.ownsRow _ _ _ _ _ _ _; rw [List.length_append]; simpa using hown3
          have hb3 : Hid (Below w.heap.size w w3) := hb2.out.grown hgr3 hsz (fun j e => (hlt j e).1)
          clear hown3 hgr3
          go_wp2
          go_roundw
          case rel => exact ⟨m + 1, by omega, by go_num, by rw [HS.out]; exact HO3, hb3⟩
          case measure => simp [intOf]; omega
        · obtain rfl : m = k := by omega
          have HF : Hid _ := HO2.out
          rw [HJ.out] at HF
          go_wp2
          go_ret
          exact ⟨_, rfl, HF.out, hb2.out⟩
end Go.Proofs.YtllcjmaecgfijaaDoor
