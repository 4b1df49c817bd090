/- slices.Grow and slices.Concat of lists of tokens. -/
import Derived.Test.YtfojlondflachaaWTk
import Derived.Lib.AppendZerosOnto
namespace Go.Proofs.Ytfojlondflachaa
open Go.RowKit Go.Maps

theorem size_zeroTok (n : Nat) : (Builtin.zeroCells (Value.agg #[.int .u8 0, .int .u8 0]).cells n).size = n * 2 := by
  rw [size_zeroCells]; rfl
theorem Try.append_zeros {w : World} {ops : Array Oper} {rest : List Oper} {o : Oper} {a : Act} {Q : Exit → Act → World → Prop} (hgd : o.guard = none) (s x : Operand)
    (ho : o.op = .call { callee := .builtin .append, args := #[s, x], argTypes := #[22, 3] }) (n : Nat) (hs : a.eval s = .slice none 0 0) (hx : a.eval x = .int .i64 (n : Int)) (h0 : 0 < n) (hn : n ≤ 1000000)
    (h : ∀ G w', n ≤ G → w'.ownsRow w.heap.size 58 2 (.slice (some ⟨w.heap.size, 0, none⟩) 0 G) 0 (encT []) → Below w.heap.size w w' → wpList Try.prog ops Q rest (a.put o.dst (.slice (some ⟨w.heap.size, 0, none⟩) n G)) w') : wpList Try.prog ops Q (o :: rest) a w := by
  refine wpList_plain hgd fun _ hK => ?_
  obtain ⟨i, hi, hz0, hz1, hz2⟩ := info_parts Try.infoTok
  have hrz : ∀ ty, (Builtin.append_ #[22, 3] ty #[.slice none 0 0, .int .i64 (n : Int)]).run Try.prog w = .ok (.slice (some ⟨w.heap.size, 0, none⟩) n (grownCap w n 0 58)) (w.drew.alloc (.cells (Builtin.zeroCells (Value.agg #[.int .u8 0, .int .u8 0]).cells n ++ Builtin.zeroCells (Value.agg #[.int .u8 0, .int .u8 0]).cells (grownCap w n 0 58 - n)) 58)) := fun ty => by
    have h := Lib.run_append_grow_zeros w 22 3 ty 58 i (.agg #[.int .u8 0, .int .u8 0]) .i64 .i64 Try.underlying22 Try.underlying3 hi hz0 none 0 0 [] (run_firstCells_none w.drew i.size 0 0 0) n (by omega) (by omega) (by omega) (by omega) (by rw [hz2]; omega) (growslice_fits (by omega) (by rw [hz2]; omega))
    simpa using h
  have hG := grownCap_ge w n 0 58
  have hG2 := grownCap_le_maxLen w n 0 58 (by unfold maxLen; omega)
  have hcs : (Builtin.zeroCells (Value.agg #[.int .u8 0, .int .u8 0]).cells n ++ Builtin.zeroCells (Value.agg #[.int .u8 0, .int .u8 0]).cells (grownCap w n 0 58 - n)).size = grownCap w n 0 58 * 2 := by
    rw [Array.size_append, size_zeroTok, size_zeroTok]; omega
  generalize Builtin.zeroCells (Value.agg #[.int .u8 0, .int .u8 0]).cells n ++ Builtin.zeroCells (Value.agg #[.int .u8 0, .int .u8 0]).cells (grownCap w n 0 58 - n) = cs at *
  generalize grownCap w n 0 58 = G at *
  have HW : (w.drew.alloc (.cells cs 58)).ownsRow w.heap.size 58 2 (.slice (some ⟨w.heap.size, 0, none⟩) 0 G) 0 (encT []) := ⟨rfl, Or.inr ⟨w.heap.size, G, cs, rfl, Nat.le_refl _, (MapKept.heap_alloc w.drew _).1, Nat.zero_le _, hG2, hcs, rfl⟩⟩
  have HB : Below w.heap.size w (w.drew.alloc (.cells cs 58)) := (Below.refl _ w).drew.alloc (Nat.le_refl _) _
  have hrun := hrz o.type
  unfold Oper.wp execOp
  simp only [ho, resolve, invoke, builtin, Sem.run_bind, Sem.run_pure, Result.andThen_ok, List.map_toArray, List.map_cons, List.map_nil, hs, hx, hrun]
  exact hK _ _ (h G _ hG HW HB)
theorem Try.grow_nil (n : Nat) (w : World) (hn : n ≤ 1000000) :
    Calls Try.prog 95 #[.slice none 0 0, .int .i64 (n : Int)] w fun e w' => ∃ v, e = .returned v ∧ w'.ownsRow w.heap.size 58 2 v 0 (encT []) ∧ Below w.heap.size w w' := by
  have h1 : ¬ ((n : Int) < 0) := by omega
  by_cases h0 : n = 0
  · subst h0
    go_enter Try.func95, Try.ntmps95
    go_wp2
    go_ret
    exact ⟨_, rfl, ⟨rfl, Or.inl ⟨rfl, rfl⟩⟩, Below.refl _ _⟩
  · have hpos : (0 : Int) < (n : Int) := by omega
    have hw2 : IntKind.i64.wrap ((n : Int) - 0) = (n : Int) := by rw [IntKind.wrap_i64]; omega
    go_enter Try.func95, Try.ntmps95
    go_wp2_with (at_builtin; refine Try.append_zeros rfl _ _ rfl n rfl rfl (by omega) hn ?_)
    intro G w' hG HW HB
    have HW1 : Hid (World.ownsRow w' w.heap.size 58 2 (.slice (some ⟨w.heap.size, 0, none⟩) 0 G) 0 (encT [])) := HW
    clear HW
    have hG0 : G ≠ 0 := by omega
    go_wp2
    go_ret
    exact ⟨.slice (some ⟨w.heap.size, 0, none⟩) 0 G, rfl, HW1.out, HB⟩
/-- A piece: a list of tokens, wherever it lies. -/
structure Pc where
  a : Option Addr
  len : Nat
  cap : Nat
  ts : List Tk
def joinP (ps : List Pc) : List Tk := ps.flatMap (·.ts)
def lensTo (ps : List Pc) (k : Nat) : Nat := (joinP (ps.take k)).length
theorem join_next {ps : List Pc} {k : Nat} (h : k < ps.length) : joinP (ps.take (k + 1)) = joinP (ps.take k) ++ ps[k].ts := by
  unfold joinP; rw [List.take_add_one, List.getElem?_eq_getElem h, List.flatMap_append]; simp
theorem join_le (ps : List Pc) (k : Nat) : (joinP (ps.take k)).length ≤ (joinP ps).length := by
  have h : joinP ps = joinP (ps.take k) ++ joinP (ps.drop k) := by
    unfold joinP; rw [← List.flatMap_append, List.take_append_drop]
  rw [h, List.length_append]; omega
theorem Try.sizeToks : (Try.prog.info? 22).map (·.size) = some 1 := by kernel_rfl
set_option maxHeartbeats 2000000 in
theorem Try.concat_any (g : Nat) (ps : List Pc) (w : World) (hc : ∀ k (h : k < ps.length), w.cell? ⟨g, k, none⟩ = some (.slice ps[k].a ps[k].len ps[k].cap)) (hg : g < w.heap.size) (hT : ∀ p ∈ ps, TkSl w p.a p.len p.cap p.ts) (hn : (joinP ps).length ≤ 1000000) (hp : ps.length ≤ 1000) :
    Calls Try.prog 82 #[.slice (some ⟨g, 0, none⟩) ps.length ps.length] w fun e w' => ∃ v, e = .returned v ∧ w'.ownsRow w.heap.size 58 2 v (joinP ps).length (encT (joinP ps)) ∧ Below w.heap.size w w' := by
  have hix : ∀ k w', k < ps.length → (Instr.indexAt 55 (.slice (some ⟨g, 0, none⟩) ps.length ps.length) (.int .i64 (k : Nat))).run Try.prog w' = .ok (.pointer (some ⟨g, k, none⟩)) w' := fun k w' h => by
    have := idx_of (a := some ⟨g, 0, none⟩) (cap := ps.length) (n := ps.length) Try.underlying55 Try.sizeToks (by simp) k w' h
    simpa [adOf, add_plain] using this
  have HC : Hid _ := hc
  have HT : Hid _ := hT
  clear hc hT
  have hgr := fun (n : Nat) (h : n ≤ 1000000) w' => Try.grow_nil n w' h
  obtain ⟨n, hnn⟩ : ∃ n, n = ps.length := ⟨_, rfl⟩
  have HN : Hid (n = ps.length) := hnn
  rw [← hnn] at hp hix ⊢
  clear hnn
  have hbk0 : ∀ k, (joinP (ps.take k)).length ≤ 1000000 := fun k => Nat.le_trans (join_le ps k) hn
  go_enter Try.func82, Try.ntmps82
  go_wp2
  go_loopw [3, 11] (fun s j wr => ∃ k : Nat, k ≤ n ∧ j = .int .i64 k ∧ s = .int .i64 (lensTo ps k : Nat) ∧ wr = w) (fun _ j _ => n - (intOf j).toNat)
  case atStart => exact ⟨0, Nat.zero_le _, rfl, by simp [lensTo, joinP], rfl⟩
  case round =>
    obtain ⟨k, hk, rfl, rfl, hww⟩ := hrel
    obtain rfl : w = wr := hww.symm
    by_cases hlt : k < n
    · have hkl : k < ps.length := by rw [← HN.out]; exact hlt
      have hi := fun w' => hix k w' hlt
      have hc1 := HC.out k hkl
      have hl := (HT.out ps[k] (List.getElem_mem hkl)).hlen
      have HS : Hid (lensTo ps (k + 1) = lensTo ps k + ps[k].len) := by
        show _ = _; unfold lensTo; rw [join_next hkl, List.length_append, hl]
      have hb1 : lensTo ps k + ps[k].len ≤ 1000000 := by rw [← HS.out]; exact hbk0 (k + 1)
      generalize lensTo ps k = S at *
      generalize ps[k] = p at *
      obtain ⟨pa, pl, pc, pt⟩ := p
      dsimp only at *
      have hw : IntKind.i64.wrap ((S : Int) + (pl : Int)) = ((S + pl : Nat) : Int) := by rw [IntKind.wrap_i64]; omega
      have hneg : ¬ (((S + pl : Nat) : Int) < 0) := by omega
      clear hix
      go_wp2
      go_roundw
      case rel => exact ⟨k + 1, by omega, by go_num, by rw [HS.out]; simp, trivial⟩
      case measure => simp [intOf]; omega
    · obtain rfl : k = n := by omega
      have hbn := hbk0 k
      have HJ : Hid (joinP (ps.take k) = joinP ps) := by show _ = _; rw [List.take_of_length_le (by rw [HN.out]; exact Nat.le_refl _)]
      have hgn := hgr (lensTo ps k) hbn
      generalize lensTo ps k = S at *
      clear hix
      have hix : ∀ j w', j < k → (Instr.indexAt 55 (.slice (some ⟨g, 0, none⟩) k k) (.int .i64 (j : Nat))).run Try.prog w' = .ok (.pointer (some ⟨g, j, none⟩)) w' := fun j w' h => by
        have := idx_of (a := some ⟨g, 0, none⟩) (cap := k) (n := k) Try.underlying55 Try.sizeToks (by simp) j w' h
        simpa [adOf, add_plain] using this
      go_wp2_with fail
      refine (hgn _).mono ?_
      rintro e w1 ⟨v, rfl, hown, hw1⟩
      have HO : Hid (w1.ownsRow w.heap.size 58 2 v 0 (encT [])) := hown
      clear hown
      go_wp2
      go_loopw [6, 27] (fun s j w2 => ∃ m : Nat, m ≤ k ∧ j = .int .i64 m ∧ Hid (w2.ownsRow w.heap.size 58 2 s (joinP (ps.take m)).length (encT (joinP (ps.take m)))) ∧ Hid (Below w.heap.size w w2)) (fun _ j _ => k - (intOf j).toNat)
      case atStart => exact ⟨0, Nat.zero_le _, rfl, HO, hw1⟩
      case round =>
        obtain ⟨m, hm, rfl, HO2, hb2⟩ := hrel
        by_cases hltm : m < k
        · have hml : m < ps.length := by rw [← HN.out]; exact hltm
          have hi := fun w' => hix m w' hltm
          have hc1 := (hb2.out.cell hg).trans (HC.out m hml)
          have hTm := (HT.out ps[m] (List.getElem_mem hml)).up hb2.out
          have HS : Hid (joinP (ps.take (m + 1)) = joinP (ps.take m) ++ ps[m].ts) := join_next hml
          have hbm := hbk0 m
          have hpm : ps[m].ts.length ≤ 1000000 := by
            have := hbk0 (m + 1); rw [HS.out, List.length_append] at this; omega
          have hlt := World.ownsRow.lt HO2.out
          have hsz := hb2.out.size
          generalize joinP (ps.take m) = J at *
          generalize ps[m] = p at *
          obtain ⟨pa, pl, pc, pt⟩ := p
          dsimp only at *
          clear hix
          go_wp2_with (at_builtin; refine Try.append_tks rfl _ _ rfl w.heap.size _ J pt pa pl pc rfl rfl HO2.out hTm (by omega) (by omega) (by omega) ?_)
          intro v3 w3 hown3 hgr3
          have HO3 : Hid (w3.ownsRow w.heap.size 58 2 v3 (J ++ pt).length (encT (J ++ pt))) := by rw [List.length_append]; exact hown3
          have hb3 : Hid (Below w.heap.size w w3) := hb2.out.grown hgr3 hsz (fun j e => (hlt j e).1)
          clear hown3 hgr3
          go_wp2
          go_roundw
          case rel => exact ⟨m + 1, by omega, by go_num, by rw [HS.out]; exact HO3, hb3⟩
          case measure => simp [intOf]; omega
        · obtain rfl : m = k := by omega
          have HF : Hid _ := HO2.out
          rw [HJ.out] at HF
          go_wp2
          go_ret
          exact ⟨_, rfl, HF.out, hb2.out⟩
end Go.Proofs.Ytfojlondflachaa
