/- Stage 10's closed law SetsKnown: the chapter's examples. Written by mkkn10.py. -/
import Derived.Test.YtllcjmaecgfijaaDoorWSi1
import Derived.Test.YtllcjmaecgfijaaDoorWSt5
import Derived.Deep.RegionWith
import Derived.Deep.DeepCutAuto
namespace Go.Proofs.YtllcjmaecgfijaaDoor
open Go.RowKit Go.Maps

set_option maxHeartbeats 2000000 in
/-- SameInts tells whether two lists are one. -/
theorem Tryd.sameI_any (a : Option Addr) (len cap : Nat) (xs : List Int) (a' : Option Addr) (len' cap' : Nat) (ys : List Int) (w : World)
    (hS : IntSl Tryd.prog 23 .i64 w a len cap xs) (hO : IntSl Tryd.prog 23 .i64 w a' len' cap' ys) :
    Calls Tryd.prog 7 #[.slice a len cap, .slice a' len' cap'] w fun e w' => e = .returned (.bool (decide (xs = ys))) ∧ ∃ n, w' = w.drewN n := by
  have hb0 := hS.bd
  have hb1 := hS.hcap
  have hb2 := hO.bd
  have hb3 := hO.hcap
  unfold maxLen at hb0 hb2
  by_cases hll : len = len'
  · subst hll
    have hidx := fun (k : Nat) (w : World) (h : k < len) => hS.idx len k w h (Nat.le_refl _)
    have hidx' := fun (k : Nat) (w : World) (h : k < len) => hO.idx len k w h (Nat.le_refl _)
    go_enter Tryd.func7, Tryd.ntmps7
    go_wp2
    go_loopw [5] (fun i wr => ∃ k : Nat, k ≤ len ∧ i = .int .i64 k ∧ Hid (xs.take k = ys.take k) ∧ Hid (∃ n, wr = w.drewN n)) (fun i _ => len - (intOf i).toNat)
    case atStart => exact ⟨0, Nat.zero_le _, rfl, by show _ = _; simp, 0, rfl⟩
    case round =>
      obtain ⟨k, hk, rfl, HU, hwr⟩ := hrel
      by_cases hlt : k < len
      · have hS' : IntSl Tryd.prog 23 .i64 wr a len cap xs := by obtain ⟨n, hn⟩ := hwr.out; rw [hn]; exact hS.drewN n
        have hO' : IntSl Tryd.prog 23 .i64 wr a' len cap' ys := by obtain ⟨n, hn⟩ := hwr.out; rw [hn]; exact hO.drewN n
        have hck := hS'.cell k hlt
        have hck' := hO'.cell k hlt
        have HN : Hid (xs.getD k 0 = ys.getD k 0 → xs.take (k + 1) = ys.take (k + 1)) := fun h => take_eq_next (by rw [hS.hlen]; exact hlt) (by rw [hO.hlen]; exact hlt) HU.out h
        have HM : Hid (xs.getD k 0 ≠ ys.getD k 0 → decide (xs = ys) = false) := fun h => decide_eq_false (fun e => h (by rw [e]))
        clear hS' hO'
        generalize xs.getD k 0 = x at *
        generalize ys.getD k 0 = y at *
        go_wp2
        go_quiet (fail)
        rcases Bool.eq_false_or_eq_true (x != y) with ht | ht
        · go_wp2
          go_ret
          obtain ⟨n, hn⟩ := hwr.out
          exact ⟨by rw [HM.out (by simpa using ht)]; rfl, n + nq, by rw [hn, World.drewN_drewN]⟩
        · have HN2 : Hid _ := HN.out (by simpa using ht)
          go_wp2
          go_roundw
          case rel =>
            obtain ⟨n, hn⟩ := hwr.out
            exact ⟨k + 1, by omega, by go_num, HN2, n + nq, by rw [hn, World.drewN_drewN]⟩
          case measure => simp [intOf]; omega
      · have hx : Hid (decide (xs = ys) = true) := by
          have := HU.out
          rw [List.take_of_length_le (by rw [hS.hlen]; omega), List.take_of_length_le (by rw [hO.hlen]; omega)] at this
          exact decide_eq_true this
        go_wp2
        go_ret
        exact ⟨by rw [hx.out]; rfl, hwr.out⟩
  · have hx : Hid (decide (xs = ys) = false) := decide_eq_false (fun e => hll (by rw [← hS.hlen, ← hO.hlen, e]))
    have hll' : ((len : Int) != (len' : Int)) = true := by simp; omega
    clear hll
    go_enter Tryd.func7, Tryd.ntmps7
    go_wp2
    go_ret
    exact ⟨by rw [hx.out]; rfl, 0, rfl⟩
theorem Tryd.sameN_any (a : Option Addr) (n c : Nat) (l : List Nat) (b : Option Addr) (m d : Nat) (k : List Nat) (w : World) (h : ISl w a n c l) (h' : ISl w b m d k) : Calls Tryd.prog 7 #[.slice a n c, .slice b m d] w (BR (decide (l = k)) w) :=
  (Tryd.sameI_any a n c _ b m d _ w h h').mono fun e w' ⟨h1, q, h2⟩ => ⟨by rw [h1, dec_iU], by rw [h2]; exact below_drewN (Below.refl _ _) q⟩
/-- Numbers that are written out. -/
theorem Tryd.int_lit (l : List Nat) (w : World) (hl : l.length ≤ 2000) : ISl (w.alloc (.cells ((iU l).map (Value.int .i64)).toArray 3)) (some ⟨w.heap.size, 0, none⟩) l.length l.length l := by
  have had : ∀ k, adOf (some ⟨w.heap.size, 0, none⟩) k = ⟨w.heap.size, k, none⟩ := fun k => by simp [adOf, add_plain]
  have hr := (MapKept.heap_alloc w (.cells ((iU l).map (Value.int .i64)).toArray 3)).1
  refine ⟨by simp, Nat.le_refl _, by unfold maxLen; omega, fun m k w hk hm => idx_of Tryd.underlying23 Tryd.sizeI64 (by simp) k w hk, fun k hk => ?_, fun k hk => ?_, by simp⟩
  · rw [had, cell_row hr k]
    simp [List.getD_eq_getElem?_getD, hk]
  · rw [had]
    exact (Array.getElem?_eq_some_iff.1 hr).1
/-- A block of empty sets. -/
def ZerAt (w : World) (g n : Nat) : Prop := w.heap[g]? = some (.cells (madeCells #[.int .u64 0] n) 22 (0, 0))
theorem ZerAt.usl {w : World} {g n : Nat} (h : ZerAt w g n) (hn : n ≤ 2000) : USl w (some ⟨g, 0, none⟩) n n (List.replicate n 0) := by
  have had : ∀ k, adOf (some ⟨g, 0, none⟩) k = ⟨g, k, none⟩ := fun k => by simp [adOf, add_plain]
  refine ⟨by simp, Nat.le_refl _, by unfold maxLen; omega, fun m k w hk hm => idx_of Tryd.underlying25 Tryd.sizeU64 (by simp) k w hk, fun k hk => ?_, fun k hk => ?_, by simp⟩
  · rw [had, cell_row h k]
    simp [madeCells, hk, List.getD_eq_getElem?_getD, Nat.mod_one, iU]
  · rw [had]
    exact (Array.getElem?_eq_some_iff.1 h).1
theorem ZerAt.new (w : World) (n : Nat) : ZerAt (w.alloc (.cells (madeCells #[.int .u64 0] n) 22)) w.heap.size n := (MapKept.heap_alloc w _).1
theorem ZerAt.up {w w' : World} {g n : Nat} (h : ZerAt w g n) (hb : Below w.heap.size w w') : ZerAt w' g n := (hb.block g (Array.getElem?_eq_some_iff.1 h).1).trans h
set_option maxRecDepth 100000 in
theorem Tryd.makeU (n : Nat) (hn : n ≤ 2000) (w : World) : (Instr.makeSlice 25 (.int .i64 (n : Int)) (.int .i64 (n : Int))).run Tryd.prog w = .ok (.slice (some ⟨w.heap.size, 0, none⟩) n n) (w.alloc (.cells (madeCells #[.int .u64 0] n) 22)) := by
  obtain ⟨i, hi, hz0, hz1, hz2⟩ := info_parts Tryd.infoU64
  have := run_make (P := Tryd.prog) w 25 22 i (.int .u64 0) Tryd.underlying25 hi hz0 .i64 .i64 (n : Int) (n : Int) (by omega) (by omega) (by rw [hz2]; omega) (by omega)
  rw [hz1, Int.toNat_natCast, show (Value.int IntKind.u64 0).cells = #[.int .u64 0] from rfl] at this
  simpa using this
theorem two_b (w : World) (o o' : Obj) : ((w.alloc o).alloc o').drew.heap[w.heap.size + 1]? = some o' := by
  have h := (MapKept.heap_alloc (w.alloc o) o').1
  have e : (w.alloc o).heap.size = w.heap.size + 1 := by simp
  rw [e] at h
  exact h
theorem two_a (w : World) (o o' : Obj) : ((w.alloc o).alloc o').drew.heap[w.heap.size]? = some o :=
  ((below_new (w.alloc o) o').block w.heap.size (by simp)).trans (MapKept.heap_alloc w o).1
theorem sm_rep (n : Nat) : Sm (List.replicate n 0) := fun x hx => by rw [(List.mem_replicate.1 hx).2]; decide
theorem least_zeros {l : List Nat} (h0 : ∀ x ∈ l, x = 0) (hne : l ≠ []) : leastL l = [0] := by
  symm
  have hm : 0 ∈ l := by
    cases l with
    | nil => exact absurd rfl hne
    | cons x l => have := h0 x (by simp); subst this; simp
  refine leastL_of ⟨List.pairwise_singleton _ _, fun x => ?_⟩
  rw [List.mem_singleton]
  constructor
  · rintro rfl
    exact ⟨hm, fun y hy _ => h0 y hy⟩
  · rintro ⟨h1, _⟩
    exact h0 x h1
theorem lz32 : leastL (uniL (List.replicate 32 0) (List.replicate 32 0)) = [0] := least_zeros (fun x hx => by
    obtain ⟨y, hy, hx⟩ := List.mem_flatMap.1 hx
    obtain ⟨z, hz, rfl⟩ := List.mem_map.1 hx
    rw [(List.mem_replicate.1 hy).2, (List.mem_replicate.1 hz).2]; rfl) (fun h => by
    have := congrArg List.length h
    rw [uniL_length] at this
    simp at this)
theorem lz1024 : leastL (List.replicate 1024 0 ++ []) = [0] := least_zeros (fun x hx => by
    rw [List.append_nil] at hx
    exact (List.mem_replicate.1 hx).2) (fun h => by
    have := congrArg List.length h
    rw [List.append_nil, List.length_replicate] at this
    exact absurd this (by decide))
theorem kn1 : leastL [6, 0] = [0] := by decide
theorem kn2 : leastL ([] : List Nat) = [] := rfl
theorem kc1 : decide ([1, 6] = leastL [1, 6]) = true := by decide
theorem kc2 : decide ([6, 1] = leastL [6, 1]) = false := by decide
theorem kc3 : decide ([1, 3] = leastL [1, 3]) = false := by decide
theorem kc4 : decide (([] : List Nat) = leastL []) = true := by decide
theorem kc5 : decide ([1, 1] = leastL [1, 1]) = false := by decide
theorem ka1 : leastL (uniL [1, 2] [1, 4]) = [1, 6] := by decide
theorem kh1 : hoB [3, 4] 7 = true := by decide
theorem kh2 : hoB [3, 4] 2 = false := by decide
theorem kh3 : hoB [0] 0 = true := by decide
theorem kh4 : hoB [] 7 = false := by decide
theorem ki1 : itemsL 13 = [0, 2, 3] := by decide
set_option maxRecDepth 100000 in
set_option maxHeartbeats 1000000 in
theorem Tryd.setsKnown_any (w : World) (hT : Tab64 w) : Calls Tryd.prog 4 #[] w (BR true w) := by
  have HC : Hid SetC := Tryd.setC
  have HT : Hid (Tab64 w) := hT
  have HB : Hid (Below w.heap.size w w) := Below.refl _ _
  clear hT
  obtain ⟨w0, hw0⟩ : ∃ w0, w0 = w := ⟨_, rfl⟩
  have HW0 : Hid (w0 = w) := hw0
  have HB0 : Hid (Below w.heap.size w w0) := by rw [hw0]; exact HB.out
  conv => arg 4; rw [← hw0]
  clear hw0 HB HW0
  go_enter Tryd.func4, Tryd.ntmps4
  have l0 : USl ((w0).alloc (.cells #[.int .u64 6, .int .u64 0] 22)) (some ⟨(w0).heap.size, 0, none⟩) 2 2 [6, 0] := Tryd.set_lit [6, 0] (w0) (by decide)
  have HN : Hid (Below w0.heap.size w0 ((w0).alloc (.cells #[.int .u64 6, .int .u64 0] 22))) := below_new w0 _
  have jj := HC.out.least _ 2 2 [6, 0] ((w0).alloc (.cells #[.int .u64 6, .int .u64 0] 22)) l0 (by unfold Sm; decide) (by decide)
  rw [kn1] at jj
  clear l0
  go_wp2_with fail
  refine jj.mono ?_
  rintro e w1 ⟨sa, sac, rfl, hS, hb⟩
  have hstep : Below w0.heap.size w0 w1 := below_step HN.out hb
  have HB1 : Hid (Below w.heap.size w w1) := below_step HB0.out hstep
  have SA_1 : Hid (USl w1 sa 1 sac [0]) := hS
  clear jj hb HN hstep HB0 hS
  dsimp only [List.length_cons, List.length_nil, Nat.zero_add, Nat.reduceAdd]
  have l0 : USl ((w1).alloc (.cells #[.int .u64 0] 22)) (some ⟨(w1).heap.size, 0, none⟩) 1 1 [0] := Tryd.set_lit [0] (w1) (by decide)
  have HN : Hid (Below w1.heap.size w1 ((w1).alloc (.cells #[.int .u64 0] 22))) := below_new w1 _
  have jj := Tryd.sameS_any _ 1 _ [0] _ 1 1 [0] ((w1).alloc (.cells #[.int .u64 0] 22)) (SA_1.out.up HN.out) l0
  rw [decide_eq_true rfl] at jj
  clear l0
  go_wp2_with fail
  refine jj.mono ?_
  rintro e w2 ⟨rfl, hb⟩
  have hstep : Below w1.heap.size w1 w2 := below_step HN.out hb
  have HB2 : Hid (Below w.heap.size w w2) := below_step HB1.out hstep
  have SA_2 : Hid (USl w2 sa 1 sac [0]) := SA_1.out.up hstep
  clear SA_1
  clear jj hb HN hstep HB1
  dsimp only [List.length_cons, List.length_nil, Nat.zero_add, Nat.reduceAdd]
  clear SA_2
  have HN : Hid (Below w2.heap.size w2 (w2)) := Below.refl _ _
  have jj := HC.out.least none 0 0 [] (w2) usl_nil (by unfold Sm; decide) (by decide)
  rw [kn2] at jj
  go_wp2_with fail
  refine jj.mono ?_
  rintro e w3 ⟨q, qc, rfl, hS, hb⟩
  have hstep : Below w2.heap.size w2 w3 := below_step HN.out hb
  have HB3 : Hid (Below w.heap.size w w3) := below_step HB2.out hstep
  clear jj hb HN hstep HB2 hS
  dsimp only [List.length_cons, List.length_nil, Nat.zero_add, Nat.reduceAdd]
  have l0 : USl ((w3).alloc (.cells #[.int .u64 1, .int .u64 6] 22)) (some ⟨(w3).heap.size, 0, none⟩) 2 2 [1, 6] := Tryd.set_lit [1, 6] (w3) (by decide)
  have HN : Hid (Below w3.heap.size w3 ((w3).alloc (.cells #[.int .u64 1, .int .u64 6] 22))) := below_new w3 _
  have jj := HC.out.check _ 2 2 [1, 6] ((w3).alloc (.cells #[.int .u64 1, .int .u64 6] 22)) l0 (by unfold Sm; decide) (by decide)
  rw [kc1] at jj
  clear l0
  go_wp2_with fail
  refine jj.mono ?_
  rintro e w4 ⟨rfl, hb⟩
  have hstep : Below w3.heap.size w3 w4 := below_step HN.out hb
  have HB4 : Hid (Below w.heap.size w w4) := below_step HB3.out hstep
  clear jj hb HN hstep HB3
  dsimp only [List.length_cons, List.length_nil, Nat.zero_add, Nat.reduceAdd]
  have l0 : USl ((w4).alloc (.cells #[.int .u64 6, .int .u64 1] 22)) (some ⟨(w4).heap.size, 0, none⟩) 2 2 [6, 1] := Tryd.set_lit [6, 1] (w4) (by decide)
  have HN : Hid (Below w4.heap.size w4 ((w4).alloc (.cells #[.int .u64 6, .int .u64 1] 22))) := below_new w4 _
  have jj := HC.out.check _ 2 2 [6, 1] ((w4).alloc (.cells #[.int .u64 6, .int .u64 1] 22)) l0 (by unfold Sm; decide) (by decide)
  rw [kc2] at jj
  clear l0
  go_wp2_with fail
  refine jj.mono ?_
  rintro e w5 ⟨rfl, hb⟩
  have hstep : Below w4.heap.size w4 w5 := below_step HN.out hb
  have HB5 : Hid (Below w.heap.size w w5) := below_step HB4.out hstep
  clear jj hb HN hstep HB4
  dsimp only [List.length_cons, List.length_nil, Nat.zero_add, Nat.reduceAdd]
  have l0 : USl ((w5).alloc (.cells #[.int .u64 1, .int .u64 3] 22)) (some ⟨(w5).heap.size, 0, none⟩) 2 2 [1, 3] := Tryd.set_lit [1, 3] (w5) (by decide)
  have HN : Hid (Below w5.heap.size w5 ((w5).alloc (.cells #[.int .u64 1, .int .u64 3] 22))) := below_new w5 _
  have jj := HC.out.check _ 2 2 [1, 3] ((w5).alloc (.cells #[.int .u64 1, .int .u64 3] 22)) l0 (by unfold Sm; decide) (by decide)
  rw [kc3] at jj
  clear l0
  go_wp2_with fail
  refine jj.mono ?_
  rintro e w6 ⟨rfl, hb⟩
  have hstep : Below w5.heap.size w5 w6 := below_step HN.out hb
  have HB6 : Hid (Below w.heap.size w w6) := below_step HB5.out hstep
  clear jj hb HN hstep HB5
  dsimp only [List.length_cons, List.length_nil, Nat.zero_add, Nat.reduceAdd]
  have HN : Hid (Below w6.heap.size w6 (w6)) := Below.refl _ _
  have jj := HC.out.check none 0 0 [] (w6) usl_nil (by unfold Sm; decide) (by decide)
  rw [kc4] at jj
  go_wp2_with fail
  refine jj.mono ?_
  rintro e w7 ⟨rfl, hb⟩
  have hstep : Below w6.heap.size w6 w7 := below_step HN.out hb
  have HB7 : Hid (Below w.heap.size w w7) := below_step HB6.out hstep
  clear jj hb HN hstep HB6
  dsimp only [List.length_cons, List.length_nil, Nat.zero_add, Nat.reduceAdd]
  have l0 : USl ((w7).alloc (.cells #[.int .u64 1, .int .u64 1] 22)) (some ⟨(w7).heap.size, 0, none⟩) 2 2 [1, 1] := Tryd.set_lit [1, 1] (w7) (by decide)
  have HN : Hid (Below w7.heap.size w7 ((w7).alloc (.cells #[.int .u64 1, .int .u64 1] 22))) := below_new w7 _
  have jj := HC.out.check _ 2 2 [1, 1] ((w7).alloc (.cells #[.int .u64 1, .int .u64 1] 22)) l0 (by unfold Sm; decide) (by decide)
  rw [kc5] at jj
  clear l0
  go_wp2_with fail
  refine jj.mono ?_
  rintro e w8 ⟨rfl, hb⟩
  have hstep : Below w7.heap.size w7 w8 := below_step HN.out hb
  have HB8 : Hid (Below w.heap.size w w8) := below_step HB7.out hstep
  clear jj hb HN hstep HB7
  dsimp only [List.length_cons, List.length_nil, Nat.zero_add, Nat.reduceAdd]
  have l0 : USl ((w8).alloc (.cells #[.int .u64 1, .int .u64 2] 22)) (some ⟨(w8).heap.size, 0, none⟩) 2 2 [1, 2] := Tryd.set_lit [1, 2] (w8) (by decide)
  have l1 : USl (((w8).alloc (.cells #[.int .u64 1, .int .u64 2] 22)).alloc (.cells #[.int .u64 1, .int .u64 4] 22)) (some ⟨((w8).alloc (.cells #[.int .u64 1, .int .u64 2] 22)).heap.size, 0, none⟩) 2 2 [1, 4] := Tryd.set_lit [1, 4] ((w8).alloc (.cells #[.int .u64 1, .int .u64 2] 22)) (by decide)
  have l0 := l0.up (below_new ((w8).alloc (.cells #[.int .u64 1, .int .u64 2] 22)) (.cells #[.int .u64 1, .int .u64 4] 22))
  have HN : Hid (Below w8.heap.size w8 (((w8).alloc (.cells #[.int .u64 1, .int .u64 2] 22)).alloc (.cells #[.int .u64 1, .int .u64 4] 22))) := below_step (below_new w8 _) (below_new _ _)
  have jj := HC.out.and _ 2 2 [1, 2] _ 2 2 [1, 4] (((w8).alloc (.cells #[.int .u64 1, .int .u64 2] 22)).alloc (.cells #[.int .u64 1, .int .u64 4] 22)) l0 l1 (by unfold Sm; decide) (by unfold Sm; decide) (by decide) (by decide) (by decide)
  rw [ka1] at jj
  clear l0
  clear l1
  rw [show ((w8.alloc (.cells #[.int .u64 1, .int .u64 2] 22)).heap.size) = w8.heap.size + 1 by simp [go_sem]] at jj
  go_wp2_with fail
  refine jj.mono ?_
  rintro e w9 ⟨sb, sbc, rfl, hS, hb⟩
  have hstep : Below w8.heap.size w8 w9 := below_step HN.out hb
  have HB9 : Hid (Below w.heap.size w w9) := below_step HB8.out hstep
  have SB_9 : Hid (USl w9 sb 2 sbc [1, 6]) := hS
  clear jj hb HN hstep HB8 hS
  dsimp only [List.length_cons, List.length_nil, Nat.zero_add, Nat.reduceAdd]
  have l0 : USl ((w9).alloc (.cells #[.int .u64 3, .int .u64 4] 22)) (some ⟨(w9).heap.size, 0, none⟩) 2 2 [3, 4] := Tryd.set_lit [3, 4] (w9) (by decide)
  have HN : Hid (Below w9.heap.size w9 ((w9).alloc (.cells #[.int .u64 3, .int .u64 4] 22))) := below_new w9 _
  have jj := HC.out.holds _ 2 2 [3, 4] 7 ((w9).alloc (.cells #[.int .u64 3, .int .u64 4] 22)) l0 (by unfold Sm; decide) (by decide) (by decide)
  rw [kh1] at jj
  clear l0
  go_wp2_with fail
  refine jj.mono ?_
  rintro e w10 ⟨rfl, hb⟩
  have hstep : Below w9.heap.size w9 w10 := below_step HN.out hb
  have HB10 : Hid (Below w.heap.size w w10) := below_step HB9.out hstep
  have SB_10 : Hid (USl w10 sb 2 sbc [1, 6]) := SB_9.out.up hstep
  clear SB_9
  clear jj hb HN hstep HB9
  dsimp only [List.length_cons, List.length_nil, Nat.zero_add, Nat.reduceAdd]
  have l0 : USl ((w10).alloc (.cells #[.int .u64 3, .int .u64 4] 22)) (some ⟨(w10).heap.size, 0, none⟩) 2 2 [3, 4] := Tryd.set_lit [3, 4] (w10) (by decide)
  have HN : Hid (Below w10.heap.size w10 ((w10).alloc (.cells #[.int .u64 3, .int .u64 4] 22))) := below_new w10 _
  have jj := HC.out.holds _ 2 2 [3, 4] 2 ((w10).alloc (.cells #[.int .u64 3, .int .u64 4] 22)) l0 (by unfold Sm; decide) (by decide) (by decide)
  rw [kh2] at jj
  clear l0
  go_wp2_with fail
  refine jj.mono ?_
  rintro e w11 ⟨rfl, hb⟩
  have hstep : Below w10.heap.size w10 w11 := below_step HN.out hb
  have HB11 : Hid (Below w.heap.size w w11) := below_step HB10.out hstep
  have SB_11 : Hid (USl w11 sb 2 sbc [1, 6]) := SB_10.out.up hstep
  clear SB_10
  clear jj hb HN hstep HB10
  dsimp only [List.length_cons, List.length_nil, Nat.zero_add, Nat.reduceAdd]
  have l0 : USl ((w11).alloc (.cells #[.int .u64 0] 22)) (some ⟨(w11).heap.size, 0, none⟩) 1 1 [0] := Tryd.set_lit [0] (w11) (by decide)
  have HN : Hid (Below w11.heap.size w11 ((w11).alloc (.cells #[.int .u64 0] 22))) := below_new w11 _
  have jj := HC.out.holds _ 1 1 [0] 0 ((w11).alloc (.cells #[.int .u64 0] 22)) l0 (by unfold Sm; decide) (by decide) (by decide)
  rw [kh3] at jj
  clear l0
  go_wp2_with fail
  refine jj.mono ?_
  rintro e w12 ⟨rfl, hb⟩
  have hstep : Below w11.heap.size w11 w12 := below_step HN.out hb
  have HB12 : Hid (Below w.heap.size w w12) := below_step HB11.out hstep
  have SB_12 : Hid (USl w12 sb 2 sbc [1, 6]) := SB_11.out.up hstep
  clear SB_11
  clear jj hb HN hstep HB11
  dsimp only [List.length_cons, List.length_nil, Nat.zero_add, Nat.reduceAdd]
  have HN : Hid (Below w12.heap.size w12 (w12)) := Below.refl _ _
  have jj := HC.out.holds none 0 0 [] 7 (w12) usl_nil (by unfold Sm; decide) (by decide) (by decide)
  rw [kh4] at jj
  go_wp2_with fail
  refine jj.mono ?_
  rintro e w13 ⟨rfl, hb⟩
  have hstep : Below w12.heap.size w12 w13 := below_step HN.out hb
  have HB13 : Hid (Below w.heap.size w w13) := below_step HB12.out hstep
  have SB_13 : Hid (USl w13 sb 2 sbc [1, 6]) := SB_12.out.up hstep
  clear SB_12
  clear jj hb HN hstep HB12
  dsimp only [List.length_cons, List.length_nil, Nat.zero_add, Nat.reduceAdd]
  obtain ⟨z33, hz33⟩ : ∃ o, o = madeCells #[.int .u64 0] 33 := ⟨_, rfl⟩
  have m33 : ∀ w', (Instr.makeSlice 25 (.int .i64 33) (.int .i64 33)).run Tryd.prog w' = .ok (.slice (some ⟨w'.heap.size, 0, none⟩) 33 33) (w'.alloc (.cells z33 22)) := fun w' => by rw [hz33]; exact Tryd.makeU 33 (by decide) w'
  have HZ33 : Hid (z33 = madeCells #[.int .u64 0] 33) := hz33
  clear hz33
  obtain ⟨z32, hz32⟩ : ∃ o, o = madeCells #[.int .u64 0] 32 := ⟨_, rfl⟩
  have m32 : ∀ w', (Instr.makeSlice 25 (.int .i64 32) (.int .i64 32)).run Tryd.prog w' = .ok (.slice (some ⟨w'.heap.size, 0, none⟩) 32 32) (w'.alloc (.cells z32 22)) := fun w' => by rw [hz32]; exact Tryd.makeU 32 (by decide) w'
  have HZ32 : Hid (z32 = madeCells #[.int .u64 0] 32) := hz32
  clear hz32
  have HN9 : Hid (∀ (a b : Option Addr) (w' : World), Calls Tryd.prog 15 #[.slice a 33 33, .slice b 32 32] w' (LE 9 [] w')) := fun a b w' => Tryd.and_no a 33 33 b 32 32 w' (by decide) (by decide) (by decide)
  go_upto_region 5 with fail
  go_cut [6, 7] (fun v6 v7 wx => v7 = .int .i64 9 ∧ Hid (Below w13.heap.size w13 wx))
  case first =>
    go_region_with (go_at_call 15; refine (HN9.out _ _ _).mono ?_; rintro e wz ⟨q, qc, rfl, hS, hb⟩)
    all_goals have hB2 := below_step (below_step (below_new w13 _) (below_new _ _)).drew hb
    all_goals go_wp2_with fail
    all_goals go_meet
    all_goals exact ⟨rfl, hB2⟩
  case rest =>
  obtain ⟨rfl, HX⟩ := hcut
  have hstep : Below w13.heap.size w13 wc := HX.out
  have HB14 : Hid (Below w.heap.size w wc) := below_step HB13.out hstep
  have SB_14 : Hid (USl wc sb 2 sbc [1, 6]) := SB_13.out.up hstep
  clear SB_13
  clear hstep HX HB13 m33 HZ33 HN9 m32 HZ32
  generalize wc = w14 at *
  obtain ⟨z32, hz32⟩ : ∃ o, o = madeCells #[.int .u64 0] 32 := ⟨_, rfl⟩
  have m32 : ∀ w', (Instr.makeSlice 25 (.int .i64 32) (.int .i64 32)).run Tryd.prog w' = .ok (.slice (some ⟨w'.heap.size, 0, none⟩) 32 32) (w'.alloc (.cells z32 22)) := fun w' => by rw [hz32]; exact Tryd.makeU 32 (by decide) w'
  have HZ32 : Hid (z32 = madeCells #[.int .u64 0] 32) := hz32
  clear hz32
  have HN9 : Hid (∀ (a b : Option Addr) (w' : World), USl w' a 32 32 (List.replicate 32 0) → USl w' b 32 32 (List.replicate 32 0) → Calls Tryd.prog 15 #[.slice a 32 32, .slice b 32 32] w' (LE 0 [0] w')) := fun a b w' h1 h2 => by
    have := HC.out.and a 32 32 _ b 32 32 _ w' h1 h2 (sm_rep 32) (sm_rep 32) (by decide) (by decide) (by decide)
    rw [lz32] at this
    exact this
  have HNZ : Hid (∀ g w', w'.heap[g]? = some (.cells z32 22 (0, 0)) → USl w' (some ⟨g, 0, none⟩) 32 32 (List.replicate 32 0)) := fun g w' h => ZerAt.usl (by rw [HZ32.out] at h; exact h) (by decide)
  go_upto_region 6 with fail
  go_cut [8, 9] (fun v8 v9 wx => ∃ q qc, v8 = .slice q 1 qc ∧ v9 = .int .i64 0 ∧ Hid (USl wx q 1 qc [0]) ∧ Hid (Below w14.heap.size w14 wx))
  case first =>
    go_region_with (go_at_call 15; refine (HN9.out _ _ _ (HNZ.out _ _ ?_) (HNZ.out _ _ ?_)).mono ?_; (first | exact two_a _ _ _ | exact two_b _ _ _); (first | exact two_a _ _ _ | exact two_b _ _ _); rintro e wz ⟨q, qc, rfl, hS, hb⟩)
    all_goals have hB2 := below_step (below_step (below_new w14 _) (below_new _ _)).drew hb
    all_goals go_wp2_with fail
    all_goals go_meet
    all_goals exact ⟨q, qc, rfl, rfl, hS, hB2⟩
  case rest =>
  obtain ⟨sd, sdc, rfl, rfl, HS, HX⟩ := hcut
  have hstep : Below w14.heap.size w14 wc := HX.out
  have HB15 : Hid (Below w.heap.size w wc) := below_step HB14.out hstep
  have SB_15 : Hid (USl wc sb 2 sbc [1, 6]) := SB_14.out.up hstep
  clear SB_14
  have SD_15 : Hid (USl wc sd 1 sdc [0]) := HS
  clear hstep HX HB14 m32 HZ32 HN9 HS
  generalize wc = w15 at *
  clear HNZ
  obtain ⟨z1024, hz1024⟩ : ∃ o, o = madeCells #[.int .u64 0] 1024 := ⟨_, rfl⟩
  have m1024 : ∀ w', (Instr.makeSlice 25 (.int .i64 1024) (.int .i64 1024)).run Tryd.prog w' = .ok (.slice (some ⟨w'.heap.size, 0, none⟩) 1024 1024) (w'.alloc (.cells z1024 22)) := fun w' => by rw [hz1024]; exact Tryd.makeU 1024 (by decide) w'
  have HZ1024 : Hid (z1024 = madeCells #[.int .u64 0] 1024) := hz1024
  clear hz1024
  obtain ⟨z1, hz1⟩ : ∃ o, o = madeCells #[.int .u64 0] 1 := ⟨_, rfl⟩
  have m1 : ∀ w', (Instr.makeSlice 25 (.int .i64 1) (.int .i64 1)).run Tryd.prog w' = .ok (.slice (some ⟨w'.heap.size, 0, none⟩) 1 1) (w'.alloc (.cells z1 22)) := fun w' => by rw [hz1]; exact Tryd.makeU 1 (by decide) w'
  have HZ1 : Hid (z1 = madeCells #[.int .u64 0] 1) := hz1
  clear hz1
  have HN9 : Hid (∀ (a b : Option Addr) (w' : World), Calls Tryd.prog 17 #[.slice a 1024 1024, .slice b 1 1] w' (LE 9 [] w')) := fun a b w' => Tryd.or_no a 1024 1024 b 1 1 w' (by decide) (by decide) (by decide)
  go_upto_region 7 with fail
  go_cut [10, 11] (fun v10 v11 wx => v11 = .int .i64 9 ∧ Hid (Below w15.heap.size w15 wx))
  case first =>
    go_region_with (go_at_call 17; refine (HN9.out _ _ _).mono ?_; rintro e wz ⟨q, qc, rfl, hS, hb⟩)
    all_goals have hB2 := below_step (below_step (below_new w15 _) (below_new _ _)).drew hb
    all_goals go_wp2_with fail
    all_goals go_meet
    all_goals exact ⟨rfl, hB2⟩
  case rest =>
  obtain ⟨rfl, HX⟩ := hcut
  have hstep : Below w15.heap.size w15 wc := HX.out
  have HB16 : Hid (Below w.heap.size w wc) := below_step HB15.out hstep
  have SB_16 : Hid (USl wc sb 2 sbc [1, 6]) := SB_15.out.up hstep
  clear SB_15
  have SD_16 : Hid (USl wc sd 1 sdc [0]) := SD_15.out.up hstep
  clear SD_15
  clear hstep HX HB15 m1024 HZ1024 HN9 m1 HZ1
  generalize wc = w16 at *
  obtain ⟨z1024, hz1024⟩ : ∃ o, o = madeCells #[.int .u64 0] 1024 := ⟨_, rfl⟩
  have m1024 : ∀ w', (Instr.makeSlice 25 (.int .i64 1024) (.int .i64 1024)).run Tryd.prog w' = .ok (.slice (some ⟨w'.heap.size, 0, none⟩) 1024 1024) (w'.alloc (.cells z1024 22)) := fun w' => by rw [hz1024]; exact Tryd.makeU 1024 (by decide) w'
  have HZ1024 : Hid (z1024 = madeCells #[.int .u64 0] 1024) := hz1024
  clear hz1024
  have HN : Hid (Below w16.heap.size w16 (w16.alloc (.cells z1024 22))) := below_new _ _
  have hzz : USl (w16.alloc (.cells z1024 22)) (some ⟨w16.heap.size, 0, none⟩) 1024 1024 (List.replicate 1024 0) := ZerAt.usl (by rw [HZ1024.out]; exact ZerAt.new w16 1024) (by decide)
  have jj := HC.out.or _ 1024 1024 _ none 0 0 [] _ hzz usl_nil (sm_rep 1024) (by unfold Sm; decide) (by decide)
  rw [lz1024] at jj
  clear hzz HZ1024
  go_wp2_with fail
  refine jj.mono ?_
  rintro e w17 ⟨se, sec, rfl, hS, hb⟩
  have hstep : Below w16.heap.size w16 w17 := below_step HN.out hb
  have HB17 : Hid (Below w.heap.size w w17) := below_step HB16.out hstep
  have SB_17 : Hid (USl w17 sb 2 sbc [1, 6]) := SB_16.out.up hstep
  clear SB_16
  have SD_17 : Hid (USl w17 sd 1 sdc [0]) := SD_16.out.up hstep
  clear SD_16
  have SE_17 : Hid (USl w17 se 1 sec [0]) := hS
  clear jj hb HN hstep HB16 hS m1024
  dsimp only [List.length_cons, List.length_nil, Nat.zero_add, Nat.reduceAdd]
  have HN : Hid (Below w17.heap.size w17 (w17)) := Below.refl _ _
  have jj := Tryd.sawake_any HC.out (w17)
  go_wp2_with fail
  refine jj.mono ?_
  rintro e w18 ⟨rfl, hb⟩
  have hstep : Below w17.heap.size w17 w18 := below_step HN.out hb
  have HB18 : Hid (Below w.heap.size w w18) := below_step HB17.out hstep
  have SB_18 : Hid (USl w18 sb 2 sbc [1, 6]) := SB_17.out.up hstep
  clear SB_17
  have SD_18 : Hid (USl w18 sd 1 sdc [0]) := SD_17.out.up hstep
  clear SD_17
  have SE_18 : Hid (USl w18 se 1 sec [0]) := SE_17.out.up hstep
  clear SE_17
  clear jj hb HN hstep HB17
  dsimp only [List.length_cons, List.length_nil, Nat.zero_add, Nat.reduceAdd]
  have l0 : USl ((w18).alloc (.cells #[.int .u64 1, .int .u64 6] 22)) (some ⟨(w18).heap.size, 0, none⟩) 2 2 [1, 6] := Tryd.set_lit [1, 6] (w18) (by decide)
  have HN : Hid (Below w18.heap.size w18 ((w18).alloc (.cells #[.int .u64 1, .int .u64 6] 22))) := below_new w18 _
  have jj := Tryd.sameS_any _ 2 _ [1, 6] _ 2 2 [1, 6] ((w18).alloc (.cells #[.int .u64 1, .int .u64 6] 22)) (SB_18.out.up HN.out) l0
  rw [decide_eq_true rfl] at jj
  clear l0
  go_wp2_with fail
  refine jj.mono ?_
  rintro e w19 ⟨rfl, hb⟩
  have hstep : Below w18.heap.size w18 w19 := below_step HN.out hb
  have HB19 : Hid (Below w.heap.size w w19) := below_step HB18.out hstep
  have SB_19 : Hid (USl w19 sb 2 sbc [1, 6]) := SB_18.out.up hstep
  clear SB_18
  have SD_19 : Hid (USl w19 sd 1 sdc [0]) := SD_18.out.up hstep
  clear SD_18
  have SE_19 : Hid (USl w19 se 1 sec [0]) := SE_18.out.up hstep
  clear SE_18
  clear jj hb HN hstep HB18
  dsimp only [List.length_cons, List.length_nil, Nat.zero_add, Nat.reduceAdd]
  clear SB_19
  have l0 : USl ((w19).alloc (.cells #[.int .u64 0] 22)) (some ⟨(w19).heap.size, 0, none⟩) 1 1 [0] := Tryd.set_lit [0] (w19) (by decide)
  have HN : Hid (Below w19.heap.size w19 ((w19).alloc (.cells #[.int .u64 0] 22))) := below_new w19 _
  have jj := Tryd.sameS_any _ 1 _ [0] _ 1 1 [0] ((w19).alloc (.cells #[.int .u64 0] 22)) (SD_19.out.up HN.out) l0
  rw [decide_eq_true rfl] at jj
  clear l0
  go_wp2_with fail
  refine jj.mono ?_
  rintro e w20 ⟨rfl, hb⟩
  have hstep : Below w19.heap.size w19 w20 := below_step HN.out hb
  have HB20 : Hid (Below w.heap.size w w20) := below_step HB19.out hstep
  have SD_20 : Hid (USl w20 sd 1 sdc [0]) := SD_19.out.up hstep
  clear SD_19
  have SE_20 : Hid (USl w20 se 1 sec [0]) := SE_19.out.up hstep
  clear SE_19
  clear jj hb HN hstep HB19
  dsimp only [List.length_cons, List.length_nil, Nat.zero_add, Nat.reduceAdd]
  clear SD_20
  have l0 : USl ((w20).alloc (.cells #[.int .u64 0] 22)) (some ⟨(w20).heap.size, 0, none⟩) 1 1 [0] := Tryd.set_lit [0] (w20) (by decide)
  have HN : Hid (Below w20.heap.size w20 ((w20).alloc (.cells #[.int .u64 0] 22))) := below_new w20 _
  have jj := Tryd.sameS_any _ 1 _ [0] _ 1 1 [0] ((w20).alloc (.cells #[.int .u64 0] 22)) (SE_20.out.up HN.out) l0
  rw [decide_eq_true rfl] at jj
  clear l0
  go_wp2_with fail
  refine jj.mono ?_
  rintro e w21 ⟨rfl, hb⟩
  have hstep : Below w20.heap.size w20 w21 := below_step HN.out hb
  have HB21 : Hid (Below w.heap.size w w21) := below_step HB20.out hstep
  have SE_21 : Hid (USl w21 se 1 sec [0]) := SE_20.out.up hstep
  clear SE_20
  clear jj hb HN hstep HB20
  dsimp only [List.length_cons, List.length_nil, Nat.zero_add, Nat.reduceAdd]
  clear SE_21
  have HN : Hid (Below w21.heap.size w21 (w21)) := Below.refl _ _
  have jj := Tryd.items_any 13 (by decide) (w21) (HT.out.up HB21.out)
  rw [ki1] at jj
  go_wp2_with fail
  refine jj.mono ?_
  rintro e w22 ⟨si, sic, rfl, hS, hb⟩
  have hstep : Below w21.heap.size w21 w22 := below_step HN.out hb
  have HB22 : Hid (Below w.heap.size w w22) := below_step HB21.out hstep
  have SI_22 : Hid (ISl w22 si 3 sic [0, 2, 3]) := hS
  clear jj hb HN hstep HB21 hS
  dsimp only [List.length_cons, List.length_nil, Nat.zero_add, Nat.reduceAdd]
  have HN : Hid (Below w22.heap.size w22 (w22.alloc (.cells #[.int .i64 0, .int .i64 2, .int .i64 3] 3))) := below_new _ _
  have l0 : ISl (w22.alloc (.cells #[.int .i64 0, .int .i64 2, .int .i64 3] 3)) (some ⟨w22.heap.size, 0, none⟩) 3 3 [0, 2, 3] := Tryd.int_lit [0, 2, 3] w22 (by decide)
  have jj := Tryd.sameN_any si 3 sic [0, 2, 3] _ 3 3 [0, 2, 3] _ (SI_22.out.up HN.out) l0
  rw [decide_eq_true rfl] at jj
  clear l0
  go_wp2_with fail
  refine jj.mono ?_
  rintro e w23 ⟨rfl, hb⟩
  have HF : Hid (Below w.heap.size w w23) := below_step (below_step HB22.out HN.out) hb
  clear jj hb HN
  go_wp2_with fail
  go_ret
  exact ⟨rfl, HF.out⟩
end Go.Proofs.YtllcjmaecgfijaaDoor
