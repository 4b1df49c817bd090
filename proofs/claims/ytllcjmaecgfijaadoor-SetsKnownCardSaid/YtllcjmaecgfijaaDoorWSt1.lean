/- Package sets over the model: one set more behind a list; slices.Clone. -/
import Derived.Test.YtllcjmaecgfijaaDoorWSe8
import Derived.Test.YtllcjmaecgfijaaDoorWSe6
import Derived.Test.YtllcjmaecgfijaaDoorKsQ
import Derived.Test.YtllcjmaecgfijaaDoorWSoB
import Derived.Lib.AppendZerosOnto
import Derived.Lib.LazyBuf
namespace Go.Proofs.YtllcjmaecgfijaaDoor
open Go.RowKit Go.Maps

theorem own_slU {w : World} {base e size n : Nat} {v : Value} {xs : List Value} (h : w.ownsRow base e size v n xs) : ∃ a c, v = .slice a n c := by
  rcases h.2 with ⟨rfl, rfl⟩ | ⟨g, cap, cur, rfl, _⟩
  · exact ⟨none, 0, rfl⟩
  · exact ⟨_, cap, rfl⟩
/-- One set more behind a list of the call's own. -/
theorem Tryd.append_u {w : World} {ops : Array Oper} {rest : List Oper} {o : Oper} {a : Act} {Q : Exit → Act → World → Prop} (hgd : o.guard = none) (s x : Operand)
    (ho : o.op = .call { callee := .builtin .append, args := #[s, x], argTypes := #[25, 25] }) (base : Nat)
    (v : Value) (n : Nat) (zs : List Int) (hs : a.eval s = v) (hown : w.ownsRow base 22 1 v n (zs.map (Value.int .u64))) (g' : Nat) (z : Int) (hx : a.eval x = .slice (some ⟨g', 0, none⟩) 1 1) (hc : w.cell? ⟨g', 0, none⟩ = some (.int .u64 z))
    (hn : n + 1 ≤ 2000000) (hbase : base ≤ w.heap.size)
    (h : ∀ v' w', w'.ownsRow base 22 1 v' (n + 1) ((zs ++ [z]).map (Value.int .u64)) → w.grownBy w' v.ownBlock → wpList Tryd.prog ops Q rest (a.put o.dst v') w') : wpList Tryd.prog ops Q (o :: rest) a w := by
  obtain ⟨i, hi, hz0, hz1, hz2⟩ := info_parts Tryd.infoU64
  refine wpList_append_own w hgd s x 25 ho base 22 i _ 1 8 Tryd.underlying25 hi hz0 hz1 hz2 rfl (by decide) v n _ hs hown ⟨g', 0, none⟩ 1 1 [.int .u64 z] hx rfl ?_ (fun u hu => by simp at hu; subst hu; rfl) (by unfold maxLen; omega) (by omega) hbase ?_
  · intro j u hj
    match j with
    | 0 => simp at hj; rw [← hj, add_plain]; exact hc
    | j + 1 => simp at hj
  · intro v' w' h1 h2 _
    exact h v' w' (by rw [List.map_append]; exact h1) h2
theorem usl_cells {w : World} {a : Addr} {n c : Nat} {l : List Nat} (h : USl w (some a) n c l) : ∀ j u, ((iU l).map (Value.int .u64))[j]? = some u → w.cell? (a.add j) = some u := by
  intro j u hj
  have hjl : j < (iU l).length := by have := (List.getElem?_eq_some_iff.1 hj).1; simpa using this
  have hc := h.cell j (by rw [← h.hlen]; exact hjl)
  have e : u = .int .u64 ((iU l).getD j 0) := by
    rw [List.getElem?_map, List.getElem?_eq_getElem hjl] at hj
    rw [List.getD_eq_getElem?_getD, List.getElem?_eq_getElem hjl]
    simpa using hj.symm
  rw [e]; exact hc
theorem zeros_u (m : Nat) : (Builtin.zeroCells (Value.int .u64 0).cells m).toList = List.replicate m (Value.int .u64 0) := by
  have hc : (Value.int .u64 0).cells = #[.int .u64 0] := rfl
  unfold Builtin.zeroCells
  rw [hc]
  refine List.ext_getElem (by simp) fun i h1 h2 => ?_
  simp [Nat.mod_one]
/-- A list behind an empty one that has no room: a new block, all of it known. -/
theorem Tryd.append_first {w : World} {ops : Array Oper} {rest : List Oper} {o : Oper} {a : Act} {Q : Exit → Act → World → Prop} (hgd : o.guard = none) (s y : Operand)
    (ho : o.op = .call { callee := .builtin .append, args := #[s, y], argTypes := #[25, 25] }) (g : Nat) (x : Addr) (n c : Nat) (l : List Nat) (hs : a.eval s = .slice (some ⟨g, 0, none⟩) 0 0) (hy : a.eval y = .slice (some x) n c) (hU : USl w (some x) n c l) (h0 : 0 < n) (hn : n ≤ 1000000)
    (h : ∀ G w', n ≤ G → G ≤ maxLen → SoAt w' w.heap.size (iU l).toArray (List.replicate (G - n) 0) → Below w.heap.size w w' → wpList Tryd.prog ops Q rest (a.put o.dst (.slice (some ⟨w.heap.size, 0, none⟩) n G)) w') : wpList Tryd.prog ops Q (o :: rest) a w := by
  refine wpList_plain hgd fun _ hK => ?_
  obtain ⟨i0, hi, hz0, hz1, hz2⟩ := info_parts Tryd.infoU64
  have hln := hU.len
  have hrun : ∀ ty, (Builtin.append_ #[25, 25] ty #[.slice (some ⟨g, 0, none⟩) 0 0, .slice (some x) n c]).run Tryd.prog w = .ok (.slice (some ⟨w.heap.size, 0, none⟩) n (grownCap w n 0 22)) (w.drew.alloc (.cells (((iU l).map (Value.int .u64)).toArray ++ Builtin.zeroCells (Value.int .u64 0).cells (grownCap w n 0 22 - n)) 22)) := fun ty => by
    have h := run_append_grow (P := Tryd.prog) w 25 ty 22 i0 (.int .u64 0) Tryd.underlying25 hi hz0 ⟨g, 0, none⟩ 0 0 [] (by simp) (fun j v hj => by simp at hj) x n c ((iU l).map (Value.int .u64)) (by rw [hz1]; simp [hln]) (usl_cells hU) (by omega) (by omega) (growslice_fits (by omega) (by rw [hz2]; omega))
    simpa using h
  have hG := grownCap_ge w n 0 22
  have hG2 := grownCap_le_maxLen w n 0 22 (by unfold maxLen; omega)
  have hr := hrun o.type
  clear hrun
  generalize grownCap w n 0 22 = G at *
  have HB : Below w.heap.size w (w.drew.alloc (.cells (((iU l).map (Value.int .u64)).toArray ++ Builtin.zeroCells (Value.int .u64 0).cells (G - n)) 22)) := (Below.refl _ w).drew.alloc (Nat.le_refl _) _
  have HS : SoAt (w.drew.alloc (.cells (((iU l).map (Value.int .u64)).toArray ++ Builtin.zeroCells (Value.int .u64 0).cells (G - n)) 22)) w.heap.size (iU l).toArray (List.replicate (G - n) 0) := by
    have h1 := (MapKept.heap_alloc w.drew (.cells (((iU l).map (Value.int .u64)).toArray ++ Builtin.zeroCells (Value.int .u64 0).cells (G - n)) 22)).1
    show _ = _
    refine h1.trans ?_
    refine congrArg some (congrArg (fun c => Obj.cells c 22 (0, 0)) (Array.toList_inj.1 ?_))
    rw [Array.toList_append, List.map_append, List.map_replicate, zeros_u]
  generalize (w.drew.alloc (.cells (((iU l).map (Value.int .u64)).toArray ++ Builtin.zeroCells (Value.int .u64 0).cells (G - n)) 22)) = w2 at *
  unfold Oper.wp execOp
  simp only [ho, resolve, invoke, builtin, Sem.run_bind, Sem.run_pure, Result.andThen_ok, List.map_toArray, List.map_cons, List.map_nil, hs, hy, hr]
  exact hK _ _ (h G w2 hG hG2 HS HB)
/-- What a copy of a list is: nothing, or a block of its own. -/
def CloU (l : List Nat) (w : World) (e : Ending) (w' : World) : Prop :=
  Below w.heap.size w w' ∧ ((l = [] ∧ ∃ p, e = .returned (.slice p 0 0)) ∨ ∃ G t, l ≠ [] ∧ e = .returned (.slice (some ⟨w.heap.size + 1, 0, none⟩) l.length G) ∧ SoAt w' (w.heap.size + 1) (iU l).toArray t ∧ l.length ≤ G ∧ G ≤ maxLen)
set_option maxRecDepth 100000 in
set_option maxHeartbeats 2000000 in
theorem Tryd.clone_any (a : Option Addr) (n c : Nat) (l : List Nat) (w : World) (hS : USl w a n c l) (hn : n ≤ 1000000) :
    Calls Tryd.prog 22 #[.slice a n c] w (CloU l w) := by
  have hln := hS.len
  cases a with
  | none =>
    have hc0 := hS.nn rfl
    have hn0 : n = 0 := by have := hS.hcap; omega
    subst hc0 hn0
    have hl : l = [] := List.eq_nil_of_length_eq_zero hln.symm
    subst hl
    clear hln hS hn
    have hnil := fun w => _root_.Go.run_eql_slice_nil (P := Tryd.prog) w 25 22 none 0 0 Tryd.underlying25
    dsimp only [Option.isNone] at hnil
    go_enter Tryd.func22, Tryd.ntmps22
    go_wp2
    go_ret
    exact ⟨Below.refl _ _, Or.inl ⟨rfl, none, rfl⟩⟩
  | some x =>
    obtain ⟨i0, hi, hz0, hz1, hz2⟩ := info_parts Tryd.infoU64
    have hnil := fun w => _root_.Go.run_eql_slice_nil (P := Tryd.prog) w 25 22 (some x) n c Tryd.underlying25
    dsimp only [Option.isNone] at hnil
    by_cases h0 : n = 0
    · subst h0
      have hl : l = [] := List.eq_nil_of_length_eq_zero hln.symm
      subst hl
      have hown := ownsRow_emptyI w 22
      have HI : Hid (Tryd.prog.info? 22 = some i0) := hi
      have HZ1 : Hid (i0.size = 1) := hz1
      have HB : Hid (∀ w1, (w.alloc (.cells #[] 22)).grownBy w1 (some w.heap.size) → Below w.heap.size w w1) := fun w1 h2 => ((Below.refl _ _).alloc (Nat.le_refl _) _).grown h2 (by simp) (fun k hk => by cases hk; exact Nat.le_refl _)
      clear hi hz0 hz1 hz2 hS hln hn
      go_enter Tryd.func22, Tryd.ntmps22
      go_wp2_with (at_builtin; refine wpList_append_fits_any _ rfl _ _ 25 rfl w.heap.size 22 i0 1 Tryd.underlying25 HI.out HZ1.out w.heap.size 0 0 [] rfl hown (some x) 0 c [] rfl rfl (fun h => by cases h) (fun _ _ j u hj => by simp at hj) (fun _ h => by cases h) (Nat.le_refl _) ?_)
      intro w1 hown1 hgrow1
      have HE := HB.out w1 hgrow1
      clear hown1 hgrow1 hown
      go_wp2
      go_ret
      exact ⟨HE, Or.inl ⟨rfl, _, rfl⟩⟩
    · have hl0 : l ≠ [] := fun e => h0 (by rw [hln, e]; rfl)
      have HL : Hid (n = l.length) := hln
      have HU : Hid _ := hS.up (below_new w (.cells #[] 22))
      clear hi hz0 hz1 hz2 hS hln
      go_enter Tryd.func22, Tryd.ntmps22
      go_wp2_with (at_builtin; refine Tryd.append_first rfl _ _ rfl w.heap.size x n c l rfl rfl HU.out (by omega) hn ?_)
      intro G w2 hG hG2 HS HB
      have HS2 : Hid _ := HS
      have HB2 : Hid (Below w.heap.size w w2) := (below_new w (.cells #[] 22)).trans (HB.mono (Nat.le_succ _))
      have hgl : Hid (n ≤ G ∧ G ≤ maxLen) := ⟨hG, hG2⟩
      clear HS HB hG hG2 HU
      go_wp2
      go_ret
      exact ⟨HB2.out, Or.inr ⟨G, List.replicate (G - n) 0, hl0, by rw [← HL.out]; simp, HS2.out, by rw [← HL.out]; exact hgl.out.1, hgl.out.2⟩⟩
end Go.Proofs.YtllcjmaecgfijaaDoor
