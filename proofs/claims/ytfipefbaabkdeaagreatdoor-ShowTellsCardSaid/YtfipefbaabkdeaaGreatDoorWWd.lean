/- Lists of words in memory, wherever they lie: read, put behind one another. -/
import Derived.Test.YtfipefbaabkdeaaGreatDoorWLx5
namespace Go.Proofs.YtfipefbaabkdeaaGreatDoor
open Go.RowKit Go.Maps

def encW (ws : List Wd) : List Value := ws.flatMap fun t => [.int .u8 (t.so : Int), .string t.tx, .int .i64 t.pl]
theorem encW_cons (t : Wd) (ts : List Wd) : encW (t :: ts) = .int .u8 (t.so : Int) :: .string t.tx :: .int .i64 t.pl :: encW ts := rfl
theorem encW_append (xs ys : List Wd) : encW (xs ++ ys) = encW xs ++ encW ys := by simp [encW]
theorem encW_len : ∀ ts : List Wd, (encW ts).length = ts.length * 3
  | [] => rfl
  | t :: ts => by rw [encW_cons]; simp [encW_len ts]; omega
theorem encW_get : ∀ (ts : List Wd) (k : Nat) (h : k < ts.length), (encW ts)[3 * k]? = some (.int .u8 (ts[k].so : Int)) ∧ (encW ts)[3 * k + 1]? = some (.string ts[k].tx) ∧ (encW ts)[3 * k + 2]? = some (.int .i64 ts[k].pl)
  | [], k, h => absurd h (by simp)
  | t :: ts, 0, _ => ⟨rfl, rfl, rfl⟩
  | t :: ts, k + 1, h => by
    have := encW_get ts k (by simpa using h)
    rw [encW_cons, show 3 * (k + 1) = 3 * k + 1 + 1 + 1 by omega, show 3 * k + 1 + 1 + 1 + 1 = (3 * k + 1) + 1 + 1 + 1 by omega, show 3 * k + 1 + 1 + 1 + 2 = (3 * k + 2) + 1 + 1 + 1 by omega]
    simpa using this
theorem encW_one (ts : List Wd) : ∀ u ∈ encW ts, u.oneCell' = true := by
  intro u hu
  unfold encW at hu
  obtain ⟨c, _, hc⟩ := List.mem_flatMap.1 hu
  simp at hc
  rcases hc with rfl | rfl | rfl <;> rfl
/-- A word that lies in a list. -/
structure Wd.Ok (t : Wd) : Prop where
  so : t.so < 256
  tx : t.tx.size ≤ maxLen
  pl : -9223372036854775808 ≤ t.pl ∧ t.pl < 9223372036854775808
/-- A list of words as the walk reads it. -/
structure WdSl (w : World) (a : Option Addr) (len cap : Nat) (ts : List Wd) : Prop where
  hlen : ts.length = len
  hcap : len ≤ cap
  bd : cap ≤ maxLen
  nn : a = none → cap = 0
  c0 : ∀ x, a = some x → ∀ k (h : k < ts.length), w.cell? (x.add (3 * k)) = some (.int .u8 (ts[k].so : Int))
  c1 : ∀ x, a = some x → ∀ k (h : k < ts.length), w.cell? (x.add (3 * k + 1)) = some (.string ts[k].tx)
  c2 : ∀ x, a = some x → ∀ k (h : k < ts.length), w.cell? (x.add (3 * k + 2)) = some (.int .i64 ts[k].pl)
  ok : ∀ t ∈ ts, t.Ok
theorem WdSl.some_of {w : World} {a : Option Addr} {len cap : Nat} {ts : List Wd} (h : WdSl w a len cap ts) (hl : 0 < len) : ∃ x, a = some x := by
  cases a with
  | none => have := h.nn rfl; have := h.hcap; omega
  | some x => exact ⟨x, rfl⟩
theorem WdSl.lt {w : World} {x : Addr} {len cap : Nat} {ts : List Wd} (h : WdSl w (some x) len cap ts) (hl : 0 < len) : x.block < w.heap.size := by
  have h0 := h.c0 x rfl 0 (by have := h.hlen; omega)
  have := World.block_lt_of_cell? _ _ h0
  rwa [add_block] at this
theorem WdSl.keep {w w' : World} {a : Option Addr} {len cap : Nat} {ts : List Wd} (h : WdSl w a len cap ts) (hk : ∀ p v, w.cell? p = some v → (∀ x, a = some x → p.block = x.block) → w'.cell? p = some v) : WdSl w' a len cap ts := by
  have hb : ∀ x n, a = some x → ∀ y, a = some y → (x.add n).block = y.block := fun x n hx y hy => by rw [add_block]; rw [hx] at hy; injection hy with hy; rw [hy]
  exact ⟨h.hlen, h.hcap, h.bd, h.nn, fun x hx k hk' => hk _ _ (h.c0 x hx k hk') (hb x _ hx), fun x hx k hk' => hk _ _ (h.c1 x hx k hk') (hb x _ hx), fun x hx k hk' => hk _ _ (h.c2 x hx k hk') (hb x _ hx), h.ok⟩
theorem WdSl.up {w w' : World} {a : Option Addr} {len cap : Nat} {ts : List Wd} (h : WdSl w a len cap ts) (hb : Below w.heap.size w w') : WdSl w' a len cap ts :=
  h.keep fun _ _ hp _ => kept_cell hp hb
theorem WdSl.grown {w w' : World} {a : Option Addr} {len cap : Nat} {ts : List Wd} {row : Option Nat} (h : WdSl w a len cap ts) (hb : w.grownBy w' row) (hne : ∀ x, a = some x → some x.block ≠ row) : WdSl w' a len cap ts := by
  cases a with
  | none => exact ⟨h.hlen, h.hcap, h.bd, h.nn, fun x hx => (by cases hx), fun x hx => (by cases hx), fun x hx => (by cases hx), h.ok⟩
  | some y => exact h.keep fun _ _ hp hx => grown_cell hp hb (by rw [hx y rfl]; exact hne y rfl)
theorem WdSl.nil {w : World} : WdSl w none 0 0 [] :=
  ⟨rfl, Nat.le_refl _, Nat.zero_le _, fun _ => rfl, fun x hx => (by cases hx), fun x hx => (by cases hx), fun x hx => (by cases hx), fun t ht => (by simp at ht)⟩
/-- What an index finds, spelled out. -/
theorem WdSl.at {w : World} {a : Option Addr} {len cap : Nat} {ts : List Wd} (h : WdSl w a len cap ts) {P : Program} {T e : TypeId} (hu : P.underlying T = some (.slice e)) (hs : (P.info? e).map (·.size) = some 3) (k : Nat) (hk : k < len) :
    ∃ g o s, (∀ (n : Nat) (w' : World), k < n → (Instr.indexAt T (.slice a n cap) (.int .i64 k)).run P w' = .ok (.pointer (some ⟨g, o, s⟩)) w') ∧ w.cell? ⟨g, o, s⟩ = some (.int .u8 ((ts[k]'(by rw [h.hlen]; exact hk)).so : Int)) ∧ w.cell? ⟨g, o + 1, none⟩ = some (.string (ts[k]'(by rw [h.hlen]; exact hk)).tx) ∧ w.cell? ⟨g, o + 2, none⟩ = some (.int .i64 (ts[k]'(by rw [h.hlen]; exact hk)).pl) ∧ g < w.heap.size ∧ ∀ x, a = some x → x.block = g := by
  obtain ⟨x, rfl⟩ := h.some_of (by omega)
  have hkl : k < ts.length := by rw [h.hlen]; exact hk
  have e0 := h.c0 x rfl k hkl
  have e1 := h.c1 x rfl k hkl
  have e2 := h.c2 x rfl k hkl
  have hlt := h.lt (by omega)
  rw [← add_add] at e1 e2
  have hb := add_block x (3 * k)
  have hrun : ∀ (n : Nat) (w' : World), k < n → (Instr.indexAt T (.slice (some x) n cap) (.int .i64 k)).run P w' = .ok (.pointer (some (x.add (3 * k)))) w' := fun n w' hn => by
    simp [Instr.indexAt, run_underlying hu, asIntOf, sizeOf_run3 hs, hn, Result.andThen, go_sem, Nat.mul_comm]
  generalize x.add (3 * k) = y at *
  obtain ⟨g, o, s⟩ := y
  refine ⟨g, o, s, hrun, e0, ?_, ?_, ?_, ?_⟩
  · simpa [Addr.add] using e1
  · simpa [Addr.add] using e2
  · dsimp only at hb; omega
  · intro z hz; injection hz with hz; rw [← hz]; exact hb.symm
/-- A row of the call's own as a list of words. -/
theorem own_wd {w : World} {base e n : Nat} {v : Value} {ts : List Wd} (h : w.ownsRow base e 3 v n (encW ts)) (hok : ∀ t ∈ ts, t.Ok) :
    ∃ a cap, v = .slice a n cap ∧ WdSl w a n cap ts ∧ ∀ x, a = some x → base ≤ x.block ∧ v.ownBlock = some x.block := by
  obtain ⟨hl, h⟩ := h
  rw [encW_len] at hl
  have hl' : ts.length = n := by omega
  rcases h with ⟨rfl, rfl⟩ | ⟨g, cap, cur, rfl, hg, hcell, hnc, hcm, hsz, htk⟩
  · obtain rfl := List.eq_nil_of_length_eq_zero hl'
    exact ⟨none, 0, rfl, WdSl.nil, fun x hx => by cases hx⟩
  · have key : ∀ j, j < n * 3 → w.cell? ⟨g, j, none⟩ = (encW ts)[j]? := fun j hj => by
      rw [← htk, List.getElem?_take, if_pos hj]
      simp [World.cell?, hcell]
    refine ⟨some ⟨g, 0, none⟩, cap, rfl, ⟨hl', hnc, hcm, fun hn => (nomatch hn), fun x hx k hk => ?_, fun x hx k hk => ?_, fun x hx k hk => ?_, hok⟩, fun x hx => by injection hx with hx; subst hx; exact ⟨hg, rfl⟩⟩
    · injection hx with hx; subst hx
      rw [add_plain, Nat.zero_add, key _ (by omega)]; exact (encW_get ts k hk).1
    · injection hx with hx; subst hx
      rw [add_plain, Nat.zero_add, key _ (by omega)]; exact (encW_get ts k hk).2.1
    · injection hx with hx; subst hx
      rw [add_plain, Nat.zero_add, key _ (by omega)]; exact (encW_get ts k hk).2.2
theorem Tryz.sizeWd : (Tryz.prog.info? 101).map (·.size) = some 3 := by kernel_rfl
theorem Tryz.infoWd : (Tryz.prog.info? 101).map (fun i => (i.zero, i.size, i.bytes)) = some (some (.agg #[.int .u8 0, .string ⟨#[]⟩, .int .i64 0]), 3, 32) := by kernel_rfl
theorem WdSl.cells {w : World} {x : Addr} {len cap : Nat} {ts : List Wd} (h : WdSl w (some x) len cap ts) : ∀ j u, (encW ts)[j]? = some u → w.cell? (x.add j) = some u := by
  intro j u hj
  have hjl := (List.getElem?_eq_some_iff.1 hj).1
  rw [encW_len] at hjl
  have hm : j % 3 = 0 ∨ j % 3 = 1 ∨ j % 3 = 2 := by omega
  rcases hm with h0 | h0 | h0
  · obtain ⟨k, rfl⟩ : ∃ k, j = 3 * k := ⟨j / 3, by omega⟩
    rw [(encW_get ts k (by omega)).1] at hj
    rw [← hj]; exact h.c0 x rfl k (by omega)
  · obtain ⟨k, rfl⟩ : ∃ k, j = 3 * k + 1 := ⟨j / 3, by omega⟩
    rw [(encW_get ts k (by omega)).2.1] at hj
    rw [← hj]; exact h.c1 x rfl k (by omega)
  · obtain ⟨k, rfl⟩ : ∃ k, j = 3 * k + 2 := ⟨j / 3, by omega⟩
    rw [(encW_get ts k (by omega)).2.2] at hj
    rw [← hj]; exact h.c2 x rfl k (by omega)
/-- Words behind a list of the call's own. -/
theorem Tryz.wp_wds {w : World} {o : Oper} {a : Act} {K : Act → World → Prop} {Q : Exit → Act → World → Prop} (s x : Operand)
    (ho : o.op = .call { callee := .builtin .append, args := #[s, x], argTypes := #[96, 96] }) (base : Nat)
    (v : Value) (xs ys : List Wd) (b : Option Addr) (len cap : Nat) (hs : a.eval s = v) (hx : a.eval x = .slice b len cap) (hown : w.ownsRow base 101 3 v xs.length (encW xs)) (hT : WdSl w b len cap ys)
    (hn : xs.length ≤ 10000000) (hm : ys.length ≤ 10000000) (hbase : base ≤ w.heap.size)
    (h : ∀ v' w', w'.ownsRow base 101 3 v' (xs ++ ys).length (encW (xs ++ ys)) → w.grownBy w' v.ownBlock → K (a.put o.dst v') w') : o.wp Tryz.prog a w K Q := by
  obtain ⟨i, hi, hz0, hz1, hz2⟩ := info_parts Tryz.infoWd
  have hl := hT.hlen
  cases b with
  | none =>
    have hc := hT.nn rfl
    have hcl := hT.hcap
    obtain rfl : len = 0 := by omega
    subst hc
    have hy : ys = [] := List.eq_nil_of_length_eq_zero hl
    subst hy
    have hrun := run_append_owned_none (P := Tryz.prog) w base 96 o.type 101 i 3 Tryz.underlying96 hi v xs.length (encW xs) hown
    unfold Oper.wp execOp
    simp only [ho, resolve, invoke, builtin, Sem.run_bind, Sem.run_pure, Result.andThen_ok, List.map_toArray, List.map_cons, List.map_nil, hs, hx, hrun]
    exact h v w (by rw [List.append_nil]; exact hown) (World.grownBy.refl _ _)
  | some y =>
    refine wp_append_own w s x 96 ho base 101 i _ 3 32 Tryz.underlying96 hi hz0 hz1 hz2 rfl (by decide) v xs.length _ hs hown y len cap (encW ys) hx (by rw [encW_len, hl]) hT.cells (encW_one ys) (by unfold maxLen; omega) (by omega) hbase ?_
    intro v' w' h1 h2 _
    exact h v' w' (by rw [encW_append, List.length_append, hl]; exact h1) h2
theorem Tryz.append_wds {w : World} {ops : Array Oper} {rest : List Oper} {o : Oper} {a : Act} {Q : Exit → Act → World → Prop} (hgd : o.guard = none) (s x : Operand)
    (ho : o.op = .call { callee := .builtin .append, args := #[s, x], argTypes := #[96, 96] }) (base : Nat)
    (v : Value) (xs ys : List Wd) (b : Option Addr) (len cap : Nat) (hs : a.eval s = v) (hx : a.eval x = .slice b len cap) (hown : w.ownsRow base 101 3 v xs.length (encW xs)) (hT : WdSl w b len cap ys)
    (hn : xs.length ≤ 10000000) (hm : ys.length ≤ 10000000) (hbase : base ≤ w.heap.size)
    (h : ∀ v' w', w'.ownsRow base 101 3 v' (xs ++ ys).length (encW (xs ++ ys)) → w.grownBy w' v.ownBlock → wpList Tryz.prog ops Q rest (a.put o.dst v') w') : wpList Tryz.prog ops Q (o :: rest) a w :=
  wpList_plain hgd fun _ hK => Tryz.wp_wds s x ho base v xs ys b len cap hs hx hown hT hn hm hbase fun v' w' h1 h2 => hK _ _ (h v' w' h1 h2)
/-- A new block with one word. -/
theorem one_wd (w : World) (t : Wd) (e : TypeId) (h : t.Ok) : WdSl (w.alloc (.cells #[.int .u8 (t.so : Int), .string t.tx, .int .i64 t.pl] e)) (some ⟨w.heap.size, 0, none⟩) 1 1 [t] := by
  have hc : ∀ j, (w.alloc (.cells #[.int .u8 (t.so : Int), .string t.tx, .int .i64 t.pl] e)).cell? ⟨w.heap.size, j, none⟩ = #[Value.int .u8 (t.so : Int), .string t.tx, .int .i64 t.pl][j]? := fun j => cell_row (MapKept.heap_alloc w _).1 j
  refine ⟨rfl, Nat.le_refl _, by unfold maxLen; omega, fun h => (nomatch h), ?_, ?_, ?_, fun u hu => by simp at hu; subst hu; exact h⟩
  all_goals
    intro x hx k hk
    injection hx with hx; subst hx
    simp at hk; subst hk
    rw [add_plain, hc]; rfl
end Go.Proofs.YtfipefbaabkdeaaGreatDoor
