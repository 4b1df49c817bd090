/- Lists of nodes in memory: read, compared, put behind one another. -/
import Derived.Test.YtmnkkknkmbldhaaWInts
import Derived.Test.YtmnkkknkmbldhaaGdQ
import Derived.BigQuiet
namespace Go.Proofs.Ytmnkkknkmbldhaa
open Go.RowKit Go.Maps

def encG (ts : List Gd) : List Value := ts.flatMap fun t => [.int .i64 t.1, .int .i64 t.2.1, .int .i64 t.2.2]
theorem encG_cons (t : Gd) (ts : List Gd) : encG (t :: ts) = .int .i64 t.1 :: .int .i64 t.2.1 :: .int .i64 t.2.2 :: encG ts := rfl
theorem encG_append (xs ys : List Gd) : encG (xs ++ ys) = encG xs ++ encG ys := by simp [encG]
theorem encG_len : ∀ ts : List Gd, (encG ts).length = ts.length * 3
  | [] => rfl
  | t :: ts => by rw [encG_cons]; simp [encG_len ts]; omega
theorem encG_get : ∀ (ts : List Gd) (k : Nat) (h : k < ts.length), (encG ts)[3 * k]? = some (.int .i64 ts[k].1) ∧ (encG ts)[3 * k + 1]? = some (.int .i64 ts[k].2.1) ∧ (encG ts)[3 * k + 2]? = some (.int .i64 ts[k].2.2)
  | [], k, h => absurd h (by simp)
  | t :: ts, 0, _ => ⟨rfl, rfl, rfl⟩
  | t :: ts, k + 1, h => by
    have := encG_get ts k (by simpa using h)
    rw [encG_cons, show 3 * (k + 1) = 3 * k + 1 + 1 + 1 by omega, show 3 * k + 1 + 1 + 1 + 1 = (3 * k + 1) + 1 + 1 + 1 by omega, show 3 * k + 1 + 1 + 1 + 2 = (3 * k + 2) + 1 + 1 + 1 by omega]
    simpa using this
theorem encG_one (ts : List Gd) : ∀ u ∈ encG ts, u.oneCell' = true := by
  intro u hu
  unfold encG at hu
  obtain ⟨c, _, hc⟩ := List.mem_flatMap.1 hu
  simp at hc
  rcases hc with rfl | rfl | rfl <;> rfl
def I64 (z : Int) : Prop := -9223372036854775808 ≤ z ∧ z < 9223372036854775808
/-- Numbers that an int holds. -/
def GdOk (t : Gd) : Prop := I64 t.1 ∧ I64 t.2.1 ∧ I64 t.2.2
/-- A list of nodes as the walk reads it. -/
structure NdSl (w : World) (a : Option Addr) (len cap : Nat) (ts : List Gd) : Prop where
  hlen : ts.length = len
  hcap : len ≤ cap
  bd : cap ≤ maxLen
  nn : a = none → cap = 0
  c0 : ∀ x, a = some x → ∀ k (h : k < ts.length), w.cell? (x.add (3 * k)) = some (.int .i64 ts[k].1)
  c1 : ∀ x, a = some x → ∀ k (h : k < ts.length), w.cell? (x.add (3 * k + 1)) = some (.int .i64 ts[k].2.1)
  c2 : ∀ x, a = some x → ∀ k (h : k < ts.length), w.cell? (x.add (3 * k + 2)) = some (.int .i64 ts[k].2.2)
  ok : ∀ t ∈ ts, GdOk t
theorem NdSl.some_of {w : World} {a : Option Addr} {len cap : Nat} {ts : List Gd} (h : NdSl w a len cap ts) (hl : 0 < len) : ∃ x, a = some x := by
  cases a with
  | none => have := h.nn rfl; have := h.hcap; omega
  | some x => exact ⟨x, rfl⟩
theorem NdSl.lt {w : World} {x : Addr} {len cap : Nat} {ts : List Gd} (h : NdSl w (some x) len cap ts) (hl : 0 < len) : x.block < w.heap.size := by
  have h0 := h.c0 x rfl 0 (by have := h.hlen; omega)
  have := World.block_lt_of_cell? _ _ h0
  rwa [add_block] at this
theorem NdSl.keep {w w' : World} {a : Option Addr} {len cap : Nat} {ts : List Gd} (h : NdSl w a len cap ts) (hk : ∀ p v, w.cell? p = some v → (∀ x, a = some x → p.block = x.block) → w'.cell? p = some v) : NdSl w' a len cap ts := by
  have hb : ∀ x, a = some x → ∀ m, ∀ y, a = some y → (x.add m).block = y.block := fun x hx m y hy => by rw [add_block]; rw [hx] at hy; injection hy with hy; rw [hy]
  exact ⟨h.hlen, h.hcap, h.bd, h.nn, fun x hx k hk' => hk _ _ (h.c0 x hx k hk') (hb x hx _), fun x hx k hk' => hk _ _ (h.c1 x hx k hk') (hb x hx _), fun x hx k hk' => hk _ _ (h.c2 x hx k hk') (hb x hx _), h.ok⟩
theorem NdSl.up {w w' : World} {a : Option Addr} {len cap : Nat} {ts : List Gd} (h : NdSl w a len cap ts) (hb : Below w.heap.size w w') : NdSl w' a len cap ts :=
  h.keep fun _ _ hp _ => kept_cell hp hb
theorem NdSl.grown {w w' : World} {a : Option Addr} {len cap : Nat} {ts : List Gd} {row : Option Nat} (h : NdSl w a len cap ts) (hb : w.grownBy w' row) (hne : ∀ x, a = some x → some x.block ≠ row) : NdSl w' a len cap ts := by
  cases a with
  | none => exact ⟨h.hlen, h.hcap, h.bd, h.nn, fun x hx => (by cases hx), fun x hx => (by cases hx), fun x hx => (by cases hx), h.ok⟩
  | some y => exact h.keep fun _ _ hp hx => grown_cell hp hb (by rw [hx y rfl]; exact hne y rfl)
theorem NdSl.nil {w : World} : NdSl w none 0 0 [] :=
  ⟨rfl, Nat.le_refl _, Nat.zero_le _, fun _ => rfl, fun x hx => (by cases hx), fun x hx => (by cases hx), fun x hx => (by cases hx), fun t ht => (by simp at ht)⟩
/-- What an index finds, spelled out. -/
theorem NdSl.at {w : World} {a : Option Addr} {len cap : Nat} {ts : List Gd} (h : NdSl w a len cap ts) {P : Program} {T e : TypeId} (hu : P.underlying T = some (.slice e)) (hs : (P.info? e).map (·.size) = some 3) (k : Nat) (hk : k < len) :
    ∃ g o s, (∀ (n : Nat) (w' : World), k < n → (Instr.indexAt T (.slice a n cap) (.int .i64 k)).run P w' = .ok (.pointer (some ⟨g, o, s⟩)) w') ∧ w.cell? ⟨g, o, s⟩ = some (.int .i64 (ts.getD k (0, 0, 0)).1) ∧ w.cell? ⟨g, o + 1, none⟩ = some (.int .i64 (ts.getD k (0, 0, 0)).2.1) ∧ w.cell? ⟨g, o + 2, none⟩ = some (.int .i64 (ts.getD k (0, 0, 0)).2.2) ∧ g < w.heap.size ∧ (∀ x, a = some x → x.block = g) ∧ GdOk (ts.getD k (0, 0, 0)) := by
  obtain ⟨x, rfl⟩ := h.some_of (by omega)
  have hkl : k < ts.length := by rw [h.hlen]; exact hk
  have e0 := h.c0 x rfl k hkl
  have e1 := h.c1 x rfl k hkl
  have e2 := h.c2 x rfl k hkl
  have eok := h.ok _ (List.getElem_mem hkl)
  have ex : ts[k] = ts.getD k (0, 0, 0) := by simp [List.getD_eq_getElem?_getD, List.getElem?_eq_getElem hkl]
  rw [ex] at e0 e1 e2 eok
  have hlt := h.lt (by omega)
  rw [← add_add] at e1 e2
  have hb := add_block x (3 * k)
  have hrun : ∀ (n : Nat) (w' : World), k < n → (Instr.indexAt T (.slice (some x) n cap) (.int .i64 k)).run P w' = .ok (.pointer (some (x.add (3 * k)))) w' := fun n w' hn => by
    simp [Instr.indexAt, run_underlying hu, asIntOf, sizeOf_run3 hs, hn, Result.andThen, go_sem, Nat.mul_comm]
  generalize x.add (3 * k) = y at *
  obtain ⟨g, o, s⟩ := y
  refine ⟨g, o, s, hrun, e0, ?_, ?_, ?_, ?_, eok⟩
  · simpa [Addr.add] using e1
  · simpa [Addr.add] using e2
  · dsimp only at hb; omega
  · intro z hz; injection hz with hz; rw [← hz]; exact hb.symm
/-- A row of the call's own as a list of nodes. -/
theorem own_nd {w : World} {base e n : Nat} {v : Value} {ts : List Gd} (h : w.ownsRow base e 3 v n (encG ts)) (hok : ∀ t ∈ ts, GdOk t) :
    ∃ a cap, v = .slice a n cap ∧ NdSl w a n cap ts ∧ ∀ x, a = some x → base ≤ x.block ∧ v.ownBlock = some x.block := by
  obtain ⟨hl, h⟩ := h
  rw [encG_len] at hl
  have hl' : ts.length = n := by omega
  rcases h with ⟨rfl, rfl⟩ | ⟨g, cap, cur, rfl, hg, hcell, hnc, hcm, hsz, htk⟩
  · obtain rfl := List.eq_nil_of_length_eq_zero hl'
    exact ⟨none, 0, rfl, NdSl.nil, fun x hx => by cases hx⟩
  · have key : ∀ j, j < n * 3 → w.cell? ⟨g, j, none⟩ = (encG ts)[j]? := fun j hj => by
      rw [← htk, List.getElem?_take, if_pos hj]
      simp [World.cell?, hcell]
    refine ⟨some ⟨g, 0, none⟩, cap, rfl, ⟨hl', hnc, hcm, fun hn => (by cases hn), fun x hx k hk => ?_, fun x hx k hk => ?_, fun x hx k hk => ?_, hok⟩, fun x hx => by injection hx with hx; subst hx; exact ⟨hg, rfl⟩⟩
    · injection hx with hx; subst hx
      rw [add_plain, Nat.zero_add, key _ (by omega)]; exact (encG_get ts k hk).1
    · injection hx with hx; subst hx
      rw [add_plain, Nat.zero_add, key _ (by omega)]; exact (encG_get ts k hk).2.1
    · injection hx with hx; subst hx
      rw [add_plain, Nat.zero_add, key _ (by omega)]; exact (encG_get ts k hk).2.2
theorem Try.sizeNode : (Try.prog.info? 44).map (·.size) = some 3 := by kernel_rfl
theorem Try.infoNode : (Try.prog.info? 44).map (fun i => (i.zero, i.size, i.bytes)) = some (some (.agg #[.int .i64 0, .int .i64 0, .int .i64 0]), 3, 24) := by kernel_rfl
theorem NdSl.cells {w : World} {x : Addr} {len cap : Nat} {ts : List Gd} (h : NdSl w (some x) len cap ts) : ∀ j u, (encG ts)[j]? = some u → w.cell? (x.add j) = some u := by
  intro j u hj
  have hjl := (List.getElem?_eq_some_iff.1 hj).1
  rw [encG_len] at hjl
  obtain ⟨k, h0⟩ : ∃ k, j = 3 * k ∨ j = 3 * k + 1 ∨ j = 3 * k + 2 := ⟨j / 3, by omega⟩
  rcases h0 with rfl | rfl | rfl
  · rw [(encG_get ts k (by omega)).1] at hj
    rw [← hj]; exact h.c0 x rfl k (by omega)
  · rw [(encG_get ts k (by omega)).2.1] at hj
    rw [← hj]; exact h.c1 x rfl k (by omega)
  · rw [(encG_get ts k (by omega)).2.2] at hj
    rw [← hj]; exact h.c2 x rfl k (by omega)
/-- Nodes behind a list of the call's own. -/
theorem Try.wp_nds {w : World} {o : Oper} {a : Act} {K : Act → World → Prop} {Q : Exit → Act → World → Prop} (s x : Operand)
    (ho : o.op = .call { callee := .builtin .append, args := #[s, x], argTypes := #[38, 38] }) (base : Nat)
    (v : Value) (xs ys : List Gd) (b : Option Addr) (len cap : Nat) (hs : a.eval s = v) (hx : a.eval x = .slice b len cap) (hown : w.ownsRow base 44 3 v xs.length (encG xs)) (hT : NdSl w b len cap ys)
    (hn : xs.length ≤ 1000000) (hm : ys.length ≤ 1000000) (hbase : base ≤ w.heap.size)
    (h : ∀ v' w', w'.ownsRow base 44 3 v' (xs ++ ys).length (encG (xs ++ ys)) → w.grownBy w' v.ownBlock → K (a.put o.dst v') w') : o.wp Try.prog a w K Q := by
  obtain ⟨i, hi, hz0, hz1, hz2⟩ := info_parts Try.infoNode
  have hl := hT.hlen
  cases b with
  | none =>
    have hc := hT.nn rfl
    have hcl := hT.hcap
    obtain rfl : len = 0 := by omega
    subst hc
    have hy : ys = [] := List.eq_nil_of_length_eq_zero hl
    subst hy
    have hrun := run_append_owned_none (P := Try.prog) w base 38 o.type 44 i 3 Try.underlying38 hi v xs.length (encG xs) hown
    unfold Oper.wp execOp
    simp only [ho, resolve, invoke, builtin, Sem.run_bind, Sem.run_pure, Result.andThen_ok, List.map_toArray, List.map_cons, List.map_nil, hs, hx, hrun]
    exact h v w (by rw [List.append_nil]; exact hown) (World.grownBy.refl _ _)
  | some y =>
    refine wp_append_own w s x 38 ho base 44 i _ 3 24 Try.underlying38 hi hz0 hz1 hz2 rfl (by decide) v xs.length _ hs hown y len cap (encG ys) hx (by rw [encG_len, hl]) hT.cells (encG_one ys) (by unfold maxLen; omega) (by omega) hbase ?_
    intro v' w' h1 h2 _
    exact h v' w' (by rw [encG_append, List.length_append, hl]; exact h1) h2
theorem Try.append_nds {w : World} {ops : Array Oper} {rest : List Oper} {o : Oper} {a : Act} {Q : Exit → Act → World → Prop} (hgd : o.guard = none) (s x : Operand)
    (ho : o.op = .call { callee := .builtin .append, args := #[s, x], argTypes := #[38, 38] }) (base : Nat)
    (v : Value) (xs ys : List Gd) (b : Option Addr) (len cap : Nat) (hs : a.eval s = v) (hx : a.eval x = .slice b len cap) (hown : w.ownsRow base 44 3 v xs.length (encG xs)) (hT : NdSl w b len cap ys)
    (hn : xs.length ≤ 1000000) (hm : ys.length ≤ 1000000) (hbase : base ≤ w.heap.size)
    (h : ∀ v' w', w'.ownsRow base 44 3 v' (xs ++ ys).length (encG (xs ++ ys)) → w.grownBy w' v.ownBlock → wpList Try.prog ops Q rest (a.put o.dst v') w') : wpList Try.prog ops Q (o :: rest) a w :=
  wpList_plain hgd fun _ hK => Try.wp_nds s x ho base v xs ys b len cap hs hx hown hT hn hm hbase fun v' w' h1 h2 => hK _ _ (h v' w' h1 h2)
theorem takeG_snoc {cs : List Gd} {k : Nat} (h : k < cs.length) : cs.take (k + 1) = cs.take k ++ [cs.getD k (0, 0, 0)] := by
  rw [List.take_add_one, List.getElem?_eq_getElem h]; simp [List.getD_eq_getElem?_getD, List.getElem?_eq_getElem h]
theorem takeG_next {xs ys : List Gd} {k : Nat} (hx : k < xs.length) (hy : k < ys.length) (h : xs.take k = ys.take k) (he : xs.getD k (0, 0, 0) = ys.getD k (0, 0, 0)) : xs.take (k + 1) = ys.take (k + 1) := by
  rw [takeG_snoc hx, takeG_snoc hy, h, he]
theorem Try.fieldsNode : ∃ f0 f1 f2, (Try.prog.fieldsOf 44).toList = [f0, f1, f2] ∧ (f0.name = "P" ∧ f0.type = 3 ∧ f0.offset = 0) ∧ (f1.name = "Lo" ∧ f1.type = 3 ∧ f1.offset = 1) ∧ (f2.name = "Hi" ∧ f2.type = 3 ∧ f2.offset = 2) := by
  have hfl : (Try.prog.fieldsOf 44).toList.map (fun f => (f.name, f.type, f.offset)) = [("P", 3, 0), ("Lo", 3, 1), ("Hi", 3, 2)] := by kernel_rfl
  cases hl : (Try.prog.fieldsOf 44).toList with
  | nil => rw [hl] at hfl; simp at hfl
  | cons f0 r =>
    cases r with
    | nil => rw [hl] at hfl; simp at hfl
    | cons f1 r =>
      cases r with
      | nil => rw [hl] at hfl; simp at hfl
      | cons f2 r =>
        rw [hl] at hfl
        simp at hfl
        obtain ⟨h0, h1, h2, rfl⟩ := hfl
        exact ⟨f0, f1, f2, rfl, h0, h1, h2⟩
theorem Try.eqlNode (x0 x1 x2 y0 y1 y2 : Int) (w : World) : (binOp .eql 44 (.agg #[.int .i64 x0, .int .i64 x1, .int .i64 x2]) (.agg #[.int .i64 y0, .int .i64 y1, .int .i64 y2])).run Try.prog w = .ok (.bool (decide (((x0, x1, x2) : Gd) = (y0, y1, y2)))) w := by
  have ht : Try.prog.underlying 44 = some (.struct (Try.prog.fieldsOf 44)) := by kernel_rfl
  have hp : Try.prog.stoodInHeld 44 = false := by kernel_rfl
  rw [run_eql_struct, run_equalIn_agg _ 9999 _ _ _ ht hp]
  obtain ⟨f0, f1, f2, hl, ⟨a1, a2, a3⟩, ⟨b1, b2, b3⟩, ⟨c1, c2, c3⟩⟩ := Try.fieldsNode
  rw [hl]
  by_cases h0 : x0 = y0
  · by_cases h1 : x1 = y1
    · by_cases h2 : x2 = y2
      · simp [Op.eqFields, a1, a2, a3, b1, b2, b3, c1, c2, c3, go_sem, h0, h1, h2, run_equalIn_int _ 9998 _ _ _ _ _ Try.underlying3]
      · simp [Op.eqFields, a1, a2, a3, b1, b2, b3, c1, c2, c3, go_sem, h0, h1, h2, run_equalIn_int _ 9998 _ _ _ _ _ Try.underlying3]
    · simp [Op.eqFields, a1, a2, a3, b1, b2, b3, go_sem, h0, h1, run_equalIn_int _ 9998 _ _ _ _ _ Try.underlying3]
  · simp [Op.eqFields, a1, a2, a3, go_sem, h0, run_equalIn_int _ 9998 _ _ _ _ _ Try.underlying3]
theorem Try.neqNode (x0 x1 x2 y0 y1 y2 : Int) (w : World) : (binOp .neq 44 (.agg #[.int .i64 x0, .int .i64 x1, .int .i64 x2]) (.agg #[.int .i64 y0, .int .i64 y1, .int .i64 y2])).run Try.prog w = .ok (.bool (!decide (((x0, x1, x2) : Gd) = (y0, y1, y2)))) w := by
  have h := Try.eqlNode x0 x1 x2 y0 y1 y2 w
  rw [run_eql_struct] at h
  rw [run_neq_struct]
  cases hr : (Op.equalIn 10000 44 (.agg #[.int .i64 x0, .int .i64 x1, .int .i64 x2]) (.agg #[.int .i64 y0, .int .i64 y1, .int .i64 y2])).run Try.prog w with
  | ok b w1 =>
    rw [hr] at h
    simp [Result.andThen] at h ⊢
    obtain ⟨rfl, rfl⟩ := h
    exact ⟨rfl, rfl⟩
  | halt x w1 => rw [hr] at h; simp [Result.andThen] at h

set_option maxHeartbeats 800000 in
/-- Same tells whether two lists are one. -/
theorem Try.sameN_any (a : Option Addr) (len cap : Nat) (xs : List Gd) (a' : Option Addr) (len' cap' : Nat) (ys : List Gd) (w : World)
    (hS : NdSl w a len cap xs) (hO : NdSl w a' len' cap' ys) :
    Calls Try.prog 16 #[.slice a len cap, .slice a' len' cap'] w fun e w' => e = .returned (.bool (decide (xs = ys))) ∧ Below w.heap.size w w' := by
  have hb0 := hS.bd
  have hb1 := hS.hcap
  have hb2 := hO.bd
  have hb3 := hO.hcap
  unfold maxLen at hb0 hb2
  by_cases hll : len = len'
  · subst hll
    go_enter Try.func16, Try.ntmps16
    go_wp2
    go_loopw [5] (fun i wr => ∃ k : Nat, k ≤ len ∧ i = .int .i64 k ∧ Hid (xs.take k = ys.take k) ∧ Hid (Below w.heap.size w wr)) (fun i _ => len - (intOf i).toNat)
    case atStart => exact ⟨0, Nat.zero_le _, rfl, by show _ = _; simp, Below.refl _ _⟩
    case round =>
      obtain ⟨k, hk, rfl, HU, hwr⟩ := hrel
      by_cases hlt : k < len
      · obtain ⟨g1, o1, s1, hi1, hx0, hx1, hx2, _, _, _⟩ := (hS.up hwr.out).at Try.underlying38 Try.sizeNode k hlt
        obtain ⟨g2, o2, s2, hi2, hy0, hy1, hy2, _, _, _⟩ := (hO.up hwr.out).at Try.underlying38 Try.sizeNode k hlt
        have hidx := fun w' => hi1 len w' hlt
        have hidx' := fun w' => hi2 len w' hlt
        clear hi1 hi2
        have HN : Hid (xs.getD k (0, 0, 0) = ys.getD k (0, 0, 0) → xs.take (k + 1) = ys.take (k + 1)) := fun h => takeG_next (by rw [hS.hlen]; exact hlt) (by rw [hO.hlen]; exact hlt) HU.out h
        have HM : Hid (xs.getD k (0, 0, 0) ≠ ys.getD k (0, 0, 0) → decide (xs = ys) = false) := fun h => decide_eq_false (fun e => h (by rw [e]))
        generalize xs.getD k (0, 0, 0) = x at *
        generalize ys.getD k (0, 0, 0) = y at *
        obtain ⟨x0, x1, x2⟩ := x
        obtain ⟨y0, y1, y2⟩ := y
        have hne := Try.neqNode x0 x1 x2 y0 y1 y2
        have HD : Hid (∀ b, decide (((x0, x1, x2) : Gd) = (y0, y1, y2)) = b → b = true → ((x0, x1, x2) : Gd) = (y0, y1, y2)) := fun b h1 h2 => of_decide_eq_true (h1.trans h2)
        have HE : Hid (∀ b, decide (((x0, x1, x2) : Gd) = (y0, y1, y2)) = b → b = false → ((x0, x1, x2) : Gd) ≠ (y0, y1, y2)) := fun b h1 h2 => of_decide_eq_false (h1.trans h2)
        generalize hq : decide (((x0, x1, x2) : Gd) = (y0, y1, y2)) = q at hne
        go_wp2_with fail
        go_quiet (fail)
        cases q with
        | false =>
          have HM2 : Hid _ := HM.out (HE.out false hq rfl)
          go_wp2
          go_ret
          exact ⟨by rw [HM2.out]; rfl, below_drewN hwr.out nq⟩
        | true =>
          have HN2 : Hid _ := HN.out (HD.out true hq rfl)
          go_wp2
          go_roundw
          case rel => exact ⟨k + 1, by omega, by go_num, HN2, below_drewN hwr.out nq⟩
          case measure => simp [intOf]; omega
      · have hx : Hid (decide (xs = ys) = true) := by
          have := HU.out
          rw [List.take_of_length_le (by rw [hS.hlen]; omega), List.take_of_length_le (by rw [hO.hlen]; omega)] at this
          exact decide_eq_true this
        go_wp2
        go_ret
        exact ⟨by rw [hx.out]; rfl, hwr.out⟩
  · have hx : Hid (decide (xs = ys) = false) := decide_eq_false (fun e => hll (by rw [← hS.hlen, ← hO.hlen, e]))
    have hll' : ((len : Int) != (len' : Int)) = true := by simp; omega
    clear hll
    go_enter Try.func16, Try.ntmps16
    go_wp2
    go_ret
    exact ⟨by rw [hx.out]; rfl, Below.refl _ _⟩
end Go.Proofs.Ytmnkkknkmbldhaa
