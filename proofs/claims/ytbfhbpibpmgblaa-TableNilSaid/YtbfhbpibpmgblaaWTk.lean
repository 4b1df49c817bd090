/- Lists of tokens in memory, wherever they lie: read, cut, put behind one another. -/
import Derived.Test.YtbfhbpibpmgblaaKGen
import Derived.Test.YtbfhbpibpmgblaaTermM
namespace Go.Proofs.Ytbfhbpibpmgblaa
open Go.RowKit Go.Maps

def encT (ts : List Tk) : List Value := ts.flatMap fun t => [.int .u8 (t.1 : Int), .int .u8 (t.2 : Int)]
theorem encT_cons (t : Tk) (ts : List Tk) : encT (t :: ts) = .int .u8 (t.1 : Int) :: .int .u8 (t.2 : Int) :: encT ts := rfl
theorem encT_append (xs ys : List Tk) : encT (xs ++ ys) = encT xs ++ encT ys := by simp [encT]
theorem encT_len : ∀ ts : List Tk, (encT ts).length = ts.length * 2
  | [] => rfl
  | t :: ts => by rw [encT_cons]; simp [encT_len ts]; omega
theorem encT_get : ∀ (ts : List Tk) (k : Nat) (h : k < ts.length), (encT ts)[2 * k]? = some (.int .u8 (ts[k].1 : Int)) ∧ (encT ts)[2 * k + 1]? = some (.int .u8 (ts[k].2 : Int))
  | [], k, h => absurd h (by simp)
  | t :: ts, 0, _ => ⟨rfl, rfl⟩
  | t :: ts, k + 1, h => by
    have := encT_get ts k (by simpa using h)
    rw [encT_cons, show 2 * (k + 1) = 2 * k + 1 + 1 by omega, show 2 * k + 1 + 1 + 1 = (2 * k + 1) + 1 + 1 by omega]
    simpa using this
theorem encT_one (ts : List Tk) : ∀ u ∈ encT ts, u.oneCell' = true := by
  intro u hu
  unfold encT at hu
  obtain ⟨c, _, hc⟩ := List.mem_flatMap.1 hu
  exact two_oneCell _ _ u hc
/-- A list of tokens as the walk reads it. -/
structure TkSl (w : World) (a : Option Addr) (len cap : Nat) (ts : List Tk) : Prop where
  hlen : ts.length = len
  hcap : len ≤ cap
  bd : cap ≤ maxLen
  nn : a = none → cap = 0
  c0 : ∀ x, a = some x → ∀ k (h : k < ts.length), w.cell? (x.add (2 * k)) = some (.int .u8 (ts[k].1 : Int))
  c1 : ∀ x, a = some x → ∀ k (h : k < ts.length), w.cell? (x.add (2 * k + 1)) = some (.int .u8 (ts[k].2 : Int))
  ok : ∀ t ∈ ts, t.1 < 256 ∧ t.2 < 256
theorem TkSl.some_of {w : World} {a : Option Addr} {len cap : Nat} {ts : List Tk} (h : TkSl w a len cap ts) (hl : 0 < len) : ∃ x, a = some x := by
  cases a with
  | none => have := h.nn rfl; have := h.hcap; omega
  | some x => exact ⟨x, rfl⟩
theorem TkSl.lt {w : World} {x : Addr} {len cap : Nat} {ts : List Tk} (h : TkSl w (some x) len cap ts) (hl : 0 < len) : x.block < w.heap.size := by
  have h0 := h.c0 x rfl 0 (by have := h.hlen; omega)
  have := World.block_lt_of_cell? _ _ h0
  rwa [add_block] at this
theorem TkSl.keep {w w' : World} {a : Option Addr} {len cap : Nat} {ts : List Tk} (h : TkSl w a len cap ts) (hk : ∀ p v, w.cell? p = some v → (∀ x, a = some x → p.block = x.block) → w'.cell? p = some v) : TkSl w' a len cap ts :=
  ⟨h.hlen, h.hcap, h.bd, h.nn, fun x hx k hk' => hk _ _ (h.c0 x hx k hk') (fun y hy => by rw [add_block]; rw [hx] at hy; injection hy with hy; rw [hy]), fun x hx k hk' => hk _ _ (h.c1 x hx k hk') (fun y hy => by rw [add_block]; rw [hx] at hy; injection hy with hy; rw [hy]), h.ok⟩
theorem TkSl.up {w w' : World} {a : Option Addr} {len cap : Nat} {ts : List Tk} (h : TkSl w a len cap ts) (hb : Below w.heap.size w w') : TkSl w' a len cap ts :=
  h.keep fun _ _ hp _ => kept_cell hp hb
theorem TkSl.grown {w w' : World} {a : Option Addr} {len cap : Nat} {ts : List Tk} {row : Option Nat} (h : TkSl w a len cap ts) (hb : w.grownBy w' row) (hne : ∀ x, a = some x → some x.block ≠ row) : TkSl w' a len cap ts := by
  cases a with
  | none => exact ⟨h.hlen, h.hcap, h.bd, h.nn, fun x hx => (by cases hx), fun x hx => (by cases hx), h.ok⟩
  | some y => exact h.keep fun _ _ hp hx => grown_cell hp hb (by rw [hx y rfl]; exact hne y rfl)
theorem TkSl.nil {w : World} : TkSl w none 0 0 [] :=
  ⟨rfl, Nat.le_refl _, Nat.zero_le _, fun _ => rfl, fun x hx => (by cases hx), fun x hx => (by cases hx), fun t ht => (by simp at ht)⟩
/-- The part of a list from lo to hi. -/
theorem TkSl.cut {w : World} {x : Addr} {len cap : Nat} {ts : List Tk} (h : TkSl w (some x) len cap ts) (lo hi : Nat) (hl : lo ≤ hi) (hh : hi ≤ len) : TkSl w (some (if cap = lo then x else x.add (lo * 2))) (hi - lo) (cap - lo) ((ts.drop lo).take (hi - lo)) := by
  have hlen := h.hlen
  have hcap := h.hcap
  have hbd := h.bd
  have hll : ((ts.drop lo).take (hi - lo)).length = hi - lo := by simp; omega
  have hget : ∀ k (hk : k < ((ts.drop lo).take (hi - lo)).length), ((ts.drop lo).take (hi - lo))[k] = ts[lo + k]'(by omega) := fun k hk => by simp
  refine ⟨hll, by omega, by omega, fun hn => (nomatch hn), ?_, ?_, fun t ht => h.ok t (List.mem_of_mem_drop (List.mem_of_mem_take ht))⟩
  · intro y hy k hk
    injection hy with hy
    subst hy
    rw [if_neg (by omega), add_add, hget k hk, show lo * 2 + 2 * k = 2 * (lo + k) by omega]
    exact h.c0 x rfl (lo + k) (by omega)
  · intro y hy k hk
    injection hy with hy
    subst hy
    rw [if_neg (by omega), add_add, hget k hk, show lo * 2 + (2 * k + 1) = 2 * (lo + k) + 1 by omega]
    exact h.c1 x rfl (lo + k) (by omega)
/-- What an index finds, spelled out. -/
theorem TkSl.at {w : World} {a : Option Addr} {len cap : Nat} {ts : List Tk} (h : TkSl w a len cap ts) {P : Program} {T e : TypeId} (hu : P.underlying T = some (.slice e)) (hs : (P.info? e).map (·.size) = some 2) (k : Nat) (hk : k < len) :
    ∃ g o s, (∀ (n : Nat) (w' : World), k < n → (Instr.indexAt T (.slice a n cap) (.int .i64 k)).run P w' = .ok (.pointer (some ⟨g, o, s⟩)) w') ∧ w.cell? ⟨g, o, s⟩ = some (.int .u8 ((ts[k]'(by rw [h.hlen]; exact hk)).1 : Int)) ∧ w.cell? ⟨g, o + 1, none⟩ = some (.int .u8 ((ts[k]'(by rw [h.hlen]; exact hk)).2 : Int)) ∧ g < w.heap.size ∧ ∀ x, a = some x → x.block = g := by
  obtain ⟨x, rfl⟩ := h.some_of (by omega)
  have hkl : k < ts.length := by rw [h.hlen]; exact hk
  have e0 := h.c0 x rfl k hkl
  have e1 := h.c1 x rfl k hkl
  have hlt := h.lt (by omega)
  rw [← add_add] at e1
  have hb := add_block x (2 * k)
  have hrun : ∀ (n : Nat) (w' : World), k < n → (Instr.indexAt T (.slice (some x) n cap) (.int .i64 k)).run P w' = .ok (.pointer (some (x.add (2 * k)))) w' := fun n w' hn => by
    simp [Instr.indexAt, run_underlying hu, asIntOf, sizeOf_run2 hs, hn, Result.andThen, go_sem, Nat.mul_comm]
  generalize x.add (2 * k) = y at *
  obtain ⟨g, o, s⟩ := y
  refine ⟨g, o, s, hrun, e0, ?_, ?_, ?_⟩
  · simpa [Addr.add] using e1
  · dsimp only at hb; omega
  · intro z hz; injection hz with hz; rw [← hz]; exact hb.symm
/-- A row of the call's own as a list of tokens. -/
theorem own_tk {w : World} {base e n : Nat} {v : Value} {ts : List Tk} (h : w.ownsRow base e 2 v n (encT ts)) (hok : ∀ t ∈ ts, t.1 < 256 ∧ t.2 < 256) :
    ∃ a cap, v = .slice a n cap ∧ TkSl w a n cap ts ∧ ∀ x, a = some x → base ≤ x.block ∧ v.ownBlock = some x.block := by
  obtain ⟨hl, h⟩ := h
  rw [encT_len] at hl
  have hl' : ts.length = n := by omega
  rcases h with ⟨rfl, rfl⟩ | ⟨g, cap, cur, rfl, hg, hcell, hnc, hcm, hsz, htk⟩
  · obtain rfl := List.eq_nil_of_length_eq_zero hl'
    exact ⟨none, 0, rfl, TkSl.nil, fun x hx => by cases hx⟩
  · have key : ∀ j, j < n * 2 → w.cell? ⟨g, j, none⟩ = (encT ts)[j]? := fun j hj => by
      rw [← htk, List.getElem?_take, if_pos hj]
      simp [World.cell?, hcell]
    refine ⟨some ⟨g, 0, none⟩, cap, rfl, ⟨hl', hnc, hcm, fun hn => (nomatch hn), fun x hx k hk => ?_, fun x hx k hk => ?_, hok⟩, fun x hx => by injection hx with hx; subst hx; exact ⟨hg, rfl⟩⟩
    · injection hx with hx; subst hx
      rw [add_plain, Nat.zero_add, key _ (by omega)]; exact (encT_get ts k hk).1
    · injection hx with hx; subst hx
      rw [add_plain, Nat.zero_add, key _ (by omega)]; exact (encT_get ts k hk).2
theorem Try.sizeTok : (Try.prog.info? 61).map (·.size) = some 2 := by kernel_rfl
theorem Try.infoTok : (Try.prog.info? 61).map (fun i => (i.zero, i.size, i.bytes)) = some (some (.agg #[.int .u8 0, .int .u8 0]), 2, 2) := by kernel_rfl
theorem TkSl.cells {w : World} {x : Addr} {len cap : Nat} {ts : List Tk} (h : TkSl w (some x) len cap ts) : ∀ j u, (encT ts)[j]? = some u → w.cell? (x.add j) = some u := by
  intro j u hj
  have hjl := (List.getElem?_eq_some_iff.1 hj).1
  rw [encT_len] at hjl
  rcases Nat.mod_two_eq_zero_or_one j with h0 | h0
  · obtain ⟨k, rfl⟩ : ∃ k, j = 2 * k := ⟨j / 2, by omega⟩
    rw [(encT_get ts k (by omega)).1] at hj
    rw [← hj]; exact h.c0 x rfl k (by omega)
  · obtain ⟨k, rfl⟩ : ∃ k, j = 2 * k + 1 := ⟨j / 2, by omega⟩
    rw [(encT_get ts k (by omega)).2] at hj
    rw [← hj]; exact h.c1 x rfl k (by omega)
/-- Tokens behind a list of the call's own. -/
theorem Try.wp_tks {w : World} {o : Oper} {a : Act} {K : Act → World → Prop} {Q : Exit → Act → World → Prop} (s x : Operand)
    (ho : o.op = .call { callee := .builtin .append, args := #[s, x], argTypes := #[29, 29] }) (base : Nat)
    (v : Value) (xs ys : List Tk) (b : Option Addr) (len cap : Nat) (hs : a.eval s = v) (hx : a.eval x = .slice b len cap) (hown : w.ownsRow base 61 2 v xs.length (encT xs)) (hT : TkSl w b len cap ys)
    (hn : xs.length ≤ 10000000) (hm : ys.length ≤ 10000000) (hbase : base ≤ w.heap.size)
    (h : ∀ v' w', w'.ownsRow base 61 2 v' (xs ++ ys).length (encT (xs ++ ys)) → w.grownBy w' v.ownBlock → K (a.put o.dst v') w') : o.wp Try.prog a w K Q := by
  obtain ⟨i, hi, hz0, hz1, hz2⟩ := info_parts Try.infoTok
  have hl := hT.hlen
  cases b with
  | none =>
    have hc := hT.nn rfl
    have hcl := hT.hcap
    obtain rfl : len = 0 := by omega
    subst hc
    have hy : ys = [] := List.eq_nil_of_length_eq_zero hl
    subst hy
    have hrun := run_append_owned_none (P := Try.prog) w base 29 o.type 61 i 2 Try.underlying29 hi v xs.length (encT xs) hown
    unfold Oper.wp execOp
    simp only [ho, resolve, invoke, builtin, Sem.run_bind, Sem.run_pure, Result.andThen_ok, List.map_toArray, List.map_cons, List.map_nil, hs, hx, hrun]
    exact h v w (by rw [List.append_nil]; exact hown) (World.grownBy.refl _ _)
  | some y =>
    refine wp_append_own w s x 29 ho base 61 i _ 2 2 Try.underlying29 hi hz0 hz1 hz2 rfl (by decide) v xs.length _ hs hown y len cap (encT ys) hx (by rw [encT_len, hl]) hT.cells (encT_one ys) (by unfold maxLen; omega) (by omega) hbase ?_
    intro v' w' h1 h2 _
    exact h v' w' (by rw [encT_append, List.length_append, hl]; exact h1) h2
theorem Try.append_tks {w : World} {ops : Array Oper} {rest : List Oper} {o : Oper} {a : Act} {Q : Exit → Act → World → Prop} (hgd : o.guard = none) (s x : Operand)
    (ho : o.op = .call { callee := .builtin .append, args := #[s, x], argTypes := #[29, 29] }) (base : Nat)
    (v : Value) (xs ys : List Tk) (b : Option Addr) (len cap : Nat) (hs : a.eval s = v) (hx : a.eval x = .slice b len cap) (hown : w.ownsRow base 61 2 v xs.length (encT xs)) (hT : TkSl w b len cap ys)
    (hn : xs.length ≤ 10000000) (hm : ys.length ≤ 10000000) (hbase : base ≤ w.heap.size)
    (h : ∀ v' w', w'.ownsRow base 61 2 v' (xs ++ ys).length (encT (xs ++ ys)) → w.grownBy w' v.ownBlock → wpList Try.prog ops Q rest (a.put o.dst v') w') : wpList Try.prog ops Q (o :: rest) a w :=
  wpList_plain hgd fun _ hK => Try.wp_tks s x ho base v xs ys b len cap hs hx hown hT hn hm hbase fun v' w' h1 h2 => hK _ _ (h v' w' h1 h2)
theorem Try.step_tks {w : World} {ops : Array Oper} {o : Oper} {a : Act} {K : Act → World → Prop} {Q : Exit → Act → World → Prop} {E : Prop} (hgd : o.guard = none) (s x : Operand)
    (ho : o.op = .call { callee := .builtin .append, args := #[s, x], argTypes := #[29, 29] }) (base : Nat)
    (v : Value) (xs ys : List Tk) (b : Option Addr) (len cap : Nat) (hs : a.eval s = v) (hx : a.eval x = .slice b len cap) (hown : w.ownsRow base 61 2 v xs.length (encT xs)) (hT : TkSl w b len cap ys)
    (hn : xs.length ≤ 10000000) (hm : ys.length ≤ 10000000) (hbase : base ≤ w.heap.size)
    (h : ∀ v' w', w'.ownsRow base 61 2 v' (xs ++ ys).length (encT (xs ++ ys)) → w.grownBy w' v.ownBlock → K (a.put o.dst v') w') :
    if Region.wanted o (yielded ops a.tmps) = true then Oper.wp Try.prog o a w K Q else E := by
  have hw : Region.wanted o (yielded ops a.tmps) = true := by simp [Region.wanted, hgd]
  rw [if_pos hw]
  exact Try.wp_tks s x ho base v xs ys b len cap hs hx hown hT hn hm hbase h
end Go.Proofs.Ytbfhbpibpmgblaa
