/- Lists of tokens in memory, wherever they lie: read, cut, put behind one another. -/
import Derived.Test.YtmnkkknkmbldhaaKGen
import Derived.Test.YtmnkkknkmbldhaaTermK
namespace Go.Proofs.Ytmnkkknkmbldhaa
open Go.RowKit Go.Maps

def encT (ts : List Tk) : List Value := ts.flatMap fun t => [.int .u8 (t.1 : Int), .int .u8 (t.2 : Int)]
theorem encT_cons (t : Tk) (ts : List Tk) : encT (t :: ts) = .int .u8 (t.1 : Int) :: .int .u8 (t.2 : Int) :: encT ts := rfl
theorem encT_append (xs ys : List Tk) : encT (xs ++ ys) = encT xs ++ encT ys := by simp [encT]
theorem encT_len : ∀ ts : List Tk, (encT ts).length = ts.length * 2
  | [] => rfl
  | t :: ts => by rw [encT_cons]; simp [encT_len ts]; omega
theorem encT_get : ∀ (ts : List Tk) (k : Nat) (h : k < ts.length), (encT ts)[2 * k]? = some (.int .u8 (ts[k].1 : Int)) ∧ (encT ts)[2 * k + 1]? = some (.int .u8 (ts[k].2 : Int))
  | [], k, h => absurd h (by simp)
  | t :: ts, 0, _ => ⟨rfl, rfl⟩
  | t :: ts, k + 1, h => by
    have := encT_get ts k (by simpa using h)
    rw [encT_cons, show 2 * (k + 1) = 2 * k + 1 + 1 by omega, show 2 * k + 1 + 1 + 1 = (2 * k + 1) + 1 + 1 by omega]
    simpa using this
theorem encT_one (ts : List Tk) : ∀ u ∈ encT ts, u.oneCell' = true := by
  intro u hu
  unfold encT at hu
  obtain ⟨c, _, hc⟩ := List.mem_flatMap.1 hu
  exact two_oneCell _ _ u hc
/-- A list of tokens as the walk reads it. -/
structure TkSl (w : World) (a : Option Addr) (len cap : Nat) (ts : List Tk) : Prop where
  hlen : ts.length = len
  hcap : len ≤ cap
  bd : cap ≤ maxLen
  nn : a = none → cap = 0
  c0 : ∀ x, a = some x → ∀ k (h : k < ts.length), w.cell? (x.add (2 * k)) = some (.int .u8 (ts[k].1 : Int))
  c1 : ∀ x, a = some x → ∀ k (h : k < ts.length), w.cell? (x.add (2 * k + 1)) = some (.int .u8 (ts[k].2 : Int))
  ok : ∀ t ∈ ts, t.1 < 256 ∧ t.2 < 256
theorem TkSl.some_of {w : World} {a : Option Addr} {len cap : Nat} {ts : List Tk} (h : TkSl w a len cap ts) (hl : 0 < len) : ∃ x, a = some x := by
  cases a with
  | none => have := h.nn rfl; have := h.hcap; omega
  | some x => exact ⟨x, rfl⟩
theorem TkSl.lt {w : World} {x : Addr} {len cap : Nat} {ts : List Tk} (h : TkSl w (some x) len cap ts) (hl : 0 < len) : x.block < w.heap.size := by
  have h0 := h.c0 x rfl 0 (by have := h.hlen; omega)
  have := World.block_lt_of_cell? _ _ h0
  rwa [add_block] at this
theorem TkSl.keep {w w' : World} {a : Option Addr} {len cap : Nat} {ts : List Tk} (h : TkSl w a len cap ts) (hk : ∀ p v, w.cell? p = some v → (∀ x, a = some x → p.block = x.block) → w'.cell? p = some v) : TkSl w' a len cap ts :=
  ⟨h.hlen, h.hcap, h.bd, h.nn, fun x hx k hk' => hk _ _ (h.c0 x hx k hk') (fun y hy => by rw [add_block]; rw [hx] at hy; injection hy with hy; rw [hy]), fun x hx k hk' => hk _ _ (h.c1 x hx k hk') (fun y hy => by rw [add_block]; rw [hx] at hy; injection hy with hy; rw [hy]), h.ok⟩
theorem TkSl.up {w w' : World} {a : Option Addr} {len cap : Nat} {ts : List Tk} (h : TkSl w a len cap ts) (hb : Below w.heap.size w w') : TkSl w' a len cap ts :=
  h.keep fun _ _ hp _ => kept_cell hp hb
theorem TkSl.grown {w w' : World} {a : Option Addr} {len cap : Nat} {ts : List Tk} {row : Option Nat} (h : TkSl w a len cap ts) (hb : w.grownBy w' row) (hne : ∀ x, a = some x → some x.block ≠ row) : TkSl w' a len cap ts := by
  cases a with
  | none => exact ⟨h.hlen, h.hcap, h.bd, h.nn, fun x hx => (by cases hx), fun x hx => (by cases hx), h.ok⟩
  | some y => exact h.keep fun _ _ hp hx => grown_cell hp hb (by rw [hx y rfl]; exact hne y rfl)
theorem TkSl.nil {w : World} : TkSl w none 0 0 [] :=
  ⟨rfl, Nat.le_refl _, Nat.zero_le _, fun _ => rfl, fun x hx => (by cases hx), fun x hx => (by cases hx), fun t ht => (by simp at ht)⟩
/-- The part of a list from lo to hi. -/
theorem TkSl.cut {w : World} {x : Addr} {len cap : Nat} {ts : List Tk} (h : TkSl w (some x) len cap ts) (lo hi : Nat) (hl : lo ≤ hi) (hh : hi ≤ len) : TkSl w (some (if cap = lo then x else x.add (lo * 2))) (hi - lo) (cap - lo) ((ts.drop lo).take (hi - lo)) := by
  have hlen := h.hlen
  have hcap := h.hcap
  have hbd := h.bd
  have hll : ((ts.drop lo).take (hi - lo)).length = hi - lo := by simp; omega
  have hget : ∀ k (hk : k < ((ts.drop lo).take (hi - lo)).length), ((ts.drop lo).take (hi - lo))[k] = ts[lo + k]'(by omega) := fun k hk => by simp
  refine ⟨hll, by omega, by omega, fun hn => (nomatch hn), ?_, ?_, fun t ht => h.ok t (List.mem_of_mem_drop (List.mem_of_mem_take ht))⟩
  · intro y hy k hk
    injection hy with hy
    subst hy
    rw [if_neg (by omega), add_add, hget k hk, show lo * 2 + 2 * k = 2 * (lo + k) by omega]
    exact h.c0 x rfl (lo + k) (by omega)
  · intro y hy k hk
    injection hy with hy
    subst hy
    rw [if_neg (by omega), add_add, hget k hk, show lo * 2 + (2 * k + 1) = 2 * (lo + k) + 1 by omega]
    exact h.c1 x rfl (lo + k) (by omega)
/-- What an index finds, spelled out. -/
theorem TkSl.at {w : World} {a : Option Addr} {len cap : Nat} {ts : List Tk} (h : TkSl w a len cap ts) {P : Program} {T e : TypeId} (hu : P.underlying T = some (.slice e)) (hs : (P.info? e).map (·.size) = some 2) (k : Nat) (hk : k < len) :
    ∃ g o s, (∀ (n : Nat) (w' : World), k < n → (Instr.indexAt T (.slice a n cap) (.int .i64 k)).run P w' = .ok (.pointer (some ⟨g, o, s⟩)) w') ∧ w.cell? ⟨g, o, s⟩ = some (.int .u8 ((ts[k]'(by rw [h.hlen]; exact hk)).1 : Int)) ∧ w.cell? ⟨g, o + 1, none⟩ = some (.int .u8 ((ts[k]'(by rw [h.hlen]; exact hk)).2 : Int)) ∧ g < w.heap.size ∧ ∀ x, a = some x → x.block = g := by
  obtain ⟨x, rfl⟩ := h.some_of (by omega)
  have hkl : k < ts.length := by rw [h.hlen]; exact hk
  have e0 := h.c0 x rfl k hkl
  have e1 := h.c1 x rfl k hkl
  have hlt := h.lt (by omega)
  rw [← add_add] at e1
  have hb := add_block x (2 * k)
  have hrun : ∀ (n : Nat) (w' : World), k < n → (Instr.indexAt T (.slice (some x) n cap) (.int .i64 k)).run P w' = .ok (.pointer (some (x.add (2 * k)))) w' := fun n w' hn => by
    simp [Instr.indexAt, run_underlying hu, asIntOf, sizeOf_run2 hs, hn, Result.andThen, go_sem, Nat.mul_comm]
  generalize x.add (2 * k) = y at *
  obtain ⟨g, o, s⟩ := y
  refine ⟨g, o, s, hrun, e0, ?_, ?_, ?_⟩
  · simpa [Addr.add] using e1
  · dsimp only at hb; omega
  · intro z hz; injection hz with hz; rw [← hz]; exact hb.symm
/-- A row of the call's own as a list of tokens. -/
theorem own_tk {w : World} {base e n : Nat} {v : Value} {ts : List Tk} (h : w.ownsRow base e 2 v n (encT ts)) (hok : ∀ t ∈ ts, t.1 < 256 ∧ t.2 < 256) :
    ∃ a cap, v = .slice a n cap ∧ TkSl w a n cap ts ∧ ∀ x, a = some x → base ≤ x.block ∧ v.ownBlock = some x.block := by
  obtain ⟨hl, h⟩ := h
  rw [encT_len] at hl
  have hl' : ts.length = n := by omega
  rcases h with ⟨rfl, rfl⟩ | ⟨g, cap, cur, rfl, hg, hcell, hnc, hcm, hsz, htk⟩
  · obtain rfl := List.eq_nil_of_length_eq_zero hl'
    exact ⟨none, 0, rfl, TkSl.nil, fun x hx => by cases hx⟩
  · have key : ∀ j, j < n * 2 → w.cell? ⟨g, j, none⟩ = (encT ts)[j]? := fun j hj => by
      rw [← htk, List.getElem?_take, if_pos hj]
      simp [World.cell?, hcell]
    refine ⟨some ⟨g, 0, none⟩, cap, rfl, ⟨hl', hnc, hcm, fun hn => (nomatch hn), fun x hx k hk => ?_, fun x hx k hk => ?_, hok⟩, fun x hx => by injection hx with hx; subst hx; exact ⟨hg, rfl⟩⟩
    · injection hx with hx; subst hx
      rw [add_plain, Nat.zero_add, key _ (by omega)]; exact (encT_get ts k hk).1
    · injection hx with hx; subst hx
      rw [add_plain, Nat.zero_add, key _ (by omega)]; exact (encT_get ts k hk).2
theorem TkSl.cells {w : World} {x : Addr} {len cap : Nat} {ts : List Tk} (h : TkSl w (some x) len cap ts) : ∀ j u, (encT ts)[j]? = some u → w.cell? (x.add j) = some u := by
  intro j u hj
  have hjl := (List.getElem?_eq_some_iff.1 hj).1
  rw [encT_len] at hjl
  rcases Nat.mod_two_eq_zero_or_one j with h0 | h0
  · obtain ⟨k, rfl⟩ : ∃ k, j = 2 * k := ⟨j / 2, by omega⟩
    rw [(encT_get ts k (by omega)).1] at hj
    rw [← hj]; exact h.c0 x rfl k (by omega)
  · obtain ⟨k, rfl⟩ : ∃ k, j = 2 * k + 1 := ⟨j / 2, by omega⟩
    rw [(encT_get ts k (by omega)).2] at hj
    rw [← hj]; exact h.c1 x rfl k (by omega)
end Go.Proofs.Ytmnkkknkmbldhaa
