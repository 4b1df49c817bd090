/- Stage 9's laws over contracts of package table that are handed in: a table in memory, whatever it is made of; what its functions answer. -/
import Derived.Test.YtbfhbpibpmgblaaKtM
import Derived.Test.YtbfhbpibpmgblaaWTt1
import Derived.Test.YtbfhbpibpmgblaaWTs
import Derived.OwnWalk
namespace Go.Proofs.Ytbfhbpibpmgblaa
open Go.RowKit Go.Maps

/-- A call that may change a table's own blocks F, and make new ones: the table lies in F' behind it. -/
structure Fr (w w' : World) (F F' : Nat → Prop) : Prop where
  os : w'.os = w.os
  tape : w'.tape = w.tape
  output : w'.output = w.output
  size : w.heap.size ≤ w'.heap.size
  keep : ∀ k, k < w.heap.size → ¬ F k → w'.heap[k]? = w.heap[k]?
  foot : ∀ k, F' k → F k ∨ w.heap.size ≤ k
theorem Fr.below {w w' : World} {F F' : Nat → Prop} {B : Nat} (h : Fr w w' F F') (hF : ∀ k, F k → B ≤ k) (hB : B ≤ w.heap.size) : Below B w w' :=
  ⟨h.os, h.tape, h.output, h.size, fun k hk => h.keep k (by omega) (fun hf => by have := hF k hf; omega)⟩
theorem Fr.ge {w w' : World} {F F' : Nat → Prop} {B : Nat} (h : Fr w w' F F') (hF : ∀ k, F k → B ≤ k) (hB : B ≤ w.heap.size) : ∀ k, F' k → B ≤ k := fun k hk => by
  rcases h.foot k hk with h1 | h1
  · exact hF k h1
  · omega
theorem Fr.out {w w' : World} {F F' : Nat → Prop} (h : Fr w w' F F') {k : Nat} (hk : ¬ F k) (hl : k < w.heap.size) : ¬ F' k := fun hf => by
  rcases h.foot k hf with h1 | h1
  · exact hk h1
  · omega
theorem Fr.tks {w w' : World} {F F' : Nat → Prop} (h : Fr w w' F F') {a : Option Addr} {len cap : Nat} {ts : List Tk} (hT : TkSl w a len cap ts) (hf : 0 < len → ∀ x, a = some x → ¬ F x.block) : TkSl w' a len cap ts := by
  by_cases hl0 : len = 0
  · have hnil : ts = [] := List.eq_nil_of_length_eq_zero (by rw [hT.hlen]; exact hl0)
    subst hnil
    exact ⟨hT.hlen, hT.hcap, hT.bd, hT.nn, fun x hx k hk => absurd hk (by simp), fun x hx k hk => absurd hk (by simp), hT.ok⟩
  have hl : 0 < len := by omega
  cases a with
  | none => exact ⟨hT.hlen, hT.hcap, hT.bd, hT.nn, fun x hx => (by cases hx), fun x hx => (by cases hx), hT.ok⟩
  | some y =>
    refine hT.keep fun p v hp hx => ?_
    have e := hx y rfl
    have hl2 := World.block_lt_of_cell? _ _ hp
    have := h.keep p.block hl2 (by rw [e]; exact hf hl y rfl)
    unfold World.cell? at hp ⊢
    rw [this]; exact hp
theorem Fr.own {w w' : World} {F F' : Nat → Prop} (h : Fr w w' F F') {base e size n : Nat} {v : Value} {xs : List Value} (ho : w.ownsRow base e size v n xs) (hf : ∀ k, v.ownBlock = some k → ¬ F k) : w'.ownsRow base e size v n xs := by
  obtain ⟨hl, ho⟩ := ho
  refine ⟨hl, ho.imp id ?_⟩
  rintro ⟨g, cap, cur, rfl, hg, hcell, r⟩
  exact ⟨g, cap, cur, rfl, hg, (h.keep g (Array.getElem?_eq_some_iff.1 hcell).1 (hf g rfl)).trans hcell, r⟩
abbrev TabP := World → (Nat → Prop) → Nat → List It → Prop
def tbV (t : Nat) : Value := .pointer (some ⟨t, 0, none⟩)
def itV (x : It) : Value := .agg #[.int .u8 (x.op : Int), .int .u8 (x.p : Int), .int .i64 x.a, .int .i64 x.b]
/-- What is asked of the landed package table. -/
structure TabC (Tab : TabP) : Prop where
  is : ∀ {w F t items}, Tab w F t items → TabIs items
  lt : ∀ {w F t items}, Tab w F t items → ∀ k, F k → k < w.heap.size
  far : ∀ {w w' F t items}, Tab w F t items → (∀ k, F k → w'.heap[k]? = w.heap[k]?) → Tab w' F t items
  new : ∀ w, Calls Try.prog 7 #[] w fun e w' => ∃ t F, e = .returned (tbV t) ∧ Tab w' F t [] ∧ (∀ k, F k → w.heap.size ≤ k) ∧ Below w.heap.size w w'
  keep : ∀ {w F t items} (a : Option Addr) (len cap : Nat) (ts : List Tk), Tab w F t items → TkSl w a len cap ts → (0 < len → ∀ x, a = some x → ¬ F x.block) → Calls Try.prog 11 #[tbV t, .slice a len cap] w fun e w' => e = .returned (.tuple #[.int .i64 (keepN items ts : Int), .int .i64 (keepE items ts : Int)]) ∧ ∃ F', Tab w' F' t (keepI items ts) ∧ Fr w w' F F'
  find : ∀ {w F t items} (a : Option Addr) (len cap : Nat) (ts : List Tk), Tab w F t items → TkSl w a len cap ts → (0 < len → ∀ x, a = some x → ¬ F x.block) → Calls Try.prog 9 #[tbV t, .slice a len cap] w fun e w' => e = .returned (.tuple #[.int .i64 (findN items ts : Int), .bool (findB items ts)]) ∧ ∃ F', Tab w' F' t items ∧ Fr w w' F F'
  len : ∀ {w F t items}, Tab w F t items → Calls Try.prog 13 #[tbV t] w fun e w' => e = .returned (.int .i64 (items.length : Int)) ∧ ∃ F', Tab w' F' t items ∧ Fr w w' F F'
  item : ∀ {w F t items} (n : Nat) (x : It), Tab w F t items → items[n]? = some x → Calls Try.prog 19 #[tbV t, .int .i64 (n : Int)] w fun e w' => e = .returned (.tuple #[itV x, .int .i64 0]) ∧ ∃ F', Tab w' F' t items ∧ Fr w w' F F'
  text : ∀ {w F t items} (n : Nat) (T : Tr), Tab w F t items → Rep items n T → T.flat.length ≤ 2048 → Calls Try.prog 18 #[tbV t, .int .i64 (n : Int)] w fun e w' => ∃ a cap F', e = .returned (.tuple #[.slice a T.flat.length cap, .int .i64 0]) ∧ TkSl w' a T.flat.length cap T.flat ∧ (0 < T.flat.length → ∀ x, a = some x → ¬ F' x.block) ∧ Tab w' F' t items ∧ Fr w w' F F'
theorem own_lt {w : World} {base e size n : Nat} {v : Value} {xs : List Value} (h : w.ownsRow base e size v n xs) : ∀ k, v.ownBlock = some k → k < w.heap.size := by
  intro k hk
  rcases h.2 with ⟨rfl, _⟩ | ⟨g, cap, cur, rfl, _, hcell, _⟩
  · cases hk
  · injection hk with hk
    dsimp only at hk
    subst hk
    exact (Array.getElem?_eq_some_iff.1 hcell).1
/-- One value more behind a row of the call's own. -/
theorem append_v1 {w : World} {ops : Array Oper} {rest : List Oper} {o : Oper} {a : Act} {Q : Exit → Act → World → Prop} {T E : TypeId} {z : Value} {bt : Nat} (hu : Try.prog.underlying T = some (.slice E)) (hin : (Try.prog.info? E).map (fun i => (i.zero, i.size, i.bytes)) = some (some z, 1, bt)) (hzs : z.cells.size = 1) (hbt : bt ≤ 1000) (hgd : o.guard = none) (s x : Operand)
    (ho : o.op = .call { callee := .builtin .append, args := #[s, x], argTypes := #[T, T] }) (base : Nat)
    (v : Value) (n : Nat) (xs : List Value) (y : Value) (g : Nat) (hs : a.eval s = v) (hx : a.eval x = .slice (some ⟨g, 0, none⟩) 1 1) (hown : w.ownsRow base E 1 v n xs)
    (hB : w.cell? ⟨g, 0, none⟩ = some y) (h1 : y.oneCell' = true) (hn : n ≤ 1000000) (hbase : base ≤ w.heap.size)
    (h : ∀ v' w', w'.ownsRow base E 1 v' (n + 1) (xs ++ [y]) → w.grownBy w' v.ownBlock → (v'.ownBlock = v.ownBlock ∨ v'.ownBlock = some w.heap.size) → wpList Try.prog ops Q rest (a.put o.dst v') w') : wpList Try.prog ops Q (o :: rest) a w := by
  obtain ⟨i, hi, hz0, hz1, hz2⟩ := info_parts hin
  have hb : (n + 1) * bt ≤ (1000000 + 1) * 1000 := Nat.mul_le_mul (by omega) hbt
  refine wpList_append_own_at w hgd s x T ho base E i _ 1 bt hu hi hz0 hz1 hz2 hzs (by decide) v n _ hs hown ⟨g, 0, none⟩ 1 1 [y] hx rfl ?_ ?_ (by unfold maxLen; omega) (by omega) hbase ?_
  · intro j u hj
    match j with
    | 0 => simp at hj; rw [← hj, add_plain]; exact hB
    | j + 1 => simp at hj
  · intro u hu'
    simp at hu'
    subst hu'
    exact h1
  · intro v' w' e1 e2 _ e3
    exact h v' w' e1 e2 e3
end Go.Proofs.Ytbfhbpibpmgblaa
