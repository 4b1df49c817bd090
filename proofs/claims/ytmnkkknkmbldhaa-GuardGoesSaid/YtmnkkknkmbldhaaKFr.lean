/- A call that changes an object's own blocks alone, and makes new ones. -/
import Derived.Test.YtmnkkknkmbldhaaWTk
import Derived.OwnWalk
namespace Go.Proofs.Ytmnkkknkmbldhaa
open Go.RowKit Go.Maps

/-- A call that may change an object's own blocks F, and make new ones: the object lies in F' behind it. -/
structure Fr (w w' : World) (F F' : Nat → Prop) : Prop where
  os : w'.os = w.os
  tape : w'.tape = w.tape
  output : w'.output = w.output
  size : w.heap.size ≤ w'.heap.size
  keep : ∀ k, k < w.heap.size → ¬ F k → w'.heap[k]? = w.heap[k]?
  foot : ∀ k, F' k → F k ∨ w.heap.size ≤ k
theorem Fr.below {w w' : World} {F F' : Nat → Prop} {B : Nat} (h : Fr w w' F F') (hF : ∀ k, F k → B ≤ k) (hB : B ≤ w.heap.size) : Below B w w' :=
  ⟨h.os, h.tape, h.output, h.size, fun k hk => h.keep k (by omega) (fun hf => by have := hF k hf; omega)⟩
theorem Fr.ge {w w' : World} {F F' : Nat → Prop} {B : Nat} (h : Fr w w' F F') (hF : ∀ k, F k → B ≤ k) (hB : B ≤ w.heap.size) : ∀ k, F' k → B ≤ k := fun k hk => by
  rcases h.foot k hk with h1 | h1
  · exact hF k h1
  · omega
theorem Fr.out {w w' : World} {F F' : Nat → Prop} (h : Fr w w' F F') {k : Nat} (hk : ¬ F k) (hl : k < w.heap.size) : ¬ F' k := fun hf => by
  rcases h.foot k hf with h1 | h1
  · exact hk h1
  · omega
theorem Fr.tks {w w' : World} {F F' : Nat → Prop} (h : Fr w w' F F') {a : Option Addr} {len cap : Nat} {ts : List Tk} (hT : TkSl w a len cap ts) (hf : 0 < len → ∀ x, a = some x → ¬ F x.block) : TkSl w' a len cap ts := by
  by_cases hl0 : len = 0
  · have hnil : ts = [] := List.eq_nil_of_length_eq_zero (by rw [hT.hlen]; exact hl0)
    subst hnil
    exact ⟨hT.hlen, hT.hcap, hT.bd, hT.nn, fun x hx k hk => absurd hk (by simp), fun x hx k hk => absurd hk (by simp), hT.ok⟩
  have hl : 0 < len := by omega
  cases a with
  | none => exact ⟨hT.hlen, hT.hcap, hT.bd, hT.nn, fun x hx => (by cases hx), fun x hx => (by cases hx), hT.ok⟩
  | some y =>
    refine hT.keep fun p v hp hx => ?_
    have e := hx y rfl
    have hl2 := World.block_lt_of_cell? _ _ hp
    have := h.keep p.block hl2 (by rw [e]; exact hf hl y rfl)
    unfold World.cell? at hp ⊢
    rw [this]; exact hp
theorem Fr.own {w w' : World} {F F' : Nat → Prop} (h : Fr w w' F F') {base e size n : Nat} {v : Value} {xs : List Value} (ho : w.ownsRow base e size v n xs) (hf : ∀ k, v.ownBlock = some k → ¬ F k) : w'.ownsRow base e size v n xs := by
  obtain ⟨hl, ho⟩ := ho
  refine ⟨hl, ho.imp id ?_⟩
  rintro ⟨g, cap, cur, rfl, hg, hcell, r⟩
  exact ⟨g, cap, cur, rfl, hg, (h.keep g (Array.getElem?_eq_some_iff.1 hcell).1 (hf g rfl)).trans hcell, r⟩
theorem Fr.trans {w w1 w2 : World} {F F1 F2 : Nat → Prop} (h : Fr w w1 F F1) (k : Fr w1 w2 F1 F2) : Fr w w2 F F2 := by
  refine ⟨k.os.trans h.os, k.tape.trans h.tape, k.output.trans h.output, Nat.le_trans h.size k.size, fun j hj hF => ?_, fun j hj => ?_⟩
  · exact (k.keep j (Nat.lt_of_lt_of_le hj h.size) (h.out hF hj)).trans (h.keep j hj hF)
  · rcases k.foot j hj with h1 | h1
    · exact h.foot j h1
    · exact Or.inr (Nat.le_trans h.size h1)
theorem Fr.ofBelow {w w' : World} {F : Nat → Prop} (h : Below w.heap.size w w') : Fr w w' F F := ⟨h.os, h.tape, h.output, h.size, fun k hk _ => h.block k hk, fun _ hk => Or.inl hk⟩
theorem Fr.cell {w w' : World} {F F' : Nat → Prop} (h : Fr w w' F F') {p : Addr} {v : Value} (hc : w.cell? p = some v) (hf : ¬ F p.block) : w'.cell? p = some v := by
  have := h.keep p.block (World.block_lt_of_cell? _ _ hc) hf
  unfold World.cell? at hc ⊢
  rw [this]; exact hc
theorem Fr.intSl {w w' : World} {F F' : Nat → Prop} (h : Fr w w' F F') {P : Program} {T : TypeId} {q : IntKind} {a : Option Addr} {len cap : Nat} {zs : List Int} (hS : IntSl P T q w a len cap zs) (hf : ∀ k, k < len → ¬ F (adOf a k).block) : IntSl P T q w' a len cap zs :=
  ⟨hS.hlen, hS.hcap, hS.bd, hS.idx, fun k hk => h.cell (hS.cell k hk) (hf k hk), fun k hk => Nat.lt_of_lt_of_le (hS.blk k hk) h.size, hS.nn⟩
end Go.Proofs.Ytmnkkknkmbldhaa
