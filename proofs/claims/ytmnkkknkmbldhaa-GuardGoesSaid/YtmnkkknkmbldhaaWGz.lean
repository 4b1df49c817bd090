/- Lists of lists of numbers, as they come in. -/
import Derived.Test.YtmnkkknkmbldhaaWGr2
namespace Go.Proofs.Ytmnkkknkmbldhaa
open Go.RowKit Go.Maps

/-- A list of numbers where it lies. -/
structure Zc where
  a : Option Addr
  len : Nat
  cap : Nat
  zs : List Int
/-- A list of lists of numbers as the walk reads it. -/
structure ZzSl (w : World) (a : Option Addr) (len cap : Nat) (rs : List Zc) : Prop where
  hlen : rs.length = len
  hcap : len ≤ cap
  bd : cap ≤ maxLen
  nn : a = none → cap = 0
  c : ∀ x, a = some x → ∀ k (h : k < rs.length), w.cell? (x.add k) = some (.slice rs[k].a rs[k].len rs[k].cap)
  t : ∀ r ∈ rs, ZSl w r.a r.len r.cap r.zs ∧ ∀ z ∈ r.zs, I64 z
theorem ZzSl.up {w w' : World} {a : Option Addr} {len cap : Nat} {rs : List Zc} (h : ZzSl w a len cap rs) (hb : Below w.heap.size w w') : ZzSl w' a len cap rs :=
  ⟨h.hlen, h.hcap, h.bd, h.nn, fun x hx k hk => kept_cell (h.c x hx k hk) hb, fun r hr => ⟨(h.t r hr).1.up hb, (h.t r hr).2⟩⟩
theorem Try.sizeInts2 : (Try.prog.info? 30).map (·.size) = some 1 := by kernel_rfl
theorem ZzSl.at {w : World} {a : Option Addr} {len cap : Nat} {rs : List Zc} (h : ZzSl w a len cap rs) (k : Nat) (hk : k < len) :
    ∃ g o s, ∃ r : Zc, rs[k]? = some r ∧ (∀ w', (Instr.indexAt 22 (.slice a len cap) (.int .i64 (k : Int))).run Try.prog w' = .ok (.pointer (some ⟨g, o, s⟩)) w') ∧ w.cell? ⟨g, o, s⟩ = some (.slice r.a r.len r.cap) ∧ ZSl w r.a r.len r.cap r.zs ∧ ∀ z ∈ r.zs, I64 z := by
  have hkl : k < rs.length := by rw [h.hlen]; exact hk
  cases a with
  | none => have := h.nn rfl; have := h.hcap; omega
  | some x =>
    have e0 := h.c x rfl k hkl
    have ht := h.t _ (List.getElem_mem hkl)
    have hi := fun w' => idx_of (P := Try.prog) (T := 22) Try.underlying22 Try.sizeInts2 (a := some x) (cap := cap) (n := len) (fun e => by cases e) k w' hk
    simp only [adOf] at hi
    generalize x.add k = y at *
    obtain ⟨g, o, s⟩ := y
    exact ⟨g, o, s, rs[k], List.getElem?_eq_getElem hkl, hi, e0, ht.1, ht.2⟩
end Go.Proofs.Ytmnkkknkmbldhaa
