/- Lists of lists of tokens, as they come in. -/
import Derived.Test.YtbfhbpibpmgblaaWTe6
namespace Go.Proofs.Ytbfhbpibpmgblaa
open Go.RowKit Go.Maps

/-- A list of lists of tokens as the walk reads it. -/
structure RwSl (w : World) (a : Option Addr) (len cap : Nat) (rs : List Pc) : Prop where
  hlen : rs.length = len
  hcap : len ≤ cap
  bd : cap ≤ maxLen
  nn : a = none → cap = 0
  c : ∀ x, a = some x → ∀ k (h : k < rs.length), w.cell? (x.add k) = some (.slice rs[k].a rs[k].len rs[k].cap)
  t : ∀ r ∈ rs, TkSl w r.a r.len r.cap r.ts
theorem RwSl.up {w w' : World} {a : Option Addr} {len cap : Nat} {rs : List Pc} (h : RwSl w a len cap rs) (hb : Below w.heap.size w w') : RwSl w' a len cap rs :=
  ⟨h.hlen, h.hcap, h.bd, h.nn, fun x hx k hk => kept_cell (h.c x hx k hk) hb, fun r hr => (h.t r hr).up hb⟩
theorem RwSl.at {w : World} {a : Option Addr} {len cap : Nat} {rs : List Pc} (h : RwSl w a len cap rs) (k : Nat) (hk : k < len) :
    ∃ g o s, (∀ w', (Instr.indexAt 22 (.slice a len cap) (.int .i64 (k : Int))).run Try.prog w' = .ok (.pointer (some ⟨g, o, s⟩)) w') ∧ w.cell? ⟨g, o, s⟩ = some (.slice (rs[k]'(by rw [h.hlen]; exact hk)).a (rs[k]'(by rw [h.hlen]; exact hk)).len (rs[k]'(by rw [h.hlen]; exact hk)).cap) := by
  have hkl : k < rs.length := by rw [h.hlen]; exact hk
  cases a with
  | none => have := h.nn rfl; have := h.hcap; omega
  | some x =>
    have e0 := h.c x rfl k hkl
    have hi := fun w' => idx_of (P := Try.prog) (T := 22) Try.underlying22 Try.sizeToks (a := some x) (cap := cap) (n := len) (fun e => by cases e) k w' hk
    simp only [adOf] at hi
    generalize x.add k = y at *
    obtain ⟨g, o, s⟩ := y
    exact ⟨g, o, s, hi, e0⟩
end Go.Proofs.Ytbfhbpibpmgblaa
