/- Package term's whole, Un, Bin. -/
import Derived.Test.YtbfhbpibpmgblaaWTe5
import Derived.Test.YtbfhbpibpmgblaaWTe6
import Derived.Test.YtbfhbpibpmgblaaTermM
namespace Go.Proofs.Ytbfhbpibpmgblaa
open Go.RowKit Go.Maps

/-- What whole, Un, Bin and Put answer: tokens, or nothing and the error. -/
def ToksR (T : TypeId) (E : Nat) (ts : List Tk) (w : World) (e : Ending) (w' : World) : Prop :=
  ∃ v, e = .returned (.tuple #[v, .int .i64 (E : Int)]) ∧ (E = 0 → w'.ownsRow w.heap.size T 2 v ts.length (encT ts)) ∧ (E ≠ 0 → v = .slice none 0 0)
theorem join_ok {w : World} {ps : List Pc} (hT : ∀ p ∈ ps, TkSl w p.a p.len p.cap p.ts) : ∀ t ∈ joinP ps, t.1 < 256 ∧ t.2 < 256 := by
  intro t ht
  obtain ⟨p, hp, h⟩ := List.mem_flatMap.1 ht
  exact (hT p hp).ok t h
theorem blk_tk {w : World} {g : Nat} {t : TypeId} {a b : Nat} (h : Blk w g t a b) (ha : a < 256) (hb : b < 256) : TkSl w (some ⟨g, 0, none⟩) 1 1 [(a, b)] := by
  refine ⟨rfl, Nat.le_refl _, by decide, fun hn => (nomatch hn), fun x hx k hk => ?_, fun x hx k hk => ?_, fun t ht => ?_⟩
  · injection hx with hx; subst hx
    obtain rfl : k = 0 := by simpa using hk
    exact h.c0
  · injection hx with hx; subst hx
    obtain rfl : k = 0 := by simpa using hk
    exact h.c1
  · rw [List.mem_singleton.1 ht]; exact ⟨ha, hb⟩
theorem lookE_len {ts : List Tk} {want : Nat} (h : lookE ts want = 0) : ts.length ≤ 512 := (lookE_zero.1 h).1
end Go.Proofs.Ytbfhbpibpmgblaa
