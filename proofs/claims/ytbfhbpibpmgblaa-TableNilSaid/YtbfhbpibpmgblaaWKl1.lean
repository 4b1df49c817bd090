/- Stage 8's laws over contracts of package kernel that are handed in: what Of, Neg, Check and Size answer; T, Op. -/
import Derived.Test.YtbfhbpibpmgblaaKnM
import Derived.Test.YtbfhbpibpmgblaaWMn2
import Derived.Test.YtbfhbpibpmgblaaWTl1
import Derived.Test.YtbfhbpibpmgblaaWTc
namespace Go.Proofs.Ytbfhbpibpmgblaa
open Go.RowKit Go.Maps

theorem wf_tok : ∀ T : Tr, T.WF → ∀ k ∈ T.flat, k.1 < 256 ∧ k.2 < 256
  | .leaf (op, p), h, k, hk => by
    simp [Tr.flat] at hk
    subst hk
    rcases leaf_cases h with ⟨rfl, hp⟩ | ⟨rfl, ho⟩
    · exact ⟨by show 2 < 256; decide, by show p < 256; omega⟩
    · exact ⟨by show op < 256; omega, Nat.zero_lt_succ _⟩
  | .un (op, p) c, h, k, hk => by
    obtain ⟨rfl, hc, _, ho⟩ := un_cases h
    rcases List.mem_append.1 hk with hk | hk
    · exact wf_tok c hc k hk
    · simp at hk; subst hk; exact ⟨by show op < 256; omega, Nat.zero_lt_succ _⟩
  | .bin (op, p) c d, h, k, hk => by
    obtain ⟨rfl, hc, hd, _, ho⟩ := bin_cases h
    rcases List.mem_append.1 hk with hk | hk
    · rcases List.mem_append.1 hk with hk | hk
      · exact wf_tok c hc k hk
      · exact wf_tok d hd k hk
    · simp at hk; subst hk; exact ⟨by show op < 256; omega, Nat.zero_lt_succ _⟩
theorem ker_fix {ts : List Tk} (h : IsKer ts) : (kL ts).1 = ts := by
  obtain ⟨T, h1, _, h3, rfl⟩ := h
  rw [kL_tree h1]
  show (kTr T).1.flat = _
  rw [(ker_same T h1 h3).1]
theorem chk_form {ts : List Tk} (hl : ts.length ≤ 2048) (h : ¬ IsKer ts) : chkE ts = 7 := by
  unfold chkE
  rw [if_neg (by omega), if_neg h]
/-- The tokens that Of, and Neg, answer. -/
def ofL (ts : List Tk) : List Tk := if ofE ts = 0 then (kL ts).1 else []
noncomputable def negL (ts : List Tk) : List Tk := if negE ts = 0 then (kL ts).2 else []
def OfR (ts : List Tk) (w : World) (e : Ending) (w' : World) : Prop := ∃ a cap, e = .returned (.tuple #[.slice a (ofL ts).length cap, .int .i64 (ofE ts : Int)]) ∧ TkSl w' a (ofL ts).length cap (ofL ts) ∧ Below w.heap.size w w'
def OfC (F : FuncId) : Prop := ∀ (a : Option Addr) (len cap : Nat) (ts : List Tk) (w : World), TkSl w a len cap ts → Calls Try.prog F #[.slice a len cap] w (OfR ts w)
def NegR (ts : List Tk) (w : World) (e : Ending) (w' : World) : Prop := ∃ a cap, e = .returned (.tuple #[.slice a (negL ts).length cap, .int .i64 (negE ts : Int)]) ∧ TkSl w' a (negL ts).length cap (negL ts) ∧ Below w.heap.size w w'
def NegC (F : FuncId) : Prop := ∀ (a : Option Addr) (len cap : Nat) (ts : List Tk) (w : World), TkSl w a len cap ts → Calls Try.prog F #[.slice a len cap] w (NegR ts w)
def ChkC (F : FuncId) : Prop := ∀ (a : Option Addr) (len cap : Nat) (ts : List Tk) (w : World), TkSl w a len cap ts → Calls Try.prog F #[.slice a len cap] w fun e w' => e = .returned (.int .i64 (chkE ts : Int)) ∧ Below w.heap.size w w'
def SizeR (ts : List Tk) (w : World) (e : Ending) (w' : World) : Prop := ∃ n : Int, e = .returned (.tuple #[.int .i64 n, .int .i64 (lookE ts 1 : Int)]) ∧ (lookE ts 1 = 0 → n = ((min (kL ts).1.length 2049 : Nat) : Int)) ∧ Below w.heap.size w w'
def SizeC (F : FuncId) : Prop := ∀ (a : Option Addr) (len cap : Nat) (ts : List Tk) (w : World), TkSl w a len cap ts → Calls Try.prog F #[.slice a len cap] w (SizeR ts w)
theorem Try.kint_lit (zs : List Int) (w : World) (hl : zs.length ≤ 20) : IntSl Try.prog 41 .i64 (w.alloc (.cells (zs.map (Value.int .i64)).toArray 3)) (some ⟨w.heap.size, 0, none⟩) zs.length zs.length zs := by
  have h1 : (w.alloc (.cells (zs.map (Value.int .i64)).toArray 3)).ownsRow w.heap.size 3 1 (.slice (some ⟨w.heap.size, 0, none⟩) zs.length zs.length) zs.length (zs.map (Value.int .i64)) := RowI.owns (cur := zs) (MapKept.heap_alloc w _).1 (Nat.le_refl _) rfl (by unfold maxLen; omega)
  obtain ⟨a, cap, h2, h3, _⟩ := ownI_sl h1 Try.underlying41 Try.sizeInt
  injection h2 with h2 _ h4
  rw [← h2, ← h4] at h3
  exact h3
end Go.Proofs.Ytbfhbpibpmgblaa
