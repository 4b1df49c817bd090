/- Stage 7's laws over the contracts of package mean (handed in): T, Op; what Ends and At answer; awake. -/
import Derived.Test.YtfgaieefejdkbaaWMn2
import Derived.Test.YtfgaieefejdkbaaWTl1
namespace Go.Proofs.Ytfgaieefejdkbaa
open Go.RowKit Go.Maps

/-- Tokens that lie somewhere. -/
abbrev Tv := Option Addr × Nat × Nat × List Tk
def EnvOk (w : World) (env : List Tv) : Prop := ∀ e ∈ env, TkSl w e.1 e.2.1 e.2.2.1 e.2.2.2
theorem EnvOk.up {w w' : World} {env : List Tv} (h : EnvOk w env) (hb : Below w.heap.size w w') : EnvOk w' env := fun e he => (h e he).up hb
theorem EnvOk.cons {w w' : World} {env : List Tv} {a : Option Addr} {len cap : Nat} {ts : List Tk} (h : EnvOk w env) (hb : Below w.heap.size w w') (hT : TkSl w' a len cap ts) : EnvOk w' ((a, len, cap, ts) :: env) := fun e he => by
  rcases List.mem_cons.1 he with rfl | he
  · exact hT
  · exact (h e he).up hb
theorem Try.int_lit (zs : List Int) (w : World) (hl : zs.length ≤ 10) : IntSl Try.prog 77 .i64 (w.alloc (.cells (zs.map (Value.int .i64)).toArray 3)) (some ⟨w.heap.size, 0, none⟩) zs.length zs.length zs := by
  have h1 : (w.alloc (.cells (zs.map (Value.int .i64)).toArray 3)).ownsRow w.heap.size 3 1 (.slice (some ⟨w.heap.size, 0, none⟩) zs.length zs.length) zs.length (zs.map (Value.int .i64)) := RowI.owns (cur := zs) (MapKept.heap_alloc w _).1 (Nat.le_refl _) rfl (by unfold maxLen; omega)
  obtain ⟨a, cap, h2, h3, _⟩ := ownI_sl h1 Try.underlying77 Try.sizeInt
  injection h2 with h2 _ h4
  rw [← h2, ← h4] at h3
  exact h3
/-- Letters that are written out. -/
theorem Try.lt_lit (zs : List Int) (w : World) (hz : ∀ z ∈ zs, 0 ≤ z ∧ z < 256) (hl : zs.length ≤ 100) : LtSl (w.alloc (.cells (zs.map (Value.int .u8)).toArray 116)) (some ⟨w.heap.size, 0, none⟩) zs.length zs.length zs := by
  have hr := (MapKept.heap_alloc w (.cells (zs.map (Value.int .u8)).toArray 116)).1
  have had : ∀ k, adOf (some ⟨w.heap.size, 0, none⟩) k = ⟨w.heap.size, k, none⟩ := fun k => by simp [adOf, add_plain]
  have hsz : w.heap.size < (w.alloc (.cells (zs.map (Value.int .u8)).toArray 116)).heap.size := by simp
  refine ⟨⟨rfl, Nat.le_refl _, by unfold maxLen; omega, fun n k w' hk hn => idx_of Try.underlying39 (by kernel_rfl) (by simp) k w' hk, fun k hk => ?_, fun k hk => by rw [had]; exact hsz, fun h => by cases h⟩, hz⟩
  rw [had, cell_row hr k]
  simp [List.getD_eq_getElem?_getD, hk]
/-- What mean.Ends answers. -/
def EndB (t : List Nat) (ts : List Tk) (i : Nat) (es : List Nat) : Prop := es.Pairwise (· < ·) ∧ ∀ v, Cl t ts v → ∀ k, k ∈ es ↔ (k ≤ t.length ∧ v.2 i k)
def EndsR (ts : List Tk) (zs : List Int) (i : Int) (w : World) (e : Ending) (w' : World) : Prop :=
  ∃ v E, e = .returned (.tuple #[v, .int .i64 E]) ∧ Below w.heap.size w w' ∧
    ((E ≠ 0 ∧ (lookE ts 3 ≠ 0 ∧ E = (lookE ts 3 : Int) ∨ lookE ts 3 = 0 ∧ trE zs ≠ 0 ∧ E = trE zs ∨ lookE ts 3 = 0 ∧ trE zs = 0 ∧ E = 2 ∧ (i < 0 ∨ (zs.length : Int) < i)) ∧ v = .slice none 0 0) ∨
     (E = 0 ∧ lookE ts 3 = 0 ∧ trE zs = 0 ∧ 0 ≤ i ∧ i ≤ (zs.length : Int) ∧ ∃ es : List Nat, w'.ownsRow w.heap.size 3 1 v es.length ((es.map Int.ofNat).map (Value.int .i64)) ∧ EndB (zN zs) ts i.toNat es))
def EndsC (F : FuncId) : Prop :=
  ∀ (a : Option Addr) (len cap : Nat) (ts : List Tk) (b : Option Addr) (m c : Nat) (zs : List Int) (i : Int) (w : World), TkSl w a len cap ts → LtSl w b m c zs → Calls Try.prog F #[.slice a len cap, .slice b m c, .int .i64 i] w (EndsR ts zs i w)
/-- What mean.At answers. -/
def AtR (ts : List Tk) (zs : List Int) (i : Int) (w : World) (e : Ending) (w' : World) : Prop :=
  ∃ b E, e = .returned (.tuple #[.bool b, .int .i64 E]) ∧ Below w.heap.size w w' ∧
    ((E ≠ 0 ∧ (lookE ts 1 ≠ 0 ∧ E = (lookE ts 1 : Int) ∨ lookE ts 1 = 0 ∧ trE zs ≠ 0 ∧ E = trE zs ∨ lookE ts 1 = 0 ∧ trE zs = 0 ∧ E = 2 ∧ (i < 0 ∨ (zs.length : Int) < i)) ∧ b = false) ∨
     (E = 0 ∧ lookE ts 1 = 0 ∧ trE zs = 0 ∧ 0 ≤ i ∧ i ≤ (zs.length : Int) ∧ ∀ v, Cl (zN zs) ts v → (b = true ↔ v.1 i.toNat)))
def AtC (F : FuncId) : Prop :=
  ∀ (a : Option Addr) (len cap : Nat) (ts : List Tk) (b : Option Addr) (m c : Nat) (zs : List Int) (i : Int) (w : World), TkSl w a len cap ts → LtSl w b m c zs → Calls Try.prog F #[.slice a len cap, .slice b m c, .int .i64 i] w (AtR ts zs i w)
end Go.Proofs.Ytfgaieefejdkbaa
