/- Stage 7's laws over the contracts of package mean (handed in): T, Op; what Ends and At answer; awake. -/
import Derived.Test.YtfojlondflachaaWMn2
import Derived.Test.YtfojlondflachaaWTl1
namespace Go.Proofs.Ytfojlondflachaa
open Go.RowKit Go.Maps

/-- Tokens that lie somewhere. -/
abbrev Tv := Option Addr × Nat × Nat × List Tk
def EnvOk (w : World) (env : List Tv) : Prop := ∀ e ∈ env, TkSl w e.1 e.2.1 e.2.2.1 e.2.2.2
theorem EnvOk.up {w w' : World} {env : List Tv} (h : EnvOk w env) (hb : Below w.heap.size w w') : EnvOk w' env := fun e he => (h e he).up hb
theorem EnvOk.cons {w w' : World} {env : List Tv} {a : Option Addr} {len cap : Nat} {ts : List Tk} (h : EnvOk w env) (hb : Below w.heap.size w w') (hT : TkSl w' a len cap ts) : EnvOk w' ((a, len, cap, ts) :: env) := fun e he => by
  rcases List.mem_cons.1 he with rfl | he
  · exact hT
  · exact (h e he).up hb
theorem Try.mop_any (op : Nat) (w : World) (h : op < 256) : Calls Try.prog 27 #[.int .u8 (op : Int)] w fun e w' => e = .returned (.int .i64 (100 + (op : Int))) ∧ w' = w := by
  have h1 := fun w' => Try.op_any op w' h
  clear h
  go_enter Try.func27, Try.ntmps27
  go_wp2_with (go_at_call 50; refine (h1 _).mono ?_; rintro e w' ⟨rfl, rfl⟩)
  go_ret
  exact ⟨rfl, rfl⟩
theorem Try.mt_any (a : Option Addr) (len cap : Nat) (zs : List Int) (w : World) (hS : IntSl Try.prog 35 .i64 w a len cap zs) (hz : ∀ z ∈ zs, 0 ≤ z ∧ z < 356) (hl : len ≤ 1000) :
    Calls Try.prog 26 #[.slice a len cap] w (BuiltR (zs.map tokOf) w) := by
  have h5 := Try.t_any a len cap zs w hS hz hl
  have hok : ∀ t ∈ zs.map tokOf, t.1 < 256 ∧ t.2 < 256 := fun t ht => by
    obtain ⟨z, hz1, rfl⟩ := List.mem_map.1 ht
    exact tokOf_ok (hz z hz1).1 (hz z hz1).2
  clear hS hz hl
  generalize zs.map tokOf = ts at *
  go_enter Try.func26, Try.ntmps26
  go_wp2_with fail
  refine h5.mono ?_
  rintro e w1 ⟨v, rfl, hown, hb1⟩
  obtain ⟨a1, c1, rfl, hT1, _⟩ := own_tk hown hok
  have HT1 : Hid (TkSl w1 a1 ts.length c1 ts) := hT1
  have HB1 : Hid (Below w.heap.size w w1) := hb1
  clear h5 hown hb1 hT1 hok
  go_wp2
  go_ret
  exact ⟨a1, c1, rfl, HT1.out, HB1.out⟩
theorem Try.int_lit (zs : List Int) (w : World) (hl : zs.length ≤ 10) : IntSl Try.prog 35 .i64 (w.alloc (.cells (zs.map (Value.int .i64)).toArray 3)) (some ⟨w.heap.size, 0, none⟩) zs.length zs.length zs := by
  have h1 : (w.alloc (.cells (zs.map (Value.int .i64)).toArray 3)).ownsRow w.heap.size 3 1 (.slice (some ⟨w.heap.size, 0, none⟩) zs.length zs.length) zs.length (zs.map (Value.int .i64)) := RowI.owns (cur := zs) (MapKept.heap_alloc w _).1 (Nat.le_refl _) rfl (by unfold maxLen; omega)
  obtain ⟨a, cap, h2, h3, _⟩ := ownI_sl h1 Try.underlying35 Try.sizeInt
  injection h2 with h2 _ h4
  rw [← h2, ← h4] at h3
  exact h3
theorem Try.mt_lit (zs : List Int) (ts : List Tk) (w : World) (he : zs.map tokOf = ts) (hz : ∀ z ∈ zs, 0 ≤ z ∧ z < 356) (hl : zs.length ≤ 10) :
    Calls Try.prog 26 #[.slice (some ⟨w.heap.size, 0, none⟩) zs.length zs.length] (w.alloc (.cells (zs.map (Value.int .i64)).toArray 3)) (BuiltR ts w) := by
  subst he
  refine (Try.mt_any _ _ _ zs _ (Try.int_lit zs w hl) hz (by omega)).mono ?_
  rintro e w' ⟨a1, c1, h1, h2, h3⟩
  exact ⟨a1, c1, h1, h2, below_step (below_new w _) h3⟩
/-- Letters that are written out. -/
theorem Try.lt_lit (zs : List Int) (w : World) (hz : ∀ z ∈ zs, 0 ≤ z ∧ z < 256) (hl : zs.length ≤ 100) : LtSl (w.alloc (.cells (zs.map (Value.int .u8)).toArray 54)) (some ⟨w.heap.size, 0, none⟩) zs.length zs.length zs := by
  have hr := (MapKept.heap_alloc w (.cells (zs.map (Value.int .u8)).toArray 54)).1
  have had : ∀ k, adOf (some ⟨w.heap.size, 0, none⟩) k = ⟨w.heap.size, k, none⟩ := fun k => by simp [adOf, add_plain]
  have hsz : w.heap.size < (w.alloc (.cells (zs.map (Value.int .u8)).toArray 54)).heap.size := by simp
  refine ⟨⟨rfl, Nat.le_refl _, by unfold maxLen; omega, fun n k w' hk hn => idx_of Try.underlying23 (by kernel_rfl) (by simp) k w' hk, fun k hk => ?_, fun k hk => by rw [had]; exact hsz, fun h => by cases h⟩, hz⟩
  rw [had, cell_row hr k]
  simp [List.getD_eq_getElem?_getD, hk]
/-- What mean.Ends answers. -/
def EndB (t : List Nat) (ts : List Tk) (i : Nat) (es : List Nat) : Prop := es.Pairwise (· < ·) ∧ ∀ v, Cl t ts v → ∀ k, k ∈ es ↔ (k ≤ t.length ∧ v.2 i k)
def EndsR (ts : List Tk) (zs : List Int) (i : Int) (w : World) (e : Ending) (w' : World) : Prop :=
  ∃ v E, e = .returned (.tuple #[v, .int .i64 E]) ∧ Below w.heap.size w w' ∧
    ((E ≠ 0 ∧ (lookE ts 3 ≠ 0 ∧ E = (lookE ts 3 : Int) ∨ lookE ts 3 = 0 ∧ trE zs ≠ 0 ∧ E = trE zs ∨ lookE ts 3 = 0 ∧ trE zs = 0 ∧ E = 2 ∧ (i < 0 ∨ (zs.length : Int) < i)) ∧ v = .slice none 0 0) ∨
     (E = 0 ∧ lookE ts 3 = 0 ∧ trE zs = 0 ∧ 0 ≤ i ∧ i ≤ (zs.length : Int) ∧ ∃ es : List Nat, w'.ownsRow w.heap.size 3 1 v es.length ((es.map Int.ofNat).map (Value.int .i64)) ∧ EndB (zN zs) ts i.toNat es))
def EndsC (F : FuncId) : Prop :=
  ∀ (a : Option Addr) (len cap : Nat) (ts : List Tk) (b : Option Addr) (m c : Nat) (zs : List Int) (i : Int) (w : World), TkSl w a len cap ts → LtSl w b m c zs → Calls Try.prog F #[.slice a len cap, .slice b m c, .int .i64 i] w (EndsR ts zs i w)
/-- What mean.At answers. -/
def AtR (ts : List Tk) (zs : List Int) (i : Int) (w : World) (e : Ending) (w' : World) : Prop :=
  ∃ b E, e = .returned (.tuple #[.bool b, .int .i64 E]) ∧ Below w.heap.size w w' ∧
    ((E ≠ 0 ∧ (lookE ts 1 ≠ 0 ∧ E = (lookE ts 1 : Int) ∨ lookE ts 1 = 0 ∧ trE zs ≠ 0 ∧ E = trE zs ∨ lookE ts 1 = 0 ∧ trE zs = 0 ∧ E = 2 ∧ (i < 0 ∨ (zs.length : Int) < i)) ∧ b = false) ∨
     (E = 0 ∧ lookE ts 1 = 0 ∧ trE zs = 0 ∧ 0 ≤ i ∧ i ≤ (zs.length : Int) ∧ ∀ v, Cl (zN zs) ts v → (b = true ↔ v.1 i.toNat)))
def AtC (F : FuncId) : Prop :=
  ∀ (a : Option Addr) (len cap : Nat) (ts : List Tk) (b : Option Addr) (m c : Nat) (zs : List Int) (i : Int) (w : World), TkSl w a len cap ts → LtSl w b m c zs → Calls Try.prog F #[.slice a len cap, .slice b m c, .int .i64 i] w (AtR ts zs i w)
end Go.Proofs.Ytfojlondflachaa
