/- Stage 8's laws over contracts of package kernel that are handed in: what Of, Neg, Check and Size answer; T, Op. -/
import Derived.Test.YtfgaieefejdkbaaKnM
import Derived.Test.YtfgaieefejdkbaaWMn2
import Derived.Test.YtfgaieefejdkbaaWTl1
import Derived.Test.YtfgaieefejdkbaaWTc
namespace Go.Proofs.Ytfgaieefejdkbaa
open Go.RowKit Go.Maps

theorem wf_tok : ∀ T : Tr, T.WF → ∀ k ∈ T.flat, k.1 < 256 ∧ k.2 < 256
  | .leaf (op, p), h, k, hk => by
    simp [Tr.flat] at hk
    subst hk
    rcases leaf_cases h with ⟨rfl, hp⟩ | ⟨rfl, ho⟩
    · exact ⟨by show 2 < 256; decide, by show p < 256; omega⟩
    · exact ⟨by show op < 256; omega, Nat.zero_lt_succ _⟩
  | .un (op, p) c, h, k, hk => by
    obtain ⟨rfl, hc, _, ho⟩ := un_cases h
    rcases List.mem_append.1 hk with hk | hk
    · exact wf_tok c hc k hk
    · simp at hk; subst hk; exact ⟨by show op < 256; omega, Nat.zero_lt_succ _⟩
  | .bin (op, p) c d, h, k, hk => by
    obtain ⟨rfl, hc, hd, _, ho⟩ := bin_cases h
    rcases List.mem_append.1 hk with hk | hk
    · rcases List.mem_append.1 hk with hk | hk
      · exact wf_tok c hc k hk
      · exact wf_tok d hd k hk
    · simp at hk; subst hk; exact ⟨by show op < 256; omega, Nat.zero_lt_succ _⟩
theorem ker_fix {ts : List Tk} (h : IsKer ts) : (kL ts).1 = ts := by
  obtain ⟨T, h1, _, h3, rfl⟩ := h
  rw [kL_tree h1]
  show (kTr T).1.flat = _
  rw [(ker_same T h1 h3).1]
theorem chk_form {ts : List Tk} (hl : ts.length ≤ 2048) (h : ¬ IsKer ts) : chkE ts = 7 := by
  unfold chkE
  rw [if_neg (by omega), if_neg h]
/-- The tokens that Of, and Neg, answer. -/
def ofL (ts : List Tk) : List Tk := if ofE ts = 0 then (kL ts).1 else []
noncomputable def negL (ts : List Tk) : List Tk := if negE ts = 0 then (kL ts).2 else []
def OfR (ts : List Tk) (w : World) (e : Ending) (w' : World) : Prop := ∃ a cap, e = .returned (.tuple #[.slice a (ofL ts).length cap, .int .i64 (ofE ts : Int)]) ∧ TkSl w' a (ofL ts).length cap (ofL ts) ∧ Below w.heap.size w w'
def OfC (F : FuncId) : Prop := ∀ (a : Option Addr) (len cap : Nat) (ts : List Tk) (w : World), TkSl w a len cap ts → Calls Try.prog F #[.slice a len cap] w (OfR ts w)
def NegR (ts : List Tk) (w : World) (e : Ending) (w' : World) : Prop := ∃ a cap, e = .returned (.tuple #[.slice a (negL ts).length cap, .int .i64 (negE ts : Int)]) ∧ TkSl w' a (negL ts).length cap (negL ts) ∧ Below w.heap.size w w'
def NegC (F : FuncId) : Prop := ∀ (a : Option Addr) (len cap : Nat) (ts : List Tk) (w : World), TkSl w a len cap ts → Calls Try.prog F #[.slice a len cap] w (NegR ts w)
def ChkC (F : FuncId) : Prop := ∀ (a : Option Addr) (len cap : Nat) (ts : List Tk) (w : World), TkSl w a len cap ts → Calls Try.prog F #[.slice a len cap] w fun e w' => e = .returned (.int .i64 (chkE ts : Int)) ∧ Below w.heap.size w w'
def SizeR (ts : List Tk) (w : World) (e : Ending) (w' : World) : Prop := ∃ n : Int, e = .returned (.tuple #[.int .i64 n, .int .i64 (lookE ts 1 : Int)]) ∧ (lookE ts 1 = 0 → n = ((min (kL ts).1.length 2049 : Nat) : Int)) ∧ Below w.heap.size w w'
def SizeC (F : FuncId) : Prop := ∀ (a : Option Addr) (len cap : Nat) (ts : List Tk) (w : World), TkSl w a len cap ts → Calls Try.prog F #[.slice a len cap] w (SizeR ts w)
theorem Try.kop_any (op : Nat) (w : World) (h : op < 256) : Calls Try.prog 26 #[.int .u8 (op : Int)] w fun e w' => e = .returned (.int .i64 (100 + (op : Int))) ∧ w' = w := by
  have h1 := fun w' => Try.op_any op w' h
  clear h
  go_enter Try.func26, Try.ntmps26
  go_wp2_with (go_at_call 43; refine (h1 _).mono ?_; rintro e w' ⟨rfl, rfl⟩)
  go_ret
  exact ⟨rfl, rfl⟩
theorem Try.kint_lit (zs : List Int) (w : World) (hl : zs.length ≤ 20) : IntSl Try.prog 77 .i64 (w.alloc (.cells (zs.map (Value.int .i64)).toArray 3)) (some ⟨w.heap.size, 0, none⟩) zs.length zs.length zs := by
  have h1 : (w.alloc (.cells (zs.map (Value.int .i64)).toArray 3)).ownsRow w.heap.size 3 1 (.slice (some ⟨w.heap.size, 0, none⟩) zs.length zs.length) zs.length (zs.map (Value.int .i64)) := RowI.owns (cur := zs) (MapKept.heap_alloc w _).1 (Nat.le_refl _) rfl (by unfold maxLen; omega)
  obtain ⟨a, cap, h2, h3, _⟩ := ownI_sl h1 Try.underlying77 Try.sizeInt
  injection h2 with h2 _ h4
  rw [← h2, ← h4] at h3
  exact h3
/-- Tokens that are written out: a row of the call's own. -/
theorem Try.kt_lit (zs : List Int) (ts : List Tk) (w : World) (he : zs.map tokOf = ts) (hz : ∀ z ∈ zs, 0 ≤ z ∧ z < 356) (hl : zs.length ≤ 20) :
    Calls Try.prog 27 #[.slice (some ⟨w.heap.size, 0, none⟩) zs.length zs.length] (w.alloc (.cells (zs.map (Value.int .i64)).toArray 3)) fun e w' => ∃ a cap, e = .returned (.slice a ts.length cap) ∧ w'.ownsRow w.heap.size 37 2 (.slice a ts.length cap) ts.length (encT ts) ∧ TkSl w' a ts.length cap ts ∧ Below w.heap.size w w' := by
  subst he
  have h5 := Try.t_any _ _ _ zs _ (Try.kint_lit zs w hl) hz (by omega)
  have hok : ∀ t ∈ zs.map tokOf, t.1 < 256 ∧ t.2 < 256 := fun t ht => by
    obtain ⟨z, hz1, rfl⟩ := List.mem_map.1 ht
    exact tokOf_ok (hz z hz1).1 (hz z hz1).2
  have hsz : w.heap.size ≤ (w.alloc (.cells (zs.map (Value.int .i64)).toArray 3)).heap.size := by simp
  have hb0 := below_new w (.cells (zs.map (Value.int .i64)).toArray 3)
  generalize w.alloc (.cells (zs.map (Value.int .i64)).toArray 3) = w0 at *
  generalize zs.map tokOf = ts at *
  go_enter Try.func27, Try.ntmps27
  go_wp2_with fail
  refine h5.mono ?_
  rintro e w1 ⟨v, rfl, hown, hb1⟩
  obtain ⟨a1, c1, rfl, hT1, _⟩ := own_tk hown hok
  have HO : Hid (w1.ownsRow w.heap.size 37 2 (.slice a1 ts.length c1) ts.length (encT ts)) := owns_base hown hsz
  have HT : Hid (TkSl w1 a1 ts.length c1 ts) := hT1
  have HB1 : Hid (Below w.heap.size w w1) := below_step hb0 hb1
  clear h5 hown hb1 hT1 hok
  go_wp2
  go_ret
  exact ⟨_, _, rfl, HO.out, HT.out, HB1.out⟩
end Go.Proofs.Ytfgaieefejdkbaa
