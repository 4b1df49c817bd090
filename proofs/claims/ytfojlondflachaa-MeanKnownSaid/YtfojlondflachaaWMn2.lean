/- Stage 7's laws over the contracts of package mean (handed in): un, bin, alike, small, path. -/
import Derived.Test.YtfojlondflachaaWMn1
import Derived.Test.YtfojlondflachaaWTe8
import Derived.Test.YtfojlondflachaaWTc
namespace Go.Proofs.Ytfojlondflachaa
open Go.RowKit Go.Maps

/-- A list of letters, wherever it lies. -/
structure LtSl (w : World) (a : Option Addr) (len cap : Nat) (zs : List Int) : Prop where
  sl : IntSl Try.prog 23 .u8 w a len cap zs
  ok : ∀ z ∈ zs, 0 ≤ z ∧ z < 256
theorem LtSl.up {w w' : World} {a : Option Addr} {len cap : Nat} {zs : List Int} (h : LtSl w a len cap zs) (hb : Below w.heap.size w w') : LtSl w' a len cap zs := ⟨h.sl.up hb, h.ok⟩
def zN (zs : List Int) : List Nat := zs.map Int.toNat
theorem zN_len (zs : List Int) : (zN zs).length = zs.length := by simp [zN]
/-- letter.Trace's error, of 8 propositions. -/
def trE (zs : List Int) : Int := if 1024 < zs.length then 3 else 0
/-- What mean.All answers. -/
def AllR (ts : List Tk) (zs : List Int) (w : World) (e : Ending) (w' : World) : Prop :=
  ∃ v E, e = .returned (.tuple #[v, .int .i64 E]) ∧ Below w.heap.size w w' ∧
    ((E ≠ 0 ∧ (lookE ts 1 ≠ 0 ∧ E = (lookE ts 1 : Int) ∨ lookE ts 1 = 0 ∧ E = trE zs) ∧ v = .slice none 0 0) ∨ (E = 0 ∧ lookE ts 1 = 0 ∧ trE zs = 0 ∧ ∃ bs, w'.ownsRow w.heap.size 4 1 v bs.length (bs.map Value.bool) ∧ ValB (zN zs) ts bs))
def AllC (F : FuncId) : Prop :=
  ∀ (a : Option Addr) (len cap : Nat) (ts : List Tk) (b : Option Addr) (m c : Nat) (zs : List Int) (w : World), TkSl w a len cap ts → LtSl w b m c zs → Calls Try.prog F #[.slice a len cap, .slice b m c] w (AllR ts zs w)
/-- What un and bin answer. -/
def BuiltR (ts : List Tk) (w : World) (e : Ending) (w' : World) : Prop := ∃ a cap, e = .returned (.slice a ts.length cap) ∧ TkSl w' a ts.length cap ts ∧ Below w.heap.size w w'
theorem Try.mun_any (op : Nat) (a : Option Addr) (len cap : Nat) (ts : List Tk) (w : World) (hT : TkSl w a len cap ts) (hop : op < 256) :
    Calls Try.prog 28 #[.int .u8 (op : Int), .slice a len cap] w (BuiltR (unB op ts) w) := by
  have h := Try.un_any op a len cap ts w hT hop
  have hok : ∀ t ∈ ts ++ [(op, 0)], t.1 < 256 ∧ t.2 < 256 := fun t ht => by
    rcases List.mem_append.1 ht with h | h
    · exact hT.ok t h
    · simp at h; subst h; exact ⟨hop, Nat.zero_lt_succ _⟩
  unfold BuiltR unB
  clear hT hop
  generalize unE op ts = E at *
  by_cases hE : E = 0
  · rw [if_pos hE]
    go_enter Try.func28, Try.ntmps28
    go_wp2_with fail
    refine h.mono ?_
    rintro e w1 ⟨⟨v, rfl, h0, h1⟩, hb1⟩
    obtain ⟨a1, c1, rfl, hT1, _⟩ := own_tk (h0 hE) hok
    have HT1 : Hid (TkSl w1 a1 (ts ++ [(op, 0)]).length c1 (ts ++ [(op, 0)])) := hT1
    have HB1 : Hid (Below w.heap.size w w1) := hb1
    clear h h0 h1 hT1 hok hb1
    go_wp2
    go_ret
    exact ⟨a1, c1, (by first | rfl | (rw [List.length_append]; rfl) | (rw [List.length_append, List.length_append, Nat.add_assoc]; rfl)), HT1.out, HB1.out⟩
  · rw [if_neg hE]
    go_enter Try.func28, Try.ntmps28
    go_wp2_with fail
    refine h.mono ?_
    rintro e w1 ⟨⟨v, rfl, h0, h1⟩, hb1⟩
    obtain rfl := h1 hE
    have HB1 : Hid (Below w.heap.size w w1) := hb1
    clear h h0 h1 hok hb1
    go_wp2
    go_ret
    exact ⟨none, 0, rfl, TkSl.nil, HB1.out⟩
theorem Try.mbin_any (op : Nat) (a b : Option Addr) (len cap len' cap' : Nat) (us bs : List Tk) (w : World) (hA : TkSl w a len cap us) (hB : TkSl w b len' cap' bs) (hop : op < 256) :
    Calls Try.prog 29 #[.int .u8 (op : Int), .slice a len cap, .slice b len' cap'] w (BuiltR (binB op us bs) w) := by
  have h := Try.bin_any op a b len cap len' cap' us bs w hA hB hop
  have hok : ∀ t ∈ us ++ bs ++ [(op, 0)], t.1 < 256 ∧ t.2 < 256 := fun t ht => by
    rcases List.mem_append.1 ht with h | h
    · rcases List.mem_append.1 h with h | h
      · exact hA.ok t h
      · exact hB.ok t h
    · simp at h; subst h; exact ⟨hop, Nat.zero_lt_succ _⟩
  unfold BuiltR binB
  clear hA hB hop
  generalize binE op us bs = E at *
  by_cases hE : E = 0
  · rw [if_pos hE]
    go_enter Try.func29, Try.ntmps29
    go_wp2_with fail
    refine h.mono ?_
    rintro e w1 ⟨⟨v, rfl, h0, h1⟩, hb1⟩
    obtain ⟨a1, c1, rfl, hT1, _⟩ := own_tk (h0 hE) hok
    have HT1 : Hid (TkSl w1 a1 (us ++ bs ++ [(op, 0)]).length c1 (us ++ bs ++ [(op, 0)])) := hT1
    have HB1 : Hid (Below w.heap.size w w1) := hb1
    clear h h0 h1 hT1 hok hb1
    go_wp2
    go_ret
    exact ⟨a1, c1, (by first | rfl | (rw [List.length_append]; rfl) | (rw [List.length_append, List.length_append, Nat.add_assoc]; rfl)), HT1.out, HB1.out⟩
  · rw [if_neg hE]
    go_enter Try.func29, Try.ntmps29
    go_wp2_with fail
    refine h.mono ?_
    rintro e w1 ⟨⟨v, rfl, h0, h1⟩, hb1⟩
    obtain rfl := h1 hE
    have HB1 : Hid (Below w.heap.size w w1) := hb1
    clear h h0 h1 hok hb1
    go_wp2
    go_ret
    exact ⟨none, 0, rfl, TkSl.nil, HB1.out⟩
theorem Try.malike_any (hAll : AllC 11) (a b : Option Addr) (len cap len' cap' : Nat) (xs ys : List Tk) (d : Option Addr) (m c : Nat) (zs : List Int) (w : World) (hA : TkSl w a len cap xs) (hB : TkSl w b len' cap' ys) (hL : LtSl w d m c zs)
    (v u : Sv) (hx : Mn (zN zs) xs v) (hy : Mn (zN zs) ys u) (he : ∀ i, i ≤ (zN zs).length → (v.1 i ↔ u.1 i)) :
    Calls Try.prog 30 #[.slice a len cap, .slice b len' cap', .slice d m c] w fun e w' => e = .returned (.bool true) ∧ Below w.heap.size w w' := by
  have h1 := hAll a len cap xs d m c zs w hA hL
  have h2 := fun w' (hw : Below w.heap.size w w') => hAll b len' cap' ys d m c zs w' (hB.up hw) (hL.up hw)
  have HX : Hid (Mn (zN zs) xs v) := hx
  have HY : Hid (Mn (zN zs) ys u) := hy
  have HEQ : Hid (∀ i, i ≤ (zN zs).length → (v.1 i ↔ u.1 i)) := he
  clear hA hB hL hx hy he
  go_enter Try.func30, Try.ntmps30
  go_wp2_with fail
  refine h1.mono ?_
  rintro e w1 ⟨v1, E1, rfl, hb1, hr1⟩
  have h3 := h2 w1 hb1
  go_wp2_with fail
  refine h3.mono ?_
  rintro e w2 ⟨v2, E2, rfl, hb2, hr2⟩
  have HB2 : Hid (Below w.heap.size w w2) := below_step hb1 hb2
  rcases hr1 with ⟨q1, _, _⟩ | ⟨rfl, l1, _, bs1, ho1, hv1⟩
  · have e1 : (E1 == 0) = false := by simpa using q1
    clear hr2 h1 h2 h3
    go_wp2
    go_ret
    exact ⟨rfl, HB2.out⟩
  · rcases hr2 with ⟨q2, _, _⟩ | ⟨rfl, l2, _, bs, ho2, hv2⟩
    · have e2 : (E2 == 0) = false := by simpa using q2
      clear h1 h2 h3 ho1 hv1
      go_wp2
      go_ret
      exact ⟨rfl, HB2.out⟩
    · obtain ⟨a1, c1, rfl, hS1⟩ := own_bo ho1
      obtain ⟨a2, c2, rfl, hS2⟩ := own_bo ho2
      have hsame : bs1 = bs := alike_of HX.out HY.out HEQ.out hv1 hv2 l1 l2
      subst hsame
      have h4 := Try.sameB_any _ _ _ _ _ _ _ _ w2 (hS1.up hb2) hS2
      rw [decide_eq_true rfl] at h4
      clear h1 h2 h3 ho1 ho2 hv1 hv2 hS1 hS2
      go_wp2_with fail
      refine h4.mono ?_
      rintro e w3 ⟨rfl, hb3⟩
      have HB3 : Hid (Below w.heap.size w w3) := below_step HB2.out hb3
      clear h4 hb3
      go_wp2
      go_ret
      exact ⟨rfl, HB3.out⟩
theorem Try.msmall_any (a : Option Addr) (len cap : Nat) (ts : List Tk) (d : Option Addr) (m c : Nat) (zs : List Int) (w : World) (hA : TkSl w a len cap ts) (hL : LtSl w d m c zs) :
    Calls Try.prog 25 #[.slice a len cap, .slice d m c] w fun e w' => e = .returned (.bool (decide (len ≤ 30 ∧ m ≤ 16 ∧ lookE ts 1 = 0))) ∧ Below w.heap.size w w' := by
  have h := Try.tcheck_any a len cap ts w hA
  have hlb := Nat.le_trans hA.hcap hA.bd
  have hmb := Nat.le_trans hL.sl.hcap hL.sl.bd
  unfold maxLen at hlb hmb
  clear hA hL
  generalize lookE ts 1 = E at *
  by_cases c1 : len ≤ 30
  · by_cases c2 : m ≤ 16
    · by_cases c3 : E = 0
      · subst c3
        rw [decide_eq_true ⟨c1, c2, rfl⟩]
        go_enter Try.func25, Try.ntmps25
        go_wp2_with fail
        refine h.mono ?_
        rintro e w1 ⟨rfl, hb1⟩
        go_wp2
        go_ret
        exact ⟨rfl, hb1⟩
      · rw [decide_eq_false (fun hh => c3 hh.2.2)]
        have e3 : ((E : Int) == 0) = false := by simp; omega
        go_enter Try.func25, Try.ntmps25
        go_wp2_with fail
        refine h.mono ?_
        rintro e w1 ⟨rfl, hb1⟩
        go_wp2
        go_ret
        exact ⟨rfl, hb1⟩
    · rw [decide_eq_false (fun hh => c2 hh.2.1)]
      clear h
      go_enter Try.func25, Try.ntmps25
      go_wp2
      go_ret
      exact ⟨rfl, Below.refl _ _⟩
  · rw [decide_eq_false (fun hh => c1 hh.1)]
    clear h
    go_enter Try.func25, Try.ntmps25
    go_wp2
    go_ret
    exact ⟨rfl, Below.refl _ _⟩
theorem Try.mpath_any (a : Option Addr) (len cap : Nat) (ts : List Tk) (w : World) (hA : TkSl w a len cap ts) :
    Calls Try.prog 31 #[.slice a len cap] w fun e w' => e = .returned (.bool (decide (len ≤ 25 ∧ lookE ts 3 = 0))) ∧ Below w.heap.size w w' := by
  have h := Try.tpath_any a len cap ts w hA
  have hlb := Nat.le_trans hA.hcap hA.bd
  unfold maxLen at hlb
  clear hA
  generalize lookE ts 3 = E at *
  by_cases c1 : len ≤ 25
  · by_cases c3 : E = 0
    · subst c3
      rw [decide_eq_true ⟨c1, rfl⟩]
      go_enter Try.func31, Try.ntmps31
      go_wp2_with fail
      refine h.mono ?_
      rintro e w1 ⟨rfl, hb1⟩
      go_wp2
      go_ret
      exact ⟨rfl, hb1⟩
    · rw [decide_eq_false (fun hh => c3 hh.2)]
      have e3 : ((E : Int) == 0) = false := by simp; omega
      go_enter Try.func31, Try.ntmps31
      go_wp2_with fail
      refine h.mono ?_
      rintro e w1 ⟨rfl, hb1⟩
      go_wp2
      go_ret
      exact ⟨rfl, hb1⟩
  · rw [decide_eq_false (fun hh => c1 hh.1)]
    clear h
    go_enter Try.func31, Try.ntmps31
    go_wp2
    go_ret
    exact ⟨rfl, Below.refl _ _⟩
end Go.Proofs.Ytfojlondflachaa
