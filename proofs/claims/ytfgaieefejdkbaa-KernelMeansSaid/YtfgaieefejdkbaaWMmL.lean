/- Package mean: what All, At, Sat and Ends answer. -/
import Derived.Test.YtfgaieefejdkbaaWMmK
namespace Go.Proofs.Ytfgaieefejdkbaa
open Go.RowKit Go.Maps

theorem ref_cases (ts : List Tk) (want : Nat) (zs : List Int) : (refM ts want zs ≠ 0 ∧ (lookE ts want ≠ 0 ∧ refM ts want zs = (lookE ts want : Int) ∨ lookE ts want = 0 ∧ trE zs ≠ 0 ∧ refM ts want zs = trE zs)) ∨ (refM ts want zs = 0 ∧ lookE ts want = 0 ∧ trE zs = 0) := by
  unfold refM
  by_cases h : lookE ts want = 0
  · rw [if_pos h]
    by_cases h2 : trE zs = 0
    · exact Or.inr ⟨h2, h, h2⟩
    · exact Or.inl ⟨h2, Or.inr ⟨h, h2, rfl⟩⟩
  · rw [if_neg h]
    exact Or.inl ⟨by omega, Or.inl ⟨h, rfl⟩⟩
theorem tr_few {zs : List Int} (h : trE zs = 0) : zs.length ≤ 1024 := by
  unfold trE at h
  split at h
  · cases h
  · omega
theorem good_of (zs : List Int) {ts : List Tk} {want : Nat} (h : lookE ts want = 0) : ∃ (v : Sv) (b : Bool), Cl (zN zs) ts v ∧ Good (zN zs) ts (b, v) ∧ (want = 1 → b = false) ∧ (want = 3 → b = true) ∧ InW (zN zs).length (b, v) := by
  obtain ⟨v, b, h1, h2, h3, h4, h5, h6, h7⟩ := sk_look (zN zs) h
  exact ⟨v, b, h1, ⟨h6, h7, h2⟩, h3, h4, h5⟩
/-- A formula's values, whole. -/
theorem whole_val {n : Nat} {b : Bool} {v : Sv} {w : World} {e : Ending} {w' : World} (h : WholeR n (b, v) w e w') (hb : b = false) : ∃ g bs q, e = .returned (.agg #[.slice (some ⟨g, 0, none⟩) (n + 1) (n + 1), slV q]) ∧ ValAt w' g bs ∧ bs.length = n + 1 ∧ (∀ i, i ≤ n → (bs.getD i false = true ↔ v.1 i)) ∧ w.heap.size ≤ g ∧ Below w.heap.size w w' := by
  obtain ⟨⟨p, q⟩, lo, hi, rfl, hp, _, hw⟩ := h
  obtain ⟨g, bs, h1, h2, h3, h4, h5⟩ := hp.2 hb
  dsimp only at h1
  subst h1
  exact ⟨g, bs, q, rfl, h2, h3, h4, h5, hw⟩
theorem whole_end {n : Nat} {b : Bool} {v : Sv} {w : World} {e : Ending} {w' : World} (h : WholeR n (b, v) w e w') (hb : b = true) : ∃ g rs q, e = .returned (.agg #[slV q, .slice (some ⟨g, 0, none⟩) (n + 1) (n + 1)]) ∧ EndAt w' g (n + 1) rs ∧ (∀ i, i ≤ n → ∀ k, hasW (rs i) k = true ↔ v.2 i k) ∧ Below w.heap.size w w' := by
  obtain ⟨⟨p, q⟩, lo, hi, rfl, hp, _, hw⟩ := h
  obtain ⟨g, rs, h1, h2, h3, _⟩ := hp.1 hb
  dsimp only at h1
  subst h1
  exact ⟨g, rs, p, rfl, h2, h3, hw⟩
theorem own_val {w : World} {g base : Nat} {bs : List Bool} (h : ValAt w g bs) (hb : base ≤ g) (hl : bs.length ≤ 1000000) : w.ownsRow base 4 1 (.slice (some ⟨g, 0, none⟩) bs.length bs.length) bs.length (bs.map Value.bool) :=
  ⟨by simp, Or.inr ⟨g, bs.length, _, rfl, hb, h, Nat.le_refl _, by unfold maxLen; omega, by simp, by simp; exact List.take_of_length_le (by simp)⟩⟩
/-- A checked formula, whole. -/
theorem Try.mwval_any (a : Option Addr) (len cap : Nat) (ts : List Tk) (d : Option Addr) (m c : Nat) (zs : List Int) (w : World) (hT : TkSl w a len cap ts) (hL : LtSl w d m c zs) (h0 : lookE ts 1 = 0) (ht : trE zs = 0) : Calls Try.prog 42 #[.slice a len cap, .slice d m c] w fun e w'' => ∃ g bs q, e = .returned (.agg #[.slice (some ⟨g, 0, none⟩) (m + 1) (m + 1), slV q]) ∧ ValAt w'' g bs ∧ bs.length = m + 1 ∧ ValB (zN zs) ts bs ∧ w.heap.size ≤ g ∧ Below w.heap.size w w'' := by
  have hm : zs.length = m := hL.sl.hlen
  obtain ⟨v, b, hc, hg, hb1, _, _⟩ := good_of zs h0
  have hf := tr_few ht
  refine (Try.mwhole_any a len cap ts m c d zs (b, v) w hT hL (by omega) hg).mono fun e w'' h => ?_
  obtain ⟨g, bs, q, h1, h2, h3, h4, h5, h6⟩ := whole_val h (hb1 rfl)
  refine ⟨g, bs, q, h1, h2, h3, ⟨by rw [h3, zN_len, hm], fun u hu i hi => ?_⟩, h5, h6⟩
  obtain rfl := hc.same hu
  have := h4 i (by omega)
  simpa [List.getD_eq_getElem?_getD, hi] using this
theorem ValB.at {t : List Nat} {ts : List Tk} {bs : List Bool} (h : ValB t ts bs) {i : Nat} (hi : i ≤ t.length) (v : Sv) (hv : Cl t ts v) : bs.getD i false = true ↔ v.1 i := by
  have hl := h.1
  have := h.2 v hv i (by omega)
  simpa [List.getD_eq_getElem?_getD, show i < bs.length by omega] using this
set_option maxHeartbeats 1600000 in
theorem Try.mAll_any : AllC 24 := by
  intro a len cap ts d m c zs w hT hL
  have hm : zs.length = m := hL.sl.hlen
  have h1 := Try.mref_any 23 1 Try.ent_check Try.check_any a len cap ts d m c zs w hT hL
  have HK : Hid _ := ref_cases ts 1 zs
  have HG : Hid (lookE ts 1 = 0 → trE zs = 0 → ∀ w', Below w.heap.size w w' → Calls Try.prog 42 #[.slice a len cap, .slice d m c] w' fun e w'' => ∃ g bs q, e = .returned (.agg #[.slice (some ⟨g, 0, none⟩) (m + 1) (m + 1), slV q]) ∧ ValAt w'' g bs ∧ bs.length = m + 1 ∧ ValB (zN zs) ts bs ∧ w'.heap.size ≤ g ∧ Below w'.heap.size w' w'') := fun h0 ht w' hb => Try.mwval_any a len cap ts d m c zs w' (hT.up hb) (hL.up hb) h0 ht
  clear hT hL
  unfold AllR
  generalize refM ts 1 zs = R at *
  rcases HK.out with ⟨hr, hk⟩ | ⟨hr, hk1, hk2⟩
  · have HKK : Hid _ := hk
    clear HK HG hk
    go_enter Try.func24, Try.ntmps24
    go_wp2_with fail
    refine h1.mono ?_
    rintro e w1 ⟨rfl, hb1⟩
    have HB : Hid _ := hb1
    clear h1 hb1
    go_wp2
    go_ret2
    exact ⟨_, R, rfl, HB.out, Or.inl ⟨hr, (by rcases HKK.out with ⟨q1, q2⟩ | ⟨q1, _, q3⟩; exact Or.inl ⟨q1, q2⟩; exact Or.inr ⟨q1, q3⟩), rfl⟩⟩
  · have h2 := HG.out hk1 hk2
    have HK1 : Hid _ := hk1
    have HK2 : Hid _ := hk2
    have Hm : Hid (m ≤ 1024) := by show _ ≤ _; have := tr_few hk2; omega
    subst hr
    clear HK HG hk1 hk2
    go_enter Try.func24, Try.ntmps24
    go_wp2_with fail
    refine h1.mono ?_
    rintro e w1 ⟨rfl, hb1⟩
    have h3 := h2 w1 hb1
    have HB1 : Hid _ := hb1
    clear h1 hb1 h2
    go_wp2_with fail
    refine h3.mono ?_
    rintro e w2 ⟨g, bs, q, rfl, hV, hl, hv, hg, hb2⟩
    have hfd := Try.fld0 (.slice (some ⟨g, 0, none⟩) (m + 1) (m + 1)) (slV q)
    have HV : Hid _ := hV
    have Hl : Hid _ := hl
    have Hv : Hid (ValB (zN zs) ts bs) := hv
    have Hg : Hid _ := hg
    have HB2 : Hid _ := hb2
    clear hV hl hv hg hb2 h3
    go_wp2
    go_ret2
    have e1 := Hl.out
    have e2 := Hm.out
    have e3 := HB1.out.size
    have e4 := Hg.out
    refine ⟨_, 0, rfl, below_step HB1.out HB2.out, Or.inr ⟨rfl, HK1.out, HK2.out, bs, ?_, Hv.out⟩⟩
    have := own_val (base := w.heap.size) HV.out (by omega) (by omega)
    rw [← e1]
    exact this
/-- What mean.Sat answers. -/
def SatR (ts : List Tk) (zs : List Int) (w : World) (e : Ending) (w' : World) : Prop :=
  ∃ b E, e = .returned (.tuple #[.bool b, .int .i64 E]) ∧ Below w.heap.size w w' ∧
    ((E ≠ 0 ∧ (lookE ts 1 ≠ 0 ∧ E = (lookE ts 1 : Int) ∨ lookE ts 1 = 0 ∧ trE zs ≠ 0 ∧ E = trE zs ∨ lookE ts 1 = 0 ∧ trE zs = 0 ∧ E = 2 ∧ zs.length = 0) ∧ b = false) ∨
     (E = 0 ∧ lookE ts 1 = 0 ∧ trE zs = 0 ∧ 0 < zs.length ∧ ∀ v, Cl (zN zs) ts v → (b = true ↔ v.1 0)))
def SatC (F : FuncId) : Prop :=
  ∀ (a : Option Addr) (len cap : Nat) (ts : List Tk) (b : Option Addr) (m c : Nat) (zs : List Int) (w : World), TkSl w a len cap ts → LtSl w b m c zs → Calls Try.prog F #[.slice a len cap, .slice b m c] w (SatR ts zs w)
end Go.Proofs.Ytfgaieefejdkbaa
