/- Package mean: any token worked off. Written by mkwhole.py. -/
import Derived.Test.YtfgaieefejdkbaaWMmC
import Derived.Test.YtfgaieefejdkbaaWMmD
import Derived.Test.YtfgaieefejdkbaaWMmF
import Derived.Test.YtfgaieefejdkbaaWMmG
import Derived.Test.YtfgaieefejdkbaaWMmH
namespace Go.Proofs.Ytfgaieefejdkbaa
open Go.RowKit Go.Maps

theorem fit1 {op : Nat} {q : Bool} (h : fitK op [q] = true) (h1 : op ≠ 23) : q = false := by
  unfold fitK at h
  rw [if_neg h1] at h
  split at h
  · cases q <;> simp at h
  · split at h
    · cases q <;> simp at h
    · cases q <;> simp_all
theorem takes_cases {op p m : Nat} (h : takesN (op, p) = some m) : (op ≤ 5 ∧ m = 0 ∧ (op ≠ 2 → p = 0) ∧ p ≤ 7) ∨ ((6 ≤ op ∧ op ≤ 10 ∨ op = 19 ∨ op = 20 ∨ op = 23) ∧ m = 1 ∧ p = 0) ∨ ((11 ≤ op ∧ op ≤ 18 ∨ op = 21 ∨ op = 22) ∧ m = 2 ∧ p = 0) := by
  unfold takesN at h
  dsimp only at h
  split at h
  · cases h
  · next h0 =>
    split at h
    · cases h; exact Or.inl ⟨by omega, rfl, by omega, by omega⟩
    · split at h
      · cases h; exact Or.inr (Or.inl ⟨by omega, rfl, by omega⟩)
      · cases h; exact Or.inr (Or.inr ⟨by omega, rfl, by omega⟩)
theorem Try.mwork_any (b n c hi : Nat) (d : Option Addr) (zs : List Int) (op p : Nat) (l : List (Sk × Mp)) (w : World) (hL : LtSl w d n c zs) (hn : n ≤ 10000) (hS : StkAt w b w.heap.size ((l.map (·.2)).reverse)) (hP : Parts w n b hi l) (hh : hi ≤ w.heap.size) (hl : l.length ≤ 100000) (hok : OkAt n ((l.map (·.1)).reverse) (op, p)) :
    ∃ x rest, skStep (zN zs) ((l.map (·.1)).reverse) (op, p) = (rest.map (·.1)).reverse ++ [x] ∧ rest.length ≤ l.length ∧ Calls Try.prog 63 #[.pointer (some ⟨b, 0, none⟩), .agg #[.int .u8 (op : Int), .int .u8 (p : Int)], .slice d n c] w (WorkR n b w x rest) := by
  obtain ⟨m, hm, hml, hf, hin⟩ := hok
  have ht := tak_of hm
  rcases takes_cases hm with ⟨h1, rfl, h3, h4⟩ | ⟨h1, rfl, rfl⟩ | ⟨h1, rfl, rfl⟩
  · refine ⟨skT (zN zs) (op, p) [], l, ?_, Nat.le_refl _, ?_⟩
    · unfold skStep
      have := drop_at ((l.map (·.1)).reverse) [] 0 rfl
      rw [List.append_nil] at this
      rw [ht, this.1, this.2]
    · obtain rfl | rfl | rfl | rfl | rfl | rfl : op = 0 ∨ op = 1 ∨ op = 2 ∨ op = 3 ∨ op = 4 ∨ op = 5 := by omega
      · obtain rfl := h3 (by decide)
        exact Try.mwork0_any b n c hi d zs l w hL hn hS hP hh
      · obtain rfl := h3 (by decide)
        exact Try.mwork1_any b n c hi d zs l w hL hn hS hP hh
      · exact Try.mwork2_any b n c hi p d zs l w hL hn h4 hS hP hh
      · obtain rfl := h3 (by decide)
        exact Try.mwork3_any b n c hi d zs l w hL hn hS hP hh
      · obtain rfl := h3 (by decide)
        exact Try.mwork4_any b n c hi d zs l w hL hn hS hP hh
      · obtain rfl := h3 (by decide)
        exact Try.mwork5_any b n c hi d zs l w hL hn hS hP hh
  · obtain ⟨⟨x, px⟩, rest, rfl⟩ : ∃ q rest, l = q :: rest := by
      cases l with
      | nil => simp at hml
      | cons q r => exact ⟨q, r, rfl⟩
    have hd := drop_at ((rest.map (·.1)).reverse) [x] 1 rfl
    have e0 : (((x, px) :: rest).map (·.1)).reverse = (rest.map (·.1)).reverse ++ [x] := by simp
    rw [e0] at hf hin ⊢
    refine ⟨skT (zN zs) (op, 0) [x], rest, ?_, by simp, ?_⟩
    · unfold skStep
      rw [ht, hd.1, hd.2]
    · rw [hd.1] at hf
      have hI : InW n x := hin x (by simp)
      have hr : rest.length ≤ 1000000 := by simp at hl; omega
      obtain rfl | rfl | rfl | rfl | rfl | rfl | rfl | rfl : op = 6 ∨ op = 7 ∨ op = 8 ∨ op = 9 ∨ op = 10 ∨ op = 19 ∨ op = 20 ∨ op = 23 := by omega
      · exact Try.mwork6_any b n c hi d zs x px rest w hL hn hS hP hh (fit1 hf (by decide)) hr
      · exact Try.mwork7_any b n c hi d zs x px rest w hL hn hS hP hh (fit1 hf (by decide)) hr
      · exact Try.mwork8_any b n c hi d zs x px rest w hL hn hS hP hh (fit1 hf (by decide)) hr
      · exact Try.mwork9_any b n c hi d zs x px rest w hL hn hS hP hh (fit1 hf (by decide)) hr
      · exact Try.mwork10_any b n c hi d zs x px rest w hL hn hS hP hh (fit1 hf (by decide)) hr
      · exact Try.mwork19_any b n c hi d zs x px rest w hL hn hS hP hh (fit1 hf (by decide)) hr
      · exact Try.mwork20_any b n c hi d zs x px rest w hL hn hS hP hh (fit1 hf (by decide)) hr
      · exact Try.mwork23_any b n c hi d zs x px rest w hL hn hS hP hh (by have := hf; simpa [fitK] using this) hI hr
  · obtain ⟨⟨y, py⟩, ⟨x, px⟩, rest, rfl⟩ : ∃ q q' rest, l = q :: q' :: rest := by
      match l, hml with
      | [], h => simp at h
      | [_], h => simp at h
      | q :: q' :: r, _ => exact ⟨q, q', r, rfl⟩
    have hd := drop_at ((rest.map (·.1)).reverse) [x, y] 2 rfl
    have e0 : (((y, py) :: (x, px) :: rest).map (·.1)).reverse = (rest.map (·.1)).reverse ++ [x, y] := by simp
    rw [e0] at hf hin ⊢
    refine ⟨skT (zN zs) (op, 0) [x, y], rest, ?_, by simp; omega, ?_⟩
    · unfold skStep
      rw [ht, hd.1, hd.2]
    · rw [hd.1] at hf
      have hI : InW n x := hin x (by simp)
      have hJ : InW n y := hin y (by simp)
      have hr : rest.length ≤ 999999 := by simp at hl; omega
      obtain rfl | rfl | rfl | rfl | rfl | rfl | rfl | rfl | rfl | rfl : op = 11 ∨ op = 12 ∨ op = 13 ∨ op = 14 ∨ op = 15 ∨ op = 16 ∨ op = 17 ∨ op = 18 ∨ op = 21 ∨ op = 22 := by omega
      · have hk : x.1 = false ∧ y.1 = false := by have := hf; simpa [fitK] using this
        exact Try.mwork11_any b n c hi d zs x y px py rest w hL hn hS hP hh hk.1 hk.2 hr
      · have hk : x.1 = false ∧ y.1 = false := by have := hf; simpa [fitK] using this
        exact Try.mwork12_any b n c hi d zs x y px py rest w hL hn hS hP hh hk.1 hk.2 hr
      · have hk : x.1 = false ∧ y.1 = false := by have := hf; simpa [fitK] using this
        exact Try.mwork13_any b n c hi d zs x y px py rest w hL hn hS hP hh hk.1 hk.2 hr
      · have hk : x.1 = false ∧ y.1 = false := by have := hf; simpa [fitK] using this
        exact Try.mwork14_any b n c hi d zs x y px py rest w hL hn hS hP hh hk.1 hk.2 hr
      · have hk : x.1 = false ∧ y.1 = false := by have := hf; simpa [fitK] using this
        exact Try.mwork15_any b n c hi d zs x y px py rest w hL hn hS hP hh hk.1 hk.2 hr
      · have hk : x.1 = false ∧ y.1 = false := by have := hf; simpa [fitK] using this
        exact Try.mwork16_any b n c hi d zs x y px py rest w hL hn hS hP hh hk.1 hk.2 hr
      · have hk : x.1 = true ∧ y.1 = false := by have := hf; simpa [fitK] using this
        exact Try.mwork17_any b n c hi d zs x y px py rest w hL hn hS hP hh hk.1 hk.2 hI hr
      · have hk : x.1 = true ∧ y.1 = false := by have := hf; simpa [fitK] using this
        exact Try.mwork18_any b n c hi d zs x y px py rest w hL hn hS hP hh hk.1 hk.2 hI hr
      · have hk : x.1 = true ∧ y.1 = true := by have := hf; simpa [fitK] using this
        exact Try.mwork21_any b n c hi d zs x y px py rest w hL hn hS hP hh hk.1 hk.2 hJ hr
      · have hk : x.1 = true ∧ y.1 = true := by have := hf; simpa [fitK] using this
        exact Try.mwork22_any b n c hi d zs x y px py rest w hL hn hS hP hh hk.1 hk.2 hI hJ hr
/-- One part more on a stack. -/
theorem Try.append_mp {w : World} {ops : Array Oper} {rest : List Oper} {o : Oper} {a : Act} {Q : Exit → Act → World → Prop} (hgd : o.guard = none) (s x : Operand)
    (ho : o.op = .call { callee := .builtin .append, args := #[s, x], argTypes := #[107, 107] }) (base : Nat)
    (v : Value) (st : List Mp) (hs : a.eval s = v) (hown : w.ownsRow base 75 2 v st.length (encS st)) (g : Nat) (p : Mp) (hx : a.eval x = .slice (some ⟨g, 0, none⟩) 1 1) (hB : w.heap[g]? = some (.cells #[slV p.1, slV p.2] 75 (0, 0)))
    (hn : st.length ≤ 1000000) (hbase : base ≤ w.heap.size)
    (h : ∀ v' w', w'.ownsRow base 75 2 v' (st.length + 1) (encS (st ++ [p])) → w.grownBy w' v.ownBlock → wpList Try.prog ops Q rest (a.put o.dst v') w') : wpList Try.prog ops Q (o :: rest) a w := by
  obtain ⟨i, hi, hz0, hz1, hz2⟩ := info_parts Try.infoPt
  refine wpList_append_own w hgd s x 107 ho base 75 i _ 2 48 Try.underlying107 hi hz0 hz1 hz2 rfl (by decide) v st.length _ hs hown ⟨g, 0, none⟩ 1 1 [slV p.1, slV p.2] hx rfl (fun j u hj => ?_) (fun u hu => encS_one [p] u (by simpa [encS] using hu)) (by unfold maxLen; omega) (by omega) hbase ?_
  · rw [add_plain, Nat.zero_add, cell_row hB]; simpa using hj
  · intro v' w' h1 h2 _
    exact h v' w' (by rw [encS_append]; simpa [encS] using h1) h2
end Go.Proofs.Ytfgaieefejdkbaa
