/- Texts of the proof, put together: what it uses. -/
import Derived.OwnWalk
import Derived.Test.YtejekdenpefoiaaGreatDoorY03
import Derived.Test.YtejekdenpefoiaaGreatDoorY07
namespace Go.Proofs.YtejekdenpefoiaaGreatDoor
open Go.RowKit Go.Maps
theorem fit1 {op : Nat} {q : Bool} (h : fitK op [q] = true) (h1 : op ≠ 23) : q = false := by
  unfold fitK at h
  rw [if_neg h1] at h
  split at h
  · cases q <;> simp at h
  · split at h
    · cases q <;> simp at h
    · cases q <;> simp_all
theorem takes_cases {op p m : Nat} (h : takesN (op, p) = some m) : (op ≤ 5 ∧ m = 0 ∧ (op ≠ 2 → p = 0) ∧ p ≤ 7) ∨ ((6 ≤ op ∧ op ≤ 10 ∨ op = 19 ∨ op = 20 ∨ op = 23) ∧ m = 1 ∧ p = 0) ∨ ((11 ≤ op ∧ op ≤ 18 ∨ op = 21 ∨ op = 22) ∧ m = 2 ∧ p = 0) := by
  unfold takesN at h
  dsimp only at h
  split at h
  · cases h
  · next h0 =>
    split at h
    · cases h; exact Or.inl ⟨by omega, rfl, by omega, by omega⟩
    · split at h
      · cases h; exact Or.inr (Or.inl ⟨by omega, rfl, by omega⟩)
      · cases h; exact Or.inr (Or.inr ⟨by omega, rfl, by omega⟩)
theorem Tryz.mwork_any (b n c hi : Nat) (d : Option Addr) (zs : List Int) (op p : Nat) (l : List (Sk × Mp)) (w : World) (hL : LtSl w d n c zs) (hn : n ≤ 10000) (hS : StkAt w b w.heap.size ((l.map (·.2)).reverse)) (hP : Parts w n b hi l) (hh : hi ≤ w.heap.size) (hl : l.length ≤ 100000) (hok : OkAt n ((l.map (·.1)).reverse) (op, p)) :
    ∃ x rest, skStep (zN zs) ((l.map (·.1)).reverse) (op, p) = (rest.map (·.1)).reverse ++ [x] ∧ rest.length ≤ l.length ∧ Calls Tryz.prog 69 #[.pointer (some ⟨b, 0, none⟩), .agg #[.int .u8 (op : Int), .int .u8 (p : Int)], .slice d n c] w (WorkR n b w x rest) := by
  obtain ⟨m, hm, hml, hf, hin⟩ := hok
  have ht := tak_of hm
  rcases takes_cases hm with ⟨h1, rfl, h3, h4⟩ | ⟨h1, rfl, rfl⟩ | ⟨h1, rfl, rfl⟩
  · refine ⟨skT (zN zs) (op, p) [], l, ?_, Nat.le_refl _, ?_⟩
    · unfold skStep
      have := drop_at ((l.map (·.1)).reverse) [] 0 rfl
      rw [List.append_nil] at this
      rw [ht, this.1, this.2]
    · obtain rfl | rfl | rfl | rfl | rfl | rfl : op = 0 ∨ op = 1 ∨ op = 2 ∨ op = 3 ∨ op = 4 ∨ op = 5 := by omega
      · obtain rfl := h3 (by decide)
        exact Tryz.mwork0_any b n c hi d zs l w hL hn hS hP hh
      · obtain rfl := h3 (by decide)
        exact Tryz.mwork1_any b n c hi d zs l w hL hn hS hP hh
      · exact Tryz.mwork2_any b n c hi p d zs l w hL hn h4 hS hP hh
      · obtain rfl := h3 (by decide)
        exact Tryz.mwork3_any b n c hi d zs l w hL hn hS hP hh
      · obtain rfl := h3 (by decide)
        exact Tryz.mwork4_any b n c hi d zs l w hL hn hS hP hh
      · obtain rfl := h3 (by decide)
        exact Tryz.mwork5_any b n c hi d zs l w hL hn hS hP hh
  · obtain ⟨⟨x, px⟩, rest, rfl⟩ : ∃ q rest, l = q :: rest := by
      cases l with
      | nil => simp at hml
      | cons q r => exact ⟨q, r, rfl⟩
    have hd := drop_at ((rest.map (·.1)).reverse) [x] 1 rfl
    have e0 : (((x, px) :: rest).map (·.1)).reverse = (rest.map (·.1)).reverse ++ [x] := by simp
    rw [e0] at hf hin ⊢
    refine ⟨skT (zN zs) (op, 0) [x], rest, ?_, by simp, ?_⟩
    · unfold skStep
      rw [ht, hd.1, hd.2]
    · rw [hd.1] at hf
      have hI : InW n x := hin x (by simp)
      have hr : rest.length ≤ 1000000 := by simp at hl; omega
      obtain rfl | rfl | rfl | rfl | rfl | rfl | rfl | rfl : op = 6 ∨ op = 7 ∨ op = 8 ∨ op = 9 ∨ op = 10 ∨ op = 19 ∨ op = 20 ∨ op = 23 := by omega
      · exact Tryz.mwork6_any b n c hi d zs x px rest w hL hn hS hP hh (fit1 hf (by decide)) hr
      · exact Tryz.mwork7_any b n c hi d zs x px rest w hL hn hS hP hh (fit1 hf (by decide)) hr
      · exact Tryz.mwork8_any b n c hi d zs x px rest w hL hn hS hP hh (fit1 hf (by decide)) hr
      · exact Tryz.mwork9_any b n c hi d zs x px rest w hL hn hS hP hh (fit1 hf (by decide)) hr
      · exact Tryz.mwork10_any b n c hi d zs x px rest w hL hn hS hP hh (fit1 hf (by decide)) hr
      · exact Tryz.mwork19_any b n c hi d zs x px rest w hL hn hS hP hh (fit1 hf (by decide)) hr
      · exact Tryz.mwork20_any b n c hi d zs x px rest w hL hn hS hP hh (fit1 hf (by decide)) hr
      · exact Tryz.mwork23_any b n c hi d zs x px rest w hL hn hS hP hh (by have := hf; simpa [fitK] using this) hI hr
  · obtain ⟨⟨y, py⟩, ⟨x, px⟩, rest, rfl⟩ : ∃ q q' rest, l = q :: q' :: rest := by
      match l, hml with
      | [], h => simp at h
      | [_], h => simp at h
      | q :: q' :: r, _ => exact ⟨q, q', r, rfl⟩
    have hd := drop_at ((rest.map (·.1)).reverse) [x, y] 2 rfl
    have e0 : (((y, py) :: (x, px) :: rest).map (·.1)).reverse = (rest.map (·.1)).reverse ++ [x, y] := by simp
    rw [e0] at hf hin ⊢
    refine ⟨skT (zN zs) (op, 0) [x, y], rest, ?_, by simp; omega, ?_⟩
    · unfold skStep
      rw [ht, hd.1, hd.2]
    · rw [hd.1] at hf
      have hI : InW n x := hin x (by simp)
      have hJ : InW n y := hin y (by simp)
      have hr : rest.length ≤ 999999 := by simp at hl; omega
      obtain rfl | rfl | rfl | rfl | rfl | rfl | rfl | rfl | rfl | rfl : op = 11 ∨ op = 12 ∨ op = 13 ∨ op = 14 ∨ op = 15 ∨ op = 16 ∨ op = 17 ∨ op = 18 ∨ op = 21 ∨ op = 22 := by omega
      · have hk : x.1 = false ∧ y.1 = false := by have := hf; simpa [fitK] using this
        exact Tryz.mwork11_any b n c hi d zs x y px py rest w hL hn hS hP hh hk.1 hk.2 hr
      · have hk : x.1 = false ∧ y.1 = false := by have := hf; simpa [fitK] using this
        exact Tryz.mwork12_any b n c hi d zs x y px py rest w hL hn hS hP hh hk.1 hk.2 hr
      · have hk : x.1 = false ∧ y.1 = false := by have := hf; simpa [fitK] using this
        exact Tryz.mwork13_any b n c hi d zs x y px py rest w hL hn hS hP hh hk.1 hk.2 hr
      · have hk : x.1 = false ∧ y.1 = false := by have := hf; simpa [fitK] using this
        exact Tryz.mwork14_any b n c hi d zs x y px py rest w hL hn hS hP hh hk.1 hk.2 hr
      · have hk : x.1 = false ∧ y.1 = false := by have := hf; simpa [fitK] using this
        exact Tryz.mwork15_any b n c hi d zs x y px py rest w hL hn hS hP hh hk.1 hk.2 hr
      · have hk : x.1 = false ∧ y.1 = false := by have := hf; simpa [fitK] using this
        exact Tryz.mwork16_any b n c hi d zs x y px py rest w hL hn hS hP hh hk.1 hk.2 hr
      · have hk : x.1 = true ∧ y.1 = false := by have := hf; simpa [fitK] using this
        exact Tryz.mwork17_any b n c hi d zs x y px py rest w hL hn hS hP hh hk.1 hk.2 hI hr
      · have hk : x.1 = true ∧ y.1 = false := by have := hf; simpa [fitK] using this
        exact Tryz.mwork18_any b n c hi d zs x y px py rest w hL hn hS hP hh hk.1 hk.2 hI hr
      · have hk : x.1 = true ∧ y.1 = true := by have := hf; simpa [fitK] using this
        exact Tryz.mwork21_any b n c hi d zs x y px py rest w hL hn hS hP hh hk.1 hk.2 hJ hr
      · have hk : x.1 = true ∧ y.1 = true := by have := hf; simpa [fitK] using this
        exact Tryz.mwork22_any b n c hi d zs x y px py rest w hL hn hS hP hh hk.1 hk.2 hI hJ hr
/-- One part more on a stack. -/
theorem Tryz.append_mp {w : World} {ops : Array Oper} {rest : List Oper} {o : Oper} {a : Act} {Q : Exit → Act → World → Prop} (hgd : o.guard = none) (s x : Operand)
    (ho : o.op = .call { callee := .builtin .append, args := #[s, x], argTypes := #[115, 115] }) (base : Nat)
    (v : Value) (st : List Mp) (hs : a.eval s = v) (hown : w.ownsRow base 70 2 v st.length (encS st)) (g : Nat) (p : Mp) (hx : a.eval x = .slice (some ⟨g, 0, none⟩) 1 1) (hB : w.heap[g]? = some (.cells #[slV p.1, slV p.2] 70 (0, 0)))
    (hn : st.length ≤ 1000000) (hbase : base ≤ w.heap.size)
    (h : ∀ v' w', w'.ownsRow base 70 2 v' (st.length + 1) (encS (st ++ [p])) → w.grownBy w' v.ownBlock → wpList Tryz.prog ops Q rest (a.put o.dst v') w') : wpList Tryz.prog ops Q (o :: rest) a w := by
  obtain ⟨i, hi, hz0, hz1, hz2⟩ := info_parts Tryz.infoPt
  refine wpList_append_own w hgd s x 115 ho base 70 i _ 2 48 Tryz.underlying115 hi hz0 hz1 hz2 rfl (by decide) v st.length _ hs hown ⟨g, 0, none⟩ 1 1 [slV p.1, slV p.2] hx rfl (fun j u hj => ?_) (fun u hu => encS_one [p] u (by simpa [encS] using hu)) (by unfold maxLen; omega) (by omega) hbase ?_
  · rw [add_plain, Nat.zero_add, cell_row hB]; simpa using hj
  · intro v' w' h1 h2 _
    exact h v' w' (by rw [encS_append]; simpa [encS] using h1) h2
end Go.Proofs.YtejekdenpefoiaaGreatDoor
namespace Go.Proofs.YtejekdenpefoiaaGreatDoor
open Go.RowKit Go.Maps
/-- Checked tokens. -/
structure Good (t : List Nat) (ts : List Tk) (x : Sk) : Prop where
  few : ts.length ≤ 512
  ok : ∀ k (h : k < ts.length), OkAt t.length (skS t (ts.take k) []) ts[k]
  fin : skS t ts [] = [x]
theorem PartOk.low {w : World} {n b b' lo hi : Nat} {x : Sk} {p : Mp} (h : PartOk w n b x p lo hi) (hb : b' ≤ b) : PartOk w n b' x p lo hi := ⟨h.1, fun hx => by
  obtain ⟨g, bs, h1, h2, h3, h4, h5⟩ := h.2 hx
  exact ⟨g, bs, h1, h2, h3, h4, Nat.le_trans hb h5⟩⟩
/-- What whole answers. -/
def WholeR (n : Nat) (x : Sk) (w : World) (e : Ending) (w' : World) : Prop := ∃ p lo hi, e = .returned (.agg #[slV p.1, slV p.2]) ∧ PartOk w' n w.heap.size x p lo hi ∧ w.heap.size ≤ lo ∧ Below w.heap.size w w'
theorem KeepT.of_grownO {G : Nat} {w w' : World} {v : Value} {n m : Nat} {xs : List Value} (h : w.grownBy w' v.ownBlock) (ho : w.ownsRow m 70 2 v n xs) : KeepT G w w' := fun k c t z hc ht =>
  h.block k (Array.getElem?_eq_some_iff.1 hc).1 fun e => by
    rcases ho.2 with ⟨rfl, _⟩ | ⟨g, cap, cur, rfl, _, hcell, _⟩
    · cases e
    · injection e with e
      dsimp only at e
      subst e
      rw [hcell] at hc
      injection hc with hc
      injection hc with _ hc _
      subst hc
      rcases ht with ht | ⟨ht | ht, _⟩ <;> exact absurd ht (by decide)
theorem KeepT.of_set {G b : Nat} {w : World} {c0 : Array Value} {z0 : Nat × Nat} (hj : w.heap[b]? = some (.cells c0 115 z0)) (i : Nat) (u : Value) : KeepT G w (w.setCell ⟨b, i, none⟩ u) :=
  KeepT.of_grown (j := b) ⟨rfl, rfl, rfl, by simp [World.setCell], fun k _ hne => Below.heap_setCell _ _ _ _ (fun e => hne (congrArg some e))⟩ hj (by decide) (by decide) (by decide)
set_option maxRecDepth 100000 in
set_option maxHeartbeats 4000000 in
theorem Tryz.mwhole_any (a : Option Addr) (len cap : Nat) (ts : List Tk) (n c : Nat) (d : Option Addr) (zs : List Int) (x : Sk) (w : World) (hT : TkSl w a len cap ts) (hL : LtSl w d n c zs) (hn : n ≤ 10000) (hG : Good (zN zs) ts x) :
    Calls Tryz.prog 39 #[.slice a len cap, .slice d n c] w (WholeR n x w) := by
  have hlen := hT.hlen
  have hzl : (zN zs).length = n := by rw [zN_len]; exact hL.sl.hlen
  have hl5 := hG.few
  have HT : Hid (TkSl w a len cap ts) := hT
  have HL : Hid (LtSl w d n c zs) := hL
  have HG : Hid (Good (zN zs) ts x) := hG
  have hw2 := below_step (below_new w (.cells #[.slice none 0 0, .slice none 0 0] 70)) (below_new (w.alloc (.cells #[.slice none 0 0, .slice none 0 0] 70)) (.cells #[.slice none 0 0] 115))
  have hres := (Below.heap_alloc (w.alloc (.cells #[.slice none 0 0, .slice none 0 0] 70)) (.cells #[.slice none 0 0] 115) w.heap.size (by simp)).trans (MapKept.heap_alloc w _).1
  have hstk := (MapKept.heap_alloc (w.alloc (.cells #[.slice none 0 0, .slice none 0 0] 70)) (.cells #[.slice none 0 0] 115)).1
  have hsz : ((w.alloc (.cells #[.slice none 0 0, .slice none 0 0] 70)).alloc (.cells #[.slice none 0 0] 115)).heap.size = w.heap.size + 2 := by simp
  rw [show (w.alloc (.cells #[.slice none 0 0, .slice none 0 0] 70)).heap.size = w.heap.size + 1 by simp] at hstk
  clear hT hL hG
  go_enter Tryz.func39, Tryz.ntmps39
  go_wp2
  generalize (w.alloc (.cells #[.slice none 0 0, .slice none 0 0] 70)).alloc (.cells #[.slice none 0 0] 115) = w2 at *
  have HB2 : Hid (Below w.heap.size w w2) := hw2
  have HS0 : Hid (StkAt w2 (w.heap.size + 1) w2.heap.size []) := ⟨⟨.slice none 0 0, hstk, ⟨rfl, Or.inl ⟨rfl, rfl⟩⟩, fun k hk => by cases hk⟩, by omega⟩
  have HR : Hid _ := hres
  have Hsz : Hid _ := hsz
  clear hw2 hres hstk hsz
  go_loopw [11] (fun i wr => ∃ k : Nat, k ≤ len ∧ i = .int .i64 k ∧ (∃ l : List (Sk × Mp), Hid (StkAt wr (w.heap.size + 1) wr.heap.size ((l.map (·.2)).reverse)) ∧ Hid (Parts wr n (w.heap.size + 1) wr.heap.size l) ∧ Hid ((l.map (·.1)).reverse = skS (zN zs) (ts.take k) []) ∧ Hid (l.length ≤ k)) ∧ Hid (Below (w.heap.size + 1) w2 wr)) (fun i _ => len - (intOf i).toNat)
  case atStart => exact ⟨0, Nat.zero_le _, rfl, ⟨[], HS0, by show Parts _ _ _ _ _; have := Hsz.out; unfold Parts; omega, rfl, Nat.le_refl _⟩, Below.refl _ _⟩
  case round =>
    obtain ⟨k, hk, rfl, ⟨l, HS, HP, HE, HLL⟩, HW⟩ := hrel
    clear HS0
    have hszr := HW.out.size
    have hsz2 := Hsz.out
    have HWW : Hid (Below w.heap.size w wr) := HB2.out.trans (HW.out.mono (by omega))
    by_cases hlt : k < len
    · obtain ⟨g1, o1, s1, hi1, hx0, hx1, hg1, _⟩ := (HT.out.up HWW.out).at Tryz.underlying22 Tryz.sizeTok k hlt
      have hidx := fun w' => hi1 len w' hlt
      clear hi1
      have hxl : k < ts.length := by omega
      have hok := HG.out.ok k hxl
      have HNX : Hid (skS (zN zs) (ts.take (k + 1)) [] = skStep (zN zs) (skS (zN zs) (ts.take k) []) ts[k]) := skS_next _ hxl _
      rw [← HE.out] at hok HNX
      rw [hzl] at hok
      generalize ts[k] = q at *
      obtain ⟨op, p⟩ := q
      dsimp only at hx0 hx1
      have hb1 := below_new wr (.cells #[.int .u8 (op : Int), .int .u8 (p : Int)] 61)
      have hll := HLL.out
      obtain ⟨y, rest, hst, hrl, hcall⟩ := Tryz.mwork_any (w.heap.size + 1) n c wr.heap.size d zs op p l (wr.alloc (.cells #[.int .u8 (op : Int), .int .u8 (p : Int)] 61)) ((HL.out.up HWW.out).up hb1) hn ((HS.out.up hb1).size) (HP.out.keep (KeepT.of_below hb1)) hb1.size (by omega) hok
      have HST : Hid _ := hst
      have HRL : Hid _ := hrl
      have hz1 : (wr.alloc (.cells #[.int .u8 (op : Int), .int .u8 (p : Int)] 61)).heap.size = wr.heap.size + 1 := by simp
      clear hst hrl hok HS HP
      go_wp2_with fail
      have HB1 : Hid _ := hb1
      clear hb1 hx0 hx1 hidx
      generalize wr.alloc (.cells #[.int .u8 (op : Int), .int .u8 (p : Int)] 61) = w3 at *
      refine hcall.mono ?_
      rintro e w4 ⟨pv, rfl, hs4, hp4, hb4⟩
      obtain ⟨⟨xa, xl, xc⟩, ⟨ya, yl, yc⟩⟩ := pv
      obtain ⟨v, hr4, ho4, _⟩ := hs4.c
      obtain ⟨va, vc, rfl⟩ := own_sl ho4
      have hbl4 : w.heap.size + 1 < w4.heap.size := (Array.getElem?_eq_some_iff.1 hr4).1
      have hz4 := hb4.size
      rw [hz1] at hz4
      have hlr := HRL.out
      have HRS : Hid (((((y, ((xa, xl, xc), (ya, yl, yc))) :: rest).map (·.2)).reverse : List Mp) = (rest.map (·.2)).reverse ++ [((xa, xl, xc), (ya, yl, yc))]) := by show _ = _; simp
      have HLE : Hid (((rest.map (·.2)).reverse : List Mp).length = rest.length) := by show _ = _; simp
      have HPt : Hid (Parts w4 n (w.heap.size + 1) w4.heap.size ((y, ((xa, xl, xc), (ya, yl, yc))) :: rest)) := hp4
      have hll3 : ((rest.map (·.2)).reverse : List Mp).length ≤ 1000 := by rw [HLE.out]; omega
      have hz4' := hb4.size
      have HW4 : Hid (Below (w.heap.size + 1) w2 w4) := (HW.out.trans (HB1.out.mono (by omega))).trans hb4
      generalize hst : ((rest.map (·.2)).reverse : List Mp) = st at *
      have HST2 : Hid (((rest.map (·.2)).reverse : List Mp) = st) := hst
      clear hst
      have hb5 := below_new w4 (.cells #[.slice xa xl xc, .slice ya yl yc] 70)
      have hb6 := below_step hb5 (below_new (w4.alloc (.cells #[.slice xa xl xc, .slice ya yl yc] 70)) (.cells #[.slice xa xl xc, .slice ya yl yc] 70))
      have cb5 := cell_row ((hb5.block (w.heap.size + 1) (by omega)).trans hr4) 0
      simp at cb5
      have hO6 := owns_up ho4 hb6
      have hB6 := (MapKept.heap_alloc (w4.alloc (.cells #[.slice xa xl xc, .slice ya yl yc] 70)) (.cells #[.slice xa xl xc, .slice ya yl yc] 70)).1
      rw [show (w4.alloc (.cells #[.slice xa xl xc, .slice ya yl yc] 70)).heap.size = w4.heap.size + 1 by simp] at hB6
      have hR6 := (hb6.block (w.heap.size + 1) (by omega)).trans hr4
      have hz6 : ((w4.alloc (.cells #[.slice xa xl xc, .slice ya yl yc] 70)).alloc (.cells #[.slice xa xl xc, .slice ya yl yc] 70)).heap.size = w4.heap.size + 2 := by simp
      have HO6 : Hid _ := hO6
      have HB6 : Hid _ := hB6
      have HR6 : Hid _ := hR6
      have Hb6 : Hid _ := hb6
      have Hz6 : Hid _ := hz6
      have HGE : Hid (∀ j, (Value.slice va st.length vc).ownBlock = some j → w.heap.size + 1 + 1 ≤ j) := own_ge ho4
      unfold slV
      clear hO6 hB6 hR6 hb6 hz6 ho4 hr4 hs4 hp4 hb4 hb5 hcall
      dsimp only
      go_wp2_with (at_builtin; refine Tryz.append_mp rfl _ _ rfl (w.heap.size + 1 + 1) _ st rfl HO6.out (w4.heap.size + 1) ((xa, xl, xc), (ya, yl, yc)) rfl HB6.out (by omega) (by rw [Hz6.out]; omega) ?_)
      intro v7 w7 hown7 hgr7
      obtain ⟨va7, vc7, rfl⟩ := own_sl hown7
      have hR7 := (hgr7.block (w.heap.size + 1) (by rw [Hz6.out]; omega) (fun e => by have := HGE.out _ e.symm; omega)).trans HR6.out
      have cb7 := cell_row hR7 0
      have zb7 := frozen_of_row _ _ 0 _ _ hR7
      simp at cb7
      have HFIN : Hid (StkAt (w7.setCell ⟨w.heap.size + 1, 0, none⟩ (.slice va7 (st.length + 1) vc7)) (w.heap.size + 1) (w7.setCell ⟨w.heap.size + 1, 0, none⟩ (.slice va7 (st.length + 1) vc7)).heap.size (st ++ [((xa, xl, xc), (ya, yl, yc))]) ∧ Parts (w7.setCell ⟨w.heap.size + 1, 0, none⟩ (.slice va7 (st.length + 1) vc7)) n (w.heap.size + 1) (w7.setCell ⟨w.heap.size + 1, 0, none⟩ (.slice va7 (st.length + 1) vc7)).heap.size ((y, ((xa, xl, xc), (ya, yl, yc))) :: rest) ∧ Below (w.heap.size + 1) w2 (w7.setCell ⟨w.heap.size + 1, 0, none⟩ (.slice va7 (st.length + 1) vc7))) := by
        have hK : KeepT w4.heap.size w4 (w7.setCell ⟨w.heap.size + 1, 0, none⟩ (.slice va7 (st.length + 1) vc7)) := ((KeepT.of_below Hb6.out).trans (KeepT.of_grownO hgr7 HO6.out)).trans (KeepT.of_set hR7 0 _)
        have hsS : (w7.setCell ⟨w.heap.size + 1, 0, none⟩ (.slice va7 (st.length + 1) vc7)).heap.size = w7.heap.size := by simp [World.setCell]
        have hsz7 := hgr7.size
        rw [Hz6.out] at hsz7
        refine ⟨?_, (HPt.out.keep hK).mono (by omega), ?_⟩
        · have hfin : StkAt (w7.setCell ⟨w.heap.size + 1, 0, none⟩ (.slice va7 (st.length + 1) vc7)) (w.heap.size + 1) (w7.setCell ⟨w.heap.size + 1, 0, none⟩ (.slice va7 (st.length + 1) vc7)).heap.size (st ++ [((xa, xl, xc), (ya, yl, yc))]) := by
            refine ⟨⟨.slice va7 (st.length + 1) vc7, ?_, ?_, fun j hj => ?_⟩, by omega⟩
            · rw [heap_setCell_same _ _ 0 _ _ _ hR7]; rfl
            · have h8 : (w7.setCell ⟨w.heap.size + 1, 0, none⟩ (.slice va7 (st.length + 1) vc7)).ownsRow (w.heap.size + 1 + 1) 70 2 (.slice va7 (st.length + 1) vc7) (st.length + 1) (encS (st ++ [((xa, xl, xc), (ya, yl, yc))])) := owns_set hown7 (by dsimp only; omega) _
              rw [List.length_append]; exact h8
            · rcases hown7.2 with ⟨e, _⟩ | ⟨g, cap, cur, e, _, hcell, _⟩
              · rw [e] at hj; cases hj
              · rw [e] at hj
                injection hj with hj
                dsimp only at hj
                subst hj
                rw [hsS]
                exact (Array.getElem?_eq_some_iff.1 hcell).1
          exact hfin
        · have h9 : Below (w.heap.size + 1) w2 w7 := (HW4.out.trans (Hb6.out.mono (by omega))).grown hgr7 (by rw [Hz6.out]; omega) (fun j e => by have := HGE.out _ e; omega)
          exact h9.setCell (by dsimp only; omega) _
      clear hown7 hgr7 hR7
      go_wp2
      go_roundw
      case rel =>
        refine ⟨k + 1, by omega, by go_num, ⟨(y, ((xa, xl, xc), (ya, yl, yc))) :: rest, ?_, HFIN.out.2.1, ?_, ?_⟩, HFIN.out.2.2⟩
        · show StkAt _ _ _ _
          rw [HRS.out]; exact HFIN.out.1
        · show _ = _
          rw [HNX.out, HST.out]; simp
        · show _ ≤ _
          simp; omega
      case measure => simp [intOf] <;> omega
    · obtain rfl : k = len := by omega
      have he := HE.out
      rw [List.take_of_length_le (by omega), HG.out.fin] at he
      obtain ⟨⟨x', p⟩, rfl⟩ : ∃ q, l = [q] := by
        match l, he with
        | [], h => simp at h
        | [q], _ => exact ⟨q, rfl⟩
        | _ :: _ :: _, h => have := congrArg List.length h; simp at this
      obtain rfl : x' = x := by simpa using he
      obtain ⟨⟨xa, xl, xc⟩, ⟨ya, yl, yc⟩⟩ := p
      have hS := HS.out
      have htk := Tryz.mtake_any (w.heap.size + 1) wr.heap.size [] ((xa, xl, xc), (ya, yl, yc)) wr (by simpa using hS) (by simp)
      obtain ⟨lo, hpo, hlo, hlo2⟩ := HP.out
      have hlo3 : w.heap.size + 1 < lo := hlo2
      have hrr := (HW.out.block w.heap.size (by omega)).trans HR.out
      have HPO : Hid (PartOk wr n (w.heap.size + 1) x' ((xa, xl, xc), (ya, yl, yc)) lo wr.heap.size) := hpo
      have HRR : Hid _ := hrr
      have HSS : Hid _ := hS
      clear hpo hrr hS HS HP HE he
      unfold slV at htk
      dsimp only at htk
      go_wp2_with fail
      refine htk.mono ?_
      rintro e w3 ⟨rfl, hs3, hg3⟩
      have hr3 := (hg3.block w.heap.size (by omega) (fun e => by injection e with e; omega)).trans HRR.out
      have c0 := cell_row hr3 0
      have c1 := cell_row hr3 1
      have z0 := frozen_of_row _ _ 0 _ _ hr3
      have z1 := frozen_of_row _ _ 1 _ _ hr3
      simp at c0 c1
      have HR3 : Hid _ := hr3
      have HF : Hid (WholeR n x' w (.returned (.agg #[.slice xa xl xc, .slice ya yl yc])) ((w3.setCell ⟨w.heap.size, 0, none⟩ (.slice xa xl xc)).setCell ⟨w.heap.size, 1, none⟩ (.slice ya yl yc))) := by
        obtain ⟨v0, hv0, _⟩ := HSS.out.c
        have hK : KeepT wr.heap.size wr ((w3.setCell ⟨w.heap.size, 0, none⟩ (.slice xa xl xc)).setCell ⟨w.heap.size, 1, none⟩ (.slice ya yl yc)) := (KeepT.of_grown hg3 hv0 (by decide) (by decide) (by decide)).trans (KeepT.of_grown (grown_set2 ..) hr3 (by decide) (by decide) (by decide))
        refine ⟨((xa, xl, xc), (ya, yl, yc)), lo, wr.heap.size, rfl, (PartOk.keep HPO.out hK).low (by omega), by omega, ?_⟩
        have h1 : Below w.heap.size w w3 := HWW.out.trans ⟨hg3.os, hg3.tape, hg3.output, hg3.size, fun k hk => hg3.block k (by omega) (fun e => by injection e with e; omega)⟩
        exact (h1.setCell (Nat.le_refl _) _).setCell (Nat.le_refl _) _
      clear hs3 hg3 hr3 htk
      go_wp2
      have f := set2_cells HR3.out (.slice xa xl xc) (.slice ya yl yc)
      refine bodyPost_ret (v := .agg #[.slice xa xl xc, .slice ya yl yc]) (by simp [results, Tryz.results39, go_sem, f.1, f.2.1]) rfl ?_
      exact HF.out
end Go.Proofs.YtejekdenpefoiaaGreatDoor
namespace Go.Proofs.YtejekdenpefoiaaGreatDoor
open Go.RowKit Go.Maps
def EntersM (F : FuncId) : Prop := ∀ args w, (callFunc F args).run Tryz.prog w = .ok (.enter F args) w
theorem Tryz.mfits8 (z : Int) (w : World) (h0 : 0 ≤ z) (h1 : z < 256) : Calls Tryz.prog 94 #[.int .i64 8, .int .u8 z] w fun e w' => e = .returned (.bool true) ∧ w' = w := by
  have hz : z / 256 = 0 := by omega
  go_enter Tryz.func94, Tryz.ntmps94
  go_wp2
  go_ret
  exact ⟨by simp, rfl⟩
set_option maxHeartbeats 1600000 in
theorem Tryz.mtrace_any (d : Option Addr) (m c : Nat) (zs : List Int) (w : World) (hL : LtSl w d m c zs) :
    Calls Tryz.prog 68 #[.int .i64 8, .slice d m c] w fun e w' => e = .returned (.int .i64 (trE zs)) ∧ Below w.heap.size w w' := by
  have hlen := hL.sl.hlen
  have hb0 := hL.sl.bd
  have hb1 := hL.sl.hcap
  unfold maxLen at hb0
  have HL : Hid (LtSl w d m c zs) := hL
  clear hL
  by_cases hm : 1024 < m
  · have HE : Hid (trE zs = 3) := if_pos (by omega)
    have hmi : (1024 : Int) < (m : Int) := by omega
    go_enter Tryz.func68, Tryz.ntmps68
    go_wp2
    go_ret
    exact ⟨by rw [HE.out]; rfl, Below.refl _ _⟩
  · have HE : Hid (trE zs = 0) := if_neg (by omega)
    have hmi : ¬ (1024 : Int) < (m : Int) := by omega
    go_enter Tryz.func68, Tryz.ntmps68
    go_wp2
    go_loopw [15] (fun i wr => ∃ k : Nat, k ≤ m ∧ i = .int .i64 k ∧ Hid (Below w.heap.size w wr)) (fun i _ => m - (intOf i).toNat)
    case atStart => exact ⟨0, Nat.zero_le _, rfl, Below.refl _ _⟩
    case round =>
      obtain ⟨k, hk, rfl, HW⟩ := hrel
      by_cases hlt : k < m
      · have hLr := HL.out.up HW.out
        have hi1 := fun w' => hLr.sl.idx m k w' hlt (Nat.le_refl _)
        have hc1 := hLr.sl.cell k hlt
        have hzz : 0 ≤ zs.getD k 0 ∧ zs.getD k 0 < 256 := by
          have : zs.getD k 0 = zs[k]'(by omega) := by simp [List.getD_eq_getElem?_getD, show k < zs.length by omega]
          rw [this]; exact hLr.ok _ (List.getElem_mem _)
        have hft := Tryz.mfits8 (zs.getD k 0) wr hzz.1 hzz.2
        generalize zs.getD k 0 = z at *
        clear hLr hzz
        go_wp2_with fail
        refine hft.mono ?_
        rintro e w2 ⟨rfl, rfl⟩
        go_wp2
        go_roundw
        case rel => exact ⟨k + 1, by omega, by go_num, HW⟩
        case measure => simp [intOf] <;> omega
      · obtain rfl : k = m := by omega
        go_wp2
        go_ret
        exact ⟨by rw [HE.out]; rfl, HW.out⟩
/-- What refusal answers. -/
def refM (ts : List Tk) (want : Nat) (zs : List Int) : Int := if lookE ts want = 0 then trE zs else (lookE ts want : Int)
theorem Tryz.mref_any (F : FuncId) (want : Nat) (hE : EntersM F) (hF : ∀ a len cap ts w, TkSl w a len cap ts → Calls Tryz.prog F #[.slice a len cap] w fun e w' => e = .returned (.int .i64 (lookE ts want : Int)) ∧ Below w.heap.size w w')
    (a : Option Addr) (len cap : Nat) (ts : List Tk) (d : Option Addr) (m c : Nat) (zs : List Int) (w : World) (hT : TkSl w a len cap ts) (hL : LtSl w d m c zs) :
    Calls Tryz.prog 38 #[.slice a len cap, .slice d m c, .func (.func F) #[] #[]] w fun e w' => e = .returned (.int .i64 (refM ts want zs)) ∧ Below w.heap.size w w' := by
  have h1 := hF a len cap ts w hT
  have h2 := fun w' (h : Below w.heap.size w w') => Tryz.mtrace_any d m c zs w' (hL.up h)
  unfold EntersM at hE
  unfold refM
  clear hF hT hL
  generalize trE zs = T at *
  generalize lookE ts want = E at *
  by_cases hz : E = 0
  · subst hz
    go_enter Tryz.func38, Tryz.ntmps38
    go_wp2_with fail
    refine h1.mono ?_
    rintro e w1 ⟨rfl, hb1⟩
    go_wp2_with fail
    refine (h2 w1 hb1).mono ?_
    rintro e w2 ⟨rfl, hb2⟩
    go_wp2
    go_ret
    exact ⟨rfl, below_step hb1 hb2⟩
  · have hz' : ¬ (E : Int) = 0 := by omega
    rw [if_neg hz]
    go_enter Tryz.func38, Tryz.ntmps38
    go_wp2_with fail
    refine h1.mono ?_
    rintro e w1 ⟨rfl, hb1⟩
    go_wp2
    go_ret
    exact ⟨rfl, hb1⟩
set_option maxRecDepth 100000 in
theorem Tryz.ent_check : EntersM 10 := fun _ _ => rfl
end Go.Proofs.YtejekdenpefoiaaGreatDoor
namespace Go.Proofs.YtejekdenpefoiaaGreatDoor
open Go.RowKit Go.Maps
theorem ref_cases (ts : List Tk) (want : Nat) (zs : List Int) : (refM ts want zs ≠ 0 ∧ (lookE ts want ≠ 0 ∧ refM ts want zs = (lookE ts want : Int) ∨ lookE ts want = 0 ∧ trE zs ≠ 0 ∧ refM ts want zs = trE zs)) ∨ (refM ts want zs = 0 ∧ lookE ts want = 0 ∧ trE zs = 0) := by
  unfold refM
  by_cases h : lookE ts want = 0
  · rw [if_pos h]
    by_cases h2 : trE zs = 0
    · exact Or.inr ⟨h2, h, h2⟩
    · exact Or.inl ⟨h2, Or.inr ⟨h, h2, rfl⟩⟩
  · rw [if_neg h]
    exact Or.inl ⟨by omega, Or.inl ⟨h, rfl⟩⟩
theorem tr_few {zs : List Int} (h : trE zs = 0) : zs.length ≤ 1024 := by
  unfold trE at h
  split at h
  · cases h
  · omega
theorem good_of (zs : List Int) {ts : List Tk} {want : Nat} (h : lookE ts want = 0) : ∃ (v : Sv) (b : Bool), Cl (zN zs) ts v ∧ Good (zN zs) ts (b, v) ∧ (want = 1 → b = false) ∧ (want = 3 → b = true) ∧ InW (zN zs).length (b, v) := by
  obtain ⟨v, b, h1, h2, h3, h4, h5, h6, h7⟩ := sk_look (zN zs) h
  exact ⟨v, b, h1, ⟨h6, h7, h2⟩, h3, h4, h5⟩
/-- A formula's values, whole. -/
theorem whole_val {n : Nat} {b : Bool} {v : Sv} {w : World} {e : Ending} {w' : World} (h : WholeR n (b, v) w e w') (hb : b = false) : ∃ g bs q, e = .returned (.agg #[.slice (some ⟨g, 0, none⟩) (n + 1) (n + 1), slV q]) ∧ ValAt w' g bs ∧ bs.length = n + 1 ∧ (∀ i, i ≤ n → (bs.getD i false = true ↔ v.1 i)) ∧ w.heap.size ≤ g ∧ Below w.heap.size w w' := by
  obtain ⟨⟨p, q⟩, lo, hi, rfl, hp, _, hw⟩ := h
  obtain ⟨g, bs, h1, h2, h3, h4, h5⟩ := hp.2 hb
  dsimp only at h1
  subst h1
  exact ⟨g, bs, q, rfl, h2, h3, h4, h5, hw⟩
theorem own_val {w : World} {g base : Nat} {bs : List Bool} (h : ValAt w g bs) (hb : base ≤ g) (hl : bs.length ≤ 1000000) : w.ownsRow base 4 1 (.slice (some ⟨g, 0, none⟩) bs.length bs.length) bs.length (bs.map Value.bool) :=
  ⟨by simp, Or.inr ⟨g, bs.length, _, rfl, hb, h, Nat.le_refl _, by unfold maxLen; omega, by simp, by simp; exact List.take_of_length_le (by simp)⟩⟩
/-- A checked formula, whole. -/
theorem Tryz.mwval_any (a : Option Addr) (len cap : Nat) (ts : List Tk) (d : Option Addr) (m c : Nat) (zs : List Int) (w : World) (hT : TkSl w a len cap ts) (hL : LtSl w d m c zs) (h0 : lookE ts 1 = 0) (ht : trE zs = 0) : Calls Tryz.prog 39 #[.slice a len cap, .slice d m c] w fun e w'' => ∃ g bs q, e = .returned (.agg #[.slice (some ⟨g, 0, none⟩) (m + 1) (m + 1), slV q]) ∧ ValAt w'' g bs ∧ bs.length = m + 1 ∧ ValB (zN zs) ts bs ∧ w.heap.size ≤ g ∧ Below w.heap.size w w'' := by
  have hm : zs.length = m := hL.sl.hlen
  obtain ⟨v, b, hc, hg, hb1, _, _⟩ := good_of zs h0
  have hf := tr_few ht
  refine (Tryz.mwhole_any a len cap ts m c d zs (b, v) w hT hL (by omega) hg).mono fun e w'' h => ?_
  obtain ⟨g, bs, q, h1, h2, h3, h4, h5, h6⟩ := whole_val h (hb1 rfl)
  refine ⟨g, bs, q, h1, h2, h3, ⟨by rw [h3, zN_len, hm], fun u hu i hi => ?_⟩, h5, h6⟩
  obtain rfl := hc.same hu
  have := h4 i (by omega)
  simpa [List.getD_eq_getElem?_getD, hi] using this
set_option maxHeartbeats 1600000 in
theorem Tryz.mAll_any : AllC 12 := by
  intro a len cap ts d m c zs w hT hL
  have hm : zs.length = m := hL.sl.hlen
  have h1 := Tryz.mref_any 10 1 Tryz.ent_check Tryz.check_any a len cap ts d m c zs w hT hL
  have HK : Hid _ := ref_cases ts 1 zs
  have HG : Hid (lookE ts 1 = 0 → trE zs = 0 → ∀ w', Below w.heap.size w w' → Calls Tryz.prog 39 #[.slice a len cap, .slice d m c] w' fun e w'' => ∃ g bs q, e = .returned (.agg #[.slice (some ⟨g, 0, none⟩) (m + 1) (m + 1), slV q]) ∧ ValAt w'' g bs ∧ bs.length = m + 1 ∧ ValB (zN zs) ts bs ∧ w'.heap.size ≤ g ∧ Below w'.heap.size w' w'') := fun h0 ht w' hb => Tryz.mwval_any a len cap ts d m c zs w' (hT.up hb) (hL.up hb) h0 ht
  clear hT hL
  unfold AllR
  generalize refM ts 1 zs = R at *
  rcases HK.out with ⟨hr, hk⟩ | ⟨hr, hk1, hk2⟩
  · have HKK : Hid _ := hk
    clear HK HG hk
    go_enter Tryz.func12, Tryz.ntmps12
    go_wp2_with fail
    refine h1.mono ?_
    rintro e w1 ⟨rfl, hb1⟩
    have HB : Hid _ := hb1
    clear h1 hb1
    go_wp2
    go_ret2
    exact ⟨_, R, rfl, HB.out, Or.inl ⟨hr, (by rcases HKK.out with ⟨q1, q2⟩ | ⟨q1, _, q3⟩; exact Or.inl ⟨q1, q2⟩; exact Or.inr ⟨q1, q3⟩), rfl⟩⟩
  · have h2 := HG.out hk1 hk2
    have HK1 : Hid _ := hk1
    have HK2 : Hid _ := hk2
    have Hm : Hid (m ≤ 1024) := by show _ ≤ _; have := tr_few hk2; omega
    subst hr
    clear HK HG hk1 hk2
    go_enter Tryz.func12, Tryz.ntmps12
    go_wp2_with fail
    refine h1.mono ?_
    rintro e w1 ⟨rfl, hb1⟩
    have h3 := h2 w1 hb1
    have HB1 : Hid _ := hb1
    clear h1 hb1 h2
    go_wp2_with fail
    refine h3.mono ?_
    rintro e w2 ⟨g, bs, q, rfl, hV, hl, hv, hg, hb2⟩
    have hfd := Tryz.fld0 (.slice (some ⟨g, 0, none⟩) (m + 1) (m + 1)) (slV q)
    have HV : Hid _ := hV
    have Hl : Hid _ := hl
    have Hv : Hid (ValB (zN zs) ts bs) := hv
    have Hg : Hid _ := hg
    have HB2 : Hid _ := hb2
    clear hV hl hv hg hb2 h3
    go_wp2
    go_ret2
    have e1 := Hl.out
    have e2 := Hm.out
    have e3 := HB1.out.size
    have e4 := Hg.out
    refine ⟨_, 0, rfl, below_step HB1.out HB2.out, Or.inr ⟨rfl, HK1.out, HK2.out, bs, ?_, Hv.out⟩⟩
    have := own_val (base := w.heap.size) HV.out (by omega) (by omega)
    rw [← e1]
    exact this
end Go.Proofs.YtejekdenpefoiaaGreatDoor
