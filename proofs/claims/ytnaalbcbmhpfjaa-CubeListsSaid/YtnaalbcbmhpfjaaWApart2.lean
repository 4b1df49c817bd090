/- ApartLetters answers true where no two lists share a block, and leaves all as it was. -/
import Derived.Test.YtnaalbcbmhpfjaaWApart
namespace Go.Proofs.Ytnaalbcbmhpfjaa
open Go.RowKit Go.Maps

theorem RowOf.up {w w' : World} {e : TypeId} {a : Option Addr} {cur : List Int} (h : RowOf w e a cur) (hb : Below w.heap.size w w') : RowOf w' e a cur := by
  rcases h with h | ⟨g, h1, h2⟩
  · exact Or.inl h
  · exact Or.inr ⟨g, h1, h2.up hb⟩
theorem RowOf.lt {w : World} {e : TypeId} {a : Option Addr} {cur : List Int} (h : RowOf w e a cur) : ∀ b, a.map (·.block) = some b → b < w.heap.size := by
  rcases h with ⟨rfl, _⟩ | ⟨g, rfl, h2⟩
  · intro b hb; cases hb
  · intro b hb; cases hb; exact h2.lt
theorem RowOf.intSl {P : Program} {T e : TypeId} {w : World} {a : Option Addr} {cur : List Int} (h : RowOf w e a cur) (hu : P.underlying T = some (.slice e)) (hs : (P.info? e).map (·.size) = some 1) (hm : cur.length ≤ maxLen) : IntSl P T .u8 w a cur.length cur.length cur := by
  rcases h with ⟨rfl, rfl⟩ | ⟨g, rfl, h2⟩
  · exact intSl_nil
  · have := h2.intSl hu hs (Nat.le_refl _) hm; rwa [List.take_length] at this
theorem RowOf.grown {w w' : World} {e : TypeId} {a : Option Addr} {cur : List Int} {row : Option Nat} (h : RowOf w e a cur) (hg : w.grownBy w' row) (hne : a = none ∨ a.map (·.block) ≠ row) : RowOf w' e a cur := by
  rcases h with h | ⟨g, h1, h2⟩
  · exact Or.inl h
  · refine Or.inr ⟨g, h1, (hg.block g h2.lt ?_).trans h2⟩
    subst h1
    rcases hne with h | h
    · cases h
    · exact h
theorem IntSl.grown {P : Program} {T : TypeId} {q : IntKind} {w w' : World} {a : Option Addr} {len cap : Nat} {zs : List Int} {row : Option Nat} (h : IntSl P T q w a len cap zs) (hg : w.grownBy w' row) (hne : ∀ k, k < len → some (adOf a k).block ≠ row) : IntSl P T q w' a len cap zs :=
  ⟨h.hlen, h.hcap, h.bd, h.idx, fun k hk => hg.cell (h.cell k hk) (hne k hk), fun k hk => Nat.lt_of_lt_of_le (h.blk k hk) hg.size, h.nn⟩

/-- What is known of the lists for good: each is nil or a block of its own, none is the block of the list of lists. -/
structure ApS (g m : Nat) (an : Nat → Option Addr) (nn : Nat → Nat) (cu : Nat → List Int) : Prop where
  ne : ∀ j k, j < m → k < m → j ≠ k → an j = none ∨ (an j).map (·.block) ≠ (an k).map (·.block)
  gne : ∀ k, k < m → (an k).map (·.block) ≠ some g
  len : ∀ k, (cu k).length ≤ 140737488355000
  val : ∀ k, ∀ z ∈ cu k, 0 ≤ z ∧ z < 256
  few : m ≤ 1000
/-- What is known of them in a world. -/
structure Apart (e : TypeId) (w : World) (g m : Nat) (an : Nat → Option Addr) (nn : Nat → Nat) (cu : Nat → List Int) : Prop where
  hd : ∀ k, k < m → w.cell? ⟨g, k, none⟩ = some (.slice (an k) (nn k) (cu k).length)
  row : ∀ k, k < m → RowOf w e (an k) (cu k)
  glt : g < w.heap.size
theorem Apart.up {e : TypeId} {w w' : World} {g m : Nat} {an : Nat → Option Addr} {nn : Nat → Nat} {cu : Nat → List Int} (h : Apart e w g m an nn cu) (hb : Below w.heap.size w w') : Apart e w' g m an nn cu :=
  ⟨fun k hk => cell_later hb (h.hd k hk), fun k hk => (h.row k hk).up hb, Nat.lt_of_lt_of_le h.glt hb.size⟩

/-- The copies, as far as they are made. -/
def Try.Copies (w : World) (gw m : Nat) (cu : Nat → List Int) (k : Nat) : Prop :=
  ∃ H : Array Value, w.heap[gw]? = some (.cells H 36 (0, 0)) ∧ H.size = m ∧
    ∀ j, j < k → ∃ a' c', H[j]? = some (.slice a' (cu j).length c') ∧ IntSl Try.prog 36 .u8 w a' (cu j).length c' (cu j) ∧ ∀ t, t < (cu j).length → gw < (adOf a' t).block
theorem Try.Copies.grown {w w' : World} {gw m : Nat} {cu : Nat → List Int} {k : Nat} {row : Option Nat} (h : Try.Copies w gw m cu k) (hg : w.grownBy w' row) (hr : ∀ b, row = some b → b < gw) : Try.Copies w' gw m cu k := by
  obtain ⟨H, h1, h2, h3⟩ := h
  have hlt : gw < w.heap.size := (Array.getElem?_eq_some_iff.1 h1).1
  refine ⟨H, (hg.block gw hlt (fun e => by have := hr gw e.symm; omega)).trans h1, h2, fun j hj => ?_⟩
  obtain ⟨a', c', e1, e2, e3⟩ := h3 j hj
  exact ⟨a', c', e1, e2.grown hg (fun t ht e => by have := hr _ e.symm; have := e3 t ht; omega), e3⟩
theorem Try.Copies.next {wr w1 : World} {gw m : Nat} {cu : Nat → List Int} {j : Nat} {a' : Option Addr} {c' : Nat} (hC : Try.Copies wr gw m cu j) (hjm : j < m) (hbw : Below wr.heap.size wr w1)
    (hsl : IntSl Try.prog 36 .u8 w1 a' (cu j).length c' (cu j)) (hblk : ∀ k, k < (cu j).length → wr.heap.size ≤ (adOf a' k).block) : Try.Copies (w1.setCell ⟨gw, j, none⟩ (.slice a' (cu j).length c')) gw m cu (j + 1) := by
  obtain ⟨H, h1, h2, h3⟩ := hC
  have hlt : gw < wr.heap.size := (Array.getElem?_eq_some_iff.1 h1).1
  have h1' := (hbw.block gw hlt).trans h1
  have hgr : w1.grownBy (w1.setCell ⟨gw, j, none⟩ (.slice a' (cu j).length c')) (some gw) := ⟨rfl, rfl, rfl, by simp, fun k hk hne => heap_setCell_other w1 _ k _ (fun e => hne (by rw [e]))⟩
  refine ⟨_, heap_setCell_same w1 gw j H _ _ h1', by simp [h2], fun t ht => ?_⟩
  by_cases e : t = j
  · subst e
    refine ⟨a', c', by simp [h2, hjm], hsl.grown hgr (fun k hk e => ?_), fun k hk => Nat.lt_of_lt_of_le hlt (hblk k hk)⟩
    have := hblk k hk; injection e with e; omega
  · obtain ⟨a2, c2, e1, e2, e3⟩ := h3 t (by omega)
    refine ⟨a2, c2, ?_, (e2.up hbw).grown hgr (fun k hk e => ?_), e3⟩
    · rw [Array.getElem?_setIfInBounds_ne (by omega)]; exact e1
    · have := e3 k hk; injection e with e; omega
theorem drew_below {w w' : World} (h : ∃ n, w' = w.drewN n) : Below w.heap.size w w' := by obtain ⟨n, rfl⟩ := h; exact below_drewN (Below.refl _ _) n
theorem below_grown {w w' : World} (h : Below w.heap.size w w') : w.grownBy w' none := ⟨h.os, h.tape, h.output, h.size, fun k hk _ => h.block k hk⟩

theorem over_over {e : TypeId} {a : Option Addr} {cur : List Int} {W0 wr w2 w4 : World} (h0 : RowOf W0 e a cur) (hbx : Below W0.heap.size W0 wr) (hg2 : wr.grownBy w2 (a.map (·.block))) (hg4 : w2.grownBy w4 (a.map (·.block))) (h4 : RowOf w4 e a cur) : Below W0.heap.size W0 w4 := by
  refine ⟨hg4.os.trans (hg2.os.trans hbx.os), hg4.tape.trans (hg2.tape.trans hbx.tape), hg4.output.trans (hg2.output.trans hbx.output), Nat.le_trans hbx.size (Nat.le_trans hg2.size hg4.size), fun k hk => ?_⟩
  have k1 : k < wr.heap.size := Nat.lt_of_lt_of_le hk hbx.size
  have k2 : k < w2.heap.size := Nat.lt_of_lt_of_le k1 hg2.size
  by_cases hr : some k = a.map (·.block)
  · rcases h0 with ⟨rfl, _⟩ | ⟨g, rfl, h0⟩
    · cases hr
    · rcases h4 with ⟨h4, _⟩ | ⟨g', h4', h4⟩
      · cases h4
      · injection h4' with h4'; injection h4' with h4'; subst h4'
        injection hr with hr; simp at hr; subst hr
        exact h4.trans h0.symm
  · exact (hg4.block k k2 hr).trans ((hg2.block k k1 hr).trans (hbx.block k hk))
theorem map_x5A {cur : List Int} (h : ∀ z ∈ cur, 0 ≤ z ∧ z < 256) : (cur.map x5A).map x5A = cur := by
  rw [List.map_map]
  conv => rhs; rw [← List.map_id cur]
  exact List.map_congr_left fun z hz => by simp; exact x5A_x5A (h z hz).1 (h z hz).2

theorem Try.makeLL (l : Nat) (hb : l ≤ 1000) (w : World) :
    (Instr.makeSlice 54 (.int .i64 (l : Int)) (.int .i64 (l : Int))).run Try.prog w = .ok (.slice (some ⟨w.heap.size, 0, none⟩) l l) (w.alloc (.cells (madeCells #[.slice none 0 0] l) 36)) := by
  have hinfo : (Try.prog.info? 36).map (fun i => (i.zero, i.size, i.bytes)) = some (some (.slice none 0 0), 1, 24) := by kernel_rfl
  obtain ⟨i, hi, hz0, hz1, hz2⟩ := info_parts hinfo
  have := run_make (P := Try.prog) w 54 36 i (.slice none 0 0) Try.underlying54 hi hz0 .i64 .i64 l l (by omega) (by omega) (by rw [hz2]; omega) (by omega)
  rw [this, hz1]
  simp only [Int.toNat_natCast, Nat.mul_one]
  rfl

set_option maxHeartbeats 2000000 in
theorem Try.apart_any (g m : Nat) (an : Nat → Option Addr) (nn : Nat → Nat) (cu : Nat → List Int) (w : World) (hs : ApS g m an nn cu) (ha : Apart 22 w g m an nn cu) :
    Calls Try.prog 30 #[.slice (some ⟨g, 0, none⟩) m m] w fun e w' => e = .returned (.bool true) ∧ Below w.heap.size w w' := by
  have hfew := hs.few
  have hmk := Try.makeLL m hfew
  go_enter Try.func30, Try.ntmps30
  go_wp2
  go_loopw [3] (fun i wr => ∃ k : Nat, k ≤ m ∧ i = .int .i64 k ∧ Below w.heap.size w wr) (fun i _ => m - (intOf i).toNat)
  case atStart => exact ⟨0, Nat.zero_le _, rfl, Below.refl _ _⟩
  case round =>
    obtain ⟨i, hi, rfl, hb⟩ := hrel
    by_cases hlt : i < m
    · rename World => W0
      have haR := ha.up hb
      go_wp2
      have hC0 : Try.Copies (W0.alloc (.cells (madeCells #[.slice none 0 0] m) 36)) W0.heap.size m cu 0 :=
        ⟨_, (MapKept.heap_alloc W0 _).1, size_madeCells _ _, fun j hj => absurd hj (by omega)⟩
      go_loopw [5] (fun k wx => ∃ j : Nat, j ≤ m ∧ k = .int .i64 j ∧ Below W0.heap.size W0 wx ∧ Try.Copies wx W0.heap.size m cu j) (fun k _ => m - (intOf k).toNat)
      case atStart => exact ⟨0, Nat.zero_le _, rfl, (Below.refl _ _).alloc (Nat.le_refl _) _, hC0⟩
      case round =>
        obtain ⟨j, hj, rfl, hbx, hC⟩ := hrel
        clear hC0
        have haX := haR.up hbx
        by_cases hjm : j < m
        · have hcx := haX.hd j hjm
          have hcpy : Calls Try.prog 50 #[.slice (an j) (cu j).length (cu j).length] wr.drew fun e w' => Try.CopyR (cu j).length (cu j) wr.drew e w' :=
            Try.copy_any _ _ _ _ _ (((haX.row j hjm).up (Below.refl _ _).drew).intSl Try.underlying36 Try.sizeLet (by have := hs.len j; unfold maxLen; omega)) (hs.len j)
          have hk1 : ∀ W, Below wr.drew.heap.size wr.drew W → W.cell? ⟨g, j, none⟩ = some (.slice (an j) (nn j) (cu j).length) := fun W hW => (hW.cell haX.glt).trans hcx
          have hk2 : ∀ W v, Below wr.drew.heap.size wr.drew W → (W.setCell ⟨W0.heap.size, j, none⟩ v).cell? ⟨g, j, none⟩ = some (.slice (an j) (nn j) (cu j).length) := fun W v hW => by
            rw [World.cell?_setCell_other _ _ _ _ (by have := haR.glt; intro e; injection e; omega)]; exact hk1 W hW
          have hst : ∀ W, Below wr.drew.heap.size wr.drew W → ∃ v, W.cell? ⟨W0.heap.size, j, none⟩ = some v := fun W hW => by
            obtain ⟨H, h1, h2, _⟩ := hC
            have hlt2 : W0.heap.size < wr.heap.size := (Array.getElem?_eq_some_iff.1 h1).1
            have := (hW.block _ hlt2).trans h1
            exact ⟨H[j], by simp [World.cell?, this, h2, hjm]⟩
          have hfr : ∀ W, Below wr.drew.heap.size wr.drew W → W.frozen? ⟨W0.heap.size, j, none⟩ = false := fun W hW => by
            obtain ⟨H, h1, h2, _⟩ := hC
            have hlt2 : W0.heap.size < wr.heap.size := (Array.getElem?_eq_some_iff.1 h1).1
            exact frozen_of_row W _ j H _ ((hW.block _ hlt2).trans h1)
          generalize hcl : (cu j).length = c at *
          have HCL : Hid ((cu j).length = c) := hcl
          clear hcl
          go_wp2
          go_region_held3 (fun w' => w'.cell? ⟨g, j, none⟩ = some (.slice (an j) (nn j) c)) (first | exact hcx | exact hk1 _ ‹_› | exact hk2 _ _ ‹_›) ((go_at_call 50; refine hcpy.mono ?_; rintro e w1 ⟨a', c', rfl, hsl, hblk, hbw⟩; obtain ⟨v0, hs1⟩ := hst w1 hbw; have hf1 := hfr w1 hbw))
          go_wp2
          go_roundw
          case rel =>
            refine ⟨j + 1, by omega, by go_num, (hbx.trans ((Below.drew (Below.refl _ _)).trans (hbw.mono (hbx.size)))).setCell (Nat.le_refl _) _, ?_⟩
            have hc := HCL.out
            subst hc
            exact hC.next hjm ⟨hbw.os, hbw.tape, hbw.output, hbw.size, hbw.block⟩ hsl hblk
          case measure => simp [intOf]; omega
        · have hcx := haX.hd i hlt
          have hov : Calls Try.prog 51 #[.slice (an i) (nn i) (cu i).length] wr fun e w' => OverR 22 (an i) (cu i) wr e w' := Try.over_any _ _ _ _ (haX.row i hlt) (hs.len i)
          obtain rfl : m = j := by omega
          have HR0 : Hid (RowOf W0 22 (an i) (cu i)) := haR.row i hlt
          generalize hcl : (cu i).length = c at *
          have HCL : Hid ((cu i).length = c) := hcl
          clear hcl
          go_wp2_with (go_at_call 51; refine hov.mono ?_; rintro e w2 ⟨rfl, hrow2, hg2⟩)
          have hC2 : Try.Copies w2 W0.heap.size m cu m := hC.grown hg2 (HR0.out.lt)
          have hA2 : ∀ k, k < m → w2.cell? ⟨g, k, none⟩ = some (.slice (an k) (nn k) (cu k).length) := fun k hk => hg2.cell (haX.hd k hk) (fun e => hs.gne i hlt e.symm)
          have hR2 : ∀ k, k < m → k ≠ i → RowOf w2 22 (an k) (cu k) := fun k hk hne => (haX.row k hk).grown hg2 (hs.ne k i hk hlt hne)
          have HG2 : Hid (wr.grownBy w2 ((an i).map (·.block))) := hg2
          have HBX : Hid (Below W0.heap.size W0 wr) := hbx
          clear hov hg2 hC hcx haX hbx haR hmk
          go_loopw [6] (fun k wy => ∃ j : Nat, j ≤ m ∧ k = .int .i64 j ∧ Hid (∃ n, wy = w2.drewN n)) (fun k _ => m - (intOf k).toNat)
          case atStart => exact ⟨0, Nat.zero_le _, rfl, 0, rfl⟩
          case round =>
            rename World => wy
            obtain ⟨k, hk, rfl, hwy⟩ := hrel
            by_cases hkm : k < m
            · by_cases hki : k = i
              · subst hki
                have hd : ((k : Int) != (k : Int)) = false := by simp
                go_wp2
                go_quiet (fail)
                go_wp2
                go_roundw
                case rel =>
                  obtain ⟨n, hn⟩ := hwy.out
                  exact ⟨k + 1, by omega, by go_num, n + nq, by rw [hn, World.drewN_drewN]⟩
                case measure => simp [intOf]; omega
              · have hd : ((k : Int) != (i : Int)) = true := by simp; omega
                have hcx : wy.cell? ⟨g, k, none⟩ = some (.slice (an k) (nn k) (cu k).length) := by obtain ⟨n, hn⟩ := hwy.out; rw [hn]; exact hA2 k hkm
                obtain ⟨H, hH1, hH2, hH3⟩ := hC2
                obtain ⟨a', c', e1, e2, e3⟩ := hH3 k hkm
                have hcw : wy.cell? ⟨W0.heap.size, k, none⟩ = some (.slice a' (cu k).length c') := by
                  obtain ⟨n, hn⟩ := hwy.out; rw [hn]
                  show w2.cell? _ = _
                  simp [World.cell?, hH1, e1]
                have hI : ∀ q, IntSl Try.prog 36 .u8 (wy.drewN q) (an k) (cu k).length (cu k).length (cu k) := fun q => by
                  obtain ⟨n, hn⟩ := hwy.out; rw [hn]
                  exact ((((hR2 k hkm hki).intSl Try.underlying36 Try.sizeLet (by have := hs.len k; unfold maxLen; omega)).drewN n).drewN q)
                have hJ : ∀ q, IntSl Try.prog 36 .u8 (wy.drewN q) a' (cu k).length c' (cu k) := fun q => by
                  obtain ⟨n, hn⟩ := hwy.out; rw [hn]; exact ((e2.drewN n).drewN q)
                have hsm : ∀ q, Calls Try.prog 28 #[.slice (an k) (cu k).length (cu k).length, .slice a' (cu k).length c'] (wy.drewN q) fun e w' => e = .returned (.bool true) ∧ ∃ n, w' = (wy.drewN q).drewN n := fun q =>
                  (Try.same_any _ _ _ _ _ _ _ _ _ (hI q) (hJ q)).mono fun e w' ⟨he, hn⟩ => ⟨by rw [he]; simp, hn⟩
                clear hI hJ hH1 hH2 hH3 e1 e2 e3
                generalize (cu k).length = ck at *
                go_wp2
                go_quiet ((go_at_call 28; exact Calls.quiet_of (hsm _)))
                go_wp2
                go_roundw
                case rel =>
                  obtain ⟨n, hn⟩ := hwy.out
                  exact ⟨k + 1, by omega, by go_num, n + nq, by rw [hn, World.drewN_drewN]⟩
                case measure => simp [intOf]; omega
            · have hcx : wy.cell? ⟨g, i, none⟩ = some (.slice (an i) (nn i) c) := by
                obtain ⟨n, hn⟩ := hwy.out; rw [hn]; have := hA2 i hlt; rw [HCL.out] at this; exact this
              have hrowY : RowOf wy 22 (an i) ((cu i).map x5A) := by obtain ⟨n, hn⟩ := hwy.out; rw [hn]; exact hrow2.up (below_drewN (Below.refl _ _) n)
              have hov : Calls Try.prog 51 #[.slice (an i) (nn i) c] wy fun e w' => OverR 22 (an i) ((cu i).map x5A) wy e w' := by
                have := Try.over_any (an i) (nn i) ((cu i).map x5A) wy hrowY (by rw [List.length_map]; exact hs.len i)
                rw [List.length_map, HCL.out] at this; exact this
              clear hC2 hA2 hR2 hrowY hrow2
              go_wp2_with (go_at_call 51; refine hov.mono ?_; rintro e w4 ⟨rfl, hrow4, hg4⟩)
              go_roundw
              case rel =>
                have hg4' : w2.grownBy w4 ((an i).map (·.block)) := by
                  obtain ⟨n, hn⟩ := hwy.out; rw [hn] at hg4
                  exact ⟨hg4.os, hg4.tape, hg4.output, hg4.size, hg4.block⟩
                rw [map_x5A (hs.val i)] at hrow4
                exact ⟨i + 1, by omega, by go_num, hb.trans ((over_over HR0.out HBX.out HG2.out hg4' hrow4).mono hb.size)⟩
              case measure => simp [intOf]; omega
    · go_wp2
      go_ret
      exact ⟨rfl, hb⟩
end Go.Proofs.Ytnaalbcbmhpfjaa
