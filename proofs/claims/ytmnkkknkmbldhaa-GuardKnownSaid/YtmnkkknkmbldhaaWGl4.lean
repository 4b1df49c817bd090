/- Stage 14: GuardKnown. -/
import Derived.Test.YtmnkkknkmbldhaaWGs6
import Derived.Test.YtmnkkknkmbldhaaWGs8
import Derived.Test.YtmnkkknkmbldhaaWGsD
import Derived.Test.YtmnkkknkmbldhaaGdR
namespace Go.Proofs.Ytmnkkknkmbldhaa
open Go.RowKit Go.Maps

/-- A store of two propositions on the way of a closed law, all of it new memory. -/
structure KnG (w0 w : World) (F : Nat → Prop) (g : Nat) (N : List Gd) : Prop where
  st : StG w F g 2 N
  new : ∀ k, F k → w0.heap.size ≤ k
  bel : Below w0.heap.size w0 w
theorem KnG.up {w0 w w' : World} {F : Nat → Prop} {g : Nat} {N : List Gd} (h : KnG w0 w F g N) (hb : Below w.heap.size w w') : KnG w0 w' F g N := ⟨h.st.up hb, h.new, below_step h.bel hb⟩
/-- Numbers that are written out. -/
theorem zlit (w : World) (zs : List Int) (hl : zs.length ≤ 1000) : ZSl (w.alloc (.cells (zs.map (Value.int .i64)).toArray 3)) (some ⟨w.heap.size, 0, none⟩) zs.length zs.length zs := by
  have h : RowI (w.alloc (.cells (zs.map (Value.int .i64)).toArray 3)) 3 w.heap.size zs := (MapKept.heap_alloc w _).1
  have := RowI.zsl (n := zs.length) h Try.underlying30 Try.sizeInt (Nat.le_refl _) (by unfold maxLen; omega)
  rwa [List.take_of_length_le (Nat.le_refl _)] at this
theorem Try.kadd {w0 w : World} {F : Nat → Prop} {g : Nat} {N N' : List Gd} {r er : Int} (h : KnG w0 w F g N) (hN : N.length ≤ 4096) (zs : List Int) (hl : zs.length ≤ 1000) (e : addG 2 N zs = ((r, er), N')) :
    Calls Try.prog 11 #[.pointer (some ⟨g, 0, none⟩), .slice (some ⟨w.heap.size, 0, none⟩) zs.length zs.length] (w.alloc (.cells (zs.map (Value.int .i64)).toArray 3)) fun e w' => e = .returned (.tuple #[.int .i64 r, .int .i64 er]) ∧ ∃ F', KnG w0 w' F' g N' ∧ Fr (w.alloc (.cells (zs.map (Value.int .i64)).toArray 3)) w' F F' := by
  have h1 := h.up (below_new w (.cells (zs.map (Value.int .i64)).toArray 3))
  have := Try.sAdd_any g 2 (by omega) zs (some ⟨w.heap.size, 0, none⟩) zs.length zs.length N F _ (zlit w zs hl) (fun j hj hf => by
    have := h.st.lt _ hf
    simp [adOf, add_plain] at this) h1.st hN
  rw [e] at this
  refine this.mono fun e w' ⟨q1, F', q2, q3⟩ => ⟨q1, F', ⟨q2, q3.ge h1.new h1.bel.size, h1.bel.trans (q3.below h1.new h1.bel.size)⟩, q3⟩
theorem Fr.nds {w w' : World} {F F' : Nat → Prop} (h : Fr w w' F F') {a : Option Addr} {len cap : Nat} {N : List Gd} (hN : NdSl w a len cap N) (hf : ∀ x, a = some x → ¬ F x.block) : NdSl w' a len cap N := by
  cases a with
  | none => exact ⟨hN.hlen, hN.hcap, hN.bd, hN.nn, fun x hx => (by cases hx), fun x hx => (by cases hx), fun x hx => (by cases hx), hN.ok⟩
  | some y => exact hN.keep fun p v hc hx => h.cell hc (by rw [hx y rfl]; exact hf y rfl)
/-- Nodes beside a store, which the store does not touch. -/
structure NdA (w : World) (F : Nat → Prop) (a : Option Addr) (cap : Nat) (N : List Gd) : Prop where
  nd : NdSl w a N.length cap N
  off : ∀ x, a = some x → ¬ F x.block ∧ x.block < w.heap.size
theorem NdA.up {w w' : World} {F : Nat → Prop} {a : Option Addr} {cap : Nat} {N : List Gd} (h : NdA w F a cap N) (hb : Below w.heap.size w w') : NdA w' F a cap N := ⟨h.nd.up hb, fun x hx => ⟨(h.off x hx).1, Nat.lt_of_lt_of_le (h.off x hx).2 hb.size⟩⟩
theorem NdA.fr {w w' : World} {F F' : Nat → Prop} {a : Option Addr} {cap : Nat} {N : List Gd} (h : NdA w F a cap N) (hf : Fr w w' F F') : NdA w' F' a cap N := ⟨hf.nds h.nd fun x hx => (h.off x hx).1, fun x hx => ⟨hf.out (h.off x hx).1 (h.off x hx).2, Nat.lt_of_lt_of_le (h.off x hx).2 hf.size⟩⟩
theorem ndlit (w : World) (N : List Gd) (hl : N.length ≤ 1000) (hok : ∀ t ∈ N, GdOk t) : NdSl (w.alloc (.cells (encG N).toArray 44)) (some ⟨w.heap.size, 0, none⟩) N.length N.length N := by
  have hc := (MapKept.heap_alloc w (.cells (encG N).toArray 44)).1
  have hcell : ∀ j u, (encG N)[j]? = some u → (w.alloc (.cells (encG N).toArray 44)).cell? ((⟨w.heap.size, 0, none⟩ : Addr).add j) = some u := fun j u hj => by
    rw [add_plain, Nat.zero_add, cell_row hc]; simpa using hj
  refine ⟨rfl, Nat.le_refl _, by unfold maxLen; omega, fun e => (by cases e), fun x hx k hk => ?_, fun x hx k hk => ?_, fun x hx k hk => ?_, hok⟩
  · injection hx with hx; subst hx; exact hcell _ _ (encG_get N k hk).1
  · injection hx with hx; subst hx; exact hcell _ _ (encG_get N k hk).2.1
  · injection hx with hx; subst hx; exact hcell _ _ (encG_get N k hk).2.2
theorem gdN4_ok : ∀ t ∈ gdN4, GdOk t := by
  intro t ht
  simp [gdN4] at ht
  rcases ht with rfl | rfl | rfl | rfl <;> exact ⟨⟨by decide, by decide⟩, ⟨by decide, by decide⟩, ⟨by decide, by decide⟩⟩
set_option maxRecDepth 100000 in
set_option maxHeartbeats 8000000 in
theorem Try.gknown_any (w : World) : Calls Try.prog 7 #[] w fun e w' => e = .returned (.bool true) ∧ Below w.heap.size w w' := by
  have j0 := Try.snew_any 2 w
  go_enter Try.func7, Try.ntmps7
  go_wp2_with fail
  refine j0.mono ?_
  rintro e w1 ⟨hb1, ⟨hno, _⟩ | ⟨_, _, g, F0, rfl, hF, hst⟩⟩
  · exact absurd hno (by omega)
  have HK0 : Hid (KnG w w1 F0 g []) := ⟨hst, hF, hb1⟩
  clear j0 hb1 hF hst
  have j1 := Try.kadd HK0.out (by decide) [5, 5, 5, 5] (by decide) gk1
  simp only [List.length_cons, List.length_nil, List.map_cons, List.map_nil] at j1
  go_wp2_with fail
  refine j1.mono ?_
  rintro e wa1 ⟨rfl, F1, hK1, _⟩
  have HK1 : Hid (KnG w wa1 F1 g []) := hK1
  clear j1 hK1
  have jl := Try.slen_any HK1.out.st
  go_wp2_with fail
  refine jl.mono ?_
  rintro e wl ⟨rfl, hwl⟩
  subst hwl
  clear jl
  have j2 := Try.kadd HK1.out (by decide) [0, 1, 0, 1] (by decide) gk2
  simp only [List.length_cons, List.length_nil, List.map_cons, List.map_nil] at j2
  go_wp2_with fail
  refine j2.mono ?_
  rintro e wa2 ⟨rfl, F2, hK2, _⟩
  have HK2 : Hid (KnG w wa2 F2 g gdN1) := hK2
  clear j2 hK2
  have j3 := Try.kadd HK2.out (by decide) [0, 0, 1, 1] (by decide) gk3
  simp only [List.length_cons, List.length_nil, List.map_cons, List.map_nil] at j3
  go_wp2_with fail
  refine j3.mono ?_
  rintro e wa3 ⟨rfl, F3, hK3, _⟩
  have HK3 : Hid (KnG w wa3 F3 g gdN2) := hK3
  clear j3 hK3
  have j4 := Try.kadd HK3.out (by decide) [0, 1, 1, 0] (by decide) gk4
  simp only [List.length_cons, List.length_nil, List.map_cons, List.map_nil] at j4
  go_wp2_with fail
  refine j4.mono ?_
  rintro e wa4 ⟨rfl, F4, hK4, _⟩
  have HK4 : Hid (KnG w wa4 F4 g gdN4) := hK4
  clear j4 hK4
  have jn := Try.snodes_any HK4.out.st (by decide)
  go_wp2_with fail
  refine jn.mono ?_
  rintro e wn ⟨hbn, vn, rfl, hon⟩
  obtain ⟨an, cn, rfl, hnn, hnb⟩ := own_nd hon gdN4_ok
  have HN5 : Hid (NdA wn F4 an cn gdN4) := ⟨hnn, fun x hx => ⟨fun hf => by have := HK4.out.st.lt _ hf; have := (hnb x hx).1; omega, (hon.lt _ (hnb x hx).2).2⟩⟩
  have HK5 : Hid (KnG w wn F4 g gdN4) := HK4.out.up hbn
  have hl4 : gdN4.length = 4 := rfl
  rw [hl4]
  clear jn hbn hon hnn hl4 hnb
  have j5 := Try.kadd HK5.out (by decide) [0, 0, 0] (by decide) gk5
  have HB5 : Hid _ := HN5.out.up (below_new wn (.cells #[.int .i64 0, .int .i64 0, .int .i64 0] 3))
  simp only [List.length_cons, List.length_nil, List.map_cons, List.map_nil] at j5
  go_wp2_with fail
  refine j5.mono ?_
  rintro e wa5 ⟨rfl, F5, hK5, hf5⟩
  have HK6 : Hid (KnG w wa5 F5 g gdN4) := hK5
  have HN6 : Hid (NdA wa5 F5 an cn gdN4) := HB5.out.fr hf5
  clear j5 hK5 hf5 HB5
  have j6 := Try.kadd HK6.out (by decide) [0, 0, 0, -1] (by decide) gk6
  have HB6 : Hid _ := HN6.out.up (below_new wa5 (.cells #[.int .i64 0, .int .i64 0, .int .i64 0, .int .i64 (-1)] 3))
  simp only [List.length_cons, List.length_nil, List.map_cons, List.map_nil] at j6
  go_wp2_with fail
  refine j6.mono ?_
  rintro e wa6 ⟨rfl, F6, hK6, hf6⟩
  have HK7 : Hid (KnG w wa6 F6 g gdN4) := hK6
  have HN7 : Hid (NdA wa6 F6 an cn gdN4) := HB6.out.fr hf6
  clear j6 hK6 hf6 HB6
  have j7 := Try.snew_any 9 wa6
  go_wp2_with fail
  refine j7.mono ?_
  rintro e w7 ⟨hb7, ⟨_, rfl⟩ | ⟨_, h98, _⟩⟩
  rotate_left 1
  · exact absurd h98 (by omega)
  have HB7 : Hid (Below w.heap.size w w7) := below_step HK7.out.bel hb7
  have HN8 : Hid (NdSl w7 an 4 cn gdN4) := HN7.out.nd.up hb7
  clear j7 hb7 HN7 HN6 HN5 HK7 HK6 HK5 HK4 HK3 HK2 HK1 HK0
  have j8 := Try.sameN_any an 4 cn gdN4 (some ⟨w7.heap.size, 0, none⟩) 4 4 gdN4 (w7.alloc (.cells (encG gdN4).toArray 44)) (HN8.out.up (below_new w7 _)) (ndlit w7 gdN4 (by decide) gdN4_ok)
  rw [decide_eq_true rfl] at j8
  have he4 : (encG gdN4).toArray = #[.int .i64 0, .int .i64 (-1), .int .i64 (-2), .int .i64 1, .int .i64 (-1), .int .i64 (-2), .int .i64 1, .int .i64 (-2), .int .i64 (-1), .int .i64 0, .int .i64 1, .int .i64 2] := rfl
  rw [he4] at j8
  have HB8 : Hid _ := below_new w7 (.cells #[.int .i64 0, .int .i64 (-1), .int .i64 (-2), .int .i64 1, .int .i64 (-1), .int .i64 (-2), .int .i64 1, .int .i64 (-2), .int .i64 (-1), .int .i64 0, .int .i64 1, .int .i64 2] 44)
  clear he4
  go_wp2_with fail
  refine j8.mono ?_
  rintro e w8 ⟨rfl, hb8⟩
  have HB9 : Hid (Below w.heap.size w w8) := below_step HB7.out (below_step HB8.out hb8)
  have HN9 : Hid (NdSl w8 an 4 cn gdN4) := HN8.out.up (below_step HB8.out hb8)
  clear j8 hb8 HB8 HN8 HB7
  have j9 := Try.ggo_any an 4 cn gdN4 3 3 w8 HN9.out ⟨by decide, by decide⟩ (by decide)
  rw [gk7] at j9
  dsimp only [goV] at j9
  go_wp2_with fail
  refine j9.mono ?_
  rintro e wg9 ⟨rfl, hb9⟩
  have HB10 : Hid (Below w.heap.size w wg9) := below_step HB9.out hb9
  have HN10 : Hid (NdSl wg9 an 4 cn gdN4) := HN9.out.up hb9
  clear j9 hb9 HB9 HN9
  have j10 := Try.ggo_any an 4 cn gdN4 3 1 wg9 HN10.out ⟨by decide, by decide⟩ (by decide)
  rw [gk8] at j10
  dsimp only [goV] at j10
  go_wp2_with fail
  refine j10.mono ?_
  rintro e wg10 ⟨rfl, hb10⟩
  have HB11 : Hid (Below w.heap.size w wg10) := below_step HB10.out hb10
  have HN11 : Hid (NdSl wg10 an 4 cn gdN4) := HN10.out.up hb10
  clear j10 hb10 HB10 HN10
  have j11 := Try.ggo_any an 4 cn gdN4 9 0 wg10 HN11.out ⟨by decide, by decide⟩ (by decide)
  rw [gk9] at j11
  dsimp only [goV] at j11
  go_wp2_with fail
  refine j11.mono ?_
  rintro e wg11 ⟨rfl, hb11⟩
  have HB12 : Hid (Below w.heap.size w wg11) := below_step HB11.out hb11
  have HN12 : Hid (NdSl wg11 an 4 cn gdN4) := HN11.out.up hb11
  clear j11 hb11 HB11 HN11
  have j12 := Try.gtab_any 2 an 4 cn gdN4 1 wg11 HN12.out ⟨by decide, by decide⟩
  go_wp2_with fail
  refine j12.mono ?_
  rintro e w12 ⟨hb12, ⟨hno, _⟩ | ⟨_, _, ⟨hno, _⟩ | ⟨tl, ta, tc, htl, rfl, hts⟩⟩⟩
  · exact absurd hno (by omega)
  · rw [show (2 : Int).toNat = 2 from rfl, gkA] at hno; cases hno
  rw [show (2 : Int).toNat = 2 from rfl, gkA] at htl
  injection htl with htl
  subst htl
  have HB13 : Hid (Below w.heap.size w w12) := below_step HB12.out hb12
  have HN13 : Hid (NdSl w12 an 4 cn gdN4) := HN12.out.up hb12
  have HT13 : Hid (ZSl w12 ta 4 tc [0, 0, 1, 1]) := hts
  simp only [List.length_cons, List.length_nil]
  clear j12 hb12 hts HB12 HN12
  have j13 := Try.gtab_any 9 an 4 cn gdN4 1 w12 HN13.out ⟨by decide, by decide⟩
  go_wp2_with fail
  refine j13.mono ?_
  rintro e w13 ⟨hb13, ⟨_, rfl⟩ | ⟨_, h9, _⟩⟩
  rotate_left 1
  · exact absurd h9 (by omega)
  have HB14 : Hid (Below w.heap.size w w13) := below_step HB13.out hb13
  have HT14 : Hid (ZSl w13 ta 4 tc [0, 0, 1, 1]) := HT13.out.up hb13
  clear j13 hb13 HB13 HT13 HN13
  obtain ⟨wb14, hwb14⟩ : ∃ wb, wb = w13.alloc (.cells #[.bool true] 4) := ⟨_, rfl⟩
  have hs14 : wb14.heap.size = w13.heap.size + 1 := by rw [hwb14]; simp
  have HBa14 : Hid (Below w13.heap.size w13 (wb14.alloc (.cells #[.int .i64 (-1)] 3))) := by rw [hwb14]; exact below_step (below_new _ _) (below_new _ _)
  have j14 := Try.gchk_any 0 (some ⟨w13.heap.size, 0, none⟩) 1 1 (some ⟨wb14.heap.size, 0, none⟩) 1 1 none 0 0 [] [-1] (wb14.alloc (.cells #[.int .i64 (-1)] 3)) NdSl.nil (zlit wb14 [-1] (by decide)) (fun z hz => by simp at hz; subst hz; exact ⟨by decide, by decide⟩) (by omega)
  rw [hs14, hwb14] at j14
  rw [hwb14] at HBa14
  clear hwb14 hs14
  go_wp2_with fail
  refine j14.mono ?_
  rintro e w14 ⟨hb14, vv, rfl, ⟨rfl, _⟩ | ⟨_, hm⟩⟩
  rotate_left 1
  · exact absurd gkB hm
  have HB15 : Hid (Below w.heap.size w w14) := below_step HB14.out (below_step HBa14.out hb14)
  have HT15 : Hid (ZSl w14 ta 4 tc [0, 0, 1, 1]) := HT14.out.up (below_step HBa14.out hb14)
  clear j14 hb14 HBa14 HB14 HT14
  obtain ⟨wb15, hwb15⟩ : ∃ wb, wb = w14.alloc (.cells #[.bool true] 4) := ⟨_, rfl⟩
  have hs15 : wb15.heap.size = w14.heap.size + 1 := by rw [hwb15]; simp
  have HBa15 : Hid (Below w14.heap.size w14 (wb15.alloc (.cells #[.int .i64 0] 3))) := by rw [hwb15]; exact below_step (below_new _ _) (below_new _ _)
  have j15 := Try.gchk_any 0 (some ⟨w14.heap.size, 0, none⟩) 1 1 (some ⟨wb15.heap.size, 0, none⟩) 1 1 none 0 0 [] [0] (wb15.alloc (.cells #[.int .i64 0] 3)) NdSl.nil (zlit wb15 [0] (by decide)) (fun z hz => by simp at hz; subst hz; exact ⟨by decide, by decide⟩) (by omega)
  rw [hs15, hwb15] at j15
  rw [hwb15] at HBa15
  clear hwb15 hs15
  go_wp2_with fail
  refine j15.mono ?_
  rintro e w15 ⟨hb15, vv, rfl, ⟨_, hm⟩ | ⟨rfl, _⟩⟩
  · exact absurd hm gkC
  have HB16 : Hid (Below w.heap.size w w15) := below_step HB15.out (below_step HBa15.out hb15)
  have HT16 : Hid (ZSl w15 ta 4 tc [0, 0, 1, 1]) := HT15.out.up (below_step HBa15.out hb15)
  clear j15 hb15 HBa15 HB15 HT15
  have HB16b : Hid _ := below_new w15 (.cells #[.int .i64 0, .int .i64 0, .int .i64 1, .int .i64 1] 3)
  have j16 := Try.sameI_any ta 4 tc [0, 0, 1, 1] (some ⟨w15.heap.size, 0, none⟩) 4 4 [0, 0, 1, 1] (w15.alloc (.cells #[.int .i64 0, .int .i64 0, .int .i64 1, .int .i64 1] 3)) (HT16.out.up HB16b.out) (zlit w15 [0, 0, 1, 1] (by decide))
  rw [decide_eq_true rfl] at j16
  go_wp2_with fail
  refine j16.mono ?_
  rintro e w16 ⟨rfl, hn16⟩
  have HB17 : Hid (Below w.heap.size w w16) := below_step HB16.out (below_step HB16b.out (drew_belowZ hn16))
  clear j16 hn16 HB16 HB16b HT16
  go_wp2
  go_ret
  exact ⟨rfl, HB17.out⟩
end Go.Proofs.Ytmnkkknkmbldhaa
