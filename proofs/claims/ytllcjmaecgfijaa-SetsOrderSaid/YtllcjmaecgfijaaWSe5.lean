/- Stage 10's laws over the contracts of package sets: SetsRing (written by mkring.py). -/
import Derived.Test.YtllcjmaecgfijaaWSe4
namespace Go.Proofs.Ytllcjmaecgfijaa
open Go.RowKit Go.Maps

/-- A list of sets, at most B of them. -/
structure VL (w : World) (a : Option Addr) (n c : Nat) (L : List Nat) (B : Nat) : Prop where
  us : USl w a n c L
  sm : Sm L
  le : n ≤ B
theorem VL.up {w w' : World} {a : Option Addr} {n c B : Nat} {L : List Nat} (h : VL w a n c L B) (hb : Below w.heap.size w w') : VL w' a n c L B := ⟨h.us.up hb, h.sm, h.le⟩
def VE (L : List Nat) (B : Nat) (w : World) (e : Ending) (w' : World) : Prop := ∃ (a : Option Addr) (n c : Nat), e = .returned (.tuple #[.slice a n c, .int .i64 0]) ∧ VL w' a n c L B ∧ Below w.heap.size w w'
def VO (L : List Nat) (B : Nat) (w : World) (e : Ending) (w' : World) : Prop := ∃ (a : Option Addr) (n c : Nat), e = .returned (.slice a n c) ∧ VL w' a n c L B ∧ Below w.heap.size w w'
theorem VL.or (hC : SetC) {w : World} {a b : Option Addr} {n c m d B1 B2 : Nat} {L K : List Nat} (h : VL w a n c L B1) (k : VL w b m d K B2) (hb : B1 + B2 ≤ 1024) : Calls Try.prog 15 #[.slice a n c, .slice b m d] w (VE (leastL (L ++ K)) (B1 + B2) w) :=
  (hC.or a n c L b m d K w h.us k.us h.sm k.sm (by have := h.le; have := k.le; omega)).mono fun e w' ⟨x, z, h1, h2, h3⟩ => ⟨x, _, z, h1, ⟨h2, sm_least (sm_append h.sm k.sm), by
    have := len_or L K
    have e1 := h.us.len
    have e2 := k.us.len
    have := h.le
    have := k.le
    omega⟩, h3⟩
theorem VL.and (hC : SetC) {w : World} {a b : Option Addr} {n c m d B1 B2 : Nat} {L K : List Nat} (h : VL w a n c L B1) (k : VL w b m d K B2) (hb : B1 * B2 ≤ 1024) (h1 : B1 ≤ 1024) (h2 : B2 ≤ 1024) : Calls Try.prog 8 #[.slice a n c, .slice b m d] w (VE (leastL (uniL L K)) (B1 * B2) w) :=
  (hC.and a n c L b m d K w h.us k.us h.sm k.sm (Nat.le_trans (Nat.mul_le_mul h.le k.le) hb) (by have := h.le; omega) (by have := k.le; omega)).mono fun e w' ⟨x, z, h1, h2, h3⟩ => ⟨x, _, z, h1, ⟨h2, sm_least (sm_uni h.sm k.sm), by
    have := len_and L K
    rw [← h.us.len, ← k.us.len] at this
    exact Nat.le_trans this (Nat.mul_le_mul h.le k.le)⟩, h3⟩
theorem VL.least (hC : SetC) {w : World} {a : Option Addr} {n c B : Nat} {L : List Nat} (h : VL w a n c L B) (hb : B ≤ 1024) : Calls Try.prog 18 #[.slice a n c] w (VO (leastL L) B w) :=
  (hC.least a n c L w h.us h.sm (by have := h.le; omega)).mono fun e w' ⟨x, z, h1, h2, h3⟩ => ⟨x, _, z, h1, ⟨h2, sm_least h.sm, by
    have := leastL_len L
    have e1 := h.us.len
    have := h.le
    omega⟩, h3⟩
theorem VL.same (hC : SetC) {w : World} {a b : Option Addr} {n c m d B1 B2 : Nat} {L K : List Nat} (h : VL w a n c L B1) (k : VL w b m d K B2) (he : L = K) : Calls Try.prog 13 #[.slice a n c, .slice b m d] w (BR true w) := by
  have := hC.same a n c L b m d K w h.us k.us
  rwa [decide_eq_true he] at this
theorem v_true (hC : SetC) (w : World) : Calls Try.prog 26 #[] w (VO [0] 1 w) :=
  (hC.tru w).mono fun e w' ⟨x, z, h1, h2, h3⟩ => ⟨x, _, z, h1, ⟨h2, by unfold Sm; decide, by decide⟩, h3⟩
theorem v_nil (w : World) : VL w none 0 0 [] 0 := ⟨usl_nil, by unfold Sm; simp, Nat.le_refl _⟩
set_option maxRecDepth 100000 in
set_option maxHeartbeats 16000000 in
theorem Try.setsRing_any (hC : SetC) (a : Option Addr) (n c : Nat) (A : List Nat) (b : Option Addr) (m d : Nat) (B : List Nat) (f : Option Addr) (k g : Nat) (F : List Nat) (w : World) (hA : USl w a n c A) (hB : USl w b m d B) (hF : USl w f k g F) (sA : Sm A) (sB : Sm B) (sF : Sm F) :
    Calls Try.prog 5 #[.slice a n c, .slice b m d, .slice f k g] w (BR true w) := by
  have HC : Hid SetC := hC
  have bda := Nat.le_trans hA.hcap hA.bd
  have bdb := Nat.le_trans hB.hcap hB.bd
  have bdf := Nat.le_trans hF.hcap hF.bd
  have j0 := Try.sawake_any hC w
  have HA : Hid (USl w a n c A ∧ Sm A) := ⟨hA, sA⟩
  have HB : Hid (USl w b m d B ∧ Sm B) := ⟨hB, sB⟩
  have HF : Hid (USl w f k g F ∧ Sm F) := ⟨hF, sF⟩
  clear hC hA hB hF sA sB sF
  go_enter Try.func5, Try.ntmps5
  go_wp2_with fail
  refine j0.mono ?_
  rintro e w1 ⟨rfl, hb1⟩
  have HX1 : Hid (Below w.heap.size w w1) := hb1
  have j1 := Try.small_any w1.heap.size [(a, n, c), (b, m, d), (f, k, g)] (w1.alloc (.cells #[.slice a n c, .slice b m d, .slice f k g] 22)) ((MapKept.heap_alloc w1 _).1) (by simp) (by
    intro x hx
    simp only [List.mem_cons, List.not_mem_nil, or_false] at hx
    rcases hx with rfl | rfl | rfl
    · exact bda
    · exact bdb
    · exact bdf)
  have HX2 : Hid (Below w.heap.size w (w1.alloc (.cells #[.slice a n c, .slice b m d, .slice f k g] 22))) := below_step hb1 (below_new w1 _)
  have HSM : Hid (smB [(a, n, c), (b, m, d), (f, k, g)] = true → n ≤ 9 ∧ m ≤ 9 ∧ k ≤ 9) := fun h => by simpa [smB] using h
  clear j0 hb1 HX1
  generalize smB [(a, n, c), (b, m, d), (f, k, g)] = s at *
  dsimp only [List.length_cons, List.length_nil] at j1
  go_wp2_with fail
  refine j1.mono ?_
  rintro e w2 ⟨rfl, rfl⟩
  clear j1
  generalize w1.alloc (.cells #[.slice a n c, .slice b m d, .slice f k g] 22) = v0 at *
  cases s with
  | false =>
    go_wp2_with fail
    go_ret
    exact ⟨rfl, HX2.out⟩
  | true =>
    obtain ⟨hn9, hm9, hk9⟩ := HSM.out rfl
    have Va : Hid (VL v0 a n c A 9) := ⟨HA.out.1.up HX2.out, HA.out.2, hn9⟩
    have Vb : Hid (VL v0 b m d B 9) := ⟨HB.out.1.up HX2.out, HB.out.2, hm9⟩
    have Vc : Hid (VL v0 f k g F 9) := ⟨HF.out.1.up HX2.out, HF.out.2, hk9⟩
    have HX : Hid (Below w.heap.size w v0) := HX2.out
    clear HSM HA HB HF HX2 hn9 hm9 hk9 bda bdb bdf
    have j := VL.or HC.out Va.out Vb.out (by decide)
    go_wp2_with fail
    refine j.mono ?_
    rintro e v1 ⟨x_ab, n_ab, c_ab, rfl, hv, hb⟩
    have Vab : Hid (VL v1 x_ab n_ab c_ab (leastL (A ++ B)) 18) := hv
    replace Va : Hid (VL v1 a n c (A) 9) := Va.out.up hb
    replace Vb : Hid (VL v1 b m d (B) 9) := Vb.out.up hb
    replace Vc : Hid (VL v1 f k g (F) 9) := Vc.out.up hb
    replace HX : Hid (Below w.heap.size w v1) := below_step HX.out hb
    clear j hv hb
    have j := VL.or HC.out Vb.out Va.out (by decide)
    go_wp2_with fail
    refine j.mono ?_
    rintro e v2 ⟨x_ba, n_ba, c_ba, rfl, hv, hb⟩
    have Vba : Hid (VL v2 x_ba n_ba c_ba (leastL (B ++ A)) 18) := hv
    replace Va : Hid (VL v2 a n c (A) 9) := Va.out.up hb
    replace Vb : Hid (VL v2 b m d (B) 9) := Vb.out.up hb
    replace Vc : Hid (VL v2 f k g (F) 9) := Vc.out.up hb
    replace Vab : Hid (VL v2 x_ab n_ab c_ab (leastL (A ++ B)) 18) := Vab.out.up hb
    replace HX : Hid (Below w.heap.size w v2) := below_step HX.out hb
    clear j hv hb
    have j := VL.or HC.out Vab.out Vc.out (by decide)
    go_wp2_with fail
    refine j.mono ?_
    rintro e v3 ⟨x_x, n_x, c_x, rfl, hv, hb⟩
    have Vx : Hid (VL v3 x_x n_x c_x (leastL (leastL (A ++ B) ++ F)) 27) := hv
    replace Va : Hid (VL v3 a n c (A) 9) := Va.out.up hb
    replace Vb : Hid (VL v3 b m d (B) 9) := Vb.out.up hb
    replace Vc : Hid (VL v3 f k g (F) 9) := Vc.out.up hb
    replace Vab : Hid (VL v3 x_ab n_ab c_ab (leastL (A ++ B)) 18) := Vab.out.up hb
    replace Vba : Hid (VL v3 x_ba n_ba c_ba (leastL (B ++ A)) 18) := Vba.out.up hb
    replace HX : Hid (Below w.heap.size w v3) := below_step HX.out hb
    clear j hv hb
    have j := VL.or HC.out Vb.out Vc.out (by decide)
    go_wp2_with fail
    refine j.mono ?_
    rintro e v4 ⟨x_bc, n_bc, c_bc, rfl, hv, hb⟩
    have Vbc : Hid (VL v4 x_bc n_bc c_bc (leastL (B ++ F)) 18) := hv
    replace Va : Hid (VL v4 a n c (A) 9) := Va.out.up hb
    replace Vb : Hid (VL v4 b m d (B) 9) := Vb.out.up hb
    replace Vc : Hid (VL v4 f k g (F) 9) := Vc.out.up hb
    replace Vab : Hid (VL v4 x_ab n_ab c_ab (leastL (A ++ B)) 18) := Vab.out.up hb
    replace Vba : Hid (VL v4 x_ba n_ba c_ba (leastL (B ++ A)) 18) := Vba.out.up hb
    replace Vx : Hid (VL v4 x_x n_x c_x (leastL (leastL (A ++ B) ++ F)) 27) := Vx.out.up hb
    replace HX : Hid (Below w.heap.size w v4) := below_step HX.out hb
    clear j hv hb
    have j := VL.or HC.out Va.out Vbc.out (by decide)
    go_wp2_with fail
    refine j.mono ?_
    rintro e v5 ⟨x_y, n_y, c_y, rfl, hv, hb⟩
    have Vy : Hid (VL v5 x_y n_y c_y (leastL (A ++ leastL (B ++ F))) 27) := hv
    replace Va : Hid (VL v5 a n c (A) 9) := Va.out.up hb
    replace Vb : Hid (VL v5 b m d (B) 9) := Vb.out.up hb
    replace Vc : Hid (VL v5 f k g (F) 9) := Vc.out.up hb
    replace Vab : Hid (VL v5 x_ab n_ab c_ab (leastL (A ++ B)) 18) := Vab.out.up hb
    replace Vba : Hid (VL v5 x_ba n_ba c_ba (leastL (B ++ A)) 18) := Vba.out.up hb
    replace Vx : Hid (VL v5 x_x n_x c_x (leastL (leastL (A ++ B) ++ F)) 27) := Vx.out.up hb
    replace Vbc : Hid (VL v5 x_bc n_bc c_bc (leastL (B ++ F)) 18) := Vbc.out.up hb
    replace HX : Hid (Below w.heap.size w v5) := below_step HX.out hb
    clear j hv hb
    have j := VL.same HC.out Vab.out Vba.out (ring_or _ _)
    go_wp2_with fail
    refine j.mono ?_
    rintro e v6 ⟨rfl, hb⟩
    replace Va : Hid (VL v6 a n c (A) 9) := Va.out.up hb
    replace Vb : Hid (VL v6 b m d (B) 9) := Vb.out.up hb
    replace Vc : Hid (VL v6 f k g (F) 9) := Vc.out.up hb
    replace Vab : Hid (VL v6 x_ab n_ab c_ab (leastL (A ++ B)) 18) := Vab.out.up hb
    replace Vba : Hid (VL v6 x_ba n_ba c_ba (leastL (B ++ A)) 18) := Vba.out.up hb
    replace Vx : Hid (VL v6 x_x n_x c_x (leastL (leastL (A ++ B) ++ F)) 27) := Vx.out.up hb
    replace Vbc : Hid (VL v6 x_bc n_bc c_bc (leastL (B ++ F)) 18) := Vbc.out.up hb
    replace Vy : Hid (VL v6 x_y n_y c_y (leastL (A ++ leastL (B ++ F))) 27) := Vy.out.up hb
    replace HX : Hid (Below w.heap.size w v6) := below_step HX.out hb
    clear j hb
    have j := VL.same HC.out Vx.out Vy.out (ring_or3 _ _ _)
    go_wp2_with fail
    refine j.mono ?_
    rintro e v7 ⟨rfl, hb⟩
    replace Va : Hid (VL v7 a n c (A) 9) := Va.out.up hb
    replace Vb : Hid (VL v7 b m d (B) 9) := Vb.out.up hb
    replace Vc : Hid (VL v7 f k g (F) 9) := Vc.out.up hb
    replace Vab : Hid (VL v7 x_ab n_ab c_ab (leastL (A ++ B)) 18) := Vab.out.up hb
    replace Vba : Hid (VL v7 x_ba n_ba c_ba (leastL (B ++ A)) 18) := Vba.out.up hb
    replace Vx : Hid (VL v7 x_x n_x c_x (leastL (leastL (A ++ B) ++ F)) 27) := Vx.out.up hb
    replace Vbc : Hid (VL v7 x_bc n_bc c_bc (leastL (B ++ F)) 18) := Vbc.out.up hb
    replace Vy : Hid (VL v7 x_y n_y c_y (leastL (A ++ leastL (B ++ F))) 27) := Vy.out.up hb
    replace HX : Hid (Below w.heap.size w v7) := below_step HX.out hb
    clear j hb
    clear Vab
    clear Vba
    clear Vx
    clear Vy
    have j := VL.and HC.out Va.out Vb.out (by decide) (by decide) (by decide)
    go_wp2_with fail
    refine j.mono ?_
    rintro e v8 ⟨x_p, n_p, c_p, rfl, hv, hb⟩
    have Vp : Hid (VL v8 x_p n_p c_p (leastL (uniL (A) (B))) 81) := hv
    replace Va : Hid (VL v8 a n c (A) 9) := Va.out.up hb
    replace Vb : Hid (VL v8 b m d (B) 9) := Vb.out.up hb
    replace Vc : Hid (VL v8 f k g (F) 9) := Vc.out.up hb
    replace Vbc : Hid (VL v8 x_bc n_bc c_bc (leastL (B ++ F)) 18) := Vbc.out.up hb
    replace HX : Hid (Below w.heap.size w v8) := below_step HX.out hb
    clear j hv hb
    have j := VL.and HC.out Vb.out Va.out (by decide) (by decide) (by decide)
    go_wp2_with fail
    refine j.mono ?_
    rintro e v9 ⟨x_q, n_q, c_q, rfl, hv, hb⟩
    have Vq : Hid (VL v9 x_q n_q c_q (leastL (uniL (B) (A))) 81) := hv
    replace Va : Hid (VL v9 a n c (A) 9) := Va.out.up hb
    replace Vb : Hid (VL v9 b m d (B) 9) := Vb.out.up hb
    replace Vc : Hid (VL v9 f k g (F) 9) := Vc.out.up hb
    replace Vbc : Hid (VL v9 x_bc n_bc c_bc (leastL (B ++ F)) 18) := Vbc.out.up hb
    replace Vp : Hid (VL v9 x_p n_p c_p (leastL (uniL (A) (B))) 81) := Vp.out.up hb
    replace HX : Hid (Below w.heap.size w v9) := below_step HX.out hb
    clear j hv hb
    have j := VL.and HC.out Va.out Vc.out (by decide) (by decide) (by decide)
    go_wp2_with fail
    refine j.mono ?_
    rintro e v10 ⟨x_r, n_r, c_r, rfl, hv, hb⟩
    have Vr : Hid (VL v10 x_r n_r c_r (leastL (uniL (A) (F))) 81) := hv
    replace Va : Hid (VL v10 a n c (A) 9) := Va.out.up hb
    replace Vb : Hid (VL v10 b m d (B) 9) := Vb.out.up hb
    replace Vc : Hid (VL v10 f k g (F) 9) := Vc.out.up hb
    replace Vbc : Hid (VL v10 x_bc n_bc c_bc (leastL (B ++ F)) 18) := Vbc.out.up hb
    replace Vp : Hid (VL v10 x_p n_p c_p (leastL (uniL (A) (B))) 81) := Vp.out.up hb
    replace Vq : Hid (VL v10 x_q n_q c_q (leastL (uniL (B) (A))) 81) := Vq.out.up hb
    replace HX : Hid (Below w.heap.size w v10) := below_step HX.out hb
    clear j hv hb
    have j := VL.and HC.out Va.out Vbc.out (by decide) (by decide) (by decide)
    go_wp2_with fail
    refine j.mono ?_
    rintro e v11 ⟨x_s, n_s, c_s, rfl, hv, hb⟩
    have Vs : Hid (VL v11 x_s n_s c_s (leastL (uniL (A) (leastL (B ++ F)))) 162) := hv
    replace Va : Hid (VL v11 a n c (A) 9) := Va.out.up hb
    replace Vb : Hid (VL v11 b m d (B) 9) := Vb.out.up hb
    replace Vc : Hid (VL v11 f k g (F) 9) := Vc.out.up hb
    replace Vbc : Hid (VL v11 x_bc n_bc c_bc (leastL (B ++ F)) 18) := Vbc.out.up hb
    replace Vp : Hid (VL v11 x_p n_p c_p (leastL (uniL (A) (B))) 81) := Vp.out.up hb
    replace Vq : Hid (VL v11 x_q n_q c_q (leastL (uniL (B) (A))) 81) := Vq.out.up hb
    replace Vr : Hid (VL v11 x_r n_r c_r (leastL (uniL (A) (F))) 81) := Vr.out.up hb
    replace HX : Hid (Below w.heap.size w v11) := below_step HX.out hb
    clear j hv hb
    have j := VL.or HC.out Vp.out Vr.out (by decide)
    go_wp2_with fail
    refine j.mono ?_
    rintro e v12 ⟨x_t, n_t, c_t, rfl, hv, hb⟩
    have Vt : Hid (VL v12 x_t n_t c_t (leastL (leastL (uniL (A) (B)) ++ leastL (uniL (A) (F)))) 162) := hv
    replace Va : Hid (VL v12 a n c (A) 9) := Va.out.up hb
    replace Vb : Hid (VL v12 b m d (B) 9) := Vb.out.up hb
    replace Vc : Hid (VL v12 f k g (F) 9) := Vc.out.up hb
    replace Vbc : Hid (VL v12 x_bc n_bc c_bc (leastL (B ++ F)) 18) := Vbc.out.up hb
    replace Vp : Hid (VL v12 x_p n_p c_p (leastL (uniL (A) (B))) 81) := Vp.out.up hb
    replace Vq : Hid (VL v12 x_q n_q c_q (leastL (uniL (B) (A))) 81) := Vq.out.up hb
    replace Vr : Hid (VL v12 x_r n_r c_r (leastL (uniL (A) (F))) 81) := Vr.out.up hb
    replace Vs : Hid (VL v12 x_s n_s c_s (leastL (uniL (A) (leastL (B ++ F)))) 162) := Vs.out.up hb
    replace HX : Hid (Below w.heap.size w v12) := below_step HX.out hb
    clear j hv hb
    have j := VL.same HC.out Vp.out Vq.out (ring_and _ _)
    go_wp2_with fail
    refine j.mono ?_
    rintro e v13 ⟨rfl, hb⟩
    replace Va : Hid (VL v13 a n c (A) 9) := Va.out.up hb
    replace Vb : Hid (VL v13 b m d (B) 9) := Vb.out.up hb
    replace Vc : Hid (VL v13 f k g (F) 9) := Vc.out.up hb
    replace Vbc : Hid (VL v13 x_bc n_bc c_bc (leastL (B ++ F)) 18) := Vbc.out.up hb
    replace Vp : Hid (VL v13 x_p n_p c_p (leastL (uniL (A) (B))) 81) := Vp.out.up hb
    replace Vq : Hid (VL v13 x_q n_q c_q (leastL (uniL (B) (A))) 81) := Vq.out.up hb
    replace Vr : Hid (VL v13 x_r n_r c_r (leastL (uniL (A) (F))) 81) := Vr.out.up hb
    replace Vs : Hid (VL v13 x_s n_s c_s (leastL (uniL (A) (leastL (B ++ F)))) 162) := Vs.out.up hb
    replace Vt : Hid (VL v13 x_t n_t c_t (leastL (leastL (uniL (A) (B)) ++ leastL (uniL (A) (F)))) 162) := Vt.out.up hb
    replace HX : Hid (Below w.heap.size w v13) := below_step HX.out hb
    clear j hb
    have j := VL.same HC.out Vs.out Vt.out (ring_dist _ _ _)
    go_wp2_with fail
    refine j.mono ?_
    rintro e v14 ⟨rfl, hb⟩
    replace Va : Hid (VL v14 a n c (A) 9) := Va.out.up hb
    replace Vb : Hid (VL v14 b m d (B) 9) := Vb.out.up hb
    replace Vc : Hid (VL v14 f k g (F) 9) := Vc.out.up hb
    replace Vbc : Hid (VL v14 x_bc n_bc c_bc (leastL (B ++ F)) 18) := Vbc.out.up hb
    replace Vp : Hid (VL v14 x_p n_p c_p (leastL (uniL (A) (B))) 81) := Vp.out.up hb
    replace Vq : Hid (VL v14 x_q n_q c_q (leastL (uniL (B) (A))) 81) := Vq.out.up hb
    replace Vr : Hid (VL v14 x_r n_r c_r (leastL (uniL (A) (F))) 81) := Vr.out.up hb
    replace Vs : Hid (VL v14 x_s n_s c_s (leastL (uniL (A) (leastL (B ++ F)))) 162) := Vs.out.up hb
    replace Vt : Hid (VL v14 x_t n_t c_t (leastL (leastL (uniL (A) (B)) ++ leastL (uniL (A) (F)))) 162) := Vt.out.up hb
    replace HX : Hid (Below w.heap.size w v14) := below_step HX.out hb
    clear j hb
    clear Vq
    clear Vr
    clear Vs
    clear Vt
    clear Vbc
    have j := VL.and HC.out Vp.out Vc.out (by decide) (by decide) (by decide)
    go_wp2_with fail
    refine j.mono ?_
    rintro e v15 ⟨x_u, n_u, c_u, rfl, hv, hb⟩
    have Vu : Hid (VL v15 x_u n_u c_u (leastL (uniL (leastL (uniL (A) (B))) (F))) 729) := hv
    replace Va : Hid (VL v15 a n c (A) 9) := Va.out.up hb
    replace Vb : Hid (VL v15 b m d (B) 9) := Vb.out.up hb
    replace Vc : Hid (VL v15 f k g (F) 9) := Vc.out.up hb
    replace Vp : Hid (VL v15 x_p n_p c_p (leastL (uniL (A) (B))) 81) := Vp.out.up hb
    replace HX : Hid (Below w.heap.size w v15) := below_step HX.out hb
    clear j hv hb
    have j := VL.and HC.out Vb.out Vc.out (by decide) (by decide) (by decide)
    go_wp2_with fail
    refine j.mono ?_
    rintro e v16 ⟨x_v, n_v, c_v, rfl, hv, hb⟩
    have Vv : Hid (VL v16 x_v n_v c_v (leastL (uniL (B) (F))) 81) := hv
    replace Va : Hid (VL v16 a n c (A) 9) := Va.out.up hb
    replace Vb : Hid (VL v16 b m d (B) 9) := Vb.out.up hb
    replace Vc : Hid (VL v16 f k g (F) 9) := Vc.out.up hb
    replace Vp : Hid (VL v16 x_p n_p c_p (leastL (uniL (A) (B))) 81) := Vp.out.up hb
    replace Vu : Hid (VL v16 x_u n_u c_u (leastL (uniL (leastL (uniL (A) (B))) (F))) 729) := Vu.out.up hb
    replace HX : Hid (Below w.heap.size w v16) := below_step HX.out hb
    clear j hv hb
    have j := VL.and HC.out Va.out Vv.out (by decide) (by decide) (by decide)
    go_wp2_with fail
    refine j.mono ?_
    rintro e v17 ⟨x_w, n_w, c_w, rfl, hv, hb⟩
    have Vw : Hid (VL v17 x_w n_w c_w (leastL (uniL (A) (leastL (uniL (B) (F))))) 729) := hv
    replace Va : Hid (VL v17 a n c (A) 9) := Va.out.up hb
    replace Vb : Hid (VL v17 b m d (B) 9) := Vb.out.up hb
    replace Vc : Hid (VL v17 f k g (F) 9) := Vc.out.up hb
    replace Vp : Hid (VL v17 x_p n_p c_p (leastL (uniL (A) (B))) 81) := Vp.out.up hb
    replace Vu : Hid (VL v17 x_u n_u c_u (leastL (uniL (leastL (uniL (A) (B))) (F))) 729) := Vu.out.up hb
    replace Vv : Hid (VL v17 x_v n_v c_v (leastL (uniL (B) (F))) 81) := Vv.out.up hb
    replace HX : Hid (Below w.heap.size w v17) := below_step HX.out hb
    clear j hv hb
    have j := v_true HC.out v17
    go_wp2_with fail
    refine j.mono ?_
    rintro e v18 ⟨x_tr, n_tr, c_tr, rfl, hv, hb⟩
    have Vtr : Hid (VL v18 x_tr n_tr c_tr [0] 1) := hv
    replace Va : Hid (VL v18 a n c (A) 9) := Va.out.up hb
    replace Vb : Hid (VL v18 b m d (B) 9) := Vb.out.up hb
    replace Vc : Hid (VL v18 f k g (F) 9) := Vc.out.up hb
    replace Vp : Hid (VL v18 x_p n_p c_p (leastL (uniL (A) (B))) 81) := Vp.out.up hb
    replace Vu : Hid (VL v18 x_u n_u c_u (leastL (uniL (leastL (uniL (A) (B))) (F))) 729) := Vu.out.up hb
    replace Vv : Hid (VL v18 x_v n_v c_v (leastL (uniL (B) (F))) 81) := Vv.out.up hb
    replace Vw : Hid (VL v18 x_w n_w c_w (leastL (uniL (A) (leastL (uniL (B) (F))))) 729) := Vw.out.up hb
    replace HX : Hid (Below w.heap.size w v18) := below_step HX.out hb
    clear j hv hb
    have j := VL.and HC.out Va.out Vtr.out (by decide) (by decide) (by decide)
    go_wp2_with fail
    refine j.mono ?_
    rintro e v19 ⟨x_one, n_one, c_one, rfl, hv, hb⟩
    have Vone : Hid (VL v19 x_one n_one c_one (leastL (uniL (A) ([0]))) 9) := hv
    replace Va : Hid (VL v19 a n c (A) 9) := Va.out.up hb
    replace Vb : Hid (VL v19 b m d (B) 9) := Vb.out.up hb
    replace Vc : Hid (VL v19 f k g (F) 9) := Vc.out.up hb
    replace Vp : Hid (VL v19 x_p n_p c_p (leastL (uniL (A) (B))) 81) := Vp.out.up hb
    replace Vu : Hid (VL v19 x_u n_u c_u (leastL (uniL (leastL (uniL (A) (B))) (F))) 729) := Vu.out.up hb
    replace Vv : Hid (VL v19 x_v n_v c_v (leastL (uniL (B) (F))) 81) := Vv.out.up hb
    replace Vw : Hid (VL v19 x_w n_w c_w (leastL (uniL (A) (leastL (uniL (B) (F))))) 729) := Vw.out.up hb
    replace Vtr : Hid (VL v19 x_tr n_tr c_tr ([0]) 1) := Vtr.out.up hb
    replace HX : Hid (Below w.heap.size w v19) := below_step HX.out hb
    clear j hv hb
    have j := VL.or HC.out (v_nil v19) Va.out (by decide)
    go_wp2_with fail
    refine j.mono ?_
    rintro e v20 ⟨x_none, n_none, c_none, rfl, hv, hb⟩
    have Vnone : Hid (VL v20 x_none n_none c_none (leastL ([] ++ A)) 9) := hv
    replace Va : Hid (VL v20 a n c (A) 9) := Va.out.up hb
    replace Vb : Hid (VL v20 b m d (B) 9) := Vb.out.up hb
    replace Vc : Hid (VL v20 f k g (F) 9) := Vc.out.up hb
    replace Vp : Hid (VL v20 x_p n_p c_p (leastL (uniL (A) (B))) 81) := Vp.out.up hb
    replace Vu : Hid (VL v20 x_u n_u c_u (leastL (uniL (leastL (uniL (A) (B))) (F))) 729) := Vu.out.up hb
    replace Vv : Hid (VL v20 x_v n_v c_v (leastL (uniL (B) (F))) 81) := Vv.out.up hb
    replace Vw : Hid (VL v20 x_w n_w c_w (leastL (uniL (A) (leastL (uniL (B) (F))))) 729) := Vw.out.up hb
    replace Vtr : Hid (VL v20 x_tr n_tr c_tr ([0]) 1) := Vtr.out.up hb
    replace Vone : Hid (VL v20 x_one n_one c_one (leastL (uniL (A) ([0]))) 9) := Vone.out.up hb
    replace HX : Hid (Below w.heap.size w v20) := below_step HX.out hb
    clear j hv hb
    have j := VL.and HC.out Va.out (v_nil v20) (by decide) (by decide) (by decide)
    go_wp2_with fail
    refine j.mono ?_
    rintro e v21 ⟨x_zero, n_zero, c_zero, rfl, hv, hb⟩
    have Vzero : Hid (VL v21 x_zero n_zero c_zero (leastL (uniL (A) ([]))) 0) := hv
    replace Va : Hid (VL v21 a n c (A) 9) := Va.out.up hb
    replace Vb : Hid (VL v21 b m d (B) 9) := Vb.out.up hb
    replace Vc : Hid (VL v21 f k g (F) 9) := Vc.out.up hb
    replace Vp : Hid (VL v21 x_p n_p c_p (leastL (uniL (A) (B))) 81) := Vp.out.up hb
    replace Vu : Hid (VL v21 x_u n_u c_u (leastL (uniL (leastL (uniL (A) (B))) (F))) 729) := Vu.out.up hb
    replace Vv : Hid (VL v21 x_v n_v c_v (leastL (uniL (B) (F))) 81) := Vv.out.up hb
    replace Vw : Hid (VL v21 x_w n_w c_w (leastL (uniL (A) (leastL (uniL (B) (F))))) 729) := Vw.out.up hb
    replace Vtr : Hid (VL v21 x_tr n_tr c_tr ([0]) 1) := Vtr.out.up hb
    replace Vone : Hid (VL v21 x_one n_one c_one (leastL (uniL (A) ([0]))) 9) := Vone.out.up hb
    replace Vnone : Hid (VL v21 x_none n_none c_none (leastL ([] ++ A)) 9) := Vnone.out.up hb
    replace HX : Hid (Below w.heap.size w v21) := below_step HX.out hb
    clear j hv hb
    obtain rfl : n_zero = 0 := Nat.le_zero.1 Vzero.out.le
    have j := VL.least HC.out Va.out (by decide)
    go_wp2_with fail
    refine j.mono ?_
    rintro e v22 ⟨x_l, n_l, c_l, rfl, hv, hb⟩
    have Vl : Hid (VL v22 x_l n_l c_l (leastL A) 9) := hv
    replace Va : Hid (VL v22 a n c (A) 9) := Va.out.up hb
    replace Vb : Hid (VL v22 b m d (B) 9) := Vb.out.up hb
    replace Vc : Hid (VL v22 f k g (F) 9) := Vc.out.up hb
    replace Vp : Hid (VL v22 x_p n_p c_p (leastL (uniL (A) (B))) 81) := Vp.out.up hb
    replace Vu : Hid (VL v22 x_u n_u c_u (leastL (uniL (leastL (uniL (A) (B))) (F))) 729) := Vu.out.up hb
    replace Vv : Hid (VL v22 x_v n_v c_v (leastL (uniL (B) (F))) 81) := Vv.out.up hb
    replace Vw : Hid (VL v22 x_w n_w c_w (leastL (uniL (A) (leastL (uniL (B) (F))))) 729) := Vw.out.up hb
    replace Vtr : Hid (VL v22 x_tr n_tr c_tr ([0]) 1) := Vtr.out.up hb
    replace Vone : Hid (VL v22 x_one n_one c_one (leastL (uniL (A) ([0]))) 9) := Vone.out.up hb
    replace Vnone : Hid (VL v22 x_none n_none c_none (leastL ([] ++ A)) 9) := Vnone.out.up hb
    replace Vzero : Hid (VL v22 x_zero 0 c_zero (leastL (uniL (A) ([]))) 0) := Vzero.out.up hb
    replace HX : Hid (Below w.heap.size w v22) := below_step HX.out hb
    clear j hv hb
    have j := VL.same HC.out Vu.out Vw.out (ring_and3 _ _ _)
    go_wp2_with fail
    refine j.mono ?_
    rintro e v23 ⟨rfl, hb⟩
    replace Va : Hid (VL v23 a n c (A) 9) := Va.out.up hb
    replace Vb : Hid (VL v23 b m d (B) 9) := Vb.out.up hb
    replace Vc : Hid (VL v23 f k g (F) 9) := Vc.out.up hb
    replace Vp : Hid (VL v23 x_p n_p c_p (leastL (uniL (A) (B))) 81) := Vp.out.up hb
    replace Vu : Hid (VL v23 x_u n_u c_u (leastL (uniL (leastL (uniL (A) (B))) (F))) 729) := Vu.out.up hb
    replace Vv : Hid (VL v23 x_v n_v c_v (leastL (uniL (B) (F))) 81) := Vv.out.up hb
    replace Vw : Hid (VL v23 x_w n_w c_w (leastL (uniL (A) (leastL (uniL (B) (F))))) 729) := Vw.out.up hb
    replace Vtr : Hid (VL v23 x_tr n_tr c_tr ([0]) 1) := Vtr.out.up hb
    replace Vone : Hid (VL v23 x_one n_one c_one (leastL (uniL (A) ([0]))) 9) := Vone.out.up hb
    replace Vnone : Hid (VL v23 x_none n_none c_none (leastL ([] ++ A)) 9) := Vnone.out.up hb
    replace Vzero : Hid (VL v23 x_zero 0 c_zero (leastL (uniL (A) ([]))) 0) := Vzero.out.up hb
    replace Vl : Hid (VL v23 x_l n_l c_l (leastL A) 9) := Vl.out.up hb
    replace HX : Hid (Below w.heap.size w v23) := below_step HX.out hb
    clear j hb
    have j := VL.same HC.out Vone.out Vl.out (ring_true _)
    go_wp2_with fail
    refine j.mono ?_
    rintro e v24 ⟨rfl, hb⟩
    replace Va : Hid (VL v24 a n c (A) 9) := Va.out.up hb
    replace Vb : Hid (VL v24 b m d (B) 9) := Vb.out.up hb
    replace Vc : Hid (VL v24 f k g (F) 9) := Vc.out.up hb
    replace Vp : Hid (VL v24 x_p n_p c_p (leastL (uniL (A) (B))) 81) := Vp.out.up hb
    replace Vu : Hid (VL v24 x_u n_u c_u (leastL (uniL (leastL (uniL (A) (B))) (F))) 729) := Vu.out.up hb
    replace Vv : Hid (VL v24 x_v n_v c_v (leastL (uniL (B) (F))) 81) := Vv.out.up hb
    replace Vw : Hid (VL v24 x_w n_w c_w (leastL (uniL (A) (leastL (uniL (B) (F))))) 729) := Vw.out.up hb
    replace Vtr : Hid (VL v24 x_tr n_tr c_tr ([0]) 1) := Vtr.out.up hb
    replace Vone : Hid (VL v24 x_one n_one c_one (leastL (uniL (A) ([0]))) 9) := Vone.out.up hb
    replace Vnone : Hid (VL v24 x_none n_none c_none (leastL ([] ++ A)) 9) := Vnone.out.up hb
    replace Vzero : Hid (VL v24 x_zero 0 c_zero (leastL (uniL (A) ([]))) 0) := Vzero.out.up hb
    replace Vl : Hid (VL v24 x_l n_l c_l (leastL A) 9) := Vl.out.up hb
    replace HX : Hid (Below w.heap.size w v24) := below_step HX.out hb
    clear j hb
    have j := VL.same HC.out Vnone.out Vl.out (rfl)
    go_wp2_with fail
    refine j.mono ?_
    rintro e v25 ⟨rfl, hb⟩
    replace Va : Hid (VL v25 a n c (A) 9) := Va.out.up hb
    replace Vb : Hid (VL v25 b m d (B) 9) := Vb.out.up hb
    replace Vc : Hid (VL v25 f k g (F) 9) := Vc.out.up hb
    replace Vp : Hid (VL v25 x_p n_p c_p (leastL (uniL (A) (B))) 81) := Vp.out.up hb
    replace Vu : Hid (VL v25 x_u n_u c_u (leastL (uniL (leastL (uniL (A) (B))) (F))) 729) := Vu.out.up hb
    replace Vv : Hid (VL v25 x_v n_v c_v (leastL (uniL (B) (F))) 81) := Vv.out.up hb
    replace Vw : Hid (VL v25 x_w n_w c_w (leastL (uniL (A) (leastL (uniL (B) (F))))) 729) := Vw.out.up hb
    replace Vtr : Hid (VL v25 x_tr n_tr c_tr ([0]) 1) := Vtr.out.up hb
    replace Vone : Hid (VL v25 x_one n_one c_one (leastL (uniL (A) ([0]))) 9) := Vone.out.up hb
    replace Vnone : Hid (VL v25 x_none n_none c_none (leastL ([] ++ A)) 9) := Vnone.out.up hb
    replace Vzero : Hid (VL v25 x_zero 0 c_zero (leastL (uniL (A) ([]))) 0) := Vzero.out.up hb
    replace Vl : Hid (VL v25 x_l n_l c_l (leastL A) 9) := Vl.out.up hb
    replace HX : Hid (Below w.heap.size w v25) := below_step HX.out hb
    clear j hb
    go_wp2_with fail
    go_ret
    exact ⟨rfl, HX.out⟩
end Go.Proofs.Ytllcjmaecgfijaa
