/- Stage 9: TableKnown. -/
import Derived.Test.YtbfhbpibpmgblaaWTb2
import Derived.Test.YtbfhbpibpmgblaaKtS
namespace Go.Proofs.Ytbfhbpibpmgblaa
open Go.RowKit Go.Maps

/-- What is asked besides: Text of no item, Below. -/
structure TabC2 (Tab : TabP) : Prop where
  miss : ∀ {w F t items} (i : Int), Tab w F t items → (i < 0 ∨ (items.length : Int) ≤ i) → Calls Try.prog 18 #[tbV t, .int .i64 i] w fun e w' => ∃ a l c F', e = .returned (.tuple #[.slice a l c, .int .i64 6]) ∧ Tab w' F' t items ∧ Fr w w' F F'
  below : ∀ {w F t items} (n : Nat), Tab w F t items → n < items.length → Calls Try.prog 21 #[tbV t, .int .i64 (n : Int)] w fun e w' => ∃ a cap F', e = .returned (.tuple #[.slice a (belowL items n).length cap, .int .i64 0]) ∧ IntSl Try.prog 41 .i64 w' a (belowL items n).length cap (belowL items n) ∧ (∀ k, k < (belowL items n).length → ¬ F' (adOf a k).block) ∧ Tab w' F' t items ∧ Fr w w' F F'
theorem Fr.ints {w w' : World} {F F' : Nat → Prop} (h : Fr w w' F F') {T : TypeId} {a : Option Addr} {len cap : Nat} {zs : List Int} (hS : IntSl Try.prog T .i64 w a len cap zs) (hf : ∀ k, k < len → ¬ F (adOf a k).block) : IntSl Try.prog T .i64 w' a len cap zs :=
  ⟨hS.hlen, hS.hcap, hS.bd, hS.idx, fun k hk => by
    have h1 := hS.cell k hk
    have h2 := h.keep _ (hS.blk k hk) (hf k hk)
    unfold World.cell? at h1 ⊢
    rw [h2]; exact h1, fun k hk => Nat.lt_of_lt_of_le (hS.blk k hk) h.size, hS.nn⟩
/-- The table and the two tokens in their variables. -/
structure TK (Tab : TabP) (w wr : World) (t b0 : Nat) (items : List It) (F : Nat → Prop) : Prop where
  tab : Tab wr F t items
  ge : ∀ k, F k → w.heap.size ≤ k
  n0 : ¬ F b0
  n1 : ¬ F (b0 + 1)
  r0 : wr.heap[b0]? = some (.cells #[.int .u8 2, .int .u8 0] 61 (0, 0))
  r1 : wr.heap[b0 + 1]? = some (.cells #[.int .u8 2, .int .u8 1] 61 (0, 0))
  bel : Below w.heap.size w wr
theorem TK.fr {Tab : TabP} {w wr w' : World} {t b0 : Nat} {items items' : List It} {F F' : Nat → Prop} (h : TK Tab w wr t b0 items F) (hT : Tab w' F' t items') (fr : Fr wr w' F F') : TK Tab w w' t b0 items' F' := by
  have l0 := (Array.getElem?_eq_some_iff.1 h.r0).1
  have l1 := (Array.getElem?_eq_some_iff.1 h.r1).1
  exact ⟨hT, fr.ge h.ge h.bel.size, fr.out h.n0 l0, fr.out h.n1 l1, (fr.keep _ l0 h.n0).trans h.r0, (fr.keep _ l1 h.n1).trans h.r1, h.bel.trans (fr.below h.ge h.bel.size)⟩
theorem TK.up {Tab : TabP} (C : TabC Tab) {w wr w' : World} {t b0 : Nat} {items : List It} {F : Nat → Prop} (h : TK Tab w wr t b0 items F) (hb : Below wr.heap.size wr w') : TK Tab w w' t b0 items F := by
  have l0 := (Array.getElem?_eq_some_iff.1 h.r0).1
  have l1 := (Array.getElem?_eq_some_iff.1 h.r1).1
  exact ⟨C.up h.tab hb, h.ge, h.n0, h.n1, (hb.block _ l0).trans h.r0, (hb.block _ l1).trans h.r1, below_step h.bel hb⟩
theorem TK.c0 {Tab : TabP} {w wr : World} {t b0 : Nat} {items : List It} {F : Nat → Prop} (h : TK Tab w wr t b0 items F) : wr.cell? ⟨b0, 0, none⟩ = some (.int .u8 2) ∧ wr.cell? ⟨b0, 1, none⟩ = some (.int .u8 0) ∧ wr.cell? ⟨b0 + 1, 0, none⟩ = some (.int .u8 2) ∧ wr.cell? ⟨b0 + 1, 1, none⟩ = some (.int .u8 1) := ⟨cell_row h.r0 0, cell_row h.r0 1, cell_row h.r1 0, cell_row h.r1 1⟩
/-- A row that was laid just now is none of the table's. -/
theorem TK.row {Tab : TabP} (C : TabC Tab) {w wr : World} {t b0 : Nat} {items : List It} {F : Nat → Prop} (h : TK Tab w wr t b0 items F) {n : Nat} : 0 < n → ∀ x : Addr, (some ⟨wr.heap.size, 0, none⟩ : Option Addr) = some x → ¬ F x.block := fun _ x hx hf => by
  injection hx with hx
  subst hx
  have := C.lt h.tab _ hf
  dsimp only at this
  omega
theorem int_row (w : World) : IntSl Try.prog 41 .i64 (w.alloc (.cells #[.int .i64 0, .int .i64 1, .int .i64 3] 3)) (some ⟨w.heap.size, 0, none⟩) 3 3 [0, 1, 3] := by
  have hr := (MapKept.heap_alloc w (.cells #[.int .i64 0, .int .i64 1, .int .i64 3] 3)).1
  have had : ∀ k, adOf (some ⟨w.heap.size, 0, none⟩) k = ⟨w.heap.size, k, none⟩ := fun k => by simp [adOf, add_plain]
  refine ⟨rfl, Nat.le_refl _, by unfold maxLen; omega, fun m k w' hk hm => idx_of Try.underlying41 (by kernel_rfl) (fun e => by cases e) k w' hk, fun k hk => ?_, fun k hk => ?_, fun e => by cases e⟩
  · rw [had, cell_row hr]
    match k, hk with
    | 0, _ => rfl
    | 1, _ => rfl
    | 2, _ => rfl
  · rw [had]; simp
def it7 : List It := it4 ++ [⟨19, 0, 0, -1⟩, ⟨23, 0, 4, -1⟩, ⟨17, 0, 5, 1⟩]
theorem kn3 : kI it4 [(2, 0), (19, 0), (23, 0), (2, 1), (17, 0)] = it7 ∧ kN it4 [(2, 0), (19, 0), (23, 0), (2, 1), (17, 0)] = 6 := ⟨by decide +kernel, by decide +kernel⟩
theorem kn_dia : chkE [(2, 0), (19, 0), (23, 0), (2, 1), (17, 0)] = 0 := chk_zero.2 ⟨by decide, .bin (17, 0) (.un (23, 0) (.un (19, 0) (.leaf (2, 0)))) (.leaf (2, 1)), ⟨rfl, rfl, ⟨rfl, rfl, rfl, rfl, rfl, rfl⟩, rfl, rfl⟩, rfl, rfl, rfl⟩
theorem kn_p (p : Nat) (hp : p ≤ 7) : chkE [(2, p)] = 0 := chk_zero.2 ⟨by simp, .leaf (2, p), ⟨takes_prop hp, rfl⟩, rfl, rfl, rfl⟩
theorem kn_f : chkE [(2, 0), (9, 0)] = 7 := by
  have hn : ¬ IsKer [(2, 0), (9, 0)] := fun h => by
    have := ((isKer_iff _).1 h).1
    revert this
    decide
  unfold chkE
  rw [if_neg (by decide), if_neg hn]
theorem kn_f1 : findB it7 [(2, 1)] = true ∧ findN it7 [(2, 1)] = 1 := by
  have h1 : kI it7 [(2, 1)] = it7 := by decide +kernel
  have h2 : kN it7 [(2, 1)] = 1 := by decide +kernel
  have h3 : findB it7 [(2, 1)] = true := by unfold findB; rw [h1, kn_p 1 (by decide)]; simp
  exact ⟨h3, by unfold findN; rw [if_pos h3, h2]⟩
theorem kn_f2 : findB it7 [(2, 2)] = false ∧ findN it7 [(2, 2)] = 0 := by
  have h1 : ¬ kI it7 [(2, 2)] = it7 := by decide +kernel
  have h3 : findB it7 [(2, 2)] = false := by unfold findB; rw [decide_eq_false h1, Bool.and_false]
  exact ⟨h3, by unfold findN; rw [h3]; rfl⟩
theorem kn_f3 : findB it7 [(2, 0), (9, 0)] = false ∧ findN it7 [(2, 0), (9, 0)] = 0 := by
  have h3 : findB it7 [(2, 0), (9, 0)] = false := by unfold findB; rw [kn_f]; rfl
  exact ⟨h3, by unfold findN; rw [h3]; rfl⟩
theorem kn_k : keepE it7 [(2, 0), (9, 0)] = 7 ∧ keepI it7 [(2, 0), (9, 0)] = it7 ∧ keepN it7 [(2, 0), (9, 0)] = 0 := by
  have h : keepE it7 [(2, 0), (9, 0)] = 7 := by unfold keepE; rw [kn_f]; rfl
  exact ⟨h, by unfold keepI; rw [h]; rfl, by unfold keepN; rw [h]; rfl⟩
theorem kn_r : Rep it7 4 (.un (19, 0) (.leaf (2, 0))) := .un (m := 0) rfl (by decide) (.leaf rfl)
theorem kn_b : belowL it7 3 = [0, 1, 3] := by decide +kernel
set_option maxRecDepth 100000 in
set_option maxHeartbeats 8000000 in
theorem Try.tknown_any {Tab : TabP} (C : TabC Tab) (C2 : TabC2 Tab) (w : World) : Calls Try.prog 6 #[] w fun e w' => e = .returned (.bool true) ∧ Below w.heap.size w w' := by
  have HC : Hid (TabC Tab) := C
  have HC2 : Hid (TabC2 Tab) := C2
  have hnew := C.new w
  unfold tbV at hnew
  clear C C2
  go_enter Try.func6, Try.ntmps6
  go_wp2_with fail
  refine hnew.mono ?_
  rintro e w1 ⟨t, F, rfl, hT1, hF1, hb1⟩
  have hbA := below_new w1 (.cells #[.int .u8 2, .int .u8 0] 61)
  have hbB := below_step hbA (below_new (w1.alloc (.cells #[.int .u8 2, .int .u8 0] 61)) (.cells #[.int .u8 2, .int .u8 1] 61))
  have hr0 := (Below.heap_alloc (w1.alloc (.cells #[.int .u8 2, .int .u8 0] 61)) (.cells #[.int .u8 2, .int .u8 1] 61) w1.heap.size (by simp)).trans (MapKept.heap_alloc w1 _).1
  have hr1 := (MapKept.heap_alloc (w1.alloc (.cells #[.int .u8 2, .int .u8 0] 61)) (.cells #[.int .u8 2, .int .u8 1] 61)).1
  rw [show (w1.alloc (.cells #[.int .u8 2, .int .u8 0] 61)).heap.size = w1.heap.size + 1 by simp] at hr1
  have hlt1 := HC.out.lt hT1
  have HK0 : Hid (TK Tab w ((w1.alloc (.cells #[.int .u8 2, .int .u8 0] 61)).alloc (.cells #[.int .u8 2, .int .u8 1] 61)) t w1.heap.size [] F) := ⟨HC.out.up hT1 hbB, hF1, fun hf => by have := hlt1 _ hf; omega, fun hf => by have := hlt1 _ hf; omega, hr0, hr1, below_step hb1 hbB⟩
  have HZ0 : Hid (((w1.alloc (.cells #[.int .u8 2, .int .u8 0] 61)).alloc (.cells #[.int .u8 2, .int .u8 1] 61)).heap.size = w1.heap.size + 2) := by show _ = _; simp
  clear hnew hT1 hF1 hb1 hbA hbB hr0 hr1 hlt1
  go_wp2_with fail
  generalize (w1.alloc (.cells #[.int .u8 2, .int .u8 0] 61)).alloc (.cells #[.int .u8 2, .int .u8 1] 61) = w2 at *
  have hz0 := HZ0.out
  have hb2 := below_new w2 (.cells #[.int .u8 2, .int .u8 0, .int .u8 2, .int .u8 1, .int .u8 11, .int .u8 0] 61)
  have KA2 := HK0.out.up HC.out hb2
  have hrow2 : TkSl (w2.alloc (.cells #[.int .u8 2, .int .u8 0, .int .u8 2, .int .u8 1, .int .u8 11, .int .u8 0] 61)) (some ⟨w2.heap.size, 0, none⟩) 3 3 [(2, 0), (2, 1), (11, 0)] := tk_row (T := [(2, 0), (2, 1), (11, 0)]) rfl (by decide) (by decide)
  have hk2 := HC.out.keep _ _ _ _ KA2.tab hrow2 (HK0.out.row HC.out)
  have k2 := keep_ok (items := []) (chk_and (p := 0) (q := 1) (by decide) (by decide)) (by rw [aw1.1]; decide)
  rw [aw1.1, aw1.2] at k2
  rw [k2.1, k2.2.1, k2.2.2] at hk2
  unfold tbV at hk2
  rw [hz0] at hk2
  have KH2 : Hid _ := KA2
  clear KA2 hrow2 hb2 HK0
  generalize w2.alloc (.cells #[.int .u8 2, .int .u8 0, .int .u8 2, .int .u8 1, .int .u8 11, .int .u8 0] 61) = w2a at *
  refine hk2.mono ?_
  rintro e w3 ⟨rfl, F2, hT2, fr2⟩
  have HK2 : Hid (TK Tab w w3 t w1.heap.size it3 F2) := KH2.out.fr hT2 fr2
  obtain ⟨e0, e1, e2, e3⟩ := HK2.out.c0
  clear hk2 hT2 fr2 KH2
  go_wp2_with fail
  have hb4 := below_new w3 (.cells #[.int .u8 2, .int .u8 1, .int .u8 2, .int .u8 0, .int .u8 11, .int .u8 0] 61)
  have KA4 := HK2.out.up HC.out hb4
  have hrow4 : TkSl (w3.alloc (.cells #[.int .u8 2, .int .u8 1, .int .u8 2, .int .u8 0, .int .u8 11, .int .u8 0] 61)) (some ⟨w3.heap.size, 0, none⟩) 3 3 [(2, 1), (2, 0), (11, 0)] := tk_row (T := [(2, 1), (2, 0), (11, 0)]) rfl (by decide) (by decide)
  have hk4 := HC.out.keep _ _ _ _ KA4.tab hrow4 (HK2.out.row HC.out)
  have k4 := keep_ok (items := it3) (chk_and (p := 1) (q := 0) (by decide) (by decide)) (by rw [aw2.1]; decide)
  rw [aw2.1, aw2.2] at k4
  rw [k4.1, k4.2.1, k4.2.2] at hk4
  unfold tbV at hk4
  have KH4 : Hid _ := KA4
  clear KA4 hrow4 hb4 HK2
  generalize w3.alloc (.cells #[.int .u8 2, .int .u8 1, .int .u8 2, .int .u8 0, .int .u8 11, .int .u8 0] 61) = w4a at *
  refine hk4.mono ?_
  rintro e w5 ⟨rfl, F4, hT4, fr4⟩
  have HK4 : Hid (TK Tab w w5 t w1.heap.size it4 F4) := KH4.out.fr hT4 fr4
  obtain ⟨e0, e1, e2, e3⟩ := HK4.out.c0
  clear hk4 hT4 fr4 KH4
  go_wp2_with fail
  have hb6 := below_new w5 (.cells #[.int .u8 2, .int .u8 0, .int .u8 19, .int .u8 0, .int .u8 23, .int .u8 0, .int .u8 2, .int .u8 1, .int .u8 17, .int .u8 0] 61)
  have KA6 := HK4.out.up HC.out hb6
  have hrow6 : TkSl (w5.alloc (.cells #[.int .u8 2, .int .u8 0, .int .u8 19, .int .u8 0, .int .u8 23, .int .u8 0, .int .u8 2, .int .u8 1, .int .u8 17, .int .u8 0] 61)) (some ⟨w5.heap.size, 0, none⟩) 5 5 [(2, 0), (19, 0), (23, 0), (2, 1), (17, 0)] := tk_row (T := [(2, 0), (19, 0), (23, 0), (2, 1), (17, 0)]) rfl (by decide) (by decide)
  have hk6 := HC.out.keep _ _ _ _ KA6.tab hrow6 (HK4.out.row HC.out)
  have k6 := keep_ok (items := it4) kn_dia (by rw [kn3.1]; decide)
  rw [kn3.1, kn3.2] at k6
  rw [k6.1, k6.2.1, k6.2.2] at hk6
  unfold tbV at hk6
  have KH6 : Hid _ := KA6
  clear KA6 hrow6 hb6 HK4
  generalize w5.alloc (.cells #[.int .u8 2, .int .u8 0, .int .u8 19, .int .u8 0, .int .u8 23, .int .u8 0, .int .u8 2, .int .u8 1, .int .u8 17, .int .u8 0] 61) = w6a at *
  refine hk6.mono ?_
  rintro e w7 ⟨rfl, F6, hT6, fr6⟩
  have HK6 : Hid (TK Tab w w7 t w1.heap.size it7 F6) := KH6.out.fr hT6 fr6
  obtain ⟨e0, e1, e2, e3⟩ := HK6.out.c0
  clear hk6 hT6 fr6 KH6
  go_wp2_with fail
  have hb8 := below_new w7 (.cells #[.int .u8 2, .int .u8 1] 61)
  have KA8 := HK6.out.up HC.out hb8
  have hrow8 : TkSl (w7.alloc (.cells #[.int .u8 2, .int .u8 1] 61)) (some ⟨w7.heap.size, 0, none⟩) 1 1 [(2, 1)] := tk_row (T := [(2, 1)]) rfl (by decide) (by decide)
  have hk8 := HC.out.find _ _ _ _ KA8.tab hrow8 (HK6.out.row HC.out)
  rw [kn_f1.1, kn_f1.2] at hk8
  unfold tbV at hk8
  have KH8 : Hid _ := KA8
  clear KA8 hrow8 hb8 HK6
  generalize w7.alloc (.cells #[.int .u8 2, .int .u8 1] 61) = w8a at *
  refine hk8.mono ?_
  rintro e w9 ⟨rfl, F8, hT8, fr8⟩
  have HK8 : Hid (TK Tab w w9 t w1.heap.size it7 F8) := KH8.out.fr hT8 fr8
  obtain ⟨e0, e1, e2, e3⟩ := HK8.out.c0
  clear hk8 hT8 fr8 KH8
  go_wp2_with fail
  have hb10 := below_new w9 (.cells #[.int .u8 2, .int .u8 2] 61)
  have KA10 := HK8.out.up HC.out hb10
  have hrow10 : TkSl (w9.alloc (.cells #[.int .u8 2, .int .u8 2] 61)) (some ⟨w9.heap.size, 0, none⟩) 1 1 [(2, 2)] := tk_row (T := [(2, 2)]) rfl (by decide) (by decide)
  have hk10 := HC.out.find _ _ _ _ KA10.tab hrow10 (HK8.out.row HC.out)
  rw [kn_f2.1, kn_f2.2] at hk10
  unfold tbV at hk10
  have KH10 : Hid _ := KA10
  clear KA10 hrow10 hb10 HK8
  generalize w9.alloc (.cells #[.int .u8 2, .int .u8 2] 61) = w10a at *
  refine hk10.mono ?_
  rintro e w11 ⟨rfl, F10, hT10, fr10⟩
  have HK10 : Hid (TK Tab w w11 t w1.heap.size it7 F10) := KH10.out.fr hT10 fr10
  obtain ⟨e0, e1, e2, e3⟩ := HK10.out.c0
  clear hk10 hT10 fr10 KH10
  go_wp2_with fail
  have hb12 := below_new w11 (.cells #[.int .u8 2, .int .u8 0, .int .u8 9, .int .u8 0] 61)
  have KA12 := HK10.out.up HC.out hb12
  have hrow12 : TkSl (w11.alloc (.cells #[.int .u8 2, .int .u8 0, .int .u8 9, .int .u8 0] 61)) (some ⟨w11.heap.size, 0, none⟩) 2 2 [(2, 0), (9, 0)] := tk_row (T := [(2, 0), (9, 0)]) rfl (by decide) (by decide)
  have hk12 := HC.out.find _ _ _ _ KA12.tab hrow12 (HK10.out.row HC.out)
  rw [kn_f3.1, kn_f3.2] at hk12
  unfold tbV at hk12
  have KH12 : Hid _ := KA12
  clear KA12 hrow12 hb12 HK10
  generalize w11.alloc (.cells #[.int .u8 2, .int .u8 0, .int .u8 9, .int .u8 0] 61) = w12a at *
  refine hk12.mono ?_
  rintro e w13 ⟨rfl, F12, hT12, fr12⟩
  have HK12 : Hid (TK Tab w w13 t w1.heap.size it7 F12) := KH12.out.fr hT12 fr12
  obtain ⟨e0, e1, e2, e3⟩ := HK12.out.c0
  clear hk12 hT12 fr12 KH12
  go_wp2_with fail
  have hk14 := HC.out.text 4 (.un (19, 0) (.leaf (2, 0))) HK12.out.tab kn_r (by decide)
  unfold tbV at hk14
  refine hk14.mono ?_
  rintro e w15 ⟨sa, sc, F14, rfl, hs, hsF, hT14, fr14⟩
  have HK14 : Hid (TK Tab w w15 t w1.heap.size it7 F14) := HK12.out.fr hT14 fr14
  obtain ⟨e0, e1, e2, e3⟩ := HK14.out.c0
  clear hk14 hT14 fr14 HK12
  have hs : TkSl w15 sa 2 sc [(2, 0), (19, 0)] := hs
  have hsF : 0 < 2 → ∀ x, sa = some x → ¬ F14 x.block := hsF
  dsimp only [Tr.flat, List.length_append, List.length_singleton, List.singleton_append, List.length_cons, List.length_nil, Nat.reduceAdd]
  go_wp2_with fail
  have hk16 := HC2.out.miss 7 HK14.out.tab (Or.inr (by decide))
  unfold tbV at hk16
  refine hk16.mono ?_
  rintro e w17 ⟨ma, ml, mc, F16, rfl, hT16, fr16⟩
  have HK16 : Hid (TK Tab w w17 t w1.heap.size it7 F16) := HK14.out.fr hT16 fr16
  have hsN := fr16.tks hs hsF
  have hsF : 0 < 2 → ∀ x, sa = some x → ¬ F16 x.block := fun h0 x hx => fr16.out (hsF h0 x hx) (by subst hx; exact hs.lt h0)
  have hs := hsN
  clear hsN
  obtain ⟨e0, e1, e2, e3⟩ := HK16.out.c0
  clear hk16 hT16 fr16 HK14
  go_wp2_with fail
  have hk18 := HC2.out.below 3 HK16.out.tab (by decide)
  rw [kn_b] at hk18
  unfold tbV at hk18
  refine hk18.mono ?_
  rintro e w19 ⟨ba, bc, F18, rfl, hl, hlF, hT18, fr18⟩
  have HK18 : Hid (TK Tab w w19 t w1.heap.size it7 F18) := HK16.out.fr hT18 fr18
  have hsN := fr18.tks hs hsF
  have hsF : 0 < 2 → ∀ x, sa = some x → ¬ F18 x.block := fun h0 x hx => fr18.out (hsF h0 x hx) (by subst hx; exact hs.lt h0)
  have hs := hsN
  clear hsN
  obtain ⟨e0, e1, e2, e3⟩ := HK18.out.c0
  clear hk18 hT18 fr18 HK16
  have hl : IntSl Try.prog 41 .i64 w19 ba 3 bc [0, 1, 3] := hl
  have hlF : ∀ k, k < 3 → ¬ F18 (adOf ba k).block := hlF
  dsimp only [List.length_cons, List.length_nil, Nat.reduceAdd]
  go_wp2_with fail
  have hk20 := HC.out.item 5 ⟨23, 0, 4, -1⟩ HK18.out.tab rfl
  unfold tbV at hk20
  refine hk20.mono ?_
  rintro e w21 ⟨rfl, F20, hT20, fr20⟩
  have HK20 : Hid (TK Tab w w21 t w1.heap.size it7 F20) := HK18.out.fr hT20 fr20
  have hsN := fr20.tks hs hsF
  have hsF : 0 < 2 → ∀ x, sa = some x → ¬ F20 x.block := fun h0 x hx => fr20.out (hsF h0 x hx) (by subst hx; exact hs.lt h0)
  have hs := hsN
  clear hsN
  have hlN := fr20.ints hl hlF
  have hlF : ∀ k, k < 3 → ¬ F20 (adOf ba k).block := fun k hk => fr20.out (hlF k hk) (hl.blk k hk)
  have hl := hlN
  clear hlN
  obtain ⟨e0, e1, e2, e3⟩ := HK20.out.c0
  clear hk20 hT20 fr20 HK18
  unfold itV
  dsimp only
  have hbx := below_new w21 (.cells #[.int .u8 23, .int .u8 0, .int .i64 4, .int .i64 (-1)] 49)
  have HKX : Hid (TK Tab w (w21.alloc (.cells #[.int .u8 23, .int .u8 0, .int .i64 4, .int .i64 (-1)] 49)) t w1.heap.size it7 F20) := HK20.out.up HC.out hbx
  have hrx : (w21.alloc (.cells #[.int .u8 23, .int .u8 0, .int .i64 4, .int .i64 (-1)] 49)).heap[w21.heap.size]? = some (.cells #[.int .u8 23, .int .u8 0, .int .i64 4, .int .i64 (-1)] 49 (0, 0)) := (MapKept.heap_alloc w21 _).1
  have hrxF : ¬ F20 w21.heap.size := fun hf => by have := HC.out.lt HK20.out.tab _ hf; omega
  have hzx : (w21.alloc (.cells #[.int .u8 23, .int .u8 0, .int .i64 4, .int .i64 (-1)] 49)).heap.size = w21.heap.size + 1 := by simp
  have hs := hs.up hbx
  have hl := IntSl.up hl hbx
  obtain ⟨e0, e1, e2, e3⟩ := HKX.out.c0
  clear hbx HK20
  go_wp2_with fail
  generalize w21.alloc (.cells #[.int .u8 23, .int .u8 0, .int .i64 4, .int .i64 (-1)] 49) = wx at *
  have hb22 := below_new wx (.cells #[.int .u8 2, .int .u8 0, .int .u8 9, .int .u8 0] 61)
  have KA22 := HKX.out.up HC.out hb22
  have hrow22 : TkSl (wx.alloc (.cells #[.int .u8 2, .int .u8 0, .int .u8 9, .int .u8 0] 61)) (some ⟨wx.heap.size, 0, none⟩) 2 2 [(2, 0), (9, 0)] := tk_row (T := [(2, 0), (9, 0)]) rfl (by decide) (by decide)
  have hk22 := HC.out.keep _ _ _ _ KA22.tab hrow22 (HKX.out.row HC.out)
  rw [kn_k.1, kn_k.2.1, kn_k.2.2] at hk22
  unfold tbV at hk22
  rw [hzx] at hk22
  have hrx := (hb22.block _ (Array.getElem?_eq_some_iff.1 hrx).1).trans hrx
  have hs := hs.up hb22
  have hl := IntSl.up hl hb22
  have KH22 : Hid _ := KA22
  clear KA22 hrow22 hb22 HKX
  generalize wx.alloc (.cells #[.int .u8 2, .int .u8 0, .int .u8 9, .int .u8 0] 61) = w22a at *
  refine hk22.mono ?_
  rintro e w23 ⟨rfl, F22, hT22, fr22⟩
  have HK22 : Hid (TK Tab w w23 t w1.heap.size it7 F22) := KH22.out.fr hT22 fr22
  have hsN := fr22.tks hs hsF
  have hsF : 0 < 2 → ∀ x, sa = some x → ¬ F22 x.block := fun h0 x hx => fr22.out (hsF h0 x hx) (by subst hx; exact hs.lt h0)
  have hs := hsN
  clear hsN
  have hlN := fr22.ints hl hlF
  have hlF : ∀ k, k < 3 → ¬ F22 (adOf ba k).block := fun k hk => fr22.out (hlF k hk) (hl.blk k hk)
  have hl := hlN
  clear hlN
  have hrx := (fr22.keep _ (Array.getElem?_eq_some_iff.1 hrx).1 hrxF).trans hrx
  obtain ⟨e0, e1, e2, e3⟩ := HK22.out.c0
  clear hk22 hT22 fr22 KH22
  have x0 : w23.cell? ⟨w21.heap.size, 0, none⟩ = some (.int .u8 23) := cell_row hrx 0
  have x1 : w23.cell? ⟨w21.heap.size, 1, none⟩ = some (.int .u8 0) := cell_row hrx 1
  have x2 : w23.cell? ⟨w21.heap.size, 2, none⟩ = some (.int .i64 4) := cell_row hrx 2
  have x3 : w23.cell? ⟨w21.heap.size, 3, none⟩ = some (.int .i64 (-1)) := cell_row hrx 3
  have hbs := below_new w23 (.cells #[.int .u8 2, .int .u8 0, .int .u8 19, .int .u8 0] 61)
  have hrs : TkSl (w23.alloc (.cells #[.int .u8 2, .int .u8 0, .int .u8 19, .int .u8 0] 61)) (some ⟨w23.heap.size, 0, none⟩) 2 2 [(2, 0), (19, 0)] := tk_row (T := [(2, 0), (19, 0)]) rfl (by decide) (by decide)
  have jS := Try.sameT_any _ _ _ _ _ _ _ _ (w23.alloc (.cells #[.int .u8 2, .int .u8 0, .int .u8 19, .int .u8 0] 61)) (hs.up hbs) hrs
  rw [decide_eq_true rfl] at jS
  have HL : Hid _ := hl
  have HBS : Hid _ := hbs
  have HRX : Hid _ := hrx
  have HBEL : Hid _ := HK22.out.bel
  clear hs hsF hl hlF hrs hbs hrx hrxF
  go_wp2_with fail
  refine jS.mono ?_
  rintro e w40 ⟨rfl, b40⟩
  have hb41 := below_step HBS.out b40
  have hbi := below_new w40 (.cells #[.int .i64 0, .int .i64 1, .int .i64 3] 3)
  have hri : IntSl Try.prog 41 .i64 (w40.alloc (.cells #[.int .i64 0, .int .i64 1, .int .i64 3] 3)) (some ⟨w40.heap.size, 0, none⟩) 3 3 [0, 1, 3] := int_row w40
  have jI := Try.sameI_any _ _ _ _ _ _ _ _ (w40.alloc (.cells #[.int .i64 0, .int .i64 1, .int .i64 3] 3)) (IntSl.up (IntSl.up HL.out hb41) hbi) hri
  rw [decide_eq_true rfl] at jI
  have hrx := (hb41.block _ (Array.getElem?_eq_some_iff.1 HRX.out).1).trans HRX.out
  have hrx := (hbi.block _ (Array.getElem?_eq_some_iff.1 hrx).1).trans hrx
  have HRX2 : Hid _ := hrx
  have HB42 : Hid _ := below_step (below_step HBEL.out hb41) hbi
  clear jS b40 hb41 hbi hri hrx HRX HL HBS HBEL
  go_wp2_with fail
  refine jI.mono ?_
  rintro e w42 ⟨rfl, hd42⟩
  have hb42 := below_of_drew hd42
  have hrx := (hb42.block _ (Array.getElem?_eq_some_iff.1 HRX2.out).1).trans HRX2.out
  have y0 : w42.cell? ⟨w21.heap.size, 0, none⟩ = some (.int .u8 23) := cell_row hrx 0
  have y1 : w42.cell? ⟨w21.heap.size, 1, none⟩ = some (.int .u8 0) := cell_row hrx 1
  have y2 : w42.cell? ⟨w21.heap.size, 2, none⟩ = some (.int .i64 4) := cell_row hrx 2
  have y3 : w42.cell? ⟨w21.heap.size, 3, none⟩ = some (.int .i64 (-1)) := cell_row hrx 3
  have HB43 : Hid _ := below_step HB42.out hb42
  clear jI hd42 hb42 hrx HRX2 HB42
  go_wp2
  go_ret
  exact ⟨rfl, HB43.out⟩
end Go.Proofs.Ytbfhbpibpmgblaa
