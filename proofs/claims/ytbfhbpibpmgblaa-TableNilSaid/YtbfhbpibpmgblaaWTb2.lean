/- Stage 9: awake. -/
import Derived.Test.YtbfhbpibpmgblaaWTb1
namespace Go.Proofs.Ytbfhbpibpmgblaa
open Go.RowKit Go.Maps

theorem tk_row {w : World} {cs : Array Value} {T : List Tk} (hc : cs.toList = encT T) (hok : ∀ t ∈ T, t.1 < 256 ∧ t.2 < 256) (hl : T.length ≤ 100) : TkSl (w.alloc (.cells cs 61)) (some ⟨w.heap.size, 0, none⟩) T.length T.length T := by
  have hs : cs.size = T.length * 2 := by rw [← Array.length_toList, hc, encT_len]
  have h1 : (w.alloc (.cells cs 61)).ownsRow w.heap.size 61 2 (.slice (some ⟨w.heap.size, 0, none⟩) T.length T.length) T.length (encT T) := ⟨encT_len T, Or.inr ⟨w.heap.size, T.length, cs, rfl, Nat.le_refl _, (MapKept.heap_alloc w _).1, Nat.le_refl _, by unfold maxLen; omega, hs, by rw [hc, ← encT_len T, List.take_length]⟩⟩
  obtain ⟨a, c, e, t, _⟩ := own_tk h1 hok
  injection e with e1 _ e3
  subst e1 e3
  exact t
theorem TabC.up {Tab : TabP} (C : TabC Tab) {w w' : World} {F : Nat → Prop} {t : Nat} {items : List It} (h : Tab w F t items) (hb : Below w.heap.size w w') : Tab w' F t items := C.far h fun k hk => hb.block k (C.lt h k hk)
theorem chk_and {p q : Nat} (hp : p ≤ 7) (hq : q ≤ 7) : chkE [(2, p), (2, q), (11, 0)] = 0 := chk_zero.2 ⟨by simp, .bin (11, 0) (.leaf (2, p)) (.leaf (2, q)), ⟨rfl, rfl, ⟨takes_prop hp, rfl⟩, takes_prop hq, rfl⟩, rfl, rfl, rfl⟩
def it3 : List It := [⟨2, 0, -1, -1⟩, ⟨2, 1, -1, -1⟩, ⟨11, 0, 0, 1⟩]
def it4 : List It := it3 ++ [⟨11, 0, 1, 0⟩]
theorem aw1 : kI [] [(2, 0), (2, 1), (11, 0)] = it3 ∧ kN [] [(2, 0), (2, 1), (11, 0)] = 2 := ⟨by decide +kernel, by decide +kernel⟩
theorem aw2 : kI it3 [(2, 1), (2, 0), (11, 0)] = it4 ∧ kN it3 [(2, 1), (2, 0), (11, 0)] = 3 := ⟨by decide +kernel, by decide +kernel⟩
theorem keep_ok {items : List It} {ts : List Tk} (hc : chkE ts = 0) (hl : (kI items ts).length ≤ 4096) : keepE items ts = 0 ∧ keepI items ts = kI items ts ∧ keepN items ts = kN items ts := by
  have : keepE items ts = 0 := by unfold keepE; rw [if_neg (by omega), if_neg (by omega)]
  exact ⟨this, if_pos this, if_pos this⟩
set_option maxRecDepth 100000 in
set_option maxHeartbeats 4000000 in
theorem Try.tawake_any {Tab : TabP} (C : TabC Tab) (w : World) : Calls Try.prog 17 #[] w fun e w' => e = .returned (.bool true) ∧ Below w.heap.size w w' := by
  have HC : Hid (TabC Tab) := C
  have hnew := C.new w
  unfold tbV at hnew
  clear C
  go_enter Try.func17, Try.ntmps17
  go_wp2_with fail
  refine hnew.mono ?_
  rintro e w1 ⟨t, F, rfl, hT1, hF1, hb1⟩
  have HT1 : Hid _ := hT1
  have HF1 : Hid _ := hF1
  have HB1 : Hid _ := hb1
  clear hnew hT1 hF1 hb1
  have hbA := below_new w1 (.cells #[.int .u8 2, .int .u8 0] 61)
  have hbB := below_step hbA (below_new (w1.alloc (.cells #[.int .u8 2, .int .u8 0] 61)) (.cells #[.int .u8 2, .int .u8 1] 61))
  have hr0 := (Below.heap_alloc (w1.alloc (.cells #[.int .u8 2, .int .u8 0] 61)) (.cells #[.int .u8 2, .int .u8 1] 61) w1.heap.size (by simp)).trans (MapKept.heap_alloc w1 _).1
  have hr1 := (MapKept.heap_alloc (w1.alloc (.cells #[.int .u8 2, .int .u8 0] 61)) (.cells #[.int .u8 2, .int .u8 1] 61)).1
  rw [show (w1.alloc (.cells #[.int .u8 2, .int .u8 0] 61)).heap.size = w1.heap.size + 1 by simp] at hr1
  have hzB : ((w1.alloc (.cells #[.int .u8 2, .int .u8 0] 61)).alloc (.cells #[.int .u8 2, .int .u8 1] 61)).heap.size = w1.heap.size + 2 := by simp
  have HBB : Hid _ := hbB
  have HR0 : Hid _ := hr0
  have HR1 : Hid _ := hr1
  clear hbA hbB hr0 hr1
  go_wp2_with fail
  generalize (w1.alloc (.cells #[.int .u8 2, .int .u8 0] 61)).alloc (.cells #[.int .u8 2, .int .u8 1] 61) = w2 at *
  have hT2 := HC.out.up HT1.out HBB.out
  have hb3 := below_new w2 (.cells #[.int .u8 2, .int .u8 0, .int .u8 2, .int .u8 1, .int .u8 11, .int .u8 0] 61)
  have hT3 := HC.out.up hT2 hb3
  have hrow : TkSl (w2.alloc (.cells #[.int .u8 2, .int .u8 0, .int .u8 2, .int .u8 1, .int .u8 11, .int .u8 0] 61)) (some ⟨w1.heap.size + 2, 0, none⟩) 3 3 [(2, 0), (2, 1), (11, 0)] := by rw [← hzB]; exact tk_row (T := [(2, 0), (2, 1), (11, 0)]) rfl (by decide) (by decide)
  have hlt2 := HC.out.lt hT2
  have hk := HC.out.keep _ _ _ _ hT3 hrow (fun _ x hx => by injection hx with hx; subst hx; exact fun hf => by have := hlt2 _ hf; dsimp only at this; omega)
  have k1 := keep_ok (items := []) (chk_and (p := 0) (q := 1) (by decide) (by decide)) (by rw [aw1.1]; decide)
  rw [aw1.1, aw1.2] at k1
  rw [k1.1, k1.2.1, k1.2.2] at hk
  unfold tbV at hk
  have HB3 : Hid _ := below_step (below_step HB1.out HBB.out) hb3
  have hr0 := (hb3.block w1.heap.size (by omega)).trans HR0.out
  have hr1 := (hb3.block (w1.heap.size + 1) (by omega)).trans HR1.out
  have hz3 : (w2.alloc (.cells #[.int .u8 2, .int .u8 0, .int .u8 2, .int .u8 1, .int .u8 11, .int .u8 0] 61)).heap.size = w1.heap.size + 3 := by simp; omega
  have hF3 := HC.out.lt HT1.out
  clear hT2 hT3 hrow hb3 HT1 HBB HR0 HR1 k1
  generalize w2.alloc (.cells #[.int .u8 2, .int .u8 0, .int .u8 2, .int .u8 1, .int .u8 11, .int .u8 0] 61) = w3 at *
  refine hk.mono ?_
  rintro e w4 ⟨rfl, F4, hT4, fr4⟩
  have hge4 := fr4.ge HF1.out (by have := HB1.out.size; omega)
  have HB4 : Hid _ := HB3.out.trans (fr4.below HF1.out (by have := HB1.out.size; omega))
  have hq0 := (fr4.keep w1.heap.size (by omega) (fun hf => by have := hF3 _ hf; omega)).trans hr0
  have hq1 := (fr4.keep (w1.heap.size + 1) (by omega) (fun hf => by have := hF3 _ hf; omega)).trans hr1
  have e0 : w4.cell? ⟨w1.heap.size, 0, none⟩ = some (.int .u8 2) := cell_row hq0 0
  have e1 : w4.cell? ⟨w1.heap.size, 1, none⟩ = some (.int .u8 0) := cell_row hq0 1
  have e2 : w4.cell? ⟨w1.heap.size + 1, 0, none⟩ = some (.int .u8 2) := cell_row hq1 0
  have e3 : w4.cell? ⟨w1.heap.size + 1, 1, none⟩ = some (.int .u8 1) := cell_row hq1 1
  have hlt4 := HC.out.lt hT4
  have HT4 : Hid _ := hT4
  have HGE4 : Hid _ := hge4
  have hz1 : w.heap.size ≤ w1.heap.size := HB1.out.size
  have hz4 : w1.heap.size + 3 ≤ w4.heap.size := by have := fr4.size; omega
  clear hk hr0 hr1 hq0 hq1 fr4 hT4 hge4 hF3 hlt2 hz3 hzB
  go_wp2_with fail
  have hb5 := below_new w4 (.cells #[.int .u8 2, .int .u8 1, .int .u8 2, .int .u8 0, .int .u8 11, .int .u8 0] 61)
  have hT5 := HC.out.up HT4.out hb5
  have hrow : TkSl (w4.alloc (.cells #[.int .u8 2, .int .u8 1, .int .u8 2, .int .u8 0, .int .u8 11, .int .u8 0] 61)) (some ⟨w4.heap.size, 0, none⟩) 3 3 [(2, 1), (2, 0), (11, 0)] := tk_row (T := [(2, 1), (2, 0), (11, 0)]) rfl (by decide) (by decide)
  have hk := HC.out.keep _ _ _ _ hT5 hrow (fun _ x hx => by injection hx with hx; subst hx; exact fun hf => by have := hlt4 _ hf; dsimp only at this; omega)
  have k1 := keep_ok (items := it3) (chk_and (p := 1) (q := 0) (by decide) (by decide)) (by rw [aw2.1]; decide)
  rw [aw2.1, aw2.2] at k1
  rw [k1.1, k1.2.1, k1.2.2] at hk
  unfold tbV at hk
  have HB5 : Hid _ := HB4.out.trans (hb5.mono (by omega))
  have hz5 : (w4.alloc (.cells #[.int .u8 2, .int .u8 1, .int .u8 2, .int .u8 0, .int .u8 11, .int .u8 0] 61)).heap.size = w4.heap.size + 1 := by simp
  clear hT5 hrow hb5 HT4 k1 e0 e1 e2 e3
  generalize w4.alloc (.cells #[.int .u8 2, .int .u8 1, .int .u8 2, .int .u8 0, .int .u8 11, .int .u8 0] 61) = w5 at *
  refine hk.mono ?_
  rintro e w6 ⟨rfl, F6, hT6, fr6⟩
  have HB6 : Hid _ := HB5.out.trans (fr6.below HGE4.out (by omega))
  have hge6 := fr6.ge HGE4.out (by omega)
  have hi := HC.out.item 3 ⟨11, 0, 1, 0⟩ hT6 rfl
  unfold tbV itV at hi
  dsimp only at hi
  have hz6 := fr6.size
  clear hk fr6 hT6
  go_wp2_with fail
  refine hi.mono ?_
  rintro e w7 ⟨rfl, F7, hT7, fr7⟩
  have HB7 : Hid _ := HB6.out.trans (fr7.below hge6 (by omega))
  clear hi fr7 hT7 hge6
  go_wp2
  go_ret
  exact ⟨rfl, HB7.out.alloc HB7.out.size _⟩
end Go.Proofs.Ytbfhbpibpmgblaa
