/- Package table: Keep, Find. -/
import Derived.Test.YtbfhbpibpmgblaaWTm8
namespace Go.Proofs.Ytbfhbpibpmgblaa
open Go.RowKit Go.Maps

def TabT (w : World) (F : Nat → Prop) (t : Nat) (items : List It) : Prop := TabI w F t items ∧ TabIs items
theorem flat_pos : ∀ T : Tr, 0 < T.flat.length
  | .leaf _ => by simp [Tr.flat]
  | .un _ _ => by simp [Tr.flat]
  | .bin _ _ _ => by simp [Tr.flat]; omega
/-- Tokens that were checked. -/
structure Chkd (ts : List Tk) : Prop where
  pos : 0 < ts.length
  few : fewL false ts = true
  good : ∃ T, GGood ts T
theorem chkd {ts : List Tk} (h : chkE ts = 0) : Chkd ts := by
  obtain ⟨hl, hk⟩ := chk_zero.1 h
  have hf := ((isKer_iff ts).1 hk).1
  obtain ⟨T, hW, _, _, rfl⟩ := hk
  exact ⟨flat_pos T, hf, T, ggood hW hl⟩
/-- A table in a variable of the call's own. -/
theorem tabB_new {w w' : World} {F : Nat → Prop} {t : Nat} {items : List It} (h : TabI w F t items) (hb : Below (w.alloc (.cells #[tbV t] 23)).heap.size (w.alloc (.cells #[tbV t] 23)) w') : TabB t w.heap.size w' (fun k => F k ∨ k = w.heap.size) items := by
  have hb1 := below_new w (.cells #[tbV t] 23)
  refine ⟨F, h.up (below_step hb1 hb), (hb.block _ (by simp)).trans (MapKept.heap_alloc w _).1, fun hf => ?_, fun k => Iff.rfl⟩
  have := h.lt _ hf
  omega
/-- What is known of it behind a call that has changed it. -/
theorem tabB_fin {w w1 w2 : World} {F G' : Nat → Prop} {t : Nat} {items : List It} (hb : Below w.heap.size w w1) (hB : TabB t w.heap.size w2 G' items) (fr : Fr w1 w2 (fun k => F k ∨ k = w.heap.size) G') : ∃ F', TabI w2 F' t items ∧ Fr w w2 F F' := by
  obtain ⟨F', h1, _, _, h4⟩ := hB
  refine ⟨F', h1, fr.os.trans hb.os, fr.tape.trans hb.tape, fr.output.trans hb.output, Nat.le_trans hb.size fr.size, fun k hk hf => (fr.keep k (Nat.lt_of_lt_of_le hk hb.size) (fun h => ?_)).trans (hb.block k hk), fun k hk => ?_⟩
  · rcases h with h | h
    · exact hf h
    · omega
  · rcases fr.foot k ((h4 k).2 (Or.inl hk)) with (h | h) | h
    · exact Or.inl h
    · exact Or.inr (by omega)
    · exact Or.inr (Nat.le_trans hb.size h)
theorem Try.ent_keep1 : EntersT 29 := fun _ _ => rfl
theorem Try.ent_find1 : EntersT 26 := fun _ _ => rfl
theorem keep_yes {items items' : List It} {ts : List Tk} {st : List Nat} {j : Nat} (hl : items.length ≤ 4096) (hc : chkE ts = 0) (h : nS kpF ts (items, []) = some (items', st ++ [j])) : keepE items ts = 0 ∧ keepI items ts = items' ∧ keepN items ts = j := by
  rw [nS_keep ts (items, []) hl] at h
  by_cases c : (tkS ts (items, [])).1.length ≤ 4096
  · rw [if_pos c] at h
    injection h with h
    have e1 : kI items ts = items' := by unfold kI; rw [h]
    have e2 : kN items ts = j := by unfold kN; rw [h]; simp
    have e0 : keepE items ts = 0 := by
      unfold keepE
      rw [if_neg (by omega), if_neg (by unfold kI; omega)]
    exact ⟨e0, by unfold keepI; rw [if_pos e0, e1], by unfold keepN; rw [if_pos e0, e2]⟩
  · rw [if_neg c] at h; cases h
theorem keep_no {items : List It} {ts : List Tk} (hl : items.length ≤ 4096) (hc : chkE ts = 0) (h : nS kpF ts (items, []) = none) : keepE items ts = 3 ∧ keepI items ts = items ∧ keepN items ts = 0 := by
  rw [nS_keep ts (items, []) hl] at h
  by_cases c : (tkS ts (items, [])).1.length ≤ 4096
  · rw [if_pos c] at h; cases h
  · have e0 : keepE items ts = 3 := by
      unfold keepE
      rw [if_neg (by omega), if_pos (by unfold kI; omega)]
    exact ⟨e0, by unfold keepI; rw [if_neg (by omega)], by unfold keepN; rw [if_neg (by omega)]⟩
theorem keep_off {items : List It} {ts : List Tk} (hc : chkE ts ≠ 0) : keepE items ts = chkE ts ∧ keepI items ts = items ∧ keepN items ts = 0 := by
  have e0 : keepE items ts = chkE ts := by unfold keepE; rw [if_pos hc]
  exact ⟨e0, by unfold keepI; rw [if_neg (by omega)], by unfold keepN; rw [if_neg (by omega)]⟩
theorem find_yes {items items' : List It} {ts : List Tk} {st : List Nat} {j : Nat} (hc : chkE ts = 0) (h : nS fiF ts (items, []) = some (items', st ++ [j])) : items' = items ∧ findB items ts = true ∧ findN items ts = j := by
  rw [nS_find ts (items, [])] at h
  by_cases c : (tkS ts (items, [])).1 = items
  · rw [if_pos c] at h
    injection h with h
    have e1 : kI items ts = items := c
    have e2 : kN items ts = j := by unfold kN; rw [h]; simp
    have e0 : findB items ts = true := by unfold findB; rw [e1, hc]; simp
    refine ⟨?_, e0, by unfold findN; rw [if_pos e0, e2]⟩
    rw [h] at c; exact c
  · rw [if_neg c] at h; cases h
theorem find_no {items : List It} {ts : List Tk} (h : nS fiF ts (items, []) = none) : findB items ts = false ∧ findN items ts = 0 := by
  rw [nS_find ts (items, [])] at h
  by_cases c : (tkS ts (items, [])).1 = items
  · rw [if_pos c] at h; cases h
  · have e0 : findB items ts = false := by
      unfold findB
      rw [decide_eq_false (p := kI items ts = items) c]
      simp
    exact ⟨e0, by unfold findN; rw [if_neg (by rw [e0]; simp)]⟩
theorem find_same {items items' : List It} {ts : List Tk} {st : List Nat} (h : nS fiF ts (items, []) = some (items', st)) : items' = items := by
  rw [nS_find ts (items, [])] at h
  by_cases c : (tkS ts (items, [])).1 = items
  · rw [if_pos c] at h
    injection h with h
    rw [h] at c; exact c
  · rw [if_neg c] at h; cases h
theorem find_off {items : List It} {ts : List Tk} (hc : chkE ts ≠ 0) : findB items ts = false ∧ findN items ts = 0 := by
  have e0 : findB items ts = false := by unfold findB; rw [decide_eq_false hc]; simp
  exact ⟨e0, by unfold findN; rw [if_neg (by rw [e0]; simp)]⟩
theorem Fr.self {w w' : World} {F : Nat → Prop} {t : Nat} {items : List It} (h : TabT w F t items) (hb : Below w.heap.size w w') : ∃ F', TabT w' F' t items ∧ Fr w w' F F' := ⟨F, ⟨h.1.up hb, h.2⟩, Fr.same hb⟩
set_option maxRecDepth 100000 in
set_option maxHeartbeats 4000000 in
theorem Try.tkeep_any {w : World} {F : Nat → Prop} {t : Nat} {items : List It} (a : Option Addr) (len cap : Nat) (ts : List Tk) (h : TabT w F t items) (hT : TkSl w a len cap ts) (hA : 0 < len → ∀ x, a = some x → ¬ F x.block) :
    Calls Try.prog 11 #[.pointer (some ⟨t, 0, none⟩), .slice a len cap] w fun e w' => e = .returned (.tuple #[.int .i64 (keepN items ts : Int), .int .i64 (keepE items ts : Int)]) ∧ ∃ F', TabT w' F' t (keepI items ts) ∧ Fr w w' F F' := by
  have hb1 := below_new w (.cells #[tbV t] 23)
  obtain ⟨aa, ca, mb, hr, _⟩ := (h.1.up hb1).read
  have hm := Try.made_tab hr
  have HI : Hid _ := h
  have hck := Try.kcheck_any a len cap ts (w.alloc (.cells #[tbV t] 23)) (hT.up hb1)
  have cb : ∀ w', Below (w.alloc (.cells #[tbV t] 23)).heap.size (w.alloc (.cells #[tbV t] 23)) w' → w'.cell? ⟨w.heap.size, 0, none⟩ = some (.pointer (some ⟨t, 0, none⟩)) := fun w' hb => kept_cell (cell_row (MapKept.heap_alloc w _).1 0) hb
  have cb0 := cb _ (Below.refl _ _)
  by_cases hc : chkE ts = 0
  · have HC : Hid _ := hc
    have hck' := chkd hc
    have HCK : Hid _ := hck'
    rw [hc] at hck
    have HT : Hid _ := hT
    have HA : Hid _ := hA
    have HCB : Hid _ := cb
    clear hT hA h hr cb hc hck' hb1
    unfold tbV at hm hck cb0 HCB
    go_enter Try.func11, Try.ntmps11
    go_wp2_with fail
    refine hm.mono ?_
    rintro e w1 ⟨rfl, hw1⟩
    obtain rfl := hw1.symm
    go_wp2_with fail
    refine hck.mono ?_
    rintro e w2 ⟨rfl, hb2⟩
    have HB2 : Hid (Below w.heap.size w w2) := below_step (below_new w _) hb2
    have cb2 := HCB.out w2 hb2
    obtain ⟨a2, k2, m2, hr2, _⟩ := (HI.out.1.up HB2.out).read
    have c1 := hr2.c1
    obtain ⟨T, hgood⟩ := HCK.out.good
    have hnum := Try.tnumber_any (TabB t w.heap.size) kpF 29 w.heap.size Try.ent_keep1 (Try.tkeep1_any t w.heap.size) kpF_ok TabB.lt TabB.far w2 (fun k => F k ∨ k = w.heap.size) items a len cap ts T (tabB_new HI.out.1 hb2) (HT.out.up HB2.out) (fun hp x hx hg => by
      rcases hg with hg | hg
      · exact HA.out hp x hx hg
      · subst hx; have := HT.out.lt hp; omega) (by have := HCK.out.pos; have := HT.out.hlen; omega) hgood HCK.out.few
    clear hm hck hr2 hb2 cb0 HCB hgood
    go_wp2_with fail
    refine hnum.mono ?_
    rintro e w3 ⟨G3, items3, hB3, fr3, ⟨l3, hl3⟩, ⟨q3, st3, hq3⟩, (⟨j, st, hns, rfl⟩ | ⟨hns, rfl⟩)⟩
    · obtain ⟨k1, k2, k3⟩ := keep_yes HI.out.1.few HC.out hns
      have HK : Hid _ := And.intro k1 (And.intro k2 k3)
      obtain ⟨F3, hI3, hf3⟩ := tabB_fin HB2.out hB3 fr3
      have HF : Hid _ := And.intro hI3 hf3
      have HIS : Hid (TabIs (keepI items ts)) := (kept HI.out.2 k1).is
      clear hnum hB3 fr3 hl3 hq3 hns k1 k2 k3 hI3 hf3 c1 cb2
      go_wp2
      go_ret2
      rw [HK.out.1, HK.out.2.2]
      exact ⟨rfl, F3, ⟨by rw [HK.out.2.1]; exact HF.out.1, HIS.out⟩, HF.out.2⟩
    · have HK : Hid _ := keep_no HI.out.1.few HC.out hns
      obtain ⟨F3, hI3, hf3⟩ := tabB_fin HB2.out hB3 fr3
      have HF : Hid _ := hf3
      have cb3 : w3.cell? ⟨w.heap.size, 0, none⟩ = some (.pointer (some ⟨t, 0, none⟩)) := by
        obtain ⟨F', _, h2, _⟩ := hB3
        exact cell_row h2 0
      have hcut := Try.tcut_any hI3 items.length (by rw [hl3]; simp)
      rw [show items3.take items.length = items by rw [hl3]; simp] at hcut
      clear hnum hB3 fr3 hl3 hq3 hns hI3 hf3 c1 cb2
      go_wp2_with fail
      refine hcut.mono ?_
      rintro e w4 ⟨rfl, hI4, fr4⟩
      have HI4 : Hid _ := And.intro hI4 fr4
      clear hcut hI4 fr4
      go_wp2
      go_ret2
      rw [HK.out.1, HK.out.2.2, HK.out.2.1]
      exact ⟨rfl, F3, ⟨HI4.out.1, HI.out.2⟩, HF.out.trans' HI4.out.2⟩
  · have HK : Hid _ := keep_off (items := items) hc
    have hc' : ¬ (chkE ts : Int) = 0 := by omega
    have hc2 : ((chkE ts : Int) == 0) = false := by rw [beq_eq_false_iff_ne]; exact hc'
    clear hT hA h hr cb hb1 hc
    unfold tbV at hm hck cb0
    generalize chkE ts = E at *
    go_enter Try.func11, Try.ntmps11
    go_wp2_with fail
    refine hm.mono ?_
    rintro e w1 ⟨rfl, hw1⟩
    obtain rfl := hw1.symm
    go_wp2_with fail
    refine hck.mono ?_
    rintro e w2 ⟨rfl, hb2⟩
    have HB2 : Hid (Below w.heap.size w w2) := below_step (below_new w _) hb2
    clear hm hck hb2 cb0
    go_wp2
    go_ret2
    rw [HK.out.1, HK.out.2.2, HK.out.2.1]
    exact ⟨rfl, Fr.self HI.out HB2.out⟩
set_option maxRecDepth 100000 in
set_option maxHeartbeats 4000000 in
theorem Try.tfind_any {w : World} {F : Nat → Prop} {t : Nat} {items : List It} (a : Option Addr) (len cap : Nat) (ts : List Tk) (h : TabT w F t items) (hT : TkSl w a len cap ts) (hA : 0 < len → ∀ x, a = some x → ¬ F x.block) :
    Calls Try.prog 9 #[.pointer (some ⟨t, 0, none⟩), .slice a len cap] w fun e w' => e = .returned (.tuple #[.int .i64 (findN items ts : Int), .bool (findB items ts)]) ∧ ∃ F', TabT w' F' t items ∧ Fr w w' F F' := by
  have hb1 := below_new w (.cells #[tbV t] 23)
  obtain ⟨aa, ca, mb, hr, _⟩ := (h.1.up hb1).read
  have hm := Try.made_tab hr
  have HI : Hid _ := h
  have hck := Try.kcheck_any a len cap ts (w.alloc (.cells #[tbV t] 23)) (hT.up hb1)
  have cb0 : (w.alloc (.cells #[tbV t] 23)).cell? ⟨w.heap.size, 0, none⟩ = some (.pointer (some ⟨t, 0, none⟩)) := cell_row (MapKept.heap_alloc w _).1 0
  by_cases hc : chkE ts = 0
  · have HC : Hid _ := hc
    have hck' := chkd hc
    have HCK : Hid _ := hck'
    rw [hc] at hck
    have HT : Hid _ := hT
    have HA : Hid _ := hA
    clear hT hA h hr hc hck' hb1
    unfold tbV at hm hck cb0
    go_enter Try.func9, Try.ntmps9
    go_wp2_with fail
    refine hm.mono ?_
    rintro e w1 ⟨rfl, hw1⟩
    obtain rfl := hw1.symm
    go_wp2_with fail
    refine hck.mono ?_
    rintro e w2 ⟨rfl, hb2⟩
    have HB2 : Hid (Below w.heap.size w w2) := below_step (below_new w _) hb2
    obtain ⟨T, hgood⟩ := HCK.out.good
    have hnum := Try.tnumber_any (TabB t w.heap.size) fiF 26 w.heap.size Try.ent_find1 (Try.tfind1_any t w.heap.size) fiF_ok TabB.lt TabB.far w2 (fun k => F k ∨ k = w.heap.size) items a len cap ts T (tabB_new HI.out.1 hb2) (HT.out.up HB2.out) (fun hp x hx hg => by
      rcases hg with hg | hg
      · exact HA.out hp x hx hg
      · subst hx; have := HT.out.lt hp; omega) (by have := HCK.out.pos; have := HT.out.hlen; omega) hgood HCK.out.few
    clear hm hck hb2 cb0 hgood
    go_wp2_with fail
    refine hnum.mono ?_
    rintro e w3 ⟨G3, items3, hB3, fr3, ⟨l3, hl3⟩, ⟨q3, st3, hq3⟩, (⟨j, st, hns, rfl⟩ | ⟨hns, rfl⟩)⟩
    · obtain ⟨k1, k2, k3⟩ := find_yes HC.out hns
      subst k1
      have HK : Hid _ := And.intro k2 k3
      obtain ⟨F3, hI3, hf3⟩ := tabB_fin HB2.out hB3 fr3
      have HF : Hid _ := And.intro hI3 hf3
      clear hnum hB3 fr3 hl3 hq3 hns k2 k3 hI3 hf3
      go_wp2
      go_ret2
      rw [HK.out.1, HK.out.2]
      exact ⟨rfl, F3, ⟨HF.out.1, HI.out.2⟩, HF.out.2⟩
    · have HK : Hid _ := find_no hns
      have e3 : items3 = items := find_same hq3
      subst e3
      obtain ⟨F3, hI3, hf3⟩ := tabB_fin HB2.out hB3 fr3
      have HF : Hid _ := And.intro hI3 hf3
      clear hnum hB3 fr3 hl3 hq3 hns hI3 hf3
      go_wp2
      go_ret2
      rw [HK.out.1, HK.out.2]
      exact ⟨rfl, F3, ⟨HF.out.1, HI.out.2⟩, HF.out.2⟩
  · have HK : Hid _ := find_off (items := items) hc
    have hc' : ¬ (chkE ts : Int) = 0 := by omega
    have hc2 : ((chkE ts : Int) == 0) = false := by rw [beq_eq_false_iff_ne]; exact hc'
    clear hT hA h hr hb1 hc
    unfold tbV at hm hck cb0
    generalize chkE ts = E at *
    go_enter Try.func9, Try.ntmps9
    go_wp2_with fail
    refine hm.mono ?_
    rintro e w1 ⟨rfl, hw1⟩
    obtain rfl := hw1.symm
    go_wp2_with fail
    refine hck.mono ?_
    rintro e w2 ⟨rfl, hb2⟩
    have HB2 : Hid (Below w.heap.size w w2) := below_step (below_new w _) hb2
    clear hm hck hb2 cb0
    go_wp2
    go_ret2
    rw [HK.out.1, HK.out.2]
    exact ⟨rfl, Fr.self HI.out HB2.out⟩
end Go.Proofs.Ytbfhbpibpmgblaa
