/- The law LetterNames, walked: whatever names, letter, number and text come in, it answers true and leaves all that was there. -/
import Derived.Test.YtmmjihalpmahnaaWApart2
namespace Go.Proofs.Ytmmjihalpmahnaa
open Go.RowKit Go.Maps

/-- All(n), n from 0 to 8; else none. -/
def allCur (n : Int) : List Int := if 0 ≤ n ∧ n ≤ 8 then allN (powN n) else []
theorem allCur_bd (n : Int) : (allCur n).length ≤ 256 := by
  unfold allCur; split
  · rename_i h; rw [allN_len]; exact (powN_bd h.1 h.2).2
  · simp
theorem allCur_val (n : Int) : ∀ z ∈ allCur n, 0 ≤ z ∧ z < 256 := by
  unfold allCur; split
  · rename_i h; intro z hz
    have := (powN_bd h.1 h.2).2
    simp [allN] at hz; obtain ⟨k, hk, rfl⟩ := hz; omega
  · intro z hz; simp at hz
def Try.AllR (n : Int) (w : World) (e : Ending) (w' : World) : Prop :=
  ∃ a, e = .returned (.slice a (allCur n).length (allCur n).length) ∧ RowOf w' 23 a (allCur n) ∧ (∀ b, a.map (·.block) = some b → w.heap.size ≤ b) ∧ Below w.heap.size w w'
theorem Try.allR (n : Int) (w : World) : Calls Try.prog 8 #[.int .i64 n] w fun e w' => Try.AllR n w e w' := by
  by_cases h : 0 ≤ n ∧ n ≤ 8
  · have ec : allCur n = allN (powN n) := by unfold allCur; rw [if_pos h]
    refine (Try.all_any n w h.1 h.2).mono ?_
    rintro e w' ⟨rfl, hr, hb⟩
    exact ⟨_, by rw [ec, allN_len], by rw [ec]; exact Or.inr ⟨_, rfl, hr⟩, fun b hb => by cases hb; exact Nat.le_refl _, hb⟩
  · have ec : allCur n = [] := by unfold allCur; rw [if_neg h]
    refine (Try.all_none n w (by omega)).mono ?_
    rintro e w' ⟨rfl, rfl⟩
    exact ⟨none, by rw [ec]; rfl, by rw [ec]; exact Or.inl ⟨rfl, rfl⟩, fun b hb => (by cases hb), Below.refl _ _⟩
def Try.RAllR (n : Int) (w : World) (e : Ending) (w' : World) : Prop :=
  ∃ a cap, e = .returned (.slice a (allCur n).length cap) ∧ IntSl Try.prog 29 .u8 w' a (allCur n).length cap (allCur n) ∧ Below w.heap.size w w'
theorem Try.rallR (n : Int) (w : World) : Calls Try.prog 16 #[.int .i64 n] w fun e w' => Try.RAllR n w e w' := by
  by_cases h : 0 ≤ n ∧ n ≤ 8
  · have ec : allCur n = allN (powN n) := by unfold allCur; rw [if_pos h]
    refine (Try.rall_any n w h.1 h.2).mono ?_
    rintro e w' ⟨a, cap, rfl, hr, hb⟩
    exact ⟨a, cap, by rw [ec, allN_len], by rw [ec, allN_len]; exact hr, hb⟩
  · have ec : allCur n = [] := by unfold allCur; rw [if_neg h]
    refine (Try.rall_none n w (by omega)).mono ?_
    rintro e w' ⟨rfl, rfl⟩
    exact ⟨none, 0, by rw [ec]; rfl, by rw [ec]; exact intSl_nil, Below.refl _ _⟩

theorem drew_below {w w' : World} (h : ∃ n, w' = w.drewN n) : Below w.heap.size w w' := by obtain ⟨n, rfl⟩ := h; exact below_drewN (Below.refl _ _) n

theorem RowS.lentSl {w : World} {g l : Nat} {ss : List ByteArray} (hR : RowS w 9 g (lent ss)) (hl : ss.length = l) (hz : ∀ k, (ss.getD k ByteArray.empty).size ≤ maxLen) (h20 : l ≤ 20) :
    StrSl Try.prog 22 w (some ⟨g, 0, none⟩) l (l + 3) (adOf (some ⟨g, 0, none⟩)) ss := by
  have := hR.strSl (P := Try.prog) (T := 22) (n := l) Try.underlying22 Try.sizeStr (by rw [lent_len]; omega) (by rw [lent_len]; unfold maxLen; omega) (fun s hs => by
    unfold lent at hs
    rcases List.mem_append.1 hs with h | h
    · obtain ⟨i, hi⟩ := List.getElem?_of_mem h
      have := hz i
      rwa [List.getD_eq_getElem?_getD, hi] at this
    · have := List.eq_of_mem_replicate h; subst this; simp [maxLen, ByteArray.size_empty])
  rw [lent_len, ← hl, lent_take] at this
  rw [← hl]; exact this

theorem Try.apart_two (w : World) (aA aB : Option Addr) (cur : List Int) (hA : RowOf w 23 aA cur) (hB : RowOf w 23 aB cur) (hab : ∀ b b', aA.map (·.block) = some b → aB.map (·.block) = some b' → b < b') (hlen : cur.length ≤ 256) (hval : ∀ z ∈ cur, 0 ≤ z ∧ z < 256) :
    Calls Try.prog 17 #[.slice (some ⟨w.heap.size, 0, none⟩) 2 2] (w.alloc (.cells #[.slice aA cur.length cur.length, .slice aB cur.length cur.length] 29)) fun e w' =>
      e = .returned (.bool true) ∧ Below (w.alloc (.cells #[.slice aA cur.length cur.length, .slice aB cur.length cur.length] 29)).heap.size (w.alloc (.cells #[.slice aA cur.length cur.length, .slice aB cur.length cur.length] 29)) w' := by
  have hal : Below w.heap.size w (w.alloc (.cells #[.slice aA cur.length cur.length, .slice aB cur.length cur.length] 29)) := (Below.refl _ _).alloc (Nat.le_refl _) _
  have hnew := (MapKept.heap_alloc w (.cells #[.slice aA cur.length cur.length, .slice aB cur.length cur.length] 29)).1
  have hn : aA = none ∨ aA.map (·.block) ≠ aB.map (·.block) := by
    cases aA with
    | none => exact Or.inl rfl
    | some p =>
      right
      cases aB with
      | none => simp
      | some q => have := hab p.block q.block rfl rfl; simp; omega
  have hn' : aB = none ∨ aB.map (·.block) ≠ aA.map (·.block) := by
    cases aB with
    | none => exact Or.inl rfl
    | some p =>
      right
      cases aA with
      | none => simp
      | some q => have := hab q.block p.block rfl rfl; simp; omega
  refine Try.apart_any w.heap.size 2 (fun k => if k = 0 then aA else aB) (fun _ => cur.length) (fun _ => cur) _ ⟨?_, ?_, fun _ => by omega, fun _ => hval, by decide⟩ ⟨?_, ?_, ?_⟩
  · intro j k hj hk hne
    have hj' : j = 0 ∨ j = 1 := by omega
    have hk' : k = 0 ∨ k = 1 := by omega
    rcases hj' with rfl | rfl <;> rcases hk' with rfl | rfl
    · exact absurd rfl hne
    · exact hn
    · exact hn'
    · exact absurd rfl hne
  · intro k hk e
    have hk' : k = 0 ∨ k = 1 := by omega
    rcases hk' with rfl | rfl
    · have := hA.lt _ e; omega
    · have := hB.lt _ e; omega
  · intro k hk
    have hk' : k = 0 ∨ k = 1 := by omega
    rcases hk' with rfl | rfl <;> (unfold World.cell?; simp only; rw [hnew]; rfl)
  · intro k hk
    have hk' : k = 0 ∨ k = 1 := by omega
    rcases hk' with rfl | rfl
    · exact hA.up hal
    · exact hB.up hal
  · simp

set_option maxHeartbeats 2000000 in
theorem Try.law_any (a0 : Option Addr) (l0 c0 : Nat) (ss : List ByteArray) (a1 : Option Addr) (l1 c1 : Nat) (os : List ByteArray) (x n : Int) (s : ByteArray) (w : World)
    (hS : StrSl Try.prog 22 w a0 l0 c0 (adOf a0) ss) (hO : StrSl Try.prog 22 w a1 l1 c1 (adOf a1) os) (hx0 : 0 ≤ x) (hx1 : x < 256) (hs : s.size ≤ maxLen) :
    Calls Try.prog 3 #[.slice a0 l0 c0, .slice a1 l1 c1, .int .u8 x, .int .i64 n, .string s] w fun e w' => e = .returned (.bool true) ∧ Below w.heap.size w w' := by
  have hlg0 : Calls Try.prog 4 #[.slice a0 l0 c0] w fun e w' => LargeR l0 e ∧ w = w' := (Try.large_any a0 l0 c0 _ ss w hS).mono fun e w' ⟨h1, h2⟩ => ⟨h1, h2.symm⟩
  have hlg1 : Calls Try.prog 4 #[.slice a1 l1 c1] w fun e w' => LargeR l1 e ∧ w = w' := (Try.large_any a1 l1 c1 _ os w hO).mono fun e w' ⟨h1, h2⟩ => ⟨h1, h2.symm⟩
  go_enter Try.func3, Try.ntmps3
  go_wp2_with fail
  refine hlg0.mono ?_
  rintro e w' ⟨⟨b0, rfl, hb0⟩, rfl⟩
  clear hlg0
  cases b0 with
  | true =>
    go_wp2
    go_ret
    exact ⟨rfl, Below.refl _ _⟩
  | false =>
    have h20 : l0 ≤ 20 := hb0 rfl
    clear hb0
    go_wp2_with fail
    refine hlg1.mono ?_
    rintro e w' ⟨⟨b1, rfl, hb1⟩, rfl⟩
    clear hlg1
    cases b1 with
    | true =>
      go_wp2
      go_ret
      exact ⟨rfl, Below.refl _ _⟩
    | false =>
      have h21 : l1 ≤ 20 := hb1 rfl
      clear hb1
      by_cases h2000 : 2000 < s.size
      · go_wp2
        go_ret
        exact ⟨rfl, Below.refl _ _⟩
      · go_wp2_with fail
        refine (Try.lentT_any a0 l0 c0 ss w hS h20).mono ?_
        rintro e w1 ⟨rfl, hR1, hb1⟩
        have hO1 := hO.up hb1
        go_wp2_with fail
        refine (Try.lentT_any a1 l1 c1 os w1 hO1 h21).mono ?_
        rintro e w2 ⟨rfl, hR2, hb2⟩
        have hB2 : Below w.heap.size w w2 := hb1.trans (hb2.mono hb1.size)
        have hP2 := (hR1.up hb2).lentSl hS.hlen hS.sz h20
        have hQ2 := hR2.lentSl hO.hlen hO.sz h21
        go_wp2_with fail
        refine (Try.of_any _ _ _ _ ss _ _ _ _ os w2 hP2 hQ2).mono ?_
        rintro e w3 ⟨rfl, hb3⟩
        have hB3 : Below w.heap.size w w3 := hB2.trans (hb3.mono hB2.size)
        go_wp2_with fail
        refine (Try.rof_any _ _ _ _ ss _ _ _ _ os w3 (hS.up hB3) (hO.up hB3)).mono ?_
        rintro e w4 ⟨rfl, hw4⟩
        have hb4 := drew_below hw4.out
        have hB4 : Below w.heap.size w w4 := hB3.trans (hb4.mono hB3.size)
        go_wp2_with fail
        refine (Try.allR n w4).mono ?_
        rintro e w5 ⟨aA, rfl, hA5, hAb, hb5⟩
        go_wp2_with fail
        refine (Try.allR n w5).mono ?_
        rintro e w6 ⟨aB, rfl, hB6, hBb, hb6⟩
        have hA6 := hA5.up hb6
        have hlen := allCur_bd n
        have hval := allCur_val n
        have hB6' : Below w.heap.size w w6 := hB4.trans ((hb5.trans (hb6.mono hb5.size)).mono hB4.size)
        have hP6 := hP2.up (hb3.trans ((hb4.trans ((hb5.trans (hb6.mono hb5.size)).mono hb4.size)).mono hb3.size))
        have hR6 := (hR1.up hb2).up (hb3.trans ((hb4.trans ((hb5.trans (hb6.mono hb5.size)).mono hb4.size)).mono hb3.size))
        have hT6 := hR2.up (hb3.trans ((hb4.trans ((hb5.trans (hb6.mono hb5.size)).mono hb4.size)).mono hb3.size))
        have hab : ∀ b b', aA.map (·.block) = some b → aB.map (·.block) = some b' → b < b' := fun b b' h h' => by
          have h1 := hA5.lt b h; have h2 := hBb b' h'; omega
        generalize hcr : allCur n = cur at *
        have HCR : Hid (allCur n = cur) := hcr
        clear hcr hA5 hAb hBb hb1 hb2 hb3 hb4 hb5 hb6 hB2 hB3 hB4 hR1 hR2 hw4 hO1 hP2 hQ2
        go_wp2_with fail
        refine (Try.name_any s w6 hs).mono ?_
        rintro e w6' ⟨rfl, hw⟩
        subst hw
        go_wp2_with fail
        refine (Try.rname_any s _ hs).mono ?_
        rintro e w6' ⟨rfl, hw⟩
        subst hw
        go_wp2_with fail
        refine (Try.check_any _ _ _ _ ss _ hP6).mono ?_
        rintro e w7 ⟨rfl, hb7⟩
        go_wp2_with fail
        refine (Try.rcheck_any _ _ _ _ ss _ ((hS.up hB6').up hb7)).mono ?_
        rintro e w8 ⟨rfl, hw8⟩
        have hb8 := drew_below hw8
        clear hw8
        go_wp2_with fail
        refine (Try.fits_any n x _).mono ?_
        rintro e w8' ⟨rfl, hw⟩
        subst hw
        go_wp2_with fail
        refine (Try.rfits_any n x _ hx0 hx1).mono ?_
        rintro e w8' ⟨rfl, hw⟩
        subst hw
        have hra : ∀ W, Calls Try.prog 16 #[.int .i64 n] W fun e w' => ∃ a cap, e = .returned (.slice a cur.length cap) ∧ IntSl Try.prog 29 .u8 w' a cur.length cap cur ∧ Below W.heap.size W w' := fun W => by
          have := Try.rallR n W; unfold Try.RAllR at this; rw [HCR.out] at this; exact this
        have hb78 := hb7.trans (hb8.mono hb7.size)
        clear hb7 hb8 hP6
        have hA8 := hA6.up hb78
        have hB8 := hB6.up hb78
        have hB8' := hB6'.trans (hb78.mono hB6'.size)
        have hR8 := hR6.up hb78
        have hT8 := hT6.up hb78
        clear hA6 hB6 hB6' hR6 hT6 hb78
        go_wp2_with fail
        refine (hra _).mono ?_
        rintro e w9 ⟨a9, c9, rfl, hI9, hb9⟩
        clear hra
        have hA9 := hA8.up hb9
        have hB9 := hB8.up hb9
        have hB9' := hB8'.trans (hb9.mono hB8'.size)
        have hR9 := hR8.up hb9
        have hT9 := hT8.up hb9
        clear hA8 hB8 hB8' hR8 hT8 hb9
        have hAi := hA9.intSl (P := Try.prog) (T := 29) Try.underlying29 Try.sizeLet (by unfold maxLen; omega)
        have hBi := hB9.intSl (P := Try.prog) (T := 29) Try.underlying29 Try.sizeLet (by unfold maxLen; omega)
        go_wp2_with fail
        refine (Try.same_any _ _ _ _ _ _ _ _ _ hAi hI9).mono ?_
        rintro e w10 ⟨rfl, hw10⟩
        have hb10 := drew_below hw10
        clear hw10 hI9
        have htt : decide (cur = cur) = true := by simp
        go_wp2_with fail
        refine (Try.same_any _ _ _ _ _ _ _ _ _ (hBi.up hb10) (hAi.up hb10)).mono ?_
        rintro e w11 ⟨rfl, hw11⟩
        have hb11 := drew_below hw11
        clear hw11 hAi hBi
        have hbb := hb10.trans (hb11.mono hb10.size)
        clear hb10 hb11
        have hA10 := hA9.up hbb
        have hB10 := hB9.up hbb
        have hB10' := hB9'.trans (hbb.mono hB9'.size)
        have hR10 := hR9.up hbb
        have hT10 := hT9.up hbb
        clear hA9 hB9 hB9' hR9 hT9 hbb
        have hap := Try.apart_two w11 aA aB cur hA10 hB10 hab hlen hval
        have hal : Below w11.heap.size w11 (w11.alloc (.cells #[.slice aA cur.length cur.length, .slice aB cur.length cur.length] 29)) := (Below.refl _ _).alloc (Nat.le_refl _) _
        go_wp2_with fail
        refine hap.mono ?_
        rintro e w12 ⟨rfl, hb12⟩
        have hb12' : Below w11.heap.size w11 w12 := hal.trans (hb12.mono (by simp))
        have hB12' := hB10'.trans (hb12'.mono hB10'.size)
        have hR12 := hR10.up hb12'
        have hT12 := hT10.up hb12'
        clear hap hal hb12 hb12' hA10 hB10 hR10 hT10 hB10' htt
        go_wp2_with fail
        refine (Try.keptT_any _ l0 a0 c0 _ ss w12 hR12 (hS.up hB12') h20).mono ?_
        rintro e w13 ⟨rfl, hw13⟩
        have hb13 := drew_below hw13.out
        clear hw13
        go_wp2_with fail
        refine (Try.keptT_any _ l1 a1 c1 _ os w13 (hT12.up hb13) ((hO.up hB12').up hb13) h21).mono ?_
        rintro e w14 ⟨rfl, hw14⟩
        have hb14 := drew_below hw14.out
        clear hw14
        go_wp2
        go_ret
        exact ⟨rfl, hB12'.trans ((hb13.trans (hb14.mono hb13.size)).mono hB12'.size)⟩
end Go.Proofs.Ytmmjihalpmahnaa
