/- The law LetterTexts, walked: whatever names, letter, trace, text and number come in, it answers true and leaves all that was there. -/
import Derived.Test.YtmmjihalpmahnaaDoorWLent
namespace Go.Proofs.YtmmjihalpmahnaaDoor
open Go.RowKit Go.Maps

theorem parseT_cur (ns : List Bytes) (s : Bytes) : (parseTE ns s).1.length ≤ 1024 ∧ ∀ z ∈ (parseTE ns s).1, 0 ≤ z ∧ z < 256 := by
  have h0 : ∀ n : Int, (([], n) : List Int × Int).1.length ≤ 1024 ∧ ∀ z ∈ (([], n) : List Int × Int).1, 0 ≤ z ∧ z < 256 := fun n => ⟨by simp, fun z hz => by simp at hz⟩
  unfold parseTE
  by_cases hz : checkE ns = 0
  · rw [if_pos hz]
    split
    · exact h0 _
    · split
      · exact h0 _
      · split
        · exact h0 _
        · rename_i hl
          cases hr : readAll ns (cut 59 s) with
          | none => exact h0 _
          | some u =>
            have hsome : ∀ p ∈ cut 59 s, (readL ns p).isSome = true := fun p hp => by
              cases hrp : readL ns p with
              | some l => rfl
              | none => rw [readAll_none hp hrp] at hr; cases hr
            have hall := readAll_some hsome
            rw [hr] at hall
            injection hall with hall
            subst hall
            refine ⟨by simp only [ptOf, List.length_map]; omega, fun z hzz => ?_⟩
            simp only [ptOf] at hzz
            obtain ⟨p, hp, rfl⟩ := List.mem_map.1 hzz
            have h1 := hsome p hp
            cases hrp : readL ns p with
            | none => rw [hrp] at h1; cases h1
            | some l =>
              obtain ⟨y, rfl, hy, _⟩ := text_read hz hrp
              have h8 := checkE_len hz
              have hy2 : y < 2 ^ 8 := Nat.lt_of_lt_of_le hy (Nat.pow_le_pow_right (by decide) h8)
              unfold rd; rw [hrp]; simp only [Option.getD_some]; omega
  · rw [if_neg hz]; exact h0 _

theorem RowS.lentSl {w : World} {g l : Nat} {ss : List ByteArray} (hR : RowS w 9 g (lent ss)) (hl : ss.length = l) (hz : ∀ k, (ss.getD k ByteArray.empty).size ≤ maxLen) (h20 : l ≤ 20) :
    StrSl Tryd.prog 22 w (some ⟨g, 0, none⟩) l (l + 3) (adOf (some ⟨g, 0, none⟩)) ss := by
  have := hR.strSl (P := Tryd.prog) (T := 22) (n := l) Tryd.underlying22 Tryd.sizeStr (by rw [lent_len]; omega) (by rw [lent_len]; unfold maxLen; omega) (fun s hs => by
    unfold lent at hs
    rcases List.mem_append.1 hs with h | h
    · obtain ⟨i, hi⟩ := List.getElem?_of_mem h
      have := hz i
      rwa [List.getD_eq_getElem?_getD, hi] at this
    · have := List.eq_of_mem_replicate h; subst this; simp [maxLen, ByteArray.size_empty])
  rw [lent_len, ← hl, lent_take] at this
  rw [← hl]; exact this

theorem blocks_ne {aA aB : Option Addr} (hab : ∀ b b', aA.map (·.block) = some b → aB.map (·.block) = some b' → b < b') : (aA = none ∨ aA.map (·.block) ≠ aB.map (·.block)) ∧ (aB = none ∨ aB.map (·.block) ≠ aA.map (·.block)) := by
  cases aA with
  | none => exact ⟨Or.inl rfl, by cases aB with | none => exact Or.inl rfl | some q => right; simp⟩
  | some p =>
    cases aB with
    | none => exact ⟨Or.inr (by simp), Or.inl rfl⟩
    | some q => have := hab p.block q.block rfl rfl; exact ⟨Or.inr (by simp; omega), Or.inr (by simp; omega)⟩

def three (aU aA aB : Option Addr) (k : Nat) : Option Addr := if k = 0 then aU else if k = 1 then aA else aB
def threeL (u c : List Int) (k : Nat) : List Int := if k = 0 then u else c
def threeN (n m k : Nat) : Nat := if k = 0 then n else m
def Tryd.lists (gu tlen : Nat) (aA aB : Option Addr) (m : Nat) : Obj := .cells #[.slice (some ⟨gu, 0, none⟩) tlen (tlen + 3), .slice aA m m, .slice aB m m] 24
theorem Tryd.apart_three (w : World) (gu tlen : Nat) (zs : List Int) (aA aB : Option Addr) (cur : List Int) (hU : RowAt w 23 gu (lentL zs)) (hl : zs.length = tlen) (h20 : tlen ≤ 2000) (hv : ∀ z ∈ zs, 0 ≤ z ∧ z < 256)
    (hA : RowOf w 23 aA cur) (hB : RowOf w 23 aB cur) (hua : ∀ b, aA.map (·.block) = some b → gu < b) (hub : ∀ b, aB.map (·.block) = some b → gu < b) (hab : ∀ b b', aA.map (·.block) = some b → aB.map (·.block) = some b' → b < b') (hlen : cur.length ≤ 1024) (hval : ∀ z ∈ cur, 0 ≤ z ∧ z < 256) :
    Calls Tryd.prog 23 #[.slice (some ⟨w.heap.size, 0, none⟩) 3 3] (w.alloc (Tryd.lists gu tlen aA aB cur.length)) fun e w' =>
      e = .returned (.bool true) ∧ Below w.heap.size w w' := by
  have hal : Below w.heap.size w (w.alloc (Tryd.lists gu tlen aA aB cur.length)) := (Below.refl _ _).alloc (Nat.le_refl _) _
  have hnew := (MapKept.heap_alloc w (Tryd.lists gu tlen aA aB cur.length)).1
  have k3 : ∀ {k : Nat}, k < 3 → k = 0 ∨ k = 1 ∨ k = 2 := fun h => by omega
  have hll := lentL_len zs
  have h1 := blocks_ne (aA := some ⟨gu, 0, none⟩) (aB := aA) (fun b b' h h' => by cases h; exact hua b' h')
  have h2 := blocks_ne (aA := some ⟨gu, 0, none⟩) (aB := aB) (fun b b' h h' => by cases h; exact hub b' h')
  have h3 := blocks_ne hab
  refine (Tryd.apart_any w.heap.size 3 (three (some ⟨gu, 0, none⟩) aA aB) (threeN tlen cur.length) (threeL (lentL zs) cur) _ ⟨?_, ?_, ?_, ?_, by decide⟩ ⟨?_, ?_, ?_⟩).mono fun e w' ⟨he, hb⟩ => ⟨he, hal.trans (hb.mono (by simp))⟩
  · intro j k hj hk hne
    rcases k3 hj with rfl | rfl | rfl <;> rcases k3 hk with rfl | rfl | rfl
    · exact absurd rfl hne
    · exact h1.1
    · exact h2.1
    · exact h1.2
    · exact absurd rfl hne
    · exact h3.1
    · exact h2.2
    · exact h3.2
    · exact absurd rfl hne
  · intro k hk e
    rcases k3 hk with rfl | rfl | rfl
    · have h := hU.lt; have e' : some gu = some w.heap.size := e; injection e' with e'; omega
    · have := hA.lt _ e; omega
    · have := hB.lt _ e; omega
  · intro k; unfold threeL; split
    · rw [hll]; omega
    · omega
  · intro k; unfold threeL; split
    · exact lentL_val hv
    · exact hval
  · intro k hk
    unfold World.cell?; simp only; rw [hnew]
    rcases k3 hk with rfl | rfl | rfl
    · simp only [threeL, three, threeN, if_pos]; rw [hll, hl]; rfl
    · rfl
    · rfl
  · intro k hk
    rcases k3 hk with rfl | rfl | rfl
    · exact Or.inr ⟨gu, rfl, hU.up hal⟩
    · exact hA.up hal
    · exact hB.up hal
  · simp

set_option maxRecDepth 100000 in
set_option maxHeartbeats 4000000 in
theorem Tryd.ltexts_aa (a : Option Addr) (len cap : Nat) (ss : List ByteArray) (x : Int) (ta : Option Addr) (tlen tcap : Nat) (zs : List Int) (s : ByteArray) (n : Int) (w : World) (hS : StrSl Tryd.prog 22 w a len cap (adOf a) ss)
    (hT : IntSl Tryd.prog 24 .u8 w ta tlen tcap zs) (hv : ∀ z ∈ zs, 0 ≤ z ∧ z < 256) (hx0 : 0 ≤ x) (hx1 : x < 256) (hs : s.size ≤ maxLen) (hm : MaxOk w)
    (h1 : tlen ≤ 60) (h2 : s.size ≤ 600) :
    Calls Tryd.prog 3 #[.slice a len cap, .int .u8 x, .slice ta tlen tcap, .string s, .int .i64 n] w fun e w' => e = .returned (.bool true) ∧ Below w.heap.size w w' := by
  have ht20 : tlen ≤ 2000 := by omega
  have hs20 : s.size ≤ 5000 := by omega
  have hpc := parseT_cur (nms ss) s.toList
  have hlg : Calls Tryd.prog 7 #[.slice a len cap] w fun e w' => LargeR len e ∧ w = w' := (Tryd.large_any a len cap _ ss w hS).mono fun e w' ⟨h1, h2⟩ => ⟨h1, h2.symm⟩
  have hzl := hT.hlen
  go_enter Tryd.func3, Tryd.ntmps3
  go_wp2_with fail
  refine hlg.mono ?_
  rintro e w' ⟨⟨b0, rfl, hb0⟩, rfl⟩
  clear hlg
  cases b0 with
  | true =>
    go_wp2
    go_ret
    exact ⟨rfl, Below.refl _ _⟩
  | false =>
    have h20 : len ≤ 20 := hb0 rfl
    clear hb0
    go_wp2_with fail
    refine (Tryd.lentT_any a len cap ss w hS h20).mono ?_
    rintro e w1 ⟨rfl, hR1, hb1⟩
    go_wp2_with fail
    refine (Tryd.lentL_any ta tlen tcap zs w1 (hT.up hb1) ht20).mono ?_
    rintro e w2 ⟨rfl, hU2, hb2⟩
    have hB2 : Below w.heap.size w w2 := hb1.trans (hb2.mono hb1.size)
    have hR2 := hR1.up hb2
    have hgu := hU2.lt
    have hS2 := hS.up hB2
    have hT2 := hT.up hB2
    have hP2 := hR2.lentSl hS.hlen hS.sz h20
    have hL2 := Tryd.lentL_slen hU2 hzl ht20
    have hm2 := hm.up hB2
    clear hR1 hb1 hb2 hS hT hm
    generalize w1.heap.size = gu at *
    have c1 := fun W (hW : Below w2.heap.size w2 W) => Tryd.print_any _ _ _ _ ss x W (hP2.up hW) hx0 hx1
    have c2 := fun W (hW : Below w2.heap.size w2 W) => Tryd.rprint_any _ _ _ _ ss x W (hS2.up hW) hx0 hx1
    have c3 := fun W (hW : Below w2.heap.size w2 W) => Tryd.parse_any _ _ _ _ ss s W (hP2.up hW) hs (hm2.up hW)
    have c4 := fun W (hW : Below w2.heap.size w2 W) => Tryd.rparse_any _ _ _ _ ss s W (hS2.up hW)
    have c5 := fun W (hW : Below w2.heap.size w2 W) => Tryd.printT_any _ _ _ _ ss _ _ _ zs W (hP2.up hW) (hL2.up hW) hv
    have c6 := fun W (hW : Below w2.heap.size w2 W) => Tryd.rprintT_any _ _ _ _ ss _ _ _ zs W (hS2.up hW) (hT2.up hW) hv
    have c7 := fun W (hW : Below w2.heap.size w2 W) => Tryd.parseT_any _ _ _ _ ss s W (hP2.up hW) hs (hm2.up hW)
    have c8 := fun W (hW : Below w2.heap.size w2 W) => Tryd.rparseT_any _ _ _ _ ss s W (hS2.up hW) hs
    have c9 := fun W (hW : Below w2.heap.size w2 W) => Tryd.trace_any n _ _ _ zs W (hL2.up hW)
    have c10 := fun W (hW : Below w2.heap.size w2 W) => Tryd.rtrace_any n _ _ _ zs W (hT2.up hW) hv
    have c11 := fun W (hW : Below w2.heap.size w2 W) => Tryd.keptT_any w.heap.size len a cap _ ss W (hR2.up hW) (hS2.up hW) h20
    have c12 := fun W (hW : Below w2.heap.size w2 W) => Tryd.keptL_any gu tlen ta tcap zs W (hU2.up hW) (hT2.up hW) ht20
    have c13 := fun W (hW : Below w2.heap.size w2 W) aA aB cur => Tryd.apart_three W gu tlen zs aA aB cur (hU2.up hW) hzl ht20 hv
    clear hS2 hT2 hP2 hL2 hm2 hR2 hU2 hv hzl hx0 hx1
    unfold PrintR at c1 c2 c5 c6
    unfold ParseR at c3 c4
    generalize printB x ss = p1 at *
    generalize printTB zs ss = p2 at *
    generalize parseE (nms ss) s.toList = p3 at *
    generalize parseTE (nms ss) s.toList = p4 at *
    generalize traceE n zs = p5 at *
    obtain ⟨t1, e1⟩ := p1
    obtain ⟨t2, e2⟩ := p2
    obtain ⟨l3, e3⟩ := p3
    obtain ⟨cur, e4⟩ := p4
    go_wp2_with fail
    refine (c1 w2 (Below.refl _ _)).mono ?_
    rintro e w3 ⟨rfl, hb3⟩
    go_wp2_with fail
    refine (c2 w3 hb3).mono ?_
    rintro e w4 ⟨rfl, hb4⟩
    have hB4 := hb3.trans (hb4.mono hb3.size)
    clear c1 c2 hb3 hb4
    go_wp2_with fail
    refine (c3 w4 hB4).mono ?_
    rintro e w5 ⟨rfl, hb5⟩
    have hB5 := hB4.trans (hb5.mono hB4.size)
    go_wp2_with fail
    refine (c4 w5 hB5).mono ?_
    rintro e w6 ⟨rfl, hb6⟩
    have hB6 := hB5.trans (hb6.mono hB5.size)
    clear c3 c4 hb5 hb6 hB4 hB5
    go_wp2_with fail
    refine (c5 w6 hB6).mono ?_
    rintro e w7 ⟨rfl, hb7⟩
    have hB7 := hB6.trans (hb7.mono hB6.size)
    go_wp2_with fail
    refine (c6 w7 hB7).mono ?_
    rintro e w8 ⟨rfl, hb8⟩
    have hB8 := hB7.trans (hb8.mono hB7.size)
    clear c5 c6 hb7 hb8 hB6 hB7
    go_wp2_with fail
    refine (c7 w8 hB8).mono ?_
    rintro e w9 ⟨aA, rfl, hA9, hAb, hb9⟩
    have hB9 := hB8.trans (hb9.mono hB8.size)
    go_wp2_with fail
    refine (c7 w9 hB9).mono ?_
    rintro e w10 ⟨aB, rfl, hB10', hBb, hb10⟩
    have hB10 := hB9.trans (hb10.mono hB9.size)
    have hA10 := hA9.up hb10
    have hua : ∀ b, aA.map (·.block) = some b → gu < b := fun b h => by have h1 := hAb b h; have h2 := hB8.size; omega
    have hub : ∀ b, aB.map (·.block) = some b → gu < b := fun b h => by have h1 := hBb b h; have h2 := hB9.size; omega
    have hab : ∀ b b', aA.map (·.block) = some b → aB.map (·.block) = some b' → b < b' := fun b b' h h' => by
      have h1 := hA9.lt b h; have h2 := hBb b' h'; omega
    clear c7 hA9 hAb hBb hb9 hb10 hB8 hB9
    go_wp2_with fail
    refine (c8 w10 hB10).mono ?_
    rintro e w11 ⟨a9, c9', rfl, hI, hb11⟩
    have hB11 := hB10.trans (hb11.mono hB10.size)
    have hA11 := hA10.up hb11
    have hB11' := hB10'.up hb11
    clear c8 hA10 hB10' hB10 hb11
    dsimp only at hpc hA11 hB11' hI
    have hlen := hpc.1
    have hAi := hA11.intSl (P := Tryd.prog) (T := 24) Tryd.underlying24 Tryd.sizeLet (by unfold maxLen; omega)
    have hBi := hB11'.intSl (P := Tryd.prog) (T := 24) Tryd.underlying24 Tryd.sizeLet (by unfold maxLen; omega)
    have d1 : ∀ W, Below w11.heap.size w11 W → Calls Tryd.prog 18 #[.slice aA cur.length cur.length, .slice a9 cur.length c9'] W fun e w' => e = .returned (.bool true) ∧ Below W.heap.size W w' := fun W hW =>
      (Tryd.same_any _ _ _ _ _ _ _ _ W (hAi.up hW) (hI.up hW)).mono fun e w' ⟨he, hn⟩ => ⟨by rw [he]; simp, drew_below hn⟩
    have d2 : ∀ W, Below w11.heap.size w11 W → Calls Tryd.prog 18 #[.slice aB cur.length cur.length, .slice a9 cur.length c9'] W fun e w' => e = .returned (.bool true) ∧ Below W.heap.size W w' := fun W hW =>
      (Tryd.same_any _ _ _ _ _ _ _ _ W (hBi.up hW) (hI.up hW)).mono fun e w' ⟨he, hn⟩ => ⟨by rw [he]; simp, drew_below hn⟩
    have d3 := fun W (hW : Below w11.heap.size w11 W) => c13 W (hB11.trans (hW.mono hB11.size)) aA aB cur (hA11.up hW) (hB11'.up hW) hua hub hab hlen hpc.2
    have HB : Hid (Below w.heap.size w w11) := hB2.trans (hB11.mono hB2.size)
    clear c13 hAi hBi hI hA11 hB11' hua hub hab hpc hB2
    generalize cur.length = m at *
    go_wp2_with fail
    refine (d1 w11 (Below.refl _ _)).mono ?_
    rintro e w12 ⟨rfl, hb12⟩
    go_wp2_with fail
    refine (d2 w12 hb12).mono ?_
    rintro e w13 ⟨rfl, hb13⟩
    have hC13 := hb12.trans (hb13.mono hb12.size)
    have hB13 := hB11.trans (hC13.mono hB11.size)
    clear d1 d2 hb12 hb13
    go_wp2_with fail
    refine (c9 w13 hB13).mono ?_
    rintro e w13' ⟨rfl, hw⟩
    subst hw
    go_wp2_with fail
    refine (c10 _ hB13).mono ?_
    rintro e w13' ⟨rfl, hw⟩
    subst hw
    clear c9 c10
    go_wp2_with fail
    refine (c11 _ hB13).mono ?_
    rintro e w14 ⟨rfl, hw14⟩
    have hb14 := drew_below hw14.out
    have hC14 := hC13.trans (hb14.mono hC13.size)
    have hB14 := hB11.trans (hC14.mono hB11.size)
    clear c11 hw14 hb14 hC13 hB13
    go_wp2_with fail
    refine (c12 _ hB14).mono ?_
    rintro e w15 ⟨rfl, hb15⟩
    have hC15 := hC14.trans (hb15.mono hC14.size)
    have d4 := d3 w15 hC15
    unfold Tryd.lists at d4
    clear c12 d3 hb15 hC14 hB14 hB11
    go_wp2_with fail
    refine d4.mono ?_
    rintro e w16 ⟨rfl, hb16⟩
    clear d4
    go_wp2
    go_ret
    exact ⟨rfl, HB.out.trans ((hC15.trans (hb16.mono hC15.size)).mono HB.out.size)⟩

set_option maxRecDepth 100000 in
set_option maxHeartbeats 4000000 in
theorem Tryd.ltexts_ab (a : Option Addr) (len cap : Nat) (ss : List ByteArray) (x : Int) (ta : Option Addr) (tlen tcap : Nat) (zs : List Int) (s : ByteArray) (n : Int) (w : World) (hS : StrSl Tryd.prog 22 w a len cap (adOf a) ss)
    (hT : IntSl Tryd.prog 24 .u8 w ta tlen tcap zs) (hv : ∀ z ∈ zs, 0 ≤ z ∧ z < 256) (hx0 : 0 ≤ x) (hx1 : x < 256) (hs : s.size ≤ maxLen) (hm : MaxOk w)
    (h1 : tlen ≤ 60) (h2 : 4096 < s.size) (h2b : s.size ≤ 4101) :
    Calls Tryd.prog 3 #[.slice a len cap, .int .u8 x, .slice ta tlen tcap, .string s, .int .i64 n] w fun e w' => e = .returned (.bool true) ∧ Below w.heap.size w w' := by
  have ht20 : tlen ≤ 2000 := by omega
  have hs20 : s.size ≤ 5000 := by omega
  have hpc := parseT_cur (nms ss) s.toList
  have hlg : Calls Tryd.prog 7 #[.slice a len cap] w fun e w' => LargeR len e ∧ w = w' := (Tryd.large_any a len cap _ ss w hS).mono fun e w' ⟨h1, h2⟩ => ⟨h1, h2.symm⟩
  have hzl := hT.hlen
  go_enter Tryd.func3, Tryd.ntmps3
  go_wp2_with fail
  refine hlg.mono ?_
  rintro e w' ⟨⟨b0, rfl, hb0⟩, rfl⟩
  clear hlg
  cases b0 with
  | true =>
    go_wp2
    go_ret
    exact ⟨rfl, Below.refl _ _⟩
  | false =>
    have h20 : len ≤ 20 := hb0 rfl
    clear hb0
    go_wp2_with fail
    refine (Tryd.lentT_any a len cap ss w hS h20).mono ?_
    rintro e w1 ⟨rfl, hR1, hb1⟩
    go_wp2_with fail
    refine (Tryd.lentL_any ta tlen tcap zs w1 (hT.up hb1) ht20).mono ?_
    rintro e w2 ⟨rfl, hU2, hb2⟩
    have hB2 : Below w.heap.size w w2 := hb1.trans (hb2.mono hb1.size)
    have hR2 := hR1.up hb2
    have hgu := hU2.lt
    have hS2 := hS.up hB2
    have hT2 := hT.up hB2
    have hP2 := hR2.lentSl hS.hlen hS.sz h20
    have hL2 := Tryd.lentL_slen hU2 hzl ht20
    have hm2 := hm.up hB2
    clear hR1 hb1 hb2 hS hT hm
    generalize w1.heap.size = gu at *
    have c1 := fun W (hW : Below w2.heap.size w2 W) => Tryd.print_any _ _ _ _ ss x W (hP2.up hW) hx0 hx1
    have c2 := fun W (hW : Below w2.heap.size w2 W) => Tryd.rprint_any _ _ _ _ ss x W (hS2.up hW) hx0 hx1
    have c3 := fun W (hW : Below w2.heap.size w2 W) => Tryd.parse_any _ _ _ _ ss s W (hP2.up hW) hs (hm2.up hW)
    have c4 := fun W (hW : Below w2.heap.size w2 W) => Tryd.rparse_any _ _ _ _ ss s W (hS2.up hW)
    have c5 := fun W (hW : Below w2.heap.size w2 W) => Tryd.printT_any _ _ _ _ ss _ _ _ zs W (hP2.up hW) (hL2.up hW) hv
    have c6 := fun W (hW : Below w2.heap.size w2 W) => Tryd.rprintT_any _ _ _ _ ss _ _ _ zs W (hS2.up hW) (hT2.up hW) hv
    have c7 := fun W (hW : Below w2.heap.size w2 W) => Tryd.parseT_any _ _ _ _ ss s W (hP2.up hW) hs (hm2.up hW)
    have c8 := fun W (hW : Below w2.heap.size w2 W) => Tryd.rparseT_any _ _ _ _ ss s W (hS2.up hW) hs
    have c9 := fun W (hW : Below w2.heap.size w2 W) => Tryd.trace_any n _ _ _ zs W (hL2.up hW)
    have c10 := fun W (hW : Below w2.heap.size w2 W) => Tryd.rtrace_any n _ _ _ zs W (hT2.up hW) hv
    have c11 := fun W (hW : Below w2.heap.size w2 W) => Tryd.keptT_any w.heap.size len a cap _ ss W (hR2.up hW) (hS2.up hW) h20
    have c12 := fun W (hW : Below w2.heap.size w2 W) => Tryd.keptL_any gu tlen ta tcap zs W (hU2.up hW) (hT2.up hW) ht20
    have c13 := fun W (hW : Below w2.heap.size w2 W) aA aB cur => Tryd.apart_three W gu tlen zs aA aB cur (hU2.up hW) hzl ht20 hv
    clear hS2 hT2 hP2 hL2 hm2 hR2 hU2 hv hzl hx0 hx1
    unfold PrintR at c1 c2 c5 c6
    unfold ParseR at c3 c4
    generalize printB x ss = p1 at *
    generalize printTB zs ss = p2 at *
    generalize parseE (nms ss) s.toList = p3 at *
    generalize parseTE (nms ss) s.toList = p4 at *
    generalize traceE n zs = p5 at *
    obtain ⟨t1, e1⟩ := p1
    obtain ⟨t2, e2⟩ := p2
    obtain ⟨l3, e3⟩ := p3
    obtain ⟨cur, e4⟩ := p4
    go_wp2_with fail
    refine (c1 w2 (Below.refl _ _)).mono ?_
    rintro e w3 ⟨rfl, hb3⟩
    go_wp2_with fail
    refine (c2 w3 hb3).mono ?_
    rintro e w4 ⟨rfl, hb4⟩
    have hB4 := hb3.trans (hb4.mono hb3.size)
    clear c1 c2 hb3 hb4
    go_wp2_with fail
    refine (c3 w4 hB4).mono ?_
    rintro e w5 ⟨rfl, hb5⟩
    have hB5 := hB4.trans (hb5.mono hB4.size)
    go_wp2_with fail
    refine (c4 w5 hB5).mono ?_
    rintro e w6 ⟨rfl, hb6⟩
    have hB6 := hB5.trans (hb6.mono hB5.size)
    clear c3 c4 hb5 hb6 hB4 hB5
    go_wp2_with fail
    refine (c5 w6 hB6).mono ?_
    rintro e w7 ⟨rfl, hb7⟩
    have hB7 := hB6.trans (hb7.mono hB6.size)
    go_wp2_with fail
    refine (c6 w7 hB7).mono ?_
    rintro e w8 ⟨rfl, hb8⟩
    have hB8 := hB7.trans (hb8.mono hB7.size)
    clear c5 c6 hb7 hb8 hB6 hB7
    go_wp2_with fail
    refine (c7 w8 hB8).mono ?_
    rintro e w9 ⟨aA, rfl, hA9, hAb, hb9⟩
    have hB9 := hB8.trans (hb9.mono hB8.size)
    go_wp2_with fail
    refine (c7 w9 hB9).mono ?_
    rintro e w10 ⟨aB, rfl, hB10', hBb, hb10⟩
    have hB10 := hB9.trans (hb10.mono hB9.size)
    have hA10 := hA9.up hb10
    have hua : ∀ b, aA.map (·.block) = some b → gu < b := fun b h => by have h1 := hAb b h; have h2 := hB8.size; omega
    have hub : ∀ b, aB.map (·.block) = some b → gu < b := fun b h => by have h1 := hBb b h; have h2 := hB9.size; omega
    have hab : ∀ b b', aA.map (·.block) = some b → aB.map (·.block) = some b' → b < b' := fun b b' h h' => by
      have h1 := hA9.lt b h; have h2 := hBb b' h'; omega
    clear c7 hA9 hAb hBb hb9 hb10 hB8 hB9
    go_wp2_with fail
    refine (c8 w10 hB10).mono ?_
    rintro e w11 ⟨a9, c9', rfl, hI, hb11⟩
    have hB11 := hB10.trans (hb11.mono hB10.size)
    have hA11 := hA10.up hb11
    have hB11' := hB10'.up hb11
    clear c8 hA10 hB10' hB10 hb11
    dsimp only at hpc hA11 hB11' hI
    have hlen := hpc.1
    have hAi := hA11.intSl (P := Tryd.prog) (T := 24) Tryd.underlying24 Tryd.sizeLet (by unfold maxLen; omega)
    have hBi := hB11'.intSl (P := Tryd.prog) (T := 24) Tryd.underlying24 Tryd.sizeLet (by unfold maxLen; omega)
    have d1 : ∀ W, Below w11.heap.size w11 W → Calls Tryd.prog 18 #[.slice aA cur.length cur.length, .slice a9 cur.length c9'] W fun e w' => e = .returned (.bool true) ∧ Below W.heap.size W w' := fun W hW =>
      (Tryd.same_any _ _ _ _ _ _ _ _ W (hAi.up hW) (hI.up hW)).mono fun e w' ⟨he, hn⟩ => ⟨by rw [he]; simp, drew_below hn⟩
    have d2 : ∀ W, Below w11.heap.size w11 W → Calls Tryd.prog 18 #[.slice aB cur.length cur.length, .slice a9 cur.length c9'] W fun e w' => e = .returned (.bool true) ∧ Below W.heap.size W w' := fun W hW =>
      (Tryd.same_any _ _ _ _ _ _ _ _ W (hBi.up hW) (hI.up hW)).mono fun e w' ⟨he, hn⟩ => ⟨by rw [he]; simp, drew_below hn⟩
    have d3 := fun W (hW : Below w11.heap.size w11 W) => c13 W (hB11.trans (hW.mono hB11.size)) aA aB cur (hA11.up hW) (hB11'.up hW) hua hub hab hlen hpc.2
    have HB : Hid (Below w.heap.size w w11) := hB2.trans (hB11.mono hB2.size)
    clear c13 hAi hBi hI hA11 hB11' hua hub hab hpc hB2
    generalize cur.length = m at *
    go_wp2_with fail
    refine (d1 w11 (Below.refl _ _)).mono ?_
    rintro e w12 ⟨rfl, hb12⟩
    go_wp2_with fail
    refine (d2 w12 hb12).mono ?_
    rintro e w13 ⟨rfl, hb13⟩
    have hC13 := hb12.trans (hb13.mono hb12.size)
    have hB13 := hB11.trans (hC13.mono hB11.size)
    clear d1 d2 hb12 hb13
    go_wp2_with fail
    refine (c9 w13 hB13).mono ?_
    rintro e w13' ⟨rfl, hw⟩
    subst hw
    go_wp2_with fail
    refine (c10 _ hB13).mono ?_
    rintro e w13' ⟨rfl, hw⟩
    subst hw
    clear c9 c10
    go_wp2_with fail
    refine (c11 _ hB13).mono ?_
    rintro e w14 ⟨rfl, hw14⟩
    have hb14 := drew_below hw14.out
    have hC14 := hC13.trans (hb14.mono hC13.size)
    have hB14 := hB11.trans (hC14.mono hB11.size)
    clear c11 hw14 hb14 hC13 hB13
    go_wp2_with fail
    refine (c12 _ hB14).mono ?_
    rintro e w15 ⟨rfl, hb15⟩
    have hC15 := hC14.trans (hb15.mono hC14.size)
    have d4 := d3 w15 hC15
    unfold Tryd.lists at d4
    clear c12 d3 hb15 hC14 hB14 hB11
    go_wp2_with fail
    refine d4.mono ?_
    rintro e w16 ⟨rfl, hb16⟩
    clear d4
    go_wp2
    go_ret
    exact ⟨rfl, HB.out.trans ((hC15.trans (hb16.mono hC15.size)).mono HB.out.size)⟩

set_option maxRecDepth 100000 in
set_option maxHeartbeats 4000000 in
theorem Tryd.ltexts_ba (a : Option Addr) (len cap : Nat) (ss : List ByteArray) (x : Int) (ta : Option Addr) (tlen tcap : Nat) (zs : List Int) (s : ByteArray) (n : Int) (w : World) (hS : StrSl Tryd.prog 22 w a len cap (adOf a) ss)
    (hT : IntSl Tryd.prog 24 .u8 w ta tlen tcap zs) (hv : ∀ z ∈ zs, 0 ≤ z ∧ z < 256) (hx0 : 0 ≤ x) (hx1 : x < 256) (hs : s.size ≤ maxLen) (hm : MaxOk w)
    (h1 : 1024 < tlen) (h1b : tlen ≤ 1029) (h2 : s.size ≤ 600) :
    Calls Tryd.prog 3 #[.slice a len cap, .int .u8 x, .slice ta tlen tcap, .string s, .int .i64 n] w fun e w' => e = .returned (.bool true) ∧ Below w.heap.size w w' := by
  have ht20 : tlen ≤ 2000 := by omega
  have hs20 : s.size ≤ 5000 := by omega
  have hpc := parseT_cur (nms ss) s.toList
  have hlg : Calls Tryd.prog 7 #[.slice a len cap] w fun e w' => LargeR len e ∧ w = w' := (Tryd.large_any a len cap _ ss w hS).mono fun e w' ⟨h1, h2⟩ => ⟨h1, h2.symm⟩
  have hzl := hT.hlen
  go_enter Tryd.func3, Tryd.ntmps3
  go_wp2_with fail
  refine hlg.mono ?_
  rintro e w' ⟨⟨b0, rfl, hb0⟩, rfl⟩
  clear hlg
  cases b0 with
  | true =>
    go_wp2
    go_ret
    exact ⟨rfl, Below.refl _ _⟩
  | false =>
    have h20 : len ≤ 20 := hb0 rfl
    clear hb0
    go_wp2_with fail
    refine (Tryd.lentT_any a len cap ss w hS h20).mono ?_
    rintro e w1 ⟨rfl, hR1, hb1⟩
    go_wp2_with fail
    refine (Tryd.lentL_any ta tlen tcap zs w1 (hT.up hb1) ht20).mono ?_
    rintro e w2 ⟨rfl, hU2, hb2⟩
    have hB2 : Below w.heap.size w w2 := hb1.trans (hb2.mono hb1.size)
    have hR2 := hR1.up hb2
    have hgu := hU2.lt
    have hS2 := hS.up hB2
    have hT2 := hT.up hB2
    have hP2 := hR2.lentSl hS.hlen hS.sz h20
    have hL2 := Tryd.lentL_slen hU2 hzl ht20
    have hm2 := hm.up hB2
    clear hR1 hb1 hb2 hS hT hm
    generalize w1.heap.size = gu at *
    have c1 := fun W (hW : Below w2.heap.size w2 W) => Tryd.print_any _ _ _ _ ss x W (hP2.up hW) hx0 hx1
    have c2 := fun W (hW : Below w2.heap.size w2 W) => Tryd.rprint_any _ _ _ _ ss x W (hS2.up hW) hx0 hx1
    have c3 := fun W (hW : Below w2.heap.size w2 W) => Tryd.parse_any _ _ _ _ ss s W (hP2.up hW) hs (hm2.up hW)
    have c4 := fun W (hW : Below w2.heap.size w2 W) => Tryd.rparse_any _ _ _ _ ss s W (hS2.up hW)
    have c5 := fun W (hW : Below w2.heap.size w2 W) => Tryd.printT_any _ _ _ _ ss _ _ _ zs W (hP2.up hW) (hL2.up hW) hv
    have c6 := fun W (hW : Below w2.heap.size w2 W) => Tryd.rprintT_any _ _ _ _ ss _ _ _ zs W (hS2.up hW) (hT2.up hW) hv
    have c7 := fun W (hW : Below w2.heap.size w2 W) => Tryd.parseT_any _ _ _ _ ss s W (hP2.up hW) hs (hm2.up hW)
    have c8 := fun W (hW : Below w2.heap.size w2 W) => Tryd.rparseT_any _ _ _ _ ss s W (hS2.up hW) hs
    have c9 := fun W (hW : Below w2.heap.size w2 W) => Tryd.trace_any n _ _ _ zs W (hL2.up hW)
    have c10 := fun W (hW : Below w2.heap.size w2 W) => Tryd.rtrace_any n _ _ _ zs W (hT2.up hW) hv
    have c11 := fun W (hW : Below w2.heap.size w2 W) => Tryd.keptT_any w.heap.size len a cap _ ss W (hR2.up hW) (hS2.up hW) h20
    have c12 := fun W (hW : Below w2.heap.size w2 W) => Tryd.keptL_any gu tlen ta tcap zs W (hU2.up hW) (hT2.up hW) ht20
    have c13 := fun W (hW : Below w2.heap.size w2 W) aA aB cur => Tryd.apart_three W gu tlen zs aA aB cur (hU2.up hW) hzl ht20 hv
    clear hS2 hT2 hP2 hL2 hm2 hR2 hU2 hv hzl hx0 hx1
    unfold PrintR at c1 c2 c5 c6
    unfold ParseR at c3 c4
    generalize printB x ss = p1 at *
    generalize printTB zs ss = p2 at *
    generalize parseE (nms ss) s.toList = p3 at *
    generalize parseTE (nms ss) s.toList = p4 at *
    generalize traceE n zs = p5 at *
    obtain ⟨t1, e1⟩ := p1
    obtain ⟨t2, e2⟩ := p2
    obtain ⟨l3, e3⟩ := p3
    obtain ⟨cur, e4⟩ := p4
    go_wp2_with fail
    refine (c1 w2 (Below.refl _ _)).mono ?_
    rintro e w3 ⟨rfl, hb3⟩
    go_wp2_with fail
    refine (c2 w3 hb3).mono ?_
    rintro e w4 ⟨rfl, hb4⟩
    have hB4 := hb3.trans (hb4.mono hb3.size)
    clear c1 c2 hb3 hb4
    go_wp2_with fail
    refine (c3 w4 hB4).mono ?_
    rintro e w5 ⟨rfl, hb5⟩
    have hB5 := hB4.trans (hb5.mono hB4.size)
    go_wp2_with fail
    refine (c4 w5 hB5).mono ?_
    rintro e w6 ⟨rfl, hb6⟩
    have hB6 := hB5.trans (hb6.mono hB5.size)
    clear c3 c4 hb5 hb6 hB4 hB5
    go_wp2_with fail
    refine (c5 w6 hB6).mono ?_
    rintro e w7 ⟨rfl, hb7⟩
    have hB7 := hB6.trans (hb7.mono hB6.size)
    go_wp2_with fail
    refine (c6 w7 hB7).mono ?_
    rintro e w8 ⟨rfl, hb8⟩
    have hB8 := hB7.trans (hb8.mono hB7.size)
    clear c5 c6 hb7 hb8 hB6 hB7
    go_wp2_with fail
    refine (c7 w8 hB8).mono ?_
    rintro e w9 ⟨aA, rfl, hA9, hAb, hb9⟩
    have hB9 := hB8.trans (hb9.mono hB8.size)
    go_wp2_with fail
    refine (c7 w9 hB9).mono ?_
    rintro e w10 ⟨aB, rfl, hB10', hBb, hb10⟩
    have hB10 := hB9.trans (hb10.mono hB9.size)
    have hA10 := hA9.up hb10
    have hua : ∀ b, aA.map (·.block) = some b → gu < b := fun b h => by have h1 := hAb b h; have h2 := hB8.size; omega
    have hub : ∀ b, aB.map (·.block) = some b → gu < b := fun b h => by have h1 := hBb b h; have h2 := hB9.size; omega
    have hab : ∀ b b', aA.map (·.block) = some b → aB.map (·.block) = some b' → b < b' := fun b b' h h' => by
      have h1 := hA9.lt b h; have h2 := hBb b' h'; omega
    clear c7 hA9 hAb hBb hb9 hb10 hB8 hB9
    go_wp2_with fail
    refine (c8 w10 hB10).mono ?_
    rintro e w11 ⟨a9, c9', rfl, hI, hb11⟩
    have hB11 := hB10.trans (hb11.mono hB10.size)
    have hA11 := hA10.up hb11
    have hB11' := hB10'.up hb11
    clear c8 hA10 hB10' hB10 hb11
    dsimp only at hpc hA11 hB11' hI
    have hlen := hpc.1
    have hAi := hA11.intSl (P := Tryd.prog) (T := 24) Tryd.underlying24 Tryd.sizeLet (by unfold maxLen; omega)
    have hBi := hB11'.intSl (P := Tryd.prog) (T := 24) Tryd.underlying24 Tryd.sizeLet (by unfold maxLen; omega)
    have d1 : ∀ W, Below w11.heap.size w11 W → Calls Tryd.prog 18 #[.slice aA cur.length cur.length, .slice a9 cur.length c9'] W fun e w' => e = .returned (.bool true) ∧ Below W.heap.size W w' := fun W hW =>
      (Tryd.same_any _ _ _ _ _ _ _ _ W (hAi.up hW) (hI.up hW)).mono fun e w' ⟨he, hn⟩ => ⟨by rw [he]; simp, drew_below hn⟩
    have d2 : ∀ W, Below w11.heap.size w11 W → Calls Tryd.prog 18 #[.slice aB cur.length cur.length, .slice a9 cur.length c9'] W fun e w' => e = .returned (.bool true) ∧ Below W.heap.size W w' := fun W hW =>
      (Tryd.same_any _ _ _ _ _ _ _ _ W (hBi.up hW) (hI.up hW)).mono fun e w' ⟨he, hn⟩ => ⟨by rw [he]; simp, drew_below hn⟩
    have d3 := fun W (hW : Below w11.heap.size w11 W) => c13 W (hB11.trans (hW.mono hB11.size)) aA aB cur (hA11.up hW) (hB11'.up hW) hua hub hab hlen hpc.2
    have HB : Hid (Below w.heap.size w w11) := hB2.trans (hB11.mono hB2.size)
    clear c13 hAi hBi hI hA11 hB11' hua hub hab hpc hB2
    generalize cur.length = m at *
    go_wp2_with fail
    refine (d1 w11 (Below.refl _ _)).mono ?_
    rintro e w12 ⟨rfl, hb12⟩
    go_wp2_with fail
    refine (d2 w12 hb12).mono ?_
    rintro e w13 ⟨rfl, hb13⟩
    have hC13 := hb12.trans (hb13.mono hb12.size)
    have hB13 := hB11.trans (hC13.mono hB11.size)
    clear d1 d2 hb12 hb13
    go_wp2_with fail
    refine (c9 w13 hB13).mono ?_
    rintro e w13' ⟨rfl, hw⟩
    subst hw
    go_wp2_with fail
    refine (c10 _ hB13).mono ?_
    rintro e w13' ⟨rfl, hw⟩
    subst hw
    clear c9 c10
    go_wp2_with fail
    refine (c11 _ hB13).mono ?_
    rintro e w14 ⟨rfl, hw14⟩
    have hb14 := drew_below hw14.out
    have hC14 := hC13.trans (hb14.mono hC13.size)
    have hB14 := hB11.trans (hC14.mono hB11.size)
    clear c11 hw14 hb14 hC13 hB13
    go_wp2_with fail
    refine (c12 _ hB14).mono ?_
    rintro e w15 ⟨rfl, hb15⟩
    have hC15 := hC14.trans (hb15.mono hC14.size)
    have d4 := d3 w15 hC15
    unfold Tryd.lists at d4
    clear c12 d3 hb15 hC14 hB14 hB11
    go_wp2_with fail
    refine d4.mono ?_
    rintro e w16 ⟨rfl, hb16⟩
    clear d4
    go_wp2
    go_ret
    exact ⟨rfl, HB.out.trans ((hC15.trans (hb16.mono hC15.size)).mono HB.out.size)⟩

set_option maxRecDepth 100000 in
set_option maxHeartbeats 4000000 in
theorem Tryd.ltexts_bb (a : Option Addr) (len cap : Nat) (ss : List ByteArray) (x : Int) (ta : Option Addr) (tlen tcap : Nat) (zs : List Int) (s : ByteArray) (n : Int) (w : World) (hS : StrSl Tryd.prog 22 w a len cap (adOf a) ss)
    (hT : IntSl Tryd.prog 24 .u8 w ta tlen tcap zs) (hv : ∀ z ∈ zs, 0 ≤ z ∧ z < 256) (hx0 : 0 ≤ x) (hx1 : x < 256) (hs : s.size ≤ maxLen) (hm : MaxOk w)
    (h1 : 1024 < tlen) (h1b : tlen ≤ 1029) (h2 : 4096 < s.size) (h2b : s.size ≤ 4101) :
    Calls Tryd.prog 3 #[.slice a len cap, .int .u8 x, .slice ta tlen tcap, .string s, .int .i64 n] w fun e w' => e = .returned (.bool true) ∧ Below w.heap.size w w' := by
  have ht20 : tlen ≤ 2000 := by omega
  have hs20 : s.size ≤ 5000 := by omega
  have hpc := parseT_cur (nms ss) s.toList
  have hlg : Calls Tryd.prog 7 #[.slice a len cap] w fun e w' => LargeR len e ∧ w = w' := (Tryd.large_any a len cap _ ss w hS).mono fun e w' ⟨h1, h2⟩ => ⟨h1, h2.symm⟩
  have hzl := hT.hlen
  go_enter Tryd.func3, Tryd.ntmps3
  go_wp2_with fail
  refine hlg.mono ?_
  rintro e w' ⟨⟨b0, rfl, hb0⟩, rfl⟩
  clear hlg
  cases b0 with
  | true =>
    go_wp2
    go_ret
    exact ⟨rfl, Below.refl _ _⟩
  | false =>
    have h20 : len ≤ 20 := hb0 rfl
    clear hb0
    go_wp2_with fail
    refine (Tryd.lentT_any a len cap ss w hS h20).mono ?_
    rintro e w1 ⟨rfl, hR1, hb1⟩
    go_wp2_with fail
    refine (Tryd.lentL_any ta tlen tcap zs w1 (hT.up hb1) ht20).mono ?_
    rintro e w2 ⟨rfl, hU2, hb2⟩
    have hB2 : Below w.heap.size w w2 := hb1.trans (hb2.mono hb1.size)
    have hR2 := hR1.up hb2
    have hgu := hU2.lt
    have hS2 := hS.up hB2
    have hT2 := hT.up hB2
    have hP2 := hR2.lentSl hS.hlen hS.sz h20
    have hL2 := Tryd.lentL_slen hU2 hzl ht20
    have hm2 := hm.up hB2
    clear hR1 hb1 hb2 hS hT hm
    generalize w1.heap.size = gu at *
    have c1 := fun W (hW : Below w2.heap.size w2 W) => Tryd.print_any _ _ _ _ ss x W (hP2.up hW) hx0 hx1
    have c2 := fun W (hW : Below w2.heap.size w2 W) => Tryd.rprint_any _ _ _ _ ss x W (hS2.up hW) hx0 hx1
    have c3 := fun W (hW : Below w2.heap.size w2 W) => Tryd.parse_any _ _ _ _ ss s W (hP2.up hW) hs (hm2.up hW)
    have c4 := fun W (hW : Below w2.heap.size w2 W) => Tryd.rparse_any _ _ _ _ ss s W (hS2.up hW)
    have c5 := fun W (hW : Below w2.heap.size w2 W) => Tryd.printT_any _ _ _ _ ss _ _ _ zs W (hP2.up hW) (hL2.up hW) hv
    have c6 := fun W (hW : Below w2.heap.size w2 W) => Tryd.rprintT_any _ _ _ _ ss _ _ _ zs W (hS2.up hW) (hT2.up hW) hv
    have c7 := fun W (hW : Below w2.heap.size w2 W) => Tryd.parseT_any _ _ _ _ ss s W (hP2.up hW) hs (hm2.up hW)
    have c8 := fun W (hW : Below w2.heap.size w2 W) => Tryd.rparseT_any _ _ _ _ ss s W (hS2.up hW) hs
    have c9 := fun W (hW : Below w2.heap.size w2 W) => Tryd.trace_any n _ _ _ zs W (hL2.up hW)
    have c10 := fun W (hW : Below w2.heap.size w2 W) => Tryd.rtrace_any n _ _ _ zs W (hT2.up hW) hv
    have c11 := fun W (hW : Below w2.heap.size w2 W) => Tryd.keptT_any w.heap.size len a cap _ ss W (hR2.up hW) (hS2.up hW) h20
    have c12 := fun W (hW : Below w2.heap.size w2 W) => Tryd.keptL_any gu tlen ta tcap zs W (hU2.up hW) (hT2.up hW) ht20
    have c13 := fun W (hW : Below w2.heap.size w2 W) aA aB cur => Tryd.apart_three W gu tlen zs aA aB cur (hU2.up hW) hzl ht20 hv
    clear hS2 hT2 hP2 hL2 hm2 hR2 hU2 hv hzl hx0 hx1
    unfold PrintR at c1 c2 c5 c6
    unfold ParseR at c3 c4
    generalize printB x ss = p1 at *
    generalize printTB zs ss = p2 at *
    generalize parseE (nms ss) s.toList = p3 at *
    generalize parseTE (nms ss) s.toList = p4 at *
    generalize traceE n zs = p5 at *
    obtain ⟨t1, e1⟩ := p1
    obtain ⟨t2, e2⟩ := p2
    obtain ⟨l3, e3⟩ := p3
    obtain ⟨cur, e4⟩ := p4
    go_wp2_with fail
    refine (c1 w2 (Below.refl _ _)).mono ?_
    rintro e w3 ⟨rfl, hb3⟩
    go_wp2_with fail
    refine (c2 w3 hb3).mono ?_
    rintro e w4 ⟨rfl, hb4⟩
    have hB4 := hb3.trans (hb4.mono hb3.size)
    clear c1 c2 hb3 hb4
    go_wp2_with fail
    refine (c3 w4 hB4).mono ?_
    rintro e w5 ⟨rfl, hb5⟩
    have hB5 := hB4.trans (hb5.mono hB4.size)
    go_wp2_with fail
    refine (c4 w5 hB5).mono ?_
    rintro e w6 ⟨rfl, hb6⟩
    have hB6 := hB5.trans (hb6.mono hB5.size)
    clear c3 c4 hb5 hb6 hB4 hB5
    go_wp2_with fail
    refine (c5 w6 hB6).mono ?_
    rintro e w7 ⟨rfl, hb7⟩
    have hB7 := hB6.trans (hb7.mono hB6.size)
    go_wp2_with fail
    refine (c6 w7 hB7).mono ?_
    rintro e w8 ⟨rfl, hb8⟩
    have hB8 := hB7.trans (hb8.mono hB7.size)
    clear c5 c6 hb7 hb8 hB6 hB7
    go_wp2_with fail
    refine (c7 w8 hB8).mono ?_
    rintro e w9 ⟨aA, rfl, hA9, hAb, hb9⟩
    have hB9 := hB8.trans (hb9.mono hB8.size)
    go_wp2_with fail
    refine (c7 w9 hB9).mono ?_
    rintro e w10 ⟨aB, rfl, hB10', hBb, hb10⟩
    have hB10 := hB9.trans (hb10.mono hB9.size)
    have hA10 := hA9.up hb10
    have hua : ∀ b, aA.map (·.block) = some b → gu < b := fun b h => by have h1 := hAb b h; have h2 := hB8.size; omega
    have hub : ∀ b, aB.map (·.block) = some b → gu < b := fun b h => by have h1 := hBb b h; have h2 := hB9.size; omega
    have hab : ∀ b b', aA.map (·.block) = some b → aB.map (·.block) = some b' → b < b' := fun b b' h h' => by
      have h1 := hA9.lt b h; have h2 := hBb b' h'; omega
    clear c7 hA9 hAb hBb hb9 hb10 hB8 hB9
    go_wp2_with fail
    refine (c8 w10 hB10).mono ?_
    rintro e w11 ⟨a9, c9', rfl, hI, hb11⟩
    have hB11 := hB10.trans (hb11.mono hB10.size)
    have hA11 := hA10.up hb11
    have hB11' := hB10'.up hb11
    clear c8 hA10 hB10' hB10 hb11
    dsimp only at hpc hA11 hB11' hI
    have hlen := hpc.1
    have hAi := hA11.intSl (P := Tryd.prog) (T := 24) Tryd.underlying24 Tryd.sizeLet (by unfold maxLen; omega)
    have hBi := hB11'.intSl (P := Tryd.prog) (T := 24) Tryd.underlying24 Tryd.sizeLet (by unfold maxLen; omega)
    have d1 : ∀ W, Below w11.heap.size w11 W → Calls Tryd.prog 18 #[.slice aA cur.length cur.length, .slice a9 cur.length c9'] W fun e w' => e = .returned (.bool true) ∧ Below W.heap.size W w' := fun W hW =>
      (Tryd.same_any _ _ _ _ _ _ _ _ W (hAi.up hW) (hI.up hW)).mono fun e w' ⟨he, hn⟩ => ⟨by rw [he]; simp, drew_below hn⟩
    have d2 : ∀ W, Below w11.heap.size w11 W → Calls Tryd.prog 18 #[.slice aB cur.length cur.length, .slice a9 cur.length c9'] W fun e w' => e = .returned (.bool true) ∧ Below W.heap.size W w' := fun W hW =>
      (Tryd.same_any _ _ _ _ _ _ _ _ W (hBi.up hW) (hI.up hW)).mono fun e w' ⟨he, hn⟩ => ⟨by rw [he]; simp, drew_below hn⟩
    have d3 := fun W (hW : Below w11.heap.size w11 W) => c13 W (hB11.trans (hW.mono hB11.size)) aA aB cur (hA11.up hW) (hB11'.up hW) hua hub hab hlen hpc.2
    have HB : Hid (Below w.heap.size w w11) := hB2.trans (hB11.mono hB2.size)
    clear c13 hAi hBi hI hA11 hB11' hua hub hab hpc hB2
    generalize cur.length = m at *
    go_wp2_with fail
    refine (d1 w11 (Below.refl _ _)).mono ?_
    rintro e w12 ⟨rfl, hb12⟩
    go_wp2_with fail
    refine (d2 w12 hb12).mono ?_
    rintro e w13 ⟨rfl, hb13⟩
    have hC13 := hb12.trans (hb13.mono hb12.size)
    have hB13 := hB11.trans (hC13.mono hB11.size)
    clear d1 d2 hb12 hb13
    go_wp2_with fail
    refine (c9 w13 hB13).mono ?_
    rintro e w13' ⟨rfl, hw⟩
    subst hw
    go_wp2_with fail
    refine (c10 _ hB13).mono ?_
    rintro e w13' ⟨rfl, hw⟩
    subst hw
    clear c9 c10
    go_wp2_with fail
    refine (c11 _ hB13).mono ?_
    rintro e w14 ⟨rfl, hw14⟩
    have hb14 := drew_below hw14.out
    have hC14 := hC13.trans (hb14.mono hC13.size)
    have hB14 := hB11.trans (hC14.mono hB11.size)
    clear c11 hw14 hb14 hC13 hB13
    go_wp2_with fail
    refine (c12 _ hB14).mono ?_
    rintro e w15 ⟨rfl, hb15⟩
    have hC15 := hC14.trans (hb15.mono hC14.size)
    have d4 := d3 w15 hC15
    unfold Tryd.lists at d4
    clear c12 d3 hb15 hC14 hB14 hB11
    go_wp2_with fail
    refine d4.mono ?_
    rintro e w16 ⟨rfl, hb16⟩
    clear d4
    go_wp2
    go_ret
    exact ⟨rfl, HB.out.trans ((hC15.trans (hb16.mono hC15.size)).mono HB.out.size)⟩

set_option maxRecDepth 100000 in
set_option maxHeartbeats 1000000 in
/-- The law answers true ahead of all the rest where one of its lists or texts is of a length that it leaves out. -/
theorem Tryd.ltexts_out (a : Option Addr) (len cap : Nat) (ss : List ByteArray) (x : Int) (ta : Option Addr) (tlen tcap : Nat) (zs : List Int) (s : ByteArray) (n : Int) (w : World) (hS : StrSl Tryd.prog 22 w a len cap (adOf a) ss)
    (hT : IntSl Tryd.prog 24 .u8 w ta tlen tcap zs) (hs : s.size ≤ maxLen) (ho : ¬ ((tlen ≤ 60 ∨ (1024 < tlen ∧ tlen ≤ 1029)) ∧ (s.size ≤ 600 ∨ (4096 < s.size ∧ s.size ≤ 4101)))) :
    Calls Tryd.prog 3 #[.slice a len cap, .int .u8 x, .slice ta tlen tcap, .string s, .int .i64 n] w fun e w' => e = .returned (.bool true) ∧ Below w.heap.size w w' := by
  have hlg : Calls Tryd.prog 7 #[.slice a len cap] w fun e w' => LargeR len e ∧ w = w' := (Tryd.large_any a len cap _ ss w hS).mono fun e w' ⟨h1, h2⟩ => ⟨h1, h2.symm⟩
  have htb := hT.bd
  have htc := hT.hcap
  have hs' := hs
  unfold maxLen at htb hs'
  have HO : Hid _ := ho
  clear ho
  go_enter Tryd.func3, Tryd.ntmps3
  go_wp2_with fail
  refine hlg.mono ?_
  rintro e w' ⟨⟨b0, rfl, hb0⟩, rfl⟩
  clear hlg
  cases b0 with
  | true =>
    go_wp2
    go_ret
    exact ⟨rfl, Below.refl _ _⟩
  | false =>
    clear hb0
    by_cases h1 : 1029 < tlen
    · go_wp2
      go_ret
      exact ⟨rfl, Below.refl _ _⟩
    by_cases h2 : 60 < tlen
    · by_cases h3 : tlen ≤ 1024
      · go_wp2
        go_ret
        exact ⟨rfl, Below.refl _ _⟩
      by_cases h4 : 4101 < s.size
      · go_wp2
        go_ret
        exact ⟨rfl, Below.refl _ _⟩
      by_cases h5 : 600 < s.size
      · by_cases h6 : s.size ≤ 4096
        · go_wp2
          go_ret
          exact ⟨rfl, Below.refl _ _⟩
        · exact absurd ⟨Or.inr ⟨by omega, by omega⟩, Or.inr ⟨by omega, by omega⟩⟩ HO.out
      · exact absurd ⟨Or.inr ⟨by omega, by omega⟩, Or.inl (by omega)⟩ HO.out
    · by_cases h4 : 4101 < s.size
      · go_wp2
        go_ret
        exact ⟨rfl, Below.refl _ _⟩
      by_cases h5 : 600 < s.size
      · by_cases h6 : s.size ≤ 4096
        · go_wp2
          go_ret
          exact ⟨rfl, Below.refl _ _⟩
        · exact absurd ⟨Or.inl (by omega), Or.inr ⟨by omega, by omega⟩⟩ HO.out
      · exact absurd ⟨Or.inl (by omega), Or.inl (by omega)⟩ HO.out

theorem Tryd.ltexts_any (a : Option Addr) (len cap : Nat) (ss : List ByteArray) (x : Int) (ta : Option Addr) (tlen tcap : Nat) (zs : List Int) (s : ByteArray) (n : Int) (w : World) (hS : StrSl Tryd.prog 22 w a len cap (adOf a) ss)
    (hT : IntSl Tryd.prog 24 .u8 w ta tlen tcap zs) (hv : ∀ z ∈ zs, 0 ≤ z ∧ z < 256) (hx0 : 0 ≤ x) (hx1 : x < 256) (hs : s.size ≤ maxLen) (hm : MaxOk w) :
    Calls Tryd.prog 3 #[.slice a len cap, .int .u8 x, .slice ta tlen tcap, .string s, .int .i64 n] w fun e w' => e = .returned (.bool true) ∧ Below w.heap.size w w' := by
  by_cases ho : (tlen ≤ 60 ∨ (1024 < tlen ∧ tlen ≤ 1029)) ∧ (s.size ≤ 600 ∨ (4096 < s.size ∧ s.size ≤ 4101))
  · obtain ⟨h1 | ⟨h1, h1b⟩, h2 | ⟨h2, h2b⟩⟩ := ho
    · exact Tryd.ltexts_aa a len cap ss x ta tlen tcap zs s n w hS hT hv hx0 hx1 hs hm h1 h2
    · exact Tryd.ltexts_ab a len cap ss x ta tlen tcap zs s n w hS hT hv hx0 hx1 hs hm h1 h2 h2b
    · exact Tryd.ltexts_ba a len cap ss x ta tlen tcap zs s n w hS hT hv hx0 hx1 hs hm h1 h1b h2
    · exact Tryd.ltexts_bb a len cap ss x ta tlen tcap zs s n w hS hT hv hx0 hx1 hs hm h1 h1b h2 h2b
  · exact Tryd.ltexts_out a len cap ss x ta tlen tcap zs s n w hS hT hs ho
end Go.Proofs.YtmmjihalpmahnaaDoor
