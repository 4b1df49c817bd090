/- LexisKnown: the chapter's examples. -/
import Derived.Test.YtngajjffkbbaiaaDoorWLx13
import Derived.Test.YtngajjffkbbaiaaDoorWApJ
namespace Go.Proofs.YtngajjffkbbaiaaDoor
open Go.RowKit Go.Maps

def exM : List Wd := [⟨2, mkB [112], 0⟩, ⟨0, mkB [60, 45, 62], 1⟩, ⟨2, mkB [113], 4⟩]
def exO : List Wd := [⟨2, mkB [116, 114, 117, 101, 50], 0⟩]
theorem exM_ok : ∀ t ∈ exM, t.Ok := by
  intro t ht
  simp only [exM, List.mem_cons, List.not_mem_nil, or_false] at ht
  rcases ht with h | h | h <;> subst h <;> exact ⟨by decide, by rw [mkB_size]; unfold maxLen; simp, by decide⟩
theorem exO_ok : ∀ t ∈ exO, t.Ok := by
  intro t ht
  simp only [exO, List.mem_cons, List.not_mem_nil, or_false] at ht
  subst ht; exact ⟨by decide, by rw [mkB_size]; unfold maxLen; simp, by decide⟩
theorem ex1' : wordsL [88, 40, 112, 49, 38, 33, 113, 41] = (exL, 0, 0) := rfl
theorem exM_is : wordsL [112, 60, 45, 62, 113] = (exM, 0, 0) := rfl
theorem exN_is : wordsL [32] = ([], 0, 0) := rfl
theorem exO_is : wordsL [116, 114, 117, 101, 50] = (exO, 0, 0) := rfl
theorem exJ : joinL (txs exL) = [88, 32, 40, 32, 112, 49, 32, 38, 32, 33, 32, 113, 32, 41] := by simp [txs, exL, joinL, tailL, mkB_toList]
def txl : List Bytes := [[112, 60, 45, 113], [80], [49, 112], [88, 49], [112, 32, 35]]
def pll : List Int := [2, 0, 0, 0, 2]
theorem kn5 : ∀ k, k < 5 → wordsL (txl.getD k []) = ([], 140, pll.getD k 0)
  | 0, _ => rfl
  | 1, _ => rfl
  | 2, _ => rfl
  | 3, _ => rfl
  | 4, _ => rfl
theorem Tryd.sort_at (s : ByteArray) (l : Bytes) (hs : s.toList = l) (so : Nat) (ok : Bool) (h : sortL l = (so, ok)) (w : World) (hT : Tab w) (hz : s.size ≤ maxLen) :
    Calls Tryd.prog 9 #[.string s] w fun e w' => e = .returned (.tuple #[.int .u8 (so : Int), .bool ok]) ∧ Below w.heap.size w w' := by
  have := Tryd.sort_any s w hT hz
  rw [hs, h] at this; exact this
theorem lit_tl (l : Bytes) : (⟨l.toArray⟩ : ByteArray).toList = l := mkB_toList l
theorem lit_sz (l : Bytes) (h : l.length ≤ 100) : (⟨l.toArray⟩ : ByteArray).size ≤ maxLen := by
  have := mkB_size l; unfold mkB at this; rw [this]; unfold maxLen; omega
/-- What is known of the first four answers, in a later world. -/
structure Four (w : World) (a1 a2 a4 : Option Addr) (c1 c2 c4 f1 f2 f3 f4 : Nat) : Prop where
  s1 : WdSl w a1 7 c1 exL
  s2 : WdSl w a2 3 c2 exM
  s4 : WdSl w a4 1 c4 exO
  f1 : Flt w f1 0 0
  f2 : Flt w f2 0 0
  f3 : Flt w f3 0 0
  f4 : Flt w f4 0 0
  tb : Tab w
theorem Four.up {w w' : World} {a1 a2 a4 : Option Addr} {c1 c2 c4 f1 f2 f3 f4 : Nat} (h : Four w a1 a2 a4 c1 c2 c4 f1 f2 f3 f4) (hb : Below w.heap.size w w') : Four w' a1 a2 a4 c1 c2 c4 f1 f2 f3 f4 :=
  ⟨h.s1.up hb, h.s2.up hb, h.s4.up hb, h.f1.up hb, h.f2.up hb, h.f3.up hb, h.f4.up hb, Tab.up h.tb hb⟩

set_option maxRecDepth 100000 in
set_option maxHeartbeats 4000000 in
theorem Tryd.lknown_any (w : World) (hT : Tab w) : Calls Tryd.prog 5 #[] w fun e w' => e = .returned (.bool true) ∧ Below w.heap.size w w' := by
  have HT : Hid (Tab w) := hT
  have h1 := Tryd.words_at { data := #[88, 40, 112, 49, 38, 33, 113, 41] } _ (by rw [ByteArray.toList_eq]) _ ex1' w hT
  clear hT
  go_enter Tryd.func5, Tryd.ntmps5
  go_wp2_with fail
  refine h1.mono ?_
  rintro e x1 ⟨v1, rfl, hown1, hb1⟩
  obtain ⟨a1, c1, rfl, hS1, _⟩ := own_wd (ts := exL) hown1 exL_ok
  rw [show (exL, (0 : Int), (0 : Int)).1.length = 7 from rfl]
  have HS1 : Hid (WdSl (x1.alloc (.cells #[.int .i64 0, .int .i64 0] 25)) a1 7 c1 exL) := hS1.up (below_new _ _)
  have HF1 : Hid (Flt (x1.alloc (.cells #[.int .i64 0, .int .i64 0] 25)) x1.heap.size 0 0) := Flt.new x1 0 0
  have HB1 : Hid (Below w.heap.size w (x1.alloc (.cells #[.int .i64 0, .int .i64 0] 25))) := hb1.alloc hb1.size _
  have h2 := Tryd.words_at { data := #[112, 60, 45, 62, 113] } _ (by rw [ByteArray.toList_eq]) _ exM_is _ (Tab.up HT.out HB1.out)
  have hcc1 := hS1.bd
  clear hown1 hS1 hb1 h1
  go_wp2_with fail
  generalize x1.alloc (.cells #[.int .i64 0, .int .i64 0] 25) = w1 at *
  refine h2.mono ?_
  rintro e x2 ⟨v2, rfl, hown2, hb2⟩
  obtain ⟨a2, c2, rfl, hS2, _⟩ := own_wd (ts := exM) hown2 exM_ok
  rw [show (exM, (0 : Int), (0 : Int)).1.length = 3 from rfl]
  have HB12 : Hid (Below w1.heap.size w1 (x2.alloc (.cells #[.int .i64 0, .int .i64 0] 25))) := hb2.alloc hb2.size _
  have HB2 : Hid (Below w.heap.size w (x2.alloc (.cells #[.int .i64 0, .int .i64 0] 25))) := below_step HB1.out HB12.out
  have HS12 : Hid (WdSl (x2.alloc (.cells #[.int .i64 0, .int .i64 0] 25)) a1 7 c1 exL) := HS1.out.up HB12.out
  have HS2 : Hid (WdSl (x2.alloc (.cells #[.int .i64 0, .int .i64 0] 25)) a2 3 c2 exM) := hS2.up (below_new _ _)
  have HF12 : Hid (Flt (x2.alloc (.cells #[.int .i64 0, .int .i64 0] 25)) x1.heap.size 0 0) := HF1.out.up HB12.out
  have HF2 : Hid (Flt (x2.alloc (.cells #[.int .i64 0, .int .i64 0] 25)) x2.heap.size 0 0) := Flt.new x2 0 0
  have h3 := Tryd.words_at { data := #[32] } _ (by rw [ByteArray.toList_eq]) _ exN_is _ (Tab.up HT.out HB2.out)
  have hcc2 := hS2.bd
  clear hown2 hS2 hb2 h2 HS1 HF1 HB1 HB12
  go_wp2_with fail
  generalize x2.alloc (.cells #[.int .i64 0, .int .i64 0] 25) = w2 at *
  refine h3.mono ?_
  rintro e x3 ⟨v3, rfl, hown3, hb3⟩
  obtain ⟨a3, c3, rfl, hS3, _⟩ := own_wd (ts := []) hown3 (fun t ht => by simp at ht)
  have HB13 : Hid (Below w2.heap.size w2 (x3.alloc (.cells #[.int .i64 0, .int .i64 0] 25))) := hb3.alloc hb3.size _
  have HB3 : Hid (Below w.heap.size w (x3.alloc (.cells #[.int .i64 0, .int .i64 0] 25))) := below_step HB2.out HB13.out
  have HS13 : Hid (WdSl (x3.alloc (.cells #[.int .i64 0, .int .i64 0] 25)) a1 7 c1 exL) := HS12.out.up HB13.out
  have HS23 : Hid (WdSl (x3.alloc (.cells #[.int .i64 0, .int .i64 0] 25)) a2 3 c2 exM) := HS2.out.up HB13.out
  have HF13 : Hid (Flt (x3.alloc (.cells #[.int .i64 0, .int .i64 0] 25)) x1.heap.size 0 0) := HF12.out.up HB13.out
  have HF23 : Hid (Flt (x3.alloc (.cells #[.int .i64 0, .int .i64 0] 25)) x2.heap.size 0 0) := HF2.out.up HB13.out
  have HF3 : Hid (Flt (x3.alloc (.cells #[.int .i64 0, .int .i64 0] 25)) x3.heap.size 0 0) := Flt.new x3 0 0
  have h4 := Tryd.words_at { data := #[116, 114, 117, 101, 50] } _ (by rw [ByteArray.toList_eq]) _ exO_is _ (Tab.up HT.out HB3.out)
  clear hown3 hS3 hb3 h3 HS12 HS2 HF12 HF2 HB2 HB13
  go_wp2_with fail
  generalize x3.alloc (.cells #[.int .i64 0, .int .i64 0] 25) = w3 at *
  refine h4.mono ?_
  rintro e x4 ⟨v4, rfl, hown4, hb4⟩
  obtain ⟨a4, c4, rfl, hS4, _⟩ := own_wd (ts := exO) hown4 exO_ok
  rw [show (exO, (0 : Int), (0 : Int)).1.length = 1 from rfl]
  have hcc4 := hS4.bd
  have HB14 : Hid (Below w3.heap.size w3 (x4.alloc (.cells #[.int .i64 0, .int .i64 0] 25))) := hb4.alloc hb4.size _
  have HB4 : Hid (Below w.heap.size w (x4.alloc (.cells #[.int .i64 0, .int .i64 0] 25))) := below_step HB3.out HB14.out
  have HQ : Hid (Four (x4.alloc (.cells #[.int .i64 0, .int .i64 0] 25)) a1 a2 a4 c1 c2 c4 x1.heap.size x2.heap.size x3.heap.size x4.heap.size) :=
    ⟨HS13.out.up HB14.out, HS23.out.up HB14.out, hS4.up (below_new _ _), HF13.out.up HB14.out, HF23.out.up HB14.out, HF3.out.up HB14.out, Flt.new x4 0 0, Tab.up HT.out HB4.out⟩
  clear hown4 hS4 hb4 h4 HS13 HS23 HF13 HF23 HF3 HB3 HB14
  have HST : Hid (StAt (((x4.alloc (.cells #[.int .i64 0, .int .i64 0] 25)).alloc (.cells #[.string { data := #[112, 60, 45, 113] }, .string { data := #[80] }, .string { data := #[49, 112] }, .string { data := #[88, 49] }, .string { data := #[112, 32, 35] }] 9)).alloc (.cells #[.int .i64 2, .int .i64 0, .int .i64 0, .int .i64 0, .int .i64 2] 3)) (x4.heap.size + 1) txl) := by
    have h := (StAt.new (x4.alloc (.cells #[.int .i64 0, .int .i64 0] 25)) txl).up (below_new ((x4.alloc (.cells #[.int .i64 0, .int .i64 0] 25)).alloc (.cells #[.string { data := #[112, 60, 45, 113] }, .string { data := #[80] }, .string { data := #[49, 112] }, .string { data := #[88, 49] }, .string { data := #[112, 32, 35] }] 9)) (.cells #[.int .i64 2, .int .i64 0, .int .i64 0, .int .i64 0, .int .i64 2] 3))
    show StAt _ _ _
    simpa using h
  have HPL : Hid (RowI (((x4.alloc (.cells #[.int .i64 0, .int .i64 0] 25)).alloc (.cells #[.string { data := #[112, 60, 45, 113] }, .string { data := #[80] }, .string { data := #[49, 112] }, .string { data := #[88, 49] }, .string { data := #[112, 32, 35] }] 9)).alloc (.cells #[.int .i64 2, .int .i64 0, .int .i64 0, .int .i64 0, .int .i64 2] 3)) 3 (x4.heap.size + 2) pll) := by
    have h : RowI (((x4.alloc (.cells #[.int .i64 0, .int .i64 0] 25)).alloc (.cells #[.string { data := #[112, 60, 45, 113] }, .string { data := #[80] }, .string { data := #[49, 112] }, .string { data := #[88, 49] }, .string { data := #[112, 32, 35] }] 9)).alloc (.cells #[.int .i64 2, .int .i64 0, .int .i64 0, .int .i64 0, .int .i64 2] 3)) 3 ((x4.alloc (.cells #[.int .i64 0, .int .i64 0] 25)).alloc (.cells #[.string { data := #[112, 60, 45, 113] }, .string { data := #[80] }, .string { data := #[49, 112] }, .string { data := #[88, 49] }, .string { data := #[112, 32, 35] }] 9)).heap.size pll := (MapKept.heap_alloc ((x4.alloc (.cells #[.int .i64 0, .int .i64 0] 25)).alloc (.cells #[.string { data := #[112, 60, 45, 113] }, .string { data := #[80] }, .string { data := #[49, 112] }, .string { data := #[88, 49] }, .string { data := #[112, 32, 35] }] 9)) (.cells #[.int .i64 2, .int .i64 0, .int .i64 0, .int .i64 0, .int .i64 2] 3)).1
    show RowI _ _ _ _
    simpa using h
  have HQ6 : Hid (Four (((x4.alloc (.cells #[.int .i64 0, .int .i64 0] 25)).alloc (.cells #[.string { data := #[112, 60, 45, 113] }, .string { data := #[80] }, .string { data := #[49, 112] }, .string { data := #[88, 49] }, .string { data := #[112, 32, 35] }] 9)).alloc (.cells #[.int .i64 2, .int .i64 0, .int .i64 0, .int .i64 0, .int .i64 2] 3)) a1 a2 a4 c1 c2 c4 x1.heap.size x2.heap.size x3.heap.size x4.heap.size) := (HQ.out.up (below_new _ _)).up (below_new _ _)
  have HB6 : Hid (Below w.heap.size w (((x4.alloc (.cells #[.int .i64 0, .int .i64 0] 25)).alloc (.cells #[.string { data := #[112, 60, 45, 113] }, .string { data := #[80] }, .string { data := #[49, 112] }, .string { data := #[88, 49] }, .string { data := #[112, 32, 35] }] 9)).alloc (.cells #[.int .i64 2, .int .i64 0, .int .i64 0, .int .i64 0, .int .i64 2] 3))) := (HB4.out.alloc HB4.out.size _).alloc (HB4.out.alloc HB4.out.size _).size _
  clear HQ HB4
  dsimp only [List.length_nil]
  go_wp2
  generalize (((x4.alloc (.cells #[.int .i64 0, .int .i64 0] 25)).alloc (.cells #[.string { data := #[112, 60, 45, 113] }, .string { data := #[80] }, .string { data := #[49, 112] }, .string { data := #[88, 49] }, .string { data := #[112, 32, 35] }] 9)).alloc (.cells #[.int .i64 2, .int .i64 0, .int .i64 0, .int .i64 0, .int .i64 2] 3)) = w6 at *
  go_loopw [11] (fun i wr => ∃ k : Nat, k ≤ 5 ∧ i = .int .i64 k ∧ Hid (Below w6.heap.size w6 wr)) (fun i _ => 5 - (intOf i).toNat)
  case atStart => exact ⟨0, Nat.zero_le _, rfl, Below.refl _ _⟩
  case round =>
    obtain ⟨k, hk, rfl, HB⟩ := hrel
    by_cases hlt : k < 5
    · have hck := (HST.out.up HB.out).cell (k := k) hlt
      have hik := Tryd.idxS (x4.heap.size + 1) 5 k hlt
      have hW := Tryd.words_at (mkB (txl.getD k [])) _ (mkB_toList _) _ (kn5 k hlt) wr (HQ6.out.up HB.out).tb
      have hz := fun (w' : World) (hb : Below w6.heap.size w6 w') => (HPL.out.up hb).cell (i := k) hlt
      have hidy : ∀ w', (Instr.indexAt 36 (.slice (some ⟨x4.heap.size + 2, 0, none⟩) 5 5) (.int .i64 k)).run Tryd.prog w' = .ok (.pointer (some ⟨x4.heap.size + 2, k, none⟩)) w' := fun w' => by
        have := idx_of (a := some ⟨x4.heap.size + 2, 0, none⟩) (cap := 5) (n := 5) Tryd.underlying36 Tryd.sizeInt (by simp) k w' hlt
        simpa [adOf, add_plain] using this
      have hq := Tryd.neqFlt 140 (pll.getD k 0) 140 (pll.getD k 0)
      rw [decide_eq_true (rfl : ((140 : Int), pll.getD k 0) = (140, pll.getD k 0))] at hq
      generalize mkB (txl.getD k []) = x at *
      generalize pll.getD k 0 = z at *
      go_wp2_with fail
      refine hW.mono ?_
      rintro e x7 ⟨v7, rfl, _, hb7⟩
      have HB7 : Hid (Below w6.heap.size w6 (x7.alloc (.cells #[.int .i64 140, .int .i64 z] 25))) := (HB.out.trans (hb7.mono HB.out.size)).alloc (HB.out.trans (hb7.mono HB.out.size)).size _
      have hzk := hz _ HB7.out
      clear hz hb7 hW hck
      go_wp2
      go_quiet (fail)
      go_wp2
      go_roundw
      case rel => exact ⟨k + 1, by omega, by go_num, below_drewN HB7.out nq⟩
      case measure => simp [intOf]; omega
    · have hTr : Tab wr := (HQ6.out.up HB.out).tb
      have HB0 : Hid (Below w6.heap.size w6 wr) := HB
      have hs0 := Tryd.sort_at { data := #[45, 62] } [45, 62] (by rw [ByteArray.toList_eq]) 0 true (by decide) wr (HQ6.out.up HB0.out).tb (lit_sz [45, 62] (by decide))
      go_wp2_with fail
      refine hs0.mono ?_
      rintro e y0 ⟨rfl, hy0⟩
      have HB1 : Hid (Below w6.heap.size w6 y0) := HB0.out.trans (hy0.mono HB0.out.size)
      clear hs0 hy0
      have hs1 := Tryd.sort_at { data := #[85] } [85] (by rw [ByteArray.toList_eq]) 1 true (by decide) y0 (HQ6.out.up HB1.out).tb (lit_sz [85] (by decide))
      go_wp2_with fail
      refine hs1.mono ?_
      rintro e y1 ⟨rfl, hy1⟩
      have HB2 : Hid (Below w6.heap.size w6 y1) := HB1.out.trans (hy1.mono HB1.out.size)
      clear hs1 hy1
      have hs2 := Tryd.sort_at { data := #[117] } [117] (by rw [ByteArray.toList_eq]) 2 true (by decide) y1 (HQ6.out.up HB2.out).tb (lit_sz [117] (by decide))
      go_wp2_with fail
      refine hs2.mono ?_
      rintro e y2 ⟨rfl, hy2⟩
      have HB3 : Hid (Below w6.heap.size w6 y2) := HB2.out.trans (hy2.mono HB2.out.size)
      clear hs2 hy2
      have hs3 := Tryd.sort_at { data := #[116, 114, 117, 101, 88] } [116, 114, 117, 101, 88] (by rw [ByteArray.toList_eq]) 0 false (by decide) y2 (HQ6.out.up HB3.out).tb (lit_sz [116, 114, 117, 101, 88] (by decide))
      go_wp2_with fail
      refine hs3.mono ?_
      rintro e y3 ⟨rfl, hy3⟩
      have HB4 : Hid (Below w6.heap.size w6 y3) := HB3.out.trans (hy3.mono HB3.out.size)
      clear hs3 hy3
      have hs4 := Tryd.sort_at { data := #[] } [] (by rw [ByteArray.toList_eq]) 0 false (by decide) y3 (HQ6.out.up HB4.out).tb (lit_sz [] (by decide))
      go_wp2_with fail
      refine hs4.mono ?_
      rintro e y4 ⟨rfl, hy4⟩
      have HB5 : Hid (Below w6.heap.size w6 y4) := HB4.out.trans (hy4.mono HB4.out.size)
      clear hs4 hy4
      have hQ := HQ6.out.up HB5.out
      have g10 := hQ.f1.c0
      have g11 := hQ.f1.c1
      have g20 := hQ.f2.c0
      have g21 := hQ.f2.c1
      have g30 := hQ.f3.c0
      have g31 := hQ.f3.c1
      have g40 := hQ.f4.c0
      have g41 := hQ.f4.c1
      have q1 := Tryd.eqlFlt 0 0 0 0
      rw [decide_eq_true (rfl : ((0 : Int), (0 : Int)) = (0, 0))] at q1
      obtain ⟨g, o, sh, hidx, _, m1, _, _, _⟩ := hQ.s2.at Tryd.underlying22 Tryd.sizeWd 1 (by omega)
      obtain ⟨g', o', sh', hidx', m0, _, _, _, _⟩ := hQ.s4.at Tryd.underlying22 Tryd.sizeWd 0 (by omega)
      have i1 : ∀ w, (Instr.indexAt 22 (.slice a2 3 c2) (.int .i64 1)).run Tryd.prog w = .ok (.pointer (some ⟨g, o, sh⟩)) w := fun w => hidx 3 w (by omega)
      have i0 : ∀ w, (Instr.indexAt 22 (.slice a4 1 c4) (.int .i64 0)).run Tryd.prog w = .ok (.pointer (some ⟨g', o', sh'⟩)) w := fun w => hidx' 1 w (by omega)
      have p1 : y4.cell? ⟨g, o + 1, none⟩ = some (.string { data := #[60, 45, 62] }) := m1
      have p0 : y4.cell? ⟨g', o', sh'⟩ = some (.int .u8 2) := m0
      have hJo := Tryd.join_any a1 7 c1 exL y4 hQ.s1 (by rw [exJ]; decide)
      have hJe : mkB (joinL (txs exL)) = { data := #[88, 32, 40, 32, 112, 49, 32, 38, 32, 33, 32, 113, 32, 41] } := by rw [exJ]; rfl
      rw [hJe] at hJo
      have HS5 : Hid (WdSl y4 a1 7 c1 exL) := hQ.s1
      clear hidx hidx' m1 m0 hJe
      go_wp2_with fail
      refine hJo.mono ?_
      rintro e y5 ⟨rfl, hy5⟩
      have HB6' : Hid (Below w6.heap.size w6 y5) := HB5.out.trans (hy5.mono HB5.out.size)
      have hPl := Tryd.places_any a1 7 c1 exL y5 (HS5.out.up hy5) (by omega)
      clear hJo hy5
      go_wp2_with fail
      refine hPl.mono ?_
      rintro e y6 ⟨rfl, hrow, hy6⟩
      have HB7 : Hid (Below w6.heap.size w6 (y6.alloc (.cells #[.int .i64 0, .int .i64 1, .int .i64 2, .int .i64 4, .int .i64 5, .int .i64 6, .int .i64 7] 3))) := (HB6'.out.trans (hy6.mono HB6'.out.size)).alloc (HB6'.out.trans (hy6.mono HB6'.out.size)).size _
      have hr1 : IntSl Tryd.prog 36 .i64 (y6.alloc (.cells #[.int .i64 0, .int .i64 1, .int .i64 2, .int .i64 4, .int .i64 5, .int .i64 6, .int .i64 7] 3)) (some ⟨y5.heap.size, 0, none⟩) 7 7 (pls exL) := by
        have := (hrow.up (below_new y6 (.cells #[.int .i64 0, .int .i64 1, .int .i64 2, .int .i64 4, .int .i64 5, .int .i64 6, .int .i64 7] 3))).intSl Tryd.underlying36 Tryd.sizeInt (n := 7) (by decide) (by unfold maxLen; decide)
        exact this
      have hr2 : IntSl Tryd.prog 36 .i64 (y6.alloc (.cells #[.int .i64 0, .int .i64 1, .int .i64 2, .int .i64 4, .int .i64 5, .int .i64 6, .int .i64 7] 3)) (some ⟨y6.heap.size, 0, none⟩) 7 7 (pls exL) := by
        have h : RowI (y6.alloc (.cells #[.int .i64 0, .int .i64 1, .int .i64 2, .int .i64 4, .int .i64 5, .int .i64 6, .int .i64 7] 3)) 3 y6.heap.size (pls exL) := (MapKept.heap_alloc y6 (.cells #[.int .i64 0, .int .i64 1, .int .i64 2, .int .i64 4, .int .i64 5, .int .i64 6, .int .i64 7] 3)).1
        have := h.intSl Tryd.underlying36 Tryd.sizeInt (n := 7) (by decide) (by unfold maxLen; decide)
        exact this
      have hSm := Tryd.sameI_any _ _ _ _ _ _ _ _ _ hr1 hr2
      rw [decide_eq_true (rfl : pls exL = pls exL)] at hSm
      clear hr1 hr2 hrow hy6 hPl
      go_wp2_with fail
      refine hSm.mono ?_
      rintro e y7 ⟨rfl, n, rfl⟩
      go_wp2
      go_ret
      exact ⟨rfl, below_drewN (HB6.out.trans (HB7.out.mono HB6.out.size)) n⟩
end Go.Proofs.YtngajjffkbbaiaaDoor
