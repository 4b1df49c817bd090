/- ParsePaths where the text is a path, over the contracts of parse.Formula and parse.Path. -/
import Derived.Test.YtnibcmmgnenfcaaDoorWPJ5
namespace Go.Proofs.YtnibcmmgnenfcaaDoor
open Go.RowKit Go.Maps

theorem Tryd.sameT_eq {a a' : Option Addr} {len cap len' cap' : Nat} {xs ys : List Tk} {w : World} (hS : TkSl w a len cap xs) (hO : TkSl w a' len' cap' ys) (h : xs = ys) :
    Calls Tryd.prog 11 #[.slice a len cap, .slice a' len' cap'] w fun e w' => e = .returned (.bool true) ∧ Below w.heap.size w w' := by
  have := Tryd.sameT_any _ _ _ _ _ _ _ _ _ hS hO
  rw [decide_eq_true h] at this
  exact this
/-- append of tokens under a guard, in a region whose order is fixed. -/
theorem Tryd.appendg_tks {w : World} {ops : Array Oper} {rest : List Oper} {o : Oper} {a : Act} {Q : Exit → Act → World → Prop} (hw : Region.wanted o (yielded ops a.tmps) = true) (s x : Operand)
    (ho : o.op = .call { callee := .builtin .append, args := #[s, x], argTypes := #[23, 23] }) (base : Nat)
    (v : Value) (xs ys : List Tk) (b : Option Addr) (len cap : Nat) (hs : a.eval s = v) (hx : a.eval x = .slice b len cap) (hown : w.ownsRow base 42 2 v xs.length (encT xs)) (hT : TkSl w b len cap ys)
    (hn : xs.length ≤ 10000000) (hm : ys.length ≤ 10000000) (hbase : base ≤ w.heap.size)
    (h : ∀ v' w', w'.ownsRow base 42 2 v' (xs ++ ys).length (encT (xs ++ ys)) → w.grownBy w' v.ownBlock → wpList Tryd.prog ops Q rest (a.put o.dst v') w') : wpList Tryd.prog ops Q (o :: rest) a w := by
  unfold wpList
  rw [if_pos hw]
  exact Or.inl (Tryd.wp_tks s x ho base v xs ys b len cap hs hx hown hT hn hm hbase h)
/-- New memory after new memory. -/
theorem bl_gr4 {w4 w1 w2 : World} {row : Option Nat} (h : Below w4.heap.size w4 w1) (hg : w1.grownBy w2 row) (hr : Hid (∀ j, row = some j → w4.heap.size ≤ j)) : Below w4.heap.size w4 w2 := h.grown hg h.size (fun j e => hr.out j e)
theorem below_drew {n : Nat} {w w1 : World} (h : Below n w.drew w1) : Below n w w1 := (Below.refl _ _).drew.trans h
set_option maxRecDepth 100000 in
set_option maxHeartbeats 4000000 in
theorem Tryd.ppaths_ok (hFm : ReadC 7 formL) (hPa : ReadC 9 pathL) (a : Option Addr) (len cap : Nat) (ad : Nat → Addr) (ss : List ByteArray) (r : ByteArray) (w : World) (hT : Tab w) (hN : StrSl Tryd.prog 22 w a len cap ad ss) (h1 : r.size ≤ 300)
    (t : List Tk5) (ha : pathL (nms ss) r.toList = (t, 0, 0)) :
    Calls Tryd.prog 5 #[.slice a len cap, .string r] w fun e w' => e = .returned (.bool true) ∧ Below w.heap.size w w' := by
  have hA := Tryd.awake5_any hFm w hT
  have hFp := fun w' (hN' : StrSl Tryd.prog 22 w' a len cap ad ss) (hT' : Tab w') => hPa a len cap ad ss r w' hN' (by unfold maxLen; omega) hT'
  have hs1 : ((({ data := #[60] } : ByteArray) ++ r) ++ ({ data := #[62, 32, 116, 114, 117, 101] } : ByteArray)).size ≤ maxLen := by rw [← tl_len, txt_dia]; simp [tl_len]; unfold maxLen; omega
  have hs2 : ((({ data := #[91, 40] } : ByteArray) ++ r) ++ ({ data := #[41, 93, 32, 116, 114, 117, 101] } : ByteArray)).size ≤ maxLen := by rw [← tl_len, txt_box]; simp [tl_len]; unfold maxLen; omega
  have hFd := fun w' (hN' : StrSl Tryd.prog 22 w' a len cap ad ss) (hT' : Tab w') => hFm a len cap ad ss ((({ data := #[60] } : ByteArray) ++ r) ++ ({ data := #[62, 32, 116, 114, 117, 101] } : ByteArray)) w' hN' hs1 hT'
  have hFb := fun w' (hN' : StrSl Tryd.prog 22 w' a len cap ad ss) (hT' : Tab w') => hFm a len cap ad ss ((({ data := #[91, 40] } : ByteArray) ++ r) ++ ({ data := #[41, 93, 32, 116, 114, 117, 101] } : ByteArray)) w' hN' hs2 hT'
  rw [txt_dia] at hFd
  rw [txt_box] at hFb
  rw [ha] at hFp
  have hj := paths_two ha (by rw [tl_len]; exact h1)
  have HT : Hid (Tab w) := hT
  have HN : Hid (StrSl Tryd.prog 22 w a len cap ad ss) := hN
  clear hs1 hs2 hFm hPa hT hN ha
  generalize formL (nms ss) (60 :: (r.toList ++ [62, 32, 116, 114, 117, 101])) = X2 at *
  generalize formL (nms ss) (91 :: 40 :: (r.toList ++ [41, 93, 32, 116, 114, 117, 101])) = X3 at *
  obtain ⟨l2, e2, p2⟩ := X2
  obtain ⟨l3, e3, p3⟩ := X3
  dsimp only at hFd hFb
  have q1 := Tryd.neqFlt 0 0 0 0
  rw [decide_eq_true (rfl : ((0 : Int), (0 : Int)) = (0, 0))] at q1
  have s1 : ¬ 9223372036854775807 < 1 + r.size := by omega
  have s2 : ¬ 9223372036854775807 < 1 + r.size + 6 := by omega
  have s3 : ¬ 9223372036854775807 < 2 + r.size := by omega
  have s4 : ¬ 9223372036854775807 < 2 + r.size + 7 := by omega
  go_enter Tryd.func5, Tryd.ntmps5
  go_wp2_with fail
  refine hA.mono ?_
  rintro e w1 ⟨rfl, hb1⟩
  have HB1 : Hid (Below w.heap.size w w1) := hb1
  have h3 := hFp w1 (HN.out.up hb1) (Tab.up HT.out hb1)
  clear hA hb1 hFp
  go_wp2_with fail
  refine h3.mono ?_
  rintro e x2 ⟨v2, rfl, hown2, hb2, hl2, hok2⟩
  obtain ⟨a2, c2, rfl, hT2⟩ := own_tks hown2 hok2
  have HB2 : Hid (Below w.heap.size w (x2.alloc (.cells #[.int .i64 0, .int .i64 0] 26))) := (below_step HB1.out hb2).alloc (below_step HB1.out hb2).size _
  have HF2 : Hid (Flt (x2.alloc (.cells #[.int .i64 0, .int .i64 0] 26)) x2.heap.size 0 0) := Flt.new _ _ _
  have HS2 : Hid (TkSl (x2.alloc (.cells #[.int .i64 0, .int .i64 0] 26)) a2 t.length c2 t) := hT2.up (below_new _ _)
  have HOK2 : Hid (∀ z ∈ t, z.1 < 256 ∧ z.2 < 256) := hok2
  have h4 := hFd _ (HN.out.up HB2.out) (Tab.up HT.out HB2.out)
  clear h3 hb2 hFd hown2 hT2 hok2
  go_wp2_with fail
  generalize x2.alloc (.cells #[.int .i64 0, .int .i64 0] 26) = w2 at *
  refine h4.mono ?_
  rintro e x3 ⟨v3, rfl, hown3, hb3, hl3, hok3⟩
  obtain ⟨a3, c3, rfl, hT3⟩ := own_tks hown3 hok3
  have HB23 : Hid (Below w2.heap.size w2 (x3.alloc (.cells #[.int .i64 e2, .int .i64 p2] 26))) := hb3.alloc hb3.size _
  have HB3 : Hid (Below w.heap.size w (x3.alloc (.cells #[.int .i64 e2, .int .i64 p2] 26))) := below_step HB2.out HB23.out
  have HF23 : Hid (Flt (x3.alloc (.cells #[.int .i64 e2, .int .i64 p2] 26)) x2.heap.size 0 0) := HF2.out.up HB23.out
  have HF33 : Hid (Flt (x3.alloc (.cells #[.int .i64 e2, .int .i64 p2] 26)) x3.heap.size e2 p2) := Flt.new _ _ _
  have HS23 : Hid (TkSl (x3.alloc (.cells #[.int .i64 e2, .int .i64 p2] 26)) a2 t.length c2 t) := HS2.out.up HB23.out
  have HS33 : Hid (TkSl (x3.alloc (.cells #[.int .i64 e2, .int .i64 p2] 26)) a3 l2.length c3 l2) := hT3.up (below_new _ _)
  have h5 := hFb _ (HN.out.up HB3.out) (Tab.up HT.out HB3.out)
  clear h4 hb3 hFb hown3 hT3 hok3 HF2 HS2
  go_wp2_with fail
  generalize x3.alloc (.cells #[.int .i64 e2, .int .i64 p2] 26) = w3 at *
  refine h5.mono ?_
  rintro e x4 ⟨v4, rfl, hown4, hb4, hl4, hok4⟩
  obtain ⟨a4, c4, rfl, hT4⟩ := own_tks hown4 hok4
  have HB34 : Hid (Below w3.heap.size w3 (x4.alloc (.cells #[.int .i64 e3, .int .i64 p3] 26))) := hb4.alloc hb4.size _
  have HB4 : Hid (Below w.heap.size w (x4.alloc (.cells #[.int .i64 e3, .int .i64 p3] 26))) := below_step HB3.out HB34.out
  have HF34 : Hid (Flt (x4.alloc (.cells #[.int .i64 e3, .int .i64 p3] 26)) x3.heap.size e2 p2) := HF33.out.up HB34.out
  have HF44 : Hid (Flt (x4.alloc (.cells #[.int .i64 e3, .int .i64 p3] 26)) x4.heap.size e3 p3) := Flt.new _ _ _
  have HS24 : Hid (TkSl (x4.alloc (.cells #[.int .i64 e3, .int .i64 p3] 26)) a2 t.length c2 t) := HS23.out.up HB34.out
  have HS34 : Hid (TkSl (x4.alloc (.cells #[.int .i64 e3, .int .i64 p3] 26)) a3 l2.length c3 l2) := HS33.out.up HB34.out
  have HS44 : Hid (TkSl (x4.alloc (.cells #[.int .i64 e3, .int .i64 p3] 26)) a4 l3.length c4 l3) := hT4.up (below_new _ _)
  have hF := HF23.out.up HB34.out
  have f0 := hF.c0
  have f1 := hF.c1
  have f2 := HF34.out.c0
  have f3 := HF34.out.c1
  clear h5 hb4 hown4 hT4 hok4 hF HF23 HF33 HS23 HS33
  rcases hj with ⟨hj, hj2⟩ | ⟨er, her, hj⟩
  · injection hj with j1 j2
    injection j2 with j2 j3
    injection hj2 with j4 j5
    injection j5 with j5 j6
    subst j2 j3 j5 j6
    have HL2 : Hid (l2 = t ++ [(0, 0)] ++ [(17, 0)]) := j1
    have HL3 : Hid (l3 = t ++ [(0, 0)] ++ [(18, 0)]) := j4
    clear j1 j4
    go_upto_region 11 with fail
    clear f0 f1 f2 f3 s1 s2 s3 s4 HN HT
    generalize x4.alloc (.cells #[.int .i64 0, .int .i64 0] 26) = w4 at *
    have hlt : t.length ≤ 10000000 := by omega
    have hl1 : ([(0, 0)] : List Tk).length ≤ 10000000 := by simp
    have h0 : 0 < 256 := by decide
    go_wp2_with fail
    refine (Tryd.copyT_any a2 t.length c2 t w4 HS24.out (by omega)).mono ?_
    rintro e wA ⟨vA, rfl, hownA, hbA⟩
    have HOA : Hid ((wA.alloc (.cells #[.int .u8 0, .int .u8 0] 42)).ownsRow w4.heap.size 42 2 vA t.length (encT t)) := World.ownsRow.alloc hownA _
    have HTA : Hid (TkSl (wA.alloc (.cells #[.int .u8 0, .int .u8 0] 42)) (some ⟨wA.heap.size, 0, none⟩) 1 1 [(0, 0)]) := one_tk wA h0
    have HBA : Hid (Below w4.heap.size w4 (wA.alloc (.cells #[.int .u8 0, .int .u8 0] 42))) := hbA.alloc hbA.size _
    have HRA : Hid (∀ j, vA.ownBlock = some j → w4.heap.size ≤ j) := own_ge hownA
    clear hownA hbA
    go_wp2_with (at_builtin; refine Tryd.append_tks rfl _ _ rfl w4.heap.size vA t [(0, 0)] _ 1 1 rfl rfl HOA.out HTA.out hlt hl1 HBA.out.size ?_)
    intro vB wB hownB hgrB
    have HBB : Hid (Below w4.heap.size w4 wB) := bl_gr4 HBA.out hgrB HRA
    clear hgrB HBA HTA HOA HRA
    obtain ⟨T, hTe⟩ : ∃ T, T = t ++ [(0, 0)] := ⟨_, rfl⟩
    have hlT : T.length ≤ 513 := by rw [hTe]; simp; omega
    have hokT : ∀ z ∈ T, z.1 < 256 ∧ z.2 < 256 := fun z hz => by
      rw [hTe] at hz
      rcases List.mem_append.1 hz with hz | hz
      · exact HOK2.out z hz
      · simp at hz; subst hz; exact ⟨h0, h0⟩
    have hlen : T.length = t.length + 1 := by rw [hTe]; simp
    rw [← hTe] at hownB
    try rw [← hlen] at hownB
    have HL2' : Hid (l2 = T ++ [(17, 0)]) := by rw [hTe]; exact HL2.out
    have HL3' : Hid (l3 = T ++ [(18, 0)]) := by rw [hTe]; exact HL3.out
    obtain ⟨aB, cB, rfl, hTB⟩ := own_tks hownB hokT
    have HOB : Hid (wB.ownsRow w4.heap.size 42 2 (.slice aB T.length cB) T.length (encT T)) := hownB
    have HSB : Hid (TkSl wB aB T.length cB T) := hTB
    have HRB : Hid (∀ j, (Value.slice aB T.length cB).ownBlock = some j → w4.heap.size ≤ j) := own_ge hownB
    have HFg : Hid (Flt wB x3.heap.size 0 0) := HF34.out.up HBB.out
    have HFh : Hid (Flt wB x4.heap.size 0 0) := HF44.out.up HBB.out
    have HZ3 : Hid (TkSl wB a3 l2.length c3 l2) := HS34.out.up HBB.out
    have HZ4 : Hid (TkSl wB a4 l3.length c4 l3) := HS44.out.up HBB.out
    have hg3 := HF34.out.lt
    have hg4 := HF44.out.lt
    have hz4 : ∀ y, a4 = some y → y.block < w4.heap.size := fun y hy => by
      have := HS44.out; rw [hy] at this; exact this.lt (by rw [HL3'.out]; simp)
    have q2 := Tryd.eqlFlt 0 0 0 0
    rw [decide_eq_true (rfl : ((0 : Int), (0 : Int)) = (0, 0))] at q2
    have q3 : ∀ x : List Tk, x = x := fun _ => rfl
    clear hlen hTe hownB hTB HL2 HL3 HOK2 HS24 HS34 HS44 HF34 HF44 hlt q1 hl2 q3
    have hlT' : T.length ≤ 10000000 := by omega
    have h17 : 17 < 256 := by decide
    have h18 : 18 < 256 := by decide
    have hm17 : ([(17, 0)] : List Tk).length ≤ 10000000 := by simp
    have hm18 : ([(18, 0)] : List Tk).length ≤ 10000000 := by simp
    have hok17 : ∀ z ∈ (T ++ [(17, 0)] : List Tk), z.1 < 256 ∧ z.2 < 256 := by rw [← HL2'.out]; exact HZ3.out.ok
    have hok18 : ∀ z ∈ (T ++ [(18, 0)] : List Tk), z.1 < 256 ∧ z.2 < 256 := by rw [← HL3'.out]; exact HZ4.out.ok
    have g0 := HFg.out.c0
    have g1 := HFg.out.c1
    have g2 := HFh.out.c0
    have g3 := HFh.out.c1
    go_wp2_with fail
    refine (Tryd.copyT_any aB T.length cB T wB HSB.out (by omega)).mono ?_
    rintro e wC ⟨vC, rfl, hownC, hbC⟩
    have HOC : Hid ((wC.alloc (.cells #[.int .u8 17, .int .u8 0] 42)).ownsRow wB.heap.size 42 2 vC T.length (encT T)) := World.ownsRow.alloc hownC _
    have HTC : Hid (TkSl (wC.alloc (.cells #[.int .u8 17, .int .u8 0] 42)) (some ⟨wC.heap.size, 0, none⟩) 1 1 [(17, 0)]) := one_tk wC h17
    have HBC : Hid (Below wB.heap.size wB (wC.alloc (.cells #[.int .u8 17, .int .u8 0] 42))) := hbC.alloc hbC.size _
    have HRC : Hid (∀ j, vC.ownBlock = some j → wB.heap.size ≤ j) := own_ge hownC
    clear hownC hbC
    go_wp2_with (at_builtin; refine Tryd.appendg_tks rfl _ _ rfl wB.heap.size vC T [(17, 0)] _ 1 1 rfl rfl HOC.out HTC.out hlT' hm17 HBC.out.size ?_)
    intro vD wD hownD hgrD
    have HBD : Hid (Below wB.heap.size wB wD) := bl_gr4 HBC.out hgrD HRC
    obtain ⟨D, hDe⟩ : ∃ D, D = T ++ [(17, 0)] := ⟨_, rfl⟩
    have hlen : D.length = T.length + 1 := by rw [hDe]; simp
    rw [← hDe] at hownD hok17
    try rw [← hlen] at hownD
    obtain ⟨aD, cD, rfl, hTD⟩ := own_tks hownD hok17
    have h6 := Tryd.sameT_eq (HZ3.out.up HBD.out) hTD (by rw [hDe]; exact HL2'.out)
    clear HOC HTC HBC HRC hgrD hownD hlen hDe hTD hok17
    go_wp2_with fail
    refine h6.mono ?_
    rintro e wE ⟨rfl, hbE⟩
    have HBE := below_step HBD.out hbE
    have HB4E := below_step HBB.out HBE
    have HOE : Hid ((wE.alloc (.cells #[.int .u8 18, .int .u8 0] 42)).ownsRow w4.heap.size 42 2 (.slice aB T.length cB) T.length (encT T)) := World.ownsRow.alloc (owns_up HOB.out HBE) _
    have HTE : Hid (TkSl (wE.alloc (.cells #[.int .u8 18, .int .u8 0] 42)) (some ⟨wE.heap.size, 0, none⟩) 1 1 [(18, 0)]) := one_tk wE h18
    have HBE4 : Hid (Below w4.heap.size w4 (wE.alloc (.cells #[.int .u8 18, .int .u8 0] 42))) := HB4E.alloc HB4E.size _
    have HSE : Hid (TkSl (wE.alloc (.cells #[.int .u8 18, .int .u8 0] 42)) a4 l3.length c4 l3) := (HZ4.out.up HBE).up (below_new _ _)
    clear h6 hbE HBE HB4E
    go_wp2_with (at_builtin; refine Tryd.appendg_tks rfl _ _ rfl w4.heap.size (.slice aB T.length cB) T [(18, 0)] _ 1 1 rfl rfl HOE.out HTE.out hlT' hm18 HBE4.out.size ?_)
    intro vF wF hownF hgrF
    have HBF : Hid (Below w4.heap.size w4 wF) := bl_gr4 HBE4.out hgrF HRB
    have hSF := tk_far HSE.out hgrF HRB hz4
    obtain ⟨D, hDe⟩ : ∃ D, D = T ++ [(18, 0)] := ⟨_, rfl⟩
    have hlen : D.length = T.length + 1 := by rw [hDe]; simp
    rw [← hDe] at hownF hok18
    try rw [← hlen] at hownF
    obtain ⟨aF, cF, rfl, hTF⟩ := own_tks hownF hok18
    have h7 := Tryd.sameT_eq hSF hTF (by rw [hDe]; exact HL3'.out)
    clear HOE HTE HBE4 HSE hgrF hownF hlen hDe hTF hok18 hSF
    go_wp2_with fail
    refine h7.mono ?_
    rintro e wG ⟨rfl, hbG⟩
    have HBX : Hid (Below w.heap.size w wG) := below_step (below_step HB4.out HBF.out) hbG
    clear h7 hbG hz4
    go_wp2
    go_ret
    exact ⟨rfl, HBX.out⟩
  · injection hj with j1 j2
    injection j2 with j2 j3
    subst j1 j2 j3
    rcases her with rfl | rfl
    · go_wp2
      go_ret
      exact ⟨rfl, HB4.out⟩
    · go_wp2
      go_ret
      exact ⟨rfl, HB4.out⟩
end Go.Proofs.YtnibcmmgnenfcaaDoor
