/- The document's ParseTrace. -/
import Derived.Test.YtmmjihalpmahnaaDoorWRef2
namespace Go.Proofs.YtmmjihalpmahnaaDoor
open Go.RowKit Go.Maps

theorem ext_list (s : ByteArray) (f i : Nat) : (s.extract f i).toList = (s.toList.drop f).take (i - f) := by
  rw [ByteArray.toList_eq, ByteArray.toList_eq, Lib.extract_data]
/-- What is still to be cut from place f on. -/
def restC (s : ByteArray) (f : Nat) : List Bytes := if f ≤ s.size then cut 59 (s.toList.drop f) else []
theorem rest_zero (s : ByteArray) : restC s 0 = cut 59 s.toList := by unfold restC; rw [if_pos (Nat.zero_le _)]; rfl
theorem rest_mid {s : ByteArray} {f i : Nat} (hf : f ≤ i) (hi : i < s.size) (h59 : s[i] = 59) (hno : (59 : UInt8) ∉ (s.toList.drop f).take (i - f)) : restC s f = (s.extract f i).toList :: restC s (i + 1) := by
  unfold restC
  rw [if_pos (by omega), if_pos (by omega), ext_list]
  have hg : s.toList[i]? = some 59 := by rw [tl_get s i hi, h59]
  have e : s.toList.drop f = (s.toList.drop f).take (i - f) ++ 59 :: s.toList.drop (i + 1) := by
    have h1 : (s.toList.drop f).drop (i - f) = s.toList.drop i := by rw [List.drop_drop]; congr 1; omega
    have hl : i < s.toList.length := by rw [tl_len]; exact hi
    have h2 : s.toList.drop i = 59 :: s.toList.drop (i + 1) := by
      rw [List.drop_eq_getElem_cons hl]
      congr 1
      rw [List.getElem?_eq_getElem hl] at hg; exact Option.some.inj hg
    rw [← h2, ← h1, List.take_append_drop]
  conv => lhs; rw [e]
  exact cut_hit _ hno
theorem rest_last {s : ByteArray} {f : Nat} (hf : f ≤ s.size) (hno : (59 : UInt8) ∉ (s.toList.drop f).take (s.size - f)) : restC s f = (s.extract f s.size).toList :: restC s (s.size + 1) := by
  have e : (s.toList.drop f).take (s.size - f) = s.toList.drop f := List.take_of_length_le (by rw [List.length_drop, tl_len]; exact Nat.le_refl _)
  unfold restC
  rw [if_pos hf, if_neg (by omega), ext_list, e]
  rw [e] at hno
  exact cut_miss hno
theorem no_next {s : ByteArray} {f i : Nat} (hf : f ≤ i) (hi : i < s.size) (h59 : s[i] ≠ 59) (hno : (59 : UInt8) ∉ (s.toList.drop f).take (i - f)) : (59 : UInt8) ∉ (s.toList.drop f).take (i + 1 - f) := by
  have e : i + 1 - f = (i - f) + 1 := by omega
  rw [e, List.take_add_one]
  have hg : (s.toList.drop f)[i - f]? = some s[i] := by
    rw [List.getElem?_drop]
    have : f + (i - f) = i := by omega
    rw [this]; exact tl_get s i hi
  rw [hg]
  simp only [List.mem_append, Option.toList_some, List.mem_singleton]
  rintro (h | h)
  · exact hno h
  · exact h59 h.symm
theorem pt_bad {ns : List Bytes} {s p : Bytes} (hz : checkE ns = 0) (h4 : s.length ≤ 4096) (hne : s ≠ []) (hp : p ∈ cut 59 s) (hr : readL ns p = none) : parseTE ns s = ([], 110) := by
  unfold parseTE; rw [if_pos hz, if_neg (by omega), if_neg hne]
  split
  · rfl
  · rw [readAll_none hp hr]; rfl
theorem pt_long {ns : List Bytes} {s : Bytes} (hz : checkE ns = 0) (h4 : s.length ≤ 4096) (hne : s ≠ []) (hl : 1024 < (cut 59 s).length) : parseTE ns s = ([], 110) := by
  unfold parseTE; rw [if_pos hz, if_neg (by omega), if_neg hne, if_pos hl]
theorem pt_good {ns : List Bytes} {s : Bytes} (hz : checkE ns = 0) (h4 : s.length ≤ 4096) (hne : s ≠ []) (hl : (cut 59 s).length ≤ 1024) (h : ∀ p ∈ cut 59 s, (readL ns p).isSome = true) : parseTE ns s = ((cut 59 s).map (rd ns), 0) := by
  unfold parseTE; rw [if_pos hz, if_neg (by omega), if_neg hne, if_neg (by omega), readAll_some h]; rfl

def Tryd.RParseTR (p : List Int × Int) (w : World) (e : Ending) (w' : World) : Prop :=
  ∃ a cap, e = .returned (.tuple #[.slice a p.1.length cap, .int .i64 p.2]) ∧ IntSl Tryd.prog 24 .u8 w' a p.1.length cap p.1 ∧ Below w.heap.size w w'
theorem Tryd.rparseTR_nil {n : Int} {w w' : World} {p : List Int × Int} (hp : p = ([], n)) (hb : Below w.heap.size w w') : Tryd.RParseTR p w (.returned (.tuple #[.slice none 0 0, .int .i64 n])) w' := by
  subst hp; exact ⟨none, 0, rfl, intSl_nil, hb⟩

theorem ownsRow_up {w w' : World} {base e size n : Nat} {v : Value} {xs : List Value} (h : w.ownsRow base e size v n xs) (hb : Below w.heap.size w w') : w'.ownsRow base e size v n xs := by
  obtain ⟨h0, h⟩ := h
  refine ⟨h0, ?_⟩
  rcases h with h | ⟨g, cap, cur, h1, h2, h3, h4, h5, h6, h7⟩
  · exact Or.inl h
  · exact Or.inr ⟨g, cap, cur, h1, h2, (hb.block g (Array.getElem?_eq_some_iff.1 h3).1).trans h3, h4, h5, h6, h7⟩

structure PtInv (s : ByteArray) (ns : List Bytes) (f i : Nat) (ds : List Bytes) : Prop where
  le : f ≤ i
  top : i ≤ s.size + 1
  fin : i = s.size + 1 → f = s.size + 1
  all : cut 59 s.toList = ds ++ restC s f
  no : (59 : UInt8) ∉ (s.toList.drop f).take (i - f)
  ok : ∀ p ∈ ds, (readL ns p).isSome = true
  few : ds.length ≤ 1024

set_option maxRecDepth 100000 in
set_option maxHeartbeats 2000000 in
theorem Tryd.rparseT_any (a : Option Addr) (len cap : Nat) (ad : Nat → Addr) (ss : List ByteArray) (s : ByteArray) (w : World) (hS : StrSl Tryd.prog 22 w a len cap ad ss) (hs : s.size ≤ maxLen) :
    Calls Tryd.prog 17 #[.slice a len cap, .string s] w fun e w' => Tryd.RParseTR (parseTE (nms ss) s.toList) w e w' := by
  have hck0 := Tryd.rcheck_any a len cap ad ss w hS
  have hs' := hs
  unfold maxLen at hs'
  by_cases hz : checkE (nms ss) = 0
  · have hck : Calls Tryd.prog 33 #[.slice a len cap] w fun e w' => e = .returned (.int .i64 0) ∧ Below w.heap.size w w' := hck0.mono fun e w' ⟨he, hb⟩ => ⟨by rw [he, hz], drew_below hb⟩
    have HZ : Hid (checkE (nms ss) = 0) := hz
    clear hck0
    by_cases h4 : 4096 < s.size
    · have HX : Hid (parseTE (nms ss) s.toList = ([], 3)) := by show _ = _; unfold parseTE; rw [if_pos hz, if_pos (by rw [tl_len]; exact h4)]
      clear hz
      go_enter Tryd.func17, Tryd.ntmps17
      go_wp2_with fail
      refine hck.mono ?_
      rintro e w1 ⟨rfl, hb⟩
      go_wp2
      go_ret2
      exact Tryd.rparseTR_nil HX.out hb
    · rcases Bool.eq_false_or_eq_true (s.toList.isEmpty) with he | he
      · have HX : Hid (parseTE (nms ss) s.toList = ([], 0)) := by show _ = _; unfold parseTE; rw [if_pos hz, if_neg (by rw [tl_len]; exact h4), if_pos (by simpa using he)]
        clear hz
        go_enter Tryd.func17, Tryd.ntmps17
        go_wp2_with fail
        refine hck.mono ?_
        rintro e w1 ⟨rfl, hb⟩
        go_wp2
        go_ret2
        exact Tryd.rparseTR_nil HX.out hb
      · have HNE : Hid (s.toList ≠ []) := by show _ ≠ _; simpa using he
        have H4 : Hid (s.toList.length ≤ 4096) := by show _ ≤ _; rw [tl_len]; omega
        obtain ⟨i0, hi, hz0, hz1, hz2⟩ := info_parts Tryd.infoLet
        have HI : Hid (Tryd.prog.info? 23 = some i0) := hi
        have HZ0 : Hid (i0.zero = some (.int .u8 0)) := hz0
        have HZ1 : Hid (i0.size = 1) := hz1
        have HZ2 : Hid (i0.bytes = 1) := hz2
        clear hi hz0 hz1 hz2 hz
        go_enter Tryd.func17, Tryd.ntmps17
        go_wp2_with fail
        refine hck.mono ?_
        rintro e w1 ⟨rfl, hb1⟩
        clear hck
        have hS1 := hS.up hb1
        go_wp2
        go_loopw [7, 8, 9] (fun o f i wr => ∃ (f1 i1 : Nat) (ds : List Bytes), f = .int .i64 f1 ∧ i = .int .i64 i1 ∧ Hid (PtInv s (nms ss) f1 i1 ds) ∧ wr.ownsRow w1.heap.size 23 1 o ds.length ((ds.map (rd (nms ss))).map (Value.int .u8)) ∧ Below w1.heap.size w1 wr) (fun _ _ i _ => s.size + 1 - (intOf i).toNat)
        case atStart => exact ⟨0, 0, [], rfl, rfl, ⟨Nat.le_refl _, by omega, fun h => by omega, by rw [rest_zero]; rfl, by simp, fun p hp => by simp at hp, by simp⟩, ⟨by simp, Or.inl ⟨rfl, rfl⟩⟩, Below.refl _ _⟩
        case round =>
          obtain ⟨f, i, ds, rfl, rfl, HI1, hown, hnx⟩ := hrel
          have hfi := HI1.out.le
          have hit := HI1.out.top
          have hdl := HI1.out.few
          obtain ⟨a9, cap9, hv9, hsl9, _⟩ := ownsRow_intSl hown Tryd.underlying24 Tryd.sizeLet
          have HSL : Hid _ := hsl9
          subst hv9
          clear hsl9
          by_cases hlast : i ≤ s.size
          · by_cases hcont : ∃ h : i < s.size, s[i] ≠ 59
            · obtain ⟨hlt, hne59⟩ := hcont
              have hch : ((s[i].toNat : Int) != 59) = true := by
                simp
                intro h; apply hne59
                have : s[i].toNat = (59 : UInt8).toNat := by simpa using (by omega : s[i].toNat = 59)
                exact UInt8.toNat_inj.1 this
              have HI2 : Hid (PtInv s (nms ss) f (i + 1) ds) := ⟨by omega, by omega, fun h => by omega, HI1.out.all, no_next hfi hlt hne59 HI1.out.no, HI1.out.ok, HI1.out.few⟩
              clear hne59
              go_wp2
              go_roundw
              case rel => exact ⟨f, i + 1, ds, rfl, by go_num, HI2, hown, hnx⟩
              case measure => simp [intOf]; omega
            · have HHD : Hid (restC s f = (s.extract f i).toList :: restC s (i + 1)) := by
                show _ = _
                by_cases hlt : i < s.size
                · exact rest_mid hfi hlt (Classical.byContradiction fun h => hcont ⟨hlt, h⟩) HI1.out.no
                · obtain rfl : i = s.size := by omega
                  exact rest_last hfi HI1.out.no
              have HC : Hid (i < s.size → ∃ h : i < s.size, ((s[i].toNat : Int) != 59) = false) := fun hlt => ⟨hlt, by
                have h59 : s[i] = 59 := Classical.byContradiction fun h => hcont ⟨hlt, h⟩
                rw [h59]; rfl⟩
              have HMEM : Hid ((s.extract f i).toList ∈ cut 59 s.toList) := by show _ ∈ _; rw [HI1.out.all, HHD.out]; simp
              have HLEN : Hid (ds.length + 1 ≤ (cut 59 s.toList).length) := by show _ ≤ _; rw [HI1.out.all, HHD.out]; simp
              have hpa := Tryd.rparse_any a len cap ad ss (s.extract f i) wr (hS1.up hnx)
              have HB : Hid (Below w.heap.size w wr) := hb1.trans (hnx.mono hb1.size)
              clear hcont hS1
              cases hr : readL (nms ss) (s.extract f i).toList with
              | none =>
                have HX : Hid (parseTE (nms ss) s.toList = ([], 110)) := pt_bad HZ.out H4.out HNE.out HMEM.out hr
                have hpe : parseE (nms ss) (s.extract f i).toList = (0, 110) := by unfold parseE; rw [if_pos HZ.out, hr]
                unfold ParseR at hpa
                rw [hpe] at hpa
                clear hr hpe
                by_cases hlt : i < s.size
                · obtain ⟨_, hch⟩ := HC.out hlt
                  go_wp2_with fail
                  refine hpa.mono ?_
                  rintro e w2 ⟨rfl, hb2⟩
                  go_wp2
                  go_ret2
                  exact Tryd.rparseTR_nil HX.out (HB.out.trans (hb2.mono HB.out.size))
                · go_wp2_with fail
                  refine hpa.mono ?_
                  rintro e w2 ⟨rfl, hb2⟩
                  go_wp2
                  go_ret2
                  exact Tryd.rparseTR_nil HX.out (HB.out.trans (hb2.mono HB.out.size))
              | some l =>
                have HRD : Hid (rd (nms ss) (s.extract f i).toList = l) := by show _ = _; unfold rd; rw [hr]; rfl
                have hpe : parseE (nms ss) (s.extract f i).toList = (l, 0) := by unfold parseE; rw [if_pos HZ.out, hr]
                have HOK : Hid ((readL (nms ss) (s.extract f i).toList).isSome = true) := by show _ = _; rw [hr]; rfl
                unfold ParseR at hpa
                rw [hpe] at hpa
                clear hr hpe
                by_cases hfull : ds.length = 1024
                · have HX : Hid (parseTE (nms ss) s.toList = ([], 110)) := pt_long HZ.out H4.out HNE.out (by have := HLEN.out; omega)
                  by_cases hlt : i < s.size
                  · obtain ⟨_, hch⟩ := HC.out hlt
                    go_wp2_with fail
                    refine hpa.mono ?_
                    rintro e w2 ⟨rfl, hb2⟩
                    clear hown hpa
                    go_wp2
                    go_ret2
                    exact Tryd.rparseTR_nil HX.out (HB.out.trans (hb2.mono HB.out.size))
                  · go_wp2_with fail
                    refine hpa.mono ?_
                    rintro e w2 ⟨rfl, hb2⟩
                    clear hown hpa
                    go_wp2
                    go_ret2
                    exact Tryd.rparseTR_nil HX.out (HB.out.trans (hb2.mono HB.out.size))
                · have HI2 : Hid (PtInv s (nms ss) (i + 1) (i + 1) (ds ++ [(s.extract f i).toList])) := ⟨Nat.le_refl _, by omega, fun h => h, by rw [HI1.out.all, HHD.out, List.append_assoc]; rfl, by simp, fun p hp => by
                    rcases List.mem_append.1 hp with h | h
                    · exact HI1.out.ok p h
                    · rw [List.mem_singleton.1 h]; exact HOK.out, by rw [List.length_append, List.length_singleton]; omega⟩
                  clear HI1 HOK HHD HMEM HLEN
                  by_cases hlt : i < s.size
                  · obtain ⟨_, hch⟩ := HC.out hlt
                    go_wp2_with fail
                    refine hpa.mono ?_
                    rintro e w2 ⟨rfl, hb2⟩
                    clear hpa
                    have hown2 := ownsRow_up hown hb2
                    have hnx2 : Below w1.heap.size w1 w2 := hnx.trans (hb2.mono hnx.size)
                    have hsw := hnx2.size
                    clear hb2 hown hnx
                    go_wp2_with (at_builtin; refine wpList_append_own _ rfl _ _ 24 rfl w1.heap.size 23 i0 (.int .u8 0) 1 1 Tryd.underlying24 HI.out HZ0.out HZ1.out HZ2.out rfl (by decide) _ ds.length _ rfl (hown2.alloc _) ⟨_, 0, none⟩ 1 1 [.int .u8 l] rfl rfl (cell_one_new _ _ _) (ints_oneCell .u8 [l]) (by unfold maxLen; omega) (by omega) (by simp; omega) ?_)
                    intro v' w3 hown1 hgrow1 _
                    have R1 : w3.ownsRow w1.heap.size 23 1 v' (ds ++ [(s.extract f i).toList]).length (((ds ++ [(s.extract f i).toList]).map (rd (nms ss))).map (Value.int .u8)) := by
                      rw [List.map_append, List.map_append, List.length_append, List.map_singleton, HRD.out, List.map_map]; exact hown1
                    have R2 : Below w1.heap.size w1 w3 := (hnx2.alloc hsw _).grown hgrow1 (by simp; omega) (own_ge hown2)
                    clear hown1 hgrow1 hown2
                    go_wp2
                    go_roundw
                    case rel => exact ⟨i + 1, i + 1, ds ++ [(s.extract f i).toList], by go_num, by go_num, HI2, R1, R2⟩
                    case measure => simp [intOf]; omega
                  · go_wp2_with fail
                    refine hpa.mono ?_
                    rintro e w2 ⟨rfl, hb2⟩
                    clear hpa
                    have hown2 := ownsRow_up hown hb2
                    have hnx2 : Below w1.heap.size w1 w2 := hnx.trans (hb2.mono hnx.size)
                    have hsw := hnx2.size
                    clear hb2 hown hnx
                    go_wp2_with (at_builtin; refine wpList_append_own _ rfl _ _ 24 rfl w1.heap.size 23 i0 (.int .u8 0) 1 1 Tryd.underlying24 HI.out HZ0.out HZ1.out HZ2.out rfl (by decide) _ ds.length _ rfl (hown2.alloc _) ⟨_, 0, none⟩ 1 1 [.int .u8 l] rfl rfl (cell_one_new _ _ _) (ints_oneCell .u8 [l]) (by unfold maxLen; omega) (by omega) (by simp; omega) ?_)
                    intro v' w3 hown1 hgrow1 _
                    have R1 : w3.ownsRow w1.heap.size 23 1 v' (ds ++ [(s.extract f i).toList]).length (((ds ++ [(s.extract f i).toList]).map (rd (nms ss))).map (Value.int .u8)) := by
                      rw [List.map_append, List.map_append, List.length_append, List.map_singleton, HRD.out, List.map_map]; exact hown1
                    have R2 : Below w1.heap.size w1 w3 := (hnx2.alloc hsw _).grown hgrow1 (by simp; omega) (own_ge hown2)
                    clear hown1 hgrow1 hown2
                    go_wp2
                    go_roundw
                    case rel => exact ⟨i + 1, i + 1, ds ++ [(s.extract f i).toList], by go_num, by go_num, HI2, R1, R2⟩
                    case measure => simp [intOf]; omega
          · obtain rfl : i = s.size + 1 := by omega
            have HF : Hid (f = s.size + 1) := HI1.out.fin rfl
            have HCUT : Hid (cut 59 s.toList = ds) := by
              show _ = _
              rw [HI1.out.all]; unfold restC; rw [if_neg (by have := HF.out; omega), List.append_nil]
            have HX : Hid (parseTE (nms ss) s.toList = (ds.map (rd (nms ss)), 0)) := by
              show _ = _
              rw [pt_good HZ.out H4.out HNE.out (by rw [HCUT.out]; exact hdl) (by rw [HCUT.out]; exact HI1.out.ok), HCUT.out]
            clear hown
            go_wp2
            go_ret2
            refine ⟨a9, cap9, ?_, ?_, hb1.trans (hnx.mono hb1.size)⟩
            · rw [HX.out]; simp only [List.length_map]; rfl
            · rw [HX.out]; simp only [List.length_map]; exact HSL.out
  · have HX : Hid (parseTE (nms ss) s.toList = ([], checkE (nms ss))) := by show _ = _; unfold parseTE; rw [if_neg hz]
    have hz' : (checkE (nms ss) != 0) = true := by simpa using hz
    have hck : Calls Tryd.prog 33 #[.slice a len cap] w fun e w' => e = .returned (.int .i64 (checkE (nms ss))) ∧ Below w.heap.size w w' := hck0.mono fun e w' ⟨he, hb⟩ => ⟨he, drew_below hb⟩
    clear hz hck0
    go_enter Tryd.func17, Tryd.ntmps17
    go_wp2_with fail
    refine hck.mono ?_
    rintro e w1 ⟨rfl, hb1⟩
    go_wp2
    go_ret2
    exact Tryd.rparseTR_nil HX.out hb1
end Go.Proofs.YtmmjihalpmahnaaDoor
