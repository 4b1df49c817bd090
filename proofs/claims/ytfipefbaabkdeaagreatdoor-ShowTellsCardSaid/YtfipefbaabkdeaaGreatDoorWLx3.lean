/- The longest sign with which a text begins, by the program's labelled loop and by the document's list; the sorts. -/
import Derived.Test.YtfipefbaabkdeaaGreatDoorWLx2
import Derived.WalkMore
namespace Go.Proofs.YtfipefbaabkdeaaGreatDoor
open Go.RowKit Go.Maps

theorem longGo_drop {s : Bytes} {ss : List Bytes} {k : Nat} {a best : Bytes} (h : ss[k]? = some a) :
    longGo s (ss.drop k) best = if decide (best.length < a.length) && pre a s then longGo s (ss.drop (k + 1)) a else longGo s (ss.drop (k + 1)) best := by
  obtain ⟨hk, e⟩ := List.getElem?_eq_some_iff.1 h
  rw [List.drop_eq_getElem_cons hk, e]; rfl
theorem longGo_skip {s : Bytes} {ss : List Bytes} {k : Nat} {a best : Bytes} (h : ss[k]? = some a) (hb : a.length ≤ best.length ∨ s.length < a.length ∨ pre a s = false) :
    longGo s (ss.drop k) best = longGo s (ss.drop (k + 1)) best := by
  rw [longGo_drop h, if_neg]
  rcases hb with h | h | h
  · simp; omega
  · simp [pre_short h]
  · simp [h]
theorem longGo_take {s : Bytes} {ss : List Bytes} {k : Nat} {a best : Bytes} (h : ss[k]? = some a) (hb : best.length < a.length) (hp : pre a s = true) :
    longGo s (ss.drop k) best = longGo s (ss.drop (k + 1)) a := by
  rw [longGo_drop h, if_pos (by simp [hb, hp])]
theorem pre_up {x s : ByteArray} {q : Nat} (h1 : q < s.size) (h2 : q < x.size) (h : s.toList.take q = x.toList.take q) (he : s[q] = x[q]) : s.toList.take (q + 1) = x.toList.take (q + 1) := by
  rw [List.take_add_one, List.take_add_one, h, tl_get s q h1, tl_get x q h2, he]
theorem pre_mis {x s : ByteArray} {q : Nat} (h1 : q < s.size) (h2 : q < x.size) (he : s[q] ≠ x[q]) : pre x.toList s.toList = false := by
  cases hp : pre x.toList s.toList with
  | false => rfl
  | true =>
    have e : x.toList[q]? = (s.toList.take x.toList.length)[q]? := congrArg (fun l : Bytes => l[q]?) (pre_eq hp)
    rw [tl_get x q h2, List.getElem?_take, if_pos (by rw [tl_len]; exact h2), tl_get s q h1] at e
    injection e with e
    exact absurd e.symm he
theorem pre_hit {x s : ByteArray} (h : s.toList.take x.size = x.toList.take x.size) : pre x.toList s.toList = true := by
  unfold pre
  rw [tl_len, h, ← tl_len, List.take_length]; simp
theorem u8_ne {a b : UInt8} : ((a.toNat : Int) != (b.toNat : Int)) = true → a ≠ b := by
  intro h e; subst e; simp at h
theorem u8_eq' {a b : UInt8} : ((a.toNat : Int) != (b.toNat : Int)) = false → a = b := by
  intro h; simp at h; exact UInt8.toNat_inj.1 (by omega)

set_option maxHeartbeats 1000000 in
theorem Tryz.longest_any (g : Nat) (ss : List Bytes) (s : ByteArray) (w : World) (hS : StAt w g ss) (hn : ss.length ≤ 1000) (hb : ∀ x ∈ ss, x.length ≤ 1000) (hs : s.size ≤ maxLen) :
    Calls Tryz.prog 86 #[.string s, .slice (some ⟨g, 0, none⟩) ss.length ss.length] w fun e w' => e = .returned (.string (mkB (longGo s.toList ss []))) ∧ ∃ n, w' = w.drewN n := by
  unfold maxLen at hs
  obtain ⟨len, hlen⟩ : ∃ len, ss.length = len := ⟨_, rfl⟩
  have HL : Hid (ss.length = len) := hlen
  have HB : Hid (∀ x ∈ ss, x.length ≤ 1000) := hb
  have HG : ∀ k, k < len → ss[k]? = some (ss.getD k []) := fun k hk => getD_get (by omega)
  have hc : ∀ k, k < len → ∀ m, (w.drewN m).cell? ⟨g, k, none⟩ = some (.string (mkB (ss.getD k []))) := fun k hk m => by rw [World.cell?_drewN]; exact hS.cell (by omega)
  have hidx := Tryz.idxS g len
  have hn' : len ≤ 1000 := by omega
  rw [hlen]
  clear hlen hS hn hb
  go_enter Tryz.func86, Tryz.ntmps86
  go_wp2
  go_step3
  go_wp2
  go_step3
  go_wp2
  go_loopw [5, 11] (fun b i wr => ∃ (k : Nat) (best : ByteArray), k ≤ len ∧ i = .int .i64 k ∧ b = .string best ∧ best.size ≤ 1000 ∧ Hid (longGo s.toList ss [] = longGo s.toList (ss.drop k) best.toList) ∧ ∃ n, wr = w.drewN n) (fun _ i _ => len - (intOf i).toNat)
  case atStart => exact ⟨0, ByteArray.empty, Nat.zero_le _, rfl, rfl, by decide, by show _ = _; simp [ByteArray.toList_eq], 0, rfl⟩
  case round =>
    obtain ⟨k, best, hk, rfl, rfl, hbs, HU, m, rfl⟩ := hrel
    by_cases hlt : k < len
    · have hck := hc k hlt m
      have hik := hidx k hlt
      have hgk0 := HG k hlt
      have hxs : (mkB (ss.getD k [])).size ≤ 1000 := by rw [mkB_size]; exact HB.out _ (List.mem_of_getElem? hgk0)
      have hgk : Hid (ss[k]? = some (mkB (ss.getD k [])).toList) := by show _ = _; rw [mkB_toList]; exact hgk0
      clear HG hc hidx hgk0
      generalize mkB (ss.getD k []) = x at *
      by_cases h1 : x.size ≤ best.size
      · have HN : Hid _ := HU.out.trans (longGo_skip hgk.out (Or.inl (by rw [tl_len, tl_len]; exact h1)))
        go_wp2
        go_roundw
        case rel => exact ⟨k + 1, best, by omega, by go_num, rfl, hbs, HN, m, rfl⟩
        case measure => simp [intOf]; omega
      · by_cases h2 : s.size < x.size
        · have HN : Hid _ := HU.out.trans (longGo_skip hgk.out (Or.inr (Or.inl (by rw [tl_len, tl_len]; exact h2))))
          go_wp2
          go_roundw
          case rel => exact ⟨k + 1, best, by omega, by go_num, rfl, hbs, HN, m, rfl⟩
          case measure => simp [intOf]; omega
        · go_wp2
          go_loopw [29] (fun j wr => ∃ q : Nat, q ≤ x.size ∧ j = .int .i64 q ∧ Hid (s.toList.take q = x.toList.take q) ∧ ∃ n, wr = w.drewN n) (fun j _ => x.size - (intOf j).toNat)
          case atStart => exact ⟨0, Nat.zero_le _, rfl, by show _ = _; simp, m, rfl⟩
          case round =>
            obtain ⟨q, hq, rfl, HQ, m2, rfl⟩ := hrel
            by_cases hql : q < x.size
            · have hqs : q < s.size := by omega
              go_wp2
              go_quiet (fail)
              rcases Bool.eq_false_or_eq_true ((s[q].toNat : Int) != (x[q].toNat : Int)) with ht | ht
              · have HN : Hid _ := HU.out.trans (longGo_skip hgk.out (Or.inr (Or.inr (pre_mis hqs hql (u8_ne ht)))))
                go_wp2
                go_roundw
                case rel => exact ⟨k + 1, best, by omega, by go_num, rfl, hbs, HN, m2 + nq, rfl⟩
                case measure => simp [intOf]; omega
              · have HQ2 : Hid _ := pre_up hqs hql HQ.out (u8_eq' ht)
                go_wp2
                go_roundw
                case rel => exact ⟨q + 1, by omega, by go_num, HQ2, m2 + nq, rfl⟩
                case measure => simp [intOf]; omega
            · obtain rfl : q = x.size := by omega
              have HN : Hid _ := HU.out.trans (longGo_take hgk.out (by rw [tl_len, tl_len]; omega) (pre_hit HQ.out))
              go_wp2
              go_roundw
              case rel => exact ⟨k + 1, x, by omega, by go_num, rfl, hxs, HN, m2, rfl⟩
              case measure => simp [intOf]; omega
    · have HX : Hid (longGo s.toList ss [] = best.toList) := by
        have := HU.out
        rw [List.drop_of_length_le (by have := HL.out; omega)] at this
        exact this
      go_wp2
      rw [Exit.noGoto_ret]
      go_ret
      exact ⟨by rw [HX.out, mkB_of]; rfl, m, rfl⟩

theorem sort_1 {s : Bytes} (h : sgP.contains s = true) : sortL s = (0, true) := by unfold sortL; rw [if_pos h]
theorem sort_2 {s : Bytes} (h : sgP.contains s = false) (h2 : keyL.contains s = true) : sortL s = (1, true) := by unfold sortL; rw [if_neg (by rw [h]; simp), if_pos h2]
theorem sort_3 {s : Bytes} (h : sgP.contains s = false) (h2 : keyL.contains s = false) (h3 : nameL s = true) : sortL s = (2, true) := by unfold sortL; rw [if_neg (by rw [h]; simp), if_neg (by rw [h2]; simp), if_pos h3]
theorem sort_4 {s : Bytes} (h : sgP.contains s = false) (h2 : keyL.contains s = false) (h3 : nameL s = false) : sortL s = (0, false) := by unfold sortL; rw [if_neg (by rw [h]; simp), if_neg (by rw [h2]; simp), if_neg (by rw [h3]; simp)]
/-- The program's sortOf: which sort of word a text is. -/
theorem Tryz.sortOf_any (g : Nat) (s : ByteArray) (w : World) (hS : StAt w g sgP) (hs : s.size ≤ maxLen) :
    Calls Tryz.prog 63 #[.string s, .slice (some ⟨g, 0, none⟩) 17 17] w fun e w' => e = .returned (.tuple #[.int .u8 ((sortL s.toList).1 : Int), .bool (sortL s.toList).2]) ∧ w' = w := by
  have hC := Tryz.contains_any g sgP s w hS (by decide)
  have hK := Tryz.key_any s w
  have hN := Tryz.name_any s w hs
  have hl : sgP.length = 17 := rfl
  rw [hl] at hC
  clear hS hl
  rcases Bool.eq_false_or_eq_true (sgP.contains s.toList) with h1 | h1
  · rw [sort_1 h1]; rw [h1] at hC; clear h1
    go_enter Tryz.func63, Tryz.ntmps63
    go_wp2_with (first | (go_at_call 87; refine hC.mono ?_; rintro e w' ⟨rfl, rfl⟩))
    go_ret2
    exact ⟨rfl, rfl⟩
  rcases Bool.eq_false_or_eq_true (keyL.contains s.toList) with h2 | h2
  · rw [sort_2 h1 h2]; rw [h1] at hC; rw [h2] at hK; clear h1 h2
    go_enter Tryz.func63, Tryz.ntmps63
    go_wp2_with (first | (go_at_call 87; refine hC.mono ?_; rintro e w' ⟨rfl, rfl⟩) | (go_at_call 88; refine hK.mono ?_; rintro e w' ⟨rfl, rfl⟩))
    go_ret2
    exact ⟨rfl, rfl⟩
  rcases Bool.eq_false_or_eq_true (nameL s.toList) with h3 | h3
  · rw [sort_3 h1 h2 h3]; rw [h1] at hC; rw [h2] at hK; rw [h3] at hN; clear h1 h2 h3
    go_enter Tryz.func63, Tryz.ntmps63
    go_wp2_with (first | (go_at_call 87; refine hC.mono ?_; rintro e w' ⟨rfl, rfl⟩) | (go_at_call 88; refine hK.mono ?_; rintro e w' ⟨rfl, rfl⟩) | (go_at_call 56; refine hN.mono ?_; rintro e w' ⟨rfl, rfl⟩))
    go_ret2
    exact ⟨rfl, rfl⟩
  · rw [sort_4 h1 h2 h3]; rw [h1] at hC; rw [h2] at hK; rw [h3] at hN; clear h1 h2 h3
    go_enter Tryz.func63, Tryz.ntmps63
    go_wp2_with (first | (go_at_call 87; refine hC.mono ?_; rintro e w' ⟨rfl, rfl⟩) | (go_at_call 88; refine hK.mono ?_; rintro e w' ⟨rfl, rfl⟩) | (go_at_call 56; refine hN.mono ?_; rintro e w' ⟨rfl, rfl⟩))
    go_ret2
    exact ⟨rfl, rfl⟩
/-- The document's Sort. -/
theorem Tryz.rsort_any (s : ByteArray) (w : World) (hs : s.size ≤ maxLen) :
    Calls Tryz.prog 69 #[.string s] w fun e w' => e = .returned (.tuple #[.int .u8 ((sortL s.toList).1 : Int), .bool (sortL s.toList).2]) ∧ Below w.heap.size w w' := by
  have hC : ∀ (w : World), Calls Tryz.prog 92 #[.slice (some ⟨w.heap.size, 0, none⟩) 17 17, .string s] (w.alloc (.cells (sgR.map fun l => Value.string (mkB l)).toArray 9)) _ := fun w => Tryz.rin_any w.heap.size sgR s _ (StAt.new w sgR) (by decide)
  have hK : ∀ (w : World) (g : Nat), g = w.heap.size → Calls Tryz.prog 92 #[.slice (some ⟨g, 0, none⟩) 9 9, .string s] (w.alloc (.cells (keyL.map fun l => Value.string (mkB l)).toArray 9)) _ := fun w g hg => Tryz.rin_any g keyL s _ (hg ▸ StAt.new w keyL) (by decide)
  have hN := fun w => Tryz.rname_any s w hs
  have l1 : sgR.length = 17 := rfl
  have l2 : keyL.length = 9 := rfl
  have hA := Tryz.rsigns_any
  have hB := Tryz.rkeys_any
  rw [l1] at hA
  rw [l2] at hB
  clear l1 l2
  generalize (sgR.map fun l => Value.string (mkB l)).toArray = sgs at hA hC
  generalize (keyL.map fun l => Value.string (mkB l)).toArray = ks at hB hK
  rcases Bool.eq_false_or_eq_true (sgP.contains s.toList) with h1 | h1
  · rw [sort_1 h1]; rw [sg_contains] at h1; rw [h1] at hC; clear h1
    go_enter Tryz.func69, Tryz.ntmps69
    go_wp2_with (first | (go_at_call 91; refine (hA _).mono ?_; rintro e w' ⟨rfl, rfl⟩) | (go_at_call 92; with_reducible refine (hC _).mono ?_; rintro e w' ⟨rfl, rfl⟩))
    go_ret2
    exact ⟨rfl, below_new _ _⟩
  rcases Bool.eq_false_or_eq_true (keyL.contains s.toList) with h2 | h2
  · rw [sort_2 h1 h2]; rw [sg_contains] at h1; rw [h1] at hC; rw [h2] at hK; clear h1 h2
    go_enter Tryz.func69, Tryz.ntmps69
    go_wp2_with (first | (go_at_call 91; refine (hA _).mono ?_; rintro e w' ⟨rfl, rfl⟩) | (go_at_call 92; with_reducible refine (hC _).mono ?_; rintro e w' ⟨rfl, rfl⟩) | (go_at_call 93; refine (hB _).mono ?_; rintro e w' ⟨rfl, rfl⟩) | (go_at_call 92; with_reducible refine (hK _ _ (by simp)).mono ?_; rintro e w' ⟨rfl, rfl⟩))
    go_ret2
    exact ⟨rfl, below_step (below_new _ _) (below_new _ _)⟩
  rcases Bool.eq_false_or_eq_true (nameL s.toList) with h3 | h3
  · rw [sort_3 h1 h2 h3]; rw [sg_contains] at h1; rw [h1] at hC; rw [h2] at hK; rw [h3] at hN; clear h1 h2 h3
    go_enter Tryz.func69, Tryz.ntmps69
    go_wp2_with (first | (go_at_call 91; refine (hA _).mono ?_; rintro e w' ⟨rfl, rfl⟩) | (go_at_call 92; with_reducible refine (hC _).mono ?_; rintro e w' ⟨rfl, rfl⟩) | (go_at_call 93; refine (hB _).mono ?_; rintro e w' ⟨rfl, rfl⟩) | (go_at_call 92; with_reducible refine (hK _ _ (by simp)).mono ?_; rintro e w' ⟨rfl, rfl⟩) | (go_at_call 29; refine (hN _).mono ?_; rintro e w' ⟨rfl, rfl⟩))
    go_ret2
    exact ⟨rfl, below_step (below_new _ _) (below_new _ _)⟩
  · rw [sort_4 h1 h2 h3]; rw [sg_contains] at h1; rw [h1] at hC; rw [h2] at hK; rw [h3] at hN; clear h1 h2 h3
    go_enter Tryz.func69, Tryz.ntmps69
    go_wp2_with (first | (go_at_call 91; refine (hA _).mono ?_; rintro e w' ⟨rfl, rfl⟩) | (go_at_call 92; with_reducible refine (hC _).mono ?_; rintro e w' ⟨rfl, rfl⟩) | (go_at_call 93; refine (hB _).mono ?_; rintro e w' ⟨rfl, rfl⟩) | (go_at_call 92; with_reducible refine (hK _ _ (by simp)).mono ?_; rintro e w' ⟨rfl, rfl⟩) | (go_at_call 29; refine (hN _).mono ?_; rintro e w' ⟨rfl, rfl⟩))
    go_ret2
    exact ⟨rfl, below_step (below_new _ _) (below_new _ _)⟩
end Go.Proofs.YtfipefbaabkdeaaGreatDoor
