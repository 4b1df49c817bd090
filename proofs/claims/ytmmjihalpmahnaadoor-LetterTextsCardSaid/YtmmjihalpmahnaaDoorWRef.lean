/- The document's text, Print, Parse, Trace, PrintTrace, ParseTrace: the same plain functions. -/
import Derived.Test.YtmmjihalpmahnaaDoorWBack
namespace Go.Proofs.YtmmjihalpmahnaaDoor
open Go.RowKit Go.Maps

theorem join_snoc (c : UInt8) (x : Bytes) : ∀ (xs : List Bytes), xs ≠ [] → Lib.join (xs ++ [x]) [c] = Lib.join xs [c] ++ c :: x
  | [y], _ => by rw [List.singleton_append, Lib.join_cons, Lib.join_one]; simp [Lib.joinTail]
  | y :: z :: r, _ => by
    have ih := join_snoc c x (z :: r) (by simp)
    have e1 : Lib.join ((y :: z :: r) ++ [x]) [c] = y ++ c :: Lib.join ((z :: r) ++ [x]) [c] := by
      simp only [List.cons_append]; rw [Lib.join_cons, Lib.join_cons]; simp [Lib.joinTail]
    have e2 : Lib.join (y :: z :: r) [c] = y ++ c :: Lib.join (z :: r) [c] := by rw [Lib.join_cons, Lib.join_cons]; simp [Lib.joinTail]
    rw [e1, ih, e2]; simp
theorem mk_toList (b : ByteArray) : (⟨b.data.toList.toArray⟩ : ByteArray) = b := by cases b; simp
theorem app_eq (a b : ByteArray) : a ++ b = ⟨(a.data.toList ++ b.data.toList).toArray⟩ := by
  have : (a ++ b).data = a.data ++ b.data := ByteArray.data_append
  rw [← mk_toList (a ++ b), this]; simp
/-- The text so far. -/
def jB (c : UInt8) (xs : List ByteArray) : ByteArray := ⟨(Lib.join (xs.map (·.data.toList)) [c]).toArray⟩
theorem jB_nil (c : UInt8) : jB c [] = ⟨#[]⟩ := rfl
theorem jB_first (c : UInt8) (x : ByteArray) : jB c [x] = x := by unfold jB; rw [List.map_cons, List.map_nil, Lib.join_one]
theorem jB_more (c : UInt8) (x : ByteArray) {xs : List ByteArray} (h : xs ≠ []) : jB c (xs ++ [x]) = (jB c xs ++ ⟨#[c]⟩) ++ x := by
  unfold jB
  rw [List.map_append, List.map_cons, List.map_nil, join_snoc c _ _ (by simpa using h), app_eq, app_eq]; simp
theorem jB_empty {c : UInt8} {xs : List ByteArray} (h : ∀ x ∈ xs, 1 ≤ x.size) : (jB c xs).toList.isEmpty = xs.isEmpty := by
  rw [ByteArray.toList_eq]
  cases xs with
  | nil => rfl
  | cons x r =>
    have hx := h x (by simp)
    have : Lib.join ((x :: r).map (·.data.toList)) [c] ≠ [] := by
      rw [List.map_cons, Lib.join_cons]
      intro e
      have e2 : x.data.toList = [] := (List.append_eq_nil_iff.1 e).1
      have : x.size = 0 := by rw [← tl_len, ByteArray.toList_eq, e2]; rfl
      omega
    unfold jB; simpa using this
theorem jB_size (c : UInt8) (n : Nat) (xs : List ByteArray) (h : ∀ x ∈ xs, x.size ≤ n) : (jB c xs).size ≤ xs.length * (n + 1) := by
  have := join_len c (xs.map (·.data.toList)) n (fun z hz => by obtain ⟨x, hx, rfl⟩ := List.mem_map.1 hz; exact h x hx)
  unfold jB; simp only [List.length_map] at this; simpa [ByteArray.size] using this
theorem names_pos {ss : List ByteArray} (h : checkE (nms ss) = 0) {k : Nat} (hk : k < ss.length) : 1 ≤ (ss.getD k ByteArray.empty).size := by
  have := nameL_len (checkE_names h _ (List.mem_of_getElem? (nms_get hk)))
  rw [tl_len] at this; exact this.1
theorem onB_pos {l : Int} {ss : List ByteArray} (hz : checkE (nms ss) = 0) : ∀ k, k ≤ ss.length → ∀ x ∈ onB l ss k, 1 ≤ x.size
  | 0, _, x, hx => by simp [onB] at hx
  | k + 1, hk, x, hx => by
    simp only [onB, List.mem_append] at hx
    rcases hx with hx | hx
    · exact onB_pos hz k (by omega) x hx
    · split at hx
      · simp only [List.mem_singleton] at hx; subst hx; exact names_pos hz (by omega)
      · simp at hx

set_option maxRecDepth 100000 in
set_option maxHeartbeats 1000000 in
theorem Tryd.rtext_any (a : Option Addr) (len cap : Nat) (ad : Nat → Addr) (ss : List ByteArray) (l : Int) (w : World) (hS : StrSl Tryd.prog 22 w a len cap ad ss) (hz : checkE (nms ss) = 0) (hl0 : 0 ≤ l) (hl1 : l < 256) :
    Calls Tryd.prog 35 #[.slice a len cap, .int .u8 l] w fun e w' => e = .returned (.string (textB l ss)) ∧ w' = w := by
  have HL : Hid (ss.length = len) := hS.hlen
  have h8 : len ≤ 8 := by have := checkE_len hz; rw [nms_len, HL.out] at this; exact this
  have HZ : Hid (checkE (nms ss) = 0) := hz
  have hsz := names_size hz
  have HPOS : Hid (∀ k, k ≤ len → ∀ x ∈ onB l ss k, 1 ≤ x.size) := fun k hk => onB_pos hz k (by rw [HL.out]; exact hk)
  clear hz
  have hidx := fun (k : Nat) (w : World) (h : k < len) => hS.idx len k w h (Nat.le_refl _)
  have hcell := hS.cell
  go_enter Tryd.func35, Tryd.ntmps35
  go_wp2
  go_loop [5, 6] (fun t i => ∃ k : Nat, k ≤ len ∧ i = .int .i64 k ∧ t = .string (jB 32 (onB l ss k))) (fun _ i => len - (intOf i).toNat)
  case atStart => exact ⟨0, Nat.zero_le _, rfl, rfl⟩
  case round =>
    obtain ⟨k, hk, rfl, rfl⟩ := hrel
    by_cases hlt : k < len
    · have hck := hcell k hlt
      have hbt := Tryd.Bit_any l k w hl0 hl1
      have hpos := HPOS.out k hk
      have hjs := jB_size 32 20 (onB l ss k) (onB_size hsz k)
      have hol := onB_len l ss k
      have hxz := hsz k
      have ht : bitB l k = true → Hid (onB l ss (k + 1) = onB l ss k ++ [ss.getD k ByteArray.empty]) := fun h => onB_t h
      clear hcell
      generalize ss.getD k ByteArray.empty = x at *
      rcases Bool.eq_false_or_eq_true (bitB l k) with hb | hb
      · have HT := ht hb
        rw [hb] at hbt
        clear ht hb
        generalize onB l ss k = xs at *
        have hmul : xs.length * (20 + 1) ≤ 8 * 21 := Nat.mul_le_mul (by omega) (by decide)
        have hemp := jB_empty (c := 32) hpos
        cases xs with
        | nil =>
          have HE : Hid (jB 32 (onB l ss (k + 1)) = x) := by show _ = _; rw [HT.out, List.nil_append, jB_first]
          rw [jB_nil] at hemp hjs ⊢
          go_wp2_with (go_at_call 57; refine hbt.mono ?_; rintro e w' ⟨rfl, rfl⟩)
          go_round
          case rel => exact ⟨k + 1, by omega, by go_num, by rw [HE.out]; first | rfl | simp⟩
          case measure => simp [intOf]; omega
        | cons y r =>
          have HE : Hid (jB 32 (onB l ss (k + 1)) = (jB 32 (y :: r) ++ ⟨#[32]⟩) ++ x) := by show _ = _; rw [HT.out, jB_more 32 x (by simp)]
          generalize jB 32 (y :: r) = t at *
          go_wp2_with (go_at_call 57; refine hbt.mono ?_; rintro e w' ⟨rfl, rfl⟩)
          go_round
          case rel => exact ⟨k + 1, by omega, by go_num, by rw [HE.out]⟩
          case measure => simp [intOf]; omega
      · rw [hb] at hbt
        have HR : Hid (onB l ss (k + 1) = onB l ss k) := onB_f hb
        clear hb ht
        go_wp2_with (go_at_call 57; refine hbt.mono ?_; rintro e w' ⟨rfl, rfl⟩)
        go_round
        case rel => exact ⟨k + 1, by omega, by go_num, by rw [HR.out]⟩
        case measure => simp [intOf]; omega
    · obtain rfl : len = k := by omega
      have hpos := HPOS.out len (Nat.le_refl _)
      have hemp := jB_empty (c := 32) hpos
      have HT : Hid (textB l ss = if onB l ss len = [] then ⟨#[45]⟩ else jB 32 (onB l ss len)) := by show _ = _; unfold textB; rw [HL.out]; rfl
      clear hcell hpos
      generalize onB l ss len = xs at *
      cases xs with
      | nil =>
        go_wp2
        go_ret
        exact ⟨by rw [HT.out]; rfl, rfl⟩
      | cons y r =>
        have HT2 : Hid (textB l ss = jB 32 (y :: r)) := by show _ = _; rw [HT.out, if_neg (by simp)]
        generalize jB 32 (y :: r) = t at *
        go_wp2
        go_ret
        exact ⟨by rw [HT2.out]; rfl, rfl⟩

set_option maxRecDepth 100000 in
set_option maxHeartbeats 400000 in
theorem Tryd.rprint_any (a : Option Addr) (len cap : Nat) (ad : Nat → Addr) (ss : List ByteArray) (l : Int) (w : World) (hS : StrSl Tryd.prog 22 w a len cap ad ss) (hl0 : 0 ≤ l) (hl1 : l < 256) :
    Calls Tryd.prog 11 #[.slice a len cap, .int .u8 l] w fun e w' => PrintR (printB l ss) e ∧ Below w.heap.size w w' := by
  have hck0 := Tryd.rcheck_any a len cap ad ss w hS
  by_cases hz : checkE (nms ss) = 0
  · have hck : Calls Tryd.prog 33 #[.slice a len cap] w fun e w' => e = .returned (.int .i64 0) ∧ Below w.heap.size w w' := hck0.mono fun e w' ⟨he, hb⟩ => ⟨by rw [he, hz], drew_below hb⟩
    have HX : Hid (printB l ss = if fitsB len l then (textB l ss, 0) else (⟨#[]⟩, 2)) := by show _ = _; unfold printB; rw [if_pos hz, hS.hlen]
    have htx := fun W (hW : Below w.heap.size w W) => Tryd.rtext_any a len cap ad ss l W (hS.up hW) hz hl0 hl1
    clear hz hck0
    rcases Bool.eq_false_or_eq_true (fitsB len l) with hf | hf
    · have HX2 : Hid (printB l ss = (textB l ss, 0)) := by show _ = _; rw [HX.out, hf]; rfl
      have hft : ∀ W, Calls Tryd.prog 34 #[.int .i64 len, .int .u8 l] W fun e w' => e = .returned (.bool true) ∧ W = w' := fun W => (Tryd.rfits_any len l W hl0 hl1).mono fun e w' ⟨he, hw⟩ => ⟨by rw [he, hf], hw.symm⟩
      clear hf
      go_enter Tryd.func11, Tryd.ntmps11
      go_wp2_with fail
      refine hck.mono ?_
      rintro e w1 ⟨rfl, hb1⟩
      go_wp2_with fail
      refine (hft w1).mono ?_
      rintro e w1' ⟨rfl, rfl⟩
      go_wp2_with fail
      refine (htx w1 hb1).mono ?_
      rintro e w2 ⟨rfl, hw⟩
      subst hw
      go_wp2
      go_ret2
      exact ⟨by unfold PrintR; rw [HX2.out]; rfl, hb1⟩
    · have HX2 : Hid (printB l ss = (⟨#[]⟩, 2)) := by show _ = _; rw [HX.out, hf]; rfl
      have hft : ∀ W, Calls Tryd.prog 34 #[.int .i64 len, .int .u8 l] W fun e w' => e = .returned (.bool false) ∧ W = w' := fun W => (Tryd.rfits_any len l W hl0 hl1).mono fun e w' ⟨he, hw⟩ => ⟨by rw [he, hf], hw.symm⟩
      clear hf
      go_enter Tryd.func11, Tryd.ntmps11
      go_wp2_with fail
      refine hck.mono ?_
      rintro e w1 ⟨rfl, hb1⟩
      go_wp2_with fail
      refine (hft w1).mono ?_
      rintro e w1' ⟨rfl, rfl⟩
      go_wp2
      go_ret2
      exact ⟨by unfold PrintR; rw [HX2.out]; rfl, hb1⟩
  · have HX : Hid (printB l ss = (⟨#[]⟩, checkE (nms ss))) := by show _ = _; unfold printB; rw [if_neg hz]
    have hz' : (checkE (nms ss) != 0) = true := by simpa using hz
    have hck : Calls Tryd.prog 33 #[.slice a len cap] w fun e w' => e = .returned (.int .i64 (checkE (nms ss))) ∧ Below w.heap.size w w' := hck0.mono fun e w' ⟨he, hb⟩ => ⟨he, drew_below hb⟩
    clear hz hck0
    go_enter Tryd.func11, Tryd.ntmps11
    go_wp2_with fail
    refine hck.mono ?_
    rintro e w1 ⟨rfl, hb1⟩
    go_wp2
    go_ret2
    exact ⟨by unfold PrintR; rw [HX.out]; rfl, hb1⟩

set_option maxRecDepth 100000 in
set_option maxHeartbeats 800000 in
theorem Tryd.rtrace_any (n : Int) (a : Option Addr) (len cap : Nat) (zs : List Int) (w : World) (hS : IntSl Tryd.prog 24 .u8 w a len cap zs) (hv : ∀ z ∈ zs, 0 ≤ z ∧ z < 256) :
    Calls Tryd.prog 20 #[.int .i64 n, .slice a len cap] w fun e w' => e = .returned (.int .i64 (traceE n zs)) ∧ w' = w := by
  have hb0 := hS.bd
  have hb1 := hS.hcap
  unfold maxLen at hb0
  have HL : Hid (zs.length = len) := hS.hlen
  by_cases h0 : n < 0
  · have HX : Hid (traceE n zs = 2) := by show _ = _; unfold traceE; rw [if_neg (by omega)]
    go_enter Tryd.func20, Tryd.ntmps20
    go_wp2
    go_ret
    exact ⟨by rw [HX.out]; rfl, rfl⟩
  by_cases h8 : 8 < n
  · have HX : Hid (traceE n zs = 2) := by show _ = _; unfold traceE; rw [if_neg (by omega)]
    go_enter Tryd.func20, Tryd.ntmps20
    go_wp2
    go_ret
    exact ⟨by rw [HX.out]; rfl, rfl⟩
  by_cases hlong : 1024 < len
  · have HX : Hid (traceE n zs = 3) := by show _ = _; unfold traceE; rw [if_pos (by omega), if_pos (by rw [HL.out]; exact hlong)]
    go_enter Tryd.func20, Tryd.ntmps20
    go_wp2
    go_ret
    exact ⟨by rw [HX.out]; rfl, rfl⟩
  · have HX : Hid (traceE n zs = if zs.all (fitsB n) then 0 else 2) := by show _ = _; unfold traceE; rw [if_pos (by omega), if_neg (by rw [HL.out]; exact hlong)]
    have hidx := fun (k : Nat) (w : World) (h : k < len) => hS.idx len k w h (Nat.le_refl _)
    go_enter Tryd.func20, Tryd.ntmps20
    go_wp2
    go_loop [5] (fun i => ∃ k : Nat, k ≤ len ∧ i = .int .i64 k ∧ Hid ((zs.take k).all (fitsB n) = true)) (fun i => len - (intOf i).toNat)
    case atStart => exact ⟨0, Nat.zero_le _, rfl, by show _ = _; simp⟩
    case round =>
      obtain ⟨k, hk, rfl, HU⟩ := hrel
      by_cases hlt : k < len
      · have hck := hS.cell k hlt
        have hmem : zs.getD k 0 ∈ zs := by rw [List.getD_eq_getElem?_getD, List.getElem?_eq_getElem (by rw [HL.out]; exact hlt)]; exact List.getElem_mem _
        have hvx := hv _ hmem
        have HN : fitsB n (zs.getD k 0) = true → Hid ((zs.take (k + 1)).all (fitsB n) = true) := fun h => all_upto (by rw [HL.out]; exact hlt) HU.out h
        have HF : fitsB n (zs.getD k 0) = false → Hid (zs.all (fitsB n) = false) := fun h => by
          show _ = _
          rw [List.all_eq_false]
          exact ⟨zs.getD k 0, hmem, by rw [h]; decide⟩
        clear hmem
        generalize zs.getD k 0 = x at *
        rcases Bool.eq_false_or_eq_true (fitsB n x) with hf | hf
        · have HN2 := HN hf
          have hft : ∀ W, Calls Tryd.prog 34 #[.int .i64 n, .int .u8 x] W fun e w' => e = .returned (.bool true) ∧ W = w' := fun W => (Tryd.rfits_any n x W hvx.1 hvx.2).mono fun e w' ⟨he, hw⟩ => ⟨by rw [he, hf], hw.symm⟩
          clear hf HN HF
          go_wp2_with (go_at_call 34; refine (hft _).mono ?_; rintro e w1' ⟨rfl, rfl⟩)
          go_round
          case rel => exact ⟨k + 1, by omega, by go_num, HN2⟩
          case measure => simp [intOf]; omega
        · have HF2 := HF hf
          have hft : ∀ W, Calls Tryd.prog 34 #[.int .i64 n, .int .u8 x] W fun e w' => e = .returned (.bool false) ∧ W = w' := fun W => (Tryd.rfits_any n x W hvx.1 hvx.2).mono fun e w' ⟨he, hw⟩ => ⟨by rw [he, hf], hw.symm⟩
          clear hf HN HF
          go_wp2_with (go_at_call 34; refine (hft _).mono ?_; rintro e w1' ⟨rfl, rfl⟩)
          go_ret
          exact ⟨by rw [HX.out, HF2.out]; rfl, rfl⟩
      · have HF2 : Hid (zs.all (fitsB n) = true) := by have := HU.out; rw [List.take_of_length_le (by rw [HL.out]; omega)] at this; exact this
        go_wp2
        go_ret
        exact ⟨by rw [HX.out, HF2.out]; rfl, rfl⟩
end Go.Proofs.YtmmjihalpmahnaaDoor
