/- What Print, Trace and PrintTrace answer. -/
import Derived.Test.YtmmjihalpmahnaaDoorWText
namespace Go.Proofs.YtmmjihalpmahnaaDoor
open Go.RowKit Go.Maps

theorem chkGo_names : ∀ (rest seen : List Bytes), chkGo seen rest = 0 → ∀ s ∈ rest, nameL s = true
  | [], _, _, s, hs => by simp at hs
  | x :: r, seen, h, s, hs => by
    unfold chkGo at h
    split at h
    · exact absurd h (by decide)
    · rename_i hx
      split at h
      · exact absurd h (by decide)
      · rcases List.mem_cons.1 hs with rfl | hs
        · simpa using hx
        · exact chkGo_names r _ h s hs
theorem checkE_names {ns : List Bytes} (h : checkE ns = 0) : ∀ s ∈ ns, nameL s = true := by
  unfold checkE at h; split at h
  · exact absurd h (by decide)
  · exact chkGo_names ns [] h
theorem nameL_len {s : Bytes} (h : nameL s = true) : 1 ≤ s.length ∧ s.length ≤ 20 := by
  unfold nameL at h; simp only [Bool.and_eq_true, decide_eq_true_eq] at h; exact ⟨h.1.1.1.1, h.1.1.1.2⟩
theorem names_size {ss : List ByteArray} (h : checkE (nms ss) = 0) : ∀ k, (ss.getD k ByteArray.empty).size ≤ 20 := by
  intro k
  by_cases hk : k < ss.length
  · have := nameL_len (checkE_names h _ (List.mem_of_getElem? (nms_get hk)))
    rw [tl_len] at this; exact this.2
  · rw [List.getD_eq_getElem?_getD, List.getElem?_eq_none (by omega)]; simp [ByteArray.size_empty]

def printB (l : Int) (ss : List ByteArray) : ByteArray × Int :=
  if checkE (nms ss) = 0 then (if fitsB ss.length l then (textB l ss, 0) else (⟨#[]⟩, 2)) else (⟨#[]⟩, checkE (nms ss))
def PrintR (p : ByteArray × Int) (e : Ending) : Prop := e = .returned (.tuple #[.string p.1, .int .i64 p.2])

set_option maxRecDepth 100000 in
set_option maxHeartbeats 400000 in
theorem Tryd.print_any (a : Option Addr) (len cap : Nat) (ad : Nat → Addr) (ss : List ByteArray) (l : Int) (w : World) (hS : StrSl Tryd.prog 22 w a len cap ad ss) (hl0 : 0 ≤ l) (hl1 : l < 256) :
    Calls Tryd.prog 10 #[.slice a len cap, .int .u8 l] w fun e w' => PrintR (printB l ss) e ∧ Below w.heap.size w w' := by
  have hln : (nms ss).length = len := by rw [nms_len, hS.hlen]
  by_cases hz : checkE (nms ss) = 0
  · have hck : Calls Tryd.prog 25 #[.slice a len cap] w fun e w' => e = .returned (.int .i64 0) ∧ Below w.heap.size w w' := (Tryd.check_any a len cap ad ss w hS).mono fun e w' ⟨he, hb⟩ => ⟨by rw [he, hz], hb⟩
    have h8 : len ≤ 8 := by rw [← hln]; exact checkE_len hz
    have hsz := names_size hz
    have HX : Hid (printB l ss = if fitsB len l then (textB l ss, 0) else (⟨#[]⟩, 2)) := by show _ = _; unfold printB; rw [if_pos hz, hS.hlen]
    clear hz hln
    rcases Bool.eq_false_or_eq_true (fitsB len l) with hf | hf
    · have HX2 : Hid (printB l ss = (textB l ss, 0)) := by show _ = _; rw [HX.out, hf]; rfl
      have hft : ∀ W, Calls Tryd.prog 26 #[.int .i64 len, .int .u8 l] W fun e w' => e = .returned (.bool true) ∧ W = w' := fun W => (Tryd.fits_any len l W).mono fun e w' ⟨he, hw⟩ => ⟨by rw [he, hf], hw.symm⟩
      clear hf
      go_enter Tryd.func10, Tryd.ntmps10
      go_wp2_with fail
      refine hck.mono ?_
      rintro e w1 ⟨rfl, hb1⟩
      go_wp2_with fail
      refine (hft w1).mono ?_
      rintro e w1' ⟨rfl, rfl⟩
      go_wp2_with fail
      refine (Tryd.text_any a len cap ad ss l w1 (hS.up hb1) h8 hsz hl0 hl1).mono ?_
      rintro e w2 ⟨he, hb2⟩
      unfold TextR at he
      subst he
      go_wp2
      go_ret2
      exact ⟨by unfold PrintR; rw [HX2.out]; rfl, hb1.trans (hb2.mono hb1.size)⟩
    · have HX2 : Hid (printB l ss = (⟨#[]⟩, 2)) := by show _ = _; rw [HX.out, hf]; rfl
      have hft : ∀ W, Calls Tryd.prog 26 #[.int .i64 len, .int .u8 l] W fun e w' => e = .returned (.bool false) ∧ W = w' := fun W => (Tryd.fits_any len l W).mono fun e w' ⟨he, hw⟩ => ⟨by rw [he, hf], hw.symm⟩
      clear hf
      go_enter Tryd.func10, Tryd.ntmps10
      go_wp2_with fail
      refine hck.mono ?_
      rintro e w1 ⟨rfl, hb1⟩
      go_wp2_with fail
      refine (hft w1).mono ?_
      rintro e w1' ⟨rfl, rfl⟩
      go_wp2
      go_ret2
      exact ⟨by unfold PrintR; rw [HX2.out]; rfl, hb1⟩
  · have HX : Hid (printB l ss = (⟨#[]⟩, checkE (nms ss))) := by show _ = _; unfold printB; rw [if_neg hz]
    have hz' : (checkE (nms ss) != 0) = true := by simpa using hz
    have hck := Tryd.check_any a len cap ad ss w hS
    clear hz hln
    go_enter Tryd.func10, Tryd.ntmps10
    go_wp2_with fail
    refine hck.mono ?_
    rintro e w1 ⟨rfl, hb1⟩
    go_wp2
    go_ret2
    exact ⟨by unfold PrintR; rw [HX.out]; rfl, hb1⟩

/-! ### Trace -/
def countB (n : Int) : Bool := decide (0 ≤ n ∧ n ≤ 8)
theorem Tryd.count_any (n : Int) (w : World) : Calls Tryd.prog 41 #[.int .i64 n] w fun e w' => e = .returned (.bool (countB n)) ∧ w = w' := by
  by_cases h0 : 0 ≤ n
  · go_enter Tryd.func41, Tryd.ntmps41
    go_wp2
    go_ret
    exact ⟨by simp [countB, h0], rfl⟩
  · have HX : Hid (countB n = false) := decide_eq_false (by omega)
    go_enter Tryd.func41, Tryd.ntmps41
    go_wp2
    go_ret
    exact ⟨by rw [HX.out]; rfl, rfl⟩
def traceE (n : Int) (zs : List Int) : Int := if 0 ≤ n ∧ n ≤ 8 then (if 1024 < zs.length then 3 else if zs.all (fitsB n) then 0 else 2) else 2
theorem all_upto {n : Int} {zs : List Int} {k : Nat} (hk : k < zs.length) (h : (zs.take k).all (fitsB n) = true) (hf : fitsB n (zs.getD k 0) = true) : (zs.take (k + 1)).all (fitsB n) = true := by
  rw [take_snoc_int hk, List.all_append, h, List.all_cons, hf]; rfl

set_option maxRecDepth 100000 in
set_option maxHeartbeats 800000 in
theorem Tryd.trace_any (n : Int) (a : Option Addr) (len cap : Nat) (zs : List Int) (w : World) (hS : IntSl Tryd.prog 24 .u8 w a len cap zs) :
    Calls Tryd.prog 19 #[.int .i64 n, .slice a len cap] w fun e w' => e = .returned (.int .i64 (traceE n zs)) ∧ w' = w := by
  have hb0 := hS.bd
  have hb1 := hS.hcap
  unfold maxLen at hb0
  have HL : Hid (zs.length = len) := hS.hlen
  by_cases h0 : 0 ≤ n
  · by_cases h8 : n ≤ 8
    · have hct : Calls Tryd.prog 41 #[.int .i64 n] w fun e w' => e = .returned (.bool true) ∧ w = w' := (Tryd.count_any n w).mono fun e w' ⟨he, hw⟩ => ⟨by rw [he]; unfold countB; rw [decide_eq_true ⟨h0, h8⟩], hw⟩
      by_cases hlong : 1024 < len
      · have HX : Hid (traceE n zs = 3) := by show _ = _; unfold traceE; rw [if_pos ⟨h0, h8⟩, if_pos (by rw [HL.out]; exact hlong)]
        go_enter Tryd.func19, Tryd.ntmps19
        go_wp2_with (go_at_call 41; refine hct.mono ?_; rintro e w1 ⟨rfl, rfl⟩)
        go_ret
        exact ⟨by rw [HX.out]; rfl, rfl⟩
      · have HX : Hid (traceE n zs = if zs.all (fitsB n) then 0 else 2) := by show _ = _; unfold traceE; rw [if_pos ⟨h0, h8⟩, if_neg (by rw [HL.out]; exact hlong)]
        have hidx := fun (k : Nat) (w : World) (h : k < len) => hS.idx len k w h (Nat.le_refl _)
        go_enter Tryd.func19, Tryd.ntmps19
        go_wp2_with (go_at_call 41; refine hct.mono ?_; rintro e w1 ⟨rfl, rfl⟩)
        clear hct
        go_loop [15] (fun i => ∃ k : Nat, k ≤ len ∧ i = .int .i64 k ∧ Hid ((zs.take k).all (fitsB n) = true)) (fun i => len - (intOf i).toNat)
        case atStart => exact ⟨0, Nat.zero_le _, rfl, by show _ = _; simp⟩
        case round =>
          obtain ⟨k, hk, rfl, HU⟩ := hrel
          by_cases hlt : k < len
          · have hck := hS.cell k hlt
            have HN : fitsB n (zs.getD k 0) = true → Hid ((zs.take (k + 1)).all (fitsB n) = true) := fun h => all_upto (by rw [HL.out]; exact hlt) HU.out h
            have HF : fitsB n (zs.getD k 0) = false → Hid (zs.all (fitsB n) = false) := fun h => by
              show _ = _
              rw [List.all_eq_false]
              refine ⟨zs.getD k 0, ?_, by rw [h]; decide⟩
              rw [List.getD_eq_getElem?_getD, List.getElem?_eq_getElem (by rw [HL.out]; exact hlt)]; exact List.getElem_mem _
            generalize zs.getD k 0 = x at *
            rcases Bool.eq_false_or_eq_true (fitsB n x) with hf | hf
            · have HN2 := HN hf
              have hft : ∀ W, Calls Tryd.prog 26 #[.int .i64 n, .int .u8 x] W fun e w' => e = .returned (.bool true) ∧ W = w' := fun W => (Tryd.fits_any n x W).mono fun e w' ⟨he, hw⟩ => ⟨by rw [he, hf], hw.symm⟩
              clear hf HN HF
              go_wp2_with (go_at_call 26; refine (hft _).mono ?_; rintro e w1' ⟨rfl, rfl⟩)
              go_round
              case rel => exact ⟨k + 1, by omega, by go_num, HN2⟩
              case measure => simp [intOf]; omega
            · have HF2 := HF hf
              have hft : ∀ W, Calls Tryd.prog 26 #[.int .i64 n, .int .u8 x] W fun e w' => e = .returned (.bool false) ∧ W = w' := fun W => (Tryd.fits_any n x W).mono fun e w' ⟨he, hw⟩ => ⟨by rw [he, hf], hw.symm⟩
              clear hf HN HF
              go_wp2_with (go_at_call 26; refine (hft _).mono ?_; rintro e w1' ⟨rfl, rfl⟩)
              go_ret
              exact ⟨by rw [HX.out, HF2.out]; rfl, rfl⟩
          · have HF2 : Hid (zs.all (fitsB n) = true) := by have := HU.out; rw [List.take_of_length_le (by rw [HL.out]; omega)] at this; exact this
            go_wp2
            go_ret
            exact ⟨by rw [HX.out, HF2.out]; rfl, rfl⟩
    · have HX : Hid (traceE n zs = 2) := by show _ = _; unfold traceE; rw [if_neg (by omega)]
      have h2 : decide (n ≤ 8) = false := decide_eq_false h8
      go_enter Tryd.func19, Tryd.ntmps19
      go_wp2
      go_ret
      exact ⟨by rw [HX.out]; rfl, rfl⟩
  · have HX : Hid (traceE n zs = 2) := by show _ = _; unfold traceE; rw [if_neg (by omega)]
    go_enter Tryd.func19, Tryd.ntmps19
    go_wp2
    go_ret
    exact ⟨by rw [HX.out]; rfl, rfl⟩

/-! ### PrintTrace -/
/-- The texts of a trace's letters, as far as they are laid. -/
def txtTo (zs : List Int) (ss : List ByteArray) (k : Nat) : List ByteArray := (zs.take k).map (fun z => textB z ss) ++ List.replicate (zs.length - k) ByteArray.empty
theorem txtTo_zero (zs : List Int) (ss : List ByteArray) : txtTo zs ss 0 = List.replicate zs.length ByteArray.empty := by simp [txtTo]
theorem txtTo_len {zs : List Int} {ss : List ByteArray} {k : Nat} (h : k ≤ zs.length) : (txtTo zs ss k).length = zs.length := by simp [txtTo]; omega
theorem txtTo_end (zs : List Int) (ss : List ByteArray) : txtTo zs ss zs.length = zs.map (fun z => textB z ss) := by simp [txtTo]
theorem txtTo_set {zs : List Int} {ss : List ByteArray} {k : Nat} (h : k < zs.length) : (txtTo zs ss k).set k (textB (zs.getD k 0) ss) = txtTo zs ss (k + 1) := by
  unfold txtTo
  obtain ⟨d, hd⟩ : ∃ d, zs.length - k = d + 1 := ⟨zs.length - k - 1, by omega⟩
  have hd2 : zs.length - (k + 1) = d := by omega
  have e : k - ((zs.take k).map (fun z => textB z ss)).length = 0 := by simp; omega
  rw [hd, hd2, List.replicate_succ, List.set_append_right _ _ (by simp; omega), e, take_snoc_int h]
  simp only [List.set_cons_zero, List.map_append, List.map_cons, List.map_nil, List.append_assoc, List.cons_append, List.nil_append]
theorem encS_set (ss : List ByteArray) (i : Nat) (x : ByteArray) : (encS ss).setIfInBounds i (.string x) = encS (ss.set i x) := by simp [encS, List.map_set]
theorem RowS.set {w : World} {e : TypeId} {g : Nat} {ss : List ByteArray} (h : RowS w e g ss) (i : Nat) (x : ByteArray) : RowS (w.setCell ⟨g, i, none⟩ (.string x)) e g (ss.set i x) := by
  have := heap_setCell_same w g i _ e (.string x) h
  rw [encS_set] at this; exact this
theorem RowS.frozen {w : World} {e : TypeId} {g : Nat} {ss : List ByteArray} (h : RowS w e g ss) (i : Nat) : w.frozen? ⟨g, i, none⟩ = false := frozen_of_row w g i _ e h

theorem textB_size {l : Int} {ss : List ByteArray} (h8 : ss.length ≤ 8) (hz : ∀ k, (ss.getD k ByteArray.empty).size ≤ 20) : (textB l ss).size ≤ 168 := by
  unfold textB
  split
  · exact (by decide : (⟨#[45]⟩ : ByteArray).size ≤ 168)
  · have h1 := join_len 32 ((onB l ss ss.length).map (·.data.toList)) 20 (fun z hz' => by obtain ⟨x, hx, rfl⟩ := List.mem_map.1 hz'; exact onB_size hz _ x hx)
    have h2 := onB_len l ss ss.length
    have e : (⟨(Lib.join ((onB l ss ss.length).map (·.data.toList)) [32]).toArray⟩ : ByteArray).size = (Lib.join ((onB l ss ss.length).map (·.data.toList)) [32]).length := by simp [ByteArray.size]
    rw [e]; simp only [List.length_map] at h1
    have : (onB l ss ss.length).length * (20 + 1) ≤ 8 * 21 := Nat.mul_le_mul (by omega) (by decide)
    omega

/-- The text of a trace. -/
def traceB (zs : List Int) (ss : List ByteArray) : ByteArray := ⟨(Lib.join ((zs.map (fun z => textB z ss)).map (·.data.toList)) [59]).toArray⟩
def printTB (zs : List Int) (ss : List ByteArray) : ByteArray × Int :=
  if checkE (nms ss) = 0 then (if traceE ss.length zs = 0 then (if 4096 < (traceB zs ss).size then (⟨#[]⟩, 3) else (traceB zs ss, 0)) else (⟨#[]⟩, traceE ss.length zs)) else (⟨#[]⟩, checkE (nms ss))

theorem traceE_len {n : Int} {zs : List Int} (h : traceE n zs = 0) : zs.length ≤ 1024 := by
  unfold traceE at h; split at h
  · split at h
    · exact absurd h (by decide)
    · omega
  · exact absurd h (by decide)

set_option maxRecDepth 100000 in
set_option maxHeartbeats 1600000 in
theorem Tryd.printT_any (a : Option Addr) (len cap : Nat) (ad : Nat → Addr) (ss : List ByteArray) (ta : Option Addr) (tlen tcap : Nat) (zs : List Int) (w : World) (hS : StrSl Tryd.prog 22 w a len cap ad ss)
    (hT : IntSl Tryd.prog 24 .u8 w ta tlen tcap zs) (hv : ∀ z ∈ zs, 0 ≤ z ∧ z < 256) :
    Calls Tryd.prog 14 #[.slice a len cap, .slice ta tlen tcap] w fun e w' => PrintR (printTB zs ss) e ∧ Below w.heap.size w w' := by
  have hln : (nms ss).length = len := by rw [nms_len, hS.hlen]
  by_cases hz : checkE (nms ss) = 0
  · have hck : Calls Tryd.prog 25 #[.slice a len cap] w fun e w' => e = .returned (.int .i64 0) ∧ Below w.heap.size w w' := (Tryd.check_any a len cap ad ss w hS).mono fun e w' ⟨he, hb⟩ => ⟨by rw [he, hz], hb⟩
    have h8 : len ≤ 8 := by rw [← hln]; exact checkE_len hz
    have hsz := names_size hz
    have HX : Hid (printTB zs ss = if traceE len zs = 0 then (if 4096 < (traceB zs ss).size then (⟨#[]⟩, 3) else (traceB zs ss, 0)) else (⟨#[]⟩, traceE len zs)) := by show _ = _; unfold printTB; rw [if_pos hz, hS.hlen]
    clear hz hln
    by_cases hf : traceE len zs = 0
    · have htr : ∀ W, Below w.heap.size w W → Calls Tryd.prog 19 #[.int .i64 len, .slice ta tlen tcap] W fun e w' => e = .returned (.int .i64 0) ∧ W = w' := fun W hW => (Tryd.trace_any len ta tlen tcap zs W (hT.up hW)).mono fun e w' ⟨he, hw⟩ => ⟨by rw [he, hf], hw.symm⟩
      have hlong := traceE_len hf
      have HL : Hid (zs.length = tlen) := hT.hlen
      have HSL : Hid (ss.length = len) := hS.hlen
      rw [HL.out] at hlong
      have HX2 : Hid (printTB zs ss = if 4096 < (traceB zs ss).size then (⟨#[]⟩, 3) else (traceB zs ss, 0)) := by show _ = _; rw [HX.out, if_pos hf]
      have hmk := fun w => Tryd.makeStr tlen tlen (tlen : Int) (tlen : Int) rfl rfl (Nat.le_refl _) (by omega) w
      have hidx := fun (k : Nat) (w : World) (h : k < tlen) => hT.idx tlen k w h (Nat.le_refl _)
      clear hf HX
      go_enter Tryd.func14, Tryd.ntmps14
      go_wp2_with fail
      refine hck.mono ?_
      rintro e w1 ⟨rfl, hb1⟩
      go_wp2_with fail
      refine (htr w1 hb1).mono ?_
      rintro e w1' ⟨rfl, rfl⟩
      clear htr hck
      go_wp2
      clear hmk
      have hS1 := hS.up hb1
      have hT1 := hT.up hb1
      go_loopw [29] (fun i wr => ∃ k : Nat, k ≤ tlen ∧ i = .int .i64 k ∧ RowS wr 9 w1.heap.size (txtTo zs ss k) ∧ Below w1.heap.size w1 wr) (fun i _ => tlen - (intOf i).toNat)
      case atStart => exact ⟨0, Nat.zero_le _, rfl, by rw [txtTo_zero, HL.out]; exact (MapKept.heap_alloc w1 _).1, (Below.refl _ _).alloc (Nat.le_refl _) _⟩
      case round =>
        obtain ⟨k, hk, rfl, hrow, hnx⟩ := hrel
        by_cases hlt : k < tlen
        · have hck := (hT1.up hnx).cell k hlt
          have hvx := hv (zs.getD k 0) (by rw [List.getD_eq_getElem?_getD, List.getElem?_eq_getElem (by rw [HL.out]; exact hlt)]; exact List.getElem_mem _)
          have hst : ∀ W, Below wr.heap.size wr W → W.cell? ⟨w1.heap.size, k, none⟩ = some (.string ((txtTo zs ss k).getD k ByteArray.empty)) := fun W hW => (hrow.up hW).cell (by rw [txtTo_len (by rw [HL.out]; exact hk), HL.out]; exact hlt)
          have hfr : ∀ W, Below wr.heap.size wr W → W.frozen? ⟨w1.heap.size, k, none⟩ = false := fun W hW => (hrow.up hW).frozen k
          have hset : ∀ W, Below wr.heap.size wr W → Hid (RowS (W.setCell ⟨w1.heap.size, k, none⟩ (.string (textB (zs.getD k 0) ss))) 9 w1.heap.size (txtTo zs ss (k + 1))) := fun W hW => by
            have := (hrow.up hW).set k (textB (zs.getD k 0) ss)
            rw [txtTo_set (by rw [HL.out]; exact hlt)] at this; exact this
          have htx : Calls Tryd.prog 32 #[.slice a len cap, .int .u8 (zs.getD k 0)] wr fun e w' => TextR (zs.getD k 0) ss e ∧ Below wr.heap.size wr w' := Tryd.text_any a len cap ad ss _ wr (hS1.up hnx) h8 hsz hvx.1 hvx.2
          generalize zs.getD k 0 = x at *
          generalize (txtTo zs ss k).getD k ByteArray.empty = x0 at *
          go_wp2_with fail
          refine htx.mono ?_
          rintro e w2 ⟨he, hb2⟩
          unfold TextR at he
          subst he
          have hs2 := hst w2 hb2
          have hf2 := hfr w2 hb2
          have hset2 := hset w2 hb2
          have hnx2 := (hnx.trans (hb2.mono hnx.size)).setCell (p := ⟨w1.heap.size, k, none⟩) (Nat.le_refl _) (.string (textB x ss))
          clear hst hfr hset htx hrow hck
          go_wp2
          go_roundw
          case rel => exact ⟨k + 1, by omega, by go_num, hset2.out, hnx2⟩
          case measure => simp [intOf]; omega
        · obtain rfl : tlen = k := by omega
          have hrow' : RowS wr 9 w1.heap.size (zs.map (fun z => textB z ss)) := by rw [← txtTo_end, HL.out]; exact hrow
          have hj := Tryd.strings_Join w1.heap.size 0 tlen (zs.map (fun z => textB z ss)) ⟨#[59]⟩ wr (fun j x hj => by
              rw [Nat.zero_add]
              have hjl := (List.getElem?_eq_some_iff.1 hj).1
              rw [hrow'.cell hjl, List.getD_eq_getElem?_getD, hj]; rfl) hrow'.lt (by rw [List.length_map, HL.out]; omega) (by rw [List.length_map, HL.out]; omega)
            (by
              have h1 := join_len 59 ((zs.map (fun z => textB z ss)).map (·.data.toList)) 168 (fun z hz => by
                obtain ⟨x, hx, rfl⟩ := List.mem_map.1 hz
                obtain ⟨y, _, rfl⟩ := List.mem_map.1 hx
                exact textB_size (by rw [HSL.out]; exact h8) hsz)
              have e : (⟨#[59]⟩ : ByteArray).data.toList = [59] := rfl
              rw [e]; simp only [List.length_map] at h1
              have : zs.length * (168 + 1) ≤ 1024 * 169 := Nat.mul_le_mul (by rw [HL.out]; exact hlong) (by decide)
              omega)
          rw [List.length_map, HL.out] at hj
          have hj2 : Calls Tryd.prog 39 #[.slice (some ⟨w1.heap.size, 0, none⟩) tlen tlen, .string ⟨#[59]⟩] wr fun e w' => e = .returned (.string (traceB zs ss)) ∧ Below wr.heap.size wr w' := hj
          clear hj hrow hrow'
          by_cases h4 : 4096 < (traceB zs ss).size
          · have HX3 : Hid (printTB zs ss = (⟨#[]⟩, 3)) := by show _ = _; rw [HX2.out, if_pos h4]
            generalize traceB zs ss = tb at *
            go_wp2_with fail
            refine hj2.mono ?_
            rintro e w2 ⟨rfl, hb2⟩
            go_wp2
            go_ret2
            exact ⟨by unfold PrintR; rw [HX3.out]; rfl, hb1.trans ((hnx.trans (hb2.mono hnx.size)).mono hb1.size)⟩
          · have HX3 : Hid (printTB zs ss = (traceB zs ss, 0)) := by show _ = _; rw [HX2.out, if_neg h4]
            generalize traceB zs ss = tb at *
            go_wp2_with fail
            refine hj2.mono ?_
            rintro e w2 ⟨rfl, hb2⟩
            go_wp2
            go_ret2
            exact ⟨by unfold PrintR; rw [HX3.out]; rfl, hb1.trans ((hnx.trans (hb2.mono hnx.size)).mono hb1.size)⟩
    · have htr : ∀ W, Below w.heap.size w W → Calls Tryd.prog 19 #[.int .i64 len, .slice ta tlen tcap] W fun e w' => e = .returned (.int .i64 (traceE len zs)) ∧ W = w' := fun W hW => (Tryd.trace_any len ta tlen tcap zs W (hT.up hW)).mono fun e w' ⟨he, hw⟩ => ⟨he, hw.symm⟩
      have HX2 : Hid (printTB zs ss = (⟨#[]⟩, traceE len zs)) := by show _ = _; rw [HX.out, if_neg hf]
      have hf' : (traceE len zs != 0) = true := by simpa using hf
      clear hf HX
      go_enter Tryd.func14, Tryd.ntmps14
      go_wp2_with fail
      refine hck.mono ?_
      rintro e w1 ⟨rfl, hb1⟩
      go_wp2_with fail
      refine (htr w1 hb1).mono ?_
      rintro e w1' ⟨rfl, rfl⟩
      go_wp2
      go_ret2
      exact ⟨by unfold PrintR; rw [HX2.out]; rfl, hb1⟩
  · have HX : Hid (printTB zs ss = (⟨#[]⟩, checkE (nms ss))) := by show _ = _; unfold printTB; rw [if_neg hz]
    have hz' : (checkE (nms ss) != 0) = true := by simpa using hz
    have hck := Tryd.check_any a len cap ad ss w hS
    clear hz hln
    go_enter Tryd.func14, Tryd.ntmps14
    go_wp2_with fail
    refine hck.mono ?_
    rintro e w1 ⟨rfl, hb1⟩
    go_wp2
    go_ret2
    exact ⟨by unfold PrintR; rw [HX.out]; rfl, hb1⟩
end Go.Proofs.YtmmjihalpmahnaaDoor
