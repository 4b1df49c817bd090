/- Lists of letters that are lent and held against what they were: LentLetters, KeptLetters. -/
import Derived.Test.YtnaalbcbmhpfjaaWApart2
namespace Go.Proofs.Ytnaalbcbmhpfjaa
open Go.RowKit Go.Maps

/-- The mark that lies at place i of the room. -/
def markZ (i : Nat) : Int := 200 + ((i % 50 : Nat) : Int)
theorem markZ_bd (i : Nat) : 0 ≤ markZ i ∧ markZ i < 256 := by unfold markZ; omega
/-- A list of n letters with the marks laid as far as place n + k. -/
def lentTo (zs : List Int) (k : Nat) : List Int := zs ++ ((List.range k).map (fun j => markZ (zs.length + j)) ++ List.replicate (3 - k) 0)
def lentL (zs : List Int) : List Int := zs ++ (List.range 3).map (fun j => markZ (zs.length + j))
theorem lentTo_len (zs : List Int) {k : Nat} (h : k ≤ 3) : (lentTo zs k).length = zs.length + 3 := by simp [lentTo]; omega
theorem lentTo_end (zs : List Int) : lentTo zs 3 = lentL zs := by simp [lentTo, lentL]
theorem lentL_len (zs : List Int) : (lentL zs).length = zs.length + 3 := by simp [lentL]
theorem lentL_take (zs : List Int) : (lentL zs).take zs.length = zs := by simp [lentL]
theorem lentTo_set (zs : List Int) {k : Nat} (h : k < 3) : (lentTo zs k).set (zs.length + k) (markZ (zs.length + k)) = lentTo zs (k + 1) := by
  unfold lentTo
  obtain ⟨d, hd⟩ : ∃ d, 3 - k = d + 1 := ⟨3 - k - 1, by omega⟩
  have hd2 : 3 - (k + 1) = d := by omega
  rw [hd, hd2, List.range_succ, List.replicate_succ, List.set_append_right _ _ (by simp)]
  congr 1
  rw [show zs.length + k - zs.length = k by omega, List.set_append_right _ _ (by simp), List.map_append]
  simp
theorem lentL_val {zs : List Int} (hv : ∀ z ∈ zs, 0 ≤ z ∧ z < 256) : ∀ z ∈ lentL zs, 0 ≤ z ∧ z < 256 := by
  intro z hz
  unfold lentL at hz
  rcases List.mem_append.1 hz with h | h
  · exact hv z h
  · obtain ⟨j, _, rfl⟩ := List.mem_map.1 h; exact markZ_bd _

/-- copy(full, l), full the new list with room. -/
theorem Try.copyLet (a : Option Addr) (len cap : Nat) (zs : List Int) (w : World) (hS : IntSl Try.prog 36 .u8 w a len cap zs) :
    ∃ w2, (∀ ty, (Builtin.copy_ #[36, 36] ty #[.slice (some ⟨w.heap.size, 0, none⟩) (len + 3) (len + 3), .slice a len cap]).run Try.prog (w.alloc (.cells (enc8 (List.replicate (len + 3) 0)) 22)) = .ok (goInt len) w2) ∧
      RowAt w2 22 w.heap.size (lentTo zs 0) ∧ Below w.heap.size w w2 := by
  by_cases h0 : len = 0
  · subst h0
    have hnil : zs = [] := List.eq_nil_of_length_eq_zero hS.hlen
    subst hnil
    exact ⟨_, fun ty => run_copy_none _ _ _ ty 22 _ _ _ _ _ _ Try.underlying36 Try.sizeLet (by simp), (MapKept.heap_alloc w _).1, (Below.refl _ _).alloc (Nat.le_refl _) _⟩
  · cases a with
    | none => have h1 := hS.nn rfl; have h2 := hS.hcap; exact absurd h1 (by omega)
    | some x =>
      have hlm : (zs.map (Value.int .u8)).length = len := by rw [List.length_map, hS.hlen]
      have hrun := fun ty => run_copy_row (P := Try.prog) (w.alloc (.cells (enc8 (List.replicate (len + 3) 0)) 22)) 36 36 ty 22 w.heap.size 0 (len + 3) (len + 3) x len cap _ 22 (zs.map (Value.int .u8)) Try.underlying36 Try.sizeLet (MapKept.heap_alloc w _).1
        (by rw [hlm]; simp) (fun j v hj => by
          have hjl : j < len := by rw [← hlm]; exact (List.getElem?_eq_some_iff.1 hj).1
          have hc := hS.cell j hjl
          have e : v = .int .u8 (zs.getD j 0) := by
            rw [List.getElem?_map, List.getElem?_eq_getElem (by rw [hS.hlen]; exact hjl)] at hj
            simp [List.getD_eq_getElem?_getD, List.getElem?_eq_getElem (show j < zs.length by rw [hS.hlen]; exact hjl)]
            simpa using hj.symm
          have hc2 : w.cell? (x.add j) = some v := by rw [e]; exact hc
          exact cell_later ((Below.refl _ _).alloc (Nat.le_refl _) _) hc2) (by rw [hlm]; simp [enc8]) (by
          intro v hv; obtain ⟨s, _, rfl⟩ := List.mem_map.1 hv; rfl)
      rw [hlm] at hrun
      refine ⟨_, hrun, ?_, ?_⟩
      · unfold RowAt
        rw [setRow_heap _ _ _ _ _ _ (MapKept.heap_alloc w _).1]
        congr 2
        apply Array.ext'
        simp [enc8, lentTo, hS.hlen]
      · exact below_setRow ((Below.refl _ _).alloc (Nat.le_refl _) _) (Nat.le_refl _) _

/-- make([]Letter, l, c), up to the form's reach. -/
theorem Try.makeLetB (l c : Nat) (L C : Int) (hl : L = l) (hc : C = c) (hlc : l ≤ c) (hb : c ≤ 140737488355328) (w : World) :
    (Instr.makeSlice 36 (.int .i64 L) (.int .i64 C)).run Try.prog w = .ok (.slice (some ⟨w.heap.size, 0, none⟩) l c) (w.alloc (.cells (enc8 (List.replicate c 0)) 22)) := by
  obtain ⟨i, hi, hz0, hz1, hz2⟩ := info_parts Try.infoLet
  have := run_make (P := Try.prog) w 36 22 i (.int .u8 0) Try.underlying36 hi hz0 .i64 .i64 L C (by omega) (by omega) (by rw [hz2]; omega) (by omega)
  rw [this, hl, hc, hz1]
  simp only [Int.toNat_natCast, Nat.mul_one]
  have e : (Value.int .u8 0).cells = #[.int .u8 0] := rfl
  rw [e, made8]
set_option maxHeartbeats 800000 in
theorem Try.lentL_any (a : Option Addr) (len cap : Nat) (zs : List Int) (w : World) (hS : IntSl Try.prog 36 .u8 w a len cap zs) (h20 : len ≤ 140737488351232) :
    Calls Try.prog 20 #[.slice a len cap] w fun e w' => e = .returned (.slice (some ⟨w.heap.size, 0, none⟩) len (len + 3)) ∧ RowAt w' 22 w.heap.size (lentL zs) ∧ Below w.heap.size w w' := by
  obtain ⟨w2, hcp, hrow, hb⟩ := Try.copyLet a len cap zs w hS
  have HL : Hid (zs.length = len) := hS.hlen
  have hmk := fun w => Try.makeLetB (len + 3) (len + 3) ((len : Int) + 3) ((len : Int) + 3) (by omega) (by omega) (by omega) (by omega) w
  go_enter Try.func20, Try.ntmps20
  go_wp2
  clear hmk hcp
  go_loopw [4] (fun i wr => ∃ k : Nat, len ≤ k ∧ k ≤ len + 3 ∧ i = .int .i64 k ∧ RowAt wr 22 w.heap.size (lentTo zs (k - len)) ∧ Below w.heap.size w wr) (fun i _ => len + 3 - (intOf i).toNat)
  case atStart => exact ⟨len, Nat.le_refl _, by omega, rfl, by rw [Nat.sub_self]; exact hrow, hb⟩
  case round =>
    obtain ⟨k, hk0, hk, rfl, hr, hnx⟩ := hrel
    by_cases hlt : k < len + 3
    · have hc1 := hr.cell (i := k) (by rw [lentTo_len _ (by omega), HL.out]; omega)
      have hf1 := hr.frozen k
      have R1 : RowAt (wr.setCell ⟨w.heap.size, k, none⟩ (.int .u8 (markZ k))) 22 w.heap.size (lentTo zs (k + 1 - len)) := by
        have := hr.set k (markZ k)
        have e : zs.length + (k - len) = k := by rw [HL.out]; omega
        have h2 := lentTo_set zs (k := k - len) (by omega)
        rw [e] at h2
        rw [h2, show k - len + 1 = k + 1 - len by omega] at this
        exact this
      have R2 : Below w.heap.size w (wr.setCell ⟨w.heap.size, k, none⟩ (.int .u8 (markZ k))) := hnx.setCell (Nat.le_refl _) _
      clear hr hnx
      unfold markZ at R1 R2
      go_wp2
      go_roundw
      case rel => exact ⟨k + 1, by omega, by omega, by go_num, R1, R2⟩
      case measure => simp [intOf]; omega
    · obtain rfl : k = len + 3 := by omega
      go_wp2
      go_ret
      exact ⟨rfl, by rw [show len + 3 - len = 3 by omega, lentTo_end] at hr; exact hr, hnx⟩
theorem Try.lentL_sl {w : World} {g len : Nat} {zs : List Int} (hR : RowAt w 22 g (lentL zs)) (hl : zs.length = len) (h : len ≤ 140737488351232) : IntSl Try.prog 36 .u8 w (some ⟨g, 0, none⟩) (len + 3) (len + 3) (lentL zs) := by
  have := hR.intSl (P := Try.prog) (T := 36) (n := len + 3) Try.underlying36 Try.sizeLet (by rw [lentL_len]; omega) (by rw [lentL_len]; unfold maxLen; omega)
  rw [List.take_of_length_le (by rw [lentL_len]; omega), lentL_len, hl] at this
  exact this
theorem Try.lentL_slen {w : World} {g len : Nat} {zs : List Int} (hR : RowAt w 22 g (lentL zs)) (hl : zs.length = len) (h : len ≤ 140737488351232) : IntSl Try.prog 36 .u8 w (some ⟨g, 0, none⟩) len (len + 3) zs := by
  subst hl
  have := hR.intSl (P := Try.prog) (T := 36) (n := zs.length) Try.underlying36 Try.sizeLet (by rw [lentL_len]; omega) (by rw [lentL_len]; unfold maxLen; omega)
  rw [lentL_take, lentL_len] at this
  exact this

set_option maxHeartbeats 800000 in
theorem Try.keptL_any (g len : Nat) (a : Option Addr) (cap : Nat) (zs : List Int) (w : World) (hR : RowAt w 22 g (lentL zs)) (hS : IntSl Try.prog 36 .u8 w a len cap zs) (h20 : len ≤ 140737488351232) :
    Calls Try.prog 29 #[.slice (some ⟨g, 0, none⟩) len (len + 3), .slice a len cap] w fun e w' => e = .returned (.bool true) ∧ Below w.heap.size w w' := by
  have hd : Below w.heap.size w w.drew := (Below.refl _ _).drew
  have hle := Try.lentL_any a len cap zs w.drew (hS.up hd) h20
  have hsm : ∀ w1, RowAt w1 22 w.drew.heap.size (lentL zs) → Below w.drew.heap.size w.drew w1 → Calls Try.prog 28 #[.slice (some ⟨g, 0, none⟩) (len + 3) (len + 3), .slice (some ⟨w.drew.heap.size, 0, none⟩) (len + 3) (len + 3)] w1 fun e w' => e = .returned (.bool true) ∧ Below w1.heap.size w1 w' := fun w1 h1 h2 =>
    (Try.same_any _ _ _ _ _ _ _ _ w1 (Try.lentL_sl ((hR.up hd).up h2) hS.hlen h20) (Try.lentL_sl h1 hS.hlen h20)).mono fun e w' ⟨he, hn⟩ => ⟨by rw [he]; simp, drew_below hn⟩
  clear hR hS
  obtain ⟨C, hC⟩ : ∃ C : Nat, C = len + 3 := ⟨_, rfl⟩
  have hsum : IntKind.i64.wrap ((len : Int) + 3) = (C : Int) := by rw [hC, IntWalk.i64_left, IntWalk.wrap64_in _ (by omega)]; omega
  have hC0 : (0 : Int) ≤ (C : Int) := by omega
  have hC1 : (C : Int) ≤ (C : Int) := by omega
  have hC2 : (C : Int) ≤ 9223372036854775807 := by omega
  have hC3 : (len : Int) ≤ (C : Int) := by omega
  rw [← hC] at hle hsm ⊢
  clear hC hd
  go_enter Try.func29, Try.ntmps29
  go_wp2
  go_region_held3 (fun _ => True) (trivial) (first | (go_at_call 20; refine hle.mono ?_; rintro e w1 ⟨rfl, h1, h2⟩; have hs1 := hsm w1 h1 h2) | (go_at_call 28; refine hs1.mono ?_; rintro e w3 ⟨rfl, h3⟩))
  go_wp2
  go_ret
  have hd : Below w.heap.size w w.drew := (Below.refl _ _).drew
  exact ⟨rfl, hd.trans (h2.trans (h3.mono h2.size))⟩
end Go.Proofs.Ytnaalbcbmhpfjaa
