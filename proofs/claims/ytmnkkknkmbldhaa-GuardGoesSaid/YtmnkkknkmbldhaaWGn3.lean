/- Lists of numbers that are lent and held against what they were: LentInts, KeptInts. -/
import Derived.Test.YtmnkkknkmbldhaaWGn2
import Derived.Laws.CopyRow
import Derived.Deep.RegionHeld3
namespace Go.Proofs.Ytmnkkknkmbldhaa
open Go.RowKit Go.Maps

theorem drew_belowZ {w w' : World} (h : ∃ n, w' = w.drewN n) : Below w.heap.size w w' := by obtain ⟨n, rfl⟩ := h; exact below_drewN (Below.refl _ _) n
theorem RowI.zsl {P : Program} {T e : TypeId} {w : World} {g n : Nat} {cur : List Int} (h : RowI w e g cur) (hu : P.underlying T = some (.slice e)) (hs : (P.info? e).map (·.size) = some 1) (hn : n ≤ cur.length) (hm : cur.length ≤ maxLen) :
    IntSl P T .i64 w (some ⟨g, 0, none⟩) n cur.length (cur.take n) := by
  have had : ∀ k, adOf (some ⟨g, 0, none⟩) k = ⟨g, k, none⟩ := fun k => by simp [adOf, add_plain]
  refine ⟨by simp; omega, hn, hm, fun m k w hk hm => idx_of hu hs (by simp) k w hk, fun k hk => ?_, fun k hk => ?_, by simp⟩
  · rw [had, h.cell (by omega)]; simp [List.getD_eq_getElem?_getD, hk]
  · rw [had]; exact h.lt
/-- The mark that lies at place i of the room. -/
def markI (i : Nat) : Int := 7700 + (i : Int)
/-- A list of n letters with the marks laid as far as place n + k. -/
def lentToZ (zs : List Int) (k : Nat) : List Int := zs ++ ((List.range k).map (fun j => markI (zs.length + j)) ++ List.replicate (3 - k) 0)
def lentZ (zs : List Int) : List Int := zs ++ (List.range 3).map (fun j => markI (zs.length + j))
theorem lentToZ_len (zs : List Int) {k : Nat} (h : k ≤ 3) : (lentToZ zs k).length = zs.length + 3 := by simp [lentToZ]; omega
theorem lentToZ_end (zs : List Int) : lentToZ zs 3 = lentZ zs := by simp [lentToZ, lentZ]
theorem lentZ_len (zs : List Int) : (lentZ zs).length = zs.length + 3 := by simp [lentZ]
theorem lentZ_take (zs : List Int) : (lentZ zs).take zs.length = zs := by simp [lentZ]
theorem lentToZ_set (zs : List Int) {k : Nat} (h : k < 3) : (lentToZ zs k).set (zs.length + k) (markI (zs.length + k)) = lentToZ zs (k + 1) := by
  unfold lentToZ
  obtain ⟨d, hd⟩ : ∃ d, 3 - k = d + 1 := ⟨3 - k - 1, by omega⟩
  have hd2 : 3 - (k + 1) = d := by omega
  rw [hd, hd2, List.range_succ, List.replicate_succ, List.set_append_right _ _ (by simp)]
  congr 1
  rw [show zs.length + k - zs.length = k by omega, List.set_append_right _ _ (by simp), List.map_append]
  simp
/-- copy(full, l), full the new list with room. -/
theorem Try.copyZ (a : Option Addr) (len cap : Nat) (zs : List Int) (w : World) (hS : IntSl Try.prog 30 .i64 w a len cap zs) :
    ∃ w2, (∀ ty, (Builtin.copy_ #[30, 30] ty #[.slice (some ⟨w.heap.size, 0, none⟩) (len + 3) (len + 3), .slice a len cap]).run Try.prog (w.alloc (.cells ((List.replicate (len + 3) (0 : Int)).map (Value.int .i64)).toArray 3)) = .ok (goInt len) w2) ∧
      RowI w2 3 w.heap.size (lentToZ zs 0) ∧ Below w.heap.size w w2 := by
  by_cases h0 : len = 0
  · subst h0
    have hnil : zs = [] := List.eq_nil_of_length_eq_zero hS.hlen
    subst hnil
    exact ⟨_, fun ty => run_copy_none _ _ _ ty 3 _ _ _ _ _ _ Try.underlying30 Try.sizeInt (by simp), (MapKept.heap_alloc w _).1, (Below.refl _ _).alloc (Nat.le_refl _) _⟩
  · cases a with
    | none => have h1 := hS.nn rfl; have h2 := hS.hcap; exact absurd h1 (by omega)
    | some x =>
      have hlm : (zs.map (Value.int .i64)).length = len := by rw [List.length_map, hS.hlen]
      have hrun := fun ty => run_copy_row (P := Try.prog) (w.alloc (.cells ((List.replicate (len + 3) (0 : Int)).map (Value.int .i64)).toArray 3)) 30 30 ty 3 w.heap.size 0 (len + 3) (len + 3) x len cap _ 3 (zs.map (Value.int .i64)) Try.underlying30 Try.sizeInt (MapKept.heap_alloc w _).1
        (by rw [hlm]; simp) (fun j v hj => by
          have hjl : j < len := by rw [← hlm]; exact (List.getElem?_eq_some_iff.1 hj).1
          have hc := hS.cell j hjl
          have e : v = .int .i64 (zs.getD j 0) := by
            rw [List.getElem?_map, List.getElem?_eq_getElem (by rw [hS.hlen]; exact hjl)] at hj
            simp [List.getD_eq_getElem?_getD, List.getElem?_eq_getElem (show j < zs.length by rw [hS.hlen]; exact hjl)]
            simpa using hj.symm
          have hc2 : w.cell? (x.add j) = some v := by rw [e]; exact hc
          exact cell_later ((Below.refl _ _).alloc (Nat.le_refl _) _) hc2) (by rw [hlm]; simp) (by
          intro v hv; obtain ⟨s, _, rfl⟩ := List.mem_map.1 hv; rfl)
      rw [hlm] at hrun
      refine ⟨_, hrun, ?_, ?_⟩
      · unfold RowI
        rw [setRow_heap _ _ _ _ _ _ (MapKept.heap_alloc w _).1]
        congr 2
        apply Array.ext'
        simp [lentToZ, hS.hlen]
      · exact below_setRow ((Below.refl _ _).alloc (Nat.le_refl _) _) (Nat.le_refl _) _

/-- make([]int, l), up to the form's reach. -/
theorem Try.makeIntB (l : Nat) (L : Int) (hl : L = l) (hb : l ≤ 1000000) (w : World) :
    (Instr.makeSlice 30 (.int .i64 L) (.int .i64 L)).run Try.prog w = .ok (.slice (some ⟨w.heap.size, 0, none⟩) l l) (w.alloc (.cells ((List.replicate l (0 : Int)).map (Value.int .i64)).toArray 3)) := by
  subst hl
  rw [Try.makeInts l hb w, madeI]
set_option maxHeartbeats 800000 in
theorem Try.lentZ_any (a : Option Addr) (len cap : Nat) (zs : List Int) (w : World) (hS : IntSl Try.prog 30 .i64 w a len cap zs) (h20 : len ≤ 900000) :
    Calls Try.prog 10 #[.slice a len cap] w fun e w' => e = .returned (.slice (some ⟨w.heap.size, 0, none⟩) len (len + 3)) ∧ RowI w' 3 w.heap.size (lentZ zs) ∧ Below w.heap.size w w' := by
  obtain ⟨w2, hcp, hrow, hb⟩ := Try.copyZ a len cap zs w hS
  have HL : Hid (zs.length = len) := hS.hlen
  have hmk := fun w => Try.makeIntB (len + 3) ((len : Int) + 3) (by omega) (by omega) w
  obtain ⟨Z, hZ⟩ : ∃ Z, Z = ((List.replicate (len + 3) (0 : Int)).map (Value.int .i64)).toArray := ⟨_, rfl⟩
  simp only [← hZ] at hcp hmk
  clear hZ
  go_enter Try.func10, Try.ntmps10
  go_wp2
  clear hmk hcp
  go_loopw [4] (fun i wr => ∃ k : Nat, len ≤ k ∧ k ≤ len + 3 ∧ i = .int .i64 k ∧ RowI wr 3 w.heap.size (lentToZ zs (k - len)) ∧ Below w.heap.size w wr) (fun i _ => len + 3 - (intOf i).toNat)
  case atStart => exact ⟨len, Nat.le_refl _, by omega, rfl, by rw [Nat.sub_self]; exact hrow, hb⟩
  case round =>
    obtain ⟨k, hk0, hk, rfl, hr, hnx⟩ := hrel
    by_cases hlt : k < len + 3
    · have hc1 := hr.cell (i := k) (by rw [lentToZ_len _ (by omega), HL.out]; omega)
      have hf1 := hr.frozen k
      have R1 : RowI (wr.setCell ⟨w.heap.size, k, none⟩ (.int .i64 (markI k))) 3 w.heap.size (lentToZ zs (k + 1 - len)) := by
        have := hr.set k (markI k)
        have e : zs.length + (k - len) = k := by rw [HL.out]; omega
        have h2 := lentToZ_set zs (k := k - len) (by omega)
        rw [e] at h2
        rw [h2, show k - len + 1 = k + 1 - len by omega] at this
        exact this
      have R2 : Below w.heap.size w (wr.setCell ⟨w.heap.size, k, none⟩ (.int .i64 (markI k))) := hnx.setCell (Nat.le_refl _) _
      clear hr hnx
      unfold markI at R1 R2
      go_wp2
      go_roundw
      case rel => exact ⟨k + 1, by omega, by omega, by go_num, R1, R2⟩
      case measure => simp [intOf]; omega
    · obtain rfl : k = len + 3 := by omega
      go_wp2
      go_ret
      exact ⟨rfl, by rw [show len + 3 - len = 3 by omega, lentToZ_end] at hr; exact hr, hnx⟩
theorem Try.lentZ_sl {w : World} {g len : Nat} {zs : List Int} (hR : RowI w 3 g (lentZ zs)) (hl : zs.length = len) (h : len ≤ 900000) : IntSl Try.prog 30 .i64 w (some ⟨g, 0, none⟩) (len + 3) (len + 3) (lentZ zs) := by
  have := hR.zsl (P := Try.prog) (T := 30) (n := len + 3) Try.underlying30 Try.sizeInt (by rw [lentZ_len]; omega) (by rw [lentZ_len]; unfold maxLen; omega)
  rw [List.take_of_length_le (by rw [lentZ_len]; omega), lentZ_len, hl] at this
  exact this
theorem Try.lentZ_slen {w : World} {g len : Nat} {zs : List Int} (hR : RowI w 3 g (lentZ zs)) (hl : zs.length = len) (h : len ≤ 900000) : IntSl Try.prog 30 .i64 w (some ⟨g, 0, none⟩) len (len + 3) zs := by
  subst hl
  have := hR.zsl (P := Try.prog) (T := 30) (n := zs.length) Try.underlying30 Try.sizeInt (by rw [lentZ_len]; omega) (by rw [lentZ_len]; unfold maxLen; omega)
  rw [lentZ_take, lentZ_len] at this
  exact this

set_option maxHeartbeats 800000 in
theorem Try.keptZ_any (g len : Nat) (a : Option Addr) (cap : Nat) (zs : List Int) (w : World) (hR : RowI w 3 g (lentZ zs)) (hS : IntSl Try.prog 30 .i64 w a len cap zs) (h20 : len ≤ 900000) :
    Calls Try.prog 13 #[.slice (some ⟨g, 0, none⟩) len (len + 3), .slice a len cap] w fun e w' => e = .returned (.bool true) ∧ Below w.heap.size w w' := by
  have hd : Below w.heap.size w w.drew := (Below.refl _ _).drew
  have hle := Try.lentZ_any a len cap zs w.drew (hS.up hd) h20
  have hsm : ∀ w1, RowI w1 3 w.drew.heap.size (lentZ zs) → Below w.drew.heap.size w.drew w1 → Calls Try.prog 22 #[.slice (some ⟨g, 0, none⟩) (len + 3) (len + 3), .slice (some ⟨w.drew.heap.size, 0, none⟩) (len + 3) (len + 3)] w1 fun e w' => e = .returned (.bool true) ∧ Below w1.heap.size w1 w' := fun w1 h1 h2 =>
    (Try.sameI_any _ _ _ _ _ _ _ _ w1 (Try.lentZ_sl ((hR.up hd).up h2) hS.hlen h20) (Try.lentZ_sl h1 hS.hlen h20)).mono fun e w' ⟨he, hn⟩ => ⟨by rw [he]; simp, drew_belowZ hn⟩
  clear hR hS
  obtain ⟨C, hC⟩ : ∃ C : Nat, C = len + 3 := ⟨_, rfl⟩
  have hsum : IntKind.i64.wrap ((len : Int) + 3) = (C : Int) := by rw [hC, IntWalk.i64_left, IntWalk.wrap64_in _ (by omega)]; omega
  have hC0 : (0 : Int) ≤ (C : Int) := by omega
  have hC1 : (C : Int) ≤ (C : Int) := by omega
  have hC2 : (C : Int) ≤ 9223372036854775807 := by omega
  have hC3 : (len : Int) ≤ (C : Int) := by omega
  rw [← hC] at hle hsm ⊢
  clear hC hd
  go_enter Try.func13, Try.ntmps13
  go_wp2
  go_region_held3 (fun _ => True) (trivial) (first | (go_at_call 10; refine hle.mono ?_; rintro e w1 ⟨rfl, h1, h2⟩; have hs1 := hsm w1 h1 h2) | (go_at_call 22; refine hs1.mono ?_; rintro e w3 ⟨rfl, h3⟩))
  go_wp2
  go_ret
  have hd : Below w.heap.size w w.drew := (Below.refl _ _).drew
  exact ⟨rfl, hd.trans (h2.trans (h3.mono h2.size))⟩
end Go.Proofs.Ytmnkkknkmbldhaa
