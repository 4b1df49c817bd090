/- Stage 10's laws: Pick, CopySets; a row of sets of one's own. -/
import Derived.Test.YtllcjmaecgfijaaDoorWSe5
import Derived.Deep.AppendLies
namespace Go.Proofs.YtllcjmaecgfijaaDoor
open Go.RowKit Go.Maps

theorem ownU_sl {P : Program} {T e : TypeId} {w : World} {base n : Nat} {v : Value} {zs : List Int} (h : w.ownsRow base e 1 v n (zs.map (Value.int .u64))) (hu : P.underlying T = some (.slice e)) (hs : (P.info? e).map (·.size) = some 1) :
    ∃ a cap, v = .slice a n cap ∧ IntSl P T .u64 w a n cap zs ∧ (∀ k, k < n → base ≤ (adOf a k).block) ∧ ∀ x, a = some x → x.block < w.heap.size := by
  obtain ⟨hl, h⟩ := h
  simp at hl
  rcases h with ⟨rfl, rfl⟩ | ⟨g, cap, cur, rfl, hg, hcell, hnc, hcm, hsz, htk⟩
  · have : zs = [] := List.eq_nil_of_length_eq_zero hl
    subst this
    exact ⟨none, 0, rfl, ⟨rfl, Nat.le_refl _, Nat.zero_le _, fun m k w hk hm => absurd hk (by omega), fun k hk => absurd hk (by omega), fun k hk => absurd hk (by omega), fun _ => rfl⟩, fun k hk => absurd hk (by omega), fun x hx => by cases hx⟩
  · have had : ∀ k, adOf (some ⟨g, 0, none⟩) k = ⟨g, k, none⟩ := fun k => by simp [adOf, add_plain]
    have hlt : g < w.heap.size := (Array.getElem?_eq_some_iff.1 hcell).1
    refine ⟨some ⟨g, 0, none⟩, cap, rfl, ⟨hl, hnc, hcm, fun m k w hk hm => idx_of hu hs (by simp) k w hk, fun k hk => ?_, fun k hk => by rw [had]; exact hlt, by simp⟩, fun k hk => by rw [had]; exact hg, fun x hx => by injection hx with hx; rw [← hx]; exact hlt⟩
    rw [had]
    have hk2 : (cur.toList.take (n * 1))[k]? = some (.int .u64 (zs.getD k 0)) := by
      rw [htk]; simp [List.getD_eq_getElem?_getD, List.getElem?_eq_getElem (show k < zs.length by omega)]
    rw [List.getElem?_take, if_pos (by omega)] at hk2
    simp [World.cell?, hcell]
    simpa using hk2
theorem Tryd.infoU64 : (Tryd.prog.info? 22).map (fun i => (i.zero, i.size, i.bytes)) = some (some (.int .u64 0), 1, 8) := by kernel_rfl
def CopyRU (a : Option Addr) (n : Nat) (zs : List Int) (w : World) (e : Ending) (w' : World) : Prop :=
  ∃ v, e = .returned v ∧ w'.ownsRow w.heap.size 22 1 v n (zs.map (Value.int .u64)) ∧ Below w.heap.size w w' ∧ (a = none → ∃ g, v = .slice (some ⟨g, 0, none⟩) 0 0)
theorem ownsRow_emptyI (w : World) (e : TypeId) : (w.alloc (.cells #[] e)).ownsRow w.heap.size e 1 (.slice (some ⟨w.heap.size, 0, none⟩) 0 0) 0 [] :=
  ⟨rfl, Or.inr ⟨w.heap.size, 0, #[], rfl, Nat.le_refl _, (MapKept.heap_alloc w _).1, Nat.le_refl _, Nat.zero_le _, rfl, rfl⟩⟩

set_option maxHeartbeats 800000 in
theorem Tryd.copyU_any (a : Option Addr) (n cap : Nat) (zs : List Int) (w : World) (hS : IntSl Tryd.prog 25 .u64 w a n cap zs) (hn : n ≤ 1000000) :
    Calls Tryd.prog 21 #[.slice a n cap] w fun e w' => CopyRU a n zs w e w' := by
  obtain ⟨i0, hi, hz0, hz1, hz2⟩ := info_parts Tryd.infoU64
  have HI : Hid (Tryd.prog.info? 22 = some i0) := hi
  have HZ0 : Hid (i0.zero = some (.int .u64 0)) := hz0
  have HZ1 : Hid (i0.size = 1) := hz1
  have HZ2 : Hid (i0.bytes = 8) := hz2
  clear hi hz0 hz1 hz2
  have hown := ownsRow_emptyI w 22
  have fin : ∀ (v : Value) (w1 : World), w1.ownsRow w.heap.size 22 1 v n (zs.map (Value.int .u64)) → (w.alloc (.cells #[] 22)).grownBy w1 (some w.heap.size) → (a = none → ∃ g, v = .slice (some ⟨g, 0, none⟩) 0 0) → CopyRU a n zs w (.returned v) w1 := by
    intro v w1 h1 h2 h3
    exact ⟨v, rfl, h1, ((Below.refl _ _).alloc (Nat.le_refl _) _).grown h2 (by simp) (fun k hk => by cases hk; exact Nat.le_refl _), h3⟩
  have HF : Hid _ := fin
  clear fin
  cases a with
  | none =>
    have hc0 := hS.nn rfl
    have hn0 : n = 0 := by have := hS.hcap; omega
    subst hc0 hn0
    have hzs : zs = [] := List.eq_nil_of_length_eq_zero hS.hlen
    subst hzs
    go_enter Tryd.func21, Tryd.ntmps21
    go_wp2_with (at_builtin; refine wpList_append_fits_any _ rfl _ _ 25 rfl w.heap.size 22 i0 1 Tryd.underlying25 HI.out HZ1.out w.heap.size 0 0 [] rfl hown none 0 0 [] rfl rfl (fun _ => ⟨rfl, rfl⟩) (fun _ h => by cases h) (fun _ h => by cases h) (Nat.le_refl _) ?_)
    intro w1 hown1 hgrow1
    have HE := HF.out _ _ hown1 hgrow1 (fun _ => ⟨_, rfl⟩)
    clear hown1 hgrow1 hown
    go_wp2
    go_ret
    exact HE
  | some x =>
    have hnews : ∀ j u, (zs.map (Value.int .u64))[j]? = some u → (w.alloc (.cells #[] 22)).cell? (x.add j) = some u := by
      intro j u hj
      have hjl : j < zs.length := by have := (List.getElem?_eq_some_iff.1 hj).1; simpa using this
      have hc := hS.cell j (by rw [← hS.hlen]; exact hjl)
      have e : u = .int .u64 (zs.getD j 0) := by
        rw [List.getElem?_map, List.getElem?_eq_getElem hjl] at hj
        simp [List.getD_eq_getElem?_getD, List.getElem?_eq_getElem hjl]
        simpa using hj.symm
      have hc2 : w.cell? (x.add j) = some u := by rw [e]; exact hc
      exact cell_later ((Below.refl _ _).alloc (Nat.le_refl _) _) hc2
    have hlz : (zs.map (Value.int .u64)).length = n * 1 := by rw [List.length_map, hS.hlen, Nat.mul_one]
    go_enter Tryd.func21, Tryd.ntmps21
    go_wp2_with (at_builtin; refine wpList_append_own _ rfl _ _ 25 rfl w.heap.size 22 i0 (.int .u64 0) 1 8 Tryd.underlying25 HI.out HZ0.out HZ1.out HZ2.out rfl (by decide) _ 0 _ rfl hown x n cap (zs.map (Value.int .u64)) rfl hlz hnews (ints_oneCell .u64 zs) (by unfold maxLen; omega) (by omega) (by simp) ?_)
    intro v' w1 hown1 hgrow1 _
    have HE : Hid (CopyRU (some x) n zs w (.returned v') w1) := HF.out v' w1 (by simpa using hown1) hgrow1 (fun h => by cases h)
    clear hown1 hgrow1 hown hnews hlz
    go_wp2
    go_ret
    exact HE.out
/-- A place of one's own row, written. -/
theorem owns_put {w : World} {base e n g cap : Nat} {zs : List Int} (h : w.ownsRow base e 1 (.slice (some ⟨g, 0, none⟩) n cap) n (zs.map (Value.int .u64))) (i : Nat) (x : Int) : (w.setCell ⟨g, i, none⟩ (.int .u64 x)).ownsRow base e 1 (.slice (some ⟨g, 0, none⟩) n cap) n ((zs.set i x).map (Value.int .u64)) := by
  obtain ⟨hl, h⟩ := h
  rcases h with ⟨h1, _⟩ | ⟨g', cap', cur, h1, hg, hcell, hnc, hcm, hsz, htk⟩
  · cases h1
  · injection h1 with h1 _ h3
    injection h1 with h1
    injection h1 with h1
    subst h1 h3
    refine ⟨by simpa using hl, Or.inr ⟨g, cap, cur.set! i (.int .u64 x), rfl, hg, heap_setCell_same w g i _ e _ hcell, hnc, hcm, by simpa using hsz, ?_⟩⟩
    rw [List.map_set, ← htk]
    simp [List.take_set]
theorem iU_set (l : List Nat) (i x : Nat) : (iU l).set i (x : Int) = iU (l.set i x) := by simp [iU, List.map_set]
theorem swap_mem {l : List Nat} {i j : Nat} (hi : i < l.length) (hj : j < l.length) (x : Nat) : x ∈ (l.set i (l.getD j 0)).set j (l.getD i 0) ↔ x ∈ l := by
  have e : ∀ k (hk : k < l.length), l.getD k 0 = l[k] := fun k hk => by simp [List.getD_eq_getElem?_getD, hk]
  rw [e i hi, e j hj, List.mem_iff_getElem, List.mem_iff_getElem]
  constructor
  · rintro ⟨k, hk, rfl⟩
    simp only [List.length_set] at hk
    rw [List.getElem_set]
    split
    · exact ⟨i, hi, rfl⟩
    · rw [List.getElem_set]
      split
      · exact ⟨j, hj, rfl⟩
      · exact ⟨k, hk, rfl⟩
  · rintro ⟨k, hk, rfl⟩
    by_cases k1 : k = i
    · exact ⟨j, by simpa using hj, by subst k1; simp⟩
    · by_cases k2 : k = j
      · refine ⟨i, by simpa using hi, ?_⟩
        subst k2
        rw [List.getElem_set]
        split
        · rename_i h; simp [h]
        · simp
      · refine ⟨k, by simpa using hk, ?_⟩
        rw [List.getElem_set, if_neg (fun h => k2 h.symm), List.getElem_set, if_neg (fun h => k1 h.symm)]
end Go.Proofs.YtllcjmaecgfijaaDoor
