/- Lists of sets in memory; SameSets; what package sets answers (contracts). -/
import Derived.Test.YtllcjmaecgfijaaDoorKGen
import Derived.Test.YtllcjmaecgfijaaDoorKsP
import Derived.Deep.QuietTactic
namespace Go.Proofs.YtllcjmaecgfijaaDoor
open Go.RowKit Go.Maps

/-- The numbers as the model has them. -/
abbrev iU (l : List Nat) : List Int := l.map fun (x : Nat) => (x : Int)
theorem iU_inj {a b : List Nat} (h : iU a = iU b) : a = b := by
  induction a generalizing b with
  | nil => cases b with | nil => rfl | cons y b => cases h
  | cons x a ih =>
    cases b with
    | nil => cases h
    | cons y b =>
      simp only [iU, List.map_cons, List.cons.injEq] at h
      obtain ⟨h1, h2⟩ := h
      rw [show x = y by omega, ih h2]
theorem dec_iU (a b : List Nat) : decide (iU a = iU b) = decide (a = b) := by
  by_cases h : a = b
  · rw [h, decide_eq_true rfl, decide_eq_true rfl]
  · rw [decide_eq_false h, decide_eq_false fun e => h (iU_inj e)]
/-- A list of sets, wherever it lies. -/
abbrev USl (w : World) (a : Option Addr) (len cap : Nat) (l : List Nat) : Prop := IntSl Tryd.prog 25 .u64 w a len cap (iU l)
theorem USl.len {w : World} {a : Option Addr} {len cap : Nat} {l : List Nat} (h : USl w a len cap l) : len = l.length := by
  have := h.hlen
  simp [iU] at this
  omega
def Sm (l : List Nat) : Prop := ∀ x ∈ l, x < 2 ^ 64
theorem Tryd.sizeU64 : (Tryd.prog.info? 22).map (·.size) = some 1 := by kernel_rfl
theorem usl_nil {w : World} : USl w none 0 0 [] :=
  ⟨rfl, Nat.le_refl _, Nat.zero_le _, fun m k w hk hm => absurd hk (by omega), fun k hk => absurd hk (by omega), fun k hk => absurd hk (by omega), fun _ => rfl⟩
/-- Sets that are written out. -/
theorem Tryd.set_lit (l : List Nat) (w : World) (hl : l.length ≤ 2000) : USl (w.alloc (.cells ((iU l).map (Value.int .u64)).toArray 22)) (some ⟨w.heap.size, 0, none⟩) l.length l.length l := by
  have had : ∀ k, adOf (some ⟨w.heap.size, 0, none⟩) k = ⟨w.heap.size, k, none⟩ := fun k => by simp [adOf, add_plain]
  have hr := (MapKept.heap_alloc w (.cells ((iU l).map (Value.int .u64)).toArray 22)).1
  refine ⟨by simp, Nat.le_refl _, by unfold maxLen; omega, fun m k w hk hm => idx_of Tryd.underlying25 Tryd.sizeU64 (by simp) k w hk, fun k hk => ?_, fun k hk => ?_, by simp⟩
  · rw [had, cell_row hr k]
    simp [List.getD_eq_getElem?_getD, hk]
  · rw [had]
    exact (Array.getElem?_eq_some_iff.1 hr).1
set_option maxHeartbeats 2000000 in
/-- SameSets tells whether two lists are one. -/
theorem Tryd.sameU_any (a : Option Addr) (len cap : Nat) (xs : List Int) (a' : Option Addr) (len' cap' : Nat) (ys : List Int) (w : World)
    (hS : IntSl Tryd.prog 25 .u64 w a len cap xs) (hO : IntSl Tryd.prog 25 .u64 w a' len' cap' ys) :
    Calls Tryd.prog 9 #[.slice a len cap, .slice a' len' cap'] w fun e w' => e = .returned (.bool (decide (xs = ys))) ∧ ∃ n, w' = w.drewN n := by
  have hb0 := hS.bd
  have hb1 := hS.hcap
  have hb2 := hO.bd
  have hb3 := hO.hcap
  unfold maxLen at hb0 hb2
  by_cases hll : len = len'
  · subst hll
    have hidx := fun (k : Nat) (w : World) (h : k < len) => hS.idx len k w h (Nat.le_refl _)
    have hidx' := fun (k : Nat) (w : World) (h : k < len) => hO.idx len k w h (Nat.le_refl _)
    go_enter Tryd.func9, Tryd.ntmps9
    go_wp2
    go_loopw [5] (fun i wr => ∃ k : Nat, k ≤ len ∧ i = .int .i64 k ∧ Hid (xs.take k = ys.take k) ∧ Hid (∃ n, wr = w.drewN n)) (fun i _ => len - (intOf i).toNat)
    case atStart => exact ⟨0, Nat.zero_le _, rfl, by show _ = _; simp, 0, rfl⟩
    case round =>
      obtain ⟨k, hk, rfl, HU, hwr⟩ := hrel
      by_cases hlt : k < len
      · have hS' : IntSl Tryd.prog 25 .u64 wr a len cap xs := by obtain ⟨n, hn⟩ := hwr.out; rw [hn]; exact hS.drewN n
        have hO' : IntSl Tryd.prog 25 .u64 wr a' len cap' ys := by obtain ⟨n, hn⟩ := hwr.out; rw [hn]; exact hO.drewN n
        have hck := hS'.cell k hlt
        have hck' := hO'.cell k hlt
        have HN : Hid (xs.getD k 0 = ys.getD k 0 → xs.take (k + 1) = ys.take (k + 1)) := fun h => take_eq_next (by rw [hS.hlen]; exact hlt) (by rw [hO.hlen]; exact hlt) HU.out h
        have HM : Hid (xs.getD k 0 ≠ ys.getD k 0 → decide (xs = ys) = false) := fun h => decide_eq_false (fun e => h (by rw [e]))
        clear hS' hO'
        generalize xs.getD k 0 = x at *
        generalize ys.getD k 0 = y at *
        go_wp2
        go_quiet (fail)
        rcases Bool.eq_false_or_eq_true (x != y) with ht | ht
        · go_wp2
          go_ret
          obtain ⟨n, hn⟩ := hwr.out
          exact ⟨by rw [HM.out (by simpa using ht)]; rfl, n + nq, by rw [hn, World.drewN_drewN]⟩
        · have HN2 : Hid _ := HN.out (by simpa using ht)
          go_wp2
          go_roundw
          case rel =>
            obtain ⟨n, hn⟩ := hwr.out
            exact ⟨k + 1, by omega, by go_num, HN2, n + nq, by rw [hn, World.drewN_drewN]⟩
          case measure => simp [intOf]; omega
      · have hx : Hid (decide (xs = ys) = true) := by
          have := HU.out
          rw [List.take_of_length_le (by rw [hS.hlen]; omega), List.take_of_length_le (by rw [hO.hlen]; omega)] at this
          exact decide_eq_true this
        go_wp2
        go_ret
        exact ⟨by rw [hx.out]; rfl, hwr.out⟩
  · have hx : Hid (decide (xs = ys) = false) := decide_eq_false (fun e => hll (by rw [← hS.hlen, ← hO.hlen, e]))
    have hll' : ((len : Int) != (len' : Int)) = true := by simp; omega
    clear hll
    go_enter Tryd.func9, Tryd.ntmps9
    go_wp2
    go_ret
    exact ⟨by rw [hx.out]; rfl, 0, rfl⟩
/-- An answer that is a list of sets. -/
def LR (r : List Nat) (w : World) (e : Ending) (w' : World) : Prop := ∃ (a : Option Addr) (c : Nat), e = .returned (.slice a r.length c) ∧ USl w' a r.length c r ∧ Below w.heap.size w w'
/-- An answer that is a list of sets and a word of how it went. -/
def LE (E : Nat) (r : List Nat) (w : World) (e : Ending) (w' : World) : Prop := ∃ (a : Option Addr) (c : Nat), e = .returned (.tuple #[.slice a r.length c, .int .i64 (E : Int)]) ∧ USl w' a r.length c r ∧ Below w.heap.size w w'
def BR (b : Bool) (w : World) (e : Ending) (w' : World) : Prop := e = .returned (.bool b) ∧ Below w.heap.size w w'
/-- What package sets answers. -/
structure SetC : Prop where
  least : ∀ (a : Option Addr) (n c : Nat) (l : List Nat) (w : World), USl w a n c l → Sm l → n ≤ 2000 → Calls Tryd.prog 13 #[.slice a n c] w (LR (leastL l) w)
  check : ∀ (a : Option Addr) (n c : Nat) (l : List Nat) (w : World), USl w a n c l → Sm l → n ≤ 2000 → Calls Tryd.prog 14 #[.slice a n c] w (BR (decide (l = leastL l)) w)
  or : ∀ (a : Option Addr) (n c : Nat) (l : List Nat) (b : Option Addr) (m d : Nat) (k : List Nat) (w : World), USl w a n c l → USl w b m d k → Sm l → Sm k → n + m ≤ 1024 → Calls Tryd.prog 17 #[.slice a n c, .slice b m d] w (LE 0 (leastL (l ++ k)) w)
  and : ∀ (a : Option Addr) (n c : Nat) (l : List Nat) (b : Option Addr) (m d : Nat) (k : List Nat) (w : World), USl w a n c l → USl w b m d k → Sm l → Sm k → n * m ≤ 1024 → n ≤ 2000 → m ≤ 2000 → Calls Tryd.prog 15 #[.slice a n c, .slice b m d] w (LE 0 (leastL (uniL l k)) w)
  holds : ∀ (a : Option Addr) (n c : Nat) (l : List Nat) (h : Nat) (w : World), USl w a n c l → Sm l → n ≤ 2000 → h < 2 ^ 64 → Calls Tryd.prog 16 #[.slice a n c, .int .u64 (h : Int)] w (BR (hoB l h) w)
  same : ∀ (a : Option Addr) (n c : Nat) (l : List Nat) (b : Option Addr) (m d : Nat) (k : List Nat) (w : World), USl w a n c l → USl w b m d k → Calls Tryd.prog 24 #[.slice a n c, .slice b m d] w (BR (decide (l = k)) w)
  tru : ∀ w : World, Calls Tryd.prog 6 #[] w (LR [0] w)
theorem Tryd.sameS_any (a : Option Addr) (n c : Nat) (l : List Nat) (b : Option Addr) (m d : Nat) (k : List Nat) (w : World) (h : USl w a n c l) (h' : USl w b m d k) : Calls Tryd.prog 9 #[.slice a n c, .slice b m d] w (BR (decide (l = k)) w) :=
  (Tryd.sameU_any a n c _ b m d _ w h h').mono fun e w' ⟨h1, q, h2⟩ => ⟨by rw [h1, dec_iU], by rw [h2]; exact below_drewN (Below.refl _ _) q⟩
end Go.Proofs.YtllcjmaecgfijaaDoor
