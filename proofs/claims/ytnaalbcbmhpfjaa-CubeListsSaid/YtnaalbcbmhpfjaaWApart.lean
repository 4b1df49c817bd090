/- Lists of letters that lie apart: CopyLetters, OverLetters, ApartLetters. -/
import Derived.Test.YtnaalbcbmhpfjaaWAll
import Derived.Deep.RegionHeld3
import Derived.Deep.AppendLies
namespace Go.Proofs.Ytnaalbcbmhpfjaa
open Go.RowKit Go.Maps

/-- A list of letters that is nil, or a whole block. -/
def RowOf (w : World) (e : TypeId) (a : Option Addr) (cur : List Int) : Prop := (a = none ∧ cur = []) ∨ ∃ g, a = some ⟨g, 0, none⟩ ∧ RowAt w e g cur
def x5A (z : Int) : Int := bits BinOp.xor IntKind.u8 z 90
theorem x5A_bd {z : Int} (h0 : 0 ≤ z) (h1 : z < 256) : 0 ≤ x5A z ∧ x5A z < 256 := by
  unfold x5A; rw [u8_xor z 90 h0 h1 (by decide) (by decide)]
  have : z.toNat ^^^ (90 : Int).toNat < 2 ^ 8 := Nat.xor_lt_two_pow (by omega) (by decide)
  omega
theorem x5A_x5A {z : Int} (h0 : 0 ≤ z) (h1 : z < 256) : x5A (x5A z) = z := by
  have hb := x5A_bd h0 h1
  have e : x5A z = ((z.toNat ^^^ 90 : Nat) : Int) := by unfold x5A; rw [u8_xor z 90 h0 h1 (by decide) (by decide)]; rfl
  have e2 : x5A (x5A z) = (((x5A z).toNat ^^^ 90 : Nat) : Int) := by unfold x5A; rw [u8_xor _ 90 (by exact hb.1) (by exact hb.2) (by decide) (by decide)]; rfl
  rw [e2, e, Int.toNat_natCast, Nat.xor_assoc, Nat.xor_self, Nat.xor_zero]; omega
/-- The first k letters turned. -/
def overTo (cur : List Int) (k : Nat) : List Int := (cur.take k).map x5A ++ cur.drop k
theorem overTo_zero (cur : List Int) : overTo cur 0 = cur := by simp [overTo]
theorem overTo_end (cur : List Int) : overTo cur cur.length = cur.map x5A := by simp [overTo]
theorem overTo_len (cur : List Int) (k : Nat) : (overTo cur k).length = cur.length := by simp [overTo]; omega
theorem overTo_get {cur : List Int} {k : Nat} (h : k < cur.length) : (overTo cur k).getD k 0 = cur.getD k 0 := by
  unfold overTo
  rw [List.getD_eq_getElem?_getD, List.getElem?_append_right (by simp; omega)]
  simp [List.getD_eq_getElem?_getD, Nat.min_eq_left (Nat.le_of_lt h)]
theorem overTo_set {cur : List Int} {k : Nat} (h : k < cur.length) : (overTo cur k).set k (x5A (cur.getD k 0)) = overTo cur (k + 1) := by
  unfold overTo
  have e : k - ((cur.take k).map x5A).length = 0 := by simp; omega
  rw [List.drop_eq_getElem_cons h, List.set_append_right _ _ (by simp; omega), take_snoc_int h, e]
  simp only [List.set_cons_zero, List.map_append, List.map_cons, List.map_nil, List.append_assoc, List.cons_append, List.nil_append]

def OverR (e : TypeId) (a : Option Addr) (cur : List Int) (w : World) (en : Ending) (w' : World) : Prop :=
  en = .returned (.tuple #[]) ∧ RowOf w' e a (cur.map x5A) ∧ w.grownBy w' (a.map (·.block))

set_option maxHeartbeats 800000 in
theorem Try.over_any (a : Option Addr) (n : Nat) (cur : List Int) (w : World) (hR : RowOf w 22 a cur) (hm : cur.length ≤ 140737488355000) :
    Calls Try.prog 51 #[.slice a n cur.length] w fun e w' => OverR 22 a cur w e w' := by
  rcases hR with ⟨rfl, rfl⟩ | ⟨g, rfl, hrow⟩
  · go_enter Try.func51, Try.ntmps51
    go_wp2
    refine wp_loop_rounds 1 ?_
    rw [rounds_succ]
    go_wp2
    go_end0
    exact ⟨rfl, Or.inl ⟨rfl, rfl⟩, World.grownBy.refl _ _⟩
  · have HL : Hid (∃ M, cur.length = M) := ⟨_, rfl⟩
    obtain ⟨M, hM⟩ := HL.out
    have HM : Hid (cur.length = M) := hM
    rw [hM] at hm ⊢
    clear hM HL
    go_enter Try.func51, Try.ntmps51
    go_wp2
    go_loopw [3] (fun i wr => ∃ k : Nat, k ≤ M ∧ i = .int .i64 k ∧ RowAt wr 22 g (overTo cur k) ∧ w.grownBy wr (some g)) (fun i _ => M - (intOf i).toNat)
    case atStart => exact ⟨0, Nat.zero_le _, rfl, by rw [overTo_zero]; exact hrow, World.grownBy.refl _ _⟩
    case round =>
      obtain ⟨k, hk, rfl, hr, hg⟩ := hrel
      by_cases hlt : k < M
      · have hc1 := hr.cell (i := k) (by rw [overTo_len, HM.out]; exact hlt)
        rw [overTo_get (by rw [HM.out]; exact hlt)] at hc1
        have hf1 := hr.frozen k
        have R1 := hr.set k (x5A (cur.getD k 0))
        rw [overTo_set (by rw [HM.out]; exact hlt)] at R1
        have R2 : w.grownBy (wr.setCell ⟨g, k, none⟩ (.int .u8 (x5A (cur.getD k 0)))) (some g) :=
          ⟨hg.os, hg.tape, hg.output, by simpa using hg.size, fun j hj hne => (heap_setCell_other wr _ j _ (fun e => hne (by rw [e]))).trans (hg.block j hj hne)⟩
        generalize cur.getD k 0 = z at *
        unfold x5A at R1 R2
        clear hr hg
        go_wp2
        go_roundw
        case rel => exact ⟨k + 1, by omega, by go_num, R1, R2⟩
        case measure => simp [intOf]; omega
      · obtain rfl : k = M := by omega
        go_wp2
        go_end0
        exact ⟨rfl, Or.inr ⟨g, rfl, by rw [← overTo_end, HM.out]; exact hr⟩, hg⟩
def Try.CopyR (n : Nat) (zs : List Int) (w : World) (e : Ending) (w' : World) : Prop :=
  ∃ a' cap', e = .returned (.slice a' n cap') ∧ IntSl Try.prog 36 .u8 w' a' n cap' zs ∧ (∀ k, k < n → w.heap.size ≤ (adOf a' k).block) ∧ Below w.heap.size w w'

theorem ownsRow_empty (w : World) (e : TypeId) : (w.alloc (.cells #[] e)).ownsRow w.heap.size e 1 (.slice (some ⟨w.heap.size, 0, none⟩) 0 0) 0 [] :=
  ⟨rfl, Or.inr ⟨w.heap.size, 0, #[], rfl, Nat.le_refl _, (MapKept.heap_alloc w _).1, Nat.le_refl _, Nat.zero_le _, rfl, rfl⟩⟩

set_option maxHeartbeats 800000 in
theorem Try.copy_any (a : Option Addr) (n cap : Nat) (zs : List Int) (w : World) (hS : IntSl Try.prog 36 .u8 w a n cap zs) (hn : n ≤ 140737488355000) :
    Calls Try.prog 50 #[.slice a n cap] w fun e w' => Try.CopyR n zs w e w' := by
  obtain ⟨i0, hi, hz0, hz1, hz2⟩ := info_parts Try.infoLet
  have HI : Hid (Try.prog.info? 22 = some i0) := hi
  have HZ0 : Hid (i0.zero = some (.int .u8 0)) := hz0
  have HZ1 : Hid (i0.size = 1) := hz1
  have HZ2 : Hid (i0.bytes = 1) := hz2
  clear hi hz0 hz1 hz2
  have hown := ownsRow_empty w 22
  have fin : ∀ (v : Value) (w1 : World), w1.ownsRow w.heap.size 22 1 v n (zs.map (Value.int .u8)) → (w.alloc (.cells #[] 22)).grownBy w1 (some w.heap.size) → Try.CopyR n zs w (.returned v) w1 := by
    intro v w1 h1 h2
    obtain ⟨a', cap', rfl, hsl, hblk⟩ := ownsRow_intSl h1 Try.underlying36 Try.sizeLet
    exact ⟨a', cap', rfl, hsl, hblk, ((Below.refl _ _).alloc (Nat.le_refl _) _).grown h2 (by simp) (fun k hk => by cases hk; exact Nat.le_refl _)⟩
  have HF : Hid _ := fin
  clear fin
  cases a with
  | none =>
    have hc0 := hS.nn rfl
    have hn0 : n = 0 := by have := hS.hcap; omega
    subst hc0 hn0
    have hzs : zs = [] := List.eq_nil_of_length_eq_zero hS.hlen
    subst hzs
    go_enter Try.func50, Try.ntmps50
    go_wp2_with (at_builtin; refine wpList_append_fits_any _ rfl _ _ 36 rfl w.heap.size 22 i0 1 Try.underlying36 HI.out HZ1.out w.heap.size 0 0 [] rfl hown none 0 0 [] rfl rfl (fun _ => ⟨rfl, rfl⟩) (fun _ h => by cases h) (fun _ h => by cases h) (Nat.le_refl _) ?_)
    intro w1 hown1 hgrow1
    have HE := HF.out _ _ hown1 hgrow1
    clear hown1 hgrow1 hown
    go_wp2
    go_ret
    exact HE
  | some x =>
    have hnews : ∀ j u, (zs.map (Value.int .u8))[j]? = some u → (w.alloc (.cells #[] 22)).cell? (x.add j) = some u := by
      intro j u hj
      have hjl : j < zs.length := by have := (List.getElem?_eq_some_iff.1 hj).1; simpa using this
      have hc := hS.cell j (by rw [← hS.hlen]; exact hjl)
      have e : u = .int .u8 (zs.getD j 0) := by
        rw [List.getElem?_map, List.getElem?_eq_getElem hjl] at hj
        simp [List.getD_eq_getElem?_getD, List.getElem?_eq_getElem hjl]
        simpa using hj.symm
      have hc2 : w.cell? (x.add j) = some u := by rw [e]; exact hc
      exact cell_later ((Below.refl _ _).alloc (Nat.le_refl _) _) hc2
    have hlz : (zs.map (Value.int .u8)).length = n * 1 := by rw [List.length_map, hS.hlen, Nat.mul_one]
    go_enter Try.func50, Try.ntmps50
    go_wp2_with (at_builtin; refine wpList_append_own _ rfl _ _ 36 rfl w.heap.size 22 i0 (.int .u8 0) 1 1 Try.underlying36 HI.out HZ0.out HZ1.out HZ2.out rfl (by decide) _ 0 _ rfl hown x n cap (zs.map (Value.int .u8)) rfl hlz hnews (ints_oneCell .u8 zs) (by unfold maxLen; omega) (by omega) (by simp) ?_)
    intro v' w1 hown1 hgrow1 _
    have HE : Hid (Try.CopyR n zs w (.returned v') w1) := HF.out v' w1 (by simpa using hown1) hgrow1
    clear hown1 hgrow1 hown hnews hlz
    go_wp2
    go_ret
    exact HE.out
end Go.Proofs.Ytnaalbcbmhpfjaa
