/- The cubes of some letters: Cover of package cube. -/
import Derived.Test.YtnaalbcbmhpfjaaWCub6
namespace Go.Proofs.Ytnaalbcbmhpfjaa
open Go.RowKit Go.Maps

/-- Which letters are in, behind the first k. -/
def bsTo (zs : List Int) (k : Nat) : List Bool := (zs.take k).foldl (fun bs z => bs.set z.toNat true) (List.replicate 256 false)
theorem bsTo_zero (zs : List Int) : bsTo zs 0 = List.replicate 256 false := by unfold bsTo; rw [List.take_zero]; rfl
theorem bsTo_succ {zs : List Int} {k : Nat} (h : k < zs.length) : bsTo zs (k + 1) = (bsTo zs k).set (zs.getD k 0).toNat true := by
  unfold bsTo; rw [take_snoc_int h, List.foldl_append]; rfl
theorem bsTo_len (zs : List Int) : ∀ k, (bsTo zs k).length = 256 := by
  intro k
  unfold bsTo
  have : ∀ (l : List Int) (b : List Bool), (l.foldl (fun bs z => bs.set z.toNat true) b).length = b.length := by
    intro l
    induction l with
    | nil => intro b; rfl
    | cons z l ih => intro b; rw [List.foldl_cons, ih]; simp
  rw [this, List.length_replicate]
def fitsAll (n : Int) (zs : List Int) : Bool := zs.all fun z => fitsB n z
def fitsTo (n : Int) (zs : List Int) (k : Nat) : Prop := (zs.take k).all (fun z => fitsB n z) = true
/-- Cover's answer. -/
def coverV (n : Nat) (zs : List Int) : List Cu := coverC n (innB (bsTo zs zs.length))
def CoverR (T : TypeId) (n : Int) (zs : List Int) (w : World) (e : Ending) (w' : World) : Prop :=
  (fitsAll n zs = true ∧ (0 ≤ n ∧ n ≤ 8) ∧ ∃ v, e = .returned (.tuple #[v, .int .i64 0]) ∧ w'.ownsRow w.heap.size T 2 v (coverV n.toNat zs).length (encC (coverV n.toNat zs))) ∨ (¬ (fitsAll n zs = true ∧ (0 ≤ n ∧ n ≤ 8)) ∧ e = .returned (.tuple #[.slice none 0 0, .int .i64 2]))
def zb256 : Array Value := (List.replicate 256 (Value.bool false)).toArray
theorem zb_new (w : World) (t : TypeId) : BRow (w.alloc (.cells zb256 t)) w.heap.size t (List.replicate 256 false) := by
  have := (MapKept.heap_alloc w (.cells zb256 t)).1
  unfold BRow; rw [this, List.map_replicate]; rfl
theorem Try.zeroMem (w : World) : (zeroValue 78).run Try.prog w = .ok (.agg zb256) w := by kernel_rfl

theorem Try.idxMem (g : Nat) (z : Int) (h0 : 0 ≤ z) (h1 : z < 256) (w : World) : (Instr.indexAt 78 (.pointer (some ⟨g, 0, none⟩)) (.int .u8 z)).run Try.prog w = .ok (.pointer (some ⟨g, z.toNat, none⟩)) w := by
  have hz : z.toNat < 256 := by omega
  obtain ⟨k, rfl⟩ := Int.eq_ofNat_of_zero_le h0
  simp [Instr.indexAt, run_underlying Try.underlying78, asIntOf, sizeOf_run Try.sizeBool, Result.andThen, go_sem, add_plain]
  omega
theorem fitsTo_zero (n : Int) (zs : List Int) : fitsTo n zs 0 := by unfold fitsTo; rw [List.take_zero]; rfl
theorem fitsTo_succ {n : Int} {zs : List Int} {k : Nat} (h : k < zs.length) (hf : fitsTo n zs k) (hb : fitsB n (zs.getD k 0) = true) : fitsTo n zs (k + 1) := by
  unfold fitsTo at hf ⊢; rw [take_snoc_int h, List.all_append, hf]; simpa using hb
theorem fitsTo_end {n : Int} {zs : List Int} (h : fitsTo n zs zs.length) : fitsAll n zs = true := by
  unfold fitsTo at h; rw [List.take_length] at h; exact h
theorem fitsAll_bad {n : Int} {zs : List Int} {k : Nat} (h : k < zs.length) (hb : fitsB n (zs.getD k 0) = false) : fitsAll n zs ≠ true := by
  intro h2
  unfold fitsAll at h2
  rw [List.all_eq_true] at h2
  have e : zs.getD k 0 = zs[k] := by simp [List.getD_eq_getElem?_getD, List.getElem?_eq_getElem h]
  rw [e, h2 _ (List.getElem_mem h)] at hb; cases hb

set_option maxRecDepth 100000 in
set_option maxHeartbeats 1000000 in
theorem Try.Cover_any (n : Int) (ad : Option Addr) (len cap : Nat) (zs : List Int) (w : World) (hS : IntSl Try.prog 36 .u8 w ad len cap zs) (hz : ∀ z ∈ zs, 0 ≤ z ∧ z < 256) :
    Calls Try.prog 26 #[.int .i64 n, .slice ad len cap] w fun e w' => CoverR 24 n zs w e w' ∧ Below w.heap.size w w' := by
  have hsz := fun w => Try.size_any n w
  by_cases hn : 0 ≤ n ∧ n ≤ 8
  · rw [decide_eq_true hn] at hsz
    have hzv := Try.zeroMem
    obtain ⟨N, rfl⟩ := Int.eq_ofNat_of_zero_le hn.1
    have hN : N ≤ 8 := by omega
    have hb0 := hS.bd
    have hb1 := hS.hcap
    unfold maxLen at hb0
    have hl0 := hS.hlen
    have hR0 := zb_new w 78
    rw [← bsTo_zero zs] at hR0
    have hbe0 := below_new w (.cells zb256 78)
    have hidx := fun (k : Nat) (w : World) (h : k < len) => hS.idx len k w h (Nat.le_refl _)
    have HRb : Hid (fitsAll N zs ≠ true → ∀ e w', e = .returned (.tuple #[.slice none 0 0, .int .i64 2]) → CoverR 24 N zs w e w') := fun hf e w' h => Or.inr ⟨fun h2 => hf h2.1, h⟩
    have HRg : Hid (fitsAll N zs = true → ∀ e w', (∃ v, e = .returned (.tuple #[v, .int .i64 0]) ∧ w'.ownsRow w.heap.size 24 2 v (coverV N zs).length (encC (coverV N zs))) → CoverR 24 N zs w e w') := fun hf e w' h => Or.inl ⟨hf, hn, h⟩
    clear hn
    go_enter Try.func26, Try.ntmps26
    go_wp2_with fail
    refine (hsz _).mono ?_
    rintro e w' ⟨rfl, hw'⟩
    subst hw'
    go_wp2
    go_loopw [14] (fun i wr => ∃ k : Nat, k ≤ len ∧ i = .int .i64 k ∧ Hid (fitsTo N zs k) ∧ BRow wr w'.heap.size 78 (bsTo zs k) ∧ Below w'.heap.size w' wr) (fun i _ => len - (intOf i).toNat)
    case atStart => exact ⟨0, Nat.zero_le _, rfl, fitsTo_zero _ _, hR0, hbe0⟩
    case round =>
      obtain ⟨k, hk, rfl, HF, hR, hbw⟩ := hrel
      clear hR0 hbe0
      by_cases hlt : k < len
      · have hSr := hS.up hbw
        have hck := hSr.cell k hlt
        have hzk : 0 ≤ zs.getD k 0 ∧ zs.getD k 0 < 256 := by
          have e : zs.getD k 0 = zs[k]'(by omega) := by simp [List.getD_eq_getElem?_getD, List.getElem?_eq_getElem (show k < zs.length by omega)]
          rw [e]; exact hz _ (List.getElem_mem _)
        have HS : Hid _ := bsTo_succ (zs := zs) (k := k) (by omega)
        have HFs : Hid (fitsB N (zs.getD k 0) = true → fitsTo N zs (k + 1)) := fun h => fitsTo_succ (by omega) HF.out h
        have HFb : Hid (fitsB N (zs.getD k 0) = false → fitsAll N zs ≠ true) := fun h => fitsAll_bad (by omega) h
        have hlen := bsTo_len zs k
        generalize zs.getD k 0 = z at *
        have hft := fun w => Try.fits_any (N : Int) z w
        have hix := Try.idxMem w'.heap.size z hzk.1 hzk.2
        have hcz := hR.cell (i := z.toNat) (by omega)
        have hfz := hR.fz z.toNat
        have hR2 := hR.set z.toNat true
        rw [← HS.out] at hR2
        have hb2 := hbw.setCell (p := ⟨w'.heap.size, z.toNat, none⟩) (Nat.le_refl _) (.bool true)
        clear hSr
        cases hq : fitsB (N : Int) z with
        | false =>
          rw [hq] at hft
          have HF2 : Hid _ := HFb.out hq
          clear hq HFs HFb
          go_wp2_with fail
          refine (hft _).mono ?_
          rintro e w2 ⟨rfl, hw2⟩
          subst hw2
          go_wp2
          go_ret2
          exact ⟨HRb.out HF2.out _ _ rfl, hbw⟩
        | true =>
          rw [hq] at hft
          have HF2 : Hid _ := HFs.out hq
          clear hq HFs HFb
          go_wp2_with fail
          refine (hft _).mono ?_
          rintro e w2 ⟨rfl, hw2⟩
          subst hw2
          go_wp2
          go_roundw
          case rel => exact ⟨k + 1, by omega, by go_num, HF2, hR2, hb2⟩
          case measure => simp [intOf]; omega
      · obtain rfl : k = len := by omega
        have HFA : Hid (fitsAll N zs = true) := fitsTo_end (by rw [hl0]; exact HF.out)
        have hcv := Try.cover_any N w'.heap.size (bsTo zs k) hN (bsTo_len zs k) N 0 0 0 wr (by omega) (by decide) (by decide) says_zero hR
        have HV : Hid (coverF N (innB (bsTo zs k)) N 0 (0, 0) = coverV N zs) := by show _ = _; unfold coverV coverC; rw [hl0]
        rw [HV.out] at hcv
        unfold MinusR at hcv
        have hg := HRg.out HFA.out
        generalize coverV N zs = cs at *
        clear HV HRb HRg HF HFA
        go_wp2_with fail
        refine hcv.mono ?_
        rintro e w2 ⟨⟨v, rfl, hown⟩, hw2⟩
        have HO : Hid _ := owns_base hown hbw.size
        have hb2 := below_step hbw hw2
        have HG : Hid _ := hg
        clear hown hg
        go_wp2
        go_ret2
        exact ⟨HG.out _ _ ⟨v, rfl, HO.out⟩, hb2⟩
  · rw [decide_eq_false hn] at hsz
    have HR : Hid (∀ e w', e = .returned (.tuple #[.slice none 0 0, .int .i64 2]) → CoverR 24 n zs w e w') := fun e w' h => Or.inr ⟨fun h2 => hn h2.2, h⟩
    go_enter Try.func26, Try.ntmps26
    go_wp2_with fail
    refine (hsz _).mono ?_
    rintro e w' ⟨rfl, rfl⟩
    go_wp2
    go_ret2
    exact ⟨HR.out _ _ rfl, Below.refl _ _⟩
end Go.Proofs.Ytnaalbcbmhpfjaa
