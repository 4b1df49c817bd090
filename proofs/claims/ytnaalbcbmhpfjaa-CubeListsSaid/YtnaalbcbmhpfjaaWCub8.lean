/- What the law CubeCover calls besides: Pick, every; which letters are in. -/
import Derived.Test.YtnaalbcbmhpfjaaWCub7
import Derived.Test.YtnaalbcbmhpfjaaWCubP
namespace Go.Proofs.Ytnaalbcbmhpfjaa
open Go.RowKit Go.Maps

theorem Try.pick_any (x : Int) (w : World) :
    Calls Try.prog 33 #[.int .i64 x, .int .i64 9] w fun e w' => (∃ r : Nat, r < 9 ∧ e = .returned (.int .i64 (r : Int))) ∧ w' = w := by
  have h9 : x.tmod 9 = x.tmod 9 := rfl
  have hlo : -9 < x.tmod 9 := Int.lt_tmod_of_pos x (by decide)
  have hhi : x.tmod 9 < 9 := Int.tmod_lt_of_pos x (by decide)
  generalize hy : x.tmod 9 = y at *
  clear h9
  by_cases hn : y < 0
  · have HR : Hid (∃ r : Nat, r < 9 ∧ Ending.returned (.int .i64 (y + 9)) = .returned (.int .i64 (r : Int))) := ⟨(y + 9).toNat, by omega, by rw [Int.toNat_of_nonneg (by omega)]⟩
    go_enter Try.func33, Try.ntmps33
    go_wp2
    go_ret
    exact ⟨HR.out, rfl⟩
  · have HR : Hid (∃ r : Nat, r < 9 ∧ Ending.returned (.int .i64 y) = .returned (.int .i64 (r : Int))) := ⟨y.toNat, by omega, by rw [Int.toNat_of_nonneg (by omega)]⟩
    go_enter Try.func33, Try.ntmps33
    go_wp2
    go_ret
    exact ⟨HR.out, rfl⟩

/-- One letter more behind a list of the call's own. -/
theorem Try.append_let {w : World} {ops : Array Oper} {rest : List Oper} {o : Oper} {a : Act} {Q : Exit → Act → World → Prop} (hgd : o.guard = none) (s x : Operand)
    (ho : o.op = .call { callee := .builtin .append, args := #[s, x], argTypes := #[36, 36] }) (base : Nat)
    (v : Value) (n : Nat) (zs : List Int) (hs : a.eval s = v) (hown : w.ownsRow base 22 1 v n (zs.map (Value.int .u8))) (g' : Nat) (z : Int) (hx : a.eval x = .slice (some ⟨g', 0, none⟩) 1 1) (hc : w.cell? ⟨g', 0, none⟩ = some (.int .u8 z))
    (hn : n + 1 ≤ 140737488355328) (hbase : base ≤ w.heap.size)
    (h : ∀ v' w', w'.ownsRow base 22 1 v' (n + 1) ((zs ++ [z]).map (Value.int .u8)) → w.grownBy w' v.ownBlock → wpList Try.prog ops Q rest (a.put o.dst v') w') : wpList Try.prog ops Q (o :: rest) a w := by
  obtain ⟨i, hi, hz0, hz1, hz2⟩ := info_parts Try.infoLet
  refine wpList_append_own w hgd s x 36 ho base 22 i _ 1 1 Try.underlying36 hi hz0 hz1 hz2 rfl (by decide) v n _ hs hown ⟨g', 0, none⟩ 1 1 [.int .u8 z] hx rfl ?_ (ints_oneCell .u8 [z]) (by unfold maxLen; omega) (by omega) hbase ?_
  · intro j u hj
    match j with
    | 0 => simp at hj; rw [← hj, add_plain]; exact hc
    | j + 1 => simp at hj
  · intro v' w' h1 h2 _
    exact h v' w' (by rw [List.map_append]; exact h1) h2

/-- The letters from M - 1 down, as far as they are laid. -/
def downTo (M k : Nat) : List Int := (List.range k).map fun i => ((M - 1 - i : Nat) : Int)
theorem downTo_succ (M k : Nat) : downTo M (k + 1) = downTo M k ++ [((M - 1 - k : Nat) : Int)] := by simp [downTo, List.range_succ]
theorem downTo_len (M k : Nat) : (downTo M k).length = k := by simp [downTo]
theorem downTo_val {M k : Nat} (h : k ≤ M) : ∀ z ∈ downTo M k, 0 ≤ z ∧ z < M := by
  intro z hz
  unfold downTo at hz
  obtain ⟨i, hi, rfl⟩ := List.mem_map.1 hz
  have := List.mem_range.1 hi
  omega
theorem downTo_mem {M l : Nat} (h : l < M) : (l : Int) ∈ downTo M M := by
  unfold downTo
  exact List.mem_map.2 ⟨M - 1 - l, List.mem_range.2 (by omega), by omega⟩
set_option maxHeartbeats 1000000 in
theorem Try.every_any (N : Nat) (w : World) (hN : N ≤ 8) :
    Calls Try.prog 34 #[.int .i64 (N : Int)] w fun e w' => (∃ v, e = .returned v ∧ w'.ownsRow w.heap.size 22 1 v (2 ^ N) ((downTo (2 ^ N) (2 ^ N)).map (Value.int .u8))) ∧ Below w.heap.size w w' := by
  have hp := powN_bd (n := (N : Int)) (by omega) (by omega)
  have hpw := powN_wrap (n := (N : Int)) (by omega) (by omega)
  have HP : Hid (powN (N : Int) = 2 ^ N) := rfl
  rw [← HP.out]
  generalize powN (N : Int) = M at *
  have hpw2 : wrap64 (2 ^ N) = (M : Int) := hpw
  clear hpw HP
  go_enter Try.func34, Try.ntmps34
  go_wp2
  clear hpw2
  go_loopw [3, 4] (fun v i wr => ∃ k : Nat, k ≤ M ∧ i = .int .i64 ((M : Int) - 1 - k) ∧ Hid (wr.ownsRow w.heap.size 22 1 v k ((downTo M k).map (Value.int .u8))) ∧ Below w.heap.size w wr) (fun _ i _ => (intOf i + 1).toNat)
  case atStart => exact ⟨0, Nat.zero_le _, by go_num, ⟨rfl, Or.inl ⟨rfl, rfl⟩⟩, Below.refl _ _⟩
  case round =>
    obtain ⟨k, hk, rfl, HO, hbw⟩ := hrel
    by_cases hlt : k < M
    · have hge : (0 : Int) ≤ (M : Int) - 1 - k := by omega
      have HD : Hid (downTo M (k + 1) = downTo M k ++ [(M : Int) - 1 - k]) := by
        show _ = _; rw [downTo_succ, show ((M - 1 - k : Nat) : Int) = (M : Int) - 1 - k by omega]
      have hsw := hbw.size
      go_wp2_with (at_builtin; refine Try.append_let rfl _ _ rfl w.heap.size _ k (downTo M k) rfl (World.ownsRow.alloc HO.out _) wr.heap.size ((M : Int) - 1 - k) rfl (by simp [go_sem]) (by omega) (by simp; omega) ?_)
      intro v1 w1 hown1 hgr1
      have hb1 : Below w.heap.size w w1 := (hbw.alloc hsw _).grown hgr1 (by simp; omega) (own_ge HO.out)
      have HO1 : Hid (w1.ownsRow w.heap.size 22 1 v1 (k + 1) ((downTo M (k + 1)).map (Value.int .u8))) := by rw [HD.out]; show World.ownsRow _ _ _ _ _ _ _; rw [List.map_append]; exact hown1
      clear hown1 hgr1 HO hbw
      go_wp2
      go_roundw
      case rel => exact ⟨k + 1, by omega, by go_num, HO1, hb1⟩
      case measure => simp [intOf]; omega
    · obtain rfl : k = M := by omega
      have hneg : decide ((0 : Int) ≤ (k : Int) - 1 - k) = false := decide_eq_false (by omega)
      go_wp2
      go_ret
      exact ⟨⟨_, rfl, HO.out⟩, hbw⟩

/-! ### which letters are in -/
theorem inn_mem (zs : List Int) (hz : ∀ z ∈ zs, 0 ≤ z ∧ z < 256) {l : Nat} (hl : l < 256) : ∀ k, k ≤ zs.length → (innB (bsTo zs k) l = true ↔ (l : Int) ∈ zs.take k) := by
  intro k
  induction k with
  | zero =>
    intro _
    rw [bsTo_zero, List.take_zero]
    unfold innB
    rw [List.getD_eq_getElem?_getD, List.getElem?_replicate, if_pos hl]
    simp
  | succ k ih =>
    intro hk
    have ih' := ih (by omega)
    have e : zs.getD k 0 = zs[k]'(by omega) := by simp [List.getD_eq_getElem?_getD, List.getElem?_eq_getElem (show k < zs.length by omega)]
    have hzk := hz _ (List.getElem_mem (show k < zs.length by omega))
    rw [bsTo_succ (by omega), take_snoc_int (by omega), List.mem_append, ← ih', e]
    unfold innB
    rw [List.getD_eq_getElem?_getD, List.getD_eq_getElem?_getD, List.getElem?_set]
    by_cases hx : (zs[k]'(by omega)).toNat = l
    · rw [if_pos hx]
      have hlt : (zs[k]'(by omega)).toNat < (bsTo zs k).length := by rw [bsTo_len]; omega
      rw [if_pos hlt]
      have : (l : Int) = zs[k]'(by omega) := by omega
      simp [this]
    · rw [if_neg hx]
      have : ¬ (l : Int) = zs[k]'(by omega) := by omega
      simp [this]
theorem cover_down {N : Nat} (hN : N ≤ 8) : coverV N (downTo (2 ^ N) (2 ^ N)) = [(0, 0)] := by
  unfold coverV
  have h256 := pow_256 hN
  apply coverC_all
  intro l hl
  have hv : ∀ z ∈ downTo (2 ^ N) (2 ^ N), 0 ≤ z ∧ z < 256 := fun z hz => by
    have := downTo_val (Nat.le_refl _) z hz; omega
  rw [inn_mem _ hv (by omega) _ (Nat.le_refl _), List.take_length]
  exact downTo_mem hl
theorem fits_lt {N : Nat} (hN : N ≤ 8) {z : Int} (h0 : 0 ≤ z) : fitsB (N : Int) z = decide (z < ((2 ^ N : Nat) : Int)) := by
  obtain ⟨k, rfl⟩ := Int.eq_ofNat_of_zero_le h0
  rw [fits_care, decide_eq_true (by omega), Bool.true_and]
  have hp : 0 < 2 ^ N := Nat.two_pow_pos N
  rw [show ((N : Int).toNat) = N from rfl]
  have : k / 2 ^ N = 0 ↔ k < 2 ^ N := by
    rw [Nat.div_eq_zero_iff]; omega
  apply Bool.eq_iff_iff.2
  rw [decide_eq_true_iff, decide_eq_true_iff, this]; omega
theorem fitsAll_down {N : Nat} (hN : N ≤ 8) : fitsAll (N : Int) (downTo (2 ^ N) (2 ^ N)) = true := by
  unfold fitsAll
  rw [List.all_eq_true]
  intro z hz
  have := downTo_val (Nat.le_refl _) z hz
  rw [fits_lt hN this.1]; exact decide_eq_true this.2
end Go.Proofs.Ytnaalbcbmhpfjaa
