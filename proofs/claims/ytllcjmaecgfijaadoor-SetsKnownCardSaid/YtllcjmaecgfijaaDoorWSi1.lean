/- Package sets over the model: Items, by math/bits' table. -/
import Derived.Test.YtllcjmaecgfijaaDoorWSt4
import Derived.Test.YtllcjmaecgfijaaDoorKsR
import Derived.Laws.BitsAllLaws
namespace Go.Proofs.YtllcjmaecgfijaaDoor
open Go.RowKit Go.Maps

/-- The table of math/bits, in its variable. -/
def Tab64 (w : World) : Prop := ∀ j, j < 64 → w.cell? ⟨0, j, none⟩ = some (.int .u8 ((Lib.deBruijn64tab.getD j 0 : Nat) : Int))
theorem Tab64.up {w w' : World} (h : Tab64 w) (hb : Below w.heap.size w w') : Tab64 w' := fun j hj => kept_cell (h j hj) hb
theorem Tryd.tz_core (x k idx : Nat) (w : World) (hx0 : ((x : Int) == 0) = false)
    (key : IntKind.u64.wrap (bits BinOp.and IntKind.u64 (x : Int) (IntKind.u64.wrap (-(x : Int))) * 285870213051353865) / 288230376151711744 = (idx : Int))
    (hi : idx < 64) (hk : k < 64) (hcell : w.cell? ⟨0, idx, none⟩ = some (.int .u8 (k : Int))) :
    Calls Tryd.prog 18 #[.int .u64 (x : Int)] w fun e w' => e = .returned (.int .i64 (k : Int)) ∧ w' = w := by
  go_enter Tryd.func18, Tryd.ntmps18
  go_wp2_with (simp only [key])
  go_ret
  exact ⟨rfl, rfl⟩
theorem tz_key (x a : Nat) (hx : x < 18446744073709551616) (hx0 : x ≠ 0) (hlow : x &&& (18446744073709551616 - x) = a) :
    IntKind.u64.wrap (bits BinOp.and IntKind.u64 (x : Int) (IntKind.u64.wrap (-(x : Int))) * 285870213051353865) / 288230376151711744 = ((a * 285870213051353865 % 18446744073709551616 / 288230376151711744 : Nat) : Int) := by
  have e1 : IntKind.u64.wrap (-(x : Int)) = ((18446744073709551616 - x : Nat) : Int) := by rw [IntKind.wrap_u64]; omega
  rw [e1, u64_and_nat x _ hx (by omega), hlow, IntKind.wrap_u64]
  omega
theorem Tryd.tz_any (x : Nat) (hx : x < 2 ^ 64) (hx0 : x ≠ 0) (w : World) (hT : Tab64 w) :
    Calls Tryd.prog 18 #[.int .u64 (x : Int)] w fun e w' => e = .returned (.int .i64 ((Lib.ctz 64 x : Nat) : Int)) ∧ w' = w := by
  obtain ⟨hlow, hk⟩ := Lib.lowest_bit 64 x hx0 hx
  obtain ⟨hi, htab⟩ := Lib.deBruijn64_at _ hk
  have hcell := hT _ hi
  rw [htab] at hcell
  exact Tryd.tz_core x _ _ w (by simp; omega) (tz_key x _ hx hx0 hlow) hi hk hcell
theorem Tryd.infoI64 : (Tryd.prog.info? 3).map (fun i => (i.zero, i.size, i.bytes)) = some (some (.int .i64 0), 1, 8) := by kernel_rfl
theorem Tryd.sizeI64 : (Tryd.prog.info? 3).map (·.size) = some 1 := by kernel_rfl
/-- One number more behind a list of the call's own. -/
theorem Tryd.append_i {w : World} {ops : Array Oper} {rest : List Oper} {o : Oper} {a : Act} {Q : Exit → Act → World → Prop} (hgd : o.guard = none) (s x : Operand)
    (ho : o.op = .call { callee := .builtin .append, args := #[s, x], argTypes := #[23, 23] }) (base : Nat)
    (v : Value) (n : Nat) (zs : List Int) (hs : a.eval s = v) (hown : w.ownsRow base 3 1 v n (zs.map (Value.int .i64))) (g' : Nat) (z : Int) (hx : a.eval x = .slice (some ⟨g', 0, none⟩) 1 1) (hc : w.cell? ⟨g', 0, none⟩ = some (.int .i64 z))
    (hn : n + 1 ≤ 2000000) (hbase : base ≤ w.heap.size)
    (h : ∀ v' w', w'.ownsRow base 3 1 v' (n + 1) ((zs ++ [z]).map (Value.int .i64)) → w.grownBy w' v.ownBlock → wpList Tryd.prog ops Q rest (a.put o.dst v') w') : wpList Tryd.prog ops Q (o :: rest) a w := by
  obtain ⟨i, hi, hz0, hz1, hz2⟩ := info_parts Tryd.infoI64
  refine wpList_append_own w hgd s x 23 ho base 3 i _ 1 8 Tryd.underlying23 hi hz0 hz1 hz2 rfl (by decide) v n _ hs hown ⟨g', 0, none⟩ 1 1 [.int .i64 z] hx rfl ?_ (fun u hu => by simp at hu; subst hu; rfl) (by unfold maxLen; omega) (by omega) hbase ?_
  · intro j u hj
    match j with
    | 0 => simp at hj; rw [← hj, add_plain]; exact hc
    | j + 1 => simp at hj
  · intro v' w' h1 h2 _
    exact h v' w' (by rw [List.map_append]; exact h1) h2
/-- A list of numbers. -/
abbrev ISl (w : World) (a : Option Addr) (len cap : Nat) (l : List Nat) : Prop := IntSl Tryd.prog 23 .i64 w a len cap (iU l)
theorem ownN_sl {w : World} {base n : Nat} {v : Value} {l : List Nat} (h : w.ownsRow base 3 1 v n ((iU l).map (Value.int .i64))) : ∃ a cap, v = .slice a n cap ∧ ISl w a n cap l := by
  obtain ⟨hl, h⟩ := h
  simp at hl
  rcases h with ⟨rfl, rfl⟩ | ⟨g, cap, cur, rfl, hg, hcell, hnc, hcm, hsz, htk⟩
  · have : l = [] := List.eq_nil_of_length_eq_zero hl
    subst this
    exact ⟨none, 0, rfl, ⟨rfl, Nat.le_refl _, Nat.zero_le _, fun m k w hk hm => absurd hk (by omega), fun k hk => absurd hk (by omega), fun k hk => absurd hk (by omega), fun _ => rfl⟩⟩
  · have had : ∀ k, adOf (some ⟨g, 0, none⟩) k = ⟨g, k, none⟩ := fun k => by simp [adOf, add_plain]
    have hlt : g < w.heap.size := (Array.getElem?_eq_some_iff.1 hcell).1
    refine ⟨some ⟨g, 0, none⟩, cap, rfl, ⟨by simpa using hl, hnc, hcm, fun m k w hk hm => idx_of Tryd.underlying23 Tryd.sizeI64 (by simp) k w hk, fun k hk => ?_, fun k hk => by rw [had]; exact hlt, by simp⟩⟩
    rw [had]
    have hk2 : (cur.toList.take (n * 1))[k]? = some (.int .i64 ((iU l).getD k 0)) := by
      rw [htk]; simp [List.getD_eq_getElem?_getD, List.getElem?_eq_getElem (show k < l.length by omega)]
    rw [List.getElem?_take, if_pos (by omega)] at hk2
    simp [World.cell?, hcell]
    simpa using hk2
/-- An answer that is a list of numbers. -/
def IR (r : List Nat) (w : World) (e : Ending) (w' : World) : Prop := ∃ (a : Option Addr) (c : Nat), e = .returned (.slice a r.length c) ∧ ISl w' a r.length c r ∧ Below w.heap.size w w'
set_option maxRecDepth 100000 in
set_option maxHeartbeats 4000000 in
theorem Tryd.items_any (s : Nat) (hs : s < 2 ^ 64) (w : World) (hT : Tab64 w) : Calls Tryd.prog 5 #[.int .u64 (s : Int)] w (IR (itemsL s) w) := by
  have HT : Hid (Tab64 w) := hT
  have Hs : Hid (s < 2 ^ 64) := hs
  clear hT hs
  go_enter Tryd.func5, Tryd.ntmps5
  go_wp2
  go_loopw [3, 4] (fun v r wr => ∃ (x : Nat) (acc : List Nat), r = .int .u64 (x : Int) ∧ Hid (x < 2 ^ 64) ∧ Hid (itemsL s = acc ++ itemsL x) ∧ Hid (wr.ownsRow w.heap.size 3 1 v acc.length ((iU acc).map (Value.int .i64))) ∧ Hid (Below w.heap.size w wr)) (fun _ r _ => (intOf r).toNat)
  case atStart => exact ⟨s, [], rfl, Hs, rfl, ⟨rfl, Or.inl ⟨rfl, rfl⟩⟩, Below.refl _ _⟩
  case round =>
    obtain ⟨x, acc, rfl, HX, HE, HO, HB⟩ := hrel
    by_cases h0 : x = 0
    · subst h0
      have HE2 : Hid (itemsL s = acc) := by show _ = _; rw [HE.out, itemsL_zero, List.append_nil]
      obtain ⟨va, vc, rfl, hU⟩ := ownN_sl HO.out
      have HU : Hid _ := hU
      clear hU HO HE
      go_wp2
      go_ret
      exact ⟨va, vc, by rw [HE2.out]; rfl, by rw [HE2.out]; exact HU.out, HB.out⟩
    · have htz := Tryd.tz_any x HX.out h0 wr (HT.out.up HB.out)
      obtain ⟨hk, hb, _⟩ := low_bits x h0 HX.out
      have hlt := dropB_lt hk hb
      have HS := items_step h0 HX.out
      have HE2 : Hid (itemsL s = (acc ++ [Lib.ctz 64 x]) ++ itemsL (dropB x (Lib.ctz 64 x))) := by show _ = _; rw [HE.out, HS]; simp
      have hln : acc.length ≤ 64 := by have := itemsL_len s; rw [HE.out, List.length_append] at this; omega
      have hne : ((x : Int) == 0) = false := by simp; omega
      have hp : 2 ^ Lib.ctz 64 x < 18446744073709551616 := Nat.pow_lt_pow_right (by decide) hk
      have hdr : bits .andNot .u64 (x : Int) (IntKind.u64.wrap ((2 : Int) ^ Lib.ctz 64 x)) = ((dropB x (Lib.ctz 64 x) : Nat) : Int) := by
        have e1 : IntKind.u64.wrap ((2 : Int) ^ Lib.ctz 64 x) = ((2 ^ Lib.ctz 64 x : Nat) : Int) := by
          rw [show (2 : Int) ^ Lib.ctz 64 x = ((2 ^ Lib.ctz 64 x : Nat) : Int) by simp, IntKind.wrap_u64]
          generalize 2 ^ Lib.ctz 64 x = q at *
          omega
        rw [e1]
        exact u64_andNot_nat x _ HX.out hp
      have HX2 : Hid (dropB x (Lib.ctz 64 x) < 2 ^ 64) := Nat.lt_of_le_of_lt (dropB_le _ _) HX.out
      obtain ⟨va, vc, rfl⟩ := own_slU HO.out
      clear HS hb HE HX
      generalize dropB x (Lib.ctz 64 x) = y at *
      generalize Lib.ctz 64 x = k at *
      go_wp2_with fail
      refine htz.mono ?_
      rintro e w3 ⟨rfl, hw⟩
      obtain rfl : wr = w3 := hw.symm
      have HOA : Hid ((wr.alloc (.cells #[.int .i64 (k : Int)] 3)).ownsRow w.heap.size 3 1 (.slice va acc.length vc) acc.length ((iU acc).map (Value.int .i64))) := World.ownsRow.alloc HO.out _
      have HCA : Hid ((wr.alloc (.cells #[.int .i64 (k : Int)] 3)).cell? ⟨wr.heap.size, 0, none⟩ = some (.int .i64 (k : Int))) := cell_row (MapKept.heap_alloc wr _).1 0
      have HWA : Hid (Below w.heap.size w (wr.alloc (.cells #[.int .i64 (k : Int)] 3))) := HB.out.alloc HB.out.size _
      have hszA : w.heap.size ≤ (wr.alloc (.cells #[.int .i64 (k : Int)] 3)).heap.size := HWA.out.size
      have HGE : Hid (∀ q, (Value.slice va acc.length vc).ownBlock = some q → w.heap.size ≤ q) := own_ge HO.out
      clear HO HB htz
      go_wp2_with (at_builtin; refine Tryd.append_i rfl _ _ rfl w.heap.size _ acc.length (iU acc) rfl HOA.out wr.heap.size (k : Int) rfl HCA.out (by omega) hszA ?_)
      intro v7 w7 hown7 hgr7
      have HO7 : Hid (w7.ownsRow w.heap.size 3 1 v7 (acc.length + 1) ((iU acc ++ [(k : Int)]).map (Value.int .i64))) := by show World.ownsRow _ _ _ _ _ _ _; simpa using hown7
      have HW7 : Hid (Below w.heap.size w w7) := HWA.out.grown hgr7 hszA (fun q e => HGE.out q e)
      clear hown7 hgr7 HOA HCA HWA hszA HGE
      go_wp2
      go_roundw
      case rel =>
        refine ⟨y, acc ++ [k], rfl, HX2, HE2, ?_, HW7⟩
        show World.ownsRow _ _ _ _ _ _ _
        rw [List.length_append, iU_snoc]
        exact HO7.out
      case measure => simp [intOf]; omega
end Go.Proofs.YtllcjmaecgfijaaDoor
