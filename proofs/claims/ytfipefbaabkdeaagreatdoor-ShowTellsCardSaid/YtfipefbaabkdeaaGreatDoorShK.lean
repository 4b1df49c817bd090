/- Package show: any token's text; why tokens have none. -/
import Derived.Test.YtfipefbaabkdeaaGreatDoorWSh2
import Derived.Test.YtfipefbaabkdeaaGreatDoorShM
namespace Go.Proofs.YtfipefbaabkdeaaGreatDoor
open Go.RowKit Go.Maps

theorem snoc_of {st : List Tx} (h : 1 ≤ st.length) : ∃ q x, st = q ++ [x] := by
  have : st ≠ [] := fun e => by subst e; simp at h
  exact ⟨st.dropLast, st.getLast this, (List.dropLast_concat_getLast this).symm⟩
/-- A token's text, and what it leaves on the stack. -/
theorem Tryz.sh_text (b : Nat) (a : Option Addr) (len cap : Nat) (ad : Nat → Addr) (ss : List ByteArray) (op p n : Nat) (st : List Tx) (w : World) (hS : StrSl Tryz.prog 22 w a len cap ad ss) (hO : OpT w) (h : StkAt w b st)
    (ht : takesN (op, p) = some n) (hok : tokS (nms ss) (op, p)) (hn : n ≤ st.length) (hl : st.length ≤ 512) (hx : ∀ x ∈ st, x.1.length ≤ 20000) :
    Calls Tryz.prog 25 #[.pointer (some ⟨b, 0, none⟩), .slice a len cap, .agg #[.int .u8 (op : Int), .int .u8 (p : Int)]] w fun e w' =>
      e = .returned (.string (mkB (putT (nms ss) op p (st.drop (st.length - n))))) ∧ StkAt w' b (st.take (st.length - n)) ∧ w.grownBy w' (some b) := by
  have h2 := takesN_le ht
  have hnl : (nms ss).length = len := by unfold nms; rw [List.length_map]; exact hS.hlen
  match n, h2 with
  | 0, _ =>
    have h5 := takes_zero ht
    have ho : op = 0 ∨ op = 1 ∨ op = 3 ∨ op = 2 ∧ p < len := by
      have h1 := hok.1
      have h2 := hok.2.1
      have h3 := hok.2.2
      dsimp only at h1 h2 h3
      rw [hnl] at h3
      omega
    refine (Tryz.sh_leaf b a len cap ad ss op p w hS hO ho).mono fun e w' ⟨he, hb⟩ => ⟨?_, ?_, grown_of hb _⟩
    · rw [he]; simp [putT]
    · rw [Nat.sub_zero, List.take_of_length_le (Nat.le_refl _)]; exact h.up hb
  | 1, _ =>
    obtain ⟨q, x, rfl⟩ := snoc_of hn
    have e1 : (q ++ [x]).length - 1 = q.length := by simp
    rw [e1, List.drop_left, List.take_left, put_un _ ht]
    exact Tryz.sh_un b a len cap op p q x w h hO (takes_one ht) (by have := hx x (by simp); omega) (by simp at hl; omega)
  | 2, _ =>
    obtain ⟨q, y, rfl⟩ := snoc_of (by omega : 1 ≤ st.length)
    obtain ⟨q, x, rfl⟩ := snoc_of (by simp at hn; omega : 1 ≤ q.length)
    have e1 : (q ++ [x] ++ [y]).length - 2 = q.length := by simp
    have e2 : (q ++ [x] ++ [y]).drop q.length = [x, y] := by simp
    have e3 : (q ++ [x] ++ [y]).take q.length = q := by simp
    rw [e1, e2, e3, put_bin _ ht]
    exact Tryz.sh_bin b a len cap op p q x y w h hO (by have := takes_two ht; omega) (by have := hx x (by simp); omega) (by have := hx y (by simp); omega) (by simp at hl; omega)
def refS (ns : List Bytes) (ts : List Tk) : Int := if ts.any odd4 then 160 else if ts.any (far2 ns) then 2 else 0
def errS (ns : List Bytes) (ts : List Tk) : Int := if ts.any (far2 ns) then 2 else 0
theorem any_next (f : Tk → Bool) {ts : List Tk} {k : Nat} (h : k < ts.length) : (ts.take (k + 1)).any f = ((ts.take k).any f || f ts[k]) := by
  rw [List.take_add_one, List.getElem?_eq_getElem h, List.any_append]; simp only [Option.toList, List.any_cons, List.any_nil, Bool.or_false]
set_option maxRecDepth 100000 in
set_option maxHeartbeats 1000000 in
theorem Tryz.sh_refuse (a : Option Addr) (len cap : Nat) (ad : Nat → Addr) (ss : List ByteArray) (a' : Option Addr) (l' cap' : Nat) (ts : List Tk) (w : World) (hS : StrSl Tryz.prog 22 w a len cap ad ss) (hT : TkSl w a' l' cap' ts) :
    Calls Tryz.prog 24 #[.slice a len cap, .slice a' l' cap'] w fun e w' => e = .returned (.int .i64 (refS (nms ss) ts)) ∧ Below w.heap.size w w' := by
  have hb0 := hT.bd
  have hb1 := hT.hcap
  have hb2 := Nat.le_trans hS.hcap hS.bd
  unfold maxLen at hb0 hb2
  have hnl : (nms ss).length = len := by unfold nms; rw [List.length_map]; exact hS.hlen
  generalize nms ss = ns at *
  go_enter Tryz.func24, Tryz.ntmps24
  go_wp2
  go_loopw [10, 5] (fun i er wr => ∃ k : Nat, k ≤ l' ∧ i = .int .i64 k ∧ er = .int .i64 (errS ns (ts.take k)) ∧ Hid ((ts.take k).any odd4 = false) ∧ Hid (Below w.heap.size w wr)) (fun i _ _ => l' - (intOf i).toNat)
  case atStart => exact ⟨0, Nat.zero_le _, rfl, rfl, rfl, Below.refl _ _⟩
  case round =>
    obtain ⟨k, hk, rfl, rfl, HU, hwr⟩ := hrel
    by_cases hlt : k < l'
    · obtain ⟨g1, o1, s1, hi1, hx0, hx1, hg1, _⟩ := (hT.up hwr.out).at Tryz.underlying23 Tryz.sizeTok k hlt
      have hidx := fun w' => hi1 l' w' hlt
      clear hi1
      have hxl : k < ts.length := by rw [hT.hlen]; exact hlt
      have hok := hT.ok _ (List.getElem_mem hxl)
      have HN : Hid (errS ns (ts.take (k + 1)) = if far2 ns ts[k] then 2 else errS ns (ts.take k)) := by
        show _ = _
        unfold errS; rw [any_next _ hxl]
        cases (ts.take k).any (far2 ns) <;> cases far2 ns ts[k] <;> rfl
      have HA : Hid (odd4 ts[k] = false → (ts.take (k + 1)).any odd4 = false) := fun e => by rw [any_next _ hxl, HU.out, e]; rfl
      have HR : Hid (odd4 ts[k] = true → refS ns ts = 160) := fun e => by unfold refS; rw [if_pos (List.any_eq_true.2 ⟨_, List.getElem_mem hxl, e⟩)]
      generalize errS ns (ts.take k) = er at *
      generalize ts[k] = x at *
      obtain ⟨x0, x1⟩ := x
      dsimp only at hx0 hx1 hok
      by_cases h4 : x0 = 4
      · subst h4
        go_wp2
        go_ret
        exact ⟨by rw [HR.out rfl]; rfl, (below_step hwr.out (below_new _ _))⟩
      · by_cases h5 : x0 = 5
        · subst h5
          go_wp2
          go_ret
          exact ⟨by rw [HR.out rfl]; rfl, (below_step hwr.out (below_new _ _))⟩
        · have HA2 : Hid ((ts.take (k + 1)).any odd4 = false) := HA.out (by simp [odd4, h4, h5])
          have e4 : ((x0 : Int) == 4) = false := by simp; omega
          have e5 : ((x0 : Int) == 5) = false := by simp; omega
          have HX : Hid (far2 ns (x0, x1) = (decide (x0 = 2) && decide (len ≤ x1))) := by show _ = _; unfold far2; rw [hnl]
          by_cases h2 : x0 = 2
          · subst h2
            by_cases hp : len ≤ x1
            · have HE : Hid (errS ns (ts.take (k + 1)) = 2) := by have := HN.out; rw [HX.out] at this; show _ = _; simpa [hp] using this
              have hp' : (len : Int) ≤ (x1 : Int) := by omega
              clear HN HR HA HX
              go_wp2
              go_roundw
              case rel => exact ⟨k + 1, by omega, by go_num, by rw [HE.out], HA2, below_step hwr.out (below_new _ _)⟩
              case measure => simp [intOf]; omega
            · have HE : Hid (errS ns (ts.take (k + 1)) = er) := by have := HN.out; rw [HX.out] at this; show _ = _; simpa [hp] using this
              have hp' : ¬ (len : Int) ≤ (x1 : Int) := by omega
              clear HN HR HA HX
              go_wp2
              go_roundw
              case rel => exact ⟨k + 1, by omega, by go_num, by rw [HE.out], HA2, below_step hwr.out (below_new _ _)⟩
              case measure => simp [intOf]; omega
          · have HE : Hid (errS ns (ts.take (k + 1)) = er) := by have := HN.out; rw [HX.out] at this; show _ = _; simpa [h2] using this
            have e2 : ((x0 : Int) == 2) = false := by simp; omega
            clear HN HR HA HX
            go_wp2
            go_roundw
            case rel => exact ⟨k + 1, by omega, by go_num, by rw [HE.out], HA2, below_step hwr.out (below_new _ _)⟩
            case measure => simp [intOf]; omega
    · have hx : Hid (errS ns (ts.take k) = refS ns ts) := by
        have := HU.out
        rw [List.take_of_length_le (by rw [hT.hlen]; omega)] at this ⊢
        show _ = _
        unfold refS; rw [this]; rfl
      go_wp2
      go_ret
      exact ⟨by rw [← hx.out]; rfl, hwr.out⟩
end Go.Proofs.YtfipefbaabkdeaaGreatDoor
namespace Go.Proofs.YtfipefbaabkdeaaGreatDoor
open Go.RowKit Go.Maps

/-- One text more on a stack of the call's own. -/
theorem Tryz.wp_pc {w : World} {o : Oper} {a : Act} {K : Act → World → Prop} {Q : Exit → Act → World → Prop} (s x : Operand)
    (ho : o.op = .call { callee := .builtin .append, args := #[s, x], argTypes := #[51, 51] }) (base : Nat)
    (v : Value) (st : List Tx) (t : ByteArray) (m : Nat) (g : Nat) (hs : a.eval s = v) (hx : a.eval x = .slice (some ⟨g, 0, none⟩) 1 1) (hown : w.ownsRow base 58 2 v st.length (encX .u8 st))
    (hB : w.heap[g]? = some (.cells #[.string t, .int .u8 (m : Int)] 58 (0, 0))) (hn : st.length ≤ 10000000) (hbase : base ≤ w.heap.size)
    (h : ∀ v' w', w'.ownsRow base 58 2 v' (st.length + 1) (encX .u8 (st ++ [(t.toList, m)])) → w.grownBy w' v.ownBlock → K (a.put o.dst v') w') : o.wp Tryz.prog a w K Q := by
  obtain ⟨i, hi, hz0, hz1, hz2⟩ := info_parts Tryz.infoPc
  have e : encX .u8 [(t.toList, m)] = [.string t, .int .u8 (m : Int)] := by simp [encX, mkB_of]
  refine wp_append_own w s x 51 ho base 58 i _ 2 24 Tryz.underlying51 hi hz0 hz1 hz2 rfl (by decide) v st.length _ hs hown ⟨g, 0, none⟩ 1 1 [.string t, .int .u8 (m : Int)] hx rfl (fun j u hj => ?_) (by rw [← e]; exact encX_one _ _) (by unfold maxLen; omega) (by omega) hbase ?_
  · rw [add_plain, Nat.zero_add, cell_row hB]; simpa using hj
  · intro v' w' h1 h2 _
    exact h v' w' (by rw [encX_append, e]; exact h1) h2
theorem Tryz.stepg_pc {w : World} {ops : Array Oper} {o : Oper} {a : Act} {K : Act → World → Prop} {Q : Exit → Act → World → Prop} {E : Prop} (hw : Region.wanted o (yielded ops a.tmps) = true) (s x : Operand)
    (ho : o.op = .call { callee := .builtin .append, args := #[s, x], argTypes := #[51, 51] }) (base : Nat)
    (v : Value) (st : List Tx) (t : ByteArray) (m : Nat) (g : Nat) (hs : a.eval s = v) (hx : a.eval x = .slice (some ⟨g, 0, none⟩) 1 1) (hown : w.ownsRow base 58 2 v st.length (encX .u8 st))
    (hB : w.heap[g]? = some (.cells #[.string t, .int .u8 (m : Int)] 58 (0, 0))) (hn : st.length ≤ 10000000) (hbase : base ≤ w.heap.size)
    (h : ∀ v' w', w'.ownsRow base 58 2 v' (st.length + 1) (encX .u8 (st ++ [(t.toList, m)])) → w.grownBy w' v.ownBlock → K (a.put o.dst v') w') :
    if Region.wanted o (yielded ops a.tmps) = true then Oper.wp Tryz.prog o a w K Q else E := by
  rw [if_pos hw]
  exact Tryz.wp_pc s x ho base v st t m g hs hx hown hB hn hbase h
theorem sizeOf_run5 {P : Program} {e : TypeId} (h : (P.info? e).map (·.size) = some 5) (w : World) : (sizeOf e).run P w = .ok 5 w := by
  cases hq : P.info? e with
  | none => simp [hq] at h
  | some i => simp [hq] at h; simp [sizeOf, typeInfo, hq, h]
theorem Tryz.sizeOp : (Tryz.prog.info? 55).map (·.size) = some 5 := by kernel_rfl
theorem Tryz.idxShow {op : Nat} (h : op ≤ 23) (w : World) : (Instr.indexAt 56 (.pointer (some ⟨0, 0, none⟩)) (.int .u8 (op : Int))).run Tryz.prog w = .ok (.pointer (some ⟨0, 5 * op, none⟩)) w := by
  have h' : op < 24 := by omega
  simp [Instr.indexAt, run_underlying Tryz.underlying56, asIntOf, sizeOf_run5 Tryz.sizeOp, h', Result.andThen, go_sem, add_plain, Nat.mul_comm]
/-- What a row of texts is, is no token. -/
theorem own_ne {w : World} {base n g : Nat} {v : Value} {st : List Tx} {cs : Array Value} (h : w.ownsRow base 58 2 v n (encX .u8 st)) (hg : w.heap[g]? = some (.cells cs 41 (0, 0))) : v.ownBlock ≠ some g := by
  rcases h.2 with ⟨rfl, _⟩ | ⟨g', cap, cur, rfl, _, hc, _⟩
  · intro e; cases e
  · intro e
    injection e with e
    dsimp only at e
    subst e
    rw [hg] at hc
    injection hc with hc
    injection hc with _ hc _
    exact absurd hc (by decide)
end Go.Proofs.YtfipefbaabkdeaaGreatDoor
