/- The document's Print. -/
import Derived.Test.YtnaalbcbmhpfjaaWCubR5
namespace Go.Proofs.Ytnaalbcbmhpfjaa
open Go.RowKit Go.Maps

theorem Try.append_byte {w : World} {ops : Array Oper} {rest : List Oper} {o : Oper} {a : Act} {Q : Exit → Act → World → Prop} (hgd : o.guard = none) (s x : Operand)
    (ho : o.op = .call { callee := .builtin .append, args := #[s, x], argTypes := #[75, 75] }) (base : Nat)
    (v : Value) (n : Nat) (zs : List Int) (hs : a.eval s = v) (hown : w.ownsRow base 5 1 v n (zs.map (Value.int .u8))) (g' : Nat) (z : Int) (hx : a.eval x = .slice (some ⟨g', 0, none⟩) 1 1) (hc : w.cell? ⟨g', 0, none⟩ = some (.int .u8 z))
    (hn : n + 1 ≤ 140737488355328) (hbase : base ≤ w.heap.size)
    (h : ∀ v' w', w'.ownsRow base 5 1 v' (n + 1) ((zs ++ [z]).map (Value.int .u8)) → w.grownBy w' v.ownBlock → wpList Try.prog ops Q rest (a.put o.dst v') w') : wpList Try.prog ops Q (o :: rest) a w := by
  obtain ⟨i, hi, hz0, hz1, hz2⟩ := info_parts Try.infoByte
  refine wpList_append_own w hgd s x 75 ho base 5 i _ 1 1 Try.underlying75 hi hz0 hz1 hz2 rfl (by decide) v n _ hs hown ⟨g', 0, none⟩ 1 1 [.int .u8 z] hx rfl ?_ (ints_oneCell .u8 [z]) (by unfold maxLen; omega) (by omega) hbase ?_
  · intro j u hj
    match j with
    | 0 => simp at hj; rw [← hj, add_plain]; exact hc
    | j + 1 => simp at hj
  · intro v' w' h1 h2 _
    exact h v' w' (by rw [List.map_append]; exact h1) h2
/-- string(list of bytes of the call's own). -/
theorem Try.convOwn {w : World} {base n : Nat} {v : Value} {l : List UInt8} (h : w.ownsRow base 5 1 v n ((l.map fun b => (b.toNat : Int)).map (Value.int .u8))) : (convert 75 9 v).run Try.prog w = .ok (.string ⟨l.toArray⟩) w := by
  have hl : l.length = n := by have := h.1; simpa using this
  rcases h.2 with ⟨rfl, h0⟩ | ⟨g, cap, cur, hv, hg, hcell, hnc, hcm, hsz, htk⟩
  · obtain rfl : l = [] := List.eq_nil_of_length_eq_zero (by omega)
    rw [run_convert_bytes_string w 75 9 5 none 0 0 Try.underlying75 Try.underlying5 Try.underlying9]
    simp [Conv.bytesToString]
    rfl
  · subst hv hl
    refine run_convert_bytes_back w 75 9 5 ⟨g, 0, none⟩ cap l Try.underlying75 Try.underlying5 Try.underlying9 (fun j hj => ?_)
    rw [add_plain, Nat.zero_add]
    have hk : (cur.toList.take (l.length * 1))[j]? = some (.int .u8 (l[j].toNat : Int)) := by rw [htk]; simp [hj]
    rw [List.getElem?_take, if_pos (by omega)] at hk
    simp [World.cell?, hcell]
    simpa using hk
def sgTo (c : Cu) (k : Nat) : List Int := (List.range k).map (signI c)
theorem sgTo_succ (c : Cu) (k : Nat) : sgTo c (k + 1) = sgTo c k ++ [signI c k] := by simp [sgTo, List.range_succ]
theorem sgTo_end (n : Nat) (c : Cu) : sgTo c n = (textC n c).map fun b => (b.toNat : Int) := by
  simp [sgTo, textC]; intro a _; rfl
theorem signI_f {c : Cu} {p : Nat} (h : c.1.testBit p = false) : signI c p = 45 := by unfold signI signC; rw [h]; rfl
theorem signI_t {c : Cu} {p : Nat} (h : c.1.testBit p = true) (h2 : c.2.testBit p = true) : signI c p = 49 := by unfold signI signC; rw [h, h2]; rfl
theorem signI_z {c : Cu} {p : Nat} (h : c.1.testBit p = true) (h2 : c.2.testBit p = false) : signI c p = 48 := by unfold signI signC; rw [h, h2]; rfl

set_option maxRecDepth 100000 in
set_option maxHeartbeats 1000000 in
theorem Try.rprint_any (n : Int) (a b : Nat) (w : World) (ha : a < 256) (hb : b < 256) :
    Calls Try.prog 25 #[.int .i64 n, .agg #[.int .u8 (a : Int), .int .u8 (b : Int)]] w fun e w' => PrintCR n (a, b) e ∧ Below w.heap.size w w' := by
  have hck := fun w => Try.rcheck_any n a b w ha hb
  by_cases h0 : errC n (a, b) = 0
  · obtain ⟨N, rfl, hN, ho⟩ := errC_zero h0
    have HR : Hid (PrintCR N (a, b) = fun e => e = .returned (.tuple #[.string ⟨(textC N (a, b)).toArray⟩, .int .i64 0])) := by
      show _ = _; unfold PrintCR printV; rw [h0, if_pos rfl]; rfl
    rw [h0] at hck
    clear h0 ho
    go_enter Try.func25, Try.ntmps25
    go_wp2_with fail
    refine (hck _).mono ?_
    rintro e w1 ⟨rfl, hw1⟩
    have hB1 := (Blk.new w 24 a b).up hw1
    have hb1 := below_step (below_new _ _) hw1
    have hgs : w.heap.size < w1.heap.size := hB1.lt
    clear hw1 hck
    go_wp2
    go_loopw [7, 8] (fun v i wr => ∃ k : Nat, k ≤ N ∧ i = .int .i64 k ∧ Hid (wr.ownsRow w1.heap.size 5 1 v k ((sgTo (a, b) k).map (Value.int .u8))) ∧ w1.heap.size ≤ wr.heap.size ∧ Blk wr w.heap.size 24 a b ∧ Below w.heap.size w wr) (fun _ i _ => N - (intOf i).toNat)
    case atStart => exact ⟨0, Nat.zero_le _, rfl, ownsI_nil _ _ _, Nat.le_refl _, hB1, hb1⟩
    case round =>
      obtain ⟨k, hk, rfl, HO, hsw, hB, hbw⟩ := hrel
      clear hB1 hb1
      by_cases hlt : k < N
      · have HSC : Hid _ := sgTo_succ (a, b) k
        have h00 := hB.c0
        have h01 := hB.c1
        cases hqa : a.testBit k with
        | false =>
          have hs1 := fun w => Try.said_f (b := b) hqa w ha hb (by omega)
          have HT : Hid (sgTo (a, b) (k + 1) = sgTo (a, b) k ++ [45]) := by show _ = _; rw [HSC.out, signI_f (c := (a, b)) hqa]
          clear hqa HSC
          go_wp2_with fail
          refine (hs1 _).mono ?_
          rintro e w4 ⟨rfl, hw4⟩
          have hB4 := hB.up hw4
          have HO4 : Hid _ := owns_up HO.out hw4
          have hb4 := below_step hbw hw4
          have hsw4 := Nat.le_trans hsw hw4.size
          have hrow := own_ge HO4.out
          clear hw4 hB HO hbw h00 h01 hsw
          go_wp2_with (at_builtin; refine Try.append_byte rfl _ _ rfl w1.heap.size _ k (sgTo (a, b) k) rfl (World.ownsRow.alloc HO4.out _) w4.heap.size 45 rfl (by simp [go_sem]) (by omega) (by simp; omega) ?_)
          intro v5 w5 hown5 hgr5
          have hB5 := (hB4.al (.cells #[.int .u8 45] 5)).grown hgr5 (fun e => by have := hrow _ e; omega)
          have hb5 : Below w.heap.size w w5 := (hb4.alloc hb4.size _).grown hgr5 (by simp; have := hb4.size; omega) (fun j e => by have := hrow j e; omega)
          have hsw5 : w1.heap.size ≤ w5.heap.size := by have := hgr5.size; simp at this; omega
          have HO5 : Hid (w5.ownsRow w1.heap.size 5 1 v5 (k + 1) ((sgTo (a, b) (k + 1)).map (Value.int .u8))) := by rw [HT.out]; show World.ownsRow _ _ _ _ _ _ _; rw [List.map_append]; exact hown5
          clear hown5 hgr5 hB4 hb4 HO4 hsw4 hrow
          go_wp2
          go_roundw
          case rel => exact ⟨k + 1, by omega, by go_num, HO5, hsw5, hB5, hb5⟩
          case measure => simp [intOf]; omega
        | true =>
          cases hqb : b.testBit k with
          | true =>
            have hs1 := fun w => Try.said_t (b := b) hqa true hqb w ha hb (by omega)
            have HT : Hid (sgTo (a, b) (k + 1) = sgTo (a, b) k ++ [49]) := by show _ = _; rw [HSC.out, signI_t (c := (a, b)) hqa hqb]
            clear hqa hqb HSC
            simp only [if_true] at hs1
            go_wp2_with fail
            refine (hs1 _).mono ?_
            rintro e w4 ⟨rfl, hw4⟩
            have hB4 := hB.up hw4
            have HO4 : Hid _ := owns_up HO.out hw4
            have hb4 := below_step hbw hw4
            have hsw4 := Nat.le_trans hsw hw4.size
            have hrow := own_ge HO4.out
            clear hw4 hB HO hbw h00 h01 hsw
            go_wp2_with (at_builtin; refine Try.append_byte rfl _ _ rfl w1.heap.size _ k (sgTo (a, b) k) rfl (World.ownsRow.alloc HO4.out _) w4.heap.size 49 rfl (by simp [go_sem]) (by omega) (by simp; omega) ?_)
            intro v5 w5 hown5 hgr5
            have hB5 := (hB4.al (.cells #[.int .u8 49] 5)).grown hgr5 (fun e => by have := hrow _ e; omega)
            have hb5 : Below w.heap.size w w5 := (hb4.alloc hb4.size _).grown hgr5 (by simp; have := hb4.size; omega) (fun j e => by have := hrow j e; omega)
            have hsw5 : w1.heap.size ≤ w5.heap.size := by have := hgr5.size; simp at this; omega
            have HO5 : Hid (w5.ownsRow w1.heap.size 5 1 v5 (k + 1) ((sgTo (a, b) (k + 1)).map (Value.int .u8))) := by rw [HT.out]; show World.ownsRow _ _ _ _ _ _ _; rw [List.map_append]; exact hown5
            clear hown5 hgr5 hB4 hb4 HO4 hsw4 hrow
            go_wp2
            go_roundw
            case rel => exact ⟨k + 1, by omega, by go_num, HO5, hsw5, hB5, hb5⟩
            case measure => simp [intOf]; omega
          | false =>
            have hs1 := fun w => Try.said_t (b := b) hqa false hqb w ha hb (by omega)
            have HT : Hid (sgTo (a, b) (k + 1) = sgTo (a, b) k ++ [48]) := by show _ = _; rw [HSC.out, signI_z (c := (a, b)) hqa hqb]
            clear hqa hqb HSC
            simp only [Bool.false_eq_true, if_false] at hs1
            go_wp2_with fail
            refine (hs1 _).mono ?_
            rintro e w4 ⟨rfl, hw4⟩
            have hB4 := hB.up hw4
            have HO4 : Hid _ := owns_up HO.out hw4
            have hb4 := below_step hbw hw4
            have hsw4 := Nat.le_trans hsw hw4.size
            have hrow := own_ge HO4.out
            clear hw4 hB HO hbw h00 h01 hsw
            go_wp2_with (at_builtin; refine Try.append_byte rfl _ _ rfl w1.heap.size _ k (sgTo (a, b) k) rfl (World.ownsRow.alloc HO4.out _) w4.heap.size 48 rfl (by simp [go_sem]) (by omega) (by simp; omega) ?_)
            intro v5 w5 hown5 hgr5
            have hB5 := (hB4.al (.cells #[.int .u8 48] 5)).grown hgr5 (fun e => by have := hrow _ e; omega)
            have hb5 : Below w.heap.size w w5 := (hb4.alloc hb4.size _).grown hgr5 (by simp; have := hb4.size; omega) (fun j e => by have := hrow j e; omega)
            have hsw5 : w1.heap.size ≤ w5.heap.size := by have := hgr5.size; simp at this; omega
            have HO5 : Hid (w5.ownsRow w1.heap.size 5 1 v5 (k + 1) ((sgTo (a, b) (k + 1)).map (Value.int .u8))) := by rw [HT.out]; show World.ownsRow _ _ _ _ _ _ _; rw [List.map_append]; exact hown5
            clear hown5 hgr5 hB4 hb4 HO4 hsw4 hrow
            go_wp2
            go_roundw
            case rel => exact ⟨k + 1, by omega, by go_num, HO5, hsw5, hB5, hb5⟩
            case measure => simp [intOf]; omega
      · obtain rfl : k = N := by omega
        rw [sgTo_end] at HO
        have hcv := Try.convOwn HO.out
        clear HO
        go_wp2
        go_ret2
        exact ⟨by rw [HR.out]; rfl, hbw⟩
  · have hne : (errC n (a, b) != 0) = true := by simpa using h0
    have HR : Hid (PrintCR n (a, b) = fun e => e = .returned (.tuple #[.string ByteArray.empty, .int .i64 (errC n (a, b))])) := by
      show _ = _; unfold PrintCR printV; rw [if_neg h0]
    clear h0
    generalize errC n (a, b) = E at *
    go_enter Try.func25, Try.ntmps25
    go_wp2_with fail
    refine (hck _).mono ?_
    rintro e w1 ⟨rfl, hw1⟩
    go_wp2
    go_ret2
    exact ⟨by rw [HR.out]; rfl, below_step (below_new _ _) hw1⟩
end Go.Proofs.Ytnaalbcbmhpfjaa
