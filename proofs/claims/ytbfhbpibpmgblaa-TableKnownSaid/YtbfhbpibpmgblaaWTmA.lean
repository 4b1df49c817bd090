/- Package table: text, Text. -/
import Derived.Test.YtbfhbpibpmgblaaWTm9
namespace Go.Proofs.Ytbfhbpibpmgblaa
open Go.RowKit Go.Maps

/-- One token more behind a row of the call's own, and where it lies. -/
theorem Try.append_tk1 {w : World} {ops : Array Oper} {rest : List Oper} {o : Oper} {a : Act} {Q : Exit → Act → World → Prop} (hgd : o.guard = none) (s x : Operand)
    (ho : o.op = .call { callee := .builtin .append, args := #[s, x], argTypes := #[29, 29] })
    (v : Value) (n : Nat) (ls : List Tk) (k : Tk) (g : Nat) (hs : a.eval s = v) (hx : a.eval x = .slice (some ⟨g, 0, none⟩) 1 1) (hown : w.ownsRow 0 61 2 v n (encT ls))
    (hB : w.heap[g]? = some (.cells #[.int .u8 (k.1 : Int), .int .u8 (k.2 : Int)] 61 (0, 0))) (hn : n ≤ 1000000)
    (h : ∀ v' w', w'.ownsRow 0 61 2 v' (n + 1) (encT (ls ++ [k])) → w.grownBy w' v.ownBlock → (v'.ownBlock = v.ownBlock ∨ v'.ownBlock = some w.heap.size) → wpList Try.prog ops Q rest (a.put o.dst v') w') : wpList Try.prog ops Q (o :: rest) a w := by
  obtain ⟨i, hi, hz0, hz1, hz2⟩ := info_parts Try.infoTok
  refine wpList_append_own_at w hgd s x 29 ho 0 61 i _ 2 2 Try.underlying29 hi hz0 hz1 hz2 rfl (by decide) v n _ hs hown ⟨g, 0, none⟩ 1 1 (encT [k]) hx rfl (fun j u hj => ?_) (encT_one _) (by unfold maxLen; omega) (by omega) (Nat.zero_le _) ?_
  · rw [add_plain, Nat.zero_add, cell_row hB]
    simpa [encT] using hj
  · intro v' w' h1 h2 _ h3
    exact h v' w' (by rw [encT_append]; exact h1) h2 h3
theorem grow_then {w w1 w2 : World} {row row' : Option Nat} (h : w.grownBy w1 row) (k : w1.grownBy w2 row') (hr : ∀ g, row' = some g → row = some g ∨ w.heap.size ≤ g) : w.grownBy w2 row :=
  ⟨k.os.trans h.os, k.tape.trans h.tape, k.output.trans h.output, Nat.le_trans h.size k.size, fun j hj hne => (k.block j (Nat.lt_of_lt_of_le hj h.size) (fun e => by
    rcases hr j e.symm with e' | e'
    · exact hne e'.symm
    · omega)).trans (h.block j hj hne)⟩
theorem below_grow {w w1 : World} (h : Below w.heap.size w w1) (row : Option Nat) : w.grownBy w1 row := ⟨h.os, h.tape, h.output, h.size, fun j hj _ => h.block j hj⟩
/-- What text answers: the item's tokens behind others. -/
def TextC (t : Nat) (items : List It) (i : Int) (A : List Tk) : Prop := ∀ (w : World) (F : Nat → Prop) (v : Value) (ls : List Tk), TabI w F t items → (∀ k, v.ownBlock = some k → ¬ F k) → w.ownsRow 0 61 2 v ls.length (encT ls) → ls.length + A.length ≤ 2048 →
  Calls Try.prog 37 #[.pointer (some ⟨t, 0, none⟩), v, .int .i64 i] w fun e w' => ∃ v', e = .returned v' ∧ w'.ownsRow 0 61 2 v' (ls ++ A).length (encT (ls ++ A)) ∧ w.grownBy w' v.ownBlock ∧ ∀ g, v'.ownBlock = some g → v.ownBlock = some g ∨ w.heap.size ≤ g
theorem Try.ttext_none (t : Nat) (items : List It) : TextC t items (-1) [] := by
  intro w F v ls h hv ho hl
  obtain ⟨a, cap, rfl⟩ := own_slI ho
  have HO : Hid _ := ho
  clear h hv ho hl
  go_enter Try.func37, Try.ntmps37
  go_wp2
  go_ret
  exact ⟨_, rfl, by rw [List.append_nil]; exact HO.out, World.grownBy.refl _ _, fun g hg => Or.inl hg⟩
set_option maxRecDepth 100000 in
set_option maxHeartbeats 4000000 in
theorem Try.ttext_step (t : Nat) (items : List It) (n : Nat) (x : It) (hx : items[n]? = some x) (A B : List Tk) (hA : TextC t items x.a A) (hB : TextC t items x.b B) : TextC t items (n : Int) (A ++ B ++ [(x.op, x.p)]) := by
  intro w F v ls h hv ho hl
  simp only [List.length_append, List.length_cons, List.length_nil] at hl
  obtain ⟨a, cap, rfl⟩ := own_slI ho
  obtain ⟨ai, ci, mb, hr, _⟩ := h.read
  obtain ⟨hi, rfl⟩ := List.getElem?_eq_some_iff.1 hx
  have c1 := hr.c1
  obtain ⟨g, o, hio, q0, q1, q2, q3⟩ := hr.at n hi
  have hn1 : ((n : Int) == -1) = false := by rw [beq_eq_false_iff_ne]; omega
  have hls : ¬ (2048 : Int) < (ls.length : Int) := by omega
  have hlt := own_lt ho
  generalize items[n] = x at *
  obtain ⟨op, p, xa, xb⟩ := x
  dsimp only at q0 q1 q2 q3 hA hB ⊢
  have hb1 := below_new w (.cells #[.int .u8 (op : Int), .int .u8 (p : Int), .int .i64 xa, .int .i64 xb] 49)
  have hrun1 := hA _ F (.slice a ls.length cap) ls (h.up hb1) hv (owns_up ho hb1) (by omega)
  have HB : Hid _ := hB
  have HI1 : Hid _ := h.up hb1
  have HLT : Hid (∀ k, F k → k < w.heap.size) := h.lt
  have HV : Hid (∀ k, (Value.slice a ls.length cap).ownBlock = some k → ¬ F k ∧ k < w.heap.size) := fun k hk => ⟨hv k hk, hlt k hk⟩
  have hbx : (w.alloc (.cells #[.int .u8 (op : Int), .int .u8 (p : Int), .int .i64 xa, .int .i64 xb] 49)).heap[w.heap.size]? = some (.cells #[.int .u8 (op : Int), .int .u8 (p : Int), .int .i64 xa, .int .i64 xb] 49 (0, 0)) := (MapKept.heap_alloc w _).1
  have HBX : Hid _ := hbx
  have HB1 : Hid _ := hb1
  have hs1 : (w.alloc (.cells #[.int .u8 (op : Int), .int .u8 (p : Int), .int .i64 xa, .int .i64 xb] 49)).heap.size = w.heap.size + 1 := by simp
  have HS1 : Hid _ := hs1
  have b2 := cell_row hbx 2
  clear h hv ho hr hx hb1 hlt hA hB hbx hs1
  go_enter Try.func37, Try.ntmps37
  go_wp2_with fail
  refine hrun1.mono ?_
  clear hrun1 b2
  generalize w.alloc (.cells #[.int .u8 (op : Int), .int .u8 (p : Int), .int .i64 xa, .int .i64 xb] 49) = w1 at *
  rintro e w2 ⟨v2, rfl, ho2, hg2, hl2⟩
  have hs1 := HS1.out
  have hs2 := hg2.size
  have hx2 : w2.heap[w.heap.size]? = some (.cells #[.int .u8 (op : Int), .int .u8 (p : Int), .int .i64 xa, .int .i64 xb] 49 (0, 0)) := (hg2.block _ (by omega) (fun e => by have := (HV.out _ e.symm).2; omega)).trans HBX.out
  have hI2 : TabI w2 F t items := HI1.out.far fun k hk => hg2.block k (by have := HLT.out k hk; omega) (fun e => (HV.out k e.symm).1 hk)
  have hv2 : ∀ k, v2.ownBlock = some k → ¬ F k := fun k hk hf => by
    rcases hl2 k hk with e | e
    · exact (HV.out k e).1 hf
    · have := HLT.out k hf; omega
  have hrun2 := HB.out w2 F v2 (ls ++ A) hI2 hv2 ho2 (by simp; omega)
  have b3 : w2.cell? ⟨w.heap.size, 3, none⟩ = some (.int .i64 xb) := cell_row hx2 3
  obtain ⟨L2, hL2⟩ : ∃ L2, (ls ++ A).length = L2 := ⟨_, rfl⟩
  have HL2 : Hid ((ls ++ A).length = L2) := hL2
  rw [hL2] at ho2
  clear hL2
  obtain ⟨a2, k2, rfl⟩ := own_slI ho2
  have HX2 : Hid _ := hx2
  have H2 : Hid _ := And.intro ho2 (And.intro hg2 hl2)
  clear ho2 hg2 hl2 hx2 hI2 hv2 HB
  go_wp2_with fail
  refine hrun2.mono ?_
  rintro e w3 ⟨v3, rfl, ho3, hg3, hl3⟩
  have hs3 := hg3.size
  have hx3 : w3.heap[w.heap.size]? = some (.cells #[.int .u8 (op : Int), .int .u8 (p : Int), .int .i64 xa, .int .i64 xb] 49 (0, 0)) := (hg3.block _ (by omega) (fun e => by
    rcases H2.out.2.2 _ e.symm with h | h
    · have := (HV.out _ h).2; omega
    · omega)).trans HX2.out
  have d0 : w3.cell? ⟨w.heap.size, 0, none⟩ = some (.int .u8 (op : Int)) := cell_row hx3 0
  have d1 : w3.cell? ⟨w.heap.size, 1, none⟩ = some (.int .u8 (p : Int)) := cell_row hx3 1
  obtain ⟨a3, k3, rfl⟩ := own_slI ho3
  have hO4 : (w3.alloc (.cells #[.int .u8 (op : Int), .int .u8 (p : Int)] 61)).ownsRow 0 61 2 (.slice a3 (ls ++ A ++ B).length k3) (ls ++ A ++ B).length (encT (ls ++ A ++ B)) := World.ownsRow.alloc ho3 _
  have hB4 : (w3.alloc (.cells #[.int .u8 (op : Int), .int .u8 (p : Int)] 61)).heap[w3.heap.size]? = some (.cells #[.int .u8 ((op, p).1 : Int), .int .u8 ((op, p).2 : Int)] 61 (0, 0)) := (MapKept.heap_alloc w3 _).1
  have hn4 : (ls ++ A ++ B).length ≤ 1000000 := by simp; omega
  have H3 : Hid _ := And.intro hg3 hl3
  clear hrun2 hg3 hl3 ho3 b3 HX2 hx3
  generalize hLL : (ls ++ A ++ B).length = L at *
  have HLL : Hid ((ls ++ A ++ B).length = L) := hLL
  clear hLL
  go_wp2_with (at_builtin; refine Try.append_tk1 rfl _ _ rfl _ L (ls ++ A ++ B) (op, p) w3.heap.size rfl rfl hO4 hB4 hn4 ?_)
  intro v4 w4 hown4 hgr4 hloc4
  have g1 := below_grow HB1.out (Value.slice a ls.length cap).ownBlock
  have g2 := grow_then g1 H2.out.2.1 (fun g hg => Or.inl hg)
  have l2 : ∀ g, (Value.slice a2 L2 k2).ownBlock = some g → (Value.slice a ls.length cap).ownBlock = some g ∨ w.heap.size ≤ g := fun g hg => by
    rcases H2.out.2.2 g hg with e | e
    · exact Or.inl e
    · right; omega
  have g3 := grow_then g2 H3.out.1 l2
  have l3 : ∀ g, (Value.slice a3 L k3).ownBlock = some g → (Value.slice a ls.length cap).ownBlock = some g ∨ w.heap.size ≤ g := fun g hg => by
    rcases H3.out.2 g hg with e | e
    · exact l2 g e
    · right; omega
  have hbn := below_new w3 (.cells #[.int .u8 (op : Int), .int .u8 (p : Int)] 61)
  have hsn := hbn.size
  have g4 := grow_then (grow_then g3 (below_grow hbn none) (fun g hg => by cases hg)) hgr4 l3
  have HFIN : Hid _ := And.intro g4 (show ∀ g, v4.ownBlock = some g → (Value.slice a ls.length cap).ownBlock = some g ∨ w.heap.size ≤ g from fun g hg => by
    rcases hloc4 with e | e
    · exact l3 g (e ▸ hg)
    · rw [e] at hg; injection hg with hg; right; omega)
  have HOWN : Hid (w4.ownsRow 0 61 2 v4 (ls ++ (A ++ B ++ [(op, p)])).length (encT (ls ++ (A ++ B ++ [(op, p)])))) := by
    show World.ownsRow _ _ _ _ _ _ _
    have hLe : (ls ++ (A ++ B ++ [(op, p)])).length = L + 1 := by
      have := HLL.out
      simp at this ⊢
      omega
    rw [hLe, show ls ++ (A ++ B ++ [(op, p)]) = ls ++ (A ++ (B ++ [(op, p)])) by simp]
    exact hown4
  clear g1 g2 g3 g4 l2 l3 hbn hown4 hgr4 hloc4 hO4 hB4
  go_wp2
  go_ret
  exact ⟨v4, rfl, HOWN.out, HFIN.out⟩
theorem Try.ttext_rep (t : Nat) (items : List It) : ∀ {n : Nat} {T : Tr}, Rep items n T → TextC t items (n : Int) T.flat
  | n, .leaf k, .leaf h => by
    have := Try.ttext_step t items n _ h [] [] (Try.ttext_none t items) (Try.ttext_none t items)
    exact this
  | n, .un k c, .un (m := m) h _ hc => by
    have := Try.ttext_step t items n _ h c.flat [] (Try.ttext_rep t items hc) (Try.ttext_none t items)
    rw [List.append_nil] at this
    exact this
  | n, .bin k c d, .bin (m := m) (l := l) h _ _ hc hd => Try.ttext_step t items n _ h c.flat d.flat (Try.ttext_rep t items hc) (Try.ttext_rep t items hd)
set_option maxHeartbeats 1000000 in
theorem Try.tText_any {w : World} {F : Nat → Prop} {t : Nat} {items : List It} (n : Nat) (T : Tr) (h : TabI w F t items) (hR : Rep items n T) (hl : T.flat.length ≤ 2048) :
    Calls Try.prog 18 #[.pointer (some ⟨t, 0, none⟩), .int .i64 (n : Int)] w fun e w' => ∃ a cap, e = .returned (.tuple #[.slice a T.flat.length cap, .int .i64 0]) ∧ w'.ownsRow w.heap.size 61 2 (.slice a T.flat.length cap) T.flat.length (encT T.flat) ∧ Below w.heap.size w w' := by
  obtain ⟨ai, ci, mb, hr, _⟩ := h.read
  have hf := Try.tref_ok hr n hR.lt
  have ht := Try.ttext_rep t items hR w F (.slice none 0 0) [] h (fun k hk => by cases hk) ⟨rfl, Or.inl ⟨rfl, rfl⟩⟩ (by simpa using hl)
  simp only [List.nil_append] at ht
  have hl' : ¬ (2048 : Int) < (T.flat.length : Int) := by omega
  clear h hr hR
  generalize T.flat = L at *
  go_enter Try.func18, Try.ntmps18
  go_wp2_with fail
  refine hf.mono ?_
  rintro e w1 ⟨rfl, hw1⟩
  obtain rfl := hw1.symm
  go_wp2_with fail
  refine ht.mono ?_
  rintro e w2 ⟨v, rfl, ho, hg, hloc⟩
  obtain ⟨a, cap, rfl⟩ := own_slI ho
  have HFIN : Hid (w2.ownsRow w.heap.size 61 2 (.slice a L.length cap) L.length (encT L) ∧ Below w.heap.size w w2) := by
    refine ⟨⟨ho.1, ho.2.imp id ?_⟩, hg.os, hg.tape, hg.output, hg.size, fun k hk => hg.block k hk (fun e => by cases e)⟩
    rintro ⟨g, cp, cur, e, _, r⟩
    refine ⟨g, cp, cur, e, ?_, r⟩
    rcases hloc g (by rw [e]; rfl) with e' | e'
    · cases e'
    · exact e'
  clear hf ht ho hg hloc
  go_wp2
  go_ret2
  exact ⟨a, cap, rfl, HFIN.out⟩
theorem Try.tText_miss {w : World} {F : Nat → Prop} {t : Nat} {items : List It} (i : Int) (h : TabI w F t items) (hi : i < 0 ∨ (items.length : Int) ≤ i) :
    Calls Try.prog 18 #[.pointer (some ⟨t, 0, none⟩), .int .i64 i] w fun e w' => e = .returned (.tuple #[.slice none 0 0, .int .i64 6]) ∧ w' = w := by
  obtain ⟨ai, ci, mb, hr, _⟩ := h.read
  have hf := Try.tref_miss hr i hi
  clear h hr hi
  go_enter Try.func18, Try.ntmps18
  go_wp2_with fail
  refine hf.mono ?_
  rintro e w1 ⟨rfl, hw1⟩
  obtain rfl := hw1.symm
  go_wp2
  go_ret2
  exact ⟨rfl, rfl⟩
end Go.Proofs.Ytbfhbpibpmgblaa
