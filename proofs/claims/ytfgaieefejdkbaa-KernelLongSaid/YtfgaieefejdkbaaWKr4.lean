/- The document's Grow: a formula's tree, grown by a stack. -/
import Derived.Test.YtfgaieefejdkbaaWKr3
import Derived.Test.YtfgaieefejdkbaaWTok1
namespace Go.Proofs.Ytfgaieefejdkbaa
open Go.RowKit Go.Maps

abbrev Nd := Tk × Value
def encG (l : List Nd) : List Value := l.flatMap fun x => [.int .u8 (x.1.1 : Int), .int .u8 (x.1.2 : Int), x.2]
theorem encG_cons (x : Nd) (l : List Nd) : encG (x :: l) = .int .u8 (x.1.1 : Int) :: .int .u8 (x.1.2 : Int) :: x.2 :: encG l := rfl
theorem encG_append (xs ys : List Nd) : encG (xs ++ ys) = encG xs ++ encG ys := by simp [encG]
theorem encG_len : ∀ l : List Nd, (encG l).length = l.length * 3
  | [] => rfl
  | x :: l => by rw [encG_cons]; simp [encG_len l]; omega
theorem encG_take : ∀ (l : List Nd) (m : Nat), (encG l).take (m * 3) = encG (l.take m)
  | [], m => by simp [encG]
  | x :: l, 0 => by simp [encG]
  | x :: l, m + 1 => by
    rw [encG_cons, show (m + 1) * 3 = m * 3 + 1 + 1 + 1 by omega, List.take_succ_cons, List.take_succ_cons, List.take_succ_cons, encG_take l m]; rfl
theorem encG_drop : ∀ (l : List Nd) (m : Nat), (encG l).drop (m * 3) = encG (l.drop m)
  | [], m => by simp [encG]
  | x :: l, 0 => by simp
  | x :: l, m + 1 => by
    rw [encG_cons, show (m + 1) * 3 = m * 3 + 1 + 1 + 1 by omega, List.drop_succ_cons, List.drop_succ_cons, List.drop_succ_cons, encG_drop l m]; rfl
/-- The same as TrAt, all of it in blocks from B on. -/
def TrIn (w : World) (B : Nat) : Tr → Value → Prop
  | .leaf _, v => ∃ a c, v = .slice a 0 c
  | .un _ c, v => ∃ g cap u, v = .slice (some ⟨g, 0, none⟩) 1 cap ∧ B ≤ g ∧ NodeAt w g 0 (rootK c) u ∧ TrIn w B c u
  | .bin _ c d, v => ∃ g cap u u', v = .slice (some ⟨g, 0, none⟩) 2 cap ∧ B ≤ g ∧ NodeAt w g 0 (rootK c) u ∧ NodeAt w g 3 (rootK d) u' ∧ TrIn w B c u ∧ TrIn w B d u'
theorem TrIn.at {w : World} {B : Nat} : ∀ {T : Tr} {v : Value}, TrIn w B T v → TrAt w T v
  | .leaf _, _, h => h
  | .un _ _, _, ⟨g, cap, u, e, _, h1, h2⟩ => ⟨g, cap, u, e, h1, h2.at⟩
  | .bin _ _ _, _, ⟨g, cap, u, u', e, _, h1, h2, h3, h4⟩ => ⟨g, cap, u, u', e, h1, h2, h3.at, h4.at⟩
theorem TrIn.keep {w w' : World} {B : Nat} (hk : ∀ g o k u, B ≤ g → NodeAt w g o k u → NodeAt w' g o k u) : ∀ {T : Tr} {v : Value}, TrIn w B T v → TrIn w' B T v
  | .leaf _, _, h => h
  | .un _ _, _, ⟨g, cap, u, e, hg, h1, h2⟩ => ⟨g, cap, u, e, hg, hk _ _ _ _ hg h1, h2.keep hk⟩
  | .bin _ _ _, _, ⟨g, cap, u, u', e, hg, h1, h2, h3, h4⟩ => ⟨g, cap, u, u', e, hg, hk _ _ _ _ hg h1, hk _ _ _ _ hg h2, h3.keep hk, h4.keep hk⟩
theorem TrIn.up {w w' : World} {B : Nat} {T : Tr} {v : Value} (hb : Below w.heap.size w w') (h : TrIn w B T v) : TrIn w' B T v := h.keep fun _ _ _ _ _ hn => hn.up hb
theorem TrIn.set {w : World} {B r i : Nat} {T : Tr} {v x : Value} (hr : r < B) (h : TrIn w B T v) : TrIn (w.setCell ⟨r, i, none⟩ x) B T v := h.keep fun g o k u hg hn => by
  have far : ∀ j y, w.cell? ⟨g, j, none⟩ = some y → (w.setCell ⟨r, i, none⟩ x).cell? ⟨g, j, none⟩ = some y := fun j y h => by
    rw [World.cell?_setCell_other _ _ _ _ (by intro e; injection e; omega)]; exact h
  exact ⟨far _ _ hn.1, far _ _ hn.2.1, far _ _ hn.2.2⟩
theorem TrIn.sl {w : World} {B : Nat} {T : Tr} {v : Value} (h : TrIn w B T v) : ∃ a n c, v = .slice a n c := h.at.sl
/-- The stack's nodes, and the trees that they are of. -/
inductive GOns (w : World) (B : Nat) : List Nd → List Tr → Prop where
  | nil : GOns w B [] []
  | cons {y : Nd} {T : Tr} {ys : List Nd} {st : List Tr} : y.1 = rootK T → TrIn w B T y.2 → GOns w B ys st → GOns w B (y :: ys) (T :: st)
theorem GOns.up {w w' : World} {B : Nat} (hb : Below w.heap.size w w') : ∀ {ys : List Nd} {st : List Tr}, GOns w B ys st → GOns w' B ys st
  | _, _, .nil => .nil
  | _, _, .cons e h t => .cons e (h.up hb) (t.up hb)
theorem GOns.len {w : World} {B : Nat} : ∀ {ys : List Nd} {st : List Tr}, GOns w B ys st → ys.length = st.length
  | _, _, .nil => rfl
  | _, _, .cons _ _ t => by simp [t.len]
theorem GOns.take {w : World} {B : Nat} : ∀ {ys : List Nd} {st : List Tr} (m : Nat), GOns w B ys st → GOns w B (ys.take m) (st.take m)
  | _, _, 0, _ => .nil
  | _, _, _ + 1, .nil => .nil
  | _, _, m + 1, .cons e h t => .cons e h (t.take m)
theorem GOns.drop {w : World} {B : Nat} : ∀ {ys : List Nd} {st : List Tr} (m : Nat), GOns w B ys st → GOns w B (ys.drop m) (st.drop m)
  | _, _, 0, h => h
  | _, _, _ + 1, .nil => .nil
  | _, _, m + 1, .cons _ _ t => t.drop m
theorem GOns.snoc {w : World} {B : Nat} {y : Nd} {T : Tr} (he : y.1 = rootK T) (hy : TrIn w B T y.2) : ∀ {ys : List Nd} {st : List Tr}, GOns w B ys st → GOns w B (ys ++ [y]) (st ++ [T])
  | _, _, .nil => .cons he hy .nil
  | _, _, .cons e h t => .cons e h (t.snoc he hy)
theorem GOns.one {w : World} {B : Nat} : ∀ {ys : List Nd} {st : List Tr}, GOns w B ys st → ∀ u ∈ encG ys, u.oneCell' = true
  | _, _, .nil, u, hu => absurd hu (by simp [encG])
  | _, _, .cons (y := y) e h t, u, hu => by
    rw [encG_cons] at hu
    simp only [List.mem_cons] at hu
    obtain ⟨a, n, c, e'⟩ := h.sl
    rcases hu with rfl | rfl | rfl | hu
    · rfl
    · rfl
    · rw [e']; rfl
    · exact t.one u hu
/-- A list of nodes that is read: its cells. -/
structure GSl (w : World) (b : Option Addr) (len cap : Nat) (ys : List Nd) : Prop where
  hlen : ys.length = len
  nn : b = none → len = 0 ∧ cap = 0
  c : ∀ x, b = some x → ∀ j u, (encG ys)[j]? = some u → w.cell? (x.add j) = some u
theorem GSl.up {w w' : World} {b : Option Addr} {len cap : Nat} {ys : List Nd} (h : GSl w b len cap ys) (hb : Below w.heap.size w w') : GSl w' b len cap ys := ⟨h.hlen, h.nn, fun x hx j u hj => kept_cell (h.c x hx j u hj) hb⟩
theorem g_cut {w : World} {base L m : Nat} {v : Value} {ys : List Nd} (h : w.ownsRow base 54 3 v L (encG ys)) (hm : m ≤ L) :
    ∃ a cap b, v = .slice a L cap ∧ (∀ w', (Instr.sliceAt 52 (.slice a L cap) none (some (.int .i64 (m : Int))) none).run Try.prog w' = .ok (.slice a m cap) w') ∧ GSl w a m cap (ys.take m) ∧ (∀ w', (Instr.sliceAt 52 (.slice a L cap) (some (.int .i64 (m : Int))) none none).run Try.prog w' = .ok (.slice b (L - m) (cap - m)) w') ∧ GSl w b (L - m) (cap - m) (ys.drop m) := by
  obtain ⟨a, cap, rfl, h1, h2, h3, _, _⟩ := own_pre h hm
  obtain ⟨b, h5, h6, h7⟩ := cut_n (P := Try.prog) (T := 52) Try.underlying52 Try.sizeTr a L cap m hm h1 h3
  have hlen : ys.length = L := by have := h.1; rw [encG_len] at this; omega
  refine ⟨a, cap, b, rfl, pre_n Try.underlying52 Try.sizeTr a L cap m hm h1 h3, ⟨by simp; omega, fun e => ?_, ?_⟩, h5, ⟨by simp [hlen], fun e => ?_, ?_⟩⟩
  · have := h3 e; omega
  · intro x hx j u hj
    rcases h.2 with ⟨e, e0⟩ | ⟨g, cap', cur, e, _, hcell, hnc, hcm, hsz, htk⟩
    · injection e with e; rw [e] at hx; cases hx
    · injection e with e1 _ e3
      rw [e1] at hx
      injection hx with hx
      subst hx
      rw [← encG_take] at hj
      have hj2 : j < m * 3 := by
        have := (List.getElem?_eq_some_iff.1 hj).1
        simp at this; omega
      rw [List.getElem?_take, if_pos hj2, ← htk, List.getElem?_take, if_pos (by omega)] at hj
      rw [add_plain, Nat.zero_add, cell_row hcell]
      simpa using hj
  · have := h6 e; omega
  · intro x hx j u hj
    rcases h.2 with ⟨e, e0⟩ | ⟨g, cap', cur, e, _, hcell, hnc, hcm, hsz, htk⟩
    · have : m = 0 := by omega
      subst this e0
      have : ys = [] := List.eq_nil_of_length_eq_zero hlen
      subst this
      simp [encG] at hj
    · rw [← encG_drop, List.getElem?_drop, ← htk] at hj
      have hj2 := (List.getElem?_eq_some_iff.1 hj).1
      simp at hj2
      injection e with e1 _ e3
      have := h7 (by omega) _ e1
      rw [hx] at this
      injection this with this
      subst this
      rw [List.getElem?_take, if_pos (by omega)] at hj
      rw [add_add, add_plain, Nat.zero_add, cell_row hcell]
      simpa using hj
theorem Try.infoTr : (Try.prog.info? 54).map (fun i => (i.zero, i.size, i.bytes)) = some (some (.agg #[.int .u8 0, .int .u8 0, .slice none 0 0]), 3, 32) := by kernel_rfl
theorem Try.append_gs {w : World} {ops : Array Oper} {rest : List Oper} {o : Oper} {a : Act} {Q : Exit → Act → World → Prop} (hgd : o.guard = none) (s x : Operand)
    (ho : o.op = .call { callee := .builtin .append, args := #[s, x], argTypes := #[52, 52] }) (base : Nat)
    (v : Value) (n : Nat) (xs ys : List Nd) (b : Option Addr) (len cap : Nat) (hs : a.eval s = v) (hx : a.eval x = .slice b len cap) (hown : w.ownsRow base 54 3 v n (encG xs)) (hT : GSl w b len cap ys) (h1 : ∀ u ∈ encG ys, u.oneCell' = true)
    (hn : n ≤ 1000000) (hm : ys.length ≤ 1000000) (hbase : base ≤ w.heap.size)
    (h : ∀ v' w', w'.ownsRow base 54 3 v' (n + len) (encG (xs ++ ys)) → w.grownBy w' v.ownBlock → wpList Try.prog ops Q rest (a.put o.dst v') w') : wpList Try.prog ops Q (o :: rest) a w := by
  refine wpList_plain hgd fun K hK => ?_
  obtain ⟨i, hi, hz0, hz1, hz2⟩ := info_parts Try.infoTr
  have hl := hT.hlen
  cases b with
  | none =>
    obtain ⟨hc1, hc2⟩ := hT.nn rfl
    subst hc1 hc2
    have hy : ys = [] := List.eq_nil_of_length_eq_zero hl
    subst hy
    have hrun := run_append_owned_none (P := Try.prog) w base 52 o.type 54 i 3 Try.underlying52 hi v n (encG xs) hown
    unfold Oper.wp execOp
    simp only [ho, resolve, invoke, builtin, Sem.run_bind, Sem.run_pure, Result.andThen_ok, List.map_toArray, List.map_cons, List.map_nil, hs, hx, hrun]
    exact hK _ _ (h v w (by rw [List.append_nil]; exact hown) (World.grownBy.refl _ _))
  | some y =>
    refine wp_append_own w s x 52 ho base 54 i _ 3 32 Try.underlying52 hi hz0 hz1 hz2 rfl (by decide) v n _ hs hown y len cap (encG ys) hx (by rw [encG_len, hl]) (hT.c y rfl) h1 (by unfold maxLen; omega) (by omega) hbase ?_
    intro v' w' h2 h3 _
    exact hK _ _ (h v' w' (by rw [encG_append]; exact h2) h3)
/-- What a token takes, in a row of its own. -/
theorem node_of {w : World} {B base : Nat} {v : Value} {ys : List Nd} {a : List Tr} {n : Nat} (k : Tk) (ho : w.ownsRow base 54 3 v n (encG ys)) (hB : B ≤ base) (hg : GOns w B ys a) (hl : ys.length = n) (hn : n ≤ 2) : TrIn w B (mkT k a) v := by
  have key : ∀ g cur, w.heap[g]? = some (.cells cur 54 (0, 0)) → cur.toList.take (n * 3) = encG ys → ∀ j u, (encG ys)[j]? = some u → w.cell? ⟨g, j, none⟩ = some u := fun g cur hcell htk j u hj => by
    rw [← htk] at hj
    have hj2 := (List.getElem?_eq_some_iff.1 hj).1
    simp at hj2
    rw [List.getElem?_take, if_pos (by omega)] at hj
    rw [cell_row hcell]
    simpa using hj
  match ys, a, hg, hl, ho, key with
  | [], [], _, hl, ho, _ =>
    obtain ⟨x, c, e, _⟩ := own_pre ho (Nat.le_refl _)
    simp at hl
    subst hl
    exact ⟨x, c, e⟩
  | [y], [T], .cons e h _, hl, ho, key =>
    simp at hl
    subst hl
    rcases ho.2 with ⟨_, h0⟩ | ⟨g, cap, cur, rfl, hgb, hcell, _, _, _, htk⟩
    · cases h0
    · have q := key g cur hcell htk
      refine ⟨g, cap, y.2, rfl, by omega, ⟨?_, ?_, ?_⟩, h⟩
      · rw [← e]; exact q 0 _ rfl
      · rw [← e]; exact q 1 _ rfl
      · exact q 2 _ rfl
  | [y, z], [T, S], .cons e h (.cons e' h' _), hl, ho, key =>
    simp at hl
    subst hl
    rcases ho.2 with ⟨_, h0⟩ | ⟨g, cap, cur, rfl, hgb, hcell, _, _, _, htk⟩
    · cases h0
    · have q := key g cur hcell htk
      refine ⟨g, cap, y.2, z.2, rfl, by omega, ⟨?_, ?_, ?_⟩, ⟨?_, ?_, ?_⟩, h, h'⟩
      · rw [← e]; exact q 0 _ rfl
      · rw [← e]; exact q 1 _ rfl
      · exact q 2 _ rfl
      · rw [← e']; exact q 3 _ rfl
      · rw [← e']; exact q 4 _ rfl
      · exact q 5 _ rfl
  | _ :: _ :: _ :: _, _, _, hl, _, _ => simp at hl; omega
end Go.Proofs.Ytfgaieefejdkbaa
