/- Rows of pairs, cut in two; package kernel: count. -/
import Derived.Test.YtfgaieefejdkbaaWKc4
import Derived.Deep.RegionLaw
import Derived.Deep.DeepCutAuto
import Derived.Test.YtfgaieefejdkbaaWTe7
import Derived.Deep.RegionHeld3
import Derived.Test.YtfgaieefejdkbaaWTc
namespace Go.Proofs.Ytfgaieefejdkbaa
open Go.RowKit Go.Maps

abbrev Pv := Value × Value
def encV (vs : List Pv) : List Value := vs.flatMap fun x => [x.1, x.2]
theorem encV_cons (x : Pv) (vs : List Pv) : encV (x :: vs) = x.1 :: x.2 :: encV vs := rfl
theorem encV_append (xs ys : List Pv) : encV (xs ++ ys) = encV xs ++ encV ys := by simp [encV]
theorem encV_len : ∀ vs : List Pv, (encV vs).length = vs.length * 2
  | [] => rfl
  | x :: vs => by rw [encV_cons]; simp [encV_len vs]; omega
theorem encV_take : ∀ (vs : List Pv) (m : Nat), (encV vs).take (m * 2) = encV (vs.take m)
  | [], m => by simp [encV]
  | x :: vs, 0 => by simp [encV]
  | x :: vs, m + 1 => by
    rw [encV_cons, show (m + 1) * 2 = m * 2 + 1 + 1 by omega, List.take_succ_cons, List.take_succ_cons, encV_take vs m]; rfl
theorem encV_get : ∀ (vs : List Pv) (i : Nat) (h : i < vs.length), (encV vs)[2 * i]? = some vs[i].1 ∧ (encV vs)[2 * i + 1]? = some vs[i].2
  | [], i, h => absurd h (by simp)
  | x :: vs, 0, _ => ⟨rfl, rfl⟩
  | x :: vs, i + 1, h => by
    have := encV_get vs i (by simpa using h)
    rw [encV_cons, show 2 * (i + 1) = 2 * i + 1 + 1 by omega, show 2 * i + 1 + 1 + 1 = (2 * i + 1) + 1 + 1 by omega]
    simpa using this
/-- A list of pairs as the walk reads it. -/
structure PrAt (T : TypeId) (w : World) (b : Option Addr) (n c : Nat) (vs : List Pv) : Prop where
  len : vs.length = n
  cell : ∀ k (h : k < vs.length), ∃ g o, (∀ w', (Instr.indexAt T (.slice b n c) (.int .i64 (k : Int))).run Try.prog w' = .ok (.pointer (some ⟨g, o, none⟩)) w') ∧ w.cell? ⟨g, o, none⟩ = some vs[k].1 ∧ w.cell? ⟨g, o + 1, none⟩ = some vs[k].2
theorem PrAt.up {T : TypeId} {w w' : World} {b : Option Addr} {n c : Nat} {vs : List Pv} (h : PrAt T w b n c vs) (hb : Below w.heap.size w w') : PrAt T w' b n c vs :=
  ⟨h.len, fun k hk => by obtain ⟨g, o, h1, h2, h3⟩ := h.cell k hk; exact ⟨g, o, h1, kept_cell h2 hb, kept_cell h3 hb⟩⟩
theorem PrAt.at0 {T : TypeId} {w : World} {b : Option Addr} {n c : Nat} {vs : List Pv} {y : Pv} (h : PrAt T w b n c vs) (h1 : 1 ≤ n) (hy : vs.getD 0 y = y) : ∃ g o, (∀ w', (Instr.indexAt T (.slice b n c) (.int .i64 0)).run Try.prog w' = .ok (.pointer (some ⟨g, o, none⟩)) w') ∧ w.cell? ⟨g, o, none⟩ = some y.1 ∧ w.cell? ⟨g, o + 1, none⟩ = some y.2 := by
  obtain ⟨g, o, e1, e2, e3⟩ := h.cell 0 (by have := h.len; omega)
  have : vs[0]'(by have := h.len; omega) = y := by rw [← hy]; simp [List.getD_eq_getElem?_getD, List.getElem?_eq_getElem (show 0 < vs.length by have := h.len; omega)]
  rw [this] at e2 e3
  exact ⟨g, o, e1, e2, e3⟩
theorem PrAt.at1 {T : TypeId} {w : World} {b : Option Addr} {n c : Nat} {vs : List Pv} {y : Pv} (h : PrAt T w b n c vs) (h1 : 2 ≤ n) (hy : vs.getD 1 y = y) : ∃ g o, (∀ w', (Instr.indexAt T (.slice b n c) (.int .i64 1)).run Try.prog w' = .ok (.pointer (some ⟨g, o, none⟩)) w') ∧ w.cell? ⟨g, o, none⟩ = some y.1 ∧ w.cell? ⟨g, o + 1, none⟩ = some y.2 := by
  obtain ⟨g, o, e1, e2, e3⟩ := h.cell 1 (by have := h.len; omega)
  have : vs[1]'(by have := h.len; omega) = y := by rw [← hy]; simp [List.getD_eq_getElem?_getD, List.getElem?_eq_getElem (show 1 < vs.length by have := h.len; omega)]
  rw [this] at e2 e3
  exact ⟨g, o, e1, e2, e3⟩
/-- A row of pairs of the call's own, up to m and from m on. -/
theorem pr_cut {T E : TypeId} (hu : Try.prog.underlying T = some (.slice E)) (hs : (Try.prog.info? E).map (·.size) = some 2) {w : World} {base L m : Nat} {v : Value} {vs : List Pv} (h : w.ownsRow base E 2 v L (encV vs)) (hm : m ≤ L) :
    ∃ a cap b, v = .slice a L cap ∧ (∀ w', (Instr.sliceAt T (.slice a L cap) none (some (.int .i64 (m : Int))) none).run Try.prog w' = .ok (.slice a m cap) w') ∧ w.ownsRow base E 2 (.slice a m cap) m (encV (vs.take m)) ∧ (∀ w', (Instr.sliceAt T (.slice a L cap) (some (.int .i64 (m : Int))) none none).run Try.prog w' = .ok (.slice b (L - m) (cap - m)) w') ∧ PrAt T w b (L - m) (cap - m) (vs.drop m) := by
  obtain ⟨a, cap, rfl, h1, h2, h3, h4, _⟩ := own_pre h hm
  rw [encV_take] at h4
  obtain ⟨b, h5, h6, h7⟩ := cut_n hu hs a L cap m hm h1 h3
  have hlen : vs.length = L := by have := h.1; rw [encV_len] at this; omega
  refine ⟨a, cap, b, rfl, pre_n hu hs a L cap m hm h1 h3, h4, h5, ⟨by simp [hlen], fun k hk => ?_⟩⟩
  have hk' : m + k < L := by simp at hk; omega
  rcases h.2 with ⟨e, e0⟩ | ⟨g, cap', cur, e, _, hcell, hnc, hcm, hsz, htk⟩
  · omega
  · injection e with e1 _ e3
    subst e1 e3
    have key : ∀ j, j < L * 2 → w.cell? ⟨g, j, none⟩ = (encV vs)[j]? := fun j hj => by
      rw [← htk, List.getElem?_take, if_pos hj]
      simp [World.cell?, hcell]
    obtain rfl := h7 (by omega) _ rfl
    have hg := encV_get vs (m + k) (by omega)
    refine ⟨g, 2 * (m + k), fun w' => ?_, ?_, ?_⟩
    · rw [add_plain]
      have hk2 : k < L - m := by omega
      simp [Instr.indexAt, run_underlying hu, asIntOf, sizeOf_runN hs, hk2, Result.andThen, go_sem, add_plain]
      try omega
    · rw [key _ (by omega), hg.1, List.getElem_drop]
    · rw [key _ (by omega), hg.2, List.getElem_drop]
/-- One pair more behind a row of the call's own. -/
theorem wp_pv {w : World} {o : Oper} {a : Act} {K : Act → World → Prop} {Q : Exit → Act → World → Prop} {T E : TypeId} {z : Value} {bt : Nat} (hu : Try.prog.underlying T = some (.slice E)) (hin : (Try.prog.info? E).map (fun i => (i.zero, i.size, i.bytes)) = some (some z, 2, bt)) (hzs : z.cells.size = 2) (hbt : bt ≤ 1000) (s x : Operand)
    (ho : o.op = .call { callee := .builtin .append, args := #[s, x], argTypes := #[T, T] }) (base : Nat)
    (v : Value) (n : Nat) (vs : List Pv) (y1 y2 : Value) (g : Nat) (hs : a.eval s = v) (hx : a.eval x = .slice (some ⟨g, 0, none⟩) 1 1) (hown : w.ownsRow base E 2 v n (encV vs))
    (hB : w.heap[g]? = some (.cells #[y1, y2] E (0, 0))) (h1 : y1.oneCell' = true) (h2 : y2.oneCell' = true) (hn : n ≤ 1000000) (hbase : base ≤ w.heap.size)
    (h : ∀ v' w', w'.ownsRow base E 2 v' (n + 1) (encV (vs ++ [(y1, y2)])) → w.grownBy w' v.ownBlock → K (a.put o.dst v') w') : o.wp Try.prog a w K Q := by
  obtain ⟨i, hi, hz0, hz1, hz2⟩ := info_parts hin
  have hb : (n + 1) * bt ≤ (1000000 + 1) * 1000 := Nat.mul_le_mul (by omega) hbt
  refine wp_append_own w s x T ho base E i _ 2 bt hu hi hz0 hz1 hz2 hzs (by decide) v n _ hs hown ⟨g, 0, none⟩ 1 1 [y1, y2] hx rfl ?_ ?_ (by unfold maxLen; omega) (by omega) hbase ?_
  · intro j u hj
    rw [add_plain, Nat.zero_add, cell_row hB]
    match j with
    | 0 => simpa using hj
    | 1 => simpa using hj
    | j + 2 => simp at hj
  · intro u hu'
    simp at hu'
    rcases hu' with rfl | rfl <;> assumption
  · intro v' w' e1 e2 _
    refine h v' w' ?_ e2
    rw [encV_append]; exact e1
theorem stepg_pv {w : World} {ops : Array Oper} {o : Oper} {a : Act} {K : Act → World → Prop} {Q : Exit → Act → World → Prop} {X : Prop} {T E : TypeId} {z : Value} {bt : Nat} (hu : Try.prog.underlying T = some (.slice E)) (hin : (Try.prog.info? E).map (fun i => (i.zero, i.size, i.bytes)) = some (some z, 2, bt)) (hzs : z.cells.size = 2) (hbt : bt ≤ 1000) (hw : Region.wanted o (yielded ops a.tmps) = true) (s x : Operand)
    (ho : o.op = .call { callee := .builtin .append, args := #[s, x], argTypes := #[T, T] }) (base : Nat)
    (v : Value) (n : Nat) (vs : List Pv) (y1 y2 : Value) (g : Nat) (hs : a.eval s = v) (hx : a.eval x = .slice (some ⟨g, 0, none⟩) 1 1) (hown : w.ownsRow base E 2 v n (encV vs))
    (hB : w.heap[g]? = some (.cells #[y1, y2] E (0, 0))) (h1 : y1.oneCell' = true) (h2 : y2.oneCell' = true) (hn : n ≤ 1000000) (hbase : base ≤ w.heap.size)
    (h : ∀ v' w', w'.ownsRow base E 2 v' (n + 1) (encV (vs ++ [(y1, y2)])) → w.grownBy w' v.ownBlock → K (a.put o.dst v') w') :
    if Region.wanted o (yielded ops a.tmps) = true then Oper.wp Try.prog o a w K Q else X := by
  rw [if_pos hw]
  exact wp_pv hu hin hzs hbt s x ho base v n vs y1 y2 g hs hx hown hB h1 h2 hn hbase h
/-! ### count -/
def lnV (x : Nat × Nat) : Pv := (.int .i64 (x.1 : Int), .int .i64 (x.2 : Int))
/-- What a rule may ask for. -/
def OpsOk (os : List Nat) (n : Nat) : Prop := os.length ≤ 100 ∧ ∀ o ∈ os, o < 28 ∧ (o = 24 ∨ o = 25 → 1 ≤ n) ∧ (o = 26 ∨ o = 27 → 2 ≤ n)
theorem cn1_le {vs : List (Nat × Nat)} (h : ∀ x ∈ vs, x.1 ≤ 2049 ∧ x.2 ≤ 2049) (o : Nat) : cn1 vs o ≤ 2049 := by
  have h0 : (vs.getD 0 (0, 0)).1 ≤ 2049 ∧ (vs.getD 0 (0, 0)).2 ≤ 2049 := by
    match vs, h with
    | [], _ => exact ⟨Nat.zero_le _, Nat.zero_le _⟩
    | x :: _, h => exact h x (by simp)
  have h1 : (vs.getD 1 (0, 0)).1 ≤ 2049 ∧ (vs.getD 1 (0, 0)).2 ≤ 2049 := by
    match vs, h with
    | [], _ => exact ⟨Nat.zero_le _, Nat.zero_le _⟩
    | [_], _ => exact ⟨Nat.zero_le _, Nat.zero_le _⟩
    | _ :: y :: _, h => exact h y (by simp)
  unfold cn1
  repeat' split
  all_goals omega
theorem ln_get (vs : List (Nat × Nat)) (k : Nat) (n : Nat) (h : (vs.map lnV).length = n) (hk : k + 1 ≤ n) : (vs.map lnV).getD k (lnV (vs.getD k (0, 0))) = lnV (vs.getD k (0, 0)) := by
  have hk' : k < vs.length := by simp at h; omega
  simp [List.getD_eq_getElem?_getD, List.getElem?_map, List.getElem?_eq_getElem hk']
set_option maxRecDepth 100000 in
set_option maxHeartbeats 8000000 in
theorem Try.kcount_any (a : Option Addr) (cap : Nat) (os : List Nat) (b : Option Addr) (n c : Nat) (vs : List (Nat × Nat)) (w : World) (hO : OpsL w a os.length cap os) (hV : PrAt 89 w b n c (vs.map lnV)) (hok : OpsOk os n) (hle : ∀ x ∈ vs, x.1 ≤ 2049 ∧ x.2 ≤ 2049) :
    Calls Try.prog 54 #[.slice a os.length cap, .slice b n c] w fun e w' => e = .returned (.int .i64 (cnF os vs 0 : Int)) ∧ w' = w := by
  have HOK : Hid (OpsOk os n) := hok
  have HO : Hid (OpsL w a os.length cap os) := hO
  have HV : Hid (PrAt 89 w b n c (vs.map lnV)) := hV
  have hc1 := cn1_le hle
  have HL : Hid (os.length ≤ 100) := hok.1
  clear hok hO hV hle
  obtain ⟨len, hlen⟩ : ∃ len, len = os.length := ⟨_, rfl⟩
  have HLEN : Hid (len = os.length) := hlen
  rw [← hlen] at HO ⊢
  have hl100 : len ≤ 100 := by have := HL.out; omega
  clear hlen
  go_enter Try.func54, Try.ntmps54
  go_wp2
  go_loopw [5, 10] (fun m i wr => ∃ k : Nat, k ≤ len ∧ i = .int .i64 k ∧ (∃ r : Nat, r ≤ 2049 ∧ m = .int .i64 (r : Int) ∧ Hid (r = cnF (os.take k) vs 0)) ∧ wr = w) (fun _ i _ => len - (intOf i).toNat)
  case atStart => exact ⟨0, Nat.zero_le _, rfl, ⟨0, Nat.zero_le _, rfl, rfl⟩, rfl⟩
  case round =>
    obtain ⟨k, hk, rfl, ⟨r, hr, rfl, HR⟩, rfl⟩ := hrel
    by_cases hlt : k < len
    · have hxl : k < os.length := by have := HLEN.out; omega
      have hi := IntSl.idx HO.out len k
      have hidx := fun w' => hi w' hlt (Nat.le_refl _)
      have hce := IntSl.cell HO.out k hlt
      rw [show (os.map fun o : Nat => (o : Int)).getD k 0 = (os[k] : Int) by simp [List.getD_eq_getElem?_getD, List.getElem?_eq_getElem hxl]] at hce
      have HNX : Hid (cnF (os.take (k + 1)) vs 0 = min (r + cn1 vs os[k]) 2049) := by
        show _ = _
        rw [List.take_add_one, List.getElem?_eq_getElem hxl]
        show cnF (os.take k ++ [os[k]]) vs 0 = _
        rw [cnF_snoc, ← HR.out]
      have hoo := HOK.out.2 os[k] (List.getElem_mem hxl)
      generalize os[k] = o at *
      generalize adOf a k = A0 at *
      obtain ⟨g0, o0, s0⟩ := A0
      have hco := hc1 o
      clear hc1 hi
      obtain ⟨t, ht⟩ : ∃ t, t = r + cn1 vs o := ⟨_, rfl⟩
      rw [← ht] at HNX
      by_cases e24 : o = 24
      · subst e24
        have hn1 : 1 ≤ n := hoo.2.1 (Or.inl rfl)
        obtain ⟨g2, o2, j0, c0, c1⟩ := HV.out.at0 hn1 (ln_get vs 0 n HV.out.len hn1)
        have hcn : cn1 vs 24 = (vs.getD 0 (0, 0)).1 := rfl
        rw [hcn] at ht hco
        unfold lnV at c0 c1
        dsimp only at c0 c1
        generalize (vs.getD 0 (0, 0)).1 = x1 at *
        generalize (vs.getD 0 (0, 0)).2 = x2 at *
        have hwr : IntKind.i64.wrap ((r : Int) + (x1 : Int)) = (t : Int) := by rw [IntKind.wrap_i64]; omega
        clear hcn hoo
        by_cases hmm : 2049 < t
        · have hm : (2049 : Int) < (t : Int) := by omega
          have HNZ : Hid (cnF (os.take (k + 1)) vs 0 = 2049) := by show _ = _; rw [HNX.out]; omega
          clear HNX HR
          go_wp2
          go_roundw
          case rel => exact ⟨k + 1, by omega, by go_num, ⟨2049, by omega, by first | rfl | (congr 1; omega), HNZ.out.symm⟩, by first | rfl | trivial⟩
          case measure => simp [intOf] <;> omega
        · have hm : ¬ (2049 : Int) < (t : Int) := by omega
          have HNZ : Hid (cnF (os.take (k + 1)) vs 0 = t) := by show _ = _; rw [HNX.out]; omega
          clear HNX HR
          go_wp2
          go_roundw
          case rel => exact ⟨k + 1, by omega, by go_num, ⟨t, by omega, by first | rfl | (congr 1; omega), HNZ.out.symm⟩, by first | rfl | trivial⟩
          case measure => simp [intOf] <;> omega
      by_cases e25 : o = 25
      · subst e25
        have hn1 : 1 ≤ n := hoo.2.1 (Or.inr rfl)
        obtain ⟨g2, o2, j0, c0, c1⟩ := HV.out.at0 hn1 (ln_get vs 0 n HV.out.len hn1)
        have hcn : cn1 vs 25 = (vs.getD 0 (0, 0)).2 := rfl
        rw [hcn] at ht hco
        unfold lnV at c0 c1
        dsimp only at c0 c1
        generalize (vs.getD 0 (0, 0)).1 = x1 at *
        generalize (vs.getD 0 (0, 0)).2 = x2 at *
        have hwr : IntKind.i64.wrap ((r : Int) + (x2 : Int)) = (t : Int) := by rw [IntKind.wrap_i64]; omega
        clear hcn hoo
        by_cases hmm : 2049 < t
        · have hm : (2049 : Int) < (t : Int) := by omega
          have HNZ : Hid (cnF (os.take (k + 1)) vs 0 = 2049) := by show _ = _; rw [HNX.out]; omega
          clear HNX HR
          go_wp2
          go_roundw
          case rel => exact ⟨k + 1, by omega, by go_num, ⟨2049, by omega, by first | rfl | (congr 1; omega), HNZ.out.symm⟩, by first | rfl | trivial⟩
          case measure => simp [intOf] <;> omega
        · have hm : ¬ (2049 : Int) < (t : Int) := by omega
          have HNZ : Hid (cnF (os.take (k + 1)) vs 0 = t) := by show _ = _; rw [HNX.out]; omega
          clear HNX HR
          go_wp2
          go_roundw
          case rel => exact ⟨k + 1, by omega, by go_num, ⟨t, by omega, by first | rfl | (congr 1; omega), HNZ.out.symm⟩, by first | rfl | trivial⟩
          case measure => simp [intOf] <;> omega
      by_cases e26 : o = 26
      · subst e26
        have hn2 : 2 ≤ n := hoo.2.2 (Or.inl rfl)
        obtain ⟨g2, o2, j0, c0, c1⟩ := HV.out.at1 hn2 (ln_get vs 1 n HV.out.len hn2)
        have hcn : cn1 vs 26 = (vs.getD 1 (0, 0)).1 := rfl
        rw [hcn] at ht hco
        unfold lnV at c0 c1
        dsimp only at c0 c1
        generalize (vs.getD 1 (0, 0)).1 = x1 at *
        generalize (vs.getD 1 (0, 0)).2 = x2 at *
        have hwr : IntKind.i64.wrap ((r : Int) + (x1 : Int)) = (t : Int) := by rw [IntKind.wrap_i64]; omega
        clear hcn hoo
        by_cases hmm : 2049 < t
        · have hm : (2049 : Int) < (t : Int) := by omega
          have HNZ : Hid (cnF (os.take (k + 1)) vs 0 = 2049) := by show _ = _; rw [HNX.out]; omega
          clear HNX HR
          go_wp2
          go_roundw
          case rel => exact ⟨k + 1, by omega, by go_num, ⟨2049, by omega, by first | rfl | (congr 1; omega), HNZ.out.symm⟩, by first | rfl | trivial⟩
          case measure => simp [intOf] <;> omega
        · have hm : ¬ (2049 : Int) < (t : Int) := by omega
          have HNZ : Hid (cnF (os.take (k + 1)) vs 0 = t) := by show _ = _; rw [HNX.out]; omega
          clear HNX HR
          go_wp2
          go_roundw
          case rel => exact ⟨k + 1, by omega, by go_num, ⟨t, by omega, by first | rfl | (congr 1; omega), HNZ.out.symm⟩, by first | rfl | trivial⟩
          case measure => simp [intOf] <;> omega
      by_cases e27 : o = 27
      · subst e27
        have hn2 : 2 ≤ n := hoo.2.2 (Or.inr rfl)
        obtain ⟨g2, o2, j0, c0, c1⟩ := HV.out.at1 hn2 (ln_get vs 1 n HV.out.len hn2)
        have hcn : cn1 vs 27 = (vs.getD 1 (0, 0)).2 := rfl
        rw [hcn] at ht hco
        unfold lnV at c0 c1
        dsimp only at c0 c1
        generalize (vs.getD 1 (0, 0)).1 = x1 at *
        generalize (vs.getD 1 (0, 0)).2 = x2 at *
        have hwr : IntKind.i64.wrap ((r : Int) + (x2 : Int)) = (t : Int) := by rw [IntKind.wrap_i64]; omega
        clear hcn hoo
        by_cases hmm : 2049 < t
        · have hm : (2049 : Int) < (t : Int) := by omega
          have HNZ : Hid (cnF (os.take (k + 1)) vs 0 = 2049) := by show _ = _; rw [HNX.out]; omega
          clear HNX HR
          go_wp2
          go_roundw
          case rel => exact ⟨k + 1, by omega, by go_num, ⟨2049, by omega, by first | rfl | (congr 1; omega), HNZ.out.symm⟩, by first | rfl | trivial⟩
          case measure => simp [intOf] <;> omega
        · have hm : ¬ (2049 : Int) < (t : Int) := by omega
          have HNZ : Hid (cnF (os.take (k + 1)) vs 0 = t) := by show _ = _; rw [HNX.out]; omega
          clear HNX HR
          go_wp2
          go_roundw
          case rel => exact ⟨k + 1, by omega, by go_num, ⟨t, by omega, by first | rfl | (congr 1; omega), HNZ.out.symm⟩, by first | rfl | trivial⟩
          case measure => simp [intOf] <;> omega
      have hcn : cn1 vs o = 1 := by unfold cn1; rw [if_neg e24, if_neg e25, if_neg e26, if_neg e27]
      rw [hcn] at ht hco
      have q24 : ((o : Int) == 24) = false := by rw [beq_eq_false_iff_ne]; omega
      have q25 : ((o : Int) == 25) = false := by rw [beq_eq_false_iff_ne]; omega
      have q26 : ((o : Int) == 26) = false := by rw [beq_eq_false_iff_ne]; omega
      have q27 : ((o : Int) == 27) = false := by rw [beq_eq_false_iff_ne]; omega
      have hwr : IntKind.i64.wrap ((r : Int) + 1) = (t : Int) := by rw [IntKind.wrap_i64]; omega
      clear hcn hoo
      by_cases hmm : 2049 < t
      · have hm : (2049 : Int) < (t : Int) := by omega
        have HNZ : Hid (cnF (os.take (k + 1)) vs 0 = 2049) := by show _ = _; rw [HNX.out]; omega
        clear HNX HR
        go_wp2
        go_roundw
        case rel => exact ⟨k + 1, by omega, by go_num, ⟨2049, by omega, by first | rfl | (congr 1; omega), HNZ.out.symm⟩, by first | rfl | trivial⟩
        case measure => simp [intOf] <;> omega
      · have hm : ¬ (2049 : Int) < (t : Int) := by omega
        have HNZ : Hid (cnF (os.take (k + 1)) vs 0 = t) := by show _ = _; rw [HNX.out]; omega
        clear HNX HR
        go_wp2
        go_roundw
        case rel => exact ⟨k + 1, by omega, by go_num, ⟨t, by omega, by first | rfl | (congr 1; omega), HNZ.out.symm⟩, by first | rfl | trivial⟩
        case measure => simp [intOf] <;> omega
    · obtain rfl : k = len := by omega
      have HZ : Hid (cnF os vs 0 = r) := by
        show _ = _
        rw [HR.out, List.take_of_length_le (by have := HLEN.out; omega)]
      go_wp2
      go_ret
      exact ⟨by rw [HZ.out]; rfl, rfl⟩
end Go.Proofs.Ytfgaieefejdkbaa
namespace Go.Proofs.Ytfgaieefejdkbaa
open Go.RowKit Go.Maps

/-- Checked tokens: what the stack of pairs is like. -/
structure JGood (B : Nat) (ts : List Tk) (q : Kq) : Prop where
  few : ts.length ≤ 2048
  ok : ∀ k (h : k < ts.length), JOk B (jS (ts.take k) []) ts[k]
  fin : jS ts [] = [q]
theorem tk_le {q : Tk} {m : Nat} (h : takesN q = some m) : q.1 ≤ 23 := by
  unfold takesN at h
  split at h
  · cases h
  · omega
theorem rules_ok {q : Tk} {m : Nat} (h : takesN q = some m) : OpsOk (rOwn q.1) m ∧ OpsOk (rNeg q.1) m := by
  have h1 := rule_ok q.1 (tk_le h)
  have h2 := rule_few h
  exact ⟨⟨by omega, fun o ho => ⟨h1.1 o ho, h2 o (Or.inl ho)⟩⟩, ⟨by omega, fun o ho => ⟨h1.2.1 o ho, h2 o (Or.inr ho)⟩⟩⟩
theorem mm_le (q : Kq) : (mm q).1 ≤ 2049 ∧ (mm q).2 ≤ 2049 := ⟨Nat.min_le_right _ _, Nat.min_le_right _ _⟩
theorem Try.sizeLn : (Try.prog.info? 57).map (·.size) = some 2 := by kernel_rfl
theorem Try.infoLn : (Try.prog.info? 57).map (fun i => (i.zero, i.size, i.bytes)) = some (some (.agg #[.int .i64 0, .int .i64 0]), 2, 16) := by kernel_rfl
theorem lnV_one (x : Nat × Nat) : (lnV x).1.oneCell' = true ∧ (lnV x).2.oneCell' = true := ⟨rfl, rfl⟩
theorem setk_cells {w : World} {r : Nat} {a0 a1 : Value} {T : TypeId} (hr : w.heap[r]? = some (.cells #[a0, a1] T (0, 0))) (u v : Value) : ((w.setCell ⟨r, 0, none⟩ u).setCell ⟨r, 1, none⟩ v).cell? ⟨r, 0, none⟩ = some u ∧ ((w.setCell ⟨r, 0, none⟩ u).setCell ⟨r, 1, none⟩ v).cell? ⟨r, 1, none⟩ = some v := by
  have h1 := heap_setCell_same w r 0 _ T u hr
  have h2 := heap_setCell_same _ r 1 _ T v h1
  simp [World.cell?, h2]
/-- The first pair of a row. -/
theorem pr_first {T E : TypeId} (hu : Try.prog.underlying T = some (.slice E)) (hs : (Try.prog.info? E).map (·.size) = some 2) {w : World} {base n : Nat} {a : Option Addr} {cap : Nat} {y : Pv} {r : List Pv} (h : w.ownsRow base E 2 (.slice a n cap) n (encV (y :: r))) :
    ∃ g o, (∀ w', (Instr.indexAt T (.slice a n cap) (.int .i64 0)).run Try.prog w' = .ok (.pointer (some ⟨g, o, none⟩)) w') ∧ w.cell? ⟨g, o, none⟩ = some y.1 ∧ w.cell? ⟨g, o + 1, none⟩ = some y.2 := by
  have hl := h.1
  rw [encV_len, List.length_cons] at hl
  rcases h.2 with ⟨e, e0⟩ | ⟨g, cap', cur, e, _, hcell, hnc, hcm, hsz, htk⟩
  · omega
  · injection e with e1 _ e3
    subst e1 e3
    have key : ∀ j, j < n * 2 → w.cell? ⟨g, j, none⟩ = (encV (y :: r))[j]? := fun j hj => by
      rw [← htk, List.getElem?_take, if_pos hj]
      simp [World.cell?, hcell]
    refine ⟨g, 0, fun w' => ?_, ?_, ?_⟩
    · have hn : 0 < n := by omega
      simp [Instr.indexAt, run_underlying hu, asIntOf, sizeOf_runN hs, hn, Result.andThen, go_sem]
    · rw [key _ (by omega)]; rfl
    · rw [key _ (by omega)]; rfl
set_option maxRecDepth 100000 in
set_option maxHeartbeats 8000000 in
theorem Try.kmeasure_any (a : Option Addr) (len cap B : Nat) (ts : List Tk) (q : Kq) (w : World) (hT : TkSl w a len cap ts) (hG : JGood B ts q) :
    Calls Try.prog 31 #[.slice a len cap] w fun e w' => e = .returned (.agg #[.int .i64 ((mm q).1 : Int), .int .i64 ((mm q).2 : Int)]) ∧ Below w.heap.size w w' := by
  have HT : Hid (TkSl w a len cap ts) := hT
  have HLEN : Hid (ts.length = len) := hT.hlen
  have HG : Hid (JGood B ts q) := hG
  have hln : len ≤ 2048 := by have := hG.few; have := hT.hlen; omega
  have hb0 := below_new w (.cells #[.int .i64 0, .int .i64 0] 57)
  have hr0 := (MapKept.heap_alloc w (.cells #[.int .i64 0, .int .i64 0] 57)).1
  have hz0 : (w.alloc (.cells #[.int .i64 0, .int .i64 0] 57)).heap.size = w.heap.size + 1 := by simp
  have HB0 : Hid _ := hb0
  have HR0 : Hid _ := hr0
  have HZ0 : Hid _ := hz0
  clear hT hG hb0 hr0 hz0
  go_enter Try.func31, Try.ntmps31
  go_wp2
  generalize w.alloc (.cells #[.int .i64 0, .int .i64 0] 57) = w0 at *
  go_loopw [3, 12] (fun v i wr => ∃ k : Nat, k ≤ len ∧ i = .int .i64 k ∧ (∃ vs : List (Nat × Nat), Hid (wr.ownsRow (w.heap.size + 1) 57 2 v vs.length (encV (vs.map lnV))) ∧ Hid (vs = (jS (ts.take k) []).map mm) ∧ Hid (vs.length ≤ k)) ∧ Hid (Below (w.heap.size + 1) w0 wr)) (fun _ i _ => len - (intOf i).toNat)
  case atStart => exact ⟨0, Nat.zero_le _, rfl, ⟨[], ⟨rfl, Or.inl ⟨rfl, rfl⟩⟩, rfl, Nat.le_refl _⟩, Below.refl _ _⟩
  case round =>
    obtain ⟨k, hk, rfl, ⟨vs, HO, HE, HLL⟩, HW⟩ := hrel
    have hll := HLL.out
    have hszr := HW.out.size
    have hz0 := HZ0.out
    have HWW : Hid (Below w.heap.size w wr) := HB0.out.trans (HW.out.mono (by omega))
    by_cases hlt : k < len
    · have hxl : k < ts.length := by have := HLEN.out; omega
      obtain ⟨g1, o1, s1, hi1, hx0, hx1, hg1, _⟩ := (HT.out.up HWW.out).at Try.underlying22 Try.sizeTok k hlt
      have hidx := fun w' => hi1 len w' hlt
      clear hi1
      have hok := HG.out.ok k hxl
      have HNX : Hid (jS (ts.take (k + 1)) [] = jStep (jS (ts.take k) []) ts[k]) := jS_next hxl []
      generalize ts[k] = t at *
      obtain ⟨n, hn⟩ := hok.tk
      have hnC := tak_of hn
      have hnO := takO_of hn
      have hnl := hok.le
      have hro := rules_ok hn
      have h23 := tk_le hn
      have hn2 := takesN_le hn
      obtain ⟨op, p⟩ := t
      dsimp only at hx0 hx1 HNX hnO hro h23
      have hTk := fun w' => Try.ktakes_any op w' h23
      rw [hnO] at hTk
      have hRl := fun w' => Try.krule_any op w' h23
      rw [hnC] at hnl
      have HNX2 : Hid ((jS (ts.take (k + 1)) []).map mm = vs.take (vs.length - n) ++ [(cnF (rOwn op) (vs.drop (vs.length - n)) 0, cnF (rNeg op) (vs.drop (vs.length - n)) 0)]) := by
        show _ = _
        rw [HNX.out, HE.out]
        unfold jStep
        rw [List.map_append, List.map_cons, List.map_nil, mm_op, hnC, List.length_map, List.map_take, List.map_drop]
      have hnv : n ≤ vs.length := by rw [HE.out, List.length_map]; exact hnl
      have hle : ∀ x ∈ vs, x.1 ≤ 2049 ∧ x.2 ≤ 2049 := fun x hx => by
        rw [HE.out] at hx
        obtain ⟨y, _, rfl⟩ := List.mem_map.1 hx
        exact mm_le y
      obtain ⟨M, hM⟩ : ∃ M, M = vs.length - n := ⟨_, rfl⟩
      rw [← hM] at HNX2
      obtain ⟨av, cv, bv, rfl, hpre, hown, hcut, hpr⟩ := pr_cut (T := 89) Try.underlying89 Try.sizeLn HO.out (m := M) (by omega)
      rw [show vs.length - M = n by omega] at hcut hpr
      have hb1 := below_new wr (.cells #[.int .u8 (op : Int), .int .u8 (p : Int)] 37)
      have hz1 : (wr.alloc (.cells #[.int .u8 (op : Int), .int .u8 (p : Int)] 37)).heap.size = wr.heap.size + 1 := by simp
      have hwr : IntKind.i64.wrap ((vs.length : Int) - (n : Int)) = (M : Int) := by rw [IntKind.wrap_i64]; omega
      have hML : M ≤ vs.length := by omega
      have HTL : Hid ((vs.take M).length = M) := by show _ = _; simp; omega
      have hle2 : ∀ x ∈ vs.drop M, x.1 ≤ 2049 ∧ x.2 ≤ 2049 := fun x hx => hle x (List.mem_of_mem_drop hx)
      rw [← List.map_take] at hown
      rw [← List.map_drop] at hpr
      have HOW : Hid _ := hown
      have HPR : Hid _ := hpr
      have HRO : Hid _ := hro
      have HLE2 : Hid _ := hle2
      have HB1 : Hid _ := hb1
      have hc1 := cnF_le (rOwn op) (vs.drop M) 0 (by omega)
      have hc2 := cnF_le (rNeg op) (vs.drop M) 0 (by omega)
      have HGE : Hid (∀ j, (Value.slice av M cv).ownBlock = some j → w.heap.size + 1 ≤ j) := own_ge hown
      have hcA0 : (wr.alloc (.cells #[.int .u8 (op : Int), .int .u8 (p : Int)] 37)).cell? ⟨wr.heap.size, 0, none⟩ = some (.int .u8 (op : Int)) := cell_row (MapKept.heap_alloc wr _).1 0
      clear hown hpr hro hle2 hle HNX hok hn hnC hnO hnl hb1 HO HE hn2 hM
      generalize vs.take M = tk at *
      generalize vs.drop M = dk at *
      obtain ⟨C1, hC1⟩ : ∃ C1, C1 = cnF (rOwn op) dk 0 := ⟨_, rfl⟩
      obtain ⟨C2, hC2⟩ : ∃ C2, C2 = cnF (rNeg op) dk 0 := ⟨_, rfl⟩
      rw [← hC1, ← hC2] at HNX2
      rw [← hC1] at hc1
      rw [← hC2] at hc2
      have HC1 : Hid _ := hC1
      have HC2 : Hid _ := hC2
      clear hC1 hC2
      generalize vs.length = L at *
      go_wp2_with (go_at_call 45; refine (hTk _).mono ?_; rintro e w' ⟨rfl, rfl⟩)
      refine (hRl _).mono ?_
      rintro e w2 ⟨a1, c1, a2, c2, rfl, hO1, hO2, hb2⟩
      have hq1 := Try.kcount_any a1 c1 (rOwn op) bv n (cv - M) dk w2 hO1 ((HPR.out.up HB1.out).up hb2) HRO.out.1 HLE2.out
      have hq2 := Try.kcount_any a2 c2 (rNeg op) bv n (cv - M) dk w2 hO2 ((HPR.out.up HB1.out).up hb2) HRO.out.2 HLE2.out
      rw [← HC1.out] at hq1
      rw [← HC2.out] at hq2
      have hq1 := hq1.mono (fun e w' h => (And.intro h.1 h.2.symm : e = _ ∧ w2 = w'))
      have hq2 := hq2.mono (fun e w' h => (And.intro h.1 h.2.symm : e = _ ∧ w2 = w'))
      have HB2 : Hid (Below wr.heap.size wr w2) := below_step HB1.out hb2
      clear hO1 hO2 hb2 hRl hTk
      go_wp2_with (go_at_call 54; (with_reducible first | refine hq1.mono ?_ | refine hq2.mono ?_); rintro e w' ⟨rfl, rfl⟩)
      have hb3 := below_new w2 (.cells #[.int .i64 (C1 : Int), .int .i64 (C2 : Int)] 57)
      have hr3 := (MapKept.heap_alloc w2 (.cells #[.int .i64 (C1 : Int), .int .i64 (C2 : Int)] 57)).1
      have hz3 : (w2.alloc (.cells #[.int .i64 (C1 : Int), .int .i64 (C2 : Int)] 57)).heap.size = w2.heap.size + 1 := by simp
      have c30 : (w2.alloc (.cells #[.int .i64 (C1 : Int), .int .i64 (C2 : Int)] 57)).cell? ⟨w2.heap.size, 0, none⟩ = some (.int .i64 (C1 : Int)) := cell_row hr3 0
      have c31 : (w2.alloc (.cells #[.int .i64 (C1 : Int), .int .i64 (C2 : Int)] 57)).cell? ⟨w2.heap.size, 1, none⟩ = some (.int .i64 (C2 : Int)) := cell_row hr3 1
      have hO3 := owns_up HOW.out (below_step HB2.out hb3)
      have HB3 : Hid (Below (w.heap.size + 1) w0 (w2.alloc (.cells #[.int .i64 (C1 : Int), .int .i64 (C2 : Int)] 57))) := HW.out.trans ((below_step HB2.out hb3).mono (by omega))
      have hzz := (below_step HB2.out hb3).size
      clear hr3 hb3 hq1 hq2
      generalize w2.alloc (.cells #[.int .i64 (C1 : Int), .int .i64 (C2 : Int)] 57) = w3 at *
      have hO4 : (w3.alloc (.cells #[.int .i64 (C1 : Int), .int .i64 (C2 : Int)] 57)).drew.ownsRow (w.heap.size + 1) 57 2 (.slice av M cv) M (encV (tk.map lnV)) := World.ownsRow.alloc hO3 _
      have hB4 : (w3.alloc (.cells #[.int .i64 (C1 : Int), .int .i64 (C2 : Int)] 57)).drew.heap[w2.heap.size + 1]? = some (.cells #[.int .i64 (C1 : Int), .int .i64 (C2 : Int)] 57 (0, 0)) := by rw [← hz3]; exact (MapKept.heap_alloc w3 _).1
      have hz4 : w.heap.size + 1 ≤ (w3.alloc (.cells #[.int .i64 (C1 : Int), .int .i64 (C2 : Int)] 57)).drew.heap.size := by simp; omega
      have hn4 : M ≤ 1000000 := by omega
      have HFIN : Hid (∀ v5 w5, (w3.alloc (.cells #[.int .i64 (C1 : Int), .int .i64 (C2 : Int)] 57)).drew.grownBy w5 (Value.slice av M cv).ownBlock → w5.ownsRow (w.heap.size + 1) 57 2 v5 (M + 1) (encV (tk.map lnV ++ [(.int .i64 (C1 : Int), .int .i64 (C2 : Int))])) → w5.ownsRow (w.heap.size + 1) 57 2 v5 (tk ++ [(C1, C2)]).length (encV ((tk ++ [(C1, C2)]).map lnV)) ∧ Below (w.heap.size + 1) w0 w5) := fun v5 w5 hg ho => by
        refine ⟨?_, ?_⟩
        · rw [List.length_append, HTL.out, List.map_append]; exact ho
        · have e2 : Below (w.heap.size + 1) w0 (w3.alloc (.cells #[.int .i64 (C1 : Int), .int .i64 (C2 : Int)] 57)).drew := HB3.out.trans ((below_new w3 _).drew.mono (by omega))
          exact e2.grown hg hz4 HGE.out
      clear hO3
      go_region_law ((refine stepg_pv Try.underlying89 Try.infoLn rfl (by decide) rfl _ _ rfl (w.heap.size + 1) (.slice av M cv) M (tk.map lnV) (.int .i64 (C1 : Int)) (.int .i64 (C2 : Int)) (w2.heap.size + 1) rfl rfl hO4 hB4 rfl rfl hn4 hz4 ?_; intro v5 w5 hown5 hgr5))
      all_goals
        obtain ⟨f1, f2⟩ := HFIN.out v5 w5 hgr5 hown5
        have HF1 : Hid _ := f1
        have HF2 : Hid _ := f2
        clear f1 f2 hO4 hB4 hown5 hgr5
        go_wp2
        go_roundw
        case rel =>
          refine ⟨k + 1, by omega, by go_num, ⟨tk ++ [(C1, C2)], HF1, ?_, ?_⟩, HF2⟩
          · exact HNX2.out.symm
          · show _ ≤ _
            rw [List.length_append, HTL.out]; simp; omega
        case measure => simp [intOf] <;> omega
    · obtain rfl : k = len := by omega
      have he := HE.out
      rw [List.take_of_length_le (by have := HLEN.out; omega), HG.out.fin] at he
      subst he
      obtain ⟨av, cv, bv, rfl, _, _, hcut, hpr⟩ := pr_cut (T := 89) Try.underlying89 Try.sizeLn HO.out (m := 0) (Nat.zero_le _)
      obtain ⟨a2, cap2, e2, h21, h22, h23, _, _⟩ := own_pre HO.out (Nat.le_refl _)
      injection e2 with e2 _ e3
      subst e2 e3
      obtain ⟨x, rfl⟩ : ∃ x, av = some x := by
        cases av with
        | none => have := h23 rfl; simp at h21; omega
        | some x => exact ⟨x, rfl⟩
      have hget : ∃ g o, (∀ w', (Instr.indexAt 89 (.slice (some x) 1 cv) (.int .i64 0)).run Try.prog w' = .ok (.pointer (some ⟨g, o, none⟩)) w') ∧ wr.cell? ⟨g, o, none⟩ = some (.int .i64 ((mm q).1 : Int)) ∧ wr.cell? ⟨g, o + 1, none⟩ = some (.int .i64 ((mm q).2 : Int)) := pr_first (T := 89) Try.underlying89 Try.sizeLn HO.out
      obtain ⟨g2, o2, hi2, c20, c21⟩ := hget
      have hrr := (HW.out.block w.heap.size (by omega)).trans HR0.out
      have r0 := cell_row hrr 0
      have r1 := cell_row hrr 1
      have f0 := frozen_of_row _ _ 0 _ _ hrr
      have f1 := frozen_of_row _ _ 1 _ _ hrr
      simp at r0 r1
      have HRR : Hid _ := hrr
      have HF : Hid (Below w.heap.size w ((wr.setCell ⟨w.heap.size, 0, none⟩ (.int .i64 ((mm q).1 : Int))).setCell ⟨w.heap.size, 1, none⟩ (.int .i64 ((mm q).2 : Int)))) := (HWW.out.setCell (Nat.le_refl _) _).setCell (Nat.le_refl _) _
      clear hpr hcut hrr HO HE h21 h22 h23
      go_wp2
      have f := setk_cells HRR.out (.int .i64 ((mm q).1 : Int)) (.int .i64 ((mm q).2 : Int))
      refine bodyPost_ret (v := .agg #[.int .i64 ((mm q).1 : Int), .int .i64 ((mm q).2 : Int)]) (by simp [results, Try.results31, go_sem, f.1, f.2]) rfl ⟨rfl, HF.out⟩
end Go.Proofs.Ytfgaieefejdkbaa
namespace Go.Proofs.Ytfgaieefejdkbaa
open Go.RowKit Go.Maps

/-- A pair of lists of tokens in memory. -/
def Two (w : World) (y : Pv) (j : Kq) : Prop := ∃ a1 l1 c1 a2 l2 c2, y = (.slice a1 l1 c1, .slice a2 l2 c2) ∧ TkSl w a1 l1 c1 j.1 ∧ TkSl w a2 l2 c2 j.2
theorem Two.up {w w' : World} {y : Pv} {j : Kq} (h : Two w y j) (hb : Below w.heap.size w w') : Two w' y j := by
  obtain ⟨a1, l1, c1, a2, l2, c2, e, h1, h2⟩ := h
  exact ⟨a1, l1, c1, a2, l2, c2, e, h1.up hb, h2.up hb⟩
/-- Pairs, one by one. -/
inductive Twos (w : World) : List Pv → List Kq → Prop where
  | nil : Twos w [] []
  | cons {y : Pv} {j : Kq} {ys : List Pv} {js : List Kq} : Two w y j → Twos w ys js → Twos w (y :: ys) (j :: js)
theorem Twos.up {w w' : World} (hb : Below w.heap.size w w') : ∀ {ys : List Pv} {js : List Kq}, Twos w ys js → Twos w' ys js
  | _, _, .nil => .nil
  | _, _, .cons h t => .cons (h.up hb) (t.up hb)
theorem Twos.len {w : World} : ∀ {ys : List Pv} {js : List Kq}, Twos w ys js → ys.length = js.length
  | _, _, .nil => rfl
  | _, _, .cons _ t => by simp [t.len]
theorem Twos.take {w : World} : ∀ {ys : List Pv} {js : List Kq} (m : Nat), Twos w ys js → Twos w (ys.take m) (js.take m)
  | _, _, 0, _ => .nil
  | _, _, _ + 1, .nil => .nil
  | _, _, m + 1, .cons h t => .cons h (t.take m)
theorem Twos.drop {w : World} : ∀ {ys : List Pv} {js : List Kq} (m : Nat), Twos w ys js → Twos w (ys.drop m) (js.drop m)
  | _, _, 0, h => h
  | _, _, _ + 1, .nil => .nil
  | _, _, m + 1, .cons _ t => t.drop m
theorem Twos.snoc {w : World} {y : Pv} {j : Kq} (h : Two w y j) : ∀ {ys : List Pv} {js : List Kq}, Twos w ys js → Twos w (ys ++ [y]) (js ++ [j])
  | _, _, .nil => .cons h .nil
  | _, _, .cons a t => .cons a (t.snoc h)
theorem Twos.get {w : World} : ∀ {ys : List Pv} {js : List Kq} (k : Nat), Twos w ys js → k < ys.length → ∃ y, ys.getD k y = y ∧ Two w y (js.getD k ([], []))
  | _, _, k, .nil, h => absurd h (by simp)
  | y :: _, _, 0, .cons a _, _ => ⟨y, rfl, a⟩
  | _, _, k + 1, .cons _ t, h => by
    obtain ⟨y, h1, h2⟩ := t.get k (by simpa using h)
    exact ⟨y, h1, h2⟩
theorem Twos.ok {w : World} : ∀ {ys : List Pv} {js : List Kq}, Twos w ys js → ∀ j ∈ js, ∀ t, t ∈ j.1 ∨ t ∈ j.2 → t.1 < 256 ∧ t.2 < 256
  | _, _, .nil, j, hj => absurd hj (by simp)
  | _, _, .cons h t, j, hj => by
    rcases List.mem_cons.1 hj with rfl | hj
    · obtain ⟨a1, l1, c1, a2, l2, c2, e, h1, h2⟩ := h
      exact fun t ht => ht.elim (h1.ok t) (h2.ok t)
    · exact t.ok j hj
theorem wrS_ok {op p : Nat} (ho : op < 256) (hp : p < 256) {js : List Kq} (hj : ∀ j ∈ js, ∀ t, t ∈ j.1 ∨ t ∈ j.2 → t.1 < 256 ∧ t.2 < 256) {os : List Nat} (hos : ∀ o ∈ os, o < 28) : ∀ t ∈ wrS os (op, p) js, t.1 < 256 ∧ t.2 < 256 := by
  intro t ht
  obtain ⟨o, ho', ht⟩ := List.mem_flatMap.1 ht
  have h0 : ∀ t, t ∈ (js.getD 0 ([], [])).1 ∨ t ∈ (js.getD 0 ([], [])).2 → t.1 < 256 ∧ t.2 < 256 := by
    match js, hj with
    | [], _ => intro t h; simp at h
    | j :: _, hj => exact hj j (by simp)
  have h1 : ∀ t, t ∈ (js.getD 1 ([], [])).1 ∨ t ∈ (js.getD 1 ([], [])).2 → t.1 < 256 ∧ t.2 < 256 := by
    match js, hj with
    | [], _ => intro t h; simp at h
    | [_], _ => intro t h; simp at h
    | _ :: j :: _, hj => exact hj j (by simp)
  unfold wr1 at ht
  split at ht
  · exact h0 t (Or.inl ht)
  · split at ht
    · exact h0 t (Or.inr ht)
    · split at ht
      · exact h1 t (Or.inl ht)
      · split at ht
        · exact h1 t (Or.inr ht)
        · split at ht
          · simp at ht; subst ht; exact ⟨ho, hp⟩
          · simp at ht; subst ht; exact ⟨by have := hos o ho'; dsimp only; omega, by show 0 < 256; decide⟩
/-- What write answers. -/
def WriteR (T : List Tk) (w : World) (e : Ending) (w' : World) : Prop := ∃ v, e = .returned v ∧ w'.ownsRow w.heap.size 37 2 v T.length (encT T) ∧ Below w.heap.size w w'
set_option maxRecDepth 100000 in
set_option maxHeartbeats 8000000 in
theorem Try.kwrite_any (a : Option Addr) (cap : Nat) (os : List Nat) (op p : Nat) (b : Option Addr) (n c : Nat) (ys : List Pv) (js : List Kq) (w : World) (hO : OpsL w a os.length cap os) (hV : PrAt 78 w b n c ys) (hJ : Twos w ys js) (hok : OpsOk os n) (hop : op < 256) (hp : p < 256) (hbd : (wrS os (op, p) js).length ≤ 100000) :
    Calls Try.prog 47 #[.slice a os.length cap, .agg #[.int .u8 (op : Int), .int .u8 (p : Int)], .slice b n c] w (WriteR (wrS os (op, p) js) w) := by
  have HOK : Hid (OpsOk os n) := hok
  have HO : Hid (OpsL w a os.length cap os) := hO
  have HV : Hid (PrAt 78 w b n c ys) := hV
  have HJ : Hid (Twos w ys js) := hJ
  have HBD : Hid ((wrS os (op, p) js).length ≤ 100000) := hbd
  have HL : Hid (os.length ≤ 100) := hok.1
  clear hok hO hV hJ hbd
  obtain ⟨len, hlen⟩ : ∃ len, len = os.length := ⟨_, rfl⟩
  have HLEN : Hid (len = os.length) := hlen
  rw [← hlen] at HO ⊢
  have hl100 : len ≤ 100 := by have := HL.out; omega
  clear hlen
  have HB0 : Hid (Below w.heap.size w (w.alloc (.cells #[.int .u8 (op : Int), .int .u8 (p : Int)] 37))) := below_new _ _
  have HR0 : Hid _ := (MapKept.heap_alloc w (.cells #[.int .u8 (op : Int), .int .u8 (p : Int)] 37)).1
  have HZ0 : Hid ((w.alloc (.cells #[.int .u8 (op : Int), .int .u8 (p : Int)] 37)).heap.size = w.heap.size + 1) := by show _ = _; simp
  go_enter Try.func47, Try.ntmps47
  go_wp2
  generalize w.alloc (.cells #[.int .u8 (op : Int), .int .u8 (p : Int)] 37) = w0 at *
  go_loopw [7, 12] (fun v i wr => ∃ k : Nat, k ≤ len ∧ i = .int .i64 k ∧ Hid (wr.ownsRow (w.heap.size + 1) 37 2 v (wrS (os.take k) (op, p) js).length (encT (wrS (os.take k) (op, p) js))) ∧ Hid (Below (w.heap.size + 1) w0 wr)) (fun _ i _ => len - (intOf i).toNat)
  case atStart => exact ⟨0, Nat.zero_le _, rfl, ⟨rfl, Or.inl ⟨rfl, rfl⟩⟩, Below.refl _ _⟩
  case round =>
    obtain ⟨k, hk, rfl, HM, HW⟩ := hrel
    have hz0 := HZ0.out
    have hszr := HW.out.size
    have HWW : Hid (Below w.heap.size w wr) := HB0.out.trans (HW.out.mono (by omega))
    by_cases hlt : k < len
    · have hxl : k < os.length := by have := HLEN.out; omega
      have hi := IntSl.idx HO.out len k
      have hidx := fun w' => hi w' hlt (Nat.le_refl _)
      have hce := IntSl.cell (IntSl.up HO.out HWW.out) k hlt
      rw [show (os.map fun o : Nat => (o : Int)).getD k 0 = (os[k] : Int) by simp [List.getD_eq_getElem?_getD, List.getElem?_eq_getElem hxl]] at hce
      have HNX : Hid (wrS (os.take (k + 1)) (op, p) js = wrS (os.take k) (op, p) js ++ wr1 (op, p) js os[k]) := by
        show _ = _
        rw [List.take_add_one, List.getElem?_eq_getElem hxl]
        show wrS (os.take k ++ [os[k]]) (op, p) js = _
        rw [wrS_snoc]
      have hoo := HOK.out.2 os[k] (List.getElem_mem hxl)
      have hbk := wrS_take os (op, p) js (k + 1)
      rw [HNX.out, List.length_append] at hbk
      have hbd := HBD.out
      generalize os[k] = o at *
      generalize adOf a k = A0 at *
      obtain ⟨g0, o0, s0⟩ := A0
      clear hi
      generalize wrS (os.take k) (op, p) js = xs at *
      have HGE := own_ge HM.out
      have HGH : Hid _ := HGE
      clear HGE
      by_cases e24 : o = 24
      · subst e24
        have hn1 : 1 ≤ n := hoo.2.1 (Or.inl rfl)
        obtain ⟨y, hy, a1, l1, c1, a2, l2, c2, rfl, hT1, hT2⟩ := HJ.out.get 0 (by have := HV.out.len; omega)
        obtain ⟨g2, o2, j0, d0, d1⟩ := (HV.out.up HWW.out).at0 hn1 hy
        have HNX2 : Hid (wrS (os.take (k + 1)) (op, p) js = xs ++ (js.getD 0 ([], [])).1) := HNX.out
        have hbk2 : xs.length + (js.getD 0 ([], [])).1.length ≤ (wrS os (op, p) js).length := hbk
        have hTT := hT1.up HWW.out
        have HTT : Hid _ := hTT
        clear HNX hbk hoo hT1 hT2 hTT hy
        generalize (js.getD 0 ([], [])).1 = tj at *
        go_wp2_with (at_builtin; refine Try.append_tks rfl _ _ rfl (w.heap.size + 1) _ xs tj a1 l1 c1 rfl rfl HM.out HTT.out (by omega) (by omega) (by omega) ?_)
        intro v5 w5 hown5 hgr5
        have HF1 : Hid (w5.ownsRow (w.heap.size + 1) 37 2 v5 (xs ++ tj).length (encT (xs ++ tj))) := by show World.ownsRow _ _ _ _ _ _ _; rw [List.length_append]; exact hown5
        have HF2 : Hid (Below (w.heap.size + 1) w0 w5) := HW.out.grown hgr5 (by omega) HGH.out
        clear hown5 hgr5
        go_wp2
        go_roundw
        case rel =>
          refine ⟨k + 1, by omega, by go_num, ?_, HF2⟩
          show World.ownsRow _ _ _ _ _ _ _
          rw [HNX2.out]; exact HF1.out
        case measure => simp [intOf] <;> omega
      by_cases e25 : o = 25
      · subst e25
        have hn1 : 1 ≤ n := hoo.2.1 (Or.inr rfl)
        obtain ⟨y, hy, a1, l1, c1, a2, l2, c2, rfl, hT1, hT2⟩ := HJ.out.get 0 (by have := HV.out.len; omega)
        obtain ⟨g2, o2, j0, d0, d1⟩ := (HV.out.up HWW.out).at0 hn1 hy
        have HNX2 : Hid (wrS (os.take (k + 1)) (op, p) js = xs ++ (js.getD 0 ([], [])).2) := HNX.out
        have hbk2 : xs.length + (js.getD 0 ([], [])).2.length ≤ (wrS os (op, p) js).length := hbk
        have hTT := hT2.up HWW.out
        have HTT : Hid _ := hTT
        clear HNX hbk hoo hT1 hT2 hTT hy
        generalize (js.getD 0 ([], [])).2 = tj at *
        go_wp2_with (at_builtin; refine Try.append_tks rfl _ _ rfl (w.heap.size + 1) _ xs tj a2 l2 c2 rfl rfl HM.out HTT.out (by omega) (by omega) (by omega) ?_)
        intro v5 w5 hown5 hgr5
        have HF1 : Hid (w5.ownsRow (w.heap.size + 1) 37 2 v5 (xs ++ tj).length (encT (xs ++ tj))) := by show World.ownsRow _ _ _ _ _ _ _; rw [List.length_append]; exact hown5
        have HF2 : Hid (Below (w.heap.size + 1) w0 w5) := HW.out.grown hgr5 (by omega) HGH.out
        clear hown5 hgr5
        go_wp2
        go_roundw
        case rel =>
          refine ⟨k + 1, by omega, by go_num, ?_, HF2⟩
          show World.ownsRow _ _ _ _ _ _ _
          rw [HNX2.out]; exact HF1.out
        case measure => simp [intOf] <;> omega
      by_cases e26 : o = 26
      · subst e26
        have hn2 : 2 ≤ n := hoo.2.2 (Or.inl rfl)
        obtain ⟨y, hy, a1, l1, c1, a2, l2, c2, rfl, hT1, hT2⟩ := HJ.out.get 1 (by have := HV.out.len; omega)
        obtain ⟨g2, o2, j0, d0, d1⟩ := (HV.out.up HWW.out).at1 hn2 hy
        have HNX2 : Hid (wrS (os.take (k + 1)) (op, p) js = xs ++ (js.getD 1 ([], [])).1) := HNX.out
        have hbk2 : xs.length + (js.getD 1 ([], [])).1.length ≤ (wrS os (op, p) js).length := hbk
        have hTT := hT1.up HWW.out
        have HTT : Hid _ := hTT
        clear HNX hbk hoo hT1 hT2 hTT hy
        generalize (js.getD 1 ([], [])).1 = tj at *
        go_wp2_with (at_builtin; refine Try.append_tks rfl _ _ rfl (w.heap.size + 1) _ xs tj a1 l1 c1 rfl rfl HM.out HTT.out (by omega) (by omega) (by omega) ?_)
        intro v5 w5 hown5 hgr5
        have HF1 : Hid (w5.ownsRow (w.heap.size + 1) 37 2 v5 (xs ++ tj).length (encT (xs ++ tj))) := by show World.ownsRow _ _ _ _ _ _ _; rw [List.length_append]; exact hown5
        have HF2 : Hid (Below (w.heap.size + 1) w0 w5) := HW.out.grown hgr5 (by omega) HGH.out
        clear hown5 hgr5
        go_wp2
        go_roundw
        case rel =>
          refine ⟨k + 1, by omega, by go_num, ?_, HF2⟩
          show World.ownsRow _ _ _ _ _ _ _
          rw [HNX2.out]; exact HF1.out
        case measure => simp [intOf] <;> omega
      by_cases e27 : o = 27
      · subst e27
        have hn2 : 2 ≤ n := hoo.2.2 (Or.inr rfl)
        obtain ⟨y, hy, a1, l1, c1, a2, l2, c2, rfl, hT1, hT2⟩ := HJ.out.get 1 (by have := HV.out.len; omega)
        obtain ⟨g2, o2, j0, d0, d1⟩ := (HV.out.up HWW.out).at1 hn2 hy
        have HNX2 : Hid (wrS (os.take (k + 1)) (op, p) js = xs ++ (js.getD 1 ([], [])).2) := HNX.out
        have hbk2 : xs.length + (js.getD 1 ([], [])).2.length ≤ (wrS os (op, p) js).length := hbk
        have hTT := hT2.up HWW.out
        have HTT : Hid _ := hTT
        clear HNX hbk hoo hT1 hT2 hTT hy
        generalize (js.getD 1 ([], [])).2 = tj at *
        go_wp2_with (at_builtin; refine Try.append_tks rfl _ _ rfl (w.heap.size + 1) _ xs tj a2 l2 c2 rfl rfl HM.out HTT.out (by omega) (by omega) (by omega) ?_)
        intro v5 w5 hown5 hgr5
        have HF1 : Hid (w5.ownsRow (w.heap.size + 1) 37 2 v5 (xs ++ tj).length (encT (xs ++ tj))) := by show World.ownsRow _ _ _ _ _ _ _; rw [List.length_append]; exact hown5
        have HF2 : Hid (Below (w.heap.size + 1) w0 w5) := HW.out.grown hgr5 (by omega) HGH.out
        clear hown5 hgr5
        go_wp2
        go_roundw
        case rel =>
          refine ⟨k + 1, by omega, by go_num, ?_, HF2⟩
          show World.ownsRow _ _ _ _ _ _ _
          rw [HNX2.out]; exact HF1.out
        case measure => simp [intOf] <;> omega
      have q24 : ((o : Int) == 24) = false := by rw [beq_eq_false_iff_ne]; omega
      have q25 : ((o : Int) == 25) = false := by rw [beq_eq_false_iff_ne]; omega
      have q26 : ((o : Int) == 26) = false := by rw [beq_eq_false_iff_ne]; omega
      have q27 : ((o : Int) == 27) = false := by rw [beq_eq_false_iff_ne]; omega
      by_cases e2 : o = 2
      · subst e2
        clear q24 q25 q26 q27
        have hrr := (HW.out.block w.heap.size (by omega)).trans HR0.out
        have r0 : wr.cell? ⟨w.heap.size, 0, none⟩ = some (.int .u8 (op : Int)) := cell_row hrr 0
        have r1 : wr.cell? ⟨w.heap.size, 1, none⟩ = some (.int .u8 (p : Int)) := cell_row hrr 1
        clear hrr
        have HNX2 : Hid (wrS (os.take (k + 1)) (op, p) js = xs ++ [(op, p)]) := HNX.out
        have hbk2 : xs.length ≤ (wrS os (op, p) js).length := by omega
        have hb6 := below_new wr (.cells #[.int .u8 (op : Int), .int .u8 (p : Int)] 37)
        have HB6 : Hid (Below (w.heap.size + 1) w0 (wr.alloc (.cells #[.int .u8 (op : Int), .int .u8 (p : Int)] 37))) := HW.out.trans (hb6.mono (by omega))
        have HTT : Hid (TkSl (wr.alloc (.cells #[.int .u8 (op : Int), .int .u8 (p : Int)] 37)) (some ⟨wr.heap.size, 0, none⟩) 1 1 [(op, p)]) := blk_tk (Blk.new wr 37 op p) (by omega) (by omega)
        have HM6 : Hid ((wr.alloc (.cells #[.int .u8 (op : Int), .int .u8 (p : Int)] 37)).ownsRow (w.heap.size + 1) 37 2 _ xs.length (encT xs)) := owns_up HM.out hb6
        have hz6 : (wr.alloc (.cells #[.int .u8 (op : Int), .int .u8 (p : Int)] 37)).heap.size = wr.heap.size + 1 := by simp
        clear HNX hbk hoo hb6
        go_wp2_with (at_builtin; refine Try.append_tks rfl _ _ rfl (w.heap.size + 1) _ xs [(op, p)] (some ⟨wr.heap.size, 0, none⟩) 1 1 rfl rfl HM6.out HTT.out (by omega) (by simp) (by rw [hz6]; omega) ?_)
        intro v5 w5 hown5 hgr5
        have HF1 : Hid (w5.ownsRow (w.heap.size + 1) 37 2 v5 (xs ++ [(op, p)]).length (encT (xs ++ [(op, p)]))) := by show World.ownsRow _ _ _ _ _ _ _; rw [List.length_append]; exact hown5
        have HF2 : Hid (Below (w.heap.size + 1) w0 w5) := HB6.out.grown hgr5 (by rw [hz6]; omega) HGH.out
        clear hown5 hgr5
        go_wp2
        go_roundw
        case rel =>
          refine ⟨k + 1, by omega, by go_num, ?_, HF2⟩
          show World.ownsRow _ _ _ _ _ _ _
          rw [HNX2.out]; exact HF1.out
        case measure => simp [intOf] <;> omega
      · have q2 : ((o : Int) == 2) = false := by rw [beq_eq_false_iff_ne]; omega
        have HNX2 : Hid (wrS (os.take (k + 1)) (op, p) js = xs ++ [(o, 0)]) := by
          show _ = _
          rw [HNX.out]; unfold wr1; rw [if_neg e24, if_neg e25, if_neg e26, if_neg e27, if_neg e2]
        have hbk2 : xs.length ≤ (wrS os (op, p) js).length := by omega
        have hb6 := below_new wr (.cells #[.int .u8 (o : Int), .int .u8 0] 37)
        have HB6 : Hid (Below (w.heap.size + 1) w0 (wr.alloc (.cells #[.int .u8 (o : Int), .int .u8 0] 37))) := HW.out.trans (hb6.mono (by omega))
        have HTT : Hid (TkSl (wr.alloc (.cells #[.int .u8 (o : Int), .int .u8 0] 37)) (some ⟨wr.heap.size, 0, none⟩) 1 1 [(o, 0)]) := blk_tk (Blk.new wr 37 o 0) (by omega) (by omega)
        have HM6 : Hid ((wr.alloc (.cells #[.int .u8 (o : Int), .int .u8 0] 37)).ownsRow (w.heap.size + 1) 37 2 _ xs.length (encT xs)) := owns_up HM.out hb6
        have hz6 : (wr.alloc (.cells #[.int .u8 (o : Int), .int .u8 0] 37)).heap.size = wr.heap.size + 1 := by simp
        clear HNX hbk hoo hb6
        go_wp2_with (at_builtin; refine Try.append_tks rfl _ _ rfl (w.heap.size + 1) _ xs [(o, 0)] (some ⟨wr.heap.size, 0, none⟩) 1 1 rfl rfl HM6.out HTT.out (by omega) (by simp) (by rw [hz6]; omega) ?_)
        intro v5 w5 hown5 hgr5
        have HF1 : Hid (w5.ownsRow (w.heap.size + 1) 37 2 v5 (xs ++ [(o, 0)]).length (encT (xs ++ [(o, 0)]))) := by show World.ownsRow _ _ _ _ _ _ _; rw [List.length_append]; exact hown5
        have HF2 : Hid (Below (w.heap.size + 1) w0 w5) := HB6.out.grown hgr5 (by rw [hz6]; omega) HGH.out
        clear hown5 hgr5
        go_wp2
        go_roundw
        case rel =>
          refine ⟨k + 1, by omega, by go_num, ?_, HF2⟩
          show World.ownsRow _ _ _ _ _ _ _
          rw [HNX2.out]; exact HF1.out
        case measure => simp [intOf] <;> omega
    · obtain rfl : k = len := by omega
      have hM := HM.out
      rw [List.take_of_length_le (by have := HLEN.out; omega)] at hM
      obtain ⟨av, cv, rfl, _⟩ := own_pre hM (Nat.le_refl _)
      have HF : Hid (wr.ownsRow w.heap.size 37 2 (.slice av (wrS os (op, p) js).length cv) (wrS os (op, p) js).length (encT (wrS os (op, p) js))) := owns_base hM (Nat.le_succ _)
      clear hM
      clear HM
      go_wp2
      go_ret
      exact ⟨_, rfl, HF.out, HWW.out⟩
end Go.Proofs.Ytfgaieefejdkbaa
namespace Go.Proofs.Ytfgaieefejdkbaa
open Go.RowKit Go.Maps

/-- A pair of rows of tokens of the call's own. -/
def Own2 (w : World) (base : Nat) (y : Pv) (j : Kq) : Prop := w.ownsRow base 37 2 y.1 j.1.length (encT j.1) ∧ w.ownsRow base 37 2 y.2 j.2.length (encT j.2) ∧ ∀ t, t ∈ j.1 ∨ t ∈ j.2 → t.1 < 256 ∧ t.2 < 256
inductive Ons (w : World) (base : Nat) : List Pv → List Kq → Prop where
  | nil : Ons w base [] []
  | cons {y : Pv} {j : Kq} {ys : List Pv} {js : List Kq} : Own2 w base y j → Ons w base ys js → Ons w base (y :: ys) (j :: js)
theorem Ons.keep {w w' : World} {base : Nat} (hk : ∀ y j, Own2 w base y j → Own2 w' base y j) : ∀ {ys : List Pv} {js : List Kq}, Ons w base ys js → Ons w' base ys js
  | _, _, .nil => .nil
  | _, _, .cons h t => .cons (hk _ _ h) (t.keep hk)
theorem Ons.len {w : World} {base : Nat} : ∀ {ys : List Pv} {js : List Kq}, Ons w base ys js → ys.length = js.length
  | _, _, .nil => rfl
  | _, _, .cons _ t => by simp [t.len]
theorem Ons.take {w : World} {base : Nat} : ∀ {ys : List Pv} {js : List Kq} (m : Nat), Ons w base ys js → Ons w base (ys.take m) (js.take m)
  | _, _, 0, _ => .nil
  | _, _, _ + 1, .nil => .nil
  | _, _, m + 1, .cons h t => .cons h (t.take m)
theorem Ons.drop {w : World} {base : Nat} : ∀ {ys : List Pv} {js : List Kq} (m : Nat), Ons w base ys js → Ons w base (ys.drop m) (js.drop m)
  | _, _, 0, h => h
  | _, _, _ + 1, .nil => .nil
  | _, _, m + 1, .cons _ t => t.drop m
theorem Ons.snoc {w : World} {base : Nat} {y : Pv} {j : Kq} (h : Own2 w base y j) : ∀ {ys : List Pv} {js : List Kq}, Ons w base ys js → Ons w base (ys ++ [y]) (js ++ [j])
  | _, _, .nil => .cons h .nil
  | _, _, .cons a t => .cons a (t.snoc h)
theorem Own2.two {w : World} {base : Nat} {y : Pv} {j : Kq} (h : Own2 w base y j) : Two w y j := by
  obtain ⟨h1, h2, h3⟩ := h
  obtain ⟨a1, c1, e1, t1, _⟩ := own_tk h1 (fun t ht => h3 t (Or.inl ht))
  obtain ⟨a2, c2, e2, t2, _⟩ := own_tk h2 (fun t ht => h3 t (Or.inr ht))
  exact ⟨a1, _, c1, a2, _, c2, Prod.ext e1 e2, t1, t2⟩
theorem Ons.twos {w : World} {base : Nat} : ∀ {ys : List Pv} {js : List Kq}, Ons w base ys js → Twos w ys js
  | _, _, .nil => .nil
  | _, _, .cons h t => .cons h.two t.twos
theorem Own2.up {w w' : World} {base : Nat} {y : Pv} {j : Kq} (hb : Below w.heap.size w w') (h : Own2 w base y j) : Own2 w' base y j := ⟨owns_up h.1 hb, owns_up h.2.1 hb, h.2.2⟩
/-- A row that grows is no row of another type. -/
theorem owns_far {w w' : World} {base base' e e' size size' n m : Nat} {y v : Value} {xs zs : List Value} (h : w.ownsRow base e size y n xs) (hv : w.ownsRow base' e' size' v m zs) (hne : e ≠ e') (hg : w.grownBy w' v.ownBlock) : w'.ownsRow base e size y n xs := by
  obtain ⟨hl, h⟩ := h
  refine ⟨hl, h.imp id ?_⟩
  rintro ⟨g, cap, cur, rfl, hb, hcell, r⟩
  refine ⟨g, cap, cur, rfl, hb, (hg.block g (Array.getElem?_eq_some_iff.1 hcell).1 (fun e => ?_)).trans hcell, r⟩
  rcases hv.2 with ⟨rfl, _⟩ | ⟨g', cap', cur', rfl, _, hcell', _⟩
  · cases e
  · injection e with e
    dsimp only at e
    subst e
    rw [hcell] at hcell'
    injection hcell' with hcell'
    injection hcell' with _ hc _
    exact hne hc
theorem Own2.far {w w' : World} {base base' m : Nat} {v : Value} {zs : List Value} (hv : w.ownsRow base' 49 2 v m zs) (hg : w.grownBy w' v.ownBlock) {y : Pv} {j : Kq} (h : Own2 w base y j) : Own2 w' base y j :=
  ⟨owns_far h.1 hv (by decide) hg, owns_far h.2.1 hv (by decide) hg, h.2.2⟩
/-- A block of another type is none of the row's. -/
theorem owns_off {w w' : World} {base e e' size n mb : Nat} {y : Value} {xs : List Value} {cs : Array Value} (h : w.ownsRow base e size y n xs) (hv : w.heap[mb]? = some (.cells cs e' (0, 0))) (hne : e ≠ e') (hg : w.grownBy w' (some mb)) : w'.ownsRow base e size y n xs := by
  obtain ⟨hl, h⟩ := h
  refine ⟨hl, h.imp id ?_⟩
  rintro ⟨g, cap, cur, rfl, hb, hcell, r⟩
  refine ⟨g, cap, cur, rfl, hb, (hg.block g (Array.getElem?_eq_some_iff.1 hcell).1 (fun e => ?_)).trans hcell, r⟩
  injection e with e
  subst e
  rw [hcell] at hv
  injection hv with hv
  injection hv with _ hc _
  exact hne hc
theorem set_two (w : World) (r : Nat) (u v : Value) : w.grownBy ((w.setCell ⟨r, 0, none⟩ u).setCell ⟨r, 1, none⟩ v) (some r) := ⟨rfl, rfl, rfl, by simp, fun k hk hne => (Below.heap_setCell _ _ _ _ (fun e => hne (congrArg some e))).trans (Below.heap_setCell _ _ _ _ (fun e => hne (congrArg some e)))⟩
/-- The pair that was made, in its variable. -/
def Made (w2 wx : World) (base mb : Nat) (y1 y2 : Value) (T1 T2 : List Tk) : Prop := wx.heap[mb]? = some (.cells #[y1, y2] 49 (0, 0)) ∧ Own2 wx base (y1, y2) (T1, T2) ∧ Below w2.heap.size w2 wx ∧ mb < wx.heap.size
theorem made_new {w2 w4 : World} {base : Nat} {y1 y2 : Value} {T1 T2 : List Tk} (hb : Below w2.heap.size w2 w4) (ho : Own2 w4 base (y1, y2) (T1, T2)) : Made w2 (w4.alloc (.cells #[y1, y2] 49)) base w4.heap.size y1 y2 T1 T2 :=
  ⟨(MapKept.heap_alloc w4 _).1, ho.up (below_new _ _), below_step hb (below_new _ _), by simp⟩
theorem made_set {w2 w4 : World} {base mb : Nat} {u v y1 y2 : Value} {T1 T2 : List Tk} (hb : Below w2.heap.size w2 w4) (hmb : w2.heap.size ≤ mb) (hm : w4.heap[mb]? = some (.cells #[u, v] 49 (0, 0))) (ho : Own2 w4 base (y1, y2) (T1, T2)) : Made w2 ((w4.setCell ⟨mb, 0, none⟩ y1).setCell ⟨mb, 1, none⟩ y2) base mb y1 y2 T1 T2 := by
  have hg := set_two w4 mb y1 y2
  refine ⟨?_, ⟨owns_off ho.1 hm (by decide) hg, owns_off ho.2.1 hm (by decide) hg, ho.2.2⟩, (hb.setCell hmb _).setCell hmb _, Nat.lt_of_lt_of_le (Array.getElem?_eq_some_iff.1 hm).1 hg.size⟩
  have h1 := heap_setCell_same w4 mb 0 _ _ y1 hm
  have h2 := heap_setCell_same _ mb 1 _ _ y2 h1
  rw [h2]; rfl
theorem Try.sizePr : (Try.prog.info? 49).map (·.size) = some 2 := by kernel_rfl
theorem Try.infoPr : (Try.prog.info? 49).map (fun i => (i.zero, i.size, i.bytes)) = some (some (.agg #[.slice none 0 0, .slice none 0 0]), 2, 48) := by kernel_rfl
/-- What both answers. -/
def BothR (q : Kq) (w : World) (e : Ending) (w' : World) : Prop := ∃ a1 c1 a2 c2, e = .returned (.agg #[.slice a1 q.1.length c1, .slice a2 q.2.length c2]) ∧ TkSl w' a1 q.1.length c1 q.1 ∧ TkSl w' a2 q.2.length c2 q.2 ∧ Below w.heap.size w w'
set_option maxRecDepth 100000 in
set_option maxHeartbeats 8000000 in
theorem Try.kboth_any (a : Option Addr) (len cap B : Nat) (ts : List Tk) (q : Kq) (w : World) (hT : TkSl w a len cap ts) (hG : JGood B ts q) (hB : B ≤ 100000) :
    Calls Try.prog 28 #[.slice a len cap] w (BothR q w) := by
  have HT : Hid (TkSl w a len cap ts) := hT
  have HLEN : Hid (ts.length = len) := hT.hlen
  have HG : Hid (JGood B ts q) := hG
  have HBB : Hid (B ≤ 100000) := hB
  have hln : len ≤ 2048 := by have := hG.few; have := hT.hlen; omega
  have HB0 : Hid _ := below_new w (.cells #[.slice none 0 0, .slice none 0 0] 49)
  have HR0 : Hid _ := (MapKept.heap_alloc w (.cells #[.slice none 0 0, .slice none 0 0] 49)).1
  have HZ0 : Hid ((w.alloc (.cells #[.slice none 0 0, .slice none 0 0] 49)).heap.size = w.heap.size + 1) := by show _ = _; simp
  clear hT hG hB
  go_enter Try.func28, Try.ntmps28
  go_wp2
  generalize w.alloc (.cells #[.slice none 0 0, .slice none 0 0] 49) = w0 at *
  go_loopw [3, 12] (fun v i wr => ∃ k : Nat, k ≤ len ∧ i = .int .i64 k ∧ (∃ ys : List Pv, Hid (wr.ownsRow (w.heap.size + 1) 49 2 v ys.length (encV ys)) ∧ Hid (Ons wr (w.heap.size + 1) ys (jS (ts.take k) [])) ∧ Hid (ys.length ≤ k)) ∧ Hid (Below (w.heap.size + 1) w0 wr)) (fun _ i _ => len - (intOf i).toNat)
  case atStart => exact ⟨0, Nat.zero_le _, rfl, ⟨[], ⟨rfl, Or.inl ⟨rfl, rfl⟩⟩, .nil, Nat.le_refl _⟩, Below.refl _ _⟩
  case round =>
    obtain ⟨k, hk, rfl, ⟨ys, HO, HE, HLL⟩, HW⟩ := hrel
    have hll := HLL.out
    have hszr := HW.out.size
    have hz0 := HZ0.out
    have HWW : Hid (Below w.heap.size w wr) := HB0.out.trans (HW.out.mono (by omega))
    by_cases hlt : k < len
    · have hxl : k < ts.length := by have := HLEN.out; omega
      obtain ⟨g1, o1, s1, hi1, hx0, hx1, hg1, _⟩ := (HT.out.up HWW.out).at Try.underlying22 Try.sizeTok k hlt
      have hidx := fun w' => hi1 len w' hlt
      clear hi1
      have hok := HG.out.ok k hxl
      have HNX : Hid (jS (ts.take (k + 1)) [] = jStep (jS (ts.take k) []) ts[k]) := jS_next hxl []
      have htok := HT.out.ok ts[k] (List.getElem_mem hxl)
      generalize ts[k] = t at *
      obtain ⟨n, hn⟩ := hok.tk
      have hnC := tak_of hn
      have hnO := takO_of hn
      have hnl := hok.le
      have hl1 := hok.l1
      have hl2 := hok.l2
      have hro := rules_ok hn
      have h23 := tk_le hn
      have hn2 := takesN_le hn
      obtain ⟨op, p⟩ := t
      dsimp only at hx0 hx1 HNX hnO hro h23 htok
      have hTk := fun w' => Try.ktakes_any op w' h23
      rw [hnO] at hTk
      have hRl := fun w' => Try.krule_any op w' h23
      have hel := HE.out.len
      unfold jStep at HNX
      rw [hnC, ← hel] at hl1 hl2 HNX
      rw [hnC, ← hel] at hnl
      obtain ⟨M, hM⟩ : ∃ M, M = ys.length - n := ⟨_, rfl⟩
      rw [← hM] at hl1 hl2 HNX
      obtain ⟨av, cv, bv, rfl, hpre, hown, hcut, hpr⟩ := pr_cut (T := 78) Try.underlying78 Try.sizePr HO.out (m := M) (by omega)
      rw [show ys.length - M = n by omega] at hcut hpr
      have hb1 := below_new wr (.cells #[.int .u8 (op : Int), .int .u8 (p : Int)] 37)
      have hz1 : (wr.alloc (.cells #[.int .u8 (op : Int), .int .u8 (p : Int)] 37)).heap.size = wr.heap.size + 1 := by simp
      have hr1 := (MapKept.heap_alloc wr (.cells #[.int .u8 (op : Int), .int .u8 (p : Int)] 37)).1
      have hwr : IntKind.i64.wrap ((ys.length : Int) - (n : Int)) = (M : Int) := by rw [IntKind.wrap_i64]; omega
      have hML : M ≤ ys.length := by omega
      have HTL : Hid ((ys.take M).length = M) := by show _ = _; simp; omega
      have HOT : Hid _ := HE.out.take M
      have HOD : Hid _ := HE.out.drop M
      have HOW : Hid _ := hown
      have HPR : Hid _ := hpr
      have HRO : Hid _ := hro
      have HB1 : Hid _ := hb1
      have HR1 : Hid _ := hr1
      have HTOK : Hid _ := htok
      have hbb := HBB.out
      have HL1 : Hid _ := Nat.le_trans hl1 hbb
      have HL2 : Hid _ := Nat.le_trans hl2 hbb
      have HGE : Hid (∀ j, (Value.slice av M cv).ownBlock = some j → w.heap.size + 1 ≤ j) := own_ge hown
      have hcA0 : (wr.alloc (.cells #[.int .u8 (op : Int), .int .u8 (p : Int)] 37)).cell? ⟨wr.heap.size, 0, none⟩ = some (.int .u8 (op : Int)) := cell_row hr1 0
      have HRK : Hid _ := rule_ok op h23
      clear hown hpr hro hok hn hnC hnO hnl hb1 HO HE hn2 hM hl1 hl2 hr1 htok hel
      generalize ys.take M = tk at *
      generalize ys.drop M = dk at *
      generalize (jS (ts.take k) []).take M = jtk at *
      generalize (jS (ts.take k) []).drop M = jdk at *
      generalize ys.length = L at *
      go_wp2_with (go_at_call 45; refine (hTk _).mono ?_; rintro e w' ⟨rfl, rfl⟩)
      refine (hRl _).mono ?_
      rintro e w2 ⟨a1, c1, a2, c2, rfl, hO1, hO2, hb2⟩
      have hbd := below_step HB1.out hb2
      have HB2 : Hid (Below wr.heap.size wr w2) := hbd
      have hbD : Below w2.heap.size w2 w2.drew := (Below.refl _ _).drew
      have hsD : w2.drew.heap.size = w2.heap.size := rfl
      have hk0 : w2.drew.cell? ⟨wr.heap.size, 0, none⟩ = some (.int .u8 (op : Int)) ∧ w2.drew.cell? ⟨wr.heap.size, 1, none⟩ = some (.int .u8 (p : Int)) := by
        have := (hb2.block wr.heap.size (by omega)).trans HR1.out
        exact ⟨cell_row this 0, cell_row this 1⟩
      have hoo1 : OpsL w2.drew a1 (rOwn op).length c1 (rOwn op) := IntSl.up hO1 hbD
      have hoo2 : OpsL w2.drew a2 (rNeg op).length c2 (rNeg op) := IntSl.up hO2 hbD
      have hpr2 := HPR.out.up (below_step hbd hbD)
      have hod2 : Ons w2.drew (w.heap.size + 1) dk jdk := HOD.out.keep (fun y j h => h.up (below_step hbd hbD))
      have hq1 := Try.kwrite_any a1 c1 (rOwn op) op p bv n (cv - M) dk jdk w2.drew hoo1 hpr2 hod2.twos HRO.out.1 HTOK.out.1 HTOK.out.2 HL1.out
      have HQ1 : Hid (∀ w3, Below w2.drew.heap.size w2.drew w3 → Calls Try.prog 47 #[.slice a1 (rOwn op).length c1, .agg #[.int .u8 (op : Int), .int .u8 (p : Int)], .slice bv n (cv - M)] w3 (WriteR (wrS (rOwn op) (op, p) jdk) w3)) := fun w3 h3 => Try.kwrite_any a1 c1 (rOwn op) op p bv n (cv - M) dk jdk w3 (IntSl.up hoo1 h3) (hpr2.up h3) (hod2.twos.up h3) HRO.out.1 HTOK.out.1 HTOK.out.2 HL1.out
      have HQ2 : Hid (∀ w3, Below w2.drew.heap.size w2.drew w3 → Calls Try.prog 47 #[.slice a2 (rNeg op).length c2, .agg #[.int .u8 (op : Int), .int .u8 (p : Int)], .slice bv n (cv - M)] w3 (WriteR (wrS (rNeg op) (op, p) jdk) w3)) := fun w3 h3 => Try.kwrite_any a2 c2 (rNeg op) op p bv n (cv - M) dk jdk w3 (IntSl.up hoo2 h3) (hpr2.up h3) (hod2.twos.up h3) HRO.out.2 HTOK.out.1 HTOK.out.2 HL2.out
      have HOKJ : Hid (∀ t, t ∈ wrS (rOwn op) (op, p) jdk ∨ t ∈ wrS (rNeg op) (op, p) jdk → t.1 < 256 ∧ t.2 < 256) := fun t ht => ht.elim (wrS_ok HTOK.out.1 HTOK.out.2 hod2.twos.ok HRK.out.1 t) (wrS_ok HTOK.out.1 HTOK.out.2 hod2.twos.ok HRK.out.2.1 t)
      have HNX2 : Hid (jS (ts.take (k + 1)) [] = jtk ++ [(wrS (rOwn op) (op, p) jdk, wrS (rNeg op) (op, p) jdk)]) := HNX.out
      clear HNX hO1 hO2 hoo1 hoo2 hpr2 hod2 hRl hTk hcA0 HL1 HL2 HRO HOD HPR hbD
      generalize wrS (rOwn op) (op, p) jdk = T1 at *
      generalize wrS (rNeg op) (op, p) jdk = T2 at *
      generalize (rOwn op).length = n1 at *
      generalize (rNeg op).length = n2 at *
      have hq1b := HQ1.out ((w2.alloc (.cells #[.slice none 0 0, .slice none 0 0] 49)).drew) (below_new w2.drew (.cells #[.slice none 0 0, .slice none 0 0] 49))
      have hDw : w.heap.size + 1 ≤ w2.drew.heap.size := by have := hbd.size; rw [hsD]; omega
      have hDz : w.heap.size + 1 ≤ (w2.alloc (.cells #[.slice none 0 0, .slice none 0 0] 49)).drew.heap.size := by simp; omega
      have hDl : w2.heap.size < (w2.alloc (.cells #[.slice none 0 0, .slice none 0 0] 49)).drew.heap.size := by simp
      have hDm : (w2.alloc (.cells #[.slice none 0 0, .slice none 0 0] 49)).drew.heap[w2.heap.size]? = some (.cells #[.slice none 0 0, .slice none 0 0] 49 (0, 0)) := (MapKept.heap_alloc w2 _).1
      have hDb : Below w2.drew.heap.size w2.drew (w2.alloc (.cells #[.slice none 0 0, .slice none 0 0] 49)).drew := below_new w2.drew (.cells #[.slice none 0 0, .slice none 0 0] 49)
      have hkA : (w2.alloc (.cells #[.slice none 0 0, .slice none 0 0] 49)).drew.cell? ⟨wr.heap.size, 0, none⟩ = some (.int .u8 (op : Int)) ∧ (w2.alloc (.cells #[.slice none 0 0, .slice none 0 0] 49)).drew.cell? ⟨wr.heap.size, 1, none⟩ = some (.int .u8 (p : Int)) := ⟨kept_cell hk0.1 hDb, kept_cell hk0.2 hDb⟩
      have hbD2 : Below w2.heap.size w2 w2.drew := (Below.refl _ _).drew
      have hlt2 : wr.heap.size < w2.heap.size := by have := hb2.size; omega
      have hkS : ∀ (W : World) (u v : Value) (mb : Nat), wr.heap.size < mb → W.cell? ⟨wr.heap.size, 0, none⟩ = some (.int .u8 (op : Int)) ∧ W.cell? ⟨wr.heap.size, 1, none⟩ = some (.int .u8 (p : Int)) → ((W.setCell ⟨mb, 0, none⟩ u).setCell ⟨mb, 1, none⟩ v).cell? ⟨wr.heap.size, 0, none⟩ = some (.int .u8 (op : Int)) ∧ ((W.setCell ⟨mb, 0, none⟩ u).setCell ⟨mb, 1, none⟩ v).cell? ⟨wr.heap.size, 1, none⟩ = some (.int .u8 (p : Int)) := fun W u v mb hmb h => ⟨grown_cell h.1 (set_two W mb u v) (fun e => by injection e with e; dsimp only at e; omega), grown_cell h.2 (set_two W mb u v) (fun e => by injection e with e; dsimp only at e; omega)⟩
      go_upto_region 7 with fail
      go_cut [9] (fun t wx => ∃ (mb : Nat) (x1 x2 : Option Addr) (d1 d2 : Nat), t = .pointer (some ⟨mb, 0, none⟩) ∧ Hid (Made w2 wx (w.heap.size + 1) mb (.slice x1 T1.length d1) (.slice x2 T2.length d2) T1 T2))
      case first =>
        go_region_held3 (fun w' => w'.cell? ⟨wr.heap.size, 0, none⟩ = some (.int .u8 (op : Int)) ∧ w'.cell? ⟨wr.heap.size, 1, none⟩ = some (.int .u8 (p : Int))) (first | exact hk0 | assumption | exact hkA | exact ⟨kept_cell k3.1 (below_new _ _), kept_cell k3.2 (below_new _ _)⟩ | exact ⟨kept_cell k4.1 (below_new _ _), kept_cell k4.2 (below_new _ _)⟩ | exact hkS _ _ _ w2.heap.size hlt2 k4 | exact hkS _ _ _ w3.heap.size (Nat.lt_of_lt_of_le hlt2 hbx3.size) k4 | fail) (first
          | (go_at_call 47; (with_reducible refine hq1.mono ?_); rintro e w3 ⟨v1, rfl, hv1, hb3⟩; obtain ⟨x1, d1, rfl, _⟩ := own_pre hv1 (Nat.le_refl _); have hbx3 := hb3; have k3 : w3.cell? ⟨wr.heap.size, 0, none⟩ = some (.int .u8 (op : Int)) ∧ w3.cell? ⟨wr.heap.size, 1, none⟩ = some (.int .u8 (p : Int)) := ⟨kept_cell hk0.1 hbx3, kept_cell hk0.2 hbx3⟩; have ho3 := owns_base hv1 hDw)
          | (go_at_call 47; (with_reducible refine hq1b.mono ?_); rintro e w3 ⟨v1, rfl, hv1, hb3⟩; obtain ⟨x1, d1, rfl, _⟩ := own_pre hv1 (Nat.le_refl _); have hbx3 := below_step hDb hb3; have k3 : w3.cell? ⟨wr.heap.size, 0, none⟩ = some (.int .u8 (op : Int)) ∧ w3.cell? ⟨wr.heap.size, 1, none⟩ = some (.int .u8 (p : Int)) := ⟨kept_cell hk0.1 hbx3, kept_cell hk0.2 hbx3⟩; have ho3 := owns_base hv1 hDz; have hm3 := (hb3.block w2.heap.size hDl).trans hDm)
          | (go_at_call 47; have hm3' := hm3; (with_reducible refine (HQ2.out w3 hbx3).mono ?_); rintro e w4 ⟨v2, rfl, hv2, hb4⟩; obtain ⟨x2, d2, rfl, _⟩ := own_pre hv2 (Nat.le_refl _); have hbx4 := hb4; have k4 : w4.cell? ⟨wr.heap.size, 0, none⟩ = some (.int .u8 (op : Int)) ∧ w4.cell? ⟨wr.heap.size, 1, none⟩ = some (.int .u8 (p : Int)) := ⟨kept_cell k3.1 hbx4, kept_cell k3.2 hbx4⟩; have hm4 := (hb4.block w2.heap.size (Array.getElem?_eq_some_iff.1 hm3).1).trans hm3; have c40 := cell_row hm4 0; have c41 := cell_row hm4 1; have z40 := frozen_of_row _ _ 0 _ _ hm4; have z41 := frozen_of_row _ _ 1 _ _ hm4; simp at c40 c41)
          | (go_at_call 47; (with_reducible refine (HQ2.out (w3.alloc (.cells #[.slice none 0 0, .slice none 0 0] 49)) (below_step hbx3 (below_new _ _))).mono ?_); rintro e w4 ⟨v2, rfl, hv2, hb4⟩; obtain ⟨x2, d2, rfl, _⟩ := own_pre hv2 (Nat.le_refl _); have hbx4 := below_step (below_new w3 (.cells #[.slice none 0 0, .slice none 0 0] 49)) hb4; have k4 : w4.cell? ⟨wr.heap.size, 0, none⟩ = some (.int .u8 (op : Int)) ∧ w4.cell? ⟨wr.heap.size, 1, none⟩ = some (.int .u8 (p : Int)) := ⟨kept_cell k3.1 hbx4, kept_cell k3.2 hbx4⟩; have hm4 := (hb4.block w3.heap.size (by simp)).trans (MapKept.heap_alloc w3 (.cells #[.slice none 0 0, .slice none 0 0] 49)).1; have c40 := cell_row hm4 0; have c41 := cell_row hm4 1; have z40 := frozen_of_row _ _ 0 _ _ hm4; have z41 := frozen_of_row _ _ 1 _ _ hm4; simp at c40 c41)
          | (go_at_call 47; (with_reducible refine (HQ2.out w3 hbx3).mono ?_); rintro e w4 ⟨v2, rfl, hv2, hb4⟩; obtain ⟨x2, d2, rfl, _⟩ := own_pre hv2 (Nat.le_refl _); have hbx4 := hb4; have k4 : w4.cell? ⟨wr.heap.size, 0, none⟩ = some (.int .u8 (op : Int)) ∧ w4.cell? ⟨wr.heap.size, 1, none⟩ = some (.int .u8 (p : Int)) := ⟨kept_cell k3.1 hbx4, kept_cell k3.2 hbx4⟩)
          | fail)
        all_goals
          have hO2 : Own2 w4 (w.heap.size + 1) (.slice x1 T1.length d1, .slice x2 T2.length d2) (T1, T2) := ⟨owns_up ho3 hbx4, owns_base hv2 (by first | (have := hbx3.size; omega) | (have := hbx3.size; simp; omega)), HOKJ.out⟩
          have hbw : Below w2.heap.size w2 w4 := below_step (below_step hbD2 hbx3) hbx4
          have hle3 : w2.heap.size ≤ w3.heap.size := hbx3.size
          go_wp2_with fail
          go_meet
          first
            | exact ⟨w4.heap.size, x1, x2, d1, d2, rfl, made_new hbw hO2⟩
            | exact ⟨w2.heap.size, x1, x2, d1, d2, rfl, made_set hbw (Nat.le_refl _) hm4 hO2⟩
            | exact ⟨w3.heap.size, x1, x2, d1, d2, rfl, made_set hbw hle3 hm4 hO2⟩
      case rest =>
        obtain ⟨mb, x1, x2, d1, d2, rfl, HMD⟩ := hcut
        have hbc := HMD.out.2.2.1
        have c30 : wc.cell? ⟨mb, 0, none⟩ = some (.slice x1 T1.length d1) := cell_row HMD.out.1 0
        have c31 : wc.cell? ⟨mb, 1, none⟩ = some (.slice x2 T2.length d2) := cell_row HMD.out.1 1
        have hbrc := below_step HB2.out hbc
        have hO3 := owns_up HOW.out hbrc
        have HB3 : Hid (Below (w.heap.size + 1) w0 wc) := HW.out.trans (hbrc.mono (by omega))
        have hzz := hbrc.size
        have hO4 : (wc.alloc (.cells #[.slice x1 T1.length d1, .slice x2 T2.length d2] 49)).drew.ownsRow (w.heap.size + 1) 49 2 (.slice av M cv) M (encV tk) := World.ownsRow.alloc hO3 _
        have hB4 : (wc.alloc (.cells #[.slice x1 T1.length d1, .slice x2 T2.length d2] 49)).drew.heap[wc.heap.size]? = some (.cells #[.slice x1 T1.length d1, .slice x2 T2.length d2] 49 (0, 0)) := (MapKept.heap_alloc wc _).1
        have hz4 : w.heap.size + 1 ≤ (wc.alloc (.cells #[.slice x1 T1.length d1, .slice x2 T2.length d2] 49)).drew.heap.size := by simp; omega
        have hn4 : M ≤ 1000000 := by omega
        have hb4 : Below wc.heap.size wc (wc.alloc (.cells #[.slice x1 T1.length d1, .slice x2 T2.length d2] 49)).drew := (below_new wc _).drew
        have hOT4 : Ons (wc.alloc (.cells #[.slice x1 T1.length d1, .slice x2 T2.length d2] 49)).drew (w.heap.size + 1) (tk ++ [(Value.slice x1 T1.length d1, Value.slice x2 T2.length d2)]) (jtk ++ [(T1, T2)]) := Ons.snoc (HMD.out.2.1.up hb4) (HOT.out.keep (fun y j h => (h.up hbrc).up hb4))
        have HFIN : Hid (∀ v5 w5, (wc.alloc (.cells #[.slice x1 T1.length d1, .slice x2 T2.length d2] 49)).drew.grownBy w5 (Value.slice av M cv).ownBlock → w5.ownsRow (w.heap.size + 1) 49 2 v5 (M + 1) (encV (tk ++ [(Value.slice x1 T1.length d1, Value.slice x2 T2.length d2)])) → w5.ownsRow (w.heap.size + 1) 49 2 v5 (tk ++ [(Value.slice x1 T1.length d1, Value.slice x2 T2.length d2)]).length (encV (tk ++ [(Value.slice x1 T1.length d1, Value.slice x2 T2.length d2)])) ∧ Ons w5 (w.heap.size + 1) (tk ++ [(Value.slice x1 T1.length d1, Value.slice x2 T2.length d2)]) (jS (ts.take (k + 1)) []) ∧ Below (w.heap.size + 1) w0 w5) := fun v5 w5 hg ho => by
          refine ⟨?_, ?_, ?_⟩
          · rw [List.length_append, HTL.out]; exact ho
          · rw [HNX2.out]; exact hOT4.keep (fun y j h => h.far hO4 hg)
          · have e2 : Below (w.heap.size + 1) w0 (wc.alloc (.cells #[.slice x1 T1.length d1, .slice x2 T2.length d2] 49)).drew := HB3.out.trans (hb4.mono (by omega))
            exact e2.grown hg hz4 HGE.out
        clear hO3 hOT4 hbrc hbc hb4 hq1 hq1b HQ1 HQ2 hk0 hkS hDw hDz hDl hDm hbd hb2
        go_wp2
        go_region_law ((refine stepg_pv Try.underlying78 Try.infoPr rfl (by decide) rfl _ _ rfl (w.heap.size + 1) (.slice av M cv) M tk (.slice x1 T1.length d1) (.slice x2 T2.length d2) wc.heap.size rfl rfl hO4 hB4 rfl rfl hn4 hz4 ?_; intro v5 w5 hown5 hgr5))
        all_goals
          obtain ⟨f1, f2, f3⟩ := HFIN.out v5 w5 hgr5 hown5
          have HF1 : Hid _ := f1
          have HF2 : Hid _ := f2
          have HF3 : Hid _ := f3
          clear f1 f2 f3 hO4 hB4 hown5 hgr5
          go_wp2
          go_roundw
          case rel =>
            refine ⟨k + 1, by omega, by go_num, ⟨tk ++ [(Value.slice x1 T1.length d1, Value.slice x2 T2.length d2)], HF1, HF2, ?_⟩, HF3⟩
            show _ ≤ _
            rw [List.length_append, HTL.out]; simp; omega
          case measure => simp [intOf] <;> omega
    · obtain rfl : k = len := by omega
      have he := HE.out
      rw [List.take_of_length_le (by have := HLEN.out; omega), HG.out.fin] at he
      obtain ⟨y, rfl, hy⟩ : ∃ y, ys = [y] ∧ Own2 wr (w.heap.size + 1) y q := by
        cases he with
        | cons h t => cases t with | nil => exact ⟨_, rfl, h⟩
      obtain ⟨av, cv, rfl, _⟩ := own_pre HO.out (Nat.le_refl _)
      have hget : ∃ g o, (∀ w', (Instr.indexAt 78 (.slice av 1 cv) (.int .i64 0)).run Try.prog w' = .ok (.pointer (some ⟨g, o, none⟩)) w') ∧ wr.cell? ⟨g, o, none⟩ = some y.1 ∧ wr.cell? ⟨g, o + 1, none⟩ = some y.2 := pr_first (T := 78) Try.underlying78 Try.sizePr HO.out
      obtain ⟨g2, o2, hi2, c20, c21⟩ := hget
      obtain ⟨y1, y2⟩ := y
      obtain ⟨hy1, hy2, hy3⟩ := hy
      dsimp only at hy1 hy2 c20 c21
      obtain ⟨x1, d1, rfl, _⟩ := own_pre hy1 (Nat.le_refl _)
      obtain ⟨x2, d2, rfl, _⟩ := own_pre hy2 (Nat.le_refl _)
      have hrr := (HW.out.block w.heap.size (by omega)).trans HR0.out
      have r0 := cell_row hrr 0
      have r1 := cell_row hrr 1
      have f0 := frozen_of_row _ _ 0 _ _ hrr
      have f1 := frozen_of_row _ _ 1 _ _ hrr
      simp at r0 r1
      have HRR : Hid _ := hrr
      have HF : Hid (BothR q w (.returned (.agg #[.slice x1 q.1.length d1, .slice x2 q.2.length d2])) ((wr.setCell ⟨w.heap.size, 0, none⟩ (.slice x1 q.1.length d1)).setCell ⟨w.heap.size, 1, none⟩ (.slice x2 q.2.length d2))) := by
        obtain ⟨b1, e1, i1, t1, _⟩ := own_tk (owns_set (owns_set hy1 (p := ⟨w.heap.size, 0, none⟩) (Nat.lt_succ_self _) (.slice x1 q.1.length d1)) (p := ⟨w.heap.size, 1, none⟩) (Nat.lt_succ_self _) (.slice x2 q.2.length d2)) (fun t ht => hy3 t (Or.inl ht))
        obtain ⟨b2, e2, i2, t2, _⟩ := own_tk (owns_set (owns_set hy2 (p := ⟨w.heap.size, 0, none⟩) (Nat.lt_succ_self _) (.slice x1 q.1.length d1)) (p := ⟨w.heap.size, 1, none⟩) (Nat.lt_succ_self _) (.slice x2 q.2.length d2)) (fun t ht => hy3 t (Or.inr ht))
        injection i1 with i1 _ j1
        injection i2 with i2 _ j2
        subst i1 j1 i2 j2
        exact ⟨x1, d1, x2, d2, rfl, t1, t2, (HWW.out.setCell (Nat.le_refl _) _).setCell (Nat.le_refl _) _⟩
      clear hy1 hy2 hy3 hrr HO HE he
      go_wp2
      have f := setk_cells HRR.out (.slice x1 q.1.length d1) (.slice x2 q.2.length d2)
      refine bodyPost_ret (v := .agg #[.slice x1 q.1.length d1, .slice x2 q.2.length d2]) (by simp [results, Try.results28, go_sem, f.1, f.2]) rfl ?_
      exact HF.out
end Go.Proofs.Ytfgaieefejdkbaa
namespace Go.Proofs.Ytfgaieefejdkbaa
open Go.RowKit Go.Maps

theorem klook_tree {ts : List Tk} (h : lookE ts 1 = 0) : ∃ T : Tr, T.WF ∧ ts = T.flat ∧ pathT T = false ∧ ts.length ≤ 512 := by
  obtain ⟨hl, T, hT, rfl, hk, _⟩ := lookE_zero.1 h
  refine ⟨T, hT, rfl, ?_, hl⟩
  cases hb : pathT T with
  | false => rfl
  | true => unfold isK kindOf at hk; unfold pathT at hb; rw [hb] at hk; cases hk
theorem good_tree {T : Tr} (hT : T.WF) (hl : T.flat.length ≤ 2048) : JGood (2 * wt T) T.flat (jFl T) := by
  obtain ⟨h1, h2⟩ := j_tree T hT [] (2 * wt T) (Nat.le_refl _)
  exact ⟨hl, h2, h1⟩
theorem jFl_one {T : Tr} (hT : T.WF) : (jFl T).1 = (kL T.flat).1 := by rw [kL_tree hT]; rfl
theorem jFl_two {T : Tr} (hT : T.WF) (hp : pathT T = false) : (jFl T).2 = (kL T.flat).2 := by
  rw [kL_tree hT]
  show (if pathT T then [] else (kTr T).2.flat) = _
  rw [hp]; rfl
theorem wt_le (T : Tr) : wt T ≤ (jFl T).1.length := by
  show wt T ≤ s1 T
  unfold wt
  split <;> omega
theorem Try.fldL0 (u v : Value) (w : World) : (Instr.field 57 (.agg #[u, v]) 0).run Try.prog w = .ok u w := by
  simp [Instr.field, asAgg, run_underlying Try.underlying57, go_sem, Result.andThen]
theorem Try.fldL1 (u v : Value) (w : World) : (Instr.field 57 (.agg #[u, v]) 1).run Try.prog w = .ok v w := by
  simp [Instr.field, asAgg, run_underlying Try.underlying57, go_sem, Result.andThen]
theorem Try.fldP0 (u v : Value) (w : World) : (Instr.field 49 (.agg #[u, v]) 0).run Try.prog w = .ok u w := by
  simp [Instr.field, asAgg, run_underlying Try.underlying49, go_sem, Result.andThen]
theorem Try.fldP1 (u v : Value) (w : World) : (Instr.field 49 (.agg #[u, v]) 1).run Try.prog w = .ok v w := by
  simp [Instr.field, asAgg, run_underlying Try.underlying49, go_sem, Result.andThen]
set_option maxHeartbeats 2000000 in
theorem Try.ksize_any : SizeC 14 := by
  intro a len cap ts w hT
  have hck := Try.tcheck_any a len cap ts w hT
  have HT : Hid _ := hT
  have hf0 := Try.fldL0
  unfold SizeR
  by_cases h0 : lookE ts 1 = 0
  · obtain ⟨T, hW, rfl, hp, hl⟩ := klook_tree h0
    have HG := good_tree hW (by omega)
    have HGH : Hid _ := HG
    have HE : Hid ((mm (jFl T)).1 = min (kL T.flat).1.length 2049) := by show min (jFl T).1.length 2049 = _; rw [jFl_one hW]
    rw [h0] at hck ⊢
    clear HG h0 hT hl
    go_enter Try.func14, Try.ntmps14
    go_wp2_with (go_at_call 23; refine hck.mono ?_; rintro e w1 ⟨rfl, hb1⟩; have hm := Try.kmeasure_any a len cap (2 * wt T) T.flat (jFl T) w1 (HT.out.up hb1) HGH.out)
    refine hm.mono ?_
    rintro e w2 ⟨rfl, hb2⟩
    have HB2 : Hid _ := below_step hb1 hb2
    clear hb1 hb2 hm hck
    go_wp2
    go_ret2
    exact ⟨_, rfl, fun _ => by rw [HE.out], HB2.out⟩
  · have h1 : (((lookE ts 1 : Nat) : Int) != 0) = true := by rw [bne_iff_ne]; omega
    have h2 : (((lookE ts 1 : Nat) : Int) == 0) = false := by rw [beq_eq_false_iff_ne]; omega
    have H0 : Hid _ := h0
    clear h0 hT
    generalize lookE ts 1 = E at *
    go_enter Try.func14, Try.ntmps14
    go_wp2_with (go_at_call 23; refine hck.mono ?_; rintro e w1 ⟨rfl, hb1⟩)
    go_ret2
    exact ⟨0, rfl, fun h => absurd h H0.out, hb1⟩
set_option maxHeartbeats 2000000 in
theorem Try.kof_any : OfC 10 := by
  intro a len cap ts w hT
  have hsz := Try.ksize_any a len cap ts w hT
  unfold SizeR at hsz
  have HT : Hid _ := hT
  have hf0 := Try.fldP0
  unfold OfR
  by_cases h0 : lookE ts 1 = 0
  · obtain ⟨T, hW, rfl, hp, hl⟩ := klook_tree h0
    have HGH : Hid _ := good_tree hW (by omega)
    have hw := wt_le T
    rw [jFl_one hW] at hw
    by_cases hL : 2048 < (kL T.flat).1.length
    · have HE : Hid (ofE T.flat = 3) := by show _ = _; unfold ofE; rw [if_neg (by omega), if_pos hL]
      have HL : Hid (ofL T.flat = []) := by show _ = _; unfold ofL; rw [HE.out]; rfl
      have HM : Hid (min (kL T.flat).1.length 2049 = 2049) := by show _ = _; omega
      rw [h0] at hsz
      clear hT h0 hl hw hL
      go_enter Try.func10, Try.ntmps10
      go_wp2_with (go_at_call 14; refine hsz.mono ?_; rintro e w1 ⟨n, rfl, hn0, hb1⟩; have hn := hn0 rfl; clear hn0; rw [HM.out] at hn; subst hn)
      go_ret2
      rw [HE.out, HL.out]
      exact ⟨none, 0, rfl, TkSl.nil, hb1⟩
    · have HE : Hid (ofE T.flat = 0) := by show _ = _; unfold ofE; rw [if_neg (by omega), if_neg hL]
      have HL : Hid (ofL T.flat = (jFl T).1) := by show _ = _; unfold ofL; rw [HE.out, jFl_one hW]; rfl
      have HB : Hid (2 * wt T ≤ 100000) := by show _ ≤ _; omega
      obtain ⟨m, hm⟩ : ∃ m, m = min (kL T.flat).1.length 2049 := ⟨_, rfl⟩
      rw [← hm, h0] at hsz
      have hm2 : ¬ (2048 : Int) < (m : Int) := by omega
      clear hT h0 hl hw hL hm
      go_enter Try.func10, Try.ntmps10
      go_wp2_with (go_at_call 14; refine hsz.mono ?_; rintro e w1 ⟨n, rfl, hn0, hb1⟩; have hn := hn0 rfl; clear hn0; subst hn; have hbo := Try.kboth_any a len cap (2 * wt T) T.flat (jFl T) w1 (HT.out.up hb1) HGH.out HB.out)
      refine hbo.mono ?_
      rintro e w2 ⟨a1, c1, a2, c2, rfl, t1, t2, hb2⟩
      have HB2 : Hid _ := below_step hb1 hb2
      have HT1 : Hid _ := t1
      clear hb1 hb2 hbo t1 t2 hsz
      go_wp2
      go_ret2
      rw [HE.out, HL.out]
      exact ⟨a1, c1, rfl, HT1.out, HB2.out⟩
  · have HE : Hid (ofE ts = lookE ts 1) := by show _ = _; unfold ofE; rw [if_pos h0]
    have HL : Hid (ofL ts = []) := by show _ = _; unfold ofL; rw [HE.out, if_neg h0]
    have h1 : (((lookE ts 1 : Nat) : Int) != 0) = true := by rw [bne_iff_ne]; omega
    have h2 : (((lookE ts 1 : Nat) : Int) == 0) = false := by rw [beq_eq_false_iff_ne]; omega
    clear h0 hT
    generalize lookE ts 1 = E at *
    go_enter Try.func10, Try.ntmps10
    go_wp2_with (go_at_call 14; refine hsz.mono ?_; rintro e w1 ⟨n, rfl, _, hb1⟩)
    go_ret2
    rw [HE.out, HL.out]
    exact ⟨none, 0, rfl, TkSl.nil, hb1⟩
set_option maxHeartbeats 2000000 in
theorem Try.kneg_any : NegC 12 := by
  intro a len cap ts w hT
  have hck := Try.kcheck_any a len cap ts w hT
  have HT : Hid _ := hT
  have hf0 := Try.fldL1
  have hf1 := Try.fldP1
  unfold NegR
  by_cases h0 : chkE ts = 0
  · obtain ⟨hl, T, hW, hp, hk, rfl⟩ := chk_zero.1 h0
    have HGH : Hid _ := good_tree hW hl
    have hw := wt_le T
    rw [jFl_one hW, ker_fix ⟨T, hW, hp, hk, rfl⟩] at hw
    have HB : Hid (2 * wt T ≤ 100000) := by show _ ≤ _; omega
    have h2 := jFl_two hW hp
    obtain ⟨m1, hm1⟩ : ∃ m1, m1 = (mm (jFl T)).1 := ⟨_, rfl⟩
    obtain ⟨m, hm⟩ : ∃ m, m = (mm (jFl T)).2 := ⟨_, rfl⟩
    have hm' : m = min (kL T.flat).2.length 2049 := by rw [hm, ← h2]; rfl
    have HM : Hid _ := hm
    have HM1 : Hid _ := hm1
    rw [h0] at hck
    by_cases hL : 2048 < (kL T.flat).2.length
    · have HE : Hid (negE T.flat = 3) := by show _ = _; unfold negE; rw [if_neg (by omega), if_pos hL]
      have HL : Hid (negL T.flat = []) := by show _ = _; unfold negL; rw [HE.out]; rfl
      have hm2 : (2048 : Int) < (m : Int) := by omega
      clear hT h0 hl hw hL hm hm1 hm' h2
      go_enter Try.func12, Try.ntmps12
      go_wp2_with (go_at_call 17; refine hck.mono ?_; rintro e w1 ⟨rfl, hb1⟩; have hme := Try.kmeasure_any a len cap (2 * wt T) T.flat (jFl T) w1 (HT.out.up hb1) HGH.out; rw [← HM.out, ← HM1.out] at hme)
      refine hme.mono ?_
      rintro e w2 ⟨rfl, hb2⟩
      have HB2 : Hid _ := below_step hb1 hb2
      clear hb1 hb2 hme hck
      go_wp2
      go_ret2
      rw [HE.out, HL.out]
      exact ⟨none, 0, rfl, TkSl.nil, HB2.out⟩
    · have HE : Hid (negE T.flat = 0) := by show _ = _; unfold negE; rw [if_neg (by omega), if_neg hL]
      have HL : Hid (negL T.flat = (jFl T).2) := by show _ = _; unfold negL; rw [HE.out, h2]; rfl
      have hm2 : ¬ (2048 : Int) < (m : Int) := by omega
      clear hT h0 hl hw hL hm hm1 hm' h2
      go_enter Try.func12, Try.ntmps12
      go_wp2_with (go_at_call 17; refine hck.mono ?_; rintro e w1 ⟨rfl, hb1⟩; have hme := Try.kmeasure_any a len cap (2 * wt T) T.flat (jFl T) w1 (HT.out.up hb1) HGH.out; rw [← HM.out, ← HM1.out] at hme)
      refine hme.mono ?_
      rintro e w2 ⟨rfl, hb2⟩
      have hbx := below_step hb1 hb2
      have hbo := Try.kboth_any a len cap (2 * wt T) T.flat (jFl T) w2 (HT.out.up hbx) HGH.out HB.out
      clear hb1 hb2 hme hck
      go_wp2_with fail
      refine hbo.mono ?_
      rintro e w3 ⟨a1, c1, a2, c2, rfl, t1, t2, hb3⟩
      have HB3 : Hid _ := below_step hbx hb3
      have HT2 : Hid _ := t2
      clear hbx hb3 hbo t1 t2
      go_wp2
      go_ret2
      rw [HE.out, HL.out]
      exact ⟨a2, c2, rfl, HT2.out, HB3.out⟩
  · have HE : Hid (negE ts = chkE ts) := by show _ = _; unfold negE; rw [if_pos h0]
    have HL : Hid (negL ts = []) := by show _ = _; unfold negL; rw [HE.out, if_neg h0]
    have h1 : (((chkE ts : Nat) : Int) != 0) = true := by rw [bne_iff_ne]; omega
    have h2 : (((chkE ts : Nat) : Int) == 0) = false := by rw [beq_eq_false_iff_ne]; omega
    clear h0 hT
    generalize chkE ts = E at *
    go_enter Try.func12, Try.ntmps12
    go_wp2_with (go_at_call 17; refine hck.mono ?_; rintro e w1 ⟨rfl, hb1⟩)
    go_ret2
    rw [HE.out, HL.out]
    exact ⟨none, 0, rfl, TkSl.nil, hb1⟩
theorem Try.kchk_any : ChkC 17 := fun a len cap ts w hT => Try.kcheck_any a len cap ts w hT
end Go.Proofs.Ytfgaieefejdkbaa
