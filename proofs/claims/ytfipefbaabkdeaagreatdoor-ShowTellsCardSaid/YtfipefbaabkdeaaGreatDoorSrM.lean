/- The document's layer 6: Formula, Path, Tidy. -/
import Derived.Test.YtfipefbaabkdeaaGreatDoorWSr4
import Derived.Test.YtfipefbaabkdeaaGreatDoorRbM
import Derived.Test.YtfipefbaabkdeaaGreatDoorWSh6
import Derived.Test.YtfipefbaabkdeaaGreatDoorWTn1
namespace Go.Proofs.YtfipefbaabkdeaaGreatDoor
open Go.RowKit Go.Maps

theorem tellL_told (ns : List Bytes) (ts : List Tk) (want : Nat) : tellL ns ts want = if checkE ns ≠ 0 then ([], checkE ns) else if lookE ts want ≠ 0 then ([], (lookE ts want : Int)) else toldL ns ts := by
  rw [tellL_ref]; rfl
/-- What the document's telling call answers. -/
def TellC0 (F : FuncId) (want : Nat) : Prop :=
  ∀ (a : Option Addr) (len cap : Nat) (ad : Nat → Addr) (ss : List ByteArray) (a' : Option Addr) (l' cap' : Nat) (ts : List Tk) (w : World), StrSl Tryz.prog 22 w a len cap ad ss → TkSl w a' l' cap' ts →
    Calls Tryz.prog F #[.slice a len cap, .slice a' l' cap'] w (TellP (nms ss) ts want w)
set_option maxRecDepth 100000 in
set_option maxHeartbeats 1000000 in
theorem Tryz.rFormula6 : TellC0 6 1 := by
  intro a len cap ad ss a' l' cap' ts w hS hT
  unfold TellP
  rw [tellL_told]
  have h1 := Tryz.rcheck_any a len cap ad ss w hS
  have h2 := fun w' (h : TkSl w' a' l' cap' ts) => Tryz.rCheck_any a' l' cap' ts w' h
  have h3 := fun w' (h : StrSl Tryz.prog 22 w' a len cap ad ss) (h' : TkSl w' a' l' cap' ts) (hq : refS (nms ss) ts = 0 → Told (nms ss) ts) => Tryz.rtold_any a len cap ad ss a' l' cap' ts w' h h' hq
  have HS : Hid (StrSl Tryz.prog 22 w a len cap ad ss) := hS
  have HT : Hid (TkSl w a' l' cap' ts) := hT
  have HTO : Hid (checkE (nms ss) = 0 → lookE ts 1 = 0 → refS (nms ss) ts = 0 → Told (nms ss) ts) := fun a b c => told_of a b (refS_zero c).1 (refS_zero c).2
  generalize checkE (nms ss) = E1 at *
  generalize lookE ts 1 = E2 at *
  generalize toldL (nms ss) ts = r at *
  clear hS hT
  by_cases q1 : E1 = 0
  · by_cases q2 : E2 = 0
    · have HTL : Hid (refS (nms ss) ts = 0 → Told (nms ss) ts) := HTO.out q1 q2
      subst q1 q2
      rw [if_neg (by decide), if_neg (by decide)]
      go_enter Tryz.func6, Tryz.ntmps6
      go_wp2_with fail
      refine h1.mono ?_
      rintro e w1 ⟨rfl, n1, rfl⟩
      have hb1 : Below w.heap.size w (w.drewN n1) := below_drewN (Below.refl _ _) n1
      go_wp2_with fail
      refine (h2 _ (HT.out.up hb1)).mono ?_
      rintro e w2 ⟨rfl, hb2⟩
      have hb12 := below_step hb1 hb2
      go_wp2_with fail
      refine (h3 w2 (HS.out.up hb12) (HT.out.up hb12) HTL.out).mono ?_
      rintro e w3 ⟨rfl, hb3⟩
      have HB : Hid (Below w.heap.size w w3) := below_step hb12 hb3
      go_wp2
      go_ret2
      exact ⟨rfl, HB.out⟩
    · have e2 : ((E2 : Int) == 0) = false := by simp; omega
      subst q1
      rw [if_neg (by decide), if_pos q2]
      go_enter Tryz.func6, Tryz.ntmps6
      go_wp2_with fail
      refine h1.mono ?_
      rintro e w1 ⟨rfl, n1, rfl⟩
      have hb1 : Below w.heap.size w (w.drewN n1) := below_drewN (Below.refl _ _) n1
      go_wp2_with fail
      refine (h2 _ (HT.out.up hb1)).mono ?_
      rintro e w2 ⟨rfl, hb2⟩
      have HB : Hid (Below w.heap.size w w2) := below_step hb1 hb2
      go_wp2
      go_ret2
      exact ⟨rfl, HB.out⟩
  · have e1 : (E1 == 0) = false := by simpa using q1
    rw [if_pos q1]
    go_enter Tryz.func6, Tryz.ntmps6
    go_wp2_with fail
    refine h1.mono ?_
    rintro e w1 ⟨rfl, n1, rfl⟩
    have HB : Hid (Below w.heap.size w (w.drewN n1)) := below_drewN (Below.refl _ _) n1
    go_wp2
    go_ret2
    exact ⟨rfl, HB.out⟩
set_option maxRecDepth 100000 in
set_option maxHeartbeats 1000000 in
theorem Tryz.rPath6 : TellC0 8 3 := by
  intro a len cap ad ss a' l' cap' ts w hS hT
  unfold TellP
  rw [tellL_told]
  have h1 := Tryz.rcheck_any a len cap ad ss w hS
  have h2 := fun w' (h : TkSl w' a' l' cap' ts) => Tryz.rPath_any a' l' cap' ts w' h
  have h3 := fun w' (h : StrSl Tryz.prog 22 w' a len cap ad ss) (h' : TkSl w' a' l' cap' ts) (hq : refS (nms ss) ts = 0 → Told (nms ss) ts) => Tryz.rtold_any a len cap ad ss a' l' cap' ts w' h h' hq
  have HS : Hid (StrSl Tryz.prog 22 w a len cap ad ss) := hS
  have HT : Hid (TkSl w a' l' cap' ts) := hT
  have HTO : Hid (checkE (nms ss) = 0 → lookE ts 3 = 0 → refS (nms ss) ts = 0 → Told (nms ss) ts) := fun a b c => told_of a b (refS_zero c).1 (refS_zero c).2
  generalize checkE (nms ss) = E1 at *
  generalize lookE ts 3 = E2 at *
  generalize toldL (nms ss) ts = r at *
  clear hS hT
  by_cases q1 : E1 = 0
  · by_cases q2 : E2 = 0
    · have HTL : Hid (refS (nms ss) ts = 0 → Told (nms ss) ts) := HTO.out q1 q2
      subst q1 q2
      rw [if_neg (by decide), if_neg (by decide)]
      go_enter Tryz.func8, Tryz.ntmps8
      go_wp2_with fail
      refine h1.mono ?_
      rintro e w1 ⟨rfl, n1, rfl⟩
      have hb1 : Below w.heap.size w (w.drewN n1) := below_drewN (Below.refl _ _) n1
      go_wp2_with fail
      refine (h2 _ (HT.out.up hb1)).mono ?_
      rintro e w2 ⟨rfl, hb2⟩
      have hb12 := below_step hb1 hb2
      go_wp2_with fail
      refine (h3 w2 (HS.out.up hb12) (HT.out.up hb12) HTL.out).mono ?_
      rintro e w3 ⟨rfl, hb3⟩
      have HB : Hid (Below w.heap.size w w3) := below_step hb12 hb3
      go_wp2
      go_ret2
      exact ⟨rfl, HB.out⟩
    · have e2 : ((E2 : Int) == 0) = false := by simp; omega
      subst q1
      rw [if_neg (by decide), if_pos q2]
      go_enter Tryz.func8, Tryz.ntmps8
      go_wp2_with fail
      refine h1.mono ?_
      rintro e w1 ⟨rfl, n1, rfl⟩
      have hb1 : Below w.heap.size w (w.drewN n1) := below_drewN (Below.refl _ _) n1
      go_wp2_with fail
      refine (h2 _ (HT.out.up hb1)).mono ?_
      rintro e w2 ⟨rfl, hb2⟩
      have HB : Hid (Below w.heap.size w w2) := below_step hb1 hb2
      go_wp2
      go_ret2
      exact ⟨rfl, HB.out⟩
  · have e1 : (E1 == 0) = false := by simpa using q1
    rw [if_pos q1]
    go_enter Tryz.func8, Tryz.ntmps8
    go_wp2_with fail
    refine h1.mono ?_
    rintro e w1 ⟨rfl, n1, rfl⟩
    have HB : Hid (Below w.heap.size w (w.drewN n1)) := below_drewN (Below.refl _ _) n1
    go_wp2
    go_ret2
    exact ⟨rfl, HB.out⟩
set_option maxRecDepth 100000 in
set_option maxHeartbeats 1000000 in
theorem Tryz.rTidy6 (a : Option Addr) (len cap : Nat) (ad : Nat → Addr) (ss : List ByteArray) (s : ByteArray) (w : World) (hS : StrSl Tryz.prog 22 w a len cap ad ss) :
    Calls Tryz.prog 10 #[.slice a len cap, .string s] w fun e w' => e = .returned (.tuple #[.string (mkB (tidyL (nms ss) s.toList).1), .int .i64 (tidyL (nms ss) s.toList).2.1, .int .i64 (tidyL (nms ss) s.toList).2.2]) ∧ Below w.heap.size w w' := by
  have h1 := Tryz.rformula_read a len cap ad ss s w hS
  have h1 : Calls Tryz.prog 21 #[.slice a len cap, .string s] w _ := h1
  have h2 := fun a' l' cap' (ts : List Tk) w' (h : StrSl Tryz.prog 22 w' a len cap ad ss) (h' : TkSl w' a' l' cap' ts) => Tryz.rFormula6 a len cap ad ss a' l' cap' ts w' h h'
  unfold TellP at h2
  have HS : Hid (StrSl Tryz.prog 22 w a len cap ad ss) := hS
  unfold tidyL
  generalize nms ss = ns at *
  generalize formL ns s.toList = r at *
  obtain ⟨l, er, ea⟩ := r
  dsimp only at *
  clear hS
  by_cases q1 : er = 0
  · subst q1
    rw [if_neg (by decide)]
    have h3 := fun a' l' cap' w' => h2 a' l' cap' l w'
    clear h2
    generalize tellL ns l 1 = t at *
    obtain ⟨tx, te⟩ := t
    dsimp only at *
    by_cases q2 : te = 0
    · subst q2
      rw [if_neg (by decide)]
      go_enter Tryz.func10, Tryz.ntmps10
      go_wp2_with fail
      refine h1.mono ?_
      rintro e w1 ⟨v, rfl, hown1, hb1, _, hok1⟩
      obtain ⟨a1, c1, rfl, hT1⟩ := own_tks hown1 hok1
      have HB1 : Hid (Below w.heap.size w w1) := hb1
      have h4 := h3 a1 l.length c1 w1 (HS.out.up hb1) hT1
      clear h1 h3 hown1 hb1 hok1 hT1
      go_wp2_with fail
      refine h4.mono ?_
      rintro e w2 ⟨rfl, hb2⟩
      have HB2 : Hid (Below w.heap.size w w2) := below_step HB1.out hb2
      clear h4 hb2
      go_wp2
      go_ret3
      exact ⟨rfl, HB2.out⟩
    · rw [if_pos q2]
      have e2 : (te == 0) = false := by simpa using q2
      go_enter Tryz.func10, Tryz.ntmps10
      go_wp2_with fail
      refine h1.mono ?_
      rintro e w1 ⟨v, rfl, hown1, hb1, _, hok1⟩
      obtain ⟨a1, c1, rfl, hT1⟩ := own_tks hown1 hok1
      have HB1 : Hid (Below w.heap.size w w1) := hb1
      have h4 := h3 a1 l.length c1 w1 (HS.out.up hb1) hT1
      clear h1 h3 hown1 hb1 hok1 hT1
      go_wp2_with fail
      refine h4.mono ?_
      rintro e w2 ⟨rfl, hb2⟩
      have HB2 : Hid (Below w.heap.size w w2) := below_step HB1.out hb2
      clear h4 hb2
      go_wp2
      go_ret3
      exact ⟨rfl, HB2.out⟩
  · rw [if_pos q1]
    have e1 : (er == 0) = false := by simpa using q1
    clear h2
    go_enter Tryz.func10, Tryz.ntmps10
    go_wp2_with fail
    refine h1.mono ?_
    rintro e w1 ⟨v, rfl, _, hb1, _, _⟩
    have HB1 : Hid (Below w.heap.size w w1) := hb1
    clear h1 hb1
    go_wp2
    go_ret3
    exact ⟨rfl, HB1.out⟩
end Go.Proofs.YtfipefbaabkdeaaGreatDoor
namespace Go.Proofs.YtfipefbaabkdeaaGreatDoor
open Go.RowKit Go.Maps

theorem take_snoc_bytes {ns : List Bytes} {k : Nat} {x : Bytes} (h : ns[k]? = some x) : ns.take (k + 1) = ns.take k ++ [x] := by
  rw [List.take_add_one, h]; rfl

set_option maxHeartbeats 800000 in
theorem Tryz.sameX_any (a : Option Addr) (len cap : Nat) (ad : Nat → Addr) (xs : List ByteArray) (a' : Option Addr) (len' cap' : Nat) (ad' : Nat → Addr) (ys : List ByteArray) (w : World)
    (hS : StrSl Tryz.prog 22 w a len cap ad xs) (hO : StrSl Tryz.prog 22 w a' len' cap' ad' ys) :
    Calls Tryz.prog 11 #[.slice a len cap, .slice a' len' cap'] w fun e w' => e = .returned (.bool (decide (nms xs = nms ys))) ∧ ∃ n, w' = w.drewN n := by
  have hb0 := hS.bd
  have hb1 := hS.hcap
  have hb2 := hO.bd
  have hb3 := hO.hcap
  have hlx : Hid ((nms xs).length = len) := by show _ = _; rw [nms_len, hS.hlen]
  have hly : Hid ((nms ys).length = len') := by show _ = _; rw [nms_len, hO.hlen]
  unfold maxLen at hb0 hb2
  by_cases hll : len = len'
  · subst hll
    have hidx := fun (k : Nat) (w : World) (h : k < len) => hS.idx len k w h (Nat.le_refl _)
    have hidx' := fun (k : Nat) (w : World) (h : k < len) => hO.idx len k w h (Nat.le_refl _)
    go_enter Tryz.func11, Tryz.ntmps11
    go_wp2
    go_loopw [5] (fun i wr => ∃ k : Nat, k ≤ len ∧ i = .int .i64 k ∧ Hid ((nms xs).take k = (nms ys).take k) ∧ Hid (∃ n, wr = w.drewN n)) (fun i _ => len - (intOf i).toNat)
    case atStart => exact ⟨0, Nat.zero_le _, rfl, by show _ = _; simp, 0, rfl⟩
    case round =>
      obtain ⟨k, hk, rfl, HU, hwr⟩ := hrel
      by_cases hlt : k < len
      · have hS' : StrSl Tryz.prog 22 wr a len cap ad xs := by obtain ⟨n, hn⟩ := hwr.out; rw [hn]; exact hS.up (below_drewN (Below.refl _ _) n)
        have hO' : StrSl Tryz.prog 22 wr a' len cap' ad' ys := by obtain ⟨n, hn⟩ := hwr.out; rw [hn]; exact hO.up (below_drewN (Below.refl _ _) n)
        have hck := hS'.cell k hlt
        have hck' := hO'.cell k hlt
        have hgx : Hid ((nms xs)[k]? = some (xs.getD k ByteArray.empty).toList) := nms_get (by rw [hS.hlen]; omega)
        have hgy : Hid ((nms ys)[k]? = some (ys.getD k ByteArray.empty).toList) := nms_get (by rw [hO.hlen]; omega)
        clear hS' hO'
        generalize xs.getD k ByteArray.empty = x at *
        generalize ys.getD k ByteArray.empty = y at *
        go_wp2
        go_quiet (fail)
        go_wp2
        · rename_i ht
          have HM : Hid (decide (nms xs = nms ys) = false) := by
            have e : ¬ x.toList = y.toList := by simpa using ht
            refine decide_eq_false (fun h => e ?_)
            have h1 := hgx.out; rw [h, hgy.out] at h1; injection h1 with h1; exact h1.symm
          go_ret
          obtain ⟨n, hn⟩ := hwr.out
          exact ⟨by rw [HM.out]; rfl, n + nq, by rw [hn, World.drewN_drewN]⟩
        · rename_i ht
          have HN2 : Hid ((nms xs).take (k + 1) = (nms ys).take (k + 1)) := by
            have e : x.toList = y.toList := by simpa using ht
            show _ = _
            rw [take_snoc_bytes hgx.out, take_snoc_bytes hgy.out, HU.out, e]
          clear ht
          go_roundw
          case rel =>
            obtain ⟨n, hn⟩ := hwr.out
            exact ⟨k + 1, by omega, by go_num, HN2, n + nq, by rw [hn, World.drewN_drewN]⟩
          case measure => simp [intOf]; omega
      · have hx : Hid (decide (nms xs = nms ys) = true) := by
          have := HU.out
          rw [List.take_of_length_le (by rw [hlx.out]; omega), List.take_of_length_le (by rw [hly.out]; omega)] at this
          exact decide_eq_true this
        go_wp2
        go_ret
        exact ⟨by rw [hx.out]; rfl, hwr.out⟩
  · have hx : Hid (decide (nms xs = nms ys) = false) := decide_eq_false (fun e => hll (by rw [← hlx.out, ← hly.out, e]))
    have hll' : ((len : Int) != (len' : Int)) = true := by simp; omega
    clear hll
    go_enter Tryz.func11, Tryz.ntmps11
    go_wp2
    go_ret
    exact ⟨by rw [hx.out]; rfl, 0, rfl⟩
theorem ownsRow_strSl {P : Program} {T e : TypeId} {w : World} {base n : Nat} {v : Value} {xs : List ByteArray} (h : w.ownsRow base e 1 v n (xs.map Value.string)) (hu : P.underlying T = some (.slice e)) (hs : (P.info? e).map (·.size) = some 1) (hz : ∀ x ∈ xs, x.size ≤ maxLen) :
    ∃ a cap, v = .slice a n cap ∧ StrSl P T w a n cap (adOf a) xs := by
  obtain ⟨hl, h⟩ := h
  simp at hl
  have hsz : ∀ k, (xs.getD k ByteArray.empty).size ≤ maxLen := fun k => by
    by_cases hk : k < xs.length
    · rw [List.getD_eq_getElem?_getD, List.getElem?_eq_getElem hk]; exact hz _ (List.getElem_mem hk)
    · rw [List.getD_eq_getElem?_getD, List.getElem?_eq_none (by omega)]; simp [maxLen, ByteArray.size_empty]
  rcases h with ⟨rfl, rfl⟩ | ⟨g, cap, cur, rfl, hg, hcell, hnc, hcm, hsz2, htk⟩
  · have : xs = [] := List.eq_nil_of_length_eq_zero hl
    subst this
    exact ⟨none, 0, rfl, rfl, Nat.le_refl _, Nat.zero_le _, fun n k w hk hn => absurd hk (by omega), fun k hk => absurd hk (by omega), fun k hk => absurd hk (by omega), hsz, fun _ => rfl⟩
  · have had : ∀ k, adOf (some ⟨g, 0, none⟩) k = ⟨g, k, none⟩ := fun k => by simp [adOf, add_plain]
    have hlt : g < w.heap.size := (Array.getElem?_eq_some_iff.1 hcell).1
    refine ⟨some ⟨g, 0, none⟩, cap, rfl, hl, hnc, hcm, fun m k w hk hm => idx_of hu hs (by simp) k w hk, fun k hk => ?_, fun k hk => by rw [had]; exact hlt, hsz, by simp⟩
    rw [had]
    have hk2 : (cur.toList.take (n * 1))[k]? = some (.string (xs.getD k ByteArray.empty)) := by
      rw [htk]; simp [List.getD_eq_getElem?_getD, List.getElem?_eq_getElem (show k < xs.length by omega)]
    rw [List.getElem?_take, if_pos (by omega)] at hk2
    simp [World.cell?, hcell]
    simpa using hk2

theorem Tryz.infoStr : (Tryz.prog.info? 9).map (fun i => (i.zero, i.size, i.bytes)) = some (some (.string ⟨#[]⟩), 1, 16) := by kernel_rfl
theorem own_emptyS (w : World) (e : TypeId) : (w.alloc (.cells #[] e)).ownsRow w.heap.size e 1 (.slice (some ⟨w.heap.size, 0, none⟩) 0 0) 0 [] :=
  ⟨rfl, Or.inr ⟨w.heap.size, 0, #[], rfl, Nat.le_refl _, (MapKept.heap_alloc w _).1, Nat.le_refl _, Nat.zero_le _, by simp, by simp⟩⟩
theorem StrSl.cells {w : World} {x : Addr} {len cap : Nat} {ss : List ByteArray} (h : StrSl Tryz.prog 22 w (some x) len cap (adOf (some x)) ss) : ∀ j u, (ss.map Value.string)[j]? = some u → w.cell? (x.add j) = some u := by
  intro j u hj
  simp only [List.getElem?_map, Option.map_eq_some_iff] at hj
  obtain ⟨s, hs, rfl⟩ := hj
  have hl := (List.getElem?_eq_some_iff.1 hs).1
  have := h.cell j (by rw [← h.hlen]; exact hl)
  rw [List.getD_eq_getElem?_getD, hs] at this
  exact this
/-- Names behind a list of the call's own. -/
theorem Tryz.append_nms {w : World} {ops : Array Oper} {rest : List Oper} {o : Oper} {a : Act} {Q : Exit → Act → World → Prop} (hgd : o.guard = none) (s x : Operand)
    (ho : o.op = .call { callee := .builtin .append, args := #[s, x], argTypes := #[22, 22] }) (base : Nat)
    (v : Value) (b : Option Addr) (len cap : Nat) (ss : List ByteArray) (hs : a.eval s = v) (hx : a.eval x = .slice b len cap) (hown : w.ownsRow base 9 1 v 0 []) (hN : StrSl Tryz.prog 22 w b len cap (adOf b) ss)
    (hm : len ≤ 1000000) (hbase : base ≤ w.heap.size)
    (h : ∀ v' w', w'.ownsRow base 9 1 v' len (ss.map Value.string) → w.grownBy w' v.ownBlock → wpList Tryz.prog ops Q rest (a.put o.dst v') w') : wpList Tryz.prog ops Q (o :: rest) a w := by
  refine wpList_plain hgd fun _ hK => ?_
  obtain ⟨i, hi, hz0, hz1, hz2⟩ := info_parts Tryz.infoStr
  have hl := hN.hlen
  cases b with
  | none =>
    have hc := hN.nn rfl
    have hcl := hN.hcap
    obtain rfl : len = 0 := by omega
    subst hc
    have hy : ss = [] := List.eq_nil_of_length_eq_zero hl
    subst hy
    have hrun := run_append_owned_none (P := Tryz.prog) w base 22 o.type 9 i 1 Tryz.underlying22 hi v 0 [] hown
    unfold Oper.wp execOp
    simp only [ho, resolve, invoke, builtin, Sem.run_bind, Sem.run_pure, Result.andThen_ok, List.map_toArray, List.map_cons, List.map_nil, hs, hx, hrun]
    exact hK _ _ (h v w hown (World.grownBy.refl _ _))
  | some y =>
    refine wp_append_own w s x 22 ho base 9 i _ 1 16 Tryz.underlying22 hi hz0 hz1 hz2 rfl (by decide) v 0 _ hs hown y len cap (ss.map Value.string) hx (by simp [hl]) hN.cells (fun u hu => by obtain ⟨z, _, rfl⟩ := List.mem_map.1 hu; rfl) (by unfold maxLen; omega) (by omega) hbase ?_
    intro v' w' h1 h2 _
    exact hK _ _ (h v' w' (by simpa using h1) h2)
end Go.Proofs.YtfipefbaabkdeaaGreatDoor
namespace Go.Proofs.YtfipefbaabkdeaaGreatDoor
open Go.RowKit Go.Maps

set_option maxRecDepth 100000 in
set_option maxHeartbeats 4000000 in
theorem Tryz.tells_any (a : Option Addr) (len cap : Nat) (ss : List ByteArray) (a' : Option Addr) (l' cap' : Nat) (ts : List Tk) (s : ByteArray) (w : World) (hT : Tab w) (hO : OpT w) (hN : StrSl Tryz.prog 22 w a len cap (adOf a) ss) (hL : TkSl w a' l' cap' ts) (hs : s.size ≤ maxLen) :
    Calls Tryz.prog 3 #[.slice a len cap, .slice a' l' cap', .string s] w fun e w' => e = .returned (.bool true) ∧ Below w.heap.size w w' := by
  have hlb := Nat.le_trans hL.hcap hL.bd
  have hnb := Nat.le_trans hN.hcap hN.bd
  have hsb := hs
  unfold maxLen at hlb hnb hsb
  by_cases c1 : 600 < l'
  · clear hT hO hN hL hs
    go_enter Tryz.func3, Tryz.ntmps3
    go_wp2
    go_ret
    exact ⟨rfl, Below.refl _ _⟩
  by_cases c2 : 12 < len
  · clear hT hO hN hL hs
    go_enter Tryz.func3, Tryz.ntmps3
    go_wp2
    go_ret
    exact ⟨rfl, Below.refl _ _⟩
  by_cases c3 : 600 < s.size ∧ s.size ≤ 4096
  · obtain ⟨c31, c32⟩ := c3
    clear hT hO hN hL hs
    go_enter Tryz.func3, Tryz.ntmps3
    go_wp2
    go_ret
    exact ⟨rfl, Below.refl _ _⟩
  by_cases c4 : 4105 < s.size
  · have c5 : ¬ s.size ≤ 4096 := by omega
    have c6 : 600 < s.size := by omega
    clear hT hO hN hL hs c3
    go_enter Tryz.func3, Tryz.ntmps3
    go_wp2
    go_ret
    exact ⟨rfl, Below.refl _ _⟩
  have HT : Hid (Tab w) := hT
  have HO : Hid (OpT w) := hO
  have HN : Hid (StrSl Tryz.prog 22 w a len cap (adOf a) ss) := hN
  have HL : Hid (TkSl w a' l' cap' ts) := hL
  have HLE : Hid (ts.length = l') := hL.hlen
  have HOK : Hid (∀ t ∈ ts, t.1 < 256 ∧ t.2 < 256) := hL.ok
  have HZ : Hid (∀ x ∈ ss, x.size ≤ maxLen) := fun x hx => by
    obtain ⟨k, hk, rfl⟩ := List.getElem_of_mem hx
    have := hN.sz k
    rw [List.getD_eq_getElem?_getD, List.getElem?_eq_getElem hk] at this
    exact this
  have hE : (w.alloc (.cells #[] 9)).ownsRow w.heap.size 9 1 (.slice (some ⟨w.heap.size, 0, none⟩) 0 0) 0 [] := own_emptyS w _
  have HE : Hid ((w.alloc (.cells #[] 9)).ownsRow w.heap.size 9 1 (.slice (some ⟨w.heap.size, 0, none⟩) 0 0) 0 []) := hE
  have HN0 : Hid (StrSl Tryz.prog 22 (w.alloc (.cells #[] 9)) a len cap (adOf a) ss) := hN.up (below_new _ _)
  have hl6 := fun w' (h : TkSl w' a' l' cap' ts) => Tryz.lentT_any a' l' cap' ts w' h (by omega)
  have d3 : ¬ 600 < s.size ∨ ¬ s.size ≤ 4096 := by omega
  clear hT hO hN hL hE
  have h1 := fun a7 c7 g w' (hn : StrSl Tryz.prog 22 w' a7 len c7 (adOf a7) ss) (hl : TkSl w' (some ⟨g, 0, none⟩) l' (l' + 3) ts) (ho : OpT w') => Tryz.show_formula a7 len c7 (adOf a7) ss (some ⟨g, 0, none⟩) l' (l' + 3) ts w' hn hl ho
  have h2 := fun w' (hn : StrSl Tryz.prog 22 w' a len cap (adOf a) ss) (hl : TkSl w' a' l' cap' ts) => Tryz.rFormula6 a len cap (adOf a) ss a' l' cap' ts w' hn hl
  have h3 := fun a7 c7 g w' (hn : StrSl Tryz.prog 22 w' a7 len c7 (adOf a7) ss) (hl : TkSl w' (some ⟨g, 0, none⟩) l' (l' + 3) ts) (ho : OpT w') => Tryz.show_path a7 len c7 (adOf a7) ss (some ⟨g, 0, none⟩) l' (l' + 3) ts w' hn hl ho
  have h4 := fun w' (hn : StrSl Tryz.prog 22 w' a len cap (adOf a) ss) (hl : TkSl w' a' l' cap' ts) => Tryz.rPath6 a len cap (adOf a) ss a' l' cap' ts w' hn hl
  have h5 := fun a7 c7 w' (hn : StrSl Tryz.prog 22 w' a7 len c7 (adOf a7) ss) (ht : Tab w') (ho : OpT w') => Tryz.show_tidy a7 len c7 (adOf a7) ss s w' hn hs ht ho
  have h6 := fun w' (hn : StrSl Tryz.prog 22 w' a len cap (adOf a) ss) => Tryz.rTidy6 a len cap (adOf a) ss s w' hn
  have h7 := fun a7 c7 w' (hn : StrSl Tryz.prog 22 w' a7 len c7 (adOf a7) ss) (hm : StrSl Tryz.prog 22 w' a len cap (adOf a) ss) => Tryz.sameX_any a7 len c7 (adOf a7) ss a len cap (adOf a) ss w' hn hm
  simp only [decide_true] at h7
  unfold TellP at h1 h2 h3 h4
  generalize tellL (nms ss) ts 1 = r1 at *
  generalize tellL (nms ss) ts 3 = r3 at *
  generalize tidyL (nms ss) s.toList = rt at *
  obtain ⟨t1, e1⟩ := r1
  obtain ⟨t3, e3⟩ := r3
  obtain ⟨tt, et, pt⟩ := rt
  dsimp only at h1 h2 h3 h4 h5 h6
  generalize mkB t1 = b1 at *
  generalize mkB t3 = b3 at *
  generalize mkB tt = bt at *
  have hlen12 : len ≤ 1000000 := by omega
  have hb0 : Below w.heap.size w (w.alloc (.cells #[] 9)) := below_new _ _
  have hsz0 : w.heap.size ≤ (w.alloc (.cells #[] 9)).heap.size := hb0.size
  rcases d3 with d3 | d3
  all_goals
    go_enter Tryz.func3, Tryz.ntmps3
    go_wp2_with (at_builtin; refine Tryz.append_nms rfl _ _ rfl w.heap.size _ a len cap ss rfl rfl HE.out HN0.out hlen12 hsz0 ?_)
    intro v7 w7 hown7 hgr7
    obtain ⟨a7, c7, rfl, hn7⟩ := ownsRow_strSl hown7 Tryz.underlying22 Tryz.sizeStr HZ.out
    have HB7 : Hid (Below w.heap.size w w7) := hb0.grown hgr7 hsz0 (fun q hq => by simp [Value.ownBlock] at hq; omega)
    have HI7 : Hid (StrSl Tryz.prog 22 w7 a7 len c7 (adOf a7) ss) := hn7
    have j0 := hl6 w7 (HL.out.up HB7.out)
    clear hown7 hgr7 hn7 hl6 HE HN0 hb0 hsz0
    go_wp2_with fail
    refine j0.mono ?_
    rintro e w8 ⟨rfl, hr8, hb8⟩
    have HB8 : Hid (Below w.heap.size w w8) := below_step HB7.out hb8
    have HI8 : Hid (StrSl Tryz.prog 22 w8 a7 len c7 (adOf a7) ss) := HI7.out.up hb8
    have HR8 : Hid (RowT w8 41 w7.heap.size (lentT ts)) := hr8
    have HK8 : Hid (TkSl w8 (some ⟨w7.heap.size, 0, none⟩) l' (l' + 3) ts) := lentT_slen hr8 HLE.out (by omega) HOK.out
    have j1 := h1 a7 c7 w7.heap.size w8 HI8.out HK8.out (HO.out.up HB8.out)
    clear j0 hr8 hb8 h1 HI7 HB7
    go_wp2_with fail
    refine j1.mono ?_
    rintro e w9 ⟨rfl, hb9⟩
    have HB9 : Hid (Below w.heap.size w w9) := below_step HB8.out hb9
    have HX9 : Hid (Below w8.heap.size w8 w9) := hb9
    have j2 := h2 w9 (HN.out.up HB9.out) (HL.out.up HB9.out)
    clear j1 hb9 h2
    go_wp2_with fail
    refine j2.mono ?_
    rintro e w10 ⟨rfl, hb10⟩
    have HB10 : Hid (Below w.heap.size w w10) := below_step HB9.out hb10
    have HX10 : Hid (Below w8.heap.size w8 w10) := below_step HX9.out hb10
    have j3 := h3 a7 c7 w7.heap.size w10 (HI8.out.up HX10.out) (HK8.out.up HX10.out) (HO.out.up HB10.out)
    clear j2 hb10 h3
    go_wp2_with fail
    refine j3.mono ?_
    rintro e w11 ⟨rfl, hb11⟩
    have HB11 : Hid (Below w.heap.size w w11) := below_step HB10.out hb11
    have HX11 : Hid (Below w8.heap.size w8 w11) := below_step HX10.out hb11
    have j4 := h4 w11 (HN.out.up HB11.out) (HL.out.up HB11.out)
    clear j3 hb11 h4
    go_wp2_with fail
    refine j4.mono ?_
    rintro e w12 ⟨rfl, hb12⟩
    have HB12 : Hid (Below w.heap.size w w12) := below_step HB11.out hb12
    have HX12 : Hid (Below w8.heap.size w8 w12) := below_step HX11.out hb12
    have j5 := h5 a7 c7 w12 (HI8.out.up HX12.out) (HT.out.up HB12.out) (HO.out.up HB12.out)
    clear j4 hb12 h5
    go_wp2_with fail
    refine j5.mono ?_
    rintro e x13 ⟨rfl, hb13⟩
    have HB13 : Hid (Below w.heap.size w (x13.alloc (.cells #[.int .i64 et, .int .i64 pt] 31))) := below_step (below_step HB12.out hb13) (below_new _ _)
    have HX13 : Hid (Below w8.heap.size w8 (x13.alloc (.cells #[.int .i64 et, .int .i64 pt] 31))) := below_step (below_step HX12.out hb13) (below_new _ _)
    have HF13 : Hid (Flt (x13.alloc (.cells #[.int .i64 et, .int .i64 pt] 31)) x13.heap.size et pt) := Flt.new _ _ _
    have j6 := h6 _ (HN.out.up HB13.out)
    clear j5 hb13 h6
    go_wp2_with fail
    generalize x13.alloc (.cells #[.int .i64 et, .int .i64 pt] 31) = w13 at *
    refine j6.mono ?_
    rintro e w14 ⟨rfl, hb14⟩
    have HB14 : Hid (Below w.heap.size w w14) := below_step HB13.out hb14
    have HX14 : Hid (Below w8.heap.size w8 w14) := below_step HX13.out hb14
    have hF14 := HF13.out.up hb14
    have f0 := hF14.c0
    have f1 := hF14.c1
    have j7 := h7 a7 c7 w14 (HI8.out.up HX14.out) (HN.out.up HB14.out)
    clear j6 hb14 h7 hF14 HF13
    go_wp2_with fail
    refine j7.mono ?_
    rintro e w15 ⟨rfl, n15, rfl⟩
    have hd15 : Below w14.heap.size w14 (w14.drewN n15) := below_drewN (Below.refl _ _) n15
    have j8 := Tryz.keptT_any w7.heap.size l' a' cap' ts _ ((HR8.out.up HX14.out).up hd15) ((HL.out.up HB14.out).up hd15) (by omega)
    have HB15 : Hid (Below w.heap.size w (w14.drewN n15)) := below_step HB14.out hd15
    clear j7 hd15 f0 f1
    go_wp2_with fail
    refine j8.mono ?_
    rintro e w16 ⟨rfl, hb16⟩
    have HB16 : Hid (Below w.heap.size w w16) := below_step HB15.out hb16
    clear j8 hb16
    go_wp2
    go_ret
    exact ⟨rfl, HB16.out⟩
end Go.Proofs.YtfipefbaabkdeaaGreatDoor
