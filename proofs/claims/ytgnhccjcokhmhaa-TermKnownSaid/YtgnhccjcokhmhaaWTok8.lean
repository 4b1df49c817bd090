/- The document's Check, Path, Blocks, Depths, Props, Plain; and package term's Props. -/
import Derived.Test.YtgnhccjcokhmhaaWTok7
import Derived.Test.YtgnhccjcokhmhaaWTe5
namespace Go.Proofs.Ytgnhccjcokhmhaa
open Go.RowKit Go.Maps

theorem Try.rCheck_any (a : Option Addr) (len cap : Nat) (ts : List Tk) (w : World) (hT : TkSl w a len cap ts) :
    Calls Try.prog 19 #[.slice a len cap] w fun e w' => e = .returned (.int .i64 (lookE ts 1 : Int)) ∧ Below w.heap.size w w' := by
  have hl := Try.kind_any a len cap true false ts w hT rfl
  have hwo : wantOf true false = 1 := rfl
  rw [hwo] at hl
  generalize lookE ts 1 = E at *
  go_enter Try.func19, Try.ntmps19
  go_wp2_with fail
  refine hl.mono ?_
  rintro e w1 ⟨⟨v, rfl, _, _⟩, hw1⟩
  go_wp2
  go_ret
  exact ⟨rfl, hw1⟩
theorem Try.rPath_any (a : Option Addr) (len cap : Nat) (ts : List Tk) (w : World) (hT : TkSl w a len cap ts) :
    Calls Try.prog 21 #[.slice a len cap] w fun e w' => e = .returned (.int .i64 (lookE ts 3 : Int)) ∧ Below w.heap.size w w' := by
  have hl := Try.kind_any a len cap false true ts w hT rfl
  have hwo : wantOf false true = 3 := rfl
  rw [hwo] at hl
  generalize lookE ts 3 = E at *
  go_enter Try.func21, Try.ntmps21
  go_wp2_with fail
  refine hl.mono ?_
  rintro e w1 ⟨⟨v, rfl, _, _⟩, hw1⟩
  go_wp2
  go_ret
  exact ⟨rfl, hw1⟩
/-- One number more behind a list of the call's own. -/
theorem Try.append_int {w : World} {ops : Array Oper} {rest : List Oper} {o : Oper} {a : Act} {Q : Exit → Act → World → Prop} (hgd : o.guard = none) (s x : Operand)
    (ho : o.op = .call { callee := .builtin .append, args := #[s, x], argTypes := #[25, 25] }) (base : Nat)
    (v : Value) (zs : List Int) (hs : a.eval s = v) (hown : w.ownsRow base 3 1 v zs.length (zs.map (Value.int .i64))) (g : Nat) (z : Int) (hx : a.eval x = .slice (some ⟨g, 0, none⟩) 1 1) (hB : w.cell? ⟨g, 0, none⟩ = some (.int .i64 z))
    (hn : zs.length ≤ 1000000) (hbase : base ≤ w.heap.size)
    (h : ∀ v' w', w'.ownsRow base 3 1 v' (zs ++ [z]).length ((zs ++ [z]).map (Value.int .i64)) → w.grownBy w' v.ownBlock → wpList Try.prog ops Q rest (a.put o.dst v') w') : wpList Try.prog ops Q (o :: rest) a w := by
  obtain ⟨i, hi, hz0, hz1, hz2⟩ := info_parts Try.infoInt
  refine wpList_append_own w hgd s x 25 ho base 3 i _ 1 8 Try.underlying25 hi hz0 hz1 hz2 rfl (by decide) v zs.length _ hs hown ⟨g, 0, none⟩ 1 1 [.int .i64 z] hx rfl (fun j u hj => ?_) (fun u hu => by rw [List.mem_singleton.1 hu]; rfl) (by unfold maxLen; omega) (by omega) hbase ?_
  · have hj0 : j = 0 := by have := (List.getElem?_eq_some_iff.1 hj).1; simpa using this
    subst hj0
    simp at hj
    rw [add_plain, ← hj]; exact hB
  · intro v' w' h1 h2 _
    exact h v' w' (by simpa using h1) h2
set_option maxHeartbeats 2000000 in
theorem Try.rBlocks_any (a : Option Addr) (len cap : Nat) (ts : List Tk) (w : World) (hT : TkSl w a len cap ts) :
    Calls Try.prog 11 #[.slice a len cap] w fun e w' => IntsR 3 (lookE ts 4) ((allP ts).map fun p => (p.frm : Int)) w e w' ∧ Below w.heap.size w w' := by
  have hl := Try.kind_any a len cap true true ts w hT rfl
  have hwo : wantOf true true = 4 := rfl
  rw [hwo] at hl
  have HN : Hid (lookE ts 4 = 0 → (allP ts).length ≤ 512) := fun h => by
    obtain ⟨h1, t, h2, h3, _⟩ := lookE_zero.1 h
    rw [h3, allP_tree h2, parts_len, ← flat_len, ← h3]; exact h1
  generalize lookE ts 4 = E at *
  generalize allP ts = all at *
  go_enter Try.func11, Try.ntmps11
  go_wp2_with fail
  refine hl.mono ?_
  rintro e w1 ⟨⟨v, rfl, hv0, hv1⟩, hw1⟩
  obtain ⟨ps, hN, HO, HPS⟩ : ∃ ps : List Pt, ps.length ≤ 512 ∧ Hid (w1.ownsRow w.heap.size 63 4 v ps.length (encP ps)) ∧ Hid ((E = 0 → ps = all) ∧ (E ≠ 0 → ps = [])) := by
    by_cases hE : E = 0
    · exact ⟨all, HN.out hE, hv0 hE, ⟨fun _ => rfl, fun h => absurd hE h⟩⟩
    · exact ⟨[], by decide, by rw [hv1 hE]; exact ⟨rfl, Or.inl ⟨rfl, rfl⟩⟩, ⟨fun h => absurd h hE, fun _ => rfl⟩⟩
  clear hv0 hv1 HN hl
  obtain ⟨a2, g2, cap2, rfl, hsh, hP, hc1, hc2⟩ := own_pt HO.out Try.underlying59 Try.sizePart
  have HP : Hid (PtSl _ _ _ _ _ _ _ _ _) := hP
  clear hP hsh hc1 hc2
  obtain ⟨n, hn⟩ : ∃ n, n = ps.length := ⟨_, rfl⟩
  rw [← hn] at HP hN ⊢
  have HNN : Hid (n = ps.length) := hn
  clear hn
  have hwS := hw1.size
  go_wp2
  go_loopw [6, 7] (fun v j wr => ∃ k : Nat, k ≤ n ∧ j = .int .i64 k ∧ Hid (wr.ownsRow w1.heap.size 3 1 v ((ps.take k).map fun p => (p.frm : Int)).length (((ps.take k).map fun p => (p.frm : Int)).map (Value.int .i64))) ∧ Hid (Below w1.heap.size w1 wr) ∧ Hid (k = 0 → v = .slice none 0 0)) (fun _ j _ => n - (intOf j).toNat)
  case atStart => exact ⟨0, Nat.zero_le _, rfl, ⟨rfl, Or.inl ⟨rfl, rfl⟩⟩, Below.refl _ _, fun _ => rfl⟩
  case round =>
    obtain ⟨k, hk, rfl, HR, hbk, HZ⟩ := hrel
    by_cases hlt : k < n
    · have hka : k < ps.length := by rw [← HNN.out]; exact hlt
      have hPk := HP.out.up hbk.out
      have hidx := fun w' => hPk.idx n k w' hlt (Nat.le_refl _)
      have hcc := hPk.c3 k hka
      generalize 0 + 4 * k = oo at hidx hcc
      have HS : Hid ((ps.take (k + 1)).map (fun p => (p.frm : Int)) = (ps.take k).map (fun p => (p.frm : Int)) ++ [(ps[k].frm : Int)]) := by
        show _ = _
        rw [List.take_add_one, List.getElem?_eq_getElem hka, List.map_append]; rfl
      have hzl : ((ps.take k).map fun p => (p.frm : Int)).length ≤ 1000000 := by simp; omega
      have hsz := hbk.out.size
      have hltr := World.ownsRow.lt HR.out
      clear hPk
      generalize ((ps.take k).map fun p => (p.frm : Int)) = zs at *
      generalize (ps[k].frm : Int) = z at *
      have HR1 : Hid (World.ownsRow _ _ _ _ _ _ _) := World.ownsRow.alloc HR.out (.cells #[.int .i64 z] 3)
      have hcell := cell_row (MapKept.heap_alloc wr (.cells #[.int .i64 z] 3)).1 0
      have hcell2 : (wr.alloc (.cells #[.int .i64 z] 3)).cell? ⟨wr.heap.size, 0, none⟩ = some (.int .i64 z) := hcell
      clear hcell
      go_wp2_with (at_builtin; refine Try.append_int rfl _ _ rfl w1.heap.size _ zs rfl HR1.out wr.heap.size z rfl hcell2 hzl (by simp; omega) ?_)
      intro v3 w3 hown3 hgr3
      have HO3 : Hid (World.ownsRow w3 w1.heap.size 3 1 v3 (zs ++ [z]).length ((zs ++ [z]).map (Value.int .i64))) := by rw [List.length_append, List.map_append]; exact hown3
      have hb3 : Hid (Below w1.heap.size w1 w3) := (hbk.out.alloc hsz _).grown hgr3 (by simp; omega) (fun j e => (hltr j e).1)
      clear hown3 hgr3
      go_wp2
      go_roundw
      case rel => exact ⟨k + 1, by omega, by go_num, by rw [HS.out]; exact HO3, hb3, fun h => absurd h (by omega)⟩
      case measure => simp [intOf]; omega
    · obtain rfl : k = n := by omega
      have HF : Hid (wr.ownsRow w1.heap.size 3 1 u6 (ps.map fun p => (p.frm : Int)).length ((ps.map fun p => (p.frm : Int)).map (Value.int .i64))) := by
        have h := HR.out
        rw [List.take_of_length_le (by rw [HNN.out]; exact Nat.le_refl _)] at h; exact h
      go_wp2
      go_ret2
      refine ⟨⟨u6, rfl, fun h => ?_, fun h => ?_⟩, below_step hw1 hbk.out⟩
      · rw [← HPS.out.1 h]; exact owns_base HF.out hwS
      · exact HZ.out (by rw [HNN.out, HPS.out.2 h]; rfl)
set_option maxHeartbeats 2000000 in
theorem Try.rDepths_any (a : Option Addr) (len cap : Nat) (ts : List Tk) (w : World) (hT : TkSl w a len cap ts) :
    Calls Try.prog 13 #[.slice a len cap] w fun e w' => IntsR 3 (lookE ts 4) ((allP ts).map fun p => (p.dep : Int)) w e w' ∧ Below w.heap.size w w' := by
  have hl := Try.kind_any a len cap true true ts w hT rfl
  have hwo : wantOf true true = 4 := rfl
  rw [hwo] at hl
  have HN : Hid (lookE ts 4 = 0 → (allP ts).length ≤ 512) := fun h => by
    obtain ⟨h1, t, h2, h3, _⟩ := lookE_zero.1 h
    rw [h3, allP_tree h2, parts_len, ← flat_len, ← h3]; exact h1
  generalize lookE ts 4 = E at *
  generalize allP ts = all at *
  go_enter Try.func13, Try.ntmps13
  go_wp2_with fail
  refine hl.mono ?_
  rintro e w1 ⟨⟨v, rfl, hv0, hv1⟩, hw1⟩
  obtain ⟨ps, hN, HO, HPS⟩ : ∃ ps : List Pt, ps.length ≤ 512 ∧ Hid (w1.ownsRow w.heap.size 63 4 v ps.length (encP ps)) ∧ Hid ((E = 0 → ps = all) ∧ (E ≠ 0 → ps = [])) := by
    by_cases hE : E = 0
    · exact ⟨all, HN.out hE, hv0 hE, ⟨fun _ => rfl, fun h => absurd hE h⟩⟩
    · exact ⟨[], by decide, by rw [hv1 hE]; exact ⟨rfl, Or.inl ⟨rfl, rfl⟩⟩, ⟨fun h => absurd h hE, fun _ => rfl⟩⟩
  clear hv0 hv1 HN hl
  obtain ⟨a2, g2, cap2, rfl, hsh, hP, hc1, hc2⟩ := own_pt HO.out Try.underlying59 Try.sizePart
  have HP : Hid (PtSl _ _ _ _ _ _ _ _ _) := hP
  clear hP hsh hc1 hc2
  obtain ⟨n, hn⟩ : ∃ n, n = ps.length := ⟨_, rfl⟩
  rw [← hn] at HP hN ⊢
  have HNN : Hid (n = ps.length) := hn
  clear hn
  have hwS := hw1.size
  go_wp2
  go_loopw [6, 7] (fun v j wr => ∃ k : Nat, k ≤ n ∧ j = .int .i64 k ∧ Hid (wr.ownsRow w1.heap.size 3 1 v ((ps.take k).map fun p => (p.dep : Int)).length (((ps.take k).map fun p => (p.dep : Int)).map (Value.int .i64))) ∧ Hid (Below w1.heap.size w1 wr) ∧ Hid (k = 0 → v = .slice none 0 0)) (fun _ j _ => n - (intOf j).toNat)
  case atStart => exact ⟨0, Nat.zero_le _, rfl, ⟨rfl, Or.inl ⟨rfl, rfl⟩⟩, Below.refl _ _, fun _ => rfl⟩
  case round =>
    obtain ⟨k, hk, rfl, HR, hbk, HZ⟩ := hrel
    by_cases hlt : k < n
    · have hka : k < ps.length := by rw [← HNN.out]; exact hlt
      have hPk := HP.out.up hbk.out
      have hidx := fun w' => hPk.idx n k w' hlt (Nat.le_refl _)
      have hcc := hPk.c2 k hka
      generalize 0 + 4 * k = oo at hidx hcc
      have HS : Hid ((ps.take (k + 1)).map (fun p => (p.dep : Int)) = (ps.take k).map (fun p => (p.dep : Int)) ++ [(ps[k].dep : Int)]) := by
        show _ = _
        rw [List.take_add_one, List.getElem?_eq_getElem hka, List.map_append]; rfl
      have hzl : ((ps.take k).map fun p => (p.dep : Int)).length ≤ 1000000 := by simp; omega
      have hsz := hbk.out.size
      have hltr := World.ownsRow.lt HR.out
      clear hPk
      generalize ((ps.take k).map fun p => (p.dep : Int)) = zs at *
      generalize (ps[k].dep : Int) = z at *
      have HR1 : Hid (World.ownsRow _ _ _ _ _ _ _) := World.ownsRow.alloc HR.out (.cells #[.int .i64 z] 3)
      have hcell := cell_row (MapKept.heap_alloc wr (.cells #[.int .i64 z] 3)).1 0
      have hcell2 : (wr.alloc (.cells #[.int .i64 z] 3)).cell? ⟨wr.heap.size, 0, none⟩ = some (.int .i64 z) := hcell
      clear hcell
      go_wp2_with (at_builtin; refine Try.append_int rfl _ _ rfl w1.heap.size _ zs rfl HR1.out wr.heap.size z rfl hcell2 hzl (by simp; omega) ?_)
      intro v3 w3 hown3 hgr3
      have HO3 : Hid (World.ownsRow w3 w1.heap.size 3 1 v3 (zs ++ [z]).length ((zs ++ [z]).map (Value.int .i64))) := by rw [List.length_append, List.map_append]; exact hown3
      have hb3 : Hid (Below w1.heap.size w1 w3) := (hbk.out.alloc hsz _).grown hgr3 (by simp; omega) (fun j e => (hltr j e).1)
      clear hown3 hgr3
      go_wp2
      go_roundw
      case rel => exact ⟨k + 1, by omega, by go_num, by rw [HS.out]; exact HO3, hb3, fun h => absurd h (by omega)⟩
      case measure => simp [intOf]; omega
    · obtain rfl : k = n := by omega
      have HF : Hid (wr.ownsRow w1.heap.size 3 1 u6 (ps.map fun p => (p.dep : Int)).length ((ps.map fun p => (p.dep : Int)).map (Value.int .i64))) := by
        have h := HR.out
        rw [List.take_of_length_le (by rw [HNN.out]; exact Nat.le_refl _)] at h; exact h
      go_wp2
      go_ret2
      refine ⟨⟨u6, rfl, fun h => ?_, fun h => ?_⟩, below_step hw1 hbk.out⟩
      · rw [← HPS.out.1 h]; exact owns_base HF.out hwS
      · exact HZ.out (by rw [HNN.out, HPS.out.2 h]; rfl)
def propsI : List Tk → Int → Int
  | [], x => x
  | t :: r, x => propsI r (if t.1 = 2 then bits BinOp.or IntKind.u8 x (2 ^ min t.2 8 % 256) else x)
set_option maxHeartbeats 2000000 in
theorem Try.props_any (a : Option Addr) (len cap : Nat) (ts : List Tk) (w : World) (hT : TkSl w a len cap ts) :
    Calls Try.prog 14 #[.slice a len cap] w fun e w' => e = .returned (.tuple #[.int .u8 (if lookE ts 4 = 0 then propsI ts 0 else 0), .int .i64 (lookE ts 4 : Int)]) ∧ Below w.heap.size w w' := by
  have hl := Try.look_any a len cap 4 ts w hT
  have hlen := hT.hlen
  have HL : Hid (lookE ts 4 = 0 → ts.length ≤ 512) := fun h => (lookE_zero.1 h).1
  generalize lookE ts 4 = E at *
  go_enter Try.func14, Try.ntmps14
  go_wp2_with fail
  refine hl.mono ?_
  rintro e w1 ⟨⟨v, rfl, _, _⟩, hw1⟩
  clear hl
  by_cases hE : E = 0
  · subst hE
    have hl5 := HL.out rfl
    go_wp2
    go_loopw [6, 19] (fun m j wr => ∃ (k : Nat) (x : Int), k ≤ len ∧ j = .int .i64 k ∧ m = .int .u8 x ∧ Hid (propsI (ts.drop k) x = propsI ts 0) ∧ Hid (Below w1.heap.size w1 wr)) (fun _ j _ => len - (intOf j).toNat)
    case atStart => exact ⟨0, 0, Nat.zero_le _, rfl, rfl, rfl, Below.refl _ _⟩
    case round =>
      obtain ⟨k, x, hk, rfl, rfl, HU, hbk⟩ := hrel
      by_cases hlt : k < len
      · have hkl : k < ts.length := by omega
        obtain ⟨g, o, s, hidx0, hc0, hc1, hgw, _⟩ := (hT.up (below_step hw1 hbk.out)).at Try.underlying22 Try.sizeTok k hlt
        have hidx := fun w' => hidx0 len w' hlt
        have HC : Hid _ := List.drop_eq_getElem_cons hkl
        obtain ⟨hop, hpp⟩ := hT.ok ts[k] (List.getElem_mem hkl)
        clear hidx0
        have HN : Hid (propsI (ts.drop (k + 1)) (if ts[k].1 = 2 then bits BinOp.or IntKind.u8 x (2 ^ min ts[k].2 8 % 256) else x) = propsI ts 0) := by
          have h := HU.out
          rw [HC.out] at h; exact h
        generalize ts[k] = t at *
        obtain ⟨op, pp⟩ := t
        dsimp only at *
        by_cases h2 : op = 2
        · subst h2
          have HN2 : Hid (propsI (ts.drop (k + 1)) (bits BinOp.or IntKind.u8 x (2 ^ min pp 8 % 256)) = propsI ts 0) := HN.out
          go_wp2
          go_roundw
          case rel => exact ⟨k + 1, _, by omega, by go_num, rfl, HN2, hbk.out.alloc hbk.out.size _⟩
          case measure => simp [intOf]; omega
        · have HN2 : Hid (propsI (ts.drop (k + 1)) x = propsI ts 0) := by
            have h := HN.out
            rw [if_neg h2] at h; exact h
          have h2' : ((op : Int) == 2) = false := by rw [beq_eq_false_iff_ne]; omega
          go_wp2
          go_roundw
          case rel => exact ⟨k + 1, _, by omega, by go_num, rfl, HN2, hbk.out.alloc hbk.out.size _⟩
          case measure => simp [intOf]; omega
      · obtain rfl : k = len := by omega
        have HF : Hid (x = propsI ts 0) := by
          have h := HU.out
          rw [List.drop_of_length_le (by omega)] at h; exact h
        go_wp2
        go_ret2
        exact ⟨by rw [← HF.out]; rfl, below_step hw1 hbk.out⟩
  · have hE' : ((E : Int) != 0) = true := by simp; omega
    go_wp2
    go_ret2
    exact ⟨rfl, hw1⟩
set_option maxHeartbeats 2000000 in
theorem Try.rProps_any (a : Option Addr) (len cap : Nat) (ts : List Tk) (w : World) (hT : TkSl w a len cap ts) :
    Calls Try.prog 15 #[.slice a len cap] w fun e w' => e = .returned (.tuple #[.int .u8 (if lookE ts 4 = 0 then propsI ts 0 else 0), .int .i64 (lookE ts 4 : Int)]) ∧ Below w.heap.size w w' := by
  have hl := Try.kind_any a len cap true true ts w hT rfl
  have hwo : wantOf true true = 4 := rfl
  rw [hwo] at hl
  have hlen := hT.hlen
  have HL : Hid (lookE ts 4 = 0 → ts.length ≤ 512) := fun h => (lookE_zero.1 h).1
  generalize lookE ts 4 = E at *
  go_enter Try.func15, Try.ntmps15
  go_wp2_with fail
  refine hl.mono ?_
  rintro e w1 ⟨⟨v, rfl, _, _⟩, hw1⟩
  clear hl
  by_cases hE : E = 0
  · subst hE
    have hl5 := HL.out rfl
    go_wp2
    go_loopw [6, 7] (fun m j wr => ∃ (k : Nat) (x : Int), k ≤ len ∧ j = .int .i64 k ∧ m = .int .u8 x ∧ Hid (propsI (ts.drop k) x = propsI ts 0) ∧ Hid (∃ n, wr = w1.drewN n)) (fun _ j _ => len - (intOf j).toNat)
    case atStart => exact ⟨0, 0, Nat.zero_le _, rfl, rfl, rfl, 0, rfl⟩
    case round =>
      obtain ⟨k, x, hk, rfl, rfl, HU, hbk⟩ := hrel
      by_cases hlt : k < len
      · have hkl : k < ts.length := by omega
        obtain ⟨g, o, s, hidx0, hc0, hc1, hgw, _⟩ := (hT.up (below_step hw1 (below_of_drew hbk.out))).at Try.underlying22 Try.sizeTok k hlt
        have hidx := fun w' => hidx0 len w' hlt
        have HC : Hid _ := List.drop_eq_getElem_cons hkl
        obtain ⟨hop, hpp⟩ := hT.ok ts[k] (List.getElem_mem hkl)
        clear hidx0
        have HN : Hid (propsI (ts.drop (k + 1)) (if ts[k].1 = 2 then bits BinOp.or IntKind.u8 x (2 ^ min ts[k].2 8 % 256) else x) = propsI ts 0) := by
          have h := HU.out
          rw [HC.out] at h; exact h
        generalize ts[k] = t at *
        obtain ⟨op, pp⟩ := t
        dsimp only at *
        by_cases h2 : op = 2
        · subst h2
          have HN2 : Hid (propsI (ts.drop (k + 1)) (bits BinOp.or IntKind.u8 x (2 ^ min pp 8 % 256)) = propsI ts 0) := HN.out
          go_wp2
          go_roundw
          case rel => exact ⟨k + 1, _, by omega, by go_num, rfl, HN2, hbk⟩
          case measure => simp [intOf]; omega
        · have HN2 : Hid (propsI (ts.drop (k + 1)) x = propsI ts 0) := by
            have h := HN.out
            rw [if_neg h2] at h; exact h
          have h2' : ((op : Int) == 2) = false := by rw [beq_eq_false_iff_ne]; omega
          go_wp2
          go_roundw
          case rel => exact ⟨k + 1, _, by omega, by go_num, rfl, HN2, hbk⟩
          case measure => simp [intOf]; omega
      · obtain rfl : k = len := by omega
        have HF : Hid (x = propsI ts 0) := by
          have h := HU.out
          rw [List.drop_of_length_le (by omega)] at h; exact h
        go_wp2
        go_ret2
        exact ⟨by rw [← HF.out]; rfl, below_step hw1 (below_of_drew hbk.out)⟩
  · have hE' : ((E : Int) != 0) = true := by simp; omega
    go_wp2
    go_ret2
    exact ⟨rfl, hw1⟩
set_option maxHeartbeats 1000000 in
theorem Try.rPlain_any (a : Option Addr) (len cap : Nat) (ts : List Tk) (w : World) (hT : TkSl w a len cap ts) :
    Calls Try.prog 17 #[.slice a len cap] w fun e w' => e = .returned (.tuple #[.bool (decide (lookE ts 1 = 0) && ((allP ts).getLast?.map (·.plain)).getD false), .int .i64 (lookE ts 1 : Int)]) ∧ Below w.heap.size w w' := by
  have hl := Try.kind_any a len cap true false ts w hT rfl
  have hwo : wantOf true false = 1 := rfl
  rw [hwo] at hl
  have HN : Hid (lookE ts 1 = 0 → ∃ q p, allP ts = q ++ [p] ∧ q.length ≤ 512) := fun h => by
    obtain ⟨h1, t, h2, h3, h4, _⟩ := lookE_zero.1 h
    obtain ⟨q, h5, h6⟩ := parts_last t 0
    have h7 : t.size ≤ 512 := by rw [← flat_len, ← h3]; exact h1
    exact ⟨q, t.part 0, by rw [h3, allP_tree h2, h5], by omega⟩
  generalize lookE ts 1 = E at *
  generalize allP ts = all at *
  go_enter Try.func17, Try.ntmps17
  go_wp2_with fail
  refine hl.mono ?_
  rintro e w1 ⟨⟨v, rfl, hv0, hv1⟩, hw1⟩
  by_cases hE : E = 0
  · subst hE
    obtain ⟨q, p, hall, hql⟩ := HN.out rfl
    have HO : Hid (World.ownsRow _ _ _ _ _ _ _) := hv0 rfl
    clear hv0 hv1 HN hl
    obtain ⟨a2, g2, cap2, rfl, hsh, hP, hx1, hx2⟩ := own_pt HO.out Try.underlying59 Try.sizePart
    have hlen : all.length = q.length + 1 := by rw [hall]; simp
    have hidx := fun w' => hP.idx all.length q.length w' (by omega) (Nat.le_refl _)
    have hce : ∀ h, all[q.length]'h = p := by simp [hall]
    have hc1 := hP.c1 q.length (by omega)
    rw [hce] at hc1
    have hw : IntKind.i64.wrap ((all.length : Int) - 1) = (q.length : Int) := by rw [IntKind.wrap_i64]; omega
    have HB : Hid ((decide (0 = 0) && (all.getLast?.map (·.plain)).getD false) = p.plain) := by
      show _ = _
      rw [hall]; simp
    clear hall hce hP HO hsh hx1 hx2
    generalize 0 + 4 * q.length = oo at hidx hc1
    generalize all.length = M at *
    generalize q.length = L at *
    generalize p.plain = b at *
    clear hlen hql
    go_wp2
    go_ret2
    refine ⟨?_, hw1⟩
    have h := HB.out
    simp only [decide_true, Bool.true_and] at h ⊢
    rw [h]; rfl
  · obtain rfl := hv1 hE
    have hE' : ((E : Int) != 0) = true := by simp; omega
    have HB : Hid ((decide (E = 0) && (all.getLast?.map (·.plain)).getD false) = false) := by show _ = _; rw [decide_eq_false hE]; rfl
    clear hl HN hv0
    go_wp2
    go_ret2
    exact ⟨by rw [HB.out]; rfl, hw1⟩
end Go.Proofs.Ytgnhccjcokhmhaa
