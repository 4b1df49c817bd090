/- Lists of tokens that are lent and held against what they were: LentToks, KeptToks. -/
import Derived.Test.YtfipefbaabkdeaaGreatDoorWTs5
import Derived.Test.YtfipefbaabkdeaaGreatDoorWTe4
import Derived.Laws.CopyRow
import Derived.Deep.RegionHeld3
namespace Go.Proofs.YtfipefbaabkdeaaGreatDoor
open Go.RowKit Go.Maps

/-- Block g is a row of just these tokens. -/
def RowT (w : World) (e : TypeId) (g : Nat) (cur : List Tk) : Prop := w.heap[g]? = some (.cells (encT cur).toArray e (0, 0))
theorem RowT.lt {w : World} {e : TypeId} {g : Nat} {cur : List Tk} (h : RowT w e g cur) : g < w.heap.size := (Array.getElem?_eq_some_iff.1 h).1
theorem RowT.up {w w' : World} {e : TypeId} {g : Nat} {cur : List Tk} (h : RowT w e g cur) (hb : Below w.heap.size w w') : RowT w' e g cur := (hb.block g h.lt).trans h
theorem RowT.c0 {w : World} {e : TypeId} {g : Nat} {cur : List Tk} (h : RowT w e g cur) {i : Nat} (hi : i < cur.length) : w.cell? ⟨g, 2 * i, none⟩ = some (.int .u8 (cur[i].1 : Int)) := by
  unfold RowT at h; simp only [World.cell?, h]; simpa using (encT_get cur i hi).1
theorem RowT.c1 {w : World} {e : TypeId} {g : Nat} {cur : List Tk} (h : RowT w e g cur) {i : Nat} (hi : i < cur.length) : w.cell? ⟨g, 2 * i + 1, none⟩ = some (.int .u8 (cur[i].2 : Int)) := by
  unfold RowT at h; simp only [World.cell?, h]; simpa using (encT_get cur i hi).2
theorem RowT.frozen {w : World} {e : TypeId} {g : Nat} {cur : List Tk} (h : RowT w e g cur) (i : Nat) : w.frozen? ⟨g, i, none⟩ = false := frozen_of_row w g i _ e h
theorem encT_set : ∀ (cur : List Tk) (i : Nat) (t : Tk), ((encT cur).set (2 * i) (.int .u8 (t.1 : Int))).set (2 * i + 1) (.int .u8 (t.2 : Int)) = encT (cur.set i t)
  | [], i, t => by simp [encT]
  | c :: cur, 0, t => by simp [encT_cons]
  | c :: cur, i + 1, t => by
    rw [List.set_cons_succ, encT_cons, encT_cons, ← encT_set cur i t, show 2 * (i + 1) = 2 * i + 1 + 1 by omega]
    simp
theorem RowT.set {w : World} {e : TypeId} {g : Nat} {cur : List Tk} (h : RowT w e g cur) (i : Nat) (t : Tk) : RowT ((w.setCell ⟨g, 2 * i, none⟩ (.int .u8 (t.1 : Int))).setCell ⟨g, 2 * i + 1, none⟩ (.int .u8 (t.2 : Int))) e g (cur.set i t) := by
  have h1 := heap_setCell_same w g (2 * i) _ e (.int .u8 (t.1 : Int)) h
  have h2 := heap_setCell_same _ g (2 * i + 1) _ e (.int .u8 (t.2 : Int)) h1
  unfold RowT; rw [h2]; simp [← encT_set]
theorem RowT.tk {w : World} {e : TypeId} {g n : Nat} {cur : List Tk} (h : RowT w e g cur) (hn : n ≤ cur.length) (hm : cur.length ≤ maxLen) (hok : ∀ t ∈ cur, t.1 < 256 ∧ t.2 < 256) : TkSl w (some ⟨g, 0, none⟩) n cur.length (cur.take n) := by
  refine ⟨by simp; omega, hn, hm, fun hn => (nomatch hn), fun x hx k hk => ?_, fun x hx k hk => ?_, fun t ht => hok t (List.mem_of_mem_take ht)⟩
  · injection hx with hx; subst hx
    have hk2 : k < cur.length := by simp at hk; omega
    rw [add_plain, Nat.zero_add, h.c0 hk2]; simp
  · injection hx with hx; subst hx
    have hk2 : k < cur.length := by simp at hk; omega
    rw [add_plain, Nat.zero_add, h.c1 hk2]; simp
/-- The mark that lies at place i of the room. -/
def markT (i : Nat) : Tk := (2, 200 + i % 50)
def lentTTo (ts : List Tk) (k : Nat) : List Tk := ts ++ ((List.range k).map (fun j => markT (ts.length + j)) ++ List.replicate (3 - k) (0, 0))
def lentT (ts : List Tk) : List Tk := ts ++ (List.range 3).map (fun j => markT (ts.length + j))
theorem lentTTo_len (ts : List Tk) {k : Nat} (h : k ≤ 3) : (lentTTo ts k).length = ts.length + 3 := by simp [lentTTo]; omega
theorem lentTTo_end (ts : List Tk) : lentTTo ts 3 = lentT ts := by simp [lentTTo, lentT]
theorem lentT_len (ts : List Tk) : (lentT ts).length = ts.length + 3 := by simp [lentT]
theorem lentT_take (ts : List Tk) : (lentT ts).take ts.length = ts := by simp [lentT]
theorem lentTTo_set (ts : List Tk) {k : Nat} (h : k < 3) : (lentTTo ts k).set (ts.length + k) (markT (ts.length + k)) = lentTTo ts (k + 1) := by
  unfold lentTTo
  obtain ⟨d, hd⟩ : ∃ d, 3 - k = d + 1 := ⟨3 - k - 1, by omega⟩
  have hd2 : 3 - (k + 1) = d := by omega
  rw [hd, hd2, List.range_succ, List.replicate_succ, List.set_append_right _ _ (by simp)]
  congr 1
  rw [show ts.length + k - ts.length = k by omega, List.set_append_right _ _ (by simp), List.map_append]
  simp
theorem lentT_ok {ts : List Tk} (hv : ∀ t ∈ ts, t.1 < 256 ∧ t.2 < 256) : ∀ t ∈ lentT ts, t.1 < 256 ∧ t.2 < 256 := by
  intro t ht
  unfold lentT at ht
  rcases List.mem_append.1 ht with h | h
  · exact hv t h
  · obtain ⟨j, _, rfl⟩ := List.mem_map.1 h; unfold markT; dsimp only; omega
theorem encT_replicate (n : Nat) : encT (List.replicate n (0, 0)) = (List.replicate n [Value.int .u8 0, Value.int .u8 0]).flatten := by
  unfold encT; rw [List.flatMap_def, List.map_replicate]; rfl
theorem madeT (n : Nat) : madeCells (Value.agg #[.int .u8 0, .int .u8 0]).cells (n * 2) = (encT (List.replicate n (0, 0))).toArray := by
  apply Array.ext_getElem?
  intro i
  have e : (Value.agg #[.int .u8 0, .int .u8 0]).cells = #[.int .u8 0, .int .u8 0] := rfl
  rw [e]
  by_cases h : i < n * 2
  · have hl : ∀ i, i < n * 2 → (encT (List.replicate n (0, 0)))[i]? = some (.int .u8 0) := by
      intro i h
      rcases Nat.mod_two_eq_zero_or_one i with h0 | h0
      · obtain ⟨k, rfl⟩ : ∃ k, i = 2 * k := ⟨i / 2, by omega⟩
        rw [(encT_get _ k (by simp; omega)).1]; simp
      · obtain ⟨k, rfl⟩ : ∃ k, i = 2 * k + 1 := ⟨i / 2, by omega⟩
        rw [(encT_get _ k (by simp; omega)).2]; simp
    have hr : (encT (List.replicate n (0, 0))).toArray[i]? = some (.int .u8 0) := by simpa using hl i h
    rw [hr]
    rcases Nat.mod_two_eq_zero_or_one i with h0 | h0 <;> simp [madeCells, h, h0]
  · have hr : (encT (List.replicate n ((0 : Nat), (0 : Nat)))).toArray[i]? = none := by
      rw [Array.getElem?_eq_none]; rw [List.size_toArray, encT_len]; simp; omega
    rw [hr, Array.getElem?_eq_none]
    simp [madeCells]; omega
theorem run_copy_row2 {P : Program} (w : World) (dT sT ty elem : TypeId) (g dLen dCap : Nat) (a : Addr) (sLen sCap : Nat) (cur : Array Value) (t : TypeId) (cs : List Value)
    (hu : P.underlying dT = some (.slice elem)) (hs : (P.info? elem).map (·.size) = some 2)
    (hg : w.heap[g]? = some (.cells cur t (0, 0))) (hn : Nat.min sLen dLen = sLen) (hl : cs.length = sLen * 2)
    (hsrc : ∀ j v, cs[j]? = some v → w.cell? (a.add j) = some v) (hfit : cs.length ≤ cur.size) (h1 : ∀ v ∈ cs, v.oneCell' = true) :
    (Builtin.copy_ #[dT, sT] ty #[.slice (some ⟨g, 0, none⟩) dLen dCap, .slice (some a) sLen sCap]).run P w =
      .ok (goInt sLen) (w.setRow g (cs ++ cur.toList.drop cs.length).toArray) := by
  have hld := run_loadCells_list (P := P) w a cs hsrc
  have hst := run_storeCells_at P g 0 t cs 0 cur w hg (by simpa using hfit) h1
  cases hq : P.info? elem with
  | none => simp [hq] at hs
  | some i =>
    have hi : i.size = 2 := by simpa [hq] using hs
    have hn' : min sLen dLen = sLen := hn
    simp [Builtin.copy_, run_underlying hu, Builtin.lenOf, Builtin.firstCells, sizeOf, typeInfo, hq, hi, hn', ← hl, hld, hst]
theorem run_copy_zero2 {P : Program} (w : World) (dT sT ty elem : TypeId) (d a : Option Addr) (dLen dCap sCap : Nat) (hu : P.underlying dT = some (.slice elem)) (hs : (P.info? elem).map (·.size) = some 2) :
    (Builtin.copy_ #[dT, sT] ty #[.slice d dLen dCap, .slice a 0 sCap]).run P w = .ok (goInt 0) w := by
  cases hq : P.info? elem with
  | none => simp [hq] at hs
  | some i =>
    have hmin : Nat.min 0 dLen = 0 := Nat.zero_min _
    cases d <;> cases a <;> simp [Builtin.copy_, run_underlying hu, Builtin.lenOf, Builtin.firstCells, sizeOf, typeInfo, hq, hmin, loadCells, loadCellsFrom, storeCells]
/-- copy(full, l), full the new list with room. -/
theorem Tryz.copyTok (a : Option Addr) (len cap : Nat) (ts : List Tk) (w : World) (hS : TkSl w a len cap ts) :
    ∃ w2, (∀ ty, (Builtin.copy_ #[23, 23] ty #[.slice (some ⟨w.heap.size, 0, none⟩) (len + 3) (len + 3), .slice a len cap]).run Tryz.prog (w.alloc (.cells (encT (List.replicate (len + 3) (0, 0))).toArray 41)) = .ok (goInt len) w2) ∧
      RowT w2 41 w.heap.size (lentTTo ts 0) ∧ Below w.heap.size w w2 := by
  by_cases h0 : len = 0
  · subst h0
    have hnil : ts = [] := List.eq_nil_of_length_eq_zero hS.hlen
    subst hnil
    exact ⟨_, fun ty => run_copy_zero2 _ _ _ ty 41 _ _ _ _ _ Tryz.underlying23 Tryz.sizeTok, (MapKept.heap_alloc w _).1, (Below.refl _ _).alloc (Nat.le_refl _) _⟩
  · cases a with
    | none => have h1 := hS.nn rfl; have h2 := hS.hcap; exact absurd h1 (by omega)
    | some x =>
      have hlm : (encT ts).length = len * 2 := by rw [encT_len, hS.hlen]
      have hrl : (encT (List.replicate (len + 3) ((0 : Nat), (0 : Nat)))).length = (len + 3) * 2 := by rw [encT_len]; simp
      have hrun := fun ty => run_copy_row2 (P := Tryz.prog) (w.alloc (.cells (encT (List.replicate (len + 3) (0, 0))).toArray 41)) 23 23 ty 41 w.heap.size (len + 3) (len + 3) x len cap _ 41 (encT ts) Tryz.underlying23 Tryz.sizeTok (MapKept.heap_alloc w _).1
        (Nat.min_eq_left (by omega)) hlm (fun j v hj => kept_cell (hS.cells j v hj) (below_new w _)) (by rw [hlm, List.size_toArray, hrl]; omega) (encT_one ts)
      refine ⟨_, hrun, ?_, ?_⟩
      · unfold RowT
        rw [setRow_heap _ _ _ _ _ _ (MapKept.heap_alloc w _).1]
        congr 3
        have e1 : List.replicate (len + 3) ((0 : Nat), (0 : Nat)) = List.replicate len (0, 0) ++ List.replicate 3 (0, 0) := by rw [List.replicate_append_replicate]
        have e2 : (encT (List.replicate len ((0 : Nat), (0 : Nat)))).length = (encT ts).length := by rw [encT_len, hlm]; simp
        show (encT ts ++ (encT (List.replicate (len + 3) (0, 0))).toArray.toList.drop (encT ts).length) = encT (lentTTo ts 0)
        have e3 : (encT (List.replicate (len + 3) ((0 : Nat), (0 : Nat)))).toArray.toList = encT (List.replicate (len + 3) (0, 0)) := rfl
        rw [e3, e1, encT_append, ← e2, List.drop_left, ← encT_append]
        simp [lentTTo]
      · exact below_setRow ((Below.refl _ _).alloc (Nat.le_refl _) _) (Nat.le_refl _) _
theorem Tryz.makeTok (l : Nat) (L : Int) (hl : L = l) (hb : l ≤ 1000000) (w : World) :
    (Instr.makeSlice 23 (.int .i64 L) (.int .i64 L)).run Tryz.prog w = .ok (.slice (some ⟨w.heap.size, 0, none⟩) l l) (w.alloc (.cells (encT (List.replicate l (0, 0))).toArray 41)) := by
  obtain ⟨i, hi, hz0, hz1, hz2⟩ := info_parts Tryz.infoTok
  have := run_make (P := Tryz.prog) w 23 41 i (.agg #[.int .u8 0, .int .u8 0]) Tryz.underlying23 hi hz0 .i64 .i64 L L (by omega) (by omega) (by rw [hz2]; omega) (by omega)
  rw [this, hl, hz1, ← madeT]
  simp only [Int.toNat_natCast]
set_option maxHeartbeats 800000 in
theorem Tryz.lentT_any (a : Option Addr) (len cap : Nat) (ts : List Tk) (w : World) (hS : TkSl w a len cap ts) (h20 : len ≤ 100000) :
    Calls Tryz.prog 4 #[.slice a len cap] w fun e w' => e = .returned (.slice (some ⟨w.heap.size, 0, none⟩) len (len + 3)) ∧ RowT w' 41 w.heap.size (lentT ts) ∧ Below w.heap.size w w' := by
  obtain ⟨w2, hcp, hrow, hb⟩ := Tryz.copyTok a len cap ts w hS
  have HL : Hid (ts.length = len) := hS.hlen
  have hmk := fun w => Tryz.makeTok (len + 3) ((len : Int) + 3) (by omega) (by omega) w
  go_enter Tryz.func4, Tryz.ntmps4
  go_wp2
  clear hmk hcp
  have hidx : ∀ (k : Nat) (w' : World), k < len + 3 → (Instr.indexAt 23 (.slice (some ⟨w.heap.size, 0, none⟩) (len + 3) (len + 3)) (.int .i64 k)).run Tryz.prog w' = .ok (.pointer (some ⟨w.heap.size, 2 * k, none⟩)) w' := fun k w' h => idx_of2 Tryz.underlying23 Tryz.sizeTok k w' h
  go_loopw [4] (fun i wr => ∃ k : Nat, len ≤ k ∧ k ≤ len + 3 ∧ i = .int .i64 k ∧ RowT wr 41 w.heap.size (lentTTo ts (k - len)) ∧ Below w.heap.size w wr) (fun i _ => len + 3 - (intOf i).toNat)
  case atStart => exact ⟨len, Nat.le_refl _, by omega, rfl, by rw [Nat.sub_self]; exact hrow, hb⟩
  case round =>
    obtain ⟨k, hk0, hk, rfl, hr, hnx⟩ := hrel
    by_cases hlt : k < len + 3
    · have hkl : k < (lentTTo ts (k - len)).length := by rw [lentTTo_len _ (by omega), HL.out]; omega
      have hc0 := hr.c0 hkl
      have hc1 := hr.c1 hkl
      have hf0 := hr.frozen (2 * k)
      have hf1 := hr.frozen (2 * k + 1)
      have hi := fun w' => hidx k w' hlt
      have R1 : RowT ((wr.setCell ⟨w.heap.size, 2 * k, none⟩ (.int .u8 2)).setCell ⟨w.heap.size, 2 * k + 1, none⟩ (.int .u8 (200 + ((k % 50 : Nat) : Int)))) 41 w.heap.size (lentTTo ts (k + 1 - len)) := by
        have := hr.set k (markT k)
        have e : ts.length + (k - len) = k := by rw [HL.out]; omega
        have h2 := lentTTo_set ts (k := k - len) (by omega)
        rw [e] at h2
        rw [h2, show k - len + 1 = k + 1 - len by omega] at this
        exact this
      have R2 : Below w.heap.size w ((wr.setCell ⟨w.heap.size, 2 * k, none⟩ (.int .u8 2)).setCell ⟨w.heap.size, 2 * k + 1, none⟩ (.int .u8 (200 + ((k % 50 : Nat) : Int)))) := (hnx.setCell (Nat.le_refl _) _).setCell (Nat.le_refl _) _
      clear hr hnx hidx
      go_wp2
      go_roundw
      case rel => exact ⟨k + 1, by omega, by omega, by go_num, R1, R2⟩
      case measure => simp [intOf]; omega
    · obtain rfl : k = len + 3 := by omega
      go_wp2
      go_ret
      exact ⟨rfl, by rw [show len + 3 - len = 3 by omega, lentTTo_end] at hr; exact hr, hnx⟩
theorem lentT_sl {w : World} {e : TypeId} {g len : Nat} {ts : List Tk} (hR : RowT w e g (lentT ts)) (hl : ts.length = len) (h : len ≤ 100000) (hok : ∀ t ∈ ts, t.1 < 256 ∧ t.2 < 256) : TkSl w (some ⟨g, 0, none⟩) (len + 3) (len + 3) (lentT ts) := by
  have := hR.tk (n := len + 3) (by rw [lentT_len]; omega) (by rw [lentT_len]; unfold maxLen; omega) (lentT_ok hok)
  rw [List.take_of_length_le (by rw [lentT_len]; omega), lentT_len, hl] at this
  exact this
theorem lentT_slen {w : World} {e : TypeId} {g len : Nat} {ts : List Tk} (hR : RowT w e g (lentT ts)) (hl : ts.length = len) (h : len ≤ 100000) (hok : ∀ t ∈ ts, t.1 < 256 ∧ t.2 < 256) : TkSl w (some ⟨g, 0, none⟩) len (len + 3) ts := by
  subst hl
  have := hR.tk (n := ts.length) (by rw [lentT_len]; omega) (by rw [lentT_len]; unfold maxLen; omega) (lentT_ok hok)
  rw [lentT_take, lentT_len] at this
  exact this
set_option maxHeartbeats 800000 in
theorem Tryz.keptT_any (g len : Nat) (a : Option Addr) (cap : Nat) (ts : List Tk) (w : World) (hR : RowT w 41 g (lentT ts)) (hS : TkSl w a len cap ts) (h20 : len ≤ 100000) :
    Calls Tryz.prog 12 #[.slice (some ⟨g, 0, none⟩) len (len + 3), .slice a len cap] w fun e w' => e = .returned (.bool true) ∧ Below w.heap.size w w' := by
  have hd : Below w.heap.size w w.drew := (Below.refl _ _).drew
  have hle := Tryz.lentT_any a len cap ts w.drew (hS.up hd) h20
  have hsm : ∀ w1, RowT w1 41 w.drew.heap.size (lentT ts) → Below w.drew.heap.size w.drew w1 → Calls Tryz.prog 22 #[.slice (some ⟨g, 0, none⟩) (len + 3) (len + 3), .slice (some ⟨w.drew.heap.size, 0, none⟩) (len + 3) (len + 3)] w1 fun e w' => e = .returned (.bool true) ∧ Below w1.heap.size w1 w' := fun w1 h1 h2 =>
    (Tryz.sameT_any _ _ _ _ _ _ _ _ w1 (lentT_sl ((hR.up hd).up h2) hS.hlen h20 hS.ok) (lentT_sl h1 hS.hlen h20 hS.ok)).mono fun e w' ⟨he, hn⟩ => ⟨by rw [he]; simp, hn⟩
  clear hR hS
  obtain ⟨C, hC⟩ : ∃ C : Nat, C = len + 3 := ⟨_, rfl⟩
  have hsum : IntKind.i64.wrap ((len : Int) + 3) = (C : Int) := by rw [hC, IntKind.wrap_i64]; omega
  have hC0 : (0 : Int) ≤ (C : Int) := by omega
  have hC1 : (C : Int) ≤ (C : Int) := by omega
  have hC2 : (C : Int) ≤ 9223372036854775807 := by omega
  have hC3 : (len : Int) ≤ (C : Int) := by omega
  rw [← hC] at hle hsm ⊢
  clear hC hd
  go_enter Tryz.func12, Tryz.ntmps12
  go_wp2
  go_region_held3 (fun _ => True) (trivial) (first | (go_at_call 4; refine hle.mono ?_; rintro e w1 ⟨rfl, h1, h2⟩; have hs1 := hsm w1 h1 h2) | (go_at_call 22; refine hs1.mono ?_; rintro e w3 ⟨rfl, h3⟩))
  go_wp2
  go_ret
  have hd : Below w.heap.size w w.drew := (Below.refl _ _).drew
  exact ⟨rfl, hd.trans (h2.trans (h3.mono h2.size))⟩
end Go.Proofs.YtfipefbaabkdeaaGreatDoor
