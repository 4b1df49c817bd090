/- Stage 5's laws over the contracts of parse.Formula and parse.Path (handed in): what they share; awake. -/
import Derived.Test.YtnibcmmgnenfcaaDoorWCheck
import Derived.Test.YtnibcmmgnenfcaaDoorWLx7
import Derived.Test.YtnibcmmgnenfcaaDoorWFl
import Derived.Test.YtnibcmmgnenfcaaDoorWTs5
import Derived.Test.YtnibcmmgnenfcaaDoorPaV
import Derived.KernelRfl
namespace Go.Proofs.YtnibcmmgnenfcaaDoor
open Go.RowKit Go.Maps

/-- What a reading call answers. -/
def ReadC (F : FuncId) (L : List Bytes → Bytes → List Tk5 × Int × Int) : Prop :=
  ∀ (a : Option Addr) (len cap : Nat) (ad : Nat → Addr) (ss : List ByteArray) (s : ByteArray) (w : World), StrSl Tryd.prog 22 w a len cap ad ss → s.size ≤ maxLen → Tab w →
    Calls Tryd.prog F #[.slice a len cap, .string s] w fun e w' => ∃ v, e = .returned (.tuple #[v, .agg #[.int .i64 (L (nms ss) s.toList).2.1, .int .i64 (L (nms ss) s.toList).2.2]]) ∧
      w'.ownsRow w.heap.size 42 2 v (L (nms ss) s.toList).1.length (encT (L (nms ss) s.toList).1) ∧ Below w.heap.size w w' ∧ (L (nms ss) s.toList).1.length ≤ 512 ∧ ∀ z ∈ (L (nms ss) s.toList).1, z.1 < 256 ∧ z.2 < 256
theorem stAt_str {w : World} {g : Nat} {ss : List Bytes} (h : StAt w g ss) (hn : ss.length ≤ 1000) (hb : ∀ x ∈ ss, x.length ≤ 1000) : StrSl Tryd.prog 22 w (some ⟨g, 0, none⟩) ss.length ss.length (fun k => ⟨g, k, none⟩) (ss.map mkB) := by
  have hg : ∀ k, (ss.map mkB).getD k ByteArray.empty = mkB (ss.getD k []) := fun k => by
    by_cases hk : k < ss.length
    · simp [List.getD_eq_getElem?_getD, List.getElem?_eq_getElem hk]
    · simp [List.getD_eq_getElem?_getD, List.getElem?_eq_none (by omega : ss.length ≤ k)]; rfl
  refine ⟨by simp, Nat.le_refl _, by unfold maxLen; omega, fun n k w hk hn => ?_, fun k hk => by rw [hg]; exact h.cell hk, fun k _ => h.lt, fun k => ?_, fun e => by cases e⟩
  · have := idx_of Tryd.underlying22 Tryd.sizeStr (a := some ⟨g, 0, none⟩) (cap := ss.length) (n := n) (fun h => by cases h) k w hk
    rw [this]; simp [adOf, Addr.add]; omega
  · rw [hg, mkB_size]
    by_cases hk : k < ss.length
    · have := hb (ss.getD k []) (List.mem_of_getElem? (getD_get hk)); unfold maxLen; omega
    · simp [List.getD_eq_getElem?_getD, List.getElem?_eq_none (by omega : ss.length ≤ k)]
theorem nms_mkB (ss : List Bytes) : nms (ss.map mkB) = ss := by
  unfold nms; rw [List.map_map]
  conv => rhs; rw [← List.map_id ss]
  exact List.map_congr_left fun x _ => mkB_toList x
theorem ex5 : formL [[112], [113]] [112, 32, 85, 32, 113, 32, 38, 32, 112] = ([(2, 0), (2, 1), (15, 0), (2, 0), (11, 0)], 0, 0) := by kernel_rfl

theorem own_tks {w : World} {base n : Nat} {v : Value} {ts : List Tk5} (h : w.ownsRow base 42 2 v n (encT ts)) (hok : ∀ t ∈ ts, t.1 < 256 ∧ t.2 < 256) : ∃ a cap, v = .slice a n cap ∧ TkSl w a n cap ts := by
  obtain ⟨a, cap, h1, h2, _⟩ := own_tk h hok; exact ⟨a, cap, h1, h2⟩
/-- A block of tokens as a list. -/
theorem row_tk {w : World} {g : Nat} {ts : List Tk5} (h : w.heap[g]? = some (.cells (encT ts).toArray 42 (0, 0))) (hn : ts.length ≤ 1000) (hok : ∀ t ∈ ts, t.1 < 256 ∧ t.2 < 256) : TkSl w (some ⟨g, 0, none⟩) ts.length ts.length ts := by
  refine ⟨rfl, Nat.le_refl _, by unfold maxLen; omega, fun h => (nomatch h), ?_, ?_, hok⟩
  · intro x hx k hk
    injection hx with hx; subst hx
    rw [add_plain, Nat.zero_add, cell_row h]
    simpa using (encT_get ts k hk).1
  · intro x hx k hk
    injection hx with hx; subst hx
    rw [add_plain, Nat.zero_add, cell_row h]
    simpa using (encT_get ts k hk).2
theorem one_tk (w : World) {op : Nat} (h : op < 256) : TkSl (w.alloc (.cells #[.int .u8 (op : Int), .int .u8 0] 42)) (some ⟨w.heap.size, 0, none⟩) 1 1 [(op, 0)] := by
  have hc : ∀ j, (w.alloc (.cells #[.int .u8 (op : Int), .int .u8 0] 42)).cell? ⟨w.heap.size, j, none⟩ = #[Value.int .u8 (op : Int), .int .u8 0][j]? := fun j => cell_row (MapKept.heap_alloc w _).1 j
  refine ⟨rfl, Nat.le_refl _, by unfold maxLen; omega, fun h => (nomatch h), ?_, ?_, fun u hu => by simp at hu; subst hu; exact ⟨h, Nat.zero_lt_succ _⟩⟩
  all_goals
    intro x hx k hk
    injection hx with hx; subst hx
    simp at hk; subst hk
    rw [add_plain, hc]; rfl
set_option maxRecDepth 100000 in
set_option maxHeartbeats 1000000 in
theorem Tryd.awake5_any (hFm : ReadC 7 formL) (w : World) (hT : Tab w) : Calls Tryd.prog 14 #[] w fun e w' => e = .returned (.bool true) ∧ Below w.heap.size w w' := by
  have hS := stAt_str (StAt.new w [[112], [113]]) (by decide) (by decide)
  have h1 := hFm _ _ _ _ _ { data := #[112, 32, 85, 32, 113, 32, 38, 32, 112] } _ hS (by decide) (hT.up (below_new _ _))
  have el : (({ data := #[112, 32, 85, 32, 113, 32, 38, 32, 112] } : ByteArray)).toList = [112, 32, 85, 32, 113, 32, 38, 32, 112] := by rw [ByteArray.toList_eq]
  rw [el, nms_mkB, ex5] at h1
  have HB0 : Hid (Below w.heap.size w (w.alloc (.cells #[.string { data := #[112] }, .string { data := #[113] }] 9))) := below_new _ _
  clear hS hT el
  go_enter Tryd.func14, Tryd.ntmps14
  go_wp2_with fail
  refine h1.mono ?_
  rintro e w1 ⟨v1, rfl, hown1, hb1, _, hok⟩
  obtain ⟨a1, c1, rfl, hT1⟩ := own_tks hown1 hok
  dsimp only [List.length_cons, List.length_nil] at hT1 ⊢
  have hbw : Below w1.heap.size w1 ((((w1.alloc (.cells #[.int .i64 0, .int .i64 0] 26)).alloc (.cells #[.int .u8 2, .int .u8 0] 42)).alloc (.cells #[.int .u8 2, .int .u8 1] 42)).alloc (.cells #[.int .u8 2, .int .u8 0, .int .u8 2, .int .u8 1, .int .u8 15, .int .u8 0, .int .u8 2, .int .u8 0, .int .u8 11, .int .u8 0] 42)) := (((below_new _ _).alloc (by simp) _).alloc (by simp; omega) _).alloc (by simp; omega) _
  have HB5 : Hid (Below w.heap.size w ((((w1.alloc (.cells #[.int .i64 0, .int .i64 0] 26)).alloc (.cells #[.int .u8 2, .int .u8 0] 42)).alloc (.cells #[.int .u8 2, .int .u8 1] 42)).alloc (.cells #[.int .u8 2, .int .u8 0, .int .u8 2, .int .u8 1, .int .u8 15, .int .u8 0, .int .u8 2, .int .u8 0, .int .u8 11, .int .u8 0] 42))) := below_step (below_step HB0.out hb1) hbw
  have hA := hT1.up hbw
  have hR : TkSl ((((w1.alloc (.cells #[.int .i64 0, .int .i64 0] 26)).alloc (.cells #[.int .u8 2, .int .u8 0] 42)).alloc (.cells #[.int .u8 2, .int .u8 1] 42)).alloc (.cells #[.int .u8 2, .int .u8 0, .int .u8 2, .int .u8 1, .int .u8 15, .int .u8 0, .int .u8 2, .int .u8 0, .int .u8 11, .int .u8 0] 42)) (some ⟨w1.heap.size + 3, 0, none⟩) 5 5 [(2, 0), (2, 1), (15, 0), (2, 0), (11, 0)] := by
    have h := (MapKept.heap_alloc (((w1.alloc (.cells #[.int .i64 0, .int .i64 0] 26)).alloc (.cells #[.int .u8 2, .int .u8 0] 42)).alloc (.cells #[.int .u8 2, .int .u8 1] 42)) (.cells #[.int .u8 2, .int .u8 0, .int .u8 2, .int .u8 1, .int .u8 15, .int .u8 0, .int .u8 2, .int .u8 0, .int .u8 11, .int .u8 0] 42)).1
    have h2 : ((((w1.alloc (.cells #[.int .i64 0, .int .i64 0] 26)).alloc (.cells #[.int .u8 2, .int .u8 0] 42)).alloc (.cells #[.int .u8 2, .int .u8 1] 42)).alloc (.cells #[.int .u8 2, .int .u8 0, .int .u8 2, .int .u8 1, .int .u8 15, .int .u8 0, .int .u8 2, .int .u8 0, .int .u8 11, .int .u8 0] 42)).heap[w1.heap.size + 3]? = some (.cells (encT [(2, 0), (2, 1), (15, 0), (2, 0), (11, 0)]).toArray 42 (0, 0)) := by
      have e : (((w1.alloc (.cells #[.int .i64 0, .int .i64 0] 26)).alloc (.cells #[.int .u8 2, .int .u8 0] 42)).alloc (.cells #[.int .u8 2, .int .u8 1] 42)).heap.size = w1.heap.size + 3 := by simp
      rw [e] at h; exact h
    exact row_tk h2 (by decide) (by decide)
  have hSm := Tryd.sameT_any _ _ _ _ _ _ _ _ _ hA hR
  rw [decide_eq_true (rfl : ([(2, 0), (2, 1), (15, 0), (2, 0), (11, 0)] : List Tk) = _)] at hSm
  have q1 := Tryd.eqlFlt 0 0 0 0
  rw [decide_eq_true (rfl : ((0 : Int), (0 : Int)) = (0, 0))] at q1
  clear hown1 hT1 hb1 h1 hA hR hok hbw
  go_wp2_with fail
  refine hSm.mono ?_
  rintro e w6 ⟨rfl, hb6⟩
  have HB6 : Hid (Below w.heap.size w w6) := below_step HB5.out hb6
  clear hb6
  go_wp2
  go_ret
  exact ⟨rfl, HB6.out⟩

/-- CopyToks: new memory. -/
theorem own_emptyT (w : World) (e : TypeId) : (w.alloc (.cells #[] e)).ownsRow w.heap.size e 2 (.slice (some ⟨w.heap.size, 0, none⟩) 0 0) 0 (encT []) :=
  ⟨rfl, Or.inr ⟨w.heap.size, 0, #[], rfl, Nat.le_refl _, (MapKept.heap_alloc w _).1, Nat.le_refl _, Nat.zero_le _, by simp, by simp [encT]⟩⟩
theorem Tryd.copyT_any (a : Option Addr) (len cap : Nat) (ts : List Tk5) (w : World) (hS : TkSl w a len cap ts) (hl : len ≤ 10000) :
    Calls Tryd.prog 16 #[.slice a len cap] w fun e w' => ∃ v, e = .returned v ∧ w'.ownsRow w.heap.size 42 2 v ts.length (encT ts) ∧ Below w.heap.size w w' := by
  have HE : Hid ((w.alloc (.cells #[] 42)).ownsRow w.heap.size 42 2 (.slice (some ⟨w.heap.size, 0, none⟩) 0 0) 0 (encT [])) := own_emptyT w _
  have HS : Hid (TkSl (w.alloc (.cells #[] 42)) a len cap ts) := hS.up (below_new _ _)
  have hl2 : ts.length ≤ 10000000 := by rw [hS.hlen]; omega
  clear hS
  go_enter Tryd.func16, Tryd.ntmps16
  go_wp2_with (at_builtin; refine Tryd.append_tks rfl _ _ rfl w.heap.size _ [] ts a len cap rfl rfl HE.out HS.out (by simp) hl2 (by simp) ?_)
  intro v1 w1 hown hgr
  have HO : Hid (w1.ownsRow w.heap.size 42 2 v1 ts.length (encT ts)) := hown
  have HB : Hid (Below w.heap.size w w1) := (below_new w (.cells #[] 42)).grown hgr (by simp) (fun q hq => by simp [Value.ownBlock] at hq; omega)
  clear hown hgr
  go_wp2
  go_ret
  exact ⟨_, rfl, HO.out, HB.out⟩
/-- Pick: one of n. -/
theorem Tryd.pick6_any (k : Int) (w : World) :
    Calls Tryd.prog 15 #[.int .i64 k, .int .i64 6] w fun e w' => ∃ i : Nat, i < 6 ∧ e = .returned (.int .i64 (i : Int)) ∧ w' = w := by
  have b1 : k.tmod 6 < 6 := Int.tmod_lt_of_pos k (by decide)
  have b2 : -6 < k.tmod 6 := by
    rcases Int.le_total 0 k with h | h
    · have := Int.tmod_nonneg 6 h; omega
    · have e : k.tmod 6 = -((-k).tmod 6) := by rw [Int.neg_tmod, Int.neg_neg]
      have := Int.tmod_lt_of_pos (-k) (b := 6) (by decide)
      omega
  by_cases hn : k.tmod 6 < 0
  · go_enter Tryd.func15, Tryd.ntmps15
    go_wp2
    go_ret
    refine ⟨(k.tmod 6 + 6).toNat, by omega, congrArg (fun z => Ending.returned (Value.int .i64 z)) ?_, rfl⟩
    show k.tmod 6 + 6 = _
    generalize k.tmod 6 = z at *
    omega
  · go_enter Tryd.func15, Tryd.ntmps15
    go_wp2
    go_ret
    refine ⟨(k.tmod 6).toNat, by omega, congrArg (fun z => Ending.returned (Value.int .i64 z)) ?_, rfl⟩
    show k.tmod 6 = _
    generalize k.tmod 6 = z at *
    omega
end Go.Proofs.YtnibcmmgnenfcaaDoor
