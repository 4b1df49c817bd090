/- The document's put: the part that a token puts. -/
import Derived.Deep.RegionHeld3
import Derived.Deep.DeepCutAuto
import Derived.Test.YtfgaieefejdkbaaWTok1
import Derived.Test.YtfgaieefejdkbaaWTok2
namespace Go.Proofs.Ytfgaieefejdkbaa
open Go.RowKit Go.Maps

def ptCells (p : Pt) : Array Value := #[.bool p.path, .bool p.plain, .int .i64 (p.dep : Int), .int .i64 (p.frm : Int)]
/-- Block g is a variable that holds a part. -/
def PtBlk (w : World) (g : Nat) (t : TypeId) (p : Pt) : Prop := w.heap[g]? = some (.cells (ptCells p) t (0, 0))
theorem PtBlk.lt {w : World} {g : Nat} {t : TypeId} {p : Pt} (h : PtBlk w g t p) : g < w.heap.size := (Array.getElem?_eq_some_iff.1 h).1
theorem PtBlk.up {w w' : World} {g : Nat} {t : TypeId} {p : Pt} (h : PtBlk w g t p) (hb : Below w.heap.size w w') : PtBlk w' g t p := (hb.block g h.lt).trans h
theorem PtBlk.c0 {w : World} {g : Nat} {t : TypeId} {p : Pt} (h : PtBlk w g t p) : w.cell? ⟨g, 0, none⟩ = some (.bool p.path) := by unfold PtBlk at h; simp [World.cell?, h, ptCells]
theorem PtBlk.c1 {w : World} {g : Nat} {t : TypeId} {p : Pt} (h : PtBlk w g t p) : w.cell? ⟨g, 1, none⟩ = some (.bool p.plain) := by unfold PtBlk at h; simp [World.cell?, h, ptCells]
theorem PtBlk.c2 {w : World} {g : Nat} {t : TypeId} {p : Pt} (h : PtBlk w g t p) : w.cell? ⟨g, 2, none⟩ = some (.int .i64 (p.dep : Int)) := by unfold PtBlk at h; simp [World.cell?, h, ptCells]
theorem PtBlk.c3 {w : World} {g : Nat} {t : TypeId} {p : Pt} (h : PtBlk w g t p) : w.cell? ⟨g, 3, none⟩ = some (.int .i64 (p.frm : Int)) := by unfold PtBlk at h; simp [World.cell?, h, ptCells]
theorem PtBlk.fz {w : World} {g : Nat} {t : TypeId} {p : Pt} (h : PtBlk w g t p) (i : Nat) : w.frozen? ⟨g, i, none⟩ = false := frozen_of_row w g i _ t h
theorem PtBlk.set1 {w : World} {g : Nat} {t : TypeId} {p : Pt} (h : PtBlk w g t p) (x : Bool) : PtBlk (w.setCell ⟨g, 1, none⟩ (.bool x)) g t { p with plain := x } := heap_setCell_same w g 1 _ t (.bool x) h
theorem PtBlk.set2 {w : World} {g : Nat} {t : TypeId} {p : Pt} (h : PtBlk w g t p) (x : Nat) : PtBlk (w.setCell ⟨g, 2, none⟩ (.int .i64 (x : Int))) g t { p with dep := x } := heap_setCell_same w g 2 _ t (.int .i64 (x : Int)) h
theorem PtBlk.set3 {w : World} {g : Nat} {t : TypeId} {p : Pt} (h : PtBlk w g t p) (x : Nat) : PtBlk (w.setCell ⟨g, 3, none⟩ (.int .i64 (x : Int))) g t { p with frm := x } := heap_setCell_same w g 3 _ t (.int .i64 (x : Int)) h

theorem foldl_dep_le {l : List Pt} (h : ∀ x ∈ l, x.dep ≤ 1000000) : ∀ (d : Nat), d ≤ 1000001 → l.foldl (fun d x => max d (x.dep + 1)) d ≤ 1000001 := by
  induction l with
  | nil => intro d hd; exact hd
  | cons y r ih =>
    intro d hd
    have hy := h y (by simp)
    exact ih (fun x hx => h x (List.mem_cons_of_mem _ hx)) _ (by dsimp only; omega)
/-- The part as far as the first k parts tell. -/
def putTo (op i : Nat) (ps : List Pt) (k : Nat) : Pt := ⟨isPathB op, plainB op && (ps.take k).all (·.plain), (ps.take k).foldl (fun d x => max d (x.dep + 1)) 1, i⟩
theorem putTo_next {op i k : Nat} {ps : List Pt} (h : k < ps.length) : putTo op i ps (k + 1) = { putTo op i ps k with plain := (putTo op i ps k).plain && ps[k].plain, dep := max (putTo op i ps k).dep (ps[k].dep + 1) } := by
  have e : ps.take (k + 1) = ps.take k ++ [ps[k]] := by rw [List.take_add_one, List.getElem?_eq_getElem h]; rfl
  unfold putTo
  rw [e, List.all_append, List.foldl_append, ← Bool.and_assoc]
  simp
theorem putTo_dep {op i k : Nat} {ps : List Pt} (h : ∀ x ∈ ps, x.dep ≤ 1000000) : (putTo op i ps k).dep ≤ 1000001 := foldl_dep_le (fun x hx => h x (List.mem_of_mem_take hx)) 1 (by decide)
theorem putTo_all {op pp i : Nat} {ps : List Pt} : putP (op, pp) ps i = { putTo op i ps ps.length with frm := (putP (op, pp) ps i).frm } := by
  unfold putTo putP; simp

theorem PtBlk.other {w : World} {g g' : Nat} {t : TypeId} {p : Pt} (h : PtBlk w g t p) (hne : g ≠ g') (i : Nat) (x : Value) : PtBlk (w.setCell ⟨g', i, none⟩ x) g t p := (Below.heap_setCell _ _ _ _ hne).trans h
set_option maxHeartbeats 2000000 in
theorem Try.rput_any (op pp i : Nat) (a : Option Addr) (g o len cap : Nat) (ps : List Pt) (w : World) (hS : PtSl Try.prog 61 w a g o len cap ps) (hl2 : len ≤ 2) (hop : op ≤ 23) (hd : ∀ x ∈ ps, x.dep ≤ 1000000) :
    Calls Try.prog 60 #[.agg #[.int .u8 (op : Int), .int .u8 (pp : Int)], .slice a len cap, .int .i64 (i : Int)] w fun e w' => e = .returned (.agg (ptCells (putP (op, pp) ps i))) ∧ Below w.heap.size w w' := by
  have hip := fun w => Try.isPath_any op w
  have hpl := fun w => Try.plainOp_any op w hop
  have hidx := fun (k : Nat) (w : World) (h : k < len) => hS.idx len k w h (Nat.le_refl _)
  have hlen := hS.hlen
  go_enter Try.func60, Try.ntmps60
  go_upto_region 1 with fail
  go_cut [7] (fun t wx => t = .pointer (some ⟨w.heap.size + 1 + 1, 0, none⟩) ∧ Hid (PtBlk wx (w.heap.size + 1 + 1) 65 (putTo op i ps 0)) ∧ Hid (PtBlk wx (w.heap.size + 1) 65 ⟨false, false, 0, 0⟩) ∧ Hid (Below w.heap.size w wx))
  case first =>
    go_region_held3 (fun w' => w'.cell? ⟨w.heap.size, 0, none⟩ = some (.int .u8 (op : Int))) (simp [go_sem]) (first | (go_at_call 67; refine (hip _).mono ?_; rintro e w' ⟨rfl, rfl⟩) | (go_at_call 68; refine (hpl _).mono ?_; rintro e w' ⟨rfl, rfl⟩))
    all_goals
      go_wp2_with fail
      go_meet
      refine ⟨rfl, ?_, ?_, ?_⟩
      · show PtBlk _ _ _ _
        have := (MapKept.heap_alloc ((w.alloc (.cells #[.int .u8 (op : Int), .int .u8 (pp : Int)] 37)).alloc (.cells #[.bool false, .bool false, .int .i64 0, .int .i64 0] 65)) (.cells #[.bool (isPathB op), .bool (plainB op), .int .i64 1, .int .i64 (i : Int)] 65)).1
        have h2 : PtBlk (((w.alloc (.cells #[.int .u8 (op : Int), .int .u8 (pp : Int)] 37)).alloc (.cells #[.bool false, .bool false, .int .i64 0, .int .i64 0] 65)).alloc (.cells #[.bool (isPathB op), .bool (plainB op), .int .i64 1, .int .i64 (i : Int)] 65)) (w.heap.size + 1 + 1) 65 (putTo op i ps 0) := by simpa [PtBlk, putTo, ptCells] using this
        exact h2
      · show PtBlk _ _ _ _
        have := (MapKept.heap_alloc (w.alloc (.cells #[.int .u8 (op : Int), .int .u8 (pp : Int)] 37)) (.cells #[.bool false, .bool false, .int .i64 0, .int .i64 0] 65)).1
        have h2 : PtBlk ((w.alloc (.cells #[.int .u8 (op : Int), .int .u8 (pp : Int)] 37)).alloc (.cells #[.bool false, .bool false, .int .i64 0, .int .i64 0] 65)) (w.heap.size + 1) 65 ⟨false, false, 0, 0⟩ := by simpa [PtBlk, ptCells] using this
        exact h2.up (below_new _ _).drew
      · show Below _ _ _
        exact ((((below_new w _).alloc (by simp) _).alloc (by simp; omega) _)).drew
  case rest =>
    obtain ⟨rfl, hB, hZ, hbw⟩ := hcut
    go_wp2
    go_loopw [8] (fun j wr => ∃ k : Nat, k ≤ len ∧ j = .int .i64 k ∧ Hid (PtBlk wr (w.heap.size + 1 + 1) 65 (putTo op i ps k)) ∧ Hid (PtBlk wr (w.heap.size + 1) 65 ⟨false, false, 0, 0⟩) ∧ Hid (Below w.heap.size w wr)) (fun j _ => len - (intOf j).toNat)
    case atStart => exact ⟨0, Nat.zero_le _, rfl, hB, hZ, hbw⟩
    case round =>
      obtain ⟨k, hk, rfl, hBk, hZk, hbk⟩ := hrel
      by_cases hlt : k < len
      · have hkl : k < ps.length := by omega
        have HN : Hid _ := putTo_next (op := op) (i := i) hkl
        have hdk := putTo_dep (op := op) (i := i) (k := k) hd
        have hdx := hd ps[k] (List.getElem_mem hkl)
        have hgw : g < w.heap.size := hS.blk (by omega)
        have hSk := hS.up hbk.out
        have hp1 := hSk.c1 k hkl
        have hp2 := hSk.c2 k hkl
        have hq1 := hBk.out.c1
        have hf1 := hBk.out.fz 1
        have HB1 : ∀ x, Hid (PtBlk _ _ _ _) := fun x => hBk.out.set1 x
        have hq2 := fun x => (HB1 x).out.c2
        have hf2 := fun x => (HB1 x).out.fz 2
        have hp2' : ∀ x, (wr.setCell ⟨w.heap.size + 1 + 1, 1, none⟩ x).cell? ⟨g, o + 4 * k + 2, none⟩ = some (.int .i64 (ps[k].dep : Int)) := fun x => by
          rw [← hp2]; exact World.cell?_setCell_other _ _ _ _ (by intro e; injection e; omega)
        have hw1 : ∀ z : Nat, z ≤ 1000000 → IntKind.i64.wrap ((z : Int) + 1) = ((z + 1 : Nat) : Int) := fun z hz => by rw [IntKind.wrap_i64]; omega
        have hwx := hw1 _ hdx
        generalize hP : putTo op i ps k = P at *
        obtain ⟨p0, p1, p2, p3⟩ := P
        generalize hX : ps[k] = X at *
        obtain ⟨x0, x1, x2, x3⟩ := X
        dsimp only at *
        clear hidx
        have hidx := fun w => hS.idx len k w hlt (Nat.le_refl _)
        cases p1 with
        | false =>
          go_wp2
          by_cases hm : p2 < x2 + 1
          · go_region
            go_wp2
            refine ⟨⟨k + 1, by omega, by go_num, ?_, ?_, ?_⟩, by simp [intOf]; omega⟩
            · show PtBlk _ _ _ _
              have h := (HB1 false).out.set2 (x2 + 1)
              have e : putTo op i ps (k + 1) = ⟨p0, false, (x2 + 1), p3⟩ := by rw [HN.out]; simp; omega
              rw [e]; exact h
            · show PtBlk _ _ _ _
              exact (PtBlk.other (PtBlk.other hZk.out (by omega) _ _) (by omega) _ _)
            · show Below _ _ _
              exact ((hbk.out.setCell (by dsimp only; omega) _).setCell (by dsimp only; omega) _).drew
          · go_region
            go_wp2
            refine ⟨⟨k + 1, by omega, by go_num, ?_, ?_, ?_⟩, by simp [intOf]; omega⟩
            · show PtBlk _ _ _ _
              have h := (HB1 false).out.set2 p2
              have e : putTo op i ps (k + 1) = ⟨p0, false, p2, p3⟩ := by rw [HN.out]; simp; omega
              rw [e]; exact h
            · show PtBlk _ _ _ _
              exact (PtBlk.other (PtBlk.other hZk.out (by omega) _ _) (by omega) _ _)
            · show Below _ _ _
              exact ((hbk.out.setCell (by dsimp only; omega) _).setCell (by dsimp only; omega) _).drew
        | true =>
          go_wp2
          by_cases hm : p2 < x2 + 1
          · go_region
            go_wp2
            refine ⟨⟨k + 1, by omega, by go_num, ?_, ?_, ?_⟩, by simp [intOf]; omega⟩
            · show PtBlk _ _ _ _
              have h := (HB1 x1).out.set2 (x2 + 1)
              have e : putTo op i ps (k + 1) = ⟨p0, x1, (x2 + 1), p3⟩ := by rw [HN.out]; simp; omega
              rw [e]; exact h
            · show PtBlk _ _ _ _
              exact (PtBlk.other (PtBlk.other hZk.out (by omega) _ _) (by omega) _ _)
            · show Below _ _ _
              exact ((hbk.out.setCell (by dsimp only; omega) _).setCell (by dsimp only; omega) _).drew
          · go_region
            go_wp2
            refine ⟨⟨k + 1, by omega, by go_num, ?_, ?_, ?_⟩, by simp [intOf]; omega⟩
            · show PtBlk _ _ _ _
              have h := (HB1 x1).out.set2 p2
              have e : putTo op i ps (k + 1) = ⟨p0, x1, p2, p3⟩ := by rw [HN.out]; simp; omega
              rw [e]; exact h
            · show PtBlk _ _ _ _
              exact (PtBlk.other (PtBlk.other hZk.out (by omega) _ _) (by omega) _ _)
            · show Below _ _ _
              exact ((hbk.out.setCell (by dsimp only; omega) _).setCell (by dsimp only; omega) _).drew
      · obtain rfl : k = len := by omega
        have hz0 := hZk.out.c0
        have hz1 := hZk.out.c1
        have hz2 := hZk.out.c2
        have hz3 := hZk.out.c3
        have hy := hZk.out.fz
        by_cases h0 : k = 0
        · subst h0
          have HE : Hid _ := (List.eq_nil_of_length_eq_zero hlen)
          have HP : Hid (putP (op, pp) ps i = putTo op i ps 0) := by show _ = _; rw [HE.out]; simp [putP, putTo]
          have hq0 := hBk.out.c0
          have hq1 := hBk.out.c1
          have hq2 := hBk.out.c2
          have hq3 := hBk.out.c3
          go_wp2
          refine bodyPost_ret (v := .agg (ptCells (putTo op i ps 0))) (by simp [results, Try.results60, go_sem, hz0, hz1, hz2, hz3, ptCells]) rfl ⟨by rw [HP.out], ?_⟩
          exact (((hbk.out.setCell (by dsimp only; omega) _).setCell (by dsimp only; omega) _).setCell (by dsimp only; omega) _).setCell (by dsimp only; omega) _
        · have hkl : 0 < ps.length := by omega
          have hp3 := (hS.up hbk.out).c3 0 hkl
          have hidx0 : ∀ w, (Instr.indexAt 61 (.slice a k cap) (.int .i64 0)).run Try.prog w = .ok (.pointer (some ⟨g, o + 4 * 0, none⟩)) w := fun w => hS.idx k 0 w (by omega) (Nat.le_refl _)
          have HP : Hid (putP (op, pp) ps i = { putTo op i ps k with frm := ps[0].frm }) := by
            show _ = _; rw [putTo_all, hlen]
            match ps, hkl with
            | x :: r, _ => rfl
          have hf3 := hBk.out.fz 3
          have hq3 := hBk.out.c3
          have HB3 : Hid (PtBlk _ _ _ _) := hBk.out.set3 ps[0].frm
          have hr0 := HB3.out.c0
          have hr1 := HB3.out.c1
          have hr2 := HB3.out.c2
          have hr3 := HB3.out.c3
          have HZ3 : Hid (PtBlk (wr.setCell ⟨w.heap.size + 1 + 1, 3, none⟩ (.int .i64 (ps[0].frm : Int))) (w.heap.size + 1) 65 ⟨false, false, 0, 0⟩) := PtBlk.other hZk.out (by omega) _ _
          have hy0 := HZ3.out.c0
          have hy1 := HZ3.out.c1
          have hy2 := HZ3.out.c2
          have hy3 := HZ3.out.c3
          have hyf := HZ3.out.fz
          have hk0 : (0 : Int) < (k : Int) := by omega
          go_wp2
          refine bodyPost_ret (v := .agg (ptCells { putTo op i ps k with frm := ps[0].frm })) (by simp [results, Try.results60, go_sem, hy0, hy1, hy2, hy3, ptCells]) rfl ⟨by rw [HP.out], ?_⟩
          exact ((((hbk.out.setCell (by dsimp only; omega) _).setCell (by dsimp only; omega) _).setCell (by dsimp only; omega) _).setCell (by dsimp only; omega) _).setCell (by dsimp only; omega) _
end Go.Proofs.Ytfgaieefejdkbaa
