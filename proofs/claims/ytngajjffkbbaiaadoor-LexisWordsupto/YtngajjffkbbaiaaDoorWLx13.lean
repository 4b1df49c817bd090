/- Places: where words begin, in a block of just that many numbers. -/
import Derived.Test.YtngajjffkbbaiaaDoorWLSpans2
import Derived.Test.YtngajjffkbbaiaaDoorWInts
namespace Go.Proofs.YtngajjffkbbaiaaDoor
open Go.RowKit Go.Maps

def pls (ts : List Wd) : List Int := ts.map (·.pl)
theorem pls_len (ts : List Wd) : (pls ts).length = ts.length := by simp [pls]
theorem pls_get {ts : List Wd} {k : Nat} (h : k < ts.length) : (pls ts).getD k 0 = ts[k].pl := by simp [pls, List.getD_eq_getElem?_getD, List.getElem?_eq_getElem h]
set_option maxHeartbeats 2000000 in
theorem Tryd.places_any (a : Option Addr) (len cap : Nat) (ts : List Wd) (w : World) (hS : WdSl w a len cap ts) (hn : len ≤ 1000000) :
    Calls Tryd.prog 11 #[.slice a len cap] w fun e w' => e = .returned (.slice (some ⟨w.heap.size, 0, none⟩) len len) ∧ RowI w' 3 w.heap.size (pls ts) ∧ Below w.heap.size w w' := by
  have HS : Hid (WdSl w a len cap ts) := hS
  have HL : Hid (ts.length = len) := hS.hlen
  have hcp := hS.hcap
  have hbd := hS.bd
  unfold maxLen at hbd
  clear hS
  have hmk := fun w' => Tryd.makeInts len hn w'
  have HI0 : Hid (RowI (w.alloc (.cells (madeCells #[.int .i64 0] len) 3)) 3 w.heap.size ((pls ts).take 0 ++ List.replicate (len - 0) 0)) := by
    have := (MapKept.heap_alloc w (.cells (madeCells #[.int .i64 0] len) 3)).1
    show w.alloc _ |>.heap[_]? = _
    rw [this, madeI]; simp
  go_enter Tryd.func11, Tryd.ntmps11
  go_wp2
  go_loopw [11] (fun j wr => ∃ k : Nat, k ≤ len ∧ j = .int .i64 k ∧ Hid (RowI wr 3 w.heap.size ((pls ts).take k ++ List.replicate (len - k) 0)) ∧ Hid (Below w.heap.size w wr)) (fun j _ => len - (intOf j).toNat)
  case atStart => exact ⟨0, Nat.zero_le _, rfl, HI0, below_new _ _⟩
  case round =>
    obtain ⟨k, hk, rfl, HI, HB⟩ := hrel
    by_cases hlt : k < len
    · have hkl : k < ts.length := by have := HL.out; omega
      obtain ⟨g, o, sh, hidx, hc0, hc1, hc2, hg, _⟩ := (HS.out.up HB.out).at Tryd.underlying22 Tryd.sizeWd k hlt
      have hik := fun w => hidx len w hlt
      have HF : Hid _ := set_fill (xs := pls ts) (n := len) (by rw [pls_len]; exact HL.out) hlt
      rw [pls_get hkl] at HF
      have hcl : ((pls ts).take k ++ List.replicate (len - k) 0).length = len := by simp [pls_len]; have := HL.out; omega
      have HI1 : Hid (RowI (wr.alloc (.cells #[.int .u8 (ts[k].so : Int), .string ts[k].tx, .int .i64 ts[k].pl] 33)) 3 w.heap.size ((pls ts).take k ++ List.replicate (len - k) 0)) := HI.out.up (below_new _ _)
      have hV := WBlk.new wr (ts[k].so : Int) ts[k].tx ts[k].pl
      have v2 := hV.c2
      have hic := HI1.out.cell (i := k) (by omega)
      have hif := HI1.out.frozen k
      have hil := HI.out.lt
      have hidy : ∀ w', (Instr.indexAt 36 (.slice (some ⟨w.heap.size, 0, none⟩) len len) (.int .i64 k)).run Tryd.prog w' = .ok (.pointer (some ⟨w.heap.size, k, none⟩)) w' := fun w' => by
        have := idx_of (a := some ⟨w.heap.size, 0, none⟩) (cap := len) (n := len) Tryd.underlying36 Tryd.sizeInt (by simp) k w' hlt
        simpa [adOf, add_plain] using this
      generalize ts[k].so = so at *
      generalize ts[k].tx = x at *
      generalize ts[k].pl = pl at *
      generalize ((pls ts).take k ++ List.replicate (len - k) 0).getD k 0 = old at *
      clear hidx hg hV hcl
      go_wp2
      go_roundw
      case rel =>
        refine ⟨k + 1, by omega, by go_num, ?_, ?_⟩
        · have := HI.out.set k pl
          rw [HF.out] at this
          exact this.up (below_new _ _)
        · have := HB.out.setCell (p := ⟨w.heap.size, k, none⟩) (Nat.le_refl _) (.int .i64 pl)
          exact this.alloc this.size _
      case measure => simp [intOf]; omega
    · have HX : Hid (RowI wr 3 w.heap.size (pls ts)) := by
        have := HI.out
        obtain rfl : k = len := by omega
        rw [Nat.sub_self, List.replicate_zero, List.append_nil, List.take_of_length_le (by rw [pls_len]; have := HL.out; omega)] at this
        exact this
      go_wp2
      go_ret
      exact ⟨rfl, HX.out, HB.out⟩
end Go.Proofs.YtngajjffkbbaiaaDoor
