/- Texts of the proof, put together: what it uses. -/
import Derived.Deep.DeepCutAuto
import Derived.Lib.AppendZerosOnto
import Derived.Laws.CopyRow
import Derived.Deep.RegionHeld3
import Derived.Test.YthhbhadcjofelaaZ01
import Derived.Test.YthhbhadcjofelaaZ02
set_option maxRecDepth 100000
set_option maxHeartbeats 16000000
namespace Go.Proofs.Ythhbhadcjofelaa
open Go.RowKit Go.Maps
theorem q31 : (Try.prog.info? 27).map (fun i => (i.zero,i.size,i.bytes)) = some (some (.int .u8 0),1,1) := by kernel_rfl
theorem q37 (l c : Nat) (L C : Int) (hl : L = l) (hc : C = c) (hlc : l ≤ c) (hb : c ≤ 140737488355328) (w : World) :
  (Instr.makeSlice 31 (.int .i64 L) (.int .i64 C)).run Try.prog w = .ok (.slice (some ⟨w.heap.size,0,none⟩) l c) (w.alloc (.cells (enc8 (List.replicate c 0)) 27)) := by
 obtain ⟨i,hi,hz0,hz1,hz2⟩ := info_parts q31
 have := run_make (P := Try.prog) w 31 27 i (.int .u8 0) Try.underlying31 hi hz0 .i64 .i64 L C (by omega) (by omega) (by rw [hz2]; omega) (by omega)
 rw [this,hl,hc,hz1]
 simp only [Int.toNat_natCast,Nat.mul_one]
 have e : (Value.int .u8 0).cells = #[.int .u8 0] := rfl
 rw [e,made8]
end Go.Proofs.Ythhbhadcjofelaa
