/- The law's own helpers: T, Op, awake. -/
import Derived.Test.YtfgaieefejdkbaaWTe9
import Derived.Test.YtfgaieefejdkbaaWTs
namespace Go.Proofs.Ytfgaieefejdkbaa
open Go.RowKit Go.Maps

def tokOf (z : Int) : Tk := if z < 100 then (2, z.toNat) else ((z - 100).toNat, 0)
theorem tokOf_ok {z : Int} (h0 : 0 ≤ z) (h1 : z < 356) : (tokOf z).1 < 256 ∧ (tokOf z).2 < 256 := by
  unfold tokOf; split
  · exact ⟨by dsimp only; omega, by dsimp only; omega⟩
  · exact ⟨by dsimp only; omega, by dsimp only; omega⟩
theorem Try.op_any (op : Nat) (w : World) (h : op < 256) :
    Calls Try.prog 43 #[.int .u8 (op : Int)] w fun e w' => e = .returned (.int .i64 (100 + (op : Int))) ∧ w' = w := by
  have h1 : IntKind.i64.wrap (op : Int) = (op : Int) := by rw [IntKind.wrap_i64]; omega
  have h2 : IntKind.i64.wrap (100 + (op : Int)) = 100 + (op : Int) := by rw [IntKind.wrap_i64]; omega
  go_enter Try.func43, Try.ntmps43
  go_wp2
  go_ret
  exact ⟨rfl, rfl⟩
set_option maxHeartbeats 1000000 in
theorem Try.t_any (a : Option Addr) (len cap : Nat) (zs : List Int) (w : World) (hS : IntSl Try.prog 77 .i64 w a len cap zs) (hz : ∀ z ∈ zs, 0 ≤ z ∧ z < 356) (hl : len ≤ 1000) :
    Calls Try.prog 44 #[.slice a len cap] w fun e w' => ∃ v, e = .returned v ∧ w'.ownsRow w.heap.size 37 2 v (zs.map tokOf).length (encT (zs.map tokOf)) ∧ Below w.heap.size w w' := by
  have hlen := hS.hlen
  go_enter Try.func44, Try.ntmps44
  go_wp2
  go_loopw [3, 4] (fun v j wr => ∃ k : Nat, k ≤ len ∧ j = .int .i64 k ∧ Hid (wr.ownsRow w.heap.size 37 2 v ((zs.take k).map tokOf).length (encT ((zs.take k).map tokOf))) ∧ Hid (Below w.heap.size w wr)) (fun _ j _ => len - (intOf j).toNat)
  case atStart => exact ⟨0, Nat.zero_le _, rfl, ⟨rfl, Or.inl ⟨rfl, rfl⟩⟩, Below.refl _ _⟩
  case round =>
    obtain ⟨k, hk, rfl, HO, hbk⟩ := hrel
    by_cases hlt : k < len
    · have hkl : k < zs.length := by omega
      have hSk := hS.up hbk.out
      have hidx := fun w' => hSk.idx len k w' hlt (Nat.le_refl _)
      have hc := hSk.cell k hlt
      have hg : zs.getD k 0 = zs[k] := by simp [List.getD_eq_getElem?_getD, List.getElem?_eq_getElem hkl]
      have hzz := hz zs[k] (List.getElem_mem hkl)
      rw [hg] at hc
      have HN : Hid ((zs.take (k + 1)).map tokOf = (zs.take k).map tokOf ++ [tokOf zs[k]]) := by
        show _ = _
        rw [List.take_add_one, List.getElem?_eq_getElem hkl, List.map_append]; rfl
      have hlk : ((zs.take k).map tokOf).length ≤ 1000 := by simp; omega
      have hsz := hbk.out.size
      have hlt2 := World.ownsRow.lt HO.out
      clear hg hSk
      generalize (zs.take k).map tokOf = J at *
      generalize zs[k] = z at *
      by_cases h100 : z < 100
      · have hto : tokOf z = (2, z.toNat) := by unfold tokOf; rw [if_pos h100]
        obtain ⟨n, rfl⟩ : ∃ n : Nat, z = (n : Int) := ⟨z.toNat, by omega⟩
        have hw8 : IntKind.u8.wrap (n : Int) = (n : Int) := by rw [IntKind.wrap_u8]; omega
        rw [hto, Int.toNat_natCast] at HN
        have HB : Hid (Blk _ _ _ _ _) := Blk.new wr 37 2 n
        have HO1 : Hid (World.ownsRow _ _ _ _ _ _ _) := World.ownsRow.alloc HO.out (.cells #[.int .u8 ((2 : Nat) : Int), .int .u8 (n : Int)] 37)
        have HTK : Hid (TkSl _ _ _ _ _) := blk_tk HB.out (by decide) (by omega)
        go_wp2_with (at_builtin; refine Try.append_tks rfl _ _ rfl w.heap.size _ J [(2, n)] _ 1 1 rfl rfl HO1.out HTK.out (by omega) (by simp) (by simp; omega) ?_)
        intro v3 w3 hown3 hgr3
        have HO3 : Hid (w3.ownsRow w.heap.size 37 2 v3 (J ++ [(2, n)]).length (encT (J ++ [(2, n)]))) := by rw [List.length_append]; exact hown3
        have hb3 : Hid (Below w.heap.size w w3) := (hbk.out.alloc hsz _).grown hgr3 (by simp; omega) (fun j e => (hlt2 j e).1)
        clear hown3 hgr3
        go_wp2
        go_roundw
        case rel => exact ⟨k + 1, by omega, by go_num, by rw [HN.out]; exact HO3, hb3⟩
        case measure => simp [intOf]; omega
      · have hto : tokOf z = ((z - 100).toNat, 0) := by unfold tokOf; rw [if_neg h100]
        obtain ⟨n, rfl⟩ : ∃ n : Nat, z = (n : Int) + 100 := ⟨(z - 100).toNat, by omega⟩
        have e1 : ((n : Int) + 100 - 100).toNat = n := by omega
        have hw8 : IntKind.u8.wrap (n : Int) = (n : Int) := by rw [IntKind.wrap_u8]; omega
        have hws : IntKind.i64.wrap ((n : Int) + 100 - 100) = (n : Int) := by rw [IntKind.wrap_i64]; omega
        rw [hto, e1] at HN
        clear e1
        have HB : Hid (Blk _ _ _ _ _) := Blk.new wr 37 n 0
        have HO1 : Hid (World.ownsRow _ _ _ _ _ _ _) := World.ownsRow.alloc HO.out (.cells #[.int .u8 (n : Int), .int .u8 ((0 : Nat) : Int)] 37)
        have HTK : Hid (TkSl _ _ _ _ _) := blk_tk HB.out (by omega) (by decide)
        go_wp2_with (at_builtin; refine Try.append_tks rfl _ _ rfl w.heap.size _ J [(n, 0)] _ 1 1 rfl rfl HO1.out HTK.out (by omega) (by simp) (by simp; omega) ?_)
        intro v3 w3 hown3 hgr3
        have HO3 : Hid (w3.ownsRow w.heap.size 37 2 v3 (J ++ [(n, 0)]).length (encT (J ++ [(n, 0)]))) := by rw [List.length_append]; exact hown3
        have hb3 : Hid (Below w.heap.size w w3) := (hbk.out.alloc hsz _).grown hgr3 (by simp; omega) (fun j e => (hlt2 j e).1)
        clear hown3 hgr3
        go_wp2
        go_roundw
        case rel => exact ⟨k + 1, by omega, by go_num, by rw [HN.out]; exact HO3, hb3⟩
        case measure => simp [intOf]; omega
    · obtain rfl : k = len := by omega
      have HF : Hid (wr.ownsRow w.heap.size 37 2 u3 (zs.map tokOf).length (encT (zs.map tokOf))) := by
        have h := HO.out
        rw [List.take_of_length_le (by omega)] at h; exact h
      go_wp2
      go_ret
      exact ⟨u3, rfl, HF.out, hbk.out⟩
def awTs : List Tk := [(2, 0), (19, 0), (23, 0), (2, 1), (17, 0)]
theorem aw_look : lookE awTs 4 = 0 ∧ lookE awTs 1 = 0 ∧ (allP awTs).map (fun p => (p.frm : Int)) = [0, 0, 0, 3, 0] ∧ (allP awTs).map (fun p => (p.dep : Int)) = [1, 2, 3, 1, 4] := by decide
end Go.Proofs.Ytfgaieefejdkbaa
