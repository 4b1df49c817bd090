/- The law's own helpers: T, Op, awake. -/
import Derived.Test.YtgnhccjcokhmhaaWTe9
import Derived.Test.YtgnhccjcokhmhaaWTs
namespace Go.Proofs.Ytgnhccjcokhmhaa
open Go.RowKit Go.Maps

def tokOf (z : Int) : Tk := if z < 100 then (2, z.toNat) else ((z - 100).toNat, 0)
theorem tokOf_ok {z : Int} (h0 : 0 ≤ z) (h1 : z < 356) : (tokOf z).1 < 256 ∧ (tokOf z).2 < 256 := by
  unfold tokOf; split
  · exact ⟨by dsimp only; omega, by dsimp only; omega⟩
  · exact ⟨by dsimp only; omega, by dsimp only; omega⟩
theorem Try.op_any (op : Nat) (w : World) (h : op < 256) :
    Calls Try.prog 35 #[.int .u8 (op : Int)] w fun e w' => e = .returned (.int .i64 (100 + (op : Int))) ∧ w' = w := by
  have h1 : IntKind.i64.wrap (op : Int) = (op : Int) := by rw [IntKind.wrap_i64]; omega
  have h2 : IntKind.i64.wrap (100 + (op : Int)) = 100 + (op : Int) := by rw [IntKind.wrap_i64]; omega
  go_enter Try.func35, Try.ntmps35
  go_wp2
  go_ret
  exact ⟨rfl, rfl⟩
set_option maxHeartbeats 1000000 in
theorem Try.t_any (a : Option Addr) (len cap : Nat) (zs : List Int) (w : World) (hS : IntSl Try.prog 25 .i64 w a len cap zs) (hz : ∀ z ∈ zs, 0 ≤ z ∧ z < 356) (hl : len ≤ 1000) :
    Calls Try.prog 36 #[.slice a len cap] w fun e w' => ∃ v, e = .returned v ∧ w'.ownsRow w.heap.size 50 2 v (zs.map tokOf).length (encT (zs.map tokOf)) ∧ Below w.heap.size w w' := by
  have hlen := hS.hlen
  go_enter Try.func36, Try.ntmps36
  go_wp2
  go_loopw [3, 4] (fun v j wr => ∃ k : Nat, k ≤ len ∧ j = .int .i64 k ∧ Hid (wr.ownsRow w.heap.size 50 2 v ((zs.take k).map tokOf).length (encT ((zs.take k).map tokOf))) ∧ Hid (Below w.heap.size w wr)) (fun _ j _ => len - (intOf j).toNat)
  case atStart => exact ⟨0, Nat.zero_le _, rfl, ⟨rfl, Or.inl ⟨rfl, rfl⟩⟩, Below.refl _ _⟩
  case round =>
    obtain ⟨k, hk, rfl, HO, hbk⟩ := hrel
    by_cases hlt : k < len
    · have hkl : k < zs.length := by omega
      have hSk := hS.up hbk.out
      have hidx := fun w' => hSk.idx len k w' hlt (Nat.le_refl _)
      have hc := hSk.cell k hlt
      have hg : zs.getD k 0 = zs[k] := by simp [List.getD_eq_getElem?_getD, List.getElem?_eq_getElem hkl]
      have hzz := hz zs[k] (List.getElem_mem hkl)
      rw [hg] at hc
      have HN : Hid ((zs.take (k + 1)).map tokOf = (zs.take k).map tokOf ++ [tokOf zs[k]]) := by
        show _ = _
        rw [List.take_add_one, List.getElem?_eq_getElem hkl, List.map_append]; rfl
      have hlk : ((zs.take k).map tokOf).length ≤ 1000 := by simp; omega
      have hsz := hbk.out.size
      have hlt2 := World.ownsRow.lt HO.out
      clear hg hSk
      generalize (zs.take k).map tokOf = J at *
      generalize zs[k] = z at *
      by_cases h100 : z < 100
      · have hto : tokOf z = (2, z.toNat) := by unfold tokOf; rw [if_pos h100]
        obtain ⟨n, rfl⟩ : ∃ n : Nat, z = (n : Int) := ⟨z.toNat, by omega⟩
        have hw8 : IntKind.u8.wrap (n : Int) = (n : Int) := by rw [IntKind.wrap_u8]; omega
        rw [hto, Int.toNat_natCast] at HN
        have HB : Hid (Blk _ _ _ _ _) := Blk.new wr 50 2 n
        have HO1 : Hid (World.ownsRow _ _ _ _ _ _ _) := World.ownsRow.alloc HO.out (.cells #[.int .u8 ((2 : Nat) : Int), .int .u8 (n : Int)] 50)
        have HTK : Hid (TkSl _ _ _ _ _) := blk_tk HB.out (by decide) (by omega)
        go_wp2_with (at_builtin; refine Try.append_tks rfl _ _ rfl w.heap.size _ J [(2, n)] _ 1 1 rfl rfl HO1.out HTK.out (by omega) (by simp) (by simp; omega) ?_)
        intro v3 w3 hown3 hgr3
        have HO3 : Hid (w3.ownsRow w.heap.size 50 2 v3 (J ++ [(2, n)]).length (encT (J ++ [(2, n)]))) := by rw [List.length_append]; exact hown3
        have hb3 : Hid (Below w.heap.size w w3) := (hbk.out.alloc hsz _).grown hgr3 (by simp; omega) (fun j e => (hlt2 j e).1)
        clear hown3 hgr3
        go_wp2
        go_roundw
        case rel => exact ⟨k + 1, by omega, by go_num, by rw [HN.out]; exact HO3, hb3⟩
        case measure => simp [intOf]; omega
      · have hto : tokOf z = ((z - 100).toNat, 0) := by unfold tokOf; rw [if_neg h100]
        obtain ⟨n, rfl⟩ : ∃ n : Nat, z = (n : Int) + 100 := ⟨(z - 100).toNat, by omega⟩
        have e1 : ((n : Int) + 100 - 100).toNat = n := by omega
        have hw8 : IntKind.u8.wrap (n : Int) = (n : Int) := by rw [IntKind.wrap_u8]; omega
        have hws : IntKind.i64.wrap ((n : Int) + 100 - 100) = (n : Int) := by rw [IntKind.wrap_i64]; omega
        rw [hto, e1] at HN
        clear e1
        have HB : Hid (Blk _ _ _ _ _) := Blk.new wr 50 n 0
        have HO1 : Hid (World.ownsRow _ _ _ _ _ _ _) := World.ownsRow.alloc HO.out (.cells #[.int .u8 (n : Int), .int .u8 ((0 : Nat) : Int)] 50)
        have HTK : Hid (TkSl _ _ _ _ _) := blk_tk HB.out (by omega) (by decide)
        go_wp2_with (at_builtin; refine Try.append_tks rfl _ _ rfl w.heap.size _ J [(n, 0)] _ 1 1 rfl rfl HO1.out HTK.out (by omega) (by simp) (by simp; omega) ?_)
        intro v3 w3 hown3 hgr3
        have HO3 : Hid (w3.ownsRow w.heap.size 50 2 v3 (J ++ [(n, 0)]).length (encT (J ++ [(n, 0)]))) := by rw [List.length_append]; exact hown3
        have hb3 : Hid (Below w.heap.size w w3) := (hbk.out.alloc hsz _).grown hgr3 (by simp; omega) (fun j e => (hlt2 j e).1)
        clear hown3 hgr3
        go_wp2
        go_roundw
        case rel => exact ⟨k + 1, by omega, by go_num, by rw [HN.out]; exact HO3, hb3⟩
        case measure => simp [intOf]; omega
    · obtain rfl : k = len := by omega
      have HF : Hid (wr.ownsRow w.heap.size 50 2 u3 (zs.map tokOf).length (encT (zs.map tokOf))) := by
        have h := HO.out
        rw [List.take_of_length_le (by omega)] at h; exact h
      go_wp2
      go_ret
      exact ⟨u3, rfl, HF.out, hbk.out⟩
def awTs : List Tk := [(2, 0), (19, 0), (23, 0), (2, 1), (17, 0)]
theorem aw_look : lookE awTs 4 = 0 ∧ lookE awTs 1 = 0 ∧ (allP awTs).map (fun p => (p.frm : Int)) = [0, 0, 0, 3, 0] ∧ (allP awTs).map (fun p => (p.dep : Int)) = [1, 2, 3, 1, 4] := by decide
set_option maxHeartbeats 2000000 in
theorem Try.awake_any (w : World) : Calls Try.prog 33 #[] w fun e w' => e = .returned (.bool true) ∧ Below w.heap.size w w' := by
  obtain ⟨hk4, hk1, hkb, hkd⟩ := aw_look
  have hop := fun (op : Nat) (h : op < 256) w' => Try.op_any op w' h
  have h19 : ∀ w', Calls Try.prog 35 #[.int .u8 19] w' fun e w'' => e = .returned (.int .i64 119) ∧ w'' = w' := fun w' => hop 19 (by decide) w'
  have h23 : ∀ w', Calls Try.prog 35 #[.int .u8 23] w' fun e w'' => e = .returned (.int .i64 123) ∧ w'' = w' := fun w' => hop 23 (by decide) w'
  have h17 : ∀ w', Calls Try.prog 35 #[.int .u8 17] w' fun e w'' => e = .returned (.int .i64 117) ∧ w'' = w' := fun w' => hop 17 (by decide) w'
  clear hop
  have hrow : ∀ (w' : World) (zs : List Int), zs.length ≤ 10 → IntSl Try.prog 25 .i64 (w'.alloc (.cells (zs.map (Value.int .i64)).toArray 3)) (some ⟨w'.heap.size, 0, none⟩) zs.length zs.length zs := fun w' zs h => by
    have h1 : (w'.alloc (.cells (zs.map (Value.int .i64)).toArray 3)).ownsRow w'.heap.size 3 1 (.slice (some ⟨w'.heap.size, 0, none⟩) zs.length zs.length) zs.length (zs.map (Value.int .i64)) := RowI.owns (cur := zs) (MapKept.heap_alloc w' _).1 (Nat.le_refl _) rfl (by unfold maxLen; omega)
    obtain ⟨a, cap, h2, h3, _⟩ := ownI_sl h1 Try.underlying25 Try.sizeInt
    injection h2 with h2 _ h4
    rw [← h2, ← h4] at h3; exact h3
  have hr1 : Hid _ := hrow w [0, 119, 123, 1, 117] (by decide)
  have hT : Hid (Calls Try.prog 36 #[.slice (some ⟨w.heap.size, 0, none⟩) 5 5] (w.alloc (.cells #[.int .i64 0, .int .i64 119, .int .i64 123, .int .i64 1, .int .i64 117] 3)) _) := Try.t_any _ 5 5 [0, 119, 123, 1, 117] _ hr1.out (by decide) (by decide)
  have hte : [0, 119, 123, 1, 117].map tokOf = awTs := by decide
  rw [hte] at hT
  have hB := fun a len cap w' (h : TkSl w' a len cap awTs) => Try.blocks_any a len cap awTs w' h
  have hD := fun a len cap w' (h : TkSl w' a len cap awTs) => Try.depths_any a len cap awTs w' h
  have hC := fun a len cap w' (h : TkSl w' a len cap awTs) => Try.check_any a len cap awTs w' h
  rw [hk4, hkb] at hB
  rw [hk4, hkd] at hD
  rw [hk1] at hC
  clear hk4 hk1 hkb hkd hte
  have hl5 : awTs.length = 5 := rfl
  have hawok : ∀ t ∈ awTs, t.1 < 256 ∧ t.2 < 256 := by decide
  generalize awTs = A at *
  have hT1 := hT.out
  clear hT hr1
  rw [hl5] at hT1
  go_enter Try.func33, Try.ntmps33
  go_wp2_with fail
  refine (h19 _).mono ?_
  rintro e w1 ⟨rfl, rfl⟩
  go_wp2_with fail
  refine (h23 _).mono ?_
  rintro e w2 ⟨rfl, rfl⟩
  go_wp2_with fail
  refine (h17 _).mono ?_
  rintro e w3 ⟨rfl, rfl⟩
  go_wp2_with fail
  refine hT1.mono ?_
  rintro e w4 ⟨v, rfl, hown, hw4⟩
  have hb4 : Below w3.heap.size w3 w4 := below_step (below_new w3 _) hw4
  obtain ⟨a, cap, rfl, hA, _⟩ := own_tk hown hawok
  clear hown hT1 hw4 h19 h23 h17
  go_wp2_with fail
  refine (hB _ _ _ _ hA).mono ?_
  rintro e w5 ⟨⟨v5, rfl, hr5, _⟩, hw5⟩
  have hO5 := hr5 rfl
  have hA5 := hA.up hw5
  have hb5 := below_step hb4 hw5
  clear hr5 hw5 hB hb4 hA
  obtain ⟨a5, cap5, rfl, hI5, _⟩ := ownI_sl hO5 Try.underlying25 Try.sizeInt
  clear hO5
  go_wp2_with fail
  refine (hD _ _ _ _ hA5).mono ?_
  rintro e w6 ⟨⟨v6, rfl, hr6, _⟩, hw6⟩
  have hO6 := hr6 rfl
  have hA6 := hA5.up hw6
  have hb6 := below_step hb5 hw6
  have hI6 := hI5.up hw6
  clear hr6 hw6 hD hb5 hA5 hI5
  obtain ⟨a6, cap6, rfl, hJ6, _⟩ := ownI_sl hO6 Try.underlying25 Try.sizeInt
  clear hO6
  go_wp2_with fail
  refine (hC _ _ _ _ hA6).mono ?_
  rintro e w7 ⟨rfl, hw7⟩
  have hb7 := below_step hb6 hw7
  have hI7 := hI6.up hw7
  have hJ7 := hJ6.up hw7
  clear hw7 hC hb6 hA6 hI6 hJ6
  have hL7 := hrow w7 [0, 0, 0, 3, 0] (by decide)
  have hs7 := Try.sameI_any _ _ _ _ _ _ _ _ _ (hI7.up (below_new w7 _)) hL7
  have hb8 := below_step hb7 (below_new w7 (.cells (([0, 0, 0, 3, 0] : List Int).map (Value.int .i64)).toArray 3))
  have hJ8 := hJ7.up (below_new w7 (.cells (([0, 0, 0, 3, 0] : List Int).map (Value.int .i64)).toArray 3))
  clear hL7 hI7 hJ7 hb7
  go_wp2_with fail
  refine hs7.mono ?_
  rintro e w8 ⟨rfl, hq8⟩
  have hw8 := below_of_drew hq8
  have hb9 := below_step hb8 hw8
  have hJ9 := hJ8.up hw8
  clear hw8 hq8 hs7 hb8 hJ8
  have hL9 := hrow w8 [1, 2, 3, 1, 4] (by decide)
  have hs9 := Try.sameI_any _ _ _ _ _ _ _ _ _ (hJ9.up (below_new w8 _)) hL9
  have hb10 := below_step hb9 (below_new w8 (.cells (([1, 2, 3, 1, 4] : List Int).map (Value.int .i64)).toArray 3))
  clear hL9 hJ9 hb9
  go_wp2_with fail
  refine hs9.mono ?_
  rintro e w9 ⟨rfl, hq9⟩
  have hb11 := below_step hb10 (below_of_drew hq9)
  go_wp2
  go_ret
  exact ⟨rfl, hb11⟩
end Go.Proofs.Ytgnhccjcokhmhaa
