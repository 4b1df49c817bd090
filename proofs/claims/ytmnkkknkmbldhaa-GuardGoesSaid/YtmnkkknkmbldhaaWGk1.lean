/- SameAuto of automata that are the same. -/
import Derived.Test.YtmnkkknkmbldhaaWGn3
import Derived.Test.YtmnkkknkmbldhaaWGr3
import Derived.Test.YtmnkkknkmbldhaaWMn1
namespace Go.Proofs.Ytmnkkknkmbldhaa
open Go.RowKit Go.Maps

theorem alloc_size1 (w : World) (o : Obj) : (w.alloc o).heap.size = w.heap.size + 1 := by simp
set_option maxRecDepth 100000 in
set_option maxHeartbeats 4000000 in
theorem Try.sameAu_any (p : Int) (aA : Option Addr) (nA cA : Nat) (aG : Option Addr) (nG cG : Nat) (aN : Option Addr) (nN cN : Nat) (bA : Option Addr) (dA : Nat) (bG : Option Addr) (dG : Nat) (bN : Option Addr) (dN : Nat) (bs : List Bool) (gs : List Int) (N : List Gd) (w : World)
    (h1 : BoSl w aA nA cA bs) (h2 : ZSl w aG nG cG gs) (h3 : NdSl w aN nN cN N) (k1 : BoSl w bA nA dA bs) (k2 : ZSl w bG nG dG gs) (k3 : NdSl w bN nN dN N) :
    Calls Try.prog 43 #[.agg #[.int .i64 p, .slice aA nA cA, .slice aG nG cG, .slice aN nN cN], .agg #[.int .i64 p, .slice bA nA dA, .slice bG nG dG, .slice bN nN dN]] w fun e w' => e = .returned (.bool true) ∧ Below w.heap.size w w' := by
  have HA0 : Hid _ := aub_new w p aA nA cA aG nG cG aN nN cN
  have HB0 : Hid _ := below_new w (.cells #[.int .i64 p, .slice aA nA cA, .slice aG nG cG, .slice aN nN cN] 48 (0, 0))
  have HS1 : Hid (∀ w', Below w.heap.size w w' → Calls Try.prog 50 #[.slice aA nA cA, .slice bA nA dA] w' fun e w2 => e = .returned (.bool true) ∧ Below w'.heap.size w' w2) := fun w' hb => by
    have := Try.sameB_any aA nA cA bs bA nA dA bs w' (h1.up hb) (k1.up hb)
    simpa using this
  have HS2 : Hid (∀ w', Below w.heap.size w w' → Calls Try.prog 22 #[.slice aG nG cG, .slice bG nG dG] w' fun e w2 => e = .returned (.bool true) ∧ Below w'.heap.size w' w2) := fun w' hb =>
    (Try.sameI_any aG nG cG gs bG nG dG gs w' (h2.up hb) (k2.up hb)).mono fun e w2 ⟨he, hn⟩ => ⟨by rw [he]; simp, drew_belowZ hn⟩
  have HS3 : Hid (∀ w', Below w.heap.size w w' → Calls Try.prog 16 #[.slice aN nN cN, .slice bN nN dN] w' fun e w2 => e = .returned (.bool true) ∧ Below w'.heap.size w' w2) := fun w' hb => by
    have := Try.sameN_any aN nN cN N bN nN dN N w' (h3.up hb) (k3.up hb)
    simpa using this
  clear h1 h2 h3 k1 k2 k3
  generalize hw1 : w.alloc (.cells #[.int .i64 p, .slice aA nA cA, .slice aG nG cG, .slice aN nN cN] 48 (0, 0)) = w1 at *
  have Hw1 : Hid _ := hw1
  have HA1 : Hid _ := aub_new w1 p bA nA dA bG nG dG bN nN dN
  have HBn : Hid _ := below_new w1 (.cells #[.int .i64 p, .slice bA nA dA, .slice bG nG dG, .slice bN nN dN] 48 (0, 0))
  have HB1 : Hid _ := below_step HB0.out HBn.out
  have HA2 : Hid _ := HA0.out.up HBn.out
  obtain ⟨c0, c1, c2, c3⟩ := HA2.out
  obtain ⟨d0, d1, d2, d3⟩ := HA1.out
  have j1 := HS1.out _ HB1.out
  rw [← hw1] at c0 c1 c2 c3 d0 d1 d2 d3 j1
  clear hw1
  go_enter Try.func43, Try.ntmps43
  go_wp2_with fail
  refine j1.mono ?_
  rw [Hw1.out]
  rintro e w2 ⟨rfl, hb2⟩
  have HA3 : Hid _ := HA2.out.up hb2
  have HA4 := HA1.out.up hb2
  rw [← Hw1.out, alloc_size1] at HA4
  have HA4 : Hid _ := HA4
  have HB2 : Hid _ := HB1.out.trans (hb2.mono HB1.out.size)
  clear c0 c1 c2 c3 d0 d1 d2 d3 j1 hb2
  have j2 := HS2.out _ HB2.out
  obtain ⟨c0, c1, c2, c3⟩ := HA3.out
  obtain ⟨d0, d1, d2, d3⟩ := HA4.out
  go_wp2_with fail
  refine j2.mono ?_
  rintro e w3 ⟨rfl, hb3⟩
  have HA5 : Hid _ := HA3.out.up hb3
  have HA6 : Hid _ := HA4.out.up hb3
  have HB3 : Hid _ := HB2.out.trans (hb3.mono HB2.out.size)
  clear c0 c1 c2 c3 d0 d1 d2 d3 j2 hb3
  have j3 := HS3.out _ HB3.out
  obtain ⟨c0, c1, c2, c3⟩ := HA5.out
  obtain ⟨d0, d1, d2, d3⟩ := HA6.out
  go_wp2_with fail
  refine j3.mono ?_
  rintro e w4 ⟨rfl, hb4⟩
  have HB4 : Hid _ := HB3.out.trans (hb4.mono HB3.out.size)
  clear c0 c1 c2 c3 d0 d1 d2 d3 j3 hb4
  go_wp2
  go_ret
  exact ⟨rfl, HB4.out⟩
end Go.Proofs.Ytmnkkknkmbldhaa
