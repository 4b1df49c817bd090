/- Package sets over the model: Same, Check, True; stage 10's laws of the landed package. -/
import Derived.Test.YtllcjmaecgfijaaDoorWSt4
import Derived.Test.YtllcjmaecgfijaaDoorWSe7
namespace Go.Proofs.YtllcjmaecgfijaaDoor
open Go.RowKit Go.Maps

theorem Tryd.sSame_any (a : Option Addr) (n c : Nat) (l : List Nat) (b : Option Addr) (m d : Nat) (k : List Nat) (w : World) (hA : USl w a n c l) (hB : USl w b m d k) :
    Calls Tryd.prog 24 #[.slice a n c, .slice b m d] w (BR (decide (l = k)) w) := by
  have he := Tryd.equalU_any a n c _ b m d _ w hA hB
  rw [dec_iU] at he
  clear hA hB
  generalize decide (l = k) = r at *
  go_enter Tryd.func24, Tryd.ntmps24
  go_wp2_with fail
  refine he.mono ?_
  rintro e w1 ⟨rfl, hw⟩
  have HB : Hid (Below w.heap.size w w1) := below_of_drew hw
  clear he hw
  go_wp2
  go_ret
  exact ⟨rfl, HB.out⟩
theorem Tryd.sCheck_any (a : Option Addr) (n c : Nat) (l : List Nat) (w : World) (hA : USl w a n c l) (sL : Sm l) (hn : n ≤ 1000000) :
    Calls Tryd.prog 14 #[.slice a n c] w (BR (decide (l = leastL l)) w) := by
  have hle := Tryd.least_any a n c l w hA sL hn
  have HS : Hid (∀ (b : Option Addr) (d : Nat) (w1 : World), USl w1 b (leastL l).length d (leastL l) → Below w.heap.size w w1 → Calls Tryd.prog 24 #[.slice a n c, .slice b (leastL l).length d] w1 (BR (decide (l = leastL l)) w1)) := fun b d w1 hU hb => Tryd.sSame_any a n c l b _ d _ w1 (hA.up hb) hU
  clear hA sL
  generalize decide (l = leastL l) = r at *
  go_enter Tryd.func14, Tryd.ntmps14
  go_wp2_with fail
  refine hle.mono ?_
  rintro e w1 ⟨q, C, rfl, hU, hb⟩
  have hs := HS.out q C w1 hU hb
  have HB : Hid _ := hb
  clear hle hU hb HS
  go_wp2_with fail
  refine hs.mono ?_
  rintro e w2 ⟨rfl, hb2⟩
  have HB2 : Hid (Below w.heap.size w w2) := below_step HB.out hb2
  clear hs hb2 HB
  go_wp2
  go_ret
  exact ⟨rfl, HB2.out⟩
theorem Tryd.true_any (w : World) : Calls Tryd.prog 6 #[] w (LR [0] w) := by
  have HU : Hid _ := Tryd.set_lit [0] w (by decide)
  have HB : Hid _ := below_new w (.cells ((iU [0]).map (Value.int .u64)).toArray 22)
  go_enter Tryd.func6, Tryd.ntmps6
  go_wp2
  go_ret
  exact ⟨_, _, rfl, HU.out, HB.out⟩
theorem Tryd.setC : SetC where
  least := fun a n c l w h s hn => Tryd.least_any a n c l w h s (by omega)
  check := fun a n c l w h s hn => Tryd.sCheck_any a n c l w h s (by omega)
  or := fun a n c l b m d k w h1 h2 s1 s2 hn => Tryd.or_any a n c l b m d k w h1 h2 s1 s2 hn
  and := fun a n c l b m d k w h1 h2 s1 s2 hn h3 h4 => Tryd.and_any a n c l b m d k w h1 h2 s1 s2 hn h3 h4
  holds := fun a n c l h w hU s _ hh => Tryd.holds_any a n c l h w hU s hh
  same := fun a n c l b m d k w h1 h2 => Tryd.sSame_any a n c l b m d k w h1 h2
  tru := Tryd.true_any
end Go.Proofs.YtllcjmaecgfijaaDoor
