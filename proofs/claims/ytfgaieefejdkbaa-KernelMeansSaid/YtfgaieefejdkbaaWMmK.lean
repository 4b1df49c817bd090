/- Package mean: refusal, isPlace; All, At, Sat, Ends. -/
import Derived.Test.YtfgaieefejdkbaaWMmJ
import Derived.Test.YtfgaieefejdkbaaWTc
namespace Go.Proofs.Ytfgaieefejdkbaa
open Go.RowKit Go.Maps

def EntersM (F : FuncId) : Prop := ∀ args w, (callFunc F args).run Try.prog w = .ok (.enter F args) w
theorem Try.mfits8 (z : Int) (w : World) (h0 : 0 ≤ z) (h1 : z < 256) : Calls Try.prog 72 #[.int .i64 8, .int .u8 z] w fun e w' => e = .returned (.bool true) ∧ w' = w := by
  have hz : z / 256 = 0 := by omega
  go_enter Try.func72, Try.ntmps72
  go_wp2
  go_ret
  exact ⟨by simp, rfl⟩
set_option maxHeartbeats 1600000 in
theorem Try.mtrace_any (d : Option Addr) (m c : Nat) (zs : List Int) (w : World) (hL : LtSl w d m c zs) :
    Calls Try.prog 62 #[.int .i64 8, .slice d m c] w fun e w' => e = .returned (.int .i64 (trE zs)) ∧ Below w.heap.size w w' := by
  have hlen := hL.sl.hlen
  have hb0 := hL.sl.bd
  have hb1 := hL.sl.hcap
  unfold maxLen at hb0
  have HL : Hid (LtSl w d m c zs) := hL
  clear hL
  by_cases hm : 1024 < m
  · have HE : Hid (trE zs = 3) := if_pos (by omega)
    have hmi : (1024 : Int) < (m : Int) := by omega
    go_enter Try.func62, Try.ntmps62
    go_wp2
    go_ret
    exact ⟨by rw [HE.out]; rfl, Below.refl _ _⟩
  · have HE : Hid (trE zs = 0) := if_neg (by omega)
    have hmi : ¬ (1024 : Int) < (m : Int) := by omega
    go_enter Try.func62, Try.ntmps62
    go_wp2
    go_loopw [15] (fun i wr => ∃ k : Nat, k ≤ m ∧ i = .int .i64 k ∧ Hid (Below w.heap.size w wr)) (fun i _ => m - (intOf i).toNat)
    case atStart => exact ⟨0, Nat.zero_le _, rfl, Below.refl _ _⟩
    case round =>
      obtain ⟨k, hk, rfl, HW⟩ := hrel
      by_cases hlt : k < m
      · have hLr := HL.out.up HW.out
        have hi1 := fun w' => hLr.sl.idx m k w' hlt (Nat.le_refl _)
        have hc1 := hLr.sl.cell k hlt
        have hzz : 0 ≤ zs.getD k 0 ∧ zs.getD k 0 < 256 := by
          have : zs.getD k 0 = zs[k]'(by omega) := by simp [List.getD_eq_getElem?_getD, show k < zs.length by omega]
          rw [this]; exact hLr.ok _ (List.getElem_mem _)
        have hft := Try.mfits8 (zs.getD k 0) wr hzz.1 hzz.2
        generalize zs.getD k 0 = z at *
        clear hLr hzz
        go_wp2_with fail
        refine hft.mono ?_
        rintro e w2 ⟨rfl, rfl⟩
        go_wp2
        go_roundw
        case rel => exact ⟨k + 1, by omega, by go_num, HW⟩
        case measure => simp [intOf] <;> omega
      · obtain rfl : k = m := by omega
        go_wp2
        go_ret
        exact ⟨by rw [HE.out]; rfl, HW.out⟩
/-- What refusal answers. -/
def refM (ts : List Tk) (want : Nat) (zs : List Int) : Int := if lookE ts want = 0 then trE zs else (lookE ts want : Int)
theorem Try.mref_any (F : FuncId) (want : Nat) (hE : EntersM F) (hF : ∀ a len cap ts w, TkSl w a len cap ts → Calls Try.prog F #[.slice a len cap] w fun e w' => e = .returned (.int .i64 (lookE ts want : Int)) ∧ Below w.heap.size w w')
    (a : Option Addr) (len cap : Nat) (ts : List Tk) (d : Option Addr) (m c : Nat) (zs : List Int) (w : World) (hT : TkSl w a len cap ts) (hL : LtSl w d m c zs) :
    Calls Try.prog 41 #[.slice a len cap, .slice d m c, .func (.func F) #[] #[]] w fun e w' => e = .returned (.int .i64 (refM ts want zs)) ∧ Below w.heap.size w w' := by
  have h1 := hF a len cap ts w hT
  have h2 := fun w' (h : Below w.heap.size w w') => Try.mtrace_any d m c zs w' (hL.up h)
  unfold EntersM at hE
  unfold refM
  clear hF hT hL
  generalize trE zs = T at *
  generalize lookE ts want = E at *
  by_cases hz : E = 0
  · subst hz
    go_enter Try.func41, Try.ntmps41
    go_wp2_with fail
    refine h1.mono ?_
    rintro e w1 ⟨rfl, hb1⟩
    go_wp2_with fail
    refine (h2 w1 hb1).mono ?_
    rintro e w2 ⟨rfl, hb2⟩
    go_wp2
    go_ret
    exact ⟨rfl, below_step hb1 hb2⟩
  · have hz' : ¬ (E : Int) = 0 := by omega
    rw [if_neg hz]
    go_enter Try.func41, Try.ntmps41
    go_wp2_with fail
    refine h1.mono ?_
    rintro e w1 ⟨rfl, hb1⟩
    go_wp2
    go_ret
    exact ⟨rfl, hb1⟩
theorem Try.ent_check : EntersM 23 := fun _ _ => rfl
def plcB (i : Int) (m : Nat) : Bool := decide (0 ≤ i ∧ i ≤ (m : Int))
end Go.Proofs.Ytfgaieefejdkbaa
