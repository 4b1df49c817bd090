/- Package kernel: takes, is, said, the rules. -/
import Derived.Test.YtfgaieefejdkbaaKnM
import Derived.Test.YtfgaieefejdkbaaWTk
namespace Go.Proofs.Ytfgaieefejdkbaa
open Go.RowKit Go.Maps

set_option maxHeartbeats 4000000 in
theorem Try.ktakes_any (op : Nat) (w : World) (hop : op ≤ 23) : Calls Try.prog 45 #[.int .u8 (op : Int)] w fun e w' => e = .returned (.int .i64 (takO op : Int)) ∧ w' = w := by
  rcases op_cases hop with rfl | rfl | rfl | rfl | rfl | rfl | rfl | rfl | rfl | rfl | rfl | rfl | rfl | rfl | rfl | rfl | rfl | rfl | rfl | rfl | rfl | rfl | rfl | rfl <;>
  · go_enter Try.func45, Try.ntmps45
    go_wp2
    go_ret
    exact ⟨rfl, rfl⟩
theorem Try.kis_any (k : Nat) (w : World) (hk : k ≤ 2) : Calls Try.prog 58 #[.int .u8 (k : Int), .int .u8 0] w fun e w' => e = .returned (.bool (isN k 0)) ∧ w' = w := by
  have : k = 0 ∨ k = 1 ∨ k = 2 := by omega
  rcases this with rfl | rfl | rfl <;>
  · go_enter Try.func58, Try.ntmps58
    go_wp2
    go_ret
    exact ⟨rfl, rfl⟩
theorem Try.ksaid_any (a : Option Addr) (n c : Nat) (w : World) : Calls Try.prog 65 #[.slice a n c] w fun e w' => e = .returned (.slice a n c) ∧ w' = w := by
  go_enter Try.func65, Try.ntmps65
  go_wp2
  go_ret
  exact ⟨rfl, rfl⟩
theorem Try.sizeOpU : (Try.prog.info? 35).map (·.size) = some 1 := by kernel_rfl
/-- A list of operators, as it lies in memory. -/
def OpsL (w : World) (a : Option Addr) (len cap : Nat) (os : List Nat) : Prop := IntSl Try.prog 79 .u8 w a len cap (os.map fun o : Nat => (o : Int))
/-- What rule answers. -/
def RuleR (op : Nat) (w : World) (e : Ending) (w' : World) : Prop := ∃ a1 c1 a2 c2, e = .returned (.tuple #[.slice a1 (rOwn op).length c1, .slice a2 (rNeg op).length c2]) ∧ OpsL w' a1 (rOwn op).length c1 (rOwn op) ∧ OpsL w' a2 (rNeg op).length c2 (rNeg op) ∧ Below w.heap.size w w'
theorem ops_new (w : World) (os : List Nat) (hl : os.length ≤ 100) : OpsL (w.alloc (.cells (enc8 (os.map fun o : Nat => (o : Int))) 35)) (some ⟨w.heap.size, 0, none⟩) os.length os.length os := by
  have h := (RowAt.new w 35 (os.map fun o : Nat => (o : Int))).intSl (n := (os.map fun o : Nat => (o : Int)).length) Try.underlying79 Try.sizeOpU (Nat.le_refl _) (by unfold maxLen; simp; omega)
  rw [List.take_length, List.length_map] at h
  exact h
theorem two_rules (w : World) (op : Nat) (o1 o2 : List Nat) (h1 : rOwn op = o1) (h2 : rNeg op = o2) (l1 : o1.length ≤ 100) (l2 : o2.length ≤ 100) (v1 v2 : Array Value) (e1 : v1 = enc8 (o1.map fun o : Nat => (o : Int))) (e2 : v2 = enc8 (o2.map fun o : Nat => (o : Int))) :
    RuleR op w (.returned (.tuple #[.slice (some ⟨w.heap.size, 0, none⟩) o1.length o1.length, .slice (some ⟨w.heap.size + 1, 0, none⟩) o2.length o2.length])) ((w.alloc (.cells v1 35)).alloc (.cells v2 35)) := by
  subst h1 h2 e1 e2
  have a1 := ops_new w (rOwn op) l1
  have a2 := ops_new (w.alloc (.cells (enc8 ((rOwn op).map fun o : Nat => (o : Int))) 35)) (rNeg op) l2
  have hz : (w.alloc (.cells (enc8 ((rOwn op).map fun o : Nat => (o : Int))) 35)).heap.size = w.heap.size + 1 := by simp
  rw [hz] at a2
  exact ⟨_, _, _, _, rfl, IntSl.up a1 (below_new _ _), a2, below_step (below_new _ _) (below_new _ _)⟩
theorem one_rule (w : World) (op : Nat) (o1 : List Nat) (h1 : rOwn op = o1) (h2 : rNeg op = []) (l1 : o1.length ≤ 100) (v1 : Array Value) (e1 : v1 = enc8 (o1.map fun o : Nat => (o : Int))) :
    RuleR op w (.returned (.tuple #[.slice (some ⟨w.heap.size, 0, none⟩) o1.length o1.length, .slice none 0 0])) (w.alloc (.cells v1 35)) := by
  subst h1 e1
  unfold RuleR
  rw [h2]
  exact ⟨_, _, _, _, rfl, ops_new w (rOwn op) l1, intSl_nil, below_new _ _⟩
set_option maxHeartbeats 2000000 in
theorem Try.kruleOfTwo_11 (w : World) : Calls Try.prog 66 #[.int .u8 11] w (RuleR 11 w) := by
  have hs := Try.ksaid_any
  go_enter Try.func66, Try.ntmps66
  go_wp2_with (go_at_call 65; refine (hs _ _ _ _).mono ?_; rintro e w' ⟨rfl, rfl⟩)
  go_ret2
  exact two_rules w 11 [24, 26, 11] [25, 27, 12] rfl rfl (by decide) (by decide) _ _ rfl rfl
set_option maxHeartbeats 2000000 in
theorem Try.kruleOfTwo_12 (w : World) : Calls Try.prog 66 #[.int .u8 12] w (RuleR 12 w) := by
  have hs := Try.ksaid_any
  go_enter Try.func66, Try.ntmps66
  go_wp2_with (go_at_call 65; refine (hs _ _ _ _).mono ?_; rintro e w' ⟨rfl, rfl⟩)
  go_ret2
  exact two_rules w 12 [24, 26, 12] [25, 27, 11] rfl rfl (by decide) (by decide) _ _ rfl rfl
set_option maxHeartbeats 2000000 in
theorem Try.kruleOfTwo_13 (w : World) : Calls Try.prog 66 #[.int .u8 13] w (RuleR 13 w) := by
  have hs := Try.ksaid_any
  go_enter Try.func66, Try.ntmps66
  go_wp2_with (go_at_call 65; refine (hs _ _ _ _).mono ?_; rintro e w' ⟨rfl, rfl⟩)
  go_ret2
  exact two_rules w 13 [25, 26, 12] [24, 27, 11] rfl rfl (by decide) (by decide) _ _ rfl rfl
set_option maxHeartbeats 2000000 in
theorem Try.kruleOfTwo_14 (w : World) : Calls Try.prog 66 #[.int .u8 14] w (RuleR 14 w) := by
  have hs := Try.ksaid_any
  go_enter Try.func66, Try.ntmps66
  go_wp2_with (go_at_call 65; refine (hs _ _ _ _).mono ?_; rintro e w' ⟨rfl, rfl⟩)
  go_ret2
  exact two_rules w 14 [24, 26, 11, 25, 27, 11, 12] [24, 27, 11, 25, 26, 11, 12] rfl rfl (by decide) (by decide) _ _ rfl rfl
set_option maxHeartbeats 2000000 in
theorem Try.kruleOfTwo_15 (w : World) : Calls Try.prog 66 #[.int .u8 15] w (RuleR 15 w) := by
  have hs := Try.ksaid_any
  go_enter Try.func66, Try.ntmps66
  go_wp2_with (go_at_call 65; refine (hs _ _ _ _).mono ?_; rintro e w' ⟨rfl, rfl⟩)
  go_ret2
  exact two_rules w 15 [24, 26, 15] [25, 27, 16] rfl rfl (by decide) (by decide) _ _ rfl rfl
set_option maxHeartbeats 2000000 in
theorem Try.kruleOfTwo_16 (w : World) : Calls Try.prog 66 #[.int .u8 16] w (RuleR 16 w) := by
  have hs := Try.ksaid_any
  go_enter Try.func66, Try.ntmps66
  go_wp2_with (go_at_call 65; refine (hs _ _ _ _).mono ?_; rintro e w' ⟨rfl, rfl⟩)
  go_ret2
  exact two_rules w 16 [24, 26, 16] [25, 27, 15] rfl rfl (by decide) (by decide) _ _ rfl rfl
set_option maxHeartbeats 2000000 in
theorem Try.kruleOfTwo_17 (w : World) : Calls Try.prog 66 #[.int .u8 17] w (RuleR 17 w) := by
  have hs := Try.ksaid_any
  go_enter Try.func66, Try.ntmps66
  go_wp2_with (go_at_call 65; refine (hs _ _ _ _).mono ?_; rintro e w' ⟨rfl, rfl⟩)
  go_ret2
  exact two_rules w 17 [24, 26, 17] [24, 27, 18] rfl rfl (by decide) (by decide) _ _ rfl rfl
set_option maxHeartbeats 2000000 in
theorem Try.kruleOfTwo_18 (w : World) : Calls Try.prog 66 #[.int .u8 18] w (RuleR 18 w) := by
  have hs := Try.ksaid_any
  go_enter Try.func66, Try.ntmps66
  go_wp2_with (go_at_call 65; refine (hs _ _ _ _).mono ?_; rintro e w' ⟨rfl, rfl⟩)
  go_ret2
  exact two_rules w 18 [24, 26, 18] [24, 27, 17] rfl rfl (by decide) (by decide) _ _ rfl rfl
set_option maxHeartbeats 2000000 in
theorem Try.kruleOfTwo_21 (w : World) : Calls Try.prog 66 #[.int .u8 21] w (RuleR 21 w) := by
  have hs := Try.ksaid_any
  go_enter Try.func66, Try.ntmps66
  go_wp2_with (go_at_call 65; refine (hs _ _ _ _).mono ?_; rintro e w' ⟨rfl, rfl⟩)
  go_ret2
  exact one_rule w 21 [24, 26, 21] rfl rfl (by decide) _ rfl
set_option maxHeartbeats 2000000 in
theorem Try.kruleOfTwo_22 (w : World) : Calls Try.prog 66 #[.int .u8 22] w (RuleR 22 w) := by
  have hs := Try.ksaid_any
  go_enter Try.func66, Try.ntmps66
  go_wp2_with (go_at_call 65; refine (hs _ _ _ _).mono ?_; rintro e w' ⟨rfl, rfl⟩)
  go_ret2
  exact one_rule w 22 [24, 26, 22] rfl rfl (by decide) _ rfl
set_option maxHeartbeats 2000000 in
theorem Try.krule_0 (w : World) : Calls Try.prog 46 #[.int .u8 0] w (RuleR 0 w) := by
  have hs := Try.ksaid_any
  go_enter Try.func46, Try.ntmps46
  go_wp2_with (go_at_call 65; refine (hs _ _ _ _).mono ?_; rintro e w' ⟨rfl, rfl⟩)
  go_ret2
  exact two_rules w 0 [0] [1] rfl rfl (by decide) (by decide) _ _ rfl rfl
set_option maxHeartbeats 2000000 in
theorem Try.krule_1 (w : World) : Calls Try.prog 46 #[.int .u8 1] w (RuleR 1 w) := by
  have hs := Try.ksaid_any
  go_enter Try.func46, Try.ntmps46
  go_wp2_with (go_at_call 65; refine (hs _ _ _ _).mono ?_; rintro e w' ⟨rfl, rfl⟩)
  go_ret2
  exact two_rules w 1 [1] [0] rfl rfl (by decide) (by decide) _ _ rfl rfl
set_option maxHeartbeats 2000000 in
theorem Try.krule_2 (w : World) : Calls Try.prog 46 #[.int .u8 2] w (RuleR 2 w) := by
  have hs := Try.ksaid_any
  go_enter Try.func46, Try.ntmps46
  go_wp2_with (go_at_call 65; refine (hs _ _ _ _).mono ?_; rintro e w' ⟨rfl, rfl⟩)
  go_ret2
  exact two_rules w 2 [2] [2, 6] rfl rfl (by decide) (by decide) _ _ rfl rfl
set_option maxHeartbeats 2000000 in
theorem Try.krule_3 (w : World) : Calls Try.prog 46 #[.int .u8 3] w (RuleR 3 w) := by
  have hs := Try.ksaid_any
  go_enter Try.func46, Try.ntmps46
  go_wp2_with (go_at_call 65; refine (hs _ _ _ _).mono ?_; rintro e w' ⟨rfl, rfl⟩)
  go_ret2
  exact two_rules w 3 [4, 1, 8, 11] [5, 0, 7, 12] rfl rfl (by decide) (by decide) _ _ rfl rfl
set_option maxHeartbeats 2000000 in
theorem Try.krule_4 (w : World) : Calls Try.prog 46 #[.int .u8 4] w (RuleR 4 w) := by
  have hs := Try.ksaid_any
  go_enter Try.func46, Try.ntmps46
  go_wp2_with (go_at_call 65; refine (hs _ _ _ _).mono ?_; rintro e w' ⟨rfl, rfl⟩)
  go_ret2
  exact two_rules w 4 [4] [5] rfl rfl (by decide) (by decide) _ _ rfl rfl
set_option maxHeartbeats 2000000 in
theorem Try.krule_5 (w : World) : Calls Try.prog 46 #[.int .u8 5] w (RuleR 5 w) := by
  have hs := Try.ksaid_any
  go_enter Try.func46, Try.ntmps46
  go_wp2_with (go_at_call 65; refine (hs _ _ _ _).mono ?_; rintro e w' ⟨rfl, rfl⟩)
  go_ret2
  exact two_rules w 5 [5] [4] rfl rfl (by decide) (by decide) _ _ rfl rfl
set_option maxHeartbeats 2000000 in
theorem Try.krule_6 (w : World) : Calls Try.prog 46 #[.int .u8 6] w (RuleR 6 w) := by
  have hs := Try.ksaid_any
  go_enter Try.func46, Try.ntmps46
  go_wp2_with (go_at_call 65; refine (hs _ _ _ _).mono ?_; rintro e w' ⟨rfl, rfl⟩)
  go_ret2
  exact two_rules w 6 [25] [24] rfl rfl (by decide) (by decide) _ _ rfl rfl
set_option maxHeartbeats 2000000 in
theorem Try.krule_7 (w : World) : Calls Try.prog 46 #[.int .u8 7] w (RuleR 7 w) := by
  have hs := Try.ksaid_any
  go_enter Try.func46, Try.ntmps46
  go_wp2_with (go_at_call 65; refine (hs _ _ _ _).mono ?_; rintro e w' ⟨rfl, rfl⟩)
  go_ret2
  exact two_rules w 7 [24, 7] [25, 8] rfl rfl (by decide) (by decide) _ _ rfl rfl
set_option maxHeartbeats 2000000 in
theorem Try.krule_8 (w : World) : Calls Try.prog 46 #[.int .u8 8] w (RuleR 8 w) := by
  have hs := Try.ksaid_any
  go_enter Try.func46, Try.ntmps46
  go_wp2_with (go_at_call 65; refine (hs _ _ _ _).mono ?_; rintro e w' ⟨rfl, rfl⟩)
  go_ret2
  exact two_rules w 8 [24, 8] [25, 7] rfl rfl (by decide) (by decide) _ _ rfl rfl
set_option maxHeartbeats 2000000 in
theorem Try.krule_9 (w : World) : Calls Try.prog 46 #[.int .u8 9] w (RuleR 9 w) := by
  have hs := Try.ksaid_any
  go_enter Try.func46, Try.ntmps46
  go_wp2_with (go_at_call 65; refine (hs _ _ _ _).mono ?_; rintro e w' ⟨rfl, rfl⟩)
  go_ret2
  exact two_rules w 9 [0, 24, 15] [1, 25, 16] rfl rfl (by decide) (by decide) _ _ rfl rfl
set_option maxHeartbeats 2000000 in
theorem Try.krule_10 (w : World) : Calls Try.prog 46 #[.int .u8 10] w (RuleR 10 w) := by
  have hs := Try.ksaid_any
  go_enter Try.func46, Try.ntmps46
  go_wp2_with (go_at_call 65; refine (hs _ _ _ _).mono ?_; rintro e w' ⟨rfl, rfl⟩)
  go_ret2
  exact two_rules w 10 [1, 24, 16] [0, 25, 15] rfl rfl (by decide) (by decide) _ _ rfl rfl
set_option maxHeartbeats 2000000 in
theorem Try.krule_19 (w : World) : Calls Try.prog 46 #[.int .u8 19] w (RuleR 19 w) := by
  have hs := Try.ksaid_any
  go_enter Try.func46, Try.ntmps46
  go_wp2_with (go_at_call 65; refine (hs _ _ _ _).mono ?_; rintro e w' ⟨rfl, rfl⟩)
  go_ret2
  exact one_rule w 19 [24, 19] rfl rfl (by decide) _ rfl
set_option maxHeartbeats 2000000 in
theorem Try.krule_20 (w : World) : Calls Try.prog 46 #[.int .u8 20] w (RuleR 20 w) := by
  have hs := Try.ksaid_any
  go_enter Try.func46, Try.ntmps46
  go_wp2_with (go_at_call 65; refine (hs _ _ _ _).mono ?_; rintro e w' ⟨rfl, rfl⟩)
  go_ret2
  exact one_rule w 20 [24, 20] rfl rfl (by decide) _ rfl
set_option maxHeartbeats 2000000 in
theorem Try.krule_23 (w : World) : Calls Try.prog 46 #[.int .u8 23] w (RuleR 23 w) := by
  have hs := Try.ksaid_any
  go_enter Try.func46, Try.ntmps46
  go_wp2_with (go_at_call 65; refine (hs _ _ _ _).mono ?_; rintro e w' ⟨rfl, rfl⟩)
  go_ret2
  exact one_rule w 23 [24, 23] rfl rfl (by decide) _ rfl
theorem Try.krule_any (op : Nat) (w : World) (hop : op ≤ 23) : Calls Try.prog 46 #[.int .u8 (op : Int)] w (RuleR op w) := by
  rcases op_cases hop with rfl | rfl | rfl | rfl | rfl | rfl | rfl | rfl | rfl | rfl | rfl | rfl | rfl | rfl | rfl | rfl | rfl | rfl | rfl | rfl | rfl | rfl | rfl | rfl
  · exact Try.krule_0 w
  · exact Try.krule_1 w
  · exact Try.krule_2 w
  · exact Try.krule_3 w
  · exact Try.krule_4 w
  · exact Try.krule_5 w
  · exact Try.krule_6 w
  · exact Try.krule_7 w
  · exact Try.krule_8 w
  · exact Try.krule_9 w
  · exact Try.krule_10 w
  · have h := Try.kruleOfTwo_11 w
    go_enter Try.func46, Try.ntmps46
    go_wp2_with (go_at_call 66; refine h.mono ?_; rintro e w1 ⟨a1, c1, a2, c2, rfl, h1, h2, h3⟩)
    go_ret2
    exact ⟨_, _, _, _, rfl, h1, h2, h3⟩
  · have h := Try.kruleOfTwo_12 w
    go_enter Try.func46, Try.ntmps46
    go_wp2_with (go_at_call 66; refine h.mono ?_; rintro e w1 ⟨a1, c1, a2, c2, rfl, h1, h2, h3⟩)
    go_ret2
    exact ⟨_, _, _, _, rfl, h1, h2, h3⟩
  · have h := Try.kruleOfTwo_13 w
    go_enter Try.func46, Try.ntmps46
    go_wp2_with (go_at_call 66; refine h.mono ?_; rintro e w1 ⟨a1, c1, a2, c2, rfl, h1, h2, h3⟩)
    go_ret2
    exact ⟨_, _, _, _, rfl, h1, h2, h3⟩
  · have h := Try.kruleOfTwo_14 w
    go_enter Try.func46, Try.ntmps46
    go_wp2_with (go_at_call 66; refine h.mono ?_; rintro e w1 ⟨a1, c1, a2, c2, rfl, h1, h2, h3⟩)
    go_ret2
    exact ⟨_, _, _, _, rfl, h1, h2, h3⟩
  · have h := Try.kruleOfTwo_15 w
    go_enter Try.func46, Try.ntmps46
    go_wp2_with (go_at_call 66; refine h.mono ?_; rintro e w1 ⟨a1, c1, a2, c2, rfl, h1, h2, h3⟩)
    go_ret2
    exact ⟨_, _, _, _, rfl, h1, h2, h3⟩
  · have h := Try.kruleOfTwo_16 w
    go_enter Try.func46, Try.ntmps46
    go_wp2_with (go_at_call 66; refine h.mono ?_; rintro e w1 ⟨a1, c1, a2, c2, rfl, h1, h2, h3⟩)
    go_ret2
    exact ⟨_, _, _, _, rfl, h1, h2, h3⟩
  · have h := Try.kruleOfTwo_17 w
    go_enter Try.func46, Try.ntmps46
    go_wp2_with (go_at_call 66; refine h.mono ?_; rintro e w1 ⟨a1, c1, a2, c2, rfl, h1, h2, h3⟩)
    go_ret2
    exact ⟨_, _, _, _, rfl, h1, h2, h3⟩
  · have h := Try.kruleOfTwo_18 w
    go_enter Try.func46, Try.ntmps46
    go_wp2_with (go_at_call 66; refine h.mono ?_; rintro e w1 ⟨a1, c1, a2, c2, rfl, h1, h2, h3⟩)
    go_ret2
    exact ⟨_, _, _, _, rfl, h1, h2, h3⟩
  · exact Try.krule_19 w
  · exact Try.krule_20 w
  · have h := Try.kruleOfTwo_21 w
    go_enter Try.func46, Try.ntmps46
    go_wp2_with (go_at_call 66; refine h.mono ?_; rintro e w1 ⟨a1, c1, a2, c2, rfl, h1, h2, h3⟩)
    go_ret2
    exact ⟨_, _, _, _, rfl, h1, h2, h3⟩
  · have h := Try.kruleOfTwo_22 w
    go_enter Try.func46, Try.ntmps46
    go_wp2_with (go_at_call 66; refine h.mono ?_; rintro e w1 ⟨a1, c1, a2, c2, rfl, h1, h2, h3⟩)
    go_ret2
    exact ⟨_, _, _, _, rfl, h1, h2, h3⟩
  · exact Try.krule_23 w
end Go.Proofs.Ytfgaieefejdkbaa
