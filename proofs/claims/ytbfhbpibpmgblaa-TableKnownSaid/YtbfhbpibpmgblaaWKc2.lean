/- Package kernel: put, inFewWords. -/
import Derived.Test.YtbfhbpibpmgblaaWKc1
namespace Go.Proofs.Ytbfhbpibpmgblaa
open Go.RowKit Go.Maps

/-- Kinds, as they lie in memory. -/
def KdSl (w : World) (a : Option Addr) (len cap : Nat) (ks : List Nat) : Prop := IntSl Try.prog 93 .u8 w a len cap (ks.map fun o : Nat => (o : Int))
theorem kd_at0 {w : World} {a : Option Addr} {cap x : Nat} {r : List Nat} {n : Nat} (h : KdSl w a (n + 1) cap (x :: r)) : ∃ A, (∀ w', (Instr.indexAt 93 (.slice a (n + 1) cap) (.int .i64 0)).run Try.prog w' = .ok (.pointer (some A)) w') ∧ w.cell? A = some (.int .u8 (x : Int)) := ⟨adOf a 0, fun w' => IntSl.idx h (n + 1) 0 w' (by omega) (Nat.le_refl _), IntSl.cell h 0 (by omega)⟩
theorem kd_at1 {w : World} {a : Option Addr} {cap x y : Nat} {r : List Nat} {n : Nat} (h : KdSl w a (n + 2) cap (x :: y :: r)) : ∃ A, (∀ w', (Instr.indexAt 93 (.slice a (n + 2) cap) (.int .i64 1)).run Try.prog w' = .ok (.pointer (some A)) w') ∧ w.cell? A = some (.int .u8 (y : Int)) := ⟨adOf a 1, fun w' => IntSl.idx h (n + 2) 1 w' (by omega) (Nat.le_refl _), IntSl.cell h 1 (by omega)⟩
theorem Try.kis_0 (w : World) : Calls Try.prog 53 #[.int .u8 0, .int .u8 0] w fun e w' => e = .returned (.bool true) ∧ w' = w := Try.kis_any 0 w (by decide)
theorem Try.kis_1 (w : World) : Calls Try.prog 53 #[.int .u8 1, .int .u8 0] w fun e w' => e = .returned (.bool true) ∧ w' = w := Try.kis_any 1 w (by decide)
theorem Try.kis_2 (w : World) : Calls Try.prog 53 #[.int .u8 2, .int .u8 0] w fun e w' => e = .returned (.bool false) ∧ w' = w := Try.kis_any 2 w (by decide)
def PutR (op : Nat) (ks : List Nat) (w : World) (e : Ending) (w' : World) : Prop := e = .returned (.tuple #[.int .u8 (kiMade op ks : Int), .bool (kiFit op ks)]) ∧ ∃ m, w' = w.drewN m
theorem Try.kput_0 (a : Option Addr) (n c : Nat) (w : World) : Calls Try.prog 52 #[.int .u8 0, .slice a n c] w (PutR 0 [] w) := by
  go_enter Try.func52, Try.ntmps52
  go_wp2
  go_ret2
  exact ⟨rfl, 0, rfl⟩
theorem Try.kput_1 (a : Option Addr) (n c : Nat) (w : World) : Calls Try.prog 52 #[.int .u8 1, .slice a n c] w (PutR 1 [] w) := by
  go_enter Try.func52, Try.ntmps52
  go_wp2
  go_ret2
  exact ⟨rfl, 0, rfl⟩
theorem Try.kput_2 (a : Option Addr) (n c : Nat) (w : World) : Calls Try.prog 52 #[.int .u8 2, .slice a n c] w (PutR 2 [] w) := by
  go_enter Try.func52, Try.ntmps52
  go_wp2
  go_ret2
  exact ⟨rfl, 0, rfl⟩
theorem Try.kput_4 (a : Option Addr) (n c : Nat) (w : World) : Calls Try.prog 52 #[.int .u8 4, .slice a n c] w (PutR 4 [] w) := by
  go_enter Try.func52, Try.ntmps52
  go_wp2
  go_ret2
  exact ⟨rfl, 0, rfl⟩
theorem Try.kput_5 (a : Option Addr) (n c : Nat) (w : World) : Calls Try.prog 52 #[.int .u8 5, .slice a n c] w (PutR 5 [] w) := by
  go_enter Try.func52, Try.ntmps52
  go_wp2
  go_ret2
  exact ⟨rfl, 0, rfl⟩
set_option maxHeartbeats 2000000 in
theorem Try.kput_6 (a : Option Addr) (c x : Nat) (w : World) (hx : x ≤ 2) (h : KdSl w a 1 c [x]) : Calls Try.prog 52 #[.int .u8 6, .slice a 1 c] w (PutR 6 [x] w) := by
  obtain ⟨⟨g0, o0, s0⟩, i0, c0⟩ := kd_at0 h
  have hi := fun w' => Try.kis_any x w' hx
  clear h
  have : x = 0 ∨ x = 1 ∨ x = 2 := by omega
  rcases this with rfl | rfl | rfl <;>
  · clear hx
    go_enter Try.func52, Try.ntmps52
    go_wp2
    go_quiet (fail)
    go_wp2
    go_ret2
    exact ⟨rfl, by first | exact ⟨0, rfl⟩ | exact ⟨_, rfl⟩⟩
set_option maxHeartbeats 2000000 in
theorem Try.kput_7 (a : Option Addr) (c x : Nat) (w : World) (hx : x ≤ 2) (h : KdSl w a 1 c [x]) : Calls Try.prog 52 #[.int .u8 7, .slice a 1 c] w (PutR 7 [x] w) := by
  obtain ⟨⟨g0, o0, s0⟩, i0, c0⟩ := kd_at0 h
  have hi := fun w' => Try.kis_any x w' hx
  clear h
  have : x = 0 ∨ x = 1 ∨ x = 2 := by omega
  rcases this with rfl | rfl | rfl <;>
  · clear hx
    go_enter Try.func52, Try.ntmps52
    go_wp2_with (go_at_call 53; refine (hi _).mono ?_; rintro e w' ⟨rfl, rfl⟩)
    go_ret2
    exact ⟨rfl, by first | exact ⟨0, rfl⟩ | exact ⟨_, rfl⟩⟩
set_option maxHeartbeats 2000000 in
theorem Try.kput_8 (a : Option Addr) (c x : Nat) (w : World) (hx : x ≤ 2) (h : KdSl w a 1 c [x]) : Calls Try.prog 52 #[.int .u8 8, .slice a 1 c] w (PutR 8 [x] w) := by
  obtain ⟨⟨g0, o0, s0⟩, i0, c0⟩ := kd_at0 h
  have hi := fun w' => Try.kis_any x w' hx
  clear h
  have : x = 0 ∨ x = 1 ∨ x = 2 := by omega
  rcases this with rfl | rfl | rfl <;>
  · clear hx
    go_enter Try.func52, Try.ntmps52
    go_wp2_with (go_at_call 53; refine (hi _).mono ?_; rintro e w' ⟨rfl, rfl⟩)
    go_ret2
    exact ⟨rfl, by first | exact ⟨0, rfl⟩ | exact ⟨_, rfl⟩⟩
set_option maxHeartbeats 2000000 in
theorem Try.kput_19 (a : Option Addr) (c x : Nat) (w : World) (hx : x ≤ 2) (h : KdSl w a 1 c [x]) : Calls Try.prog 52 #[.int .u8 19, .slice a 1 c] w (PutR 19 [x] w) := by
  obtain ⟨⟨g0, o0, s0⟩, i0, c0⟩ := kd_at0 h
  have hi := fun w' => Try.kis_any x w' hx
  clear h
  have : x = 0 ∨ x = 1 ∨ x = 2 := by omega
  rcases this with rfl | rfl | rfl <;>
  · clear hx
    go_enter Try.func52, Try.ntmps52
    go_wp2
    go_quiet (fail)
    go_wp2
    go_ret2
    exact ⟨rfl, by first | exact ⟨0, rfl⟩ | exact ⟨_, rfl⟩⟩
set_option maxHeartbeats 2000000 in
theorem Try.kput_20 (a : Option Addr) (c x : Nat) (w : World) (hx : x ≤ 2) (h : KdSl w a 1 c [x]) : Calls Try.prog 52 #[.int .u8 20, .slice a 1 c] w (PutR 20 [x] w) := by
  obtain ⟨⟨g0, o0, s0⟩, i0, c0⟩ := kd_at0 h
  have hi := fun w' => Try.kis_any x w' hx
  clear h
  have : x = 0 ∨ x = 1 ∨ x = 2 := by omega
  rcases this with rfl | rfl | rfl <;>
  · clear hx
    go_enter Try.func52, Try.ntmps52
    go_wp2_with (go_at_call 53; refine (hi _).mono ?_; rintro e w' ⟨rfl, rfl⟩)
    go_ret2
    exact ⟨rfl, by first | exact ⟨0, rfl⟩ | exact ⟨_, rfl⟩⟩
set_option maxHeartbeats 2000000 in
theorem Try.kput_23 (a : Option Addr) (c x : Nat) (w : World) (hx : x ≤ 2) (h : KdSl w a 1 c [x]) : Calls Try.prog 52 #[.int .u8 23, .slice a 1 c] w (PutR 23 [x] w) := by
  obtain ⟨⟨g0, o0, s0⟩, i0, c0⟩ := kd_at0 h
  have hi := fun w' => Try.kis_any x w' hx
  clear h
  have : x = 0 ∨ x = 1 ∨ x = 2 := by omega
  rcases this with rfl | rfl | rfl <;>
  · clear hx
    go_enter Try.func52, Try.ntmps52
    go_wp2
    go_quiet (fail)
    go_wp2
    go_ret2
    exact ⟨rfl, by first | exact ⟨0, rfl⟩ | exact ⟨_, rfl⟩⟩
set_option maxHeartbeats 4000000 in
theorem Try.kput_11 (a : Option Addr) (c x y : Nat) (w : World) (hx : x ≤ 2) (hy : y ≤ 2) (h : KdSl w a 2 c [x, y]) : Calls Try.prog 52 #[.int .u8 11, .slice a 2 c] w (PutR 11 [x, y] w) := by
  obtain ⟨⟨g0, o0, s0⟩, i0, c0⟩ := kd_at0 h
  obtain ⟨⟨g1, o1, s1⟩, i1, c1⟩ := kd_at1 h
  have h0 := Try.kis_0
  have h1 := Try.kis_1
  have h2 := Try.kis_2
  clear h
  have hxx : x = 0 ∨ x = 1 ∨ x = 2 := by omega
  have hyy : y = 0 ∨ y = 1 ∨ y = 2 := by omega
  rcases hxx with rfl | rfl | rfl <;> rcases hyy with rfl | rfl | rfl <;>
  · clear hx hy
    go_enter Try.func52, Try.ntmps52
    go_wp2_with (go_at_call 53; (with_reducible first | refine (h0 _).mono ?_ | refine (h1 _).mono ?_ | refine (h2 _).mono ?_); rintro e w' ⟨rfl, rfl⟩)
    go_ret2
    exact ⟨rfl, by first | exact ⟨0, rfl⟩ | exact ⟨_, rfl⟩⟩
set_option maxHeartbeats 4000000 in
theorem Try.kput_12 (a : Option Addr) (c x y : Nat) (w : World) (hx : x ≤ 2) (hy : y ≤ 2) (h : KdSl w a 2 c [x, y]) : Calls Try.prog 52 #[.int .u8 12, .slice a 2 c] w (PutR 12 [x, y] w) := by
  obtain ⟨⟨g0, o0, s0⟩, i0, c0⟩ := kd_at0 h
  obtain ⟨⟨g1, o1, s1⟩, i1, c1⟩ := kd_at1 h
  have h0 := Try.kis_0
  have h1 := Try.kis_1
  have h2 := Try.kis_2
  clear h
  have hxx : x = 0 ∨ x = 1 ∨ x = 2 := by omega
  have hyy : y = 0 ∨ y = 1 ∨ y = 2 := by omega
  rcases hxx with rfl | rfl | rfl <;> rcases hyy with rfl | rfl | rfl <;>
  · clear hx hy
    go_enter Try.func52, Try.ntmps52
    go_wp2_with (go_at_call 53; (with_reducible first | refine (h0 _).mono ?_ | refine (h1 _).mono ?_ | refine (h2 _).mono ?_); rintro e w' ⟨rfl, rfl⟩)
    go_ret2
    exact ⟨rfl, by first | exact ⟨0, rfl⟩ | exact ⟨_, rfl⟩⟩
set_option maxHeartbeats 4000000 in
theorem Try.kput_15 (a : Option Addr) (c x y : Nat) (w : World) (hx : x ≤ 2) (hy : y ≤ 2) (h : KdSl w a 2 c [x, y]) : Calls Try.prog 52 #[.int .u8 15, .slice a 2 c] w (PutR 15 [x, y] w) := by
  obtain ⟨⟨g0, o0, s0⟩, i0, c0⟩ := kd_at0 h
  obtain ⟨⟨g1, o1, s1⟩, i1, c1⟩ := kd_at1 h
  have h0 := Try.kis_0
  have h1 := Try.kis_1
  have h2 := Try.kis_2
  clear h
  have hxx : x = 0 ∨ x = 1 ∨ x = 2 := by omega
  have hyy : y = 0 ∨ y = 1 ∨ y = 2 := by omega
  rcases hxx with rfl | rfl | rfl <;> rcases hyy with rfl | rfl | rfl <;>
  · clear hx hy
    go_enter Try.func52, Try.ntmps52
    go_wp2_with (go_at_call 53; (with_reducible first | refine (h0 _).mono ?_ | refine (h1 _).mono ?_ | refine (h2 _).mono ?_); rintro e w' ⟨rfl, rfl⟩)
    go_ret2
    exact ⟨rfl, by first | exact ⟨0, rfl⟩ | exact ⟨_, rfl⟩⟩
set_option maxHeartbeats 4000000 in
theorem Try.kput_16 (a : Option Addr) (c x y : Nat) (w : World) (hx : x ≤ 2) (hy : y ≤ 2) (h : KdSl w a 2 c [x, y]) : Calls Try.prog 52 #[.int .u8 16, .slice a 2 c] w (PutR 16 [x, y] w) := by
  obtain ⟨⟨g0, o0, s0⟩, i0, c0⟩ := kd_at0 h
  obtain ⟨⟨g1, o1, s1⟩, i1, c1⟩ := kd_at1 h
  have h0 := Try.kis_0
  have h1 := Try.kis_1
  have h2 := Try.kis_2
  clear h
  have hxx : x = 0 ∨ x = 1 ∨ x = 2 := by omega
  have hyy : y = 0 ∨ y = 1 ∨ y = 2 := by omega
  rcases hxx with rfl | rfl | rfl <;> rcases hyy with rfl | rfl | rfl <;>
  · clear hx hy
    go_enter Try.func52, Try.ntmps52
    go_wp2_with (go_at_call 53; (with_reducible first | refine (h0 _).mono ?_ | refine (h1 _).mono ?_ | refine (h2 _).mono ?_); rintro e w' ⟨rfl, rfl⟩)
    go_ret2
    exact ⟨rfl, by first | exact ⟨0, rfl⟩ | exact ⟨_, rfl⟩⟩
set_option maxHeartbeats 4000000 in
theorem Try.kput_17 (a : Option Addr) (c x y : Nat) (w : World) (hx : x ≤ 2) (hy : y ≤ 2) (h : KdSl w a 2 c [x, y]) : Calls Try.prog 52 #[.int .u8 17, .slice a 2 c] w (PutR 17 [x, y] w) := by
  obtain ⟨⟨g0, o0, s0⟩, i0, c0⟩ := kd_at0 h
  obtain ⟨⟨g1, o1, s1⟩, i1, c1⟩ := kd_at1 h
  have h0 := Try.kis_0
  have h1 := Try.kis_1
  have h2 := Try.kis_2
  clear h
  have hxx : x = 0 ∨ x = 1 ∨ x = 2 := by omega
  have hyy : y = 0 ∨ y = 1 ∨ y = 2 := by omega
  rcases hxx with rfl | rfl | rfl <;> rcases hyy with rfl | rfl | rfl <;>
  · clear hx hy
    go_enter Try.func52, Try.ntmps52
    go_wp2_with (go_at_call 53; (with_reducible first | refine (h0 _).mono ?_ | refine (h1 _).mono ?_ | refine (h2 _).mono ?_); rintro e w' ⟨rfl, rfl⟩)
    go_ret2
    exact ⟨rfl, by first | exact ⟨0, rfl⟩ | exact ⟨_, rfl⟩⟩
set_option maxHeartbeats 4000000 in
theorem Try.kput_18 (a : Option Addr) (c x y : Nat) (w : World) (hx : x ≤ 2) (hy : y ≤ 2) (h : KdSl w a 2 c [x, y]) : Calls Try.prog 52 #[.int .u8 18, .slice a 2 c] w (PutR 18 [x, y] w) := by
  obtain ⟨⟨g0, o0, s0⟩, i0, c0⟩ := kd_at0 h
  obtain ⟨⟨g1, o1, s1⟩, i1, c1⟩ := kd_at1 h
  have h0 := Try.kis_0
  have h1 := Try.kis_1
  have h2 := Try.kis_2
  clear h
  have hxx : x = 0 ∨ x = 1 ∨ x = 2 := by omega
  have hyy : y = 0 ∨ y = 1 ∨ y = 2 := by omega
  rcases hxx with rfl | rfl | rfl <;> rcases hyy with rfl | rfl | rfl <;>
  · clear hx hy
    go_enter Try.func52, Try.ntmps52
    go_wp2_with (go_at_call 53; (with_reducible first | refine (h0 _).mono ?_ | refine (h1 _).mono ?_ | refine (h2 _).mono ?_); rintro e w' ⟨rfl, rfl⟩)
    go_ret2
    exact ⟨rfl, by first | exact ⟨0, rfl⟩ | exact ⟨_, rfl⟩⟩
set_option maxHeartbeats 4000000 in
theorem Try.kput_21 (a : Option Addr) (c x y : Nat) (w : World) (hx : x ≤ 2) (hy : y ≤ 2) (h : KdSl w a 2 c [x, y]) : Calls Try.prog 52 #[.int .u8 21, .slice a 2 c] w (PutR 21 [x, y] w) := by
  obtain ⟨⟨g0, o0, s0⟩, i0, c0⟩ := kd_at0 h
  obtain ⟨⟨g1, o1, s1⟩, i1, c1⟩ := kd_at1 h
  have h0 := Try.kis_0
  have h1 := Try.kis_1
  have h2 := Try.kis_2
  clear h
  have hxx : x = 0 ∨ x = 1 ∨ x = 2 := by omega
  have hyy : y = 0 ∨ y = 1 ∨ y = 2 := by omega
  rcases hxx with rfl | rfl | rfl <;> rcases hyy with rfl | rfl | rfl <;>
  · clear hx hy
    go_enter Try.func52, Try.ntmps52
    go_wp2
    go_quiet (fail)
    go_wp2
    go_ret2
    exact ⟨rfl, by first | exact ⟨0, rfl⟩ | exact ⟨_, rfl⟩⟩
set_option maxHeartbeats 4000000 in
theorem Try.kput_22 (a : Option Addr) (c x y : Nat) (w : World) (hx : x ≤ 2) (hy : y ≤ 2) (h : KdSl w a 2 c [x, y]) : Calls Try.prog 52 #[.int .u8 22, .slice a 2 c] w (PutR 22 [x, y] w) := by
  obtain ⟨⟨g0, o0, s0⟩, i0, c0⟩ := kd_at0 h
  obtain ⟨⟨g1, o1, s1⟩, i1, c1⟩ := kd_at1 h
  have h0 := Try.kis_0
  have h1 := Try.kis_1
  have h2 := Try.kis_2
  clear h
  have hxx : x = 0 ∨ x = 1 ∨ x = 2 := by omega
  have hyy : y = 0 ∨ y = 1 ∨ y = 2 := by omega
  rcases hxx with rfl | rfl | rfl <;> rcases hyy with rfl | rfl | rfl <;>
  · clear hx hy
    go_enter Try.func52, Try.ntmps52
    go_wp2
    go_quiet (fail)
    go_wp2
    go_ret2
    exact ⟨rfl, by first | exact ⟨0, rfl⟩ | exact ⟨_, rfl⟩⟩
end Go.Proofs.Ytbfhbpibpmgblaa
