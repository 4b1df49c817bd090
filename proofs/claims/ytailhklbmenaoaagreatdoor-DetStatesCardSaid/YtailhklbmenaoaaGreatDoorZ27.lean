/- Texts of the proof, put together: what it uses. -/
import Derived.Defers
import Derived.Recover
import Derived.Test.YtailhklbmenaoaaGreatDoorZ26
set_option maxRecDepth 100000
set_option maxHeartbeats 16000000
namespace Go.Proofs.YtailhklbmenaoaaGreatDoor
open Go.RowKit Go.Maps
theorem qbT : ∃ j, Tryz.prog.info? 128 = some j := by
  cases h : Tryz.prog.info? 128 with
  | some j => exact ⟨j, rfl⟩
  | none => exact absurd h (by have : (Tryz.prog.info? 128).isSome = true := by kernel_rfl
                               intro e; rw [e] at this; cases this)
theorem q85 (a : Addr) (w : World) : (binOp .eql 74 (.pointer (some a)) (.pointer (some a))).run Tryz.prog w = .ok (.bool true) w := by
 obtain ⟨j,hj⟩ := qbT
 exact run_eql_ptr_same w a Tryz.underlying74 hj
theorem q2E {T0 : Tr} {w : World} {F : Nat → Prop} {p : Nat} {vs : Value} {items : List It} {M : Mt} (h : PgO T0 w F p vs items M) : Calls Tryz.prog 72 #[.pointer (some ⟨p,0,none⟩)] w fun e w' => e = .returned (.bool true) ∧ w' = w := by
 obtain ⟨G,mn,vm,met,hr,hF⟩ := h.ex
 have c3 := hr.c3
 have hp := fun w => q85 ⟨p,0,none⟩ w
 clear h hr hF
 go_enter Tryz.func72,Tryz.ntmps72
 go_wp2
 go_ret
 exact ⟨rfl,rfl⟩
theorem q70 {T0 : Tr} {w : World} {F : Nat → Prop} {p : Nat} {a : Option Addr} {c : Nat} {l0 : List Nat} {items : List It} {M : Mt} (h : PgO T0 w F p (.slice a l0.length c) items M) (hU : US w F a l0.length c l0) (hl : l0.length ≤ 1024) : Calls Tryz.prog 69 #[.pointer (some ⟨p,0,none⟩)] w (CloU l0 w) := by
 have hm := q2E h
 obtain ⟨G,mn,vm,met,hr,hF⟩ := h.ex
 have c6 := hr.c6
 have jc := q3U a l0.length c l0 w hU.sl (by omega)
 clear h hr hF hU
 generalize l0.length = L at *
 go_enter Tryz.func69,Tryz.ntmps69
 go_wp2_with fail
 refine hm.mono ?_
 rintro e w1 ⟨rfl,hw1⟩
 obtain rfl := hw1.symm
 clear hm
 go_wp2_with fail
 refine jc.mono ?_
 intro e w2 hq
 have HQ : Hid _ := hq
 obtain ⟨_,⟨_,q,rfl⟩ | ⟨G2,t,_,rfl,_⟩⟩ := hq
 ·clear jc
  go_wp2
  go_ret
  exact HQ.out
 ·clear jc
  go_wp2
  go_ret
  exact HQ.out
theorem q1o (op pp : Nat) (xa xb : Int) (a : Option Addr) (n c : Nat) (w : World) (ho : op = 0 ∨ op = 5 ∨ op = 6 ∨ op = 8 ∨ op = 16 ∨ op = 23) :
  Calls Tryz.prog 102 #[itV ⟨op,pp,xa,xb⟩,.slice a n c] w fun e w' => e = .returned (.bool true) ∧ w' = w.alloc (itO ⟨op,pp,xa,xb⟩) := by
 rcases ho with ho | ho | ho | ho | ho | ho
 ·have n0 : ((op : Int) == 0) = true := by rw [beq_iff_eq]; omega
  clear ho
  unfold itO itV at *
  dsimp only at *
  go_enter Tryz.func102,Tryz.ntmps102
  go_wp2
  go_ret
  exact ⟨rfl,rfl⟩
 ·have n0 : ((op : Int) == 0) = false := by rw [beq_eq_false_iff_ne]; omega
  have n5 : ((op : Int) == 5) = true := by rw [beq_iff_eq]; omega
  clear ho
  unfold itO itV at *
  dsimp only at *
  go_enter Tryz.func102,Tryz.ntmps102
  go_wp2
  go_ret
  exact ⟨rfl,rfl⟩
 ·have n0 : ((op : Int) == 0) = false := by rw [beq_eq_false_iff_ne]; omega
  have n5 : ((op : Int) == 5) = false := by rw [beq_eq_false_iff_ne]; omega
  have n6 : ((op : Int) == 6) = true := by rw [beq_iff_eq]; omega
  clear ho
  unfold itO itV at *
  dsimp only at *
  go_enter Tryz.func102,Tryz.ntmps102
  go_wp2
  go_ret
  exact ⟨rfl,rfl⟩
 ·have n0 : ((op : Int) == 0) = false := by rw [beq_eq_false_iff_ne]; omega
  have n5 : ((op : Int) == 5) = false := by rw [beq_eq_false_iff_ne]; omega
  have n6 : ((op : Int) == 6) = false := by rw [beq_eq_false_iff_ne]; omega
  have n8 : ((op : Int) == 8) = true := by rw [beq_iff_eq]; omega
  clear ho
  unfold itO itV at *
  dsimp only at *
  go_enter Tryz.func102,Tryz.ntmps102
  go_wp2
  go_ret
  exact ⟨rfl,rfl⟩
 ·have n0 : ((op : Int) == 0) = false := by rw [beq_eq_false_iff_ne]; omega
  have n5 : ((op : Int) == 5) = false := by rw [beq_eq_false_iff_ne]; omega
  have n6 : ((op : Int) == 6) = false := by rw [beq_eq_false_iff_ne]; omega
  have n8 : ((op : Int) == 8) = false := by rw [beq_eq_false_iff_ne]; omega
  have n16 : ((op : Int) == 16) = true := by rw [beq_iff_eq]; omega
  clear ho
  unfold itO itV at *
  dsimp only at *
  go_enter Tryz.func102,Tryz.ntmps102
  go_wp2
  go_ret
  exact ⟨rfl,rfl⟩
 ·have n0 : ((op : Int) == 0) = false := by rw [beq_eq_false_iff_ne]; omega
  have n5 : ((op : Int) == 5) = false := by rw [beq_eq_false_iff_ne]; omega
  have n6 : ((op : Int) == 6) = false := by rw [beq_eq_false_iff_ne]; omega
  have n8 : ((op : Int) == 8) = false := by rw [beq_eq_false_iff_ne]; omega
  have n16 : ((op : Int) == 16) = false := by rw [beq_eq_false_iff_ne]; omega
  have n23 : ((op : Int) == 23) = true := by rw [beq_iff_eq]; omega
  clear ho
  unfold itO itV at *
  dsimp only at *
  go_enter Tryz.func102,Tryz.ntmps102
  go_wp2
  go_ret
  exact ⟨rfl,rfl⟩
theorem q2D (op pp : Nat) (xa xb : Int) (a : Option Addr) (n c g : Nat) (w : World) (ho : op = 11 ∨ op = 17 ∨ op = 22) (ia ib : Nat) (va vb : Bool) (ha : (Instr.indexAt 28 (.slice a n c) (.int .i64 xa)).run Tryz.prog (w.alloc (itO ⟨op,pp,xa,xb⟩)) = .ok (.pointer (some ⟨g,ia,none⟩)) (w.alloc (itO ⟨op,pp,xa,xb⟩))) (ca : (w.alloc (itO ⟨op,pp,xa,xb⟩)).cell? ⟨g,ia,none⟩ = some (.bool va)) (hb : (Instr.indexAt 28 (.slice a n c) (.int .i64 xb)).run Tryz.prog (w.alloc (itO ⟨op,pp,xa,xb⟩)) = .ok (.pointer (some ⟨g,ib,none⟩)) (w.alloc (itO ⟨op,pp,xa,xb⟩))) (cb : (w.alloc (itO ⟨op,pp,xa,xb⟩)).cell? ⟨g,ib,none⟩ = some (.bool vb)) :
  Calls Tryz.prog 102 #[itV ⟨op,pp,xa,xb⟩,.slice a n c] w fun e w' => e = .returned (.bool (va && vb)) ∧ w' = w.alloc (itO ⟨op,pp,xa,xb⟩) := by
 rcases ho with ho | ho | ho
 ·have n0 : ((op : Int) == 0) = false := by rw [beq_eq_false_iff_ne]; omega
  have n5 : ((op : Int) == 5) = false := by rw [beq_eq_false_iff_ne]; omega
  have n6 : ((op : Int) == 6) = false := by rw [beq_eq_false_iff_ne]; omega
  have n8 : ((op : Int) == 8) = false := by rw [beq_eq_false_iff_ne]; omega
  have n16 : ((op : Int) == 16) = false := by rw [beq_eq_false_iff_ne]; omega
  have n23 : ((op : Int) == 23) = false := by rw [beq_eq_false_iff_ne]; omega
  have n11 : ((op : Int) == 11) = true := by rw [beq_iff_eq]; omega
  clear ho
  unfold itO itV at *
  dsimp only at *
  cases va <;> cases vb <;>
  ·go_enter Tryz.func102,Tryz.ntmps102
   go_wp2
   go_ret
   exact ⟨rfl,rfl⟩
 ·have n0 : ((op : Int) == 0) = false := by rw [beq_eq_false_iff_ne]; omega
  have n5 : ((op : Int) == 5) = false := by rw [beq_eq_false_iff_ne]; omega
  have n6 : ((op : Int) == 6) = false := by rw [beq_eq_false_iff_ne]; omega
  have n8 : ((op : Int) == 8) = false := by rw [beq_eq_false_iff_ne]; omega
  have n16 : ((op : Int) == 16) = false := by rw [beq_eq_false_iff_ne]; omega
  have n23 : ((op : Int) == 23) = false := by rw [beq_eq_false_iff_ne]; omega
  have n11 : ((op : Int) == 11) = false := by rw [beq_eq_false_iff_ne]; omega
  have n17 : ((op : Int) == 17) = true := by rw [beq_iff_eq]; omega
  clear ho
  unfold itO itV at *
  dsimp only at *
  cases va <;> cases vb <;>
  ·go_enter Tryz.func102,Tryz.ntmps102
   go_wp2
   go_ret
   exact ⟨rfl,rfl⟩
 ·have n0 : ((op : Int) == 0) = false := by rw [beq_eq_false_iff_ne]; omega
  have n5 : ((op : Int) == 5) = false := by rw [beq_eq_false_iff_ne]; omega
  have n6 : ((op : Int) == 6) = false := by rw [beq_eq_false_iff_ne]; omega
  have n8 : ((op : Int) == 8) = false := by rw [beq_eq_false_iff_ne]; omega
  have n16 : ((op : Int) == 16) = false := by rw [beq_eq_false_iff_ne]; omega
  have n23 : ((op : Int) == 23) = false := by rw [beq_eq_false_iff_ne]; omega
  have n11 : ((op : Int) == 11) = false := by rw [beq_eq_false_iff_ne]; omega
  have n17 : ((op : Int) == 17) = false := by rw [beq_eq_false_iff_ne]; omega
  have n22 : ((op : Int) == 22) = true := by rw [beq_iff_eq]; omega
  clear ho
  unfold itO itV at *
  dsimp only at *
  cases va <;> cases vb <;>
  ·go_enter Tryz.func102,Tryz.ntmps102
   go_wp2
   go_ret
   exact ⟨rfl,rfl⟩
theorem q4O (op pp : Nat) (xa xb : Int) (a : Option Addr) (n c g : Nat) (w : World) (ho : op = 12 ∨ op = 21) (ia ib : Nat) (va vb : Bool) (ha : (Instr.indexAt 28 (.slice a n c) (.int .i64 xa)).run Tryz.prog (w.alloc (itO ⟨op,pp,xa,xb⟩)) = .ok (.pointer (some ⟨g,ia,none⟩)) (w.alloc (itO ⟨op,pp,xa,xb⟩))) (ca : (w.alloc (itO ⟨op,pp,xa,xb⟩)).cell? ⟨g,ia,none⟩ = some (.bool va)) (hb : (Instr.indexAt 28 (.slice a n c) (.int .i64 xb)).run Tryz.prog (w.alloc (itO ⟨op,pp,xa,xb⟩)) = .ok (.pointer (some ⟨g,ib,none⟩)) (w.alloc (itO ⟨op,pp,xa,xb⟩))) (cb : (w.alloc (itO ⟨op,pp,xa,xb⟩)).cell? ⟨g,ib,none⟩ = some (.bool vb)) :
  Calls Tryz.prog 102 #[itV ⟨op,pp,xa,xb⟩,.slice a n c] w fun e w' => e = .returned (.bool (va || vb)) ∧ w' = w.alloc (itO ⟨op,pp,xa,xb⟩) := by
 rcases ho with ho | ho
 ·have n0 : ((op : Int) == 0) = false := by rw [beq_eq_false_iff_ne]; omega
  have n5 : ((op : Int) == 5) = false := by rw [beq_eq_false_iff_ne]; omega
  have n6 : ((op : Int) == 6) = false := by rw [beq_eq_false_iff_ne]; omega
  have n8 : ((op : Int) == 8) = false := by rw [beq_eq_false_iff_ne]; omega
  have n16 : ((op : Int) == 16) = false := by rw [beq_eq_false_iff_ne]; omega
  have n23 : ((op : Int) == 23) = false := by rw [beq_eq_false_iff_ne]; omega
  have n11 : ((op : Int) == 11) = false := by rw [beq_eq_false_iff_ne]; omega
  have n17 : ((op : Int) == 17) = false := by rw [beq_eq_false_iff_ne]; omega
  have n22 : ((op : Int) == 22) = false := by rw [beq_eq_false_iff_ne]; omega
  have n12 : ((op : Int) == 12) = true := by rw [beq_iff_eq]; omega
  clear ho
  unfold itO itV at *
  dsimp only at *
  cases va <;> cases vb <;>
  ·go_enter Tryz.func102,Tryz.ntmps102
   go_wp2
   go_ret
   exact ⟨rfl,rfl⟩
 ·have n0 : ((op : Int) == 0) = false := by rw [beq_eq_false_iff_ne]; omega
  have n5 : ((op : Int) == 5) = false := by rw [beq_eq_false_iff_ne]; omega
  have n6 : ((op : Int) == 6) = false := by rw [beq_eq_false_iff_ne]; omega
  have n8 : ((op : Int) == 8) = false := by rw [beq_eq_false_iff_ne]; omega
  have n16 : ((op : Int) == 16) = false := by rw [beq_eq_false_iff_ne]; omega
  have n23 : ((op : Int) == 23) = false := by rw [beq_eq_false_iff_ne]; omega
  have n11 : ((op : Int) == 11) = false := by rw [beq_eq_false_iff_ne]; omega
  have n17 : ((op : Int) == 17) = false := by rw [beq_eq_false_iff_ne]; omega
  have n22 : ((op : Int) == 22) = false := by rw [beq_eq_false_iff_ne]; omega
  have n12 : ((op : Int) == 12) = false := by rw [beq_eq_false_iff_ne]; omega
  have n21 : ((op : Int) == 21) = true := by rw [beq_iff_eq]; omega
  clear ho
  unfold itO itV at *
  dsimp only at *
  cases va <;> cases vb <;>
  ·go_enter Tryz.func102,Tryz.ntmps102
   go_wp2
   go_ret
   exact ⟨rfl,rfl⟩
theorem q7Y (op pp : Nat) (xa xb : Int) (a : Option Addr) (n c g : Nat) (w : World) (ho : op = 18) (ia ib : Nat) (va vb : Bool) (ha : (Instr.indexAt 28 (.slice a n c) (.int .i64 xa)).run Tryz.prog (w.alloc (itO ⟨op,pp,xa,xb⟩)) = .ok (.pointer (some ⟨g,ia,none⟩)) (w.alloc (itO ⟨op,pp,xa,xb⟩))) (ca : (w.alloc (itO ⟨op,pp,xa,xb⟩)).cell? ⟨g,ia,none⟩ = some (.bool va)) (hb : (Instr.indexAt 28 (.slice a n c) (.int .i64 xb)).run Tryz.prog (w.alloc (itO ⟨op,pp,xa,xb⟩)) = .ok (.pointer (some ⟨g,ib,none⟩)) (w.alloc (itO ⟨op,pp,xa,xb⟩))) (cb : (w.alloc (itO ⟨op,pp,xa,xb⟩)).cell? ⟨g,ib,none⟩ = some (.bool vb)) :
  Calls Tryz.prog 102 #[itV ⟨op,pp,xa,xb⟩,.slice a n c] w fun e w' => e = .returned (.bool (!va || vb)) ∧ w' = w.alloc (itO ⟨op,pp,xa,xb⟩) := by
 have n0 : ((op : Int) == 0) = false := by rw [beq_eq_false_iff_ne]; omega
 have n5 : ((op : Int) == 5) = false := by rw [beq_eq_false_iff_ne]; omega
 have n6 : ((op : Int) == 6) = false := by rw [beq_eq_false_iff_ne]; omega
 have n8 : ((op : Int) == 8) = false := by rw [beq_eq_false_iff_ne]; omega
 have n16 : ((op : Int) == 16) = false := by rw [beq_eq_false_iff_ne]; omega
 have n23 : ((op : Int) == 23) = false := by rw [beq_eq_false_iff_ne]; omega
 have n11 : ((op : Int) == 11) = false := by rw [beq_eq_false_iff_ne]; omega
 have n17 : ((op : Int) == 17) = false := by rw [beq_eq_false_iff_ne]; omega
 have n22 : ((op : Int) == 22) = false := by rw [beq_eq_false_iff_ne]; omega
 have n12 : ((op : Int) == 12) = false := by rw [beq_eq_false_iff_ne]; omega
 have n21 : ((op : Int) == 21) = false := by rw [beq_eq_false_iff_ne]; omega
 have n18 : ((op : Int) == 18) = true := by rw [beq_iff_eq]; omega
 clear ho
 unfold itO itV at *
 dsimp only at *
 cases va <;> cases vb <;>
 ·go_enter Tryz.func102,Tryz.ntmps102
  go_wp2
  go_ret
  exact ⟨rfl,rfl⟩
theorem q6X (op pp : Nat) (xa xb : Int) (a : Option Addr) (n c g : Nat) (w : World) (ho : op = 20) (ia : Nat) (va : Bool) (ha : (Instr.indexAt 28 (.slice a n c) (.int .i64 xa)).run Tryz.prog (w.alloc (itO ⟨op,pp,xa,xb⟩)) = .ok (.pointer (some ⟨g,ia,none⟩)) (w.alloc (itO ⟨op,pp,xa,xb⟩))) (ca : (w.alloc (itO ⟨op,pp,xa,xb⟩)).cell? ⟨g,ia,none⟩ = some (.bool va)) :
  Calls Tryz.prog 102 #[itV ⟨op,pp,xa,xb⟩,.slice a n c] w fun e w' => e = .returned (.bool va) ∧ w' = w.alloc (itO ⟨op,pp,xa,xb⟩) := by
 have n0 : ((op : Int) == 0) = false := by rw [beq_eq_false_iff_ne]; omega
 have n5 : ((op : Int) == 5) = false := by rw [beq_eq_false_iff_ne]; omega
 have n6 : ((op : Int) == 6) = false := by rw [beq_eq_false_iff_ne]; omega
 have n8 : ((op : Int) == 8) = false := by rw [beq_eq_false_iff_ne]; omega
 have n16 : ((op : Int) == 16) = false := by rw [beq_eq_false_iff_ne]; omega
 have n23 : ((op : Int) == 23) = false := by rw [beq_eq_false_iff_ne]; omega
 have n11 : ((op : Int) == 11) = false := by rw [beq_eq_false_iff_ne]; omega
 have n17 : ((op : Int) == 17) = false := by rw [beq_eq_false_iff_ne]; omega
 have n22 : ((op : Int) == 22) = false := by rw [beq_eq_false_iff_ne]; omega
 have n12 : ((op : Int) == 12) = false := by rw [beq_eq_false_iff_ne]; omega
 have n21 : ((op : Int) == 21) = false := by rw [beq_eq_false_iff_ne]; omega
 have n18 : ((op : Int) == 18) = false := by rw [beq_eq_false_iff_ne]; omega
 have n20 : ((op : Int) == 20) = true := by rw [beq_iff_eq]; omega
 clear ho
 unfold itO itV at *
 dsimp only at *
 go_enter Tryz.func102,Tryz.ntmps102
 go_wp2
 go_ret
 exact ⟨rfl,rfl⟩
theorem q1u (op pp : Nat) (xa xb : Int) (a : Option Addr) (n c : Nat) (w : World) (ho : op ≠ 0 ∧ op ≠ 5 ∧ op ≠ 6 ∧ op ≠ 8 ∧ op ≠ 16 ∧ op ≠ 23 ∧ op ≠ 11 ∧ op ≠ 17 ∧ op ≠ 22 ∧ op ≠ 12 ∧ op ≠ 21 ∧ op ≠ 18 ∧ op ≠ 20) :
  Calls Tryz.prog 102 #[itV ⟨op,pp,xa,xb⟩,.slice a n c] w fun e w' => e = .returned (.bool false) ∧ w' = w.alloc (itO ⟨op,pp,xa,xb⟩) := by
 have n0 : ((op : Int) == 0) = false := by rw [beq_eq_false_iff_ne]; omega
 have n5 : ((op : Int) == 5) = false := by rw [beq_eq_false_iff_ne]; omega
 have n6 : ((op : Int) == 6) = false := by rw [beq_eq_false_iff_ne]; omega
 have n8 : ((op : Int) == 8) = false := by rw [beq_eq_false_iff_ne]; omega
 have n16 : ((op : Int) == 16) = false := by rw [beq_eq_false_iff_ne]; omega
 have n23 : ((op : Int) == 23) = false := by rw [beq_eq_false_iff_ne]; omega
 have n11 : ((op : Int) == 11) = false := by rw [beq_eq_false_iff_ne]; omega
 have n17 : ((op : Int) == 17) = false := by rw [beq_eq_false_iff_ne]; omega
 have n22 : ((op : Int) == 22) = false := by rw [beq_eq_false_iff_ne]; omega
 have n12 : ((op : Int) == 12) = false := by rw [beq_eq_false_iff_ne]; omega
 have n21 : ((op : Int) == 21) = false := by rw [beq_eq_false_iff_ne]; omega
 have n18 : ((op : Int) == 18) = false := by rw [beq_eq_false_iff_ne]; omega
 have n20 : ((op : Int) == 20) = false := by rw [beq_eq_false_iff_ne]; omega
 clear ho
 unfold itO itV at *
 dsimp only at *
 go_enter Tryz.func102,Tryz.ntmps102
 go_wp2
 go_ret
 exact ⟨rfl,rfl⟩
theorem qeo {w : World} {base e n cap : Nat} {a : Option Addr} {xs : List Value} (h : w.ownsRow base e 1 (.slice a n cap) n xs) : ∀ k,k < n → base ≤ (adOf a k).block := fun k hk => by
 rcases h.2 with ⟨e,e0⟩ | ⟨g,cap',cur,e,hg,_⟩
 ·omega
 ·injection e with e1 _ _
  subst e1
  simp [adOf,qi]
  exact hg
def INR (r : List Nat) (w : World) (e : Ending) (w' : World) : Prop := ∃ (a : Option Addr) (c : Nat),e = .returned (.slice a r.length c) ∧ ISl w' a r.length c r ∧ Below w.heap.size w w' ∧ ∀ k,k < r.length → w.heap.size ≤ (adOf a k).block
theorem q7T (s : Nat) (hs : s < 2 ^ 64) (w : World) (hT : Tab64 w) : Calls Tryz.prog 154 #[.int .u64 (s : Int)] w (INR (itemsL s) w) := by
 have HT : Hid (Tab64 w) := hT
 have Hs : Hid (s < 2 ^ 64) := hs
 clear hT hs
 go_enter Tryz.func154,Tryz.ntmps154
 go_wp2
 go_loopw [3,4] (fun v r wr => ∃ (x : Nat) (acc : List Nat),r = .int .u64 (x : Int) ∧ Hid (x < 2 ^ 64) ∧ Hid (itemsL s = acc ++ itemsL x) ∧ Hid (wr.ownsRow w.heap.size 3 1 v acc.length ((iU acc).map (Value.int .i64))) ∧ Hid (Below w.heap.size w wr)) (fun _ r _ => (intOf r).toNat)
 case atStart => exact ⟨s,[],rfl,Hs,rfl,⟨rfl,Or.inl ⟨rfl,rfl⟩⟩,Below.refl _ _⟩
 case round =>
  obtain ⟨x,acc,rfl,HX,HE,HO,HB⟩ := hrel
  by_cases h0 : x = 0
  ·subst h0
   have HE2 : Hid (itemsL s = acc) := by show _ = _; rw [HE.out,qc4,List.append_nil]
   obtain ⟨va,vc,rfl,hU⟩ := qg4 HO.out
   have HU : Hid _ := hU
   have HFS : Hid (∀ k,k < acc.length → w.heap.size ≤ (adOf va k).block) := qeo HO.out
   clear hU HO HE
   go_wp2
   go_ret
   exact ⟨va,vc,by rw [HE2.out]; rfl,by rw [HE2.out]; exact HU.out,HB.out,by rw [HE2.out]; exact HFS.out⟩
  ·have htz := qbX x HX.out h0 wr (HT.out.up HB.out)
   obtain ⟨hk,hb,_⟩ := qba x h0 HX.out
   have hlt := qeh hk hb
   have HS := qcV h0 HX.out
   have HE2 : Hid (itemsL s = (acc ++ [Lib.ctz 64 x]) ++ itemsL (dropB x (Lib.ctz 64 x))) := by show _ = _; rw [HE.out,HS]; simp
   have hln : acc.length ≤ 64 := by have := q7g s; rw [HE.out,List.length_append] at this; omega
   have hne : ((x : Int) == 0) = false := by simp; omega
   have hp : 2 ^ Lib.ctz 64 x < 18446744073709551616 := Nat.pow_lt_pow_right (by decide) hk
   have hdr : bits .andNot .u64 (x : Int) (IntKind.u64.wrap ((2 : Int) ^ Lib.ctz 64 x)) = ((dropB x (Lib.ctz 64 x) : Nat) : Int) := by
    have e1 : IntKind.u64.wrap ((2 : Int) ^ Lib.ctz 64 x) = ((2 ^ Lib.ctz 64 x : Nat) : Int) := by
     rw [show (2 : Int) ^ Lib.ctz 64 x = ((2 ^ Lib.ctz 64 x : Nat) : Int) by simp,IntKind.wrap_u64]
     generalize 2 ^ Lib.ctz 64 x = q at *
     omega
    rw [e1]
    exact u64_andNot_nat x _ HX.out hp
   have HX2 : Hid (dropB x (Lib.ctz 64 x) < 2 ^ 64) := Nat.lt_of_le_of_lt (qaS _ _) HX.out
   obtain ⟨va,vc,rfl⟩ := q1G HO.out
   clear HS hb HE HX
   generalize dropB x (Lib.ctz 64 x) = y at *
   generalize Lib.ctz 64 x = k at *
   go_wp2_with fail
   refine htz.mono ?_
   rintro e w3 ⟨rfl,hw⟩
   obtain rfl : wr = w3 := hw.symm
   have HOA : Hid ((wr.alloc (.cells #[.int .i64 (k : Int)] 3)).ownsRow w.heap.size 3 1 (.slice va acc.length vc) acc.length ((iU acc).map (Value.int .i64))) := World.ownsRow.alloc HO.out _
   have HCA : Hid ((wr.alloc (.cells #[.int .i64 (k : Int)] 3)).cell? ⟨wr.heap.size,0,none⟩ = some (.int .i64 (k : Int))) := qb (MapKept.heap_alloc wr _).1 0
   have HWA : Hid (Below w.heap.size w (wr.alloc (.cells #[.int .i64 (k : Int)] 3))) := HB.out.alloc HB.out.size _
   have hszA : w.heap.size ≤ (wr.alloc (.cells #[.int .i64 (k : Int)] 3)).heap.size := HWA.out.size
   have HGE : Hid (∀ q,(Value.slice va acc.length vc).ownBlock = some q → w.heap.size ≤ q) := q2z HO.out
   clear HO HB htz
   go_wp2_with (at_builtin; refine q9n rfl _ _ rfl w.heap.size _ acc.length (iU acc) rfl HOA.out wr.heap.size (k : Int) rfl HCA.out (by omega) hszA ?_)
   intro v7 w7 hown7 hgr7
   have HO7 : Hid (w7.ownsRow w.heap.size 3 1 v7 (acc.length + 1) ((iU acc ++ [(k : Int)]).map (Value.int .i64))) := by show World.ownsRow _ _ _ _ _ _ _; simpa using hown7
   have HW7 : Hid (Below w.heap.size w w7) := HWA.out.grown hgr7 hszA (fun q e => HGE.out q e)
   clear hown7 hgr7 HOA HCA HWA hszA HGE
   go_wp2
   go_roundw
   case rel =>
    refine ⟨y,acc ++ [k],rfl,HX2,HE2,?_,HW7⟩
    show World.ownsRow _ _ _ _ _ _ _
    rw [List.length_append,q8k]
    exact HO7.out
   case measure => simp [intOf]; omega
def tabG : Nat := 1
theorem Tab64.fr {w w' : World} {F F' : Nat → Prop} (h : Tab64 w) (fr : Fr w w' F F') (hn : ¬ F tabG) : Tab64 w' := fun j hj => fr.cell (h j hj) hn
structure MidL (T0 : Tr) (p : Nat) (vs : Value) (x bn bl : Nat) (w : World) (F : Nat → Prop) (items : List It) (M : Mt) (B : Nat) (wj : World) (Fj : Nat → Prop) (ij : List It) (Mj : Mt) : Prop where
 obj : RdO T0 p vs x bn bl wj Fj ij Mj
 fr : Fr w wj F Fj
 hi : items <+: ij
 hM : M <+: Mj
 good : GoodM Mj
 rb : wj.heap[B]? = some (rdO p x bn bl)
 rn : ¬ Fj B
 tab : Tab64 wj
 tn : ¬ Fj tabG
section
variable {T0 : Tr} {p : Nat} {vs : Value} {x bn bl : Nat} {w : World} {F : Nat → Prop} {items : List It} {M : Mt} {B : Nat} {wj wk : World} {Fj Fk : Nat → Prop} {ij ik : List It} {Mj Mk : Mt}
theorem MidL.step (h : MidL T0 p vs x bn bl w F items M B wj Fj ij Mj) (fr : Fr wj wk Fj Fk) (hp : ij <+: ik) (hO : RdO T0 p vs x bn bl wk Fk ik Mk) (hm : Mj <+: Mk) (hg : GoodM Mk) : MidL T0 p vs x bn bl w F items M B wk Fk ik Mk :=
 ⟨hO,h.fr.trans fr,h.hi.trans hp,h.hM.trans hm,hg,(qh h.rb h.rn fr).1,(qh h.rb h.rn fr).2,h.tab.fr fr h.tn,fr.out h.tn (World.block_lt_of_cell? _ _ (h.tab 0 (by decide)))⟩
theorem MidL.up (h : MidL T0 p vs x bn bl w F items M B wj Fj ij Mj) (hb : Below wj.heap.size wj wk) : MidL T0 p vs x bn bl w F items M B wk Fj ij Mj := h.step (Fr.ofBelow hb) (List.prefix_refl _) ((qp T0 p vs x bn bl).up h.obj hb) (List.prefix_refl _) h.good
theorem MidL.bad (h : MidL T0 p vs x bn bl w F items M B wj Fj ij Mj) {R : Rt} (hR : R = none) (fr : Fr wj wk Fj Fk) (hp : ij <+: ik) (hm : Mj <+: Mk) (hO : RdO T0 p vs x bn bl wk Fk ik Mk) : RetQ (RdO T0 p vs x bn bl) w F items M R (.panicked thrownP) wk :=
 ⟨Fk,ik,h.fr.trans fr,h.hi.trans hp,Or.inr ⟨hR,rfl,Mk,h.hM.trans hm,hO⟩⟩
theorem MidL.met (h : MidL T0 p vs x bn bl w F items M B wj Fj ij Mj) (k : Nat) (hk : k < Mj.length) : ∃ a n cap g o j S,wj.cell? ⟨p,5,none⟩ = some (.slice a n cap) ∧ (∀ w',(Instr.indexAt 29 (.slice a n cap) (.int .i64 (k : Int))).run Tryz.prog w' = .ok (.pointer (some ⟨g,o,none⟩)) w') ∧ wj.cell? ⟨g,o,none⟩ = some (.int .i64 ((j : Nat) : Int)) ∧ Rep ij j S ∧ KT S ∧ InC T0 S ∧ Mj[k]? = some S.flat := by
 obtain ⟨F1,kn,kl,fn,fl,hr⟩ := h.obj
 obtain ⟨G,mn,vm,met,hg,hF⟩ := hr.pg.ex
 have hml := hg.met.1
 have hkm : k < met.length := by omega
 obtain ⟨S,hrep,hMk⟩ := hg.met.2 k met[k] (List.getElem?_eq_getElem hkm)
 obtain ⟨S2,k2,i2,e2⟩ := hr.pg.of S.flat (List.mem_of_getElem? hMk)
 have hw : S.WF := by
  obtain ⟨S3,h3,h4⟩ := hg.po.cov _ hrep.lt
  have := Rep.tree hrep h3
  subst this
  rcases q2P hg.po.t0.kt h4 with q | q <;> exact q.wf
 have e := q6f hw k2.wf e2
 subst e
 rcases hg.row.2 with ⟨e,e0⟩ | ⟨g,cap,cur,rfl,_,hcell,hnc,hcm,hsz,htk⟩
 ·omega
 ·refine ⟨some ⟨g,0,none⟩,met.length,cap,g,k,met[k],S,hg.c5,fun w' => ?_,?_,hrep,k2,i2,hMk⟩
  ·simp [Instr.indexAt,run_underlying Tryz.underlying29,asIntOf,qY (show (Tryz.prog.info? 3).map (·.size) = some 1 by kernel_rfl),hkm,Result.andThen,go_sem,qi]
  ·rw [qb hcell k]
   have : cur.toList[k]? = (encM met)[k]? := by rw [← htk,List.getElem?_take,if_pos (by omega)]
   rw [← Array.getElem?_toList,this]
   simp [encM,hkm]
end
theorem qdb {T0 S : Tr} (t0 : T0k T0) (kS : KT S) (hS : InC T0 S) (x : Nat) {M : Mt} {k : Nat} (hk : M[k]? = some S.flat) : aftM fuelN (growT (M.getD k [])) x M = aftC S x M := by
 have e : M.getD k [] = S.flat := by rw [List.getD_eq_getElem?_getD,hk]; rfl
 rw [e,q2h kS.wf]
 exact congrFun (aft_C kS (q4u t0.sz hS).2) M
structure IU (w : World) (F : Nat → Prop) (a : Option Addr) (c : Nat) (ks : List Nat) : Prop where
 sl : ISl w a ks.length c ks
 nf : ∀ k,k < ks.length → ¬ F (adOf a k).block
theorem IU.fr {w w' : World} {F F' : Nat → Prop} {a : Option Addr} {c : Nat} {ks : List Nat} (h : IU w F a c ks) (fr : Fr w w' F F') : IU w' F' a c ks := ⟨fr.intSl h.sl h.nf,fun k hk => fr.out (h.nf k hk) (h.sl.blk k hk)⟩
structure LH (w : World) (F : Nat → Prop) (M : Mt) (a : Option Addr) (c : Nat) (l : List Nat) : Prop where
 us : US w F a l.length c l
 len : l.length ≤ 1024
 bd : BdL l M.length
theorem LH.fr {w w' : World} {F F' : Nat → Prop} {M M' : Mt} {a : Option Addr} {c : Nat} {l : List Nat} (h : LH w F M a c l) (fr : Fr w w' F F') (hM : M <+: M') : LH w' F' M' a c l := ⟨h.us.fr fr,h.len,h.bd.mono hM.length_le⟩
theorem LH.lst {w : World} {F : Nat → Prop} {M : Mt} {a : Option Addr} {c : Nat} {l : List Nat} (h : LH w F M a c l) (hg : GoodM M) : LstH l := ⟨qM h.bd hg.few,h.len⟩
theorem qex {s m : Nat} (hm : m ≤ 64) (h : ∀ k,s.testBit k = true → k < m) : ∀ k ∈ itemsL s,k < m := (q8Y hm h (· < m)).2 h
theorem q87 {T0 : Tr} {p : Nat} {vs : Value} {x bn bl : Nat} (hx8 : x < 256) {w : World} {F : Nat → Prop} {items : List It} {M : Mt} (h : RdO T0 p vs x bn bl w F items M) (hT : Tab64 w) (hnG : ¬ F tabG) (a : Option Addr) (c : Nat) (l : List Nat) (hL : LH w F M a c l) (t0 : T0k T0) :
  Calls Tryz.prog 132 #[rdV p x bn bl,.slice a l.length c] w (fun e w' => RetQ (RdO T0 p vs x bn bl) w F items M (stepM fuelN x l [] M) e w' ∧ NewE w e) := by
 have hb := qd w (rdO p x bn bl)
 have hO := (qp T0 p vs x bn bl).up h hb
 have hg : GoodM M := by obtain ⟨_,_,_,_,_,hr⟩ := h; exact hr.pg.good
 have hlt := (qp T0 p vs x bn bl).lt h
 have HM0 : Hid (MidL T0 p vs x bn bl w F items M w.heap.size (w.alloc (rdO p x bn bl)) F items M) := ⟨hO,Fr.ofBelow hb,List.prefix_refl _,List.prefix_refl _,hg,(MapKept.heap_alloc w _).1,fun e => by have := hlt _ e; omega,hT.up hb,hnG⟩
 have HL0 : Hid (LH (w.alloc (rdO p x bn bl)) F M a c l) := hL.fr (Fr.ofBelow hb) (List.prefix_refl _)
 have HN0 : Hid (LH (w.alloc (rdO p x bn bl)) F M none 0 []) := ⟨qdH _ _,by simp,q16 false _⟩
 have HT0 : Hid (T0k T0) := t0
 have hidx := fun (i : Nat) (w : World) (h : i < l.length) => hL.us.sl.idx l.length i w h (Nat.le_refl _)
 have hl1 : l.length ≤ 1024 := hL.len
 have hx8' := hx8
 obtain ⟨R,hR⟩ : ∃ R,R = stepM fuelN x l [] M := ⟨_,rfl⟩
 have HR0 : Hid (R = stepM fuelN x (l.drop 0) [] M) := by rw [List.drop_zero]; exact hR
 rw [← hR]
 obtain ⟨Q,hQ⟩ : ∃ Q : Ending → World → Prop,Q = fun e w' => RetQ (RdO T0 p vs x bn bl) w F items M R e w' ∧ NewE w e := ⟨_,rfl⟩
 have HQ : Hid (∀ e w',RetQ (RdO T0 p vs x bn bl) w F items M R e w' → NewE w e → Q e w') := fun e w' h h2 => by rw [hQ]; exact ⟨h,h2⟩
 have HW0 : Hid (NewE w (.returned (.slice none 0 0))) := fun q n d h k hk => by injection h with h; injection h with h1 h2 h3; omega
 rw [← hQ]
 clear h hT hnG hL t0 hb hO hg hlt hR hQ
 obtain ⟨n,hn⟩ : ∃ n,n = l.length := ⟨_,rfl⟩
 have HNL : Hid (n = l.length) := hn
 rw [← hn] at hidx hl1 ⊢
 clear hn
 unfold rdV
 go_enter Tryz.func132,Tryz.ntmps132
 go_wp2
 go_loopw [5,13] (fun v i wr => ∃ (k : Nat) (q5 : Option Addr) (d5 : Nat) (out : List Nat) (Fj : Nat → Prop) (ij : List It) (Mj : Mt),k ≤ n ∧ i = .int .i64 (k : Int) ∧ v = .slice q5 out.length d5 ∧ Hid (MidL T0 p vs x bn bl w F items M w.heap.size wr Fj ij Mj) ∧ Hid (LH wr Fj Mj q5 d5 out) ∧ Hid (LH wr Fj Mj a c l) ∧ Hid (R = stepM fuelN x (l.drop k) out Mj) ∧ Hid (NewE w (.returned (.slice q5 out.length d5)))) (fun _ i _ => n - (intOf i).toNat)
 case atStart => exact ⟨0,none,0,[],F,items,M,Nat.zero_le _,rfl,rfl,HM0,HN0,HL0,HR0,HW0⟩
 case round =>
  clear HM0 HN0 HL0 HR0 HW0
  obtain ⟨k,q5,d5,out,Fj,ij,Mj,hk,rfl,rfl,HMJ,HO,HLL,HR,HNW⟩ := hrel
  by_cases hlt : k < n
  ·have hkl : k < l.length := by have := HNL.out; omega
   have hc := HLL.out.us.sl.cell k hkl
   have hix := fun w' => hidx k w' hlt
   have hset : (iU l).getD k 0 = ((l[k] : Nat) : Int) := by simp [iU,List.getD_eq_getElem?_getD,hkl]
   rw [hset] at hc
   have hs64 : l[k] < 2 ^ 64 := (HLL.out.lst HMJ.out.good).sm _ (List.getElem_mem hkl)
   have HIT : Hid (∀ y ∈ itemsL l[k],y < Mj.length) := qex HMJ.out.good.few (HLL.out.bd _ (List.getElem_mem hkl))
   have HRD : Hid (R = bindM (setM fuelN x (itemsL l[k]) [0] Mj) fun m M1 => bindM (twoM false out m M1) fun o M2 => stepM fuelN x (l.drop (k + 1)) o M2) := by
    show _ = _
    rw [HR.out,List.drop_eq_getElem_cons hkl,stepM]
   have jt := q4V wr
   have hil : (itemsL l[k]).length ≤ 64 := q7g _
   generalize l[k] = st at *
   clear HR hset
   go_wp2_with fail
   refine jt.mono ?_
   rintro e w1 ⟨q1,C1,rfl,hU1,hb1,hf1⟩
   have m1 := HMJ.out.up hb1
   have HAL : Hid (LH w1 Fj Mj q1 C1 [0]) := ⟨⟨hU1,fun k hk hF => by have := hf1 k hk; have := (qp T0 p vs x bn bl).lt HMJ.out.obj _ hF; omega⟩,by simp,q8i _⟩
   have HO1 : Hid (LH w1 Fj Mj q5 d5 out) := HO.out.fr (Fr.ofBelow hb1) (List.prefix_refl _)
   have HL1 : Hid (LH w1 Fj Mj a c l) := HLL.out.fr (Fr.ofBelow hb1) (List.prefix_refl _)
   have ji := q7T st hs64 w1 m1.tab
   have HM1 : Hid _ := m1
   clear jt hU1 hb1 hf1 HMJ HO HLL m1 hc hix
   generalize itemsL st = ks at *
   go_wp2_with fail
   refine ji.mono ?_
   rintro e w2 ⟨ia,ic,rfl,hI,hb2,hf2⟩
   have HM2 : Hid _ := HM1.out.up hb2
   have HIU : Hid (IU w2 Fj ia ic ks) := ⟨hI,fun k hk hF => by have := hf2 k hk; have := (qp T0 p vs x bn bl).lt HM1.out.obj _ hF; omega⟩
   have HAL2 : Hid (LH w2 Fj Mj q1 C1 [0]) := HAL.out.fr (Fr.ofBelow hb2) (List.prefix_refl _)
   have HO2 : Hid (LH w2 Fj Mj q5 d5 out) := HO1.out.fr (Fr.ofBelow hb2) (List.prefix_refl _)
   have HL2 : Hid (LH w2 Fj Mj a c l) := HL1.out.fr (Fr.ofBelow hb2) (List.prefix_refl _)
   have hidI := fun (i : Nat) (w : World) (h : i < ks.length) => hI.idx ks.length i w h (Nat.le_refl _)
   have HRI : Hid (R = bindM (setM fuelN x (ks.drop 0) [0] Mj) fun m M1 => bindM (twoM false out m M1) fun o M2 => stepM fuelN x (l.drop (k + 1)) o M2) := by rw [List.drop_zero]; exact HRD.out
   clear ji hI hb2 hf2 HM1 HAL HO1 HL1 HRD
   go_wp2
   generalize hLN : ks.length = ln at *
   have HLN : Hid (ks.length = ln) := hLN
   clear hLN
   go_loopw [8,21] (fun v i w3 => ∃ (j : Nat) (q8 : Option Addr) (d8 : Nat) (al : List Nat) (Fi : Nat → Prop) (ii : List It) (Mi : Mt),j ≤ ln ∧ i = .int .i64 (j : Int) ∧ v = .slice q8 al.length d8 ∧ Hid (MidL T0 p vs x bn bl w F items M w.heap.size w3 Fi ii Mi) ∧ Hid (Mj <+: Mi) ∧ Hid (LH w3 Fi Mi q8 d8 al) ∧ Hid (LH w3 Fi Mi q5 d5 out) ∧ Hid (LH w3 Fi Mi a c l) ∧ Hid (IU w3 Fi ia ic ks) ∧ Hid (R = bindM (setM fuelN x (ks.drop j) al Mi) fun m M1 => bindM (twoM false out m M1) fun o M2 => stepM fuelN x (l.drop (k + 1)) o M2)) (fun _ i _ => ln - (intOf i).toNat)
   case atStart => exact ⟨0,q1,C1,[0],Fj,ij,Mj,Nat.zero_le _,rfl,rfl,HM2,List.prefix_refl _,HAL2,HO2,HL2,HIU,HRI⟩
   case round =>
    clear HM2 HAL2 HO2 HL2 HIU HRI
    obtain ⟨j,q8,d8,al,Fi,ii,Mi,hj,rfl,rfl,HMI,HPR,HAL,HO,HLL,HIU,HR⟩ := hrel
    by_cases hltj : j < ln
    ·have hjk : j < ks.length := by have := HLN.out; omega
     have hcI := HIU.out.sl.cell j hjk
     have hixI := fun w' => hidI j w' hltj
     have hsI : (iU ks).getD j 0 = ((ks[j] : Nat) : Int) := by simp [iU,List.getD_eq_getElem?_getD,hjk]
     rw [hsI] at hcI
     have hkM : ks[j] < Mi.length := Nat.lt_of_lt_of_le (HIT.out _ (List.getElem_mem hjk)) HPR.out.length_le
     obtain ⟨ma,mnn,mcap,mg,mo,mj,S,c5,hidM,cM,hrepM,kS,hS,hMk⟩ := HMI.out.met ks[j] hkM
     have HRD : Hid (R = bindM (aftC S x Mi) fun a' M1 => bindM (twoM true al a' M1) fun b' M2 => bindM (setM fuelN x (ks.drop (j + 1)) b' M2) fun m M1 => bindM (twoM false out m M1) fun o M2 => stepM fuelN x (l.drop (k + 1)) o M2) := by
      show _ = _
      rw [HR.out,List.drop_eq_getElem_cons hjk,setM,qdb HT0.out kS hS x hMk]
      cases aftC S x Mi with
      | none => rfl
      | some z =>
       obtain ⟨z1,z2⟩ := z
       show bindM (bindM (twoM true al z1 z2) _) _ = bindM (twoM true al z1 z2) _
       cases twoM true al z1 z2 with
       | none => rfl
       | some y => rfl
     have m0 := HMI.out.up (Below.refl _ _).drew
     have ja := q6V HT0.out.kt hx8 S kS hS _ Fi ii Mi mj m0.obj hrepM
     have HKS : Hid (KT S) := kS
     have c5d : (wr.drew).cell? ⟨p,5,none⟩ = some (.slice ma mnn mcap) := c5
     have cMd : (wr.drew).cell? ⟨mg,mo,none⟩ = some (.int .i64 (mj : Int)) := cM
     have HCL : Hid (∀ w' : World,w'.heap[w.heap.size]? = some (rdO p x bn bl) → w'.cell? ⟨w.heap.size,0,none⟩ = some (.pointer (some ⟨p,0,none⟩)) ∧ w'.cell? ⟨w.heap.size,1,none⟩ = some (.int .u8 (x : Int)) ∧ w'.cell? ⟨w.heap.size,2,none⟩ = some (.map (some bn)) ∧ w'.cell? ⟨w.heap.size,3,none⟩ = some (.map (some bl))) := fun w' e => ⟨qb e 0,qb e 1,qb e 2,qb e 3⟩
     have hk0 := HCL.out _ m0.rb
     have hk00 := HCL.out _ HMI.out.rb
     unfold rdV at ja
     generalize ks[j] = kj at *
     clear HR hsI hrepM kS hS hMk hkM
     go_wp2_with fail
     obtain ⟨e0,e1,e2,e3⟩ := hk0
     obtain ⟨g0,g1,g2,g3⟩ := hk00
     go_region_with (first
      | (revert ja; intro ja; go_at_call 155; (with_reducible refine ja.mono ?_); rintro e w4 ⟨F4,i4,fr4,hp4,⟨L4,M4,q4,d4,hs4,rfl,hU4,hO4⟩ | ⟨hs4,rfl,M4,hpm4,hO4⟩⟩; (case inr => exact ⟨rfl,HQ.out _ _ (m0.bad (by rw [HRD.out,hs4]; first | done | rfl) fr4 hp4 hpm4 hO4) q4B⟩); have l4 := q1r m0.good HKS.out hs4; have m4 := m0.step fr4 hp4 hO4 l4.pre l4.good; have frw : Fr wr w4 Fi F4 := ((Fr.ofBelow (Below.refl _ _).drew).trans fr4); have a4 := HAL.out.fr frw l4.pre; have jb := qF (qp T0 p vs x bn bl) true m4.obj a4.us hU4 (a4.lst m4.good) l4.lst; unfold twF at jb; simp only [if_true] at jb)
      | (revert jb; intro jb; go_at_call 125; (with_reducible refine jb.mono ?_); rintro e w5 ⟨F5,i5,fr5,hp5,⟨L5,M5,q6,d6,hs5,rfl,hU5,hO5⟩ | ⟨hs5,rfl,M5,hpm5,hO5⟩⟩; (case inr => exact ⟨rfl,HQ.out _ _ (m4.bad (by rw [HRD.out,hs4]; show bindM (twoM true al L4 M4) _ = none; rw [hs5]; rfl) fr5 hp5 hpm5 hO5) q4B⟩); have l5 := q7A m4.good a4.bd l4.bd hs5; have m5 := m4.step fr5 hp5 hO5 l5.pre l5.good; have fr5w : Fr wr w5 Fi F5 := (frw.trans fr5); have HRN : Hid (R = bindM (setM fuelN x (ks.drop (j + 1)) L5 M5) fun m M1 => bindM (twoM false out m M1) fun o M2 => stepM fuelN x (l.drop (k + 1)) o M2) := (by show _ = _; rw [HRD.out,hs4]; show bindM (twoM true al L4 M4) _ = _; rw [hs5]; rfl))
      | fail)
     all_goals
      have HM5 : Hid _ := m5
      have pr5 : Mi <+: M5 := l4.pre.trans l5.pre
      have HPR5 : Hid (Mj <+: M5) := HPR.out.trans pr5
      have HAL5 : Hid (LH w5 F5 M5 q6 d6 L5) := ⟨hU5,l5.len,l5.bd⟩
      have HO5 : Hid (LH w5 F5 M5 q5 d5 out) := HO.out.fr fr5w pr5
      have HL5 : Hid (LH w5 F5 M5 a c l) := HLL.out.fr fr5w pr5
      have HI5 : Hid (IU w5 F5 ia ic ks) := HIU.out.fr fr5w
      clear ja jb HMI HPR HAL HO HLL HIU HRD m0 m4 m5 l4 l5 fr4 fr5 frw fr5w hU4 hU5 hO4 hO5 hs4 hs5 e0 e1 e2 e3 g0 g1 g2 g3 c5 cM c5d cMd hcI hixI a4 pr5
      go_wp2
      go_roundw
      case rel => exact ⟨j + 1,q6,d6,L5,F5,i5,M5,by omega,by go_num,rfl,HM5,HPR5,HAL5,HO5,HL5,HI5,HRN⟩
      case measure => simp [intOf] <;> omega
    ·obtain rfl : j = ln := by omega
     have HRF : Hid (R = bindM (twoM false out al Mi) fun o M2 => stepM fuelN x (l.drop (k + 1)) o M2) := by
      show _ = _
      rw [HR.out,List.drop_of_length_le (by have := HLN.out; omega)]
      rfl
     have jo := qcJ (qp T0 p vs x bn bl) false HMI.out.obj HO.out.us HAL.out.us (HO.out.lst HMI.out.good) (HAL.out.lst HMI.out.good)
     unfold twF at jo
     simp only [Bool.false_eq_true,if_false] at jo
     clear HR
     go_wp2_with fail
     refine jo.mono ?_
     rintro e w6 ⟨⟨F6,i6,fr6,hp6,⟨L6,M6,q7,d7,hs6,rfl,hU6,hO6⟩ | ⟨hs6,rfl,M6,hpm6,hO6⟩⟩,hnw⟩
     case inr => exact ⟨rfl,HQ.out _ _ (HMI.out.bad (by rw [HRF.out,hs6]; rfl) fr6 hp6 hpm6 hO6) q4B⟩
     have HNW6 : Hid (NewE w (.returned (.slice q7 L6.length d7))) := hnw.at HMI.out.fr.size
     have l6 := q7A HMI.out.good HO.out.bd HAL.out.bd hs6
     have HM6 : Hid _ := HMI.out.step fr6 hp6 hO6 l6.pre l6.good
     have HO6 : Hid (LH w6 F6 M6 q7 d7 L6) := ⟨hU6,l6.len,l6.bd⟩
     have HL6 : Hid (LH w6 F6 M6 a c l) := HLL.out.fr fr6 l6.pre
     have HRN : Hid (R = stepM fuelN x (l.drop (k + 1)) L6 M6) := by show _ = _; rw [HRF.out,hs6]; rfl
     clear jo HMI HPR HAL HO HLL HIU HRF l6 fr6 hU6 hO6 hs6 hnw
     go_wp2
     go_roundw
     case rel => exact ⟨k + 1,q7,d7,L6,F6,i6,M6,by omega,by go_num,rfl,HM6,HO6,HL6,HRN,HNW6⟩
     case measure => simp [intOf] <;> omega
  ·obtain rfl : k = n := by omega
   have HE : Hid (Q (.returned (.slice q5 out.length d5)) wr) := HQ.out _ _ ⟨Fj,ij,HMJ.out.fr,HMJ.out.hi,Or.inl ⟨out,Mj,q5,d5,by rw [HR.out,List.drop_of_length_le (by have := HNL.out; omega)]; rfl,rfl,HO.out.us,HMJ.out.obj⟩⟩ HNW.out
   clear HMJ HO HLL HR HNW
   go_wp2
   exact HE.out
def Erc (w : World) (b : Nat) (e : Int) : Prop := w.heap[b]? = some (.cells #[.int .i64 e] 25 (0,0))
theorem qa8 (b : Nat) (e0 : Int) (older : List PanicEntry) (w : World) (h1 : Erc w b e0) :
  CallsD Tryz.prog 123 #[.pointer (some ⟨b,0,none⟩)] (.panicking ({ v := .iface 185 (.int .i64 9),recovered := false } :: older)) w fun e u' w' =>
   e = .returned (.tuple #[]) ∧ u' = .panicking ({ v := .iface 185 (.int .i64 9),recovered := true } :: older) ∧ Erc w' b 9 ∧ w.grownBy w' (some b) := by
 refine callsD_of_wpS Tryz.func123 rfl fun c₀ cs hu => ?_
 have hta : ∀ w,(Instr.typeAssert (.iface 185 (.int .i64 9)) 20 185 true).run Tryz.prog w = .ok (.tuple #[.int .i64 9,.bool true]) w := fun w => by
  simp [Instr.typeAssert,go_sem]
 have f0 : w.cell? ⟨b,0,none⟩ = some (.int .i64 e0) := qb h1 0
 have g0 : w.frozen? ⟨b,0,none⟩ = false := frozen_of_row w b 0 _ _ h1
 have lb : b < w.heap.size := (Array.getElem?_eq_some_iff.1 h1).1
 have h2 := heap_setCell_same w b 0 _ _ (.int .i64 9) h1
 have HR : Hid (Erc (w.setCell ⟨b,0,none⟩ (.int .i64 9)) b 9 ∧ w.grownBy (w.setCell ⟨b,0,none⟩ (.int .i64 9)) (some b)) := ⟨h2,⟨rfl,rfl,rfl,by simp,fun k hk hne => Below.heap_setCell _ _ _ _ (fun e => hne (congrArg some e))⟩⟩
 apply wpS_seq
 apply wpS_region
 simp [wpOpsS,go_sem,recoverD,hu,Tryz.ntmps123,Exit.thenS]
 refine wpS_of_wp ?_
 go_wp2
 simp [bodyPostS,results,Tryz.results123]
 exact HR.out
theorem qa7 (b : Nat) (w : World) :
  CallsD Tryz.prog 123 #[.pointer (some ⟨b,0,none⟩)] .returning w fun e u' w' => e = .returned (.tuple #[]) ∧ u' = .returning ∧ w' = w := by
 refine callsD_of_wpS Tryz.func123 rfl fun c₀ cs hu => ?_
 apply wpS_seq
 apply wpS_region
 simp [wpOpsS,go_sem,recoverD,hu,Tryz.ntmps123,Exit.thenS]
 refine wpS_of_wp ?_
 go_wp2
 cases c₀
 simp_all [bodyPostS,results,Tryz.results123]
theorem q3j (fid : Nat) (caps : Array Value) (w : World) (hE : EntersF fid) (P P' : World → Prop)
  (hP : ∀ w1 w2 b,P w1 → w1.grownBy w2 (some b) → b = w.heap.size → P w2) (hP' : ∀ w1 w2 b,P' w1 → w1.grownBy w2 (some b) → b = w.heap.size → P' w2)
  (jw : ∀ w0,w0 = w.alloc (.cells #[.int .i64 0] 25) → Calls Tryz.prog fid caps w0 fun e w' => (e = .returned (.tuple #[]) ∧ P w' ∧ Erc w' w.heap.size 0) ∨ (e = .panicked thrownP ∧ P' w' ∧ Erc w' w.heap.size 0)) :
  Calls Tryz.prog 94 #[.func (.func fid) #[] caps] w fun e w' => (e = .returned (.int .i64 0) ∧ P w') ∨ (e = .returned (.int .i64 9) ∧ P' w') := by
 have j0 := jw _ rfl
 unfold EntersF at hE
 clear jw
 go_enter_defers Tryz.func94,Tryz.ntmps94
 go_wp2_with fail
 refine j0.mono ?_
 rintro e w1 (⟨rfl,hp,herc⟩ | ⟨rfl,hp,herc⟩)
 ·have f0 : w1.cell? ⟨w.heap.size,0,none⟩ = some (.int .i64 0) := qb herc 0
  have g0 : w1.frozen? ⟨w.heap.size,0,none⟩ = false := frozen_of_row w1 _ 0 _ _ herc
  have HP : Hid _ := hp
  have HE2 : Hid _ := herc
  clear j0 hp herc
  go_wp2
  have k2 := heap_setCell_same w1 w.heap.size 0 _ _ (.int .i64 0) HE2.out
  have hg : w1.grownBy (w1.setCell ⟨w.heap.size,0,none⟩ (.int .i64 0)) (some w.heap.size) := ⟨rfl,rfl,rfl,by simp,fun k hk hne => Below.heap_setCell _ _ _ _ (fun e => hne (congrArg some e))⟩
  have hp2 := hP w1 _ _ HP.out hg rfl
  refine leaves_cons (f := 123) (args := #[.pointer (some ⟨w.heap.size,0,none⟩)]) (by simp) (by simp [go_sem]) ?_
  refine (qa7 w.heap.size _).mono ?_
  rintro e u' w3 ⟨rfl,rfl,rfl⟩
  have f1 : (w1.setCell ⟨w.heap.size,0,none⟩ (.int .i64 0)).cell? ⟨w.heap.size,0,none⟩ = some (.int .i64 0) := qb k2 0
  generalize w1.setCell ⟨w.heap.size,0,none⟩ (.int .i64 0) = W at *
  simp [Leaves,settle,results,Tryz.results94,go_sem,f1]
  exact hp2
 ·refine leaves_cons (f := 123) (args := #[.pointer (some ⟨w.heap.size,0,none⟩)]) (by simp) (by simp [go_sem]) ?_
  refine (qa8 w.heap.size 0 [] w1 herc).mono ?_
  rintro e u' w2 ⟨rfl,rfl,herc2,hg2⟩
  have f1 : w2.cell? ⟨w.heap.size,0,none⟩ = some (.int .i64 9) := qb herc2 0
  have hp2 := hP' w1 w2 _ hp hg2 rfl
  simp [Leaves,settle,results,Tryz.results94,go_sem,f1]
  exact hp2
theorem qgN {T0 : Tr} {p : Nat} {vs : Value} (x : Nat) {w w' : World} {F : Nat → Prop} {items : List It} {M : Mt} {bn bl : Nat} (h : PgO T0 w F p vs items M) (hb : Below w.heap.size w w') (h1 : MemM w' bn [] (fun _ => none)) (h2 : MemM w' bl [] (fun _ => none)) (hne : bn ≠ bl) (n1 : w.heap.size ≤ bn) (n2 : w.heap.size ≤ bl) :
    RdO T0 p vs x bn bl w' (fun k => F k ∨ k = bn ∨ k = bl) items M ∧ Fr w w' F (fun k => F k ∨ k = bn ∨ k = bl) :=
  ⟨⟨F, [], [], _, _, h.up hb, h1, h2, hne, fun e => by have := h.lt _ e; omega, fun e => by have := h.lt _ e; omega, fun k => Iff.rfl, fun i v hv => (by cases hv), fun i v hv => (by cases hv)⟩,
   ⟨hb.os, hb.tape, hb.output, hb.size, fun k hk _ => hb.block k hk, fun k hk => by
    rcases hk with e | e | e
    · exact Or.inl e
    · right; omega
    · right; omega⟩⟩
theorem q86 {T0 : Tr} {p : Nat} {vs : Value} (x : Nat) {w : World} {F : Nat → Prop} {items : List It} {M : Mt} (h : PgO T0 w F p vs items M) :
  Calls Tryz.prog 131 #[.pointer (some ⟨p,0,none⟩),.int .u8 (x : Int)] w fun e w' => ∃ bn bl,e = .returned (rdV p x bn bl) ∧ RdO T0 p vs x bn bl w' (fun k => F k ∨ k = bn ∨ k = bl) items M ∧ Fr w w' F (fun k => F k ∨ k = bn ∨ k = bl) ∧ Below w.heap.size w w' := by
 have HH : Hid _ := h
 have hmm := @run_makeMap Tryz.prog
 clear h
 go_enter Tryz.func131,Tryz.ntmps131
 go_wp2
 generalize hO : Obj.cells #[.pointer (some ⟨p,0,none⟩),.int .u8 (x : Int),.map (some (w.heap.size + 1)),.map (some (w.heap.size + 1 + 1))] 191 = O
 have hb1 := qd w O
 have hb2 := qd (w.alloc O) (.map #[] 0)
 have hb3 := qd ((w.alloc O).alloc (.map #[] 0)) (.map #[] 0)
 have hb : Below w.heap.size w (((w.alloc O).alloc (.map #[] 0)).alloc (.map #[] 0)) := qe (qe hb1 hb2) hb3
 have z1 : (w.alloc O).heap.size = w.heap.size + 1 := by simp
 have z2 : ((w.alloc O).alloc (.map #[] 0)).heap.size = w.heap.size + 1 + 1 := by simp
 have h1 : MemM (((w.alloc O).alloc (.map #[] 0)).alloc (.map #[] 0)) (w.heap.size + 1) [] (fun _ => none) := by
  have := qbd (w.alloc O)
  rw [z1] at this
  exact this.far (hb3.block _ (by omega))
 have h2 : MemM (((w.alloc O).alloc (.map #[] 0)).alloc (.map #[] 0)) (w.heap.size + 1 + 1) [] (fun _ => none) := by
  have := qbd ((w.alloc O).alloc (.map #[] 0))
  rw [z2] at this
  exact this
 have h0 : (((w.alloc O).alloc (.map #[] 0)).alloc (.map #[] 0)).heap[w.heap.size]? = some O := (hb3.block _ (by omega)).trans ((hb2.block _ (by omega)).trans (MapKept.heap_alloc w O).1)
 clear hb3 z2
 generalize ((w.alloc O).alloc (.map #[] 0)).alloc (.map #[] 0) = W at *
 rw [← hO] at h0
 have e0 : W.cell? ⟨w.heap.size,0,none⟩ = some (.pointer (some ⟨p,0,none⟩)) := qb h0 0
 have e1 : W.cell? ⟨w.heap.size,1,none⟩ = some (.int .u8 (x : Int)) := qb h0 1
 have e2 : W.cell? ⟨w.heap.size,2,none⟩ = some (.map (some (w.heap.size + 1))) := qb h0 2
 have e3 : W.cell? ⟨w.heap.size,3,none⟩ = some (.map (some (w.heap.size + 1 + 1))) := qb h0 3
 obtain ⟨r1,r2⟩ := qgN x HH.out hb h1 h2 (by omega) (by omega) (by omega)
 refine bodyPost_ret (v := rdV p x (w.heap.size + 1) (w.heap.size + 1 + 1)) (by simp [results,Tryz.results131,go_sem,e0,e1,e2,e3,rdV]) rfl ⟨_,_,rfl,r1,r2,hb⟩
theorem q6Z {T0 : Tr} {p : Nat} {vs : Value} {w : World} {F : Nat → Prop} {items : List It} {M : Mt} (h : PgO T0 w F p vs items M) (a : Option Addr) (c : Nat) (l : List Nat) (hU : USl w a l.length c l) (sm : Sm l) (hl : l.length ≤ 1024) :
  Calls Tryz.prog 129 #[.pointer (some ⟨p,0,none⟩),.slice a l.length c] w fun e w' => (∃ b,e = .returned (.bool b) ∧ (b = true ↔ BdL l M.length)) ∧ w' = w := by
 obtain ⟨G,mn,vm,met,hr,hF⟩ := h.ex
 have c5 := hr.c5
 obtain ⟨ma,mc,rfl⟩ := qK hr.row
 have hml : met.length = M.length := hr.met.1
 have hfew := h.few
 rw [hml] at c5
 have hidx := fun (i : Nat) (w : World) (h : i < l.length) => hU.idx l.length i w h (Nat.le_refl _)
 have HC : Hid (∀ i (h : i < l.length),w.cell? (adOf a i) = some (.int .u64 ((l[i] : Nat) : Int))) := fun i hi => by
  have := hU.cell i hi
  rw [show (iU l).getD i 0 = ((l[i] : Nat) : Int) by simp [iU,List.getD_eq_getElem?_getD,hi]] at this
  exact this
 have HSM : Hid (Sm l) := sm
 clear h hr hF hU sm hml
 obtain ⟨n,hn⟩ : ∃ n,n = l.length := ⟨_,rfl⟩
 have HNL : Hid (n = l.length) := hn
 rw [← hn] at hidx hl ⊢
 clear hn
 generalize hm : M.length = m at *
 clear hm
 go_enter Tryz.func129,Tryz.ntmps129
 go_wp2
 go_loopw [9] (fun i wr => ∃ k : Nat,k ≤ n ∧ i = .int .i64 (k : Int) ∧ wr = w ∧ Hid (BdL (l.take k) m)) (fun i _ => n - (intOf i).toNat)
 case atStart => exact ⟨0,Nat.zero_le _,rfl,rfl,by show BdL _ _; rw [List.take_zero]; exact q16 false _⟩
 case round =>
  obtain ⟨k,hk,rfl,rfl,HB⟩ := hrel
  by_cases hlt : k < n
  ·have hkl : k < l.length := by have := HNL.out; omega
   have hc := HC.out k hkl
   have hix := fun w' => hidx k w' hlt
   have hs64 : l[k] < 2 ^ 64 := HSM.out _ (List.getElem_mem hkl)
   have HBN : Hid (l[k] < 2 ^ m → BdL (l.take (k + 1)) m) := fun hx s hs j hj => by
    rw [List.take_add_one,List.mem_append] at hs
    rcases hs with hs | hs
    ·exact HB.out s hs j hj
    ·rw [List.getElem?_eq_getElem hkl] at hs
     simp at hs
     subst hs
     exact Nat.lt_of_not_le fun hle => by
      have := Nat.testBit_lt_two_pow (Nat.lt_of_lt_of_le hx (Nat.pow_le_pow_right (by decide) hle))
      rw [hj] at this; cases this
   have HBF : Hid (¬ l[k] < 2 ^ m → ¬ BdL l m) := fun hx hb => hx (Nat.lt_pow_two_of_testBit _ fun j hj => by
    cases ht : l[k].testBit j with
    | false => rfl
    | true => have := hb _ (List.getElem_mem hkl) j ht; omega)
   generalize l[k] = y at *
   clear HB
   by_cases hy : y < 2 ^ m
   ·have hz : ((y : Int) / 2 ^ m) = 0 := by
     rw [show ((2 : Int) ^ m) = ((2 ^ m : Nat) : Int) by simp,← Int.natCast_ediv,Nat.div_eq_of_lt hy]; rfl
    have HBT : Hid _ := HBN.out hy
    clear HBN HBF
    go_wp2
    go_roundw
    case rel => exact ⟨k + 1,by omega,by go_num,by first | trivial | rfl,HBT⟩
    case measure => simp [intOf] <;> omega
   ·have hz : ((y : Int) / 2 ^ m == 0) = false := by
     rw [show ((2 : Int) ^ m) = ((2 ^ m : Nat) : Int) by simp,← Int.natCast_ediv,beq_eq_false_iff_ne]
     have : 0 < y / 2 ^ m := Nat.div_pos (by omega) (Nat.pow_pos (by decide))
     omega
    have HBT : Hid _ := HBF.out hy
    clear HBN HBF
    go_wp2
    go_ret
    exact ⟨⟨false,rfl,⟨fun h => (by cases h),fun h => absurd h HBT.out⟩⟩,rfl⟩
  ·obtain rfl : k = n := by omega
   have HBT : Hid (BdL l m) := by
    have := HB.out
    rw [List.take_of_length_le (by have := HNL.out; omega)] at this
    exact this
   clear HB
   go_wp2
   go_ret
   exact ⟨⟨true,rfl,⟨fun _ => HBT.out,fun _ => rfl⟩⟩,rfl⟩
end Go.Proofs.YtailhklbmenaoaaGreatDoor
