/- Package parse: every line, whatever is read; what is thrown is caught. -/
import Derived.Test.YtnibcmmgnenfcaaDoorWPb7
import Derived.Defers
import Derived.Recover
namespace Go.Proofs.YtnibcmmgnenfcaaDoor
open Go.RowKit Go.Maps

/-- Every line does what it should, with so many calls at the most. -/
structure AllC (E : Ev) (n : Nat) : Prop where
  c_iff : Cont E n (.lev 0) 19
  c_imp : Cont E n (.lev 1) 28
  c_or : Cont E n (.lev 2) 47
  c_and : Cont E n (.lev 3) 69
  c_until : Cont E n (.lev 4) 88
  c_prefix : Cont E n .una 99
  c_atom : Cont E n .ato 105
  c_plus : Cont E n (.pat 0) 22
  c_seq : Cont E n (.pat 1) 39
  c_star : Cont E n (.pat 2) 60
  c_step : Cont E n .bar 80
theorem cont_zero (E : Ev) (nt : NT) (F : FuncId) : Cont E 0 nt F := fun p T w x hC hx => by simp [rd5] at hx
theorem all_c (E : Ev) : ∀ n, AllC E n
  | 0 => ⟨cont_zero _ _ _, cont_zero _ _ _, cont_zero _ _ _, cont_zero _ _ _, cont_zero _ _ _, cont_zero _ _ _, cont_zero _ _ _, cont_zero _ _ _, cont_zero _ _ _, cont_zero _ _ _, cont_zero _ _ _⟩
  | n + 1 =>
    have h := all_c E n
    ⟨Tryd.piff_c E n h.c_imp, Tryd.pimp_c E n h.c_or h.c_imp, Tryd.por_c E n h.c_and, Tryd.pand_c E n h.c_until, Tryd.puntil_c E n h.c_prefix.lev5 h.c_until, Tryd.pprefix_c E n h.c_prefix h.c_plus h.c_atom, Tryd.patom_c E n h.c_iff, Tryd.pplus_c E n h.c_seq, Tryd.pseq_c E n h.c_star, Tryd.pstar_c E n h.c_step, Tryd.pstep_c E n h.c_iff h.c_prefix h.c_plus⟩

set_option maxRecDepth 100000 in
set_option maxHeartbeats 2000000 in
theorem Tryd.catch_p (b : Nat) (x0 x1 er ea : Int) (older : List PanicEntry) (w : World) (h1 : Flt w b x0 x1) :
    CallsD Tryd.prog 45 #[.pointer (some ⟨b, 0, none⟩)] (.panicking ({ v := .iface 83 (.agg #[.int .i64 er, .int .i64 ea]), recovered := false } :: older)) w fun e u' w' =>
      e = .returned (.tuple #[]) ∧ u' = .panicking ({ v := .iface 83 (.agg #[.int .i64 er, .int .i64 ea]), recovered := true } :: older) ∧ Flt w' b er ea ∧ w.grownBy w' (some b) := by
  refine callsD_of_wpS Tryd.func45 rfl fun c₀ cs hu => ?_
  have hta : ∀ w, (Instr.typeAssert (.iface 83 (.agg #[.int .i64 er, .int .i64 ea])) 20 83 true).run Tryd.prog w = .ok (.tuple #[.agg #[.int .i64 er, .int .i64 ea], .bool true]) w := fun w => by
    simp [Instr.typeAssert, go_sem]
  have f0 := h1.c0
  have f1 := h1.c1
  have g0 := h1.fz 0
  have g1 := h1.fz 1
  have lb := h1.lt
  apply wpS_seq
  apply wpS_region
  simp [wpOpsS, go_sem, recoverD, hu, Tryd.ntmps45, Exit.thenS]
  refine wpS_of_wp ?_
  go_wp2
  have h2 := heap_setCell_same w b 0 _ _ (.int .i64 er) h1
  have h3 := heap_setCell_same _ b 1 _ _ (.int .i64 ea) h2
  have h4 : Flt (((w.setCell ⟨b, 0, none⟩ (.int .i64 er)).setCell ⟨b, 1, none⟩ (.int .i64 ea)).alloc (.cells #[.int .i64 er, .int .i64 ea] 83)) b er ea := by
    have : Flt ((w.setCell ⟨b, 0, none⟩ (.int .i64 er)).setCell ⟨b, 1, none⟩ (.int .i64 ea)) b er ea := h3
    exact this.up (below_new _ _)
  have h5 : w.grownBy (((w.setCell ⟨b, 0, none⟩ (.int .i64 er)).setCell ⟨b, 1, none⟩ (.int .i64 ea)).alloc (.cells #[.int .i64 er, .int .i64 ea] 83)) (some b) := by
    have : w.grownBy ((w.setCell ⟨b, 0, none⟩ (.int .i64 er)).setCell ⟨b, 1, none⟩ (.int .i64 ea)) (some b) := ⟨rfl, rfl, rfl, by simp, fun k hk hne => by
      have : k ≠ b := fun e => hne (congrArg some e)
      rw [Below.heap_setCell _ _ _ _ this, Below.heap_setCell _ _ _ _ this]⟩
    exact this.trans (grown_of (below_new _ _) _)
  simp [bodyPostS, results, Tryd.results45]
  exact ⟨h4, h5⟩

set_option maxRecDepth 100000 in
set_option maxHeartbeats 2000000 in
theorem Tryd.catch_i (b : Nat) (w : World) :
    CallsD Tryd.prog 45 #[.pointer (some ⟨b, 0, none⟩)] .returning w fun e u' w' => e = .returned (.tuple #[]) ∧ u' = .returning ∧ w' = w := by
  refine callsD_of_wpS Tryd.func45 rfl fun c₀ cs hu => ?_
  apply wpS_seq
  apply wpS_region
  simp [wpOpsS, go_sem, recoverD, hu, Tryd.ntmps45, Exit.thenS]
  refine wpS_of_wp ?_
  go_wp2
  cases c₀
  simp_all [bodyPostS, results, Tryd.results45]
end Go.Proofs.YtnibcmmgnenfcaaDoor
