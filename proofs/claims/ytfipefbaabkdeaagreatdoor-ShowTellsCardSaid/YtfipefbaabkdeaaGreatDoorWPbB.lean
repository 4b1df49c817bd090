/- Package parse: every line, whatever is read; what is thrown is caught; the whole of a text. -/
import Derived.Test.YtfipefbaabkdeaaGreatDoorWPb7
import Derived.Defers
import Derived.Recover
namespace Go.Proofs.YtfipefbaabkdeaaGreatDoor
open Go.RowKit Go.Maps

/-- Every line does what it should, with so many calls at the most. -/
structure AllC (E : Ev) (n : Nat) : Prop where
  c_iff : Cont E n (.lev 0) 37
  c_imp : Cont E n (.lev 1) 49
  c_or : Cont E n (.lev 2) 66
  c_and : Cont E n (.lev 3) 89
  c_until : Cont E n (.lev 4) 99
  c_prefix : Cont E n .una 102
  c_atom : Cont E n .ato 105
  c_plus : Cont E n (.pat 0) 107
  c_seq : Cont E n (.pat 1) 110
  c_star : Cont E n (.pat 2) 111
  c_step : Cont E n .bar 112
theorem cont_zero (E : Ev) (nt : NT) (F : FuncId) : Cont E 0 nt F := fun p T w x hC hx => by simp [rd5] at hx
theorem all_c (E : Ev) : ∀ n, AllC E n
  | 0 => ⟨cont_zero _ _ _, cont_zero _ _ _, cont_zero _ _ _, cont_zero _ _ _, cont_zero _ _ _, cont_zero _ _ _, cont_zero _ _ _, cont_zero _ _ _, cont_zero _ _ _, cont_zero _ _ _, cont_zero _ _ _⟩
  | n + 1 =>
    have h := all_c E n
    ⟨Tryz.piff_c E n h.c_imp, Tryz.pimp_c E n h.c_or h.c_imp, Tryz.por_c E n h.c_and, Tryz.pand_c E n h.c_until, Tryz.puntil_c E n h.c_prefix.lev5 h.c_until, Tryz.pprefix_c E n h.c_prefix h.c_plus h.c_atom, Tryz.patom_c E n h.c_iff, Tryz.pplus_c E n h.c_seq, Tryz.pseq_c E n h.c_star, Tryz.pstar_c E n h.c_step, Tryz.pstep_c E n h.c_iff h.c_prefix h.c_plus⟩

set_option maxRecDepth 100000 in
set_option maxHeartbeats 2000000 in
theorem Tryz.catch_p (b : Nat) (x0 x1 er ea : Int) (older : List PanicEntry) (w : World) (h1 : Flt w b x0 x1) :
    CallsD Tryz.prog 64 #[.pointer (some ⟨b, 0, none⟩)] (.panicking ({ v := .iface 126 (.agg #[.int .i64 er, .int .i64 ea]), recovered := false } :: older)) w fun e u' w' =>
      e = .returned (.tuple #[]) ∧ u' = .panicking ({ v := .iface 126 (.agg #[.int .i64 er, .int .i64 ea]), recovered := true } :: older) ∧ Flt w' b er ea ∧ w.grownBy w' (some b) := by
  refine callsD_of_wpS Tryz.func64 rfl fun c₀ cs hu => ?_
  have hta : ∀ w, (Instr.typeAssert (.iface 126 (.agg #[.int .i64 er, .int .i64 ea])) 20 126 true).run Tryz.prog w = .ok (.tuple #[.agg #[.int .i64 er, .int .i64 ea], .bool true]) w := fun w => by
    simp [Instr.typeAssert, go_sem]
  have f0 := h1.c0
  have f1 := h1.c1
  have g0 := h1.fz 0
  have g1 := h1.fz 1
  have lb := h1.lt
  apply wpS_seq
  apply wpS_region
  simp [wpOpsS, go_sem, recoverD, hu, Tryz.ntmps64, Exit.thenS]
  refine wpS_of_wp ?_
  go_wp2
  have h2 := heap_setCell_same w b 0 _ _ (.int .i64 er) h1
  have h3 := heap_setCell_same _ b 1 _ _ (.int .i64 ea) h2
  have h4 : Flt (((w.setCell ⟨b, 0, none⟩ (.int .i64 er)).setCell ⟨b, 1, none⟩ (.int .i64 ea)).alloc (.cells #[.int .i64 er, .int .i64 ea] 126)) b er ea := by
    have : Flt ((w.setCell ⟨b, 0, none⟩ (.int .i64 er)).setCell ⟨b, 1, none⟩ (.int .i64 ea)) b er ea := h3
    exact this.up (below_new _ _)
  have h5 : w.grownBy (((w.setCell ⟨b, 0, none⟩ (.int .i64 er)).setCell ⟨b, 1, none⟩ (.int .i64 ea)).alloc (.cells #[.int .i64 er, .int .i64 ea] 126)) (some b) := by
    have : w.grownBy ((w.setCell ⟨b, 0, none⟩ (.int .i64 er)).setCell ⟨b, 1, none⟩ (.int .i64 ea)) (some b) := ⟨rfl, rfl, rfl, by simp, fun k hk hne => by
      have : k ≠ b := fun e => hne (congrArg some e)
      rw [Below.heap_setCell _ _ _ _ this, Below.heap_setCell _ _ _ _ this]⟩
    exact this.trans (grown_of (below_new _ _) _)
  simp [bodyPostS, results, Tryz.results64]
  exact ⟨h4, h5⟩

set_option maxRecDepth 100000 in
set_option maxHeartbeats 2000000 in
theorem Tryz.catch_i (b : Nat) (w : World) :
    CallsD Tryz.prog 64 #[.pointer (some ⟨b, 0, none⟩)] .returning w fun e u' w' => e = .returned (.tuple #[]) ∧ u' = .returning ∧ w' = w := by
  refine callsD_of_wpS Tryz.func64 rfl fun c₀ cs hu => ?_
  apply wpS_seq
  apply wpS_region
  simp [wpOpsS, go_sem, recoverD, hu, Tryz.ntmps64, Exit.thenS]
  refine wpS_of_wp ?_
  go_wp2
  cases c₀
  simp_all [bodyPostS, results, Tryz.results64]

/-- The same reader, from a later world on. -/
def Ev.at (E : Ev) (w : World) : Ev := { E with w0 := w }
theorem Env.at {E : Ev} (h : Env E) {w : World} (hb : Below E.w0.heap.size E.w0 w) : Env (E.at w) :=
  ⟨h.wd.up hb, h.nm.up hb, h.wne, h.nne, h.few, h.fin, h.ns8, Nat.lt_of_lt_of_le h.glt hb.size⟩
theorem owns_low {w : World} {base base' e size n : Nat} {v : Value} {xs : List Value} (h : w.ownsRow base e size v n xs) (hb : base' ≤ base) : w.ownsRow base' e size v n xs := by
  obtain ⟨hl, h⟩ := h
  refine ⟨hl, ?_⟩
  rcases h with h | ⟨k, cap, cur, rfl, hk, r⟩
  · exact Or.inl h
  · exact Or.inr ⟨k, cap, cur, rfl, Nat.le_trans hb hk, r⟩
theorem Cx.low {E : Ev} {w1 w : World} {p : Nat} {T : List Tk5} (h : Cx (E.at w1) w p T) (hV : Env E) (hb : Below E.w0.heap.size E.w0 w1) : Cx E w p T := by
  obtain ⟨v, hr, ho⟩ := h.rd
  exact ⟨hV, (grown_of hb _).trans h.gr, h.ple, h.tle, v, hr, owns_low ho hb.size⟩
theorem owns_nil (w : World) (base e size : Nat) : w.ownsRow base e size (.slice none 0 0) 0 [] := ⟨by simp, Or.inl ⟨rfl, rfl⟩⟩
theorem Env.start {E : Ev} (h : Env E) (hr : E.w0.heap[E.g]? = some (rowE E 0 (.slice none 0 0))) : Cx E E.w0 0 [] :=
  ⟨h, World.grownBy.refl _ _, Nat.zero_le _, Nat.zero_le _, _, hr, owns_nil _ _ _ _⟩
/-- What a line behind which the words must end answers. -/
def RunP (E : Ev) (y : Except Er (List Tk5)) (e : Ending) (w' : World) : Prop :=
  match y with
  | .ok t => e = .returned (.agg #[.int .i64 0, .int .i64 0]) ∧ Cx E w' E.ws.length t
  | .error (er, ea) => e = .returned (.agg #[.int .i64 er, .int .i64 ea]) ∧ E.w0.grownBy w' (some E.g)
set_option maxRecDepth 100000 in
set_option maxHeartbeats 4000000 in
theorem Tryz.prun_any (E : Ev) (n : Nat) (nt : NT) (F : FuncId) (hE : Enters F) (hF : ∀ E', Cont E' n nt F) (hV : Env E) (hr : E.w0.heap[E.g]? = some (rowE E 0 (.slice none 0 0))) (hne : ∀ u ∈ E.ws, u.tx.toList ≠ [])
    (x : Except Er (List Tk5 × List Wd)) (hx : rd5 (nms E.ss) E.fin n nt E.ws = some x) :
    Calls Tryz.prog 48 #[.pointer (some ⟨E.g, 0, none⟩), fnV F E.g] E.w0 (RunP E (endR (some x))) := by
  obtain ⟨w, hw⟩ : ∃ w, E.w0 = w := ⟨_, rfl⟩
  obtain ⟨wf, hwf⟩ : ∃ wf, wf = w.alloc (.cells #[.int .i64 0, .int .i64 0] 31) := ⟨_, rfl⟩
  have hbw : Below w.heap.size w wf := by rw [hwf]; exact below_new _ _
  have hFl : Flt wf w.heap.size 0 0 := by rw [hwf]; exact Flt.new _ _ _
  have hb0 : Below E.w0.heap.size E.w0 wf := by rw [hw]; exact hbw
  have hC : Cx (E.at wf) wf 0 [] := (hV.at hb0).start ((hb0.block E.g hV.glt).trans hr)
  have hf := hF (E.at wf) 0 [] wf x hC (by rw [List.drop_zero]; exact hx)
  have hmf := mkfn
  have hlt : E.g < w.heap.size := by rw [← hw]; exact hV.glt
  have HB : Hid (Below E.w0.heap.size E.w0 wf) := hb0
  have HV : Hid (Env E) := hV
  have HFl : Hid (Flt wf w.heap.size 0 0) := hFl
  have hszf : wf.heap.size = w.heap.size + 1 := by rw [hwf]; simp
  rw [hw]
  unfold Enters at hE
  clear hC hF hr hV hb0 hbw hFl
  cases x with
  | error er =>
    obtain ⟨e1, e2⟩ := er
    go_enter_defers Tryz.func48, Tryz.ntmps48
    go_wp2_with fail
    rw [← hwf]
    refine hf.mono ?_
    rintro e w1 ⟨rfl, hg⟩
    have hB : Flt w1 w.heap.size 0 0 := HFl.out.grown hg (fun e => by injection e with e; have : E.g = w.heap.size := e; omega)
    refine leaves_cons (f := 64) (args := #[.pointer (some ⟨w.heap.size, 0, none⟩)]) (by simp) (by simp [go_sem]) ?_
    refine (Tryz.catch_p w.heap.size _ _ e1 e2 [] w1 hB).mono ?_
    rintro e u' w2 ⟨rfl, rfl, hF2, hg2⟩
    have f0 := hF2.c0
    have f1 := hF2.c1
    have hG : E.w0.grownBy w2 (some E.g) := by
      have h1 := (grown_of HB.out (some E.g)).trans hg
      exact ⟨hg2.os.trans h1.os, hg2.tape.trans h1.tape, hg2.output.trans h1.output, Nat.le_trans h1.size hg2.size, fun k hk hn => by
        rw [hg2.block k (Nat.lt_of_lt_of_le hk h1.size) (fun e => by injection e with e; rw [hw] at hk; omega)]; exact h1.block k hk hn⟩
    simp [Leaves, settle, results, Tryz.results48, go_sem, f0, f1]
    exact ⟨rfl, hG⟩
  | ok q =>
    obtain ⟨t, r⟩ := q
    obtain ⟨hr, h1, h2, h3⟩ := rest_of (ws := E.ws) (p := 0) (by omega) (by rw [List.drop_zero]; exact hx)
    have hTx := fun w' (hC : Cx (E.at wf) w' (E.ws.length - r.length) t) => Tryz.ptext_any (E.at wf) _ t w' hC
    have hRf := fun w' (hC : Cx (E.at wf) w' (E.ws.length - r.length) t) => Tryz.prefuse_any (E.at wf) _ t 150 w' hC
    have hr' : (E.at wf).ws.drop (E.ws.length - r.length) = r := hr
    rw [hr'] at hTx hRf
    have hf' : Calls Tryz.prog F #[.pointer (some ⟨E.g, 0, none⟩)] wf (fun e w' => e = .returned (.tuple #[]) ∧ Cx (E.at wf) w' (E.ws.length - r.length) t) := hf
    clear hf hr'
    cases r with
    | nil =>
      have hX : ((mkB (hdT [])).toList == []) = true := by rw [mkB_toList]; rfl
      clear hRf hr hx
      go_enter_defers Tryz.func48, Tryz.ntmps48
      go_wp2_with fail
      rw [← hwf]
      refine hf'.mono ?_
      rintro e w1 ⟨rfl, hC1⟩
      have hTx := hTx w1 hC1
      have HC1 : Hid (Cx (E.at wf) w1 E.ws.length t) := hC1
      clear hf' hC1
      go_wp2_with fail
      refine hTx.mono ?_
      rintro e w2 ⟨rfl, k, rfl⟩
      have hC2 := HC1.out.drew k
      have hB : Flt (w1.drewN k) w.heap.size 0 0 := HFl.out.grown hC2.gr (fun e => by injection e with e; have : E.g = w.heap.size := e; omega)
      have f0 := hB.c0
      have f1 := hB.c1
      have g0 := hB.fz 0
      have g1 := hB.fz 1
      have HF2 : Hid (Flt (w1.drewN k) w.heap.size 0 0) := hB
      have HC2 : Hid (Cx (E.at wf) (w1.drewN k) E.ws.length t) := hC2
      clear hB hC2 hTx
      go_wp2
      have k2 := heap_setCell_same (w1.drewN k) w.heap.size 0 _ _ (.int .i64 0) HF2.out
      have k3 := heap_setCell_same _ w.heap.size 1 _ _ (.int .i64 0) k2
      have k4 : Flt (((w1.drewN k).setCell ⟨w.heap.size, 0, none⟩ (.int .i64 0)).setCell ⟨w.heap.size, 1, none⟩ (.int .i64 0)) w.heap.size 0 0 := k3
      have hg2 : (w1.drewN k).grownBy (((w1.drewN k).setCell ⟨w.heap.size, 0, none⟩ (.int .i64 0)).setCell ⟨w.heap.size, 1, none⟩ (.int .i64 0)) (some w.heap.size) := ⟨rfl, rfl, rfl, by simp, fun k hk hne => by
        have : k ≠ w.heap.size := fun e => hne (congrArg some e)
        rw [Below.heap_setCell _ _ _ _ this, Below.heap_setCell _ _ _ _ this]⟩
      have hCl : Cx E (w1.drewN k) E.ws.length t := HC2.out.low HV.out HB.out
      have hCe : Cx E (((w1.drewN k).setCell ⟨w.heap.size, 0, none⟩ (.int .i64 0)).setCell ⟨w.heap.size, 1, none⟩ (.int .i64 0)) E.ws.length t := by
        obtain ⟨v, hrr, hoo⟩ := HC2.out.rd
        refine ⟨hCl.env, ⟨hg2.os.trans hCl.gr.os, hg2.tape.trans hCl.gr.tape, hg2.output.trans hCl.gr.output, Nat.le_trans hCl.gr.size hg2.size, fun j hj hn => ?_⟩, hCl.ple, hCl.tle, v, ?_, owns_low (base := wf.heap.size) (owns_keep hoo fun j hj hk => ?_) (by rw [hw, hszf]; omega)⟩
        · rw [hg2.block j (Nat.lt_of_lt_of_le hj hCl.gr.size) (fun e => by injection e with e; rw [hw] at hj; omega)]; exact hCl.gr.block j hj hn
        · exact (hg2.block E.g hCl.lt (fun e => by injection e with e; omega)).trans hrr
        · have : wf.heap.size ≤ j := hj
          exact hg2.block j hk (fun e => by injection e with e; omega)
      refine leaves_cons (f := 64) (args := #[.pointer (some ⟨w.heap.size, 0, none⟩)]) (by simp) (by simp [go_sem]) ?_
      refine (Tryz.catch_i w.heap.size _).mono ?_
      rintro e u' w3 ⟨rfl, rfl, rfl⟩
      have f0 := k4.c0
      have f1 := k4.c1
      generalize ((w1.drewN k).setCell ⟨w.heap.size, 0, none⟩ (.int .i64 0)).setCell ⟨w.heap.size, 1, none⟩ (.int .i64 0) = W at *
      simp [Leaves, settle, results, Tryz.results48, go_sem, f0, f1]
      exact ⟨rfl, hCe⟩
    | cons u r' =>
      have hu : u.tx.toList ≠ [] := hne u (by have : u ∈ E.ws.drop (E.ws.length - (u :: r').length) := by rw [hr]; simp
                                              exact List.mem_of_mem_drop this)
      have hX : ((mkB (hdT (u :: r'))).toList == []) = false := by rw [mkB_toList]; simpa [hdT] using hu
      generalize mkB (hdT (u :: r')) = X at *
      clear hr hx hu hne
      go_enter_defers Tryz.func48, Tryz.ntmps48
      go_wp2_with fail
      rw [← hwf]
      refine hf'.mono ?_
      rintro e w1 ⟨rfl, hC1⟩
      have hTx := hTx w1 hC1
      have HC1 : Hid (Cx (E.at wf) w1 (E.ws.length - (u :: r').length) t) := hC1
      clear hf' hC1
      go_wp2_with fail
      refine hTx.mono ?_
      rintro e w2 ⟨rfl, k, rfl⟩
      have hC2 := HC1.out.drew k
      have hRf := hRf _ hC2
      have HC2 : Hid (Cx (E.at wf) (w1.drewN k) (E.ws.length - (u :: r').length) t) := hC2
      clear hC2 hTx
      go_wp2_with fail
      refine hRf.mono ?_
      rintro e w3 ⟨rfl, hB3⟩
      have HB3 : Hid (Below (w1.drewN k).heap.size (w1.drewN k) w3) := hB3
      clear hB3 hRf
      go_wp2
      have hC3 := HC2.out.up HB3.out
      have hB : Flt w3 w.heap.size 0 0 := HFl.out.grown hC3.gr (fun e => by injection e with e; have : E.g = w.heap.size := e; omega)
      refine leaves_cons (f := 64) (args := #[.pointer (some ⟨w.heap.size, 0, none⟩)]) (by simp) (by simp [go_sem]) ?_
      refine (Tryz.catch_p w.heap.size _ _ 150 (plc (E.at wf).fin (u :: r')) [] w3 hB).mono ?_
      rintro e u' w4 ⟨rfl, rfl, hF2, hg2⟩
      have f0 := hF2.c0
      have f1 := hF2.c1
      have hG : E.w0.grownBy w4 (some E.g) := by
        have h1 := (grown_of HB.out (some E.g)).trans hC3.gr
        exact ⟨hg2.os.trans h1.os, hg2.tape.trans h1.tape, hg2.output.trans h1.output, Nat.le_trans h1.size hg2.size, fun k hk hn => by
          rw [hg2.block k (Nat.lt_of_lt_of_le hk h1.size) (fun e => by injection e with e; rw [hw] at hk; omega)]; exact h1.block k hk hn⟩
      simp [Leaves, settle, results, Tryz.results48, go_sem, f0, f1]
      exact ⟨rfl, hG⟩

/-- What is answered once the words are read. -/
def ansR (want : Nat) : Except Er (List Tk5) → List Tk5 × Int × Int
  | .error (e, p) => ([], e, p)
  | .ok t => if lookE t want ≠ 0 then ([], (lookE t want : Int), -1) else (t, 0, 0)
def WholeP (E : Ev) (y : List Tk5 × Int × Int) (e : Ending) (w' : World) : Prop :=
  ∃ v, e = .returned (.tuple #[v, .agg #[.int .i64 y.2.1, .int .i64 y.2.2]]) ∧ w'.ownsRow E.w0.heap.size 41 2 v y.1.length (encT y.1) ∧ E.w0.grownBy w' (some E.g)
theorem Cx.toks {E : Ev} {n : Nat} {nt : NT} {ws r : List Wd} {t : List Tk5} (hV : Env E) (h : rd5 (nms E.ss) E.fin n nt ws = some (.ok (t, r))) : ∀ z ∈ t, z.1 < 256 ∧ z.2 < 256 :=
  rd5_bytes _ (by rw [nms_len, hV.nm.hlen]; have := hV.ns8; omega) _ _ _ _ t r h
/-- A variable that holds a fault is set. -/
theorem flt_set {w : World} {b : Nat} {x y : Int} (h : Flt w b x y) (er ea : Int) : Flt ((w.setCell ⟨b, 0, none⟩ (.int .i64 er)).setCell ⟨b, 1, none⟩ (.int .i64 ea)) b er ea ∧ w.grownBy ((w.setCell ⟨b, 0, none⟩ (.int .i64 er)).setCell ⟨b, 1, none⟩ (.int .i64 ea)) (some b) := by
  have k2 := heap_setCell_same w b 0 _ _ (.int .i64 er) h
  have k3 := heap_setCell_same _ b 1 _ _ (.int .i64 ea) k2
  refine ⟨k3, rfl, rfl, rfl, by simp, fun k hk hne => ?_⟩
  have : k ≠ b := fun e => hne (congrArg some e)
  rw [Below.heap_setCell _ _ _ _ this, Below.heap_setCell _ _ _ _ this]
/-- A block that came later does not matter. -/
theorem grown_new {w0 w1 w2 : World} {r : Option Nat} {b : Nat} (h : w0.grownBy w1 r) (h2 : w1.grownBy w2 (some b)) (hb : w0.heap.size ≤ b) : w0.grownBy w2 r :=
  ⟨h2.os.trans h.os, h2.tape.trans h.tape, h2.output.trans h.output, Nat.le_trans h.size h2.size, fun k hk hn => by
    rw [h2.block k (Nat.lt_of_lt_of_le hk h.size) (fun e => by injection e with e; omega)]; exact h.block k hk hn⟩
set_option maxRecDepth 100000 in
set_option maxHeartbeats 4000000 in
theorem Tryz.pwhole_any (E : Ev) (n : Nat) (nt : NT) (F : FuncId) (hE : Enters F) (hF : ∀ E', Cont E' n nt F) (C : FuncId) (want : Nat) (hEC : Enters C)
    (hK : ∀ a len cap ts w, TkSl w a len cap ts → Calls Tryz.prog C #[.slice a len cap] w fun e w' => e = .returned (.int .i64 (lookE ts want : Int)) ∧ Below w.heap.size w w')
    (hV : Env E) (hr : E.w0.heap[E.g]? = some (rowE E 0 (.slice none 0 0))) (hne : ∀ u ∈ E.ws, u.tx.toList ≠ [])
    (x : Except Er (List Tk5 × List Wd)) (hx : rd5 (nms E.ss) E.fin n nt E.ws = some x) :
    Calls Tryz.prog 36 #[.pointer (some ⟨E.g, 0, none⟩), fnV F E.g, .func (.func C) #[] #[]] E.w0 (WholeP E (ansR want (endR (some x)))) := by
  obtain ⟨w, hw⟩ : ∃ w, E.w0 = w := ⟨_, rfl⟩
  obtain ⟨wf, hwf⟩ : ∃ wf, wf = w.alloc (.cells #[.int .i64 0, .int .i64 0] 31) := ⟨_, rfl⟩
  have hbw : Below w.heap.size w wf := by rw [hwf]; exact below_new _ _
  have hFl : Flt wf w.heap.size 0 0 := by rw [hwf]; exact Flt.new _ _ _
  have hb0 : Below E.w0.heap.size E.w0 wf := by rw [hw]; exact hbw
  have hR := Tryz.prun_any (E.at wf) n nt F hE hF (hV.at hb0) ((hb0.block E.g hV.glt).trans hr) hne x hx
  have hR : Calls Tryz.prog 48 #[.pointer (some ⟨E.g, 0, none⟩), fnV F E.g] wf (RunP (E.at wf) (endR (some x))) := hR
  have HNO : Hid (∀ e1 e2, endR (some x) = .error (e1, e2) → e1 ≠ 0) := fun e1 e2 he => by
    cases x with
    | error er =>
      obtain ⟨a, b⟩ := er
      simp [endR] at he
      obtain ⟨rfl, rfl⟩ := he
      exact rd5_no _ _ _ _ _ a b hx
    | ok q =>
      obtain ⟨t, r⟩ := q
      cases r with
      | nil => simp [endR] at he
      | cons u r => simp [endR] at he; omega
  have HTK : Hid (∀ t, endR (some x) = .ok t → ∀ z ∈ t, z.1 < 256 ∧ z.2 < 256) := fun t he => by
    cases x with
    | error er => simp [endR] at he
    | ok q =>
      obtain ⟨t', r⟩ := q
      cases r with
      | nil => simp [endR] at he; subst he; exact Cx.toks hV hx
      | cons u r => simp [endR] at he
  have hlt : E.g < w.heap.size := by rw [← hw]; exact hV.glt
  have HB : Hid (Below E.w0.heap.size E.w0 wf) := hb0
  have HV : Hid (Env E) := hV
  have HFl : Hid (Flt wf w.heap.size 0 0) := hFl
  have hszf : wf.heap.size = w.heap.size + 1 := by rw [hwf]; simp
  rw [hw]
  unfold Enters at hEC
  clear hE hF hr hV hb0 hbw hFl hx hne
  generalize endR (some x) = y at *
  cases y with
  | error er =>
    obtain ⟨e1, e2⟩ := er
    have hz : ¬ (e1 = 0) := HNO.out e1 e2 rfl
    clear hK
    go_enter Tryz.func36, Tryz.ntmps36
    go_wp2_with fail
    rw [← hwf]
    refine hR.mono ?_
    rintro e w1 ⟨rfl, hg⟩
    have hB : Flt w1 w.heap.size 0 0 := HFl.out.grown hg (fun e => by injection e with e; have : E.g = w.heap.size := e; omega)
    have hsz1 : w.heap.size < w1.heap.size := by have := hg.size; have : wf.heap.size ≤ w1.heap.size := this; omega
    have hnq : ¬ (w.heap.size = w1.heap.size) := by omega
    have f0 := hB.c0
    have f1 := hB.c1
    have g0 := hB.fz 0
    have g1 := hB.fz 1
    have HF1 : Hid (Flt w1 w.heap.size 0 0) := hB
    have HG1 : Hid (wf.grownBy w1 (some E.g)) := hg
    clear hB hg hR
    go_wp2
    go_region
    all_goals
      go_wp2
      obtain ⟨k1, k2⟩ := flt_set HF1.out e1 e2
      have hG : E.w0.grownBy (((w1.setCell ⟨w.heap.size, 0, none⟩ (.int .i64 e1)).setCell ⟨w.heap.size, 1, none⟩ (.int .i64 e2)).alloc (.cells #[.int .i64 e1, .int .i64 e2] 31)).drew (some E.g) :=
        (grown_new ((grown_of HB.out _).trans HG1.out) k2 (by rw [hw]; omega)).trans (grown_of (below_drewN (below_new _ _) 1) _)
      have k3 := k1.up (below_new _ (.cells #[.int .i64 e1, .int .i64 e2] 31))
      have d0 := k3.c0
      have d1 := k3.c1
      refine bodyPost_ret (v := .tuple #[.slice none 0 0, .agg #[.int .i64 e1, .int .i64 e2]]) (by simp [results, Tryz.results36, go_sem, d0, d1]) rfl ?_
      exact ⟨_, rfl, owns_nil _ _ _ _, hG⟩
  | ok t =>
    have hok := HTK.out t rfl
    have hL := fun a cap w (h : TkSl w a t.length cap t) => hK a t.length cap t w h
    clear hK HNO HTK
    go_enter Tryz.func36, Tryz.ntmps36
    go_wp2_with fail
    rw [← hwf]
    refine hR.mono ?_
    rintro e w1 ⟨rfl, hC1⟩
    have hC1 : Cx (E.at wf) w1 E.ws.length t := hC1
    have hB : Flt w1 w.heap.size 0 0 := HFl.out.grown hC1.gr (fun e => by injection e with e; have : E.g = w.heap.size := e; omega)
    have hsz1 : w.heap.size < w1.heap.size := by have := hC1.gr.size; have : wf.heap.size ≤ w1.heap.size := this; omega
    have hnq : ¬ (w.heap.size = w1.heap.size) := by omega
    have hgl : E.g < w1.heap.size := hC1.lt
    have hnq2 : ¬ (E.g = w1.heap.size) := by omega
    obtain ⟨v, _, _, _, c3, hrd, ho, _⟩ := hC1.c
    obtain ⟨a, cap, rfl, hTk⟩ := own_tks ho hok
    have c3 : w1.cell? ⟨E.g, 3, none⟩ = some (.slice a t.length cap) := c3
    have HF1 : Hid (Flt w1 w.heap.size 0 0) := hB
    have HC1 : Hid (Cx (E.at wf) w1 E.ws.length t) := hC1
    have HO1 : Hid (w1.ownsRow wf.heap.size 41 2 (.slice a t.length cap) t.length (encT t)) := ho
    have HR1 : Hid (w1.heap[E.g]? = some (rowE E E.ws.length (.slice a t.length cap))) := hrd
    have hL1 := hL a cap _ (hTk.up (below_new w1 (.cells #[.int .i64 0, .int .i64 0] 31)))
    clear hB hC1 hrd ho hR hTk hL
    go_wp2_with fail
    refine hL1.mono ?_
    rintro e w2 ⟨rfl, hB2⟩
    have hb12 : Below w1.heap.size w1 w2 := below_step (below_new _ _) hB2
    have hF2 := HF1.out.up hb12
    have hsz2 := hb12.size
    have f0 := hF2.c0
    have f1 := hF2.c1
    have g0 := hF2.fz 0
    have g1 := hF2.fz 1
    have hr2 : w2.heap[E.g]? = _ := (hb12.block E.g hgl).trans HR1.out
    have c3' : w2.cell? ⟨E.g, 3, none⟩ = some (.slice a t.length cap) := cell_row hr2 3
    have HF2 : Hid (Flt w2 w.heap.size 0 0) := hF2
    have HG2 : Hid (E.w0.grownBy w2 (some E.g)) := ((grown_of HB.out _).trans HC1.out.gr).trans (grown_of hb12 _)
    have HO2 : Hid (w2.ownsRow wf.heap.size 41 2 (.slice a t.length cap) t.length (encT t)) := owns_keep HO1.out fun k _ hk => hb12.block k hk
    clear hF2 hb12 hB2 hL1 hr2 HR1 c3
    by_cases hz : lookE t want = 0
    · rw [hz]
      have HA : Hid (ansR want (.ok t) = (t, 0, 0)) := by show _ = _; simp [ansR, hz]
      go_wp2
      obtain ⟨k1, k2⟩ := flt_set HF2.out 0 0
      have hG := grown_new HG2.out k2 (by rw [hw]; omega)
      have d0 := k1.c0
      have d1 := k1.c1
      have hO := owns_low (owns_keep HO2.out fun k hb hk => k2.block k hk (fun e => by injection e with e; omega)) (base' := E.w0.heap.size) (by rw [hw]; omega)
      generalize (w2.setCell ⟨w.heap.size, 0, none⟩ (.int .i64 0)).setCell ⟨w.heap.size, 1, none⟩ (.int .i64 0) = W at *
      refine bodyPost_ret (v := .tuple #[.slice a t.length cap, .agg #[.int .i64 0, .int .i64 0]]) (by simp [results, Tryz.results36, go_sem, d0, d1]) rfl ?_
      rw [HA.out]
      exact ⟨_, rfl, hO, hG⟩
    · have HA : Hid (ansR want (.ok t) = ([], (lookE t want : Int), -1)) := by show _ = _; simp [ansR, hz]
      generalize lookE t want = L at *
      have hz' : ¬ ((L : Int) = 0) := by omega
      go_wp2
      obtain ⟨k1, k2⟩ := flt_set HF2.out L (-1)
      have hG := grown_new HG2.out k2 (by rw [hw]; omega)
      have d0 := k1.c0
      have d1 := k1.c1
      generalize (w2.setCell ⟨w.heap.size, 0, none⟩ (.int .i64 L)).setCell ⟨w.heap.size, 1, none⟩ (.int .i64 (-1)) = W at *
      refine bodyPost_ret (v := .tuple #[.slice none 0 0, .agg #[.int .i64 L, .int .i64 (-1)]]) (by simp [results, Tryz.results36, go_sem, d0, d1]) rfl ?_
      rw [HA.out]
      exact ⟨_, rfl, owns_nil _ _ _ _, hG⟩
end Go.Proofs.YtfipefbaabkdeaaGreatDoor
