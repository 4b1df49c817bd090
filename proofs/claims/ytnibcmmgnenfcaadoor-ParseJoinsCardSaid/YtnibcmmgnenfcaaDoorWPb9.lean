/- Package parse: a line behind which the words must end. -/
import Derived.Test.YtnibcmmgnenfcaaDoorWPb8
namespace Go.Proofs.YtnibcmmgnenfcaaDoor
open Go.RowKit Go.Maps

/-- The same reader, from a later world on. -/
def Ev.at (E : Ev) (w : World) : Ev := { E with w0 := w }
theorem Env.at {E : Ev} (h : Env E) {w : World} (hb : Below E.w0.heap.size E.w0 w) : Env (E.at w) :=
  ⟨h.wd.up hb, h.nm.up hb, h.wne, h.nne, h.few, h.fin, h.ns8, Nat.lt_of_lt_of_le h.glt hb.size⟩
theorem owns_low {w : World} {base base' e size n : Nat} {v : Value} {xs : List Value} (h : w.ownsRow base e size v n xs) (hb : base' ≤ base) : w.ownsRow base' e size v n xs := by
  obtain ⟨hl, h⟩ := h
  refine ⟨hl, ?_⟩
  rcases h with h | ⟨k, cap, cur, rfl, hk, r⟩
  · exact Or.inl h
  · exact Or.inr ⟨k, cap, cur, rfl, Nat.le_trans hb hk, r⟩
theorem Cx.low {E : Ev} {w1 w : World} {p : Nat} {T : List Tk5} (h : Cx (E.at w1) w p T) (hV : Env E) (hb : Below E.w0.heap.size E.w0 w1) : Cx E w p T := by
  obtain ⟨v, hr, ho⟩ := h.rd
  exact ⟨hV, (grown_of hb _).trans h.gr, h.ple, h.tle, v, hr, owns_low ho hb.size⟩
theorem owns_nil (w : World) (base e size : Nat) : w.ownsRow base e size (.slice none 0 0) 0 [] := ⟨by simp, Or.inl ⟨rfl, rfl⟩⟩
theorem Env.start {E : Ev} (h : Env E) (hr : E.w0.heap[E.g]? = some (rowE E 0 (.slice none 0 0))) : Cx E E.w0 0 [] :=
  ⟨h, World.grownBy.refl _ _, Nat.zero_le _, Nat.zero_le _, _, hr, owns_nil _ _ _ _⟩
/-- What a line behind which the words must end answers. -/
def RunP (E : Ev) (y : Except Er (List Tk5)) (e : Ending) (w' : World) : Prop :=
  match y with
  | .ok t => e = .returned (.agg #[.int .i64 0, .int .i64 0]) ∧ Cx E w' E.ws.length t
  | .error (er, ea) => e = .returned (.agg #[.int .i64 er, .int .i64 ea]) ∧ E.w0.grownBy w' (some E.g)
set_option maxRecDepth 100000 in
set_option maxHeartbeats 4000000 in
theorem Tryd.prun_any (E : Ev) (n : Nat) (nt : NT) (F : FuncId) (hE : Enters F) (hF : ∀ E', Cont E' n nt F) (hV : Env E) (hr : E.w0.heap[E.g]? = some (rowE E 0 (.slice none 0 0))) (hne : ∀ u ∈ E.ws, u.tx.toList ≠ [])
    (x : Except Er (List Tk5 × List Wd)) (hx : rd5 (nms E.ss) E.fin n nt E.ws = some x) :
    Calls Tryd.prog 27 #[.pointer (some ⟨E.g, 0, none⟩), fnV F E.g] E.w0 (RunP E (endR (some x))) := by
  obtain ⟨w, hw⟩ : ∃ w, E.w0 = w := ⟨_, rfl⟩
  obtain ⟨wf, hwf⟩ : ∃ wf, wf = w.alloc (.cells #[.int .i64 0, .int .i64 0] 26) := ⟨_, rfl⟩
  have hbw : Below w.heap.size w wf := by rw [hwf]; exact below_new _ _
  have hFl : Flt wf w.heap.size 0 0 := by rw [hwf]; exact Flt.new _ _ _
  have hb0 : Below E.w0.heap.size E.w0 wf := by rw [hw]; exact hbw
  have hC : Cx (E.at wf) wf 0 [] := (hV.at hb0).start ((hb0.block E.g hV.glt).trans hr)
  have hf := hF (E.at wf) 0 [] wf x hC (by rw [List.drop_zero]; exact hx)
  have hmf := mkfn
  have hlt : E.g < w.heap.size := by rw [← hw]; exact hV.glt
  have HB : Hid (Below E.w0.heap.size E.w0 wf) := hb0
  have HV : Hid (Env E) := hV
  have HFl : Hid (Flt wf w.heap.size 0 0) := hFl
  have hszf : wf.heap.size = w.heap.size + 1 := by rw [hwf]; simp
  rw [hw]
  unfold Enters at hE
  clear hC hF hr hV hb0 hbw hFl
  cases x with
  | error er =>
    obtain ⟨e1, e2⟩ := er
    go_enter_defers Tryd.func27, Tryd.ntmps27
    go_wp2_with fail
    rw [← hwf]
    refine hf.mono ?_
    rintro e w1 ⟨rfl, hg⟩
    have hB : Flt w1 w.heap.size 0 0 := HFl.out.grown hg (fun e => by injection e with e; have : E.g = w.heap.size := e; omega)
    refine leaves_cons (f := 45) (args := #[.pointer (some ⟨w.heap.size, 0, none⟩)]) (by simp) (by simp [go_sem]) ?_
    refine (Tryd.catch_p w.heap.size _ _ e1 e2 [] w1 hB).mono ?_
    rintro e u' w2 ⟨rfl, rfl, hF2, hg2⟩
    have f0 := hF2.c0
    have f1 := hF2.c1
    have hG : E.w0.grownBy w2 (some E.g) := by
      have h1 := (grown_of HB.out (some E.g)).trans hg
      exact ⟨hg2.os.trans h1.os, hg2.tape.trans h1.tape, hg2.output.trans h1.output, Nat.le_trans h1.size hg2.size, fun k hk hn => by
        rw [hg2.block k (Nat.lt_of_lt_of_le hk h1.size) (fun e => by injection e with e; rw [hw] at hk; omega)]; exact h1.block k hk hn⟩
    simp [Leaves, settle, results, Tryd.results27, go_sem, f0, f1]
    exact ⟨rfl, hG⟩
  | ok q =>
    obtain ⟨t, r⟩ := q
    obtain ⟨hr, h1, h2, h3⟩ := rest_of (ws := E.ws) (p := 0) (by omega) (by rw [List.drop_zero]; exact hx)
    have hTx := fun w' (hC : Cx (E.at wf) w' (E.ws.length - r.length) t) => Tryd.ptext_any (E.at wf) _ t w' hC
    have hRf := fun w' (hC : Cx (E.at wf) w' (E.ws.length - r.length) t) => Tryd.prefuse_any (E.at wf) _ t 150 w' hC
    have hr' : (E.at wf).ws.drop (E.ws.length - r.length) = r := hr
    rw [hr'] at hTx hRf
    have hf' : Calls Tryd.prog F #[.pointer (some ⟨E.g, 0, none⟩)] wf (fun e w' => e = .returned (.tuple #[]) ∧ Cx (E.at wf) w' (E.ws.length - r.length) t) := hf
    clear hf hr'
    cases r with
    | nil =>
      have hX : ((mkB (hdT [])).toList == []) = true := by rw [mkB_toList]; rfl
      clear hRf hr hx
      go_enter_defers Tryd.func27, Tryd.ntmps27
      go_wp2_with fail
      rw [← hwf]
      refine hf'.mono ?_
      rintro e w1 ⟨rfl, hC1⟩
      have hTx := hTx w1 hC1
      have HC1 : Hid (Cx (E.at wf) w1 E.ws.length t) := hC1
      clear hf' hC1
      go_wp2_with fail
      refine hTx.mono ?_
      rintro e w2 ⟨rfl, k, rfl⟩
      have hC2 := HC1.out.drew k
      have hB : Flt (w1.drewN k) w.heap.size 0 0 := HFl.out.grown hC2.gr (fun e => by injection e with e; have : E.g = w.heap.size := e; omega)
      have f0 := hB.c0
      have f1 := hB.c1
      have g0 := hB.fz 0
      have g1 := hB.fz 1
      have HF2 : Hid (Flt (w1.drewN k) w.heap.size 0 0) := hB
      have HC2 : Hid (Cx (E.at wf) (w1.drewN k) E.ws.length t) := hC2
      clear hB hC2 hTx
      go_wp2
      have k2 := heap_setCell_same (w1.drewN k) w.heap.size 0 _ _ (.int .i64 0) HF2.out
      have k3 := heap_setCell_same _ w.heap.size 1 _ _ (.int .i64 0) k2
      have k4 : Flt (((w1.drewN k).setCell ⟨w.heap.size, 0, none⟩ (.int .i64 0)).setCell ⟨w.heap.size, 1, none⟩ (.int .i64 0)) w.heap.size 0 0 := k3
      have hg2 : (w1.drewN k).grownBy (((w1.drewN k).setCell ⟨w.heap.size, 0, none⟩ (.int .i64 0)).setCell ⟨w.heap.size, 1, none⟩ (.int .i64 0)) (some w.heap.size) := ⟨rfl, rfl, rfl, by simp, fun k hk hne => by
        have : k ≠ w.heap.size := fun e => hne (congrArg some e)
        rw [Below.heap_setCell _ _ _ _ this, Below.heap_setCell _ _ _ _ this]⟩
      have hCl : Cx E (w1.drewN k) E.ws.length t := HC2.out.low HV.out HB.out
      have hCe : Cx E (((w1.drewN k).setCell ⟨w.heap.size, 0, none⟩ (.int .i64 0)).setCell ⟨w.heap.size, 1, none⟩ (.int .i64 0)) E.ws.length t := by
        obtain ⟨v, hrr, hoo⟩ := HC2.out.rd
        refine ⟨hCl.env, ⟨hg2.os.trans hCl.gr.os, hg2.tape.trans hCl.gr.tape, hg2.output.trans hCl.gr.output, Nat.le_trans hCl.gr.size hg2.size, fun j hj hn => ?_⟩, hCl.ple, hCl.tle, v, ?_, owns_low (base := wf.heap.size) (owns_keep hoo fun j hj hk => ?_) (by rw [hw, hszf]; omega)⟩
        · rw [hg2.block j (Nat.lt_of_lt_of_le hj hCl.gr.size) (fun e => by injection e with e; rw [hw] at hj; omega)]; exact hCl.gr.block j hj hn
        · exact (hg2.block E.g hCl.lt (fun e => by injection e with e; omega)).trans hrr
        · have : wf.heap.size ≤ j := hj
          exact hg2.block j hk (fun e => by injection e with e; omega)
      refine leaves_cons (f := 45) (args := #[.pointer (some ⟨w.heap.size, 0, none⟩)]) (by simp) (by simp [go_sem]) ?_
      refine (Tryd.catch_i w.heap.size _).mono ?_
      rintro e u' w3 ⟨rfl, rfl, rfl⟩
      have f0 := k4.c0
      have f1 := k4.c1
      generalize ((w1.drewN k).setCell ⟨w.heap.size, 0, none⟩ (.int .i64 0)).setCell ⟨w.heap.size, 1, none⟩ (.int .i64 0) = W at *
      simp [Leaves, settle, results, Tryd.results27, go_sem, f0, f1]
      exact ⟨rfl, hCe⟩
    | cons u r' =>
      have hu : u.tx.toList ≠ [] := hne u (by have : u ∈ E.ws.drop (E.ws.length - (u :: r').length) := by rw [hr]; simp
                                              exact List.mem_of_mem_drop this)
      have hX : ((mkB (hdT (u :: r'))).toList == []) = false := by rw [mkB_toList]; simpa [hdT] using hu
      generalize mkB (hdT (u :: r')) = X at *
      clear hr hx hu hne
      go_enter_defers Tryd.func27, Tryd.ntmps27
      go_wp2_with fail
      rw [← hwf]
      refine hf'.mono ?_
      rintro e w1 ⟨rfl, hC1⟩
      have hTx := hTx w1 hC1
      have HC1 : Hid (Cx (E.at wf) w1 (E.ws.length - (u :: r').length) t) := hC1
      clear hf' hC1
      go_wp2_with fail
      refine hTx.mono ?_
      rintro e w2 ⟨rfl, k, rfl⟩
      have hC2 := HC1.out.drew k
      have hRf := hRf _ hC2
      have HC2 : Hid (Cx (E.at wf) (w1.drewN k) (E.ws.length - (u :: r').length) t) := hC2
      clear hC2 hTx
      go_wp2_with fail
      refine hRf.mono ?_
      rintro e w3 ⟨rfl, hB3⟩
      have HB3 : Hid (Below (w1.drewN k).heap.size (w1.drewN k) w3) := hB3
      clear hB3 hRf
      go_wp2
      have hC3 := HC2.out.up HB3.out
      have hB : Flt w3 w.heap.size 0 0 := HFl.out.grown hC3.gr (fun e => by injection e with e; have : E.g = w.heap.size := e; omega)
      refine leaves_cons (f := 45) (args := #[.pointer (some ⟨w.heap.size, 0, none⟩)]) (by simp) (by simp [go_sem]) ?_
      refine (Tryd.catch_p w.heap.size _ _ 150 (plc (E.at wf).fin (u :: r')) [] w3 hB).mono ?_
      rintro e u' w4 ⟨rfl, rfl, hF2, hg2⟩
      have f0 := hF2.c0
      have f1 := hF2.c1
      have hG : E.w0.grownBy w4 (some E.g) := by
        have h1 := (grown_of HB.out (some E.g)).trans hC3.gr
        exact ⟨hg2.os.trans h1.os, hg2.tape.trans h1.tape, hg2.output.trans h1.output, Nat.le_trans h1.size hg2.size, fun k hk hn => by
          rw [hg2.block k (Nat.lt_of_lt_of_le hk h1.size) (fun e => by injection e with e; rw [hw] at hk; omega)]; exact h1.block k hk hn⟩
      simp [Leaves, settle, results, Tryd.results27, go_sem, f0, f1]
      exact ⟨rfl, hG⟩
end Go.Proofs.YtnibcmmgnenfcaaDoor
