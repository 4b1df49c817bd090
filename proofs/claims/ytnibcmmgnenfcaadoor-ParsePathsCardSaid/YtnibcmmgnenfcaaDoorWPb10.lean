/- Package parse: the whole of a text. -/
import Derived.Test.YtnibcmmgnenfcaaDoorWPb9
namespace Go.Proofs.YtnibcmmgnenfcaaDoor
open Go.RowKit Go.Maps

/-- What is answered once the words are read. -/
def ansR (want : Nat) : Except Er (List Tk5) → List Tk5 × Int × Int
  | .error (e, p) => ([], e, p)
  | .ok t => if lookE t want ≠ 0 then ([], (lookE t want : Int), -1) else (t, 0, 0)
def WholeP (E : Ev) (y : List Tk5 × Int × Int) (e : Ending) (w' : World) : Prop :=
  ∃ v, e = .returned (.tuple #[v, .agg #[.int .i64 y.2.1, .int .i64 y.2.2]]) ∧ w'.ownsRow E.w0.heap.size 42 2 v y.1.length (encT y.1) ∧ E.w0.grownBy w' (some E.g)
theorem Cx.toks {E : Ev} {n : Nat} {nt : NT} {ws r : List Wd} {t : List Tk5} (hV : Env E) (h : rd5 (nms E.ss) E.fin n nt ws = some (.ok (t, r))) : ∀ z ∈ t, z.1 < 256 ∧ z.2 < 256 :=
  rd5_bytes _ (by rw [nms_len, hV.nm.hlen]; have := hV.ns8; omega) _ _ _ _ t r h
/-- A variable that holds a fault is set. -/
theorem flt_set {w : World} {b : Nat} {x y : Int} (h : Flt w b x y) (er ea : Int) : Flt ((w.setCell ⟨b, 0, none⟩ (.int .i64 er)).setCell ⟨b, 1, none⟩ (.int .i64 ea)) b er ea ∧ w.grownBy ((w.setCell ⟨b, 0, none⟩ (.int .i64 er)).setCell ⟨b, 1, none⟩ (.int .i64 ea)) (some b) := by
  have k2 := heap_setCell_same w b 0 _ _ (.int .i64 er) h
  have k3 := heap_setCell_same _ b 1 _ _ (.int .i64 ea) k2
  refine ⟨k3, rfl, rfl, rfl, by simp, fun k hk hne => ?_⟩
  have : k ≠ b := fun e => hne (congrArg some e)
  rw [Below.heap_setCell _ _ _ _ this, Below.heap_setCell _ _ _ _ this]
/-- A block that came later does not matter. -/
theorem grown_new {w0 w1 w2 : World} {r : Option Nat} {b : Nat} (h : w0.grownBy w1 r) (h2 : w1.grownBy w2 (some b)) (hb : w0.heap.size ≤ b) : w0.grownBy w2 r :=
  ⟨h2.os.trans h.os, h2.tape.trans h.tape, h2.output.trans h.output, Nat.le_trans h.size h2.size, fun k hk hn => by
    rw [h2.block k (Nat.lt_of_lt_of_le hk h.size) (fun e => by injection e with e; omega)]; exact h.block k hk hn⟩
set_option maxRecDepth 100000 in
set_option maxHeartbeats 4000000 in
theorem Tryd.pwhole_any (E : Ev) (n : Nat) (nt : NT) (F : FuncId) (hE : Enters F) (hF : ∀ E', Cont E' n nt F) (C : FuncId) (want : Nat) (hEC : Enters C)
    (hK : ∀ a len cap ts w, TkSl w a len cap ts → Calls Tryd.prog C #[.slice a len cap] w fun e w' => e = .returned (.int .i64 (lookE ts want : Int)) ∧ Below w.heap.size w w')
    (hV : Env E) (hr : E.w0.heap[E.g]? = some (rowE E 0 (.slice none 0 0))) (hne : ∀ u ∈ E.ws, u.tx.toList ≠ [])
    (x : Except Er (List Tk5 × List Wd)) (hx : rd5 (nms E.ss) E.fin n nt E.ws = some x) :
    Calls Tryd.prog 18 #[.pointer (some ⟨E.g, 0, none⟩), fnV F E.g, .func (.func C) #[] #[]] E.w0 (WholeP E (ansR want (endR (some x)))) := by
  obtain ⟨w, hw⟩ : ∃ w, E.w0 = w := ⟨_, rfl⟩
  obtain ⟨wf, hwf⟩ : ∃ wf, wf = w.alloc (.cells #[.int .i64 0, .int .i64 0] 26) := ⟨_, rfl⟩
  have hbw : Below w.heap.size w wf := by rw [hwf]; exact below_new _ _
  have hFl : Flt wf w.heap.size 0 0 := by rw [hwf]; exact Flt.new _ _ _
  have hb0 : Below E.w0.heap.size E.w0 wf := by rw [hw]; exact hbw
  have hR := Tryd.prun_any (E.at wf) n nt F hE hF (hV.at hb0) ((hb0.block E.g hV.glt).trans hr) hne x hx
  have hR : Calls Tryd.prog 27 #[.pointer (some ⟨E.g, 0, none⟩), fnV F E.g] wf (RunP (E.at wf) (endR (some x))) := hR
  have HNO : Hid (∀ e1 e2, endR (some x) = .error (e1, e2) → e1 ≠ 0) := fun e1 e2 he => by
    cases x with
    | error er =>
      obtain ⟨a, b⟩ := er
      simp [endR] at he
      obtain ⟨rfl, rfl⟩ := he
      exact rd5_no _ _ _ _ _ a b hx
    | ok q =>
      obtain ⟨t, r⟩ := q
      cases r with
      | nil => simp [endR] at he
      | cons u r => simp [endR] at he; omega
  have HTK : Hid (∀ t, endR (some x) = .ok t → ∀ z ∈ t, z.1 < 256 ∧ z.2 < 256) := fun t he => by
    cases x with
    | error er => simp [endR] at he
    | ok q =>
      obtain ⟨t', r⟩ := q
      cases r with
      | nil => simp [endR] at he; subst he; exact Cx.toks hV hx
      | cons u r => simp [endR] at he
  have hlt : E.g < w.heap.size := by rw [← hw]; exact hV.glt
  have HB : Hid (Below E.w0.heap.size E.w0 wf) := hb0
  have HV : Hid (Env E) := hV
  have HFl : Hid (Flt wf w.heap.size 0 0) := hFl
  have hszf : wf.heap.size = w.heap.size + 1 := by rw [hwf]; simp
  rw [hw]
  unfold Enters at hEC
  clear hE hF hr hV hb0 hbw hFl hx hne
  generalize endR (some x) = y at *
  cases y with
  | error er =>
    obtain ⟨e1, e2⟩ := er
    have hz : ¬ (e1 = 0) := HNO.out e1 e2 rfl
    clear hK
    go_enter Tryd.func18, Tryd.ntmps18
    go_wp2_with fail
    rw [← hwf]
    refine hR.mono ?_
    rintro e w1 ⟨rfl, hg⟩
    have hB : Flt w1 w.heap.size 0 0 := HFl.out.grown hg (fun e => by injection e with e; have : E.g = w.heap.size := e; omega)
    have hsz1 : w.heap.size < w1.heap.size := by have := hg.size; have : wf.heap.size ≤ w1.heap.size := this; omega
    have hnq : ¬ (w.heap.size = w1.heap.size) := by omega
    have f0 := hB.c0
    have f1 := hB.c1
    have g0 := hB.fz 0
    have g1 := hB.fz 1
    have HF1 : Hid (Flt w1 w.heap.size 0 0) := hB
    have HG1 : Hid (wf.grownBy w1 (some E.g)) := hg
    clear hB hg hR
    go_wp2
    go_region
    all_goals
      go_wp2
      obtain ⟨k1, k2⟩ := flt_set HF1.out e1 e2
      have hG : E.w0.grownBy (((w1.setCell ⟨w.heap.size, 0, none⟩ (.int .i64 e1)).setCell ⟨w.heap.size, 1, none⟩ (.int .i64 e2)).alloc (.cells #[.int .i64 e1, .int .i64 e2] 26)).drew (some E.g) :=
        (grown_new ((grown_of HB.out _).trans HG1.out) k2 (by rw [hw]; omega)).trans (grown_of (below_drewN (below_new _ _) 1) _)
      have k3 := k1.up (below_new _ (.cells #[.int .i64 e1, .int .i64 e2] 26))
      have d0 := k3.c0
      have d1 := k3.c1
      refine bodyPost_ret (v := .tuple #[.slice none 0 0, .agg #[.int .i64 e1, .int .i64 e2]]) (by simp [results, Tryd.results18, go_sem, d0, d1]) rfl ?_
      exact ⟨_, rfl, owns_nil _ _ _ _, hG⟩
  | ok t =>
    have hok := HTK.out t rfl
    have hL := fun a cap w (h : TkSl w a t.length cap t) => hK a t.length cap t w h
    clear hK HNO HTK
    go_enter Tryd.func18, Tryd.ntmps18
    go_wp2_with fail
    rw [← hwf]
    refine hR.mono ?_
    rintro e w1 ⟨rfl, hC1⟩
    have hC1 : Cx (E.at wf) w1 E.ws.length t := hC1
    have hB : Flt w1 w.heap.size 0 0 := HFl.out.grown hC1.gr (fun e => by injection e with e; have : E.g = w.heap.size := e; omega)
    have hsz1 : w.heap.size < w1.heap.size := by have := hC1.gr.size; have : wf.heap.size ≤ w1.heap.size := this; omega
    have hnq : ¬ (w.heap.size = w1.heap.size) := by omega
    have hgl : E.g < w1.heap.size := hC1.lt
    have hnq2 : ¬ (E.g = w1.heap.size) := by omega
    obtain ⟨v, _, _, _, c3, hrd, ho, _⟩ := hC1.c
    obtain ⟨a, cap, rfl, hTk⟩ := own_tks ho hok
    have c3 : w1.cell? ⟨E.g, 3, none⟩ = some (.slice a t.length cap) := c3
    have HF1 : Hid (Flt w1 w.heap.size 0 0) := hB
    have HC1 : Hid (Cx (E.at wf) w1 E.ws.length t) := hC1
    have HO1 : Hid (w1.ownsRow wf.heap.size 42 2 (.slice a t.length cap) t.length (encT t)) := ho
    have HR1 : Hid (w1.heap[E.g]? = some (rowE E E.ws.length (.slice a t.length cap))) := hrd
    have hL1 := hL a cap _ (hTk.up (below_new w1 (.cells #[.int .i64 0, .int .i64 0] 26)))
    clear hB hC1 hrd ho hR hTk hL
    go_wp2_with fail
    refine hL1.mono ?_
    rintro e w2 ⟨rfl, hB2⟩
    have hb12 : Below w1.heap.size w1 w2 := below_step (below_new _ _) hB2
    have hF2 := HF1.out.up hb12
    have hsz2 := hb12.size
    have f0 := hF2.c0
    have f1 := hF2.c1
    have g0 := hF2.fz 0
    have g1 := hF2.fz 1
    have hr2 : w2.heap[E.g]? = _ := (hb12.block E.g hgl).trans HR1.out
    have c3' : w2.cell? ⟨E.g, 3, none⟩ = some (.slice a t.length cap) := cell_row hr2 3
    have HF2 : Hid (Flt w2 w.heap.size 0 0) := hF2
    have HG2 : Hid (E.w0.grownBy w2 (some E.g)) := ((grown_of HB.out _).trans HC1.out.gr).trans (grown_of hb12 _)
    have HO2 : Hid (w2.ownsRow wf.heap.size 42 2 (.slice a t.length cap) t.length (encT t)) := owns_keep HO1.out fun k _ hk => hb12.block k hk
    clear hF2 hb12 hB2 hL1 hr2 HR1 c3
    by_cases hz : lookE t want = 0
    · rw [hz]
      have HA : Hid (ansR want (.ok t) = (t, 0, 0)) := by show _ = _; simp [ansR, hz]
      go_wp2
      obtain ⟨k1, k2⟩ := flt_set HF2.out 0 0
      have hG := grown_new HG2.out k2 (by rw [hw]; omega)
      have d0 := k1.c0
      have d1 := k1.c1
      have hO := owns_low (owns_keep HO2.out fun k hb hk => k2.block k hk (fun e => by injection e with e; omega)) (base' := E.w0.heap.size) (by rw [hw]; omega)
      generalize (w2.setCell ⟨w.heap.size, 0, none⟩ (.int .i64 0)).setCell ⟨w.heap.size, 1, none⟩ (.int .i64 0) = W at *
      refine bodyPost_ret (v := .tuple #[.slice a t.length cap, .agg #[.int .i64 0, .int .i64 0]]) (by simp [results, Tryd.results18, go_sem, d0, d1]) rfl ?_
      rw [HA.out]
      exact ⟨_, rfl, hO, hG⟩
    · have HA : Hid (ansR want (.ok t) = ([], (lookE t want : Int), -1)) := by show _ = _; simp [ansR, hz]
      generalize lookE t want = L at *
      have hz' : ¬ ((L : Int) = 0) := by omega
      go_wp2
      obtain ⟨k1, k2⟩ := flt_set HF2.out L (-1)
      have hG := grown_new HG2.out k2 (by rw [hw]; omega)
      have d0 := k1.c0
      have d1 := k1.c1
      generalize (w2.setCell ⟨w.heap.size, 0, none⟩ (.int .i64 L)).setCell ⟨w.heap.size, 1, none⟩ (.int .i64 (-1)) = W at *
      refine bodyPost_ret (v := .tuple #[.slice none 0 0, .agg #[.int .i64 L, .int .i64 (-1)]]) (by simp [results, Tryd.results18, go_sem, d0, d1]) rfl ?_
      rw [HA.out]
      exact ⟨_, rfl, owns_nil _ _ _ _, hG⟩
end Go.Proofs.YtnibcmmgnenfcaaDoor
