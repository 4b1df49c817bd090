/- Package guard: mark, and what takes out again what was made. -/
import Derived.Test.YtmnkkknkmbldhaaWGs1
import Derived.Deep.RegionLaw
import Derived.Deep.DeepCutAuto
namespace Go.Proofs.Ytmnkkknkmbldhaa
open Go.RowKit Go.Maps

theorem sizeOf_runNG {P : Program} {e : TypeId} {s : Nat} (h : (P.info? e).map (·.size) = some s) (w : World) : (sizeOf e).run P w = .ok s w := by
  cases hq : P.info? e with
  | none => simp [hq] at h
  | some i => simp [hq] at h; simp [sizeOf, typeInfo, hq, h]
/-- A list from lo on. -/
theorem cut_nG {P : Program} {T e : TypeId} {s : Nat} (hu : P.underlying T = some (.slice e)) (hs : (P.info? e).map (·.size) = some s) (a : Option Addr) (n cap lo : Nat) (hl : lo ≤ n) (hc : n ≤ cap) (hn : a = none → cap = 0) :
    ∃ a', (∀ w, (Instr.sliceAt T (.slice a n cap) (some (.int .i64 (lo : Int))) none none).run P w = .ok (.slice a' (n - lo) (cap - lo)) w) ∧ (a' = none → cap - lo = 0) ∧ (lo < n → ∀ x, a = some x → a' = some (x.add (lo * s))) := by
  cases a with
  | none =>
    have := hn rfl
    subst this
    obtain rfl : n = 0 := by omega
    obtain rfl : lo = 0 := by omega
    exact ⟨none, fun w => by simp [Instr.sliceAt, Instr.slice, run_underlying hu, sizeOf_runNG hs, go_sem], fun _ => rfl, fun hk => absurd hk (by omega)⟩
  | some x =>
    by_cases hz : cap = lo
    · refine ⟨some x, fun w => ?_, (fun h => by cases h), fun hk => absurd hk (by omega)⟩
      have hz2 : cap - lo = 0 := by omega
      simp [Instr.sliceAt, Instr.slice, run_underlying hu, sizeOf_runNG hs, go_sem, hl, hz2]
      exact fun h => absurd hz h
    · refine ⟨some (x.add (lo * s)), fun w => ?_, (fun h => by cases h), fun _ y hy => by injection hy with hy; rw [hy]⟩
      simp [Instr.sliceAt, Instr.slice, run_underlying hu, sizeOf_runNG hs, go_sem, hl]
      exact fun h => absurd h hz
/-- A list up to m. -/
theorem pre_nG {P : Program} {T e : TypeId} {s : Nat} (hu : P.underlying T = some (.slice e)) (hs : (P.info? e).map (·.size) = some s) (a : Option Addr) (n cap m : Nat) (hl : m ≤ n) (hc : n ≤ cap) (hn : a = none → cap = 0) (w : World) :
    (Instr.sliceAt T (.slice a n cap) none (some (.int .i64 (m : Int))) none).run P w = .ok (.slice a m cap) w := by
  cases a with
  | none =>
    have := hn rfl
    subst this
    obtain rfl : n = 0 := by omega
    obtain rfl : m = 0 := by omega
    simp [Instr.sliceAt, Instr.slice, run_underlying hu, sizeOf_runNG hs, go_sem]
  | some x =>
    have hmc : m ≤ cap := by omega
    simp [Instr.sliceAt, Instr.slice, run_underlying hu, sizeOf_runNG hs, go_sem, hmc]
/-- A row of the call's own, up to m. -/
theorem own_preG {w : World} {base e size n m : Nat} {v : Value} {xs : List Value} (h : w.ownsRow base e size v n xs) (hm : m ≤ n) :
    ∃ a cap, v = .slice a n cap ∧ n ≤ cap ∧ cap ≤ maxLen ∧ (a = none → cap = 0) ∧ w.ownsRow base e size (.slice a m cap) m (xs.take (m * size)) ∧ (Value.slice a m cap).ownBlock = v.ownBlock := by
  obtain ⟨hl, h⟩ := h
  have hms : m * size ≤ n * size := Nat.mul_le_mul_right _ hm
  rcases h with ⟨rfl, rfl⟩ | ⟨g, cap, cur, rfl, hg, hcell, hnc, hcm, hsz, htk⟩
  · obtain rfl : m = 0 := by omega
    exact ⟨none, 0, rfl, Nat.le_refl _, Nat.zero_le _, fun _ => rfl, ⟨by simp, Or.inl ⟨rfl, rfl⟩⟩, rfl⟩
  · refine ⟨some ⟨g, 0, none⟩, cap, rfl, hnc, hcm, fun h => (by cases h), ⟨by simp; omega, Or.inr ⟨g, cap, cur, rfl, hg, hcell, by omega, hcm, hsz, ?_⟩⟩, rfl⟩
    rw [← htk, List.take_take, Nat.min_eq_left hms]

theorem encG_take (l : List Gd) (n : Nat) : (encG l).take (n * 3) = encG (l.take n) := by
  by_cases h : n ≤ l.length
  · have e : encG l = encG (l.take n) ++ encG (l.drop n) := by rw [← encG_append, List.take_append_drop]
    have hl : (encG (l.take n)).length = n * 3 := by rw [encG_len, List.length_take, Nat.min_eq_left h]
    rw [e, ← hl, List.take_left]
  · rw [List.take_of_length_le (by rw [encG_len]; omega), List.take_of_length_le (by omega)]
/-- What mark answers. -/
def MkR (g m : Nat) (w : World) (e : Ending) (w' : World) : Prop := ∃ bx bn, e = .returned (.func (.func 44) #[] #[.pointer (some ⟨bx, 0, none⟩), .pointer (some ⟨bn, 0, none⟩)]) ∧ Below w.heap.size w w' ∧ w.heap.size ≤ bx ∧ w.heap.size ≤ bn ∧
  w'.heap[bx]? = some (.cells #[.pointer (some ⟨g, 0, none⟩)] 23 (0, 0)) ∧ w'.heap[bn]? = some (.cells #[.int .i64 (m : Int)] 3 (0, 0))
set_option maxHeartbeats 800000 in
theorem Try.gmark_any {w : World} {F : Nat → Prop} {g n : Nat} {N : List Gd} (h : StG w F g n N) : Calls Try.prog 30 #[.pointer (some ⟨g, 0, none⟩)] w (MkR g N.length w) := by
  obtain ⟨a, cap, mb, hr, _⟩ := h.read
  have hb1 := below_new w (.cells #[.pointer (some ⟨g, 0, none⟩)] 23 (0, 0))
  have c2 := (hr.up hb1).c2
  have e1 := (MapKept.heap_alloc w (.cells #[.pointer (some ⟨g, 0, none⟩)] 23 (0, 0))).1
  have cb := cell_row e1 0
  simp only [List.getElem?_toArray, List.getElem?_cons_zero] at cb
  have HE : Hid (MkR g N.length w (.returned (.func (.func 44) #[] #[.pointer (some ⟨w.heap.size, 0, none⟩), .pointer (some ⟨w.heap.size + 1, 0, none⟩)])) ((w.alloc (.cells #[.pointer (some ⟨g, 0, none⟩)] 23 (0, 0))).alloc (.cells #[.int .i64 (N.length : Int)] 3 (0, 0)))) := by
    have hb2 := below_new (w.alloc (.cells #[.pointer (some ⟨g, 0, none⟩)] 23 (0, 0))) (.cells #[.int .i64 (N.length : Int)] 3 (0, 0))
    refine ⟨_, _, rfl, below_step hb1 hb2, Nat.le_refl _, Nat.le_succ _, (hb2.block _ (by simp)).trans e1, ?_⟩
    have := (MapKept.heap_alloc (w.alloc (.cells #[.pointer (some ⟨g, 0, none⟩)] 23 (0, 0))) (.cells #[.int .i64 (N.length : Int)] 3 (0, 0))).1
    simpa using this
  generalize MkR g N.length w = Q at *
  clear h hr hb1 e1
  go_enter Try.func30, Try.ntmps30
  go_wp2
  exact HE.out
/-- The nodes from m on, as a list. -/
theorem nd_cut {w : World} {a : Option Addr} {n cap m : Nat} {N : List Gd} (h : w.ownsRow 0 44 3 (.slice a n cap) n (encG N)) (hl : N.length = n) (hm : m ≤ n) :
    ∃ a', (∀ w', (Instr.sliceAt 38 (.slice a n cap) (some (.int .i64 (m : Int))) none none).run Try.prog w' = .ok (.slice a' (n - m) (cap - m)) w') ∧
      ∀ k (x : Gd), N[m + k]? = some x → ∃ g o, (∀ w', (Instr.indexAt 38 (.slice a' (n - m) (cap - m)) (.int .i64 (k : Int))).run Try.prog w' = .ok (.pointer (some ⟨g, o, none⟩)) w') ∧
        ∀ w' : World, w'.ownsRow 0 44 3 (.slice a n cap) n (encG N) → w'.cell? ⟨g, o, none⟩ = some (.int .i64 x.1) ∧ w'.cell? ⟨g, o + 1, none⟩ = some (.int .i64 x.2.1) ∧ w'.cell? ⟨g, o + 2, none⟩ = some (.int .i64 x.2.2) := by
  rcases h.2 with ⟨e, e0⟩ | ⟨g, cap', cur, e, _, hcell, hnc, _, hsz, htk⟩
  · injection e with e1 _ e3
    subst e1 e3 e0
    obtain ⟨a', h1, _⟩ := cut_nG (P := Try.prog) Try.underlying38 Try.sizeNode none 0 0 m hm (Nat.le_refl _) (fun _ => rfl)
    exact ⟨a', h1, fun k x hk => absurd (List.getElem?_eq_some_iff.1 hk).1 (by omega)⟩
  · injection e with e1 _ e3
    subst e1 e3
    obtain ⟨a', h1, _, h3⟩ := cut_nG (P := Try.prog) Try.underlying38 Try.sizeNode (some ⟨g, 0, none⟩) n cap m hm hnc (fun e => by cases e)
    refine ⟨a', h1, fun k x hx => ?_⟩
    obtain ⟨hk, rfl⟩ := List.getElem?_eq_some_iff.1 hx
    have ha := h3 (by omega) _ rfl
    rw [add_plain, Nat.zero_add] at ha
    subst ha
    have hkn : k < n - m := by omega
    refine ⟨g, 3 * (m + k), fun w' => ?_, fun w' ho => ?_⟩
    · simp [Instr.indexAt, run_underlying Try.underlying38, asIntOf, sizeOf_run3 Try.sizeNode, hkn, Result.andThen, go_sem, add_plain, Nat.mul_comm]
    · rcases ho.2 with ⟨e, e0⟩ | ⟨g', cap', cur', e, _, hcell', hnc', _, hsz', htk'⟩
      · cases e
      · injection e with e1 _ e3
        injection e1 with e1
        injection e1 with e1 _ _
        subst e1
        have key : ∀ j, j < n * 3 → w'.cell? ⟨g, j, none⟩ = (encG N)[j]? := fun j hj => by
          rw [← htk', List.getElem?_take, if_pos hj]
          simp [World.cell?, hcell']
        obtain ⟨q0, q1, q2⟩ := encG_get N (m + k) hk
        refine ⟨?_, ?_, ?_⟩
        · rw [key _ (by omega)]; exact q0
        · rw [key _ (by omega)]; exact q1
        · rw [key _ (by omega)]; exact q2
theorem Try.stepg_delG {w : World} {ops : Array Oper} {o : Oper} {a : Act} {K : Act → World → Prop} {Q : Exit → Act → World → Prop} {E : Prop} (hw : Region.wanted o (yielded ops a.tmps) = true) (m x : Operand)
    (ho : o.op = .call { callee := .builtin .delete, args := #[m, x], argTypes := #[62, 44] }) (b n : Nat) (f : Gd → Option Nat) (y : Gd) (hm : a.eval m = .map (some b)) (hx : a.eval x = ndV y)
    (h : NumG w b n f) (hy : GdOk y) (hf : (f y).isSome = true)
    (hK : ∀ w', NumG w' b (n - 1) (fun z => if z = y then none else f z) → w.grownBy w' (some b) → K (a.put o.dst (.tuple #[])) w') :
    if Region.wanted o (yielded ops a.tmps) = true then Oper.wp Try.prog o a w K Q else E := by
  rw [if_pos hw]
  obtain ⟨w', hr, h1, h2⟩ := h.drop hy hf o.type
  unfold Oper.wp execOp
  simp only [ho, resolve, invoke, builtin, Sem.run_bind, Sem.run_pure, Result.andThen_ok, List.map_toArray, List.map_cons, List.map_nil, hm, hx, hr]
  exact hK w' h1 h2
/-- What the loop keeps. -/
structure CutG (w wr : World) (mb L i n : Nat) (N : List Gd) : Prop where
  num : NumG wr mb (L - i) (outG N n i)
  gr : w.grownBy wr (some mb)
theorem CutG.blk {w wr : World} {g n mb i m cap : Nat} {a : Option Addr} {N : List Gd} (h : StR w g n a N.length cap mb N) (c : CutG w wr mb N.length i m N) : wr.heap[g]? = some (stO g n (.slice a N.length cap) mb) ∧ wr.ownsRow 0 44 3 (.slice a N.length cap) N.length (encG N) := by
  obtain ⟨es, cl, hmap⟩ := h.num.isMap
  have hmt : g ≠ mb := fun e => by rw [← e, h.blk] at hmap; cases hmap
  have hnm : (Value.slice a N.length cap).ownBlock ≠ some mb := own_neG h.row hmap (fun cs e => by cases e)
  have st : ∀ k, k < w.heap.size → k ≠ mb → wr.heap[k]? = w.heap[k]? := fun k hk hne => c.gr.block k hk (fun e => hne (by injection e))
  exact ⟨(st g (Array.getElem?_eq_some_iff.1 h.blk).1 hmt).trans h.blk, own_farG h.row fun k hk => st k (h.row.lt k hk).2 (fun e => hnm (e ▸ hk))⟩
theorem cutG_fin {w wr : World} {F : Nat → Prop} {g n mb m cap : Nat} {a : Option Addr} {N : List Gd} (hI : StG w F g n N) (h : StR w g n a N.length cap mb N) (hF : ∀ k, F k ↔ (k = g ∨ k = mb ∨ (Value.slice a N.length cap).ownBlock = some k)) (hn : m ≤ N.length)
    (c : CutG w wr mb N.length (N.length - m) m N) : StG (wr.setCell ⟨g, 2, none⟩ (.slice a m cap)) F g n (N.take m) ∧ Fr w (wr.setCell ⟨g, 2, none⟩ (.slice a m cap)) F F := by
  obtain ⟨h1, h2⟩ := c.blk h
  obtain ⟨es, cl, hmap⟩ := c.num.isMap
  have hmt : mb ≠ g := fun e => by rw [e, h1] at hmap; cases hmap
  have hne : (Value.slice a N.length cap).ownBlock ≠ some g := own_neG h2 h1 (fun cs e => by injection e with _ e _; exact absurd e (by decide))
  have hlen : (N.take m).length = m := by simp; omega
  obtain ⟨a', cap', e, _, _, _, h4, h5⟩ := own_preG h2 hn
  injection e with e1 _ e3
  subst e1 e3
  rw [encG_take] at h4
  refine ⟨⟨hI.nd.sublist (List.take_sublist _ _), fun x hx => hI.ok x (List.mem_of_mem_take hx), .slice a m cap, mb, ?_, ?_, ?_, fun k => ?_⟩, ?_⟩
  · unfold stO at h1 ⊢
    rw [heap_setCell_same wr g 2 _ _ _ h1]; rfl
  · rw [hlen]
    refine own_farG h4 fun k hk => Below.heap_setCell _ _ _ _ ?_
    dsimp only
    rintro rfl
    rw [h5] at hk; exact hne hk
  · rw [hlen]
    have := c.num
    rw [show N.length - (N.length - m) = m by omega] at this
    exact (this.far (Below.heap_setCell _ _ _ _ (by dsimp only; exact hmt))).alike fun y _ => outG_all hI.nd hn y
  · rw [h5]; exact hF k
  · refine ⟨c.gr.os, c.gr.tape, c.gr.output, by have := c.gr.size; simpa using this, fun k hk hf => ?_, fun _ hk => Or.inl hk⟩
    have hf' := fun e => hf ((hF k).2 e)
    exact (Below.heap_setCell _ _ _ _ (by dsimp only; exact fun e => hf' (Or.inl e))).trans (c.gr.block k hk (fun e => hf' (Or.inr (Or.inl (by injection e)))))
set_option maxRecDepth 100000 in
set_option maxHeartbeats 4000000 in
theorem Try.gundo_any {w : World} {F : Nat → Prop} {g n : Nat} {N : List Gd} (h : StG w F g n N) (m : Nat) (hn : m ≤ N.length) (bx bn : Nat) (hN : N.length ≤ 1000000)
    (hbx : w.heap[bx]? = some (.cells #[.pointer (some ⟨g, 0, none⟩)] 23 (0, 0))) (hbn : w.heap[bn]? = some (.cells #[.int .i64 (m : Int)] 3 (0, 0))) (hfx : ¬ F bx) (hfn : ¬ F bn) :
    Calls Try.prog 44 #[.pointer (some ⟨bx, 0, none⟩), .pointer (some ⟨bn, 0, none⟩)] w fun e w' => e = .returned (.tuple #[]) ∧ StG w' F g n (N.take m) ∧ Fr w w' F F := by
  obtain ⟨a, cap, mb, hr, hF⟩ := h.read
  have c2 := hr.c2
  have x0 : w.cell? ⟨bx, 0, none⟩ = some (.pointer (some ⟨g, 0, none⟩)) := cell_row hbx 0
  have n0 : w.cell? ⟨bn, 0, none⟩ = some (.int .i64 (m : Int)) := cell_row hbn 0
  obtain ⟨a', hcut, hat⟩ := nd_cut hr.row rfl hn
  have hpre := fun w' => pre_nG (P := Try.prog) Try.underlying38 Try.sizeNode a N.length cap m hn hr.hc hr.nn w'
  have HR : Hid _ := hr
  have HF : Hid _ := hF
  have HI : Hid _ := h
  have HAT : Hid _ := hat
  have HC0 : Hid (CutG w w mb N.length 0 m N) := ⟨hr.num.alike fun y _ => outG_zero N m y, ⟨rfl, rfl, rfl, Nat.le_refl _, fun _ _ _ => rfl⟩⟩
  have HC1 : Hid (∀ nq, CutG w (w.drewN nq) mb N.length 0 m N) := fun nq => ⟨(show NumG (w.drewN nq) mb N.length (posG N) from hr.num).alike fun y _ => outG_zero N m y, ⟨rfl, rfl, rfl, Nat.le_refl _, fun _ _ _ => rfl⟩⟩
  have HN : Hid (m ≤ N.length) := hn
  have HBX : Hid (∀ wr, w.grownBy wr (some mb) → wr.cell? ⟨bx, 0, none⟩ = some (.pointer (some ⟨g, 0, none⟩)) ∧ wr.cell? ⟨bn, 0, none⟩ = some (.int .i64 (m : Int))) := fun wr hg => by
    have h1 : bx ≠ mb := fun e => hfx ((hF bx).2 (.inr (.inl e)))
    have h2 : bn ≠ mb := fun e => hfn ((hF bn).2 (.inr (.inl e)))
    exact ⟨grown_cell x0 hg (fun e => h1 (by injection e)), grown_cell n0 hg (fun e => h2 (by injection e))⟩
  clear h hr hF hat hn hbx hbn hfx hfn
  generalize hL : N.length = L at *
  have HL : Hid (N.length = L) := hL
  clear hL
  go_enter Try.func44, Try.ntmps44
  go_upto_region 15 with fail
  go_quiet (fail)
  have HC2 : Hid _ := HC1.out nq
  clear HC1
  generalize w.drewN nq = w0 at *
  go_wp2
  go_loopw [11] (fun i wr => ∃ k : Nat, k ≤ L - m ∧ i = .int .i64 k ∧ Hid (CutG w wr mb L k m N)) (fun i _ => (L - m) - (intOf i).toNat)
  case atStart => exact ⟨0, Nat.zero_le _, rfl, HC2⟩
  case round =>
    obtain ⟨k, hk, rfl, HC⟩ := hrel
    clear HC0 HC2 c2 x0 n0
    by_cases hlt : k < L - m
    · have hkl : m + k < N.length := by have := HL.out; omega
      have hx : N[m + k]? = some N[m + k] := List.getElem?_eq_getElem hkl
      have HX : Hid (GdOk N[m + k]) := HI.out.ok _ (List.getElem_mem hkl)
      have HTH : Hid ((outG N m k N[m + k]).isSome = true) := outG_there HI.out.nd hx
      have HNX : Hid (∀ y, (if y = N[m + k] then none else outG N m k y) = outG N m (k + 1) y) := fun y => outG_next HI.out.nd hx y
      obtain ⟨g1, o1, hio, hcs⟩ := HAT.out k _ hx
      have HB : Hid _ := (show CutG w wr mb N.length k m N by rw [HL.out]; exact HC.out).blk (by rw [HL.out]; exact HR.out)
      rw [HL.out] at HB
      obtain ⟨q0, q1, q2⟩ := hcs wr HB.out.2
      obtain ⟨x0, _⟩ := HBX.out wr HC.out.gr
      generalize N[m + k] = x at *
      obtain ⟨P, lo, hi⟩ := x
      dsimp only at q0 q1 q2
      clear hx hkl hcs
      have hb1 := below_new wr (.cells #[.int .i64 P, .int .i64 lo, .int .i64 hi] 44)
      have c3 : (wr.alloc (.cells #[.int .i64 P, .int .i64 lo, .int .i64 hi] 44)).cell? ⟨g, 3, none⟩ = some (.map (some mb)) := kept_cell (cell_row HB.out.1 3) hb1
      have x0b := kept_cell x0 hb1
      have hnum : NumG (wr.alloc (.cells #[.int .i64 P, .int .i64 lo, .int .i64 hi] 44)).drew mb (L - k) (outG N m k) := HC.out.num.far (hb1.block mb HC.out.num.lt)
      have HGR : Hid (w.grownBy (wr.alloc (.cells #[.int .i64 P, .int .i64 lo, .int .i64 hi] 44)).drew (some mb)) := ⟨HC.out.gr.os, HC.out.gr.tape, HC.out.gr.output, by have := HC.out.gr.size; simp; omega, fun j hj hne => (hb1.block j (by have := HC.out.gr.size; omega)).trans (HC.out.gr.block j hj hne)⟩
      clear hb1 HB HC
      go_wp2
      go_upto_region 15 with fail
      go_region_law ((refine Try.stepg_delG rfl _ _ rfl mb (L - k) (outG N m k) (P, lo, hi) rfl rfl hnum HX.out HTH.out ?_; intro w6 hn6 hg6))
      all_goals
        have HC6 : Hid (CutG w w6 mb L (k + 1) m N) := by
          refine ⟨?_, ⟨hg6.os.trans HGR.out.os, hg6.tape.trans HGR.out.tape, hg6.output.trans HGR.out.output, Nat.le_trans HGR.out.size hg6.size, fun j hj hne => (hg6.block j (Nat.lt_of_lt_of_le hj HGR.out.size) hne).trans (HGR.out.block j hj hne)⟩⟩
          rw [show L - (k + 1) = L - k - 1 by omega]
          exact hn6.alike fun y _ => HNX.out y
        clear hnum c3 x0b hn6 hg6 HGR
        go_wp2
        go_roundw
        case rel => exact ⟨k + 1, by omega, by go_num, HC6⟩
        case measure => simp [intOf] <;> omega
    · obtain rfl : k = L - m := by omega
      have HC' : Hid (CutG w wr mb N.length (N.length - m) m N) := by show CutG _ _ _ _ _ _ _; rw [HL.out]; exact HC.out
      have HR' : Hid (StR w g n a N.length cap mb N) := by show StR _ _ _ _ _ _ _ _; rw [HL.out]; exact HR.out
      have hb := HC'.out.blk HR'.out
      rw [HL.out] at hb
      obtain ⟨x0, n0⟩ := HBX.out wr HC.out.gr
      have c2 : wr.cell? ⟨g, 2, none⟩ = some (.slice a L cap) := cell_row hb.1 2
      have z2 : wr.frozen? ⟨g, 2, none⟩ = false := frozen_of_row wr _ 2 _ _ hb.1
      have HFIN : Hid _ := cutG_fin HI.out HR'.out (by rw [HL.out]; exact HF.out) (by rw [HL.out]; exact HN.out) HC'.out
      clear hb HC'
      go_upto_region 15 with fail
      go_region
      all_goals
        clear hcut hpre x0 n0 c2 z2 HBX HAT
        go_wp2
        go_end0
        exact ⟨rfl, HFIN.out.1.up (Below.refl _ _).drew, HFIN.out.2.trans (Fr.ofBelow (Below.refl _ _).drew)⟩
end Go.Proofs.Ytmnkkknkmbldhaa
