/- The document's reader (layer 5) in memory: what stands next, failing, wanting. -/
import Derived.Test.YtfipefbaabkdeaaGreatDoorWPbA
import Derived.Test.YtfipefbaabkdeaaGreatDoorWPb5
import Derived.Deep.RegionHeld3
import Derived.Deep.RegionWith
import Derived.Test.YtfipefbaabkdeaaGreatDoorTkM
import Derived.Test.YtfipefbaabkdeaaGreatDoorWPR
namespace Go.Proofs.YtfipefbaabkdeaaGreatDoor
open Go.RowKit Go.Maps

/-- The document's reader: where it lies, its words and names, the end; the world ahead of all reading. -/
structure Rv where
  g : Nat
  na : Option Addr
  nl : Nat
  nc : Nat
  ad : Nat → Addr
  ss : List ByteArray
  wa : Option Addr
  wc : Nat
  ws : List Wd
  fin : Nat
  w0 : World
structure RvOk (E : Rv) : Prop where
  wd : WdSl E.w0 E.wa E.ws.length E.wc E.ws
  nm : StrSl Tryz.prog 22 E.w0 E.na E.nl E.nc E.ad E.ss
  wne : ∀ x, E.wa = some x → x.block ≠ E.g
  nne : ∀ k, k < E.nl → (E.ad k).block ≠ E.g
  few : E.ws.length ≤ 4096
  fin : E.fin ≤ 4096
  ns8 : E.nl ≤ 8
  glt : E.g < E.w0.heap.size
def rowR (E : Rv) (p : Nat) (er pl : Int) : Obj := .cells #[.slice E.wa E.ws.length E.wc, .int .i64 (p : Int), .int .i64 (E.fin : Int), .slice E.na E.nl E.nc, .int .i64 er, .int .i64 pl] 111 (0, 0)
/-- What is known of it in a world: p words are read, the error, its place. -/
structure Rx (E : Rv) (w : World) (p : Nat) (er pl : Int) : Prop where
  env : RvOk E
  gr : E.w0.grownBy w (some E.g)
  ple : p ≤ E.ws.length
  rd : w.heap[E.g]? = some (rowR E p er pl)
section
variable {E : Rv} {w w' : World} {p q : Nat} {er pl : Int}
theorem Rx.wd (h : Rx E w p er pl) : WdSl w E.wa E.ws.length E.wc E.ws := by
  by_cases h0 : 0 < E.ws.length
  · exact h.env.wd.grown h.gr (fun x hx e => h.env.wne x hx (by injection e))
  · exact h.env.wd.grown h.gr (fun x hx e => h.env.wne x hx (by injection e))
theorem Rx.nm (h : Rx E w p er pl) : StrSl Tryz.prog 22 w E.na E.nl E.nc E.ad E.ss := h.env.nm.grown h.gr (fun k hk e => h.env.nne k hk (by injection e))
theorem Rx.lt (h : Rx E w p er pl) : E.g < w.heap.size := Nat.lt_of_lt_of_le h.env.glt h.gr.size
theorem Rx.names (h : Rx E w p er pl) : (nms E.ss).length ≤ 256 := by rw [nms_len, h.env.nm.hlen]; have := h.env.ns8; omega
theorem Rx.up (h : Rx E w p er pl) (hb : Below w.heap.size w w') : Rx E w' p er pl := ⟨h.env, h.gr.trans (grown_of hb _), h.ple, (hb.block E.g h.lt).trans h.rd⟩
theorem Rx.drew (h : Rx E w p er pl) (n : Nat) : Rx E (w.drewN n) p er pl := h.up (below_drewN (Below.refl _ _) n)
/-- A row of somebody else's grows. -/
theorem Rx.far (h : Rx E w p er pl) {row : Option Nat} (hg : w.grownBy w' row) (hb : ∀ b, row = some b → E.w0.heap.size ≤ b) : Rx E w' p er pl :=
  ⟨h.env, ⟨hg.os.trans h.gr.os, hg.tape.trans h.gr.tape, hg.output.trans h.gr.output, Nat.le_trans h.gr.size hg.size, fun k hk hne => by
    rw [hg.block k (Nat.lt_of_lt_of_le hk h.gr.size) (fun e => by have := hb k e.symm; omega)]; exact h.gr.block k hk hne⟩, h.ple,
    (hg.block E.g h.lt (fun e => by have := hb E.g e.symm; have := h.env.glt; omega)).trans h.rd⟩
theorem Rx.c (h : Rx E w p er pl) : w.cell? ⟨E.g, 0, none⟩ = some (.slice E.wa E.ws.length E.wc) ∧ w.cell? ⟨E.g, 1, none⟩ = some (.int .i64 (p : Int)) ∧ w.cell? ⟨E.g, 2, none⟩ = some (.int .i64 (E.fin : Int)) ∧ w.cell? ⟨E.g, 3, none⟩ = some (.slice E.na E.nl E.nc) ∧ w.cell? ⟨E.g, 4, none⟩ = some (.int .i64 er) ∧ w.cell? ⟨E.g, 5, none⟩ = some (.int .i64 pl) ∧ ∀ i, w.frozen? ⟨E.g, i, none⟩ = false :=
  ⟨cell_row h.rd 0, cell_row h.rd 1, cell_row h.rd 2, cell_row h.rd 3, cell_row h.rd 4, cell_row h.rd 5, fun i => frozen_of_row w E.g i _ _ h.rd⟩
theorem set_grown (w : World) (g i : Nat) (v : Value) : w.grownBy (w.setCell ⟨g, i, none⟩ v) (some g) := ⟨rfl, rfl, rfl, by simp, fun k hk hne => Below.heap_setCell _ _ _ _ (fun e => hne (congrArg some e))⟩
theorem Rx.bump (h : Rx E w p er pl) (hp : p < E.ws.length) : Rx E (w.setCell ⟨E.g, 1, none⟩ (.int .i64 ((p : Int) + 1))) (p + 1) er pl := by
  refine ⟨h.env, h.gr.trans (set_grown _ _ _ _), by omega, ?_⟩
  rw [show ((p : Int) + 1) = ((p + 1 : Nat) : Int) by omega, heap_setCell_same w E.g 1 _ _ _ h.rd]
  rfl
end
theorem hdT_lt {ws : List Wd} {p : Nat} (h : p < ws.length) : mkB (hdT (ws.drop p)) = ws[p].tx := by rw [List.drop_eq_getElem_cons h]; exact mkB_of _
theorem hdT_no {ws : List Wd} {p : Nat} (h : ws.length ≤ p) : hdT (ws.drop p) = [] := by rw [List.drop_of_length_le h]; rfl
set_option maxHeartbeats 2000000 in
/-- Does this word stand next? -/
theorem Tryz.ris_ok (E : Rv) (p : Nat) (pl : Int) (s : ByteArray) (hs : s.toList ≠ []) (w : World) (h : Rx E w p 0 pl) :
    Calls Tryz.prog 71 #[.pointer (some ⟨E.g, 0, none⟩), .string s] w fun e w' => e = .returned (.bool (decide (hdT (E.ws.drop p) = s.toList))) ∧ ∃ n, w' = w.drewN n := by
  obtain ⟨c0, c1, _, _, c4, _, _⟩ := h.c
  have hb := h.wd.bd
  have hc := h.wd.hcap
  have hf := h.env.few
  have hp := h.ple
  unfold maxLen at hb
  by_cases hlt : p < E.ws.length
  · obtain ⟨g, o, sh, hidx, q0, hc1, q2, _, _⟩ := h.wd.at Tryz.underlying96 Tryz.sizeWd p hlt
    have hik := fun w => hidx E.ws.length w hlt
    rw [← hdT_lt hlt] at hc1
    have hbs : (decide (hdT (E.ws.drop p) = s.toList)) = ((mkB (hdT (E.ws.drop p))).toList == s.toList) := by rw [mkB_toList]; by_cases h : hdT (E.ws.drop p) = s.toList <;> simp [h]
    rw [hbs]
    generalize mkB (hdT (E.ws.drop p)) = x at *
    have hd1 : decide ((p : Int) < (E.ws.length : Int)) = true := by simp; omega
    clear hidx q0 q2 h hbs hs
    go_enter Tryz.func71, Tryz.ntmps71
    go_wp2
    go_quiet (fail)
    go_wp2
    go_ret
    exact ⟨rfl, _, rfl⟩
  · have hd1 : decide ((p : Int) < (E.ws.length : Int)) = false := by simp; omega
    have hbs : (decide (hdT (E.ws.drop p) = s.toList)) = false := by rw [hdT_no (by omega)]; exact decide_eq_false (fun e => hs e.symm)
    rw [hbs]
    clear h hbs hs
    go_enter Tryz.func71, Tryz.ntmps71
    go_wp2
    go_quiet (fail)
    go_wp2
    go_ret
    exact ⟨rfl, _, rfl⟩
set_option maxHeartbeats 2000000 in
theorem Tryz.ris_bad (E : Rv) (p : Nat) (er pl : Int) (he : er ≠ 0) (s : ByteArray) (w : World) (h : Rx E w p er pl) :
    Calls Tryz.prog 71 #[.pointer (some ⟨E.g, 0, none⟩), .string s] w fun e w' => e = .returned (.bool false) ∧ ∃ n, w' = w.drewN n := by
  obtain ⟨c0, c1, _, _, c4, _, _⟩ := h.c
  have hd1 : decide (er = 0) = false := by simp [he]
  have hd2 : (er == 0) = false := by simp [he]
  clear h
  go_enter Tryz.func71, Tryz.ntmps71
  go_wp2
  go_quiet (fail)
  go_wp2
  go_ret
  exact ⟨rfl, _, rfl⟩
/-- It can't go on here. -/
theorem Rx.fail {E : Rv} {w : World} {p : Nat} {pl : Int} (h : Rx E w p 0 pl) (er pl' : Int) (hz : w.heap[E.g]? = some (rowR E p 0 pl)) : Rx E (((w.setCell ⟨E.g, 4, none⟩ (.int .i64 er)).setCell ⟨E.g, 5, none⟩ (.int .i64 (E.fin : Int))).setCell ⟨E.g, 5, none⟩ (.int .i64 pl')) p er pl' ∧ Rx E ((w.setCell ⟨E.g, 4, none⟩ (.int .i64 er)).setCell ⟨E.g, 5, none⟩ (.int .i64 (E.fin : Int))) p er E.fin := by
  have k1 := heap_setCell_same w E.g 4 _ _ (.int .i64 er) hz
  have k2 := heap_setCell_same _ E.g 5 _ _ (.int .i64 (E.fin : Int)) k1
  have k3 := heap_setCell_same _ E.g 5 _ _ (.int .i64 pl') k2
  exact ⟨⟨h.env, ((h.gr.trans (set_grown _ _ _ _)).trans (set_grown _ _ _ _)).trans (set_grown _ _ _ _), h.ple, k3⟩, h.env, (h.gr.trans (set_grown _ _ _ _)).trans (set_grown _ _ _ _), h.ple, k2⟩
set_option maxHeartbeats 2000000 in
theorem Tryz.rfail_ok (E : Rv) (p : Nat) (pl er : Int) (w : World) (h : Rx E w p 0 pl) :
    Calls Tryz.prog 55 #[.pointer (some ⟨E.g, 0, none⟩), .int .i64 er] w fun e w' => e = .returned (.tuple #[]) ∧ Rx E w' p er (plc E.fin (E.ws.drop p)) ∧ w.grownBy w' (some E.g) := by
  obtain ⟨c0, c1, c2, _, c4, c5, z⟩ := h.c
  have hb := h.wd.bd
  have hc := h.wd.hcap
  have hf := h.env.few
  have hp := h.ple
  have z4 := z 4
  have z5 := z 5
  unfold maxLen at hb
  have HF := fun pl' => h.fail er pl' h.rd
  by_cases hlt : p < E.ws.length
  · obtain ⟨g, o, sh, hidx, q0, q1, hc2, hg1, hg2⟩ := h.wd.at Tryz.underlying96 Tryz.sizeWd p hlt
    have hik := fun w => hidx E.ws.length w hlt
    have hpl : plc E.fin (E.ws.drop p) = E.ws[p].pl := by rw [List.drop_eq_getElem_cons hlt]; rfl
    rw [hpl]
    generalize E.ws[p].pl = x at *
    have hne : g ≠ E.g := by
      obtain ⟨y, hy⟩ := h.wd.some_of (by omega)
      have := h.env.wne y hy
      have := hg2 y hy
      omega
    have hHF := (HF x).1
    have HH : Hid (Rx E (((w.setCell ⟨E.g, 4, none⟩ (.int .i64 er)).setCell ⟨E.g, 5, none⟩ (.int .i64 (E.fin : Int))).setCell ⟨E.g, 5, none⟩ (.int .i64 x)) p er x) := hHF
    clear hidx q0 q1 h hpl HF hHF z
    go_enter Tryz.func55, Tryz.ntmps55
    go_wp2
    go_quiet (fail)
    go_wp2
    go_region
    all_goals
      go_wp2
      go_end0
      refine ⟨rfl, ?_, (((set_grown _ _ _ _).trans (set_grown _ _ _ _)).trans (grown_of (below_drewN (Below.refl _ _) _) _)).trans (set_grown _ _ _ _)⟩
      have := HH.out.drew (nq + 1)
      exact ⟨this.env, this.gr, this.ple, this.rd⟩
  · have hpl : plc E.fin (E.ws.drop p) = E.fin := by rw [List.drop_of_length_le (by omega)]; rfl
    rw [hpl]
    have HH : Hid (Rx E ((w.setCell ⟨E.g, 4, none⟩ (.int .i64 er)).setCell ⟨E.g, 5, none⟩ (.int .i64 (E.fin : Int))) p er E.fin) := (HF 0).2
    have hlt' : ¬ ((p : Int) < (E.ws.length : Int)) := by omega
    clear h hpl HF z
    go_enter Tryz.func55, Tryz.ntmps55
    go_wp2
    go_quiet (fail)
    go_wp2
    go_end0
    exact ⟨rfl, HH.out.drew _, ((set_grown _ _ _ _).trans (set_grown _ _ _ _)).trans (grown_of (below_drewN (Below.refl _ _) _) _)⟩
set_option maxHeartbeats 2000000 in
theorem Tryz.rfail_bad (E : Rv) (p : Nat) (er pl er' : Int) (he : er ≠ 0) (w : World) (h : Rx E w p er pl) :
    Calls Tryz.prog 55 #[.pointer (some ⟨E.g, 0, none⟩), .int .i64 er'] w fun e w' => e = .returned (.tuple #[]) ∧ w' = w := by
  obtain ⟨_, _, _, _, c4, _, _⟩ := h.c
  clear h
  go_enter Tryz.func55, Tryz.ntmps55
  go_wp2
  (try simp only [Exit.inBlock, Exit.then]); refine bodyPost_ret (results_none rfl _ _ _) rfl ?_
  exact ⟨rfl, rfl⟩
set_option maxHeartbeats 2000000 in
/-- This word must stand next. -/
theorem Tryz.rwant_ok (E : Rv) (p : Nat) (pl : Int) (s : ByteArray) (hs : s.toList ≠ []) (w : World) (h : Rx E w p 0 pl) :
    Calls Tryz.prog 94 #[.pointer (some ⟨E.g, 0, none⟩), .string s] w fun e w' => e = .returned (.tuple #[]) ∧ w.grownBy w' (some E.g) ∧ if hdT (E.ws.drop p) = s.toList then Rx E w' (p + 1) 0 pl else Rx E w' p 150 (plc E.fin (E.ws.drop p)) := by
  have hI := Tryz.ris_ok E p pl s hs w h
  have hf := h.env.few
  have hF := fun q => Tryz.rfail_ok E p pl 150 (w.drewN q) (h.drew q)
  have HC : Hid (Rx E w p 0 pl) := h
  clear h
  by_cases he : hdT (E.ws.drop p) = s.toList
  · simp only [if_pos he]
    rw [decide_eq_true he] at hI
    have hlt := hd_lt he hs
    clear he hF
    go_enter Tryz.func94, Tryz.ntmps94
    go_wp2_with fail
    refine hI.mono ?_
    rintro e w1 ⟨rfl, q, rfl⟩
    have hC1 := HC.out.drew q
    obtain ⟨_, c1, _, _, _, _, z⟩ := hC1.c
    have z1 := z 1
    have HC1 : Hid (Rx E (w.drewN q) p 0 pl) := hC1
    clear hC1 z hI
    go_wp2
    (try simp only [Exit.inBlock, Exit.then]); refine bodyPost_ret (results_none rfl _ _ _) rfl ?_
    exact ⟨rfl, (grown_of (below_drewN (Below.refl _ _) _) _).trans (set_grown _ _ _ _), HC1.out.bump hlt⟩
  · simp only [if_neg he]
    rw [decide_eq_false he] at hI
    clear he
    go_enter Tryz.func94, Tryz.ntmps94
    go_wp2_with fail
    refine hI.mono ?_
    rintro e w1 ⟨rfl, q, rfl⟩
    have hF := hF q
    clear hI
    go_wp2_with fail
    refine hF.mono ?_
    rintro e w2 ⟨rfl, hR, hg⟩
    have HR : Hid (Rx E w2 p 150 (plc E.fin (E.ws.drop p))) := hR
    clear hF hR
    go_wp2
    go_end0
    exact ⟨rfl, (grown_of (below_drewN (Below.refl _ _) _) _).trans hg, HR.out⟩
set_option maxHeartbeats 2000000 in
theorem Tryz.rwant_bad (E : Rv) (p : Nat) (er pl : Int) (he : er ≠ 0) (s : ByteArray) (w : World) (h : Rx E w p er pl) :
    Calls Tryz.prog 94 #[.pointer (some ⟨E.g, 0, none⟩), .string s] w fun e w' => e = .returned (.tuple #[]) ∧ ∃ n, w' = w.drewN n := by
  have hI := Tryz.ris_bad E p er pl he s w h
  have hF := fun q => Tryz.rfail_bad E p er pl 150 he (w.drewN q) (h.drew q)
  clear h
  go_enter Tryz.func94, Tryz.ntmps94
  go_wp2_with fail
  refine hI.mono ?_
  rintro e w1 ⟨rfl, q, rfl⟩
  have hF := hF q
  clear hI
  go_wp2_with fail
  refine hF.mono ?_
  rintro e w2 ⟨rfl, rfl⟩
  go_wp2
  go_end0
  exact ⟨rfl, _, rfl⟩
end Go.Proofs.YtfipefbaabkdeaaGreatDoor
namespace Go.Proofs.YtfipefbaabkdeaaGreatDoor
open Go.RowKit Go.Maps

/-- What is left behind a part: the tokens L, so many words, the error, its place. -/
def Out (E : Rv) (p : Nat) (x : Except Er (List Tk5 × List Wd)) (L : List Tk5) (p' : Nat) (er pl : Int) : Prop :=
  L.length + p ≤ p' ∧ p' ≤ E.ws.length ∧ (∀ z ∈ L, z.1 < 256 ∧ z.2 < 256) ∧ match x with
    | .ok (t, r) => L = t ∧ E.ws.drop p' = r ∧ er = 0 ∧ pl = 0
    | .error (a, b) => er = a ∧ pl = b ∧ a ≠ 0
def RP (E : Rv) (p : Nat) (w : World) (x : Except Er (List Tk5 × List Wd)) (e : Ending) (w' : World) : Prop :=
  ∃ v L p' er pl, e = .returned v ∧ w'.ownsRow w.heap.size 41 2 v L.length (encT L) ∧ Out E p x L p' er pl ∧ Rx E w' p' er pl ∧ w.grownBy w' (some E.g)
def RC (E : Rv) (n : Nat) (nt : NT) (F : FuncId) : Prop := ∀ p w x, Rx E w p 0 0 → rd5 (nms E.ss) E.fin n nt (E.ws.drop p) = some x → Calls Tryz.prog F #[.pointer (some ⟨E.g, 0, none⟩)] w (RP E p w x)
def RK (E : Rv) (n : Nat) (nt : NT) (F : FuncId) (k : Nat) : Prop := ∀ p w x, Rx E w p 0 0 → rd5 (nms E.ss) E.fin n nt (E.ws.drop p) = some x → Calls Tryz.prog F #[.pointer (some ⟨E.g, 0, none⟩), .int .i64 (k : Int)] w (RP E p w x)
theorem RC.le {E : Rv} {n m : Nat} {nt : NT} {F : FuncId} (h : RC E n nt F) (hm : m ≤ n) : RC E m nt F := fun p w x hC hx => h p w x hC (rd5_mono hm _ hx)
theorem RK.le {E : Rv} {n m k : Nat} {nt : NT} {F : FuncId} (h : RK E n nt F k) (hm : m ≤ n) : RK E m nt F k := fun p w x hC hx => h p w x hC (rd5_mono hm _ hx)
section
variable {E : Rv} {p p' : Nat} {x y : Except Er (List Tk5 × List Wd)} {L : List Tk5} {er pl : Int}
theorem Out.weak (h : Out E (p + 1) x L p' er pl) : Out E p x L p' er pl := ⟨by have := h.1; omega, h.2⟩
theorem Out.add (h : Out E (p + 1) x L p' er pl) {op : Nat} (ho : op < 256) : Out E p (addO op x) (L ++ [(op, 0)]) p' er pl := by
  obtain ⟨h1, h2, h3, h4⟩ := h
  refine ⟨by simp; omega, h2, byt_app h3 (byt_one ho), ?_⟩
  cases x with
  | error e => exact h4
  | ok q => exact ⟨by rw [h4.1], h4.2⟩
/-- Behind a wanted word. -/
def wantS (E : Rv) (s : Bytes) (p : Nat) (er pl : Int) : Nat × Int × Int :=
  if er ≠ 0 then (p, er, pl) else if hdT (E.ws.drop p) = s then (p + 1, 0, 0) else (p, 150, plc E.fin (E.ws.drop p))
theorem Out.want (h : Out E p x L p' er pl) {s : Bytes} (hs : s ≠ []) : Out E p (wantX E.fin s x) L (wantS E s p' er pl).1 (wantS E s p' er pl).2.1 (wantS E s p' er pl).2.2 := by
  obtain ⟨h1, h2, h3, h4⟩ := h
  cases x with
  | error e =>
    have hz : er ≠ 0 := by rw [h4.1]; exact h4.2.2
    unfold wantS; rw [if_pos hz]
    exact ⟨h1, h2, h3, h4⟩
  | ok q =>
    obtain ⟨t, r⟩ := q
    obtain ⟨rfl, hr, rfl, rfl⟩ := h4
    unfold wantS
    rw [if_neg (by simp), hr]
    by_cases he : hdT r = s
    · rw [if_pos he]
      have hlt : p' < E.ws.length := hd_lt (ws := E.ws) (by rw [hr]; exact he) hs
      refine ⟨by show L.length + p ≤ p' + 1; omega, hlt, h3, ?_⟩
      have e : wantX E.fin s (.ok (L, r)) = .ok (L, r.tail) := by simp [wantX, he]
      rw [e]
      exact ⟨rfl, by rw [← hr, List.tail_drop], rfl, rfl⟩
    · rw [if_neg he]
      refine ⟨h1, h2, h3, ?_⟩
      have e : wantX E.fin s (.ok (L, r)) = .error (150, plc E.fin r) := by simp [wantX, he]
      rw [e]
      exact ⟨rfl, rfl, by decide⟩
theorem Out.eof (h : Out E p x L p' er pl) : er = 0 → pl = 0 := by
  cases x with
  | error e => intro e0; exact absurd (h.2.2.2.1.symm.trans e0) h.2.2.2.2.2
  | ok q => intro _; exact h.2.2.2.2.2.2
theorem Out.few (h : Out E p x L p' er pl) (hf : E.ws.length ≤ 4096) : L.length ≤ 4096 := by have := h.1; have := h.2.1; omega
end
set_option maxHeartbeats 2000000 in
theorem Tryz.rwant_any (E : Rv) (p : Nat) (er pl : Int) (h0 : er = 0 → pl = 0) (s : ByteArray) (hs : s.toList ≠ []) (w : World) (h : Rx E w p er pl) :
    Calls Tryz.prog 94 #[.pointer (some ⟨E.g, 0, none⟩), .string s] w fun e w' => e = .returned (.tuple #[]) ∧ w.grownBy w' (some E.g) ∧ Rx E w' (wantS E s.toList p er pl).1 (wantS E s.toList p er pl).2.1 (wantS E s.toList p er pl).2.2 := by
  by_cases he : er = 0
  · have hp := h0 he
    subst he hp
    refine (Tryz.rwant_ok E p 0 s hs w h).mono ?_
    rintro e w' ⟨h1, h2, h3⟩
    refine ⟨h1, h2, ?_⟩
    unfold wantS
    rw [if_neg (by simp)]
    by_cases hd : hdT (E.ws.drop p) = s.toList
    · rw [if_pos hd] at h3 ⊢; exact h3
    · rw [if_neg hd] at h3 ⊢; exact h3
  · refine (Tryz.rwant_bad E p er pl he s w h).mono ?_
    rintro e w' ⟨h1, n, rfl⟩
    refine ⟨h1, grown_of (below_drewN (Below.refl _ _) _) _, ?_⟩
    unfold wantS
    rw [if_pos he]; exact h.drew n
/-- Behind a call and an append to what it answered. -/
theorem own_down {w : World} {base base' e size n : Nat} {v : Value} {xs : List Value} (h : w.ownsRow base e size v n xs) (hb : base' ≤ base) : w.ownsRow base' e size v n xs := by
  obtain ⟨hl, h⟩ := h
  refine ⟨hl, ?_⟩
  rcases h with h | ⟨k, cap, cur, rfl, hk, r⟩
  · exact Or.inl h
  · exact Or.inr ⟨k, cap, cur, rfl, Nat.le_trans hb hk, r⟩
theorem own_far {w w' : World} {base e size n g : Nat} {v : Value} {xs : List Value} (h : w.ownsRow base e size v n xs) (hg : w.grownBy w' (some g)) (hb : g < base) : w'.ownsRow base e size v n xs :=
  owns_keep h fun k hk hl => hg.block k hl (fun e => by injection e with e; omega)
theorem grown_own {w w1 w2 : World} {g : Nat} {row : Option Nat} (h : w.grownBy w1 (some g)) (h2 : w1.grownBy w2 row) (hb : ∀ b, row = some b → w.heap.size ≤ b) : w.grownBy w2 (some g) :=
  ⟨h2.os.trans h.os, h2.tape.trans h.tape, h2.output.trans h.output, Nat.le_trans h.size h2.size, fun k hk hne => by
    rw [h2.block k (Nat.lt_of_lt_of_le hk h.size) (fun e => by have := hb k e.symm; omega)]; exact h.block k hk hne⟩
theorem Tryz.ris_at (E : Rv) (p : Nat) (s : ByteArray) (hs : s.toList ≠ []) (w : World) (q : Nat) (h : Rx E w p 0 0) :
    Calls Tryz.prog 71 #[.pointer (some ⟨E.g, 0, none⟩), .string s] (w.drewN q) fun e w' => e = .returned (.bool (decide (hdT (E.ws.drop p) = s.toList))) ∧ ∃ n, w' = w.drewN n :=
  (Tryz.ris_ok E p 0 s hs (w.drewN q) (h.drew q)).mono fun _ _ ⟨h1, n, h2⟩ => ⟨h1, q + n, by rw [h2, World.drewN_drewN]⟩
set_option maxHeartbeats 4000000 in
set_option maxRecDepth 100000 in
theorem Tryz.rbare_c (E : Rv) (n : Nat) (hL : RK E n (.lev 0) 54 0) (hU : RC E n .una 73) (hP : RK E n (.pat 0) 53 0) : RC E (n + 1) .bar 70 := by
  intro p w x h hx
  have hI := fun (s : ByteArray) (hs : s.toList ≠ []) q => Tryz.ris_at E p s hs w q h
  have hf := h.env.few
  have hpl := h.ple
  have hlw := h.lt
  have h123 : ({ data := #[123] } : ByteArray).toList = [123] := by rw [ByteArray.toList_eq]
  have h63 : ({ data := #[63] } : ByteArray).toList = [63] := by rw [ByteArray.toList_eq]
  have h40 : ({ data := #[40] } : ByteArray).toList = [40] := by rw [ByteArray.toList_eq]
  have i1 := hI { data := #[123] } (by rw [h123]; simp) 0
  have i2 := fun q => hI { data := #[63] } (by rw [h63]; simp) q
  have i3 := fun q => hI { data := #[40] } (by rw [h40]; simp) q
  rw [h123] at i1
  rw [h63] at i2
  rw [h40] at i3
  have e0 : w.drewN 0 = w := rfl
  rw [e0] at i1
  have HC : Hid (Rx E w p 0 0) := h
  conv at hx => lhs; unfold rd5
  clear hI h
  by_cases hn0 : hdT (E.ws.drop p) = [123]
  · have hlt := hd_lt hn0 (by simp)
    rw [if_pos hn0, List.tail_drop] at hx
    obtain ⟨y, hy⟩ := some_of_and hx
    rw [hy] at hx
    have hx' : x = addO 19 (wantX E.fin [125] y) := by
      cases y with
      | error e => simp [andR] at hx; rw [← hx]; rfl
      | ok q =>
        obtain ⟨t, r⟩ := q
        simp only [andR] at hx
        by_cases he : hdT r = [125]
        · rw [if_pos he] at hx; simp [okR] at hx; rw [← hx]; simp [wantX, he, addO]
        · rw [if_neg he] at hx; simp [erR] at hx; rw [← hx]; simp [wantX, he, addO]
    rw [decide_eq_true hn0] at i1
    subst hx'
    have hA := fun q => hL (p + 1) _ y ((HC.out.drew q).bump hlt) hy
    have h125 : ({ data := #[125] } : ByteArray).toList = [125] := by rw [ByteArray.toList_eq]
    clear hx hy hn0 i2 i3 hL hU hP h123 h63 h40 e0
    go_enter Tryz.func70, Tryz.ntmps70
    go_wp2_with fail
    refine i1.mono ?_
    rintro e w1 ⟨rfl, q, rfl⟩
    have hC1 := HC.out.drew q
    obtain ⟨_, c1, _, _, _, _, z⟩ := hC1.c
    have z1 := z 1
    have HC1 : Hid (Rx E (w.drewN q) p 0 0) := hC1
    have hA := hA q
    clear hC1 z i1
    go_wp2_with fail
    refine hA.mono ?_
    rintro e w2 ⟨v, L, p2, er, pl, rfl, ho, hOut, hR2, hg2⟩
    obtain ⟨av, cv, rfl⟩ := own_sl ho
    have hWn := Tryz.rwant_any E p2 er pl hOut.eof { data := #[125] } (by rw [h125]; simp) w2 hR2
    rw [h125] at hWn
    have HO := Out.add (p := p) (hOut.want (s := [125]) (by simp)) (op := 19) (by omega)
    have HO : Hid (Out E p (addO 19 (wantX E.fin [125] y)) (L ++ [(19, 0)]) (wantS E [125] p2 er pl).1 (wantS E [125] p2 er pl).2.1 (wantS E [125] p2 er pl).2.2) := HO
    have hLf := hOut.few hf
    have HG2 : Hid (w.grownBy w2 (some E.g)) := ((grown_of (below_drewN (Below.refl _ _) q) _).trans (set_grown _ _ _ _)).trans hg2
    have hsz : w.heap.size ≤ w2.heap.size := HG2.out.size
    have ho : w2.ownsRow w.heap.size 41 2 (.slice av L.length cv) L.length (encT L) := own_down ho (by simp)
    have HOw : Hid (w2.ownsRow w.heap.size 41 2 (.slice av L.length cv) L.length (encT L)) := ho
    generalize wantS E [125] p2 er pl = S at *
    clear ho hOut hR2 hA hg2 h125
    go_wp2_with fail
    refine hWn.mono ?_
    rintro e w3 ⟨rfl, hg3, hR3⟩
    have HR3 : Hid (Rx E w3 S.1 S.2.1 S.2.2) := hR3
    have HG3 : Hid (w.grownBy w3 (some E.g)) := HG2.out.trans hg3
    have HO3 : Hid (w3.ownsRow w.heap.size 41 2 (.slice av L.length cv) L.length (encT L)) := own_far HOw.out hg3 hlw
    have hsz3 := HG3.out.size
    clear hR3 hg3 hWn
    go_wp2_with (at_builtin; refine Tryz.append_tks rfl _ _ rfl w.heap.size _ L [(19, 0)] (some ⟨w3.heap.size, 0, none⟩) 1 1 rfl rfl (World.ownsRow.alloc HO3.out _) (one_tk w3 (op := 19) (by omega)) (by omega) (by simp) (by simp; omega) ?_)
    intro v4 w4 hown4 hgr4
    have hR4 := (HR3.out.up (below_new w3 (.cells #[.int .u8 19, .int .u8 0] 41))).far hgr4 (fun b e => by have := own_ge HO3.out b e; have := HC.out.gr.size; omega)
    have hG4 : w.grownBy w4 (some E.g) := grown_own (HG3.out.trans (grown_of (below_new w3 (.cells #[.int .u8 19, .int .u8 0] 41)) _)) hgr4 (own_ge HO3.out)
    have HRet : Hid (RP E p w (addO 19 (wantX E.fin [125] y)) (.returned v4) w4) := ⟨v4, L ++ [(19, 0)], S.1, S.2.1, S.2.2, rfl, by rw [List.length_append]; exact hown4, HO.out, hR4, hG4⟩
    clear hown4 hgr4 hR4 hG4
    go_wp2
    go_ret
    exact HRet.out
  · rw [if_neg hn0] at hx
    rw [decide_eq_false hn0] at i1
    by_cases hn1 : hdT (E.ws.drop p) = [63]
    · have hlt := hd_lt hn1 (by simp)
      rw [if_pos hn1, List.tail_drop] at hx
      obtain ⟨y, hy⟩ := some_of_and hx
      rw [hy] at hx
      have hx' : x = addO 20 y := by
        cases y with
        | error e => simp [andR] at hx; rw [← hx]; rfl
        | ok q => simp [andR, okR] at hx; rw [← hx]; rfl
      rw [decide_eq_true hn1] at i2
      subst hx'
      have hA := fun q => hU (p + 1) _ y ((HC.out.drew q).bump hlt) hy
      clear hx hy hn0 hn1 i3 hL hU hP h123 h63 h40 e0
      go_enter Tryz.func70, Tryz.ntmps70
      go_wp2_with fail
      refine i1.mono ?_
      rintro e w1 ⟨rfl, q, rfl⟩
      clear i1
      go_wp2_with fail
      refine (i2 q).mono ?_
      rintro e w1 ⟨rfl, q, rfl⟩
      have hC1 := HC.out.drew q
      obtain ⟨_, c1, _, _, _, _, z⟩ := hC1.c
      have z1 := z 1
      have hA := hA q
      clear hC1 z i2
      go_wp2_with fail
      refine hA.mono ?_
      rintro e w3 ⟨v, L, p2, er, pl, rfl, ho, hOut, hR3, hg3⟩
      obtain ⟨av, cv, rfl⟩ := own_sl ho
      have HO : Hid (Out E p (addO 20 y) (L ++ [(20, 0)]) p2 er pl) := hOut.add (by omega)
      have hLf := hOut.few hf
      have HG3 : Hid (w.grownBy w3 (some E.g)) := ((grown_of (below_drewN (Below.refl _ _) q) _).trans (set_grown _ _ _ _)).trans hg3
      have hsz3 := HG3.out.size
      have HO3 : Hid (w3.ownsRow w.heap.size 41 2 (.slice av L.length cv) L.length (encT L)) := own_down ho (by simp)
      have HR3 : Hid (Rx E w3 p2 er pl) := hR3
      clear ho hOut hR3 hA hg3
      go_wp2_with (at_builtin; refine Tryz.append_tks rfl _ _ rfl w.heap.size _ L [(20, 0)] (some ⟨w3.heap.size, 0, none⟩) 1 1 rfl rfl (World.ownsRow.alloc HO3.out _) (one_tk w3 (op := 20) (by omega)) (by omega) (by simp) (by simp; omega) ?_)
      intro v4 w4 hown4 hgr4
      have hR4 := (HR3.out.up (below_new w3 (.cells #[.int .u8 20, .int .u8 0] 41))).far hgr4 (fun b e => by have := own_ge HO3.out b e; have := HC.out.gr.size; omega)
      have hG4 : w.grownBy w4 (some E.g) := grown_own (HG3.out.trans (grown_of (below_new w3 (.cells #[.int .u8 20, .int .u8 0] 41)) _)) hgr4 (own_ge HO3.out)
      have HRet : Hid (RP E p w (addO 20 y) (.returned v4) w4) := ⟨v4, L ++ [(20, 0)], p2, er, pl, rfl, by rw [List.length_append]; exact hown4, HO.out, hR4, hG4⟩
      clear hown4 hgr4 hR4 hG4
      go_wp2
      go_ret
      exact HRet.out
    · rw [if_neg hn1] at hx
      rw [decide_eq_false hn1] at i2
      by_cases hn2 : hdT (E.ws.drop p) = [40]
      · have hlt := hd_lt hn2 (by simp)
        rw [if_pos hn2, List.tail_drop] at hx
        obtain ⟨y, hy⟩ := some_of_and hx
        rw [hy] at hx
        have hx' : x = wantX E.fin [41] y := by
          cases y with
          | error e => simp [andR] at hx; rw [← hx]; rfl
          | ok q =>
            obtain ⟨t, r⟩ := q
            simp only [andR] at hx
            by_cases he : hdT r = [41]
            · rw [if_pos he] at hx; simp [okR] at hx; rw [← hx]; simp [wantX, he]
            · rw [if_neg he] at hx; simp [erR] at hx; rw [← hx]; simp [wantX, he]
        rw [decide_eq_true hn2] at i3
        subst hx'
        have hA := fun q => hP (p + 1) _ y ((HC.out.drew q).bump hlt) hy
        have h41 : ({ data := #[41] } : ByteArray).toList = [41] := by rw [ByteArray.toList_eq]
        clear hx hy hn0 hn1 hn2 hL hU hP h123 h63 h40 e0
        go_enter Tryz.func70, Tryz.ntmps70
        go_wp2_with fail
        refine i1.mono ?_
        rintro e w1 ⟨rfl, q, rfl⟩
        clear i1
        go_wp2_with fail
        refine (i2 q).mono ?_
        rintro e w1 ⟨rfl, q, rfl⟩
        clear i2
        go_wp2_with fail
        refine (i3 q).mono ?_
        rintro e w1 ⟨rfl, q, rfl⟩
        clear i3
        have hC1 := HC.out.drew q
        obtain ⟨_, c1, _, _, _, _, z⟩ := hC1.c
        have z1 := z 1
        have hA := hA q
        clear hC1 z
        go_wp2_with fail
        refine hA.mono ?_
        rintro e w2 ⟨v, L, p2, er, pl, rfl, ho, hOut, hR2, hg2⟩
        obtain ⟨av, cv, rfl⟩ := own_sl ho
        have hWn := Tryz.rwant_any E p2 er pl hOut.eof { data := #[41] } (by rw [h41]; simp) w2 hR2
        rw [h41] at hWn
        have HO := Out.weak (p := p) (hOut.want (s := [41]) (by simp))
        have HO : Hid (Out E p (wantX E.fin [41] y) L (wantS E [41] p2 er pl).1 (wantS E [41] p2 er pl).2.1 (wantS E [41] p2 er pl).2.2) := HO
        have HG2 : Hid (w.grownBy w2 (some E.g)) := ((grown_of (below_drewN (Below.refl _ _) q) _).trans (set_grown _ _ _ _)).trans hg2
        have HOw : Hid (w2.ownsRow w.heap.size 41 2 (.slice av L.length cv) L.length (encT L)) := own_down ho (by simp)
        generalize wantS E [41] p2 er pl = S at *
        clear ho hOut hR2 hA hg2 h41
        go_wp2_with fail
        refine hWn.mono ?_
        rintro e w3 ⟨rfl, hg3, hR3⟩
        have HRet : Hid (RP E p w (wantX E.fin [41] y) (.returned (.slice av L.length cv)) w3) := ⟨_, L, S.1, S.2.1, S.2.2, rfl, own_far HOw.out hg3 hlw, HO.out, hR3, HG2.out.trans hg3⟩
        clear hR3 hg3 hWn
        go_wp2
        go_ret
        exact HRet.out
      · rw [if_neg hn2] at hx
        rw [decide_eq_false hn2] at i3
        simp [erR] at hx
        subst hx
        have hF := fun q => Tryz.rfail_ok E p 0 150 (w.drewN q) (HC.out.drew q)
        clear hn0 hn1 hn2 hL hU hP h123 h63 h40 e0
        go_enter Tryz.func70, Tryz.ntmps70
        go_wp2_with fail
        refine i1.mono ?_
        rintro e w1 ⟨rfl, q, rfl⟩
        clear i1
        go_wp2_with fail
        refine (i2 q).mono ?_
        rintro e w1 ⟨rfl, q, rfl⟩
        clear i2
        go_wp2_with fail
        refine (i3 q).mono ?_
        rintro e w1 ⟨rfl, q, rfl⟩
        clear i3
        have hF := hF q
        go_wp2_with fail
        refine hF.mono ?_
        rintro e w2 ⟨rfl, hR, hg⟩
        have HRet : Hid (RP E p w (.error (150, plc E.fin (E.ws.drop p))) (.returned (.slice none 0 0)) w2) := ⟨_, [], p, 150, _, rfl, ⟨rfl, Or.inl ⟨rfl, rfl⟩⟩, ⟨by simp, hpl, by simp, rfl, rfl, by decide⟩, hR, (grown_of (below_drewN (Below.refl _ _) q) _).trans hg⟩
        clear hR hg hF
        go_wp2
        go_ret
        exact HRet.out
end Go.Proofs.YtfipefbaabkdeaaGreatDoor
namespace Go.Proofs.YtfipefbaabkdeaaGreatDoor
open Go.RowKit Go.Maps

/-- Where a loop over operators stands. -/
def LoopS (E : Rv) (p n : Nat) (nt : NT) (x : Except Er (List Tk5 × List Wd)) (L : List Tk5) (p' : Nat) (er pl : Int) : Prop :=
  L.length + p ≤ p' ∧ p' ≤ E.ws.length ∧ (∀ z ∈ L, z.1 < 256 ∧ z.2 < 256) ∧
    ((er = 0 ∧ pl = 0 ∧ ∃ m y, m ≤ n ∧ rd5 (nms E.ss) E.fin m nt (E.ws.drop p') = some y ∧ x = addX L y) ∨ (er ≠ 0 ∧ x = .error (er, pl)))
theorem LoopS.start {E : Rv} {p n : Nat} {nt : NT} {x y1 : Except Er (List Tk5 × List Wd)} {L : List Tk5} {p' : Nat} {er pl : Int} (h : Out E p y1 L p' er pl)
    (hx : andR (some y1) (fun t r => andR (rd5 (nms E.ss) E.fin n nt r) fun u r' => okR (t ++ u) r') = some x) : LoopS E p n nt x L p' er pl := by
  obtain ⟨h1, h2, h3, h4⟩ := h
  refine ⟨h1, h2, h3, ?_⟩
  cases y1 with
  | error e =>
    obtain ⟨a, b⟩ := e
    obtain ⟨rfl, rfl, h6⟩ := h4
    simp [andR] at hx
    exact Or.inr ⟨h6, hx.symm⟩
  | ok q =>
    obtain ⟨t, r⟩ := q
    obtain ⟨rfl, hr, rfl, rfl⟩ := h4
    simp only [andR] at hx
    obtain ⟨y2, hy2⟩ : ∃ y, rd5 (nms E.ss) E.fin n nt r = some y := some_of_and (x := rd5 (nms E.ss) E.fin n nt r) (f := fun u r' => okR (L ++ u) r') hx
    refine Or.inl ⟨rfl, rfl, n, y2, Nat.le_refl _, by rw [hr]; exact hy2, ?_⟩
    rw [hy2] at hx
    cases y2 with
    | error e => simp at hx; rw [← hx]; rfl
    | ok q => simp [okR] at hx; rw [← hx]; rfl
theorem LoopS.eof {E : Rv} {p n : Nat} {nt : NT} {x : Except Er (List Tk5 × List Wd)} {L : List Tk5} {p' : Nat} {er pl : Int} (h : LoopS E p n nt x L p' er pl) : er = 0 → pl = 0 := by
  rcases h.2.2.2 with h | h
  · exact fun _ => h.2.1
  · exact fun e => absurd e h.1
/-- The loop ends. -/
theorem LoopS.stop {E : Rv} {p n : Nat} {nt : NT} {x : Except Er (List Tk5 × List Wd)} {L : List Tk5} {p' : Nat} {er pl : Int} (h : LoopS E p n nt x L p' er pl)
    (hs : er = 0 → ∀ m y, rd5 (nms E.ss) E.fin m nt (E.ws.drop p') = some y → y = .ok ([], E.ws.drop p')) : Out E p x L p' er pl := by
  obtain ⟨h1, h2, h3, h4⟩ := h
  refine ⟨h1, h2, h3, ?_⟩
  rcases h4 with ⟨rfl, rfl, m, y, hm, hy, hx⟩ | ⟨h5, rfl⟩
  · rw [hs rfl m y hy] at hx
    subst hx
    exact ⟨by simp, rfl, rfl, rfl⟩
  · exact ⟨rfl, rfl, h5⟩
/-- One operator more, read from the left. -/
theorem LoopS.next {E : Rv} {p n op : Nat} (ho : op < 256) {nt sub : NT} {x : Except Er (List Tk5 × List Wd)} {L : List Tk5} {p' : Nat} {pl : Int} (h : LoopS E p n nt x L p' 0 pl)
    (hs : ∀ m y, rd5 (nms E.ss) E.fin m nt (E.ws.drop p') = some y → ∃ m', m = m' + 1 ∧ andR (rd5 (nms E.ss) E.fin m' sub (E.ws.drop (p' + 1))) (fun t r => andR (rd5 (nms E.ss) E.fin m' nt r) fun u r' => okR (t ++ [(op, 0)] ++ u) r') = some y) :
    ∃ m y1, m ≤ n ∧ rd5 (nms E.ss) E.fin m sub (E.ws.drop (p' + 1)) = some y1 ∧ ∀ L1 p1 e1 q1, Out E (p' + 1) y1 L1 p1 e1 q1 → LoopS E p n nt x (L ++ L1 ++ [(op, 0)]) p1 e1 q1 := by
  obtain ⟨h1, h2, h3, h4⟩ := h
  rcases h4 with ⟨_, _, m, y, hm, hy, hx⟩ | ⟨h5, _⟩
  · obtain ⟨m, rfl, hy2⟩ := hs m y hy
    obtain ⟨y1, hy1⟩ := some_of_and hy2
    rw [hy1] at hy2
    refine ⟨m, y1, by omega, hy1, fun L1 p1 e1 q1 hO => ?_⟩
    obtain ⟨g1, g2, g3, g4⟩ := hO
    refine ⟨by simp; omega, g2, byt_app (byt_app h3 g3) (byt_one ho), ?_⟩
    cases y1 with
    | error e =>
      obtain ⟨a, b⟩ := e
      obtain ⟨rfl, rfl, g5⟩ := g4
      simp [andR] at hy2
      exact Or.inr ⟨g5, by rw [hx, ← hy2]; rfl⟩
    | ok q =>
      obtain ⟨t, r⟩ := q
      obtain ⟨rfl, hr, rfl, rfl⟩ := g4
      simp only [andR] at hy2
      obtain ⟨y3, hy3⟩ : ∃ y, rd5 (nms E.ss) E.fin m nt r = some y := some_of_and (x := rd5 (nms E.ss) E.fin m nt r) (f := fun u r' => okR (L1 ++ [(op, 0)] ++ u) r') hy2
      refine Or.inl ⟨rfl, rfl, m, y3, by omega, by rw [hr]; exact hy3, ?_⟩
      rw [hy3] at hy2
      cases y3 with
      | error e => simp at hy2; rw [hx, ← hy2]; rfl
      | ok q => simp [okR] at hy2; rw [hx, ← hy2]; simp [addX]
  · exact absurd rfl h5
theorem Tryz.ris_any (E : Rv) (p : Nat) (er pl : Int) (h0 : er = 0 → pl = 0) (s : ByteArray) (hs : s.toList ≠ []) (w : World) (h : Rx E w p er pl) :
    Calls Tryz.prog 71 #[.pointer (some ⟨E.g, 0, none⟩), .string s] w fun e w' => e = .returned (.bool (decide (er = 0 ∧ hdT (E.ws.drop p) = s.toList))) ∧ ∃ n, w' = w.drewN n := by
  by_cases he : er = 0
  · have hp := h0 he
    subst he hp
    refine (Tryz.ris_ok E p 0 s hs w h).mono ?_
    rintro e w' ⟨h1, h2⟩
    exact ⟨by rw [h1]; simp, h2⟩
  · refine (Tryz.ris_bad E p er pl he s w h).mono ?_
    rintro e w' ⟨h1, h2⟩
    exact ⟨by rw [h1]; simp [he], h2⟩
def posR (w : World) (g : Nat) : Nat := match w.cell? ⟨g, 1, none⟩ with | some (.int _ z) => z.toNat | _ => 0
theorem posR_rx {E : Rv} {w : World} {p : Nat} {er pl : Int} (h : Rx E w p er pl) : posR w E.g = p := by obtain ⟨_, c1, _⟩ := h.c; unfold posR; rw [c1]; simp
set_option maxHeartbeats 4000000 in
set_option maxRecDepth 100000 in
theorem Tryz.rpath2_c (E : Rv) (n : Nat) (hB : RC E n .bar 70) : RK E (n + 1) (.pat 2) 53 2 := by
  intro p w x h hx
  rw [pat_star] at hx
  obtain ⟨y1, hy1⟩ := some_of_and hx
  rw [hy1] at hx
  have hb := hB p w y1 h hy1
  have hf := h.env.few
  have hlw := h.lt
  have hws := h.gr.size
  have h42 : ({ data := #[42] } : ByteArray).toList = [42] := by rw [ByteArray.toList_eq]
  have HS : Hid (∀ L p' er pl, Out E p y1 L p' er pl → LoopS E p n (.pmore 2) x L p' er pl) := fun L p' er pl hO => LoopS.start hO hx
  clear hx hy1 hB h
  go_enter Tryz.func53, Tryz.ntmps53
  go_wp2_with fail
  refine hb.mono ?_
  rintro e w1 ⟨v, L, p1, er, pl, rfl, ho, hO, hR, hg⟩
  have HL : Hid (LoopS E p n (.pmore 2) x L p1 er pl) := HS.out _ _ _ _ hO
  have HOw : Hid (w1.ownsRow w.heap.size 41 2 v L.length (encT L)) := ho
  have HR : Hid (Rx E w1 p1 er pl) := hR
  have HG : Hid (w.grownBy w1 (some E.g)) := hg
  clear ho hO hR hg hb HS
  go_wp2
  go_loopw [5] (fun l wr => ∃ (L : List Tk5) (p' : Nat) (er pl : Int), Hid (LoopS E p n (.pmore 2) x L p' er pl) ∧ Hid (Rx E wr p' er pl) ∧ Hid (w.grownBy wr (some E.g)) ∧ Hid (wr.ownsRow w.heap.size 41 2 l L.length (encT L))) (fun _ wr => E.ws.length - posR wr E.g)
  case atStart => exact ⟨L, p1, er, pl, HL, HR, HG, HOw⟩
  case round =>
    clear HL HR HG HOw
    obtain ⟨L, p', er, pl, HL, HR, HG, HO⟩ := hrel
    have hI := Tryz.ris_any E p' er pl HL.out.eof { data := #[42] } (by rw [h42]; simp) wr HR.out
    rw [h42] at hI
    have hlen : L.length + p ≤ p' ∧ p' ≤ E.ws.length := ⟨HL.out.1, HL.out.2.1⟩
    by_cases hgo : er = 0 ∧ hdT (E.ws.drop p') = [42]
    · rw [decide_eq_true hgo] at hI
      have hlt := hd_lt hgo.2 (by simp)
      have HN : Hid (LoopS E p n (.pmore 2) x (L ++ [(23, 0)]) (p' + 1) 0 0) := by
        obtain ⟨h1, h2, h3, h4⟩ := HL.out
        refine ⟨by simp; omega, by omega, byt_app h3 (byt_one (by omega)), Or.inl ⟨rfl, rfl, ?_⟩⟩
        rcases h4 with ⟨_, _, m, y, hm, hy, hx⟩ | ⟨h5, _⟩
        · obtain ⟨m, rfl⟩ : ∃ m', m = m' + 1 := by
            cases m with
            | zero => simp [rd5] at hy
            | succ m => exact ⟨m, rfl⟩
          rw [pmore_star, if_pos hgo.2, List.tail_drop] at hy
          obtain ⟨y1, hy1⟩ := some_of_and hy
          rw [hy1] at hy
          refine ⟨m, y1, by omega, hy1, ?_⟩
          cases y1 with
          | error e => simp [andR] at hy; rw [hx, ← hy]; rfl
          | ok q => simp [andR, okR] at hy; rw [hx, ← hy]; simp [addX]
        · exact absurd hgo.1 h5
      have hpl := HL.out.eof hgo.1
      have HPW : Hid (posR wr E.g = p') := posR_rx HR.out
      have her := hgo.1
      subst her hpl
      clear hgo HL h42
      go_wp2_with fail
      refine hI.mono ?_
      rintro e w2 ⟨rfl, q, rfl⟩
      have hR2 := HR.out.drew q
      obtain ⟨_, c1, _, _, _, _, z⟩ := hR2.c
      have z1 := z 1
      have HR3 : Hid (Rx E ((wr.drewN q).setCell ⟨E.g, 1, none⟩ (.int .i64 ((p' : Int) + 1))) (p' + 1) 0 0) := hR2.bump hlt
      have hg3 : wr.grownBy ((wr.drewN q).setCell ⟨E.g, 1, none⟩ (.int .i64 ((p' : Int) + 1))) (some E.g) := (grown_of (below_drewN (Below.refl _ _) q) _).trans (set_grown _ _ _ _)
      have HG3 : Hid (w.grownBy ((wr.drewN q).setCell ⟨E.g, 1, none⟩ (.int .i64 ((p' : Int) + 1))) (some E.g)) := HG.out.trans hg3
      have HO3 : Hid (((wr.drewN q).setCell ⟨E.g, 1, none⟩ (.int .i64 ((p' : Int) + 1))).ownsRow w.heap.size 41 2 u5 L.length (encT L)) := own_far HO.out hg3 hlw
      have hsz3 : w.heap.size ≤ wr.heap.size := by have := HG.out.size; exact this
      clear hR2 z hI hg3
      go_wp2_with (at_builtin; refine Tryz.append_tks rfl _ _ rfl w.heap.size _ L [(23, 0)] (some ⟨wr.heap.size, 0, none⟩) 1 1 rfl rfl (World.ownsRow.alloc HO3.out _) (by
        have := one_tk ((wr.drewN q).setCell ⟨E.g, 1, none⟩ (.int .i64 ((p' : Int) + 1))) (op := 23) (by omega)
        simpa using this) (by omega) (by simp) (by simp; omega) ?_)
      intro v4 w4 hown4 hgr4
      have hbn := below_new ((wr.drewN q).setCell ⟨E.g, 1, none⟩ (.int .i64 ((p' : Int) + 1))) (.cells #[.int .u8 23, .int .u8 0] 41)
      have HR4 : Hid (Rx E w4 (p' + 1) 0 0) := (HR3.out.up hbn).far hgr4 (fun b e => by have := own_ge HO3.out b e; omega)
      have HG4 : Hid (w.grownBy w4 (some E.g)) := grown_own (HG3.out.trans (grown_of hbn _)) hgr4 (own_ge HO3.out)
      have HO4 : Hid (w4.ownsRow w.heap.size 41 2 v4 (L ++ [(23, 0)]).length (encT (L ++ [(23, 0)]))) := by rw [List.length_append]; exact hown4
      have HPN : Hid (posR w4 E.g = p' + 1) := posR_rx HR4.out
      clear hown4 hgr4 hbn
      go_wp2
      go_roundw
      case rel => exact ⟨L ++ [(23, 0)], p' + 1, 0, 0, HN, HR4, HG4, HO4⟩
      case measure => rw [HPN.out, HPW.out]; omega
    · rw [decide_eq_false hgo] at hI
      have HOut : Hid (Out E p x L p' er pl) := HL.out.stop (fun he m y hy => by
        cases m with
        | zero => simp [rd5] at hy
        | succ m =>
          rw [pmore_star, if_neg (fun e => hgo ⟨he, e⟩)] at hy
          simp [okR] at hy; exact hy.symm)
      clear hgo HL h42
      go_wp2_with fail
      refine hI.mono ?_
      rintro e w2 ⟨rfl, q, rfl⟩
      have HRet : Hid (RP E p w x (.returned u5) (wr.drewN q)) := ⟨u5, L, p', er, pl, rfl, HO.out, HOut.out, HR.out.drew q, HG.out.trans (grown_of (below_drewN (Below.refl _ _) q) _)⟩
      clear hI
      go_wp2
      go_ret
      exact HRet.out

theorem Tryz.sizeOpc : (Tryz.prog.info? 39).map (·.size) = some 1 := by kernel_rfl
theorem Tryz.idxOp (g n k : Nat) (hk : k < n) (w : World) : (Instr.indexAt 131 (.slice (some ⟨g, 0, none⟩) n n) (.int .i64 k)).run Tryz.prog w = .ok (.pointer (some ⟨g, k, none⟩)) w := by
  have := idx_of Tryz.underlying131 Tryz.sizeOpc (a := some ⟨g, 0, none⟩) (cap := n) (n := n) (fun h => by cases h) k w hk
  rw [this]; simp [adOf, Addr.add]; omega

set_option maxHeartbeats 4000000 in
set_option maxRecDepth 100000 in
theorem Tryz.rpath0_c (E : Rv) (n : Nat) (hP : RK E n (.pat 1) 53 1) : RK E (n + 1) (.pat 0) 53 0 := by
  intro p w0 x h hx
  rw [pat_down _ _ _ 0 _ (by omega)] at hx
  obtain ⟨y1, hy1⟩ := some_of_and hx
  rw [hy1] at hx
  obtain ⟨w, hw⟩ : ∃ w, w = (w0.alloc (.cells #[.string { data := #[43] }, .string { data := #[59] }] 9)).alloc (.cells #[.int .u8 21, .int .u8 22] 39) := ⟨_, rfl⟩
  have hbw : Below w0.heap.size w0 w := by rw [hw]; exact (below_new _ _).alloc (by simp) _
  have hzw : w0.heap.size + 1 < w.heap.size := by rw [hw]; simp
  have hS1 : w.heap[w0.heap.size]? = some (.cells #[.string { data := #[43] }, .string { data := #[59] }] 9 (0, 0)) := by
    rw [hw, Lib.alloc_old _ _ _ (by simp)]; exact (MapKept.heap_alloc w0 _).1
  have hS2 : w.heap[w0.heap.size + 1]? = some (.cells #[.int .u8 21, .int .u8 22] 39 (0, 0)) := by
    have := (MapKept.heap_alloc (w0.alloc (.cells #[.string { data := #[43] }, .string { data := #[59] }] 9)) (.cells #[.int .u8 21, .int .u8 22] 39)).1
    rw [hw]; simpa using this
  have hC := h.up hbw
  have hb := hP p w y1 hC hy1
  have hf := h.env.few
  have hlw := h.lt
  have hgg : E.g < w0.heap.size := hlw
  have hws := h.gr.size
  have hsg : ({ data := #[43] } : ByteArray).toList = [43] := by rw [ByteArray.toList_eq]
  have hik : ∀ W, (Instr.indexAt 22 (.slice (some ⟨w0.heap.size, 0, none⟩) 2 2) (.int .i64 0)).run Tryz.prog W = .ok (.pointer (some ⟨w0.heap.size, 0, none⟩)) W := fun W => Tryz.idxS w0.heap.size 2 0 (by omega) W
  have hio : ∀ W, (Instr.indexAt 131 (.slice (some ⟨w0.heap.size + 1, 0, none⟩) 2 2) (.int .i64 0)).run Tryz.prog W = .ok (.pointer (some ⟨w0.heap.size + 1, 0, none⟩)) W := fun W => Tryz.idxOp (w0.heap.size + 1) 2 0 (by omega) W
  have HS : Hid (∀ L p' er pl, Out E p y1 L p' er pl → LoopS E p n (.pmore 0) x L p' er pl) := fun L p' er pl hO => LoopS.start hO hx
  have HM : Hid (∀ m ws, rd5 (nms E.ss) E.fin (m + 1) (.pmore 0) ws = if hdT ws = [43] then andR (rd5 (nms E.ss) E.fin m (.pat 1) ws.tail) (fun t r => andR (rd5 (nms E.ss) E.fin m (.pmore 0) r) fun u r' => okR (t ++ [(21, 0)] ++ u) r') else okR [] ws) :=
    fun m ws => pmore_left (nms E.ss) E.fin m 0 ws [43] 21 (by omega) (fun s' => by simp [pOf])
  have HP : Hid (RK E n (.pat 1) 53 1) := hP
  have HS1 : Hid (w.heap[w0.heap.size]? = some (.cells #[.string { data := #[43] }, .string { data := #[59] }] 9 (0, 0))) := hS1
  have HS2 : Hid (w.heap[w0.heap.size + 1]? = some (.cells #[.int .u8 21, .int .u8 22] 39 (0, 0))) := hS2
  have HBW : Hid (Below w0.heap.size w0 w) := hbw
  have hg0 : E.w0.heap.size ≤ w.heap.size := by omega
  clear hx hy1 hP h hC hS1 hS2 hbw
  go_enter Tryz.func53, Tryz.ntmps53
  go_wp2_with fail
  rw [← hw]
  clear hw
  refine hb.mono ?_
  rintro e w1 ⟨v, L, p1, er, pl, rfl, ho, hO, hR, hg⟩
  have HL : Hid (LoopS E p n (.pmore 0) x L p1 er pl) := HS.out _ _ _ _ hO
  have HOw : Hid (w1.ownsRow w.heap.size 41 2 v L.length (encT L)) := ho
  have HR : Hid (Rx E w1 p1 er pl) := hR
  have HG : Hid (w.grownBy w1 (some E.g)) := hg
  clear ho hO hR hg hb HS
  go_wp2
  go_loopw [8] (fun l wr => ∃ (L : List Tk5) (p' : Nat) (er pl : Int), Hid (LoopS E p n (.pmore 0) x L p' er pl) ∧ Hid (Rx E wr p' er pl) ∧ Hid (w.grownBy wr (some E.g)) ∧ Hid (wr.ownsRow w.heap.size 41 2 l L.length (encT L))) (fun _ wr => E.ws.length - posR wr E.g)
  case atStart => exact ⟨L, p1, er, pl, HL, HR, HG, HOw⟩
  case round =>
    clear HL HR HG HOw
    obtain ⟨L, p', er, pl, HL, HR, HG, HO⟩ := hrel
    have hI := Tryz.ris_any E p' er pl HL.out.eof { data := #[43] } (by rw [hsg]; simp) wr HR.out
    rw [hsg] at hI
    have hlen : L.length + p ≤ p' ∧ p' ≤ E.ws.length := ⟨HL.out.1, HL.out.2.1⟩
    have hr1 : wr.heap[w0.heap.size]? = _ := (HG.out.block w0.heap.size (by omega) (fun e => by injection e with e; omega)).trans HS1.out
    have cw : wr.cell? ⟨w0.heap.size, 0, none⟩ = some (.string { data := #[43] }) := cell_row hr1 0
    clear hr1
    by_cases hgo : er = 0 ∧ hdT (E.ws.drop p') = [43]
    · rw [decide_eq_true hgo] at hI
      have hlt := hd_lt hgo.2 (by simp)
      have hpl := HL.out.eof hgo.1
      have her := hgo.1
      have hhd := hgo.2
      subst her hpl
      obtain ⟨m, y2, hm, hy2, hnx⟩ := HL.out.next (op := 21) (sub := .pat 1) (by omega) (fun m y hy => by
        cases m with
        | zero => simp [rd5] at hy
        | succ m =>
          rw [HM.out, if_pos hhd, List.tail_drop] at hy
          exact ⟨m, rfl, hy⟩)
      have HN : Hid (∀ L1 p1 e1 q1, Out E (p' + 1) y2 L1 p1 e1 q1 → LoopS E p n (.pmore 0) x (L ++ L1 ++ [(21, 0)]) p1 e1 q1) := hnx
      have HPW : Hid (posR wr E.g = p') := posR_rx HR.out
      have hA := fun q => HP.out.le hm (p' + 1) _ y2 ((HR.out.drew q).bump hlt) hy2
      clear hgo HL hsg hy2 hnx hhd HM
      go_wp2_with fail
      refine hI.mono ?_
      rintro e w2 ⟨rfl, q, rfl⟩
      have hR2 := HR.out.drew q
      obtain ⟨_, c1, _, _, _, _, z⟩ := hR2.c
      have z1 := z 1
      have hg3 : wr.grownBy ((wr.drewN q).setCell ⟨E.g, 1, none⟩ (.int .i64 ((p' : Int) + 1))) (some E.g) := (grown_of (below_drewN (Below.refl _ _) q) _).trans (set_grown _ _ _ _)
      have hA := hA q
      have HO3 : Hid (((wr.drewN q).setCell ⟨E.g, 1, none⟩ (.int .i64 ((p' : Int) + 1))).ownsRow w.heap.size 41 2 u8 L.length (encT L)) := own_far HO.out hg3 (by omega)
      have HG3 : Hid (w.grownBy ((wr.drewN q).setCell ⟨E.g, 1, none⟩ (.int .i64 ((p' : Int) + 1))) (some E.g)) := HG.out.trans hg3
      clear hR2 z hI hg3
      go_wp2_with fail
      refine hA.mono ?_
      rintro e w4 ⟨v4, L1, p2, e2, q2, rfl, ho4, hO4, hR4, hg4⟩
      have hL1 := hO4.few hf
      have hLb := hO4.2.2.1
      have hL2 : L1.length + (p' + 1) ≤ p2 := hO4.1
      obtain ⟨a4, k4, rfl, hT4⟩ := own_tks ho4 hLb
      have HT4 : Hid (TkSl w4 a4 L1.length k4 L1) := hT4
      have HL4 : Hid (LoopS E p n (.pmore 0) x (L ++ L1 ++ [(21, 0)]) p2 e2 q2) := HN.out _ _ _ _ hO4
      have HR4 : Hid (Rx E w4 p2 e2 q2) := hR4
      have HG4 : Hid (w.grownBy w4 (some E.g)) := HG3.out.trans hg4
      have HO4 : Hid (w4.ownsRow w.heap.size 41 2 u8 L.length (encT L)) := own_far HO3.out hg4 (by omega)
      have hsz4 := HG4.out.size
      clear ho4 hO4 hR4 hg4 hT4 hA HN
      go_wp2_with (at_builtin; refine Tryz.append_tks rfl _ _ rfl w.heap.size _ L L1 a4 L1.length k4 rfl rfl HO4.out HT4.out (by omega) (by omega) (by omega) ?_)
      intro v5 w5 hown5 hgr5
      have HR5 : Hid (Rx E w5 p2 e2 q2) := HR4.out.far hgr5 (fun b e => by have := own_ge HO4.out b e; omega)
      have HG5 : Hid (w.grownBy w5 (some E.g)) := grown_own HG4.out hgr5 (own_ge HO4.out)
      have HO5 : Hid (w5.ownsRow w.heap.size 41 2 v5 (L.length + L1.length) (encT (L ++ L1))) := hown5
      have hsz5 := HG5.out.size
      have hr5 : w5.heap[w0.heap.size + 1]? = _ := (HG5.out.block (w0.heap.size + 1) (by omega) (fun e => by injection e with e; omega)).trans HS2.out
      have co : w5.cell? ⟨w0.heap.size + 1, 0, none⟩ = some (.int .u8 21) := cell_row hr5 0
      have hl5 : (L ++ L1).length ≤ 10000000 := by simp; omega
      obtain ⟨a5, k5, rfl⟩ := own_sl HO5.out
      clear hown5 hgr5 HT4 hr5
      go_wp2_with (at_builtin; refine Tryz.append_tks rfl _ _ rfl w.heap.size _ (L ++ L1) [(21, 0)] (some ⟨w5.heap.size, 0, none⟩) 1 1 rfl rfl (by rw [List.length_append]; exact World.ownsRow.alloc HO5.out _) (one_tk w5 (op := 21) (by omega)) hl5 (by simp) (by simp; omega) ?_)
      intro v6 w6 hown6 hgr6
      have hbn := below_new w5 (.cells #[.int .u8 21, .int .u8 0] 41)
      have HR6 : Hid (Rx E w6 p2 e2 q2) := (HR5.out.up hbn).far hgr6 (fun b e => by have := own_ge HO5.out b e; omega)
      have HG6 : Hid (w.grownBy w6 (some E.g)) := grown_own (HG5.out.trans (grown_of hbn _)) hgr6 (own_ge HO5.out)
      have HO6 : Hid (w6.ownsRow w.heap.size 41 2 v6 (L ++ L1 ++ [(21, 0)]).length (encT (L ++ L1 ++ [(21, 0)]))) := by
        show World.ownsRow _ _ _ _ _ _ _
        simpa using hown6
      have HPN : Hid (posR w6 E.g = p2) := posR_rx HR6.out
      have hp2 : p2 ≤ E.ws.length := HR6.out.ple
      clear hown6 hgr6 hbn
      go_wp2
      go_roundw
      case rel => exact ⟨L ++ L1 ++ [(21, 0)], p2, e2, q2, HL4, HR6, HG6, HO6⟩
      case measure => rw [HPN.out, HPW.out]; omega
    · rw [decide_eq_false hgo] at hI
      have HOut : Hid (Out E p x L p' er pl) := HL.out.stop (fun he m y hy => by
        cases m with
        | zero => simp [rd5] at hy
        | succ m =>
          rw [HM.out, if_neg (fun e => hgo ⟨he, e⟩)] at hy
          simp [okR] at hy; exact hy.symm)
      clear hgo HL hsg HM
      go_wp2_with fail
      refine hI.mono ?_
      rintro e w2 ⟨rfl, q, rfl⟩
      have hG2 : w0.grownBy (wr.drewN q) (some E.g) := ((grown_of HBW.out _).trans HG.out).trans (grown_of (below_drewN (Below.refl _ _) q) _)
      have HRet : Hid (RP E p w0 x (.returned u8) (wr.drewN q)) := ⟨u8, L, p', er, pl, rfl, own_down HO.out (by omega), HOut.out, HR.out.drew q, hG2⟩
      clear hI hG2
      go_wp2
      go_ret
      exact HRet.out

set_option maxHeartbeats 4000000 in
set_option maxRecDepth 100000 in
theorem Tryz.rpath1_c (E : Rv) (n : Nat) (hP : RK E n (.pat 2) 53 2) : RK E (n + 1) (.pat 1) 53 1 := by
  intro p w0 x h hx
  rw [pat_down _ _ _ 1 _ (by omega)] at hx
  obtain ⟨y1, hy1⟩ := some_of_and hx
  rw [hy1] at hx
  obtain ⟨w, hw⟩ : ∃ w, w = (w0.alloc (.cells #[.string { data := #[43] }, .string { data := #[59] }] 9)).alloc (.cells #[.int .u8 21, .int .u8 22] 39) := ⟨_, rfl⟩
  have hbw : Below w0.heap.size w0 w := by rw [hw]; exact (below_new _ _).alloc (by simp) _
  have hzw : w0.heap.size + 1 < w.heap.size := by rw [hw]; simp
  have hS1 : w.heap[w0.heap.size]? = some (.cells #[.string { data := #[43] }, .string { data := #[59] }] 9 (0, 0)) := by
    rw [hw, Lib.alloc_old _ _ _ (by simp)]; exact (MapKept.heap_alloc w0 _).1
  have hS2 : w.heap[w0.heap.size + 1]? = some (.cells #[.int .u8 21, .int .u8 22] 39 (0, 0)) := by
    have := (MapKept.heap_alloc (w0.alloc (.cells #[.string { data := #[43] }, .string { data := #[59] }] 9)) (.cells #[.int .u8 21, .int .u8 22] 39)).1
    rw [hw]; simpa using this
  have hC := h.up hbw
  have hb := hP p w y1 hC hy1
  have hf := h.env.few
  have hlw := h.lt
  have hgg : E.g < w0.heap.size := hlw
  have hws := h.gr.size
  have hsg : ({ data := #[59] } : ByteArray).toList = [59] := by rw [ByteArray.toList_eq]
  have hik : ∀ W, (Instr.indexAt 22 (.slice (some ⟨w0.heap.size, 0, none⟩) 2 2) (.int .i64 1)).run Tryz.prog W = .ok (.pointer (some ⟨w0.heap.size, 1, none⟩)) W := fun W => Tryz.idxS w0.heap.size 2 1 (by omega) W
  have hio : ∀ W, (Instr.indexAt 131 (.slice (some ⟨w0.heap.size + 1, 0, none⟩) 2 2) (.int .i64 1)).run Tryz.prog W = .ok (.pointer (some ⟨w0.heap.size + 1, 1, none⟩)) W := fun W => Tryz.idxOp (w0.heap.size + 1) 2 1 (by omega) W
  have HS : Hid (∀ L p' er pl, Out E p y1 L p' er pl → LoopS E p n (.pmore 1) x L p' er pl) := fun L p' er pl hO => LoopS.start hO hx
  have HM : Hid (∀ m ws, rd5 (nms E.ss) E.fin (m + 1) (.pmore 1) ws = if hdT ws = [59] then andR (rd5 (nms E.ss) E.fin m (.pat 2) ws.tail) (fun t r => andR (rd5 (nms E.ss) E.fin m (.pmore 1) r) fun u r' => okR (t ++ [(22, 0)] ++ u) r') else okR [] ws) :=
    fun m ws => pmore_left (nms E.ss) E.fin m 1 ws [59] 22 (by omega) (fun s' => by simp [pOf])
  have HP : Hid (RK E n (.pat 2) 53 2) := hP
  have HS1 : Hid (w.heap[w0.heap.size]? = some (.cells #[.string { data := #[43] }, .string { data := #[59] }] 9 (0, 0))) := hS1
  have HS2 : Hid (w.heap[w0.heap.size + 1]? = some (.cells #[.int .u8 21, .int .u8 22] 39 (0, 0))) := hS2
  have HBW : Hid (Below w0.heap.size w0 w) := hbw
  have hg0 : E.w0.heap.size ≤ w.heap.size := by omega
  clear hx hy1 hP h hC hS1 hS2 hbw
  go_enter Tryz.func53, Tryz.ntmps53
  go_wp2_with fail
  rw [← hw]
  clear hw
  refine hb.mono ?_
  rintro e w1 ⟨v, L, p1, er, pl, rfl, ho, hO, hR, hg⟩
  have HL : Hid (LoopS E p n (.pmore 1) x L p1 er pl) := HS.out _ _ _ _ hO
  have HOw : Hid (w1.ownsRow w.heap.size 41 2 v L.length (encT L)) := ho
  have HR : Hid (Rx E w1 p1 er pl) := hR
  have HG : Hid (w.grownBy w1 (some E.g)) := hg
  clear ho hO hR hg hb HS
  go_wp2
  go_loopw [8] (fun l wr => ∃ (L : List Tk5) (p' : Nat) (er pl : Int), Hid (LoopS E p n (.pmore 1) x L p' er pl) ∧ Hid (Rx E wr p' er pl) ∧ Hid (w.grownBy wr (some E.g)) ∧ Hid (wr.ownsRow w.heap.size 41 2 l L.length (encT L))) (fun _ wr => E.ws.length - posR wr E.g)
  case atStart => exact ⟨L, p1, er, pl, HL, HR, HG, HOw⟩
  case round =>
    clear HL HR HG HOw
    obtain ⟨L, p', er, pl, HL, HR, HG, HO⟩ := hrel
    have hI := Tryz.ris_any E p' er pl HL.out.eof { data := #[59] } (by rw [hsg]; simp) wr HR.out
    rw [hsg] at hI
    have hlen : L.length + p ≤ p' ∧ p' ≤ E.ws.length := ⟨HL.out.1, HL.out.2.1⟩
    have hr1 : wr.heap[w0.heap.size]? = _ := (HG.out.block w0.heap.size (by omega) (fun e => by injection e with e; omega)).trans HS1.out
    have cw : wr.cell? ⟨w0.heap.size, 1, none⟩ = some (.string { data := #[59] }) := cell_row hr1 1
    clear hr1
    by_cases hgo : er = 0 ∧ hdT (E.ws.drop p') = [59]
    · rw [decide_eq_true hgo] at hI
      have hlt := hd_lt hgo.2 (by simp)
      have hpl := HL.out.eof hgo.1
      have her := hgo.1
      have hhd := hgo.2
      subst her hpl
      obtain ⟨m, y2, hm, hy2, hnx⟩ := HL.out.next (op := 22) (sub := .pat 2) (by omega) (fun m y hy => by
        cases m with
        | zero => simp [rd5] at hy
        | succ m =>
          rw [HM.out, if_pos hhd, List.tail_drop] at hy
          exact ⟨m, rfl, hy⟩)
      have HN : Hid (∀ L1 p1 e1 q1, Out E (p' + 1) y2 L1 p1 e1 q1 → LoopS E p n (.pmore 1) x (L ++ L1 ++ [(22, 0)]) p1 e1 q1) := hnx
      have HPW : Hid (posR wr E.g = p') := posR_rx HR.out
      have hA := fun q => HP.out.le hm (p' + 1) _ y2 ((HR.out.drew q).bump hlt) hy2
      clear hgo HL hsg hy2 hnx hhd HM
      go_wp2_with fail
      refine hI.mono ?_
      rintro e w2 ⟨rfl, q, rfl⟩
      have hR2 := HR.out.drew q
      obtain ⟨_, c1, _, _, _, _, z⟩ := hR2.c
      have z1 := z 1
      have hg3 : wr.grownBy ((wr.drewN q).setCell ⟨E.g, 1, none⟩ (.int .i64 ((p' : Int) + 1))) (some E.g) := (grown_of (below_drewN (Below.refl _ _) q) _).trans (set_grown _ _ _ _)
      have hA := hA q
      have HO3 : Hid (((wr.drewN q).setCell ⟨E.g, 1, none⟩ (.int .i64 ((p' : Int) + 1))).ownsRow w.heap.size 41 2 u8 L.length (encT L)) := own_far HO.out hg3 (by omega)
      have HG3 : Hid (w.grownBy ((wr.drewN q).setCell ⟨E.g, 1, none⟩ (.int .i64 ((p' : Int) + 1))) (some E.g)) := HG.out.trans hg3
      clear hR2 z hI hg3
      go_wp2_with fail
      refine hA.mono ?_
      rintro e w4 ⟨v4, L1, p2, e2, q2, rfl, ho4, hO4, hR4, hg4⟩
      have hL1 := hO4.few hf
      have hLb := hO4.2.2.1
      have hL2 : L1.length + (p' + 1) ≤ p2 := hO4.1
      obtain ⟨a4, k4, rfl, hT4⟩ := own_tks ho4 hLb
      have HT4 : Hid (TkSl w4 a4 L1.length k4 L1) := hT4
      have HL4 : Hid (LoopS E p n (.pmore 1) x (L ++ L1 ++ [(22, 0)]) p2 e2 q2) := HN.out _ _ _ _ hO4
      have HR4 : Hid (Rx E w4 p2 e2 q2) := hR4
      have HG4 : Hid (w.grownBy w4 (some E.g)) := HG3.out.trans hg4
      have HO4 : Hid (w4.ownsRow w.heap.size 41 2 u8 L.length (encT L)) := own_far HO3.out hg4 (by omega)
      have hsz4 := HG4.out.size
      clear ho4 hO4 hR4 hg4 hT4 hA HN
      go_wp2_with (at_builtin; refine Tryz.append_tks rfl _ _ rfl w.heap.size _ L L1 a4 L1.length k4 rfl rfl HO4.out HT4.out (by omega) (by omega) (by omega) ?_)
      intro v5 w5 hown5 hgr5
      have HR5 : Hid (Rx E w5 p2 e2 q2) := HR4.out.far hgr5 (fun b e => by have := own_ge HO4.out b e; omega)
      have HG5 : Hid (w.grownBy w5 (some E.g)) := grown_own HG4.out hgr5 (own_ge HO4.out)
      have HO5 : Hid (w5.ownsRow w.heap.size 41 2 v5 (L.length + L1.length) (encT (L ++ L1))) := hown5
      have hsz5 := HG5.out.size
      have hr5 : w5.heap[w0.heap.size + 1]? = _ := (HG5.out.block (w0.heap.size + 1) (by omega) (fun e => by injection e with e; omega)).trans HS2.out
      have co : w5.cell? ⟨w0.heap.size + 1, 1, none⟩ = some (.int .u8 22) := cell_row hr5 1
      have hl5 : (L ++ L1).length ≤ 10000000 := by simp; omega
      obtain ⟨a5, k5, rfl⟩ := own_sl HO5.out
      clear hown5 hgr5 HT4 hr5
      go_wp2_with (at_builtin; refine Tryz.append_tks rfl _ _ rfl w.heap.size _ (L ++ L1) [(22, 0)] (some ⟨w5.heap.size, 0, none⟩) 1 1 rfl rfl (by rw [List.length_append]; exact World.ownsRow.alloc HO5.out _) (one_tk w5 (op := 22) (by omega)) hl5 (by simp) (by simp; omega) ?_)
      intro v6 w6 hown6 hgr6
      have hbn := below_new w5 (.cells #[.int .u8 22, .int .u8 0] 41)
      have HR6 : Hid (Rx E w6 p2 e2 q2) := (HR5.out.up hbn).far hgr6 (fun b e => by have := own_ge HO5.out b e; omega)
      have HG6 : Hid (w.grownBy w6 (some E.g)) := grown_own (HG5.out.trans (grown_of hbn _)) hgr6 (own_ge HO5.out)
      have HO6 : Hid (w6.ownsRow w.heap.size 41 2 v6 (L ++ L1 ++ [(22, 0)]).length (encT (L ++ L1 ++ [(22, 0)]))) := by
        show World.ownsRow _ _ _ _ _ _ _
        simpa using hown6
      have HPN : Hid (posR w6 E.g = p2) := posR_rx HR6.out
      have hp2 : p2 ≤ E.ws.length := HR6.out.ple
      clear hown6 hgr6 hbn
      go_wp2
      go_roundw
      case rel => exact ⟨L ++ L1 ++ [(22, 0)], p2, e2, q2, HL4, HR6, HG6, HO6⟩
      case measure => rw [HPN.out, HPW.out]; omega
    · rw [decide_eq_false hgo] at hI
      have HOut : Hid (Out E p x L p' er pl) := HL.out.stop (fun he m y hy => by
        cases m with
        | zero => simp [rd5] at hy
        | succ m =>
          rw [HM.out, if_neg (fun e => hgo ⟨he, e⟩)] at hy
          simp [okR] at hy; exact hy.symm)
      clear hgo HL hsg HM
      go_wp2_with fail
      refine hI.mono ?_
      rintro e w2 ⟨rfl, q, rfl⟩
      have hG2 : w0.grownBy (wr.drewN q) (some E.g) := ((grown_of HBW.out _).trans HG.out).trans (grown_of (below_drewN (Below.refl _ _) q) _)
      have HRet : Hid (RP E p w0 x (.returned u8) (wr.drewN q)) := ⟨u8, L, p', er, pl, rfl, own_down HO.out (by omega), HOut.out, HR.out.drew q, hG2⟩
      clear hI hG2
      go_wp2
      go_ret
      exact HRet.out
end Go.Proofs.YtfipefbaabkdeaaGreatDoor
namespace Go.Proofs.YtfipefbaabkdeaaGreatDoor
open Go.RowKit Go.Maps

def opL : List Bytes → List Nat → Bytes → Option Nat
  | w :: Ws, o :: Os, s => if s = w then some o else opL Ws Os s
  | _, _, _ => none
def lvW : Nat → List Bytes
  | 0 => [[60, 45, 62]] | 1 => [[45, 62]] | 2 => [[124]] | 3 => [[38]] | _ => [[85], [82]]
def lvO : Nat → List Nat
  | 0 => [14] | 1 => [13] | 2 => [12] | 3 => [11] | _ => [15, 16]
theorem opL_lev {k : Nat} (hk : k < 5) (s : Bytes) : opL (lvW k) (lvO k) s = opOf k s := by
  have : k = 0 ∨ k = 1 ∨ k = 2 ∨ k = 3 ∨ k = 4 := by omega
  rcases this with rfl | rfl | rfl | rfl | rfl <;> simp [opL, lvW, lvO, opOf]
/-- A list of operators in memory. -/
def OpAt (w : World) (g : Nat) (os : List Nat) : Prop := w.heap[g]? = some (.cells (os.map fun (o : Nat) => Value.int .u8 (o : Int)).toArray 39 (0, 0))
theorem OpAt.cell {w : World} {g : Nat} {os : List Nat} (h : OpAt w g os) {k : Nat} (hk : k < os.length) : w.cell? ⟨g, k, none⟩ = some (.int .u8 ((os.getD k 0 : Nat) : Int)) := by
  unfold OpAt at h; simp [World.cell?, h, List.getD_eq_getElem?_getD, List.getElem?_eq_getElem hk]
theorem Tryz.sizeLv : (Tryz.prog.info? 137).map (·.size) = some 3 := by kernel_rfl
/-- The value of a level. -/
def lvV (gw go n : Nat) (b : Bool) : Value := .agg #[.slice (some ⟨gw, 0, none⟩) n n, .slice (some ⟨go, 0, none⟩) n n, .bool b]
def RopP (E : Rv) (p : Nat) (o : Option Nat) (w : World) (e : Ending) (w' : World) : Prop :=
  w.grownBy w' (some E.g) ∧ match o with
    | some op => e = .returned (.tuple #[.agg #[.int .u8 (op : Int), .int .u8 0], .bool true]) ∧ Rx E w' (p + 1) 0 0
    | none => e = .returned (.tuple #[.agg #[.int .u8 0, .int .u8 0], .bool false]) ∧ Rx E w' p 0 0
theorem tok_set {w : World} {b : Nat} {x y : Value} (h : w.heap[b]? = some (.cells #[x, y] 41 (0, 0))) (o : Int) : ((w.setCell ⟨b, 0, none⟩ (.int .u8 o)).setCell ⟨b, 1, none⟩ (.int .u8 0)).heap[b]? = some (.cells #[.int .u8 o, .int .u8 0] 41 (0, 0)) ∧ w.grownBy ((w.setCell ⟨b, 0, none⟩ (.int .u8 o)).setCell ⟨b, 1, none⟩ (.int .u8 0)) (some b) := by
  have k2 := heap_setCell_same w b 0 _ _ (.int .u8 o) h
  have k3 := heap_setCell_same _ b 1 _ _ (.int .u8 0) k2
  exact ⟨k3, (set_grown _ _ _ _).trans (set_grown _ _ _ _)⟩
set_option maxHeartbeats 4000000 in
set_option maxRecDepth 100000 in
theorem Tryz.rop_any (E : Rv) (p gw go n : Nat) (b : Bool) (Ws : List Bytes) (Os : List Nat) (w0 : World) (h : Rx E w0 p 0 0) (hW : StAt w0 gw Ws) (hO : OpAt w0 go Os) (hn : Ws.length = n) (hm : Os.length = n) (hb : n ≤ 100) (hgo : go ≠ E.g) (hne : ∀ s ∈ Ws, s ≠ []) (hp1 : ∀ o, opL Ws Os (hdT (E.ws.drop p)) = some o → p < E.ws.length) :
    Calls Tryz.prog 74 #[.pointer (some ⟨E.g, 0, none⟩), lvV gw go n b] w0 (RopP E p (opL Ws Os (hdT (E.ws.drop p))) w0) := by
  obtain ⟨w, hw⟩ : ∃ w, w = (w0.alloc (.cells #[.slice (some ⟨gw, 0, none⟩) n n, .slice (some ⟨go, 0, none⟩) n n, .bool b] 137)).alloc (.cells #[.int .u8 0, .int .u8 0] 41) := ⟨_, rfl⟩
  have hbw : Below w0.heap.size w0 w := by rw [hw]; exact (below_new _ _).alloc (by simp) _
  have hbx : w.heap[w0.heap.size]? = some (.cells #[.slice (some ⟨gw, 0, none⟩) n n, .slice (some ⟨go, 0, none⟩) n n, .bool b] 137 (0, 0)) := by
    rw [hw, Lib.alloc_old _ _ _ (by simp)]; exact (MapKept.heap_alloc w0 _).1
  have htk : w.heap[w0.heap.size + 1]? = some (.cells #[.int .u8 0, .int .u8 0] 41 (0, 0)) := by
    have := (MapKept.heap_alloc (w0.alloc (.cells #[.slice (some ⟨gw, 0, none⟩) n n, .slice (some ⟨go, 0, none⟩) n n, .bool b] 137)) (.cells #[.int .u8 0, .int .u8 0] 41)).1
    rw [hw]; simpa using this
  have hzw : w0.heap.size + 1 < w.heap.size := by rw [hw]; simp
  have hC := h.up hbw
  have hW' := hW.up hbw
  have hO' : OpAt w go Os := (hbw.block go (Array.getElem?_eq_some_iff.1 hO).1).trans hO
  have x0 : w.cell? ⟨w0.heap.size, 0, none⟩ = some (.slice (some ⟨gw, 0, none⟩) n n) := cell_row hbx 0
  have x1 : w.cell? ⟨w0.heap.size, 1, none⟩ = some (.slice (some ⟨go, 0, none⟩) n n) := cell_row hbx 1
  have HX : Hid (w.heap[w0.heap.size + 1]? = some (.cells #[.int .u8 0, .int .u8 0] 41 (0, 0))) := htk
  have hf := h.env.few
  have hlw := h.lt
  have hes := h.gr.size
  have hidx := Tryz.idxS gw n
  have hido := Tryz.idxOp go n
  have HC : Hid (Rx E w p 0 0) := hC
  have HWS : Hid (StAt w gw Ws) := hW'
  have HOS : Hid (OpAt w go Os) := hO'
  have HBW : Hid (Below w0.heap.size w0 w) := hbw
  have HNE : Hid (∀ s ∈ Ws, s ≠ []) := hne
  have HP1 : Hid (∀ o, opL Ws Os (hdT (E.ws.drop p)) = some o → p < E.ws.length) := hp1
  have HN : Hid (Ws.length = n ∧ Os.length = n) := ⟨hn, hm⟩
  unfold lvV
  obtain ⟨O, hOO⟩ : ∃ O, opL Ws Os (hdT (E.ws.drop p)) = O := ⟨_, rfl⟩
  have HOO : Hid (opL Ws Os (hdT (E.ws.drop p)) = O) := hOO
  rw [hOO]
  clear h hW hO hC hW' hO' hbw hne hp1 hn hm htk hbx hOO
  go_enter Tryz.func74, Tryz.ntmps74
  go_wp2
  rw [← hw]
  clear hw
  go_loopw [6] (fun i wr => ∃ k q : Nat, k ≤ n ∧ i = .int .i64 k ∧ wr = w.drewN q ∧ Hid (O = opL (Ws.drop k) (Os.drop k) (hdT (E.ws.drop p)))) (fun i _ => n - (intOf i).toNat)
  case atStart => exact ⟨0, 0, Nat.zero_le _, rfl, rfl, HOO.out.symm⟩
  case round =>
    obtain ⟨k, q, hk, rfl, rfl, HK⟩ := hrel
    by_cases hlt : k < n
    · have hWk : k < Ws.length := by rw [HN.out.1]; exact hlt
      have hOk : k < Os.length := by rw [HN.out.2]; exact hlt
      have cw : (w.drewN q).cell? ⟨gw, k, none⟩ = some (.string (mkB (Ws.getD k []))) := HWS.out.cell hWk
      have co : w.cell? ⟨go, k, none⟩ = some (.int .u8 ((Os.getD k 0 : Nat) : Int)) := HOS.out.cell hOk
      have hik := fun W => hidx k hlt W
      have hio := fun W => hido k hlt W
      have hmem : Ws.getD k [] ∈ Ws := by rw [List.getD_eq_getElem?_getD, List.getElem?_eq_getElem hWk]; exact List.getElem_mem hWk
      have hI := Tryz.ris_at E p (mkB (Ws.getD k [])) (by rw [mkB_toList]; exact HNE.out _ hmem) w q HC.out
      rw [mkB_toList] at hI
      have hdW : Ws.drop k = Ws.getD k [] :: Ws.drop (k + 1) := by rw [List.drop_eq_getElem_cons hWk]; simp [List.getD_eq_getElem?_getD, List.getElem?_eq_getElem hWk]
      have hdO : Os.drop k = Os.getD k 0 :: Os.drop (k + 1) := by rw [List.drop_eq_getElem_cons hOk]; simp [List.getD_eq_getElem?_getD, List.getElem?_eq_getElem hOk]
      have hK := HK.out
      rw [hdW, hdO] at hK
      by_cases he : hdT (E.ws.drop p) = Ws.getD k []
      · rw [decide_eq_true he] at hI
        have hO2 : O = some (Os.getD k 0) := by rw [hK]; simp [opL, he]
        have hpl : p < E.ws.length := HP1.out (Os.getD k 0) (by rw [HOO.out]; exact hO2)
        subst hO2
        generalize mkB (Ws.getD k []) = X at *
        generalize Os.getD k 0 = OP at *
        clear hidx hido hdW hdO hK HK he hmem HOO HNE HP1
        go_wp2_with fail
        refine hI.mono ?_
        rintro e w2 ⟨rfl, q2, rfl⟩
        have hC2 := HC.out.drew q2
        obtain ⟨_, c1, _, _, _, _, z⟩ := hC2.c
        have z1 := z 1
        have HC3 : Hid (Rx E ((w.drewN q2).setCell ⟨E.g, 1, none⟩ (.int .i64 ((p : Int) + 1))) (p + 1) 0 0) := hC2.bump hpl
        have hgo' : ¬ (E.g = go) := fun e => hgo e.symm
        have t0 : w.cell? ⟨w0.heap.size + 1, 0, none⟩ = some (.int .u8 0) := cell_row HX.out 0
        have t1 : w.cell? ⟨w0.heap.size + 1, 1, none⟩ = some (.int .u8 0) := cell_row HX.out 1
        have y0 : w.frozen? ⟨w0.heap.size + 1, 0, none⟩ = false := frozen_of_row w _ 0 _ _ HX.out
        have y1 : w.frozen? ⟨w0.heap.size + 1, 1, none⟩ = false := frozen_of_row w _ 1 _ _ HX.out
        have hne1 : ¬ (E.g = w0.heap.size) := by omega
        have hne2 : ¬ (E.g = w0.heap.size + 1) := by omega
        have hne3 : ¬ (w0.heap.size = E.g) := by omega
        have hne4 : ¬ (w0.heap.size + 1 = E.g) := by omega
        clear hC2 z hI
        go_wp2
        have hX2 : ((w.drewN q2).setCell ⟨E.g, 1, none⟩ (.int .i64 ((p : Int) + 1))).heap[w0.heap.size + 1]? = some (.cells #[.int .u8 0, .int .u8 0] 41 (0, 0)) := (Below.heap_setCell _ _ _ _ hne4).trans HX.out
        obtain ⟨k1, k2⟩ := tok_set hX2 OP
        have hR5 := HC3.out.far k2 (fun b e => by injection e with e; omega)
        have hG5 : w0.grownBy ((((w.drewN q2).setCell ⟨E.g, 1, none⟩ (.int .i64 ((p : Int) + 1))).setCell ⟨w0.heap.size + 1, 0, none⟩ (.int .u8 (OP : Int))).setCell ⟨w0.heap.size + 1, 1, none⟩ (.int .u8 0)) (some E.g) :=
          grown_own (((grown_of HBW.out _).trans (grown_of (below_drewN (Below.refl _ _) q2) _)).trans (set_grown _ _ _ _)) k2 (fun b e => by injection e with e; omega)
        have d0 := cell_row k1 0
        have d1 := cell_row k1 1
        generalize (((w.drewN q2).setCell ⟨E.g, 1, none⟩ (.int .i64 ((p : Int) + 1))).setCell ⟨w0.heap.size + 1, 0, none⟩ (.int .u8 (OP : Int))).setCell ⟨w0.heap.size + 1, 1, none⟩ (.int .u8 0) = W at *
        refine bodyPost_ret (v := .tuple #[.agg #[.int .u8 (OP : Int), .int .u8 0], .bool true]) (by simp [results, Tryz.results74, go_sem, d0, d1]) rfl ?_
        exact ⟨hG5, rfl, hR5⟩
      · rw [decide_eq_false he] at hI
        have HK2 : Hid (O = opL (Ws.drop (k + 1)) (Os.drop (k + 1)) (hdT (E.ws.drop p))) := by
          show _ = _
          rw [hK]; simp only [opL, if_neg he]
        generalize mkB (Ws.getD k []) = X at *
        clear hidx hido hdW hdO hK HK he hmem HOO HNE HP1 co
        go_wp2_with fail
        refine hI.mono ?_
        rintro e w2 ⟨rfl, q2, rfl⟩
        clear hI
        go_wp2
        go_roundw
        case rel => exact ⟨k + 1, q2, by omega, by go_num, rfl, HK2⟩
        case measure => simp [intOf]; omega
    · have hkn : k = n := by omega
      have hO2 : O = none := by
        rw [HK.out, List.drop_of_length_le (by have := HN.out.1; omega)]; rfl
      subst hO2
      have t0 : w.cell? ⟨w0.heap.size + 1, 0, none⟩ = some (.int .u8 0) := cell_row HX.out 0
      have t1 : w.cell? ⟨w0.heap.size + 1, 1, none⟩ = some (.int .u8 0) := cell_row HX.out 1
      have y0 : w.frozen? ⟨w0.heap.size + 1, 0, none⟩ = false := frozen_of_row w _ 0 _ _ HX.out
      have y1 : w.frozen? ⟨w0.heap.size + 1, 1, none⟩ = false := frozen_of_row w _ 1 _ _ HX.out
      clear hidx hido HK HOO HNE HP1
      go_wp2
      have hX2 : (w.drewN q).heap[w0.heap.size + 1]? = some (.cells #[.int .u8 0, .int .u8 0] 41 (0, 0)) := HX.out
      obtain ⟨k1, k2⟩ := tok_set hX2 0
      have hR5 := (HC.out.drew q).far k2 (fun b e => by injection e with e; omega)
      have hG5 : w0.grownBy (((w.drewN q).setCell ⟨w0.heap.size + 1, 0, none⟩ (.int .u8 0)).setCell ⟨w0.heap.size + 1, 1, none⟩ (.int .u8 0)) (some E.g) :=
        grown_own ((grown_of HBW.out _).trans (grown_of (below_drewN (Below.refl _ _) q) _)) k2 (fun b e => by injection e with e; omega)
      have d0 := cell_row k1 0
      have d1 := cell_row k1 1
      generalize ((w.drewN q).setCell ⟨w0.heap.size + 1, 0, none⟩ (.int .u8 0)).setCell ⟨w0.heap.size + 1, 1, none⟩ (.int .u8 0) = W at *
      refine bodyPost_ret (v := .tuple #[.agg #[.int .u8 0, .int .u8 0], .bool false]) (by simp [results, Tryz.results74, go_sem, d0, d1]) rfl ?_
      exact ⟨hG5, rfl, hR5⟩
end Go.Proofs.YtfipefbaabkdeaaGreatDoor
namespace Go.Proofs.YtfipefbaabkdeaaGreatDoor
open Go.RowKit Go.Maps

def laysW (w : World) : List Obj → World
  | [] => w
  | o :: os => laysW (w.alloc o) os
theorem laysW_below : ∀ (os : List Obj) (w : World), Below w.heap.size w (laysW w os)
  | [], _ => Below.refl _ _
  | o :: os, w => below_step (below_new w o) (laysW_below os _)
theorem laysW_get : ∀ (os : List Obj) (w : World) (k : Nat) (h : k < os.length), (laysW w os).heap[w.heap.size + k]? = some os[k]
  | o :: os, w, 0, _ => ((laysW_below os (w.alloc o)).block _ (by simp)).trans (MapKept.heap_alloc w o).1
  | o :: os, w, k + 1, h => by
    have h' := laysW_get os (w.alloc o) k (by simpa using h)
    have e : (w.alloc o).heap.size + k = w.heap.size + (k + 1) := by simp; omega
    rw [e] at h'
    exact h'
theorem laysW_size : ∀ (os : List Obj) (w : World), (laysW w os).heap.size = w.heap.size + os.length
  | [], _ => rfl
  | o :: os, w => by
    rw [laysW, laysW_size os (w.alloc o)]; simp; omega
def lobjs (g : Nat) : List Obj := [
  .cells #[.string { data := #[60, 45, 62] }] 9, .cells #[.int .u8 14] 39,
  .cells #[.string { data := #[45, 62] }] 9, .cells #[.int .u8 13] 39,
  .cells #[.string { data := #[124] }] 9, .cells #[.int .u8 12] 39,
  .cells #[.string { data := #[38] }] 9, .cells #[.int .u8 11] 39,
  .cells #[.string { data := #[85] }, .string { data := #[82] }] 9, .cells #[.int .u8 15, .int .u8 16] 39,
  .cells #[.slice (some ⟨g, 0, none⟩) 1 1, .slice (some ⟨g + 1, 0, none⟩) 1 1, .bool false, .slice (some ⟨g + 2, 0, none⟩) 1 1, .slice (some ⟨g + 3, 0, none⟩) 1 1, .bool true, .slice (some ⟨g + 4, 0, none⟩) 1 1, .slice (some ⟨g + 5, 0, none⟩) 1 1, .bool false,
    .slice (some ⟨g + 6, 0, none⟩) 1 1, .slice (some ⟨g + 7, 0, none⟩) 1 1, .bool false, .slice (some ⟨g + 8, 0, none⟩) 2 2, .slice (some ⟨g + 9, 0, none⟩) 2 2, .bool true] 137]
/-- The levels in memory. -/
def LvAt (w : World) (g : Nat) : Prop := ∀ k (h : k < (lobjs g).length), w.heap[g + k]? = some (lobjs g)[k]
theorem Tryz.rlevels_any (w : World) : Calls Tryz.prog 72 #[] w fun e w' => e = .returned (.slice (some ⟨w.heap.size + 10, 0, none⟩) 5 5) ∧ w' = laysW w (lobjs w.heap.size) := by
  go_enter Tryz.func72, Tryz.ntmps72
  go_wp2
  go_ret
  exact ⟨rfl, rfl⟩
theorem Tryz.idxLv (G k : Nat) (hk : k < 5) (w : World) : (Instr.indexAt 132 (.slice (some ⟨G, 0, none⟩) 5 5) (.int .i64 k)).run Tryz.prog w = .ok (.pointer (some ⟨G, 3 * k, none⟩)) w := by
  simp [Instr.indexAt, go_sem, Addr.add, hk]
  by_cases h0 : k = 0
  · subst h0; rfl
  · rw [if_neg (by omega), Nat.mul_comm]
set_option maxHeartbeats 1000000 in
theorem Tryz.rat5_c (E : Rv) (n : Nat) (hU : RC E n .una 73) : RK E (n + 1) (.lev 5) 54 5 := by
  intro p w x h hx
  rw [rd5, if_pos (by omega)] at hx
  have hL := Tryz.rlevels_any w
  have hb := laysW_below (lobjs w.heap.size) w
  have hA := hU p _ x (h.up hb) hx
  have hsz := hb.size
  have HB : Hid (Below w.heap.size w (laysW w (lobjs w.heap.size))) := hb
  generalize laysW w (lobjs w.heap.size) = w1 at *
  clear h hU hx hb
  go_enter Tryz.func54, Tryz.ntmps54
  go_wp2_with fail
  refine hL.mono ?_
  rintro e w2 ⟨rfl, rfl⟩
  clear hL
  go_wp2_with fail
  refine hA.mono ?_
  rintro e w3 ⟨v, L, p', er, pl, rfl, ho, hO, hR, hg⟩
  have HRet : Hid (RP E p w x (.returned v) w3) := ⟨v, L, p', er, pl, rfl, own_down ho (by omega), hO, hR, (grown_of HB.out _).trans hg⟩
  clear ho hO hR hg hA
  go_wp2
  go_ret
  exact HRet.out

theorem Rx.lv {E : Rv} {w wr : World} {g : Nat} (hL : LvAt w g) (hg : w.grownBy wr (some E.g)) (hlt : E.g < g) (hz : g + 11 ≤ w.heap.size) : LvAt wr g := fun k h => by
  have hk : k < 11 := h
  rw [hg.block (g + k) (by omega) (fun e => by injection e with e; omega)]; exact hL k h
/-- The words and operators of a level. -/
theorem LvAt.words {w : World} {g : Nat} (h : LvAt w g) {k : Nat} (hk : k < 5) : StAt w (g + 2 * k) (lvW k) ∧ OpAt w (g + 2 * k + 1) (lvO k) := by
  have : k = 0 ∨ k = 1 ∨ k = 2 ∨ k = 3 ∨ k = 4 := by omega
  rcases this with rfl | rfl | rfl | rfl | rfl
  · exact ⟨h 0 (show 0 < 11 by omega), h 1 (show 1 < 11 by omega)⟩
  · exact ⟨h 2 (show 2 < 11 by omega), h 3 (show 3 < 11 by omega)⟩
  · exact ⟨h 4 (show 4 < 11 by omega), h 5 (show 5 < 11 by omega)⟩
  · exact ⟨h 6 (show 6 < 11 by omega), h 7 (show 7 < 11 by omega)⟩
  · exact ⟨h 8 (show 8 < 11 by omega), h 9 (show 9 < 11 by omega)⟩
def lvN (k : Nat) : Nat := if k = 4 then 2 else 1
theorem lv_len {k : Nat} (hk : k < 5) : (lvW k).length = lvN k ∧ (lvO k).length = lvN k ∧ lvN k ≤ 100 ∧ ∀ s ∈ lvW k, s ≠ [] := by
  have : k = 0 ∨ k = 1 ∨ k = 2 ∨ k = 3 ∨ k = 4 := by omega
  rcases this with rfl | rfl | rfl | rfl | rfl <;> decide
theorem op_ne {k : Nat} {s : Bytes} {o : Nat} (h : opOf k s = some o) : s ≠ [] := by
  intro e; subst e; rw [nil_op] at h; cases h
/-- Behind a level that is read from the right no operator of it stands. -/
theorem right_end (ns : List Bytes) (fin : Int) {k : Nat} (hk : k < 5) (hr : rightB k = true) : ∀ (n : Nat) (ws : List Wd) (t : List Tk5) (r : List Wd), rd5 ns fin n (.lev k) ws = some (.ok (t, r)) → opOf k (hdT r) = none
  | 0, ws, t, r, h => by simp [rd5] at h
  | n + 1, ws, t, r, h => by
    rw [lev_down _ _ _ _ _ hk] at h
    cases h1 : rd5 ns fin n (.lev (k + 1)) ws with
    | none => rw [h1] at h; simp [andR] at h
    | some y =>
      rw [h1] at h
      cases y with
      | error e => simp [andR] at h
      | ok q =>
        obtain ⟨t1, r1⟩ := q
        simp only [andR] at h
        cases h2 : rd5 ns fin n (.more k) r1 with
        | none => rw [h2] at h; simp at h
        | some y2 =>
          rw [h2] at h
          cases y2 with
          | error e => simp at h
          | ok q2 =>
            obtain ⟨u, r2⟩ := q2
            simp [okR] at h
            obtain ⟨_, rfl⟩ := h
            cases n with
            | zero => simp [rd5] at h2
            | succ m =>
              have h2' := h2
              rw [rd5] at h2
              split at h2
              · next ho => simp [okR] at h2; rw [← h2.2]; exact ho
              · next op ho =>
                rw [if_pos hr] at h2
                cases h3 : rd5 ns fin m (.lev k) r1.tail with
                | none => rw [h3] at h2; simp [andR] at h2
                | some y3 =>
                  rw [h3] at h2
                  cases y3 with
                  | error e => simp [andR] at h2
                  | ok q3 =>
                    obtain ⟨t3, r3⟩ := q3
                    simp [andR, okR] at h2
                    rw [← h2.2]
                    exact right_end ns fin hk hr m r1.tail t3 r3 h3
/-- One operator more, read from the right. -/
theorem LoopS.nextR {E : Rv} {p n k op : Nat} (hk : k < 5) (hr : rightB k = true) (ho : op < 256) {x : Except Er (List Tk5 × List Wd)} {L : List Tk5} {p' : Nat} {pl : Int} (h : LoopS E p n (.more k) x L p' 0 pl) (hop : opOf k (hdT (E.ws.drop p')) = some op) :
    ∃ m y1, m ≤ n ∧ rd5 (nms E.ss) E.fin m (.lev k) (E.ws.drop (p' + 1)) = some y1 ∧ ∀ L1 p1 e1 q1, Out E (p' + 1) y1 L1 p1 e1 q1 → LoopS E p n (.more k) x (L ++ L1 ++ [(op, 0)]) p1 e1 q1 := by
  obtain ⟨h1, h2, h3, h4⟩ := h
  rcases h4 with ⟨_, _, m, y, hm, hy, hx⟩ | ⟨h5, _⟩
  · cases m with
    | zero => simp [rd5] at hy
    | succ m =>
      rw [rd5, hop] at hy
      simp only at hy
      rw [if_pos hr, List.tail_drop] at hy
      obtain ⟨y1, hy1⟩ := some_of_and hy
      rw [hy1] at hy
      refine ⟨m, y1, by omega, hy1, fun L1 p1 e1 q1 hO => ?_⟩
      obtain ⟨g1, g2, g3, g4⟩ := hO
      refine ⟨by simp; omega, g2, byt_app (byt_app h3 g3) (byt_one ho), ?_⟩
      cases y1 with
      | error e =>
        obtain ⟨a, b⟩ := e
        obtain ⟨rfl, rfl, g5⟩ := g4
        simp [andR] at hy
        exact Or.inr ⟨g5, by rw [hx, ← hy]; rfl⟩
      | ok q =>
        obtain ⟨t, r⟩ := q
        obtain ⟨rfl, hr2, rfl, rfl⟩ := g4
        simp [andR, okR] at hy
        have hend := right_end _ _ hk hr _ _ _ _ hy1
        refine Or.inl ⟨rfl, rfl, 1, .ok ([], r), by omega, by rw [hr2, rd5, hend]; rfl, ?_⟩
        rw [hx, ← hy]; simp [addX]
  · exact absurd rfl h5

set_option maxHeartbeats 8000000 in
set_option maxRecDepth 100000 in
theorem Tryz.rat0_c (E : Rv) (n : Nat) (hS : RK E n (.lev 1) 54 1) : RK E (n + 1) (.lev 0) 54 0 := by
  intro p w0 x h hx
  rw [lev_down _ _ _ 0 _ (by omega)] at hx
  obtain ⟨y1, hy1⟩ := some_of_and hx
  rw [hy1] at hx
  have hLv := Tryz.rlevels_any w0
  have hbw := laysW_below (lobjs w0.heap.size) w0
  have hlv : LvAt (laysW w0 (lobjs w0.heap.size)) w0.heap.size := fun k hk => laysW_get (lobjs w0.heap.size) w0 k hk
  have hsz := laysW_size (lobjs w0.heap.size) w0
  have hzw : w0.heap.size + 10 < (laysW w0 (lobjs w0.heap.size)).heap.size := by rw [hsz]; show w0.heap.size + 10 < w0.heap.size + 11; omega
  generalize laysW w0 (lobjs w0.heap.size) = w at *
  have hC := h.up hbw
  have hb := hS p w y1 hC hy1
  have hf := h.env.few
  have hlw := h.lt
  have hws := h.gr.size
  have HLV : Hid (LvAt w w0.heap.size) := hlv
  have HS : Hid (∀ L p' er pl, Out E p y1 L p' er pl → LoopS E p n (.more 0) x L p' er pl) := fun L p' er pl hO => LoopS.start hO hx
  have HP : Hid (RK E n (.lev 1) 54 1) := hS
  have HBW : Hid (Below w0.heap.size w0 w) := hbw
  have hil : ∀ W, (Instr.indexAt 132 (.slice (some ⟨w0.heap.size + 10, 0, none⟩) 5 5) (.int .i64 0)).run Tryz.prog W = .ok (.pointer (some ⟨w0.heap.size + 10, 0, none⟩)) W := fun W => Tryz.idxLv (w0.heap.size + 10) 0 (by omega) W
  clear hx hy1 hS h hC hlv hbw hsz
  go_enter Tryz.func54, Tryz.ntmps54
  go_wp2_with fail
  refine hLv.mono ?_
  rintro e w2 ⟨rfl, rfl⟩
  clear hLv
  go_wp2_with fail
  refine hb.mono ?_
  rintro e w1 ⟨v, L, p1, er, pl, rfl, ho, hO, hR, hg⟩
  have HL : Hid (LoopS E p n (.more 0) x L p1 er pl) := HS.out _ _ _ _ hO
  have HOw : Hid (w1.ownsRow w2.heap.size 41 2 v L.length (encT L)) := ho
  have HR : Hid (Rx E w1 p1 er pl) := hR
  have HG : Hid (w2.grownBy w1 (some E.g)) := hg
  clear ho hO hR hg hb HS
  go_wp2
  go_loopw [6] (fun l wr => ∃ (L : List Tk5) (p' : Nat) (er pl : Int), Hid (LoopS E p n (.more 0) x L p' er pl) ∧ Hid (Rx E wr p' er pl) ∧ Hid (w2.grownBy wr (some E.g)) ∧ Hid (wr.ownsRow w2.heap.size 41 2 l L.length (encT L))) (fun _ wr => E.ws.length - posR wr E.g)
  case atStart => exact ⟨L, p1, er, pl, HL, HR, HG, HOw⟩
  case round =>
    clear HL HR HG HOw
    obtain ⟨L, p', er, pl, HL, HR, HG, HO⟩ := hrel
    have hlen : L.length + p ≤ p' ∧ p' ≤ E.ws.length := ⟨HL.out.1, HL.out.2.1⟩
    obtain ⟨_, _, _, _, c4, _, _⟩ := HR.out.c
    have hlvr := Rx.lv HLV.out HG.out hlw (by omega)
    have hrow := hlvr 10 (show 10 < 11 by omega)
    have l0 := cell_row (show wr.heap[w0.heap.size + 10]? = some (.cells _ 137 (0, 0)) from hrow) 0
    have l1 := cell_row (show wr.heap[w0.heap.size + 10]? = some (.cells _ 137 (0, 0)) from hrow) 1
    have l2 := cell_row (show wr.heap[w0.heap.size + 10]? = some (.cells _ 137 (0, 0)) from hrow) 2
    have l0 : wr.cell? ⟨w0.heap.size + 10, 0, none⟩ = some (.slice (some ⟨w0.heap.size, 0, none⟩) 1 1) := l0
    have l1 : wr.cell? ⟨w0.heap.size + 10, 1, none⟩ = some (.slice (some ⟨w0.heap.size + 1, 0, none⟩) 1 1) := l1
    have l2 : wr.cell? ⟨w0.heap.size + 10, 2, none⟩ = some (.bool false) := l2
    by_cases her : er = 0
    · have hpl := HL.out.eof her
      subst her hpl
      have hwd := hlvr.words (k := 0) (by omega)
      have hop := Tryz.rop_any E p' (w0.heap.size) (w0.heap.size + 1) 1 false (lvW 0) (lvO 0) wr HR.out hwd.1 hwd.2 rfl rfl (by omega) (by omega) (lv_len (k := 0) (by omega)).2.2.2 (fun o ho => by
        rw [opL_lev (by omega)] at ho; exact hd_lt rfl (op_ne ho))
      rw [opL_lev (by omega)] at hop
      have HLR : Hid (LvAt wr w0.heap.size) := hlvr
      clear hlvr hrow hwd
      cases ho : opOf 0 (hdT (E.ws.drop p')) with
      | none =>
        rw [ho] at hop
        have HOut : Hid (Out E p x L p' 0 0) := HL.out.stop (fun _ m y hy => by
          cases m with
          | zero => simp [rd5] at hy
          | succ m =>
            rw [rd5, ho] at hy
            simp [okR] at hy; exact hy.symm)
        clear HL ho
        unfold lvV at hop
        go_wp2_with fail
        refine hop.mono ?_
        rintro e w3 ⟨hg3, rfl, hR3⟩
        have hb4 := below_new w3 (.cells #[.int .u8 0, .int .u8 0] 41)
        have HRet : Hid (RP E p w0 x (.returned u6) (w3.alloc (.cells #[.int .u8 0, .int .u8 0] 41))) :=
          ⟨u6, L, p', 0, 0, rfl, World.ownsRow.alloc (own_down (own_far HO.out hg3 (by omega)) (by omega)) _, HOut.out, hR3.up hb4, (((grown_of HBW.out _).trans HG.out).trans hg3).trans (grown_of hb4 _)⟩
        clear hop hg3 hR3 hb4
        go_wp2
        go_ret
        exact HRet.out
      | some op =>
        rw [ho] at hop
        have ho256 := op_lt ho
        have hlt : p' < E.ws.length := hd_lt rfl (op_ne ho)
        obtain ⟨m, y2, hm, hy2, hnx⟩ := HL.out.next (op := op) (sub := .lev 1) ho256 (fun m y hy => by
          cases m with
          | zero => simp [rd5] at hy
          | succ m =>
            rw [rd5, ho] at hy
            simp only at hy
            rw [if_neg (by decide), List.tail_drop] at hy
            exact ⟨m, rfl, hy⟩)
        have HN : Hid (∀ L1 p1 e1 q1, Out E (p' + 1) y2 L1 p1 e1 q1 → LoopS E p n (.more 0) x (L ++ L1 ++ [(op, 0)]) p1 e1 q1) := hnx
        have HPW : Hid (posR wr E.g = p') := posR_rx HR.out
        have hA := fun w' (hC : Rx E w' (p' + 1) 0 0) => HP.out.le hm (p' + 1) w' y2 hC hy2
        clear HL hy2 hnx ho
        unfold lvV at hop
        go_wp2_with fail
        refine hop.mono ?_
        rintro e w3 ⟨hg3, rfl, hR3⟩
        have hb4 := below_new w3 (.cells #[.int .u8 (op : Int), .int .u8 0] 41)
        have hA := hA _ (hR3.up hb4)
        have HG4 : Hid (w2.grownBy (w3.alloc (.cells #[.int .u8 (op : Int), .int .u8 0] 41)) (some E.g)) := (HG.out.trans hg3).trans (grown_of hb4 _)
        have HO4 : Hid ((w3.alloc (.cells #[.int .u8 (op : Int), .int .u8 0] 41)).ownsRow w2.heap.size 41 2 u6 L.length (encT L)) := World.ownsRow.alloc (own_far HO.out hg3 (by omega)) _
        have hrow4 := (Rx.lv HLV.out HG4.out hlw (by omega)) 10 (show 10 < 11 by omega)
        have m2 := cell_row (show (w3.alloc (.cells #[.int .u8 (op : Int), .int .u8 0] 41)).heap[w0.heap.size + 10]? = some (.cells _ 137 (0, 0)) from hrow4) 2
        have m2 : (w3.alloc (.cells #[.int .u8 (op : Int), .int .u8 0] 41)).cell? ⟨w0.heap.size + 10, 2, none⟩ = some (.bool false) := m2
        have HTK : Hid ((w3.alloc (.cells #[.int .u8 (op : Int), .int .u8 0] 41)).heap[w3.heap.size]? = some (.cells #[.int .u8 (op : Int), .int .u8 0] 41 (0, 0))) := (MapKept.heap_alloc w3 _).1
        have hs3 : w2.heap.size ≤ w3.heap.size := (HG.out.trans hg3).size
        have hs34 : wr.heap.size ≤ w3.heap.size := hg3.size
        have hs4 : (w3.alloc (.cells #[.int .u8 (op : Int), .int .u8 0] 41)).heap.size = w3.heap.size + 1 := by simp
        obtain ⟨w4, hw4⟩ : ∃ w4, w4 = w3.alloc (.cells #[.int .u8 (op : Int), .int .u8 0] 41) := ⟨_, rfl⟩
        have HW4 : Hid (w4 = w3.alloc (.cells #[.int .u8 (op : Int), .int .u8 0] 41)) := hw4
        rw [← hw4] at hA HG4 HO4 m2 HTK hs4
        clear hop hg3 hR3 hb4 hrow4 c4 l0 l1 l2 hw4
        go_wp2_with fail
        rw [← HW4.out]
        refine hA.mono ?_
        rintro e w5 ⟨v5, L1, p2, e2, q2, rfl, ho5, hO5, hR5, hg5⟩
        have hL1 := hO5.few hf
        have hLb := hO5.2.2.1
        have hL2 : L1.length + (p' + 1) ≤ p2 := hO5.1
        obtain ⟨a5, k5, rfl, hT5⟩ := own_tks ho5 hLb
        have HT5 : Hid (TkSl w5 a5 L1.length k5 L1) := hT5
        have HL5 : Hid (LoopS E p n (.more 0) x (L ++ L1 ++ [(op, 0)]) p2 e2 q2) := HN.out _ _ _ _ hO5
        have HR5 : Hid (Rx E w5 p2 e2 q2) := hR5
        have HG5 : Hid (w2.grownBy w5 (some E.g)) := HG4.out.trans hg5
        have HO5 : Hid (w5.ownsRow w2.heap.size 41 2 u6 L.length (encT L)) := own_far HO4.out hg5 (by omega)
        have HTK5 : Hid (w5.heap[w3.heap.size]? = some (.cells #[.int .u8 (op : Int), .int .u8 0] 41 (0, 0))) := (hg5.block w3.heap.size (by omega) (fun e => by injection e with e; omega)).trans HTK.out
        have hsz5 : w3.heap.size < w5.heap.size := by have := hg5.size; omega
        have HNO : Hid (∀ b, (u6 : Value).ownBlock = some b → b ≠ w3.heap.size) := fun b hb e => by
          subst e
          have h1 := HO.out
          obtain ⟨_, h1⟩ := h1
          rcases h1 with ⟨h1, _⟩ | ⟨bb, cap, cur, h1, _, hc, _⟩
          · rw [h1] at hb; cases hb
          · rw [h1] at hb
            have hb : bb = w3.heap.size := by injection hb
            have := (Array.getElem?_eq_some_iff.1 hc).1
            have := hs34
            omega
        clear ho5 hO5 hR5 hg5 hT5 hA HN HTK m2
        go_wp2_with (at_builtin; refine Tryz.append_tks rfl _ _ rfl w2.heap.size _ L L1 a5 L1.length k5 rfl rfl HO5.out HT5.out (by omega) (by omega) (by omega) ?_)
        intro v6 w6 hown6 hgr6
        have HR6 : Hid (Rx E w6 p2 e2 q2) := HR5.out.far hgr6 (fun b e => by have := own_ge HO5.out b e; omega)
        have HG6 : Hid (w2.grownBy w6 (some E.g)) := grown_own HG5.out hgr6 (own_ge HO5.out)
        have HO6 : Hid (w6.ownsRow w2.heap.size 41 2 v6 (L.length + L1.length) (encT (L ++ L1))) := hown6
        have htk6 : w6.heap[w3.heap.size]? = some (.cells #[.int .u8 (op : Int), .int .u8 0] 41 (0, 0)) := (hgr6.block w3.heap.size hsz5 (fun e => HNO.out _ e.symm rfl)).trans HTK5.out
        have t0 : w6.cell? ⟨w3.heap.size, 0, none⟩ = some (.int .u8 (op : Int)) := cell_row htk6 0
        have t1 : w6.cell? ⟨w3.heap.size, 1, none⟩ = some (.int .u8 0) := cell_row htk6 1
        have hsz6 := HG6.out.size
        have hl6 : (L ++ L1).length ≤ 10000000 := by simp; omega
        obtain ⟨a6, k6, rfl⟩ := own_sl HO6.out
        clear hown6 hgr6 HT5 htk6 HTK5
        go_wp2_with (at_builtin; refine Tryz.append_tks rfl _ _ rfl w2.heap.size _ (L ++ L1) [(op, 0)] (some ⟨w6.heap.size, 0, none⟩) 1 1 rfl rfl (by rw [List.length_append]; exact World.ownsRow.alloc HO6.out _) (one_tk w6 (op := op) ho256) hl6 (by simp) (by simp; omega) ?_)
        intro v7 w7 hown7 hgr7
        have hbn := below_new w6 (.cells #[.int .u8 (op : Int), .int .u8 0] 41)
        have HR7 : Hid (Rx E w7 p2 e2 q2) := (HR6.out.up hbn).far hgr7 (fun b e => by have := own_ge HO6.out b e; omega)
        have HG7 : Hid (w2.grownBy w7 (some E.g)) := grown_own (HG6.out.trans (grown_of hbn _)) hgr7 (own_ge HO6.out)
        have HO7 : Hid (w7.ownsRow w2.heap.size 41 2 v7 (L ++ L1 ++ [(op, 0)]).length (encT (L ++ L1 ++ [(op, 0)]))) := by
          show World.ownsRow _ _ _ _ _ _ _
          simpa using hown7
        have HPN : Hid (posR w7 E.g = p2) := posR_rx HR7.out
        have hp2 : p2 ≤ E.ws.length := HR7.out.ple
        clear hown7 hgr7 hbn
        go_wp2
        go_roundw
        case rel => exact ⟨L ++ L1 ++ [(op, 0)], p2, e2, q2, HL5, HR7, HG7, HO7⟩
        case measure => rw [HPN.out, HPW.out]; omega
    · have HOut : Hid (Out E p x L p' er pl) := HL.out.stop (fun e => absurd e her)
      have HRet : Hid (RP E p w0 x (.returned u6) wr) := ⟨u6, L, p', er, pl, rfl, own_down HO.out (by omega), HOut.out, HR.out, (grown_of HBW.out _).trans HG.out⟩
      clear HL hlvr hrow l0 l1 l2
      go_wp2
      go_ret
      exact HRet.out

set_option maxHeartbeats 8000000 in
set_option maxRecDepth 100000 in
theorem Tryz.rat1_c (E : Rv) (n : Nat) (hS : RK E n (.lev 2) 54 2) (hI : RK E n (.lev 1) 54 1) : RK E (n + 1) (.lev 1) 54 1 := by
  intro p w0 x h hx
  rw [lev_down _ _ _ 1 _ (by omega)] at hx
  obtain ⟨y1, hy1⟩ := some_of_and hx
  rw [hy1] at hx
  have hLv := Tryz.rlevels_any w0
  have hbw := laysW_below (lobjs w0.heap.size) w0
  have hlv : LvAt (laysW w0 (lobjs w0.heap.size)) w0.heap.size := fun k hk => laysW_get (lobjs w0.heap.size) w0 k hk
  have hsz := laysW_size (lobjs w0.heap.size) w0
  have hzw : w0.heap.size + 10 < (laysW w0 (lobjs w0.heap.size)).heap.size := by rw [hsz]; show w0.heap.size + 10 < w0.heap.size + 11; omega
  generalize laysW w0 (lobjs w0.heap.size) = w at *
  have hC := h.up hbw
  have hb := hS p w y1 hC hy1
  have hf := h.env.few
  have hlw := h.lt
  have hws := h.gr.size
  have HLV : Hid (LvAt w w0.heap.size) := hlv
  have HS : Hid (∀ L p' er pl, Out E p y1 L p' er pl → LoopS E p n (.more 1) x L p' er pl) := fun L p' er pl hO => LoopS.start hO hx
  have HP : Hid (RK E n (.lev 1) 54 1) := hI
  have HBW : Hid (Below w0.heap.size w0 w) := hbw
  have hil : ∀ W, (Instr.indexAt 132 (.slice (some ⟨w0.heap.size + 10, 0, none⟩) 5 5) (.int .i64 1)).run Tryz.prog W = .ok (.pointer (some ⟨w0.heap.size + 10, 3, none⟩)) W := fun W => Tryz.idxLv (w0.heap.size + 10) 1 (by omega) W
  clear hx hy1 hS hI h hC hlv hbw hsz
  go_enter Tryz.func54, Tryz.ntmps54
  go_wp2_with fail
  refine hLv.mono ?_
  rintro e w2 ⟨rfl, rfl⟩
  clear hLv
  go_wp2_with fail
  refine hb.mono ?_
  rintro e w1 ⟨v, L, p1, er, pl, rfl, ho, hO, hR, hg⟩
  have HL : Hid (LoopS E p n (.more 1) x L p1 er pl) := HS.out _ _ _ _ hO
  have HOw : Hid (w1.ownsRow w2.heap.size 41 2 v L.length (encT L)) := ho
  have HR : Hid (Rx E w1 p1 er pl) := hR
  have HG : Hid (w2.grownBy w1 (some E.g)) := hg
  clear ho hO hR hg hb HS
  go_wp2
  go_loopw [6] (fun l wr => ∃ (L : List Tk5) (p' : Nat) (er pl : Int), Hid (LoopS E p n (.more 1) x L p' er pl) ∧ Hid (Rx E wr p' er pl) ∧ Hid (w2.grownBy wr (some E.g)) ∧ Hid (wr.ownsRow w2.heap.size 41 2 l L.length (encT L))) (fun _ wr => E.ws.length - posR wr E.g)
  case atStart => exact ⟨L, p1, er, pl, HL, HR, HG, HOw⟩
  case round =>
    clear HL HR HG HOw
    obtain ⟨L, p', er, pl, HL, HR, HG, HO⟩ := hrel
    have hlen : L.length + p ≤ p' ∧ p' ≤ E.ws.length := ⟨HL.out.1, HL.out.2.1⟩
    obtain ⟨_, _, _, _, c4, _, _⟩ := HR.out.c
    have hlvr := Rx.lv HLV.out HG.out hlw (by omega)
    have hrow := hlvr 10 (show 10 < 11 by omega)
    have l0 := cell_row (show wr.heap[w0.heap.size + 10]? = some (.cells _ 137 (0, 0)) from hrow) 3
    have l1 := cell_row (show wr.heap[w0.heap.size + 10]? = some (.cells _ 137 (0, 0)) from hrow) 4
    have l2 := cell_row (show wr.heap[w0.heap.size + 10]? = some (.cells _ 137 (0, 0)) from hrow) 5
    have l0 : wr.cell? ⟨w0.heap.size + 10, 3, none⟩ = some (.slice (some ⟨w0.heap.size + 2, 0, none⟩) 1 1) := l0
    have l1 : wr.cell? ⟨w0.heap.size + 10, 4, none⟩ = some (.slice (some ⟨w0.heap.size + 3, 0, none⟩) 1 1) := l1
    have l2 : wr.cell? ⟨w0.heap.size + 10, 5, none⟩ = some (.bool true) := l2
    by_cases her : er = 0
    · have hpl := HL.out.eof her
      subst her hpl
      have hwd := hlvr.words (k := 1) (by omega)
      have hop := Tryz.rop_any E p' (w0.heap.size + 2) (w0.heap.size + 3) 1 true (lvW 1) (lvO 1) wr HR.out hwd.1 hwd.2 rfl rfl (by omega) (by omega) (lv_len (k := 1) (by omega)).2.2.2 (fun o ho => by
        rw [opL_lev (by omega)] at ho; exact hd_lt rfl (op_ne ho))
      rw [opL_lev (by omega)] at hop
      have HLR : Hid (LvAt wr w0.heap.size) := hlvr
      clear hlvr hrow hwd
      cases ho : opOf 1 (hdT (E.ws.drop p')) with
      | none =>
        rw [ho] at hop
        have HOut : Hid (Out E p x L p' 0 0) := HL.out.stop (fun _ m y hy => by
          cases m with
          | zero => simp [rd5] at hy
          | succ m =>
            rw [rd5, ho] at hy
            simp [okR] at hy; exact hy.symm)
        clear HL ho
        unfold lvV at hop
        go_wp2_with fail
        refine hop.mono ?_
        rintro e w3 ⟨hg3, rfl, hR3⟩
        have hb4 := below_new w3 (.cells #[.int .u8 0, .int .u8 0] 41)
        have HRet : Hid (RP E p w0 x (.returned u6) (w3.alloc (.cells #[.int .u8 0, .int .u8 0] 41))) :=
          ⟨u6, L, p', 0, 0, rfl, World.ownsRow.alloc (own_down (own_far HO.out hg3 (by omega)) (by omega)) _, HOut.out, hR3.up hb4, (((grown_of HBW.out _).trans HG.out).trans hg3).trans (grown_of hb4 _)⟩
        clear hop hg3 hR3 hb4
        go_wp2
        go_ret
        exact HRet.out
      | some op =>
        rw [ho] at hop
        have ho256 := op_lt ho
        have hlt : p' < E.ws.length := hd_lt rfl (op_ne ho)
        obtain ⟨m, y2, hm, hy2, hnx⟩ := HL.out.nextR (k := 1) (by omega) rfl ho256 ho
        have HN : Hid (∀ L1 p1 e1 q1, Out E (p' + 1) y2 L1 p1 e1 q1 → LoopS E p n (.more 1) x (L ++ L1 ++ [(op, 0)]) p1 e1 q1) := hnx
        have HPW : Hid (posR wr E.g = p') := posR_rx HR.out
        have hA := fun w' (hC : Rx E w' (p' + 1) 0 0) => HP.out.le hm (p' + 1) w' y2 hC hy2
        clear HL hy2 hnx ho
        unfold lvV at hop
        go_wp2_with fail
        refine hop.mono ?_
        rintro e w3 ⟨hg3, rfl, hR3⟩
        have hb4 := below_new w3 (.cells #[.int .u8 (op : Int), .int .u8 0] 41)
        have hA := hA _ (hR3.up hb4)
        have HG4 : Hid (w2.grownBy (w3.alloc (.cells #[.int .u8 (op : Int), .int .u8 0] 41)) (some E.g)) := (HG.out.trans hg3).trans (grown_of hb4 _)
        have HO4 : Hid ((w3.alloc (.cells #[.int .u8 (op : Int), .int .u8 0] 41)).ownsRow w2.heap.size 41 2 u6 L.length (encT L)) := World.ownsRow.alloc (own_far HO.out hg3 (by omega)) _
        have hrow4 := (Rx.lv HLV.out HG4.out hlw (by omega)) 10 (show 10 < 11 by omega)
        have m2 := cell_row (show (w3.alloc (.cells #[.int .u8 (op : Int), .int .u8 0] 41)).heap[w0.heap.size + 10]? = some (.cells _ 137 (0, 0)) from hrow4) 5
        have m2 : (w3.alloc (.cells #[.int .u8 (op : Int), .int .u8 0] 41)).cell? ⟨w0.heap.size + 10, 5, none⟩ = some (.bool true) := m2
        have HTK : Hid ((w3.alloc (.cells #[.int .u8 (op : Int), .int .u8 0] 41)).heap[w3.heap.size]? = some (.cells #[.int .u8 (op : Int), .int .u8 0] 41 (0, 0))) := (MapKept.heap_alloc w3 _).1
        have hs3 : w2.heap.size ≤ w3.heap.size := (HG.out.trans hg3).size
        have hs34 : wr.heap.size ≤ w3.heap.size := hg3.size
        have hs4 : (w3.alloc (.cells #[.int .u8 (op : Int), .int .u8 0] 41)).heap.size = w3.heap.size + 1 := by simp
        obtain ⟨w4, hw4⟩ : ∃ w4, w4 = w3.alloc (.cells #[.int .u8 (op : Int), .int .u8 0] 41) := ⟨_, rfl⟩
        have HW4 : Hid (w4 = w3.alloc (.cells #[.int .u8 (op : Int), .int .u8 0] 41)) := hw4
        rw [← hw4] at hA HG4 HO4 m2 HTK hs4
        clear hop hg3 hR3 hb4 hrow4 c4 l0 l1 l2 hw4
        go_wp2_with fail
        rw [← HW4.out]
        refine hA.mono ?_
        rintro e w5 ⟨v5, L1, p2, e2, q2, rfl, ho5, hO5, hR5, hg5⟩
        have hL1 := hO5.few hf
        have hLb := hO5.2.2.1
        have hL2 : L1.length + (p' + 1) ≤ p2 := hO5.1
        obtain ⟨a5, k5, rfl, hT5⟩ := own_tks ho5 hLb
        have HT5 : Hid (TkSl w5 a5 L1.length k5 L1) := hT5
        have HL5 : Hid (LoopS E p n (.more 1) x (L ++ L1 ++ [(op, 0)]) p2 e2 q2) := HN.out _ _ _ _ hO5
        have HR5 : Hid (Rx E w5 p2 e2 q2) := hR5
        have HG5 : Hid (w2.grownBy w5 (some E.g)) := HG4.out.trans hg5
        have HO5 : Hid (w5.ownsRow w2.heap.size 41 2 u6 L.length (encT L)) := own_far HO4.out hg5 (by omega)
        have HTK5 : Hid (w5.heap[w3.heap.size]? = some (.cells #[.int .u8 (op : Int), .int .u8 0] 41 (0, 0))) := (hg5.block w3.heap.size (by omega) (fun e => by injection e with e; omega)).trans HTK.out
        have hsz5 : w3.heap.size < w5.heap.size := by have := hg5.size; omega
        have HNO : Hid (∀ b, (u6 : Value).ownBlock = some b → b ≠ w3.heap.size) := fun b hb e => by
          subst e
          have h1 := HO.out
          obtain ⟨_, h1⟩ := h1
          rcases h1 with ⟨h1, _⟩ | ⟨bb, cap, cur, h1, _, hc, _⟩
          · rw [h1] at hb; cases hb
          · rw [h1] at hb
            have hb : bb = w3.heap.size := by injection hb
            have := (Array.getElem?_eq_some_iff.1 hc).1
            have := hs34
            omega
        clear ho5 hO5 hR5 hg5 hT5 hA HN HTK m2
        go_wp2_with (at_builtin; refine Tryz.append_tks rfl _ _ rfl w2.heap.size _ L L1 a5 L1.length k5 rfl rfl HO5.out HT5.out (by omega) (by omega) (by omega) ?_)
        intro v6 w6 hown6 hgr6
        have HR6 : Hid (Rx E w6 p2 e2 q2) := HR5.out.far hgr6 (fun b e => by have := own_ge HO5.out b e; omega)
        have HG6 : Hid (w2.grownBy w6 (some E.g)) := grown_own HG5.out hgr6 (own_ge HO5.out)
        have HO6 : Hid (w6.ownsRow w2.heap.size 41 2 v6 (L.length + L1.length) (encT (L ++ L1))) := hown6
        have htk6 : w6.heap[w3.heap.size]? = some (.cells #[.int .u8 (op : Int), .int .u8 0] 41 (0, 0)) := (hgr6.block w3.heap.size hsz5 (fun e => HNO.out _ e.symm rfl)).trans HTK5.out
        have t0 : w6.cell? ⟨w3.heap.size, 0, none⟩ = some (.int .u8 (op : Int)) := cell_row htk6 0
        have t1 : w6.cell? ⟨w3.heap.size, 1, none⟩ = some (.int .u8 0) := cell_row htk6 1
        have hsz6 := HG6.out.size
        have hl6 : (L ++ L1).length ≤ 10000000 := by simp; omega
        obtain ⟨a6, k6, rfl⟩ := own_sl HO6.out
        clear hown6 hgr6 HT5 htk6 HTK5
        go_wp2_with (at_builtin; refine Tryz.append_tks rfl _ _ rfl w2.heap.size _ (L ++ L1) [(op, 0)] (some ⟨w6.heap.size, 0, none⟩) 1 1 rfl rfl (by rw [List.length_append]; exact World.ownsRow.alloc HO6.out _) (one_tk w6 (op := op) ho256) hl6 (by simp) (by simp; omega) ?_)
        intro v7 w7 hown7 hgr7
        have hbn := below_new w6 (.cells #[.int .u8 (op : Int), .int .u8 0] 41)
        have HR7 : Hid (Rx E w7 p2 e2 q2) := (HR6.out.up hbn).far hgr7 (fun b e => by have := own_ge HO6.out b e; omega)
        have HG7 : Hid (w2.grownBy w7 (some E.g)) := grown_own (HG6.out.trans (grown_of hbn _)) hgr7 (own_ge HO6.out)
        have HO7 : Hid (w7.ownsRow w2.heap.size 41 2 v7 (L ++ L1 ++ [(op, 0)]).length (encT (L ++ L1 ++ [(op, 0)]))) := by
          show World.ownsRow _ _ _ _ _ _ _
          simpa using hown7
        have HPN : Hid (posR w7 E.g = p2) := posR_rx HR7.out
        have hp2 : p2 ≤ E.ws.length := HR7.out.ple
        clear hown7 hgr7 hbn
        go_wp2
        go_roundw
        case rel => exact ⟨L ++ L1 ++ [(op, 0)], p2, e2, q2, HL5, HR7, HG7, HO7⟩
        case measure => rw [HPN.out, HPW.out]; omega
    · have HOut : Hid (Out E p x L p' er pl) := HL.out.stop (fun e => absurd e her)
      have HRet : Hid (RP E p w0 x (.returned u6) wr) := ⟨u6, L, p', er, pl, rfl, own_down HO.out (by omega), HOut.out, HR.out, (grown_of HBW.out _).trans HG.out⟩
      clear HL hlvr hrow l0 l1 l2
      go_wp2
      go_ret
      exact HRet.out

set_option maxHeartbeats 8000000 in
set_option maxRecDepth 100000 in
theorem Tryz.rat2_c (E : Rv) (n : Nat) (hS : RK E n (.lev 3) 54 3) : RK E (n + 1) (.lev 2) 54 2 := by
  intro p w0 x h hx
  rw [lev_down _ _ _ 2 _ (by omega)] at hx
  obtain ⟨y1, hy1⟩ := some_of_and hx
  rw [hy1] at hx
  have hLv := Tryz.rlevels_any w0
  have hbw := laysW_below (lobjs w0.heap.size) w0
  have hlv : LvAt (laysW w0 (lobjs w0.heap.size)) w0.heap.size := fun k hk => laysW_get (lobjs w0.heap.size) w0 k hk
  have hsz := laysW_size (lobjs w0.heap.size) w0
  have hzw : w0.heap.size + 10 < (laysW w0 (lobjs w0.heap.size)).heap.size := by rw [hsz]; show w0.heap.size + 10 < w0.heap.size + 11; omega
  generalize laysW w0 (lobjs w0.heap.size) = w at *
  have hC := h.up hbw
  have hb := hS p w y1 hC hy1
  have hf := h.env.few
  have hlw := h.lt
  have hws := h.gr.size
  have HLV : Hid (LvAt w w0.heap.size) := hlv
  have HS : Hid (∀ L p' er pl, Out E p y1 L p' er pl → LoopS E p n (.more 2) x L p' er pl) := fun L p' er pl hO => LoopS.start hO hx
  have HP : Hid (RK E n (.lev 3) 54 3) := hS
  have HBW : Hid (Below w0.heap.size w0 w) := hbw
  have hil : ∀ W, (Instr.indexAt 132 (.slice (some ⟨w0.heap.size + 10, 0, none⟩) 5 5) (.int .i64 2)).run Tryz.prog W = .ok (.pointer (some ⟨w0.heap.size + 10, 6, none⟩)) W := fun W => Tryz.idxLv (w0.heap.size + 10) 2 (by omega) W
  clear hx hy1 hS h hC hlv hbw hsz
  go_enter Tryz.func54, Tryz.ntmps54
  go_wp2_with fail
  refine hLv.mono ?_
  rintro e w2 ⟨rfl, rfl⟩
  clear hLv
  go_wp2_with fail
  refine hb.mono ?_
  rintro e w1 ⟨v, L, p1, er, pl, rfl, ho, hO, hR, hg⟩
  have HL : Hid (LoopS E p n (.more 2) x L p1 er pl) := HS.out _ _ _ _ hO
  have HOw : Hid (w1.ownsRow w2.heap.size 41 2 v L.length (encT L)) := ho
  have HR : Hid (Rx E w1 p1 er pl) := hR
  have HG : Hid (w2.grownBy w1 (some E.g)) := hg
  clear ho hO hR hg hb HS
  go_wp2
  go_loopw [6] (fun l wr => ∃ (L : List Tk5) (p' : Nat) (er pl : Int), Hid (LoopS E p n (.more 2) x L p' er pl) ∧ Hid (Rx E wr p' er pl) ∧ Hid (w2.grownBy wr (some E.g)) ∧ Hid (wr.ownsRow w2.heap.size 41 2 l L.length (encT L))) (fun _ wr => E.ws.length - posR wr E.g)
  case atStart => exact ⟨L, p1, er, pl, HL, HR, HG, HOw⟩
  case round =>
    clear HL HR HG HOw
    obtain ⟨L, p', er, pl, HL, HR, HG, HO⟩ := hrel
    have hlen : L.length + p ≤ p' ∧ p' ≤ E.ws.length := ⟨HL.out.1, HL.out.2.1⟩
    obtain ⟨_, _, _, _, c4, _, _⟩ := HR.out.c
    have hlvr := Rx.lv HLV.out HG.out hlw (by omega)
    have hrow := hlvr 10 (show 10 < 11 by omega)
    have l0 := cell_row (show wr.heap[w0.heap.size + 10]? = some (.cells _ 137 (0, 0)) from hrow) 6
    have l1 := cell_row (show wr.heap[w0.heap.size + 10]? = some (.cells _ 137 (0, 0)) from hrow) 7
    have l2 := cell_row (show wr.heap[w0.heap.size + 10]? = some (.cells _ 137 (0, 0)) from hrow) 8
    have l0 : wr.cell? ⟨w0.heap.size + 10, 6, none⟩ = some (.slice (some ⟨w0.heap.size + 4, 0, none⟩) 1 1) := l0
    have l1 : wr.cell? ⟨w0.heap.size + 10, 7, none⟩ = some (.slice (some ⟨w0.heap.size + 5, 0, none⟩) 1 1) := l1
    have l2 : wr.cell? ⟨w0.heap.size + 10, 8, none⟩ = some (.bool false) := l2
    by_cases her : er = 0
    · have hpl := HL.out.eof her
      subst her hpl
      have hwd := hlvr.words (k := 2) (by omega)
      have hop := Tryz.rop_any E p' (w0.heap.size + 4) (w0.heap.size + 5) 1 false (lvW 2) (lvO 2) wr HR.out hwd.1 hwd.2 rfl rfl (by omega) (by omega) (lv_len (k := 2) (by omega)).2.2.2 (fun o ho => by
        rw [opL_lev (by omega)] at ho; exact hd_lt rfl (op_ne ho))
      rw [opL_lev (by omega)] at hop
      have HLR : Hid (LvAt wr w0.heap.size) := hlvr
      clear hlvr hrow hwd
      cases ho : opOf 2 (hdT (E.ws.drop p')) with
      | none =>
        rw [ho] at hop
        have HOut : Hid (Out E p x L p' 0 0) := HL.out.stop (fun _ m y hy => by
          cases m with
          | zero => simp [rd5] at hy
          | succ m =>
            rw [rd5, ho] at hy
            simp [okR] at hy; exact hy.symm)
        clear HL ho
        unfold lvV at hop
        go_wp2_with fail
        refine hop.mono ?_
        rintro e w3 ⟨hg3, rfl, hR3⟩
        have hb4 := below_new w3 (.cells #[.int .u8 0, .int .u8 0] 41)
        have HRet : Hid (RP E p w0 x (.returned u6) (w3.alloc (.cells #[.int .u8 0, .int .u8 0] 41))) :=
          ⟨u6, L, p', 0, 0, rfl, World.ownsRow.alloc (own_down (own_far HO.out hg3 (by omega)) (by omega)) _, HOut.out, hR3.up hb4, (((grown_of HBW.out _).trans HG.out).trans hg3).trans (grown_of hb4 _)⟩
        clear hop hg3 hR3 hb4
        go_wp2
        go_ret
        exact HRet.out
      | some op =>
        rw [ho] at hop
        have ho256 := op_lt ho
        have hlt : p' < E.ws.length := hd_lt rfl (op_ne ho)
        obtain ⟨m, y2, hm, hy2, hnx⟩ := HL.out.next (op := op) (sub := .lev 3) ho256 (fun m y hy => by
          cases m with
          | zero => simp [rd5] at hy
          | succ m =>
            rw [rd5, ho] at hy
            simp only at hy
            rw [if_neg (by decide), List.tail_drop] at hy
            exact ⟨m, rfl, hy⟩)
        have HN : Hid (∀ L1 p1 e1 q1, Out E (p' + 1) y2 L1 p1 e1 q1 → LoopS E p n (.more 2) x (L ++ L1 ++ [(op, 0)]) p1 e1 q1) := hnx
        have HPW : Hid (posR wr E.g = p') := posR_rx HR.out
        have hA := fun w' (hC : Rx E w' (p' + 1) 0 0) => HP.out.le hm (p' + 1) w' y2 hC hy2
        clear HL hy2 hnx ho
        unfold lvV at hop
        go_wp2_with fail
        refine hop.mono ?_
        rintro e w3 ⟨hg3, rfl, hR3⟩
        have hb4 := below_new w3 (.cells #[.int .u8 (op : Int), .int .u8 0] 41)
        have hA := hA _ (hR3.up hb4)
        have HG4 : Hid (w2.grownBy (w3.alloc (.cells #[.int .u8 (op : Int), .int .u8 0] 41)) (some E.g)) := (HG.out.trans hg3).trans (grown_of hb4 _)
        have HO4 : Hid ((w3.alloc (.cells #[.int .u8 (op : Int), .int .u8 0] 41)).ownsRow w2.heap.size 41 2 u6 L.length (encT L)) := World.ownsRow.alloc (own_far HO.out hg3 (by omega)) _
        have hrow4 := (Rx.lv HLV.out HG4.out hlw (by omega)) 10 (show 10 < 11 by omega)
        have m2 := cell_row (show (w3.alloc (.cells #[.int .u8 (op : Int), .int .u8 0] 41)).heap[w0.heap.size + 10]? = some (.cells _ 137 (0, 0)) from hrow4) 8
        have m2 : (w3.alloc (.cells #[.int .u8 (op : Int), .int .u8 0] 41)).cell? ⟨w0.heap.size + 10, 8, none⟩ = some (.bool false) := m2
        have HTK : Hid ((w3.alloc (.cells #[.int .u8 (op : Int), .int .u8 0] 41)).heap[w3.heap.size]? = some (.cells #[.int .u8 (op : Int), .int .u8 0] 41 (0, 0))) := (MapKept.heap_alloc w3 _).1
        have hs3 : w2.heap.size ≤ w3.heap.size := (HG.out.trans hg3).size
        have hs34 : wr.heap.size ≤ w3.heap.size := hg3.size
        have hs4 : (w3.alloc (.cells #[.int .u8 (op : Int), .int .u8 0] 41)).heap.size = w3.heap.size + 1 := by simp
        obtain ⟨w4, hw4⟩ : ∃ w4, w4 = w3.alloc (.cells #[.int .u8 (op : Int), .int .u8 0] 41) := ⟨_, rfl⟩
        have HW4 : Hid (w4 = w3.alloc (.cells #[.int .u8 (op : Int), .int .u8 0] 41)) := hw4
        rw [← hw4] at hA HG4 HO4 m2 HTK hs4
        clear hop hg3 hR3 hb4 hrow4 c4 l0 l1 l2 hw4
        go_wp2_with fail
        rw [← HW4.out]
        refine hA.mono ?_
        rintro e w5 ⟨v5, L1, p2, e2, q2, rfl, ho5, hO5, hR5, hg5⟩
        have hL1 := hO5.few hf
        have hLb := hO5.2.2.1
        have hL2 : L1.length + (p' + 1) ≤ p2 := hO5.1
        obtain ⟨a5, k5, rfl, hT5⟩ := own_tks ho5 hLb
        have HT5 : Hid (TkSl w5 a5 L1.length k5 L1) := hT5
        have HL5 : Hid (LoopS E p n (.more 2) x (L ++ L1 ++ [(op, 0)]) p2 e2 q2) := HN.out _ _ _ _ hO5
        have HR5 : Hid (Rx E w5 p2 e2 q2) := hR5
        have HG5 : Hid (w2.grownBy w5 (some E.g)) := HG4.out.trans hg5
        have HO5 : Hid (w5.ownsRow w2.heap.size 41 2 u6 L.length (encT L)) := own_far HO4.out hg5 (by omega)
        have HTK5 : Hid (w5.heap[w3.heap.size]? = some (.cells #[.int .u8 (op : Int), .int .u8 0] 41 (0, 0))) := (hg5.block w3.heap.size (by omega) (fun e => by injection e with e; omega)).trans HTK.out
        have hsz5 : w3.heap.size < w5.heap.size := by have := hg5.size; omega
        have HNO : Hid (∀ b, (u6 : Value).ownBlock = some b → b ≠ w3.heap.size) := fun b hb e => by
          subst e
          have h1 := HO.out
          obtain ⟨_, h1⟩ := h1
          rcases h1 with ⟨h1, _⟩ | ⟨bb, cap, cur, h1, _, hc, _⟩
          · rw [h1] at hb; cases hb
          · rw [h1] at hb
            have hb : bb = w3.heap.size := by injection hb
            have := (Array.getElem?_eq_some_iff.1 hc).1
            have := hs34
            omega
        clear ho5 hO5 hR5 hg5 hT5 hA HN HTK m2
        go_wp2_with (at_builtin; refine Tryz.append_tks rfl _ _ rfl w2.heap.size _ L L1 a5 L1.length k5 rfl rfl HO5.out HT5.out (by omega) (by omega) (by omega) ?_)
        intro v6 w6 hown6 hgr6
        have HR6 : Hid (Rx E w6 p2 e2 q2) := HR5.out.far hgr6 (fun b e => by have := own_ge HO5.out b e; omega)
        have HG6 : Hid (w2.grownBy w6 (some E.g)) := grown_own HG5.out hgr6 (own_ge HO5.out)
        have HO6 : Hid (w6.ownsRow w2.heap.size 41 2 v6 (L.length + L1.length) (encT (L ++ L1))) := hown6
        have htk6 : w6.heap[w3.heap.size]? = some (.cells #[.int .u8 (op : Int), .int .u8 0] 41 (0, 0)) := (hgr6.block w3.heap.size hsz5 (fun e => HNO.out _ e.symm rfl)).trans HTK5.out
        have t0 : w6.cell? ⟨w3.heap.size, 0, none⟩ = some (.int .u8 (op : Int)) := cell_row htk6 0
        have t1 : w6.cell? ⟨w3.heap.size, 1, none⟩ = some (.int .u8 0) := cell_row htk6 1
        have hsz6 := HG6.out.size
        have hl6 : (L ++ L1).length ≤ 10000000 := by simp; omega
        obtain ⟨a6, k6, rfl⟩ := own_sl HO6.out
        clear hown6 hgr6 HT5 htk6 HTK5
        go_wp2_with (at_builtin; refine Tryz.append_tks rfl _ _ rfl w2.heap.size _ (L ++ L1) [(op, 0)] (some ⟨w6.heap.size, 0, none⟩) 1 1 rfl rfl (by rw [List.length_append]; exact World.ownsRow.alloc HO6.out _) (one_tk w6 (op := op) ho256) hl6 (by simp) (by simp; omega) ?_)
        intro v7 w7 hown7 hgr7
        have hbn := below_new w6 (.cells #[.int .u8 (op : Int), .int .u8 0] 41)
        have HR7 : Hid (Rx E w7 p2 e2 q2) := (HR6.out.up hbn).far hgr7 (fun b e => by have := own_ge HO6.out b e; omega)
        have HG7 : Hid (w2.grownBy w7 (some E.g)) := grown_own (HG6.out.trans (grown_of hbn _)) hgr7 (own_ge HO6.out)
        have HO7 : Hid (w7.ownsRow w2.heap.size 41 2 v7 (L ++ L1 ++ [(op, 0)]).length (encT (L ++ L1 ++ [(op, 0)]))) := by
          show World.ownsRow _ _ _ _ _ _ _
          simpa using hown7
        have HPN : Hid (posR w7 E.g = p2) := posR_rx HR7.out
        have hp2 : p2 ≤ E.ws.length := HR7.out.ple
        clear hown7 hgr7 hbn
        go_wp2
        go_roundw
        case rel => exact ⟨L ++ L1 ++ [(op, 0)], p2, e2, q2, HL5, HR7, HG7, HO7⟩
        case measure => rw [HPN.out, HPW.out]; omega
    · have HOut : Hid (Out E p x L p' er pl) := HL.out.stop (fun e => absurd e her)
      have HRet : Hid (RP E p w0 x (.returned u6) wr) := ⟨u6, L, p', er, pl, rfl, own_down HO.out (by omega), HOut.out, HR.out, (grown_of HBW.out _).trans HG.out⟩
      clear HL hlvr hrow l0 l1 l2
      go_wp2
      go_ret
      exact HRet.out

set_option maxHeartbeats 8000000 in
set_option maxRecDepth 100000 in
theorem Tryz.rat3_c (E : Rv) (n : Nat) (hS : RK E n (.lev 4) 54 4) : RK E (n + 1) (.lev 3) 54 3 := by
  intro p w0 x h hx
  rw [lev_down _ _ _ 3 _ (by omega)] at hx
  obtain ⟨y1, hy1⟩ := some_of_and hx
  rw [hy1] at hx
  have hLv := Tryz.rlevels_any w0
  have hbw := laysW_below (lobjs w0.heap.size) w0
  have hlv : LvAt (laysW w0 (lobjs w0.heap.size)) w0.heap.size := fun k hk => laysW_get (lobjs w0.heap.size) w0 k hk
  have hsz := laysW_size (lobjs w0.heap.size) w0
  have hzw : w0.heap.size + 10 < (laysW w0 (lobjs w0.heap.size)).heap.size := by rw [hsz]; show w0.heap.size + 10 < w0.heap.size + 11; omega
  generalize laysW w0 (lobjs w0.heap.size) = w at *
  have hC := h.up hbw
  have hb := hS p w y1 hC hy1
  have hf := h.env.few
  have hlw := h.lt
  have hws := h.gr.size
  have HLV : Hid (LvAt w w0.heap.size) := hlv
  have HS : Hid (∀ L p' er pl, Out E p y1 L p' er pl → LoopS E p n (.more 3) x L p' er pl) := fun L p' er pl hO => LoopS.start hO hx
  have HP : Hid (RK E n (.lev 4) 54 4) := hS
  have HBW : Hid (Below w0.heap.size w0 w) := hbw
  have hil : ∀ W, (Instr.indexAt 132 (.slice (some ⟨w0.heap.size + 10, 0, none⟩) 5 5) (.int .i64 3)).run Tryz.prog W = .ok (.pointer (some ⟨w0.heap.size + 10, 9, none⟩)) W := fun W => Tryz.idxLv (w0.heap.size + 10) 3 (by omega) W
  clear hx hy1 hS h hC hlv hbw hsz
  go_enter Tryz.func54, Tryz.ntmps54
  go_wp2_with fail
  refine hLv.mono ?_
  rintro e w2 ⟨rfl, rfl⟩
  clear hLv
  go_wp2_with fail
  refine hb.mono ?_
  rintro e w1 ⟨v, L, p1, er, pl, rfl, ho, hO, hR, hg⟩
  have HL : Hid (LoopS E p n (.more 3) x L p1 er pl) := HS.out _ _ _ _ hO
  have HOw : Hid (w1.ownsRow w2.heap.size 41 2 v L.length (encT L)) := ho
  have HR : Hid (Rx E w1 p1 er pl) := hR
  have HG : Hid (w2.grownBy w1 (some E.g)) := hg
  clear ho hO hR hg hb HS
  go_wp2
  go_loopw [6] (fun l wr => ∃ (L : List Tk5) (p' : Nat) (er pl : Int), Hid (LoopS E p n (.more 3) x L p' er pl) ∧ Hid (Rx E wr p' er pl) ∧ Hid (w2.grownBy wr (some E.g)) ∧ Hid (wr.ownsRow w2.heap.size 41 2 l L.length (encT L))) (fun _ wr => E.ws.length - posR wr E.g)
  case atStart => exact ⟨L, p1, er, pl, HL, HR, HG, HOw⟩
  case round =>
    clear HL HR HG HOw
    obtain ⟨L, p', er, pl, HL, HR, HG, HO⟩ := hrel
    have hlen : L.length + p ≤ p' ∧ p' ≤ E.ws.length := ⟨HL.out.1, HL.out.2.1⟩
    obtain ⟨_, _, _, _, c4, _, _⟩ := HR.out.c
    have hlvr := Rx.lv HLV.out HG.out hlw (by omega)
    have hrow := hlvr 10 (show 10 < 11 by omega)
    have l0 := cell_row (show wr.heap[w0.heap.size + 10]? = some (.cells _ 137 (0, 0)) from hrow) 9
    have l1 := cell_row (show wr.heap[w0.heap.size + 10]? = some (.cells _ 137 (0, 0)) from hrow) 10
    have l2 := cell_row (show wr.heap[w0.heap.size + 10]? = some (.cells _ 137 (0, 0)) from hrow) 11
    have l0 : wr.cell? ⟨w0.heap.size + 10, 9, none⟩ = some (.slice (some ⟨w0.heap.size + 6, 0, none⟩) 1 1) := l0
    have l1 : wr.cell? ⟨w0.heap.size + 10, 10, none⟩ = some (.slice (some ⟨w0.heap.size + 7, 0, none⟩) 1 1) := l1
    have l2 : wr.cell? ⟨w0.heap.size + 10, 11, none⟩ = some (.bool false) := l2
    by_cases her : er = 0
    · have hpl := HL.out.eof her
      subst her hpl
      have hwd := hlvr.words (k := 3) (by omega)
      have hop := Tryz.rop_any E p' (w0.heap.size + 6) (w0.heap.size + 7) 1 false (lvW 3) (lvO 3) wr HR.out hwd.1 hwd.2 rfl rfl (by omega) (by omega) (lv_len (k := 3) (by omega)).2.2.2 (fun o ho => by
        rw [opL_lev (by omega)] at ho; exact hd_lt rfl (op_ne ho))
      rw [opL_lev (by omega)] at hop
      have HLR : Hid (LvAt wr w0.heap.size) := hlvr
      clear hlvr hrow hwd
      cases ho : opOf 3 (hdT (E.ws.drop p')) with
      | none =>
        rw [ho] at hop
        have HOut : Hid (Out E p x L p' 0 0) := HL.out.stop (fun _ m y hy => by
          cases m with
          | zero => simp [rd5] at hy
          | succ m =>
            rw [rd5, ho] at hy
            simp [okR] at hy; exact hy.symm)
        clear HL ho
        unfold lvV at hop
        go_wp2_with fail
        refine hop.mono ?_
        rintro e w3 ⟨hg3, rfl, hR3⟩
        have hb4 := below_new w3 (.cells #[.int .u8 0, .int .u8 0] 41)
        have HRet : Hid (RP E p w0 x (.returned u6) (w3.alloc (.cells #[.int .u8 0, .int .u8 0] 41))) :=
          ⟨u6, L, p', 0, 0, rfl, World.ownsRow.alloc (own_down (own_far HO.out hg3 (by omega)) (by omega)) _, HOut.out, hR3.up hb4, (((grown_of HBW.out _).trans HG.out).trans hg3).trans (grown_of hb4 _)⟩
        clear hop hg3 hR3 hb4
        go_wp2
        go_ret
        exact HRet.out
      | some op =>
        rw [ho] at hop
        have ho256 := op_lt ho
        have hlt : p' < E.ws.length := hd_lt rfl (op_ne ho)
        obtain ⟨m, y2, hm, hy2, hnx⟩ := HL.out.next (op := op) (sub := .lev 4) ho256 (fun m y hy => by
          cases m with
          | zero => simp [rd5] at hy
          | succ m =>
            rw [rd5, ho] at hy
            simp only at hy
            rw [if_neg (by decide), List.tail_drop] at hy
            exact ⟨m, rfl, hy⟩)
        have HN : Hid (∀ L1 p1 e1 q1, Out E (p' + 1) y2 L1 p1 e1 q1 → LoopS E p n (.more 3) x (L ++ L1 ++ [(op, 0)]) p1 e1 q1) := hnx
        have HPW : Hid (posR wr E.g = p') := posR_rx HR.out
        have hA := fun w' (hC : Rx E w' (p' + 1) 0 0) => HP.out.le hm (p' + 1) w' y2 hC hy2
        clear HL hy2 hnx ho
        unfold lvV at hop
        go_wp2_with fail
        refine hop.mono ?_
        rintro e w3 ⟨hg3, rfl, hR3⟩
        have hb4 := below_new w3 (.cells #[.int .u8 (op : Int), .int .u8 0] 41)
        have hA := hA _ (hR3.up hb4)
        have HG4 : Hid (w2.grownBy (w3.alloc (.cells #[.int .u8 (op : Int), .int .u8 0] 41)) (some E.g)) := (HG.out.trans hg3).trans (grown_of hb4 _)
        have HO4 : Hid ((w3.alloc (.cells #[.int .u8 (op : Int), .int .u8 0] 41)).ownsRow w2.heap.size 41 2 u6 L.length (encT L)) := World.ownsRow.alloc (own_far HO.out hg3 (by omega)) _
        have hrow4 := (Rx.lv HLV.out HG4.out hlw (by omega)) 10 (show 10 < 11 by omega)
        have m2 := cell_row (show (w3.alloc (.cells #[.int .u8 (op : Int), .int .u8 0] 41)).heap[w0.heap.size + 10]? = some (.cells _ 137 (0, 0)) from hrow4) 11
        have m2 : (w3.alloc (.cells #[.int .u8 (op : Int), .int .u8 0] 41)).cell? ⟨w0.heap.size + 10, 11, none⟩ = some (.bool false) := m2
        have HTK : Hid ((w3.alloc (.cells #[.int .u8 (op : Int), .int .u8 0] 41)).heap[w3.heap.size]? = some (.cells #[.int .u8 (op : Int), .int .u8 0] 41 (0, 0))) := (MapKept.heap_alloc w3 _).1
        have hs3 : w2.heap.size ≤ w3.heap.size := (HG.out.trans hg3).size
        have hs34 : wr.heap.size ≤ w3.heap.size := hg3.size
        have hs4 : (w3.alloc (.cells #[.int .u8 (op : Int), .int .u8 0] 41)).heap.size = w3.heap.size + 1 := by simp
        obtain ⟨w4, hw4⟩ : ∃ w4, w4 = w3.alloc (.cells #[.int .u8 (op : Int), .int .u8 0] 41) := ⟨_, rfl⟩
        have HW4 : Hid (w4 = w3.alloc (.cells #[.int .u8 (op : Int), .int .u8 0] 41)) := hw4
        rw [← hw4] at hA HG4 HO4 m2 HTK hs4
        clear hop hg3 hR3 hb4 hrow4 c4 l0 l1 l2 hw4
        go_wp2_with fail
        rw [← HW4.out]
        refine hA.mono ?_
        rintro e w5 ⟨v5, L1, p2, e2, q2, rfl, ho5, hO5, hR5, hg5⟩
        have hL1 := hO5.few hf
        have hLb := hO5.2.2.1
        have hL2 : L1.length + (p' + 1) ≤ p2 := hO5.1
        obtain ⟨a5, k5, rfl, hT5⟩ := own_tks ho5 hLb
        have HT5 : Hid (TkSl w5 a5 L1.length k5 L1) := hT5
        have HL5 : Hid (LoopS E p n (.more 3) x (L ++ L1 ++ [(op, 0)]) p2 e2 q2) := HN.out _ _ _ _ hO5
        have HR5 : Hid (Rx E w5 p2 e2 q2) := hR5
        have HG5 : Hid (w2.grownBy w5 (some E.g)) := HG4.out.trans hg5
        have HO5 : Hid (w5.ownsRow w2.heap.size 41 2 u6 L.length (encT L)) := own_far HO4.out hg5 (by omega)
        have HTK5 : Hid (w5.heap[w3.heap.size]? = some (.cells #[.int .u8 (op : Int), .int .u8 0] 41 (0, 0))) := (hg5.block w3.heap.size (by omega) (fun e => by injection e with e; omega)).trans HTK.out
        have hsz5 : w3.heap.size < w5.heap.size := by have := hg5.size; omega
        have HNO : Hid (∀ b, (u6 : Value).ownBlock = some b → b ≠ w3.heap.size) := fun b hb e => by
          subst e
          have h1 := HO.out
          obtain ⟨_, h1⟩ := h1
          rcases h1 with ⟨h1, _⟩ | ⟨bb, cap, cur, h1, _, hc, _⟩
          · rw [h1] at hb; cases hb
          · rw [h1] at hb
            have hb : bb = w3.heap.size := by injection hb
            have := (Array.getElem?_eq_some_iff.1 hc).1
            have := hs34
            omega
        clear ho5 hO5 hR5 hg5 hT5 hA HN HTK m2
        go_wp2_with (at_builtin; refine Tryz.append_tks rfl _ _ rfl w2.heap.size _ L L1 a5 L1.length k5 rfl rfl HO5.out HT5.out (by omega) (by omega) (by omega) ?_)
        intro v6 w6 hown6 hgr6
        have HR6 : Hid (Rx E w6 p2 e2 q2) := HR5.out.far hgr6 (fun b e => by have := own_ge HO5.out b e; omega)
        have HG6 : Hid (w2.grownBy w6 (some E.g)) := grown_own HG5.out hgr6 (own_ge HO5.out)
        have HO6 : Hid (w6.ownsRow w2.heap.size 41 2 v6 (L.length + L1.length) (encT (L ++ L1))) := hown6
        have htk6 : w6.heap[w3.heap.size]? = some (.cells #[.int .u8 (op : Int), .int .u8 0] 41 (0, 0)) := (hgr6.block w3.heap.size hsz5 (fun e => HNO.out _ e.symm rfl)).trans HTK5.out
        have t0 : w6.cell? ⟨w3.heap.size, 0, none⟩ = some (.int .u8 (op : Int)) := cell_row htk6 0
        have t1 : w6.cell? ⟨w3.heap.size, 1, none⟩ = some (.int .u8 0) := cell_row htk6 1
        have hsz6 := HG6.out.size
        have hl6 : (L ++ L1).length ≤ 10000000 := by simp; omega
        obtain ⟨a6, k6, rfl⟩ := own_sl HO6.out
        clear hown6 hgr6 HT5 htk6 HTK5
        go_wp2_with (at_builtin; refine Tryz.append_tks rfl _ _ rfl w2.heap.size _ (L ++ L1) [(op, 0)] (some ⟨w6.heap.size, 0, none⟩) 1 1 rfl rfl (by rw [List.length_append]; exact World.ownsRow.alloc HO6.out _) (one_tk w6 (op := op) ho256) hl6 (by simp) (by simp; omega) ?_)
        intro v7 w7 hown7 hgr7
        have hbn := below_new w6 (.cells #[.int .u8 (op : Int), .int .u8 0] 41)
        have HR7 : Hid (Rx E w7 p2 e2 q2) := (HR6.out.up hbn).far hgr7 (fun b e => by have := own_ge HO6.out b e; omega)
        have HG7 : Hid (w2.grownBy w7 (some E.g)) := grown_own (HG6.out.trans (grown_of hbn _)) hgr7 (own_ge HO6.out)
        have HO7 : Hid (w7.ownsRow w2.heap.size 41 2 v7 (L ++ L1 ++ [(op, 0)]).length (encT (L ++ L1 ++ [(op, 0)]))) := by
          show World.ownsRow _ _ _ _ _ _ _
          simpa using hown7
        have HPN : Hid (posR w7 E.g = p2) := posR_rx HR7.out
        have hp2 : p2 ≤ E.ws.length := HR7.out.ple
        clear hown7 hgr7 hbn
        go_wp2
        go_roundw
        case rel => exact ⟨L ++ L1 ++ [(op, 0)], p2, e2, q2, HL5, HR7, HG7, HO7⟩
        case measure => rw [HPN.out, HPW.out]; omega
    · have HOut : Hid (Out E p x L p' er pl) := HL.out.stop (fun e => absurd e her)
      have HRet : Hid (RP E p w0 x (.returned u6) wr) := ⟨u6, L, p', er, pl, rfl, own_down HO.out (by omega), HOut.out, HR.out, (grown_of HBW.out _).trans HG.out⟩
      clear HL hlvr hrow l0 l1 l2
      go_wp2
      go_ret
      exact HRet.out

set_option maxHeartbeats 8000000 in
set_option maxRecDepth 100000 in
theorem Tryz.rat4_c (E : Rv) (n : Nat) (hS : RK E n (.lev 5) 54 5) (hI : RK E n (.lev 4) 54 4) : RK E (n + 1) (.lev 4) 54 4 := by
  intro p w0 x h hx
  rw [lev_down _ _ _ 4 _ (by omega)] at hx
  obtain ⟨y1, hy1⟩ := some_of_and hx
  rw [hy1] at hx
  have hLv := Tryz.rlevels_any w0
  have hbw := laysW_below (lobjs w0.heap.size) w0
  have hlv : LvAt (laysW w0 (lobjs w0.heap.size)) w0.heap.size := fun k hk => laysW_get (lobjs w0.heap.size) w0 k hk
  have hsz := laysW_size (lobjs w0.heap.size) w0
  have hzw : w0.heap.size + 10 < (laysW w0 (lobjs w0.heap.size)).heap.size := by rw [hsz]; show w0.heap.size + 10 < w0.heap.size + 11; omega
  generalize laysW w0 (lobjs w0.heap.size) = w at *
  have hC := h.up hbw
  have hb := hS p w y1 hC hy1
  have hf := h.env.few
  have hlw := h.lt
  have hws := h.gr.size
  have HLV : Hid (LvAt w w0.heap.size) := hlv
  have HS : Hid (∀ L p' er pl, Out E p y1 L p' er pl → LoopS E p n (.more 4) x L p' er pl) := fun L p' er pl hO => LoopS.start hO hx
  have HP : Hid (RK E n (.lev 4) 54 4) := hI
  have HBW : Hid (Below w0.heap.size w0 w) := hbw
  have hil : ∀ W, (Instr.indexAt 132 (.slice (some ⟨w0.heap.size + 10, 0, none⟩) 5 5) (.int .i64 4)).run Tryz.prog W = .ok (.pointer (some ⟨w0.heap.size + 10, 12, none⟩)) W := fun W => Tryz.idxLv (w0.heap.size + 10) 4 (by omega) W
  clear hx hy1 hS hI h hC hlv hbw hsz
  go_enter Tryz.func54, Tryz.ntmps54
  go_wp2_with fail
  refine hLv.mono ?_
  rintro e w2 ⟨rfl, rfl⟩
  clear hLv
  go_wp2_with fail
  refine hb.mono ?_
  rintro e w1 ⟨v, L, p1, er, pl, rfl, ho, hO, hR, hg⟩
  have HL : Hid (LoopS E p n (.more 4) x L p1 er pl) := HS.out _ _ _ _ hO
  have HOw : Hid (w1.ownsRow w2.heap.size 41 2 v L.length (encT L)) := ho
  have HR : Hid (Rx E w1 p1 er pl) := hR
  have HG : Hid (w2.grownBy w1 (some E.g)) := hg
  clear ho hO hR hg hb HS
  go_wp2
  go_loopw [6] (fun l wr => ∃ (L : List Tk5) (p' : Nat) (er pl : Int), Hid (LoopS E p n (.more 4) x L p' er pl) ∧ Hid (Rx E wr p' er pl) ∧ Hid (w2.grownBy wr (some E.g)) ∧ Hid (wr.ownsRow w2.heap.size 41 2 l L.length (encT L))) (fun _ wr => E.ws.length - posR wr E.g)
  case atStart => exact ⟨L, p1, er, pl, HL, HR, HG, HOw⟩
  case round =>
    clear HL HR HG HOw
    obtain ⟨L, p', er, pl, HL, HR, HG, HO⟩ := hrel
    have hlen : L.length + p ≤ p' ∧ p' ≤ E.ws.length := ⟨HL.out.1, HL.out.2.1⟩
    obtain ⟨_, _, _, _, c4, _, _⟩ := HR.out.c
    have hlvr := Rx.lv HLV.out HG.out hlw (by omega)
    have hrow := hlvr 10 (show 10 < 11 by omega)
    have l0 := cell_row (show wr.heap[w0.heap.size + 10]? = some (.cells _ 137 (0, 0)) from hrow) 12
    have l1 := cell_row (show wr.heap[w0.heap.size + 10]? = some (.cells _ 137 (0, 0)) from hrow) 13
    have l2 := cell_row (show wr.heap[w0.heap.size + 10]? = some (.cells _ 137 (0, 0)) from hrow) 14
    have l0 : wr.cell? ⟨w0.heap.size + 10, 12, none⟩ = some (.slice (some ⟨w0.heap.size + 8, 0, none⟩) 2 2) := l0
    have l1 : wr.cell? ⟨w0.heap.size + 10, 13, none⟩ = some (.slice (some ⟨w0.heap.size + 9, 0, none⟩) 2 2) := l1
    have l2 : wr.cell? ⟨w0.heap.size + 10, 14, none⟩ = some (.bool true) := l2
    by_cases her : er = 0
    · have hpl := HL.out.eof her
      subst her hpl
      have hwd := hlvr.words (k := 4) (by omega)
      have hop := Tryz.rop_any E p' (w0.heap.size + 8) (w0.heap.size + 9) 2 true (lvW 4) (lvO 4) wr HR.out hwd.1 hwd.2 rfl rfl (by omega) (by omega) (lv_len (k := 4) (by omega)).2.2.2 (fun o ho => by
        rw [opL_lev (by omega)] at ho; exact hd_lt rfl (op_ne ho))
      rw [opL_lev (by omega)] at hop
      have HLR : Hid (LvAt wr w0.heap.size) := hlvr
      clear hlvr hrow hwd
      cases ho : opOf 4 (hdT (E.ws.drop p')) with
      | none =>
        rw [ho] at hop
        have HOut : Hid (Out E p x L p' 0 0) := HL.out.stop (fun _ m y hy => by
          cases m with
          | zero => simp [rd5] at hy
          | succ m =>
            rw [rd5, ho] at hy
            simp [okR] at hy; exact hy.symm)
        clear HL ho
        unfold lvV at hop
        go_wp2_with fail
        refine hop.mono ?_
        rintro e w3 ⟨hg3, rfl, hR3⟩
        have hb4 := below_new w3 (.cells #[.int .u8 0, .int .u8 0] 41)
        have HRet : Hid (RP E p w0 x (.returned u6) (w3.alloc (.cells #[.int .u8 0, .int .u8 0] 41))) :=
          ⟨u6, L, p', 0, 0, rfl, World.ownsRow.alloc (own_down (own_far HO.out hg3 (by omega)) (by omega)) _, HOut.out, hR3.up hb4, (((grown_of HBW.out _).trans HG.out).trans hg3).trans (grown_of hb4 _)⟩
        clear hop hg3 hR3 hb4
        go_wp2
        go_ret
        exact HRet.out
      | some op =>
        rw [ho] at hop
        have ho256 := op_lt ho
        have hlt : p' < E.ws.length := hd_lt rfl (op_ne ho)
        obtain ⟨m, y2, hm, hy2, hnx⟩ := HL.out.nextR (k := 4) (by omega) rfl ho256 ho
        have HN : Hid (∀ L1 p1 e1 q1, Out E (p' + 1) y2 L1 p1 e1 q1 → LoopS E p n (.more 4) x (L ++ L1 ++ [(op, 0)]) p1 e1 q1) := hnx
        have HPW : Hid (posR wr E.g = p') := posR_rx HR.out
        have hA := fun w' (hC : Rx E w' (p' + 1) 0 0) => HP.out.le hm (p' + 1) w' y2 hC hy2
        clear HL hy2 hnx ho
        unfold lvV at hop
        go_wp2_with fail
        refine hop.mono ?_
        rintro e w3 ⟨hg3, rfl, hR3⟩
        have hb4 := below_new w3 (.cells #[.int .u8 (op : Int), .int .u8 0] 41)
        have hA := hA _ (hR3.up hb4)
        have HG4 : Hid (w2.grownBy (w3.alloc (.cells #[.int .u8 (op : Int), .int .u8 0] 41)) (some E.g)) := (HG.out.trans hg3).trans (grown_of hb4 _)
        have HO4 : Hid ((w3.alloc (.cells #[.int .u8 (op : Int), .int .u8 0] 41)).ownsRow w2.heap.size 41 2 u6 L.length (encT L)) := World.ownsRow.alloc (own_far HO.out hg3 (by omega)) _
        have hrow4 := (Rx.lv HLV.out HG4.out hlw (by omega)) 10 (show 10 < 11 by omega)
        have m2 := cell_row (show (w3.alloc (.cells #[.int .u8 (op : Int), .int .u8 0] 41)).heap[w0.heap.size + 10]? = some (.cells _ 137 (0, 0)) from hrow4) 14
        have m2 : (w3.alloc (.cells #[.int .u8 (op : Int), .int .u8 0] 41)).cell? ⟨w0.heap.size + 10, 14, none⟩ = some (.bool true) := m2
        have HTK : Hid ((w3.alloc (.cells #[.int .u8 (op : Int), .int .u8 0] 41)).heap[w3.heap.size]? = some (.cells #[.int .u8 (op : Int), .int .u8 0] 41 (0, 0))) := (MapKept.heap_alloc w3 _).1
        have hs3 : w2.heap.size ≤ w3.heap.size := (HG.out.trans hg3).size
        have hs34 : wr.heap.size ≤ w3.heap.size := hg3.size
        have hs4 : (w3.alloc (.cells #[.int .u8 (op : Int), .int .u8 0] 41)).heap.size = w3.heap.size + 1 := by simp
        obtain ⟨w4, hw4⟩ : ∃ w4, w4 = w3.alloc (.cells #[.int .u8 (op : Int), .int .u8 0] 41) := ⟨_, rfl⟩
        have HW4 : Hid (w4 = w3.alloc (.cells #[.int .u8 (op : Int), .int .u8 0] 41)) := hw4
        rw [← hw4] at hA HG4 HO4 m2 HTK hs4
        clear hop hg3 hR3 hb4 hrow4 c4 l0 l1 l2 hw4
        go_wp2_with fail
        rw [← HW4.out]
        refine hA.mono ?_
        rintro e w5 ⟨v5, L1, p2, e2, q2, rfl, ho5, hO5, hR5, hg5⟩
        have hL1 := hO5.few hf
        have hLb := hO5.2.2.1
        have hL2 : L1.length + (p' + 1) ≤ p2 := hO5.1
        obtain ⟨a5, k5, rfl, hT5⟩ := own_tks ho5 hLb
        have HT5 : Hid (TkSl w5 a5 L1.length k5 L1) := hT5
        have HL5 : Hid (LoopS E p n (.more 4) x (L ++ L1 ++ [(op, 0)]) p2 e2 q2) := HN.out _ _ _ _ hO5
        have HR5 : Hid (Rx E w5 p2 e2 q2) := hR5
        have HG5 : Hid (w2.grownBy w5 (some E.g)) := HG4.out.trans hg5
        have HO5 : Hid (w5.ownsRow w2.heap.size 41 2 u6 L.length (encT L)) := own_far HO4.out hg5 (by omega)
        have HTK5 : Hid (w5.heap[w3.heap.size]? = some (.cells #[.int .u8 (op : Int), .int .u8 0] 41 (0, 0))) := (hg5.block w3.heap.size (by omega) (fun e => by injection e with e; omega)).trans HTK.out
        have hsz5 : w3.heap.size < w5.heap.size := by have := hg5.size; omega
        have HNO : Hid (∀ b, (u6 : Value).ownBlock = some b → b ≠ w3.heap.size) := fun b hb e => by
          subst e
          have h1 := HO.out
          obtain ⟨_, h1⟩ := h1
          rcases h1 with ⟨h1, _⟩ | ⟨bb, cap, cur, h1, _, hc, _⟩
          · rw [h1] at hb; cases hb
          · rw [h1] at hb
            have hb : bb = w3.heap.size := by injection hb
            have := (Array.getElem?_eq_some_iff.1 hc).1
            have := hs34
            omega
        clear ho5 hO5 hR5 hg5 hT5 hA HN HTK m2
        go_wp2_with (at_builtin; refine Tryz.append_tks rfl _ _ rfl w2.heap.size _ L L1 a5 L1.length k5 rfl rfl HO5.out HT5.out (by omega) (by omega) (by omega) ?_)
        intro v6 w6 hown6 hgr6
        have HR6 : Hid (Rx E w6 p2 e2 q2) := HR5.out.far hgr6 (fun b e => by have := own_ge HO5.out b e; omega)
        have HG6 : Hid (w2.grownBy w6 (some E.g)) := grown_own HG5.out hgr6 (own_ge HO5.out)
        have HO6 : Hid (w6.ownsRow w2.heap.size 41 2 v6 (L.length + L1.length) (encT (L ++ L1))) := hown6
        have htk6 : w6.heap[w3.heap.size]? = some (.cells #[.int .u8 (op : Int), .int .u8 0] 41 (0, 0)) := (hgr6.block w3.heap.size hsz5 (fun e => HNO.out _ e.symm rfl)).trans HTK5.out
        have t0 : w6.cell? ⟨w3.heap.size, 0, none⟩ = some (.int .u8 (op : Int)) := cell_row htk6 0
        have t1 : w6.cell? ⟨w3.heap.size, 1, none⟩ = some (.int .u8 0) := cell_row htk6 1
        have hsz6 := HG6.out.size
        have hl6 : (L ++ L1).length ≤ 10000000 := by simp; omega
        obtain ⟨a6, k6, rfl⟩ := own_sl HO6.out
        clear hown6 hgr6 HT5 htk6 HTK5
        go_wp2_with (at_builtin; refine Tryz.append_tks rfl _ _ rfl w2.heap.size _ (L ++ L1) [(op, 0)] (some ⟨w6.heap.size, 0, none⟩) 1 1 rfl rfl (by rw [List.length_append]; exact World.ownsRow.alloc HO6.out _) (one_tk w6 (op := op) ho256) hl6 (by simp) (by simp; omega) ?_)
        intro v7 w7 hown7 hgr7
        have hbn := below_new w6 (.cells #[.int .u8 (op : Int), .int .u8 0] 41)
        have HR7 : Hid (Rx E w7 p2 e2 q2) := (HR6.out.up hbn).far hgr7 (fun b e => by have := own_ge HO6.out b e; omega)
        have HG7 : Hid (w2.grownBy w7 (some E.g)) := grown_own (HG6.out.trans (grown_of hbn _)) hgr7 (own_ge HO6.out)
        have HO7 : Hid (w7.ownsRow w2.heap.size 41 2 v7 (L ++ L1 ++ [(op, 0)]).length (encT (L ++ L1 ++ [(op, 0)]))) := by
          show World.ownsRow _ _ _ _ _ _ _
          simpa using hown7
        have HPN : Hid (posR w7 E.g = p2) := posR_rx HR7.out
        have hp2 : p2 ≤ E.ws.length := HR7.out.ple
        clear hown7 hgr7 hbn
        go_wp2
        go_roundw
        case rel => exact ⟨L ++ L1 ++ [(op, 0)], p2, e2, q2, HL5, HR7, HG7, HO7⟩
        case measure => rw [HPN.out, HPW.out]; omega
    · have HOut : Hid (Out E p x L p' er pl) := HL.out.stop (fun e => absurd e her)
      have HRet : Hid (RP E p w0 x (.returned u6) wr) := ⟨u6, L, p', er, pl, rfl, own_down HO.out (by omega), HOut.out, HR.out, (grown_of HBW.out _).trans HG.out⟩
      clear HL hlvr hrow l0 l1 l2
      go_wp2
      go_ret
      exact HRet.out
end Go.Proofs.YtfipefbaabkdeaaGreatDoor
namespace Go.Proofs.YtfipefbaabkdeaaGreatDoor
open Go.RowKit Go.Maps

def unL : List Bytes := [[33], [88], [78], [70], [71]]
def unO : List Nat := [6, 7, 8, 9, 10]
theorem opL_un (s : Bytes) : opL unL unO s = unOf s := by simp [opL, unL, unO, unOf]
theorem un_ne {s : Bytes} {o : Nat} (h : unOf s = some o) : s ≠ [] := by intro e; subst e; cases h
/-- The loop's search: found at k. -/
theorem opL_at {Ws : List Bytes} {Os : List Nat} {k : Nat} (hW : k < Ws.length) (hO : k < Os.length) (s : Bytes) : opL (Ws.drop k) (Os.drop k) s = if s = Ws.getD k [] then some (Os.getD k 0) else opL (Ws.drop (k + 1)) (Os.drop (k + 1)) s := by
  have hdW : Ws.drop k = Ws.getD k [] :: Ws.drop (k + 1) := by rw [List.drop_eq_getElem_cons hW]; simp [List.getD_eq_getElem?_getD, List.getElem?_eq_getElem hW]
  have hdO : Os.drop k = Os.getD k 0 :: Os.drop (k + 1) := by rw [List.drop_eq_getElem_cons hO]; simp [List.getD_eq_getElem?_getD, List.getElem?_eq_getElem hO]
  rw [hdW, hdO]; rfl
theorem una_eq0 (ns : List Bytes) (fin : Int) (n : Nat) (ws : List Wd) : rd5 ns fin (n + 1) .una ws = match unOf (hdT ws) with | some op => andR (rd5 ns fin n .una ws.tail) (fun t r => okR (t ++ [(op, 0)]) r) | none => (match mdOf (hdT ws) with
    | some (c, op) => andR (rd5 ns fin n (.pat 0) ws.tail) fun t r => if hdT r = c then andR (rd5 ns fin n .una r.tail) fun u r' => okR (t ++ u ++ [(op, 0)]) r' else erR 150 (plc fin r)
    | none => rd5 ns fin n .ato ws) := by
  conv => lhs; unfold rd5
  rfl
/-- Behind a call and a token put behind what it answered. -/
theorem un_done {E : Rv} {p OP : Nat} {w0 Wt w3 w4 : World} {y : Except Er (List Tk5 × List Wd)} {v3 v4 : Value} {L : List Tk5} {p2 : Nat} {er pl : Int} (ho : OP < 256) (hG : w0.grownBy Wt (some E.g)) (hes : E.w0.heap.size ≤ w0.heap.size)
    (ho3 : w3.ownsRow Wt.heap.size 41 2 v3 L.length (encT L)) (hO3 : Out E (p + 1) y L p2 er pl) (hR3 : Rx E w3 p2 er pl) (hg3 : Wt.grownBy w3 (some E.g))
    (hown : w4.ownsRow Wt.heap.size 41 2 v4 (L ++ [(OP, 0)]).length (encT (L ++ [(OP, 0)]))) (hgr : w3.grownBy w4 v3.ownBlock) : RP E p w0 (addO OP y) (.returned v4) w4 :=
  ⟨v4, L ++ [(OP, 0)], p2, er, pl, rfl, own_down hown hG.size, hO3.add ho, hR3.far hgr (fun b e => by have := own_ge ho3 b e; have := hG.size; omega), grown_own (hG.trans hg3) hgr (fun b e => Nat.le_trans hG.size (own_ge ho3 b e))⟩
theorem un_done2 {E : Rv} {p OP : Nat} {w0 Wt w3 w4 : World} {o : Obj} {y : Except Er (List Tk5 × List Wd)} {v3 v4 : Value} {L : List Tk5} {p2 : Nat} {er pl : Int} (ho : OP < 256) (hG : w0.grownBy Wt (some E.g)) (hes : E.w0.heap.size ≤ w0.heap.size)
    (ho3 : w3.ownsRow Wt.heap.size 41 2 v3 L.length (encT L)) (hO3 : Out E (p + 1) y L p2 er pl) (hR3 : Rx E w3 p2 er pl) (hg3 : Wt.grownBy w3 (some E.g))
    (hown : w4.ownsRow Wt.heap.size 41 2 v4 (L ++ [(OP, 0)]).length (encT (L ++ [(OP, 0)]))) (hgr : (w3.alloc o).grownBy w4 v3.ownBlock) : RP E p w0 (addO OP y) (.returned v4) w4 :=
  un_done ho hG hes (World.ownsRow.alloc ho3 _) hO3 (hR3.up (below_new _ _)) (hg3.trans (grown_of (below_new _ _) _)) hown hgr
theorem un_cell {a b : World} {v : Value} {u : Value} {g k base n e size : Nat} {c : World} {xs : List Value} (hc : a.cell? ⟨g, k, none⟩ = some u) (hg : a.grownBy b v.ownBlock) (ho : c.ownsRow base e size v n xs) (hlt : g < base) (hs : g < a.heap.size) : b.cell? ⟨g, k, none⟩ = some u := by
  rw [hg.cell_far _ hs (fun e => by have := own_ge ho g e.symm; omega)]; exact hc
/-- What a path in brackets and the formula behind it leave. -/
theorem md_cases {E : Rv} {n op : Nat} {c : Bytes} {y x : Except Er (List Tk5 × List Wd)} (hx : andR (some y) (fun t r => if hdT r = c then andR (rd5 (nms E.ss) E.fin n .una r.tail) (fun u r' => okR (t ++ u ++ [(op, 0)]) r') else erR 150 (plc E.fin r)) = some x) :
    (∃ e, wantX E.fin c y = .error e ∧ x = .error e) ∨ ∃ t r y2, wantX E.fin c y = .ok (t, r) ∧ rd5 (nms E.ss) E.fin n .una r = some y2 ∧ x = addO op (addX t y2) := by
  cases y with
  | error e => simp [andR] at hx; exact Or.inl ⟨e, rfl, hx.symm⟩
  | ok q =>
    obtain ⟨t, r⟩ := q
    simp only [andR] at hx
    by_cases he : hdT r = c
    · rw [if_pos he] at hx
      obtain ⟨y2, hy2⟩ : ∃ y, rd5 (nms E.ss) E.fin n .una r.tail = some y := some_of_and (x := rd5 (nms E.ss) E.fin n .una r.tail) (f := fun u r' => okR (t ++ u ++ [(op, 0)]) r') hx
      refine Or.inr ⟨t, r.tail, y2, by simp [wantX, he], hy2, ?_⟩
      rw [hy2] at hx
      cases y2 with
      | error e => simp at hx; rw [← hx]; rfl
      | ok q => simp [okR] at hx; rw [← hx]; simp [addO, addX]
    · rw [if_neg he] at hx
      simp [erR] at hx
      exact Or.inl ⟨_, by simp only [wantX]; rw [if_neg he], hx.symm⟩
theorem Out.err {E : Rv} {p p' : Nat} {z : Except Er (List Tk5 × List Wd)} {e : Er} {L : List Tk5} {er pl : Int} (h : Out E p z L p' er pl) (hz : z = .error e) : er ≠ 0 ∧ e = (er, pl) := by
  subst hz
  obtain ⟨a, b⟩ := e
  obtain ⟨_, _, _, h4, h5, h6⟩ := h
  exact ⟨by rw [h4]; exact h6, by rw [h4, h5]⟩
theorem Out.fine {E : Rv} {p p' : Nat} {z : Except Er (List Tk5 × List Wd)} {t : List Tk5} {r : List Wd} {L : List Tk5} {er pl : Int} (h : Out E p z L p' er pl) (hz : z = .ok (t, r)) : L = t ∧ E.ws.drop p' = r ∧ er = 0 ∧ pl = 0 := by
  subst hz; exact h.2.2.2
/-- Two lists behind one another, and a token. -/
theorem Out.two {E : Rv} {p p3 p4 op : Nat} (ho : op < 256) {z y2 : Except Er (List Tk5 × List Wd)} {L L2 : List Tk5} {er pl e4 q4 : Int} (h : Out E (p + 1) z L p3 er pl) (h2 : Out E p3 y2 L2 p4 e4 q4) : Out E p (addO op (addX L y2)) (L ++ L2 ++ [(op, 0)]) p4 e4 q4 := by
  obtain ⟨a1, a2, a3, _⟩ := h
  obtain ⟨b1, b2, b3, b4⟩ := h2
  refine ⟨by simp; omega, b2, byt_app (byt_app a3 b3) (byt_one ho), ?_⟩
  cases y2 with
  | error e => exact b4
  | ok q => exact ⟨by rw [b4.1], b4.2⟩
set_option maxHeartbeats 8000000 in
set_option maxRecDepth 100000 in
theorem Tryz.runary_c (E : Rv) (n : Nat) (hU : RC E n .una 73) (hP : RK E n (.pat 0) 53 0) (hA : RC E n .ato 95) : RC E (n + 1) .una 73 := by
  intro p w0 x h hx
  obtain ⟨w, hw⟩ : ∃ w, w = (w0.alloc (.cells #[.string { data := #[33] }, .string { data := #[88] }, .string { data := #[78] }, .string { data := #[70] }, .string { data := #[71] }] 9)).alloc (.cells #[.int .u8 6, .int .u8 7, .int .u8 8, .int .u8 9, .int .u8 10] 39) := ⟨_, rfl⟩
  have hbw : Below w0.heap.size w0 w := by rw [hw]; exact (below_new _ _).alloc (by simp) _
  have hS1 : StAt w w0.heap.size unL := by
    unfold StAt; rw [hw, Lib.alloc_old _ _ _ (by simp)]; exact (MapKept.heap_alloc w0 _).1
  have hS2 : OpAt w (w0.heap.size + 1) unO := by
    have := (MapKept.heap_alloc (w0.alloc (.cells #[.string { data := #[33] }, .string { data := #[88] }, .string { data := #[78] }, .string { data := #[70] }, .string { data := #[71] }] 9)) (.cells #[.int .u8 6, .int .u8 7, .int .u8 8, .int .u8 9, .int .u8 10] 39)).1
    have e : (w0.alloc (.cells #[.string { data := #[33] }, .string { data := #[88] }, .string { data := #[78] }, .string { data := #[70] }, .string { data := #[71] }] 9)).heap.size = w0.heap.size + 1 := by simp
    rw [e] at this
    unfold OpAt; rw [hw]; exact this
  have hzw : w0.heap.size + 1 < w.heap.size := by rw [hw]; simp
  have hf := h.env.few
  have hlw := h.lt
  have hes := h.gr.size
  have hidx := Tryz.idxS w0.heap.size 5
  have hido := Tryz.idxOp (w0.heap.size + 1) 5
  have HC : Hid (Rx E w p 0 0) := h.up hbw
  have HWS : Hid (StAt w w0.heap.size unL) := hS1
  have HOS : Hid (OpAt w (w0.heap.size + 1) unO) := hS2
  have HBW : Hid (Below w0.heap.size w0 w) := hbw
  have HX : Hid (rd5 (nms E.ss) E.fin (n + 1) .una (E.ws.drop p) = some x) := hx
  have HU : Hid (RC E n .una 73) := hU
  have HP : Hid (RK E n (.pat 0) 53 0) := hP
  have HA : Hid (RC E n .ato 95) := hA
  clear h hbw hS1 hS2 hx hU hP hA
  go_enter Tryz.func73, Tryz.ntmps73
  go_wp2
  rw [← hw]
  clear hw
  go_loopw [5] (fun i wr => ∃ k q : Nat, k ≤ 5 ∧ i = .int .i64 k ∧ wr = w.drewN q ∧ Hid (unOf (hdT (E.ws.drop p)) = opL (unL.drop k) (unO.drop k) (hdT (E.ws.drop p)))) (fun i _ => 5 - (intOf i).toNat)
  case atStart => exact ⟨0, 0, Nat.zero_le _, rfl, rfl, (opL_un _).symm⟩
  case round =>
    obtain ⟨k, q, hk, rfl, rfl, HK⟩ := hrel
    by_cases hlt : k < 5
    · have hWk : k < unL.length := hlt
      have hOk : k < unO.length := hlt
      have cw : (w.drewN q).cell? ⟨w0.heap.size, k, none⟩ = some (.string (mkB (unL.getD k []))) := HWS.out.cell hWk
      have co : w.cell? ⟨w0.heap.size + 1, k, none⟩ = some (.int .u8 ((unO.getD k 0 : Nat) : Int)) := HOS.out.cell hOk
      have hik := fun W => hidx k hlt W
      have hio := fun W => hido k hlt W
      have hmem : unL.getD k [] ∈ unL := by rw [List.getD_eq_getElem?_getD, List.getElem?_eq_getElem hWk]; exact List.getElem_mem hWk
      have hsne : unL.getD k [] ≠ [] := (show ∀ s ∈ unL, s ≠ [] by decide) _ hmem
      have hI := Tryz.ris_at E p (mkB (unL.getD k [])) (by rw [mkB_toList]; exact hsne) w q HC.out
      rw [mkB_toList] at hI
      have hK := HK.out
      rw [opL_at hWk hOk] at hK
      by_cases he : hdT (E.ws.drop p) = unL.getD k []
      · rw [decide_eq_true he] at hI
        rw [if_pos he] at hK
        have hpl : p < E.ws.length := hd_lt he hsne
        have hx := HX.out
        rw [una_eq0, hK] at hx
        simp only at hx
        rw [List.tail_drop] at hx
        obtain ⟨y, hy⟩ := some_of_and hx
        rw [hy] at hx
        have hx' : x = addO (unO.getD k 0) y := by
          cases y with
          | error e => simp [andR] at hx; rw [← hx]; rfl
          | ok q => simp [andR, okR] at hx; rw [← hx]; rfl
        subst hx'
        have ho256 := un_lt hK
        have hA := fun w' (hC : Rx E w' (p + 1) 0 0) => HU.out (p + 1) w' y hC hy
        generalize mkB (unL.getD k []) = X at *
        generalize unO.getD k 0 = OP at *
        clear hidx hido hK HK he hmem hx hy HX HU HP HA hsne
        go_wp2_with fail
        refine hI.mono ?_
        rintro e w2 ⟨rfl, q2, rfl⟩
        have hC2 := HC.out.drew q2
        obtain ⟨_, c1, _, _, _, _, z⟩ := hC2.c
        have z1 := z 1
        have hne1 : ¬ (E.g = w0.heap.size + 1) := by omega
        have hne2 : ¬ (w0.heap.size + 1 = E.g) := by omega
        have HR1 := hC2.bump hpl
        have hG1 : w0.grownBy ((w.drewN q2).setCell ⟨E.g, 1, none⟩ (.int .i64 ((p : Int) + 1))) (some E.g) := ((grown_of HBW.out _).trans (grown_of (below_drewN (Below.refl _ _) q2) _)).trans (set_grown _ _ _ _)
        have co1 : ((w.drewN q2).setCell ⟨E.g, 1, none⟩ (.int .i64 ((p : Int) + 1))).cell? ⟨w0.heap.size + 1, k, none⟩ = some (.int .u8 (OP : Int)) := by
          rw [World.cell?_setCell_other _ _ _ _ (by intro e; injection e with e; exact hne1 e)]; exact co
        have hs1 : w0.heap.size + 1 < ((w.drewN q2).setCell ⟨E.g, 1, none⟩ (.int .i64 ((p : Int) + 1))).heap.size := by simp; omega
        clear hC2 z hI
        go_wp2
        obtain ⟨W1, hW1⟩ : ∃ W1, W1 = (w.drewN q2).setCell ⟨E.g, 1, none⟩ (.int .i64 ((p : Int) + 1)) := ⟨_, rfl⟩
        rw [← hW1] at HR1 hG1 co1 hs1 ⊢
        clear hW1 co cw c1 z1 hik
        have hk0 : W1.drew.cell? ⟨w0.heap.size + 1, k, none⟩ = some (.int .u8 (OP : Int)) := co1
        have hk1 : ∀ a b : World, w0.heap.size + 1 < a.heap.size → a.cell? ⟨w0.heap.size + 1, k, none⟩ = some (.int .u8 (OP : Int)) → a.grownBy b (some E.g) → b.cell? ⟨w0.heap.size + 1, k, none⟩ = some (.int .u8 (OP : Int)) := fun a b ha hc hg => by
          rw [hg.cell_far _ ha (fun e => by injection e with e; exact hne2 e)]; exact hc
        have hsd : w0.heap.size + 1 < W1.drew.heap.size := hs1
        have HRd : Rx E W1.drew (p + 1) 0 0 := HR1.drew 1
        have hGd : w0.grownBy W1.drew (some E.g) := hG1.trans (grown_of (below_drewN (Below.refl _ _) 1) _)
        have HRt : Rx E (W1.drew.alloc (.cells #[.int .u8 (OP : Int), .int .u8 0] 41)) (p + 1) 0 0 := HRd.up (below_new _ _)
        have hkt : (W1.drew.alloc (.cells #[.int .u8 (OP : Int), .int .u8 0] 41)).cell? ⟨w0.heap.size + 1, k, none⟩ = some (.int .u8 (OP : Int)) := kept_cell hk0 (below_new _ _)
        have hTt := one_tk W1.drew ho256
        have hGt : w0.grownBy (W1.drew.alloc (.cells #[.int .u8 (OP : Int), .int .u8 0] 41)) (some E.g) := hGd.trans (grown_of (below_new _ _) _)
        have HO0 : OP < 256 := ho256
        have hgne2 : E.w0.heap.size ≤ w0.heap.size := hes
        have hgne : ∀ a : World, E.g < a.heap.size → (⟨a.heap.size, 0, none⟩ : Addr).block ≠ E.g := fun a ha e => by have : a.heap.size = E.g := e; omega
        go_region_held3 (fun w' => w'.cell? ⟨w0.heap.size + 1, k, none⟩ = some (.int .u8 (OP : Int))) (first | exact hk0 | exact hkt | assumption | exact kept_cell ‹_› (below_new _ _)) (first
          | (go_at_call 73; refine (hA W1.drew HRd).mono ?_; rintro e w3 ⟨v3, L, p2, er, pl, rfl, ho3, hO3, hR3, hg3⟩; have hc3 := hk1 _ _ hsd hk0 hg3)
          | (go_at_call 73; refine (hA _ HRt).mono ?_; rintro e w3 ⟨v3, L, p2, er, pl, rfl, ho3, hO3, hR3, hg3⟩; have hc3 := hk1 _ _ (by simp; omega) hkt hg3; have hT3 := hTt.grown hg3 (fun x hx e => by injection hx with hx; injection e with e; subst hx; exact hgne _ HRd.lt e))
          | (revert hT3; intro hT3; refine Tryz.step_tks rfl _ _ rfl (W1.drew.alloc (.cells #[.int .u8 (OP : Int), .int .u8 0] 41)).heap.size v3 L [(OP, 0)] _ 1 1 rfl rfl ho3 hT3 (Nat.le_trans (hO3.few hf) (by omega)) (by simp) hg3.size ?_; intro v4 w4 hown4 hgr4; have HRet : RP E p w0 (addO OP y) (.returned v4) w4 := un_done HO0 hGt hgne2 ho3 hO3 hR3 hg3 hown4 hgr4; have hc4 := un_cell hc3 hgr4 ho3 (by simp; omega) (Nat.lt_of_lt_of_le (by simp; omega) hg3.size))
          | (revert hc3; intro hc3; refine Tryz.step_tks rfl _ _ rfl W1.drew.heap.size v3 L [(OP, 0)] _ 1 1 rfl rfl (World.ownsRow.alloc ho3 _) (one_tk w3 ho256) (Nat.le_trans (hO3.few hf) (by omega)) (by simp) (Nat.le_trans hg3.size (below_new _ _).size) ?_; intro v4 w4 hown4 hgr4; have HRet : RP E p w0 (addO OP y) (.returned v4) w4 := un_done2 HO0 hGd hgne2 ho3 hO3 hR3 hg3 hown4 hgr4; have hc4 := un_cell (kept_cell hc3 (below_new _ _)) hgr4 ho3 (by simp; omega) (Nat.lt_of_lt_of_le (by simp; omega) (Nat.le_trans hg3.size (below_new _ _).size))))
        all_goals
          have HRet : Hid (RP E p w0 (addO OP y) (.returned v4) w4) := HRet
          clear hk1 hk0 hkt hTt hgne hgne2 HRd HRt HR1 hG1 hGd hGt hA
          go_wp2
          go_ret
          exact HRet.out
      · rw [decide_eq_false he] at hI
        rw [if_neg he] at hK
        have HK2 : Hid (unOf (hdT (E.ws.drop p)) = opL (unL.drop (k + 1)) (unO.drop (k + 1)) (hdT (E.ws.drop p))) := hK
        generalize mkB (unL.getD k []) = X at *
        clear hidx hido hK HK he hmem hsne co HX
        go_wp2_with fail
        refine hI.mono ?_
        rintro e w2 ⟨rfl, q2, rfl⟩
        clear hI
        go_wp2
        go_roundw
        case rel => exact ⟨k + 1, q2, by omega, by go_num, rfl, HK2⟩
        case measure => simp [intOf]; omega
    · have hkn : k = 5 := by omega
      subst hkn
      have hun : unOf (hdT (E.ws.drop p)) = none := HK.out
      have h60 : ({ data := #[60] } : ByteArray).toList = [60] := by rw [ByteArray.toList_eq]
      have h91 : ({ data := #[91] } : ByteArray).toList = [91] := by rw [ByteArray.toList_eq]
      have i60 := fun q => Tryz.ris_at E p { data := #[60] } (by rw [h60]; simp) w q HC.out
      have i91 := fun q => Tryz.ris_at E p { data := #[91] } (by rw [h91]; simp) w q HC.out
      rw [h60] at i60
      rw [h91] at i91
      clear h60 h91
      by_cases hn0 : hdT (E.ws.drop p) = [60]
      · rw [decide_eq_true hn0] at i60
        have hn91 : ¬ hdT (E.ws.drop p) = [91] := by rw [hn0]; decide
        rw [decide_eq_false hn91] at i91
        have hx := HX.out
        rw [una_eq0, hun] at hx
        simp only at hx
        rw [hn0] at hx
        have hx : andR (rd5 (nms E.ss) E.fin n (.pat 0) (E.ws.drop p).tail) (fun t r => if hdT r = [62] then andR (rd5 (nms E.ss) E.fin n .una r.tail) (fun u r' => okR (t ++ u ++ [(17, 0)]) r') else erR 150 (plc E.fin r)) = some x := hx
        rw [List.tail_drop] at hx
        obtain ⟨y, hy⟩ := some_of_and hx
        rw [hy] at hx
        have HMD : Hid ((∃ e, wantX E.fin [62] y = .error e ∧ x = .error e) ∨ ∃ t r y2, wantX E.fin [62] y = .ok (t, r) ∧ rd5 (nms E.ss) E.fin n .una r = some y2 ∧ x = addO 17 (addX t y2)) := md_cases hx
        have hpl : p < E.ws.length := hd_lt hn0 (by simp)
        have hPa := fun w' (hC : Rx E w' (p + 1) 0 0) => HP.out (p + 1) w' y hC hy
        have hcc : ({ data := #[62] } : ByteArray).toList = [62] := by rw [ByteArray.toList_eq]
        clear hx hy HX HK hun HA HP hidx hido
        go_wp2_with fail
        refine (i60 q).mono ?_
        rintro e w2 ⟨rfl, q, rfl⟩
        go_wp2_with fail
        refine (i91 q).mono ?_
        rintro e w2 ⟨rfl, q, rfl⟩
        have hC2 := HC.out.drew q
        obtain ⟨_, c1, _, _, _, _, z⟩ := hC2.c
        have z1 := z 1
        have hPa := hPa _ (hC2.bump hpl)
        have HG2 : Hid (w0.grownBy ((w.drewN q).setCell ⟨E.g, 1, none⟩ (.int .i64 ((p : Int) + 1))) (some E.g)) := ((grown_of HBW.out _).trans (grown_of (below_drewN (Below.refl _ _) q) _)).trans (set_grown _ _ _ _)
        clear hC2 z i60 i91
        go_wp2_with fail
        refine hPa.mono ?_
        rintro e w3 ⟨v3, L, p2, er, pl, rfl, ho3, hO3, hR3, hg3⟩
        obtain ⟨a3, k3, rfl⟩ := own_sl ho3
        have hWn := Tryz.rwant_any E p2 er pl hO3.eof { data := #[62] } (by rw [hcc]; simp) w3 hR3
        rw [hcc] at hWn
        have HOw : Hid (Out E (p + 1) (wantX E.fin [62] y) L (wantS E [62] p2 er pl).1 (wantS E [62] p2 er pl).2.1 (wantS E [62] p2 er pl).2.2) := hO3.want (by simp)
        have hLf := hO3.few hf
        have HG3 : Hid (w0.grownBy w3 (some E.g)) := HG2.out.trans hg3
        have HO3 : Hid (w3.ownsRow w0.heap.size 41 2 (.slice a3 L.length k3) L.length (encT L)) := own_down ho3 HG2.out.size
        generalize wantS E [62] p2 er pl = S at *
        clear ho3 hO3 hR3 hg3 hPa hcc
        go_wp2_with fail
        refine hWn.mono ?_
        rintro e w4 ⟨rfl, hg4, hR4⟩
        have HR4 : Hid (Rx E w4 S.1 S.2.1 S.2.2) := hR4
        have HG4 : Hid (w0.grownBy w4 (some E.g)) := HG3.out.trans hg4
        have HO4 : Hid (w4.ownsRow w0.heap.size 41 2 (.slice a3 L.length k3) L.length (encT L)) := own_far HO3.out hg4 hlw
        obtain ⟨_, _, _, _, c4, _, _⟩ := hR4.c
        have hs4 := HG4.out.size
        clear hg4 hR4 hWn
        rcases HMD.out with ⟨ee, hz, hxe⟩ | ⟨t, r, y2, hz, hy2, hxe⟩
        · obtain ⟨h5, rfl⟩ := HOw.out.err hz
          have HOut : Hid (Out E p x (L ++ [(17, 0)]) S.1 S.2.1 S.2.2) := by
            have := HOw.out.add (p := p) (op := 17) (by omega)
            rw [hz] at this
            rw [hxe]; exact this
          clear hz hxe HMD
          generalize S.1 = S1 at *
          generalize S.2.1 = S2 at *
          generalize S.2.2 = S3 at *
          go_wp2_with (at_builtin; refine Tryz.append_tks rfl _ _ rfl w0.heap.size _ L [(17, 0)] (some ⟨w4.heap.size, 0, none⟩) 1 1 rfl rfl (World.ownsRow.alloc HO4.out _) (one_tk w4 (op := 17) (by omega)) (by omega) (by simp) (by simp; omega) ?_)
          intro v6 w6 hown6 hgr6
          have hbn := below_new w4 (.cells #[.int .u8 17, .int .u8 0] 41)
          have HRet : Hid (RP E p w0 x (.returned v6) w6) := ⟨v6, L ++ [(17, 0)], S1, S2, S3, rfl, by rw [List.length_append]; exact hown6, HOut.out, (HR4.out.up hbn).far hgr6 (fun b e => by have := own_ge HO4.out b e; omega), grown_own (HG4.out.trans (grown_of hbn _)) hgr6 (own_ge HO4.out)⟩
          clear hown6 hgr6 hbn
          go_wp2
          go_ret
          exact HRet.out
        · obtain ⟨rfl, hr, h5, h6⟩ := HOw.out.fine hz
          have hRz : Rx E w4 S.1 0 0 := by have := HR4.out; rw [h5, h6] at this; exact this
          have hUn := HU.out S.1 w4 y2 hRz (by rw [hr]; exact hy2)
          rw [h5] at c4
          have HOT : Hid (∀ L2 p4 e4 q4, Out E S.1 y2 L2 p4 e4 q4 → Out E p x (L ++ L2 ++ [(17, 0)]) p4 e4 q4) := fun L2 p4 e4 q4 h2 => by
            rw [hxe]; exact Out.two (by omega) HOw.out h2
          have hS1 : L.length + (p + 1) ≤ S.1 := HOw.out.1
          clear hz hxe HMD hr hy2 h5 h6 hRz
          generalize S.1 = S1 at *
          go_wp2_with fail
          refine hUn.mono ?_
          rintro e w5 ⟨v5, L2, p4, e4, q4, rfl, ho5, hO5, hR5, hg5⟩
          have hL2 := hO5.few hf
          obtain ⟨a5, k5, rfl, hT5⟩ := own_tks ho5 hO5.2.2.1
          have HT5 : Hid (TkSl w5 a5 L2.length k5 L2) := hT5
          have HOut : Hid (Out E p x (L ++ L2 ++ [(17, 0)]) p4 e4 q4) := HOT.out _ _ _ _ hO5
          have HR5 : Hid (Rx E w5 p4 e4 q4) := hR5
          have HG5 : Hid (w0.grownBy w5 (some E.g)) := HG4.out.trans hg5
          have HO5 : Hid (w5.ownsRow w0.heap.size 41 2 (.slice a3 L.length k3) L.length (encT L)) := own_far HO4.out hg5 hlw
          have hs5 := HG5.out.size
          clear ho5 hO5 hR5 hg5 hT5 hUn HOT
          go_wp2_with (at_builtin; refine Tryz.append_tks rfl _ _ rfl w0.heap.size _ L L2 a5 L2.length k5 rfl rfl HO5.out HT5.out (by omega) (by omega) (by omega) ?_)
          intro v6 w6 hown6 hgr6
          have HR6 : Hid (Rx E w6 p4 e4 q4) := HR5.out.far hgr6 (fun b e => by have := own_ge HO5.out b e; omega)
          have HG6 : Hid (w0.grownBy w6 (some E.g)) := grown_own HG5.out hgr6 (own_ge HO5.out)
          have HO6 : Hid (w6.ownsRow w0.heap.size 41 2 v6 (L.length + L2.length) (encT (L ++ L2))) := hown6
          have hs6 := HG6.out.size
          have hl6 : (L ++ L2).length ≤ 10000000 := by simp; omega
          obtain ⟨a6, k6, rfl⟩ := own_sl HO6.out
          clear hown6 hgr6 HT5
          go_wp2_with (at_builtin; refine Tryz.append_tks rfl _ _ rfl w0.heap.size _ (L ++ L2) [(17, 0)] (some ⟨w6.heap.size, 0, none⟩) 1 1 rfl rfl (by rw [List.length_append]; exact World.ownsRow.alloc HO6.out _) (one_tk w6 (op := 17) (by omega)) hl6 (by simp) (by simp; omega) ?_)
          intro v7 w7 hown7 hgr7
          have hbn := below_new w6 (.cells #[.int .u8 17, .int .u8 0] 41)
          have HRet : Hid (RP E p w0 x (.returned v7) w7) := ⟨v7, L ++ L2 ++ [(17, 0)], p4, e4, q4, rfl, by
            show World.ownsRow _ _ _ _ _ _ _
            simpa using hown7, HOut.out, (HR6.out.up hbn).far hgr7 (fun b e => by have := own_ge HO6.out b e; omega), grown_own (HG6.out.trans (grown_of hbn _)) hgr7 (own_ge HO6.out)⟩
          clear hown7 hgr7 hbn
          go_wp2
          go_ret
          exact HRet.out
      · rw [decide_eq_false hn0] at i60
        by_cases hn1 : hdT (E.ws.drop p) = [91]
        · rw [decide_eq_true hn1] at i91
          have hx := HX.out
          rw [una_eq0, hun] at hx
          simp only at hx
          rw [hn1] at hx
          have hx : andR (rd5 (nms E.ss) E.fin n (.pat 0) (E.ws.drop p).tail) (fun t r => if hdT r = [93] then andR (rd5 (nms E.ss) E.fin n .una r.tail) (fun u r' => okR (t ++ u ++ [(18, 0)]) r') else erR 150 (plc E.fin r)) = some x := hx
          rw [List.tail_drop] at hx
          obtain ⟨y, hy⟩ := some_of_and hx
          rw [hy] at hx
          have HMD : Hid ((∃ e, wantX E.fin [93] y = .error e ∧ x = .error e) ∨ ∃ t r y2, wantX E.fin [93] y = .ok (t, r) ∧ rd5 (nms E.ss) E.fin n .una r = some y2 ∧ x = addO 18 (addX t y2)) := md_cases hx
          have hpl : p < E.ws.length := hd_lt hn1 (by simp)
          have hPa := fun w' (hC : Rx E w' (p + 1) 0 0) => HP.out (p + 1) w' y hC hy
          have hcc : ({ data := #[93] } : ByteArray).toList = [93] := by rw [ByteArray.toList_eq]
          clear hx hy HX HK hun HA HP hidx hido
          go_wp2_with fail
          refine (i60 q).mono ?_
          rintro e w2 ⟨rfl, q, rfl⟩
          go_wp2_with fail
          refine (i91 q).mono ?_
          rintro e w2 ⟨rfl, q, rfl⟩
          go_wp2_with fail
          refine (i91 q).mono ?_
          rintro e w2 ⟨rfl, q, rfl⟩
          have hC2 := HC.out.drew q
          obtain ⟨_, c1, _, _, _, _, z⟩ := hC2.c
          have z1 := z 1
          have hPa := hPa _ (hC2.bump hpl)
          have HG2 : Hid (w0.grownBy ((w.drewN q).setCell ⟨E.g, 1, none⟩ (.int .i64 ((p : Int) + 1))) (some E.g)) := ((grown_of HBW.out _).trans (grown_of (below_drewN (Below.refl _ _) q) _)).trans (set_grown _ _ _ _)
          clear hC2 z i60 i91
          go_wp2_with fail
          refine hPa.mono ?_
          rintro e w3 ⟨v3, L, p2, er, pl, rfl, ho3, hO3, hR3, hg3⟩
          obtain ⟨a3, k3, rfl⟩ := own_sl ho3
          have hWn := Tryz.rwant_any E p2 er pl hO3.eof { data := #[93] } (by rw [hcc]; simp) w3 hR3
          rw [hcc] at hWn
          have HOw : Hid (Out E (p + 1) (wantX E.fin [93] y) L (wantS E [93] p2 er pl).1 (wantS E [93] p2 er pl).2.1 (wantS E [93] p2 er pl).2.2) := hO3.want (by simp)
          have hLf := hO3.few hf
          have HG3 : Hid (w0.grownBy w3 (some E.g)) := HG2.out.trans hg3
          have HO3 : Hid (w3.ownsRow w0.heap.size 41 2 (.slice a3 L.length k3) L.length (encT L)) := own_down ho3 HG2.out.size
          generalize wantS E [93] p2 er pl = S at *
          clear ho3 hO3 hR3 hg3 hPa hcc
          go_wp2_with fail
          refine hWn.mono ?_
          rintro e w4 ⟨rfl, hg4, hR4⟩
          have HR4 : Hid (Rx E w4 S.1 S.2.1 S.2.2) := hR4
          have HG4 : Hid (w0.grownBy w4 (some E.g)) := HG3.out.trans hg4
          have HO4 : Hid (w4.ownsRow w0.heap.size 41 2 (.slice a3 L.length k3) L.length (encT L)) := own_far HO3.out hg4 hlw
          obtain ⟨_, _, _, _, c4, _, _⟩ := hR4.c
          have hs4 := HG4.out.size
          clear hg4 hR4 hWn
          rcases HMD.out with ⟨ee, hz, hxe⟩ | ⟨t, r, y2, hz, hy2, hxe⟩
          · obtain ⟨h5, rfl⟩ := HOw.out.err hz
            have HOut : Hid (Out E p x (L ++ [(18, 0)]) S.1 S.2.1 S.2.2) := by
              have := HOw.out.add (p := p) (op := 18) (by omega)
              rw [hz] at this
              rw [hxe]; exact this
            clear hz hxe HMD
            generalize S.1 = S1 at *
            generalize S.2.1 = S2 at *
            generalize S.2.2 = S3 at *
            go_wp2_with (at_builtin; refine Tryz.append_tks rfl _ _ rfl w0.heap.size _ L [(18, 0)] (some ⟨w4.heap.size, 0, none⟩) 1 1 rfl rfl (World.ownsRow.alloc HO4.out _) (one_tk w4 (op := 18) (by omega)) (by omega) (by simp) (by simp; omega) ?_)
            intro v6 w6 hown6 hgr6
            have hbn := below_new w4 (.cells #[.int .u8 18, .int .u8 0] 41)
            have HRet : Hid (RP E p w0 x (.returned v6) w6) := ⟨v6, L ++ [(18, 0)], S1, S2, S3, rfl, by rw [List.length_append]; exact hown6, HOut.out, (HR4.out.up hbn).far hgr6 (fun b e => by have := own_ge HO4.out b e; omega), grown_own (HG4.out.trans (grown_of hbn _)) hgr6 (own_ge HO4.out)⟩
            clear hown6 hgr6 hbn
            go_wp2
            go_ret
            exact HRet.out
          · obtain ⟨rfl, hr, h5, h6⟩ := HOw.out.fine hz
            have hRz : Rx E w4 S.1 0 0 := by have := HR4.out; rw [h5, h6] at this; exact this
            have hUn := HU.out S.1 w4 y2 hRz (by rw [hr]; exact hy2)
            rw [h5] at c4
            have HOT : Hid (∀ L2 p4 e4 q4, Out E S.1 y2 L2 p4 e4 q4 → Out E p x (L ++ L2 ++ [(18, 0)]) p4 e4 q4) := fun L2 p4 e4 q4 h2 => by
              rw [hxe]; exact Out.two (by omega) HOw.out h2
            have hS1 : L.length + (p + 1) ≤ S.1 := HOw.out.1
            clear hz hxe HMD hr hy2 h5 h6 hRz
            generalize S.1 = S1 at *
            go_wp2_with fail
            refine hUn.mono ?_
            rintro e w5 ⟨v5, L2, p4, e4, q4, rfl, ho5, hO5, hR5, hg5⟩
            have hL2 := hO5.few hf
            obtain ⟨a5, k5, rfl, hT5⟩ := own_tks ho5 hO5.2.2.1
            have HT5 : Hid (TkSl w5 a5 L2.length k5 L2) := hT5
            have HOut : Hid (Out E p x (L ++ L2 ++ [(18, 0)]) p4 e4 q4) := HOT.out _ _ _ _ hO5
            have HR5 : Hid (Rx E w5 p4 e4 q4) := hR5
            have HG5 : Hid (w0.grownBy w5 (some E.g)) := HG4.out.trans hg5
            have HO5 : Hid (w5.ownsRow w0.heap.size 41 2 (.slice a3 L.length k3) L.length (encT L)) := own_far HO4.out hg5 hlw
            have hs5 := HG5.out.size
            clear ho5 hO5 hR5 hg5 hT5 hUn HOT
            go_wp2_with (at_builtin; refine Tryz.append_tks rfl _ _ rfl w0.heap.size _ L L2 a5 L2.length k5 rfl rfl HO5.out HT5.out (by omega) (by omega) (by omega) ?_)
            intro v6 w6 hown6 hgr6
            have HR6 : Hid (Rx E w6 p4 e4 q4) := HR5.out.far hgr6 (fun b e => by have := own_ge HO5.out b e; omega)
            have HG6 : Hid (w0.grownBy w6 (some E.g)) := grown_own HG5.out hgr6 (own_ge HO5.out)
            have HO6 : Hid (w6.ownsRow w0.heap.size 41 2 v6 (L.length + L2.length) (encT (L ++ L2))) := hown6
            have hs6 := HG6.out.size
            have hl6 : (L ++ L2).length ≤ 10000000 := by simp; omega
            obtain ⟨a6, k6, rfl⟩ := own_sl HO6.out
            clear hown6 hgr6 HT5
            go_wp2_with (at_builtin; refine Tryz.append_tks rfl _ _ rfl w0.heap.size _ (L ++ L2) [(18, 0)] (some ⟨w6.heap.size, 0, none⟩) 1 1 rfl rfl (by rw [List.length_append]; exact World.ownsRow.alloc HO6.out _) (one_tk w6 (op := 18) (by omega)) hl6 (by simp) (by simp; omega) ?_)
            intro v7 w7 hown7 hgr7
            have hbn := below_new w6 (.cells #[.int .u8 18, .int .u8 0] 41)
            have HRet : Hid (RP E p w0 x (.returned v7) w7) := ⟨v7, L ++ L2 ++ [(18, 0)], p4, e4, q4, rfl, by
              show World.ownsRow _ _ _ _ _ _ _
              simpa using hown7, HOut.out, (HR6.out.up hbn).far hgr7 (fun b e => by have := own_ge HO6.out b e; omega), grown_own (HG6.out.trans (grown_of hbn _)) hgr7 (own_ge HO6.out)⟩
            clear hown7 hgr7 hbn
            go_wp2
            go_ret
            exact HRet.out
        · rw [decide_eq_false hn1] at i91
          have hx := HX.out
          have hmd : mdOf (hdT (E.ws.drop p)) = none := by unfold mdOf; rw [if_neg hn0, if_neg hn1]
          rw [una_eq0, hun] at hx
          simp only at hx
          rw [hmd] at hx
          have hAt := fun q => HA.out p (w.drewN q) x (HC.out.drew q) hx
          clear hx HX HK hun HA HP HU hidx hido hmd hn0 hn1
          go_wp2_with fail
          refine (i60 q).mono ?_
          rintro e w2 ⟨rfl, q, rfl⟩
          go_wp2_with fail
          refine (i91 q).mono ?_
          rintro e w2 ⟨rfl, q, rfl⟩
          clear i60 i91
          go_wp2_with fail
          refine (hAt q).mono ?_
          rintro e w3 ⟨v3, L, p2, er, pl, rfl, ho3, hO3, hR3, hg3⟩
          have HRet : Hid (RP E p w0 x (.returned v3) w3) := ⟨v3, L, p2, er, pl, rfl, own_down ho3 HBW.out.size, hO3, hR3, ((grown_of HBW.out _).trans (grown_of (below_drewN (Below.refl _ _) q) _)).trans hg3⟩
          clear ho3 hO3 hR3 hg3 hAt
          go_wp2
          go_ret
          exact HRet.out
end Go.Proofs.YtfipefbaabkdeaaGreatDoor
namespace Go.Proofs.YtfipefbaabkdeaaGreatDoor
open Go.RowKit Go.Maps

def atL : List Bytes := [[116, 114, 117, 101], [102, 97, 108, 115, 101], [108, 97, 115, 116]]
def atO : List Nat := [0, 1, 3]
theorem opL_at3 (s : Bytes) : opL atL atO s = atOf s := by simp [opL, atL, atO, atOf]
theorem ato_eq0 (ns : List Bytes) (fin : Int) (n : Nat) (ws : List Wd) : rd5 ns fin (n + 1) .ato ws = match atOf (hdT ws) with | some op => okR [(op, 0)] ws.tail | none => if hdT ws = [40] then andR (rd5 ns fin n (.lev 0) ws.tail) (fun t r => if hdT r = [41] then okR t r.tail else erR 150 (plc fin r)) else nameR ns fin ws := by
  conv => lhs; unfold rd5
  cases ws <;> rfl
/-- A list that was just laid out. -/
theorem own_one (w : World) (op q : Nat) {base : Nat} (h : base ≤ w.heap.size) : (w.alloc (.cells #[.int .u8 (op : Int), .int .u8 (q : Int)] 41)).ownsRow base 41 2 (.slice (some ⟨w.heap.size, 0, none⟩) 1 1) 1 (encT [(op, q)]) :=
  ⟨rfl, Or.inr ⟨w.heap.size, 1, _, rfl, h, (MapKept.heap_alloc w _).1, Nat.le_refl _, by unfold maxLen; omega, rfl, rfl⟩⟩
set_option maxHeartbeats 8000000 in
set_option maxRecDepth 100000 in
theorem Tryz.ratom_c (E : Rv) (n : Nat) (hL : RK E n (.lev 0) 54 0) : RC E (n + 1) .ato 95 := by
  intro p w0 x h hx
  obtain ⟨w, hw⟩ : ∃ w, w = (w0.alloc (.cells #[.string { data := #[116, 114, 117, 101] }, .string { data := #[102, 97, 108, 115, 101] }, .string { data := #[108, 97, 115, 116] }] 9)).alloc (.cells #[.int .u8 0, .int .u8 1, .int .u8 3] 39) := ⟨_, rfl⟩
  have hbw : Below w0.heap.size w0 w := by rw [hw]; exact (below_new _ _).alloc (by simp) _
  have hS1 : StAt w w0.heap.size atL := by
    unfold StAt; rw [hw, Lib.alloc_old _ _ _ (by simp)]; exact (MapKept.heap_alloc w0 _).1
  have hS2 : OpAt w (w0.heap.size + 1) atO := by
    have := (MapKept.heap_alloc (w0.alloc (.cells #[.string { data := #[116, 114, 117, 101] }, .string { data := #[102, 97, 108, 115, 101] }, .string { data := #[108, 97, 115, 116] }] 9)) (.cells #[.int .u8 0, .int .u8 1, .int .u8 3] 39)).1
    have e : (w0.alloc (.cells #[.string { data := #[116, 114, 117, 101] }, .string { data := #[102, 97, 108, 115, 101] }, .string { data := #[108, 97, 115, 116] }] 9)).heap.size = w0.heap.size + 1 := by simp
    rw [e] at this
    unfold OpAt; rw [hw]; exact this
  have hzw : w0.heap.size + 1 < w.heap.size := by rw [hw]; simp
  have hf := h.env.few
  have hlw := h.lt
  have hes := h.gr.size
  have hple := h.ple
  have hidx := Tryz.idxS w0.heap.size 3
  have hido := Tryz.idxOp (w0.heap.size + 1) 3
  have HC : Hid (Rx E w p 0 0) := h.up hbw
  have HWS : Hid (StAt w w0.heap.size atL) := hS1
  have HOS : Hid (OpAt w (w0.heap.size + 1) atO) := hS2
  have HBW : Hid (Below w0.heap.size w0 w) := hbw
  have HX : Hid (rd5 (nms E.ss) E.fin (n + 1) .ato (E.ws.drop p) = some x) := hx
  have HL : Hid (RK E n (.lev 0) 54 0) := hL
  clear h hbw hS1 hS2 hx hL
  go_enter Tryz.func95, Tryz.ntmps95
  go_wp2
  rw [← hw]
  clear hw
  go_loopw [5] (fun i wr => ∃ k q : Nat, k ≤ 3 ∧ i = .int .i64 k ∧ wr = w.drewN q ∧ Hid (atOf (hdT (E.ws.drop p)) = opL (atL.drop k) (atO.drop k) (hdT (E.ws.drop p)))) (fun i _ => 3 - (intOf i).toNat)
  case atStart => exact ⟨0, 0, Nat.zero_le _, rfl, rfl, (opL_at3 _).symm⟩
  case round =>
    obtain ⟨k, q, hk, rfl, rfl, HK⟩ := hrel
    by_cases hlt : k < 3
    · have hWk : k < atL.length := hlt
      have hOk : k < atO.length := hlt
      have cw : (w.drewN q).cell? ⟨w0.heap.size, k, none⟩ = some (.string (mkB (atL.getD k []))) := HWS.out.cell hWk
      have co : w.cell? ⟨w0.heap.size + 1, k, none⟩ = some (.int .u8 ((atO.getD k 0 : Nat) : Int)) := HOS.out.cell hOk
      have hik := fun W => hidx k hlt W
      have hio := fun W => hido k hlt W
      have hmem : atL.getD k [] ∈ atL := by rw [List.getD_eq_getElem?_getD, List.getElem?_eq_getElem hWk]; exact List.getElem_mem hWk
      have hsne : atL.getD k [] ≠ [] := (show ∀ s ∈ atL, s ≠ [] by decide) _ hmem
      have hI := Tryz.ris_at E p (mkB (atL.getD k [])) (by rw [mkB_toList]; exact hsne) w q HC.out
      rw [mkB_toList] at hI
      have hK := HK.out
      rw [opL_at hWk hOk] at hK
      by_cases he : hdT (E.ws.drop p) = atL.getD k []
      · rw [decide_eq_true he] at hI
        rw [if_pos he] at hK
        have hpl : p < E.ws.length := hd_lt he hsne
        have hx := HX.out
        rw [ato_eq0, hK] at hx
        simp only at hx
        rw [List.tail_drop] at hx
        simp [okR] at hx
        have ho256 := at_lt hK
        generalize mkB (atL.getD k []) = X at *
        have hgd : atO[k]?.getD 0 = atO.getD k 0 := by rw [List.getD_eq_getElem?_getD]
        rw [hgd] at hx
        generalize atO.getD k 0 = OP at *
        clear hidx hido hK HK he hmem HX HL hsne hgd
        go_wp2_with fail
        refine hI.mono ?_
        rintro e w2 ⟨rfl, q2, rfl⟩
        have hC2 := HC.out.drew q2
        obtain ⟨_, c1, _, _, _, _, z⟩ := hC2.c
        have z1 := z 1
        have hne1 : ¬ (E.g = w0.heap.size + 1) := by omega
        have hne2 : ¬ (w0.heap.size + 1 = E.g) := by omega
        have HR1 : Hid (Rx E ((w.drewN q2).setCell ⟨E.g, 1, none⟩ (.int .i64 ((p : Int) + 1))) (p + 1) 0 0) := hC2.bump hpl
        have HG1 : Hid (w0.grownBy ((w.drewN q2).setCell ⟨E.g, 1, none⟩ (.int .i64 ((p : Int) + 1))) (some E.g)) := ((grown_of HBW.out _).trans (grown_of (below_drewN (Below.refl _ _) q2) _)).trans (set_grown _ _ _ _)
        clear hC2 z hI
        go_wp2
        go_ret
        have hbn := below_new ((w.drewN q2).setCell ⟨E.g, 1, none⟩ (.int .i64 ((p : Int) + 1))) (.cells #[.int .u8 (OP : Int), .int .u8 0] 41)
        have ho := own_one ((w.drewN q2).setCell ⟨E.g, 1, none⟩ (.int .i64 ((p : Int) + 1))) OP 0 (base := w0.heap.size) (by simp; omega)
        have hs : ((w.drewN q2).setCell ⟨E.g, 1, none⟩ (.int .i64 ((p : Int) + 1))).heap.size = w.heap.size := by simp
        rw [hs] at ho
        refine ⟨_, [(OP, 0)], p + 1, 0, 0, rfl, ho, ⟨by simp; omega, hpl, byt_one ho256, ?_⟩, HR1.out.up hbn, HG1.out.trans (grown_of hbn _)⟩
        rw [← hx]
        exact ⟨rfl, rfl, rfl, rfl⟩
      · rw [decide_eq_false he] at hI
        rw [if_neg he] at hK
        have HK2 : Hid (atOf (hdT (E.ws.drop p)) = opL (atL.drop (k + 1)) (atO.drop (k + 1)) (hdT (E.ws.drop p))) := hK
        generalize mkB (atL.getD k []) = X at *
        clear hidx hido hK HK he hmem hsne co HX
        go_wp2_with fail
        refine hI.mono ?_
        rintro e w2 ⟨rfl, q2, rfl⟩
        clear hI
        go_wp2
        go_roundw
        case rel => exact ⟨k + 1, q2, by omega, by go_num, rfl, HK2⟩
        case measure => simp [intOf]; omega
    · have hkn : k = 3 := by omega
      subst hkn
      have hun : atOf (hdT (E.ws.drop p)) = none := HK.out
      have h40 : ({ data := #[40] } : ByteArray).toList = [40] := by rw [ByteArray.toList_eq]
      have i40 := fun q => Tryz.ris_at E p { data := #[40] } (by rw [h40]; simp) w q HC.out
      rw [h40] at i40
      have hx := HX.out
      rw [ato_eq0, hun] at hx
      simp only at hx
      by_cases hn2 : hdT (E.ws.drop p) = [40]
      · have hlt := hd_lt hn2 (by simp)
        rw [if_pos hn2, List.tail_drop] at hx
        obtain ⟨y, hy⟩ := some_of_and hx
        rw [hy] at hx
        have hx' : x = wantX E.fin [41] y := by
          cases y with
          | error e => simp [andR] at hx; rw [← hx]; rfl
          | ok q =>
            obtain ⟨t, r⟩ := q
            simp only [andR] at hx
            by_cases he : hdT r = [41]
            · rw [if_pos he] at hx; simp [okR] at hx; rw [← hx]; simp [wantX, he]
            · rw [if_neg he] at hx; simp [erR] at hx; rw [← hx]; simp [wantX, he]
        rw [decide_eq_true hn2] at i40
        subst hx'
        have hA := fun q => HL.out (p + 1) _ y ((HC.out.drew q).bump hlt) hy
        have h41 : ({ data := #[41] } : ByteArray).toList = [41] := by rw [ByteArray.toList_eq]
        clear hx hy hn2 HL h40 HX HK hun hidx hido
        go_wp2_with fail
        refine (i40 q).mono ?_
        rintro e w1 ⟨rfl, q, rfl⟩
        clear i40
        have hC1 := HC.out.drew q
        obtain ⟨_, c1, _, _, _, _, z⟩ := hC1.c
        have z1 := z 1
        have hA := hA q
        clear hC1 z
        go_wp2_with fail
        refine hA.mono ?_
        rintro e w2 ⟨v, L, p2, er, pl, rfl, ho, hOut, hR2, hg2⟩
        obtain ⟨av, cv, rfl⟩ := own_sl ho
        have hWn := Tryz.rwant_any E p2 er pl hOut.eof { data := #[41] } (by rw [h41]; simp) w2 hR2
        rw [h41] at hWn
        have HO := Out.weak (p := p) (hOut.want (s := [41]) (by simp))
        have HO : Hid (Out E p (wantX E.fin [41] y) L (wantS E [41] p2 er pl).1 (wantS E [41] p2 er pl).2.1 (wantS E [41] p2 er pl).2.2) := HO
        have HG1 : Hid (w0.grownBy ((w.drewN q).setCell ⟨E.g, 1, none⟩ (.int .i64 ((p : Int) + 1))) (some E.g)) := ((grown_of HBW.out _).trans (grown_of (below_drewN (Below.refl _ _) q) _)).trans (set_grown _ _ _ _)
        have HG2 : Hid (w0.grownBy w2 (some E.g)) := HG1.out.trans hg2
        have HOw : Hid (w2.ownsRow w0.heap.size 41 2 (.slice av L.length cv) L.length (encT L)) := own_down ho HG1.out.size
        generalize wantS E [41] p2 er pl = S at *
        clear ho hOut hR2 hA hg2 h41
        go_wp2_with fail
        refine hWn.mono ?_
        rintro e w3 ⟨rfl, hg3, hR3⟩
        have HRet : Hid (RP E p w0 (wantX E.fin [41] y) (.returned (.slice av L.length cv)) w3) := ⟨_, L, S.1, S.2.1, S.2.2, rfl, own_far HOw.out hg3 hlw, HO.out, hR3, HG2.out.trans hg3⟩
        clear hR3 hg3 hWn
        go_wp2
        go_ret
        exact HRet.out
      · rw [if_neg hn2] at hx
        rw [decide_eq_false hn2] at i40
        have hF := fun er q => Tryz.rfail_ok E p 0 er (w.drewN q) (HC.out.drew q)
        have HXN : Hid (nameR (nms E.ss) E.fin (E.ws.drop p) = some x) := hx
        clear HL h40 HX HK hun hidx hido hx hn2
        obtain ⟨c0, c1, _, c3, c4, _, z⟩ := HC.out.c
        have hbd := HC.out.wd.bd
        have hcp := HC.out.wd.hcap
        unfold maxLen at hbd
        by_cases hpl : p < E.ws.length
        · obtain ⟨g, o, sh, hdx, q0, q1, _, hg1, hg2⟩ := HC.out.wd.at Tryz.underlying96 Tryz.sizeWd p hpl
          have hik := fun W => hdx E.ws.length W hpl
          have hd1 : decide ((p : Int) < (E.ws.length : Int)) = true := by simp; omega
          have hdr : E.ws.drop p = E.ws[p] :: E.ws.drop (p + 1) := List.drop_eq_getElem_cons hpl
          by_cases hso : E.ws[p].so = 2
          · obtain ⟨_, hn⟩ := name_is (ns := nms E.ss) (fin := E.fin) (ws := E.ws.drop p) (by rw [hdr]; exact hso)
            have hxn := HXN.out
            rw [hn] at hxn
            rw [hso] at q0
            rw [← hdT_lt hpl] at q1
            have hTL : (mkB (hdT (E.ws.drop p))).toList = hdT (E.ws.drop p) := mkB_toList _
            have HXV : Hid ((if 0 ≤ atI (nms E.ss) (hdT (E.ws.drop p)) then okR [(2, (atI (nms E.ss) (hdT (E.ws.drop p))).toNat)] (E.ws.drop p).tail else erR 6 (plc E.fin (E.ws.drop p))) = some x) := hxn
            obtain ⟨hnl, hncp, hnbd, hnidx, hnc, _, _, _⟩ := HC.out.nm
            unfold maxLen at hnbd
            have HNL : Hid ((nms E.ss).length = E.nl) := by rw [nms_len, hnl]; exact rfl
            have HNG : Hid (∀ k, k < E.nl → (nms E.ss)[k]? = some (E.ss.getD k ByteArray.empty).toList) := fun k hk => nms_get (by omega)
            have hn8 := HC.out.env.ns8
            have hnix := fun (k : Nat) (W : World) (h : k < E.nl) => hnidx E.nl k W h (Nat.le_refl _)
            have hne1 : g ≠ E.g := by
              obtain ⟨yy, hy⟩ := HC.out.wd.some_of (by omega)
              have := HC.out.env.wne yy hy
              have := hg2 yy hy
              omega
            have HTL : Hid ((mkB (hdT (E.ws.drop p))).toList = hdT (E.ws.drop p)) := hTL
            generalize hXX : mkB (hdT (E.ws.drop p)) = X at *
            clear hXX
            clear hTL hn hxn HXN hdx hso hnidx hdr hnl hbd z
            go_wp2_with fail
            refine (i40 q).mono ?_
            rintro e w1 ⟨rfl, q, rfl⟩
            clear i40
            go_wp2
            go_quiet (fail)
            go_wp2
            go_loopw [7] (fun i wr => ∃ k q : Nat, k ≤ E.nl ∧ i = .int .i64 k ∧ wr = w.drewN q ∧ ((nms E.ss).take k).contains X.toList = false) (fun i _ => E.nl - (intOf i).toNat)
            case atStart => first | exact ⟨0, _, Nat.zero_le _, rfl, rfl, by simp⟩ | exact ⟨0, _, Nat.zero_le _, rfl, World.drewN_drewN _ _ _, by simp⟩
            case round =>
              obtain ⟨k, q, hk, rfl, rfl, hu⟩ := hrel
              have HU : Hid (((nms E.ss).take k).contains X.toList = false) := hu
              clear hu
              by_cases hlt : k < E.nl
              · have hck := hnc k hlt
                have hnk := fun W => hnix k W hlt
                have hgk : Hid ((nms E.ss)[k]? = some (E.ss.getD k ByteArray.empty).toList) := HNG.out k hlt
                clear hnc hnix
                generalize E.ss.getD k ByteArray.empty = NM at *
                rcases Bool.eq_false_or_eq_true (NM.toList == X.toList) with he | he
                · have hxe : x = .ok ([(2, k)], E.ws.drop (p + 1)) := by
                    have e2 : NM.toList = X.toList := by simpa using he
                    have e3 := atI_hit (ns := nms E.ss) (k := k) (s := X.toList) (by rw [← e2]; exact hgk.out) HU.out
                    have := HXV.out
                    rw [← HTL.out, e3, if_pos (by omega)] at this
                    simp [okR] at this
                    rw [← this]
                  have z1 : w.frozen? ⟨E.g, 1, none⟩ = false := HC.out.c.2.2.2.2.2.2 1
                  have hk256 : k < 256 := by omega
                  clear HXV HU HNG
                  go_wp2
                  go_quiet (fail)
                  rw [World.drewN_drewN]
                  have HR1 : Hid (Rx E ((w.drewN (q + nq)).setCell ⟨E.g, 1, none⟩ (.int .i64 ((p : Int) + 1))) (p + 1) 0 0) := (HC.out.drew (q + nq)).bump hpl
                  have HG1 : Hid (w0.grownBy ((w.drewN (q + nq)).setCell ⟨E.g, 1, none⟩ (.int .i64 ((p : Int) + 1))) (some E.g)) := ((grown_of HBW.out _).trans (grown_of (below_drewN (Below.refl _ _) (q + nq)) _)).trans (set_grown _ _ _ _)
                  go_wp2
                  go_ret
                  have hbn := below_new ((w.drewN (q + nq)).setCell ⟨E.g, 1, none⟩ (.int .i64 ((p : Int) + 1))) (.cells #[.int .u8 2, .int .u8 (k : Int)] 41)
                  have ho := own_one ((w.drewN (q + nq)).setCell ⟨E.g, 1, none⟩ (.int .i64 ((p : Int) + 1))) 2 k (base := w0.heap.size) (by simp; omega)
                  have hs : ((w.drewN (q + nq)).setCell ⟨E.g, 1, none⟩ (.int .i64 ((p : Int) + 1))).heap.size = w.heap.size := by simp
                  rw [hs] at ho
                  refine ⟨_, [(2, k)], p + 1, 0, 0, rfl, ho, ⟨by simp; omega, hpl, by intro z hz; simp at hz; subst hz; exact ⟨show 2 < 256 by omega, hk256⟩, ?_⟩, HR1.out.up hbn, HG1.out.trans (grown_of hbn _)⟩
                  rw [hxe]
                  exact ⟨rfl, rfl, rfl, rfl⟩
                · have hx2 : Hid (((nms E.ss).take (k + 1)).contains X.toList = false) := by
                    have e2 : ¬ NM.toList = X.toList := by simpa using he
                    show _ = _
                    rw [take_snoc_contains hgk.out, HU.out]; simp; exact fun h => e2 h.symm
                  go_wp2
                  go_quiet (fail)
                  go_wp2
                  go_roundw
                  case rel => first | exact ⟨k + 1, _, by omega, by go_num, rfl, hx2.out⟩ | exact ⟨k + 1, _, by omega, by go_num, World.drewN_drewN _ _ _, hx2.out⟩
                  case measure => simp [intOf]; omega
              · have hxe : x = .error (6, plc E.fin (E.ws.drop p)) := by
                  have e3 := atI_miss (ns := nms E.ss) (s := X.toList) (by have := HU.out; rwa [List.take_of_length_le (by have := HNL.out; omega)] at this)
                  have := HXV.out
                  rw [← HTL.out, e3, if_neg (by omega)] at this
                  simp [erR] at this
                  rw [← this]
                clear HXV HU HNG hnc hnix
                go_wp2_with fail
                refine (hF 6 _).mono ?_
                rintro e w3 ⟨rfl, hR, hg⟩
                have HRet : Hid (RP E p w0 x (.returned (.slice none 0 0)) w3) := ⟨_, [], p, 6, _, rfl, ⟨rfl, Or.inl ⟨rfl, rfl⟩⟩, ⟨by simp, hple, by simp, by rw [hxe]; exact ⟨rfl, rfl, by decide⟩⟩, hR, ((grown_of HBW.out _).trans (grown_of (below_drewN (Below.refl _ _) _) _)).trans hg⟩
                clear hR hg hF
                go_wp2
                go_ret
                exact HRet.out
          · have hxe : x = .error (150, plc E.fin (E.ws.drop p)) := by
              have := HXN.out
              rw [name_not (by rw [hdr]; exact hso)] at this
              simp [erR] at this; exact this.symm
            generalize E.ws[p].so = SO at *
            have hd2 : ((SO : Int) == 2) = false := by simp; omega
            have hd3 : decide ((SO : Int) = 2) = false := by simp; omega
            clear HXN hdx hdr hso q1 z
            go_wp2_with fail
            refine (i40 q).mono ?_
            rintro e w1 ⟨rfl, q, rfl⟩
            clear i40
            go_wp2
            go_quiet (fail)
            go_wp2_with fail
            refine (hF 150 _).mono ?_
            rintro e w3 ⟨rfl, hR, hg⟩
            have HRet : Hid (RP E p w0 x (.returned (.slice none 0 0)) w3) := ⟨_, [], p, 150, _, rfl, ⟨rfl, Or.inl ⟨rfl, rfl⟩⟩, ⟨by simp, hple, by simp, by rw [hxe]; exact ⟨rfl, rfl, by decide⟩⟩, hR, ((grown_of HBW.out _).trans (grown_of (below_drewN (Below.refl _ _) _) _)).trans hg⟩
            clear hR hg hF
            go_wp2
            go_ret
            exact HRet.out
        · have hd1 : decide ((p : Int) < (E.ws.length : Int)) = false := by simp; omega
          have hxe : x = .error (150, plc E.fin (E.ws.drop p)) := by
            have := HXN.out
            rw [name_not (by rw [List.drop_of_length_le (by omega)]; decide)] at this
            simp [erR] at this; exact this.symm
          clear HXN z
          go_wp2_with fail
          refine (i40 q).mono ?_
          rintro e w1 ⟨rfl, q, rfl⟩
          clear i40
          go_wp2
          go_quiet (fail)
          go_wp2_with fail
          refine (hF 150 _).mono ?_
          rintro e w3 ⟨rfl, hR, hg⟩
          have HRet : Hid (RP E p w0 x (.returned (.slice none 0 0)) w3) := ⟨_, [], p, 150, _, rfl, ⟨rfl, Or.inl ⟨rfl, rfl⟩⟩, ⟨by simp, hple, by simp, by rw [hxe]; exact ⟨rfl, rfl, by decide⟩⟩, hR, ((grown_of HBW.out _).trans (grown_of (below_drewN (Below.refl _ _) _) _)).trans hg⟩
          clear hR hg hF
          go_wp2
          go_ret
          exact HRet.out
end Go.Proofs.YtfipefbaabkdeaaGreatDoor
namespace Go.Proofs.YtfipefbaabkdeaaGreatDoor
open Go.RowKit Go.Maps

structure AllR (E : Rv) (n : Nat) : Prop where
  a0 : RK E n (.lev 0) 54 0
  a1 : RK E n (.lev 1) 54 1
  a2 : RK E n (.lev 2) 54 2
  a3 : RK E n (.lev 3) 54 3
  a4 : RK E n (.lev 4) 54 4
  a5 : RK E n (.lev 5) 54 5
  un : RC E n .una 73
  ao : RC E n .ato 95
  p0 : RK E n (.pat 0) 53 0
  p1 : RK E n (.pat 1) 53 1
  p2 : RK E n (.pat 2) 53 2
  ba : RC E n .bar 70
theorem rc_zero (E : Rv) (nt : NT) (F : FuncId) : RC E 0 nt F := fun p w x hC hx => by simp [rd5] at hx
theorem rk_zero (E : Rv) (nt : NT) (F : FuncId) (k : Nat) : RK E 0 nt F k := fun p w x hC hx => by simp [rd5] at hx
theorem all_r (E : Rv) : ∀ n, AllR E n
  | 0 => ⟨rk_zero _ _ _ _, rk_zero _ _ _ _, rk_zero _ _ _ _, rk_zero _ _ _ _, rk_zero _ _ _ _, rk_zero _ _ _ _, rc_zero _ _ _, rc_zero _ _ _, rk_zero _ _ _ _, rk_zero _ _ _ _, rk_zero _ _ _ _, rc_zero _ _ _⟩
  | n + 1 =>
    have h := all_r E n
    ⟨Tryz.rat0_c E n h.a1, Tryz.rat1_c E n h.a2 h.a1, Tryz.rat2_c E n h.a3, Tryz.rat3_c E n h.a4, Tryz.rat4_c E n h.a5 h.a4, Tryz.rat5_c E n h.un, Tryz.runary_c E n h.un h.p0 h.ao, Tryz.ratom_c E n h.a0, Tryz.rpath0_c E n h.p1, Tryz.rpath1_c E n h.p2, Tryz.rpath2_c E n h.ba, Tryz.rbare_c E n h.a0 h.un h.p0⟩
/-- What the document's readings answer. -/
def ReadD (F : FuncId) (xs : Array Value) (L : List Bytes → Bytes → List Tk5 × Int × Int) : Prop :=
  ∀ (a : Option Addr) (len cap : Nat) (ad : Nat → Addr) (ss : List ByteArray) (s : ByteArray) (w : World), StrSl Tryz.prog 22 w a len cap ad ss →
    Calls Tryz.prog F (#[.slice a len cap, .string s] ++ xs) w fun e w' => ∃ v, e = .returned (.tuple #[v, .int .i64 (L (nms ss) s.toList).2.1, .int .i64 (L (nms ss) s.toList).2.2]) ∧
      w'.ownsRow w.heap.size 41 2 v (L (nms ss) s.toList).1.length (encT (L (nms ss) s.toList).1) ∧ Below w.heap.size w w' ∧ (L (nms ss) s.toList).1.length ≤ 512 ∧ ∀ z ∈ (L (nms ss) s.toList).1, z.1 < 256 ∧ z.2 < 256
/-- What is left behind the whole. -/
theorem Out.all {E : Rv} {x : Except Er (List Tk5 × List Wd)} {L : List Tk5} {p' : Nat} {er pl : Int} (h : Out E 0 x L p' er pl) :
    (er ≠ 0 ∧ endR (some x) = .error (er, pl)) ∨ (er = 0 ∧ pl = 0 ∧ p' < E.ws.length ∧ endR (some x) = .error (150, plc E.fin (E.ws.drop p'))) ∨ (er = 0 ∧ pl = 0 ∧ p' = E.ws.length ∧ endR (some x) = .ok L) := by
  obtain ⟨h1, h2, h3, h4⟩ := h
  cases x with
  | error e =>
    obtain ⟨a, b⟩ := e
    obtain ⟨rfl, rfl, h5⟩ := h4
    exact Or.inl ⟨h5, rfl⟩
  | ok q =>
    obtain ⟨t, r⟩ := q
    obtain ⟨rfl, hr, rfl, rfl⟩ := h4
    rcases Nat.lt_or_ge p' E.ws.length with hl | hl
    · refine Or.inr (Or.inl ⟨rfl, rfl, hl, ?_⟩)
      rw [List.drop_eq_getElem_cons hl] at hr
      rw [← hr, List.drop_eq_getElem_cons hl]
      rfl
    · refine Or.inr (Or.inr ⟨rfl, rfl, by omega, ?_⟩)
      rw [List.drop_of_length_le hl] at hr
      rw [← hr]; rfl

set_option maxRecDepth 100000 in
set_option maxHeartbeats 8000000 in
theorem Tryz.rread_formula : ReadD 38 #[.bool false] formL := by
  intro a len cap ad ss s w hS
  have hCk := Tryz.rcheck_any a len cap ad ss w hS
  have HS : Hid (StrSl Tryz.prog 22 w a len cap ad ss) := hS
  show Calls Tryz.prog 38 #[.slice a len cap, .string s, .bool false] w _
  clear hS
  by_cases hc : checkE (nms ss) = 0
  · rw [hc] at hCk
    have hW := fun q => Tryz.rwords_any s (w.drewN q)
    by_cases hwd : ((wordsL s.toList).2.1, (wordsL s.toList).2.2) = ((0 : Int), (0 : Int))
    · have hw0 : (wordsL s.toList).2.1 = 0 := (words_err s).2 hwd
      have hw1 : (wordsL s.toList).2.2 = 0 := by injection hwd with _ h
      rcases words_two s with ⟨_, hbad⟩ | ⟨h4, l, hl, hsp⟩
      · exact absurd hwd hbad
      rw [hw0, hw1] at hW
      have hform : formL (nms ss) s.toList = ansR 1 (whole5 (nms ss) s.size (.lev 0) (wordsL s.toList).1) := form_eq _ _ _ _ hc hwd
      rw [hform]
      have hll : (wordsL s.toList).1 = l := by rw [hl]
      rw [hll] at hW ⊢
      obtain ⟨x, hx, _⟩ := rd5_fine (nms ss) s.size (16 * l.length + 16) (.lev 0) l (need_le _ _)
      have hwh : whole5 (nms ss) s.size (.lev 0) l = endR (some x) := by unfold whole5; rw [hx]
      rw [hwh]
      have hn8 := checkE_few hc
      have HTK : Hid (∀ z ∈ (ansR 1 (endR (some x))).1, z.1 < 256 ∧ z.2 < 256) := ans_byt fun t he => by
        cases x with
        | error er => simp [endR] at he
        | ok q =>
          obtain ⟨t', r⟩ := q
          cases r with
          | nil => simp [endR] at he; subst he; exact rd5_bytes _ (by omega) _ _ _ _ _ _ hx
          | cons u r => simp [endR] at he
      have HL : Hid ((ansR 1 (endR (some x))).1.length ≤ 512) := ans_few
      have HXX : Hid (rd5 (nms ss) s.size (16 * l.length + 16) (.lev 0) l = some x) := hx
      have hfew : l.length ≤ 4096 := by have := spans_len hsp; rw [tl_len] at this; omega
      have HOKL : Hid (∀ t ∈ l, t.Ok) := fun t ht => spans_ok (by rw [tl_len]; exact h4) hsp t ht
      obtain ⟨Y, hY⟩ : ∃ Y, ansR 1 (endR (some x)) = Y := ⟨_, rfl⟩
      have HY : Hid (ansR 1 (endR (some x)) = Y) := hY
      rw [hY] at HTK HL ⊢
      clear hform hl hll hw0 hw1 hwd hsp hx hwh hY hc
      go_enter Tryz.func38, Tryz.ntmps38
      go_wp2_with fail
      refine hCk.mono ?_
      rintro e w1 ⟨rfl, q, rfl⟩
      have hW := hW q
      clear hCk
      go_wp2_with fail
      refine hW.mono ?_
      rintro e w2 ⟨v, rfl, ho, hB2⟩
      obtain ⟨av, cv, rfl, hWd2, hge⟩ := own_wd ho HOKL.out
      have hbw2 : Below w.heap.size w w2 := below_step (below_drewN (Below.refl _ _) q) hB2
      have hS2 := HS.out.up hbw2
      have hsz2 := hbw2.size
      have hbn := below_new w2 (.cells #[.slice av l.length cv, .int .i64 0, .int .i64 (s.size : Int), .slice a len cap, .int .i64 0, .int .i64 0] 111)
      have hrow := (MapKept.heap_alloc w2 (.cells #[.slice av l.length cv, .int .i64 0, .int .i64 (s.size : Int), .slice a len cap, .int .i64 0, .int .i64 0] 111)).1
      obtain ⟨w3, hw3⟩ : ∃ w3, w3 = w2.alloc (.cells #[.slice av l.length cv, .int .i64 0, .int .i64 (s.size : Int), .slice a len cap, .int .i64 0, .int .i64 0] 111) := ⟨_, rfl⟩
      have hsz3 : w2.heap.size < w3.heap.size := by rw [hw3]; simp
      rw [← hw3] at hbn hrow
      have hEV : RvOk ⟨w2.heap.size, a, len, cap, ad, ss, av, cv, l, s.size, w3⟩ := by
        refine ⟨hWd2.up hbn, hS2.up hbn, ?_, ?_, hfew, h4, ?_, hsz3⟩
        · intro y hy
          have hy : av = some y := hy
          show y.block ≠ w2.heap.size
          subst hy
          by_cases h0 : 0 < l.length
          · have := hWd2.lt h0; omega
          · intro e
            have hc0 := hge y rfl
            obtain ⟨hl1, h1⟩ := ho
            rcases h1 with ⟨h1, _⟩ | ⟨g, cap', cur, h1, _, hcl, _⟩
            · injection h1 with h1; cases h1
            · injection h1 with h1 _ _
              injection h1 with h1
              have := (Array.getElem?_eq_some_iff.1 hcl).1
              rw [h1] at e
              have e : g = w2.heap.size := e
              omega
        · intro k hk
          have := hS2.blk k hk
          show (ad k).block ≠ w2.heap.size
          omega
        · show len ≤ 8
          have := HS.out.hlen; rw [nms_len] at hn8; omega
      have hR0 : Rx ⟨w2.heap.size, a, len, cap, ad, ss, av, cv, l, s.size, w3⟩ w3 0 0 0 := ⟨hEV, World.grownBy.refl _ _, Nat.zero_le _, hrow⟩
      obtain ⟨E, hE⟩ : ∃ E : Rv, E = ⟨w2.heap.size, a, len, cap, ad, ss, av, cv, l, s.size, w3⟩ := ⟨_, rfl⟩
      have hEg : E.g = w2.heap.size := by rw [hE]
      have hEw : E.ws = l := by rw [hE]
      have hEs : E.ss = ss := by rw [hE]
      have hEf : E.fin = s.size := by rw [hE]
      have hE0 : E.w0 = w3 := by rw [hE]
      rw [← hE] at hR0
      have hAt := (all_r E (16 * l.length + 16)).a0 0 w3 x hR0 (by rw [hEw, hEs, hEf, List.drop_zero]; exact HXX.out)
      rw [hEg] at hAt
      have HEG : Hid (E.g = w2.heap.size) := hEg
      have HEW : Hid (E.ws = l) := hEw
      have HBW : Hid (Below w.heap.size w w3) := below_step hbw2 hbn
      have hEl : E.ws.length ≤ 4096 := by rw [hEw]; exact hfew
      clear ho hB2 hW hWd2 hge hS2 hbw2 hrow hEV hE hEg hEw hEs hEf hE0 hbn HOKL hR0
      go_wp2_with fail
      rw [← hw3]
      clear hw3
      refine hAt.mono ?_
      rintro e w4 ⟨v4, L, p', er, pl, rfl, ho4, hO4, hR4, hg4⟩
      obtain ⟨a4, c4', rfl, hT4⟩ := own_tks ho4 hO4.2.2.1
      have hG4 : w3.grownBy w4 (some w2.heap.size) := by rw [← HEG.out]; exact hg4
      have HB4 : Hid (Below w.heap.size w w4) := HBW.out.grown hG4 (by omega) (fun k e => by injection e with e; omega)
      obtain ⟨k0, k1, _, _, k4, k5, _⟩ := hR4.c
      rw [HEG.out] at k0 k1 k4 k5
      have hle : p' ≤ E.ws.length := hR4.ple
      have hcap := hR4.wd.hcap
      have hbdw := hR4.wd.bd
      unfold maxLen at hbdw
      have HO4 : Hid (w4.ownsRow w.heap.size 41 2 (.slice a4 L.length c4') L.length (encT L)) := own_down ho4 (by omega)
      have HT4 : Hid (TkSl w4 a4 L.length c4' L) := hT4
      have HR4 : Hid (Rx E w4 p' er pl) := hR4
      have hall := hO4.all
      clear ho4 hR4 hg4 hAt hT4 HXX hG4
      rcases hall with ⟨he, hend⟩ | ⟨rfl, rfl, hlt, hend⟩ | ⟨rfl, rfl, heq, hend⟩
      · have hYe : Y = ([], er, pl) := by rw [← HY.out, hend]; rfl
        subst hYe
        have hd1 : (er == 0) = false := by simpa using he
        have hd2 : decide (er = 0) = false := by simpa using he
        clear hO4 hend HY
        go_wp2
        go_quiet (fail)
        go_wp2
        go_quiet (fail)
        go_wp2
        go_ret3
        first | exact ⟨_, rfl, ⟨rfl, Or.inl ⟨rfl, rfl⟩⟩, below_drewN HB4.out _⟩ | exact ⟨_, rfl, ⟨rfl, Or.inl ⟨rfl, rfl⟩⟩, below_drewN (below_drewN HB4.out _) _, HL.out, HTK.out⟩
      · have hYe : Y = ([], 150, plc E.fin (E.ws.drop p')) := by rw [← HY.out, hend]; rfl
        subst hYe
        have hd1 : decide ((p' : Int) < (E.ws.length : Int)) = true := by simp; omega
        have hF := fun q => Tryz.rfail_ok E p' 0 150 (w4.drewN q) (HR4.out.drew q)
        rw [HEG.out] at hF
        clear hO4 hend HY
        go_wp2
        go_quiet (fail)
        go_wp2_with fail
        refine (hF _).mono ?_
        rintro e w5 ⟨rfl, hR5, hg5⟩
        obtain ⟨_, _, _, _, m4, m5, _⟩ := hR5.c
        rw [HEG.out] at m4 m5
        have HB5 : Hid (Below w.heap.size w w5) := (below_drewN HB4.out _).grown hg5 (by have := HB4.out.size; show _ ≤ w4.heap.size; exact this) (fun k e => by injection e with e; omega)
        clear hF hR5 hg5 k0 k1 k4 k5
        go_wp2
        go_quiet (fail)
        go_wp2
        go_ret3
        first | exact ⟨_, rfl, ⟨rfl, Or.inl ⟨rfl, rfl⟩⟩, below_drewN HB5.out _⟩ | exact ⟨_, rfl, ⟨rfl, Or.inl ⟨rfl, rfl⟩⟩, below_drewN HB5.out _, HL.out, HTK.out⟩
      · have hd1 : decide ((p' : Int) < (E.ws.length : Int)) = false := by simp; omega
        have hCh := fun q => Tryz.rCheck_any a4 L.length c4' L (w4.drewN q) (HT4.out.up (below_drewN (Below.refl _ _) q))
        have hYe : Y = ansR 1 (.ok L) := by rw [← HY.out, hend]
        clear hO4 hend HY
        by_cases hz : lookE L 1 = 0
        · have hYf : Y = (L, 0, 0) := by rw [hYe]; simp [ansR, hz]
          subst hYf
          rw [hz] at hCh
          clear hYe hz
          go_wp2
          go_quiet (fail)
          go_wp2_with fail
          refine (hCh _).mono ?_
          rintro e w5 ⟨rfl, hB5⟩
          have HB5 : Hid (Below w.heap.size w w5) := below_step (below_drewN HB4.out _) hB5
          have HO5 : Hid (w5.ownsRow w.heap.size 41 2 (.slice a4 L.length c4') L.length (encT L)) := owns_keep HO4.out fun k _ hk => hB5.block k hk
          clear hCh hB5 k0 k1 k4 k5
          go_wp2
          go_ret3
          first | exact ⟨_, rfl, HO5.out, HB5.out, HL.out, fun a b h => HTK.out (a, b) h⟩ | exact ⟨_, rfl, HO5.out, HB5.out, HL.out, HTK.out⟩
        · have hYf : Y = ([], (lookE L 1 : Int), -1) := by rw [hYe]; simp [ansR, hz]
          subst hYf
          have hz' : ¬ (((lookE L 1 : Nat) : Int) = 0) := by omega
          clear hYe
          go_wp2
          go_quiet (fail)
          go_wp2_with fail
          refine (hCh _).mono ?_
          rintro e w5 ⟨rfl, hB5⟩
          have HB5 : Hid (Below w.heap.size w w5) := below_step (below_drewN HB4.out _) hB5
          clear hCh hB5 k0 k1 k4 k5
          go_wp2
          go_ret3
          first | exact ⟨_, rfl, ⟨rfl, Or.inl ⟨rfl, rfl⟩⟩, HB5.out⟩ | exact ⟨_, rfl, ⟨rfl, Or.inl ⟨rfl, rfl⟩⟩, HB5.out, HL.out, HTK.out⟩
    · have hw0 : ¬ ((wordsL s.toList).2.1 = 0) := fun e => hwd ((words_err s).1 e)
      have hform : formL (nms ss) s.toList = ([], (wordsL s.toList).2.1, (wordsL s.toList).2.2) := by
        unfold formL form5; rw [if_neg (by simp [hc]), if_pos hwd]
      rw [hform]
      generalize (wordsL s.toList).2.1 = er at *
      generalize (wordsL s.toList).2.2 = ea at *
      clear hwd hc hform
      go_enter Tryz.func38, Tryz.ntmps38
      go_wp2_with fail
      refine hCk.mono ?_
      rintro e w1 ⟨rfl, q, rfl⟩
      have hW := hW q
      clear hCk
      go_wp2_with fail
      refine hW.mono ?_
      rintro e w2 ⟨v, rfl, ho, hB2⟩
      obtain ⟨av, cv, rfl⟩ := own_sl ho
      have HB2 : Hid (Below w.heap.size w w2) := below_step (below_drewN (Below.refl _ _) q) hB2
      clear ho hB2 hW
      go_wp2
      go_ret3
      first | exact ⟨_, rfl, ⟨rfl, Or.inl ⟨rfl, rfl⟩⟩, HB2.out⟩ | exact ⟨_, rfl, ⟨rfl, Or.inl ⟨rfl, rfl⟩⟩, HB2.out, by simp, by intro z hz; simp at hz⟩
  · have hform : formL (nms ss) s.toList = ([], checkE (nms ss), -1) := by
      unfold formL form5; rw [if_pos hc]
    rw [hform]
    generalize checkE (nms ss) = er at *
    clear hform
    go_enter Tryz.func38, Tryz.ntmps38
    go_wp2_with fail
    refine hCk.mono ?_
    rintro e w1 ⟨rfl, q, rfl⟩
    clear hCk
    go_wp2
    go_ret3
    first | exact ⟨_, rfl, ⟨rfl, Or.inl ⟨rfl, rfl⟩⟩, below_drewN (Below.refl _ _) q⟩ | exact ⟨_, rfl, ⟨rfl, Or.inl ⟨rfl, rfl⟩⟩, below_drewN (Below.refl _ _) q, by simp, by intro z hz; simp at hz⟩
theorem Tryz.rformula_read : ReadD 21 #[] formL := by
  intro a len cap ad ss s w hS
  have h := Tryz.rread_formula a len cap ad ss s w hS
  generalize formL (nms ss) s.toList = Y at *
  obtain ⟨t, er, ea⟩ := Y
  go_enter Tryz.func21, Tryz.ntmps21
  go_wp2_with fail
  refine h.mono ?_
  rintro e w1 ⟨v, rfl, ho, hb, hl, hz⟩
  have HO : Hid (w1.ownsRow w.heap.size 41 2 v t.length (encT t)) := ho
  have HB : Hid (Below w.heap.size w w1) := hb
  have HZ : Hid (∀ z ∈ t, z.1 < 256 ∧ z.2 < 256) := hz
  clear h ho hb hz
  go_wp2
  go_ret3
  first | exact ⟨v, rfl, HO.out, HB.out, hl, fun a b h => HZ.out (a, b) h⟩ | exact ⟨v, rfl, HO.out, HB.out, hl, HZ.out⟩

set_option maxRecDepth 100000 in
set_option maxHeartbeats 8000000 in
theorem Tryz.rread_path : ReadD 38 #[.bool true] pathL := by
  intro a len cap ad ss s w hS
  have hCk := Tryz.rcheck_any a len cap ad ss w hS
  have HS : Hid (StrSl Tryz.prog 22 w a len cap ad ss) := hS
  show Calls Tryz.prog 38 #[.slice a len cap, .string s, .bool true] w _
  clear hS
  by_cases hc : checkE (nms ss) = 0
  · rw [hc] at hCk
    have hW := fun q => Tryz.rwords_any s (w.drewN q)
    by_cases hwd : ((wordsL s.toList).2.1, (wordsL s.toList).2.2) = ((0 : Int), (0 : Int))
    · have hw0 : (wordsL s.toList).2.1 = 0 := (words_err s).2 hwd
      have hw1 : (wordsL s.toList).2.2 = 0 := by injection hwd with _ h
      rcases words_two s with ⟨_, hbad⟩ | ⟨h4, l, hl, hsp⟩
      · exact absurd hwd hbad
      rw [hw0, hw1] at hW
      have hform : pathL (nms ss) s.toList = ansR 3 (whole5 (nms ss) s.size (.pat 0) (wordsL s.toList).1) := form_eq _ _ _ _ hc hwd
      rw [hform]
      have hll : (wordsL s.toList).1 = l := by rw [hl]
      rw [hll] at hW ⊢
      obtain ⟨x, hx, _⟩ := rd5_fine (nms ss) s.size (16 * l.length + 16) (.pat 0) l (need_le _ _)
      have hwh : whole5 (nms ss) s.size (.pat 0) l = endR (some x) := by unfold whole5; rw [hx]
      rw [hwh]
      have hn8 := checkE_few hc
      have HTK : Hid (∀ z ∈ (ansR 3 (endR (some x))).1, z.1 < 256 ∧ z.2 < 256) := ans_byt fun t he => by
        cases x with
        | error er => simp [endR] at he
        | ok q =>
          obtain ⟨t', r⟩ := q
          cases r with
          | nil => simp [endR] at he; subst he; exact rd5_bytes _ (by omega) _ _ _ _ _ _ hx
          | cons u r => simp [endR] at he
      have HL : Hid ((ansR 3 (endR (some x))).1.length ≤ 512) := ans_few
      have HXX : Hid (rd5 (nms ss) s.size (16 * l.length + 16) (.pat 0) l = some x) := hx
      have hfew : l.length ≤ 4096 := by have := spans_len hsp; rw [tl_len] at this; omega
      have HOKL : Hid (∀ t ∈ l, t.Ok) := fun t ht => spans_ok (by rw [tl_len]; exact h4) hsp t ht
      obtain ⟨Y, hY⟩ : ∃ Y, ansR 3 (endR (some x)) = Y := ⟨_, rfl⟩
      have HY : Hid (ansR 3 (endR (some x)) = Y) := hY
      rw [hY] at HTK HL ⊢
      clear hform hl hll hw0 hw1 hwd hsp hx hwh hY hc
      go_enter Tryz.func38, Tryz.ntmps38
      go_wp2_with fail
      refine hCk.mono ?_
      rintro e w1 ⟨rfl, q, rfl⟩
      have hW := hW q
      clear hCk
      go_wp2_with fail
      refine hW.mono ?_
      rintro e w2 ⟨v, rfl, ho, hB2⟩
      obtain ⟨av, cv, rfl, hWd2, hge⟩ := own_wd ho HOKL.out
      have hbw2 : Below w.heap.size w w2 := below_step (below_drewN (Below.refl _ _) q) hB2
      have hS2 := HS.out.up hbw2
      have hsz2 := hbw2.size
      have hbn := below_new w2 (.cells #[.slice av l.length cv, .int .i64 0, .int .i64 (s.size : Int), .slice a len cap, .int .i64 0, .int .i64 0] 111)
      have hrow := (MapKept.heap_alloc w2 (.cells #[.slice av l.length cv, .int .i64 0, .int .i64 (s.size : Int), .slice a len cap, .int .i64 0, .int .i64 0] 111)).1
      obtain ⟨w3, hw3⟩ : ∃ w3, w3 = w2.alloc (.cells #[.slice av l.length cv, .int .i64 0, .int .i64 (s.size : Int), .slice a len cap, .int .i64 0, .int .i64 0] 111) := ⟨_, rfl⟩
      have hsz3 : w2.heap.size < w3.heap.size := by rw [hw3]; simp
      rw [← hw3] at hbn hrow
      have hEV : RvOk ⟨w2.heap.size, a, len, cap, ad, ss, av, cv, l, s.size, w3⟩ := by
        refine ⟨hWd2.up hbn, hS2.up hbn, ?_, ?_, hfew, h4, ?_, hsz3⟩
        · intro y hy
          have hy : av = some y := hy
          show y.block ≠ w2.heap.size
          subst hy
          by_cases h0 : 0 < l.length
          · have := hWd2.lt h0; omega
          · intro e
            have hc0 := hge y rfl
            obtain ⟨hl1, h1⟩ := ho
            rcases h1 with ⟨h1, _⟩ | ⟨g, cap', cur, h1, _, hcl, _⟩
            · injection h1 with h1; cases h1
            · injection h1 with h1 _ _
              injection h1 with h1
              have := (Array.getElem?_eq_some_iff.1 hcl).1
              rw [h1] at e
              have e : g = w2.heap.size := e
              omega
        · intro k hk
          have := hS2.blk k hk
          show (ad k).block ≠ w2.heap.size
          omega
        · show len ≤ 8
          have := HS.out.hlen; rw [nms_len] at hn8; omega
      have hR0 : Rx ⟨w2.heap.size, a, len, cap, ad, ss, av, cv, l, s.size, w3⟩ w3 0 0 0 := ⟨hEV, World.grownBy.refl _ _, Nat.zero_le _, hrow⟩
      obtain ⟨E, hE⟩ : ∃ E : Rv, E = ⟨w2.heap.size, a, len, cap, ad, ss, av, cv, l, s.size, w3⟩ := ⟨_, rfl⟩
      have hEg : E.g = w2.heap.size := by rw [hE]
      have hEw : E.ws = l := by rw [hE]
      have hEs : E.ss = ss := by rw [hE]
      have hEf : E.fin = s.size := by rw [hE]
      have hE0 : E.w0 = w3 := by rw [hE]
      rw [← hE] at hR0
      have hAt := (all_r E (16 * l.length + 16)).p0 0 w3 x hR0 (by rw [hEw, hEs, hEf, List.drop_zero]; exact HXX.out)
      rw [hEg] at hAt
      have HEG : Hid (E.g = w2.heap.size) := hEg
      have HEW : Hid (E.ws = l) := hEw
      have HBW : Hid (Below w.heap.size w w3) := below_step hbw2 hbn
      have hEl : E.ws.length ≤ 4096 := by rw [hEw]; exact hfew
      clear ho hB2 hW hWd2 hge hS2 hbw2 hrow hEV hE hEg hEw hEs hEf hE0 hbn HOKL hR0
      go_wp2_with fail
      rw [← hw3]
      clear hw3
      refine hAt.mono ?_
      rintro e w4 ⟨v4, L, p', er, pl, rfl, ho4, hO4, hR4, hg4⟩
      obtain ⟨a4, c4', rfl, hT4⟩ := own_tks ho4 hO4.2.2.1
      have hG4 : w3.grownBy w4 (some w2.heap.size) := by rw [← HEG.out]; exact hg4
      have HB4 : Hid (Below w.heap.size w w4) := HBW.out.grown hG4 (by omega) (fun k e => by injection e with e; omega)
      obtain ⟨k0, k1, _, _, k4, k5, _⟩ := hR4.c
      rw [HEG.out] at k0 k1 k4 k5
      have hle : p' ≤ E.ws.length := hR4.ple
      have hcap := hR4.wd.hcap
      have hbdw := hR4.wd.bd
      unfold maxLen at hbdw
      have HO4 : Hid (w4.ownsRow w.heap.size 41 2 (.slice a4 L.length c4') L.length (encT L)) := own_down ho4 (by omega)
      have HT4 : Hid (TkSl w4 a4 L.length c4' L) := hT4
      have HR4 : Hid (Rx E w4 p' er pl) := hR4
      have hall := hO4.all
      clear ho4 hR4 hg4 hAt hT4 HXX hG4
      rcases hall with ⟨he, hend⟩ | ⟨rfl, rfl, hlt, hend⟩ | ⟨rfl, rfl, heq, hend⟩
      · have hYe : Y = ([], er, pl) := by rw [← HY.out, hend]; rfl
        subst hYe
        have hd1 : (er == 0) = false := by simpa using he
        have hd2 : decide (er = 0) = false := by simpa using he
        clear hO4 hend HY
        go_wp2
        go_quiet (fail)
        go_wp2
        go_quiet (fail)
        go_wp2
        go_ret3
        first | exact ⟨_, rfl, ⟨rfl, Or.inl ⟨rfl, rfl⟩⟩, below_drewN HB4.out _⟩ | exact ⟨_, rfl, ⟨rfl, Or.inl ⟨rfl, rfl⟩⟩, below_drewN (below_drewN HB4.out _) _, HL.out, HTK.out⟩
      · have hYe : Y = ([], 150, plc E.fin (E.ws.drop p')) := by rw [← HY.out, hend]; rfl
        subst hYe
        have hd1 : decide ((p' : Int) < (E.ws.length : Int)) = true := by simp; omega
        have hF := fun q => Tryz.rfail_ok E p' 0 150 (w4.drewN q) (HR4.out.drew q)
        rw [HEG.out] at hF
        clear hO4 hend HY
        go_wp2
        go_quiet (fail)
        go_wp2_with fail
        refine (hF _).mono ?_
        rintro e w5 ⟨rfl, hR5, hg5⟩
        obtain ⟨_, _, _, _, m4, m5, _⟩ := hR5.c
        rw [HEG.out] at m4 m5
        have HB5 : Hid (Below w.heap.size w w5) := (below_drewN HB4.out _).grown hg5 (by have := HB4.out.size; show _ ≤ w4.heap.size; exact this) (fun k e => by injection e with e; omega)
        clear hF hR5 hg5 k0 k1 k4 k5
        go_wp2
        go_quiet (fail)
        go_wp2
        go_ret3
        first | exact ⟨_, rfl, ⟨rfl, Or.inl ⟨rfl, rfl⟩⟩, below_drewN HB5.out _⟩ | exact ⟨_, rfl, ⟨rfl, Or.inl ⟨rfl, rfl⟩⟩, below_drewN HB5.out _, HL.out, HTK.out⟩
      · have hd1 : decide ((p' : Int) < (E.ws.length : Int)) = false := by simp; omega
        have hCh := fun q => Tryz.rPath_any a4 L.length c4' L (w4.drewN q) (HT4.out.up (below_drewN (Below.refl _ _) q))
        have hYe : Y = ansR 3 (.ok L) := by rw [← HY.out, hend]
        clear hO4 hend HY
        by_cases hz : lookE L 3 = 0
        · have hYf : Y = (L, 0, 0) := by rw [hYe]; simp [ansR, hz]
          subst hYf
          rw [hz] at hCh
          clear hYe hz
          go_wp2
          go_quiet (fail)
          go_wp2_with fail
          refine (hCh _).mono ?_
          rintro e w5 ⟨rfl, hB5⟩
          have HB5 : Hid (Below w.heap.size w w5) := below_step (below_drewN HB4.out _) hB5
          have HO5 : Hid (w5.ownsRow w.heap.size 41 2 (.slice a4 L.length c4') L.length (encT L)) := owns_keep HO4.out fun k _ hk => hB5.block k hk
          clear hCh hB5 k0 k1 k4 k5
          go_wp2
          go_ret3
          first | exact ⟨_, rfl, HO5.out, HB5.out, HL.out, fun a b h => HTK.out (a, b) h⟩ | exact ⟨_, rfl, HO5.out, HB5.out, HL.out, HTK.out⟩
        · have hYf : Y = ([], (lookE L 3 : Int), -1) := by rw [hYe]; simp [ansR, hz]
          subst hYf
          have hz' : ¬ (((lookE L 3 : Nat) : Int) = 0) := by omega
          clear hYe
          go_wp2
          go_quiet (fail)
          go_wp2_with fail
          refine (hCh _).mono ?_
          rintro e w5 ⟨rfl, hB5⟩
          have HB5 : Hid (Below w.heap.size w w5) := below_step (below_drewN HB4.out _) hB5
          clear hCh hB5 k0 k1 k4 k5
          go_wp2
          go_ret3
          first | exact ⟨_, rfl, ⟨rfl, Or.inl ⟨rfl, rfl⟩⟩, HB5.out⟩ | exact ⟨_, rfl, ⟨rfl, Or.inl ⟨rfl, rfl⟩⟩, HB5.out, HL.out, HTK.out⟩
    · have hw0 : ¬ ((wordsL s.toList).2.1 = 0) := fun e => hwd ((words_err s).1 e)
      have hform : pathL (nms ss) s.toList = ([], (wordsL s.toList).2.1, (wordsL s.toList).2.2) := by
        unfold pathL form5; rw [if_neg (by simp [hc]), if_pos hwd]
      rw [hform]
      generalize (wordsL s.toList).2.1 = er at *
      generalize (wordsL s.toList).2.2 = ea at *
      clear hwd hc hform
      go_enter Tryz.func38, Tryz.ntmps38
      go_wp2_with fail
      refine hCk.mono ?_
      rintro e w1 ⟨rfl, q, rfl⟩
      have hW := hW q
      clear hCk
      go_wp2_with fail
      refine hW.mono ?_
      rintro e w2 ⟨v, rfl, ho, hB2⟩
      obtain ⟨av, cv, rfl⟩ := own_sl ho
      have HB2 : Hid (Below w.heap.size w w2) := below_step (below_drewN (Below.refl _ _) q) hB2
      clear ho hB2 hW
      go_wp2
      go_ret3
      first | exact ⟨_, rfl, ⟨rfl, Or.inl ⟨rfl, rfl⟩⟩, HB2.out⟩ | exact ⟨_, rfl, ⟨rfl, Or.inl ⟨rfl, rfl⟩⟩, HB2.out, by simp, by intro z hz; simp at hz⟩
  · have hform : pathL (nms ss) s.toList = ([], checkE (nms ss), -1) := by
      unfold pathL form5; rw [if_pos hc]
    rw [hform]
    generalize checkE (nms ss) = er at *
    clear hform
    go_enter Tryz.func38, Tryz.ntmps38
    go_wp2_with fail
    refine hCk.mono ?_
    rintro e w1 ⟨rfl, q, rfl⟩
    clear hCk
    go_wp2
    go_ret3
    first | exact ⟨_, rfl, ⟨rfl, Or.inl ⟨rfl, rfl⟩⟩, below_drewN (Below.refl _ _) q⟩ | exact ⟨_, rfl, ⟨rfl, Or.inl ⟨rfl, rfl⟩⟩, below_drewN (Below.refl _ _) q, by simp, by intro z hz; simp at hz⟩
end Go.Proofs.YtfipefbaabkdeaaGreatDoor
