/- Package parse: the reader in memory; the next word's text, a fault of it, tokens left behind. -/
import Derived.Test.YtnibcmmgnenfcaaDoorWTc
import Derived.Test.YtnibcmmgnenfcaaDoorWPJ1
import Derived.Maps.AppendAt
namespace Go.Proofs.YtnibcmmgnenfcaaDoor
open Go.RowKit Go.Maps

/-- A reader: where it lies, its names and words, the end; the world ahead of all reading. -/
structure Ev where
  g : Nat
  na : Option Addr
  nl : Nat
  nc : Nat
  ad : Nat → Addr
  ss : List ByteArray
  wa : Option Addr
  wc : Nat
  ws : List Wd
  fin : Nat
  w0 : World
/-- The word that ends them. -/
def endW (fin : Nat) : Wd := ⟨0, mkB [], fin⟩
structure Env (E : Ev) : Prop where
  wd : WdSl E.w0 E.wa (E.ws.length + 1) E.wc (E.ws ++ [endW E.fin])
  nm : StrSl Tryd.prog 22 E.w0 E.na E.nl E.nc E.ad E.ss
  wne : ∀ x, E.wa = some x → x.block ≠ E.g
  nne : ∀ k, k < E.nl → (E.ad k).block ≠ E.g
  few : E.ws.length ≤ 4096
  fin : E.fin ≤ 4096
  ns8 : E.nl ≤ 8
  glt : E.g < E.w0.heap.size
/-- The reader's block. -/
def rowE (E : Ev) (p : Nat) (v : Value) : Obj := .cells #[.slice E.na E.nl E.nc, .slice E.wa (E.ws.length + 1) E.wc, .int .i64 (p : Int), v] 60 (0, 0)
/-- What is known of it in a world: p words are read, the tokens T left. -/
structure Cx (E : Ev) (w : World) (p : Nat) (T : List Tk5) : Prop where
  env : Env E
  gr : E.w0.grownBy w (some E.g)
  ple : p ≤ E.ws.length
  tle : T.length ≤ p
  rd : ∃ v, w.heap[E.g]? = some (rowE E p v) ∧ w.ownsRow E.w0.heap.size 42 2 v T.length (encT T)
theorem StrSl.grown {P : Program} {T : TypeId} {w w' : World} {a : Option Addr} {len cap : Nat} {ad : Nat → Addr} {ss : List ByteArray} {row : Option Nat} (h : StrSl P T w a len cap ad ss) (hg : w.grownBy w' row) (hne : ∀ k, k < len → some (ad k).block ≠ row) : StrSl P T w' a len cap ad ss :=
  ⟨h.hlen, h.hcap, h.bd, h.idx, fun k hk => by rw [hg.cell_far _ (h.blk k hk) (hne k hk)]; exact h.cell k hk, fun k hk => Nat.lt_of_lt_of_le (h.blk k hk) hg.size, h.sz, h.nn⟩
theorem Cx.wd {E : Ev} {w : World} {p : Nat} {T : List Tk5} (h : Cx E w p T) : WdSl w E.wa (E.ws.length + 1) E.wc (E.ws ++ [endW E.fin]) :=
  h.env.wd.grown h.gr (fun x hx e => h.env.wne x hx (by injection e))
theorem Cx.nm {E : Ev} {w : World} {p : Nat} {T : List Tk5} (h : Cx E w p T) : StrSl Tryd.prog 22 w E.na E.nl E.nc E.ad E.ss :=
  h.env.nm.grown h.gr (fun k hk e => h.env.nne k hk (by injection e))
theorem Cx.lt {E : Ev} {w : World} {p : Nat} {T : List Tk5} (h : Cx E w p T) : E.g < w.heap.size := Nat.lt_of_lt_of_le h.env.glt h.gr.size
theorem Cx.names {E : Ev} {w : World} {p : Nat} {T : List Tk5} (h : Cx E w p T) : (nms E.ss).length ≤ 256 := by rw [nms_len, h.env.nm.hlen]; have := h.env.ns8; omega
theorem owns_keep {w w' : World} {base e size n : Nat} {v : Value} {xs : List Value} (h : w.ownsRow base e size v n xs) (hk : ∀ k, base ≤ k → k < w.heap.size → w'.heap[k]? = w.heap[k]?) : w'.ownsRow base e size v n xs := by
  obtain ⟨hl, h⟩ := h
  refine ⟨hl, ?_⟩
  rcases h with h | ⟨k, cap, cur, rfl, hk', hc, r⟩
  · exact Or.inl h
  · exact Or.inr ⟨k, cap, cur, rfl, hk', (hk k hk' (Array.getElem?_eq_some_iff.1 hc).1).trans hc, r⟩
theorem own_sl {w : World} {base e size n : Nat} {v : Value} {xs : List Value} (h : w.ownsRow base e size v n xs) : ∃ a cap, v = .slice a n cap := by
  obtain ⟨_, h⟩ := h
  rcases h with ⟨rfl, rfl⟩ | ⟨k, cap, cur, rfl, _⟩
  · exact ⟨_, _, rfl⟩
  · exact ⟨_, _, rfl⟩
theorem grown_of {w w' : World} (hb : Below w.heap.size w w') (row : Option Nat) : w.grownBy w' row := ⟨hb.os, hb.tape, hb.output, hb.size, fun k hk _ => hb.block k hk⟩
theorem Cx.up {E : Ev} {w w' : World} {p : Nat} {T : List Tk5} (h : Cx E w p T) (hb : Below w.heap.size w w') : Cx E w' p T := by
  obtain ⟨v, hr, ho⟩ := h.rd
  exact ⟨h.env, h.gr.trans (grown_of hb _), h.ple, h.tle, v, (hb.block E.g h.lt).trans hr, owns_keep ho fun k _ hk => hb.block k hk⟩
theorem Cx.drew {E : Ev} {w : World} {p : Nat} {T : List Tk5} (h : Cx E w p T) (n : Nat) : Cx E (w.drewN n) p T := h.up (below_drewN (Below.refl _ _) n)
/-- One word on. -/
theorem Cx.bump {E : Ev} {w : World} {p : Nat} {T : List Tk5} (h : Cx E w p T) (hp : p < E.ws.length) : Cx E (w.setCell ⟨E.g, 2, none⟩ (.int .i64 ((p : Int) + 1))) (p + 1) T := by
  obtain ⟨v, hr, ho⟩ := h.rd
  have hg : w.grownBy (w.setCell ⟨E.g, 2, none⟩ (.int .i64 ((p : Int) + 1))) (some E.g) := ⟨rfl, rfl, rfl, by simp, fun k hk hne => Below.heap_setCell _ _ _ _ (fun e => hne (congrArg some e))⟩
  refine ⟨h.env, h.gr.trans hg, by omega, by have := h.tle; omega, v, ?_, owns_keep ho fun k hb hk => hg.block k hk (fun e => by injection e with e; have := h.env.glt; omega)⟩
  rw [show ((p : Int) + 1) = ((p + 1 : Nat) : Int) by omega, heap_setCell_same w E.g 2 _ _ _ hr]
  rfl
theorem Cx.c {E : Ev} {w : World} {p : Nat} {T : List Tk5} (h : Cx E w p T) : ∃ v, w.cell? ⟨E.g, 0, none⟩ = some (.slice E.na E.nl E.nc) ∧ w.cell? ⟨E.g, 1, none⟩ = some (.slice E.wa (E.ws.length + 1) E.wc) ∧ w.cell? ⟨E.g, 2, none⟩ = some (.int .i64 (p : Int)) ∧ w.cell? ⟨E.g, 3, none⟩ = some v ∧ w.heap[E.g]? = some (rowE E p v) ∧ w.ownsRow E.w0.heap.size 42 2 v T.length (encT T) ∧ ∀ i, w.frozen? ⟨E.g, i, none⟩ = false := by
  obtain ⟨v, hr, ho⟩ := h.rd
  exact ⟨v, cell_row hr 0, cell_row hr 1, cell_row hr 2, cell_row hr 3, hr, ho, fun i => frozen_of_row w E.g i _ _ hr⟩
/-- The text of the word that stands next. -/
theorem wd_at (ws : List Wd) (fin p : Nat) (h : p < (ws ++ [endW fin]).length) : ((ws ++ [endW fin])[p]).tx = mkB (hdT (ws.drop p)) ∧ ((ws ++ [endW fin])[p]).pl = plc fin (ws.drop p) := by
  by_cases hp : p < ws.length
  · rw [List.getElem_append_left hp, List.drop_eq_getElem_cons hp]
    exact ⟨(mkB_of _).symm, rfl⟩
  · have e : p = ws.length := by simp at h; omega
    subst e
    simp [endW, hdT, plc]

set_option maxHeartbeats 1000000 in
theorem Tryd.ptext_any (E : Ev) (p : Nat) (T : List Tk5) (w : World) (h : Cx E w p T) :
    Calls Tryd.prog 29 #[.pointer (some ⟨E.g, 0, none⟩)] w fun e w' => e = .returned (.string (mkB (hdT (E.ws.drop p)))) ∧ ∃ n, w' = w.drewN n := by
  obtain ⟨v, _, c1, c2, _, _, _, _⟩ := h.c
  have hb := h.wd.bd
  have hc := h.wd.hcap
  have hf := h.env.few
  have hp := h.ple
  unfold maxLen at hb
  obtain ⟨g, o, sh, hidx, q0, hc1, q2, _, _⟩ := h.wd.at Tryd.underlying53 Tryd.sizeWd p (by omega)
  have hik := fun w => hidx (E.ws.length + 1) w (by omega)
  rw [(wd_at E.ws E.fin p (by simp; omega)).1] at hc1
  generalize mkB (hdT (E.ws.drop p)) = x at *
  clear hidx q0 q2 h
  go_enter Tryd.func29, Tryd.ntmps29
  go_wp2
  go_quiet (fail)
  go_wp2
  go_ret
  exact ⟨rfl, _, rfl⟩
/-- What is thrown. -/
def thrown (e p : Int) : List PanicEntry := [{ v := .iface 83 (.agg #[.int .i64 e, .int .i64 p]), recovered := false }]
set_option maxHeartbeats 1000000 in
theorem Tryd.prefuse_any (E : Ev) (p : Nat) (T : List Tk5) (er : Int) (w : World) (h : Cx E w p T) :
    Calls Tryd.prog 46 #[.pointer (some ⟨E.g, 0, none⟩), .int .i64 er] w fun e w' => e = .returned (.agg #[.int .i64 er, .int .i64 (plc E.fin (E.ws.drop p))]) ∧ Below w.heap.size w w' := by
  obtain ⟨v, _, c1, c2, _, _, _, _⟩ := h.c
  have hb := h.wd.bd
  have hc := h.wd.hcap
  have hf := h.env.few
  have hp := h.ple
  unfold maxLen at hb
  obtain ⟨g, o, sh, hidx, q0, q1, hc2, _, _⟩ := h.wd.at Tryd.underlying53 Tryd.sizeWd p (by omega)
  have hik := fun w => hidx (E.ws.length + 1) w (by omega)
  rw [(wd_at E.ws E.fin p (by simp; omega)).2] at hc2
  generalize plc E.fin (E.ws.drop p) = x at *
  have hlt := h.lt
  have hgl := World.block_lt_of_cell? _ _ hc2
  clear hidx q0 q1 h
  go_enter Tryd.func46, Tryd.ntmps46
  go_wp2
  go_region
  all_goals
    go_wp2
    exact bodyPost_ret (v := .agg #[.int .i64 er, .int .i64 x]) (by simp [results, Tryd.results46, go_sem]) rfl ⟨rfl, below_drewN (below_new _ _) 1⟩
/-- A token behind those that are there. -/
theorem Tryd.pput_any (E : Ev) (p : Nat) (T : List Tk5) (op : Nat) (hop : op < 256) (w : World) (h : Cx E w p T) (hlt : T.length < p) :
    Calls Tryd.prog 48 #[.pointer (some ⟨E.g, 0, none⟩), .int .u8 (op : Int)] w fun e w' => e = .returned (.tuple #[]) ∧ Cx E w' p (T ++ [(op, 0)]) := by
  obtain ⟨v, _, _, _, c3, hr, ho, _⟩ := h.c
  have HC : Hid (Cx E w p T) := h
  have hp := h.ple
  have hf := h.env.few
  have hg0 := h.env.glt
  have hlw := h.lt
  have hsz := h.gr.size
  have HO : Hid (w.ownsRow E.w0.heap.size 42 2 v T.length (encT T)) := ho
  have HR : Hid (w.heap[E.g]? = some (rowE E p v)) := hr
  clear h ho hr
  go_enter Tryd.func48, Tryd.ntmps48
  go_wp2_with (at_builtin; refine Tryd.append_tks rfl _ _ rfl E.w0.heap.size v T [(op, 0)] (some ⟨w.heap.size, 0, none⟩) 1 1 rfl rfl (World.ownsRow.alloc HO.out _) (one_tk w hop) (by omega) (by simp) (by simp; omega) ?_)
  intro v4 w4 hown4 hgr4
  have hb1 : Below w.heap.size w (w.alloc (.cells #[.int .u8 (op : Int), .int .u8 0] 42)) := below_new _ _
  have hne : ∀ k, k < E.w0.heap.size → some k ≠ v.ownBlock := fun k hk e => by have := own_ge HO.out k e.symm; omega
  have hr4 : w4.heap[E.g]? = some (rowE E p v) := (hgr4.block E.g (by simp; omega) (hne _ hg0)).trans ((hb1.block E.g hlw).trans HR.out)
  have z3 : w4.frozen? ⟨E.g, 3, none⟩ = false := frozen_of_row w4 E.g 3 _ _ hr4
  have c34 : w4.cell? ⟨E.g, 3, none⟩ = some v := cell_row hr4 3
  have HG4 : Hid (E.w0.grownBy w4 (some E.g)) := ⟨hgr4.os.trans HC.out.gr.os, hgr4.tape.trans HC.out.gr.tape, hgr4.output.trans HC.out.gr.output, by have := hgr4.size; simp at this; omega, fun k hk hn => by
    rw [hgr4.block k (by simp; omega) (hne k hk), hb1.block k (by omega)]; exact HC.out.gr.block k hk hn⟩
  have HR4 : Hid (w4.heap[E.g]? = some (rowE E p v)) := hr4
  have HO4 : Hid (w4.ownsRow E.w0.heap.size 42 2 v4 (T.length + 1) (encT (T ++ [(op, 0)]))) := hown4
  obtain ⟨a4, k4, rfl⟩ := own_sl HO4.out
  clear hown4 hgr4 hb1 hne hr4
  go_wp2
  go_end0
  have hg5 : w4.grownBy (w4.setCell ⟨E.g, 3, none⟩ (.slice a4 (T.length + 1) k4)) (some E.g) := ⟨rfl, rfl, rfl, by simp, fun k hk hne => Below.heap_setCell _ _ _ _ (fun e => hne (congrArg some e))⟩
  refine ⟨rfl, HC.out.env, HG4.out.trans hg5, hp, by simp; omega, .slice a4 (T.length + 1) k4, ?_, by
    rw [List.length_append]; exact owns_keep HO4.out fun k hb hk => hg5.block k hk (fun e => by injection e with e; omega)⟩
  rw [heap_setCell_same w4 E.g 3 _ _ _ HR4.out]
  rfl
end Go.Proofs.YtnibcmmgnenfcaaDoor
