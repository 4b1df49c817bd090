/- Package parse: the reader in memory; the next word, a fault of it, tokens left behind; what stands behind an operator or between brackets; a name. -/
import Derived.Test.YtfipefbaabkdeaaGreatDoorWTc
import Derived.Test.YtfipefbaabkdeaaGreatDoorWPJ1
import Derived.Maps.AppendAt
import Derived.BigQuiet
namespace Go.Proofs.YtfipefbaabkdeaaGreatDoor
open Go.RowKit Go.Maps

/-- A reader: where it lies, its names and words, the end; the world ahead of all reading. -/
structure Ev where
  g : Nat
  na : Option Addr
  nl : Nat
  nc : Nat
  ad : Nat → Addr
  ss : List ByteArray
  wa : Option Addr
  wc : Nat
  ws : List Wd
  fin : Nat
  w0 : World
/-- The word that ends them. -/
def endW (fin : Nat) : Wd := ⟨0, mkB [], fin⟩
structure Env (E : Ev) : Prop where
  wd : WdSl E.w0 E.wa (E.ws.length + 1) E.wc (E.ws ++ [endW E.fin])
  nm : StrSl Tryz.prog 22 E.w0 E.na E.nl E.nc E.ad E.ss
  wne : ∀ x, E.wa = some x → x.block ≠ E.g
  nne : ∀ k, k < E.nl → (E.ad k).block ≠ E.g
  few : E.ws.length ≤ 4096
  fin : E.fin ≤ 4096
  ns8 : E.nl ≤ 8
  glt : E.g < E.w0.heap.size
/-- The reader's block. -/
def rowE (E : Ev) (p : Nat) (v : Value) : Obj := .cells #[.slice E.na E.nl E.nc, .slice E.wa (E.ws.length + 1) E.wc, .int .i64 (p : Int), v] 103 (0, 0)
/-- What is known of it in a world: p words are read, the tokens T left. -/
structure Cx (E : Ev) (w : World) (p : Nat) (T : List Tk5) : Prop where
  env : Env E
  gr : E.w0.grownBy w (some E.g)
  ple : p ≤ E.ws.length
  tle : T.length ≤ p
  rd : ∃ v, w.heap[E.g]? = some (rowE E p v) ∧ w.ownsRow E.w0.heap.size 41 2 v T.length (encT T)
theorem StrSl.grown {P : Program} {T : TypeId} {w w' : World} {a : Option Addr} {len cap : Nat} {ad : Nat → Addr} {ss : List ByteArray} {row : Option Nat} (h : StrSl P T w a len cap ad ss) (hg : w.grownBy w' row) (hne : ∀ k, k < len → some (ad k).block ≠ row) : StrSl P T w' a len cap ad ss :=
  ⟨h.hlen, h.hcap, h.bd, h.idx, fun k hk => by rw [hg.cell_far _ (h.blk k hk) (hne k hk)]; exact h.cell k hk, fun k hk => Nat.lt_of_lt_of_le (h.blk k hk) hg.size, h.sz, h.nn⟩
theorem Cx.wd {E : Ev} {w : World} {p : Nat} {T : List Tk5} (h : Cx E w p T) : WdSl w E.wa (E.ws.length + 1) E.wc (E.ws ++ [endW E.fin]) :=
  h.env.wd.grown h.gr (fun x hx e => h.env.wne x hx (by injection e))
theorem Cx.nm {E : Ev} {w : World} {p : Nat} {T : List Tk5} (h : Cx E w p T) : StrSl Tryz.prog 22 w E.na E.nl E.nc E.ad E.ss :=
  h.env.nm.grown h.gr (fun k hk e => h.env.nne k hk (by injection e))
theorem Cx.lt {E : Ev} {w : World} {p : Nat} {T : List Tk5} (h : Cx E w p T) : E.g < w.heap.size := Nat.lt_of_lt_of_le h.env.glt h.gr.size
theorem Cx.names {E : Ev} {w : World} {p : Nat} {T : List Tk5} (h : Cx E w p T) : (nms E.ss).length ≤ 256 := by rw [nms_len, h.env.nm.hlen]; have := h.env.ns8; omega
theorem owns_keep {w w' : World} {base e size n : Nat} {v : Value} {xs : List Value} (h : w.ownsRow base e size v n xs) (hk : ∀ k, base ≤ k → k < w.heap.size → w'.heap[k]? = w.heap[k]?) : w'.ownsRow base e size v n xs := by
  obtain ⟨hl, h⟩ := h
  refine ⟨hl, ?_⟩
  rcases h with h | ⟨k, cap, cur, rfl, hk', hc, r⟩
  · exact Or.inl h
  · exact Or.inr ⟨k, cap, cur, rfl, hk', (hk k hk' (Array.getElem?_eq_some_iff.1 hc).1).trans hc, r⟩
theorem own_sl {w : World} {base e size n : Nat} {v : Value} {xs : List Value} (h : w.ownsRow base e size v n xs) : ∃ a cap, v = .slice a n cap := by
  obtain ⟨_, h⟩ := h
  rcases h with ⟨rfl, rfl⟩ | ⟨k, cap, cur, rfl, _⟩
  · exact ⟨_, _, rfl⟩
  · exact ⟨_, _, rfl⟩
theorem grown_of {w w' : World} (hb : Below w.heap.size w w') (row : Option Nat) : w.grownBy w' row := ⟨hb.os, hb.tape, hb.output, hb.size, fun k hk _ => hb.block k hk⟩
theorem Cx.up {E : Ev} {w w' : World} {p : Nat} {T : List Tk5} (h : Cx E w p T) (hb : Below w.heap.size w w') : Cx E w' p T := by
  obtain ⟨v, hr, ho⟩ := h.rd
  exact ⟨h.env, h.gr.trans (grown_of hb _), h.ple, h.tle, v, (hb.block E.g h.lt).trans hr, owns_keep ho fun k _ hk => hb.block k hk⟩
theorem Cx.drew {E : Ev} {w : World} {p : Nat} {T : List Tk5} (h : Cx E w p T) (n : Nat) : Cx E (w.drewN n) p T := h.up (below_drewN (Below.refl _ _) n)
/-- One word on. -/
theorem Cx.bump {E : Ev} {w : World} {p : Nat} {T : List Tk5} (h : Cx E w p T) (hp : p < E.ws.length) : Cx E (w.setCell ⟨E.g, 2, none⟩ (.int .i64 ((p : Int) + 1))) (p + 1) T := by
  obtain ⟨v, hr, ho⟩ := h.rd
  have hg : w.grownBy (w.setCell ⟨E.g, 2, none⟩ (.int .i64 ((p : Int) + 1))) (some E.g) := ⟨rfl, rfl, rfl, by simp, fun k hk hne => Below.heap_setCell _ _ _ _ (fun e => hne (congrArg some e))⟩
  refine ⟨h.env, h.gr.trans hg, by omega, by have := h.tle; omega, v, ?_, owns_keep ho fun k hb hk => hg.block k hk (fun e => by injection e with e; have := h.env.glt; omega)⟩
  rw [show ((p : Int) + 1) = ((p + 1 : Nat) : Int) by omega, heap_setCell_same w E.g 2 _ _ _ hr]
  rfl
theorem Cx.c {E : Ev} {w : World} {p : Nat} {T : List Tk5} (h : Cx E w p T) : ∃ v, w.cell? ⟨E.g, 0, none⟩ = some (.slice E.na E.nl E.nc) ∧ w.cell? ⟨E.g, 1, none⟩ = some (.slice E.wa (E.ws.length + 1) E.wc) ∧ w.cell? ⟨E.g, 2, none⟩ = some (.int .i64 (p : Int)) ∧ w.cell? ⟨E.g, 3, none⟩ = some v ∧ w.heap[E.g]? = some (rowE E p v) ∧ w.ownsRow E.w0.heap.size 41 2 v T.length (encT T) ∧ ∀ i, w.frozen? ⟨E.g, i, none⟩ = false := by
  obtain ⟨v, hr, ho⟩ := h.rd
  exact ⟨v, cell_row hr 0, cell_row hr 1, cell_row hr 2, cell_row hr 3, hr, ho, fun i => frozen_of_row w E.g i _ _ hr⟩
/-- The text of the word that stands next. -/
theorem wd_at (ws : List Wd) (fin p : Nat) (h : p < (ws ++ [endW fin]).length) : ((ws ++ [endW fin])[p]).tx = mkB (hdT (ws.drop p)) ∧ ((ws ++ [endW fin])[p]).pl = plc fin (ws.drop p) := by
  by_cases hp : p < ws.length
  · rw [List.getElem_append_left hp, List.drop_eq_getElem_cons hp]
    exact ⟨(mkB_of _).symm, rfl⟩
  · have e : p = ws.length := by simp at h; omega
    subst e
    simp [endW, hdT, plc]

set_option maxHeartbeats 1000000 in
theorem Tryz.ptext_any (E : Ev) (p : Nat) (T : List Tk5) (w : World) (h : Cx E w p T) :
    Calls Tryz.prog 50 #[.pointer (some ⟨E.g, 0, none⟩)] w fun e w' => e = .returned (.string (mkB (hdT (E.ws.drop p)))) ∧ ∃ n, w' = w.drewN n := by
  obtain ⟨v, _, c1, c2, _, _, _, _⟩ := h.c
  have hb := h.wd.bd
  have hc := h.wd.hcap
  have hf := h.env.few
  have hp := h.ple
  unfold maxLen at hb
  obtain ⟨g, o, sh, hidx, q0, hc1, q2, _, _⟩ := h.wd.at Tryz.underlying96 Tryz.sizeWd p (by omega)
  have hik := fun w => hidx (E.ws.length + 1) w (by omega)
  rw [(wd_at E.ws E.fin p (by simp; omega)).1] at hc1
  generalize mkB (hdT (E.ws.drop p)) = x at *
  clear hidx q0 q2 h
  go_enter Tryz.func50, Tryz.ntmps50
  go_wp2
  go_quiet (fail)
  go_wp2
  go_ret
  exact ⟨rfl, _, rfl⟩
/-- What is thrown. -/
def thrown (e p : Int) : List PanicEntry := [{ v := .iface 126 (.agg #[.int .i64 e, .int .i64 p]), recovered := false }]
set_option maxHeartbeats 1000000 in
theorem Tryz.prefuse_any (E : Ev) (p : Nat) (T : List Tk5) (er : Int) (w : World) (h : Cx E w p T) :
    Calls Tryz.prog 65 #[.pointer (some ⟨E.g, 0, none⟩), .int .i64 er] w fun e w' => e = .returned (.agg #[.int .i64 er, .int .i64 (plc E.fin (E.ws.drop p))]) ∧ Below w.heap.size w w' := by
  obtain ⟨v, _, c1, c2, _, _, _, _⟩ := h.c
  have hb := h.wd.bd
  have hc := h.wd.hcap
  have hf := h.env.few
  have hp := h.ple
  unfold maxLen at hb
  obtain ⟨g, o, sh, hidx, q0, q1, hc2, _, _⟩ := h.wd.at Tryz.underlying96 Tryz.sizeWd p (by omega)
  have hik := fun w => hidx (E.ws.length + 1) w (by omega)
  rw [(wd_at E.ws E.fin p (by simp; omega)).2] at hc2
  generalize plc E.fin (E.ws.drop p) = x at *
  have hlt := h.lt
  have hgl := World.block_lt_of_cell? _ _ hc2
  clear hidx q0 q1 h
  go_enter Tryz.func65, Tryz.ntmps65
  go_wp2
  go_region
  all_goals
    go_wp2
    exact bodyPost_ret (v := .agg #[.int .i64 er, .int .i64 x]) (by simp [results, Tryz.results65, go_sem]) rfl ⟨rfl, below_drewN (below_new _ _) 1⟩
/-- A token behind those that are there. -/
theorem Tryz.pput_any (E : Ev) (p : Nat) (T : List Tk5) (op : Nat) (hop : op < 256) (w : World) (h : Cx E w p T) (hlt : T.length < p) :
    Calls Tryz.prog 67 #[.pointer (some ⟨E.g, 0, none⟩), .int .u8 (op : Int)] w fun e w' => e = .returned (.tuple #[]) ∧ Cx E w' p (T ++ [(op, 0)]) := by
  obtain ⟨v, _, _, _, c3, hr, ho, _⟩ := h.c
  have HC : Hid (Cx E w p T) := h
  have hp := h.ple
  have hf := h.env.few
  have hg0 := h.env.glt
  have hlw := h.lt
  have hsz := h.gr.size
  have HO : Hid (w.ownsRow E.w0.heap.size 41 2 v T.length (encT T)) := ho
  have HR : Hid (w.heap[E.g]? = some (rowE E p v)) := hr
  clear h ho hr
  go_enter Tryz.func67, Tryz.ntmps67
  go_wp2_with (at_builtin; refine Tryz.append_tks rfl _ _ rfl E.w0.heap.size v T [(op, 0)] (some ⟨w.heap.size, 0, none⟩) 1 1 rfl rfl (World.ownsRow.alloc HO.out _) (one_tk w hop) (by omega) (by simp) (by simp; omega) ?_)
  intro v4 w4 hown4 hgr4
  have hb1 : Below w.heap.size w (w.alloc (.cells #[.int .u8 (op : Int), .int .u8 0] 41)) := below_new _ _
  have hne : ∀ k, k < E.w0.heap.size → some k ≠ v.ownBlock := fun k hk e => by have := own_ge HO.out k e.symm; omega
  have hr4 : w4.heap[E.g]? = some (rowE E p v) := (hgr4.block E.g (by simp; omega) (hne _ hg0)).trans ((hb1.block E.g hlw).trans HR.out)
  have z3 : w4.frozen? ⟨E.g, 3, none⟩ = false := frozen_of_row w4 E.g 3 _ _ hr4
  have c34 : w4.cell? ⟨E.g, 3, none⟩ = some v := cell_row hr4 3
  have HG4 : Hid (E.w0.grownBy w4 (some E.g)) := ⟨hgr4.os.trans HC.out.gr.os, hgr4.tape.trans HC.out.gr.tape, hgr4.output.trans HC.out.gr.output, by have := hgr4.size; simp at this; omega, fun k hk hn => by
    rw [hgr4.block k (by simp; omega) (hne k hk), hb1.block k (by omega)]; exact HC.out.gr.block k hk hn⟩
  have HR4 : Hid (w4.heap[E.g]? = some (rowE E p v)) := hr4
  have HO4 : Hid (w4.ownsRow E.w0.heap.size 41 2 v4 (T.length + 1) (encT (T ++ [(op, 0)]))) := hown4
  obtain ⟨a4, k4, rfl⟩ := own_sl HO4.out
  clear hown4 hgr4 hb1 hne hr4
  go_wp2
  go_end0
  have hg5 : w4.grownBy (w4.setCell ⟨E.g, 3, none⟩ (.slice a4 (T.length + 1) k4)) (some E.g) := ⟨rfl, rfl, rfl, by simp, fun k hk hne => Below.heap_setCell _ _ _ _ (fun e => hne (congrArg some e))⟩
  refine ⟨rfl, HC.out.env, HG4.out.trans hg5, hp, by simp; omega, .slice a4 (T.length + 1) k4, ?_, by
    rw [List.length_append]; exact owns_keep HO4.out fun k hb hk => hg5.block k hk (fun e => by injection e with e; omega)⟩
  rw [heap_setCell_same w4 E.g 3 _ _ _ HR4.out]
  rfl

/-- What a part of the reader answers: it leaves the tokens behind T, or throws. -/
def PC (E : Ev) (T : List Tk5) (x : Except Er (List Tk5 × List Wd)) (e : Ending) (w' : World) : Prop :=
  match x with
    | .ok (t, r) => e = .returned (.tuple #[]) ∧ Cx E w' (E.ws.length - r.length) (T ++ t)
    | .error (er, pl) => e = .panicked (thrown er pl) ∧ E.w0.grownBy w' (some E.g)
/-- .. whatever number of calls does. -/
def Cont (E : Ev) (n : Nat) (nt : NT) (F : FuncId) : Prop :=
  ∀ (p : Nat) (T : List Tk5) (w : World) (x : Except Er (List Tk5 × List Wd)), Cx E w p T → rd5 (nms E.ss) E.fin n nt (E.ws.drop p) = some x → Calls Tryz.prog F #[.pointer (some ⟨E.g, 0, none⟩)] w (PC E T x)
theorem Cont.le {E : Ev} {n m : Nat} {nt : NT} {F : FuncId} (h : Cont E n nt F) (hm : m ≤ n) : Cont E m nt F := fun p T w x hC hx => h p T w x hC (rd5_mono hm _ hx)
/-- A function that is entered as it stands. -/
def Enters (F : FuncId) : Prop := ∀ args w, (callFunc F args).run Tryz.prog w = .ok (.enter F args) w
abbrev fnV (F : FuncId) (g : Nat) : Value := .func (.func F) #[.pointer (some ⟨g, 0, none⟩)] #[]
theorem drop_of {ws a r : List Wd} {n : Nat} (h : ws = a ++ r) (hn : a.length = n) : ws.drop n = r := by subst h hn; exact List.drop_left
/-- Words read so far, words left. -/
theorem drop_left {ws r : List Wd} {p : Nat} (hp : p ≤ ws.length) (h : r <:+ ws.drop p) : ws.drop (ws.length - r.length) = r ∧ p ≤ ws.length - r.length ∧ r.length ≤ ws.length := by
  obtain ⟨q, hq⟩ := h
  have h1 := congrArg List.length hq
  simp at h1
  refine ⟨?_, by omega, by omega⟩
  have h2 : ws = ws.take p ++ q ++ r := by rw [List.append_assoc, hq, List.take_append_drop]
  have h3 : (ws.take p ++ q).length = ws.length - r.length := by simp; omega
  exact drop_of h2 h3
/-- What is known of the rest. -/
theorem rest_of {ns : List Bytes} {fin : Int} {n : Nat} {nt : NT} {ws : List Wd} {p : Nat} {t : List Tk5} {r : List Wd} (hp : p ≤ ws.length) (h : rd5 ns fin n nt (ws.drop p) = some (.ok (t, r))) :
    ws.drop (ws.length - r.length) = r ∧ p ≤ ws.length - r.length ∧ r.length ≤ ws.length ∧ t.length + p ≤ ws.length - r.length := by
  have h1 := drop_left hp (rd5_suf _ _ _ _ _ t r h)
  have h2 := rd5_toks _ _ _ _ _ t r h
  rw [List.length_drop] at h2
  exact ⟨h1.1, h1.2.1, h1.2.2, by omega⟩
theorem hd_lt {ws : List Wd} {p : Nat} {s : Bytes} (h : hdT (ws.drop p) = s) (hs : s ≠ []) : p < ws.length := by
  rcases Nat.lt_or_ge p ws.length with hl | hl
  · exact hl
  · rw [List.drop_of_length_le hl] at h; exact absurd h.symm hs

theorem Tryz.ppass_any (E : Ev) (p : Nat) (T : List Tk5) (op : Nat) (hop : op < 256) (w : World) (h : Cx E w p T) (hlt : p < E.ws.length) :
    Calls Tryz.prog 108 #[.pointer (some ⟨E.g, 0, none⟩), .int .u8 (op : Int)] w fun e w' => e = .returned (.tuple #[]) ∧ Cx E w' (p + 1) (T ++ [(op, 0)]) := by
  obtain ⟨v, _, _, c2, _, _, _, z⟩ := h.c
  have z2 := z 2
  have hf := h.env.few
  have hP := Tryz.pput_any E (p + 1) T op hop _ (h.bump hlt) (by have := h.tle; omega)
  clear z h
  go_enter Tryz.func108, Tryz.ntmps108
  go_wp2_with fail
  refine hP.mono ?_
  rintro e w1 ⟨rfl, hC1⟩
  go_wp2
  go_end0
  exact ⟨rfl, hC1⟩
def addO (op : Nat) : Except Er (List Tk5 × List Wd) → Except Er (List Tk5 × List Wd)
  | .ok (t, r) => .ok (t ++ [(op, 0)], r)
  | .error e => .error e
set_option maxHeartbeats 1000000 in
theorem Tryz.pbehind_any (E : Ev) (n : Nat) (nt : NT) (F : FuncId) (hE : Enters F) (hF : Cont E n nt F) (p : Nat) (T : List Tk5) (op : Nat) (hop : op < 256) (w : World) (h : Cx E w p T) (hlt : p < E.ws.length)
    (x : Except Er (List Tk5 × List Wd)) (hx : rd5 (nms E.ss) E.fin n nt (E.ws.drop (p + 1)) = some x) :
    Calls Tryz.prog 51 #[.pointer (some ⟨E.g, 0, none⟩), fnV F E.g, .int .u8 (op : Int)] w (PC E T (addO op x)) := by
  obtain ⟨v, _, _, c2, _, _, _, z⟩ := h.c
  have z2 := z 2
  have hf := h.env.few
  have hN := hF (p + 1) T _ x (h.bump hlt) hx
  have ht := h.tle
  unfold Enters at hE
  clear z h hF
  cases x with
  | error er =>
    obtain ⟨e1, e2⟩ := er
    go_enter Tryz.func51, Tryz.ntmps51
    go_wp2_with fail
    refine hN.mono ?_
    rintro e w1 ⟨rfl, hg⟩
    exact ⟨rfl, rfl, hg⟩
  | ok q =>
    obtain ⟨t, r⟩ := q
    obtain ⟨_, h1, h2, h3⟩ := rest_of (by omega) hx
    have hP := fun w' (hC : Cx E w' (E.ws.length - r.length) (T ++ t)) => Tryz.pput_any E _ (T ++ t) op hop w' hC (by simp; omega)
    clear hx
    go_enter Tryz.func51, Tryz.ntmps51
    go_wp2_with fail
    refine hN.mono ?_
    rintro e w1 ⟨rfl, hC1⟩
    have hP1 := hP w1 hC1
    clear hP hC1 hN
    go_wp2_with fail
    refine hP1.mono ?_
    rintro e w2 ⟨rfl, hC2⟩
    go_wp2
    go_end0
    refine ⟨rfl, ?_⟩
    rw [← List.append_assoc]; exact hC2
/-- What must stand behind. -/
def wantX (fin : Int) (s : Bytes) : Except Er (List Tk5 × List Wd) → Except Er (List Tk5 × List Wd)
  | .ok (t, r) => if hdT r = s then .ok (t, r.tail) else .error (150, plc fin r)
  | .error e => .error e
set_option maxHeartbeats 1000000 in
theorem Tryz.pwithin_any (E : Ev) (n : Nat) (nt : NT) (F : FuncId) (hE : Enters F) (hF : Cont E n nt F) (p : Nat) (T : List Tk5) (s : ByteArray) (hs : s.toList ≠ []) (w : World) (h : Cx E w p T) (hlt : p < E.ws.length)
    (x : Except Er (List Tk5 × List Wd)) (hx : rd5 (nms E.ss) E.fin n nt (E.ws.drop (p + 1)) = some x) :
    Calls Tryz.prog 106 #[.pointer (some ⟨E.g, 0, none⟩), fnV F E.g, .string s] w (PC E T (wantX E.fin s.toList x)) := by
  obtain ⟨v, _, _, c2, _, _, _, z⟩ := h.c
  have z2 := z 2
  have hf := h.env.few
  have hN := hF (p + 1) T _ x (h.bump hlt) hx
  have ht := h.tle
  unfold Enters at hE
  clear z h hF
  cases x with
  | error er =>
    obtain ⟨e1, e2⟩ := er
    go_enter Tryz.func106, Tryz.ntmps106
    go_wp2_with fail
    refine hN.mono ?_
    rintro e w1 ⟨rfl, hg⟩
    exact ⟨rfl, rfl, hg⟩
  | ok q =>
    obtain ⟨t, r⟩ := q
    obtain ⟨hr, h1, h2, h3⟩ := rest_of (by omega) hx
    clear hx
    have hX := fun w' (hC : Cx E w' (E.ws.length - r.length) (T ++ t)) => Tryz.ptext_any E _ (T ++ t) w' hC
    have hRf := fun w' (hC : Cx E w' (E.ws.length - r.length) (T ++ t)) => Tryz.prefuse_any E _ (T ++ t) 150 w' hC
    rw [hr] at hX hRf
    by_cases he : hdT r = s.toList
    · have hb : ((mkB (hdT r)).toList == s.toList) = true := by rw [mkB_toList, he]; simp
      have hwx : wantX E.fin s.toList (.ok (t, r)) = .ok (t, r.tail) := by simp [wantX, he]
      have hrl : r.tail.length + 1 = r.length := tail_lt (fun e => hs (by rw [← he, e]; rfl))
      rw [hwx]
      generalize mkB (hdT r) = X at *
      clear he hs
      go_enter Tryz.func106, Tryz.ntmps106
      go_wp2_with fail
      refine hN.mono ?_
      rintro e w1 ⟨rfl, hC1⟩
      have hX1 := hX w1 hC1
      have HC1 : Hid (Cx E w1 (E.ws.length - r.length) (T ++ t)) := hC1
      clear hX hC1 hN hRf
      go_wp2_with fail
      refine hX1.mono ?_
      rintro e w2 ⟨rfl, k, rfl⟩
      have hC2 := HC1.out.drew k
      obtain ⟨v', _, _, c2', _, _, _, z'⟩ := hC2.c
      have z2' := z' 2
      have HC2 : Hid (Cx E (w1.drewN k) (E.ws.length - r.length) (T ++ t)) := hC2
      clear hC2 z' hX1
      go_wp2
      go_end0
      refine ⟨rfl, ?_⟩
      have := HC2.out.bump (by omega)
      rw [show E.ws.length - r.tail.length = E.ws.length - r.length + 1 by omega]
      exact this
    · have hb : ((mkB (hdT r)).toList == s.toList) = false := by rw [mkB_toList]; simpa using he
      have hwx : wantX E.fin s.toList (.ok (t, r)) = .error (150, plc E.fin r) := by simp [wantX, he]
      rw [hwx]
      generalize mkB (hdT r) = X at *
      clear he hs hwx
      go_enter Tryz.func106, Tryz.ntmps106
      go_wp2_with fail
      refine hN.mono ?_
      rintro e w1 ⟨rfl, hC1⟩
      have hX1 := hX w1 hC1
      have HC1 : Hid (Cx E w1 (E.ws.length - r.length) (T ++ t)) := hC1
      clear hX hC1 hN
      go_wp2_with fail
      refine hX1.mono ?_
      rintro e w2 ⟨rfl, k, rfl⟩
      have hR2 := hRf _ (HC1.out.drew k)
      have HC2 : Hid (Cx E (w1.drewN k) (E.ws.length - r.length) (T ++ t)) := HC1.out.drew k
      clear hRf hX1
      go_wp2_with fail
      refine hR2.mono ?_
      rintro e w3 ⟨rfl, hB⟩
      have hG := HC2.out.gr.trans (grown_of hB (some E.g))
      clear hR2 hB
      go_wp2
      exact ⟨rfl, rfl, hG⟩

theorem some_of_and {x : PR} {f : List Tk5 → List Wd → PR} {a : Except Er (List Tk5 × List Wd)} (h : andR x f = some a) : ∃ y, x = some y := by
  cases x with
  | none => simp [andR] at h
  | some y => exact ⟨y, rfl⟩
theorem mkfn : ∀ (fn : Fn) (first cap : Array Value) (w : World), (Instr.makeFunc fn first cap).run Tryz.prog w = .ok (.func fn first cap) w := fun _ _ _ _ => rfl
/-- The words behind the one that stands next. -/
theorem tail_at {ws r : List Wd} (h : ws.drop (ws.length - r.length) = r) (hn : r ≠ []) (hl : r.length ≤ ws.length) : ws.drop (ws.length - r.tail.length) = r.tail := by
  have := tail_lt hn
  conv => rhs; rw [← h]
  rw [List.tail_drop]
  congr 1; omega
set_option maxHeartbeats 1000000 in
theorem Tryz.palong_any (E : Ev) (n : Nat) (hPl : Cont E n (.pat 0) 107) (hPr : Cont E n .una 102) (p : Nat) (T : List Tk5) (s : ByteArray) (hs : s.toList ≠ []) (op : Nat) (hop : op < 256) (w : World) (h : Cx E w p T) (hlt : p < E.ws.length)
    (x : Except Er (List Tk5 × List Wd)) (hx : andR (rd5 (nms E.ss) E.fin n (.pat 0) (E.ws.drop (p + 1))) (fun t r => if hdT r = s.toList then andR (rd5 (nms E.ss) E.fin n .una r.tail) (fun u r' => okR (t ++ u ++ [(op, 0)]) r') else erR 150 (plc E.fin r)) = some x) :
    Calls Tryz.prog 104 #[.pointer (some ⟨E.g, 0, none⟩), .string s, .int .u8 (op : Int)] w (PC E T x) := by
  obtain ⟨y1, hy1⟩ := some_of_and hx
  have hW := Tryz.pwithin_any E n (.pat 0) 107 Tryz.call107 hPl p T s hs w h hlt y1 hy1
  rw [hy1] at hx
  have hmf := mkfn
  have ht := h.tle
  clear h hPl
  cases y1 with
  | error er =>
    obtain ⟨e1, e2⟩ := er
    simp [andR] at hx
    subst hx
    go_enter Tryz.func104, Tryz.ntmps104
    go_wp2_with fail
    refine hW.mono ?_
    rintro e w1 ⟨rfl, hg⟩
    exact ⟨rfl, rfl, hg⟩
  | ok q =>
    obtain ⟨t, r⟩ := q
    obtain ⟨hr, h1, h2, h3⟩ := rest_of (by omega) hy1
    simp only [andR] at hx
    by_cases he : hdT r = s.toList
    · rw [if_pos he] at hx
      have hne : r ≠ [] := fun e => hs (by rw [← he, e]; rfl)
      have hrl := tail_lt hne
      have htl := tail_at hr hne h2
      have hwx : wantX E.fin s.toList (.ok (t, r)) = .ok (t, r.tail) := by simp [wantX, he]
      rw [hwx] at hW
      obtain ⟨y2, hy2⟩ := some_of_and hx
      have hQ := fun w' (hC : Cx E w' (E.ws.length - r.tail.length) (T ++ t)) => hPr _ (T ++ t) w' y2 hC (by rw [htl]; exact hy2)
      rw [hy2] at hx
      rw [← htl] at hy2
      clear hwx htl hr he hPr
      cases y2 with
      | error er =>
        obtain ⟨e1, e2⟩ := er
        simp at hx
        subst hx
        clear hy1 hy2
        go_enter Tryz.func104, Tryz.ntmps104
        go_wp2_with fail
        refine hW.mono ?_
        rintro e w1 ⟨rfl, hC1⟩
        have hQ1 := hQ w1 hC1
        clear hQ hC1 hW
        go_wp2_with fail
        refine hQ1.mono ?_
        rintro e w2 ⟨rfl, hg⟩
        exact ⟨rfl, rfl, hg⟩
      | ok q2 =>
        obtain ⟨u, r'⟩ := q2
        obtain ⟨_, g1, g2, g3⟩ := rest_of (by omega) hy2
        simp [okR] at hx
        subst hx
        have hP := fun w' (hC : Cx E w' (E.ws.length - r'.length) (T ++ t ++ u)) => Tryz.pput_any E _ (T ++ t ++ u) op hop w' hC (by simp; omega)
        clear hy1 hy2
        go_enter Tryz.func104, Tryz.ntmps104
        go_wp2_with fail
        refine hW.mono ?_
        rintro e w1 ⟨rfl, hC1⟩
        have hQ1 := hQ w1 hC1
        clear hQ hC1 hW
        go_wp2_with fail
        refine hQ1.mono ?_
        rintro e w2 ⟨rfl, hC2⟩
        have hP2 := hP w2 hC2
        clear hP hC2 hQ1
        go_wp2_with fail
        refine hP2.mono ?_
        rintro e w3 ⟨rfl, hC3⟩
        go_wp2
        go_end0
        refine ⟨rfl, ?_⟩
        have e4 : T ++ (t ++ (u ++ [(op, 0)])) = T ++ t ++ u ++ [(op, 0)] := by simp
        rw [e4]; exact hC3
    · rw [if_neg he] at hx
      have hwx : wantX E.fin s.toList (.ok (t, r)) = .error (150, plc E.fin r) := by simp [wantX, he]
      rw [hwx] at hW
      simp [erR] at hx
      subst hx
      clear hwx he hy1
      go_enter Tryz.func104, Tryz.ntmps104
      go_wp2_with fail
      refine hW.mono ?_
      rintro e w1 ⟨rfl, hg⟩
      exact ⟨rfl, rfl, hg⟩

/-- slices.Index of names. -/
theorem Tryz.pindex_any (a : Option Addr) (len cap : Nat) (ad : Nat → Addr) (ss : List ByteArray) (s : ByteArray) (w : World) (hS : StrSl Tryz.prog 22 w a len cap ad ss) :
    Calls Tryz.prog 98 #[.slice a len cap, .string s] w fun e w' => e = .returned (.int .i64 (atI (nms ss) s.toList)) ∧ w' = w := by
  obtain ⟨hl, hcp, hbd, hidx, hc, _, _, _⟩ := hS
  unfold maxLen at hbd
  have hl' := nms_len ss
  have HL : Hid ((nms ss).length = len) := by rw [hl', hl]; exact rfl
  have HG : ∀ k, k < len → (nms ss)[k]? = some (ss.getD k ByteArray.empty).toList := fun k hk => nms_get (by omega)
  clear hl hl'
  have hidx' := fun (k : Nat) (w : World) (h : k < len) => hidx len k w h (Nat.le_refl _)
  clear hidx
  go_enter Tryz.func98, Tryz.ntmps98
  go_wp2
  go_loop [8] (fun i => ∃ k : Nat, k ≤ len ∧ i = .int .i64 k ∧ ((nms ss).take k).contains s.toList = false) (fun i => len - (intOf i).toNat)
  case atStart => exact ⟨0, Nat.zero_le _, rfl, by simp⟩
  case round =>
    obtain ⟨k, hk, rfl, hu⟩ := hrel
    have HU : Hid (((nms ss).take k).contains s.toList = false) := hu
    clear hu
    by_cases hlt : k < len
    · have hck := hc k hlt
      have hik := fun w => hidx' k w hlt
      have hgk : Hid ((nms ss)[k]? = some (ss.getD k ByteArray.empty).toList) := HG k hlt
      clear HG hc hidx'
      generalize ss.getD k ByteArray.empty = x at *
      rcases Bool.eq_false_or_eq_true (s.toList == x.toList) with he | he
      · have hx : Hid (atI (nms ss) s.toList = k) := by
          have e2 : s.toList = x.toList := by simpa using he
          exact atI_hit (by rw [e2]; exact hgk.out) HU.out
        go_wp2
        go_ret
        exact ⟨by rw [hx.out]; rfl, rfl⟩
      · have hx : Hid (((nms ss).take (k + 1)).contains s.toList = false) := by
          have e2 : ¬ s.toList = x.toList := by simpa using he
          show _ = _
          rw [take_snoc_contains hgk.out, HU.out]; simp; exact fun h => e2 h
        go_wp2
        go_round
        case rel => exact ⟨k + 1, by omega, by go_num, hx.out⟩
        case measure => simp [intOf]; omega
    · have hx : Hid (atI (nms ss) s.toList = -1) := atI_miss (by have := HU.out; rwa [List.take_of_length_le (by have := HL.out; omega)] at this)
      go_wp2
      go_ret
      exact ⟨by rw [hx.out]; rfl, rfl⟩

theorem so_at (ws : List Wd) (fin p : Nat) (h : p < (ws ++ [endW fin]).length) : ((ws ++ [endW fin])[p]).so = (match ws.drop p with | [] => 0 | w :: _ => w.so) := by
  by_cases hp : p < ws.length
  · rw [List.getElem_append_left hp, List.drop_eq_getElem_cons hp]
  · have e : p = ws.length := by simp at h; omega
    subst e
    simp [endW]
theorem one_tk2 (w : World) {op q : Nat} (h : op < 256) (hq : q < 256) : TkSl (w.alloc (.cells #[.int .u8 (op : Int), .int .u8 (q : Int)] 41)) (some ⟨w.heap.size, 0, none⟩) 1 1 [(op, q)] := by
  have hc : ∀ j, (w.alloc (.cells #[.int .u8 (op : Int), .int .u8 (q : Int)] 41)).cell? ⟨w.heap.size, j, none⟩ = #[Value.int .u8 (op : Int), .int .u8 (q : Int)][j]? := fun j => cell_row (MapKept.heap_alloc w _).1 j
  refine ⟨rfl, Nat.le_refl _, by unfold maxLen; omega, fun h => (nomatch h), ?_, ?_, fun u hu => by simp at hu; subst hu; exact ⟨h, hq⟩⟩
  all_goals
    intro x hx k hk
    injection hx with hx; subst hx
    simp at hk; subst hk
    rw [add_plain, hc]; rfl
/-- What a name is. -/
def nameR (ns : List Bytes) (fin : Int) : List Wd → PR
  | [] => erR 150 fin
  | w :: r => if w.so = 2 then (if ns.contains w.tx.toList then okR [(2, ns.idxOf w.tx.toList)] r else erR 6 w.pl) else erR 150 w.pl
theorem name_not {ns : List Bytes} {fin : Int} {ws : List Wd} (h : (match ws with | [] => 0 | w :: _ => w.so) ≠ 2) : nameR ns fin ws = erR 150 (plc fin ws) := by
  cases ws with
  | nil => rfl
  | cons w r => simp only at h; simp [nameR, h, plc]
theorem name_is {ns : List Bytes} {fin : Int} {ws : List Wd} (h : (match ws with | [] => 0 | w :: _ => w.so) = 2) : ws ≠ [] ∧ nameR ns fin ws = if 0 ≤ atI ns (hdT ws) then okR [(2, (atI ns (hdT ws)).toNat)] ws.tail else erR 6 (plc fin ws) := by
  cases ws with
  | nil => simp at h
  | cons w r =>
    simp only at h
    refine ⟨by simp, ?_⟩
    have hd : hdT (w :: r) = w.tx.toList := rfl
    rw [hd]
    simp only [nameR, h, if_pos]
    by_cases hc : ns.contains w.tx.toList = true
    · have e : atI ns w.tx.toList = (ns.idxOf w.tx.toList : Int) := by unfold atI; rw [if_pos hc]
      rw [if_pos hc, e, if_pos (by omega)]
      simp
    · have e : atI ns w.tx.toList = -1 := atI_miss (by simpa using hc)
      rw [if_neg hc, e, if_neg (by omega)]
      rfl
set_option maxHeartbeats 2000000 in
set_option maxRecDepth 100000 in
theorem Tryz.pname_any (E : Ev) (p : Nat) (T : List Tk5) (w : World) (h : Cx E w p T) (x : Except Er (List Tk5 × List Wd)) (hx : nameR (nms E.ss) E.fin (E.ws.drop p) = some x) :
    Calls Tryz.prog 109 #[.pointer (some ⟨E.g, 0, none⟩)] w (PC E T x) := by
  obtain ⟨v, c0, c1, c2, _, _, _, _⟩ := h.c
  have hb := h.wd.bd
  have hc := h.wd.hcap
  have hf := h.env.few
  have hp := h.ple
  unfold maxLen at hb
  obtain ⟨g, o, sh, hidx, hc0, q1, q2, _, _⟩ := h.wd.at Tryz.underlying96 Tryz.sizeWd p (by omega)
  have hik := fun w => hidx (E.ws.length + 1) w (by omega)
  rw [so_at E.ws E.fin p (by simp; omega)] at hc0
  have HC : Hid (Cx E w p T) := h
  have hRf := fun er q => Tryz.prefuse_any E p T er (w.drewN q) (h.drew q)
  by_cases hso : (match E.ws.drop p with | [] => 0 | w :: _ => w.so) = 2
  · obtain ⟨hne, hn⟩ := name_is (ns := nms E.ss) (fin := E.fin) hso
    rw [hn] at hx
    rw [hso] at hc0
    have hpl : p < E.ws.length := by
      rcases Nat.lt_or_ge p E.ws.length with hl | hl
      · exact hl
      · exact absurd (List.drop_of_length_le hl) hne
    have hal := atI_lt (nms E.ss) (hdT (E.ws.drop p))
    have hnl := h.names
    clear hn hso hne hidx q1 q2 h
    by_cases hat : 0 ≤ atI (nms E.ss) (hdT (E.ws.drop p))
    · rw [if_pos hat] at hx
      simp [okR] at hx
      clear hRf
      obtain ⟨K, hK'⟩ : ∃ K : Nat, atI (nms E.ss) (hdT (E.ws.drop p)) = K := ⟨(atI (nms E.ss) (hdT (E.ws.drop p))).toNat, by omega⟩
      have hK : K < 256 := by omega
      rw [hK'] at hx hat
      go_enter Tryz.func109, Tryz.ntmps109
      go_wp2
      go_quiet (fail)
      go_wp2
      have HCq : Hid (Cx E (w.drewN nq) p T) := HC.out.drew nq
      clear c0 c1 c2 hik hc0 HC
      obtain ⟨wq, hwq⟩ : ∃ wq, wq = w.drewN nq := ⟨_, rfl⟩
      rw [← hwq] at HCq ⊢
      clear hwq
      have hTx := fun q => Tryz.ptext_any E p T (wq.drewN q) (HCq.out.drew q)
      have hIx := fun q => Tryz.pindex_any E.na E.nl E.nc E.ad E.ss (mkB (hdT (E.ws.drop p))) (wq.drewN q) (HCq.out.drew q).nm
      rw [mkB_toList, hK'] at hIx
      generalize mkB (hdT (E.ws.drop p)) = X at *
      obtain ⟨_, c0, _, _, _, _, _, _⟩ := HCq.out.c
      go_quiet (first | (go_at_call 50; exact Calls.quiet_of (hTx _)) | (go_at_call 98; exact Calls.quiet_of_same (hIx _)))
      have HCr : Hid (Cx E (wq.drewN nq) p T) := HCq.out.drew nq
      clear hTx hIx HCq c0
      obtain ⟨w, hwq⟩ : ∃ w, w = wq.drewN nq := ⟨_, rfl⟩
      rw [← hwq] at HCr ⊢
      clear hwq
      obtain ⟨v, _, _, c2, c3, _, _, z⟩ := HCr.out.c
      have z2 := z 2
      have HC := HCr.out.bump hpl
      have HC : Hid (Cx E (w.setCell ⟨E.g, 2, none⟩ (.int .i64 ((p : Int) + 1))) (p + 1) T) := HC
      obtain ⟨v', _, _, _, c3', hr, ho, _⟩ := HC.out.c
      have hlw := HCr.out.lt
      have hg0 := HCr.out.env.glt
      have ht := HCr.out.tle
      have HS : Hid (E.w0.heap.size ≤ w.heap.size) := HCr.out.gr.size
      have hvv : v' = v := by
        have := c3'
        rw [World.cell?_setCell_other _ _ _ _ (by simp)] at this
        rw [c3] at this; injection this with this; exact this.symm
      subst hvv
      clear c3'
      have HO : Hid ((w.setCell ⟨E.g, 2, none⟩ (.int .i64 ((p : Int) + 1))).ownsRow E.w0.heap.size 41 2 v' T.length (encT T)) := ho
      have HR : Hid ((w.setCell ⟨E.g, 2, none⟩ (.int .i64 ((p : Int) + 1))).heap[E.g]? = some (rowE E (p + 1) v')) := hr
      clear ho hr z HCr
      go_wp2_with (at_builtin; refine Tryz.append_tks rfl _ _ rfl E.w0.heap.size v' T [(2, K)] (some ⟨w.heap.size, 0, none⟩) 1 1 rfl rfl (World.ownsRow.alloc HO.out _) (by
        have := one_tk2 (w.setCell ⟨E.g, 2, none⟩ (.int .i64 ((p : Int) + 1))) (op := 2) (q := K) (by omega) hK
        simpa using this) (by omega) (by simp) (by have := HS.out; simp; omega) ?_)
      intro v4 w4 hown4 hgr4
      have hb1 : Below (w.setCell ⟨E.g, 2, none⟩ (.int .i64 ((p : Int) + 1))).heap.size (w.setCell ⟨E.g, 2, none⟩ (.int .i64 ((p : Int) + 1))) ((w.setCell ⟨E.g, 2, none⟩ (.int .i64 ((p : Int) + 1))).alloc (.cells #[.int .u8 2, .int .u8 (K : Int)] 41)) := below_new _ _
      have hne : ∀ k, k < E.w0.heap.size → some k ≠ v'.ownBlock := fun k hk e => by have := own_ge HO.out k e.symm; omega
      have hss : (w.setCell ⟨E.g, 2, none⟩ (.int .i64 ((p : Int) + 1))).heap.size = w.heap.size := by simp
      have hsw := HS.out
      have hr4 : w4.heap[E.g]? = some (rowE E (p + 1) v') := (hgr4.block E.g (by simp; omega) (hne _ hg0)).trans ((hb1.block E.g (by omega)).trans HR.out)
      have z3 : w4.frozen? ⟨E.g, 3, none⟩ = false := frozen_of_row w4 E.g 3 _ _ hr4
      have c34 : w4.cell? ⟨E.g, 3, none⟩ = some v' := cell_row hr4 3
      have HG4 : Hid (E.w0.grownBy w4 (some E.g)) := ⟨hgr4.os.trans HC.out.gr.os, hgr4.tape.trans HC.out.gr.tape, hgr4.output.trans HC.out.gr.output, by have := hgr4.size; simp at this; omega, fun k hk hn => by
        rw [hgr4.block k (by simp; omega) (hne k hk), hb1.block k (by omega)]; exact HC.out.gr.block k hk hn⟩
      have HR4 : Hid (w4.heap[E.g]? = some (rowE E (p + 1) v')) := hr4
      have HO4 : Hid (w4.ownsRow E.w0.heap.size 41 2 v4 (T.length + 1) (encT (T ++ [(2, K)]))) := hown4
      obtain ⟨a4, k4, rfl⟩ := own_sl HO4.out
      clear hown4 hgr4 hb1 hne hr4 hss hsw
      go_wp2
      go_end0
      have hg5 : w4.grownBy (w4.setCell ⟨E.g, 3, none⟩ (.slice a4 (T.length + 1) k4)) (some E.g) := ⟨rfl, rfl, rfl, by simp, fun k hk hne => Below.heap_setCell _ _ _ _ (fun e => hne (congrArg some e))⟩
      have hCx : Cx E (w4.setCell ⟨E.g, 3, none⟩ (.slice a4 (T.length + 1) k4)) (p + 1) (T ++ [(2, K)]) := by
        refine ⟨HC.out.env, HG4.out.trans hg5, by omega, by simp; omega, .slice a4 (T.length + 1) k4, ?_, by
          rw [List.length_append]; exact owns_keep HO4.out fun k hb hk => hg5.block k hk (fun e => by injection e with e; omega)⟩
        rw [heap_setCell_same w4 E.g 3 _ _ _ HR4.out]
        rfl
      rw [← hx]
      refine ⟨rfl, ?_⟩
      rw [List.length_drop, show E.ws.length - (E.ws.length - (p + 1)) = p + 1 by omega]
      exact hCx
    · rw [if_neg hat] at hx
      simp [erR] at hx
      subst hx
      have e1 : atI (nms E.ss) (hdT (E.ws.drop p)) = -1 := by omega
      clear hRf
      go_enter Tryz.func109, Tryz.ntmps109
      go_wp2
      go_quiet (fail)
      go_wp2
      have HCq : Hid (Cx E (w.drewN nq) p T) := HC.out.drew nq
      clear c0 c1 c2 hik hc0 HC
      obtain ⟨wq, hwq⟩ : ∃ wq, wq = w.drewN nq := ⟨_, rfl⟩
      rw [← hwq] at HCq ⊢
      clear hwq
      have hTx := fun q => Tryz.ptext_any E p T (wq.drewN q) (HCq.out.drew q)
      have hIx := fun q => Tryz.pindex_any E.na E.nl E.nc E.ad E.ss (mkB (hdT (E.ws.drop p))) (wq.drewN q) (HCq.out.drew q).nm
      rw [mkB_toList, e1] at hIx
      generalize mkB (hdT (E.ws.drop p)) = X at *
      obtain ⟨_, c0, _, _, _, _, _, _⟩ := HCq.out.c
      go_quiet (first | (go_at_call 50; exact Calls.quiet_of (hTx _)) | (go_at_call 98; exact Calls.quiet_of_same (hIx _)))
      clear hTx hIx
      go_wp2_with fail
      refine (Tryz.prefuse_any E p T 6 _ (HCq.out.drew _)).mono ?_
      rintro e w3 ⟨rfl, hB⟩
      have hG := (HCq.out.drew _).gr.trans (grown_of hB (some E.g))
      clear hB
      go_wp2
      exact ⟨rfl, rfl, hG⟩
  · have hn := name_not (ns := nms E.ss) (fin := E.fin) hso
    rw [hn] at hx
    simp [erR] at hx
    subst hx
    generalize (match E.ws.drop p with | [] => 0 | w :: _ => w.so) = S at *
    have hS : ¬ ((S : Int) = 2) := by omega
    clear hn hidx q1 q2 h
    go_enter Tryz.func109, Tryz.ntmps109
    go_wp2
    go_quiet (fail)
    go_wp2_with fail
    refine (hRf _ _).mono ?_
    rintro e w3 ⟨rfl, hB⟩
    have hG := (HC.out.drew _).gr.trans (grown_of hB (some E.g))
    clear hRf hB
    go_wp2
    exact ⟨rfl, rfl, hG⟩
end Go.Proofs.YtfipefbaabkdeaaGreatDoor
