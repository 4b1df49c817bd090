/- Package guard: a store in memory; count, isProp, opposite, made, New, Len, Nodes. -/
import Derived.Test.YtmnkkknkmbldhaaWGm1
import Derived.Test.YtmnkkknkmbldhaaWGr7
import Derived.LaidEqlPtr
import Derived.Lib.LazyBuf
namespace Go.Proofs.Ytmnkkknkmbldhaa
open Go.RowKit Go.Maps

def stV (g : Nat) : Value := .pointer (some ⟨g, 0, none⟩)
theorem own_farG {w w' : World} {base e size n : Nat} {v : Value} {xs : List Value} (h : w.ownsRow base e size v n xs) (hb : ∀ k, v.ownBlock = some k → w'.heap[k]? = w.heap[k]?) : w'.ownsRow base e size v n xs := by
  obtain ⟨hl, h⟩ := h
  refine ⟨hl, h.imp id ?_⟩
  rintro ⟨g, cap, cur, rfl, hg, hcell, r⟩
  exact ⟨g, cap, cur, rfl, hg, (hb g rfl).trans hcell, r⟩
theorem own_neG {w : World} {base n g : Nat} {v : Value} {xs : List Value} {o : Obj} (h : w.ownsRow base 44 3 v n xs) (hg : w.heap[g]? = some o) (ho : ∀ cs, o ≠ .cells cs 44 (0, 0)) : v.ownBlock ≠ some g := by
  rcases h.2 with ⟨rfl, _⟩ | ⟨g', cap, cur, rfl, _, hc, _⟩
  · intro e; cases e
  · intro e
    injection e with e
    dsimp only at e
    subst e
    rw [hg] at hc
    injection hc with hc
    exact ho _ hc
/-- The block that a store is. -/
def stO (g n : Nat) (v : Value) (mb : Nat) : Obj := .cells #[.pointer (some ⟨g, 0, none⟩), .int .i64 (n : Int), v, .map (some mb)] 64 (0, 0)
/-- What the walk reads of a store. -/
structure StR (w : World) (g n : Nat) (a : Option Addr) (len cap mb : Nat) (N : List Gd) : Prop where
  hn : N.length = len
  hc : len ≤ cap
  bd : cap ≤ maxLen
  nn : a = none → cap = 0
  blk : w.heap[g]? = some (stO g n (.slice a len cap) mb)
  row : w.ownsRow 0 44 3 (.slice a len cap) len (encG N)
  num : NumG w mb len (posG N)
/-- A store in memory: its blocks F, its variable g. -/
structure StG (w : World) (F : Nat → Prop) (g n : Nat) (N : List Gd) : Prop where
  nd : N.Nodup
  ok : ∀ t ∈ N, GdOk t
  ex : ∃ v mb, w.heap[g]? = some (stO g n v mb) ∧ w.ownsRow 0 44 3 v N.length (encG N) ∧ NumG w mb N.length (posG N) ∧ ∀ k, F k ↔ (k = g ∨ k = mb ∨ v.ownBlock = some k)
theorem StG.lt {w : World} {F : Nat → Prop} {g n : Nat} {N : List Gd} (h : StG w F g n N) : ∀ k, F k → k < w.heap.size := by
  obtain ⟨v, mb, h1, h2, h3, h4⟩ := h.ex
  intro k hk
  rcases (h4 k).1 hk with rfl | rfl | hk
  · exact (Array.getElem?_eq_some_iff.1 h1).1
  · exact h3.lt
  · exact (h2.lt k hk).2
theorem StG.far {w w' : World} {F : Nat → Prop} {g n : Nat} {N : List Gd} (h : StG w F g n N) (hb : ∀ k, F k → w'.heap[k]? = w.heap[k]?) : StG w' F g n N := by
  obtain ⟨v, mb, h1, h2, h3, h4⟩ := h.ex
  exact ⟨h.nd, h.ok, v, mb, (hb g ((h4 g).2 (Or.inl rfl))).trans h1, own_farG h2 (fun k hk => hb k ((h4 k).2 (Or.inr (Or.inr hk)))), h3.far (hb mb ((h4 mb).2 (Or.inr (Or.inl rfl)))), h4⟩
theorem StG.up {w w' : World} {F : Nat → Prop} {g n : Nat} {N : List Gd} (h : StG w F g n N) (hb : Below w.heap.size w w') : StG w' F g n N := h.far fun k hk => hb.block k (h.lt k hk)
theorem StG.read {w : World} {F : Nat → Prop} {g n : Nat} {N : List Gd} (h : StG w F g n N) : ∃ a cap mb, StR w g n a N.length cap mb N ∧ ∀ k, F k ↔ (k = g ∨ k = mb ∨ (Value.slice a N.length cap).ownBlock = some k) := by
  obtain ⟨v, mb, h1, h2, h3, h4⟩ := h.ex
  rcases h2.2 with ⟨rfl, e0⟩ | ⟨g', cap, cur, rfl, _, _, hnc, hcm, _⟩
  · have hnil : N = [] := List.eq_nil_of_length_eq_zero e0
    subst hnil
    exact ⟨none, 0, mb, ⟨rfl, Nat.le_refl _, Nat.zero_le _, fun _ => rfl, h1, h2, h3⟩, h4⟩
  · exact ⟨some ⟨g', 0, none⟩, cap, mb, ⟨rfl, hnc, hcm, fun e => (by cases e), h1, h2, h3⟩, h4⟩
theorem StR.up {w w' : World} {g n len cap mb : Nat} {a : Option Addr} {N : List Gd} (h : StR w g n a len cap mb N) (hb : Below w.heap.size w w') : StR w' g n a len cap mb N :=
  ⟨h.hn, h.hc, h.bd, h.nn, (hb.block g (Array.getElem?_eq_some_iff.1 h.blk).1).trans h.blk, owns_up h.row hb, h.num.far (hb.block mb h.num.lt)⟩
theorem StR.c0 {w : World} {g n len cap mb : Nat} {a : Option Addr} {N : List Gd} (h : StR w g n a len cap mb N) : w.cell? ⟨g, 0, none⟩ = some (.pointer (some ⟨g, 0, none⟩)) := cell_row h.blk 0
theorem StR.c1 {w : World} {g n len cap mb : Nat} {a : Option Addr} {N : List Gd} (h : StR w g n a len cap mb N) : w.cell? ⟨g, 1, none⟩ = some (.int .i64 (n : Int)) := cell_row h.blk 1
theorem StR.c2 {w : World} {g n len cap mb : Nat} {a : Option Addr} {N : List Gd} (h : StR w g n a len cap mb N) : w.cell? ⟨g, 2, none⟩ = some (.slice a len cap) := cell_row h.blk 2
theorem StR.c3 {w : World} {g n len cap mb : Nat} {a : Option Addr} {N : List Gd} (h : StR w g n a len cap mb N) : w.cell? ⟨g, 3, none⟩ = some (.map (some mb)) := cell_row h.blk 3
theorem StR.nds {w : World} {g n len cap mb : Nat} {a : Option Addr} {N : List Gd} (h : StR w g n a len cap mb N) (hok : ∀ t ∈ N, GdOk t) : NdSl w a len cap N := by
  obtain ⟨a', cap', e, hs, _⟩ := own_nd h.row hok
  injection e with e1 _ e3
  subst e1 e3
  exact hs
/-! ### count, isProp, opposite -/
theorem Try.gcount_any (n : Int) (w : World) : Calls Try.prog 27 #[.int .i64 n] w fun e w' => e = .returned (.bool (decide (0 ≤ n ∧ n ≤ 8))) ∧ w' = w := by
  obtain ⟨b, hb⟩ : ∃ b, b = decide (0 ≤ n ∧ n ≤ 8) := ⟨_, rfl⟩
  rw [← hb]
  have HB : Hid _ := hb
  clear hb
  by_cases h0 : 0 ≤ n
  · have d0 : decide (0 ≤ n) = true := by simpa using h0
    have HX : Hid (b = decide (n ≤ 8)) := by show _ = _; rw [HB.out]; simp [h0]
    clear HB
    go_enter Try.func27, Try.ntmps27
    go_wp2
    go_ret
    exact ⟨by rw [HX.out]; rfl, rfl⟩
  · have d0 : decide (0 ≤ n) = false := by simpa using h0
    have HX : Hid (b = false) := by show _ = _; rw [HB.out]; simp [h0]
    clear HB
    go_enter Try.func27, Try.ntmps27
    go_wp2
    go_ret
    exact ⟨by rw [HX.out]; rfl, rfl⟩
theorem Try.gprop_any (n : Int) (w : World) : Calls Try.prog 34 #[.int .i64 n] w fun e w' => e = .returned (.bool (decide (0 ≤ n ∧ n ≤ 7))) ∧ w' = w := by
  obtain ⟨b, hb⟩ : ∃ b, b = decide (0 ≤ n ∧ n ≤ 7) := ⟨_, rfl⟩
  rw [← hb]
  have HB : Hid _ := hb
  clear hb
  by_cases h0 : 0 ≤ n
  · have d0 : decide (0 ≤ n) = true := by simpa using h0
    have HX : Hid (b = decide (n < 8)) := by
      show _ = _; rw [HB.out]
      by_cases h7 : n ≤ 7
      · have : n < 8 := by omega
        simp [h0, h7, this]
      · have : ¬ n < 8 := by omega
        simp [h7, this]
    clear HB
    go_enter Try.func34, Try.ntmps34
    go_wp2
    go_ret
    exact ⟨by rw [HX.out]; rfl, rfl⟩
  · have d0 : decide (0 ≤ n) = false := by simpa using h0
    have HX : Hid (b = false) := by show _ = _; rw [HB.out]; simp [h0]
    clear HB
    go_enter Try.func34, Try.ntmps34
    go_wp2
    go_ret
    exact ⟨by rw [HX.out]; rfl, rfl⟩
theorem Try.gopp_any (n : Int) (w : World) (hn : I64 n) : Calls Try.prog 36 #[.int .i64 n] w fun e w' => e = .returned (.int .i64 (-1 - n)) ∧ w' = w := by
  have h0 := hn.1
  have h1 := hn.2
  have hw : IntKind.i64.wrap (-1 - n) = -1 - n := by rw [IntKind.wrap_i64]; omega
  clear hn
  go_enter Try.func36, Try.ntmps36
  go_wp2
  go_ret
  exact ⟨rfl, rfl⟩
/-! ### made, New, Len, Nodes -/
theorem Try.stoInfo : ∃ j, Try.prog.info? 64 = some j := by
  cases h : Try.prog.info? 64 with
  | some j => exact ⟨j, rfl⟩
  | none => exact absurd h (by have : (Try.prog.info? 64).isSome = true := by kernel_rfl
                               intro e; rw [e] at this; cases this)
theorem Try.sptr_same (a : Addr) (w : World) : (binOp .eql 23 (.pointer (some a)) (.pointer (some a))).run Try.prog w = .ok (.bool true) w := by
  obtain ⟨j, hj⟩ := Try.stoInfo
  exact run_eql_ptr_same w a Try.underlying23 hj
theorem Try.sptr_none (a : Addr) (w : World) : (binOp .eql 23 (.pointer none) (.pointer (some a))).run Try.prog w = .ok (.bool false) w := by
  have h : ∀ d : Nat, (Op.equalIn (d + 1) 23 (.pointer none) (.pointer (some a))).run Try.prog w = .ok false w := fun d => by
    simp [Op.equalIn, run_underlying Try.underlying23]
  simp only [binOp]
  simp [Op.equal, Op.maxDepth, h 9999]
theorem Try.smade_is {w : World} {g n len cap mb : Nat} {a : Option Addr} {N : List Gd} (h : StR w g n a len cap mb N) : Calls Try.prog 28 #[.pointer (some ⟨g, 0, none⟩)] w fun e w' => e = .returned (.bool true) ∧ w' = w := by
  have c0 := h.c0
  have hp := fun w => Try.sptr_same ⟨g, 0, none⟩ w
  clear h
  go_enter Try.func28, Try.ntmps28
  go_wp2
  go_ret
  exact ⟨rfl, rfl⟩
theorem stG_new (w : World) (n g : Nat) (hg : g = w.heap.size + 1) : StG ((w.alloc (.map #[] 0)).alloc (stO g n (.slice none 0 0) w.heap.size)) (fun k => k = g ∨ k = w.heap.size) g n [] := by
  have h1 : ((w.alloc (.map #[] 0)).alloc (stO g n (.slice none 0 0) w.heap.size)).heap[g]? = some (stO g n (.slice none 0 0) w.heap.size) := by
    have := (MapKept.heap_alloc (w.alloc (.map #[] 0)) (stO g n (.slice none 0 0) w.heap.size)).1
    rw [show (w.alloc (.map #[] 0)).heap.size = g by simp; omega] at this
    exact this
  have h2 : NumG ((w.alloc (.map #[] 0)).alloc (stO g n (.slice none 0 0) w.heap.size)) w.heap.size 0 (posG []) := ((numG_made w).far ((below_new (w.alloc (.map #[] 0)) _).block w.heap.size (by simp))).alike fun x _ => rfl
  refine ⟨by simp, fun x hx => (by simp at hx), .slice none 0 0, w.heap.size, h1, ⟨rfl, Or.inl ⟨rfl, rfl⟩⟩, h2, fun k => ?_⟩
  constructor
  · rintro (h | h)
    · exact Or.inl h
    · exact Or.inr (Or.inl h)
  · rintro (h | h | h)
    · exact Or.inl h
    · exact Or.inr h
    · cases h
/-- What New answers. -/
def SnR (n : Int) (w : World) (e : Ending) (w' : World) : Prop := Below w.heap.size w w' ∧
  ((¬ (0 ≤ n ∧ n ≤ 8) ∧ e = .returned (.tuple #[.pointer none, .int .i64 2])) ∨
    (0 ≤ n ∧ n ≤ 8 ∧ ∃ g F, e = .returned (.tuple #[.pointer (some ⟨g, 0, none⟩), .int .i64 0]) ∧ (∀ k, F k → w.heap.size ≤ k) ∧ StG w' F g n.toNat []))
set_option maxHeartbeats 800000 in
theorem Try.snew_any (n : Int) (w : World) : Calls Try.prog 8 #[.int .i64 n] w (SnR n w) := by
  have hmm := @run_makeMap Try.prog
  have hc := fun w => Try.gcount_any n w
  by_cases h : 0 ≤ n ∧ n ≤ 8
  · rw [decide_eq_true h] at hc
    have HE : Hid (SnR n w (.returned (.tuple #[.pointer (some ⟨w.heap.size + 1, 0, none⟩), .int .i64 0])) ((w.alloc (.map #[] 0)).alloc (.cells #[.pointer (some ⟨w.heap.size + 1, 0, none⟩), .int .i64 n, .slice none 0 0, .map (some w.heap.size)] 64 (0, 0)))) := by
      refine ⟨below_step (below_new w _) (below_new _ _), .inr ⟨h.1, h.2, w.heap.size + 1, fun k => k = w.heap.size + 1 ∨ k = w.heap.size, rfl, fun k hk => by omega, ?_⟩⟩
      have := stG_new w n.toNat (w.heap.size + 1) rfl
      unfold stO at this
      rw [Int.toNat_of_nonneg h.1] at this
      exact this
    generalize SnR n w = Q at *
    clear h
    go_enter Try.func8, Try.ntmps8
    go_wp2_with (go_at_call 27; refine (hc _).mono ?_; rintro e w' ⟨rfl, hw1⟩; obtain rfl := hw1.symm)
    exact HE.out
  · rw [decide_eq_false h] at hc
    have HE : Hid (SnR n w (.returned (.tuple #[.pointer none, .int .i64 2])) w) := ⟨Below.refl _ _, .inl ⟨h, rfl⟩⟩
    generalize SnR n w = Q at *
    clear h
    go_enter Try.func8, Try.ntmps8
    go_wp2_with (go_at_call 27; refine (hc _).mono ?_; rintro e w' ⟨rfl, hw1⟩; obtain rfl := hw1.symm)
    exact HE.out
theorem Try.slen_any {w : World} {F : Nat → Prop} {g n : Nat} {N : List Gd} (h : StG w F g n N) : Calls Try.prog 14 #[.pointer (some ⟨g, 0, none⟩)] w fun e w' => e = .returned (.int .i64 (N.length : Int)) ∧ w' = w := by
  obtain ⟨a, cap, mb, hr, _⟩ := h.read
  have c2 := hr.c2
  have hm := Try.smade_is hr
  clear h hr
  go_enter Try.func14, Try.ntmps14
  go_wp2_with (go_at_call 28; refine hm.mono ?_; rintro e w' ⟨rfl, rfl⟩)
  go_ret
  exact ⟨rfl, rfl⟩
/-- What a copy of nodes is. -/
def NdsR (N : List Gd) (w : World) (e : Ending) (w' : World) : Prop := Below w.heap.size w w' ∧ ∃ v, e = .returned v ∧ w'.ownsRow w.heap.size 44 3 v N.length (encG N)
set_option maxRecDepth 100000 in
set_option maxHeartbeats 2000000 in
theorem Try.cloneN_any (a : Option Addr) (n c : Nat) (N : List Gd) (w : World) (hS : NdSl w a n c N) (hn : n ≤ 1000000) :
    Calls Try.prog 33 #[.slice a n c] w (NdsR N w) := by
  have hln := hS.hlen
  cases a with
  | none =>
    have hc0 := hS.nn rfl
    have hn0 : n = 0 := by have := hS.hcap; omega
    subst hc0 hn0
    have hl : N = [] := List.eq_nil_of_length_eq_zero hln
    subst hl
    clear hln hS hn
    have hnil := fun w => _root_.Go.run_eql_slice_nil (P := Try.prog) w 38 44 none 0 0 Try.underlying38
    dsimp only [Option.isNone] at hnil
    go_enter Try.func33, Try.ntmps33
    go_wp2
    go_ret
    exact ⟨Below.refl _ _, _, rfl, ⟨rfl, Or.inl ⟨rfl, rfl⟩⟩⟩
  | some x =>
    have hnil := fun w => _root_.Go.run_eql_slice_nil (P := Try.prog) w 38 44 (some x) n c Try.underlying38
    dsimp only [Option.isNone] at hnil
    have hE := ownsRow_emptyN w
    have hb1 := below_new w (.cells #[] 44)
    have hT := hS.up hb1
    have hsz : w.heap.size ≤ (w.alloc (.cells #[] 44)).heap.size := hb1.size
    have HNl : Hid (N.length ≤ 1000000) := by show _ ≤ _; omega
    have HB : Hid (∀ w1, (w.alloc (.cells #[] 44)).grownBy w1 (some w.heap.size) → Below w.heap.size w w1) := fun w1 h2 => ((Below.refl _ _).alloc (Nat.le_refl _) _).grown h2 (by simp) (fun k hk => by cases hk; exact Nat.le_refl _)
    clear hS hln hb1
    go_enter Try.func33, Try.ntmps33
    go_wp2_with (at_builtin; refine Try.append_nds rfl _ _ rfl w.heap.size _ [] N (some x) n c rfl rfl hE hT (Nat.zero_le _) HNl.out hsz ?_)
    intro v3 w3 hown3 hgr3
    obtain ⟨a3, c3, rfl⟩ := own_slZ hown3
    have HO : Hid _ := hown3
    have HG : Hid _ := HB.out w3 hgr3
    clear hown3 hgr3 hE hT
    go_wp2
    go_ret
    exact ⟨HG.out, _, rfl, HO.out⟩
theorem Try.snodes_any {w : World} {F : Nat → Prop} {g n : Nat} {N : List Gd} (h : StG w F g n N) (hN : N.length ≤ 1000000) : Calls Try.prog 15 #[.pointer (some ⟨g, 0, none⟩)] w (NdsR N w) := by
  obtain ⟨a, cap, mb, hr, _⟩ := h.read
  have c2 := hr.c2
  have hm := Try.smade_is hr
  have hj := Try.cloneN_any a N.length cap N w (hr.nds h.ok) hN
  have HQ : Hid (∀ e w', NdsR N w e w' → NdsR N w e w') := fun _ _ h => h
  generalize hQ : NdsR N w = Q at *
  have HQ2 : Hid _ := hQ
  clear h hr hQ
  go_enter Try.func15, Try.ntmps15
  go_wp2_with (go_at_call 28; refine hm.mono ?_; rintro e w' ⟨rfl, hw1⟩; obtain rfl := hw1.symm)
  refine hj.mono ?_
  intro e w2 hq
  rw [← HQ2.out] at hq
  obtain ⟨hb, v, rfl, ho⟩ := hq
  obtain ⟨a3, c3, rfl⟩ := own_slZ ho
  have HE : Hid (Q (.returned (.slice a3 N.length c3)) w2) := by rw [← HQ2.out]; exact ⟨hb, _, rfl, ho⟩
  clear hb ho hj hm c2 HQ HQ2
  go_wp2
  exact HE.out
end Go.Proofs.Ytmnkkknkmbldhaa
