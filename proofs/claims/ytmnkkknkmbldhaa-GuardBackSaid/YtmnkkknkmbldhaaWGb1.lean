/- Stage 14: GuardBack: lists that were added, in memory. -/
import Derived.Test.YtmnkkknkmbldhaaWGs6
import Derived.Test.YtmnkkknkmbldhaaWGs8
import Derived.Test.YtmnkkknkmbldhaaWGsD
import Derived.Test.YtmnkkknkmbldhaaWGn3
import Derived.Test.YtmnkkknkmbldhaaWGz
namespace Go.Proofs.Ytmnkkknkmbldhaa
open Go.RowKit Go.Maps

/-- Pick: one of n. -/
theorem Try.gpick_any (k : Int) (n : Nat) (w : World) (hn : 1 ≤ n) (hn2 : n ≤ 1000) :
    Calls Try.prog 26 #[.int .i64 k, .int .i64 (n : Int)] w fun e w' => ∃ i : Nat, i < n ∧ e = .returned (.int .i64 (i : Int)) ∧ w' = w := by
  have b1 : k.tmod n < n := Int.tmod_lt_of_pos k (by omega)
  have b2 : -(n : Int) < k.tmod n := Int.lt_tmod_of_pos k (by omega)
  have hn0 : ¬ ((n : Int) = 0) := by omega
  have hn1 : ¬ ((n : Int) < 1) := by omega
  have hw : IntKind.i64.wrap (k.tmod n) = k.tmod n := by rw [IntKind.wrap_i64]; omega
  by_cases h0 : k.tmod n < 0
  · have hw2 : IntKind.i64.wrap (k.tmod n + n) = k.tmod n + n := by rw [IntKind.wrap_i64]; omega
    go_enter Try.func26, Try.ntmps26
    go_wp2
    go_ret
    exact ⟨(k.tmod n + n).toNat, by omega, by show Ending.returned (Value.int IntKind.i64 (k.tmod n + n)) = _; rw [Int.toNat_of_nonneg (by omega)], rfl⟩
  · go_enter Try.func26, Try.ntmps26
    go_wp2
    go_ret
    exact ⟨(k.tmod n).toNat, by omega, by show Ending.returned (Value.int IntKind.i64 (k.tmod n)) = _; rw [Int.toNat_of_nonneg (by omega)], rfl⟩

theorem StG.type {w : World} {F : Nat → Prop} {g n : Nat} {N : List Gd} (h : StG w F g n N) {b : Nat} (hb : F b) {cs : Array Value} {T : TypeId} (hc : w.heap[b]? = some (.cells cs T (0, 0))) : T = 64 ∨ T = 44 := by
  obtain ⟨v, mb, h1, h2, h3, h4⟩ := h.ex
  rcases (h4 b).1 hb with rfl | rfl | e
  · unfold stO at h1; rw [h1] at hc; injection hc with hc; injection hc with _ hc _; exact .inl hc.symm
  · obtain ⟨es, c, hm⟩ := h3.isMap
    rw [hm] at hc; cases hc
  · rcases h2.2 with ⟨rfl, _⟩ | ⟨g', cap, cur, rfl, _, hg, _⟩
    · cases e
    · injection e with e
      dsimp only at e
      subst e
      rw [hg] at hc; injection hc with hc; injection hc with _ hc _; exact .inr hc.symm
theorem own_block {w : World} {base e size n b : Nat} {v : Value} {xs : List Value} (h : w.ownsRow base e size v n xs) (hb : v.ownBlock = some b) : ∃ cs, w.heap[b]? = some (.cells cs e (0, 0)) := by
  rcases h.2 with ⟨rfl, _⟩ | ⟨g', cap, cur, rfl, _, hg, _⟩
  · cases hb
  · injection hb with hb
    dsimp only at hb
    subst hb
    exact ⟨cur, hg⟩
theorem StG.notOwn {w : World} {F : Nat → Prop} {g n : Nat} {N : List Gd} (hS : StG w F g n N) {base e size k : Nat} {v : Value} {xs : List Value} (h : w.ownsRow base e size v k xs) (h1 : e ≠ 64) (h2 : e ≠ 44) : ∀ b, v.ownBlock = some b → ¬ F b := fun b hb hf => by
  obtain ⟨cs, hc⟩ := own_block h hb
  rcases hS.type hf hc with e | e
  · exact h1 e
  · exact h2 e
/-- Two rows of unlike types are not one. -/
theorem own_apart {w : World} {base e size k base' e' size' k' : Nat} {v v' : Value} {xs xs' : List Value} (h : w.ownsRow base e size v k xs) (h' : w.ownsRow base' e' size' v' k' xs') (he : e ≠ e') : ∀ b, v.ownBlock = some b → v'.ownBlock ≠ some b := fun b hb hb' => by
  obtain ⟨cs, hc⟩ := own_block h hb
  obtain ⟨cs', hc'⟩ := own_block h' hb'
  rw [hc] at hc'
  injection hc' with hc'
  injection hc' with _ hc' _
  exact he hc'
theorem own_grown {w w' : World} {base e size k : Nat} {v : Value} {xs : List Value} {row : Option Nat} (h : w.ownsRow base e size v k xs) (hg : w.grownBy w' row) (hn : ∀ b, v.ownBlock = some b → row ≠ some b) : w'.ownsRow base e size v k xs :=
  own_farG h fun b hb => hg.block b (h.lt b hb).2 (fun e => hn b hb e.symm)
theorem StG.grown {w w' : World} {F : Nat → Prop} {g n : Nat} {N : List Gd} (hS : StG w F g n N) {base e size k : Nat} {v : Value} {xs : List Value} (h : w.ownsRow base e size v k xs) (h1 : e ≠ 64) (h2 : e ≠ 44) (hg : w.grownBy w' v.ownBlock) : StG w' F g n N :=
  hS.far fun b hb => hg.block b (hS.lt b hb) (fun e => hS.notOwn h h1 h2 b e.symm hb)
/-- The values of a list of small numbers. -/
abbrev lzV (l : List Nat) : List Value := (l.map Int.ofNat).map (Value.int .i64)
/-- What lies in memory besides the store: the lists, their references, the automaton's variable. -/
structure BkR (w wr : World) (n : Nat) (K : List (List Nat)) (R : List Int) (kv rv : Value) (k aub : Nat) : Prop where
  rows : ∃ vs : List Value, wr.ownsRow w.heap.size 30 1 kv k vs ∧ ∀ (i : Nat) (l : List Nat), K[i]? = some l → ∃ b c, vs[i]? = some (.slice (some ⟨b, 0, none⟩) (2 ^ n) c) ∧ wr.ownsRow w.heap.size 3 1 (.slice (some ⟨b, 0, none⟩) (2 ^ n) c) (2 ^ n) (lzV l) ∧ rv.ownBlock ≠ some b
  refs : wr.ownsRow w.heap.size 3 1 rv k (R.map (Value.int .i64))
  au : wr.heap[aub]? = some (.cells #[.int .i64 (n : Int), .slice none 0 0, .slice none 0 0, .slice none 0 0] 48 (0, 0))
  aul : w.heap.size ≤ aub
  bel : Below w.heap.size w wr
theorem BkR.up {w wr w' : World} {n : Nat} {K : List (List Nat)} {R : List Int} {kv rv : Value} {k aub : Nat} (h : BkR w wr n K R kv rv k aub) (hb : Below wr.heap.size wr w') : BkR w w' n K R kv rv k aub := by
  obtain ⟨vs, h1, h2⟩ := h.rows
  refine ⟨⟨vs, owns_up h1 hb, fun i l hl => ?_⟩, owns_up h.refs hb, (hb.block _ (Array.getElem?_eq_some_iff.1 h.au).1).trans h.au, h.aul, below_step h.bel hb⟩
  obtain ⟨b, c, e1, e2, e3⟩ := h2 i l hl
  exact ⟨b, c, e1, owns_up e2 hb, e3⟩
theorem BkR.fr {w wr w' : World} {F F' : Nat → Prop} {g n m : Nat} {N : List Gd} {K : List (List Nat)} {R : List Int} {kv rv : Value} {k aub : Nat} (h : BkR w wr n K R kv rv k aub) (hS : StG wr F g m N) (hf : Fr wr w' F F') (hn : ∀ b, F b → w.heap.size ≤ b) : BkR w w' n K R kv rv k aub := by
  obtain ⟨vs, h1, h2⟩ := h.rows
  refine ⟨⟨vs, hf.own h1 (hS.notOwn h1 (by decide) (by decide)), fun i l hl => ?_⟩, hf.own h.refs (hS.notOwn h.refs (by decide) (by decide)), (hf.keep _ (Array.getElem?_eq_some_iff.1 h.au).1 (fun e => ?_)).trans h.au, h.aul, h.bel.trans (hf.below hn h.bel.size)⟩
  · obtain ⟨b, c, e1, e2, e3⟩ := h2 i l hl
    exact ⟨b, c, e1, hf.own e2 (hS.notOwn e2 (by decide) (by decide)), e3⟩
  · rcases hS.type e h.au with e | e <;> exact absurd e (by decide)
/-- One list more behind the lists. -/
theorem Try.append_zz {w : World} {ops : Array Oper} {rest : List Oper} {o : Oper} {a : Act} {Q : Exit → Act → World → Prop} (hgd : o.guard = none) (s x : Operand)
    (ho : o.op = .call { callee := .builtin .append, args := #[s, x], argTypes := #[22, 22] }) (base : Nat)
    (v : Value) (n : Nat) (vs : List Value) (hs : a.eval s = v) (hown : w.ownsRow base 30 1 v n vs) (g' : Nat) (y : Option Addr) (len cap : Nat) (hx : a.eval x = .slice (some ⟨g', 0, none⟩) 1 1) (hc : w.cell? ⟨g', 0, none⟩ = some (.slice y len cap))
    (hn : n + 1 ≤ 2000000) (hbase : base ≤ w.heap.size)
    (h : ∀ v' w', w'.ownsRow base 30 1 v' (n + 1) (vs ++ [.slice y len cap]) → w.grownBy w' v.ownBlock → wpList Try.prog ops Q rest (a.put o.dst v') w') : wpList Try.prog ops Q (o :: rest) a w := by
  have hI : (Try.prog.info? 30).map (fun i => (i.zero, i.size, i.bytes)) = some (some (.slice none 0 0), 1, 24) := by kernel_rfl
  obtain ⟨i, hi, hz0, hz1, hz2⟩ := info_parts hI
  refine wpList_append_own w hgd s x 22 ho base 30 i _ 1 24 Try.underlying22 hi hz0 hz1 hz2 rfl (by decide) v n _ hs hown ⟨g', 0, none⟩ 1 1 [.slice y len cap] hx rfl ?_ (fun u hu => by simp at hu; subst hu; rfl) (by unfold maxLen; omega) (by omega) hbase ?_
  · intro j u hj
    match j with
    | 0 => simp at hj; rw [← hj, add_plain]; exact hc
    | j + 1 => simp at hj
  · intro v' w' h1 h2 _
    exact h v' w' h1 h2
/-- The lists grow. -/
theorem BkR.kept {w w2 w3 : World} {F : Nat → Prop} {g n m : Nat} {N : List Gd} {K : List (List Nat)} {R : List Int} {kv rv : Value} {k aub b c : Nat} {l : List Nat} (h : BkR w w2 n K R kv rv k aub) (hS : StG w2 F g m N) (hk : K.length = k)
    (hl : w2.ownsRow w.heap.size 3 1 (.slice (some ⟨b, 0, none⟩) (2 ^ n) c) (2 ^ n) (lzV l)) (hne : rv.ownBlock ≠ some b) {vs : List Value} (hvs : w2.ownsRow w.heap.size 30 1 kv k vs) (hrow : ∀ (i : Nat) (l : List Nat), K[i]? = some l → ∃ b c, vs[i]? = some (.slice (some ⟨b, 0, none⟩) (2 ^ n) c) ∧ w2.ownsRow w.heap.size 3 1 (.slice (some ⟨b, 0, none⟩) (2 ^ n) c) (2 ^ n) (lzV l) ∧ rv.ownBlock ≠ some b)
    (o : Obj) (hg : (w2.alloc o).grownBy w3 kv.ownBlock) :
    StG w3 F g m N ∧ w3.ownsRow w.heap.size 3 1 rv k (R.map (Value.int .i64)) ∧ w3.heap[aub]? = some (.cells #[.int .i64 (n : Int), .slice none 0 0, .slice none 0 0, .slice none 0 0] 48 (0, 0)) ∧ Below w.heap.size w w3 ∧
      ∀ (i : Nat) (l' : List Nat), (K ++ [l])[i]? = some l' → ∃ b' c', (vs ++ [.slice (some ⟨b, 0, none⟩) (2 ^ n) c])[i]? = some (.slice (some ⟨b', 0, none⟩) (2 ^ n) c') ∧ w3.ownsRow w.heap.size 3 1 (.slice (some ⟨b', 0, none⟩) (2 ^ n) c') (2 ^ n) (lzV l') ∧ rv.ownBlock ≠ some b' ∧ b' < w3.heap.size := by
  have hb1 := below_new w2 o
  have hva := owns_up hvs hb1
  have hvl : vs.length = k := by have := hvs.1; omega
  have gz : ∀ {base size kk : Nat} {v : Value} {xs : List Value}, w2.ownsRow base 3 size v kk xs → w3.ownsRow base 3 size v kk xs := fun hh => own_grown (owns_up hh hb1) hg (fun b hb e => own_apart hva (owns_up hh hb1) (by decide) b e hb)
  refine ⟨(hS.up hb1).grown hva (by decide) (by decide) hg, gz h.refs, ?_, ?_, fun i l' hi => ?_⟩
  · have ha := (hb1.block _ (Array.getElem?_eq_some_iff.1 h.au).1).trans h.au
    refine (hg.block aub (Array.getElem?_eq_some_iff.1 ha).1 (fun e => ?_)).trans ha
    obtain ⟨cs, hc⟩ := own_block hva e.symm
    rw [ha] at hc; injection hc with hc; injection hc with _ hc _; exact absurd hc (by decide)
  · exact (below_step h.bel hb1).grown hg (below_step h.bel hb1).size (own_ge hvs)
  · by_cases hik : i < K.length
    · rw [List.getElem?_append_left hik] at hi
      obtain ⟨b', c', e1, e2, e3⟩ := hrow i l' hi
      have e4 := gz e2
      exact ⟨b', c', by rw [List.getElem?_append_left (by omega)]; exact e1, e4, e3, (e4.lt b' rfl).2⟩
    · have hz : i = K.length := by
        have := (List.getElem?_eq_some_iff.1 hi).1
        simp at this; omega
      subst hz
      rw [List.getElem?_append_right (Nat.le_refl _)] at hi
      simp at hi
      subst hi
      have e4 := gz hl
      exact ⟨b, c, by rw [List.getElem?_append_right (by omega)]; simp [hvl, hk], e4, hne, (e4.lt b rfl).2⟩
/-- The references grow. -/
theorem bkR_refs {w w3 w4 : World} {F : Nat → Prop} {g n m : Nat} {N : List Gd} {K : List (List Nat)} {R : List Int} {rv kv' : Value} {k aub g7 c7 : Nat} {vs : List Value} (hS : StG w3 F g m N) (hr : w3.ownsRow w.heap.size 3 1 rv k (R.map (Value.int .i64))) (hau : w3.heap[aub]? = some (.cells #[.int .i64 (n : Int), .slice none 0 0, .slice none 0 0, .slice none 0 0] 48 (0, 0))) (haul : w.heap.size ≤ aub) (hb : Below w.heap.size w w3)
    (hk : w3.ownsRow w.heap.size 30 1 kv' (k + 1) vs) (hrow : ∀ (i : Nat) (l' : List Nat), K[i]? = some l' → ∃ b' c', vs[i]? = some (.slice (some ⟨b', 0, none⟩) (2 ^ n) c') ∧ w3.ownsRow w.heap.size 3 1 (.slice (some ⟨b', 0, none⟩) (2 ^ n) c') (2 ^ n) (lzV l') ∧ rv.ownBlock ≠ some b' ∧ b' < w3.heap.size)
    (o : Obj) (r : Int) (hown : w4.ownsRow w.heap.size 3 1 (.slice (some ⟨g7, 0, none⟩) (k + 1) c7) (k + 1) ((R ++ [r]).map (Value.int .i64))) (hg : (w3.alloc o).grownBy w4 rv.ownBlock) (hl : rv.ownBlock = some g7 ∨ g7 = (w3.alloc o).heap.size) :
    StG w4 F g m N ∧ BkR w w4 n K (R ++ [r]) kv' (.slice (some ⟨g7, 0, none⟩) (k + 1) c7) (k + 1) aub := by
  have hb1 := below_new w3 o
  have hra := owns_up hr hb1
  refine ⟨(hS.up hb1).grown hra (by decide) (by decide) hg, ⟨⟨vs, own_grown (owns_up hk hb1) hg (fun b hb' e => own_apart hra (owns_up hk hb1) (by decide) b e hb'), fun i l' hi => ?_⟩, hown, ?_, haul, ?_⟩⟩
  · obtain ⟨b', c', e1, e2, e3, e4⟩ := hrow i l' hi
    refine ⟨b', c', e1, own_grown (owns_up e2 hb1) hg (fun b hb' e => ?_), fun e => ?_⟩
    · injection hb' with hb'
      dsimp only at hb'
      subst hb'
      exact e3 e
    · injection e with e
      dsimp only at e
      subst e
      rcases hl with h | h
      · exact e3 h
      · simp at h; omega
  · have ha := (hb1.block _ (Array.getElem?_eq_some_iff.1 hau).1).trans hau
    refine (hg.block aub (Array.getElem?_eq_some_iff.1 ha).1 (fun e => ?_)).trans ha
    obtain ⟨cs, hc⟩ := own_block hra e.symm
    rw [ha] at hc; injection hc with hc; injection hc with _ hc _; exact absurd hc (by decide)
  · exact (below_step hb hb1).grown hg (below_step hb hb1).size (own_ge hr)
/-- What the first loop keeps. -/
structure BkL (w wr : World) (g n : Nat) (F : Nat → Prop) (N : List Gd) (K : List (List Nat)) (R : List Int) (kv rv : Value) (k aub : Nat) : Prop where
  st : StG wr F g n N
  nf : ∀ b, F b → w.heap.size ≤ b
  bk : BkG n 12 N K R
  kl : K.length = k
  mem : BkR w wr n K R kv rv k aub
theorem BkL.few {w wr : World} {g n : Nat} {F : Nat → Prop} {N : List Gd} {K : List (List Nat)} {R : List Int} {kv rv : Value} {k aub : Nat} (h : BkL w wr g n F N K R kv rv k aub) (hn : n ≤ 5) (hk : k ≤ 12) : N.length ≤ 384 := by
  have h1 := h.bk.few
  have h2 : 2 ^ n ≤ 2 ^ 5 := Nat.pow_le_pow_right (by decide) hn
  have h3 : K.length * 2 ^ n ≤ 12 * 32 := Nat.mul_le_mul (by rw [h.kl]; exact hk) h2
  omega
/-- What Add answers to a list of small numbers. -/
theorem addG_small {n : Nat} {N : List Gd} {l : List Nat} (hl : l.length = 2 ^ n) (h12 : ∀ v ∈ l, v < 12) {r : Int} {N' : List Gd} (e : adM n 0 (fnL l) N = (r, N')) (hN : N'.length ≤ 4096) : addG n N (l.map Int.ofNat) = ((r, 0), N') := by
  have hb : (l.map Int.ofNat).map Int.toNat = l := by rw [List.map_map]; exact (List.map_congr_left (g := id) fun v _ => by simp).trans (List.map_id l)
  rw [addG_ok (r := r) (N' := N') (by simpa using hl) (fun v hv => ?_) (by rw [hb]; exact e), if_neg (by omega)]
  obtain ⟨u, hu, rfl⟩ := List.mem_map.1 hv
  have := h12 u hu
  simp; omega
end Go.Proofs.Ytmnkkknkmbldhaa
