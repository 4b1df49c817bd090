/- Texts of the proof, put together: what it uses. -/
import Derived.Test.YtcnkgokfjafgkaaX08
import Derived.Test.YtcnkgokfjafgkaaX09
import Derived.Test.YtcnkgokfjafgkaaX11
import Derived.Test.YtcnkgokfjafgkaaX12
set_option maxRecDepth 100000
set_option maxHeartbeats 16000000
namespace Go.Proofs.Ytcnkgokfjafgkaa
open Go.RowKit Go.Maps
def izV (l : List Nat) : List Value := (l.map Int.ofNat).map (Value.int .i64)
theorem q1B (l : List Nat) : (izV l).length = l.length := by simp [izV]
def BwM (w : World) (g S : Nat) (B : List (List (Nat × Nat))) : Prop := ∃ cur,w.heap[g]? = some (.cells cur 91 (0,0)) ∧ ∀ s,s < S → ∃ a cap,cur[s]? = some (.slice a (B.getD s []).length cap) ∧ (0 < (B.getD s []).length → ∃ gi cu,a = some ⟨gi,0,none⟩ ∧ w.heap[gi]? = some (.cells cu 93 (0,0)) ∧ ∀ (k : Nat) (x : Nat × Nat),(B.getD s [])[k]? = some x → cu[2 * k]? = some (.int .i32 (x.1 : Int)) ∧ cu[2 * k + 1]? = some (.int .u8 (x.2 : Int)))
def NoW (w : World) (F : Nat → Prop) : Prop := ∀ k,F k → ∀ cs,w.heap[k]? ≠ some (.cells cs 91 (0,0)) ∧ w.heap[k]? ≠ some (.cells cs 93 (0,0))
theorem BwM.fr {w w' : World} {F F' : Nat → Prop} {g S : Nat} {B : List (List (Nat × Nat))} (h : BwM w g S B) (hf : Fr w w' F F') (hz : NoW w F) : BwM w' g S B := by
 obtain ⟨cur,h1,h2⟩ := h
 refine ⟨cur,(hf.keep g (Array.getElem?_eq_some_iff.1 h1).1 (fun e => (hz g e cur).1 h1)).trans h1,fun s hs => ?_⟩
 obtain ⟨a,cap,h3,h4⟩ := h2 s hs
 refine ⟨a,cap,h3,fun hp => ?_⟩
 obtain ⟨gi,cu,h5,h6,h7⟩ := h4 hp
 exact ⟨gi,cu,h5,(hf.keep gi (Array.getElem?_eq_some_iff.1 h6).1 (fun e => (hz gi e cu).2 h6)).trans h6,h7⟩
theorem BwM.up {w w' : World} {g S : Nat} {B : List (List (Nat × Nat))} (h : BwM w g S B) (hb : Below w.heap.size w w') : BwM w' g S B :=
 h.fr (F := fun _ => False) (F' := fun _ => False) (Fr.ofBelow hb) (fun _ hk => hk.elim)
structure PgD where
 w0 : World
 b : Nat
 go : Nat
 S : Nat
 gB : Nat
 cB : Nat
 B : List (List (Nat × Nat))
def pgO (D : PgD) (vi vw vq : Value) : Obj := .cells #[.slice (some ⟨D.gB,0,none⟩) D.S D.cB,.slice (some ⟨D.go,0,none⟩) D.S D.S,vi,vw,vq] 96 (0,0)
def LsB (w : World) (go : Nat) (vq : Value) (a : Option Addr) (l : List Nat) : Prop := 0 < l.length → ∃ g cu,a = some ⟨g,0,none⟩ ∧ w.heap[g]? = some (.cells cu 3 (0,0)) ∧ g ≠ go ∧ vq.ownBlock ≠ some g ∧ ∀ i,i < l.length → cu[i]? = some (.int .i64 ((l.getD i 0 : Nat) : Int))
def PgF (D : PgD) (vi vw vq : Value) (k : Nat) : Prop := k = D.b ∨ k = D.go ∨ vi.ownBlock = some k ∨ vw.ownBlock = some k ∨ vq.ownBlock = some k
structure PgW (D : PgD) (w : World) (vi vw vq : Value) (vs : List Value) (of : List Nat) (ins : List (List Nat)) (ws : List Bool) (qu : List Nat) : Prop where
 bel : Below D.w0.heap.size D.w0 w
 ge : ∀ k,PgF D vi vw vq k → D.w0.heap.size ≤ k
 fo : IzB w D.go (of.map Int.ofNat)
 ol : of.length = D.S
 bk : BwM w D.gB D.S D.B
 blk : w.heap[D.b]? = some (pgO D vi vw vq)
 fi : w.ownsRow 0 23 1 vi ins.length vs
 fw : w.ownsRow 0 4 1 vw ws.length (ws.map Value.bool)
 fq : w.ownsRow 0 3 1 vq qu.length (izV qu)
 qo : vq.ownBlock ≠ some D.go
 ls : ∀ c,c < ins.length → ∃ a cap,vs[c]? = some (.slice a (ins.getD c []).length cap) ∧ LsB w D.go vq a (ins.getD c [])
variable {D : PgD} {w : World} {vi vw vq : Value} {vs : List Value} {of : List Nat} {ins : List (List Nat)} {ws : List Bool} {qu : List Nat}
theorem PgW.lt (h : PgW D w vi vw vq vs of ins ws qu) : ∀ k,PgF D vi vw vq k → k < w.heap.size := fun k hk => by
 rcases hk with rfl | rfl | hk | hk | hk
 ·exact (Array.getElem?_eq_some_iff.1 h.blk).1
 ·exact h.fo.lt
 ·exact (h.fi.lt k hk).2
 ·exact (h.fw.lt k hk).2
 ·exact (h.fq.lt k hk).2
theorem PgW.noW (h : PgW D w vi vw vq vs of ins ws qu) : NoW w (PgF D vi vw vq) := fun k hk cs => by
 have key : ∀ {cs' : Array Value} {e : TypeId},w.heap[k]? = some (.cells cs' e (0,0)) → e ≠ 91 → e ≠ 93 → w.heap[k]? ≠ some (.cells cs 91 (0,0)) ∧ w.heap[k]? ≠ some (.cells cs 93 (0,0)) := fun {cs' e} h1 h2 h3 => by
  rw [h1]
  exact ⟨fun e => by injection e with e; injection e with _ e _; exact h2 e,fun e => by injection e with e; injection e with _ e _; exact h3 e⟩
 rcases hk with rfl | rfl | hk | hk | hk
 ·exact key h.blk (by decide) (by decide)
 ·exact key h.fo (by decide) (by decide)
 ·obtain ⟨_,hc⟩ := qx h.fi hk; exact key hc (by decide) (by decide)
 ·obtain ⟨_,hc⟩ := qx h.fw hk; exact key hc (by decide) (by decide)
 ·obtain ⟨_,hc⟩ := qx h.fq hk; exact key hc (by decide) (by decide)
theorem PgW.far (h : PgW D w vi vw vq vs of ins ws qu) {w' : World} {G G' : Nat → Prop} (hf : Fr w w' G G') (hG : ∀ k,G k → ¬ PgF D vi vw vq k ∧ (∀ cs,w.heap[k]? ≠ some (.cells cs 3 (0,0))) ∧ (∀ cs,w.heap[k]? ≠ some (.cells cs 91 (0,0)) ∧ w.heap[k]? ≠ some (.cells cs 93 (0,0))) ∧ D.w0.heap.size ≤ k) : PgW D w' vi vw vq vs of ins ws qu := by
 have kp : ∀ k,PgF D vi vw vq k → w'.heap[k]? = w.heap[k]? := fun k hk => hf.keep k (h.lt k hk) (fun e => (hG k e).1 hk)
 refine ⟨h.bel.trans (hf.below (fun k hk => (hG k hk).2.2.2) h.bel.size),h.ge,(kp _ (.inr (.inl rfl))).trans h.fo,h.ol,h.bk.fr hf (fun k hk => (hG k hk).2.2.1),(kp _ (.inl rfl)).trans h.blk,qb h.fi (fun k hk => kp k (.inr (.inr (.inl hk)))),qb h.fw (fun k hk => kp k (.inr (.inr (.inr (.inl hk))))),qb h.fq (fun k hk => kp k (.inr (.inr (.inr (.inr hk))))),h.qo,fun c hc => ?_⟩
 obtain ⟨a,cap,h1,h2⟩ := h.ls c hc
 refine ⟨a,cap,h1,fun hp => ?_⟩
 obtain ⟨g,cu,h3,h4,h5⟩ := h2 hp
 exact ⟨g,cu,h3,(hf.keep g (Array.getElem?_eq_some_iff.1 h4).1 (fun e => (hG g e).2.1 cu h4)).trans h4,h5⟩
theorem PgW.up (h : PgW D w vi vw vq vs of ins ws qu) {w' : World} (hb : Below w.heap.size w w') : PgW D w' vi vw vq vs of ins ws qu :=
 h.far (G := fun _ => False) (G' := fun _ => False) (Fr.ofBelow hb) (fun _ hk => hk.elim)
theorem LsB.cell {go : Nat} {a : Option Addr} {l : List Nat} (h : LsB w go vq a l) {i : Nat} (hi : i < l.length) : ∃ g,a = some ⟨g,0,none⟩ ∧ w.cell? ⟨g,i,none⟩ = some (.int .i64 ((l.getD i 0 : Nat) : Int)) := by
 obtain ⟨g,cu,h1,h2,_,_,h3⟩ := h (by omega)
 exact ⟨g,h1,by rw [q6 h2]; exact h3 i hi⟩
theorem PgW.c (h : PgW D w vi vw vq vs of ins ws qu) : w.cell? ⟨D.b,0,none⟩ = some (.slice (some ⟨D.gB,0,none⟩) D.S D.cB) ∧ w.cell? ⟨D.b,1,none⟩ = some (.slice (some ⟨D.go,0,none⟩) D.S D.S) ∧ w.cell? ⟨D.b,2,none⟩ = some vi ∧ w.cell? ⟨D.b,3,none⟩ = some vw ∧ w.cell? ⟨D.b,4,none⟩ = some vq ∧ ∀ i,w.frozen? ⟨D.b,i,none⟩ = false :=
 ⟨q6 h.blk 0,q6 h.blk 1,q6 h.blk 2,q6 h.blk 3,q6 h.blk 4,fun i => frozen_of_row w _ i _ _ h.blk⟩
theorem PgW.nb (h : PgW D w vi vw vq vs of ins ws qu) : D.go ≠ D.b ∧ vi.ownBlock ≠ some D.b ∧ vw.ownBlock ≠ some D.b ∧ vq.ownBlock ≠ some D.b ∧ vi.ownBlock ≠ some D.go ∧ vw.ownBlock ≠ some D.go := by
 refine ⟨fun e => ?_,q13 h.fi h.blk (fun cs e => by unfold pgO at e; injection e with _ e _; exact absurd e (by decide)),q13 h.fw h.blk (fun cs e => by unfold pgO at e; injection e with _ e _; exact absurd e (by decide)),q13 h.fq h.blk (fun cs e => by unfold pgO at e; injection e with _ e _; exact absurd e (by decide)),q13 h.fi h.fo (fun cs e => by injection e with _ e _; exact absurd e (by decide)),q13 h.fw h.fo (fun cs e => by injection e with _ e _; exact absurd e (by decide))⟩
 have h1 := h.fo
 unfold IzB at h1
 rw [e,h.blk] at h1
 injection h1 with h1
 unfold pgO at h1
 injection h1 with _ h1 _
 exact absurd h1 (by decide)
theorem qE {e1 e2 s1 s2 b1 b2 n1 n2 : Nat} {v1 v2 : Value} {x1 x2 : List Value} (h1 : w.ownsRow b1 e1 s1 v1 n1 x1) (h2 : w.ownsRow b2 e2 s2 v2 n2 x2) (hne : e1 ≠ e2) {k : Nat} (hk : v1.ownBlock = some k) : v2.ownBlock ≠ some k := fun hk2 => by
 obtain ⟨_,c1⟩ := qx h1 hk
 obtain ⟨_,c2⟩ := qx h2 hk2
 rw [c1] at c2
 injection c2 with c2
 injection c2 with _ c2 _
 exact hne c2
theorem PgW.setOf (h : PgW D w vi vw vq vs of ins ws qu) (s n : Nat) : PgW D (w.setCell ⟨D.go,s,none⟩ (.int .i64 (n : Int))) vi vw vq vs (of.set s n) ins ws qu ∧ Fr w (w.setCell ⟨D.go,s,none⟩ (.int .i64 (n : Int))) (PgF D vi vw vq) (PgF D vi vw vq) := by
 have ne : ∀ k,k ≠ D.go → (w.setCell ⟨D.go,s,none⟩ (.int .i64 (n : Int))).heap[k]? = w.heap[k]? := fun k hk => Below.heap_setCell _ _ _ _ (by dsimp only; exact hk)
 obtain ⟨n1,n2,n3,n4,n5,n6⟩ := h.nb
 have hfr : Fr w (w.setCell ⟨D.go,s,none⟩ (.int .i64 (n : Int))) (PgF D vi vw vq) (PgF D vi vw vq) := ⟨rfl,rfl,rfl,by simp,fun k hk hn => ne k (fun e => hn (.inr (.inl e))),fun k hk => .inl hk⟩
 refine ⟨⟨h.bel.trans (hfr.below h.ge h.bel.size),h.ge,?_,by rw [List.length_set]; exact h.ol,h.bk.fr hfr h.noW,(ne _ (Ne.symm n1)).trans h.blk,qb h.fi (fun k hk => ne k (fun e => n5 (e ▸ hk))),qb h.fw (fun k hk => ne k (fun e => n6 (e ▸ hk))),qb h.fq (fun k hk => ne k (fun e => h.qo (e ▸ hk))),h.qo,fun c hc => ?_⟩,hfr⟩
 ·have := h.fo.set s (n : Int)
  rw [List.map_set]; exact this
 ·obtain ⟨a,cap,h1,h2⟩ := h.ls c hc
  refine ⟨a,cap,h1,fun hp => ?_⟩
  obtain ⟨g,cu,h3,h4,h5,h6⟩ := h2 hp
  exact ⟨g,cu,h3,(ne g h5).trans h4,h5,h6⟩
theorem PgW.setW (h : PgW D w vi vw vq vs of ins ws qu) {c : Nat} (hc : c < ws.length) (y : Bool) : ∃ g cap,vw = .slice (some ⟨g,0,none⟩) ws.length cap ∧ w.cell? ⟨g,c,none⟩ = some (.bool (ws.getD c false)) ∧ w.frozen? ⟨g,c,none⟩ = false ∧ PgW D (w.setCell ⟨g,c,none⟩ (.bool y)) vi vw vq vs of ins (ws.set c y) qu ∧ Fr w (w.setCell ⟨g,c,none⟩ (.bool y)) (PgF D vi vw vq) (PgF D vi vw vq) := by
 obtain ⟨g,cap,rfl,_,_,hcv,hfv,hown⟩ := q2q h.fw hc (.bool y)
 obtain ⟨n1,n2,n3,n4,n5,n6⟩ := h.nb
 have ne : ∀ k,k ≠ g → (w.setCell ⟨g,c,none⟩ (.bool y)).heap[k]? = w.heap[k]? := fun k hk => Below.heap_setCell _ _ _ _ (by dsimp only; exact hk)
 have hfr : Fr w (w.setCell ⟨g,c,none⟩ (.bool y)) (PgF D vi (.slice (some ⟨g,0,none⟩) ws.length cap) vq) (PgF D vi (.slice (some ⟨g,0,none⟩) ws.length cap) vq) := ⟨rfl,rfl,rfl,by simp,fun k hk hn => ne k (fun e => hn (.inr (.inr (.inr (.inl (by rw [e]; rfl)))))),fun k hk => .inl hk⟩
 have hgt : ∃ cs,w.heap[g]? = some (.cells cs 4 (0,0)) := qx h.fw rfl
 obtain ⟨cs,hgt⟩ := hgt
 refine ⟨g,cap,rfl,?_,hfv,⟨h.bel.trans (hfr.below h.ge h.bel.size),h.ge,(ne _ (fun e => n6 (by rw [e]; rfl))).trans h.fo,h.ol,h.bk.fr hfr h.noW,(ne _ (fun e => n3 (by rw [e]; rfl))).trans h.blk,qb h.fi (fun k hk => ne k (fun e => qE h.fi h.fw (by decide) hk (by rw [e]; rfl))),?_,qb h.fq (fun k hk => ne k (fun e => qE h.fq h.fw (by decide) hk (by rw [e]; rfl))),h.qo,fun d hd => ?_⟩,hfr⟩
 ·rw [hcv,List.getElem?_map,List.getElem?_eq_getElem hc,List.getD_eq_getElem?_getD,List.getElem?_eq_getElem hc]; rfl
 ·rw [List.length_set,List.map_set]; exact hown
 ·obtain ⟨a,cap',h1,h2⟩ := h.ls d hd
  refine ⟨a,cap',h1,fun hp => ?_⟩
  obtain ⟨g',cu,h3,h4,h5,h6⟩ := h2 hp
  refine ⟨g',cu,h3,(ne g' (fun e => ?_)).trans h4,h5,h6⟩
  rw [e,hgt] at h4
  injection h4 with h4
  injection h4 with _ h4 _
  exact absurd h4 (by decide)
theorem qO {ops : Array Oper} {rest : List Oper} {o : Oper} {a : Act} {Q : Exit → Act → World → Prop} (hgd : o.guard = none) (s x : Operand)
  (ho : o.op = .call { callee := .builtin .append,args := #[s,x],argTypes := #[23,23] }) (base : Nat)
  (v : Value) (n : Nat) (zs : List Nat) (hs : a.eval s = v) (hown : w.ownsRow base 3 1 v n (izV zs)) (g' z : Nat) (hx : a.eval x = .slice (some ⟨g',0,none⟩) 1 1) (hc : w.cell? ⟨g',0,none⟩ = some (.int .i64 (z : Int)))
  (hn : n + 1 ≤ 2000000) (hbase : base ≤ w.heap.size)
  (h : ∀ g c w',w'.ownsRow base 3 1 (.slice (some ⟨g,0,none⟩) (n + 1) c) (n + 1) (izV (zs ++ [z])) → w.grownBy w' v.ownBlock → (v.ownBlock = some g ∨ g = w.heap.size) → wpList Try.prog ops Q rest (a.put o.dst (.slice (some ⟨g,0,none⟩) (n + 1) c)) w') : wpList Try.prog ops Q (o :: rest) a w := by
 have hI : (Try.prog.info? 3).map (fun i => (i.zero,i.size,i.bytes)) = some (some (.int .i64 0),1,8) := by kernel_rfl
 obtain ⟨i,hi,hz0,hz1,hz2⟩ := info_parts hI
 refine wpList_append_lies w hgd s x 23 ho base 3 i _ 1 8 Try.underlying23 hi hz0 hz1 hz2 rfl (by decide) v n _ hs hown ⟨g',0,none⟩ 1 1 [.int .i64 (z : Int)] hx rfl ?_ (fun u hu => by simp at hu; subst hu; rfl) (by decide) (by unfold maxLen; omega) (by omega) hbase _ rfl ?_
 ·intro j u hj
  match j with
  | 0 => simp at hj; rw [← hj,q9]; exact hc
  | j + 1 => simp at hj
 ·intro g c w' h1 h2 h3 _
  exact h g c w' (by rw [izV,List.map_append,List.map_append]; exact h1) h2 h3
theorem q4T {ops : Array Oper} {rest : List Oper} {o : Oper} {a : Act} {Q : Exit → Act → World → Prop} (hgd : o.guard = none) (s x : Operand)
  (ho : o.op = .call { callee := .builtin .append,args := #[s,x],argTypes := #[22,22] }) (base : Nat)
  (v : Value) (n : Nat) (zs : List Bool) (hs : a.eval s = v) (hown : w.ownsRow base 4 1 v n (zs.map Value.bool)) (g' : Nat) (z : Bool) (hx : a.eval x = .slice (some ⟨g',0,none⟩) 1 1) (hc : w.cell? ⟨g',0,none⟩ = some (.bool z))
  (hn : n + 1 ≤ 2000000) (hbase : base ≤ w.heap.size)
  (h : ∀ g c w',w'.ownsRow base 4 1 (.slice (some ⟨g,0,none⟩) (n + 1) c) (n + 1) ((zs ++ [z]).map Value.bool) → w.grownBy w' v.ownBlock → (v.ownBlock = some g ∨ g = w.heap.size) → wpList Try.prog ops Q rest (a.put o.dst (.slice (some ⟨g,0,none⟩) (n + 1) c)) w') : wpList Try.prog ops Q (o :: rest) a w := by
 have hI : (Try.prog.info? 4).map (fun i => (i.zero,i.size,i.bytes)) = some (some (.bool false),1,1) := by kernel_rfl
 obtain ⟨i,hi,hz0,hz1,hz2⟩ := info_parts hI
 refine wpList_append_lies w hgd s x 22 ho base 4 i _ 1 1 Try.underlying22 hi hz0 hz1 hz2 rfl (by decide) v n _ hs hown ⟨g',0,none⟩ 1 1 [.bool z] hx rfl ?_ (fun u hu => by simp at hu; subst hu; rfl) (by decide) (by unfold maxLen; omega) (by omega) hbase _ rfl ?_
 ·intro j u hj
  match j with
  | 0 => simp at hj; rw [← hj,q9]; exact hc
  | j + 1 => simp at hj
 ·intro g c w' h1 h2 h3 _
  exact h g c w' (by rw [List.map_append]; exact h1) h2 h3
theorem qt {w5 : World} {o : Obj} {v : Value} (hg : (w.alloc o).grownBy w5 v.ownBlock) {k : Nat} (hk : k < w.heap.size) (hne : v.ownBlock ≠ some k) : w5.heap[k]? = w.heap[k]? :=
 (hg.block k (by simp; omega) (fun e => hne e.symm)).trans ((q5 w o).block k hk)
theorem PgW.addQ (h : PgW D w vi vw vq vs of ins ws qu) {o : Obj} {w5 : World} {g c x : Nat} (ho : w5.ownsRow 0 3 1 (.slice (some ⟨g,0,none⟩) (qu.length + 1) c) (qu.length + 1) (izV (qu ++ [x]))) (hg : (w.alloc o).grownBy w5 vq.ownBlock) (hl : vq.ownBlock = some g ∨ g = (w.alloc o).heap.size) :
  w5.heap[D.b]? = some (pgO D vi vw vq) ∧ PgW D (w5.setCell ⟨D.b,4,none⟩ (.slice (some ⟨g,0,none⟩) (qu.length + 1) c)) vi vw (.slice (some ⟨g,0,none⟩) (qu.length + 1) c) vs of ins ws (qu ++ [x]) ∧ Fr w (w5.setCell ⟨D.b,4,none⟩ (.slice (some ⟨g,0,none⟩) (qu.length + 1) c)) (PgF D vi vw vq) (PgF D vi vw (.slice (some ⟨g,0,none⟩) (qu.length + 1) c)) := by
 obtain ⟨n1,n2,n3,n4,n5,n6⟩ := h.nb
 have hz : (w.alloc o).heap.size = w.heap.size + 1 := by simp
 have hs5 := hg.size
 have hlt := h.lt
 have gl : g ≠ D.b ∧ g ≠ D.go ∧ ∀ k,k < w.heap.size → vq.ownBlock ≠ some k → g ≠ k := by
  refine ⟨fun e => ?_,fun e => ?_,fun k hk hne e => ?_⟩
  ·rcases hl with hl | hl
   ·exact n4 (e ▸ hl)
   ·have := hlt D.b (.inl rfl); omega
  ·rcases hl with hl | hl
   ·exact h.qo (e ▸ hl)
   ·have := hlt D.go (.inr (.inl rfl)); omega
  ·rcases hl with hl | hl
   ·exact hne (e ▸ hl)
   ·omega
 have ne : ∀ k,k < w.heap.size → k ≠ D.b → vq.ownBlock ≠ some k → (w5.setCell ⟨D.b,4,none⟩ (.slice (some ⟨g,0,none⟩) (qu.length + 1) c)).heap[k]? = w.heap[k]? := fun k hk hb hq => (Below.heap_setCell _ _ _ _ (by dsimp only; exact hb)).trans (qt hg hk hq)
 have hb5 := (qt hg (hlt D.b (.inl rfl)) n4).trans h.blk
 have hfr : Fr w (w5.setCell ⟨D.b,4,none⟩ (.slice (some ⟨g,0,none⟩) (qu.length + 1) c)) (PgF D vi vw vq) (PgF D vi vw (.slice (some ⟨g,0,none⟩) (qu.length + 1) c)) := by
  refine ⟨hg.os,hg.tape,hg.output,by simp; omega,fun k hk hn => ne k hk (fun e => hn (.inl e)) (fun e => hn (.inr (.inr (.inr (.inr e))))),fun k hk => ?_⟩
  rcases hk with hk | hk | hk | hk | hk
  ·exact .inl (.inl hk)
  ·exact .inl (.inr (.inl hk))
  ·exact .inl (.inr (.inr (.inl hk)))
  ·exact .inl (.inr (.inr (.inr (.inl hk))))
  ·have e : g = k := by injection hk
   subst e
   rcases hl with hl | hl
   ·exact .inl (.inr (.inr (.inr (.inr hl))))
   ·right; omega
 refine ⟨hb5,⟨h.bel.trans (hfr.below h.ge h.bel.size),hfr.ge h.ge h.bel.size,(ne _ (hlt _ (.inr (.inl rfl))) n1 h.qo).trans h.fo,h.ol,h.bk.fr hfr h.noW,?_,qb h.fi (fun k hk => ne k (h.fi.lt k hk).2 (fun e => n2 (e ▸ hk)) (qE h.fi h.fq (by decide) hk)),qb h.fw (fun k hk => ne k (h.fw.lt k hk).2 (fun e => n3 (e ▸ hk)) (qE h.fw h.fq (by decide) hk)),?_,fun e => gl.2.1 (by injection e),fun d hd => ?_⟩,hfr⟩
 ·unfold pgO at hb5 ⊢
  rw [heap_setCell_same w5 D.b 4 _ _ _ hb5]; rfl
 ·rw [List.length_append,List.length_singleton]
  exact qb ho fun k hk => Below.heap_setCell _ _ _ _ (by dsimp only; intro e; injection hk with hk; exact gl.1 (hk.trans e))
 ·obtain ⟨a,cap,h1,h2⟩ := h.ls d hd
  refine ⟨a,cap,h1,fun hp => ?_⟩
  obtain ⟨g',cu,h3,h4,h5,h6,h7⟩ := h2 hp
  have hl' := (Array.getElem?_eq_some_iff.1 h4).1
  refine ⟨g',cu,h3,(ne g' hl' (fun e => ?_) h6).trans h4,h5,fun e => gl.2.2 g' hl' h6 (by injection e),h7⟩
  rw [e,h.blk] at h4
  injection h4 with h4
  unfold pgO at h4
  injection h4 with _ h4 _
  exact absurd h4 (by decide)
def PgR (D : PgD) (w : World) (vi vw vq : Value) (of : List Nat) (ins : List (List Nat)) (ws : List Bool) (qu : List Nat) (w' : World) : Prop := ∃ vi' vw' vq' vs',PgW D w' vi' vw' vq' vs' of ins ws qu ∧ Fr w w' (PgF D vi vw vq) (PgF D vi' vw' vq')
theorem q2O (h : PgW D w vi vw vq vs of ins ws qu) {c : Nat} (hc : c < ws.length) (hq : qu.length ≤ 100000) :
  Calls Try.prog 89 #[.pointer (some ⟨D.b,0,none⟩),.int .i64 (c : Int)] w fun e w' => e = .returned (.tuple #[]) ∧ PgR D w vi vw vq of ins (ws.set c true) (qu ++ [c]) w' := by
 obtain ⟨_,_,_,c3,_,_⟩ := h.c
 obtain ⟨gw,cw,rfl,cc,fc,h1,hf1⟩ := h.setW hc true
 obtain ⟨_,_,_,_,c4,fz⟩ := h1.c
 have ixw := fun w' => qw (P := Try.prog) (T := 22) Try.underlying22 q1i (a := some ⟨gw,0,none⟩) (cap := cw) (n := ws.length) (fun e => by cases e) c w' hc
 simp only [adOf,q9,Nat.zero_add] at ixw
 have H1 : Hid _ := h1
 have HF1 : Hid _ := hf1
 have fz4 := fz 4
 obtain ⟨qa,qc,rfl⟩ := qe h1.fq
 have hO := World.ownsRow.alloc h1.fq (.cells #[.int .i64 (c : Int)] 3)
 have hcl : ((w.setCell ⟨gw,c,none⟩ (.bool true)).alloc (.cells #[.int .i64 (c : Int)] 3)).cell? ⟨(w.setCell ⟨gw,c,none⟩ (.bool true)).heap.size,0,none⟩ = some (.int .i64 (c : Int)) := q6 (MapKept.heap_alloc _ _).1 0
 clear h h1 hf1 fz
 generalize ws.length = nw at *
 generalize hW : w.setCell ⟨gw,c,none⟩ (.bool true) = w1 at *
 have HW : Hid _ := hW
 clear hW
 go_enter Try.func89,Try.ntmps89
 go_wp2_with (first | (rw [HW.out]) | (at_builtin; refine qO rfl _ _ rfl 0 _ qu.length qu rfl hO w1.heap.size c rfl hcl (by omega) (Nat.zero_le _) ?_))
 intro g5 c5 w5 hown hgr hloc
 obtain ⟨hb5,hp,hf⟩ := H1.out.addQ hown hgr (hloc.imp id (fun e => by simpa using e))
 have k4 : w5.cell? ⟨D.b,4,none⟩ = some (.slice qa qu.length qc) := q6 hb5 4
 have z4 : w5.frozen? ⟨D.b,4,none⟩ = false := frozen_of_row w5 _ 4 _ _ hb5
 have HE : Hid _ := (⟨_,_,_,_,hp,HF1.out.trans hf⟩ : PgR D w _ _ _ _ _ _ _ _)
 clear hown hgr hloc hb5 hp hf H1 HF1 hO hcl
 go_wp2
 go_end0
 exact ⟨rfl,HE.out⟩
variable {D : PgD} {w : World} {vi vw vq : Value} {vs : List Value} {of : List Nat} {ins : List (List Nat)} {ws : List Bool} {qu : List Nat}
theorem PgW.notF (h : PgW D w vi vw vq vs of ins ws qu) {g : Nat} {cu : Array Value} (h1 : w.heap[g]? = some (.cells cu 3 (0,0))) (h2 : g ≠ D.go) (h3 : vq.ownBlock ≠ some g) : ¬ PgF D vi vw vq g := fun hk => by
 rcases hk with e | e | e | e | e
 ·rw [e,h.blk] at h1
  injection h1 with h1
  unfold pgO at h1
  injection h1 with _ h1 _
  exact absurd h1 (by decide)
 ·exact h2 e
 ·obtain ⟨_,hc⟩ := qx h.fi e
  rw [h1] at hc
  injection hc with hc
  injection hc with _ hc _
  exact absurd hc (by decide)
 ·obtain ⟨_,hc⟩ := qx h.fw e
  rw [h1] at hc
  injection hc with hc
  injection hc with _ hc _
  exact absurd hc (by decide)
 ·exact h3 e
theorem LsB.fr (h : PgW D w vi vw vq vs of ins ws qu) {a : Option Addr} {l : List Nat} (hl : LsB w D.go vq a l) {w' : World} {vi' vw' vq' : Value} (hf : Fr w w' (PgF D vi vw vq) (PgF D vi' vw' vq')) : LsB w' D.go vq' a l := fun hp => by
 obtain ⟨g,cu,h1,h2,h3,h4,h5⟩ := hl hp
 have hn := h.notF h2 h3 h4
 have hlt := (Array.getElem?_eq_some_iff.1 h2).1
 have hn' := hf.out hn hlt
 exact ⟨g,cu,h1,(hf.keep g hlt hn).trans h2,fun e => hn' (.inr (.inl e)),fun e => hn' (.inr (.inr (.inr (.inr e)))),h5⟩
theorem q2j {base n cap go : Nat} {a : Option Addr} {l : List Nat} (h : w.ownsRow base 3 1 (.slice a n cap) n (izV l)) (hgo : go < base) (hq : ∀ k,vq.ownBlock = some k → k < base) : LsB w go vq a l := fun hp => by
 have hn : n = l.length := by have := h.1; rw [q1B] at this; omega
 rcases h.2 with ⟨_,h0⟩ | ⟨g,cap',cur,e,hg,hcell,hnc,hcm,hsz,htk⟩
 ·omega
 ·injection e with e _ _
  refine ⟨g,cur,e,hcell,by omega,fun e => by have := hq g e; omega,fun i hi => ?_⟩
  have h1 : (cur.toList.take (n * 1))[i]? = (izV l)[i]? := by rw [htk]
  rw [List.getElem?_take,if_pos (by omega),izV,List.getElem?_map,List.getElem?_map,List.getElem?_eq_getElem (l := l) hi] at h1
  rw [List.getD_eq_getElem?_getD,List.getElem?_eq_getElem hi]
  simpa using h1
theorem PgW.ql (h : PgW D w vi vw vq vs of ins ws qu) : ∀ k,vq.ownBlock = some k → k < w.heap.size := fun k hk => h.lt k (.inr (.inr (.inr (.inr hk))))
theorem PgW.setIn (h : PgW D w vi vw vq vs of ins ws qu) {c : Nat} (hc : c < ins.length) {a : Option Addr} (cap : Nat) {l : List Nat} (hL : LsB w D.go vq a l) : ∃ g ci x,vi = .slice (some ⟨g,0,none⟩) ins.length ci ∧ w.cell? ⟨g,c,none⟩ = some x ∧ w.frozen? ⟨g,c,none⟩ = false ∧ PgW D (w.setCell ⟨g,c,none⟩ (.slice a l.length cap)) vi vw vq (vs.set c (.slice a l.length cap)) of (ins.set c l) ws qu ∧ Fr w (w.setCell ⟨g,c,none⟩ (.slice a l.length cap)) (PgF D vi vw vq) (PgF D vi vw vq) := by
 obtain ⟨g,ci,rfl,_,_,hcv,hfv,hown⟩ := q2q h.fi hc (.slice a l.length cap)
 obtain ⟨n1,n2,n3,n4,n5,n6⟩ := h.nb
 obtain ⟨cs,hgt⟩ : ∃ cs,w.heap[g]? = some (.cells cs 23 (0,0)) := qx h.fi rfl
 have hvl : vs.length = ins.length := by have := h.fi.1; omega
 have ne : ∀ k,k ≠ g → (w.setCell ⟨g,c,none⟩ (.slice a l.length cap)).heap[k]? = w.heap[k]? := fun k hk => Below.heap_setCell _ _ _ _ (by dsimp only; exact hk)
 have nei : ∀ {g' : Nat} {cu : Array Value},w.heap[g']? = some (.cells cu 3 (0,0)) → g' ≠ g := fun {g' cu} h4 e => by
  rw [e,hgt] at h4
  injection h4 with h4
  injection h4 with _ h4 _
  exact absurd h4 (by decide)
 have hfr : Fr w (w.setCell ⟨g,c,none⟩ (.slice a l.length cap)) (PgF D (.slice (some ⟨g,0,none⟩) ins.length ci) vw vq) (PgF D (.slice (some ⟨g,0,none⟩) ins.length ci) vw vq) := ⟨rfl,rfl,rfl,by simp,fun k hk hn => ne k (fun e => hn (.inr (.inr (.inl (by rw [e]; rfl))))),fun k hk => .inl hk⟩
 refine ⟨g,ci,_,rfl,hcv.trans (List.getElem?_eq_getElem (by omega)),hfv,⟨h.bel.trans (hfr.below h.ge h.bel.size),h.ge,(ne _ (fun e => n5 (by rw [e]; rfl))).trans h.fo,h.ol,h.bk.fr hfr h.noW,(ne _ (fun e => n2 (by rw [e]; rfl))).trans h.blk,?_,qb h.fw (fun k hk => ne k (fun e => qE h.fw h.fi (by decide) hk (by rw [e]; rfl))),qb h.fq (fun k hk => ne k (fun e => qE h.fq h.fi (by decide) hk (by rw [e]; rfl))),h.qo,fun d hd => ?_⟩,hfr⟩
 ·rw [List.length_set]; exact hown
 ·rw [List.length_set] at hd
  have up : ∀ {a' : Option Addr} {l' : List Nat},LsB w D.go vq a' l' → LsB (w.setCell ⟨g,c,none⟩ (.slice a l.length cap)) D.go vq a' l' := fun {a' l'} hl hp => by
   obtain ⟨g',cu,h3,h4,h5⟩ := hl hp
   exact ⟨g',cu,h3,(ne g' (nei h4)).trans h4,h5⟩
  by_cases e : d = c
  ·subst e
   refine ⟨a,cap,?_,?_⟩
   ·rw [List.getElem?_set,if_pos rfl,if_pos (by omega),qs _ _ _ _ _ hc,if_pos rfl]
   ·rw [qs _ _ _ _ _ hc,if_pos rfl]; exact up hL
  ·obtain ⟨a',cap',h1,h2⟩ := h.ls d hd
   refine ⟨a',cap',?_,?_⟩
   ·rw [List.getElem?_set,if_neg (fun e' => e e'.symm),qs _ _ _ _ _ hc,if_neg e]; exact h1
   ·rw [qs _ _ _ _ _ hc,if_neg e]; exact up h2
theorem PgW.addIn (h : PgW D w vi vw vq vs of ins ws qu) {o : Obj} {w5 : World} {g c : Nat} {a : Option Addr} {cap : Nat} {l : List Nat} (hL : LsB w D.go vq a l) (ho : w5.ownsRow 0 23 1 (.slice (some ⟨g,0,none⟩) (ins.length + 1) c) (ins.length + 1) (vs ++ [.slice a l.length cap])) (hg : (w.alloc o).grownBy w5 vi.ownBlock) (hl : vi.ownBlock = some g ∨ g = (w.alloc o).heap.size) :
  w5.heap[D.b]? = some (pgO D vi vw vq) ∧ PgW D (w5.setCell ⟨D.b,2,none⟩ (.slice (some ⟨g,0,none⟩) (ins.length + 1) c)) (.slice (some ⟨g,0,none⟩) (ins.length + 1) c) vw vq (vs ++ [.slice a l.length cap]) of (ins ++ [l]) ws qu ∧ Fr w (w5.setCell ⟨D.b,2,none⟩ (.slice (some ⟨g,0,none⟩) (ins.length + 1) c)) (PgF D vi vw vq) (PgF D (.slice (some ⟨g,0,none⟩) (ins.length + 1) c) vw vq) := by
 obtain ⟨n1,n2,n3,n4,n5,n6⟩ := h.nb
 have hz : (w.alloc o).heap.size = w.heap.size + 1 := by simp
 have hs5 := hg.size
 have hlt := h.lt
 have hvl : vs.length = ins.length := by have := h.fi.1; omega
 have gb : g ≠ D.b := fun e => by
  rcases hl with hl | hl
  ·exact n2 (e ▸ hl)
  ·have := hlt D.b (.inl rfl); omega
 have ne : ∀ k,k < w.heap.size → k ≠ D.b → vi.ownBlock ≠ some k → (w5.setCell ⟨D.b,2,none⟩ (.slice (some ⟨g,0,none⟩) (ins.length + 1) c)).heap[k]? = w.heap[k]? := fun k hk hb hq => (Below.heap_setCell _ _ _ _ (by dsimp only; exact hb)).trans (qt hg hk hq)
 have hb5 := (qt hg (hlt D.b (.inl rfl)) n2).trans h.blk
 have hfr : Fr w (w5.setCell ⟨D.b,2,none⟩ (.slice (some ⟨g,0,none⟩) (ins.length + 1) c)) (PgF D vi vw vq) (PgF D (.slice (some ⟨g,0,none⟩) (ins.length + 1) c) vw vq) := by
  refine ⟨hg.os,hg.tape,hg.output,by simp; omega,fun k hk hn => ne k hk (fun e => hn (.inl e)) (fun e => hn (.inr (.inr (.inl e)))),fun k hk => ?_⟩
  rcases hk with hk | hk | hk | hk | hk
  ·exact .inl (.inl hk)
  ·exact .inl (.inr (.inl hk))
  ·have e : g = k := by injection hk
   subst e
   rcases hl with hl | hl
   ·exact .inl (.inr (.inr (.inl hl)))
   ·right; omega
  ·exact .inl (.inr (.inr (.inr (.inl hk))))
  ·exact .inl (.inr (.inr (.inr (.inr hk))))
 have up : ∀ {a' : Option Addr} {l' : List Nat},LsB w D.go vq a' l' → LsB (w5.setCell ⟨D.b,2,none⟩ (.slice (some ⟨g,0,none⟩) (ins.length + 1) c)) D.go vq a' l' := fun {a' l'} hl' => LsB.fr (vi' := .slice (some ⟨g,0,none⟩) (ins.length + 1) c) (vw' := vw) h hl' hfr
 refine ⟨hb5,⟨h.bel.trans (hfr.below h.ge h.bel.size),hfr.ge h.ge h.bel.size,(ne _ (hlt _ (.inr (.inl rfl))) n1 n5).trans h.fo,h.ol,h.bk.fr hfr h.noW,?_,?_,qb h.fw (fun k hk => ne k (h.fw.lt k hk).2 (fun e => n3 (e ▸ hk)) (qE h.fw h.fi (by decide) hk)),qb h.fq (fun k hk => ne k (h.fq.lt k hk).2 (fun e => n4 (e ▸ hk)) (qE h.fq h.fi (by decide) hk)),h.qo,fun d hd => ?_⟩,hfr⟩
 ·unfold pgO at hb5 ⊢
  rw [heap_setCell_same w5 D.b 2 _ _ _ hb5]; rfl
 ·rw [List.length_append,List.length_singleton]
  exact qb ho fun k hk => Below.heap_setCell _ _ _ _ (by dsimp only; intro e; injection hk with hk; exact gb (hk.trans e))
 ·rw [List.length_append,List.length_singleton] at hd
  rw [q1a]
  by_cases e : d = ins.length
  ·rw [if_pos e]
   refine ⟨a,cap,?_,up hL⟩
   rw [e,List.getElem?_append_right (by omega),hvl]; simp
  ·rw [if_neg e]
   obtain ⟨a',cap',h1,h2⟩ := h.ls d (by omega)
   exact ⟨a',cap',by rw [List.getElem?_append_left (by omega)]; exact h1,up h2⟩
theorem PgW.addW (h : PgW D w vi vw vq vs of ins ws qu) {o : Obj} {w5 : World} {g c : Nat} {y : Bool} (ho : w5.ownsRow 0 4 1 (.slice (some ⟨g,0,none⟩) (ws.length + 1) c) (ws.length + 1) ((ws ++ [y]).map Value.bool)) (hg : (w.alloc o).grownBy w5 vw.ownBlock) (hl : vw.ownBlock = some g ∨ g = (w.alloc o).heap.size) :
  w5.heap[D.b]? = some (pgO D vi vw vq) ∧ PgW D (w5.setCell ⟨D.b,3,none⟩ (.slice (some ⟨g,0,none⟩) (ws.length + 1) c)) vi (.slice (some ⟨g,0,none⟩) (ws.length + 1) c) vq vs of ins (ws ++ [y]) qu ∧ Fr w (w5.setCell ⟨D.b,3,none⟩ (.slice (some ⟨g,0,none⟩) (ws.length + 1) c)) (PgF D vi vw vq) (PgF D vi (.slice (some ⟨g,0,none⟩) (ws.length + 1) c) vq) := by
 obtain ⟨n1,n2,n3,n4,n5,n6⟩ := h.nb
 have hz : (w.alloc o).heap.size = w.heap.size + 1 := by simp
 have hs5 := hg.size
 have hlt := h.lt
 have gb : g ≠ D.b := fun e => by
  rcases hl with hl | hl
  ·exact n3 (e ▸ hl)
  ·have := hlt D.b (.inl rfl); omega
 have ne : ∀ k,k < w.heap.size → k ≠ D.b → vw.ownBlock ≠ some k → (w5.setCell ⟨D.b,3,none⟩ (.slice (some ⟨g,0,none⟩) (ws.length + 1) c)).heap[k]? = w.heap[k]? := fun k hk hb hq => (Below.heap_setCell _ _ _ _ (by dsimp only; exact hb)).trans (qt hg hk hq)
 have hb5 := (qt hg (hlt D.b (.inl rfl)) n3).trans h.blk
 have hfr : Fr w (w5.setCell ⟨D.b,3,none⟩ (.slice (some ⟨g,0,none⟩) (ws.length + 1) c)) (PgF D vi vw vq) (PgF D vi (.slice (some ⟨g,0,none⟩) (ws.length + 1) c) vq) := by
  refine ⟨hg.os,hg.tape,hg.output,by simp; omega,fun k hk hn => ne k hk (fun e => hn (.inl e)) (fun e => hn (.inr (.inr (.inr (.inl e))))),fun k hk => ?_⟩
  rcases hk with hk | hk | hk | hk | hk
  ·exact .inl (.inl hk)
  ·exact .inl (.inr (.inl hk))
  ·exact .inl (.inr (.inr (.inl hk)))
  ·have e : g = k := by injection hk
   subst e
   rcases hl with hl | hl
   ·exact .inl (.inr (.inr (.inr (.inl hl))))
   ·right; omega
  ·exact .inl (.inr (.inr (.inr (.inr hk))))
 refine ⟨hb5,⟨h.bel.trans (hfr.below h.ge h.bel.size),hfr.ge h.ge h.bel.size,(ne _ (hlt _ (.inr (.inl rfl))) n1 n6).trans h.fo,h.ol,h.bk.fr hfr h.noW,?_,qb h.fi (fun k hk => ne k (h.fi.lt k hk).2 (fun e => n2 (e ▸ hk)) (qE h.fi h.fw (by decide) hk)),?_,qb h.fq (fun k hk => ne k (h.fq.lt k hk).2 (fun e => n4 (e ▸ hk)) (qE h.fq h.fw (by decide) hk)),h.qo,fun d hd => ?_⟩,hfr⟩
 ·unfold pgO at hb5 ⊢
  rw [heap_setCell_same w5 D.b 3 _ _ _ hb5]; rfl
 ·rw [List.length_append,List.length_singleton]
  exact qb ho fun k hk => Below.heap_setCell _ _ _ _ (by dsimp only; intro e; injection hk with hk; exact gb (hk.trans e))
 ·obtain ⟨a',cap',h1,h2⟩ := h.ls d hd
  exact ⟨a',cap',h1,LsB.fr (vi' := vi) (vw' := .slice (some ⟨g,0,none⟩) (ws.length + 1) c) h h2 hfr⟩
variable {D : PgD} {w : World} {vi vw vq : Value} {vs : List Value} {of : List Nat} {ins : List (List Nat)} {ws : List Bool} {qu : List Nat}
theorem PgW.ofc (h : PgW D w vi vw vq vs of ins ws qu) {s : Nat} (hs : s < D.S) : w.cell? ⟨D.go,s,none⟩ = some (.int .i64 ((of.getD s 0 : Nat) : Int)) ∧ w.frozen? ⟨D.go,s,none⟩ = false := by
 have hl : s < of.length := by rw [h.ol]; exact hs
 have := h.fo.cell (i := s) (by rw [List.length_map]; exact hl)
 rw [qC hl] at this
 exact ⟨this,h.fo.fz s⟩
theorem PgW.inc (h : PgW D w vi vw vq vs of ins ws qu) {c : Nat} (hc : c < ins.length) : ∃ g ci a cap,vi = .slice (some ⟨g,0,none⟩) ins.length ci ∧ w.cell? ⟨g,c,none⟩ = some (.slice a (ins.getD c []).length cap) ∧ LsB w D.go vq a (ins.getD c []) := by
 obtain ⟨a,cap,h1,h2⟩ := h.ls c hc
 rcases h.fi.2 with ⟨_,h0⟩ | ⟨g,ci,cur,rfl,_,hcell,_,_,_,htk⟩
 ·omega
 ·refine ⟨g,ci,a,cap,rfl,?_,h2⟩
  rw [← htk,List.getElem?_take,if_pos (by omega)] at h1
  simp [World.cell?,hcell]
  simpa using h1
structure SpL (w1 wr : World) (v9 v10 : Value) (st lv : List Nat) : Prop where
 bel : Below w1.heap.size w1 wr
 o9 : wr.ownsRow w1.heap.size 3 1 v9 st.length (izV st)
 o10 : wr.ownsRow w1.heap.size 3 1 v10 lv.length (izV lv)
 ne : ∀ k,v9.ownBlock = some k → v10.ownBlock ≠ some k
theorem SpL.sym {w1 wr : World} {v9 v10 : Value} {st lv : List Nat} (h : SpL w1 wr v9 v10 st lv) : SpL w1 wr v10 v9 lv st := ⟨h.bel,h.o10,h.o9,fun k h1 h2 => h.ne k h2 h1⟩
theorem SpL.put {w1 wr w5 : World} {v9 v10 : Value} {st lv : List Nat} (h : SpL w1 wr v9 v10 st lv) {o : Obj} {g c x : Nat} (ho : w5.ownsRow w1.heap.size 3 1 (.slice (some ⟨g,0,none⟩) (st.length + 1) c) (st.length + 1) (izV (st ++ [x]))) (hg : (wr.alloc o).grownBy w5 v9.ownBlock) (hl : v9.ownBlock = some g ∨ g = (wr.alloc o).heap.size) : SpL w1 w5 (.slice (some ⟨g,0,none⟩) (st.length + 1) c) v10 (st ++ [x]) lv := by
 have hb := q7 h.bel (q5 wr o)
 have hge := qp h.o9
 refine ⟨hb.grown hg hb.size (fun k e => hge k e),by rw [List.length_append,List.length_singleton]; exact ho,qb (World.ownsRow.alloc h.o10 o) (fun k hk => ?_),fun k hk hk2 => ?_⟩
 ·have hlt := (h.o10.lt k hk).2
  exact hg.block k (by simp; omega) (fun e => h.ne k e.symm hk)
 ·have e : g = k := by injection hk
  subst e
  rcases hl with hl | hl
  ·exact h.ne g hl hk2
  ·have := (h.o10.lt g hk2).2
   simp at hl; omega
theorem q8d {of' : List Nat} {c : Nat} {l : List Nat} {k : Nat} (hk : k < l.length) : styH of' c (l.take (k + 1)) = if of'.getD (l.getD k 0) 0 = c then styH of' c (l.take k) ++ [l.getD k 0] else styH of' c (l.take k) := by
 rw [qD hk,styH,List.filter_append,styH]
 by_cases e : of'.getD (l.getD k 0) 0 = c
 ·rw [if_pos e]; simp [-List.getD_eq_getElem?_getD,e]
 ·rw [if_neg e]; simp [-List.getD_eq_getElem?_getD,e]
theorem q8N {of' : List Nat} {c : Nat} {l : List Nat} {k : Nat} (hk : k < l.length) : lvH of' c (l.take (k + 1)) = if of'.getD (l.getD k 0) 0 = c then lvH of' c (l.take k) else lvH of' c (l.take k) ++ [l.getD k 0] := by
 rw [qD hk,lvH,List.filter_append,lvH]
 by_cases e : of'.getD (l.getD k 0) 0 = c
 ·rw [if_pos e]; simp [-List.getD_eq_getElem?_getD,e]
 ·rw [if_neg e]; simp [-List.getD_eq_getElem?_getD,e]
def SplR (D : PgD) (w : World) (vi vw vq : Value) (of : List Nat) (ins : List (List Nat)) (ws : List Bool) (qu X : List Nat) (c : Nat) (e : Ending) (w' : World) : Prop :=
 e = .returned (.tuple #[]) ∧ ∃ ge,(ws.getD c false = true → ge = true) ∧ PgR D w vi vw vq (sofH of X c ins.length) (spiH (sofH of X c ins.length) c ins) (swH ws c ge) (qu ++ [if ge then ins.length else c]) w'
theorem q5a (h : PgW D w vi vw vq vs of ins ws qu) (c : Nat) (hc : c < ins.length) (hwl : ws.length = ins.length) (a : Option Addr) (capX : Nat) (X : List Nat) (hX : LsB w D.go vq a X) (hXs : ∀ x ∈ X,x < D.S) (hXl : X.length ≤ 100000) (hil : ins.length ≤ 100000) (hql : qu.length ≤ 100000) (hm : ∀ s ∈ ins.getD c [],s < D.S) (hll : (ins.getD c []).length ≤ 100000) :
  Calls Try.prog 76 #[.pointer (some ⟨D.b,0,none⟩),.int .i64 (c : Int),.slice a X.length capX] w (SplR D w vi vw vq of ins ws qu X c) := by
 obtain ⟨Z,eZ⟩ : ∃ Z,Z = SplR D w vi vw vq of ins ws qu X c := ⟨_,rfl⟩
 have HZ : Hid (∀ w' ge,(ws.getD c false = true → ge = true) → PgR D w vi vw vq (sofH of X c ins.length) (spiH (sofH of X c ins.length) c ins) (swH ws c ge) (qu ++ [if ge then ins.length else c]) w' → Z (.returned (.tuple #[])) w') := fun w' ge h1 h2 => by rw [eZ]; exact ⟨rfl,ge,h1,h2⟩
 rw [← eZ]
 clear eZ
 obtain ⟨ia,ic,rfl⟩ := qe h.fi
 obtain ⟨_,_,c2,_,_,_⟩ := h.c
 have H0 : Hid _ := h
 have HX : Hid (LsB w D.go vq a X) := hX
 have HXS : Hid _ := hXs
 have HM : Hid _ := hm
 have HWL : Hid _ := hwl
 clear h hX hXs hm hwl
 generalize hn : ins.length = n at *
 have HN : Hid _ := hn
 clear hn
 generalize hXX : X.length = L at *
 have HXX : Hid _ := hXX
 clear hXX
 go_enter Try.func76,Try.ntmps76
 go_wp2
 clear c2
 go_loopw [20] (fun i wr => ∃ k : Nat,k ≤ L ∧ i = .int .i64 (k : Int) ∧ Hid (PgW D wr (.slice ia n ic) vw vq vs (sofH of (X.take k) c n) ins ws qu) ∧ Hid (Fr w wr (PgF D (.slice ia n ic) vw vq) (PgF D (.slice ia n ic) vw vq))) (fun i _ => L - (intOf i).toNat)
 case atStart => exact ⟨0,Nat.zero_le _,rfl,H0,Fr.ofBelow (Below.refl _ _)⟩
 case round =>
  obtain ⟨k,hk,rfl,HP,HF⟩ := hrel
  by_cases hlt : k < L
  ·obtain ⟨gx,rfl,cx⟩ := LsB.cell (LsB.fr H0.out HX.out HF.out) (i := k) (by rw [HXX.out]; exact hlt)
   have ixx := fun w' => qg gx L capX k hlt w'
   have hxm : X.getD k 0 ∈ X := by rw [qd (by rw [HXX.out]; exact hlt)]; exact List.getElem_mem _
   have hxs := HXS.out _ hxm
   have hsn := q8a of (X.take k) c n (X.getD k 0)
   rw [← qD (by rw [HXX.out]; exact hlt)] at hsn
   have HSN : Hid _ := hsn
   clear hxm hsn
   generalize X.getD k 0 = x at *
   obtain ⟨co,fo⟩ := HP.out.ofc hxs
   obtain ⟨_,c1,_,_,_,_⟩ := HP.out.c
   have ixo := fun w' => qg D.go D.S D.S x hxs w'
   obtain ⟨hset,hfs⟩ := HP.out.setOf x n
   have HSE : Hid _ := hset
   have HSF : Hid _ := hfs
   clear hset hfs
   generalize hv : (sofH of (X.take k) c n).getD x 0 = v at *
   have HV : Hid _ := hv
   clear hv
   by_cases e : v = c
   ·subst e
    have HP2 : Hid (PgW D (wr.setCell ⟨D.go,x,none⟩ (.int .i64 (n : Int))) (.slice ia n ic) vw vq vs (sofH of (X.take (k + 1)) v n) ins ws qu) := by
     show PgW _ _ _ _ _ _ _ _ _ _
     rw [HSN.out,if_pos rfl]; exact HSE.out
    have HF2 : Hid _ := HF.out.trans HSF.out
    clear HP HF HSE HSF HSN HV
    go_wp2
    go_roundw
    case rel => exact ⟨k + 1,by omega,by go_num,HP2,HF2⟩
    case measure => simp [intOf]; omega
   ·have hne : ((v : Int) == (c : Int)) = false := by simp; omega
    have HP2 : Hid (PgW D wr (.slice ia n ic) vw vq vs (sofH of (X.take (k + 1)) c n) ins ws qu) := by
     show PgW _ _ _ _ _ _ _ _ _ _
     rw [HSN.out,if_neg e]; exact HP.out
    clear HP HSE HSF HSN HV
    go_wp2
    go_roundw
    case rel => exact ⟨k + 1,by omega,by go_num,HP2,HF⟩
    case measure => simp [intOf]; omega
  ·obtain rfl : k = L := by omega
   rw [← HXX.out,List.take_length] at HP
   have HSO : Hid (sofH of X c n = sofH of X c n) := rfl
   generalize hso : sofH of X c n = of' at *
   clear HSO hso
   obtain ⟨gi,ci,la,lc,ei,ci2,hls⟩ := HP.out.inc (c := c) (by rw [HN.out]; exact hc)
   rw [HN.out] at ei
   injection ei with ei1 _ ei3
   subst ei1 ei3
   have HLS : Hid (LsB wr D.go vq la (ins.getD c [])) := hls
   have ixi := fun w' => qH gi n ic c hc w'
   obtain ⟨_,c1,c2,_,_,_⟩ := HP.out.c
   clear hls
   generalize hl : ins.getD c [] = l at *
   have HLL : Hid _ := hl
   clear hl
   generalize hlq : l.length = m at *
   have HLQ : Hid _ := hlq
   clear hlq
   go_wp2
   clear ixi ci2 c1 c2
   obtain ⟨w1,hw1⟩ : ∃ w1,w1 = wr := ⟨_,rfl⟩
   subst hw1
   go_loopw [9,10,49] (fun v9 v10 i wr => ∃ k : Nat,k ≤ m ∧ i = .int .i64 (k : Int) ∧ Hid (SpL w1 wr v9 v10 (styH of' c (l.take k)) (lvH of' c (l.take k)))) (fun _ _ i _ => m - (intOf i).toNat)
   case atStart => exact ⟨0,Nat.zero_le _,rfl,⟨Below.refl _ _,⟨rfl,.inl ⟨rfl,rfl⟩⟩,⟨rfl,.inl ⟨rfl,rfl⟩⟩,fun k hk => by cases hk⟩⟩
   case round =>
    obtain ⟨k,hk,rfl,HS⟩ := hrel
    obtain ⟨a9,k9,e9⟩ := qe HS.out.o9
    obtain ⟨a10,k10,e10⟩ := qe HS.out.o10
    subst e9 e10
    by_cases hlt2 : k < m
    ·have hk2 : k < l.length := by rw [HLQ.out]; exact hlt2
     obtain ⟨gx,rfl,cx⟩ := LsB.cell HLS.out (i := k) hk2
     have cx := q8 cx HS.out.bel
     have ixx := fun w' => qg gx m lc k hlt2 w'
     have hxm : l.getD k 0 ∈ l := by rw [qd hk2]; exact List.getElem_mem _
     have hxs := HM.out _ hxm
     have HS1 : Hid _ := q8d (of' := of') (c := c) hk2
     have HS2 : Hid _ := q8N (of' := of') (c := c) hk2
     clear hxm hk2
     generalize l.getD k 0 = x at *
     obtain ⟨co,_⟩ := (HP.out.up HS.out.bel).ofc hxs
     obtain ⟨_,c1,_,_,_,_⟩ := (HP.out.up HS.out.bel).c
     have ixo := fun w' => qg D.go D.S D.S x hxs w'
     have hcl : (wr.alloc (.cells #[.int .i64 (x : Int)] 3)).cell? ⟨wr.heap.size,0,none⟩ = some (.int .i64 (x : Int)) := q6 (MapKept.heap_alloc wr _).1 0
     have hsz : w1.heap.size ≤ (wr.alloc (.cells #[.int .i64 (x : Int)] 3)).heap.size := by have := HS.out.bel.size; simp; omega
     generalize of'.getD x 0 = v at *
     have hst : (styH of' c (l.take k)).length ≤ 100000 := by
      have h1 : (styH of' c (l.take k)).length ≤ (l.take k).length := List.length_filter_le _ _
      rw [List.length_take,HLQ.out] at h1; omega
     have hlv : (lvH of' c (l.take k)).length ≤ 100000 := by
      have h1 : (lvH of' c (l.take k)).length ≤ (l.take k).length := List.length_filter_le _ _
      rw [List.length_take,HLQ.out] at h1; omega
     by_cases e : v = c
     ·subst e
      rw [if_pos rfl] at HS1 HS2
      generalize styH of' v (l.take k) = st at *
      generalize lvH of' v (l.take k) = lv at *
      have hO := World.ownsRow.alloc HS.out.o9 (.cells #[.int .i64 (x : Int)] 3)
      generalize hsl : st.length = sl at *
      have HSL : Hid _ := hsl
      clear hsl
      go_wp2_with (at_builtin; refine qO rfl _ _ rfl w1.heap.size _ sl st rfl hO wr.heap.size x rfl hcl (by omega) hsz ?_)
      intro g5 c5 w5 hown hgr hloc
      have HS5 : Hid (SpL w1 w5 (.slice (some ⟨g5,0,none⟩) (sl + 1) c5) (.slice a10 lv.length k10) (styH of' v (l.take (k + 1))) (lvH of' v (l.take (k + 1)))) := by
       show SpL _ _ _ _ _ _
       rw [HS1.out,HS2.out,← HSL.out]
       have h1 := HS.out
       rw [← HSL.out] at h1 hgr hloc hown
       exact SpL.put h1 hown hgr (hloc.imp id (fun e => by simpa using e))
      clear hown hgr hloc hO hcl hsz HS1 HS2 cx co c1 HS
      go_wp2
      go_roundw
      case rel => exact ⟨k + 1,by omega,by go_num,HS5⟩
      case measure => simp [intOf]; omega
     ·have hne : ((v : Int) == (c : Int)) = false := by simp; omega
      rw [if_neg e] at HS1 HS2
      generalize styH of' c (l.take k) = st at *
      generalize lvH of' c (l.take k) = lv at *
      have hO := World.ownsRow.alloc HS.out.o10 (.cells #[.int .i64 (x : Int)] 3)
      generalize hsl : lv.length = sl at *
      have HSL : Hid _ := hsl
      clear hsl
      go_wp2_with (at_builtin; refine qO rfl _ _ rfl w1.heap.size _ sl lv rfl hO wr.heap.size x rfl hcl (by omega) hsz ?_)
      intro g5 c5 w5 hown hgr hloc
      have HS5 : Hid (SpL w1 w5 (.slice a9 st.length k9) (.slice (some ⟨g5,0,none⟩) (sl + 1) c5) (styH of' c (l.take (k + 1))) (lvH of' c (l.take (k + 1)))) := by
       show SpL _ _ _ _ _ _
       rw [HS1.out,HS2.out,← HSL.out]
       have h1 := HS.out
       rw [← HSL.out] at h1 hgr hloc hown
       exact (SpL.put h1.sym hown hgr (hloc.imp id (fun e => by simpa using e))).sym
      clear hown hgr hloc hO hcl hsz HS1 HS2 cx co c1 HS
      go_wp2
      go_roundw
      case rel => exact ⟨k + 1,by omega,by go_num,HS5⟩
      case measure => simp [intOf]; omega
    ·obtain rfl : k = m := by omega
     have htk : l.take k = l := by rw [← HLQ.out,List.take_length]
     rw [htk] at HS ⊢
     have hP1 := HP.out.up HS.out.bel
     have hgo := HP.out.lt D.go (.inr (.inl rfl))
     have hls9 : LsB wr D.go vq a9 (styH of' c l) := q2j HS.out.o9 hgo HP.out.ql
     have hls10 : LsB wr D.go vq a10 (lvH of' c l) := q2j HS.out.o10 hgo HP.out.ql
     have HSPI : Hid (spiH of' c ins = ins.set c (styH of' c l) ++ [lvH of' c l]) := by show _ = _; rw [spiH,HLL.out]
     have HF1 : Hid _ := HF.out.trans (Fr.ofBelow (F := PgF D (.slice (some ⟨gi,0,none⟩) n ic) vw vq) HS.out.bel)
     generalize styH of' c l = st at *
     generalize lvH of' c l = lv at *
     obtain ⟨g',ci',x0,e',cx0,fx0,hP2,hF2⟩ := hP1.setIn (c := c) (by rw [HN.out]; exact hc) k9 hls9
     rw [HN.out] at e'
     injection e' with e1 _ e3
     injection e1 with e1
     injection e1 with e1
     subst e1 e3
     obtain ⟨_,_,c2,_,_,_⟩ := hP1.c
     have hls2 := LsB.fr hP1 hls10 hF2
     have HP2 : Hid _ := hP2
     have HF2 : Hid _ := HF1.out.trans hF2
     have HLS2 : Hid (LsB (wr.setCell ⟨gi,c,none⟩ (.slice a9 st.length k9)) D.go vq a10 lv) := hls2
     have ixi := fun w' => qH gi n ic c hc w'
     obtain ⟨w2,hw2⟩ : ∃ w2,w2 = wr.setCell ⟨gi,c,none⟩ (.slice a9 st.length k9) := ⟨_,rfl⟩
     rw [← hw2] at HP2 HF2 HLS2
     have HW2 : Hid _ := hw2
     have hn2 : (ins.set c st).length = n := by rw [List.length_set,HN.out]
     obtain ⟨_,_,d2,_,_,_⟩ := HP2.out.c
     have hO := World.ownsRow.alloc HP2.out.fi (.cells #[.slice a10 lv.length k10] 23)
     rw [hn2] at hO
     have HN2 : Hid _ := hn2
     have hcl : (w2.alloc (.cells #[.slice a10 lv.length k10] 23)).cell? ⟨w2.heap.size,0,none⟩ = some (.slice a10 lv.length k10) := q6 (MapKept.heap_alloc w2 _).1 0
     clear hP1 hP2 hF2 hls9 hls10 hls2 hgo HS HF HF1 HP H0 HX HLS hw2 hn2
     generalize vs.set c (.slice a9 st.length k9) = vs2 at *
     go_wp2_with (first | (rw [← HW2.out]) | (at_builtin; refine q1j rfl _ _ rfl 0 _ n vs2 rfl hO w2.heap.size a10 lv.length k10 rfl hcl (by omega) (Nat.zero_le _) ?_))
     intro g5 c5 w5 hown hgr hloc
     rw [← HN2.out] at hown
     obtain ⟨hb5,hP5,hF5⟩ := HP2.out.addIn HLS2.out hown hgr (hloc.imp id (fun e => by simpa using e))
     rw [HN2.out,← HSPI.out] at hP5
     rw [HN2.out] at hF5
     have k2 : w5.cell? ⟨D.b,2,none⟩ = some (.slice (some ⟨gi,0,none⟩) n ic) := q6 hb5 2
     have z2 : w5.frozen? ⟨D.b,2,none⟩ = false := frozen_of_row w5 _ 2 _ _ hb5
     obtain ⟨w6,hw6⟩ : ∃ w6,w6 = w5.setCell ⟨D.b,2,none⟩ (.slice (some ⟨g5,0,none⟩) (n + 1) c5) := ⟨_,rfl⟩
     rw [← hw6] at hP5 hF5
     have HW6 : Hid _ := hw6
     have HF6 : Hid _ := HF2.out.trans hF5
     have HP6 : Hid _ := hP5
     obtain ⟨wa,wc,ewv⟩ := qe hP5.fw
     obtain ⟨_,_,_,d3,_,_⟩ := hP5.c
     have hO6 := World.ownsRow.alloc hP5.fw (.cells #[.bool false] 4)
     subst ewv
     have hcl6 : (w6.alloc (.cells #[.bool false] 4)).cell? ⟨w6.heap.size,0,none⟩ = some (.bool false) := q6 (MapKept.heap_alloc w6 _).1 0
     clear hown hgr hloc hb5 hP5 hF5 hO hcl HP2 HF2 HLS2 hw6 ixi c2 cx0 fx0 d2
     have hwn := HWL.out
     rw [hwn] at hO6 d3
     go_wp2_with (first | (rw [← HW6.out]) | (at_builtin; refine q4T rfl _ _ rfl 0 _ n ws rfl hO6 w6.heap.size false rfl hcl6 (by omega) (Nat.zero_le _) ?_))
     intro g7 c7 w7 hown hgr hloc
     rw [← hwn] at hown hgr hloc
     obtain ⟨hb7,hP7,hF7⟩ := HP6.out.addW (y := false) (by simpa using hown) hgr (hloc.imp id (fun e => by simpa using e))
     rw [hwn] at hP7 hF7 hb7
     have k3 : w7.cell? ⟨D.b,3,none⟩ = some (.slice wa n wc) := q6 hb7 3
     have z3 : w7.frozen? ⟨D.b,3,none⟩ = false := frozen_of_row w7 _ 3 _ _ hb7
     obtain ⟨w8,hw8⟩ : ∃ w8,w8 = w7.setCell ⟨D.b,3,none⟩ (.slice (some ⟨g7,0,none⟩) (n + 1) c7) := ⟨_,rfl⟩
     rw [← hw8] at hP7 hF7
     have HW8 : Hid _ := hw8
     have HF8 : Hid _ := HF6.out.trans (by rw [hwn]; exact hF7)
     have HP8 : Hid _ := hP7
     have ccw : w8.cell? ⟨g7,c,none⟩ = some (.bool (ws.getD c false)) := by
      obtain ⟨gw,cw,ew,ccw,_,_,_⟩ := hP7.setW (c := c) (by simp; omega) true
      injection ew with ew1 _ _
      injection ew1 with ew1
      injection ew1 with ew1
      subst ew1
      rw [q1a,if_neg (by omega)] at ccw
      exact ccw
     have d3' := hP7.c.2.2.2.1
     have ixw := fun w' => qw (P := Try.prog) (T := 22) Try.underlying22 q1i (a := some ⟨g7,0,none⟩) (cap := c7) (n := n + 1) (fun e => by cases e) c w' (by omega)
     simp only [adOf,q9,Nat.zero_add] at ixw
     have HFIN : Hid (∀ (ge : Bool) w',(ws.getD c false = true → ge = true) → PgR D w8 (.slice (some ⟨g5,0,none⟩) (n + 1) c5) (.slice (some ⟨g7,0,none⟩) (n + 1) c7) vq of' (spiH of' c ins) ((ws ++ [false]).set (if ge then n else c) true) (qu ++ [if ge then n else c]) w' → Z (.returned (.tuple #[])) w') := fun ge w' hge hR => by
      obtain ⟨vi',vw',vq',vs',h1,h2⟩ := hR
      refine HZ.out w' ge hge ⟨vi',vw',vq',vs',?_,HF8.out.trans h2⟩
      rw [swH,hwn]; exact h1
     have jn := q2O hP7 (c := n) (by simp; omega) hql
     have jc := q2O hP7 (c := c) (by simp; omega) hql
     clear hown hgr hloc hb7 hF7 hO6 hcl6 HP6 HF6 hw8 d3 k2 z2 hP7 HZ HF8 HP8 hwn
     generalize ws.getD c false = bw at *
     cases bw with
     | true =>
      go_wp2_with (rw [← HW8.out])
      refine jn.mono ?_
      rintro e w9 ⟨rfl,hR⟩
      have HE : Hid _ := HFIN.out true w9 (fun _ => rfl) hR
      clear hR HFIN jn jc
      go_wp2
      go_end0
      exact HE.out
     | false =>
      by_cases hle : lv.length ≤ st.length
      ·go_wp2_with (rw [← HW8.out])
       refine jn.mono ?_
       rintro e w9 ⟨rfl,hR⟩
       have HE : Hid _ := HFIN.out true w9 (fun _ => rfl) hR
       clear hR HFIN jn jc
       go_wp2
       go_end0
       exact HE.out
      ·go_wp2_with (rw [← HW8.out])
       refine jc.mono ?_
       rintro e w9 ⟨rfl,hR⟩
       have HE : Hid _ := HFIN.out false w9 (fun h => h) hR
       clear hR HFIN jn jc
       go_wp2
       go_end0
       exact HE.out
end Go.Proofs.Ytcnkgokfjafgkaa
