/- Texts of the proof, put together: what it uses. -/
import Derived.BigQuiet
import Derived.Lib.QuietBelow
import Derived.Test.YtjpggahiddhanaaY10
import Derived.Test.YtjpggahiddhanaaY12
set_option maxRecDepth 100000
set_option maxHeartbeats 16000000
namespace Go.Proofs.Ytjpggahiddhanaa
open Go.RowKit Go.Maps
def toK (ac fa : List Int) (n k : Nat) : List Nat := (List.range n).map fun s => if s < k then verW (ac.getD s 0) (fa.getD s 0) else 0
theorem q1y (ac fa : List Int) (n k : Nat) : (toK ac fa n k).length = n := by simp [toK]
theorem q3s (ac fa : List Int) (n : Nat) : toK ac fa n 0 = List.replicate n 0 := by
 apply List.ext_getElem?
 intro i
 by_cases h : i < n <;> simp [toK,h]
theorem q52 (ac fa : List Int) {n k : Nat} (h : k < n) : (toK ac fa n k).set k (verW (ac.getD k 0) (fa.getD k 0)) = toK ac fa n (k + 1) := by
 apply List.ext_getElem?
 intro i
 rw [List.getElem?_set]
 by_cases hi : i < n
 ·by_cases e : k = i
  ·subst e
   rw [if_pos rfl,if_pos (by rw [q1y]; exact h)]
   simp [toK,hi]
  ·rw [if_neg e]
   have e1 : (i < k) ↔ (i < k + 1) := by omega
   simp [toK,hi,e1]
 ·have e1 : (toK ac fa n (k + 1))[i]? = none := by simp [toK]; omega
  have e2 : (toK ac fa n k)[i]? = none := by simp [toK]; omega
  rw [e1,e2,if_neg (by omega)]
theorem q51 {ac fa : List Int} {n K : Nat} {R : List (List Nat)} {bs : List Bool} (h : SoA n K R (accT bs true) ac) (k : SoA n K R (accT bs false) fa) : TolL K R bs n (toK ac fa n n) := by
 refine ⟨q1y _ _ _ _,fun q hq => ?_⟩
 have : (toK ac fa n n).getD q 0 = verW (ac.getD q 0) (fa.getD q 0) := by simp [toK,List.getD_eq_getElem?_getD,hq]
 rw [this]
 exact h.told k hq
theorem q58 (n : Nat) : madeCells #[.int .u8 0] n = (vdV (List.replicate n 0)).toArray := by
 apply Array.ext_getElem?
 intro i
 by_cases h : i < n
 ·simp [madeCells,h,Nat.mod_one,vdV]
 ·simp [madeCells,h,vdV]
theorem q3Z (l : Nat) (hb : l ≤ 1000) (w : World) :
  (Instr.makeSlice 51 (.int .i64 (l : Int)) (.int .i64 (l : Int))).run Try.prog w = .ok (.slice (some ⟨w.heap.size,0,none⟩) l l) (w.alloc (.cells (vdV (List.replicate l 0)).toArray 59)) := by
 obtain ⟨i,hi,hz0,hz1,hz2⟩ := info_parts q3V
 have := run_make (P := Try.prog) w 51 59 i (.int .u8 0) Try.underlying51 hi hz0 .i64 .i64 (l : Int) (l : Int) (by omega) (by omega) (by rw [hz2]; omega) (by omega)
 rw [this,hz1,← q58]
 simp only [Int.toNat_natCast,Nat.mul_one]
 rfl
structure KnW (w : World) (base : Nat) (A : AuP) (vG vN vT vO : Value) : Prop where
 gd : w.ownsRow base 3 1 vG A.nA (A.gs.map (Value.int .i64))
 nd : w.ownsRow base 77 3 vN A.N.length (encGd A.N)
 td : ∃ us,w.ownsRow base 59 1 vT A.nA (vdV us) ∧ TolL A.K A.R A.bs A.nA us
 od : ∃ zs,w.ownsRow base 3 1 vO A.nA (zs.map (Value.int .i64)) ∧ SoA A.nA A.K A.R (accT A.bs true) zs
 ok : ∀ t ∈ A.N,GdOk t
def knB (vG vN vT vO : Value) (k : Nat) : Prop := vG.ownBlock = some k ∨ vN.ownBlock = some k ∨ vT.ownBlock = some k ∨ vO.ownBlock = some k
theorem KnW.far {w w' : World} {base : Nat} {A : AuP} {vG vN vT vO : Value} (h : KnW w base A vG vN vT vO) (hk : ∀ k,knB vG vN vT vO k → w'.heap[k]? = w.heap[k]?) : KnW w' base A vG vN vT vO := by
 obtain ⟨us,h3,h4⟩ := h.td
 obtain ⟨zs,h5,h6⟩ := h.od
 exact ⟨qf h.gd fun q hq => hk q (.inl hq),qf h.nd fun q hq => hk q (.inr (.inl hq)),⟨us,qf h3 fun q hq => hk q (.inr (.inr (.inl hq))),h4⟩,⟨zs,qf h5 fun q hq => hk q (.inr (.inr (.inr hq))),h6⟩,h.ok⟩
theorem KnW.lt {w : World} {base : Nat} {A : AuP} {vG vN vT vO : Value} (h : KnW w base A vG vN vT vO) : ∀ k,knB vG vN vT vO k → base ≤ k ∧ k < w.heap.size := by
 obtain ⟨us,h3,h4⟩ := h.td
 obtain ⟨zs,h5,h6⟩ := h.od
 rintro k (hk | hk | hk | hk)
 ·exact h.gd.lt k hk
 ·exact h.nd.lt k hk
 ·exact h3.lt k hk
 ·exact h5.lt k hk
theorem KnW.base {w : World} {base b : Nat} {A : AuP} {vG vN vT vO : Value} (h : KnW w base A vG vN vT vO) (hb : b ≤ base) : KnW w b A vG vN vT vO := by
 obtain ⟨us,h3,h4⟩ := h.td
 obtain ⟨zs,h5,h6⟩ := h.od
 exact ⟨qk h.gd hb,qk h.nd hb,⟨us,qk h3 hb,h4⟩,⟨zs,qk h5 hb,h6⟩,h.ok⟩
def KnoR (A : AuP) (w : World) (e : Ending) (w' : World) : Prop :=
 Below w.heap.size w w' ∧ ((¬ MayG A.p A.nA A.N A.gs ∧ e = .returned (.tuple #[.agg #[.int .i64 0,.slice none 0 0,.slice none 0 0,.slice none 0 0,.slice none 0 0],.int .i64 12])) ∨
  (MayG A.p A.nA A.N A.gs ∧ ∃ aG cG aN cN aT cT aO cO,e = .returned (.tuple #[.agg #[.int .i64 A.p,.slice aG A.nA cG,.slice aN A.N.length cN,.slice aT A.nA cT,.slice aO A.nA cO],.int .i64 0]) ∧ KnW w' w.heap.size A (.slice aG A.nA cG) (.slice aN A.N.length cN) (.slice aT A.nA cT) (.slice aO A.nA cO)))
abbrev kn0 : Obj := .cells #[.int .i64 0,.slice none 0 0,.slice none 0 0,.slice none 0 0,.slice none 0 0] 63 (0,0)
abbrev set5 (w : World) (b : Nat) (v0 v1 v2 v3 v4 : Value) : World := ((((w.setCell ⟨b,0,none⟩ v0).setCell ⟨b,1,none⟩ v1).setCell ⟨b,2,none⟩ v2).setCell ⟨b,3,none⟩ v3).setCell ⟨b,4,none⟩ v4
theorem q3p {w : World} {b : Nat} {u0 u1 u2 u3 u4 v0 v1 v2 v3 v4 : Value} {T : TypeId} (h : w.heap[b]? = some (.cells #[u0,u1,u2,u3,u4] T (0,0))) : (set5 w b v0 v1 v2 v3 v4).heap[b]? = some (.cells #[v0,v1,v2,v3,v4] T (0,0)) := by
 have h1 := heap_setCell_same _ b 0 _ _ v0 h
 have h2 := heap_setCell_same _ b 1 _ _ v1 h1
 have h3 := heap_setCell_same _ b 2 _ _ v2 h2
 have h4 := heap_setCell_same _ b 3 _ _ v3 h3
 exact heap_setCell_same _ b 4 _ _ v4 h4
theorem q4K {w : World} {b k : Nat} {v0 v1 v2 v3 v4 : Value} (h : k ≠ b) : (set5 w b v0 v1 v2 v3 v4).heap[k]? = w.heap[k]? := by
 rw [set5,Below.heap_setCell _ _ _ _ h,Below.heap_setCell _ _ _ _ h,Below.heap_setCell _ _ _ _ h,Below.heap_setCell _ _ _ _ h,Below.heap_setCell _ _ _ _ h]
theorem q23 {w0 w : World} {B b : Nat} {v0 v1 v2 v3 v4 : Value} (h : Below B w0 w) (hb : B ≤ b) : Below B w0 (set5 w b v0 v1 v2 v3 v4) :=
 ((((h.setCell (by dsimp only; exact hb) _).setCell (by dsimp only; exact hb) _).setCell (by dsimp only; exact hb) _).setCell (by dsimp only; exact hb) _).setCell (by dsimp only; exact hb) _
end Go.Proofs.Ytjpggahiddhanaa
namespace Go.Proofs.Ytjpggahiddhanaa
open Go.RowKit Go.Maps Go.Sort
structure KV where
 aG : Option Addr
 cG : Nat
 aN : Option Addr
 cN : Nat
 aT : Option Addr
 cT : Nat
 aO : Option Addr
 cO : Nat
abbrev KV.vG (V : KV) (A : AuP) : Value := .slice V.aG A.nA V.cG
abbrev KV.vN (V : KV) (A : AuP) : Value := .slice V.aN A.N.length V.cN
abbrev KV.vT (V : KV) (A : AuP) : Value := .slice V.aT A.nA V.cT
abbrev KV.vO (V : KV) (A : AuP) : Value := .slice V.aO A.nA V.cO
abbrev KV.val (V : KV) (A : AuP) : Value := .agg #[.int .i64 A.p,.slice V.aG A.nA V.cG,.slice V.aN A.N.length V.cN,.slice V.aT A.nA V.cT,.slice V.aO A.nA V.cO]
abbrev KV.bk (V : KV) (A : AuP) : Nat → Prop := knB (V.vG A) (V.vN A) (V.vT A) (V.vO A)
abbrev KnV (w : World) (b : Nat) (A : AuP) (V : KV) : Prop := KnW w b A (V.vG A) (V.vN A) (V.vT A) (V.vO A)
def stW (A : AuP) (ts : List Nat) : List Nat := (List.range (ts.length + 1)).map fun i => A.at (ts.take i)
theorem q2o (A : AuP) (ts : List Nat) : (stW A ts).length = ts.length + 1 := by simp [stW]
theorem q3q (A : AuP) (ts : List Nat) (l : Nat) : stW A (ts ++ [l]) = stW A ts ++ [A.at (ts ++ [l])] := by
 unfold stW
 rw [List.length_append,List.length_singleton,List.range_succ (n := ts.length + 1),List.map_append]
 congr 1
 ·refine List.map_congr_left fun i hi => ?_
  have := List.mem_range.1 hi
  rw [List.take_append_of_le_length (by omega)]
 ·simp only [List.map_cons,List.map_nil]
  rw [List.take_of_length_le (by simp)]
theorem q4L (A : AuP) (ts : List Nat) : (stW A ts).getD ts.length 0 = A.at ts := by
 simp [stW,List.getD_eq_getElem?_getD]
theorem AuP.at_lt {A : AuP} (hM : MayG A.p A.nA A.N A.gs) {ts : List Nat} (ht : ∀ x ∈ ts,x < A.K) : A.at ts < A.nA := by
 have hR := hM.rows (2 ^ A.p.toNat)
 have h1 := hM.s1
 unfold AuP.at AuP.R
 have key : ∀ (u : List Nat) (s : Nat),s < A.nA → (∀ x ∈ u,x < A.K) → runP (rwA A.p A.N A.gs) s u < A.nA := by
  intro u
  induction u with
  | nil => exact fun s hs _ => hs
  | cons l u ih =>
   intro s hs hu
   rw [q1s]
   exact ih _ (hR.lt s l hs (hu l (by simp))) fun x hx => hu x (by simp [hx])
 exact key ts 0 (by omega) ht
theorem AuP.at_snoc (A : AuP) (ts : List Nat) (l : Nat) : A.at (ts ++ [l]) = trP A.R (A.at ts) l := by
 unfold AuP.at; rw [qZ]
structure WaO (w : World) (g : Nat) (A : AuP) (ts : List Nat) (V : KV) (gS cS : Nat) : Prop where
 blk : w.heap[g]? = some (.cells #[.int .i64 A.p,.slice V.aG A.nA V.cG,.slice V.aN A.N.length V.cN,.slice V.aT A.nA V.cT,.slice V.aO A.nA V.cO,.pointer (some ⟨g,0,none⟩),.slice (some ⟨gS,0,none⟩) (ts.length + 1) cS] 65 (0,0))
 kn : KnV w 0 A V
 st : w.ownsRow 0 3 1 (.slice (some ⟨gS,0,none⟩) (ts.length + 1) cS) (ts.length + 1) (inV (stW A ts))
 nS : ¬ V.bk A gS
 ng : ¬ V.bk A g
 gs : g ≠ gS
 lt : ∀ x ∈ ts,x < A.K
 fw : ts.length ≤ 1024
 may : MayG A.p A.nA A.N A.gs
def moW (g gS : Nat) (k : Nat) : Prop := k = g ∨ k = gS
theorem WaO.glt {w : World} {g : Nat} {A : AuP} {ts : List Nat} {V : KV} {gS cS : Nat} (h : WaO w g A ts V gS cS) : g < w.heap.size := (Array.getElem?_eq_some_iff.1 h.blk).1
theorem WaO.slt {w : World} {g : Nat} {A : AuP} {ts : List Nat} {V : KV} {gS cS : Nat} (h : WaO w g A ts V gS cS) : gS < w.heap.size := (h.st.lt gS rfl).2
theorem WaO.far {w w' : World} {g : Nat} {A : AuP} {ts : List Nat} {V : KV} {gS cS : Nat} (h : WaO w g A ts V gS cS) (h1 : ∀ k,moW g gS k → w'.heap[k]? = w.heap[k]?) (h2 : ∀ k,V.bk A k → w'.heap[k]? = w.heap[k]?) : WaO w' g A ts V gS cS :=
 ⟨(h1 g (.inl rfl)).trans h.blk,h.kn.far h2,qf h.st fun q hq => h1 q (.inr (by injection hq with hq; exact hq.symm)),h.nS,h.ng,h.gs,h.lt,h.fw,h.may⟩
theorem WaO.up {w w' : World} {g : Nat} {A : AuP} {ts : List Nat} {V : KV} {gS cS : Nat} (h : WaO w g A ts V gS cS) (hb : Below w.heap.size w w') : WaO w' g A ts V gS cS :=
 h.far (fun k hk => hb.block k (by rcases hk with rfl | rfl; exact h.glt; exact h.slt)) (fun k hk => hb.block k (h.kn.lt k hk).2)
theorem WaO.c {w : World} {g : Nat} {A : AuP} {ts : List Nat} {V : KV} {gS cS : Nat} (h : WaO w g A ts V gS cS) :
  w.cell? ⟨g,0,none⟩ = some (.int .i64 A.p) ∧ w.cell? ⟨g,1,none⟩ = some (.slice V.aG A.nA V.cG) ∧ w.cell? ⟨g,2,none⟩ = some (.slice V.aN A.N.length V.cN) ∧ w.cell? ⟨g,3,none⟩ = some (.slice V.aT A.nA V.cT) ∧ w.cell? ⟨g,4,none⟩ = some (.slice V.aO A.nA V.cO) ∧ w.cell? ⟨g,5,none⟩ = some (.pointer (some ⟨g,0,none⟩)) ∧ w.cell? ⟨g,6,none⟩ = some (.slice (some ⟨gS,0,none⟩) (ts.length + 1) cS) :=
 ⟨q6 h.blk 0,q6 h.blk 1,q6 h.blk 2,q6 h.blk 3,q6 h.blk 4,q6 h.blk 5,q6 h.blk 6⟩
theorem WaO.last {w : World} {g : Nat} {A : AuP} {ts : List Nat} {V : KV} {gS cS : Nat} (h : WaO w g A ts V gS cS) : (∀ w',(Instr.indexAt 23 (.slice (some ⟨gS,0,none⟩) (ts.length + 1) cS) (.int .i64 (ts.length : Int))).run Try.prog w' = .ok (.pointer (some ⟨gS,ts.length,none⟩)) w') ∧ w.cell? ⟨gS,ts.length,none⟩ = some (.int .i64 ((A.at ts : Nat) : Int)) := by
 obtain ⟨a',c',e,hz,_⟩ := qm h.st Try.underlying23 q8
 injection e with e1 _ e3
 subst e1; subst e3
 have h1 := fun w' => hz.idx (ts.length + 1) ts.length w' (by omega) (Nat.le_refl _)
 have h2 := hz.cell ts.length (by omega)
 rw [qt (by rw [q2o]; omega),q4L] at h2
 simp only [adOf,q9,Nat.zero_add] at h1 h2
 exact ⟨h1,h2⟩
theorem q1I : ∃ j, Try.prog.info? 65 = some j := by
  cases h : Try.prog.info? 65 with
  | some j => exact ⟨j, rfl⟩
  | none => exact absurd h (by have : (Try.prog.info? 65).isSome = true := by kernel_rfl
                               intro e; rw [e] at this; cases this)
theorem q2V (a : Addr) (w : World) : (binOp .eql 30 (.pointer (some a)) (.pointer (some a))).run Try.prog w = .ok (.bool true) w := by
 obtain ⟨j,hj⟩ := q1I
 exact run_eql_ptr_same w a Try.underlying30 hj
theorem qp {w : World} {g : Nat} (c5 : w.cell? ⟨g,5,none⟩ = some (.pointer (some ⟨g,0,none⟩))) : Calls Try.prog 39 #[.pointer (some ⟨g,0,none⟩)] w fun e w' => e = .returned (.bool true) ∧ w' = w := by
 have hp := fun w => q2V ⟨g,0,none⟩ w
 go_enter Try.func39,Try.ntmps39
 go_wp2
 go_ret
 exact ⟨rfl,rfl⟩
theorem qu {w : World} {g : Nat} {A : AuP} {ts : List Nat} {V : KV} {gS cS : Nat} (h : WaO w g A ts V gS cS) : Calls Try.prog 29 #[.pointer (some ⟨g,0,none⟩)] w fun e w' => e = .returned (.int .i64 (ts.length : Int)) ∧ w' = w := by
 obtain ⟨c0,c1,c2,c3,c4,c5,c6⟩ := h.c
 have hm := qp c5
 have hf := h.fw
 clear h c0 c1 c2 c3 c4
 generalize ts.length = n at *
 go_enter Try.func29,Try.ntmps29
 go_wp2_with (go_at_call 39; refine hm.mono ?_; rintro e w' ⟨rfl,hw1⟩; obtain rfl := hw1.symm)
 go_ret
 refine ⟨?_,rfl⟩
 go_num
theorem qy {w : World} {g : Nat} {A : AuP} {ts : List Nat} {V : KV} {gS cS : Nat} (h : WaO w g A ts V gS cS) : Calls Try.prog 28 #[.pointer (some ⟨g,0,none⟩)] w fun e w' => e = .returned (.int .i64 ((A.at ts : Nat) : Int)) ∧ Below w.heap.size w w' := by
 obtain ⟨c0,c1,c2,c3,c4,c5,c6⟩ := h.c
 have hm := qp c5
 have cL : ∀ d os,Calls Try.prog 29 #[.pointer (some ⟨g,0,none⟩)] (grow (redrawn w d) os) fun e w'' => e = .returned (.int .i64 (ts.length : Int)) ∧ ∃ p : Regrown,w'' = grow (redrawn w p.d) p.os := fun d os => (qu (h.up (below_regrown w d os))).mono fun e w'' ⟨h1,h2⟩ => ⟨h1,⟨⟨d,os⟩,h2⟩⟩
 have HE : Hid (∀ d os,Below w.heap.size w (grow (redrawn w d) os)) := fun d os => below_regrown w d os
 obtain ⟨hix,hce⟩ := h.last
 have hf := h.fw
 have k6 := cell_regrown c6
 have kl := cell_regrown hce
 clear h c0 c1 c2 c3 c4
 generalize ts.length = n at *
 generalize A.at ts = q at *
 go_enter Try.func28,Try.ntmps28
 go_wp2_with (go_at_call 39; refine hm.mono ?_; rintro e w' ⟨rfl,hw1⟩; obtain rfl := hw1.symm)
 clear c5 c6 hce hm
 refine wp_region_quiet_below (by kernel_rfl) (by kernel_rfl) ?_
 repeat (go_big_quiet_step (exact cL _ _))
 refine wpQuiet_nil ?_
 intro _ hw'
 obtain ⟨⟨dq,osq⟩,hw''⟩ := hw'
 subst hw''
 have HB : Hid _ := HE.out dq osq
 generalize grow (redrawn w dq) osq = wx at *
 clear cL k6 kl HE
 go_wp2
 go_ret
 exact ⟨rfl,HB.out⟩
theorem WaO.told {w : World} {g : Nat} {A : AuP} {ts : List Nat} {V : KV} {gS cS : Nat} (h : WaO w g A ts V gS cS) : ∃ v : Nat,v < 4 ∧ TolW A.K A.R A.bs (A.at ts) v ∧ (∀ w',(Instr.indexAt 51 (.slice V.aT A.nA V.cT) (.int .i64 ((A.at ts : Nat) : Int))).run Try.prog w' = .ok (.pointer (some (adOf V.aT (A.at ts)))) w') ∧ w.cell? (adOf V.aT (A.at ts)) = some (.int .u8 (v : Int)) := by
 obtain ⟨us,h3,h4⟩ := h.kn.td
 have hq := AuP.at_lt h.may h.lt
 have hT := h4.2 _ hq
 have hS := q54 h3
 refine ⟨us.getD (A.at ts) 0,hT.lt,hT,fun w' => hS.idx A.nA _ w' hq (Nat.le_refl _),?_⟩
 have := hS.cell (A.at ts) hq
 rw [qt (by rw [h4.1]; exact hq)] at this
 exact this
theorem qJ {w : World} {g : Nat} {A : AuP} {ts : List Nat} {V : KV} {gS cS : Nat} (h : WaO w g A ts V gS cS) : Calls Try.prog 27 #[.pointer (some ⟨g,0,none⟩)] w fun e w' => ∃ v : Nat,e = .returned (.int .u8 (v : Int)) ∧ Hid (TolW A.K A.R A.bs (A.at ts) v) ∧ Below w.heap.size w w' := by
 obtain ⟨c0,c1,c2,c3,c4,c5,c6⟩ := h.c
 have hm := qp c5
 obtain ⟨v,hv4,hT,hix,hce⟩ := h.told
 have cL : ∀ d os,Calls Try.prog 28 #[.pointer (some ⟨g,0,none⟩)] (grow (redrawn w d) os) fun e w'' => e = .returned (.int .i64 ((A.at ts : Nat) : Int)) ∧ ∃ p : Regrown,w'' = grow (redrawn w p.d) p.os := fun d os => by
  have hb := below_regrown w d os
  refine (qy (h.up hb)).mono ?_
  rintro e w'' ⟨rfl,h2⟩
  exact ⟨rfl,regrown_of_below (q5 hb h2)⟩
 have HE : Hid (∀ wx,Below w.heap.size w wx → ∃ v' : Nat,Ending.returned (.int .u8 (v : Int)) = .returned (.int .u8 (v' : Int)) ∧ Hid (TolW A.K A.R A.bs (A.at ts) v') ∧ Below w.heap.size w wx) := fun wx hb => ⟨v,rfl,hT,hb⟩
 obtain ⟨Z,eZ⟩ : ∃ Z : Ending → World → Prop,Z = fun e w' => ∃ v : Nat,e = .returned (.int .u8 (v : Int)) ∧ Hid (TolW A.K A.R A.bs (A.at ts) v) ∧ Below w.heap.size w w' := ⟨_,rfl⟩
 have HZ : Hid (∀ d os,Z (.returned (.int .u8 (v : Int))) (grow (redrawn w d) os)) := fun d os => by rw [eZ]; exact HE.out _ (below_regrown w d os)
 rw [← eZ]
 have hq := AuP.at_lt h.may h.lt
 have hn := h.may.s2
 have k3 := cell_regrown c3
 have kl := cell_regrown hce
 clear h c0 c1 c2 c4 c6 eZ HE hT
 generalize A.at ts = q at *
 generalize adOf V.aT q = ad at *
 obtain ⟨ad1,ad2,ad3⟩ := ad
 go_enter Try.func27,Try.ntmps27
 go_wp2_with (go_at_call 39; refine hm.mono ?_; rintro e w' ⟨rfl,hw1⟩; obtain rfl := hw1.symm)
 clear c3 c5 hce hm
 refine wp_region_quiet_below (by kernel_rfl) (by kernel_rfl) ?_
 repeat (go_big_quiet_step (exact cL _ _))
 refine wpQuiet_nil ?_
 intro _ hw'
 obtain ⟨⟨dq,osq⟩,hw''⟩ := hw'
 subst hw''
 have HB : Hid _ := HZ.out dq osq
 generalize grow (redrawn w dq) osq = wx at *
 clear cL k3 kl HZ
 go_wp2
 exact HB.out
theorem WaO.offs {w : World} {g : Nat} {A : AuP} {ts : List Nat} {V : KV} {gS cS : Nat} (h : WaO w g A ts V gS cS) : ∃ z : Int,((z = -1 ∧ NoW A.K A.R A.bs (A.at ts)) ∨ ∃ d : Nat,d ≤ 256 ∧ z = (d : Int) ∧ OffW A.K A.R A.bs (A.at ts) d) ∧ (∀ w',(Instr.indexAt 23 (.slice V.aO A.nA V.cO) (.int .i64 ((A.at ts : Nat) : Int))).run Try.prog w' = .ok (.pointer (some (adOf V.aO (A.at ts)))) w') ∧ w.cell? (adOf V.aO (A.at ts)) = some (.int .i64 z) := by
 obtain ⟨zs,h3,h4⟩ := h.kn.od
 have hq := AuP.at_lt h.may h.lt
 have hn := h.may.s2
 obtain ⟨a',c',e,hz,_⟩ := qm h3 Try.underlying23 q8
 injection e with e1 _ e3
 subst e1; subst e3
 refine ⟨zs.getD (A.at ts) 0,?_,fun w' => hz.idx A.nA _ w' hq (Nat.le_refl _),hz.cell _ hq⟩
 rcases h4.off hq with h5 | ⟨d,h5,h6,h7⟩
 ·exact .inl h5
 ·exact .inr ⟨d,by omega,h6,h7⟩
theorem q3f {w : World} {g : Nat} {A : AuP} {ts : List Nat} {V : KV} {gS cS : Nat} (h : WaO w g A ts V gS cS) : Calls Try.prog 26 #[.pointer (some ⟨g,0,none⟩)] w fun e w' => ∃ (d E : Int),e = .returned (.tuple #[.int .i64 d,.int .i64 E]) ∧ Hid ((∃ n : Nat,d = (n : Int) ∧ n ≤ 256 ∧ E = 0 ∧ OffW A.K A.R A.bs (A.at ts) n) ∨ (d = 0 ∧ E = 6 ∧ NoW A.K A.R A.bs (A.at ts))) ∧ Below w.heap.size w w' := by
 obtain ⟨Z,eZ⟩ : ∃ Z : Ending → World → Prop,Z = fun e w' => ∃ (d E : Int),e = .returned (.tuple #[.int .i64 d,.int .i64 E]) ∧ Hid ((∃ n : Nat,d = (n : Int) ∧ n ≤ 256 ∧ E = 0 ∧ OffW A.K A.R A.bs (A.at ts) n) ∨ (d = 0 ∧ E = 6 ∧ NoW A.K A.R A.bs (A.at ts))) ∧ Below w.heap.size w w' := ⟨_,rfl⟩
 obtain ⟨c0,c1,c2,c3,c4,c5,c6⟩ := h.c
 have hm := qp c5
 obtain ⟨z,hz,hix,hce⟩ := h.offs
 have cL : ∀ d os,Calls Try.prog 28 #[.pointer (some ⟨g,0,none⟩)] (grow (redrawn w d) os) fun e w'' => e = .returned (.int .i64 ((A.at ts : Nat) : Int)) ∧ ∃ p : Regrown,w'' = grow (redrawn w p.d) p.os := fun d os => by
  have hb := below_regrown w d os
  refine (qy (h.up hb)).mono ?_
  rintro e w'' ⟨rfl,h2⟩
  exact ⟨rfl,regrown_of_below (q5 hb h2)⟩
 have HZ : Hid ((z = -1 ∧ ∀ d os,Z (.returned (.tuple #[.int .i64 0,.int .i64 6])) (grow (redrawn w d) os)) ∨ ∃ n : Nat,z = (n : Int) ∧ ∀ d os,Z (.returned (.tuple #[.int .i64 (n : Int),.int .i64 0])) (grow (redrawn w d) os)) := by
  rcases hz with ⟨h1,h2⟩ | ⟨n,h0,h1,h2⟩
  ·exact .inl ⟨h1,fun d os => by rw [eZ]; exact ⟨0,6,rfl,.inr ⟨rfl,rfl,h2⟩,below_regrown w d os⟩⟩
  ·exact .inr ⟨n,h1,fun d os => by rw [eZ]; exact ⟨n,0,rfl,.inl ⟨n,rfl,h0,rfl,h2⟩,below_regrown w d os⟩⟩
 rw [← eZ]
 have hq := AuP.at_lt h.may h.lt
 have hn := h.may.s2
 have k4 := cell_regrown c4
 have kl := cell_regrown hce
 clear h c0 c1 c2 c3 c6 eZ hz
 generalize A.at ts = q at *
 generalize adOf V.aO q = ad at *
 obtain ⟨ad1,ad2,ad3⟩ := ad
 go_enter Try.func26,Try.ntmps26
 go_wp2_with (go_at_call 39; refine hm.mono ?_; rintro e w' ⟨rfl,hw1⟩; obtain rfl := hw1.symm)
 clear c4 c5 hce hm
 refine wp_region_quiet_below (by kernel_rfl) (by kernel_rfl) ?_
 repeat (go_big_quiet_step (exact cL _ _))
 refine wpQuiet_nil ?_
 intro _ hw'
 obtain ⟨⟨dq,osq⟩,hw''⟩ := hw'
 subst hw''
 clear cL k4 kl hix
 rcases HZ.out with ⟨rfl,h1⟩ | ⟨n,rfl,h1⟩
 ·have HB : Hid _ := h1 dq osq
  clear h1 HZ
  generalize grow (redrawn w dq) osq = wx at *
  go_wp2
  exact HB.out
 ·have HB : Hid _ := h1 dq osq
  have e1 : ((n : Int) == -1) = false := beq_false_of_ne (by omega)
  clear h1 HZ
  generalize grow (redrawn w dq) osq = wx at *
  go_wp2
  exact HB.out
theorem KnV.nd {w : World} {b : Nat} {A : AuP} {V : KV} (h : KnV w b A V) : NdSl w V.aN A.N.length V.cN A.N := by
 obtain ⟨a',c',e,hn,_⟩ := q5c (KnW.nd h) (KnW.ok h)
 injection e with e1 _ e3
 subst e1 e3
 exact hn
theorem KnV.zs {w : World} {b : Nat} {A : AuP} {V : KV} (h : KnV w b A V) : ZSl w V.aG A.nA V.cG A.gs := by
 obtain ⟨a',c',e,hz,_⟩ := qm (KnW.gd h) Try.underlying23 q8
 injection e with e1 _ e3
 subst e1 e3
 exact hz
theorem q2T (A : AuP) (V : KV) (b q z : Nat) (w : World) (hM : MayG A.p A.nA A.N A.gs) (hK : KnV w b A V) (hq : q < A.nA) (hz : z < A.K) :
  Calls Try.prog 47 #[V.val A,.int .i64 (q : Int),.int .u8 (z : Int)] w fun e w' => e = .returned (.int .i64 ((trP A.R q z : Nat) : Int)) ∧ Below w.heap.size w w' := by
 have hN := hK.nd
 have hG := hK.zs
 obtain ⟨p,nA,bs,N,gs⟩ := A
 obtain ⟨aG,cG,aN,cN,aT,cT,aO,cO⟩ := V
 dsimp only [AuP.K,AuP.R,KV.val] at *
 generalize N.length = nN at *
 have hb0 := q7 w (.cells #[.int .i64 p,.slice aG nA cG,.slice aN nN cN,.slice aT nA cT,.slice aO nA cO] 63 (0,0))
 have hblk := (MapKept.heap_alloc w (.cells #[.int .i64 p,.slice aG nA cG,.slice aN nN cN,.slice aT nA cT,.slice aO nA cO] 63 (0,0))).1
 have c1 := q6 hblk 1
 have c2 := q6 hblk 2
 have hv1 := hM.tr (K := 2 ^ p.toNat) (s := q) (x := z) hq hz
 have hixg := fun w' => hG.idx nA q w' hq (Nat.le_refl _)
 have hcg := (hG.up hb0).cell q hq
 have hi64 := q1N hM (q := q) (by have h2 := hM.len; omega)
 have hk256 := hM.k256
 have h256 := hM.s2
 have hz256 : z < 256 := by omega
 have hq256 : q < 256 := by omega
 have HB0 : Hid _ := hb0
 obtain ⟨w1,hw1⟩ : ∃ w1,w1 = w.alloc (.cells #[.int .i64 p,.slice aG nA cG,.slice aN nN cN,.slice aT nA cT,.slice aO nA cO] 63 (0,0)) := ⟨_,rfl⟩
 rw [← hw1] at HB0 c1 c2 hcg
 have hN1 := hN.up hb0
 rw [← hw1] at hN1
 have cS : ∀ d os,Calls Try.prog 65 #[.slice aN nN cN,.int .i64 (gs.getD q 0),.int .u8 (z : Int)] (grow (redrawn w1 d) os) fun e w'' => e = .returned (.tuple #[.int .i64 ((trP (rwA p N gs) q z : Nat) : Int),.bool true]) ∧ ∃ p : Regrown,w'' = grow (redrawn w1 p.d) p.os := fun d os => by
  have hb := below_regrown w1 d os
  refine (q1B aN nN cN N (gs.getD q 0) z _ (hN1.up hb) hi64 hz256).mono ?_
  rintro e w'' ⟨rfl,h2⟩
  rw [hv1]
  exact ⟨rfl,regrown_of_below (q5 hb h2)⟩
 have HE : Hid (∀ d os,Below w.heap.size w (grow (redrawn w1 d) os)) := fun d os => q5 HB0.out (below_regrown w1 d os)
 have dq0 : decide ((q : Int) < 0) = false := by simp
 have dq1 : decide (nA ≤ q) = false := by simp; exact hq
 have k1 := cell_regrown c1
 have k2 := cell_regrown c2
 have kg := cell_regrown hcg
 have HW1 : Hid _ := hw1
 clear hcg hi64 hN hG hN1 hM c1 c2 hv1 hz hb0 hq h256 hk256 HB0 hw1 hblk hK
 generalize gs.getD q 0 = rq at *
 generalize trP (rwA p N gs) q z = v at *
 generalize adOf aG q = ag at *
 obtain ⟨ag1,ag2,ag3⟩ := ag
 go_enter Try.func47,Try.ntmps47
 go_wp2_with fail
 rw [← HW1.out]
 refine wp_region_quiet_below (by kernel_rfl) (by kernel_rfl) ?_
 repeat (go_big_quiet_step (exact cS _ _))
 refine wpQuiet_nil ?_
 intro _ hw'
 obtain ⟨⟨dq,osq⟩,hw''⟩ := hw'
 subst hw''
 have HI3 : Hid _ := HE.out dq osq
 generalize grow (redrawn w1 dq) osq = wx at *
 clear cS k1 k2 kg HE
 go_wp2
 go_ret
 exact ⟨rfl,HI3.out⟩
theorem q1g (A : AuP) (V : KV) (gS n cS : Nat) (w : World) :
  Calls Try.prog 34 #[V.val A,.slice (some ⟨gS,0,none⟩) n cS] w fun e w' => e = .returned (.pointer (some ⟨w.heap.size + 1,0,none⟩)) ∧ Hid (Below w.heap.size w w') ∧ Hid (w'.heap[w.heap.size + 1]? = some (.cells #[.int .i64 A.p,.slice V.aG A.nA V.cG,.slice V.aN A.N.length V.cN,.slice V.aT A.nA V.cT,.slice V.aO A.nA V.cO,.pointer (some ⟨w.heap.size + 1,0,none⟩),.slice (some ⟨gS,0,none⟩) n cS] 65 (0,0))) := by
 obtain ⟨Z,eZ⟩ : ∃ Z : Ending → World → Prop,Z = fun e w' => e = .returned (.pointer (some ⟨w.heap.size + 1,0,none⟩)) ∧ Hid (Below w.heap.size w w') ∧ Hid (w'.heap[w.heap.size + 1]? = some (.cells #[.int .i64 A.p,.slice V.aG A.nA V.cG,.slice V.aN A.N.length V.cN,.slice V.aT A.nA V.cT,.slice V.aO A.nA V.cO,.pointer (some ⟨w.heap.size + 1,0,none⟩),.slice (some ⟨gS,0,none⟩) n cS] 65 (0,0))) := ⟨_,rfl⟩
 have HZ : Hid (∀ w',Below w.heap.size w w' → w'.heap[w.heap.size + 1]? = some (.cells #[.int .i64 A.p,.slice V.aG A.nA V.cG,.slice V.aN A.N.length V.cN,.slice V.aT A.nA V.cT,.slice V.aO A.nA V.cO,.pointer (some ⟨w.heap.size + 1,0,none⟩),.slice (some ⟨gS,0,none⟩) n cS] 65 (0,0)) → Z (.returned (.pointer (some ⟨w.heap.size + 1,0,none⟩))) w') := fun w' h1 h2 => by rw [eZ]; exact ⟨rfl,h1,h2⟩
 rw [← eZ]
 clear eZ
 obtain ⟨p,nA,bs,N,gs⟩ := A
 obtain ⟨aG,cG,aN,cN,aT,cT,aO,cO⟩ := V
 dsimp only [KV.val] at *
 generalize N.length = nN at *
 go_enter Try.func34,Try.ntmps34
 go_wp2
 exact HZ.out _ (q5 (q7 w _) (q7 _ _)) (by have := (MapKept.heap_alloc (w.alloc (.cells #[.int .i64 p,.slice aG nA cG,.slice aN nN cN,.slice aT nA cT,.slice aO nA cO] 63 (0,0))) (.cells #[.int .i64 p,.slice aG nA cG,.slice aN nN cN,.slice aT nA cT,.slice aO nA cO,.pointer (some ⟨w.heap.size + 1,0,none⟩),.slice (some ⟨gS,0,none⟩) n cS] 65 (0,0))).1; simpa using this)
theorem q3d {w : World} {ops : Array Oper} {o : Oper} {a : Act} {K : Act → World → Prop} {Q : Exit → Act → World → Prop} {X : Prop} (hw : Region.wanted o (yielded ops a.tmps) = true) (s x : Operand)
  (ho : o.op = .call { callee := .builtin .append,args := #[s,x],argTypes := #[23,23] }) (base : Nat)
  (v : Value) (n : Nat) (xs : List Value) (y : Value) (g : Nat) (hs : a.eval s = v) (hx : a.eval x = .slice (some ⟨g,0,none⟩) 1 1) (hown : w.ownsRow base 3 1 v n xs)
  (hB : w.cell? ⟨g,0,none⟩ = some y) (h1 : y.oneCell' = true) (hn : n ≤ 1000000) (hbase : base ≤ w.heap.size)
  (h : ∀ v' w',w'.ownsRow base 3 1 v' (n + 1) (xs ++ [y]) → w.grownBy w' v.ownBlock → (v'.ownBlock = v.ownBlock ∨ v'.ownBlock = some w.heap.size) → K (a.put o.dst v') w') :
  if Region.wanted o (yielded ops a.tmps) = true then Oper.wp Try.prog o a w K Q else X := by
 rw [if_pos hw]
 have hI : (Try.prog.info? 3).map (fun i => (i.zero,i.size,i.bytes)) = some (some (.int .i64 0),1,8) := by kernel_rfl
 obtain ⟨i,hi,hz0,hz1,hz2⟩ := info_parts hI
 obtain ⟨v',w',hr,h2,h3,_,h5⟩ := run_append_own_at (P := Try.prog) w base 23 o.type 3 i _ 1 8 Try.underlying23 hi hz0 hz1 hz2 rfl (by decide) v n _ hown ⟨g,0,none⟩ 1 1 [y] rfl (fun j u hj => by
  match j with
  | 0 => simp at hj; rw [← hj,q9]; exact hB
  | j + 1 => simp at hj) (fun u hu => by simp at hu; subst hu; exact h1) (by unfold maxLen; omega) (by omega) hbase
 unfold Oper.wp execOp
 simp only [ho,resolve,invoke,builtin,Sem.run_bind,Sem.run_pure,Result.andThen_ok,List.map_toArray,List.map_cons,List.map_nil,hs,hx,hr]
 exact h v' w' h2 h3 h5
def FedW (A : AuP) (g : Nat) (ts : List Nat) (V : KV) (gS : Nat) (l : Nat) (w w' : World) : Prop :=
 ∃ gS' cS',WaO w' g A (ts ++ [l]) V gS' cS' ∧ Fr w w' (moW g gS) (moW g gS')
theorem WaO.fed {w w1 w5 : World} {g : Nat} {A : AuP} {ts : List Nat} {V : KV} {gS cS l : Nat} {v5 : Value} (h : WaO w g A ts V gS cS) (hl : l < A.K) (hn : ts.length < 1024) (hb : Below w.heap.size w w1)
  (ho : w5.ownsRow 0 3 1 v5 (ts.length + 1 + 1) (inV (stW A ts) ++ [.int .i64 ((A.at (ts ++ [l]) : Nat) : Int)])) (hg : w1.grownBy w5 (some gS)) (hv : v5.ownBlock = some gS ∨ v5.ownBlock = some w1.heap.size) :
  ∃ gS' cS',v5 = .slice (some ⟨gS',0,none⟩) (ts.length + 1 + 1) cS' ∧ w5.cell? ⟨g,6,none⟩ = some (.slice (some ⟨gS,0,none⟩) (ts.length + 1) cS) ∧ w5.frozen? ⟨g,6,none⟩ = false ∧ FedW A g ts V gS l w (w5.setCell ⟨g,6,none⟩ (.slice (some ⟨gS',0,none⟩) (ts.length + 1 + 1) cS')) := by
 obtain ⟨gS',cS',rfl,_,hlt⟩ := q16 ho (by omega)
 have hgg : gS' = gS ∨ w.heap.size ≤ gS' := by
  rcases hv with hv | hv
  ·injection hv with hv; exact .inl hv
  ·injection hv with hv; dsimp only at hv; have := hb.size; omega
 have hkeep : ∀ k,k < w.heap.size → k ≠ gS → w5.heap[k]? = w.heap[k]? := fun k hk hne => by
  rw [hg.block k (Nat.lt_of_lt_of_le hk hb.size) (fun e => hne (by injection e)),hb.block k hk]
 have hgb : w5.heap[g]? = w.heap[g]? := hkeep g h.glt h.gs
 have hblk := hgb.trans h.blk
 have hgS' : g ≠ gS' := by
  rcases hgg with h1 | h1
  ·rw [h1]; exact h.gs
  ·have := h.glt; omega
 have hsz : w.heap.size ≤ w5.heap.size := Nat.le_trans hb.size hg.size
 refine ⟨gS',cS',rfl,q6 hblk 6,frozen_of_row w5 g 6 _ _ hblk,gS',cS',⟨?_,?_,?_,?_,h.ng,hgS',?_,?_,h.may⟩,⟨?_,?_,?_,?_,?_,?_⟩⟩
 ·rw [heap_setCell_same _ g 6 _ _ _ hblk]
  simp
 ·exact h.kn.far fun k hk => (Below.heap_setCell _ _ _ _ (by dsimp only; intro e; exact h.ng (e ▸ hk))).trans (hkeep k (h.kn.lt k hk).2 (fun e => h.nS (e ▸ hk)))
 ·rw [q3q,show inV (stW A ts ++ [A.at (ts ++ [l])]) = inV (stW A ts) ++ [.int .i64 ((A.at (ts ++ [l]) : Nat) : Int)] by simp [inV],show (ts ++ [l]).length + 1 = ts.length + 1 + 1 by simp]
  exact qf ho fun q hq => Below.heap_setCell _ _ _ _ (by dsimp only; injection hq with hq; rw [← hq]; exact Ne.symm hgS')
 ·intro hk
  rcases hgg with h1 | h1
  ·exact h.nS (h1 ▸ hk)
  ·have := (h.kn.lt _ hk).2; omega
 ·intro x hx
  rcases List.mem_append.1 hx with hx | hx
  ·exact h.lt x hx
  ·simp at hx; omega
 ·simp; omega
 ·exact hg.os.trans hb.os
 ·exact hg.tape.trans hb.tape
 ·exact hg.output.trans hb.output
 ·simpa using hsz
 ·intro k hk hF
  rw [Below.heap_setCell _ _ _ _ (by dsimp only; exact fun e => hF (.inl e))]
  exact hkeep k hk fun e => hF (.inr e)
 ·rintro k (hk | hk)
  ·exact .inl (.inl hk)
  ·rcases hgg with h1 | h1
   ·exact .inl (.inr (hk.trans h1))
   ·exact .inr (by omega)
theorem FedW.up {A : AuP} {g : Nat} {ts : List Nat} {V : KV} {gS l : Nat} {w w1 w2 : World} (h : FedW A g ts V gS l w w1) (hb : Below w1.heap.size w1 w2) : FedW A g ts V gS l w w2 := by
 obtain ⟨g',c',h1,h2⟩ := h
 exact ⟨g',c',h1.up hb,⟨hb.os.trans h2.os,hb.tape.trans h2.tape,hb.output.trans h2.output,Nat.le_trans h2.size hb.size,fun k hk hF => (hb.block k (Nat.lt_of_lt_of_le hk h2.size)).trans (h2.keep k hk hF),h2.foot⟩⟩
def FeeR (A : AuP) (g : Nat) (ts : List Nat) (V : KV) (gS l : Nat) (w : World) (e : Ending) (w' : World) : Prop :=
 (¬ l < A.K ∧ e = .returned (.tuple #[.int .u8 0,.int .i64 2]) ∧ Below w.heap.size w w') ∨ (l < A.K ∧ ts.length = 1024 ∧ e = .returned (.tuple #[.int .u8 0,.int .i64 15]) ∧ Below w.heap.size w w') ∨
  (l < A.K ∧ ts.length < 1024 ∧ ∃ v : Nat,e = .returned (.tuple #[.int .u8 (v : Int),.int .i64 0]) ∧ TolW A.K A.R A.bs (A.at (ts ++ [l])) v ∧ FedW A g ts V gS l w w')
theorem fitsW {A : AuP} (hM : MayG A.p A.nA A.N A.gs) {l : Nat} : fitsB A.p (l : Int) = decide (l < A.K) := by
 rw [q2l hM.p0 hM.p8,AuP.K]
 by_cases h : l < 2 ^ A.p.toNat
 ·rw [decide_eq_true h]
  have : (l : Int) / 2 ^ A.p.toNat = 0 := by
   have h2 : ((2 ^ A.p.toNat : Nat) : Int) = (2 : Int) ^ A.p.toNat := by simp
   rw [← h2]
   exact_mod_cast Nat.div_eq_of_lt h
  rw [this]; rfl
 ·rw [decide_eq_false h]
  have : (l : Int) / 2 ^ A.p.toNat ≠ 0 := by
   have h2 : ((2 ^ A.p.toNat : Nat) : Int) = (2 : Int) ^ A.p.toNat := by simp
   rw [← h2]
   have : 0 < l / 2 ^ A.p.toNat := Nat.div_pos (by omega) (Nat.two_pow_pos _)
   intro e
   have e2 : ((l / 2 ^ A.p.toNat : Nat) : Int) = 0 := by exact_mod_cast e
   omega
  exact beq_false_of_ne this
theorem q2S {w : World} {g : Nat} {A : AuP} {ts : List Nat} {V : KV} {gS cS l : Nat} (h : WaO w g A ts V gS cS) :
  Calls Try.prog 24 #[.pointer (some ⟨g,0,none⟩),.int .u8 (l : Int)] w (FeeR A g ts V gS l w) := by
 obtain ⟨Z,eZ⟩ : ∃ Z,Z = FeeR A g ts V gS l w := ⟨_,rfl⟩
 have HZ : Hid (∀ e w',FeeR A g ts V gS l w e w' → Z e w') := fun e w' h => by rw [eZ]; exact h
 rw [← eZ]
 clear eZ
 obtain ⟨c0,c1,c2,c3,c4,c5,c6⟩ := h.c
 have hm := qp c5
 have jf := fun w => q2Y A.p (l : Int) w
 rw [fitsW h.may] at jf
 by_cases hlK : l < A.K
 ·rw [decide_eq_true hlK] at jf
  have jL := qu h
  by_cases hn : ts.length = 1024
  ·have e1 : ((ts.length : Int) == 1024) = true := beq_iff_eq.2 (by omega)
   have HE : Hid _ := HZ.out _ w (.inr (.inl ⟨hlK,hn,rfl,Below.refl _ _⟩))
   clear h HZ hn hlK c1 c2 c3 c4 c6
   generalize ts.length = n at *
   go_enter Try.func24,Try.ntmps24
   go_wp2_with (first
    | (go_at_call 39; refine hm.mono ?_; rintro e w' ⟨rfl,hw1⟩; obtain rfl := hw1.symm)
    | (go_at_call 50; refine (jf _).mono ?_; rintro e w' ⟨rfl,hw1⟩; obtain rfl := hw1.symm)
    | (go_at_call 29; refine jL.mono ?_; rintro e w' ⟨rfl,hw1⟩; obtain rfl := hw1.symm))
   exact HE.out
  ·have hf := h.fw
   have hn1 : ts.length < 1024 := by omega
   have e1 : ((ts.length : Int) == 1024) = false := beq_false_of_ne (by omega)
   have hq := AuP.at_lt h.may h.lt
   have hbd : Below w.heap.size w w.drew := (Below.refl _ _).drew
   have jS : Calls Try.prog 28 #[.pointer (some ⟨g,0,none⟩)] w.drew fun e w' => e = .returned (.int .i64 ((A.at ts : Nat) : Int)) ∧ Below w.drew.heap.size w.drew w' := qy (h.up hbd)
   have jN : ∀ wx,Below w.heap.size w wx → Calls Try.prog 47 #[V.val A,.int .i64 ((A.at ts : Nat) : Int),.int .u8 (l : Int)] wx fun e w' => e = .returned (.int .i64 ((A.at (ts ++ [l]) : Nat) : Int)) ∧ Below wx.heap.size wx w' := fun wx hb => by
    rw [A.at_snoc]
    exact q2T A V 0 (A.at ts) l wx h.may (h.kn.far fun k hk => hb.block k (h.kn.lt k hk).2) hq hlK
   have JV : Hid (∀ wx,FedW A g ts V gS l w wx → Calls Try.prog 27 #[.pointer (some ⟨g,0,none⟩)] wx fun e w' => ∃ v : Nat,e = .returned (.int .u8 (v : Int)) ∧ TolW A.K A.R A.bs (A.at (ts ++ [l])) v ∧ Below wx.heap.size wx w') := fun wx hx => by
    obtain ⟨g',c',h1,h2⟩ := hx
    refine (qJ h1).mono ?_
    rintro e w' ⟨v,rfl,h3⟩
    exact ⟨v,rfl,h3⟩
   have HC : Hid (∀ wx,Below w.heap.size w wx → wx.cell? ⟨g,0,none⟩ = some (.int .i64 A.p) ∧ wx.cell? ⟨g,1,none⟩ = some (.slice V.aG A.nA V.cG) ∧ wx.cell? ⟨g,2,none⟩ = some (.slice V.aN A.N.length V.cN) ∧ wx.cell? ⟨g,3,none⟩ = some (.slice V.aT A.nA V.cT) ∧ wx.cell? ⟨g,4,none⟩ = some (.slice V.aO A.nA V.cO) ∧ wx.cell? ⟨g,6,none⟩ = some (.slice (some ⟨gS,0,none⟩) (ts.length + 1) cS)) := fun wx hb => by
    have hx : WaO wx g A ts V gS cS := h.far (fun k hk => hb.block k (by rcases hk with rfl | rfl; exact h.glt; exact h.slt)) (fun k hk => hb.block k (h.kn.lt k hk).2)
    obtain ⟨d0,d1,d2,d3,d4,_,d6⟩ := hx.c
    exact ⟨d0,d1,d2,d3,d4,d6⟩
   have HO : Hid (∀ wx,Below w.heap.size w wx → wx.ownsRow 0 3 1 (.slice (some ⟨gS,0,none⟩) (ts.length + 1) cS) (ts.length + 1) (inV (stW A ts))) := fun wx hb => qf h.st fun q hq => hb.block q (h.st.lt q hq).2
   have HPP : Hid (∀ w1 w5 v5,Below w.heap.size w w1 → w5.ownsRow 0 3 1 v5 (ts.length + 1 + 1) (inV (stW A ts) ++ [.int .i64 ((A.at (ts ++ [l]) : Nat) : Int)]) → w1.grownBy w5 (some gS) → (v5.ownBlock = some gS ∨ v5.ownBlock = some w1.heap.size) → ∃ gS' cS',v5 = .slice (some ⟨gS',0,none⟩) (ts.length + 1 + 1) cS' ∧ w5.cell? ⟨g,6,none⟩ = some (.slice (some ⟨gS,0,none⟩) (ts.length + 1) cS) ∧ w5.frozen? ⟨g,6,none⟩ = false ∧ FedW A g ts V gS l w (w5.setCell ⟨g,6,none⟩ (.slice (some ⟨gS',0,none⟩) (ts.length + 1 + 1) cS'))) := fun w1 w5 v5 hb ho hg hv => h.fed hlK hn1 hb ho hg hv
   have HE : Hid (∀ (v : Nat) w',TolW A.K A.R A.bs (A.at (ts ++ [l])) v → FedW A g ts V gS l w w' → Z (.returned (.tuple #[.int .u8 (v : Int),.int .i64 0])) w') := fun v w' h1 h2 => HZ.out _ _ (.inr (.inr ⟨hlK,hn1,v,rfl,h1,h2⟩))
   have HBD : Hid _ := hbd
   clear h HZ hn hlK hq hbd
   go_enter Try.func24,Try.ntmps24
   go_upto_region 7 with (first
    | (go_at_call 39; refine hm.mono ?_; rintro e w' ⟨rfl,hw1⟩; obtain rfl := hw1.symm)
    | (go_at_call 50; refine (jf _).mono ?_; rintro e w' ⟨rfl,hw1⟩; obtain rfl := hw1.symm)
    | (go_at_call 29; refine jL.mono ?_; rintro e w' ⟨rfl,hw1⟩; obtain rfl := hw1.symm))
   clear hm jf jL e1 c5
   go_cut [36] (fun _ wx => Hid (FedW A g ts V gS l w wx))
   case first =>
    clear HE JV
    dsimp only [KV.val] at jN
    generalize inV (stW A ts) = X at *
    generalize A.at ts = q at *
    generalize A.at (ts ++ [l]) = q2 at *
    generalize ts.length = n at *
    generalize A.N.length = nN at *
    go_region_law (first
     | (revert HO10; intro HO10; refine q3d rfl _ _ rfl 0 (.slice (some ⟨gS,0,none⟩) (n + 1) cS) (n + 1) X (.int .i64 (q2 : Int)) w10.heap.size rfl rfl HO10.out hc10 rfl (by omega) (Nat.zero_le _) ?_; intro v5 w5 hown5 hgr5 hv5; obtain ⟨gS',cS',rfl,s6,z6,HF⟩ := HPP.out _ w5 v5 HBA.out hown5 hgr5 hv5)
     | (revert HB9; intro HB9; go_simp; (with_reducible refine (jN w9 HB9.out).mono ?_); rintro e w10 ⟨rfl,hb10⟩; have HB10 : Hid (Below w.heap.size w w10) := q5 HB9.out hb10; have HBA : Hid (Below w.heap.size w (w10.alloc (.cells #[.int .i64 (q2 : Int)] 3))) := q5 HB10.out (q7 _ _); obtain ⟨d0,d1,d2,d3,d4,d6⟩ := HC.out w10 HB10.out; obtain ⟨f0,f1,f2,f3,f4,f6⟩ := HC.out _ HBA.out; have HO10 : Hid ((w10.alloc (.cells #[.int .i64 (q2 : Int)] 3)).ownsRow 0 3 1 (.slice (some ⟨gS,0,none⟩) (n + 1) cS) (n + 1) X) := HO.out _ HBA.out; have hc10 : (w10.alloc (.cells #[.int .i64 (q2 : Int)] 3)).cell? ⟨w10.heap.size,0,none⟩ = some (.int .i64 (q2 : Int)) := q6 (MapKept.heap_alloc w10 _).1 0; dsimp only)
     | (revert jS; intro jS; go_simp; (with_reducible refine jS.mono ?_); rintro e w9 ⟨rfl,hb9⟩; have HB9 : Hid (Below w.heap.size w w9) := q5 HBD.out hb9; obtain ⟨a0,a1,a2,a3,a4,a6⟩ := HC.out w9 HB9.out; dsimp only)
     | fail)
    all_goals
     have HF2 : Hid (FedW _ _ _ _ _ _ _ _) := HF
     clear HF
     go_wp2_with fail
     go_meet
     exact HF2
   case rest =>
   obtain ⟨w6,hw6⟩ : ∃ w6,w6 = wc := ⟨_,rfl⟩
   subst hw6
   have jv := JV.out w6 hcut.out
   clear JV jS jN c0 c1 c2 c3 c4 c6 HC HO HPP HBD
   go_wp2_with (go_at_call 27; refine jv.mono ?_; rintro e w7 ⟨v,rfl,h7,hb7⟩; have HX : Hid _ := HE.out v w7 h7 (hcut.out.up hb7))
   exact HX.out
 ·rw [decide_eq_false hlK] at jf
  have HE : Hid _ := HZ.out _ w (.inl ⟨hlK,rfl,Below.refl _ _⟩)
  clear h HZ hlK c1 c2 c3 c4 c6
  go_enter Try.func24,Try.ntmps24
  go_wp2_with (first
   | (go_at_call 39; refine hm.mono ?_; rintro e w' ⟨rfl,hw1⟩; obtain rfl := hw1.symm)
   | (go_at_call 50; refine (jf _).mono ?_; rintro e w' ⟨rfl,hw1⟩; obtain rfl := hw1.symm))
  exact HE.out
def BakW (A : AuP) (g : Nat) (ts : List Nat) (V : KV) (gS cS : Nat) (w w' : World) : Prop := WaO w' g A ts V gS cS ∧ Fr w w' (moW g gS) (moW g gS)
theorem WaO.backed {w : World} {g : Nat} {A : AuP} {ts : List Nat} {V : KV} {gS cS l : Nat} (h : WaO w g A (ts ++ [l]) V gS cS) : BakW A g ts V gS cS w (w.setCell ⟨g,6,none⟩ (.slice (some ⟨gS,0,none⟩) (ts.length + 1) cS)) := by
 have hl : (ts ++ [l]).length + 1 = ts.length + 1 + 1 := by simp
 refine ⟨⟨?_,?_,?_,h.nS,h.ng,h.gs,fun x hx => h.lt x (by simp [hx]),?_,h.may⟩,⟨rfl,rfl,rfl,by simp,fun k _ hF => Below.heap_setCell _ _ _ _ (by dsimp only; exact fun e => hF (.inl e)),fun k hk => .inl hk⟩⟩
 ·rw [heap_setCell_same _ g 6 _ _ _ h.blk]
  simp
 ·exact h.kn.far fun k hk => Below.heap_setCell _ _ _ _ (by dsimp only; intro e; exact h.ng (e ▸ hk))
 ·have hst := h.st
  rw [hl,q3q] at hst
  obtain ⟨a,cap,e,_,_,_,h2,_⟩ := q1R (m := ts.length + 1) hst (by omega)
  injection e with e1 _ e3
  subst e1
  subst e3
  rw [show (inV (stW A ts ++ [A.at (ts ++ [l])])).take ((ts.length + 1) * 1) = inV (stW A ts) by
   simp only [inV,List.map_append,Nat.mul_one]
   rw [List.take_append_of_le_length (by simp [q2o]),List.take_of_length_le (by simp [q2o])]] at h2
  exact qf h2 fun q hq => Below.heap_setCell _ _ _ _ (by dsimp only; injection hq with hq; rw [← hq]; exact Ne.symm h.gs)
 ·have := h.fw; simp at this; omega
theorem BakW.up {A : AuP} {g : Nat} {ts : List Nat} {V : KV} {gS cS : Nat} {w w1 w2 : World} (h : BakW A g ts V gS cS w w1) (hb : Below w1.heap.size w1 w2) : BakW A g ts V gS cS w w2 :=
 ⟨h.1.up hb,⟨hb.os.trans h.2.os,hb.tape.trans h.2.tape,hb.output.trans h.2.output,Nat.le_trans h.2.size hb.size,fun k hk hF => (hb.block k (Nat.lt_of_lt_of_le hk h.2.size)).trans (h.2.keep k hk hF),h.2.foot⟩⟩
theorem BakW.drew {A : AuP} {g : Nat} {ts : List Nat} {V : KV} {gS cS : Nat} {w w1 : World} (h : BakW A g ts V gS cS w w1) : BakW A g ts V gS cS w w1.drew := h.up (Below.refl _ _).drew
def BacR (A : AuP) (g : Nat) (ts : List Nat) (V : KV) (gS cS : Nat) (w : World) (e : Ending) (w' : World) : Prop :=
 (ts = [] ∧ e = .returned (.tuple #[.int .u8 0,.int .i64 6]) ∧ Below w.heap.size w w') ∨
  ∃ (us : List Nat) (l v : Nat),ts = us ++ [l] ∧ e = .returned (.tuple #[.int .u8 (v : Int),.int .i64 0]) ∧ TolW A.K A.R A.bs (A.at us) v ∧ BakW A g us V gS cS w w'
theorem q2k {w : World} {g : Nat} {A : AuP} {ts : List Nat} {V : KV} {gS cS : Nat} (h : WaO w g A ts V gS cS) :
  Calls Try.prog 25 #[.pointer (some ⟨g,0,none⟩)] w (BacR A g ts V gS cS w) := by
 obtain ⟨Z,eZ⟩ : ∃ Z,Z = BacR A g ts V gS cS w := ⟨_,rfl⟩
 have HZ : Hid (∀ e w',BacR A g ts V gS cS w e w' → Z e w') := fun e w' h => by rw [eZ]; exact h
 rw [← eZ]
 clear eZ
 obtain ⟨c0,c1,c2,c3,c4,c5,c6⟩ := h.c
 have hm := qp c5
 have jL := qu h
 by_cases he : ts = []
 ·have HE : Hid _ := HZ.out (.returned (.tuple #[.int .u8 0,.int .i64 6])) w (.inl ⟨he,rfl,Below.refl _ _⟩)
  subst he
  clear h HZ c0 c1 c2 c3 c4 c6
  simp only [List.length_nil] at jL
  go_enter Try.func25,Try.ntmps25
  go_wp2_with (first
   | (go_at_call 39; refine hm.mono ?_; rintro e w' ⟨rfl,hw1⟩; obtain rfl := hw1.symm)
   | (go_at_call 29; refine jL.mono ?_; rintro e w' ⟨rfl,hw1⟩; obtain rfl := hw1.symm))
  exact HE.out
 obtain ⟨us,l,rfl⟩ : ∃ us l,ts = us ++ [l] := ⟨ts.dropLast,ts.getLast he,(List.dropLast_concat_getLast he).symm⟩
 have hlen : (us ++ [l]).length = us.length + 1 := by simp
 have hf := h.fw
 rw [hlen] at c6 jL hf
 have e1 : (((us.length + 1 : Nat) : Int) == 0) = false := beq_false_of_ne (by omega)
 have hcap : us.length + 1 + 1 ≤ cS := by
  have := h.st
  rw [hlen] at this
  obtain ⟨a,cap,e,h1,_⟩ := q1R (m := 0) this (by omega)
  injection e with _ _ e3
  omega
 have hsl : ∀ w' : World,(Instr.sliceAt 23 (.slice (some ⟨gS,0,none⟩) (us.length + 1 + 1) cS) none (some (.int .i64 ((us.length + 1 : Nat) : Int))) none).run Try.prog w' = .ok (.slice (some ⟨gS,0,none⟩) (us.length + 1) cS) w' := fun w' => q4q Try.underlying23 q8 _ (us.length + 1 + 1) cS (us.length + 1) (by omega) hcap (fun e => by cases e) w'
 have fz : w.frozen? ⟨g,6,none⟩ = false := frozen_of_row w g 6 _ _ h.blk
 have HW : Hid (BakW A g us V gS cS w (w.setCell ⟨g,6,none⟩ (.slice (some ⟨gS,0,none⟩) (us.length + 1) cS))) := h.backed
 have JV : Hid (∀ wx,BakW A g us V gS cS w wx → Calls Try.prog 27 #[.pointer (some ⟨g,0,none⟩)] wx fun e w' => ∃ v : Nat,e = .returned (.int .u8 (v : Int)) ∧ TolW A.K A.R A.bs (A.at us) v ∧ Below wx.heap.size wx w') := fun wx hx => by
  refine (qJ hx.1).mono ?_
  rintro e w' ⟨v,rfl,h3⟩
  exact ⟨v,rfl,h3⟩
 have HE : Hid (∀ (v : Nat) w',TolW A.K A.R A.bs (A.at us) v → BakW A g us V gS cS w w' → Z (.returned (.tuple #[.int .u8 (v : Int),.int .i64 0])) w') := fun v w' h1 h2 => HZ.out _ _ (.inr ⟨us,l,v,rfl,rfl,h1,h2⟩)
 have jL2 : Calls Try.prog 29 #[.pointer (some ⟨g,0,none⟩)] w.drew fun e w' => e = .returned (.int .i64 ((us.length + 1 : Nat) : Int)) ∧ w' = w.drew := by
  rw [← hlen]
  exact qu (h.up (Below.refl _ _).drew)
 clear h HZ he hlen c0 c1 c2 c3 c4
 generalize hn1 : us.length + 1 = n at *
 clear hn1
 go_enter Try.func25,Try.ntmps25
 go_upto_region 5 with (first
  | (go_at_call 39; refine hm.mono ?_; rintro e w' ⟨rfl,hw1⟩; obtain rfl := hw1.symm)
  | (go_at_call 29; refine jL.mono ?_; rintro e w' ⟨rfl,hw1⟩; obtain rfl := hw1.symm))
 clear hm jL e1 c5
 go_cut [19] (fun _ wx => Hid (BakW A g us V gS cS w wx))
 case first =>
  clear HE JV
  go_region_law (first
   | (revert jL2; intro jL2; go_simp; (with_reducible refine jL2.mono ?_); rintro e w9 ⟨rfl,hw9⟩; obtain rfl := hw9.symm; dsimp only)
   | fail)
  all_goals
   have HF2 : Hid (BakW A g us V gS cS w _) := HW.out.drew
   clear HW
   go_wp2_with fail
   go_meet
   exact HF2
 case rest =>
 obtain ⟨w6,hw6⟩ : ∃ w6,w6 = wc := ⟨_,rfl⟩
 subst hw6
 have jv := JV.out w6 hcut.out
 clear JV jL2 c6 HW hsl fz hcap
 go_wp2_with (go_at_call 27; refine jv.mono ?_; rintro e w7 ⟨v,rfl,h7,hb7⟩; have HX : Hid _ := HE.out v w7 h7 (hcut.out.up hb7))
 exact HX.out
end Go.Proofs.Ytjpggahiddhanaa
