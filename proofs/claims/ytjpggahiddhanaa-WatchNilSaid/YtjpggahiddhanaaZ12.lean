/- Texts of the proof, put together: what it uses. -/
import Derived.Deep.RegionLaw
import Derived.Deep.CutBlock
import Derived.Test.YtjpggahiddhanaaZ00
import Derived.Test.YtjpggahiddhanaaZ04
import Derived.Test.YtjpggahiddhanaaZ09
import Derived.Test.YtjpggahiddhanaaZ11
set_option maxRecDepth 100000
set_option maxHeartbeats 16000000
namespace Go.Proofs.Ytjpggahiddhanaa
open Go.RowKit Go.Maps Go.Sort
theorem q5x {w : World} {ops : Array Oper} {o : Oper} {a : Act} {K : Act → World → Prop} {Q : Exit → Act → World → Prop} {X : Prop} {T E : TypeId} {z : Value} {bt : Nat} (hu : Try.prog.underlying T = some (.slice E)) (hin : (Try.prog.info? E).map (fun i => (i.zero,i.size,i.bytes)) = some (some z,1,bt)) (hzs : z.cells.size = 1) (hbt : bt ≤ 1000) (hw : Region.wanted o (yielded ops a.tmps) = true) (s x : Operand)
  (ho : o.op = .call { callee := .builtin .append,args := #[s,x],argTypes := #[T,T] }) (base : Nat)
  (v : Value) (n : Nat) (xs : List Value) (y : Value) (g : Nat) (hs : a.eval s = v) (hx : a.eval x = .slice (some ⟨g,0,none⟩) 1 1) (hown : w.ownsRow base E 1 v n xs)
  (hB : w.cell? ⟨g,0,none⟩ = some y) (h1 : y.oneCell' = true) (hn : n ≤ 100000000) (hbase : base ≤ w.heap.size)
  (h : ∀ v' w',w'.ownsRow base E 1 v' (n + 1) (xs ++ [y]) → w.grownBy w' v.ownBlock → K (a.put o.dst v') w') :
  if Region.wanted o (yielded ops a.tmps) = true then Oper.wp Try.prog o a w K Q else X := by
 rw [if_pos hw]
 obtain ⟨i,hi,hz0,hz1,hz2⟩ := info_parts hin
 have hb : (n + 1) * bt ≤ (100000000 + 1) * 1000 := Nat.mul_le_mul (by omega) hbt
 obtain ⟨v',w',hr,h2,h3,_,h5⟩ := run_append_own_at (P := Try.prog) w base T o.type E i _ 1 bt hu hi hz0 hz1 hz2 hzs (by decide) v n _ hown ⟨g,0,none⟩ 1 1 [y] rfl (fun j u hj => by
  match j with
  | 0 => simp at hj; rw [← hj,q8]; exact hB
  | j + 1 => simp at hj) (fun u hu => by simp at hu; subst hu; exact h1) (by unfold maxLen; omega) (by omega) hbase
 unfold Oper.wp execOp
 simp only [ho,resolve,invoke,builtin,Sem.run_bind,Sem.run_pure,Result.andThen_ok,List.map_toArray,List.map_cons,List.map_nil,hs,hx,hr]
 exact h v' w' h2 h3
theorem q1R {P : Program} {e : TypeId} {s : Nat} (h : (P.info? e).map (·.size) = some s) (w : World) : (sizeOf e).run P w = .ok s w := by
 cases hq : P.info? e with
 | none => simp [hq] at h
 | some i => simp [hq] at h; simp [sizeOf,typeInfo,hq,h]
theorem q5a {P : Program} {T e : TypeId} {s : Nat} (hu : P.underlying T = some (.slice e)) (hs : (P.info? e).map (·.size) = some s) (a : Option Addr) (n cap m : Nat) (hl : m ≤ n) (hc : n ≤ cap) (hn : a = none → cap = 0) (w : World) :
  (Instr.sliceAt T (.slice a n cap) none (some (.int .i64 (m : Int))) none).run P w = .ok (.slice a m cap) w := by
 cases a with
 | none =>
  have := hn rfl
  subst this
  obtain rfl : n = 0 := by omega
  obtain rfl : m = 0 := by omega
  simp [Instr.sliceAt,Instr.slice,run_underlying hu,q1R hs,go_sem]
 | some x =>
  have hmc : m ≤ cap := by omega
  simp [Instr.sliceAt,Instr.slice,run_underlying hu,q1R hs,go_sem,hmc]
theorem q1O : (Try.prog.info? 46).map (·.size) = some 1 := by kernel_rfl
theorem IntSl.preW {P : Program} {T : TypeId} {q : IntKind} {w : World} {a : Option Addr} {len cap : Nat} {zs : List Int} (h : IntSl P T q w a len cap zs) {k : Nat} (hk : k ≤ len) : IntSl P T q w a k cap (zs.take k) :=
 ⟨by rw [List.length_take,h.hlen]; omega,Nat.le_trans hk h.hcap,h.bd,fun n j w h1 h2 => h.idx n j w h1 (Nat.le_trans h2 hk),fun j hj => by
  rw [h.cell j (by omega)]
  congr 2
  rw [List.getD_eq_getElem?_getD,List.getD_eq_getElem?_getD,List.getElem?_take,if_pos hj],fun j hj => h.blk j (by omega),h.nn⟩
def TolU (K : Nat) (R : List (List Nat)) (bs : List Bool) (ts : List Nat) (k : Nat) (vs : List Nat) : Prop := vs.length = k + 1 ∧ ∀ i,i ≤ k → TolW K R bs (runP R 0 (ts.take i)) (vs.getD i 0)
theorem TolU.start {K : Nat} {R : List (List Nat)} {bs : List Bool} {ts : List Nat} {v : Nat} (h : TolW K R bs 0 v) : TolU K R bs ts 0 [v] := by
 refine ⟨rfl,fun i hi => ?_⟩
 obtain rfl : i = 0 := by omega
 exact h
theorem TolU.next {K : Nat} {R : List (List Nat)} {bs : List Bool} {ts : List Nat} {k : Nat} {vs : List Nat} (h : TolU K R bs ts k vs) {v : Nat} (hv : TolW K R bs (runP R 0 (ts.take (k + 1))) v) : TolU K R bs ts (k + 1) (vs ++ [v]) := by
 refine ⟨by rw [List.length_append,h.1]; rfl,fun i hi => ?_⟩
 by_cases e : i ≤ k
 ·rw [List.getD_eq_getElem?_getD,List.getElem?_append_left (by rw [h.1]; omega),← List.getD_eq_getElem?_getD]; exact h.2 i e
 ·obtain rfl : i = k + 1 := by omega
  rw [List.getD_eq_getElem?_getD,List.getElem?_append_right (by rw [h.1]; exact Nat.le_refl _),h.1,Nat.sub_self]; exact hv
theorem TolU.uni {K : Nat} {R : List (List Nat)} {bs : List Bool} {ts : List Nat} {k : Nat} {vs vs' : List Nat} (h : TolU K R bs ts k vs) (h' : TolU K R bs ts k vs') : vs = vs' := by
 refine List.ext_getElem (by rw [h.1,h'.1]) fun q h1 h2 => ?_
 have := (h.2 q (by rw [h.1] at h1; omega)).uni (h'.2 q (by rw [h.1] at h1; omega))
 rwa [qG h1,qG h2] at this
theorem RwB.set {w : World} {g : Nat} {p : Int} {aA : Option Addr} {nA cA : Nat} {aG : Option Addr} {nG cG : Nat} {aN : Option Addr} {nN cN : Nat} {d : Option Addr} {m c : Nat} (h : RwB w g p aA nA cA aG nG cG aN nN cN d m c) (d' : Option Addr) (m' c' : Nat) : RwB (w.setCell ⟨g,4,none⟩ (.slice d' m' c')) g p aA nA cA aG nG cG aN nN cN d' m' c' := by
 have := heap_setCell_same w g 4 _ _ (.slice d' m' c') h.blk
 exact ⟨by rw [this]; rfl⟩
theorem q2n {n : Int} {zs : List Int} (h : traceE n zs = 0) : zs.length ≤ 1024 := by
 unfold traceE at h
 split at h
 ·split at h
  ·exact absurd h (by decide)
  ·omega
 ·exact absurd h (by decide)
def RalR (p : Int) (nA : Nat) (bs : List Bool) (N : List Gd) (gs : List Int) (ts : List Nat) (w : World) (e : Ending) (w' : World) : Prop :=
 Below w.heap.size w w' ∧ ((¬ MayG p nA N gs ∧ e = .returned (.tuple #[.slice none 0 0,.int .i64 12])) ∨ (MayG p nA N gs ∧ traceE p (ts.map Int.ofNat) ≠ 0 ∧ e = .returned (.tuple #[.slice none 0 0,.int .i64 (traceE p (ts.map Int.ofNat))])) ∨
  (MayG p nA N gs ∧ traceE p (ts.map Int.ofNat) = 0 ∧ ∃ (vs : List Nat) (a : Option Addr) (c : Nat),e = .returned (.tuple #[.slice a (ts.length + 1) c,.int .i64 0]) ∧ Hid (TolU (2 ^ p.toNat) (rwA p N gs) bs ts ts.length vs) ∧ Hid (w'.ownsRow w.heap.size 59 1 (.slice a (ts.length + 1) c) (ts.length + 1) (vdV vs))))
theorem q3H (p : Int) (aA : Option Addr) (nA cA : Nat) (aG : Option Addr) (nG cG : Nat) (aN : Option Addr) (nN cN : Nat) (bs : List Bool) (N : List Gd) (gs : List Int) (d : Option Addr) (m c : Nat) (ts : List Nat) (w : World) (hB : BoSl w aA nA cA bs) (hN : NdSl w aN nN cN N) (hG : ZSl w aG nG cG gs) (hA : nA ≤ 1000000) (hNN : nN ≤ 1000000) (hL : LtC w d m c ts) (h256 : ∀ x ∈ ts,x < 256) :
  Calls Try.prog 19 #[.agg #[.int .i64 p,.slice aA nA cA,.slice aG nG cG,.slice aN nN cN],.slice d m c] w (RalR p nA bs N gs ts w) := by
 obtain ⟨Z,eZ⟩ : ∃ Z,Z = RalR p nA bs N gs ts w := ⟨_,rfl⟩
 have HZ : Hid (∀ e w',RalR p nA bs N gs ts w e w' → Z e w') := fun e w' h => by rw [eZ]; exact h
 rw [← eZ]
 clear eZ
 obtain ⟨w1,hw1⟩ : ∃ w1,w1 = w.alloc (.cells #[.int .i64 p,.slice aA nA cA,.slice aG nG cG,.slice aN nN cN] 26 (0,0)) := ⟨_,rfl⟩
 have HV1 : Hid (AuB w1 w.heap.size p aA nA cA aG nG cG aN nN cN) := by show AuB _ _ _ _ _ _ _ _ _ _ _ _; rw [hw1]; exact qb _ _ _ _ _ _ _ _ _ _ _
 have hb1 : Below w.heap.size w w1 := by rw [hw1]; exact q6 _ _
 have j1 := q3i p aA nA cA aG nG cG aN nN cN N gs w1 (hN.up hb1) (hG.up hb1) hA hNN
 have HB1 : Hid _ := hb1
 have HW1 : Hid _ := hw1
 have HBo : Hid _ := hB
 have HN : Hid _ := hN
 have HG : Hid _ := hG
 have HL : Hid (LtC w d m c ts) := hL
 have H256 : Hid _ := h256
 have hmc := Nat.le_trans hL.hcap hL.bd
 have hcm := hL.hcap
 have hnn := hL.nn
 have hlm : ts.length = m := by have := hL.hlen; rw [List.length_map] at this; exact this
 unfold maxLen at hmc
 clear hw1 hb1 hN hG hB hL h256
 obtain ⟨c0,c1,c2,c3⟩ := HV1.out
 go_enter Try.func19,Try.ntmps19
 go_wp2_with (rw [← HW1.out])
 refine j1.mono ?_
 rintro e w2 ⟨hb2,⟨hM,rfl⟩ | ⟨hM,g,rfl,hg,HR⟩⟩
 ·have HE : Hid _ := HZ.out (.returned (.tuple #[.slice none 0 0,.int .i64 12])) w2 ⟨q5 HB1.out hb2,.inl ⟨hM,rfl⟩⟩
  clear c0 c1 c2 c3 j1 HZ hb2 hM HV1 HB1
  go_wp2
  exact HE.out
 have HV2 : Hid (AuB w2 w.heap.size p aA nA cA aG nG cG aN nN cN) := HV1.out.up hb2
 have HB2 : Hid (Below w1.heap.size w1 w2) := hb2
 have HM : Hid (MayG p nA N gs) := hM
 have hs1 := hM.s1
 have hs2 := hM.s2
 have HGE : Hid (w1.heap.size ≤ g) := hg
 have hbb := q5 HB1.out hb2
 have jt := q1Y p d m c (ts.map Int.ofNat) w2 (HL.out.up hbb) (fun z hz => by obtain ⟨x,hx,rfl⟩ := List.mem_map.1 hz; have := H256.out x hx; exact ⟨by simp,by simp; omega⟩)
 clear c0 c1 c2 c3 j1 hb2 hM HW1 hg
 obtain ⟨c0,c1,c2,c3⟩ := HV2.out
 by_cases hE : traceE p (ts.map Int.ofNat) = 0
 rotate_left
 ·have HE : Hid _ := HZ.out (.returned (.tuple #[.slice none 0 0,.int .i64 (traceE p (ts.map Int.ofNat))])) w2 ⟨hbb,.inr (.inl ⟨HM.out,hE,rfl⟩)⟩
  have e5 : (traceE p (ts.map Int.ofNat) != 0) = true := by simpa using hE
  clear HZ HR hbb HB1 HB2 hE
  generalize traceE p (ts.map Int.ofNat) = tE at *
  go_wp2_with (go_at_call 48; (with_reducible refine jt.mono ?_); rintro e w' ⟨rfl,hw1⟩; obtain rfl := hw1.symm)
  exact HE.out
 have HT : Hid (∀ x ∈ ts,x < 2 ^ p.toNat) := q1T HM.out hE
 have HEQ : Hid _ := hE
 have hm1024 : m ≤ 1024 := by have := q2n hE; rw [List.length_map] at this; omega
 rw [hE] at jt
 have jv := qJ p aA nA cA aG nG cG aN nN cN bs N gs 0 w2 HM.out (HBo.out.up hbb) (HN.out.up hbb) (HG.out.up hbb) (by omega)
 clear hE hbb
 go_wp2_with (go_at_call 48; (with_reducible refine jt.mono ?_); rintro e w' ⟨rfl,hw1⟩; obtain rfl := hw1.symm)
 refine jv.mono ?_
 rintro e w3 ⟨hb3,v0,rfl,HT0⟩
 have hB3 := q5 HB2.out hb3
 obtain ⟨w4,hw4⟩ : ∃ w4,w4 = w3.alloc (.cells #[.int .u8 (v0 : Int)] 59) := ⟨_,rfl⟩
 have hb34 : Below w3.heap.size w3 w4 := by rw [hw4]; exact q6 _ _
 have HB4 : Hid (Below w1.heap.size w1 w4) := q5 hB3 hb34
 have HR4 : Hid (RwB w4 g p aA nA cA aG nG cG aN nN cN none 0 0) := HR.out.up (q5 hb3 hb34)
 have HO4 : Hid (w4.ownsRow w3.heap.size 59 1 (.slice (some ⟨w3.heap.size,0,none⟩) 1 1) 1 (vdV [v0])) := by
  show World.ownsRow _ _ _ _ _ _ _
  rw [hw4]
  exact ⟨rfl,.inr ⟨w3.heap.size,1,_,rfl,Nat.le_refl _,(MapKept.heap_alloc w3 _).1,Nat.le_refl _,by decide,rfl,rfl⟩⟩
 have HT4 : Hid (TolU (2 ^ p.toNat) (rwA p N gs) bs ts 0 [v0]) := TolU.start HT0.out
 have HG3 : Hid (g < w3.heap.size) := (HR.out.up hb3).lt
 have HS3 : Hid (w1.heap.size ≤ w3.heap.size) := hB3.size
 have HW4 : Hid _ := hw4
 clear jt jv hb3 hB3 hw4 hb34 c0 c1 c2 c3 HT0 HR HB2 HV2
 go_upto_block 0 with (rw [← HW4.out])
 clear HW4
 generalize w3.heap.size = b3 at *
 go_wp2
 go_loopw [9,10] (fun v i wr => ∃ (k : Nat) (vs : List Nat),k ≤ m ∧ i = .int .i64 (k : Int) ∧ Hid (TolU (2 ^ p.toNat) (rwA p N gs) bs ts k vs) ∧ Hid (wr.ownsRow b3 59 1 v (k + 1) (vdV vs)) ∧ Hid (∃ d' m' c',RwB wr g p aA nA cA aG nG cG aN nN cN d' m' c') ∧ Hid (Below w1.heap.size w1 wr)) (fun _ i _ => m - (intOf i).toNat)
 case atStart => exact ⟨0,[v0],Nat.zero_le _,rfl,HT4,HO4,⟨_,_,_,HR4.out⟩,HB4⟩
 case round =>
  obtain ⟨k,vs,hk,rfl,HTU,HO,HRX,HB⟩ := hrel
  clear HT4 HO4 HR4 HB4
  obtain ⟨va,vc,rfl⟩ := qk HO.out
  by_cases hlt : k < m
  ·obtain ⟨d',m',c',hR⟩ := HRX.out
   have e1 : decide ((k : Int) < (m : Int)) = true := decide_eq_true (by omega)
   have hsl : ∀ w' : World,(Instr.sliceAt 41 (.slice d m c) none (some (.int .i64 ((k : Int) + 1))) none).run Try.prog w' = .ok (.slice d (k + 1) c) w' := fun w' => by
    have := q5a Try.underlying41 q1O d m c (k + 1) hlt hcm hnn w'
    simpa using this
   obtain ⟨_,_,_,_,x4⟩ := hR.c
   have fz := frozen_of_row wr g 4 _ _ hR.blk
   obtain ⟨w5,hw5⟩ : ∃ w5,w5 = wr.setCell ⟨g,4,none⟩ (.slice d (k + 1) c) := ⟨_,rfl⟩
   have HW5 : Hid _ := hw5
   have HR5 : Hid (RwB w5 g p aA nA cA aG nG cG aN nN cN d (k + 1) c) := by show RwB _ _ _ _ _ _ _ _ _ _ _ _ _ _ _; rw [hw5]; exact hR.set d (k + 1) c
   have HB5 : Hid (Below w1.heap.size w1 w5) := by show Below _ _ _; rw [hw5]; exact HB.out.setCell (by dsimp only; exact HGE.out) _
   have HO5 : Hid (w5.ownsRow b3 59 1 (.slice va (k + 1) vc) (k + 1) (vdV vs)) := by
    show World.ownsRow _ _ _ _ _ _ _
    rw [hw5]
    exact q15 HO.out (by dsimp only; have := HG3.out; omega) _
   clear hw5 hR HO HB HRX
   have hln : ∀ l ∈ ts.take (k + 1),l < 2 ^ p.toNat := fun l hl => HT.out l (List.mem_of_mem_take hl)
   have hsn : runP (rwA p N gs) 0 (ts.take (k + 1)) < nA := (HM.out.rows _).run (ts.take (k + 1)) 0 (by omega) hln
   have hbd : Below w5.heap.size w5 w5.drew := (Below.refl _ _).drew
   have HBw : Hid (Below w.heap.size w w5) := q5 HB1.out HB5.out
   have HV5 : Hid (AuB w5 w.heap.size p aA nA cA aG nG cG aN nN cN) := HV1.out.up HB5.out
   have js : Calls Try.prog 44 #[.pointer (some ⟨g,0,none⟩)] w5.drew fun e w9 => e = .returned (.int .i64 ((runP (rwA p N gs) 0 (ts.take (k + 1)) : Nat) : Int)) ∧ Hid (Below w5.heap.size w5 w9) ∧ Hid (AuB w9 w.heap.size p aA nA cA aG nG cG aN nN cN) := by
    have hb := q5 HBw.out hbd
    have hL5 := (HL.out.up hb).preW (k := k + 1) hlt
    rw [← List.map_take] at hL5
    refine (q2E p aA nA cA aG nG cG aN nN cN N gs g d (k + 1) c (ts.take (k + 1)) w5.drew HM.out (HN.out.up hb) (HG.out.up hb) (HR5.out.up hbd) hL5 hln).mono ?_
    rintro e w9 ⟨rfl,h9⟩
    exact ⟨rfl,q5 hbd h9,HV5.out.up (q5 hbd h9)⟩
   have JV : Hid (∀ w9,Hid (Below w5.heap.size w5 w9) → Calls Try.prog 43 #[.agg #[.int .i64 p,.slice aA nA cA,.slice aG nG cG,.slice aN nN cN],.int .i64 ((runP (rwA p N gs) 0 (ts.take (k + 1)) : Nat) : Int)] w9 fun e wt => ∃ v9 : Nat,e = .returned (.int .u8 (v9 : Int)) ∧ Hid (TolU (2 ^ p.toNat) (rwA p N gs) bs ts (k + 1) (vs ++ [v9])) ∧ Hid (Below w5.heap.size w5 wt) ∧ (wt.alloc (.cells #[.int .u8 (v9 : Int)] 59)).ownsRow b3 59 1 (.slice va (k + 1) vc) (k + 1) (vdV vs) ∧ (wt.alloc (.cells #[.int .u8 (v9 : Int)] 59)).cell? ⟨wt.heap.size,0,none⟩ = some (.int .u8 (v9 : Int)) ∧ Hid (AuB wt w.heap.size p aA nA cA aG nG cG aN nN cN)) := fun w9 h9 => by
    have hb := q5 HBw.out h9.out
    refine (qJ p aA nA cA aG nG cG aN nN cN bs N gs _ w9 HM.out (HBo.out.up hb) (HN.out.up hb) (HG.out.up hb) hsn).mono ?_
    rintro e wt ⟨ht,v9,rfl,hT⟩
    have h5t := q5 h9.out ht
    exact ⟨v9,rfl,HTU.out.next hT.out,h5t,World.ownsRow.alloc (qg HO5.out h5t) _,q7 (MapKept.heap_alloc wt _).1 0,HV5.out.up h5t⟩
   have HFN : Hid (∀ (wt : World) (v9 : Nat) (v7 : Value) (w7 : World),Hid (Below w5.heap.size w5 wt) → w7.ownsRow b3 59 1 v7 (k + 1 + 1) (vdV vs ++ [.int .u8 (v9 : Int)]) → (wt.alloc (.cells #[.int .u8 (v9 : Int)] 59)).grownBy w7 (Value.slice va (k + 1) vc).ownBlock → Hid (w7.ownsRow b3 59 1 v7 (k + 1 + 1) (vdV (vs ++ [v9]))) ∧ Hid (∃ d' m' c',RwB w7 g p aA nA cA aG nG cG aN nN cN d' m' c') ∧ Hid (Below w1.heap.size w1 w7)) := fun wt v9 v7 w7 h1 h2 h3 => by
    have hbt := q5 h1.out (q6 wt (.cells #[.int .u8 (v9 : Int)] 59))
    have hge := qy (qg HO5.out hbt)
    have hRt := HR5.out.up hbt
    have hB1t := q5 HB5.out hbt
    refine ⟨by show World.ownsRow _ _ _ _ _ _ _; rw [vdV,List.map_append,List.map_append]; exact h2,⟨_,_,_,⟨(h3.block g hRt.lt (fun e => ?_)).trans hRt.blk⟩⟩,hB1t.grown h3 hB1t.size (fun q e => ?_)⟩
    ·have := hge g e.symm; have := HG3.out; omega
    ·have := hge q e; have := HS3.out; omega
   have hb35 : b3 ≤ w5.heap.size := by
    rcases HO5.out.2 with ⟨h,_⟩ | ⟨g',cap,cur,_,hg',hc',_⟩
    ·cases h
    ·have := (Array.getElem?_eq_some_iff.1 hc').1; omega
   generalize runP (rwA p N gs) 0 (ts.take (k + 1)) = sn at *
   generalize hvv : vdV vs = xv at *
   obtain ⟨y0,y1,y2,y3⟩ := HV5.out
   go_upto_region 12 with (rw [← HW5.out])
   clear HW5 x4 fz hsl
   go_region_law (first
    | (revert hO9; intro hO9; refine q5x Try.underlying51 q1n rfl (by decide) rfl _ _ rfl b3 (.slice va (k + 1) vc) (k + 1) xv (.int .u8 (v9 : Int)) wt.heap.size rfl rfl hO9 hc9 rfl (by omega) (by have := HBt.out.size; simp; omega) ?_; intro v7 w7 hown7 hgr7; obtain ⟨a7,k7,rfl⟩ := qk hown7; obtain ⟨HO7,HRX7,HB7⟩ := HFN.out wt v9 _ w7 HBt hown7 hgr7)
    | (revert jv; intro jv; go_simp; (with_reducible refine jv.mono ?_); rintro e wt ⟨v9,rfl,HTN,HBt,hO9,hc9,HAt⟩; obtain ⟨q0,q1,q2,q3⟩ := HAt.out; dsimp only)
    | (revert js; intro js; go_simp; (with_reducible refine js.mono ?_); rintro e w9 ⟨rfl,HB9,HA9⟩; obtain ⟨z0,z1,z2,z3⟩ := HA9.out; have jv := JV.out w9 HB9; dsimp only)
    | fail)
   all_goals
    clear js JV HFN hO9 hc9 hown7 hgr7
    subst hvv
    go_wp2
    go_roundw
    case rel => exact ⟨k + 1,vs ++ [v9],by omega,by go_num,HTN,HO7,HRX7,HB7⟩
    case measure => simp [intOf] <;> omega
  ·obtain rfl : k = m := by omega
   have hsz : w.heap.size ≤ b3 := Nat.le_trans HB1.out.size HS3.out
   have HE : Hid _ := HZ.out (.returned (.tuple #[.slice va (k + 1) vc,.int .i64 0])) wr ⟨q5 HB1.out HB.out,.inr (.inr ⟨HM.out,HEQ.out,vs,va,vc,by rw [hlm],by rw [hlm]; exact HTU,by rw [hlm]; exact qj HO.out hsz⟩)⟩
   have e1 : decide ((k : Int) < (k : Int)) = false := by simp
   clear HZ HTU HO HB HRX hsz hlm
   go_wp2
   exact HE.out
end Go.Proofs.Ytjpggahiddhanaa
namespace Go.Proofs.Ytjpggahiddhanaa
open Go.RowKit Go.Maps
abbrev VdC (w : World) (a : Option Addr) (len cap : Nat) (vs : List Nat) : Prop := IntSl Try.prog 51 .u8 w a len cap (vs.map Int.ofNat)
theorem qP : (Try.prog.info? 59).map (·.size) = some 1 := by kernel_rfl
theorem qv {w : World} {base n : Nat} {a : Option Addr} {c : Nat} {vs : List Nat} (h : w.ownsRow base 59 1 (.slice a n c) n (vdV vs)) : VdC w a n c vs := by
 obtain ⟨a',c',e,hS,_⟩ := qU h Try.underlying51 qP
 injection e with e1 _ e3
 subst e1; subst e3
 exact hS
theorem q3q (a : Option Addr) (len cap : Nat) (xs : List Int) (a' : Option Addr) (len' cap' : Nat) (ys : List Int) (w : World)
  (hS : IntSl Try.prog 51 .u8 w a len cap xs) (hO : IntSl Try.prog 51 .u8 w a' len' cap' ys) :
  Calls Try.prog 22 #[.slice a len cap,.slice a' len' cap'] w fun e w' => e = .returned (.bool (decide (xs = ys))) ∧ ∃ n,w' = w.drewN n := by
 have hb0 := hS.bd
 have hb1 := hS.hcap
 have hb2 := hO.bd
 have hb3 := hO.hcap
 unfold maxLen at hb0 hb2
 by_cases hll : len = len'
 ·subst hll
  have hidx := fun (k : Nat) (w : World) (h : k < len) => hS.idx len k w h (Nat.le_refl _)
  have hidx' := fun (k : Nat) (w : World) (h : k < len) => hO.idx len k w h (Nat.le_refl _)
  go_enter Try.func22,Try.ntmps22
  go_wp2
  go_loopw [5] (fun i wr => ∃ k : Nat,k ≤ len ∧ i = .int .i64 k ∧ Hid (xs.take k = ys.take k) ∧ Hid (∃ n,wr = w.drewN n)) (fun i _ => len - (intOf i).toNat)
  case atStart => exact ⟨0,Nat.zero_le _,rfl,by show _ = _; simp,0,rfl⟩
  case round =>
   obtain ⟨k,hk,rfl,HU,hwr⟩ := hrel
   by_cases hlt : k < len
   ·have hS' : IntSl Try.prog 51 .u8 wr a len cap xs := by obtain ⟨n,hn⟩ := hwr.out; rw [hn]; exact hS.drewN n
    have hO' : IntSl Try.prog 51 .u8 wr a' len cap' ys := by obtain ⟨n,hn⟩ := hwr.out; rw [hn]; exact hO.drewN n
    have hck := hS'.cell k hlt
    have hck' := hO'.cell k hlt
    have HN : Hid (xs.getD k 0 = ys.getD k 0 → xs.take (k + 1) = ys.take (k + 1)) := fun h => q16 (by rw [hS.hlen]; exact hlt) (by rw [hO.hlen]; exact hlt) HU.out h
    have HM : Hid (xs.getD k 0 ≠ ys.getD k 0 → decide (xs = ys) = false) := fun h => decide_eq_false (fun e => h (by rw [e]))
    clear hS' hO'
    generalize xs.getD k 0 = x at *
    generalize ys.getD k 0 = y at *
    go_wp2
    go_quiet (fail)
    rcases Bool.eq_false_or_eq_true (x != y) with ht | ht
    ·go_wp2
     go_ret
     obtain ⟨n,hn⟩ := hwr.out
     exact ⟨by rw [HM.out (by simpa using ht)]; rfl,n + nq,by rw [hn,World.drewN_drewN]⟩
    ·have HN2 : Hid _ := HN.out (by simpa using ht)
     go_wp2
     go_roundw
     case rel =>
      obtain ⟨n,hn⟩ := hwr.out
      exact ⟨k + 1,by omega,by go_num,HN2,n + nq,by rw [hn,World.drewN_drewN]⟩
     case measure => simp [intOf]; omega
   ·have hx : Hid (decide (xs = ys) = true) := by
     have := HU.out
     rw [List.take_of_length_le (by rw [hS.hlen]; omega),List.take_of_length_le (by rw [hO.hlen]; omega)] at this
     exact decide_eq_true this
    go_wp2
    go_ret
    exact ⟨by rw [hx.out]; rfl,hwr.out⟩
 ·have hx : Hid (decide (xs = ys) = false) := decide_eq_false (fun e => hll (by rw [← hS.hlen,← hO.hlen,e]))
  have hll' : ((len : Int) != (len' : Int)) = true := by simp; omega
  clear hll
  go_enter Try.func22,Try.ntmps22
  go_wp2
  go_ret
  exact ⟨by rw [hx.out]; rfl,0,rfl⟩
theorem qm {w : World} {a : Option Addr} {n c : Nat} {vs : List Nat} {a' : Option Addr} {c' : Nat} (h : VdC w a n c vs) (h' : VdC w a' n c' vs) :
  Calls Try.prog 22 #[.slice a n c,.slice a' n c'] w fun e w' => e = .returned (.bool true) ∧ Below w.heap.size w w' :=
 (q3q a n c _ a' n c' _ w h h').mono fun e w' ⟨he,k,hw⟩ => by
  rw [decide_eq_true rfl] at he
  subst hw
  exact ⟨he,below_drewN (Below.refl _ _) k⟩
end Go.Proofs.Ytjpggahiddhanaa
namespace Go.Proofs.Ytjpggahiddhanaa
open Go.RowKit Go.Maps Go.Sort
theorem q42 {w : World} {base e n i : Nat} {v : Value} {xs : List Value} (h : w.ownsRow base e 1 v n xs) (hi : i < n) (y : Value) : ∃ g cap,v = .slice (some ⟨g,0,none⟩) n cap ∧ base ≤ g ∧ n ≤ cap ∧ w.cell? ⟨g,i,none⟩ = xs[i]? ∧ w.frozen? ⟨g,i,none⟩ = false ∧ (w.setCell ⟨g,i,none⟩ y).ownsRow base e 1 v n (xs.set i y) := by
 obtain ⟨hl,h⟩ := h
 rcases h with ⟨rfl,h0⟩ | ⟨g,cap,cur,rfl,hg,hcell,hnc,hcm,hsz,htk⟩
 ·omega
 ·have hcu : cur.toList.length = cap := by simpa using hsz
  refine ⟨g,cap,rfl,hg,hnc,?_,frozen_of_row w g i _ _ hcell,by simpa using hl,Or.inr ⟨g,cap,cur.setIfInBounds i y,rfl,hg,heap_setCell_same w g i _ _ y hcell,hnc,hcm,by simpa using hsz,?_⟩⟩
  ·rw [q7 hcell i,← htk,List.getElem?_take,if_pos (by omega)]
   simp
  ·rw [← htk]
   simp [List.take_set]
def AllU (p : Int) (nA : Nat) (bs : List Bool) (N : List Gd) (gs : List Int) (ts vs : List Nat) (E : Int) : Prop :=
 (¬ MayG p nA N gs ∧ vs = [] ∧ E = 12) ∨ (MayG p nA N gs ∧ traceE p (ts.map Int.ofNat) ≠ 0 ∧ vs = [] ∧ E = traceE p (ts.map Int.ofNat)) ∨ (MayG p nA N gs ∧ traceE p (ts.map Int.ofNat) = 0 ∧ TolU (2 ^ p.toNat) (rwA p N gs) bs ts ts.length vs ∧ E = 0)
theorem AllU.uni {p : Int} {nA : Nat} {bs : List Bool} {N : List Gd} {gs : List Int} {ts vs vs' : List Nat} {E E' : Int} (h : AllU p nA bs N gs ts vs E) (h' : AllU p nA bs N gs ts vs' E') : vs = vs' ∧ E = E' := by
 rcases h with ⟨h1,rfl,rfl⟩ | ⟨h1,h2,rfl,rfl⟩ | ⟨h1,h2,h3,rfl⟩ <;> rcases h' with ⟨k1,rfl,rfl⟩ | ⟨k1,k2,rfl,rfl⟩ | ⟨k1,k2,k3,rfl⟩ <;> first
  | exact ⟨rfl,rfl⟩
  | exact absurd k1 h1
  | exact absurd h1 k1
  | exact absurd k2 h2
  | exact absurd h2 k2
  | exact ⟨h3.uni k3,rfl⟩
def TolA (p : Int) (nA : Nat) (bs : List Bool) (N : List Gd) (gs : List Int) (us : List Nat) (F : Int) : Prop :=
 (¬ MayG p nA N gs ∧ us = [] ∧ F = 12) ∨ (MayG p nA N gs ∧ TolL (2 ^ p.toNat) (rwA p N gs) bs nA us ∧ F = 0)
theorem TolA.uni {p : Int} {nA : Nat} {bs : List Bool} {N : List Gd} {gs : List Int} {us us' : List Nat} {F F' : Int} (h : TolA p nA bs N gs us F) (h' : TolA p nA bs N gs us' F') : us = us' ∧ F = F' := by
 rcases h with ⟨h1,rfl,rfl⟩ | ⟨h1,h2,rfl⟩ <;> rcases h' with ⟨k1,rfl,rfl⟩ | ⟨k1,k2,rfl⟩ <;> first
  | exact ⟨rfl,rfl⟩
  | exact absurd k1 h1
  | exact absurd h1 k1
  | exact ⟨h2.uni k2,rfl⟩
def VdR (P : List Nat → Int → Prop) (w : World) (e : Ending) (w' : World) : Prop :=
 ∃ (vs : List Nat) (E : Int) (a : Option Addr) (c : Nat),e = .returned (.tuple #[.slice a vs.length c,.int .i64 E]) ∧ Hid (P vs E) ∧ Hid (w'.ownsRow w.heap.size 59 1 (.slice a vs.length c) vs.length (vdV vs)) ∧ Hid (Below w.heap.size w w')
theorem RalR.one {p : Int} {nA : Nat} {bs : List Bool} {N : List Gd} {gs : List Int} {ts : List Nat} {w : World} {e : Ending} {w' : World} (h : RalR p nA bs N gs ts w e w') : VdR (AllU p nA bs N gs ts) w e w' := by
 obtain ⟨hb,⟨h1,rfl⟩ | ⟨h1,h2,rfl⟩ | ⟨h1,h2,vs,a,c,rfl,h3,h4⟩⟩ := h
 ·exact ⟨[],12,none,0,rfl,.inl ⟨h1,rfl,rfl⟩,⟨rfl,.inl ⟨rfl,rfl⟩⟩,hb⟩
 ·exact ⟨[],_,none,0,rfl,.inr (.inl ⟨h1,h2,rfl,rfl⟩),⟨rfl,.inl ⟨rfl,rfl⟩⟩,hb⟩
 ·have hl := h3.out.1
  exact ⟨vs,0,a,c,by rw [hl],.inr (.inr ⟨h1,h2,h3.out,rfl⟩),by rw [hl]; exact h4,hb⟩
theorem RtoR.one {p : Int} {nA : Nat} {bs : List Bool} {N : List Gd} {gs : List Int} {w : World} {e : Ending} {w' : World} (h : RtoR p nA bs N gs w e w') : VdR (TolA p nA bs N gs) w e w' := by
 obtain ⟨hb,⟨h1,rfl⟩ | ⟨h1,vs,a,c,rfl,h3,h4⟩⟩ := h
 ·exact ⟨[],12,none,0,rfl,.inl ⟨h1,rfl,rfl⟩,⟨rfl,.inl ⟨rfl,rfl⟩⟩,hb⟩
 ·have hl := h3.out.1
  exact ⟨vs,0,a,c,by rw [hl],.inr ⟨h1,h3.out,rfl⟩,by rw [hl]; exact h4,hb⟩
structure FarW (w w' : World) (lo hi : Nat) : Prop where
 os : w'.os = w.os
 tape : w'.tape = w.tape
 output : w'.output = w.output
 size : w.heap.size ≤ w'.heap.size
 block : ∀ k,k < w.heap.size → (k < lo ∨ hi ≤ k) → w'.heap[k]? = w.heap[k]?
theorem FarW.refl (w : World) (lo hi : Nat) : FarW w w lo hi := ⟨rfl,rfl,rfl,Nat.le_refl _,fun _ _ _ => rfl⟩
theorem FarW.set {w w' : World} {lo hi : Nat} (h : FarW w w' lo hi) {g : Nat} (h1 : lo ≤ g) (h2 : g < hi) (o : Nat) (u : Value) : FarW w (w'.setCell ⟨g,o,none⟩ u) lo hi :=
 ⟨h.os,h.tape,h.output,by simp; exact h.size,fun k hk hn => (Below.heap_setCell _ _ _ _ (by dsimp only; omega)).trans (h.block k hk hn)⟩
theorem FarW.below {w0 w w' : World} {hi : Nat} (h : FarW w w' w0.heap.size hi) (h0 : Below w0.heap.size w0 w) : Below w0.heap.size w0 w' :=
 ⟨h.os.trans h0.os,h.tape.trans h0.tape,h.output.trans h0.output,Nat.le_trans h0.size h.size,fun k hk => (h.block k (Nat.lt_of_lt_of_le hk h0.size) (.inl hk)).trans (h0.block k hk)⟩
theorem q4Z {w w' : World} {a : Addr} (h : w'.heap[a.block]? = w.heap[a.block]?) : w'.cell? a = w.cell? a := by simp [World.cell?,h]
theorem FarW.sl {P : Program} {T : TypeId} {q : IntKind} {w w' : World} {lo hi : Nat} {a : Option Addr} {n c : Nat} {zs : List Int} (h : FarW w w' lo hi) (hS : IntSl P T q w a n c zs) (hb : ∀ k,k < n → hi ≤ (adOf a k).block) : IntSl P T q w' a n c zs :=
 ⟨hS.hlen,hS.hcap,hS.bd,hS.idx,fun k hk => (q4Z (h.block _ (hS.blk k hk) (.inr (hb k hk)))).trans (hS.cell k hk),fun k hk => Nat.lt_of_lt_of_le (hS.blk k hk) h.size,hS.nn⟩
theorem q5f {w : World} {base n : Nat} {a : Option Addr} {c : Nat} {vs : List Nat} (h : w.ownsRow base 59 1 (.slice a n c) n (vdV vs)) : ∀ k,k < n → base ≤ (adOf a k).block := by
 obtain ⟨a',c',e,_,hS⟩ := qU h Try.underlying51 qP
 injection e with e1 _ e3
 subst e1; subst e3
 exact hS
def AllCW : Prop := ∀ (p : Int) (aA : Option Addr) (nA cA : Nat) (aG : Option Addr) (nG cG : Nat) (aN : Option Addr) (nN cN : Nat) (bs : List Bool) (N : List Gd) (gs : List Int) (d : Option Addr) (m c : Nat) (ts : List Nat) (w : World),BoSl w aA nA cA bs → NdSl w aN nN cN N → ZSl w aG nG cG gs → (∀ z ∈ gs,I64 z) → nA ≤ 1000000 → nN ≤ 1000000 → LtC w d m c ts → (∀ x ∈ ts,x < 256) →
  Calls Try.prog 18 #[.agg #[.int .i64 p,.slice aA nA cA,.slice aG nG cG,.slice aN nN cN],.slice d m c] w (RalR p nA bs N gs ts w)
def ToldCW : Prop := ∀ (p : Int) (aA : Option Addr) (nA cA : Nat) (aG : Option Addr) (nG cG : Nat) (aN : Option Addr) (nN cN : Nat) (bs : List Bool) (N : List Gd) (gs : List Int) (w : World),BoSl w aA nA cA bs → NdSl w aN nN cN N → ZSl w aG nG cG gs → (∀ z ∈ gs,I64 z) → nA ≤ 1000000 → nN ≤ 1000000 →
  Calls Try.prog 20 #[.agg #[.int .i64 p,.slice aA nA cA,.slice aG nG cG,.slice aN nN cN]] w (RtoR p nA bs N gs w)
theorem q2N (HALL : Hid AllCW) (HTOLD : Hid ToldCW) (p : Int) (aA : Option Addr) (nA cA : Nat) (aG : Option Addr) (nG cG : Nat) (aN : Option Addr) (nN cN : Nat) (bs : List Bool) (N : List Gd) (gs : List Int) (d : Option Addr) (m c : Nat) (ts : List Nat) (w : World) (hB : BoSl w aA nA cA bs) (hG : ZSl w aG nG cG gs) (hN : NdSl w aN nN cN N) (hok : ∀ z ∈ gs,I64 z) (hL : LtC w d m c ts) (h256 : ∀ x ∈ ts,x < 256) :
  Calls Try.prog 4 #[.agg #[.int .i64 p,.slice aA nA cA,.slice aG nG cG,.slice aN nN cN],.slice d m c] w fun e w' => e = .returned (.bool true) ∧ Below w.heap.size w w' := by
 obtain ⟨Q,hQ⟩ : ∃ Q : Ending → World → Prop,Q = fun e w' => e = .returned (.bool true) ∧ Below w.heap.size w w' := ⟨_,rfl⟩
 have HQ : Hid (∀ w',Below w.heap.size w w' → Q (.returned (.bool true)) w') := fun w' h => by rw [hQ]; exact ⟨rfl,h⟩
 rw [← hQ]
 clear hQ
 obtain ⟨w1,hw1⟩ : ∃ w1,w1 = w.alloc (.cells #[.int .i64 p,.slice aA nA cA,.slice aG nG cG,.slice aN nN cN] 26 (0,0)) := ⟨_,rfl⟩
 have HV1 : Hid (AuB w1 w.heap.size p aA nA cA aG nG cG aN nN cN) := by show AuB _ _ _ _ _ _ _ _ _ _ _ _; rw [hw1]; exact qb _ _ _ _ _ _ _ _ _ _ _
 have hb1 : Below w.heap.size w w1 := by rw [hw1]; exact q6 _ _
 have js := qQ p aA nA cA aG nG cG aN nN cN w1
 have HB1 : Hid _ := hb1
 have HW1 : Hid _ := hw1
 have HBo : Hid _ := hB
 have HN : Hid _ := hN
 have HG : Hid _ := hG
 have HOK : Hid (∀ z ∈ gs,I64 z) := hok
 have HL : Hid (LtC w d m c ts) := hL
 have H256 : Hid _ := h256
 have hmc := Nat.le_trans hL.hcap hL.bd
 unfold maxLen at hmc
 clear hw1 hb1 hN hG hB hL h256 hok
 generalize hsb : smBp p nA nG nN = sb at *
 have HSB : Hid _ := hsb
 clear hsb
 obtain ⟨c0,c1,c2,c3⟩ := HV1.out
 go_enter Try.func4,Try.ntmps4
 go_upto_region 1 with (rw [← HW1.out])
 clear HW1
 go_cut [35] (fun v wx => ∃ r : Bool,v = .bool r ∧ Hid (r = false → sb = true ∧ m ≤ 1033) ∧ Hid (Below w1.heap.size w1 wx))
 case first =>
  cases sb with
  | false =>
   go_wp2_with fail
   refine js.mono ?_
   rintro e w2 ⟨rfl,hb⟩
   have HB2 : Hid (Below w1.heap.size w1 w2) := hb
   clear js hb c0 c1 c2 c3 HV1 HB1
   go_wp2
   go_meet
   exact ⟨true,rfl,(fun h => by cases h),HB2⟩
  | true =>
   go_wp2_with fail
   refine js.mono ?_
   rintro e w2 ⟨rfl,hb⟩
   have HB2 : Hid (Below w1.heap.size w1 w2) := hb
   clear js hb c0 c1 c2 c3 HV1 HB1
   rcases (show m ≤ 60 ∨ (60 < m ∧ m ≤ 1024) ∨ (1024 < m ∧ m ≤ 1033) ∨ 1033 < m by omega) with h | ⟨h,h'⟩ | ⟨h,h'⟩ | h
   ·have e1 : decide ((60 : Int) < (m : Int)) = false := decide_eq_false (by omega)
    have e3 : decide ((1033 : Int) < (m : Int)) = false := decide_eq_false (by omega)
    go_wp2
    go_meet
    exact ⟨false,rfl,(fun _ => ⟨by simp,by omega⟩),HB2⟩
   ·have e1 : decide ((60 : Int) < (m : Int)) = true := decide_eq_true (by omega)
    have e2 : decide ((m : Int) ≤ 1024) = true := decide_eq_true (by omega)
    go_wp2
    go_meet
    exact ⟨true,rfl,(fun h => by cases h),HB2⟩
   ·have e1 : decide ((60 : Int) < (m : Int)) = true := decide_eq_true (by omega)
    have e2 : decide ((m : Int) ≤ 1024) = false := decide_eq_false (by omega)
    have e3 : decide ((1033 : Int) < (m : Int)) = false := decide_eq_false (by omega)
    go_wp2
    go_meet
    exact ⟨false,rfl,(fun _ => ⟨by simp,by omega⟩),HB2⟩
   ·have e1 : decide ((60 : Int) < (m : Int)) = true := decide_eq_true (by omega)
    have e2 : decide ((m : Int) ≤ 1024) = false := decide_eq_false (by omega)
    have e3 : decide ((1033 : Int) < (m : Int)) = true := decide_eq_true (by omega)
    go_wp2
    go_meet
    exact ⟨true,rfl,(fun h => by cases h),HB2⟩
 case rest =>
 obtain ⟨r,rfl,HRF,HBx⟩ := hcut
 obtain ⟨w2,hw2⟩ : ∃ w2,w2 = wc := ⟨_,rfl⟩
 subst hw2
 have HB2 : Hid (Below w.heap.size w w2) := q5 HB1.out HBx.out
 have HV2 : Hid (AuB w2 w.heap.size p aA nA cA aG nG cG aN nN cN) := HV1.out.up HBx.out
 clear js c0 c1 c2 c3 HB1 HBx HV1
 cases r with
 | true =>
  have HE : Hid _ := HQ.out w2 HB2.out
  clear HQ
  go_wp2
  exact HE.out
 | false =>
 obtain ⟨rfl,hm⟩ := HRF.out rfl
 have hsm : nA ≤ 24 ∧ nN ≤ 400 ∧ nG ≤ 300 := by have := HSB.out; simp [smBp] at this; omega
 obtain ⟨hnA,hnN,hnG⟩ := hsm
 clear HRF
 have jl := q2A p aA nA cA aG nG cG aN nN cN bs gs N w2 (HBo.out.up HB2.out) (HG.out.up HB2.out) (HN.out.up HB2.out) (by omega) (by omega) (by omega)
 obtain ⟨c0,c1,c2,c3⟩ := HV2.out
 go_wp2_with fail
 refine jl.mono ?_
 rintro e w3 ⟨b1,gb,b2,rfl,r1,r2,r3,hb3⟩
 have HB3 : Hid (Below w.heap.size w w3) := q5 HB2.out hb3
 have jm := q1w d m c (ts.map Int.ofNat) w3 (HL.out.up HB3.out) (by omega)
 have HV3 : Hid (AuB w3 w.heap.size p aA nA cA aG nG cG aN nN cN) := HV2.out.up hb3
 have HRR : Hid (BoRow w3 b1 (bs ++ zB 3) ∧ RowI w3 3 gb (lentZ gs) ∧ NdRow w3 b2 (N ++ zG 3)) := ⟨r1,r2,r3⟩
 clear jl c0 c1 c2 c3 hb3 r1 r2 r3 HB2 HV2
 go_wp2_with fail
 refine jm.mono ?_
 rintro e w4 ⟨rfl,hr4,hb4⟩
 obtain ⟨w5,hw5⟩ : ∃ w5,w5 = w4.alloc (.cells #[.int .i64 p,.slice (some ⟨b1,0,none⟩) nA (nA + 3),.slice (some ⟨gb,0,none⟩) nG (nG + 3),.slice (some ⟨b2,0,none⟩) nN (nN + 3)] 26 (0,0)) := ⟨_,rfl⟩
 have hb45 : Below w4.heap.size w4 w5 := by rw [hw5]; exact q6 _ _
 have hb35 := q5 hb4 hb45
 have HB5 : Hid (Below w.heap.size w w5) := q5 HB3.out hb35
 have HV5 : Hid (AuB w5 w.heap.size p aA nA cA aG nG cG aN nN cN) := HV3.out.up hb35
 have HI5 : Hid (AuB w5 w4.heap.size p (some ⟨b1,0,none⟩) nA (nA + 3) (some ⟨gb,0,none⟩) nG (nG + 3) (some ⟨b2,0,none⟩) nN (nN + 3)) := by show AuB _ _ _ _ _ _ _ _ _ _ _ _; rw [hw5]; exact qb _ _ _ _ _ _ _ _ _ _ _
 have HLL : Hid (RowAt w5 46 w3.heap.size (lentL (ts.map Int.ofNat))) := hr4.up hb45
 have HRR5 : Hid (BoRow w5 b1 (bs ++ zB 3) ∧ RowI w5 3 gb (lentZ gs) ∧ NdRow w5 b2 (N ++ zG 3)) := ⟨BoRow.up HRR.out.1 hb35,RowI.up (e := 3) HRR.out.2.1 hb35,HRR.out.2.2.up hb35⟩
 have HW5 : Hid _ := hw5
 clear jm hb4 hb45 hb35 hr4 hw5 HB3 HV3 HRR
 obtain ⟨lb1,lg,ln⟩ : BoSl w5 (some ⟨b1,0,none⟩) nA (nA + 3) bs ∧ ZSl w5 (some ⟨gb,0,none⟩) nG (nG + 3) gs ∧ NdSl w5 (some ⟨b2,0,none⟩) nN (nN + 3) N := by
  have h1 := (HBo.out.up HB5.out).hlen
  have h2 := (HG.out.up HB5.out).hlen
  have h3 := (HN.out.up HB5.out).hlen
  refine ⟨BoRow.sl HRR5.out.1 h1 (by omega),?_,NdRow.sl HRR5.out.2.2 h3 (by omega) (HN.out.ok)⟩
  have := RowI.zsl (n := nG) HRR5.out.2.1 Try.underlying23 q9 (by rw [qp]; omega) (by rw [qp]; unfold maxLen; omega)
  rw [qp,← h2,q2l] at this
  rw [h2] at this
  exact this
 have HLI : Hid (BoSl w5 (some ⟨b1,0,none⟩) nA (nA + 3) bs ∧ ZSl w5 (some ⟨gb,0,none⟩) nG (nG + 3) gs ∧ NdSl w5 (some ⟨b2,0,none⟩) nN (nN + 3) N) := ⟨lb1,lg,ln⟩
 have HLE : Hid (LtC w5 (some ⟨w3.heap.size,0,none⟩) m (m + 3) ts) := q2B HLL.out (by have := HL.out.hlen; exact this) (by omega)
 clear lb1 lg ln
 generalize w3.heap.size = gl at *
 have j1 := HALL.out p (some ⟨b1,0,none⟩) nA (nA + 3) (some ⟨gb,0,none⟩) nG (nG + 3) (some ⟨b2,0,none⟩) nN (nN + 3) bs N gs (some ⟨gl,0,none⟩) m (m + 3) ts w5 HLI.out.1 HLI.out.2.2 HLI.out.2.1 HOK.out (by omega) (by omega) HLE.out H256.out
 obtain ⟨c0,c1,c2,c3⟩ := HI5.out
 go_wp2_with (rw [← HW5.out])
 generalize w4.heap.size = gi at *
 clear HW5
 refine j1.mono ?_
 rintro e x1 h1
 obtain ⟨vs,E,xa,xc,rfl,HU,HX,HBX⟩ := h1.one
 have HX1 : Hid (Below w5.heap.size w5 x1) := HBX.out
 have HI1 : Hid (AuB x1 gi p (some ⟨b1,0,none⟩) nA (nA + 3) (some ⟨gb,0,none⟩) nG (nG + 3) (some ⟨b2,0,none⟩) nN (nN + 3)) := HI5.out.up HBX.out
 clear j1 h1 c0 c1 c2 c3 HBX
 have j2 := HALL.out p (some ⟨b1,0,none⟩) nA (nA + 3) (some ⟨gb,0,none⟩) nG (nG + 3) (some ⟨b2,0,none⟩) nN (nN + 3) bs N gs (some ⟨gl,0,none⟩) m (m + 3) ts x1 (HLI.out.1.up HX1.out) (HLI.out.2.2.up HX1.out) (HLI.out.2.1.up HX1.out) HOK.out (by omega) (by omega) (HLE.out.up HX1.out) H256.out
 obtain ⟨c0,c1,c2,c3⟩ := HI1.out
 go_wp2_with fail
 refine j2.mono ?_
 rintro e x2 h2
 obtain ⟨vs2,E2,ya,yc,rfl,HU2,HY,HBY⟩ := h2.one
 obtain ⟨rfl,rfl⟩ := HU.out.uni HU2.out
 have HX2 : Hid (Below w5.heap.size w5 x2) := q5 HX1.out HBY.out
 have HS12 : Hid (x1.heap.size ≤ x2.heap.size) := HBY.out.size
 have HXb : Hid (x2.ownsRow w5.heap.size 59 1 (.slice xa vs.length xc) vs.length (vdV vs)) := qg HX.out HBY.out
 have HXL : Hid (∀ k,(Value.slice xa vs.length xc).ownBlock = some k → k < x1.heap.size) := fun k hk => (HX.out.lt k hk).2
 have hb5 := q5 HB5.out HX2.out
 have j3 := q3H p aA nA cA aG nG cG aN nN cN bs N gs d m c ts x2 (HBo.out.up hb5) (HN.out.up hb5) (HG.out.up hb5) (by omega) (by omega) (HL.out.up hb5) H256.out
 have HV2 : Hid (AuB x2 w.heap.size p aA nA cA aG nG cG aN nN cN) := HV5.out.up HX2.out
 clear j2 h2 c0 c1 c2 c3 HBY HU2 HX hb5
 obtain ⟨c0,c1,c2,c3⟩ := HV2.out
 go_wp2_with fail
 refine j3.mono ?_
 rintro e x3 h3
 obtain ⟨vs3,E3,za,zc,rfl,HU3,HZ,HBZ⟩ := h3.one
 obtain ⟨rfl,rfl⟩ := HU.out.uni HU3.out
 have HX3 : Hid (Below w5.heap.size w5 x3) := q5 HX2.out HBZ.out
 have HYc : Hid (VdC x3 ya vs.length yc vs ∧ ∀ k,k < vs.length → x1.heap.size ≤ (adOf ya k).block) := ⟨(qv HY.out).up HBZ.out,q5f HY.out⟩
 have HZc : Hid (VdC x3 za vs.length zc vs ∧ ∀ k,k < vs.length → x1.heap.size ≤ (adOf za k).block) := ⟨qv HZ.out,fun k hk => Nat.le_trans HS12.out (q5f HZ.out k hk)⟩
 have HXc : Hid (x3.ownsRow w5.heap.size 59 1 (.slice xa vs.length xc) vs.length (vdV vs)) := qg HXb.out HBZ.out
 have j4 := HTOLD.out p (some ⟨b1,0,none⟩) nA (nA + 3) (some ⟨gb,0,none⟩) nG (nG + 3) (some ⟨b2,0,none⟩) nN (nN + 3) bs N gs x3 (HLI.out.1.up HX3.out) (HLI.out.2.2.up HX3.out) (HLI.out.2.1.up HX3.out) HOK.out (by omega) (by omega)
 have HI3 : Hid (AuB x3 gi p (some ⟨b1,0,none⟩) nA (nA + 3) (some ⟨gb,0,none⟩) nG (nG + 3) (some ⟨b2,0,none⟩) nN (nN + 3)) := HI5.out.up HX3.out
 clear j3 h3 c0 c1 c2 c3 HU3 HZ HY HXb HU HV2 HI1
 obtain ⟨c0,c1,c2,c3⟩ := HI3.out
 go_wp2_with fail
 refine j4.mono ?_
 rintro e x4 h4
 obtain ⟨us,F,pa,pc,rfl,HT,HP,HBP⟩ := h4.one
 have HX4 : Hid (Below w5.heap.size w5 x4) := q5 HX3.out HBP.out
 have hb5 := q5 HB5.out HX4.out
 have j5 := q3h p aA nA cA aG nG cG aN nN cN bs N gs x4 (HBo.out.up hb5) (HN.out.up hb5) (HG.out.up hb5) (by omega) (by omega)
 have HV4 : Hid (AuB x4 w.heap.size p aA nA cA aG nG cG aN nN cN) := HV5.out.up HX4.out
 have HP4 : Hid (VdC x4 pa us.length pc us) := qv HP.out
 have HR34 : Hid (Below x3.heap.size x3 x4) := HBP.out
 clear j4 h4 c0 c1 c2 c3 HP HBP hb5 HI3
 obtain ⟨c0,c1,c2,c3⟩ := HV4.out
 go_wp2_with fail
 refine j5.mono ?_
 rintro e x5 h5
 obtain ⟨us2,F2,qa,qc,rfl,HT2,HQ5,HBQ⟩ := h5.one
 obtain ⟨rfl,rfl⟩ := HT.out.uni HT2.out
 have HX5 : Hid (Below w5.heap.size w5 x5) := q5 HX4.out HBQ.out
 have h35 := q5 HR34.out HBQ.out
 have HY5 : Hid (VdC x5 ya vs.length yc vs ∧ ∀ k,k < vs.length → x1.heap.size ≤ (adOf ya k).block) := ⟨HYc.out.1.up h35,HYc.out.2⟩
 have HZ5 : Hid (VdC x5 za vs.length zc vs ∧ ∀ k,k < vs.length → x1.heap.size ≤ (adOf za k).block) := ⟨HZc.out.1.up h35,HZc.out.2⟩
 have HXd : Hid (x5.ownsRow w5.heap.size 59 1 (.slice xa vs.length xc) vs.length (vdV vs)) := qg HXc.out h35
 have HP5 : Hid (VdC x5 pa us.length pc us) := HP4.out.up HBQ.out
 have HQ6 : Hid (VdC x5 qa us.length qc us) := qv HQ5.out
 clear j5 h5 c0 c1 c2 c3 HBQ HT2 HT HQ5 HYc HZc HXc HP4 HR34 HV4 h35
 have eE : (E != E) = false := by simp
 have eF : (F != F) = false := by simp
 generalize hnv : vs.length = n at *
 have HNV : Hid _ := hnv
 generalize us.length = nu at *
 clear hnv
 have k1 := qm (qv HXd.out) HZ5.out.1
 go_wp2_with fail
 refine k1.mono ?_
 rintro e t1 ⟨rfl,hb⟩
 have HT1 : Hid (Below x5.heap.size x5 t1) := hb
 have k2 := qm (HY5.out.1.up hb) (HZ5.out.1.up hb)
 clear k1 hb
 go_wp2_with fail
 refine k2.mono ?_
 rintro e t2 ⟨rfl,hb⟩
 have HT2 : Hid (Below x5.heap.size x5 t2) := q5 HT1.out hb
 have k3 := qm (HP5.out.up HT2.out) (HQ6.out.up HT2.out)
 clear k2 hb HT1
 go_wp2_with fail
 refine k3.mono ?_
 rintro e t3 ⟨rfl,hb⟩
 have HT3 : Hid (Below x5.heap.size x5 t3) := q5 HT2.out hb
 clear k3 hb HT2
 have HB3 : Hid (Below w5.heap.size w5 t3) := q5 HX5.out HT3.out
 have HYt : Hid (VdC t3 ya n yc vs) := HY5.out.1.up HT3.out
 have HZt : Hid (VdC t3 za n zc vs) := HZ5.out.1.up HT3.out
 have HXt : Hid (t3.ownsRow w5.heap.size 59 1 (.slice xa n xc) n (vdV vs)) := qg HXd.out HT3.out
 have HYG : Hid (∀ k,k < n → x1.heap.size ≤ (adOf ya k).block) := HY5.out.2
 have HZG : Hid (∀ k,k < n → x1.heap.size ≤ (adOf za k).block) := HZ5.out.2
 have hnb := Nat.le_trans (qv HXt.out).hcap (qv HXt.out).bd
 unfold maxLen at hnb
 clear HP5 HQ6 HY5 HZ5 HXd HT3 HX5 HX4 HX3 HX2 HS12
 go_wp2
 go_loopw [17] (fun i wr => ∃ (k : Nat),k ≤ n ∧ i = .int .i64 (k : Int) ∧ Hid (∃ xs,wr.ownsRow w5.heap.size 59 1 (.slice xa n xc) n xs) ∧ Hid (FarW t3 wr w5.heap.size x1.heap.size)) (fun i _ => n - (intOf i).toNat)
 case atStart => exact ⟨0,Nat.zero_le _,rfl,⟨_,HXt.out⟩,FarW.refl _ _ _⟩
 case round =>
  obtain ⟨k,hk,rfl,HXS,HFA⟩ := hrel
  clear HXt
  by_cases hlt : k < n
  ·obtain ⟨xs,hx⟩ := HXS.out
   have hxl := hx.1
   obtain ⟨g,cap,e0,hge,hcap,hce,hfz,hown⟩ := q42 hx hlt (.int .u8 9)
   injection e0 with e1 e2 e3
   clear e2
   subst e1
   subst e3
   have hgx := HXL.out g rfl
   obtain ⟨y,hy⟩ : ∃ y,xs[k]? = some y := ⟨_,List.getElem?_eq_getElem (by rw [hxl]; omega)⟩
   rw [hy] at hce
   have hix : ∀ w',(Instr.indexAt 51 (.slice (some ⟨g,0,none⟩) n xc) (.int .i64 (k : Int))).run Try.prog w' = .ok (.pointer (some ⟨g,k,none⟩)) w' := fun w' => by
    have := qi (P := Try.prog) (T := 51) Try.underlying51 qP (a := some ⟨g,0,none⟩) (cap := xc) (n := n) (fun e => by cases e) k w' hlt
    simpa [adOf,q8] using this
   have HX9 : Hid (∃ xs,(wr.setCell ⟨g,k,none⟩ (.int .u8 9)).ownsRow w5.heap.size 59 1 (.slice (some ⟨g,0,none⟩) n xc) n xs) := ⟨_,hown⟩
   have HF9 : Hid (FarW t3 (wr.setCell ⟨g,k,none⟩ (.int .u8 9)) w5.heap.size x1.heap.size) := HFA.out.set hge hgx k _
   have e1 : decide ((k : Int) < (n : Int)) = true := decide_eq_true (by omega)
   clear hx hown HXS HFA hxl hy
   go_wp2
   go_roundw
   case rel => exact ⟨k + 1,by omega,by go_num,HX9,HF9⟩
   case measure => simp [intOf] <;> omega
  ·obtain rfl : k = n := by omega
   have HBr : Hid (Below w5.heap.size w5 wr) := HFA.out.below HB3.out
   have HYr := HFA.out.sl HYt.out HYG.out
   have HZr := HFA.out.sl HZt.out HZG.out
   have k1 := qm HYr HZr
   have HIr : Hid (AuB wr gi p (some ⟨b1,0,none⟩) nA (nA + 3) (some ⟨gb,0,none⟩) nG (nG + 3) (some ⟨b2,0,none⟩) nN (nN + 3)) := HI5.out.up HBr.out
   have HVr : Hid (AuB wr w.heap.size p aA nA cA aG nG cG aN nN cN) := HV5.out.up HBr.out
   have e1 : decide ((k : Int) < (k : Int)) = false := by simp
   clear HYr HZr HXS HFA HYt HZt HYG HZG hlt
   go_wp2_with fail
   refine k1.mono ?_
   rintro e t4 ⟨rfl,hb⟩
   have HB4 : Hid (Below w5.heap.size w5 t4) := q5 HBr.out hb
   have hbw := q5 HB5.out HB4.out
   have j6 := q2y p aA nA cA aG nG cG aN nN cN bs gs N b1 gb b2 t4 (HBo.out.up hbw) (HG.out.up hbw) (HN.out.up hbw) (by omega) (by omega) (by omega) (BoRow.up HRR5.out.1 HB4.out) (RowI.up (e := 3) HRR5.out.2.1 HB4.out) (HRR5.out.2.2.up HB4.out)
   obtain ⟨c0,c1,c2,c3⟩ := HIr.out.up hb
   obtain ⟨d0,d1,d2,d3⟩ := HVr.out.up hb
   clear k1 hb hbw HBr
   go_wp2_with fail
   refine j6.mono ?_
   rintro e t5 ⟨rfl,hb⟩
   have HB6 : Hid (Below w5.heap.size w5 t5) := q5 HB4.out hb
   have hbw := q5 HB5.out HB6.out
   have j7 := q3f gl m d c (ts.map Int.ofNat) t5 (HLL.out.up HB6.out) (HL.out.up hbw) (by omega)
   have HE : Hid (∀ w',Below t5.heap.size t5 w' → Q (.returned (.bool true)) w') := fun w' h => HQ.out w' (q5 hbw h)
   clear j6 hb hbw c0 c1 c2 c3 d0 d1 d2 d3 HIr HVr
   go_wp2_with fail
   refine j7.mono ?_
   rintro e t6 ⟨rfl,hb⟩
   have HE2 : Hid _ := HE.out t6 hb
   clear j7 hb HE HQ
   go_wp2
   exact HE2.out
theorem q5D : ∀ z ∈ laG,I64 z := fun z hz => by
 simp [laG] at hz
 rcases hz with rfl | rfl <;> exact ⟨by decide,by decide⟩
theorem q5E : ∀ t ∈ laN,GdOk t := fun t ht => by
 simp [laN] at ht
 subst ht
 exact ⟨⟨by decide,by decide⟩,⟨by decide,by decide⟩,⟨by decide,by decide⟩⟩
theorem q5Y (u : List Nat) (hu : ∀ l ∈ u,l < 2) : runP laR 1 u = 1 := by
 induction u with
 | nil => rfl
 | cons a u ih =>
  rw [qq]
  have ha := hu a (by simp)
  rw [show trP laR 1 a = 1 by rcases (show a = 0 ∨ a = 1 by omega) with rfl | rfl <;> rfl]
  exact ih fun l hl => hu l (by simp [hl])
theorem la_t1 : TolW 2 laR laB 1 3 := .inl ⟨rfl,fun u hu => by rw [q5Y u hu]; rfl⟩
theorem la_t0 : TolW 2 laR laB 0 0 := .inr (.inr ⟨⟨[1],fun l hl => by simp at hl; omega,rfl⟩,⟨[],fun l hl => by simp at hl,rfl⟩,rfl⟩)
theorem q5W {vs : List Nat} {E : Int} (h : AllU 1 2 laB laN laG [0,1,0] vs E) : vs = [0,0,3,3] ∧ E = 0 := by
 refine h.uni (.inr (.inr ⟨q5X,by decide,⟨rfl,fun i hi => ?_⟩,rfl⟩))
 rw [show rwA 1 laN laG = laR from q5F]
 have hi4 : i ≤ 3 := hi
 match i,hi4 with
 | 0,_ => exact la_t0
 | 1,_ => exact la_t0
 | 2,_ => exact la_t1
 | 3,_ => exact la_t1
theorem q1Q (w : World) (bs : List Bool) (gs : List Int) (N : List Gd) (h1 : bs.length ≤ 1000) (h2 : gs.length ≤ 1000) (h3 : N.length ≤ 1000) (hok : ∀ t ∈ N,GdOk t) :
  (BoSl (((w.alloc (.cells (bs.map Value.bool).toArray 4)).alloc (.cells (gs.map (Value.int .i64)).toArray 3)).alloc (.cells (encGd N).toArray 77)) (some ⟨w.heap.size,0,none⟩) bs.length bs.length bs ∧ ZSl (((w.alloc (.cells (bs.map Value.bool).toArray 4)).alloc (.cells (gs.map (Value.int .i64)).toArray 3)).alloc (.cells (encGd N).toArray 77)) (some ⟨w.heap.size + 1,0,none⟩) gs.length gs.length gs ∧ NdSl (((w.alloc (.cells (bs.map Value.bool).toArray 4)).alloc (.cells (gs.map (Value.int .i64)).toArray 3)).alloc (.cells (encGd N).toArray 77)) (some ⟨w.heap.size + 1 + 1,0,none⟩) N.length N.length N) ∧ Below w.heap.size w (((w.alloc (.cells (bs.map Value.bool).toArray 4)).alloc (.cells (gs.map (Value.int .i64)).toArray 3)).alloc (.cells (encGd N).toArray 77)) := by
 have b1 := blitP w bs h1
 have b2 := zlitP (w.alloc (.cells (bs.map Value.bool).toArray 4)) gs h2
 have b3 := q64 ((w.alloc (.cells (bs.map Value.bool).toArray 4)).alloc (.cells (gs.map (Value.int .i64)).toArray 3)) N h3 hok
 have e : ∀ (w : World) (o : Obj),(w.alloc o).heap.size = w.heap.size + 1 := fun w o => by simp
 simp only [e] at b2 b3
 exact ⟨⟨(b1.up (q6 _ _)).up (q6 _ _),b2.up (q6 _ _),b3⟩,q5 (q5 (q6 w _) (q6 _ _)) (q6 _ _)⟩
theorem q56 (w : World) (ts : List Nat) (hl : ts.length ≤ 1000) : LtC (w.alloc (.cells (ltV ts).toArray 46)) (some ⟨w.heap.size,0,none⟩) ts.length ts.length ts := by
 have hc := (MapKept.heap_alloc w (.cells (ltV ts).toArray 46)).1
 have had : ∀ k,adOf (some (⟨w.heap.size,0,none⟩ : Addr)) k = ⟨w.heap.size,k,none⟩ := fun k => by simp [adOf,q8]
 refine ⟨by simp,Nat.le_refl _,by unfold maxLen; omega,fun m k w hk hm => qi Try.underlying41 q1O (by simp) k w hk,fun k hk => ?_,fun k hk => by rw [had]; simp,by simp⟩
 rw [had,q7 hc,qs hk]
 simpa using q5Z hk
theorem q47 (w : World) (vs : List Nat) (hl : vs.length ≤ 1000) : VdC (w.alloc (.cells (vdV vs).toArray 59)) (some ⟨w.heap.size,0,none⟩) vs.length vs.length vs := by
 have hc := (MapKept.heap_alloc w (.cells (vdV vs).toArray 59)).1
 have had : ∀ k,adOf (some (⟨w.heap.size,0,none⟩ : Addr)) k = ⟨w.heap.size,k,none⟩ := fun k => by simp [adOf,q8]
 refine ⟨by simp,Nat.le_refl _,by unfold maxLen; omega,fun m k w hk hm => qi Try.underlying51 qP (by simp) k w hk,fun k hk => ?_,fun k hk => by rw [had]; simp,by simp⟩
 rw [had,q7 hc,qs hk]
 simp [vdV,List.getElem?_map,List.getElem?_eq_getElem hk,List.getD_eq_getElem?_getD]
theorem q1j (HALL : Hid AllCW) (w : World) : Calls Try.prog 30 #[] w fun e w' => e = .returned (.bool true) ∧ Below w.heap.size w w' := by
 obtain ⟨hx,hb3⟩ := q1Q w laB laG laN (by decide) (by decide) (by decide) q5E
 obtain ⟨w3,hw3⟩ : ∃ w3,w3 = (((w.alloc (.cells #[.bool false,.bool true] 4)).alloc (.cells #[.int .i64 0,.int .i64 (-2)] 3)).alloc (.cells #[.int .i64 0,.int .i64 (-1),.int .i64 (-2)] 77)) := ⟨_,rfl⟩
 have hx3 : BoSl w3 (some ⟨w.heap.size,0,none⟩) 2 2 laB ∧ ZSl w3 (some ⟨w.heap.size + 1,0,none⟩) 2 2 laG ∧ NdSl w3 (some ⟨w.heap.size + 1 + 1,0,none⟩) 1 1 laN := by rw [hw3]; exact hx
 have hb3' : Below w.heap.size w w3 := by rw [hw3]; exact hb3
 have hs3 : w3.heap.size = w.heap.size + 1 + 1 + 1 := by rw [hw3]; simp
 obtain ⟨w4,hw4⟩ : ∃ w4,w4 = w3.alloc (.cells #[.int .i64 1,.slice (some ⟨w.heap.size,0,none⟩) 2 2,.slice (some ⟨w.heap.size + 1,0,none⟩) 2 2,.slice (some ⟨w.heap.size + 1 + 1,0,none⟩) 1 1] 26 (0,0)) := ⟨_,rfl⟩
 have hb34 : Below w3.heap.size w3 w4 := by rw [hw4]; exact q6 _ _
 have HA4 : Hid (AuB w4 (w.heap.size + 1 + 1 + 1) 1 (some ⟨w.heap.size,0,none⟩) 2 2 (some ⟨w.heap.size + 1,0,none⟩) 2 2 (some ⟨w.heap.size + 1 + 1,0,none⟩) 1 1) := by
  show AuB _ _ _ _ _ _ _ _ _ _ _ _
  rw [hw4,← hs3]
  exact qb _ _ _ _ _ _ _ _ _ _ _
 obtain ⟨w5,hw5⟩ : ∃ w5,w5 = w4.alloc (.cells #[.int .u8 0,.int .u8 1,.int .u8 0] 46) := ⟨_,rfl⟩
 have hb45 : Below w4.heap.size w4 w5 := by rw [hw5]; exact q6 _ _
 have hL5 : LtC w5 (some ⟨w4.heap.size,0,none⟩) 3 3 [0,1,0] := by rw [hw5]; exact q56 w4 [0,1,0] (by decide)
 have hb35 := q5 hb34 hb45
 have HB5 : Hid (Below w.heap.size w w5) := q5 hb3' hb35
 have j1 := HALL.out 1 (some ⟨w.heap.size,0,none⟩) 2 2 (some ⟨w.heap.size + 1,0,none⟩) 2 2 (some ⟨w.heap.size + 1 + 1,0,none⟩) 1 1 laB laN laG (some ⟨w4.heap.size,0,none⟩) 3 3 [0,1,0] w5 (hx3.1.up hb35) (hx3.2.2.up hb35) (hx3.2.1.up hb35) q5D (by decide) (by decide) hL5 (by decide)
 obtain ⟨c0,c1,c2,c3⟩ := HA4.out
 have HW3 : Hid _ := hw3
 have HW4 : Hid _ := hw4
 have HW5 : Hid _ := hw5
 clear hx hb3 hx3 hb3' hs3 hw3 hb34 hw4 hw5 hb45 hL5 hb35
 go_enter Try.func30,Try.ntmps30
 go_wp2_with (first | rw [← HW3.out,← HW4.out] | rw [← HW5.out])
 refine j1.mono ?_
 intro e x1 h1
 obtain ⟨vs,E,xa,xc,rfl,HU,HX,HBX⟩ := h1.one
 obtain ⟨rfl,rfl⟩ := q5W HU.out
 have hba := q6 x1 (.cells #[.int .u8 0,.int .u8 0,.int .u8 3,.int .u8 3] 59)
 have k1 := qm ((qv HX.out).up hba) (q47 x1 [0,0,3,3] (by decide))
 have HE : Hid (∀ w',Below (x1.alloc (.cells #[.int .u8 0,.int .u8 0,.int .u8 3,.int .u8 3] 59)).heap.size (x1.alloc (.cells #[.int .u8 0,.int .u8 0,.int .u8 3,.int .u8 3] 59)) w' → Below w.heap.size w w') := fun w' h => q5 (q5 (q5 HB5.out HBX.out) hba) h
 simp only [List.length_cons,List.length_nil,Nat.zero_add] at k1
 clear j1 h1 c0 c1 c2 c3 HU HX HBX hba HW3 HW4 HW5
 go_wp2_with fail
 refine k1.mono ?_
 rintro e t1 ⟨rfl,hb⟩
 have HE2 : Hid _ := HE.out t1 hb
 clear k1 hb HE
 go_wp2
 go_ret
 exact ⟨rfl,HE2.out⟩
structure AuP where
 p : Int
 nA : Nat
 bs : List Bool
 N : List Gd
 gs : List Int
def AuP.K (A : AuP) : Nat := 2 ^ A.p.toNat
def AuP.R (A : AuP) : List (List Nat) := rwA A.p A.N A.gs
def AuP.at (A : AuP) (ts : List Nat) : Nat := runP A.R 0 ts
structure WatC (Obj : World → Nat → (Nat → Prop) → AuP → List Nat → Prop) : Prop where
 lt : ∀ {w g F A ts},Obj w g F A ts → ∀ k,F k → k < w.heap.size
 keep : ∀ {w w' g F A ts},Obj w g F A ts → (∀ k,F k → w'.heap[k]? = w.heap[k]?) → Obj w' g F A ts
 new : ∀ (A : AuP) (aA : Option Addr) (cA : Nat) (aG : Option Addr) (nG cG : Nat) (aN : Option Addr) (nN cN : Nat) (w : World),BoSl w aA A.nA cA A.bs → NdSl w aN nN cN A.N → ZSl w aG nG cG A.gs → (∀ z ∈ A.gs,I64 z) →
  Calls Try.prog 11 #[.agg #[.int .i64 A.p,.slice aA A.nA cA,.slice aG nG cG,.slice aN nN cN]] w fun e w' => Below w.heap.size w w' ∧ ((¬ MayG A.p A.nA A.N A.gs ∧ e = .returned (.tuple #[.pointer none,.int .i64 12])) ∨ (MayG A.p A.nA A.N A.gs ∧ ∃ (g : Nat) (F : Nat → Prop),e = .returned (.tuple #[.pointer (some ⟨g,0,none⟩),.int .i64 0]) ∧ Obj w' g F A [] ∧ ∀ k,F k → w.heap.size ≤ k))
 feed : ∀ (A : AuP) (g : Nat) (F : Nat → Prop) (ts : List Nat) (l : Nat) (w : World),MayG A.p A.nA A.N A.gs → Obj w g F A ts → l < A.K → ts.length < 1024 → (∀ x ∈ ts,x < A.K) →
  Calls Try.prog 24 #[.pointer (some ⟨g,0,none⟩),.int .u8 (l : Int)] w fun e w' => ∃ (v : Nat) (F' : Nat → Prop),e = .returned (.tuple #[.int .u8 (v : Int),.int .i64 0]) ∧ Hid (TolW A.K A.R A.bs (A.at (ts ++ [l])) v) ∧ Hid (Obj w' g F' A (ts ++ [l])) ∧ Hid (Fr w w' F F')
 back : ∀ (A : AuP) (g : Nat) (F : Nat → Prop) (ts : List Nat) (l : Nat) (w : World),MayG A.p A.nA A.N A.gs → Obj w g F A (ts ++ [l]) → (∀ x ∈ ts ++ [l],x < A.K) →
  Calls Try.prog 25 #[.pointer (some ⟨g,0,none⟩)] w fun e w' => ∃ (v : Nat) (F' : Nat → Prop),e = .returned (.tuple #[.int .u8 (v : Int),.int .i64 0]) ∧ Hid (TolW A.K A.R A.bs (A.at ts) v) ∧ Hid (Obj w' g F' A ts) ∧ Hid (Fr w w' F F')
 verdict : ∀ (A : AuP) (g : Nat) (F : Nat → Prop) (ts : List Nat) (w : World),MayG A.p A.nA A.N A.gs → Obj w g F A ts → (∀ x ∈ ts,x < A.K) →
  Calls Try.prog 27 #[.pointer (some ⟨g,0,none⟩)] w fun e w' => ∃ v : Nat,e = .returned (.int .u8 (v : Int)) ∧ Hid (TolW A.K A.R A.bs (A.at ts) v) ∧ Below w.heap.size w w'
 state : ∀ (A : AuP) (g : Nat) (F : Nat → Prop) (ts : List Nat) (w : World),MayG A.p A.nA A.N A.gs → Obj w g F A ts → (∀ x ∈ ts,x < A.K) →
  Calls Try.prog 28 #[.pointer (some ⟨g,0,none⟩)] w fun e w' => e = .returned (.int .i64 ((A.at ts : Nat) : Int)) ∧ Below w.heap.size w w'
 len : ∀ (A : AuP) (g : Nat) (F : Nat → Prop) (ts : List Nat) (w : World),MayG A.p A.nA A.N A.gs → Obj w g F A ts →
  Calls Try.prog 29 #[.pointer (some ⟨g,0,none⟩)] w fun e w' => e = .returned (.int .i64 (ts.length : Int)) ∧ Below w.heap.size w w'
 off : ∀ (A : AuP) (g : Nat) (F : Nat → Prop) (ts : List Nat) (w : World),MayG A.p A.nA A.N A.gs → Obj w g F A ts → (∀ x ∈ ts,x < A.K) →
  Calls Try.prog 26 #[.pointer (some ⟨g,0,none⟩)] w fun e w' => ∃ (d E : Int),e = .returned (.tuple #[.int .i64 d,.int .i64 E]) ∧ Hid ((∃ n : Nat,d = (n : Int) ∧ n ≤ 256 ∧ E = 0 ∧ OffW A.K A.R A.bs (A.at ts) n) ∨ (d = 0 ∧ E = 6 ∧ NoW A.K A.R A.bs (A.at ts))) ∧ Below w.heap.size w w'
theorem WatC.up {Obj : World → Nat → (Nat → Prop) → AuP → List Nat → Prop} (C : WatC Obj) {w w' : World} {g : Nat} {F : Nat → Prop} {A : AuP} {ts : List Nat} (h : Obj w g F A ts) (hb : Below w.heap.size w w') : Obj w' g F A ts := C.keep h fun k hk => hb.block k (C.lt h k hk)
end Go.Proofs.Ytjpggahiddhanaa
