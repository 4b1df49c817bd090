/- Texts of the proof, put together: what it uses. -/
import Derived.Deep.RegionLaw
import Derived.Deep.CutBlock
import Derived.Deep.DeepCutAuto
import Derived.Lib.AppendZerosOnto
import Derived.Laws.CopyRow
import Derived.Deep.RegionHeld3
import Derived.Test.YtjpggahiddhanaaY00
import Derived.Test.YtjpggahiddhanaaY01
import Derived.Test.YtjpggahiddhanaaY02
import Derived.Test.YtjpggahiddhanaaY04
import Derived.Test.YtjpggahiddhanaaY05
import Derived.Test.YtjpggahiddhanaaY06
import Derived.Test.YtjpggahiddhanaaY07
import Derived.Test.YtjpggahiddhanaaY09
import Derived.Test.YtjpggahiddhanaaY11
set_option maxRecDepth 100000
set_option maxHeartbeats 16000000
namespace Go.Proofs.Ytjpggahiddhanaa
open Go.RowKit Go.Maps Go.Sort
theorem q1t {P : Program} {e : TypeId} {s : Nat} (h : (P.info? e).map (·.size) = some s) (w : World) : (sizeOf e).run P w = .ok s w := by
 cases hq : P.info? e with
 | none => simp [hq] at h
 | some i => simp [hq] at h; simp [sizeOf,typeInfo,hq,h]
theorem q4q {P : Program} {T e : TypeId} {s : Nat} (hu : P.underlying T = some (.slice e)) (hs : (P.info? e).map (·.size) = some s) (a : Option Addr) (n cap m : Nat) (hl : m ≤ n) (hc : n ≤ cap) (hn : a = none → cap = 0) (w : World) :
  (Instr.sliceAt T (.slice a n cap) none (some (.int .i64 (m : Int))) none).run P w = .ok (.slice a m cap) w := by
 cases a with
 | none =>
  have := hn rfl
  subst this
  obtain rfl : n = 0 := by omega
  obtain rfl : m = 0 := by omega
  simp [Instr.sliceAt,Instr.slice,run_underlying hu,q1t hs,go_sem]
 | some x =>
  have hmc : m ≤ cap := by omega
  simp [Instr.sliceAt,Instr.slice,run_underlying hu,q1t hs,go_sem,hmc]
theorem q3a : (Try.prog.info? 46).map (·.size) = some 1 := by kernel_rfl
theorem IntSl.preW {P : Program} {T : TypeId} {q : IntKind} {w : World} {a : Option Addr} {len cap : Nat} {zs : List Int} (h : IntSl P T q w a len cap zs) {k : Nat} (hk : k ≤ len) : IntSl P T q w a k cap (zs.take k) :=
 ⟨by rw [List.length_take,h.hlen]; omega,Nat.le_trans hk h.hcap,h.bd,fun n j w h1 h2 => h.idx n j w h1 (Nat.le_trans h2 hk),fun j hj => by
  rw [h.cell j (by omega)]
  congr 2
  rw [List.getD_eq_getElem?_getD,List.getD_eq_getElem?_getD,List.getElem?_take,if_pos hj],fun j hj => h.blk j (by omega),h.nn⟩
theorem RwB.set {w : World} {g : Nat} {p : Int} {aA : Option Addr} {nA cA : Nat} {aG : Option Addr} {nG cG : Nat} {aN : Option Addr} {nN cN : Nat} {d : Option Addr} {m c : Nat} (h : RwB w g p aA nA cA aG nG cG aN nN cN d m c) (d' : Option Addr) (m' c' : Nat) : RwB (w.setCell ⟨g,4,none⟩ (.slice d' m' c')) g p aA nA cA aG nG cG aN nN cN d' m' c' := by
 have := heap_setCell_same w g 4 _ _ (.slice d' m' c') h.blk
 exact ⟨by rw [this]; rfl⟩
end Go.Proofs.Ytjpggahiddhanaa
namespace Go.Proofs.Ytjpggahiddhanaa
open Go.RowKit Go.Maps
abbrev VdC (w : World) (a : Option Addr) (len cap : Nat) (vs : List Nat) : Prop := IntSl Try.prog 51 .u8 w a len cap (vs.map Int.ofNat)
theorem q1X : (Try.prog.info? 59).map (·.size) = some 1 := by kernel_rfl
theorem q54 {w : World} {base n : Nat} {a : Option Addr} {c : Nat} {vs : List Nat} (h : w.ownsRow base 59 1 (.slice a n c) n (vdV vs)) : VdC w a n c vs := by
 obtain ⟨a',c',e,hS,_⟩ := q1i h Try.underlying51 q1X
 injection e with e1 _ e3
 subst e1; subst e3
 exact hS
end Go.Proofs.Ytjpggahiddhanaa
namespace Go.Proofs.Ytjpggahiddhanaa
open Go.RowKit Go.Maps Go.Sort
theorem q4E {w : World} {base e n i : Nat} {v : Value} {xs : List Value} (h : w.ownsRow base e 1 v n xs) (hi : i < n) (y : Value) : ∃ g cap,v = .slice (some ⟨g,0,none⟩) n cap ∧ base ≤ g ∧ n ≤ cap ∧ w.cell? ⟨g,i,none⟩ = xs[i]? ∧ w.frozen? ⟨g,i,none⟩ = false ∧ (w.setCell ⟨g,i,none⟩ y).ownsRow base e 1 v n (xs.set i y) := by
 obtain ⟨hl,h⟩ := h
 rcases h with ⟨rfl,h0⟩ | ⟨g,cap,cur,rfl,hg,hcell,hnc,hcm,hsz,htk⟩
 ·omega
 ·have hcu : cur.toList.length = cap := by simpa using hsz
  refine ⟨g,cap,rfl,hg,hnc,?_,frozen_of_row w g i _ _ hcell,by simpa using hl,Or.inr ⟨g,cap,cur.setIfInBounds i y,rfl,hg,heap_setCell_same w g i _ _ y hcell,hnc,hcm,by simpa using hsz,?_⟩⟩
  ·rw [q6 hcell i,← htk,List.getElem?_take,if_pos (by omega)]
   simp
  ·rw [← htk]
   simp [List.take_set]
structure AuP where
 p : Int
 nA : Nat
 bs : List Bool
 N : List Gd
 gs : List Int
def AuP.K (A : AuP) : Nat := 2 ^ A.p.toNat
def AuP.R (A : AuP) : List (List Nat) := rwA A.p A.N A.gs
def AuP.at (A : AuP) (ts : List Nat) : Nat := runP A.R 0 ts
theorem q2p (K : Nat) (R : List (List Nat)) (bs : List Bool) (s : Nat) : ∃ v,TolW K R bs s v := by
 by_cases h1 : ∀ u,(∀ l ∈ u,l < K) → bs.getD (runP R s u) false = true
 ·exact ⟨3,.inl ⟨rfl,h1⟩⟩
 by_cases h2 : ∀ u,(∀ l ∈ u,l < K) → bs.getD (runP R s u) false = false
 ·exact ⟨2,.inr (.inl ⟨rfl,h2⟩)⟩
 refine ⟨_,.inr (.inr ⟨?_,?_,rfl⟩)⟩
 ·refine Classical.byContradiction fun hn => h2 fun u hu => ?_
  cases hb : bs.getD (runP R s u) false with
  | false => rfl
  | true => exact absurd ⟨u,hu,hb⟩ hn
 ·refine Classical.byContradiction fun hn => h1 fun u hu => ?_
  cases hb : bs.getD (runP R s u) false with
  | true => rfl
  | false => exact absurd ⟨u,hu,hb⟩ hn
structure OneW (w w' : World) (g : Nat) : Prop where
 os : w'.os = w.os
 tape : w'.tape = w.tape
 output : w'.output = w.output
 size : w.heap.size ≤ w'.heap.size
 block : ∀ k,k < w.heap.size → k ≠ g → w'.heap[k]? = w.heap[k]?
theorem OneW.then {w w' w'' : World} {g : Nat} (h : OneW w w' g) (h' : Below w'.heap.size w' w'') : OneW w w'' g := ⟨h'.os.trans h.os,h'.tape.trans h.tape,h'.output.trans h.output,Nat.le_trans h.size h'.size,fun k hk hn => (h'.block k (Nat.lt_of_lt_of_le hk h.size)).trans (h.block k hk hn)⟩
theorem OneW.set {w w' : World} {g : Nat} (h : Below w.heap.size w w') (o : Nat) (u : Value) : OneW w (w'.setCell ⟨g,o,none⟩ u) g := ⟨h.os,h.tape,h.output,by simp; exact h.size,fun k hk hn => (Below.heap_setCell _ _ _ _ (by dsimp only; exact hn)).trans (h.block k hk)⟩
theorem OneW.below {w0 w w' : World} {g : Nat} (h : OneW w w' g) (h0 : Below w0.heap.size w0 w) (hg : w0.heap.size ≤ g) : Below w0.heap.size w0 w' := ⟨h.os.trans h0.os,h.tape.trans h0.tape,h.output.trans h0.output,Nat.le_trans h0.size h.size,fun k hk => (h.block k (Nat.lt_of_lt_of_le hk h0.size) (by omega)).trans (h0.block k hk)⟩
theorem qL {w : World} {base n : Nat} {a : Option Addr} {c : Nat} {ts : List Nat} (h : w.ownsRow base 46 1 (.slice a n c) n (ltV ts)) : LtC w a n c ts := by
 have h1 : w.ownsRow base 46 1 (.slice a n c) n ((ts.map Int.ofNat).map (Value.int .u8)) := by rw [List.map_map]; exact h
 obtain ⟨a',c',e,hS,_⟩ := q1i h1 Try.underlying41 q39
 injection e with e1 _ e3
 subst e1; subst e3
 exact hS
theorem q1K (w : World) (e : TypeId) : (w.alloc (.cells #[] e)).ownsRow w.heap.size e 1 (.slice (some ⟨w.heap.size,0,none⟩) 0 0) 0 [] :=
 ⟨rfl,Or.inr ⟨w.heap.size,0,#[],rfl,Nat.le_refl _,(MapKept.heap_alloc w _).1,Nat.le_refl _,Nat.zero_le _,rfl,rfl⟩⟩
theorem q22 {w : World} {a : Addr} {n c : Nat} {l : List Nat} (h : LtC w (some a) n c l) : ∀ j u,(ltV l)[j]? = some u → w.cell? (a.add j) = some u := by
 intro j u hj
 have hjl : j < l.length := by have := (List.getElem?_eq_some_iff.1 hj).1; simpa [ltV] using this
 have hl := h.hlen
 rw [List.length_map] at hl
 have hc := h.cell j (by omega)
 rw [qt hjl] at hc
 have e : u = .int .u8 ((l.getD j 0 : Nat) : Int) := by
  have h1 := hj
  rw [ltV,List.getElem?_map,List.getElem?_eq_getElem hjl] at h1
  rw [List.getD_eq_getElem?_getD,List.getElem?_eq_getElem hjl]
  simpa using h1.symm
 rw [e]; exact hc
theorem q24 {w : World} {ops : Array Oper} {rest : List Oper} {o : Oper} {a : Act} {Q : Exit → Act → World → Prop} (hgd : o.guard = none) (s x : Operand)
  (ho : o.op = .call { callee := .builtin .append,args := #[s,x],argTypes := #[41,41] }) (base : Nat)
  (v : Value) (n : Nat) (xs ys : List Nat) (b : Option Addr) (len cap : Nat) (hs : a.eval s = v) (hx : a.eval x = .slice b len cap) (hown : w.ownsRow base 46 1 v n (ltV xs)) (hT : LtC w b len cap ys)
  (hn : n ≤ 10000000) (hm : len ≤ 10000000) (hbase : base ≤ w.heap.size)
  (h : ∀ v' w',w'.ownsRow base 46 1 v' (n + len) (ltV (xs ++ ys)) → w.grownBy w' v.ownBlock → wpList Try.prog ops Q rest (a.put o.dst v') w') : wpList Try.prog ops Q (o :: rest) a w := by
 obtain ⟨i,hi,hz0,hz1,hz2⟩ := info_parts qP
 have hl : ys.length = len := by have := hT.hlen; rw [List.length_map] at this; exact this
 cases b with
 | none =>
  have hc := hT.nn rfl
  have hcl := hT.hcap
  obtain rfl : len = 0 := by omega
  subst hc
  have hy := List.eq_nil_of_length_eq_zero hl
  subst hy
  refine wpList_plain hgd fun _ hK => ?_
  have hrun := run_append_owned_none (P := Try.prog) w base 41 o.type 46 i 1 Try.underlying41 hi v n _ hown
  unfold Oper.wp execOp
  simp only [ho,resolve,invoke,builtin,Sem.run_bind,Sem.run_pure,Result.andThen_ok,List.map_toArray,List.map_cons,List.map_nil,hs,hx,hrun]
  refine hK _ _ ?_
  exact h v w (by rw [List.append_nil]; exact hown) (World.grownBy.refl _ _)
 | some y =>
  refine wpList_append_own w hgd s x 41 ho base 46 i _ 1 1 Try.underlying41 hi hz0 hz1 hz2 rfl (by decide) v n _ hs hown y len cap (ltV ys) hx (by simp [ltV,hl]) (q22 hT) (fun u hu => by obtain ⟨z,_,rfl⟩ := List.mem_map.1 hu; rfl) (by unfold maxLen; omega) (by omega) hbase ?_
  intro v' w' h1 h2 _
  exact h v' w' (by rw [ltV,List.map_append]; exact h1) h2
def RfdR (p : Int) (aA : Option Addr) (nA cA : Nat) (aG : Option Addr) (nG cG : Nat) (aN : Option Addr) (nN cN : Nat) (bs : List Bool) (N : List Gd) (gs : List Int) (g : Nat) (ts : List Nat) (l : Nat) (w : World) (e : Ending) (w' : World) : Prop :=
 (fitsB p (l : Int) = false ∧ e = .returned (.tuple #[.int .u8 0,.int .i64 2]) ∧ Below w.heap.size w w') ∨ (fitsB p (l : Int) = true ∧ 1024 ≤ ts.length ∧ e = .returned (.tuple #[.int .u8 0,.int .i64 15]) ∧ Below w.heap.size w w') ∨
  (fitsB p (l : Int) = true ∧ ts.length < 1024 ∧ ∃ (v : Nat) (d : Option Addr) (c : Nat),e = .returned (.tuple #[.int .u8 (v : Int),.int .i64 0]) ∧ Hid (TolW (2 ^ p.toNat) (rwA p N gs) bs (runP (rwA p N gs) 0 (ts ++ [l])) v) ∧ Hid (RwB w' g p aA nA cA aG nG cG aN nN cN d (ts.length + 1) c) ∧ Hid (w'.ownsRow w.heap.size 46 1 (.slice d (ts.length + 1) c) (ts.length + 1) (ltV (ts ++ [l]))) ∧ Hid (OneW w w' g))
theorem q4h {p : Int} {l : Nat} (h : fitsB p (l : Int) = true) : l < 2 ^ p.toNat := by
 unfold fitsB at h
 simp only [Bool.and_eq_true,beq_iff_eq] at h
 have h2 := h.2
 have h3 : l / 2 ^ p.toNat = 0 := by exact_mod_cast h2
 rcases (Nat.div_eq_zero_iff).1 h3 with h4 | h4
 ·exact absurd h4 (Nat.pos_iff_ne_zero.1 (Nat.two_pow_pos _))
 ·exact h4
theorem q2M (p : Int) (aA : Option Addr) (nA cA : Nat) (aG : Option Addr) (nG cG : Nat) (aN : Option Addr) (nN cN : Nat) (bs : List Bool) (N : List Gd) (gs : List Int) (g : Nat) (d : Option Addr) (c : Nat) (ts : List Nat) (l : Nat) (w0 w : World) (hM : MayG p nA N gs) (hB : BoSl w0 aA nA cA bs) (hN : NdSl w0 aN nN cN N) (hG : ZSl w0 aG nG cG gs) (h0 : Below w0.heap.size w0 w) (hg0 : w0.heap.size ≤ g) (hW : RwB w g p aA nA cA aG nG cG aN nN cN d ts.length c) (hL : LtC w d ts.length c ts) (ht : ∀ x ∈ ts,x < 2 ^ p.toNat) (hl : l < 256) :
  Calls Try.prog 41 #[.pointer (some ⟨g,0,none⟩),.int .u8 (l : Int)] w (RfdR p aA nA cA aG nG cG aN nN cN bs N gs g ts l w) := by
 obtain ⟨Z,eZ⟩ : ∃ Z,Z = RfdR p aA nA cA aG nG cG aN nN cN bs N gs g ts l w := ⟨_,rfl⟩
 have HZ : Hid (∀ e w',RfdR p aA nA cA aG nG cG aN nN cN bs N gs g ts l w e w' → Z e w') := fun e w' h => by rw [eZ]; exact h
 rw [← eZ]
 clear eZ
 have jf := q2N p (l : Int) w (by omega) (by omega)
 have HM : Hid (MayG p nA N gs) := hM
 have HW : Hid (RwB w g p aA nA cA aG nG cG aN nN cN d ts.length c) := hW
 have HL : Hid (LtC w d ts.length c ts) := hL
 have HT : Hid _ := ht
 have HBo : Hid _ := hB
 have HN : Hid _ := hN
 have HG : Hid _ := hG
 have H0 : Hid (Below w0.heap.size w0 w) := h0
 have HG0 : Hid (w0.heap.size ≤ g) := hg0
 have hs1 := hM.s1
 obtain ⟨c0,c1,c2,c3,c4⟩ := hW.c
 clear hM hB hN hG hW hL ht h0 hg0
 cases hf : fitsB p (l : Int) with
 | false =>
  rw [hf] at jf
  have HE : Hid _ := HZ.out (.returned (.tuple #[.int .u8 0,.int .i64 2])) w (.inl ⟨hf,rfl,Below.refl _ _⟩)
  clear HZ hf
  go_enter Try.func41,Try.ntmps41
  go_wp2_with (go_at_call 61; (with_reducible refine jf.mono ?_); rintro e w' ⟨rfl,hw1⟩; obtain rfl := hw1.symm)
  exact HE.out
 | true =>
 rw [hf] at jf
 by_cases hm : 1024 ≤ ts.length
 ·have HE : Hid _ := HZ.out (.returned (.tuple #[.int .u8 0,.int .i64 15])) w (.inr (.inl ⟨hf,hm,rfl,Below.refl _ _⟩))
  have e1 : decide ((1024 : Int) ≤ (ts.length : Int)) = true := decide_eq_true (by omega)
  clear HZ hf
  go_enter Try.func41,Try.ntmps41
  go_wp2_with (go_at_call 61; (with_reducible refine jf.mono ?_); rintro e w' ⟨rfl,hw1⟩; obtain rfl := hw1.symm)
  exact HE.out
 ·have e1 : decide ((1024 : Int) ≤ (ts.length : Int)) = false := decide_eq_false (by omega)
  have HF : Hid (fitsB p (l : Int) = true ∧ ts.length < 1024) := ⟨hf,by omega⟩
  have HLT : Hid (l < 2 ^ p.toNat) := q4h hf
  have hm2 : ts.length ≤ 1024 := by omega
  clear hf hm
  obtain ⟨w1,hw1⟩ : ∃ w1,w1 = w.alloc (.cells #[] 46) := ⟨_,rfl⟩
  have hb1 : Below w.heap.size w w1 := by rw [hw1]; exact q7 _ _
  have hO1 : w1.ownsRow w.heap.size 46 1 (.slice (some ⟨w.heap.size,0,none⟩) 0 0) 0 (ltV []) := by rw [hw1]; exact q1K w _
  have hL1 := HL.out.up hb1
  have hs1' : w.heap.size ≤ w1.heap.size := hb1.size
  obtain ⟨x0,x1,x2,x3,x4⟩ := (HW.out.up hb1).c
  have HW1 : Hid _ := hw1
  have HB1 : Hid _ := hb1
  clear hw1 hb1
  generalize htl : ts.length = m at *
  have HTL : Hid _ := htl
  clear htl
  go_enter Try.func41,Try.ntmps41
  go_wp2_with (first | (go_at_call 61; (with_reducible refine jf.mono ?_); rintro e w' ⟨rfl,hw1⟩; obtain rfl := hw1.symm) | rw [← HW1.out] | (at_builtin; refine q24 rfl _ _ rfl w.heap.size (.slice (some ⟨w.heap.size,0,none⟩) 0 0) 0 [] ts d m c rfl rfl hO1 hL1 (by omega) (by omega) hs1' ?_))
  intro v2 w2 ho2 hg2
  obtain ⟨a2,k2,rfl⟩ := qs ho2
  have hb2 : Below w.heap.size w w2 := HB1.out.grown hg2 HB1.out.size (fun q e => qw hO1 q e)
  obtain ⟨w3,hw3⟩ : ∃ w3,w3 = w2.alloc (.cells #[.int .u8 (l : Int)] 46) := ⟨_,rfl⟩
  have hb3 : Below w.heap.size w w3 := by rw [hw3]; exact q5 hb2 (q7 _ _)
  have hO3 : w3.ownsRow w.heap.size 46 1 (.slice a2 m k2) m (ltV ts) := by rw [hw3]; exact World.ownsRow.alloc ho2 _
  have hc3 : w3.cell? ⟨w2.heap.size,0,none⟩ = some (.int .u8 (l : Int)) := by rw [hw3]; exact q6 (MapKept.heap_alloc w2 _).1 0
  have hs3 : w.heap.size ≤ w3.heap.size := hb3.size
  have hm3 : m + 1 ≤ 140737488355328 := by omega
  have HW3 : Hid _ := hw3
  have HB3 : Hid _ := hb3
  clear ho2 hg2 hO1 hL1 hs1' HW1 HB1 x0 x1 x2 x3 x4 hw3 hb3 hb2 jf c0 c1 c2 c3 c4
  go_wp2_with (first | rw [← HW3.out] | (at_builtin; refine q25 rfl _ _ rfl w.heap.size (.slice a2 m k2) m ts rfl hO3 w2.heap.size l rfl hc3 hm3 hs3 ?_))
  intro v4 w4 ho4 hg4
  obtain ⟨a4,k4,rfl⟩ := qs ho4
  have hb4 : Below w.heap.size w w4 := HB3.out.grown hg4 hs3 (fun q e => qw hO3 q e)
  have hR4 := HW.out.up hb4
  obtain ⟨_,_,_,_,x4⟩ := hR4.c
  have fz := frozen_of_row w4 g 4 _ _ hR4.blk
  obtain ⟨w5,hw5⟩ : ∃ w5,w5 = w4.setCell ⟨g,4,none⟩ (.slice a4 (m + 1) k4) := ⟨_,rfl⟩
  have HR5 : Hid (RwB w5 g p aA nA cA aG nG cG aN nN cN a4 (m + 1) k4) := by show RwB _ _ _ _ _ _ _ _ _ _ _ _ _ _ _; rw [hw5]; exact hR4.set a4 (m + 1) k4
  have HO5 : Hid (OneW w w5 g) := by show OneW _ _ _; rw [hw5]; exact OneW.set hb4 4 _
  have HO6 : Hid (w5.ownsRow w.heap.size 46 1 (.slice a4 (m + 1) k4) (m + 1) (ltV (ts ++ [l]))) := by
   show World.ownsRow _ _ _ _ _ _ _
   rw [hw5]
   have h5 := qT (p := ⟨g,4,none⟩) ho4 HW.out.lt (.slice a4 (m + 1) k4)
   rw [ltV,List.map_append]; exact h5
  have HL5 : Hid (LtC w5 a4 (m + 1) k4 (ts ++ [l])) := qL HO6.out
  have HB5 : Hid (Below w0.heap.size w0 w5) := HO5.out.below H0.out HG0.out
  have HW5 : Hid _ := hw5
  have hln : ∀ x ∈ ts ++ [l],x < 2 ^ p.toNat := fun x hx => by
   rcases List.mem_append.1 hx with h | h
   ·exact HT.out x h
   ·simp only [List.mem_singleton] at h; subst h; exact HLT.out
  have hsn : runP (rwA p N gs) 0 (ts ++ [l]) < nA := (HM.out.rows _).run (ts ++ [l]) 0 (by omega) hln
  obtain ⟨v,hv⟩ := q2p (2 ^ p.toNat) (rwA p N gs) bs (runP (rwA p N gs) 0 (ts ++ [l]))
  have cS : ∀ d os,Calls Try.prog 44 #[.pointer (some ⟨g,0,none⟩)] (grow (redrawn w5 d) os) fun e w'' => e = .returned (.int .i64 ((runP (rwA p N gs) 0 (ts ++ [l]) : Nat) : Int)) ∧ ∃ p : Regrown,w'' = grow (redrawn w5 p.d) p.os := fun d os => by
   have hb := below_regrown w5 d os
   have hbb := q5 HB5.out hb
   refine (qx p aA nA cA aG nG cG aN nN cN N gs g a4 (m + 1) k4 (ts ++ [l]) _ HM.out (HN.out.up hbb) (HG.out.up hbb) (HR5.out.up hb) (HL5.out.up hb) hln).mono ?_
   rintro e w'' ⟨rfl,h2⟩
   exact ⟨rfl,regrown_of_below (q5 hb h2)⟩
  have cV : ∀ d os,Calls Try.prog 43 #[.agg #[.int .i64 p,.slice aA nA cA,.slice aG nG cG,.slice aN nN cN],.int .i64 ((runP (rwA p N gs) 0 (ts ++ [l]) : Nat) : Int)] (grow (redrawn w5 d) os) fun e w'' => e = .returned (.int .u8 (v : Int)) ∧ ∃ p : Regrown,w'' = grow (redrawn w5 p.d) p.os := fun d os => by
   have hb := below_regrown w5 d os
   have hbb := q5 HB5.out hb
   refine (qC p aA nA cA aG nG cG aN nN cN bs N gs _ _ HM.out (HBo.out.up hbb) (HN.out.up hbb) (HG.out.up hbb) hsn).mono ?_
   rintro e w'' ⟨h2,v',rfl,hT⟩
   obtain rfl := hv.uni hT.out
   exact ⟨rfl,regrown_of_below (q5 hb h2)⟩
  obtain ⟨y0,y1,y2,y3,y4⟩ := HR5.out.c
  have z0 := cell_regrown y0
  have z1 := cell_regrown y1
  have z2 := cell_regrown y2
  have z3 := cell_regrown y3
  have HE : Hid (∀ d os,Z (.returned (.tuple #[.int .u8 (v : Int),.int .i64 0])) (grow (redrawn w5 d) os)) := fun d os => by
   have hb := below_regrown w5 d os
   refine HZ.out _ _ (.inr (.inr ⟨HF.out.1,HTL.out ▸ HF.out.2,v,a4,k4,rfl,hv,?_,?_,HO5.out.then hb⟩))
   ·rw [HTL.out]; exact HR5.out.up hb
   ·rw [HTL.out]; exact qF HO6.out hb
  generalize runP (rwA p N gs) 0 (ts ++ [l]) = sn at *
  clear hO3 hc3 hs3 hm3 HW3 HB3 ho4 hg4 hb4 hR4 hw5 HZ
  go_upto_region 6 with (rw [← HW5.out])
  clear HW5 x4 fz
  refine wp_region_quiet_below (by kernel_rfl) (by kernel_rfl) ?_
  repeat (go_big_quiet_step (first | (with_reducible exact cS _ _) | (with_reducible exact cV _ _)))
  refine wpQuiet_nil ?_
  intro _ hw'
  obtain ⟨⟨dq,osq⟩,hw''⟩ := hw'
  subst hw''
  have HE3 : Hid _ := HE.out dq osq
  generalize grow (redrawn w5 dq) osq = wx at *
  clear cS cV HE z0 z1 z2 z3 y0 y1 y2 y3 y4
  go_wp2
  exact HE3.out
theorem qI {w w' : World} {a : Addr} (h : w'.heap[a.block]? = w.heap[a.block]?) : w'.cell? a = w.cell? a := by simp [World.cell?,h]
def RbkR (p : Int) (aA : Option Addr) (nA cA : Nat) (aG : Option Addr) (nG cG : Nat) (aN : Option Addr) (nN cN : Nat) (bs : List Bool) (N : List Gd) (gs : List Int) (g : Nat) (d : Option Addr) (c : Nat) (ts : List Nat) (w : World) (e : Ending) (w' : World) : Prop :=
 (ts = [] ∧ e = .returned (.tuple #[.int .u8 0,.int .i64 6]) ∧ Below w.heap.size w w') ∨
  (∃ (us : List Nat) (l v : Nat),ts = us ++ [l] ∧ e = .returned (.tuple #[.int .u8 (v : Int),.int .i64 0]) ∧ Hid (TolW (2 ^ p.toNat) (rwA p N gs) bs (runP (rwA p N gs) 0 us) v) ∧ Hid (RwB w' g p aA nA cA aG nG cG aN nN cN d us.length c) ∧ Hid (LtC w' d us.length c us) ∧ Hid (OneW w w' g))
theorem q2L (p : Int) (aA : Option Addr) (nA cA : Nat) (aG : Option Addr) (nG cG : Nat) (aN : Option Addr) (nN cN : Nat) (bs : List Bool) (N : List Gd) (gs : List Int) (g : Nat) (d : Option Addr) (c : Nat) (ts : List Nat) (w0 w : World) (hM : MayG p nA N gs) (hB : BoSl w0 aA nA cA bs) (hN : NdSl w0 aN nN cN N) (hG : ZSl w0 aG nG cG gs) (h0 : Below w0.heap.size w0 w) (hg0 : w0.heap.size ≤ g) (hW : RwB w g p aA nA cA aG nG cG aN nN cN d ts.length c) (hL : LtC w d ts.length c ts) (hLf : ∀ k,k < ts.length → (adOf d k).block ≠ g) (ht : ∀ x ∈ ts,x < 2 ^ p.toNat) :
  Calls Try.prog 42 #[.pointer (some ⟨g,0,none⟩)] w (RbkR p aA nA cA aG nG cG aN nN cN bs N gs g d c ts w) := by
 obtain ⟨Z,eZ⟩ : ∃ Z,Z = RbkR p aA nA cA aG nG cG aN nN cN bs N gs g d c ts w := ⟨_,rfl⟩
 have HZ : Hid (∀ e w',RbkR p aA nA cA aG nG cG aN nN cN bs N gs g d c ts w e w' → Z e w') := fun e w' h => by rw [eZ]; exact h
 rw [← eZ]
 clear eZ
 have HM : Hid (MayG p nA N gs) := hM
 have HBo : Hid _ := hB
 have HN : Hid _ := hN
 have HG : Hid _ := hG
 have H0 : Hid (Below w0.heap.size w0 w) := h0
 have HG0 : Hid (w0.heap.size ≤ g) := hg0
 have hs1 := hM.s1
 obtain ⟨c0,c1,c2,c3,c4⟩ := hW.c
 have hcm := hL.hcap
 have hmc := Nat.le_trans hL.hcap hL.bd
 unfold maxLen at hmc
 have hnn := hL.nn
 by_cases he : ts = []
 ·subst he
  have HE : Hid _ := HZ.out (.returned (.tuple #[.int .u8 0,.int .i64 6])) w (.inl ⟨rfl,rfl,Below.refl _ _⟩)
  clear HZ hM hB hN hG hW hL hLf ht h0 hg0 hcm hnn
  simp only [List.length_nil] at c4
  go_enter Try.func42,Try.ntmps42
  go_wp2
  exact HE.out
 obtain ⟨us,l,rfl⟩ : ∃ us l,ts = us ++ [l] := ⟨ts.dropLast,ts.getLast he,(List.dropLast_concat_getLast he).symm⟩
 have hlen : (us ++ [l]).length = us.length + 1 := by simp
 rw [hlen] at c4 hcm hL hW hLf
 have HW : Hid (RwB w g p aA nA cA aG nG cG aN nN cN d (us.length + 1) c) := hW
 have fz := frozen_of_row w g 4 _ _ hW.blk
 obtain ⟨w5,hw5⟩ : ∃ w5,w5 = w.setCell ⟨g,4,none⟩ (.slice d us.length c) := ⟨_,rfl⟩
 have HR5 : Hid (RwB w5 g p aA nA cA aG nG cG aN nN cN d us.length c) := by show RwB _ _ _ _ _ _ _ _ _ _ _ _ _ _ _; rw [hw5]; exact hW.set d us.length c
 have HO5 : Hid (OneW w w5 g) := by show OneW _ _ _; rw [hw5]; exact OneW.set (Below.refl _ _) 4 _
 have HL5 : Hid (LtC w5 d us.length c us) := by
  have hp := hL.preW (k := us.length) (by omega)
  rw [← List.map_take,List.take_left] at hp
  refine ⟨hp.hlen,hp.hcap,hp.bd,hp.idx,fun k hk => ?_,fun k hk => ?_,hp.nn⟩
  ·rw [← hp.cell k hk,hw5]
   exact qI (Below.heap_setCell _ _ _ _ (by dsimp only; exact hLf k (by omega)))
  ·have := hp.blk k hk; rw [hw5]; simpa using this
 have HB5 : Hid (Below w0.heap.size w0 w5) := HO5.out.below H0.out HG0.out
 have HW5 : Hid _ := hw5
 have hsl : ∀ w' : World,(Instr.sliceAt 41 (.slice d (us.length + 1) c) none (some (.int .i64 (us.length : Int))) none).run Try.prog w' = .ok (.slice d us.length c) w' := fun w' => q4q Try.underlying41 q3a d (us.length + 1) c us.length (by omega) hcm hnn w'
 have hwu : IntKind.i64.wrap (us.length : Int) = (us.length : Int) := by
  rw [hlen] at hmc
  rw [IntKind.wrap_i64]; omega
 have hcu : us.length ≤ c := by omega
 have hln : ∀ x ∈ us,x < 2 ^ p.toNat := fun x hx => ht x (by simp [hx])
 clear hM hB hN hG hW hL hLf ht h0 hg0 hw5 he hlen
 have hsn : runP (rwA p N gs) 0 us < nA := (HM.out.rows _).run us 0 (by omega) hln
 obtain ⟨v,hv⟩ := q2p (2 ^ p.toNat) (rwA p N gs) bs (runP (rwA p N gs) 0 us)
 have HE : Hid (∀ w',Below w5.heap.size w5 w' → Z (.returned (.tuple #[.int .u8 (v : Int),.int .i64 0])) w') := fun w' hb =>
  HZ.out _ _ (.inr ⟨us,l,v,rfl,rfl,hv,HR5.out.up hb,HL5.out.up hb,HO5.out.then hb⟩)
 have HLN : Hid _ := hln
 have HSN : Hid _ := hsn
 have HV : Hid (TolW (2 ^ p.toNat) (rwA p N gs) bs (runP (rwA p N gs) 0 us) v) := hv
 clear hln hsn hv HZ
 go_enter Try.func42,Try.ntmps42
 go_upto_region 3 with fail
 go_cut [10] (fun _ wx => Hid (Below w5.heap.size w5 wx))
 case first =>
  clear HE
  go_region_law (fail)
  all_goals
   have HD : Hid (Below w5.heap.size w5 (w.setCell ⟨g,4,none⟩ (.slice d us.length c)).drew) := by
    show Below _ _ _
    rw [← HW5.out]
    exact (Below.refl _ _).drew
   go_wp2
   go_meet
   exact HD
 case rest =>
 obtain ⟨w6,hw6⟩ : ∃ w6,w6 = wc := ⟨_,rfl⟩
 subst hw6
 have HB6 : Hid (Below w0.heap.size w0 w6) := q5 HB5.out hcut.out
 have HR6 : Hid (RwB w6 g p aA nA cA aG nG cG aN nN cN d us.length c) := HR5.out.up hcut.out
 have HL6 : Hid (LtC w6 d us.length c us) := HL5.out.up hcut.out
 have HE6 : Hid (∀ w',Below w6.heap.size w6 w' → Z (.returned (.tuple #[.int .u8 (v : Int),.int .i64 0])) w') := fun w' h => HE.out w' (q5 hcut.out h)
 have cS : ∀ d2 os,Calls Try.prog 44 #[.pointer (some ⟨g,0,none⟩)] (grow (redrawn w6 d2) os) fun e w'' => e = .returned (.int .i64 ((runP (rwA p N gs) 0 us : Nat) : Int)) ∧ ∃ p : Regrown,w'' = grow (redrawn w6 p.d) p.os := fun d2 os => by
  have hb := below_regrown w6 d2 os
  have hbb := q5 HB6.out hb
  refine (qx p aA nA cA aG nG cG aN nN cN N gs g d us.length c us _ HM.out (HN.out.up hbb) (HG.out.up hbb) (HR6.out.up hb) (HL6.out.up hb) HLN.out).mono ?_
  rintro e w'' ⟨rfl,h2⟩
  exact ⟨rfl,regrown_of_below (q5 hb h2)⟩
 have cV : ∀ d2 os,Calls Try.prog 43 #[.agg #[.int .i64 p,.slice aA nA cA,.slice aG nG cG,.slice aN nN cN],.int .i64 ((runP (rwA p N gs) 0 us : Nat) : Int)] (grow (redrawn w6 d2) os) fun e w'' => e = .returned (.int .u8 (v : Int)) ∧ ∃ p : Regrown,w'' = grow (redrawn w6 p.d) p.os := fun d2 os => by
  have hb := below_regrown w6 d2 os
  have hbb := q5 HB6.out hb
  refine (qC p aA nA cA aG nG cG aN nN cN bs N gs _ _ HM.out (HBo.out.up hbb) (HN.out.up hbb) (HG.out.up hbb) HSN.out).mono ?_
  rintro e w'' ⟨h2,v',rfl,hT⟩
  obtain rfl := HV.out.uni hT.out
  exact ⟨rfl,regrown_of_below (q5 hb h2)⟩
 clear c0 c1 c2 c3 c4 fz hsl hwu hcut HE HW5 HR5 HL5
 obtain ⟨y0,y1,y2,y3,y4⟩ := HR6.out.c
 have z0 := cell_regrown y0
 have z1 := cell_regrown y1
 have z2 := cell_regrown y2
 have z3 := cell_regrown y3
 have HE7 : Hid (∀ d2 os,Z (.returned (.tuple #[.int .u8 (v : Int),.int .i64 0])) (grow (redrawn w6 d2) os)) := fun d2 os => HE6.out _ (below_regrown w6 d2 os)
 generalize runP (rwA p N gs) 0 us = sn at *
 clear HE6
 go_upto_region 4 with fail
 refine wp_region_quiet_below (by kernel_rfl) (by kernel_rfl) ?_
 repeat (go_big_quiet_step (first | (with_reducible exact cS _ _) | (with_reducible exact cV _ _)))
 refine wpQuiet_nil ?_
 intro _ hw'
 obtain ⟨⟨dq,osq⟩,hw''⟩ := hw'
 subst hw''
 have HE3 : Hid _ := HE7.out dq osq
 generalize grow (redrawn w6 dq) osq = wx at *
 clear cS cV HE7 z0 z1 z2 z3 y0 y1 y2 y3 y4
 go_wp2
 exact HE3.out
end Go.Proofs.Ytjpggahiddhanaa
