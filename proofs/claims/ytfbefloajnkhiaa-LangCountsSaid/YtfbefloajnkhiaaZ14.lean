/- Texts of the proof, put together: what it uses. -/
import Derived.Deep.RegionLawGrows
import Derived.Deep.RegionLaw
import Derived.Lib.QuietBelow
import Derived.BigQuiet
import Derived.Test.YtfbefloajnkhiaaZ10
import Derived.Test.YtfbefloajnkhiaaZ11
import Derived.Test.YtfbefloajnkhiaaZ13
set_option maxRecDepth 100000
set_option maxHeartbeats 16000000
namespace Go.Proofs.Ytfbefloajnkhiaa
open Go.RowKit Go.Maps
theorem q56 {w : World} {ops : Array Oper} {o : Oper} {a : Act} {K : Act → World → Prop} {Q : Exit → Act → World → Prop} {X : Prop} {T E : TypeId} {z : Value} {bt : Nat} (hu : Try.prog.underlying T = some (.slice E)) (hin : (Try.prog.info? E).map (fun i => (i.zero,i.size,i.bytes)) = some (some z,1,bt)) (hzs : z.cells.size = 1) (hbt : bt ≤ 1000) (hw : Region.wanted o (yielded ops a.tmps) = true) (s x : Operand)
  (ho : o.op = .call { callee := .builtin .append,args := #[s,x],argTypes := #[T,T] }) (base : Nat)
  (v : Value) (n : Nat) (xs : List Value) (y : Value) (g : Nat) (hs : a.eval s = v) (hx : a.eval x = .slice (some ⟨g,0,none⟩) 1 1) (hown : w.ownsRow base E 1 v n xs)
  (hB : w.cell? ⟨g,0,none⟩ = some y) (h1 : y.oneCell' = true) (hn : n ≤ 100000000) (hbase : base ≤ w.heap.size)
  (h : ∀ v' w',w'.ownsRow base E 1 v' (n + 1) (xs ++ [y]) → w.grownBy w' v.ownBlock → K (a.put o.dst v') w') :
  if Region.wanted o (yielded ops a.tmps) = true then Oper.wp Try.prog o a w K Q else X := by
 rw [if_pos hw]
 obtain ⟨i,hi,hz0,hz1,hz2⟩ := info_parts hin
 have hb : (n + 1) * bt ≤ (100000000 + 1) * 1000 := Nat.mul_le_mul (by omega) hbt
 obtain ⟨v',w',hr,h2,h3,_,h5⟩ := run_append_own_at (P := Try.prog) w base T o.type E i _ 1 bt hu hi hz0 hz1 hz2 hzs (by decide) v n _ hown ⟨g,0,none⟩ 1 1 [y] rfl (fun j u hj => by
  match j with
  | 0 => simp at hj; rw [← hj,q8]; exact hB
  | j + 1 => simp at hj) (fun u hu => by simp at hu; subst hu; exact h1) (by unfold maxLen; omega) (by omega) hbase
 unfold Oper.wp execOp
 simp only [ho,resolve,invoke,builtin,Sem.run_bind,Sem.run_pure,Result.andThen_ok,List.map_toArray,List.map_cons,List.map_nil,hs,hx,hr]
 exact h v' w' h2 h3
theorem q2Z {w : World} {ops : Array Oper} {o : Oper} {a : Act} {K : Act → World → Prop} {Q : Exit → Act → World → Prop} {X : Prop} (hw : Region.wanted o (yielded ops a.tmps) = true) (s x : Operand)
  (ho : o.op = .call { callee := .builtin .append,args := #[s,x],argTypes := #[39,39] }) (base base2 : Nat)
  (v : Value) (n : Nat) (xs : List Value) (b : Option Addr) (len cap : Nat) (ys : List Value) (hs : a.eval s = v) (hx : a.eval x = .slice b len cap) (hown : w.ownsRow base 27 1 v n xs) (hT : w.ownsRow base2 27 1 (.slice b len cap) len ys) (h1 : ∀ y ∈ ys,y.oneCell' = true)
  (hn : n ≤ 1000000) (hm : len ≤ 1000000) (hbase : base ≤ w.heap.size)
  (h : ∀ v' w',w'.ownsRow base 27 1 v' (n + len) (xs ++ ys) → w.grownBy w' v.ownBlock → K (a.put o.dst v') w') :
  if Region.wanted o (yielded ops a.tmps) = true then Oper.wp Try.prog o a w K Q else X := by
 rw [if_pos hw]
 obtain ⟨i,hi,hz0,hz1,hz2⟩ := info_parts q1G
 have hl := hT.1
 rcases hT.2 with ⟨e,h0⟩ | ⟨g,cap',cur,e,hg,hcell,hnc,hcm,hsz,htk⟩
 ·injection e with e1 e2 e3
  subst e1; subst e3; subst h0
  have hy : ys = [] := List.eq_nil_of_length_eq_zero (by simpa using hl)
  subst hy
  have hrun := run_append_owned_none (P := Try.prog) w base 39 o.type 27 i 1 Try.underlying39 hi v n _ hown
  unfold Oper.wp execOp
  simp only [ho,resolve,invoke,builtin,Sem.run_bind,Sem.run_pure,Result.andThen_ok,List.map_toArray,List.map_cons,List.map_nil,hs,hx,hrun]
  exact h v w (by rw [List.append_nil]; exact hown) (World.grownBy.refl _ _)
 ·injection e with e1 e2 e3
  subst e1; subst e3
  obtain ⟨v',w',hr,h2,h3,_,h5⟩ := run_append_own_at (P := Try.prog) w base 39 o.type 27 i _ 1 24 Try.underlying39 hi hz0 hz1 hz2 rfl (by decide) v n _ hown ⟨g,0,none⟩ len cap ys hl (fun j u hj => by
   rw [q8,Nat.zero_add,q7 hcell]
   rw [← htk,List.getElem?_take] at hj
   split at hj
   ·simpa using hj
   ·cases hj) h1 (by unfold maxLen; omega) (by omega) hbase
  unfold Oper.wp execOp
  simp only [ho,resolve,invoke,builtin,Sem.run_bind,Sem.run_pure,Result.andThen_ok,List.map_toArray,List.map_cons,List.map_nil,hs,hx,hr]
  exact h v' w' h2 h3
theorem q45 : (Try.prog.info? 86).map (fun i => (i.zero,i.size,i.bytes)) = some (some (.slice none 0 0),1,24) := by kernel_rfl
structure RsO (w : World) (base : Nat) (v : Value) (n : Nat) (gs : List Nat) (R : List (List Nat)) (bs : List Bool) : Prop where
 row : w.ownsRow base 86 1 v gs.length (gs.map fun (g : Nat) => Value.slice (some ⟨g,0,none⟩) n n)
 num : ∀ (i g : Nat),gs[i]? = some g → NuRow w g ((List.range n).map (cntP R bs i))
theorem RsO.up {w w' : World} {base : Nat} {v : Value} {n : Nat} {gs : List Nat} {R : List (List Nat)} {bs : List Bool} (h : RsO w base v n gs R bs) (hb : Below w.heap.size w w') : RsO w' base v n gs R bs := ⟨qb h.row hb,fun i g hg => (h.num i g hg).up hb⟩
theorem q3Y {w w' : World} {base n m : Nat} {v : Value} {xs : List Value} (hr : w.ownsRow base 86 n v m xs) (hg : w.grownBy w' v.ownBlock) {g : Nat} {l : List Nat} (h : NuRow w g l) : NuRow w' g l := by
 refine (hg.block g h.lt (fun e => ?_)).trans h
 rcases hr.2 with ⟨rfl,_⟩ | ⟨g',cap,cur,rfl,_,k1,_⟩
 ·cases e
 ·injection e with e
  dsimp only at e
  subst e
  have h' : w.heap[g]? = some (.cells (encN l).toArray 69 (0,0)) := h
  rw [h'] at k1
  injection k1 with k1
  injection k1 with _ k1 _
  exact absurd k1 (by decide)
theorem RsO.add {w w' : World} {base : Nat} {v v' : Value} {n : Nat} {gs : List Nat} {R : List (List Nat)} {bs : List Bool} (h : RsO w base v n gs R bs) {g : Nat} (hn : NuRow w g ((List.range n).map (cntP R bs gs.length))) (hq : w'.ownsRow base 86 1 v' (gs.length + 1) ((gs.map fun (g : Nat) => Value.slice (some ⟨g,0,none⟩) n n) ++ [.slice (some ⟨g,0,none⟩) n n])) (hg : w.grownBy w' v.ownBlock) : RsO w' base v' n (gs ++ [g]) R bs := by
 refine ⟨by rw [List.length_append,List.length_singleton,List.map_append]; exact hq,fun i x hx => ?_⟩
 rw [List.getElem?_append] at hx
 split at hx
 ·exact q3Y h.row hg (h.num i x hx)
 ·have hi := (List.getElem?_eq_some_iff.1 hx).1
  simp at hi
  have e0 : i - gs.length = 0 := by omega
  rw [e0] at hx
  simp at hx
  subst hx
  have e1 : i = gs.length := by omega
  subst e1
  exact q3Y h.row hg hn
theorem RsO.rs {w : World} {base : Nat} {n m : Nat} {gs : List Nat} {R : List (List Nat)} {bs : List Bool} {v : Value} (h : RsO w base v n gs R bs) (hm : gs.length = m) (h0 : 0 < m) : ∃ gR cR,v = .slice (some ⟨gR,0,none⟩) m cR ∧ RsS w gR n m R bs ∧ m ≤ cR := by
 subst hm
 rcases h.row.2 with ⟨_,e⟩ | ⟨gR,cR,cur,rfl,_,hcell,hnc,_,hsz,htk⟩
 ·omega
 ·refine ⟨gR,cR,rfl,fun i hi => ?_,hnc⟩
  have hg : gs[i]? = some gs[i] := List.getElem?_eq_getElem hi
  refine ⟨gs[i],?_,h.num i _ hg⟩
  rw [q7 hcell]
  have h1 : (gs.map fun (g : Nat) => Value.slice (some ⟨g,0,none⟩) n n)[i]? = some (.slice (some ⟨gs[i],0,none⟩) n n) := by rw [List.getElem?_map,hg]; rfl
  rw [← htk,List.getElem?_take,if_pos (by omega)] at h1
  simpa using h1
theorem LwO.addl {wr w7 : World} {base base2 : Nat} {v v2 : Value} {L L2 : List Bg} (h : LwO wr base v L) (h2 : LwO wr base2 v2 L2) {v7 : Value} (hq : w7.ownsRow base 27 1 v7 (L.length + L2.length) (L.map Bg.v ++ L2.map Bg.v)) (hg : wr.grownBy w7 v.ownBlock) : LwO w7 base v7 (L ++ L2) := by
 have keep : ∀ {u : Value} {n : Nat} {xs : List Value},wr.ownsRow 0 52 1 u n xs → w7.ownsRow 0 52 1 u n xs := fun {u n xs} hu =>
  qk hu (fun g hg1 => hg.block g (hu.lt g hg1).2 (fun e => q1R h.row hu (by decide) e.symm hg1))
 refine ⟨by rw [List.length_append,List.map_append]; exact hq,fun b hb1 => ?_⟩
 rcases List.mem_append.1 hb1 with hb1 | hb1
 ·exact keep (h.let' b hb1)
 ·exact keep (h2.let' b hb1)
theorem q4m (g len cap hi : Nat) (h : hi ≤ cap) (w : World) : (Instr.sliceAt 88 (.slice (some ⟨g,0,none⟩) len cap) none (some (.int .i64 (hi : Int))) none).run Try.prog w = .ok (.slice (some ⟨g,0,none⟩) hi cap) w := by
 simp [Instr.sliceAt,Instr.slice,run_underlying Try.underlying88,qC q1M,go_sem,h]
theorem q3x (R : List (List Nat)) (bs : List Bool) {i m : Nat} (h : i < m) : cntP R bs i 0 ≤ totP R bs m := Nat.le_trans (Nat.le_add_left _ _) (q2E R bs (show i + 1 ≤ m from h))
def WrdR (R : List (List Nat)) (bs : List Bool) (m : Nat) (w : World) (e : Ending) (w' : World) : Prop := Below w.heap.size w w' ∧ ((4096 < totP R bs (m + 1) ∧ e = .returned (.tuple #[.slice none 0 0,.int .i64 15])) ∨ (totP R bs (m + 1) ≤ 4096 ∧ ∃ L a c,e = .returned (.tuple #[.slice a (List.length L) c,.int .i64 0]) ∧ LwO w' w.heap.size (.slice a L.length c) L ∧ L.map Bg.ts = wdP R bs (m + 1)))
theorem q2a (aA : Option Addr) (cA : Nat) (aT : Option Addr) (cT n K : Nat) (bs : List Bool) (R : List (List Nat)) (m : Nat) (w : World) (hM : MvS w aA cA aT cT n bs R) (hR : RowsP n K R) (hK : K ≤ 256) (h1n : 0 < n) (h256 : n ≤ 256) (hm : m ≤ 3) :
  Calls Try.prog 33 #[.agg #[.slice aA n cA,.slice aT n cT],.int .i64 (m : Int)] w (WrdR R bs m w) := by
 obtain ⟨Z,eZ⟩ : ∃ Z,Z = WrdR R bs m w := ⟨_,rfl⟩
 have HZ : Hid (∀ e w',WrdR R bs m w e w' → Z e w') := fun e w' h => by rw [eZ]; exact h
 rw [← eZ]
 clear eZ
 have HV0 : Hid (MvG (w.alloc (.cells #[.slice aA n cA,.slice aT n cT] 62 (0,0))) w.heap.size (.slice aA n cA) (.slice aT n cT)) := qa w _ _
 have hb0 := q6 w (.cells #[.slice aA n cA,.slice aT n cT] 62 (0,0))
 have HB0 : Hid _ := hb0
 have HHM : Hid _ := hM
 have HR : Hid _ := hR
 have m0 := HV0.out.c0
 have m1 := HV0.out.c1
 have je := q12 aA cA aT cT n bs R _ (hM.up hb0) h256
 clear hM hR hb0
 go_enter Try.func33,Try.ntmps33
 go_wp2_with fail
 refine je.mono ?_
 rintro e w2 ⟨hb2,g2,rfl,hg2,hn2⟩
 have hbl := q6 w2 (.cells #[.slice (some ⟨g2,0,none⟩) n n] 86)
 have HB3 : Hid (Below w.heap.size w (w2.alloc (.cells #[.slice (some ⟨g2,0,none⟩) n n] 86))) := q5 (q5 HB0.out hb2) hbl
 have HV3 : Hid (MvG (w2.alloc (.cells #[.slice (some ⟨g2,0,none⟩) n n] 86)) w.heap.size (.slice aA n cA) (.slice aT n cT)) := (HV0.out.up hb2).up hbl
 have HRS3 : Hid (RsO (w2.alloc (.cells #[.slice (some ⟨g2,0,none⟩) n n] 86)) (w.heap.size + 1) (.slice (some ⟨w2.heap.size,0,none⟩) 1 1) n [g2] R bs) := by
  have hs2 := (HV0.out.up hb2).lt
  refine ⟨⟨rfl,.inr ⟨w2.heap.size,1,_,rfl,by omega,(MapKept.heap_alloc w2 _).1,Nat.le_refl _,by decide,rfl,rfl⟩⟩,fun i g hg => ?_⟩
  match i with
  | 0 => simp at hg; subst hg; exact NuRow.up hn2 hbl
  | i + 1 => simp at hg
 clear je hb2 hg2 hn2 HB0 HV0 m0 m1 hbl
 go_wp2
 generalize w2.alloc (.cells #[.slice (some ⟨g2,0,none⟩) n n] 86) = w3 at *
 generalize w2.heap.size = g3 at *
 go_loopw [6,17] (fun v i wr => ∃ (k : Nat) (gs : List Nat),k ≤ m ∧ i = .int .i64 (k : Int) ∧ Hid (gs.length = k + 1) ∧ Hid (Below w.heap.size w wr) ∧ Hid (MvG wr w.heap.size (.slice aA n cA) (.slice aT n cT)) ∧ Hid (RsO wr (w.heap.size + 1) v n gs R bs)) (fun _ i _ => m - (intOf i).toNat)
 case atStart => exact ⟨0,[g2],Nat.zero_le _,rfl,rfl,HB3,HV3,HRS3⟩
 case round =>
  clear HB3 HV3 HRS3
  obtain ⟨k,gs,hk,rfl,HGL,HB,HV,HRS⟩ := hrel
  obtain ⟨gR,cR,rfl,hrs,hcR⟩ := HRS.out.rs HGL.out (by omega)
  by_cases hlt : k < m
  ·obtain ⟨g,hg,hnr⟩ := hrs k (by omega)
   have ixr := fun w' => qL gR (k + 1) cR k (by omega) w'
   have c0 := HV.out.c0
   have c1 := HV.out.c1
   have hbd : Below wr.heap.size wr wr.drew := (Below.refl _ _).drew
   have jl0 := qM aA cA aT cT n K bs R (cntP R bs k) g wr.drew (HHM.out.up (q5 HB.out hbd)) HR.out hK h256 (hnr.up hbd)
   rw [← q2t] at jl0
   have jl : Calls Try.prog 46 #[.agg #[.slice aA n cA,.slice aT n cT],.slice (some ⟨g,0,none⟩) n n] wr.drew fun e w9 => ∃ g9,e = .returned (.slice (some ⟨g9,0,none⟩) n n) ∧ Hid (Below wr.heap.size wr w9) ∧ Hid (NuRow (w9.alloc (.cells #[.slice (some ⟨g9,0,none⟩) n n] 86)) g9 ((List.range n).map (cntP R bs (k + 1)))) ∧ (w9.alloc (.cells #[.slice (some ⟨g9,0,none⟩) n n] 86)).ownsRow (w.heap.size + 1) 86 1 (.slice (some ⟨gR,0,none⟩) (k + 1) cR) (k + 1) (gs.map fun (g : Nat) => Value.slice (some ⟨g,0,none⟩) n n) ∧ (w9.alloc (.cells #[.slice (some ⟨g9,0,none⟩) n n] 86)).cell? ⟨w9.heap.size,0,none⟩ = some (.slice (some ⟨g9,0,none⟩) n n) ∧ w.heap.size + 1 ≤ w9.heap.size := by
    refine jl0.mono ?_
    rintro e w9 ⟨hb9,g9,rfl,hg9,hn9⟩
    have hrr := HRS.out.row
    rw [HGL.out] at hrr
    have hbb := q5 hbd hb9
    have hs := HV.out.lt
    exact ⟨g9,rfl,hbb,hn9.up (q6 _ _),World.ownsRow.alloc (qb hrr hbb) _,q7 (MapKept.heap_alloc w9 _).1 0,by have := hbb.size; omega⟩
   have HPP : Hid (∀ w9 g9 w5 v5,Below wr.heap.size wr w9 → NuRow (w9.alloc (.cells #[.slice (some ⟨g9,0,none⟩) n n] 86)) g9 ((List.range n).map (cntP R bs (k + 1))) → w5.ownsRow (w.heap.size + 1) 86 1 v5 (k + 1 + 1) ((gs.map fun (g : Nat) => Value.slice (some ⟨g,0,none⟩) n n) ++ [.slice (some ⟨g9,0,none⟩) n n]) → (w9.alloc (.cells #[.slice (some ⟨g9,0,none⟩) n n] 86)).grownBy w5 (Value.slice (some ⟨gR,0,none⟩) (k + 1) cR).ownBlock → Hid (RsO w5 (w.heap.size + 1) v5 n (gs ++ [g9]) R bs) ∧ Hid (MvG w5 w.heap.size (.slice aA n cA) (.slice aT n cT)) ∧ Hid (Below w.heap.size w w5)) := fun w9 g9 w5 v5 hb9 hn9 hq5 hg5 => by
    have hr9 := (HRS.out.up hb9).up (q6 w9 (.cells #[.slice (some ⟨g9,0,none⟩) n n] 86))
    have hge := qf hr9.row
    have hv9 := (HV.out.up hb9).up (q6 w9 (.cells #[.slice (some ⟨g9,0,none⟩) n n] 86))
    have hb99 := q5 (q5 HB.out hb9) (q6 w9 (.cells #[.slice (some ⟨g9,0,none⟩) n n] 86))
    refine ⟨hr9.add (by rw [HGL.out]; exact hn9) (by rw [HGL.out]; exact hq5) hg5,(hg5.block _ hv9.lt (fun e => ?_)).trans hv9,hb99.grown hg5 hb99.size (fun q e => ?_)⟩
    ·have := hge w.heap.size e.symm; omega
    ·have := hge q e; omega
   have HGL2 : Hid (∀ g9 : Nat,(gs ++ [g9]).length = k + 1 + 1) := fun g9 => by rw [List.length_append,HGL.out]; rfl
   clear hrs hnr jl0 hbd HB HV HRS HGL
   generalize (gs.map fun (g : Nat) => Value.slice (some ⟨g,0,none⟩) n n) = xsr at *
   go_wp2
   go_region_law (first
    | (revert hO9; intro hO9; refine q56 Try.underlying88 q45 rfl (by decide) rfl _ _ rfl (w.heap.size + 1) (.slice (some ⟨gR,0,none⟩) (k + 1) cR) (k + 1) xsr (.slice (some ⟨g9,0,none⟩) n n) w9.heap.size rfl rfl hO9 hc9 rfl (by omega) (by simp; omega) ?_; intro v5 w5 hown5 hgr5; obtain ⟨a5,k5,rfl⟩ := qg hown5; obtain ⟨HR5,HV5,HB5⟩ := HPP.out w9 g9 w5 _ HB9.out HN9.out hown5 hgr5)
    | (revert jl; intro jl; go_simp; (with_reducible refine jl.mono ?_); rintro e w9 ⟨g9,rfl,HB9,HN9,hO9,hc9,hB9⟩; dsimp only)
    | fail)
   all_goals
    clear jl HPP hO9 hc9 hB9 hown5 hgr5 hg ixr c0 c1
    go_wp2
    go_roundw
    case rel => exact ⟨k + 1,gs ++ [g9],by omega,by go_num,HGL2.out _,HB5,HV5,HR5⟩
    case measure => simp [intOf]; omega
  ·obtain rfl : k = m := by omega
   obtain ⟨M1,hM1⟩ : ∃ M1,M1 = k + 1 := ⟨_,rfl⟩
   rw [← hM1] at hrs hcR ⊢
   have HM1 : Hid _ := hM1
   have h1M : 0 < M1 ∧ M1 ≤ 4 := by omega
   have HRSS : Hid (RsS wr gR n M1 R bs) := hrs
   have HGR0 : Hid (∀ wx,Below wr.heap.size wr wx → ∃ cur,wx.heap[gR]? = some (.cells cur 86 (0,0))) := fun wx hb => by
    rcases HRS.out.row.2 with ⟨e1,_⟩ | ⟨g',cap,cur,e1,_,k1,_⟩
    ·cases e1
    ·injection e1 with e1 _ _
     injection e1 with e1
     injection e1 with e1
     subst e1
     exact ⟨cur,(hb.block gR (Array.getElem?_eq_some_iff.1 k1).1).trans k1⟩
   have HZ2 : Hid (∀ e w',Below w.heap.size w w' → ((4096 < totP R bs M1 ∧ e = .returned (.tuple #[.slice none 0 0,.int .i64 15])) ∨ (totP R bs M1 ≤ 4096 ∧ ∃ L a c,e = .returned (.tuple #[.slice a (List.length L) c,.int .i64 0]) ∧ LwO w' w.heap.size (.slice a L.length c) L ∧ L.map Bg.ts = wdP R bs M1)) → Z e w') := fun e w' hb h => HZ.out e w' ⟨hb,by rw [← HM1.out]; exact h⟩
   have HB8 : Hid (Below wr.heap.size wr (wr.alloc (.cells #[.int .u64 0,.bool false] 69 (0,0)))) := q6 _ _
   have HS8 : Hid (NuB (wr.alloc (.cells #[.int .u64 0,.bool false] 69 (0,0))) wr.heap.size (totP R bs 0)) := q2k wr
   clear HZ HRS HGL hM1 hrs hlt hk
   go_wp2
   generalize wr.alloc (.cells #[.int .u64 0,.bool false] 69 (0,0)) = w8 at *
   generalize hg8 : wr.heap.size = g8 at *
   have HG8 : Hid _ := hg8
   clear hg8
   generalize wr = wo at *
   go_loopw [32] (fun i wy => ∃ q : Nat,q ≤ M1 ∧ i = .int .i64 (q : Int) ∧ Hid (Below g8 wo wy) ∧ Hid (NuB wy g8 (totP R bs q))) (fun i _ => M1 - (intOf i).toNat)
   case atStart => exact ⟨0,Nat.zero_le _,rfl,HB8,HS8⟩
   case round =>
    clear HB8 HS8
    obtain ⟨q,hq,rfl,HBY,HSY⟩ := hrel
    have hbo : Below wo.heap.size wo wr := by rw [HG8.out]; exact HBY.out
    by_cases hlt : q < M1
    ·obtain ⟨g,hg,hnr⟩ := HRSS.out.up hbo q hlt
     have ixr := fun w' => qL gR M1 cR q hlt w'
     obtain ⟨oo,ho,hix,d0,d1,-,-⟩ := hnr.at (by simp) (k := 0) h1n
     have hft : ((List.range n).map (cntP R bs q)).getD 0 0 = cntP R bs q 0 := by simp [List.getD_eq_getElem?_getD,h1n]
     rw [hft] at d0 d1
     have ho0 : oo = 0 := ho
     subst ho0
     have hix0 : ∀ w',(Instr.indexAt 86 (.slice (some ⟨g,0,none⟩) n n) (.int .i64 0)).run Try.prog w' = .ok (.pointer (some ⟨g,0,none⟩)) w' := hix
     have d1 : wr.cell? ⟨g,1,none⟩ = some (.bool (nuO (cntP R bs q 0))) := d1
     have HTT : Hid (totP R bs (q + 1) = totP R bs q + cntP R bs q 0) := rfl
     have c0 := HSY.out.c0
     have c1 := HSY.out.c1
     clear ho hix hft hnr
     generalize cntP R bs q 0 = x at *
     generalize totP R bs q = c at *
     have jp := fun wx => q1b c x wx
     have HU6 : Hid (∀ wx w6,Below wr.heap.size wr wx → Below wx.heap.size wx w6 → Below g8 wo (two2 w6 g8 (.int .u64 (nuN (c + x))) (.bool (nuO (c + x)))) ∧ NuB (two2 w6 g8 (.int .u64 (nuN (c + x))) (.bool (nuO (c + x)))) g8 (c + x) ∧ w6.cell? ⟨g8,0,none⟩ = some (.int .u64 (nuN c)) ∧ w6.cell? ⟨g8,1,none⟩ = some (.bool (nuO c)) ∧ w6.frozen? ⟨g8,0,none⟩ = false ∧ w6.frozen? ⟨g8,1,none⟩ = false) := fun wx w6 h1 h2 => by
      have h3 := (HSY.out.up h1).up h2
      have hl := HSY.out.lt
      have h4 : Below g8 wo w6 := qx (qx HBY.out h1 (by omega)) h2 (by have := h1.size; omega)
      exact ⟨qs h4 (Nat.le_refl _) _ _,h3.set _,h3.c0,h3.c1,h3.fz 0,h3.fz 1⟩
     clear hbo
     go_wp2
     go_region_with (first
      | (go_at_call 47; (with_reducible refine (jp _).mono ?_); rintro e w6 ⟨rfl,hb6⟩; obtain ⟨u1,u2,u3,u4,u5,u6⟩ := HU6.out _ w6 (by first | exact Below.refl _ _ | exact below_drewN (Below.refl _ _) _ | exact (Below.refl _ _).drew) hb6; have HU1 : Hid _ := u1; have HU3 : Hid (NuB (two2 w6 g8 (.int .u64 (nuN (c + x))) (.bool (nuO (c + x)))) g8 (totP R bs (q + 1))) := (by rw [HTT.out]; exact u2); clear hb6 u1 u2)
      | fail)
     all_goals
      clear HU6 HTT jp c0 c1 d0 d1 hix0 ixr hg HSY HBY
      go_wp2
      go_roundw
      case rel => exact ⟨q + 1,by omega,by go_num,HU1,HU3⟩
      case measure => simp [intOf]; omega
    ·obtain rfl : q = M1 := by omega
     have HBW : Hid (Below w.heap.size w wr) := q5 HB.out hbo
     have HVW : Hid (MvG wr w.heap.size (.slice aA n cA) (.slice aT n cT)) := HV.out.up hbo
     have HRW : Hid (RsS wr gR n q R bs) := HRSS.out.up hbo
     have HGT : Hid (∃ cur,wr.heap[gR]? = some (.cells cur 86 (0,0))) := HGR0.out wr HBY.out
     have c0 := HSY.out.c0
     have c1 := HSY.out.c1
     clear hbo HB HV HRSS HBY HSY hq hlt
     by_cases hov : 18446744073709551616 ≤ totP R bs q
     ·have HE : Hid _ := HZ2.out _ wr HBW.out (.inl ⟨by omega,rfl⟩)
      have ho : nuO (totP R bs q) = true := decide_eq_true hov
      rw [ho] at c1
      clear HZ2 HBW HVW HRW hov ho
      generalize nuN (totP R bs q) = z at *
      go_wp2
      exact HE.out
     ·obtain ⟨hn1,ho⟩ := qT (show totP R bs q < 18446744073709551616 by omega)
      rw [ho] at c1
      rw [hn1] at c0
      by_cases hbig : 4096 < totP R bs q
      ·have HE : Hid _ := HZ2.out _ wr HBW.out (.inl ⟨hbig,rfl⟩)
       have hbi : (4096 : Int) < ((totP R bs q : Nat) : Int) := by omega
       clear HZ2 HBW HVW HRW hn1 ho hov
       generalize totP R bs q = T at *
       go_wp2
       exact HE.out
      ·have hbi : ¬ (4096 : Int) < ((totP R bs q : Nat) : Int) := by omega
       have HTM : Hid (totP R bs q ≤ 4096) := by show _ ≤ _; omega
       have HLW : Hid (LwO wr w.heap.size (.slice none 0 0) []) := ⟨⟨rfl,.inl ⟨rfl,rfl⟩⟩,fun b hb => by cases hb⟩
       clear hn1 ho hov hbig
       generalize ((totP R bs q : Nat) : Int) = T at *
       go_wp2
       clear c0 c1 hbi
       go_loopw [11,51] (fun v i wy => ∃ (j : Nat) (L : List Bg),j ≤ q ∧ i = .int .i64 (j : Int) ∧ Hid (Below w.heap.size w wy) ∧ Hid (MvG wy w.heap.size (.slice aA n cA) (.slice aT n cT)) ∧ Hid (RsS wy gR n q R bs) ∧ Hid (LwO wy w.heap.size v L) ∧ Hid (L.map Bg.ts = wdP R bs j) ∧ Hid (∃ cur,wy.heap[gR]? = some (.cells cur 86 (0,0)))) (fun _ i _ => q - (intOf i).toNat)
       case atStart => exact ⟨0,[],Nat.zero_le _,rfl,HBW,HVW,HRW,HLW,rfl,HGT⟩
       case round =>
        clear HBW HVW HRW HLW HGT
        obtain ⟨j,L,hj,rfl,HB,HV,HRS,HLW,HE,HGT⟩ := hrel
        obtain ⟨va,vc,rfl⟩ := qg HLW.out.row
        have hLl : L.length ≤ 4096 := by
         have h1 := congrArg List.length HE.out
         rw [List.length_map,(q3z HR.out hK h1n j).len] at h1
         have h2 := q2E R bs hj
         have h3 := HTM.out
         omega
        by_cases hlt : j < q
        ·obtain ⟨J1,hJ1⟩ : ∃ J1,J1 = j + 1 := ⟨_,rfl⟩
         have hwj : IntKind.i64.wrap ((j : Int) + 1) = (J1 : Int) := by rw [IntKind.wrap_i64]; omega
         have hcut := fun w' => q4m gR q cR J1 (by omega) w'
         have hcj : cntP R bs j 0 ≤ 4096 := Nat.le_trans (q3x R bs hlt) HTM.out
         have c0 := HV.out.c0
         have c1 := HV.out.c1
         have hbd : Below wr.heap.size wr wr.drew := (Below.refl _ _).drew
         have js0 := q28 aA cA aT cT n K bs R gR cR j wr.drew (HHM.out.up (q5 HB.out hbd)) HR.out hK h1n (fun i hi => (HRS.out.up hbd) i (by omega)) (by omega) hcj
         have js : Calls Try.prog 48 #[.agg #[.slice aA n cA,.slice aT n cT],.slice (some ⟨gR,0,none⟩) J1 cR] wr.drew fun e w9 => ∃ L2 a2 c2,e = .returned (.slice a2 (List.length L2) c2) ∧ Hid (Below wr.heap.size wr w9) ∧ Hid (LwO w9 wr.heap.size (.slice a2 L2.length c2) L2) ∧ w9.ownsRow w.heap.size 27 1 (.slice va L.length vc) L.length (L.map Bg.v) ∧ w9.ownsRow wr.heap.size 27 1 (.slice a2 L2.length c2) L2.length (L2.map Bg.v) ∧ Hid ((L ++ L2).map Bg.ts = wdP R bs (j + 1)) ∧ w.heap.size ≤ w9.heap.size ∧ L2.length ≤ 4096 := by
          rw [hJ1]
          refine js0.mono ?_
          rintro e w9 ⟨hb9,L2,a2,c2,rfl,h2,h3⟩
          have hbb := q5 hbd hb9
          have hl2 : L2.length ≤ 4096 := by
           have h4 := congrArg List.length h3
           rw [List.length_map,(q4I (bs := bs) HR.out hK h1n j).len] at h4
           omega
          exact ⟨L2,a2,c2,rfl,hbb,h2,qb HLW.out.row hbb,h2.row,by show _ = _; rw [List.map_append,HE.out,h3,q3A],Nat.le_trans HB.out.size hbb.size,hl2⟩
         have HPP : Hid (∀ w9 L2 a2 c2 w5 v5,Below wr.heap.size wr w9 → LwO w9 wr.heap.size (.slice a2 (List.length L2) c2) L2 → w5.ownsRow w.heap.size 27 1 v5 (L.length + L2.length) (L.map Bg.v ++ L2.map Bg.v) → w9.grownBy w5 (Value.slice va L.length vc).ownBlock → Hid (LwO w5 w.heap.size v5 (L ++ L2)) ∧ Hid (MvG w5 w.heap.size (.slice aA n cA) (.slice aT n cT)) ∧ Hid (Below w.heap.size w w5) ∧ Hid (RsS w5 gR n q R bs) ∧ Hid (∃ cur,w5.heap[gR]? = some (.cells cur 86 (0,0)))) := fun w9 L2 a2 c2 w5 v5 hb9 h2 hq5 hg5 => by
          have h1 := HLW.out.up hb9
          have hv9 := HV.out.up hb9
          have hr9 := HRS.out.up hb9
          have hb99 := q5 HB.out hb9
          have kpb : ∀ (g : Nat) (cur : Array Value) (e : TypeId),e ≠ 27 → w9.heap[g]? = some (.cells cur e (0,0)) → w5.heap[g]? = w9.heap[g]? := fun g cur e hne hc => hg5.block g (Array.getElem?_eq_some_iff.1 hc).1 (fun ee => by
           rcases h1.row.2 with ⟨e1,_⟩ | ⟨g',cap,cur',e1,_,k1,_⟩
           ·rw [e1] at ee; cases ee
           ·rw [e1] at ee
            injection ee with ee
            dsimp only at ee
            subst ee
            rw [hc] at k1
            injection k1 with k1
            injection k1 with _ k1 _
            exact hne k1)
          obtain ⟨cur,hcur0⟩ := HGT.out
          have hcur : w9.heap[gR]? = some (.cells cur 86 (0,0)) := (hb9.block gR (Array.getElem?_eq_some_iff.1 hcur0).1).trans hcur0
          refine ⟨h1.addl h2 hq5 hg5,(kpb _ _ _ (by decide) hv9).trans hv9,hb99.grown hg5 hb99.size (qf h1.row),fun i hi => ?_,cur,(kpb gR cur _ (by decide) hcur).trans hcur⟩
          obtain ⟨g,h3,h4⟩ := hr9 i hi
          refine ⟨g,?_,(kpb _ _ _ (by decide) h4).trans h4⟩
          rw [World.cell?_of_block (kpb gR cur _ (by decide) hcur)]
          exact h3
         have HJ1 : Hid _ := hJ1
         clear js0 hbd HB HV HRS HLW HE hJ1 hcj
         obtain ⟨xsL,hxs⟩ : ∃ xs,xs = L.map Bg.v := ⟨_,rfl⟩
         rw [← hxs] at js HPP
         have HXS : Hid _ := hxs
         obtain ⟨nL,hnL⟩ : ∃ nL,nL = L.length := ⟨_,rfl⟩
         rw [← hnL] at js HPP hLl ⊢
         clear hxs hnL HXS
         go_wp2
         go_region_law (first
          | (revert hO9; intro hO9; refine q2Z rfl _ _ rfl w.heap.size wr.heap.size (.slice va nL vc) nL xsL a2 (List.length L2) c2 (L2.map Bg.v) rfl rfl hO9 hT9 (fun y hy => by obtain ⟨b,_,rfl⟩ := List.mem_map.1 hy; rfl) (by omega) (by omega) hB9 ?_; intro v5 w5 hown5 hgr5; obtain ⟨a5,k5,rfl⟩ := qg hown5; obtain ⟨HL5,HV5,HB5,HR5,HT5⟩ := HPP.out w9 L2 a2 c2 w5 _ HB9.out HLW9.out hown5 hgr5)
          | (revert js; intro js; go_simp; (with_reducible refine js.mono ?_); rintro e w9 ⟨L2,a2,c2,rfl,HB9,HLW9,hO9,hT9,HE9,hB9,hl9⟩; dsimp only)
          | fail)
         all_goals
          clear js HPP hO9 hT9 hB9 hown5 hgr5 hcut c0 c1 hwj
          go_wp2
          go_roundw
          case rel => exact ⟨j + 1,L ++ L2,by omega,by go_num,HB5,HV5,HR5,HL5,HE9,HT5⟩
          case measure => simp [intOf]; omega
        ·obtain rfl : j = q := by omega
         have HE2 : Hid _ := HZ2.out _ wr HB.out (.inr ⟨HTM.out,L,va,vc,rfl,HLW.out,HE.out⟩)
         clear HZ2 HB HV HRS HLW HE
         go_wp2
         exact HE2.out
end Go.Proofs.Ytfbefloajnkhiaa
namespace Go.Proofs.Ytfbefloajnkhiaa
open Go.RowKit Go.Maps Go.Sort
def ReaR (p : Int) (nA : Nat) (N : List Gd) (gs : List Int) (w : World) (e : Ending) (w' : World) : Prop := Below w.heap.size w w' ∧ ((¬ MayG p nA N gs ∧ e = .returned (.tuple #[.slice none 0 0,.int .i64 12])) ∨ (MayG p nA N gs ∧ ∃ g zs,e = .returned (.tuple #[.slice (some ⟨g,0,none⟩) nA nA,.int .i64 0]) ∧ w.heap.size ≤ g ∧ RowI w' 3 g zs ∧ LenA nA (2 ^ p.toNat) (rowsG N gs (2 ^ p.toNat)) zs))
def LvlR (p : Int) (nA : Nat) (N : List Gd) (gs : List Int) (bs : List Bool) (w : World) (e : Ending) (w' : World) : Prop := Below w.heap.size w w' ∧ ((¬ MayG p nA N gs ∧ e = .returned (.tuple #[.slice none 0 0,.int .i64 12])) ∨ (MayG p nA N gs ∧ ∃ g c ls,e = .returned (.tuple #[.slice (some ⟨g,0,none⟩) nA c,.int .i64 0]) ∧ w'.ownsRow w.heap.size 4 1 (.slice (some ⟨g,0,none⟩) nA c) nA (ls.map Value.bool) ∧ LivA nA (2 ^ p.toNat) (rowsG N gs (2 ^ p.toNat)) bs ls))
theorem q22 (p : Int) (aA : Option Addr) (nA cA : Nat) (aG : Option Addr) (nG cG : Nat) (aN : Option Addr) (nN cN : Nat) (bs : List Bool) (N : List Gd) (gs : List Int) (w : World) (hB : BoSl w aA nA cA bs) (hN : NdSl w aN nN cN N) (hG : ZSl w aG nG cG gs) (hok : ∀ z ∈ gs,I64 z) :
  Calls Try.prog 18 #[.agg #[.int .i64 p,.slice aA nA cA,.slice aG nG cG,.slice aN nN cN]] w (ReaR p nA N gs w) := by
 obtain ⟨Z,eZ⟩ : ∃ Z,Z = ReaR p nA N gs w := ⟨_,rfl⟩
 have HZ : Hid (∀ e w',ReaR p nA N gs w e w' → Z e w') := fun e w' h => by rw [eZ]; exact h
 rw [← eZ]
 clear eZ
 have hb0 := q6 w (.cells #[.int .i64 p,.slice aA nA cA,.slice aG nG cG,.slice aN nN cN] 26 (0,0))
 have HB0 : Hid _ := hb0
 obtain ⟨c0,c1,c2,c3⟩ := qd w p aA nA cA aG nG cG aN nN cN
 have jl := qm p aA nA cA aG nG cG aN nN cN bs N gs _ (hB.up hb0) (hN.up hb0) (hG.up hb0) hok
 clear hN hG hok hb0 hB
 go_enter Try.func18,Try.ntmps18
 go_wp2_with fail
 refine jl.mono ?_
 rintro e w2 ⟨hb2,⟨hM,rfl⟩ | ⟨hM,aT,cT,rfl,hS⟩⟩
 ·have HE : Hid (Z (.returned (.tuple #[.slice none 0 0,.int .i64 12])) (w2.alloc (.cells #[.slice none 0 0,.slice none 0 0] 62 (0,0)))) := HZ.out _ _ ⟨q5 (q5 HB0.out hb2) (q6 _ _),.inl ⟨hM,rfl⟩⟩
  clear HZ jl hM
  go_wp2
  exact HE.out
 ·have h256 := hM.s2
  have h1n := hM.s1
  have hk256 := hM.k256
  have hb3 := q6 w2 (.cells #[.slice aA nA cA,.slice aT nA cT] 62 (0,0))
  have HB3 : Hid (Below w.heap.size w (w2.alloc (.cells #[.slice aA nA cA,.slice aT nA cT] 62 (0,0)))) := q5 (q5 HB0.out hb2) hb3
  have hS3 := hS.up hb3
  have m0 := (qa w2 (.slice aA nA cA) (.slice aT nA cT)).c0
  have m1 := (qa w2 (.slice aA nA cA) (.slice aT nA cT)).c1
  have jf := q1x aA cA aT cT nA (2 ^ p.toNat) bs (rowsG N gs (2 ^ p.toNat)) _ hS3 (hM.rows _) hk256 (by omega) h256
  have HM : Hid _ := hM
  clear hS hS3 hb2 hb3 jl c0 c1 c2 c3 h256 hk256 hM
  go_wp2_with (go_at_call 36; (with_reducible refine jf.mono ?_); intro e w5 hq; obtain ⟨hb5,g5,zs,rfl,hg5,hr5,hA5⟩ := hq)
  have HE : Hid _ := HZ.out _ w5 ⟨q5 HB3.out hb5,.inr ⟨HM.out,g5,zs,rfl,Nat.le_trans HB3.out.size hg5,hr5,hA5⟩⟩
  clear hb5 HZ
  go_wp2
  exact HE.out
theorem q2T (p : Int) (aA : Option Addr) (nA cA : Nat) (aG : Option Addr) (nG cG : Nat) (aN : Option Addr) (nN cN : Nat) (bs : List Bool) (N : List Gd) (gs : List Int) (w : World) (hB : BoSl w aA nA cA bs) (hN : NdSl w aN nN cN N) (hG : ZSl w aG nG cG gs) (hok : ∀ z ∈ gs,I64 z) :
  Calls Try.prog 17 #[.agg #[.int .i64 p,.slice aA nA cA,.slice aG nG cG,.slice aN nN cN]] w (LvlR p nA N gs bs w) := by
 obtain ⟨Z,eZ⟩ : ∃ Z,Z = LvlR p nA N gs bs w := ⟨_,rfl⟩
 have HZ : Hid (∀ e w',LvlR p nA N gs bs w e w' → Z e w') := fun e w' h => by rw [eZ]; exact h
 rw [← eZ]
 clear eZ
 have hb0 := q6 w (.cells #[.int .i64 p,.slice aA nA cA,.slice aG nG cG,.slice aN nN cN] 26 (0,0))
 have HB0 : Hid _ := hb0
 obtain ⟨c0,c1,c2,c3⟩ := qd w p aA nA cA aG nG cG aN nN cN
 have jl := qm p aA nA cA aG nG cG aN nN cN bs N gs _ (hB.up hb0) (hN.up hb0) (hG.up hb0) hok
 clear hN hG hok hb0 hB
 go_enter Try.func17,Try.ntmps17
 go_wp2_with fail
 refine jl.mono ?_
 rintro e w2 ⟨hb2,⟨hM,rfl⟩ | ⟨hM,aT,cT,rfl,hS⟩⟩
 ·have HE : Hid (Z (.returned (.tuple #[.slice none 0 0,.int .i64 12])) (w2.alloc (.cells #[.slice none 0 0,.slice none 0 0] 62 (0,0)))) := HZ.out _ _ ⟨q5 (q5 HB0.out hb2) (q6 _ _),.inl ⟨hM,rfl⟩⟩
  clear HZ jl hM
  go_wp2
  exact HE.out
 ·have h256 := hM.s2
  have h1n := hM.s1
  have hk256 := hM.k256
  have hb3 := q6 w2 (.cells #[.slice aA nA cA,.slice aT nA cT] 62 (0,0))
  have HB3 : Hid (Below w.heap.size w (w2.alloc (.cells #[.slice aA nA cA,.slice aT nA cT] 62 (0,0)))) := q5 (q5 HB0.out hb2) hb3
  have hS3 := hS.up hb3
  have m0 := (qa w2 (.slice aA nA cA) (.slice aT nA cT)).c0
  have m1 := (qa w2 (.slice aA nA cA) (.slice aT nA cT)).c1
  have jf := q2V aA cA aT cT nA (2 ^ p.toNat) bs (rowsG N gs (2 ^ p.toNat)) _ hS3 (hM.rows _) hk256 (by omega) h256
  have HM : Hid _ := hM
  clear hS hS3 hb2 hb3 jl c0 c1 c2 c3 h256 hk256 hM
  go_wp2_with (go_at_call 35; (with_reducible refine jf.mono ?_); intro e w5 hq; obtain ⟨hb5,g5,c5,ls,rfl,ho5,hA5⟩ := hq)
  have HE : Hid _ := HZ.out _ w5 ⟨q5 HB3.out hb5,.inr ⟨HM.out,g5,c5,ls,rfl,qj ho5 HB3.out.size,hA5⟩⟩
  clear hb5 HZ
  go_wp2
  exact HE.out
def WdsR (p : Int) (nA : Nat) (N : List Gd) (gs : List Int) (bs : List Bool) (m : Int) (w : World) (e : Ending) (w' : World) : Prop := Below w.heap.size w w' ∧
  ((¬ MayG p nA N gs ∧ e = .returned (.tuple #[.slice none 0 0, .int .i64 12])) ∨ (MayG p nA N gs ∧ ¬ (0 ≤ m ∧ m ≤ 3) ∧ e = .returned (.tuple #[.slice none 0 0, .int .i64 2])) ∨
   (MayG p nA N gs ∧ 0 ≤ m ∧ m ≤ 3 ∧ 4096 < totP (rowsG N gs (2 ^ p.toNat)) bs (m.toNat + 1) ∧ e = .returned (.tuple #[.slice none 0 0, .int .i64 15])) ∨
   (MayG p nA N gs ∧ 0 ≤ m ∧ m ≤ 3 ∧ totP (rowsG N gs (2 ^ p.toNat)) bs (m.toNat + 1) ≤ 4096 ∧ ∃ L a c, e = .returned (.tuple #[.slice a (List.length L) c, .int .i64 0]) ∧ LwO w' w.heap.size (.slice a L.length c) L ∧ L.map Bg.ts = wdP (rowsG N gs (2 ^ p.toNat)) bs (m.toNat + 1)))
theorem q23 (p : Int) (aA : Option Addr) (nA cA : Nat) (aG : Option Addr) (nG cG : Nat) (aN : Option Addr) (nN cN : Nat) (bs : List Bool) (N : List Gd) (gs : List Int) (m : Int) (w : World) (hB : BoSl w aA nA cA bs) (hN : NdSl w aN nN cN N) (hG : ZSl w aG nG cG gs) (hok : ∀ z ∈ gs,I64 z) :
  Calls Try.prog 15 #[.agg #[.int .i64 p,.slice aA nA cA,.slice aG nG cG,.slice aN nN cN],.int .i64 m] w (WdsR p nA N gs bs m w) := by
 obtain ⟨Z,eZ⟩ : ∃ Z,Z = WdsR p nA N gs bs m w := ⟨_,rfl⟩
 have HZ : Hid (∀ e w',WdsR p nA N gs bs m w e w' → Z e w') := fun e w' h => by rw [eZ]; exact h
 rw [← eZ]
 clear eZ
 have hb0 := q6 w (.cells #[.int .i64 p,.slice aA nA cA,.slice aG nG cG,.slice aN nN cN] 26 (0,0))
 have HB0 : Hid _ := hb0
 obtain ⟨c0,c1,c2,c3⟩ := qd w p aA nA cA aG nG cG aN nN cN
 have jl := qm p aA nA cA aG nG cG aN nN cN bs N gs _ (hB.up hb0) (hN.up hb0) (hG.up hb0) hok
 clear hN hG hok hb0 hB
 go_enter Try.func15,Try.ntmps15
 go_wp2_with fail
 refine jl.mono ?_
 rintro e w2 ⟨hb2,⟨hM,rfl⟩ | ⟨hM,aT,cT,rfl,hS⟩⟩
 ·have HE : Hid _ := HZ.out (.returned (.tuple #[.slice none 0 0,.int .i64 12])) (w2.alloc (.cells #[.slice none 0 0,.slice none 0 0] 62 (0,0))) ⟨q5 (q5 HB0.out hb2) (q6 _ _),.inl ⟨hM,rfl⟩⟩
  clear HZ jl hM
  go_wp2
  exact HE.out
 ·have h256 := hM.s2
  have h1n := hM.s1
  have hk256 := hM.k256
  have hb3 := q6 w2 (.cells #[.slice aA nA cA,.slice aT nA cT] 62 (0,0))
  have HB3 : Hid (Below w.heap.size w (w2.alloc (.cells #[.slice aA nA cA,.slice aT nA cT] 62 (0,0)))) := q5 (q5 HB0.out hb2) hb3
  have hS3 := hS.up hb3
  have m0 := (qa w2 (.slice aA nA cA) (.slice aT nA cT)).c0
  have m1 := (qa w2 (.slice aA nA cA) (.slice aT nA cT)).c1
  by_cases hm0 : m < 0
  ·have HE : Hid _ := HZ.out (.returned (.tuple #[.slice none 0 0,.int .i64 2])) _ ⟨HB3.out,.inr (.inl ⟨hM,by omega,rfl⟩)⟩
   clear HZ jl hM hS hS3 hb2 hb3
   go_wp2
   exact HE.out
  ·by_cases hm1 : 3 < m
   ·have HE : Hid _ := HZ.out (.returned (.tuple #[.slice none 0 0,.int .i64 2])) _ ⟨HB3.out,.inr (.inl ⟨hM,by omega,rfl⟩)⟩
    clear HZ jl hM hS hS3 hb2 hb3
    go_wp2
    exact HE.out
   ·obtain ⟨k,rfl⟩ := Int.eq_ofNat_of_zero_le (show 0 ≤ m by omega)
    have ja := q2a aA cA aT cT nA (2 ^ p.toNat) bs (rowsG N gs (2 ^ p.toNat)) k _ hS3 (hM.rows _) hk256 (by omega) h256 (by omega)
    have HM : Hid _ := hM
    have hk3 : k ≤ 3 := by omega
    clear jl hS hS3 hb2 hb3 h256 hk256 hM
    have HF : Hid (∀ e w5,WrdR (rowsG N gs (2 ^ p.toNat)) bs k (w2.alloc (.cells #[.slice aA nA cA,.slice aT nA cT] 62 (0,0))) e w5 → ∃ a l c r,e = .returned (.tuple #[.slice a l c,.int .i64 r]) ∧ Z (.returned (.tuple #[.slice a l c,.int .i64 r])) w5) := fun e w5 ⟨h1,h2⟩ => by
     have hb5 := q5 HB3.out h1
     rcases h2 with ⟨h3,rfl⟩ | ⟨h3,L,a,c,rfl,h4,h5⟩
     ·exact ⟨_,_,_,_,rfl,HZ.out _ w5 ⟨hb5,.inr (.inr (.inl ⟨HM.out,by omega,by omega,by rw [Int.toNat_natCast]; exact h3,rfl⟩))⟩⟩
     ·exact ⟨_,_,_,_,rfl,HZ.out _ w5 ⟨hb5,.inr (.inr (.inr ⟨HM.out,by omega,by omega,by rw [Int.toNat_natCast]; exact h3,L,a,c,rfl,⟨qj h4.row HB3.out.size,h4.let'⟩,by rw [Int.toNat_natCast]; exact h5⟩))⟩⟩
    clear HZ
    go_wp2_with (go_at_call 33; (with_reducible refine ja.mono ?_); intro e w5 hq; obtain ⟨a5,l5,c5,r5,rfl,hE5⟩ := HF.out e w5 hq; have HE : Hid _ := hE5; clear hq hE5 HF)
    exact HE.out
variable {w : World} {a1 : Option Addr} {c1 : Nat} {a2 : Option Addr} {c2 : Nat} {a3 : Option Addr} {c3 : Nat}
theorem q5r {w : World} {base n : Nat} {a : Option Addr} {c : Nat} {bs : List Bool} (h : w.ownsRow base 4 1 (.slice a n c) n (bs.map Value.bool)) : BoSl w a n c bs := by
 obtain ⟨a',c',e,hb⟩ := q5J h
 injection e with e1 _ e3
 subst e1; subst e3
 exact hb
theorem q2o (g n c k : Nat) (hk : k < n) (w : World) : (Instr.indexAt 39 (.slice (some ⟨g,0,none⟩) n c) (.int .i64 (k : Int))).run Try.prog w = .ok (.pointer (some ⟨g,k,none⟩)) w := by
 have := qe (P := Try.prog) (T := 39) Try.underlying39 qX (a := some ⟨g,0,none⟩) (cap := c) (n := n) (fun e => by cases e) k w hk
 simpa [adOf,q8] using this
theorem LwO.at {w : World} {base n : Nat} {v : Value} {L : List Bg} (h : LwO w base v L) (hn : L.length = n) {i : Nat} {x : Bg} (hx : L[i]? = some x) : ∃ g c,v = .slice (some ⟨g,0,none⟩) n c ∧ w.cell? ⟨g,i,none⟩ = some x.v ∧ LtC w x.a x.ts.length x.c x.ts := by
 subst hn
 have hi := (List.getElem?_eq_some_iff.1 hx).1
 rcases h.row.2 with ⟨_,e⟩ | ⟨g,c,cur,rfl,_,hcell,hnc,_,hsz,htk⟩
 ·omega
 ·refine ⟨g,c,rfl,?_,q2j (h.let' x (List.mem_of_getElem? hx))⟩
  rw [q7 hcell]
  have h1 : (L.map Bg.v)[i]? = some x.v := by rw [List.getElem?_map,hx]; rfl
  rw [← htk,List.getElem?_take,if_pos (by omega)] at h1
  simpa using h1
def ofL (W : List (List Nat)) (M i : Nat) : List Nat := (List.range M).map fun j => ((W.take i).filter fun t => t.length == j).length
theorem qt (W : List (List Nat)) (M i : Nat) : (ofL W M i).length = M := by simp [ofL]
theorem q52 (W : List (List Nat)) (M : Nat) : ofL W M 0 = List.replicate M 0 := by
 apply List.ext_getElem?
 intro j
 by_cases h : j < M <;> simp [ofL,h]
theorem q3r (W : List (List Nat)) {M i j : Nat} (h : j < M) : (ofL W M i).getD j 0 = ((W.take i).filter fun t => t.length == j).length := by simp [ofL,List.getD_eq_getElem?_getD,h]
theorem q5I (W : List (List Nat)) (M i j : Nat) : (ofL W M i).getD j 0 ≤ W.length := by
 by_cases h : j < M
 ·rw [q3r W h]
  refine Nat.le_trans (List.length_filter_le _ _) ?_
  rw [List.length_take]; omega
 ·rw [List.getD_eq_getElem?_getD,List.getElem?_eq_none (by rw [qt]; omega)]
  exact Nat.zero_le _
theorem q3s {W : List (List Nat)} {M i : Nat} {t : List Nat} (ht : W[i]? = some t) (hl : t.length < M) : ofL W M (i + 1) = (ofL W M i).set t.length ((ofL W M i).getD t.length 0 + 1) := by
 apply List.ext_getElem?
 intro j
 rw [List.getElem?_set,qt]
 by_cases hj : j < M
 ·have e1 : (ofL W M (i + 1))[j]? = some ((W.take (i + 1)).filter fun t => t.length == j).length := by simp [ofL,hj]
  have e2 : (ofL W M i)[j]? = some ((W.take i).filter fun t => t.length == j).length := by simp [ofL,hj]
  have e3 : W.take (i + 1) = W.take i ++ [t] := by rw [List.take_add_one,ht]; rfl
  rw [e1,e2,e3,List.filter_append,List.length_append]
  by_cases e : t.length = j
  ·subst e
   rw [if_pos rfl,if_pos hl,q3r W hl]
   simp
  ·rw [if_neg e]
   simp [e]
 ·have e1 : (ofL W M (i + 1))[j]? = none := List.getElem?_eq_none (by rw [qt]; omega)
  have e2 : (ofL W M i)[j]? = none := List.getElem?_eq_none (by rw [qt]; omega)
  rw [e1,e2]
  by_cases e : t.length = j
  ·omega
  ·rw [if_neg e]
def U64R (w : World) (g : Nat) (cs : List Nat) : Prop := w.heap[g]? = some (.cells (cs.map fun (c : Nat) => Value.int .u64 (c : Int)).toArray 43 (0,0))
theorem U64R.lt {w : World} {g : Nat} {cs : List Nat} (h : U64R w g cs) : g < w.heap.size := (Array.getElem?_eq_some_iff.1 h).1
theorem U64R.up {w w' : World} {g : Nat} {cs : List Nat} (h : U64R w g cs) (hb : Below w.heap.size w w') : U64R w' g cs := (hb.block g h.lt).trans h
theorem U64R.at {w : World} {g n : Nat} {cs : List Nat} (h : U64R w g cs) (hl : cs.length = n) {k : Nat} (hk : k < n) : w.cell? ⟨g,k,none⟩ = some (.int .u64 ((cs.getD k 0 : Nat) : Int)) ∧ w.frozen? ⟨g,k,none⟩ = false := by
 refine ⟨?_,frozen_of_row w g k _ _ h⟩
 rw [q7 h]
 simp [List.getD_eq_getElem?_getD,List.getElem?_eq_getElem (show k < cs.length by omega)]
theorem U64R.set {w : World} {g : Nat} {cs : List Nat} (h : U64R w g cs) (k c : Nat) : U64R (w.setCell ⟨g,k,none⟩ (.int .u64 (c : Int))) g (cs.set k c) := by
 have := heap_setCell_same w g k _ _ (.int .u64 (c : Int)) h
 unfold U64R
 rw [this,List.map_set]
 simp
theorem q46 : (Try.prog.info? 43).map (fun i => (i.zero,i.size,i.bytes)) = some (some (.int .u64 0),1,8) := by kernel_rfl
theorem q4f : (Try.prog.info? 43).map (·.size) = some 1 := by kernel_rfl
theorem q5C (n : Nat) : madeCells #[.int .u64 0] n = ((List.replicate n 0).map fun (c : Nat) => Value.int .u64 (c : Int)).toArray := by
 apply Array.ext_getElem?
 intro i
 by_cases h : i < n
 ·simp [madeCells,h,Nat.mod_one]
 ·simp [madeCells,h]
theorem q49 (l : Nat) (hb : l ≤ 1000) (w : World) :
  (Instr.makeSlice 42 (.int .i64 (l : Int)) (.int .i64 (l : Int))).run Try.prog w = .ok (.slice (some ⟨w.heap.size,0,none⟩) l l) (w.alloc (.cells ((List.replicate l 0).map fun (c : Nat) => Value.int .u64 (c : Int)).toArray 43)) := by
 obtain ⟨i,hi,hz0,hz1,hz2⟩ := info_parts q46
 have := run_make (P := Try.prog) w 42 43 i (.int .u64 0) Try.underlying42 hi hz0 .i64 .i64 (l : Int) (l : Int) (by omega) (by omega) (by rw [hz2]; omega) (by omega)
 rw [this,hz1,← q5C]
 simp only [Int.toNat_natCast,Nat.mul_one]
 rfl
theorem q2q (g n k : Nat) (hk : k < n) (w : World) : (Instr.indexAt 42 (.slice (some ⟨g,0,none⟩) n n) (.int .i64 (k : Int))).run Try.prog w = .ok (.pointer (some ⟨g,k,none⟩)) w := by
 have := qe (P := Try.prog) (T := 42) Try.underlying42 q4f (a := some ⟨g,0,none⟩) (cap := n) (n := n) (fun e => by cases e) k w hk
 simpa [adOf,q8] using this
theorem LenA.on {n K : Nat} {R : List (List Nat)} {zs : List Int} (h : LenA n K R zs) (hR : RowsP n K R) (hn : 0 < n) {u : List Nat} (hu : ∀ l ∈ u,l < K) : 0 ≤ zs.getD (runP R 0 u) 0 ∧ zs.getD (runP R 0 u) 0 ≤ (u.length : Int) := by
 rcases h.2 (runP R 0 u) (hR.run u 0 hn hu) with ⟨_,h2⟩ | ⟨v,_,_,h3,h4⟩
 ·exact absurd rfl (h2 u hu)
 ·have := h4 u hu rfl
  rw [h3]; omega
theorem LivA.acc {n K : Nat} {R : List (List Nat)} {bs ls : List Bool} (h : LivA n K R bs ls) {s : Nat} (hs : s < n) (ha : bs.getD s false = true) : ls.getD s false = true := (h.2 s hs).2 ⟨[],fun l hl => by simp at hl,ha⟩
theorem LivA.back {n K : Nat} {R : List (List Nat)} {bs ls : List Bool} (h : LivA n K R bs ls) (hR : RowsP n K R) {s l : Nat} (hs : s < n) (hl : l < K) (ha : ls.getD (trP R s l) false = true) : ls.getD s false = true := by
 obtain ⟨u,hu,hb⟩ := (h.2 _ (hR.lt s l hs hl)).1 ha
 exact (h.2 s hs).2 ⟨l :: u,fun x hx => by
  rcases List.mem_cons.1 hx with e | hx
  ·rw [e]; exact hl
  ·exact hu x hx,hb⟩
end Go.Proofs.Ytfbefloajnkhiaa
