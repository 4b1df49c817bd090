/- Texts of the proof, put together: what it uses. -/
import Derived.Test.YtbgogbafkoekjaaY00
import Derived.Test.YtbgogbafkoekjaaY09
import Derived.Test.YtbgogbafkoekjaaY12
import Derived.Test.YtbgogbafkoekjaaY14
import Derived.Test.YtbgogbafkoekjaaY15
set_option maxRecDepth 100000
set_option maxHeartbeats 16000000
namespace Go.Proofs.Ytbgogbafkoekjaa
open Go.RowKit Go.Maps Go.Sort
theorem q45 (W : Nat → Bool) (row : List Nat) (t : Nat) : (row ++ [t]).any W = (row.any W || W t) := by simp
theorem q5b {p : Int} {N : List Gd} {gs : List Int} {e s q : Nat} {row : List Nat} (h : row ∈ gfA p N gs e s q) : row.length ≤ 1000 := by
 obtain ⟨x,_,rfl⟩ := List.mem_map.1 h
 rw [List.length_map]; exact Nat.le_trans (qp s) (by decide)
theorem q3S {l : List (List Nat)} {j : Nat} (h : j < l.length) : l.getD j [] ∈ l := by
 rw [List.getD_eq_getElem?_getD,List.getElem?_eq_getElem h]; exact List.getElem_mem _
theorem q3W {l : List (List Nat)} {row : List Nat} (h : row ∈ l) : ∃ j,j < l.length ∧ l.getD j [] = row := by
 obtain ⟨j,hj,e⟩ := List.getElem_of_mem h
 exact ⟨j,hj,by rw [List.getD_eq_getElem?_getD,List.getElem?_eq_getElem hj]; exact e⟩
theorem q1H (p : Int) (aA : Option Addr) (nA cA : Nat) (aG : Option Addr) (nG cG : Nat) (aN : Option Addr) (nN cN : Nat) (N : List Gd) (gs : List Int) (x y k : Nat) (aW : Option Addr) (cW : Nat) (ws : List Bool) (w : World) (hM : MayG p nA N gs) (hN : NdSl w aN nN cN N) (hG : ZSl w aG nG cG gs) (hS : SplitN p.toNat x y) (hk : k < nA) (hx : x < 256) (hy : y < 256) (hW : BoSl w aW nA cW ws) :
  Calls Try.prog 32 #[.agg #[.int .i64 p,.slice aA nA cA,.slice aG nG cG,.slice aN nN cN],.agg #[.int .u8 (x : Int),.int .u8 (y : Int)],.slice aW nA cW,.int .i64 (k : Int)] w fun e w' => Below w.heap.size w w' ∧ e = .returned (.bool (befA (gfA p N gs x y) (acA ws) k)) := by
 obtain ⟨Q,hQ⟩ : ∃ Q : Ending → World → Prop,Q = fun e w' => Below w.heap.size w w' ∧ e = .returned (.bool (befA (gfA p N gs x y) (acA ws) k)) := ⟨_,rfl⟩
 have HQ : Hid (∀ w' b,Below w.heap.size w w' → b = befA (gfA p N gs x y) (acA ws) k → Q (.returned (.bool b)) w') := fun w' b h1 h2 => by rw [hQ,h2]; exact ⟨h1,rfl⟩
 rw [← hQ]
 clear hQ
 obtain ⟨w1,hw1⟩ : ∃ w1,w1 = w.alloc (.cells #[.int .i64 p,.slice aA nA cA,.slice aG nG cG,.slice aN nN cN] 26 (0,0)) := ⟨_,rfl⟩
 have hb1 : Below w.heap.size w w1 := by rw [hw1]; exact q7 _ _
 have hA1 : AuB w1 w.heap.size p aA nA cA aG nG cG aN nN cN := by rw [hw1]; exact qa w p aA nA cA aG nG cG aN nN cN
 have HW1 : Hid _ := hw1
 obtain ⟨w2,hw2⟩ : ∃ w2,w2 = w1.alloc (.cells #[.int .u8 (x : Int),.int .u8 (y : Int)] 29 (0,0)) := ⟨_,rfl⟩
 have hb2 : Below w1.heap.size w1 w2 := by rw [hw2]; exact q7 _ _
 have hk2 : w2.heap[w1.heap.size]? = some (.cells #[.int .u8 (x : Int),.int .u8 (y : Int)] 29 (0,0)) := by rw [hw2]; exact (MapKept.heap_alloc w1 _).1
 have HW2 : Hid _ := hw2
 have hb02 : Below w.heap.size w w2 := q5 hb1 hb2
 have HB2 : Hid _ := hb02
 have j := q2G p aA nA cA aG nG cG aN nN cN N gs x y k w2 hM (hN.up hb02) (hG.up hb02) hS hk hx hy
 obtain ⟨c0,c1,c2,c3⟩ := hA1.up hb2
 have s0 := q6 hk2 0
 have s1 := q6 hk2 1
 have HIN : Hid (InA nA (gfA p N gs x y)) := qV hM hS
 have HWS : Hid (∀ w',Below w2.heap.size w2 w' → BoSl w' aW nA cW ws) := fun w' hb => (hW.up hb02).up hb
 have HI : Hid (∀ r ∈ goeL p N gs x y k,∀ z ∈ r,I64 z) := q2Y hM hk hS
 have hnA := Nat.le_trans hW.hcap hW.bd
 unfold maxLen at hnA
 clear hM hN hG hS hW hw1 hb1 hA1 hw2 hb2 hk2 hb02
 go_enter Try.func32,Try.ntmps32
 go_wp2_with (first | rw [← HW2.out] | rw [← HW1.out])
 refine j.mono ?_
 rintro e w3 ⟨hb3,v,L,rfl,hr,hz⟩
 have hI : ∀ r ∈ L,∀ z ∈ r.zs,I64 z := fun r hr2 => HI.out r.zs (by rw [← hz]; exact List.mem_map_of_mem hr2)
 obtain ⟨ga,gc,rfl,hzz⟩ := hr.zz hI
 rw [q3y] at hz
 have hgn : L.length = (mvL x).length := by rw [← List.length_map (f := Zc.zs),hz,List.length_map,gfA,List.length_map]
 have hg1 : L.length ≤ 256 := by rw [hgn]; exact qp x
 have HR : Hid (RwS w3 ga L.length gc (gfA p N gs x y k) nA) := hzz.rwS hz (by omega) (HIN.out k hk) (fun row hr => q5b hr)
 have HB3 : Hid (Below w2.heap.size w2 w3) := hb3
 have HWW : Hid (BoSl w3 aW nA cW ws) := HWS.out w3 hb3
 have HBF : Hid (befA (gfA p N gs x y) (acA ws) k = (gfA p N gs x y k).all fun row => row.any (acA ws)) := rfl
 have HLN : Hid _ := HR.out.len
 clear j hb3 hr hz hI hzz HI hgn c0 c1 c2 c3 s0 s1 HW1 HW2 HIN HWS
 generalize befA (gfA p N gs x y) (acA ws) k = bf at *
 generalize gfA p N gs x y k = R at *
 generalize L.length = m at *
 go_wp2
 go_loop [10] (fun i => ∃ j : Nat,j ≤ m ∧ i = .int .i64 (j : Int) ∧ Hid (∀ i,i < j → (R.getD i []).any (acA ws) = true)) (fun i => m - (intOf i).toNat)
 case atStart => exact ⟨0,Nat.zero_le _,rfl,fun i h => absurd h (Nat.not_lt_zero _)⟩
 case round =>
  obtain ⟨j,hj,rfl,HJ⟩ := hrel
  by_cases hlt : j < m
  ·have e1 : decide ((j : Int) < (m : Int)) = true := decide_eq_true (by omega)
   obtain ⟨g,o,s,a',c',ixr,cer,hzr⟩ := HR.out.row j hlt
   have hrl := HR.out.rl j hlt
   have HLT : Hid _ := HR.out.lt j hlt
   have HJN : Hid ((R.getD j []).any (acA ws) = true → ∀ i,i < j + 1 → (R.getD i []).any (acA ws) = true) := fun h i hi => by
    by_cases e : i = j
    ·subst e; exact h
    ·exact HJ.out i (by omega)
   have HNO : Hid ((R.getD j []).any (acA ws) = false → false = bf) := fun h => by
    rw [HBF.out]
    cases hx : R.all (fun row => row.any (acA ws)) with
    | false => rfl
    | true =>
     have := List.all_eq_true.1 hx _ (q3S (l := R) (j := j) (by rw [HLN.out]; exact hlt))
     rw [h] at this
     cases this
   have HZR : Hid _ := hzr
   clear HJ hzr
   generalize R.getD j [] = row at *
   go_wp2
   go_loop [11,12] (fun u i => ∃ q : Nat,q ≤ row.length ∧ i = .int .i64 (q : Int) ∧ u = .bool ((row.take q).any (acA ws))) (fun _ i => row.length - (intOf i).toNat)
   case atStart => exact ⟨0,Nat.zero_le _,rfl,rfl⟩
   case round =>
    obtain ⟨q,hq,rfl,rfl⟩ := hrel
    by_cases hlq : q < row.length
    ·have e2 : decide ((q : Int) < (row.length : Int)) = true := decide_eq_true (by omega)
     have ixq := fun w' => HZR.out.idx row.length q w' hlq (Nat.le_refl _)
     have ceq := HZR.out.cell q hlq
     rw [q3C hlq] at ceq
     have htn := HLT.out _ (q1b hlq)
     obtain ⟨ixt,cet⟩ := HWW.out.getQ htn
     have HSN : Hid ((row.take (q + 1)).any (acA ws) = ((row.take q).any (acA ws) || acA ws (row.getD q 0))) := by rw [q1N hlq]; exact q45 _ _ _
     have hac : acA ws (row.getD q 0) = ws.getD (row.getD q 0) false := rfl
     rw [hac] at HSN
     clear hac
     generalize row.getD q 0 = t at *
     generalize ws.getD t false = z at *
     generalize (row.take q).any (acA ws) = l at *
     generalize adOf a' q = aq at *
     obtain ⟨aq1,aq2,aq3⟩ := aq
     generalize adOf aW t = at' at *
     obtain ⟨at1,at2,at3⟩ := at'
     generalize row.length = rl at *
     cases l with
     | true =>
      have HSN2 : Hid _ := HSN.out.trans (Bool.true_or _)
      clear HSN
      go_wp2
      go_round
      case rel => exact ⟨q + 1,by omega,by go_num,by rw [HSN2.out]⟩
      case measure => simp [intOf]; omega
     | false =>
      have HSN2 : Hid _ := HSN.out.trans (Bool.false_or _)
      clear HSN
      go_wp2
      go_round
      case rel => exact ⟨q + 1,by omega,by go_num,by rw [HSN2.out]⟩
      case measure => simp [intOf]; omega
    ·obtain rfl : q = row.length := by omega
     have e2 : decide ((row.length : Int) < (row.length : Int)) = false := by simp
     rw [List.take_length]
     cases hN : row.any (acA ws) with
     | false =>
      have HE : Hid _ := HQ.out w3 false (q5 HB2.out HB3.out) (HNO.out hN)
      clear HQ HJN HNO hN
      go_wp2
      exact HE.out
     | true =>
      have HNX : Hid _ := HJN.out hN
      clear HJN HNO hN
      generalize row.length = rl at *
      go_wp2
      go_round
      case rel => exact ⟨j + 1,by omega,by go_num,HNX.out⟩
      case measure => simp [intOf]; omega
  ·obtain rfl : j = m := by omega
   have e1 : decide ((j : Int) < (j : Int)) = false := by simp
   have HE : Hid _ := HQ.out w3 true (q5 HB2.out HB3.out) (by
    rw [HBF.out]
    exact (List.all_eq_true.2 fun row hr => by
     obtain ⟨i,hi,rfl⟩ := q3W hr
     exact HJ.out i (by rw [← HLN.out]; exact hi)).symm)
   clear HQ HJ
   go_wp2
   exact HE.out
theorem q1O {w : World} {ops : Array Oper} {rest : List Oper} {o : Oper} {a : Act} {Q : Exit → Act → World → Prop} (hgd : o.guard = none) (s x : Operand)
  (ho : o.op = .call { callee := .builtin .append,args := #[s,x],argTypes := #[22,22] }) (base : Nat)
  (v : Value) (n : Nat) (bs : List Bool) (hs : a.eval s = v) (g' : Nat) (z : Bool) (hx : a.eval x = .slice (some ⟨g',0,none⟩) 1 1) (hown : w.ownsRow base 4 1 v n (bs.map Value.bool)) (hc : w.cell? ⟨g',0,none⟩ = some (.bool z))
  (hn : n + 1 ≤ 2000000) (hbase : base ≤ w.heap.size)
  (h : ∀ v' w',w'.ownsRow base 4 1 v' (n + 1) ((bs ++ [z]).map Value.bool) → w.grownBy w' v.ownBlock → wpList Try.prog ops Q rest (a.put o.dst v') w') : wpList Try.prog ops Q (o :: rest) a w := by
 have hI : (Try.prog.info? 4).map (fun i => (i.zero,i.size,i.bytes)) = some (some (.bool false),1,1) := by kernel_rfl
 obtain ⟨i,hi,hz0,hz1,hz2⟩ := info_parts hI
 refine wpList_append_own w hgd s x 22 ho base 4 i _ 1 1 Try.underlying22 hi hz0 hz1 hz2 rfl (by decide) v n _ hs hown ⟨g',0,none⟩ 1 1 [.bool z] hx rfl ?_ (fun u hu => by simp at hu; subst hu; rfl) (by unfold maxLen; omega) (by omega) hbase ?_
 ·intro j u hj
  match j with
  | 0 => simp at hj; rw [← hj,q8]; exact hc
  | j + 1 => simp at hj
 ·intro v' w' h1 h2 _
  exact h v' w' (by rw [List.map_append]; exact h1) h2
theorem q1i {w : World} {base n : Nat} {v : Value} {bs : List Bool} (h : w.ownsRow base 4 1 v n (bs.map Value.bool)) : ∃ a c,v = .slice a n c ∧ BoSl w a n c bs := by
 have hl : bs.length = n := by have := h.1; simpa using this
 rcases h.2 with ⟨rfl,h0⟩ | ⟨g,cap,cur,rfl,_,k1,k2,k3,k4,k5⟩
 ·have hb : bs = [] := by cases bs with | nil => rfl | cons x y => (rw [h0] at hl; cases hl)
  subst hb
  subst h0
  exact ⟨none,0,rfl,rfl,Nat.le_refl _,by decide,fun _ => rfl,fun x hx => (by cases hx)⟩
 ·refine ⟨some ⟨g,0,none⟩,cap,rfl,hl,k2,k3,fun e => (by cases e),fun x hx k hk => ?_⟩
  injection hx with hx
  subst hx
  rw [q8,Nat.zero_add,q6 k1]
  have h5 : cur[k]? = (bs.map Value.bool)[k]? := by
   rw [← k5,List.getElem?_take,if_pos (by omega)]
   simp
  rw [h5,List.getElem?_map,List.getElem?_eq_getElem hk]
  rfl
def stpA (F : Nat → List (List Nat)) (W : Nat → Bool) (k : Nat) : List Bool := (List.range k).map (befA F W)
theorem q4l (F : Nat → List (List Nat)) (W : Nat → Bool) (k : Nat) : stpA F W k ++ [befA F W k] = stpA F W (k + 1) := by simp [stpA,List.range_succ]
theorem q36 (F : Nat → List (List Nat)) (W : Nat → Bool) (k : Nat) : (stpA F W k).length = k := by simp [stpA]
theorem qK (p : Int) (aA : Option Addr) (nA cA : Nat) (aG : Option Addr) (nG cG : Nat) (aN : Option Addr) (nN cN : Nat) (bs : List Bool) (N : List Gd) (gs : List Int) (x y : Nat) (aW : Option Addr) (nW cW : Nat) (ws : List Bool) (w : World) (hB : BoSl w aA nA cA bs) (hN : NdSl w aN nN cN N) (hG : ZSl w aG nG cG gs) (hl : nA ≤ 1000000) (hl2 : nN ≤ 1000000) (hx : x < 256) (hy : y < 256) (hW : BoSl w aW nW cW ws) :
  Calls Try.prog 14 #[.agg #[.int .i64 p,.slice aA nA cA,.slice aG nG cG,.slice aN nN cN],.agg #[.int .u8 (x : Int),.int .u8 (y : Int)],.slice aW nW cW] w fun e w' => Below w.heap.size w w' ∧ ∃ (v : Value) (X : Int) (us : List Bool),e = .returned (.tuple #[v,.int .i64 X]) ∧ Hid (StN p nA bs N gs x y ws X us) ∧ Hid (w'.ownsRow w.heap.size 4 1 v us.length (us.map Value.bool)) := by
 obtain ⟨Q,hQ⟩ : ∃ Q : Ending → World → Prop,Q = fun e w' => Below w.heap.size w w' ∧ ∃ (v : Value) (X : Int) (us : List Bool),e = .returned (.tuple #[v,.int .i64 X]) ∧ Hid (StN p nA bs N gs x y ws X us) ∧ Hid (w'.ownsRow w.heap.size 4 1 v us.length (us.map Value.bool)) := ⟨_,rfl⟩
 have HQ1 : Hid (∀ w' X,Below w.heap.size w w' → StN p nA bs N gs x y ws X [] → Q (.returned (.tuple #[.slice none 0 0,.int .i64 X])) w') := fun w' X h1 h3 => by rw [hQ]; exact ⟨h1,.slice none 0 0,X,[],rfl,h3,⟨rfl,.inl ⟨rfl,rfl⟩⟩⟩
 have HQ2 : Hid (∀ w' v us,Below w.heap.size w w' → StN p nA bs N gs x y ws 0 us → (∃ base,w.heap.size ≤ base ∧ w'.ownsRow base 4 1 v us.length (us.map Value.bool)) → Q (.returned (.tuple #[v,.int .i64 0])) w') := fun w' v us h1 h2 h3 => by
  rw [hQ]
  obtain ⟨base,h4,h3⟩ := h3
  exact ⟨h1,v,0,us,rfl,h2,q1g h3 h4⟩
 rw [← hQ]
 clear hQ
 obtain ⟨w1,hw1⟩ : ∃ w1,w1 = w.alloc (.cells #[.int .i64 p,.slice aA nA cA,.slice aG nG cG,.slice aN nN cN] 26 (0,0)) := ⟨_,rfl⟩
 have hb1 : Below w.heap.size w w1 := by rw [hw1]; exact q7 _ _
 have hA1 : AuB w1 w.heap.size p aA nA cA aG nG cG aN nN cN := by rw [hw1]; exact qa w p aA nA cA aG nG cG aN nN cN
 have HW1 : Hid _ := hw1
 obtain ⟨w2,hw2⟩ : ∃ w2,w2 = w1.alloc (.cells #[.int .u8 (x : Int),.int .u8 (y : Int)] 29 (0,0)) := ⟨_,rfl⟩
 have hb2 : Below w1.heap.size w1 w2 := by rw [hw2]; exact q7 _ _
 have hk2 : w2.heap[w1.heap.size]? = some (.cells #[.int .u8 (x : Int),.int .u8 (y : Int)] 29 (0,0)) := by rw [hw2]; exact (MapKept.heap_alloc w1 _).1
 have HW2 : Hid _ := hw2
 have hb02 : Below w.heap.size w w2 := q5 hb1 hb2
 have HC : Hid (∀ w',Below w2.heap.size w2 w' → AuB w' w.heap.size p aA nA cA aG nG cG aN nN cN ∧ w'.heap[w1.heap.size]? = some (.cells #[.int .u8 (x : Int),.int .u8 (y : Int)] 29 (0,0)) ∧ BoSl w' aA nA cA bs ∧ NdSl w' aN nN cN N ∧ ZSl w' aG nG cG gs ∧ BoSl w' aW nW cW ws ∧ Below w.heap.size w w') := fun w' hb =>
  ⟨(hA1.up hb2).up hb,(hb.block _ (Array.getElem?_eq_some_iff.1 hk2).1).trans hk2,(hB.up hb02).up hb,(hN.up hb02).up hb,(hG.up hb02).up hb,(hW.up hb02).up hb,q5 hb02 hb⟩
 have HWL : Hid (ws.length = nW) := hW.hlen
 clear hB hN hG hW hw1 hb1 hA1 hw2 hb2 hk2 hb02
 obtain ⟨⟨c0,c1,c2,c3⟩,hsp,hbo,hnd,hzg,_,_⟩ := HC.out w2 (Below.refl _ _)
 have s0 := q6 hsp 0
 have s1 := q6 hsp 1
 have j := qJ p aA nA cA aG nG cG aN nN cN bs N gs x y w2 hbo hnd hzg hl hl2 hx hy
 clear hsp hbo hnd hzg
 go_enter Try.func14,Try.ntmps14
 go_wp2_with (first | rw [← HW2.out] | rw [← HW1.out])
 refine j.mono ?_
 rintro e w3 ⟨hb,X,rfl,hX⟩
 have HB3 : Hid (Below w2.heap.size w2 w3) := hb
 clear j hb c0 c1 c2 c3 s0 s1 HW1 HW2
 by_cases hX0 : X = 0
 rotate_left
 ·have HE : Hid _ := HQ1.out w3 X (HC.out w3 HB3.out).2.2.2.2.2.2 (.inl ⟨hX0,hX.out,rfl⟩)
  have e1 : (X != 0) = true := by simpa using hX0
  clear HQ1 HQ2 hX hX0
  go_wp2
  exact HE.out
 subst hX0
 obtain ⟨⟨c0,c1,c2,c3⟩,_⟩ := HC.out w3 HB3.out
 by_cases hn : nW = nA
 rotate_left
 ·have HE : Hid _ := HQ1.out w3 2 (HC.out w3 HB3.out).2.2.2.2.2.2 (.inr (.inl ⟨hX.out,by rw [HWL.out]; exact hn,rfl,rfl⟩))
  have e1 : ((nW : Int) != (nA : Int)) = true := by simp; omega
  clear HQ1 HQ2 hX hn
  go_wp2
  exact HE.out
 subst hn
 obtain ⟨hM,_,hs⟩ := hX.out.ok
 have HM : Hid _ := hM
 have HS : Hid _ := hs
 have hn256 := hM.s2
 have HE : Hid (∀ w' v,Below w2.heap.size w2 w' → (∃ base,w.heap.size ≤ base ∧ w'.ownsRow base 4 1 v nW ((stpA (gfA p N gs x y) (acA ws) nW).map Value.bool)) → Q (.returned (.tuple #[v,.int .i64 0])) w') := fun w' v h1 h2 => HQ2.out w' v (stpA (gfA p N gs x y) (acA ws) nW) (HC.out w' h1).2.2.2.2.2.2 (.inr (.inr ⟨hX.out,HWL.out,rfl,rfl⟩)) (by rw [q36]; exact h2)
 have e1 : ((nW : Int) != (nW : Int)) = false := by simp
 clear hX hM hs HQ1 HQ2
 go_wp2
 clear e1 c0 c1 c2 c3
 go_loopw [9,10] (fun v i wr => ∃ k : Nat,k ≤ nW ∧ i = .int .i64 (k : Int) ∧ Hid (wr.ownsRow w3.heap.size 4 1 v k ((stpA (gfA p N gs x y) (acA ws) k).map Value.bool)) ∧ Hid (Below w3.heap.size w3 wr)) (fun _ i _ => nW - (intOf i).toNat)
 case atStart => exact ⟨0,Nat.zero_le _,rfl,⟨rfl,.inl ⟨rfl,rfl⟩⟩,Below.refl _ _⟩
 case round =>
  obtain ⟨k,hk,rfl,HO,HB⟩ := hrel
  by_cases hlt : k < nW
  ·have e1 : decide ((k : Int) < (nW : Int)) = true := decide_eq_true (by omega)
   obtain ⟨va,vc,rfl⟩ := qo HO.out
   obtain ⟨⟨c0,c1,c2,c3⟩,hsp,_,hnd,hzg,hws,_⟩ := HC.out wr (q5 HB3.out HB.out)
   have s0 := q6 hsp 0
   have s1 := q6 hsp 1
   have j := q1H p aA nW cA aG nG cG aN nN cN N gs x y k aW cW ws wr HM.out hnd hzg HS.out hlt hx hy hws
   have HNX : Hid (stpA (gfA p N gs x y) (acA ws) k ++ [befA (gfA p N gs x y) (acA ws) k] = stpA (gfA p N gs x y) (acA ws) (k + 1)) := q4l _ _ _
   clear hsp hnd hzg hws
   generalize befA (gfA p N gs x y) (acA ws) k = z at *
   generalize stpA (gfA p N gs x y) (acA ws) k = us at *
   go_wp2_with fail
   refine j.mono ?_
   rintro e w4 ⟨hb4,rfl⟩
   have HOA : Hid ((w4.alloc (.cells #[.bool z] 4)).ownsRow w3.heap.size 4 1 (.slice va k vc) k (us.map Value.bool)) := World.ownsRow.alloc (qx HO.out hb4) _
   have HCA : Hid ((w4.alloc (.cells #[.bool z] 4)).cell? ⟨w4.heap.size,0,none⟩ = some (.bool z)) := q6 (MapKept.heap_alloc w4 _).1 0
   have HWA : Hid (Below w3.heap.size w3 (w4.alloc (.cells #[.bool z] 4))) := q5 (q5 HB.out hb4) (q7 _ _)
   have hszA : w3.heap.size ≤ (w4.alloc (.cells #[.bool z] 4)).heap.size := HWA.out.size
   have HGE : Hid (∀ q,(Value.slice va k vc).ownBlock = some q → w3.heap.size ≤ q) := q1f HO.out
   clear j hb4 HO HB c0 c1 c2 c3 s0 s1
   go_wp2_with (at_builtin; refine q1O rfl _ _ rfl w3.heap.size _ k us rfl w4.heap.size z rfl HOA.out HCA.out (by omega) hszA ?_)
   intro v7 w7 hown7 hgr7
   have HO7 : Hid (w7.ownsRow w3.heap.size 4 1 v7 (k + 1) ((stpA (gfA p N gs x y) (acA ws) (k + 1)).map Value.bool)) := by rw [← HNX.out]; show World.ownsRow _ _ _ _ _ _ _; simpa using hown7
   have HW7 : Hid (Below w3.heap.size w3 w7) := HWA.out.grown hgr7 hszA (fun q e => HGE.out q e)
   clear hown7 hgr7 HOA HCA HWA hszA HGE HNX
   go_wp2
   go_roundw
   case rel => exact ⟨k + 1,by omega,by go_num,HO7,HW7⟩
   case measure => simp [intOf]; omega
  ·obtain rfl : k = nW := by omega
   have e1 : decide ((k : Int) < (k : Int)) = false := by simp
   have HG : Hid _ := HE.out wr _ (q5 HB3.out HB.out) ⟨_,(HC.out w3 HB3.out).2.2.2.2.2.2.size,HO.out⟩
   clear HE HO HB
   go_wp2
   exact HG.out
theorem q3R {F : Nat → List (List Nat)} {W V : Nat → Bool} {q : Nat} (h : ∀ row ∈ F q,∀ t ∈ row,W t = V t) : befA F W q = befA F V q := by
 unfold befA
 have h1 : ∀ (R : List (List Nat)),(∀ row ∈ R,∀ t ∈ row,W t = V t) → (R.all fun row => row.any W) = R.all fun row => row.any V := by
  intro R
  induction R with
  | nil => exact fun _ => rfl
  | cons row R ih =>
   intro hR
   have h2 : ∀ (l : List Nat),(∀ t ∈ l,W t = V t) → l.any W = l.any V := by
    intro l
    induction l with
    | nil => exact fun _ => rfl
    | cons t l ih2 => intro hl; rw [List.any_cons,List.any_cons,hl t List.mem_cons_self,ih2 fun u hu => hl u (List.mem_cons_of_mem _ hu)]
   rw [List.all_cons,List.all_cons,h2 row (hR row List.mem_cons_self),ih fun r hr => hR r (List.mem_cons_of_mem _ hr)]
 exact h1 (F q) h
theorem BoRow.sl0 {w : World} {g n : Nat} {bs : List Bool} (h : BoRow w g bs) (hn : bs.length = n) (hb : n ≤ 1000) : BoSl w (some ⟨g,0,none⟩) n n bs := by
 refine ⟨hn,Nat.le_refl _,by unfold maxLen; omega,fun e => (by cases e),fun x hx k hk => ?_⟩
 injection hx with hx
 subst hx
 have := h.cellP hk
 rw [q8,Nat.zero_add,this,List.getD_eq_getElem?_getD,List.getElem?_eq_getElem hk]
 rfl
theorem qX (g n k : Nat) (hk : k < n) (w : World) : (Instr.indexAt 22 (.slice (some ⟨g,0,none⟩) n n) (.int .i64 (k : Int))).run Try.prog w = .ok (.pointer (some ⟨g,k,none⟩)) w := by
 have := qd (P := Try.prog) (T := 22) Try.underlying22 qg (a := some ⟨g,0,none⟩) (cap := n) (n := n) (fun e => by cases e) k w hk
 simpa [adOf,q8] using this
theorem qO (g n k : Nat) (hk : k < n) (w : World) : (Instr.indexAt 23 (.slice (some ⟨g,0,none⟩) n n) (.int .i64 (k : Int))).run Try.prog w = .ok (.pointer (some ⟨g,k,none⟩)) w := by
 have := qd (P := Try.prog) (T := 23) Try.underlying23 qb (a := some ⟨g,0,none⟩) (cap := n) (n := n) (fun e => by cases e) k w hk
 simpa [adOf,q8] using this
def wnL (F : Nat → List (List Nat)) (acc : Nat → Bool) (n k : Nat) : List Bool := (List.range n).map (wonA F acc k)
theorem q2h {F : Nat → List (List Nat)} {acc : Nat → Bool} {n k : Nat} : (wnL F acc n k).length = n := by simp [wnL]
theorem q4m {F : Nat → List (List Nat)} {acc : Nat → Bool} {n k q : Nat} (hq : q < n) : acA (wnL F acc n k) q = wonA F acc k q := by simp [acA,wnL,List.getD_eq_getElem?_getD,hq]
structure RkM (w w0 : World) (gR gW : Nat) (rs : List Int) (ws : List Bool) : Prop where
 r : RowI w 3 gR rs
 b : BoRow w gW ws
 bel : Below w0.heap.size w0 w
 lo : w0.heap.size ≤ gR
 ne : gR < gW
theorem RkM.up {w w' w0 : World} {gR gW : Nat} {rs : List Int} {ws : List Bool} (h : RkM w w0 gR gW rs ws) (hb : Below w.heap.size w w') : RkM w' w0 gR gW rs ws := ⟨h.r.up hb,h.b.upP hb,q5 h.bel hb,h.lo,h.ne⟩
theorem RkM.setR {w w0 : World} {gR gW : Nat} {rs : List Int} {ws : List Bool} (h : RkM w w0 gR gW rs ws) (k : Nat) (z : Int) {rs2 : List Int} (e : rs.set k z = rs2) : RkM (w.setCell ⟨gR,k,none⟩ (.int .i64 z)) w0 gR gW rs2 ws :=
 ⟨by rw [← e]; exact h.r.set k z,(Below.heap_setCell _ _ _ _ (by have := h.ne; dsimp only; omega)).trans h.b,h.bel.setCell h.lo _,h.lo,h.ne⟩
theorem RkM.setW {w w0 : World} {gR gW : Nat} {rs : List Int} {ws : List Bool} (h : RkM w w0 gR gW rs ws) (k : Nat) (z : Bool) {ws2 : List Bool} (e : ws.set k z = ws2) : RkM (w.setCell ⟨gW,k,none⟩ (.bool z)) w0 gR gW rs ws2 :=
 ⟨(Below.heap_setCell _ _ _ _ (by have := h.ne; dsimp only; omega)).trans h.r,by rw [← e]; exact h.b.setP k z,h.bel.setCell (by have := h.lo; have := h.ne; dsimp only; omega) _,h.lo,h.ne⟩
theorem q4L (w : World) : ZSl w none 0 0 [] := ⟨rfl,Nat.le_refl _,Nat.zero_le _,fun m k w hk hm => absurd hk (by omega),fun k hk => absurd hk (by omega),fun k hk => absurd hk (by omega),fun _ => rfl⟩
theorem qT (p : Int) (aA : Option Addr) (nA cA : Nat) (aG : Option Addr) (nG cG : Nat) (aN : Option Addr) (nN cN : Nat) (bs : List Bool) (N : List Gd) (gs : List Int) (x y : Nat) (w : World) (hB : BoSl w aA nA cA bs) (hN : NdSl w aN nN cN N) (hG : ZSl w aG nG cG gs) (hl : nA ≤ 1000000) (hl2 : nN ≤ 1000000) (hx : x < 256) (hy : y < 256) :
  Calls Try.prog 10 #[.agg #[.int .i64 p,.slice aA nA cA,.slice aG nG cG,.slice aN nN cN],.agg #[.int .u8 (x : Int),.int .u8 (y : Int)]] w fun e w' => Below w.heap.size w w' ∧ ∃ (a : Option Addr) (c : Nat) (X : Int) (r : List Int),e = .returned (.tuple #[.slice a r.length c,.int .i64 X]) ∧ Hid (RkN p nA bs N gs x y X r) ∧ Hid (ZSl w' a r.length c r) := by
 obtain ⟨Q,hQ⟩ : ∃ Q : Ending → World → Prop,Q = fun e w' => Below w.heap.size w w' ∧ ∃ (a : Option Addr) (c : Nat) (X : Int) (r : List Int),e = .returned (.tuple #[.slice a r.length c,.int .i64 X]) ∧ Hid (RkN p nA bs N gs x y X r) ∧ Hid (ZSl w' a r.length c r) := ⟨_,rfl⟩
 have HQ1 : Hid (∀ w' X,Below w.heap.size w w' → RkN p nA bs N gs x y X [] → Q (.returned (.tuple #[.slice none 0 0,.int .i64 X])) w') := fun w' X h1 h3 => by rw [hQ]; exact ⟨h1,none,0,X,[],rfl,h3,q4L w'⟩
 have HQ2 : Hid (∀ w' a c r,Below w.heap.size w w' → r.length = nA → RkN p nA bs N gs x y 0 r → ZSl w' a nA c r → Q (.returned (.tuple #[.slice a nA c,.int .i64 0])) w') := fun w' a c r h1 h0 h2 h3 => by rw [hQ]; exact ⟨h1,a,c,0,r,by rw [h0],h2,by rw [h0]; exact h3⟩
 rw [← hQ]
 clear hQ
 obtain ⟨w1,hw1⟩ : ∃ w1,w1 = w.alloc (.cells #[.int .i64 p,.slice aA nA cA,.slice aG nG cG,.slice aN nN cN] 26 (0,0)) := ⟨_,rfl⟩
 have hb1 : Below w.heap.size w w1 := by rw [hw1]; exact q7 _ _
 have hA1 : AuB w1 w.heap.size p aA nA cA aG nG cG aN nN cN := by rw [hw1]; exact qa w p aA nA cA aG nG cG aN nN cN
 have HW1 : Hid _ := hw1
 obtain ⟨w2,hw2⟩ : ∃ w2,w2 = w1.alloc (.cells #[.int .u8 (x : Int),.int .u8 (y : Int)] 29 (0,0)) := ⟨_,rfl⟩
 have hb2 : Below w1.heap.size w1 w2 := by rw [hw2]; exact q7 _ _
 have hk2 : w2.heap[w1.heap.size]? = some (.cells #[.int .u8 (x : Int),.int .u8 (y : Int)] 29 (0,0)) := by rw [hw2]; exact (MapKept.heap_alloc w1 _).1
 have HW2 : Hid _ := hw2
 have hb02 : Below w.heap.size w w2 := q5 hb1 hb2
 have HC : Hid (∀ w',Below w2.heap.size w2 w' → AuB w' w.heap.size p aA nA cA aG nG cG aN nN cN ∧ w'.heap[w1.heap.size]? = some (.cells #[.int .u8 (x : Int),.int .u8 (y : Int)] 29 (0,0)) ∧ BoSl w' aA nA cA bs ∧ NdSl w' aN nN cN N ∧ ZSl w' aG nG cG gs ∧ Below w.heap.size w w') := fun w' hb =>
  ⟨(hA1.up hb2).up hb,(hb.block _ (Array.getElem?_eq_some_iff.1 hk2).1).trans hk2,(hB.up hb02).up hb,(hN.up hb02).up hb,(hG.up hb02).up hb,q5 hb02 hb⟩
 clear hB hN hG hw1 hb1 hA1 hw2 hb2 hk2 hb02
 obtain ⟨⟨c0,c1,c2,c3⟩,hsp,hbo,hnd,hzg,_⟩ := HC.out w2 (Below.refl _ _)
 have s0 := q6 hsp 0
 have s1 := q6 hsp 1
 have j := qJ p aA nA cA aG nG cG aN nN cN bs N gs x y w2 hbo hnd hzg hl hl2 hx hy
 clear hsp hbo hnd hzg
 go_enter Try.func10,Try.ntmps10
 go_wp2_with (first | rw [← HW2.out] | rw [← HW1.out])
 refine j.mono ?_
 rintro e w3 ⟨hb,X,rfl,hX⟩
 have HB3 : Hid (Below w2.heap.size w2 w3) := hb
 clear j hb c0 c1 c2 c3 s0 s1 HW1 HW2
 by_cases hX0 : X = 0
 rotate_left
 ·have HE : Hid _ := HQ1.out w3 X (HC.out w3 HB3.out).2.2.2.2.2 (.inl ⟨hX0,hX.out,rfl⟩)
  have e1 : (X != 0) = true := by simpa using hX0
  clear HQ1 HQ2 hX hX0
  go_wp2
  exact HE.out
 subst hX0
 obtain ⟨hM,_,hs⟩ := hX.out.ok
 have HM : Hid _ := hM
 have HS : Hid _ := hs
 have HX : Hid (ChkN p nA bs N gs x y 0) := hX.out
 have hn256 := hM.s2
 have HIN : Hid (InA nA (gfA p N gs x y)) := qV hM hs
 have HFIN : Hid (RankA nA (gfA p N gs x y) (acA bs) (rkL (gfA p N gs x y) (acA bs) nA nA)) := q55 HIN.out (fun q _ => q1K)
 clear hX hM hs HQ1
 have HE : Hid (∀ w' g,Below w2.heap.size w2 w' → RowI w' 3 g (rkL (gfA p N gs x y) (acA bs) nA nA) → Q (.returned (.tuple #[.slice (some ⟨g,0,none⟩) nA nA,.int .i64 0])) w') := fun w' g h1 h2 => HQ2.out w' (some ⟨g,0,none⟩) nA (rkL (gfA p N gs x y) (acA bs) nA nA) (HC.out w' h1).2.2.2.2.2 HFIN.out.len (.inr ⟨rfl,HX.out,HFIN.out⟩) (by
  have h3 := h2.sl (by rw [HFIN.out.len]; omega)
  rw [HFIN.out.len] at h3
  exact h3)
 clear HQ2 HFIN
 obtain ⟨⟨c0,c1,c2,c3⟩,_⟩ := HC.out w3 HB3.out
 have hmk := fun w => qF nA (by omega) w
 have hmb := fun w => qB nA nA (nA : Int) (nA : Int) rfl rfl (Nat.le_refl _) (by omega) w
 obtain ⟨w4,hw4⟩ : ∃ w4,w4 = w3.alloc (.cells (madeCells #[.int .i64 0] nA) 3) := ⟨_,rfl⟩
 have hr4 : RowI w4 3 w3.heap.size (List.replicate nA 0) := by rw [hw4]; unfold RowI; rw [← madeI]; exact (MapKept.heap_alloc w3 _).1
 have hb4 : Below w3.heap.size w3 w4 := by rw [hw4]; exact q7 _ _
 have HW4 : Hid _ := hw4
 obtain ⟨w5,hw5⟩ : ∃ w5,w5 = w4.alloc (.cells ((zB nA).map Value.bool).toArray 4) := ⟨_,rfl⟩
 have hb5 : Below w4.heap.size w4 w5 := by rw [hw5]; exact q7 _ _
 have hg5 : BoRow w5 w4.heap.size (zB nA) := by rw [hw5]; exact (MapKept.heap_alloc w4 _).1
 have HW5 : Hid _ := hw5
 have HK5 : Hid (RkM w5 w3 w3.heap.size w4.heap.size (mixA (rkA (gfA p N gs x y) (acA bs) 0) (fun _ => 0) 0 nA) (mixA (acA bs) (fun _ => false) 0 nA)) := by
  refine ⟨?_,?_,q5 hb4 hb5,Nat.le_refl _,hr4.lt⟩
  ·rw [qn]
   have : (List.range nA).map (fun _ => (0 : Int)) = List.replicate nA 0 := by apply List.ext_getElem <;> simp
   rw [this]; exact hr4.up hb5
  ·rw [qn]
   have : (List.range nA).map (fun _ => false) = zB nA := by apply List.ext_getElem <;> simp [zB]
   rw [this]; exact hg5
 obtain ⟨d0,d1,d2,d3⟩ := (HC.out w4 (q5 HB3.out hb4)).1
 clear hw4 hr4 hw5 hb5 hg5 hb4
 go_wp2_with (first | rw [← HW5.out] | rw [← HW4.out])
 clear c0 c1 c2 c3 d0 d1 d2 d3 hmk hmb HW4 HW5
 obtain ⟨gR,hgR⟩ : ∃ gR,gR = w3.heap.size := ⟨_,rfl⟩
 obtain ⟨gW,hgW⟩ : ∃ gW,gW = w4.heap.size := ⟨_,rfl⟩
 rw [← hgR,← hgW] at HK5 ⊢
 clear hgR hgW
 have HBF : Hid (∀ k q,q < nA → befA (gfA p N gs x y) (acA (wnL (gfA p N gs x y) (acA bs) nA k)) q = befA (gfA p N gs x y) (wonA (gfA p N gs x y) (acA bs) k) q) := fun k q hq => q3R fun row hr t ht => q4m (HIN.out q hq row hr t ht)
 go_loopw [9] (fun i wr => ∃ k : Nat,k ≤ nA ∧ i = .int .i64 (k : Int) ∧ Hid (RkM wr w3 gR gW (mixA (rkA (gfA p N gs x y) (acA bs) 0) (fun _ => 0) k nA) (mixA (acA bs) (fun _ => false) k nA))) (fun i _ => nA - (intOf i).toNat)
 case atStart => exact ⟨0,Nat.zero_le _,rfl,HK5⟩
 case round => as_aux_lemma =>
  obtain ⟨k,hk,rfl,HK⟩ := hrel
  clear HK5
  by_cases hlt : k < nA
  ·have e1 : decide ((k : Int) < (nA : Int)) = true := decide_eq_true (by omega)
   have hbw : Below w2.heap.size w2 wr := q5 HB3.out HK.out.bel
   obtain ⟨⟨c0,c1,c2,c3⟩,_,hbo,_⟩ := HC.out wr hbw
   obtain ⟨ixb,ceb⟩ := hbo.getQ hlt
   have ixr := fun w' => qO gR nA k hlt w'
   have ixw := fun w' => qX gW nA k hlt w'
   have cw := HK.out.b.cellP (i := k) (by rw [qe]; exact hlt)
   have fw := HK.out.b.fzP k
   have hK2 := HK.out.setW k (bs.getD k false) (qm hlt rfl)
   have cw2 : (wr.setCell ⟨gW,k,none⟩ (.bool (bs.getD k false))).cell? ⟨gW,k,none⟩ = some (.bool (bs.getD k false)) := by
    rw [hK2.b.cellP (i := k) (by rw [qe]; exact hlt),q2l hlt,if_pos (by omega)]
   have cr2 := hK2.r.cell (i := k) (by rw [qe]; exact hlt)
   have fr2 := hK2.r.frozen k
   have HK2 : Hid _ := hK2
   clear hbo hbw hK2
   generalize adOf aA k = ak at *
   obtain ⟨ak1,ak2,ak3⟩ := ak
   cases hb : bs.getD k false with
   | true =>
    rw [hb] at ceb cw2 cr2 fr2 HK2
    have HK3 : Hid (RkM (wr.setCell ⟨gW,k,none⟩ (.bool true)) w3 gR gW (mixA (rkA (gfA p N gs x y) (acA bs) 0) (fun _ => 0) (k + 1) nA) (mixA (acA bs) (fun _ => false) (k + 1) nA)) := by
     have e : mixA (rkA (gfA p N gs x y) (acA bs) 0) (fun _ => (0 : Int)) k nA = mixA (rkA (gfA p N gs x y) (acA bs) 0) (fun _ => 0) (k + 1) nA := qL hlt (by unfold rkA; rw [show acA bs k = true from hb]; rfl)
     rw [← e]; exact HK2.out
    clear HK HK2 hb
    go_wp2
    go_roundw
    case rel => exact ⟨k + 1,by omega,by go_num,HK3⟩
    case measure => simp [intOf]; omega
   | false =>
    rw [hb] at ceb cw2 cr2 fr2 HK2
    have HK3 : Hid (RkM ((wr.setCell ⟨gW,k,none⟩ (.bool false)).setCell ⟨gR,k,none⟩ (.int .i64 (-1))) w3 gR gW (mixA (rkA (gfA p N gs x y) (acA bs) 0) (fun _ => 0) (k + 1) nA) (mixA (acA bs) (fun _ => false) (k + 1) nA)) := HK2.out.setR k (-1) (qm hlt (by unfold rkA; rw [show acA bs k = false from hb]; rfl))
    clear HK HK2 hb
    go_wp2
    go_roundw
    case rel => exact ⟨k + 1,by omega,by go_num,HK3⟩
    case measure => simp [intOf]; omega
  ·obtain rfl : k = nA := by omega
   have e1 : decide ((k : Int) < (k : Int)) = false := by simp
   have HK0 : Hid (RkM wr w3 gR gW (rkL (gfA p N gs x y) (acA bs) k 0) (wnL (gfA p N gs x y) (acA bs) k 0)) := by
    have h := HK.out
    rw [qt,qt] at h
    exact h
   clear HK hk hlt
   go_wp2
   clear e1
   go_loopw [10] (fun i wr => ∃ j : Nat,j ≤ k ∧ i = .int .i64 ((j : Int) + 1) ∧ Hid (RkM wr w3 gR gW (rkL (gfA p N gs x y) (acA bs) k j) (wnL (gfA p N gs x y) (acA bs) k j))) (fun i _ => k + 1 - (intOf i).toNat)
   case atStart => exact ⟨0,Nat.zero_le _,rfl,HK0⟩
   case round => as_aux_lemma =>
    obtain ⟨j,hj,rfl,HK⟩ := hrel
    clear HK0
    by_cases hlt : j < k
    ·have e1 : decide ((j : Int) + 1 ≤ (k : Int)) = true := decide_eq_true (by omega)
     have hbw : Below w2.heap.size w2 wr := q5 HB3.out HK.out.bel
     obtain ⟨⟨c0,c1,c2,c3⟩,hsp,hbo,hnd,hzg,_⟩ := HC.out wr hbw
     have s0 := q6 hsp 0
     have s1 := q6 hsp 1
     have js := qK p aA k cA aG nG cG aN nN cN bs N gs x y (some ⟨gW,0,none⟩) k k (wnL (gfA p N gs x y) (acA bs) k j) wr hbo hnd hzg hl hl2 hx hy (HK.out.b.sl0 q2h (by omega))
     clear hsp hbo hnd hzg hbw
     go_wp2_with fail
     refine js.mono ?_
     rintro e w6 ⟨hb6,v,X,us,rfl,hst,hown⟩
     obtain ⟨rfl,hus⟩ : X = 0 ∧ us = stpA (gfA p N gs x y) (acA (wnL (gfA p N gs x y) (acA bs) k j)) k := hst.out.uni (.inr (.inr ⟨HX.out,q2h,rfl,rfl⟩))
     have hul : us.length = k := by rw [hus,q36]
     rw [hul] at hown
     obtain ⟨va,vc,rfl⟩ := qo hown.out
     have HU : Hid (∀ q,q < k → us.getD q false = befA (gfA p N gs x y) (wonA (gfA p N gs x y) (acA bs) j) q) := fun q hq => by
      rw [← HBF.out j q hq,hus,stpA,List.getD_eq_getElem?_getD,List.getElem?_map,List.getElem?_range hq]
      rfl
     have hRW : gR < wr.heap.size ∧ gW < wr.heap.size := ⟨HK.out.r.lt,HK.out.b.ltP⟩
     obtain ⟨hR8,hW8⟩ := hRW
     have HO6 : Hid (w6.ownsRow wr.heap.size 4 1 (.slice va k vc) k (us.map Value.bool)) := hown.out
     have HK6 : Hid (RkM w6 w3 gR gW (mixA (rkA (gfA p N gs x y) (acA bs) (j + 1)) (rkA (gfA p N gs x y) (acA bs) j) 0 k) (wnL (gfA p N gs x y) (acA bs) k j)) := by rw [qn]; exact HK.out.up hb6
     have HUL : Hid (us.length = k) := hul
     obtain ⟨B,hB⟩ : ∃ B,B = wr.heap.size := ⟨_,rfl⟩
     rw [← hB] at hR8 hW8 HO6
     clear js hb6 hst hus hul hown HK c0 c1 c2 c3 s0 s1 hB
     go_wp2
     go_loopw [13] (fun i wr => ∃ q : Nat,q ≤ k ∧ i = .int .i64 (q : Int) ∧ Hid (wr.ownsRow B 4 1 (.slice va k vc) k (us.map Value.bool)) ∧ Hid (RkM wr w3 gR gW (mixA (rkA (gfA p N gs x y) (acA bs) (j + 1)) (rkA (gfA p N gs x y) (acA bs) j) q k) (wnL (gfA p N gs x y) (acA bs) k j))) (fun i _ => k - (intOf i).toNat)
     case atStart => exact ⟨0,Nat.zero_le _,rfl,HO6,HK6⟩
     case round => as_aux_lemma =>
      obtain ⟨q,hq,rfl,HO,HK⟩ := hrel
      clear HO6 HK6
      by_cases hlq : q < k
      ·have e2 : decide ((q : Int) < (k : Int)) = true := decide_eq_true (by omega)
       obtain ⟨a2,c2',ev,hbs⟩ := q1i HO.out
       injection ev with ev1 _ ev3
       subst ev1 ev3
       obtain ⟨ixn,cen⟩ := hbs.getQ hlq
       have ixr := fun w' => qO gR k q hlq w'
       have ixw := fun w' => qX gW k q hlq w'
       have cw := HK.out.b.cellP (i := q) (by rw [q2h]; exact hlq)
       have hwn : (wnL (gfA p N gs x y) (acA bs) k j).getD q false = wonA (gfA p N gs x y) (acA bs) j q := q4m hlq
       rw [hwn] at cw
       have hus := HU.out q hlq
       rw [hus] at cen
       have cr := HK.out.r.cell (i := q) (by rw [qe]; exact hlq)
       have fr := HK.out.r.frozen q
       clear hbs hwn hus
       have HRK : Hid (rkA (gfA p N gs x y) (acA bs) (j + 1) q = if (befA (gfA p N gs x y) (wonA (gfA p N gs x y) (acA bs) j) q && !wonA (gfA p N gs x y) (acA bs) j q) = true then ((j + 1 : Nat) : Int) else rkA (gfA p N gs x y) (acA bs) j q) := rfl
       generalize befA (gfA p N gs x y) (wonA (gfA p N gs x y) (acA bs) j) q = nb at *
       generalize wonA (gfA p N gs x y) (acA bs) j q = wb at *
       generalize adOf va q = ak at *
       obtain ⟨ak1,ak2,ak3⟩ := ak
       cases hnw : (nb && !wb) with
       | true =>
        have hnb : nb = true := by cases nb <;> simp_all
        have hwb : wb = false := by cases wb <;> simp_all
        subst hnb hwb
        have HK2 : Hid (RkM (wr.setCell ⟨gR,q,none⟩ (.int .i64 ((j : Int) + 1))) w3 gR gW (mixA (rkA (gfA p N gs x y) (acA bs) (j + 1)) (rkA (gfA p N gs x y) (acA bs) j) (q + 1) k) (wnL (gfA p N gs x y) (acA bs) k j)) := HK.out.setR q ((j : Int) + 1) (qm hlq (by rw [HRK.out]; simp))
        have HO2 : Hid ((wr.setCell ⟨gR,q,none⟩ (.int .i64 ((j : Int) + 1))).ownsRow B 4 1 (.slice va k vc) k (us.map Value.bool)) := q4D HO.out (by dsimp only; exact hR8) _
        clear HK HO HRK hnw
        go_wp2
        go_roundw
        case rel => exact ⟨q + 1,by omega,by go_num,HO2,HK2⟩
        case measure => simp [intOf]; omega
       | false =>
        have HK2 : Hid (RkM wr w3 gR gW (mixA (rkA (gfA p N gs x y) (acA bs) (j + 1)) (rkA (gfA p N gs x y) (acA bs) j) (q + 1) k) (wnL (gfA p N gs x y) (acA bs) k j)) := by
         have e : mixA (rkA (gfA p N gs x y) (acA bs) (j + 1)) (rkA (gfA p N gs x y) (acA bs) j) q k = mixA (rkA (gfA p N gs x y) (acA bs) (j + 1)) (rkA (gfA p N gs x y) (acA bs) j) (q + 1) k := qL hlq (by rw [HRK.out,hnw]; rfl)
         rw [← e]; exact HK.out
        clear HK HRK
        cases nb with
        | false =>
         clear hnw
         go_wp2
         go_roundw
         case rel => exact ⟨q + 1,by omega,by go_num,HO,HK2⟩
         case measure => simp [intOf]; omega
        | true =>
         obtain rfl : wb = true := by cases wb <;> simp_all
         clear hnw
         go_wp2
         go_roundw
         case rel => exact ⟨q + 1,by omega,by go_num,HO,HK2⟩
         case measure => simp [intOf]; omega
      ·obtain rfl : q = k := by omega
       have e2 : decide ((q : Int) < (q : Int)) = false := by simp
       have HK7 : Hid (RkM wr w3 gR gW (rkL (gfA p N gs x y) (acA bs) q (j + 1)) (mixA (wonA (gfA p N gs x y) (acA bs) (j + 1)) (wonA (gfA p N gs x y) (acA bs) j) 0 q)) := by
        have h := HK.out
        rw [qt] at h
        rw [qn]
        exact h
       clear HO HK hlq hq HU HUL
       go_wp2
       clear e2
       go_loopw [14] (fun i wr => ∃ t : Nat,t ≤ q ∧ i = .int .i64 (t : Int) ∧ Hid (RkM wr w3 gR gW (rkL (gfA p N gs x y) (acA bs) q (j + 1)) (mixA (wonA (gfA p N gs x y) (acA bs) (j + 1)) (wonA (gfA p N gs x y) (acA bs) j) t q))) (fun i _ => q - (intOf i).toNat)
       case atStart => exact ⟨0,Nat.zero_le _,rfl,HK7⟩
       case round => as_aux_lemma =>
        obtain ⟨t,ht,rfl,HK⟩ := hrel
        clear HK7
        by_cases hlt2 : t < q
        ·have e2 : decide ((t : Int) < (q : Int)) = true := decide_eq_true (by omega)
         have ixr := fun w' => qO gR q t hlt2 w'
         have ixw := fun w' => qX gW q t hlt2 w'
         have cw := HK.out.b.cellP (i := t) (by rw [qe]; exact hlt2)
         have fw := HK.out.b.fzP t
         have cr := HK.out.r.cell (i := t) (by simp [rkL]; exact hlt2)
         rw [q4k hlt2] at cr
         have HK2 : Hid (RkM (wr.setCell ⟨gW,t,none⟩ (.bool (decide (0 ≤ rkA (gfA p N gs x y) (acA bs) (j + 1) t)))) w3 gR gW (rkL (gfA p N gs x y) (acA bs) q (j + 1)) (mixA (wonA (gfA p N gs x y) (acA bs) (j + 1)) (wonA (gfA p N gs x y) (acA bs) j) (t + 1) q)) := HK.out.setW t _ (qm hlt2 (q1k (j + 1) t).symm)
         clear HK
         generalize rkA (gfA p N gs x y) (acA bs) (j + 1) t = z at *
         go_wp2
         go_roundw
         case rel => exact ⟨t + 1,by omega,by go_num,HK2⟩
         case measure => simp [intOf]; omega
        ·obtain rfl : t = q := by omega
         have e2 : decide ((t : Int) < (t : Int)) = false := by simp
         have HK8 : Hid (RkM wr w3 gR gW (rkL (gfA p N gs x y) (acA bs) t (j + 1)) (wnL (gfA p N gs x y) (acA bs) t (j + 1))) := by
          have h := HK.out
          rw [qt] at h
          exact h
         clear HK hlt2 ht
         go_wp2
         go_roundw
         case rel => exact ⟨j + 1,by omega,by go_num,HK8⟩
         case measure => simp [intOf]; omega
    ·obtain rfl : j = k := by omega
     have e1 : decide ((j : Int) + 1 ≤ (j : Int)) = false := decide_eq_false (by omega)
     have HF : Hid _ := HE.out wr gR (q5 HB3.out HK.out.bel) HK.out.r
     clear HE HK
     go_wp2
     exact HF.out
theorem q2H (p : Int) (aA : Option Addr) (nA cA : Nat) (aG : Option Addr) (nG cG : Nat) (aN : Option Addr) (nN cN : Nat) (bs : List Bool) (N : List Gd) (gs : List Int) (x y : Nat) (w : World) (hB : BoSl w aA nA cA bs) (hN : NdSl w aN nN cN N) (hG : ZSl w aG nG cG gs) (hl : nA ≤ 1000000) (hl2 : nN ≤ 1000000) (hx : x < 256) (hy : y < 256) :
  Calls Try.prog 12 #[.agg #[.int .i64 p,.slice aA nA cA,.slice aG nG cG,.slice aN nN cN],.agg #[.int .u8 (x : Int),.int .u8 (y : Int)]] w fun e w' => Below w.heap.size w w' ∧ ∃ (b : Bool) (X : Int),e = .returned (.tuple #[.bool b,.int .i64 X]) ∧ Hid (WnN p nA bs N gs x y X b) := by
 obtain ⟨Q,hQ⟩ : ∃ Q : Ending → World → Prop,Q = fun e w' => Below w.heap.size w w' ∧ ∃ (b : Bool) (X : Int),e = .returned (.tuple #[.bool b,.int .i64 X]) ∧ Hid (WnN p nA bs N gs x y X b) := ⟨_,rfl⟩
 have HQ : Hid (∀ w' b X,Below w.heap.size w w' → WnN p nA bs N gs x y X b → Q (.returned (.tuple #[.bool b,.int .i64 X])) w') := fun w' b X h1 h3 => by rw [hQ]; exact ⟨h1,b,X,rfl,h3⟩
 rw [← hQ]
 clear hQ
 obtain ⟨w1,hw1⟩ : ∃ w1,w1 = w.alloc (.cells #[.int .i64 p,.slice aA nA cA,.slice aG nG cG,.slice aN nN cN] 26 (0,0)) := ⟨_,rfl⟩
 have hb1 : Below w.heap.size w w1 := by rw [hw1]; exact q7 _ _
 have hA1 : AuB w1 w.heap.size p aA nA cA aG nG cG aN nN cN := by rw [hw1]; exact qa w p aA nA cA aG nG cG aN nN cN
 have HW1 : Hid _ := hw1
 obtain ⟨w2,hw2⟩ : ∃ w2,w2 = w1.alloc (.cells #[.int .u8 (x : Int),.int .u8 (y : Int)] 29 (0,0)) := ⟨_,rfl⟩
 have hb2 : Below w1.heap.size w1 w2 := by rw [hw2]; exact q7 _ _
 have hk2 : w2.heap[w1.heap.size]? = some (.cells #[.int .u8 (x : Int),.int .u8 (y : Int)] 29 (0,0)) := by rw [hw2]; exact (MapKept.heap_alloc w1 _).1
 have HW2 : Hid _ := hw2
 have hb02 : Below w.heap.size w w2 := q5 hb1 hb2
 have HB2 : Hid _ := hb02
 obtain ⟨c0,c1,c2,c3⟩ := hA1.up hb2
 have s0 := q6 hk2 0
 have s1 := q6 hk2 1
 have j := qT p aA nA cA aG nG cG aN nN cN bs N gs x y w2 (hB.up hb02) (hN.up hb02) (hG.up hb02) hl hl2 hx hy
 clear hB hN hG hw1 hb1 hA1 hw2 hb2 hk2 hb02
 go_enter Try.func12,Try.ntmps12
 go_wp2_with (first | rw [← HW2.out] | rw [← HW1.out])
 refine j.mono ?_
 rintro e w3 ⟨hb,a,c,X,r,rfl,hr,hz⟩
 have HB3 : Hid (Below w.heap.size w w3) := q5 HB2.out hb
 clear j hb c0 c1 c2 c3 s0 s1 HW1 HW2
 rcases hr.out with ⟨h1,h2,h3⟩ | ⟨h1,h2,h3⟩
 ·have HE : Hid _ := HQ.out w3 false X HB3.out (.inl ⟨h1,h2,rfl⟩)
  have e1 : (X != 0) = true := by simpa using h1
  clear HQ hr hz h1 h2 h3
  go_wp2
  exact HE.out
 ·subst h1
  have hM := h2.ok.1
  have hrl : 0 < r.length := by rw [h3.len]; exact hM.s1
  have HE : Hid _ := HQ.out w3 (decide (0 ≤ r.getD 0 0)) 0 HB3.out (.inr ⟨rfl,h2,r,h3,rfl⟩)
  have ix0 : ∀ w',(Instr.indexAt 23 (.slice a r.length c) (.int .i64 0)).run Try.prog w' = .ok (.pointer (some (adOf a 0))) w' := fun w' => hz.out.idx r.length 0 w' hrl (Nat.le_refl _)
  have ce0 := hz.out.cell 0 hrl
  clear HQ hr hz h2 h3 hM hrl
  generalize r.getD 0 0 = z at *
  generalize r.length = n at *
  generalize adOf a 0 = ak at *
  obtain ⟨ak1,ak2,ak3⟩ := ak
  go_wp2
  exact HE.out
structure AttN : Prop where
 ranks : ∀ (p : Int) (aA : Option Addr) (nA cA : Nat) (aG : Option Addr) (nG cG : Nat) (aN : Option Addr) (nN cN : Nat) (bs : List Bool) (N : List Gd) (gs : List Int) (x y : Nat) (w : World),BoSl w aA nA cA bs → NdSl w aN nN cN N → ZSl w aG nG cG gs → (∀ z ∈ gs,I64 z) → x < 256 → y < 256 →
  Calls Try.prog 9 #[.agg #[.int .i64 p,.slice aA nA cA,.slice aG nG cG,.slice aN nN cN],.agg #[.int .u8 (x : Int),.int .u8 (y : Int)]] w fun e w' => Below w.heap.size w w' ∧ ∃ (a : Option Addr) (X : Int) (r : List Int),e = .returned (.tuple #[.slice a r.length r.length,.int .i64 X]) ∧ Hid (RkN p nA bs N gs x y X r) ∧ Hid (RowOfI w' 3 a r) ∧ Hid (∀ b,a.map (·.block) = some b → w.heap.size ≤ b)
 step : ∀ (p : Int) (aA : Option Addr) (nA cA : Nat) (aG : Option Addr) (nG cG : Nat) (aN : Option Addr) (nN cN : Nat) (bs : List Bool) (N : List Gd) (gs : List Int) (x y : Nat) (aW : Option Addr) (nW cW : Nat) (ws : List Bool) (w : World),BoSl w aA nA cA bs → NdSl w aN nN cN N → ZSl w aG nG cG gs → (∀ z ∈ gs,I64 z) → x < 256 → y < 256 → BoSl w aW nW cW ws →
  Calls Try.prog 13 #[.agg #[.int .i64 p,.slice aA nA cA,.slice aG nG cG,.slice aN nN cN],.agg #[.int .u8 (x : Int),.int .u8 (y : Int)],.slice aW nW cW] w fun e w' => Below w.heap.size w w' ∧ ∃ (a : Option Addr) (c : Nat) (X : Int) (us : List Bool),e = .returned (.tuple #[.slice a us.length c,.int .i64 X]) ∧ Hid (StN p nA bs N gs x y ws X us) ∧ Hid (w'.ownsRow w.heap.size 4 1 (.slice a us.length c) us.length (us.map Value.bool))
theorem q3a (w : World) (g : Nat) (a b : Option Addr) (r : List Int) (hl : r.length ≤ 1000) (hv : ∀ z ∈ r,-9223372036854775808 ≤ z ∧ z < 9223372036854775808) (hg : w.heap[g]? = some (.cells #[.slice a r.length r.length,.slice b r.length r.length] 23 (0,0))) (ha : RowOfI w 3 a r) (hb : RowOfI w 3 b r) (hab : ∀ x y,a.map (·.block) = some x → b.map (·.block) = some y → x < y) :
  Calls Try.prog 18 #[.slice (some ⟨g,0,none⟩) 2 2] w fun e w' => e = .returned (.bool true) ∧ Below w.heap.size w w' := by
 have hne : ∀ {c : Option Addr},RowOfI w 3 c r → c.map (·.block) ≠ some g := fun {c} hc e => by
  rcases hc with ⟨rfl,_⟩ | ⟨g2,rfl,h2⟩
  ·cases e
  ·injection e with e
   dsimp only at e
   subst e
   unfold RowI at h2
   rw [hg] at h2
   injection h2 with h2
   injection h2 with _ h2 _
   exact absurd h2 (by decide)
 refine q39 g 2 (fun j => if j = 0 then a else b) (fun _ => r.length) (fun _ => r) w ⟨fun j k hj hk hjk => ?_,fun k hk e => ?_,fun _ => by omega,fun _ z hz => hv z hz,by omega⟩ ⟨fun j hj => ?_,fun j hj => ?_,(Array.getElem?_eq_some_iff.1 hg).1⟩
 ·have key : ∀ {c d : Option Addr},(∀ x y,c.map (·.block) = some x → d.map (·.block) = some y → x ≠ y) → c = none ∨ c.map (·.block) ≠ d.map (·.block) := fun {c d} h => by
   cases c with
   | none => exact .inl rfl
   | some x =>
    refine .inr fun e => ?_
    exact h x.block x.block rfl e.symm rfl
  match j,k,hj,hk with
  | 0,0,_,_ => exact absurd rfl hjk
  | 1,1,_,_ => exact absurd rfl hjk
  | 0,1,_,_ => exact key fun x y h1 h2 => by have := hab x y h1 h2; omega
  | 1,0,_,_ => exact key fun x y h1 h2 => by have := hab y x h2 h1; omega
 ·by_cases hk0 : k = 0
  ·rw [if_pos hk0] at e; exact hne ha e
  ·rw [if_neg hk0] at e; exact hne hb e
 ·rw [q6 hg]
  match j,hj with
  | 0,_ => rfl
  | 1,_ => rfl
 ·by_cases hj0 : j = 0
  ·rw [if_pos hj0]; exact ha
  ·rw [if_neg hj0]; exact hb
theorem q1P {w : World} {ops : Array Oper} {rest : List Oper} {o : Oper} {a : Act} {Q : Exit → Act → World → Prop} (hgd : o.guard = none) (s x : Operand)
  (ho : o.op = .call { callee := .builtin .append,args := #[s,x],argTypes := #[22,22] }) (base : Nat)
  (v : Value) (n : Nat) (xs : List Value) (hs : a.eval s = v) (hown : w.ownsRow base 4 1 v n xs) (b : Option Addr) (len cap : Nat) (bs : List Bool) (hx : a.eval x = .slice b len cap) (hB : BoSl w b len cap bs)
  (hn : n + len ≤ 2000000) (hbase : base ≤ w.heap.size)
  (h : ∀ v' w',w'.ownsRow base 4 1 v' (n + len) (xs ++ bs.map Value.bool) → w.grownBy w' v.ownBlock → wpList Try.prog ops Q rest (a.put o.dst v') w') : wpList Try.prog ops Q (o :: rest) a w := by
 have hI : (Try.prog.info? 4).map (fun i => (i.zero,i.size,i.bytes)) = some (some (.bool false),1,1) := by kernel_rfl
 obtain ⟨i,hi,hz0,hz1,hz2⟩ := info_parts hI
 have hl := hB.hlen
 cases b with
 | none =>
  have hc := hB.nn rfl
  have hcl := hB.hcap
  obtain rfl : len = 0 := by omega
  subst hc
  have hy := List.eq_nil_of_length_eq_zero hl
  subst hy
  refine wpList_plain hgd fun _ hK => ?_
  have hrun := run_append_owned_none (P := Try.prog) w base 22 o.type 4 i 1 Try.underlying22 hi v n _ hown
  unfold Oper.wp execOp
  simp only [ho,resolve,invoke,builtin,Sem.run_bind,Sem.run_pure,Result.andThen_ok,List.map_toArray,List.map_cons,List.map_nil,hs,hx,hrun]
  refine hK _ _ ?_
  exact h v w (by simpa using hown) (World.grownBy.refl _ _)
 | some y =>
  refine wpList_append_own w hgd s x 22 ho base 4 i _ 1 1 Try.underlying22 hi hz0 hz1 hz2 rfl (by decide) v n _ hs hown y len cap (bs.map Value.bool) hx (by simp [hl]) (fun j u hj => ?_) (fun u hu => ?_) (by unfold maxLen; omega) (by omega) hbase ?_
  ·have hjl : j < bs.length := by have := (List.getElem?_eq_some_iff.1 hj).1; simpa using this
   rw [hB.c y rfl j hjl]
   rw [List.getElem?_map,List.getElem?_eq_getElem hjl] at hj
   exact hj
  ·obtain ⟨z,_,rfl⟩ := List.mem_map.1 hu
   rfl
  ·intro v' w' h1 h2 _
   exact h v' w' h1 h2
end Go.Proofs.Ytbgogbafkoekjaa
