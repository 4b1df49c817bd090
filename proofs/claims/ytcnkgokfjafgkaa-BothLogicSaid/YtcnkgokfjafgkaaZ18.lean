/- Texts of the proof, put together: what it uses. -/
import Derived.BigRegion
import Derived.Deep.RegionLawGrows
import Derived.Test.YtcnkgokfjafgkaaZ02
import Derived.Test.YtcnkgokfjafgkaaZ04
import Derived.Test.YtcnkgokfjafgkaaZ05
import Derived.Test.YtcnkgokfjafgkaaZ06
import Derived.Test.YtcnkgokfjafgkaaZ08
import Derived.Test.YtcnkgokfjafgkaaZ14
import Derived.Test.YtcnkgokfjafgkaaZ16
import Derived.Test.YtcnkgokfjafgkaaZ17
set_option maxRecDepth 100000
set_option maxHeartbeats 16000000
namespace Go.Proofs.Ytcnkgokfjafgkaa
open Go.RowKit Go.Maps
def encW (Y : List (Nat × Nat)) : List Value := Y.flatMap fun x => [.int .i32 (x.1 : Int),.int .u8 (x.2 : Int)]
theorem q89 (t : Nat × Nat) (Y : List (Nat × Nat)) : encW (t :: Y) = .int .i32 (t.1 : Int) :: .int .u8 (t.2 : Int) :: encW Y := rfl
theorem q90 (X Y : List (Nat × Nat)) : encW (X ++ Y) = encW X ++ encW Y := by simp [encW]
theorem q5S : ∀ (Y : List (Nat × Nat)) (k : Nat) (x : Nat × Nat),Y[k]? = some x → (encW Y)[2 * k]? = some (.int .i32 (x.1 : Int)) ∧ (encW Y)[2 * k + 1]? = some (.int .u8 (x.2 : Int))
 | [],k,x,h => by simp at h
 | t :: Y,0,x,h => by simp at h; subst h; exact ⟨rfl,rfl⟩
 | t :: Y,k + 1,x,h => by
  have := q5S Y k x (by simpa using h)
  rw [q89,show 2 * (k + 1) = 2 * k + 1 + 1 by omega,show 2 * k + 1 + 1 + 1 = (2 * k + 1) + 1 + 1 by omega]
  simpa using this
theorem q91 (Y : List (Nat × Nat)) : ∀ u ∈ encW Y,u.oneCell' = true := by
 intro u hu
 unfold encW at hu
 obtain ⟨c,_,hc⟩ := List.mem_flatMap.1 hu
 simp at hc
 rcases hc with rfl | rfl <;> rfl
structure GbM (base : Nat) (wr : World) (vb : Value) (vs : List Value) (B : List (List (Nat × Nat))) : Prop where
 out : wr.ownsRow base 91 1 vb B.length vs
 own : ∀ (k : Nat) (v : Value),vs[k]? = some v → wr.ownsRow base 93 2 v (B.getD k []).length (encW (B.getD k []))
 ne : ∀ (k k' : Nat) (v v' : Value) (b : Nat),k ≠ k' → vs[k]? = some v → vs[k']? = some v' → v.ownBlock = some b → v'.ownBlock ≠ some b
variable {base : Nat} {wr : World} {vb : Value} {vs : List Value} {B : List (List (Nat × Nat))}
theorem qa8 (base : Nat) (wr : World) : GbM base wr (.slice none 0 0) [] [] := ⟨⟨rfl,.inl ⟨rfl,rfl⟩⟩,fun k v hv => by simp at hv,fun k k' v v' b _ hv => by simp at hv⟩
theorem GbM.len (h : GbM base wr vb vs B) : vs.length = B.length := by have := h.out.1; omega
theorem GbM.fr (h : GbM base wr vb vs B) {w' : World} {F F' : Nat → Prop} (hf : Fr wr w' F F') (hz : NoW wr F) : GbM base w' vb vs B := by
 refine ⟨qb h.out (fun k hk => ?_),fun k v hv => qb (h.own k v hv) (fun j hj => ?_),h.ne⟩
 ·obtain ⟨cs,hc⟩ := qw h.out hk
  exact hf.keep k (Array.getElem?_eq_some_iff.1 hc).1 (fun e => (hz k e cs).1 hc)
 ·obtain ⟨cs,hc⟩ := qw (h.own k v hv) hj
  exact hf.keep j (Array.getElem?_eq_some_iff.1 hc).1 (fun e => (hz j e cs).2 hc)
theorem GbM.nil (h : GbM base wr vb vs B) {o : Obj} {w5 : World} {g c : Nat} (ho : w5.ownsRow base 91 1 (.slice (some ⟨g,0,none⟩) (B.length + 1) c) (B.length + 1) (vs ++ [.slice none 0 0])) (hg : (wr.alloc o).grownBy w5 vb.ownBlock) : GbM base w5 (.slice (some ⟨g,0,none⟩) (B.length + 1) c) (vs ++ [.slice none 0 0]) (B ++ [[]]) := by
 have hl := h.len
 have e : ∀ s,(B ++ [[]]).getD s [] = B.getD s [] := fun s => by
  rw [q1d]
  split
  ·rename_i e
   rw [e,List.getD_eq_getElem?_getD,List.getElem?_eq_none (Nat.le_refl _)]; rfl
  ·rfl
 have cut : ∀ {k : Nat} {v : Value},(vs ++ [Value.slice none 0 0])[k]? = some v → vs[k]? = some v ∨ v = .slice none 0 0 ∧ k = B.length := fun {k v} hv => by
  rw [List.getElem?_append] at hv
  split at hv
  ·exact .inl hv
  ·have := (List.getElem?_eq_some_iff.1 hv).1
   simp at this
   have e0 : k - vs.length = 0 := by omega
   rw [e0] at hv
   simp at hv
   exact .inr ⟨hv.symm,by omega⟩
 refine ⟨by rw [List.length_append,List.length_singleton]; exact ho,fun k v hv => ?_,fun k k' v v' b hkk hv hv' hb => ?_⟩
 ·rw [e]
  rcases cut hv with hv | ⟨rfl,hk⟩
  ·have hov := h.own k v hv
   exact qb hov (fun j hj => qv hg (hov.lt j hj).2 (qE hov h.out (by decide) hj))
  ·rw [hk,List.getD_eq_getElem?_getD,List.getElem?_eq_none (Nat.le_refl _)]
   exact ⟨rfl,.inl ⟨rfl,rfl⟩⟩
 ·rcases cut hv with hv | ⟨rfl,_⟩
  ·rcases cut hv' with hv' | ⟨rfl,_⟩
   ·exact h.ne k k' v v' b hkk hv hv' hb
   ·intro e; cases e
  ·cases hb
theorem GbM.at (h : GbM base wr vb vs B) {t : Nat} (ht : t < B.length) : ∃ gb cb a c,vb = .slice (some ⟨gb,0,none⟩) B.length cb ∧ base ≤ gb ∧ wr.cell? ⟨gb,t,none⟩ = some (.slice a (B.getD t []).length c) ∧ vs[t]? = some (.slice a (B.getD t []).length c) ∧ wr.ownsRow base 93 2 (.slice a (B.getD t []).length c) (B.getD t []).length (encW (B.getD t [])) := by
 have hl := h.len
 have hv : vs[t]? = some vs[t] := List.getElem?_eq_getElem (by omega)
 obtain ⟨a,c,e⟩ := qe (h.own t _ hv)
 have ho := h.own t _ hv
 rw [e] at hv ho
 rcases h.out.2 with ⟨_,h0⟩ | ⟨gb,cb,cur,rfl,hgb,hcell,_,_,_,htk⟩
 ·omega
 ·refine ⟨gb,cb,a,c,rfl,hgb,?_,hv,ho⟩
  rw [← htk,List.getElem?_take,if_pos (by omega)] at hv
  simp [World.cell?,hcell]
  simpa using hv
theorem GbM.put (h : GbM base wr vb vs B) {gb cb : Nat} (hvb : vb = .slice (some ⟨gb,0,none⟩) B.length cb) {t : Nat} (ht : t < B.length) {v : Value} (hv : vs[t]? = some v) {o : Obj} {w5 : World} {g c : Nat} {x : Nat × Nat} (ho : w5.ownsRow base 93 2 (.slice (some ⟨g,0,none⟩) ((B.getD t []).length + 1) c) ((B.getD t []).length + 1) (encW (B.getD t [] ++ [x]))) (hg : (wr.alloc o).grownBy w5 v.ownBlock) (hl : v.ownBlock = some g ∨ g = (wr.alloc o).heap.size) :
  (∃ u,w5.cell? ⟨gb,t,none⟩ = some u) ∧ w5.frozen? ⟨gb,t,none⟩ = false ∧ GbM base (w5.setCell ⟨gb,t,none⟩ (.slice (some ⟨g,0,none⟩) ((B.getD t []).length + 1) c)) vb (vs.set t (.slice (some ⟨g,0,none⟩) ((B.getD t []).length + 1) c)) (B.set t (B.getD t [] ++ [x])) ∧ base ≤ gb := by
 have hlen := h.len
 have hz : (wr.alloc o).heap.size = wr.heap.size + 1 := by simp
 have hvo := h.own t v hv
 have kp : ∀ j,j < wr.heap.size → v.ownBlock ≠ some j → w5.heap[j]? = wr.heap[j]? := fun j hj hne => qv hg hj hne
 have hob : vb.ownBlock = some gb := by rw [hvb]; rfl
 have hgb := (h.out.lt gb hob)
 have hvb' : v.ownBlock ≠ some gb := fun e => qE hvo h.out (by decide) e hob
 have hout5 : w5.ownsRow base 91 1 vb B.length vs := qb h.out (fun j hj => by
  have e : j = gb := by rw [hob] at hj; injection hj with hj; exact hj.symm
  subst e
  exact kp j hgb.2 hvb')
 obtain ⟨g',c',e',hge',_,hcv,hfv,hown⟩ := q2w hout5 ht (.slice (some ⟨g,0,none⟩) ((B.getD t []).length + 1) c)
 have eg : g' = gb := by
  rw [hvb] at e'
  injection e' with e' _ _
  injection e' with e'
  injection e' with e'
  exact e'.symm
 subst eg
 have st : ∀ j,j ≠ g' → (w5.setCell ⟨g',t,none⟩ (.slice (some ⟨g,0,none⟩) ((B.getD t []).length + 1) c)).heap[j]? = w5.heap[j]? := fun j hj => Below.heap_setCell _ _ _ _ (by dsimp only; exact hj)
 have ggb : g ≠ g' := fun e => by
  rcases hl with hl | hl
  ·exact hvb' (e ▸ hl)
  ·have := hgb.2; omega
 have hold : ∀ {k : Nat} {u : Value} {b : Nat},vs[k]? = some u → u.ownBlock = some b → b < wr.heap.size ∧ b ≠ g' := fun {k u b} hu hb => ⟨((h.own k u hu).lt b hb).2,fun e => qE (h.own k u hu) h.out (by decide) hb (e ▸ hob)⟩
 refine ⟨⟨_,hcv.trans (List.getElem?_eq_getElem (by omega))⟩,hfv,⟨by rw [List.length_set]; exact hown,fun k u hu => ?_,fun k k' u u' b hkk hu hu' hb => ?_⟩,hge'⟩
 ·rw [List.getElem?_set] at hu
  by_cases e : t = k
  ·subst e
   rw [if_pos rfl,if_pos (by omega)] at hu
   injection hu with hu
   subst hu
   rw [qs _ _ _ _ _ ht,if_pos rfl,List.length_append,List.length_singleton]
   refine qb ho (fun j hj => st j ?_)
   have e : g = j := by injection hj
   omega
  ·rw [if_neg e] at hu
   rw [qs _ _ _ _ _ ht,if_neg (fun h => e h.symm)]
   have hou := h.own k u hu
   exact qb hou (fun j hj => (st j (hold hu hj).2).trans (kp j (hold hu hj).1 (h.ne k t u v j (Ne.symm e) hu hv hj)))
 ·rw [List.getElem?_set] at hu hu'
  by_cases e : t = k
  ·subst e
   rw [if_pos rfl,if_pos (by omega)] at hu
   injection hu with hu
   subst hu
   rw [if_neg hkk] at hu'
   have e2 : g = b := by injection hb
   subst e2
   intro hb'
   rcases hl with hl | hl
   ·exact h.ne t k' v u' g hkk hv hu' hl hb'
   ·have := (hold hu' hb').1; omega
  ·rw [if_neg e] at hu
   by_cases e' : t = k'
   ·subst e'
    rw [if_pos rfl,if_pos (by omega)] at hu'
    injection hu' with hu'
    subst hu'
    intro hb'
    have e2 : g = b := by injection hb'
    subst e2
    rcases hl with hl | hl
    ·exact h.ne t k v u g (Ne.symm hkk) hv hu hl hb
    ·have := (hold hu hb).1; omega
   ·rw [if_neg e'] at hu'
    exact h.ne k k' u u' b hkk hu hu' hb
theorem GbM.bw (h : GbM base wr vb vs B) (hS : 0 < B.length) : ∃ g c,vb = .slice (some ⟨g,0,none⟩) B.length c ∧ base ≤ g ∧ BwM wr g B.length B := by
 rcases h.out.2 with ⟨_,h0⟩ | ⟨gb,cb,cur,rfl,hgb,hcell,_,_,_,htk⟩
 ·omega
 ·refine ⟨gb,cb,rfl,hgb,cur,hcell,fun s hs => ?_⟩
  have hl := h.len
  have hv : vs[s]? = some vs[s] := List.getElem?_eq_getElem (by omega)
  have ho := h.own s _ hv
  obtain ⟨a,c,e⟩ := qe ho
  rw [e] at hv ho
  refine ⟨a,c,?_,fun hp => ?_⟩
  ·rw [← htk,List.getElem?_take,if_pos (by omega)] at hv
   simpa using hv
  ·rcases ho.2 with ⟨_,h0⟩ | ⟨gi,ci,cu,e2,_,hci,_,_,_,htk2⟩
   ·omega
   ·injection e2 with e2 _ _
    refine ⟨gi,cu,e2,hci,fun k x hx => ?_⟩
    have hk := (List.getElem?_eq_some_iff.1 hx).1
    obtain ⟨h1,h2⟩ := q5S _ k x hx
    rw [← htk2,List.getElem?_take,if_pos (by omega)] at h1 h2
    exact ⟨by simpa using h1,by simpa using h2⟩
theorem q5b {w : World} {ops : Array Oper} {rest : List Oper} {o : Oper} {a : Act} {Q : Exit → Act → World → Prop} (hgd : o.guard = none) (s x : Operand)
  (ho : o.op = .call { callee := .builtin .append,args := #[s,x],argTypes := #[62,62] }) (base : Nat)
  (v : Value) (n : Nat) (vs : List Value) (hs : a.eval s = v) (hown : w.ownsRow base 91 1 v n vs) (g' : Nat) (hx : a.eval x = .slice (some ⟨g',0,none⟩) 1 1) (hc : w.cell? ⟨g',0,none⟩ = some (.slice none 0 0))
  (hn : n + 1 ≤ 2000000) (hbase : base ≤ w.heap.size)
  (h : ∀ g c w',w'.ownsRow base 91 1 (.slice (some ⟨g,0,none⟩) (n + 1) c) (n + 1) (vs ++ [.slice none 0 0]) → w.grownBy w' v.ownBlock → (v.ownBlock = some g ∨ g = w.heap.size) → wpList Try.prog ops Q rest (a.put o.dst (.slice (some ⟨g,0,none⟩) (n + 1) c)) w') : wpList Try.prog ops Q (o :: rest) a w := by
 have hI : (Try.prog.info? 91).map (fun i => (i.zero,i.size,i.bytes)) = some (some (.slice none 0 0),1,24) := by kernel_rfl
 obtain ⟨i,hi,hz0,hz1,hz2⟩ := info_parts hI
 refine wpList_append_lies w hgd s x 62 ho base 91 i _ 1 24 Try.underlying62 hi hz0 hz1 hz2 rfl (by decide) v n _ hs hown ⟨g',0,none⟩ 1 1 [.slice none 0 0] hx rfl ?_ (fun u hu => by simp at hu; subst hu; rfl) (by decide) (by unfold maxLen; omega) (by omega) hbase _ rfl ?_
 ·intro j u hj
  match j with
  | 0 => simp at hj; rw [← hj,q9]; exact hc
  | j + 1 => simp at hj
 ·intro g c w' h1 h2 h3 _
  exact h g c w' h1 h2 h3
theorem q5c {w : World} {ops : Array Oper} {rest : List Oper} {o : Oper} {a : Act} {Q : Exit → Act → World → Prop} (hgd : o.guard = none) (s x : Operand)
  (ho : o.op = .call { callee := .builtin .append,args := #[s,x],argTypes := #[91,91] }) (base : Nat)
  (v : Value) (n : Nat) (Y : List (Nat × Nat)) (y : Nat × Nat) (hs : a.eval s = v) (hown : w.ownsRow base 93 2 v n (encW Y)) (g' : Nat) (hx : a.eval x = .slice (some ⟨g',0,none⟩) 1 1) (hB : w.heap[g']? = some (.cells #[.int .i32 (y.1 : Int),.int .u8 (y.2 : Int)] 93 (0,0)))
  (hn : n + 1 ≤ 100000000) (hbase : base ≤ w.heap.size)
  (h : ∀ g c w',w'.ownsRow base 93 2 (.slice (some ⟨g,0,none⟩) (n + 1) c) (n + 1) (encW (Y ++ [y])) → w.grownBy w' v.ownBlock → (v.ownBlock = some g ∨ g = w.heap.size) → wpList Try.prog ops Q rest (a.put o.dst (.slice (some ⟨g,0,none⟩) (n + 1) c)) w') : wpList Try.prog ops Q (o :: rest) a w := by
 have hI : (Try.prog.info? 93).map (fun i => (i.zero,i.size,i.bytes)) = some (some (.agg #[.int .i32 0,.int .u8 0]),2,8) := by kernel_rfl
 obtain ⟨i,hi,hz0,hz1,hz2⟩ := info_parts hI
 refine wpList_append_lies w hgd s x 91 ho base 93 i _ 2 8 Try.underlying91 hi hz0 hz1 hz2 rfl (by decide) v n _ hs hown ⟨g',0,none⟩ 1 1 (encW [y]) hx rfl (fun j u hj => ?_) (q91 [y]) (by decide) (by unfold maxLen; omega) (by omega) hbase _ rfl ?_
 ·rw [q9,Nat.zero_add,q6 hB]
  simpa [encW] using hj
 ·intro g c w' h1 h2 h3 _
  exact h g c w' (by rw [q90]; exact h1) h2 h3
end Go.Proofs.Ytcnkgokfjafgkaa
namespace Go.Proofs.Ytcnkgokfjafgkaa
open Go.RowKit Go.Maps Go.Sort
def rwN (R : List (List Nat)) (q : Nat) (cur : List Int) : List Int := (R.getD q []).map fun t => cur.getD t 0
def rwTo (row : List Nat) (cur : List Int) (k : Nat) : List Int := (row.take k).map (fun t => cur.getD t 0) ++ (row.drop k).map Int.ofNat
theorem q9H (row : List Nat) (cur : List Int) (k : Nat) : (rwTo row cur k).length = row.length := by
 rw [rwTo,List.length_append,List.length_map,List.length_map,List.length_take,List.length_drop]; omega
theorem q8t (row : List Nat) (cur : List Int) : rwTo row cur 0 = row.map Int.ofNat := by simp [rwTo]
theorem q9G (row : List Nat) (cur : List Int) : rwTo row cur row.length = row.map fun t => cur.getD t 0 := by simp [rwTo]
theorem qaC {row : List Nat} {cur : List Int} {k : Nat} (h : k < row.length) : (rwTo row cur k).getD k 0 = ((row.getD k 0 : Nat) : Int) := by
 have h1 : ((row.take k).map (fun t => cur.getD t 0)).length = k := by rw [List.length_map,List.length_take]; omega
 rw [rwTo,List.getD_eq_getElem?_getD,List.getElem?_append_right (by omega),h1,Nat.sub_self,List.getElem?_map,List.getElem?_drop,Nat.add_zero,List.getElem?_eq_getElem h,qd h]
 rfl
theorem q8s {row : List Nat} {cur : List Int} {k : Nat} (h : k < row.length) : (rwTo row cur k).set k (cur.getD (row.getD k 0) 0) = rwTo row cur (k + 1) := by
 have h1 : ((row.take k).map (fun t => cur.getD t 0)).length = k := by rw [List.length_map,List.length_take]; omega
 rw [rwTo,rwTo,List.set_append_right _ _ (by omega),h1,Nat.sub_self,qB h,List.map_append,List.append_assoc]
 congr 1
 rw [List.drop_eq_getElem_cons h]
 rfl
theorem q5z (p : Int) (aA : Option Addr) (nA cA : Nat) (aG : Option Addr) (nG cG : Nat) (aN : Option Addr) (nN cN : Nat) (N : List Gd) (gs : List Int) (q g : Nat) (cur : List Int) (w : World) (hM : MayG p nA N gs) (hN : NdSl w aN nN cN N) (hG : ZSl w aG nG cG gs) (hU : NuB w g cur) (hq : q < nA) :
  Calls Try.prog 53 #[.agg #[.int .i64 p,.slice aA nA cA,.slice aG nG cG,.slice aN nN cN],.int .i64 (q : Int),.slice (some ⟨g,0,none⟩) nA 256] w fun e w' => Below w.heap.size w w' ∧ ∃ a c,e = .returned (.slice a (2 ^ p.toNat) c) ∧ w'.ownsRow w.heap.size 3 1 (.slice a (2 ^ p.toNat) c) (2 ^ p.toNat) ((rwN (rwA p N gs) q cur).map (Value.int .i64)) := by
 obtain ⟨Q,hQ⟩ : ∃ Q : Ending → World → Prop,Q = fun e w' => Below w.heap.size w w' ∧ ∃ a c,e = .returned (.slice a (2 ^ p.toNat) c) ∧ w'.ownsRow w.heap.size 3 1 (.slice a (2 ^ p.toNat) c) (2 ^ p.toNat) ((rwN (rwA p N gs) q cur).map (Value.int .i64)) := ⟨_,rfl⟩
 have HQ : Hid (∀ a c w',Below w.heap.size w w' → w'.ownsRow w.heap.size 3 1 (.slice a (2 ^ p.toNat) c) (2 ^ p.toNat) ((rwN (rwA p N gs) q cur).map (Value.int .i64)) → Q (.returned (.slice a (2 ^ p.toNat) c)) w') := fun a c w' h1 h2 => by rw [hQ]; exact ⟨h1,a,c,rfl,h2⟩
 rw [← hQ]
 clear hQ
 have hb0 := q5 w (.cells #[.int .i64 p,.slice aA nA cA,.slice aG nG cG,.slice aN nN cN] 26 (0,0))
 have HB0 : Hid _ := hb0
 have HV0 : Hid _ := qj w p aA nA cA aG nG cG aN nN cN
 have hqR : q < nG := by have h1 := hG.hlen; have h2 := hM.len; omega
 have hixg := fun w' => hG.idx nG q w' hqR (Nat.le_refl _)
 have hcg := (hG.up hb0).cell q hqR
 have hi64 := q2u hM (q := q) (by have h2 := hM.len; omega)
 have hk256 := hM.k256
 have h256 := hM.s2
 have hRr := (hM.rows (2 ^ p.toNat)).row q hq
 have HRL : Hid (∀ k,k < 2 ^ p.toNat → ((rwA p N gs).getD q []).getD k 0 < nA) := fun k hk => (hM.rows (2 ^ p.toNat)).lt q k hq hk
 have htab := hM.tab (K := 2 ^ p.toNat) hq
 have jt := q1M p aN nN cN N (gs.getD q 0) (w.alloc (.cells #[.int .i64 p,.slice aA nA cA,.slice aG nG cG,.slice aN nN cN] 26 (0,0))).drew ((hN.up hb0).up ((Below.refl _ _).drew)) hi64
 have HT : Hid (∀ e w6,TabRO p N (gs.getD q 0) (w.alloc (.cells #[.int .i64 p,.slice aA nA cA,.slice aG nG cG,.slice aN nN cN] 26 (0,0))).drew e w6 → ∃ a c,e = .returned (.tuple #[.slice a (2 ^ p.toNat) c,.int .i64 0]) ∧ Below w.heap.size w w6 ∧ w6.ownsRow (w.heap.size + 1) 3 1 (.slice a (2 ^ p.toNat) c) (2 ^ p.toNat) ((((rwA p N gs).getD q []).map Int.ofNat).map (Value.int .i64))) := fun e w6 hq2 => by
  obtain ⟨hb,⟨h1,_⟩ | ⟨_,_,⟨h3,_⟩ | ⟨l,a,c,h3,rfl,h4⟩⟩⟩ := hq2
  ·exact absurd ⟨hM.p0,hM.p8⟩ h1
  ·rw [htab] at h3; cases h3
  ·rw [htab] at h3; injection h3 with h3; subst h3
   have hl : (((rwA p N gs).getD q []).map Int.ofNat).length = 2 ^ p.toNat := by rw [List.length_map]; exact hRr
   rw [hl] at h4 ⊢
   refine ⟨a,c,rfl,q7 hb0 (q7 ((Below.refl _ _).drew) hb),?_⟩
   simpa using h4
 have HE0 : Hid (rwN (rwA p N gs) q cur = ((rwA p N gs).getD q []).map fun t => cur.getD t 0) := rfl
 have HUU : Hid _ := hU
 have HRR : Hid _ := hRr
 clear hM hN hG hU hb0 hRr htab hi64
 generalize (rwA p N gs).getD q [] = row at *
 generalize rwN (rwA p N gs) q cur = res at *
 generalize 2 ^ p.toNat = K at *
 obtain ⟨c0,c1,c2,c3⟩ := HV0.out
 generalize gs.getD q 0 = rq at *
 generalize adOf aG q = ag at *
 obtain ⟨ag1,ag2,ag3⟩ := ag
 have dq1 : decide (nG ≤ q) = false := by simp; exact hqR
 go_enter Try.func53,Try.ntmps53
 go_upto_region 1 with fail
 go_cut [7] (fun v7 wx => ∃ (ya : Option Addr) (yc : Nat),v7 = .slice ya K yc ∧ Hid (Below w.heap.size w wx) ∧ Hid (wx.ownsRow (w.heap.size + 1) 3 1 (.slice ya K yc) K ((row.map Int.ofNat).map (Value.int .i64))))
 case first =>
  go_region_with (first
   | (go_at_call 74; (with_reducible refine jt.mono ?_); intro e w6 hq6; obtain ⟨ya,yc,rfl,hb6,ho6⟩ := HT.out e w6 hq6; have HB6 : Hid _ := hb6; have HO6 : Hid _ := ho6; clear hq6 hb6 ho6)
   | fail)
  all_goals
   go_wp2_with fail
   go_meet
   exact ⟨_,_,rfl,HB6,HO6⟩
 case rest =>
 obtain ⟨ya,yc,rfl,HB6,HO6⟩ := hcut
 generalize wc = w6 at *
 clear jt HT c0 c1 c2 c3 hcg hixg
 have HO0 : Hid (w6.ownsRow (w.heap.size + 1) 3 1 (.slice ya K yc) K ((rwTo row cur 0).map (Value.int .i64))) := by rw [q8t]; exact HO6.out
 clear HO6
 go_wp2
 go_loopw [26] (fun i wr => ∃ k : Nat,k ≤ K ∧ i = .int .i64 (k : Int) ∧ Hid (wr.ownsRow (w.heap.size + 1) 3 1 (.slice ya K yc) K ((rwTo row cur k).map (Value.int .i64))) ∧ Hid (Below (w.heap.size + 1) w6 wr)) (fun i _ => K - (intOf i).toNat)
 case atStart => exact ⟨0,Nat.zero_le _,rfl,HO0,Below.refl _ _⟩
 case round =>
  obtain ⟨k,hk,rfl,HO,HW⟩ := hrel
  clear HO0
  by_cases hlt : k < K
  ·have hkr : k < row.length := by rw [HRR.out]; exact hlt
   obtain ⟨gw,cw,ev,hgw,hnc,hcv,hfv,hown⟩ := q2w HO.out hlt (.int .i64 (cur.getD (row.getD k 0) 0))
   injection ev with ev1 _ ev3
   subst ev1 ev3
   have hcv2 : wr.cell? ⟨gw,k,none⟩ = some (.int .i64 ((row.getD k 0 : Nat) : Int)) := by
    have h2 : k < (rwTo row cur k).length := by rw [q9H]; exact hkr
    rw [hcv,List.getElem?_map,List.getElem?_eq_getElem h2,← qd h2 0,qaC hkr]; rfl
   have HO2 : Hid ((wr.setCell ⟨gw,k,none⟩ (.int .i64 (cur.getD (row.getD k 0) 0))).ownsRow (w.heap.size + 1) 3 1 (.slice (some ⟨gw,0,none⟩) K yc) K ((rwTo row cur (k + 1)).map (Value.int .i64))) := by
    rw [← q8s hkr,List.map_set]; exact hown
   have HW2 : Hid (Below (w.heap.size + 1) w6 (wr.setCell ⟨gw,k,none⟩ (.int .i64 (cur.getD (row.getD k 0) 0)))) := HW.out.setCell hgw _
   have hix : ∀ w',(Instr.indexAt 23 (.slice (some ⟨gw,0,none⟩) K yc) (.int .i64 (k : Int))).run Try.prog w' = .ok (.pointer (some ⟨gw,k,none⟩)) w' := fun w' => by
    have := qt (P := Try.prog) (T := 23) Try.underlying23 qf (a := some ⟨gw,0,none⟩) (cap := yc) (n := K) (fun e => by cases e) k w' hlt
    simpa [adOf,q9] using this
   have htn := HRL.out k hlt
   have hi2 := fun w' => q2Q g nA (row.getD k 0) htn w'
   have hgl := HUU.out.lt
   have hnu : NuB wr g cur := ⟨(HW.out.block g (by omega)).trans ((HB6.out.block g hgl).trans HUU.out.row),HUU.out.len⟩
   have hc2 := hnu.row.cell (i := row.getD k 0) (by rw [hnu.len]; omega)
   clear hcv hown HO hnu hkr
   generalize row.getD k 0 = t at *
   generalize cur.getD t 0 = z at *
   have dt0 : decide ((t : Int) < 0) = false := by simp
   have dt1 : decide (nA ≤ t) = false := by simp; exact htn
   go_wp2
   go_roundw
   case rel => exact ⟨k + 1,by omega,by go_num,HO2,HW2⟩
   case measure => simp [intOf]; omega
  ·obtain rfl : k = K := by omega
   have HE : Hid _ := HQ.out ya yc wr (HB6.out.trans (HW.out.mono (by omega))) (by
    have := HO.out
    rw [show k = row.length from HRR.out.symm,q9G,← HE0.out,HRR.out] at this
    exact qx this (by omega))
   clear HO HW HQ
   go_wp2
   exact HE.out
def nuC (c : Nat → Nat) (n : Nat) (F : List Nat) : List Int := (List.range 256).map fun i => if i < n then (if c i ∈ F.map c then ((nmP c F i : Nat) : Int) else -1) else 0
theorem q1u (c : Nat → Nat) (n : Nat) (F : List Nat) : (nuC c n F).length = 256 := by rw [nuC,List.length_map,List.length_range]
theorem q41 (c : Nat → Nat) (n : Nat) (F : List Nat) {i : Nat} (h : i < 256) : (nuC c n F).getD i 0 = if i < n then (if c i ∈ F.map c then ((nmP c F i : Nat) : Int) else -1) else 0 := by
 rw [qd (by rw [q1u]; exact h)]; simp [nuC]
def noC (k : Nat) : List Int := (List.range 256).map fun i => if i < k then -1 else 0
theorem q12 (k : Nat) : (noC k).length = 256 := by rw [noC,List.length_map,List.length_range]
theorem q65 (k : Nat) {i : Nat} (h : i < 256) : (noC k).getD i 0 = if i < k then -1 else 0 := by
 rw [qd (by rw [q12]; exact h)]; simp [noC]
theorem q9j : noC 0 = List.replicate 256 0 := by
 apply List.ext_getElem (by rw [q12,List.length_replicate])
 intro i h1 h2
 rw [q12] at h1
 rw [← qd (by rw [q12]; exact h1) 0,q65 0 h1,List.getElem_replicate,if_neg (by omega)]
theorem q9i {k : Nat} : (noC k).set k (-1) = noC (k + 1) := by
 apply List.ext_getElem (by rw [List.length_set,q12,q12])
 intro i h1 h2
 have h3 := h2
 rw [q12] at h3
 rw [← qd h2 0,q65 _ h3,List.getElem_set]
 replace h2 := h3
 by_cases e : k = i
 ·subst e; rw [if_pos rfl,if_pos (by omega)]
 ·rw [if_neg e,← qd (by rw [q12]; exact h2) 0,q65 _ h2]
  by_cases h3 : i < k
  ·rw [if_pos h3,if_pos (by omega)]
  ·rw [if_neg h3,if_neg (by omega)]
theorem qap (c : Nat → Nat) (n : Nat) : noC n = nuC c n [] := by simp [noC,nuC]
theorem qaF {C : List Nat} {c : Nat → Nat} {n q : Nat} {F : List Nat} (hc : c = fun s => C.getD s 0) (hq : c q ∉ F.map c) : sprC C (C.getD q 0) ((F.length : Nat) : Int) n (nuC c n F) = nuC c n (F ++ [q]) := by
 apply List.ext_getElem (by rw [qF,q1u,q1u])
 intro i h1 h2
 rw [q1u] at h2
 have hl : i < (nuC c n F).length := by rw [q1u]; exact h2
 rw [← qd h1 0,← qd (by rw [q1u]; exact h2) 0,q1G _ _ _ _ _ hl,q41 _ _ _ h2,q41 _ _ _ h2]
 have ei : C.getD i 0 = c i := by rw [hc]
 have eq : C.getD q 0 = c q := by rw [hc]
 rw [ei,eq]
 by_cases hn : i < n
 ·rw [if_pos hn,if_pos hn]
  have hmem : c i ∈ (F ++ [q]).map c ↔ c i ∈ F.map c ∨ c i = c q := by simp
  by_cases e : c i = c q
  ·have hni : c i ∉ F.map c := by rw [e]; exact hq
   rw [if_pos ⟨hn,e⟩,if_pos (hmem.2 (.inr e)),nmP,List.map_append,List.idxOf_append,if_neg hni]
   simp [e]
  ·rw [if_neg (fun h => e h.2)]
   by_cases hm : c i ∈ F.map c
   ·rw [if_pos hm,if_pos (hmem.2 (.inl hm)),q77 (List.prefix_append F [q]) hm]
   ·rw [if_neg hm,if_neg (fun h => (hmem.1 h).elim hm e)]
 ·rw [if_neg hn,if_neg hn,if_neg (fun h => hn h.1)]
theorem q53 {g : Nat} {w0 w w' : World} (h : OnG g w w') (hg : w0.heap.size ≤ g) (hb : Below w0.heap.size w0 w) : Below w0.heap.size w0 w' :=
 hb.trans (h.below (fun k hk => by omega) hb.size)
theorem q8i {g : Nat} {w w1 w' : World} (h : OnG g w w1) (hb : Below w1.heap.size w1 w') : OnG g w w' := h.trans (Fr.ofBelow hb)
theorem q9l {g : Nat} {w w5 w7 : World} {ob : Option Nat} (h : OnG g w w5) (o : Obj) (hg : (w5.alloc o).grownBy w7 ob) (hob : ∀ k,ob = some k → w.heap.size ≤ k) : OnG g w w7 := by
 have hb := q5 w5 o
 refine ⟨hg.os.trans (hb.os.trans h.os),hg.tape.trans (hb.tape.trans h.tape),hg.output.trans (hb.output.trans h.output),Nat.le_trans h.size (Nat.le_trans hb.size hg.size),fun k hk hf => ?_,h.foot⟩
 have h5 := Nat.lt_of_lt_of_le hk h.size
 rw [hg.block k (Nat.lt_of_lt_of_le h5 hb.size) (fun e => by have := hob k e.symm; omega),hb.block k h5]
 exact h.keep k hk hf
theorem RowI.grown {w w' : World} {e b : Nat} {cur : List Int} {ob : Option Nat} (h : RowI w e b cur) (hg : w.grownBy w' ob) (hne : ob ≠ some b) : RowI w' e b cur := (hg.block b h.lt (fun e => hne e.symm)).trans h
structure RnM (w : World) (g gO : Nat) (C : List Nat) (aM : Option Addr) (cM : Nat) (Q : List Nat) (base : Nat) (c : Nat → Nat) (n : Nat) (F : List Nat) (v : Value) (wr : World) : Prop where
 on : OnG g w wr
 num : NuB wr g (nuC c n F)
 of : RowI wr 3 gO (C.map Int.ofNat)
 met : ZSl wr aM Q.length cM (Q.map Int.ofNat)
 fst : wr.ownsRow base 3 1 v F.length ((F.map Int.ofNat).map (Value.int .i64))
 bs : base ≤ wr.heap.size
structure RnK (w : World) (g gO : Nat) (aM : Option Addr) (L base : Nat) : Prop where
 g1 : g < base
 g2 : gO ≠ g
 g3 : gO < base
 wb : w.heap.size ≤ base
 m1 : ∀ k,k < L → (adOf aM k).block ≠ g
 m2 : ∀ k,k < L → (adOf aM k).block < base
theorem RnM.push {w : World} {g gO : Nat} {C : List Nat} {aM : Option Addr} {cM : Nat} {Q : List Nat} {base : Nat} {c : Nat → Nat} {n : Nat} {F : List Nat} {v : Value} {wr w5 w7 : World} (h : RnM w g gO C aM cM Q base c n F v wr) (hK : RnK w g gO aM Q.length base) (h5 : OnG g wr w5) {q : Nat} (hN : NuB w5 g (nuC c n (F ++ [q]))) {o : Obj} {v7 : Value}
  (hq : w7.ownsRow base 3 1 v7 (F.length + 1) ((F.map Int.ofNat ++ [(q : Int)]).map (Value.int .i64))) (hg : (w5.alloc o).grownBy w7 v.ownBlock) : RnM w g gO C aM cM Q base c n (F ++ [q]) v7 w7 := by
 have hob := qm h.fst
 have hb := q5 w5 o
 have keep : ∀ b,b < wr.heap.size → b ≠ g → b < base → w7.heap[b]? = wr.heap[b]? := fun b h1 h2 h3 => by
  have h6 := Nat.lt_of_lt_of_le h1 h5.size
  rw [hg.block b (Nat.lt_of_lt_of_le h6 hb.size) (fun e => by have := hob b e.symm; omega),hb.block b h6]
  exact h5.keep b h1 h2
 refine ⟨q9l (h.on.trans h5) o hg (fun k e => by have := hob k e; have := hK.wb; omega),⟨(hN.row.up hb).grown hg (fun e => by have := hob g e; have := hK.g1; omega),hN.len⟩,(keep gO h.of.lt hK.g2 hK.g3).trans h.of,?_,by rw [List.length_append,List.map_append]; exact hq,Nat.le_trans h.bs (Nat.le_trans h5.size (Nat.le_trans hb.size hg.size))⟩
 exact ⟨h.met.hlen,h.met.hcap,h.met.bd,h.met.idx,fun k hk => by
  have h1 := h.met.cell k hk
  unfold World.cell? at h1 ⊢
  rw [keep _ (h.met.blk k hk) (hK.m1 k hk) (hK.m2 k hk)]; exact h1,fun k hk => Nat.lt_of_lt_of_le (h.met.blk k hk) (Nat.le_trans h5.size (Nat.le_trans hb.size hg.size)),h.met.nn⟩
def RnuR (p : Int) (nA : Nat) (bs : List Bool) (N : List Gd) (gs : List Int) (g : Nat) (w : World) (e : Ending) (w' : World) : Prop :=
 OnG g w w' ∧ ∃ k c F a cap,manyP (rwA p N gs) bs nA k = manyP (rwA p N gs) bs nA (k + 1) ∧ c = (fun s => (clsP (rwA p N gs) bs nA k).getD s 0) ∧ F = ddP c (rchP (rwA p N gs) nA 0 [0]) ∧ e = .returned (.slice a F.length cap) ∧ ZSl w' a F.length cap (F.map Int.ofNat) ∧ NuB w' g (nuC c nA F)
theorem q5p (p : Int) (aA : Option Addr) (nA cA : Nat) (aG : Option Addr) (nG cG : Nat) (aN : Option Addr) (nN cN : Nat) (bs : List Bool) (N : List Gd) (gs : List Int) (g : Nat) (w0 w : World) (hb : Below w0.heap.size w0 w) (hg : w0.heap.size ≤ g) (hZ : NuB w g (List.replicate 256 0)) (hM : MayG p nA N gs) (hB : BoSl w0 aA nA cA bs) (hN : NdSl w0 aN nN cN N) (hG : ZSl w0 aG nG cG gs) (hok : ∀ z ∈ gs,I64 z) :
  Calls Try.prog 50 #[.agg #[.int .i64 p,.slice aA nA cA,.slice aG nG cG,.slice aN nN cN],.slice (some ⟨g,0,none⟩) nA 256] w (RnuR p nA bs N gs g w) := by
 obtain ⟨Z,eZ⟩ : ∃ Z,Z = RnuR p nA bs N gs g w := ⟨_,rfl⟩
 have HZ : Hid (∀ e w',RnuR p nA bs N gs g w e w' → Z e w') := fun e w' h => by rw [eZ]; exact h
 rw [← eZ]
 have h256 := hM.s2
 have hgw := hZ.lt
 have hb1 := q5 w (.cells #[.int .i64 p,.slice aA nA cA,.slice aG nG cG,.slice aN nN cN] 26 (0,0))
 have HB0 : Hid _ := hb
 have HG0 : Hid _ := hg
 have HON : Hid (OnG g w (w.alloc (.cells #[.int .i64 p,.slice aA nA cA,.slice aG nG cG,.slice aN nN cN] 26 (0,0)))) := Fr.ofBelow hb1
 have HAU : Hid _ := (MapKept.heap_alloc w (.cells #[.int .i64 p,.slice aA nA cA,.slice aG nG cG,.slice aN nN cN] 26 (0,0))).1
 have HNU : Hid (NuB (w.alloc (.cells #[.int .i64 p,.slice aA nA cA,.slice aG nG cG,.slice aN nN cN] 26 (0,0))) g (noC 0)) := by rw [q9j]; exact hZ.up hb1
 have HCL : Hid (∀ w',Below w0.heap.size w0 w' → Calls Try.prog 67 #[.agg #[.int .i64 p,.slice aA nA cA,.slice aG nG cG,.slice aN nN cN]] w' (CaR p nA bs N gs w')) := fun w' h => q3G p aA nA cA aG nG cG aN nN cN bs N gs w' (hB.up h) (hN.up h) (hG.up h) hok
 have HRE : Hid (∀ w',Below w0.heap.size w0 w' → Calls Try.prog 68 #[.agg #[.int .i64 p,.slice aA nA cA,.slice aG nG cG,.slice aN nN cN]] w' (RchA p nA N gs w')) := fun w' h => q3H p aA nA cA aG nG cG aN nN cN bs N gs w' (hB.up h) (hN.up h) (hG.up h) hok
 have HM : Hid _ := hM
 generalize hw1 : w.alloc (.cells #[.int .i64 p,.slice aA nA cA,.slice aG nG cG,.slice aN nN cN] 26 (0,0)) = w1 at *
 have HW1 : Hid _ := hw1
 clear hw1
 go_enter Try.func50,Try.ntmps50
 go_wp2
 rw [HW1.out]
 go_loopw [15] (fun i wr => ∃ k : Nat,k ≤ nA ∧ i = .int .i64 (k : Int) ∧ Hid (NuB wr g (noC k)) ∧ Hid (OnG g w1 wr)) (fun i _ => nA - (intOf i).toNat)
 case atStart => exact ⟨0,Nat.zero_le _,rfl,HNU,q3C _ _⟩
 case round =>
  obtain ⟨k,hk,rfl,HN,HW⟩ := hrel
  by_cases hlt : k < nA
  ·have hi2 := fun w' => q2Q g nA k hlt w'
   have hc2 := HN.out.row.cell (i := k) (by rw [q12]; omega)
   have hf2 := HN.out.row.frozen k
   have HN2 : Hid (NuB (wr.setCell ⟨g,k,none⟩ (.int .i64 (-1))) g (noC (k + 1))) := by rw [← q9i]; exact HN.out.set k (-1)
   have HW2 : Hid _ := q1F HW.out k (.int .i64 (-1))
   generalize (noC k).getD k 0 = z at *
   go_wp2
   go_roundw
   case rel => exact ⟨k + 1,by omega,by go_num,HN2,HW2⟩
   case measure => simp [intOf]; omega
  ·obtain rfl : k = nA := by omega
   have hon := HON.out.trans HW.out
   have hbw := q53 hon HG0.out HB0.out
   have hs1 : w1.heap.size = w.heap.size + 1 := by rw [← HW1.out]; simp
   have hau := (HW.out.keep w.heap.size (by omega) (by omega)).trans HAU.out
   have HAU2 : Hid _ := hau
   obtain ⟨c0,c1,c2,c3⟩ : AuB wr w.heap.size p aA k cA aG nG cG aN nN cN := ⟨q6 hau 0,q6 hau 1,q6 hau 2,q6 hau 3⟩
   have jc := HCL.out wr hbw
   have HON2 : Hid _ := hon
   have HBW : Hid _ := hbw
   have HN3 : Hid _ := HN.out
   go_wp2_with fail
   refine jc.mono ?_
   rintro e w3 ⟨hb3,⟨hM,_⟩ | ⟨_,j,gO,hgO,hmj,rfl,hrow⟩⟩
   ·exact absurd HM.out hM
   have hbw3 := HBW.out.trans (hb3.mono HBW.out.size)
   have hau3 := (hb3.block w.heap.size (Array.getElem?_eq_some_iff.1 HAU2.out).1).trans HAU2.out
   obtain ⟨d0,d1,d2,d3⟩ : AuB w3 w.heap.size p aA k cA aG nG cG aN nN cN := ⟨q6 hau3 0,q6 hau3 1,q6 hau3 2,q6 hau3 3⟩
   have jr := HRE.out w3 hbw3
   have HON3 : Hid _ := q8i HON2.out hb3
   have HN4 : Hid _ := HN3.out.up hb3
   have HOF : Hid _ := hrow
   have HMJ : Hid _ := hmj
   have HGO : Hid (gO < w3.heap.size ∧ gO ≠ g) := ⟨hrow.lt,by have := HN3.out.lt; omega⟩
   have HSZ : Hid _ := HN4.out.lt
   go_wp2_with fail
   refine jr.mono ?_
   rintro e w4 ⟨hb4,⟨hM,_⟩ | ⟨_,aM,cM,rfl,hmet,hmn⟩⟩
   ·exact absurd HM.out hM
   obtain ⟨C,hC⟩ : ∃ C,C = clsP (rwA p N gs) bs k j := ⟨_,rfl⟩
   obtain ⟨c,hc⟩ : ∃ c : Nat → Nat,c = fun s => C.getD s 0 := ⟨_,rfl⟩
   have hCl : C.length = k := by rw [hC,q5N]
   have HZ2 : Hid (∀ F a cap w',OnG g w w' → F = ddP c (rchP (rwA p N gs) k 0 [0]) → ZSl w' a F.length cap (F.map Int.ofNat) → NuB w' g (nuC c k F) → Z (.returned (.slice a F.length cap)) w') := fun F a cap w' q1 q2 q3 q4 => HZ.out _ _ ⟨q1,j,c,F,a,cap,HMJ.out,by rw [hc,hC],q2,rfl,q3,q4⟩
   have hQn := (q3b (HM.out.rows (2 ^ p.toNat)) HM.out.s1).lt
   have hQd := (q3b (HM.out.rows (2 ^ p.toNat)) HM.out.s1).nd
   have HCLT : Hid (∀ s,s < k → C.getD s 0 < 256) := fun s hs => by rw [hC]; exact Nat.lt_of_lt_of_le (q6M _ _ _ _ hs) h256
   generalize rchP (rwA p N gs) k 0 [0] = Q at *
   rw [← hC] at HOF
   have hQl := qr hQd hQn
   have HQn : Hid _ := hQn
   have HK : Hid (RnK w g gO aM Q.length w4.heap.size) := ⟨by have := HSZ.out; have := hb4.size; omega,HGO.out.2,Nat.lt_of_lt_of_le HGO.out.1 hb4.size,Nat.le_trans HON3.out.size hb4.size,fun k hk => by have := hmn k hk; have := HSZ.out; omega,fun k hk => hmet.blk k hk⟩
   have HR0 : Hid (RnM w g gO C aM cM Q w4.heap.size c k (ddP c (Q.take 0)) (.slice none 0 0) w4) := ⟨q8i HON3.out hb4,by
    have := HN4.out.up hb4
    rw [qap c] at this
    exact this,RowI.up (e := 3) HOF.out hb4,hmet,⟨rfl,.inl ⟨rfl,rfl⟩⟩,Nat.le_refl _⟩
   have HCC : Hid _ := hc
   have HCL2 : Hid _ := hCl
   generalize w4.heap.size = base at *
   go_wp2
   go_loopw [10,34] (fun v i wr => ∃ (m : Nat) (F : List Nat),m ≤ Q.length ∧ i = .int .i64 (m : Int) ∧ Hid (F = ddP c (Q.take m)) ∧ Hid (RnM w g gO C aM cM Q base c k F v wr)) (fun _ i _ => Q.length - (intOf i).toNat)
   case atStart => exact ⟨0,_,Nat.zero_le _,rfl,rfl,HR0⟩
   case round =>
    obtain ⟨m,F,hm,rfl,HF,HR⟩ := hrel
    obtain ⟨va,vc,rfl,hU,hUb,_⟩ := q13 HR.out.fst Try.underlying23 qf
    by_cases hmQ : m < Q.length
    ·have hix := fun w' => HR.out.met.idx Q.length m w' hmQ (Nat.le_refl _)
     have hce := HR.out.met.cell m hmQ
     rw [qD hmQ] at hce
     have hqn := HQn.out _ (q1e hmQ)
     have HFN : Hid (ddP c (Q.take (m + 1)) = putF c F (Q.getD m 0)) := by show _ = _; rw [qB hmQ,q2k,← HF.out]; rfl
     generalize Q.getD m 0 = q at *
     generalize adOf aM m = ad at *
     obtain ⟨ag,ao,az⟩ := ad
     have hi2 := fun w' => q2Q g k q hqn w'
     have hc2 := HR.out.num.row.cell (i := q) (by rw [q1u]; omega)
     rw [q41 _ _ _ (by omega),if_pos hqn] at hc2
     have dq0 : decide ((q : Int) < 0) = false := by simp
     have dq1 : decide (k ≤ q) = false := by simp; exact hqn
     by_cases hin : c q ∈ F.map c
     ·rw [if_pos hin] at hc2
      have HF2 : Hid (F = ddP c (Q.take (m + 1))) := by show _ = _; rw [HFN.out,putF,if_pos hin]
      have dn : (((nmP c F q : Nat) : Int) == -1) = false := by simp
      generalize ((nmP c F q : Nat) : Int) = zz at *
      go_wp2
      go_roundw
      case rel => exact ⟨m + 1,F,by omega,by go_num,HF2,HR⟩
      case measure => simp [intOf]; omega
     ·rw [if_neg hin] at hc2
      have HF2 : Hid (F ++ [q] = ddP c (Q.take (m + 1))) := by show _ = _; rw [HFN.out,putF,if_neg hin]
      have hFl : F.length ≤ 256 := by
       have h1 : (F.map c).Nodup := by rw [HF.out]; exact q2a c _
       have := qr (n := 256) h1 (fun x hx => by
        obtain ⟨s,hs,rfl⟩ := List.mem_map.1 hx
        rw [HF.out] at hs
        have hs2 := List.mem_of_mem_take (q6Q hs)
        have := HCLT.out s (HQn.out s hs2)
        rw [HCC.out]; exact this)
       simpa using this
      have hgk := HR.out.of
      have hzs : ZSl wr (some ⟨gO,0,none⟩) k k (C.map Int.ofNat) := by
       have hl : (C.map Int.ofNat).length = k := by rw [List.length_map]; exact HCL2.out
       have := RowI.zsl (n := k) hgk Try.underlying23 qf (by omega) (by unfold maxLen; omega)
       rw [List.take_of_length_le (by omega),hl] at this
       exact this
      have hix3 := fun w' => hzs.idx k q w' hqn (Nat.le_refl _)
      have hce3 := hzs.cell q hqn
      rw [qD (by rw [HCL2.out]; exact hqn)] at hce3
      have had : adOf (some (⟨gO,0,none⟩ : Addr)) q = ⟨gO,q,none⟩ := by simp [adOf,q9]
      rw [had] at hix3 hce3
      have js := q4s g k (some ⟨gO,0,none⟩) k C (C.getD q 0) F.length (nuC c k F) wr HR.out.num hzs (fun i hi => by
       have : (adOf (some (⟨gO,0,none⟩ : Addr)) i).block = gO := by simp [adOf,q9]
       rw [this]; exact HK.out.g2) h256
      rw [qaF HCC.out hin] at js
      have hob := qm HR.out.fst
      have HSA : Hid (∀ w5,OnG g wr w5 → (w5.alloc (.cells #[.int .i64 (q : Int)] 3)).ownsRow base 3 1 (.slice va F.length vc) F.length ((F.map Int.ofNat).map (Value.int .i64)) ∧ (w5.alloc (.cells #[.int .i64 (q : Int)] 3)).cell? ⟨w5.heap.size,0,none⟩ = some (.int .i64 (q : Int)) ∧ base ≤ (w5.alloc (.cells #[.int .i64 (q : Int)] 3)).heap.size) := fun w5 h5 =>
       ⟨World.ownsRow.alloc (h5.own HR.out.fst (fun kk e he => by have := hob kk e; have := HK.out.g1; omega)) _,q6 (MapKept.heap_alloc w5 _).1 0,by have := HR.out.bs; have := h5.size; simp; omega⟩
      have HPU : Hid (∀ w5 w7 v7,OnG g wr w5 → NuB w5 g (nuC c k (F ++ [q])) → w7.ownsRow base 3 1 v7 (F.length + 1) ((F.map Int.ofNat ++ [(q : Int)]).map (Value.int .i64)) → (w5.alloc (.cells #[.int .i64 (q : Int)] 3)).grownBy w7 (Value.slice va F.length vc).ownBlock → RnM w g gO C aM cM Q base c k (F ++ [q]) v7 w7) := fun w5 w7 v7 q1 q2 q3 q4 => HR.out.push HK.out q1 q2 q3 q4
      have dn : ((-1 : Int) == -1) = true := rfl
      have hF2 : F.length + 1 ≤ 2000000 := by omega
      generalize hcq : C.getD q 0 = cq at *
      go_wp2_with fail
      refine js.mono ?_
      rintro e w5 ⟨rfl,hN5,hO5⟩
      obtain ⟨s1,s2,s3⟩ := HSA.out w5 hO5
      have HN5 : Hid _ := hN5
      have HO5 : Hid _ := hO5
      have HS1 : Hid _ := s1
      go_wp2_with (at_builtin; refine qS rfl _ _ rfl base _ F.length (F.map Int.ofNat) rfl HS1.out w5.heap.size (q : Int) rfl s2 hF2 s3 ?_)
      intro v7 w7 hq7 hg7
      have HR7 : Hid _ := HPU.out w5 w7 v7 HO5.out HN5.out (by rw [List.map_append,List.map_map]; exact hq7) hg7
      go_wp2
      go_roundw
      case rel => exact ⟨m + 1,_,by omega,by go_num,HF2,HR7⟩
      case measure => simp [intOf]; omega
    ·obtain rfl : m = Q.length := by omega
     have HE : Hid _ := HZ2.out F va vc wr HR.out.on (by rw [HF.out,List.take_length]) hU HR.out.num
     go_wp2
     exact HE.out
end Go.Proofs.Ytcnkgokfjafgkaa
namespace Go.Proofs.Ytcnkgokfjafgkaa
open Go.RowKit Go.Maps
theorem StG.type {w : World} {F : Nat → Prop} {g n : Nat} {N : List Gd} (h : StG w F g n N) {b : Nat} (hb : F b) {cs : Array Value} {T : TypeId} (hc : w.heap[b]? = some (.cells cs T (0,0))) : T = 111 ∨ T = 45 := by
 obtain ⟨v,mb,h1,h2,h3,h4⟩ := h.ex
 rcases (h4 b).1 hb with rfl | rfl | e
 ·unfold stO at h1; rw [h1] at hc; injection hc with hc; injection hc with _ hc _; exact .inl hc.symm
 ·obtain ⟨es,c,hm⟩ := h3.isMap
  rw [hm] at hc; cases hc
 ·rcases h2.2 with ⟨rfl,_⟩ | ⟨g',cap,cur,rfl,_,hg,_⟩
  ·cases e
  ·injection e with e
   dsimp only at e
   subst e
   rw [hg] at hc; injection hc with hc; injection hc with _ hc _; exact .inr hc.symm
theorem q2d {w : World} {base e size n b : Nat} {v : Value} {xs : List Value} (h : w.ownsRow base e size v n xs) (hb : v.ownBlock = some b) : ∃ cs,w.heap[b]? = some (.cells cs e (0,0)) := by
 rcases h.2 with ⟨rfl,_⟩ | ⟨g',cap,cur,rfl,_,hg,_⟩
 ·cases hb
 ·injection hb with hb
  dsimp only at hb
  subst hb
  exact ⟨cur,hg⟩
theorem StG.notOwn {w : World} {F : Nat → Prop} {g n : Nat} {N : List Gd} (hS : StG w F g n N) {base e size k : Nat} {v : Value} {xs : List Value} (h : w.ownsRow base e size v k xs) (h1 : e ≠ 111) (h2 : e ≠ 45) : ∀ b,v.ownBlock = some b → ¬ F b := fun b hb hf => by
 obtain ⟨cs,hc⟩ := q2d h hb
 rcases hS.type hf hc with e | e
 ·exact h1 e
 ·exact h2 e
theorem q54 {w : World} {base e size k base' e' size' k' : Nat} {v v' : Value} {xs xs' : List Value} (h : w.ownsRow base e size v k xs) (h' : w.ownsRow base' e' size' v' k' xs') (he : e ≠ e') : ∀ b,v.ownBlock = some b → v'.ownBlock ≠ some b := fun b hb hb' => by
 obtain ⟨cs,hc⟩ := q2d h hb
 obtain ⟨cs',hc'⟩ := q2d h' hb'
 rw [hc] at hc'
 injection hc' with hc'
 injection hc' with _ hc' _
 exact he hc'
theorem q55 {w w' : World} {base e size k : Nat} {v : Value} {xs : List Value} {row : Option Nat} (h : w.ownsRow base e size v k xs) (hg : w.grownBy w' row) (hn : ∀ b,v.ownBlock = some b → row ≠ some b) : w'.ownsRow base e size v k xs :=
 qb h fun b hb => hg.block b (h.lt b hb).2 (fun e => hn b hb e.symm)
theorem StG.grown {w w' : World} {F : Nat → Prop} {g n : Nat} {N : List Gd} (hS : StG w F g n N) {base e size k : Nat} {v : Value} {xs : List Value} (h : w.ownsRow base e size v k xs) (h1 : e ≠ 111) (h2 : e ≠ 45) (hg : w.grownBy w' v.ownBlock) : StG w' F g n N :=
 hS.far fun b hb => hg.block b (hS.lt b hb) (fun e => hS.notOwn h h1 h2 b e.symm hb)
theorem q1S {w : World} {aub : Nat} {cs : Array Value} {base e size k : Nat} {v : Value} {xs : List Value} (h : w.heap[aub]? = some (.cells cs 26 (0,0))) (ho : w.ownsRow base e size v k xs) (he : e ≠ 26) : v.ownBlock ≠ some aub := fun hb => by
 obtain ⟨cs',hc⟩ := q2d ho hb
 rw [h] at hc; injection hc with hc; injection hc with _ hc _; exact he hc.symm
end Go.Proofs.Ytcnkgokfjafgkaa
namespace Go.Proofs.Ytcnkgokfjafgkaa
open Go.RowKit Go.Maps Go.Sort
theorem q7p : (Try.prog.info? 79).map (fun i => (i.zero,i.size)) = some (some (.agg (Array.replicate 256 (.int .i64 0))),256) := by kernel_rfl
theorem qav : ((List.replicate 256 (0 : Int)).map (Value.int .i64)).toArray = Array.replicate 256 (.int .i64 0) := by
 rw [List.map_replicate,List.toArray_replicate]
theorem q7q (w : World) : (zeroValue 79).run Try.prog w = .ok (.agg ((List.replicate 256 (0 : Int)).map (Value.int .i64)).toArray) w := by rw [qav]; exact (zero_of_info q7p).1 w
theorem q6A (g n : Nat) (hn : n ≤ 256) (w : World) : (Instr.sliceAt 79 (.pointer (some ⟨g,0,none⟩)) none (some (.int .i64 (n : Int))) none).run Try.prog w = .ok (.slice (some ⟨g,0,none⟩) n 256) w := by
 simp [Instr.sliceAt,Instr.slice,run_underlying Try.underlying79,q6J qf,go_sem]
 intro h
 omega
theorem q8T {p : Int} {nA : Nat} {bs : List Bool} {N : List Gd} {gs : List Int} {c : Nat → Nat} {Q F : List Nat} (hM : MayG p nA N gs) (hP : MinP nA (2 ^ p.toNat) (rwA p N gs) bs c Q F) {i : Nat} (hi : i < F.length) :
  addG p.toNat (stoM p.toNat ((rowC c F (rwA p N gs)).take i)).2 (((rowC c F (rwA p N gs)).getD i []).map Int.ofNat) = (((adM p.toNat 0 (fnL ((rowC c F (rwA p N gs)).getD i [])) (stoM p.toNat ((rowC c F (rwA p N gs)).take i)).2).1,0),(stoM p.toNat ((rowC c F (rwA p N gs)).take (i + 1))).2) := by
 have hl := hP.lists
 have hKl := hP.rows.len
 have hiK : i < (rowC c F (rwA p N gs)).length := by omega
 have hm : (rowC c F (rwA p N gs)).getD i [] ∈ rowC c F (rwA p N gs) := by rw [qd hiK]; exact List.getElem_mem _
 have hA := q2B hM hl _ hP.from (i + 1) (by omega)
 have hfew := hA.len
 have h4 := hM.few
 have h256 := hM.s2
 have hFl := hP.len
 rw [q1i _ _ hiK] at hfew ⊢
 obtain ⟨h1,h2⟩ := hl _ hm
 have e : (((rowC c F (rwA p N gs)).getD i []).map Int.ofNat).map Int.toNat = (rowC c F (rwA p N gs)).getD i [] := by
  rw [List.map_map]
  exact List.map_id'' (fun x => by simp) _
 generalize (rowC c F (rwA p N gs)).getD i [] = l at *
 unfold addG stoF
 unfold stoF at hfew
 dsimp only at hfew ⊢
 rw [e,if_neg,if_neg (by omega)]
 rintro (h | h)
 ·exact h (by rw [List.length_map]; exact h1)
 ·refine h fun v hv => ?_
  obtain ⟨x,hx,rfl⟩ := List.mem_map.1 hv
  have := h2 x hx
  have e : Int.ofNat x = (x : Int) := rfl
  omega
theorem qaB {p : Int} {nA : Nat} {bs : List Bool} {N : List Gd} {gs : List Int} {c : Nat → Nat} {Q F : List Nat} (hM : MayG p nA N gs) (hP : MinP nA (2 ^ p.toNat) (rwA p N gs) bs c Q F) {i : Nat} (hi : i < F.length) :
  rwN (rwA p N gs) (F.getD i 0) (nuC c nA F) = ((rowC c F (rwA p N gs)).getD i []).map Int.ofNat := by
 rw [q2r hi,rwN,List.map_map]
 apply List.map_congr_left
 intro t ht
 obtain ⟨l,hl,rfl⟩ := (q20 hP.hR (hP.ltn hi)).1 ht
 have hq := hP.hQ.cl _ (hP.inQ hi) l hl
 have hn := hP.hQ.lt _ hq
 have h256 := hM.s2
 rw [q41 _ _ _ (by omega),if_pos hn,if_pos (hP.mem hq)]
 rfl
theorem MayG.ok64 {p : Int} {ns : Nat} {N : List Gd} {gs : List Int} (h : MayG p ns N gs) : ∀ z ∈ gs,I64 z := fun z hz => by
 obtain ⟨j,hj,rfl⟩ := List.getElem_of_mem hz
 have := q2u h (q := j) hj
 rwa [qd hj] at this
structure SmM (wb wr : World) (m0 g1 n : Nat) (Fs : Nat → Prop) (p : Int) (av gv : Value) (i : Nat) (bs : List Bool) (rs : List Int) (N : List Gd) : Prop where
 blk : wr.heap[m0]? = some (.cells #[.int .i64 p,av,gv,.slice none 0 0] 26 (0,0))
 ac : wr.ownsRow wb.heap.size 4 1 av i (bs.map Value.bool)
 gu : wr.ownsRow wb.heap.size 3 1 gv i (rs.map (Value.int .i64))
 st : StG wr Fs g1 n N
 fge : ∀ k,Fs k → wb.heap.size ≤ k
 mge : wb.heap.size ≤ m0
 bel : Below wb.heap.size wb wr
variable {wb wr : World} {m0 g1 n : Nat} {Fs : Nat → Prop} {p : Int} {av gv : Value} {i : Nat} {bs : List Bool} {rs : List Int} {N : List Gd}
theorem SmM.m0lt (h : SmM wb wr m0 g1 n Fs p av gv i bs rs N) : m0 < wr.heap.size := (Array.getElem?_eq_some_iff.1 h.blk).1
theorem SmM.m0F (h : SmM wb wr m0 g1 n Fs p av gv i bs rs N) : ¬ Fs m0 := fun hf => by
 rcases h.st.type hf h.blk with e | e
 ·exact absurd e (by decide)
 ·exact absurd e (by decide)
theorem SmM.up (h : SmM wb wr m0 g1 n Fs p av gv i bs rs N) {w' : World} (hb : Below wr.heap.size wr w') : SmM wb w' m0 g1 n Fs p av gv i bs rs N :=
 ⟨(hb.block _ h.m0lt).trans h.blk,qC h.ac hb,qC h.gu hb,h.st.up hb,h.fge,h.mge,h.bel.trans (hb.mono h.bel.size)⟩
theorem SmM.add (h : SmM wb wr m0 g1 n Fs p av gv i bs rs N) {w' : World} {F' : Nat → Prop} {N' : List Gd} (hf : Fr wr w' Fs F') (hs : StG w' F' g1 n N') : SmM wb w' m0 g1 n F' p av gv i bs rs N' :=
 ⟨(hf.keep _ h.m0lt h.m0F).trans h.blk,hf.own h.ac (h.st.notOwn h.ac (by decide) (by decide)),hf.own h.gu (h.st.notOwn h.gu (by decide) (by decide)),hs,hf.ge h.fge h.bel.size,h.mge,h.bel.trans (hf.below h.fge h.bel.size)⟩
theorem SmM.c1 (h : SmM wb wr m0 g1 n Fs p av gv i bs rs N) : wr.cell? ⟨m0,1,none⟩ = some av := q6 h.blk 1
theorem SmM.acc (h : SmM wb wr m0 g1 n Fs p av gv i bs rs N) {w1 w2 : World} {av' : Value} {z : Bool} (hb1 : Below wr.heap.size wr w1) (hg : w1.grownBy w2 av.ownBlock) (hown : w2.ownsRow wb.heap.size 4 1 av' (i + 1) ((bs ++ [z]).map Value.bool)) :
  w2.heap[m0]? = some (.cells #[.int .i64 p,av,gv,.slice none 0 0] 26 (0,0)) ∧
   (w2.setCell ⟨m0,1,none⟩ av').heap[m0]? = some (.cells #[.int .i64 p,av',gv,.slice none 0 0] 26 (0,0)) ∧
   (w2.setCell ⟨m0,1,none⟩ av').ownsRow wb.heap.size 4 1 av' (i + 1) ((bs ++ [z]).map Value.bool) ∧ (w2.setCell ⟨m0,1,none⟩ av').ownsRow wb.heap.size 3 1 gv i (rs.map (Value.int .i64)) ∧ StG (w2.setCell ⟨m0,1,none⟩ av') Fs g1 n N ∧ Below wb.heap.size wb (w2.setCell ⟨m0,1,none⟩ av') := by
 have h1 := h.up hb1
 have h5 := (hg.block m0 h1.m0lt (fun e => q1S h1.blk h1.ac (by decide) e.symm)).trans h1.blk
 have hg2 := q55 h1.gu hg (fun b hb' e => q54 h1.ac h1.gu (by decide) b e hb')
 have hs2 := h1.st.grown h1.ac (by decide) (by decide) hg
 have hset : (w2.setCell ⟨m0,1,none⟩ av').heap[m0]? = some (.cells #[.int .i64 p,av',gv,.slice none 0 0] 26 (0,0)) := by
  rw [heap_setCell_same w2 m0 1 _ _ _ h5]; rfl
 have hmF := h.m0F
 refine ⟨h5,hset,qb hown fun b hb' => Below.heap_setCell _ _ _ _ (fun e => q1S h5 hown (by decide) (by dsimp only at e; rw [← e]; exact hb')),qb hg2 fun b hb' => Below.heap_setCell _ _ _ _ (fun e => q1S h5 hg2 (by decide) (by dsimp only at e; rw [← e]; exact hb')),hs2.far fun b hb' => Below.heap_setCell _ _ _ _ (fun e => by dsimp only at e; exact hmF (e ▸ hb')),?_⟩
 exact (h1.bel.grown hg h1.bel.size (fun q e => qm h1.ac q e)).setCell (by dsimp only; exact h.mge) _
theorem SmM.gus {w1 w2 : World} {gv' : Value} {z : Int} (hblk : wr.heap[m0]? = some (.cells #[.int .i64 p,av,gv,.slice none 0 0] 26 (0,0))) (hac : wr.ownsRow wb.heap.size 4 1 av (i + 1) (bs.map Value.bool)) (hgu : wr.ownsRow wb.heap.size 3 1 gv i (rs.map (Value.int .i64))) (hst : StG wr Fs g1 n N) (hfge : ∀ k,Fs k → wb.heap.size ≤ k) (hmge : wb.heap.size ≤ m0) (hbel : Below wb.heap.size wb wr)
  (hb1 : Below wr.heap.size wr w1) (hg : w1.grownBy w2 gv.ownBlock) (hown : w2.ownsRow wb.heap.size 3 1 gv' (i + 1) ((rs ++ [z]).map (Value.int .i64))) :
  w2.heap[m0]? = some (.cells #[.int .i64 p,av,gv,.slice none 0 0] 26 (0,0)) ∧ SmM wb (w2.setCell ⟨m0,2,none⟩ gv') m0 g1 n Fs p av gv' (i + 1) bs (rs ++ [z]) N := by
 have k1 := (hb1.block _ (Array.getElem?_eq_some_iff.1 hblk).1).trans hblk
 have k2 := qC hac hb1
 have k3 := qC hgu hb1
 have k4 := hst.up hb1
 have kb := hbel.trans (hb1.mono hbel.size)
 have h5 := (hg.block m0 (Array.getElem?_eq_some_iff.1 k1).1 (fun e => q1S k1 k3 (by decide) e.symm)).trans k1
 have hb2 := q55 k2 hg (fun b hb' e => q54 k3 k2 (by decide) b e hb')
 have hs2 := k4.grown k3 (by decide) (by decide) hg
 have hset : (w2.setCell ⟨m0,2,none⟩ gv').heap[m0]? = some (.cells #[.int .i64 p,av,gv',.slice none 0 0] 26 (0,0)) := by
  rw [heap_setCell_same w2 m0 2 _ _ _ h5]; rfl
 have hmF : ¬ Fs m0 := fun hf => by
  rcases hst.type hf hblk with e | e
  ·exact absurd e (by decide)
  ·exact absurd e (by decide)
 refine ⟨h5,hset,qb hb2 fun b hb' => Below.heap_setCell _ _ _ _ (fun e => q1S h5 hb2 (by decide) (by dsimp only at e; rw [← e]; exact hb')),qb hown fun b hb' => Below.heap_setCell _ _ _ _ (fun e => q1S h5 hown (by decide) (by dsimp only at e; rw [← e]; exact hb')),hs2.far fun b hb' => Below.heap_setCell _ _ _ _ (fun e => by dsimp only at e; exact hmF (e ▸ hb')),hfge,hmge,?_⟩
 exact (kb.grown hg kb.size (fun q e => qm k3 q e)).setCell (by dsimp only; exact hmge) _
theorem q2Y {w : World} {ops : Array Oper} {o : Oper} {a : Act} {K : Act → World → Prop} {Q : Exit → Act → World → Prop} {E : Prop} (hw : Region.wanted o (yielded ops a.tmps) = true) (s x : Operand)
  (ho : o.op = .call { callee := .builtin .append,args := #[s,x],argTypes := #[22,22] }) (base : Nat)
  (v : Value) (n : Nat) (bs : List Bool) (z : Bool) (g' : Nat) (hs : a.eval s = v) (hx : a.eval x = .slice (some ⟨g',0,none⟩) 1 1) (hown : w.ownsRow base 4 1 v n (bs.map Value.bool)) (hB : w.heap[g']? = some (.cells #[.bool z] 4 (0,0))) (hn : n ≤ 1000000) (hbase : base ≤ w.heap.size)
  (h : ∀ v' w',w'.ownsRow base 4 1 v' (n + 1) ((bs ++ [z]).map Value.bool) → w.grownBy w' v.ownBlock → K (a.put o.dst v') w') :
  if Region.wanted o (yielded ops a.tmps) = true then Oper.wp Try.prog o a w K Q else E := by
 rw [if_pos hw]
 have hI : (Try.prog.info? 4).map (fun i => (i.zero,i.size,i.bytes)) = some (some (.bool false),1,1) := by kernel_rfl
 obtain ⟨i,hi,hz0,hz1,hz2⟩ := info_parts hI
 obtain ⟨v',w',hr,h2,h3,_,_⟩ := run_append_own_at (P := Try.prog) w base 22 o.type 4 i _ 1 1 Try.underlying22 hi hz0 hz1 hz2 rfl (by decide) v n _ hown ⟨g',0,none⟩ 1 1 [.bool z] rfl (fun j u hj => by
  rw [q9,Nat.zero_add,q6 hB]
  match j with
  | 0 => simpa using hj
  | j + 1 => simp at hj) (fun u hu => by simp at hu; subst hu; rfl) (by unfold maxLen; omega) (by omega) hbase
 unfold Oper.wp execOp
 simp only [ho,resolve,invoke,builtin,Sem.run_bind,Sem.run_pure,Result.andThen_ok,List.map_toArray,List.map_cons,List.map_nil,hs,hx,hr]
 exact h v' w' (by rw [List.map_append]; exact h2) h3
end Go.Proofs.Ytcnkgokfjafgkaa
