/- Texts of the proof, put together: what it uses. -/
import Derived.Deep.RegionLawGrows
import Derived.BigQuiet
import Derived.Test.YtcnkgokfjafgkaaX02
import Derived.Test.YtcnkgokfjafgkaaX05
import Derived.Test.YtcnkgokfjafgkaaX06
import Derived.Test.YtcnkgokfjafgkaaX07
import Derived.Test.YtcnkgokfjafgkaaX08
import Derived.Test.YtcnkgokfjafgkaaX12
import Derived.Test.YtcnkgokfjafgkaaX15
import Derived.Test.YtcnkgokfjafgkaaX16
set_option maxRecDepth 100000
set_option maxHeartbeats 16000000
namespace Go.Proofs.Ytcnkgokfjafgkaa
open Go.RowKit Go.Maps Go.Sort
def nuC (c : Nat → Nat) (n : Nat) (F : List Nat) : List Int := (List.range 256).map fun i => if i < n then (if c i ∈ F.map c then ((nmP c F i : Nat) : Int) else -1) else 0
theorem q1o (c : Nat → Nat) (n : Nat) (F : List Nat) : (nuC c n F).length = 256 := by rw [nuC,List.length_map,List.length_range]
theorem q3O (c : Nat → Nat) (n : Nat) (F : List Nat) {i : Nat} (h : i < 256) : (nuC c n F).getD i 0 = if i < n then (if c i ∈ F.map c then ((nmP c F i : Nat) : Int) else -1) else 0 := by
 rw [qd (by rw [q1o]; exact h)]; simp [nuC]
def noC (k : Nat) : List Int := (List.range 256).map fun i => if i < k then -1 else 0
theorem q11 (k : Nat) : (noC k).length = 256 := by rw [noC,List.length_map,List.length_range]
theorem q5Q (k : Nat) {i : Nat} (h : i < 256) : (noC k).getD i 0 = if i < k then -1 else 0 := by
 rw [qd (by rw [q11]; exact h)]; simp [noC]
theorem q8R : noC 0 = List.replicate 256 0 := by
 apply List.ext_getElem (by rw [q11,List.length_replicate])
 intro i h1 h2
 rw [q11] at h1
 rw [← qd (by rw [q11]; exact h1) 0,q5Q 0 h1,List.getElem_replicate,if_neg (by omega)]
theorem q8Q {k : Nat} : (noC k).set k (-1) = noC (k + 1) := by
 apply List.ext_getElem (by rw [List.length_set,q11,q11])
 intro i h1 h2
 have h3 := h2
 rw [q11] at h3
 rw [← qd h2 0,q5Q _ h3,List.getElem_set]
 replace h2 := h3
 by_cases e : k = i
 ·subst e; rw [if_pos rfl,if_pos (by omega)]
 ·rw [if_neg e,← qd (by rw [q11]; exact h2) 0,q5Q _ h2]
  by_cases h3 : i < k
  ·rw [if_pos h3,if_pos (by omega)]
  ·rw [if_neg h3,if_neg (by omega)]
theorem q9W (c : Nat → Nat) (n : Nat) : noC n = nuC c n [] := by simp [noC,nuC]
theorem qac {C : List Nat} {c : Nat → Nat} {n q : Nat} {F : List Nat} (hc : c = fun s => C.getD s 0) (hq : c q ∉ F.map c) : sprC C (C.getD q 0) ((F.length : Nat) : Int) n (nuC c n F) = nuC c n (F ++ [q]) := by
 apply List.ext_getElem (by rw [qF,q1o,q1o])
 intro i h1 h2
 rw [q1o] at h2
 have hl : i < (nuC c n F).length := by rw [q1o]; exact h2
 rw [← qd h1 0,← qd (by rw [q1o]; exact h2) 0,q1D _ _ _ _ _ hl,q3O _ _ _ h2,q3O _ _ _ h2]
 have ei : C.getD i 0 = c i := by rw [hc]
 have eq : C.getD q 0 = c q := by rw [hc]
 rw [ei,eq]
 by_cases hn : i < n
 ·rw [if_pos hn,if_pos hn]
  have hmem : c i ∈ (F ++ [q]).map c ↔ c i ∈ F.map c ∨ c i = c q := by simp
  by_cases e : c i = c q
  ·have hni : c i ∉ F.map c := by rw [e]; exact hq
   rw [if_pos ⟨hn,e⟩,if_pos (hmem.2 (.inr e)),nmP,List.map_append,List.idxOf_append,if_neg hni]
   simp [e]
  ·rw [if_neg (fun h => e h.2)]
   by_cases hm : c i ∈ F.map c
   ·rw [if_pos hm,if_pos (hmem.2 (.inl hm)),q6L (List.prefix_append F [q]) hm]
   ·rw [if_neg hm,if_neg (fun h => (hmem.1 h).elim hm e)]
 ·rw [if_neg hn,if_neg hn,if_neg (fun h => hn h.1)]
theorem q4M {g : Nat} {w0 w w' : World} (h : OnG g w w') (hg : w0.heap.size ≤ g) (hb : Below w0.heap.size w0 w) : Below w0.heap.size w0 w' :=
 hb.trans (h.below (fun k hk => by omega) hb.size)
theorem q7W {g : Nat} {w w1 w' : World} (h : OnG g w w1) (hb : Below w1.heap.size w1 w') : OnG g w w' := h.trans (Fr.ofBelow hb)
theorem q8T {g : Nat} {w w5 w7 : World} {ob : Option Nat} (h : OnG g w w5) (o : Obj) (hg : (w5.alloc o).grownBy w7 ob) (hob : ∀ k,ob = some k → w.heap.size ≤ k) : OnG g w w7 := by
 have hb := q5 w5 o
 refine ⟨hg.os.trans (hb.os.trans h.os),hg.tape.trans (hb.tape.trans h.tape),hg.output.trans (hb.output.trans h.output),Nat.le_trans h.size (Nat.le_trans hb.size hg.size),fun k hk hf => ?_,h.foot⟩
 have h5 := Nat.lt_of_lt_of_le hk h.size
 rw [hg.block k (Nat.lt_of_lt_of_le h5 hb.size) (fun e => by have := hob k e.symm; omega),hb.block k h5]
 exact h.keep k hk hf
theorem RowI.grown {w w' : World} {e b : Nat} {cur : List Int} {ob : Option Nat} (h : RowI w e b cur) (hg : w.grownBy w' ob) (hne : ob ≠ some b) : RowI w' e b cur := (hg.block b h.lt (fun e => hne e.symm)).trans h
structure RnM (w : World) (g gO : Nat) (C : List Nat) (aM : Option Addr) (cM : Nat) (Q : List Nat) (base : Nat) (c : Nat → Nat) (n : Nat) (F : List Nat) (v : Value) (wr : World) : Prop where
 on : OnG g w wr
 num : NuB wr g (nuC c n F)
 of : RowI wr 3 gO (C.map Int.ofNat)
 met : ZSl wr aM Q.length cM (Q.map Int.ofNat)
 fst : wr.ownsRow base 3 1 v F.length ((F.map Int.ofNat).map (Value.int .i64))
 bs : base ≤ wr.heap.size
structure RnK (w : World) (g gO : Nat) (aM : Option Addr) (L base : Nat) : Prop where
 g1 : g < base
 g2 : gO ≠ g
 g3 : gO < base
 wb : w.heap.size ≤ base
 m1 : ∀ k,k < L → (adOf aM k).block ≠ g
 m2 : ∀ k,k < L → (adOf aM k).block < base
theorem RnM.push {w : World} {g gO : Nat} {C : List Nat} {aM : Option Addr} {cM : Nat} {Q : List Nat} {base : Nat} {c : Nat → Nat} {n : Nat} {F : List Nat} {v : Value} {wr w5 w7 : World} (h : RnM w g gO C aM cM Q base c n F v wr) (hK : RnK w g gO aM Q.length base) (h5 : OnG g wr w5) {q : Nat} (hN : NuB w5 g (nuC c n (F ++ [q]))) {o : Obj} {v7 : Value}
  (hq : w7.ownsRow base 3 1 v7 (F.length + 1) ((F.map Int.ofNat ++ [(q : Int)]).map (Value.int .i64))) (hg : (w5.alloc o).grownBy w7 v.ownBlock) : RnM w g gO C aM cM Q base c n (F ++ [q]) v7 w7 := by
 have hob := qp h.fst
 have hb := q5 w5 o
 have keep : ∀ b,b < wr.heap.size → b ≠ g → b < base → w7.heap[b]? = wr.heap[b]? := fun b h1 h2 h3 => by
  have h6 := Nat.lt_of_lt_of_le h1 h5.size
  rw [hg.block b (Nat.lt_of_lt_of_le h6 hb.size) (fun e => by have := hob b e.symm; omega),hb.block b h6]
  exact h5.keep b h1 h2
 refine ⟨q8T (h.on.trans h5) o hg (fun k e => by have := hob k e; have := hK.wb; omega),⟨(hN.row.up hb).grown hg (fun e => by have := hob g e; have := hK.g1; omega),hN.len⟩,(keep gO h.of.lt hK.g2 hK.g3).trans h.of,?_,by rw [List.length_append,List.map_append]; exact hq,Nat.le_trans h.bs (Nat.le_trans h5.size (Nat.le_trans hb.size hg.size))⟩
 exact ⟨h.met.hlen,h.met.hcap,h.met.bd,h.met.idx,fun k hk => by
  have h1 := h.met.cell k hk
  unfold World.cell? at h1 ⊢
  rw [keep _ (h.met.blk k hk) (hK.m1 k hk) (hK.m2 k hk)]; exact h1,fun k hk => Nat.lt_of_lt_of_le (h.met.blk k hk) (Nat.le_trans h5.size (Nat.le_trans hb.size hg.size)),h.met.nn⟩
def RnuR (p : Int) (nA : Nat) (bs : List Bool) (N : List Gd) (gs : List Int) (g : Nat) (w : World) (e : Ending) (w' : World) : Prop :=
 OnG g w w' ∧ ∃ k c F a cap,manyP (rwA p N gs) bs nA k = manyP (rwA p N gs) bs nA (k + 1) ∧ c = (fun s => (clsP (rwA p N gs) bs nA k).getD s 0) ∧ F = ddP c (rchP (rwA p N gs) nA 0 [0]) ∧ e = .returned (.slice a F.length cap) ∧ ZSl w' a F.length cap (F.map Int.ofNat) ∧ NuB w' g (nuC c nA F)
theorem q56 (p : Int) (aA : Option Addr) (nA cA : Nat) (aG : Option Addr) (nG cG : Nat) (aN : Option Addr) (nN cN : Nat) (bs : List Bool) (N : List Gd) (gs : List Int) (g : Nat) (w0 w : World) (hb : Below w0.heap.size w0 w) (hg : w0.heap.size ≤ g) (hZ : NuB w g (List.replicate 256 0)) (hM : MayG p nA N gs) (hB : BoSl w0 aA nA cA bs) (hN : NdSl w0 aN nN cN N) (hG : ZSl w0 aG nG cG gs) (hok : ∀ z ∈ gs,I64 z) :
  Calls Try.prog 50 #[.agg #[.int .i64 p,.slice aA nA cA,.slice aG nG cG,.slice aN nN cN],.slice (some ⟨g,0,none⟩) nA 256] w (RnuR p nA bs N gs g w) := by
 obtain ⟨Z,eZ⟩ : ∃ Z,Z = RnuR p nA bs N gs g w := ⟨_,rfl⟩
 have HZ : Hid (∀ e w',RnuR p nA bs N gs g w e w' → Z e w') := fun e w' h => by rw [eZ]; exact h
 rw [← eZ]
 have h256 := hM.s2
 have hgw := hZ.lt
 have hb1 := q5 w (.cells #[.int .i64 p,.slice aA nA cA,.slice aG nG cG,.slice aN nN cN] 26 (0,0))
 have HB0 : Hid _ := hb
 have HG0 : Hid _ := hg
 have HON : Hid (OnG g w (w.alloc (.cells #[.int .i64 p,.slice aA nA cA,.slice aG nG cG,.slice aN nN cN] 26 (0,0)))) := Fr.ofBelow hb1
 have HAU : Hid _ := (MapKept.heap_alloc w (.cells #[.int .i64 p,.slice aA nA cA,.slice aG nG cG,.slice aN nN cN] 26 (0,0))).1
 have HNU : Hid (NuB (w.alloc (.cells #[.int .i64 p,.slice aA nA cA,.slice aG nG cG,.slice aN nN cN] 26 (0,0))) g (noC 0)) := by rw [q8R]; exact hZ.up hb1
 have HCL : Hid (∀ w',Below w0.heap.size w0 w' → Calls Try.prog 67 #[.agg #[.int .i64 p,.slice aA nA cA,.slice aG nG cG,.slice aN nN cN]] w' (CaR p nA bs N gs w')) := fun w' h => q3u p aA nA cA aG nG cG aN nN cN bs N gs w' (hB.up h) (hN.up h) (hG.up h) hok
 have HRE : Hid (∀ w',Below w0.heap.size w0 w' → Calls Try.prog 68 #[.agg #[.int .i64 p,.slice aA nA cA,.slice aG nG cG,.slice aN nN cN]] w' (RchA p nA N gs w')) := fun w' h => q3v p aA nA cA aG nG cG aN nN cN bs N gs w' (hB.up h) (hN.up h) (hG.up h) hok
 have HM : Hid _ := hM
 generalize hw1 : w.alloc (.cells #[.int .i64 p,.slice aA nA cA,.slice aG nG cG,.slice aN nN cN] 26 (0,0)) = w1 at *
 have HW1 : Hid _ := hw1
 clear hw1
 go_enter Try.func50,Try.ntmps50
 go_wp2
 rw [HW1.out]
 go_loopw [15] (fun i wr => ∃ k : Nat,k ≤ nA ∧ i = .int .i64 (k : Int) ∧ Hid (NuB wr g (noC k)) ∧ Hid (OnG g w1 wr)) (fun i _ => nA - (intOf i).toNat)
 case atStart => exact ⟨0,Nat.zero_le _,rfl,HNU,q3q _ _⟩
 case round =>
  obtain ⟨k,hk,rfl,HN,HW⟩ := hrel
  by_cases hlt : k < nA
  ·have hi2 := fun w' => q2F g nA k hlt w'
   have hc2 := HN.out.row.cell (i := k) (by rw [q11]; omega)
   have hf2 := HN.out.row.frozen k
   have HN2 : Hid (NuB (wr.setCell ⟨g,k,none⟩ (.int .i64 (-1))) g (noC (k + 1))) := by rw [← q8Q]; exact HN.out.set k (-1)
   have HW2 : Hid _ := q1C HW.out k (.int .i64 (-1))
   generalize (noC k).getD k 0 = z at *
   go_wp2
   go_roundw
   case rel => exact ⟨k + 1,by omega,by go_num,HN2,HW2⟩
   case measure => simp [intOf]; omega
  ·obtain rfl : k = nA := by omega
   have hon := HON.out.trans HW.out
   have hbw := q4M hon HG0.out HB0.out
   have hs1 : w1.heap.size = w.heap.size + 1 := by rw [← HW1.out]; simp
   have hau := (HW.out.keep w.heap.size (by omega) (by omega)).trans HAU.out
   have HAU2 : Hid _ := hau
   obtain ⟨c0,c1,c2,c3⟩ : AuB wr w.heap.size p aA k cA aG nG cG aN nN cN := ⟨q6 hau 0,q6 hau 1,q6 hau 2,q6 hau 3⟩
   have jc := HCL.out wr hbw
   have HON2 : Hid _ := hon
   have HBW : Hid _ := hbw
   have HN3 : Hid _ := HN.out
   go_wp2_with fail
   refine jc.mono ?_
   rintro e w3 ⟨hb3,⟨hM,_⟩ | ⟨_,j,gO,hgO,hmj,rfl,hrow⟩⟩
   ·exact absurd HM.out hM
   have hbw3 := HBW.out.trans (hb3.mono HBW.out.size)
   have hau3 := (hb3.block w.heap.size (Array.getElem?_eq_some_iff.1 HAU2.out).1).trans HAU2.out
   obtain ⟨d0,d1,d2,d3⟩ : AuB w3 w.heap.size p aA k cA aG nG cG aN nN cN := ⟨q6 hau3 0,q6 hau3 1,q6 hau3 2,q6 hau3 3⟩
   have jr := HRE.out w3 hbw3
   have HON3 : Hid _ := q7W HON2.out hb3
   have HN4 : Hid _ := HN3.out.up hb3
   have HOF : Hid _ := hrow
   have HMJ : Hid _ := hmj
   have HGO : Hid (gO < w3.heap.size ∧ gO ≠ g) := ⟨hrow.lt,by have := HN3.out.lt; omega⟩
   have HSZ : Hid _ := HN4.out.lt
   go_wp2_with fail
   refine jr.mono ?_
   rintro e w4 ⟨hb4,⟨hM,_⟩ | ⟨_,aM,cM,rfl,hmet,hmn⟩⟩
   ·exact absurd HM.out hM
   obtain ⟨C,hC⟩ : ∃ C,C = clsP (rwA p N gs) bs k j := ⟨_,rfl⟩
   obtain ⟨c,hc⟩ : ∃ c : Nat → Nat,c = fun s => C.getD s 0 := ⟨_,rfl⟩
   have hCl : C.length = k := by rw [hC,q5w]
   have HZ2 : Hid (∀ F a cap w',OnG g w w' → F = ddP c (rchP (rwA p N gs) k 0 [0]) → ZSl w' a F.length cap (F.map Int.ofNat) → NuB w' g (nuC c k F) → Z (.returned (.slice a F.length cap)) w') := fun F a cap w' q1 q2 q3 q4 => HZ.out _ _ ⟨q1,j,c,F,a,cap,HMJ.out,by rw [hc,hC],q2,rfl,q3,q4⟩
   have hQn := (q2Y (HM.out.rows (2 ^ p.toNat)) HM.out.s1).lt
   have hQd := (q2Y (HM.out.rows (2 ^ p.toNat)) HM.out.s1).nd
   have HCLT : Hid (∀ s,s < k → C.getD s 0 < 256) := fun s hs => by rw [hC]; exact Nat.lt_of_lt_of_le (q6q _ _ _ _ hs) h256
   generalize rchP (rwA p N gs) k 0 [0] = Q at *
   rw [← hC] at HOF
   have hQl := qn hQd hQn
   have HQn : Hid _ := hQn
   have HK : Hid (RnK w g gO aM Q.length w4.heap.size) := ⟨by have := HSZ.out; have := hb4.size; omega,HGO.out.2,Nat.lt_of_lt_of_le HGO.out.1 hb4.size,Nat.le_trans HON3.out.size hb4.size,fun k hk => by have := hmn k hk; have := HSZ.out; omega,fun k hk => hmet.blk k hk⟩
   have HR0 : Hid (RnM w g gO C aM cM Q w4.heap.size c k (ddP c (Q.take 0)) (.slice none 0 0) w4) := ⟨q7W HON3.out hb4,by
    have := HN4.out.up hb4
    rw [q9W c] at this
    exact this,RowI.up (e := 3) HOF.out hb4,hmet,⟨rfl,.inl ⟨rfl,rfl⟩⟩,Nat.le_refl _⟩
   have HCC : Hid _ := hc
   have HCL2 : Hid _ := hCl
   generalize w4.heap.size = base at *
   go_wp2
   go_loopw [10,34] (fun v i wr => ∃ (m : Nat) (F : List Nat),m ≤ Q.length ∧ i = .int .i64 (m : Int) ∧ Hid (F = ddP c (Q.take m)) ∧ Hid (RnM w g gO C aM cM Q base c k F v wr)) (fun _ i _ => Q.length - (intOf i).toNat)
   case atStart => exact ⟨0,_,Nat.zero_le _,rfl,rfl,HR0⟩
   case round =>
    obtain ⟨m,F,hm,rfl,HF,HR⟩ := hrel
    obtain ⟨va,vc,rfl,hU,hUb,_⟩ := q12 HR.out.fst Try.underlying23 qf
    by_cases hmQ : m < Q.length
    ·have hix := fun w' => HR.out.met.idx Q.length m w' hmQ (Nat.le_refl _)
     have hce := HR.out.met.cell m hmQ
     rw [qC hmQ] at hce
     have hqn := HQn.out _ (q1x hmQ)
     have HFN : Hid (ddP c (Q.take (m + 1)) = putF c F (Q.getD m 0)) := by show _ = _; rw [qD hmQ,q2g,← HF.out]; rfl
     generalize Q.getD m 0 = q at *
     generalize adOf aM m = ad at *
     obtain ⟨ag,ao,az⟩ := ad
     have hi2 := fun w' => q2F g k q hqn w'
     have hc2 := HR.out.num.row.cell (i := q) (by rw [q1o]; omega)
     rw [q3O _ _ _ (by omega),if_pos hqn] at hc2
     have dq0 : decide ((q : Int) < 0) = false := by simp
     have dq1 : decide (k ≤ q) = false := by simp; exact hqn
     by_cases hin : c q ∈ F.map c
     ·rw [if_pos hin] at hc2
      have HF2 : Hid (F = ddP c (Q.take (m + 1))) := by show _ = _; rw [HFN.out,putF,if_pos hin]
      have dn : (((nmP c F q : Nat) : Int) == -1) = false := by simp
      generalize ((nmP c F q : Nat) : Int) = zz at *
      go_wp2
      go_roundw
      case rel => exact ⟨m + 1,F,by omega,by go_num,HF2,HR⟩
      case measure => simp [intOf]; omega
     ·rw [if_neg hin] at hc2
      have HF2 : Hid (F ++ [q] = ddP c (Q.take (m + 1))) := by show _ = _; rw [HFN.out,putF,if_neg hin]
      have hFl : F.length ≤ 256 := by
       have h1 : (F.map c).Nodup := by rw [HF.out]; exact q26 c _
       have := qn (n := 256) h1 (fun x hx => by
        obtain ⟨s,hs,rfl⟩ := List.mem_map.1 hx
        rw [HF.out] at hs
        have hs2 := List.mem_of_mem_take (q6u hs)
        have := HCLT.out s (HQn.out s hs2)
        rw [HCC.out]; exact this)
       simpa using this
      have hgk := HR.out.of
      have hzs : ZSl wr (some ⟨gO,0,none⟩) k k (C.map Int.ofNat) := by
       have hl : (C.map Int.ofNat).length = k := by rw [List.length_map]; exact HCL2.out
       have := RowI.zsl (n := k) hgk Try.underlying23 qf (by omega) (by unfold maxLen; omega)
       rw [List.take_of_length_le (by omega),hl] at this
       exact this
      have hix3 := fun w' => hzs.idx k q w' hqn (Nat.le_refl _)
      have hce3 := hzs.cell q hqn
      rw [qC (by rw [HCL2.out]; exact hqn)] at hce3
      have had : adOf (some (⟨gO,0,none⟩ : Addr)) q = ⟨gO,q,none⟩ := by simp [adOf,q9]
      rw [had] at hix3 hce3
      have js := q4f g k (some ⟨gO,0,none⟩) k C (C.getD q 0) F.length (nuC c k F) wr HR.out.num hzs (fun i hi => by
       have : (adOf (some (⟨gO,0,none⟩ : Addr)) i).block = gO := by simp [adOf,q9]
       rw [this]; exact HK.out.g2) h256
      rw [qac HCC.out hin] at js
      have hob := qp HR.out.fst
      have HSA : Hid (∀ w5,OnG g wr w5 → (w5.alloc (.cells #[.int .i64 (q : Int)] 3)).ownsRow base 3 1 (.slice va F.length vc) F.length ((F.map Int.ofNat).map (Value.int .i64)) ∧ (w5.alloc (.cells #[.int .i64 (q : Int)] 3)).cell? ⟨w5.heap.size,0,none⟩ = some (.int .i64 (q : Int)) ∧ base ≤ (w5.alloc (.cells #[.int .i64 (q : Int)] 3)).heap.size) := fun w5 h5 =>
       ⟨World.ownsRow.alloc (h5.own HR.out.fst (fun kk e he => by have := hob kk e; have := HK.out.g1; omega)) _,q6 (MapKept.heap_alloc w5 _).1 0,by have := HR.out.bs; have := h5.size; simp; omega⟩
      have HPU : Hid (∀ w5 w7 v7,OnG g wr w5 → NuB w5 g (nuC c k (F ++ [q])) → w7.ownsRow base 3 1 v7 (F.length + 1) ((F.map Int.ofNat ++ [(q : Int)]).map (Value.int .i64)) → (w5.alloc (.cells #[.int .i64 (q : Int)] 3)).grownBy w7 (Value.slice va F.length vc).ownBlock → RnM w g gO C aM cM Q base c k (F ++ [q]) v7 w7) := fun w5 w7 v7 q1 q2 q3 q4 => HR.out.push HK.out q1 q2 q3 q4
      have dn : ((-1 : Int) == -1) = true := rfl
      have hF2 : F.length + 1 ≤ 2000000 := by omega
      generalize hcq : C.getD q 0 = cq at *
      go_wp2_with fail
      refine js.mono ?_
      rintro e w5 ⟨rfl,hN5,hO5⟩
      obtain ⟨s1,s2,s3⟩ := HSA.out w5 hO5
      have HN5 : Hid _ := hN5
      have HO5 : Hid _ := hO5
      have HS1 : Hid _ := s1
      go_wp2_with (at_builtin; refine qQ rfl _ _ rfl base _ F.length (F.map Int.ofNat) rfl HS1.out w5.heap.size (q : Int) rfl s2 hF2 s3 ?_)
      intro v7 w7 hq7 hg7
      have HR7 : Hid _ := HPU.out w5 w7 v7 HO5.out HN5.out (by rw [List.map_append,List.map_map]; exact hq7) hg7
      go_wp2
      go_roundw
      case rel => exact ⟨m + 1,_,by omega,by go_num,HF2,HR7⟩
      case measure => simp [intOf]; omega
    ·obtain rfl : m = Q.length := by omega
     have HE : Hid _ := HZ2.out F va vc wr HR.out.on (by rw [HF.out,List.take_length]) hU HR.out.num
     go_wp2
     exact HE.out
end Go.Proofs.Ytcnkgokfjafgkaa
namespace Go.Proofs.Ytcnkgokfjafgkaa
open Go.RowKit Go.Maps
theorem StG.type {w : World} {F : Nat → Prop} {g n : Nat} {N : List Gd} (h : StG w F g n N) {b : Nat} (hb : F b) {cs : Array Value} {T : TypeId} (hc : w.heap[b]? = some (.cells cs T (0,0))) : T = 111 ∨ T = 45 := by
 obtain ⟨v,mb,h1,h2,h3,h4⟩ := h.ex
 rcases (h4 b).1 hb with rfl | rfl | e
 ·unfold stO at h1; rw [h1] at hc; injection hc with hc; injection hc with _ hc _; exact .inl hc.symm
 ·obtain ⟨es,c,hm⟩ := h3.isMap
  rw [hm] at hc; cases hc
 ·rcases h2.2 with ⟨rfl,_⟩ | ⟨g',cap,cur,rfl,_,hg,_⟩
  ·cases e
  ·injection e with e
   dsimp only at e
   subst e
   rw [hg] at hc; injection hc with hc; injection hc with _ hc _; exact .inr hc.symm
theorem q29 {w : World} {base e size n b : Nat} {v : Value} {xs : List Value} (h : w.ownsRow base e size v n xs) (hb : v.ownBlock = some b) : ∃ cs,w.heap[b]? = some (.cells cs e (0,0)) := by
 rcases h.2 with ⟨rfl,_⟩ | ⟨g',cap,cur,rfl,_,hg,_⟩
 ·cases hb
 ·injection hb with hb
  dsimp only at hb
  subst hb
  exact ⟨cur,hg⟩
theorem StG.notOwn {w : World} {F : Nat → Prop} {g n : Nat} {N : List Gd} (hS : StG w F g n N) {base e size k : Nat} {v : Value} {xs : List Value} (h : w.ownsRow base e size v k xs) (h1 : e ≠ 111) (h2 : e ≠ 45) : ∀ b,v.ownBlock = some b → ¬ F b := fun b hb hf => by
 obtain ⟨cs,hc⟩ := q29 h hb
 rcases hS.type hf hc with e | e
 ·exact h1 e
 ·exact h2 e
theorem q4N {w : World} {base e size k base' e' size' k' : Nat} {v v' : Value} {xs xs' : List Value} (h : w.ownsRow base e size v k xs) (h' : w.ownsRow base' e' size' v' k' xs') (he : e ≠ e') : ∀ b,v.ownBlock = some b → v'.ownBlock ≠ some b := fun b hb hb' => by
 obtain ⟨cs,hc⟩ := q29 h hb
 obtain ⟨cs',hc'⟩ := q29 h' hb'
 rw [hc] at hc'
 injection hc' with hc'
 injection hc' with _ hc' _
 exact he hc'
theorem q4O {w w' : World} {base e size k : Nat} {v : Value} {xs : List Value} {row : Option Nat} (h : w.ownsRow base e size v k xs) (hg : w.grownBy w' row) (hn : ∀ b,v.ownBlock = some b → row ≠ some b) : w'.ownsRow base e size v k xs :=
 qb h fun b hb => hg.block b (h.lt b hb).2 (fun e => hn b hb e.symm)
theorem StG.grown {w w' : World} {F : Nat → Prop} {g n : Nat} {N : List Gd} (hS : StG w F g n N) {base e size k : Nat} {v : Value} {xs : List Value} (h : w.ownsRow base e size v k xs) (h1 : e ≠ 111) (h2 : e ≠ 45) (hg : w.grownBy w' v.ownBlock) : StG w' F g n N :=
 hS.far fun b hb => hg.block b (hS.lt b hb) (fun e => hS.notOwn h h1 h2 b e.symm hb)
theorem q1O {w : World} {aub : Nat} {cs : Array Value} {base e size k : Nat} {v : Value} {xs : List Value} (h : w.heap[aub]? = some (.cells cs 26 (0,0))) (ho : w.ownsRow base e size v k xs) (he : e ≠ 26) : v.ownBlock ≠ some aub := fun hb => by
 obtain ⟨cs',hc⟩ := q29 ho hb
 rw [h] at hc; injection hc with hc; injection hc with _ hc _; exact he hc.symm
end Go.Proofs.Ytcnkgokfjafgkaa
namespace Go.Proofs.Ytcnkgokfjafgkaa
open Go.RowKit Go.Maps Go.Sort
theorem q74 : (Try.prog.info? 79).map (fun i => (i.zero,i.size)) = some (some (.agg (Array.replicate 256 (.int .i64 0))),256) := by kernel_rfl
theorem qa2 : ((List.replicate 256 (0 : Int)).map (Value.int .i64)).toArray = Array.replicate 256 (.int .i64 0) := by
 rw [List.map_replicate,List.toArray_replicate]
theorem q75 (w : World) : (zeroValue 79).run Try.prog w = .ok (.agg ((List.replicate 256 (0 : Int)).map (Value.int .i64)).toArray) w := by rw [qa2]; exact (zero_of_info q74).1 w
theorem q6i (g n : Nat) (hn : n ≤ 256) (w : World) : (Instr.sliceAt 79 (.pointer (some ⟨g,0,none⟩)) none (some (.int .i64 (n : Int))) none).run Try.prog w = .ok (.slice (some ⟨g,0,none⟩) n 256) w := by
 simp [Instr.sliceAt,Instr.slice,run_underlying Try.underlying79,q6o qf,go_sem]
 intro h
 omega
theorem q8u {p : Int} {nA : Nat} {bs : List Bool} {N : List Gd} {gs : List Int} {c : Nat → Nat} {Q F : List Nat} (hM : MayG p nA N gs) (hP : MinP nA (2 ^ p.toNat) (rwA p N gs) bs c Q F) {i : Nat} (hi : i < F.length) :
  addG p.toNat (stoM p.toNat ((rowC c F (rwA p N gs)).take i)).2 (((rowC c F (rwA p N gs)).getD i []).map Int.ofNat) = (((adM p.toNat 0 (fnL ((rowC c F (rwA p N gs)).getD i [])) (stoM p.toNat ((rowC c F (rwA p N gs)).take i)).2).1,0),(stoM p.toNat ((rowC c F (rwA p N gs)).take (i + 1))).2) := by
 have hl := hP.lists
 have hKl := hP.rows.len
 have hiK : i < (rowC c F (rwA p N gs)).length := by omega
 have hm : (rowC c F (rwA p N gs)).getD i [] ∈ rowC c F (rwA p N gs) := by rw [qd hiK]; exact List.getElem_mem _
 have hA := q2v hM hl _ hP.from (i + 1) (by omega)
 have hfew := hA.len
 have h4 := hM.few
 have h256 := hM.s2
 have hFl := hP.len
 rw [q1e _ _ hiK] at hfew ⊢
 obtain ⟨h1,h2⟩ := hl _ hm
 have e : (((rowC c F (rwA p N gs)).getD i []).map Int.ofNat).map Int.toNat = (rowC c F (rwA p N gs)).getD i [] := by
  rw [List.map_map]
  exact List.map_id'' (fun x => by simp) _
 generalize (rowC c F (rwA p N gs)).getD i [] = l at *
 unfold addG stoF
 unfold stoF at hfew
 dsimp only at hfew ⊢
 rw [e,if_neg,if_neg (by omega)]
 rintro (h | h)
 ·exact h (by rw [List.length_map]; exact h1)
 ·refine h fun v hv => ?_
  obtain ⟨x,hx,rfl⟩ := List.mem_map.1 hv
  have := h2 x hx
  have e : Int.ofNat x = (x : Int) := rfl
  omega
theorem qa8 {p : Int} {nA : Nat} {bs : List Bool} {N : List Gd} {gs : List Int} {c : Nat → Nat} {Q F : List Nat} (hM : MayG p nA N gs) (hP : MinP nA (2 ^ p.toNat) (rwA p N gs) bs c Q F) {i : Nat} (hi : i < F.length) :
  rwN (rwA p N gs) (F.getD i 0) (nuC c nA F) = ((rowC c F (rwA p N gs)).getD i []).map Int.ofNat := by
 rw [q2n hi,rwN,List.map_map]
 apply List.map_congr_left
 intro t ht
 obtain ⟨l,hl,rfl⟩ := (q1W hP.hR (hP.ltn hi)).1 ht
 have hq := hP.hQ.cl _ (hP.inQ hi) l hl
 have hn := hP.hQ.lt _ hq
 have h256 := hM.s2
 rw [q3O _ _ _ (by omega),if_pos hn,if_pos (hP.mem hq)]
 rfl
theorem MayG.ok64 {p : Int} {ns : Nat} {N : List Gd} {gs : List Int} (h : MayG p ns N gs) : ∀ z ∈ gs,I64 z := fun z hz => by
 obtain ⟨j,hj,rfl⟩ := List.getElem_of_mem hz
 have := q3k h (q := j) hj
 rwa [qd hj] at this
structure SmM (wb wr : World) (m0 g1 n : Nat) (Fs : Nat → Prop) (p : Int) (av gv : Value) (i : Nat) (bs : List Bool) (rs : List Int) (N : List Gd) : Prop where
 blk : wr.heap[m0]? = some (.cells #[.int .i64 p,av,gv,.slice none 0 0] 26 (0,0))
 ac : wr.ownsRow wb.heap.size 4 1 av i (bs.map Value.bool)
 gu : wr.ownsRow wb.heap.size 3 1 gv i (rs.map (Value.int .i64))
 st : StG wr Fs g1 n N
 fge : ∀ k,Fs k → wb.heap.size ≤ k
 mge : wb.heap.size ≤ m0
 bel : Below wb.heap.size wb wr
variable {wb wr : World} {m0 g1 n : Nat} {Fs : Nat → Prop} {p : Int} {av gv : Value} {i : Nat} {bs : List Bool} {rs : List Int} {N : List Gd}
theorem SmM.m0lt (h : SmM wb wr m0 g1 n Fs p av gv i bs rs N) : m0 < wr.heap.size := (Array.getElem?_eq_some_iff.1 h.blk).1
theorem SmM.m0F (h : SmM wb wr m0 g1 n Fs p av gv i bs rs N) : ¬ Fs m0 := fun hf => by
 rcases h.st.type hf h.blk with e | e
 ·exact absurd e (by decide)
 ·exact absurd e (by decide)
theorem SmM.up (h : SmM wb wr m0 g1 n Fs p av gv i bs rs N) {w' : World} (hb : Below wr.heap.size wr w') : SmM wb w' m0 g1 n Fs p av gv i bs rs N :=
 ⟨(hb.block _ h.m0lt).trans h.blk,qB h.ac hb,qB h.gu hb,h.st.up hb,h.fge,h.mge,h.bel.trans (hb.mono h.bel.size)⟩
theorem SmM.add (h : SmM wb wr m0 g1 n Fs p av gv i bs rs N) {w' : World} {F' : Nat → Prop} {N' : List Gd} (hf : Fr wr w' Fs F') (hs : StG w' F' g1 n N') : SmM wb w' m0 g1 n F' p av gv i bs rs N' :=
 ⟨(hf.keep _ h.m0lt h.m0F).trans h.blk,hf.own h.ac (h.st.notOwn h.ac (by decide) (by decide)),hf.own h.gu (h.st.notOwn h.gu (by decide) (by decide)),hs,hf.ge h.fge h.bel.size,h.mge,h.bel.trans (hf.below h.fge h.bel.size)⟩
theorem SmM.c1 (h : SmM wb wr m0 g1 n Fs p av gv i bs rs N) : wr.cell? ⟨m0,1,none⟩ = some av := q6 h.blk 1
theorem SmM.acc (h : SmM wb wr m0 g1 n Fs p av gv i bs rs N) {w1 w2 : World} {av' : Value} {z : Bool} (hb1 : Below wr.heap.size wr w1) (hg : w1.grownBy w2 av.ownBlock) (hown : w2.ownsRow wb.heap.size 4 1 av' (i + 1) ((bs ++ [z]).map Value.bool)) :
  w2.heap[m0]? = some (.cells #[.int .i64 p,av,gv,.slice none 0 0] 26 (0,0)) ∧
   (w2.setCell ⟨m0,1,none⟩ av').heap[m0]? = some (.cells #[.int .i64 p,av',gv,.slice none 0 0] 26 (0,0)) ∧
   (w2.setCell ⟨m0,1,none⟩ av').ownsRow wb.heap.size 4 1 av' (i + 1) ((bs ++ [z]).map Value.bool) ∧ (w2.setCell ⟨m0,1,none⟩ av').ownsRow wb.heap.size 3 1 gv i (rs.map (Value.int .i64)) ∧ StG (w2.setCell ⟨m0,1,none⟩ av') Fs g1 n N ∧ Below wb.heap.size wb (w2.setCell ⟨m0,1,none⟩ av') := by
 have h1 := h.up hb1
 have h5 := (hg.block m0 h1.m0lt (fun e => q1O h1.blk h1.ac (by decide) e.symm)).trans h1.blk
 have hg2 := q4O h1.gu hg (fun b hb' e => q4N h1.ac h1.gu (by decide) b e hb')
 have hs2 := h1.st.grown h1.ac (by decide) (by decide) hg
 have hset : (w2.setCell ⟨m0,1,none⟩ av').heap[m0]? = some (.cells #[.int .i64 p,av',gv,.slice none 0 0] 26 (0,0)) := by
  rw [heap_setCell_same w2 m0 1 _ _ _ h5]; rfl
 have hmF := h.m0F
 refine ⟨h5,hset,qb hown fun b hb' => Below.heap_setCell _ _ _ _ (fun e => q1O h5 hown (by decide) (by dsimp only at e; rw [← e]; exact hb')),qb hg2 fun b hb' => Below.heap_setCell _ _ _ _ (fun e => q1O h5 hg2 (by decide) (by dsimp only at e; rw [← e]; exact hb')),hs2.far fun b hb' => Below.heap_setCell _ _ _ _ (fun e => by dsimp only at e; exact hmF (e ▸ hb')),?_⟩
 exact (h1.bel.grown hg h1.bel.size (fun q e => qp h1.ac q e)).setCell (by dsimp only; exact h.mge) _
theorem SmM.gus {w1 w2 : World} {gv' : Value} {z : Int} (hblk : wr.heap[m0]? = some (.cells #[.int .i64 p,av,gv,.slice none 0 0] 26 (0,0))) (hac : wr.ownsRow wb.heap.size 4 1 av (i + 1) (bs.map Value.bool)) (hgu : wr.ownsRow wb.heap.size 3 1 gv i (rs.map (Value.int .i64))) (hst : StG wr Fs g1 n N) (hfge : ∀ k,Fs k → wb.heap.size ≤ k) (hmge : wb.heap.size ≤ m0) (hbel : Below wb.heap.size wb wr)
  (hb1 : Below wr.heap.size wr w1) (hg : w1.grownBy w2 gv.ownBlock) (hown : w2.ownsRow wb.heap.size 3 1 gv' (i + 1) ((rs ++ [z]).map (Value.int .i64))) :
  w2.heap[m0]? = some (.cells #[.int .i64 p,av,gv,.slice none 0 0] 26 (0,0)) ∧ SmM wb (w2.setCell ⟨m0,2,none⟩ gv') m0 g1 n Fs p av gv' (i + 1) bs (rs ++ [z]) N := by
 have k1 := (hb1.block _ (Array.getElem?_eq_some_iff.1 hblk).1).trans hblk
 have k2 := qB hac hb1
 have k3 := qB hgu hb1
 have k4 := hst.up hb1
 have kb := hbel.trans (hb1.mono hbel.size)
 have h5 := (hg.block m0 (Array.getElem?_eq_some_iff.1 k1).1 (fun e => q1O k1 k3 (by decide) e.symm)).trans k1
 have hb2 := q4O k2 hg (fun b hb' e => q4N k3 k2 (by decide) b e hb')
 have hs2 := k4.grown k3 (by decide) (by decide) hg
 have hset : (w2.setCell ⟨m0,2,none⟩ gv').heap[m0]? = some (.cells #[.int .i64 p,av,gv',.slice none 0 0] 26 (0,0)) := by
  rw [heap_setCell_same w2 m0 2 _ _ _ h5]; rfl
 have hmF : ¬ Fs m0 := fun hf => by
  rcases hst.type hf hblk with e | e
  ·exact absurd e (by decide)
  ·exact absurd e (by decide)
 refine ⟨h5,hset,qb hb2 fun b hb' => Below.heap_setCell _ _ _ _ (fun e => q1O h5 hb2 (by decide) (by dsimp only at e; rw [← e]; exact hb')),qb hown fun b hb' => Below.heap_setCell _ _ _ _ (fun e => q1O h5 hown (by decide) (by dsimp only at e; rw [← e]; exact hb')),hs2.far fun b hb' => Below.heap_setCell _ _ _ _ (fun e => by dsimp only at e; exact hmF (e ▸ hb')),hfge,hmge,?_⟩
 exact (kb.grown hg kb.size (fun q e => qp k3 q e)).setCell (by dsimp only; exact hmge) _
theorem q2M {w : World} {ops : Array Oper} {o : Oper} {a : Act} {K : Act → World → Prop} {Q : Exit → Act → World → Prop} {E : Prop} (hw : Region.wanted o (yielded ops a.tmps) = true) (s x : Operand)
  (ho : o.op = .call { callee := .builtin .append,args := #[s,x],argTypes := #[22,22] }) (base : Nat)
  (v : Value) (n : Nat) (bs : List Bool) (z : Bool) (g' : Nat) (hs : a.eval s = v) (hx : a.eval x = .slice (some ⟨g',0,none⟩) 1 1) (hown : w.ownsRow base 4 1 v n (bs.map Value.bool)) (hB : w.heap[g']? = some (.cells #[.bool z] 4 (0,0))) (hn : n ≤ 1000000) (hbase : base ≤ w.heap.size)
  (h : ∀ v' w',w'.ownsRow base 4 1 v' (n + 1) ((bs ++ [z]).map Value.bool) → w.grownBy w' v.ownBlock → K (a.put o.dst v') w') :
  if Region.wanted o (yielded ops a.tmps) = true then Oper.wp Try.prog o a w K Q else E := by
 rw [if_pos hw]
 have hI : (Try.prog.info? 4).map (fun i => (i.zero,i.size,i.bytes)) = some (some (.bool false),1,1) := by kernel_rfl
 obtain ⟨i,hi,hz0,hz1,hz2⟩ := info_parts hI
 obtain ⟨v',w',hr,h2,h3,_,_⟩ := run_append_own_at (P := Try.prog) w base 22 o.type 4 i _ 1 1 Try.underlying22 hi hz0 hz1 hz2 rfl (by decide) v n _ hown ⟨g',0,none⟩ 1 1 [.bool z] rfl (fun j u hj => by
  rw [q9,Nat.zero_add,q6 hB]
  match j with
  | 0 => simpa using hj
  | j + 1 => simp at hj) (fun u hu => by simp at hu; subst hu; rfl) (by unfold maxLen; omega) (by omega) hbase
 unfold Oper.wp execOp
 simp only [ho,resolve,invoke,builtin,Sem.run_bind,Sem.run_pure,Result.andThen_ok,List.map_toArray,List.map_cons,List.map_nil,hs,hx,hr]
 exact h v' w' (by rw [List.map_append]; exact h2) h3
structure OwA (w : World) (base : Nat) (a1 : Option Addr) (c1 : Nat) (a2 : Option Addr) (c2 : Nat) (a3 : Option Addr) (c3 : Nat) (bs : List Bool) (gs : List Int) (N : List Gd) : Prop where
 ac : w.ownsRow base 4 1 (.slice a1 bs.length c1) bs.length (bs.map Value.bool)
 gu : w.ownsRow base 3 1 (.slice a2 bs.length c2) bs.length (gs.map (Value.int .i64))
 no : w.ownsRow base 45 3 (.slice a3 N.length c3) N.length (encGd N)
 ok : ∀ t ∈ N,GdOk t
theorem OwA.bo {w : World} {base : Nat} {a1 : Option Addr} {c1 : Nat} {a2 : Option Addr} {c2 : Nat} {a3 : Option Addr} {c3 : Nat} {bs : List Bool} {gs : List Int} {N : List Gd} (h : OwA w base a1 c1 a2 c2 a3 c3 bs gs N) : BoSl w a1 bs.length c1 bs := by
 obtain ⟨a',c',e,hb⟩ := qav h.ac
 injection e with e1 _ e3
 subst e1 e3
 exact hb
theorem OwA.zs {w : World} {base : Nat} {a1 : Option Addr} {c1 : Nat} {a2 : Option Addr} {c2 : Nat} {a3 : Option Addr} {c3 : Nat} {bs : List Bool} {gs : List Int} {N : List Gd} (h : OwA w base a1 c1 a2 c2 a3 c3 bs gs N) : ZSl w a2 bs.length c2 gs := by
 obtain ⟨a',c',e,hz,_⟩ := q12 h.gu Try.underlying23 qf
 injection e with e1 _ e3
 subst e1 e3
 exact hz
theorem OwA.nd {w : World} {base : Nat} {a1 : Option Addr} {c1 : Nat} {a2 : Option Addr} {c2 : Nat} {a3 : Option Addr} {c3 : Nat} {bs : List Bool} {gs : List Int} {N : List Gd} (h : OwA w base a1 c1 a2 c2 a3 c3 bs gs N) : NdSl w a3 N.length c3 N := by
 obtain ⟨a',c',e,hn,_⟩ := q7Z h.no h.ok
 injection e with e1 _ e3
 subst e1 e3
 exact hn
theorem OwA.up {w w' : World} {base : Nat} {a1 : Option Addr} {c1 : Nat} {a2 : Option Addr} {c2 : Nat} {a3 : Option Addr} {c3 : Nat} {bs : List Bool} {gs : List Int} {N : List Gd} (h : OwA w base a1 c1 a2 c2 a3 c3 bs gs N) (hb : Below w.heap.size w w') : OwA w' base a1 c1 a2 c2 a3 c3 bs gs N := ⟨qB h.ac hb,qB h.gu hb,qB h.no hb,h.ok⟩
theorem OwA.base {w : World} {base base' : Nat} {a1 : Option Addr} {c1 : Nat} {a2 : Option Addr} {c2 : Nat} {a3 : Option Addr} {c3 : Nat} {bs : List Bool} {gs : List Int} {N : List Gd} (h : OwA w base a1 c1 a2 c2 a3 c3 bs gs N) (hb : base' ≤ base) : OwA w base' a1 c1 a2 c2 a3 c3 bs gs N := ⟨qy h.ac hb,qy h.gu hb,qy h.no hb,h.ok⟩
theorem OwA.on {w w' : World} {base g : Nat} {a1 : Option Addr} {c1 : Nat} {a2 : Option Addr} {c2 : Nat} {a3 : Option Addr} {c3 : Nat} {bs : List Bool} {gs : List Int} {N : List Gd} (h : OwA w base a1 c1 a2 c2 a3 c3 bs gs N) (hO : OnG g w w') (hg : g < base) : OwA w' base a1 c1 a2 c2 a3 c3 bs gs N :=
 ⟨hO.own h.ac (fun k e e2 => by have := qp h.ac k e; omega),hO.own h.gu (fun k e e2 => by have := qp h.gu k e; omega),hO.own h.no (fun k e e2 => by have := qp h.no k e; omega),h.ok⟩
def SmR (p : Int) (nA : Nat) (bs : List Bool) (N : List Gd) (gs : List Int) (w : World) (e : Ending) (w' : World) : Prop :=
 Below w.heap.size w w' ∧ ∃ (bs' : List Bool) (gs' : List Int) (N' : List Gd) (a1 : Option Addr) (c1 : Nat) (a2 : Option Addr) (c2 : Nat) (a3 : Option Addr) (c3 : Nat),e = .returned (.agg #[.int .i64 p,.slice a1 bs'.length c1,.slice a2 bs'.length c2,.slice a3 N'.length c3]) ∧ MinA p nA bs N gs bs' gs' N' ∧ OwA w' w.heap.size a1 c1 a2 c2 a3 c3 bs' gs' N'
theorem q4v {F : List Nat} {bs : List Bool} {i : Nat} (h : i < F.length) : accC (F.take (i + 1)) bs = accC (F.take i) bs ++ [bs.getD (F.getD i 0) false] := by
 rw [accC,qD h,List.map_append]; rfl
theorem q16 (F : List Nat) (bs : List Bool) : (accC F bs).length = F.length := by simp [accC]
theorem q1R {w : World} {base e size n b j : Nat} {v : Value} {xs : List Value} {cs : Array Value} (h : w.ownsRow base e size v n xs) (hb : w.heap[b]? = some (.cells cs 26 (0,0))) (he : e ≠ 26) (u : Value) : (w.setCell ⟨b,j,none⟩ u).ownsRow base e size v n xs :=
 qb h fun k hk => Below.heap_setCell _ _ _ _ (fun e2 => q1O hb h he (by dsimp only at e2; rw [← e2]; exact hk))
abbrev finW (W : World) (m0 r : Nat) (x0 x1 x2 x3 : Value) : World := ((((W.setCell ⟨m0,3,none⟩ x3).setCell ⟨r,0,none⟩ x0).setCell ⟨r,1,none⟩ x1).setCell ⟨r,2,none⟩ x2).setCell ⟨r,3,none⟩ x3
theorem q5E {W : World} {m0 r : Nat} {x0 x1 x2 x3 : Value} {cs : Array Value} {y0 y1 y2 y3 : Value} (hm : W.heap[m0]? = some (.cells cs 26 (0,0))) (hr : W.heap[r]? = some (.cells #[y0,y1,y2,y3] 26 (0,0))) (hne : m0 ≠ r) :
  (finW W m0 r x0 x1 x2 x3).heap[r]? = some (.cells #[x0,x1,x2,x3] 26 (0,0)) ∧ ∀ (base e size n : Nat) (v : Value) (xs : List Value),e ≠ 26 → W.ownsRow base e size v n xs → (finW W m0 r x0 x1 x2 x3).ownsRow base e size v n xs := by
 have h0 : (W.setCell ⟨m0,3,none⟩ x3).heap[r]? = some (.cells #[y0,y1,y2,y3] 26 (0,0)) := (Below.heap_setCell _ _ _ _ (by dsimp only; exact fun e => hne e.symm)).trans hr
 have h1 := heap_setCell_same _ r 0 _ _ x0 h0
 have h2 := heap_setCell_same _ r 1 _ _ x1 h1
 have h3 := heap_setCell_same _ r 2 _ _ x2 h2
 have h4 := heap_setCell_same _ r 3 _ _ x3 h3
 exact ⟨h4,fun base e size n v xs he ho => q1R (q1R (q1R (q1R (q1R ho hm he x3) h0 he x0) h1 he x1) h2 he x2) h3 he x3⟩
theorem q4z {B : Nat} {w W : World} {m0 r : Nat} {x0 x1 x2 x3 : Value} (h : Below B w W) (h1 : B ≤ m0) (h2 : B ≤ r) : Below B w (finW W m0 r x0 x1 x2 x3) :=
 ((((h.setCell (by dsimp only; exact h1) _).setCell (by dsimp only; exact h2) _).setCell (by dsimp only; exact h2) _).setCell (by dsimp only; exact h2) _).setCell (by dsimp only; exact h2) _
theorem q3g (p : Int) (aA : Option Addr) (nA cA : Nat) (aG : Option Addr) (nG cG : Nat) (aN : Option Addr) (nN cN : Nat) (bs : List Bool) (N : List Gd) (gs : List Int) (w : World) (hM : MayG p nA N gs) (hB : BoSl w aA nA cA bs) (hN : NdSl w aN nN cN N) (hG : ZSl w aG nG cG gs) :
  Calls Try.prog 32 #[.agg #[.int .i64 p,.slice aA nA cA,.slice aG nG cG,.slice aN nN cN]] w (SmR p nA bs N gs w) := by
 obtain ⟨Z,eZ⟩ : ∃ Z,Z = SmR p nA bs N gs w := ⟨_,rfl⟩
 have HZ : Hid (∀ e w',SmR p nA bs N gs w e w' → Z e w') := fun e w' h => by rw [eZ]; exact h
 rw [← eZ]
 clear eZ
 have h256 := hM.s2
 have HP08 : Hid (0 ≤ p ∧ p ≤ 8) := ⟨hM.p0,hM.p8⟩
 have hz := fun w => q75 w
 have hsl := fun w' => q6i (w.heap.size + 2) nA h256 w'
 obtain ⟨A,hA⟩ : ∃ A,A = ((List.replicate 256 (0 : Int)).map (Value.int .i64)).toArray := ⟨_,rfl⟩
 have hAs : A.size = 256 := by rw [hA]; simp
 have hne : ¬ A = #[] := fun e => by rw [e] at hAs; cases hAs
 obtain ⟨w3,hw3⟩ : ∃ w3,w3 = ((w.alloc (.cells #[.int .i64 p,.slice aA nA cA,.slice aG nG cG,.slice aN nN cN] 26 (0,0))).alloc (.cells #[.int .i64 0,.slice none 0 0,.slice none 0 0,.slice none 0 0] 26 (0,0))).alloc (.cells A 79 (0,0)) := ⟨_,rfl⟩
 have hb3 : Below w.heap.size w w3 := by rw [hw3]; exact q7 (q7 (q5 w _) (q5 _ _)) (q5 _ _)
 have hA3 : w3.heap[w.heap.size]? = some (.cells #[.int .i64 p,.slice aA nA cA,.slice aG nG cG,.slice aN nN cN] 26 (0,0)) := by
  rw [hw3]
  have h1 := (MapKept.heap_alloc w (.cells #[.int .i64 p,.slice aA nA cA,.slice aG nG cG,.slice aN nN cN] 26 (0,0))).1
  exact ((q5 _ _).block _ (by simp; omega)).trans (((q5 _ _).block _ (by simp)).trans h1)
 have hR3 : w3.heap[w.heap.size + 1]? = some (.cells #[.int .i64 0,.slice none 0 0,.slice none 0 0,.slice none 0 0] 26 (0,0)) := by
  rw [hw3]
  have h1 := (MapKept.heap_alloc (w.alloc (.cells #[.int .i64 p,.slice aA nA cA,.slice aG nG cG,.slice aN nN cN] 26 (0,0))) (.cells #[.int .i64 0,.slice none 0 0,.slice none 0 0,.slice none 0 0] 26 (0,0))).1
  rw [show (w.alloc (.cells #[.int .i64 p,.slice aA nA cA,.slice aG nG cG,.slice aN nN cN] 26 (0,0))).heap.size = w.heap.size + 1 by simp] at h1
  exact ((q5 _ _).block _ (by simp)).trans h1
 have hN3 : NuB w3 (w.heap.size + 2) (List.replicate 256 0) := by
  refine ⟨?_,by rw [List.length_replicate]⟩
  have h1 := (MapKept.heap_alloc ((w.alloc (.cells #[.int .i64 p,.slice aA nA cA,.slice aG nG cG,.slice aN nN cN] 26 (0,0))).alloc (.cells #[.int .i64 0,.slice none 0 0,.slice none 0 0,.slice none 0 0] 26 (0,0))) (.cells A 79 (0,0))).1
  rw [← hw3] at h1
  show w3.heap[w.heap.size + 2]? = _
  rw [← hA]
  simpa using h1
 have hs3 : w3.heap.size = w.heap.size + 3 := by rw [hw3]; simp
 have jr := q56 p aA nA cA aG nG cG aN nN cN bs N gs (w.heap.size + 2) w w3 hb3 (by omega) hN3 hM hB hN hG hM.ok64
 have t1 : w3.cell? ⟨w.heap.size,1,none⟩ = some (.slice aA nA cA) := q6 hA3 1
 have t0 : w3.cell? ⟨w.heap.size,0,none⟩ = some (.int .i64 p) := q6 hA3 0
 have t2 : w3.cell? ⟨w.heap.size,2,none⟩ = some (.slice aG nG cG) := q6 hA3 2
 have t3 : w3.cell? ⟨w.heap.size,3,none⟩ = some (.slice aN nN cN) := q6 hA3 3
 have HB3 : Hid _ := hb3
 have HA3 : Hid _ := hA3
 have HR3 : Hid _ := hR3
 have HN3 : Hid _ := hN3
 have HS3 : Hid _ := hs3
 have HHB : Hid _ := hB
 have HHN : Hid _ := hN
 have HHG : Hid _ := hG
 have HM : Hid _ := hM
 have HW3 : Hid _ := hw3
 rw [← hA] at hz
 clear hb3 hA3 hR3 hN3 hs3 hB hN hG hM hA hw3
 go_enter Try.func32,Try.ntmps32
 go_wp2_with (rw [← HW3.out])
 refine jr.mono ?_
 rintro e w4 ⟨hon,k,c,F,aF,cF,hk,hc,hF,rfl,hZF,hNu⟩
 have hP := q6F HM.out hk hc hF
 have hMA : ∀ bs' gs' N',bs' = accC F bs → stoM p.toNat (rowC c F (rwA p N gs)) = (gs',N') → MinA p nA bs N gs bs' gs' N' := fun bs' gs' N' h1 h2 => ⟨k,c,F,hk,hc,hF,h1,h2⟩
 have hb4 := q4M hon (by omega) HB3.out
 have hA4 := (hon.keep w.heap.size (by have := HS3.out; omega) (by omega)).trans HA3.out
 have hR4 := (hon.keep (w.heap.size + 1) (by have := HS3.out; omega) (by omega)).trans HR3.out
 have hs4 := hon.size
 have s0 : w4.cell? ⟨w.heap.size,0,none⟩ = some (.int .i64 p) := q6 hA4 0
 have HON : Hid _ := hon
 have HP : Hid _ := hP
 have HMA : Hid _ := hMA
 have HB4 : Hid _ := hb4
 have HA4 : Hid _ := hA4
 have HR4 : Hid _ := hR4
 have HZF : Hid _ := hZF
 have HNU : Hid _ := hNu
 have HF256 : Hid (F.length ≤ nA) := hP.len
 obtain ⟨w5,hw5⟩ : ∃ w5,w5 = w4.alloc (.cells #[.int .i64 p,.slice none 0 0,.slice none 0 0,.slice none 0 0] 26 (0,0)) := ⟨_,rfl⟩
 have hb5 : Below w4.heap.size w4 w5 := by rw [hw5]; exact q5 _ _
 have hm5 : w5.heap[w4.heap.size]? = some (.cells #[.int .i64 p,.slice none 0 0,.slice none 0 0,.slice none 0 0] 26 (0,0)) := by rw [hw5]; exact (MapKept.heap_alloc w4 _).1
 have s5 : w5.cell? ⟨w.heap.size,0,none⟩ = some (.int .i64 p) := q8 s0 hb5
 have HW5 : Hid _ := hw5
 have HB5 : Hid _ := hb5
 have HM5 : Hid _ := hm5
 have jn := q2L p w5
 clear jr hon hk hc hF hZF hNu hP hMA hb4 hA4 hR4 hw5 hb5 hm5 t0 t1 t2 t3 hz hsl hne hAs HW3 HB3 HA3 HR3 HN3
 go_wp2_with (rw [← HW5.out])
 refine jn.mono ?_
 rintro e w6 ⟨hb6,⟨h1,_⟩ | ⟨_,_,g1,F1,rfl,hF1,hst⟩⟩
 ·exact absurd HP08.out h1
 have HK0 : Hid (SmM w4 w6 w4.heap.size g1 p.toNat F1 p (.slice none 0 0) (.slice none 0 0) 0 (accC (F.take 0) bs) (stoM p.toNat ((rowC c F (rwA p N gs)).take 0)).1 (stoM p.toNat ((rowC c F (rwA p N gs)).take 0)).2) :=
  ⟨(hb6.block _ (Array.getElem?_eq_some_iff.1 HM5.out).1).trans HM5.out,⟨rfl,.inl ⟨rfl,rfl⟩⟩,⟨rfl,.inl ⟨rfl,rfl⟩⟩,hst,fun k hk => Nat.le_trans HB5.out.size (hF1 k hk),Nat.le_refl _,q7 HB5.out hb6⟩
 have h4s : w.heap.size + 3 ≤ w4.heap.size := by have := HS3.out; omega
 clear jn hb6 hF1 hst s0 s5 HW5 HM5 HB5 hs4
 generalize hm0 : w4.heap.size = m0 at *
 have Hm0 : Hid _ := hm0
 clear hm0
 go_wp2
 go_loopw [31] (fun j wr => ∃ (i : Nat) (av gv : Value) (Fs : Nat → Prop),i ≤ F.length ∧ j = .int .i64 (i : Int) ∧ Hid (SmM w4 wr m0 g1 p.toNat Fs p av gv i (accC (F.take i) bs) (stoM p.toNat ((rowC c F (rwA p N gs)).take i)).1 (stoM p.toNat ((rowC c F (rwA p N gs)).take i)).2)) (fun j _ => F.length - (intOf j).toNat)
 case atStart => exact ⟨0,_,_,F1,Nat.zero_le _,rfl,HK0⟩
 case round =>
  obtain ⟨i,av,gv,Fs,hi,rfl,HS⟩ := hrel
  clear HK0
  have hbw := HB4.out.trans (HS.out.bel.mono HB4.out.size)
  have hA := (HS.out.bel.block w.heap.size (by have := Hm0.out; omega)).trans HA4.out
  by_cases hlt : i < F.length
  ·have hix := fun w' => HZF.out.idx F.length i w' hlt (Nat.le_refl _)
   have hbl : Below w4.heap.size w4 wr := HS.out.bel
   have hce := (HZF.out.up hbl).cell i hlt
   rw [qC hlt] at hce
   have hqn := HP.out.ltn hlt
   have jw := q5g p aA nA cA aG nG cG aN nN cN N gs (F.getD i 0) (w.heap.size + 2) (nuC c nA F) wr HM.out (HHN.out.up hbw) (HHG.out.up hbw) (HNU.out.up hbl) hqn
   rw [qa8 HM.out HP.out hlt] at jw
   have c0 : wr.cell? ⟨w.heap.size,0,none⟩ = some (.int .i64 p) := q6 hA 0
   have c1 : wr.cell? ⟨w.heap.size,1,none⟩ = some (.slice aA nA cA) := q6 hA 1
   have c2 : wr.cell? ⟨w.heap.size,2,none⟩ = some (.slice aG nG cG) := q6 hA 2
   have c3 : wr.cell? ⟨w.heap.size,3,none⟩ = some (.slice aN nN cN) := q6 hA 3
   have HA : Hid _ := hA
   have HBW : Hid _ := hbw
   have hK : i < (rowC c F (rwA p N gs)).length := by rw [HP.out.rows.len]; exact hlt
   have HADD : Hid _ := q8u HM.out HP.out hlt
   have HNX : Hid _ := q1e p.toNat (rowC c F (rwA p N gs)) hK
   have HNL : Hid ((stoM p.toNat ((rowC c F (rwA p N gs)).take i)).2.length ≤ 4096) := Nat.le_trans (q2v HM.out HP.out.lists _ HP.out.from i (Nat.le_of_lt hK)).len HM.out.few
   have HACC : Hid _ := q4v (bs := bs) hlt
   have hgb : bs.getD (F.getD i 0) false = bs[F.getD i 0]'(by rw [HHB.out.hlen]; exact hqn) := qd _ _
   have hixb := fun w' => (HHB.out.at (F.getD i 0) hqn).1 nA w' hqn
   have HCB : Hid (∀ wx,Below w.heap.size w wx → wx.cell? (adOf aA (F.getD i 0)) = some (.bool (bs.getD (F.getD i 0) false))) := fun wx hx => by rw [hgb]; exact ((HHB.out.up hx).at (F.getD i 0) hqn).2
   clear hA hbw hbl hK hgb
   generalize F.getD i 0 = q at *
   generalize bs.getD q false = zb at *
   generalize hkl : (rowC c F (rwA p N gs)).getD i [] = kl at *
   generalize adOf aF i = ad at *
   obtain ⟨ag,ao,az⟩ := ad
   generalize adOf aA q = adb at *
   obtain ⟨bg,bo,bz⟩ := adb
   clear hkl
   go_wp2_with fail
   refine jw.mono ?_
   rintro e w1 ⟨hb1,ra,rc,rfl,hro⟩
   obtain ⟨ra',rc',er,hrz,hrn,_⟩ := q12 hro Try.underlying23 qf
   injection er with er1 _ er3
   subst er1 er3
   have hS1 := HS.out.up hb1
   have ja := q2J g1 p.toNat (by have := HP08.out; omega) (kl.map Int.ofNat) ra (2 ^ p.toNat) rc _ Fs w1 hrz (fun j hj hf => Nat.lt_irrefl _ (Nat.lt_of_lt_of_le (HS.out.st.lt _ hf) (hrn j hj))) hS1.st HNL.out
   rw [HADD.out] at ja
   have HS1 : Hid _ := hS1
   have HB1 : Hid _ := hb1
   clear jw hb1 hro hrz hrn hS1 hix hce
   go_wp2_with fail
   refine ja.mono ?_
   rintro e w2 ⟨rfl,F2,hst2,hfr2⟩
   dsimp only at hst2
   have hS2 := HS1.out.add hfr2 hst2
   have hb2 : Below w4.heap.size w4 w2 := hS2.bel
   have hbw2 := HB4.out.trans (hb2.mono HB4.out.size)
   have hA2 := (hb2.block w.heap.size (by have := Hm0.out; omega)).trans HA4.out
   have k1 : w2.cell? ⟨w.heap.size,1,none⟩ = some (.slice aA nA cA) := q6 hA2 1
   have m1 := hS2.c1
   have hcb := HCB.out w2 hbw2
   have hbA := q5 w2 (.cells #[.bool zb] 4)
   have m1b : (w2.alloc (.cells #[.bool zb] 4)).cell? ⟨m0,1,none⟩ = some av := q8 m1 hbA
   have hO : (w2.alloc (.cells #[.bool zb] 4)).drew.ownsRow m0 4 1 av i ((accC (F.take i) bs).map Value.bool) := by rw [← Hm0.out]; exact World.ownsRow.alloc hS2.ac _
   have hBB : (w2.alloc (.cells #[.bool zb] 4)).drew.heap[w2.heap.size]? = some (.cells #[.bool zb] 4 (0,0)) := (MapKept.heap_alloc w2 _).1
   have hbs : m0 ≤ (w2.alloc (.cells #[.bool zb] 4)).drew.heap.size := by have h1 := hb2.size; have h2 := Hm0.out; simp; omega
   have HPUT : Hid (∀ w5 v',(w2.alloc (.cells #[.bool zb] 4)).drew.grownBy w5 av.ownBlock → w5.ownsRow m0 4 1 v' (i + 1) ((accC (F.take i) bs ++ [zb]).map Value.bool) → w5.cell? ⟨m0,1,none⟩ = some av ∧ w5.frozen? ⟨m0,1,none⟩ = false ∧ ((w5.setCell ⟨m0,1,none⟩ v').heap[m0]? = some (.cells #[.int .i64 p,v',gv,.slice none 0 0] 26 (0,0)) ∧
     (w5.setCell ⟨m0,1,none⟩ v').ownsRow w4.heap.size 4 1 v' (i + 1) ((accC (F.take i) bs ++ [zb]).map Value.bool) ∧ (w5.setCell ⟨m0,1,none⟩ v').ownsRow w4.heap.size 3 1 gv i ((stoM p.toNat ((rowC c F (rwA p N gs)).take i)).1.map (Value.int .i64)) ∧ StG (w5.setCell ⟨m0,1,none⟩ v') F2 g1 p.toNat (stoM p.toNat ((rowC c F (rwA p N gs)).take (i + 1))).2 ∧ Below w4.heap.size w4 (w5.setCell ⟨m0,1,none⟩ v'))) := fun w5 v' q1 q2 => by
    have := hS2.acc (w1 := (w2.alloc (.cells #[.bool zb] 4)).drew) (q7 (q5 w2 _) ((Below.refl _ _).drew)) q1 (by rw [Hm0.out]; exact q2)
    exact ⟨q6 this.1 1,frozen_of_row w5 _ 1 _ _ this.1,this.2⟩
   have HF2 : Hid _ := hS2.fge
   have hFl := HF256.out
   clear ja hst2 hfr2 HS1 HB1 hb2 hbw2 hA2 hbA hS2 HCB c0 c1 c2 c3
   generalize accC (F.take i) bs = acci at *
   rw [HNX.out] at HPUT
   unfold stoF at HPUT
   dsimp only at HPUT ⊢
   generalize hrf : (adM p.toNat 0 (fnL kl) (stoM p.toNat ((rowC c F (rwA p N gs)).take i)).2).1 = rf at *
   go_upto_region 10 with fail
   go_region_law ((refine q2M rfl _ _ rfl m0 av i acci zb w2.heap.size rfl rfl hO hBB (by omega) hbs ?_; intro v5 w5 hown5 hgr5; obtain ⟨a5,k5,rfl⟩ := qe hown5; have m5 := HPUT.out w5 _ hgr5 hown5; have c5 := m5.1; have z5 := m5.2.1; have HN5 : Hid _ := m5.2.2; clear m5))
   all_goals
    obtain ⟨n1,n2,n3,n4,n5⟩ := HN5.out
    generalize hw6 : w5.setCell ⟨m0,1,none⟩ (.slice a5 (i + 1) k5) = w6 at *
    clear hw6
    have m2 : w6.cell? ⟨m0,2,none⟩ = some gv := q6 n1 2
    have hO7 : (w6.alloc (.cells #[.int .i64 rf] 3)).ownsRow m0 3 1 gv i ((stoM p.toNat ((rowC c F (rwA p N gs)).take i)).1.map (Value.int .i64)) := by rw [← Hm0.out]; exact World.ownsRow.alloc n3 _
    have hc7 : (w6.alloc (.cells #[.int .i64 rf] 3)).cell? ⟨w6.heap.size,0,none⟩ = some (.int .i64 rf) := q6 (MapKept.heap_alloc w6 _).1 0
    have hbs7 : m0 ≤ (w6.alloc (.cells #[.int .i64 rf] 3)).heap.size := by have h1 := n5.size; have h2 := Hm0.out; simp; omega
    have HG7 : Hid (∀ w7 v',(w6.alloc (.cells #[.int .i64 rf] 3)).grownBy w7 gv.ownBlock → w7.ownsRow m0 3 1 v' (i + 1) (((stoM p.toNat ((rowC c F (rwA p N gs)).take i)).1 ++ [rf]).map (Value.int .i64)) → w7.cell? ⟨m0,2,none⟩ = some gv ∧ w7.frozen? ⟨m0,2,none⟩ = false ∧ SmM w4 (w7.setCell ⟨m0,2,none⟩ v') m0 g1 p.toNat F2 p (.slice a5 (i + 1) k5) v' (i + 1) (accC (F.take (i + 1)) bs) (stoM p.toNat ((rowC c F (rwA p N gs)).take (i + 1))).1 (stoM p.toNat ((rowC c F (rwA p N gs)).take (i + 1))).2) := fun w7 v' q1 q2 => by
     have := SmM.gus (w1 := w6.alloc (.cells #[.int .i64 rf] 3)) n1 n2 n3 n4 HF2.out (by rw [Hm0.out]; exact Nat.le_refl _) n5 (q5 w6 _) q1 (by rw [Hm0.out]; exact q2)
     refine ⟨q6 this.1 2,frozen_of_row w7 _ 2 _ _ this.1,?_⟩
     have h2 := this.2
     rw [HACC.out,HNX.out]
     unfold stoF
     dsimp only
     rw [hrf]
     exact h2
    have HO7 : Hid _ := hO7
    have hi7 : i + 1 ≤ 2000000 := by omega
    clear HN5 n1 n2 n3 n4 n5 c5 z5 hown5 hgr5 hO hBB hbs HPUT m1 m1b hcb k1 hixb hrf hO7 HACC HNX HADD HNL
    go_wp2_with (at_builtin; refine qQ rfl _ _ rfl m0 _ i _ rfl HO7.out w6.heap.size rf rfl hc7 hi7 hbs7 ?_)
    intro v7 w7 hq7 hg7
    obtain ⟨a7,k7,rfl⟩ := qe hq7
    obtain ⟨x1,x2,x3⟩ := HG7.out w7 _ hg7 (by rw [List.map_append]; exact hq7)
    have HS7 : Hid _ := x3
    clear hq7 hg7 HG7 HO7 hc7 x3 m2
    go_wp2
    go_roundw
    case rel => exact ⟨i + 1,_,_,_,by omega,by go_num,HS7⟩
    case measure => simp [intOf]; omega
  ·obtain rfl : i = F.length := by omega
   have hK : (rowC c F (rwA p N gs)).length = F.length := HP.out.rows.len
   have HSF : Hid _ := HS.out
   rw [List.take_length,show F.length = (rowC c F (rwA p N gs)).length from hK.symm,List.take_length,hK] at HSF
   rcases est : stoM p.toNat (rowC c F (rwA p N gs)) with ⟨gs',N'⟩
   rw [est] at HSF
   dsimp only at HSF
   have HAN : Hid (MinA p nA bs N gs (accC F bs) gs' N') := HMA.out _ gs' N' rfl est
   have hfew := (MinA.all HAN.out HM.out).nodes
   have h4 := HM.out.few
   have jd := q2d HSF.out.st (by omega)
   have hRr := (HSF.out.bel.block (w.heap.size + 1) (by have := Hm0.out; omega)).trans HR4.out
   have HRR : Hid _ := hRr
   have hgl : gs'.length = F.length := by
    have := HSF.out.gu.1
    simpa using this
   clear hRr HS hA hfew h4 hK est HMA
   go_wp2_with fail
   refine jd.mono ?_
   rintro e w2 ⟨hb2,nv,rfl,hno⟩
   obtain ⟨an,cn,rfl⟩ := qe hno
   obtain ⟨aa,ca,rfl⟩ := qe HSF.out.ac
   obtain ⟨ag,cg,rfl⟩ := qe HSF.out.gu
   have hS2 := HSF.out.up hb2
   have hR2 := (hb2.block _ (Array.getElem?_eq_some_iff.1 HRR.out).1).trans HRR.out
   have y0 : w2.cell? ⟨m0,0,none⟩ = some (.int .i64 p) := q6 hS2.blk 0
   have y1 : w2.cell? ⟨m0,1,none⟩ = some (.slice aa F.length ca) := q6 hS2.blk 1
   have y2 : w2.cell? ⟨m0,2,none⟩ = some (.slice ag F.length cg) := q6 hS2.blk 2
   have y3 : w2.cell? ⟨m0,3,none⟩ = some (.slice none 0 0) := q6 hS2.blk 3
   have f3 : w2.frozen? ⟨m0,3,none⟩ = false := frozen_of_row w2 _ 3 _ _ hS2.blk
   have r0 : w2.cell? ⟨w.heap.size + 1,0,none⟩ = some (.int .i64 0) := q6 hR2 0
   have r1 : w2.cell? ⟨w.heap.size + 1,1,none⟩ = some (.slice none 0 0) := q6 hR2 1
   have r2 : w2.cell? ⟨w.heap.size + 1,2,none⟩ = some (.slice none 0 0) := q6 hR2 2
   have r3 : w2.cell? ⟨w.heap.size + 1,3,none⟩ = some (.slice none 0 0) := q6 hR2 3
   have g0 : w2.frozen? ⟨w.heap.size + 1,0,none⟩ = false := frozen_of_row w2 _ 0 _ _ hR2
   have g1' : w2.frozen? ⟨w.heap.size + 1,1,none⟩ = false := frozen_of_row w2 _ 1 _ _ hR2
   have g2 : w2.frozen? ⟨w.heap.size + 1,2,none⟩ = false := frozen_of_row w2 _ 2 _ _ hR2
   have g3 : w2.frozen? ⟨w.heap.size + 1,3,none⟩ = false := frozen_of_row w2 _ 3 _ _ hR2
   have hne : m0 ≠ w.heap.size + 1 := by omega
   have hne2 : ¬ w.heap.size + 1 = m0 := fun e => hne e.symm
   have hfin := q5E (x0 := .int .i64 p) (x1 := .slice aa F.length ca) (x2 := .slice ag F.length cg) (x3 := .slice an N'.length cn) hS2.blk hR2 hne
   have hbF : Below w.heap.size w (finW w2 m0 (w.heap.size + 1) (.int .i64 p) (.slice aa F.length ca) (.slice ag F.length cg) (.slice an N'.length cn)) := q4z (HB4.out.trans (hS2.bel.mono HB4.out.size)) (by omega) (by omega)
   obtain ⟨WF,hWF⟩ : ∃ WF,WF = ((((w2.setCell ⟨m0,3,none⟩ (.slice an N'.length cn)).setCell ⟨w.heap.size + 1,0,none⟩ (.int .i64 p)).setCell ⟨w.heap.size + 1,1,none⟩ (.slice aa F.length ca)).setCell ⟨w.heap.size + 1,2,none⟩ (.slice ag F.length cg)).setCell ⟨w.heap.size + 1,3,none⟩ (.slice an N'.length cn) := ⟨_,rfl⟩
   have hWF2 : finW w2 m0 (w.heap.size + 1) (.int .i64 p) (.slice aa F.length ca) (.slice ag F.length cg) (.slice an N'.length cn) = WF := hWF.symm
   rw [hWF2] at hfin hbF
   have HWF : Hid _ := hWF
   have HFN : Hid _ := hfin.1
   clear hWF hWF2
   have HEF : Hid (Z (.returned (.agg #[.int .i64 p,.slice aa F.length ca,.slice ag F.length cg,.slice an N'.length cn])) WF) := by
    refine HZ.out _ _ ⟨hbF,accC F bs,gs',N',aa,ca,ag,cg,an,cn,by rw [q16],HAN.out,?_⟩
    have h4 := HB4.out.size
    refine ⟨?_,?_,qy (hfin.2 _ _ _ _ _ _ (by decide) hno) ?_,fun t ht => HSF.out.st.ok t ht⟩
    ·rw [q16]; exact qy (hfin.2 _ _ _ _ _ _ (by decide) hS2.ac) h4
    ·rw [q16]; exact qy (hfin.2 _ _ _ _ _ _ (by decide) hS2.gu) h4
    ·have := HSF.out.bel.size; omega
   clear jd hb2 hno hS2 hR2 hfin hbF HSF HAN HRR
   go_wp2
   rw [← HWF.out]
   have z0 := q6 HFN.out 0
   have z1 := q6 HFN.out 1
   have z2 := q6 HFN.out 2
   have z3 := q6 HFN.out 3
   refine bodyPost_ret (v := .agg #[.int .i64 p,.slice aa F.length ca,.slice ag F.length cg,.slice an N'.length cn]) ?_ rfl HEF.out
   simp at z0 z1 z2 z3
   simp [results,Try.results32,go_sem,z0,z1,z2,z3]
end Go.Proofs.Ytcnkgokfjafgkaa
