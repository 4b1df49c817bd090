/- Texts of the proof, put together: what it uses. -/
import Derived.Laws.CopyRow
import Derived.Deep.RegionHeld3
import Derived.Test.YtbgogbafkoekjaaY01
import Derived.Test.YtbgogbafkoekjaaY02
set_option maxRecDepth 100000
set_option maxHeartbeats 16000000
namespace Go.Proofs.Ytbgogbafkoekjaa
open Go.RowKit Go.Maps
def ChkR (p : Int) (ns : Nat) (N : List Gd) (gs : List Int) (w : World) (e : Ending) (w' : World) : Prop := Below w.heap.size w w' ∧ ∃ v,e = .returned (.int .i64 v) ∧ ((v = 0 ∧ MayG p ns N gs) ∨ (v = 12 ∧ ¬ MayG p ns N gs))
def NdMay (p : Int) (ns : Nat) (N : List Gd) (k : Nat) : Prop := 0 ≤ (N.getD k (0,0,0)).1 ∧ (N.getD k (0,0,0)).1 < p ∧ (N.getD k (0,0,0)).2.1 ≠ (N.getD k (0,0,0)).2.2 ∧ FitG ns N k (N.getD k (0,0,0)).1 (N.getD k (0,0,0)).2.1 ∧ FitG ns N k (N.getD k (0,0,0)).1 (N.getD k (0,0,0)).2.2
theorem MayG.nd {p : Int} {ns : Nat} {N : List Gd} {gs : List Int} (h : MayG p ns N gs) {k : Nat} (hk : k < N.length) : NdMay p ns N k := by
 have e : N[k]? = some (N.getD k (0,0,0)) := by simp [List.getD_eq_getElem?_getD,List.getElem?_eq_getElem hk]
 unfold NdMay
 generalize N.getD k (0,0,0) = nd at *
 obtain ⟨P,lo,hi⟩ := nd
 exact h.node k P lo hi e
theorem q4c {p : Int} {ns : Nat} {N : List Gd} {gs : List Int} (h0 : 0 ≤ p) (h8 : p ≤ 8) (s1 : 1 ≤ ns) (s2 : ns ≤ 256) (hl : gs.length = ns) (hf : N.length ≤ 4096) (hn : ∀ k,k < N.length → NdMay p ns N k) (ho : N.Nodup) (hg : ∀ k,k < gs.length → FitG ns N N.length (-1) (gs.getD k 0)) : MayG p ns N gs := by
 refine ⟨h0,h8,s1,s2,hl,hf,fun i P lo hi e => ?_,ho,fun g hm => ?_⟩
 ·have hi1 := (List.getElem?_eq_some_iff.1 e).1
  have := hn i hi1
  unfold NdMay at this
  simpa [List.getD_eq_getElem?_getD,e] using this
 ·obtain ⟨i,hi,rfl⟩ := List.getElem_of_mem hm
  simpa [List.getD_eq_getElem?_getD,List.getElem?_eq_getElem hi] using hg i hi
theorem q3X {N : List Gd} {k : Nat} (h : (N.take k).Nodup) (hk : k < N.length) (hn : ∀ j,j < k → N.getD j (0,0,0) ≠ N.getD k (0,0,0)) : (N.take (k + 1)).Nodup := by
 rw [qC hk,List.nodup_append]
 refine ⟨h,by simp,fun a ha b hb => ?_⟩
 simp at hb; subst hb
 obtain ⟨j,hj,rfl⟩ := List.getElem_of_mem ha
 simp at hj
 have := hn j (by omega)
 have e : N[j]? = some N[j] := List.getElem?_eq_getElem (by omega)
 simpa [List.getD_eq_getElem?_getD,e] using this
theorem q2n {N : List Gd} {j k : Nat} (hj : j < k) (hk : k < N.length) (he : N.getD j (0,0,0) = N.getD k (0,0,0)) : ¬ N.Nodup := by
 intro h
 have ej : N[j]? = some N[j] := List.getElem?_eq_getElem (by omega)
 have ek : N[k]? = some N[k] := List.getElem?_eq_getElem hk
 simp only [List.getD_eq_getElem?_getD,ej,ek,Option.getD_some] at he
 exact List.pairwise_iff_getElem.1 h j k (by omega) hk hj he
structure NdB (w : World) (g : Nat) (P lo hi : Int) : Prop where
 c0 : w.cell? ⟨g,0,none⟩ = some (.int .i64 P)
 c1 : w.cell? ⟨g,1,none⟩ = some (.int .i64 lo)
 c2 : w.cell? ⟨g,2,none⟩ = some (.int .i64 hi)
theorem NdB.up {w w' : World} {g : Nat} {P lo hi : Int} (h : NdB w g P lo hi) (hb : Below w.heap.size w w') : NdB w' g P lo hi := ⟨q9 h.c0 hb,q9 h.c1 hb,q9 h.c2 hb⟩
theorem q3D (w : World) (P lo hi : Int) : NdB (w.alloc (.cells #[.int .i64 P,.int .i64 lo,.int .i64 hi] 63 (0,0))) w.heap.size P lo hi := by
 have h := (MapKept.heap_alloc w (.cells #[.int .i64 P,.int .i64 lo,.int .i64 hi] 63 (0,0))).1
 exact ⟨q6 h 0,q6 h 1,q6 h 2⟩
theorem q2E (p0 : Int) (aA : Option Addr) (nA cA : Nat) (aG : Option Addr) (nG cG : Nat) (aN : Option Addr) (nN cN : Nat) (N : List Gd) (gs : List Int) (w : World) (hN : NdSl w aN nN cN N) (hG : ZSl w aG nG cG gs) (hA : nA ≤ 1000000) (hNN : nN ≤ 1000000) :
  Calls Try.prog 42 #[.agg #[.int .i64 p0,.slice aA nA cA,.slice aG nG cG,.slice aN nN cN]] w (ChkR p0 nA N gs w) := by
 obtain ⟨Q,eQ⟩ : ∃ Q,Q = ChkR p0 nA N gs w := ⟨_,rfl⟩
 have H0 : Hid (∀ w',Below w.heap.size w w' → MayG p0 nA N gs → Q (.returned (.int .i64 0)) w') := fun w' hb h => by rw [eQ]; exact ⟨hb,0,rfl,.inl ⟨rfl,h⟩⟩
 have H1 : Hid (∀ w',Below w.heap.size w w' → ¬ MayG p0 nA N gs → Q (.returned (.int .i64 12)) w') := fun w' hb h => by rw [eQ]; exact ⟨hb,12,rfl,.inr ⟨rfl,h⟩⟩
 rw [← eQ]
 clear eQ
 have hgb := hG.bd
 have hgc := hG.hcap
 unfold maxLen at hgb
 have HL : Hid (N.length = nN) := hN.hlen
 have HG : Hid (gs.length = nG) := hG.hlen
 have HAB : Hid _ := qa w p0 aA nA cA aG nG cG aN nN cN
 have HB0 : Hid _ := q7 w (.cells #[.int .i64 p0,.slice aA nA cA,.slice aG nG cG,.slice aN nN cN] 26 (0,0))
 obtain ⟨c0,c1,c2,c3⟩ := HAB.out
 by_cases p0lt : p0 < 0
 ·have HE : Hid _ := H1.out _ HB0.out (fun h => by have := h.p0; omega)
  clear H0 H1 HAB HB0
  go_enter Try.func42,Try.ntmps42
  go_wp2
  exact HE.out
 by_cases p8lt : 8 < p0
 ·have HE : Hid _ := H1.out _ HB0.out (fun h => by have := h.p8; omega)
  clear H0 H1 HAB HB0
  go_enter Try.func42,Try.ntmps42
  go_wp2
  exact HE.out
 by_cases nAlt : nA < 1
 ·have HE : Hid _ := H1.out _ HB0.out (fun h => by have := h.s1; omega)
  clear H0 H1 HAB HB0
  go_enter Try.func42,Try.ntmps42
  go_wp2
  exact HE.out
 by_cases nAgt : 256 < nA
 ·have HE : Hid _ := H1.out _ HB0.out (fun h => by have := h.s2; omega)
  clear H0 H1 HAB HB0
  go_enter Try.func42,Try.ntmps42
  go_wp2
  exact HE.out
 by_cases nGne : nG ≠ nA
 ·have HE : Hid _ := H1.out _ HB0.out (fun h => by have := h.len; have := HG.out; omega)
  have dG : ((nG : Int) != (nA : Int)) = true := by simp; omega
  clear H0 H1 HAB HB0
  go_enter Try.func42,Try.ntmps42
  go_wp2
  exact HE.out
 by_cases nNgt : 4096 < nN
 ·have HE : Hid _ := H1.out _ HB0.out (fun h => by have := h.few; have := HL.out; omega)
  clear H0 H1 HAB HB0
  go_enter Try.func42,Try.ntmps42
  go_wp2
  exact HE.out
 obtain rfl : nG = nA := by omega
 have d1 : decide (p0 < 0) = false := by simp; omega
 have d2 : decide (8 < p0) = false := by simp; omega
 have d3 : decide ((nG : Int) < 1) = false := by simp; omega
 have d4 : decide (256 < (nG : Int)) = false := by simp; omega
 have d5 : ((nG : Int) != (nG : Int)) = false := by simp
 have d6 : decide (4096 < (nN : Int)) = false := by simp; omega
 have HF : Hid (∀ (w' : World) (r : Int) (a : Nat) (p : Int),NdSl w' aN nN cN N → a ≤ nN → Calls Try.prog 55 #[.agg #[.int .i64 p0,.slice aA nG cA,.slice aG nG cG,.slice aN nN cN],.int .i64 r,.int .i64 (a : Int),.int .i64 p] w' fun e w2 => e = .returned (.bool (fitB nG N a p r)) ∧ Below w'.heap.size w' w2) := fun w' r a p h1 h2 => q27 p0 aA nG cA aG nG cG aN nN cN N r a p w' h1 h2 hA
 have HMay : Hid ((∀ k,k < nN → NdMay p0 nG N k) → N.Nodup → (∀ k,k < nG → FitG nG N nN (-1) (gs.getD k 0)) → MayG p0 nG N gs) := fun h1 h2 h3 => q4c (by omega) (by omega) (by omega) (by omega) HG.out (by rw [HL.out]; omega) (by rw [HL.out]; exact h1) h2 (by rw [HL.out,HG.out]; exact h3)
 have HNd : Hid (NdSl w aN nN cN N) := hN
 have HGs : Hid (ZSl w aG nG cG gs) := hG
 clear hN hG p0lt p8lt nAlt nAgt nGne
 go_enter Try.func42,Try.ntmps42
 go_wp2
 go_loopw [3] (fun i wr => ∃ k : Nat,k ≤ nN ∧ i = .int .i64 k ∧ Hid (∀ j,j < k → NdMay p0 nG N j) ∧ Hid ((N.take k).Nodup) ∧ Hid (AuB wr w.heap.size p0 aA nG cA aG nG cG aN nN cN) ∧ Hid (Below w.heap.size w wr)) (fun i _ => nN - (intOf i).toNat)
 case atStart => exact ⟨0,Nat.zero_le _,rfl,fun j hj => absurd hj (by omega),by show List.Nodup _; simp,HAB,HB0⟩
 case round =>
  clear HAB HB0 c0 c1 c2 c3 d1 d2 d3 d4 d5 d6
  obtain ⟨k,hk,rfl,HD,HU,HAB,HB⟩ := hrel
  by_cases hlt : k < nN
  ·obtain ⟨c0,c1,c2,c3⟩ := HAB.out
   obtain ⟨g,o,s,hix,e0,e1,e2,_,_,hok⟩ := (HNd.out.up HB.out).at Try.underlying24 qc k hlt
   have hidx := fun w' => hix nN w' hlt
   clear hix
   have HND : Hid (∀ P lo hi : Int,N.getD k (0,0,0) = (P,lo,hi) → (MayG p0 nG N gs → 0 ≤ P ∧ P < p0 ∧ lo ≠ hi ∧ fitB nG N k P lo = true ∧ fitB nG N k P hi = true) ∧ (0 ≤ P → P < p0 → lo ≠ hi → fitB nG N k P lo = true → fitB nG N k P hi = true → NdMay p0 nG N k)) := fun P lo hi e => by
    have ha : k ≤ N.length := by rw [HL.out]; omega
    refine ⟨fun h => ?_,fun h1 h2 h3 h4 h5 => ?_⟩
    ·have := h.nd (k := k) (by rw [HL.out]; exact hlt)
     unfold NdMay at this
     rw [e] at this
     exact ⟨this.1,this.2.1,this.2.2.1,(qs ha).2 this.2.2.2.1,(qs ha).2 this.2.2.2.2⟩
    ·unfold NdMay
     rw [e]
     exact ⟨h1,h2,h3,(qs ha).1 h4,(qs ha).1 h5⟩
   rcases hnd : N.getD k (0,0,0) with ⟨P,lo,hi⟩
   rw [hnd] at e0 e1 e2
   dsimp only at e0 e1 e2
   obtain ⟨HM,HN⟩ := HND.out P lo hi hnd
   have HM : Hid _ := HM
   have HN : Hid _ := HN
   have Hnd : Hid _ := hnd
   clear HND hnd hok
   have HB1 : Hid (Below w.heap.size w (wr.alloc (.cells #[.int .i64 P,.int .i64 lo,.int .i64 hi] 63))) := HB.out.alloc HB.out.size _
   have HA1 : Hid _ := HAB.out.up (q7 wr (.cells #[.int .i64 P,.int .i64 lo,.int .i64 hi] 63 (0,0)))
   have HNB1 : Hid _ := q3D wr P lo hi
   obtain ⟨f0,f1,f2,f3⟩ := HA1.out
   by_cases q0 : P < 0
   ·have HE : Hid _ := H1.out _ HB1.out (fun h => by have := HM.out h; omega)
    clear H0 H1 HM HN HF HMay
    go_wp2
    exact HE.out
   have d1 : decide (P < 0) = false := decide_eq_false q0
   by_cases q1 : p0 ≤ P
   ·have HE : Hid _ := H1.out _ HB1.out (fun h => by have := HM.out h; omega)
    clear H0 H1 HM HN HF HMay q0
    go_wp2
    exact HE.out
   have d2 : decide (p0 ≤ P) = false := decide_eq_false q1
   by_cases q2 : lo = hi
   ·have HE : Hid _ := H1.out _ HB1.out (fun h => (HM.out h).2.2.1 q2)
    have d3 : (lo == hi) = true := by simpa using q2
    clear H0 H1 HM HN HF HMay q0 q1 q2
    go_wp2
    exact HE.out
   have d3 : (lo == hi) = false := by simpa using q2
   have jf := HF.out _ lo k P (HNd.out.up HB1.out) hk
   have HN2 : Hid (fitB nG N k P lo = true → fitB nG N k P hi = true → NdMay p0 nG N k) := HN.out (by omega) (by omega) q2
   clear HN HAB HB q0 q1 q2
   have HM : Hid _ := HM.out
   generalize fitB nG N k P lo = b1 at *
   go_wp2_with fail
   refine jf.mono ?_
   rintro e w2 ⟨rfl,hb2⟩
   have HB2 : Hid (Below w.heap.size w w2) := HB1.out.trans (hb2.mono HB1.out.size)
   have HA2 : Hid _ := HA1.out.up hb2
   have HNB2 : Hid _ := HNB1.out.up hb2
   clear jf hb2 HA1 HNB1 HB1 f0 f1 f2 f3 c0 c1 c2 c3 e0 e1 e2 hidx
   obtain ⟨f0,f1,f2,f3⟩ := HA2.out
   obtain ⟨n0,n1,n2⟩ := HNB2.out
   cases b1 with
   | false =>
    have HE : Hid _ := H1.out _ HB2.out (fun h => by simpa using (HM.out h).2.2.2.1)
    clear H0 H1 HM HN2 HF HMay
    go_wp2
    exact HE.out
   | true =>
    have HN3 : Hid (fitB nG N k P hi = true → NdMay p0 nG N k) := HN2.out rfl
    have jf := HF.out _ hi k P (HNd.out.up HB2.out) hk
    have HM2 : Hid (MayG p0 nG N gs → fitB nG N k P hi = true) := fun h => (HM.out h).2.2.2.2
    clear HN2 HM
    generalize fitB nG N k P hi = b2 at *
    go_wp2_with fail
    refine jf.mono ?_
    rintro e w3 ⟨rfl,hb3⟩
    have HB3 : Hid (Below w.heap.size w w3) := HB2.out.trans (hb3.mono HB2.out.size)
    have HA3 : Hid _ := HA2.out.up hb3
    have HNB3 : Hid _ := HNB2.out.up hb3
    clear jf hb3 HA2 HNB2 HB2 f0 f1 f2 f3 n0 n1 n2
    cases b2 with
    | false =>
     have HE : Hid _ := H1.out _ HB3.out (fun h => by simpa using HM2.out h)
     clear H0 H1 HM2 HN3 HF HMay
     go_wp2
     exact HE.out
    | true =>
     have HN4 : Hid (NdMay p0 nG N k) := HN3.out rfl
     clear HN3 HM2
     generalize hq4 : wr.heap.size = q4 at *
     clear hq4
     go_wp2
     go_loopw [5] (fun i w5 => ∃ j : Nat,j ≤ k ∧ i = .int .i64 j ∧ Hid (∀ x,x < j → N.getD x (0,0,0) ≠ (P,lo,hi)) ∧ Hid (AuB w5 w.heap.size p0 aA nG cA aG nG cG aN nN cN) ∧ Hid (NdB w5 q4 P lo hi) ∧ Hid (Below w.heap.size w w5)) (fun i _ => k - (intOf i).toNat)
     case atStart => exact ⟨0,Nat.zero_le _,rfl,fun x hx => absurd hx (by omega),HA3,HNB3,HB3⟩
     case round =>
      clear HA3 HNB3 HB3
      obtain ⟨j,hj,rfl,HX,HA5,HNB5,HB5⟩ := hrel
      by_cases hjk : j < k
      ·obtain ⟨f0,f1,f2,f3⟩ := HA5.out
       obtain ⟨n0,n1,n2⟩ := HNB5.out
       have hjn : j < nN := by omega
       obtain ⟨g2,o2,s2,hix2,y0,y1,y2,_,_,_⟩ := (HNd.out.up HB5.out).at Try.underlying24 qc j hjn
       have hidx2 := fun w' => hix2 nN w' hjn
       clear hix2
       have HXN : Hid (N.getD j (0,0,0) ≠ (P,lo,hi) → ∀ x,x < j + 1 → N.getD x (0,0,0) ≠ (P,lo,hi)) := fun h x hx => by
        by_cases hxj : x = j
        ·rw [hxj]; exact h
        ·exact HX.out x (by omega)
       have HXY : Hid (N.getD j (0,0,0) = (P,lo,hi) → ¬ MayG p0 nG N gs) := fun h hm => q2n hjk (by rw [HL.out]; exact hlt) (by rw [h,Hnd.out]) hm.once
       generalize N.getD j (0,0,0) = y at *
       obtain ⟨Y0,Y1,Y2⟩ := y
       dsimp only at y0 y1 y2
       have heq := fun w => q1o Y0 Y1 Y2 P lo hi w
       clear HX
       by_cases hy : ((Y0,Y1,Y2) : Gd) = (P,lo,hi)
       ·have HE : Hid _ := H1.out _ (below_drewN HB5.out 0) (HXY.out hy)
        have H1' : Hid (∀ nq,Q (.returned (.int .i64 12)) (wr.drewN nq)) := fun nq => H1.out _ (below_drewN HB5.out nq) (HXY.out hy)
        rw [decide_eq_true hy] at heq
        clear H0 H1 HF HMay HE HXY HXN hy HA5 HNB5 HB5
        go_wp2_with fail
        go_quiet (fail)
        go_wp2
        exact H1'.out _
       ·have HX2 : Hid _ := HXN.out hy
        have HA6 : Hid (∀ nq,AuB (wr.drewN nq) w.heap.size p0 aA nG cA aG nG cG aN nN cN ∧ NdB (wr.drewN nq) q4 P lo hi ∧ Below w.heap.size w (wr.drewN nq)) := fun nq => ⟨HA5.out.up (below_drewN (Below.refl _ _) nq),HNB5.out.up (below_drewN (Below.refl _ _) nq),below_drewN HB5.out nq⟩
        rw [decide_eq_false hy] at heq
        clear H0 H1 HF HMay HXY HXN hy HA5 HNB5 HB5
        go_wp2_with fail
        go_quiet (fail)
        go_wp2
        go_roundw
        case rel => exact ⟨j + 1,by omega,by go_num,HX2,(HA6.out _).1,(HA6.out _).2.1,(HA6.out _).2.2⟩
        case measure => simp [intOf]; omega
      ·obtain rfl : j = k := by omega
       have HU2 : Hid ((N.take (j + 1)).Nodup) := q3X HU.out (by rw [HL.out]; exact hlt) (fun x hx => by rw [Hnd.out]; exact HX.out x hx)
       have HD2 : Hid (∀ i,i < j + 1 → NdMay p0 nG N i) := fun i hi => by
        by_cases e : i = j
        ·rw [e]; exact HN4.out
        ·exact HD.out i (by omega)
       clear HU HD HN4 HX H0 H1 HF HMay HNB5
       go_wp2
       go_roundw
       case rel => exact ⟨j + 1,by omega,by go_num,HD2,HU2,HA5,HB5⟩
       case measure => simp [intOf]; omega
  ·obtain rfl : k = nN := by omega
   have HU2 : Hid N.Nodup := by
    have := HU.out
    rw [List.take_of_length_le (by rw [HL.out]; exact Nat.le_refl _)] at this
    exact this
   have HM3 : Hid ((∀ j,j < nG → FitG nG N k (-1) (gs.getD j 0)) → MayG p0 nG N gs) := fun h => HMay.out HD.out HU2.out h
   have HM4 : Hid (MayG p0 nG N gs → ∀ j,j < nG → FitG nG N k (-1) (gs.getD j 0)) := fun h j hj => by
    have hl : j < gs.length := by rw [HG.out]; exact hj
    have := h.gd (gs.getD j 0) (by simp [List.getD_eq_getElem?_getD,List.getElem?_eq_getElem hl])
    rw [HL.out] at this
    exact this
   clear HU HU2 HD HMay
   obtain ⟨c0,c1,c2,c3⟩ := HAB.out
   go_wp2
   go_loopw [6] (fun i wr => ∃ j : Nat,j ≤ nG ∧ i = .int .i64 j ∧ Hid (∀ x,x < j → FitG nG N k (-1) (gs.getD x 0)) ∧ Hid (AuB wr w.heap.size p0 aA nG cA aG nG cG aN k cN) ∧ Hid (Below w.heap.size w wr)) (fun i _ => nG - (intOf i).toNat)
   case atStart => exact ⟨0,Nat.zero_le _,rfl,fun x hx => absurd hx (by omega),HAB,HB⟩
   case round =>
    clear HAB HB c0 c1 c2 c3
    obtain ⟨j,hj,rfl,HX,HA5,HB5⟩ := hrel
    by_cases hjk : j < nG
    ·obtain ⟨c0,c1,c2,c3⟩ := HA5.out
     have hidx := fun w' => HGs.out.idx nG j w' hjk (Nat.le_refl _)
     have hce := (HGs.out.up HB5.out).cell j hjk
     have hbd : Below wr.heap.size wr wr.drew := (Below.refl _ _).drew
     have jf := HF.out wr.drew (gs.getD j 0) k (-1) ((HNd.out.up HB5.out).up hbd) (Nat.le_refl _)
     have HB6 : Hid (∀ w6,Below wr.drew.heap.size wr.drew w6 → Below w.heap.size w w6 ∧ AuB w6 w.heap.size p0 aA nG cA aG nG cG aN k cN) := fun w6 h => by
      have h2 : Below wr.heap.size wr w6 := hbd.trans (h.mono hbd.size)
      exact ⟨HB5.out.trans (h2.mono HB5.out.size),HA5.out.up h2⟩
     have HXN : Hid (fitB nG N k (-1) (gs.getD j 0) = true → ∀ x,x < j + 1 → FitG nG N k (-1) (gs.getD x 0)) := fun h x hx => by
      by_cases hxj : x = j
      ·rw [hxj]; exact (qs (by rw [HL.out]; exact Nat.le_refl _)).1 h
      ·exact HX.out x (by omega)
     have HXY : Hid (fitB nG N k (-1) (gs.getD j 0) = false → ¬ MayG p0 nG N gs) := fun h hm => by
      have := (qs (m := nG) (p := -1) (r := gs.getD j 0) (show k ≤ N.length by rw [HL.out]; exact Nat.le_refl _)).2 (HM4.out hm j hjk)
      rw [h] at this
      exact absurd this (by decide)
     generalize fitB nG N k (-1) (gs.getD j 0) = b at *
     generalize gs.getD j 0 = z at *
     generalize adOf aG j = ad at *
     obtain ⟨ga,oa,sa⟩ := ad
     clear HX hbd HM4
     cases b with
     | false =>
      have H1' : Hid (∀ w6,Below wr.drew.heap.size wr.drew w6 → Q (.returned (.int .i64 12)) w6) := fun w6 h => H1.out w6 (HB6.out w6 h).1 (HXY.out rfl)
      clear H0 H1 HF HM3 HXY HXN HB6 HA5 HB5
      go_wp2_with fail
      go_region_with (first
       | (revert jf; intro jf; go_at_call 55; (with_reducible refine jf.mono ?_); rintro e w6 ⟨rfl,hb6⟩; have HE : Hid _ := H1'.out w6 hb6)
       | fail)
      all_goals
       clear jf
       go_wp2
       exact HE.out
     | true =>
      have HX2 : Hid _ := HXN.out rfl
      clear H0 H1 HF HM3 HXY HXN HA5 HB5
      go_wp2_with fail
      go_region_with (first
       | (revert jf; intro jf; go_at_call 55; (with_reducible refine jf.mono ?_); rintro e w6 ⟨rfl,hb6⟩; have HE : Hid _ := HB6.out w6 hb6)
       | fail)
      all_goals
       clear jf
       go_wp2
       go_roundw
       case rel => exact ⟨j + 1,by omega,by go_num,HX2,HE.out.2,HE.out.1⟩
       case measure => simp [intOf]; omega
    ·obtain ⟨c0,c1,c2,c3⟩ := HA5.out
     obtain rfl : j = nG := by omega
     have HE : Hid _ := H0.out _ HB5.out (HM3.out HX.out)
     clear H0 H1 HF HM3 HM4
     go_wp2
     exact HE.out
theorem q1u {w w' : World} (h : ∃ n,w' = w.drewN n) : Below w.heap.size w w' := by obtain ⟨n,rfl⟩ := h; exact below_drewN (Below.refl _ _) n
theorem RowI.zsl {P : Program} {T e : TypeId} {w : World} {g n : Nat} {cur : List Int} (h : RowI w e g cur) (hu : P.underlying T = some (.slice e)) (hs : (P.info? e).map (·.size) = some 1) (hn : n ≤ cur.length) (hm : cur.length ≤ maxLen) :
  IntSl P T .i64 w (some ⟨g,0,none⟩) n cur.length (cur.take n) := by
 have had : ∀ k,adOf (some ⟨g,0,none⟩) k = ⟨g,k,none⟩ := fun k => by simp [adOf,q8]
 refine ⟨by simp; omega,hn,hm,fun m k w hk hm => qd hu hs (by simp) k w hk,fun k hk => ?_,fun k hk => ?_,by simp⟩
 ·rw [had,h.cell (by omega)]; simp [List.getD_eq_getElem?_getD,hk]
 ·rw [had]; exact h.lt
def markI (i : Nat) : Int := 7700 + (i : Int)
def lentToZ (zs : List Int) (k : Nat) : List Int := zs ++ ((List.range k).map (fun j => markI (zs.length + j)) ++ List.replicate (3 - k) 0)
def lentZ (zs : List Int) : List Int := zs ++ (List.range 3).map (fun j => markI (zs.length + j))
theorem q3r (zs : List Int) {k : Nat} (h : k ≤ 3) : (lentToZ zs k).length = zs.length + 3 := by simp [lentToZ]; omega
theorem q3q (zs : List Int) : lentToZ zs 3 = lentZ zs := by simp [lentToZ,lentZ]
theorem qh (zs : List Int) : (lentZ zs).length = zs.length + 3 := by simp [lentZ]
theorem q1L (zs : List Int) : (lentZ zs).take zs.length = zs := by simp [lentZ]
theorem q3s (zs : List Int) {k : Nat} (h : k < 3) : (lentToZ zs k).set (zs.length + k) (markI (zs.length + k)) = lentToZ zs (k + 1) := by
 unfold lentToZ
 obtain ⟨d,hd⟩ : ∃ d,3 - k = d + 1 := ⟨3 - k - 1,by omega⟩
 have hd2 : 3 - (k + 1) = d := by omega
 rw [hd,hd2,List.range_succ,List.replicate_succ,List.set_append_right _ _ (by simp)]
 congr 1
 rw [show zs.length + k - zs.length = k by omega,List.set_append_right _ _ (by simp),List.map_append]
 simp
theorem q43 (a : Option Addr) (len cap : Nat) (zs : List Int) (w : World) (hS : IntSl Try.prog 23 .i64 w a len cap zs) :
  ∃ w2,(∀ ty,(Builtin.copy_ #[23,23] ty #[.slice (some ⟨w.heap.size,0,none⟩) (len + 3) (len + 3),.slice a len cap]).run Try.prog (w.alloc (.cells ((List.replicate (len + 3) (0 : Int)).map (Value.int .i64)).toArray 3)) = .ok (goInt len) w2) ∧
   RowI w2 3 w.heap.size (lentToZ zs 0) ∧ Below w.heap.size w w2 := by
 by_cases h0 : len = 0
 ·subst h0
  have hnil : zs = [] := List.eq_nil_of_length_eq_zero hS.hlen
  subst hnil
  exact ⟨_,fun ty => run_copy_none _ _ _ ty 3 _ _ _ _ _ _ Try.underlying23 qb (by simp),(MapKept.heap_alloc w _).1,(Below.refl _ _).alloc (Nat.le_refl _) _⟩
 ·cases a with
  | none => have h1 := hS.nn rfl; have h2 := hS.hcap; exact absurd h1 (by omega)
  | some x =>
   have hlm : (zs.map (Value.int .i64)).length = len := by rw [List.length_map,hS.hlen]
   have hrun := fun ty => run_copy_row (P := Try.prog) (w.alloc (.cells ((List.replicate (len + 3) (0 : Int)).map (Value.int .i64)).toArray 3)) 23 23 ty 3 w.heap.size 0 (len + 3) (len + 3) x len cap _ 3 (zs.map (Value.int .i64)) Try.underlying23 qb (MapKept.heap_alloc w _).1
    (by rw [hlm]; simp) (fun j v hj => by
     have hjl : j < len := by rw [← hlm]; exact (List.getElem?_eq_some_iff.1 hj).1
     have hc := hS.cell j hjl
     have e : v = .int .i64 (zs.getD j 0) := by
      rw [List.getElem?_map,List.getElem?_eq_getElem (by rw [hS.hlen]; exact hjl)] at hj
      simp [List.getD_eq_getElem?_getD,List.getElem?_eq_getElem (show j < zs.length by rw [hS.hlen]; exact hjl)]
      simpa using hj.symm
     have hc2 : w.cell? (x.add j) = some v := by rw [e]; exact hc
     exact cell_later ((Below.refl _ _).alloc (Nat.le_refl _) _) hc2) (by rw [hlm]; simp) (by
     intro v hv; obtain ⟨s,_,rfl⟩ := List.mem_map.1 hv; rfl)
   rw [hlm] at hrun
   refine ⟨_,hrun,?_,?_⟩
   ·unfold RowI
    rw [setRow_heap _ _ _ _ _ _ (MapKept.heap_alloc w _).1]
    congr 2
    apply Array.ext'
    simp [lentToZ,hS.hlen]
   ·exact ql ((Below.refl _ _).alloc (Nat.le_refl _) _) (Nat.le_refl _) _
theorem q1a (l : Nat) (L : Int) (hl : L = l) (hb : l ≤ 1000000) (w : World) :
  (Instr.makeSlice 23 (.int .i64 L) (.int .i64 L)).run Try.prog w = .ok (.slice (some ⟨w.heap.size,0,none⟩) l l) (w.alloc (.cells ((List.replicate l (0 : Int)).map (Value.int .i64)).toArray 3)) := by
 subst hl
 rw [qF l hb w,madeI]
theorem q13 (a : Option Addr) (len cap : Nat) (zs : List Int) (w : World) (hS : IntSl Try.prog 23 .i64 w a len cap zs) (h20 : len ≤ 900000) :
  Calls Try.prog 27 #[.slice a len cap] w fun e w' => e = .returned (.slice (some ⟨w.heap.size,0,none⟩) len (len + 3)) ∧ RowI w' 3 w.heap.size (lentZ zs) ∧ Below w.heap.size w w' := by
 obtain ⟨w2,hcp,hrow,hb⟩ := q43 a len cap zs w hS
 have HL : Hid (zs.length = len) := hS.hlen
 have hmk := fun w => q1a (len + 3) ((len : Int) + 3) (by omega) (by omega) w
 obtain ⟨Z,hZ⟩ : ∃ Z,Z = ((List.replicate (len + 3) (0 : Int)).map (Value.int .i64)).toArray := ⟨_,rfl⟩
 simp only [← hZ] at hcp hmk
 clear hZ
 go_enter Try.func27,Try.ntmps27
 go_wp2
 clear hmk hcp
 go_loopw [4] (fun i wr => ∃ k : Nat,len ≤ k ∧ k ≤ len + 3 ∧ i = .int .i64 k ∧ RowI wr 3 w.heap.size (lentToZ zs (k - len)) ∧ Below w.heap.size w wr) (fun i _ => len + 3 - (intOf i).toNat)
 case atStart => exact ⟨len,Nat.le_refl _,by omega,rfl,by rw [Nat.sub_self]; exact hrow,hb⟩
 case round =>
  obtain ⟨k,hk0,hk,rfl,hr,hnx⟩ := hrel
  by_cases hlt : k < len + 3
  ·have hc1 := hr.cell (i := k) (by rw [q3r _ (by omega),HL.out]; omega)
   have hf1 := hr.frozen k
   have R1 : RowI (wr.setCell ⟨w.heap.size,k,none⟩ (.int .i64 (markI k))) 3 w.heap.size (lentToZ zs (k + 1 - len)) := by
    have := hr.set k (markI k)
    have e : zs.length + (k - len) = k := by rw [HL.out]; omega
    have h2 := q3s zs (k := k - len) (by omega)
    rw [e] at h2
    rw [h2,show k - len + 1 = k + 1 - len by omega] at this
    exact this
   have R2 : Below w.heap.size w (wr.setCell ⟨w.heap.size,k,none⟩ (.int .i64 (markI k))) := hnx.setCell (Nat.le_refl _) _
   clear hr hnx
   unfold markI at R1 R2
   go_wp2
   go_roundw
   case rel => exact ⟨k + 1,by omega,by omega,by go_num,R1,R2⟩
   case measure => simp [intOf]; omega
  ·obtain rfl : k = len + 3 := by omega
   go_wp2
   go_ret
   exact ⟨rfl,by rw [show len + 3 - len = 3 by omega,q3q] at hr; exact hr,hnx⟩
theorem q19 {w : World} {g len : Nat} {zs : List Int} (hR : RowI w 3 g (lentZ zs)) (hl : zs.length = len) (h : len ≤ 900000) : IntSl Try.prog 23 .i64 w (some ⟨g,0,none⟩) (len + 3) (len + 3) (lentZ zs) := by
 have := hR.zsl (P := Try.prog) (T := 23) (n := len + 3) Try.underlying23 qb (by rw [qh]; omega) (by rw [qh]; unfold maxLen; omega)
 rw [List.take_of_length_le (by rw [qh]; omega),qh,hl] at this
 exact this
theorem q2A (g len : Nat) (a : Option Addr) (cap : Nat) (zs : List Int) (w : World) (hR : RowI w 3 g (lentZ zs)) (hS : IntSl Try.prog 23 .i64 w a len cap zs) (h20 : len ≤ 900000) :
  Calls Try.prog 34 #[.slice (some ⟨g,0,none⟩) len (len + 3),.slice a len cap] w fun e w' => e = .returned (.bool true) ∧ Below w.heap.size w w' := by
 have hd : Below w.heap.size w w.drew := (Below.refl _ _).drew
 have hle := q13 a len cap zs w.drew (hS.up hd) h20
 have hsm : ∀ w1,RowI w1 3 w.drew.heap.size (lentZ zs) → Below w.drew.heap.size w.drew w1 → Calls Try.prog 15 #[.slice (some ⟨g,0,none⟩) (len + 3) (len + 3),.slice (some ⟨w.drew.heap.size,0,none⟩) (len + 3) (len + 3)] w1 fun e w' => e = .returned (.bool true) ∧ Below w1.heap.size w1 w' := fun w1 h1 h2 =>
  (qk _ _ _ _ _ _ _ _ w1 (q19 ((hR.up hd).up h2) hS.hlen h20) (q19 h1 hS.hlen h20)).mono fun e w' ⟨he,hn⟩ => ⟨by rw [he]; simp,q1u hn⟩
 clear hR hS
 obtain ⟨C,hC⟩ : ∃ C : Nat,C = len + 3 := ⟨_,rfl⟩
 have hsum : IntKind.i64.wrap ((len : Int) + 3) = (C : Int) := by rw [hC,IntWalk.i64_left,IntWalk.wrap64_in _ (by omega)]; omega
 have hC0 : (0 : Int) ≤ (C : Int) := by omega
 have hC1 : (C : Int) ≤ (C : Int) := by omega
 have hC2 : (C : Int) ≤ 9223372036854775807 := by omega
 have hC3 : (len : Int) ≤ (C : Int) := by omega
 rw [← hC] at hle hsm ⊢
 clear hC hd
 go_enter Try.func34,Try.ntmps34
 go_wp2
 go_region_held3 (fun _ => True) (trivial) (first | (go_at_call 27; refine hle.mono ?_; rintro e w1 ⟨rfl,h1,h2⟩; have hs1 := hsm w1 h1 h2) | (go_at_call 15; refine hs1.mono ?_; rintro e w3 ⟨rfl,h3⟩))
 go_wp2
 go_ret
 have hd : Below w.heap.size w w.drew := (Below.refl _ _).drew
 exact ⟨rfl,hd.trans (h2.trans (h3.mono h2.size))⟩
theorem q3p (w : World) (o : Obj) : (w.alloc o).heap.size = w.heap.size + 1 := by simp
theorem q28 (p : Int) (aA : Option Addr) (nA cA : Nat) (aG : Option Addr) (nG cG : Nat) (aN : Option Addr) (nN cN : Nat) (bA : Option Addr) (dA : Nat) (bG : Option Addr) (dG : Nat) (bN : Option Addr) (dN : Nat) (bs : List Bool) (gs : List Int) (N : List Gd) (w : World)
  (h1 : BoSl w aA nA cA bs) (h2 : ZSl w aG nG cG gs) (h3 : NdSl w aN nN cN N) (k1 : BoSl w bA nA dA bs) (k2 : ZSl w bG nG dG gs) (k3 : NdSl w bN nN dN N) :
  Calls Try.prog 33 #[.agg #[.int .i64 p,.slice aA nA cA,.slice aG nG cG,.slice aN nN cN],.agg #[.int .i64 p,.slice bA nA dA,.slice bG nG dG,.slice bN nN dN]] w fun e w' => e = .returned (.bool true) ∧ Below w.heap.size w w' := by
 have HA0 : Hid _ := qa w p aA nA cA aG nG cG aN nN cN
 have HB0 : Hid _ := q7 w (.cells #[.int .i64 p,.slice aA nA cA,.slice aG nG cG,.slice aN nN cN] 26 (0,0))
 have HS1 : Hid (∀ w',Below w.heap.size w w' → Calls Try.prog 16 #[.slice aA nA cA,.slice bA nA dA] w' fun e w2 => e = .returned (.bool true) ∧ Below w'.heap.size w' w2) := fun w' hb => by
  have := qA aA nA cA bs bA nA dA bs w' (h1.up hb) (k1.up hb)
  simpa using this
 have HS2 : Hid (∀ w',Below w.heap.size w w' → Calls Try.prog 15 #[.slice aG nG cG,.slice bG nG dG] w' fun e w2 => e = .returned (.bool true) ∧ Below w'.heap.size w' w2) := fun w' hb =>
  (qk aG nG cG gs bG nG dG gs w' (h2.up hb) (k2.up hb)).mono fun e w2 ⟨he,hn⟩ => ⟨by rw [he]; simp,q1u hn⟩
 have HS3 : Hid (∀ w',Below w.heap.size w w' → Calls Try.prog 46 #[.slice aN nN cN,.slice bN nN dN] w' fun e w2 => e = .returned (.bool true) ∧ Below w'.heap.size w' w2) := fun w' hb => by
  have := q29 aN nN cN N bN nN dN N w' (h3.up hb) (k3.up hb)
  simpa using this
 clear h1 h2 h3 k1 k2 k3
 generalize hw1 : w.alloc (.cells #[.int .i64 p,.slice aA nA cA,.slice aG nG cG,.slice aN nN cN] 26 (0,0)) = w1 at *
 have Hw1 : Hid _ := hw1
 have HA1 : Hid _ := qa w1 p bA nA dA bG nG dG bN nN dN
 have HBn : Hid _ := q7 w1 (.cells #[.int .i64 p,.slice bA nA dA,.slice bG nG dG,.slice bN nN dN] 26 (0,0))
 have HB1 : Hid _ := q5 HB0.out HBn.out
 have HA2 : Hid _ := HA0.out.up HBn.out
 obtain ⟨c0,c1,c2,c3⟩ := HA2.out
 obtain ⟨d0,d1,d2,d3⟩ := HA1.out
 have j1 := HS1.out _ HB1.out
 rw [← hw1] at c0 c1 c2 c3 d0 d1 d2 d3 j1
 clear hw1
 go_enter Try.func33,Try.ntmps33
 go_wp2_with fail
 refine j1.mono ?_
 rw [Hw1.out]
 rintro e w2 ⟨rfl,hb2⟩
 have HA3 : Hid _ := HA2.out.up hb2
 have HA4 := HA1.out.up hb2
 rw [← Hw1.out,q3p] at HA4
 have HA4 : Hid _ := HA4
 have HB2 : Hid _ := HB1.out.trans (hb2.mono HB1.out.size)
 clear c0 c1 c2 c3 d0 d1 d2 d3 j1 hb2
 have j2 := HS2.out _ HB2.out
 obtain ⟨c0,c1,c2,c3⟩ := HA3.out
 obtain ⟨d0,d1,d2,d3⟩ := HA4.out
 go_wp2_with fail
 refine j2.mono ?_
 rintro e w3 ⟨rfl,hb3⟩
 have HA5 : Hid _ := HA3.out.up hb3
 have HA6 : Hid _ := HA4.out.up hb3
 have HB3 : Hid _ := HB2.out.trans (hb3.mono HB2.out.size)
 clear c0 c1 c2 c3 d0 d1 d2 d3 j2 hb3
 have j3 := HS3.out _ HB3.out
 obtain ⟨c0,c1,c2,c3⟩ := HA5.out
 obtain ⟨d0,d1,d2,d3⟩ := HA6.out
 go_wp2_with fail
 refine j3.mono ?_
 rintro e w4 ⟨rfl,hb4⟩
 have HB4 : Hid _ := HB3.out.trans (hb4.mono HB3.out.size)
 clear c0 c1 c2 c3 d0 d1 d2 d3 j3 hb4
 go_wp2
 go_ret
 exact ⟨rfl,HB4.out⟩
theorem q15 {P : Program} {s : Nat} (w : World) (dT sT ty elem : TypeId) (g dLen dCap : Nat) (a : Addr) (sLen sCap : Nat) (cur : Array Value) (t : TypeId) (cs : List Value)
  (hu : P.underlying dT = some (.slice elem)) (hs : (P.info? elem).map (·.size) = some s)
  (hg : w.heap[g]? = some (.cells cur t (0,0))) (hn : Nat.min sLen dLen = sLen) (hl : cs.length = sLen * s)
  (hsrc : ∀ j v,cs[j]? = some v → w.cell? (a.add j) = some v) (hfit : cs.length ≤ cur.size) (h1 : ∀ v ∈ cs,v.oneCell' = true) :
  (Builtin.copy_ #[dT,sT] ty #[.slice (some ⟨g,0,none⟩) dLen dCap,.slice (some a) sLen sCap]).run P w =
   .ok (goInt sLen) (w.setRow g (cs ++ cur.toList.drop cs.length).toArray) := by
 have hld := run_loadCells_list (P := P) w a cs hsrc
 have hst := run_storeCells_at P g 0 t cs 0 cur w hg (by simpa using hfit) h1
 cases hq : P.info? elem with
 | none => simp [hq] at hs
 | some i =>
  have hi : i.size = s := by simpa [hq] using hs
  have hn' : min sLen dLen = sLen := hn
  simp [Builtin.copy_,run_underlying hu,Builtin.lenOf,Builtin.firstCells,sizeOf,typeInfo,hq,hi,hn',← hl,hld,hst]
theorem qW {P : Program} {s : Nat} (w : World) (dT sT ty elem : TypeId) (d a : Option Addr) (dLen dCap sCap : Nat) (hu : P.underlying dT = some (.slice elem)) (hs : (P.info? elem).map (·.size) = some s) :
  (Builtin.copy_ #[dT,sT] ty #[.slice d dLen dCap,.slice a 0 sCap]).run P w = .ok (goInt 0) w := by
 cases hq : P.info? elem with
 | none => simp [hq] at hs
 | some i =>
  have hmin : Nat.min 0 dLen = 0 := Nat.zero_min _
  cases d <;> cases a <;> simp [Builtin.copy_,run_underlying hu,Builtin.lenOf,Builtin.firstCells,sizeOf,typeInfo,hq,hmin,loadCells,loadCellsFrom,storeCells]
def NdRow (w : World) (g : Nat) (N : List Gd) : Prop := w.heap[g]? = some (.cells (encGd N).toArray 63 (0,0))
def zG (k : Nat) : List Gd := List.replicate k (0,0,0)
theorem madeG (n : Nat) : madeCells #[.int .i64 0,.int .i64 0,.int .i64 0] (n * 3) = (encGd (zG n)).toArray := by
 apply Array.ext_getElem?
 intro i
 by_cases h : i < n * 3
 ·have hl : ∀ i,i < n * 3 → (encGd (zG n))[i]? = some (.int .i64 0) := by
   intro i h
   obtain ⟨k,h0⟩ : ∃ k,i = 3 * k ∨ i = 3 * k + 1 ∨ i = 3 * k + 2 := ⟨i / 3,by omega⟩
   rcases h0 with rfl | rfl | rfl
   ·rw [(qf _ k (by simp [zG]; omega)).1]; simp [zG]
   ·rw [(qf _ k (by simp [zG]; omega)).2.1]; simp [zG]
   ·rw [(qf _ k (by simp [zG]; omega)).2.2]; simp [zG]
  have hr : (encGd (zG n)).toArray[i]? = some (.int .i64 0) := by simpa using hl i h
  rw [hr]
  have h3 : i % 3 = 0 ∨ i % 3 = 1 ∨ i % 3 = 2 := by omega
  rcases h3 with h0 | h0 | h0 <;> simp [madeCells,h,h0]
 ·have hr : (encGd (zG n)).toArray[i]? = none := by
   rw [Array.getElem?_eq_none]; rw [List.size_toArray,qu]; simp [zG]; omega
  rw [hr,Array.getElem?_eq_none]
  simp [madeCells]; omega
theorem q3N (l c : Nat) (L C : Int) (hl : L = l) (hc : C = c) (hlc : l ≤ c) (hb : c ≤ 1000000) (w : World) :
  (Instr.makeSlice 24 (.int .i64 L) (.int .i64 C)).run Try.prog w = .ok (.slice (some ⟨w.heap.size,0,none⟩) l c) (w.alloc (.cells (encGd (zG c)).toArray 63)) := by
 obtain ⟨i,hi,hz0,hz1,hz2⟩ := info_parts q2Q
 have := run_make (P := Try.prog) w 24 63 i (.agg #[.int .i64 0,.int .i64 0,.int .i64 0]) Try.underlying24 hi hz0 .i64 .i64 L C (by omega) (by omega) (by rw [hz2]; omega) (by omega)
 rw [this,hl,hc,hz1,← madeG]
 simp only [Int.toNat_natCast]
 rfl
theorem q3I (g : Nat) (a : Option Addr) (len cap : Nat) (N : List Gd) (w : World) (hg : NdRow w g (zG (len + 3))) (hS : NdSl w a len cap N) (B : Nat) (hB : B ≤ g) (W : World) (hW : Below B W w) :
  ∃ w2,(∀ ty,(Builtin.copy_ #[24,24] ty #[.slice (some ⟨g,0,none⟩) len (len + 3),.slice a len cap]).run Try.prog w = .ok (goInt len) w2) ∧ NdRow w2 g (N ++ zG 3) ∧ Below B W w2 ∧ ∀ k,k ≠ g → w2.heap[k]? = w.heap[k]? := by
 by_cases h0 : len = 0
 ·subst h0
  have hnil : N = [] := List.eq_nil_of_length_eq_zero hS.hlen
  subst hnil
  exact ⟨w,fun ty => qW _ _ _ ty 63 _ _ _ _ _ Try.underlying24 qc,hg,hW,fun _ _ => rfl⟩
 ·cases a with
  | none => have h1 := hS.nn rfl; have h2 := hS.hcap; exact absurd h1 (by omega)
  | some x =>
   have hlm : (encGd N).length = len * 3 := by rw [qu,hS.hlen]
   have hrl : (encGd (zG (len + 3))).length = (len + 3) * 3 := by rw [qu]; simp [zG]
   have hrun := fun ty => q15 (P := Try.prog) w 24 24 ty 63 g len (len + 3) x len cap _ 63 (encGd N) Try.underlying24 qc hg
    (Nat.min_eq_left (by omega)) hlm (fun j v hj => hS.cells j v hj) (by rw [hlm,List.size_toArray,hrl]; omega) (q47 N)
   refine ⟨_,hrun,?_,ql hW hB _,fun k hk => ?_⟩
   ·unfold NdRow
    rw [setRow_heap _ _ _ _ _ _ hg]
    congr 3
    have e1 : zG (len + 3) = zG len ++ zG 3 := by unfold zG; rw [List.replicate_append_replicate]
    have e2 : (encGd (zG len)).length = (encGd N).length := by rw [qu,hlm]; simp [zG]
    show (encGd N ++ (encGd (zG (len + 3))).toArray.toList.drop (encGd N).length) = encGd (N ++ zG 3)
    have e3 : (encGd (zG (len + 3))).toArray.toList = encGd (zG (len + 3)) := rfl
    rw [e3,e1,qG,← e2,List.drop_left,← qG]
   ·exact setRow_other _ _ _ _ hk
def BoRow (w : World) (g : Nat) (bs : List Bool) : Prop := w.heap[g]? = some (.cells (bs.map Value.bool).toArray 4 (0,0))
def zB (k : Nat) : List Bool := List.replicate k false
theorem madeB (n : Nat) : madeCells #[.bool false] n = ((zB n).map Value.bool).toArray := by
 apply Array.ext_getElem?
 intro i
 by_cases h : i < n
 ·simp [madeCells,zB,h,Nat.mod_one]
 ·simp [madeCells,zB,h]
theorem q3g : (Try.prog.info? 4).map (fun i => (i.zero,i.size,i.bytes)) = some (some (.bool false),1,1) := by kernel_rfl
theorem qB (l c : Nat) (L C : Int) (hl : L = l) (hc : C = c) (hlc : l ≤ c) (hb : c ≤ 1000000) (w : World) :
  (Instr.makeSlice 22 (.int .i64 L) (.int .i64 C)).run Try.prog w = .ok (.slice (some ⟨w.heap.size,0,none⟩) l c) (w.alloc (.cells ((zB c).map Value.bool).toArray 4)) := by
 obtain ⟨i,hi,hz0,hz1,hz2⟩ := info_parts q3g
 have := run_make (P := Try.prog) w 22 4 i (.bool false) Try.underlying22 hi hz0 .i64 .i64 L C (by omega) (by omega) (by rw [hz2]; omega) (by omega)
 rw [this,hl,hc,hz1,← madeB]
 simp only [Int.toNat_natCast,Nat.mul_one]
 rfl
theorem q3G (g : Nat) (a : Option Addr) (len cap : Nat) (bs : List Bool) (w : World) (hg : BoRow w g (zB (len + 3))) (hS : BoSl w a len cap bs) (B : Nat) (hB : B ≤ g) (W : World) (hW : Below B W w) :
  ∃ w2,(∀ ty,(Builtin.copy_ #[22,22] ty #[.slice (some ⟨g,0,none⟩) len (len + 3),.slice a len cap]).run Try.prog w = .ok (goInt len) w2) ∧ BoRow w2 g (bs ++ zB 3) ∧ Below B W w2 ∧ ∀ k,k ≠ g → w2.heap[k]? = w.heap[k]? := by
 by_cases h0 : len = 0
 ·subst h0
  have hnil : bs = [] := List.eq_nil_of_length_eq_zero hS.hlen
  subst hnil
  exact ⟨w,fun ty => qW _ _ _ ty 4 _ _ _ _ _ Try.underlying22 qg,hg,hW,fun _ _ => rfl⟩
 ·cases a with
  | none => have h1 := hS.nn rfl; have h2 := hS.hcap; exact absurd h1 (by omega)
  | some x =>
   have hlm : (bs.map Value.bool).length = len * 1 := by rw [List.length_map,hS.hlen,Nat.mul_one]
   have hrun := fun ty => q15 (P := Try.prog) w 22 22 ty 4 g len (len + 3) x len cap _ 4 (bs.map Value.bool) Try.underlying22 qg hg
    (Nat.min_eq_left (by omega)) hlm (fun j v hj => by
     have hjl : j < bs.length := by simpa using (List.getElem?_eq_some_iff.1 hj).1
     have := hS.c x rfl j hjl
     rw [this]
     simpa [List.getElem?_eq_getElem hjl] using hj) (by rw [hlm]; simp [zB]) (by
     intro v hv; obtain ⟨b,_,rfl⟩ := List.mem_map.1 hv; rfl)
   refine ⟨_,hrun,?_,ql hW hB _,fun k hk => setRow_other _ _ _ _ hk⟩
   unfold BoRow
   rw [setRow_heap _ _ _ _ _ _ hg]
   congr 2
   apply Array.ext'
   simp [zB,hS.hlen]
theorem al3 (w : World) (A B C : Obj) : (((w.alloc A).alloc B).alloc C).heap[w.heap.size]? = some A ∧ (((w.alloc A).alloc B).alloc C).heap[w.heap.size + 1]? = some B ∧ (((w.alloc A).alloc B).alloc C).heap[w.heap.size + 1 + 1]? = some C ∧ Below w.heap.size w (((w.alloc A).alloc B).alloc C) := by
 have h1 := (MapKept.heap_alloc w A).1
 have h2 := (MapKept.heap_alloc (w.alloc A) B).1
 have h3 := (MapKept.heap_alloc ((w.alloc A).alloc B) C).1
 have e1 : (w.alloc A).heap.size = w.heap.size + 1 := by simp
 have e2 : ((w.alloc A).alloc B).heap.size = w.heap.size + 1 + 1 := by simp
 have b1 := q7 (w.alloc A) B
 have b2 := q7 ((w.alloc A).alloc B) C
 rw [e1] at h2 b1
 rw [e2] at h3 b2
 refine ⟨?_,?_,h3,?_⟩
 ·rw [b2.block _ (by omega),b1.block _ (by omega)]; exact h1
 ·rw [b2.block _ (by omega)]; exact h2
 ·exact ((q7 w A).alloc (by omega) B).alloc (by omega) C
theorem q3E {P : Program} {T e : TypeId} {w : World} {base n : Nat} {v : Value} {zs : List Int} (h : w.ownsRow base e 1 v n (zs.map (Value.int .i64))) (hu : P.underlying T = some (.slice e)) (hs : (P.info? e).map (·.size) = some 1) :
  ∃ a cap,v = .slice a n cap ∧ IntSl P T .i64 w a n cap zs ∧ (∀ k,k < n → base ≤ (adOf a k).block) ∧ ∀ x,a = some x → x.block < w.heap.size := by
 obtain ⟨hl,h⟩ := h
 simp at hl
 rcases h with ⟨rfl,rfl⟩ | ⟨g,cap,cur,rfl,hg,hcell,hnc,hcm,hsz,htk⟩
 ·have : zs = [] := List.eq_nil_of_length_eq_zero hl
  subst this
  exact ⟨none,0,rfl,⟨rfl,Nat.le_refl _,Nat.zero_le _,fun m k w hk hm => absurd hk (by omega),fun k hk => absurd hk (by omega),fun k hk => absurd hk (by omega),fun _ => rfl⟩,fun k hk => absurd hk (by omega),fun x hx => by cases hx⟩
 ·have had : ∀ k,adOf (some ⟨g,0,none⟩) k = ⟨g,k,none⟩ := fun k => by simp [adOf,q8]
  have hlt : g < w.heap.size := (Array.getElem?_eq_some_iff.1 hcell).1
  refine ⟨some ⟨g,0,none⟩,cap,rfl,⟨hl,hnc,hcm,fun m k w hk hm => qd hu hs (by simp) k w hk,fun k hk => ?_,fun k hk => by rw [had]; exact hlt,by simp⟩,fun k hk => by rw [had]; exact hg,fun x hx => by injection hx with hx; rw [← hx]; exact hlt⟩
  rw [had]
  have hk2 : (cur.toList.take (n * 1))[k]? = some (.int .i64 (zs.getD k 0)) := by
   rw [htk]; simp [List.getD_eq_getElem?_getD,List.getElem?_eq_getElem (show k < zs.length by omega)]
  rw [List.getElem?_take,if_pos (by omega)] at hk2
  simp [World.cell?,hcell]
  simpa using hk2
end Go.Proofs.Ytbgogbafkoekjaa
