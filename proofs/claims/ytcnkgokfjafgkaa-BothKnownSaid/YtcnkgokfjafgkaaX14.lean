/- Texts of the proof, put together: what it uses. -/
import Derived.BigQuiet
import Derived.Test.YtcnkgokfjafgkaaX09
import Derived.Test.YtcnkgokfjafgkaaX11
import Derived.Test.YtcnkgokfjafgkaaX12
import Derived.Test.YtcnkgokfjafgkaaX13
set_option maxRecDepth 100000
set_option maxHeartbeats 16000000
namespace Go.Proofs.Ytcnkgokfjafgkaa
open Go.RowKit Go.Maps
variable {D : PgD} {w : World} {vi vw vq : Value} {vs : List Value} {of : List Nat} {ins : List (List Nat)} {ws : List Bool} {qu : List Nat} {S K : Nat} {R : List (List Nat)} {bs : List Bool} {C : List Nat} {kl : Nat}
def mnL (of X : List Nat) (n : Nat) : List Int := (List.range n).map fun c => ((mnH of X c : Nat) : Int)
theorem q6I (of X : List Nat) (n : Nat) : (mnL of X n).length = n := by simp [mnL]
theorem q7R {of X : List Nat} {n c : Nat} (h : c < n) : (mnL of X n).getD c 0 = ((mnH of X c : Nat) : Int) := by
 rw [mnL,List.getD_eq_getElem?_getD,List.getElem?_map,List.getElem?_range h]; rfl
theorem q9T (of : List Nat) (n : Nat) : mnL of [] n = List.replicate n 0 := by
 apply List.ext_getElem (by simp [mnL])
 intro i h1 h2
 simp [mnL,mnH]
theorem q8P {of X : List Nat} {n k : Nat} (hk : k < X.length) : (mnL of (X.take k) n).set (of.getD (X.getD k 0) 0) (((mnH of (X.take k) (of.getD (X.getD k 0) 0) : Nat) : Int) + 1) = mnL of (X.take (k + 1)) n := by
 have key : ∀ c,mnH of (X.take (k + 1)) c = mnH of (X.take k) c + if of.getD (X.getD k 0) 0 = c then 1 else 0 := fun c => by
  rw [qD hk,mnH,List.countP_append,mnH]
  congr 1
  rw [List.countP_cons,List.countP_nil]
  simp [-List.getD_eq_getElem?_getD]
 apply List.ext_getElem (by simp [mnL])
 intro i h1 h2
 rw [List.getElem_set]
 simp only [mnL,List.getElem_map,List.getElem_range,key]
 by_cases e : of.getD (X.getD k 0) 0 = i
 ·rw [if_pos e,if_pos e,e]; rfl
 ·rw [if_neg e,if_neg e]; rfl
def PtgL (D : PgD) (S K : Nat) (R : List (List Nat)) (bs : List Bool) (C : List Nat) (k : Nat) (of0 : List Nat) (ins0 : List (List Nat)) (qu0 X : List Nat) (c : Nat) (w0 : World) (vi vw vq : Value) (w' : World) : Prop := ∃ of ins ws qu,PgR D w0 vi vw vq of ins ws qu w' ∧ PartH S K R bs C k of0 ins0 qu0 X c of ins ws qu
theorem q2I (h : PgW D w vi vw vq vs of ins ws qu) (hop : HopH S K R bs C kl of ins ws qu) (hR : RowsP S K R) (hDS : D.S = S) (hS1 : S ≤ 1000) (hq0 : qu.length ≤ 50000) (a : Option Addr) (capX : Nat) (X : List Nat) (hX : LsB w D.go vq a X) (hXs : ∀ x ∈ X,x < S) (hXn : X.Nodup) (ha : ∀ s t,s < S → t < S → AlikeP K R bs s t → (s ∈ X ↔ t ∈ X)) :
  Calls Try.prog 56 #[.pointer (some ⟨D.b,0,none⟩),.slice a X.length capX] w fun e w' => e = .returned (.tuple #[]) ∧ PtgL D S K R bs C kl of ins qu X ins.length w vi vw vq w' := by
 obtain ⟨Z,eZ⟩ : ∃ Z : Ending → World → Prop,Z = fun e w' => e = .returned (.tuple #[]) ∧ PtgL D S K R bs C kl of ins qu X ins.length w vi vw vq w' := ⟨_,rfl⟩
 have HZ : Hid (∀ w',PtgL D S K R bs C kl of ins qu X ins.length w vi vw vq w' → Z (.returned (.tuple #[])) w') := fun w' h1 => by rw [eZ]; exact ⟨rfl,h1⟩
 rw [← eZ]
 clear eZ
 subst hDS
 have hXl : X.length ≤ D.S := qn hXn hXs
 have hfew := hop.prt.few
 obtain ⟨ia,ic,rfl⟩ := qe h.fi
 have c2 := h.c.2.2.1
 have H0 : Hid _ := h
 have HHOP : Hid _ := hop
 have HX : Hid (LsB w D.go vq a X) := hX
 have HXS : Hid _ := hXs
 have HXN : Hid _ := hXn
 have HA : Hid _ := ha
 have HRR : Hid _ := hR
 clear h hX hXs hXn hop ha hR
 have hmk := fun w => qR ins.length (ins.length : Int) rfl (by omega) w
 have HB0 : Hid (Below w.heap.size w (w.alloc (.cells ((List.replicate ins.length (0 : Int)).map (Value.int .i64)).toArray 3))) := q5 _ _
 have HI0 : Hid (IzB (w.alloc (.cells ((List.replicate ins.length (0 : Int)).map (Value.int .i64)).toArray 3)) w.heap.size (mnL of [] ins.length)) := by
  show IzB _ _ _
  rw [q9T]; exact (MapKept.heap_alloc w _).1
 rw [show ((List.replicate ins.length (0 : Int)).map (Value.int .i64)).toArray = Array.replicate ins.length (.int .i64 0) by simp] at HB0 HI0
 generalize hn : ins.length = n at *
 have HN : Hid _ := hn
 clear hn
 generalize hXX : X.length = L at *
 have HXX : Hid _ := hXX
 clear hXX
 go_enter Try.func56,Try.ntmps56
 go_wp2
 clear c2 hmk
 go_loopw [17] (fun i wr => ∃ k : Nat,k ≤ L ∧ i = .int .i64 (k : Int) ∧ Hid (IzB wr w.heap.size (mnL of (X.take k) n)) ∧ Hid (Below w.heap.size w wr)) (fun i _ => L - (intOf i).toNat)
 case atStart => exact ⟨0,Nat.zero_le _,rfl,HI0,HB0⟩
 case round =>
  clear HI0 HB0
  obtain ⟨k,hk,rfl,HI,HB⟩ := hrel
  by_cases hlt : k < L
  ·have hk2 : k < X.length := by rw [HXX.out]; exact hlt
   obtain ⟨gx,rfl,cx⟩ := LsB.cell HX.out (i := k) hk2
   have cx := q8 cx HB.out
   have ixx := fun w' => qg gx L capX k hlt w'
   have hxm : X.getD k 0 ∈ X := by rw [qd hk2]; exact List.getElem_mem _
   have hxs := HXS.out _ hxm
   have hvl := HHOP.out.prt.lt _ hxs
   rw [HN.out] at hvl
   have HNX : Hid _ := q8P (of := of) (n := n) hk2
   obtain ⟨co,_⟩ := (H0.out.up HB.out).ofc hxs
   have c1 := (H0.out.up HB.out).c.2.1
   clear hxm
   generalize X.getD k 0 = x at *
   have ixo := fun w' => qg D.go D.S D.S x hxs w'
   generalize of.getD x 0 = v at *
   have ixm := fun w' => qg w.heap.size n n v hvl w'
   have cm := HI.out.cell (i := v) (by rw [q6I]; exact hvl)
   rw [q7R hvl] at cm
   have fm := HI.out.fz v
   have hmb : mnH of (X.take k) v ≤ 1000 := by
    have h1 : mnH of (X.take k) v ≤ (X.take k).length := List.countP_le_length
    rw [List.length_take] at h1; omega
   have HI2 : Hid (IzB (wr.setCell ⟨w.heap.size,v,none⟩ (.int .i64 (((mnH of (X.take k) v : Nat) : Int) + 1))) w.heap.size (mnL of (X.take (k + 1)) n)) := by
    show IzB _ _ _
    rw [← HNX.out]; exact HI.out.set _ _
   have HB2 : Hid (Below w.heap.size w (wr.setCell ⟨w.heap.size,v,none⟩ (.int .i64 (((mnH of (X.take k) v : Nat) : Int) + 1)))) := HB.out.setCell (Nat.le_refl _) _
   clear HI HB HNX
   generalize mnH of (X.take k) v = q at *
   go_wp2
   go_roundw
   case rel => exact ⟨k + 1,by omega,by go_num,HI2,HB2⟩
   case measure => simp [intOf]; omega
  ·obtain rfl : k = L := by omega
   have htk : X.take k = X := by rw [← HXX.out,List.take_length]
   rw [htk] at HI
   obtain ⟨w1,hw1⟩ : ∃ w1,w1 = wr := ⟨_,rfl⟩
   subst hw1
   clear htk
   have HP1 : Hid _ := H0.out.up HB.out
   have HX1 : Hid (LsB w1 D.go vq a X) := LsB.fr H0.out HX.out (Fr.ofBelow (F := PgF D (.slice ia n ic) vw vq) HB.out)
   have HGM : Hid (¬ PgF D (.slice ia n ic) vw vq w.heap.size) := fun e => by have := H0.out.lt _ e; omega
   have HPT0 : Hid _ := q6l HHOP.out X
   go_wp2
   go_loopw [36] (fun i wr => ∃ (c : Nat) (of' : List Nat) (ins' : List (List Nat)) (ws' : List Bool) (qu' : List Nat) (vi' vw' vq' : Value) (vs' : List Value),c ≤ n ∧ i = .int .i64 (c : Int) ∧ Hid (PgW D wr vi' vw' vq' vs' of' ins' ws' qu') ∧ Hid (Fr w1 wr (PgF D (.slice ia n ic) vw vq) (PgF D vi' vw' vq')) ∧ Hid (PartH D.S K R bs C kl of ins qu X c of' ins' ws' qu')) (fun i _ => n - (intOf i).toNat)
   case atStart => exact ⟨0,of,ins,ws,qu,_,_,_,_,Nat.zero_le _,rfl,HP1,Fr.ofBelow (Below.refl _ _),HPT0⟩
   case round =>
    clear HPT0
    obtain ⟨c,of',ins',ws',qu',vi',vw',vq',vs',hc,rfl,HP,HF,HPT⟩ := hrel
    have HIM : Hid (IzB wr w.heap.size (mnL of X n)) := HI.out.fr HF.out HGM.out
    by_cases hlt : c < n
    ·have cm := HIM.out.cell (i := c) (by rw [q6I]; exact hlt)
     rw [q7R hlt] at cm
     have ixm := fun w' => qg w.heap.size n n c hlt w'
     have hcl : c < ins'.length := by have := HPT.out.le; rw [HN.out] at this; omega
     obtain ⟨gi,ci,la,lc,ei,ci2,_⟩ := HP.out.inc hcl
     subst ei
     have c2 := HP.out.c.2.2.1
     have ixi := fun w' => qH gi ins'.length ci c hcl w'
     have hfew' := HPT.out.hop.prt.few
     have hqq : qu'.length ≤ 100000 := by have := HPT.out.cnt; omega
     have hlnd : (ins'.getD c []).length ≤ D.S := qn (HPT.out.hop.prt.nd c hcl) (fun s hs => ((HPT.out.hop.prt.mem c s hcl).1 hs).1)
     have js := q5a HP.out c hcl HPT.out.hop.wl a capX X (LsB.fr HP1.out HX1.out HF.out) HXS.out (by rw [HXX.out]; omega) (by omega) hqq (fun s hs => ((HPT.out.hop.prt.mem c s hcl).1 hs).1) (by omega)
     have HSK : Hid (¬ (0 < mnH of X c ∧ mnH of X c < (ins'.getD c []).length) → PartH D.S K R bs C kl of ins qu X (c + 1) of' ins' ws' qu') := fun hno => HPT.out.skip HHOP.out.prt HXS.out HXN.out (by rw [HN.out]; exact hlt) hno
     have HSP : Hid (0 < mnH of X c → mnH of X c < (ins'.getD c []).length → ∀ ge : Bool,(ws'.getD c false = true → ge = true) → _) := fun h1 h2 ge hge => HPT.out.split HHOP.out.prt HRR.out HXS.out HXN.out HA.out (by rw [HN.out]; exact hlt) h1 h2 hge
     rw [HXX.out] at js
     clear HPT
     generalize mnH of X c = q at *
     generalize hll : (ins'.getD c []).length = m at *
     have HLM : Hid _ := hll
     clear hll
     by_cases hq : 0 < q
     ·by_cases hqm : q < m
      ·have hS2 := HSP.out hq hqm
       have HS2 : Hid _ := hS2
       clear hS2 HSP HSK
       go_wp2_with fail
       refine js.mono ?_
       rintro e w5 ⟨rfl,ge,hge,vi5,vw5,vq5,vs5,hP5,hF5⟩
       have HP5 : Hid _ := hP5
       have HF5 : Hid _ := HF.out.trans hF5
       have HPT5 : Hid _ := HS2.out ge hge
       clear hP5 hF5 HS2 js HF HP cm ci2 c2 ixi ixm
       go_wp2
       go_roundw
       case rel => exact ⟨c + 1,_,_,_,_,_,_,_,_,by omega,by go_num,HP5,HF5,HPT5⟩
       case measure => simp [intOf]; omega
      ·have HPT5 : Hid _ := HSK.out (by omega)
       clear HSP HSK js
       go_wp2
       go_roundw
       case rel => exact ⟨c + 1,_,_,_,_,_,_,_,_,by omega,by go_num,HP,HF,HPT5⟩
       case measure => simp [intOf]; omega
     ·have HPT5 : Hid _ := HSK.out (by omega)
      clear HSP HSK js
      go_wp2
      go_roundw
      case rel => exact ⟨c + 1,_,_,_,_,_,_,_,_,by omega,by go_num,HP,HF,HPT5⟩
      case measure => simp [intOf]; omega
    ·obtain rfl : c = n := by omega
     have HE : Hid _ := HZ.out wr ⟨of',ins',ws',qu',⟨_,_,_,_,HP.out,(Fr.ofBelow HB.out).trans HF.out⟩,HPT.out⟩
     clear HZ HP HF HPT
     go_wp2
     go_end0
     exact HE.out
theorem q80 {w w' : World} {base e s n : Nat} {v : Value} {vs : List Value} (h : w.ownsRow base e s v n vs) (hb : ∀ g,v.ownBlock = some g → w'.heap[g]? = w.heap[g]?) : w'.ownsRow base e s v n vs := qb h hb
structure FbA (wr : World) (gf : Nat) (vs : List Value) (F : List (List Nat)) : Prop where
 blk : wr.heap[gf]? = some (.cells vs.toArray 118 (0,0))
 len : vs.length = F.length
 own : ∀ (k : Nat) (v : Value),vs[k]? = some v → wr.ownsRow (gf + 1) 3 1 v (F.getD k []).length (izV (F.getD k []))
 ne : ∀ (k k' : Nat) (v v' : Value) (b : Nat),k ≠ k' → vs[k]? = some v → vs[k']? = some v' → v.ownBlock = some b → v'.ownBlock ≠ some b
theorem FbA.lt {wr : World} {gf : Nat} {vs : List Value} {F : List (List Nat)} (h : FbA wr gf vs F) : gf < wr.heap.size := (Array.getElem?_eq_some_iff.1 h.blk).1
theorem FbA.up {wr w' : World} {gf : Nat} {vs : List Value} {F : List (List Nat)} (h : FbA wr gf vs F) (hb : Below wr.heap.size wr w') : FbA w' gf vs F := ⟨(hb.block gf h.lt).trans h.blk,h.len,fun k v hv => qB (h.own k v hv) hb,h.ne⟩
theorem FbA.at {wr : World} {gf : Nat} {vs : List Value} {F : List (List Nat)} (h : FbA wr gf vs F) {t : Nat} (ht : t < F.length) : ∃ a c,vs[t]? = some (.slice a (F.getD t []).length c) ∧ wr.cell? ⟨gf,t,none⟩ = some (.slice a (F.getD t []).length c) ∧ wr.ownsRow (gf + 1) 3 1 (.slice a (F.getD t []).length c) (F.getD t []).length (izV (F.getD t [])) ∧ wr.frozen? ⟨gf,t,none⟩ = false := by
 have hl := h.len
 have hv : vs[t]? = some vs[t] := List.getElem?_eq_getElem (by omega)
 obtain ⟨a,c,e⟩ := qe (h.own t _ hv)
 have ho := h.own t _ hv
 rw [e] at hv ho
 refine ⟨a,c,hv,?_,ho,frozen_of_row wr gf t _ _ h.blk⟩
 rw [q6 h.blk]
 simpa using hv
theorem FbA.put {wr w7 : World} {gf : Nat} {vs : List Value} {F : List (List Nat)} (h : FbA wr gf vs F) {t s : Nat} (ht : t < F.length) {v : Value} (hv : vs[t]? = some v) {o : Obj} {g c : Nat}
  (hq : w7.ownsRow (gf + 1) 3 1 (.slice (some ⟨g,0,none⟩) ((F.getD t []).length + 1) c) ((F.getD t []).length + 1) (izV (F.getD t [] ++ [s]))) (hg : (wr.alloc o).drew.grownBy w7 v.ownBlock) (hl : v.ownBlock = some g ∨ g = (wr.alloc o).drew.heap.size) :
  w7.heap[gf]? = some (.cells vs.toArray 118 (0,0)) ∧ FbA (w7.setCell ⟨gf,t,none⟩ (.slice (some ⟨g,0,none⟩) ((F.getD t []).length + 1) c)) gf (vs.set t (.slice (some ⟨g,0,none⟩) ((F.getD t []).length + 1) c)) (F.set t (F.getD t [] ++ [s])) := by
 have hlen := h.len
 have hgf := h.lt
 have hsz : (wr.alloc o).drew.heap.size = wr.heap.size + 1 := by simp
 have hvo := h.own t v hv
 have hge := qp hvo
 have keep : ∀ b,b < wr.heap.size → v.ownBlock ≠ some b → w7.heap[b]? = wr.heap[b]? := fun b hb hne => by
  rw [hg.block b (by omega) (fun e => hne e.symm)]
  exact (q5 wr o).block b hb
 have hg1 : gf + 1 ≤ g := by
  rcases hl with hl | hl
  ·exact hge g hl
  ·omega
 have hb7 : w7.heap[gf]? = some (.cells vs.toArray 118 (0,0)) := (keep gf hgf (fun e => by have := hge gf e; omega)).trans h.blk
 refine ⟨hb7,?_,by simp [hlen],fun k u hu => ?_,fun k k' u u' b hkk hu hu' hb => ?_⟩
 ·have := heap_setCell_same w7 gf t _ _ (.slice (some ⟨g,0,none⟩) ((F.getD t []).length + 1) c) hb7
  rw [this]
  simp
 ·rw [List.getElem?_set] at hu
  by_cases e : t = k
  ·subst e
   rw [if_pos rfl,if_pos (by omega)] at hu
   injection hu with hu
   subst hu
   rw [qs _ _ _ _ _ ht,if_pos rfl,List.length_append,List.length_singleton]
   exact q1S hq (by dsimp only; omega) _
  ·rw [if_neg e] at hu
   rw [qs _ _ _ _ _ ht,if_neg (fun h => e h.symm)]
   have ho := h.own k u hu
   have hgk := qp ho
   refine q1S (q80 ho (fun q hq1 => keep q (ho.lt q hq1).2 (h.ne k t u v q (Ne.symm e) hu hv hq1))) (by dsimp only; omega) _
 ·have hold : ∀ {k : Nat} {u : Value} {b : Nat},t ≠ k → vs[k]? = some u → u.ownBlock = some b → b < wr.heap.size := fun {k u b} _ hu hb => ((h.own k u hu).lt b hb).2
  rw [List.getElem?_set] at hu hu'
  by_cases e : t = k
  ·subst e
   rw [if_pos rfl,if_pos (by omega)] at hu
   injection hu with hu
   subst hu
   have e' : t ≠ k' := hkk
   rw [if_neg e'] at hu'
   injection hb with hb
   dsimp only at hb
   subst hb
   intro hb'
   rcases hl with hl | hl
   ·exact h.ne t k' v u' g hkk hv hu' hl hb'
   ·have := hold e' hu' hb'; omega
  ·rw [if_neg e] at hu
   by_cases e' : t = k'
   ·subst e'
    rw [if_pos rfl,if_pos (by omega)] at hu'
    injection hu' with hu'
    subst hu'
    intro hb'
    injection hb' with hb'
    dsimp only at hb'
    subst hb'
    rcases hl with hl | hl
    ·exact h.ne t k v u g (Ne.symm hkk) hv hu hl hb
    ·have := hold e hu hb; omega
   ·rw [if_neg e'] at hu'
    exact h.ne k k' u u' b hkk hu hu' hb
theorem q9C (w : World) : FbA (w.alloc (.cells (List.replicate 256 (Value.slice none 0 0)).toArray 118)) w.heap.size (List.replicate 256 (Value.slice none 0 0)) (List.replicate 256 []) := by
 refine ⟨(MapKept.heap_alloc w _).1,by rw [List.length_replicate,List.length_replicate],fun k v hv => ?_,fun k k' v v' b _ hv _ hb => ?_⟩
 ·rw [List.getElem?_replicate] at hv
  split at hv
  ·injection hv with hv
   subst hv
   have e : (List.replicate 256 ([] : List Nat)).getD k [] = [] := by rw [List.getD_eq_getElem?_getD,List.getElem?_replicate]; split <;> rfl
   rw [e]
   exact ⟨rfl,.inl ⟨rfl,rfl⟩⟩
  ·cases hv
 ·rw [List.getElem?_replicate] at hv
  split at hv
  ·injection hv with hv
   subst hv
   cases hb
  ·cases hv
theorem q3x : (Try.prog.info? 118).map (fun i => (i.zero,i.size)) = some (some (.agg (Array.replicate 256 (.slice none 0 0))),256) := by kernel_rfl
theorem q6Y : (Try.prog.info? 118).map (·.size) = some 256 := (zero_of_info q3x).2
theorem q6Z (w : World) : (zeroValue 118).run Try.prog w = .ok (.agg (Array.replicate 256 (.slice none 0 0))) w := (zero_of_info q3x).1 w
theorem q7t (g x : Nat) (hx : x < 256) (w : World) : (Instr.indexAt 118 (.pointer (some ⟨g,0,none⟩)) (.int .u8 (x : Int))).run Try.prog w = .ok (.pointer (some ⟨g,x,none⟩)) w := by
 simp [Instr.indexAt,run_underlying Try.underlying118,asIntOf,q14 (show (Try.prog.info? 23).map (·.size) = some 1 by kernel_rfl),hx,Result.andThen,go_sem,q9]
theorem q7a : (Try.prog.info? 93).map (·.size) = some 2 := by kernel_rfl
theorem q7w (g n c i : Nat) (hi : i < n) (w : World) : (Instr.indexAt 91 (.slice (some ⟨g,0,none⟩) n c) (.int .i64 (i : Int))).run Try.prog w = .ok (.pointer (some ⟨g,2 * i,none⟩)) w := by
 have := q9J (P := Try.prog) (T := 91) Try.underlying91 q7a (g := g) (cap := c) (n := n) i w hi
 simpa [Nat.mul_comm] using this
theorem q79 : (Try.prog.info? 91).map (·.size) = some 1 := by kernel_rfl
theorem q4r (g n c i : Nat) (hi : i < n) (w : World) : (Instr.indexAt 62 (.slice (some ⟨g,0,none⟩) n c) (.int .i64 (i : Int))).run Try.prog w = .ok (.pointer (some ⟨g,i,none⟩)) w := by
 have := qw (P := Try.prog) (T := 62) Try.underlying62 q79 (a := some ⟨g,0,none⟩) (cap := c) (n := n) (fun e => by cases e) i w hi
 simpa [adOf,q9] using this
theorem BwM.at {w : World} {g S : Nat} {B : List (List (Nat × Nat))} (h : BwM w g S B) {s : Nat} (hs : s < S) : ∃ a cap,w.cell? ⟨g,s,none⟩ = some (.slice a (B.getD s []).length cap) ∧ ∀ (k : Nat) (x : Nat × Nat),(B.getD s [])[k]? = some x → ∃ gi,a = some ⟨gi,0,none⟩ ∧ w.cell? ⟨gi,2 * k,none⟩ = some (.int .i32 (x.1 : Int)) ∧ w.cell? ⟨gi,2 * k + 1,none⟩ = some (.int .u8 (x.2 : Int)) := by
 obtain ⟨cur,h1,h2⟩ := h
 obtain ⟨a,cap,h3,h4⟩ := h2 s hs
 refine ⟨a,cap,by rw [q6 h1]; exact h3,fun k x hx => ?_⟩
 have hk := (List.getElem?_eq_some_iff.1 hx).1
 obtain ⟨gi,cu,h5,h6,h7⟩ := h4 (by omega)
 obtain ⟨h8,h9⟩ := h7 k x hx
 exact ⟨gi,h5,by rw [q6 h6]; exact h8,by rw [q6 h6]; exact h9⟩
theorem q7c {w : World} {o : Oper} {a : Act} {K : Act → World → Prop} {Q : Exit → Act → World → Prop} (s x : Operand)
  (ho : o.op = .call { callee := .builtin .append,args := #[s,x],argTypes := #[23,23] }) (base : Nat)
  (v : Value) (n : Nat) (N : List Nat) (y g' : Nat) (hs : a.eval s = v) (hx : a.eval x = .slice (some ⟨g',0,none⟩) 1 1) (hown : w.ownsRow base 3 1 v n (izV N)) (hB : w.cell? ⟨g',0,none⟩ = some (.int .i64 (y : Int))) (hn : n ≤ 1000000) (hbase : base ≤ w.heap.size)
  (h : ∀ g cap w',w'.ownsRow base 3 1 (.slice (some ⟨g,0,none⟩) (n + 1) cap) (n + 1) (izV (N ++ [y])) → w.grownBy w' v.ownBlock → (v.ownBlock = some g ∨ g = w.heap.size) → K (a.put o.dst (.slice (some ⟨g,0,none⟩) (n + 1) cap)) w') : o.wp Try.prog a w K Q := by
 have hI : (Try.prog.info? 3).map (fun i => (i.zero,i.size,i.bytes)) = some (some (.int .i64 0),1,8) := by kernel_rfl
 obtain ⟨i,hi,hz0,hz1,hz2⟩ := info_parts hI
 refine wp_append_lies w s x 23 ho base 3 i _ 1 8 Try.underlying23 hi hz0 hz1 hz2 rfl (by decide) v n _ hs hown ⟨g',0,none⟩ 1 1 [.int .i64 (y : Int)] hx rfl ?_ (fun u hu => by simp at hu; subst hu; rfl) (by decide) (by unfold maxLen; omega) (by omega) hbase _ rfl ?_
 ·intro j u hj
  match j with
  | 0 => simp at hj; rw [← hj,q9]; exact hB
  | j + 1 => simp at hj
 ·intro g cap w' h1 h2 h3 _
  exact h g cap w' (by rw [izV,List.map_append,List.map_append]; exact h1) h2 h3
theorem q2N {w : World} {ops : Array Oper} {o : Oper} {a : Act} {K : Act → World → Prop} {Q : Exit → Act → World → Prop} {E : Prop} (hw : Region.wanted o (yielded ops a.tmps) = true) (s x : Operand)
  (ho : o.op = .call { callee := .builtin .append,args := #[s,x],argTypes := #[23,23] }) (base : Nat)
  (v : Value) (n : Nat) (N : List Nat) (y g' : Nat) (hs : a.eval s = v) (hx : a.eval x = .slice (some ⟨g',0,none⟩) 1 1) (hown : w.ownsRow base 3 1 v n (izV N)) (hB : w.cell? ⟨g',0,none⟩ = some (.int .i64 (y : Int))) (hn : n ≤ 1000000) (hbase : base ≤ w.heap.size)
  (h : ∀ g cap w',w'.ownsRow base 3 1 (.slice (some ⟨g,0,none⟩) (n + 1) cap) (n + 1) (izV (N ++ [y])) → w.grownBy w' v.ownBlock → (v.ownBlock = some g ∨ g = w.heap.size) → K (a.put o.dst (.slice (some ⟨g,0,none⟩) (n + 1) cap)) w') :
  if Region.wanted o (yielded ops a.tmps) = true then Oper.wp Try.prog o a w K Q else E := by
 rw [if_pos hw]
 exact q7c s x ho base v n N y g' hs hx hown hB hn hbase h
variable {D : PgD} {w : World} {vi vw vq : Value} {vs : List Value} {of : List Nat} {ins : List (List Nat)} {ws : List Bool} {qu : List Nat} {S K : Nat} {R : List (List Nat)} {bs : List Bool} {C : List Nat}
def ByL (D : PgD) (S K : Nat) (R : List (List Nat)) (bs : List Bool) (C : List Nat) (k : Nat) (of0 : List Nat) (ins0 : List (List Nat)) (qu0 : List Nat) (w0 : World) (vi vw vq : Value) (w' : World) : Prop :=
 ∃ of ins ws qu,PgR D w0 vi vw vq of ins ws qu w' ∧ HopH S K R bs C k of ins ws qu ∧ (∀ s t,s < S → t < S → of.getD s 0 = of.getD t 0 → of0.getD s 0 = of0.getD t 0) ∧ qu.length + ins0.length = qu0.length + ins.length ∧ ins0.length ≤ ins.length
def wyTo (B : List (List (Nat × Nat))) (C : List Nat) (k j : Nat) : List (Nat × Nat) := ((C.take k).flatMap fun s => B.getD s []) ++ (B.getD (C.getD k 0) []).take j
theorem q8i (B : List (List (Nat × Nat))) (C : List Nat) : wyTo B C 0 0 = [] := by simp [wyTo]
theorem q8h (B : List (List (Nat × Nat))) (C : List Nat) {k j : Nat} {x : Nat × Nat} (hx : (B.getD (C.getD k 0) [])[j]? = some x) : wyTo B C k (j + 1) = wyTo B C k j ++ [x] := by
 unfold wyTo
 rw [List.take_add_one,hx,List.append_assoc]; rfl
theorem q9q (B : List (List (Nat × Nat))) (C : List Nat) {k : Nat} (hk : k < C.length) : wyTo B C k (B.getD (C.getD k 0) []).length = wyTo B C (k + 1) 0 := by
 unfold wyTo
 rw [List.take_length,qD hk,List.flatMap_append]
 simp [-List.getD_eq_getElem?_getD]
theorem q9o (B : List (List (Nat × Nat))) (C : List Nat) : wyTo B C C.length 0 = C.flatMap fun s => B.getD s [] := by simp [wyTo]
theorem q9p (B : List (List (Nat × Nat))) (C : List Nat) {k j : Nat} (hk : k < C.length) : wyTo B C k j <+: C.flatMap fun s => B.getD s [] := by
 have e : C = C.take k ++ C.getD k 0 :: C.drop (k + 1) := by
  rw [qd hk,← List.drop_eq_getElem_cons hk,List.take_append_drop]
 have h2 : (C.flatMap fun s => B.getD s []) = ((C.take k).flatMap fun s => B.getD s []) ++ (B.getD (C.getD k 0) [] ++ (C.drop (k + 1)).flatMap fun s => B.getD s []) := by
  conv => lhs; rw [e]
  rw [List.flatMap_append,List.flatMap_cons]
 rw [h2,wyTo]
 exact (List.prefix_append_right_inj _).2 ((List.take_prefix _ _).trans (List.prefix_append _ _))
theorem q9E {Y Y' : List (Nat × Nat)} (h : Y <+: Y') (l : Nat) : (frH Y l).length ≤ (frH Y' l).length := by
 obtain ⟨X,rfl⟩ := h
 simp [frH]
theorem q9D (h : BkOk S K R D.B) (hC : ∀ s ∈ C,s < S) (hn : C.Nodup) {k j : Nat} (hk : k < C.length) (l : Nat) : (frH (wyTo D.B C k j) l).length ≤ S :=
 Nat.le_trans (q9E (q9p D.B C hk) l) (qn (q4F h hC hn l) (fun _ hx => ((q6x h hC).1 hx).1))
theorem AlikeP.goB {s t l : Nat} (h : AlikeP K R bs s t) (hl : l < K) : AlikeP K R bs (trP R s l) (trP R t l) := fun u hu => by
 have := h (l :: u) (fun x hx => by
  rcases List.mem_cons.1 hx with rfl | hx
  ·exact hl
  ·exact hu x hx)
 exact this
theorem q7u (arr : Array Value) (x : Nat) (hx : x < 256) (y : Value) (hy : arr[x]? = some y) (w : World) : (Instr.index 118 (.agg arr) (.int .i64 (x : Int))).run Try.prog w = .ok y w := by
 have hsz := q14 (show (Try.prog.info? 23).map (·.size) = some 1 by kernel_rfl) w
 simp [Instr.index,run_underlying Try.underlying118,asIntOf,hsz,hx,Result.andThen,go_sem,part,hy]
theorem q6W (h : PgW D w vi vw vq vs of ins ws qu) (hop : HopH S K R bs C 0 of ins ws qu) (hR : RowsP S K R) (hBk : BkOk S K R D.B) (hDS : D.S = S) (hS1 : S ≤ 256) (hK : K ≤ 256) (hq0 : qu.length ≤ 2000) (a : Option Addr) (capC : Nat) (hC : LsB w D.go vq a C) (hCs : ∀ x ∈ C,x < S) (hCn : C.Nodup) (ha : ∀ s t,s < S → t < S → AlikeP K R bs s t → (s ∈ C ↔ t ∈ C)) (hBs : ∀ s,s < S → (D.B.getD s []).length ≤ 100000) :
  Calls Try.prog 57 #[.pointer (some ⟨D.b,0,none⟩),.slice a C.length capC] w fun e w' => e = .returned (.tuple #[]) ∧ ByL D S K R bs C 256 of ins qu w vi vw vq w' := by
 obtain ⟨Z,eZ⟩ : ∃ Z : Ending → World → Prop,Z = fun e w' => e = .returned (.tuple #[]) ∧ ByL D S K R bs C 256 of ins qu w vi vw vq w' := ⟨_,rfl⟩
 have HZ : Hid (∀ w',ByL D S K R bs C 256 of ins qu w vi vw vq w' → Z (.returned (.tuple #[])) w') := fun w' h1 => by rw [eZ]; exact ⟨rfl,h1⟩
 rw [← eZ]
 clear eZ
 subst hDS
 have hLb : C.length ≤ D.S := qn hCn hCs
 have H0 : Hid _ := h
 have HHOP : Hid _ := hop
 have HC : Hid (LsB w D.go vq a C) := hC
 have HCS : Hid _ := hCs
 have HCN : Hid _ := hCn
 have HA : Hid _ := ha
 have HRR : Hid _ := hR
 have HBK : Hid _ := hBk
 have HBS : Hid _ := hBs
 have hz := fun w => q6Z w
 have HB0 : Hid (Below w.heap.size w (w.alloc (.cells (Array.replicate 256 (.slice none 0 0)) 118 (0,0)))) := q5 _ _
 have HF0 : Hid (FbA (w.alloc (.cells (Array.replicate 256 (.slice none 0 0)) 118 (0,0))) w.heap.size (List.replicate 256 (Value.slice none 0 0)) (frL (wyTo D.B C 0 0))) := by
  show FbA _ _ _ _
  rw [q8i,q9F]
  have := q9C w
  rw [List.toArray_replicate] at this
  exact this
 clear h hC hCs hCn hop ha hR hBk hBs
 generalize hXX : C.length = L at *
 have HXX : Hid _ := hXX
 clear hXX
 generalize hZZ : Array.replicate 256 (Value.slice none 0 0) = ZA at *
 clear hZZ
 go_enter Try.func57,Try.ntmps57
 go_wp2
 clear hz
 go_loopw [13] (fun i wr => ∃ (k : Nat) (vf : List Value),k ≤ L ∧ i = .int .i64 (k : Int) ∧ Hid (FbA wr w.heap.size vf (frL (wyTo D.B C k 0))) ∧ Hid (Below w.heap.size w wr)) (fun i _ => L - (intOf i).toNat)
 case atStart => exact ⟨0,_,Nat.zero_le _,rfl,HF0,HB0⟩
 case round =>
  clear HF0 HB0
  obtain ⟨k,vf,hk,rfl,HF,HB⟩ := hrel
  by_cases hlt : k < L
  ·have hk2 : k < C.length := by rw [HXX.out]; exact hlt
   obtain ⟨gx,rfl,cx⟩ := LsB.cell HC.out (i := k) hk2
   have cx := q8 cx HB.out
   have ixx := fun w' => qg gx L capC k hlt w'
   have hxm : C.getD k 0 ∈ C := by rw [qd hk2]; exact List.getElem_mem _
   have hss := HCS.out _ hxm
   have HWN : Hid (∀ j x,(D.B.getD (C.getD k 0) [])[j]? = some x → wyTo D.B C k (j + 1) = wyTo D.B C k j ++ [x]) := fun j x hx => q8h D.B C hx
   have HWR : Hid _ := q9q D.B C hk2
   clear hxm hk2
   generalize C.getD k 0 = s at *
   have c0 := (H0.out.up HB.out).c.1
   have ixs := fun w' => q4r D.gB D.S D.cB s hss w'
   obtain ⟨ba,bc,cb,hba⟩ := H0.out.bk.at hss
   have cb := q8 cb HB.out
   have HBA : Hid (∀ (j : Nat) (x : Nat × Nat),(D.B.getD s [])[j]? = some x → ∃ gi,ba = some ⟨gi,0,none⟩ ∧ w.cell? ⟨gi,2 * j,none⟩ = some (.int .i32 (x.1 : Int)) ∧ w.cell? ⟨gi,2 * j + 1,none⟩ = some (.int .u8 (x.2 : Int))) := hba
   have hbs := HBS.out s hss
   clear hba
   generalize hm : (D.B.getD s []).length = m at *
   have HM : Hid _ := hm
   clear hm
   go_wp2
   clear cx c0 cb ixx ixs
   go_loopw [25] (fun i wr => ∃ (j : Nat) (vf : List Value),j ≤ m ∧ i = .int .i64 (j : Int) ∧ Hid (FbA wr w.heap.size vf (frL (wyTo D.B C k j))) ∧ Hid (Below w.heap.size w wr)) (fun i _ => m - (intOf i).toNat)
   case atStart => exact ⟨0,vf,Nat.zero_le _,rfl,HF,HB⟩
   case round =>
    clear HF HB
    obtain ⟨j,vf,hj,rfl,HF,HB⟩ := hrel
    by_cases hjm : j < m
    ·have hjl : j < (D.B.getD s []).length := by rw [HM.out]; exact hjm
     obtain ⟨x,hx⟩ : ∃ x,(D.B.getD s [])[j]? = some x := ⟨_,List.getElem?_eq_getElem hjl⟩
     obtain ⟨gi,rfl,cy0,cy1⟩ := HBA.out j x hx
     have cy0 := q8 cy0 HB.out
     have cy1 := q8 cy1 HB.out
     have hxb := (HBK.out.mem s x.1 x.2 hss).1 (List.mem_of_getElem? hx)
     have HW : Hid _ := HWN.out j x hx
     have ixy := fun w' => q7w gi m bc j hjm w'
     obtain ⟨x1,x2⟩ := x
     dsimp only at cy0 cy1 hxb HW
     have hx1 : x1 < 256 := by omega
     have hx2 : x2 < 256 := by omega
     have hb1 := q5 wr (.cells #[.int .i32 (x1 : Int),.int .u8 (x2 : Int)] 93 (0,0))
     have hF1 := HF.out.up hb1
     obtain ⟨fa,fc,hvt,cft,hot,fft⟩ := hF1.at (t := x2) (by rw [q2U]; exact hx2)
     have hbx := (MapKept.heap_alloc wr (.cells #[.int .i32 (x1 : Int),.int .u8 (x2 : Int)] 93 (0,0))).1
     have b0 : (wr.alloc (.cells #[.int .i32 (x1 : Int),.int .u8 (x2 : Int)] 93 (0,0))).cell? ⟨wr.heap.size,0,none⟩ = some (.int .i32 (x1 : Int)) := q6 hbx 0
     have b1 : (wr.alloc (.cells #[.int .i32 (x1 : Int),.int .u8 (x2 : Int)] 93 (0,0))).cell? ⟨wr.heap.size,1,none⟩ = some (.int .u8 (x2 : Int)) := q6 hbx 1
     have ixf := fun w' => q7t w.heap.size x2 hx2 w'
     have hw32 : IntKind.i64.wrap (x1 : Int) = (x1 : Int) := by rw [IntKind.wrap_i64]; omega
     generalize hW1 : wr.alloc (.cells #[.int .i32 (x1 : Int),.int .u8 (x2 : Int)] 93 (0,0)) = W1 at *
     have HW1 : Hid _ := hW1
     have hs1 : W1.heap.size = wr.heap.size + 1 := by rw [← hW1]; simp
     have HBW : Hid _ := q7 HB.out hb1
     clear hW1 hb1 hbx
     have hO : (W1.alloc (.cells #[.int .i64 (x1 : Int)] 3)).drew.ownsRow (w.heap.size + 1) 3 1 (.slice fa ((frL (wyTo D.B C k j)).getD x2 []).length fc) ((frL (wyTo D.B C k j)).getD x2 []).length (izV ((frL (wyTo D.B C k j)).getD x2 [])) := World.ownsRow.alloc hot (.cells #[.int .i64 (x1 : Int)] 3)
     have hcl : (W1.alloc (.cells #[.int .i64 (x1 : Int)] 3)).drew.cell? ⟨W1.heap.size,0,none⟩ = some (.int .i64 (x1 : Int)) := q6 (MapKept.heap_alloc W1 _).1 0
     rw [hs1] at hcl
     have hsz : w.heap.size + 1 ≤ (W1.alloc (.cells #[.int .i64 (x1 : Int)] 3)).drew.heap.size := by have := HBW.out.size; simp; omega
     have hfl : ((frL (wyTo D.B C k j)).getD x2 []).length ≤ 1000000 := by
      rw [q5G hx2]
      have := q9D (j := j) HBK.out HCS.out HCN.out (k := k) (by rw [HXX.out]; exact hlt) x2
      omega
     have HPUT : Hid (∀ g5 d5 w5,w5.ownsRow (w.heap.size + 1) 3 1 (.slice (some ⟨g5,0,none⟩) (((frL (wyTo D.B C k j)).getD x2 []).length + 1) d5) (((frL (wyTo D.B C k j)).getD x2 []).length + 1) (izV ((frL (wyTo D.B C k j)).getD x2 [] ++ [x1])) → (W1.alloc (.cells #[.int .i64 (x1 : Int)] 3)).drew.grownBy w5 (Value.slice fa ((frL (wyTo D.B C k j)).getD x2 []).length fc).ownBlock → ((Value.slice fa ((frL (wyTo D.B C k j)).getD x2 []).length fc).ownBlock = some g5 ∨ g5 = (W1.alloc (.cells #[.int .i64 (x1 : Int)] 3)).drew.heap.size) → w5.heap[w.heap.size]? = some (.cells vf.toArray 118 (0,0)) ∧ FbA (w5.setCell ⟨w.heap.size,x2,none⟩ (.slice (some ⟨g5,0,none⟩) (((frL (wyTo D.B C k j)).getD x2 []).length + 1) d5)) w.heap.size (vf.set x2 (.slice (some ⟨g5,0,none⟩) (((frL (wyTo D.B C k j)).getD x2 []).length + 1) d5)) (frL (wyTo D.B C k (j + 1))) ∧ Below w.heap.size w (w5.setCell ⟨w.heap.size,x2,none⟩ (.slice (some ⟨g5,0,none⟩) (((frL (wyTo D.B C k j)).getD x2 []).length + 1) d5)) ∧ w5.cell? ⟨wr.heap.size,1,none⟩ = some (.int .u8 (x2 : Int))) := fun g5 d5 w5 q1 q2 q3 => by
      obtain ⟨r1,r2⟩ := hF1.put (t := x2) (s := x1) (by rw [q2U]; exact hx2) hvt q1 q2 q3
      have hbb := (q7 HBW.out (q5 W1 (.cells #[.int .i64 (x1 : Int)] 3))).drew
      have hge := qp hot
      refine ⟨r1,?_,(hbb.grown q2 hbb.size (fun q e => by have := hge q e; omega)).setCell (Nat.le_refl _) _,qI (w0 := (W1.alloc (.cells #[.int .i64 (x1 : Int)] 3)).drew) (q8 b1 ((q5 W1 (.cells #[.int .i64 (x1 : Int)] 3)).drew)) q2 (fun e => by have := ((HF.out.own x2 _ hvt).lt wr.heap.size e.symm).2; omega)⟩
      rw [HW.out,← q8G _ (x1,x2) hx2]
      exact r2
     have HVT : Hid _ := hvt
     have cftb : (W1.alloc (.cells #[.int .i64 (x1 : Int)] 3)).cell? ⟨w.heap.size,x2,none⟩ = some (.slice fa ((frL (wyTo D.B C k j)).getD x2 []).length fc) := q8 cft (q5 _ _)
     clear HF hF1 hot hvt HB HBW HBA hx hxb
     generalize ((frL (wyTo D.B C k j)).getD x2 []).length = fl at *
     generalize (frL (wyTo D.B C k j)).getD x2 [] = FL at *
     go_upto_region 15 with (rw [HW1.out])
     go_region_law ((refine q2N rfl _ _ rfl (w.heap.size + 1) (.slice fa fl fc) fl FL x1 (wr.heap.size + 1) rfl rfl hO hcl hfl hsz ?_; intro g5 d5 w5 hown5 hgr5 hloc5; have m5 := HPUT.out g5 d5 w5 hown5 hgr5 hloc5; have c5' : w5.cell? ⟨w.heap.size,x2,none⟩ = some (.slice fa fl fc) := (q6 m5.1 x2).trans (by simpa using HVT.out); have z5 : w5.frozen? ⟨w.heap.size,x2,none⟩ = false := frozen_of_row w5 _ x2 _ _ m5.1; have b5 := m5.2.2.2))
     all_goals
      have HF5 : Hid _ := m5.2.1
      have HB5 : Hid _ := m5.2.2.1
      clear b5
      clear m5 hown5 hgr5 hloc5 c5' z5 HPUT hO hcl b0 b1 cft cftb fft
      go_wp2
      go_roundw
      case rel => exact ⟨j + 1,_,by omega,by go_num,HF5,HB5⟩
      case measure => simp [intOf]; omega
    ·obtain rfl : j = m := by omega
     rw [HWR.out] at HF
     go_wp2
     go_roundw
     case rel => exact ⟨k + 1,vf,by omega,by go_num,HF,HB⟩
     case measure => simp [intOf]; omega
  ·obtain rfl : k = L := by omega
   rw [← HXX.out,q9o] at HF
   have HYF : Hid (∀ x l,x ∈ frH (C.flatMap fun s => D.B.getD s []) l ↔ x < D.S ∧ l < K ∧ trP R x l ∈ C) := fun x l => q6x HBK.out HCS.out
   have HYN : Hid _ := q4F HBK.out HCS.out HCN.out
   generalize (C.flatMap fun s => D.B.getD s []) = Y at *
   have HP1 : Hid _ := H0.out.up HB.out
   have HL1 : Hid (∀ l,l < 256 → ∃ fa fc,vf[l]? = some (.slice fa (frH Y l).length fc) ∧ LsB wr D.go vq fa (frH Y l)) := fun l hl => by
    obtain ⟨fa,fc,h1,_,h2,_⟩ := HF.out.at (t := l) (by rw [q2U]; exact hl)
    rw [q5G hl] at h1 h2
    exact ⟨fa,fc,h1,q2j h2 (by have := H0.out.lt D.go (.inr (.inl rfl)); omega) (fun k e => by have := H0.out.ql k e; omega)⟩
   have hvl : vf.length = 256 := by have := HF.out.len; rw [q2U] at this; exact this
   have HBL : Hid _ := HF.out.blk
   obtain ⟨w1,hw1⟩ : ∃ w1,w1 = wr := ⟨_,rfl⟩
   subst hw1
   have HVL : Hid _ := hvl
   have hsv : vf.toArray.size = 256 := by simpa using hvl
   clear HF hvl
   generalize hVA : vf.toArray = VA at *
   have HVA : Hid _ := hVA
   clear hVA
   go_wp2
   refine wp_load_row 118 _ rfl w.heap.size rfl 118 VA (0,0) _ HBL.out Try.underlying118 rfl (by rw [hsv]; exact q6Y) ?_
   go_wp2
   go_loopw [44] (fun i wr => ∃ (l : Nat) (of' : List Nat) (ins' : List (List Nat)) (ws' : List Bool) (qu' : List Nat) (vi' vw' vq' : Value) (vs' : List Value),l ≤ 256 ∧ i = .int .i64 (l : Int) ∧ Hid (PgW D wr vi' vw' vq' vs' of' ins' ws' qu') ∧ Hid (Fr w1 wr (PgF D vi vw vq) (PgF D vi' vw' vq')) ∧ Hid (HopH D.S K R bs C l of' ins' ws' qu') ∧ Hid (∀ s t,s < D.S → t < D.S → of'.getD s 0 = of'.getD t 0 → of.getD s 0 = of.getD t 0) ∧ Hid (qu'.length + ins.length = qu.length + ins'.length ∧ ins.length ≤ ins'.length)) (fun i _ => 256 - (intOf i).toNat)
   case atStart => exact ⟨0,of,ins,ws,qu,_,_,_,_,Nat.zero_le _,rfl,HP1,Fr.ofBelow (Below.refl _ _),HHOP,fun _ _ _ _ h => h,⟨rfl,Nat.le_refl _⟩⟩
   case round =>
    obtain ⟨l,of',ins',ws',qu',vi',vw',vq',vs',hl,rfl,HP,HFR,HHP,HRF,HCT⟩ := hrel
    by_cases hl2 : l < 256
    ·obtain ⟨fa,fc,hvl,hls⟩ := HL1.out l hl2
     have hls2 := LsB.fr HP1.out hls HFR.out
     have hix := fun w' => q7u VA l hl2 (.slice fa (frH Y l).length fc) (by rw [← HVA.out]; simpa using hvl) w'
     have hqq : qu'.length ≤ 50000 := by have := HCT.out.1; have := HHP.out.prt.few; omega
     have jp := q2I HP.out HHP.out HRR.out rfl (by omega) hqq fa fc (frH Y l) hls2 (fun x hx => ((HYF.out x l).1 hx).1) (HYN.out l) (fun s t hs ht hst => by
      rw [HYF.out,HYF.out]
      refine ⟨fun ⟨h1,h2,h3⟩ => ⟨ht,h2,?_⟩,fun ⟨h1,h2,h3⟩ => ⟨hs,h2,?_⟩⟩
      ·exact (HA.out _ _ (HRR.out.lt s l hs h2) (HRR.out.lt t l ht h2) (hst.goB h2)).1 h3
      ·exact (HA.out _ _ (HRR.out.lt s l hs h2) (HRR.out.lt t l ht h2) (hst.goB h2)).2 h3)
     have HN : Hid (∀ w5,PtgL D D.S K R bs C l of' ins' qu' (frH Y l) ins'.length wr vi' vw' vq' w5 → ∃ of5 ins5 ws5 qu5 vi5 vw5 vq5 vs5,PgW D w5 vi5 vw5 vq5 vs5 of5 ins5 ws5 qu5 ∧ Fr w1 w5 (PgF D vi vw vq) (PgF D vi5 vw5 vq5) ∧ HopH D.S K R bs C (l + 1) of5 ins5 ws5 qu5 ∧ (∀ s t,s < D.S → t < D.S → of5.getD s 0 = of5.getD t 0 → of.getD s 0 = of.getD t 0) ∧ (qu5.length + ins.length = qu.length + ins5.length ∧ ins.length ≤ ins5.length)) := fun w5 h5 => by
      obtain ⟨of5,ins5,ws5,qu5,⟨vi5,vw5,vq5,vs5,hp5,hf5⟩,hpt⟩ := h5
      have hd := fun {s t : Nat} (hs : s < D.S) (ht : t < D.S) => hpt.done HHP.out.prt hs ht
      refine ⟨of5,ins5,ws5,qu5,vi5,vw5,vq5,vs5,hp5,HFR.out.trans hf5,hpt.hop.letter (X := frH Y l) (fun s hs hk => ?_) (fun s t hs ht e => ((hd hs ht).1 e).2),fun s t hs ht e => HRF.out s t hs ht ((hd hs ht).1 e).1,?_⟩
      ·rw [HYF.out]; exact ⟨fun h => h.2.2,fun h => ⟨hs,hk,h⟩⟩
      ·have h1 := hpt.cnt
       have h2 := HCT.out
       have h3 := hpt.le
       omega
     clear HRF hls hls2 hvl HFR HHP
     generalize frH Y l = X at *
     go_wp2_with fail
     refine jp.mono ?_
     rintro e w5 ⟨rfl,h5⟩
     obtain ⟨of5,ins5,ws5,qu5,vi5,vw5,vq5,vs5,hp5,hf5,hh5,hr5,hc5⟩ := HN.out w5 h5
     have c2 := hp5.c.2.2.1
     obtain ⟨ia,ic,rfl⟩ := qe hp5.fi
     have hfew := hh5.prt.few
     have HP5 : Hid _ := hp5
     have HF5 : Hid _ := hf5
     have HH5 : Hid _ := hh5
     have HR5 : Hid (∀ s t,s < D.S → t < D.S → of5.getD s 0 = of5.getD t 0 → of.getD s 0 = of.getD t 0) := hr5
     have HC5 : Hid _ := hc5
     have hno : ¬ ((256 : Int) < (ins5.length : Int)) := by omega
     clear hp5 hf5 hh5 hr5 hc5 HN jp h5 hix HP
     generalize ins5.length = n5 at c2 hno hfew ⊢
     go_wp2
     go_roundw
     case rel => exact ⟨l + 1,_,_,_,_,_,_,_,_,by omega,by go_num,HP5,HF5,HH5,HR5,HC5⟩
     case measure => simp [intOf]; omega
    ·obtain rfl : l = 256 := by omega
     have HE : Hid _ := HZ.out wr ⟨of',ins',ws',qu',⟨_,_,_,_,HP.out,(Fr.ofBelow HB.out).trans HFR.out⟩,HHP.out,HRF.out,HCT.out⟩
     clear HZ HP HFR HHP HRF HCT
     go_wp2
     go_end0
     exact HE.out
def acH (bs : List Bool) (k : Nat) : List Nat := (List.range k).filter fun s => bs.getD s false
theorem q8o (bs : List Bool) (k : Nat) : acH bs (k + 1) = if bs.getD k false then acH bs k ++ [k] else acH bs k := by
 unfold acH
 rw [List.range_succ,List.filter_append]
 cases h : bs.getD k false <;> simp [-List.getD_eq_getElem?_getD,h]
theorem q2e {bs : List Bool} {n s : Nat} : s ∈ acH bs n ↔ s < n ∧ bs.getD s false = true := by
 simp [acH,-List.getD_eq_getElem?_getD]
theorem q7C (bs : List Bool) (n : Nat) : (acH bs n).Nodup := List.nodup_range.sublist List.filter_sublist
theorem q9u (bs : List Bool) (n : Nat) : (acH bs n).length ≤ n := by
 have : (acH bs n).length ≤ (List.range n).length := List.length_filter_le _ _
 simpa using this
structure ClL (D : PgD) (w wr : World) (gi gw k : Nat) (v0 v7 : Value) (acc : List Nat) : Prop where
 fo : IzB wr D.go (List.replicate D.S 0)
 fi : wr.heap[gi]? = some (.cells #[v0] 23 (0,0))
 fw : wr.heap[gw]? = some (.cells #[.bool false] 4 (0,0))
 blk : wr.heap[D.b]? = some (pgO D (.slice (some ⟨gi,0,none⟩) 1 1) (.slice (some ⟨gw,0,none⟩) 1 1) (.slice none 0 0))
 o0 : wr.ownsRow (w.heap.size + 4) 3 1 v0 k (izV (List.range k))
 o7 : wr.ownsRow (w.heap.size + 4) 3 1 v7 acc.length (izV acc)
 ne : ∀ k,v0.ownBlock = some k → v7.ownBlock ≠ some k
 bel : Below w.heap.size w wr
 lo : D.go = w.heap.size ∧ gi = w.heap.size + 1 ∧ gw = w.heap.size + 2 ∧ D.b = w.heap.size + 3
variable {D : PgD} {w wr : World} {gi gw k : Nat} {v0 v7 : Value} {acc : List Nat}
theorem ClL.put0 (h : ClL D w wr gi gw k v0 v7 acc) {o : Obj} {w5 : World} {g c : Nat} (ho : w5.ownsRow (w.heap.size + 4) 3 1 (.slice (some ⟨g,0,none⟩) (k + 1) c) (k + 1) (izV (List.range k ++ [k]))) (hg : (wr.alloc o).drew.grownBy w5 v0.ownBlock) (hl : v0.ownBlock = some g ∨ g = (wr.alloc o).drew.heap.size) :
  w5.heap[gi]? = some (.cells #[v0] 23 (0,0)) ∧ w5.heap[D.b]? = some (pgO D (.slice (some ⟨gi,0,none⟩) 1 1) (.slice (some ⟨gw,0,none⟩) 1 1) (.slice none 0 0)) ∧ ClL D w (w5.setCell ⟨gi,0,none⟩ (.slice (some ⟨g,0,none⟩) (k + 1) c)) gi gw (k + 1) (.slice (some ⟨g,0,none⟩) (k + 1) c) v7 acc := by
 obtain ⟨l1,l2,l3,l4⟩ := h.lo
 have hge := qp h.o0
 have hsz := (Array.getElem?_eq_some_iff.1 h.blk).1
 have hz : (wr.alloc o).drew.heap.size = wr.heap.size + 1 := by simp
 have kp : ∀ j,j < wr.heap.size → v0.ownBlock ≠ some j → w5.heap[j]? = wr.heap[j]? := fun j hj hne => (hg.block j (by omega) (fun e => hne e.symm)).trans ((q5 wr o).block j hj)
 have lo : ∀ j,j < w.heap.size + 4 → w5.heap[j]? = wr.heap[j]? := fun j hj => kp j (by omega) (fun e => by have := hge j e; omega)
 have gl : w.heap.size + 4 ≤ g := by
  rcases hl with hl | hl
  ·exact hge g hl
  ·omega
 have st : ∀ j,j ≠ gi → (w5.setCell ⟨gi,0,none⟩ (.slice (some ⟨g,0,none⟩) (k + 1) c)).heap[j]? = w5.heap[j]? := fun j hj => Below.heap_setCell _ _ _ _ (by dsimp only; exact hj)
 have hbb := (q7 h.bel (q5 wr o)).drew
 refine ⟨(lo gi (by omega)).trans h.fi,(lo D.b (by omega)).trans h.blk,((st D.go (by omega)).trans (lo D.go (by omega))).trans h.fo,?_,((st gw (by omega)).trans (lo gw (by omega))).trans h.fw,((st D.b (by omega)).trans (lo D.b (by omega))).trans h.blk,?_,qb h.o7 (fun j hj => (st j (by have := qp h.o7 j hj; omega)).trans (kp j (h.o7.lt j hj).2 (fun e => h.ne j e hj))),fun j hj hj2 => ?_,(hbb.grown hg hbb.size (fun q e => by have := hge q e; omega)).setCell (by dsimp only; omega) _,h.lo⟩
 ·rw [heap_setCell_same w5 gi 0 _ _ _ ((lo gi (by omega)).trans h.fi)]; rfl
 ·rw [List.range_succ]
  refine qb ho (fun j hj => st j ?_)
  have e : g = j := by injection hj
  omega
 ·have e : g = j := by injection hj
  subst e
  rcases hl with hl | hl
  ·exact h.ne g hl hj2
  ·have := (h.o7.lt g hj2).2; omega
theorem ClL.put7 (h : ClL D w wr gi gw k v0 v7 acc) {o : Obj} {w5 : World} {g c x : Nat} (ho : w5.ownsRow (w.heap.size + 4) 3 1 (.slice (some ⟨g,0,none⟩) (acc.length + 1) c) (acc.length + 1) (izV (acc ++ [x]))) (hg : (wr.alloc o).grownBy w5 v7.ownBlock) (hl : v7.ownBlock = some g ∨ g = (wr.alloc o).heap.size) :
  ClL D w w5 gi gw k v0 (.slice (some ⟨g,0,none⟩) (acc.length + 1) c) (acc ++ [x]) := by
 obtain ⟨l1,l2,l3,l4⟩ := h.lo
 have hge := qp h.o7
 have hsz := (Array.getElem?_eq_some_iff.1 h.blk).1
 have hz : (wr.alloc o).heap.size = wr.heap.size + 1 := by simp
 have kp : ∀ j,j < wr.heap.size → v7.ownBlock ≠ some j → w5.heap[j]? = wr.heap[j]? := fun j hj hne => qt hg hj hne
 have lo : ∀ j,j < w.heap.size + 4 → w5.heap[j]? = wr.heap[j]? := fun j hj => kp j (by omega) (fun e => by have := hge j e; omega)
 have hbb := q7 h.bel (q5 wr o)
 refine ⟨(lo D.go (by omega)).trans h.fo,(lo gi (by omega)).trans h.fi,(lo gw (by omega)).trans h.fw,(lo D.b (by omega)).trans h.blk,qb h.o0 (fun j hj => kp j (h.o0.lt j hj).2 (fun e => h.ne j hj e)),by rw [List.length_append,List.length_singleton]; exact ho,fun j hj hj2 => ?_,hbb.grown hg hbb.size (fun q e => by have := hge q e; omega),h.lo⟩
 have e : g = j := by injection hj2
 subst e
 rcases hl with hl | hl
 ·exact h.ne g hj hl
 ·have := (h.o0.lt g hj).2; omega
theorem ClL.fin (h : ClL D w wr gi gw D.S v0 v7 acc) (hw0 : D.w0 = w) (hbk : BwM w D.gB D.S D.B) : ∃ a7 c7,v7 = .slice a7 acc.length c7 ∧ PgW D wr (.slice (some ⟨gi,0,none⟩) 1 1) (.slice (some ⟨gw,0,none⟩) 1 1) (.slice none 0 0) [v0] (List.replicate D.S 0) [List.range D.S] [false] [] ∧ LsB wr D.go (.slice none 0 0) a7 acc := by
 obtain ⟨l1,l2,l3,l4⟩ := h.lo
 obtain ⟨a7,c7,e7⟩ := qe h.o7
 obtain ⟨a0,c0,e0⟩ := qe h.o0
 subst e7
 refine ⟨a7,c7,rfl,⟨by rw [hw0]; exact h.bel,fun j hj => ?_,by rw [List.map_replicate]; exact h.fo,by simp,hbk.up h.bel,h.blk,⟨rfl,.inr ⟨gi,1,_,rfl,Nat.zero_le _,h.fi,Nat.le_refl _,by decide,rfl,rfl⟩⟩,⟨rfl,.inr ⟨gw,1,_,rfl,Nat.zero_le _,h.fw,Nat.le_refl _,by decide,rfl,rfl⟩⟩,⟨rfl,.inl ⟨rfl,rfl⟩⟩,fun e => (by cases e),fun c hc => ?_⟩,q2j h.o7 (by omega) (fun j e => by cases e)⟩
 ·rw [hw0]
  rcases hj with e | e | e | e | e
  ·omega
  ·omega
  ·have e2 : gi = j := by injection e
   omega
  ·have e2 : gw = j := by injection e
   omega
  ·cases e
 ·have hc0 : c = 0 := by simpa using hc
  subst hc0
  refine ⟨a0,c0,?_,q2j (by rw [← e0]; exact h.o0) (by omega) (fun j e => by cases e)⟩
  rw [e0]; simp
def ClbR (S K : Nat) (R : List (List Nat)) (bs : List Bool) (w : World) (e : Ending) (w' : World) : Prop :=
 Below w.heap.size w w' ∧ ∃ (g : Nat) (of : List Nat),e = .returned (.tuple #[.slice (some ⟨g,0,none⟩) S S,.bool true]) ∧ w.heap.size ≤ g ∧ IzB w' g (of.map Int.ofNat) ∧ of.length = S ∧ ClsC S K R bs (fun s => of.getD s 0) ∧ ∀ s,s < S → of.getD s 0 < S
theorem PgW.popQ {vi vw vq : Value} {vs : List Value} {of : List Nat} {ins : List (List Nat)} {ws : List Bool} {qu : List Nat} {c : Nat} (h : PgW D w vi vw vq vs of ins ws (qu ++ [c])) : ∃ g cap,vq = .slice (some ⟨g,0,none⟩) (qu.length + 1) cap ∧ qu.length ≤ cap ∧ w.cell? ⟨g,qu.length,none⟩ = some (.int .i64 (c : Int)) ∧ PgW D (w.setCell ⟨D.b,4,none⟩ (.slice (some ⟨g,0,none⟩) qu.length cap)) vi vw (.slice (some ⟨g,0,none⟩) qu.length cap) vs of ins ws qu ∧ Fr w (w.setCell ⟨D.b,4,none⟩ (.slice (some ⟨g,0,none⟩) qu.length cap)) (PgF D vi vw vq) (PgF D vi vw (.slice (some ⟨g,0,none⟩) qu.length cap)) := by
 obtain ⟨n1,n2,n3,n4,n5,n6⟩ := h.nb
 have hlen : (qu ++ [c]).length = qu.length + 1 := by simp
 have hfq := h.fq
 rw [hlen] at hfq
 rcases hfq.2 with ⟨_,h0⟩ | ⟨g,cap,cur,e,hg,hcell,hnc,hcm,hsz,htk⟩
 ·omega
 ·subst e
  have hiz : izV (qu ++ [c]) = izV qu ++ [.int .i64 (c : Int)] := by rw [izV,List.map_append,List.map_append]; rfl
  have ne : ∀ k,k ≠ D.b → (w.setCell ⟨D.b,4,none⟩ (.slice (some ⟨g,0,none⟩) qu.length cap)).heap[k]? = w.heap[k]? := fun k hk => Below.heap_setCell _ _ _ _ (by dsimp only; exact hk)
  have hgb : g ≠ D.b := fun e => n4 (by rw [← e]; rfl)
  have hfr : Fr w (w.setCell ⟨D.b,4,none⟩ (.slice (some ⟨g,0,none⟩) qu.length cap)) (PgF D vi vw (.slice (some ⟨g,0,none⟩) (qu.length + 1) cap)) (PgF D vi vw (.slice (some ⟨g,0,none⟩) qu.length cap)) := ⟨rfl,rfl,rfl,by simp,fun k hk hn => ne k (fun e => hn (.inl e)),fun k hk => .inl hk⟩
  refine ⟨g,cap,rfl,by omega,?_,⟨h.bel.trans (hfr.below h.ge h.bel.size),h.ge,(ne _ n1).trans h.fo,h.ol,h.bk.fr hfr h.noW,?_,qb h.fi (fun k hk => ne k (fun e => n2 (e ▸ hk))),qb h.fw (fun k hk => ne k (fun e => n3 (e ▸ hk))),?_,h.qo,fun d hd => ?_⟩,hfr⟩
  ·have h1 : (cur.toList.take ((qu.length + 1) * 1))[qu.length]? = (izV (qu ++ [c]))[qu.length]? := by rw [htk]
   rw [List.getElem?_take,if_pos (by omega),hiz,List.getElem?_append_right (by rw [q1B]; omega),q1B,Nat.sub_self] at h1
   simp [World.cell?,hcell]
   simpa using h1
  ·have := h.blk
   unfold pgO at this ⊢
   rw [heap_setCell_same w D.b 4 _ _ _ this]; rfl
  ·refine ⟨by rw [q1B]; omega,.inr ⟨g,cap,cur,rfl,hg,(ne g hgb).trans hcell,by omega,hcm,hsz,?_⟩⟩
   have h2 := congrArg (List.take qu.length) htk
   rw [List.take_take,hiz,List.take_append_of_le_length (by rw [q1B]; omega),List.take_of_length_le (l := izV qu) (by rw [q1B]; omega)] at h2
   rw [← h2]; congr 1; omega
  ·obtain ⟨a,cap',h1,h2⟩ := h.ls d hd
   refine ⟨a,cap',h1,fun hp => ?_⟩
   obtain ⟨g',cu,h3,h4,h5,h6,h7⟩ := h2 hp
   refine ⟨g',cu,h3,(ne g' (fun e => ?_)).trans h4,h5,h6,h7⟩
   rw [e,h.blk] at h4
   injection h4 with h4
   unfold pgO at h4
   injection h4 with _ h4 _
   exact absurd h4 (by decide)
structure VdF (fid : Nat) (op : Bool → Bool → Bool) : Prop where
 ent : EntersP fid
 go : ∀ x y w,Calls Try.prog fid #[.bool x,.bool y] w fun e w' => e = .returned (.bool (op x y)) ∧ w' = w
abbrev vdV (fid : Nat) : Value := .func (.func fid) #[] #[]
theorem BoSl.getB {w : World} {a : Option Addr} {n c : Nat} {bs : List Bool} (h : BoSl w a n c bs) {i : Nat} (hi : i < n) : (∀ w',(Instr.indexAt 22 (.slice a n c) (.int .i64 (i : Int))).run Try.prog w' = .ok (.pointer (some (adOf a i))) w') ∧ w.cell? (adOf a i) = some (.bool (bs.getD i false)) := by
 obtain ⟨h1,h2⟩ := h.at i hi
 refine ⟨fun w' => h1 n w' hi,?_⟩
 rw [h2,List.getD_eq_getElem?_getD,List.getElem?_eq_getElem (by rw [h.hlen]; exact hi)]; rfl
theorem q33 {D : PD} {w : World} {F : Nat → Prop} {T : List PrP} (h : PrS D w F T) (i : Nat) (hi : i < T.length + 1) (hm1 : (metE T i).1 < D.nA) (hm2 : (metE T i).2 < D.nB) {fid : Nat} {op : Bool → Bool → Bool} (hV : VdF fid op) :
  Calls Try.prog 40 #[.pointer (some ⟨D.b,0,none⟩),.int .i64 (i : Int),vdV fid] w fun e w' => e = .returned (.bool (saysE D.bs D.bs' op (metE T i))) ∧ Below w.heap.size w w' := by
 obtain ⟨g,cap,hblk,hrow,hF⟩ := h.read
 obtain ⟨x,hx,hme⟩ := q5M hi
 obtain ⟨hgl,hix,e0,e1,_,_⟩ := q21 hrow hx
 have c5 : w.cell? ⟨D.b,5,none⟩ = some (.slice (some ⟨g,0,none⟩) (T.length + 1) cap) := q6 hblk 5
 have c0 : w.cell? ⟨D.b,0,none⟩ = some (.slice D.aA D.nA D.cA) := q6 hblk 0
 have c1 : w.cell? ⟨D.b,1,none⟩ = some (.slice D.aB D.nB D.cB) := q6 hblk 1
 rw [hme] at hm1 hm2
 dsimp only at hm1 hm2
 obtain ⟨ixA,r1⟩ := (h.bA.up h.bel).getB hm1
 obtain ⟨ixB,r2⟩ := (h.bB.up h.bel).getB hm2
 rw [hme]
 obtain ⟨hE,hgo⟩ := hV
 clear hblk hrow hF hx h hme
 unfold EntersP at hE
 unfold saysE
 dsimp only
 generalize D.bs.getD x.1 false = y1 at *
 generalize D.bs'.getD x.2.1 false = y2 at *
 generalize x.1 = p at *
 generalize x.2.1 = q at *
 generalize adOf D.aA p = ad1 at *
 obtain ⟨a1g,a1o,a1z⟩ := ad1
 generalize adOf D.aB q = ad2 at *
 obtain ⟨a2g,a2o,a2z⟩ := ad2
 have hbh := q5 w (.cells #[.int .i64 (p : Int),.int .i64 (q : Int)] 88 (0,0))
 have d2 := q8 c0 hbh
 have d3 := q8 c1 hbh
 have t1 := q8 r1 hbh
 have t2 := q8 r2 hbh
 have hn := (MapKept.heap_alloc w (.cells #[.int .i64 (p : Int),.int .i64 (q : Int)] 88 (0,0))).1
 have h0 : (w.alloc (.cells #[.int .i64 (p : Int),.int .i64 (q : Int)] 88 (0,0))).cell? ⟨w.heap.size,0,none⟩ = some (.int .i64 (p : Int)) := q6 hn 0
 have h1 : (w.alloc (.cells #[.int .i64 (p : Int),.int .i64 (q : Int)] 88 (0,0))).cell? ⟨w.heap.size,1,none⟩ = some (.int .i64 (q : Int)) := q6 hn 1
 have HBH : Hid _ := hbh
 have hgo := hgo y1 y2
 clear hbh hn
 unfold vdV
 go_enter Try.func40,Try.ntmps40
 go_upto_region 15 with fail
 go_quiet ((exact Calls.quiet_of_same (hgo _)))
 go_wp2
 go_ret
 exact ⟨rfl,below_drewN HBH.out _⟩
def TrbR (ts : List Nat) (w : World) (e : Ending) (w' : World) : Prop := Below w.heap.size w w' ∧ ∃ a c,e = .returned (.slice a ts.length c) ∧ w'.ownsRow w.heap.size 34 1 (.slice a ts.length c) ts.length (ltV ts)
theorem q4W (a : Option Addr) (c : Nat) (w : World) : Calls Try.prog 62 #[.slice a 0 c] w fun e w' => e = .returned (.tuple #[]) ∧ w' = w := by
 go_enter Try.func62,Try.ntmps62
 go_wp2
 go_loopw [2,3] (fun i j wr => i = .int .i64 0 ∧ j = .int .i64 (-1) ∧ wr = w) (fun _ _ _ => 0)
 case atStart => exact ⟨rfl,rfl,rfl⟩
 case round =>
  obtain ⟨rfl,rfl,rfl⟩ := hrel
  go_wp2
  go_end0
  exact ⟨rfl,rfl⟩
theorem q41 {D : PD} {w : World} {F : Nat → Prop} {T : List PrP} (h : PrS D w F T) (j0 : Nat) (ts : List Nat) (hm : T.length ≤ 65536) (hj : j0 < T.length + 1) (hup : upP (mtL T) ts j0) (hback : ∀ (j : Nat) (x : PrP),0 < j → (mtL T)[j]? = some x → x.2.2.1 < j ∧ x.2.2.2 < 256) :
  Calls Try.prog 45 #[.pointer (some ⟨D.b,0,none⟩),.int .i64 (j0 : Int)] w (TrbR ts.reverse w) := by
 obtain ⟨P,eP⟩ : ∃ P,P = TrbR ts.reverse w := ⟨_,rfl⟩
 have HP : Hid (∀ w' a c,Below w.heap.size w w' → w'.ownsRow w.heap.size 34 1 (.slice a ts.length c) ts.length (ltV ts.reverse) → P (.returned (.slice a ts.length c)) w') := fun w' a c hb h => by rw [eP]; exact ⟨hb,a,c,by rw [List.length_reverse],by rw [List.length_reverse]; exact h⟩
 rw [← eP]
 clear eP
 obtain ⟨g,cap,hblk,hrow,hF⟩ := h.read
 have hbl := (Array.getElem?_eq_some_iff.1 hblk).1
 have c5 : w.cell? ⟨D.b,5,none⟩ = some (.slice (some ⟨g,0,none⟩) (T.length + 1) cap) := q6 hblk 5
 have HC5 : Hid _ := c5
 have HQ : Hid _ := hrow
 have HBK : Hid _ := hback
 have HUP : Hid _ := hup
 have hts : ∀ (ts : List Nat) (j : Nat),upP (mtL T) ts j → j < T.length + 1 → ts.length ≤ j := by
  intro ts
  induction ts with
  | nil => intro j _ _; exact Nat.zero_le _
  | cons b ts ih =>
   intro j h hj
   obtain ⟨h0,x,hx,_,h1⟩ := h
   have := hback j x h0 hx
   have := ih _ h1 (by omega)
   simp; omega
 have HTL : Hid (ts.length ≤ 65536) := by show _ ≤ _; have := hts ts j0 hup hj; omega
 clear hback hup hts h hblk hF hrow c5
 generalize hM : T.length + 1 = M at *
 clear hM
 generalize mtL T = QL at *
 generalize D.b = b at *
 go_enter Try.func45,Try.ntmps45
 go_wp2
 go_loopw [1,5] (fun i v wr => ∃ (j : Nat) (ds rs : List Nat),j < M ∧ i = .int .i64 (j : Int) ∧ Hid (upP QL rs j) ∧ Hid (ds ++ rs = ts) ∧ Hid (wr.ownsRow w.heap.size 34 1 v ds.length (ltV ds)) ∧ Hid (Below w.heap.size w wr)) (fun i _ _ => (intOf i).toNat)
 case atStart => exact ⟨j0,[],ts,hj,rfl,HUP,rfl,⟨rfl,.inl ⟨rfl,rfl⟩⟩,Below.refl _ _⟩
 case round =>
  obtain ⟨j,ds,rs,hjm,rfl,HU,HD,HO,HB⟩ := hrel
  clear HUP
  obtain ⟨va,vc,rfl⟩ := qe HO.out
  by_cases h0 : 0 < j
  ·cases rs with
   | nil => exact absurd HU.out (by show ¬ j = 0; omega)
   | cons b' rs =>
    obtain ⟨_,x,hx,hb,hr⟩ := HU.out
    have HR : Hid _ := hr
    obtain ⟨hfj,hb8⟩ := HBK.out j x h0 hx
    obtain ⟨p,q,f,l⟩ := x
    dsimp only at hb hr hfj hb8 HR
    subst hb
    obtain ⟨hgl,hix,_,_,c2,c3⟩ := q21 HQ.out hx
    have hdl : ds.length ≤ 65536 := by have := HTL.out; have := congrArg List.length HD.out; simp at this; omega
    dsimp only at c2 c3
    have HC2 : Hid _ := c2
    have c5 := q8 HC5.out HB.out
    have c2 := q8 c2 HB.out
    have c3 := q8 c3 HB.out
    have HD2 : Hid ((ds ++ [l]) ++ rs = ts) := by show _ = _; rw [← HD.out]; simp
    have hsz : w.heap.size ≤ (wr.alloc (.cells #[.int .u8 (l : Int)] 34)).heap.size := by have := HB.out.size; simp; omega
    have hcl : (wr.alloc (.cells #[.int .u8 (l : Int)] 34)).cell? ⟨wr.heap.size,0,none⟩ = some (.int .u8 (l : Int)) := q6 (MapKept.heap_alloc wr _).1 0
    clear HU hx hr HD HP
    go_wp2_with (at_builtin; refine q3W rfl _ _ rfl w.heap.size _ ds.length ds rfl (World.ownsRow.alloc HO.out _) wr.heap.size l rfl hcl (by omega) hsz ?_)
    intro v7 w7 hown hgr
    have HO7 : Hid (w7.ownsRow w.heap.size 34 1 v7 (ds ++ [l]).length (ltV (ds ++ [l]))) := by show World.ownsRow _ _ _ _ _ _ _; rw [List.length_append,ltV,List.map_append]; exact hown
    have HB7 : Hid (Below w.heap.size w w7) := (HB.out.alloc HB.out.size _).grown hgr hsz (qp HO.out)
    have c5 := q8 HC5.out HB7.out
    have c2 := q8 HC2.out HB7.out
    clear hown hgr c3 hcl hsz HO HB
    go_wp2
    go_roundw
    case rel => exact ⟨f,ds ++ [l],rs,by omega,rfl,HR,HD2,HO7,HB7⟩
    case measure => simp [intOf]; omega
  ·obtain rfl : j = 0 := by omega
   have hr0 := q9n HU.out
   subst hr0
   have hds : ds = ts := by have := HD.out; rwa [List.append_nil] at this
   subst hds
   by_cases hn : ds.length = 0
   ·have hd0 : ds = [] := List.eq_nil_of_length_eq_zero hn
    subst hd0
    have HE : Hid _ := HP.out wr va vc HB.out (by simpa using HO.out)
    have jr := q4W va vc wr
    clear HP HU HD HO
    simp only [List.length_nil] at HE ⊢
    go_wp2_with fail
    refine jr.mono ?_
    rintro e w' ⟨rfl,hw'⟩
    subst hw'
    go_wp2
    exact HE.out
   ·obtain ⟨gt,ct,et,hg1,hg2⟩ := World.ownsRow.form HO.out (by omega)
    injection et with et1 et2 et3
    subst et1; subst et3
    have jr := q3E w.heap.size gt vc ds.length ds wr (by omega) (by have := HTL.out; omega) HO.out
    have HE : Hid (∀ w',w'.ownsRow w.heap.size 34 1 (.slice (some ⟨gt,0,none⟩) ds.length vc) ds.length (ltV ds.reverse) → wr.grownBy w' (some gt) → P (.returned (.slice (some ⟨gt,0,none⟩) ds.length vc)) w') := fun w' h1 h2 => HP.out w' _ _ (HB.out.grown h2 HB.out.size (fun q e => by injection e with e; omega)) h1
    clear HP HU HD HO HB
    go_wp2_with fail
    refine jr.mono ?_
    rintro e w' ⟨rfl,h1,h2⟩
    have HE2 : Hid _ := HE.out w' h1 h2
    clear h1 h2 jr HE
    go_wp2
    exact HE2.out
end Go.Proofs.Ytcnkgokfjafgkaa
