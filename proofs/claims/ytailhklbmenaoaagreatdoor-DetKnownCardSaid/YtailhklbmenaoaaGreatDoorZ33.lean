/- Texts of the proof, put together: what it uses. -/
import Derived.Test.YtailhklbmenaoaaGreatDoorZ06
import Derived.Test.YtailhklbmenaoaaGreatDoorZ07
import Derived.Test.YtailhklbmenaoaaGreatDoorZ14
import Derived.Test.YtailhklbmenaoaaGreatDoorZ15
import Derived.Test.YtailhklbmenaoaaGreatDoorZ18
import Derived.Test.YtailhklbmenaoaaGreatDoorZ20
import Derived.Test.YtailhklbmenaoaaGreatDoorZ23
import Derived.Test.YtailhklbmenaoaaGreatDoorZ29
import Derived.Test.YtailhklbmenaoaaGreatDoorZ31
import Derived.Test.YtailhklbmenaoaaGreatDoorZ32
set_option maxRecDepth 100000
set_option maxHeartbeats 16000000
namespace Go.Proofs.YtailhklbmenaoaaGreatDoor
open Go.RowKit Go.Maps
theorem qfS {T : Tr} {vs : Value} {w2 : World} {F F2 : Nat → Prop} {p g n ak : Nat} {M : Mt} {items : List It} (hp : PgO T w2 F p vs items M) (hst : StG w2 F2 g n []) (hd : ∀ k,F k → ¬ F2 k) (t64 : Tab64 w2) (t10 : Tab10 w2) (h1 : ¬ F tabG) (h2 : ¬ F2 tabG) (h3 : ¬ F ptG) (h4 : ¬ F2 ptG) :
  ∃ own,MkD T vs ((w2.alloc (.map #[] 0)).alloc (.cells (mkdA n ak p g (.slice none 0 0) w2.heap.size (.slice none 0 0)) 78)) own (w2.heap.size + 1) p g n ak w2.heap.size M (.slice none 0 0) (.slice none 0 0) (.slice none 0 0) (.slice none 0 0) [] [] [] 0 (posT []) ∧ ∀ k,own k ≠ 0 → F k ∨ F2 k ∨ w2.heap.size ≤ k := by
 classical
 have hsz : (w2.alloc (.map #[] 0)).heap.size = w2.heap.size + 1 := by simp
 have hb1 := qd w2 (.map #[] 0)
 have hb2 := qd (w2.alloc (.map #[] 0)) (.cells (mkdA n ak p g (.slice none 0 0) w2.heap.size (.slice none 0 0)) 78)
 have hb := qe hb1 hb2
 have g1 : tabG < w2.heap.size := World.block_lt_of_cell? _ _ (t64 0 (by decide))
 have g2 := t10.lt
 generalize hw : (w2.alloc (.map #[] 0)).alloc (.cells (mkdA n ak p g (.slice none 0 0) w2.heap.size (.slice none 0 0)) 78) = w3 at *
 have hw3 : w3.heap.size = w2.heap.size + 2 := by rw [← hw]; simp
 have hblk : w3.heap[w2.heap.size + 1]? = some (.cells (mkdA n ak p g (.slice none 0 0) w2.heap.size (.slice none 0 0)) 78 (0,0)) := by
  rw [← hw,← hsz]
  exact (MapKept.heap_alloc _ _).1
 have hnum : NumS w3 w2.heap.size 0 (posT []) := by
  refine NumS.far (w := w2.alloc (.map #[] 0)) ((q94 w2).alike fun x _ => rfl) ?_
  exact hb2.block _ (by rw [hsz]; omega)
 have e1 : (fun k => (if F k then 1 else if F2 k then 2 else if k = w2.heap.size + 1 then 3 else if k = w2.heap.size then 4 else 0) = 1) = F := by
  funext k
  apply propext
  by_cases a1 : F k
  ·simp [a1]
  ·simp only [a1,if_false]
   constructor
   ·intro h; split at h <;> (try split at h) <;> (try split at h) <;> omega
   ·exact fun h => h.elim
 have e2 : (fun k => (if F k then 1 else if F2 k then 2 else if k = w2.heap.size + 1 then 3 else if k = w2.heap.size then 4 else 0) = 2) = F2 := by
  funext k
  apply propext
  by_cases a1 : F k
  ·simp [a1,hd k a1]
  ·by_cases a2 : F2 k
   ·simp [a1,a2]
   ·simp only [a1,a2,if_false]
    constructor
    ·intro h; split at h <;> (try split at h) <;> omega
    ·exact fun h => h.elim
 have fl := hp.lt
 have f2l := hst.lt
 refine ⟨fun k => if F k then 1 else if F2 k then 2 else if k = w2.heap.size + 1 then 3 else if k = w2.heap.size then 4 else 0,⟨fun k hk => ?_,⟨items,by rw [e1]; exact hp.up hb⟩,by rw [e2]; exact hst.up hb,hblk,?_,hnum,?_,⟨rfl,Or.inl ⟨rfl,rfl⟩⟩,fun k hk => (by cases hk),⟨rfl,Or.inl ⟨rfl,rfl⟩⟩,fun k hk => (by cases hk),fun r hr => (by cases hr),t64.up hb,t10.up hb,?_,?_⟩,fun k hk => ?_⟩
 ·by_cases a1 : F k
  ·have := fl k a1; omega
  ·by_cases a2 : F2 k
   ·have := f2l k a2; omega
   ·simp only [a1,a2,if_false] at hk
    split at hk
    ·omega
    ·split at hk <;> omega
 ·have a1 : ¬ F (w2.heap.size + 1) := fun h => by have := fl _ h; omega
  have a2 : ¬ F2 (w2.heap.size + 1) := fun h => by have := f2l _ h; omega
  simp [a1,a2]
 ·have a1 : ¬ F w2.heap.size := fun h => by have := fl _ h; omega
  have a2 : ¬ F2 w2.heap.size := fun h => by have := f2l _ h; omega
  simp [a1,a2]
 ·have a3 : tabG ≠ w2.heap.size + 1 := by omega
  have a4 : tabG ≠ w2.heap.size := by omega
  simp [h1,h2,a3,a4]
 ·have a3 : ptG ≠ w2.heap.size + 1 := by omega
  have a4 : ptG ≠ w2.heap.size := by omega
  simp [h3,h4,a3,a4]
 ·by_cases a1 : F k
  ·exact Or.inl a1
  ·by_cases a2 : F2 k
   ·exact Or.inr (Or.inl a2)
   ·simp only [a1,a2,if_false] at hk
    right; right
    split at hk
    ·omega
    ·split at hk <;> omega
def BeD (w : World) (ts : List Tk) (n : Int) (e : Ending) (w' : World) : Prop := Below w.heap.size w w' ∧
 ((∃ E : Nat,E ≠ 0 ∧ DetX n ts (.error E) ∧ e = .returned (.tuple #[.pointer none,.int .i64 (E : Int)])) ∨
  ∃ T vs own b l0 M,KT T ∧ ts = T.flat ∧ (0 ≤ n ∧ n ≤ 8) ∧ chkE ts = 0 ∧ bitsL ts >>> n.toNat = 0 ∧ needM T [] = some (l0,M) ∧ e = .returned (.tuple #[.pointer (some ⟨b,0,none⟩),.int .i64 0]) ∧ DkO T vs w' own b n.toNat (bitsL ts) M [l0] [] [] ∧ ∀ k,own k ≠ 0 → w.heap.size ≤ k)
theorem q6G (n : Int) (a : Option Addr) (len cap : Nat) (ts : List Tk) (w : World) (hT : TkSl w a len cap ts) (h64 : Tab64 w) (h10 : Tab10 w) :
  Calls Tryz.prog 49 #[.int .i64 n,.slice a len cap] w (BeD w ts n) := by
 obtain ⟨Q,hQ⟩ : ∃ Q : Ending → World → Prop,Q = BeD w ts n := ⟨_,rfl⟩
 have HQ : Hid (∀ e w',BeD w ts n e w' → Q e w') := fun e w' h => by rw [hQ]; exact h
 rw [← hQ]
 have jn := q9V n w
 have hmm := @run_makeMap Tryz.prog
 have HT : Hid _ := hT
 have H64 : Hid _ := h64
 have H10 : Hid _ := h10
 clear hT h64 h10 hQ
 go_enter Tryz.func49,Tryz.ntmps49
 go_wp2_with fail
 refine jn.mono ?_
 rintro e w1 ⟨hb1,⟨hn,rfl⟩ | ⟨h0,h8,g,F2,rfl,hF2,hst⟩⟩
 ·have HR : Hid (Q (.returned (.tuple #[.pointer none,.int .i64 2])) w1) := HQ.out _ _ ⟨hb1,Or.inl ⟨2,by decide,DetX.ofFar hn,rfl⟩⟩
  clear jn hb1 hn
  go_wp2
  exact HR.out
 ·have HB1 : Hid _ := hb1
  have HST : Hid _ := hst
  have HF2 : Hid _ := hF2
  obtain ⟨k,rfl⟩ := Int.eq_ofNat_of_zero_le h0
  have hk8 : k ≤ 8 := by omega
  have HN : Hid (0 ≤ ((k : Nat) : Int) ∧ ((k : Nat) : Int) ≤ 8) := ⟨h0,h8⟩
  have jc := q3E a len cap ts w1 (HT.out.up hb1)
  clear jn hb1 hst hF2 h0 h8
  go_wp2_with fail
  refine jc.mono ?_
  rintro e w2 ⟨rfl,hb2⟩
  have HB2 : Hid _ := hb2
  by_cases hc : chkE ts = 0
  ·have hne : ((chkE ts : Int) != 0) = false := by rw [hc]; rfl
   have HC : Hid _ := hc
   have hsz : len ≤ 1000000 := by have := (qdj hc).1; have := HT.out.hlen; omega
   obtain ⟨_,T,kT,hts⟩ := qdj hc
   have h7 : ∀ t ∈ ts,t.2 ≤ 7 := by rw [hts]; exact q8Z kT
   have hb12 := qe HB1.out hb2
   have jb := q7K a len cap ts w2 (HT.out.up hb12) h7 hsz
   have hsm := q5S h7
   generalize hE : chkE ts = E at hne ⊢
   clear jc hc hb2 hb12 kT hts h7 hE
   go_wp2_with fail
   refine jb.mono ?_
   rintro e w3 ⟨rfl,hb3⟩
   have HB3 : Hid _ := hb3
   by_cases hx : bitsL ts >>> k = 0
   ·have hd : ((bitsL ts : Int) / 2 ^ k != 0) = false := by rw [qbp,hx]; rfl
    have hb13 := qe (qe HB1.out HB2.out) hb3
    have jp := q9K a len cap ts w3 (HT.out.up hb13)
    have HX : Hid _ := hx
    clear jb hb3 hb13 hx
    generalize hak : bitsL ts = ak at *
    have HAK : Hid _ := hak
    clear hak
    go_wp2_with fail
    refine jp.mono ?_
    rintro e w4 ⟨hb4,⟨hc,_⟩ | ⟨T,kT,hts,hc,⟨hn,rfl⟩ | ⟨l0,M,p,F,q,d,items,hn,rfl,hO,hU,hF⟩⟩⟩
    ·exact absurd HC.out hc
    ·have hb14 := qe (qe (qe HB1.out HB2.out) HB3.out) hb4
     have HR : Hid (Q (.returned (.tuple #[.pointer none,.int .i64 9])) w4) := HQ.out _ _ ⟨hb14,Or.inl ⟨9,by decide,DetX.ofDet HN.out hc (by rw [HAK.out]; exact HX.out) kT hts (by unfold detM; rw [hn]),rfl⟩⟩
     clear jp hb4 hb14 kT hts hn hc
     go_wp2
     exact HR.out
    ·have hb34 := qe HB3.out hb4
     have hb24 := qe HB2.out hb34
     have hb14 := qe HB1.out hb24
     have hl0 : LstH l0 := ⟨qM (qW T q6i kT hn).1.bd hO.few,q1B T hn⟩
     have HNX : Hid (Calls Tryz.prog 69 #[.pointer (some ⟨p,0,none⟩)] ((w4.alloc (.map #[] 0)).alloc (.cells (mkdA k ak p g (.slice none 0 0) w4.heap.size (.slice none 0 0)) 78)) fun e w6 => ∃ a6 c6 L6,e = .returned (.slice a6 L6 c6) ∧
       Calls Tryz.prog 68 #[.pointer (some ⟨w4.heap.size + 1,0,none⟩),.slice a6 L6 c6] w6 fun e w7 => ∃ r : Nat,e = .returned (.tuple #[.int .i64 (r : Int),.int .i64 0]) ∧ Q (.returned (.tuple #[.pointer (some ⟨w4.heap.size + 1,0,none⟩),.int .i64 0])) w7) := by
      have t64 := Tab64.up H64.out hb14
      have t10 := Tab10.up H10.out hb14
      have s64 : tabG < w.heap.size := World.block_lt_of_cell? _ _ (H64.out 0 (by decide))
      have s10 := Tab10.lt H10.out
      have z1 := HB1.out.size
      have z2 := HB2.out.size
      have z3 := HB3.out.size
      have hst4 := HST.out.up hb24
      obtain ⟨own,hM,hGe⟩ := qfS (n := k) (ak := ak) (F2 := F2) (g := g) hO hst4 (fun j h1 h2 => by have := hF j h1; have := HST.out.lt j h2; omega) t64 t10 (fun h => by have := hF _ h; omega) (fun h => by have := HF2.out _ h; omega) (fun h => by have := hF _ h; omega) (fun h => by have := HF2.out _ h; omega)
      have hge : ∀ j,own j ≠ 0 → w.heap.size ≤ j := fun j hj => by
       have z4 := hb4.size
       rcases hGe j hj with h | h | h
       ·have := hF j h; omega
       ·exact HF2.out j h
       ·omega
      have hb45 := qe (qd w4 (.map #[] 0)) (qd (w4.alloc (.map #[] 0)) (.cells (mkdA k ak p g (.slice none 0 0) w4.heap.size (.slice none 0 0)) 78))
      refine (q70 (hO.up hb45) (hU.up hb45) hl0.few).mono ?_
      intro e w6 hcl
      obtain ⟨hb6,a6,c6,rfl,hU6⟩ := qgi (F := fun j => own j ≠ 0) hM.lt hcl
      refine ⟨a6,c6,_,rfl,?_⟩
      have hD : DkO T (.slice q l0.length d) w6 own (w4.heap.size + 1) k ak M [] [] [] := ⟨p,g,w4.heap.size,_,_,[],hM.up hb6,rfl,by simp⟩
      refine (q3D hD a6 l0.length c6 l0 hU6 hl0.sm hl0.few).mono ?_
      rintro e w7 ⟨own7,f7,h7⟩
      have hput : putD l0 [] = some (0,[l0]) := by unfold putD; simp
      rw [hput] at h7
      rcases h7 with ⟨h8,_,_⟩ | ⟨j,S1,h8,rfl,hO7⟩
      ·cases h8
      ·injection h8 with h8; injection h8 with h8 h9
       subst h8 h9
       have hbw6 := qe (qe hb14 hb45) hb6
       refine ⟨0,rfl,HQ.out _ _ ⟨hbw6.trans (f7.below hge hbw6.size),Or.inr ⟨T,_,own7,_,l0,M,kT,hts,HN.out,hc,by rw [HAK.out]; exact HX.out,hn,rfl,by rw [HAK.out]; exact hO7,f7.ge hge hbw6.size⟩⟩⟩
     have js := HNX.out
     clear jp HNX hb4 hb34 hb24 hb14 hl0 kT hts hn hc hO hU hF HST HF2 HT H64 H10 HAK HX HC HN HB1 HB2 HB3 HQ
     unfold mkdA at js
     unfold pgV
     go_wp2_with fail
     refine js.mono ?_
     rintro e w6 ⟨a6,c6,L6,rfl,jt⟩
     clear js
     go_wp2_with fail
     refine jt.mono ?_
     rintro e w7 ⟨r,rfl,hR⟩
     have HR : Hid _ := hR
     clear jt hR
     go_wp2
     exact HR.out
   ·have hd : ((bitsL ts : Int) / 2 ^ k != 0) = true := by
     rw [qbp,bne_iff_ne]
     omega
    have hb13 := qe (qe HB1.out HB2.out) hb3
    have HR : Hid (Q (.returned (.tuple #[.pointer none,.int .i64 2])) w3) := HQ.out _ _ ⟨hb13,Or.inl ⟨2,by decide,DetX.ofArg HN.out HC.out hx,rfl⟩⟩
    clear jb hb3 hb13 hx HQ
    generalize bitsL ts = ak at *
    go_wp2
    exact HR.out
  ·have hne : ((chkE ts : Int) != 0) = true := by simp; omega
   have HR : Hid (Q (.returned (.tuple #[.pointer none,.int .i64 (chkE ts : Int)])) w2) := HQ.out _ _ ⟨qe HB1.out hb2,Or.inl ⟨chkE ts,hc,DetX.ofChk HN.out hc,rfl⟩⟩
   generalize chkE ts = E at *
   clear jc hb2 HQ
   go_wp2
   exact HR.out
def CoD (w : World) (ts : List Tk) (n : Int) (e : Ending) (w' : World) : Prop := Below w.heap.size w w' ∧
 ((∃ E : Nat,E ≠ 0 ∧ DetX n ts (.error E) ∧ e = .returned (.tuple #[.pointer none,.int .i64 (E : Int)])) ∨
  ∃ T vs own b R N S M,KT T ∧ ts = T.flat ∧ DetX n ts (.ok (R,N,S,M)) ∧ DetK T n.toNat R N S M ∧ e = .returned (.tuple #[.pointer (some ⟨b,0,none⟩),.int .i64 0]) ∧ DkO T vs w' own b n.toNat (bitsL ts) M S R N ∧ ∀ k,own k ≠ 0 → w.heap.size ≤ k)
theorem q4I (n : Int) (a : Option Addr) (len cap : Nat) (ts : List Tk) (w : World) (hT : TkSl w a len cap ts) (h64 : Tab64 w) (h10 : Tab10 w) :
  Calls Tryz.prog 28 #[.int .i64 n,.slice a len cap] w (CoD w ts n) := by
 obtain ⟨Q,hQ⟩ : ∃ Q : Ending → World → Prop,Q = CoD w ts n := ⟨_,rfl⟩
 have HQ : Hid (∀ e w',CoD w ts n e w' → Q e w') := fun e w' h => by rw [hQ]; exact h
 rw [← hQ]
 have jb := q6G n a len cap ts w hT h64 h10
 clear hQ hT h64 h10
 go_enter Tryz.func28,Tryz.ntmps28
 go_wp2_with fail
 refine jb.mono ?_
 rintro e w1 ⟨hb1,⟨E,hE,hX,rfl⟩ | ⟨T,vs,own,b,l0,M,kT,hts,hn,hc,hx,hnd,rfl,hO,hge⟩⟩
 ·have hne : ((E : Int) != 0) = true := by simp; omega
  have HR : Hid (Q (.returned (.tuple #[.pointer none,.int .i64 (E : Int)])) w1) := HQ.out _ _ ⟨hb1,Or.inl ⟨E,hE,hX,rfl⟩⟩
  clear jb hb1 hX hE HQ
  go_wp2
  exact HR.out
 ·have hk8 : n.toNat ≤ 8 := by omega
  have h7 : ∀ t ∈ ts,t.2 ≤ 7 := by rw [hts]; exact q8Z kT
  have jg := qab (X := PrX ts) hO (qde kT hnd n.toNat) (q21 T (by rw [hts]; exact fun p hp => hp) (fun f hf => (by cases hf)) hnd) (fun x => qeE ts x) (q5S h7) hk8
  have HN : Hid (∀ e w2,GoE T vs w1 own b n.toNat (bitsL ts) M [l0] e w2 → (∃ E : Nat,((E : Int) != 0) = true ∧ e = .returned (.int .i64 (E : Int)) ∧ Q (.returned (.tuple #[.pointer none,.int .i64 (E : Int)])) w2) ∨ (e = .returned (.int .i64 0) ∧ Q (.returned (.tuple #[.pointer (some ⟨b,0,none⟩),.int .i64 0])) w2)) := fun e w2 hq => by
   obtain ⟨own2,f2,hq⟩ := hq
   have hb2 := hb1.trans (f2.below hge hb1.size)
   have hge2 := f2.ge hge hb1.size
   rcases hq with ⟨E,hE,hal,rfl⟩ | ⟨R,N,S,M2,hal,rfl,hO2⟩
   ·exact Or.inl ⟨E,by simp; omega,rfl,HQ.out _ _ ⟨hb2,Or.inl ⟨E,hE,DetX.ofDet hn hc hx kT hts (by unfold detM; rw [hnd]; exact hal),rfl⟩⟩⟩
   ·have hd : detM T n.toNat = .ok (R,N,S,M2) := by unfold detM; rw [hnd]; exact hal
    exact Or.inr ⟨rfl,HQ.out _ _ ⟨hb2,Or.inr ⟨T,vs,own2,b,R,N,S,M2,kT,hts,DetX.ofDet hn hc hx kT hts hd,qgk hk8 kT hd,rfl,hO2,hge2⟩⟩⟩
  clear jb hb1 kT hts hn hc hx hnd hO hge hk8 h7 HQ
  go_wp2_with fail
  refine jg.mono ?_
  intro e w2 hq
  rcases HN.out e w2 hq with ⟨E,hE,rfl,hR⟩ | ⟨rfl,hR⟩
  ·have HR : Hid _ := hR
   clear jg HN hq hR
   go_wp2
   exact HR.out
  ·have HR : Hid _ := hR
   clear jg HN hq hR
   go_wp2
   exact HR.out
def AZ (w : World) (g : Nat) : Prop := w.heap[g]? = some (.cells #[.int .i64 0,.slice none 0 0,.slice none 0 0,.slice none 0 0] 32 (0,0))
theorem AZ.lt {w : World} {g : Nat} (h : AZ w g) : g < w.heap.size := (Array.getElem?_eq_some_iff.1 h).1
theorem AZ.up {w w' : World} {g : Nat} (h : AZ w g) (hb : Below w.heap.size w w') : AZ w' g := (hb.block g h.lt).trans h
def four (w : World) (g : Nat) (v0 v1 v2 v3 : Value) : World := (((w.setCell ⟨g,0,none⟩ v0).setCell ⟨g,1,none⟩ v1).setCell ⟨g,2,none⟩ v2).setCell ⟨g,3,none⟩ v3
theorem q4s (w : World) (g : Nat) (v0 v1 v2 v3 : Value) {k : Nat} (h : k ≠ g) : (four w g v0 v1 v2 v3).heap[k]? = w.heap[k]? := by
 unfold four
 rw [Below.heap_setCell _ _ _ _ h,Below.heap_setCell _ _ _ _ h,Below.heap_setCell _ _ _ _ h,Below.heap_setCell _ _ _ _ h]
theorem q8W (w : World) (g : Nat) (v0 v1 v2 v3 : Value) : (four w g v0 v1 v2 v3).heap.size = w.heap.size := by unfold four; simp
theorem q4r {B : Nat} {w w2 : World} {g : Nat} (hb : Below B w w2) (hg : B ≤ g) (v0 v1 v2 v3 : Value) : Below B w (four w2 g v0 v1 v2 v3) :=
 (((hb.setCell (p := ⟨g,0,none⟩) hg v0).setCell (p := ⟨g,1,none⟩) hg v1).setCell (p := ⟨g,2,none⟩) hg v2).setCell (p := ⟨g,3,none⟩) hg v3
structure AutD (B : Nat) (w : World) (bs : List Bool) (aA aG : Option Addr) (cG : Nat) (aN : Option Addr) (cN : Nat) (R : List Int) (N : List Gd) : Prop where
 bo : BoSl w aA bs.length bs.length bs
 zs : ZSl w aG R.length cG R
 nd : NdSl w aN N.length cN N
 b1 : ∀ x,aA = some x → B ≤ x.block
 b2 : ∀ k,k < R.length → B ≤ (adOf aG k).block
 b3 : ∀ x,aN = some x → B ≤ x.block
theorem BoSl.keepD {w w' : World} {a : Option Addr} {len cap : Nat} {bs : List Bool} (h : BoSl w a len cap bs) (hk : ∀ p v,w.cell? p = some v → (∀ x,a = some x → p.block = x.block) → w'.cell? p = some v) : BoSl w' a len cap bs :=
 ⟨h.hlen,h.hcap,h.bd,h.nn,fun x hx k hk2 => hk _ _ (h.c x hx k hk2) fun y hy => by rw [q1I]; rw [hx] at hy; injection hy with hy; rw [hy]⟩
theorem AutD.far {B : Nat} {w w' : World} {bs : List Bool} {aA aG : Option Addr} {cG : Nat} {aN : Option Addr} {cN : Nat} {R : List Int} {N : List Gd} (h : AutD B w bs aA aG cG aN cN R N) (hs : w.heap.size ≤ w'.heap.size) (hk : ∀ k,B ≤ k → k < w.heap.size → w'.heap[k]? = w.heap[k]?) : AutD B w' bs aA aG cG aN cN R N := by
 have cc : ∀ (p : Addr) (v : Value),w.cell? p = some v → B ≤ p.block → w'.cell? p = some v := fun p v hp hb => by
  have := hk p.block hb (World.block_lt_of_cell? _ _ hp)
  unfold World.cell? at hp ⊢
  rw [this]; exact hp
 refine ⟨?_,⟨h.zs.hlen,h.zs.hcap,h.zs.bd,h.zs.idx,fun k h1 => cc _ _ (h.zs.cell k h1) (h.b2 k h1),fun k h1 => Nat.lt_of_lt_of_le (h.zs.blk k h1) hs,h.zs.nn⟩,?_,h.b1,h.b2,h.b3⟩
 ·cases aA with
  | none => exact ⟨h.bo.hlen,h.bo.hcap,h.bo.bd,h.bo.nn,fun x hx => (by cases hx)⟩
  | some y => exact h.bo.keepD fun p v hp hx => cc p v hp (by rw [hx y rfl]; exact h.b1 y rfl)
 ·cases aN with
  | none => exact ⟨h.nd.hlen,h.nd.hcap,h.nd.bd,h.nd.nn,fun x hx => (by cases hx),fun x hx => (by cases hx),fun x hx => (by cases hx),h.nd.ok⟩
  | some y => exact h.nd.keep fun p v hp hx => cc p v hp (by rw [hx y rfl]; exact h.b3 y rfl)
theorem AutD.up {B : Nat} {w w' : World} {bs : List Bool} {aA aG : Option Addr} {cG : Nat} {aN : Option Addr} {cN : Nat} {R : List Int} {N : List Gd} (h : AutD B w bs aA aG cG aN cN R N) (hb : Below w.heap.size w w') : AutD B w' bs aA aG cG aN cN R N := h.far hb.size fun k _ h2 => hb.block k h2
def autV (n : Int) (aA : Option Addr) (nA : Nat) (aG : Option Addr) (nG cG : Nat) (aN : Option Addr) (nN cN : Nat) : Value := .agg #[.int .i64 n,.slice aA nA nA,.slice aG nG cG,.slice aN nN cN]
def AuD (n B : Nat) (S : List (List Nat)) (R : List Int) (N : List Gd) (M : Mt) (w : World) (e : Ending) (w' : World) : Prop := Below w.heap.size w w' ∧
 ∃ bs aA aG cG aN cN,e = .returned (autV (n : Int) aA bs.length aG R.length cG aN N.length cN) ∧ AutD B w' bs aA aG cG aN cN R N ∧ bs.length = S.length ∧ ∀ (j : Nat) (c : Bool),bs[j]? = some c → (c = true ↔ FinP M (atD S j))
structure AcI (T : Tr) (vs : Value) (w : World) (own : Nat → Nat) (b p g n ak mp : Nat) (M : Mt) (vL vG : Value) (ps : List PcU) (S : List (List Nat)) (R : List Int) (N : List Gd) (k : Nat) (wr : World) (bs : List Bool) : Prop where
 bel : Below w.heap.size w wr
 o : MkD T vs wr own b p g n ak mp M vL vG vL vG ps R N S.length (posT S)
 az : AZ wr w.heap.size
 row : BoRow wr (w.heap.size + 1) (bs ++ List.replicate (S.length - k) false)
 bl : bs.length = k
 fi : ∀ (j : Nat) (c : Bool),bs[j]? = some c → (c = true ↔ FinP M (atD S j))
theorem BoRow.ltD {w : World} {g : Nat} {bs : List Bool} (h : BoRow w g bs) : g < w.heap.size := (Array.getElem?_eq_some_iff.1 h).1
theorem BoRow.cellD {w : World} {g : Nat} {bs : List Bool} (h : BoRow w g bs) {i : Nat} {c : Bool} (hi : bs[i]? = some c) : w.cell? ⟨g,i,none⟩ = some (.bool c) := by
 unfold BoRow at h
 rw [qb h i]
 simp [hi]
theorem BoRow.upD {w w' : World} {g : Nat} {bs : List Bool} (h : BoRow w g bs) (hb : Below w.heap.size w w') : BoRow w' g bs := (hb.block g h.ltD).trans h
theorem BoRow.setD {w : World} {g : Nat} {bs : List Bool} (h : BoRow w g bs) (i : Nat) (c : Bool) : BoRow (w.setCell ⟨g,i,none⟩ (.bool c)) g (bs.set i c) := by
 unfold BoRow at h ⊢
 rw [heap_setCell_same w g i _ _ _ h]
 congr 2
 simp
theorem USl.offB {w : World} {a : Option Addr} {n c : Nat} {l : List Nat} (h : USl w a n c l) {g : Nat} {bs : List Bool} (hr : BoRow w g bs) : ∀ k,k < n → (adOf a k).block ≠ g := fun k hk e => by
 have hc := h.cell k hk
 unfold World.cell? at hc
 unfold BoRow at hr
 rw [e,hr] at hc
 cases hq : bs[(adOf a k).off]? with
 | none => simp [hq] at hc
 | some y => simp [hq] at hc
theorem qcF (g n i : Nat) (hi : i < n) (w : World) : (Instr.indexAt 28 (.slice (some ⟨g,0,none⟩) n n) (.int .i64 (i : Int))).run Tryz.prog w = .ok (.pointer (some ⟨g,i,none⟩)) w := by
 simp [Instr.indexAt,run_underlying Tryz.underlying28,asIntOf,qY (show (Tryz.prog.info? 4).map (·.size) = some 1 by kernel_rfl),hi,Result.andThen,go_sem,qi]
section
variable {T : Tr} {vs : Value} {w wr w' : World} {own : Nat → Nat} {b p g n ak mp : Nat} {M : Mt} {vL vG : Value} {ps : List PcU} {S : List (List Nat)} {R : List Int} {N : List Gd} {k : Nat} {bs : List Bool}
theorem AcI.put (h : AcI T vs w own b p g n ak mp M vL vG ps S R N k wr bs) (ho : ∀ j,w.heap.size ≤ j → own j = 0) (h64 : tabG < w.heap.size) (h10 : ptG < w.heap.size) (hk : k < S.length) (hb : Below wr.heap.size wr w') (c : Bool) (hc : c = true ↔ FinP M (atD S k)) :
  (∃ v,w'.cell? ⟨w.heap.size + 1,k,none⟩ = some v) ∧ w'.frozen? ⟨w.heap.size + 1,k,none⟩ = false ∧ AcI T vs w own b p g n ak mp M vL vG ps S R N (k + 1) (w'.setCell ⟨w.heap.size + 1,k,none⟩ (.bool c)) (bs ++ [c]) := by
 have hrow := h.row.upD hb
 have hm := h.o.up hb
 refine ⟨⟨_,hrow.cellD (i := k) (c := false) ?_⟩,frozen_of_row w' _ k _ _ hrow,?_,hm.off (ho _ (by omega)) (fun r hr => (hm.ls r hr).sl.offB hrow) (by omega) (by omega) k _,?_,?_,by simp [h.bl],fun j x hx => ?_⟩
 ·rw [List.getElem?_append_right (by rw [h.bl]; exact Nat.le_refl _),h.bl,Nat.sub_self,List.getElem?_replicate,if_pos (by omega)]
 ·exact (qe h.bel hb).setCell (p := ⟨w.heap.size + 1,k,none⟩) (by show w.heap.size ≤ w.heap.size + 1; omega) _
 ·exact (Below.heap_setCell _ _ _ _ (by show w.heap.size ≠ w.heap.size + 1; omega)).trans (h.az.up hb)
 ·have := hrow.setD k c
  have e2 : (bs ++ List.replicate (S.length - k) false).set k c = bs ++ [c] ++ List.replicate (S.length - (k + 1)) false := by
   rw [List.set_append_right _ _ (by rw [h.bl]; exact Nat.le_refl _),h.bl,Nat.sub_self,show S.length - k = (S.length - (k + 1)) + 1 by omega,List.replicate_succ,List.set_cons_zero,List.append_assoc]
   rfl
  rw [e2] at this
  exact this
 ·rcases q6h hx with hx | ⟨rfl,rfl⟩
  ·exact h.fi j x hx
  ·rw [h.bl]; exact hc
end
theorem q7J {T : Tr} {vs : Value} {w : World} {own : Nat → Nat} {b n ak : Nat} {M : Mt} {S : List (List Nat)} {R : List Int} {N : List Gd} (h : DkO T vs w own b n ak M S R N) (hst : StD S M) (hN : N.length ≤ 4096) {B : Nat} (hB : ∀ k,own k ≠ 0 → B ≤ k) (hBw : B ≤ w.heap.size) :
  Calls Tryz.prog 29 #[.pointer (some ⟨b,0,none⟩)] w (AuD n B S R N M w) := by
 obtain ⟨Q,hQ⟩ : ∃ Q : Ending → World → Prop,Q = AuD n B S R N M w := ⟨_,rfl⟩
 have HQ : Hid (∀ e w',AuD n B S R N M w e w' → Q e w') := fun e w' h => by rw [hQ]; exact h
 rw [← hQ]
 clear hQ
 obtain ⟨p,g,mp,vL,vG,ps,hk,hps,hfew⟩ := h
 have hpl : ps.length = S.length := by rw [← hps]; simp
 obtain ⟨aL,kL,rfl⟩ := q1G hk.rl
 have hb1 := qd w (.cells #[.int .i64 0,.slice none 0 0,.slice none 0 0,.slice none 0 0] 32)
 have k1 := hk.up hb1
 have cl := k1.cl
 have hz1 : (w.alloc (.cells #[.int .i64 0,.slice none 0 0,.slice none 0 0,.slice none 0 0] 32)).heap.size = w.heap.size + 1 := by simp
 have hmk := qbM ps.length ps.length (ps.length : Int) (ps.length : Int) rfl rfl (Nat.le_refl _) (by omega) (w.alloc (.cells #[.int .i64 0,.slice none 0 0,.slice none 0 0,.slice none 0 0] 32))
 rw [hz1] at hmk
 have hb2 := qd (w.alloc (.cells #[.int .i64 0,.slice none 0 0,.slice none 0 0,.slice none 0 0] 32)) (.cells ((zB ps.length).map Value.bool).toArray 4)
 have cl2 := (k1.up hb2).cl
 have HI0 : Hid (AcI T vs w own b p g n ak mp M (.slice aL ps.length kL) vG ps S R N 0 ((w.alloc (.cells #[.int .i64 0,.slice none 0 0,.slice none 0 0,.slice none 0 0] 32)).alloc (.cells ((zB ps.length).map Value.bool).toArray 4)) []) := by
  refine ⟨qe hb1 hb2,k1.up hb2,?_,?_,rfl,fun j c hc => by simp at hc⟩
  ·have : AZ (w.alloc (.cells #[.int .i64 0,.slice none 0 0,.slice none 0 0,.slice none 0 0] 32)) w.heap.size := (MapKept.heap_alloc w _).1
   exact this.up hb2
  ·unfold BoRow
   rw [← hz1,(MapKept.heap_alloc _ _).1,List.nil_append,Nat.sub_zero,← hpl]
   rfl
 have HO : Hid (∀ j,w.heap.size ≤ j → own j = 0) := fun j hj => Decidable.not_not.1 fun e => by have := hk.lt j e; omega
 have HG : Hid (tabG < w.heap.size ∧ ptG < w.heap.size) := ⟨hk.glt,hk.t10.lt⟩
 have HS : Hid _ := hst
 have HPS : Hid _ := hps
 have HNN : Hid _ := hN
 have HBB : Hid ((∀ k,own k ≠ 0 → B ≤ k) ∧ B ≤ w.heap.size) := ⟨hB,hBw⟩
 have HPL : Hid _ := hpl
 have hK9 : ps.length ≤ 256 := by omega
 clear hk k1 hb1 hb2 hst hps hN hB hBw hz1
 generalize hK : ps.length = K at *
 generalize hZ : ((zB K).map Value.bool).toArray = Z at *
 have HK : Hid _ := hK
 clear hK hZ hpl
 go_enter Tryz.func29,Tryz.ntmps29
 go_wp2
 go_loopw [17] (fun j wr => ∃ (k : Nat) (bs : List Bool),k ≤ K ∧ j = .int .i64 (k : Int) ∧ Hid (AcI T vs w own b p g n ak mp M (.slice aL K kL) vG ps S R N k wr bs)) (fun j _ => K - (intOf j).toNat)
 case atStart => exact ⟨0,[],Nat.zero_le _,rfl,HI0⟩
 case round =>
  clear HI0 cl cl2 hmk
  obtain ⟨k,bs,hkK,rfl,HI⟩ := hrel
  by_cases hlt : k < K
  ·have hsp : k < ps.length := by rw [HK.out]; exact hlt
   have hrl := HI.out.o.rl
   rw [HK.out] at hrl
   obtain ⟨gL,kL2,he,_,hnc,hc,_,_⟩ := q20 hrl hlt (.bool true)
   injection he with he1 _ he2
   subst he1 he2
   rw [List.getElem?_map,List.getElem?_eq_getElem hsp] at hc
   have hidx := fun w' => q1a gL K kL k hlt w'
   have hixb := fun w' => qcF (w.heap.size + 1) K k hlt w'
   have hus := HI.out.o.ls ps[k] (List.getElem_mem hsp)
   have hts : ps[k].ts = atD S k := by
    unfold atD
    rw [← HPS.out,List.getD_eq_getElem?_getD,List.getElem?_map,List.getElem?_eq_getElem hsp]
    rfl
   have hkS : k < S.length := by rw [← HPL.out]; exact hlt
   have hsm : Sm ps[k].ts := by rw [hts]; exact qM (HS.out.bd _ (q2I hkS)) HS.out.good.few
   have cp := HI.out.o.cp
   obtain ⟨items,hP⟩ := HI.out.o.prg
   have jf : Calls Tryz.prog 51 #[.pointer (some ⟨p,0,none⟩),.slice ps[k].a ps[k].len ps[k].cap] wr fun e w2 => ∃ c v,e = .returned (.bool c) ∧ w2.cell? ⟨w.heap.size + 1,k,none⟩ = some v ∧ w2.frozen? ⟨w.heap.size + 1,k,none⟩ = false ∧ Hid (AcI T vs w own b p g n ak mp M (.slice (some ⟨gL,0,none⟩) K kL) vG ps S R N (k + 1) (w2.setCell ⟨w.heap.size + 1,k,none⟩ (.bool c)) (bs ++ [c])) := by
    have hll := hus.sl.len
    have := q6U hP ps[k].a ps[k].cap ps[k].ts (by rw [← hll]; exact hus.sl) hsm
    rw [← hll] at this
    refine this.mono ?_
    rintro e w2 ⟨⟨c,rfl,hc⟩,hb⟩
    rw [hts] at hc
    obtain ⟨⟨v,h1⟩,h2,h3⟩ := HI.out.put HO.out HG.out.1 HG.out.2 hkS hb c hc
    exact ⟨c,v,rfl,h1,h2,h3⟩
   clear hus hts hsm HI hP hkS hnc hrl
   generalize ps[k] = r at *
   obtain ⟨ra,rl,rc,rt⟩ := r
   simp only [Option.map_some,pcD] at hc
   dsimp only at jf
   go_wp2_with fail
   refine jf.mono ?_
   rintro e w2 ⟨c,v,rfl,cv,zv,HI2⟩
   clear jf hc cp hidx
   go_wp2
   go_roundw
   case rel => exact ⟨k + 1,_,by omega,by go_num,HI2⟩
   case measure => simp [intOf] <;> omega
  ·obtain rfl : k = K := by omega
   have hm := HI.out.o
   have c0 := hm.cn
   have c6 := hm.cg
   have c3 := hm.cs
   obtain ⟨aG,kG,rfl⟩ := q1G hm.rg
   have hbd : Below wr.heap.size wr wr.drew := (Below.refl _ _).drew
   have hbs : bs.length = k := HI.out.bl
   have jn : Calls Tryz.prog 52 #[.pointer (some ⟨g,0,none⟩)] wr.drew fun e w5 => ∃ aN nN cN,e = .returned (.slice aN nN cN) ∧ w5.cell? ⟨b,0,none⟩ = some (.int .i64 (n : Int)) ∧ w5.cell? ⟨b,6,none⟩ = some (.slice aG R.length kG) ∧ w5.cell? ⟨b,3,none⟩ = some (.pointer (some ⟨g,0,none⟩)) ∧ AZ w5 w.heap.size ∧ Hid (Q (.returned (autV (n : Int) (some ⟨w.heap.size + 1,0,none⟩) k aG R.length kG aN nN cN)) (four w5 w.heap.size (.int .i64 (n : Int)) (.slice (some ⟨w.heap.size + 1,0,none⟩) k k) (.slice aG R.length kG) (.slice aN nN cN))) := by
    refine (q75 (hm.st.up hbd) (by have := HNN.out; omega)).mono ?_
    rintro e w5 ⟨hb5,v5,rfl,ho5⟩
    have hbb := qe hbd hb5
    obtain ⟨aN,cN,rfl,hnd,hn5⟩ := qdT ho5 hm.st.ok
    have hm5 := hm.up hbb
    have haz := HI.out.az.up hbb
    obtain ⟨a2,c2,e2,hzs,_,_⟩ := q5B (T := 29) hm5.rg Tryz.underlying29 q34
    injection e2 with e2 _ e3
    subst e2 e3
    have hrow := HI.out.row.upD hbb
    have e4 : S.length - k = 0 := by rw [← HPL.out]; omega
    rw [e4,List.replicate_zero,List.append_nil] at hrow
    refine ⟨aN,_,cN,rfl,hm5.cn,hm5.cg,hm5.cs,haz,HQ.out _ _ ⟨q4r (qe HI.out.bel hbb) (Nat.le_refl _) _ _ _ _,bs,some ⟨w.heap.size + 1,0,none⟩,aG,kG,aN,cN,by rw [hbs],?_,by rw [hbs,HPL.out],HI.out.fi⟩⟩
    have hA : AutD (if B ≤ w.heap.size then B else B) w5 bs (some ⟨w.heap.size + 1,0,none⟩) aG kG aN cN R N := by
     have eB : (if B ≤ w.heap.size then B else B) = B := by split <;> rfl
     rw [eB]
     refine ⟨⟨rfl,Nat.le_refl _,by rw [hbs]; unfold maxLen; omega,fun h => (by cases h),fun x hx j hj => ?_⟩,hzs,hnd,fun x hx => ?_,fun j hj => ?_,fun x hx => ?_⟩
     ·injection hx with hx
      subst hx
      rw [qi,Nat.zero_add]
      exact hrow.cellD (List.getElem?_eq_getElem hj)
     ·injection hx with hx
      subst hx
      have := HBB.out.2
      show B ≤ w.heap.size + 1
      omega
     ·rcases hm5.rg.2 with ⟨e1,e2⟩ | ⟨gg,cap,cur,e1,_⟩
      ·omega
      ·injection e1 with e1 _ _
       subst e1
       have := hm5.og gg rfl
       have := HBB.out.1 gg (by omega)
       simp only [adOf,qi]
       exact this
     ·have h1 := (hn5 x hx).1
      have h2 := HBB.out.2
      have h3 := HI.out.bel.size
      have h4 : wr.drew.heap.size = wr.heap.size := rfl
      omega
    have eB : (if B ≤ w.heap.size then B else B) = B := by split <;> rfl
    rw [eB] at hA
    have hzl := haz.lt
    have hb1 : (w.heap.size + 1) < w5.heap.size := hrow.ltD
    -- the lists lie elsewhere than the answer's variable
    have hne : ∀ gg,own gg ≠ 0 → gg ≠ w.heap.size := fun gg h1 h2 => h1 (HO.out gg (by omega))
    refine ⟨?_,⟨hA.zs.hlen,hA.zs.hcap,hA.zs.bd,hA.zs.idx,fun j hj => ?_,fun j hj => ?_,hA.zs.nn⟩,?_,hA.b1,hA.b2,hA.b3⟩
    ·refine hA.bo.keepD fun q v hq hx => ?_
     have e5 : q.block = w.heap.size + 1 := hx _ rfl
     unfold World.cell? at hq ⊢
     rw [q4s _ _ _ _ _ _ (by omega)]; exact hq
    ·have h1 := hA.zs.cell j hj
     have h2 : (adOf aG j).block ≠ w.heap.size := by
      rcases hm5.rg.2 with ⟨e1,e2⟩ | ⟨gg,cap,cur,e1,_⟩
      ·omega
      ·injection e1 with e1 _ _
       subst e1
       have := hm5.og gg rfl
       simp only [adOf,qi]
       exact hne gg (by omega)
     unfold World.cell? at h1 ⊢
     rw [q4s _ _ _ _ _ _ h2]; exact h1
    ·rw [q8W]; exact hA.zs.blk j hj
    ·cases aN with
     | none => exact ⟨hnd.hlen,hnd.hcap,hnd.bd,hnd.nn,fun x hx => (by cases hx),fun x hx => (by cases hx),fun x hx => (by cases hx),hnd.ok⟩
     | some y =>
      refine hnd.keep fun q v hq hx => ?_
      have e5 := hx y rfl
      have h1 := (hn5 y rfl).1
      have h3 := HI.out.bel.size
      have h4 : wr.drew.heap.size = wr.heap.size := rfl
      have h6 := HI.out.row.ltD
      unfold World.cell? at hq ⊢
      rw [q4s _ _ _ _ _ _ (by omega)]; exact hq
   clear HI hm hbd HO HG HS HPS HNN HBB HPL HQ
   generalize R.length = Rn at *
   go_upto_region 16 with fail
   go_region_with (first
    | (revert jn; intro jn; go_at_call 52; (with_reducible refine jn.mono ?_); rintro e w5 ⟨aN,nN,cN,rfl,d0,d6,d3,hz3,HR⟩; have z0 : w5.cell? ⟨w.heap.size,0,none⟩ = some (.int .i64 0) := qb hz3 0; have z1 : w5.cell? ⟨w.heap.size,1,none⟩ = some (.slice none 0 0) := qb hz3 1; have z2 : w5.cell? ⟨w.heap.size,2,none⟩ = some (.slice none 0 0) := qb hz3 2; have z3 : w5.cell? ⟨w.heap.size,3,none⟩ = some (.slice none 0 0) := qb hz3 3; have f0 : w5.frozen? ⟨w.heap.size,0,none⟩ = false := frozen_of_row w5 _ 0 _ _ hz3; have f1 : w5.frozen? ⟨w.heap.size,1,none⟩ = false := frozen_of_row w5 _ 1 _ _ hz3; have f2 : w5.frozen? ⟨w.heap.size,2,none⟩ = false := frozen_of_row w5 _ 2 _ _ hz3; have f3 : w5.frozen? ⟨w.heap.size,3,none⟩ = false := frozen_of_row w5 _ 3 _ _ hz3)
    | fail)
   all_goals
    clear jn
    go_wp2
    refine bodyPost_ret (v := autV (n : Int) (some ⟨w.heap.size + 1,0,none⟩) k aG Rn kG aN nN cN) (by simp [results,Tryz.results29,go_sem,autV,z0,z1,z2,z3]) rfl ?_
    exact HR.out
def OfD (n : Int) (ts : List Tk) (w : World) (e : Ending) (w' : World) : Prop := Below w.heap.size w w' ∧
 ((∃ E : Nat,E ≠ 0 ∧ DetX n ts (.error E) ∧ e = .returned (.tuple #[autV 0 none 0 none 0 0 none 0 0,.int .i64 (E : Int)])) ∨
  ∃ T R N S M bs aA aG cG aN cN,KT T ∧ ts = T.flat ∧ DetX n ts (.ok (R,N,S,M)) ∧ DetK T n.toNat R N S M ∧ e = .returned (.tuple #[autV n aA bs.length aG R.length cG aN N.length cN,.int .i64 0]) ∧ AutD w.heap.size w' bs aA aG cG aN cN R N ∧ bs.length = S.length ∧ ∀ (j : Nat) (c : Bool),bs[j]? = some c → (c = true ↔ FinP M (atD S j)))
structure LsD (w : World) (a : Option Addr) (c : Nat) (ps : List PcU) (S : List (List Nat)) : Prop where
 row : w.ownsRow 0 46 1 (.slice a ps.length c) ps.length (ps.map pcD)
 us : ∀ r ∈ ps,USl w r.a r.len r.cap r.ts
 is : ps.map PcU.ts = S
theorem LsD.up {w w' : World} {a : Option Addr} {c : Nat} {ps : List PcU} {S : List (List Nat)} (h : LsD w a c ps S) (hb : Below w.heap.size w w') : LsD w' a c ps S := ⟨q1g h.row hb,fun r hr => (h.us r hr).up hb,h.is⟩
def StD2 (n : Int) (ts : List Tk) (w : World) (e : Ending) (w' : World) : Prop := Below w.heap.size w w' ∧
 ((∃ E : Nat,E ≠ 0 ∧ DetX n ts (.error E) ∧ e = .returned (.tuple #[.slice none 0 0,.int .i64 (E : Int)])) ∨
  ∃ T R N S M aL cL ps,KT T ∧ ts = T.flat ∧ DetX n ts (.ok (R,N,S,M)) ∧ DetK T n.toNat R N S M ∧ e = .returned (.tuple #[.slice aL ps.length cL,.int .i64 0]) ∧ LsD w' aL cL ps S)
theorem q2b (n : Int) (a : Option Addr) (len cap : Nat) (ts : List Tk) (w : World) (hT : TkSl w a len cap ts) (h64 : Tab64 w) (h10 : Tab10 w) :
  Calls Tryz.prog 14 #[.int .i64 n,.slice a len cap] w (StD2 n ts w) := by
 obtain ⟨Q,hQ⟩ : ∃ Q : Ending → World → Prop,Q = StD2 n ts w := ⟨_,rfl⟩
 have HQ : Hid (∀ e w',StD2 n ts w e w' → Q e w') := fun e w' h => by rw [hQ]; exact h
 rw [← hQ]
 have jb := q4I n a len cap ts w hT h64 h10
 clear hQ hT h64 h10
 go_enter Tryz.func14,Tryz.ntmps14
 go_wp2_with fail
 refine jb.mono ?_
 rintro e w1 ⟨hb1,⟨E,hE,hX,rfl⟩ | ⟨T,vs,own,b,R,N,S,M,kT,hts,hX,hD,rfl,⟨p,g,mp,vL,vG,ps,hk,hps,hfew⟩,hge⟩⟩
 ·have hne : ((E : Int) != 0) = true := by simp; omega
  have HR : Hid (Q (.returned (.tuple #[.slice none 0 0,.int .i64 (E : Int)])) w1) := HQ.out _ _ ⟨hb1,Or.inl ⟨E,hE,hX,rfl⟩⟩
  clear jb hb1 hX hE HQ
  go_wp2
  exact HR.out
 ·obtain ⟨aL,kL,rfl⟩ := q1G hk.rl
  have cl := hk.cl
  have HR : Hid (Q (.returned (.tuple #[.slice aL ps.length kL,.int .i64 0])) w1) := HQ.out _ _ ⟨hb1,Or.inr ⟨T,R,N,S,M,aL,kL,ps,kT,hts,hX,hD,rfl,hk.rl,fun r hr => (hk.ls r hr).sl,hps⟩⟩
  clear jb hb1 hX HQ kT hts hD hk hps hfew hge
  generalize ps.length = K at *
  go_wp2
  exact HR.out
theorem q2p (n : Int) (a : Option Addr) (len cap : Nat) (ts : List Tk) (w : World) (hT : TkSl w a len cap ts) (h64 : Tab64 w) (h10 : Tab10 w) :
  Calls Tryz.prog 10 #[.int .i64 n,.slice a len cap] w (OfD n ts w) := by
 obtain ⟨Q,hQ⟩ : ∃ Q : Ending → World → Prop,Q = OfD n ts w := ⟨_,rfl⟩
 have HQ : Hid (∀ e w',OfD n ts w e w' → Q e w') := fun e w' h => by rw [hQ]; exact h
 rw [← hQ]
 have hb1 := qd w (.cells #[.int .i64 0,.slice none 0 0,.slice none 0 0,.slice none 0 0] 32)
 have HZ1 : Hid (AZ (w.alloc (.cells #[.int .i64 0,.slice none 0 0,.slice none 0 0,.slice none 0 0] 32)) w.heap.size) := (MapKept.heap_alloc w _).1
 have jb := q4I n a len cap ts _ (hT.up hb1) (h64.up hb1) (h10.up hb1)
 have HB1 : Hid _ := hb1
 have HS1 : Hid ((w.alloc (.cells #[.int .i64 0,.slice none 0 0,.slice none 0 0,.slice none 0 0] 32)).heap.size = w.heap.size + 1) := by show _ = _; simp
 clear hQ hT h64 h10 hb1
 go_enter Tryz.func10,Tryz.ntmps10
 go_wp2_with fail
 refine jb.mono ?_
 rintro e w2 ⟨hb2,⟨E,hE,hX,rfl⟩ | ⟨T,vs,own,b,R,N,S,M,kT,hts,hX,hD,rfl,hO,hge⟩⟩
 ·have hne : ((E : Int) != 0) = true := by simp; omega
  have HR : Hid (Q (.returned (.tuple #[autV 0 none 0 none 0 0 none 0 0,.int .i64 (E : Int)])) (four w2 w.heap.size (.int .i64 0) (.slice none 0 0) (.slice none 0 0) (.slice none 0 0))) := HQ.out _ _ ⟨q4r (qe HB1.out hb2) (Nat.le_refl _) _ _ _ _,Or.inl ⟨E,hE,hX,rfl⟩⟩
  have hz3 := AZ.up HZ1.out hb2
  have z0 : w2.cell? ⟨w.heap.size,0,none⟩ = some (.int .i64 0) := qb hz3 0
  have z1 : w2.cell? ⟨w.heap.size,1,none⟩ = some (.slice none 0 0) := qb hz3 1
  have z2 : w2.cell? ⟨w.heap.size,2,none⟩ = some (.slice none 0 0) := qb hz3 2
  have z3 : w2.cell? ⟨w.heap.size,3,none⟩ = some (.slice none 0 0) := qb hz3 3
  have f0 : w2.frozen? ⟨w.heap.size,0,none⟩ = false := frozen_of_row w2 _ 0 _ _ hz3
  have f1 : w2.frozen? ⟨w.heap.size,1,none⟩ = false := frozen_of_row w2 _ 1 _ _ hz3
  have f2 : w2.frozen? ⟨w.heap.size,2,none⟩ = false := frozen_of_row w2 _ 2 _ _ hz3
  have f3 : w2.frozen? ⟨w.heap.size,3,none⟩ = false := frozen_of_row w2 _ 3 _ _ hz3
  clear jb hb2 hX hE HQ hz3
  go_wp2
  refine bodyPost_ret (v := .tuple #[autV 0 none 0 none 0 0 none 0 0,.int .i64 (E : Int)]) (by simp [results,Tryz.results10,go_sem,autV,z0,z1,z2,z3]) rfl ?_
  exact HR.out
 ·obtain ⟨K,hA⟩ := hD.all
  have hn8 := hX.ok.1
  have ja := q7J hO hA.ok hA.fn hge hb2.size
  have HN : Hid (∀ e w3,AuD n.toNat (w.alloc (.cells #[.int .i64 0,.slice none 0 0,.slice none 0 0,.slice none 0 0] 32)).heap.size S R N M w2 e w3 → ∃ aA nA aG nG cG aN nN cN,e = .returned (.agg #[.int .i64 n,.slice aA nA nA,.slice aG nG cG,.slice aN nN cN]) ∧ AZ w3 w.heap.size ∧ Q (.returned (.tuple #[autV n aA nA aG nG cG aN nN cN,.int .i64 0])) (four w3 w.heap.size (.int .i64 n) (.slice aA nA nA) (.slice aG nG cG) (.slice aN nN cN))) := fun e w3 hq => by
   obtain ⟨hb3,bs,aA,aG,cG,aN,cN,rfl,hAu,hbl,hfi⟩ := hq
   have e1 : ((n.toNat : Nat) : Int) = n := Int.toNat_of_nonneg hn8.1
   have hbb := qe hb2 hb3
   refine ⟨aA,_,aG,_,cG,aN,_,cN,by unfold autV; rw [e1],AZ.up HZ1.out hbb,HQ.out _ _ ⟨q4r (qe HB1.out hbb) (Nat.le_refl _) _ _ _ _,Or.inr ⟨T,R,N,S,M,bs,aA,aG,cG,aN,cN,kT,hts,hX,hD,rfl,?_,hbl,hfi⟩⟩⟩
   have hs1 := HS1.out
   have h2 := hAu.far (w' := four w3 w.heap.size (.int .i64 n) (.slice aA bs.length bs.length) (.slice aG R.length cG) (.slice aN N.length cN)) (by rw [q8W]; exact Nat.le_refl _) (fun k h1 _ => q4s _ _ _ _ _ _ (by omega))
   exact ⟨h2.bo,h2.zs,h2.nd,fun x hx => by have := h2.b1 x hx; omega,fun k hk => by have := h2.b2 k hk; omega,fun x hx => by have := h2.b3 x hx; omega⟩
  clear jb hb2 hX HQ kT hts hD hO hge hA hn8 HZ1 HB1 HS1
  go_wp2_with fail
  refine ja.mono ?_
  intro e w3 hq
  obtain ⟨aA,nA,aG,nG,cG,aN,nN,cN,rfl,hz3,hR⟩ := HN.out e w3 hq
  have HR : Hid _ := hR
  have z0 : w3.cell? ⟨w.heap.size,0,none⟩ = some (.int .i64 0) := qb hz3 0
  have z1 : w3.cell? ⟨w.heap.size,1,none⟩ = some (.slice none 0 0) := qb hz3 1
  have z2 : w3.cell? ⟨w.heap.size,2,none⟩ = some (.slice none 0 0) := qb hz3 2
  have z3 : w3.cell? ⟨w.heap.size,3,none⟩ = some (.slice none 0 0) := qb hz3 3
  have f0 : w3.frozen? ⟨w.heap.size,0,none⟩ = false := frozen_of_row w3 _ 0 _ _ hz3
  have f1 : w3.frozen? ⟨w.heap.size,1,none⟩ = false := frozen_of_row w3 _ 1 _ _ hz3
  have f2 : w3.frozen? ⟨w.heap.size,2,none⟩ = false := frozen_of_row w3 _ 2 _ _ hz3
  have f3 : w3.frozen? ⟨w.heap.size,3,none⟩ = false := frozen_of_row w3 _ 3 _ _ hz3
  clear ja hq HN hR hz3
  go_wp2
  refine bodyPost_ret (v := .tuple #[autV n aA nA aG nG cG aN nN cN,.int .i64 0]) (by simp [results,Tryz.results10,go_sem,autV,z0,z1,z2,z3]) rfl ?_
  exact HR.out
theorem qac (op : Nat) (w : World) (h : op < 256) : Calls Tryz.prog 20 #[.int .u8 (op : Int)] w fun e w' => e = .returned (.int .i64 (100 + (op : Int))) ∧ w' = w := by
 have h1 := fun w' => qbR op w' h
 clear h
 go_enter Tryz.func20,Tryz.ntmps20
 go_wp2_with (go_at_call 41; refine (h1 _).mono ?_; rintro e w' ⟨rfl,rfl⟩)
 go_ret
 exact ⟨rfl,rfl⟩
theorem q24 (zs : List Int) (ts : List Tk) (w : World) (he : zs.map tokOf = ts) (hz : ∀ z ∈ zs,0 ≤ z ∧ z < 356) (hl : zs.length ≤ 20) :
  Calls Tryz.prog 19 #[.slice (some ⟨w.heap.size,0,none⟩) zs.length zs.length] (w.alloc (.cells (zs.map (Value.int .i64)).toArray 3)) fun e w' => ∃ a cap,e = .returned (.slice a ts.length cap) ∧ w'.ownsRow w.heap.size 90 2 (.slice a ts.length cap) ts.length (encT ts) ∧ TkSl w' a ts.length cap ts ∧ Below w.heap.size w w' := by
 subst he
 have h5 := qcK _ _ _ zs _ (q9D zs w hl) hz (by omega)
 have hok : ∀ t ∈ zs.map tokOf,t.1 < 256 ∧ t.2 < 256 := fun t ht => by
  obtain ⟨z,hz1,rfl⟩ := List.mem_map.1 ht
  exact qf8 (hz z hz1).1 (hz z hz1).2
 have hsz : w.heap.size ≤ (w.alloc (.cells (zs.map (Value.int .i64)).toArray 3)).heap.size := by simp
 have hb0 := qd w (.cells (zs.map (Value.int .i64)).toArray 3)
 generalize w.alloc (.cells (zs.map (Value.int .i64)).toArray 3) = w0 at *
 generalize zs.map tokOf = ts at *
 go_enter Tryz.func19,Tryz.ntmps19
 go_wp2_with fail
 refine h5.mono ?_
 rintro e w1 ⟨v,rfl,hown,hb1⟩
 obtain ⟨a1,c1,rfl,hT1,_⟩ := qdU hown hok
 have HO : Hid (w1.ownsRow w.heap.size 90 2 (.slice a1 ts.length c1) ts.length (encT ts)) := qdV hown hsz
 have HT : Hid (TkSl w1 a1 ts.length c1 ts) := hT1
 have HB1 : Hid (Below w.heap.size w w1) := qe hb0 hb1
 clear h5 hown hb1 hT1 hok
 go_wp2
 go_ret
 exact ⟨_,_,rfl,HO.out,HT.out,HB1.out⟩
theorem q5g {T : Tr} (kT : KT T) (hl : T.flat.length ≤ 2048) : chkE T.flat = 0 := q2K.2 ⟨hl,T,kT.wf,kT.np,kT.kr,rfl⟩
theorem OfD.known {n : Int} {ts : List Tk} {w w' : World} {e : Ending} (h : OfD n ts w e w') {R : List Int} {N : List Gd} {S : List (List Nat)} {M : Mt} (hX : DetX n ts (.ok (R,N,S,M))) :
  ∃ bs aA aG cG aN cN,e = .returned (.tuple #[autV n aA bs.length aG R.length cG aN N.length cN,.int .i64 0]) ∧ AutD w.heap.size w' bs aA aG cG aN cN R N ∧ bs.length = S.length ∧ (∀ (j : Nat) (c : Bool),bs[j]? = some c → (c = true ↔ FinP M (atD S j))) ∧ Below w.heap.size w w' := by
 rcases h with ⟨hb,⟨E,h0,hx,_⟩ | ⟨T1,R1,N1,S1,M1,bs,aA,aG,cG,aN,cN,_,_,hx,_,rfl,hA,hl,hf⟩⟩
 ·cases hX.one hx
 ·have h := hX.one hx
  injection h with h; injection h with h1 h2; injection h2 with h2 h3; injection h3 with h3 h4
  subst h1 h2 h3 h4
  exact ⟨bs,aA,aG,cG,aN,cN,rfl,hA,hl,hf,hb⟩
theorem OfD.err {n : Int} {ts : List Tk} {w w' : World} {e : Ending} (h : OfD n ts w e w') {E : Nat} (hX : DetX n ts (.error E)) : e = .returned (.tuple #[autV 0 none 0 none 0 0 none 0 0,.int .i64 (E : Int)]) ∧ Below w.heap.size w w' := by
 rcases h with ⟨hb,⟨E1,h0,hx,rfl⟩ | ⟨T1,R1,N1,S1,M1,bs,aA,aG,cG,aN,cN,_,_,hx,_⟩⟩
 ·have h := hX.one hx
  injection h with h
  subst h
  exact ⟨rfl,hb⟩
 ·cases hX.one hx
theorem StD2.known {n : Int} {ts : List Tk} {w w' : World} {e : Ending} (h : StD2 n ts w e w') {R : List Int} {N : List Gd} {S : List (List Nat)} {M : Mt} (hX : DetX n ts (.ok (R,N,S,M))) :
  ∃ aL cL ps,e = .returned (.tuple #[.slice aL ps.length cL,.int .i64 0]) ∧ LsD w' aL cL ps S ∧ Below w.heap.size w w' := by
 rcases h with ⟨hb,⟨E,h0,hx,_⟩ | ⟨T1,R1,N1,S1,M1,aL,cL,ps,_,_,hx,_,rfl,hA⟩⟩
 ·cases hX.one hx
 ·have h := hX.one hx
  injection h with h; injection h with h1 h2; injection h2 with h2 h3; injection h3 with h3 h4
  subst h1 h2 h3 h4
  exact ⟨aL,cL,ps,rfl,hA,hb⟩
structure Ls3 (w : World) (g c : Nat) (a0 : Option Addr) (c0 : Nat) (a1 : Option Addr) (c1 : Nat) (a2 : Option Addr) (c2 : Nat) (x0 x2 : Nat) : Prop where
 i0 : w.cell? ⟨g,0,none⟩ = some (.slice a0 1 c0)
 i1 : w.cell? ⟨g,1,none⟩ = some (.slice a1 0 c1)
 i2 : w.cell? ⟨g,2,none⟩ = some (.slice a2 1 c2)
 u0 : USl w a0 1 c0 [x0]
 u2 : USl w a2 1 c2 [x2]
theorem Ls3.up {w w' : World} {g c : Nat} {a0 : Option Addr} {c0 : Nat} {a1 : Option Addr} {c1 : Nat} {a2 : Option Addr} {c2 : Nat} {x0 x2 : Nat} (h : Ls3 w g c a0 c0 a1 c1 a2 c2 x0 x2) (hb : Below w.heap.size w w') : Ls3 w' g c a0 c0 a1 c1 a2 c2 x0 x2 :=
 ⟨qn h.i0 hb,qn h.i1 hb,qn h.i2 hb,h.u0.up hb,h.u2.up hb⟩
theorem LsD.three {w : World} {a : Option Addr} {c : Nat} {ps : List PcU} {x0 x2 : Nat} (h : LsD w a c ps [[x0],[],[x2]]) : ps.length = 3 ∧ ∃ g a0 c0 a1 c1 a2 c2,a = some ⟨g,0,none⟩ ∧ Ls3 w g c a0 c0 a1 c1 a2 c2 x0 x2 := by
 have hl : ps.length = 3 := by have := congrArg List.length h.is; simpa using this
 obtain ⟨r0,r1,r2,rfl⟩ : ∃ r0 r1 r2,ps = [r0,r1,r2] := by
  match ps,hl with
  | [r0,r1,r2],_ => exact ⟨r0,r1,r2,rfl⟩
 have his := h.is
 simp at his
 obtain ⟨h0,h1,h2⟩ := his
 have u0 := h.us r0 (by simp)
 have u1 := h.us r1 (by simp)
 have u2 := h.us r2 (by simp)
 rw [h0] at u0
 rw [h1] at u1
 rw [h2] at u2
 have l0 := u0.len
 have l1 := u1.len
 have l2 := u2.len
 simp at l0 l1 l2
 obtain ⟨g,cap,e1,_,_,k0,_,_⟩ := q20 h.row (i := 0) (by simp) (.bool true)
 injection e1 with e1 _ e2
 subst e1 e2
 obtain ⟨g',cap',e1,_,_,k1,_,_⟩ := q20 h.row (i := 1) (by simp) (.bool true)
 injection e1 with e1 _ e2
 injection e1 with e1; injection e1 with e1
 subst e1
 obtain ⟨g',cap',e1,_,_,k2,_,_⟩ := q20 h.row (i := 2) (by simp) (.bool true)
 injection e1 with e1 _ e2
 injection e1 with e1; injection e1 with e1
 subst e1
 simp [pcD,l0] at k0
 simp [pcD,l1] at k1
 simp [pcD,l2] at k2
 rw [l0] at u0
 rw [l2] at u2
 exact ⟨rfl,g,r0.a,r0.cap,r1.a,r1.cap,r2.a,r2.cap,rfl,k0,k1,k2,u0,u2⟩
theorem qek (M : Mt) : ¬ FinP M [] := fun ⟨s,hs,_⟩ => by cases hs
theorem qgK : ¬ FinP [[(2,0)]] [1] := fun h => by
 have := (qdr kt_p0).1 h
 revert this
 decide
theorem qf7 {bs : List Bool} (hl : bs.length = 3) (hf : ∀ (j : Nat) (c : Bool),bs[j]? = some c → (c = true ↔ FinP [[(2,0)]] (atD [[1],[],[0]] j))) : bs = [false,false,true] := by
 match bs,hl with
 | [b0,b1,b2],_ =>
  have h0 := hf 0 b0 rfl
  have h1 := hf 1 b1 rfl
  have h2 := hf 2 b2 rfl
  have e0 : b0 = false := by
   cases b0 with
   | false => rfl
   | true => exact absurd (h0.1 rfl) qgK
  have e1 : b1 = false := by
   cases b1 with
   | false => rfl
   | true => exact absurd (h1.1 rfl) (qek _)
  have e2 : b2 = true := h2.2 (q8T _)
  rw [e0,e1,e2]
theorem dx_p0 : DetX 1 [(2,0)] (.ok ([0,-2,-3],[(0,-2,-3)],[[1],[],[0]],[[(2,0)]])) := DetX.ofDet ⟨by decide,by decide⟩ (q5g kt_p0 (by decide)) (by decide) kt_p0 rfl dk1
theorem bolit (w : World) (bs : List Bool) (hl : bs.length ≤ 1000) : BoSl (w.alloc (.cells (bs.map Value.bool).toArray 4)) (some ⟨w.heap.size,0,none⟩) bs.length bs.length bs := by
 have h : BoRow (w.alloc (.cells (bs.map Value.bool).toArray 4)) w.heap.size bs := (MapKept.heap_alloc w _).1
 refine ⟨rfl,Nat.le_refl _,by unfold maxLen; omega,fun e => (by cases e),fun x hx k hk => ?_⟩
 injection hx with hx
 subst hx
 rw [qi,Nat.zero_add]
 exact h.cellD (List.getElem?_eq_getElem hk)
theorem qcG {w : World} {a : Option Addr} {c : Nat} (hT : TkSl w a 1 c [(2,0)]) (h64 : Tab64 w) (h10 : Tab10 w) : Calls Tryz.prog 10 #[.int .i64 1,.slice a 1 c] w fun e w' => ∃ aA aG cG aN cN,e = .returned (.tuple #[.agg #[.int .i64 1,.slice aA 3 3,.slice aG 3 cG,.slice aN 1 cN],.int .i64 0]) ∧ Hid (AutD w.heap.size w' [false,false,true] aA aG cG aN cN [0,-2,-3] [(0,-2,-3)]) ∧ Hid (Below w.heap.size w w') := by
 refine (q2p 1 a 1 c [(2,0)] w hT h64 h10).mono ?_
 intro e w' h
 obtain ⟨bs,aA,aG,cG,aN,cN,rfl,hA,hl,hf,hb⟩ := h.known dx_p0
 obtain rfl := qf7 hl hf
 exact ⟨aA,aG,cG,aN,cN,rfl,hA,hb⟩
theorem q76 {n : Int} {ts : List Tk} {w : World} {a : Option Addr} {len c : Nat} (hT : TkSl w a len c ts) (h64 : Tab64 w) (h10 : Tab10 w) {R : List Int} {N : List Gd} {M : Mt} {x0 x2 : Nat} (hX : DetX n ts (.ok (R,N,[[x0],[],[x2]],M))) : Calls Tryz.prog 14 #[.int .i64 n,.slice a len c] w fun e w' => ∃ g c a0 c0 a1 c1 a2 c2,e = .returned (.tuple #[.slice (some ⟨g,0,none⟩) 3 c,.int .i64 0]) ∧ Hid (Ls3 w' g c a0 c0 a1 c1 a2 c2 x0 x2) ∧ Hid (Below w.heap.size w w') := by
 refine (q2b n a len c ts w hT h64 h10).mono ?_
 intro e w' h
 obtain ⟨aL,cL,ps,rfl,hL,hb⟩ := h.known hX
 obtain ⟨h3,g,a0,c0,a1,c1,a2,c2,rfl,hL3⟩ := hL.three
 rw [h3]
 exact ⟨g,cL,a0,c0,a1,c1,a2,c2,rfl,hL3,hb⟩
theorem q2a {w : World} {a : Option Addr} {c x y : Nat} (h : USl w a 1 c [x]) (hxy : x = y) : Calls Tryz.prog 22 #[.slice a 1 c,.slice (some ⟨w.heap.size,0,none⟩) 1 1] (w.alloc (.cells #[.int .u64 (y : Int)] 55)) fun e w' => e = .returned (.bool true) ∧ Below w.heap.size w w' := by
 subst hxy
 have hb := qd w (.cells #[.int .u64 (x : Int)] 55)
 refine (q8a a 1 c (iU [x]) _ 1 1 (iU [x]) _ (h.up hb) (q3l [x] w (by simp))).mono ?_
 rintro e w' ⟨rfl,k,rfl⟩
 exact ⟨by simp,hb.trans ((q5T ⟨k,rfl⟩).mono hb.size)⟩
theorem qfe (w5 w6 : World) (hw6 : w6 = (((w5.alloc (.cells #[.bool false,.bool false,.bool true] 4)).alloc (.cells #[.int .i64 0,.int .i64 (-2),.int .i64 (-3)] 3)).alloc (.cells #[.int .i64 0,.int .i64 (-2),.int .i64 (-3)] 57)).alloc (.cells #[.int .i64 1,.slice (some ⟨w5.heap.size,0,none⟩) 3 3,.slice (some ⟨w5.heap.size + 1,0,none⟩) 3 3,.slice (some ⟨w5.heap.size + 1 + 1,0,none⟩) 1 1] 32 (0,0))) :
  Below w5.heap.size w5 w6 ∧ BoSl w6 (some ⟨w5.heap.size,0,none⟩) 3 3 [false,false,true] ∧ ZSl w6 (some ⟨w5.heap.size + 1,0,none⟩) 3 3 [0,-2,-3] ∧ NdSl w6 (some ⟨w5.heap.size + 1 + 1,0,none⟩) 1 1 [(0,-2,-3)] ∧ AuB w6 (w5.heap.size + 1 + 1 + 1) 1 (some ⟨w5.heap.size,0,none⟩) 3 3 (some ⟨w5.heap.size + 1,0,none⟩) 3 3 (some ⟨w5.heap.size + 1 + 1,0,none⟩) 1 1 := by
 obtain ⟨wa,ha⟩ : ∃ wa,wa = w5.alloc (.cells #[.bool false,.bool false,.bool true] 4) := ⟨_,rfl⟩
 obtain ⟨wb,hb⟩ : ∃ wb,wb = wa.alloc (.cells #[.int .i64 0,.int .i64 (-2),.int .i64 (-3)] 3) := ⟨_,rfl⟩
 obtain ⟨wc,hc⟩ : ∃ wc,wc = wb.alloc (.cells #[.int .i64 0,.int .i64 (-2),.int .i64 (-3)] 57) := ⟨_,rfl⟩
 rw [← ha,← hb,← hc] at hw6
 have za : wa.heap.size = w5.heap.size + 1 := by rw [ha]; simp
 have zb : wb.heap.size = w5.heap.size + 1 + 1 := by rw [hb]; simp [za]
 have zc : wc.heap.size = w5.heap.size + 1 + 1 + 1 := by rw [hc]; simp [zb]
 have b1 : Below w5.heap.size w5 wa := by rw [ha]; exact qd _ _
 have b2 : Below wa.heap.size wa wb := by rw [hb]; exact qd _ _
 have b3 : Below wb.heap.size wb wc := by rw [hc]; exact qd _ _
 have b4 : Below wc.heap.size wc w6 := by rw [hw6]; exact qd _ _
 have h1 : BoSl wa (some ⟨w5.heap.size,0,none⟩) 3 3 [false,false,true] := by rw [ha]; exact bolit w5 [false,false,true] (by decide)
 have h2 : ZSl wb (some ⟨w5.heap.size + 1,0,none⟩) 3 3 [0,-2,-3] := by rw [hb,← za]; exact zlit wa [0,-2,-3] (by decide)
 have h3 : NdSl wc (some ⟨w5.heap.size + 1 + 1,0,none⟩) 1 1 [(0,-2,-3)] := by
  rw [hc,← zb]
  exact ndlit wb [(0,-2,-3)] (by decide) (fun t ht => by
   have : t = (0,-2,-3) := by simpa using ht
   subst this
   exact ⟨⟨by decide,by decide⟩,⟨by decide,by decide⟩,⟨by decide,by decide⟩⟩)
 have h4 : AuB w6 (w5.heap.size + 1 + 1 + 1) 1 (some ⟨w5.heap.size,0,none⟩) 3 3 (some ⟨w5.heap.size + 1,0,none⟩) 3 3 (some ⟨w5.heap.size + 1 + 1,0,none⟩) 1 1 := by rw [hw6,← zc]; exact q1p wc 1 _ 3 3 _ 3 3 _ 1 1
 exact ⟨qe (qe (qe b1 b2) b3) b4,((h1.up b2).up b3).up b4,(h2.up b3).up b4,h3.up b4,h4⟩
theorem q3C (w : World) (h64 : Tab64 w) (h10 : Tab10 w) : Calls Tryz.prog 6 #[] w (BR true w) := by
 have H64 : Hid _ := h64
 have H10 : Hid _ := h10
 have j1 := q24 [0] [(2,0)] w rfl (by decide) (by decide)
 simp only [List.length_cons,List.length_nil,List.map_cons,List.map_nil,Nat.zero_add] at j1
 clear h64 h10
 go_enter Tryz.func6,Tryz.ntmps6
 go_wp2_with fail
 refine j1.mono ?_
 rintro e w1 ⟨a1,c1,rfl,_,hT1,hb1⟩
 have HB1 : Hid _ := hb1
 have j2 := qcG hT1 (Tab64.up H64.out hb1) (Tab10.up H10.out hb1)
 clear j1 hT1 hb1
 go_wp2_with fail
 refine j2.mono ?_
 rintro e w2 ⟨aA,aG,cG,aN,cN,rfl,HA2,HB2⟩
 obtain ⟨w3,hw3⟩ : ∃ w3,w3 = w2.alloc (.cells #[.int .i64 1,.slice aA 3 3,.slice aG 3 cG,.slice aN 1 cN] 32 (0,0)) := ⟨_,rfl⟩
 have HW3 : Hid _ := hw3
 have b3 : Below w2.heap.size w2 w3 := by rw [hw3]; exact qd _ _
 have z3 : w3.heap.size = w2.heap.size + 1 := by rw [hw3]; simp
 have HB3 : Hid (Below w.heap.size w w3) := qe (qe HB1.out HB2.out) b3
 have HA3 : Hid _ := HA2.out.up b3
 have HV3 : Hid (AuB w3 w2.heap.size 1 aA 3 3 aG 3 cG aN 1 cN) := by rw [hw3]; exact q1p w2 1 aA 3 3 aG 3 cG aN 1 cN
 have j3 := q24 [0] [(2,0)] w3 rfl (by decide) (by decide)
 simp only [List.length_cons,List.length_nil,List.map_cons,List.map_nil,Nat.zero_add] at j3
 rw [z3] at j3
 have HZ3 : Hid _ := z3
 clear j2 hw3 b3 HB1 HB2 HA2 z3
 go_wp2_with fail
 rw [← HW3.out]
 refine j3.mono ?_
 rintro e w4 ⟨a4,c4,rfl,_,hT4,hb4⟩
 rw [← HZ3.out] at hb4
 have HB4 : Hid _ := qe HB3.out hb4
 have HA4 : Hid _ := HA3.out.up hb4
 have HV4 : Hid _ := HV3.out.up hb4
 have j5 := q76 hT4 (Tab64.up H64.out HB4.out) (Tab10.up H10.out HB4.out) dx_p0
 clear j3 hT4 hb4 HB3 HA3 HV3 HW3 HZ3
 go_wp2_with fail
 refine j5.mono ?_
 rintro e w5 ⟨g,c,b0,d0,b1,d1,b2,d2,rfl,HL5,HB5⟩
 have HBw5 : Hid _ := qe HB4.out HB5.out
 have HA5 : Hid _ := HA4.out.up HB5.out
 have HV5 : Hid _ := HV4.out.up HB5.out
 clear j5 HB4 HA4 HV4 HB5
 obtain ⟨w6,hw6⟩ : ∃ w6,w6 = (((w5.alloc (.cells #[.bool false,.bool false,.bool true] 4)).alloc (.cells #[.int .i64 0,.int .i64 (-2),.int .i64 (-3)] 3)).alloc (.cells #[.int .i64 0,.int .i64 (-2),.int .i64 (-3)] 57)).alloc (.cells #[.int .i64 1,.slice (some ⟨w5.heap.size,0,none⟩) 3 3,.slice (some ⟨w5.heap.size + 1,0,none⟩) 3 3,.slice (some ⟨w5.heap.size + 1 + 1,0,none⟩) 1 1] 32 (0,0)) := ⟨_,rfl⟩
 obtain ⟨b56,k1,k2,k3,v6⟩ := qfe w5 w6 hw6
 have HW6 : Hid _ := hw6
 have HBw6 : Hid _ := qe HBw5.out b56
 have HL6 : Hid _ := HL5.out.up b56
 have h6 := HA5.out.up b56
 have jS := q3G 1 aA 3 3 aG 3 cG aN 1 cN _ 3 _ 3 _ 1 [false,false,true] [0,-2,-3] [(0,-2,-3)] w6 h6.bo h6.zs h6.nd k1 k2 k3
 obtain ⟨x0,x1,x2,x3⟩ := HV5.out.up b56
 obtain ⟨y0,y1,y2,y3⟩ := v6
 rw [hw6] at x0 x1 x2 x3 y0 y1 y2 y3
 have HJS : Hid _ := jS
 clear b56 k1 k2 k3 h6 jS HBw5 HA5 HV5 HL5 hw6
 go_wp2_with fail
 rw [← HW6.out]
 refine Calls.mono HJS.out ?_
 rintro e w7 ⟨rfl,hb7⟩
 have HBw7 : Hid _ := qe HBw6.out hb7
 have hL7 := HL6.out.up hb7
 have hx0 : ∀ w',(Instr.indexAt 41 (.slice (some ⟨g,0,none⟩) 3 c) (.int .i64 0)).run Tryz.prog w' = .ok (.pointer (some ⟨g,0,none⟩)) w' := fun w' => q1a g 3 c 0 (by decide) w'
 have hx1 : ∀ w',(Instr.indexAt 41 (.slice (some ⟨g,0,none⟩) 3 c) (.int .i64 1)).run Tryz.prog w' = .ok (.pointer (some ⟨g,1,none⟩)) w' := fun w' => q1a g 3 c 1 (by decide) w'
 have hx2 : ∀ w',(Instr.indexAt 41 (.slice (some ⟨g,0,none⟩) 3 c) (.int .i64 2)).run Tryz.prog w' = .ok (.pointer (some ⟨g,2,none⟩)) w' := fun w' => q1a g 3 c 2 (by decide) w'
 have i0 := hL7.i0
 have HL7 : Hid _ := hL7
 have j8 : Calls Tryz.prog 22 #[.slice b0 1 d0,.slice (some ⟨w7.heap.size,0,none⟩) 1 1] (w7.alloc (.cells #[.int .u64 1] 55)) fun e w' => e = .returned (.bool true) ∧ Below w7.heap.size w7 w' := q2a hL7.u0 rfl
 clear HJS HBw6 hb7 HL6 x0 x1 x2 x3 y0 y1 y2 y3 hL7
 go_wp2_with fail
 refine j8.mono ?_
 rintro e w8 ⟨rfl,hb8⟩
 have HBw8 : Hid _ := qe HBw7.out hb8
 have hL8 := HL7.out.up hb8
 have i1 := hL8.i1
 have i2 := hL8.i2
 have j9 : Calls Tryz.prog 22 #[.slice b2 1 d2,.slice (some ⟨w8.heap.size,0,none⟩) 1 1] (w8.alloc (.cells #[.int .u64 0] 55)) fun e w' => e = .returned (.bool true) ∧ Below w8.heap.size w8 w' := q2a hL8.u2 rfl
 clear j8 hb8 HL7 i0 hL8 HBw7
 go_wp2_with fail
 refine j9.mono ?_
 rintro e w9 ⟨rfl,hb9⟩
 have HBw9 : Hid _ := qe HBw8.out hb9
 clear j9 hb9 HBw8 i1 i2
 go_wp2
 go_ret
 exact ⟨rfl,HBw9.out⟩
end Go.Proofs.YtailhklbmenaoaaGreatDoor
