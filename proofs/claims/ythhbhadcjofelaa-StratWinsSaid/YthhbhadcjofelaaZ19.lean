/- Texts of the proof, put together: what it uses. -/
import Derived.Test.YthhbhadcjofelaaZ15
import Derived.Test.YthhbhadcjofelaaZ16
import Derived.Test.YthhbhadcjofelaaZ17
import Derived.Test.YthhbhadcjofelaaZ18
set_option maxRecDepth 100000
set_option maxHeartbeats 16000000
namespace Go.Proofs.Ythhbhadcjofelaa
open Go.RowKit Go.Maps Go.Sort
def zeroSt : Obj := .cells #[.bool false,.slice none 0 0,.slice none 0 0,.slice none 0 0] 33 (0,0)
def OfR (p : Int) (nA : Nat) (bs : List Bool) (N : List Gd) (gs : List Int) (x y : Nat) (w : World) (e : Ending) (w' : World) : Prop :=
 Below w.heap.size w w' ∧ ∃ (aR : Option Addr) (nR cR : Nat) (aP : Option Addr) (nP cP : Nat) (aC : Option Addr) (nC cC : Nat) (X : Int) (u : SgX),e = .returned (.tuple #[.agg #[.bool u.wins,.slice aR nR cR,.slice aP nP cP,.slice aC nC cC],.int .i64 X]) ∧ Hid (OfSg p nA bs N gs x y X u) ∧ Hid (∀ w'' : World,(∀ k,w.heap.size ≤ k → k < w'.heap.size → w''.heap[k]? = w'.heap[k]?) → SgW w'' aR nR cR aP nP cP aC nC cC u)
theorem q4I (w : World) : SgW w none 0 0 none 0 0 none 0 0 noneS :=
 ⟨q1O w,fun z hz => (by cases hz),⟨[],⟨rfl,Nat.le_refl _,by decide,fun _ => rfl,fun x hx => (by cases hx),fun r hr => (by cases hr)⟩,rfl⟩,⟨rfl,Nat.le_refl _,Nat.zero_le _,fun m k w hk hm => absurd (Nat.lt_of_lt_of_le hk hm) (Nat.not_lt_zero _),fun k hk => absurd hk (Nat.not_lt_zero _),fun k hk => absurd hk (Nat.not_lt_zero _),fun _ => rfl⟩,fun z hz => (by cases hz)⟩
theorem q3y (p : Int) (aA : Option Addr) (nA cA : Nat) (aG : Option Addr) (nG cG : Nat) (aN : Option Addr) (nN cN : Nat) (bs : List Bool) (N : List Gd) (gs : List Int) (x y : Nat) (w : World) (hB : BoSl w aA nA cA bs) (hN : NdSl w aN nN cN N) (hG : ZSl w aG nG cG gs) (hok : ∀ z ∈ gs,I64 z) (hx : x < 256) (hy : y < 256) :
  Calls Try.prog 12 #[.agg #[.int .i64 p,.slice aA nA cA,.slice aG nG cG,.slice aN nN cN],.agg #[.int .u8 (x : Int),.int .u8 (y : Int)]] w (OfR p nA bs N gs x y w) := by
 obtain ⟨Q,hQ⟩ : ∃ Q,Q = OfR p nA bs N gs x y w := ⟨_,rfl⟩
 have HQ0 : Hid (∀ w' X,Below w.heap.size w w' → X ≠ 0 → ChkN p nA bs N gs x y X → Q (.returned (.tuple #[.agg #[.bool false,.slice none 0 0,.slice none 0 0,.slice none 0 0],.int .i64 X])) w') := fun w' X h h1 h2 => by rw [hQ]; exact ⟨h,none,0,0,none,0,0,none,0,0,X,noneS,rfl,.inl ⟨h1,h2,rfl⟩,fun w'' _ => q4I w''⟩
 have HQ : Hid (∀ w' (b : Bool) R (L : List Lc) cs gR gP gC,Below w.heap.size w w' → ChkN p nA bs N gs x y 0 → RankA nA (gfA p N gs x y) (acA bs) R → b = decide (0 ≤ R.getD 0 0) → OfE p N gs x y R nA nA L cs → OfM w' w.heap.size gP gC nA L cs → RowI w' 3 gR R → w.heap.size ≤ gR → Q (.returned (.tuple #[.agg #[.bool b,.slice (some ⟨gR,0,none⟩) nA nA,.slice (some ⟨gP,0,none⟩) nA nA,.slice (some ⟨gC,0,none⟩) nA nA],.int .i64 0])) w') := fun w' b R L cs gR gP gC h hck hra hb hE hM hR hg => by
  subst hb
  rw [hQ]
  obtain ⟨hMy,_,hsl⟩ := hck.okk
  refine ⟨h,some ⟨gR,0,none⟩,nA,nA,some ⟨gP,0,none⟩,nA,nA,some ⟨gC,0,none⟩,nA,nA,0,⟨decide (0 ≤ R.getD 0 0),R,L.map Lc.ts,cs⟩,rfl,.inr ⟨rfl,hck,OfS.of_ent hMy hsl hra (by rw [List.length_map]; exact hM.ll) hM.lc fun q hq => ?_⟩,fun w'' hk => hM.sg hMy.s2 hR hra.len hg (fun z hz => ?_) hk _⟩
  ·have h1 := hE.done q hq
   have e : (L.map Lc.ts).getD q [] = (L.getD q nilLc).ts := by
    rw [List.getD_eq_getElem?_getD,List.getElem?_map,List.getD_eq_getElem?_getD]
    cases L[q]? <;> rfl
   rw [e]
   exact h1
  ·obtain ⟨q,hq,rfl⟩ := List.getElem_of_mem hz
   have h1 := hra.bd (qH hMy hsl) (fun _ _ => q20) (q := q) (by rw [← hra.len]; exact hq)
   have e : R.getD q 0 = R[q] := by rw [List.getD_eq_getElem?_getD,List.getElem?_eq_getElem hq]; rfl
   rw [e] at h1
   have := hMy.s2
   exact ⟨by omega,by omega⟩
 rw [← hQ]
 clear hQ
 obtain ⟨w3,hw3⟩ : ∃ w3,w3 = ((w.alloc (.cells #[.int .i64 p,.slice aA nA cA,.slice aG nG cG,.slice aN nN cN] 26 (0,0))).alloc (.cells #[.int .u8 (x : Int),.int .u8 (y : Int)] 29 (0,0))).alloc zeroSt := ⟨_,rfl⟩
 have ht := qg w (.cells #[.int .i64 p,.slice aA nA cA,.slice aG nG cG,.slice aN nN cN] 26 (0,0)) (.cells #[.int .u8 (x : Int),.int .u8 (y : Int)] 29 (0,0)) zeroSt
 rw [← hw3] at ht
 obtain ⟨hA,hS,hZ,hb3⟩ := ht
 have HW3 : Hid (w3 = ((w.alloc (.cells #[.int .i64 p,.slice aA nA cA,.slice aG nG cG,.slice aN nN cN] 26 (0,0))).alloc (.cells #[.int .u8 (x : Int),.int .u8 (y : Int)] 29 (0,0))).alloc zeroSt) := hw3
 have HS3 : Hid (w3.heap.size = w.heap.size + 3) := by show _ = _; rw [hw3]; simp
 have HC : Hid (∀ w',Below w3.heap.size w3 w' → w'.heap[w.heap.size]? = some (.cells #[.int .i64 p,.slice aA nA cA,.slice aG nG cG,.slice aN nN cN] 26 (0,0)) ∧ w'.heap[w.heap.size + 1]? = some (.cells #[.int .u8 (x : Int),.int .u8 (y : Int)] 29 (0,0)) ∧ w'.heap[w.heap.size + 1 + 1]? = some zeroSt ∧ BoSl w' aA nA cA bs ∧ NdSl w' aN nN cN N ∧ ZSl w' aG nG cG gs ∧ Below w.heap.size w w') := fun w' hb =>
  ⟨(hb.block _ (Array.getElem?_eq_some_iff.1 hA).1).trans hA,(hb.block _ (Array.getElem?_eq_some_iff.1 hS).1).trans hS,(hb.block _ (Array.getElem?_eq_some_iff.1 hZ).1).trans hZ,(hB.up hb3).up hb,(hN.up hb3).up hb,(hG.up hb3).up hb,q9 hb3 hb⟩
 have c0 := q8 hA 0
 have c1 := q8 hA 1
 have c2 := q8 hA 2
 have c3 := q8 hA 3
 have s0 := q8 hS 0
 have s1 := q8 hS 1
 have j := q25 p aA nA cA aG nG cG aN nN cN bs N gs x y w3 (hB.up hb3) (hN.up hb3) (hG.up hb3) hok hx hy
 clear hw3 hA hS hZ hb3 hB hN hG hok
 unfold zeroSt at HW3
 go_enter Try.func12,Try.ntmps12
 go_wp2_with (rw [← HW3.out])
 refine j.mono ?_
 rintro e w4 ⟨hb,X,⟨hX,rfl,hck⟩ | ⟨rfl,gR,R,rfl,hgR,hR,hck,hra⟩⟩
 ·have HB4 : Hid (Below w3.heap.size w3 w4) := hb
  have e1 : (X != 0) = true := by rw [bne_iff_ne]; exact hX
  obtain ⟨_,_,hz,_,_,_,hbw⟩ := HC.out w4 HB4.out
  have HHZ : Hid (w4.heap[w.heap.size + 1 + 1]? = some zeroSt) := hz
  unfold zeroSt at hz
  have z0 := q8 hz 0
  have z1 := q8 hz 1
  have z2 := q8 hz 2
  have z3 := q8 hz 3
  have f0 := frozen_of_row w4 _ 0 _ _ hz
  have f1 := frozen_of_row w4 _ 1 _ _ hz
  have f2 := frozen_of_row w4 _ 2 _ _ hz
  have f3 := frozen_of_row w4 _ 3 _ _ hz
  have HBW : Hid (Below w.heap.size w w4) := hbw
  have HCK : Hid (ChkN p nA bs N gs x y X) := hck.out
  have HX : Hid (X ≠ 0) := hX
  clear hz hbw hck hb j hX c0 c1 c2 c3 s0 s1 HW3 HQ
  go_wp2
  unfold zeroSt at HHZ
  have hr := heap_setCell_same _ _ 3 _ _ (.slice none 0 0) (heap_setCell_same _ _ 2 _ _ (.slice none 0 0) (heap_setCell_same _ _ 1 _ _ (.slice none 0 0) (heap_setCell_same _ _ 0 _ _ (.bool false) HHZ.out)))
  have hge : w.heap.size ≤ w.heap.size + 1 + 1 := by omega
  have hb7 : Hid (Below w.heap.size w ((((w4.setCell ⟨w.heap.size + 1 + 1,0,none⟩ (.bool false)).setCell ⟨w.heap.size + 1 + 1,1,none⟩ (.slice none 0 0)).setCell ⟨w.heap.size + 1 + 1,2,none⟩ (.slice none 0 0)).setCell ⟨w.heap.size + 1 + 1,3,none⟩ (.slice none 0 0))) := (((HBW.out.setCell hge _).setCell hge _).setCell hge _).setCell hge _
  generalize (((w4.setCell ⟨w.heap.size + 1 + 1,0,none⟩ (.bool false)).setCell ⟨w.heap.size + 1 + 1,1,none⟩ (.slice none 0 0)).setCell ⟨w.heap.size + 1 + 1,2,none⟩ (.slice none 0 0)).setCell ⟨w.heap.size + 1 + 1,3,none⟩ (.slice none 0 0) = w7 at *
  have q0 := q8 hr 0
  have q1 := q8 hr 1
  have q2 := q8 hr 2
  have q3 := q8 hr 3
  refine bodyPost_ret (v := .tuple #[.agg #[.bool false,.slice none 0 0,.slice none 0 0,.slice none 0 0],.int .i64 X]) ?_ rfl (HQ0.out w7 X hb7.out HX.out HCK.out)
  simp [results,Try.results12,go_sem,q0,q1,q2,q3]
 ·have HB4 : Hid (Below w3.heap.size w3 w4) := hb
  have HGR : Hid (w3.heap.size ≤ gR) := hgR
  have HR4 : Hid (RowI w4 3 gR R) := hR.out
  have HCK : Hid (ChkN p nA bs N gs x y 0) := hck.out
  have HRA : Hid (RankA nA (gfA p N gs x y) (acA bs) R) := hra.out
  obtain ⟨hA,hS,_,_,_,_,_⟩ := HC.out w4 HB4.out
  have c0 := q8 hA 0
  have c1 := q8 hA 1
  have c2 := q8 hA 2
  have c3 := q8 hA 3
  have s0 := q8 hS 0
  have s1 := q8 hS 1
  have jn := qD p aA nA cA aG nG cG aN nN cN x y w4 hx hy
  clear j hb hgR hR hck hra hA hS HQ0 HW3
  go_wp2_with fail
  refine jn.mono ?_
  rintro e w5 ⟨hb5,aE,cE,aS,cS,rfl,hE,hS⟩
  obtain ⟨G,hGG⟩ : ∃ G : GmP,G = ⟨p,aA,nA,cA,aG,nG,cG,aN,nN,cN,bs,N,gs,x,y,aE,cE,aS,cS⟩ := ⟨_,rfl⟩
  obtain ⟨w6,hw6,hb6,hk6,hs6⟩ := qI G w5
  have HGG : Hid _ := hGG
  have HW6 : Hid (w6 = w5.alloc (.cells #[.int .i64 p,.slice aA nA cA,.slice aG nG cG,.slice aN nN cN,.int .u8 (x : Int),.int .u8 (y : Int),.slice aE (mvL x).length cE,.slice aS (mvL y).length cS] 64 (0,0))) := by show _ = _; rw [hw6,hGG]
  obtain ⟨hMy,_,hsl⟩ := HCK.out.okk
  have hb46 : Below w4.heap.size w4 w6 := q9 hb5 hb6
  have HB6 : Hid (Below w3.heap.size w3 w6) := q9 HB4.out hb46
  have HR6 : Hid (RowI w6 3 gR R) := HR4.out.up hb46
  have HGM : Hid (∀ w',Below w6.heap.size w6 w' → GmB G w' w5.heap.size ∧ GmW G w') := fun w' hb => by
   have h := HC.out w' (q9 HB6.out hb)
   refine ⟨hk6.up hb,?_⟩
   rw [hGG]
   exact ⟨h.2.2.2.1,h.2.2.2.2.1,h.2.2.2.2.2.1,(hE.out.up hb6).up hb,(hS.out.up hb6).up hb⟩
  have HGO : Hid (GmO G) := by show GmO G; rw [hGG]; exact ⟨hMy,hsl,hx,hy⟩
  have hRl : R.length = nA := HRA.out.len
  have hn0 : 0 < nA := by have := hMy.s1; omega
  have hn2 : nA ≤ 256 := hMy.s2
  have HMY : Hid (MayG p nA N gs) := hMy
  have HSL : Hid (SplitN p.toNat x y) := hsl
  have hzr := HR6.out.sl (by omega)
  rw [hRl] at hzr
  have ixr : ∀ w',(Instr.indexAt 23 (.slice (some ⟨gR,0,none⟩) nA nA) (.int .i64 0)).run Try.prog w' = .ok (.pointer (some (adOf (some ⟨gR,0,none⟩) 0))) w' := fun w' => hzr.idx nA 0 w' hn0 (Nat.le_refl _)
  have cer := hzr.cell 0 hn0
  have hml := fun w => q3R nA (by omega) w
  have hmt := fun w => q17 nA (by omega) w
  have HRL : Hid _ := hRl
  clear jn hb5 hE hS hw6 hb6 hk6 hs6 hMy hsl hb46 hzr hGG hRl c0 c1 c2 c3 s0 s1
  obtain ⟨r0,hr0⟩ : ∃ z,R.getD 0 0 = z := ⟨_,rfl⟩
  rw [hr0] at cer
  have HR0 : Hid _ := hr0
  clear hr0
  generalize adOf (some ⟨gR,0,none⟩) 0 = ad at *
  obtain ⟨ad1,ad2,ad3⟩ := ad
  go_upto_region 5 with (rw [← HW6.out])
  go_cut [9] (fun v wx => R5S w6 nA gR (r0 != -1) v wx)
  case first => as_aux_lemma =>
   have hs6 := cer
   have hs0 : w6.drew.cell? ⟨ad1,ad2,ad3⟩ = some (.int .i64 r0) ∧ Hid (Below w6.heap.size w6 w6.drew) := ⟨qd cer ((Below.refl _ _).drew),(Below.refl _ _).drew⟩
   go_region_held3 (fun w' => w'.cell? ⟨ad1,ad2,ad3⟩ = some (.int .i64 r0) ∧ Hid (Below w6.heap.size w6 w')) (first | with_reducible assumption | with_reducible exact hs0 | with_reducible exact rS_up (qb _ _) (by assumption) | with_reducible exact qA hs6 | fail) (fail)
   all_goals
    go_wp2_with fail
    go_meet
    first
     | exact R5S.mk (w6.heap.size ) (w6.heap.size + 1) (w6.heap.size + 1 + 1) (qg w6 _ _ _).1 (qg w6 _ _ _).2.1 (qg w6 _ _ _).2.2.1 (qA hs6).2 (by omega)
     | exact R5S.mk (w6.heap.size ) (w6.heap.size + 1 + 1) (w6.heap.size + 1) (qg w6 _ _ _).1 (qg w6 _ _ _).2.2.1 (qg w6 _ _ _).2.1 (qA hs6).2 (by omega)
     | exact R5S.mk (w6.heap.size + 1) (w6.heap.size ) (w6.heap.size + 1 + 1) (qg w6 _ _ _).2.1 (qg w6 _ _ _).1 (qg w6 _ _ _).2.2.1 (qA hs6).2 (by omega)
     | exact R5S.mk (w6.heap.size + 1) (w6.heap.size + 1 + 1) (w6.heap.size ) (qg w6 _ _ _).2.1 (qg w6 _ _ _).2.2.1 (qg w6 _ _ _).1 (qA hs6).2 (by omega)
     | exact R5S.mk (w6.heap.size + 1 + 1) (w6.heap.size ) (w6.heap.size + 1) (qg w6 _ _ _).2.2.1 (qg w6 _ _ _).1 (qg w6 _ _ _).2.1 (qA hs6).2 (by omega)
     | exact R5S.mk (w6.heap.size + 1 + 1) (w6.heap.size + 1) (w6.heap.size ) (qg w6 _ _ _).2.2.1 (qg w6 _ _ _).2.1 (qg w6 _ _ _).1 (qA hs6).2 (by omega)
  case rest =>
  obtain ⟨b,gP,gC,rfl,HST,HOM,HB7,HBN⟩ := hcut
  generalize wc = w7 at *
  obtain rfl := HGG.out
  clear HGG
  have HBD : Hid (∀ q i j,q < nA → i < (mvL x).length → j < (mvL y).length → -1 ≤ R.getD (toS p N gs q ((mvL x).getD i 0 ||| (mvL y).getD j 0)) 0 ∧ R.getD (toS p N gs q ((mvL x).getD i 0 ||| (mvL y).getD j 0)) 0 < 1000) := fun q i j hq hi hj => by
   have h1 := HRA.out.bd (qH HMY.out HSL.out) (fun _ _ => q20) (qJ HMY.out HSL.out q hq _ _ (qi hi).2 (qi hj).2).1
   exact ⟨h1.1,by omega⟩
  have HGE : Hid (∀ q,q < nA → -1 ≤ R.getD q 0) := fun q hq => (HRA.out.bd (qH HMY.out HSL.out) (fun _ _ => q20) hq).1
  have HOE : Hid (OfE p N gs x y R nA 0 (List.replicate nA nilLc) (List.replicate nA 0)) := ⟨fun q hq => absurd hq (Nat.not_lt_zero _),fun q _ hq => ⟨by simp [List.getD_eq_getElem?_getD,hq],by simp [List.getD_eq_getElem?_getD,hq]⟩⟩
  have HRR : Hid (∀ w',Below w6.heap.size w6 w' → ZSl w' (some ⟨gR,0,none⟩) nA nA R) := fun w' hb => by
   have h := (HR6.out.up hb).sl (by rw [HRL.out]; omega)
   rw [HRL.out] at h
   exact h
  have hrr := HRR.out w7 HB7.out
  clear ixr cer hml hmt
  go_wp2
  clear hrr
  go_loopw [39] (fun i wr => ∃ (k : Nat) (L : List Lc) (cs : List Nat),k ≤ nA ∧ i = .int .i64 (k : Int) ∧ Hid (OfM wr w6.heap.size gP gC nA L cs) ∧ Hid (OfE p N gs x y R nA k L cs) ∧ Hid (wr.heap[b]? = some (.cells #[.bool (r0 != -1),.slice (some ⟨gR,0,none⟩) nA nA,.slice (some ⟨gP,0,none⟩) nA nA,.slice (some ⟨gC,0,none⟩) nA nA] 33 (0,0))) ∧ Hid (Below w6.heap.size w6 wr)) (fun i _ => nA - (intOf i).toNat)
  case atStart => exact ⟨0,_,_,Nat.zero_le _,rfl,HOM,HOE,HST,HB7⟩
  case round =>
   clear HOM HOE HST HB7
   obtain ⟨k,L,cs,hk,rfl,HM,HE,HST,HB⟩ := hrel
   by_cases hlt : k < nA
   ·have e1 : decide ((k : Int) < (nA : Int)) = true := decide_eq_true (by omega)
    have hrr := HRR.out wr HB.out
    have ixk := fun w' => hrr.idx nA k w' hlt (Nat.le_refl _)
    have cek := hrr.cell k hlt
    have hgk := HGE.out k hlt
    have HGR2 : Hid (GmB (⟨p,aA,nA,cA,aG,nG,cG,aN,nN,cN,bs,N,gs,x,y,aE,cE,aS,cS⟩ : GmP) wr w5.heap.size ∧ GmW (⟨p,aA,nA,cA,aG,nG,cG,aN,nN,cN,bs,N,gs,x,y,aE,cE,aS,cS⟩ : GmP) wr) := HGM.out wr HB.out
    have HZK : Hid (∀ w',Below wr.heap.size wr w' → GmB (⟨p,aA,nA,cA,aG,nG,cG,aN,nN,cN,bs,N,gs,x,y,aE,cE,aS,cS⟩ : GmP) w' w5.heap.size ∧ w'.heap[b]? = some (.cells #[.bool (r0 != -1),.slice (some ⟨gR,0,none⟩) nA nA,.slice (some ⟨gP,0,none⟩) nA nA,.slice (some ⟨gC,0,none⟩) nA nA] 33 (0,0)) ∧ OfM w' w6.heap.size gP gC nA L cs) := fun w' hb => ⟨HGR2.out.1.up hb,(hb.block _ (Array.getElem?_eq_some_iff.1 HST.out).1).trans HST.out,HM.out.up hb⟩
    obtain ⟨rk,hrk⟩ : ∃ z,R.getD k 0 = z := ⟨_,rfl⟩
    have HRK : Hid (R.getD k 0 = rk) := hrk
    rw [hrk] at cek hgk
    clear hrr hrk
    generalize adOf (some ⟨gR,0,none⟩) k = ak at *
    obtain ⟨ak1,ak2,ak3⟩ := ak
    by_cases h0 : 0 < rk
    ·have e2 : decide (0 < rk) = true := decide_eq_true h0
     have HAN : Hid (∀ i,i < (mvL x).length → ∃ j,j < (mvL y).length ∧ 0 ≤ R.getD (toS p N gs k ((mvL x).getD i 0 ||| (mvL y).getD j 0)) 0) := q4y HMY.out HSL.out HRA.out hlt (by rw [HRK.out]; exact h0)
     have hbd : Below wr.heap.size wr wr.drew := (Below.refl _ _).drew
     have jr : Calls Try.prog 34 #[.agg #[.int .i64 p,.slice aA nA cA,.slice aG nG cG,.slice aN nN cN,.int .u8 (x : Int),.int .u8 (y : Int),.slice aE (mvL x).length cE,.slice aS (mvL y).length cS],.int .i64 (k : Int),.slice (some ⟨gR,0,none⟩) nA nA] wr.drew fun e w' => Below wr.heap.size wr w' ∧ ∃ (g : Nat) (ts : List Nat),e = .returned (.slice (some ⟨g,0,none⟩) (mvL x).length (mvL x).length) ∧ wr.heap.size ≤ g ∧ ts.length = (mvL x).length ∧ LtRow w' g (ts.map Int.ofNat) ∧ RplA ⟨p,aA,nA,cA,aG,nG,cG,aN,nN,cN,bs,N,gs,x,y,aE,cE,aS,cS⟩ R k ts := by
      refine (q1G ⟨p,aA,nA,cA,aG,nG,cG,aN,nN,cN,bs,N,gs,x,y,aE,cE,aS,cS⟩ k (some ⟨gR,0,none⟩) nA R wr.drew HGO.out (HGR2.out.2.up hbd) (HRR.out _ (q9 HB.out hbd)) hlt).mono ?_
      rintro e w' ⟨h1,ts,rfl,h2,h3,h4⟩
      exact ⟨q9 hbd h1,_,ts,rfl,by show wr.heap.size ≤ wr.heap.size + 1; omega,h2,h3.out,h4.out⟩
     obtain ⟨hgb,hst,_⟩ := HZK.out wr (Below.refl _ _)
     have c0 := q8 hgb 0
     have c1 := q8 hgb 1
     have c2 := q8 hgb 2
     have c3 := q8 hgb 3
     have c4 := q8 hgb 4
     have c5 := q8 hgb 5
     have c6 := q8 hgb 6
     have c7 := q8 hgb 7
     have t2 := q8 hst 2
     have ixP := fun w' => q3M gP nA k hlt w'
     clear hgb hst hbd
     go_upto_region 10 with fail
     go_region_law (first
      | (revert jr; intro jr; go_simp; (with_reducible refine jr.mono ?_); rintro e w9 ⟨hb9,g,ts,rfl,hg,hl,hr,ha⟩; have HB9 : Hid (Below wr.heap.size wr w9) := hb9; obtain ⟨_,hst9,hom9⟩ := HZK.out w9 hb9; have z2 := q8 hst9 2; obtain ⟨⟨vv,cP⟩,fP⟩ := hom9.cellP hlt; have HST9 : Hid _ := hst9; have HOM9 : Hid _ := hom9; have HTS : Hid (wr.heap.size ≤ g ∧ ts.length = (mvL x).length ∧ LtRow w9 g (ts.map Int.ofNat) ∧ RplA ⟨p,aA,nA,cA,aG,nG,cG,aN,nN,cN,bs,N,gs,x,y,aE,cE,aS,cS⟩ R k ts) := ⟨hg,hl,hr,ha⟩; clear hb9 hst9 hom9 hg hl hr ha; dsimp only)
      | fail)
     all_goals
      go_wp2
      go_roundw
      case rel =>
       obtain ⟨hg,hl,hr,ha⟩ := HTS.out
       have hm := HOM9.out
       have hw6 := HB.out.size
       have hgl : gP < wr.heap.size := (Array.getElem?_eq_some_iff.1 HM.out.p).1
       have hgc : gC < wr.heap.size := (Array.getElem?_eq_some_iff.1 HM.out.c).1
       have hk1 := ql x
       have hz : ∀ z ∈ ts,z < 256 := fun z hz => by
        obtain ⟨i,hi,rfl⟩ := List.getElem_of_mem hz
        obtain ⟨j,hj,hij⟩ := ha i hi
        rw [← qe 0 hi,hij]
        exact (qi hj.1).1
       have hs := hm.setP (k := k) (g := g) (ts := ts) (by omega) (by omega) (by omega) hr (by omega) hz
       rw [hl] at hs
       refine ⟨k + 1,_,cs,hlt,by go_num,hs,?_,(Below.heap_setCell _ _ _ _ (by exact HBN.out.2.1)).trans HST9.out,(q9 HB.out HB9.out).setCell hm.ne.2.1 _⟩
       exact HE.out.put hm.ll hlt (by rw [HRK.out]; exact h0) hl (ha.rep hl (fun i j hi hj => HBD.out k i j hlt hi hj) HAN.out)
      case measure => simp [intOf]; omega
    have e2 : decide (0 < rk) = false := decide_eq_false h0
    by_cases h1 : rk = -1
    ·have e3 : (rk == -1) = true := by rw [h1]; rfl
     have hex : ∃ i,i < (mvL x).length ∧ ∀ z ∈ mvL y,R.getD (toS p N gs k ((mvL x).getD i 0 ||| z)) 0 = -1 := by
      obtain ⟨row,hrow,hall⟩ := HRA.out.stays (qH HMY.out HSL.out) hlt (by rw [HRK.out,h1]; decide)
      obtain ⟨a,ha,rfl⟩ := List.mem_map.1 hrow
      obtain ⟨i,hi,rfl⟩ := List.getElem_of_mem ha
      refine ⟨i,hi,fun z hz => ?_⟩
      have h2 := hall (toS p N gs k ((mvL x)[i] ||| z)) (List.mem_map.2 ⟨z,hz,rfl⟩)
      obtain ⟨m,hm,rfl⟩ := List.getElem_of_mem hz
      have h3 := (HBD.out k i m hlt hi hm).1
      rw [qe 0 hm,qe 0 hi] at h3
      rw [qe 0 hi]
      omega
     have hbd : Below wr.heap.size wr wr.drew := (Below.refl _ _).drew
     have jr : Calls Try.prog 35 #[.agg #[.int .i64 p,.slice aA nA cA,.slice aG nG cG,.slice aN nN cN,.int .u8 (x : Int),.int .u8 (y : Int),.slice aE (mvL x).length cE,.slice aS (mvL y).length cS],.int .i64 (k : Int),.slice (some ⟨gR,0,none⟩) nA nA] wr.drew fun e w' => Below wr.heap.size wr w' ∧ ∃ v : Nat,e = .returned (.int .u8 (v : Int)) ∧ ∃ i : Nat,v = (mvL x).getD i 0 ∧ KepA ⟨p,aA,nA,cA,aG,nG,cG,aN,nN,cN,bs,N,gs,x,y,aE,cE,aS,cS⟩ R k i := by
      refine (q1E ⟨p,aA,nA,cA,aG,nG,cG,aN,nN,cN,bs,N,gs,x,y,aE,cE,aS,cS⟩ k (some ⟨gR,0,none⟩) nA R wr.drew HGO.out (HGR2.out.2.up hbd) (HRR.out _ (q9 HB.out hbd)) hlt hex).mono ?_
      rintro e w' ⟨h1,i,rfl,h2⟩
      exact ⟨q9 hbd h1,_,rfl,i,rfl,h2⟩
     obtain ⟨hgb,hst,_⟩ := HZK.out wr (Below.refl _ _)
     have c0 := q8 hgb 0
     have c1 := q8 hgb 1
     have c2 := q8 hgb 2
     have c3 := q8 hgb 3
     have c4 := q8 hgb 4
     have c5 := q8 hgb 5
     have c6 := q8 hgb 6
     have c7 := q8 hgb 7
     have t3 := q8 hst 3
     have ixC := fun w' => q1n gC nA k hlt w'
     clear hgb hst hbd hex
     go_upto_region 12 with fail
     go_region_law (first
      | (revert jr; intro jr; go_simp; (with_reducible refine jr.mono ?_); rintro e w9 ⟨hb9,v,rfl,hi⟩; have HB9 : Hid (Below wr.heap.size wr w9) := hb9; obtain ⟨_,hst9,hom9⟩ := HZK.out w9 hb9; have z3 := q8 hst9 3; obtain ⟨⟨vv,cP⟩,fP⟩ := hom9.cellC hlt; have HST9 : Hid _ := hst9; have HOM9 : Hid _ := hom9; have HTS : Hid _ := hi; clear hb9 hst9 hom9 hi; dsimp only)
      | fail)
     all_goals
      go_wp2
      go_roundw
      case rel =>
       obtain ⟨i,rfl,hi⟩ := HTS.out
       have hm := HOM9.out
       refine ⟨k + 1,L,_,hlt,by go_num,hm.setC (k := k) (qi hi.1).1,?_,(Below.heap_setCell _ _ _ _ (by exact HBN.out.2.2)).trans HST9.out,(q9 HB.out HB9.out).setCell hm.ne.2.2 _⟩
       exact HE.out.cho hm.lc hlt (by rw [HRK.out,h1]; decide) (hi.cho fun i j hi hj => (HBD.out k i j hlt hi hj).1)
      case measure => simp [intOf]; omega
    have e3 : (rk == -1) = false := by simpa using h1
    have HE2 : Hid _ := HE.out.zero hlt (by rw [HRK.out]; exact h0) (by rw [HRK.out]; omega)
    clear HZK HGR2 HE
    go_wp2
    go_roundw
    case rel => exact ⟨k + 1,L,cs,hlt,by go_num,HM,HE2,HST,HB⟩
    case measure => simp [intOf]; omega
   ·obtain rfl : k = nA := by omega
    have e1 : decide ((k : Int) < (k : Int)) = false := by simp
    obtain ⟨_,_,hz,_,_,_,hbw⟩ := HC.out wr (q9 HB6.out HB.out)
    have HHZ : Hid (wr.heap[w.heap.size + 1 + 1]? = some zeroSt) := hz
    unfold zeroSt at hz
    have z0 := q8 hz 0
    have z1 := q8 hz 1
    have z2 := q8 hz 2
    have z3 := q8 hz 3
    have f0 := frozen_of_row wr _ 0 _ _ hz
    have f1 := frozen_of_row wr _ 1 _ _ hz
    have f2 := frozen_of_row wr _ 2 _ _ hz
    have f3 := frozen_of_row wr _ 3 _ _ hz
    have t0 := q8 HST.out 0
    have t1 := q8 HST.out 1
    have t2 := q8 HST.out 2
    have t3 := q8 HST.out 3
    have HBW : Hid (Below w.heap.size w wr) := hbw
    clear hz hbw
    go_wp2
    unfold zeroSt at HHZ
    have hq := q48 wr (w.heap.size + 1 + 1) (.bool (r0 != -1)) (.slice (some ⟨gR,0,none⟩) k k) (.slice (some ⟨gP,0,none⟩) k k) (.slice (some ⟨gC,0,none⟩) k k)
    have hr := heap_setCell_same _ _ 3 _ _ (.slice (some ⟨gC,0,none⟩) k k) (heap_setCell_same _ _ 2 _ _ (.slice (some ⟨gP,0,none⟩) k k) (heap_setCell_same _ _ 1 _ _ (.slice (some ⟨gR,0,none⟩) k k) (heap_setCell_same _ _ 0 _ _ (.bool (r0 != -1)) HHZ.out)))
    have hge : w.heap.size ≤ w.heap.size + 1 + 1 := by omega
    have hb7 : Hid (Below w.heap.size w ((((wr.setCell ⟨w.heap.size + 1 + 1,0,none⟩ (.bool (r0 != -1))).setCell ⟨w.heap.size + 1 + 1,1,none⟩ (.slice (some ⟨gR,0,none⟩) k k)).setCell ⟨w.heap.size + 1 + 1,2,none⟩ (.slice (some ⟨gP,0,none⟩) k k)).setCell ⟨w.heap.size + 1 + 1,3,none⟩ (.slice (some ⟨gC,0,none⟩) k k))) := (((HBW.out.setCell hge _).setCell hge _).setCell hge _).setCell hge _
    generalize (((wr.setCell ⟨w.heap.size + 1 + 1,0,none⟩ (.bool (r0 != -1))).setCell ⟨w.heap.size + 1 + 1,1,none⟩ (.slice (some ⟨gR,0,none⟩) k k)).setCell ⟨w.heap.size + 1 + 1,2,none⟩ (.slice (some ⟨gP,0,none⟩) k k)).setCell ⟨w.heap.size + 1 + 1,3,none⟩ (.slice (some ⟨gC,0,none⟩) k k) = w8 at *
    have hs3 := HS3.out
    have hg3 := HGR.out
    have h36 := HB6.out.size
    have q0 := q8 hr 0
    have q1 := q8 hr 1
    have q2 := q8 hr 2
    have q3 := q8 hr 3
    have hM8 : OfM w8 w.heap.size gP gC k L cs := (HM.out.far fun g hg => hq.1 g (by omega)).base (by omega)
    have hR8 : RowI w8 3 gR R := (hq.1 gR (by omega)).trans (HR6.out.up HB.out)
    have hg0 := HGE.out 0 hn0
    have hbb : (r0 != -1) = decide (0 ≤ R.getD 0 0) := by
     rw [HR0.out] at hg0 ⊢
     by_cases h : r0 = -1
     ·rw [h]; rfl
     ·rw [decide_eq_true (by omega),bne_iff_ne]; exact h
    refine bodyPost_ret (v := .tuple #[.agg #[.bool (r0 != -1),.slice (some ⟨gR,0,none⟩) k k,.slice (some ⟨gP,0,none⟩) k k,.slice (some ⟨gC,0,none⟩) k k],.int .i64 0]) ?_ rfl (HQ.out w8 (r0 != -1) R L cs gR gP gC hb7.out HCK.out HRA.out hbb HE.out hM8 hR8 (by omega))
    simp [results,Try.results12,go_sem,q0,q1,q2,q3]
theorem q1H : StgC where
 of p aA nA cA aG nG cG aN nN cN bs N gs x y w hB hN hG hok hx hy := (q3y p aA nA cA aG nG cG aN nN cN bs N gs x y w hB hN hG hok hx hy).mono fun e w' h => by
  obtain ⟨h1,aR,nR,cR,aP,nP,cP,aC,nC,cC,X,u,he,ho,hs⟩ := h
  exact ⟨h1,aR,nR,cR,aP,nP,cP,aC,nC,cC,X,u,he,ho,hs.out w' fun k _ _ => rfl⟩
 check p aA nA cA aG nG cG aN nN cN bs N gs x y aR nR cR aP nP cP aC nC cC u w hB hN hG hok hx hy hU := qU p aA nA cA aG nG cG aN nN cN bs N gs x y aR nR cR aP nP cP aC nC cC u w hB hN hG hok hx hy hU
 play p aA nA cA aG nG cG aN nN cN bs N gs x y aR nR cR aP nP cP aC nC cC u aM nM cM ms w hB hN hG hok hx hy hU hM hm := q2q p aA nA cA aG nG cG aN nN cN bs N gs x y aR nR cR aP nP cP aC nC cC u aM nM cM ms w hB hN hG hok hx hy hU hM hm
theorem q3U (p : Int) (aA : Option Addr) (nA cA : Nat) (aG : Option Addr) (nG cG : Nat) (aN : Option Addr) (nN cN : Nat) (bs : List Bool) (gs : List Int) (N : List Gd) (x y : Nat) (aL : Option Addr) (nL cL : Nat) (zs : List Int) (w : World) (hB : BoSl w aA nA cA bs) (hG : ZSl w aG nG cG gs) (hN : NdSl w aN nN cN N) (hok : ∀ z ∈ gs,I64 z) (hx : x < 256) (hy : y < 256) (hL : ZSl w aL nL cL zs) (_ : ∀ z ∈ zs,I64 z) : Calls Try.prog 4 #[.agg #[.int .i64 p,.slice aA nA cA,.slice aG nG cG,.slice aN nN cN],.agg #[.int .u8 (x : Int),.int .u8 (y : Int)],.slice aL nL cL] w fun e w' => e = .returned (.bool true) ∧ Below w.heap.size w w' :=
 q2R q2U q1H p aA nA cA aG nG cG aN nN cN bs gs N x y aL nL cL zs w hB hG hN hok hx hy hL
theorem q3z (p : Int) (aA : Option Addr) (nA cA : Nat) (aG : Option Addr) (nG cG : Nat) (aN : Option Addr) (nN cN : Nat) (bs : List Bool) (gs : List Int) (N : List Gd) (x y : Nat) (aR : Option Addr) (nR cR : Nat) (aP : Option Addr) (nP cP : Nat) (aC : Option Addr) (nC cC : Nat) (u : SgX) (aL : Option Addr) (nL cL : Nat) (zs : List Int) (w : World) (hB : BoSl w aA nA cA bs) (hG : ZSl w aG nG cG gs) (hN : NdSl w aN nN cN N) (hok : ∀ z ∈ gs,I64 z) (hx : x < 256) (hy : y < 256) (hU : SgW w aR nR cR aP nP cP aC nC cC u) (hL : ZSl w aL nL cL zs) (_ : ∀ z ∈ zs,I64 z) : Calls Try.prog 5 #[.agg #[.int .i64 p,.slice aA nA cA,.slice aG nG cG,.slice aN nN cN],.agg #[.int .u8 (x : Int),.int .u8 (y : Int)],.agg #[.bool u.wins,.slice aR nR cR,.slice aP nP cP,.slice aC nC cC],.slice aL nL cL] w fun e w' => e = .returned (.bool true) ∧ Below w.heap.size w w' :=
 q2n q2U q1H p aA nA cA aG nG cG aN nN cN bs gs N x y aR nR cR aP nP cP aC nC cC u aL nL cL zs w hB hG hN hok hx hy hU hL
theorem q3A (w : World) : Calls Try.prog 6 #[] w fun e w' => e = .returned (.bool true) ∧ Below w.heap.size w w' := q2o q1H w
end Go.Proofs.Ythhbhadcjofelaa
