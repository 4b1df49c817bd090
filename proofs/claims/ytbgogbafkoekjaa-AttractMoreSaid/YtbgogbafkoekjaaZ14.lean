/- Texts of the proof, put together: what it uses. -/
import Derived.Deep.RegionLaw
import Derived.Laws.BitsAllLaws
import Derived.Deep.RegionHeld3
import Derived.Deep.AppendLies
import Derived.Deep.RegionWith
import Derived.Deep.DeepCutAuto
import Derived.Test.YtbgogbafkoekjaaZ00
import Derived.Test.YtbgogbafkoekjaaZ01
import Derived.Test.YtbgogbafkoekjaaZ02
import Derived.Test.YtbgogbafkoekjaaZ06
import Derived.Test.YtbgogbafkoekjaaZ08
import Derived.Test.YtbgogbafkoekjaaZ10
import Derived.Test.YtbgogbafkoekjaaZ11
import Derived.Test.YtbgogbafkoekjaaZ12
import Derived.Test.YtbgogbafkoekjaaZ13
set_option maxRecDepth 100000
set_option maxHeartbeats 16000000
namespace Go.Proofs.Ytbgogbafkoekjaa
open Go.RowKit Go.Maps Go.Sort
structure RkW (w w0 : World) (gW gR : Nat) (ws : List Bool) (rs : List Int) : Prop where
 b : BoRow w gW ws
 r : RowI w 3 gR rs
 bel : Below w0.heap.size w0 w
 lo : w0.heap.size ≤ gW
 ne : gW < gR
section
variable {w w' w0 : World} {gR gW : Nat} {rs : List Int} {ws : List Bool}
theorem RkW.up (h : RkW w w0 gW gR ws rs) (hb : Below w.heap.size w w') : RkW w' w0 gW gR ws rs := ⟨h.b.upP hb,h.r.up hb,q6 h.bel hb,h.lo,h.ne⟩
theorem RkW.set (h : RkW w w0 gW gR ws rs) (k : Nat) (z : Bool) (v : Int) {ws2 : List Bool} {rs2 : List Int} (e : ws.set k z = ws2) (e2 : rs.set k v = rs2) : RkW ((w.setCell ⟨gW,k,none⟩ (.bool z)).setCell ⟨gR,k,none⟩ (.int .i64 v)) w0 gW gR ws2 rs2 :=
 ⟨(Below.heap_setCell _ _ _ _ (by have := h.ne; dsimp only; omega)).trans (by rw [← e]; exact h.b.setP k z),by rw [← e2]; exact (h.r.other (by have := h.ne; omega) _ _).set k v,(h.bel.setCell h.lo _).setCell (by have := h.lo; have := h.ne; dsimp only; omega) _,h.lo,h.ne⟩
end
def OffW (aN : Option Addr) (gW gR : Nat) : Prop := ∀ x,aN = some x → x.block ≠ gW ∧ x.block ≠ gR
theorem BoSl.setO {w : World} {a : Option Addr} {n c : Nat} {bs : List Bool} (h : BoSl w a n c bs) {gW gR : Nat} (ho : OffW a gW gR) (k : Nat) (u v : Value) : BoSl ((w.setCell ⟨gW,k,none⟩ u).setCell ⟨gR,k,none⟩ v) a n c bs :=
 ⟨h.hlen,h.hcap,h.bd,h.nn,fun x hx j hj => by
  have e := h.c x hx j hj
  have h1 := ho x hx
  have e1 := qr x j
  have e2 : ((w.setCell ⟨gW,k,none⟩ u).setCell ⟨gR,k,none⟩ v).heap[(x.add j).block]? = w.heap[(x.add j).block]? := by
   rw [Below.heap_setCell _ _ _ _ (by rw [e1]; exact h1.2),Below.heap_setCell _ _ _ _ (by rw [e1]; exact h1.1)]
  unfold World.cell? at e ⊢
  rw [e2]
  exact e⟩
theorem BoSl.off {w : World} {a : Option Addr} {n c : Nat} {bs : List Bool} (h : BoSl w a n c bs) (hn : 0 < n) {gW gR : Nat} (h1 : w.heap.size ≤ gW) (h2 : w.heap.size ≤ gR) : OffW a gW gR := fun x hx => by
 have := h.c x hx 0 (by rw [h.hlen]; exact hn)
 have h3 : (x.add 0).block < w.heap.size := World.block_lt_of_cell? _ _ this
 have e1 := qr x 0
 rw [e1] at h3
 exact ⟨by omega,by omega⟩
theorem q3F {F : Nat → List (List Nat)} {acc : Nat → Bool} {n : Nat} (hF : InA n F) (k : Nat) : (List.range n).map (befA F (acA ((List.range n).map (wonA F acc k)))) = (List.range n).map (nowK F acc (k + 1)) := by
 apply List.map_congr_left
 intro q hq
 have hq2 := List.mem_range.1 hq
 refine Eq.trans ?_ (show befA F (wonA F acc k) q = nowK F acc (k + 1) q from rfl)
 have key : ∀ t,t < n → acA ((List.range n).map (wonA F acc k)) t = wonA F acc k t := fun t ht => by simp [acA,List.getD_eq_getElem?_getD,ht]
 have h1 := hF q hq2
 cases hx : befA F (wonA F acc k) q with
 | true =>
  refine qd.2 fun row hr => ?_
  obtain ⟨t,ht,hW⟩ := qd.1 hx row hr
  exact ⟨t,ht,by rw [key t (h1 row hr t ht)]; exact hW⟩
 | false =>
  obtain ⟨row,hr,hall⟩ := qH.1 hx
  exact qH.2 ⟨row,hr,fun t ht => by rw [key t (h1 row hr t ht)]; exact hall t ht⟩
theorem q26 (aA : Option Addr) (n cA : Nat) (bs : List Bool) (a : Option Addr) (c : Nat) (F : Nat → List (List Nat)) (w : World) (hB : BoSl w aA n cA bs) (hR : R3S w a n c F n) (h0 : 0 < n) (h256 : n ≤ 256) (hF : InA n F) (hne : ∀ q,q < n → F q ≠ []) :
  Calls Try.prog 28 #[.slice aA n cA,.slice a n c] w fun e w' => Below w.heap.size w w' ∧ ∃ g r,e = .returned (.slice (some ⟨g,0,none⟩) n n) ∧ w.heap.size ≤ g ∧ Hid (RowI w' 3 g r) ∧ Hid (RankA n F (acA bs) r) := by
 obtain ⟨Q,hQ⟩ : ∃ Q : Ending → World → Prop,Q = fun e w' => Below w.heap.size w w' ∧ ∃ g r,e = .returned (.slice (some ⟨g,0,none⟩) n n) ∧ w.heap.size ≤ g ∧ Hid (RowI w' 3 g r) ∧ Hid (RankA n F (acA bs) r) := ⟨_,rfl⟩
 have HQ : Hid (∀ w' g r,Below w.heap.size w w' → w.heap.size ≤ g → RowI w' 3 g r → RankA n F (acA bs) r → Q (.returned (.slice (some ⟨g,0,none⟩) n n)) w') := fun w' g r h1 h2 h3 h4 => by rw [hQ]; exact ⟨h1,g,r,rfl,h2,h3,h4⟩
 rw [← hQ]
 clear hQ
 have HUP : Hid (∀ w',Below w.heap.size w w' → BoSl w' aA n cA bs ∧ R3S w' a n c F n) := fun w' hb => ⟨hB.up hb,hR.up hb⟩
 have HST : Hid (∀ k gr,(gr = true ↔ ∃ q,q < n ∧ nowK F (acA bs) k q = true ∧ wonK F (acA bs) k q = false) → GrwK n F (acA bs) (k + 1) gr) := fun k gr h => GrwK.step h
 have HLT : Hid (∀ k,GrwK n F (acA bs) k true → k ≤ n) := fun k h => h.lt hF hne
 have HFN : Hid (∀ k,GrwK n F (acA bs) k false → RankA n F (acA bs) ((List.range n).map (rnkK F (acA bs) k))) := fun k h => h.fin hF hne
 have HBN : Hid (∀ k,(List.range n).map (befA F (acA ((List.range n).map (wonA F (acA bs) k)))) = (List.range n).map (nowK F (acA bs) (k + 1))) := fun k => q3F hF k
 have hmb := fun w => q1i n n (n : Int) (n : Int) rfl rfl (Nat.le_refl _) (by omega) w
 obtain ⟨w1,hw1⟩ : ∃ w1,w1 = w.alloc (.cells ((zB n).map Value.bool).toArray 4) := ⟨_,rfl⟩
 have hb1 : Below w.heap.size w w1 := by rw [hw1]; exact q8 _ _
 have hg1 : BoRow w1 w.heap.size (zB n) := by rw [hw1]; exact (MapKept.heap_alloc w _).1
 have HW1 : Hid _ := hw1
 obtain ⟨w2,hw2⟩ : ∃ w2,w2 = w1.alloc (.cells #[.int .i64 (-1)] 3) := ⟨_,rfl⟩
 have hb2 : Below w1.heap.size w1 w2 := by rw [hw2]; exact q8 _ _
 have hr2 : RowI w2 3 w1.heap.size [-1] := by rw [hw2]; exact (MapKept.heap_alloc w1 _).1
 have HW2 : Hid _ := hw2
 have jr := q1x w1.heap.size n w2 hr2 h0 h256
 have HB2 : Hid (Below w.heap.size w w2) := q6 hb1 hb2
 have HG2 : Hid (BoRow w2 w.heap.size (zB n)) := hg1.upP hb2
 have hs2 : w.heap.size < w2.heap.size := HG2.out.ltP
 clear hR hF hne hw1 hb1 hg1 hw2 hb2 hr2
 go_enter Try.func28,Try.ntmps28
 go_wp2_with (first | rw [← HW2.out] | rw [← HW1.out])
 refine jr.mono ?_
 rintro e w3 ⟨hb3,rfl,hr3⟩
 obtain ⟨gW,hgW⟩ : ∃ gW,gW = w.heap.size := ⟨_,rfl⟩
 obtain ⟨gR,hgR⟩ : ∃ gR,gR = w2.heap.size := ⟨_,rfl⟩
 have HOA : Hid (OffW aA gW gR) := hB.off h0 (by omega) (by omega)
 have HBA : Hid (BoSl w3 aA n cA bs) := (HUP.out w3 (q6 HB2.out hb3)).1
 have HLN : Hid (bs.length = n) := hB.hlen
 have HK3 : Hid (RkW w3 w gW gR ((List.range n).map (wonK F (acA bs) 0)) ((List.range n).map (rnkK F (acA bs) 0))) := by
  refine ⟨?_,?_,q6 HB2.out hb3,by omega,by omega⟩
  ·have : (List.range n).map (wonK F (acA bs) 0) = zB n := by apply List.ext_getElem <;> simp [zB,wonK]
   rw [this,hgW]; exact HG2.out.upP hb3
  ·have : (List.range n).map (rnkK F (acA bs) 0) = List.replicate n (-1) := by apply List.ext_getElem <;> simp [rnkK]
   rw [this,hgR]; exact hr3
 have HN0 : Hid (bs = (List.range n).map (nowK F (acA bs) 0)) := by
  apply List.ext_getElem (by rw [HLN.out]; simp)
  intro i h1 h2
  simp [nowK,acA,List.getD_eq_getElem?_getD,List.getElem?_eq_getElem h1]
 have HGS : Hid (gW = w.heap.size ∧ gW < gR) := ⟨hgW,by omega⟩
 rw [← hgW,← hgR]
 clear jr hmb hb3 hr3 hB HB2 HG2 hs2 HW1 HW2 hgW hgR
 go_wp2
 go_loopw [7,8,9] (fun u v i wr => ∃ k : Nat,∃ gr aN cN,k ≤ n + 1 ∧ u = .slice aN n cN ∧ v = .bool gr ∧ i = .int .i64 (k : Int) ∧ Hid (GrwK n F (acA bs) k gr) ∧ Hid (BoSl wr aN n cN ((List.range n).map (nowK F (acA bs) k))) ∧ Hid (OffW aN gW gR) ∧ Hid (RkW wr w gW gR ((List.range n).map (wonK F (acA bs) k)) ((List.range n).map (rnkK F (acA bs) k)))) (fun _ _ i _ => n + 2 - (intOf i).toNat)
 case atStart => exact ⟨0,true,aA,cA,Nat.zero_le _,rfl,rfl,rfl,.inl ⟨rfl,.inl rfl⟩,by rw [← HN0.out]; exact HBA,HOA,HK3⟩
 case round =>
  obtain ⟨k,gr,aN,cN,hk,rfl,rfl,rfl,HGR,HBN2,HOF,HK⟩ := hrel
  clear HBA HOA HK3 HN0
  cases gr with
  | false =>
   have HE : Hid _ := HQ.out wr gR _ HK.out.bel (by have := HGS.out; omega) HK.out.r (HFN.out k HGR.out)
   clear HQ HGR HBN2 HOF HK HFN HST HLT HBN HUP
   go_wp2
   exact HE.out
  | true =>
   have hkn := HLT.out k HGR.out
   have HK0 : Hid (RkW wr w gW gR (mixA (wonA F (acA bs) k) (wonK F (acA bs) k) 0 n) (mixA (rkA F (acA bs) k) (rnkK F (acA bs) k) 0 n)) := by rw [qY,qY]; exact HK.out
   clear HGR HK
   go_wp2
   go_loopw [8,25] (fun v i wr => ∃ j : Nat,∃ gr,j ≤ n ∧ v = .bool gr ∧ i = .int .i64 (j : Int) ∧ Hid (gr = true ↔ ∃ q,q < j ∧ nowK F (acA bs) k q = true ∧ wonK F (acA bs) k q = false) ∧ Hid (BoSl wr aN n cN ((List.range n).map (nowK F (acA bs) k))) ∧ Hid (RkW wr w gW gR (mixA (wonA F (acA bs) k) (wonK F (acA bs) k) j n) (mixA (rkA F (acA bs) k) (rnkK F (acA bs) k) j n))) (fun _ i _ => n - (intOf i).toNat)
   case atStart => exact ⟨0,false,Nat.zero_le _,rfl,rfl,by simp [Hid],HBN2,HK0⟩
   case round => as_aux_lemma =>
    obtain ⟨j,gr,hj,rfl,rfl,HGJ,HBJ,HK⟩ := hrel
    clear HBN2 HK0
    by_cases hlt : j < n
    ·have e1 : decide ((j : Int) < (n : Int)) = true := decide_eq_true (by omega)
     obtain ⟨ixn,cen⟩ := HBJ.out.getQ hlt
     have hnj : ((List.range n).map (nowK F (acA bs) k)).getD j false = nowK F (acA bs) k j := by simp [List.getD_eq_getElem?_getD,hlt]
     rw [hnj] at cen
     clear hnj
     have ixw := fun w' => q1f gW n j hlt w'
     have ixr := fun w' => q13 gR n j hlt w'
     have cw := HK.out.b.cellP (i := j) (by rw [qj]; exact hlt)
     rw [q38 hlt,if_neg (Nat.lt_irrefl _)] at cw
     have fw := HK.out.b.fzP j
     have HSM : Hid ((nowK F (acA bs) k j && !wonK F (acA bs) k j) = false → RkW wr w gW gR (mixA (wonA F (acA bs) k) (wonK F (acA bs) k) (j + 1) n) (mixA (rkA F (acA bs) k) (rnkK F (acA bs) k) (j + 1) n)) := fun h => by
      have e1 := qz (F := F) (acc := acA bs) (k := k) j
      have e2 := q1L (F := F) (acc := acA bs) (k := k) j
      rw [if_neg (by rw [h]; simp)] at e2
      rw [← q1I hlt (by rw [e1]; cases h1 : nowK F (acA bs) k j <;> cases h2 : wonK F (acA bs) k j <;> simp_all),← q1I hlt e2.symm]
      exact HK.out
     have HNG : Hid ((nowK F (acA bs) k j && !wonK F (acA bs) k j) = false → (gr = true ↔ ∃ q,q < j + 1 ∧ nowK F (acA bs) k q = true ∧ wonK F (acA bs) k q = false)) := fun h => by
      rw [HGJ.out]
      constructor
      ·rintro ⟨q,hq,h2⟩; exact ⟨q,by omega,h2⟩
      ·rintro ⟨q,hq,h2,h3⟩
       refine ⟨q,?_,h2,h3⟩
       by_cases e : q = j
       ·subst e; rw [h2,h3] at h; cases h
       ·omega
     have HYG : Hid ((nowK F (acA bs) k j && !wonK F (acA bs) k j) = true → (true = true ↔ ∃ q,q < j + 1 ∧ nowK F (acA bs) k q = true ∧ wonK F (acA bs) k q = false)) := fun h => by
      rw [Bool.and_eq_true,Bool.not_eq_true'] at h
      exact ⟨fun _ => ⟨j,by omega,h.1,h.2⟩,fun _ => rfl⟩
     have HYS : Hid ((nowK F (acA bs) k j && !wonK F (acA bs) k j) = true → RkW ((wr.setCell ⟨gW,j,none⟩ (.bool true)).setCell ⟨gR,j,none⟩ (.int .i64 (k : Int))) w gW gR (mixA (wonA F (acA bs) k) (wonK F (acA bs) k) (j + 1) n) (mixA (rkA F (acA bs) k) (rnkK F (acA bs) k) (j + 1) n)) := fun h => by
      have e1 := qz (F := F) (acc := acA bs) (k := k) j
      have e2 := q1L (F := F) (acc := acA bs) (k := k) j
      rw [if_pos h] at e2
      rw [Bool.and_eq_true,Bool.not_eq_true'] at h
      exact HK.out.set j true (k : Int) (qL hlt (by rw [e1,h.1]; simp)) (qL hlt e2.symm)
     have HBS : Hid (BoSl ((wr.setCell ⟨gW,j,none⟩ (.bool true)).setCell ⟨gR,j,none⟩ (.int .i64 (k : Int))) aN n cN ((List.range n).map (nowK F (acA bs) k))) := HBJ.out.setO HOF.out j _ _
     have hr1 : RowI (wr.setCell ⟨gW,j,none⟩ (.bool true)) 3 gR (mixA (rkA F (acA bs) k) (rnkK F (acA bs) k) j n) := HK.out.r.other (by have := HK.out.ne; omega) _ _
     have cr := hr1.cell (i := j) (by rw [qj]; exact hlt)
     have fr := hr1.frozen j
     clear hr1 HK HGJ
     generalize nowK F (acA bs) k j = z at *
     generalize wonK F (acA bs) k j = u at *
     generalize adOf aN j = ak at *
     obtain ⟨ak1,ak2,ak3⟩ := ak
     cases z with
     | false =>
      have HN1 : Hid _ := HNG.out (by simp)
      have HN2 : Hid _ := HSM.out (by simp)
      clear HNG HSM HYG HYS HBS cr fr
      go_wp2
      go_roundw
      case rel => exact ⟨j + 1,gr,by omega,rfl,by go_num,HN1.out,HBJ,HN2⟩
      case measure => simp [intOf]; omega
     | true =>
      cases u with
      | true =>
       have HN1 : Hid _ := HNG.out (by simp)
       have HN2 : Hid _ := HSM.out (by simp)
       clear HNG HSM HYG HYS HBS cr fr
       go_wp2
       go_roundw
       case rel => exact ⟨j + 1,gr,by omega,rfl,by go_num,HN1.out,HBJ,HN2⟩
       case measure => simp [intOf]; omega
      | false =>
       have HN1 : Hid _ := HYG.out (by simp)
       have HN2 : Hid _ := HYS.out (by simp)
       clear HNG HSM HYG HYS HBJ
       go_wp2
       go_roundw
       case rel => exact ⟨j + 1,true,by omega,rfl,by go_num,HN1.out,HBS,HN2⟩
       case measure => simp [intOf]; omega
    ·obtain rfl : j = n := by omega
     have e1 : decide ((j : Int) < (j : Int)) = false := by simp
     have HK2 : Hid (RkW wr w gW gR ((List.range j).map (wonA F (acA bs) k)) ((List.range j).map (rkA F (acA bs) k))) := by
      have h := HK.out
      rw [q1a,q1a] at h
      exact h
     have HGR2 : Hid (GrwK j F (acA bs) (k + 1) gr) := HST.out k gr HGJ.out
     obtain ⟨_,hr3⟩ := HUP.out wr HK2.out.bel
     have jb := qC a j c F (some ⟨gW,0,none⟩) j ((List.range j).map (wonA F (acA bs) k)) wr hr3 (HK2.out.b.slX (by simp) (by omega))
     rw [HBN.out k] at jb
     clear HK HGJ HBJ hr3 HOF
     go_wp2_with fail
     refine jb.mono ?_
     rintro e w5 ⟨hb5,rfl,hg5⟩
     have HK5 : Hid (RkW w5 w gW gR ((List.range j).map (wonK F (acA bs) (k + 1))) ((List.range j).map (rnkK F (acA bs) (k + 1)))) := HK2.out.up hb5
     have HBN5 : Hid (BoSl w5 (some ⟨wr.heap.size,0,none⟩) j j ((List.range j).map (nowK F (acA bs) (k + 1)))) := hg5.out.slX (by simp) (by omega)
     have HOF5 : Hid (OffW (some ⟨wr.heap.size,0,none⟩) gW gR) := fun x hx => by
      injection hx with hx
      subst hx
      have h1 := HK2.out.b.ltP
      have h2 := HK2.out.r.lt
      exact ⟨by dsimp only; omega,by dsimp only; omega⟩
     clear jb hb5 hg5 HK2
     go_wp2
     go_roundw
     case rel => exact ⟨k + 1,gr,_,_,by omega,rfl,rfl,by go_num,HGR2,HBN5,HOF5,HK5⟩
     case measure => simp [intOf]; omega
def RksR (p : Int) (nA : Nat) (bs : List Bool) (N : List Gd) (gs : List Int) (x y : Nat) (w : World) (e : Ending) (w' : World) : Prop :=
 Below w.heap.size w w' ∧ ∃ X : Int,(X ≠ 0 ∧ e = .returned (.tuple #[.slice none 0 0,.int .i64 X]) ∧ Hid (ChkN p nA bs N gs x y X)) ∨
  (X = 0 ∧ ∃ g r,e = .returned (.tuple #[.slice (some ⟨g,0,none⟩) nA nA,.int .i64 0]) ∧ w.heap.size ≤ g ∧ Hid (RowI w' 3 g r) ∧ Hid (ChkN p nA bs N gs x y 0) ∧ Hid (RankA nA (gfA p N gs x y) (acA bs) r))
theorem qB (p : Int) (aA : Option Addr) (nA cA : Nat) (aG : Option Addr) (nG cG : Nat) (aN : Option Addr) (nN cN : Nat) (bs : List Bool) (N : List Gd) (gs : List Int) (x y : Nat) (w : World) (hB : BoSl w aA nA cA bs) (hN : NdSl w aN nN cN N) (hG : ZSl w aG nG cG gs) (hok : ∀ z ∈ gs,I64 z) (hx : x < 256) (hy : y < 256) :
  Calls Try.prog 9 #[.agg #[.int .i64 p,.slice aA nA cA,.slice aG nG cG,.slice aN nN cN],.agg #[.int .u8 (x : Int),.int .u8 (y : Int)]] w (RksR p nA bs N gs x y w) := by
 obtain ⟨Q,hQ⟩ : ∃ Q : Ending → World → Prop,Q = RksR p nA bs N gs x y w := ⟨_,rfl⟩
 have HQ1 : Hid (∀ w' X,Below w.heap.size w w' → X ≠ 0 → ChkN p nA bs N gs x y X → Q (.returned (.tuple #[.slice none 0 0,.int .i64 X])) w') := fun w' X h1 h2 h3 => by rw [hQ]; exact ⟨h1,X,.inl ⟨h2,rfl,h3⟩⟩
 have HQ2 : Hid (∀ w' g r,Below w.heap.size w w' → w.heap.size ≤ g → RowI w' 3 g r → ChkN p nA bs N gs x y 0 → RankA nA (gfA p N gs x y) (acA bs) r → Q (.returned (.tuple #[.slice (some ⟨g,0,none⟩) nA nA,.int .i64 0])) w') := fun w' g r h1 h2 h3 h4 h5 => by rw [hQ]; exact ⟨h1,0,.inr ⟨rfl,g,r,rfl,h2,h3,h4,h5⟩⟩
 rw [← hQ]
 clear hQ
 obtain ⟨w1,hw1⟩ : ∃ w1,w1 = w.alloc (.cells #[.int .i64 p,.slice aA nA cA,.slice aG nG cG,.slice aN nN cN] 26 (0,0)) := ⟨_,rfl⟩
 have hb1 : Below w.heap.size w w1 := by rw [hw1]; exact q8 _ _
 have hA1 : AuB w1 w.heap.size p aA nA cA aG nG cG aN nN cN := by rw [hw1]; exact qb w p aA nA cA aG nG cG aN nN cN
 have HW1 : Hid _ := hw1
 obtain ⟨w2,hw2⟩ : ∃ w2,w2 = w1.alloc (.cells #[.int .u8 (x : Int),.int .u8 (y : Int)] 29 (0,0)) := ⟨_,rfl⟩
 have hb2 : Below w1.heap.size w1 w2 := by rw [hw2]; exact q8 _ _
 have hk2 : w2.heap[w1.heap.size]? = some (.cells #[.int .u8 (x : Int),.int .u8 (y : Int)] 29 (0,0)) := by rw [hw2]; exact (MapKept.heap_alloc w1 _).1
 have HW2 : Hid _ := hw2
 have hb02 : Below w.heap.size w w2 := q6 hb1 hb2
 have HC : Hid (∀ w',Below w2.heap.size w2 w' → AuB w' w.heap.size p aA nA cA aG nG cG aN nN cN ∧ w'.heap[w1.heap.size]? = some (.cells #[.int .u8 (x : Int),.int .u8 (y : Int)] 29 (0,0)) ∧ BoSl w' aA nA cA bs ∧ NdSl w' aN nN cN N ∧ ZSl w' aG nG cG gs ∧ Below w.heap.size w w') := fun w' hb =>
  ⟨(hA1.up hb2).up hb,(hb.block _ (Array.getElem?_eq_some_iff.1 hk2).1).trans hk2,(hB.up hb02).up hb,(hN.up hb02).up hb,(hG.up hb02).up hb,q6 hb02 hb⟩
 have HOK : Hid _ := hok
 clear hB hN hG hok hw1 hb1 hA1 hw2 hb2 hk2 hb02
 obtain ⟨⟨c0,c1,c2,c3⟩,hsp,hbo,hnd,hzg,_⟩ := HC.out w2 (Below.refl _ _)
 have s0 := q7 hsp 0
 have s1 := q7 hsp 1
 have j := ql p aA nA cA aG nG cG aN nN cN bs N gs x y w2 hbo hnd hzg HOK.out hx hy
 clear hsp hbo hnd hzg
 go_enter Try.func9,Try.ntmps9
 go_wp2_with (first | rw [← HW2.out] | rw [← HW1.out])
 refine j.mono ?_
 rintro e w3 ⟨hb,X,rfl,hX⟩
 have HB3 : Hid (Below w2.heap.size w2 w3) := hb
 clear j hb c0 c1 c2 c3 s0 s1 HW1 HW2
 by_cases hX0 : X = 0
 rotate_left
 ·have HE : Hid _ := HQ1.out w3 X (HC.out w3 HB3.out).2.2.2.2.2 hX0 hX.out
  have e1 : (X != 0) = true := by simpa using hX0
  clear HQ1 HQ2 hX hX0
  go_wp2
  exact HE.out
 subst hX0
 obtain ⟨hM,_,hs⟩ := hX.out.ok
 have h0 := hM.s1
 have h256 := hM.s2
 obtain ⟨⟨c0,c1,c2,c3⟩,hsp,hbo,hnd,hzg,_⟩ := HC.out w3 HB3.out
 have s0 := q7 hsp 0
 have s1 := q7 hsp 1
 have hbd : Below w3.heap.size w3 w3.drew := (Below.refl _ _).drew
 have k1 : Calls Try.prog 29 #[.agg #[.int .i64 p,.slice aA nA cA,.slice aG nG cG,.slice aN nN cN],.agg #[.int .u8 (x : Int),.int .u8 (y : Int)]] w3.drew fun e w' => Below w3.heap.size w3 w' ∧ ∃ a,e = .returned (.slice a nA nA) ∧ Hid (R3S w' a nA nA (gfA p N gs x y) nA) := (qV p aA nA cA aG nG cG aN nN cN bs N gs x y w3.drew (hbo.up hbd) (hnd.up hbd) (hzg.up hbd) HOK.out hx hy hX.out).mono fun e w' h => ⟨q6 hbd h.1,h.2⟩
 have k2 : ∀ wx a,Below w3.heap.size w3 wx → R3S wx a nA nA (gfA p N gs x y) nA → Calls Try.prog 28 #[.slice aA nA cA,.slice a nA nA] wx fun e w' => Below w3.heap.size w3 w' ∧ ∃ g r,e = .returned (.slice (some ⟨g,0,none⟩) nA nA) ∧ w3.heap.size ≤ g ∧ Hid (RowI w' 3 g r) ∧ Hid (RankA nA (gfA p N gs x y) (acA bs) r) := fun wx a hb hr =>
  (q26 aA nA cA bs a nA (gfA p N gs x y) wx (hbo.up hb) hr h0 h256 (qt hM hs) (fun q _ => q2a)).mono fun e w' ⟨h1,g,r,h2,h3,h4,h5⟩ => ⟨q6 hb h1,g,r,h2,Nat.le_trans hb.size h3,h4,h5⟩
 have HTT : Hid (∀ wx,Below w3.heap.size w3 wx → AuB wx w.heap.size p aA nA cA aG nG cG aN nN cN) := fun wx hb => (HC.out wx (q6 HB3.out hb)).1
 have HX : Hid (ChkN p nA bs N gs x y 0) := hX.out
 have HBW : Hid (Below w.heap.size w w3) := (HC.out w3 HB3.out).2.2.2.2.2
 clear hbd hM hs hsp hbo hnd hzg HQ1 hX HB3
 go_upto_region 4 with fail
 go_region_law (first
  | (revert HB9; intro HB9; go_simp; (with_reducible refine (k2 w9 a1 HB9.out HL9.out).mono ?_); rintro e w10 ⟨hb10,g,r,rfl,hg,hr1,hr2⟩; have HB10 : Hid (Below w3.heap.size w3 w10) := hb10; have HR1 : Hid _ := hr1; have HR2 : Hid _ := hr2; dsimp only)
  | (revert k1; intro k1; go_simp; (with_reducible refine k1.mono ?_); rintro e w9 ⟨hb9,a1,rfl,hl1⟩; have HB9 : Hid (Below w3.heap.size w3 w9) := hb9; have HL9 : Hid _ := hl1; obtain ⟨u0,u1,u2,u3⟩ := HTT.out w9 HB9.out; dsimp only)
  | fail)
 all_goals
  have HE : Hid _ := HQ2.out w10 g r (q6 HBW.out HB10.out) (Nat.le_trans HBW.out.size hg) hr1.out HX.out hr2.out
  clear HQ2 hr1 hr2 hb10 hb9 hl1 HTT HC
  go_wp2
  go_ret2
  exact HE.out
theorem ne_m1 {z : Int} (h : -1 ≤ z) : (z != -1) = decide (0 ≤ z) := by
 by_cases e : z = -1
 ·subst e; rfl
 ·rw [decide_eq_true (show 0 ≤ z by omega)]
  simpa using e
theorem q1P (p : Int) (aA : Option Addr) (nA cA : Nat) (aG : Option Addr) (nG cG : Nat) (aN : Option Addr) (nN cN : Nat) (bs : List Bool) (N : List Gd) (gs : List Int) (x y : Nat) (w : World) (hB : BoSl w aA nA cA bs) (hN : NdSl w aN nN cN N) (hG : ZSl w aG nG cG gs) (hok : ∀ z ∈ gs,I64 z) (hx : x < 256) (hy : y < 256) :
  Calls Try.prog 11 #[.agg #[.int .i64 p,.slice aA nA cA,.slice aG nG cG,.slice aN nN cN],.agg #[.int .u8 (x : Int),.int .u8 (y : Int)]] w fun e w' => Below w.heap.size w w' ∧ ∃ (b : Bool) (X : Int),e = .returned (.tuple #[.bool b,.int .i64 X]) ∧ Hid (WnN p nA bs N gs x y X b) := by
 obtain ⟨Q,hQ⟩ : ∃ Q : Ending → World → Prop,Q = fun e w' => Below w.heap.size w w' ∧ ∃ (b : Bool) (X : Int),e = .returned (.tuple #[.bool b,.int .i64 X]) ∧ Hid (WnN p nA bs N gs x y X b) := ⟨_,rfl⟩
 have HQ : Hid (∀ w' b X,Below w.heap.size w w' → WnN p nA bs N gs x y X b → Q (.returned (.tuple #[.bool b,.int .i64 X])) w') := fun w' b X h1 h3 => by rw [hQ]; exact ⟨h1,b,X,rfl,h3⟩
 rw [← hQ]
 clear hQ
 obtain ⟨w1,hw1⟩ : ∃ w1,w1 = w.alloc (.cells #[.int .i64 p,.slice aA nA cA,.slice aG nG cG,.slice aN nN cN] 26 (0,0)) := ⟨_,rfl⟩
 have hb1 : Below w.heap.size w w1 := by rw [hw1]; exact q8 _ _
 have hA1 : AuB w1 w.heap.size p aA nA cA aG nG cG aN nN cN := by rw [hw1]; exact qb w p aA nA cA aG nG cG aN nN cN
 have HW1 : Hid _ := hw1
 obtain ⟨w2,hw2⟩ : ∃ w2,w2 = w1.alloc (.cells #[.int .u8 (x : Int),.int .u8 (y : Int)] 29 (0,0)) := ⟨_,rfl⟩
 have hb2 : Below w1.heap.size w1 w2 := by rw [hw2]; exact q8 _ _
 have hk2 : w2.heap[w1.heap.size]? = some (.cells #[.int .u8 (x : Int),.int .u8 (y : Int)] 29 (0,0)) := by rw [hw2]; exact (MapKept.heap_alloc w1 _).1
 have HW2 : Hid _ := hw2
 have hb02 : Below w.heap.size w w2 := q6 hb1 hb2
 have HB2 : Hid _ := hb02
 obtain ⟨c0,c1,c2,c3⟩ := hA1.up hb2
 have s0 := q7 hk2 0
 have s1 := q7 hk2 1
 have j := qB p aA nA cA aG nG cG aN nN cN bs N gs x y w2 (hB.up hb02) (hN.up hb02) (hG.up hb02) hok hx hy
 clear hB hN hG hok hw1 hb1 hA1 hw2 hb2 hk2 hb02
 go_enter Try.func11,Try.ntmps11
 go_wp2_with (first | rw [← HW2.out] | rw [← HW1.out])
 refine j.mono ?_
 rintro e w3 ⟨hb,X,⟨h1,rfl,h2⟩ | ⟨rfl,g,r,rfl,hg,hr,hc,hk⟩⟩
 ·have HE : Hid _ := HQ.out w3 false X (q6 HB2.out hb) (.inl ⟨h1,h2.out,rfl⟩)
  have e1 : (X != 0) = true := by simpa using h1
  clear HQ h1 h2 j hb c0 c1 c2 c3 s0 s1 HW1 HW2
  go_wp2
  exact HE.out
 ·have hM := hc.out.ok
  have hrl : 0 < r.length := by rw [hk.out.len]; exact hM.1.s1
  have hz := hk.out.bd (qt hM.1 hM.2.2) (fun q _ => q2a) (q := 0) hM.1.s1
  have hzz : (r.getD 0 0 != -1) = decide (0 ≤ r.getD 0 0) := ne_m1 hz.1
  have HE : Hid _ := HQ.out w3 (r.getD 0 0 != -1) 0 (q6 HB2.out hb) (.inr ⟨rfl,hc.out,r,hk.out,hzz⟩)
  have ix0 : ∀ w',(Instr.indexAt 23 (.slice (some ⟨g,0,none⟩) nA nA) (.int .i64 0)).run Try.prog w' = .ok (.pointer (some ⟨g,0,none⟩)) w' := fun w' => q13 g nA 0 hM.1.s1 w'
  have ce0 := hr.out.cell (i := 0) hrl
  clear HQ hr hc hk hM hrl hz hzz j hb hg c0 c1 c2 c3 s0 s1 HW1 HW2
  generalize r.getD 0 0 = z at *
  go_wp2
  exact HE.out
def StpR (p : Int) (nA : Nat) (bs : List Bool) (N : List Gd) (gs : List Int) (x y : Nat) (ws : List Bool) (w : World) (e : Ending) (w' : World) : Prop :=
 Below w.heap.size w w' ∧ ∃ X : Int,(e = .returned (.tuple #[.slice none 0 0,.int .i64 X]) ∧ Hid (StN p nA bs N gs x y ws X [])) ∨
  (X = 0 ∧ ∃ g us,us.length = nA ∧ e = .returned (.tuple #[.slice (some ⟨g,0,none⟩) nA nA,.int .i64 0]) ∧ w.heap.size ≤ g ∧ Hid (BoRow w' g us) ∧ nA ≤ 256 ∧ Hid (StN p nA bs N gs x y ws 0 us))
theorem q1N (p : Int) (aA : Option Addr) (nA cA : Nat) (aG : Option Addr) (nG cG : Nat) (aN : Option Addr) (nN cN : Nat) (bs : List Bool) (N : List Gd) (gs : List Int) (x y : Nat) (aW : Option Addr) (nW cW : Nat) (ws : List Bool) (w : World) (hB : BoSl w aA nA cA bs) (hN : NdSl w aN nN cN N) (hG : ZSl w aG nG cG gs) (hok : ∀ z ∈ gs,I64 z) (hx : x < 256) (hy : y < 256) (hW : BoSl w aW nW cW ws) :
  Calls Try.prog 13 #[.agg #[.int .i64 p,.slice aA nA cA,.slice aG nG cG,.slice aN nN cN],.agg #[.int .u8 (x : Int),.int .u8 (y : Int)],.slice aW nW cW] w (StpR p nA bs N gs x y ws w) := by
 obtain ⟨Q,hQ⟩ : ∃ Q : Ending → World → Prop,Q = StpR p nA bs N gs x y ws w := ⟨_,rfl⟩
 have HQ1 : Hid (∀ w' X,Below w.heap.size w w' → StN p nA bs N gs x y ws X [] → Q (.returned (.tuple #[.slice none 0 0,.int .i64 X])) w') := fun w' X h1 h3 => by rw [hQ]; exact ⟨h1,X,.inl ⟨rfl,h3⟩⟩
 have HQ2 : Hid (∀ w' g us,Below w.heap.size w w' → us.length = nA → w.heap.size ≤ g → BoRow w' g us → nA ≤ 256 → StN p nA bs N gs x y ws 0 us → Q (.returned (.tuple #[.slice (some ⟨g,0,none⟩) nA nA,.int .i64 0])) w') := fun w' g us h1 h2 h3 h4 h5 h6 => by rw [hQ]; exact ⟨h1,0,.inr ⟨rfl,g,us,h2,rfl,h3,h4,h5,h6⟩⟩
 rw [← hQ]
 clear hQ
 obtain ⟨w1,hw1⟩ : ∃ w1,w1 = w.alloc (.cells #[.int .i64 p,.slice aA nA cA,.slice aG nG cG,.slice aN nN cN] 26 (0,0)) := ⟨_,rfl⟩
 have hb1 : Below w.heap.size w w1 := by rw [hw1]; exact q8 _ _
 have hA1 : AuB w1 w.heap.size p aA nA cA aG nG cG aN nN cN := by rw [hw1]; exact qb w p aA nA cA aG nG cG aN nN cN
 have HW1 : Hid _ := hw1
 obtain ⟨w2,hw2⟩ : ∃ w2,w2 = w1.alloc (.cells #[.int .u8 (x : Int),.int .u8 (y : Int)] 29 (0,0)) := ⟨_,rfl⟩
 have hb2 : Below w1.heap.size w1 w2 := by rw [hw2]; exact q8 _ _
 have hk2 : w2.heap[w1.heap.size]? = some (.cells #[.int .u8 (x : Int),.int .u8 (y : Int)] 29 (0,0)) := by rw [hw2]; exact (MapKept.heap_alloc w1 _).1
 have HW2 : Hid _ := hw2
 have hb02 : Below w.heap.size w w2 := q6 hb1 hb2
 have HC : Hid (∀ w',Below w2.heap.size w2 w' → AuB w' w.heap.size p aA nA cA aG nG cG aN nN cN ∧ w'.heap[w1.heap.size]? = some (.cells #[.int .u8 (x : Int),.int .u8 (y : Int)] 29 (0,0)) ∧ BoSl w' aA nA cA bs ∧ NdSl w' aN nN cN N ∧ ZSl w' aG nG cG gs ∧ BoSl w' aW nW cW ws ∧ Below w.heap.size w w') := fun w' hb =>
  ⟨(hA1.up hb2).up hb,(hb.block _ (Array.getElem?_eq_some_iff.1 hk2).1).trans hk2,(hB.up hb02).up hb,(hN.up hb02).up hb,(hG.up hb02).up hb,(hW.up hb02).up hb,q6 hb02 hb⟩
 have HOK : Hid _ := hok
 have HWL : Hid (ws.length = nW) := hW.hlen
 clear hB hN hG hok hW hw1 hb1 hA1 hw2 hb2 hk2 hb02
 obtain ⟨⟨c0,c1,c2,c3⟩,hsp,hbo,hnd,hzg,_⟩ := HC.out w2 (Below.refl _ _)
 have s0 := q7 hsp 0
 have s1 := q7 hsp 1
 have j := ql p aA nA cA aG nG cG aN nN cN bs N gs x y w2 hbo hnd hzg HOK.out hx hy
 clear hsp hbo hnd hzg
 go_enter Try.func13,Try.ntmps13
 go_wp2_with (first | rw [← HW2.out] | rw [← HW1.out])
 refine j.mono ?_
 rintro e w3 ⟨hb,X,rfl,hX⟩
 have HB3 : Hid (Below w2.heap.size w2 w3) := hb
 clear j hb c0 c1 c2 c3 s0 s1 HW1 HW2
 by_cases hX0 : X = 0
 rotate_left
 ·have HE : Hid _ := HQ1.out w3 X (HC.out w3 HB3.out).2.2.2.2.2.2 (.inl ⟨hX0,hX.out,rfl⟩)
  have e1 : (X != 0) = true := by simpa using hX0
  clear HQ1 HQ2 hX hX0
  go_wp2
  exact HE.out
 subst hX0
 have HX : Hid (ChkN p nA bs N gs x y 0) := hX.out
 have h256 := hX.out.ok.1.s2
 obtain ⟨⟨c0,c1,c2,c3⟩,hsp,hbo,hnd,hzg,hbw,_⟩ := HC.out w3 HB3.out
 have s0 := q7 hsp 0
 have s1 := q7 hsp 1
 clear hX
 by_cases hl : nW = nA
 rotate_left
 ·have HE : Hid _ := HQ1.out w3 2 (HC.out w3 HB3.out).2.2.2.2.2.2 (.inr (.inl ⟨HX.out,by rw [HWL.out]; exact hl,rfl,rfl⟩))
  have e2 : ((nW : Int) != (nA : Int)) = true := by simp; omega
  clear HQ1 HQ2 hl hsp hbo hnd hzg hbw
  go_wp2
  exact HE.out
 subst hl
 have e2 : ((nW : Int) != (nW : Int)) = false := by simp
 have HE : Hid (∀ w' g,Below w2.heap.size w2 w' → w.heap.size ≤ g → BoRow w' g ((List.range nW).map (befA (gfA p N gs x y) (acA ws))) → Q (.returned (.tuple #[.slice (some ⟨g,0,none⟩) nW nW,.int .i64 0])) w') := fun w' g h1 h2 h3 => HQ2.out w' g _ (HC.out w' h1).2.2.2.2.2.2 (by simp) h2 h3 h256 (.inr (.inr ⟨HX.out,HWL.out,rfl,rfl⟩))
 have jl := qV p aA nW cA aG nG cG aN nN cN bs N gs x y w3 hbo hnd hzg HOK.out hx hy HX.out
 clear HQ1 HQ2 hsp hbo hnd hzg hbw
 go_wp2_with fail
 refine jl.mono ?_
 rintro e w4 ⟨hb4,a,rfl,hr4⟩
 have HB4 : Hid (Below w2.heap.size w2 w4) := q6 HB3.out hb4
 have jb := qC a nW nW (gfA p N gs x y) aW cW ws w4 hr4.out (HC.out w4 HB4.out).2.2.2.2.2.1
 have hs4 : w.heap.size ≤ w4.heap.size := (HC.out w4 HB4.out).2.2.2.2.2.2.size
 clear jl hb4 hr4 c0 c1 c2 c3 s0 s1
 go_wp2_with fail
 refine jb.mono ?_
 rintro e w5 ⟨hb5,rfl,hr5⟩
 have HF : Hid _ := HE.out w5 _ (q6 HB4.out hb5) hs4 hr5.out
 clear jb hb5 hr5 HE
 go_wp2
 exact HF.out
theorem q3E (w : World) : ZSl w none 0 0 [] := ⟨rfl,Nat.le_refl _,Nat.zero_le _,fun m k w hk hm => absurd hk (by omega),fun k hk => absurd hk (by omega),fun k hk => absurd hk (by omega),fun _ => rfl⟩
theorem q17 : AttC where
 ranks p aA nA cA aG nG cG aN nN cN bs N gs x y w hB hN hG hok hx hy := (qB p aA nA cA aG nG cG aN nN cN bs N gs x y w hB hN hG hok hx hy).mono fun e w' h => by
  obtain ⟨hb,X,⟨h1,rfl,h2⟩ | ⟨rfl,g,r,rfl,hg,hr,hc,hk⟩⟩ := h
  ·exact ⟨hb,none,0,X,[],rfl,.inl ⟨h1,h2.out,rfl⟩,q3E w'⟩
  ·have hM := hc.out.ok.1
   have h3 := hr.out.sl (by rw [hk.out.len]; have := hM.s2; omega)
   refine ⟨hb,some ⟨g,0,none⟩,nA,0,r,by rw [hk.out.len],.inr ⟨rfl,hc.out,hk.out⟩,?_⟩
   have e := hk.out.len
   subst e
   exact h3
 wins := q1P
theorem q3i : AttS := fun p aA nA cA aG nG cG aN nN cN bs N gs x y aW nW cW ws w hB hN hG hok hx hy hW => (q1N p aA nA cA aG nG cG aN nN cN bs N gs x y aW nW cW ws w hB hN hG hok hx hy hW).mono fun e w' h => by
 obtain ⟨hb,X,⟨rfl,h2⟩ | ⟨rfl,g,us,hl,rfl,hg,hr,h256,hs⟩⟩ := h
 ·exact ⟨hb,none,0,X,[],rfl,h2,BoSl.nil⟩
 ·exact ⟨hb,some ⟨g,0,none⟩,nA,0,us,by rw [hl],hs,by rw [hl]; exact hr.out.slX hl (by omega)⟩
theorem q1O (p : Int) (aA : Option Addr) (nA cA : Nat) (aG : Option Addr) (nG cG : Nat) (aN : Option Addr) (nN cN : Nat) (bs : List Bool) (gs : List Int) (N : List Gd) (x y : Nat) (w : World) (hB : BoSl w aA nA cA bs) (hG : ZSl w aG nG cG gs) (hN : NdSl w aN nN cN N) (hok : ∀ z ∈ gs,I64 z) (hx : x < 256) (hy : y < 256) : Calls Try.prog 4 #[.agg #[.int .i64 p,.slice aA nA cA,.slice aG nG cG,.slice aN nN cN],.agg #[.int .u8 (x : Int),.int .u8 (y : Int)]] w fun e w' => e = .returned (.bool true) ∧ Below w.heap.size w w' :=
 q18 q23 q17 p aA nA cA aG nG cG aN nN cN bs gs N x y w hB hG hN hok hx hy
theorem q2J (p : Int) (aA : Option Addr) (nA cA : Nat) (aG : Option Addr) (nG cG : Nat) (aN : Option Addr) (nN cN : Nat) (bs : List Bool) (gs : List Int) (N : List Gd) (x y : Nat) (pp : Int) (w : World) (hB : BoSl w aA nA cA bs) (hG : ZSl w aG nG cG gs) (hN : NdSl w aN nN cN N) (hok : ∀ z ∈ gs,I64 z) (hx : x < 256) (hy : y < 256) : Calls Try.prog 5 #[.agg #[.int .i64 p,.slice aA nA cA,.slice aG nG cG,.slice aN nN cN],.agg #[.int .u8 (x : Int),.int .u8 (y : Int)],.int .i64 pp] w fun e w' => e = .returned (.bool true) ∧ Below w.heap.size w w' :=
 q1M q23 q17 p aA nA cA aG nG cG aN nN cN bs gs N x y pp w hB hG hN hok hx hy
theorem q2n (w : World) : Calls Try.prog 6 #[] w fun e w' => e = .returned (.bool true) ∧ Below w.heap.size w w' :=
 q1m q17 q3i w
end Go.Proofs.Ytbgogbafkoekjaa
