/- Texts of the proof, put together: what it uses. -/
import Derived.Deep.RegionLaw
import Derived.Test.YthhbhadcjofelaaZ08
import Derived.Test.YthhbhadcjofelaaZ12
import Derived.Test.YthhbhadcjofelaaZ13
import Derived.Test.YthhbhadcjofelaaZ14
set_option maxRecDepth 100000
set_option maxHeartbeats 16000000
namespace Go.Proofs.Ythhbhadcjofelaa
open Go.RowKit Go.Maps Go.Sort
structure RkW (w w0 : World) (gW gR : Nat) (ws : List Bool) (rs : List Int) : Prop where
 b : BoRow w gW ws
 r : RowI w 3 gR rs
 bel : Below w0.heap.size w0 w
 lo : w0.heap.size ≤ gW
 ne : gW < gR
section
variable {w w' w0 : World} {gR gW : Nat} {rs : List Int} {ws : List Bool}
theorem RkW.up (h : RkW w w0 gW gR ws rs) (hb : Below w.heap.size w w') : RkW w' w0 gW gR ws rs := ⟨h.b.upP hb,h.r.up hb,q9 h.bel hb,h.lo,h.ne⟩
theorem RkW.set (h : RkW w w0 gW gR ws rs) (k : Nat) (z : Bool) (v : Int) {ws2 : List Bool} {rs2 : List Int} (e : ws.set k z = ws2) (e2 : rs.set k v = rs2) : RkW ((w.setCell ⟨gW,k,none⟩ (.bool z)).setCell ⟨gR,k,none⟩ (.int .i64 v)) w0 gW gR ws2 rs2 :=
 ⟨(Below.heap_setCell _ _ _ _ (by have := h.ne; dsimp only; omega)).trans (by rw [← e]; exact h.b.setP k z),by rw [← e2]; exact (h.r.other (by have := h.ne; omega) _ _).set k v,(h.bel.setCell h.lo _).setCell (by have := h.lo; have := h.ne; dsimp only; omega) _,h.lo,h.ne⟩
end
def OffW (aN : Option Addr) (gW gR : Nat) : Prop := ∀ x,aN = some x → x.block ≠ gW ∧ x.block ≠ gR
theorem BoSl.setO {w : World} {a : Option Addr} {n c : Nat} {bs : List Bool} (h : BoSl w a n c bs) {gW gR : Nat} (ho : OffW a gW gR) (k : Nat) (u v : Value) : BoSl ((w.setCell ⟨gW,k,none⟩ u).setCell ⟨gR,k,none⟩ v) a n c bs :=
 ⟨h.hlen,h.hcap,h.bd,h.nn,fun x hx j hj => by
  have e := h.c x hx j hj
  have h1 := ho x hx
  have e1 := qG x j
  have e2 : ((w.setCell ⟨gW,k,none⟩ u).setCell ⟨gR,k,none⟩ v).heap[(x.add j).block]? = w.heap[(x.add j).block]? := by
   rw [Below.heap_setCell _ _ _ _ (by rw [e1]; exact h1.2),Below.heap_setCell _ _ _ _ (by rw [e1]; exact h1.1)]
  unfold World.cell? at e ⊢
  rw [e2]
  exact e⟩
theorem BoSl.off {w : World} {a : Option Addr} {n c : Nat} {bs : List Bool} (h : BoSl w a n c bs) (hn : 0 < n) {gW gR : Nat} (h1 : w.heap.size ≤ gW) (h2 : w.heap.size ≤ gR) : OffW a gW gR := fun x hx => by
 have := h.c x hx 0 (by rw [h.hlen]; exact hn)
 have h3 : (x.add 0).block < w.heap.size := World.block_lt_of_cell? _ _ this
 have e1 := qG x 0
 rw [e1] at h3
 exact ⟨by omega,by omega⟩
theorem q4N {F : Nat → List (List Nat)} {acc : Nat → Bool} {n : Nat} (hF : InA n F) (k : Nat) : (List.range n).map (befA F (acA ((List.range n).map (wonA F acc k)))) = (List.range n).map (nowK F acc (k + 1)) := by
 apply List.map_congr_left
 intro q hq
 have hq2 := List.mem_range.1 hq
 refine Eq.trans ?_ (show befA F (wonA F acc k) q = nowK F acc (k + 1) q from rfl)
 have key : ∀ t,t < n → acA ((List.range n).map (wonA F acc k)) t = wonA F acc k t := fun t ht => by simp [acA,List.getD_eq_getElem?_getD,ht]
 have h1 := hF q hq2
 cases hx : befA F (wonA F acc k) q with
 | true =>
  refine qo.2 fun row hr => ?_
  obtain ⟨t,ht,hW⟩ := qo.1 hx row hr
  exact ⟨t,ht,by rw [key t (h1 row hr t ht)]; exact hW⟩
 | false =>
  obtain ⟨row,hr,hall⟩ := q16.1 hx
  exact q16.2 ⟨row,hr,fun t ht => by rw [key t (h1 row hr t ht)]; exact hall t ht⟩
theorem q30 (aA : Option Addr) (n cA : Nat) (bs : List Bool) (a : Option Addr) (c : Nat) (F : Nat → List (List Nat)) (w : World) (hB : BoSl w aA n cA bs) (hR : R3S w a n c F n) (h0 : 0 < n) (h256 : n ≤ 256) (hF : InA n F) (hne : ∀ q,q < n → F q ≠ []) :
  Calls Try.prog 54 #[.slice aA n cA,.slice a n c] w fun e w' => Below w.heap.size w w' ∧ ∃ g r,e = .returned (.slice (some ⟨g,0,none⟩) n n) ∧ w.heap.size ≤ g ∧ Hid (RowI w' 3 g r) ∧ Hid (RankA n F (acA bs) r) := by
 obtain ⟨Q,hQ⟩ : ∃ Q : Ending → World → Prop,Q = fun e w' => Below w.heap.size w w' ∧ ∃ g r,e = .returned (.slice (some ⟨g,0,none⟩) n n) ∧ w.heap.size ≤ g ∧ Hid (RowI w' 3 g r) ∧ Hid (RankA n F (acA bs) r) := ⟨_,rfl⟩
 have HQ : Hid (∀ w' g r,Below w.heap.size w w' → w.heap.size ≤ g → RowI w' 3 g r → RankA n F (acA bs) r → Q (.returned (.slice (some ⟨g,0,none⟩) n n)) w') := fun w' g r h1 h2 h3 h4 => by rw [hQ]; exact ⟨h1,g,r,rfl,h2,h3,h4⟩
 rw [← hQ]
 clear hQ
 have HUP : Hid (∀ w',Below w.heap.size w w' → BoSl w' aA n cA bs ∧ R3S w' a n c F n) := fun w' hb => ⟨hB.up hb,hR.up hb⟩
 have HST : Hid (∀ k gr,(gr = true ↔ ∃ q,q < n ∧ nowK F (acA bs) k q = true ∧ wonK F (acA bs) k q = false) → GrwK n F (acA bs) (k + 1) gr) := fun k gr h => GrwK.step h
 have HLT : Hid (∀ k,GrwK n F (acA bs) k true → k ≤ n) := fun k h => h.lt hF hne
 have HFN : Hid (∀ k,GrwK n F (acA bs) k false → RankA n F (acA bs) ((List.range n).map (rnkK F (acA bs) k))) := fun k h => h.fin hF hne
 have HBN : Hid (∀ k,(List.range n).map (befA F (acA ((List.range n).map (wonA F (acA bs) k)))) = (List.range n).map (nowK F (acA bs) (k + 1))) := fun k => q4N hF k
 have hmb := fun w => q1V n n (n : Int) (n : Int) rfl rfl (Nat.le_refl _) (by omega) w
 obtain ⟨w1,hw1⟩ : ∃ w1,w1 = w.alloc (.cells ((zB n).map Value.bool).toArray 4) := ⟨_,rfl⟩
 have hb1 : Below w.heap.size w w1 := by rw [hw1]; exact qb _ _
 have hg1 : BoRow w1 w.heap.size (zB n) := by rw [hw1]; exact (MapKept.heap_alloc w _).1
 have HW1 : Hid _ := hw1
 obtain ⟨w2,hw2⟩ : ∃ w2,w2 = w1.alloc (.cells #[.int .i64 (-1)] 3) := ⟨_,rfl⟩
 have hb2 : Below w1.heap.size w1 w2 := by rw [hw2]; exact qb _ _
 have hr2 : RowI w2 3 w1.heap.size [-1] := by rw [hw2]; exact (MapKept.heap_alloc w1 _).1
 have HW2 : Hid _ := hw2
 have jr := q2k w1.heap.size n w2 hr2 h0 h256
 have HB2 : Hid (Below w.heap.size w w2) := q9 hb1 hb2
 have HG2 : Hid (BoRow w2 w.heap.size (zB n)) := hg1.upP hb2
 have hs2 : w.heap.size < w2.heap.size := HG2.out.ltP
 clear hR hF hne hw1 hb1 hg1 hw2 hb2 hr2
 go_enter Try.func54,Try.ntmps54
 go_wp2_with (first | rw [← HW2.out] | rw [← HW1.out])
 refine jr.mono ?_
 rintro e w3 ⟨hb3,rfl,hr3⟩
 obtain ⟨gW,hgW⟩ : ∃ gW,gW = w.heap.size := ⟨_,rfl⟩
 obtain ⟨gR,hgR⟩ : ∃ gR,gR = w2.heap.size := ⟨_,rfl⟩
 have HOA : Hid (OffW aA gW gR) := hB.off h0 (by omega) (by omega)
 have HBA : Hid (BoSl w3 aA n cA bs) := (HUP.out w3 (q9 HB2.out hb3)).1
 have HLN : Hid (bs.length = n) := hB.hlen
 have HK3 : Hid (RkW w3 w gW gR ((List.range n).map (wonK F (acA bs) 0)) ((List.range n).map (rnkK F (acA bs) 0))) := by
  refine ⟨?_,?_,q9 HB2.out hb3,by omega,by omega⟩
  ·have : (List.range n).map (wonK F (acA bs) 0) = zB n := by apply List.ext_getElem <;> simp [zB,wonK]
   rw [this,hgW]; exact HG2.out.upP hb3
  ·have : (List.range n).map (rnkK F (acA bs) 0) = List.replicate n (-1) := by apply List.ext_getElem <;> simp [rnkK]
   rw [this,hgR]; exact hr3
 have HN0 : Hid (bs = (List.range n).map (nowK F (acA bs) 0)) := by
  apply List.ext_getElem (by rw [HLN.out]; simp)
  intro i h1 h2
  simp [nowK,acA,List.getD_eq_getElem?_getD,List.getElem?_eq_getElem h1]
 have HGS : Hid (gW = w.heap.size ∧ gW < gR) := ⟨hgW,by omega⟩
 rw [← hgW,← hgR]
 clear jr hmb hb3 hr3 hB HB2 HG2 hs2 HW1 HW2 hgW hgR
 go_wp2
 go_loopw [7,8,9] (fun u v i wr => ∃ k : Nat,∃ gr aN cN,k ≤ n + 1 ∧ u = .slice aN n cN ∧ v = .bool gr ∧ i = .int .i64 (k : Int) ∧ Hid (GrwK n F (acA bs) k gr) ∧ Hid (BoSl wr aN n cN ((List.range n).map (nowK F (acA bs) k))) ∧ Hid (OffW aN gW gR) ∧ Hid (RkW wr w gW gR ((List.range n).map (wonK F (acA bs) k)) ((List.range n).map (rnkK F (acA bs) k)))) (fun _ _ i _ => n + 2 - (intOf i).toNat)
 case atStart => exact ⟨0,true,aA,cA,Nat.zero_le _,rfl,rfl,rfl,.inl ⟨rfl,.inl rfl⟩,by rw [← HN0.out]; exact HBA,HOA,HK3⟩
 case round =>
  obtain ⟨k,gr,aN,cN,hk,rfl,rfl,rfl,HGR,HBN2,HOF,HK⟩ := hrel
  clear HBA HOA HK3 HN0
  cases gr with
  | false =>
   have HE : Hid _ := HQ.out wr gR _ HK.out.bel (by have := HGS.out; omega) HK.out.r (HFN.out k HGR.out)
   clear HQ HGR HBN2 HOF HK HFN HST HLT HBN HUP
   go_wp2
   exact HE.out
  | true =>
   have hkn := HLT.out k HGR.out
   have HK0 : Hid (RkW wr w gW gR (mixA (wonA F (acA bs) k) (wonK F (acA bs) k) 0 n) (mixA (rkA F (acA bs) k) (rnkK F (acA bs) k) 0 n)) := by rw [q1s,q1s]; exact HK.out
   clear HGR HK
   go_wp2
   go_loopw [8,25] (fun v i wr => ∃ j : Nat,∃ gr,j ≤ n ∧ v = .bool gr ∧ i = .int .i64 (j : Int) ∧ Hid (gr = true ↔ ∃ q,q < j ∧ nowK F (acA bs) k q = true ∧ wonK F (acA bs) k q = false) ∧ Hid (BoSl wr aN n cN ((List.range n).map (nowK F (acA bs) k))) ∧ Hid (RkW wr w gW gR (mixA (wonA F (acA bs) k) (wonK F (acA bs) k) j n) (mixA (rkA F (acA bs) k) (rnkK F (acA bs) k) j n))) (fun _ i _ => n - (intOf i).toNat)
   case atStart => exact ⟨0,false,Nat.zero_le _,rfl,rfl,by simp [Hid],HBN2,HK0⟩
   case round => as_aux_lemma =>
    obtain ⟨j,gr,hj,rfl,rfl,HGJ,HBJ,HK⟩ := hrel
    clear HBN2 HK0
    by_cases hlt : j < n
    ·have e1 : decide ((j : Int) < (n : Int)) = true := decide_eq_true (by omega)
     obtain ⟨ixn,cen⟩ := HBJ.out.getQ hlt
     have hnj : ((List.range n).map (nowK F (acA bs) k)).getD j false = nowK F (acA bs) k j := by simp [List.getD_eq_getElem?_getD,hlt]
     rw [hnj] at cen
     clear hnj
     have ixw := fun w' => q1R gW n j hlt w'
     have ixr := fun w' => q3r gR n j hlt w'
     have cw := HK.out.b.cellP (i := j) (by rw [qu]; exact hlt)
     rw [q4a hlt,if_neg (Nat.lt_irrefl _)] at cw
     have fw := HK.out.b.fzP j
     have HSM : Hid ((nowK F (acA bs) k j && !wonK F (acA bs) k j) = false → RkW wr w gW gR (mixA (wonA F (acA bs) k) (wonK F (acA bs) k) (j + 1) n) (mixA (rkA F (acA bs) k) (rnkK F (acA bs) k) (j + 1) n)) := fun h => by
      have e1 := qX (F := F) (acc := acA bs) (k := k) j
      have e2 := q2D (F := F) (acc := acA bs) (k := k) j
      rw [if_neg (by rw [h]; simp)] at e2
      rw [← q2z hlt (by rw [e1]; cases h1 : nowK F (acA bs) k j <;> cases h2 : wonK F (acA bs) k j <;> simp_all),← q2z hlt e2.symm]
      exact HK.out
     have HNG : Hid ((nowK F (acA bs) k j && !wonK F (acA bs) k j) = false → (gr = true ↔ ∃ q,q < j + 1 ∧ nowK F (acA bs) k q = true ∧ wonK F (acA bs) k q = false)) := fun h => by
      rw [HGJ.out]
      constructor
      ·rintro ⟨q,hq,h2⟩; exact ⟨q,by omega,h2⟩
      ·rintro ⟨q,hq,h2,h3⟩
       refine ⟨q,?_,h2,h3⟩
       by_cases e : q = j
       ·subst e; rw [h2,h3] at h; cases h
       ·omega
     have HYG : Hid ((nowK F (acA bs) k j && !wonK F (acA bs) k j) = true → (true = true ↔ ∃ q,q < j + 1 ∧ nowK F (acA bs) k q = true ∧ wonK F (acA bs) k q = false)) := fun h => by
      rw [Bool.and_eq_true,Bool.not_eq_true'] at h
      exact ⟨fun _ => ⟨j,by omega,h.1,h.2⟩,fun _ => rfl⟩
     have HYS : Hid ((nowK F (acA bs) k j && !wonK F (acA bs) k j) = true → RkW ((wr.setCell ⟨gW,j,none⟩ (.bool true)).setCell ⟨gR,j,none⟩ (.int .i64 (k : Int))) w gW gR (mixA (wonA F (acA bs) k) (wonK F (acA bs) k) (j + 1) n) (mixA (rkA F (acA bs) k) (rnkK F (acA bs) k) (j + 1) n)) := fun h => by
      have e1 := qX (F := F) (acc := acA bs) (k := k) j
      have e2 := q2D (F := F) (acc := acA bs) (k := k) j
      rw [if_pos h] at e2
      rw [Bool.and_eq_true,Bool.not_eq_true'] at h
      exact HK.out.set j true (k : Int) (q19 hlt (by rw [e1,h.1]; simp)) (q19 hlt e2.symm)
     have HBS : Hid (BoSl ((wr.setCell ⟨gW,j,none⟩ (.bool true)).setCell ⟨gR,j,none⟩ (.int .i64 (k : Int))) aN n cN ((List.range n).map (nowK F (acA bs) k))) := HBJ.out.setO HOF.out j _ _
     have hr1 : RowI (wr.setCell ⟨gW,j,none⟩ (.bool true)) 3 gR (mixA (rkA F (acA bs) k) (rnkK F (acA bs) k) j n) := HK.out.r.other (by have := HK.out.ne; omega) _ _
     have cr := hr1.cell (i := j) (by rw [qu]; exact hlt)
     have fr := hr1.frozen j
     clear hr1 HK HGJ
     generalize nowK F (acA bs) k j = z at *
     generalize wonK F (acA bs) k j = u at *
     generalize adOf aN j = ak at *
     obtain ⟨ak1,ak2,ak3⟩ := ak
     cases z with
     | false =>
      have HN1 : Hid _ := HNG.out (by simp)
      have HN2 : Hid _ := HSM.out (by simp)
      clear HNG HSM HYG HYS HBS cr fr
      go_wp2
      go_roundw
      case rel => exact ⟨j + 1,gr,by omega,rfl,by go_num,HN1.out,HBJ,HN2⟩
      case measure => simp [intOf]; omega
     | true =>
      cases u with
      | true =>
       have HN1 : Hid _ := HNG.out (by simp)
       have HN2 : Hid _ := HSM.out (by simp)
       clear HNG HSM HYG HYS HBS cr fr
       go_wp2
       go_roundw
       case rel => exact ⟨j + 1,gr,by omega,rfl,by go_num,HN1.out,HBJ,HN2⟩
       case measure => simp [intOf]; omega
      | false =>
       have HN1 : Hid _ := HYG.out (by simp)
       have HN2 : Hid _ := HYS.out (by simp)
       clear HNG HSM HYG HYS HBJ
       go_wp2
       go_roundw
       case rel => exact ⟨j + 1,true,by omega,rfl,by go_num,HN1.out,HBS,HN2⟩
       case measure => simp [intOf]; omega
    ·obtain rfl : j = n := by omega
     have e1 : decide ((j : Int) < (j : Int)) = false := by simp
     have HK2 : Hid (RkW wr w gW gR ((List.range j).map (wonA F (acA bs) k)) ((List.range j).map (rkA F (acA bs) k))) := by
      have h := HK.out
      rw [q1K,q1K] at h
      exact h
     have HGR2 : Hid (GrwK j F (acA bs) (k + 1) gr) := HST.out k gr HGJ.out
     obtain ⟨_,hr3⟩ := HUP.out wr HK2.out.bel
     have jb := q26 a j c F (some ⟨gW,0,none⟩) j ((List.range j).map (wonA F (acA bs) k)) wr hr3 (HK2.out.b.slX (by simp) (by omega))
     rw [HBN.out k] at jb
     clear HK HGJ HBJ hr3 HOF
     go_wp2_with fail
     refine jb.mono ?_
     rintro e w5 ⟨hb5,rfl,hg5⟩
     have HK5 : Hid (RkW w5 w gW gR ((List.range j).map (wonK F (acA bs) (k + 1))) ((List.range j).map (rnkK F (acA bs) (k + 1)))) := HK2.out.up hb5
     have HBN5 : Hid (BoSl w5 (some ⟨wr.heap.size,0,none⟩) j j ((List.range j).map (nowK F (acA bs) (k + 1)))) := hg5.out.slX (by simp) (by omega)
     have HOF5 : Hid (OffW (some ⟨wr.heap.size,0,none⟩) gW gR) := fun x hx => by
      injection hx with hx
      subst hx
      have h1 := HK2.out.b.ltP
      have h2 := HK2.out.r.lt
      exact ⟨by dsimp only; omega,by dsimp only; omega⟩
     clear jb hb5 hg5 HK2
     go_wp2
     go_roundw
     case rel => exact ⟨k + 1,gr,_,_,by omega,rfl,rfl,by go_num,HGR2,HBN5,HOF5,HK5⟩
     case measure => simp [intOf]; omega
def RksR (p : Int) (nA : Nat) (bs : List Bool) (N : List Gd) (gs : List Int) (x y : Nat) (w : World) (e : Ending) (w' : World) : Prop :=
 Below w.heap.size w w' ∧ ∃ X : Int,(X ≠ 0 ∧ e = .returned (.tuple #[.slice none 0 0,.int .i64 X]) ∧ Hid (ChkN p nA bs N gs x y X)) ∨
  (X = 0 ∧ ∃ g r,e = .returned (.tuple #[.slice (some ⟨g,0,none⟩) nA nA,.int .i64 0]) ∧ w.heap.size ≤ g ∧ Hid (RowI w' 3 g r) ∧ Hid (ChkN p nA bs N gs x y 0) ∧ Hid (RankA nA (gfA p N gs x y) (acA bs) r))
theorem q25 (p : Int) (aA : Option Addr) (nA cA : Nat) (aG : Option Addr) (nG cG : Nat) (aN : Option Addr) (nN cN : Nat) (bs : List Bool) (N : List Gd) (gs : List Int) (x y : Nat) (w : World) (hB : BoSl w aA nA cA bs) (hN : NdSl w aN nN cN N) (hG : ZSl w aG nG cG gs) (hok : ∀ z ∈ gs,I64 z) (hx : x < 256) (hy : y < 256) :
  Calls Try.prog 32 #[.agg #[.int .i64 p,.slice aA nA cA,.slice aG nG cG,.slice aN nN cN],.agg #[.int .u8 (x : Int),.int .u8 (y : Int)]] w (RksR p nA bs N gs x y w) := by
 obtain ⟨Q,hQ⟩ : ∃ Q : Ending → World → Prop,Q = RksR p nA bs N gs x y w := ⟨_,rfl⟩
 have HQ1 : Hid (∀ w' X,Below w.heap.size w w' → X ≠ 0 → ChkN p nA bs N gs x y X → Q (.returned (.tuple #[.slice none 0 0,.int .i64 X])) w') := fun w' X h1 h2 h3 => by rw [hQ]; exact ⟨h1,X,.inl ⟨h2,rfl,h3⟩⟩
 have HQ2 : Hid (∀ w' g r,Below w.heap.size w w' → w.heap.size ≤ g → RowI w' 3 g r → ChkN p nA bs N gs x y 0 → RankA nA (gfA p N gs x y) (acA bs) r → Q (.returned (.tuple #[.slice (some ⟨g,0,none⟩) nA nA,.int .i64 0])) w') := fun w' g r h1 h2 h3 h4 h5 => by rw [hQ]; exact ⟨h1,0,.inr ⟨rfl,g,r,rfl,h2,h3,h4,h5⟩⟩
 rw [← hQ]
 clear hQ
 obtain ⟨w1,hw1⟩ : ∃ w1,w1 = w.alloc (.cells #[.int .i64 p,.slice aA nA cA,.slice aG nG cG,.slice aN nN cN] 26 (0,0)) := ⟨_,rfl⟩
 have hb1 : Below w.heap.size w w1 := by rw [hw1]; exact qb _ _
 have hA1 : AuB w1 w.heap.size p aA nA cA aG nG cG aN nN cN := by rw [hw1]; exact qj w p aA nA cA aG nG cG aN nN cN
 have HW1 : Hid _ := hw1
 obtain ⟨w2,hw2⟩ : ∃ w2,w2 = w1.alloc (.cells #[.int .u8 (x : Int),.int .u8 (y : Int)] 29 (0,0)) := ⟨_,rfl⟩
 have hb2 : Below w1.heap.size w1 w2 := by rw [hw2]; exact qb _ _
 have hk2 : w2.heap[w1.heap.size]? = some (.cells #[.int .u8 (x : Int),.int .u8 (y : Int)] 29 (0,0)) := by rw [hw2]; exact (MapKept.heap_alloc w1 _).1
 have HW2 : Hid _ := hw2
 have hb02 : Below w.heap.size w w2 := q9 hb1 hb2
 have HC : Hid (∀ w',Below w2.heap.size w2 w' → AuB w' w.heap.size p aA nA cA aG nG cG aN nN cN ∧ w'.heap[w1.heap.size]? = some (.cells #[.int .u8 (x : Int),.int .u8 (y : Int)] 29 (0,0)) ∧ BoSl w' aA nA cA bs ∧ NdSl w' aN nN cN N ∧ ZSl w' aG nG cG gs ∧ Below w.heap.size w w') := fun w' hb =>
  ⟨(hA1.up hb2).up hb,(hb.block _ (Array.getElem?_eq_some_iff.1 hk2).1).trans hk2,(hB.up hb02).up hb,(hN.up hb02).up hb,(hG.up hb02).up hb,q9 hb02 hb⟩
 have HOK : Hid _ := hok
 clear hB hN hG hok hw1 hb1 hA1 hw2 hb2 hk2 hb02
 obtain ⟨⟨c0,c1,c2,c3⟩,hsp,hbo,hnd,hzg,_⟩ := HC.out w2 (Below.refl _ _)
 have s0 := q8 hsp 0
 have s1 := q8 hsp 1
 have j := qv p aA nA cA aG nG cG aN nN cN bs N gs x y w2 hbo hnd hzg HOK.out hx hy
 clear hsp hbo hnd hzg
 go_enter Try.func32,Try.ntmps32
 go_wp2_with (first | rw [← HW2.out] | rw [← HW1.out])
 refine j.mono ?_
 rintro e w3 ⟨hb,X,rfl,hX⟩
 have HB3 : Hid (Below w2.heap.size w2 w3) := hb
 clear j hb c0 c1 c2 c3 s0 s1 HW1 HW2
 by_cases hX0 : X = 0
 rotate_left
 ·have HE : Hid _ := HQ1.out w3 X (HC.out w3 HB3.out).2.2.2.2.2 hX0 hX.out
  have e1 : (X != 0) = true := by simpa using hX0
  clear HQ1 HQ2 hX hX0
  go_wp2
  exact HE.out
 subst hX0
 obtain ⟨hM,_,hs⟩ := hX.out.ok
 have h0 := hM.s1
 have h256 := hM.s2
 obtain ⟨⟨c0,c1,c2,c3⟩,hsp,hbo,hnd,hzg,_⟩ := HC.out w3 HB3.out
 have s0 := q8 hsp 0
 have s1 := q8 hsp 1
 have hbd : Below w3.heap.size w3 w3.drew := (Below.refl _ _).drew
 have k1 : Calls Try.prog 55 #[.agg #[.int .i64 p,.slice aA nA cA,.slice aG nG cG,.slice aN nN cN],.agg #[.int .u8 (x : Int),.int .u8 (y : Int)]] w3.drew fun e w' => Below w3.heap.size w3 w' ∧ ∃ a,e = .returned (.slice a nA nA) ∧ Hid (R3S w' a nA nA (gfA p N gs x y) nA) := (q34 p aA nA cA aG nG cG aN nN cN bs N gs x y w3.drew (hbo.up hbd) (hnd.up hbd) (hzg.up hbd) HOK.out hx hy hX.out).mono fun e w' h => ⟨q9 hbd h.1,h.2⟩
 have k2 : ∀ wx a,Below w3.heap.size w3 wx → R3S wx a nA nA (gfA p N gs x y) nA → Calls Try.prog 54 #[.slice aA nA cA,.slice a nA nA] wx fun e w' => Below w3.heap.size w3 w' ∧ ∃ g r,e = .returned (.slice (some ⟨g,0,none⟩) nA nA) ∧ w3.heap.size ≤ g ∧ Hid (RowI w' 3 g r) ∧ Hid (RankA nA (gfA p N gs x y) (acA bs) r) := fun wx a hb hr =>
  (q30 aA nA cA bs a nA (gfA p N gs x y) wx (hbo.up hb) hr h0 h256 (qH hM hs) (fun q _ => q20)).mono fun e w' ⟨h1,g,r,h2,h3,h4,h5⟩ => ⟨q9 hb h1,g,r,h2,Nat.le_trans hb.size h3,h4,h5⟩
 have HTT : Hid (∀ wx,Below w3.heap.size w3 wx → AuB wx w.heap.size p aA nA cA aG nG cG aN nN cN) := fun wx hb => (HC.out wx (q9 HB3.out hb)).1
 have HX : Hid (ChkN p nA bs N gs x y 0) := hX.out
 have HBW : Hid (Below w.heap.size w w3) := (HC.out w3 HB3.out).2.2.2.2.2
 clear hbd hM hs hsp hbo hnd hzg HQ1 hX HB3
 go_upto_region 4 with fail
 go_region_law (first
  | (revert HB9; intro HB9; go_simp; (with_reducible refine (k2 w9 a1 HB9.out HL9.out).mono ?_); rintro e w10 ⟨hb10,g,r,rfl,hg,hr1,hr2⟩; have HB10 : Hid (Below w3.heap.size w3 w10) := hb10; have HR1 : Hid _ := hr1; have HR2 : Hid _ := hr2; dsimp only)
  | (revert k1; intro k1; go_simp; (with_reducible refine k1.mono ?_); rintro e w9 ⟨hb9,a1,rfl,hl1⟩; have HB9 : Hid (Below w3.heap.size w3 w9) := hb9; have HL9 : Hid _ := hl1; obtain ⟨u0,u1,u2,u3⟩ := HTT.out w9 HB9.out; dsimp only)
  | fail)
 all_goals
  have HE : Hid _ := HQ2.out w10 g r (q9 HBW.out HB10.out) (Nat.le_trans HBW.out.size hg) hr1.out HX.out hr2.out
  clear HQ2 hr1 hr2 hb10 hb9 hl1 HTT HC
  go_wp2
  go_ret2
  exact HE.out
theorem qW {α : Type} (l : List α) (k q : Nat) (v d : α) (hk : k < l.length) : (l.set k v).getD q d = if k = q then v else l.getD q d := by
 by_cases e : k = q
 ·subst e
  rw [if_pos rfl]
  simp [List.getD_eq_getElem?_getD,hk]
 ·simp [List.getD_eq_getElem?_getD,List.getElem?_set_ne e,e]
def nilLc : Lc := ⟨none,0,0,[]⟩
structure OfM (w : World) (base gP gC n : Nat) (L : List Lc) (cs : List Nat) : Prop where
 ll : L.length = n
 lc : cs.length = n
 p : w.heap[gP]? = some (.cells (L.map fun r => Value.slice r.a r.len r.cap).toArray 31 (0,0))
 c : LtRow w gC (cs.map Int.ofNat)
 r : ∀ r ∈ L,r = nilLc ∨ ∃ h,r.a = some ⟨h,0,none⟩ ∧ r.len = r.ts.length ∧ r.cap = r.ts.length ∧ base ≤ h ∧ h ≠ gP ∧ h ≠ gC ∧ LtRow w h (r.ts.map Int.ofNat) ∧ r.ts.length ≤ 256 ∧ ∀ z ∈ r.ts,z < 256
 cb : ∀ z ∈ cs,z < 256
 ne : gP ≠ gC ∧ base ≤ gP ∧ base ≤ gC
section
variable {w w' : World} {base gP gC n : Nat} {L : List Lc} {cs : List Nat}
theorem OfM.up (h : OfM w base gP gC n L cs) (hb : Below w.heap.size w w') : OfM w' base gP gC n L cs :=
 ⟨h.ll,h.lc,(hb.block _ (Array.getElem?_eq_some_iff.1 h.p).1).trans h.p,h.c.up hb,fun r hr => by
  rcases h.r r hr with e | ⟨g,h1,h2,h3,h4,h5,h6,h7,h8,h9⟩
  ·exact .inl e
  ·exact .inr ⟨g,h1,h2,h3,h4,h5,h6,h7.up hb,h8,h9⟩,h.cb,h.ne⟩
theorem OfM.setP (h : OfM w base gP gC n L cs) {k g : Nat} {ts : List Nat} (hg : base ≤ g) (hP : g ≠ gP) (hC : g ≠ gC) (hr : LtRow w g (ts.map Int.ofNat)) (hl : ts.length ≤ 256) (hz : ∀ z ∈ ts,z < 256) : OfM (w.setCell ⟨gP,k,none⟩ (.slice (some ⟨g,0,none⟩) ts.length ts.length)) base gP gC n (L.set k ⟨some ⟨g,0,none⟩,ts.length,ts.length,ts⟩) cs := by
 have far : ∀ {b : Nat} {zs : List Int},b ≠ gP → LtRow w b zs → LtRow (w.setCell ⟨gP,k,none⟩ (.slice (some ⟨g,0,none⟩) ts.length ts.length)) b zs := fun {b zs} hb hz => (Below.heap_setCell _ _ _ _ (by exact hb)).trans hz
 refine ⟨by rw [List.length_set]; exact h.ll,h.lc,?_,far (fun e => h.ne.1 e.symm) h.c,fun r hm => ?_,h.cb,h.ne⟩
 ·rw [heap_setCell_same w gP k _ _ _ h.p]
  simp [List.map_set]
 ·rcases List.mem_or_eq_of_mem_set hm with hm | rfl
  ·rcases h.r r hm with e | ⟨g',h1,h2,h3,h4,h5,h6,h7,h8,h9⟩
   ·exact .inl e
   ·exact .inr ⟨g',h1,h2,h3,h4,h5,h6,far h5 h7,h8,h9⟩
  ·exact .inr ⟨g,rfl,rfl,rfl,hg,hP,hC,far hP hr,hl,hz⟩
theorem OfM.setC (h : OfM w base gP gC n L cs) {k v : Nat} (hv : v < 256) : OfM (w.setCell ⟨gC,k,none⟩ (.int .u8 (v : Int))) base gP gC n L (cs.set k v) := by
 have far : ∀ {b : Nat} {zs : List Int},b ≠ gC → LtRow w b zs → LtRow (w.setCell ⟨gC,k,none⟩ (.int .u8 (v : Int))) b zs := fun {b zs} hb hz => (Below.heap_setCell _ _ _ _ (by exact hb)).trans hz
 refine ⟨h.ll,by rw [List.length_set]; exact h.lc,(Below.heap_setCell _ _ _ _ (by exact h.ne.1)).trans h.p,?_,fun r hm => ?_,fun z hz => ?_,h.ne⟩
 ·unfold LtRow
  rw [heap_setCell_same w gC k _ _ _ h.c]
  simp [List.map_set]
 ·rcases h.r r hm with e | ⟨g',h1,h2,h3,h4,h5,h6,h7,h8,h9⟩
  ·exact .inl e
  ·exact .inr ⟨g',h1,h2,h3,h4,h5,h6,far h6 h7,h8,h9⟩
 ·rcases List.mem_or_eq_of_mem_set hz with hz | rfl
  ·exact h.cb z hz
  ·exact hv
theorem OfM.sg (h : OfM w base gP gC n L cs) (hn : n ≤ 256) {gR : Nat} {R : List Int} (hR : RowI w 3 gR R) (hl : R.length = n) (hg : base ≤ gR) (hi : ∀ z ∈ R,I64 z) {w' : World} (hk : ∀ g,base ≤ g → g < w.heap.size → w'.heap[g]? = w.heap[g]?) (b : Bool) : SgW w' (some ⟨gR,0,none⟩) n n (some ⟨gP,0,none⟩) n n (some ⟨gC,0,none⟩) n n ⟨b,R,L.map Lc.ts,cs⟩ := by
 have keep : ∀ {g : Nat} {o : Obj},base ≤ g → w.heap[g]? = some o → w'.heap[g]? = some o := fun {g o} h1 h2 => (hk g h1 (Array.getElem?_eq_some_iff.1 h2).1).trans h2
 have hR2 : RowI w' 3 gR R := keep hg hR
 have hC2 : LtRow w' gC (cs.map Int.ofNat) := keep h.ne.2.2 h.c
 have hP2 := keep h.ne.2.1 h.p
 have e1 := hR2.sl (by rw [hl]; omega)
 rw [hl] at e1
 have e2 := hC2.sl (by rw [h.lc]; omega)
 rw [h.lc] at e2
 refine ⟨e1,hi,⟨L,⟨h.ll,Nat.le_refl _,by unfold maxLen; omega,fun e => (by cases e),fun x hx k hk => ?_,fun r hr => ?_⟩,rfl⟩,e2,h.cb⟩
 ·injection hx with hx
  subst hx
  rw [qf,Nat.zero_add,q8 hP2 k]
  simp [List.getElem?_eq_getElem hk]
 ·rcases h.r r hr with rfl | ⟨g,h1,h2,h3,h4,_,_,h7,h8,h9⟩
  ·exact ⟨⟨rfl,Nat.le_refl _,Nat.zero_le _,fun m k w hk hm => absurd (Nat.lt_of_lt_of_le hk hm) (Nat.not_lt_zero _),fun k hk => absurd hk (Nat.not_lt_zero _),fun k hk => absurd hk (Nat.not_lt_zero _),fun _ => rfl⟩,fun z hz => by cases hz⟩
  ·have e := (show LtRow w' g (r.ts.map Int.ofNat) from keep h4 h7).sl (by omega)
   rw [h1,h2,h3]
   exact ⟨e,h9⟩
theorem rS_up {W w0 w1 : World} {a : Addr} {z : Value} (hb : Below w0.heap.size w0 w1) (h : w0.cell? a = some z ∧ Hid (Below W.heap.size W w0)) : w1.cell? a = some z ∧ Hid (Below W.heap.size W w1) := ⟨qd h.1 hb,q9 h.2.out hb⟩
theorem qA {W : World} {a : Addr} {z : Value} {o1 o2 o3 : Obj} (h : W.cell? a = some z) : (((W.alloc o1).alloc o2).alloc o3).drew.cell? a = some z ∧ Hid (Below W.heap.size W (((W.alloc o1).alloc o2).alloc o3).drew) :=
 rS_up ((Below.refl _ _).drew) (rS_up (qb _ _) (rS_up (qb _ _) (rS_up (qb _ _) ⟨h,Below.refl _ _⟩)))
theorem OfM.mk0 {w : World} {n base gP gC : Nat} (hP : w.heap[gP]? = some (.cells (madeCells #[.slice none 0 0] n) 31 (0,0))) (hC : w.heap[gC]? = some (.cells ((allTo 0 n).map (Value.int .u8)).toArray 27 (0,0))) (h1 : gP ≠ gC) (h2 : base ≤ gP) (h3 : base ≤ gC) : OfM w base gP gC n (List.replicate n nilLc) (List.replicate n 0) := by
 refine ⟨by simp,by simp,?_,?_,fun r hr => .inl (List.eq_of_mem_replicate hr),fun z hz => by rw [List.eq_of_mem_replicate hz]; decide,h1,h2,h3⟩
 ·rw [hP,q3i]
  simp [nilLc]
 ·unfold LtRow
  rw [hC,q3j]
  simp
end
theorem q3R (l : Nat) (hb : l ≤ 1000) (w : World) :
  (Instr.makeSlice 30 (.int .i64 (l : Int)) (.int .i64 (l : Int))).run Try.prog w = .ok (.slice (some ⟨w.heap.size,0,none⟩) l l) (w.alloc (.cells (madeCells #[.slice none 0 0] l) 31)) := by
 have hinfo : (Try.prog.info? 31).map (fun i => (i.zero,i.size,i.bytes)) = some (some (.slice none 0 0),1,24) := by kernel_rfl
 obtain ⟨i,hi,hz0,hz1,hz2⟩ := info_parts hinfo
 have := run_make (P := Try.prog) w 30 31 i (.slice none 0 0) Try.underlying30 hi hz0 .i64 .i64 l l (by omega) (by omega) (by rw [hz2]; omega) (by omega)
 rw [this,hz1]
 simp only [Int.toNat_natCast,Nat.mul_one]
 rfl
def R5S (w6 : World) (n gR : Nat) (z : Bool) (v : Value) (wx : World) : Prop := ∃ b gP gC : Nat,v = .pointer (some ⟨b,0,none⟩) ∧ Hid (wx.heap[b]? = some (.cells #[.bool z,.slice (some ⟨gR,0,none⟩) n n,.slice (some ⟨gP,0,none⟩) n n,.slice (some ⟨gC,0,none⟩) n n] 33 (0,0))) ∧ Hid (OfM wx w6.heap.size gP gC n (List.replicate n nilLc) (List.replicate n 0)) ∧ Hid (Below w6.heap.size w6 wx) ∧ Hid (w6.heap.size ≤ b ∧ b ≠ gP ∧ b ≠ gC)
theorem R5S.mk {w6 wx : World} {n gR : Nat} {z : Bool} (b gP gC : Nat) (h1 : wx.heap[b]? = some (.cells #[.bool z,.slice (some ⟨gR,0,none⟩) n n,.slice (some ⟨gP,0,none⟩) n n,.slice (some ⟨gC,0,none⟩) n n] 33 (0,0))) (hP : wx.heap[gP]? = some (.cells (madeCells #[.slice none 0 0] n) 31 (0,0))) (hC : wx.heap[gC]? = some (.cells ((allTo 0 n).map (Value.int .u8)).toArray 27 (0,0))) (hb : Below w6.heap.size w6 wx) (h : w6.heap.size ≤ b ∧ w6.heap.size ≤ gP ∧ w6.heap.size ≤ gC ∧ b ≠ gP ∧ b ≠ gC ∧ gP ≠ gC) : R5S w6 n gR z (.pointer (some ⟨b,0,none⟩)) wx :=
 ⟨b,gP,gC,rfl,h1,OfM.mk0 hP hC h.2.2.2.2.2 h.2.1 h.2.2.1,hb,h.1,h.2.2.2.1,h.2.2.2.2.1⟩
structure OfE (p : Int) (N : List Gd) (gs : List Int) (x y : Nat) (R : List Int) (n k : Nat) (L : List Lc) (cs : List Nat) : Prop where
 done : ∀ q,q < k → EntS (toS p N gs) x y R q (L.getD q nilLc).ts (cs.getD q 0)
 todo : ∀ q,k ≤ q → q < n → L.getD q nilLc = nilLc ∧ cs.getD q 0 = 0
section
variable {p : Int} {N : List Gd} {gs : List Int} {x y : Nat} {R : List Int} {n k : Nat} {L : List Lc} {cs : List Nat}
theorem OfE.put (h : OfE p N gs x y R n k L cs) (hL : L.length = n) (hk : k < n) (h0 : 0 < R.getD k 0) {r : Lc} (h1 : r.ts.length = (mvL x).length) (h2 : RepA (toS p N gs) x y (fun t => R.getD t 0) k r.ts (mvL x).length) : OfE p N gs x y R n (k + 1) (L.set k r) cs := by
 refine ⟨fun q hq => ?_,fun q hq hn => ?_⟩
 ·rw [qW _ _ _ _ _ (by omega)]
  by_cases e : k = q
  ·subst e
   rw [if_pos rfl]
   exact ⟨fun _ => ⟨h1,h2⟩,fun h3 => absurd h0 h3,fun h3 => absurd h3 (Int.lt_asymm h0),fun _ => (h.todo k (Nat.le_refl _) hk).2⟩
  ·rw [if_neg e]; exact h.done q (by omega)
 ·rw [qW _ _ _ _ _ (by omega),if_neg (by omega)]
  exact h.todo q (by omega) hn
theorem OfE.cho (h : OfE p N gs x y R n k L cs) (hc : cs.length = n) (hk : k < n) (h0 : R.getD k 0 < 0) {v : Nat} (h1 : ChoA (toS p N gs) x y (fun t => R.getD t 0) k v) : OfE p N gs x y R n (k + 1) L (cs.set k v) := by
 refine ⟨fun q hq => ?_,fun q hq hn => ?_⟩
 ·rw [qW _ _ _ _ _ (by omega)]
  by_cases e : k = q
  ·subst e
   rw [if_pos rfl]
   exact ⟨fun h3 => absurd h3 (Int.lt_asymm h0),fun _ => by rw [(h.todo k (Nat.le_refl _) hk).1]; rfl,fun _ => h1,fun h3 => absurd h0 h3⟩
  ·rw [if_neg e]; exact h.done q (by omega)
 ·rw [qW _ _ _ _ _ (by omega),if_neg (by omega)]
  exact h.todo q (by omega) hn
theorem OfE.zero (h : OfE p N gs x y R n k L cs) (hk : k < n) (h0 : ¬ 0 < R.getD k 0) (h1 : ¬ R.getD k 0 < 0) : OfE p N gs x y R n (k + 1) L cs := by
 refine ⟨fun q hq => ?_,fun q hq hn => h.todo q (by omega) hn⟩
 by_cases e : q = k
 ·subst e
  obtain ⟨e1,e2⟩ := h.todo q (Nat.le_refl _) hk
  exact ⟨fun h3 => absurd h3 h0,fun _ => by rw [e1]; rfl,fun h3 => absurd h3 h1,fun _ => e2⟩
 ·exact h.done q (by omega)
end
theorem RplA.rep {G : GmP} {R : List Int} {q : Nat} {ts : List Nat} (h : RplA G R q ts) (hl : ts.length = (mvL G.x).length) (hbd : ∀ i j,i < (mvL G.x).length → j < (mvL G.y).length → -1 ≤ R.getD (G.t q ((mvL G.x).getD i 0 ||| (mvL G.y).getD j 0)) 0 ∧ R.getD (G.t q ((mvL G.x).getD i 0 ||| (mvL G.y).getD j 0)) 0 < 1000) (hans : ∀ i,i < (mvL G.x).length → ∃ j,j < (mvL G.y).length ∧ 0 ≤ R.getD (G.t q ((mvL G.x).getD i 0 ||| (mvL G.y).getD j 0)) 0) : RepA G.t G.x G.y (fun t => R.getD t 0) q ts (mvL G.x).length := fun i hi => by
 obtain ⟨j,h1,h2⟩ := h i (by omega)
 exact ⟨j,LeaS.fst (r := fun t => R.getD t 0) (row := fun j => G.t q ((mvL G.x).getD i 0 ||| (mvL G.y).getD j 0)) h1 (fun m hm => hbd i m hi hm) (hans i hi),h2⟩
theorem KepA.cho {G : GmP} {R : List Int} {q i : Nat} (h : KepA G R q i) (hbd : ∀ i j,i < (mvL G.x).length → j < (mvL G.y).length → -1 ≤ R.getD (G.t q ((mvL G.x).getD i 0 ||| (mvL G.y).getD j 0)) 0) : ChoA G.t G.x G.y (fun t => R.getD t 0) q ((mvL G.x).getD i 0) := by
 obtain ⟨h1,h2,h3⟩ := h
 refine .inl ⟨i,h1,rfl,fun z hz => by have := h2 z hz; dsimp only; omega,fun j hj h4 => h3 j hj fun z hz => ?_⟩
 have h5 := h4 z hz
 dsimp only at h5
 obtain ⟨m,hm,rfl⟩ := List.getElem_of_mem hz
 have h6 := hbd j m (by omega) hm
 rw [qe 0 hm] at h6
 omega
theorem OfM.base {w : World} {base b0 gP gC n : Nat} {L : List Lc} {cs : List Nat} (h : OfM w base gP gC n L cs) (hb : b0 ≤ base) : OfM w b0 gP gC n L cs :=
 ⟨h.ll,h.lc,h.p,h.c,fun r hr => by
  rcases h.r r hr with e | ⟨g,h1,h2,h3,h4,h5⟩
  ·exact .inl e
  ·exact .inr ⟨g,h1,h2,h3,Nat.le_trans hb h4,h5⟩,h.cb,h.ne.1,Nat.le_trans hb h.ne.2.1,Nat.le_trans hb h.ne.2.2⟩
theorem OfM.far {w w' : World} {base gP gC n : Nat} {L : List Lc} {cs : List Nat} (h : OfM w base gP gC n L cs) (hk : ∀ g,base ≤ g → w'.heap[g]? = w.heap[g]?) : OfM w' base gP gC n L cs :=
 ⟨h.ll,h.lc,(hk _ h.ne.2.1).trans h.p,(hk _ h.ne.2.2).trans h.c,fun r hr => by
  rcases h.r r hr with e | ⟨g,h1,h2,h3,h4,h5,h6,h7,h8⟩
  ·exact .inl e
  ·exact .inr ⟨g,h1,h2,h3,h4,h5,h6,(hk _ h4).trans h7,h8⟩,h.cb,h.ne⟩
theorem OfM.cellP {w : World} {base gP gC n k : Nat} {L : List Lc} {cs : List Nat} (h : OfM w base gP gC n L cs) (hk : k < n) : (∃ v,w.cell? ⟨gP,k,none⟩ = some v) ∧ w.frozen? ⟨gP,k,none⟩ = false :=
 ⟨⟨_,(q8 h.p k).trans (by simp [List.getElem?_eq_getElem (show k < L.length by rw [h.ll]; exact hk)]; rfl)⟩,frozen_of_row _ _ _ _ _ h.p⟩
theorem OfM.cellC {w : World} {base gP gC n k : Nat} {L : List Lc} {cs : List Nat} (h : OfM w base gP gC n L cs) (hk : k < n) : (∃ v,w.cell? ⟨gC,k,none⟩ = some (.int .u8 v)) ∧ w.frozen? ⟨gC,k,none⟩ = false :=
 ⟨⟨_,(q8 h.c k).trans (by simp [List.getElem?_eq_getElem (show k < cs.length by rw [h.lc]; exact hk)]; rfl)⟩,frozen_of_row _ _ _ _ _ h.c⟩
theorem q3M (g n k : Nat) (hk : k < n) (w : World) : (Instr.indexAt 30 (.slice (some ⟨g,0,none⟩) n n) (.int .i64 (k : Int))).run Try.prog w = .ok (.pointer (some ⟨g,k,none⟩)) w := by
 have := qk (P := Try.prog) (T := 30) Try.underlying30 q1X (a := some ⟨g,0,none⟩) (cap := n) (n := n) (fun e => by cases e) k w hk
 simpa [adOf,qf] using this
end Go.Proofs.Ythhbhadcjofelaa
