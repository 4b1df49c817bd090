/- Texts of the proof, put together: what it uses. -/
import Derived.Test.YtjpggahiddhanaaZ12
import Derived.Test.YtjpggahiddhanaaZ13
import Derived.Test.YtjpggahiddhanaaZ14
set_option maxRecDepth 100000
set_option maxHeartbeats 16000000
namespace Go.Proofs.Ytjpggahiddhanaa
open Go.RowKit Go.Maps
theorem q11 (A : AuP) (aA : Option Addr) (cA : Nat) (aG : Option Addr) (nG cG : Nat) (aN : Option Addr) (nN cN : Nat) (w : World) (hB : BoSl w aA A.nA cA A.bs) (hN : NdSl w aN nN cN A.N) (hG : ZSl w aG nG cG A.gs) (hok : ∀ z ∈ A.gs,I64 z) :
  Calls Try.prog 33 #[.agg #[.int .i64 A.p,.slice aA A.nA cA,.slice aG nG cG,.slice aN nN cN]] w (KnoR A w) := by
 obtain ⟨p,n,bs,N,gs⟩ := A
 dsimp only at *
 obtain ⟨Z,eZ⟩ : ∃ Z,Z = KnoR ⟨p,n,bs,N,gs⟩ w := ⟨_,rfl⟩
 have HZ : Hid (∀ e w',KnoR ⟨p,n,bs,N,gs⟩ w e w' → Z e w') := fun e w' h => by rw [eZ]; exact h
 rw [← eZ]
 clear eZ
 obtain ⟨w1,hw1⟩ : ∃ w1,w1 = (w.alloc (.cells #[.int .i64 p,.slice aA n cA,.slice aG nG cG,.slice aN nN cN] 26 (0,0))).alloc kn0 := ⟨_,rfl⟩
 have hs1 : w1.heap.size = w.heap.size + 2 := by rw [hw1]; simp
 have hb1 : Below w.heap.size w w1 := by rw [hw1]; exact q5 (q6 w _) (q6 _ _)
 have HV1 : Hid (AuB w1 w.heap.size p aA n cA aG nG cG aN nN cN) := by show AuB _ _ _ _ _ _ _ _ _ _ _ _; rw [hw1]; exact (qb _ _ _ _ _ _ _ _ _ _ _).up (q6 _ _)
 have HK1 : Hid (w1.heap[w.heap.size + 1]? = some kn0) := by
  have := (MapKept.heap_alloc (w.alloc (.cells #[.int .i64 p,.slice aA n cA,.slice aG nG cG,.slice aN nN cN] 26 (0,0))) kn0).1
  show _ = _
  rw [hw1]
  simpa using this
 have j1 := q1H p aA n cA aG nG cG aN nN cN N gs w1 (hN.up hb1) (hG.up hb1) hok
 have HB1 : Hid _ := hb1
 have HW1 : Hid _ := hw1
 have HS1 : Hid _ := hs1
 have HBo : Hid (BoSl w1 aA n cA bs) := hB.up hb1
 have HN : Hid (NdSl w1 aN nN cN N) := hN.up hb1
 have HG : Hid (ZSl w1 aG nG cG gs) := hG.up hb1
 obtain ⟨c0,c1,c2,c3⟩ := HV1.out
 clear hw1 hb1 hs1 hB hN hG hok
 go_enter Try.func33,Try.ntmps33
 go_wp2_with (rw [← HW1.out])
 refine j1.mono ?_
 rintro e w2 ⟨hb2,v,rfl,⟨rfl,hM⟩ | ⟨rfl,hM⟩⟩
 ·have h256 := hM.s2
  have h1n := hM.s1
  have hk256 := hM.k256
  obtain rfl : nG = n := by have h1 := HG.out.hlen; have h2 := hM.len; omega
  have hN4 : nN ≤ 4096 := by have h1 := HN.out.hlen; have h2 := hM.few; omega
  have HR : Hid (RowsP nG (2 ^ p.toNat) (rwA p N gs)) := hM.rows (2 ^ p.toNat)
  have HM : Hid (MayG p nG N gs) := hM
  have HB2 : Hid (Below w1.heap.size w1 w2) := hb2
  have j2 := q3l p aA nG cA aG cG aN nN cN N gs w2 hM (HN.out.up hb2) (HG.out.up hb2)
  clear c0 c1 c2 c3 j1 hb2 hM
  obtain ⟨c0,c1,c2,c3⟩ := HV1.out.up HB2.out
  go_wp2_with fail
  refine j2.mono ?_
  rintro e w3 ⟨hb3,gf,vs,F,rfl,hgf,hF,hI⟩
  have HB3 : Hid (Below w1.heap.size w1 w3) := q5 HB2.out hb3
  have HF : Hid (FbM w3 gf vs F) := hF
  have HI : Hid _ := hI
  have j3 := q1a gf vs F aA nG cA (2 ^ p.toNat) bs (rwA p N gs) true w3 hF hI (HBo.out.up HB3.out) HR.out hk256 (by omega) h256
  clear c0 c1 c2 c3 j2 hb3 hF hI hgf HB2
  obtain ⟨c0,c1,c2,c3⟩ := HV1.out.up HB3.out
  go_wp2_with fail
  refine j3.mono ?_
  rintro e w4 ⟨hb4,gO,ac,rfl,hgO,hrO,hsO⟩
  have HB4 : Hid (Below w1.heap.size w1 w4) := q5 HB3.out hb4
  have HRO : Hid (RowI w4 3 gO ac) := hrO
  have HSO : Hid _ := hsO
  have HGO : Hid (w1.heap.size ≤ gO) := Nat.le_trans HB3.out.size hgO
  have j4 := q1a gf vs F aA nG cA (2 ^ p.toNat) bs (rwA p N gs) false w4 (HF.out.up hb4) HI.out (HBo.out.up HB4.out) HR.out hk256 (by omega) h256
  clear c0 c1 c2 c3 j3 hb4 hrO hsO hgO HB3 HF HI
  obtain ⟨c0,c1,c2,c3⟩ := HV1.out.up HB4.out
  go_wp2_with fail
  refine j4.mono ?_
  rintro e w5 ⟨hb5,gF,fa,rfl,hgF,hrF,hsF⟩
  have HB5 : Hid (Below w1.heap.size w1 w5) := q5 HB4.out hb5
  have HRO5 : Hid (RowI w5 3 gO ac) := HRO.out.up hb5
  have HRF : Hid (RowI w5 3 gF fa) := hrF
  have HSF : Hid _ := hsF
  clear c0 c1 c2 c3 j4 hb5 hrF hsF hgF HB4 HRO
  obtain ⟨c0,c1,c2,c3⟩ := HV1.out.up HB5.out
  have hmk := fun w => q4F nG (by omega) w
  obtain ⟨w6,hw6⟩ : ∃ w6,w6 = w5.alloc (.cells (vdV (List.replicate nG 0)).toArray 59) := ⟨_,rfl⟩
  have HB6 : Hid (Below w5.heap.size w5 w6) := by show Below _ _ _; rw [hw6]; exact q6 _ _
  have HT6 : Hid (w6.ownsRow w5.heap.size 59 1 (.slice (some ⟨w5.heap.size,0,none⟩) nG nG) nG (vdV (toK ac fa nG 0))) := by
   have h1 : (vdV (List.replicate nG 0)).length = nG := by simp [vdV]
   refine ⟨by rw [q46,h1,Nat.mul_one],.inr ⟨w5.heap.size,nG,_,rfl,Nat.le_refl _,by rw [hw6]; exact (MapKept.heap_alloc w5 _).1,Nat.le_refl _,by unfold maxLen; omega,by simp [vdV],?_⟩⟩
   rw [q46,Nat.mul_one,List.take_of_length_le (by simp [vdV])]
  have HW6 : Hid _ := hw6
  have hal : HSO.out.1 = HSO.out.1 := rfl
  have HLA : Hid (ac.length = nG) := HSO.out.1
  have HLF : Hid (fa.length = nG) := HSF.out.1
  clear hw6 hal
  generalize (vdV (List.replicate nG 0)).toArray = C at *
  go_wp2_with (rw [← HW6.out])
  clear hmk HW6 c0 c1 c2 c3
  generalize hgT : w5.heap.size = gT at *
  have HGT : Hid _ := hgT
  clear hgT
  go_loopw [32] (fun i wr => ∃ k : Nat,k ≤ nG ∧ i = .int .i64 (k : Int) ∧ Hid (wr.ownsRow gT 59 1 (.slice (some ⟨gT,0,none⟩) nG nG) nG (vdV (toK ac fa nG k))) ∧ Hid (Below gT w5 wr)) (fun i _ => nG - (intOf i).toNat)
  case atStart => exact ⟨0,Nat.zero_le _,rfl,HT6,HB6⟩
  case round =>
   clear HT6 HB6
   obtain ⟨k,hk,rfl,HT,HBw⟩ := hrel
   have hbw : Below w5.heap.size w5 wr := by rw [HGT.out]; exact HBw.out
   by_cases hlt : k < nG
   ·have cO := (HRO5.out.up hbw).cell (i := k) (by rw [HLA.out]; exact hlt)
    have cF := (HRF.out.up hbw).cell (i := k) (by rw [HLF.out]; exact hlt)
    have iO := fun w' => q10 gO nG k hlt w'
    have iF := fun w' => q10 gF nG k hlt w'
    have iT : ∀ w',(Instr.indexAt 51 (.slice (some ⟨gT,0,none⟩) nG nG) (.int .i64 (k : Int))).run Try.prog w' = .ok (.pointer (some ⟨gT,k,none⟩)) w' := fun w' => by
     have := qi (P := Try.prog) (T := 51) Try.underlying51 qP (a := some ⟨gT,0,none⟩) (cap := nG) (n := nG) (fun e => by cases e) k w' hlt
     simpa [adOf,q8] using this
    have jv := fun w' => q26 (ac.getD k 0) (fa.getD k 0) w'
    obtain ⟨gx,cx,ex,hgx,_,hcx,hfx,hox⟩ := q42 HT.out hlt (.int .u8 (verW (ac.getD k 0) (fa.getD k 0) : Int))
    obtain rfl : gT = gx := by
     injection ex with ex1 _ _
     injection ex1 with ex1
     injection ex1
    have hcx2 : wr.cell? ⟨gT,k,none⟩ = some (.int .u8 (((toK ac fa nG k).getD k 0 : Nat) : Int)) := by
     rw [hcx,vdV,List.getElem?_map,List.getElem?_map,List.getElem?_eq_getElem (by rw [q1X]; exact hlt),List.getD_eq_getElem?_getD,List.getElem?_eq_getElem (by rw [q1X]; exact hlt)]
     rfl
    have HT7 : Hid ((wr.setCell ⟨gT,k,none⟩ (.int .u8 (verW (ac.getD k 0) (fa.getD k 0) : Int))).ownsRow gT 59 1 (.slice (some ⟨gT,0,none⟩) nG nG) nG (vdV (toK ac fa nG (k + 1)))) := by
     rw [← q5P ac fa hlt,vdV,List.map_set,List.map_set]
     exact hox
    have HB7 : Hid (Below gT w5 (wr.setCell ⟨gT,k,none⟩ (.int .u8 (verW (ac.getD k 0) (fa.getD k 0) : Int)))) := HBw.out.setCell (by dsimp only; exact Nat.le_refl _) _
    generalize verW (ac.getD k 0) (fa.getD k 0) = vv at *
    generalize ac.getD k 0 = av at *
    generalize fa.getD k 0 = fv at *
    clear HT HBw hbw hox hcx
    go_upto_region 1 with fail
    go_region_with (first
     | (go_at_call 55; (with_reducible refine (jv _).mono ?_); rintro e w' ⟨rfl,hw'⟩; obtain rfl := hw'.symm)
     | fail)
    all_goals
     clear jv iO iF iT cO cF hcx2
     go_wp2
     go_roundw
     case rel => exact ⟨k + 1,by omega,by go_num,HT7.out,by repeat (first | exact HB7.out | apply Below.drew)⟩
     case measure => simp [intOf]; omega
   ·obtain rfl : k = nG := by omega
    have hbw : Below w5.heap.size w5 wr := by rw [HGT.out]; exact HBw.out
    have HBr : Hid (Below w1.heap.size w1 wr) := q5 HB5.out hbw
    have HOr : Hid (RowI wr 3 gO ac) := HRO5.out.up hbw
    have HTr : Hid _ := HT.out
    obtain ⟨c0,c1,c2,c3⟩ := HV1.out.up HBr.out
    have HJ5 : Hid (∀ wx,Below w1.heap.size w1 wx → Calls Try.prog 40 #[.slice aG k cG] wx fun e w' => ∃ a' c',e = .returned (.slice a' k c') ∧ Hid (w'.ownsRow w1.heap.size 3 1 (.slice a' k c') k (gs.map (Value.int .i64))) ∧ Hid (Below wx.heap.size wx w') ∧ Hid (Below w1.heap.size w1 w') ∧ w'.cell? ⟨w.heap.size,0,none⟩ = some (.int .i64 p) ∧ w'.cell? ⟨w.heap.size,2,none⟩ = some (.slice aG k cG) ∧ w'.cell? ⟨w.heap.size,3,none⟩ = some (.slice aN nN cN)) := fun wx hb => (q3x aG k cG gs wx (HG.out.up hb) (by omega)).mono fun e w' ⟨h1,a',c',h2,h3⟩ => by
     have hv := HV1.out.up (q5 hb h1)
     exact ⟨a',c',h2,qj h3 hb.size,h1,q5 hb h1,hv.c0,hv.c2,hv.c3⟩
    have HJ6 : Hid (∀ wx,Below w1.heap.size w1 wx → Calls Try.prog 56 #[.slice aN nN cN] wx fun e w' => ∃ a' c',e = .returned (.slice a' nN c') ∧ Hid (w'.ownsRow w1.heap.size 77 3 (.slice a' nN c') nN (encGd N)) ∧ Hid (Below wx.heap.size wx w') ∧ Hid (Below w1.heap.size w1 w') ∧ w'.cell? ⟨w.heap.size,0,none⟩ = some (.int .i64 p) ∧
      (w'.cell? ⟨w.heap.size + 1,0,none⟩ = some (.int .i64 0) ∧ w'.cell? ⟨w.heap.size + 1,1,none⟩ = some (.slice none 0 0) ∧ w'.cell? ⟨w.heap.size + 1,2,none⟩ = some (.slice none 0 0) ∧ w'.cell? ⟨w.heap.size + 1,3,none⟩ = some (.slice none 0 0) ∧ w'.cell? ⟨w.heap.size + 1,4,none⟩ = some (.slice none 0 0)) ∧
      (w'.frozen? ⟨w.heap.size + 1,0,none⟩ = false ∧ w'.frozen? ⟨w.heap.size + 1,1,none⟩ = false ∧ w'.frozen? ⟨w.heap.size + 1,2,none⟩ = false ∧ w'.frozen? ⟨w.heap.size + 1,3,none⟩ = false ∧ w'.frozen? ⟨w.heap.size + 1,4,none⟩ = false)) := fun wx hb => (q3w aN nN cN N wx (HN.out.up hb) (by omega)).mono fun e w' ⟨h1,a',c',h2,h3⟩ => by
     have hb' := q5 hb h1
     have hv := HV1.out.up hb'
     have hk2 : w'.heap[w.heap.size + 1]? = some kn0 := (hb'.block _ (Array.getElem?_eq_some_iff.1 HK1.out).1).trans HK1.out
     exact ⟨a',c',h2,qj h3 hb.size,h1,hb',hv.c0,⟨q7 hk2 0,q7 hk2 1,q7 hk2 2,q7 hk2 3,q7 hk2 4⟩,frozen_of_row w' _ 0 _ _ hk2,frozen_of_row w' _ 1 _ _ hk2,frozen_of_row w' _ 2 _ _ hk2,frozen_of_row w' _ 3 _ _ hk2,frozen_of_row w' _ 4 _ _ hk2⟩
    have HFIN : Hid (∀ wB aG' cG' aN' cN',Below w1.heap.size w1 wB → wB.ownsRow w1.heap.size 3 1 (.slice aG' k cG') k (gs.map (Value.int .i64)) → wB.ownsRow w1.heap.size 77 3 (.slice aN' nN cN') nN (encGd N) → (∀ b,w1.heap.size ≤ b → b < wr.heap.size → wB.heap[b]? = wr.heap[b]?) →
      ∃ WF,WF = ((((wB.setCell ⟨w.heap.size + 1,0,none⟩ (.int .i64 p)).setCell ⟨w.heap.size + 1,1,none⟩ (.slice aG' k cG')).setCell ⟨w.heap.size + 1,2,none⟩ (.slice aN' nN cN')).setCell ⟨w.heap.size + 1,3,none⟩ (.slice (some ⟨gT,0,none⟩) k k)).setCell ⟨w.heap.size + 1,4,none⟩ (.slice (some ⟨gO,0,none⟩) k k) ∧
       WF.heap[w.heap.size + 1]? = some (.cells #[.int .i64 p,.slice aG' k cG',.slice aN' nN cN',.slice (some ⟨gT,0,none⟩) k k,.slice (some ⟨gO,0,none⟩) k k] 63 (0,0)) ∧
       Z (.returned (.tuple #[.agg #[.int .i64 p,.slice aG' k cG',.slice aN' nN cN',.slice (some ⟨gT,0,none⟩) k k,.slice (some ⟨gO,0,none⟩) k k],.int .i64 0])) WF) := fun wB aG' cG' aN' cN' hb h1 h2 hkp => by
     have hk2 : wB.heap[w.heap.size + 1]? = some kn0 := (hb.block _ (Array.getElem?_eq_some_iff.1 HK1.out).1).trans HK1.out
     have hs1 := HS1.out
     have hlN := HN.out.hlen
     have hgo := HGO.out
     have hgt : w1.heap.size ≤ gT := by rw [← HGT.out]; exact HB5.out.size
     have h3 : wB.ownsRow w1.heap.size 59 1 (.slice (some ⟨gT,0,none⟩) k k) k (vdV (toK ac fa k k)) := qj (qh HTr.out (fun q hq => hkp q (by have := (World.ownsRow.lt HTr.out q hq).1; omega) (World.ownsRow.lt HTr.out q hq).2)) hgt
     have h4 : wB.ownsRow w1.heap.size 3 1 (.slice (some ⟨gO,0,none⟩) k k) k (ac.map (Value.int .i64)) := RowI.owns (show RowI wB 3 gO ac from (hkp gO hgo HOr.out.lt).trans HOr.out) hgo HLA.out (by unfold maxLen; omega)
     have hset : ∀ {T sz m : Nat} {v : Value} {xs : List Value},wB.ownsRow w1.heap.size T sz v m xs → (set5 wB (w.heap.size + 1) (.int .i64 p) (.slice aG' k cG') (.slice aN' nN cN') (.slice (some ⟨gT,0,none⟩) k k) (.slice (some ⟨gO,0,none⟩) k k)).ownsRow w1.heap.size T sz v m xs := fun h => qh h fun q hq => q5v (by have := (h.lt q hq).1; omega)
     refine ⟨_,rfl,q44 hk2,HZ.out _ _ ⟨q2m (q5 HB1.out hb) (by omega),.inr ⟨HM.out,aG',cG',aN',cN',some ⟨gT,0,none⟩,k,some ⟨gO,0,none⟩,k,by dsimp only; rw [hlN],?_⟩⟩⟩
     dsimp only
     refine KnW.base ⟨hset h1,?_,⟨_,hset h3,q5O HSO.out HSF.out⟩,⟨ac,hset h4,HSO.out⟩,HN.out.ok⟩ HB1.out.size
     dsimp only
     rw [hlN]; exact hset h2
    clear hbw HT HBw HRO5 HRF HZ HSO HSF HGO HGT HB5 HOr HTr HLA HLF HM HR HG HN HBo HV1 HK1 HS1 HB1 HW1 c1 hk hlt
    go_upto_region 1 with fail
    go_region_with (first
     | (go_at_call 40; (with_reducible refine (HJ5.out _ (by repeat (first | exact HBr.out | apply Below.drew))).mono ?_); rintro e wA ⟨aG',cG',rfl,HoA,HbA,HBA,a0,a2,a3⟩)
     | (go_at_call 56; (with_reducible refine (HJ6.out _ (by repeat (first | exact HBA.out | apply Below.drew))).mono ?_); rintro e wB ⟨aN',cN',rfl,HoB,HbB,HBB,b0,⟨k0,k1,k2,k3,k4⟩,f0,f1,f2,f3,f4⟩)
     | fail)
    all_goals
     obtain ⟨WF,hWF,hblk,hE⟩ := HFIN.out wB aG' cG' aN' cN' HBB.out (qg (by exact HoA.out) HbB.out) HoB.out (fun b _ hb => Eq.trans (HbB.out.block b (Nat.lt_of_lt_of_le hb HbA.out.size)) (HbA.out.block b hb))
     have HWF : Hid _ := hWF
     have HE : Hid _ := hE
     have z0 := q7 hblk 0
     have z1 := q7 hblk 1
     have z2 := q7 hblk 2
     have z3 := q7 hblk 3
     have z4 := q7 hblk 4
     clear hWF hE hblk HFIN HoA HoB HbA HbB HBA HBB a0 a2 a3 b0 k0 k1 k2 k3 k4 f0 f1 f2 f3 f4 HJ5 HJ6 c0 c2 c3
     go_wp2
     rw [← HWF.out]
     refine bodyPost_ret (v := .tuple #[.agg #[.int .i64 p,.slice aG' k cG',.slice aN' nN cN',.slice (some ⟨gT,0,none⟩) k k,.slice (some ⟨gO,0,none⟩) k k],.int .i64 0]) (by simp [results,Try.results33,go_sem,z0,z1,z2,z3,z4]) rfl HE.out
 ·have HE : Hid (Z (.returned (.tuple #[.agg #[.int .i64 0,.slice none 0 0,.slice none 0 0,.slice none 0 0,.slice none 0 0],.int .i64 12])) (set5 w2 (w.heap.size + 1) (.int .i64 0) (.slice none 0 0) (.slice none 0 0) (.slice none 0 0) (.slice none 0 0))) := HZ.out _ _ ⟨q2m (q5 HB1.out hb2) (by omega),.inl ⟨hM,rfl⟩⟩
  have hk2 : w2.heap[w.heap.size + 1]? = some kn0 := (hb2.block _ (Array.getElem?_eq_some_iff.1 HK1.out).1).trans HK1.out
  have k0 := q7 hk2 0
  have k1 := q7 hk2 1
  have k2 := q7 hk2 2
  have k3 := q7 hk2 3
  have k4 := q7 hk2 4
  have f0 := frozen_of_row w2 _ 0 _ _ hk2
  have f1 := frozen_of_row w2 _ 1 _ _ hk2
  have f2 := frozen_of_row w2 _ 2 _ _ hk2
  have f3 := frozen_of_row w2 _ 3 _ _ hk2
  have f4 := frozen_of_row w2 _ 4 _ _ hk2
  have hk3 := q44 (v0 := .int .i64 0) (v1 := .slice none 0 0) (v2 := .slice none 0 0) (v3 := .slice none 0 0) (v4 := .slice none 0 0) hk2
  have z0 := q7 hk3 0
  have z1 := q7 hk3 1
  have z2 := q7 hk3 2
  have z3 := q7 hk3 3
  have z4 := q7 hk3 4
  unfold set5 at HE hk3 z0 z1 z2 z3 z4
  clear c0 c1 c2 c3 j1 hb2 hM HZ hk2 hk3
  go_wp2
  refine bodyPost_ret (v := .tuple #[.agg #[.int .i64 0,.slice none 0 0,.slice none 0 0,.slice none 0 0,.slice none 0 0],.int .i64 12]) (by simp [results,Try.results33,go_sem,z0,z1,z2,z3,z4]) rfl HE.out
end Go.Proofs.Ytjpggahiddhanaa
namespace Go.Proofs.Ytjpggahiddhanaa
open Go.RowKit Go.Maps Go.Sort
def NewW (A : AuP) (w : World) (e : Ending) (w' : World) : Prop :=
 Below w.heap.size w w' ∧ ((¬ MayG A.p A.nA A.N A.gs ∧ e = .returned (.tuple #[.pointer none,.int .i64 12])) ∨
  (MayG A.p A.nA A.N A.gs ∧ ∃ g V gS cS,e = .returned (.tuple #[.pointer (some ⟨g,0,none⟩),.int .i64 0]) ∧ WaO w' g A [] V gS cS ∧ ∀ k,moW g gS k ∨ V.bk A k → w.heap.size ≤ k))
theorem WaO.new {w w2 w5 : World} {A : AuP} {V : KV} (hM : MayG A.p A.nA A.N A.gs) (hK : KnW w2 w.heap.size A (V.vG A) (V.vN A) (V.vT A) (V.vO A)) (o : Obj)
  (hb : Below ((w2.alloc o).alloc (.cells #[.int .i64 0] 3)).heap.size ((w2.alloc o).alloc (.cells #[.int .i64 0] 3)) w5)
  (hg : w5.heap[((w2.alloc o).alloc (.cells #[.int .i64 0] 3)).heap.size + 1]? = some (.cells #[.int .i64 A.p,.slice V.aG A.nA V.cG,.slice V.aN A.N.length V.cN,.slice V.aT A.nA V.cT,.slice V.aO A.nA V.cO,.pointer (some ⟨((w2.alloc o).alloc (.cells #[.int .i64 0] 3)).heap.size + 1,0,none⟩),.slice (some ⟨w2.heap.size + 1,0,none⟩) 1 1] 65 (0,0))) :
  WaO w5 (((w2.alloc o).alloc (.cells #[.int .i64 0] 3)).heap.size + 1) A [] V (w2.heap.size + 1) 1 := by
 have hs : ((w2.alloc o).alloc (.cells #[.int .i64 0] 3)).heap.size = w2.heap.size + 2 := by simp
 have hs1 : (w2.alloc o).heap.size = w2.heap.size + 1 := by simp
 have hb2 : Below w2.heap.size w2 w5 := q5 (q5 (q6 w2 o) (q6 _ _)) hb
 have hK5 : KnV w5 0 A V := KnW.base (KnW.far hK fun k hk => hb2.block k (KnW.lt hK k hk).2) (Nat.zero_le _)
 have hblk : w5.heap[w2.heap.size + 1]? = some (.cells #[.int .i64 0] 3 (0,0)) := by
  have := (MapKept.heap_alloc (w2.alloc o) (.cells #[.int .i64 0] 3)).1
  rw [hs1] at this
  rw [hb.block _ (by omega)]
  exact this
 refine ⟨hg,hK5,⟨rfl,.inr ⟨w2.heap.size + 1,1,_,rfl,Nat.zero_le _,hblk,Nat.le_refl _,by unfold maxLen; omega,rfl,?_⟩⟩,?_,?_,by omega,(fun x hx => by cases hx),Nat.zero_le _,hM⟩
 ·show [Value.int .i64 0].take 1 = inV (stW A [])
  rfl
 ·intro hk
  have := (KnW.lt hK _ hk).2; omega
 ·intro hk
  have := (KnW.lt hK _ hk).2; omega
theorem q3K (A : AuP) (aA : Option Addr) (cA : Nat) (aG : Option Addr) (nG cG : Nat) (aN : Option Addr) (nN cN : Nat) (w : World) (hB : BoSl w aA A.nA cA A.bs) (hN : NdSl w aN nN cN A.N) (hG : ZSl w aG nG cG A.gs) (hok : ∀ z ∈ A.gs,I64 z) :
  Calls Try.prog 11 #[.agg #[.int .i64 A.p,.slice aA A.nA cA,.slice aG nG cG,.slice aN nN cN]] w (NewW A w) := by
 obtain ⟨Z,eZ⟩ : ∃ Z,Z = NewW A w := ⟨_,rfl⟩
 have HZ : Hid (∀ e w',NewW A w e w' → Z e w') := fun e w' h => by rw [eZ]; exact h
 rw [← eZ]
 clear eZ
 obtain ⟨w1,hw1⟩ : ∃ w1,w1 = w.alloc (.cells #[.int .i64 A.p,.slice aA A.nA cA,.slice aG nG cG,.slice aN nN cN] 26 (0,0)) := ⟨_,rfl⟩
 have hb1 : Below w.heap.size w w1 := by rw [hw1]; exact q6 _ _
 have HB1 : Hid (Below w.heap.size w w1) := hb1
 have HV1 : Hid (AuB w1 w.heap.size A.p aA A.nA cA aG nG cG aN nN cN) := by show AuB _ _ _ _ _ _ _ _ _ _ _ _; rw [hw1]; exact qb _ _ _ _ _ _ _ _ _ _ _
 have j1 := q11 A aA cA aG nG cG aN nN cN w1 (hB.up hb1) (hN.up hb1) (hG.up hb1) hok
 have HW1 : Hid _ := hw1
 obtain ⟨c0,c1,c2,c3⟩ := HV1.out
 clear hw1 hb1 hB hN hG hok HV1
 go_enter Try.func11,Try.ntmps11
 go_wp2_with (first | rw [← HW1.out] | (go_at_call 33; refine j1.mono ?_))
 rintro e w2 ⟨hb2,⟨hM,rfl⟩ | ⟨hM,xG,kG,xN,kN,xT,kT,xO,kO,rfl,hK⟩⟩
 ·have HE : Hid (∀ w',Below w2.heap.size w2 w' → Z (.returned (.tuple #[.pointer none,.int .i64 12])) w') := fun w' hb => HZ.out _ _ ⟨q5 (q5 HB1.out hb2) hb,.inl ⟨hM,rfl⟩⟩
  clear HZ j1 c0 c1 c2 c3 hb2 hM HB1 HW1
  go_wp2
  exact HE.out _ (q6 _ _)
 ·obtain ⟨V,rfl,rfl,rfl,rfl,rfl,rfl,rfl,rfl⟩ : ∃ V : KV,V.aG = xG ∧ V.cG = kG ∧ V.aN = xN ∧ V.cN = kN ∧ V.aT = xT ∧ V.cT = kT ∧ V.aO = xO ∧ V.cO = kO := ⟨⟨xG,kG,xN,kN,xT,kT,xO,kO⟩,rfl,rfl,rfl,rfl,rfl,rfl,rfl,rfl⟩
  obtain ⟨w3,hw3⟩ : ∃ w3,w3 = (w2.alloc (.cells #[.int .i64 A.p,.slice V.aG A.nA V.cG,.slice V.aN A.N.length V.cN,.slice V.aT A.nA V.cT,.slice V.aO A.nA V.cO] 63 (0,0))).alloc (.cells #[.int .i64 0] 3) := ⟨_,rfl⟩
  have HB2 : Hid (Below w.heap.size w w2) := q5 HB1.out hb2
  have hs2 : w.heap.size ≤ w2.heap.size := HB2.out.size
  have HE : Hid (∀ w' ,Below w3.heap.size w3 w' → w'.heap[w3.heap.size + 1]? = some (.cells #[.int .i64 A.p,.slice V.aG A.nA V.cG,.slice V.aN A.N.length V.cN,.slice V.aT A.nA V.cT,.slice V.aO A.nA V.cO,.pointer (some ⟨w3.heap.size + 1,0,none⟩),.slice (some ⟨w2.heap.size + 1,0,none⟩) 1 1] 65 (0,0)) → Z (.returned (.tuple #[.pointer (some ⟨w3.heap.size + 1,0,none⟩),.int .i64 0])) w') := fun w' hb hg => by
   have h23 : Below w2.heap.size w2 w3 := by rw [hw3]; exact q5 (q6 w2 _) (q6 _ _)
   refine HZ.out _ _ ⟨q5 HB2.out (q5 h23 hb),.inr ⟨hM,w3.heap.size + 1,V,w2.heap.size + 1,1,rfl,?_,?_⟩⟩
   ·rw [hw3] at hb hg ⊢
    exact WaO.new hM (KnW.base hK (Nat.le_refl _)) _ hb hg
   ·have hs3 := h23.size
    rintro k ((hk | hk) | hk)
    ·omega
    ·omega
    ·have h1 := (KnW.lt hK k hk).1
     have h2 := HB1.out.size
     omega
  have jS := q3k A V (w2.heap.size + 1) 1 1 w3
  dsimp only [KV.val] at jS
  have HW3 : Hid _ := hw3
  clear HZ j1 c0 c1 c2 c3 hb2 hM hK HB1 HW1 hw3 HB2 hs2
  go_wp2_with (first | rw [← HW3.out] | (go_at_call 34; refine jS.mono ?_; rintro e w5 ⟨rfl,h5,h6⟩; have HX : Hid _ := HE.out w5 h5.out h6.out))
  exact HX.out
def NonW (w : World) (p : Option Addr) : Prop := p = none ∨ ∃ g,p = some ⟨g,0,none⟩ ∧ w.cell? ⟨g,5,none⟩ = some (.pointer none)
theorem qr {w : World} {p : Option Addr} (h : NonW w p) : Calls Try.prog 39 #[.pointer p] w fun e w' => e = .returned (.bool false) ∧ w' = w := by
 rcases h with rfl | ⟨g,rfl,hc⟩
 ·exact q2K w
 ·exact q2L hc
theorem q3N {w : World} {p : Option Addr} (h : NonW w p) (l : Nat) : Calls Try.prog 24 #[.pointer p,.int .u8 (l : Int)] w fun e w' => e = .returned (.tuple #[.int .u8 0,.int .i64 1]) ∧ w' = w := by
 have hm := qr h
 clear h
 go_enter Try.func24,Try.ntmps24
 go_wp2_with (go_at_call 39; refine hm.mono ?_; rintro e w' ⟨rfl,hw1⟩; obtain rfl := hw1.symm)
 go_ret2
 exact ⟨rfl,rfl⟩
theorem q3M {w : World} {p : Option Addr} (h : NonW w p) : Calls Try.prog 25 #[.pointer p] w fun e w' => e = .returned (.tuple #[.int .u8 0,.int .i64 1]) ∧ w' = w := by
 have hm := qr h
 clear h
 go_enter Try.func25,Try.ntmps25
 go_wp2_with (go_at_call 39; refine hm.mono ?_; rintro e w' ⟨rfl,hw1⟩; obtain rfl := hw1.symm)
 go_ret2
 exact ⟨rfl,rfl⟩
theorem q4k {w : World} {p : Option Addr} (h : NonW w p) : Calls Try.prog 26 #[.pointer p] w fun e w' => e = .returned (.tuple #[.int .i64 0,.int .i64 1]) ∧ w' = w := by
 have hm := qr h
 clear h
 go_enter Try.func26,Try.ntmps26
 go_wp2_with (go_at_call 39; refine hm.mono ?_; rintro e w' ⟨rfl,hw1⟩; obtain rfl := hw1.symm)
 go_ret2
 exact ⟨rfl,rfl⟩
theorem q2h {w : World} {p : Option Addr} (h : NonW w p) : Calls Try.prog 27 #[.pointer p] w fun e w' => e = .returned (.int .u8 0) ∧ w' = w := by
 have hm := qr h
 clear h
 go_enter Try.func27,Try.ntmps27
 go_wp2_with (go_at_call 39; refine hm.mono ?_; rintro e w' ⟨rfl,hw1⟩; obtain rfl := hw1.symm)
 go_ret
 exact ⟨rfl,rfl⟩
theorem q3n {w : World} {p : Option Addr} (h : NonW w p) : Calls Try.prog 28 #[.pointer p] w fun e w' => e = .returned (.int .i64 0) ∧ w' = w := by
 have hm := qr h
 clear h
 go_enter Try.func28,Try.ntmps28
 go_wp2_with (go_at_call 39; refine hm.mono ?_; rintro e w' ⟨rfl,hw1⟩; obtain rfl := hw1.symm)
 go_ret
 exact ⟨rfl,rfl⟩
theorem q4j {w : World} {p : Option Addr} (h : NonW w p) : Calls Try.prog 29 #[.pointer p] w fun e w' => e = .returned (.int .i64 0) ∧ w' = w := by
 have hm := qr h
 clear h
 go_enter Try.func29,Try.ntmps29
 go_wp2_with (go_at_call 39; refine hm.mono ?_; rintro e w' ⟨rfl,hw1⟩; obtain rfl := hw1.symm)
 go_ret
 exact ⟨rfl,rfl⟩
theorem q3O {w : World} {p : Option Addr} (h : NonW w p) : Calls Try.prog 15 #[.pointer p] w fun e w' => e = .returned (.pointer none) ∧ w' = w := by
 have hm := qr h
 clear h
 go_enter Try.func15,Try.ntmps15
 go_wp2_with (go_at_call 39; refine hm.mono ?_; rintro e w' ⟨rfl,hw1⟩; obtain rfl := hw1.symm)
 go_ret
 exact ⟨rfl,rfl⟩
theorem q3r (A : AuP) (aA : Option Addr) (cA : Nat) (aG : Option Addr) (nG cG : Nat) (aN : Option Addr) (nN cN : Nat) (w : World) (hB : BoSl w aA A.nA cA A.bs) (hN : NdSl w aN nN cN A.N) (hG : ZSl w aG nG cG A.gs) (hok : ∀ z ∈ A.gs,I64 z) :
  Calls Try.prog 20 #[.agg #[.int .i64 A.p,.slice aA A.nA cA,.slice aG nG cG,.slice aN nN cN]] w (RtoR A.p A.nA A.bs A.N A.gs w) := by
 obtain ⟨Z,eZ⟩ : ∃ Z,Z = RtoR A.p A.nA A.bs A.N A.gs w := ⟨_,rfl⟩
 have HZ : Hid (∀ e w',RtoR A.p A.nA A.bs A.N A.gs w e w' → Z e w') := fun e w' h => by rw [eZ]; exact h
 rw [← eZ]
 clear eZ
 obtain ⟨w1,hw1⟩ : ∃ w1,w1 = w.alloc (.cells #[.int .i64 A.p,.slice aA A.nA cA,.slice aG nG cG,.slice aN nN cN] 26 (0,0)) := ⟨_,rfl⟩
 have hb1 : Below w.heap.size w w1 := by rw [hw1]; exact q6 _ _
 have HB1 : Hid (Below w.heap.size w w1) := hb1
 have HV1 : Hid (AuB w1 w.heap.size A.p aA A.nA cA aG nG cG aN nN cN) := by show AuB _ _ _ _ _ _ _ _ _ _ _ _; rw [hw1]; exact qb _ _ _ _ _ _ _ _ _ _ _
 have j1 := q11 A aA cA aG nG cG aN nN cN w1 (hB.up hb1) (hN.up hb1) (hG.up hb1) hok
 have HW1 : Hid _ := hw1
 obtain ⟨c0,c1,c2,c3⟩ := HV1.out
 clear hw1 hb1 hB hN hG hok HV1
 go_enter Try.func20,Try.ntmps20
 go_wp2_with (first | rw [← HW1.out] | (go_at_call 33; refine j1.mono ?_))
 rintro e w2 ⟨hb2,⟨hM,rfl⟩ | ⟨hM,xG,kG,xN,kN,xT,kT,xO,kO,rfl,hK⟩⟩
 ·have HE : Hid (∀ w',Below w2.heap.size w2 w' → Z (.returned (.tuple #[.slice none 0 0,.int .i64 12])) w') := fun w' hb => HZ.out _ _ ⟨q5 (q5 HB1.out hb2) hb,.inl ⟨hM,rfl⟩⟩
  clear HZ j1 c0 c1 c2 c3 hb2 hM HB1 HW1
  go_wp2
  exact HE.out _ (q6 _ _)
 ·have HE : Hid (∀ w',Below w2.heap.size w2 w' → Z (.returned (.tuple #[.slice xT A.nA kT,.int .i64 0])) w') := fun w' hb => by
   have hwb := q5 HB1.out hb2
   obtain ⟨us,h3,h4⟩ := hK.td
   exact HZ.out _ _ ⟨q5 hwb hb,.inr ⟨hM,us,xT,kT,rfl,h4,qj (qg h3 hb) HB1.out.size⟩⟩
  clear HZ j1 c0 c1 c2 c3 hb2 hM HB1 HW1 hK
  generalize A.N.length = nN2 at *
  go_wp2
  exact HE.out _ (q6 _ _)
theorem q2f : ToldCW := fun p aA nA cA aG nG cG aN nN cN bs N gs w hB hN hG hok _ _ => q3r ⟨p,nA,bs,N,gs⟩ aA cA aG nG cG aN nN cN w hB hN hG hok
theorem q3J (A : AuP) (aA : Option Addr) (cA : Nat) (aG : Option Addr) (nG cG : Nat) (aN : Option Addr) (nN cN : Nat) (d : Option Addr) (m c : Nat) (ts : List Nat) (w : World) (hB : BoSl w aA A.nA cA A.bs) (hN : NdSl w aN nN cN A.N) (hG : ZSl w aG nG cG A.gs) (hok : ∀ z ∈ A.gs,I64 z) (hL : LtC w d m c ts) :
  Calls Try.prog 18 #[.agg #[.int .i64 A.p,.slice aA A.nA cA,.slice aG nG cG,.slice aN nN cN],.slice d m c] w (RalR A.p A.nA A.bs A.N A.gs ts w) := by
 obtain ⟨Z,eZ⟩ : ∃ Z,Z = RalR A.p A.nA A.bs A.N A.gs ts w := ⟨_,rfl⟩
 have HZ : Hid (∀ e w',RalR A.p A.nA A.bs A.N A.gs ts w e w' → Z e w') := fun e w' h => by rw [eZ]; exact h
 rw [← eZ]
 clear eZ
 obtain ⟨w1,hw1⟩ : ∃ w1,w1 = w.alloc (.cells #[.int .i64 A.p,.slice aA A.nA cA,.slice aG nG cG,.slice aN nN cN] 26 (0,0)) := ⟨_,rfl⟩
 have hb1 : Below w.heap.size w w1 := by rw [hw1]; exact q6 _ _
 have HB1 : Hid (Below w.heap.size w w1) := hb1
 have HV1 : Hid (AuB w1 w.heap.size A.p aA A.nA cA aG nG cG aN nN cN) := by show AuB _ _ _ _ _ _ _ _ _ _ _ _; rw [hw1]; exact qb _ _ _ _ _ _ _ _ _ _ _
 have j1 := q11 A aA cA aG nG cG aN nN cN w1 (hB.up hb1) (hN.up hb1) (hG.up hb1) hok
 have HW1 : Hid _ := hw1
 have HL : Hid (LtC w d m c ts) := hL
 have hlm : ts.length = m := by have := hL.hlen; rw [List.length_map] at this; exact this
 obtain ⟨c0,c1,c2,c3⟩ := HV1.out
 clear hw1 hb1 hB hN hG hok HV1 hL
 go_enter Try.func18,Try.ntmps18
 go_wp2_with (first | rw [← HW1.out] | (go_at_call 33; refine j1.mono ?_))
 rintro e w2 ⟨hb2,⟨hM,rfl⟩ | ⟨hM,xG,kG,xN,kN,xT,kT,xO,kO,rfl,hK⟩⟩
 ·have HE : Hid (∀ w',Below w2.heap.size w2 w' → Z (.returned (.tuple #[.slice none 0 0,.int .i64 12])) w') := fun w' hb => HZ.out _ _ ⟨q5 (q5 HB1.out hb2) hb,.inl ⟨hM,rfl⟩⟩
  clear HZ j1 c0 c1 c2 c3 hb2 hM HB1 HW1
  go_wp2
  exact HE.out _ (q6 _ _)
 obtain ⟨V,rfl,rfl,rfl,rfl,rfl,rfl,rfl,rfl⟩ : ∃ V : KV,V.aG = xG ∧ V.cG = kG ∧ V.aN = xN ∧ V.cN = kN ∧ V.aT = xT ∧ V.cT = kT ∧ V.aO = xO ∧ V.cO = kO := ⟨⟨xG,kG,xN,kN,xT,kT,xO,kO⟩,rfl,rfl,rfl,rfl,rfl,rfl,rfl,rfl⟩
 obtain ⟨w3,hw3⟩ : ∃ w3,w3 = w2.alloc (.cells #[.int .i64 A.p,.slice V.aG A.nA V.cG,.slice V.aN A.N.length V.cN,.slice V.aT A.nA V.cT,.slice V.aO A.nA V.cO] 63 (0,0)) := ⟨_,rfl⟩
 have h23 : Below w2.heap.size w2 w3 := by rw [hw3]; exact q6 _ _
 have HB3 : Hid (Below w.heap.size w w3) := q5 (q5 HB1.out hb2) h23
 have HK3 : Hid (KnV w3 w.heap.size A V) := KnW.base (KnW.far hK fun k hk => h23.block k (KnW.lt hK k hk).2) HB1.out.size
 have hkb : w3.heap[w2.heap.size]? = some (.cells #[.int .i64 A.p,.slice V.aG A.nA V.cG,.slice V.aN A.N.length V.cN,.slice V.aT A.nA V.cT,.slice V.aO A.nA V.cO] 63 (0,0)) := by rw [hw3]; exact (MapKept.heap_alloc w2 _).1
 have HKB : Hid _ := hkb
 have HM : Hid (MayG A.p A.nA A.N A.gs) := hM
 have HS : Hid (w2.heap.size < w3.heap.size) := (Array.getElem?_eq_some_iff.1 hkb).1
 have hs1 := hM.s1
 have hs2 := hM.s2
 have jt := q13 A.p d m c (ts.map Int.ofNat) w3 (HL.out.up HB3.out)
 have k0 := q7 hkb 0
 have HW3 : Hid _ := hw3
 clear j1 c0 c1 c2 c3 hb2 hM hK HB1 HW1 hw3 h23 hkb
 by_cases hE : traceE A.p (ts.map Int.ofNat) = 0
 rotate_left
 ·have HE : Hid _ := HZ.out (.returned (.tuple #[.slice none 0 0,.int .i64 (traceE A.p (ts.map Int.ofNat))])) w3 ⟨HB3.out,.inr (.inl ⟨HM.out,hE,rfl⟩)⟩
  have e5 : (traceE A.p (ts.map Int.ofNat) != 0) = true := by simpa using hE
  clear HZ hE
  generalize traceE A.p (ts.map Int.ofNat) = tE at *
  go_wp2_with (first | rw [← HW3.out] | (go_at_call 46; (with_reducible refine jt.mono ?_); rintro e w' ⟨rfl,hw1⟩; obtain rfl := hw1.symm))
  exact HE.out
 have HT : Hid (∀ x ∈ ts,x < 2 ^ A.p.toNat) := q1T HM.out hE
 have HEQ : Hid _ := hE
 have hm1024 : m ≤ 1024 := by have := q2n hE; rw [List.length_map] at this; omega
 rw [hE] at jt
 obtain ⟨us,h3,h4⟩ := KnW.td HK3.out
 have HUS : Hid (TolL (2 ^ A.p.toNat) (rwA A.p A.N A.gs) A.bs A.nA us) := h4
 have hS3 := qv h3
 have HS3 : Hid (VdC w3 V.aT A.nA V.cT us) := hS3
 have hul : us.length = A.nA := h4.1
 have ix0 : ∀ w',(Instr.indexAt 51 (.slice V.aT A.nA V.cT) (.int .i64 0)).run Try.prog w' = .ok (.pointer (some (adOf V.aT 0))) w' := fun w' => hS3.idx A.nA 0 w' (by omega) (Nat.le_refl _)
 have ce0 := hS3.cell 0 (by omega)
 rw [qs (by omega)] at ce0
 obtain ⟨w4,hw4⟩ : ∃ w4,w4 = w3.alloc (.cells #[.int .u8 (us.getD 0 0 : Int)] 59) := ⟨_,rfl⟩
 have hb34 : Below w3.heap.size w3 w4 := by rw [hw4]; exact q6 _ _
 have HB4 : Hid (Below w3.heap.size w3 w4) := hb34
 have HO4 : Hid (w4.ownsRow w3.heap.size 59 1 (.slice (some ⟨w3.heap.size,0,none⟩) 1 1) 1 (vdV [us.getD 0 0])) := by
  show World.ownsRow _ _ _ _ _ _ _
  rw [hw4]
  exact ⟨rfl,.inr ⟨w3.heap.size,1,_,rfl,Nat.le_refl _,(MapKept.heap_alloc w3 _).1,Nat.le_refl _,by decide,rfl,rfl⟩⟩
 have HT4 : Hid (TolU (2 ^ A.p.toNat) (rwA A.p A.N A.gs) A.bs ts 0 [us.getD 0 0]) := TolU.start (h4.2 0 (by omega))
 have HW4 : Hid _ := hw4
 have k3 := q7 HKB.out 3
 clear hE h3 h4 hS3 hb34 hw4
 generalize us.getD 0 0 = v0 at *
 generalize adOf V.aT 0 = ad at *
 obtain ⟨ad1,ad2,ad3⟩ := ad
 go_wp2_with (first | rw [← HW4.out] | rw [← HW3.out] | (go_at_call 46; (with_reducible refine jt.mono ?_); rintro e w' ⟨rfl,hw1⟩; obtain rfl := hw1.symm))
 clear HW4 HW3 jt ix0 ce0 k0 k3
 go_loopw [9,10,36] (fun s v i wr => ∃ (k : Nat) (vs : List Nat),k ≤ m ∧ i = .int .i64 (k : Int) ∧ s = .int .i64 ((A.at (ts.take k) : Nat) : Int) ∧ Hid (TolU (2 ^ A.p.toNat) (rwA A.p A.N A.gs) A.bs ts k vs) ∧ Hid (wr.ownsRow w3.heap.size 59 1 v (k + 1) (vdV vs)) ∧ Hid (Below w3.heap.size w3 wr)) (fun _ _ i _ => m - (intOf i).toNat)
 case atStart => exact ⟨0,[v0],Nat.zero_le _,rfl,rfl,HT4,HO4,HB4⟩
 case round =>
  obtain ⟨k,vs,hk,rfl,rfl,HTU,HO,HB⟩ := hrel
  clear HT4 HO4 HB4
  obtain ⟨va,vc,rfl⟩ := qk HO.out
  by_cases hlt : k < m
  ·have e1 : decide ((k : Int) < (m : Int)) = true := decide_eq_true (by omega)
   have hLr := HL.out.up (q5 HB3.out HB.out)
   have hidx := fun w' => hLr.idx m k w' hlt (Nat.le_refl _)
   have hce := hLr.cell k hlt
   rw [qs (by omega)] at hce
   have hkt : k < ts.length := by omega
   have htk : ts.take (k + 1) = ts.take k ++ [ts.getD k 0] := q1S hkt
   have hlk : ∀ x ∈ ts.take k,x < A.K := fun x hx => HT.out x (List.mem_of_mem_take hx)
   have hlk1 : ∀ x ∈ ts.take (k + 1),x < A.K := fun x hx => HT.out x (List.mem_of_mem_take hx)
   have hq := AuP.at_lt HM.out hlk
   have hq1 := AuP.at_lt HM.out hlk1
   have hlK : ts.getD k 0 < A.K := by rw [qG hkt]; exact HT.out _ (List.getElem_mem hkt)
   have jN : Calls Try.prog 47 #[V.val A,.int .i64 ((A.at (ts.take k) : Nat) : Int),.int .u8 ((ts.getD k 0 : Nat) : Int)] wr fun e w' => e = .returned (.int .i64 ((A.at (ts.take (k + 1)) : Nat) : Int)) ∧ Below wr.heap.size wr w' := by
    rw [htk,A.at_snoc]
    exact q1D A V w.heap.size (A.at (ts.take k)) (ts.getD k 0) wr HM.out (KnV.up HK3.out HB.out) hq hlK
   obtain ⟨z0,z1,z2,z3,z4⟩ : wr.cell? ⟨w2.heap.size,0,none⟩ = some (.int .i64 A.p) ∧ wr.cell? ⟨w2.heap.size,1,none⟩ = some (.slice V.aG A.nA V.cG) ∧ wr.cell? ⟨w2.heap.size,2,none⟩ = some (.slice V.aN A.N.length V.cN) ∧ wr.cell? ⟨w2.heap.size,3,none⟩ = some (.slice V.aT A.nA V.cT) ∧ wr.cell? ⟨w2.heap.size,4,none⟩ = some (.slice V.aO A.nA V.cO) := by
    have hbr := (HB.out.block w2.heap.size HS.out).trans HKB.out
    exact ⟨q7 hbr 0,q7 hbr 1,q7 hbr 2,q7 hbr 3,q7 hbr 4⟩
   have HTN : Hid (TolU (2 ^ A.p.toNat) (rwA A.p A.N A.gs) A.bs ts (k + 1) (vs ++ [us.getD (A.at (ts.take (k + 1))) 0])) := HTU.out.next (HUS.out.2 _ hq1)
   have HQ1 : Hid _ := hq1
   dsimp only [KV.val] at jN
   clear hLr hkt htk hlk hlk1 hq hlK HTU
   generalize hqe : A.at (ts.take (k + 1)) = q1 at *
   have HQE : Hid _ := hqe
   clear hqe
   generalize A.at (ts.take k) = q0 at *
   generalize ts.getD k 0 = l at *
   generalize A.N.length = nN2 at *
   go_wp2_with fail
   refine jN.mono ?_
   rintro e w5 ⟨rfl,hb5⟩
   have HB5 : Hid (Below w3.heap.size w3 w5) := q5 HB.out hb5
   have hS5 := HS3.out.up HB5.out
   have ix5 := fun w' => hS5.idx A.nA q1 w' HQ1.out (Nat.le_refl _)
   have ce5 := hS5.cell q1 HQ1.out
   rw [qs (by rw [hul]; exact HQ1.out)] at ce5
   have y3 : w5.cell? ⟨w2.heap.size,3,none⟩ = some (.slice V.aT A.nA V.cT) := by
    have hbr := (HB5.out.block w2.heap.size HS.out).trans HKB.out
    exact q7 hbr 3
   generalize adOf V.aT q1 = ad at *
   obtain ⟨ad1,ad2,ad3⟩ := ad
   obtain ⟨v9,hv9⟩ : ∃ v9,v9 = us.getD q1 0 := ⟨_,rfl⟩
   rw [← hv9] at ce5 HTN
   have HO6 : Hid ((w5.alloc (.cells #[.int .u8 (v9 : Int)] 59)).ownsRow w3.heap.size 59 1 (.slice va (k + 1) vc) (k + 1) (vdV vs)) := World.ownsRow.alloc (qg HO.out hb5) _
   have hc6 : (w5.alloc (.cells #[.int .u8 (v9 : Int)] 59)).cell? ⟨w5.heap.size,0,none⟩ = some (.int .u8 (v9 : Int)) := q7 (MapKept.heap_alloc w5 _).1 0
   have HB6 : Hid (Below w3.heap.size w3 (w5.alloc (.cells #[.int .u8 (v9 : Int)] 59))) := q5 HB5.out (q6 _ _)
   have hb6 : w3.heap.size ≤ (w5.alloc (.cells #[.int .u8 (v9 : Int)] 59)).heap.size := HB6.out.size
   have hk26 : k + 1 + 1 ≤ 2000000 := by omega
   clear jN hb5 z0 z1 z2 z3 z4 HO HB hidx hce hS5 hv9 HB5
   go_wp2_with (at_builtin; refine q1u rfl _ _ rfl w3.heap.size (.slice va (k + 1) vc) (k + 1) vs rfl HO6.out w5.heap.size v9 rfl hc6 hk26 hb6 ?_)
   intro v7 w7 ho7 hg7
   have HO7 : Hid _ := ho7
   have HB7 : Hid (Below w3.heap.size w3 w7) := HB6.out.grown hg7 hb6 (fun q e => qy HO6.out q e)
   clear ho7 hg7 HO6 hc6 HB6 hb6 ix5 ce5 y3
   go_wp2
   go_roundw
   case rel => exact ⟨k + 1,vs ++ [v9],by omega,by go_num,by rw [HQE.out],HTN,HO7,HB7⟩
   case measure => simp [intOf] <;> omega
  ·obtain rfl : k = m := by omega
   have hsz := HB3.out.size
   have HE : Hid _ := HZ.out (.returned (.tuple #[.slice va (k + 1) vc,.int .i64 0])) wr ⟨q5 HB3.out HB.out,.inr (.inr ⟨HM.out,HEQ.out,vs,va,vc,by rw [hlm],by rw [hlm]; exact HTU,by rw [hlm]; exact qj HO.out hsz⟩)⟩
   have e1 : decide ((k : Int) < (k : Int)) = false := by simp
   clear HZ HTU HO HB hsz hlm
   go_wp2
   exact HE.out
theorem q18 : AllCW := fun p aA nA cA aG nG cG aN nN cN bs N gs d m c ts w hB hN hG hok _ _ hL _ => q3J ⟨p,nA,bs,N,gs⟩ aA cA aG nG cG aN nN cN d m c ts w hB hN hG hok hL
def WObj (w : World) (g : Nat) (F : Nat → Prop) (A : AuP) (ts : List Nat) : Prop := ∃ V gS cS,WaO w g A ts V gS cS ∧ ∀ k,F k ↔ (moW g gS k ∨ V.bk A k)
theorem fr_kn {w w' : World} {g gS gS' : Nat} {P : Nat → Prop} {F : Nat → Prop} (h : Fr w w' (moW g gS) (moW g gS')) (hF : ∀ k,F k ↔ (moW g gS k ∨ P k)) : Fr w w' F (fun k => moW g gS' k ∨ P k) :=
 ⟨h.os,h.tape,h.output,h.size,fun k hk hn => h.keep k hk fun e => hn ((hF k).2 (.inl e)),fun k hk => by
  rcases hk with hk | hk
  ·rcases h.foot k hk with h1 | h1
   ·exact .inl ((hF k).2 (.inl h1))
   ·exact .inr h1
  ·exact .inl ((hF k).2 (.inr hk))⟩
theorem q25 : WatC WObj where
 lt := by
  rintro w g F A ts ⟨V,gS,cS,h,hF⟩ k hk
  rcases (hF k).1 hk with (rfl | rfl) | hk
  ·exact h.glt
  ·exact h.slt
  ·exact (h.kn.lt k hk).2
 keep := by
  rintro w w' g F A ts ⟨V,gS,cS,h,hF⟩ hk
  exact ⟨V,gS,cS,h.far (fun k hm => hk k ((hF k).2 (.inl hm))) (fun k hm => hk k ((hF k).2 (.inr hm))),hF⟩
 new := by
  intro A aA cA aG nG cG aN nN cN w hB hN hG hok
  refine (q3K A aA cA aG nG cG aN nN cN w hB hN hG hok).mono ?_
  rintro e w' ⟨hb,⟨hM,rfl⟩ | ⟨hM,g,V,gS,cS,rfl,hW,hge⟩⟩
  ·exact ⟨hb,.inl ⟨hM,rfl⟩⟩
  ·exact ⟨hb,.inr ⟨hM,g,fun k => moW g gS k ∨ V.bk A k,rfl,⟨V,gS,cS,hW,fun _ => Iff.rfl⟩,hge⟩⟩
 feed := by
  rintro A g F ts l w hM ⟨V,gS,cS,h,hF⟩ hl hn _
  refine (q1C h (l := l)).mono ?_
  rintro e w' (⟨h1,_⟩ | ⟨_,h1,_⟩ | ⟨_,_,v,rfl,hT,gS',cS',hW,hFr⟩)
  ·exact absurd hl h1
  ·omega
  ·exact ⟨v,fun k => moW g gS' k ∨ V.bk A k,rfl,hT,⟨V,gS',cS',hW,fun _ => Iff.rfl⟩,fr_kn hFr hF⟩
 back := by
  rintro A g F ts l w hM ⟨V,gS,cS,h,hF⟩ _
  refine (q1k h).mono ?_
  rintro e w' (⟨h1,_⟩ | ⟨us,x,v,he,rfl,hT,hW,hFr⟩)
  ·cases ts <;> cases h1
  ·obtain ⟨rfl,e2⟩ := List.append_inj' he rfl
   exact ⟨v,fun k => moW g gS k ∨ V.bk A k,rfl,hT,⟨V,gS,cS,hW,fun _ => Iff.rfl⟩,fr_kn hFr hF⟩
 verdict := by
  rintro A g F ts w _ ⟨V,gS,cS,h,hF⟩ _
  refine (qT h).mono ?_
  rintro e w' ⟨v,rfl,hT,hb⟩
  exact ⟨v,rfl,hT,hb⟩
 state := by
  rintro A g F ts w _ ⟨V,gS,cS,h,hF⟩ _
  exact qF h
 len := by
  rintro A g F ts w _ ⟨V,gS,cS,h,hF⟩
  refine (qC h).mono ?_
  rintro e w' ⟨rfl,rfl⟩
  exact ⟨rfl,Below.refl _ _⟩
 off := by
  rintro A g F ts w _ ⟨V,gS,cS,h,hF⟩ _
  exact q3P h
theorem q5h : WatD WObj where
 feedArg := by
  rintro A g F ts l w hM ⟨V,gS,cS,h,hF⟩ hl _
  refine (q1C h (l := l)).mono ?_
  rintro e w' (⟨_,rfl,hb⟩ | ⟨h1,_⟩ | ⟨h1,_⟩)
  ·exact ⟨rfl,hb⟩
  ·exact absurd h1 hl
  ·exact absurd h1 hl
 backNone := by
  rintro A g F w hM ⟨V,gS,cS,h,hF⟩
  refine (q1k h).mono ?_
  rintro e w' (⟨_,rfl,hb⟩ | ⟨us,x,v,he,_⟩)
  ·exact ⟨rfl,hb⟩
  ·cases us <;> cases he
theorem q2i (p : Int) (aA : Option Addr) (nA cA : Nat) (aG : Option Addr) (nG cG : Nat) (aN : Option Addr) (nN cN : Nat) (bs : List Bool) (gs : List Int) (N : List Gd) (d : Option Addr) (m c : Nat) (zs : List Int) (w : World) (hB : BoSl w aA nA cA bs) (hG : ZSl w aG nG cG gs) (hN : NdSl w aN nN cN N) (hok : ∀ z ∈ gs,I64 z) (hL0 : IntSl Try.prog 41 .u8 w d m c zs) (hz : ∀ z ∈ zs,0 ≤ z ∧ z < 256) (_ : c ≤ 140737488351232) :
  Calls Try.prog 4 #[.agg #[.int .i64 p,.slice aA nA cA,.slice aG nG cG,.slice aN nN cN],.slice d m c] w fun e w' => e = .returned (.bool true) ∧ Below w.heap.size w w' := by
 have hz2 : zs = (zs.map Int.toNat).map Int.ofNat := by
  rw [List.map_map]
  exact (List.map_id zs).symm.trans (List.map_congr_left fun z h => by have := hz z h; simp; omega)
 refine q2N (HALL := q18) (HTOLD := q2f) p aA nA cA aG nG cG aN nN cN bs N gs d m c (zs.map Int.toNat) w hB hG hN hok ?_ ?_
 ·show IntSl _ _ _ _ _ _ _ _
  rw [← hz2]; exact hL0
 ·intro x hx
  obtain ⟨z,h1,rfl⟩ := List.mem_map.1 hx
  have := hz z h1; omega
theorem q2O (p : Int) (aA : Option Addr) (nA cA : Nat) (aG : Option Addr) (nG cG : Nat) (aN : Option Addr) (nN cN : Nat) (bs : List Bool) (gs : List Int) (N : List Gd) (d : Option Addr) (m c : Nat) (zs : List Int) (w : World) (hB : BoSl w aA nA cA bs) (hG : ZSl w aG nG cG gs) (hN : NdSl w aN nN cN N) (hok : ∀ z ∈ gs,I64 z) (hL0 : IntSl Try.prog 41 .u8 w d m c zs) (hz : ∀ z ∈ zs,0 ≤ z ∧ z < 256) (_ : c ≤ 140737488351232) :
  Calls Try.prog 6 #[.agg #[.int .i64 p,.slice aA nA cA,.slice aG nG cG,.slice aN nN cN],.slice d m c] w fun e w' => e = .returned (.bool true) ∧ Below w.heap.size w w' :=
 q3s q25 q18 p aA nA cA aG nG cG aN nN cN bs gs N d m c zs w hB hG hN hok hL0 hz
theorem q2M (p : Int) (aA : Option Addr) (nA cA : Nat) (aG : Option Addr) (nG cG : Nat) (aN : Option Addr) (nN cN : Nat) (bs : List Bool) (gs : List Int) (N : List Gd) (d : Option Addr) (m c : Nat) (zs : List Int) (w : World) (hB : BoSl w aA nA cA bs) (hG : ZSl w aG nG cG gs) (hN : NdSl w aN nN cN N) (hok : ∀ z ∈ gs,I64 z) (hL0 : IntSl Try.prog 41 .u8 w d m c zs) (hz : ∀ z ∈ zs,0 ≤ z ∧ z < 256) (_ : c ≤ 140737488351232) :
  Calls Try.prog 7 #[.agg #[.int .i64 p,.slice aA nA cA,.slice aG nG cG,.slice aN nN cN],.slice d m c] w fun e w' => e = .returned (.bool true) ∧ Below w.heap.size w w' :=
 q3m q25 q18 p aA nA cA aG nG cG aN nN cN bs gs N d m c zs w hB hG hN hok hL0 hz
theorem q2g (w : World) : Calls Try.prog 8 #[] w fun e w' => e = .returned (.bool true) ∧ Below w.heap.size w w' :=
 q2J q25 q5h q18 q2f w
theorem q4J : (Try.prog.info? 30).map (·.size) = some 1 := by kernel_rfl
theorem q3L (l : Nat) (w : World) (_ : l < 256) : Calls Try.prog 5 #[.int .u8 (l : Int)] w fun e w' => e = .returned (.bool true) ∧ Below w.heap.size w w' := by
 obtain ⟨Q,hQ⟩ : ∃ Q : Ending → World → Prop,Q = fun e w' => e = .returned (.bool true) ∧ Below w.heap.size w w' := ⟨_,rfl⟩
 obtain ⟨w2,hw2⟩ : ∃ w2,w2 = (w.alloc (.cells #[.int .i64 0,.slice none 0 0,.slice none 0 0,.slice none 0 0,.slice none 0 0,.pointer none,.slice none 0 0] 65 (0,0))).alloc (.cells #[.pointer none,.pointer (some ⟨w.heap.size,0,none⟩)] 30) := ⟨_,rfl⟩
 have hb2 : Below w.heap.size w w2 := by rw [hw2]; exact q5 (q6 w _) (q6 _ _)
 have HE : Hid (Q (.returned (.bool true)) w2) := by show Q _ _; rw [hQ]; exact ⟨rfl,hb2⟩
 have h5 : w2.cell? ⟨w.heap.size,5,none⟩ = some (.pointer none) := by
  have h1 := (MapKept.heap_alloc w (.cells #[.int .i64 0,.slice none 0 0,.slice none 0 0,.slice none 0 0,.slice none 0 0,.pointer none,.slice none 0 0] 65 (0,0))).1
  have h2 := (q6 (w.alloc (.cells #[.int .i64 0,.slice none 0 0,.slice none 0 0,.slice none 0 0,.slice none 0 0,.pointer none,.slice none 0 0] 65 (0,0))) (.cells #[.pointer none,.pointer (some ⟨w.heap.size,0,none⟩)] 30)).block w.heap.size (by simp)
  rw [← hw2,h1] at h2
  exact q7 h2 5
 have hs : w2.heap[w.heap.size + 1]? = some (.cells #[.pointer none,.pointer (some ⟨w.heap.size,0,none⟩)] 30 (0,0)) := by
  have := (MapKept.heap_alloc (w.alloc (.cells #[.int .i64 0,.slice none 0 0,.slice none 0 0,.slice none 0 0,.slice none 0 0,.pointer none,.slice none 0 0] 65 (0,0))) (.cells #[.pointer none,.pointer (some ⟨w.heap.size,0,none⟩)] 30)).1
  rw [hw2]
  simpa using this
 have p0 : w2.cell? ⟨w.heap.size + 1,0,none⟩ = some (.pointer none) := q7 hs 0
 have p1 : w2.cell? ⟨w.heap.size + 1,1,none⟩ = some (.pointer (some ⟨w.heap.size,0,none⟩)) := q7 hs 1
 have hidx : ∀ (k : Nat),k < 2 → ∀ w',(Instr.indexAt 40 (.slice (some ⟨w.heap.size + 1,0,none⟩) 2 2) (.int .i64 (k : Int))).run Try.prog w' = .ok (.pointer (some ⟨w.heap.size + 1,k,none⟩)) w' := fun k hk w' => by
  have := qi (P := Try.prog) (T := 40) Try.underlying40 q4J (a := some ⟨w.heap.size + 1,0,none⟩) (cap := 2) (n := 2) (fun e => by cases e) k w' hk
  simpa [adOf,q8] using this
 have HW2 : Hid _ := hw2
 rw [← hQ]
 clear hQ hw2 hb2 hs
 go_enter Try.func5,Try.ntmps5
 go_wp2
 rw [← HW2.out]
 clear HW2
 go_loopw [4] (fun i wr => ∃ k : Nat,k ≤ 2 ∧ i = .int .i64 (k : Int) ∧ Hid (wr = w2)) (fun i _ => 2 - (intOf i).toNat)
 case atStart => exact ⟨0,by omega,rfl,rfl⟩
 case round =>
  obtain ⟨k,hk,rfl,HWR⟩ := hrel
  obtain rfl := HWR.out
  by_cases hlt : k < 2
  ·have e1 : decide ((k : Int) < 2) = true := decide_eq_true (by omega)
   have hix := hidx k hlt
   obtain ⟨p,hp,hn⟩ : ∃ p,wr.cell? ⟨w.heap.size + 1,k,none⟩ = some (.pointer p) ∧ NonW wr p := by
    by_cases h0 : k = 0
    ·subst h0; exact ⟨none,p0,.inl rfl⟩
    ·obtain rfl : k = 1 := by omega
     exact ⟨_,p1,  .inr ⟨w.heap.size,rfl,h5⟩⟩
   have j1 := q3N hn l
   have j2 := q3M hn
   have j3 := q4k hn
   have j4 := q2h hn
   have j5 := q3n hn
   have j6 := q4j hn
   have j7 := q3O hn
   clear hidx p0 p1 h5 hn HE
   go_wp2_with (first
    | (go_at_call 24; refine j1.mono ?_; rintro e w' ⟨rfl,hw1⟩; obtain rfl := hw1.symm)
    | (go_at_call 25; refine j2.mono ?_; rintro e w' ⟨rfl,hw1⟩; obtain rfl := hw1.symm)
    | (go_at_call 26; refine j3.mono ?_; rintro e w' ⟨rfl,hw1⟩; obtain rfl := hw1.symm)
    | (go_at_call 27; refine j4.mono ?_; rintro e w' ⟨rfl,hw1⟩; obtain rfl := hw1.symm)
    | (go_at_call 28; refine j5.mono ?_; rintro e w' ⟨rfl,hw1⟩; obtain rfl := hw1.symm)
    | (go_at_call 29; refine j6.mono ?_; rintro e w' ⟨rfl,hw1⟩; obtain rfl := hw1.symm)
    | (go_at_call 15; refine j7.mono ?_; rintro e w' ⟨rfl,hw1⟩; obtain rfl := hw1.symm))
   go_roundw
   case rel => exact ⟨k + 1,by omega,by go_num,trivial⟩
   case measure => simp [intOf] <;> omega
  ·obtain rfl : k = 2 := by omega
   clear hidx p0 p1 h5
   go_wp2
   exact HE.out
end Go.Proofs.Ytjpggahiddhanaa
