/- Texts of the proof, put together: what it uses. -/
import Derived.Test.YtjpggahiddhanaaY12
import Derived.Test.YtjpggahiddhanaaY13
set_option maxRecDepth 100000
set_option maxHeartbeats 16000000
namespace Go.Proofs.Ytjpggahiddhanaa
open Go.RowKit Go.Maps
theorem q32 (A : AuP) (aA : Option Addr) (cA : Nat) (aG : Option Addr) (nG cG : Nat) (aN : Option Addr) (nN cN : Nat) (w : World) (hB : BoSl w aA A.nA cA A.bs) (hN : NdSl w aN nN cN A.N) (hG : ZSl w aG nG cG A.gs) (hok : ∀ z ∈ A.gs,I64 z) :
  Calls Try.prog 33 #[.agg #[.int .i64 A.p,.slice aA A.nA cA,.slice aG nG cG,.slice aN nN cN]] w (KnoR A w) := by
 obtain ⟨p,n,bs,N,gs⟩ := A
 dsimp only at *
 obtain ⟨Z,eZ⟩ : ∃ Z,Z = KnoR ⟨p,n,bs,N,gs⟩ w := ⟨_,rfl⟩
 have HZ : Hid (∀ e w',KnoR ⟨p,n,bs,N,gs⟩ w e w' → Z e w') := fun e w' h => by rw [eZ]; exact h
 rw [← eZ]
 clear eZ
 obtain ⟨w1,hw1⟩ : ∃ w1,w1 = (w.alloc (.cells #[.int .i64 p,.slice aA n cA,.slice aG nG cG,.slice aN nN cN] 26 (0,0))).alloc kn0 := ⟨_,rfl⟩
 have hs1 : w1.heap.size = w.heap.size + 2 := by rw [hw1]; simp
 have hb1 : Below w.heap.size w w1 := by rw [hw1]; exact q5 (q7 w _) (q7 _ _)
 have HV1 : Hid (AuB w1 w.heap.size p aA n cA aG nG cG aN nN cN) := by show AuB _ _ _ _ _ _ _ _ _ _ _ _; rw [hw1]; exact (qe _ _ _ _ _ _ _ _ _ _ _).up (q7 _ _)
 have HK1 : Hid (w1.heap[w.heap.size + 1]? = some kn0) := by
  have := (MapKept.heap_alloc (w.alloc (.cells #[.int .i64 p,.slice aA n cA,.slice aG nG cG,.slice aN nN cN] 26 (0,0))) kn0).1
  show _ = _
  rw [hw1]
  simpa using this
 have j1 := q30 p aA n cA aG nG cG aN nN cN N gs w1 (hN.up hb1) (hG.up hb1) hok
 have HB1 : Hid _ := hb1
 have HW1 : Hid _ := hw1
 have HS1 : Hid _ := hs1
 have HBo : Hid (BoSl w1 aA n cA bs) := hB.up hb1
 have HN : Hid (NdSl w1 aN nN cN N) := hN.up hb1
 have HG : Hid (ZSl w1 aG nG cG gs) := hG.up hb1
 obtain ⟨c0,c1,c2,c3⟩ := HV1.out
 clear hw1 hb1 hs1 hB hN hG hok
 go_enter Try.func33,Try.ntmps33
 go_wp2_with (rw [← HW1.out])
 refine j1.mono ?_
 rintro e w2 ⟨hb2,v,rfl,⟨rfl,hM⟩ | ⟨rfl,hM⟩⟩
 ·have h256 := hM.s2
  have h1n := hM.s1
  have hk256 := hM.k256
  obtain rfl : nG = n := by have h1 := HG.out.hlen; have h2 := hM.len; omega
  have hN4 : nN ≤ 4096 := by have h1 := HN.out.hlen; have h2 := hM.few; omega
  have HR : Hid (RowsP nG (2 ^ p.toNat) (rwA p N gs)) := hM.rows (2 ^ p.toNat)
  have HM : Hid (MayG p nG N gs) := hM
  have HB2 : Hid (Below w1.heap.size w1 w2) := hb2
  have j2 := q2R p aA nG cA aG cG aN nN cN N gs w2 hM (HN.out.up hb2) (HG.out.up hb2)
  clear c0 c1 c2 c3 j1 hb2 hM
  obtain ⟨c0,c1,c2,c3⟩ := HV1.out.up HB2.out
  go_wp2_with fail
  refine j2.mono ?_
  rintro e w3 ⟨hb3,gf,vs,F,rfl,hgf,hF,hI⟩
  have HB3 : Hid (Below w1.heap.size w1 w3) := q5 HB2.out hb3
  have HF : Hid (FbM w3 gf vs F) := hF
  have HI : Hid _ := hI
  have j3 := qV gf vs F aA nG cA (2 ^ p.toNat) bs (rwA p N gs) true w3 hF hI (HBo.out.up HB3.out) HR.out hk256 (by omega) h256
  clear c0 c1 c2 c3 j2 hb3 hF hI hgf HB2
  obtain ⟨c0,c1,c2,c3⟩ := HV1.out.up HB3.out
  go_wp2_with fail
  refine j3.mono ?_
  rintro e w4 ⟨hb4,gO,ac,rfl,hgO,hrO,hsO⟩
  have HB4 : Hid (Below w1.heap.size w1 w4) := q5 HB3.out hb4
  have HRO : Hid (RowI w4 3 gO ac) := hrO
  have HSO : Hid _ := hsO
  have HGO : Hid (w1.heap.size ≤ gO) := Nat.le_trans HB3.out.size hgO
  have j4 := qV gf vs F aA nG cA (2 ^ p.toNat) bs (rwA p N gs) false w4 (HF.out.up hb4) HI.out (HBo.out.up HB4.out) HR.out hk256 (by omega) h256
  clear c0 c1 c2 c3 j3 hb4 hrO hsO hgO HB3 HF HI
  obtain ⟨c0,c1,c2,c3⟩ := HV1.out.up HB4.out
  go_wp2_with fail
  refine j4.mono ?_
  rintro e w5 ⟨hb5,gF,fa,rfl,hgF,hrF,hsF⟩
  have HB5 : Hid (Below w1.heap.size w1 w5) := q5 HB4.out hb5
  have HRO5 : Hid (RowI w5 3 gO ac) := HRO.out.up hb5
  have HRF : Hid (RowI w5 3 gF fa) := hrF
  have HSF : Hid _ := hsF
  clear c0 c1 c2 c3 j4 hb5 hrF hsF hgF HB4 HRO
  obtain ⟨c0,c1,c2,c3⟩ := HV1.out.up HB5.out
  have hmk := fun w => q3Z nG (by omega) w
  obtain ⟨w6,hw6⟩ : ∃ w6,w6 = w5.alloc (.cells (vdV (List.replicate nG 0)).toArray 59) := ⟨_,rfl⟩
  have HB6 : Hid (Below w5.heap.size w5 w6) := by show Below _ _ _; rw [hw6]; exact q7 _ _
  have HT6 : Hid (w6.ownsRow w5.heap.size 59 1 (.slice (some ⟨w5.heap.size,0,none⟩) nG nG) nG (vdV (toK ac fa nG 0))) := by
   have h1 : (vdV (List.replicate nG 0)).length = nG := by simp [vdV]
   refine ⟨by rw [q3s,h1,Nat.mul_one],.inr ⟨w5.heap.size,nG,_,rfl,Nat.le_refl _,by rw [hw6]; exact (MapKept.heap_alloc w5 _).1,Nat.le_refl _,by unfold maxLen; omega,by simp [vdV],?_⟩⟩
   rw [q3s,Nat.mul_one,List.take_of_length_le (by simp [vdV])]
  have HW6 : Hid _ := hw6
  have hal : HSO.out.1 = HSO.out.1 := rfl
  have HLA : Hid (ac.length = nG) := HSO.out.1
  have HLF : Hid (fa.length = nG) := HSF.out.1
  clear hw6 hal
  generalize (vdV (List.replicate nG 0)).toArray = C at *
  go_wp2_with (rw [← HW6.out])
  clear hmk HW6 c0 c1 c2 c3
  generalize hgT : w5.heap.size = gT at *
  have HGT : Hid _ := hgT
  clear hgT
  go_loopw [32] (fun i wr => ∃ k : Nat,k ≤ nG ∧ i = .int .i64 (k : Int) ∧ Hid (wr.ownsRow gT 59 1 (.slice (some ⟨gT,0,none⟩) nG nG) nG (vdV (toK ac fa nG k))) ∧ Hid (Below gT w5 wr)) (fun i _ => nG - (intOf i).toNat)
  case atStart => exact ⟨0,Nat.zero_le _,rfl,HT6,HB6⟩
  case round =>
   clear HT6 HB6
   obtain ⟨k,hk,rfl,HT,HBw⟩ := hrel
   have hbw : Below w5.heap.size w5 wr := by rw [HGT.out]; exact HBw.out
   by_cases hlt : k < nG
   ·have cO := (HRO5.out.up hbw).cell (i := k) (by rw [HLA.out]; exact hlt)
    have cF := (HRF.out.up hbw).cell (i := k) (by rw [HLF.out]; exact hlt)
    have iO := fun w' => qO gO nG k hlt w'
    have iF := fun w' => qO gF nG k hlt w'
    have iT : ∀ w',(Instr.indexAt 51 (.slice (some ⟨gT,0,none⟩) nG nG) (.int .i64 (k : Int))).run Try.prog w' = .ok (.pointer (some ⟨gT,k,none⟩)) w' := fun w' => by
     have := qj (P := Try.prog) (T := 51) Try.underlying51 q1X (a := some ⟨gT,0,none⟩) (cap := nG) (n := nG) (fun e => by cases e) k w' hlt
     simpa [adOf,q9] using this
    have jv := fun w' => q1L (ac.getD k 0) (fa.getD k 0) w'
    obtain ⟨gx,cx,ex,hgx,_,hcx,hfx,hox⟩ := q4E HT.out hlt (.int .u8 (verW (ac.getD k 0) (fa.getD k 0) : Int))
    obtain rfl : gT = gx := by
     injection ex with ex1 _ _
     injection ex1 with ex1
     injection ex1
    have hcx2 : wr.cell? ⟨gT,k,none⟩ = some (.int .u8 (((toK ac fa nG k).getD k 0 : Nat) : Int)) := by
     rw [hcx,vdV,List.getElem?_map,List.getElem?_map,List.getElem?_eq_getElem (by rw [q1y]; exact hlt),List.getD_eq_getElem?_getD,List.getElem?_eq_getElem (by rw [q1y]; exact hlt)]
     rfl
    have HT7 : Hid ((wr.setCell ⟨gT,k,none⟩ (.int .u8 (verW (ac.getD k 0) (fa.getD k 0) : Int))).ownsRow gT 59 1 (.slice (some ⟨gT,0,none⟩) nG nG) nG (vdV (toK ac fa nG (k + 1)))) := by
     rw [← q52 ac fa hlt,vdV,List.map_set,List.map_set]
     exact hox
    have HB7 : Hid (Below gT w5 (wr.setCell ⟨gT,k,none⟩ (.int .u8 (verW (ac.getD k 0) (fa.getD k 0) : Int)))) := HBw.out.setCell (by dsimp only; exact Nat.le_refl _) _
    generalize verW (ac.getD k 0) (fa.getD k 0) = vv at *
    generalize ac.getD k 0 = av at *
    generalize fa.getD k 0 = fv at *
    clear HT HBw hbw hox hcx
    go_upto_region 1 with fail
    go_region_with (first
     | (go_at_call 55; (with_reducible refine (jv _).mono ?_); rintro e w' ⟨rfl,hw'⟩; obtain rfl := hw'.symm)
     | fail)
    all_goals
     clear jv iO iF iT cO cF hcx2
     go_wp2
     go_roundw
     case rel => exact ⟨k + 1,by omega,by go_num,HT7.out,by repeat (first | exact HB7.out | apply Below.drew)⟩
     case measure => simp [intOf]; omega
   ·obtain rfl : k = nG := by omega
    have hbw : Below w5.heap.size w5 wr := by rw [HGT.out]; exact HBw.out
    have HBr : Hid (Below w1.heap.size w1 wr) := q5 HB5.out hbw
    have HOr : Hid (RowI wr 3 gO ac) := HRO5.out.up hbw
    have HTr : Hid _ := HT.out
    obtain ⟨c0,c1,c2,c3⟩ := HV1.out.up HBr.out
    have HJ5 : Hid (∀ wx,Below w1.heap.size w1 wx → Calls Try.prog 40 #[.slice aG k cG] wx fun e w' => ∃ a' c',e = .returned (.slice a' k c') ∧ Hid (w'.ownsRow w1.heap.size 3 1 (.slice a' k c') k (gs.map (Value.int .i64))) ∧ Hid (Below wx.heap.size wx w') ∧ Hid (Below w1.heap.size w1 w') ∧ w'.cell? ⟨w.heap.size,0,none⟩ = some (.int .i64 p) ∧ w'.cell? ⟨w.heap.size,2,none⟩ = some (.slice aG k cG) ∧ w'.cell? ⟨w.heap.size,3,none⟩ = some (.slice aN nN cN)) := fun wx hb => (q1m aG k cG gs wx (HG.out.up hb) (by omega)).mono fun e w' ⟨h1,a',c',h2,h3⟩ => by
     have hv := HV1.out.up (q5 hb h1)
     exact ⟨a',c',h2,qk h3 hb.size,h1,q5 hb h1,hv.c0,hv.c2,hv.c3⟩
    have HJ6 : Hid (∀ wx,Below w1.heap.size w1 wx → Calls Try.prog 56 #[.slice aN nN cN] wx fun e w' => ∃ a' c',e = .returned (.slice a' nN c') ∧ Hid (w'.ownsRow w1.heap.size 77 3 (.slice a' nN c') nN (encGd N)) ∧ Hid (Below wx.heap.size wx w') ∧ Hid (Below w1.heap.size w1 w') ∧ w'.cell? ⟨w.heap.size,0,none⟩ = some (.int .i64 p) ∧
      (w'.cell? ⟨w.heap.size + 1,0,none⟩ = some (.int .i64 0) ∧ w'.cell? ⟨w.heap.size + 1,1,none⟩ = some (.slice none 0 0) ∧ w'.cell? ⟨w.heap.size + 1,2,none⟩ = some (.slice none 0 0) ∧ w'.cell? ⟨w.heap.size + 1,3,none⟩ = some (.slice none 0 0) ∧ w'.cell? ⟨w.heap.size + 1,4,none⟩ = some (.slice none 0 0)) ∧
      (w'.frozen? ⟨w.heap.size + 1,0,none⟩ = false ∧ w'.frozen? ⟨w.heap.size + 1,1,none⟩ = false ∧ w'.frozen? ⟨w.heap.size + 1,2,none⟩ = false ∧ w'.frozen? ⟨w.heap.size + 1,3,none⟩ = false ∧ w'.frozen? ⟨w.heap.size + 1,4,none⟩ = false)) := fun wx hb => (q2X aN nN cN N wx (HN.out.up hb) (by omega)).mono fun e w' ⟨h1,a',c',h2,h3⟩ => by
     have hb' := q5 hb h1
     have hv := HV1.out.up hb'
     have hk2 : w'.heap[w.heap.size + 1]? = some kn0 := (hb'.block _ (Array.getElem?_eq_some_iff.1 HK1.out).1).trans HK1.out
     exact ⟨a',c',h2,qk h3 hb.size,h1,hb',hv.c0,⟨q6 hk2 0,q6 hk2 1,q6 hk2 2,q6 hk2 3,q6 hk2 4⟩,frozen_of_row w' _ 0 _ _ hk2,frozen_of_row w' _ 1 _ _ hk2,frozen_of_row w' _ 2 _ _ hk2,frozen_of_row w' _ 3 _ _ hk2,frozen_of_row w' _ 4 _ _ hk2⟩
    have HFIN : Hid (∀ wB aG' cG' aN' cN',Below w1.heap.size w1 wB → wB.ownsRow w1.heap.size 3 1 (.slice aG' k cG') k (gs.map (Value.int .i64)) → wB.ownsRow w1.heap.size 77 3 (.slice aN' nN cN') nN (encGd N) → (∀ b,w1.heap.size ≤ b → b < wr.heap.size → wB.heap[b]? = wr.heap[b]?) →
      ∃ WF,WF = ((((wB.setCell ⟨w.heap.size + 1,0,none⟩ (.int .i64 p)).setCell ⟨w.heap.size + 1,1,none⟩ (.slice aG' k cG')).setCell ⟨w.heap.size + 1,2,none⟩ (.slice aN' nN cN')).setCell ⟨w.heap.size + 1,3,none⟩ (.slice (some ⟨gT,0,none⟩) k k)).setCell ⟨w.heap.size + 1,4,none⟩ (.slice (some ⟨gO,0,none⟩) k k) ∧
       WF.heap[w.heap.size + 1]? = some (.cells #[.int .i64 p,.slice aG' k cG',.slice aN' nN cN',.slice (some ⟨gT,0,none⟩) k k,.slice (some ⟨gO,0,none⟩) k k] 63 (0,0)) ∧
       Z (.returned (.tuple #[.agg #[.int .i64 p,.slice aG' k cG',.slice aN' nN cN',.slice (some ⟨gT,0,none⟩) k k,.slice (some ⟨gO,0,none⟩) k k],.int .i64 0])) WF) := fun wB aG' cG' aN' cN' hb h1 h2 hkp => by
     have hk2 : wB.heap[w.heap.size + 1]? = some kn0 := (hb.block _ (Array.getElem?_eq_some_iff.1 HK1.out).1).trans HK1.out
     have hs1 := HS1.out
     have hlN := HN.out.hlen
     have hgo := HGO.out
     have hgt : w1.heap.size ≤ gT := by rw [← HGT.out]; exact HB5.out.size
     have h3 : wB.ownsRow w1.heap.size 59 1 (.slice (some ⟨gT,0,none⟩) k k) k (vdV (toK ac fa k k)) := qk (qf HTr.out (fun q hq => hkp q (by have := (World.ownsRow.lt HTr.out q hq).1; omega) (World.ownsRow.lt HTr.out q hq).2)) hgt
     have h4 : wB.ownsRow w1.heap.size 3 1 (.slice (some ⟨gO,0,none⟩) k k) k (ac.map (Value.int .i64)) := RowI.owns (show RowI wB 3 gO ac from (hkp gO hgo HOr.out.lt).trans HOr.out) hgo HLA.out (by unfold maxLen; omega)
     have hset : ∀ {T sz m : Nat} {v : Value} {xs : List Value},wB.ownsRow w1.heap.size T sz v m xs → (set5 wB (w.heap.size + 1) (.int .i64 p) (.slice aG' k cG') (.slice aN' nN cN') (.slice (some ⟨gT,0,none⟩) k k) (.slice (some ⟨gO,0,none⟩) k k)).ownsRow w1.heap.size T sz v m xs := fun h => qf h fun q hq => q4K (by have := (h.lt q hq).1; omega)
     refine ⟨_,rfl,q3p hk2,HZ.out _ _ ⟨q23 (q5 HB1.out hb) (by omega),.inr ⟨HM.out,aG',cG',aN',cN',some ⟨gT,0,none⟩,k,some ⟨gO,0,none⟩,k,by dsimp only; rw [hlN],?_⟩⟩⟩
     dsimp only
     refine KnW.base ⟨hset h1,?_,⟨_,hset h3,q51 HSO.out HSF.out⟩,⟨ac,hset h4,HSO.out⟩,HN.out.ok⟩ HB1.out.size
     dsimp only
     rw [hlN]; exact hset h2
    clear hbw HT HBw HRO5 HRF HZ HSO HSF HGO HGT HB5 HOr HTr HLA HLF HM HR HG HN HBo HV1 HK1 HS1 HB1 HW1 c1 hk hlt
    go_upto_region 1 with fail
    go_region_with (first
     | (go_at_call 40; (with_reducible refine (HJ5.out _ (by repeat (first | exact HBr.out | apply Below.drew))).mono ?_); rintro e wA ⟨aG',cG',rfl,HoA,HbA,HBA,a0,a2,a3⟩)
     | (go_at_call 56; (with_reducible refine (HJ6.out _ (by repeat (first | exact HBA.out | apply Below.drew))).mono ?_); rintro e wB ⟨aN',cN',rfl,HoB,HbB,HBB,b0,⟨k0,k1,k2,k3,k4⟩,f0,f1,f2,f3,f4⟩)
     | fail)
    all_goals
     obtain ⟨WF,hWF,hblk,hE⟩ := HFIN.out wB aG' cG' aN' cN' HBB.out (qF (by exact HoA.out) HbB.out) HoB.out (fun b _ hb => Eq.trans (HbB.out.block b (Nat.lt_of_lt_of_le hb HbA.out.size)) (HbA.out.block b hb))
     have HWF : Hid _ := hWF
     have HE : Hid _ := hE
     have z0 := q6 hblk 0
     have z1 := q6 hblk 1
     have z2 := q6 hblk 2
     have z3 := q6 hblk 3
     have z4 := q6 hblk 4
     clear hWF hE hblk HFIN HoA HoB HbA HbB HBA HBB a0 a2 a3 b0 k0 k1 k2 k3 k4 f0 f1 f2 f3 f4 HJ5 HJ6 c0 c2 c3
     go_wp2
     rw [← HWF.out]
     refine bodyPost_ret (v := .tuple #[.agg #[.int .i64 p,.slice aG' k cG',.slice aN' nN cN',.slice (some ⟨gT,0,none⟩) k k,.slice (some ⟨gO,0,none⟩) k k],.int .i64 0]) (by simp [results,Try.results33,go_sem,z0,z1,z2,z3,z4]) rfl HE.out
 ·have HE : Hid (Z (.returned (.tuple #[.agg #[.int .i64 0,.slice none 0 0,.slice none 0 0,.slice none 0 0,.slice none 0 0],.int .i64 12])) (set5 w2 (w.heap.size + 1) (.int .i64 0) (.slice none 0 0) (.slice none 0 0) (.slice none 0 0) (.slice none 0 0))) := HZ.out _ _ ⟨q23 (q5 HB1.out hb2) (by omega),.inl ⟨hM,rfl⟩⟩
  have hk2 : w2.heap[w.heap.size + 1]? = some kn0 := (hb2.block _ (Array.getElem?_eq_some_iff.1 HK1.out).1).trans HK1.out
  have k0 := q6 hk2 0
  have k1 := q6 hk2 1
  have k2 := q6 hk2 2
  have k3 := q6 hk2 3
  have k4 := q6 hk2 4
  have f0 := frozen_of_row w2 _ 0 _ _ hk2
  have f1 := frozen_of_row w2 _ 1 _ _ hk2
  have f2 := frozen_of_row w2 _ 2 _ _ hk2
  have f3 := frozen_of_row w2 _ 3 _ _ hk2
  have f4 := frozen_of_row w2 _ 4 _ _ hk2
  have hk3 := q3p (v0 := .int .i64 0) (v1 := .slice none 0 0) (v2 := .slice none 0 0) (v3 := .slice none 0 0) (v4 := .slice none 0 0) hk2
  have z0 := q6 hk3 0
  have z1 := q6 hk3 1
  have z2 := q6 hk3 2
  have z3 := q6 hk3 3
  have z4 := q6 hk3 4
  unfold set5 at HE hk3 z0 z1 z2 z3 z4
  clear c0 c1 c2 c3 j1 hb2 hM HZ hk2 hk3
  go_wp2
  refine bodyPost_ret (v := .tuple #[.agg #[.int .i64 0,.slice none 0 0,.slice none 0 0,.slice none 0 0,.slice none 0 0],.int .i64 12]) (by simp [results,Try.results33,go_sem,z0,z1,z2,z3,z4]) rfl HE.out
end Go.Proofs.Ytjpggahiddhanaa
namespace Go.Proofs.Ytjpggahiddhanaa
open Go.RowKit Go.Maps Go.Sort
def NewW (A : AuP) (w : World) (e : Ending) (w' : World) : Prop :=
 Below w.heap.size w w' ∧ ((¬ MayG A.p A.nA A.N A.gs ∧ e = .returned (.tuple #[.pointer none,.int .i64 12])) ∨
  (MayG A.p A.nA A.N A.gs ∧ ∃ g V gS cS,e = .returned (.tuple #[.pointer (some ⟨g,0,none⟩),.int .i64 0]) ∧ WaO w' g A [] V gS cS ∧ ∀ k,moW g gS k ∨ V.bk A k → w.heap.size ≤ k))
theorem WaO.new {w w2 w5 : World} {A : AuP} {V : KV} (hM : MayG A.p A.nA A.N A.gs) (hK : KnW w2 w.heap.size A (V.vG A) (V.vN A) (V.vT A) (V.vO A)) (o : Obj)
  (hb : Below ((w2.alloc o).alloc (.cells #[.int .i64 0] 3)).heap.size ((w2.alloc o).alloc (.cells #[.int .i64 0] 3)) w5)
  (hg : w5.heap[((w2.alloc o).alloc (.cells #[.int .i64 0] 3)).heap.size + 1]? = some (.cells #[.int .i64 A.p,.slice V.aG A.nA V.cG,.slice V.aN A.N.length V.cN,.slice V.aT A.nA V.cT,.slice V.aO A.nA V.cO,.pointer (some ⟨((w2.alloc o).alloc (.cells #[.int .i64 0] 3)).heap.size + 1,0,none⟩),.slice (some ⟨w2.heap.size + 1,0,none⟩) 1 1] 65 (0,0))) :
  WaO w5 (((w2.alloc o).alloc (.cells #[.int .i64 0] 3)).heap.size + 1) A [] V (w2.heap.size + 1) 1 := by
 have hs : ((w2.alloc o).alloc (.cells #[.int .i64 0] 3)).heap.size = w2.heap.size + 2 := by simp
 have hs1 : (w2.alloc o).heap.size = w2.heap.size + 1 := by simp
 have hb2 : Below w2.heap.size w2 w5 := q5 (q5 (q7 w2 o) (q7 _ _)) hb
 have hK5 : KnV w5 0 A V := KnW.base (KnW.far hK fun k hk => hb2.block k (KnW.lt hK k hk).2) (Nat.zero_le _)
 have hblk : w5.heap[w2.heap.size + 1]? = some (.cells #[.int .i64 0] 3 (0,0)) := by
  have := (MapKept.heap_alloc (w2.alloc o) (.cells #[.int .i64 0] 3)).1
  rw [hs1] at this
  rw [hb.block _ (by omega)]
  exact this
 refine ⟨hg,hK5,⟨rfl,.inr ⟨w2.heap.size + 1,1,_,rfl,Nat.zero_le _,hblk,Nat.le_refl _,by unfold maxLen; omega,rfl,?_⟩⟩,?_,?_,by omega,(fun x hx => by cases hx),Nat.zero_le _,hM⟩
 ·show [Value.int .i64 0].take 1 = inV (stW A [])
  rfl
 ·intro hk
  have := (KnW.lt hK _ hk).2; omega
 ·intro hk
  have := (KnW.lt hK _ hk).2; omega
theorem q3e (A : AuP) (aA : Option Addr) (cA : Nat) (aG : Option Addr) (nG cG : Nat) (aN : Option Addr) (nN cN : Nat) (w : World) (hB : BoSl w aA A.nA cA A.bs) (hN : NdSl w aN nN cN A.N) (hG : ZSl w aG nG cG A.gs) (hok : ∀ z ∈ A.gs,I64 z) :
  Calls Try.prog 11 #[.agg #[.int .i64 A.p,.slice aA A.nA cA,.slice aG nG cG,.slice aN nN cN]] w (NewW A w) := by
 obtain ⟨Z,eZ⟩ : ∃ Z,Z = NewW A w := ⟨_,rfl⟩
 have HZ : Hid (∀ e w',NewW A w e w' → Z e w') := fun e w' h => by rw [eZ]; exact h
 rw [← eZ]
 clear eZ
 obtain ⟨w1,hw1⟩ : ∃ w1,w1 = w.alloc (.cells #[.int .i64 A.p,.slice aA A.nA cA,.slice aG nG cG,.slice aN nN cN] 26 (0,0)) := ⟨_,rfl⟩
 have hb1 : Below w.heap.size w w1 := by rw [hw1]; exact q7 _ _
 have HB1 : Hid (Below w.heap.size w w1) := hb1
 have HV1 : Hid (AuB w1 w.heap.size A.p aA A.nA cA aG nG cG aN nN cN) := by show AuB _ _ _ _ _ _ _ _ _ _ _ _; rw [hw1]; exact qe _ _ _ _ _ _ _ _ _ _ _
 have j1 := q32 A aA cA aG nG cG aN nN cN w1 (hB.up hb1) (hN.up hb1) (hG.up hb1) hok
 have HW1 : Hid _ := hw1
 obtain ⟨c0,c1,c2,c3⟩ := HV1.out
 clear hw1 hb1 hB hN hG hok HV1
 go_enter Try.func11,Try.ntmps11
 go_wp2_with (first | rw [← HW1.out] | (go_at_call 33; refine j1.mono ?_))
 rintro e w2 ⟨hb2,⟨hM,rfl⟩ | ⟨hM,xG,kG,xN,kN,xT,kT,xO,kO,rfl,hK⟩⟩
 ·have HE : Hid (∀ w',Below w2.heap.size w2 w' → Z (.returned (.tuple #[.pointer none,.int .i64 12])) w') := fun w' hb => HZ.out _ _ ⟨q5 (q5 HB1.out hb2) hb,.inl ⟨hM,rfl⟩⟩
  clear HZ j1 c0 c1 c2 c3 hb2 hM HB1 HW1
  go_wp2
  exact HE.out _ (q7 _ _)
 ·obtain ⟨V,rfl,rfl,rfl,rfl,rfl,rfl,rfl,rfl⟩ : ∃ V : KV,V.aG = xG ∧ V.cG = kG ∧ V.aN = xN ∧ V.cN = kN ∧ V.aT = xT ∧ V.cT = kT ∧ V.aO = xO ∧ V.cO = kO := ⟨⟨xG,kG,xN,kN,xT,kT,xO,kO⟩,rfl,rfl,rfl,rfl,rfl,rfl,rfl,rfl⟩
  obtain ⟨w3,hw3⟩ : ∃ w3,w3 = (w2.alloc (.cells #[.int .i64 A.p,.slice V.aG A.nA V.cG,.slice V.aN A.N.length V.cN,.slice V.aT A.nA V.cT,.slice V.aO A.nA V.cO] 63 (0,0))).alloc (.cells #[.int .i64 0] 3) := ⟨_,rfl⟩
  have HB2 : Hid (Below w.heap.size w w2) := q5 HB1.out hb2
  have hs2 : w.heap.size ≤ w2.heap.size := HB2.out.size
  have HE : Hid (∀ w' ,Below w3.heap.size w3 w' → w'.heap[w3.heap.size + 1]? = some (.cells #[.int .i64 A.p,.slice V.aG A.nA V.cG,.slice V.aN A.N.length V.cN,.slice V.aT A.nA V.cT,.slice V.aO A.nA V.cO,.pointer (some ⟨w3.heap.size + 1,0,none⟩),.slice (some ⟨w2.heap.size + 1,0,none⟩) 1 1] 65 (0,0)) → Z (.returned (.tuple #[.pointer (some ⟨w3.heap.size + 1,0,none⟩),.int .i64 0])) w') := fun w' hb hg => by
   have h23 : Below w2.heap.size w2 w3 := by rw [hw3]; exact q5 (q7 w2 _) (q7 _ _)
   refine HZ.out _ _ ⟨q5 HB2.out (q5 h23 hb),.inr ⟨hM,w3.heap.size + 1,V,w2.heap.size + 1,1,rfl,?_,?_⟩⟩
   ·rw [hw3] at hb hg ⊢
    exact WaO.new hM (KnW.base hK (Nat.le_refl _)) _ hb hg
   ·have hs3 := h23.size
    rintro k ((hk | hk) | hk)
    ·omega
    ·omega
    ·have h1 := (KnW.lt hK k hk).1
     have h2 := HB1.out.size
     omega
  have jS := q1g A V (w2.heap.size + 1) 1 1 w3
  dsimp only [KV.val] at jS
  have HW3 : Hid _ := hw3
  clear HZ j1 c0 c1 c2 c3 hb2 hM hK HB1 HW1 hw3 HB2 hs2
  go_wp2_with (first | rw [← HW3.out] | (go_at_call 34; refine jS.mono ?_; rintro e w5 ⟨rfl,h5,h6⟩; have HX : Hid _ := HE.out w5 h5.out h6.out))
  exact HX.out
theorem WaO.fork {w w1 w5 : World} {g gs2 c2 : Nat} {A : AuP} {ts : List Nat} {V : KV} {gS cS : Nat} (h : WaO w g A ts V gS cS) (hb : Below w.heap.size w w1)
  (ho : w1.ownsRow w.heap.size 3 1 (.slice (some ⟨gs2,0,none⟩) (ts.length + 1) c2) (ts.length + 1) (inV (stW A ts)))
  (hb5 : Below w1.heap.size w1 w5)
  (hg : w5.heap[w1.heap.size + 1]? = some (.cells #[.int .i64 A.p,.slice V.aG A.nA V.cG,.slice V.aN A.N.length V.cN,.slice V.aT A.nA V.cT,.slice V.aO A.nA V.cO,.pointer (some ⟨w1.heap.size + 1,0,none⟩),.slice (some ⟨gs2,0,none⟩) (ts.length + 1) c2] 65 (0,0))) :
  WaO w5 (w1.heap.size + 1) A ts V gs2 c2 := by
 have h15 : Below w.heap.size w w5 := q5 hb hb5
 have h1 := (ho.lt gs2 rfl)
 refine ⟨hg,h.kn.far fun k hk => h15.block k (h.kn.lt k hk).2,qk (qf ho fun q hq => hb5.block q (ho.lt q hq).2) (Nat.zero_le _),?_,?_,?_,h.lt,h.fw,h.may⟩
 ·intro hk
  have := (h.kn.lt _ hk).2; omega
 ·intro hk
  have := (h.kn.lt _ hk).2
  have := hb.size
  omega
 ·omega
def ForR (A : AuP) (ts : List Nat) (V : KV) (w : World) (e : Ending) (w' : World) : Prop :=
 Below w.heap.size w w' ∧ ∃ g gS cS,e = .returned (.pointer (some ⟨g,0,none⟩)) ∧ WaO w' g A ts V gS cS ∧ w.heap.size ≤ g ∧ w.heap.size ≤ gS
theorem q1h {w : World} {g : Nat} {A : AuP} {ts : List Nat} {V : KV} {gS cS : Nat} (h : WaO w g A ts V gS cS) :
  Calls Try.prog 15 #[.pointer (some ⟨g,0,none⟩)] w (ForR A ts V w) := by
 obtain ⟨Z,eZ⟩ : ∃ Z,Z = ForR A ts V w := ⟨_,rfl⟩
 have HZ : Hid (∀ e w',ForR A ts V w e w' → Z e w') := fun e w' h => by rw [eZ]; exact h
 rw [← eZ]
 clear eZ
 obtain ⟨c0,c1,c2,c3,c4,c5,c6⟩ := h.c
 have hm := qp c5
 have hf := h.fw
 have hbd : Below w.heap.size w w.drew := (Below.refl _ _).drew
 have HBD : Hid _ := hbd
 have hZ : ZSl w.drew (some ⟨gS,0,none⟩) (ts.length + 1) cS ((stW A ts).map Int.ofNat) := by
  obtain ⟨a',c',e,hz,_⟩ := qm (h.up hbd).st Try.underlying23 q8
  injection e with e1 _ e3
  subst e1; subst e3
  exact hz
 have jc : Calls Try.prog 40 #[.slice (some ⟨gS,0,none⟩) (ts.length + 1) cS] w.drew fun e w' => Below w.heap.size w w' ∧ ∃ g' c',e = .returned (.slice (some ⟨g',0,none⟩) (ts.length + 1) c') ∧ w'.ownsRow w.heap.size 3 1 (.slice (some ⟨g',0,none⟩) (ts.length + 1) c') (ts.length + 1) (inV (stW A ts)) := by
  refine (q1m (some ⟨gS,0,none⟩) (ts.length + 1) cS ((stW A ts).map Int.ofNat) w.drew hZ (by omega)).mono ?_
  rintro e w' ⟨hb,a',c',rfl,ho⟩
  obtain ⟨g2,c2,e2,_,_⟩ := q16 ho (by omega)
  injection e2 with e3 _ e4
  subst e3; subst e4
  exact ⟨q5 hbd hb,g2,c',rfl,ho⟩
 have jS := fun (gs2 c2 : Nat) (wx : World) => q1g A V gs2 (ts.length + 1) c2 wx
 have HC : Hid (∀ wx,Below w.heap.size w wx → wx.cell? ⟨g,0,none⟩ = some (.int .i64 A.p) ∧ wx.cell? ⟨g,1,none⟩ = some (.slice V.aG A.nA V.cG) ∧ wx.cell? ⟨g,2,none⟩ = some (.slice V.aN A.N.length V.cN) ∧ wx.cell? ⟨g,3,none⟩ = some (.slice V.aT A.nA V.cT) ∧ wx.cell? ⟨g,4,none⟩ = some (.slice V.aO A.nA V.cO) ∧ wx.cell? ⟨g,6,none⟩ = some (.slice (some ⟨gS,0,none⟩) (ts.length + 1) cS)) := fun wx hb => by
  have hx : WaO wx g A ts V gS cS := h.far (fun k hk => hb.block k (by rcases hk with rfl | rfl; exact h.glt; exact h.slt)) (fun k hk => hb.block k (h.kn.lt k hk).2)
  obtain ⟨d0,d1,d2,d3,d4,_,d6⟩ := hx.c
  exact ⟨d0,d1,d2,d3,d4,d6⟩
 have HE : Hid (∀ w1 w5 gs2 c2,Below w.heap.size w w1 → w1.ownsRow w.heap.size 3 1 (.slice (some ⟨gs2,0,none⟩) (ts.length + 1) c2) (ts.length + 1) (inV (stW A ts)) → Below w1.heap.size w1 w5 → w5.heap[w1.heap.size + 1]? = some (.cells #[.int .i64 A.p,.slice V.aG A.nA V.cG,.slice V.aN A.N.length V.cN,.slice V.aT A.nA V.cT,.slice V.aO A.nA V.cO,.pointer (some ⟨w1.heap.size + 1,0,none⟩),.slice (some ⟨gs2,0,none⟩) (ts.length + 1) c2] 65 (0,0)) → Z (.returned (.pointer (some ⟨w1.heap.size + 1,0,none⟩))) w5) := fun w1 w5 gs2 c2 h1 h2 h3 h4 => HZ.out _ _ ⟨q5 h1 h3,_,_,_,rfl,h.fork h1 h2 h3 h4,by have := h1.size; omega,(h2.lt gs2 rfl).1⟩
 clear h HZ hbd hZ
 dsimp only [KV.val] at jS
 generalize inV (stW A ts) = X at *
 generalize ts.length = n at *
 generalize A.N.length = nN at *
 go_enter Try.func15,Try.ntmps15
 go_upto_region 3 with (go_at_call 39; refine hm.mono ?_; rintro e w' ⟨rfl,hw1⟩; obtain rfl := hw1.symm)
 clear hm c5
 go_region_law (first
  | (revert HB9; intro HB9; go_simp; (with_reducible refine (jS g2 k2 w9).mono ?_); rintro e w5 ⟨rfl,hb5,hg5⟩; have HX : Hid _ := HE.out w9 w5 g2 k2 HB9.out HO9.out hb5.out hg5.out; dsimp only)
  | (revert jc; intro jc; go_simp; (with_reducible refine jc.mono ?_); rintro e w9 ⟨hb9,g2,k2,rfl,ho9⟩; have HB9 : Hid (Below w.heap.size w w9) := hb9; have HO9 : Hid _ := ho9; obtain ⟨a0,a1,a2,a3,a4,a6⟩ := HC.out w9 HB9.out; dsimp only)
  | fail)
 all_goals
  clear HE jS jc HC hb5 hg5
  go_wp2
  go_ret
  exact HX.out
theorem qi {w : World} {base e size n g : Nat} {v : Value} {xs : List Value} (h : w.ownsRow base e size v n xs) (hg : v.ownBlock = some g) : ∃ cs,w.heap[g]? = some (.cells cs e (0,0)) := by
 rcases h.2 with ⟨rfl,_⟩ | ⟨g',cap,cur,rfl,_,hc,_⟩
 ·cases hg
 ·injection hg with hg
  dsimp only at hg
  subst hg
  exact ⟨_,hc⟩
def updN {α : Type} (f : Nat → α) (i : Nat) (x : α) : Nat → α := fun j => if j = i then x else f j
theorem qb {α : Type} (f : Nat → α) (i : Nat) (x : α) : updN f i x i = x := if_pos rfl
theorem qc {α : Type} (f : Nat → α) {i j : Nat} (x : α) (h : j ≠ i) : updN f i x j = f j := if_neg h
def KpT (w w' : World) (P : TypeId → Prop) : Prop := ∀ (k : Nat) (cs : Array Value) (T : TypeId),w.heap[k]? = some (Obj.cells cs T (0,0)) → P T → w'.heap[k]? = w.heap[k]?
theorem KpT.of {w w' : World} {P : TypeId → Prop} (h : Below w.heap.size w w') : KpT w w' P := fun k _ _ hk _ => h.block k (Array.getElem?_eq_some_iff.1 hk).1
theorem KpT.own {w w' : World} {P : TypeId → Prop} (h : KpT w w' P) {base e size n : Nat} {v : Value} {xs : List Value} (ho : w.ownsRow base e size v n xs) (hP : P e) : ∀ g,v.ownBlock = some g → w'.heap[g]? = w.heap[g]? := fun g hg => by
 obtain ⟨cs,hc⟩ := qi ho hg
 exact h g cs e hc hP
def PTy (T : TypeId) : Prop := T = 65 ∨ T = 3 ∨ T = 77 ∨ T = 59 ∨ T = 30
def DTy (T : TypeId) : Prop := T = 43 ∨ T = 46 ∨ T = 34
structure PrW (w : World) (B : Nat) (A : AuP) (V : KV) (sB : Nat) (G S C : Nat → Nat) (T : Nat → List Nat) : Prop where
 wa : ∀ i,i < 2 → WaO w (G i) A (T i) V (S i) (C i)
 sb : w.heap[sB]? = some (.cells #[.pointer (some ⟨G 0,0,none⟩),.pointer (some ⟨G 1,0,none⟩)] 30 (0,0))
 ge : ∀ i,i < 2 → B ≤ G i ∧ B ≤ S i
 sge : B ≤ sB
 ng : G 0 ≠ G 1
 ns : S 0 ≠ S 1
structure DoW (w : World) (B : Nat) (A : AuP) (aA : Option Addr) (cA : Nat) (aG : Option Addr) (nG cG : Nat) (aN : Option Addr) (nN cN : Nat) (mB : Nat) (D Y : Nat → Nat) (X : Nat → Option Addr) (T : Nat → List Nat) : Prop where
 dw : ∀ i,i < 2 → RwB w (D i) A.p aA A.nA cA aG nG cG aN nN cN (X i) (T i).length (Y i)
 dl : ∀ i,i < 2 → w.ownsRow B 46 1 (.slice (X i) (T i).length (Y i)) (T i).length (ltV (T i))
 mb : w.heap[mB]? = some (.cells #[.pointer (some ⟨D 0,0,none⟩),.pointer (some ⟨D 1,0,none⟩)] 34 (0,0))
 ge : ∀ i,i < 2 → B ≤ D i
 sge : B ≤ mB
 nd : D 0 ≠ D 1
theorem ty_ne {w : World} {a b : Nat} {c1 c2 : Array Value} {T1 T2 : TypeId} (h1 : w.heap[a]? = some (.cells c1 T1 (0,0))) (h2 : w.heap[b]? = some (.cells c2 T2 (0,0))) (hT : T1 ≠ T2) : a ≠ b := fun e => by
 subst e
 rw [h2] at h1
 injection h1 with h1
 injection h1 with _ h1 _
 exact hT h1.symm
theorem kn_ty {w : World} {b : Nat} {A : AuP} {V : KV} (h : KnV w b A V) {k : Nat} (hk : V.bk A k) : ∃ cs T,w.heap[k]? = some (.cells cs T (0,0)) ∧ (T = 3 ∨ T = 77 ∨ T = 59) := by
 obtain ⟨us,h3,_⟩ := KnW.td h
 obtain ⟨zs,h5,_⟩ := KnW.od h
 rcases hk with hk | hk | hk | hk
 ·obtain ⟨cs,hc⟩ := qi (KnW.gd h) hk; exact ⟨cs,_,hc,.inl rfl⟩
 ·obtain ⟨cs,hc⟩ := qi (KnW.nd h) hk; exact ⟨cs,_,hc,.inr (.inl rfl)⟩
 ·obtain ⟨cs,hc⟩ := qi h3 hk; exact ⟨cs,_,hc,.inr (.inr rfl)⟩
 ·obtain ⟨cs,hc⟩ := qi h5 hk; exact ⟨cs,_,hc,.inl rfl⟩
theorem PrW.keep {w w' : World} {B : Nat} {A : AuP} {V : KV} {sB : Nat} {G S C : Nat → Nat} {T : Nat → List Nat} (h : PrW w B A V sB G S C T) (hk : KpT w w' PTy) : PrW w' B A V sB G S C T := by
 refine ⟨fun i hi => (h.wa i hi).far (fun k hm => ?_) (fun k hm => ?_),(hk _ _ _ h.sb (.inr (.inr (.inr (.inr rfl))))).trans h.sb,h.ge,h.sge,h.ng,h.ns⟩
 ·rcases hm with rfl | rfl
  ·exact hk _ _ _ (h.wa i hi).blk (.inl rfl)
  ·exact hk.own (h.wa i hi).st (.inr (.inl rfl)) _ rfl
 ·obtain ⟨cs,U,hc,hU⟩ := kn_ty (h.wa i hi).kn hm
  refine hk k cs U hc ?_
  rcases hU with rfl | rfl | rfl
  ·exact .inr (.inl rfl)
  ·exact .inr (.inr (.inl rfl))
  ·exact .inr (.inr (.inr (.inl rfl)))
theorem DoW.keep {w w' : World} {B : Nat} {A : AuP} {aA : Option Addr} {cA : Nat} {aG : Option Addr} {nG cG : Nat} {aN : Option Addr} {nN cN : Nat} {mB : Nat} {D Y : Nat → Nat} {X : Nat → Option Addr} {T : Nat → List Nat} (h : DoW w B A aA cA aG nG cG aN nN cN mB D Y X T) (hk : KpT w w' DTy) : DoW w' B A aA cA aG nG cG aN nN cN mB D Y X T :=
 ⟨fun i hi => ⟨(hk _ _ _ (h.dw i hi).blk (.inl rfl)).trans (h.dw i hi).blk⟩,fun i hi => qf (h.dl i hi) (hk.own (h.dl i hi) (.inr (.inl rfl))),(hk _ _ _ h.mb (.inr (.inr rfl))).trans h.mb,h.ge,h.sge,h.nd⟩
theorem PrW.cell {w : World} {B : Nat} {A : AuP} {V : KV} {sB : Nat} {G S C : Nat → Nat} {T : Nat → List Nat} (h : PrW w B A V sB G S C T) {i : Nat} (hi : i < 2) : w.cell? ⟨sB,i,none⟩ = some (.pointer (some ⟨G i,0,none⟩)) := by
 rw [q6 h.sb]
 rcases (show i = 0 ∨ i = 1 by omega) with rfl | rfl <;> rfl
theorem DoW.cell {w : World} {B : Nat} {A : AuP} {aA : Option Addr} {cA : Nat} {aG : Option Addr} {nG cG : Nat} {aN : Option Addr} {nN cN : Nat} {mB : Nat} {D Y : Nat → Nat} {X : Nat → Option Addr} {T : Nat → List Nat} (h : DoW w B A aA cA aG nG cG aN nN cN mB D Y X T) {i : Nat} (hi : i < 2) : w.cell? ⟨mB,i,none⟩ = some (.pointer (some ⟨D i,0,none⟩)) := by
 rw [q6 h.mb]
 rcases (show i = 0 ∨ i = 1 by omega) with rfl | rfl <;> rfl
theorem q20 {w w' : World} {A : AuP} {ts : List Nat} {V : KV} {g gS cS : Nat} {F : Nat → Prop} (h : WaO w g A ts V gS cS) (hF : Fr w w' (moW g gS) F) : KpT w w' DTy := fun k cs T hk hT => by
 refine hF.keep k (Array.getElem?_eq_some_iff.1 hk).1 fun hm => ?_
 obtain ⟨c2,hc2⟩ := qi h.st rfl
 rcases hm with rfl | rfl
 ·have h1 := h.blk
  rw [hk] at h1
  injection h1 with h1
  injection h1 with _ h1 _
  subst h1
  rcases hT with h | h | h <;> exact absurd h (by decide)
 ·rw [hk] at hc2
  injection hc2 with h1
  injection h1 with _ h1 _
  subst h1
  rcases hT with h | h | h <;> exact absurd h (by decide)
theorem q3N {w w' : World} {g : Nat} {cs : Array Value} (hg : w.heap[g]? = some (.cells cs 43 (0,0))) (h : OneW w w' g) : KpT w w' PTy := fun k c2 T hk hT => by
 refine h.block k (Array.getElem?_eq_some_iff.1 hk).1 fun e => ?_
 subst e
 rw [hk] at hg
 injection hg with h1
 injection h1 with _ h1 _
 subst h1
 rcases hT with h | h | h | h | h <;> exact absurd h (by decide)
theorem PrW.step {w w' : World} {B : Nat} {A : AuP} {V : KV} {sB : Nat} {G S C : Nat → Nat} {T : Nat → List Nat} (h : PrW w B A V sB G S C T) (hBw : B ≤ w.heap.size) {i : Nat} (hi : i < 2) {us : List Nat} {S' C' : Nat} (hW : WaO w' (G i) A us V S' C') (hF : Fr w w' (moW (G i) (S i)) (moW (G i) S')) :
  PrW w' B A V sB G (updN S i S') (updN C i C') (updN T i us) := by
 have hns : ∀ j,j < 2 → j ≠ i → G j ≠ G i ∧ S j ≠ S i := fun j hj hji => by
  have h1 := h.ng
  have h2 := h.ns
  rcases (show (i = 0 ∧ j = 1) ∨ (i = 1 ∧ j = 0) by omega) with ⟨rfl,rfl⟩ | ⟨rfl,rfl⟩
  ·exact ⟨Ne.symm h1,Ne.symm h2⟩
  ·exact ⟨h1,h2⟩
 obtain ⟨ci,hci⟩ := qi (h.wa i hi).st rfl
 have hfar : ∀ k cs U,w.heap[k]? = some (.cells cs U (0,0)) → k ≠ G i → k ≠ S i → w'.heap[k]? = w.heap[k]? := fun k cs U hk h1 h2 => hF.keep k (Array.getElem?_eq_some_iff.1 hk).1 (by rintro (e | e); exact h1 e; exact h2 e)
 have hS' : S' = S i ∨ w.heap.size ≤ S' := by
  rcases hF.foot S' (.inr rfl) with (h1 | h1) | h1
  ·exact absurd h1.symm hW.gs
  ·exact .inl h1
  ·exact .inr h1
 refine ⟨fun j hj => ?_,?_,fun j hj => ?_,h.sge,h.ng,?_⟩
 ·by_cases e : j = i
  ·subst e
   rw [qb,qb,qb]; exact hW
  ·rw [qc _ _ e,qc _ _ e,qc _ _ e]
   obtain ⟨cj,hcj⟩ := qi (h.wa j hj).st rfl
   refine (h.wa j hj).far (fun k hm => ?_) (fun k hm => ?_)
   ·rcases hm with rfl | rfl
    ·exact hfar _ _ _ (h.wa j hj).blk (hns j hj e).1 (ty_ne (h.wa j hj).blk hci (by decide))
    ·exact hfar _ _ _ hcj (ty_ne hcj (h.wa i hi).blk (by decide)) (hns j hj e).2
   ·obtain ⟨cs,U,hc,hU⟩ := kn_ty (h.wa j hj).kn hm
    refine hfar k cs U hc ?_ ?_
    ·intro e2; exact (h.wa i hi).ng (e2 ▸ hm)
    ·intro e2; exact (h.wa i hi).nS (e2 ▸ hm)
 ·exact (hfar _ _ _ h.sb (ty_ne h.sb (h.wa i hi).blk (by decide)) (ty_ne h.sb hci (by decide))).trans h.sb
 ·by_cases e : j = i
  ·subst e
   rw [qb]
   refine ⟨(h.ge j hj).1,?_⟩
   rcases hS' with h1 | h1
   ·rw [h1]; exact (h.ge j hj).2
   ·omega
  ·rw [qc _ _ e]; exact h.ge j hj
 ·have key : ∀ j,j < 2 → j ≠ i → S j ≠ S' := fun j hj hji => by
   rcases hS' with h1 | h1
   ·rw [h1]; exact (hns j hj hji).2
   ·have := (h.wa j hj).slt; omega
  rcases (show i = 0 ∨ i = 1 by omega) with rfl | rfl
  ·rw [qb,qc _ _ (by decide)]; exact Ne.symm (key 1 (by decide) (by decide))
  ·rw [qb,qc _ _ (by decide)]; exact key 0 (by decide) (by decide)
theorem DoW.step {w w' : World} {B : Nat} {A : AuP} {aA : Option Addr} {cA : Nat} {aG : Option Addr} {nG cG : Nat} {aN : Option Addr} {nN cN : Nat} {mB : Nat} {D Y : Nat → Nat} {X : Nat → Option Addr} {T : Nat → List Nat} (h : DoW w B A aA cA aG nG cG aN nN cN mB D Y X T) {i : Nat} (hi : i < 2) {us : List Nat} {d : Option Addr} {c : Nat} (hW : RwB w' (D i) A.p aA A.nA cA aG nG cG aN nN cN d us.length c) (hL : w'.ownsRow B 46 1 (.slice d us.length c) us.length (ltV us)) (hO : OneW w w' (D i)) :
  DoW w' B A aA cA aG nG cG aN nN cN mB D (updN Y i c) (updN X i d) (updN T i us) := by
 have hnd : ∀ j,j < 2 → j ≠ i → D j ≠ D i := fun j hj hji => by
  have h1 := h.nd
  rcases (show (i = 0 ∧ j = 1) ∨ (i = 1 ∧ j = 0) by omega) with ⟨rfl,rfl⟩ | ⟨rfl,rfl⟩
  ·exact Ne.symm h1
  ·exact h1
 have hfar : ∀ k cs U,w.heap[k]? = some (.cells cs U (0,0)) → k ≠ D i → w'.heap[k]? = w.heap[k]? := fun k cs U hk h1 => hO.block k (Array.getElem?_eq_some_iff.1 hk).1 h1
 refine ⟨fun j hj => ?_,fun j hj => ?_,?_,h.ge,h.sge,h.nd⟩
 ·by_cases e : j = i
  ·subst e
   rw [qb,qb,qb]; exact hW
  ·rw [qc _ _ e,qc _ _ e,qc _ _ e]
   exact ⟨(hfar _ _ _ (h.dw j hj).blk (hnd j hj e)).trans (h.dw j hj).blk⟩
 ·by_cases e : j = i
  ·subst e
   rw [qb,qb,qb]; exact hL
  ·rw [qc _ _ e,qc _ _ e,qc _ _ e]
   exact qf (h.dl j hj) fun q hq => by
    obtain ⟨cs,hc⟩ := qi (h.dl j hj) hq
    exact hfar q cs _ hc (ty_ne hc (h.dw i hi).blk (by decide))
 ·exact (hfar _ _ _ h.mb (ty_ne h.mb (h.dw i hi).blk (by decide))).trans h.mb
end Go.Proofs.Ytjpggahiddhanaa
