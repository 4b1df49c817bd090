/- Texts of the proof, put together: what it uses. -/
import Derived.Test.YtcnkgokfjafgkaaZ20
import Derived.Test.YtcnkgokfjafgkaaZ21
import Derived.Test.YtcnkgokfjafgkaaZ22
set_option maxRecDepth 100000
set_option maxHeartbeats 16000000
namespace Go.Proofs.Ytcnkgokfjafgkaa
open Go.RowKit Go.Maps
def PuR (L : Nat) (p : Int) (nA : Nat) (bs : List Bool) (N : List Gd) (gs : List Int) (q : Int) (nB : Nat) (cs : List Bool) (M : List Gd) (hs : List Int) (op : Bool → Bool → Bool) (w : World) (e : Ending) (w' : World) : Prop :=
 Below w.heap.size w w' ∧ ((∃ z : Int,z ≠ 0 ∧ e = .returned (.tuple #[auZ,.int .i64 z]) ∧ ((z = 12 ∧ ¬ (MayG p nA N gs ∧ MayG q nB M hs)) ∨ (z = 2 ∧ p ≠ q))) ∨
  (MayG p nA N gs ∧ MayG q nB M hs ∧ p = q ∧ ∃ (bs' : List Bool) (gs' : List Int) (N' : List Gd) (a1 : Option Addr) (c1 : Nat) (a2 : Option Addr) (c2 : Nat) (a3 : Option Addr) (c3 : Nat),e = .returned (.tuple #[.agg #[.int .i64 p,.slice a1 bs'.length c1,.slice a2 bs'.length c2,.slice a3 N'.length c3],.int .i64 0]) ∧ PutKb p (sayT p op bs N gs cs M hs) bs' N' gs' ∧ OwA w' w.heap.size a1 c1 a2 c2 a3 c3 bs' gs' N' ∧ bs'.length ≤ L))
def acT2 (bs bs' : List Bool) (op : Bool → Bool → Bool) (T : List PrP) (k : Nat) : List Bool := (List.range (T.length + 1)).map fun n => decide (n < k) && (decide (0 < n) && saysE bs bs' op (metE T n))
theorem q8P (bs bs' : List Bool) (op : Bool → Bool → Bool) (T : List PrP) (k : Nat) : (acT2 bs bs' op T k).length = T.length + 1 := by simp [acT2]
theorem q82 (bs bs' : List Bool) (op : Bool → Bool → Bool) (T : List PrP) : acT2 bs bs' op T 0 = List.replicate (T.length + 1) false := by
 have h := q2c false (List.range (T.length + 1))
 rw [List.length_range] at h
 rw [← h,acT2]
 exact List.map_congr_left fun n _ => by simp
theorem q8O (bs bs' : List Bool) (op : Bool → Bool → Bool) (T : List PrP) : acT2 bs bs' op T (T.length + 1) = acE bs bs' op T := by
 unfold acT2 acE
 refine List.map_congr_left fun n hn => ?_
 rw [decide_eq_true (List.mem_range.1 hn)]; rfl
theorem q81 (bs bs' : List Bool) (op : Bool → Bool → Bool) (T : List PrP) (k : Nat) : (acT2 bs bs' op T k).set k (decide (0 < k) && saysE bs bs' op (metE T k)) = acT2 bs bs' op T (k + 1) := by
 apply List.ext_getElem (by simp [acT2])
 intro i h1 h2
 rw [List.getElem_set]
 simp only [acT2,List.getElem_map,List.getElem_range]
 by_cases e : k = i
 ·subst e; rw [if_pos rfl,decide_eq_true (Nat.lt_succ_self k)]; rfl
 ·rw [if_neg e]
  by_cases e2 : i < k
  ·rw [decide_eq_true e2,decide_eq_true (by omega : i < k + 1)]
  ·rw [decide_eq_false e2,decide_eq_false (by omega : ¬ i < k + 1)]
theorem q8V {w : World} {g : Nat} {bs : List Bool} (h : BoRow w g bs) (hl : bs.length ≤ 1000) : BoSl w (some ⟨g,0,none⟩) bs.length bs.length bs :=
 ⟨rfl,Nat.le_refl _,by unfold maxLen; omega,fun e => (by cases e),fun x hx k hk => by
  injection hx with hx
  subst hx
  rw [q9,Nat.zero_add,h.cellP hk,List.getD_eq_getElem?_getD,List.getElem?_eq_getElem hk]; rfl⟩
theorem q1l (L : Nat) (hL : L ≤ 256) (p : Int) (aA : Option Addr) (nA cA : Nat) (aG : Option Addr) (nG cG : Nat) (aN : Option Addr) (nN cN : Nat) (q : Int) (bA : Option Addr) (mA dA : Nat) (bG : Option Addr) (mG dG : Nat) (bN : Option Addr) (mN dN : Nat) (bs cs : List Bool) (N : List Gd) (gs : List Int) (M : List Gd) (hs : List Int) (w : World)
  (hB : BoSl w aA nA cA bs) (hN : NdSl w aN nN cN N) (hG : ZSl w aG nG cG gs) (hok : ∀ z ∈ gs,I64 z) (kB : BoSl w bA mA dA cs) (kN : NdSl w bN mN dN M) (kG : ZSl w bG mG dG hs) (kok : ∀ z ∈ hs,I64 z) {fid : Nat} {op : Bool → Bool → Bool} (hV : VdF fid op) (hp3 : p ≤ 3)
  (hfew : nA * mA + 1 ≤ L ∨ (bs = cs ∧ N = M ∧ gs = hs ∧ nA = mA ∧ nA + 1 ≤ L)) :
  Calls Try.prog 21 #[.agg #[.int .i64 p,.slice aA nA cA,.slice aG nG cG,.slice aN nN cN],.agg #[.int .i64 q,.slice bA mA dA,.slice bG mG dG,.slice bN mN dN],vdV fid] w (PuR L p nA bs N gs q mA cs M hs op w) := by
 obtain ⟨Z,eZ⟩ : ∃ Z,Z = PuR L p nA bs N gs q mA cs M hs op w := ⟨_,rfl⟩
 have HZ : Hid (∀ e w',PuR L p nA bs N gs q mA cs M hs op w e w' → Z e w') := fun e w' h => by rw [eZ]; exact h
 rw [← eZ]
 clear eZ
 obtain ⟨w2,hw2⟩ : ∃ w2,w2 = ((w.alloc (.cells #[.int .i64 p,.slice aA nA cA,.slice aG nG cG,.slice aN nN cN] 26 (0,0))).alloc (.cells #[.int .i64 q,.slice bA mA dA,.slice bG mG dG,.slice bN mN dN] 26 (0,0))).alloc (.cells #[.int .i64 0,.slice none 0 0,.slice none 0 0,.slice none 0 0] 26 (0,0)) := ⟨_,rfl⟩
 have hb2 : Below w.heap.size w w2 := by rw [hw2]; exact q7 (q7 (q5 w _) (q5 _ _)) (q5 _ _)
 have k0 : BkH w2 w.heap.size (auO (.int .i64 p) (.slice aA nA cA) (.slice aG nG cG) (.slice aN nN cN)) := by
  rw [hw2]; exact ((qy w _).upB (q5 _ _)).upB (q5 _ _)
 have k1 : BkH w2 (w.heap.size + 1) (auO (.int .i64 q) (.slice bA mA dA) (.slice bG mG dG) (.slice bN mN dN)) := by
  rw [hw2]; exact (qh (by simp)).upB (q5 _ _)
 have HK2 : Hid (BkH w2 (w.heap.size + 1 + 1) (auO (.int .i64 0) (.slice none 0 0) (.slice none 0 0) (.slice none 0 0))) := by
  show BkH _ _ _
  rw [hw2]; exact qh (by simp)
 have jc := q1P p aA nA cA aG nG cG aN nN cN q bA mA dA bG mG dG bN mN dN bs cs N gs M hs w2 (hB.up hb2) (hN.up hb2) (hG.up hb2) hok (kB.up hb2) (kN.up hb2) (kG.up hb2) kok
 have HW2 : Hid _ := hw2
 have HB2 : Hid _ := hb2
 obtain ⟨⟨s0,s1,s2,s3⟩,_⟩ := k0.cells4
 obtain ⟨⟨v0,v1,v2,v3⟩,_⟩ := k1.cells4
 have HR1 : Hid (w.heap.size ≤ w.heap.size + 1 + 1) := by show _ ≤ _; omega
 clear hB hN hG hok kB kN kG kok k1 hw2 hb2 k0
 unfold vdV
 go_enter Try.func21,Try.ntmps21
 go_wp2_with (rw [← HW2.out])
 generalize w.heap.size + 1 + 1 = rb at *
 refine jc.mono ?_
 rintro e w3 ⟨hb3,⟨z,hz,rfl,hwhy⟩ | ⟨hM,kM,hpq,bs',gs',N',a1,c1,a2,c2,a3,c3,cs',hs',M',b1,d1,b2,d2,b3,d3,rfl,hMA,hO,hMB,hP⟩⟩
 ·have hz1 : (z != 0) = true := by simpa using hz
  have hb4 : Below w3.heap.size w3 ((w3.alloc (.cells #[.int .i64 0,.slice none 0 0,.slice none 0 0,.slice none 0 0] 26 (0,0))).alloc (.cells #[.int .i64 0,.slice none 0 0,.slice none 0 0,.slice none 0 0] 26 (0,0))) := q7 (q5 _ _) (q5 _ _)
  obtain ⟨w4,hw4⟩ : ∃ w4,w4 = (w3.alloc (.cells #[.int .i64 0,.slice none 0 0,.slice none 0 0,.slice none 0 0] 26 (0,0))).alloc (.cells #[.int .i64 0,.slice none 0 0,.slice none 0 0,.slice none 0 0] 26 (0,0)) := ⟨_,rfl⟩
  rw [← hw4] at hb4
  have hk4 := BkH.upB (BkH.upB HK2.out hb3) hb4
  obtain ⟨⟨r0,r1,r2,r3⟩,g0,g1,g2,g3⟩ := hk4.cells4
  obtain ⟨WF,hWF⟩ : ∃ WF,WF = (((w4.setCell ⟨rb,0,none⟩ (.int .i64 0)).setCell ⟨rb,1,none⟩ (.slice none 0 0)).setCell ⟨rb,2,none⟩ (.slice none 0 0)).setCell ⟨rb,3,none⟩ (.slice none 0 0) := ⟨_,rfl⟩
  have HFW : Hid (WF.heap[rb]? = some (.cells #[.int .i64 0,.slice none 0 0,.slice none 0 0,.slice none 0 0] 26 (0,0))) := by rw [hWF]; exact qK hk4
  have HE : Hid (Z (.returned (.tuple #[auZ,.int .i64 z])) WF) := HZ.out _ _ ⟨by rw [hWF]; exact qn (q7 (q7 HB2.out hb3) hb4) HR1.out,.inl ⟨z,hz,rfl,hwhy⟩⟩
  have HWF : Hid _ := hWF
  have HW4 : Hid _ := hw4
  clear jc s0 s1 s2 s3 v0 v1 v2 v3 hwhy HZ hk4 hWF hw4 hb3 hb4
  go_upto_if 25 with fail
  rw [← HW4.out]
  go_wp2
  rw [← HWF.out]
  have z0 := q6 HFW.out 0
  have z1 := q6 HFW.out 1
  have z2 := q6 HFW.out 2
  have z3 := q6 HFW.out 3
  refine bodyPost_ret (v := .tuple #[auZ,.int .i64 z]) ?_ rfl HE.out
  simp at z0 z1 z2 z3
  simp [results,Try.results21,go_sem,z0,z1,z2,z3]
 ·subst hpq
  obtain ⟨w4,hw4⟩ : ∃ w4,w4 = (w3.alloc (.cells #[.int .i64 p,.slice a1 bs'.length c1,.slice a2 bs'.length c2,.slice a3 N'.length c3] 26 (0,0))).alloc (.cells #[.int .i64 p,.slice b1 cs'.length d1,.slice b2 cs'.length d2,.slice b3 M'.length d3] 26 (0,0)) := ⟨_,rfl⟩
  have hb34 : Below w3.heap.size w3 w4 := by rw [hw4]; exact q7 (q5 w3 _) (q5 _ _)
  have kx : BkH w4 w3.heap.size (auO (.int .i64 p) (.slice a1 bs'.length c1) (.slice a2 bs'.length c2) (.slice a3 N'.length c3)) := by
   rw [hw4]; exact (qy w3 _).upB (q5 _ _)
  have ky : BkH w4 (w3.heap.size + 1) (auO (.int .i64 p) (.slice b1 cs'.length d1) (.slice b2 cs'.length d2) (.slice b3 M'.length d3)) := by
   rw [hw4]; exact qh (by simp)
  have hA := hMA.all hM
  have hBB := hMB.all kM
  have HA : Hid _ := hA
  have HBB : Hid _ := hBB
  have hO4 := hO.up hb34
  have hP4 := hP.up hb34
  have jb := q2F p a1 bs'.length c1 a2 bs'.length c2 a3 N'.length c3 b1 cs'.length d1 b2 cs'.length d2 b3 M'.length d3 bs' cs' N' gs' M' hs' w4 hA.may hO4.nd hO4.zs hO4.bo hBB.may hP4.nd hP4.zs hP4.bo
  have HFEW : Hid (∀ T : List PrP,BfE bs'.length cs'.length (2 ^ p.toNat) (rwA p N' gs') (rwA p M' hs') (T.length + 1) 0 T → T.length + 1 ≤ L) := fun T hbf => by
   rcases hfew with h1 | ⟨e1,e2,e3,e4,h1⟩
   ·have := hbf.few
    have := Nat.mul_le_mul hA.few hBB.few
    omega
   ·subst e1 e2 e3 e4
    obtain ⟨f1,f2,f3⟩ := (q9g hMA hM hMB kM).2 (fun u _ => rfl)
    subst f1 f2 f3
    have := hbf.diag (hA.may.rows _) hA.may.s1
    have := hA.few
    omega
  have HFIN : Hid (∀ (bs2 : List Bool) (gs2 : List Int) (N2 : List Gd) (x1 : Option Addr) (y1 : Nat) (x2 : Option Addr) (y2 : Nat) (x3 : Option Addr) (y3 : Nat) (w' : World),Below w.heap.size w w' → PutKb p (fun u => op (bs'.getD (runP (rwA p N' gs') 0 u) false) (cs'.getD (runP (rwA p M' hs') 0 u) false)) bs2 N2 gs2 → OwA w' w.heap.size x1 y1 x2 y2 x3 y3 bs2 gs2 N2 → bs2.length ≤ L → Z (.returned (.tuple #[.agg #[.int .i64 p,.slice x1 bs2.length y1,.slice x2 bs2.length y2,.slice x3 N2.length y3],.int .i64 0])) w') := fun bs2 gs2 N2 x1 y1 x2 y2 x3 y3 w' hb hk ho hl => by
   refine HZ.out _ _ ⟨hb,.inr ⟨hM,kM,rfl,bs2,gs2,N2,x1,y1,x2,y2,x3,y3,rfl,hk.mono fun u hu _ => ?_,ho,hl⟩⟩
   show op _ _ = op _ _
   rw [hA.same u hu,hBB.same u hu]; rfl
  have HB4 : Hid _ := q7 (q7 HB2.out hb3) hb34
  have HK4 : Hid (BkH w4 rb (auO (.int .i64 0) (.slice none 0 0) (.slice none 0 0) (.slice none 0 0))) := BkH.upB (BkH.upB HK2.out hb3) hb34
  have HKX : Hid (BkH w4 w3.heap.size (auO (.int .i64 p) (.slice a1 bs'.length c1) (.slice a2 bs'.length c2) (.slice a3 N'.length c3))) := kx
  obtain ⟨⟨xa0,xa1,xa2,xa3⟩,_⟩ := kx.cells4
  obtain ⟨⟨ya0,ya1,ya2,ya3⟩,_⟩ := ky.cells4
  have HW4 : Hid _ := hw4
  clear jc s0 s1 s2 s3 v0 v1 v2 v3 HZ hO hP hO4 hP4 hMA hMB hM kM kx ky hb3 hb34 hw4 hA hBB HK2 hfew
  go_wp2_with (rw [← HW4.out])
  refine jb.mono ?_
  rintro e w5 ⟨hb5,D,F,rfl,hpr,hD0,hDA,hDB,hDK,hDb,hDb',hDR,hDR'⟩
  have HOK : Hid (PDok D) := ⟨by rw [hDA]; exact HA.out.may.s1,by rw [hDB]; exact HBB.out.may.s1,by rw [hDA]; exact HA.out.may.s2,by rw [hDB]; exact HBB.out.may.s2,by rw [hDK]; exact HA.out.may.k256,by rw [hDA,hDK,hDR]; exact HA.out.may.rows _,by rw [hDB,hDK,hDR']; exact HBB.out.may.rows _⟩
  have HP0 : Hid (0 ≤ p) := HA.out.may.p0
  have HFEW2 : Hid (∀ T : List PrP,BfE D.nA D.nB D.K D.R D.R' (T.length + 1) 0 T → T.length + 1 ≤ L) := by rw [hDA,hDB,hDK,hDR,hDR']; exact HFEW.out
  have HDK : Hid _ := hDK
  have HFIN2 : Hid (∀ (bs2 : List Bool) (gs2 : List Int) (N2 : List Gd) (x1 : Option Addr) (y1 : Nat) (x2 : Option Addr) (y2 : Nat) (x3 : Option Addr) (y3 : Nat) (w' : World),Below w.heap.size w w' → PutKb p (fun u => op (D.bs.getD (runP D.R 0 u) false) (D.bs'.getD (runP D.R' 0 u) false)) bs2 N2 gs2 → OwA w' w.heap.size x1 y1 x2 y2 x3 y3 bs2 gs2 N2 → bs2.length ≤ L → Z (.returned (.tuple #[.agg #[.int .i64 p,.slice x1 bs2.length y1,.slice x2 bs2.length y2,.slice x3 N2.length y3],.int .i64 0])) w') := by rw [hDb,hDb',hDR,hDR']; exact HFIN.out
  have jg := q3e hpr HOK.out (by rw [hDK]; exact Nat.pow_pos (by decide))
  have HK5 : Hid (BkH w5 rb (auO (.int .i64 0) (.slice none 0 0) (.slice none 0 0) (.slice none 0 0))) := BkH.upB HK4.out hb5
  have HX5 : Hid (BkH w5 w3.heap.size (auO (.int .i64 p) (.slice a1 bs'.length c1) (.slice a2 bs'.length c2) (.slice a3 N'.length c3))) := BkH.upB HKX.out hb5
  have HB5 : Hid _ := q7 HB4.out hb5
  have HPR : Hid _ := hpr
  have HW5 : Hid (w4.heap.size ≤ w5.heap.size ∧ ∀ k,F k → w4.heap.size ≤ k) := ⟨hb5.size,by rw [← hD0]; exact hpr.ge⟩
  clear jb HFIN HFEW hpr hD0 hDA hDB hDK hDb hDb' hDR hDR' hb5 xa0 xa1 xa2 xa3 ya0 ya1 ya2 ya3 HA HBB HW4
  go_wp2_with fail
  refine jg.mono ?_
  rintro e w6 ⟨T,F6,B,gB,cB,rfl,hp6,hf6,hgB,hbw6,hbk6,hbf6,hrc6⟩
  have hS := HFEW2.out T hbf6
  have hbel6 : Below w4.heap.size w5 w6 := hf6.below HW5.out.2 HW5.out.1
  have h34 : rb < w4.heap.size ∧ w3.heap.size < w4.heap.size := ⟨(Array.getElem?_eq_some_iff.1 HK4.out).1,(Array.getElem?_eq_some_iff.1 HKX.out).1⟩
  have HK6 : Hid (BkH w6 rb (auO (.int .i64 0) (.slice none 0 0) (.slice none 0 0) (.slice none 0 0))) := (hbel6.block rb h34.1).trans HK5.out
  have HX6 : Hid (BkH w6 w3.heap.size (auO (.int .i64 p) (.slice a1 bs'.length c1) (.slice a2 bs'.length c2) (.slice a3 N'.length c3))) := (hbel6.block _ h34.2).trans HX5.out
  have HB6 : Hid _ := HB5.out.trans (hbel6.mono HB4.out.size)
  have HP6 : Hid _ := hp6
  have HBW6 : Hid (BwM w6 gB (T.length + 1) B) := hbw6
  have HBK6 : Hid _ := hbk6
  have HBF6 : Hid (BfE D.nA D.nB D.K D.R D.R' (T.length + 1) 0 T) := hbf6
  have HRC6 : Hid (RchE D.R D.R' D.K (T.length + 1) T) := hrc6
  obtain ⟨gm,capm,hblk,_,_⟩ := hp6.read
  have c5 : w6.cell? ⟨D.b,5,none⟩ = some (.slice (some ⟨gm,0,none⟩) (T.length + 1) capm) := q6 hblk 5
  have hmk := fun w => q3P (T.length + 1) (T.length + 1) ((T.length + 1 : Nat) : Int) ((T.length + 1 : Nat) : Int) rfl rfl (Nat.le_refl _) (by omega) w
  obtain ⟨C,hC⟩ : ∃ C,C = ((zB (T.length + 1)).map Value.bool).toArray := ⟨_,rfl⟩
  rw [← hC] at hmk
  have HA0 : Hid (BoRow (w6.alloc (.cells C 4)) w6.heap.size (acT2 D.bs D.bs' op T 0)) := by
   show BoRow _ _ _
   unfold BoRow
   rw [q82,hC]
   exact (MapKept.heap_alloc w6 _).1
  have HB7 : Hid (Below w6.heap.size w6 (w6.alloc (.cells C 4))) := q5 _ _
  clear jg hp6 hf6 hgB hbw6 hbk6 hbf6 hrc6 hblk hbel6 h34 HK5 HX5 HPR HW5 HFEW2 hC HK4 HKX
  generalize hSS : T.length + 1 = S at *
  have HSS : Hid _ := hSS
  clear hSS
  have HVF : Hid (VdF fid op) := hV
  clear hV
  go_wp2
  clear hmk c5
  go_loopw [41] (fun i wr => ∃ k : Nat,k ≤ S ∧ i = .int .i64 (k : Int) ∧ Hid (BoRow wr w6.heap.size (acT2 D.bs D.bs' op T k)) ∧ Hid (Below w6.heap.size w6 wr)) (fun i _ => S - (intOf i).toNat)
  case atStart => exact ⟨0,Nat.zero_le _,rfl,HA0,HB7⟩
  case round =>
   clear HA0 HB7
   obtain ⟨k,hk,rfl,HR,HB⟩ := hrel
   by_cases hlt : k < S
   ·have hkT : k < T.length + 1 := by rw [HSS.out]; exact hlt
    obtain ⟨hm1,hm2⟩ := HBF6.out.mt HOK.out.nA HOK.out.nB hkT
    have ixa := fun w' => q2s w6.heap.size S k hlt w'
    have hl2 : k < (acT2 D.bs D.bs' op T k).length := by rw [q8P]; exact hkT
    have ca := HR.out.cellP hl2
    have fa := HR.out.fzP k
    have HNX : Hid _ := q81 D.bs D.bs' op T k
    have ji := q3i (HP6.out.up HB.out) k hkT hm1 hm2 HVF.out
    unfold vdV at ji
    clear hl2 hm1 hm2
    generalize (acT2 D.bs D.bs' op T k).getD k false = x0 at *
    by_cases hk0 : 0 < k
    ·have HN : Hid (∀ w9,Below wr.heap.size wr w9 → w9.cell? ⟨w6.heap.size,k,none⟩ = some (.bool x0) ∧ w9.frozen? ⟨w6.heap.size,k,none⟩ = false ∧ BoRow (w9.setCell ⟨w6.heap.size,k,none⟩ (.bool (saysE D.bs D.bs' op (metE T k)))) w6.heap.size (acT2 D.bs D.bs' op T (k + 1)) ∧ Below w6.heap.size w6 (w9.setCell ⟨w6.heap.size,k,none⟩ (.bool (saysE D.bs D.bs' op (metE T k))))) := fun w9 h9 => by
      have hr9 := HR.out.upP h9
      refine ⟨q8 ca h9,hr9.fzP k,?_,(q7 HB.out h9).setCell (Nat.le_refl _) _⟩
      rw [← HNX.out,decide_eq_true hk0]
      exact hr9.setP k _
     clear HNX HR HB ca fa
     generalize saysE D.bs D.bs' op (metE T k) = y at *
     go_wp2_with fail
     refine ji.mono ?_
     rintro e w9 ⟨rfl,h9⟩
     obtain ⟨n1,n2,n3,n4⟩ := HN.out w9 h9
     have HR9 : Hid (BoRow (w9.setCell ⟨w6.heap.size,k,none⟩ (.bool y)) w6.heap.size (acT2 D.bs D.bs' op T (k + 1))) := n3
     have HB9 : Hid _ := n4
     clear n3 n4 HN h9 ji
     go_wp2
     go_roundw
     case rel => exact ⟨k + 1,by omega,by go_num,HR9,HB9⟩
     case measure => simp [intOf]; omega
    ·have hk00 : k = 0 := by omega
     have HR9 : Hid (BoRow (wr.setCell ⟨w6.heap.size,k,none⟩ (.bool false)) w6.heap.size (acT2 D.bs D.bs' op T (k + 1))) := by
      show BoRow _ _ _
      rw [← HNX.out,decide_eq_false hk0]
      exact HR.out.setP k _
     have HB9 : Hid (Below w6.heap.size w6 (wr.setCell ⟨w6.heap.size,k,none⟩ (.bool false))) := HB.out.setCell (Nat.le_refl _) _
     clear HNX HR HB ji
     subst hk00
     go_wp2
     go_roundw
     case rel => exact ⟨0 + 1,by omega,by go_num,HR9,HB9⟩
     case measure => simp [intOf]; omega
   ·obtain rfl : k = S := by omega
    have hac : acT2 D.bs D.bs' op T k = acE D.bs D.bs' op T := by rw [← HSS.out,q8O]
    rw [hac] at HR
    have hal : (acE D.bs D.bs' op T).length = k := by rw [q9W]; exact HSS.out
    have hbo := q8V HR.out (by rw [hal]; omega)
    rw [hal] at hbo
    have hall := fun x l (hx : x < T.length + 1) (hl : l < D.K) => (show BfE D.nA D.nB D.K D.R D.R' (T.length + 1) 0 T by rw [HSS.out]; exact HBF6.out).all (Nat.le_refl _) HOK.out.nB HOK.out.rB hx hl
    have hrw := (q3E hall).rows
    rw [HSS.out] at hrw
    have jcl := q3p k D.K (rowsE D.R D.R' D.K T) B (acE D.bs D.bs' op T) gB cB (some ⟨w6.heap.size,0,none⟩) k wr (BwM.up HBW6.out HB.out) hbo hrw HBK6.out (by have := HSS.out; omega) (by omega) HOK.out.k2 (fun s hs => HBK6.out.few (by omega) HOK.out.k2 hs)
    have HBO : Hid _ := hbo
    have HB8 : Hid _ := HB.out
    clear hac hall hrw HR HB hbo
    obtain ⟨w7,hw7⟩ : ∃ w7,w7 = wr := ⟨_,rfl⟩
    subst hw7
    go_wp2_with fail
    refine jcl.mono ?_
    rintro e w9 ⟨hb9,go,of,rfl,hgo,hof,hol,hcl,hlt9⟩
    have hb69 := q7 HB8.out hb9
    have hbfT : BfE D.nA D.nB D.K D.R D.R' (T.length + 1) 0 T := by rw [HSS.out]; exact HBF6.out
    have hrcT : RchE D.R D.R' D.K (T.length + 1) T := by rw [HSS.out]; exact HRC6.out
    have hclT := hcl
    rw [← HSS.out] at hclT
    have hmin : MinP (T.length + 1) D.K (rowsE D.R D.R' D.K T) (acE D.bs D.bs' op T) (fun s => of.getD s 0) (List.range (T.length + 1)) (ddP (fun s => of.getD s 0) (List.range (T.length + 1))) := by
     have h1 := hbfT
     have h2 := hrcT
     have h3 := hclT
     have h4 := HOK.out.rB
     rw [HDK.out] at h1 h2 h3 h4 ⊢
     exact q68 h1 h2 HOK.out.nB h4 h3
    have js := q4c (HP6.out.up hb69) HOK.out p HP0.out hp3 HDK.out go of hof (by rw [HSS.out]; exact hol) (some ⟨w6.heap.size,0,none⟩) k (acE D.bs D.bs' op T) (by rw [HSS.out]; exact HBO.out.up hb9) (by rw [HSS.out]; omega) _ hmin (by rw [HSS.out]; exact hlt9) hbfT
    rw [HSS.out] at js
    have HFN : Hid (∀ (gs2 : List Int) (N2 : List Gd) (x1 : Option Addr) (y1 : Nat) (x2 : Option Addr) (y2 : Nat) (x3 : Option Addr) (y3 : Nat) (w' : World),Below w.heap.size w w' → stoM p.toNat (rowC (fun s => of.getD s 0) (ddP (fun s => of.getD s 0) (List.range k)) (rowsE D.R D.R' D.K T)) = (gs2,N2) → OwA w' w.heap.size x1 y1 x2 y2 x3 y3 (accC (ddP (fun s => of.getD s 0) (List.range k)) (acE D.bs D.bs' op T)) gs2 N2 → Z (.returned (.tuple #[.agg #[.int .i64 p,.slice x1 (ddP (fun s => of.getD s 0) (List.range k)).length y1,.slice x2 (ddP (fun s => of.getD s 0) (List.range k)).length y2,.slice x3 N2.length y3],.int .i64 0])) w') := fun gs2 N2 x1 y1 x2 y2 x3 y3 w' hb hst hOw => by
     have h1 := hbfT
     have h2 := hrcT
     have h3 := hclT
     have h4 := HOK.out.rB
     have h5 := hst
     rw [← HSS.out] at h5
     rw [HDK.out] at h1 h2 h3 h4 h5
     have hcan := q9s (bs := D.bs) (bs' := D.bs') (op := op) h1 h2 HOK.out.nB h4 h3 HP0.out hp3 (by rw [HSS.out]; omega) h5
     rw [HSS.out] at hcan
     have hlen := hmin.len
     rw [HSS.out] at hlen
     have := HFIN2.out _ gs2 N2 x1 y1 x2 y2 x3 y3 w' hb hcan hOw (by rw [q19]; omega)
     rw [q19] at this
     exact this
    have HK9 : Hid (BkH w9 rb (auO (.int .i64 0) (.slice none 0 0) (.slice none 0 0) (.slice none 0 0))) := BkH.upB HK6.out hb69
    have hx9 := BkH.upB HX6.out hb69
    have x0 : w9.cell? ⟨w3.heap.size,0,none⟩ = some (.int .i64 p) := q6 hx9 0
    have HB9 : Hid _ := q7 HB6.out hb69
    clear jcl hb9 hof hol hcl hlt9 hb69 hbfT hrcT hclT hmin hx9 hgo
    generalize ddP (fun s => of.getD s 0) (List.range k) = FF at *
    go_wp2_with fail
    refine js.mono ?_
    rintro e w10 ⟨hb10,gs2,N2,x1,y1,x2,y2,x3,y3,rfl,hst,hOw⟩
    have hk10 := BkH.upB HK9.out hb10
    obtain ⟨⟨r0,r1,r2,r3⟩,g0,g1,g2,g3⟩ := hk10.cells4
    have hlt10 := (Array.getElem?_eq_some_iff.1 HK9.out).1
    obtain ⟨WF,hWF⟩ : ∃ WF,WF = (((w10.setCell ⟨rb,0,none⟩ (.int .i64 p)).setCell ⟨rb,1,none⟩ (.slice x1 FF.length y1)).setCell ⟨rb,2,none⟩ (.slice x2 FF.length y2)).setCell ⟨rb,3,none⟩ (.slice x3 N2.length y3) := ⟨_,rfl⟩
    have HFW : Hid (WF.heap[rb]? = some (.cells #[.int .i64 p,.slice x1 FF.length y1,.slice x2 FF.length y2,.slice x3 N2.length y3] 26 (0,0))) := by rw [hWF]; exact qK hk10
    have HE : Hid (Z (.returned (.tuple #[.agg #[.int .i64 p,.slice x1 FF.length y1,.slice x2 FF.length y2,.slice x3 N2.length y3],.int .i64 0])) WF) := by
     refine HFN.out gs2 N2 x1 y1 x2 y2 x3 y3 WF ?_ hst ?_
     ·rw [hWF]; exact qn (q7 HB9.out hb10) HR1.out
     ·rw [hWF]; exact (hOw.on q1x hlt10).base HB9.out.size
    have HWF : Hid _ := hWF
    clear js HFN hb10 hst hOw hk10 hWF x0
    go_wp2
    rw [← HWF.out]
    have z0 := q6 HFW.out 0
    have z1 := q6 HFW.out 1
    have z2 := q6 HFW.out 2
    have z3 := q6 HFW.out 3
    refine bodyPost_ret (v := .tuple #[.agg #[.int .i64 p,.slice x1 FF.length y1,.slice x2 FF.length y2,.slice x3 N2.length y3],.int .i64 0]) ?_ rfl HE.out
    simp at z0 z1 z2 z3
    simp [results,Try.results21,go_sem,z0,z1,z2,z3]
theorem PuR.base {L : Nat} {p : Int} {nA : Nat} {bs : List Bool} {N : List Gd} {gs : List Int} {q : Int} {nB : Nat} {cs : List Bool} {M : List Gd} {hs : List Int} {op : Bool → Bool → Bool} {w w2 w3 : World} {e : Ending} (h : PuR L p nA bs N gs q nB cs M hs op w2 e w3) (hb2 : Below w.heap.size w w2) {rb : Nat} (hrb : rb < w2.heap.size) (hwb : w.heap.size ≤ rb) :
  ∃ p0 s1 n1 k1 s2 n2 k2 s3 n3 k3 z,e = .returned (.tuple #[.agg #[.int .i64 p0,.slice s1 n1 k1,.slice s2 n2 k2,.slice s3 n3 k3],.int .i64 z]) ∧ Below w2.heap.size w2 w3 ∧ PuR L p nA bs N gs q nB cs M hs op w (.returned (.tuple #[.agg #[.int .i64 p0,.slice s1 n1 k1,.slice s2 n2 k2,.slice s3 n3 k3],.int .i64 z])) (set4 w3 rb (.int .i64 p0) (.slice s1 n1 k1) (.slice s2 n2 k2) (.slice s3 n3 k3)) := by
 obtain ⟨h1,⟨z,hz,rfl,h2⟩ | ⟨h2,h3,h4,bs',gs',N',a1,c1,a2,c2,a3,c3,rfl,h5,h6,h7⟩⟩ := h
 ·exact ⟨_,_,_,_,_,_,_,_,_,_,_,rfl,h1,qn (q7 hb2 h1) hwb,.inl ⟨z,hz,rfl,h2⟩⟩
 ·exact ⟨_,_,_,_,_,_,_,_,_,_,_,rfl,h1,qn (q7 hb2 h1) hwb,.inr ⟨h2,h3,h4,bs',gs',N',a1,c1,a2,c2,a3,c3,rfl,h5,(h6.on q1x hrb).base hb2.size,h7⟩⟩
theorem q1H (L : Nat) (hL : L ≤ 256) (p : Int) (aA : Option Addr) (nA cA : Nat) (aG : Option Addr) (nG cG : Nat) (aN : Option Addr) (nN cN : Nat) (bs : List Bool) (N : List Gd) (gs : List Int) (w : World)
  (hB : BoSl w aA nA cA bs) (hN : NdSl w aN nN cN N) (hG : ZSl w aG nG cG gs) (hok : ∀ z ∈ gs,I64 z) (hp3 : p ≤ 3) (hfew : nA + 1 ≤ L) :
  Calls Try.prog 8 #[.agg #[.int .i64 p,.slice aA nA cA,.slice aG nG cG,.slice aN nN cN]] w (PuR L p nA bs N gs p nA bs N gs (fun x _ => !x) w) := by
 obtain ⟨Z,eZ⟩ : ∃ Z,Z = PuR L p nA bs N gs p nA bs N gs (fun x _ => !x) w := ⟨_,rfl⟩
 obtain ⟨w2,hw2⟩ : ∃ w2,w2 = (w.alloc (.cells #[.int .i64 p,.slice aA nA cA,.slice aG nG cG,.slice aN nN cN] 26 (0,0))).alloc (.cells #[.int .i64 0,.slice none 0 0,.slice none 0 0,.slice none 0 0] 26 (0,0)) := ⟨_,rfl⟩
 have hb2 : Below w.heap.size w w2 := by rw [hw2]; exact q7 (q5 w _) (q5 _ _)
 have k0 : BkH w2 w.heap.size (auO (.int .i64 p) (.slice aA nA cA) (.slice aG nG cG) (.slice aN nN cN)) := by
  rw [hw2]; exact (qy w _).upB (q5 _ _)
 have HK2 : Hid (BkH w2 (w.heap.size + 1) (auO (.int .i64 0) (.slice none 0 0) (.slice none 0 0) (.slice none 0 0))) := by
  show BkH _ _ _
  rw [hw2]; exact qh (by simp)
 have HZ : Hid (∀ e w',PuR L p nA bs N gs p nA bs N gs (fun x _ => !x) w2 e w' → ∃ p0 s1 n1 k1 s2 n2 k2 s3 n3 k3 z,e = .returned (.tuple #[.agg #[.int .i64 p0,.slice s1 n1 k1,.slice s2 n2 k2,.slice s3 n3 k3],.int .i64 z]) ∧ Below w2.heap.size w2 w' ∧ Z (.returned (.tuple #[.agg #[.int .i64 p0,.slice s1 n1 k1,.slice s2 n2 k2,.slice s3 n3 k3],.int .i64 z])) (set4 w' (w.heap.size + 1) (.int .i64 p0) (.slice s1 n1 k1) (.slice s2 n2 k2) (.slice s3 n3 k3))) := fun e w' h => by
  rw [eZ]
  exact h.base hb2 (Array.getElem?_eq_some_iff.1 HK2.out).1 (by omega)
 rw [← eZ]
 clear eZ
 have jc := q1l L hL p aA nA cA aG nG cG aN nN cN p aA nA cA aG nG cG aN nN cN bs bs N gs N gs w2 (hB.up hb2) (hN.up hb2) (hG.up hb2) hok (hB.up hb2) (hN.up hb2) (hG.up hb2) hok q7W hp3 (.inr ⟨rfl,rfl,rfl,rfl,hfew⟩)
 have HW2 : Hid _ := hw2
 obtain ⟨⟨e0,e1,e2,e3⟩,_⟩ := k0.cells4
 unfold vdV at jc
 clear hB hN hG hok hw2 hb2 k0
 go_enter Try.func8,Try.ntmps8
 go_wp2_with (rw [← HW2.out])
 generalize w.heap.size + 1 = rb at *
 refine jc.mono ?_
 intro e w3 h3
 obtain ⟨p0,s1,n1,k1,s2,n2,k2,s3,n3,k3,z,rfl,hb3,h4⟩ := HZ.out e w3 h3
 have HE : Hid (Z (.returned (.tuple #[.agg #[.int .i64 p0,.slice s1 n1 k1,.slice s2 n2 k2,.slice s3 n3 k3],.int .i64 z])) (set4 w3 rb (.int .i64 p0) (.slice s1 n1 k1) (.slice s2 n2 k2) (.slice s3 n3 k3))) := h4
 have hk3 := BkH.upB HK2.out hb3
 obtain ⟨⟨r0,r1,r2,r3⟩,g0,g1,g2,g3⟩ := hk3.cells4
 obtain ⟨WF,hWF⟩ : ∃ WF,WF = (((w3.setCell ⟨rb,0,none⟩ (.int .i64 p0)).setCell ⟨rb,1,none⟩ (.slice s1 n1 k1)).setCell ⟨rb,2,none⟩ (.slice s2 n2 k2)).setCell ⟨rb,3,none⟩ (.slice s3 n3 k3) := ⟨_,rfl⟩
 have HFW : Hid (WF.heap[rb]? = some (.cells #[.int .i64 p0,.slice s1 n1 k1,.slice s2 n2 k2,.slice s3 n3 k3] 26 (0,0))) := by rw [hWF]; exact qK hk3
 have HE2 : Hid (Z (.returned (.tuple #[.agg #[.int .i64 p0,.slice s1 n1 k1,.slice s2 n2 k2,.slice s3 n3 k3],.int .i64 z])) WF) := by rw [hWF]; exact HE.out
 have HWF : Hid _ := hWF
 clear h3 h4 jc HZ hk3 hWF HE hb3 e0 e1 e2 e3
 go_wp2
 rw [← HWF.out]
 have z0 := q6 HFW.out 0
 have z1 := q6 HFW.out 1
 have z2 := q6 HFW.out 2
 have z3 := q6 HFW.out 3
 refine bodyPost_ret (v := .tuple #[.agg #[.int .i64 p0,.slice s1 n1 k1,.slice s2 n2 k2,.slice s3 n3 k3],.int .i64 z]) ?_ rfl HE2.out
 simp at z0 z1 z2 z3
 simp [results,Try.results8,go_sem,z0,z1,z2,z3]
theorem q2L (L : Nat) (hL : L ≤ 256) (p : Int) (aA : Option Addr) (nA cA : Nat) (aG : Option Addr) (nG cG : Nat) (aN : Option Addr) (nN cN : Nat) (q : Int) (bA : Option Addr) (mA dA : Nat) (bG : Option Addr) (mG dG : Nat) (bN : Option Addr) (mN dN : Nat) (bs cs : List Bool) (N : List Gd) (gs : List Int) (M : List Gd) (hs : List Int) (w : World)
  (hB : BoSl w aA nA cA bs) (hN : NdSl w aN nN cN N) (hG : ZSl w aG nG cG gs) (hok : ∀ z ∈ gs,I64 z) (kB : BoSl w bA mA dA cs) (kN : NdSl w bN mN dN M) (kG : ZSl w bG mG dG hs) (kok : ∀ z ∈ hs,I64 z) (hp3 : p ≤ 3) (hfew : nA * mA + 1 ≤ L) :
  Calls Try.prog 9 #[.agg #[.int .i64 p,.slice aA nA cA,.slice aG nG cG,.slice aN nN cN],.agg #[.int .i64 q,.slice bA mA dA,.slice bG mG dG,.slice bN mN dN]] w (PuR L p nA bs N gs q mA cs M hs (fun x y => x && y) w) := by
 obtain ⟨Z,eZ⟩ : ∃ Z,Z = PuR L p nA bs N gs q mA cs M hs (fun x y => x && y) w := ⟨_,rfl⟩
 obtain ⟨w2,hw2⟩ : ∃ w2,w2 = ((w.alloc (.cells #[.int .i64 p,.slice aA nA cA,.slice aG nG cG,.slice aN nN cN] 26 (0,0))).alloc (.cells #[.int .i64 q,.slice bA mA dA,.slice bG mG dG,.slice bN mN dN] 26 (0,0))).alloc (.cells #[.int .i64 0,.slice none 0 0,.slice none 0 0,.slice none 0 0] 26 (0,0)) := ⟨_,rfl⟩
 have hb2 : Below w.heap.size w w2 := by rw [hw2]; exact q7 (q7 (q5 w _) (q5 _ _)) (q5 _ _)
 have k0 : BkH w2 w.heap.size (auO (.int .i64 p) (.slice aA nA cA) (.slice aG nG cG) (.slice aN nN cN)) := by
  rw [hw2]; exact ((qy w _).upB (q5 _ _)).upB (q5 _ _)
 have k1 : BkH w2 (w.heap.size + 1) (auO (.int .i64 q) (.slice bA mA dA) (.slice bG mG dG) (.slice bN mN dN)) := by
  rw [hw2]; exact (qh (by simp)).upB (q5 _ _)
 have HK2 : Hid (BkH w2 (w.heap.size + 1 + 1) (auO (.int .i64 0) (.slice none 0 0) (.slice none 0 0) (.slice none 0 0))) := by
  show BkH _ _ _
  rw [hw2]; exact qh (by simp)
 have HZ : Hid (∀ e w',PuR L p nA bs N gs q mA cs M hs (fun x y => x && y) w2 e w' → ∃ p0 s1 n1 k1 s2 n2 k2 s3 n3 k3 z,e = .returned (.tuple #[.agg #[.int .i64 p0,.slice s1 n1 k1,.slice s2 n2 k2,.slice s3 n3 k3],.int .i64 z]) ∧ Below w2.heap.size w2 w' ∧ Z (.returned (.tuple #[.agg #[.int .i64 p0,.slice s1 n1 k1,.slice s2 n2 k2,.slice s3 n3 k3],.int .i64 z])) (set4 w' (w.heap.size + 1 + 1) (.int .i64 p0) (.slice s1 n1 k1) (.slice s2 n2 k2) (.slice s3 n3 k3))) := fun e w' h => by
  rw [eZ]
  exact h.base hb2 (Array.getElem?_eq_some_iff.1 HK2.out).1 (by omega)
 rw [← eZ]
 clear eZ
 have jc := q1l L hL p aA nA cA aG nG cG aN nN cN q bA mA dA bG mG dG bN mN dN bs cs N gs M hs w2 (hB.up hb2) (hN.up hb2) (hG.up hb2) hok (kB.up hb2) (kN.up hb2) (kG.up hb2) kok q7V hp3 (.inl hfew)
 have HW2 : Hid _ := hw2
 obtain ⟨⟨e0,e1,e2,e3⟩,_⟩ := k0.cells4
 obtain ⟨⟨v0,v1,v2,v3⟩,_⟩ := k1.cells4
 unfold vdV at jc
 clear hB hN hG hok kB kN kG kok k1 hw2 hb2 k0
 go_enter Try.func9,Try.ntmps9
 go_wp2_with (rw [← HW2.out])
 generalize w.heap.size + 1 + 1 = rb at *
 refine jc.mono ?_
 intro e w3 h3
 obtain ⟨p0,s1,n1,k1,s2,n2,k2,s3,n3,k3,z,rfl,hb3,h4⟩ := HZ.out e w3 h3
 have HE : Hid (Z (.returned (.tuple #[.agg #[.int .i64 p0,.slice s1 n1 k1,.slice s2 n2 k2,.slice s3 n3 k3],.int .i64 z])) (set4 w3 rb (.int .i64 p0) (.slice s1 n1 k1) (.slice s2 n2 k2) (.slice s3 n3 k3))) := h4
 have hk3 := BkH.upB HK2.out hb3
 obtain ⟨⟨r0,r1,r2,r3⟩,g0,g1,g2,g3⟩ := hk3.cells4
 obtain ⟨WF,hWF⟩ : ∃ WF,WF = (((w3.setCell ⟨rb,0,none⟩ (.int .i64 p0)).setCell ⟨rb,1,none⟩ (.slice s1 n1 k1)).setCell ⟨rb,2,none⟩ (.slice s2 n2 k2)).setCell ⟨rb,3,none⟩ (.slice s3 n3 k3) := ⟨_,rfl⟩
 have HFW : Hid (WF.heap[rb]? = some (.cells #[.int .i64 p0,.slice s1 n1 k1,.slice s2 n2 k2,.slice s3 n3 k3] 26 (0,0))) := by rw [hWF]; exact qK hk3
 have HE2 : Hid (Z (.returned (.tuple #[.agg #[.int .i64 p0,.slice s1 n1 k1,.slice s2 n2 k2,.slice s3 n3 k3],.int .i64 z])) WF) := by rw [hWF]; exact HE.out
 have HWF : Hid _ := hWF
 clear h3 h4 jc HZ hk3 hWF HE hb3 e0 e1 e2 e3 v0 v1 v2 v3
 go_wp2
 rw [← HWF.out]
 have z0 := q6 HFW.out 0
 have z1 := q6 HFW.out 1
 have z2 := q6 HFW.out 2
 have z3 := q6 HFW.out 3
 refine bodyPost_ret (v := .tuple #[.agg #[.int .i64 p0,.slice s1 n1 k1,.slice s2 n2 k2,.slice s3 n3 k3],.int .i64 z]) ?_ rfl HE2.out
 simp at z0 z1 z2 z3
 simp [results,Try.results9,go_sem,z0,z1,z2,z3]
theorem q3h (L : Nat) (hL : L ≤ 256) (p : Int) (aA : Option Addr) (nA cA : Nat) (aG : Option Addr) (nG cG : Nat) (aN : Option Addr) (nN cN : Nat) (q : Int) (bA : Option Addr) (mA dA : Nat) (bG : Option Addr) (mG dG : Nat) (bN : Option Addr) (mN dN : Nat) (bs cs : List Bool) (N : List Gd) (gs : List Int) (M : List Gd) (hs : List Int) (w : World)
  (hB : BoSl w aA nA cA bs) (hN : NdSl w aN nN cN N) (hG : ZSl w aG nG cG gs) (hok : ∀ z ∈ gs,I64 z) (kB : BoSl w bA mA dA cs) (kN : NdSl w bN mN dN M) (kG : ZSl w bG mG dG hs) (kok : ∀ z ∈ hs,I64 z) (hp3 : p ≤ 3) (hfew : nA * mA + 1 ≤ L) :
  Calls Try.prog 10 #[.agg #[.int .i64 p,.slice aA nA cA,.slice aG nG cG,.slice aN nN cN],.agg #[.int .i64 q,.slice bA mA dA,.slice bG mG dG,.slice bN mN dN]] w (PuR L p nA bs N gs q mA cs M hs (fun x y => x || y) w) := by
 obtain ⟨Z,eZ⟩ : ∃ Z,Z = PuR L p nA bs N gs q mA cs M hs (fun x y => x || y) w := ⟨_,rfl⟩
 obtain ⟨w2,hw2⟩ : ∃ w2,w2 = ((w.alloc (.cells #[.int .i64 p,.slice aA nA cA,.slice aG nG cG,.slice aN nN cN] 26 (0,0))).alloc (.cells #[.int .i64 q,.slice bA mA dA,.slice bG mG dG,.slice bN mN dN] 26 (0,0))).alloc (.cells #[.int .i64 0,.slice none 0 0,.slice none 0 0,.slice none 0 0] 26 (0,0)) := ⟨_,rfl⟩
 have hb2 : Below w.heap.size w w2 := by rw [hw2]; exact q7 (q7 (q5 w _) (q5 _ _)) (q5 _ _)
 have k0 : BkH w2 w.heap.size (auO (.int .i64 p) (.slice aA nA cA) (.slice aG nG cG) (.slice aN nN cN)) := by
  rw [hw2]; exact ((qy w _).upB (q5 _ _)).upB (q5 _ _)
 have k1 : BkH w2 (w.heap.size + 1) (auO (.int .i64 q) (.slice bA mA dA) (.slice bG mG dG) (.slice bN mN dN)) := by
  rw [hw2]; exact (qh (by simp)).upB (q5 _ _)
 have HK2 : Hid (BkH w2 (w.heap.size + 1 + 1) (auO (.int .i64 0) (.slice none 0 0) (.slice none 0 0) (.slice none 0 0))) := by
  show BkH _ _ _
  rw [hw2]; exact qh (by simp)
 have HZ : Hid (∀ e w',PuR L p nA bs N gs q mA cs M hs (fun x y => x || y) w2 e w' → ∃ p0 s1 n1 k1 s2 n2 k2 s3 n3 k3 z,e = .returned (.tuple #[.agg #[.int .i64 p0,.slice s1 n1 k1,.slice s2 n2 k2,.slice s3 n3 k3],.int .i64 z]) ∧ Below w2.heap.size w2 w' ∧ Z (.returned (.tuple #[.agg #[.int .i64 p0,.slice s1 n1 k1,.slice s2 n2 k2,.slice s3 n3 k3],.int .i64 z])) (set4 w' (w.heap.size + 1 + 1) (.int .i64 p0) (.slice s1 n1 k1) (.slice s2 n2 k2) (.slice s3 n3 k3))) := fun e w' h => by
  rw [eZ]
  exact h.base hb2 (Array.getElem?_eq_some_iff.1 HK2.out).1 (by omega)
 rw [← eZ]
 clear eZ
 have jc := q1l L hL p aA nA cA aG nG cG aN nN cN q bA mA dA bG mG dG bN mN dN bs cs N gs M hs w2 (hB.up hb2) (hN.up hb2) (hG.up hb2) hok (kB.up hb2) (kN.up hb2) (kG.up hb2) kok q8K hp3 (.inl hfew)
 have HW2 : Hid _ := hw2
 obtain ⟨⟨e0,e1,e2,e3⟩,_⟩ := k0.cells4
 obtain ⟨⟨v0,v1,v2,v3⟩,_⟩ := k1.cells4
 unfold vdV at jc
 clear hB hN hG hok kB kN kG kok k1 hw2 hb2 k0
 go_enter Try.func10,Try.ntmps10
 go_wp2_with (rw [← HW2.out])
 generalize w.heap.size + 1 + 1 = rb at *
 refine jc.mono ?_
 intro e w3 h3
 obtain ⟨p0,s1,n1,k1,s2,n2,k2,s3,n3,k3,z,rfl,hb3,h4⟩ := HZ.out e w3 h3
 have HE : Hid (Z (.returned (.tuple #[.agg #[.int .i64 p0,.slice s1 n1 k1,.slice s2 n2 k2,.slice s3 n3 k3],.int .i64 z])) (set4 w3 rb (.int .i64 p0) (.slice s1 n1 k1) (.slice s2 n2 k2) (.slice s3 n3 k3))) := h4
 have hk3 := BkH.upB HK2.out hb3
 obtain ⟨⟨r0,r1,r2,r3⟩,g0,g1,g2,g3⟩ := hk3.cells4
 obtain ⟨WF,hWF⟩ : ∃ WF,WF = (((w3.setCell ⟨rb,0,none⟩ (.int .i64 p0)).setCell ⟨rb,1,none⟩ (.slice s1 n1 k1)).setCell ⟨rb,2,none⟩ (.slice s2 n2 k2)).setCell ⟨rb,3,none⟩ (.slice s3 n3 k3) := ⟨_,rfl⟩
 have HFW : Hid (WF.heap[rb]? = some (.cells #[.int .i64 p0,.slice s1 n1 k1,.slice s2 n2 k2,.slice s3 n3 k3] 26 (0,0))) := by rw [hWF]; exact qK hk3
 have HE2 : Hid (Z (.returned (.tuple #[.agg #[.int .i64 p0,.slice s1 n1 k1,.slice s2 n2 k2,.slice s3 n3 k3],.int .i64 z])) WF) := by rw [hWF]; exact HE.out
 have HWF : Hid _ := hWF
 clear h3 h4 jc HZ hk3 hWF HE hb3 e0 e1 e2 e3 v0 v1 v2 v3
 go_wp2
 rw [← HWF.out]
 have z0 := q6 HFW.out 0
 have z1 := q6 HFW.out 1
 have z2 := q6 HFW.out 2
 have z3 := q6 HFW.out 3
 refine bodyPost_ret (v := .tuple #[.agg #[.int .i64 p0,.slice s1 n1 k1,.slice s2 n2 k2,.slice s3 n3 k3],.int .i64 z]) ?_ rfl HE2.out
 simp at z0 z1 z2 z3
 simp [results,Try.results10,go_sem,z0,z1,z2,z3]
theorem q2M (L : Nat) (hL : L ≤ 256) (p : Int) (aA : Option Addr) (nA cA : Nat) (aG : Option Addr) (nG cG : Nat) (aN : Option Addr) (nN cN : Nat) (q : Int) (bA : Option Addr) (mA dA : Nat) (bG : Option Addr) (mG dG : Nat) (bN : Option Addr) (mN dN : Nat) (bs cs : List Bool) (N : List Gd) (gs : List Int) (M : List Gd) (hs : List Int) (w : World)
  (hB : BoSl w aA nA cA bs) (hN : NdSl w aN nN cN N) (hG : ZSl w aG nG cG gs) (hok : ∀ z ∈ gs,I64 z) (kB : BoSl w bA mA dA cs) (kN : NdSl w bN mN dN M) (kG : ZSl w bG mG dG hs) (kok : ∀ z ∈ hs,I64 z) (hp3 : p ≤ 3) (hfew : nA * mA + 1 ≤ L) :
  Calls Try.prog 11 #[.agg #[.int .i64 p,.slice aA nA cA,.slice aG nG cG,.slice aN nN cN],.agg #[.int .i64 q,.slice bA mA dA,.slice bG mG dG,.slice bN mN dN]] w (PuR L p nA bs N gs q mA cs M hs (fun x y => x != y) w) := by
 obtain ⟨Z,eZ⟩ : ∃ Z,Z = PuR L p nA bs N gs q mA cs M hs (fun x y => x != y) w := ⟨_,rfl⟩
 obtain ⟨w2,hw2⟩ : ∃ w2,w2 = ((w.alloc (.cells #[.int .i64 p,.slice aA nA cA,.slice aG nG cG,.slice aN nN cN] 26 (0,0))).alloc (.cells #[.int .i64 q,.slice bA mA dA,.slice bG mG dG,.slice bN mN dN] 26 (0,0))).alloc (.cells #[.int .i64 0,.slice none 0 0,.slice none 0 0,.slice none 0 0] 26 (0,0)) := ⟨_,rfl⟩
 have hb2 : Below w.heap.size w w2 := by rw [hw2]; exact q7 (q7 (q5 w _) (q5 _ _)) (q5 _ _)
 have k0 : BkH w2 w.heap.size (auO (.int .i64 p) (.slice aA nA cA) (.slice aG nG cG) (.slice aN nN cN)) := by
  rw [hw2]; exact ((qy w _).upB (q5 _ _)).upB (q5 _ _)
 have k1 : BkH w2 (w.heap.size + 1) (auO (.int .i64 q) (.slice bA mA dA) (.slice bG mG dG) (.slice bN mN dN)) := by
  rw [hw2]; exact (qh (by simp)).upB (q5 _ _)
 have HK2 : Hid (BkH w2 (w.heap.size + 1 + 1) (auO (.int .i64 0) (.slice none 0 0) (.slice none 0 0) (.slice none 0 0))) := by
  show BkH _ _ _
  rw [hw2]; exact qh (by simp)
 have HZ : Hid (∀ e w',PuR L p nA bs N gs q mA cs M hs (fun x y => x != y) w2 e w' → ∃ p0 s1 n1 k1 s2 n2 k2 s3 n3 k3 z,e = .returned (.tuple #[.agg #[.int .i64 p0,.slice s1 n1 k1,.slice s2 n2 k2,.slice s3 n3 k3],.int .i64 z]) ∧ Below w2.heap.size w2 w' ∧ Z (.returned (.tuple #[.agg #[.int .i64 p0,.slice s1 n1 k1,.slice s2 n2 k2,.slice s3 n3 k3],.int .i64 z])) (set4 w' (w.heap.size + 1 + 1) (.int .i64 p0) (.slice s1 n1 k1) (.slice s2 n2 k2) (.slice s3 n3 k3))) := fun e w' h => by
  rw [eZ]
  exact h.base hb2 (Array.getElem?_eq_some_iff.1 HK2.out).1 (by omega)
 rw [← eZ]
 clear eZ
 have jc := q1l L hL p aA nA cA aG nG cG aN nN cN q bA mA dA bG mG dG bN mN dN bs cs N gs M hs w2 (hB.up hb2) (hN.up hb2) (hG.up hb2) hok (kB.up hb2) (kN.up hb2) (kG.up hb2) kok q4I hp3 (.inl hfew)
 have HW2 : Hid _ := hw2
 obtain ⟨⟨e0,e1,e2,e3⟩,_⟩ := k0.cells4
 obtain ⟨⟨v0,v1,v2,v3⟩,_⟩ := k1.cells4
 unfold vdV at jc
 clear hB hN hG hok kB kN kG kok k1 hw2 hb2 k0
 go_enter Try.func11,Try.ntmps11
 go_wp2_with (rw [← HW2.out])
 generalize w.heap.size + 1 + 1 = rb at *
 refine jc.mono ?_
 intro e w3 h3
 obtain ⟨p0,s1,n1,k1,s2,n2,k2,s3,n3,k3,z,rfl,hb3,h4⟩ := HZ.out e w3 h3
 have HE : Hid (Z (.returned (.tuple #[.agg #[.int .i64 p0,.slice s1 n1 k1,.slice s2 n2 k2,.slice s3 n3 k3],.int .i64 z])) (set4 w3 rb (.int .i64 p0) (.slice s1 n1 k1) (.slice s2 n2 k2) (.slice s3 n3 k3))) := h4
 have hk3 := BkH.upB HK2.out hb3
 obtain ⟨⟨r0,r1,r2,r3⟩,g0,g1,g2,g3⟩ := hk3.cells4
 obtain ⟨WF,hWF⟩ : ∃ WF,WF = (((w3.setCell ⟨rb,0,none⟩ (.int .i64 p0)).setCell ⟨rb,1,none⟩ (.slice s1 n1 k1)).setCell ⟨rb,2,none⟩ (.slice s2 n2 k2)).setCell ⟨rb,3,none⟩ (.slice s3 n3 k3) := ⟨_,rfl⟩
 have HFW : Hid (WF.heap[rb]? = some (.cells #[.int .i64 p0,.slice s1 n1 k1,.slice s2 n2 k2,.slice s3 n3 k3] 26 (0,0))) := by rw [hWF]; exact qK hk3
 have HE2 : Hid (Z (.returned (.tuple #[.agg #[.int .i64 p0,.slice s1 n1 k1,.slice s2 n2 k2,.slice s3 n3 k3],.int .i64 z])) WF) := by rw [hWF]; exact HE.out
 have HWF : Hid _ := hWF
 clear h3 h4 jc HZ hk3 hWF HE hb3 e0 e1 e2 e3 v0 v1 v2 v3
 go_wp2
 rw [← HWF.out]
 have z0 := q6 HFW.out 0
 have z1 := q6 HFW.out 1
 have z2 := q6 HFW.out 2
 have z3 := q6 HFW.out 3
 refine bodyPost_ret (v := .tuple #[.agg #[.int .i64 p0,.slice s1 n1 k1,.slice s2 n2 k2,.slice s3 n3 k3],.int .i64 z]) ?_ rfl HE2.out
 simp at z0 z1 z2 z3
 simp [results,Try.results11,go_sem,z0,z1,z2,z3]
structure AuW (w : World) (aA : Option Addr) (nA cA : Nat) (aG : Option Addr) (nG cG : Nat) (aN : Option Addr) (nN cN : Nat) (bs : List Bool) (gs : List Int) (N : List Gd) : Prop where
 bo : BoSl w aA nA cA bs
 nd : NdSl w aN nN cN N
 zs : ZSl w aG nG cG gs
theorem AuW.up {w w' : World} {aA : Option Addr} {nA cA : Nat} {aG : Option Addr} {nG cG : Nat} {aN : Option Addr} {nN cN : Nat} {bs : List Bool} {gs : List Int} {N : List Gd} (h : AuW w aA nA cA aG nG cG aN nN cN bs gs N) (hb : Below w.heap.size w w') : AuW w' aA nA cA aG nG cG aN nN cN bs gs N := ⟨h.bo.up hb,h.nd.up hb,h.zs.up hb⟩
theorem OwA.w {w : World} {base : Nat} {a1 : Option Addr} {c1 : Nat} {a2 : Option Addr} {c2 : Nat} {a3 : Option Addr} {c3 : Nat} {bs : List Bool} {gs : List Int} {N : List Gd} (h : OwA w base a1 c1 a2 c2 a3 c3 bs gs N) : AuW w a1 bs.length c1 a2 bs.length c2 a3 N.length c3 bs gs N := ⟨h.bo,h.nd,h.zs⟩
def smBb (p : Int) (nA nG nN : Nat) : Bool := decide (nA ≤ 8) && decide (p ≤ 3) && decide (nN ≤ 100) && decide (nG ≤ 300)
theorem q8w {p : Int} {nA nG nN : Nat} (h : smBb p nA nG nN = true) : nA ≤ 8 ∧ p ≤ 3 ∧ nN ≤ 100 ∧ nG ≤ 300 := by
 simp [smBb] at h; omega
theorem q24 (p : Int) (aA : Option Addr) (nA cA : Nat) (aG : Option Addr) (nG cG : Nat) (aN : Option Addr) (nN cN : Nat) (w : World) :
  Calls Try.prog 7 #[.agg #[.int .i64 p,.slice aA nA cA,.slice aG nG cG,.slice aN nN cN]] w fun e w' => e = .returned (.bool (smBb p nA nG nN)) ∧ Below w.heap.size w w' := by
 have HB0 : Hid _ := q5 w (.cells #[.int .i64 p,.slice aA nA cA,.slice aG nG cG,.slice aN nN cN] 26 (0,0))
 obtain ⟨c0,c1,c2,c3⟩ := qj w p aA nA cA aG nG cG aN nN cN
 have HE : Hid (∀ b,b = smBb p nA nG nN → (Ending.returned (.bool b) = .returned (.bool (smBb p nA nG nN)))) := fun b h => by rw [h]
 have HK : Hid (∀ Z : Prop,(¬ (nA : Int) ≤ 8 → smBb p nA nG nN = false → Z) → ((nA : Int) ≤ 8 → ¬ p ≤ 3 → smBb p nA nG nN = false → Z) → ((nA : Int) ≤ 8 → p ≤ 3 → ¬ (nN : Int) ≤ 100 → smBb p nA nG nN = false → Z) → ((nA : Int) ≤ 8 → p ≤ 3 → (nN : Int) ≤ 100 → ¬ (nG : Int) ≤ 300 → smBb p nA nG nN = false → Z) → ((nA : Int) ≤ 8 → p ≤ 3 → (nN : Int) ≤ 100 → (nG : Int) ≤ 300 → smBb p nA nG nN = true → Z) → Z) := fun Z z1 z2 z3 z4 z5 => by
  by_cases h1 : (nA : Int) ≤ 8
  ·by_cases h2 : p ≤ 3
   ·by_cases h3 : (nN : Int) ≤ 100
    ·by_cases h4 : (nG : Int) ≤ 300
     ·exact z5 h1 h2 h3 h4 (by simp [smBb]; omega)
     ·exact z4 h1 h2 h3 h4 (by simp [smBb]; omega)
    ·exact z3 h1 h2 h3 (by simp [smBb]; omega)
   ·exact z2 h1 h2 (by simp [smBb]; omega)
  ·exact z1 h1 (by simp [smBb]; omega)
 refine HK.out _ (fun k1 kE => ?_) (fun k1 k2 kE => ?_) (fun k1 k2 k3 kE => ?_) (fun k1 k2 k3 k4 kE => ?_) (fun k1 k2 k3 k4 kE => ?_)
 all_goals
  rw [kE]
  clear HK HE kE
  go_enter Try.func7,Try.ntmps7
  go_wp2
  go_ret
  exact ⟨rfl,HB0.out⟩
theorem q5v (p : Int) (aA : Option Addr) (nA cA : Nat) (aG : Option Addr) (nG cG : Nat) (aN : Option Addr) (nN cN : Nat) (bs : List Bool) (gs : List Int) (N : List Gd) (d : Option Addr) (m c : Nat) (ts : List Nat) (w : World) (hM : MayG p nA N gs) (hA : AuW w aA nA cA aG nG cG aN nN cN bs gs N) (hL : LtC w d m c ts) (hl : ts.length ≤ 1024) (ht : LtT p ts) :
  Calls Try.prog 12 #[.agg #[.int .i64 p,.slice aA nA cA,.slice aG nG cG,.slice aN nN cN],.slice d m c] w fun e w' => e = .returned (.bool (acT p bs N gs ts)) ∧ Below w.heap.size w w' := by
 have hb0 := q5 w (.cells #[.int .i64 p,.slice aA nA cA,.slice aG nG cG,.slice aN nN cN] 26 (0,0))
 have HA0 : Hid (AuB (w.alloc (.cells #[.int .i64 p,.slice aA nA cA,.slice aG nG cG,.slice aN nN cN] 26 (0,0))) w.heap.size p aA nA cA aG nG cG aN nN cN) := qj w p aA nA cA aG nG cG aN nN cN
 have HB0 : Hid _ := hb0
 have j1 := q5x p aA nA cA aG nG cG aN nN cN N gs d m c ts _ (hA.nd.up hb0) (hA.zs.up hb0) hM.ok64 (hL.up hb0) (fun x hx => Nat.lt_of_lt_of_le (ht x hx) hM.k256)
 have hr : runP (rowsG N gs (2 ^ p.toNat)) 0 ts < nA := (hM.rows _).run ts 0 hM.s1 ht
 have HU : Hid (∀ v r,RuA p nA N gs ts v r → v = ((runP (rowsG N gs (2 ^ p.toNat)) 0 ts : Nat) : Int) ∧ r = 0) := fun v r h => h.uni (.inr (.inr ⟨hM,q8E hM hl ht,rfl,rfl⟩))
 have HBo : Hid _ := hA.bo
 rw [acT]
 generalize runP (rowsG N gs (2 ^ p.toNat)) 0 ts = s at *
 obtain ⟨bb,hbb1⟩ : ∃ bb,bs.getD s false = bb := ⟨_,rfl⟩
 rw [hbb1]
 have HBB : Hid (bs.getD s false = bb) := hbb1
 have hbl := hA.bo.hlen
 have hbb := Nat.le_trans hA.bo.hcap hA.bo.bd
 unfold maxLen at hbb
 clear hb0 hA hM hL hl ht hbb1
 go_enter Try.func12,Try.ntmps12
 obtain ⟨c0,c1,c2,c3⟩ := HA0.out
 go_wp2_with fail
 refine j1.mono ?_
 rintro e w2 ⟨hb2,v,r,rfl,hru⟩
 obtain ⟨rfl,rfl⟩ := HU.out v r hru
 clear c0 c1 c2 c3
 obtain ⟨c0,c1,c2,c3⟩ := HA0.out.up hb2
 have HB2 : Hid (Below w.heap.size w w2) := q7 HB0.out hb2
 obtain ⟨ib,cb⟩ : (∀ w' : World,(Instr.indexAt 22 (.slice aA nA cA) (.int .i64 s)).run Try.prog w' = .ok (.pointer (some (adOf aA s))) w') ∧ w2.cell? (adOf aA s) = some (.bool (bs.getD s false)) := by
  obtain ⟨ib,cb⟩ := (HBo.out.up HB2.out).at s hr
  rw [← qd] at cb
  exact ⟨fun w' => ib nA w' hr,cb⟩
 have h0 : 0 ≤ (s : Int) := by omega
 have h1 : (s : Int) < (nA : Int) := by omega
 rw [HBB.out] at cb
 generalize adOf aA s = ad at *
 obtain ⟨g1,g2,g3⟩ := ad
 clear j1 hb2 hru HA0 HB0 HBo HU hbb
 go_wp2
 go_ret
 exact ⟨rfl,HB2.out⟩
def PuO (L : Nat) (p : Int) (f : List Nat → Bool) (w : World) (e : Ending) (w' : World) : Prop :=
 ∃ (bs' : List Bool) (gs' : List Int) (N' : List Gd) (a1 : Option Addr) (c1 : Nat) (a2 : Option Addr) (c2 : Nat) (a3 : Option Addr) (c3 : Nat),e = .returned (.tuple #[.agg #[.int .i64 p,.slice a1 bs'.length c1,.slice a2 bs'.length c2,.slice a3 N'.length c3],.int .i64 0]) ∧ Hid (PutKb p f bs' N' gs') ∧ Hid (OwA w' w.heap.size a1 c1 a2 c2 a3 c3 bs' gs' N') ∧ bs'.length ≤ L ∧ Hid (Below w.heap.size w w')
theorem PuR.o {L : Nat} {p : Int} {nA : Nat} {bs : List Bool} {N : List Gd} {gs : List Int} {nB : Nat} {cs : List Bool} {M : List Gd} {hs : List Int} {op : Bool → Bool → Bool} {w : World} {e : Ending} {w' : World} (h : PuR L p nA bs N gs p nB cs M hs op w e w') (hM : MayG p nA N gs) (kM : MayG p nB M hs) : PuO L p (fun u => op (acT p bs N gs u) (acT p cs M hs u)) w e w' := by
 obtain ⟨hb,⟨z,_,_,⟨_,h⟩ | ⟨_,h⟩⟩ | ⟨_,_,_,bs',gs',N',a1,c1,a2,c2,a3,c3,h1,h2,h3,h4⟩⟩ := h
 ·exact absurd ⟨hM,kM⟩ h
 ·exact absurd rfl h
 ·exact ⟨bs',gs',N',a1,c1,a2,c2,a3,c3,h1,h2,h3,h4,hb⟩
def PaO (p : Int) (L : Nat) (f : List Nat → Bool) (w : World) (e : Ending) (w' : World) : Prop :=
 ∃ ts is a c,e = .returned (.tuple #[.slice a ts.length c,.bool is,.int .i64 0]) ∧ Hid (SchT p L f ts is) ∧ Hid (LtC w' a ts.length c ts) ∧ Hid (Below w.heap.size w w')
theorem SrR.o {p : Int} {nA : Nat} {bs : List Bool} {N : List Gd} {gs : List Int} {nB : Nat} {cs : List Bool} {M : List Gd} {hs : List Int} {op : Bool → Bool → Bool} {w : World} {e : Ending} {w' : World} (h : SrR p nA bs N gs p nB cs M hs op w e w') (hM : MayG p nA N gs) (kM : MayG p nB M hs) : PaO p (nA * nB) (fun u => op (acT p bs N gs u) (acT p cs M hs u)) w e w' := by
 obtain ⟨hb,⟨z,_,_,⟨_,h⟩ | ⟨_,h⟩⟩ | ⟨_,_,_,ts,is,a,c,h1,h2,h3⟩⟩ := h
 ·exact absurd ⟨hM,kM⟩ h
 ·exact absurd rfl h
 ·exact ⟨ts,is,a,c,h1,h2,q70 h3,hb⟩
theorem qaK (w : World) (bs : List Bool) (gs : List Int) (N : List Gd) (h1 : bs.length ≤ 1000) (h2 : gs.length ≤ 1000) (h3 : N.length ≤ 1000) (hok : ∀ t ∈ N,GdOk t) :
  AuW (((w.alloc (.cells (bs.map Value.bool).toArray 4)).alloc (.cells (gs.map (Value.int .i64)).toArray 3)).alloc (.cells (encGd N).toArray 45)) (some ⟨w.heap.size,0,none⟩) bs.length bs.length (some ⟨w.heap.size + 1,0,none⟩) gs.length gs.length (some ⟨w.heap.size + 1 + 1,0,none⟩) N.length N.length bs gs N ∧ Below w.heap.size w (((w.alloc (.cells (bs.map Value.bool).toArray 4)).alloc (.cells (gs.map (Value.int .i64)).toArray 3)).alloc (.cells (encGd N).toArray 45)) := by
 have b1 := blitP w bs h1
 have b2 := zlitP (w.alloc (.cells (bs.map Value.bool).toArray 4)) gs h2
 have b3 := qaR ((w.alloc (.cells (bs.map Value.bool).toArray 4)).alloc (.cells (gs.map (Value.int .i64)).toArray 3)) N h3 hok
 have e : ∀ (w : World) (o : Obj),(w.alloc o).heap.size = w.heap.size + 1 := fun w o => by simp
 simp only [e] at b2 b3
 exact ⟨⟨(b1.up (q5 _ _)).up (q5 _ _),b3,b2.up (q5 _ _)⟩,q7 (q7 (q5 w _) (q5 _ _)) (q5 _ _)⟩
theorem q7P {w : World} {a1 : Option Addr} {c1 : Nat} {a2 : Option Addr} {c2 : Nat} {a3 : Option Addr} {c3 : Nat} (hA : AuW w a1 2 c1 a2 2 c2 a3 1 c3 cnB cnG cnN) :
  Calls Try.prog 8 #[.agg #[.int .i64 1,.slice a1 2 c1,.slice a2 2 c2,.slice a3 1 c3]] w fun e w' => ∃ a1 c1 a2 c2 a3 c3,e = .returned (.tuple #[.agg #[.int .i64 1,.slice a1 2 c1,.slice a2 2 c2,.slice a3 1 c3],.int .i64 0]) ∧ Hid (AuW w' a1 2 c1 a2 2 c2 a3 1 c3 cnB cnG noN) ∧ Hid (Below w.heap.size w w') :=
 (q1H 3 (by decide) 1 a1 2 c1 a2 2 c2 a3 1 c3 cnB cnN cnG w hA.bo hA.nd hA.zs cn_k.may.ok64 (by decide) (by decide)).mono fun e w' h => by
  obtain ⟨bs',gs',N',a1,c1,a2,c2,a3,c3,rfl,HP,HO,_,HB⟩ := h.o cn_k.may cn_k.may
  obtain ⟨rfl,rfl,rfl⟩ := qaU HP.out
  exact ⟨a1,c1,a2,c2,a3,c3,rfl,HO.out.w,HB⟩
theorem q7i {w : World} {aA : Option Addr} {nA cA : Nat} {aG : Option Addr} {nG cG : Nat} {aN : Option Addr} {nN cN : Nat} {bA : Option Addr} {mA dA : Nat} {bG : Option Addr} {mG dG : Nat} {bN : Option Addr} {mN dN : Nat} {bs cs : List Bool} {N : List Gd} {gs : List Int} {M : List Gd} {hs : List Int} (hA : AuW w aA nA cA aG nG cG aN nN cN bs gs N) (kA : AuW w bA mA dA bG mG dG bN mN dN cs hs M) (hM : MayG 1 nA N gs) (kM : MayG 1 mA M hs) (h0 : acT 1 bs N gs [] = acT 1 cs M hs []) (h1 : acT 1 bs N gs [0] = false) (k1 : acT 1 cs M hs [0] = true) :
  Calls Try.prog 15 #[.agg #[.int .i64 1,.slice aA nA cA,.slice aG nG cG,.slice aN nN cN],.agg #[.int .i64 1,.slice bA mA dA,.slice bG mG dG,.slice bN mN dN]] w fun e w' => ∃ a c,e = .returned (.tuple #[.slice a 1 c,.bool true,.int .i64 0]) ∧ Hid (LtC w' a 1 c [0]) ∧ Hid (Below w.heap.size w w') :=
 (q5d 1 aA nA cA aG nG cG aN nN cN 1 bA mA dA bG mG dG bN mN dN bs cs N gs M hs w hA.bo hA.nd hA.zs hM.ok64 kA.bo kA.nd kA.zs kM.ok64).mono fun e w' h => by
  obtain ⟨ts,is,a,c,rfl,HS,HL,HB⟩ := h.o hM kM
  obtain ⟨rfl,rfl⟩ := HS.out.one (by simp [h0]) (by simp [h1,k1])
  exact ⟨a,c,rfl,HL,HB⟩
theorem q4a (w : World) : Calls Try.prog 6 #[] w fun e w' => e = .returned (.bool true) ∧ Below w.heap.size w w' := by
 obtain ⟨hx,hb3⟩ := qaK w cnB cnG cnN (by decide) (by decide) (by decide) cn_ok
 obtain ⟨w3,hw3⟩ : ∃ w3,w3 = (((w.alloc (.cells #[.bool false,.bool true] 4)).alloc (.cells #[.int .i64 0,.int .i64 0] 3)).alloc (.cells #[.int .i64 0,.int .i64 (-1),.int .i64 (-2)] 45)) := ⟨_,rfl⟩
 have hx3 : AuW w3 (some ⟨w.heap.size,0,none⟩) 2 2 (some ⟨w.heap.size + 1,0,none⟩) 2 2 (some ⟨w.heap.size + 1 + 1,0,none⟩) 1 1 cnB cnG cnN := by rw [hw3]; exact hx
 have hb3' : Below w.heap.size w w3 := by rw [hw3]; exact hb3
 obtain ⟨w4,hw4⟩ : ∃ w4,w4 = w3.alloc (.cells #[.int .i64 1,.slice (some ⟨w.heap.size,0,none⟩) 2 2,.slice (some ⟨w.heap.size + 1,0,none⟩) 2 2,.slice (some ⟨w.heap.size + 1 + 1,0,none⟩) 1 1] 26 (0,0)) := ⟨_,rfl⟩
 have hb34 : Below w3.heap.size w3 w4 := by rw [hw4]; exact q5 _ _
 have HA4 : Hid (AuB w4 (w.heap.size + 1 + 1 + 1) 1 (some ⟨w.heap.size,0,none⟩) 2 2 (some ⟨w.heap.size + 1,0,none⟩) 2 2 (some ⟨w.heap.size + 1 + 1,0,none⟩) 1 1) := by
  show AuB _ _ _ _ _ _ _ _ _ _ _ _
  rw [hw4,show w.heap.size + 1 + 1 + 1 = w3.heap.size by rw [hw3]; simp]
  exact qj _ _ _ _ _ _ _ _ _ _ _
 have HX4 : Hid (AuW w4 (some ⟨w.heap.size,0,none⟩) 2 2 (some ⟨w.heap.size + 1,0,none⟩) 2 2 (some ⟨w.heap.size + 1 + 1,0,none⟩) 1 1 cnB cnG cnN) := hx3.up hb34
 have HB4 : Hid (Below w.heap.size w w4) := q7 hb3' hb34
 have jc := q7P HX4.out
 have HW3 : Hid _ := hw3
 have HW4 : Hid _ := hw4
 clear hx hb3 hx3 hb3' hw3 hb34 hw4
 obtain ⟨c0,c1,c2,c3⟩ := HA4.out
 go_enter Try.func6,Try.ntmps6
 go_wp2_with (rw [← HW3.out,← HW4.out])
 refine jc.mono ?_
 rintro e w5 ⟨n1,k1,n2,k2,n3,k3,rfl,HN,HB⟩
 obtain ⟨w6,hw6⟩ : ∃ w6,w6 = w5.alloc (.cells #[.int .i64 1,.slice n1 2 k1,.slice n2 2 k2,.slice n3 1 k3] 26 (0,0)) := ⟨_,rfl⟩
 have hb56 : Below w5.heap.size w5 w6 := by rw [hw6]; exact q5 _ _
 have hb46 := q7 HB.out hb56
 have HN6 : Hid (AuW w6 n1 2 k1 n2 2 k2 n3 1 k3 cnB cnG noN) := HN.out.up hb56
 have HB6 : Hid (Below w.heap.size w w6) := q7 HB4.out hb46
 have HV6 : Hid (AuB w6 w5.heap.size 1 n1 2 k1 n2 2 k2 n3 1 k3) := by show AuB _ _ _ _ _ _ _ _ _ _ _ _; rw [hw6]; exact qj _ _ _ _ _ _ _ _ _ _ _
 have HA6 : Hid (AuB w6 (w.heap.size + 1 + 1 + 1) 1 (some ⟨w.heap.size,0,none⟩) 2 2 (some ⟨w.heap.size + 1,0,none⟩) 2 2 (some ⟨w.heap.size + 1 + 1,0,none⟩) 1 1) := HA4.out.up hb46
 have jp := q7i (HX4.out.up hb46) HN6.out cn_k.may q8e (by rw [ex_a0,ex_n0]) ex_a1 ex_n1
 have HW6 : Hid _ := hw6
 clear jc c0 c1 c2 c3 HN HB hb56 hb46 hw6 HX4 HA4 HB4
 obtain ⟨c0,c1,c2,c3⟩ := HA6.out
 obtain ⟨d0,d1,d2,d3⟩ := HV6.out
 go_wp2_with (rw [← HW6.out])
 refine jp.mono ?_
 rintro e w7 ⟨tA,tC,rfl,HT,HB⟩
 have HB7 : Hid (Below w.heap.size w w7) := q7 HB6.out HB.out
 have HV7 : Hid (AuB w7 w5.heap.size 1 n1 2 k1 n2 2 k2 n3 1 k3) := HV6.out.up HB.out
 obtain ⟨i0,x0⟩ : (∀ w' : World,(Instr.indexAt 22 (.slice n1 2 k1) (.int .i64 0)).run Try.prog w' = .ok (.pointer (some (adOf n1 0))) w') ∧ w7.cell? (adOf n1 0) = some (.bool false) := by
  obtain ⟨i0,x0⟩ := (HN6.out.up HB.out).bo.at 0 (by decide)
  exact ⟨fun w' => i0 2 w' (by decide),x0⟩
 obtain ⟨i1,x1⟩ : (∀ w' : World,(Instr.indexAt 22 (.slice n1 2 k1) (.int .i64 1)).run Try.prog w' = .ok (.pointer (some (adOf n1 1))) w') ∧ w7.cell? (adOf n1 1) = some (.bool true) := by
  obtain ⟨i0,x0⟩ := (HN6.out.up HB.out).bo.at 1 (by decide)
  exact ⟨fun w' => i0 2 w' (by decide),x0⟩
 have hidx : ∀ w' : World,(Instr.indexAt 27 (.slice tA 1 tC) (.int .i64 0)).run Try.prog w' = .ok (.pointer (some (adOf tA 0))) w' := fun w' => HT.out.idx 1 0 w' (by decide) (by decide)
 have hce : w7.cell? (adOf tA 0) = some (.int .u8 0) := HT.out.cell 0 (by decide)
 generalize adOf n1 0 = ad0 at *
 obtain ⟨g1,g2,g3⟩ := ad0
 generalize adOf n1 1 = ad1 at *
 obtain ⟨g4,g5,g6⟩ := ad1
 generalize adOf tA 0 = ad2 at *
 obtain ⟨g7,g8,g9⟩ := ad2
 clear jp c0 c1 c2 c3 d0 d1 d2 d3 HN6 HB6 HV6 HA6 HB
 obtain ⟨d0,d1,d2,d3⟩ := HV7.out
 go_wp2
 go_ret
 exact ⟨rfl,HB7.out⟩
end Go.Proofs.Ytcnkgokfjafgkaa
