/- Texts of the proof, put together: what it uses. -/
import Derived.Test.YtehddcdgpamaaaaY13
set_option maxRecDepth 100000
set_option maxHeartbeats 16000000
namespace Go.Proofs.Ytehddcdgpamaaaa
open Go.RowKit Go.Maps Go.Sort
theorem q3N (p : Int) (aA : Option Addr) (nA cA : Nat) (aG : Option Addr) (nG cG : Nat) (aN : Option Addr) (nN cN : Nat) (bs : List Bool) (gs : List Int) (N : List Gd) (q : Int) (bA : Option Addr) (mA dA : Nat) (bG : Option Addr) (mG dG : Nat) (bN : Option Addr) (mN dN : Nat) (cs : List Bool) (hs : List Int) (M : List Gd) (w : World)
  (hB : BoSl w aA nA cA bs) (hG : ZSl w aG nG cG gs) (hN : NdSl w aN nN cN N) (hok : ∀ z ∈ gs,I64 z) (kB : BoSl w bA mA dA cs) (kG : ZSl w bG mG dG hs) (kN : NdSl w bN mN dN M) (kok : ∀ z ∈ hs,I64 z) :
  Calls Try.prog 6 #[.agg #[.int .i64 p,.slice aA nA cA,.slice aG nG cG,.slice aN nN cN],.agg #[.int .i64 q,.slice bA mA dA,.slice bG mG dG,.slice bN mN dN]] w fun e w' => e = .returned (.bool true) ∧ Below w.heap.size w w' := by
 obtain ⟨Q,hQ⟩ : ∃ Q : Ending → World → Prop,Q = fun e w' => e = .returned (.bool true) ∧ Below w.heap.size w w' := ⟨_,rfl⟩
 have HQ : Hid (∀ w',Below w.heap.size w w' → Q (.returned (.bool true)) w') := fun w' h => by rw [hQ]; exact ⟨rfl,h⟩
 rw [← hQ]
 clear hQ
 obtain ⟨w1,hw1⟩ : ∃ w1,w1 = (w.alloc (.cells #[.int .i64 p,.slice aA nA cA,.slice aG nG cG,.slice aN nN cN] 26 (0,0))).alloc (.cells #[.int .i64 q,.slice bA mA dA,.slice bG mG dG,.slice bN mN dN] 26 (0,0)) := ⟨_,rfl⟩
 have HB1 : Hid (Below w.heap.size w w1) := by rw [hw1]; exact q6 (q5 w _) (q5 _ _)
 have HA1 : Hid (AuB w1 w.heap.size p aA nA cA aG nG cG aN nN cN) := by rw [hw1]; exact (qd w p aA nA cA aG nG cG aN nN cN).up (q5 _ _)
 have HC1 : Hid (AuB w1 (w.heap.size + 1) q bA mA dA bG mG dG bN mN dN) := by
  rw [hw1]
  have := qd (w.alloc (.cells #[.int .i64 p,.slice aA nA cA,.slice aG nG cG,.slice aN nN cN] 26 (0,0))) q bA mA dA bG mG dG bN mN dN
  rw [qy] at this
  exact this
 have HW1 : Hid _ := hw1
 have jw := q2L w1
 have HHB : Hid _ := hB
 have HHG : Hid _ := hG
 have HHN : Hid _ := hN
 have HOK : Hid _ := hok
 have HKB : Hid _ := kB
 have HKG : Hid _ := kG
 have HKN : Hid _ := kN
 have HKO : Hid _ := kok
 clear hB hG hN hok kB kG kN kok hw1
 go_enter Try.func6,Try.ntmps6
 go_wp2_with (rw [← HW1.out])
 refine jw.mono ?_
 rintro e w2 ⟨rfl,hb2⟩
 have HB2 : Hid _ := q6 HB1.out hb2
 have HA2 : Hid _ := HA1.out.up hb2
 have HC2 : Hid _ := HC1.out.up hb2
 have j2 := qZ p aA nA cA aG nG cG aN nN cN bs N gs w2 (HHB.out.up HB2.out) (HHN.out.up HB2.out) (HHG.out.up HB2.out) HOK.out
 obtain ⟨c0,c1,c2,c3⟩ := HA2.out
 clear jw hb2 HB1 HA1 HC1 HW1
 go_wp2_with fail
 refine j2.mono ?_
 intro e w3 hq3
 obtain ⟨hb3,y0,a1,n1,k1,a2,n2,k2,a3,n3,k3,r1,rfl,hr1⟩ := hq3.uni
 obtain ⟨x3,hx3⟩ : ∃ x3,x3 = w3.alloc (.cells #[.int .i64 y0,.slice a1 n1 k1,.slice a2 n2 k2,.slice a3 n3 k3] 26 (0,0)) := ⟨_,rfl⟩
 have hbx : Below w3.heap.size w3 x3 := by rw [hx3]; exact q5 _ _
 have hb23 := q6 hb3 hbx
 have HB3 : Hid _ := q6 HB2.out hb23
 have HA3 : Hid _ := HA2.out.up hb23
 have HC3 : Hid _ := HC2.out.up hb23
 have HX3 : Hid (AuB x3 w3.heap.size y0 a1 n1 k1 a2 n2 k2 a3 n3 k3) := by rw [hx3]; exact qd _ _ _ _ _ _ _ _ _ _ _
 have HR1 : Hid ((r1 = 12 ∧ ¬ MayG p nA N gs) ∨ (r1 = 0 ∧ MayG p nA N gs ∧ y0 = p ∧ ∃ bs' gs' N',n1 = bs'.length ∧ n2 = bs'.length ∧ n3 = N'.length ∧ MinA p nA bs N gs bs' gs' N' ∧ OwA x3 w2.heap.size a1 k1 a2 k2 a3 k3 bs' gs' N')) := by
  rcases hr1 with h | ⟨h1,h2,h3,bs',gs',N',h4,h5,h6,h7,h8⟩
  ·exact .inl h
  ·exact .inr ⟨h1,h2,h3,bs',gs',N',h4,h5,h6,h7,h8.up hbx⟩
 have HXE : Hid _ := hx3
 have j3 := qZ q bA mA dA bG mG dG bN mN dN cs M hs x3 (HKB.out.up HB3.out) (HKN.out.up HB3.out) (HKG.out.up HB3.out) HKO.out
 clear j2 hq3 hb3 hbx hb23 hr1 hx3 c0 c1 c2 c3 HB2 HA2 HC2
 obtain ⟨c0,c1,c2,c3⟩ := HC3.out
 go_wp2_with (rw [← HXE.out])
 refine j3.mono ?_
 intro e w4 hq4
 obtain ⟨hb4,z0,b1,o1,l1,b2,o2,l2,b3,o3,l3,r2,rfl,hr2⟩ := hq4.uni
 obtain ⟨x4,hx4⟩ : ∃ x4,x4 = w4.alloc (.cells #[.int .i64 z0,.slice b1 o1 l1,.slice b2 o2 l2,.slice b3 o3 l3] 26 (0,0)) := ⟨_,rfl⟩
 have hbx : Below w4.heap.size w4 x4 := by rw [hx4]; exact q5 _ _
 have hb34 := q6 hb4 hbx
 have HB4 : Hid _ := q6 HB3.out hb34
 have HA4 : Hid _ := HA3.out.up hb34
 have HC4 : Hid _ := HC3.out.up hb34
 have HX4 : Hid _ := HX3.out.up hb34
 have HY4 : Hid (AuB x4 w4.heap.size z0 b1 o1 l1 b2 o2 l2 b3 o3 l3) := by rw [hx4]; exact qd _ _ _ _ _ _ _ _ _ _ _
 have HS1 : Hid ((r1 = 12 ∧ ¬ MayG p nA N gs) ∨ (r1 = 0 ∧ MayG p nA N gs ∧ y0 = p ∧ ∃ bs' gs' N',n1 = bs'.length ∧ n2 = bs'.length ∧ n3 = N'.length ∧ MinA p nA bs N gs bs' gs' N' ∧ OwA x4 w2.heap.size a1 k1 a2 k2 a3 k3 bs' gs' N')) := by
  rcases HR1.out with h | ⟨h1,h2,h3,bs',gs',N',h4,h5,h6,h7,h8⟩
  ·exact .inl h
  ·exact .inr ⟨h1,h2,h3,bs',gs',N',h4,h5,h6,h7,h8.up hb34⟩
 have HR2 : Hid ((r2 = 12 ∧ ¬ MayG q mA M hs) ∨ (r2 = 0 ∧ MayG q mA M hs ∧ z0 = q ∧ ∃ cs' hs' M',o1 = cs'.length ∧ o2 = cs'.length ∧ o3 = M'.length ∧ MinA q mA cs M hs cs' hs' M' ∧ OwA x4 x3.heap.size b1 l1 b2 l2 b3 l3 cs' hs' M')) := by
  rcases hr2 with h | ⟨h1,h2,h3,bs',gs',N',h4,h5,h6,h7,h8⟩
  ·exact .inl h
  ·exact .inr ⟨h1,h2,h3,bs',gs',N',h4,h5,h6,h7,h8.up hbx⟩
 have HYE : Hid _ := hx4
 generalize w3.heap.size = mx at *
 have j4 := q1o p aA nA cA aG nG cG aN nN cN x4
 clear j3 hq4 hb4 hbx hb34 hr2 hx4 c0 c1 c2 c3 HB3 HA3 HC3 HX3 HXE HR1
 obtain ⟨c0,c1,c2,c3⟩ := HA4.out
 generalize hsa : smB p nA nG nN = sa at *
 have HSA : Hid _ := hsa
 clear hsa
 go_wp2_with (rw [← HYE.out])
 refine j4.mono ?_
 rintro e w5 ⟨rfl,hb5⟩
 have HB5 : Hid _ := q6 HB4.out hb5
 have HA5 : Hid _ := HA4.out.up hb5
 have HC5 : Hid _ := HC4.out.up hb5
 have HX5 : Hid _ := HX4.out.up hb5
 have HY5 : Hid _ := HY4.out.up hb5
 have HL5 : Hid _ := hb5
 clear j4 hb5 c0 c1 c2 c3 HA4 HC4 HX4 HY4 HB4 HYE
 cases sa with
 | false =>
  have HE : Hid _ := HQ.out w5 HB5.out
  clear HQ
  go_wp2
  exact HE.out
 | true =>
  have j5 := q1o q bA mA dA bG mG dG bN mN dN w5
  obtain ⟨c0,c1,c2,c3⟩ := HC5.out
  generalize hsb : smB q mA mG mN = sb at *
  have HSB : Hid _ := hsb
  clear hsb
  go_wp2_with fail
  refine j5.mono ?_
  rintro e w6 ⟨rfl,hb6⟩
  have HB6 : Hid _ := q6 HB5.out hb6
  have HA6 : Hid _ := HA5.out.up hb6
  have HC6 : Hid _ := HC5.out.up hb6
  have HX6 : Hid _ := HX5.out.up hb6
  have HY6 : Hid _ := HY5.out.up hb6
  have HL6 : Hid _ := q6 HL5.out hb6
  clear j5 hb6 c0 c1 c2 c3 HA5 HC5 HX5 HY5 HB5 HL5
  cases sb with
  | false =>
   have HE : Hid _ := HQ.out w6 HB6.out
   clear HQ
   go_wp2
   exact HE.out
  | true =>
   rcases HS1.out with ⟨rfl,_⟩ | ⟨rfl,hM1,rfl,bs',gs',N',rfl,rfl,rfl,hMA1,hO1⟩
   ·have HE : Hid _ := HQ.out w6 HB6.out
    clear HQ HS1 HR2
    go_wp2
    exact HE.out
   rcases HR2.out with ⟨rfl,_⟩ | ⟨rfl,hM2,rfl,cs',hs',M',rfl,rfl,rfl,hMA2,hO2⟩
   ·have HE : Hid _ := HQ.out w6 HB6.out
    clear HQ HS1 HR2 hMA1 hO1 hM1
    go_wp2
    exact HE.out
   obtain ⟨c0,c1,c2,c3⟩ := HA6.out
   obtain ⟨d0,d1,d2,d3⟩ := HC6.out
   by_cases hpq : y0 = z0
   case neg =>
    have HE : Hid _ := HQ.out w6 HB6.out
    have e1 : (y0 != z0) = true := by simpa using hpq
    clear HQ HS1 HR2 hMA1 hO1 hM1 hMA2 hO2 hM2 hpq
    go_wp2
    exact HE.out
   case pos =>
    subst hpq
    have hp0 := hM1.p0
    have hp4 : y0 ≤ 4 := by have := HSA.out; simp [smB] at this; omega
    have hnA : nA ≤ 24 := by have := HSA.out; simp [smB] at this; omega
    have hmA : mA ≤ 24 := by have := HSB.out; simp [smB] at this; omega
    have hn1 := hM1.s1
    have hm1 := hM2.s1
    obtain ⟨P,rfl⟩ := Int.eq_ofNat_of_zero_le hp0
    have HM1 : Hid _ := hM1
    have HM2 : Hid _ := hM2
    have HIFF : Hid (sameC (P : Int) bs' gs' N' (P : Int) cs' hs' M' = true ↔ AcrP (2 ^ P) (rwA (P : Int) N gs) bs (rwA (P : Int) M hs) cs 0 0) := by
     have h := q5R hMA1 hM1 hMA2 hM2
     have e : sameC (P : Int) bs' gs' N' (P : Int) cs' hs' M' = true ↔ (bs' = cs' ∧ gs' = hs' ∧ N' = M') := by simp [sameC,and_assoc]
     exact e.trans h
    have HO1 : Hid _ := hO1.up HL6.out
    have HO2 : Hid _ := hO2.up HL6.out
    have HRA : Hid (RowsP nA (2 ^ P) (rwA (P : Int) N gs)) := by have := hM1.rows (2 ^ (P : Int).toNat); rw [Int.toNat_natCast] at this; exact this
    have HRB : Hid (RowsP mA (2 ^ P) (rwA (P : Int) M hs)) := by have := hM2.rows (2 ^ (P : Int).toNat); rw [Int.toNat_natCast] at this; exact this
    have HNA : Hid (∀ (wx : World) (s l : Nat),Below w6.heap.size w6 wx → s < nA → l < 2 ^ P → l < 256 → Calls Try.prog 19 #[.agg #[.int .i64 (P : Int),.slice aA nA cA,.slice aG nG cG,.slice aN nN cN],.int .i64 (s : Int),.int .u8 (l : Int)] wx fun e w' => Below wx.heap.size wx w' ∧ e = .returned (.tuple #[.int .i64 ((trP (rwA (P : Int) N gs) s l : Nat) : Int),.int .i64 0])) := fun wx s l hb h1 h2 h3 => by
     have hb' := q6 HB6.out hb
     refine (q1A (P : Int) aA nA cA aG nG cG aN nN cN N gs (s : Int) l wx (HHN.out.up hb') (HHG.out.up hb') HOK.out h3).mono ?_
     rintro e w' ⟨hbw,v,r,rfl,hn⟩
     obtain ⟨rfl,rfl⟩ := hn.uni (.inr (.inr ⟨HM1.out,⟨by omega,by omega,by rw [Int.toNat_natCast]; exact h2⟩,rfl,rfl⟩))
     exact ⟨hbw,by rw [Int.toNat_natCast]⟩
    have HNB : Hid (∀ (wx : World) (s l : Nat),Below w6.heap.size w6 wx → s < mA → l < 2 ^ P → l < 256 → Calls Try.prog 19 #[.agg #[.int .i64 (P : Int),.slice bA mA dA,.slice bG mG dG,.slice bN mN dN],.int .i64 (s : Int),.int .u8 (l : Int)] wx fun e w' => Below wx.heap.size wx w' ∧ e = .returned (.tuple #[.int .i64 ((trP (rwA (P : Int) M hs) s l : Nat) : Int),.int .i64 0])) := fun wx s l hb h1 h2 h3 => by
     have hb' := q6 HB6.out hb
     refine (q1A (P : Int) bA mA dA bG mG dG bN mN dN M hs (s : Int) l wx (HKN.out.up hb') (HKG.out.up hb') HKO.out h3).mono ?_
     rintro e w' ⟨hbw,v,r,rfl,hn⟩
     obtain ⟨rfl,rfl⟩ := hn.uni (.inr (.inr ⟨HM2.out,⟨by omega,by omega,by rw [Int.toNat_natCast]; exact h2⟩,rfl,rfl⟩))
     exact ⟨hbw,by rw [Int.toNat_natCast]⟩
    have hLL : nA * mA ≤ 576 := Nat.mul_le_mul hnA hmA
    have hL0 : 0 < nA * mA := Nat.mul_pos (by omega) (by omega)
    have hmul : IntKind.i64.wrap ((nA : Int) * (mA : Int)) = ((nA * mA : Nat) : Int) := by rw [← Int.natCast_mul,IntKind.wrap_i64]; omega
    have hbs1 : HHB.out.hlen = HHB.out.hlen := rfl
    have HPR : Hid (∀ s t,s < nA → t < mA → prN mA (s,t) < nA * mA) := fun s t h1 h2 => q5s h1 h2
    have HW2 : Hid (∀ s : Nat,s < nA → IntKind.i64.wrap ((s : Int) * (mA : Int)) = ((s * mA : Nat) : Int)) := fun s hs => by
     have : s * mA ≤ 24 * 24 := Nat.mul_le_mul (by omega) hmA
     rw [← Int.natCast_mul,IntKind.wrap_i64]; omega
    have HK16 : Hid (2 ^ P ≤ 16) := Nat.pow_le_pow_right (n := 2) (by decide) (show P ≤ 4 by omega)
    have hsh := q1Y P (by omega)
    have hmin : min P 64 = P := by omega
    have HKP : Hid (0 < 2 ^ P) := Nat.two_pow_pos P
    generalize hKd : (2 : Nat) ^ P = K at *
    clear hKd
    clear HS1 HR2 hMA1 hMA2 hM1 hM2 hO1 hO2 hp0 hp4 hbs1
    generalize hLdef : nA * mA = L at *
    have hmk := fun w => q2r L L (L : Int) (L : Int) rfl rfl (Nat.le_refl _) (by omega) w
    obtain ⟨C,hC⟩ : ∃ C,C = ((zB L).map Value.bool).toArray := ⟨_,rfl⟩
    have hix0 : ∀ w',(Instr.indexAt 22 (.slice (some ⟨w6.heap.size,0,none⟩) L L) (.int .i64 0)).run Try.prog w' = .ok (.pointer (some ⟨w6.heap.size,0,none⟩)) w' := fun w' => by
     have := qW w6.heap.size L 0 hL0 w'
     simpa using this
    have hm2 : MeS ((w6.alloc (.cells C 4)).alloc (.cells #[.int .i64 0,.int .i64 0] 54)) w6.heap.size L [] := by
     have := q4G w6 L
     rw [← hC] at this
     exact this.up (q5 _ _)
    obtain ⟨cm,fm⟩ := hm2.at (a := 0) hL0
    have hm3 := hm2.put (s := 0) hL0
    rw [← hC] at hmk
    have hM0 : OneM w6 (((w6.alloc (.cells C 4)).alloc (.cells #[.int .i64 0,.int .i64 0] 54)).setCell ⟨w6.heap.size,0,none⟩ (.bool true)) w6.heap.size L mA (.slice (some ⟨w6.heap.size + 1,0,none⟩) 1 1) [(0,0)] := by
     have hnb := (MapKept.heap_alloc (w6.alloc (.cells C 4)) (.cells #[.int .i64 0,.int .i64 0] 54)).1
     rw [qy] at hnb
     refine ⟨?_,⟨rfl,.inr ⟨w6.heap.size + 1,1,_,rfl,Nat.le_refl _,(Below.heap_setCell _ _ _ _ (by dsimp only; omega)).trans hnb,Nat.le_refl _,by decide,rfl,rfl⟩⟩,(q6 (q5 w6 _) (q5 _ _)).setCell (by dsimp only; exact Nat.le_refl _) _,Nat.le_refl _⟩
     have e0 : [((0,0) : Nat × Nat)].map (prN mA) = [] ++ [0] := by simp [prN]
     rw [e0]; exact hm3
    have HM0 : Hid (OneM w6 ((w6.alloc (.cells (C.setIfInBounds 0 (.bool true)) 4)).alloc (.cells #[.int .i64 0,.int .i64 0] 54)) w6.heap.size L mA (.slice (some ⟨w6.heap.size + 1,0,none⟩) 1 1) [(0,0)]) := by
     have e := hM0
     simp [go_sem] at e
     exact e
    have HI0 : Hid (BisP nA mA K (rwA (P : Int) N gs) bs (rwA (P : Int) M hs) cs 0 0 [(0,0)]) := q53 (by omega) (by omega)
    clear hC hm2 hm3 hM0
    go_wp2
    clear hmk hix0 cm fm hmul c0 c1 c2 c3 d0 d1 d2 d3
    generalize hgd : w6.heap.size = g at *
    have Hg : Hid (g = w6.heap.size) := hgd.symm
    clear hgd
    go_loopw [12,13,14] (fun v s i wr => ∃ (j : Nat) (T : List (Nat × Nat)) (sm : Bool),i = .int .i64 (j : Int) ∧ s = .bool sm ∧ j ≤ T.length ∧ T.length ≤ L ∧ Hid (OneM w6 wr g L mA v T) ∧ Hid (sm = true → BisP nA mA K (rwA (P : Int) N gs) bs (rwA (P : Int) M hs) cs j 0 T) ∧ Hid (sm = false → ¬ AcrP K (rwA (P : Int) N gs) bs (rwA (P : Int) M hs) cs 0 0)) (fun _ _ i _ => L - (intOf i).toNat)
    case atStart => exact ⟨0,[(0,0)],true,rfl,rfl,Nat.zero_le _,by simp; omega,HM0,fun _ => HI0.out,fun h => by cases h⟩
    case round =>
     obtain ⟨j,T,sm,rfl,rfl,hj,hTL,HO,HBT,HBF⟩ := hrel
     clear HM0 HI0
     have hbw : Below w.heap.size w wr := q6 HB6.out HO.out.bel
     have HBL : Hid (Below w6.heap.size w6 wr) := HO.out.bel
     have HAr : Hid _ := HA6.out.up HBL.out
     have HCr : Hid _ := HC6.out.up HBL.out
     obtain ⟨va,vc,rfl⟩ := qh HO.out.own
     by_cases hjT : j < T.length
     ·cases sm with
      | false =>
       have jq := q1B (P : Int) a1 bs'.length k1 a2 bs'.length k2 a3 N'.length k3 (P : Int) b1 cs'.length l1 b2 cs'.length l2 b3 M'.length l3 bs' gs' N' cs' hs' M' wr (HO1.out.up HBL.out).bo (HO1.out.up HBL.out).zs (HO1.out.up HBL.out).nd (HO2.out.up HBL.out).bo (HO2.out.up HBL.out).zs (HO2.out.up HBL.out).nd
       have hsc : sameC (P : Int) bs' gs' N' (P : Int) cs' hs' M' = false := by
        cases h : sameC (P : Int) bs' gs' N' (P : Int) cs' hs' M' with
        | false => rfl
        | true => exact absurd (HIFF.out.1 h) (HBF.out rfl)
       rw [hsc] at jq
       have HE : Hid (∀ w',Below wr.heap.size wr w' → Q (.returned (.bool true)) w') := fun w' h => HQ.out w' (q6 hbw h)
       obtain ⟨x0,x1,x2,x3⟩ := HX6.out.up HBL.out
       obtain ⟨y0,y1,y2,y3⟩ := HY6.out.up HBL.out
       clear HQ HO HBT HBF hsc hbw
       go_wp2_with fail
       refine jq.mono ?_
       rintro e w9 ⟨rfl,hb9⟩
       have HE9 : Hid _ := HE.out w9 hb9
       clear jq hb9 HE x0 x1 x2 x3 y0 y1 y2 y3
       go_wp2
       exact HE9.out
      | true =>
       have hbis := HBT.out rfl
       obtain ⟨⟨xp,xq⟩,hx⟩ : ∃ x,T[j]? = some x := ⟨_,List.getElem?_eq_getElem hjT⟩
       have hxT : (xp,xq) ∈ T := List.mem_of_getElem? hx
       obtain ⟨hxp,hxq⟩ := hbis.lt _ hxT
       dsimp only at hxp hxq
       obtain ⟨gt,ct,oo,ev,hixT,hcp,hcq⟩ := HO.out.own.at hx
       injection ev with ev1 _ ev3
       subst ev1 ev3
       have hi0 := fun w' => q5c gt oo w'
       have hi1 := fun w' => q5d gt oo w'
       obtain ⟨ib1,cb1⟩ := (HHB.out.up hbw).at xp hxp
       obtain ⟨ib2,cb2⟩ := (HKB.out.up hbw).at xq hxq
       have ib1 := fun w' => ib1 nA w' hxp
       have ib2 := fun w' => ib2 mA w' hxq
       have hga : bs.getD xp false = bs[xp]'(by rw [HHB.out.hlen]; exact hxp) := q8 _ _
       have hgb : cs.getD xq false = cs[xq]'(by rw [HKB.out.hlen]; exact hxq) := q8 _ _
       rw [← hga] at cb1
       rw [← hgb] at cb2
       have HBIS : Hid _ := hbis
       have HX : Hid _ := hx
       have HXT : Hid _ := hxT
       have HOz : Hid (∀ nq,OneM w6 (wr.drewN nq) g L mA (.slice (some ⟨gt,0,none⟩) T.length vc) T) := fun nq => HO.out.up (qR ⟨_,rfl⟩)
       obtain ⟨c0,c1,c2,c3⟩ := HAr.out
       obtain ⟨d0,d1,d2,d3⟩ := HCr.out
       have HEQ : Hid (∀ x y : Bool,bs.getD xp false = x → cs.getD xq false = y → x = y → bs.getD xp false = cs.getD xq false) := fun x y h1 h2 h3 => by rw [h1,h2,h3]
       have HNE : Hid (∀ x y : Bool,bs.getD xp false = x → cs.getD xq false = y → x ≠ y → bs.getD xp false ≠ cs.getD xq false) := fun x y h1 h2 h3 => by rw [h1,h2]; exact h3
       generalize hxb : bs.getD xp false = xb at *
       generalize hyb : cs.getD xq false = yb at *
       have HXB : Hid _ := hxb
       have HYB : Hid _ := hyb
       generalize adOf aA xp = ad1 at *
       obtain ⟨a1g,a1o,a1z⟩ := ad1
       generalize adOf bA xq = ad2 at *
       obtain ⟨a2g,a2o,a2z⟩ := ad2
       clear hbis hx hxT hga hgb hxb hyb HBT HBF HEQ HNE HQ hbw
       go_wp2_with fail
       go_quiet (fail)
       generalize nq = nq1 at *
       go_wp2_with fail
       go_quiet (fail)
       have HOq : Hid _ := (HOz.out nq1).up (qR ⟨nq,rfl⟩)
       generalize (wr.drewN nq1).drewN nq = wq at *
       clear hixT hcp hcq hi0 hi1 ib1 ib2 cb1 cb2 c0 c1 c2 c3 d0 d1 d2 d3 HOz HO HAr HCr HBL
       by_cases hbb : xb = yb
       ·have hbeq : (xb == yb) = true := by simpa using hbb
        rw [hbeq]
        have HAC : Hid (bs.getD xp false = cs.getD xq false) := by show _ = _; rw [HXB.out,HYB.out,hbb]
        clear hbb hbeq HXB HYB
        go_wp2
        go_loopw [12,17] (fun v l wy => ∃ (k : Nat) (T2 : List (Nat × Nat)),k ≤ K ∧ l = .int .i64 (k : Int) ∧ T.length ≤ T2.length ∧ T2.length ≤ L ∧ Hid (T2[j]? = some (xp,xq)) ∧ Hid (OneM w6 wy g L mA v T2) ∧ Hid (BisP nA mA K (rwA (P : Int) N gs) bs (rwA (P : Int) M hs) cs j k T2)) (fun _ l _ => K - (intOf l).toNat)
        case atStart => exact ⟨0,T,Nat.zero_le _,rfl,Nat.le_refl _,hTL,HX,HOq,HBIS⟩
        case round =>
         clear HOq HBIS HX
         obtain ⟨k,T2,hk,rfl,hTT,hTL2,HX,HO,HBIS⟩ := hrel
         have HAr : Hid _ := HA6.out.up HO.out.bel
         have HCr : Hid _ := HC6.out.up HO.out.bel
         obtain ⟨va,vc2,rfl⟩ := qh HO.out.own
         obtain ⟨c0,c1,c2,c3⟩ := HAr.out
         by_cases hkK : k < K
         ·have hk16 := HK16.out
          have hcv : IntKind.u8.wrap (k : Int) = (k : Int) := by rw [IntKind.wrap_u8]; omega
          have j1 := HNA.out wr xp k (by rw [Hg.out]; exact HO.out.bel) hxp hkK (by omega)
          have hsn := HRA.out.lt xp k hxp hkK
          have htn := HRB.out.lt xq k hxq hkK
          have HJ2 : Hid (∀ wx,Below wr.heap.size wr wx → Calls Try.prog 19 #[.agg #[.int .i64 (P : Int),.slice bA mA dA,.slice bG mG dG,.slice bN mN dN],.int .i64 (xq : Int),.int .u8 (k : Int)] wx fun e w' => Below wx.heap.size wx w' ∧ e = .returned (.tuple #[.int .i64 ((trP (rwA (P : Int) M hs) xq k : Nat) : Int),.int .i64 0])) := fun wx hb => HNB.out wx xq k (by rw [Hg.out]; exact q6 HO.out.bel hb) hxq hkK (by omega)
          have hw2 := HW2.out _ hsn
          have hpr := HPR.out _ _ hsn htn
          have HSK : Hid ((trP (rwA (P : Int) N gs) xp k,trP (rwA (P : Int) M hs) xq k) ∈ T2 → BisP nA mA K (rwA (P : Int) N gs) bs (rwA (P : Int) M hs) cs j (k + 1) T2) := fun h => HBIS.out.skip HX.out h
          have HPU : Hid ((trP (rwA (P : Int) N gs) xp k,trP (rwA (P : Int) M hs) xq k) ∉ T2 → BisP nA mA K (rwA (P : Int) N gs) bs (rwA (P : Int) M hs) cs j (k + 1) (T2 ++ [(trP (rwA (P : Int) N gs) xp k,trP (rwA (P : Int) M hs) xq k)])) := fun h => HBIS.out.push HRA.out HRB.out HX.out hkK h
          have HLN : Hid (∀ (i k : Nat) (U : List (Nat × Nat)),BisP nA mA K (rwA (P : Int) N gs) bs (rwA (P : Int) M hs) cs i k U → U.length ≤ L) := fun i k U h => by rw [← hLdef]; exact h.len
          have HLT : Hid (∀ y ∈ T2,y.2 < mA) := fun y hy => (HBIS.out.lt y hy).2
          generalize trP (rwA (P : Int) N gs) xp k = sN at *
          generalize trP (rwA (P : Int) M hs) xq k = tN at *
          have HMM : Hid (prN mA (sN,tN) ∈ T2.map (prN mA) ↔ (sN,tN) ∈ T2) := q6w htn HLT.out
          obtain ⟨E1,hE1⟩ : ∃ E1,E1 = sN * mA := ⟨_,rfl⟩
          rw [← hE1] at hw2
          have hadd : IntKind.i64.wrap ((E1 : Int) + (tN : Int)) = ((prN mA (sN,tN) : Nat) : Int) := by
           have : prN mA (sN,tN) = E1 + tN := by rw [hE1]; rfl
           rw [this,IntKind.wrap_i64]
           omega
          have HOb : Hid (∀ wx,Below wr.heap.size wr wx → OneM w6 wx g L mA (.slice va T2.length vc2) T2) := fun wx hb => HO.out.up hb
          have HCb : Hid (∀ wx,Below wr.heap.size wr wx → AuB wx (w.heap.size + 1) (P : Int) bA mA dA bG mG dG bN mN dN ∧ AuB wx w.heap.size (P : Int) aA nA cA aG nG cG aN nN cN) := fun wx hb => ⟨HCr.out.up hb,HAr.out.up hb⟩
          generalize hE2 : prN mA (sN,tN) = E2 at *
          have HE2 : Hid _ := hE2
          clear hE1 hE2 HLT HAr HCr
          go_wp2_with fail
          refine j1.mono ?_
          rintro e w7 ⟨hb7,rfl⟩
          have j2 := HJ2.out w7 hb7
          obtain ⟨d0,d1,d2,d3⟩ := (HCb.out w7 hb7).1
          have HB7 : Hid _ := hb7
          clear j1 HJ2 hb7 c0 c1 c2 c3
          go_wp2_with fail
          refine j2.mono ?_
          rintro e w8 ⟨hb8,rfl⟩
          have hb78 := q6 HB7.out hb8
          have hO8 := HOb.out w8 hb78
          obtain ⟨c0,c1,c2,c3⟩ := (HCb.out w8 hb78).2
          obtain ⟨cm,fm⟩ := hO8.met.at hpr
          have hixm := fun w' => qW g L E2 hpr w'
          have q1 : decide (nA ≤ sN) = false := decide_eq_false (by omega)
          have q2 : decide (mA ≤ tN) = false := decide_eq_false (by omega)
          have q3 : decide ((nA : Int) ≤ (sN : Int)) = false := decide_eq_false (by omega)
          have q4 : decide ((mA : Int) ≤ (tN : Int)) = false := decide_eq_false (by omega)
          have HO8 : Hid _ := hO8
          clear j2 hb8 hb78 hO8 d0 d1 d2 d3 HOb HCb HB7 HO
          by_cases hin : (sN,tN) ∈ T2
          ·have hin2 := HMM.out.2 hin
           rw [decide_eq_true hin2] at cm
           have HB2 : Hid _ := HSK.out hin
           clear hin hin2 HSK HPU HMM HBIS
           go_wp2
           go_roundw
           case rel => exact ⟨k + 1,T2,by omega,by go_num,hTT,hTL2,HX,HO8,HB2⟩
           case measure => simp [intOf] <;> omega
          ·have hin2 : ¬ E2 ∈ T2.map (prN mA) := fun h => hin (HMM.out.1 h)
           rw [decide_eq_false hin2] at cm
           have hB2 := HPU.out hin
           have HL2 := HLN.out _ _ _ hB2
           have HB2 : Hid _ := hB2
           have hX2 : (T2 ++ [(sN,tN)])[j]? = some (xp,xq) := by rw [List.getElem?_append_left (by omega)]; exact HX.out
           have HX2 : Hid _ := hX2
           have hgl := HO8.out.met.lt
           have HOW : Hid (P2O ((w8.setCell ⟨g,E2,none⟩ (.bool true)).alloc (.cells #[.int .i64 (sN : Int),.int .i64 (tN : Int)] 54)) (g + 1) (.slice va T2.length vc2) T2.length T2) := World.ownsRow.alloc (q2i HO8.out.own (by dsimp only; omega) _) _
           have hcw : ((w8.setCell ⟨g,E2,none⟩ (.bool true)).alloc (.cells #[.int .i64 (sN : Int),.int .i64 (tN : Int)] 54)).heap[w8.heap.size]? = some (.cells #[.int .i64 (sN : Int),.int .i64 (tN : Int)] 54 (0,0)) := by
            have := (MapKept.heap_alloc (w8.setCell ⟨g,E2,none⟩ (.bool true)) (.cells #[.int .i64 (sN : Int),.int .i64 (tN : Int)] 54)).1
            simpa using this
           have hbsz : g + 1 ≤ ((w8.setCell ⟨g,E2,none⟩ (.bool true)).alloc (.cells #[.int .i64 (sN : Int),.int .i64 (tN : Int)] 54)).heap.size := by simp; omega
           have HPS : Hid (∀ w9 v9,P2O w9 (g + 1) v9 (T2.length + 1) (T2 ++ [(sN,tN)]) → ((w8.setCell ⟨g,E2,none⟩ (.bool true)).alloc (.cells #[.int .i64 (sN : Int),.int .i64 (tN : Int)] 54)).grownBy w9 (Value.slice va T2.length vc2).ownBlock → OneM w6 w9 g L mA v9 (T2 ++ [(sN,tN)])) := fun w9 v9 h1 h2 => by
            rw [← HE2.out] at h2 hpr
            exact HO8.out.push hpr h1 h2
           have hT6 : T2.length + 1 ≤ 2000000 := by omega
           clear hin hin2 HSK HPU HMM HBIS hB2 hX2 HX HO8
           go_wp2_with (at_builtin; refine q3w rfl _ _ rfl (g + 1) _ T2.length T2 (sN,tN) rfl w8.heap.size rfl HOW.out hcw hT6 hbsz ?_)
           intro v9 w9 hq9 hg9
           have HO9 : Hid _ := HPS.out w9 v9 hq9 hg9
           clear hq9 hg9 HPS HOW hcw hbsz
           go_wp2
           go_roundw
           case rel => exact ⟨k + 1,_,by omega,by go_num,by rw [List.length_append]; omega,HL2,HX2,HO9,HB2⟩
           case measure => simp [intOf] <;> omega
         ·obtain rfl : k = K := by omega
          have HB2 : Hid _ := HBIS.out.next HX.out HAC.out
          clear HBIS HAr HCr
          go_wp2
          go_roundw
          case rel => exact ⟨j + 1,T2,true,by go_num,rfl,by omega,hTL2,HO,fun _ => HB2.out,fun h => by cases h⟩
          case measure => simp [intOf] <;> omega
       ·have hbeq : (xb == yb) = false := by simpa using hbb
        rw [hbeq]
        have HNO : Hid _ := HBIS.out.unlike HXT.out (by rw [HXB.out,HYB.out]; exact hbb)
        have HAq : Hid _ := HA6.out.up HOq.out.bel
        clear hbb hbeq HXB HYB
        go_wp2
        go_loopw [12,17] (fun v l wy => v = .slice (some ⟨gt,0,none⟩) T.length vc ∧ l = .int .i64 0 ∧ Hid (wy = wq)) (fun _ _ _ => 0)
        case atStart => exact ⟨rfl,rfl,rfl⟩
        case round =>
         obtain ⟨rfl,rfl,HWQ⟩ := hrel
         have hA := HAq.out
         rw [← HWQ.out] at hA
         obtain ⟨c0,c1,c2,c3⟩ := hA
         have HOr : Hid (OneM w6 wr g L mA (.slice (some ⟨gt,0,none⟩) T.length vc) T) := by rw [HWQ.out]; exact HOq.out
         have hK0 : 0 < K := HKP.out
         clear HAq HOq
         go_wp2
         go_roundw
         case rel => exact ⟨j + 1,T,false,by go_num,rfl,by omega,hTL,HOr,fun h => (by cases h),fun _ => HNO.out⟩
         case measure => simp [intOf] <;> omega
     ·have jq := q1B (P : Int) a1 bs'.length k1 a2 bs'.length k2 a3 N'.length k3 (P : Int) b1 cs'.length l1 b2 cs'.length l2 b3 M'.length l3 bs' gs' N' cs' hs' M' wr (HO1.out.up HBL.out).bo (HO1.out.up HBL.out).zs (HO1.out.up HBL.out).nd (HO2.out.up HBL.out).bo (HO2.out.up HBL.out).zs (HO2.out.up HBL.out).nd
      have hsc : sameC (P : Int) bs' gs' N' (P : Int) cs' hs' M' = sm := by
       cases sm with
       | false =>
        cases h : sameC (P : Int) bs' gs' N' (P : Int) cs' hs' M' with
        | false => rfl
        | true => exact absurd (HIFF.out.1 h) (HBF.out rfl)
       | true => exact HIFF.out.2 ((HBT.out rfl).same (by omega))
      rw [hsc] at jq
      have HE : Hid (∀ w',Below wr.heap.size wr w' → Q (.returned (.bool true)) w') := fun w' h => HQ.out w' (q6 hbw h)
      obtain ⟨x0,x1,x2,x3⟩ := HX6.out.up HBL.out
      obtain ⟨y0,y1,y2,y3⟩ := HY6.out.up HBL.out
      have hss : (sm == sm) = true := by simp
      clear HQ HO HBT HBF hsc hbw
      go_wp2_with fail
      refine jq.mono ?_
      rintro e w9 ⟨rfl,hb9⟩
      have HE9 : Hid _ := HE.out w9 hb9
      clear jq hb9 HE x0 x1 x2 x3 y0 y1 y2 y3
      go_wp2
      exact HE9.out
end Go.Proofs.Ytehddcdgpamaaaa
