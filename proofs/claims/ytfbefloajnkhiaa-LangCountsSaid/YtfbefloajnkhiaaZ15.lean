/- Texts of the proof, put together: what it uses. -/
import Derived.Test.YtfbefloajnkhiaaZ11
import Derived.Test.YtfbefloajnkhiaaZ14
set_option maxRecDepth 100000
set_option maxHeartbeats 16000000
namespace Go.Proofs.Ytfbefloajnkhiaa
open Go.RowKit Go.Maps Go.Sort
theorem q1I (p : Int) (aA : Option Addr) (nA cA : Nat) (aG : Option Addr) (nG cG : Nat) (aN : Option Addr) (nN cN : Nat) (bs : List Bool) (gs : List Int) (N : List Gd) (mo : Int) (d : Option Addr) (m c : Nat) (zs : List Int) (w : World) (hB : BoSl w aA nA cA bs) (hG : ZSl w aG nG cG gs) (hN : NdSl w aN nN cN N) (hok : ∀ z ∈ gs,I64 z) (hL0 : IntSl Try.prog 27 .u8 w d m c zs) (hz : ∀ z ∈ zs,0 ≤ z ∧ z < 256) (_ : c ≤ 140737488351232) :
  Calls Try.prog 4 #[.agg #[.int .i64 p,.slice aA nA cA,.slice aG nG cG,.slice aN nN cN],.int .i64 mo,.slice d m c] w fun e w' => e = .returned (.bool true) ∧ Below w.heap.size w w' := by
 obtain ⟨Q,hQ⟩ : ∃ Q : Ending → World → Prop,Q = fun e w' => e = .returned (.bool true) ∧ Below w.heap.size w w' := ⟨_,rfl⟩
 have HQ : Hid (∀ w',Below w.heap.size w w' → Q (.returned (.bool true)) w') := fun w' h => by rw [hQ]; exact ⟨rfl,h⟩
 rw [← hQ]
 clear hQ
 obtain ⟨ts,rfl,ht8⟩ := q51 hz
 have hL : LtC w d m c ts := hL0
 have hlen : ts.length = m := by have := hL.hlen; rwa [List.length_map] at this
 have hmb := Nat.le_trans hL.hcap hL.bd
 unfold maxLen at hmb
 have HA0 : Hid _ := qd w p aA nA cA aG nG cG aN nN cN
 have HB0 : Hid (Below w.heap.size w (w.alloc (.cells #[.int .i64 p,.slice aA nA cA,.slice aG nG cG,.slice aN nN cN] 26 (0,0)))) := q6 w _
 have jw := q24 (w.alloc (.cells #[.int .i64 p,.slice aA nA cA,.slice aG nG cG,.slice aN nN cN] 26 (0,0)))
 have HX : Hid (AuX w aA nA cA aG nG cG aN nN cN bs gs N) := ⟨hB,hG,hN⟩
 have HOK : Hid _ := hok
 have HL : Hid (LtC w d m c ts) := hL
 have HLN2 : Hid (ts.length = m) := hlen
 clear hB hG hN hok hL hL0 hz hlen ht8
 go_enter Try.func4,Try.ntmps4
 go_wp2_with fail
 refine jw.mono ?_
 rintro e w1 ⟨rfl,hb1⟩
 have HB1 : Hid (Below w.heap.size w w1) := q5 HB0.out hb1
 have HA1 : Hid (AuB w1 w.heap.size p aA nA cA aG nG cG aN nN cN) := HA0.out.up hb1
 obtain ⟨c0,c1,c2,c3⟩ := HA1.out
 have js := q27 p aA nA cA aG nG cG aN nN cN w1
 clear jw hb1 HB0 HA0
 by_cases hlg : lgB p nA nG nN = true
 ·rw [hlg] at js
  have HE : Hid (∀ w3,Below w1.heap.size w1 w3 → Q (.returned (.bool true)) w3) := fun w3 h => HQ.out w3 (q5 HB1.out h)
  clear HQ hlg
  go_wp2_with fail
  refine js.mono ?_
  rintro e w3 ⟨rfl,hb3⟩
  have HE3 : Hid _ := HE.out w3 hb3
  clear js hb3 HE
  go_wp2
  exact HE3.out
 ·have hlg0 : lgB p nA nG nN = false := by simpa using hlg
  rw [hlg0] at js
  have HLG : Hid _ := q5k hlg0
  clear hlg hlg0
  by_cases hmo0 : mo < 0
  ·have HE : Hid (∀ w3,Below w1.heap.size w1 w3 → Q (.returned (.bool true)) w3) := fun w3 h => HQ.out w3 (q5 HB1.out h)
   clear HQ
   go_wp2_with fail
   refine js.mono ?_
   rintro e w3 ⟨rfl,hb3⟩
   have HE3 : Hid _ := HE.out w3 hb3
   clear js hb3 HE
   go_wp2
   exact HE3.out
  by_cases hmo3 : 3 < mo
  ·have HE : Hid (∀ w3,Below w1.heap.size w1 w3 → Q (.returned (.bool true)) w3) := fun w3 h => HQ.out w3 (q5 HB1.out h)
   clear HQ
   go_wp2_with fail
   refine js.mono ?_
   rintro e w3 ⟨rfl,hb3⟩
   have HE3 : Hid _ := HE.out w3 hb3
   clear js hb3 HE
   go_wp2
   exact HE3.out
  obtain ⟨mm,rfl⟩ := Int.eq_ofNat_of_zero_le (show 0 ≤ mo by omega)
  have hmm : mm ≤ 3 := by omega
  by_cases hm40 : 20 < m
  ·have hm40' : 20 < (m : Int) := by omega
   have HE : Hid (∀ w3,Below w1.heap.size w1 w3 → Q (.returned (.bool true)) w3) := fun w3 h => HQ.out w3 (q5 HB1.out h)
   clear HQ
   go_wp2_with fail
   refine js.mono ?_
   rintro e w3 ⟨rfl,hb3⟩
   have HE3 : Hid _ := HE.out w3 hb3
   clear js hb3 HE
   go_wp2
   exact HE3.out
  ·have hm40' : ¬ 20 < (m : Int) := by omega
   go_wp2_with fail
   refine js.mono ?_
   rintro e w3 ⟨rfl,hb3⟩
   have HB3 : Hid (Below w.heap.size w w3) := q5 HB1.out hb3
   have HA3 : Hid (AuB w3 w.heap.size p aA nA cA aG nG cG aN nN cN) := HA1.out.up hb3
   have hX3 := HX.out.up HB3.out
   have jc := qE p aA nA cA aG nG cG aN nN cN N gs w3 hX3.nd hX3.zs HOK.out
   clear js hb3 HB1 HA1 c0 c1 c2 c3 hX3
   obtain ⟨c0,c1,c2,c3⟩ := HA3.out
   go_wp2_with fail
   refine jc.mono ?_
   rintro e w4 ⟨hb4,v4,rfl,⟨rfl,hM⟩ | ⟨rfl,hM⟩⟩
   ·have HB4 : Hid (Below w.heap.size w w4) := q5 HB3.out hb4
    have HA4 : Hid (AuB w4 w.heap.size p aA nA cA aG nG cG aN nN cN) := HA3.out.up hb4
    have jt := qI p d m c (ts.map Int.ofNat) w4 (HL.out.up HB4.out)
    have HM : Hid _ := hM
    clear jc hb4 HB3 HA3 c0 c1 c2 c3 hM
    obtain ⟨c0,c1,c2,c3⟩ := HA4.out
    by_cases hE : traceE p (ts.map Int.ofNat) = 0
    ·rw [hE] at jt
     have HT : Hid _ := hE
     have h1n : 0 < nA := by have := HM.out.s1; omega
     have hnG : nG = nA := HX.out.zs.hlen.symm.trans HM.out.len
     subst hnG
     have jr := q2W p aA nG cA aG nG cG aN nN cN w4 h1n rfl
     clear hE
     go_wp2_with (go_at_call 9; (with_reducible refine jt.mono ?_); rintro e w' ⟨rfl,hw1⟩; obtain rfl := hw1.symm)
     refine jr.mono ?_
     rintro e w5 ⟨rfl,hb5⟩
     have HB5 : Hid (Below w.heap.size w w5) := q5 HB4.out hb5
     have HA5 : Hid (AuB w5 w.heap.size p aA nG cA aG nG cG aN nN cN) := HA4.out.up hb5
     have j1 := q23 p aA nG cA aG nG cG aN nN cN bs N gs (mm : Int) w5 (HX.out.up HB5.out).bo (HX.out.up HB5.out).nd (HX.out.up HB5.out).zs HOK.out
     clear jt jr hb5 HB4 HA4 c0 c1 c2 c3
     obtain ⟨c0,c1,c2,c3⟩ := HA5.out
     have hk256 := HM.out.k256
     have hnG : nG ≤ 256 := HM.out.s2
     have HTL : Hid _ := q2F HM.out HT.out
     have HR : Hid _ := HM.out.rows (2 ^ p.toNat)
     go_wp2_with fail
     refine j1.mono ?_
     rintro e w6 ⟨hb6,⟨h,_⟩ | ⟨_,h,_⟩ | ⟨_,_,_,_,rfl⟩ | ⟨_,_,_,htot,L,aw,cw,rfl,hLW,hWd⟩⟩
     ·exact absurd HM.out h
     ·exact absurd ⟨by omega,by omega⟩ h
     ·have HE : Hid _ := HQ.out w6 (q5 HB5.out hb6)
      clear HQ hb6 j1
      go_wp2
      exact HE.out
     ·rw [Int.toNat_natCast] at htot hWd
      have HB6 : Hid (Below w.heap.size w w6) := q5 HB5.out hb6
      have HA6 : Hid (AuB w6 w.heap.size p aA nG cA aG nG cG aN nN cN) := HA5.out.up hb6
      have HLW : Hid (LwO w6 w5.heap.size (.slice aw L.length cw) L) := hLW
      have HWD : Hid (L.map Bg.ts = wdP (rowsG N gs (2 ^ p.toNat)) bs (mm + 1)) := hWd
      have HTOT : Hid _ := htot
      clear j1 hb6 HB5 HA5 c0 c1 c2 c3 hLW hWd htot
      have hWA := q3z (bs := bs) HR.out hk256 h1n (mm + 1)
      rw [← HWD.out] at hWA
      obtain ⟨W,hW⟩ : ∃ W,W = L.map Bg.ts := ⟨_,rfl⟩
      rw [← hW] at hWA
      have HWA : Hid (WdA (2 ^ p.toNat) (rowsG N gs (2 ^ p.toNat)) bs (mm + 1) W) := hWA
      have HW : Hid _ := hW
      have hn4 : L.length ≤ 4096 := by
       have h1 := hWA.len
       rw [hW,List.length_map] at h1
       have h2 := HTOT.out
       omega
      have HWL : Hid (W.length = L.length) := by show _ = _; rw [hW,List.length_map]
      obtain ⟨n,hn⟩ : ∃ n,n = L.length := ⟨_,rfl⟩
      rw [← hn] at hn4 HLW HWL ⊢
      have HN : Hid _ := hn
      clear hWA hW hn
      obtain ⟨M1,hM1⟩ : ∃ M1,M1 = mm + 1 := ⟨_,rfl⟩
      have HM1 : Hid _ := hM1
      have hMi : (mm : Int) + 1 = (M1 : Int) := by omega
      have hMw : IntKind.i64.wrap ((mm : Int) + 1) = (M1 : Int) := by rw [IntKind.wrap_i64]; omega
      have hM4 : M1 ≤ 4 := by omega
      have hmk := q49 M1 (by omega) w6
      clear hM1
      obtain ⟨w7,hw7⟩ : ∃ w7,w7 = w6.alloc (.cells ((List.replicate M1 0).map fun (c : Nat) => Value.int .u64 (c : Int)).toArray 43) := ⟨_,rfl⟩
      rw [← hw7] at hmk
      have HU7 : Hid (U64R w7 w6.heap.size (ofL W M1 0)) := by show U64R _ _ _; rw [hw7,q52]; exact (MapKept.heap_alloc w6 _).1
      have HB7 : Hid (Below w6.heap.size w6 w7) := by show Below _ _ _; rw [hw7]; exact q6 _ _
      clear hw7
      generalize hg6 : w6.heap.size = g6 at *
      have HG6 : Hid _ := hg6
      clear hg6
      go_wp2
      clear hmk hMi hMw
      go_loopw [11] (fun i wr => ∃ k : Nat,k ≤ n ∧ i = .int .i64 (k : Int) ∧ Hid (Below g6 w6 wr) ∧ Hid (U64R wr g6 (ofL W M1 k))) (fun i _ => n - (intOf i).toNat)
      case atStart => exact ⟨0,Nat.zero_le _,rfl,HB7,HU7⟩
      case round =>
       clear HB7 HU7
       obtain ⟨i,hi,rfl,HBI,HU⟩ := hrel
       have hb6 : Below w6.heap.size w6 wr := by rw [HG6.out]; exact HBI.out
       by_cases hlt : i < n
       ·obtain ⟨x,hx⟩ : ∃ x,L[i]? = some x := ⟨_,List.getElem?_eq_getElem (by rw [← HN.out]; exact hlt)⟩
        have hWi : W[i]? = some x.ts := by rw [HW.out,List.getElem?_map,hx]; rfl
        obtain ⟨hx1,hx2,hx3⟩ := HWA.out.ok x.ts (List.mem_of_getElem? hWi)
        obtain ⟨gw,cw1,ew,q1,l1⟩ := (HLW.out.up hb6).at HN.out.symm hx
        injection ew with ew1 _ ew3
        subst ew1; subst ew3
        have ix1 := fun w' => q2o gw n cw i hlt w'
        obtain ⟨c0,c1,c2,c3⟩ := HA6.out.up hb6
        have hXr := HX.out.up (q5 HB6.out hb6)
        have cS : ∀ d os,Calls Try.prog 11 #[.agg #[.int .i64 p,.slice aA nG cA,.slice aG nG cG,.slice aN nN cN],.slice x.a x.ts.length x.c] (grow (redrawn wr d) os) fun e w'' => e = .returned (.tuple #[.bool true,.int .i64 0]) ∧ ∃ p : Regrown,w'' = grow (redrawn wr p.d) p.os := fun d os => by
         have hb := below_regrown wr d os
         refine (q4L p aA nG cA aG nG cG aN nN cN bs N gs HM.out HOK.out (hXr.up hb) (l1.up hb) (q2G HM.out (by omega) hx2)).mono ?_
         rintro e w'' ⟨v,rfl,HV,h2⟩
         have hv : v = true := by rw [HV.out]; exact hx3
         subst hv
         exact ⟨rfl,regrown_of_below (q5 hb h2)⟩
        have HBR : Hid (∀ d os,Below w6.heap.size w6 (grow (redrawn wr d) os) ∧ U64R (grow (redrawn wr d) os) g6 (ofL W M1 i)) := fun d os => ⟨q5 hb6 (below_regrown wr d os),HU.out.up (below_regrown wr d os)⟩
        dsimp only [Bg.v] at q1
        have k0 := cell_regrown c0
        have k1 := cell_regrown c1
        have k2 := cell_regrown c2
        have k3 := cell_regrown c3
        have kq := cell_regrown q1
        have dq0 : decide ((i : Int) < 0) = false := by simp
        have dq1 : decide (n ≤ i) = false := by simp; exact hlt
        have HX1 : Hid _ := hx
        have HW1 : Hid _ := hWi
        have hxl : x.ts.length ≤ mm := by omega
        have HX2 : Hid _ := hx2
        clear hx hWi hx1 hx2 hx3 l1 q1 c0 c1 c2 c3 hXr hb6 HBI HU
        go_wp2_with fail
        refine wp_region_quiet_below (by kernel_rfl) (by kernel_rfl) ?_
        repeat (go_big_quiet_step (exact cS _ _))
        refine wpQuiet_nil ?_
        intro _ hw'
        obtain ⟨⟨dq,osq⟩,hw''⟩ := hw'
        subst hw''
        obtain ⟨hbx,hux⟩ := HBR.out dq osq
        have HBX : Hid (Below w6.heap.size w6 (grow (redrawn wr dq) osq)) := hbx
        have HUX : Hid (U64R (grow (redrawn wr dq) osq) g6 (ofL W M1 i)) := hux
        generalize grow (redrawn wr dq) osq = wx at *
        clear cS k0 k1 k2 k3 kq HBR hbx hux
        have hLx := HLW.out.up HBX.out
        obtain ⟨gw2,cw2,ew,q1,l1⟩ := hLx.at HN.out.symm HX1.out
        injection ew with ew1 _ ew3
        injection ew1 with ew1
        injection ew1 with ew1
        subst ew1; subst ew3
        dsimp only [Bg.v] at q1
        have kq := cell_regrown q1
        have hxM : x.ts.length < M1 := by rw [HM1.out]; omega
        obtain ⟨C1,hC1⟩ : ∃ C1,C1 = (ofL W M1 i).getD x.ts.length 0 + 1 := ⟨_,rfl⟩
        have hC4 : (ofL W M1 i).getD x.ts.length 0 ≤ 4096 := Nat.le_trans (q5I W M1 i x.ts.length) (by rw [HWL.out]; exact hn4)
        have hCw : IntKind.u64.wrap ((((ofL W M1 i).getD x.ts.length 0 : Nat) : Int) + 1) = (C1 : Int) := by rw [IntKind.wrap_u64]; omega
        have hCi : (((ofL W M1 i).getD x.ts.length 0 : Nat) : Int) + 1 = (C1 : Int) := by omega
        have HC1 : Hid _ := hC1
        have ixu := fun w' => q2q g6 M1 x.ts.length hxM w'
        have dl1 : decide (mm < x.ts.length) = false := by simp; exact hxl
        have dl2 : decide ((mm : Int) < (x.ts.length : Int)) = false := by simp; exact hxl
        have HBR : Hid (∀ d os,Below w6.heap.size w6 (grow (redrawn wx d) os) ∧ U64R (grow (redrawn wx d) os) g6 (ofL W M1 i) ∧ (grow (redrawn wx d) os).cell? ⟨gw,i,none⟩ = some (.slice x.a x.ts.length x.c)) := fun d os => ⟨q5 HBX.out (below_regrown wx d os),HUX.out.up (below_regrown wx d os),q9 q1 (below_regrown wx d os)⟩
        have HL1 : Hid (LtC wx x.a x.ts.length x.c x.ts) := l1
        clear hC1 q1 l1 HUX
        by_cases hi0 : 0 < i
        ·obtain ⟨i1,hi1⟩ : ∃ i1,i1 = i - 1 := ⟨_,rfl⟩
         have hsw : IntKind.i64.wrap ((i : Int) - 1) = (i1 : Int) := by rw [IntKind.wrap_i64]; omega
         have hsi : (i : Int) - 1 = (i1 : Int) := by omega
         have hi1n : i1 < n := by omega
         obtain ⟨y,hy⟩ : ∃ y,L[i1]? = some y := ⟨_,List.getElem?_eq_getElem (by rw [← HN.out]; exact hi1n)⟩
         have hWy : W[i1]? = some y.ts := by rw [HW.out,List.getElem?_map,hy]; rfl
         obtain ⟨gw3,cw3,ew,q2,l2⟩ := hLx.at HN.out.symm hy
         injection ew with ew1 _ ew3
         injection ew1 with ew1
         injection ew1 with ew1
         subst ew1; subst ew3
         dsimp only [Bg.v] at q2
         have kq2 := cell_regrown q2
         have ix2 := fun w' => q2o gw n cw i1 hi1n w'
         have hah : ahL y.ts x.ts = true := by
          have h8 : ∀ {t : List Nat},(∀ l ∈ t,l < 2 ^ p.toNat) → ∀ l ∈ t,l < 256 := fun h l hl => by have := h l hl; omega
          have hy2 := (HWA.out.ok y.ts (List.mem_of_getElem? hWy)).2.1
          rw [q5b (h8 hy2) (h8 HX2.out)]
          have h9 := List.pairwise_iff_getElem.1 HWA.out.ord i1 i (List.getElem?_eq_some_iff.1 hWy).1 (List.getElem?_eq_some_iff.1 HW1.out).1 (by omega)
          rw [(List.getElem?_eq_some_iff.1 hWy).2,(List.getElem?_eq_some_iff.1 HW1.out).2] at h9
          exact h9
         have cS : ∀ d os,Calls Try.prog 14 #[.slice y.a y.ts.length y.c,.slice x.a x.ts.length x.c] (grow (redrawn wx d) os) fun e w'' => e = .returned (.bool true) ∧ ∃ p : Regrown,w'' = grow (redrawn wx p.d) p.os := fun d os => by
          have hb := below_regrown wx d os
          refine (q2H y.a y.ts.length y.c y.ts x.a x.ts.length x.c x.ts _ (l2.up hb) (HL1.out.up hb)).mono ?_
          rintro e w'' ⟨rfl,h2⟩
          rw [hah]
          exact ⟨rfl,regrown_of_below (q5 hb h2)⟩
         have di1 : decide (0 < i) = true := by simp; exact hi0
         have di2 : decide ((0 : Int) < (i : Int)) = true := by simp; exact hi0
         have dj0 : decide ((i1 : Int) < 0) = false := by simp
         have dj1 : decide (n ≤ i1) = false := by simp; exact hi1n
         clear hy hWy l2 q2 hah hLx HL1 HX2 HBX hi1
         go_wp2_with fail
         refine wp_region_quiet_below (by kernel_rfl) (by kernel_rfl) ?_
         repeat (go_big_quiet_step (exact cS _ _))
         refine wpQuiet_nil ?_
         intro _ hw'
         obtain ⟨⟨dq2,osq2⟩,hw''⟩ := hw'
         subst hw''
         obtain ⟨hby,huy,qy⟩ := HBR.out dq2 osq2
         have HBY : Hid (Below w6.heap.size w6 (grow (redrawn wx dq2) osq2)) := hby
         have HUY : Hid (U64R (grow (redrawn wx dq2) osq2) g6 (ofL W M1 i)) := huy
         obtain ⟨cu,fu⟩ := huy.at (qt W M1 i) hxM
         generalize grow (redrawn wx dq2) osq2 = wy at *
         clear cS kq HBR hby huy kq2 ix2 hsw hsi
         have HUN : Hid (U64R (wy.setCell ⟨g6,x.ts.length,none⟩ (.int .u64 (C1 : Int))) g6 (ofL W M1 (i + 1))) := by
          rw [q3s HW1.out hxM,← HC1.out]
          exact HUY.out.set _ _
         have HBN : Hid (Below g6 w6 (wy.setCell ⟨g6,x.ts.length,none⟩ (.int .u64 (C1 : Int)))) := by
          have h1 := HBY.out
          rw [HG6.out] at h1
          exact h1.setCell (Nat.le_refl _) _
         generalize (ofL W M1 i).getD x.ts.length 0 = cc at *
         clear HUY HBY HW1 HX1
         go_wp2
         go_roundw
         case rel => exact ⟨i + 1,by omega,by go_num,HBN,HUN⟩
         case measure => simp [intOf]; omega
        ·have di1 : decide (0 < i) = false := by simp; omega
         have di2 : decide ((0 : Int) < (i : Int)) = false := by simp; omega
         have cS : ∀ (d os : Nat),True := fun _ _ => trivial
         clear hLx HL1 HX2 HBX
         go_wp2_with fail
         refine wp_region_quiet_below (by kernel_rfl) (by kernel_rfl) ?_
         repeat (go_big_quiet_step (exact cS _ _))
         refine wpQuiet_nil ?_
         intro _ hw'
         obtain ⟨⟨dq2,osq2⟩,hw''⟩ := hw'
         subst hw''
         obtain ⟨hby,huy,qy⟩ := HBR.out dq2 osq2
         have HBY : Hid (Below w6.heap.size w6 (grow (redrawn wx dq2) osq2)) := hby
         have HUY : Hid (U64R (grow (redrawn wx dq2) osq2) g6 (ofL W M1 i)) := huy
         obtain ⟨cu,fu⟩ := huy.at (qt W M1 i) hxM
         generalize grow (redrawn wx dq2) osq2 = wy at *
         clear cS kq HBR hby huy 
         have HUN : Hid (U64R (wy.setCell ⟨g6,x.ts.length,none⟩ (.int .u64 (C1 : Int))) g6 (ofL W M1 (i + 1))) := by
          rw [q3s HW1.out hxM,← HC1.out]
          exact HUY.out.set _ _
         have HBN : Hid (Below g6 w6 (wy.setCell ⟨g6,x.ts.length,none⟩ (.int .u64 (C1 : Int)))) := by
          have h1 := HBY.out
          rw [HG6.out] at h1
          exact h1.setCell (Nat.le_refl _) _
         generalize (ofL W M1 i).getD x.ts.length 0 = cc at *
         clear HUY HBY HW1 HX1
         go_wp2
         go_roundw
         case rel => exact ⟨i + 1,by omega,by go_num,HBN,HUN⟩
         case measure => simp [intOf]; omega
       ·obtain rfl : i = n := by omega
        have HOF : Hid (∀ k,k < M1 → (ofL W M1 i).getD k 0 = cntP (rowsG N gs (2 ^ p.toNat)) bs k 0) := fun k hk => by
         rw [q3r W hk,List.take_of_length_le (by rw [HWL.out]; exact Nat.le_refl _)]
         exact HWA.out.cnt k (by rw [← HM1.out]; exact hk)
        have HB8 : Hid (Below w6.heap.size w6 wr) := hb6
        have HU8 : Hid (U64R wr g6 (ofL W M1 i)) := HU.out
        clear hb6 HBI HU HWA HW HWD hlt hi HLW HN HWL
        go_wp2
        go_loopw [14] (fun j wy => ∃ k : Nat,k ≤ M1 ∧ j = .int .i64 (k : Int) ∧ Hid (Below w6.heap.size w6 wy) ∧ Hid (U64R wy g6 (ofL W M1 i))) (fun j _ => M1 - (intOf j).toNat)
        case atStart => exact ⟨0,Nat.zero_le _,rfl,HB8,HU8⟩
        case round =>
         clear HB8 HU8
         obtain ⟨k,hk,rfl,HB8,HU8⟩ := hrel
         have hA8 := HA6.out.up HB8.out
         by_cases hlt : k < M1
         ·have hkm : k ≤ mm := by have := HM1.out; omega
          have hki : (k : Int) ≤ (mm : Int) := by omega
          obtain ⟨c0,c1,c2,c3⟩ := hA8
          have hXr := HX.out.up (q5 HB6.out HB8.out)
          have hck : cntP (rowsG N gs (2 ^ p.toNat)) bs k 0 ≤ 4096 := Nat.le_trans (q3x _ bs (show k < mm + 1 by omega)) HTOT.out
          have jc : Calls Try.prog 16 #[.agg #[.int .i64 p,.slice aA nG cA,.slice aG nG cG,.slice aN nN cN],.int .i64 (k : Int)] wr fun e w' => e = .returned (.tuple #[.int .u64 (((ofL W M1 i).getD k 0 : Nat) : Int),.int .i64 0]) ∧ Below wr.heap.size wr w' := by
           refine (q11 p aA nG cA aG nG cG aN nN cN bs N gs (k : Int) wr hXr.bo hXr.nd hXr.zs HOK.out).mono ?_
           rintro e w' ⟨hb,v,r,rfl,⟨h,_⟩ | ⟨_,h,_⟩ | ⟨_,_,_,h,_⟩ | ⟨_,_,_,_,h1,h2⟩⟩
           ·exact absurd HM.out h
           ·exact absurd ⟨by omega,by omega⟩ h
           ·rw [Int.toNat_natCast] at h; omega
           ·rw [Int.toNat_natCast] at h1
            rw [h1,h2,HOF.out k hlt]
            exact ⟨rfl,hb⟩
          have ixu := fun w' => q2q g6 M1 k hlt w'
          clear hXr
          generalize hcc : (ofL W M1 i).getD k 0 = cc at *
          have HCC : Hid _ := hcc
          clear hcc
          go_wp2_with fail
          refine jc.mono ?_
          rintro e w9 ⟨rfl,hb9⟩
          have HB9 : Hid (Below w6.heap.size w6 w9) := q5 HB8.out hb9
          have HU9 : Hid (U64R w9 g6 (ofL W M1 i)) := HU8.out.up hb9
          obtain ⟨cu,_⟩ := HU9.out.at (qt W M1 i) hlt
          rw [HCC.out] at cu
          have hcq : ((cc : Int) == (cc : Int)) = true := by simp
          clear jc hb9 HB8 HU8 c0 c1 c2 c3
          go_wp2
          go_roundw
          case rel => exact ⟨k + 1,by omega,by go_num,HB9,HU9⟩
          case measure => simp [intOf]; omega
         ·obtain rfl : k = M1 := by omega
          have hki : ¬ (k : Int) ≤ (mm : Int) := by have := HM1.out; omega
          have hkn : ¬ k ≤ mm := by have := HM1.out; omega
          have HB9 : Hid (Below w.heap.size w wr) := q5 HB6.out HB8.out
          have HA9 : Hid (AuB wr w.heap.size p aA nG cA aG nG cG aN nN cN) := hA8
          have hXr := HX.out.up HB9.out
          have jl := q2T p aA nG cA aG nG cG aN nN cN bs N gs wr hXr.bo hXr.nd hXr.zs HOK.out
          clear HB8 HU8 HOF HB6 HA6 HTOT hXr hA8 HG6 HM1
          obtain ⟨c0,c1,c2,c3⟩ := HA9.out
          go_wp2_with fail
          refine jl.mono ?_
          rintro e w10 ⟨hb10,⟨h,_⟩ | ⟨_,gl,cl,ls,rfl,hol,hLA⟩⟩
          ·exact absurd HM.out h
          ·have HB10 : Hid (Below w.heap.size w w10) := q5 HB9.out hb10
           have HA10 : Hid (AuB w10 w.heap.size p aA nG cA aG nG cG aN nN cN) := HA9.out.up hb10
           have HLS : Hid (BoSl w10 (some ⟨gl,0,none⟩) nG cl ls) := q5r hol
           have HLA : Hid (LivA nG (2 ^ p.toNat) (rowsG N gs (2 ^ p.toNat)) bs ls) := hLA
           have hXr := HX.out.up HB10.out
           have jr := q22 p aA nG cA aG nG cG aN nN cN bs N gs w10 hXr.bo hXr.nd hXr.zs HOK.out
           clear jl hb10 HB9 HA9 c0 c1 c2 c3 hol hLA hXr
           obtain ⟨c0,c1,c2,c3⟩ := HA10.out
           go_wp2_with fail
           refine jr.mono ?_
           rintro e w11 ⟨hb11,⟨h,_⟩ | ⟨_,gz,zs,rfl,_,hrz,hLN⟩⟩
           ·exact absurd HM.out h
           ·have HB11 : Hid (Below w.heap.size w w11) := q5 HB10.out hb11
            have HA11 : Hid (AuB w11 w.heap.size p aA nG cA aG nG cG aN nN cN) := HA10.out.up hb11
            have HLS11 : Hid (BoSl w11 (some ⟨gl,0,none⟩) nG cl ls) := HLS.out.up hb11
            have HRZ : Hid (RowI w11 3 gz zs) := hrz
            have HLN : Hid (LenA nG (2 ^ p.toNat) (rowsG N gs (2 ^ p.toNat)) zs) := hLN
            clear jr hb11 HB10 HA10 HLS c0 c1 c2 c3 hrz hLN
            obtain ⟨c0,c1,c2,c3⟩ := HA11.out
            go_wp2
            clear c0 c1 c2 c3 hki hkn
            have HQ2 : Hid (∀ w',Below w11.heap.size w11 w' → Q (.returned (.bool true)) w') := fun w' hb => HQ.out w' (q5 HB11.out hb)
            have HLL : Hid (ls.length = nG) := HLA.out.1
            have HZL : Hid (zs.length = nG) := HLN.out.1
            have HBL : Hid (bs.length = nG) := HX.out.bo.hlen
            have hlsc := HLS11.out.hcap
            clear HQ
            go_loopw [21,22] (fun qv iv wy => ∃ (i q : Nat),i ≤ m ∧ iv = .int .i64 (i : Int) ∧ qv = .int .i64 (q : Int) ∧ q < nG ∧ Hid (Below w11.heap.size w11 wy) ∧ Hid (q = runP (rowsG N gs (2 ^ p.toNat)) 0 (ts.take i))) (fun _ iv _ => m + 1 - (intOf iv).toNat)
            case atStart => exact ⟨0,0,Nat.zero_le _,rfl,rfl,h1n,Below.refl _ _,rfl⟩
            case round =>
             obtain ⟨i,q,hi,rfl,rfl,hq,HB,HR0⟩ := hrel
             have hbw := q5 HB11.out HB.out
             obtain ⟨c0,c1,c2,c3⟩ := HA11.out.up HB.out
             have htk : ∀ l ∈ ts.take i,l < 2 ^ p.toNat := fun l hl => HTL.out l (List.mem_of_mem_take hl)
             have hz := HLN.out.on HR.out h1n htk
             rw [← HR0.out,List.length_take,HLN2.out] at hz
             have hcz := (HRZ.out.up HB.out).cell (i := q) (by rw [HZL.out]; exact hq)
             have ixz := fun w' => q16 gz nG q hq w'
             generalize zs.getD q 0 = z at *
             have hz1 : ¬ z < 0 := by omega
             have hz2 : ¬ (i : Int) < z := by omega
             obtain ⟨ib,cb⟩ := (HX.out.bo.up hbw).at q hq
             have ib := fun w' => ib nG w' hq
             obtain ⟨il,cl1⟩ := (HLS11.out.up HB.out).at q hq
             have il := fun w' => il nG w' hq
             have gb : bs.getD q false = bs[q]'(by rw [HBL.out]; exact hq) := by rw [List.getD_eq_getElem?_getD,List.getElem?_eq_getElem (by rw [HBL.out]; exact hq)]; rfl
             have gl1 : ls.getD q false = ls[q]'(by rw [HLL.out]; exact hq) := by rw [List.getD_eq_getElem?_getD,List.getElem?_eq_getElem (by rw [HLL.out]; exact hq)]; rfl
             have HAC : Hid (bs[q]'(by rw [HBL.out]; exact hq) = true → ls[q]'(by rw [HLL.out]; exact hq) = true) := fun h => by rw [← gl1]; exact HLA.out.acc hq (by rw [gb]; exact h)
             have HBK : Hid (∀ x,x < 2 ^ p.toNat → ls.getD (trP (rowsG N gs (2 ^ p.toNat)) q x) false = true → ls[q]'(by rw [HLL.out]; exact hq) = true) := fun x hx h => by rw [← gl1]; exact HLA.out.back HR.out hq hx h
             clear gb gl1 hz htk
             generalize bs[q]'(by rw [HBL.out]; exact hq) = y at *
             generalize ls[q]'(by rw [HLL.out]; exact hq) = lq at *
             generalize adOf aA q = ada at *
             obtain ⟨ad1,ad2,ad3⟩ := ada
             generalize adOf (some (⟨gl,0,none⟩ : Addr)) q = adl at *
             obtain ⟨al1,al2,al3⟩ := adl
             by_cases him : i = m
             ·subst him
              have HE : Hid _ := HQ2.out wr HB.out
              have hlq : y = false ∨ (y = true ∧ lq = true) := by
               cases y with
               | false => exact .inl rfl
               | true => exact .inr ⟨rfl,HAC.out rfl⟩
              clear HAC HBK HQ2
              rcases hlq with rfl | ⟨rfl,rfl⟩
              ·go_wp2
               exact HE.out
              ·go_wp2
               exact HE.out
             ·have hlt : i < m := by omega
              have hime : ((i : Int) == (m : Int)) = false := by simp; omega
              have hit : i < ts.length := by rw [HLN2.out]; exact hlt
              have hS := HL.out.up hbw
              have hixl := fun w' => hS.idx m i w' hlt (Nat.le_refl _)
              have hcl := hS.cell i hlt
              rw [qi hit] at hcl
              have hzn : ts.getD i 0 < 2 ^ p.toNat := HTL.out _ (q2y hit)
              have hv2 := HR.out.lt q (ts.getD i 0) hq hzn
              have hixg := fun w' => HX.out.zs.idx nG q w' hq (Nat.le_refl _)
              have hcg := (HX.out.zs.up hbw).cell q hq
              have hv1 := HM.out.tr (K := 2 ^ p.toNat) (s := q) (x := ts.getD i 0) hq hzn
              have hi64 := q3l HM.out (q := q) (by have h2 := HM.out.len; omega)
              have hz256 : ts.getD i 0 < 256 := by omega
              have hN1 := HX.out.nd.up hbw
              have cS : ∀ d os,Calls Try.prog 19 #[.slice aN nN cN,.int .i64 (gs.getD q 0),.int .u8 ((ts.getD i 0 : Nat) : Int)] (grow (redrawn wr d) os) fun e w'' => e = .returned (.tuple #[.int .i64 ((trP (rowsG N gs (2 ^ p.toNat)) q (ts.getD i 0) : Nat) : Int),.bool true]) ∧ ∃ p : Regrown,w'' = grow (redrawn wr p.d) p.os := fun d os => by
               have hb := below_regrown wr d os
               refine (qU aN nN cN N (gs.getD q 0) (ts.getD i 0) _ (hN1.up hb) hi64 hz256).mono ?_
               rintro e w'' ⟨rfl,h2⟩
               rw [hv1]
               exact ⟨rfl,regrown_of_below (q5 hb h2)⟩
              have HI2 : Hid (∀ d os,Below w11.heap.size w11 (grow (redrawn wr d) os)) := fun d os => q5 HB.out (below_regrown wr d os)
              have HRN : Hid (trP (rowsG N gs (2 ^ p.toNat)) q (ts.getD i 0) = runP (rowsG N gs (2 ^ p.toNat)) 0 (ts.take (i + 1))) := by show _ = _; rw [q2D hit,ql,← HR0.out]
              have hbk := HBK.out (ts.getD i 0) hzn
              have dq0 : decide ((q : Int) < 0) = false := by simp
              have dq1 : decide (nG ≤ q) = false := by simp; exact hq
              have di0 : decide ((i : Int) < 0) = false := by simp
              have di1 : decide (m ≤ i) = false := by simp; exact hlt
              have k2 := cell_regrown c2
              have k3 := cell_regrown c3
              have kg := cell_regrown hcg
              have kl := cell_regrown hcl
              clear hS hzn hbw hi64 hN1 hv1 hcg hcl c0 c2 c3 HBK HR0 HB him
              generalize trP (rowsG N gs (2 ^ p.toNat)) q (ts.getD i 0) = v at *
              generalize ts.getD i 0 = zz at *
              generalize gs.getD q 0 = rq at *
              generalize adOf aG q = ag at *
              obtain ⟨ag1,ag2,ag3⟩ := ag
              generalize adOf d i = ad at *
              obtain ⟨adx1,adx2,adx3⟩ := ad
              have hlq : y = false ∨ (y = true ∧ lq = true) := by
               cases y with
               | false => exact .inl rfl
               | true => exact .inr ⟨rfl,HAC.out rfl⟩
              have HBK2 : Hid _ := hbk
              clear HAC hbk
              have go1 : True := trivial
              rcases hlq with rfl | ⟨rfl,rfl⟩
              all_goals
               go_wp2_with fail
               refine wp_region_quiet_below (by kernel_rfl) (by kernel_rfl) ?_
               repeat (go_big_quiet_step (exact cS _ _))
               refine wpQuiet_nil ?_
               intro _ hw'
               obtain ⟨⟨dq,osq⟩,hw''⟩ := hw'
               subst hw''
               have HI3 : Hid (Below w11.heap.size w11 (grow (redrawn wr dq) osq)) := HI2.out dq osq
               obtain ⟨il2,cl2⟩ := (HLS11.out.up HI3.out).at v hv2
               have il2 := fun w' => il2 nG w' hv2
               have cl3 := q9 cl1 (below_regrown wr dq osq)
               have hlv : ls.getD v false = ls[v]'(by rw [HLL.out]; exact hv2) := by rw [List.getD_eq_getElem?_getD,List.getElem?_eq_getElem (by rw [HLL.out]; exact hv2)]; rfl
               have hbk := HBK2.out
               rw [hlv] at hbk
               clear hlv
               generalize ls[v]'(by rw [HLL.out]; exact hv2) = lv at *
               generalize grow (redrawn wr dq) osq = wx at *
               generalize adOf (some (⟨gl,0,none⟩ : Addr)) v = adv at *
               obtain ⟨av1,av2,av3⟩ := adv
               have hv0 : ¬ (v : Int) < 0 := by omega
               have hvn : ¬ (nG : Int) ≤ (v : Int) := by omega
               have HV2 : Hid _ := hv2
               clear cS k2 k3 kg kl HI2 cl1 cb hcz HBK2
               cases lv with
               | false =>
                clear hbk
                go_wp2
                go_roundw
                case rel => exact ⟨i + 1,v,by omega,by go_num,rfl,HV2.out,HI3,HRN⟩
                case measure => simp [intOf]; omega
               | true =>
                have hq1 := hbk rfl
                clear hbk
                first
                 | subst hq1
                 | clear hq1
                go_wp2
                go_roundw
                case rel => exact ⟨i + 1,v,by omega,by go_num,rfl,HV2.out,HI3,HRN⟩
                case measure => simp [intOf]; omega
    ·have hE2 : ((traceE p (ts.map Int.ofNat)) == 0) = false := by simpa using hE
     have hE3 : ((traceE p (ts.map Int.ofNat)) != 0) = true := by simpa using hE
     have HE : Hid _ := HQ.out w4 HB4.out
     clear HQ HB4
     generalize traceE p (ts.map Int.ofNat) = r at *
     go_wp2_with (go_at_call 9; (with_reducible refine jt.mono ?_); rintro e w' ⟨rfl,hw1⟩; obtain rfl := hw1.symm)
     exact HE.out
   ·have HE : Hid _ := HQ.out w4 (q5 HB3.out hb4)
    clear HQ hM jc hb4
    go_wp2
    exact HE.out
end Go.Proofs.Ytfbefloajnkhiaa
