/- Texts of the proof, put together: what it uses. -/
import Derived.BigQuiet
import Derived.Test.YtcnkgokfjafgkaaZ16
import Derived.Test.YtcnkgokfjafgkaaZ18
set_option maxRecDepth 100000
set_option maxHeartbeats 16000000
namespace Go.Proofs.Ytcnkgokfjafgkaa
open Go.RowKit Go.Maps Go.Sort
structure OwA (w : World) (base : Nat) (a1 : Option Addr) (c1 : Nat) (a2 : Option Addr) (c2 : Nat) (a3 : Option Addr) (c3 : Nat) (bs : List Bool) (gs : List Int) (N : List Gd) : Prop where
 ac : w.ownsRow base 4 1 (.slice a1 bs.length c1) bs.length (bs.map Value.bool)
 gu : w.ownsRow base 3 1 (.slice a2 bs.length c2) bs.length (gs.map (Value.int .i64))
 no : w.ownsRow base 45 3 (.slice a3 N.length c3) N.length (encGd N)
 ok : ∀ t ∈ N,GdOk t
theorem OwA.bo {w : World} {base : Nat} {a1 : Option Addr} {c1 : Nat} {a2 : Option Addr} {c2 : Nat} {a3 : Option Addr} {c3 : Nat} {bs : List Bool} {gs : List Int} {N : List Gd} (h : OwA w base a1 c1 a2 c2 a3 c3 bs gs N) : BoSl w a1 bs.length c1 bs := by
 obtain ⟨a',c',e,hb⟩ := qaW h.ac
 injection e with e1 _ e3
 subst e1 e3
 exact hb
theorem OwA.zs {w : World} {base : Nat} {a1 : Option Addr} {c1 : Nat} {a2 : Option Addr} {c2 : Nat} {a3 : Option Addr} {c3 : Nat} {bs : List Bool} {gs : List Int} {N : List Gd} (h : OwA w base a1 c1 a2 c2 a3 c3 bs gs N) : ZSl w a2 bs.length c2 gs := by
 obtain ⟨a',c',e,hz,_⟩ := q13 h.gu Try.underlying23 qf
 injection e with e1 _ e3
 subst e1 e3
 exact hz
theorem OwA.nd {w : World} {base : Nat} {a1 : Option Addr} {c1 : Nat} {a2 : Option Addr} {c2 : Nat} {a3 : Option Addr} {c3 : Nat} {bs : List Bool} {gs : List Int} {N : List Gd} (h : OwA w base a1 c1 a2 c2 a3 c3 bs gs N) : NdSl w a3 N.length c3 N := by
 obtain ⟨a',c',e,hn,_⟩ := q8l h.no h.ok
 injection e with e1 _ e3
 subst e1 e3
 exact hn
theorem OwA.up {w w' : World} {base : Nat} {a1 : Option Addr} {c1 : Nat} {a2 : Option Addr} {c2 : Nat} {a3 : Option Addr} {c3 : Nat} {bs : List Bool} {gs : List Int} {N : List Gd} (h : OwA w base a1 c1 a2 c2 a3 c3 bs gs N) (hb : Below w.heap.size w w') : OwA w' base a1 c1 a2 c2 a3 c3 bs gs N := ⟨qC h.ac hb,qC h.gu hb,qC h.no hb,h.ok⟩
theorem OwA.base {w : World} {base base' : Nat} {a1 : Option Addr} {c1 : Nat} {a2 : Option Addr} {c2 : Nat} {a3 : Option Addr} {c3 : Nat} {bs : List Bool} {gs : List Int} {N : List Gd} (h : OwA w base a1 c1 a2 c2 a3 c3 bs gs N) (hb : base' ≤ base) : OwA w base' a1 c1 a2 c2 a3 c3 bs gs N := ⟨qx h.ac hb,qx h.gu hb,qx h.no hb,h.ok⟩
theorem OwA.on {w w' : World} {base g : Nat} {a1 : Option Addr} {c1 : Nat} {a2 : Option Addr} {c2 : Nat} {a3 : Option Addr} {c3 : Nat} {bs : List Bool} {gs : List Int} {N : List Gd} (h : OwA w base a1 c1 a2 c2 a3 c3 bs gs N) (hO : OnG g w w') (hg : g < base) : OwA w' base a1 c1 a2 c2 a3 c3 bs gs N :=
 ⟨hO.own h.ac (fun k e e2 => by have := qm h.ac k e; omega),hO.own h.gu (fun k e e2 => by have := qm h.gu k e; omega),hO.own h.no (fun k e e2 => by have := qm h.no k e; omega),h.ok⟩
def SmR (p : Int) (nA : Nat) (bs : List Bool) (N : List Gd) (gs : List Int) (w : World) (e : Ending) (w' : World) : Prop :=
 Below w.heap.size w w' ∧ ∃ (bs' : List Bool) (gs' : List Int) (N' : List Gd) (a1 : Option Addr) (c1 : Nat) (a2 : Option Addr) (c2 : Nat) (a3 : Option Addr) (c3 : Nat),e = .returned (.agg #[.int .i64 p,.slice a1 bs'.length c1,.slice a2 bs'.length c2,.slice a3 N'.length c3]) ∧ MinA p nA bs N gs bs' gs' N' ∧ OwA w' w.heap.size a1 c1 a2 c2 a3 c3 bs' gs' N'
theorem q4K {F : List Nat} {bs : List Bool} {i : Nat} (h : i < F.length) : accC (F.take (i + 1)) bs = accC (F.take i) bs ++ [bs.getD (F.getD i 0) false] := by
 rw [accC,qB h,List.map_append]; rfl
theorem q19 (F : List Nat) (bs : List Bool) : (accC F bs).length = F.length := by simp [accC]
theorem q1V {w : World} {base e size n b j : Nat} {v : Value} {xs : List Value} {cs : Array Value} (h : w.ownsRow base e size v n xs) (hb : w.heap[b]? = some (.cells cs 26 (0,0))) (he : e ≠ 26) (u : Value) : (w.setCell ⟨b,j,none⟩ u).ownsRow base e size v n xs :=
 qb h fun k hk => Below.heap_setCell _ _ _ _ (fun e2 => q1S hb h he (by dsimp only at e2; rw [← e2]; exact hk))
abbrev finW (W : World) (m0 r : Nat) (x0 x1 x2 x3 : Value) : World := ((((W.setCell ⟨m0,3,none⟩ x3).setCell ⟨r,0,none⟩ x0).setCell ⟨r,1,none⟩ x1).setCell ⟨r,2,none⟩ x2).setCell ⟨r,3,none⟩ x3
theorem q5U {W : World} {m0 r : Nat} {x0 x1 x2 x3 : Value} {cs : Array Value} {y0 y1 y2 y3 : Value} (hm : W.heap[m0]? = some (.cells cs 26 (0,0))) (hr : W.heap[r]? = some (.cells #[y0,y1,y2,y3] 26 (0,0))) (hne : m0 ≠ r) :
  (finW W m0 r x0 x1 x2 x3).heap[r]? = some (.cells #[x0,x1,x2,x3] 26 (0,0)) ∧ ∀ (base e size n : Nat) (v : Value) (xs : List Value),e ≠ 26 → W.ownsRow base e size v n xs → (finW W m0 r x0 x1 x2 x3).ownsRow base e size v n xs := by
 have h0 : (W.setCell ⟨m0,3,none⟩ x3).heap[r]? = some (.cells #[y0,y1,y2,y3] 26 (0,0)) := (Below.heap_setCell _ _ _ _ (by dsimp only; exact fun e => hne e.symm)).trans hr
 have h1 := heap_setCell_same _ r 0 _ _ x0 h0
 have h2 := heap_setCell_same _ r 1 _ _ x1 h1
 have h3 := heap_setCell_same _ r 2 _ _ x2 h2
 have h4 := heap_setCell_same _ r 3 _ _ x3 h3
 exact ⟨h4,fun base e size n v xs he ho => q1V (q1V (q1V (q1V (q1V ho hm he x3) h0 he x0) h1 he x1) h2 he x2) h3 he x3⟩
theorem q4O {B : Nat} {w W : World} {m0 r : Nat} {x0 x1 x2 x3 : Value} (h : Below B w W) (h1 : B ≤ m0) (h2 : B ≤ r) : Below B w (finW W m0 r x0 x1 x2 x3) :=
 ((((h.setCell (by dsimp only; exact h1) _).setCell (by dsimp only; exact h2) _).setCell (by dsimp only; exact h2) _).setCell (by dsimp only; exact h2) _).setCell (by dsimp only; exact h2) _
theorem q3t (p : Int) (aA : Option Addr) (nA cA : Nat) (aG : Option Addr) (nG cG : Nat) (aN : Option Addr) (nN cN : Nat) (bs : List Bool) (N : List Gd) (gs : List Int) (w : World) (hM : MayG p nA N gs) (hB : BoSl w aA nA cA bs) (hN : NdSl w aN nN cN N) (hG : ZSl w aG nG cG gs) :
  Calls Try.prog 32 #[.agg #[.int .i64 p,.slice aA nA cA,.slice aG nG cG,.slice aN nN cN]] w (SmR p nA bs N gs w) := by
 obtain ⟨Z,eZ⟩ : ∃ Z,Z = SmR p nA bs N gs w := ⟨_,rfl⟩
 have HZ : Hid (∀ e w',SmR p nA bs N gs w e w' → Z e w') := fun e w' h => by rw [eZ]; exact h
 rw [← eZ]
 clear eZ
 have h256 := hM.s2
 have HP08 : Hid (0 ≤ p ∧ p ≤ 8) := ⟨hM.p0,hM.p8⟩
 have hz := fun w => q7q w
 have hsl := fun w' => q6A (w.heap.size + 2) nA h256 w'
 obtain ⟨A,hA⟩ : ∃ A,A = ((List.replicate 256 (0 : Int)).map (Value.int .i64)).toArray := ⟨_,rfl⟩
 have hAs : A.size = 256 := by rw [hA]; simp
 have hne : ¬ A = #[] := fun e => by rw [e] at hAs; cases hAs
 obtain ⟨w3,hw3⟩ : ∃ w3,w3 = ((w.alloc (.cells #[.int .i64 p,.slice aA nA cA,.slice aG nG cG,.slice aN nN cN] 26 (0,0))).alloc (.cells #[.int .i64 0,.slice none 0 0,.slice none 0 0,.slice none 0 0] 26 (0,0))).alloc (.cells A 79 (0,0)) := ⟨_,rfl⟩
 have hb3 : Below w.heap.size w w3 := by rw [hw3]; exact q7 (q7 (q5 w _) (q5 _ _)) (q5 _ _)
 have hA3 : w3.heap[w.heap.size]? = some (.cells #[.int .i64 p,.slice aA nA cA,.slice aG nG cG,.slice aN nN cN] 26 (0,0)) := by
  rw [hw3]
  have h1 := (MapKept.heap_alloc w (.cells #[.int .i64 p,.slice aA nA cA,.slice aG nG cG,.slice aN nN cN] 26 (0,0))).1
  exact ((q5 _ _).block _ (by simp; omega)).trans (((q5 _ _).block _ (by simp)).trans h1)
 have hR3 : w3.heap[w.heap.size + 1]? = some (.cells #[.int .i64 0,.slice none 0 0,.slice none 0 0,.slice none 0 0] 26 (0,0)) := by
  rw [hw3]
  have h1 := (MapKept.heap_alloc (w.alloc (.cells #[.int .i64 p,.slice aA nA cA,.slice aG nG cG,.slice aN nN cN] 26 (0,0))) (.cells #[.int .i64 0,.slice none 0 0,.slice none 0 0,.slice none 0 0] 26 (0,0))).1
  rw [show (w.alloc (.cells #[.int .i64 p,.slice aA nA cA,.slice aG nG cG,.slice aN nN cN] 26 (0,0))).heap.size = w.heap.size + 1 by simp] at h1
  exact ((q5 _ _).block _ (by simp)).trans h1
 have hN3 : NuB w3 (w.heap.size + 2) (List.replicate 256 0) := by
  refine ⟨?_,by rw [List.length_replicate]⟩
  have h1 := (MapKept.heap_alloc ((w.alloc (.cells #[.int .i64 p,.slice aA nA cA,.slice aG nG cG,.slice aN nN cN] 26 (0,0))).alloc (.cells #[.int .i64 0,.slice none 0 0,.slice none 0 0,.slice none 0 0] 26 (0,0))) (.cells A 79 (0,0))).1
  rw [← hw3] at h1
  show w3.heap[w.heap.size + 2]? = _
  rw [← hA]
  simpa using h1
 have hs3 : w3.heap.size = w.heap.size + 3 := by rw [hw3]; simp
 have jr := q5p p aA nA cA aG nG cG aN nN cN bs N gs (w.heap.size + 2) w w3 hb3 (by omega) hN3 hM hB hN hG hM.ok64
 have t1 : w3.cell? ⟨w.heap.size,1,none⟩ = some (.slice aA nA cA) := q6 hA3 1
 have t0 : w3.cell? ⟨w.heap.size,0,none⟩ = some (.int .i64 p) := q6 hA3 0
 have t2 : w3.cell? ⟨w.heap.size,2,none⟩ = some (.slice aG nG cG) := q6 hA3 2
 have t3 : w3.cell? ⟨w.heap.size,3,none⟩ = some (.slice aN nN cN) := q6 hA3 3
 have HB3 : Hid _ := hb3
 have HA3 : Hid _ := hA3
 have HR3 : Hid _ := hR3
 have HN3 : Hid _ := hN3
 have HS3 : Hid _ := hs3
 have HHB : Hid _ := hB
 have HHN : Hid _ := hN
 have HHG : Hid _ := hG
 have HM : Hid _ := hM
 have HW3 : Hid _ := hw3
 rw [← hA] at hz
 clear hb3 hA3 hR3 hN3 hs3 hB hN hG hM hA hw3
 go_enter Try.func32,Try.ntmps32
 go_wp2_with (rw [← HW3.out])
 refine jr.mono ?_
 rintro e w4 ⟨hon,k,c,F,aF,cF,hk,hc,hF,rfl,hZF,hNu⟩
 have hP := q4x HM.out hk hc hF
 have hMA : ∀ bs' gs' N',bs' = accC F bs → stoM p.toNat (rowC c F (rwA p N gs)) = (gs',N') → MinA p nA bs N gs bs' gs' N' := fun bs' gs' N' h1 h2 => ⟨k,c,F,hk,hc,hF,h1,h2⟩
 have hb4 := q53 hon (by omega) HB3.out
 have hA4 := (hon.keep w.heap.size (by have := HS3.out; omega) (by omega)).trans HA3.out
 have hR4 := (hon.keep (w.heap.size + 1) (by have := HS3.out; omega) (by omega)).trans HR3.out
 have hs4 := hon.size
 have s0 : w4.cell? ⟨w.heap.size,0,none⟩ = some (.int .i64 p) := q6 hA4 0
 have HON : Hid _ := hon
 have HP : Hid _ := hP
 have HMA : Hid _ := hMA
 have HB4 : Hid _ := hb4
 have HA4 : Hid _ := hA4
 have HR4 : Hid _ := hR4
 have HZF : Hid _ := hZF
 have HNU : Hid _ := hNu
 have HF256 : Hid (F.length ≤ nA) := hP.len
 obtain ⟨w5,hw5⟩ : ∃ w5,w5 = w4.alloc (.cells #[.int .i64 p,.slice none 0 0,.slice none 0 0,.slice none 0 0] 26 (0,0)) := ⟨_,rfl⟩
 have hb5 : Below w4.heap.size w4 w5 := by rw [hw5]; exact q5 _ _
 have hm5 : w5.heap[w4.heap.size]? = some (.cells #[.int .i64 p,.slice none 0 0,.slice none 0 0,.slice none 0 0] 26 (0,0)) := by rw [hw5]; exact (MapKept.heap_alloc w4 _).1
 have s5 : w5.cell? ⟨w.heap.size,0,none⟩ = some (.int .i64 p) := q8 s0 hb5
 have HW5 : Hid _ := hw5
 have HB5 : Hid _ := hb5
 have HM5 : Hid _ := hm5
 have jn := q2X p w5
 clear jr hon hk hc hF hZF hNu hP hMA hb4 hA4 hR4 hw5 hb5 hm5 t0 t1 t2 t3 hz hsl hne hAs HW3 HB3 HA3 HR3 HN3
 go_wp2_with (rw [← HW5.out])
 refine jn.mono ?_
 rintro e w6 ⟨hb6,⟨h1,_⟩ | ⟨_,_,g1,F1,rfl,hF1,hst⟩⟩
 ·exact absurd HP08.out h1
 have HK0 : Hid (SmM w4 w6 w4.heap.size g1 p.toNat F1 p (.slice none 0 0) (.slice none 0 0) 0 (accC (F.take 0) bs) (stoM p.toNat ((rowC c F (rwA p N gs)).take 0)).1 (stoM p.toNat ((rowC c F (rwA p N gs)).take 0)).2) :=
  ⟨(hb6.block _ (Array.getElem?_eq_some_iff.1 HM5.out).1).trans HM5.out,⟨rfl,.inl ⟨rfl,rfl⟩⟩,⟨rfl,.inl ⟨rfl,rfl⟩⟩,hst,fun k hk => Nat.le_trans HB5.out.size (hF1 k hk),Nat.le_refl _,q7 HB5.out hb6⟩
 have h4s : w.heap.size + 3 ≤ w4.heap.size := by have := HS3.out; omega
 clear jn hb6 hF1 hst s0 s5 HW5 HM5 HB5 hs4
 generalize hm0 : w4.heap.size = m0 at *
 have Hm0 : Hid _ := hm0
 clear hm0
 go_wp2
 go_loopw [31] (fun j wr => ∃ (i : Nat) (av gv : Value) (Fs : Nat → Prop),i ≤ F.length ∧ j = .int .i64 (i : Int) ∧ Hid (SmM w4 wr m0 g1 p.toNat Fs p av gv i (accC (F.take i) bs) (stoM p.toNat ((rowC c F (rwA p N gs)).take i)).1 (stoM p.toNat ((rowC c F (rwA p N gs)).take i)).2)) (fun j _ => F.length - (intOf j).toNat)
 case atStart => exact ⟨0,_,_,F1,Nat.zero_le _,rfl,HK0⟩
 case round =>
  obtain ⟨i,av,gv,Fs,hi,rfl,HS⟩ := hrel
  clear HK0
  have hbw := HB4.out.trans (HS.out.bel.mono HB4.out.size)
  have hA := (HS.out.bel.block w.heap.size (by have := Hm0.out; omega)).trans HA4.out
  by_cases hlt : i < F.length
  ·have hix := fun w' => HZF.out.idx F.length i w' hlt (Nat.le_refl _)
   have hbl : Below w4.heap.size w4 wr := HS.out.bel
   have hce := (HZF.out.up hbl).cell i hlt
   rw [qD hlt] at hce
   have hqn := HP.out.ltn hlt
   have jw := q5z p aA nA cA aG nG cG aN nN cN N gs (F.getD i 0) (w.heap.size + 2) (nuC c nA F) wr HM.out (HHN.out.up hbw) (HHG.out.up hbw) (HNU.out.up hbl) hqn
   rw [qaB HM.out HP.out hlt] at jw
   have c0 : wr.cell? ⟨w.heap.size,0,none⟩ = some (.int .i64 p) := q6 hA 0
   have c1 : wr.cell? ⟨w.heap.size,1,none⟩ = some (.slice aA nA cA) := q6 hA 1
   have c2 : wr.cell? ⟨w.heap.size,2,none⟩ = some (.slice aG nG cG) := q6 hA 2
   have c3 : wr.cell? ⟨w.heap.size,3,none⟩ = some (.slice aN nN cN) := q6 hA 3
   have HA : Hid _ := hA
   have HBW : Hid _ := hbw
   have hK : i < (rowC c F (rwA p N gs)).length := by rw [HP.out.rows.len]; exact hlt
   have HADD : Hid _ := q8T HM.out HP.out hlt
   have HNX : Hid _ := q1i p.toNat (rowC c F (rwA p N gs)) hK
   have HNL : Hid ((stoM p.toNat ((rowC c F (rwA p N gs)).take i)).2.length ≤ 4096) := Nat.le_trans (q2B HM.out HP.out.lists _ HP.out.from i (Nat.le_of_lt hK)).len HM.out.few
   have HACC : Hid _ := q4K (bs := bs) hlt
   have hgb : bs.getD (F.getD i 0) false = bs[F.getD i 0]'(by rw [HHB.out.hlen]; exact hqn) := qd _ _
   have hixb := fun w' => (HHB.out.at (F.getD i 0) hqn).1 nA w' hqn
   have HCB : Hid (∀ wx,Below w.heap.size w wx → wx.cell? (adOf aA (F.getD i 0)) = some (.bool (bs.getD (F.getD i 0) false))) := fun wx hx => by rw [hgb]; exact ((HHB.out.up hx).at (F.getD i 0) hqn).2
   clear hA hbw hbl hK hgb
   generalize F.getD i 0 = q at *
   generalize bs.getD q false = zb at *
   generalize hkl : (rowC c F (rwA p N gs)).getD i [] = kl at *
   generalize adOf aF i = ad at *
   obtain ⟨ag,ao,az⟩ := ad
   generalize adOf aA q = adb at *
   obtain ⟨bg,bo,bz⟩ := adb
   clear hkl
   go_wp2_with fail
   refine jw.mono ?_
   rintro e w1 ⟨hb1,ra,rc,rfl,hro⟩
   obtain ⟨ra',rc',er,hrz,hrn,_⟩ := q13 hro Try.underlying23 qf
   injection er with er1 _ er3
   subst er1 er3
   have hS1 := HS.out.up hb1
   have ja := q2V g1 p.toNat (by have := HP08.out; omega) (kl.map Int.ofNat) ra (2 ^ p.toNat) rc _ Fs w1 hrz (fun j hj hf => Nat.lt_irrefl _ (Nat.lt_of_lt_of_le (HS.out.st.lt _ hf) (hrn j hj))) hS1.st HNL.out
   rw [HADD.out] at ja
   have HS1 : Hid _ := hS1
   have HB1 : Hid _ := hb1
   clear jw hb1 hro hrz hrn hS1 hix hce
   go_wp2_with fail
   refine ja.mono ?_
   rintro e w2 ⟨rfl,F2,hst2,hfr2⟩
   dsimp only at hst2
   have hS2 := HS1.out.add hfr2 hst2
   have hb2 : Below w4.heap.size w4 w2 := hS2.bel
   have hbw2 := HB4.out.trans (hb2.mono HB4.out.size)
   have hA2 := (hb2.block w.heap.size (by have := Hm0.out; omega)).trans HA4.out
   have k1 : w2.cell? ⟨w.heap.size,1,none⟩ = some (.slice aA nA cA) := q6 hA2 1
   have m1 := hS2.c1
   have hcb := HCB.out w2 hbw2
   have hbA := q5 w2 (.cells #[.bool zb] 4)
   have m1b : (w2.alloc (.cells #[.bool zb] 4)).cell? ⟨m0,1,none⟩ = some av := q8 m1 hbA
   have hO : (w2.alloc (.cells #[.bool zb] 4)).drew.ownsRow m0 4 1 av i ((accC (F.take i) bs).map Value.bool) := by rw [← Hm0.out]; exact World.ownsRow.alloc hS2.ac _
   have hBB : (w2.alloc (.cells #[.bool zb] 4)).drew.heap[w2.heap.size]? = some (.cells #[.bool zb] 4 (0,0)) := (MapKept.heap_alloc w2 _).1
   have hbs : m0 ≤ (w2.alloc (.cells #[.bool zb] 4)).drew.heap.size := by have h1 := hb2.size; have h2 := Hm0.out; simp; omega
   have HPUT : Hid (∀ w5 v',(w2.alloc (.cells #[.bool zb] 4)).drew.grownBy w5 av.ownBlock → w5.ownsRow m0 4 1 v' (i + 1) ((accC (F.take i) bs ++ [zb]).map Value.bool) → w5.cell? ⟨m0,1,none⟩ = some av ∧ w5.frozen? ⟨m0,1,none⟩ = false ∧ ((w5.setCell ⟨m0,1,none⟩ v').heap[m0]? = some (.cells #[.int .i64 p,v',gv,.slice none 0 0] 26 (0,0)) ∧
     (w5.setCell ⟨m0,1,none⟩ v').ownsRow w4.heap.size 4 1 v' (i + 1) ((accC (F.take i) bs ++ [zb]).map Value.bool) ∧ (w5.setCell ⟨m0,1,none⟩ v').ownsRow w4.heap.size 3 1 gv i ((stoM p.toNat ((rowC c F (rwA p N gs)).take i)).1.map (Value.int .i64)) ∧ StG (w5.setCell ⟨m0,1,none⟩ v') F2 g1 p.toNat (stoM p.toNat ((rowC c F (rwA p N gs)).take (i + 1))).2 ∧ Below w4.heap.size w4 (w5.setCell ⟨m0,1,none⟩ v'))) := fun w5 v' q1 q2 => by
    have := hS2.acc (w1 := (w2.alloc (.cells #[.bool zb] 4)).drew) (q7 (q5 w2 _) ((Below.refl _ _).drew)) q1 (by rw [Hm0.out]; exact q2)
    exact ⟨q6 this.1 1,frozen_of_row w5 _ 1 _ _ this.1,this.2⟩
   have HF2 : Hid _ := hS2.fge
   have hFl := HF256.out
   clear ja hst2 hfr2 HS1 HB1 hb2 hbw2 hA2 hbA hS2 HCB c0 c1 c2 c3
   generalize accC (F.take i) bs = acci at *
   rw [HNX.out] at HPUT
   unfold stoF at HPUT
   dsimp only at HPUT ⊢
   generalize hrf : (adM p.toNat 0 (fnL kl) (stoM p.toNat ((rowC c F (rwA p N gs)).take i)).2).1 = rf at *
   go_upto_region 10 with fail
   go_region_law ((refine q2Y rfl _ _ rfl m0 av i acci zb w2.heap.size rfl rfl hO hBB (by omega) hbs ?_; intro v5 w5 hown5 hgr5; obtain ⟨a5,k5,rfl⟩ := qe hown5; have m5 := HPUT.out w5 _ hgr5 hown5; have c5 := m5.1; have z5 := m5.2.1; have HN5 : Hid _ := m5.2.2; clear m5))
   all_goals
    obtain ⟨n1,n2,n3,n4,n5⟩ := HN5.out
    generalize hw6 : w5.setCell ⟨m0,1,none⟩ (.slice a5 (i + 1) k5) = w6 at *
    clear hw6
    have m2 : w6.cell? ⟨m0,2,none⟩ = some gv := q6 n1 2
    have hO7 : (w6.alloc (.cells #[.int .i64 rf] 3)).ownsRow m0 3 1 gv i ((stoM p.toNat ((rowC c F (rwA p N gs)).take i)).1.map (Value.int .i64)) := by rw [← Hm0.out]; exact World.ownsRow.alloc n3 _
    have hc7 : (w6.alloc (.cells #[.int .i64 rf] 3)).cell? ⟨w6.heap.size,0,none⟩ = some (.int .i64 rf) := q6 (MapKept.heap_alloc w6 _).1 0
    have hbs7 : m0 ≤ (w6.alloc (.cells #[.int .i64 rf] 3)).heap.size := by have h1 := n5.size; have h2 := Hm0.out; simp; omega
    have HG7 : Hid (∀ w7 v',(w6.alloc (.cells #[.int .i64 rf] 3)).grownBy w7 gv.ownBlock → w7.ownsRow m0 3 1 v' (i + 1) (((stoM p.toNat ((rowC c F (rwA p N gs)).take i)).1 ++ [rf]).map (Value.int .i64)) → w7.cell? ⟨m0,2,none⟩ = some gv ∧ w7.frozen? ⟨m0,2,none⟩ = false ∧ SmM w4 (w7.setCell ⟨m0,2,none⟩ v') m0 g1 p.toNat F2 p (.slice a5 (i + 1) k5) v' (i + 1) (accC (F.take (i + 1)) bs) (stoM p.toNat ((rowC c F (rwA p N gs)).take (i + 1))).1 (stoM p.toNat ((rowC c F (rwA p N gs)).take (i + 1))).2) := fun w7 v' q1 q2 => by
     have := SmM.gus (w1 := w6.alloc (.cells #[.int .i64 rf] 3)) n1 n2 n3 n4 HF2.out (by rw [Hm0.out]; exact Nat.le_refl _) n5 (q5 w6 _) q1 (by rw [Hm0.out]; exact q2)
     refine ⟨q6 this.1 2,frozen_of_row w7 _ 2 _ _ this.1,?_⟩
     have h2 := this.2
     rw [HACC.out,HNX.out]
     unfold stoF
     dsimp only
     rw [hrf]
     exact h2
    have HO7 : Hid _ := hO7
    have hi7 : i + 1 ≤ 2000000 := by omega
    clear HN5 n1 n2 n3 n4 n5 c5 z5 hown5 hgr5 hO hBB hbs HPUT m1 m1b hcb k1 hixb hrf hO7 HACC HNX HADD HNL
    go_wp2_with (at_builtin; refine qS rfl _ _ rfl m0 _ i _ rfl HO7.out w6.heap.size rf rfl hc7 hi7 hbs7 ?_)
    intro v7 w7 hq7 hg7
    obtain ⟨a7,k7,rfl⟩ := qe hq7
    obtain ⟨x1,x2,x3⟩ := HG7.out w7 _ hg7 (by rw [List.map_append]; exact hq7)
    have HS7 : Hid _ := x3
    clear hq7 hg7 HG7 HO7 hc7 x3 m2
    go_wp2
    go_roundw
    case rel => exact ⟨i + 1,_,_,_,by omega,by go_num,HS7⟩
    case measure => simp [intOf]; omega
  ·obtain rfl : i = F.length := by omega
   have hK : (rowC c F (rwA p N gs)).length = F.length := HP.out.rows.len
   have HSF : Hid _ := HS.out
   rw [List.take_length,show F.length = (rowC c F (rwA p N gs)).length from hK.symm,List.take_length,hK] at HSF
   rcases est : stoM p.toNat (rowC c F (rwA p N gs)) with ⟨gs',N'⟩
   rw [est] at HSF
   dsimp only at HSF
   have HAN : Hid (MinA p nA bs N gs (accC F bs) gs' N') := HMA.out _ gs' N' rfl est
   have hfew := (MinA.all HAN.out HM.out).nodes
   have h4 := HM.out.few
   have jd := q2h HSF.out.st (by omega)
   have hRr := (HSF.out.bel.block (w.heap.size + 1) (by have := Hm0.out; omega)).trans HR4.out
   have HRR : Hid _ := hRr
   have hgl : gs'.length = F.length := by
    have := HSF.out.gu.1
    simpa using this
   clear hRr HS hA hfew h4 hK est HMA
   go_wp2_with fail
   refine jd.mono ?_
   rintro e w2 ⟨hb2,nv,rfl,hno⟩
   obtain ⟨an,cn,rfl⟩ := qe hno
   obtain ⟨aa,ca,rfl⟩ := qe HSF.out.ac
   obtain ⟨ag,cg,rfl⟩ := qe HSF.out.gu
   have hS2 := HSF.out.up hb2
   have hR2 := (hb2.block _ (Array.getElem?_eq_some_iff.1 HRR.out).1).trans HRR.out
   have y0 : w2.cell? ⟨m0,0,none⟩ = some (.int .i64 p) := q6 hS2.blk 0
   have y1 : w2.cell? ⟨m0,1,none⟩ = some (.slice aa F.length ca) := q6 hS2.blk 1
   have y2 : w2.cell? ⟨m0,2,none⟩ = some (.slice ag F.length cg) := q6 hS2.blk 2
   have y3 : w2.cell? ⟨m0,3,none⟩ = some (.slice none 0 0) := q6 hS2.blk 3
   have f3 : w2.frozen? ⟨m0,3,none⟩ = false := frozen_of_row w2 _ 3 _ _ hS2.blk
   have r0 : w2.cell? ⟨w.heap.size + 1,0,none⟩ = some (.int .i64 0) := q6 hR2 0
   have r1 : w2.cell? ⟨w.heap.size + 1,1,none⟩ = some (.slice none 0 0) := q6 hR2 1
   have r2 : w2.cell? ⟨w.heap.size + 1,2,none⟩ = some (.slice none 0 0) := q6 hR2 2
   have r3 : w2.cell? ⟨w.heap.size + 1,3,none⟩ = some (.slice none 0 0) := q6 hR2 3
   have g0 : w2.frozen? ⟨w.heap.size + 1,0,none⟩ = false := frozen_of_row w2 _ 0 _ _ hR2
   have g1' : w2.frozen? ⟨w.heap.size + 1,1,none⟩ = false := frozen_of_row w2 _ 1 _ _ hR2
   have g2 : w2.frozen? ⟨w.heap.size + 1,2,none⟩ = false := frozen_of_row w2 _ 2 _ _ hR2
   have g3 : w2.frozen? ⟨w.heap.size + 1,3,none⟩ = false := frozen_of_row w2 _ 3 _ _ hR2
   have hne : m0 ≠ w.heap.size + 1 := by omega
   have hne2 : ¬ w.heap.size + 1 = m0 := fun e => hne e.symm
   have hfin := q5U (x0 := .int .i64 p) (x1 := .slice aa F.length ca) (x2 := .slice ag F.length cg) (x3 := .slice an N'.length cn) hS2.blk hR2 hne
   have hbF : Below w.heap.size w (finW w2 m0 (w.heap.size + 1) (.int .i64 p) (.slice aa F.length ca) (.slice ag F.length cg) (.slice an N'.length cn)) := q4O (HB4.out.trans (hS2.bel.mono HB4.out.size)) (by omega) (by omega)
   obtain ⟨WF,hWF⟩ : ∃ WF,WF = ((((w2.setCell ⟨m0,3,none⟩ (.slice an N'.length cn)).setCell ⟨w.heap.size + 1,0,none⟩ (.int .i64 p)).setCell ⟨w.heap.size + 1,1,none⟩ (.slice aa F.length ca)).setCell ⟨w.heap.size + 1,2,none⟩ (.slice ag F.length cg)).setCell ⟨w.heap.size + 1,3,none⟩ (.slice an N'.length cn) := ⟨_,rfl⟩
   have hWF2 : finW w2 m0 (w.heap.size + 1) (.int .i64 p) (.slice aa F.length ca) (.slice ag F.length cg) (.slice an N'.length cn) = WF := hWF.symm
   rw [hWF2] at hfin hbF
   have HWF : Hid _ := hWF
   have HFN : Hid _ := hfin.1
   clear hWF hWF2
   have HEF : Hid (Z (.returned (.agg #[.int .i64 p,.slice aa F.length ca,.slice ag F.length cg,.slice an N'.length cn])) WF) := by
    refine HZ.out _ _ ⟨hbF,accC F bs,gs',N',aa,ca,ag,cg,an,cn,by rw [q19],HAN.out,?_⟩
    have h4 := HB4.out.size
    refine ⟨?_,?_,qx (hfin.2 _ _ _ _ _ _ (by decide) hno) ?_,fun t ht => HSF.out.st.ok t ht⟩
    ·rw [q19]; exact qx (hfin.2 _ _ _ _ _ _ (by decide) hS2.ac) h4
    ·rw [q19]; exact qx (hfin.2 _ _ _ _ _ _ (by decide) hS2.gu) h4
    ·have := HSF.out.bel.size; omega
   clear jd hb2 hno hS2 hR2 hfin hbF HSF HAN HRR
   go_wp2
   rw [← HWF.out]
   have z0 := q6 HFN.out 0
   have z1 := q6 HFN.out 1
   have z2 := q6 HFN.out 2
   have z3 := q6 HFN.out 3
   refine bodyPost_ret (v := .agg #[.int .i64 p,.slice aa F.length ca,.slice ag F.length cg,.slice an N'.length cn]) ?_ rfl HEF.out
   simp at z0 z1 z2 z3
   simp [results,Try.results32,go_sem,z0,z1,z2,z3]
def MnnR (p : Int) (nA : Nat) (bs : List Bool) (N : List Gd) (gs : List Int) (w : World) (e : Ending) (w' : World) : Prop :=
 Below w.heap.size w w' ∧ ((¬ MayG p nA N gs ∧ e = .returned (.tuple #[.agg #[.int .i64 0,.slice none 0 0,.slice none 0 0,.slice none 0 0],.int .i64 12])) ∨
  (MayG p nA N gs ∧ ∃ (bs' : List Bool) (gs' : List Int) (N' : List Gd) (a1 : Option Addr) (c1 : Nat) (a2 : Option Addr) (c2 : Nat) (a3 : Option Addr) (c3 : Nat),e = .returned (.tuple #[.agg #[.int .i64 p,.slice a1 bs'.length c1,.slice a2 bs'.length c2,.slice a3 N'.length c3],.int .i64 0]) ∧ MinA p nA bs N gs bs' gs' N' ∧ OwA w' w.heap.size a1 c1 a2 c2 a3 c3 bs' gs' N'))
theorem q1Z {w : World} {b : Nat} {o : Obj} {k j : Nat} (h : w.heap[k]? = some o) (hne : k ≠ b) (u : Value) : (w.setCell ⟨b,j,none⟩ u).heap[k]? = some o := (Below.heap_setCell _ _ _ _ (by dsimp only; exact hne)).trans h
abbrev set4 (W : World) (r : Nat) (x0 x1 x2 x3 : Value) : World := (((W.setCell ⟨r,0,none⟩ x0).setCell ⟨r,1,none⟩ x1).setCell ⟨r,2,none⟩ x2).setCell ⟨r,3,none⟩ x3
theorem qK {W : World} {r : Nat} {x0 x1 x2 x3 y0 y1 y2 y3 : Value} (hr : W.heap[r]? = some (.cells #[y0,y1,y2,y3] 26 (0,0))) : (set4 W r x0 x1 x2 x3).heap[r]? = some (.cells #[x0,x1,x2,x3] 26 (0,0)) := by
 have h1 := heap_setCell_same _ r 0 _ _ x0 hr
 have h2 := heap_setCell_same _ r 1 _ _ x1 h1
 have h3 := heap_setCell_same _ r 2 _ _ x2 h2
 exact heap_setCell_same _ r 3 _ _ x3 h3
theorem qn {B : Nat} {w W : World} {r : Nat} {x0 x1 x2 x3 : Value} (h : Below B w W) (h2 : B ≤ r) : Below B w (set4 W r x0 x1 x2 x3) :=
 (((h.setCell (by dsimp only; exact h2) _).setCell (by dsimp only; exact h2) _).setCell (by dsimp only; exact h2) _).setCell (by dsimp only; exact h2) _
theorem q1x {W : World} {r : Nat} {x0 x1 x2 x3 : Value} : OnG r W (set4 W r x0 x1 x2 x3) := q1F (q1F (q1F (q1F (q3C r W) 0 x0) 1 x1) 2 x2) 3 x3
theorem q1I (p : Int) (aA : Option Addr) (nA cA : Nat) (aG : Option Addr) (nG cG : Nat) (aN : Option Addr) (nN cN : Nat) (bs : List Bool) (N : List Gd) (gs : List Int) (w : World) (hB : BoSl w aA nA cA bs) (hN : NdSl w aN nN cN N) (hG : ZSl w aG nG cG gs) (hok : ∀ z ∈ gs,I64 z) :
  Calls Try.prog 16 #[.agg #[.int .i64 p,.slice aA nA cA,.slice aG nG cG,.slice aN nN cN]] w (MnnR p nA bs N gs w) := by
 obtain ⟨Z,eZ⟩ : ∃ Z,Z = MnnR p nA bs N gs w := ⟨_,rfl⟩
 have HZ : Hid (∀ e w',MnnR p nA bs N gs w e w' → Z e w') := fun e w' h => by rw [eZ]; exact h
 rw [← eZ]
 obtain ⟨w2,hw2⟩ : ∃ w2,w2 = (w.alloc (.cells #[.int .i64 p,.slice aA nA cA,.slice aG nG cG,.slice aN nN cN] 26 (0,0))).alloc (.cells #[.int .i64 0,.slice none 0 0,.slice none 0 0,.slice none 0 0] 26 (0,0)) := ⟨_,rfl⟩
 have hb2 : Below w.heap.size w w2 := by rw [hw2]; exact q7 (q5 w _) (q5 _ _)
 have hA2 : w2.heap[w.heap.size]? = some (.cells #[.int .i64 p,.slice aA nA cA,.slice aG nG cG,.slice aN nN cN] 26 (0,0)) := by
  rw [hw2]
  have h1 := (MapKept.heap_alloc w (.cells #[.int .i64 p,.slice aA nA cA,.slice aG nG cG,.slice aN nN cN] 26 (0,0))).1
  exact ((q5 _ _).block _ (by simp)).trans h1
 have hR2 : w2.heap[w.heap.size + 1]? = some (.cells #[.int .i64 0,.slice none 0 0,.slice none 0 0,.slice none 0 0] 26 (0,0)) := by
  rw [hw2]
  have h1 := (MapKept.heap_alloc (w.alloc (.cells #[.int .i64 p,.slice aA nA cA,.slice aG nG cG,.slice aN nN cN] 26 (0,0))) (.cells #[.int .i64 0,.slice none 0 0,.slice none 0 0,.slice none 0 0] 26 (0,0))).1
  simpa using h1
 have jc := q1J p aA nA cA aG nG cG aN nN cN N gs w2 (hN.up hb2) (hG.up hb2) hok
 have HW2 : Hid _ := hw2
 have HB2 : Hid _ := hb2
 have HA2 : Hid _ := hA2
 have HR2 : Hid _ := hR2
 have HB : Hid _ := hB
 have HN : Hid _ := hN
 have HG : Hid _ := hG
 go_enter Try.func16,Try.ntmps16
 go_wp2_with (rw [← HW2.out])
 refine jc.mono ?_
 rintro e w3 ⟨hb3,v,rfl,⟨rfl,hM⟩ | ⟨rfl,hM⟩⟩
 ·have hA3 := (hb3.block _ (Array.getElem?_eq_some_iff.1 HA2.out).1).trans HA2.out
  have hR3 := (hb3.block _ (Array.getElem?_eq_some_iff.1 HR2.out).1).trans HR2.out
  have hbb := q7 HB2.out hb3
  have js := q3t p aA nA cA aG nG cG aN nN cN bs N gs w3 hM (HB.out.up hbb) (HN.out.up hbb) (HG.out.up hbb)
  have s0 := q6 hA3 0
  have s1 := q6 hA3 1
  have s2 := q6 hA3 2
  have s3 := q6 hA3 3
  have HR3 : Hid _ := hR3
  have HBB : Hid _ := hbb
  have HM : Hid _ := hM
  go_wp2_with fail
  refine js.mono ?_
  rintro e w4 ⟨hb4,bs',gs',N',a1,c1,a2,c2,a3,c3,rfl,hMA,hO⟩
  have hR4 := (hb4.block _ (Array.getElem?_eq_some_iff.1 HR3.out).1).trans HR3.out
  have hrl := (Array.getElem?_eq_some_iff.1 HR3.out).1
  have r0 := q6 hR4 0
  have r1 := q6 hR4 1
  have r2 := q6 hR4 2
  have r3 := q6 hR4 3
  have g0 := frozen_of_row w4 _ 0 _ _ hR4
  have g1 := frozen_of_row w4 _ 1 _ _ hR4
  have g2 := frozen_of_row w4 _ 2 _ _ hR4
  have g3 := frozen_of_row w4 _ 3 _ _ hR4
  obtain ⟨WF,hWF⟩ : ∃ WF,WF = (((w4.setCell ⟨w.heap.size + 1,0,none⟩ (.int .i64 p)).setCell ⟨w.heap.size + 1,1,none⟩ (.slice a1 bs'.length c1)).setCell ⟨w.heap.size + 1,2,none⟩ (.slice a2 bs'.length c2)).setCell ⟨w.heap.size + 1,3,none⟩ (.slice a3 N'.length c3) := ⟨_,rfl⟩
  have HFN : Hid (WF.heap[w.heap.size + 1]? = some (.cells #[.int .i64 p,.slice a1 bs'.length c1,.slice a2 bs'.length c2,.slice a3 N'.length c3] 26 (0,0))) := by rw [hWF]; exact qK hR4
  have HE : Hid (Z (.returned (.tuple #[.agg #[.int .i64 p,.slice a1 bs'.length c1,.slice a2 bs'.length c2,.slice a3 N'.length c3],.int .i64 0])) WF) := by
   refine HZ.out _ _ ⟨?_,.inr ⟨HM.out,bs',gs',N',a1,c1,a2,c2,a3,c3,rfl,hMA,?_⟩⟩
   ·rw [hWF]; exact qn (q7 HBB.out hb4) (by omega)
   ·rw [hWF]; exact (hO.on q1x hrl).base HBB.out.size
  have HWF : Hid _ := hWF
  go_wp2
  rw [← HWF.out]
  have z0 := q6 HFN.out 0
  have z1 := q6 HFN.out 1
  have z2 := q6 HFN.out 2
  have z3 := q6 HFN.out 3
  refine bodyPost_ret (v := .tuple #[.agg #[.int .i64 p,.slice a1 bs'.length c1,.slice a2 bs'.length c2,.slice a3 N'.length c3],.int .i64 0]) ?_ rfl HE.out
  simp at z0 z1 z2 z3
  simp [results,Try.results16,go_sem,z0,z1,z2,z3]
 ·have hR3 := (hb3.block _ (Array.getElem?_eq_some_iff.1 HR2.out).1).trans HR2.out
  have r0 := q6 hR3 0
  have r1 := q6 hR3 1
  have r2 := q6 hR3 2
  have r3 := q6 hR3 3
  have g0 := frozen_of_row w3 _ 0 _ _ hR3
  have g1 := frozen_of_row w3 _ 1 _ _ hR3
  have g2 := frozen_of_row w3 _ 2 _ _ hR3
  have g3 := frozen_of_row w3 _ 3 _ _ hR3
  obtain ⟨WF,hWF⟩ : ∃ WF,WF = (((w3.setCell ⟨w.heap.size + 1,0,none⟩ (.int .i64 0)).setCell ⟨w.heap.size + 1,1,none⟩ (.slice none 0 0)).setCell ⟨w.heap.size + 1,2,none⟩ (.slice none 0 0)).setCell ⟨w.heap.size + 1,3,none⟩ (.slice none 0 0) := ⟨_,rfl⟩
  have HFN : Hid (WF.heap[w.heap.size + 1]? = some (.cells #[.int .i64 0,.slice none 0 0,.slice none 0 0,.slice none 0 0] 26 (0,0))) := by rw [hWF]; exact qK hR3
  have HE : Hid (Z (.returned (.tuple #[.agg #[.int .i64 0,.slice none 0 0,.slice none 0 0,.slice none 0 0],.int .i64 12])) WF) := by
   refine HZ.out _ _ ⟨?_,.inl ⟨hM,rfl⟩⟩
   rw [hWF]; exact qn (q7 HB2.out hb3) (by omega)
  have HWF : Hid _ := hWF
  go_wp2
  rw [← HWF.out]
  have z0 := q6 HFN.out 0
  have z1 := q6 HFN.out 1
  have z2 := q6 HFN.out 2
  have z3 := q6 HFN.out 3
  refine bodyPost_ret (v := .tuple #[.agg #[.int .i64 0,.slice none 0 0,.slice none 0 0,.slice none 0 0],.int .i64 12]) ?_ rfl HE.out
  simp at z0 z1 z2 z3
  simp [results,Try.results16,go_sem,z0,z1,z2,z3]
def IsR (p : Int) (nA : Nat) (bs : List Bool) (N : List Gd) (gs : List Int) (w : World) (e : Ending) (w' : World) : Prop :=
 Below w.heap.size w w' ∧ ((¬ MayG p nA N gs ∧ e = .returned (.tuple #[.bool false,.int .i64 12])) ∨
  (MayG p nA N gs ∧ ∃ (bs' : List Bool) (gs' : List Int) (N' : List Gd),MinA p nA bs N gs bs' gs' N' ∧ e = .returned (.tuple #[.bool (sameC p bs gs N p bs' gs' N'),.int .i64 0])))
theorem q6j (p : Int) (aA : Option Addr) (nA cA : Nat) (aG : Option Addr) (nG cG : Nat) (aN : Option Addr) (nN cN : Nat) (bs : List Bool) (N : List Gd) (gs : List Int) (w : World) (hB : BoSl w aA nA cA bs) (hN : NdSl w aN nN cN N) (hG : ZSl w aG nG cG gs) (hok : ∀ z ∈ gs,I64 z) :
  Calls Try.prog 14 #[.agg #[.int .i64 p,.slice aA nA cA,.slice aG nG cG,.slice aN nN cN]] w (IsR p nA bs N gs w) := by
 obtain ⟨Z,eZ⟩ : ∃ Z,Z = IsR p nA bs N gs w := ⟨_,rfl⟩
 have HZ : Hid (∀ e w',IsR p nA bs N gs w e w' → Z e w') := fun e w' h => by rw [eZ]; exact h
 rw [← eZ]
 clear eZ
 have hb0 := q5 w (.cells #[.int .i64 p,.slice aA nA cA,.slice aG nG cG,.slice aN nN cN] 26 (0,0))
 have HB0 : Hid _ := hb0
 have HV0 : Hid _ := qj w p aA nA cA aG nG cG aN nN cN
 obtain ⟨c0,c1,c2,c3⟩ := HV0.out
 have jm := q1I p aA nA cA aG nG cG aN nN cN bs N gs _ (hB.up hb0) (hN.up hb0) (hG.up hb0) hok
 have HB : Hid _ := hB
 have HN : Hid _ := hN
 have HG : Hid _ := hG
 clear hb0 hB hN hG hok
 go_enter Try.func14,Try.ntmps14
 go_wp2_with fail
 refine jm.mono ?_
 rintro e w2 ⟨hb2,⟨hM,rfl⟩ | ⟨hM,bs',gs',N',a1,d1,a2,d2,a3,d3,rfl,hMA,hO⟩⟩
 ·have HE : Hid _ := HZ.out _ _ ⟨q7 (q7 HB0.out hb2) (q5 w2 (.cells #[.int .i64 0,.slice none 0 0,.slice none 0 0,.slice none 0 0] 26 (0,0))),.inl ⟨hM,rfl⟩⟩
  clear jm hb2 hM c0 c1 c2 c3 HZ
  go_wp2
  exact HE.out
 ·have hbb := q7 HB0.out hb2
  have hb3 := q5 w2 (.cells #[.int .i64 p,.slice a1 bs'.length d1,.slice a2 bs'.length d2,.slice a3 N'.length d3] 26 (0,0))
  have hb4 := q7 hbb hb3
  obtain ⟨e0,e1,e2,e3⟩ := (HV0.out.up hb2).up hb3
  obtain ⟨f0,f1,f2,f3⟩ := qj w2 p a1 bs'.length d1 a2 bs'.length d2 a3 N'.length d3
  have hO3 := hO.up hb3
  have js := q2H p aA nA cA aG nG cG aN nN cN p a1 bs'.length d1 a2 bs'.length d2 a3 N'.length d3 bs gs N bs' gs' N' _ (HB.out.up hb4) (HG.out.up hb4) (HN.out.up hb4) hO3.bo hO3.zs hO3.nd
  have HE : Hid (∀ w',Below (w2.alloc (.cells #[.int .i64 p,.slice a1 bs'.length d1,.slice a2 bs'.length d2,.slice a3 N'.length d3] 26 (0,0))).heap.size (w2.alloc (.cells #[.int .i64 p,.slice a1 bs'.length d1,.slice a2 bs'.length d2,.slice a3 N'.length d3] 26 (0,0))) w' → Z (.returned (.tuple #[.bool (sameC p bs gs N p bs' gs' N'),.int .i64 0])) w') := fun w' hb => HZ.out _ _ ⟨q7 hb4 hb,.inr ⟨hM,bs',gs',N',hMA,rfl⟩⟩
  clear jm hb2 hM c0 c1 c2 c3 HZ hMA hO hO3 hb3 hb4 hbb HV0
  generalize sameC p bs gs N p bs' gs' N' = sb at *
  go_wp2_with fail
  refine js.mono ?_
  rintro e w4 ⟨rfl,hb4⟩
  have HE4 : Hid _ := HE.out w4 hb4
  clear js HE hb4 e0 e1 e2 e3 f0 f1 f2 f3
  go_wp2
  exact HE4.out
end Go.Proofs.Ytcnkgokfjafgkaa
namespace Go.Proofs.Ytcnkgokfjafgkaa
open Go.RowKit Go.Maps
abbrev auO (x0 x1 x2 x3 : Value) : Obj := .cells #[x0,x1,x2,x3] 26 (0,0)
abbrev auZ : Value := .agg #[.int .i64 0,.slice none 0 0,.slice none 0 0,.slice none 0 0]
def TgR (p : Int) (nA : Nat) (bs : List Bool) (N : List Gd) (gs : List Int) (q : Int) (nB : Nat) (cs : List Bool) (M : List Gd) (hs : List Int) (w : World) (e : Ending) (w' : World) : Prop :=
 Below w.heap.size w w' ∧ ((∃ z : Int,z ≠ 0 ∧ e = .returned (.tuple #[auZ,auZ,.int .i64 z]) ∧ ((z = 12 ∧ ¬ (MayG p nA N gs ∧ MayG q nB M hs)) ∨ (z = 2 ∧ p ≠ q))) ∨
  (MayG p nA N gs ∧ MayG q nB M hs ∧ p = q ∧ ∃ (bs' : List Bool) (gs' : List Int) (N' : List Gd) (a1 : Option Addr) (c1 : Nat) (a2 : Option Addr) (c2 : Nat) (a3 : Option Addr) (c3 : Nat) (cs' : List Bool) (hs' : List Int) (M' : List Gd) (b1 : Option Addr) (d1 : Nat) (b2 : Option Addr) (d2 : Nat) (b3 : Option Addr) (d3 : Nat),
   e = .returned (.tuple #[.agg #[.int .i64 p,.slice a1 bs'.length c1,.slice a2 bs'.length c2,.slice a3 N'.length c3],.agg #[.int .i64 q,.slice b1 cs'.length d1,.slice b2 cs'.length d2,.slice b3 M'.length d3],.int .i64 0]) ∧ MinA p nA bs N gs bs' gs' N' ∧ OwA w' w.heap.size a1 c1 a2 c2 a3 c3 bs' gs' N' ∧ MinA q nB cs M hs cs' hs' M' ∧ OwA w' w.heap.size b1 d1 b2 d2 b3 d3 cs' hs' M'))
theorem qL {W : World} {r : Nat} {x0 x1 x2 x3 y0 y1 y2 y3 : Value} (hr : BkH W r (auO y0 y1 y2 y3)) : BkH (set4 W r x0 x1 x2 x3) r (auO x0 x1 x2 x3) := qK hr
theorem qH {W : World} {r g : Nat} {o : Obj} {x0 x1 x2 x3 : Value} (h : BkH W g o) (hne : g ≠ r) : BkH (set4 W r x0 x1 x2 x3) g o :=
 q1Z (q1Z (q1Z (q1Z h hne x0) hne x1) hne x2) hne x3
theorem BkH.cells4 {W : World} {r : Nat} {x0 x1 x2 x3 : Value} (h : BkH W r (auO x0 x1 x2 x3)) : (W.cell? ⟨r,0,none⟩ = some x0 ∧ W.cell? ⟨r,1,none⟩ = some x1 ∧ W.cell? ⟨r,2,none⟩ = some x2 ∧ W.cell? ⟨r,3,none⟩ = some x3) ∧ W.frozen? ⟨r,0,none⟩ = false ∧ W.frozen? ⟨r,1,none⟩ = false ∧ W.frozen? ⟨r,2,none⟩ = false ∧ W.frozen? ⟨r,3,none⟩ = false :=
 ⟨⟨q6 h 0,q6 h 1,q6 h 2,q6 h 3⟩,frozen_of_row W _ 0 _ _ h,frozen_of_row W _ 1 _ _ h,frozen_of_row W _ 2 _ _ h,frozen_of_row W _ 3 _ _ h⟩
theorem q1P (p : Int) (aA : Option Addr) (nA cA : Nat) (aG : Option Addr) (nG cG : Nat) (aN : Option Addr) (nN cN : Nat) (q : Int) (bA : Option Addr) (mA dA : Nat) (bG : Option Addr) (mG dG : Nat) (bN : Option Addr) (mN dN : Nat) (bs cs : List Bool) (N : List Gd) (gs : List Int) (M : List Gd) (hs : List Int) (w : World)
  (hB : BoSl w aA nA cA bs) (hN : NdSl w aN nN cN N) (hG : ZSl w aG nG cG gs) (hok : ∀ z ∈ gs,I64 z) (kB : BoSl w bA mA dA cs) (kN : NdSl w bN mN dN M) (kG : ZSl w bG mG dG hs) (kok : ∀ z ∈ hs,I64 z) :
  Calls Try.prog 33 #[.agg #[.int .i64 p,.slice aA nA cA,.slice aG nG cG,.slice aN nN cN],.agg #[.int .i64 q,.slice bA mA dA,.slice bG mG dG,.slice bN mN dN]] w (TgR p nA bs N gs q mA cs M hs w) := by
 obtain ⟨Z,eZ⟩ : ∃ Z,Z = TgR p nA bs N gs q mA cs M hs w := ⟨_,rfl⟩
 have HZ : Hid (∀ e w',TgR p nA bs N gs q mA cs M hs w e w' → Z e w') := fun e w' h => by rw [eZ]; exact h
 rw [← eZ]
 clear eZ
 obtain ⟨w4,hw4⟩ : ∃ w4,w4 = (((w.alloc (.cells #[.int .i64 p,.slice aA nA cA,.slice aG nG cG,.slice aN nN cN] 26 (0,0))).alloc (.cells #[.int .i64 q,.slice bA mA dA,.slice bG mG dG,.slice bN mN dN] 26 (0,0))).alloc (.cells #[.int .i64 0,.slice none 0 0,.slice none 0 0,.slice none 0 0] 26 (0,0))).alloc (.cells #[.int .i64 0,.slice none 0 0,.slice none 0 0,.slice none 0 0] 26 (0,0)) := ⟨_,rfl⟩
 have hb4 : Below w.heap.size w w4 := by rw [hw4]; exact q7 (q7 (q7 (q5 w _) (q5 _ _)) (q5 _ _)) (q5 _ _)
 have k0 : BkH w4 w.heap.size (auO (.int .i64 p) (.slice aA nA cA) (.slice aG nG cG) (.slice aN nN cN)) := by
  rw [hw4]; exact (((qy w _).upB (q5 _ _)).upB (q5 _ _)).upB (q5 _ _)
 have k1 : BkH w4 (w.heap.size + 1) (auO (.int .i64 q) (.slice bA mA dA) (.slice bG mG dG) (.slice bN mN dN)) := by
  rw [hw4]; exact ((qh (by simp)).upB (q5 _ _)).upB (q5 _ _)
 have k2 : BkH w4 (w.heap.size + 2) (auO (.int .i64 0) (.slice none 0 0) (.slice none 0 0) (.slice none 0 0)) := by
  rw [hw4]; exact (qh (by simp)).upB (q5 _ _)
 have k3 : BkH w4 (w.heap.size + 3) (auO (.int .i64 0) (.slice none 0 0) (.slice none 0 0) (.slice none 0 0)) := by
  rw [hw4]; exact qh (by simp)
 have jc := q1I p aA nA cA aG nG cG aN nN cN bs N gs w4 (hB.up hb4) (hN.up hb4) (hG.up hb4) hok
 have HK1 : Hid _ := k1
 have HK2 : Hid _ := k2
 have HK3 : Hid _ := k3
 have HW4 : Hid _ := hw4
 have HB4 : Hid _ := hb4
 have HKB : Hid _ := kB
 have HKN : Hid _ := kN
 have HKG : Hid _ := kG
 have HKO : Hid _ := kok
 obtain ⟨⟨s0,s1,s2,s3⟩,_⟩ := k0.cells4
 clear hB hN hG hok kB kN kG kok k1 k2 k3 hw4 hb4 k0
 go_enter Try.func33,Try.ntmps33
 go_wp2_with (rw [← HW4.out])
 have HR12 : Hid (w.heap.size ≤ w.heap.size + 1 + 1 ∧ w.heap.size ≤ w.heap.size + 1 + 1 + 1 ∧ w.heap.size + 1 + 1 ≠ w.heap.size + 1 + 1 + 1) := by show _ ∧ _; omega
 rw [show w.heap.size + 2 = w.heap.size + 1 + 1 from rfl] at HK2
 rw [show w.heap.size + 3 = w.heap.size + 1 + 1 + 1 from rfl] at HK3
 generalize w.heap.size + 1 + 1 + 1 = rb at *
 generalize w.heap.size + 1 + 1 = ra at *
 refine jc.mono ?_
 rintro e w5 ⟨hb5,⟨hM,rfl⟩ | ⟨hM,bs',gs',N',a1,c1,a2,c2,a3,c3,rfl,hMA,hO⟩⟩
 ·have hk2 : BkH (w5.alloc (.cells #[.int .i64 0,.slice none 0 0,.slice none 0 0,.slice none 0 0] 26 (0,0))) ra (auO (.int .i64 0) (.slice none 0 0) (.slice none 0 0) (.slice none 0 0)) := BkH.upB (BkH.upB HK2.out hb5) (q5 _ _)
  have hk3 : BkH (w5.alloc (.cells #[.int .i64 0,.slice none 0 0,.slice none 0 0,.slice none 0 0] 26 (0,0))) rb (auO (.int .i64 0) (.slice none 0 0) (.slice none 0 0) (.slice none 0 0)) := BkH.upB (BkH.upB HK3.out hb5) (q5 _ _)
  have HBB : Hid (Below w.heap.size w (w5.alloc (.cells #[.int .i64 0,.slice none 0 0,.slice none 0 0,.slice none 0 0] 26 (0,0)))) := q7 (q7 HB4.out hb5) (q5 _ _)
  have hk32 := qH (x0 := .int .i64 0) (x1 := .slice none 0 0) (x2 := .slice none 0 0) (x3 := .slice none 0 0) hk3 HR12.out.2.2.symm
  have hk22 := qL (x0 := .int .i64 0) (x1 := .slice none 0 0) (x2 := .slice none 0 0) (x3 := .slice none 0 0) hk2
  obtain ⟨⟨r0,r1,r2,r3⟩,g0,g1,g2,g3⟩ := hk2.cells4
  obtain ⟨⟨t0,t1,t2,t3⟩,f0,f1,f2,f3⟩ := hk32.cells4
  have HFA : Hid _ := qH (x0 := .int .i64 0) (x1 := .slice none 0 0) (x2 := .slice none 0 0) (x3 := .slice none 0 0) hk22 HR12.out.2.2
  have HFB : Hid _ := qL (x0 := .int .i64 0) (x1 := .slice none 0 0) (x2 := .slice none 0 0) (x3 := .slice none 0 0) hk32
  have HE : Hid (Z (.returned (.tuple #[auZ,auZ,.int .i64 12])) (set4 (set4 (w5.alloc (.cells #[.int .i64 0,.slice none 0 0,.slice none 0 0,.slice none 0 0] 26 (0,0))) ra (.int .i64 0) (.slice none 0 0) (.slice none 0 0) (.slice none 0 0)) rb (.int .i64 0) (.slice none 0 0) (.slice none 0 0) (.slice none 0 0))) := HZ.out _ _ ⟨qn (qn HBB.out HR12.out.1) HR12.out.2.1,.inl ⟨12,by decide,rfl,.inl ⟨rfl,fun h => hM h.1⟩⟩⟩
  clear hk2 hk3 hk32 hk22 HBB HZ jc s0 s1 s2 s3 HK1 HKB HKN HKG HKO hb5 hM
  unfold set4 at HE HFA HFB t0 t1 t2 t3 f0 f1 f2 f3
  go_upto_if 16 with fail
  generalize (w5.alloc (.cells #[.int .i64 0,.slice none 0 0,.slice none 0 0,.slice none 0 0] 26 (0,0))) = w9 at *
  go_wp2
  have z0 := q6 HFA.out 0
  have z1 := q6 HFA.out 1
  have z2 := q6 HFA.out 2
  have z3 := q6 HFA.out 3
  have y0 := q6 HFB.out 0
  have y1 := q6 HFB.out 1
  have y2 := q6 HFB.out 2
  have y3 := q6 HFB.out 3
  refine bodyPost_ret (v := .tuple #[auZ,auZ,.int .i64 12]) ?_ rfl HE.out
  simp only [List.getElem?_toArray,List.getElem?_cons_zero,List.getElem?_cons_succ] at z0 z1 z2 z3 y0 y1 y2 y3
  simp [results,Try.results33,go_sem,z0,z1,z2,z3,y0,y1,y2,y3]
 ·have hb5n := q7 (q7 HB4.out hb5) (q5 w5 (.cells #[.int .i64 p,.slice a1 bs'.length c1,.slice a2 bs'.length c2,.slice a3 N'.length c3] 26 (0,0)))
  have hkx : BkH (w5.alloc (.cells #[.int .i64 p,.slice a1 bs'.length c1,.slice a2 bs'.length c2,.slice a3 N'.length c3] 26 (0,0))) w5.heap.size (auO (.int .i64 p) (.slice a1 bs'.length c1) (.slice a2 bs'.length c2) (.slice a3 N'.length c3)) := qy _ _
  have hk1 := BkH.upB (BkH.upB HK1.out hb5) (q5 w5 (.cells #[.int .i64 p,.slice a1 bs'.length c1,.slice a2 bs'.length c2,.slice a3 N'.length c3] 26 (0,0)))
  have HK2' : Hid _ := BkH.upB (BkH.upB HK2.out hb5) (q5 w5 (.cells #[.int .i64 p,.slice a1 bs'.length c1,.slice a2 bs'.length c2,.slice a3 N'.length c3] 26 (0,0)))
  have HK3' : Hid _ := BkH.upB (BkH.upB HK3.out hb5) (q5 w5 (.cells #[.int .i64 p,.slice a1 bs'.length c1,.slice a2 bs'.length c2,.slice a3 N'.length c3] 26 (0,0)))
  have HO5 : Hid (OwA (w5.alloc (.cells #[.int .i64 p,.slice a1 bs'.length c1,.slice a2 bs'.length c2,.slice a3 N'.length c3] 26 (0,0))) w4.heap.size a1 c1 a2 c2 a3 c3 bs' gs' N') := hO.up (q5 _ _)
  have HR4 : Hid (ra < w4.heap.size ∧ rb < w4.heap.size ∧ w.heap.size ≤ w4.heap.size) := ⟨(Array.getElem?_eq_some_iff.1 HK2.out).1,(Array.getElem?_eq_some_iff.1 HK3.out).1,HB4.out.size⟩
  have HGX : Hid (ra < w5.heap.size ∧ rb < w5.heap.size) := by
   have h2 := (Array.getElem?_eq_some_iff.1 HK2.out).1
   have h3 := (Array.getElem?_eq_some_iff.1 HK3.out).1
   have := hb5.size
   show _ ∧ _
   omega
  have jd := q1I q bA mA dA bG mG dG bN mN dN cs M hs (w5.alloc (.cells #[.int .i64 p,.slice a1 bs'.length c1,.slice a2 bs'.length c2,.slice a3 N'.length c3] 26 (0,0))) (HKB.out.up hb5n) (HKN.out.up hb5n) (HKG.out.up hb5n) HKO.out
  obtain ⟨⟨v0,v1,v2,v3⟩,_⟩ := hk1.cells4
  have HMA : Hid _ := hMA
  have HMM : Hid _ := hM
  have HB5 : Hid _ := hb5n
  have HKX : Hid _ := hkx
  clear jc s0 s1 s2 s3 hb5 hb5n hO hMA hM hk1 hkx HK1 HK2 HK3 HB4
  go_wp2_with fail
  refine jd.mono ?_
  rintro e w7 ⟨hb7,⟨hM2,rfl⟩ | ⟨hM2,cs',hs',M',b1,d1,b2,d2,b3,d3,rfl,hMB,hP⟩⟩
  ·have hk2 : BkH (w7.alloc (.cells #[.int .i64 0,.slice none 0 0,.slice none 0 0,.slice none 0 0] 26 (0,0))) ra (auO (.int .i64 0) (.slice none 0 0) (.slice none 0 0) (.slice none 0 0)) := BkH.upB (BkH.upB HK2'.out hb7) (q5 _ _)
   have hk3 : BkH (w7.alloc (.cells #[.int .i64 0,.slice none 0 0,.slice none 0 0,.slice none 0 0] 26 (0,0))) rb (auO (.int .i64 0) (.slice none 0 0) (.slice none 0 0) (.slice none 0 0)) := BkH.upB (BkH.upB HK3'.out hb7) (q5 _ _)
   have HBB : Hid (Below w.heap.size w (w7.alloc (.cells #[.int .i64 0,.slice none 0 0,.slice none 0 0,.slice none 0 0] 26 (0,0)))) := q7 (q7 HB5.out hb7) (q5 _ _)
   have hk32 := qH (x0 := .int .i64 0) (x1 := .slice none 0 0) (x2 := .slice none 0 0) (x3 := .slice none 0 0) hk3 HR12.out.2.2.symm
   have hk22 := qL (x0 := .int .i64 0) (x1 := .slice none 0 0) (x2 := .slice none 0 0) (x3 := .slice none 0 0) hk2
   obtain ⟨⟨r0,r1,r2,r3⟩,g0,g1,g2,g3⟩ := hk2.cells4
   obtain ⟨⟨t0,t1,t2,t3⟩,f0,f1,f2,f3⟩ := hk32.cells4
   have HFA : Hid _ := qH (x0 := .int .i64 0) (x1 := .slice none 0 0) (x2 := .slice none 0 0) (x3 := .slice none 0 0) hk22 HR12.out.2.2
   have HFB : Hid _ := qL (x0 := .int .i64 0) (x1 := .slice none 0 0) (x2 := .slice none 0 0) (x3 := .slice none 0 0) hk32
   have HE : Hid (Z (.returned (.tuple #[auZ,auZ,.int .i64 12])) (set4 (set4 (w7.alloc (.cells #[.int .i64 0,.slice none 0 0,.slice none 0 0,.slice none 0 0] 26 (0,0))) ra (.int .i64 0) (.slice none 0 0) (.slice none 0 0) (.slice none 0 0)) rb (.int .i64 0) (.slice none 0 0) (.slice none 0 0) (.slice none 0 0))) := HZ.out _ _ ⟨qn (qn HBB.out HR12.out.1) HR12.out.2.1,.inl ⟨12,by decide,rfl,.inl ⟨rfl,fun h => hM2 h.2⟩⟩⟩
   clear hk2 hk3 hk32 hk22 HBB HZ jd v0 v1 v2 v3 HKB HKN HKG HKO hb7 hM2 HO5 HMA
   unfold set4 at HE HFA HFB t0 t1 t2 t3 f0 f1 f2 f3
   go_upto_if 26 with fail
   generalize (w7.alloc (.cells #[.int .i64 0,.slice none 0 0,.slice none 0 0,.slice none 0 0] 26 (0,0))) = w9 at *
   go_wp2
   have z0 := q6 HFA.out 0
   have z1 := q6 HFA.out 1
   have z2 := q6 HFA.out 2
   have z3 := q6 HFA.out 3
   have y0 := q6 HFB.out 0
   have y1 := q6 HFB.out 1
   have y2 := q6 HFB.out 2
   have y3 := q6 HFB.out 3
   refine bodyPost_ret (v := .tuple #[auZ,auZ,.int .i64 12]) ?_ rfl HE.out
   simp only [List.getElem?_toArray,List.getElem?_cons_zero,List.getElem?_cons_succ] at z0 z1 z2 z3 y0 y1 y2 y3
   simp [results,Try.results33,go_sem,z0,z1,z2,z3,y0,y1,y2,y3]
  ·have hbn := q5 w7 (.cells #[.int .i64 q,.slice b1 cs'.length d1,.slice b2 cs'.length d2,.slice b3 M'.length d3] 26 (0,0))
   have hky : BkH (w7.alloc (.cells #[.int .i64 q,.slice b1 cs'.length d1,.slice b2 cs'.length d2,.slice b3 M'.length d3] 26 (0,0))) w7.heap.size (auO (.int .i64 q) (.slice b1 cs'.length d1) (.slice b2 cs'.length d2) (.slice b3 M'.length d3)) := qy _ _
   have hkx := BkH.upB (BkH.upB HKX.out hb7) hbn
   have HK2 : Hid _ := BkH.upB (BkH.upB HK2'.out hb7) hbn
   have HK3 : Hid _ := BkH.upB (BkH.upB HK3'.out hb7) hbn
   have HB8 : Hid _ := q7 (q7 HB5.out hb7) hbn
   have HO8 : Hid (OwA (w7.alloc (.cells #[.int .i64 q,.slice b1 cs'.length d1,.slice b2 cs'.length d2,.slice b3 M'.length d3] 26 (0,0))) w4.heap.size a1 c1 a2 c2 a3 c3 bs' gs' N') := (HO5.out.up hb7).up hbn
   have HP8 : Hid (OwA (w7.alloc (.cells #[.int .i64 q,.slice b1 cs'.length d1,.slice b2 cs'.length d2,.slice b3 M'.length d3] 26 (0,0))) w5.heap.size b1 d1 b2 d2 b3 d3 cs' hs' M') := (hP.base (by simp)).up hbn
   have HS5 : Hid (w.heap.size ≤ w5.heap.size) := by
    have h1 := HB5.out.size
    have h2 := HGX.out
    have h3 := HR12.out.1
    show _ ≤ _
    omega
   have HMB : Hid _ := hMB
   have HMN : Hid _ := hM2
   have HGY : Hid (ra < w7.heap.size ∧ rb < w7.heap.size ∧ ra ≠ w5.heap.size ∧ rb ≠ w5.heap.size) := by
    have h2 := HGX.out
    have := hb7.size
    simp at this
    show _ ∧ _
    omega
   have HKX8 : Hid _ := hkx
   have HKY8 : Hid _ := hky
   obtain ⟨⟨xa0,xa1,xa2,xa3⟩,_⟩ := hkx.cells4
   obtain ⟨⟨ya0,ya1,ya2,ya3⟩,_⟩ := hky.cells4
   clear jd v0 v1 v2 v3 HKB HKN HKG HKO hM2 hb7 hbn hP hMB HO5 HK2' HK3' HKX hkx hky HB5
   obtain ⟨w8,hw8⟩ : ∃ w8,w8 = w7.alloc (.cells #[.int .i64 q,.slice b1 cs'.length d1,.slice b2 cs'.length d2,.slice b3 M'.length d3] 26 (0,0)) := ⟨_,rfl⟩
   have HW8 : Hid _ := hw8
   rw [← hw8] at HK2 HK3 HB8 HO8 HP8 HKX8 HKY8 xa0 xa1 xa2 xa3 ya0 ya1 ya2 ya3
   clear hw8
   go_upto_if 34 with (rw [← HW8.out])
   clear HW8
   by_cases hpq : p = q
   ·subst hpq
    rw [show (p != p) = false by simp]
    go_upto_region 15 with fail
    have hk2 : BkH w8 ra (auO (.int .i64 0) (.slice none 0 0) (.slice none 0 0) (.slice none 0 0)) := HK2.out
    have hk3 : BkH w8 rb (auO (.int .i64 0) (.slice none 0 0) (.slice none 0 0) (.slice none 0 0)) := HK3.out
    have hkx : BkH w8 w5.heap.size (auO (.int .i64 p) (.slice a1 bs'.length c1) (.slice a2 bs'.length c2) (.slice a3 N'.length c3)) := HKX8.out
    have hky : BkH w8 w7.heap.size (auO (.int .i64 p) (.slice b1 cs'.length d1) (.slice b2 cs'.length d2) (.slice b3 M'.length d3)) := HKY8.out
    have hg := HGY.out
    have hab := HR12.out.2.2
    have tA := qH (x0 := .int .i64 p) (x1 := .slice a1 bs'.length c1) (x2 := .slice a2 bs'.length c2) (x3 := .slice a3 N'.length c3) hk3 hab.symm
    have yA := qH (x0 := .int .i64 p) (x1 := .slice a1 bs'.length c1) (x2 := .slice a2 bs'.length c2) (x3 := .slice a3 N'.length c3) hky (r := ra) (by omega)
    have rB := qH (x0 := .int .i64 p) (x1 := .slice b1 cs'.length d1) (x2 := .slice b2 cs'.length d2) (x3 := .slice b3 M'.length d3) hk2 hab
    have xB := qH (x0 := .int .i64 p) (x1 := .slice b1 cs'.length d1) (x2 := .slice b2 cs'.length d2) (x3 := .slice b3 M'.length d3) hkx (r := rb) (by omega)
    have aA2 := qL (x0 := .int .i64 p) (x1 := .slice a1 bs'.length c1) (x2 := .slice a2 bs'.length c2) (x3 := .slice a3 N'.length c3) hk2
    have bB2 := qL (x0 := .int .i64 p) (x1 := .slice b1 cs'.length d1) (x2 := .slice b2 cs'.length d2) (x3 := .slice b3 M'.length d3) hk3
    have HF1a : Hid _ := qH (x0 := .int .i64 p) (x1 := .slice b1 cs'.length d1) (x2 := .slice b2 cs'.length d2) (x3 := .slice b3 M'.length d3) aA2 hab
    have HF1b : Hid _ := qL (x0 := .int .i64 p) (x1 := .slice b1 cs'.length d1) (x2 := .slice b2 cs'.length d2) (x3 := .slice b3 M'.length d3) tA
    have HF2a : Hid _ := qL (x0 := .int .i64 p) (x1 := .slice a1 bs'.length c1) (x2 := .slice a2 bs'.length c2) (x3 := .slice a3 N'.length c3) rB
    have HF2b : Hid _ := qH (x0 := .int .i64 p) (x1 := .slice a1 bs'.length c1) (x2 := .slice a2 bs'.length c2) (x3 := .slice a3 N'.length c3) bB2 hab.symm
    obtain ⟨⟨r0,r1,r2,r3⟩,g0,g1,g2,g3⟩ := hk2.cells4
    obtain ⟨⟨t0,t1,t2,t3⟩,f0,f1,f2,f3⟩ := hk3.cells4
    obtain ⟨⟨tA0,tA1,tA2,tA3⟩,fA0,fA1,fA2,fA3⟩ := tA.cells4
    obtain ⟨⟨rB0,rB1,rB2,rB3⟩,gB0,gB1,gB2,gB3⟩ := rB.cells4
    obtain ⟨⟨yA0,yA1,yA2,yA3⟩,_⟩ := yA.cells4
    obtain ⟨⟨xB0,xB1,xB2,xB3⟩,_⟩ := xB.cells4
    clear hk2 hk3 hkx hky hg tA yA rB xB aA2 bB2
    have HE1 : Hid (Z (.returned (.tuple #[.agg #[.int .i64 p,.slice a1 bs'.length c1,.slice a2 bs'.length c2,.slice a3 N'.length c3],.agg #[.int .i64 p,.slice b1 cs'.length d1,.slice b2 cs'.length d2,.slice b3 M'.length d3],.int .i64 0])) (World.drew (set4 (set4 w8 ra (.int .i64 p) (.slice a1 bs'.length c1) (.slice a2 bs'.length c2) (.slice a3 N'.length c3)) rb (.int .i64 p) (.slice b1 cs'.length d1) (.slice b2 cs'.length d2) (.slice b3 M'.length d3)))) := HZ.out _ _ ⟨(qn (qn HB8.out HR12.out.1) HR12.out.2.1).drew,.inr ⟨HMM.out,HMN.out,rfl,bs',gs',N',a1,c1,a2,c2,a3,c3,cs',hs',M',b1,d1,b2,d2,b3,d3,rfl,HMA.out,(((HO8.out.on q1x HR4.out.1).on q1x HR4.out.2.1).up ((Below.refl _ _).drew)).base HR4.out.2.2,HMB.out,(((HP8.out.on q1x HGX.out.1).on q1x HGX.out.2).up ((Below.refl _ _).drew)).base HS5.out⟩⟩
    unfold set4 at *
    go_region
    go_wp2
    have z0 := q6 HF1a.out 0
    have z1 := q6 HF1a.out 1
    have z2 := q6 HF1a.out 2
    have z3 := q6 HF1a.out 3
    have y0 := q6 HF1b.out 0
    have y1 := q6 HF1b.out 1
    have y2 := q6 HF1b.out 2
    have y3 := q6 HF1b.out 3
    refine bodyPost_ret (v := .tuple #[.agg #[.int .i64 p,.slice a1 bs'.length c1,.slice a2 bs'.length c2,.slice a3 N'.length c3],.agg #[.int .i64 p,.slice b1 cs'.length d1,.slice b2 cs'.length d2,.slice b3 M'.length d3],.int .i64 0]) ?_ rfl HE1.out
    simp only [List.getElem?_toArray,List.getElem?_cons_zero,List.getElem?_cons_succ] at z0 z1 z2 z3 y0 y1 y2 y3
    simp [results,Try.results33,go_sem,z0,z1,z2,z3,y0,y1,y2,y3]
   ·clear xa0 xa1 xa2 xa3 ya0 ya1 ya2 ya3
    have dpq2 : (p != q) = true := by simpa using hpq
    rw [dpq2]
    have hk2 : BkH w8 ra (auO (.int .i64 0) (.slice none 0 0) (.slice none 0 0) (.slice none 0 0)) := HK2.out
    have hk3 : BkH w8 rb (auO (.int .i64 0) (.slice none 0 0) (.slice none 0 0) (.slice none 0 0)) := HK3.out
    have HBB : Hid (Below w.heap.size w w8) := HB8.out
    have hk32 := qH (x0 := .int .i64 0) (x1 := .slice none 0 0) (x2 := .slice none 0 0) (x3 := .slice none 0 0) hk3 HR12.out.2.2.symm
    have hk22 := qL (x0 := .int .i64 0) (x1 := .slice none 0 0) (x2 := .slice none 0 0) (x3 := .slice none 0 0) hk2
    obtain ⟨⟨r0,r1,r2,r3⟩,g0,g1,g2,g3⟩ := hk2.cells4
    obtain ⟨⟨t0,t1,t2,t3⟩,f0,f1,f2,f3⟩ := hk32.cells4
    have HFA : Hid _ := qH (x0 := .int .i64 0) (x1 := .slice none 0 0) (x2 := .slice none 0 0) (x3 := .slice none 0 0) hk22 HR12.out.2.2
    have HFB : Hid _ := qL (x0 := .int .i64 0) (x1 := .slice none 0 0) (x2 := .slice none 0 0) (x3 := .slice none 0 0) hk32
    have HE : Hid (Z (.returned (.tuple #[auZ,auZ,.int .i64 2])) (set4 (set4 w8 ra (.int .i64 0) (.slice none 0 0) (.slice none 0 0) (.slice none 0 0)) rb (.int .i64 0) (.slice none 0 0) (.slice none 0 0) (.slice none 0 0))) := HZ.out _ _ ⟨qn (qn HBB.out HR12.out.1) HR12.out.2.1,.inl ⟨2,by decide,rfl,.inr ⟨rfl,hpq⟩⟩⟩
    clear hk2 hk3 hk32 hk22 HBB HZ HO8 HP8 HMA HMB
    unfold set4 at HE HFA HFB t0 t1 t2 t3 f0 f1 f2 f3
    go_wp2
    have z0 := q6 HFA.out 0
    have z1 := q6 HFA.out 1
    have z2 := q6 HFA.out 2
    have z3 := q6 HFA.out 3
    have y0 := q6 HFB.out 0
    have y1 := q6 HFB.out 1
    have y2 := q6 HFB.out 2
    have y3 := q6 HFB.out 3
    refine bodyPost_ret (v := .tuple #[auZ,auZ,.int .i64 2]) ?_ rfl HE.out
    simp only [List.getElem?_toArray,List.getElem?_cons_zero,List.getElem?_cons_succ] at z0 z1 z2 z3 y0 y1 y2 y3
    simp [results,Try.results33,go_sem,z0,z1,z2,z3,y0,y1,y2,y3]
end Go.Proofs.Ytcnkgokfjafgkaa
