/- Texts of the proof, put together: what it uses. -/
import Derived.BigQuiet
import Derived.Lib.QuietBelow
import Derived.Test.YtehddcdgpamaaaaY04
import Derived.Test.YtehddcdgpamaaaaY05
import Derived.Test.YtehddcdgpamaaaaY10
import Derived.Test.YtehddcdgpamaaaaY12
set_option maxRecDepth 100000
set_option maxHeartbeats 16000000
namespace Go.Proofs.Ytehddcdgpamaaaa
open Go.RowKit Go.Maps Go.Sort
structure OwA (w : World) (base : Nat) (a1 : Option Addr) (c1 : Nat) (a2 : Option Addr) (c2 : Nat) (a3 : Option Addr) (c3 : Nat) (bs : List Bool) (gs : List Int) (N : List Gd) : Prop where
 ac : w.ownsRow base 4 1 (.slice a1 bs.length c1) bs.length (bs.map Value.bool)
 gu : w.ownsRow base 3 1 (.slice a2 bs.length c2) bs.length (gs.map (Value.int .i64))
 no : w.ownsRow base 57 3 (.slice a3 N.length c3) N.length (encGd N)
 ok : ∀ t ∈ N,GdOk t
theorem OwA.bo {w : World} {base : Nat} {a1 : Option Addr} {c1 : Nat} {a2 : Option Addr} {c2 : Nat} {a3 : Option Addr} {c3 : Nat} {bs : List Bool} {gs : List Int} {N : List Gd} (h : OwA w base a1 c1 a2 c2 a3 c3 bs gs N) : BoSl w a1 bs.length c1 bs := by
 obtain ⟨a',c',e,hb⟩ := q6Q h.ac
 injection e with e1 _ e3
 subst e1 e3
 exact hb
theorem OwA.zs {w : World} {base : Nat} {a1 : Option Addr} {c1 : Nat} {a2 : Option Addr} {c2 : Nat} {a3 : Option Addr} {c3 : Nat} {bs : List Bool} {gs : List Int} {N : List Gd} (h : OwA w base a1 c1 a2 c2 a3 c3 bs gs N) : ZSl w a2 bs.length c2 gs := by
 obtain ⟨a',c',e,hz,_⟩ := qG h.gu Try.underlying23 qb
 injection e with e1 _ e3
 subst e1 e3
 exact hz
theorem OwA.nd {w : World} {base : Nat} {a1 : Option Addr} {c1 : Nat} {a2 : Option Addr} {c2 : Nat} {a3 : Option Addr} {c3 : Nat} {bs : List Bool} {gs : List Int} {N : List Gd} (h : OwA w base a1 c1 a2 c2 a3 c3 bs gs N) : NdSl w a3 N.length c3 N := by
 obtain ⟨a',c',e,hn,_⟩ := q5q h.no h.ok
 injection e with e1 _ e3
 subst e1 e3
 exact hn
theorem OwA.up {w w' : World} {base : Nat} {a1 : Option Addr} {c1 : Nat} {a2 : Option Addr} {c2 : Nat} {a3 : Option Addr} {c3 : Nat} {bs : List Bool} {gs : List Int} {N : List Gd} (h : OwA w base a1 c1 a2 c2 a3 c3 bs gs N) (hb : Below w.heap.size w w') : OwA w' base a1 c1 a2 c2 a3 c3 bs gs N := ⟨qi h.ac hb,qi h.gu hb,qi h.no hb,h.ok⟩
theorem OwA.base {w : World} {base base' : Nat} {a1 : Option Addr} {c1 : Nat} {a2 : Option Addr} {c2 : Nat} {a3 : Option Addr} {c3 : Nat} {bs : List Bool} {gs : List Int} {N : List Gd} (h : OwA w base a1 c1 a2 c2 a3 c3 bs gs N) (hb : base' ≤ base) : OwA w base' a1 c1 a2 c2 a3 c3 bs gs N := ⟨qu h.ac hb,qu h.gu hb,qu h.no hb,h.ok⟩
theorem OwA.on {w w' : World} {base g : Nat} {a1 : Option Addr} {c1 : Nat} {a2 : Option Addr} {c2 : Nat} {a3 : Option Addr} {c3 : Nat} {bs : List Bool} {gs : List Int} {N : List Gd} (h : OwA w base a1 c1 a2 c2 a3 c3 bs gs N) (hO : OnG g w w') (hg : g < base) : OwA w' base a1 c1 a2 c2 a3 c3 bs gs N :=
 ⟨hO.own h.ac (fun k e e2 => by have := qp h.ac k e; omega),hO.own h.gu (fun k e e2 => by have := qp h.gu k e; omega),hO.own h.no (fun k e e2 => by have := qp h.no k e; omega),h.ok⟩
def SmR (p : Int) (nA : Nat) (bs : List Bool) (N : List Gd) (gs : List Int) (w : World) (e : Ending) (w' : World) : Prop :=
 Below w.heap.size w w' ∧ ∃ (bs' : List Bool) (gs' : List Int) (N' : List Gd) (a1 : Option Addr) (c1 : Nat) (a2 : Option Addr) (c2 : Nat) (a3 : Option Addr) (c3 : Nat),e = .returned (.agg #[.int .i64 p,.slice a1 bs'.length c1,.slice a2 bs'.length c2,.slice a3 N'.length c3]) ∧ MinA p nA bs N gs bs' gs' N' ∧ OwA w' w.heap.size a1 c1 a2 c2 a3 c3 bs' gs' N'
theorem q5g {F : List Nat} {bs : List Bool} {i : Nat} (h : i < F.length) : accC (F.take (i + 1)) bs = accC (F.take i) bs ++ [bs.getD (F.getD i 0) false] := by
 rw [accC,q1k h,List.map_append]; rfl
theorem q2b (F : List Nat) (bs : List Bool) : (accC F bs).length = F.length := by simp [accC]
theorem q17 {w : World} {base e size n b j : Nat} {v : Value} {xs : List Value} {cs : Array Value} (h : w.ownsRow base e size v n xs) (hb : w.heap[b]? = some (.cells cs 26 (0,0))) (he : e ≠ 26) (u : Value) : (w.setCell ⟨b,j,none⟩ u).ownsRow base e size v n xs :=
 qj h fun k hk => Below.heap_setCell _ _ _ _ (fun e2 => q14 hb h he (by dsimp only at e2; rw [← e2]; exact hk))
abbrev finW (W : World) (m0 r : Nat) (x0 x1 x2 x3 : Value) : World := ((((W.setCell ⟨m0,3,none⟩ x3).setCell ⟨r,0,none⟩ x0).setCell ⟨r,1,none⟩ x1).setCell ⟨r,2,none⟩ x2).setCell ⟨r,3,none⟩ x3
theorem q5I {W : World} {m0 r : Nat} {x0 x1 x2 x3 : Value} {cs : Array Value} {y0 y1 y2 y3 : Value} (hm : W.heap[m0]? = some (.cells cs 26 (0,0))) (hr : W.heap[r]? = some (.cells #[y0,y1,y2,y3] 26 (0,0))) (hne : m0 ≠ r) :
  (finW W m0 r x0 x1 x2 x3).heap[r]? = some (.cells #[x0,x1,x2,x3] 26 (0,0)) ∧ ∀ (base e size n : Nat) (v : Value) (xs : List Value),e ≠ 26 → W.ownsRow base e size v n xs → (finW W m0 r x0 x1 x2 x3).ownsRow base e size v n xs := by
 have h0 : (W.setCell ⟨m0,3,none⟩ x3).heap[r]? = some (.cells #[y0,y1,y2,y3] 26 (0,0)) := (Below.heap_setCell _ _ _ _ (by dsimp only; exact fun e => hne e.symm)).trans hr
 have h1 := heap_setCell_same _ r 0 _ _ x0 h0
 have h2 := heap_setCell_same _ r 1 _ _ x1 h1
 have h3 := heap_setCell_same _ r 2 _ _ x2 h2
 have h4 := heap_setCell_same _ r 3 _ _ x3 h3
 exact ⟨h4,fun base e size n v xs he ho => q17 (q17 (q17 (q17 (q17 ho hm he x3) h0 he x0) h1 he x1) h2 he x2) h3 he x3⟩
theorem q5j {B : Nat} {w W : World} {m0 r : Nat} {x0 x1 x2 x3 : Value} (h : Below B w W) (h1 : B ≤ m0) (h2 : B ≤ r) : Below B w (finW W m0 r x0 x1 x2 x3) :=
 ((((h.setCell (by dsimp only; exact h1) _).setCell (by dsimp only; exact h2) _).setCell (by dsimp only; exact h2) _).setCell (by dsimp only; exact h2) _).setCell (by dsimp only; exact h2) _
theorem q2a (p : Int) (aA : Option Addr) (nA cA : Nat) (aG : Option Addr) (nG cG : Nat) (aN : Option Addr) (nN cN : Nat) (bs : List Bool) (N : List Gd) (gs : List Int) (w : World) (hM : MayG p nA N gs) (hB : BoSl w aA nA cA bs) (hN : NdSl w aN nN cN N) (hG : ZSl w aG nG cG gs) :
  Calls Try.prog 29 #[.agg #[.int .i64 p,.slice aA nA cA,.slice aG nG cG,.slice aN nN cN]] w (SmR p nA bs N gs w) := by
 obtain ⟨Z,eZ⟩ : ∃ Z,Z = SmR p nA bs N gs w := ⟨_,rfl⟩
 have HZ : Hid (∀ e w',SmR p nA bs N gs w e w' → Z e w') := fun e w' h => by rw [eZ]; exact h
 rw [← eZ]
 clear eZ
 have h256 := hM.s2
 have HP08 : Hid (0 ≤ p ∧ p ≤ 8) := ⟨hM.p0,hM.p8⟩
 have hz := fun w => q4W w
 have hsl := fun w' => q4t (w.heap.size + 2) nA h256 w'
 obtain ⟨A,hA⟩ : ∃ A,A = ((List.replicate 256 (0 : Int)).map (Value.int .i64)).toArray := ⟨_,rfl⟩
 have hAs : A.size = 256 := by rw [hA]; simp
 have hne : ¬ A = #[] := fun e => by rw [e] at hAs; cases hAs
 obtain ⟨w3,hw3⟩ : ∃ w3,w3 = ((w.alloc (.cells #[.int .i64 p,.slice aA nA cA,.slice aG nG cG,.slice aN nN cN] 26 (0,0))).alloc (.cells #[.int .i64 0,.slice none 0 0,.slice none 0 0,.slice none 0 0] 26 (0,0))).alloc (.cells A 82 (0,0)) := ⟨_,rfl⟩
 have hb3 : Below w.heap.size w w3 := by rw [hw3]; exact q6 (q6 (q5 w _) (q5 _ _)) (q5 _ _)
 have hA3 : w3.heap[w.heap.size]? = some (.cells #[.int .i64 p,.slice aA nA cA,.slice aG nG cG,.slice aN nN cN] 26 (0,0)) := by
  rw [hw3]
  have h1 := (MapKept.heap_alloc w (.cells #[.int .i64 p,.slice aA nA cA,.slice aG nG cG,.slice aN nN cN] 26 (0,0))).1
  exact ((q5 _ _).block _ (by simp; omega)).trans (((q5 _ _).block _ (by simp)).trans h1)
 have hR3 : w3.heap[w.heap.size + 1]? = some (.cells #[.int .i64 0,.slice none 0 0,.slice none 0 0,.slice none 0 0] 26 (0,0)) := by
  rw [hw3]
  have h1 := (MapKept.heap_alloc (w.alloc (.cells #[.int .i64 p,.slice aA nA cA,.slice aG nG cG,.slice aN nN cN] 26 (0,0))) (.cells #[.int .i64 0,.slice none 0 0,.slice none 0 0,.slice none 0 0] 26 (0,0))).1
  rw [show (w.alloc (.cells #[.int .i64 p,.slice aA nA cA,.slice aG nG cG,.slice aN nN cN] 26 (0,0))).heap.size = w.heap.size + 1 by simp] at h1
  exact ((q5 _ _).block _ (by simp)).trans h1
 have hN3 : NuB w3 (w.heap.size + 2) (List.replicate 256 0) := by
  refine ⟨?_,by rw [List.length_replicate]⟩
  have h1 := (MapKept.heap_alloc ((w.alloc (.cells #[.int .i64 p,.slice aA nA cA,.slice aG nG cG,.slice aN nN cN] 26 (0,0))).alloc (.cells #[.int .i64 0,.slice none 0 0,.slice none 0 0,.slice none 0 0] 26 (0,0))) (.cells A 82 (0,0))).1
  rw [← hw3] at h1
  show w3.heap[w.heap.size + 2]? = _
  rw [← hA]
  simpa using h1
 have hs3 : w3.heap.size = w.heap.size + 3 := by rw [hw3]; simp
 have jr := q3H p aA nA cA aG nG cG aN nN cN bs N gs (w.heap.size + 2) w w3 hb3 (by omega) hN3 hM hB hN hG hM.ok64
 have t1 : w3.cell? ⟨w.heap.size,1,none⟩ = some (.slice aA nA cA) := q7 hA3 1
 have t0 : w3.cell? ⟨w.heap.size,0,none⟩ = some (.int .i64 p) := q7 hA3 0
 have t2 : w3.cell? ⟨w.heap.size,2,none⟩ = some (.slice aG nG cG) := q7 hA3 2
 have t3 : w3.cell? ⟨w.heap.size,3,none⟩ = some (.slice aN nN cN) := q7 hA3 3
 have HB3 : Hid _ := hb3
 have HA3 : Hid _ := hA3
 have HR3 : Hid _ := hR3
 have HN3 : Hid _ := hN3
 have HS3 : Hid _ := hs3
 have HHB : Hid _ := hB
 have HHN : Hid _ := hN
 have HHG : Hid _ := hG
 have HM : Hid _ := hM
 have HW3 : Hid _ := hw3
 rw [← hA] at hz
 clear hb3 hA3 hR3 hN3 hs3 hB hN hG hM hA hw3
 go_enter Try.func29,Try.ntmps29
 go_wp2_with (rw [← HW3.out])
 refine jr.mono ?_
 rintro e w4 ⟨hon,k,c,F,aF,cF,hk,hc,hF,rfl,hZF,hNu⟩
 have hP := q4H HM.out hk hc hF
 have hMA : ∀ bs' gs' N',bs' = accC F bs → stoM p.toNat (rowC c F (rwA p N gs)) = (gs',N') → MinA p nA bs N gs bs' gs' N' := fun bs' gs' N' h1 h2 => ⟨k,c,F,hk,hc,hF,h1,h2⟩
 have hb4 := q3o hon (by omega) HB3.out
 have hA4 := (hon.keep w.heap.size (by have := HS3.out; omega) (by omega)).trans HA3.out
 have hR4 := (hon.keep (w.heap.size + 1) (by have := HS3.out; omega) (by omega)).trans HR3.out
 have hs4 := hon.size
 have s0 : w4.cell? ⟨w.heap.size,0,none⟩ = some (.int .i64 p) := q7 hA4 0
 have HON : Hid _ := hon
 have HP : Hid _ := hP
 have HMA : Hid _ := hMA
 have HB4 : Hid _ := hb4
 have HA4 : Hid _ := hA4
 have HR4 : Hid _ := hR4
 have HZF : Hid _ := hZF
 have HNU : Hid _ := hNu
 have HF256 : Hid (F.length ≤ nA) := hP.len
 obtain ⟨w5,hw5⟩ : ∃ w5,w5 = w4.alloc (.cells #[.int .i64 p,.slice none 0 0,.slice none 0 0,.slice none 0 0] 26 (0,0)) := ⟨_,rfl⟩
 have hb5 : Below w4.heap.size w4 w5 := by rw [hw5]; exact q5 _ _
 have hm5 : w5.heap[w4.heap.size]? = some (.cells #[.int .i64 p,.slice none 0 0,.slice none 0 0,.slice none 0 0] 26 (0,0)) := by rw [hw5]; exact (MapKept.heap_alloc w4 _).1
 have s5 : w5.cell? ⟨w.heap.size,0,none⟩ = some (.int .i64 p) := qa s0 hb5
 have HW5 : Hid _ := hw5
 have HB5 : Hid _ := hb5
 have HM5 : Hid _ := hm5
 have jn := q40 p w5
 clear jr hon hk hc hF hZF hNu hP hMA hb4 hA4 hR4 hw5 hb5 hm5 t0 t1 t2 t3 hz hsl hne hAs HW3 HB3 HA3 HR3 HN3
 go_wp2_with (rw [← HW5.out])
 refine jn.mono ?_
 rintro e w6 ⟨hb6,⟨h1,_⟩ | ⟨_,_,g1,F1,rfl,hF1,hst⟩⟩
 ·exact absurd HP08.out h1
 have HK0 : Hid (SmM w4 w6 w4.heap.size g1 p.toNat F1 p (.slice none 0 0) (.slice none 0 0) 0 (accC (F.take 0) bs) (stoM p.toNat ((rowC c F (rwA p N gs)).take 0)).1 (stoM p.toNat ((rowC c F (rwA p N gs)).take 0)).2) :=
  ⟨(hb6.block _ (Array.getElem?_eq_some_iff.1 HM5.out).1).trans HM5.out,⟨rfl,.inl ⟨rfl,rfl⟩⟩,⟨rfl,.inl ⟨rfl,rfl⟩⟩,hst,fun k hk => Nat.le_trans HB5.out.size (hF1 k hk),Nat.le_refl _,q6 HB5.out hb6⟩
 have h4s : w.heap.size + 3 ≤ w4.heap.size := by have := HS3.out; omega
 clear jn hb6 hF1 hst s0 s5 HW5 HM5 HB5 hs4
 generalize hm0 : w4.heap.size = m0 at *
 have Hm0 : Hid _ := hm0
 clear hm0
 go_wp2
 go_loopw [31] (fun j wr => ∃ (i : Nat) (av gv : Value) (Fs : Nat → Prop),i ≤ F.length ∧ j = .int .i64 (i : Int) ∧ Hid (SmM w4 wr m0 g1 p.toNat Fs p av gv i (accC (F.take i) bs) (stoM p.toNat ((rowC c F (rwA p N gs)).take i)).1 (stoM p.toNat ((rowC c F (rwA p N gs)).take i)).2)) (fun j _ => F.length - (intOf j).toNat)
 case atStart => exact ⟨0,_,_,F1,Nat.zero_le _,rfl,HK0⟩
 case round =>
  obtain ⟨i,av,gv,Fs,hi,rfl,HS⟩ := hrel
  clear HK0
  have hbw := HB4.out.trans (HS.out.bel.mono HB4.out.size)
  have hA := (HS.out.bel.block w.heap.size (by have := Hm0.out; omega)).trans HA4.out
  by_cases hlt : i < F.length
  ·have hix := fun w' => HZF.out.idx F.length i w' hlt (Nat.le_refl _)
   have hbl : Below w4.heap.size w4 wr := HS.out.bel
   have hce := (HZF.out.up hbl).cell i hlt
   rw [qz hlt] at hce
   have hqn := HP.out.ltn hlt
   have jw := q3O p aA nA cA aG nG cG aN nN cN N gs (F.getD i 0) (w.heap.size + 2) (nuC c nA F) wr HM.out (HHN.out.up hbw) (HHG.out.up hbw) (HNU.out.up hbl) hqn
   rw [q6A HM.out HP.out hlt] at jw
   have c0 : wr.cell? ⟨w.heap.size,0,none⟩ = some (.int .i64 p) := q7 hA 0
   have c1 : wr.cell? ⟨w.heap.size,1,none⟩ = some (.slice aA nA cA) := q7 hA 1
   have c2 : wr.cell? ⟨w.heap.size,2,none⟩ = some (.slice aG nG cG) := q7 hA 2
   have c3 : wr.cell? ⟨w.heap.size,3,none⟩ = some (.slice aN nN cN) := q7 hA 3
   have HA : Hid _ := hA
   have HBW : Hid _ := hbw
   have hK : i < (rowC c F (rwA p N gs)).length := by rw [HP.out.rows.len]; exact hlt
   have HADD : Hid _ := q5E HM.out HP.out hlt
   have HNX : Hid _ := q1j p.toNat (rowC c F (rwA p N gs)) hK
   have HNL : Hid ((stoM p.toNat ((rowC c F (rwA p N gs)).take i)).2.length ≤ 4096) := Nat.le_trans (q1w HM.out HP.out.lists _ HP.out.from i (Nat.le_of_lt hK)).len HM.out.few
   have HACC : Hid _ := q5g (bs := bs) hlt
   have hgb : bs.getD (F.getD i 0) false = bs[F.getD i 0]'(by rw [HHB.out.hlen]; exact hqn) := q8 _ _
   have hixb := fun w' => (HHB.out.at (F.getD i 0) hqn).1 nA w' hqn
   have HCB : Hid (∀ wx,Below w.heap.size w wx → wx.cell? (adOf aA (F.getD i 0)) = some (.bool (bs.getD (F.getD i 0) false))) := fun wx hx => by rw [hgb]; exact ((HHB.out.up hx).at (F.getD i 0) hqn).2
   clear hA hbw hbl hK hgb
   generalize F.getD i 0 = q at *
   generalize bs.getD q false = zb at *
   generalize hkl : (rowC c F (rwA p N gs)).getD i [] = kl at *
   generalize adOf aF i = ad at *
   obtain ⟨ag,ao,az⟩ := ad
   generalize adOf aA q = adb at *
   obtain ⟨bg,bo,bz⟩ := adb
   clear hkl
   go_wp2_with fail
   refine jw.mono ?_
   rintro e w1 ⟨hb1,ra,rc,rfl,hro⟩
   obtain ⟨ra',rc',er,hrz,hrn,_⟩ := qG hro Try.underlying23 qb
   injection er with er1 _ er3
   subst er1 er3
   have hS1 := HS.out.up hb1
   have ja := q3X g1 p.toNat (by have := HP08.out; omega) (kl.map Int.ofNat) ra (2 ^ p.toNat) rc _ Fs w1 hrz (fun j hj hf => Nat.lt_irrefl _ (Nat.lt_of_lt_of_le (HS.out.st.lt _ hf) (hrn j hj))) hS1.st HNL.out
   rw [HADD.out] at ja
   have HS1 : Hid _ := hS1
   have HB1 : Hid _ := hb1
   clear jw hb1 hro hrz hrn hS1 hix hce
   go_wp2_with fail
   refine ja.mono ?_
   rintro e w2 ⟨rfl,F2,hst2,hfr2⟩
   dsimp only at hst2
   have hS2 := HS1.out.add hfr2 hst2
   have hb2 : Below w4.heap.size w4 w2 := hS2.bel
   have hbw2 := HB4.out.trans (hb2.mono HB4.out.size)
   have hA2 := (hb2.block w.heap.size (by have := Hm0.out; omega)).trans HA4.out
   have k1 : w2.cell? ⟨w.heap.size,1,none⟩ = some (.slice aA nA cA) := q7 hA2 1
   have m1 := hS2.c1
   have hcb := HCB.out w2 hbw2
   have hbA := q5 w2 (.cells #[.bool zb] 4)
   have m1b : (w2.alloc (.cells #[.bool zb] 4)).cell? ⟨m0,1,none⟩ = some av := qa m1 hbA
   have hO : (w2.alloc (.cells #[.bool zb] 4)).drew.ownsRow m0 4 1 av i ((accC (F.take i) bs).map Value.bool) := by rw [← Hm0.out]; exact World.ownsRow.alloc hS2.ac _
   have hBB : (w2.alloc (.cells #[.bool zb] 4)).drew.heap[w2.heap.size]? = some (.cells #[.bool zb] 4 (0,0)) := (MapKept.heap_alloc w2 _).1
   have hbs : m0 ≤ (w2.alloc (.cells #[.bool zb] 4)).drew.heap.size := by have h1 := hb2.size; have h2 := Hm0.out; simp; omega
   have HPUT : Hid (∀ w5 v',(w2.alloc (.cells #[.bool zb] 4)).drew.grownBy w5 av.ownBlock → w5.ownsRow m0 4 1 v' (i + 1) ((accC (F.take i) bs ++ [zb]).map Value.bool) → w5.cell? ⟨m0,1,none⟩ = some av ∧ w5.frozen? ⟨m0,1,none⟩ = false ∧ ((w5.setCell ⟨m0,1,none⟩ v').heap[m0]? = some (.cells #[.int .i64 p,v',gv,.slice none 0 0] 26 (0,0)) ∧
     (w5.setCell ⟨m0,1,none⟩ v').ownsRow w4.heap.size 4 1 v' (i + 1) ((accC (F.take i) bs ++ [zb]).map Value.bool) ∧ (w5.setCell ⟨m0,1,none⟩ v').ownsRow w4.heap.size 3 1 gv i ((stoM p.toNat ((rowC c F (rwA p N gs)).take i)).1.map (Value.int .i64)) ∧ StG (w5.setCell ⟨m0,1,none⟩ v') F2 g1 p.toNat (stoM p.toNat ((rowC c F (rwA p N gs)).take (i + 1))).2 ∧ Below w4.heap.size w4 (w5.setCell ⟨m0,1,none⟩ v'))) := fun w5 v' q1 q2 => by
    have := hS2.acc (w1 := (w2.alloc (.cells #[.bool zb] 4)).drew) (q6 (q5 w2 _) ((Below.refl _ _).drew)) q1 (by rw [Hm0.out]; exact q2)
    exact ⟨q7 this.1 1,frozen_of_row w5 _ 1 _ _ this.1,this.2⟩
   have HF2 : Hid _ := hS2.fge
   have hFl := HF256.out
   clear ja hst2 hfr2 HS1 HB1 hb2 hbw2 hA2 hbA hS2 HCB c0 c1 c2 c3
   generalize accC (F.take i) bs = acci at *
   rw [HNX.out] at HPUT
   unfold stoF at HPUT
   dsimp only at HPUT ⊢
   generalize hrf : (adM p.toNat 0 (fnL kl) (stoM p.toNat ((rowC c F (rwA p N gs)).take i)).2).1 = rf at *
   go_upto_region 10 with fail
   go_region_law ((refine q41 rfl _ _ rfl m0 av i acci zb w2.heap.size rfl rfl hO hBB (by omega) hbs ?_; intro v5 w5 hown5 hgr5; obtain ⟨a5,k5,rfl⟩ := qh hown5; have m5 := HPUT.out w5 _ hgr5 hown5; have c5 := m5.1; have z5 := m5.2.1; have HN5 : Hid _ := m5.2.2; clear m5))
   all_goals
    obtain ⟨n1,n2,n3,n4,n5⟩ := HN5.out
    generalize hw6 : w5.setCell ⟨m0,1,none⟩ (.slice a5 (i + 1) k5) = w6 at *
    clear hw6
    have m2 : w6.cell? ⟨m0,2,none⟩ = some gv := q7 n1 2
    have hO7 : (w6.alloc (.cells #[.int .i64 rf] 3)).ownsRow m0 3 1 gv i ((stoM p.toNat ((rowC c F (rwA p N gs)).take i)).1.map (Value.int .i64)) := by rw [← Hm0.out]; exact World.ownsRow.alloc n3 _
    have hc7 : (w6.alloc (.cells #[.int .i64 rf] 3)).cell? ⟨w6.heap.size,0,none⟩ = some (.int .i64 rf) := q7 (MapKept.heap_alloc w6 _).1 0
    have hbs7 : m0 ≤ (w6.alloc (.cells #[.int .i64 rf] 3)).heap.size := by have h1 := n5.size; have h2 := Hm0.out; simp; omega
    have HG7 : Hid (∀ w7 v',(w6.alloc (.cells #[.int .i64 rf] 3)).grownBy w7 gv.ownBlock → w7.ownsRow m0 3 1 v' (i + 1) (((stoM p.toNat ((rowC c F (rwA p N gs)).take i)).1 ++ [rf]).map (Value.int .i64)) → w7.cell? ⟨m0,2,none⟩ = some gv ∧ w7.frozen? ⟨m0,2,none⟩ = false ∧ SmM w4 (w7.setCell ⟨m0,2,none⟩ v') m0 g1 p.toNat F2 p (.slice a5 (i + 1) k5) v' (i + 1) (accC (F.take (i + 1)) bs) (stoM p.toNat ((rowC c F (rwA p N gs)).take (i + 1))).1 (stoM p.toNat ((rowC c F (rwA p N gs)).take (i + 1))).2) := fun w7 v' q1 q2 => by
     have := SmM.gus (w1 := w6.alloc (.cells #[.int .i64 rf] 3)) n1 n2 n3 n4 HF2.out (by rw [Hm0.out]; exact Nat.le_refl _) n5 (q5 w6 _) q1 (by rw [Hm0.out]; exact q2)
     refine ⟨q7 this.1 2,frozen_of_row w7 _ 2 _ _ this.1,?_⟩
     have h2 := this.2
     rw [HACC.out,HNX.out]
     unfold stoF
     dsimp only
     rw [hrf]
     exact h2
    have HO7 : Hid _ := hO7
    have hi7 : i + 1 ≤ 2000000 := by omega
    clear HN5 n1 n2 n3 n4 n5 c5 z5 hown5 hgr5 hO hBB hbs HPUT m1 m1b hcb k1 hixb hrf hO7 HACC HNX HADD HNL
    go_wp2_with (at_builtin; refine qJ rfl _ _ rfl m0 _ i _ rfl HO7.out w6.heap.size rf rfl hc7 hi7 hbs7 ?_)
    intro v7 w7 hq7 hg7
    obtain ⟨a7,k7,rfl⟩ := qh hq7
    obtain ⟨x1,x2,x3⟩ := HG7.out w7 _ hg7 (by rw [List.map_append]; exact hq7)
    have HS7 : Hid _ := x3
    clear hq7 hg7 HG7 HO7 hc7 x3 m2
    go_wp2
    go_roundw
    case rel => exact ⟨i + 1,_,_,_,by omega,by go_num,HS7⟩
    case measure => simp [intOf]; omega
  ·obtain rfl : i = F.length := by omega
   have hK : (rowC c F (rwA p N gs)).length = F.length := HP.out.rows.len
   have HSF : Hid _ := HS.out
   rw [List.take_length,show F.length = (rowC c F (rwA p N gs)).length from hK.symm,List.take_length,hK] at HSF
   rcases est : stoM p.toNat (rowC c F (rwA p N gs)) with ⟨gs',N'⟩
   rw [est] at HSF
   dsimp only at HSF
   have HAN : Hid (MinA p nA bs N gs (accC F bs) gs' N') := HMA.out _ gs' N' rfl est
   have hfew := (MinA.all HAN.out HM.out).nodes
   have h4 := HM.out.few
   have jd := q2X HSF.out.st (by omega)
   have hRr := (HSF.out.bel.block (w.heap.size + 1) (by have := Hm0.out; omega)).trans HR4.out
   have HRR : Hid _ := hRr
   have hgl : gs'.length = F.length := by
    have := HSF.out.gu.1
    simpa using this
   clear hRr HS hA hfew h4 hK est HMA
   go_wp2_with fail
   refine jd.mono ?_
   rintro e w2 ⟨hb2,nv,rfl,hno⟩
   obtain ⟨an,cn,rfl⟩ := qh hno
   obtain ⟨aa,ca,rfl⟩ := qh HSF.out.ac
   obtain ⟨ag,cg,rfl⟩ := qh HSF.out.gu
   have hS2 := HSF.out.up hb2
   have hR2 := (hb2.block _ (Array.getElem?_eq_some_iff.1 HRR.out).1).trans HRR.out
   have y0 : w2.cell? ⟨m0,0,none⟩ = some (.int .i64 p) := q7 hS2.blk 0
   have y1 : w2.cell? ⟨m0,1,none⟩ = some (.slice aa F.length ca) := q7 hS2.blk 1
   have y2 : w2.cell? ⟨m0,2,none⟩ = some (.slice ag F.length cg) := q7 hS2.blk 2
   have y3 : w2.cell? ⟨m0,3,none⟩ = some (.slice none 0 0) := q7 hS2.blk 3
   have f3 : w2.frozen? ⟨m0,3,none⟩ = false := frozen_of_row w2 _ 3 _ _ hS2.blk
   have r0 : w2.cell? ⟨w.heap.size + 1,0,none⟩ = some (.int .i64 0) := q7 hR2 0
   have r1 : w2.cell? ⟨w.heap.size + 1,1,none⟩ = some (.slice none 0 0) := q7 hR2 1
   have r2 : w2.cell? ⟨w.heap.size + 1,2,none⟩ = some (.slice none 0 0) := q7 hR2 2
   have r3 : w2.cell? ⟨w.heap.size + 1,3,none⟩ = some (.slice none 0 0) := q7 hR2 3
   have g0 : w2.frozen? ⟨w.heap.size + 1,0,none⟩ = false := frozen_of_row w2 _ 0 _ _ hR2
   have g1' : w2.frozen? ⟨w.heap.size + 1,1,none⟩ = false := frozen_of_row w2 _ 1 _ _ hR2
   have g2 : w2.frozen? ⟨w.heap.size + 1,2,none⟩ = false := frozen_of_row w2 _ 2 _ _ hR2
   have g3 : w2.frozen? ⟨w.heap.size + 1,3,none⟩ = false := frozen_of_row w2 _ 3 _ _ hR2
   have hne : m0 ≠ w.heap.size + 1 := by omega
   have hne2 : ¬ w.heap.size + 1 = m0 := fun e => hne e.symm
   have hfin := q5I (x0 := .int .i64 p) (x1 := .slice aa F.length ca) (x2 := .slice ag F.length cg) (x3 := .slice an N'.length cn) hS2.blk hR2 hne
   have hbF : Below w.heap.size w (finW w2 m0 (w.heap.size + 1) (.int .i64 p) (.slice aa F.length ca) (.slice ag F.length cg) (.slice an N'.length cn)) := q5j (HB4.out.trans (hS2.bel.mono HB4.out.size)) (by omega) (by omega)
   obtain ⟨WF,hWF⟩ : ∃ WF,WF = ((((w2.setCell ⟨m0,3,none⟩ (.slice an N'.length cn)).setCell ⟨w.heap.size + 1,0,none⟩ (.int .i64 p)).setCell ⟨w.heap.size + 1,1,none⟩ (.slice aa F.length ca)).setCell ⟨w.heap.size + 1,2,none⟩ (.slice ag F.length cg)).setCell ⟨w.heap.size + 1,3,none⟩ (.slice an N'.length cn) := ⟨_,rfl⟩
   have hWF2 : finW w2 m0 (w.heap.size + 1) (.int .i64 p) (.slice aa F.length ca) (.slice ag F.length cg) (.slice an N'.length cn) = WF := hWF.symm
   rw [hWF2] at hfin hbF
   have HWF : Hid _ := hWF
   have HFN : Hid _ := hfin.1
   clear hWF hWF2
   have HEF : Hid (Z (.returned (.agg #[.int .i64 p,.slice aa F.length ca,.slice ag F.length cg,.slice an N'.length cn])) WF) := by
    refine HZ.out _ _ ⟨hbF,accC F bs,gs',N',aa,ca,ag,cg,an,cn,by rw [q2b],HAN.out,?_⟩
    have h4 := HB4.out.size
    refine ⟨?_,?_,qu (hfin.2 _ _ _ _ _ _ (by decide) hno) ?_,fun t ht => HSF.out.st.ok t ht⟩
    ·rw [q2b]; exact qu (hfin.2 _ _ _ _ _ _ (by decide) hS2.ac) h4
    ·rw [q2b]; exact qu (hfin.2 _ _ _ _ _ _ (by decide) hS2.gu) h4
    ·have := HSF.out.bel.size; omega
   clear jd hb2 hno hS2 hR2 hfin hbF HSF HAN HRR
   go_wp2
   rw [← HWF.out]
   have z0 := q7 HFN.out 0
   have z1 := q7 HFN.out 1
   have z2 := q7 HFN.out 2
   have z3 := q7 HFN.out 3
   refine bodyPost_ret (v := .agg #[.int .i64 p,.slice aa F.length ca,.slice ag F.length cg,.slice an N'.length cn]) ?_ rfl HEF.out
   simp at z0 z1 z2 z3
   simp [results,Try.results29,go_sem,z0,z1,z2,z3]
def MnnR (p : Int) (nA : Nat) (bs : List Bool) (N : List Gd) (gs : List Int) (w : World) (e : Ending) (w' : World) : Prop :=
 Below w.heap.size w w' ∧ ((¬ MayG p nA N gs ∧ e = .returned (.tuple #[.agg #[.int .i64 0,.slice none 0 0,.slice none 0 0,.slice none 0 0],.int .i64 12])) ∨
  (MayG p nA N gs ∧ ∃ (bs' : List Bool) (gs' : List Int) (N' : List Gd) (a1 : Option Addr) (c1 : Nat) (a2 : Option Addr) (c2 : Nat) (a3 : Option Addr) (c3 : Nat),e = .returned (.tuple #[.agg #[.int .i64 p,.slice a1 bs'.length c1,.slice a2 bs'.length c2,.slice a3 N'.length c3],.int .i64 0]) ∧ MinA p nA bs N gs bs' gs' N' ∧ OwA w' w.heap.size a1 c1 a2 c2 a3 c3 bs' gs' N'))
abbrev set4 (W : World) (r : Nat) (x0 x1 x2 x3 : Value) : World := (((W.setCell ⟨r,0,none⟩ x0).setCell ⟨r,1,none⟩ x1).setCell ⟨r,2,none⟩ x2).setCell ⟨r,3,none⟩ x3
theorem q3u {W : World} {r : Nat} {x0 x1 x2 x3 y0 y1 y2 y3 : Value} (hr : W.heap[r]? = some (.cells #[y0,y1,y2,y3] 26 (0,0))) : (set4 W r x0 x1 x2 x3).heap[r]? = some (.cells #[x0,x1,x2,x3] 26 (0,0)) := by
 have h1 := heap_setCell_same _ r 0 _ _ x0 hr
 have h2 := heap_setCell_same _ r 1 _ _ x1 h1
 have h3 := heap_setCell_same _ r 2 _ _ x2 h2
 exact heap_setCell_same _ r 3 _ _ x3 h3
theorem q2E {B : Nat} {w W : World} {r : Nat} {x0 x1 x2 x3 : Value} (h : Below B w W) (h2 : B ≤ r) : Below B w (set4 W r x0 x1 x2 x3) :=
 (((h.setCell (by dsimp only; exact h2) _).setCell (by dsimp only; exact h2) _).setCell (by dsimp only; exact h2) _).setCell (by dsimp only; exact h2) _
theorem q6C {W : World} {r : Nat} {x0 x1 x2 x3 : Value} : OnG r W (set4 W r x0 x1 x2 x3) := qX (qX (qX (qX (q2h r W) 0 x0) 1 x1) 2 x2) 3 x3
theorem qZ (p : Int) (aA : Option Addr) (nA cA : Nat) (aG : Option Addr) (nG cG : Nat) (aN : Option Addr) (nN cN : Nat) (bs : List Bool) (N : List Gd) (gs : List Int) (w : World) (hB : BoSl w aA nA cA bs) (hN : NdSl w aN nN cN N) (hG : ZSl w aG nG cG gs) (hok : ∀ z ∈ gs,I64 z) :
  Calls Try.prog 10 #[.agg #[.int .i64 p,.slice aA nA cA,.slice aG nG cG,.slice aN nN cN]] w (MnnR p nA bs N gs w) := by
 obtain ⟨Z,eZ⟩ : ∃ Z,Z = MnnR p nA bs N gs w := ⟨_,rfl⟩
 have HZ : Hid (∀ e w',MnnR p nA bs N gs w e w' → Z e w') := fun e w' h => by rw [eZ]; exact h
 rw [← eZ]
 clear eZ
 obtain ⟨w2,hw2⟩ : ∃ w2,w2 = (w.alloc (.cells #[.int .i64 p,.slice aA nA cA,.slice aG nG cG,.slice aN nN cN] 26 (0,0))).alloc (.cells #[.int .i64 0,.slice none 0 0,.slice none 0 0,.slice none 0 0] 26 (0,0)) := ⟨_,rfl⟩
 have hb2 : Below w.heap.size w w2 := by rw [hw2]; exact q6 (q5 w _) (q5 _ _)
 have hA2 : w2.heap[w.heap.size]? = some (.cells #[.int .i64 p,.slice aA nA cA,.slice aG nG cG,.slice aN nN cN] 26 (0,0)) := by
  rw [hw2]
  have h1 := (MapKept.heap_alloc w (.cells #[.int .i64 p,.slice aA nA cA,.slice aG nG cG,.slice aN nN cN] 26 (0,0))).1
  exact ((q5 _ _).block _ (by simp)).trans h1
 have hR2 : w2.heap[w.heap.size + 1]? = some (.cells #[.int .i64 0,.slice none 0 0,.slice none 0 0,.slice none 0 0] 26 (0,0)) := by
  rw [hw2]
  have h1 := (MapKept.heap_alloc (w.alloc (.cells #[.int .i64 p,.slice aA nA cA,.slice aG nG cG,.slice aN nN cN] 26 (0,0))) (.cells #[.int .i64 0,.slice none 0 0,.slice none 0 0,.slice none 0 0] 26 (0,0))).1
  simpa using h1
 have jc := q10 p aA nA cA aG nG cG aN nN cN N gs w2 (hN.up hb2) (hG.up hb2) hok
 have t0 : w2.cell? ⟨w.heap.size,0,none⟩ = some (.int .i64 p) := q7 hA2 0
 have t1 : w2.cell? ⟨w.heap.size,1,none⟩ = some (.slice aA nA cA) := q7 hA2 1
 have t2 : w2.cell? ⟨w.heap.size,2,none⟩ = some (.slice aG nG cG) := q7 hA2 2
 have t3 : w2.cell? ⟨w.heap.size,3,none⟩ = some (.slice aN nN cN) := q7 hA2 3
 have HW2 : Hid _ := hw2
 have HB2 : Hid _ := hb2
 have HA2 : Hid _ := hA2
 have HR2 : Hid _ := hR2
 have HB : Hid _ := hB
 have HN : Hid _ := hN
 have HG : Hid _ := hG
 clear hw2 hb2 hA2 hR2 hB hN hG hok
 go_enter Try.func10,Try.ntmps10
 go_wp2_with (rw [← HW2.out])
 refine jc.mono ?_
 rintro e w3 ⟨hb3,v,rfl,⟨rfl,hM⟩ | ⟨rfl,hM⟩⟩
 ·have hA3 := (hb3.block _ (Array.getElem?_eq_some_iff.1 HA2.out).1).trans HA2.out
  have hR3 := (hb3.block _ (Array.getElem?_eq_some_iff.1 HR2.out).1).trans HR2.out
  have hbb := q6 HB2.out hb3
  have js := q2a p aA nA cA aG nG cG aN nN cN bs N gs w3 hM (HB.out.up hbb) (HN.out.up hbb) (HG.out.up hbb)
  have s0 : w3.cell? ⟨w.heap.size,0,none⟩ = some (.int .i64 p) := q7 hA3 0
  have s1 : w3.cell? ⟨w.heap.size,1,none⟩ = some (.slice aA nA cA) := q7 hA3 1
  have s2 : w3.cell? ⟨w.heap.size,2,none⟩ = some (.slice aG nG cG) := q7 hA3 2
  have s3 : w3.cell? ⟨w.heap.size,3,none⟩ = some (.slice aN nN cN) := q7 hA3 3
  have HR3 : Hid _ := hR3
  have HBB : Hid _ := hbb
  have HM : Hid _ := hM
  clear jc t0 t1 t2 t3 hb3 hA3 hR3 hbb hM HW2
  go_wp2_with fail
  refine js.mono ?_
  rintro e w4 ⟨hb4,bs',gs',N',a1,c1,a2,c2,a3,c3,rfl,hMA,hO⟩
  have hR4 := (hb4.block _ (Array.getElem?_eq_some_iff.1 HR3.out).1).trans HR3.out
  have hrl := (Array.getElem?_eq_some_iff.1 HR3.out).1
  have r0 : w4.cell? ⟨w.heap.size + 1,0,none⟩ = some (.int .i64 0) := q7 hR4 0
  have r1 : w4.cell? ⟨w.heap.size + 1,1,none⟩ = some (.slice none 0 0) := q7 hR4 1
  have r2 : w4.cell? ⟨w.heap.size + 1,2,none⟩ = some (.slice none 0 0) := q7 hR4 2
  have r3 : w4.cell? ⟨w.heap.size + 1,3,none⟩ = some (.slice none 0 0) := q7 hR4 3
  have g0 : w4.frozen? ⟨w.heap.size + 1,0,none⟩ = false := frozen_of_row w4 _ 0 _ _ hR4
  have g1 : w4.frozen? ⟨w.heap.size + 1,1,none⟩ = false := frozen_of_row w4 _ 1 _ _ hR4
  have g2 : w4.frozen? ⟨w.heap.size + 1,2,none⟩ = false := frozen_of_row w4 _ 2 _ _ hR4
  have g3 : w4.frozen? ⟨w.heap.size + 1,3,none⟩ = false := frozen_of_row w4 _ 3 _ _ hR4
  obtain ⟨WF,hWF⟩ : ∃ WF,WF = (((w4.setCell ⟨w.heap.size + 1,0,none⟩ (.int .i64 p)).setCell ⟨w.heap.size + 1,1,none⟩ (.slice a1 bs'.length c1)).setCell ⟨w.heap.size + 1,2,none⟩ (.slice a2 bs'.length c2)).setCell ⟨w.heap.size + 1,3,none⟩ (.slice a3 N'.length c3) := ⟨_,rfl⟩
  have HFN : Hid (WF.heap[w.heap.size + 1]? = some (.cells #[.int .i64 p,.slice a1 bs'.length c1,.slice a2 bs'.length c2,.slice a3 N'.length c3] 26 (0,0))) := by rw [hWF]; exact q3u hR4
  have HE : Hid (Z (.returned (.tuple #[.agg #[.int .i64 p,.slice a1 bs'.length c1,.slice a2 bs'.length c2,.slice a3 N'.length c3],.int .i64 0])) WF) := by
   refine HZ.out _ _ ⟨?_,.inr ⟨HM.out,bs',gs',N',a1,c1,a2,c2,a3,c3,rfl,hMA,?_⟩⟩
   ·rw [hWF]; exact q2E (q6 HBB.out hb4) (by omega)
   ·rw [hWF]; exact (hO.on q6C hrl).base HBB.out.size
  have HWF : Hid _ := hWF
  clear hWF js hb4 hMA hO hR4 hrl s0 s1 s2 s3 HZ
  go_wp2
  rw [← HWF.out]
  have z0 := q7 HFN.out 0
  have z1 := q7 HFN.out 1
  have z2 := q7 HFN.out 2
  have z3 := q7 HFN.out 3
  refine bodyPost_ret (v := .tuple #[.agg #[.int .i64 p,.slice a1 bs'.length c1,.slice a2 bs'.length c2,.slice a3 N'.length c3],.int .i64 0]) ?_ rfl HE.out
  simp at z0 z1 z2 z3
  simp [results,Try.results10,go_sem,z0,z1,z2,z3]
 ·have hR3 := (hb3.block _ (Array.getElem?_eq_some_iff.1 HR2.out).1).trans HR2.out
  have r0 : w3.cell? ⟨w.heap.size + 1,0,none⟩ = some (.int .i64 0) := q7 hR3 0
  have r1 : w3.cell? ⟨w.heap.size + 1,1,none⟩ = some (.slice none 0 0) := q7 hR3 1
  have r2 : w3.cell? ⟨w.heap.size + 1,2,none⟩ = some (.slice none 0 0) := q7 hR3 2
  have r3 : w3.cell? ⟨w.heap.size + 1,3,none⟩ = some (.slice none 0 0) := q7 hR3 3
  have g0 : w3.frozen? ⟨w.heap.size + 1,0,none⟩ = false := frozen_of_row w3 _ 0 _ _ hR3
  have g1 : w3.frozen? ⟨w.heap.size + 1,1,none⟩ = false := frozen_of_row w3 _ 1 _ _ hR3
  have g2 : w3.frozen? ⟨w.heap.size + 1,2,none⟩ = false := frozen_of_row w3 _ 2 _ _ hR3
  have g3 : w3.frozen? ⟨w.heap.size + 1,3,none⟩ = false := frozen_of_row w3 _ 3 _ _ hR3
  obtain ⟨WF,hWF⟩ : ∃ WF,WF = (((w3.setCell ⟨w.heap.size + 1,0,none⟩ (.int .i64 0)).setCell ⟨w.heap.size + 1,1,none⟩ (.slice none 0 0)).setCell ⟨w.heap.size + 1,2,none⟩ (.slice none 0 0)).setCell ⟨w.heap.size + 1,3,none⟩ (.slice none 0 0) := ⟨_,rfl⟩
  have HFN : Hid (WF.heap[w.heap.size + 1]? = some (.cells #[.int .i64 0,.slice none 0 0,.slice none 0 0,.slice none 0 0] 26 (0,0))) := by rw [hWF]; exact q3u hR3
  have HE : Hid (Z (.returned (.tuple #[.agg #[.int .i64 0,.slice none 0 0,.slice none 0 0,.slice none 0 0],.int .i64 12])) WF) := by
   refine HZ.out _ _ ⟨?_,.inl ⟨hM,rfl⟩⟩
   rw [hWF]; exact q2E (q6 HB2.out hb3) (by omega)
  have HWF : Hid _ := hWF
  clear hWF jc hb3 hM hR3 t0 t1 t2 t3 HZ HW2
  go_wp2
  rw [← HWF.out]
  have z0 := q7 HFN.out 0
  have z1 := q7 HFN.out 1
  have z2 := q7 HFN.out 2
  have z3 := q7 HFN.out 3
  refine bodyPost_ret (v := .tuple #[.agg #[.int .i64 0,.slice none 0 0,.slice none 0 0,.slice none 0 0],.int .i64 12]) ?_ rfl HE.out
  simp at z0 z1 z2 z3
  simp [results,Try.results10,go_sem,z0,z1,z2,z3]
theorem zlitP (w : World) (zs : List Int) (hl : zs.length ≤ 1000) : ZSl (w.alloc (.cells (zs.map (Value.int .i64)).toArray 3)) (some ⟨w.heap.size,0,none⟩) zs.length zs.length zs := by
 have h : RowI (w.alloc (.cells (zs.map (Value.int .i64)).toArray 3)) 3 w.heap.size zs := (MapKept.heap_alloc w _).1
 have := RowI.zsl (n := zs.length) h Try.underlying23 qb (Nat.le_refl _) (by unfold maxLen; omega)
 rwa [List.take_of_length_le (Nat.le_refl _)] at this
theorem blitP (w : World) (bs : List Bool) (hl : bs.length ≤ 1000) : BoSl (w.alloc (.cells (bs.map Value.bool).toArray 4)) (some ⟨w.heap.size,0,none⟩) bs.length bs.length bs := by
 have hc := (MapKept.heap_alloc w (.cells (bs.map Value.bool).toArray 4)).1
 refine ⟨rfl,Nat.le_refl _,by unfold maxLen; omega,fun e => (by cases e),fun x hx k hk => ?_⟩
 injection hx with hx; subst hx
 rw [q9,Nat.zero_add,q7 hc]
 simp [List.getElem?_eq_getElem hk]
theorem q5l (w : World) (N : List Gd) (hl : N.length ≤ 1000) (hok : ∀ t ∈ N,GdOk t) : NdSl (w.alloc (.cells (encGd N).toArray 57)) (some ⟨w.heap.size,0,none⟩) N.length N.length N := by
 have hc := (MapKept.heap_alloc w (.cells (encGd N).toArray 57)).1
 have hcell : ∀ j u,(encGd N)[j]? = some u → (w.alloc (.cells (encGd N).toArray 57)).cell? ((⟨w.heap.size,0,none⟩ : Addr).add j) = some u := fun j u hj => by
  rw [q9,Nat.zero_add,q7 hc]; simpa using hj
 refine ⟨rfl,Nat.le_refl _,by unfold maxLen; omega,fun e => (by cases e),fun x hx k hk => ?_,fun x hx k hk => ?_,fun x hx k hk => ?_,hok⟩
 ·injection hx with hx; subst hx; exact hcell _ _ (qg N k hk).1
 ·injection hx with hx; subst hx; exact hcell _ _ (qg N k hk).2.1
 ·injection hx with hx; subst hx; exact hcell _ _ (qg N k hk).2.2
structure PtX (w : World) (g : Nat) : Prop where
 bo : BoSl w (some ⟨g,0,none⟩) 3 3 ptB
 zs : ZSl w (some ⟨g + 1,0,none⟩) 3 3 ptG
 nd : NdSl w (some ⟨g + 2,0,none⟩) 2 2 ptN
theorem PtX.up {w w' : World} {g : Nat} (h : PtX w g) (hb : Below w.heap.size w w') : PtX w' g := ⟨h.bo.up hb,h.zs.up hb,h.nd.up hb⟩
theorem q6S : ∀ z ∈ ptG,I64 z := by
 intro z hz
 simp [ptG] at hz
 exact ⟨by omega,by omega⟩
theorem q6x (w : World) : PtX (((w.alloc (.cells #[.bool false,.bool true,.bool true] 4)).alloc (.cells #[.int .i64 0,.int .i64 1,.int .i64 0] 3)).alloc (.cells #[.int .i64 0,.int .i64 (-1),.int .i64 (-2),.int .i64 0,.int .i64 (-1),.int .i64 (-3)] 57)) w.heap.size := by
 have h1 := blitP w ptB (by decide)
 have h2 := zlitP (w.alloc (.cells #[.bool false,.bool true,.bool true] 4)) ptG (by decide)
 have h3 := q5l ((w.alloc (.cells #[.bool false,.bool true,.bool true] 4)).alloc (.cells #[.int .i64 0,.int .i64 1,.int .i64 0] 3)) ptN (by decide) (fun t ht => by
  simp [ptN] at ht
  rcases ht with rfl | rfl <;> exact ⟨⟨by decide,by decide⟩,⟨by decide,by decide⟩,⟨by decide,by decide⟩⟩)
 have e1 : (w.alloc (.cells #[.bool false,.bool true,.bool true] 4)).heap.size = w.heap.size + 1 := by simp
 have e2 : ((w.alloc (.cells #[.bool false,.bool true,.bool true] 4)).alloc (.cells #[.int .i64 0,.int .i64 1,.int .i64 0] 3)).heap.size = w.heap.size + 2 := by simp
 rw [e1] at h2
 rw [e2] at h3
 exact ⟨(h1.up (q5 _ _)).up (q5 _ _),h2.up (q5 _ _),h3⟩
theorem q5f {w : World} {g : Nat} (h : PtX w g) : Calls Try.prog 10 #[.agg #[.int .i64 1,.slice (some ⟨g,0,none⟩) 3 3,.slice (some ⟨g + 1,0,none⟩) 3 3,.slice (some ⟨g + 2,0,none⟩) 2 2]] w fun e w' => Below w.heap.size w w' ∧ ∃ a1 c1 a2 c2 a3 c3,e = .returned (.tuple #[.agg #[.int .i64 1,.slice a1 2 c1,.slice a2 2 c2,.slice a3 1 c3],.int .i64 0]) ∧ OwA w' w.heap.size a1 c1 a2 c2 a3 c3 cnB cnG cnN := by
 refine (qZ 1 _ 3 3 _ 3 3 _ 2 2 ptB ptN ptG w h.bo h.nd h.zs q6S).mono ?_
 rintro e w' ⟨hb,⟨hM,_⟩ | ⟨_,bs',gs',N',a1,c1,a2,c2,a3,c3,rfl,hMA,hO⟩⟩
 ·exact absurd q6T hM
 ·obtain ⟨rfl,rfl,rfl⟩ := q6J hMA
  exact ⟨hb,a1,c1,a2,c2,a3,c3,rfl,hO⟩
theorem cn_ok : ∀ t ∈ cnN,GdOk t := fun t ht => by
 simp [cnN] at ht
 subst ht
 exact ⟨⟨by decide,by decide⟩,⟨by decide,by decide⟩,⟨by decide,by decide⟩⟩
theorem q4R (w2 : World) (a1 : Option Addr) (c1 : Nat) (a2 : Option Addr) (c2 : Nat) (a3 : Option Addr) (c3 : Nat) (base : Nat) (hO : OwA w2 base a1 c1 a2 c2 a3 c3 cnB cnG cnN) :
  Calls Try.prog 13 #[.agg #[.int .i64 1,.slice a1 2 c1,.slice a2 2 c2,.slice a3 1 c3],.agg #[.int .i64 1,.slice (some ⟨w2.heap.size,0,none⟩) 2 2,.slice (some ⟨w2.heap.size + 1,0,none⟩) 2 2,.slice (some ⟨w2.heap.size + 1 + 1,0,none⟩) 1 1]] (((w2.alloc (.cells #[.bool false,.bool true] 4)).alloc (.cells #[.int .i64 0,.int .i64 0] 3)).alloc (.cells #[.int .i64 0,.int .i64 (-1),.int .i64 (-2)] 57)) fun e w' => e = .returned (.bool true) ∧ Below w2.heap.size w2 w' := by
 have h1 := blitP w2 cnB (by decide)
 have h2 := zlitP (w2.alloc (.cells #[.bool false,.bool true] 4)) cnG (by decide)
 have h3 := q5l ((w2.alloc (.cells #[.bool false,.bool true] 4)).alloc (.cells #[.int .i64 0,.int .i64 0] 3)) cnN (by decide) cn_ok
 have e1 : (w2.alloc (.cells #[.bool false,.bool true] 4)).heap.size = w2.heap.size + 1 := by simp
 have e2 : ((w2.alloc (.cells #[.bool false,.bool true] 4)).alloc (.cells #[.int .i64 0,.int .i64 0] 3)).heap.size = w2.heap.size + 1 + 1 := by simp
 rw [e1] at h2
 rw [e2] at h3
 have hb3 : Below w2.heap.size w2 (((w2.alloc (.cells #[.bool false,.bool true] 4)).alloc (.cells #[.int .i64 0,.int .i64 0] 3)).alloc (.cells #[.int .i64 0,.int .i64 (-1),.int .i64 (-2)] 57)) := q6 (q6 (q5 w2 _) (q5 _ _)) (q5 _ _)
 have hO3 := hO.up hb3
 exact (q2V 1 a1 2 c1 a2 2 c2 a3 1 c3 _ 2 _ 2 _ 1 cnB cnG cnN _ hO3.bo hO3.zs hO3.nd ((h1.up (q5 _ _)).up (q5 _ _)) (h2.up (q5 _ _)) h3).mono fun e w' ⟨q1,q2⟩ => ⟨q1,q6 hb3 q2⟩
theorem q2L (w : World) : Calls Try.prog 24 #[] w fun e w' => e = .returned (.bool true) ∧ Below w.heap.size w w' := by
 have hx := q6x w
 have hb3 : Below w.heap.size w (((w.alloc (.cells #[.bool false,.bool true,.bool true] 4)).alloc (.cells #[.int .i64 0,.int .i64 1,.int .i64 0] 3)).alloc (.cells #[.int .i64 0,.int .i64 (-1),.int .i64 (-2),.int .i64 0,.int .i64 (-1),.int .i64 (-3)] 57)) := q6 (q6 (q5 w _) (q5 _ _)) (q5 _ _)
 have hb4 := q6 hb3 (q5 _ (.cells #[.int .i64 1,.slice (some ⟨w.heap.size,0,none⟩) 3 3,.slice (some ⟨w.heap.size + 1,0,none⟩) 3 3,.slice (some ⟨w.heap.size + 2,0,none⟩) 2 2] 26 (0,0)))
 have HB4 : Hid _ := hb4
 have hx4 := hx.up (q5 _ (.cells #[.int .i64 1,.slice (some ⟨w.heap.size,0,none⟩) 3 3,.slice (some ⟨w.heap.size + 1,0,none⟩) 3 3,.slice (some ⟨w.heap.size + 2,0,none⟩) 2 2] 26 (0,0)))
 have jc := q5f hx4
 have ha := qd (((w.alloc (.cells #[.bool false,.bool true,.bool true] 4)).alloc (.cells #[.int .i64 0,.int .i64 1,.int .i64 0] 3)).alloc (.cells #[.int .i64 0,.int .i64 (-1),.int .i64 (-2),.int .i64 0,.int .i64 (-1),.int .i64 (-3)] 57)) 1 (some ⟨w.heap.size,0,none⟩) 3 3 (some ⟨w.heap.size + 1,0,none⟩) 3 3 (some ⟨w.heap.size + 2,0,none⟩) 2 2
 clear hx hb3 hb4 hx4
 go_enter Try.func24,Try.ntmps24
 go_wp2_with fail
 refine jc.mono ?_
 rintro e w2 ⟨hb2,a1,c1,a2,c2,a3,c3,rfl,hO⟩
 have hb5 := q5 w2 (.cells #[.int .i64 1,.slice a1 2 c1,.slice a2 2 c2,.slice a3 1 c3] 26 (0,0))
 have js := q4R _ a1 c1 a2 c2 a3 c3 _ (hO.up hb5)
 rw [qy] at js
 obtain ⟨f0,f1,f2,f3⟩ := qd w2 1 a1 2 c1 a2 2 c2 a3 1 c3
 have HB5 : Hid (Below w.heap.size w (w2.alloc (.cells #[.int .i64 1,.slice a1 2 c1,.slice a2 2 c2,.slice a3 1 c3] 26 (0,0)))) := q6 (q6 HB4.out hb2) hb5
 clear jc hb2 hO ha HB4 hb5
 go_wp2_with fail
 refine js.mono ?_
 rintro e w3 ⟨rfl,hb3⟩
 have HB3 : Hid (Below w.heap.size w w3) := q6 HB5.out (by simpa using hb3)
 clear js hb3
 go_wp2
 go_ret
 exact ⟨rfl,HB3.out⟩
def smB (p : Int) (nA nG nN : Nat) : Bool := decide (nA ≤ 24) && decide (p ≤ 4) && decide (nN ≤ 400) && decide (nG ≤ 300)
theorem q1o (p : Int) (aA : Option Addr) (nA cA : Nat) (aG : Option Addr) (nG cG : Nat) (aN : Option Addr) (nN cN : Nat) (w : World) :
  Calls Try.prog 8 #[.agg #[.int .i64 p,.slice aA nA cA,.slice aG nG cG,.slice aN nN cN]] w fun e w' => e = .returned (.bool (smB p nA nG nN)) ∧ Below w.heap.size w w' := by
 have HB0 : Hid _ := q5 w (.cells #[.int .i64 p,.slice aA nA cA,.slice aG nG cG,.slice aN nN cN] 26 (0,0))
 obtain ⟨c0,c1,c2,c3⟩ := qd w p aA nA cA aG nG cG aN nN cN
 have HE : Hid (∀ b,b = smB p nA nG nN → (Ending.returned (.bool b) = .returned (.bool (smB p nA nG nN)))) := fun b h => by rw [h]
 by_cases h1 : nA ≤ 24
 ·have h1' : (nA : Int) ≤ 24 := by omega
  by_cases h2 : p ≤ 4
  ·by_cases h3 : nN ≤ 400
   ·have h3' : (nN : Int) ≤ 400 := by omega
    by_cases h4 : nG ≤ 300
    ·have h4' : (nG : Int) ≤ 300 := by omega
     have HF : Hid _ := HE.out true (by simp [smB,h1,h2,h3,h4])
     clear HE
     go_enter Try.func8,Try.ntmps8
     go_wp2
     go_ret
     exact ⟨HF.out,HB0.out⟩
    ·have h4' : ¬ (nG : Int) ≤ 300 := by omega
     have HF : Hid _ := HE.out false (by simp [smB,h4])
     clear HE
     go_enter Try.func8,Try.ntmps8
     go_wp2
     go_ret
     exact ⟨HF.out,HB0.out⟩
   ·have h3' : ¬ (nN : Int) ≤ 400 := by omega
    have HF : Hid _ := HE.out false (by simp [smB,h3])
    clear HE
    go_enter Try.func8,Try.ntmps8
    go_wp2
    go_ret
    exact ⟨HF.out,HB0.out⟩
  ·have HF : Hid _ := HE.out false (by simp [smB,h2])
   clear HE
   go_enter Try.func8,Try.ntmps8
   go_wp2
   go_ret
   exact ⟨HF.out,HB0.out⟩
 ·have h1' : ¬ (nA : Int) ≤ 24 := by omega
  have HF : Hid _ := HE.out false (by simp [smB,h1])
  clear HE
  go_enter Try.func8,Try.ntmps8
  go_wp2
  go_ret
  exact ⟨HF.out,HB0.out⟩
def encD (T : List (Nat × Nat)) : List Value := T.flatMap fun x => [.int .i64 (x.1 : Int),.int .i64 (x.2 : Int)]
theorem q3c (t : Nat × Nat) (T : List (Nat × Nat)) : encD (t :: T) = .int .i64 (t.1 : Int) :: .int .i64 (t.2 : Int) :: encD T := rfl
theorem q5H (X Y : List (Nat × Nat)) : encD (X ++ Y) = encD X ++ encD Y := by simp [encD]
theorem q46 : ∀ T : List (Nat × Nat),(encD T).length = T.length * 2
 | [] => rfl
 | t :: T => by rw [q3c]; simp [q46 T]; omega
theorem q45 : ∀ (T : List (Nat × Nat)) (k : Nat) (x : Nat × Nat),T[k]? = some x → (encD T)[2 * k]? = some (.int .i64 (x.1 : Int)) ∧ (encD T)[2 * k + 1]? = some (.int .i64 (x.2 : Int))
 | [],k,x,h => by simp at h
 | t :: T,0,x,h => by simp at h; subst h; exact ⟨rfl,rfl⟩
 | t :: T,k + 1,x,h => by
  have := q45 T k x (by simpa using h)
  rw [q3c,show 2 * (k + 1) = 2 * k + 1 + 1 by omega,show 2 * k + 1 + 1 + 1 = (2 * k + 1) + 1 + 1 by omega]
  simpa using this
theorem q4T : (Try.prog.info? 54).map (fun i => (i.zero,i.size,i.bytes)) = some (some (.agg #[.int .i64 0,.int .i64 0]),2,16) := by kernel_rfl
theorem q4Y : (Try.prog.info? 54).map (·.size) = some 2 := by kernel_rfl
theorem q1n {P : Program} {e : TypeId} {k : Nat} (h : (P.info? e).map (·.size) = some k) (w : World) : (sizeOf e).run P w = .ok k w := by
 cases hq : P.info? e with
 | none => simp [hq] at h
 | some i => simp [hq] at h; simp [sizeOf,typeInfo,hq,h]
abbrev P2O (w : World) (base : Nat) (v : Value) (m : Nat) (T : List (Nat × Nat)) : Prop := w.ownsRow base 54 2 v m (encD T)
theorem P2O.len {w : World} {base m : Nat} {v : Value} {T : List (Nat × Nat)} (h : P2O w base v m T) : T.length = m := by
 have := h.1
 rw [q46] at this
 omega
theorem P2O.at {w : World} {base m : Nat} {v : Value} {T : List (Nat × Nat)} (h : P2O w base v m T) {i : Nat} {x : Nat × Nat} (hx : T[i]? = some x) :
  ∃ g cap oo,v = .slice (some ⟨g,0,none⟩) m cap ∧ (∀ w',(Instr.indexAt 55 (.slice (some ⟨g,0,none⟩) m cap) (.int .i64 (i : Int))).run Try.prog w' = .ok (.pointer (some ⟨g,oo,none⟩)) w') ∧ w.cell? ⟨g,oo,none⟩ = some (.int .i64 (x.1 : Int)) ∧ w.cell? ⟨g,oo + 1,none⟩ = some (.int .i64 (x.2 : Int)) := by
 have hl := h.len
 have hi : i < m := by have := (List.getElem?_eq_some_iff.1 hx).1; omega
 rcases h.2 with ⟨_,h0⟩ | ⟨g,cap,cur,rfl,hg,hcell,hnc,hcm,hsz,htk⟩
 ·omega
 ·have key : ∀ j,j < m * 2 → w.cell? ⟨g,j,none⟩ = (encD T)[j]? := fun j hj => by
   rw [← htk,List.getElem?_take,if_pos hj]
   simp [World.cell?,hcell]
  obtain ⟨e0,e1⟩ := q45 T i x hx
  refine ⟨g,cap,2 * i,rfl,fun w' => ?_,?_,?_⟩
  ·simp [Instr.indexAt,run_underlying Try.underlying55,asIntOf,q1n q4Y,hi,Result.andThen,go_sem,q9,Nat.mul_comm]
  ·rw [key _ (by omega),e0]
  ·rw [key _ (by omega),e1]
theorem q5c (g o : Nat) (w : World) : (Instr.indexAt 54 (.pointer (some ⟨g,o,none⟩)) (.int .i64 0)).run Try.prog w = .ok (.pointer (some ⟨g,o,none⟩)) w := by
 simp [Instr.indexAt,run_underlying Try.underlying54,asIntOf,q1n qb,Result.andThen,go_sem]
theorem q5d (g o : Nat) (w : World) : (Instr.indexAt 54 (.pointer (some ⟨g,o,none⟩)) (.int .i64 1)).run Try.prog w = .ok (.pointer (some ⟨g,o + 1,none⟩)) w := by
 simp [Instr.indexAt,run_underlying Try.underlying54,asIntOf,q1n qb,Result.andThen,go_sem,q9]
theorem q3w {w : World} {ops : Array Oper} {rest : List Oper} {o : Oper} {a : Act} {Q : Exit → Act → World → Prop} (hgd : o.guard = none) (s x : Operand)
  (ho : o.op = .call { callee := .builtin .append,args := #[s,x],argTypes := #[55,55] }) (base : Nat)
  (v : Value) (n : Nat) (T : List (Nat × Nat)) (y : Nat × Nat) (hs : a.eval s = v) (g' : Nat) (hx : a.eval x = .slice (some ⟨g',0,none⟩) 1 1) (hown : P2O w base v n T) (hB : w.heap[g']? = some (.cells #[.int .i64 (y.1 : Int),.int .i64 (y.2 : Int)] 54 (0,0)))
  (hn : n + 1 ≤ 2000000) (hbase : base ≤ w.heap.size)
  (h : ∀ v' w',P2O w' base v' (n + 1) (T ++ [y]) → w.grownBy w' v.ownBlock → wpList Try.prog ops Q rest (a.put o.dst v') w') : wpList Try.prog ops Q (o :: rest) a w := by
 obtain ⟨i,hi,hz0,hz1,hz2⟩ := info_parts q4T
 refine wpList_append_own w hgd s x 55 ho base 54 i _ 2 16 Try.underlying55 hi hz0 hz1 hz2 rfl (by decide) v n _ hs hown ⟨g',0,none⟩ 1 1 [.int .i64 (y.1 : Int),.int .i64 (y.2 : Int)] hx rfl ?_ (fun u hu => by simp at hu; rcases hu with rfl | rfl <;> rfl) (by unfold maxLen; omega) (by omega) hbase ?_
 ·intro j u hj
  rw [q9,Nat.zero_add,q7 hB]
  match j with
  | 0 => simpa using hj
  | 1 => simpa using hj
  | j + 2 => simp at hj
 ·intro v' w' h1 h2 _
  exact h v' w' (by rw [P2O,q5H]; exact h1) h2
structure OneM (wz wr : World) (g M n' : Nat) (v : Value) (T : List (Nat × Nat)) : Prop where
 met : MeS wr g M (T.map (prN n'))
 own : P2O wr (g + 1) v T.length T
 bel : Below wz.heap.size wz wr
 gz : wz.heap.size ≤ g
theorem OneM.up {wz wr w' : World} {g M n' : Nat} {v : Value} {T : List (Nat × Nat)} (h : OneM wz wr g M n' v T) (hb : Below wr.heap.size wr w') : OneM wz w' g M n' v T := ⟨h.met.up hb,qi h.own hb,q6 h.bel hb,h.gz⟩
theorem OneM.push {wz wr w7 : World} {g M n' : Nat} {v v7 : Value} {T : List (Nat × Nat)} (h : OneM wz wr g M n' v T) {y : Nat × Nat} (hs : prN n' y < M) {o : Obj} (hq : P2O w7 (g + 1) v7 (T.length + 1) (T ++ [y])) (hg : ((wr.setCell ⟨g,prN n' y,none⟩ (.bool true)).alloc o).grownBy w7 v.ownBlock) :
  OneM wz w7 g M n' v7 (T ++ [y]) := by
 have hge : ∀ b,v.ownBlock = some b → g + 1 ≤ b := qp h.own
 have hgl := h.met.lt
 have hmet := h.met.put hs
 have hmet2 := hmet.up (q5 _ o)
 refine ⟨?_,by rw [List.length_append]; exact hq,?_,h.gz⟩
 ·rw [List.map_append]
  exact hmet2.far (hg.block g hmet2.lt (fun e => by have := hge g e.symm; omega))
 ·have h1 : Below wz.heap.size wz (wr.setCell ⟨g,prN n' y,none⟩ (.bool true)) := h.bel.setCell (by dsimp only; exact h.gz) _
  have h2 := h1.alloc h1.size o
  exact h2.grown hg h2.size (fun q e => by have := hge q e; have := h.gz; omega)
theorem MnnR.uni {p : Int} {nA : Nat} {bs : List Bool} {N : List Gd} {gs : List Int} {w : World} {e : Ending} {w' : World} (h : MnnR p nA bs N gs w e w') : Below w.heap.size w w' ∧ ∃ (y0 : Int) (a1 : Option Addr) (n1 c1 : Nat) (a2 : Option Addr) (n2 c2 : Nat) (a3 : Option Addr) (n3 c3 : Nat) (r : Int),e = .returned (.tuple #[.agg #[.int .i64 y0,.slice a1 n1 c1,.slice a2 n2 c2,.slice a3 n3 c3],.int .i64 r]) ∧
  ((r = 12 ∧ ¬ MayG p nA N gs) ∨ (r = 0 ∧ MayG p nA N gs ∧ y0 = p ∧ ∃ bs' gs' N',n1 = bs'.length ∧ n2 = bs'.length ∧ n3 = N'.length ∧ MinA p nA bs N gs bs' gs' N' ∧ OwA w' w.heap.size a1 c1 a2 c2 a3 c3 bs' gs' N')) := by
 obtain ⟨hb,⟨hM,rfl⟩ | ⟨hM,bs',gs',N',a1,c1,a2,c2,a3,c3,rfl,hMA,hO⟩⟩ := h
 ·exact ⟨hb,0,none,0,0,none,0,0,none,0,0,12,rfl,.inl ⟨rfl,hM⟩⟩
 ·exact ⟨hb,p,a1,_,c1,a2,_,c2,a3,_,c3,0,rfl,.inr ⟨rfl,hM,rfl,bs',gs',N',rfl,rfl,rfl,hMA,hO⟩⟩
end Go.Proofs.Ytehddcdgpamaaaa
