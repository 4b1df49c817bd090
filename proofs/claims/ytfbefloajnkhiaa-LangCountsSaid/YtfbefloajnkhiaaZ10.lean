/- Texts of the proof, put together: what it uses. -/
import Derived.Laws.Externs
import Derived.Lib.QuietBelow
import Derived.BigQuiet
import Derived.Test.YtfbefloajnkhiaaZ00
import Derived.Test.YtfbefloajnkhiaaZ02
import Derived.Test.YtfbefloajnkhiaaZ08
import Derived.Test.YtfbefloajnkhiaaZ09
set_option maxRecDepth 100000
set_option maxHeartbeats 16000000
namespace Go.Proofs.Ytfbefloajnkhiaa
open Go.RowKit Go.Maps Go.Sort
def AccA (p : Int) (nA : Nat) (N : List Gd) (gs : List Int) (bs : List Bool) (ts : List Nat) (v : Bool) (r : Int) : Prop :=
 (¬ MayG p nA N gs ∧ v = false ∧ r = 12) ∨ (MayG p nA N gs ∧ traceE p (ts.map Int.ofNat) ≠ 0 ∧ v = false ∧ r = traceE p (ts.map Int.ofNat)) ∨
  (MayG p nA N gs ∧ traceE p (ts.map Int.ofNat) = 0 ∧ v = bs.getD (runP (rowsG N gs (2 ^ p.toNat)) 0 ts) false ∧ r = 0)
def AccR (p : Int) (nA : Nat) (N : List Gd) (gs : List Int) (bs : List Bool) (ts : List Nat) (w : World) (e : Ending) (w' : World) : Prop := Below w.heap.size w w' ∧ ∃ v r,e = .returned (.tuple #[.bool v,.int .i64 r]) ∧ AccA p nA N gs bs ts v r
theorem qH (p : Int) (aA : Option Addr) (nA cA : Nat) (aG : Option Addr) (nG cG : Nat) (aN : Option Addr) (nN cN : Nat) (bs : List Bool) (N : List Gd) (gs : List Int) (d : Option Addr) (m c : Nat) (ts : List Nat) (w : World) (hB : BoSl w aA nA cA bs) (hN : NdSl w aN nN cN N) (hG : ZSl w aG nG cG gs) (hok : ∀ z ∈ gs,I64 z) (hL : LtC w d m c ts) :
  Calls Try.prog 11 #[.agg #[.int .i64 p,.slice aA nA cA,.slice aG nG cG,.slice aN nN cN],.slice d m c] w (AccR p nA N gs bs ts w) := by
 obtain ⟨Z,eZ⟩ : ∃ Z,Z = AccR p nA N gs bs ts w := ⟨_,rfl⟩
 have HZ : Hid (∀ v r w',Below w.heap.size w w' → AccA p nA N gs bs ts v r → Z (.returned (.tuple #[.bool v,.int .i64 r])) w') := fun v r w' hb h => by rw [eZ]; exact ⟨hb,v,r,rfl,h⟩
 rw [← eZ]
 clear eZ
 have hb0 := q6 w (.cells #[.int .i64 p,.slice aA nA cA,.slice aG nG cG,.slice aN nN cN] 26 (0,0))
 have HB0 : Hid _ := hb0
 have HV0 : Hid _ := qd w p aA nA cA aG nG cG aN nN cN
 obtain ⟨c0,c1,c2,c3⟩ := HV0.out
 have HBS : Hid _ := hB
 have HN : Hid _ := hN
 have HG : Hid _ := hG
 have HL : Hid _ := hL
 have HLN : Hid (ts.length = m) := by have := hL.hlen; rwa [List.length_map] at this
 have hmb := Nat.le_trans hL.hcap hL.bd
 unfold maxLen at hmb
 have jc := qE p aA nA cA aG nG cG aN nN cN N gs _ (hN.up hb0) (hG.up hb0) hok
 have jt := fun w' (hb : Below w.heap.size w w') => qI p d m c (ts.map Int.ofNat) w' (hL.up hb)
 clear hN hG hok hb0 hL hB
 go_enter Try.func11,Try.ntmps11
 go_wp2_with fail
 refine jc.mono ?_
 rintro e w2 ⟨hb2,v,rfl,⟨rfl,hM⟩ | ⟨rfl,hM⟩⟩
 ·have HV2 : Hid _ := HV0.out.up hb2
  obtain ⟨d0,d1,d2,d3⟩ := HV2.out
  have hbb := q5 HB0.out hb2
  have HBB : Hid _ := hbb
  have jt := jt w2 hbb
  have h256 := hM.s2
  have h1n := hM.s1
  have hk256 := hM.k256
  by_cases hE : traceE p (ts.map Int.ofNat) = 0
  ·rw [hE] at jt
   have HT : Hid _ := q2F hM hE
   have HM : Hid _ := hM
   have HR : Hid _ := hM.rows (2 ^ p.toNat)
   have HEn : Hid (∀ w',Below w.heap.size w w' → Z (.returned (.tuple #[.bool (bs.getD (runP (rowsG N gs (2 ^ p.toNat)) 0 ts) false),.int .i64 0])) w') := fun w' hb => HZ.out _ _ w' hb (.inr (.inr ⟨hM,hE,rfl,rfl⟩))
   have HnG : Hid (nG = nA) := HG.out.hlen.symm.trans hM.len
   clear jc c0 c1 c2 c3 HZ HV0 hb2 hbb hE hM
   go_wp2_with (go_at_call 9; (with_reducible refine jt.mono ?_); rintro e w' ⟨rfl,hw1⟩; obtain rfl := hw1.symm)
   clear d0 d1 d2 d3 jt
   go_loopw [8,25] (fun v j wr => ∃ (i q : Nat),i ≤ m ∧ j = .int .i64 (i : Int) ∧ v = .int .i64 (q : Int) ∧ Hid (Below w2.heap.size w2 wr ∧ q < nA ∧ q = runP (rowsG N gs (2 ^ p.toNat)) 0 (ts.take i))) (fun _ j _ => m - (intOf j).toNat)
   case atStart => exact ⟨0,0,Nat.zero_le _,rfl,rfl,Below.refl _ _,by omega,rfl⟩
   case round =>
    obtain ⟨i,q,hi,rfl,rfl,HI⟩ := hrel
    have hq := HI.out.2.1
    have hbw := q5 HBB.out HI.out.1
    obtain ⟨c0,c1,c2,c3⟩ := HV2.out.up HI.out.1
    by_cases hlt : i < m
    ·have hit : i < ts.length := by have := HLN.out; omega
     have hS := HL.out.up hbw
     have hixl := fun w' => hS.idx m i w' hlt (Nat.le_refl _)
     have hcl := hS.cell i hlt
     rw [qi hit] at hcl
     have hzn : ts.getD i 0 < 2 ^ p.toNat := HT.out _ (q2y hit)
     have hv2 := HR.out.lt q (ts.getD i 0) hq hzn
     have hqG : q < nG := by have := HnG.out; omega
     have hixg := fun w' => HG.out.idx nG q w' hqG (Nat.le_refl _)
     have hcg := (HG.out.up hbw).cell q hqG
     have hv1 := HM.out.tr (K := 2 ^ p.toNat) (s := q) (x := ts.getD i 0) hq hzn
     have hi64 := q3l HM.out (q := q) (by have h2 := HM.out.len; omega)
     have hz256 : ts.getD i 0 < 256 := by omega
     have hN1 := HN.out.up hbw
     have cS : ∀ d os,Calls Try.prog 19 #[.slice aN nN cN,.int .i64 (gs.getD q 0),.int .u8 ((ts.getD i 0 : Nat) : Int)] (grow (redrawn wr d) os) fun e w'' => e = .returned (.tuple #[.int .i64 ((trP (rowsG N gs (2 ^ p.toNat)) q (ts.getD i 0) : Nat) : Int),.bool true]) ∧ ∃ p : Regrown,w'' = grow (redrawn wr p.d) p.os := fun d os => by
      have hb := below_regrown wr d os
      refine (qU aN nN cN N (gs.getD q 0) (ts.getD i 0) _ (hN1.up hb) hi64 hz256).mono ?_
      rintro e w'' ⟨rfl,h2⟩
      rw [hv1]
      exact ⟨rfl,regrown_of_below (q5 hb h2)⟩
     have HI2 : Hid (∀ d os,Below w2.heap.size w2 (grow (redrawn wr d) os) ∧ trP (rowsG N gs (2 ^ p.toNat)) q (ts.getD i 0) < nA ∧ trP (rowsG N gs (2 ^ p.toNat)) q (ts.getD i 0) = runP (rowsG N gs (2 ^ p.toNat)) 0 (ts.take (i + 1))) := fun d os => ⟨q5 HI.out.1 (below_regrown wr d os),hv2,by
      rw [q2D hit,ql,← HI.out.2.2]⟩
     have dq0 : decide ((q : Int) < 0) = false := by simp
     have dq1 : decide (nG ≤ q) = false := by simp; exact hqG
     have k2 := cell_regrown c2
     have k3 := cell_regrown c3
     have kg := cell_regrown hcg
     clear hS HI hv2 hzn hbw hi64 hN1 hv1 hcg c0 c1 c2 c3 HEn
     generalize trP (rowsG N gs (2 ^ p.toNat)) q (ts.getD i 0) = v at *
     generalize ts.getD i 0 = z at *
     generalize gs.getD q 0 = rq at *
     generalize adOf aG q = ag at *
     obtain ⟨ag1,ag2,ag3⟩ := ag
     generalize adOf d i = ad at *
     obtain ⟨ad1,ad2,ad3⟩ := ad
     go_wp2_with fail
     refine wp_region_quiet_below (by kernel_rfl) (by kernel_rfl) ?_
     repeat (go_big_quiet_step (exact cS _ _))
     refine wpQuiet_nil ?_
     intro _ hw'
     obtain ⟨⟨dq,osq⟩,hw''⟩ := hw'
     subst hw''
     have HI3 : Hid _ := HI2.out dq osq
     generalize grow (redrawn wr dq) osq = wx at *
     clear cS k2 k3 kg HI2
     go_wp2
     go_roundw
     case rel => exact ⟨i + 1,_,by omega,by go_num,rfl,HI3⟩
     case measure => simp [intOf] <;> omega
    ·obtain rfl : i = m := by omega
     have hfin : q = runP (rowsG N gs (2 ^ p.toNat)) 0 ts := by rw [HI.out.2.2,List.take_of_length_le (by rw [HLN.out]; exact Nat.le_refl _)]
     have HR2 : Hid _ := HEn.out wr hbw
     rw [← hfin] at HR2
     obtain ⟨ib1,cb1⟩ := (HBS.out.up hbw).at q hq
     have ib1 := fun w' => ib1 nA w' hq
     have hbl := HBS.out.hlen
     have gb1 : bs.getD q false = bs[q] := by rw [List.getD_eq_getElem?_getD,List.getElem?_eq_getElem (by omega)]; rfl
     rw [gb1] at HR2
     generalize bs[q] = y at *
     generalize adOf aA q = ad at *
     obtain ⟨ad1,ad2,ad3⟩ := ad
     clear HI hfin hbw HEn c0 c2 c3 gb1 hbl
     go_wp2
     exact HR2.out
  ·have HEn : Hid _ := HZ.out false (traceE p (ts.map Int.ofNat)) w2 hbb (.inr (.inl ⟨hM,hE,rfl,rfl⟩))
   have hE2 : ((traceE p (ts.map Int.ofNat)) == 0) = false := by simpa using hE
   clear jc c0 c1 c2 c3 HZ HV0 hb2 hbb hM
   generalize traceE p (ts.map Int.ofNat) = r at *
   go_wp2_with (go_at_call 9; (with_reducible refine jt.mono ?_); rintro e w' ⟨rfl,hw1⟩; obtain rfl := hw1.symm)
   exact HEn.out
 ·have HEn : Hid _ := HZ.out false 12 w2 (q5 HB0.out hb2) (.inl ⟨hM,rfl,rfl⟩)
  clear jc jt HZ hM
  go_wp2
  exact HEn.out
def ShoA (p : Int) (nA : Nat) (N : List Gd) (gs : List Int) (bs : List Bool) (ts : List Nat) (is : Bool) (r : Int) : Prop :=
 (¬ MayG p nA N gs ∧ ts = [] ∧ is = false ∧ r = 12) ∨ (MayG p nA N gs ∧ bs.getD 0 false = true ∧ ts = [] ∧ is = true ∧ r = 0) ∨
  (MayG p nA N gs ∧ bs.getD 0 false = false ∧ FirA nA (2 ^ p.toNat) (rowsG N gs (2 ^ p.toNat)) bs true ts is ∧ r = 0)
def TolR (A : List Nat → Bool → Int → Prop) (w : World) (e : Ending) (w' : World) : Prop := Below w.heap.size w w' ∧ ∃ ts is r a c,e = .returned (.tuple #[.slice a ts.length c,.bool is,.int .i64 r]) ∧ w'.ownsRow w.heap.size 52 1 (.slice a ts.length c) ts.length (ltV ts) ∧ A ts is r
theorem q1p (p : Int) (aA : Option Addr) (nA cA : Nat) (aG : Option Addr) (nG cG : Nat) (aN : Option Addr) (nN cN : Nat) (bs : List Bool) (N : List Gd) (gs : List Int) (w : World) (hB : BoSl w aA nA cA bs) (hN : NdSl w aN nN cN N) (hG : ZSl w aG nG cG gs) (hok : ∀ z ∈ gs,I64 z) :
  Calls Try.prog 12 #[.agg #[.int .i64 p,.slice aA nA cA,.slice aG nG cG,.slice aN nN cN]] w (TolR (ShoA p nA N gs bs) w) := by
 obtain ⟨Z,eZ⟩ : ∃ Z,Z = TolR (ShoA p nA N gs bs) w := ⟨_,rfl⟩
 have HZ : Hid (∀ ts is r w' a L c,L = ts.length → Below w.heap.size w w' → w'.ownsRow w.heap.size 52 1 (.slice a L c) L (ltV ts) → ShoA p nA N gs bs ts is r → Z (.returned (.tuple #[.slice a L c,.bool is,.int .i64 r])) w') := fun ts is r w' a L c hL hb h1 h2 => by subst hL; rw [eZ]; exact ⟨hb,ts,is,r,a,c,rfl,h1,h2⟩
 rw [← eZ]
 clear eZ
 have hb0 := q6 w (.cells #[.int .i64 p,.slice aA nA cA,.slice aG nG cG,.slice aN nN cN] 26 (0,0))
 have HB0 : Hid _ := hb0
 obtain ⟨c0,c1,c2,c3⟩ := qd w p aA nA cA aG nG cG aN nN cN
 have HBS : Hid _ := hB
 have jl := qm p aA nA cA aG nG cG aN nN cN bs N gs _ (hB.up hb0) (hN.up hb0) (hG.up hb0) hok
 clear hN hG hok hb0 hB
 go_enter Try.func12,Try.ntmps12
 go_wp2_with fail
 refine jl.mono ?_
 rintro e w2 ⟨hb2,⟨hM,rfl⟩ | ⟨hM,aT,cT,rfl,hS⟩⟩
 ·have HE : Hid _ := HZ.out [] false 12 (w2.alloc (.cells #[.slice none 0 0,.slice none 0 0] 62 (0,0))) none 0 0 rfl (q5 (q5 HB0.out hb2) (q6 _ _)) ⟨rfl,.inl ⟨rfl,rfl⟩⟩ (.inl ⟨hM,rfl,rfl,rfl⟩)
  clear HZ jl hM
  go_wp2
  go_ret3
  exact HE.out
 ·have h256 := hM.s2
  have h1n := hM.s1
  have hk256 := hM.k256
  have hb3 := q6 w2 (.cells #[.slice aA nA cA,.slice aT nA cT] 62 (0,0))
  have HB3 : Hid (Below w.heap.size w (w2.alloc (.cells #[.slice aA nA cA,.slice aT nA cT] 62 (0,0)))) := q5 (q5 HB0.out hb2) hb3
  have hS3 := hS.up hb3
  have m0 := (qa w2 (.slice aA nA cA) (.slice aT nA cT)).c0
  have m1 := (qa w2 (.slice aA nA cA) (.slice aT nA cT)).c1
  have jf := q26 aA cA aT cT nA (2 ^ p.toNat) bs (rowsG N gs (2 ^ p.toNat)) true _ hS3 (hM.rows _) hk256 (by omega) h256
  obtain ⟨ib1,cb1⟩ := (HBS.out.up HB3.out).at 0 (by omega)
  have ib1 := fun w' => ib1 nA w' (by omega)
  have hbl := HBS.out.hlen
  have gb1 : bs.getD 0 false = bs[0] := by rw [List.getD_eq_getElem?_getD,List.getElem?_eq_getElem (by omega)]; rfl
  have ib1 : ∀ w',(Instr.indexAt 22 (.slice aA nA cA) (.int .i64 0)).run Try.prog w' = .ok (.pointer (some (adOf aA 0))) w' := ib1
  cases hy : bs[0] with
  | true =>
   have HE : Hid _ := HZ.out [] true 0 (w2.alloc (.cells #[.slice aA nA cA,.slice aT nA cT] 62 (0,0))) none 0 0 rfl HB3.out ⟨rfl,.inl ⟨rfl,rfl⟩⟩ (.inr (.inl ⟨hM,by rw [gb1,hy],rfl,rfl,rfl⟩))
   rw [hy] at cb1
   clear HZ jl jf hM hS hS3 hb2 hb3 gb1 hy
   generalize adOf aA 0 = ad at *
   obtain ⟨ad1,ad2,ad3⟩ := ad
   go_wp2
   go_ret3
   exact HE.out
  | false =>
   have HZZ : Hid (∀ ts is w5 a5 c5,Below (w2.alloc (.cells #[.slice aA nA cA,.slice aT nA cT] 62 (0,0))).heap.size (w2.alloc (.cells #[.slice aA nA cA,.slice aT nA cT] 62 (0,0))) w5 → FirA nA (2 ^ p.toNat) (rowsG N gs (2 ^ p.toNat)) bs true ts is → w5.ownsRow (w2.alloc (.cells #[.slice aA nA cA,.slice aT nA cT] 62 (0,0))).heap.size 52 1 (.slice a5 ts.length c5) ts.length (ltV ts) → Z (.returned (.tuple #[.slice a5 ts.length c5,.bool is,.int .i64 0])) w5) := fun ts is w5 a5 c5 h1 h2 h3 => HZ.out ts is 0 w5 a5 _ c5 rfl (q5 HB3.out h1) (qj h3 HB3.out.size) (.inr (.inr ⟨hM,by rw [gb1,hy],h2,rfl⟩))
   rw [hy] at cb1
   clear gb1 hy hbl
   generalize adOf aA 0 = ad at *
   obtain ⟨ad1,ad2,ad3⟩ := ad
   clear hS hS3 hb2 hb3 jl c0 c1 c2 c3 h256 hk256
   go_wp2_with (go_at_call 32; (with_reducible refine jf.mono ?_); intro e w5 hq; obtain ⟨hb5,ts,is,a5,c5,rfl,hA5,ho5⟩ := hq)
   have HE : Hid _ := HZZ.out ts is w5 a5 c5 hb5 hA5 ho5
   clear hb5 hA5 ho5 HZZ
   go_wp2
   go_ret3
   exact HE.out
end Go.Proofs.Ytfbefloajnkhiaa
namespace Go.Proofs.Ytfbefloajnkhiaa
open Go.RowKit Go.Maps
theorem q3B (x y : Int) (hx : 0 ≤ x) (hy : 0 ≤ y) (w : World) : (callFunc 55 #[.int .u64 x,.int .u64 y,.int .u64 0]).run Try.prog w = .ok (.value (.tuple #[.int .u64 ((x + y) % 18446744073709551616),.int .u64 ((x + y) / 18446744073709551616)])) w := by
 rw [run_callFunc_extern Try.func55 (by kernel_rfl) (by kernel_rfl) (by kernel_rfl) (e := add64Entry) (by kernel_rfl),run_add64 x y 0 hx hy (by omega) (by omega)]
 simp only [Result.andThen,Int.add_zero]
def nuN (c : Nat) : Int := ((c % 18446744073709551616 : Nat) : Int)
def nuO (c : Nat) : Bool := decide (18446744073709551616 ≤ c)
abbrev nuV (c : Nat) : Value := .agg #[.int .u64 (nuN c),.bool (nuO c)]
theorem q4D (c : Nat) : 0 ≤ nuN c ∧ nuN c < 18446744073709551616 := by unfold nuN; omega
theorem q5p (a b : Nat) : (nuN a + nuN b) % 18446744073709551616 = nuN (a + b) := by unfold nuN; omega
theorem q5q (a b : Nat) : nuO (a + b) = (nuO a || nuO b || !((nuN a + nuN b) / 18446744073709551616 == 0)) := by
 unfold nuO nuN
 rw [Bool.eq_iff_iff]
 simp only [decide_eq_true_iff,Bool.or_eq_true,Bool.not_eq_true',beq_eq_false_iff_ne]
 omega
theorem qT {c : Nat} (h : c < 18446744073709551616) : nuN c = (c : Int) ∧ nuO c = false := by unfold nuN nuO; rw [Nat.mod_eq_of_lt h]; exact ⟨rfl,decide_eq_false (by omega)⟩
theorem q1b (a b : Nat) (w : World) : Calls Try.prog 47 #[nuV a, nuV b] w fun e w' => e = .returned (nuV (a + b)) ∧ Below w.heap.size w w' := by
  have h1 := (q4D a).1
  have h2 := (q4D b).1
  have HN : Hid _ := q5p a b
  have HO : Hid _ := q5q a b
  have HB : Hid (∀ o1 o2 o3, Below w.heap.size w (((w.alloc o1).alloc o2).alloc o3)) := fun o1 o2 o3 => q5 (q5 (q6 w _) (q6 _ _)) (q6 _ _)
  unfold nuV
  have ha := q3B (nuN a) (nuN b) h1 h2
  rw [← HN.out, HO.out]
  clear HN HO h1 h2
  generalize nuN a = x at *
  generalize nuN b = y at *
  generalize nuO a = o1 at *
  generalize nuO b = o2 at *
  generalize (x + y) % 18446744073709551616 = s at *
  generalize (x + y) / 18446744073709551616 = k at *
  by_cases hk : k = 0
  · subst hk
    cases o1 <;> cases o2 <;>
      (go_enter Try.func47, Try.ntmps47
       go_wp2_with (simp only [ha])
       simp [bodyPost, results, Try.results47, go_sem]
       exact HB.out _ _ _)
  · have hk2 : (k == 0) = false := by simpa using hk
    cases o1 <;> cases o2 <;>
      (go_enter Try.func47, Try.ntmps47
       go_wp2_with (simp only [ha])
       simp [bodyPost, results, Try.results47, go_sem, hk, hk2]
       exact HB.out _ _ _)
def encN (l : List Nat) : List Value := l.flatMap fun c => [.int .u64 (nuN c),.bool (nuO c)]
theorem qR (t : Nat) (l : List Nat) : encN (t :: l) = .int .u64 (nuN t) :: .bool (nuO t) :: encN l := rfl
theorem q3f : ∀ l : List Nat,(encN l).length = l.length * 2
 | [] => rfl
 | t :: l => by rw [qR]; simp [q3f l]; omega
theorem q18 : ∀ (l : List Nat) (k : Nat),k < l.length → (encN l)[2 * k]? = some (.int .u64 (nuN (l.getD k 0))) ∧ (encN l)[2 * k + 1]? = some (.bool (nuO (l.getD k 0)))
 | [],k,h => by simp at h
 | t :: l,0,h => ⟨rfl,rfl⟩
 | t :: l,k + 1,h => by
  have := q18 l k (by simpa using h)
  rw [qR,show 2 * (k + 1) = 2 * k + 1 + 1 by omega,show 2 * k + 1 + 1 + 1 = (2 * k + 1) + 1 + 1 by omega]
  simpa using this
theorem q1A : ∀ (l : List Nat) (k c : Nat),((encN l).set (2 * k) (.int .u64 (nuN c))).set (2 * k + 1) (.bool (nuO c)) = encN (l.set k c)
 | [],k,c => by simp [encN]
 | t :: l,0,c => rfl
 | t :: l,k + 1,c => by
  have := q1A l k c
  rw [qR,show 2 * (k + 1) = 2 * k + 1 + 1 by omega,show 2 * k + 1 + 1 + 1 = (2 * k + 1) + 1 + 1 by omega,List.set_cons_succ,List.set_cons_succ,List.set_cons_succ,List.set_cons_succ,this,List.set_cons_succ,qR]
theorem q3H : (Try.prog.info? 69).map (fun i => (i.zero,i.size,i.bytes)) = some (some (.agg #[.int .u64 0,.bool false]),2,16) := by kernel_rfl
theorem q3L : (Try.prog.info? 69).map (·.size) = some 2 := by kernel_rfl
theorem madeN (n : Nat) : madeCells #[.int .u64 0,.bool false] (n * 2) = (encN (List.replicate n 0)).toArray := by
 apply Array.ext_getElem?
 intro i
 by_cases h : i < n * 2
 ·obtain ⟨k,h0⟩ : ∃ k,i = 2 * k ∨ i = 2 * k + 1 := ⟨i / 2,by omega⟩
  obtain ⟨e0,e1⟩ := q18 (List.replicate n 0) k (by simp; omega)
  have hz : (List.replicate n 0).getD k 0 = 0 := by rw [List.getD_eq_getElem?_getD,List.getElem?_replicate]; split <;> rfl
  rw [hz] at e0 e1
  rcases h0 with rfl | rfl
  ·have hr : (encN (List.replicate n 0)).toArray[2 * k]? = some (.int .u64 0) := by simpa [nuN] using e0
   rw [hr]; simp [madeCells,h]
  ·have hr : (encN (List.replicate n 0)).toArray[2 * k + 1]? = some (.bool false) := by simpa [nuO] using e1
   have h3 : (2 * k + 1) % 2 = 1 := by omega
   rw [hr]; simp [madeCells,h,h3]
 ·have hr : (encN (List.replicate n 0)).toArray[i]? = none := by
   rw [Array.getElem?_eq_none]; rw [List.size_toArray,q3f]; simp; omega
  rw [hr,Array.getElem?_eq_none]
  simp [madeCells]; omega
theorem q1u (l : Nat) (hb : l ≤ 1000) (w : World) :
  (Instr.makeSlice 86 (.int .i64 (l : Int)) (.int .i64 (l : Int))).run Try.prog w = .ok (.slice (some ⟨w.heap.size,0,none⟩) l l) (w.alloc (.cells (encN (List.replicate l 0)).toArray 69)) := by
 obtain ⟨i,hi,hz0,hz1,hz2⟩ := info_parts q3H
 have := run_make (P := Try.prog) w 86 69 i (.agg #[.int .u64 0,.bool false]) Try.underlying86 hi hz0 .i64 .i64 (l : Int) (l : Int) (by omega) (by omega) (by rw [hz2]; omega) (by omega)
 rw [this,hz1,← madeN]
 simp only [Int.toNat_natCast]
 rfl
def NuRow (w : World) (g : Nat) (l : List Nat) : Prop := w.heap[g]? = some (.cells (encN l).toArray 69 (0,0))
theorem NuRow.lt {w : World} {g : Nat} {l : List Nat} (h : NuRow w g l) : g < w.heap.size := (Array.getElem?_eq_some_iff.1 h).1
theorem NuRow.up {w w' : World} {g : Nat} {l : List Nat} (h : NuRow w g l) (hb : Below w.heap.size w w') : NuRow w' g l := (hb.block g h.lt).trans h
theorem q2A (w : World) (l : List Nat) : NuRow (w.alloc (.cells (encN l).toArray 69 (0,0))) w.heap.size l := (MapKept.heap_alloc w _).1
theorem NuRow.at {w : World} {g n : Nat} {l : List Nat} (h : NuRow w g l) (hl : l.length = n) {k : Nat} (hk : k < n) :
  ∃ oo,oo = 2 * k ∧ (∀ w',(Instr.indexAt 86 (.slice (some ⟨g,0,none⟩) n n) (.int .i64 (k : Int))).run Try.prog w' = .ok (.pointer (some ⟨g,oo,none⟩)) w') ∧ w.cell? ⟨g,oo,none⟩ = some (.int .u64 (nuN (l.getD k 0))) ∧ w.cell? ⟨g,oo + 1,none⟩ = some (.bool (nuO (l.getD k 0))) ∧ w.frozen? ⟨g,oo,none⟩ = false ∧ w.frozen? ⟨g,oo + 1,none⟩ = false := by
 obtain ⟨e0,e1⟩ := q18 l k (by omega)
 refine ⟨2 * k,rfl,fun w' => ?_,?_,?_,frozen_of_row w g _ _ _ h,frozen_of_row w g _ _ _ h⟩
 ·simp [Instr.indexAt,run_underlying Try.underlying86,asIntOf,qY q3L,hk,Result.andThen,go_sem,q8,Nat.mul_comm]
 ·rw [q7 h]; simpa using e0
 ·rw [q7 h]; simpa using e1
theorem NuRow.put {w : World} {g k : Nat} {l : List Nat} (h : NuRow w g l) (c : Nat) : NuRow ((w.setCell ⟨g,2 * k,none⟩ (.int .u64 (nuN c))).setCell ⟨g,2 * k + 1,none⟩ (.bool (nuO c))) g (l.set k c) := by
 have h1 := heap_setCell_same w g (2 * k) _ _ (.int .u64 (nuN c)) h
 have h2 := heap_setCell_same _ g (2 * k + 1) _ _ (.bool (nuO c)) h1
 unfold NuRow
 refine h2.trans ?_
 rw [← q1A]
 simp
theorem NuRow.one {w : World} {g k : Nat} {l : List Nat} (h : NuRow w g l) (hk : k < l.length) (h0 : l.getD k 0 = 0) : NuRow (w.setCell ⟨g,2 * k,none⟩ (.int .u64 1)) g (l.set k 1) := by
 have h1 := heap_setCell_same w g (2 * k) _ _ (.int .u64 1) h
 unfold NuRow
 refine h1.trans ?_
 rw [← q1A]
 obtain ⟨_,e1⟩ := q18 l k hk
 rw [h0] at e1
 have e2 : ((encN l).set (2 * k) (.int .u64 (nuN 1)))[2 * k + 1]? = some (.bool (nuO 1)) := by
  rw [List.getElem?_set_ne (by omega),e1]; rfl
 have hlt := (List.getElem?_eq_some_iff.1 e2).1
 have e3 := (List.getElem?_eq_some_iff.1 e2).2
 have : ((encN l).set (2 * k) (.int .u64 (nuN 1))).set (2 * k + 1) (.bool (nuO 1)) = (encN l).set (2 * k) (.int .u64 (nuN 1)) := by
  rw [← e3]; exact List.set_getElem_self hlt
 rw [this]
 simp [nuN]
def upN (f : Nat → Nat) (n k : Nat) : List Nat := (List.range n).map fun s => if s < k then f s else 0
theorem qD (f : Nat → Nat) (n k : Nat) : (upN f n k).length = n := by simp [upN]
theorem q3y (f : Nat → Nat) (n : Nat) : upN f n 0 = List.replicate n 0 := by
 apply List.ext_getElem?
 intro i
 by_cases h : i < n <;> simp [upN,h]
theorem q1D (f : Nat → Nat) {n k : Nat} (h : k < n) : (upN f n k).set k (f k) = upN f n (k + 1) := by
 apply List.ext_getElem?
 intro i
 rw [List.getElem?_set]
 by_cases hi : i < n
 ·by_cases e : k = i
  ·subst e; simp [upN,h]
  ·rw [if_neg e]
   have : (i < k) ↔ (i < k + 1) := by omega
   simp [upN,hi,this]
 ·by_cases e : k = i
  ·omega
  ·rw [if_neg e]; simp [upN,hi]
theorem q4K (f : Nat → Nat) {n k : Nat} (h : k < n) : (upN f n k).getD k 0 = 0 := by simp [upN,List.getD_eq_getElem?_getD,h]
theorem q42 (f : Nat → Nat) (n : Nat) : upN f n n = (List.range n).map f := by
 unfold upN
 apply List.map_congr_left
 intro s hs
 rw [if_pos (List.mem_range.1 hs)]
theorem q59 (f : Nat → Nat) {n k : Nat} (h : k < n) (h0 : f k = 0) : upN f n k = upN f n (k + 1) := by
 rw [← q1D f h,h0]
 have := q4K f h
 apply List.ext_getElem?
 intro i
 rw [List.getElem?_set]
 split
 ·rename_i e; subst e
  rw [if_pos (by rw [qD]; exact h)]
  rw [List.getD_eq_getElem?_getD,List.getElem?_eq_getElem (by rw [qD]; exact h)] at this
  rw [List.getElem?_eq_getElem (by rw [qD]; exact h)]
  simpa using this
 ·rfl
def NrwR (f : Nat → Nat) (n : Nat) (w : World) (e : Ending) (w' : World) : Prop := Below w.heap.size w w' ∧ ∃ g,e = .returned (.slice (some ⟨g,0,none⟩) n n) ∧ w.heap.size ≤ g ∧ NuRow w' g ((List.range n).map f)
theorem q12 (aA : Option Addr) (cA : Nat) (aT : Option Addr) (cT n : Nat) (bs : List Bool) (R : List (List Nat)) (w : World) (hM : MvS w aA cA aT cT n bs R) (h256 : n ≤ 256) :
  Calls Try.prog 45 #[.agg #[.slice aA n cA,.slice aT n cT]] w (NrwR (cntP R bs 0) n w) := by
 obtain ⟨Z,eZ⟩ : ∃ Z,Z = NrwR (cntP R bs 0) n w := ⟨_,rfl⟩
 have HZ : Hid (∀ w' g,Below w.heap.size w w' → w.heap.size ≤ g → NuRow w' g ((List.range n).map (cntP R bs 0)) → Z (.returned (.slice (some ⟨g,0,none⟩) n n)) w') := fun w' g hb h1 h2 => by rw [eZ]; exact ⟨hb,g,rfl,h1,h2⟩
 rw [← eZ]
 clear eZ
 have hmk := fun w => q1u n (by omega) w
 have hb0 := q6 w (.cells #[.slice aA n cA,.slice aT n cT] 62 (0,0))
 have HMV : Hid (MvG (w.alloc (.cells #[.slice aA n cA,.slice aT n cT] 62 (0,0))) w.heap.size (.slice aA n cA) (.slice aT n cT)) := qa w (.slice aA n cA) (.slice aT n cT)
 have m0 := HMV.out.c0
 obtain ⟨w2,hw2⟩ : ∃ w2,w2 = (w.alloc (.cells #[.slice aA n cA,.slice aT n cT] 62 (0,0))).alloc (.cells (encN (List.replicate n 0)).toArray 69) := ⟨_,rfl⟩
 have HN0 : Hid (NuRow w2 (w.heap.size + 1) (upN (cntP R bs 0) n 0)) := by
  have := q2A (w.alloc (.cells #[.slice aA n cA,.slice aT n cT] 62 (0,0))) (List.replicate n 0)
  show NuRow _ _ _
  rw [hw2,q3y]; simpa using this
 have hbb : Below w.heap.size w w2 := by rw [hw2]; exact q5 hb0 (q6 _ _)
 have HB2 : Hid _ := hbb
 have m2 : w2.cell? ⟨w.heap.size,0,none⟩ = some (.slice aA n cA) := by rw [hw2]; exact (HMV.out.up (q6 _ _)).c0
 have HW2 : Hid _ := hw2
 have HHM : Hid _ := hM
 have HSM : Hid (∀ s,cntP R bs 0 s = if bs.getD s false then 1 else 0) := fun s => rfl
 generalize cntP R bs 0 = f at *
 clear hb0 hw2 hbb hM HMV
 generalize (encN (List.replicate n 0)).toArray = C at *
 go_enter Try.func45,Try.ntmps45
 go_wp2_with (rw [← HW2.out])
 clear m0 m2 hmk
 go_loopw [13] (fun i wr => ∃ k : Nat,k ≤ n ∧ i = .int .i64 (k : Int) ∧ Hid (Below w.heap.size w wr) ∧ Hid (NuRow wr (w.heap.size + 1) (upN f n k))) (fun i _ => n - (intOf i).toNat)
 case atStart => exact ⟨0,Nat.zero_le _,rfl,HB2,HN0⟩
 case round =>
  clear HB2 HN0
  obtain ⟨k,hk,rfl,HB,HN⟩ := hrel
  by_cases hlt : k < n
  ·obtain ⟨ib1,cb1⟩ := (HHM.out.bo.up HB.out).at k hlt
   have ib1 := fun w' => ib1 n w' hlt
   have hbl := HHM.out.bo.hlen
   have gb1 : bs.getD k false = bs[k] := by rw [List.getD_eq_getElem?_getD,List.getElem?_eq_getElem (by omega)]; rfl
   have hf := HSM.out k
   rw [gb1] at hf
   obtain ⟨oo,hoo,hix,c0,c1,f0,f1⟩ := HN.out.at (qD _ _ _) hlt
   generalize bs[k] = y at *
   cases y with
   | true =>
    have HN2 : Hid (NuRow (wr.setCell ⟨w.heap.size + 1,oo,none⟩ (.int .u64 1)) (w.heap.size + 1) (upN f n (k + 1))) := by
     rw [hoo]
     have := HN.out.one (k := k) (by rw [qD]; exact hlt) (q4K _ hlt)
     rw [if_pos rfl] at hf
     rw [← q1D f hlt,hf]; exact this
    have HB3 : Hid (Below w.heap.size w (wr.setCell ⟨w.heap.size + 1,oo,none⟩ (.int .u64 1))) := HB.out.setCell (by dsimp only; omega) _
    clear hoo HB HN hf gb1 hbl c1 f1
    generalize adOf aA k = ad at *
    obtain ⟨ad1,ad2,ad3⟩ := ad
    go_wp2
    go_roundw
    case rel => exact ⟨k + 1,by omega,by go_num,HB3,HN2⟩
    case measure => simp [intOf]; omega
   | false =>
    have HN2 : Hid (NuRow wr (w.heap.size + 1) (upN f n (k + 1))) := by
     rw [← q59 f hlt (by rw [hf]; rfl)]; exact HN.out
    clear hoo HN hf gb1 hbl c1 f1 hix c0 f0
    generalize adOf aA k = ad at *
    obtain ⟨ad1,ad2,ad3⟩ := ad
    go_wp2
    go_roundw
    case rel => exact ⟨k + 1,by omega,by go_num,HB,HN2⟩
    case measure => simp [intOf]; omega
  ·obtain rfl : k = n := by omega
   have HE : Hid _ := HZ.out wr (w.heap.size + 1) HB.out (by omega) (by rw [← q42]; exact HN.out)
   clear HZ HN HB
   go_wp2
   exact HE.out
def NuB (w : World) (g c : Nat) : Prop := w.heap[g]? = some (.cells #[.int .u64 (nuN c),.bool (nuO c)] 69 (0,0))
theorem NuB.lt {w : World} {g c : Nat} (h : NuB w g c) : g < w.heap.size := (Array.getElem?_eq_some_iff.1 h).1
theorem NuB.up {w w' : World} {g c : Nat} (h : NuB w g c) (hb : Below w.heap.size w w') : NuB w' g c := (hb.block g h.lt).trans h
theorem NuB.c0 {w : World} {g c : Nat} (h : NuB w g c) : w.cell? ⟨g,0,none⟩ = some (.int .u64 (nuN c)) := q7 h 0
theorem NuB.c1 {w : World} {g c : Nat} (h : NuB w g c) : w.cell? ⟨g,1,none⟩ = some (.bool (nuO c)) := q7 h 1
theorem NuB.fz {w : World} {g c : Nat} (h : NuB w g c) (i : Nat) : w.frozen? ⟨g,i,none⟩ = false := frozen_of_row w g i _ _ h
theorem q2k (w : World) : NuB (w.alloc (.cells #[.int .u64 0,.bool false] 69 (0,0))) w.heap.size 0 := (MapKept.heap_alloc w _).1
theorem NuB.set {w : World} {g c : Nat} (h : NuB w g c) (d : Nat) : NuB (two2 w g (.int .u64 (nuN d)) (.bool (nuO d))) g d := by
 have h1 := heap_setCell_same w g 0 _ _ (.int .u64 (nuN d)) h
 have h2 := heap_setCell_same _ g 1 _ _ (.bool (nuO d)) h1
 exact h2
theorem qx {B : Nat} {a b c : World} (h : Below B a b) (h' : Below b.heap.size b c) (hB : B ≤ b.heap.size) : Below B a c := h.trans (h'.mono hB)
theorem q57 (f : Nat → Nat) (row : List Nat) {k : Nat} (h : k < row.length) : ((row.take (k + 1)).map f).sum = ((row.take k).map f).sum + f (row.getD k 0) := by
 rw [List.take_add_one,List.getElem?_eq_getElem h,List.getD_eq_getElem?_getD,List.getElem?_eq_getElem h,List.map_append,List.sum_append]
 simp only [Option.toList_some,List.map_cons,List.map_nil,List.sum_cons,List.sum_nil,Option.getD_some,Nat.add_zero]
theorem qM (aA : Option Addr) (cA : Nat) (aT : Option Addr) (cT n K : Nat) (bs : List Bool) (R : List (List Nat)) (f : Nat → Nat) (gr : Nat) (w : World) (hM : MvS w aA cA aT cT n bs R) (hR : RowsP n K R) (hK : K ≤ 256) (h256 : n ≤ 256) (hN : NuRow w gr ((List.range n).map f)) :
  Calls Try.prog 46 #[.agg #[.slice aA n cA,.slice aT n cT],.slice (some ⟨gr,0,none⟩) n n] w (NrwR (fun s => ((R.getD s []).map f).sum) n w) := by
 obtain ⟨Z,eZ⟩ : ∃ Z,Z = NrwR (fun s => ((R.getD s []).map f).sum) n w := ⟨_,rfl⟩
 have HZ : Hid (∀ w' g,Below w.heap.size w w' → w.heap.size ≤ g → NuRow w' g ((List.range n).map (fun s => ((R.getD s []).map f).sum)) → Z (.returned (.slice (some ⟨g,0,none⟩) n n)) w') := fun w' g hb h1 h2 => by rw [eZ]; exact ⟨hb,g,rfl,h1,h2⟩
 rw [← eZ]
 clear eZ
 have hmk := fun w => q1u n (by omega) w
 have hb0 := q6 w (.cells #[.slice aA n cA,.slice aT n cT] 62 (0,0))
 have HMV : Hid (MvG (w.alloc (.cells #[.slice aA n cA,.slice aT n cT] 62 (0,0))) w.heap.size (.slice aA n cA) (.slice aT n cT)) := qa w (.slice aA n cA) (.slice aT n cT)
 have m0 := HMV.out.c1
 obtain ⟨w2,hw2⟩ : ∃ w2,w2 = (w.alloc (.cells #[.slice aA n cA,.slice aT n cT] 62 (0,0))).alloc (.cells (encN (List.replicate n 0)).toArray 69) := ⟨_,rfl⟩
 have HSM : Hid (∀ s k,s < n → k < K → (((R.getD s []).take (k + 1)).map f).sum = (((R.getD s []).take k).map f).sum + f (trP R s k)) := fun s k hs hk => q57 f _ (by rw [hR.row s hs]; exact hk)
 obtain ⟨F,hF⟩ : ∃ F : Nat → Nat,F = fun s => ((R.getD s []).map f).sum := ⟨_,rfl⟩
 have HF : Hid (∀ s,s < n → F s = (((R.getD s []).take K).map f).sum) := fun s hs => by rw [hF,List.take_of_length_le (by rw [hR.row s hs]; exact Nat.le_refl _)]
 rw [← hF] at HZ
 have HN0 : Hid (NuRow w2 (w.heap.size + 1) (upN F n 0)) := by
  have := q2A (w.alloc (.cells #[.slice aA n cA,.slice aT n cT] 62 (0,0))) (List.replicate n 0)
  show NuRow _ _ _
  rw [hw2,q3y]; simpa using this
 have hbb : Below w.heap.size w w2 := by rw [hw2]; exact q5 hb0 (q6 _ _)
 have HB2 : Hid _ := hbb
 have m2 : w2.cell? ⟨w.heap.size,1,none⟩ = some (.slice aT n cT) := by rw [hw2]; exact (HMV.out.up (q6 _ _)).c1
 have HW2 : Hid _ := hw2
 have HHM : Hid _ := hM
 have HR : Hid _ := hR
 have HNR : Hid (NuRow w gr ((List.range n).map f)) := hN
 clear hb0 hw2 hbb hM HMV hR hF hN
 generalize (encN (List.replicate n 0)).toArray = C at *
 go_enter Try.func46,Try.ntmps46
 go_wp2_with (rw [← HW2.out])
 clear m0 m2 hmk
 go_loopw [18] (fun i wr => ∃ k : Nat,k ≤ n ∧ i = .int .i64 (k : Int) ∧ Hid (Below w.heap.size w wr) ∧ Hid (NuRow wr (w.heap.size + 1) (upN F n k))) (fun i _ => n - (intOf i).toNat)
 case atStart => exact ⟨0,Nat.zero_le _,rfl,HB2,HN0⟩
 case round =>
  clear HB2 HN0
  obtain ⟨s,hs,rfl,HB,HN⟩ := hrel
  by_cases hlt : s < n
  ·obtain ⟨rg,ro,rz,ra,rl,rc,hrx,hrc,hrz⟩ := HHM.out.row hlt
   have hrc := q9 hrc HB.out
   have hrl : rl = K := by have := hrz.hlen; rw [List.length_map,HR.out.row s hlt] at this; exact this.symm
   subst hrl
   have HRZ : Hid (ZSl w ra rl rc ((R.getD s []).map Int.ofNat)) := hrz
   have HB5 : Hid (Below wr.heap.size wr (wr.alloc (.cells #[.int .u64 0,.bool false] 69 (0,0)))) := q6 _ _
   have HS5 : Hid (NuB (wr.alloc (.cells #[.int .u64 0,.bool false] 69 (0,0))) wr.heap.size 0) := q2k wr
   clear hrz
   go_wp2
   clear hrx hrc
   generalize wr.alloc (.cells #[.int .u64 0,.bool false] 69 (0,0)) = w5 at *
   generalize hg8 : wr.heap.size = g8 at *
   have HG8 : Hid _ := hg8
   clear hg8
   generalize wr = wo at *
   go_loopw [25] (fun i wy => ∃ k : Nat,k ≤ rl ∧ i = .int .i64 (k : Int) ∧ Hid (Below g8 wo wy) ∧ Hid (NuB wy g8 (((R.getD s []).take k).map f).sum)) (fun i _ => rl - (intOf i).toNat)
   case atStart => exact ⟨0,Nat.zero_le _,rfl,HB5,HS5⟩
   case round =>
    clear HB5 HS5
    obtain ⟨k,hk,rfl,HBY,HSY⟩ := hrel
    have hgo : w.heap.size + 1 < g8 := by rw [← HG8.out]; exact HN.out.lt
    have hbo := HBY.out
    have hbw : Below w.heap.size w wr := q5 HB.out (by rw [HG8.out]; exact hbo)
    by_cases hkK : k < rl
    ·have ik1 := fun w' => HRZ.out.idx rl k w' hkK (Nat.le_refl _)
     have ck1 := (HRZ.out.up hbw).cell k hkK
     rw [qi (by rw [HR.out.row s hlt]; exact hkK)] at ck1
     have ht := HR.out.lt s k hlt hkK
     change wr.cell? _ = some (.int .i64 ((trP R s k : Nat) : Int)) at ck1
     have hsum := HSM.out s k hlt hkK
     generalize trP R s k = t at *
     obtain ⟨oo,-,hix,d0,d1,-,-⟩ := (HNR.out.up hbw).at (by simp) ht
     have hft : ((List.range n).map f).getD t 0 = f t := by simp [List.getD_eq_getElem?_getD,ht]
     rw [hft] at d0 d1
     have HSU : Hid _ := hsum
     clear hsum hft hbw
     have c0 := HSY.out.c0
     have c1 := HSY.out.c1
     generalize (((R.getD s []).take k).map f).sum = c at *
     have jp := fun wx => q1b c (f t) wx
     have HU6 : Hid (∀ wx w6,Below wr.heap.size wr wx → Below wx.heap.size wx w6 → Below g8 wo (two2 w6 g8 (.int .u64 (nuN (c + f t))) (.bool (nuO (c + f t)))) ∧ NuB (two2 w6 g8 (.int .u64 (nuN (c + f t))) (.bool (nuO (c + f t)))) g8 (c + f t) ∧ w6.cell? ⟨g8,0,none⟩ = some (.int .u64 (nuN c)) ∧ w6.cell? ⟨g8,1,none⟩ = some (.bool (nuO c)) ∧ w6.frozen? ⟨g8,0,none⟩ = false ∧ w6.frozen? ⟨g8,1,none⟩ = false) := fun wx w6 h1 h2 => by
      have h3 := (HSY.out.up h1).up h2
      have hs := HBY.out.size
      have hl := HSY.out.lt
      have h4 : Below g8 wo w6 := qx (qx HBY.out h1 (by omega)) h2 (by have := h1.size; omega)
      exact ⟨qs h4 (Nat.le_refl _) _ _,h3.set _,h3.c0,h3.c1,h3.fz 0,h3.fz 1⟩
     generalize adOf ra k = ad3 at *
     obtain ⟨b1g,b1o,b1z⟩ := ad3
     go_wp2
     go_region_with (first
      | (go_at_call 47; (with_reducible refine (jp _).mono ?_); rintro e w6 ⟨rfl,hb6⟩; obtain ⟨u1,u2,u3,u4,u5,u6⟩ := HU6.out _ w6 (by first | exact Below.refl _ _ | exact below_drewN (Below.refl _ _) _ | exact (Below.refl _ _).drew) hb6; have HU1 : Hid _ := u1; have HU3 : Hid (NuB (two2 w6 g8 (.int .u64 (nuN (c + f t))) (.bool (nuO (c + f t)))) g8 (((R.getD s []).take (k + 1)).map f).sum) := (by rw [HSU.out]; exact u2); clear hb6 u1 u2)
      | fail)
     all_goals
      clear HU6 HSU jp c0 c1 d0 d1 hix ik1 ck1 HSY HBY hbo
      go_wp2
      go_roundw
      case rel => exact ⟨k + 1,by omega,by go_num,HU1,HU3⟩
      case measure => simp [intOf]; omega
    ·obtain rfl : k = rl := by omega
     have hFs := HF.out s hlt
     obtain ⟨oo,hoo,hix,d0,d1,f0,f1⟩ := NuRow.at (w := wr) (g := w.heap.size + 1) (l := upN F n s) ((hbo.block _ hgo).trans HN.out) (qD _ _ _) hlt
     have hN1 : NuRow (wr.drew) (w.heap.size + 1) (upN F n s) := (hbo.block _ hgo).trans HN.out
     have HN2 : Hid (NuRow ((wr.setCell ⟨w.heap.size + 1,oo,none⟩ (.int .u64 (nuN (F s)))).setCell ⟨w.heap.size + 1,oo + 1,none⟩ (.bool (nuO (F s)))) (w.heap.size + 1) (upN F n (s + 1))) := by
      rw [hoo,← q1D F hlt]
      exact NuRow.put ((hbo.block _ hgo).trans HN.out) (F s)
     have HB3 : Hid (Below w.heap.size w ((wr.setCell ⟨w.heap.size + 1,oo,none⟩ (.int .u64 (nuN (F s)))).setCell ⟨w.heap.size + 1,oo + 1,none⟩ (.bool (nuO (F s))))) := (hbw.setCell (by dsimp only; omega) _).setCell (by dsimp only; omega) _
     have c0 := HSY.out.c0
     have c1 := HSY.out.c1
     rw [← hFs] at c0 c1
     generalize F s = c at *
     clear hoo hN1 hFs HSY HBY hbo hbw HZ HN
     go_wp2
     go_roundw
     case rel => exact ⟨s + 1,by omega,by go_num,HB3,HN2⟩
     case measure => simp [intOf]; omega
  ·obtain rfl : s = n := by omega
   have HE : Hid _ := HZ.out wr (w.heap.size + 1) HB.out (by omega) (by rw [← q42]; exact HN.out)
   clear HZ HN HB
   go_wp2
   exact HE.out
end Go.Proofs.Ytfbefloajnkhiaa
namespace Go.Proofs.Ytfbefloajnkhiaa
open Go.RowKit Go.Maps Go.Sort
theorem q2t (R : List (List Nat)) (bs : List Bool) (m : Nat) : cntP R bs (m + 1) = fun s => ((R.getD s []).map (cntP R bs m)).sum := rfl
theorem q1q (aA : Option Addr) (cA : Nat) (aT : Option Addr) (cT n K : Nat) (bs : List Bool) (R : List (List Nat)) (m : Nat) (w : World) (hM : MvS w aA cA aT cT n bs R) (hR : RowsP n K R) (hK : K ≤ 256) (h1n : 0 < n) (h256 : n ≤ 256) (hm : m ≤ 1024) :
  Calls Try.prog 34 #[.agg #[.slice aA n cA,.slice aT n cT],.int .i64 (m : Int)] w fun e w' => e = .returned (nuV (cntP R bs m 0)) ∧ Below w.heap.size w w' := by
 obtain ⟨Z,eZ⟩ : ∃ Z : Ending → World → Prop,Z = fun e w' => e = .returned (nuV (cntP R bs m 0)) ∧ Below w.heap.size w w' := ⟨_,rfl⟩
 have HZ : Hid (∀ w',Below w.heap.size w w' → Z (.returned (nuV (cntP R bs m 0))) w') := fun w' hb => by rw [eZ]; exact ⟨rfl,hb⟩
 rw [← eZ]
 clear eZ
 have hb0 := q5 (q6 w (.cells #[.slice aA n cA,.slice aT n cT] 62 (0,0))) (q6 _ (.cells #[.int .u64 0,.bool false] 69 (0,0)))
 have HB0 : Hid _ := hb0
 have HV0 : Hid (MvG ((w.alloc (.cells #[.slice aA n cA,.slice aT n cT] 62 (0,0))).alloc (.cells #[.int .u64 0,.bool false] 69 (0,0))) w.heap.size (.slice aA n cA) (.slice aT n cT)) := (qa w (.slice aA n cA) (.slice aT n cT)).up (q6 _ _)
 have HC0 : Hid (NuB ((w.alloc (.cells #[.slice aA n cA,.slice aT n cT] 62 (0,0))).alloc (.cells #[.int .u64 0,.bool false] 69 (0,0))) (w.heap.size + 1) 0) := by
  have := q2k (w.alloc (.cells #[.slice aA n cA,.slice aT n cT] 62 (0,0)))
  show NuB _ _ _; simpa using this
 have m0 := HV0.out.c0
 have m1 := HV0.out.c1
 have je := q12 aA cA aT cT n bs R _ (hM.up hb0) h256
 have HM : Hid _ := hM
 have HR : Hid _ := hR
 clear hM hR hb0
 go_enter Try.func34,Try.ntmps34
 go_wp2_with fail
 refine je.mono ?_
 rintro e w2 ⟨hb2,g2,rfl,hg2,hn2⟩
 have HB2 : Hid (Below w.heap.size w w2) := q5 HB0.out hb2
 have HV2 : Hid (MvG w2 w.heap.size (.slice aA n cA) (.slice aT n cT)) := HV0.out.up hb2
 have HC2 : Hid (NuB w2 (w.heap.size + 1) 0) := HC0.out.up hb2
 have HN2 : Hid (NuRow w2 g2 ((List.range n).map (cntP R bs 0))) := hn2
 clear je hb2 hg2 hn2 HB0 HV0 HC0 m0 m1
 go_wp2
 go_loopw [5,9] (fun v i wr => ∃ (k g : Nat),k ≤ m ∧ i = .int .i64 (k : Int) ∧ v = .slice (some ⟨g,0,none⟩) n n ∧ Hid (Below w.heap.size w wr) ∧ Hid (MvG wr w.heap.size (.slice aA n cA) (.slice aT n cT)) ∧ Hid (NuB wr (w.heap.size + 1) 0) ∧ Hid (NuRow wr g ((List.range n).map (cntP R bs k)))) (fun _ i _ => m - (intOf i).toNat)
 case atStart => exact ⟨0,g2,Nat.zero_le _,rfl,rfl,HB2,HV2,HC2,HN2⟩
 case round =>
  clear HB2 HV2 HC2 HN2
  obtain ⟨k,g,hk,rfl,rfl,HB,HV,HC,HN⟩ := hrel
  by_cases hlt : k < m
  ·have m0 := HV.out.c0
   have m1 := HV.out.c1
   have jl := qM aA cA aT cT n K bs R (cntP R bs k) g wr (HM.out.up HB.out) HR.out hK h256 HN.out
   rw [← q2t] at jl
   go_wp2_with fail
   refine jl.mono ?_
   rintro e w3 ⟨hb3,g3,rfl,hg3,hn3⟩
   have HB3 : Hid (Below w.heap.size w w3) := q5 HB.out hb3
   have HV3 : Hid (MvG w3 w.heap.size (.slice aA n cA) (.slice aT n cT)) := HV.out.up hb3
   have HC3 : Hid (NuB w3 (w.heap.size + 1) 0) := HC.out.up hb3
   have HN3 : Hid (NuRow w3 g3 ((List.range n).map (cntP R bs (k + 1)))) := hn3
   clear jl hb3 hg3 hn3 HB HV HC HN m0 m1
   go_wp2
   go_roundw
   case rel => exact ⟨k + 1,g3,by omega,by go_num,rfl,HB3,HV3,HC3,HN3⟩
   case measure => simp [intOf]; omega
  ·obtain rfl : k = m := by omega
   obtain ⟨oo,ho,hix,d0,d1,-,-⟩ := HN.out.at (by simp) (k := 0) h1n
   have hft : ((List.range n).map (cntP R bs k)).getD 0 0 = cntP R bs k 0 := by simp [List.getD_eq_getElem?_getD,h1n]
   rw [hft] at d0 d1
   have ho0 : oo = 0 := ho
   subst ho0
   have hix0 : ∀ w',(Instr.indexAt 86 (.slice (some ⟨g,0,none⟩) n n) (.int .i64 0)).run Try.prog w' = .ok (.pointer (some ⟨g,0,none⟩)) w' := hix
   have d1 : wr.cell? ⟨g,1,none⟩ = some (.bool (nuO (cntP R bs k 0))) := d1
   have z0 := HC.out.c0
   have z1 := HC.out.c1
   have f0 := HC.out.fz 0
   have f1 := HC.out.fz 1
   generalize cntP R bs k 0 = c at *
   have HE : Hid _ := HZ.out (two2 wr (w.heap.size + 1) (.int .u64 (nuN c)) (.bool (nuO c))) (qs HB.out (by omega) _ _)
   clear HZ HB HV HC HN hix hft ho
   go_wp2
   refine bodyPost_ret (v := nuV c) (by simp [results,Try.results34,go_sem,z0,z1]) rfl ?_
   exact HE.out
def CouA (p : Int) (nA : Nat) (N : List Gd) (gs : List Int) (bs : List Bool) (m v r : Int) : Prop :=
 (¬ MayG p nA N gs ∧ v = 0 ∧ r = 12) ∨ (MayG p nA N gs ∧ ¬ (0 ≤ m ∧ m ≤ 1024) ∧ v = 0 ∧ r = 2) ∨ (MayG p nA N gs ∧ 0 ≤ m ∧ m ≤ 1024 ∧ 18446744073709551616 ≤ cntP (rowsG N gs (2 ^ p.toNat)) bs m.toNat 0 ∧ v = 0 ∧ r = 15) ∨
  (MayG p nA N gs ∧ 0 ≤ m ∧ m ≤ 1024 ∧ cntP (rowsG N gs (2 ^ p.toNat)) bs m.toNat 0 < 18446744073709551616 ∧ v = ((cntP (rowsG N gs (2 ^ p.toNat)) bs m.toNat 0 : Nat) : Int) ∧ r = 0)
def CouR (p : Int) (nA : Nat) (N : List Gd) (gs : List Int) (bs : List Bool) (m : Int) (w : World) (e : Ending) (w' : World) : Prop := Below w.heap.size w w' ∧ ∃ v r,e = .returned (.tuple #[.int .u64 v,.int .i64 r]) ∧ CouA p nA N gs bs m v r
theorem q11 (p : Int) (aA : Option Addr) (nA cA : Nat) (aG : Option Addr) (nG cG : Nat) (aN : Option Addr) (nN cN : Nat) (bs : List Bool) (N : List Gd) (gs : List Int) (m : Int) (w : World) (hB : BoSl w aA nA cA bs) (hN : NdSl w aN nN cN N) (hG : ZSl w aG nG cG gs) (hok : ∀ z ∈ gs,I64 z) :
  Calls Try.prog 16 #[.agg #[.int .i64 p,.slice aA nA cA,.slice aG nG cG,.slice aN nN cN],.int .i64 m] w (CouR p nA N gs bs m w) := by
 obtain ⟨Z,eZ⟩ : ∃ Z,Z = CouR p nA N gs bs m w := ⟨_,rfl⟩
 have HZ : Hid (∀ v r w',Below w.heap.size w w' → CouA p nA N gs bs m v r → Z (.returned (.tuple #[.int .u64 v,.int .i64 r])) w') := fun v r w' hb h1 => by rw [eZ]; exact ⟨hb,v,r,rfl,h1⟩
 rw [← eZ]
 clear eZ
 have hb0 := q6 w (.cells #[.int .i64 p,.slice aA nA cA,.slice aG nG cG,.slice aN nN cN] 26 (0,0))
 have HB0 : Hid _ := hb0
 obtain ⟨c0,c1,c2,c3⟩ := qd w p aA nA cA aG nG cG aN nN cN
 have jl := qm p aA nA cA aG nG cG aN nN cN bs N gs _ (hB.up hb0) (hN.up hb0) (hG.up hb0) hok
 clear hN hG hok hb0 hB
 go_enter Try.func16,Try.ntmps16
 go_wp2_with fail
 refine jl.mono ?_
 rintro e w2 ⟨hb2,⟨hM,rfl⟩ | ⟨hM,aT,cT,rfl,hS⟩⟩
 ·have HE : Hid _ := HZ.out 0 12 (w2.alloc (.cells #[.slice none 0 0,.slice none 0 0] 62 (0,0))) (q5 (q5 HB0.out hb2) (q6 _ _)) (.inl ⟨hM,rfl,rfl⟩)
  clear HZ jl hM
  go_wp2
  exact HE.out
 ·have h256 := hM.s2
  have h1n := hM.s1
  have hk256 := hM.k256
  have hb3 := q6 w2 (.cells #[.slice aA nA cA,.slice aT nA cT] 62 (0,0))
  have HB3 : Hid (Below w.heap.size w (w2.alloc (.cells #[.slice aA nA cA,.slice aT nA cT] 62 (0,0)))) := q5 (q5 HB0.out hb2) hb3
  have hS3 := hS.up hb3
  have m0 := (qa w2 (.slice aA nA cA) (.slice aT nA cT)).c0
  have m1 := (qa w2 (.slice aA nA cA) (.slice aT nA cT)).c1
  by_cases hm0 : m < 0
  ·have HE : Hid _ := HZ.out 0 2 _ HB3.out (.inr (.inl ⟨hM,by omega,rfl,rfl⟩))
   clear HZ jl hM hS hS3 hb2 hb3
   go_wp2
   exact HE.out
  ·by_cases hm1 : 1024 < m
   ·have HE : Hid _ := HZ.out 0 2 _ HB3.out (.inr (.inl ⟨hM,by omega,rfl,rfl⟩))
    clear HZ jl hM hS hS3 hb2 hb3
    go_wp2
    exact HE.out
   ·obtain ⟨k,rfl⟩ := Int.eq_ofNat_of_zero_le (show 0 ≤ m by omega)
    have ja := q1q aA cA aT cT nA (2 ^ p.toNat) bs (rowsG N gs (2 ^ p.toNat)) k _ hS3 (hM.rows _) hk256 (by omega) h256 (by omega)
    have HF : Hid (∀ v r w',Below w.heap.size w w' → ((18446744073709551616 ≤ cntP (rowsG N gs (2 ^ p.toNat)) bs k 0 ∧ v = 0 ∧ r = 15) ∨ (cntP (rowsG N gs (2 ^ p.toNat)) bs k 0 < 18446744073709551616 ∧ v = ((cntP (rowsG N gs (2 ^ p.toNat)) bs k 0 : Nat) : Int) ∧ r = 0)) → Z (.returned (.tuple #[.int .u64 v,.int .i64 r])) w') := fun v r w' hb h => HZ.out v r w' hb (by
     rcases h with ⟨h1,h2,h3⟩ | ⟨h1,h2,h3⟩
     ·exact .inr (.inr (.inl ⟨hM,by omega,by omega,by rw [Int.toNat_natCast]; exact h1,h2,h3⟩))
     ·exact .inr (.inr (.inr ⟨hM,by omega,by omega,by rw [Int.toNat_natCast]; exact h1,by rw [Int.toNat_natCast]; exact h2,h3⟩)))
    clear HZ jl hM hS hS3 hb2 hb3 h256 hk256
    generalize cntP (rowsG N gs (2 ^ p.toNat)) bs k 0 = c at *
    by_cases hc : 18446744073709551616 ≤ c
    ·have ho : nuO c = true := decide_eq_true hc
     rw [nuV,ho] at ja
     go_wp2_with (go_at_call 34; (with_reducible refine ja.mono ?_); rintro e w5 ⟨rfl,hb5⟩; have HE : Hid _ := HF.out 0 15 (w5.alloc (.cells #[.int .u64 (nuN c),.bool true] 69 (0,0))) (q5 (q5 HB3.out hb5) (q6 _ _)) (.inl ⟨hc,rfl,rfl⟩); clear hb5 HF)
     exact HE.out
    ·have ho : nuO c = false := decide_eq_false hc
     have hn := (qT (show c < 18446744073709551616 by omega)).1
     rw [nuV,ho,hn] at ja
     go_wp2_with (go_at_call 34; (with_reducible refine ja.mono ?_); rintro e w5 ⟨rfl,hb5⟩; have HE : Hid _ := HF.out (c : Int) 0 (w5.alloc (.cells #[.int .u64 (c : Int),.bool false] 69 (0,0))) (q5 (q5 HB3.out hb5) (q6 _ _)) (.inr ⟨by omega,rfl,rfl⟩); clear hb5 HF)
     exact HE.out
theorem zlitP (w : World) (zs : List Int) (hl : zs.length ≤ 1000) : ZSl (w.alloc (.cells (zs.map (Value.int .i64)).toArray 3)) (some ⟨w.heap.size,0,none⟩) zs.length zs.length zs := by
 have h : RowI (w.alloc (.cells (zs.map (Value.int .i64)).toArray 3)) 3 w.heap.size zs := (MapKept.heap_alloc w _).1
 have := RowI.zsl (n := zs.length) h Try.underlying23 qc (Nat.le_refl _) (by unfold maxLen; omega)
 rwa [List.take_of_length_le (Nat.le_refl _)] at this
theorem blitP (w : World) (bs : List Bool) (hl : bs.length ≤ 1000) : BoSl (w.alloc (.cells (bs.map Value.bool).toArray 4)) (some ⟨w.heap.size,0,none⟩) bs.length bs.length bs := by
 have hc := (MapKept.heap_alloc w (.cells (bs.map Value.bool).toArray 4)).1
 refine ⟨rfl,Nat.le_refl _,by unfold maxLen; omega,fun e => (by cases e),fun x hx k hk => ?_⟩
 injection hx with hx; subst hx
 rw [q8,Nat.zero_add,q7 hc]
 simp [List.getElem?_eq_getElem hk]
theorem q5H (w : World) (N : List Gd) (hl : N.length ≤ 1000) (hok : ∀ t ∈ N,GdOk t) : NdSl (w.alloc (.cells (encGd N).toArray 74)) (some ⟨w.heap.size,0,none⟩) N.length N.length N := by
 have hc := (MapKept.heap_alloc w (.cells (encGd N).toArray 74)).1
 have hcell : ∀ j u,(encGd N)[j]? = some u → (w.alloc (.cells (encGd N).toArray 74)).cell? ((⟨w.heap.size,0,none⟩ : Addr).add j) = some u := fun j u hj => by
  rw [q8,Nat.zero_add,q7 hc]; simpa using hj
 refine ⟨rfl,Nat.le_refl _,by unfold maxLen; omega,fun e => (by cases e),fun x hx k hk => ?_,fun x hx k hk => ?_,fun x hx k hk => ?_,hok⟩
 ·injection hx with hx; subst hx; exact hcell _ _ (qQ N k hk).1
 ·injection hx with hx; subst hx; exact hcell _ _ (qQ N k hk).2.1
 ·injection hx with hx; subst hx; exact hcell _ _ (qQ N k hk).2.2
structure AuX (w : World) (aA : Option Addr) (nA cA : Nat) (aG : Option Addr) (nG cG : Nat) (aN : Option Addr) (nN cN : Nat) (bs : List Bool) (gs : List Int) (N : List Gd) : Prop where
 bo : BoSl w aA nA cA bs
 zs : ZSl w aG nG cG gs
 nd : NdSl w aN nN cN N
theorem AuX.up {w w' : World} {aA : Option Addr} {nA cA : Nat} {aG : Option Addr} {nG cG : Nat} {aN : Option Addr} {nN cN : Nat} {bs : List Bool} {gs : List Int} {N : List Gd} (h : AuX w aA nA cA aG nG cG aN nN cN bs gs N) (hb : Below w.heap.size w w') : AuX w' aA nA cA aG nG cG aN nN cN bs gs N := ⟨h.bo.up hb,h.zs.up hb,h.nd.up hb⟩
theorem q3m : ∀ z ∈ laG,I64 z := by
 intro z hz
 simp [laG] at hz
 exact ⟨by omega,by omega⟩
theorem q5x (w : World) (o : Obj) (bs : List Bool) (gs : List Int) (N : List Gd) (h1 : bs.length ≤ 1000) (h2 : gs.length ≤ 1000) (h3 : N.length ≤ 1000) (hok : ∀ t ∈ N,GdOk t) :
  AuX ((((w.alloc o).alloc (.cells (bs.map Value.bool).toArray 4)).alloc (.cells (gs.map (Value.int .i64)).toArray 3)).alloc (.cells (encGd N).toArray 74)) (some ⟨w.heap.size + 1,0,none⟩) bs.length bs.length (some ⟨w.heap.size + 1 + 1,0,none⟩) gs.length gs.length (some ⟨w.heap.size + 1 + 1 + 1,0,none⟩) N.length N.length bs gs N ∧ Below w.heap.size w ((((w.alloc o).alloc (.cells (bs.map Value.bool).toArray 4)).alloc (.cells (gs.map (Value.int .i64)).toArray 3)).alloc (.cells (encGd N).toArray 74)) := by
 have b1 := blitP (w.alloc o) bs h1
 have b2 := zlitP ((w.alloc o).alloc (.cells (bs.map Value.bool).toArray 4)) gs h2
 have b3 := q5H (((w.alloc o).alloc (.cells (bs.map Value.bool).toArray 4)).alloc (.cells (gs.map (Value.int .i64)).toArray 3)) N h3 hok
 have e : ∀ (w : World) (o : Obj),(w.alloc o).heap.size = w.heap.size + 1 := fun w o => by simp
 simp only [e] at b1 b2 b3
 exact ⟨⟨(b1.up (q6 _ _)).up (q6 _ _),b2.up (q6 _ _),b3⟩,q5 (q5 (q5 (q6 w _) (q6 _ _)) (q6 _ _)) (q6 _ _)⟩
theorem q5z : ∀ t ∈ laN,GdOk t := fun t ht => by
 simp [laN] at ht
 subst ht
 exact ⟨⟨by decide,by decide⟩,⟨by decide,by decide⟩,⟨by decide,by decide⟩⟩
theorem q36 (w : World) : Calls Try.prog 20 #[] w fun e w' => ∃ a1 c1 a2 c2 a3 c3,e = .returned (.agg #[.int .i64 1,.slice a1 2 c1,.slice a2 2 c2,.slice a3 1 c3]) ∧ Hid (AuX w' a1 2 c1 a2 2 c2 a3 1 c3 laB laG laN) ∧ Hid (Below w.heap.size w w') := by
 have HA : Hid _ := q5x w (.cells #[.int .i64 1,.slice (some ⟨w.heap.size + 1,0,none⟩) 2 2,.slice (some ⟨w.heap.size + 1 + 1,0,none⟩) 2 2,.slice (some ⟨w.heap.size + 1 + 1 + 1,0,none⟩) 1 1] 26) laB laG laN (by decide) (by decide) (by decide) q5z
 go_enter Try.func20,Try.ntmps20
 go_wp2
 refine bodyPost_ret (v := .agg #[.int .i64 1,.slice (some ⟨w.heap.size + 1,0,none⟩) 2 2,.slice (some ⟨w.heap.size + 1 + 1,0,none⟩) 2 2,.slice (some ⟨w.heap.size + 1 + 1 + 1,0,none⟩) 1 1]) ?_ rfl ⟨_,_,_,_,_,_,rfl,HA.out.1,HA.out.2⟩
 simp [results,Try.results20,go_sem]
def lgB (p : Int) (nA nG nN : Nat) : Bool := (decide (3 < p) && decide (p ≤ 8)) || (decide (10 < nA) && decide (nA ≤ 256)) || decide (259 < nA) || decide (40 < nN) || decide (300 < nG)
theorem q5k {p : Int} {nA nG nN : Nat} (h : lgB p nA nG nN = false) : ¬ (3 < p ∧ p ≤ 8) ∧ ¬ (10 < nA ∧ nA ≤ 256) ∧ nA ≤ 259 ∧ nN ≤ 40 ∧ nG ≤ 300 := by
 simp [lgB] at h
 omega
theorem q27 (p : Int) (aA : Option Addr) (nA cA : Nat) (aG : Option Addr) (nG cG : Nat) (aN : Option Addr) (nN cN : Nat) (w : World) :
    Calls Try.prog 7 #[.agg #[.int .i64 p, .slice aA nA cA, .slice aG nG cG, .slice aN nN cN]] w fun e w' => e = .returned (.bool (lgB p nA nG nN)) ∧ Below w.heap.size w w' := by
  have HB0 : Hid _ := q6 w (.cells #[.int .i64 p, .slice aA nA cA, .slice aG nG cG, .slice aN nN cN] 26 (0, 0))
  obtain ⟨c0, c1, c2, c3⟩ := qd w p aA nA cA aG nG cG aN nN cN
  have HE : Hid (∀ b, b = lgB p nA nG nN → (Ending.returned (.bool b) = .returned (.bool (lgB p nA nG nN)))) := fun b h => by rw [h]
  by_cases h1 : 3 < p ∧ p ≤ 8
  · obtain ⟨h1, h2⟩ := h1
    have HF : Hid _ := HE.out true (by simp [lgB, h1, h2])
    clear HE
    go_enter Try.func7, Try.ntmps7
    go_wp2
    go_ret
    exact ⟨HF.out, HB0.out⟩
  · have HS : Hid (∀ Q : Prop, (3 < p → ¬ p ≤ 8 → Q) → (¬ 3 < p → Q) → Q) := fun Q k1 k2 => by
      by_cases h : 3 < p
      · exact k1 h (fun h' => h1 ⟨h, h'⟩)
      · exact k2 h
    have hf1 : (decide (3 < p) && decide (p ≤ 8)) = false := by simp; omega
    clear h1
    by_cases h2 : 10 < nA ∧ nA ≤ 256
    · obtain ⟨h2, h3⟩ := h2
      have h2' : 10 < (nA : Int) := by omega
      have h3' : (nA : Int) ≤ 256 := by omega
      have HF : Hid _ := HE.out true (by simp [lgB, h2, h3])
      clear HE hf1
      refine HS.out _ (fun k1 k2 => ?_) (fun k1 => ?_)
      all_goals
        clear HS
        go_enter Try.func7, Try.ntmps7
        go_wp2
        go_ret
        exact ⟨HF.out, HB0.out⟩
    · have HT : Hid (∀ Q : Prop, (10 < (nA : Int) → ¬ (nA : Int) ≤ 256 → Q) → (¬ 10 < (nA : Int) → Q) → Q) := fun Q k1 k2 => by
        by_cases h : 10 < (nA : Int)
        · exact k1 h (fun h' => h2 ⟨by omega, by omega⟩)
        · exact k2 h
      have hf2 : (decide (10 < nA) && decide (nA ≤ 256)) = false := by simp; omega
      clear h2
      have HV : Hid (lgB p nA nG nN = (decide (259 < (nA : Int)) || decide (40 < (nN : Int)) || decide (300 < (nG : Int)))) := by
        show _ = _
        have e1 : decide (259 < nA) = decide (259 < (nA : Int)) := by congr 1; apply propext; omega
        have e2 : decide (40 < nN) = decide (40 < (nN : Int)) := by congr 1; apply propext; omega
        have e3 : decide (300 < nG) = decide (300 < (nG : Int)) := by congr 1; apply propext; omega
        rw [lgB, hf1, hf2, e1, e2, e3]; rfl
      have HK : Hid (∀ Q : Prop, (259 < (nA : Int) → lgB p nA nG nN = true → Q) → (¬ 259 < (nA : Int) → 40 < (nN : Int) → lgB p nA nG nN = true → Q) → (¬ 259 < (nA : Int) → ¬ 40 < (nN : Int) → 300 < (nG : Int) → lgB p nA nG nN = true → Q) → (¬ 259 < (nA : Int) → ¬ 40 < (nN : Int) → ¬ 300 < (nG : Int) → lgB p nA nG nN = false → Q) → Q) := fun Q k1 k2 k3 k4 => by
        have hV := HV.out
        by_cases h : 259 < (nA : Int)
        · exact k1 h (by rw [hV, decide_eq_true h]; rfl)
        · by_cases h' : 40 < (nN : Int)
          · exact k2 h h' (by rw [hV, decide_eq_true h', Bool.or_true]; rfl)
          · by_cases h'' : 300 < (nG : Int)
            · exact k3 h h' h'' (by rw [hV, decide_eq_true h'', Bool.or_true])
            · exact k4 h h' h'' (by rw [hV, decide_eq_false h, decide_eq_false h', decide_eq_false h'']; rfl)
      clear HE hf1 hf2 HV
      refine HS.out _ (fun k1 k2 => ?_) (fun k1 => ?_) <;> refine HT.out _ (fun k3 k4 => ?_) (fun k3 => ?_) <;> refine HK.out _ (fun k5 kE => ?_) (fun k5 k6 kE => ?_) (fun k5 k6 k7 kE => ?_) (fun k5 k6 k7 kE => ?_)
      all_goals first
        | (exfalso; omega)
        | (rw [kE]
           clear HS HT HK kE
           go_enter Try.func7, Try.ntmps7
           go_wp2
           go_ret
           exact ⟨rfl, HB0.out⟩)
theorem q2W (p : Int) (aA : Option Addr) (nA cA : Nat) (aG : Option Addr) (nG cG : Nat) (aN : Option Addr) (nN cN : Nat) (w : World) (h1 : 0 < nA) (h2 : nG = nA) :
  Calls Try.prog 10 #[.agg #[.int .i64 p,.slice aA nA cA,.slice aG nG cG,.slice aN nN cN]] w fun e w' => e = .returned (.bool true) ∧ Below w.heap.size w w' := by
 subst h2
 have HB0 : Hid _ := q6 w (.cells #[.int .i64 p,.slice aA nG cA,.slice aG nG cG,.slice aN nN cN] 26 (0,0))
 obtain ⟨c0,c1,c2,c3⟩ := qd w p aA nG cA aG nG cG aN nN cN
 have h1' : 0 < (nG : Int) := by omega
 go_enter Try.func10,Try.ntmps10
 go_wp2
 go_ret
 exact ⟨rfl,HB0.out⟩
end Go.Proofs.Ytfbefloajnkhiaa
