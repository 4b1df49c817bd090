/- Texts of the proof, put together: what it uses. -/
import Derived.Deep.RegionLaw
import Derived.Deep.DeepCutAuto
import Derived.Test.YtllebfffmmnoeaaZ02
import Derived.Test.YtllebfffmmnoeaaZ04
import Derived.Test.YtllebfffmmnoeaaZ06
import Derived.Test.YtllebfffmmnoeaaZ10
set_option maxRecDepth 100000
set_option maxHeartbeats 16000000
namespace Go.Proofs.Ytllebfffmmnoeaa
open Go.RowKit Go.Maps Go.Sort
def smB (p : Int) (nA nG nN : Nat) : Bool := decide (nA ≤ 24) && decide (p ≤ 4) && decide (nN ≤ 400) && decide (nG ≤ 300)
theorem q1U (p : Int) (aA : Option Addr) (nA cA : Nat) (aG : Option Addr) (nG cG : Nat) (aN : Option Addr) (nN cN : Nat) (w : World) :
  Calls Try.prog 6 #[.agg #[.int .i64 p,.slice aA nA cA,.slice aG nG cG,.slice aN nN cN]] w fun e w' => e = .returned (.bool (smB p nA nG nN)) ∧ Below w.heap.size w w' := by
 have HB0 : Hid _ := q6 w (.cells #[.int .i64 p,.slice aA nA cA,.slice aG nG cG,.slice aN nN cN] 26 (0,0))
 obtain ⟨c0,c1,c2,c3⟩ := qd w p aA nA cA aG nG cG aN nN cN
 have HE : Hid (∀ b,b = smB p nA nG nN → (Ending.returned (.bool b) = .returned (.bool (smB p nA nG nN)))) := fun b h => by rw [h]
 by_cases h1 : nA ≤ 24
 ·have h1' : (nA : Int) ≤ 24 := by omega
  by_cases h2 : p ≤ 4
  ·by_cases h3 : nN ≤ 400
   ·have h3' : (nN : Int) ≤ 400 := by omega
    by_cases h4 : nG ≤ 300
    ·have h4' : (nG : Int) ≤ 300 := by omega
     have HF : Hid _ := HE.out true (by simp [smB,h1,h2,h3,h4])
     clear HE
     go_enter Try.func6,Try.ntmps6
     go_wp2
     go_ret
     exact ⟨HF.out,HB0.out⟩
    ·have h4' : ¬ (nG : Int) ≤ 300 := by omega
     have HF : Hid _ := HE.out false (by simp [smB,h4])
     clear HE
     go_enter Try.func6,Try.ntmps6
     go_wp2
     go_ret
     exact ⟨HF.out,HB0.out⟩
   ·have h3' : ¬ (nN : Int) ≤ 400 := by omega
    have HF : Hid _ := HE.out false (by simp [smB,h3])
    clear HE
    go_enter Try.func6,Try.ntmps6
    go_wp2
    go_ret
    exact ⟨HF.out,HB0.out⟩
  ·have HF : Hid _ := HE.out false (by simp [smB,h2])
   clear HE
   go_enter Try.func6,Try.ntmps6
   go_wp2
   go_ret
   exact ⟨HF.out,HB0.out⟩
 ·have h1' : ¬ (nA : Int) ≤ 24 := by omega
  have HF : Hid _ := HE.out false (by simp [smB,h1])
  clear HE
  go_enter Try.func6,Try.ntmps6
  go_wp2
  go_ret
  exact ⟨HF.out,HB0.out⟩
abbrev LtN (w : World) (a : Option Addr) (len cap : Nat) (ts : List Nat) : Prop := IntSl Try.prog 39 .u8 w a len cap (ts.map Int.ofNat)
structure LeI (R : List (List Nat)) (n q0 : Nat) (ts : List Nat) (w : World) (i q : Nat) (wr : World) : Prop where
 bel : Below w.heap.size w wr
 lt : q < n
 is : q = runP R q0 (ts.take i)
theorem q3W {p : Int} {ns : Nat} {N : List Gd} {gs : List Int} (h : MayG p ns N gs) {q : Nat} (hq : q < gs.length) : I64 (gs.getD q 0) := by
 have hg : gs.getD q 0 ∈ gs := by rw [List.getD_eq_getElem?_getD,List.getElem?_eq_getElem hq]; exact List.getElem_mem hq
 have h1 := h.few
 have h0 := h.s2
 unfold I64
 rcases h.gd _ hg with ⟨h2,h3⟩ | ⟨j,h2,h3,_⟩
 ·constructor <;> omega
 ·rw [h2]; constructor <;> omega
theorem qv (p : Int) (aA : Option Addr) (nA cA : Nat) (aG : Option Addr) (nG cG : Nat) (aN : Option Addr) (nN cN : Nat) (N : List Gd) (gs : List Int) (q0 : Nat) (d : Option Addr) (m c : Nat) (ts : List Nat) (w : World) (hM : MayG p nA N gs) (hN : NdSl w aN nN cN N) (hG : ZSl w aG nG cG gs) (hL : LtN w d m c ts) (hsm : ∀ x ∈ ts,x < 2 ^ p.toNat) (hq0 : q0 < nA) :
  Calls Try.prog 23 #[.agg #[.int .i64 p,.slice aA nA cA,.slice aG nG cG,.slice aN nN cN],.int .i64 (q0 : Int),.slice d m c] w fun e w' => e = .returned (.tuple #[.int .i64 ((runP (rwA p N gs) q0 ts : Nat) : Int),.bool true]) ∧ Below w.heap.size w w' := by
 obtain ⟨Q,hQ⟩ : ∃ Q : Ending → World → Prop,Q = fun e w' => e = .returned (.tuple #[.int .i64 ((runP (rwA p N gs) q0 ts : Nat) : Int),.bool true]) ∧ Below w.heap.size w w' := ⟨_,rfl⟩
 have HQ : Hid (∀ w',Below w.heap.size w w' → Q (.returned (.tuple #[.int .i64 ((runP (rwA p N gs) q0 ts : Nat) : Int),.bool true])) w') := fun w' h => by rw [hQ]; exact ⟨rfl,h⟩
 rw [← hQ]
 clear hQ
 have HV0 : Hid _ := qd w p aA nA cA aG nG cG aN nN cN
 have HB0 : Hid _ := q6 w (.cells #[.int .i64 p,.slice aA nA cA,.slice aG nG cG,.slice aN nN cN] 26 (0,0))
 have HM : Hid _ := hM
 have HN : Hid _ := hN
 have HG : Hid _ := hG
 have HL : Hid _ := hL
 have HSM : Hid _ := hsm
 have HLN : Hid (ts.length = m) := by have := hL.hlen; rwa [List.length_map] at this
 have HRL : Hid (gs.length = nA) := hM.len
 have HnG : Hid (nG = nA) := hG.hlen.symm.trans hM.len
 have h256 : nA ≤ 256 := hM.s2
 have hk256 := hM.k256
 have HR : Hid _ := hM.rows (2 ^ p.toNat)
 have hmb := Nat.le_trans hL.hcap hL.bd
 unfold maxLen at hmb
 obtain ⟨w1,hw1⟩ : ∃ w1,w1 = w.alloc (.cells #[.int .i64 p,.slice aA nA cA,.slice aG nG cG,.slice aN nN cN] 26 (0,0)) := ⟨_,rfl⟩
 have HW1 : Hid _ := hw1
 rw [← hw1] at HB0 HV0
 clear hM hN hG hL hsm hw1
 go_enter Try.func23,Try.ntmps23
 go_wp2
 rw [← HW1.out]
 go_loopw [1,8] (fun v j wr => ∃ (i q : Nat),i ≤ m ∧ j = .int .i64 (i : Int) ∧ v = .int .i64 (q : Int) ∧ Hid (LeI (rwA p N gs) nA q0 ts w1 i q wr)) (fun _ j _ => m - (intOf j).toNat)
 case atStart => exact ⟨0,q0,Nat.zero_le _,rfl,rfl,Below.refl _ _,hq0,rfl⟩
 case round =>
  obtain ⟨i,q,hi,rfl,rfl,HI⟩ := hrel
  have hq := HI.out.lt
  have hbw := q5 HB0.out HI.out.bel
  obtain ⟨c0,c1,c2,c3⟩ := HV0.out.up HI.out.bel
  by_cases hlt : i < m
  ·have hit : i < ts.length := by have := HLN.out; omega
   have hS := HL.out.up hbw
   have hixl := fun w' => hS.idx m i w' hlt (Nat.le_refl _)
   have hcl := hS.cell i hlt
   rw [qg hit] at hcl
   have hzn : ts.getD i 0 < 2 ^ p.toNat := HSM.out _ (by rw [List.getD_eq_getElem?_getD,List.getElem?_eq_getElem hit]; exact List.getElem_mem hit)
   have hv1 := HM.out.tr (K := 2 ^ p.toNat) (s := q) (x := ts.getD i 0) hq hzn
   have hv2 := HR.out.lt q (ts.getD i 0) hq hzn
   have hqR : q < nG := by have := HnG.out; omega
   have hixg := fun w' => HG.out.idx nG q w' hqR (Nat.le_refl _)
   have hcg := (HG.out.up hbw).cell q hqR
   have hi64 := q3W HM.out (q := q) (by have := HRL.out; omega)
   have HI2 : Hid (∀ wx,Below wr.heap.size wr wx → LeI (rwA p N gs) nA q0 ts w1 (i + 1) (trP (rwA p N gs) q (ts.getD i 0)) wx) := fun wx hb => ⟨q5 HI.out.bel hb,hv2,by
    rw [List.take_add_one,List.getElem?_eq_getElem hit,Option.toList_some,q19,← HI.out.is,List.getD_eq_getElem?_getD,List.getElem?_eq_getElem hit]
    rfl⟩
   generalize ts.getD i 0 = z at *
   have hz256 : z < 256 := by omega
   have cS : ∀ d os,Calls Try.prog 37 #[.slice aN nN cN,.int .i64 (gs.getD q 0),.int .u8 (z : Int)] (grow (redrawn wr d) os) fun e w'' => e = .returned (.tuple #[.int .i64 ((trP (rwA p N gs) q z : Nat) : Int),.bool true]) ∧ ∃ p : Regrown,w'' = grow (redrawn wr p.d) p.os := fun d os => by
    have hb := below_regrown wr d os
    refine (q1g aN nN cN N (gs.getD q 0) z _ ((HN.out.up hbw).up hb) hi64 hz256).mono ?_
    rintro e w'' ⟨rfl,h2⟩
    rw [hv1]
    exact ⟨rfl,regrown_of_below (q5 hb h2)⟩
   have HE : Hid (∀ d os,Below wr.heap.size wr (grow (redrawn wr d) os)) := fun d os => below_regrown wr d os
   have dq0 : decide ((q : Int) < 0) = false := by simp
   have dq1 : decide (nG ≤ q) = false := by simp; exact hqR
   have k2 := cell_regrown c2
   have k3 := cell_regrown c3
   have kg := cell_regrown hcg
   have kl := cell_regrown hcl
   clear hcg hcl hi64 hS c0 c1 c3 HI hv1 hv2 hzn hbw
   generalize gs.getD q 0 = rq at *
   generalize trP (rwA p N gs) q z = v at *
   generalize adOf aG q = ag at *
   generalize adOf d i = al at *
   obtain ⟨ag1,ag2,ag3⟩ := ag
   obtain ⟨al1,al2,al3⟩ := al
   go_wp2_with fail
   clear c2
   refine wp_region_quiet_below (by kernel_rfl) (by kernel_rfl) ?_
   repeat (go_big_quiet_step (exact cS _ _))
   refine wpQuiet_nil ?_
   intro _ hw'
   obtain ⟨⟨dq,osq⟩,hw''⟩ := hw'
   subst hw''
   have HI3 : Hid _ := HI2.out _ (HE.out dq osq)
   generalize grow (redrawn wr dq) osq = wx at *
   clear cS k2 k3 kg kl HI2 HE
   go_wp2
   go_roundw
   case rel => exact ⟨i + 1,v,by omega,by go_num,rfl,HI3⟩
   case measure => simp [intOf] <;> omega
  ·obtain rfl : i = m := by omega
   have hfin : q = runP (rwA p N gs) q0 ts := by rw [HI.out.is,List.take_of_length_le (by rw [HLN.out]; exact Nat.le_refl _)]
   have HR2 : Hid (∀ wx,Below wr.heap.size wr wx → Q (.returned (.tuple #[.int .i64 (q : Int),.bool true])) wx) := fun wx hb => by rw [hfin]; exact HQ.out _ (q5 hbw hb)
   have dq0 : decide ((0 : Int) ≤ (q : Int)) = true := by simp
   have dq1 : decide ((q : Int) < (nA : Int)) = true := by simp; exact hq
   clear HI hfin hbw HQ c0 c2 c3
   go_wp2_with fail
   go_quiet (fail)
   go_wp2
   exact HR2.out _ (qe ⟨_,rfl⟩)
end Go.Proofs.Ytllebfffmmnoeaa
namespace Go.Proofs.Ytllebfffmmnoeaa
open Go.RowKit Go.Maps
theorem qU (k : Int) (n : Nat) (w : World) (hn : 1 ≤ n) (hn2 : n ≤ 1000) :
  Calls Try.prog 22 #[.int .i64 k,.int .i64 (n : Int)] w fun e w' => ∃ i : Nat,i < n ∧ e = .returned (.int .i64 (i : Int)) ∧ w' = w := by
 have b1 : k.tmod n < n := Int.tmod_lt_of_pos k (by omega)
 have b2 : -(n : Int) < k.tmod n := Int.lt_tmod_of_pos k (by omega)
 have hn0 : ¬ ((n : Int) = 0) := by omega
 have hn1 : ¬ ((n : Int) < 1) := by omega
 have hw : IntKind.i64.wrap (k.tmod n) = k.tmod n := by rw [IntKind.wrap_i64]; omega
 by_cases h0 : k.tmod n < 0
 ·have hw2 : IntKind.i64.wrap (k.tmod n + n) = k.tmod n + n := by rw [IntKind.wrap_i64]; omega
  go_enter Try.func22,Try.ntmps22
  go_wp2
  go_ret
  exact ⟨(k.tmod n + n).toNat,by omega,by show Ending.returned (Value.int IntKind.i64 (k.tmod n + n)) = _; rw [Int.toNat_of_nonneg (by omega)],rfl⟩
 ·go_enter Try.func22,Try.ntmps22
  go_wp2
  go_ret
  exact ⟨(k.tmod n).toNat,by omega,by show Ending.returned (Value.int IntKind.i64 (k.tmod n)) = _; rw [Int.toNat_of_nonneg (by omega)],rfl⟩
end Go.Proofs.Ytllebfffmmnoeaa
namespace Go.Proofs.Ytllebfffmmnoeaa
open Go.RowKit Go.Maps Go.Sort
def cutN (K : Nat) (zs : List Int) : List Nat := zs.map fun z => z.toNat % K
theorem q3y {K : Nat} (hK : 0 < K) (zs : List Int) : ∀ x ∈ cutN K zs,x < K := fun x hx => by
 obtain ⟨z,_,rfl⟩ := List.mem_map.1 hx
 exact Nat.mod_lt _ hK
theorem q3G {K : Nat} {zs : List Int} {i : Nat} (h : i < zs.length) : (cutN K zs).take (i + 1) = (cutN K zs).take i ++ [(zs.getD i 0).toNat % K] := by
 have hl : i < (cutN K zs).length := by rw [cutN,List.length_map]; exact h
 rw [List.take_add_one,List.getElem?_eq_getElem hl]
 simp [cutN,List.getD_eq_getElem?_getD,List.getElem?_eq_getElem h]
theorem maskP {z k : Nat} (hz : z < 256) (hk : k ≤ 4) : bits BinOp.and IntKind.u8 (z : Int) (IntKind.u8.wrap (IntKind.u8.wrap (2 ^ k) - 1)) = ((z % 2 ^ k : Nat) : Int) := by
 have hkk : k = 0 ∨ k = 1 ∨ k = 2 ∨ k = 3 ∨ k = 4 := by omega
 have key : ∀ j,j ≤ 4 → IntKind.u8.wrap (IntKind.u8.wrap (2 ^ j) - 1) = ((2 ^ j - 1 : Nat) : Int) := by decide
 rw [key k hk]
 have h2 : 2 ^ k - 1 < 256 := by rcases hkk with rfl | rfl | rfl | rfl | rfl <;> decide
 rw [u8_and_nat z (2 ^ k - 1) hz h2,Nat.and_two_pow_sub_one_eq_mod]
theorem q2v {w : World} {ops : Array Oper} {o : Oper} {a : Act} {K : Act → World → Prop} {Q : Exit → Act → World → Prop} {E : Prop} (hw : Region.wanted o (yielded ops a.tmps) = true) (s x : Operand)
  (ho : o.op = .call { callee := .builtin .append,args := #[s,x],argTypes := #[39,39] }) (base : Nat)
  (v : Value) (n : Nat) (xs : List Value) (y : Int) (g : Nat) (hs : a.eval s = v) (hx : a.eval x = .slice (some ⟨g,0,none⟩) 1 1) (hown : w.ownsRow base 54 1 v n xs)
  (hB : w.cell? ⟨g,0,none⟩ = some (.int .u8 y)) (hn : n + 1 ≤ 140737488355328) (hbase : base ≤ w.heap.size)
  (h : ∀ v' w',w'.ownsRow base 54 1 v' (n + 1) (xs ++ [.int .u8 y]) → w.grownBy w' v.ownBlock → K (a.put o.dst v') w') :
  if Region.wanted o (yielded ops a.tmps) = true then Oper.wp Try.prog o a w K Q else E := by
 rw [if_pos hw]
 obtain ⟨i,hi,hz0,hz1,hz2⟩ := info_parts q10
 obtain ⟨v',w',hr,h2,h3,_,_⟩ := run_append_own_at (P := Try.prog) w base 39 o.type 54 i _ 1 1 Try.underlying39 hi hz0 hz1 hz2 rfl (by decide) v n _ hown ⟨g,0,none⟩ 1 1 [.int .u8 y] rfl (fun j u hj => by
  match j with
  | 0 => simp at hj; rw [← hj,q8]; exact hB
  | j + 1 => simp at hj) (fun u hu => by simp at hu; subst hu; rfl) (by unfold maxLen; omega) (by omega) hbase
 unfold Oper.wp execOp
 simp only [ho,resolve,invoke,builtin,Sem.run_bind,Sem.run_pure,Result.andThen_ok,List.map_toArray,List.map_cons,List.map_nil,hs,hx,hr]
 exact h v' w' h2 h3
theorem q3e {w : World} {base n : Nat} {a : Option Addr} {c : Nat} {ts : List Nat} (h : w.ownsRow base 54 1 (.slice a n c) n (ltV ts)) : LtN w a n c ts := by
 have h1 : w.ownsRow base 54 1 (.slice a n c) n ((ts.map Int.ofNat).map (Value.int .u8)) := by rw [List.map_map]; exact h
 obtain ⟨a',c',e,hS,_⟩ := q2x h1 Try.underlying39 qr
 injection e with e1 _ e3
 subst e1; subst e3
 exact hS
theorem q1m (p : Int) (aA : Option Addr) (nA cA : Nat) (aG : Option Addr) (nG cG : Nat) (aN : Option Addr) (nN cN : Nat) (bs : List Bool) (gs : List Int) (N : List Gd) (p0 q0 : Int) (d : Option Addr) (m c : Nat) (zs : List Int) (w : World) (hB : BoSl w aA nA cA bs) (hG : ZSl w aG nG cG gs) (hN : NdSl w aN nN cN N) (hok : ∀ z ∈ gs,I64 z) (hL : IntSl Try.prog 39 .u8 w d m c zs) (hz : ∀ z ∈ zs,0 ≤ z ∧ z < 256) (hr : c ≤ 140737488351232) :
  Calls Try.prog 4 #[.agg #[.int .i64 p,.slice aA nA cA,.slice aG nG cG,.slice aN nN cN],.int .i64 p0,.int .i64 q0,.slice d m c] w fun e w' => e = .returned (.bool true) ∧ Below w.heap.size w w' := by
 obtain ⟨Q,hQ⟩ : ∃ Q : Ending → World → Prop,Q = fun e w' => e = .returned (.bool true) ∧ Below w.heap.size w w' := ⟨_,rfl⟩
 have HQ : Hid (∀ w',Below w.heap.size w w' → Q (.returned (.bool true)) w') := fun w' h => by rw [hQ]; exact ⟨rfl,h⟩
 rw [← hQ]
 clear hQ
 have HA0 : Hid _ := qd w p aA nA cA aG nG cG aN nN cN
 have HB0 : Hid (Below w.heap.size w (w.alloc (.cells #[.int .i64 p,.slice aA nA cA,.slice aG nG cG,.slice aN nN cN] 26 (0,0)))) := q6 w _
 have jw := qM (w.alloc (.cells #[.int .i64 p,.slice aA nA cA,.slice aG nG cG,.slice aN nN cN] 26 (0,0)))
 have HHB : Hid _ := hB
 have HHG : Hid _ := hG
 have HHN : Hid _ := hN
 have HOK : Hid _ := hok
 have HHL : Hid _ := hL
 have HZ : Hid _ := hz
 have hmc := hL.hcap
 clear hB hG hN hok hL hz
 go_enter Try.func4,Try.ntmps4
 go_wp2_with fail
 refine jw.mono ?_
 rintro e w1 ⟨rfl,hb1⟩
 have HB1 : Hid (Below w.heap.size w w1) := q5 HB0.out hb1
 have HA1 : Hid (AuB w1 w.heap.size p aA nA cA aG nG cG aN nN cN) := HA0.out.up hb1
 have jc := qD p aA nA cA aG nG cG aN nN cN bs N gs w1 (HHB.out.up HB1.out) (HHN.out.up HB1.out) (HHG.out.up HB1.out) HOK.out
 obtain ⟨c0,c1,c2,c3⟩ := HA1.out
 clear jw hb1 HB0 HA0
 go_wp2_with fail
 refine jc.mono ?_
 rintro e w2 ⟨hb2,hcase⟩
 have HB2 : Hid (Below w.heap.size w w2) := q5 HB1.out hb2
 have HA2 : Hid (AuB w2 w.heap.size p aA nA cA aG nG cG aN nN cN) := HA1.out.up hb2
 have js := q1U p aA nA cA aG nG cG aN nN cN w2
 clear c0 c1 c2 c3 jc hb2 HA1 HB1
 obtain ⟨c0,c1,c2,c3⟩ := HA2.out
 rcases hcase with ⟨hM,rfl⟩ | ⟨hM,kk,gc,hgc,hmm,rfl,hrow⟩
 ·have HE : Hid (∀ w3,Below w2.heap.size w2 w3 → Q (.returned (.bool true)) w3) := fun w3 h => HQ.out w3 (q5 HB2.out h)
  clear hM HQ
  generalize smB p nA nG nN = sb at *
  go_wp2_with fail
  refine js.mono ?_
  rintro e w3 ⟨rfl,hb3⟩
  have HE3 : Hid _ := HE.out w3 hb3
  clear js hb3 HE
  cases sb with
  | true =>
   go_wp2
   exact HE3.out
  | false =>
   go_wp2
   exact HE3.out
 ·have HM : Hid _ := hM
  have HROW : Hid (RowI w2 3 gc ((clsP (rwA p N gs) bs nA kk).map Int.ofNat)) := hrow
  have HMM : Hid _ := hmm
  clear hM hrow hmm
  generalize hsb : smB p nA nG nN = sb at *
  have HSB : Hid _ := hsb
  clear hsb
  go_wp2_with fail
  refine js.mono ?_
  rintro e w3 ⟨rfl,hb3⟩
  have HB3 : Hid (Below w.heap.size w w3) := q5 HB2.out hb3
  have HA3 : Hid (AuB w3 w.heap.size p aA nA cA aG nG cG aN nN cN) := HA2.out.up hb3
  have HR3 : Hid (RowI w3 3 gc ((clsP (rwA p N gs) bs nA kk).map Int.ofNat)) := HROW.out.up hb3
  clear js hb3 HA2 HB2 HROW c0 c1 c2 c3
  cases sb with
  | false =>
   have HE3 : Hid _ := HQ.out w3 HB3.out
   clear HQ
   go_wp2
   exact HE3.out
  | true =>
   obtain ⟨c0,c1,c2,c3⟩ := HA3.out
   have hn1 := HM.out.s1
   have hn24 : nA ≤ 24 := by have := HSB.out; simp [smB] at this; omega
   have hp0 := HM.out.p0
   have hp4 : p ≤ 4 := by have := HSB.out; simp [smB] at this; omega
   have jp := fun w => qU p0 nA w hn1 (by omega)
   have jq := fun w => qU q0 nA w hn1 (by omega)
   have hne : ¬ (nA : Int) = 0 := by omega
   have hne2 : ((nA : Int) == 0) = false := by simp; omega
   have hne3 : ((nA : Int) != (nA : Int)) = false := by simp
   go_wp2_with fail
   refine (jp _).mono ?_
   rintro e w4 ⟨x,hx,rfl,hw4⟩
   obtain rfl := hw4.symm
   go_wp2_with fail
   refine (jq _).mono ?_
   rintro e w5 ⟨y,hy,rfl,hw5⟩
   obtain rfl := hw5.symm
   clear jp jq
   have ht := qx p aA nA cA aG nG cG aN nN cN bs N gs (x : Int) (y : Int) w3 (HHB.out.up HB3.out) (HHN.out.up HB3.out) (HHG.out.up HB3.out) HOK.out
   go_wp2_with fail
   refine ht.mono ?_
   rintro e w6 ⟨hb6,⟨hno,_⟩ | ⟨_,hno,_⟩ | ⟨_,_,ts,is,u,cu,rfl,hPA,hown⟩⟩
   ·exact absurd HM.out hno
   ·exact absurd ⟨by omega,by omega,by omega,by omega⟩ hno
   simp only [Int.toNat_natCast] at hPA
   have HB6 : Hid (Below w.heap.size w w6) := q5 HB3.out hb6
   have HA6 : Hid (AuB w6 w.heap.size p aA nA cA aG nG cG aN nN cN) := HA3.out.up hb6
   have HR6 : Hid (RowI w6 3 gc ((clsP (rwA p N gs) bs nA kk).map Int.ofNat)) := HR3.out.up hb6
   have hcl := qR (rwA p N gs) bs nA kk
   have HCL : Hid _ := hcl
   have HAL : Hid (∀ a b,a < nA → b < nA → ((clsP (rwA p N gs) bs nA kk).getD a 0 = (clsP (rwA p N gs) bs nA kk).getD b 0 ↔ AlikeP (2 ^ p.toNat) (rwA p N gs) bs a b)) := fun a b ha hb => qA (HM.out.rows _) HMM.out ha hb
   have HC : Hid (∀ a,a < nA → w6.cell? ⟨gc,a,none⟩ = some (.int .i64 (((clsP (rwA p N gs) bs nA kk).getD a 0 : Nat) : Int))) := fun a ha => (HR6.out.cell (by rw [List.length_map,hcl]; exact ha)).trans (by rw [qg (by rw [hcl]; exact ha)])
   have ia : ∀ (a : Nat),a < nA → ∀ w',(Instr.indexAt 23 (.slice (some ⟨gc,0,none⟩) nA nA) (.int .i64 (a : Int))).run Try.prog w' = .ok (.pointer (some ⟨gc,a,none⟩)) w' := fun a ha w' => by
    have := qf (P := Try.prog) (T := 23) Try.underlying23 qc (a := some ⟨gc,0,none⟩) (cap := nA) (n := nA) (fun e => by cases e) a w' ha
    simpa [adOf,q8] using this
   have ix := ia x hx
   have iy := ia y hy
   have cx := HC.out x hx
   have cy := HC.out y hy
   have HIA : Hid _ := ia
   clear ht hb6 HA3 HB3 HR3 c0 c1 c2 c3 hcl ia
   rcases hPA with ⟨rfl,hlt,hdf,_⟩ | ⟨rfl,hts,hak⟩
   ·have hcc : ¬ (clsP (rwA p N gs) bs nA kk).getD x 0 = (clsP (rwA p N gs) bs nA kk).getD y 0 := fun e => hdf ((HAL.out x y hx hy).1 e ts hlt)
    have HDF : Hid _ := hdf
    have HLT : Hid _ := hlt
    have HOW : Hid (w6.ownsRow w3.heap.size 54 1 (.slice u ts.length cu) ts.length (ltV ts)) := hown
    generalize (clsP (rwA p N gs) bs nA kk).getD x 0 = vx at *
    generalize (clsP (rwA p N gs) bs nA kk).getD y 0 = vy at *
    have hvv : ((vx : Int) == (vy : Int)) = false := by rw [q1o]; simp; exact hcc
    clear hcc hdf hlt hown
    generalize hTL : ts.length = tl at *
    have HTL : Hid _ := hTL
    clear hTL
    go_wp2_with fail
    go_quiet (fail)
    have HBz : Hid (Below w.heap.size w (w6.drewN nq)) := q5 HB6.out (qe ⟨_,rfl⟩)
    have HAz : Hid (AuB (w6.drewN nq) w.heap.size p aA nA cA aG nG cG aN nN cN) := HA6.out.up (qe ⟨_,rfl⟩)
    have HLz : Hid (LtN (w6.drewN nq) u tl cu ts) := by
     have := q3e HOW.out
     exact IntSl.drewN this nq
    have hxr := (HM.out.rows (2 ^ p.toNat)).run ts x hx HLT.out
    have hyr := (HM.out.rows (2 ^ p.toNat)).run ts y hy HLT.out
    generalize w6.drewN nq = wz at *
    obtain ⟨c0,c1,c2,c3⟩ := HAz.out
    have j1 := qv p aA nA cA aG nG cG aN nN cN N gs x u tl cu ts wz HM.out (HHN.out.up HBz.out) (HHG.out.up HBz.out) HLz.out HLT.out hx
    have J2 : Hid (∀ wx,Below wz.heap.size wz wx → Calls Try.prog 23 #[.agg #[.int .i64 p,.slice aA nA cA,.slice aG nG cG,.slice aN nN cN],.int .i64 (y : Int),.slice u tl cu] wx fun e w' => e = .returned (.tuple #[.int .i64 ((runP (rwA p N gs) y ts : Nat) : Int),.bool true]) ∧ Below wx.heap.size wx w') := fun wx hb => qv p aA nA cA aG nG cG aN nN cN N gs y u tl cu ts wx HM.out ((HHN.out.up HBz.out).up hb) ((HHG.out.up HBz.out).up hb) (HLz.out.up hb) HLT.out hy
    clear cx cy ix iy HR6 HC HB6 HA6 HOW
    generalize runP (rwA p N gs) x ts = xr at *
    generalize runP (rwA p N gs) y ts = yr at *
    go_wp2_with fail
    refine j1.mono ?_
    rintro e w7 ⟨rfl,hb7⟩
    have j2 := J2.out w7 hb7
    have HB7 : Hid (Below w.heap.size w w7) := q5 HBz.out hb7
    have HA7 : Hid (AuB w7 w.heap.size p aA nA cA aG nG cG aN nN cN) := HAz.out.up hb7
    clear j1 J2 hb7 c0 c1 c2 c3 HAz HBz HLz
    obtain ⟨c0,c1,c2,c3⟩ := HA7.out
    go_wp2_with fail
    refine j2.mono ?_
    rintro e w8 ⟨rfl,hb8⟩
    have HB8 : Hid (Below w.heap.size w w8) := q5 HB7.out hb8
    have HA8 : Hid (AuB w8 w.heap.size p aA nA cA aG nG cG aN nN cN) := HA7.out.up hb8
    clear j2 hb8 c0 c1 c2 c3 HA7 HB7
    obtain ⟨c0,c1,c2,c3⟩ := HA8.out
    obtain ⟨ib1,cb1⟩ := (HHB.out.up HB8.out).at xr hxr
    obtain ⟨ib2,cb2⟩ := (HHB.out.up HB8.out).at yr hyr
    have ib1 := fun w' => ib1 nA w' hxr
    have ib2 := fun w' => ib2 nA w' hyr
    have hbl := HHB.out.hlen
    have hbb : bs[xr] ≠ bs[yr] := by
     have := HDF.out
     rwa [List.getD_eq_getElem?_getD,List.getElem?_eq_getElem (by omega),List.getD_eq_getElem?_getD,List.getElem?_eq_getElem (by omega)] at this
    generalize bs[xr] = b1 at *
    generalize bs[yr] = b2 at *
    have HE : Hid (∀ nq,Q (.returned (.bool true)) (w8.drewN nq)) := fun nq => HQ.out _ (q5 HB8.out (qe ⟨_,rfl⟩))
    clear HDF hbl HQ
    generalize adOf aA xr = ad1 at *
    obtain ⟨a1g,a1o,a1z⟩ := ad1
    generalize adOf aA yr = ad2 at *
    obtain ⟨a2g,a2o,a2z⟩ := ad2
    cases b1 <;> cases b2 <;> first | exact absurd rfl hbb | skip
    all_goals
     go_wp2_with fail
     go_quiet (fail)
     go_wp2
     exact HE.out _
   ·have hcc : (clsP (rwA p N gs) bs nA kk).getD x 0 = (clsP (rwA p N gs) bs nA kk).getD y 0 := (HAL.out x y hx hy).2 hak
    subst hts
    have HAK : Hid _ := hak
    rw [← hcc] at cy
    generalize (clsP (rwA p N gs) bs nA kk).getD x 0 = vx at *
    have hvv : ((vx : Int) == (vx : Int)) = true := by simp
    obtain ⟨P,rfl⟩ := Int.eq_ofNat_of_zero_le hp0
    have hP4 : P ≤ 4 := by omega
    have hmin : min P 64 = P := by omega
    clear hcc hak hown
    go_wp2_with fail
    go_quiet (fail)
    have HBz : Hid (Below w.heap.size w (w6.drewN nq)) := q5 HB6.out (qe ⟨_,rfl⟩)
    have HAz : Hid (AuB (w6.drewN nq) w.heap.size (P : Int) aA nA cA aG nG cG aN nN cN) := HA6.out.up (qe ⟨_,rfl⟩)
    have HRz : Hid (RowI (w6.drewN nq) 3 gc ((clsP (rwA (P : Int) N gs) bs nA kk).map Int.ofNat)) := HR6.out.up (qe ⟨_,rfl⟩)
    generalize w6.drewN nq = wz at *
    clear cx cy ix iy HR6 HC HB6 HA6
    go_wp2
    go_loopw [20,21] (fun v j wr => ∃ (i : Nat),i ≤ m ∧ j = .int .i64 (i : Int) ∧ Hid (wr.ownsRow wz.heap.size 54 1 v i (ltV ((cutN (2 ^ P) zs).take i))) ∧ Hid (Below wz.heap.size wz wr)) (fun _ j _ => m - (intOf j).toNat)
    case atStart => exact ⟨0,Nat.zero_le _,rfl,⟨rfl,Or.inl ⟨rfl,rfl⟩⟩,Below.refl _ _⟩
    case round =>
     obtain ⟨i,hi,rfl,HO,HB⟩ := hrel
     have HBW : Hid (Below w.heap.size w wr) := q5 HBz.out HB.out
     by_cases hlt : i < m
     ·have hiz : i < zs.length := by have := HHL.out.hlen; omega
      have hS := HHL.out.up HBW.out
      have hidx := fun w' => hS.idx m i w' hlt (Nat.le_refl _)
      have hce := hS.cell i hlt
      have hok := HZ.out (zs.getD i 0) (by rw [List.getD_eq_getElem?_getD,List.getElem?_eq_getElem hiz]; exact List.getElem_mem hiz)
      have HTK : Hid _ := q3G (K := 2 ^ P) hiz
      generalize zs.getD i 0 = zz at *
      obtain ⟨z,rfl⟩ := Int.eq_ofNat_of_zero_le hok.1
      obtain ⟨av,cv,rfl⟩ := qt HO.out
      generalize adOf d i = ad at *
      obtain ⟨ga,oa,sa⟩ := ad
      have HMK : Hid _ := maskP (z := z) (k := P) (by omega) hP4
      have hO8 : (wr.alloc (.cells #[.int .u8 (bits BinOp.and IntKind.u8 (z : Int) (IntKind.u8.wrap (IntKind.u8.wrap (2 ^ P) - 1)))] 54)).drew.ownsRow wz.heap.size 54 1 (.slice av i cv) i (ltV ((cutN (2 ^ P) zs).take i)) := World.ownsRow.alloc HO.out _
      have hc8 : (wr.alloc (.cells #[.int .u8 (bits BinOp.and IntKind.u8 (z : Int) (IntKind.u8.wrap (IntKind.u8.wrap (2 ^ P) - 1)))] 54)).drew.cell? ⟨wr.heap.size,0,none⟩ = some (.int .u8 (bits BinOp.and IntKind.u8 (z : Int) (IntKind.u8.wrap (IntKind.u8.wrap (2 ^ P) - 1)))) := q7 (MapKept.heap_alloc wr _).1 0
      have hw0 : wz.heap.size ≤ wr.heap.size := HB.out.size
      have c0 := (HAz.out.up HB.out).c0
      have g1 : ga < wr.heap.size := World.block_lt_of_cell? _ _ hce
      have g2 : w.heap.size < wr.heap.size := World.block_lt_of_cell? _ _ c0
      have him : i + 1 ≤ 140737488355328 := by omega
      clear hS
      go_wp2
      go_region_law ((refine q2v rfl _ _ rfl wz.heap.size (.slice av i cv) i _ _ wr.heap.size rfl rfl hO8 hc8 him (by simp; omega) ?_; intro v5 w5 hown5 hgr5; obtain ⟨a5,k5,rfl⟩ := qt hown5))
      all_goals
       have HO5 : Hid (w5.ownsRow wz.heap.size 54 1 (.slice a5 (i + 1) k5) (i + 1) (ltV ((cutN (2 ^ P) zs).take (i + 1)))) := by
        show _
        rw [HTK.out,ltV,List.map_append]
        have h5 := hown5
        rw [HMK.out] at h5
        exact h5
       have HB5 : Hid (Below wz.heap.size wz w5) := by
        have h1 := HB.out.trans ((q6 wr (.cells #[.int .u8 (bits BinOp.and IntKind.u8 (z : Int) (IntKind.u8.wrap (IntKind.u8.wrap (2 ^ P) - 1)))] 54)).mono hw0)
        exact h1.drew.grown hgr5 (by simp; omega) (fun j hj => qw hO8 j hj)
       clear hO8 hc8 hown5 hgr5 hce hidx c0 g1 g2 HO HB HBW HMK HTK
       go_wp2
       go_roundw
       case rel => exact ⟨i + 1,by omega,by go_num,HO5,HB5⟩
       case measure => simp [intOf] <;> omega
     ·obtain rfl : i = m := by omega
      have hzl := HHL.out.hlen
      have ho := HO.out
      rw [List.take_of_length_le (by rw [cutN,List.length_map]; omega)] at ho
      obtain ⟨fa,fc,rfl⟩ := qt ho
      have HLf : Hid (LtN wr fa i fc (cutN (2 ^ P) zs)) := q3e ho
      have HSM : Hid (∀ l ∈ cutN (2 ^ P) zs,l < 2 ^ (P : Int).toNat) := fun l hl => by rw [Int.toNat_natCast]; exact q3y (Nat.two_pow_pos P) zs l hl
      have HA9 : Hid (AuB wr w.heap.size (P : Int) aA nA cA aG nG cG aN nN cN) := HAz.out.up HB.out
      have HR9 : Hid (RowI wr 3 gc ((clsP (rwA (P : Int) N gs) bs nA kk).map Int.ofNat)) := HRz.out.up HB.out
      clear ho hzl HO
      generalize cutN (2 ^ P) zs = ts at *
      have hxr := (HM.out.rows (2 ^ (P : Int).toNat)).run ts x hx HSM.out
      have hyr := (HM.out.rows (2 ^ (P : Int).toNat)).run ts y hy HSM.out
      have hac : bs.getD (runP (rwA (P : Int) N gs) x ts) false = bs.getD (runP (rwA (P : Int) N gs) y ts) false := HAK.out ts HSM.out
      have hcr : (clsP (rwA (P : Int) N gs) bs nA kk).getD (runP (rwA (P : Int) N gs) x ts) 0 = (clsP (rwA (P : Int) N gs) bs nA kk).getD (runP (rwA (P : Int) N gs) y ts) 0 := q1p (HM.out.rows _) HMM.out ts hx hy HSM.out ((HAL.out x y hx hy).2 HAK.out)
      obtain ⟨c0,c1,c2,c3⟩ := HA9.out
      have j1 := qv (P : Int) aA nA cA aG nG cG aN nN cN N gs x fa i fc ts wr HM.out (HHN.out.up HBW.out) (HHG.out.up HBW.out) HLf.out HSM.out hx
      have J2 : Hid (∀ wx,Below wr.heap.size wr wx → Calls Try.prog 23 #[.agg #[.int .i64 (P : Int),.slice aA nA cA,.slice aG nG cG,.slice aN nN cN],.int .i64 (y : Int),.slice fa i fc] wx fun e w' => e = .returned (.tuple #[.int .i64 ((runP (rwA (P : Int) N gs) y ts : Nat) : Int),.bool true]) ∧ Below wx.heap.size wx w') := fun wx hb => qv (P : Int) aA nA cA aG nG cG aN nN cN N gs y fa i fc ts wx HM.out ((HHN.out.up HBW.out).up hb) ((HHG.out.up HBW.out).up hb) (HLf.out.up hb) HSM.out hy
      have HCL2 : Hid ((clsP (rwA (P : Int) N gs) bs nA kk).length = nA) := qR _ _ _ _
      clear HAK HMM HAL HAz HRz HB HBz
      generalize clsP (rwA (P : Int) N gs) bs nA kk = C at *
      generalize runP (rwA (P : Int) N gs) x ts = xr at *
      generalize runP (rwA (P : Int) N gs) y ts = yr at *
      go_wp2_with fail
      refine j1.mono ?_
      rintro e w7 ⟨rfl,hb7⟩
      have j2 := J2.out w7 hb7
      have HB7 : Hid (Below w.heap.size w w7) := q5 HBW.out hb7
      have HA7 : Hid (AuB w7 w.heap.size (P : Int) aA nA cA aG nG cG aN nN cN) := HA9.out.up hb7
      have HR7 : Hid (RowI w7 3 gc (C.map Int.ofNat)) := RowI.up HR9.out hb7
      clear j1 J2 hb7 c0 c1 c2 c3 HA9 HBW HLf HR9
      obtain ⟨c0,c1,c2,c3⟩ := HA7.out
      go_wp2_with fail
      refine j2.mono ?_
      rintro e w8 ⟨rfl,hb8⟩
      have HB8 : Hid (Below w.heap.size w w8) := q5 HB7.out hb8
      have HA8 : Hid (AuB w8 w.heap.size (P : Int) aA nA cA aG nG cG aN nN cN) := HA7.out.up hb8
      have hR8 : RowI w8 3 gc (C.map Int.ofNat) := RowI.up HR7.out hb8
      clear j2 hb8 c0 c1 c2 c3 HA7 HB7 HR7
      obtain ⟨c0,c1,c2,c3⟩ := HA8.out
      obtain ⟨ib1,cb1⟩ := (HHB.out.up HB8.out).at xr hxr
      obtain ⟨ib2,cb2⟩ := (HHB.out.up HB8.out).at yr hyr
      have ib1 := fun w' => ib1 nA w' hxr
      have ib2 := fun w' => ib2 nA w' hyr
      have hbl := HHB.out.hlen
      have hbb : bs[xr] = bs[yr] := by rwa [List.getD_eq_getElem?_getD,List.getElem?_eq_getElem (by omega),List.getD_eq_getElem?_getD,List.getElem?_eq_getElem (by omega)] at hac
      rw [← hbb] at cb2
      have ix := HIA.out xr hxr
      have iy := HIA.out yr hyr
      have cx : w8.cell? ⟨gc,xr,none⟩ = some (.int .i64 ((C.getD xr 0 : Nat) : Int)) := (hR8.cell (by rw [List.length_map,HCL2.out]; exact hxr)).trans (by rw [qg (by rw [HCL2.out]; exact hxr)])
      have cy : w8.cell? ⟨gc,yr,none⟩ = some (.int .i64 ((C.getD yr 0 : Nat) : Int)) := (hR8.cell (by rw [List.length_map,HCL2.out]; exact hyr)).trans (by rw [qg (by rw [HCL2.out]; exact hyr)])
      rw [← hcr] at cy
      generalize C.getD xr 0 = vr at *
      generalize bs[xr] = b1 at *
      have hvr : ((vr : Int) != (vr : Int)) = false := by simp
      have HE : Hid (∀ nq,Q (.returned (.bool true)) (w8.drewN nq)) := fun nq => HQ.out _ (q5 HB8.out (qe ⟨_,rfl⟩))
      clear hbl HQ hac hcr hbb hR8 HCL2
      generalize adOf aA xr = ad1 at *
      obtain ⟨a1g,a1o,a1z⟩ := ad1
      generalize adOf aA yr = ad2 at *
      obtain ⟨a2g,a2o,a2z⟩ := ad2
      cases b1
      all_goals
       go_wp2_with fail
       go_quiet (fail)
       go_wp2
       exact HE.out _
structure KnX (w0 w : World) (g : Nat) : Prop where
 x : PtX w g
 au : AuB w (g + 3) 1 (some ⟨g,0,none⟩) 3 3 (some ⟨g + 1,0,none⟩) 3 3 (some ⟨g + 2,0,none⟩) 2 2
 bel : Below w0.heap.size w0 w
theorem KnX.up {w0 w w' : World} {g : Nat} (h : KnX w0 w g) (hb : Below w.heap.size w w') : KnX w0 w' g := ⟨h.x.up hb,h.au.up hb,q5 h.bel hb⟩
abbrev ptV (g : Nat) : Value := .agg #[.int .i64 1,.slice (some ⟨g,0,none⟩) 3 3,.slice (some ⟨g + 1,0,none⟩) 3 3,.slice (some ⟨g + 2,0,none⟩) 2 2]
theorem q1j {w0 w : World} {g : Nat} (h : KnX w0 w g) (a b : Int) (d : Bool) (ha : 0 ≤ a ∧ a < (3 : Nat) ∧ 0 ≤ b ∧ b < (3 : Nat)) (hd : d = true ↔ AlikeP 2 ptR ptB a.toNat b.toNat) : Calls Try.prog 14 #[ptV g,.int .i64 a,.int .i64 b] w fun e w' => e = .returned (.tuple #[.bool d,.int .i64 0]) ∧ KnX w0 w' g := by
 refine (q2f 1 _ 3 3 _ 3 3 _ 2 2 ptB ptN ptG a b w h.x.bo h.x.nd h.x.zs q17).mono ?_
 rintro e w' ⟨hb,⟨hM,_⟩ | ⟨_,hM,_⟩ | ⟨_,_,is,rfl,hi⟩⟩
 ·exact absurd q18 hM
 ·exact absurd ha hM
 ·rw [show rwA 1 ptN ptG = ptR from qQ,show 2 ^ (1 : Int).toNat = 2 from rfl] at hi
  have : is = d := by
   rw [← hd] at hi
   cases is <;> cases d <;> simp at hi ⊢
  exact ⟨by rw [this],h.up hb⟩
theorem q1k {w0 w : World} {g : Nat} (h : KnX w0 w g) (a b : Int) (ha : 0 ≤ a ∧ a < (3 : Nat) ∧ 0 ≤ b ∧ b < (3 : Nat)) : Calls Try.prog 15 #[ptV g,.int .i64 a,.int .i64 b] w fun e w' => ∃ ts is u c,e = .returned (.tuple #[.slice u ts.length c,.bool is,.int .i64 0]) ∧ PartA 2 ptR ptB a.toNat b.toNat ts is ∧ KnX w0 w' g := by
 refine (qx 1 _ 3 3 _ 3 3 _ 2 2 ptB ptN ptG a b w h.x.bo h.x.nd h.x.zs q17).mono ?_
 rintro e w' ⟨hb,⟨hM,_⟩ | ⟨_,hM,_⟩ | ⟨_,_,ts,is,u,c,rfl,hp,_⟩⟩
 ·exact absurd q18 hM
 ·exact absurd ha hM
 ·rw [show rwA 1 ptN ptG = ptR from qQ,show 2 ^ (1 : Int).toNat = 2 from rfl] at hp
  exact ⟨ts,is,u,c,rfl,hp,h.up hb⟩
theorem q2q {w0 w : World} {g : Nat} (h : KnX w0 w g) : Calls Try.prog 15 #[ptV g,.int .i64 0,.int .i64 1] w fun e w' => ∃ u c,e = .returned (.tuple #[.slice u 0 c,.bool true,.int .i64 0]) ∧ KnX w0 w' g := by
 refine (q1k h 0 1 ⟨by decide,by decide,by decide,by decide⟩).mono ?_
 rintro e w' ⟨ts,is,u,c,rfl,hp,hk⟩
 rcases hp with ⟨rfl,_,_,h0⟩ | ⟨_,_,ha⟩
 ·have : ts = [] := h0 (by decide)
  subst this
  exact ⟨u,c,rfl,hk⟩
 ·exact absurd ha pt_01
theorem q2r {w0 w : World} {g : Nat} (h : KnX w0 w g) : Calls Try.prog 15 #[ptV g,.int .i64 1,.int .i64 2] w fun e w' => ∃ u c,e = .returned (.tuple #[.slice u 0 c,.bool false,.int .i64 0]) ∧ KnX w0 w' g := by
 refine (q1k h 1 2 ⟨by decide,by decide,by decide,by decide⟩).mono ?_
 rintro e w' ⟨ts,is,u,c,rfl,hp,hk⟩
 rcases hp with ⟨rfl,h1,h2,_⟩ | ⟨rfl,rfl,ha⟩
 ·exact absurd (pt_12 ts h1) h2
 ·exact ⟨u,c,rfl,hk⟩
theorem q2s {w0 w : World} {g : Nat} (h : KnX w0 w g) : Calls Try.prog 15 #[ptV g,.int .i64 1,.int .i64 3] w fun e w' => e = .returned (.tuple #[.slice none 0 0,.bool false,.int .i64 2]) ∧ KnX w0 w' g := by
 refine (qx 1 _ 3 3 _ 3 3 _ 2 2 ptB ptN ptG 1 3 w h.x.bo h.x.nd h.x.zs q17).mono ?_
 rintro e w' ⟨hb,⟨hM,_⟩ | ⟨_,hM,rfl⟩ | ⟨_,hM,_⟩⟩
 ·exact absurd q18 hM
 ·exact ⟨rfl,h.up hb⟩
 ·exact absurd hM.2.2.2 (by decide)
theorem q2t {w0 w : World} {g : Nat} (h : KnX w0 w g) : Calls Try.prog 10 #[ptV g] w fun e w' => ∃ u c,e = .returned (.tuple #[.slice u 3 c,.int .i64 0]) ∧ ZSl w' u 3 c [0,1,2] ∧ KnX w0 w' g := by
 refine (q1t 1 _ 3 3 _ 3 3 _ 2 2 ptB ptN ptG w h.x.bo h.x.nd h.x.zs q17).mono ?_
 rintro e w' ⟨hb,⟨hM,_⟩ | ⟨_,u,c,rfl,hr⟩⟩
 ·exact absurd q18 hM
 ·rw [show rwA 1 ptN ptG = ptR from qQ,q4v] at hr ⊢
  exact ⟨u,c,rfl,hr,h.up hb⟩
theorem q1T (w : World) : Calls Try.prog 5 #[] w fun e w' => e = .returned (.bool true) ∧ Below w.heap.size w w' := by
 have hx := q3j w
 have hb3 : Below w.heap.size w (((w.alloc (.cells #[.bool false,.bool true,.bool true] 4)).alloc (.cells #[.int .i64 0,.int .i64 1,.int .i64 0] 3)).alloc (.cells #[.int .i64 0,.int .i64 (-1),.int .i64 (-2),.int .i64 0,.int .i64 (-1),.int .i64 (-3)] 57)) := q5 (q5 (q6 w _) (q6 _ _)) (q6 _ _)
 have ha := qd (((w.alloc (.cells #[.bool false,.bool true,.bool true] 4)).alloc (.cells #[.int .i64 0,.int .i64 1,.int .i64 0] 3)).alloc (.cells #[.int .i64 0,.int .i64 (-1),.int .i64 (-2),.int .i64 0,.int .i64 (-1),.int .i64 (-3)] 57)) 1 (some ⟨w.heap.size,0,none⟩) 3 3 (some ⟨w.heap.size + 1,0,none⟩) 3 3 (some ⟨w.heap.size + 2,0,none⟩) 2 2
 have e3 : (((w.alloc (.cells #[.bool false,.bool true,.bool true] 4)).alloc (.cells #[.int .i64 0,.int .i64 1,.int .i64 0] 3)).alloc (.cells #[.int .i64 0,.int .i64 (-1),.int .i64 (-2),.int .i64 0,.int .i64 (-1),.int .i64 (-3)] 57)).heap.size = w.heap.size + 3 := by simp
 rw [e3] at ha
 have hk : KnX w ((((w.alloc (.cells #[.bool false,.bool true,.bool true] 4)).alloc (.cells #[.int .i64 0,.int .i64 1,.int .i64 0] 3)).alloc (.cells #[.int .i64 0,.int .i64 (-1),.int .i64 (-2),.int .i64 0,.int .i64 (-1),.int .i64 (-3)] 57)).alloc (.cells #[.int .i64 1,.slice (some ⟨w.heap.size,0,none⟩) 3 3,.slice (some ⟨w.heap.size + 1,0,none⟩) 3 3,.slice (some ⟨w.heap.size + 2,0,none⟩) 2 2] 26 (0,0))) w.heap.size := ⟨hx.up (q6 _ _),ha,q5 hb3 (q6 _ _)⟩
 obtain ⟨c0,c1,c2,c3⟩ := hk.au
 have j1 := q1j hk 1 2 true ⟨by decide,by decide,by decide,by decide⟩ ⟨fun _ => pt_12,fun _ => rfl⟩
 have HSm : Hid (∀ (w2 : World) (u : Option Addr) (c : Nat),ZSl w2 u 3 c [0,1,2] → Calls Try.prog 12 #[.slice u 3 c,.slice (some ⟨w2.heap.size,0,none⟩) 3 3] (w2.alloc (.cells #[.int .i64 0,.int .i64 1,.int .i64 2] 3)) fun e w' => e = .returned (.bool true) ∧ Below w2.heap.size w2 w') := fun w2 u c hz => by
  have h2 := zlitP w2 [0,1,2] (by decide)
  exact (qV _ 3 c _ _ 3 3 _ _ (hz.up (q6 _ _)) h2).mono fun e w' ⟨q1,q2⟩ => ⟨by rw [q1,decide_eq_true rfl],q5 (q6 w2 _) (qe q2)⟩
 clear hx hb3 ha e3 hk
 go_enter Try.func5,Try.ntmps5
 go_wp2_with fail
 refine j1.mono ?_
 rintro e w2 ⟨rfl,hk2⟩
 clear c0 c1 c2 c3 j1
 generalize w.heap.size = gw at *
 have j2 := q1j hk2 0 1 false ⟨by decide,by decide,by decide,by decide⟩ ⟨fun h => (by cases h),fun h => absurd h pt_01⟩
 obtain ⟨c0,c1,c2,c3⟩ := hk2.au
 go_wp2_with fail
 refine j2.mono ?_
 rintro e w3 ⟨rfl,hk3⟩
 clear c0 c1 c2 c3 j2 hk2
 have j3 := q2q hk3
 obtain ⟨c0,c1,c2,c3⟩ := hk3.au
 go_wp2_with fail
 refine j3.mono ?_
 rintro e w4 ⟨u4,d4,rfl,hk4⟩
 clear c0 c1 c2 c3 j3 hk3
 have j4 := q2r hk4
 obtain ⟨c0,c1,c2,c3⟩ := hk4.au
 go_wp2_with fail
 refine j4.mono ?_
 rintro e w5 ⟨u5,d5,rfl,hk5⟩
 clear c0 c1 c2 c3 j4 hk4
 have j5 := q2s hk5
 obtain ⟨c0,c1,c2,c3⟩ := hk5.au
 go_wp2_with fail
 refine j5.mono ?_
 rintro e w6 ⟨rfl,hk6⟩
 clear c0 c1 c2 c3 j5 hk5
 have j6 := q2t hk6
 obtain ⟨c0,c1,c2,c3⟩ := hk6.au
 go_wp2_with fail
 refine j6.mono ?_
 rintro e w7 ⟨u7,d7,rfl,hz7,hk7⟩
 clear c0 c1 c2 c3 j6 hk6
 have j7 := qM w7
 have HZ : Hid _ := hz7
 have HK : Hid _ := hk7
 clear hz7 hk7
 go_wp2_with fail
 refine j7.mono ?_
 rintro e w8 ⟨rfl,hb8⟩
 have j8 := HSm.out w8 u7 d7 (IntSl.up HZ.out hb8)
 have HB8 : Hid _ := q5 HK.out.bel hb8
 clear j7 hb8 HZ HK HSm
 go_wp2_with fail
 refine j8.mono ?_
 rintro e w9 ⟨rfl,hb9⟩
 have HB9 : Hid _ := q5 HB8.out hb9
 clear j8 hb9 HB8
 go_wp2
 go_ret
 exact ⟨rfl,HB9.out⟩
end Go.Proofs.Ytllebfffmmnoeaa
