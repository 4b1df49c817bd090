/- Texts of the proof, put together: what it uses. -/
import Derived.BigQuiet
import Derived.Lib.QuietBelow
import Derived.Deep.DeepCutAuto
import Derived.Lib.AppendZerosOnto
import Derived.Laws.CopyRow
import Derived.Deep.RegionHeld3
import Derived.Deep.AppendLies
import Derived.Test.YtohbphocfkgdcaaY01
import Derived.Test.YtohbphocfkgdcaaY02
import Derived.Test.YtohbphocfkgdcaaY03
import Derived.Test.YtohbphocfkgdcaaY05
import Derived.Test.YtohbphocfkgdcaaY08
import Derived.Test.YtohbphocfkgdcaaY09
set_option maxRecDepth 100000
set_option maxHeartbeats 16000000
namespace Go.Proofs.Ytohbphocfkgdcaa
open Go.RowKit Go.Maps Go.Sort
def NumN (m v : Nat) (n E : Int) : Prop := (v &&& m = v ∧ E = 0 ∧ ∃ i : Nat,n = (i : Int) ∧ i < (mvL m).length ∧ (mvL m).getD i 0 = v) ∨ (¬ (v &&& m = v) ∧ n = 0 ∧ E = 14)
def ChkN (p : Int) (nA : Nat) (bs : List Bool) (N : List Gd) (gs : List Int) (e s : Nat) (X : Int) : Prop :=
 (¬ MayG p nA N gs ∧ X = 12) ∨ (MayG p nA N gs ∧ bs.getD 0 false = true ∧ X = 12) ∨ (MayG p nA N gs ∧ bs.getD 0 false = false ∧ ¬ SplitN p.toNat e s ∧ X = 13) ∨ (MayG p nA N gs ∧ bs.getD 0 false = false ∧ SplitN p.toNat e s ∧ X = 0)
def goeL (p : Int) (N : List Gd) (gs : List Int) (e s k : Nat) : List (List Int) := (mvL e).map fun x => (mvL s).map fun y => ((trP (rwA p N gs) k (x ||| y) : Nat) : Int)
def GoeN (p : Int) (nA : Nat) (bs : List Bool) (N : List Gd) (gs : List Int) (e s : Nat) (q : Int) (X : Int) (rs : List (List Int)) : Prop :=
 (X ≠ 0 ∧ ChkN p nA bs N gs e s X ∧ rs = []) ∨ (ChkN p nA bs N gs e s 0 ∧ ¬ (0 ≤ q ∧ q < (nA : Int)) ∧ X = 2 ∧ rs = []) ∨ (ChkN p nA bs N gs e s 0 ∧ X = 0 ∧ ∃ k : Nat,q = (k : Int) ∧ k < nA ∧ rs = goeL p N gs e s k)
theorem qO (a : Option Addr) (n c : Nat) (rs : List Zc) (b : Option Addr) (m d : Nat) (ts : List Zc) (w : World) (hR : ZzSl w a n c rs) (hT : ZzSl w b m d ts) :
  Calls Try.prog 19 #[.slice a n c,.slice b m d] w fun e w' => e = .returned (.bool (decide (rs.map Zc.zs = ts.map Zc.zs))) ∧ Below w.heap.size w w' := by
 obtain ⟨Q,hQ⟩ : ∃ Q : Ending → World → Prop,Q = fun e w' => e = .returned (.bool (decide (rs.map Zc.zs = ts.map Zc.zs))) ∧ Below w.heap.size w w' := ⟨_,rfl⟩
 have HF : Hid (∀ w',Below w.heap.size w w' → ¬ rs.map Zc.zs = ts.map Zc.zs → Q (.returned (.bool false)) w') := fun w' h hn => by rw [hQ,decide_eq_false hn]; exact ⟨rfl,h⟩
 have HT : Hid (∀ w',Below w.heap.size w w' → rs.map Zc.zs = ts.map Zc.zs → Q (.returned (.bool true)) w') := fun w' h hn => by rw [hQ,decide_eq_true hn]; exact ⟨rfl,h⟩
 rw [← hQ]
 clear hQ
 have hn := Nat.le_trans hR.hcap hR.bd
 have hm := Nat.le_trans hT.hcap hT.bd
 unfold maxLen at hn hm
 have HR : Hid _ := hR
 have HTT : Hid _ := hT
 by_cases e : n = m
 ·subst e
  have e0 : ((n : Int) != (n : Int)) = false := by simp
  clear hR hT
  go_enter Try.func19,Try.ntmps19
  go_wp2
  go_loopw [5] (fun i wr => ∃ k : Nat,k ≤ n ∧ i = .int .i64 (k : Int) ∧ Hid (Below w.heap.size w wr) ∧ Hid ((rs.map Zc.zs).take k = (ts.map Zc.zs).take k)) (fun i _ => n - (intOf i).toNat)
  case atStart => exact ⟨0,Nat.zero_le _,rfl,Below.refl _ _,rfl⟩
  case round =>
   obtain ⟨k,hk,rfl,HB,HK⟩ := hrel
   by_cases hlt : k < n
   ·have e1 : decide ((k : Int) < (n : Int)) = true := decide_eq_true (by omega)
    obtain ⟨g1,o1,s1,r1,hr1,i1,ce1,hz1,_⟩ := (HR.out.up HB.out).at k hlt
    obtain ⟨g2,o2,s2,r2,hr2,i2,ce2,hz2,_⟩ := (HTT.out.up HB.out).at k hlt
    have h1 : (rs.map Zc.zs)[k]? = some r1.zs := by rw [List.getElem?_map,hr1]; rfl
    have h2 : (ts.map Zc.zs)[k]? = some r2.zs := by rw [List.getElem?_map,hr2]; rfl
    have cS : ∀ dd os,Calls Try.prog 43 #[.slice r1.a r1.len r1.cap,.slice r2.a r2.len r2.cap] (grow (redrawn wr dd) os) fun e w'' => e = .returned (.bool (decide (r1.zs = r2.zs))) ∧ ∃ p : Regrown,w'' = grow (redrawn wr p.d) p.os := fun dd os => by
     have hb := below_regrown wr dd os
     refine (qv r1.a r1.len r1.cap r1.zs r2.a r2.len r2.cap r2.zs _ (hz1.up hb) (hz2.up hb)).mono ?_
     rintro e w'' ⟨rfl,q,rfl⟩
     exact ⟨rfl,regrown_of_below (q7 hb (below_drewN (Below.refl _ _) q))⟩
    have HE : Hid (∀ dd os,Below w.heap.size w (grow (redrawn wr dd) os)) := fun dd os => q7 HB.out (below_regrown wr dd os)
    have HEQ : Hid (r1.zs = r2.zs → (rs.map Zc.zs).take (k + 1) = (ts.map Zc.zs).take (k + 1)) := fun e => by
     rw [List.take_add_one,List.take_add_one,HK.out,h1,h2,e]
    have HNE : Hid (¬ r1.zs = r2.zs → ¬ rs.map Zc.zs = ts.map Zc.zs) := fun e h => by
     rw [h,h2] at h1
     injection h1 with h1
     exact e h1.symm
    have k1 := cell_regrown ce1
    have k2 := cell_regrown ce2
    clear hr1 hr2 h1 h2 ce1 ce2 hz1 hz2 HB HK
    generalize hsm : decide (r1.zs = r2.zs) = sm at *
    go_upto_region 6 with fail
    refine wp_region_quiet_below (by kernel_rfl) (by kernel_rfl) ?_
    repeat (go_big_quiet_step (exact cS _ _))
    refine wpQuiet_nil ?_
    intro _ hw'
    obtain ⟨⟨dq,osq⟩,hw''⟩ := hw'
    subst hw''
    have HI3 : Hid _ := HE.out dq osq
    generalize grow (redrawn wr dq) osq = wx at *
    clear cS k1 k2 HE i1 i2
    cases sm with
    | true =>
     have HK2 : Hid _ := HEQ.out (of_decide_eq_true hsm)
     clear hsm HEQ HNE
     go_wp2
     go_roundw
     case rel => exact ⟨k + 1,by omega,by go_num,HI3,HK2⟩
     case measure => simp [intOf]; omega
    | false =>
     have HX : Hid _ := HF.out wx HI3.out (HNE.out (of_decide_eq_false hsm))
     clear hsm HEQ HNE
     go_wp2
     exact HX.out
   ·obtain rfl : k = n := by omega
    have e1 : decide ((k : Int) < (k : Int)) = false := by simp
    have h1 : (rs.map Zc.zs).length = k := by rw [List.length_map]; exact HR.out.hlen
    have h2 : (ts.map Zc.zs).length = k := by rw [List.length_map]; exact HTT.out.hlen
    have HX : Hid _ := HT.out wr HB.out (by
     have := HK.out
     rwa [List.take_of_length_le (by omega),List.take_of_length_le (by omega)] at this)
    clear h1 h2 HB HK
    go_wp2
    exact HX.out
 ·have e0 : ((n : Int) != (m : Int)) = true := by simp; omega
  have HX : Hid _ := HF.out w (Below.refl _ _) (fun h => by
   have h1 := congrArg List.length h
   rw [List.length_map,List.length_map,hR.hlen,hT.hlen] at h1
   exact e h1)
  clear hR hT
  go_enter Try.func19,Try.ntmps19
  go_wp2
  exact HX.out
theorem q5x {m l : Nat} (hm : m < 256) (hl : l < 256) : (bits .andNot .u8 (l : Int) (m : Int) == 0) = decide (l &&& m = l) := by
 rw [u8_andNot_nat l m hl hm]
 by_cases h : l &&& m = l
 ·rw [decide_eq_true h,(q24 hm hl).2 h]; rfl
 ·rw [decide_eq_false h]
  refine beq_false_of_ne fun e => h ((q24 hm hl).1 ?_)
  exact_mod_cast e
theorem BoSl.getQ {w : World} {a : Option Addr} {n c : Nat} {bs : List Bool} (h : BoSl w a n c bs) {i : Nat} (hi : i < n) : (∀ w',(Instr.indexAt 22 (.slice a n c) (.int .i64 (i : Int))).run Try.prog w' = .ok (.pointer (some (adOf a i))) w') ∧ w.cell? (adOf a i) = some (.bool (bs.getD i false)) := by
 obtain ⟨x,rfl⟩ := h.some_of (by omega)
 have hl := h.hlen
 refine ⟨fun w' => qh (P := Try.prog) (T := 22) Try.underlying22 qr (by simp) i w' hi,?_⟩
 have := h.c x rfl i (by omega)
 rw [List.getD_eq_getElem?_getD,List.getElem?_eq_getElem (by omega)]
 exact this
theorem q4z {M : Nat} (h : M ≤ 256) : wrap64 (M : Int) = (M : Int) := by unfold wrap64; omega
theorem ChkN.uni {p : Int} {nA : Nat} {bs : List Bool} {N : List Gd} {gs : List Int} {e s : Nat} {X Y : Int} (h : ChkN p nA bs N gs e s X) (k : ChkN p nA bs N gs e s Y) : X = Y := by
 rcases h with ⟨h1,rfl⟩ | ⟨h1,h2,rfl⟩ | ⟨h1,h2,h3,rfl⟩ | ⟨h1,h2,h3,rfl⟩ <;> rcases k with ⟨k1,rfl⟩ | ⟨k1,k2,rfl⟩ | ⟨k1,k2,k3,rfl⟩ | ⟨k1,k2,k3,rfl⟩ <;> first
  | rfl
  | exact absurd h1 k1
  | exact absurd k1 h1
  | exact absurd h3 k3
  | exact absurd k3 h3
  | (rw [h2] at k2; cases k2)
theorem q51 {p : Int} {N : List Gd} {gs : List Int} {e s i : Nat} : (goeL p N gs e s i).length = (mvL e).length := by simp [goeL]
def OfN (ss os : List ByteArray) (X Y E : Int) : Prop := ((ofEc (nms ss) (nms os)).2 ≠ 0 ∧ X = 0 ∧ Y = 0 ∧ E = (ofEc (nms ss) (nms os)).2) ∨ ((ofEc (nms ss) (nms os)).2 = 0 ∧ E = 0 ∧ X = (ofEc (nms ss) (nms os)).1 ∧ Y = ((sysN ss.length (ofEc (nms ss) (nms os)).1.toNat : Nat) : Int))
def BrdO : Prop := ∀ (a : Option Addr) (len cap : Nat) (ad : Nat → Addr) (ss : List ByteArray) (a' : Option Addr) (len' cap' : Nat) (ad' : Nat → Addr) (os : List ByteArray) (w : World),StrSl Try.prog 30 w a len cap ad ss → StrSl Try.prog 30 w a' len' cap' ad' os →
 Calls Try.prog 15 #[.slice a len cap,.slice a' len' cap'] w fun e w' => Below w.heap.size w w' ∧ ∃ X Y E : Int,e = .returned (.tuple #[.agg #[.int .u8 X,.int .u8 Y],.int .i64 E]) ∧ Hid (OfN ss os X Y E)
theorem OfN.uni {ss os : List ByteArray} {X Y E X' Y' E' : Int} (h : OfN ss os X Y E) (k : OfN ss os X' Y' E') : X = X' ∧ Y = Y' ∧ E = E' := by
 rcases h with ⟨h1,rfl,rfl,rfl⟩ | ⟨h1,rfl,rfl,rfl⟩ <;> rcases k with ⟨k1,rfl,rfl,rfl⟩ | ⟨k1,rfl,rfl,rfl⟩
 ·exact ⟨rfl,rfl,rfl⟩
 ·exact absurd k1 h1
 ·exact absurd h1 k1
 ·exact ⟨rfl,rfl,rfl⟩
theorem q2U (p : Int) (aA : Option Addr) (nA cA : Nat) (aG : Option Addr) (nG cG : Nat) (aN : Option Addr) (nN cN : Nat) (N : List Gd) (gs : List Int) (q z : Nat) (w : World) (hM : MayG p nA N gs) (hN : NdSl w aN nN cN N) (hG : ZSl w aG nG cG gs) (hq : q < nA) (hz : z < 2 ^ p.toNat) :
  Calls Try.prog 59 #[.agg #[.int .i64 p,.slice aA nA cA,.slice aG nG cG,.slice aN nN cN],.int .i64 (q : Int),.int .u8 (z : Int)] w fun e w' => e = .returned (.int .i64 ((trP (rwA p N gs) q z : Nat) : Int)) ∧ Below w.heap.size w w' := by
 have hb0 := q9 w (.cells #[.int .i64 p,.slice aA nA cA,.slice aG nG cG,.slice aN nN cN] 26 (0,0))
 obtain ⟨c0,c1,c2,c3⟩ := qd w p aA nA cA aG nG cG aN nN cN
 have hv1 := hM.tr (K := 2 ^ p.toNat) (s := q) (x := z) hq hz
 have hqR : q < nG := by have h1 := hG.hlen; have h2 := hM.len; omega
 have hixg := fun w' => hG.idx nG q w' hqR (Nat.le_refl _)
 have hcg := (hG.up hb0).cell q hqR
 have hi64 := q3j hM (q := q) (by have h2 := hM.len; omega)
 have hk256 := hM.k256
 have h256 := hM.s2
 have hz256 : z < 256 := by omega
 have hq256 : q < 256 := by omega
 have HB0 : Hid _ := hb0
 obtain ⟨w1,hw1⟩ : ∃ w1,w1 = w.alloc (.cells #[.int .i64 p,.slice aA nA cA,.slice aG nG cG,.slice aN nN cN] 26 (0,0)) := ⟨_,rfl⟩
 rw [← hw1] at HB0 c0 c1 c2 c3 hcg
 have hN1 := hN.up hb0
 rw [← hw1] at hN1
 have cS : ∀ d os,Calls Try.prog 70 #[.slice aN nN cN,.int .i64 (gs.getD q 0),.int .u8 (z : Int)] (grow (redrawn w1 d) os) fun e w'' => e = .returned (.tuple #[.int .i64 ((trP (rwA p N gs) q z : Nat) : Int),.bool true]) ∧ ∃ p : Regrown,w'' = grow (redrawn w1 p.d) p.os := fun d os => by
  have hb := below_regrown w1 d os
  refine (q3J aN nN cN N (gs.getD q 0) z _ (hN1.up hb) hi64 hz256).mono ?_
  rintro e w'' ⟨rfl,h2⟩
  rw [hv1]
  exact ⟨rfl,regrown_of_below (q7 hb (h2 ▸ Below.refl _ _))⟩
 have HE : Hid (∀ d os,Below w.heap.size w (grow (redrawn w1 d) os)) := fun d os => q7 HB0.out (below_regrown w1 d os)
 have dq0 : decide ((q : Int) < 0) = false := by simp
 have dq1 : decide (nG ≤ q) = false := by simp; exact hqR
 have k2 := cell_regrown c2
 have k3 := cell_regrown c3
 have kg := cell_regrown hcg
 have HW1 : Hid _ := hw1
 clear hcg hi64 hN hG hN1 hM c0 c1 c2 c3 hv1 hz hb0 hq h256 hk256 HB0 hw1
 generalize gs.getD q 0 = rq at *
 generalize trP (rwA p N gs) q z = v at *
 generalize adOf aG q = ag at *
 obtain ⟨ag1,ag2,ag3⟩ := ag
 go_enter Try.func59,Try.ntmps59
 go_wp2_with fail
 rw [← HW1.out]
 refine wp_region_quiet_below (by kernel_rfl) (by kernel_rfl) ?_
 repeat (go_big_quiet_step (exact cS _ _))
 refine wpQuiet_nil ?_
 intro _ hw'
 obtain ⟨⟨dq,osq⟩,hw''⟩ := hw'
 subst hw''
 have HI3 : Hid _ := HE.out dq osq
 generalize grow (redrawn w1 dq) osq = wx at *
 clear cS k2 k3 kg HE
 go_wp2
 go_ret
 exact ⟨rfl,HI3.out⟩
end Go.Proofs.Ytohbphocfkgdcaa
namespace Go.Proofs.Ytohbphocfkgdcaa
open Go.RowKit Go.Maps
theorem q34 : (Try.prog.info? 27).map (fun i => (i.zero,i.size,i.bytes)) = some (some (.int .u8 0),1,1) := by kernel_rfl
theorem qL : (Try.prog.info? 27).map (·.size) = some 1 := by kernel_rfl
def RowOf (w : World) (e : TypeId) (a : Option Addr) (cur : List Int) : Prop := (a = none ∧ cur = []) ∨ ∃ g,a = some ⟨g,0,none⟩ ∧ RowAt w e g cur
def x5A (z : Int) : Int := bits BinOp.xor IntKind.u8 z 90
theorem q5I {z : Int} (h0 : 0 ≤ z) (h1 : z < 256) : 0 ≤ x5A z ∧ x5A z < 256 := by
 unfold x5A; rw [u8_xor z 90 h0 h1 (by decide) (by decide)]
 have : z.toNat ^^^ (90 : Int).toNat < 2 ^ 8 := Nat.xor_lt_two_pow (by omega) (by decide)
 omega
theorem q5z {z : Int} (h0 : 0 ≤ z) (h1 : z < 256) : x5A (x5A z) = z := by
 have hb := q5I h0 h1
 have e : x5A z = ((z.toNat ^^^ 90 : Nat) : Int) := by unfold x5A; rw [u8_xor z 90 h0 h1 (by decide) (by decide)]; rfl
 have e2 : x5A (x5A z) = (((x5A z).toNat ^^^ 90 : Nat) : Int) := by unfold x5A; rw [u8_xor _ 90 (by exact hb.1) (by exact hb.2) (by decide) (by decide)]; rfl
 rw [e2,e,Int.toNat_natCast,Nat.xor_assoc,Nat.xor_self,Nat.xor_zero]; omega
def overTo (cur : List Int) (k : Nat) : List Int := (cur.take k).map x5A ++ cur.drop k
theorem q3X (cur : List Int) : overTo cur 0 = cur := by simp [overTo]
theorem q4r (cur : List Int) : overTo cur cur.length = cur.map x5A := by simp [overTo]
theorem q4t (cur : List Int) (k : Nat) : (overTo cur k).length = cur.length := by simp [overTo]; omega
theorem q4s {cur : List Int} {k : Nat} (h : k < cur.length) : (overTo cur k).getD k 0 = cur.getD k 0 := by
 unfold overTo
 rw [List.getD_eq_getElem?_getD,List.getElem?_append_right (by simp; omega)]
 simp [List.getD_eq_getElem?_getD,Nat.min_eq_left (Nat.le_of_lt h)]
theorem q4u {cur : List Int} {k : Nat} (h : k < cur.length) : (overTo cur k).set k (x5A (cur.getD k 0)) = overTo cur (k + 1) := by
 unfold overTo
 have e : k - ((cur.take k).map x5A).length = 0 := by simp; omega
 rw [List.drop_eq_getElem_cons h,List.set_append_right _ _ (by simp; omega),qm h,e]
 simp only [List.set_cons_zero,List.map_append,List.map_cons,List.map_nil,List.append_assoc,List.cons_append,List.nil_append]
def OverR (e : TypeId) (a : Option Addr) (cur : List Int) (w : World) (en : Ending) (w' : World) : Prop :=
 en = .returned (.tuple #[]) ∧ RowOf w' e a (cur.map x5A) ∧ w.grownBy w' (a.map (·.block))
theorem q1V (a : Option Addr) (n : Nat) (cur : List Int) (w : World) (hR : RowOf w 27 a cur) (hm : cur.length ≤ 1000000) :
  Calls Try.prog 50 #[.slice a n cur.length] w fun e w' => OverR 27 a cur w e w' := by
 rcases hR with ⟨rfl,rfl⟩ | ⟨g,rfl,hrow⟩
 ·go_enter Try.func50,Try.ntmps50
  go_wp2
  refine wp_loop_rounds 1 ?_
  rw [rounds_succ]
  go_wp2
  go_end0
  exact ⟨rfl,Or.inl ⟨rfl,rfl⟩,World.grownBy.refl _ _⟩
 ·have HL : Hid (∃ M,cur.length = M) := ⟨_,rfl⟩
  obtain ⟨M,hM⟩ := HL.out
  have HM : Hid (cur.length = M) := hM
  rw [hM] at hm ⊢
  clear hM HL
  go_enter Try.func50,Try.ntmps50
  go_wp2
  go_loopw [3] (fun i wr => ∃ k : Nat,k ≤ M ∧ i = .int .i64 k ∧ RowAt wr 27 g (overTo cur k) ∧ w.grownBy wr (some g)) (fun i _ => M - (intOf i).toNat)
  case atStart => exact ⟨0,Nat.zero_le _,rfl,by rw [q3X]; exact hrow,World.grownBy.refl _ _⟩
  case round =>
   obtain ⟨k,hk,rfl,hr,hg⟩ := hrel
   by_cases hlt : k < M
   ·have hc1 := hr.cell (i := k) (by rw [q4t,HM.out]; exact hlt)
    rw [q4s (by rw [HM.out]; exact hlt)] at hc1
    have hf1 := hr.frozen k
    have R1 := hr.set k (x5A (cur.getD k 0))
    rw [q4u (by rw [HM.out]; exact hlt)] at R1
    have R2 : w.grownBy (wr.setCell ⟨g,k,none⟩ (.int .u8 (x5A (cur.getD k 0)))) (some g) :=
     ⟨hg.os,hg.tape,hg.output,by simpa using hg.size,fun j hj hne => (heap_setCell_other wr _ j _ (fun e => hne (by rw [e]))).trans (hg.block j hj hne)⟩
    generalize cur.getD k 0 = z at *
    unfold x5A at R1 R2
    clear hr hg
    go_wp2
    go_roundw
    case rel => exact ⟨k + 1,by omega,by go_num,R1,R2⟩
    case measure => simp [intOf]; omega
   ·obtain rfl : k = M := by omega
    go_wp2
    go_end0
    exact ⟨rfl,Or.inr ⟨g,rfl,by rw [← q4r,HM.out]; exact hr⟩,hg⟩
def Try.CopyR (n : Nat) (zs : List Int) (w : World) (e : Ending) (w' : World) : Prop :=
 ∃ a' cap',e = .returned (.slice a' n cap') ∧ IntSl Try.prog 38 .u8 w' a' n cap' zs ∧ (∀ k,k < n → w.heap.size ≤ (adOf a' k).block) ∧ Below w.heap.size w w'
theorem q2Y (w : World) (e : TypeId) : (w.alloc (.cells #[] e)).ownsRow w.heap.size e 1 (.slice (some ⟨w.heap.size,0,none⟩) 0 0) 0 [] :=
 ⟨rfl,Or.inr ⟨w.heap.size,0,#[],rfl,Nat.le_refl _,(MapKept.heap_alloc w _).1,Nat.le_refl _,Nat.zero_le _,rfl,rfl⟩⟩
theorem q4c (a : Option Addr) (n cap : Nat) (zs : List Int) (w : World) (hS : IntSl Try.prog 38 .u8 w a n cap zs) (hn : n ≤ 1000000) :
  Calls Try.prog 49 #[.slice a n cap] w fun e w' => Try.CopyR n zs w e w' := by
 obtain ⟨i0,hi,hz0,hz1,hz2⟩ := info_parts q34
 have HI : Hid (Try.prog.info? 27 = some i0) := hi
 have HZ0 : Hid (i0.zero = some (.int .u8 0)) := hz0
 have HZ1 : Hid (i0.size = 1) := hz1
 have HZ2 : Hid (i0.bytes = 1) := hz2
 clear hi hz0 hz1 hz2
 have hown := q2Y w 27
 have fin : ∀ (v : Value) (w1 : World),w1.ownsRow w.heap.size 27 1 v n (zs.map (Value.int .u8)) → (w.alloc (.cells #[] 27)).grownBy w1 (some w.heap.size) → Try.CopyR n zs w (.returned v) w1 := by
  intro v w1 h1 h2
  obtain ⟨a',cap',rfl,hsl,hblk⟩ := q1j h1 Try.underlying38 qL
  exact ⟨a',cap',rfl,hsl,hblk,((Below.refl _ _).alloc (Nat.le_refl _) _).grown h2 (by simp) (fun k hk => by cases hk; exact Nat.le_refl _)⟩
 have HF : Hid _ := fin
 clear fin
 cases a with
 | none =>
  have hc0 := hS.nn rfl
  have hn0 : n = 0 := by have := hS.hcap; omega
  subst hc0 hn0
  have hzs : zs = [] := List.eq_nil_of_length_eq_zero hS.hlen
  subst hzs
  go_enter Try.func49,Try.ntmps49
  go_wp2_with (at_builtin; refine wpList_append_fits_any _ rfl _ _ 38 rfl w.heap.size 27 i0 1 Try.underlying38 HI.out HZ1.out w.heap.size 0 0 [] rfl hown none 0 0 [] rfl rfl (fun _ => ⟨rfl,rfl⟩) (fun _ h => by cases h) (fun _ h => by cases h) (Nat.le_refl _) ?_)
  intro w1 hown1 hgrow1
  have HE := HF.out _ _ hown1 hgrow1
  clear hown1 hgrow1 hown
  go_wp2
  go_ret
  exact HE
 | some x =>
  have hnews : ∀ j u,(zs.map (Value.int .u8))[j]? = some u → (w.alloc (.cells #[] 27)).cell? (x.add j) = some u := by
   intro j u hj
   have hjl : j < zs.length := by have := (List.getElem?_eq_some_iff.1 hj).1; simpa using this
   have hc := hS.cell j (by rw [← hS.hlen]; exact hjl)
   have e : u = .int .u8 (zs.getD j 0) := by
    rw [List.getElem?_map,List.getElem?_eq_getElem hjl] at hj
    simp [List.getD_eq_getElem?_getD,List.getElem?_eq_getElem hjl]
    simpa using hj.symm
   have hc2 : w.cell? (x.add j) = some u := by rw [e]; exact hc
   exact cell_later ((Below.refl _ _).alloc (Nat.le_refl _) _) hc2
  have hlz : (zs.map (Value.int .u8)).length = n * 1 := by rw [List.length_map,hS.hlen,Nat.mul_one]
  go_enter Try.func49,Try.ntmps49
  go_wp2_with (at_builtin; refine wpList_append_own _ rfl _ _ 38 rfl w.heap.size 27 i0 (.int .u8 0) 1 1 Try.underlying38 HI.out HZ0.out HZ1.out HZ2.out rfl (by decide) _ 0 _ rfl hown x n cap (zs.map (Value.int .u8)) rfl hlz hnews (ints_oneCell .u8 zs) (by unfold maxLen; omega) (by omega) (by simp) ?_)
  intro v' w1 hown1 hgrow1 _
  have HE : Hid (Try.CopyR n zs w (.returned v') w1) := HF.out v' w1 (by simpa using hown1) hgrow1
  clear hown1 hgrow1 hown hnews hlz
  go_wp2
  go_ret
  exact HE.out
theorem RowOf.up {w w' : World} {e : TypeId} {a : Option Addr} {cur : List Int} (h : RowOf w e a cur) (hb : Below w.heap.size w w') : RowOf w' e a cur := by
 rcases h with h | ⟨g,h1,h2⟩
 ·exact Or.inl h
 ·exact Or.inr ⟨g,h1,h2.up hb⟩
theorem RowOf.lt {w : World} {e : TypeId} {a : Option Addr} {cur : List Int} (h : RowOf w e a cur) : ∀ b,a.map (·.block) = some b → b < w.heap.size := by
 rcases h with ⟨rfl,_⟩ | ⟨g,rfl,h2⟩
 ·intro b hb; cases hb
 ·intro b hb; cases hb; exact h2.lt
theorem RowOf.intSl {P : Program} {T e : TypeId} {w : World} {a : Option Addr} {cur : List Int} (h : RowOf w e a cur) (hu : P.underlying T = some (.slice e)) (hs : (P.info? e).map (·.size) = some 1) (hm : cur.length ≤ maxLen) : IntSl P T .u8 w a cur.length cur.length cur := by
 rcases h with ⟨rfl,rfl⟩ | ⟨g,rfl,h2⟩
 ·exact q2w
 ·have := h2.intSl hu hs (Nat.le_refl _) hm; rwa [List.take_length] at this
theorem RowOf.grown {w w' : World} {e : TypeId} {a : Option Addr} {cur : List Int} {row : Option Nat} (h : RowOf w e a cur) (hg : w.grownBy w' row) (hne : a = none ∨ a.map (·.block) ≠ row) : RowOf w' e a cur := by
 rcases h with h | ⟨g,h1,h2⟩
 ·exact Or.inl h
 ·refine Or.inr ⟨g,h1,(hg.block g h2.lt ?_).trans h2⟩
  subst h1
  rcases hne with h | h
  ·cases h
  ·exact h
structure ApS (g m : Nat) (an : Nat → Option Addr) (nn : Nat → Nat) (cu : Nat → List Int) : Prop where
 ne : ∀ j k,j < m → k < m → j ≠ k → an j = none ∨ (an j).map (·.block) ≠ (an k).map (·.block)
 gne : ∀ k,k < m → (an k).map (·.block) ≠ some g
 len : ∀ k,(cu k).length ≤ 1000000
 val : ∀ k,∀ z ∈ cu k,0 ≤ z ∧ z < 256
 few : m ≤ 1000
structure Apart (e : TypeId) (w : World) (g m : Nat) (an : Nat → Option Addr) (nn : Nat → Nat) (cu : Nat → List Int) : Prop where
 hd : ∀ k,k < m → w.cell? ⟨g,k,none⟩ = some (.slice (an k) (nn k) (cu k).length)
 row : ∀ k,k < m → RowOf w e (an k) (cu k)
 glt : g < w.heap.size
theorem Apart.up {e : TypeId} {w w' : World} {g m : Nat} {an : Nat → Option Addr} {nn : Nat → Nat} {cu : Nat → List Int} (h : Apart e w g m an nn cu) (hb : Below w.heap.size w w') : Apart e w' g m an nn cu :=
 ⟨fun k hk => cell_later hb (h.hd k hk),fun k hk => (h.row k hk).up hb,Nat.lt_of_lt_of_le h.glt hb.size⟩
def Try.CopiesK (w : World) (gw m : Nat) (cu : Nat → List Int) (k : Nat) : Prop :=
 ∃ H : Array Value,w.heap[gw]? = some (.cells H 38 (0,0)) ∧ H.size = m ∧
  ∀ j,j < k → ∃ a' c',H[j]? = some (.slice a' (cu j).length c') ∧ IntSl Try.prog 38 .u8 w a' (cu j).length c' (cu j) ∧ ∀ t,t < (cu j).length → gw < (adOf a' t).block
theorem Try.CopiesK.grown {w w' : World} {gw m : Nat} {cu : Nat → List Int} {k : Nat} {row : Option Nat} (h : Try.CopiesK w gw m cu k) (hg : w.grownBy w' row) (hr : ∀ b,row = some b → b < gw) : Try.CopiesK w' gw m cu k := by
 obtain ⟨H,h1,h2,h3⟩ := h
 have hlt : gw < w.heap.size := (Array.getElem?_eq_some_iff.1 h1).1
 refine ⟨H,(hg.block gw hlt (fun e => by have := hr gw e.symm; omega)).trans h1,h2,fun j hj => ?_⟩
 obtain ⟨a',c',e1,e2,e3⟩ := h3 j hj
 exact ⟨a',c',e1,e2.grown hg (fun t ht e => by have := hr _ e.symm; have := e3 t ht; omega),e3⟩
theorem Try.CopiesK.next {wr w1 : World} {gw m : Nat} {cu : Nat → List Int} {j : Nat} {a' : Option Addr} {c' : Nat} (hC : Try.CopiesK wr gw m cu j) (hjm : j < m) (hbw : Below wr.heap.size wr w1)
  (hsl : IntSl Try.prog 38 .u8 w1 a' (cu j).length c' (cu j)) (hblk : ∀ k,k < (cu j).length → wr.heap.size ≤ (adOf a' k).block) : Try.CopiesK (w1.setCell ⟨gw,j,none⟩ (.slice a' (cu j).length c')) gw m cu (j + 1) := by
 obtain ⟨H,h1,h2,h3⟩ := hC
 have hlt : gw < wr.heap.size := (Array.getElem?_eq_some_iff.1 h1).1
 have h1' := (hbw.block gw hlt).trans h1
 have hgr : w1.grownBy (w1.setCell ⟨gw,j,none⟩ (.slice a' (cu j).length c')) (some gw) := ⟨rfl,rfl,rfl,by simp,fun k hk hne => heap_setCell_other w1 _ k _ (fun e => hne (by rw [e]))⟩
 refine ⟨_,heap_setCell_same w1 gw j H _ _ h1',by simp [h2],fun t ht => ?_⟩
 by_cases e : t = j
 ·subst e
  refine ⟨a',c',by simp [h2,hjm],hsl.grown hgr (fun k hk e => ?_),fun k hk => Nat.lt_of_lt_of_le hlt (hblk k hk)⟩
  have := hblk k hk; injection e with e; omega
 ·obtain ⟨a2,c2,e1,e2,e3⟩ := h3 t (by omega)
  refine ⟨a2,c2,?_,(e2.up hbw).grown hgr (fun k hk e => ?_),e3⟩
  ·rw [Array.getElem?_setIfInBounds_ne (by omega)]; exact e1
  ·have := e3 k hk; injection e with e; omega
theorem q4N {e : TypeId} {a : Option Addr} {cur : List Int} {W0 wr w2 w4 : World} (h0 : RowOf W0 e a cur) (hbx : Below W0.heap.size W0 wr) (hg2 : wr.grownBy w2 (a.map (·.block))) (hg4 : w2.grownBy w4 (a.map (·.block))) (h4 : RowOf w4 e a cur) : Below W0.heap.size W0 w4 := by
 refine ⟨hg4.os.trans (hg2.os.trans hbx.os),hg4.tape.trans (hg2.tape.trans hbx.tape),hg4.output.trans (hg2.output.trans hbx.output),Nat.le_trans hbx.size (Nat.le_trans hg2.size hg4.size),fun k hk => ?_⟩
 have k1 : k < wr.heap.size := Nat.lt_of_lt_of_le hk hbx.size
 have k2 : k < w2.heap.size := Nat.lt_of_lt_of_le k1 hg2.size
 by_cases hr : some k = a.map (·.block)
 ·rcases h0 with ⟨rfl,_⟩ | ⟨g,rfl,h0⟩
  ·cases hr
  ·rcases h4 with ⟨h4,_⟩ | ⟨g',h4',h4⟩
   ·cases h4
   ·injection h4' with h4'; injection h4' with h4'; subst h4'
    injection hr with hr; simp at hr; subst hr
    exact h4.trans h0.symm
 ·exact (hg4.block k k2 hr).trans ((hg2.block k k1 hr).trans (hbx.block k hk))
theorem q5l {cur : List Int} (h : ∀ z ∈ cur,0 ≤ z ∧ z < 256) : (cur.map x5A).map x5A = cur := by
 rw [List.map_map]
 conv => rhs; rw [← List.map_id cur]
 exact List.map_congr_left fun z hz => by simp; exact q5z (h z hz).1 (h z hz).2
theorem q4i (l : Nat) (hb : l ≤ 1000) (w : World) :
  (Instr.makeSlice 50 (.int .i64 (l : Int)) (.int .i64 (l : Int))).run Try.prog w = .ok (.slice (some ⟨w.heap.size,0,none⟩) l l) (w.alloc (.cells (madeCells #[.slice none 0 0] l) 38)) := by
 have hinfo : (Try.prog.info? 38).map (fun i => (i.zero,i.size,i.bytes)) = some (some (.slice none 0 0),1,24) := by kernel_rfl
 obtain ⟨i,hi,hz0,hz1,hz2⟩ := info_parts hinfo
 have := run_make (P := Try.prog) w 50 38 i (.slice none 0 0) Try.underlying50 hi hz0 .i64 .i64 l l (by omega) (by omega) (by rw [hz2]; omega) (by omega)
 rw [this,hz1]
 simp only [Int.toNat_natCast,Nat.mul_one]
 rfl
theorem q3w (g m : Nat) (an : Nat → Option Addr) (nn : Nat → Nat) (cu : Nat → List Int) (w : World) (hs : ApS g m an nn cu) (ha : Apart 27 w g m an nn cu) :
  Calls Try.prog 24 #[.slice (some ⟨g,0,none⟩) m m] w fun e w' => e = .returned (.bool true) ∧ Below w.heap.size w w' := by
 have hfew := hs.few
 have hmk := q4i m hfew
 go_enter Try.func24,Try.ntmps24
 go_wp2
 go_loopw [3] (fun i wr => ∃ k : Nat,k ≤ m ∧ i = .int .i64 k ∧ Below w.heap.size w wr) (fun i _ => m - (intOf i).toNat)
 case atStart => exact ⟨0,Nat.zero_le _,rfl,Below.refl _ _⟩
 case round =>
  obtain ⟨i,hi,rfl,hb⟩ := hrel
  by_cases hlt : i < m
  ·rename World => W0
   have haR := ha.up hb
   go_wp2
   have hC0 : Try.CopiesK (W0.alloc (.cells (madeCells #[.slice none 0 0] m) 38)) W0.heap.size m cu 0 :=
    ⟨_,(MapKept.heap_alloc W0 _).1,size_madeCells _ _,fun j hj => absurd hj (by omega)⟩
   go_loopw [5] (fun k wx => ∃ j : Nat,j ≤ m ∧ k = .int .i64 j ∧ Below W0.heap.size W0 wx ∧ Try.CopiesK wx W0.heap.size m cu j) (fun k _ => m - (intOf k).toNat)
   case atStart => exact ⟨0,Nat.zero_le _,rfl,(Below.refl _ _).alloc (Nat.le_refl _) _,hC0⟩
   case round =>
    obtain ⟨j,hj,rfl,hbx,hC⟩ := hrel
    clear hC0
    have haX := haR.up hbx
    by_cases hjm : j < m
    ·have hcx := haX.hd j hjm
     have hcpy : Calls Try.prog 49 #[.slice (an j) (cu j).length (cu j).length] wr.drew fun e w' => Try.CopyR (cu j).length (cu j) wr.drew e w' :=
      q4c _ _ _ _ _ (((haX.row j hjm).up (Below.refl _ _).drew).intSl Try.underlying38 qL (by have := hs.len j; unfold maxLen; omega)) (hs.len j)
     have hk1 : ∀ W,Below wr.drew.heap.size wr.drew W → W.cell? ⟨g,j,none⟩ = some (.slice (an j) (nn j) (cu j).length) := fun W hW => (hW.cell haX.glt).trans hcx
     have hk2 : ∀ W v,Below wr.drew.heap.size wr.drew W → (W.setCell ⟨W0.heap.size,j,none⟩ v).cell? ⟨g,j,none⟩ = some (.slice (an j) (nn j) (cu j).length) := fun W v hW => by
      rw [World.cell?_setCell_other _ _ _ _ (by have := haR.glt; intro e; injection e; omega)]; exact hk1 W hW
     have hst : ∀ W,Below wr.drew.heap.size wr.drew W → ∃ v,W.cell? ⟨W0.heap.size,j,none⟩ = some v := fun W hW => by
      obtain ⟨H,h1,h2,_⟩ := hC
      have hlt2 : W0.heap.size < wr.heap.size := (Array.getElem?_eq_some_iff.1 h1).1
      have := (hW.block _ hlt2).trans h1
      exact ⟨H[j],by simp [World.cell?,this,h2,hjm]⟩
     have hfr : ∀ W,Below wr.drew.heap.size wr.drew W → W.frozen? ⟨W0.heap.size,j,none⟩ = false := fun W hW => by
      obtain ⟨H,h1,h2,_⟩ := hC
      have hlt2 : W0.heap.size < wr.heap.size := (Array.getElem?_eq_some_iff.1 h1).1
      exact frozen_of_row W _ j H _ ((hW.block _ hlt2).trans h1)
     generalize hcl : (cu j).length = c at *
     have HCL : Hid ((cu j).length = c) := hcl
     clear hcl
     go_wp2
     go_region_held3 (fun w' => w'.cell? ⟨g,j,none⟩ = some (.slice (an j) (nn j) c)) (first | exact hcx | exact hk1 _ ‹_› | exact hk2 _ _ ‹_›) ((go_at_call 49; refine hcpy.mono ?_; rintro e w1 ⟨a',c',rfl,hsl,hblk,hbw⟩; obtain ⟨v0,hs1⟩ := hst w1 hbw; have hf1 := hfr w1 hbw))
     go_wp2
     go_roundw
     case rel =>
      refine ⟨j + 1,by omega,by go_num,(hbx.trans ((Below.drew (Below.refl _ _)).trans (hbw.mono (hbx.size)))).setCell (Nat.le_refl _) _,?_⟩
      have hc := HCL.out
      subst hc
      exact hC.next hjm ⟨hbw.os,hbw.tape,hbw.output,hbw.size,hbw.block⟩ hsl hblk
     case measure => simp [intOf]; omega
    ·have hcx := haX.hd i hlt
     have hov : Calls Try.prog 50 #[.slice (an i) (nn i) (cu i).length] wr fun e w' => OverR 27 (an i) (cu i) wr e w' := q1V _ _ _ _ (haX.row i hlt) (hs.len i)
     obtain rfl : m = j := by omega
     have HR0 : Hid (RowOf W0 27 (an i) (cu i)) := haR.row i hlt
     generalize hcl : (cu i).length = c at *
     have HCL : Hid ((cu i).length = c) := hcl
     clear hcl
     go_wp2_with (go_at_call 50; refine hov.mono ?_; rintro e w2 ⟨rfl,hrow2,hg2⟩)
     have hC2 : Try.CopiesK w2 W0.heap.size m cu m := hC.grown hg2 (HR0.out.lt)
     have hA2 : ∀ k,k < m → w2.cell? ⟨g,k,none⟩ = some (.slice (an k) (nn k) (cu k).length) := fun k hk => hg2.cell (haX.hd k hk) (fun e => hs.gne i hlt e.symm)
     have hR2 : ∀ k,k < m → k ≠ i → RowOf w2 27 (an k) (cu k) := fun k hk hne => (haX.row k hk).grown hg2 (hs.ne k i hk hlt hne)
     have HG2 : Hid (wr.grownBy w2 ((an i).map (·.block))) := hg2
     have HBX : Hid (Below W0.heap.size W0 wr) := hbx
     clear hov hg2 hC hcx haX hbx haR hmk
     go_loopw [6] (fun k wy => ∃ j : Nat,j ≤ m ∧ k = .int .i64 j ∧ Hid (∃ n,wy = w2.drewN n)) (fun k _ => m - (intOf k).toNat)
     case atStart => exact ⟨0,Nat.zero_le _,rfl,0,rfl⟩
     case round =>
      rename World => wy
      obtain ⟨k,hk,rfl,hwy⟩ := hrel
      by_cases hkm : k < m
      ·by_cases hki : k = i
       ·subst hki
        have hd : ((k : Int) != (k : Int)) = false := by simp
        go_wp2
        go_quiet (fail)
        go_wp2
        go_roundw
        case rel =>
         obtain ⟨n,hn⟩ := hwy.out
         exact ⟨k + 1,by omega,by go_num,n + nq,by rw [hn,World.drewN_drewN]⟩
        case measure => simp [intOf]; omega
       ·have hd : ((k : Int) != (i : Int)) = true := by simp; omega
        have hcx : wy.cell? ⟨g,k,none⟩ = some (.slice (an k) (nn k) (cu k).length) := by obtain ⟨n,hn⟩ := hwy.out; rw [hn]; exact hA2 k hkm
        obtain ⟨H,hH1,hH2,hH3⟩ := hC2
        obtain ⟨a',c',e1,e2,e3⟩ := hH3 k hkm
        have hcw : wy.cell? ⟨W0.heap.size,k,none⟩ = some (.slice a' (cu k).length c') := by
         obtain ⟨n,hn⟩ := hwy.out; rw [hn]
         show w2.cell? _ = _
         simp [World.cell?,hH1,e1]
        have hI : ∀ q,IntSl Try.prog 38 .u8 (wy.drewN q) (an k) (cu k).length (cu k).length (cu k) := fun q => by
         obtain ⟨n,hn⟩ := hwy.out; rw [hn]
         exact ((((hR2 k hkm hki).intSl Try.underlying38 qL (by have := hs.len k; unfold maxLen; omega)).drewN n).drewN q)
        have hJ : ∀ q,IntSl Try.prog 38 .u8 (wy.drewN q) a' (cu k).length c' (cu k) := fun q => by
         obtain ⟨n,hn⟩ := hwy.out; rw [hn]; exact ((e2.drewN n).drewN q)
        have hsm : ∀ q,Calls Try.prog 20 #[.slice (an k) (cu k).length (cu k).length,.slice a' (cu k).length c'] (wy.drewN q) fun e w' => e = .returned (.bool true) ∧ ∃ n,w' = (wy.drewN q).drewN n := fun q =>
         (qC _ _ _ _ _ _ _ _ _ (hI q) (hJ q)).mono fun e w' ⟨he,hn⟩ => ⟨by rw [he]; simp,hn⟩
        clear hI hJ hH1 hH2 hH3 e1 e2 e3
        generalize (cu k).length = ck at *
        go_wp2
        go_quiet ((go_at_call 20; exact Calls.quiet_of (hsm _)))
        go_wp2
        go_roundw
        case rel =>
         obtain ⟨n,hn⟩ := hwy.out
         exact ⟨k + 1,by omega,by go_num,n + nq,by rw [hn,World.drewN_drewN]⟩
        case measure => simp [intOf]; omega
      ·have hcx : wy.cell? ⟨g,i,none⟩ = some (.slice (an i) (nn i) c) := by
        obtain ⟨n,hn⟩ := hwy.out; rw [hn]; have := hA2 i hlt; rw [HCL.out] at this; exact this
       have hrowY : RowOf wy 27 (an i) ((cu i).map x5A) := by obtain ⟨n,hn⟩ := hwy.out; rw [hn]; exact hrow2.up (below_drewN (Below.refl _ _) n)
       have hov : Calls Try.prog 50 #[.slice (an i) (nn i) c] wy fun e w' => OverR 27 (an i) ((cu i).map x5A) wy e w' := by
        have := q1V (an i) (nn i) ((cu i).map x5A) wy hrowY (by rw [List.length_map]; exact hs.len i)
        rw [List.length_map,HCL.out] at this; exact this
       clear hC2 hA2 hR2 hrowY hrow2
       go_wp2_with (go_at_call 50; refine hov.mono ?_; rintro e w4 ⟨rfl,hrow4,hg4⟩)
       go_roundw
       case rel =>
        have hg4' : w2.grownBy w4 ((an i).map (·.block)) := by
         obtain ⟨n,hn⟩ := hwy.out; rw [hn] at hg4
         exact ⟨hg4.os,hg4.tape,hg4.output,hg4.size,hg4.block⟩
        rw [q5l (hs.val i)] at hrow4
        exact ⟨i + 1,by omega,by go_num,hb.trans ((q4N HR0.out HBX.out HG2.out hg4' hrow4).mono hb.size)⟩
       case measure => simp [intOf]; omega
  ·go_wp2
   go_ret
   exact ⟨rfl,hb⟩
theorem q1z (g m c0 : Nat) (an : Nat → Option Addr) (nn : Nat → Nat) (cu : Nat → List Int) (w : World) (hs : ApSI g m an nn cu) (ha : ApartI 3 w g m an nn cu) :
  Calls Try.prog 25 #[.slice (some ⟨g,0,none⟩) m c0] w fun e w' => e = .returned (.bool true) ∧ Below w.heap.size w w' := by
 have hfew := hs.few
 have hmk := q3F m hfew
 go_enter Try.func25,Try.ntmps25
 go_wp2
 go_loopw [3] (fun i wr => ∃ k : Nat,k ≤ m ∧ i = .int .i64 k ∧ Below w.heap.size w wr) (fun i _ => m - (intOf i).toNat)
 case atStart => exact ⟨0,Nat.zero_le _,rfl,Below.refl _ _⟩
 case round =>
  obtain ⟨i,hi,rfl,hb⟩ := hrel
  by_cases hlt : i < m
  ·rename World => W0
   have haR := ha.up hb
   go_wp2
   have hC0 : Try.CopiesI (W0.alloc (.cells (madeCells #[.slice none 0 0] m) 23)) W0.heap.size m cu 0 :=
    ⟨_,(MapKept.heap_alloc W0 _).1,size_madeCells _ _,fun j hj => absurd hj (by omega)⟩
   go_loopw [5] (fun k wx => ∃ j : Nat,j ≤ m ∧ k = .int .i64 j ∧ Below W0.heap.size W0 wx ∧ Try.CopiesI wx W0.heap.size m cu j) (fun k _ => m - (intOf k).toNat)
   case atStart => exact ⟨0,Nat.zero_le _,rfl,(Below.refl _ _).alloc (Nat.le_refl _) _,hC0⟩
   case round =>
    obtain ⟨j,hj,rfl,hbx,hC⟩ := hrel
    clear hC0
    have haX := haR.up hbx
    by_cases hjm : j < m
    ·have hcx := haX.hd j hjm
     have hcpy : Calls Try.prog 51 #[.slice (an j) (cu j).length (cu j).length] wr.drew fun e w' => Try.CopyRI (cu j).length (cu j) wr.drew e w' :=
      q2I _ _ _ _ _ (((haX.row j hjm).up (Below.refl _ _).drew).intSl Try.underlying23 qe (by have := hs.len j; unfold maxLen; omega)) (hs.len j)
     have hk1 : ∀ W,Below wr.drew.heap.size wr.drew W → W.cell? ⟨g,j,none⟩ = some (.slice (an j) (nn j) (cu j).length) := fun W hW => (hW.cell haX.glt).trans hcx
     have hk2 : ∀ W v,Below wr.drew.heap.size wr.drew W → (W.setCell ⟨W0.heap.size,j,none⟩ v).cell? ⟨g,j,none⟩ = some (.slice (an j) (nn j) (cu j).length) := fun W v hW => by
      rw [World.cell?_setCell_other _ _ _ _ (by have := haR.glt; intro e; injection e; omega)]; exact hk1 W hW
     have hst : ∀ W,Below wr.drew.heap.size wr.drew W → ∃ v,W.cell? ⟨W0.heap.size,j,none⟩ = some v := fun W hW => by
      obtain ⟨H,h1,h2,_⟩ := hC
      have hlt2 : W0.heap.size < wr.heap.size := (Array.getElem?_eq_some_iff.1 h1).1
      have := (hW.block _ hlt2).trans h1
      exact ⟨H[j],by simp [World.cell?,this,h2,hjm]⟩
     have hfr : ∀ W,Below wr.drew.heap.size wr.drew W → W.frozen? ⟨W0.heap.size,j,none⟩ = false := fun W hW => by
      obtain ⟨H,h1,h2,_⟩ := hC
      have hlt2 : W0.heap.size < wr.heap.size := (Array.getElem?_eq_some_iff.1 h1).1
      exact frozen_of_row W _ j H _ ((hW.block _ hlt2).trans h1)
     generalize hcl : (cu j).length = c at *
     have HCL : Hid ((cu j).length = c) := hcl
     clear hcl
     go_wp2
     go_region_held3 (fun w' => w'.cell? ⟨g,j,none⟩ = some (.slice (an j) (nn j) c)) (first | exact hcx | exact hk1 _ ‹_› | exact hk2 _ _ ‹_›) ((go_at_call 51; refine hcpy.mono ?_; rintro e w1 ⟨a',c',rfl,hsl,hblk,hbw⟩; obtain ⟨v0,hs1⟩ := hst w1 hbw; have hf1 := hfr w1 hbw))
     go_wp2
     go_roundw
     case rel =>
      refine ⟨j + 1,by omega,by go_num,(hbx.trans ((Below.drew (Below.refl _ _)).trans (hbw.mono (hbx.size)))).setCell (Nat.le_refl _) _,?_⟩
      have hc := HCL.out
      subst hc
      exact hC.next hjm ⟨hbw.os,hbw.tape,hbw.output,hbw.size,hbw.block⟩ hsl hblk
     case measure => simp [intOf]; omega
    ·have hcx := haX.hd i hlt
     have hov : Calls Try.prog 52 #[.slice (an i) (nn i) (cu i).length] wr fun e w' => OverRI 3 (an i) (cu i) wr e w' := q1g _ _ _ _ (haX.row i hlt) (hs.len i)
     obtain rfl : m = j := by omega
     have HR0 : Hid (RowOfI W0 3 (an i) (cu i)) := haR.row i hlt
     generalize hcl : (cu i).length = c at *
     have HCL : Hid ((cu i).length = c) := hcl
     clear hcl
     go_wp2_with (go_at_call 52; refine hov.mono ?_; rintro e w2 ⟨rfl,hrow2,hg2⟩)
     have hC2 : Try.CopiesI w2 W0.heap.size m cu m := hC.grown hg2 (HR0.out.lt)
     have hA2 : ∀ k,k < m → w2.cell? ⟨g,k,none⟩ = some (.slice (an k) (nn k) (cu k).length) := fun k hk => hg2.cell (haX.hd k hk) (fun e => hs.gne i hlt e.symm)
     have hR2 : ∀ k,k < m → k ≠ i → RowOfI w2 3 (an k) (cu k) := fun k hk hne => (haX.row k hk).grown hg2 (hs.ne k i hk hlt hne)
     have HG2 : Hid (wr.grownBy w2 ((an i).map (·.block))) := hg2
     have HBX : Hid (Below W0.heap.size W0 wr) := hbx
     clear hov hg2 hC hcx haX hbx haR hmk
     go_loopw [6] (fun k wy => ∃ j : Nat,j ≤ m ∧ k = .int .i64 j ∧ Hid (∃ n,wy = w2.drewN n)) (fun k _ => m - (intOf k).toNat)
     case atStart => exact ⟨0,Nat.zero_le _,rfl,0,rfl⟩
     case round =>
      rename World => wy
      obtain ⟨k,hk,rfl,hwy⟩ := hrel
      by_cases hkm : k < m
      ·by_cases hki : k = i
       ·subst hki
        have hd : ((k : Int) != (k : Int)) = false := by simp
        go_wp2
        go_quiet (fail)
        go_wp2
        go_roundw
        case rel =>
         obtain ⟨n,hn⟩ := hwy.out
         exact ⟨k + 1,by omega,by go_num,n + nq,by rw [hn,World.drewN_drewN]⟩
        case measure => simp [intOf]; omega
       ·have hd : ((k : Int) != (i : Int)) = true := by simp; omega
        have hcx : wy.cell? ⟨g,k,none⟩ = some (.slice (an k) (nn k) (cu k).length) := by obtain ⟨n,hn⟩ := hwy.out; rw [hn]; exact hA2 k hkm
        obtain ⟨H,hH1,hH2,hH3⟩ := hC2
        obtain ⟨a',c',e1,e2,e3⟩ := hH3 k hkm
        have hcw : wy.cell? ⟨W0.heap.size,k,none⟩ = some (.slice a' (cu k).length c') := by
         obtain ⟨n,hn⟩ := hwy.out; rw [hn]
         show w2.cell? _ = _
         simp [World.cell?,hH1,e1]
        have hI : ∀ q,IntSl Try.prog 23 .i64 (wy.drewN q) (an k) (cu k).length (cu k).length (cu k) := fun q => by
         obtain ⟨n,hn⟩ := hwy.out; rw [hn]
         exact ((((hR2 k hkm hki).intSl Try.underlying23 qe (by have := hs.len k; unfold maxLen; omega)).drewN n).drewN q)
        have hJ : ∀ q,IntSl Try.prog 23 .i64 (wy.drewN q) a' (cu k).length c' (cu k) := fun q => by
         obtain ⟨n,hn⟩ := hwy.out; rw [hn]; exact ((e2.drewN n).drewN q)
        have hsm : ∀ q,Calls Try.prog 43 #[.slice (an k) (cu k).length (cu k).length,.slice a' (cu k).length c'] (wy.drewN q) fun e w' => e = .returned (.bool true) ∧ ∃ n,w' = (wy.drewN q).drewN n := fun q =>
         (qv _ _ _ _ _ _ _ _ _ (hI q) (hJ q)).mono fun e w' ⟨he,hn⟩ => ⟨by rw [he]; simp,hn⟩
        clear hI hJ hH1 hH2 hH3 e1 e2 e3
        generalize (cu k).length = ck at *
        go_wp2
        go_quiet ((go_at_call 43; exact Calls.quiet_of (hsm _)))
        go_wp2
        go_roundw
        case rel =>
         obtain ⟨n,hn⟩ := hwy.out
         exact ⟨k + 1,by omega,by go_num,n + nq,by rw [hn,World.drewN_drewN]⟩
        case measure => simp [intOf]; omega
      ·have hcx : wy.cell? ⟨g,i,none⟩ = some (.slice (an i) (nn i) c) := by
        obtain ⟨n,hn⟩ := hwy.out; rw [hn]; have := hA2 i hlt; rw [HCL.out] at this; exact this
       have hrowY : RowOfI wy 3 (an i) ((cu i).map xI) := by obtain ⟨n,hn⟩ := hwy.out; rw [hn]; exact hrow2.up (below_drewN (Below.refl _ _) n)
       have hov : Calls Try.prog 52 #[.slice (an i) (nn i) c] wy fun e w' => OverRI 3 (an i) ((cu i).map xI) wy e w' := by
        have := q1g (an i) (nn i) ((cu i).map xI) wy hrowY (by rw [List.length_map]; exact hs.len i)
        rw [List.length_map,HCL.out] at this; exact this
       clear hC2 hA2 hR2 hrowY hrow2
       go_wp2_with (go_at_call 52; refine hov.mono ?_; rintro e w4 ⟨rfl,hrow4,hg4⟩)
       go_roundw
       case rel =>
        have hg4' : w2.grownBy w4 ((an i).map (·.block)) := by
         obtain ⟨n,hn⟩ := hwy.out; rw [hn] at hg4
         exact ⟨hg4.os,hg4.tape,hg4.output,hg4.size,hg4.block⟩
        rw [q5F (hs.val i)] at hrow4
        exact ⟨i + 1,by omega,by go_num,hb.trans ((q4v HR0.out HBX.out HG2.out hg4' hrow4).mono hb.size)⟩
       case measure => simp [intOf]; omega
  ·go_wp2
   go_ret
   exact ⟨rfl,hb⟩
end Go.Proofs.Ytohbphocfkgdcaa
