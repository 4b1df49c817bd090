/- Texts of the proof, put together: what it uses. -/
import Derived.BigQuiet
import Derived.Lib.QuietBelow
import Derived.Test.YtohbphocfkgdcaaZ01
import Derived.Test.YtohbphocfkgdcaaZ03
import Derived.Test.YtohbphocfkgdcaaZ07
set_option maxRecDepth 100000
set_option maxHeartbeats 16000000
namespace Go.Proofs.Ytohbphocfkgdcaa
open Go.RowKit Go.Maps Go.Sort
def NumN (m v : Nat) (n E : Int) : Prop := (v &&& m = v ∧ E = 0 ∧ ∃ i : Nat,n = (i : Int) ∧ i < (mvL m).length ∧ (mvL m).getD i 0 = v) ∨ (¬ (v &&& m = v) ∧ n = 0 ∧ E = 14)
def ChkN (p : Int) (nA : Nat) (bs : List Bool) (N : List Gd) (gs : List Int) (e s : Nat) (X : Int) : Prop :=
 (¬ MayG p nA N gs ∧ X = 12) ∨ (MayG p nA N gs ∧ bs.getD 0 false = true ∧ X = 12) ∨ (MayG p nA N gs ∧ bs.getD 0 false = false ∧ ¬ SplitN p.toNat e s ∧ X = 13) ∨ (MayG p nA N gs ∧ bs.getD 0 false = false ∧ SplitN p.toNat e s ∧ X = 0)
def goeL (p : Int) (N : List Gd) (gs : List Int) (e s k : Nat) : List (List Int) := (mvL e).map fun x => (mvL s).map fun y => ((trP (rwA p N gs) k (x ||| y) : Nat) : Int)
def GoeN (p : Int) (nA : Nat) (bs : List Bool) (N : List Gd) (gs : List Int) (e s : Nat) (q : Int) (X : Int) (rs : List (List Int)) : Prop :=
 (X ≠ 0 ∧ ChkN p nA bs N gs e s X ∧ rs = []) ∨ (ChkN p nA bs N gs e s 0 ∧ ¬ (0 ≤ q ∧ q < (nA : Int)) ∧ X = 2 ∧ rs = []) ∨ (ChkN p nA bs N gs e s 0 ∧ X = 0 ∧ ∃ k : Nat,q = (k : Int) ∧ k < nA ∧ rs = goeL p N gs e s k)
structure BrdC : Prop where
 moves : ∀ (m : Nat) (w : World),m < 256 → Calls Try.prog 12 #[.int .u8 (m : Int)] w fun e w' => Below w.heap.size w w' ∧ ∃ a c,e = .returned (.slice a (mvL m).length c) ∧ LtC w' a (mvL m).length c (mvL m)
 number : ∀ (m v : Nat) (w : World),m < 256 → v < 256 → Calls Try.prog 13 #[.int .u8 (m : Int),.int .u8 (v : Int)] w fun e w' => Below w.heap.size w w' ∧ ∃ n E : Int,e = .returned (.tuple #[.int .i64 n,.int .i64 E]) ∧ Hid (NumN m v n E)
 check : ∀ (p : Int) (aA : Option Addr) (nA cA : Nat) (aG : Option Addr) (nG cG : Nat) (aN : Option Addr) (nN cN : Nat) (bs : List Bool) (N : List Gd) (gs : List Int) (x y : Nat) (w : World),BoSl w aA nA cA bs → NdSl w aN nN cN N → ZSl w aG nG cG gs → (∀ z ∈ gs,I64 z) → x < 256 → y < 256 →
  Calls Try.prog 17 #[.agg #[.int .i64 p,.slice aA nA cA,.slice aG nG cG,.slice aN nN cN],.agg #[.int .u8 (x : Int),.int .u8 (y : Int)]] w fun e w' => Below w.heap.size w w' ∧ ∃ X : Int,e = .returned (.int .i64 X) ∧ Hid (ChkN p nA bs N gs x y X)
 goes : ∀ (p : Int) (aA : Option Addr) (nA cA : Nat) (aG : Option Addr) (nG cG : Nat) (aN : Option Addr) (nN cN : Nat) (bs : List Bool) (N : List Gd) (gs : List Int) (x y : Nat) (q : Int) (w : World),BoSl w aA nA cA bs → NdSl w aN nN cN N → ZSl w aG nG cG gs → (∀ z ∈ gs,I64 z) → x < 256 → y < 256 →
  Calls Try.prog 10 #[.agg #[.int .i64 p,.slice aA nA cA,.slice aG nG cG,.slice aN nN cN],.agg #[.int .u8 (x : Int),.int .u8 (y : Int)],.int .i64 q] w fun e w' => Below w.heap.size w w' ∧ ∃ (a : Option Addr) (n c : Nat) (X : Int) (rs : List Zc),e = .returned (.tuple #[.slice a n c,.int .i64 X]) ∧ Hid (GoeN p nA bs N gs x y q X (rs.map Zc.zs)) ∧ Hid (ZzSl w' a n c rs)
def fiN : List Gd := [(0,-2,-3)]
def fiG : List Int := [0,-2,-3]
def fiB : List Bool := [false,false,true]
def fiR : List (List Nat) := [[1,2,1,2],[1,1,1,1],[2,2,2,2]]
theorem q3m : rowsG fiN fiG (2 ^ (2 : Int).toNat) = fiR := by decide +kernel
theorem qF : ∀ z ∈ fiG,I64 z := fun z hz => by
 simp [fiG] at hz
 rcases hz with rfl | rfl | rfl <;> exact ⟨by decide,by decide⟩
theorem q3G : ∀ t ∈ fiN,GdOk t := fun t ht => by
 simp [fiN] at ht
 subst ht
 exact ⟨⟨by decide,by decide⟩,⟨by decide,by decide⟩,⟨by decide,by decide⟩⟩
theorem qG : MayG 2 3 fiN fiG := by
 refine ⟨by decide,by decide,by decide,by decide,rfl,by decide,fun i P lo hi e => ?_,by decide,fun g hg => ?_⟩
 ·match i with
  | 0 =>
   simp [fiN] at e
   obtain ⟨rfl,rfl,rfl⟩ := e
   exact ⟨by decide,by decide,by decide,.inl ⟨by decide,by decide⟩,.inl ⟨by decide,by decide⟩⟩
  | i + 1 => simp [fiN] at e
 ·simp [fiG] at hg
  rcases hg with rfl | rfl | rfl
  ·exact .inr ⟨0,rfl,by decide,_,rfl,by decide⟩
  ·exact .inl ⟨by decide,by decide⟩
  ·exact .inl ⟨by decide,by decide⟩
theorem q3H : goeL 2 fiN fiG 1 2 0 = [[1,1],[2,2]] := by
 unfold goeL
 rw [q3P,q3Q]
 show [[((trP (rowsG fiN fiG (2 ^ (2 : Int).toNat)) 0 (0 ||| 0) : Nat) : Int),_],[_,_]] = _
 rw [q3m]
 decide
theorem qc (w : World) : Calls Try.prog 31 #[] w fun e w' => ∃ a1 c1 a2 c2 a3 c3,e = .returned (.agg #[.int .i64 2,.slice a1 3 c1,.slice a2 3 c2,.slice a3 1 c3]) ∧ Hid (AuX w' a1 3 c1 a2 3 c2 a3 1 c3 fiB fiG fiN) ∧ Hid (Below w.heap.size w w') := by
 have HA : Hid _ := q3F w (.cells #[.int .i64 2,.slice (some ⟨w.heap.size + 1,0,none⟩) 3 3,.slice (some ⟨w.heap.size + 1 + 1,0,none⟩) 3 3,.slice (some ⟨w.heap.size + 1 + 1 + 1,0,none⟩) 1 1] 26) fiB fiG fiN (by decide) (by decide) (by decide) q3G
 go_enter Try.func31,Try.ntmps31
 go_wp2
 refine bodyPost_ret (v := .agg #[.int .i64 2,.slice (some ⟨w.heap.size + 1,0,none⟩) 3 3,.slice (some ⟨w.heap.size + 1 + 1,0,none⟩) 3 3,.slice (some ⟨w.heap.size + 1 + 1 + 1,0,none⟩) 1 1]) ?_ rfl ⟨_,_,_,_,_,_,rfl,HA.out.1,HA.out.2⟩
 simp [results,Try.results31,go_sem]
theorem q17 (a : Option Addr) (n c : Nat) (rs : List Zc) (b : Option Addr) (m d : Nat) (ts : List Zc) (w : World) (hR : ZzSl w a n c rs) (hT : ZzSl w b m d ts) :
  Calls Try.prog 19 #[.slice a n c,.slice b m d] w fun e w' => e = .returned (.bool (decide (rs.map Zc.zs = ts.map Zc.zs))) ∧ Below w.heap.size w w' := by
 obtain ⟨Q,hQ⟩ : ∃ Q : Ending → World → Prop,Q = fun e w' => e = .returned (.bool (decide (rs.map Zc.zs = ts.map Zc.zs))) ∧ Below w.heap.size w w' := ⟨_,rfl⟩
 have HF : Hid (∀ w',Below w.heap.size w w' → ¬ rs.map Zc.zs = ts.map Zc.zs → Q (.returned (.bool false)) w') := fun w' h hn => by rw [hQ,decide_eq_false hn]; exact ⟨rfl,h⟩
 have HT : Hid (∀ w',Below w.heap.size w w' → rs.map Zc.zs = ts.map Zc.zs → Q (.returned (.bool true)) w') := fun w' h hn => by rw [hQ,decide_eq_true hn]; exact ⟨rfl,h⟩
 rw [← hQ]
 clear hQ
 have hn := Nat.le_trans hR.hcap hR.bd
 have hm := Nat.le_trans hT.hcap hT.bd
 unfold maxLen at hn hm
 have HR : Hid _ := hR
 have HTT : Hid _ := hT
 by_cases e : n = m
 ·subst e
  have e0 : ((n : Int) != (n : Int)) = false := by simp
  clear hR hT
  go_enter Try.func19,Try.ntmps19
  go_wp2
  go_loopw [5] (fun i wr => ∃ k : Nat,k ≤ n ∧ i = .int .i64 (k : Int) ∧ Hid (Below w.heap.size w wr) ∧ Hid ((rs.map Zc.zs).take k = (ts.map Zc.zs).take k)) (fun i _ => n - (intOf i).toNat)
  case atStart => exact ⟨0,Nat.zero_le _,rfl,Below.refl _ _,rfl⟩
  case round =>
   obtain ⟨k,hk,rfl,HB,HK⟩ := hrel
   by_cases hlt : k < n
   ·have e1 : decide ((k : Int) < (n : Int)) = true := decide_eq_true (by omega)
    obtain ⟨g1,o1,s1,r1,hr1,i1,ce1,hz1,_⟩ := (HR.out.up HB.out).at k hlt
    obtain ⟨g2,o2,s2,r2,hr2,i2,ce2,hz2,_⟩ := (HTT.out.up HB.out).at k hlt
    have h1 : (rs.map Zc.zs)[k]? = some r1.zs := by rw [List.getElem?_map,hr1]; rfl
    have h2 : (ts.map Zc.zs)[k]? = some r2.zs := by rw [List.getElem?_map,hr2]; rfl
    have cS : ∀ dd os,Calls Try.prog 43 #[.slice r1.a r1.len r1.cap,.slice r2.a r2.len r2.cap] (grow (redrawn wr dd) os) fun e w'' => e = .returned (.bool (decide (r1.zs = r2.zs))) ∧ ∃ p : Regrown,w'' = grow (redrawn wr p.d) p.os := fun dd os => by
     have hb := below_regrown wr dd os
     refine (q1L r1.a r1.len r1.cap r1.zs r2.a r2.len r2.cap r2.zs _ (hz1.up hb) (hz2.up hb)).mono ?_
     rintro e w'' ⟨rfl,q,rfl⟩
     exact ⟨rfl,regrown_of_below (q5 hb (below_drewN (Below.refl _ _) q))⟩
    have HE : Hid (∀ dd os,Below w.heap.size w (grow (redrawn wr dd) os)) := fun dd os => q5 HB.out (below_regrown wr dd os)
    have HEQ : Hid (r1.zs = r2.zs → (rs.map Zc.zs).take (k + 1) = (ts.map Zc.zs).take (k + 1)) := fun e => by
     rw [List.take_add_one,List.take_add_one,HK.out,h1,h2,e]
    have HNE : Hid (¬ r1.zs = r2.zs → ¬ rs.map Zc.zs = ts.map Zc.zs) := fun e h => by
     rw [h,h2] at h1
     injection h1 with h1
     exact e h1.symm
    have k1 := cell_regrown ce1
    have k2 := cell_regrown ce2
    clear hr1 hr2 h1 h2 ce1 ce2 hz1 hz2 HB HK
    generalize hsm : decide (r1.zs = r2.zs) = sm at *
    go_upto_region 6 with fail
    refine wp_region_quiet_below (by kernel_rfl) (by kernel_rfl) ?_
    repeat (go_big_quiet_step (exact cS _ _))
    refine wpQuiet_nil ?_
    intro _ hw'
    obtain ⟨⟨dq,osq⟩,hw''⟩ := hw'
    subst hw''
    have HI3 : Hid _ := HE.out dq osq
    generalize grow (redrawn wr dq) osq = wx at *
    clear cS k1 k2 HE i1 i2
    cases sm with
    | true =>
     have HK2 : Hid _ := HEQ.out (of_decide_eq_true hsm)
     clear hsm HEQ HNE
     go_wp2
     go_roundw
     case rel => exact ⟨k + 1,by omega,by go_num,HI3,HK2⟩
     case measure => simp [intOf]; omega
    | false =>
     have HX : Hid _ := HF.out wx HI3.out (HNE.out (of_decide_eq_false hsm))
     clear hsm HEQ HNE
     go_wp2
     exact HX.out
   ·obtain rfl : k = n := by omega
    have e1 : decide ((k : Int) < (k : Int)) = false := by simp
    have h1 : (rs.map Zc.zs).length = k := by rw [List.length_map]; exact HR.out.hlen
    have h2 : (ts.map Zc.zs).length = k := by rw [List.length_map]; exact HTT.out.hlen
    have HX : Hid _ := HT.out wr HB.out (by
     have := HK.out
     rwa [List.take_of_length_le (by omega),List.take_of_length_le (by omega)] at this)
    clear h1 h2 HB HK
    go_wp2
    exact HX.out
 ·have e0 : ((n : Int) != (m : Int)) = true := by simp; omega
  have HX : Hid _ := HF.out w (Below.refl _ _) (fun h => by
   have h1 := congrArg List.length h
   rw [List.length_map,List.length_map,hR.hlen,hT.hlen] at h1
   exact e h1)
  clear hR hT
  go_enter Try.func19,Try.ntmps19
  go_wp2
  exact HX.out
theorem GoeN.first {X : Int} {rs : List (List Int)} (h : GoeN 2 3 fiB fiN fiG 1 2 0 X rs) : X = 0 ∧ rs = [[1,1],[2,2]] := by
 have hs : SplitN (2 : Int).toNat 1 2 := ⟨by decide,by decide⟩
 have h0 : ChkN 2 3 fiB fiN fiG 1 2 0 := .inr (.inr (.inr ⟨qG,rfl,hs,rfl⟩))
 rcases h with ⟨h1,h2,_⟩ | ⟨_,h2,_⟩ | ⟨_,h1,k,hk,_,h2⟩
 ·rcases h2 with ⟨h3,_⟩ | ⟨_,h3,_⟩ | ⟨_,_,h3,_⟩ | ⟨_,_,_,h3⟩
  ·exact absurd qG h3
  ·cases h3
  ·exact absurd hs h3
  ·exact absurd h3 h1
 ·exact absurd (show (0 : Int) ≤ 0 ∧ (0 : Int) < ((3 : Nat) : Int) from ⟨by decide,by decide⟩) h2
 ·obtain rfl : k = 0 := by omega
  exact ⟨h1,by rw [h2,q3H]⟩
theorem q2w (w : World) : ZzSl (((w.alloc (.cells #[.int .i64 1,.int .i64 1] 3)).alloc (.cells #[.int .i64 2,.int .i64 2] 3)).alloc (.cells #[.slice (some ⟨w.heap.size,0,none⟩) 2 2,.slice (some ⟨w.heap.size + 1,0,none⟩) 2 2] 23)) (some ⟨w.heap.size + 1 + 1,0,none⟩) 2 2 [⟨some ⟨w.heap.size,0,none⟩,2,2,[1,1]⟩,⟨some ⟨w.heap.size + 1,0,none⟩,2,2,[2,2]⟩] ∧
  Below w.heap.size w (((w.alloc (.cells #[.int .i64 1,.int .i64 1] 3)).alloc (.cells #[.int .i64 2,.int .i64 2] 3)).alloc (.cells #[.slice (some ⟨w.heap.size,0,none⟩) 2 2,.slice (some ⟨w.heap.size + 1,0,none⟩) 2 2] 23)) := by
 have e : ∀ (w : World) (o : Obj),(w.alloc o).heap.size = w.heap.size + 1 := fun w o => by simp
 have b1 := zlitP w [1,1] (by decide)
 have b2 := zlitP (w.alloc (.cells #[.int .i64 1,.int .i64 1] 3)) [2,2] (by decide)
 have h3 := (MapKept.heap_alloc ((w.alloc (.cells #[.int .i64 1,.int .i64 1] 3)).alloc (.cells #[.int .i64 2,.int .i64 2] 3)) (.cells #[.slice (some ⟨w.heap.size,0,none⟩) 2 2,.slice (some ⟨w.heap.size + 1,0,none⟩) 2 2] 23)).1
 rw [e,e] at h3
 rw [e] at b2
 refine ⟨⟨rfl,Nat.le_refl _,by decide,fun e => (by cases e),fun x hx k hk => ?_,fun r hr => ?_⟩,q5 (q5 (q6 w _) (q6 _ _)) (q6 _ _)⟩
 ·injection hx with hx
  subst hx
  rw [qa,Nat.zero_add,q7 h3]
  match k,hk with
  | 0,_ => rfl
  | 1,_ => rfl
  | k + 2,hk => simp at hk; omega
 ·simp only [List.mem_cons,List.not_mem_nil,or_false] at hr
  rcases hr with rfl | rfl
  ·exact ⟨(IntSl.up b1 (q6 _ _)).up (q6 _ _),fun z hz => by simp at hz; subst hz; exact ⟨by decide,by decide⟩⟩
  ·exact ⟨IntSl.up b2 (q6 _ _),fun z hz => by simp at hz; subst hz; exact ⟨by decide,by decide⟩⟩
theorem q1w (w : World) (ts : List Nat) (hl : ts.length ≤ 1000) : LtC (w.alloc (.cells (ltV ts).toArray 27)) (some ⟨w.heap.size,0,none⟩) ts.length ts.length ts := by
 have hc := (MapKept.heap_alloc w (.cells (ltV ts).toArray 27)).1
 have had : ∀ k,adOf (some (⟨w.heap.size,0,none⟩ : Addr)) k = ⟨w.heap.size,k,none⟩ := fun k => by simp [adOf,qa]
 refine ⟨by simp,Nat.le_refl _,by unfold maxLen; omega,fun m k w hk hm => qg Try.underlying38 q1P (by simp) k w hk,fun k hk => ?_,fun k hk => by rw [had]; simp,by simp⟩
 rw [had,q7 hc,qq hk]
 simpa using q3I hk
theorem qn (HB : Hid BrdC) (w : World) : Calls Try.prog 26 #[] w fun e w' => e = .returned (.bool true) ∧ Below w.heap.size w w' := by
 obtain ⟨Q,hQ⟩ : ∃ Q : Ending → World → Prop,Q = fun e w' => e = .returned (.bool true) ∧ Below w.heap.size w w' := ⟨_,rfl⟩
 have HQ : Hid (∀ w',Below w.heap.size w w' → Q (.returned (.bool true)) w') := fun w' h => by rw [hQ]; exact ⟨rfl,h⟩
 rw [← hQ]
 clear hQ
 have j1 := qc w
 go_enter Try.func26,Try.ntmps26
 go_wp2_with fail
 refine j1.mono ?_
 rintro e w1 ⟨a1,c1,a2,c2,a3,c3,rfl,hA,hb1⟩
 have HB1 : Hid (Below w.heap.size w w1) := hb1
 have j2 : Calls Try.prog 10 #[.agg #[.int .i64 2,.slice a1 3 c1,.slice a2 3 c2,.slice a3 1 c3],.agg #[.int .u8 1,.int .u8 2],.int .i64 0] w1 fun e w' => Below w1.heap.size w1 w' ∧ ∃ (a : Option Addr) (n c : Nat) (X : Int) (rs : List Zc),e = .returned (.tuple #[.slice a n c,.int .i64 X]) ∧ Hid (GoeN 2 3 fiB fiN fiG 1 2 0 X (rs.map Zc.zs)) ∧ Hid (ZzSl w' a n c rs) :=
  HB.out.goes 2 a1 3 c1 a2 3 c2 a3 1 c3 fiB fiN fiG 1 2 0 w1 hA.out.bo hA.out.nd hA.out.zs qF (by decide) (by decide)
 clear j1 hA hb1
 go_wp2_with fail
 refine j2.mono ?_
 rintro e w2 ⟨hb2,ga,gn,gc,X,rs,rfl,hG,hZ⟩
 obtain ⟨rfl,hrs⟩ := hG.out.first
 have HB2 : Hid (Below w.heap.size w w2) := q5 HB1.out hb2
 obtain ⟨hz5,hb5⟩ := q2w w2
 obtain ⟨w5,hw5⟩ : ∃ w5,w5 = ((w2.alloc (.cells #[.int .i64 1,.int .i64 1] 3)).alloc (.cells #[.int .i64 2,.int .i64 2] 3)).alloc (.cells #[.slice (some ⟨w2.heap.size,0,none⟩) 2 2,.slice (some ⟨w2.heap.size + 1,0,none⟩) 2 2] 23) := ⟨_,rfl⟩
 rw [← hw5] at hz5 hb5
 have j3 := q17 ga gn gc rs (some ⟨w2.heap.size + 1 + 1,0,none⟩) 2 2 _ w5 (hZ.out.up hb5) hz5
 rw [show decide (rs.map Zc.zs = List.map Zc.zs [⟨some ⟨w2.heap.size,0,none⟩,2,2,[1,1]⟩,⟨some ⟨w2.heap.size + 1,0,none⟩,2,2,[2,2]⟩]) = true from decide_eq_true hrs] at j3
 have HB5 : Hid (Below w.heap.size w w5) := q5 HB2.out hb5
 have HW5 : Hid _ := hw5
 clear j2 hb2 hG hZ hrs hz5 hb5 hw5 HB1 HB2
 go_wp2_with (rw [← HW5.out])
 clear HW5
 refine j3.mono ?_
 rintro e w6 ⟨rfl,hb6⟩
 have HB6 : Hid (Below w.heap.size w w6) := q5 HB5.out hb6
 have j4 : Calls Try.prog 12 #[.int .u8 5] w6 fun e w' => Below w6.heap.size w6 w' ∧ ∃ a c,e = .returned (.slice a 4 c) ∧ LtC w' a 4 c [0,1,4,5] := by
  have := HB.out.moves 5 w6 (by decide)
  rw [q1X] at this
  exact this
 clear j3 hb6 HB5
 go_wp2_with fail
 refine j4.mono ?_
 rintro e w7 ⟨hb7,la,lc,rfl,hl⟩
 have hl8 := q1w w7 [0,1,4,5] (by decide)
 obtain ⟨w8,hw8⟩ : ∃ w8,w8 = w7.alloc (.cells #[.int .u8 0,.int .u8 1,.int .u8 4,.int .u8 5] 27) := ⟨_,rfl⟩
 have hb78 : Below w7.heap.size w7 w8 := by rw [hw8]; exact q6 _ _
 have hl8' : LtC w8 (some ⟨w7.heap.size,0,none⟩) 4 4 [0,1,4,5] := by rw [hw8]; exact hl8
 have j5 := qE la 4 lc _ (some ⟨w7.heap.size,0,none⟩) 4 4 _ w8 (IntSl.up hl hb78) hl8'
 rw [decide_eq_true rfl] at j5
 have HB8 : Hid (Below w.heap.size w w8) := q5 HB6.out (q5 hb7 hb78)
 have HW8 : Hid _ := hw8
 clear j4 hb7 hl hl8 hw8 hb78 hl8' HB6
 go_wp2_with (rw [← HW8.out])
 clear HW8
 refine j5.mono ?_
 rintro e w9 ⟨rfl,q,rfl⟩
 have HE : Hid _ := HQ.out _ (q5 HB8.out (below_drewN (Below.refl _ _) q))
 clear j5 HB8 HQ
 go_wp2
 exact HE.out
theorem q3z {m : Nat} (k : Nat) (hm : m < 256) : bits .and .u8 ((m : Int) / 2 ^ k) 1 = ((m / 2 ^ k % 2 : Nat) : Int) := by
 have e : (m : Int) / 2 ^ k = ((m / 2 ^ k : Nat) : Int) := by
  have h2 : ((2 ^ k : Nat) : Int) = (2 : Int) ^ k := by simp
  rw [← h2]; simp
 have h1 : m / 2 ^ k ≤ m := Nat.div_le_self _ _
 rw [e]
 have := u8_and_nat (m / 2 ^ k) 1 (by omega) (by decide)
 simp only [Int.natCast_one] at this
 rw [this,Nat.and_one_is_mod]
theorem q1v {m l : Nat} (hm : m < 256) (hl : l < 256) : (bits .andNot .u8 (l : Int) (m : Int) == 0) = decide (l &&& m = l) := by
 rw [u8_andNot_nat l m hl hm]
 by_cases h : l &&& m = l
 ·rw [decide_eq_true h,(q1d hm hl).2 h]; rfl
 ·rw [decide_eq_false h]
  refine beq_false_of_ne fun e => h ((q1d hm hl).1 ?_)
  exact_mod_cast e
theorem q1h (HB : Hid BrdC) (m v : Nat) (w : World) (hm : m < 256) (hv : v < 256) : Calls Try.prog 4 #[.int .u8 (m : Int),.int .u8 (v : Int)] w fun e w' => e = .returned (.bool true) ∧ Below w.heap.size w w' := by
 obtain ⟨Q,hQ⟩ : ∃ Q : Ending → World → Prop,Q = fun e w' => e = .returned (.bool true) ∧ Below w.heap.size w w' := ⟨_,rfl⟩
 have HQ : Hid (∀ w',Below w.heap.size w w' → Q (.returned (.bool true)) w') := fun w' h => by rw [hQ]; exact ⟨rfl,h⟩
 rw [← hQ]
 clear hQ
 have j1 := qn HB w
 go_enter Try.func4,Try.ntmps4
 go_wp2_with fail
 refine j1.mono ?_
 rintro e w1 ⟨rfl,hb1⟩
 have HB1 : Hid (Below w.heap.size w w1) := hb1
 have j2 := HB.out.moves m w1 hm
 clear j1 hb1
 go_wp2_with fail
 refine j2.mono ?_
 rintro e w2 ⟨hb2,la,lc,rfl,hl⟩
 have HB2 : Hid (Below w.heap.size w w2) := q5 HB1.out hb2
 have HL2 : Hid (LtC w2 la (mvL m).length lc (mvL m)) := hl
 have hK := qU m hm
 have hKle := qi m
 have hbits : ∀ k : Nat,bits .and .u8 ((m : Int) / 2 ^ k) 1 = ((m / 2 ^ k % 2 : Nat) : Int) := fun k => q3z k hm
 clear j2 hb2 hl HB1
 generalize hKK : (mvL m).length = K at *
 have HKK : Hid _ := hKK
 have HK : Hid _ := hK
 clear hKK hK
 go_wp2
 go_loopw [7,8] (fun n i wr => ∃ k : Nat,k ≤ 8 ∧ i = .int .i64 (k : Int) ∧ n = .int .i64 ((cbN m k : Nat) : Int) ∧ Hid (Below w2.heap.size w2 wr)) (fun _ i _ => 8 - (intOf i).toNat)
 case atStart => exact ⟨0,by omega,rfl,rfl,Below.refl _ _⟩
 case round =>
  obtain ⟨k,hk,rfl,rfl,HBr⟩ := hrel
  by_cases hlt : k < 8
  ·have e1 : decide ((k : Int) < 8) = true := decide_eq_true (by omega)
   have hb := hbits k
   have hc : cbN m (k + 1) = cbN m k + m / 2 ^ k % 2 := rfl
   have hcl := q1R m k
   have hbl : m / 2 ^ k % 2 < 2 := Nat.mod_lt _ (by decide)
   have HC : Hid _ := hc
   clear hbits hc
   generalize hbk : m / 2 ^ k % 2 = bk at *
   clear hbk
   generalize cbN m k = ck at *
   go_wp2
   go_roundw
   case rel => exact ⟨k + 1,by omega,by go_num,by rw [HC.out]; go_num,HBr⟩
   case measure => simp [intOf]; omega
  ·have e1 : decide ((k : Int) < 8) = false := decide_eq_false (by omega)
   have hk8 : k = 8 := by omega
   have hc8 : cbN m k ≤ 8 := by rw [hk8]; exact q1R m 8
   have HK8 : Hid (K = 2 ^ cbN m k) := by show _ = _; rw [hk8]; exact HK.out
   clear hbits hk8 HK hlt hk
   have hsh : wrap64 ((2 : Int) ^ cbN m k) = (K : Int) := by
    have h1 : 2 ^ cbN m k ≤ 2 ^ 8 := Nat.pow_le_pow_right (by decide) hc8
    have h3 : ((2 ^ cbN m k : Nat) : Int) = (2 : Int) ^ cbN m k := by simp
    rw [← h3,← HK8.out]
    have h6 : K ≤ 256 := hKle
    unfold wrap64
    omega
   have e9 : ((K : Int) != (K : Int)) = false := by simp
   generalize cbN m k = c8 at *
   generalize k = q8 at *
   go_wp2
   clear hsh e9
   go_loopw [9] (fun i wx => ∃ k : Nat,k ≤ K ∧ i = .int .i64 (k : Int) ∧ Hid (Below w2.heap.size w2 wx)) (fun i _ => K - (intOf i).toNat)
   case atStart => exact ⟨0,Nat.zero_le _,rfl,HBr⟩
   case round =>
    obtain ⟨k,hk,rfl,HBx⟩ := hrel
    clear HBr
    by_cases hlt : k < K
    ·have e2 : decide ((k : Int) < (K : Int)) = true := decide_eq_true (by omega)
     have hLr := HL2.out.up HBx.out
     have hk2 : k < (mvL m).length := by rw [HKK.out]; exact hlt
     have hidx := fun w' => hLr.idx K k w' hlt (Nat.le_refl _)
     have hce := hLr.cell k hlt
     rw [qq hk2] at hce
     obtain ⟨hl8,hlm⟩ := qv hk2
     have hnot := q1v hm hl8
     rw [decide_eq_true hlm] at hnot
     have hnot2 : bits .andNot .u8 (((mvL m).getD k 0 : Nat) : Int) (m : Int) = 0 := beq_iff_eq.1 hnot
     have j3 := HB.out.number m ((mvL m).getD k 0) wr hm hl8
     have HIX : Hid (∀ w' : World,Below wr.heap.size wr w' → w'.cell? (adOf la k) = some (.int .u8 (((mvL m).getD k 0 : Nat) : Int)) ∧ ∀ k1 : Nat,k = k1 + 1 → (∀ w'',(Instr.indexAt 38 (.slice la K lc) (.int .i64 (k1 : Int))).run Try.prog w'' = .ok (.pointer (some (adOf la k1))) w'') ∧ w'.cell? (adOf la k1) = some (.int .u8 (((mvL m).getD k1 0 : Nat) : Int)) ∧ decide ((mvL m).getD k 0 ≤ (mvL m).getD k1 0) = false) := fun w' hb => by
      have hL' := hLr.up hb
      refine ⟨by have := hL'.cell k hlt; rwa [qq hk2] at this,fun k1 hk1 => ⟨fun w'' => hL'.idx K k1 w'' (by omega) (Nat.le_refl _),by have := hL'.cell k1 (by omega); rwa [qq (by omega)] at this,decide_eq_false ?_⟩⟩
      have := q1W (m := m) (i := k1) (j := k) (by omega) hk2
      omega
     have HN : Hid (∀ n E,NumN m ((mvL m).getD k 0) n E → n = (k : Int) ∧ E = 0) := fun n E h => by
      rcases h with ⟨_,h1,i,h2,h3,h4⟩ | ⟨h1,_⟩
      ·have := q2j h3 hk2 h4
       subst this
       exact ⟨h2,h1⟩
      ·exact absurd hlm h1
     clear hLr hk2 hl8 hlm hnot
     generalize hli : (mvL m).getD k 0 = li at *
     clear hli
     generalize hak : adOf la k = ak at *
     obtain ⟨ak1,ak2,ak3⟩ := ak
     clear hak
     go_wp2_with fail
     refine j3.mono ?_
     rintro e w3 ⟨hb3,n,E,rfl,hNN⟩
     obtain ⟨rfl,rfl⟩ := HN.out n E hNN.out
     obtain ⟨hc3,hprev⟩ := HIX.out w3 hb3
     have HB3 : Hid (Below w2.heap.size w2 w3) := q5 HBx.out hb3
     have HE : Hid (∀ dd os,Below w2.heap.size w2 (grow (redrawn w3 dd) os)) := fun dd os => q5 HB3.out (below_regrown w3 dd os)
     have z1 := cell_regrown hc3
     clear j3 hNN hb3 HIX HN hce hc3 HB3 HBx
     by_cases hk0 : k = 0
     ·have e3 : decide (0 < k) = false := decide_eq_false (by omega)
      clear hprev hk0
      go_upto_region 14 with fail
      refine wp_region_quiet_below (by kernel_rfl) (by kernel_rfl) ?_
      repeat (go_big_quiet_step (fail))
      refine wpQuiet_nil ?_
      intro _ hw'
      obtain ⟨⟨dq,osq⟩,hw''⟩ := hw'
      subst hw''
      have HI3 : Hid _ := HE.out dq osq
      generalize grow (redrawn w3 dq) osq = wx at *
      clear z1 HE hidx
      go_wp2
      go_roundw
      case rel => exact ⟨k + 1,by omega,by go_num,HI3⟩
      case measure => simp [intOf]; omega
     ·obtain ⟨k1,hk1⟩ : ∃ k1,k = k1 + 1 := ⟨k - 1,by omega⟩
      obtain ⟨ix1,ce1,e4⟩ := hprev k1 hk1
      have e3 : decide (0 < k) = true := decide_eq_true (by omega)
      have e6 : IntKind.i64.wrap ((k : Int) - 1) = (k1 : Int) := by rw [IntKind.wrap_i64]; omega
      have e7 : (k : Int) - 1 = (k1 : Int) := by omega
      have z2 := cell_regrown ce1
      clear hprev hk1 ce1 hk0
      generalize (mvL m).getD k1 0 = lp at *
      generalize hak1 : adOf la k1 = ap at *
      obtain ⟨ap1,ap2,ap3⟩ := ap
      clear hak1
      go_upto_region 14 with fail
      refine wp_region_quiet_below (by kernel_rfl) (by kernel_rfl) ?_
      repeat (go_big_quiet_step (fail))
      refine wpQuiet_nil ?_
      intro _ hw'
      obtain ⟨⟨dq,osq⟩,hw''⟩ := hw'
      subst hw''
      have HI3 : Hid _ := HE.out dq osq
      generalize grow (redrawn w3 dq) osq = wx at *
      clear z1 z2 HE hidx ix1
      go_wp2
      go_roundw
      case rel => exact ⟨k + 1,by omega,by go_num,HI3⟩
      case measure => simp [intOf]; omega
    ·obtain rfl : k = K := by omega
     have e2 : decide ((k : Int) < (k : Int)) = false := by simp
     have j4 := HB.out.number m v wr hm hv
     have hnot := q1v hm hv
     have HBy : Hid (Below w.heap.size w wr) := q5 HB2.out HBx.out
     clear HBx
     go_wp2_with fail
     refine j4.mono ?_
     rintro e w3 ⟨hb3,n,E,rfl,hNN⟩
     have HE : Hid _ := HQ.out w3 (q5 HBy.out hb3)
     clear HQ hb3 j4 HBy
     rcases hNN.out with ⟨h1,rfl,_⟩ | ⟨h1,rfl,rfl⟩
     ·rw [decide_eq_true h1] at hnot
      clear hNN h1
      go_wp2
      exact HE.out
     ·rw [decide_eq_false h1] at hnot
      clear hNN h1
      go_wp2
      exact HE.out
theorem q1A (k : Int) (n : Nat) (w : World) (hn : 1 ≤ n) (hn2 : n ≤ 1000) :
  Calls Try.prog 29 #[.int .i64 k,.int .i64 (n : Int)] w fun e w' => ∃ i : Nat,i < n ∧ e = .returned (.int .i64 (i : Int)) ∧ w' = w := by
 have b1 : k.tmod n < n := Int.tmod_lt_of_pos k (by omega)
 have b2 : -(n : Int) < k.tmod n := Int.lt_tmod_of_pos k (by omega)
 have hn0 : ¬ ((n : Int) = 0) := by omega
 have hn1 : ¬ ((n : Int) < 1) := by omega
 have hw : IntKind.i64.wrap (k.tmod n) = k.tmod n := by rw [IntKind.wrap_i64]; omega
 by_cases h0 : k.tmod n < 0
 ·have hw2 : IntKind.i64.wrap (k.tmod n + n) = k.tmod n + n := by rw [IntKind.wrap_i64]; omega
  go_enter Try.func29,Try.ntmps29
  go_wp2
  go_ret
  exact ⟨(k.tmod n + n).toNat,by omega,by show Ending.returned (Value.int IntKind.i64 (k.tmod n + n)) = _; rw [Int.toNat_of_nonneg (by omega)],rfl⟩
 ·go_enter Try.func29,Try.ntmps29
  go_wp2
  go_ret
  exact ⟨(k.tmod n).toNat,by omega,by show Ending.returned (Value.int IntKind.i64 (k.tmod n)) = _; rw [Int.toNat_of_nonneg (by omega)],rfl⟩
theorem BoSl.getQ {w : World} {a : Option Addr} {n c : Nat} {bs : List Bool} (h : BoSl w a n c bs) {i : Nat} (hi : i < n) : (∀ w',(Instr.indexAt 22 (.slice a n c) (.int .i64 (i : Int))).run Try.prog w' = .ok (.pointer (some (adOf a i))) w') ∧ w.cell? (adOf a i) = some (.bool (bs.getD i false)) := by
 obtain ⟨x,rfl⟩ := h.some_of (by omega)
 have hl := h.hlen
 refine ⟨fun w' => qg (P := Try.prog) (T := 22) Try.underlying22 q2u (by simp) i w' hi,?_⟩
 have := h.c x rfl i (by omega)
 rw [List.getD_eq_getElem?_getD,List.getElem?_eq_getElem (by omega)]
 exact this
theorem q2o {P : Nat} (hP : P ≤ 8) : ((2 : Int) ^ P - 1) % 256 = ((2 ^ P - 1 : Nat) : Int) := by
 have h1 : 2 ^ P ≤ 2 ^ 8 := Nat.pow_le_pow_right (by decide) hP
 have h2 : 0 < 2 ^ P := Nat.two_pow_pos P
 have h3 : ((2 ^ P : Nat) : Int) = (2 : Int) ^ P := by simp
 rw [← h3]
 omega
theorem q3A {P x : Nat} (hP : P ≤ 8) (hx : x < 256) : bits .and .u8 (x : Int) (((2 : Int) ^ P - 1) % 256) = ((envN P x : Nat) : Int) := by
 have h1 : 2 ^ P ≤ 2 ^ 8 := Nat.pow_le_pow_right (by decide) hP
 rw [q2o hP,u8_and_nat x (2 ^ P - 1) hx (by omega)]
 rfl
theorem q3B {P x : Nat} (hP : P ≤ 8) (hx : x < 256) : bits .andNot .u8 (((2 : Int) ^ P - 1) % 256) (x : Int) = ((sysN P x : Nat) : Int) := by
 have h1 : 2 ^ P ≤ 2 ^ 8 := Nat.pow_le_pow_right (by decide) hP
 rw [q2o hP,u8_andNot_nat (2 ^ P - 1) x (by omega) hx]
 rfl
theorem qM {M : Nat} (h : M ≤ 256) : wrap64 (M : Int) = (M : Int) := by unfold wrap64; omega
theorem ChkN.uni {p : Int} {nA : Nat} {bs : List Bool} {N : List Gd} {gs : List Int} {e s : Nat} {X Y : Int} (h : ChkN p nA bs N gs e s X) (k : ChkN p nA bs N gs e s Y) : X = Y := by
 rcases h with ⟨h1,rfl⟩ | ⟨h1,h2,rfl⟩ | ⟨h1,h2,h3,rfl⟩ | ⟨h1,h2,h3,rfl⟩ <;> rcases k with ⟨k1,rfl⟩ | ⟨k1,k2,rfl⟩ | ⟨k1,k2,k3,rfl⟩ | ⟨k1,k2,k3,rfl⟩ <;> first
  | rfl
  | exact absurd h1 k1
  | exact absurd k1 h1
  | exact absurd h3 k3
  | exact absurd k3 h3
  | (rw [h2] at k2; cases k2)
theorem GoeN.real {p : Int} {nA : Nat} {bs : List Bool} {N : List Gd} {gs : List Int} {e s i : Nat} {X : Int} {rs : List (List Int)} (h : GoeN p nA bs N gs e s (i : Int) X rs) (h0 : ChkN p nA bs N gs e s 0) (hi : i < nA) : X = 0 ∧ rs = goeL p N gs e s i := by
 rcases h with ⟨h1,h2,_⟩ | ⟨_,h2,_⟩ | ⟨_,h1,k,hk,_,h2⟩
 ·exact absurd (h2.uni h0) h1
 ·exact absurd ⟨by omega,by omega⟩ h2
 ·obtain rfl : i = k := by omega
  exact ⟨h1,h2⟩
theorem q33 {p : Int} {N : List Gd} {gs : List Int} {e s i : Nat} : (goeL p N gs e s i).length = (mvL e).length := by simp [goeL]
theorem q34 {p : Int} {N : List Gd} {gs : List Int} {e s i k : Nat} {r : List Int} (h : (goeL p N gs e s i)[k]? = some r) : r.length = (mvL s).length ∧ ∀ j,j < (mvL s).length → r.getD j 0 = ((trP (rwA p N gs) i ((mvL e).getD k 0 ||| (mvL s).getD j 0) : Nat) : Int) := by
 unfold goeL at h
 rw [List.getElem?_map] at h
 cases hk : (mvL e)[k]? with
 | none => rw [hk] at h; cases h
 | some x =>
  rw [hk] at h
  injection h with h
  subst h
  refine ⟨by simp,fun j hj => ?_⟩
  rw [List.getD_eq_getElem?_getD,List.getElem?_map,List.getElem?_eq_getElem hj]
  simp [List.getD_eq_getElem?_getD,hk,List.getElem?_eq_getElem hj]
theorem q1z (HB : Hid BrdC) (p : Int) (aA : Option Addr) (nA cA : Nat) (aG : Option Addr) (nG cG : Nat) (aN : Option Addr) (nN cN : Nat) (bs : List Bool) (gs : List Int) (N : List Gd) (x : Nat) (q : Int) (w : World) (hB : BoSl w aA nA cA bs) (hG : ZSl w aG nG cG gs) (hN : NdSl w aN nN cN N) (hok : ∀ z ∈ gs,I64 z) (hx : x < 256) :
  Calls Try.prog 5 #[.agg #[.int .i64 p,.slice aA nA cA,.slice aG nG cG,.slice aN nN cN],.int .u8 (x : Int),.int .i64 q] w fun e w' => e = .returned (.bool true) ∧ Below w.heap.size w w' := by
 obtain ⟨Q,hQ⟩ : ∃ Q : Ending → World → Prop,Q = fun e w' => e = .returned (.bool true) ∧ Below w.heap.size w w' := ⟨_,rfl⟩
 have HQ : Hid (∀ w',Below w.heap.size w w' → Q (.returned (.bool true)) w') := fun w' h => by rw [hQ]; exact ⟨rfl,h⟩
 rw [← hQ]
 clear hQ
 have HA0 : Hid _ := qb w p aA nA cA aG nG cG aN nN cN
 have HB0 : Hid (Below w.heap.size w (w.alloc (.cells #[.int .i64 p,.slice aA nA cA,.slice aG nG cG,.slice aN nN cN] 26 (0,0)))) := q6 w _
 have jw := qn HB (w.alloc (.cells #[.int .i64 p,.slice aA nA cA,.slice aG nG cG,.slice aN nN cN] 26 (0,0)))
 have HX : Hid (AuX w aA nA cA aG nG cG aN nN cN bs gs N) := ⟨hB,hG,hN⟩
 have HOK : Hid _ := hok
 clear hB hG hN hok
 go_enter Try.func5,Try.ntmps5
 go_wp2_with fail
 refine jw.mono ?_
 rintro e w1 ⟨rfl,hb1⟩
 have HB1 : Hid (Below w.heap.size w w1) := q5 HB0.out hb1
 have HA1 : Hid (AuB w1 w.heap.size p aA nA cA aG nG cG aN nN cN) := HA0.out.up hb1
 obtain ⟨c0,c1,c2,c3⟩ := HA1.out
 have js := q1p p aA nA cA aG nG cG aN nN cN w1
 clear jw hb1 HB0 HA0
 by_cases hlg : lgB p nA nG nN = true
 ·rw [hlg] at js
  have HE : Hid (∀ w3,Below w1.heap.size w1 w3 → Q (.returned (.bool true)) w3) := fun w3 h => HQ.out w3 (q5 HB1.out h)
  clear HQ hlg
  go_wp2_with fail
  refine js.mono ?_
  rintro e w3 ⟨rfl,hb3⟩
  have HE3 : Hid _ := HE.out w3 hb3
  clear js hb3 HE
  go_wp2
  exact HE3.out
 have hlg0 : lgB p nA nG nN = false := by simpa using hlg
 rw [hlg0] at js
 have HLG : Hid _ := q3s hlg0
 clear hlg hlg0
 go_wp2_with fail
 refine js.mono ?_
 rintro e w3 ⟨rfl,hb3⟩
 have HB3 : Hid (Below w.heap.size w w3) := q5 HB1.out hb3
 have HA3 : Hid (AuB w3 w.heap.size p aA nA cA aG nG cG aN nN cN) := HA1.out.up hb3
 have hX3 := HX.out.up HB3.out
 have jc := qQ p aA nA cA aG nG cG aN nN cN N gs w3 hX3.nd hX3.zs HOK.out
 clear js hb3 HB1 HA1 c0 c1 c2 c3 hX3
 obtain ⟨c0,c1,c2,c3⟩ := HA3.out
 go_wp2_with fail
 refine jc.mono ?_
 rintro e w4 ⟨hb4,v4,rfl,⟨rfl,hM⟩ | ⟨rfl,hM⟩⟩
 rotate_left
 ·have HE : Hid _ := HQ.out w4 (q5 HB3.out hb4)
  clear jc HQ hb4
  go_wp2
  exact HE.out
 have HB4 : Hid (Below w.heap.size w w4) := q5 HB3.out hb4
 have HA4 : Hid (AuB w4 w.heap.size p aA nA cA aG nG cG aN nN cN) := HA3.out.up hb4
 have HM : Hid _ := hM
 have h1n : 0 < nA := by have := hM.s1; omega
 have hnG : nG = nA := HX.out.zs.hlen.symm.trans hM.len
 obtain ⟨P,rfl⟩ := Int.eq_ofNat_of_zero_le hM.p0
 have hP3 : P ≤ 3 := by have := HLG.out.1; have := hM.p8; omega
 have hnA : nA ≤ 256 := hM.s2
 clear jc hb4 HB3 HA3 c0 c1 c2 c3 hM
 subst hnG
 have jr := q1H (P : Int) aA nG cA aG nG cG aN nN cN w4 h1n rfl
 obtain ⟨c0,c1,c2,c3⟩ := HA4.out
 go_wp2_with fail
 refine jr.mono ?_
 rintro e w5 ⟨rfl,hb5⟩
 have HB5 : Hid (Below w.heap.size w w5) := q5 HB4.out hb5
 have HA5 : Hid (AuB w5 w.heap.size (P : Int) aA nG cA aG nG cG aN nN cN) := HA4.out.up hb5
 clear jr hb5 HB4 HA4 c0 c1 c2 c3
 obtain ⟨c0,c1,c2,c3⟩ := HA5.out
 have e5 : decide ((P : Int) < 0) = false := by simp
 obtain ⟨ix0,ce0⟩ : (∀ w',(Instr.indexAt 22 (.slice aA nG cA) (.int .i64 0)).run Try.prog w' = .ok (.pointer (some (adOf aA 0))) w') ∧ w5.cell? (adOf aA 0) = some (.bool (bs.getD 0 false)) := by
  have h := (HX.out.up HB5.out).bo
  exact h.getQ h1n
 generalize adOf aA 0 = ad at *
 obtain ⟨ad1,ad2,ad3⟩ := ad
 cases hb0 : bs.getD 0 false with
 | true =>
  rw [hb0] at ce0
  have HE : Hid _ := HQ.out w5 HB5.out
  clear HQ
  go_wp2
  exact HE.out
 | false =>
 rw [hb0] at ce0
 have HBZ : Hid _ := hb0
 have hE := q3A (P := P) (x := x) (by omega) hx
 have hS := q3B (P := P) (x := x) (by omega) hx
 have hE8 : envN P x < 256 := by have h1 := (qh P (by omega) x hx).2.2.2.1; have h2 : 2 ^ P ≤ 2 ^ 8 := Nat.pow_le_pow_right (by decide) (by omega); omega
 have hS8 : sysN P x < 256 := by have h1 := (qh P (by omega) x hx).2.2.2.2; have h2 : 2 ^ P ≤ 2 ^ 8 := Nat.pow_le_pow_right (by decide) (by omega); omega
 have jp := fun w => q1A q nG w h1n (by omega)
 clear hb0
 have HMUL : Hid ((mvL (envN P x)).length * (mvL (sysN P x)).length = 2 ^ P) := q2F (by omega) hx
 have HRND : Hid (∀ a b,a &&& envN P x = a → b &&& sysN P x = b → a ||| b < 2 ^ P) := fun a b ha hb => q2d (by omega) hx ha hb
 have HCK : Hid (ChkN (P : Int) nG bs N gs (envN P x) (sysN P x) 0) := .inr (.inr (.inr ⟨HM.out,HBZ.out,by rw [Int.toNat_natCast]; exact q2E (by omega) hx,rfl⟩))
 generalize envN P x = E at *
 generalize sysN P x = S at *
 obtain ⟨w6,hw6⟩ : ∃ w6,w6 = w5.alloc (.cells #[.int .u8 (E : Int),.int .u8 (S : Int)] 29 (0,0)) := ⟨_,rfl⟩
 have hb56 : Below w5.heap.size w5 w6 := by rw [hw6]; exact q6 _ _
 have hk6 : w6.heap[w5.heap.size]? = some (.cells #[.int .u8 (E : Int),.int .u8 (S : Int)] 29 (0,0)) := by rw [hw6]; exact (MapKept.heap_alloc w5 _).1
 have HB6 : Hid (Below w.heap.size w w6) := q5 HB5.out hb56
 have HA6 : Hid (AuB w6 w.heap.size (P : Int) aA nG cA aG nG cG aN nN cN) := HA5.out.up hb56
 have HK6 : Hid (w6.heap[w5.heap.size]? = some (.cells #[.int .u8 (E : Int),.int .u8 (S : Int)] 29 (0,0))) := hk6
 have HL6 : Hid (w5.heap.size < w6.heap.size) := (Array.getElem?_eq_some_iff.1 hk6).1
 have HW6 : Hid _ := hw6
 obtain ⟨d0,d1,d2,d3⟩ := HA6.out
 have s0 := q7 hk6 0
 have s1 := q7 hk6 1
 clear hw6 hb56 hk6 HB5 HA5
 go_wp2_with (rw [← HW6.out])
 refine (jp w6).mono ?_
 rintro e w' ⟨i,hi,rfl,hw1⟩
 obtain rfl := hw1.symm
 have j1 := HB.out.goes (P : Int) aA nG cA aG nG cG aN nN cN bs N gs E S (i : Int) w6 (HX.out.up HB6.out).bo (HX.out.up HB6.out).nd (HX.out.up HB6.out).zs HOK.out hE8 hS8
 clear jp hw1 HW6 hE hS ix0 ce0 c0 c1 c2 c3
 generalize w5.heap.size = sb at *
 go_wp2_with fail
 refine j1.mono ?_
 rintro e w7 ⟨hb7,ga,gn,gc,X,rs,rfl,hG,hZ⟩
 obtain ⟨rfl,hrs⟩ := hG.out.real HCK.out hi
 have HRS : Hid (rs.map Zc.zs = goeL (P : Int) N gs E S i) := hrs
 have HB7 : Hid (Below w.heap.size w w7) := q5 HB6.out hb7
 have HA7 : Hid (AuB w7 w.heap.size (P : Int) aA nG cA aG nG cG aN nN cN) := HA6.out.up hb7
 have HK7 : Hid (w7.heap[sb]? = some (.cells #[.int .u8 (E : Int),.int .u8 (S : Int)] 29 (0,0))) := (hb7.block sb HL6.out).trans HK6.out
 have HZ7 : Hid (ZzSl w7 ga gn gc rs) := hZ
 have hgn : gn = (mvL E).length := by rw [← hZ.out.hlen,← List.length_map (f := Zc.zs),hrs,q33]
 clear j1 hb7 hG hZ hrs HB6 HA6 HK6 HL6 d0 d1 d2 d3 s0 s1
 have t0 := q7 HK7.out 0
 have t1 := q7 HK7.out 1
 have hbd : Below w7.heap.size w7 w7.drew := (Below.refl _ _).drew
 have k1 : Calls Try.prog 12 #[.int .u8 (E : Int)] w7.drew fun e w' => Below w7.heap.size w7 w' ∧ ∃ a c,e = .returned (.slice a (mvL E).length c) ∧ LtC w' a (mvL E).length c (mvL E) := (HB.out.moves E w7.drew hE8).mono fun e w' h => ⟨q5 hbd h.1,h.2⟩
 have k2 : ∀ wx,Calls Try.prog 12 #[.int .u8 (S : Int)] wx fun e w' => Below wx.heap.size wx w' ∧ ∃ a c,e = .returned (.slice a (mvL S).length c) ∧ LtC w' a (mvL S).length c (mvL S) := fun wx => HB.out.moves S wx hS8
 have HTT : Hid (∀ wx,Below w7.heap.size w7 wx → wx.cell? ⟨sb,0,none⟩ = some (.int .u8 (E : Int)) ∧ wx.cell? ⟨sb,1,none⟩ = some (.int .u8 (S : Int))) := fun wx hb => by
  have := (hb.block sb (Array.getElem?_eq_some_iff.1 HK7.out).1).trans HK7.out
  exact ⟨q7 this 0,q7 this 1⟩
 clear hbd
 go_upto_region 12 with fail
 go_cut [13,14] (fun u v wx => ∃ a1 c1 a2 c2,u = .slice a1 (mvL E).length c1 ∧ v = .slice a2 (mvL S).length c2 ∧ Hid (LtC wx a1 (mvL E).length c1 (mvL E)) ∧ Hid (LtC wx a2 (mvL S).length c2 (mvL S)) ∧ Hid (Below w7.heap.size w7 wx))
 case first => as_aux_lemma =>
  go_region_law (first
   | (revert HB9; intro HB9; go_simp; (with_reducible refine (k2 w9).mono ?_); rintro e w10 ⟨hb10,a2,q2,rfl,hl2⟩; have HB10 : Hid (Below w7.heap.size w7 w10) := q5 HB9.out hb10; have HL2 : Hid (LtC w10 a2 (mvL S).length q2 (mvL S)) := hl2; have HL1 : Hid (LtC w10 a1 (mvL E).length q1 (mvL E)) := HL9.out.up hb10; obtain ⟨v0,v1⟩ := HTT.out w10 HB10.out; dsimp only)
   | (revert k1; intro k1; go_simp; (with_reducible refine k1.mono ?_); rintro e w9 ⟨hb9,a1,q1,rfl,hl1⟩; have HB9 : Hid (Below w7.heap.size w7 w9) := hb9; have HL9 : Hid (LtC w9 a1 (mvL E).length q1 (mvL E)) := hl1; obtain ⟨u0,u1⟩ := HTT.out w9 HB9.out; dsimp only)
   | fail)
  all_goals
   clear hb9 hl1 hb10 hl2
   go_wp2_with fail
   go_meet
   exact ⟨_,_,_,_,rfl,rfl,HL1,HL2,HB10⟩
 case rest =>
 obtain ⟨a1,q1,a2,q2,rfl,rfl,HL1,HL2,HB8⟩ := hcut
 obtain ⟨w8,hw8⟩ : ∃ w8,w8 = wc := ⟨_,rfl⟩
 subst hw8
 have HB8w : Hid (Below w.heap.size w w8) := q5 HB7.out HB8.out
 have HA8 : Hid (AuB w8 w.heap.size (P : Int) aA nG cA aG nG cG aN nN cN) := HA7.out.up HB8.out
 have HZ8 : Hid (ZzSl w8 ga (mvL E).length gc rs) := by have := HZ7.out.up HB8.out; rw [hgn] at this; exact this
 obtain ⟨s0,s1⟩ := HTT.out w8 HB8.out
 have j4 := HB.out.check (P : Int) aA nG cA aG nG cG aN nN cN bs N gs E S w8 (HX.out.up HB8w.out).bo (HX.out.up HB8w.out).nd (HX.out.up HB8w.out).zs HOK.out hE8 hS8
 have hEle := qi E
 have hSle := qi S
 obtain ⟨M,hM2⟩ : ∃ M,M = 2 ^ P := ⟨_,rfl⟩
 have hM8 : M ≤ 256 := by rw [hM2]; exact Nat.pow_le_pow_right (by decide) (show P ≤ 8 by omega)
 have hshl : wrap64 ((2 : Int) ^ P) = (M : Int) := by
  have h3 : ((2 ^ P : Nat) : Int) = (2 : Int) ^ P := by simp
  rw [← h3,← hM2]
  exact qM hM8
 have HEL : Hid (∀ k,k < (mvL E).length → (mvL E).getD k 0 < 256 ∧ (mvL E).getD k 0 &&& E = (mvL E).getD k 0) := fun k hk => qv hk
 have HSL : Hid (∀ k,k < (mvL S).length → (mvL S).getD k 0 < 256 ∧ (mvL S).getD k 0 &&& S = (mvL S).getD k 0) := fun k hk => qv hk
 clear t0 t1 k1 k2 HTT HA7 HK7 HZ7 HB7 HB8 hgn
 generalize hLE : (mvL E).length = LE at *
 generalize hLS : (mvL S).length = LS at *
 have HLE : Hid _ := hLE
 have HLS : Hid _ := hLS
 have hmul : wrap64 ((LE : Int) * (LS : Int)) = (M : Int) := by
  have h3 : ((LE * LS : Nat) : Int) = (LE : Int) * (LS : Int) := by simp
  have h4 : LE * LS = 2 ^ P := HMUL.out
  rw [← h3,h4,← hM2]
  exact qM hM8
 clear hLE hLS hM2 HMUL
 obtain ⟨c0,c1,c2,c3⟩ := HA8.out
 go_wp2_with fail
 refine j4.mono ?_
 rintro e w9 ⟨hb9,X,rfl,hX⟩
 obtain rfl := hX.out.uni HCK.out
 have HB9 : Hid (Below w.heap.size w w9) := q5 HB8w.out hb9
 have HA9 : Hid (AuB w9 w.heap.size (P : Int) aA nG cA aG nG cG aN nN cN) := HA8.out.up hb9
 have HZ9 : Hid (ZzSl w9 ga LE gc rs) := HZ8.out.up hb9
 have HL1' : Hid (LtC w9 a1 LE q1 (mvL E)) := HL1.out.up hb9
 have HL2' : Hid (LtC w9 a2 LS q2 (mvL S)) := HL2.out.up hb9
 clear j4 hb9 hX c0 c1 c2 c3 s0 s1 HA8 HZ8 HL1 HL2 HB8w
 obtain ⟨c0,c1,c2,c3⟩ := HA9.out
 go_wp2
 clear hmul hshl c0 c1 c2 c3
 go_loopw [15] (fun u wr => ∃ k : Nat,k ≤ LE ∧ u = .int .i64 (k : Int) ∧ Hid (Below w9.heap.size w9 wr)) (fun u _ => LE - (intOf u).toNat)
 case atStart => exact ⟨0,Nat.zero_le _,rfl,Below.refl _ _⟩
 case round => as_aux_lemma =>
  obtain ⟨k,hk,rfl,HBr⟩ := hrel
  by_cases hlt : k < LE
  ·have e1 : decide ((k : Int) < (LE : Int)) = true := decide_eq_true (by omega)
   obtain ⟨g1,o1,s1,r1,hr1,i1,ce1,hz1,_⟩ := (HZ9.out.up HBr.out).at k hlt
   have hrow : (goeL (P : Int) N gs E S i)[k]? = some r1.zs := by rw [← HRS.out,List.getElem?_map,hr1]; rfl
   obtain ⟨hrl,hrg⟩ := q34 hrow
   have hlen1 : r1.len = LS := by rw [← hz1.hlen,hrl]; exact HLS.out
   have HG1 : Hid (∀ j,j < LS → r1.zs.getD j 0 = ((trP (rwA (P : Int) N gs) i ((mvL E).getD k 0 ||| (mvL S).getD j 0) : Nat) : Int)) := fun j hj => hrg j (by rw [HLS.out]; exact hj)
   have HZ1 : Hid (ZSl wr r1.a LS r1.cap r1.zs) := by have := hz1; rw [hlen1] at this; exact this
   have HR1 : Hid (rs[k]? = some r1) := hr1
   have HLN1 : Hid (r1.len = LS) := hlen1
   rw [hlen1] at ce1
   have e2 : ((LS : Int) != (LS : Int)) = false := by simp
   clear hr1 hrow hrl hrg hlen1 hz1
   go_wp2
   clear e2 i1 ce1
   have HEK : Hid _ := HEL.out k hlt
   obtain ⟨wo,hwo⟩ : ∃ wo,wo = wr := ⟨_,rfl⟩
   subst hwo
   go_loopw [16] (fun u wy => ∃ j : Nat,j ≤ LS ∧ u = .int .i64 (j : Int) ∧ Hid (Below wo.heap.size wo wy)) (fun u _ => LS - (intOf u).toNat)
   case atStart => exact ⟨0,Nat.zero_le _,rfl,Below.refl _ _⟩
   case round => as_aux_lemma =>
    obtain ⟨j,hj,rfl,HBy⟩ := hrel
    have HB9y : Hid (Below w9.heap.size w9 wr) := q5 HBr.out HBy.out
    by_cases hlj : j < LS
    ·have e3 : decide ((j : Int) < (LS : Int)) = true := decide_eq_true (by omega)
     have hLx := HL1'.out.up HB9y.out
     have hLy := HL2'.out.up HB9y.out
     have ixx := fun w' => hLx.idx LE k w' hlt (Nat.le_refl _)
     have cex := hLx.cell k hlt
     rw [qq (by rw [HLE.out]; exact hlt)] at cex
     have ixy := fun w' => hLy.idx LS j w' hlj (Nat.le_refl _)
     have cey := hLy.cell j hlj
     rw [qq (by rw [HLS.out]; exact hlj)] at cey
     obtain ⟨ha8,haE⟩ := HEK.out
     obtain ⟨hb8,hbS⟩ := HSL.out j hlj
     have hlo := HRND.out _ _ haE hbS
     have hor := u8_or_nat _ _ ha8 hb8
     have hg := HG1.out j hlj
     have hbw := q5 HB9.out HB9y.out
     have hXr := HX.out.up hbw
     have hv1 := HM.out.tr (K := 2 ^ P) (s := i) (x := (mvL E).getD k 0 ||| (mvL S).getD j 0) hi hlo
     have hi64 := q1V HM.out (q := i) (by have h2 := HM.out.len; omega)
     have hl256 : (mvL E).getD k 0 ||| (mvL S).getD j 0 < 256 := by have h2 : 2 ^ P ≤ 2 ^ 8 := Nat.pow_le_pow_right (by decide) (show P ≤ 8 by omega); omega
     generalize (mvL E).getD k 0 = xe at *
     generalize (mvL S).getD j 0 = ye at *
     generalize hll : xe ||| ye = l at *
     have cS : ∀ dd os,Calls Try.prog 30 #[.slice aN nN cN,.int .i64 (gs.getD i 0),.int .u8 (l : Int)] (grow (redrawn wr dd) os) fun e w'' => e = .returned (.tuple #[.int .i64 ((trP (rwA (P : Int) N gs) i l : Nat) : Int),.bool true]) ∧ ∃ p : Regrown,w'' = grow (redrawn wr p.d) p.os := fun dd os => by
      have hb := below_regrown wr dd os
      refine (qX aN nN cN N (gs.getD i 0) l _ (hXr.nd.up hb) hi64 hl256).mono ?_
      rintro e w'' ⟨rfl,h2⟩
      rw [hv1]
      exact ⟨rfl,regrown_of_below (q5 hb h2)⟩
     have ixg := fun w' => hXr.zs.idx nG i w' hi (Nat.le_refl _)
     have ceg := hXr.zs.cell i hi
     obtain ⟨c0,c1,c2,c3⟩ := HA9.out.up HB9y.out
     have HE : Hid (∀ dd os,Below wo.heap.size wo (grow (redrawn wr dd) os)) := fun dd os => q5 HBy.out (below_regrown wr dd os)
     have HGO : Hid (r1.zs.getD j 0 = ((trP (rwA (P : Int) N gs) i l : Nat) : Int)) := hg
     have z2 := cell_regrown c2
     have z3 := cell_regrown c3
     have zx := cell_regrown cex
     have zy := cell_regrown cey
     have zg := cell_regrown ceg
     clear hLx hLy cex cey ha8 haE hb8 hbS hlo hg hbw hXr hv1 hi64 hl256 hll ceg c0 c1 c2 c3 HBy
     generalize gs.getD i 0 = rq at *
     generalize trP (rwA (P : Int) N gs) i l = tq at *
     generalize adOf a1 k = ax at *
     generalize adOf a2 j = ay at *
     generalize adOf aG i = ag at *
     obtain ⟨ax1,ax2,ax3⟩ := ax
     obtain ⟨ay1,ay2,ay3⟩ := ay
     obtain ⟨ag1,ag2,ag3⟩ := ag
     go_upto_region 23 with fail
     refine wp_region_quiet_below (by kernel_rfl) (by kernel_rfl) ?_
     repeat (go_big_quiet_step (exact cS _ _))
     refine wpQuiet_nil ?_
     intro _ hw'
     obtain ⟨⟨dq,osq⟩,hw''⟩ := hw'
     subst hw''
     have HI3 : Hid _ := HE.out dq osq
     have hb3 := below_regrown wr dq osq
     have HB9z : Hid (Below w9.heap.size w9 (grow (redrawn wr dq) osq)) := q5 HB9y.out hb3
     generalize grow (redrawn wr dq) osq = wx at *
     clear cS z2 z3 zx zy zg HE hb3 ixx ixy ixg hor
     obtain ⟨g1,o1,s1,r2,hr2,i1,ce1,_,_⟩ := (HZ9.out.up HB9z.out).at k hlt
     obtain rfl : r2 = r1 := by have := HR1.out; rw [hr2] at this; injection this
     rw [HLN1.out] at ce1
     have hz2 := HZ1.out.up HI3.out
     have i2 := fun w' => hz2.idx LS j w' hlj (Nat.le_refl _)
     have ce2 := hz2.cell j hlj
     rw [HGO.out] at ce2
     have e7 : ((tq : Int) != (tq : Int)) = false := by simp
     clear hr2 hz2 HGO HB9z
     generalize adOf r2.a j = ar at *
     obtain ⟨ar1,ar2,ar3⟩ := ar
     go_wp2
     go_roundw
     case rel => exact ⟨j + 1,by omega,by go_num,HI3⟩
     case measure => simp [intOf]; omega
    ·obtain rfl : j = LS := by omega
     have e3 : decide ((j : Int) < (j : Int)) = false := by simp
     have HBz : Hid (Below w9.heap.size w9 wr) := HB9y
     clear HB9y HBy
     go_wp2
     go_roundw
     case rel => exact ⟨k + 1,by omega,by go_num,HBz⟩
     case measure => simp [intOf]; omega
  ·obtain rfl : k = LE := by omega
   have e1 : decide ((k : Int) < (k : Int)) = false := by simp
   have HE : Hid _ := HQ.out wr (q5 HB9.out HBr.out)
   clear HQ HBr
   go_wp2
   exact HE.out
end Go.Proofs.Ytohbphocfkgdcaa
