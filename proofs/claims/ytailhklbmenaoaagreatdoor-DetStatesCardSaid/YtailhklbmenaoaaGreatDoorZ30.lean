/- Texts of the proof, put together: what it uses. -/
import Derived.Deep.DeepCutAuto
import Derived.Deep.RegionHeld3
import Derived.BigQuiet
import Derived.Test.YtailhklbmenaoaaGreatDoorZ20
import Derived.Test.YtailhklbmenaoaaGreatDoorZ21
import Derived.Test.YtailhklbmenaoaaGreatDoorZ22
set_option maxRecDepth 100000
set_option maxHeartbeats 16000000
namespace Go.Proofs.YtailhklbmenaoaaGreatDoor
open Go.RowKit Go.Maps
def DeR (g n : Nat) (r : Int × List Gd) (F : Nat → Prop) (w : World) (e : Ending) (w' : World) : Prop := e = .returned (.int .i64 r.1) ∧ ∃ F',StG w' F' g n r.2 ∧ Fr w w' F F'
theorem q62 (g n : Nat) : ∀ (k M : Nat) (p : Int) (l : List Nat) (a : Option Addr) (c : Nat) (N : List Gd) (F : Nat → Prop) (w : World),M = 2 ^ k → 0 ≤ p → p + k ≤ 8 → l.length = M → (∀ v ∈ l,v ≤ 1048575) → ZSl w a M c (l.map Int.ofNat) → (∀ j,j < M → ¬ F (adOf a j).block) → StG w F g n N → N.length + M ≤ 100000 →
  Calls Tryz.prog 101 #[.pointer (some ⟨g,0,none⟩),.int .i64 p,.slice a M c] w (DeR g n (adM k p (fnL l) N) F w) := by
 intro k
 induction k with
 | zero =>
  intro M p l a c N F w hM hp0 hp8 hl hv hS hF hR hN
  obtain rfl : M = 1 := by simpa using hM
  have hce := hS.cell 0 (by omega)
  have hidx : ∀ w',(Instr.indexAt 29 (.slice a 1 c) (.int .i64 0)).run Tryz.prog w' = .ok (.pointer (some (adOf a 0))) w' := fun w' => by simpa using hS.idx 1 0 w' (by omega) (Nat.le_refl _)
  have hz : (l.map Int.ofNat).getD 0 0 = ((fnL l 0 : Nat) : Int) := by
   simp only [fnL,List.getD_eq_getElem?_getD,List.getElem?_map]
   rcases l[0]? with _ | x <;> rfl
  have hb : fnL l 0 ≤ 1048575 := by
   simp only [fnL,List.getD_eq_getElem?_getD,List.getElem?_eq_getElem (show 0 < l.length by omega),Option.getD_some]
   exact hv _ (List.getElem_mem _)
  rw [hz] at hce
  have HE : Hid (DeR g n (adM 0 p (fnL l) N) F w (.returned (.int .i64 (-1 - ((fnL l 0 : Nat) : Int)))) w) := ⟨rfl,F,hR,Fr.ofBelow (Below.refl _ _)⟩
  generalize DeR g n (adM 0 p (fnL l) N) F w = Q at *
  clear hz hR hF hS
  generalize fnL l 0 = z at *
  have jo := fun w => q32 (z : Int) w ⟨by omega,by omega⟩
  generalize adOf a 0 = ad at *
  obtain ⟨ga,oa,sa⟩ := ad
  go_enter Tryz.func101,Tryz.ntmps101
  go_wp2_with (go_at_call 57; refine (jo _).mono ?_; rintro e w' ⟨rfl,hw1⟩; obtain rfl := hw1.symm)
  exact HE.out
 | succ k ih =>
  intro M p l a c N F w hM hp0 hp8 hl hv hS hF hR hN
  obtain ⟨h,hh⟩ : ∃ h,h = 2 ^ k := ⟨_,rfl⟩
  have h1 : 1 ≤ h := by rw [hh]; exact Nat.one_le_two_pow
  have hMh : M = 2 * h := by rw [hM,hh,Nat.pow_succ]; omega
  have hlen := qaU l h (by omega)
  obtain ⟨Q,eQ⟩ : ∃ Q,Q = DeR g n (adM (k + 1) p (fnL l) N) F w := ⟨_,rfl⟩
  have HQ : Hid (∀ e w',DeR g n (adM (k + 1) p (fnL l) N) F w e w' → Q e w') := fun e w' h => by rw [eQ]; exact h
  rw [← eQ]
  have HH : Hid _ := hh
  have HR : Hid _ := hR
  have HMh : Hid _ := hMh
  have HLn : Hid _ := hlen
  have HV0 : Hid _ := hv
  have HNl : Hid _ := hN
  have hM1 : 1 < M := by omega
  have hM9 : M ≤ 100000 := by omega
  have dm : ((M : Int) == 1) = false := by simp; omega
  have jh := q64 l h M a c w hMh hl hM9 hS
  clear eQ hM hh hS hR hF hMh hlen hl hv hN
  go_enter Tryz.func101,Tryz.ntmps101
  go_wp2_with fail
  refine jh.mono ?_
  rintro e wr ⟨la,lc,ha,hc,rfl,hb9,hLS,hHS,hLb,hHb⟩
  have hR9 := HR.out.up hb9
  have HFlt : Hid (∀ x,F x → x < w.heap.size) := fun x hx => HR.out.lt x hx
  have hp1 : (0 : Int) ≤ p + 1 := by omega
  have jA := ih h (p + 1) (evL l) la lc N F wr HH.out hp1 (by omega) HLn.out.1 (fun v hv => HV0.out v ((q3p l).1 v hv)) hLS (fun x hx hf => by have := HFlt.out _ hf; have := hLb x hx; omega) hR9 (by have := HNl.out; have := HMh.out; omega)
  rcases e1 : adM k (p + 1) (fnL (evL l)) N with ⟨ra,N1⟩
  rw [e1] at jA
  have HjB : Hid (∀ w1 F1,StG w1 F1 g n N1 → Fr wr w1 F F1 → Calls Tryz.prog 101 #[.pointer (some ⟨g,0,none⟩),.int .i64 (p + 1),.slice ha h hc] w1 (DeR g n (adM k (p + 1) (fnL (odL l)) N1) F1 w1)) := fun w1 F1 q1 q2 => by
   have hpl := (q3m k (p + 1) (fnL (evL l)) N).2
   rw [e1] at hpl
   dsimp only at hpl
   have hnf : ∀ x,x < h → ¬ F (adOf ha x).block := fun x hx hf => by have := HFlt.out _ hf; have := hHb x hx; omega
   exact ih h (p + 1) (odL l) ha hc N1 F1 w1 HH.out hp1 (by omega) HLn.out.2 (fun v hv => HV0.out v ((q3p l).2 v hv)) (q2.intSl hHS hnf) (fun x hx => q2.out (hnf x hx) (hHS.blk x hx)) q1 (by have := HNl.out; have := HMh.out; have := HH.out; omega)
  have HFr0 : Hid (∀ w1 F1,Fr wr w1 F F1 → Fr w w1 F F1) := fun w1 F1 q => (Fr.ofBelow hb9).trans q
  have He1 : Hid _ := e1
  clear hLS hLb hHS hHb hb9 hR9 ih e1 jh
  go_wp2_with fail
  refine jA.mono ?_
  rintro e w1 ⟨rfl,F1,hR1,hF1⟩
  have HF1 : Hid _ := HFr0.out w1 F1 hF1
  have jB := HjB.out w1 F1 hR1 hF1
  clear jA HjB HFr0 hF1 hR1
  rcases e2 : adM k (p + 1) (fnL (odL l)) N1 with ⟨rb,N2⟩
  rw [e2] at jB
  have Had : Hid _ := qcM k p l N He1.out e2
  have He2 : Hid _ := e2
  clear e2
  go_wp2_with fail
  refine jB.mono ?_
  rintro e w2 ⟨rfl,F2,hR2,hF2⟩
  have HF2 : Hid (Fr w w2 F F2) := HF1.out.trans hF2
  have HR2 : Hid _ := hR2
  clear jB hF2 HF1 hR2
  dsimp only
  by_cases hab : ra = rb
  ·have HX : Hid (Q (.returned (.int .i64 ra)) w2) := HQ.out _ _ (by rw [Had.out,if_pos hab]; exact ⟨rfl,F2,HR2.out,HF2.out⟩)
   have d3 : (ra == rb) = true := by simpa using hab
   clear hab HQ
   go_wp2
   exact HX.out
  ·have d3 : (ra == rb) = false := by simpa using hab
   have hev := HLn.out
   have hpA := q3m k (p + 1) (fnL (evL l)) N
   rw [He1.out] at hpA
   have hpB := q3m k (p + 1) (fnL (odL l)) N1
   rw [He2.out] at hpB
   have hbA := q7c k (p + 1) (fnL (evL l)) N 1048575 (fun i hi => Nat.le_of_lt_succ (qaX (fun v hv => Nat.lt_succ_of_le (HV0.out v ((q3p l).1 v hv))) (by rw [hev.1,HH.out]; exact hi)))
   rw [He1.out] at hbA
   have hbB := q7c k (p + 1) (fnL (odL l)) N1 1048575 (fun i hi => Nat.le_of_lt_succ (qaX (fun v hv => Nat.lt_succ_of_le (HV0.out v ((q3p l).2 v hv))) (by rw [hev.2,HH.out]; exact hi)))
   rw [He2.out] at hbB
   dsimp only at hpA hpB hbA hbB
   have hN9 : N2.length ≤ 100000 := by have := HNl.out; have := HMh.out; have := HH.out; omega
   have hlB := hpB.1.length_le
   have hY : GdOk (p,ra,rb) := ⟨⟨by omega,by omega⟩,⟨by dsimp only; omega,by dsimp only; omega⟩,⟨by dsimp only; omega,by dsimp only; omega⟩⟩
   have hR2 : StG w2 F2 g n N2 := HR2.out
   have jP := q6M hR2 (p,ra,rb) hY (by omega)
   clear hR2
   unfold ndV at jP
   dsimp only at jP
   have HX : Hid (∀ e w',PlR g n N2 (p,ra,rb) F2 w2 e w' → ∃ z : Int,e = .returned (.int .i64 z) ∧ Q e w') := fun e w' q => by
    obtain ⟨q1,F',q2,q3⟩ := q
    refine ⟨_,q1,HQ.out _ _ ?_⟩
    rw [Had.out,if_neg hab]
    exact ⟨q1,F',q2,HF2.out.trans q3⟩
   clear HQ Had He1 He2 hpA hpB hbA hbB hlB hN9 hev hab hY
   go_wp2_with fail
   refine jP.mono ?_
   intro e w3 hq
   obtain ⟨z,rfl,hQ3⟩ := HX.out e w3 hq
   have HE : Hid _ := hQ3
   clear hq hQ3 HX jP
   go_wp2
   exact HE.out
theorem qe6 {N N' : List Gd} (h : N <+: N') : N'.take N.length = N := by obtain ⟨t,rfl⟩ := h; simp
def SAR (g n : Nat) (r : (Int × Int) × List Gd) (F : Nat → Prop) (w : World) (e : Ending) (w' : World) : Prop := e = .returned (.tuple #[.int .i64 r.1.1,.int .i64 r.1.2]) ∧ ∃ F',StG w' F' g n r.2 ∧ Fr w w' F F'
theorem q9U (g n : Nat) (hn : n ≤ 8) (zs : List Int) (a : Option Addr) (len c : Nat) (N : List Gd) (F : Nat → Prop) (w : World) (hS : ZSl w a len c zs) (hF : ∀ j,j < len → ¬ F (adOf a j).block) (hR : StG w F g n N) (hN : N.length ≤ 4096) :
  Calls Tryz.prog 71 #[.pointer (some ⟨g,0,none⟩),.slice a len c] w (SAR g n (addG n N zs) F w) := by
 obtain ⟨Q,eQ⟩ : ∃ Q,Q = SAR g n (addG n N zs) F w := ⟨_,rfl⟩
 have HQ : Hid (∀ e w',SAR g n (addG n N zs) F w e w' → Q e w') := fun e w' h => by rw [eQ]; exact h
 rw [← eQ]
 clear eQ
 have HL : Hid (zs.length = len) := hS.hlen
 have hbd := Nat.le_trans hS.hcap hS.bd
 unfold maxLen at hbd
 obtain ⟨aN,cN,mb,hr,_⟩ := hR.read
 have c1 := hr.c1
 have hmd := q4T hr
 have jt := fun w' (hb : Below w.heap.size w w') => q5J a len c zs w' (hS.up hb)
 have hmin : min n 64 = n := by omega
 have hsh := q8H n hn
 have hM : 2 ^ n ≤ 256 := Nat.pow_le_pow_right (by decide) hn
 have HArg : Hid ((zs.length ≠ 2 ^ n ∨ ¬ ∀ v ∈ zs,0 ≤ v ∧ v ≤ 1048575) → Q (.returned (.tuple #[.int .i64 0,.int .i64 2])) w) := fun h => HQ.out _ _ (by rw [qeb h]; exact ⟨rfl,F,hR,Fr.ofBelow (Below.refl _ _)⟩)
 by_cases hl : len = 2 ^ n
 ·have HMM : Hid (len = 2 ^ n) := hl
  rw [← hl] at hsh hM
  clear hl
  have dl : ((len : Int) != (len : Int)) = false := by simp
  have jt := jt w (Below.refl _ _)
  by_cases hv : ∀ v ∈ zs,0 ≤ v ∧ v ≤ 1048575
  ·rw [decide_eq_true hv] at jt
   rcases e1 : adM n 0 (fnL (zs.map Int.toNat)) N with ⟨r,N'⟩
   have HQ2 : Hid (∀ e w',SAR g n (if 4096 < N'.length then ((0,11),N) else ((r,0),N')) F w e w' → Q e w') := fun e w' q => HQ.out e w' (by rw [qfh (by rw [HL.out]; exact HMM.out) hv e1]; exact q)
   have jm := q7N hR
   have HjA : Hid (∀ w3,Below w.heap.size w w3 → Calls Tryz.prog 101 #[.pointer (some ⟨g,0,none⟩),.int .i64 0,.slice a len c] w3 (DeR g n (r,N') F w3)) := fun w3 hb => by
    have := q62 g n n len 0 (zs.map Int.toNat) a c N F w3 HMM.out (by omega) (by omega) (by rw [List.length_map]; exact HL.out) (fun v hv' => by
     obtain ⟨u,hu,rfl⟩ := List.mem_map.1 hv'
     have := hv u hu; omega) (by rw [qd8 hv]; exact hS.up hb) hF (hR.up hb) (by omega)
    rw [e1] at this
    exact this
   have hpre := q3m n 0 (fnL (zs.map Int.toNat)) N
   rw [e1] at hpre
   dsimp only at hpre
   have hL2 : N'.length ≤ 100000 := by have := HMM.out; omega
   have Hpre : Hid (N <+: N') := hpre.1
   have Hple : Hid (N.length ≤ N'.length) := hpre.1.length_le
   have HR : Hid _ := hR
   have HN' : Hid (N'.length ≤ 1000000) := by show _ ≤ _; omega
   clear HArg HQ e1 hv hS hF hR hr hpre
   go_enter Tryz.func71,Tryz.ntmps71
   go_wp2_with (first
    | (go_at_call 74; (with_reducible refine hmd.mono ?_); rintro e w' ⟨rfl,hw1⟩; obtain rfl := hw1.symm)
    | (go_at_call 99; (with_reducible refine jt.mono ?_); rintro e w' ⟨rfl,hw1⟩; obtain rfl := hw1.symm)
    | fail)
   refine jm.mono ?_
   rintro e w3 ⟨bx,bn,rfl,hb3,hx3,hn3,ex3,en3⟩
   have jA := HjA.out w3 hb3
   have HB3 : Hid _ := hb3
   have Hex : Hid _ := ex3
   have Hen : Hid _ := en3
   have Hnx : Hid (¬ F bx ∧ ¬ F bn) := ⟨fun h => by have := HR.out.lt _ h; omega,fun h => by have := HR.out.lt _ h; omega⟩
   clear jm HjA hb3 hx3 hn3 ex3 en3 hmd jt c1
   go_wp2_with fail
   refine jA.mono ?_
   rintro e w4 ⟨rfl,F4,hR4,hF4⟩
   dsimp only at hR4
   have HF4 : Hid (Fr w w4 F F4) := (Fr.ofBelow HB3.out).trans hF4
   obtain ⟨a4,c4,mb4,hr4,_⟩ := hR4.read
   have t2 := hr4.c2
   have hlx := (Array.getElem?_eq_some_iff.1 Hex.out).1
   have hln := (Array.getElem?_eq_some_iff.1 Hen.out).1
   have ex4 := (hF4.keep bx hlx Hnx.out.1).trans Hex.out
   have en4 := (hF4.keep bn hln Hnx.out.2).trans Hen.out
   by_cases h4 : 4096 < N'.length
   ·have jU := q7S hR4 N.length Hple.out bx bn HN'.out ex4 en4 (hF4.out Hnx.out.1 hlx) (hF4.out Hnx.out.2 hln)
    rw [qe6 Hpre.out] at jU
    have HE : Hid (∀ w5,StG w5 F4 g n N → Fr w4 w5 F4 F4 → Q (.returned (.tuple #[.int .i64 0,.int .i64 11])) w5) := fun w5 q1 q2 => HQ2.out _ _ (by rw [if_pos h4]; exact ⟨rfl,F4,q1,HF4.out.trans q2⟩)
    clear HQ2 HF4 hF4 hR4 hr4 ex4 en4 hlx hln jA Hex Hen Hpre HN'
    generalize N'.length = L4 at *
    go_wp2_with fail
    refine jU.mono ?_
    rintro e w5 ⟨rfl,q1,q2⟩
    have HE5 : Hid _ := HE.out w5 q1 q2
    clear HE q1 q2 jU
    go_wp2
    exact HE5.out
   ·have HE : Hid (Q (.returned (.tuple #[.int .i64 r,.int .i64 0])) w4) := HQ2.out _ _ (by rw [if_neg h4]; exact ⟨rfl,F4,hR4,HF4.out⟩)
    clear HQ2 HF4 hF4 hR4 hr4 ex4 en4 hlx hln jA Hex Hen Hpre HN'
    generalize N'.length = L4 at *
    go_wp2
    exact HE.out
  ·rw [decide_eq_false hv] at jt
   have HE : Hid _ := HArg.out (.inr hv)
   clear HArg HQ hv hS hF hR hr
   go_enter Tryz.func71,Tryz.ntmps71
   go_wp2_with (first
    | (go_at_call 74; (with_reducible refine hmd.mono ?_); rintro e w' ⟨rfl,hw1⟩; obtain rfl := hw1.symm)
    | (go_at_call 99; (with_reducible refine jt.mono ?_); rintro e w' ⟨rfl,hw1⟩; obtain rfl := hw1.symm)
    | fail)
   exact HE.out
 ·have HE : Hid _ := HArg.out (.inl (by rw [HL.out]; exact hl))
  obtain ⟨m,hm⟩ : ∃ m,m = 2 ^ n := ⟨_,rfl⟩
  rw [← hm] at hl hsh hM
  have dl : ((len : Int) != (m : Int)) = true := by simp; omega
  clear HArg HQ hl hm hS hF hR hr jt
  go_enter Tryz.func71,Tryz.ntmps71
  go_wp2_with (go_at_call 74; (with_reducible refine hmd.mono ?_); rintro e w' ⟨rfl,hw1⟩; obtain rfl := hw1.symm)
  exact HE.out
def isB (m : Nat) (r : Int) : Bool := decide (r < 0) && decide (-1 - r < (m : Int))
theorem q36 (p0 : Int) (aA : Option Addr) (nA cA : Nat) (aG : Option Addr) (nG cG : Nat) (aN : Option Addr) (nN cN : Nat) (r : Int) (w : World) (hr : I64 r) :
  Calls Tryz.prog 59 #[.agg #[.int .i64 p0,.slice aA nA cA,.slice aG nG cG,.slice aN nN cN],.int .i64 r] w fun e w' => e = .returned (.bool (isB nA r)) ∧ Below w.heap.size w w' := by
 have HB0 : Hid _ := qd w (.cells #[.int .i64 p0,.slice aA nA cA,.slice aG nG cG,.slice aN nN cN] 32 (0,0))
 obtain ⟨c0,c1,c2,c3⟩ := q1p w p0 aA nA cA aG nG cG aN nN cN
 have HE : Hid (∀ nq,Below w.heap.size w ((w.alloc (.cells #[.int .i64 p0,.slice aA nA cA,.slice aG nG cG,.slice aN nN cN] 32 (0,0))).drewN nq)) := fun nq => below_drewN HB0.out nq
 obtain ⟨b,hb⟩ : ∃ b,b = isB nA r := ⟨_,rfl⟩
 rw [← hb]
 have jq := fun w => (q32 r w hr).mono (fun e w' h => (⟨h.1,0,h.2⟩ : e = .returned (.int .i64 (-1 - r)) ∧ ∃ n,w' = w.drewN n))
 have h0 := hr.1
 have h1 := hr.2
 clear hr
 by_cases hn : r < 0
 ·have d0 : decide (r < 0) = true := by simpa using hn
  have HX : Hid (b = decide (-1 - r < (nA : Int))) := by show _ = _; rw [hb]; simp [isB,hn]
  clear hb hn
  go_enter Tryz.func59,Tryz.ntmps59
  go_upto_region 15 with fail
  go_quiet ((go_at_call 57; exact Calls.quiet_of (jq _)))
  go_wp2
  go_ret
  exact ⟨by rw [HX.out]; rfl,HE.out _⟩
 ·have d0 : decide (r < 0) = false := by simpa using hn
  have HX : Hid (b = false) := by show _ = _; rw [hb]; simp [isB,hn]
  clear hb hn
  go_enter Tryz.func59,Tryz.ntmps59
  go_upto_region 15 with fail
  go_quiet (fail)
  go_wp2
  go_ret
  exact ⟨by rw [HX.out]; rfl,HE.out _⟩
end Go.Proofs.YtailhklbmenaoaaGreatDoor
