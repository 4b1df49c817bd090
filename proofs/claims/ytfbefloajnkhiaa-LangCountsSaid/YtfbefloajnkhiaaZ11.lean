/- Texts of the proof, put together: what it uses. -/
import Derived.BigQuiet
import Derived.Lib.AppendZerosOnto
import Derived.Test.YtfbefloajnkhiaaZ10
set_option maxRecDepth 100000
set_option maxHeartbeats 16000000
namespace Go.Proofs.Ytfbefloajnkhiaa
open Go.RowKit Go.Maps Go.Sort
theorem q2H (d : Option Addr) (m c : Nat) (u : List Nat) (d' : Option Addr) (m' c' : Nat) (v : List Nat) (w : World) (hU : LtC w d m c u) (hV : LtC w d' m' c' v) :
  Calls Try.prog 14 #[.slice d m c,.slice d' m' c'] w fun e w' => e = .returned (.bool (ahL u v)) ∧ Below w.heap.size w w' := by
 obtain ⟨Z,eZ⟩ : ∃ Z : Ending → World → Prop,Z = fun e w' => e = .returned (.bool (ahL u v)) ∧ Below w.heap.size w w' := ⟨_,rfl⟩
 have HZ : Hid (∀ b w',ahL u v = b → Below w.heap.size w w' → Z (.returned (.bool b)) w') := fun b w' h hb => by rw [eZ,h]; exact ⟨rfl,hb⟩
 rw [← eZ]
 clear eZ
 have hlu : u.length = m := by have := hU.hlen; rwa [List.length_map] at this
 have hlv : v.length = m' := by have := hV.hlen; rwa [List.length_map] at this
 have hmb := Nat.le_trans hU.hcap hU.bd
 have hmb' := Nat.le_trans hV.hcap hV.bd
 unfold maxLen at hmb hmb'
 by_cases hm : m = m'
 ·subst hm
  have HA : Hid (ahL u v = ahG u v) := by show _ = _; rw [ahL,if_pos (by omega)]
  have HLU : Hid _ := hlu
  have HLV : Hid _ := hlv
  have HU : Hid _ := hU
  have HV : Hid _ := hV
  clear hU hV hlu hlv
  go_enter Try.func14,Try.ntmps14
  go_wp2
  go_loopw [5] (fun i wr => ∃ k : Nat,k ≤ m ∧ i = .int .i64 (k : Int) ∧ Hid (∀ i,i < k → u.getD i 0 = v.getD i 0) ∧ Hid (Below w.heap.size w wr)) (fun i _ => m - (intOf i).toNat)
  case atStart => exact ⟨0,Nat.zero_le _,rfl,fun i hi => absurd hi (by omega),Below.refl _ _⟩
  case round =>
   obtain ⟨k,hk,rfl,HS,HB⟩ := hrel
   by_cases hlt : k < m
   ·have i1 := fun w' => HU.out.idx m k w' hlt (Nat.le_refl _)
    have i2 := fun w' => HV.out.idx m k w' hlt (Nat.le_refl _)
    have c1 := (HU.out.up HB.out).cell k hlt
    have c2 := (HV.out.up HB.out).cell k hlt
    rw [qi (by rw [HLU.out]; exact hlt)] at c1
    rw [qi (by rw [HLV.out]; exact hlt)] at c2
    have HNE : Hid (u.getD k 0 ≠ v.getD k 0 → ahL u v = decide (u.getD k 0 < v.getD k 0)) := fun h => by rw [HA.out,q5v (by rw [HLU.out,HLV.out]) (by rw [HLU.out]; exact hlt) HS.out h]
    have HEQ : Hid (u.getD k 0 = v.getD k 0 → ∀ i,i < k + 1 → u.getD i 0 = v.getD i 0) := fun h i hi => by
     by_cases e : i = k
     ·rw [e]; exact h
     ·exact HS.out i (by omega)
    have HB0 : Hid (∀ q,Below w.heap.size w (wr.drewN q)) := fun q => below_drewN HB.out q
    generalize u.getD k 0 = x at *
    generalize v.getD k 0 = y at *
    generalize adOf d k = ad1 at *
    obtain ⟨a1,b1,s1⟩ := ad1
    generalize adOf d' k = ad2 at *
    obtain ⟨a2,b2,s2⟩ := ad2
    clear HS HB
    by_cases hxy : x = y
    ·subst hxy
     have HQ : Hid _ := HEQ.out rfl
     clear HNE HEQ HZ
     go_wp2
     go_quiet (fail)
     go_wp2
     go_roundw
     case rel => exact ⟨k + 1,by omega,by go_num,HQ,HB0.out _⟩
     case measure => simp [intOf]; omega
    ·have hne : ((x : Int) == (y : Int)) = false := by simp; omega
     have hE := HNE.out hxy
     by_cases hlt2 : x < y
     ·rw [decide_eq_true hlt2] at hE
      have HE : Hid (∀ w',Below w.heap.size w w' → Z (.returned (.bool true)) w') := fun w' hb => HZ.out true w' hE hb
      have hxyi : (x : Int) < (y : Int) := by omega
      clear HNE HEQ HZ hE
      go_wp2
      go_quiet (fail)
      go_wp2
      go_quiet (fail)
      go_wp2
      exact HE.out _ (by first | exact HB0.out _ | exact below_drewN (HB0.out _) _)
     ·rw [decide_eq_false hlt2] at hE
      have HE : Hid (∀ w',Below w.heap.size w w' → Z (.returned (.bool false)) w') := fun w' hb => HZ.out false w' hE hb
      have hxyi : ¬ (x : Int) < (y : Int) := by omega
      clear HNE HEQ HZ hE
      go_wp2
      go_quiet (fail)
      go_wp2
      go_quiet (fail)
      go_wp2
      exact HE.out _ (by first | exact HB0.out _ | exact below_drewN (HB0.out _) _)
   ·obtain rfl : k = m := by omega
    have HE : Hid _ := HZ.out false wr (by rw [HA.out]; exact q4O (by rw [HLU.out,HLV.out]) (by rw [HLU.out]; exact HS.out)) HB.out
    clear HZ HS HB
    go_wp2
    exact HE.out
 ·have hne : ((m : Int) == (m' : Int)) = false := by simp; omega
  by_cases hlt : m < m'
  ·have HE : Hid _ := HZ.out true w (by rw [ahL,if_neg (by omega)]; exact decide_eq_true (by omega)) (Below.refl _ _)
   have hlt2 : (m : Int) < (m' : Int) := by omega
   clear HZ hU hV hlu hlv
   go_enter Try.func14,Try.ntmps14
   go_wp2
   exact HE.out
  ·have HE : Hid _ := HZ.out false w (by rw [ahL,if_neg (by omega)]; exact decide_eq_false (by omega)) (Below.refl _ _)
   have hlt2 : ¬ (m : Int) < (m' : Int) := by omega
   clear HZ hU hV hlu hlv
   go_enter Try.func14,Try.ntmps14
   go_wp2
   exact HE.out
theorem q3p (w : World) (ts : List Nat) (hl : ts.length ≤ 1000) : LtC (w.alloc (.cells (ltV ts).toArray 52)) (some ⟨w.heap.size,0,none⟩) ts.length ts.length ts := by
 have hc := (MapKept.heap_alloc w (.cells (ltV ts).toArray 52)).1
 have had : ∀ k,adOf (some (⟨w.heap.size,0,none⟩ : Addr)) k = ⟨w.heap.size,k,none⟩ := fun k => by simp [adOf,q8]
 refine ⟨by simp,Nat.le_refl _,by unfold maxLen; omega,fun m k w hk hm => qe Try.underlying27 q1g (by simp) k w hk,fun k hk => ?_,fun k hk => by rw [had]; simp,by simp⟩
 rw [had,q7 hc,qi hk]
 simpa using q3o hk
theorem q5B (w : World) : LtC w none 0 0 [] := ⟨rfl,Nat.le_refl _,Nat.zero_le _,fun m k w hk hm => absurd hk (by omega),fun k hk => absurd hk (by omega),fun k hk => absurd hk (by omega),fun _ => rfl⟩
theorem q2j {w : World} {base n : Nat} {a : Option Addr} {c : Nat} {ts : List Nat} (h : w.ownsRow base 52 1 (.slice a n c) n (ltV ts)) : LtC w a n c ts := by
 obtain ⟨hl,hh⟩ := h
 have hl' : ts.length = n := by simpa [ltV] using hl
 subst hl'
 rcases hh with ⟨e,h0⟩ | ⟨g,cap,cur,e,hg,hcell,hnc,hcm,hsz,htk⟩
 ·injection e with e1 e2 e3
  subst e1; subst e3
  have : ts = [] := List.eq_nil_of_length_eq_zero h0
  subst this
  exact q5B w
 ·injection e with e1 e2 e3
  subst e1; subst e3
  have had : ∀ k,adOf (some (⟨g,0,none⟩ : Addr)) k = ⟨g,k,none⟩ := fun k => by simp [adOf,q8]
  refine ⟨by simp,hnc,hcm,fun m k w hk hm => qe Try.underlying27 q1g (by simp) k w hk,fun k hk => ?_,fun k hk => by rw [had]; exact (Array.getElem?_eq_some_iff.1 hcell).1,by simp⟩
  rw [had,qi hk]
  have := q3o hk
  rw [← htk,List.getElem?_take,if_pos (by omega)] at this
  rw [q7 hcell]
  simpa using this
theorem q5A (ts : List Nat) : runP (rowsG laN laG (2 ^ (1 : Int).toNat)) 0 ts = runP laR 0 ts := by rw [q1m]
theorem AccA.la {ts : List Nat} {v : Bool} {r : Int} (h : AccA 1 2 laN laG laB ts v r) (hl : ts.length ≤ 1024) (ht : ∀ x ∈ ts,x < 2) : v = laB.getD (runP laR 0 ts) false ∧ r = 0 := by
 have h0 := q2G q1P hl ht
 rcases h with ⟨h1,_⟩ | ⟨_,h1,_⟩ | ⟨_,_,h2,h3⟩
 ·exact absurd q1P h1
 ·exact absurd h0 h1
 ·rw [q5A] at h2; exact ⟨h2,h3⟩
theorem q4w : ∀ m,cntP laR laB m 0 = 2 ^ m - 1 ∧ cntP laR laB m 1 = 2 ^ m
 | 0 => ⟨rfl,rfl⟩
 | m + 1 => by
  obtain ⟨h0,h1⟩ := q4w m
  have e0 : cntP laR laB (m + 1) 0 = cntP laR laB m 0 + (cntP laR laB m 1 + 0) := rfl
  have e1 : cntP laR laB (m + 1) 1 = cntP laR laB m 1 + (cntP laR laB m 1 + 0) := rfl
  have := Nat.two_pow_pos m
  rw [e0,e1,h0,h1,Nat.pow_succ]
  omega
theorem CouA.la {m v r : Int} (h : CouA 1 2 laN laG laB m v r) : if 0 ≤ m ∧ m ≤ 1024 then (if 64 < m then v = 0 ∧ r = 15 else v = ((2 ^ m.toNat - 1 : Nat) : Int) ∧ r = 0) else v = 0 ∧ r = 2 := by
 have hc := (q4w m.toNat).1
 rcases h with ⟨h1,_⟩ | ⟨_,h1,h2,h3⟩ | ⟨_,h1,h2,h3,h4,h5⟩ | ⟨_,h1,h2,h3,h4,h5⟩
 ·exact absurd q1P h1
 ·rw [if_neg h1]; exact ⟨h2,h3⟩
 ·rw [if_pos ⟨h1,h2⟩]
  rw [q1m,hc] at h3
  by_cases e : 64 < m
  ·rw [if_pos e]; exact ⟨h4,h5⟩
  ·have : 2 ^ m.toNat ≤ 2 ^ 64 := Nat.pow_le_pow_right (by omega) (by omega)
   omega
 ·rw [if_pos ⟨h1,h2⟩]
  rw [q1m,hc] at h3 h4
  by_cases e : 64 < m
  ·have : 2 ^ 65 ≤ 2 ^ m.toNat := Nat.pow_le_pow_right (by omega) (by omega)
   omega
  ·rw [if_neg e]; exact ⟨h4,h5⟩
theorem ShoA.la {ts : List Nat} {is : Bool} {r : Int} (h : ShoA 1 2 laN laG laB ts is r) : ts = [1] ∧ is = true ∧ r = 0 := by
 rcases h with ⟨h1,_⟩ | ⟨_,h1,_⟩ | ⟨_,_,h2,h3⟩
 ·exact absurd q1P h1
 ·exact absurd h1 (by decide)
 ·rw [q1m] at h2
  obtain ⟨h4,h5⟩ := h2.one (l := 1) (by decide) (by decide) (fun k hk => by obtain rfl : k = 0 := (by omega); decide)
  exact ⟨h4,h5,h3⟩
theorem q4n {w : World} {a1 : Option Addr} {c1 : Nat} {a2 : Option Addr} {c2 : Nat} {a3 : Option Addr} {c3 : Nat} (hA : AuX w a1 2 c1 a2 2 c2 a3 1 c3 laB laG laN) {d : Option Addr} {m c : Nat} {ts : List Nat} (hL : LtC w d m c ts) (hl : ts.length ≤ 1024) (ht : ∀ x ∈ ts,x < 2) :
  Calls Try.prog 11 #[.agg #[.int .i64 1,.slice a1 2 c1,.slice a2 2 c2,.slice a3 1 c3],.slice d m c] w fun e w' => e = .returned (.tuple #[.bool (laB.getD (runP laR 0 ts) false),.int .i64 0]) ∧ Below w.heap.size w w' :=
 (qH 1 a1 2 c1 a2 2 c2 a3 1 c3 laB laN laG d m c ts w hA.bo hA.nd hA.zs q3m hL).mono fun e w' ⟨hb,v,r,he,h⟩ => by
  obtain ⟨rfl,rfl⟩ := h.la hl ht
  exact ⟨he,hb⟩
theorem q4p {w : World} {a1 : Option Addr} {c1 : Nat} {a2 : Option Addr} {c2 : Nat} {a3 : Option Addr} {c3 : Nat} (hA : AuX w a1 2 c1 a2 2 c2 a3 1 c3 laB laG laN) :
  Calls Try.prog 12 #[.agg #[.int .i64 1,.slice a1 2 c1,.slice a2 2 c2,.slice a3 1 c3]] w fun e w' => Below w.heap.size w w' ∧ ∃ a c,e = .returned (.tuple #[.slice a 1 c,.bool true,.int .i64 0]) ∧ LtC w' a 1 c [1] :=
 (q1p 1 a1 2 c1 a2 2 c2 a3 1 c3 laB laN laG w hA.bo hA.nd hA.zs q3m).mono fun e w' ⟨hb,ts,is,r,a,c,he,ho,h⟩ => by
  obtain ⟨rfl,rfl,rfl⟩ := h.la
  exact ⟨hb,a,c,he,q2j ho⟩
theorem q4o {w : World} {a1 : Option Addr} {c1 : Nat} {a2 : Option Addr} {c2 : Nat} {a3 : Option Addr} {c3 : Nat} (hA : AuX w a1 2 c1 a2 2 c2 a3 1 c3 laB laG laN) (m v0 r0 : Int) (h0 : ∀ v r,(if 0 ≤ m ∧ m ≤ 1024 then (if 64 < m then v = 0 ∧ r = 15 else v = ((2 ^ m.toNat - 1 : Nat) : Int) ∧ r = 0) else v = 0 ∧ r = 2) → v = v0 ∧ r = r0) :
  Calls Try.prog 16 #[.agg #[.int .i64 1,.slice a1 2 c1,.slice a2 2 c2,.slice a3 1 c3],.int .i64 m] w fun e w' => e = .returned (.tuple #[.int .u64 v0,.int .i64 r0]) ∧ Below w.heap.size w w' :=
 (q11 1 a1 2 c1 a2 2 c2 a3 1 c3 laB laN laG m w hA.bo hA.nd hA.zs q3m).mono fun e w' ⟨hb,v,r,he,h⟩ => by
  obtain ⟨rfl,rfl⟩ := h0 v r h.la
  exact ⟨he,hb⟩
theorem q4c {w : World} {a : Option Addr} {c : Nat} {ts us : List Nat} {a' : Option Addr} {c' : Nat} (h1 : LtC w a ts.length c ts) (h2 : LtC w a' us.length c' us) : Calls Try.prog 22 #[.slice a ts.length c,.slice a' us.length c'] w fun e w' => e = .returned (.bool (decide (ts = us))) ∧ Below w.heap.size w w' :=
 (q2c a ts.length c (ts.map Int.ofNat) a' us.length c' (us.map Int.ofNat) w h1 h2).mono fun e w' ⟨he,n,hw⟩ => by
  have e1 : decide (ts.map Int.ofNat = us.map Int.ofNat) = decide (ts = us) := by
   congr 1; apply propext
   exact ⟨fun h => List.map_inj_right (fun x y h => by injection h) |>.1 h,fun h => by rw [h]⟩
  rw [e1] at he
  subst hw
  exact ⟨he,below_drewN (Below.refl _ _) n⟩
theorem q24 (w : World) : Calls Try.prog 6 #[] w fun e w' => e = .returned (.bool true) ∧ Below w.heap.size w w' := by
 have jf := q36
 have j1 := jf w
 have HJF : Hid (∀ w,Calls Try.prog 20 #[] w fun e w' => ∃ a1 c1 a2 c2 a3 c3,e = .returned (.agg #[.int .i64 1,.slice a1 2 c1,.slice a2 2 c2,.slice a3 1 c3]) ∧ Hid (AuX w' a1 2 c1 a2 2 c2 a3 1 c3 laB laG laN) ∧ Hid (Below w.heap.size w w')) := jf
 clear jf
 go_enter Try.func6,Try.ntmps6
 go_wp2_with fail
 refine j1.mono ?_
 rintro e w1 ⟨a1,c1,a2,c2,a3,c3,rfl,HA,HB⟩
 have hL : LtC (w1.alloc (.cells #[.int .u8 0,.int .u8 1] 52)) (some ⟨w1.heap.size,0,none⟩) 2 2 [0,1] := q3p w1 [0,1] (by decide)
 have j2 := q4n (HA.out.up (q6 w1 (.cells #[.int .u8 0,.int .u8 1] 52))) hL (by decide) (by decide)
 rw [show laB.getD (runP laR 0 [0,1]) false = true by decide] at j2
 have HB1 : Hid (Below w.heap.size w (w1.alloc (.cells #[.int .u8 0,.int .u8 1] 52))) := q5 HB.out (q6 _ _)
 clear j1 HA HB hL
 go_wp2_with fail
 refine j2.mono ?_
 rintro e w2 ⟨rfl,hb2⟩
 have HB2 : Hid (Below w.heap.size w w2) := q5 HB1.out hb2
 have j3 := HJF.out w2
 clear j2 hb2 HB1
 go_wp2_with fail
 refine j3.mono ?_
 rintro e w3 ⟨a1,c1,a2,c2,a3,c3,rfl,HA,HB⟩
 have j4 := q4p HA.out
 have HB3 : Hid (Below w.heap.size w w3) := q5 HB2.out HB.out
 clear j3 HA HB HB2
 go_wp2_with fail
 refine j4.mono ?_
 rintro e w4 ⟨hb4,at4,ct4,rfl,hl4⟩
 have HB4 : Hid (Below w.heap.size w w4) := q5 HB3.out hb4
 have HL4 : Hid _ := hl4
 have j5 := HJF.out w4
 clear j4 hb4 hl4 HB3
 go_wp2_with fail
 refine j5.mono ?_
 rintro e w5 ⟨a1,c1,a2,c2,a3,c3,rfl,HA,HB⟩
 have j6 := q4o HA.out 3 7 0 (fun v r h => by simpa using h)
 have HB5 : Hid (Below w.heap.size w w5) := q5 HB4.out HB.out
 have HL5 : Hid (LtC w5 at4 1 ct4 [1]) := HL4.out.up HB.out
 clear j5 HA HB HB4 HL4
 go_wp2_with fail
 refine j6.mono ?_
 rintro e w6 ⟨rfl,hb6⟩
 have hb7 := q5 hb6 (q6 w6 (.cells #[.int .u8 1] 52))
 have HB6 : Hid (Below w.heap.size w (w6.alloc (.cells #[.int .u8 1] 52))) := q5 HB5.out hb7
 have j7 := q4c (ts := [1]) (us := [1]) (HL5.out.up hb7) (q3p w6 [1] (by decide))
 rw [decide_eq_true rfl] at j7
 clear j6 hb6 HB5 HL5 hb7 HJF
 simp only [List.length_cons,List.length_nil,Nat.zero_add] at j7
 go_wp2_with fail
 refine j7.mono ?_
 rintro e w8 ⟨rfl,hb8⟩
 have HB8 : Hid (Below w.heap.size w w8) := q5 HB6.out hb8
 clear j7 hb8 HB6
 go_wp2
 go_ret
 exact ⟨rfl,HB8.out⟩
end Go.Proofs.Ytfbefloajnkhiaa
namespace Go.Proofs.Ytfbefloajnkhiaa
open Go.RowKit Go.Maps
abbrev iW (l : List Nat) : List Int := l.map Int.ofNat
theorem q5y (l : List Nat) : (iW l).map (Value.int .u8) = ltV l := by rw [List.map_map]; rfl
theorem ltLen {w : World} {a : Option Addr} {n c : Nat} {l : List Nat} (h : LtC w a n c l) : n = l.length := by
 have := h.hlen
 rw [List.length_map] at this
 exact this.symm
theorem q4z {w : World} {a : Addr} {n c : Nat} {l : List Nat} (h : LtC w (some a) n c l) : ∀ j u,((iW l).map (Value.int .u8))[j]? = some u → w.cell? (a.add j) = some u := by
 intro j u hj
 have hjl : j < (l.map Int.ofNat).length := by have := (List.getElem?_eq_some_iff.1 hj).1; simpa [iW] using this
 have hc := h.cell j (by rw [← h.hlen]; exact hjl)
 have e : u = .int .u8 ((l.map Int.ofNat).getD j 0) := by
  rw [List.getElem?_map,List.getElem?_eq_getElem hjl] at hj
  rw [List.getD_eq_getElem?_getD,List.getElem?_eq_getElem hjl]
  simpa using hj.symm
 rw [e]; exact hc
theorem q1S (n : Nat) : (Builtin.zeroCells (Value.int .u8 0).cells n).size = n * 1 := by
 rw [size_zeroCells]; rfl
theorem q4u (l k : List Nat) : iW (l ++ k) = iW l ++ iW k := by simp [iW]
theorem q1T {w : World} {ops : Array Oper} {rest : List Oper} {o : Oper} {a : Act} {Q : Exit → Act → World → Prop} (hgd : o.guard = none) (s x : Operand)
  (ho : o.op = .call { callee := .builtin .append,args := #[s,x],argTypes := #[27,27] }) (base : Nat)
  (v : Value) (xs ys : List Nat) (b : Option Addr) (len cap : Nat) (hs : a.eval s = v) (hx : a.eval x = .slice b len cap) (hown : w.ownsRow base 52 1 v xs.length ((iW xs).map (Value.int .u8))) (hT : LtC w b len cap ys)
  (hn : xs.length ≤ 10000000) (hm : ys.length ≤ 10000000) (hbase : base ≤ w.heap.size)
  (h : ∀ v' w',w'.ownsRow base 52 1 v' (xs ++ ys).length ((iW (xs ++ ys)).map (Value.int .u8)) → w.grownBy w' v.ownBlock → wpList Try.prog ops Q rest (a.put o.dst v') w') : wpList Try.prog ops Q (o :: rest) a w := by
 obtain ⟨i,hi,hz0,hz1,hz2⟩ := info_parts qG
 have hl := ltLen hT
 cases b with
 | none =>
  have hc := hT.nn rfl
  have hcl := hT.hcap
  obtain rfl : len = 0 := by omega
  subst hc
  have hy := List.eq_nil_of_length_eq_zero hl.symm
  subst hy
  refine wpList_plain hgd fun _ hK => ?_
  have hrun := run_append_owned_none (P := Try.prog) w base 27 o.type 52 i 1 Try.underlying27 hi v xs.length _ hown
  unfold Oper.wp execOp
  simp only [ho,resolve,invoke,builtin,Sem.run_bind,Sem.run_pure,Result.andThen_ok,List.map_toArray,List.map_cons,List.map_nil,hs,hx,hrun]
  refine hK _ _ ?_
  exact h v w (by rw [List.append_nil]; exact hown) (World.grownBy.refl _ _)
 | some y =>
  refine wpList_append_own w hgd s x 27 ho base 52 i _ 1 1 Try.underlying27 hi hz0 hz1 hz2 rfl (by decide) v xs.length _ hs hown y len cap ((iW ys).map (Value.int .u8)) hx (by simp [hl]) (q4z hT) (ints_oneCell .u8 (iW ys)) (by unfold maxLen; omega) (by omega) hbase ?_
  intro v' w' h1 h2 _
  exact h v' w' (by rw [q4u,List.map_append,List.length_append,← hl]; exact h1) h2
theorem q1o {w : World} {ops : Array Oper} {rest : List Oper} {o : Oper} {a : Act} {Q : Exit → Act → World → Prop} (hgd : o.guard = none) (s x : Operand)
  (ho : o.op = .call { callee := .builtin .append,args := #[s,x],argTypes := #[27,3] }) (n : Nat) (hs : a.eval s = .slice none 0 0) (hx : a.eval x = .int .i64 (n : Int)) (h0 : 0 < n) (hn : n ≤ 1000000)
  (h : ∀ G w',n ≤ G → w'.ownsRow w.heap.size 52 1 (.slice (some ⟨w.heap.size,0,none⟩) 0 G) 0 (([] : List Value)) → Below w.heap.size w w' → wpList Try.prog ops Q rest (a.put o.dst (.slice (some ⟨w.heap.size,0,none⟩) n G)) w') : wpList Try.prog ops Q (o :: rest) a w := by
 refine wpList_plain hgd fun _ hK => ?_
 obtain ⟨i,hi,hz0,hz1,hz2⟩ := info_parts qG
 have hrz : ∀ ty,(Builtin.append_ #[27,3] ty #[.slice none 0 0,.int .i64 (n : Int)]).run Try.prog w = .ok (.slice (some ⟨w.heap.size,0,none⟩) n (grownCap w n 0 52)) (w.drew.alloc (.cells (Builtin.zeroCells (Value.int .u8 0).cells n ++ Builtin.zeroCells (Value.int .u8 0).cells (grownCap w n 0 52 - n)) 52)) := fun ty => by
  have h := Lib.run_append_grow_zeros w 27 3 ty 52 i (.int .u8 0) .i64 .i64 Try.underlying27 Try.underlying3 hi hz0 none 0 0 [] (run_firstCells_none w.drew i.size 0 0 0) n (by omega) (by omega) (by omega) (by omega) (by rw [hz2]; omega) (growslice_fits (by omega) (by rw [hz2]; omega))
  simpa using h
 have hG := grownCap_ge w n 0 52
 have hG2 := grownCap_le_maxLen w n 0 52 (by unfold maxLen; omega)
 have hcs : (Builtin.zeroCells (Value.int .u8 0).cells n ++ Builtin.zeroCells (Value.int .u8 0).cells (grownCap w n 0 52 - n)).size = grownCap w n 0 52 * 1 := by
  rw [Array.size_append,q1S,q1S]; omega
 generalize Builtin.zeroCells (Value.int .u8 0).cells n ++ Builtin.zeroCells (Value.int .u8 0).cells (grownCap w n 0 52 - n) = cs at *
 generalize grownCap w n 0 52 = G at *
 have HW : (w.drew.alloc (.cells cs 52)).ownsRow w.heap.size 52 1 (.slice (some ⟨w.heap.size,0,none⟩) 0 G) 0 (([] : List Value)) := ⟨rfl,Or.inr ⟨w.heap.size,G,cs,rfl,Nat.le_refl _,(MapKept.heap_alloc w.drew _).1,Nat.zero_le _,hG2,hcs,rfl⟩⟩
 have HB : Below w.heap.size w (w.drew.alloc (.cells cs 52)) := (Below.refl _ w).drew.alloc (Nat.le_refl _) _
 have hrun := hrz o.type
 unfold Oper.wp execOp
 simp only [ho,resolve,invoke,builtin,Sem.run_bind,Sem.run_pure,Result.andThen_ok,List.map_toArray,List.map_cons,List.map_nil,hs,hx,hrun]
 exact hK _ _ (h G _ hG HW HB)
theorem q2R (n : Nat) (w : World) (hn : n ≤ 1000000) :
  Calls Try.prog 61 #[.slice none 0 0,.int .i64 (n : Int)] w fun e w' => ∃ v,e = .returned v ∧ w'.ownsRow w.heap.size 52 1 v 0 (([] : List Value)) ∧ Below w.heap.size w w' := by
 by_cases h0 : n = 0
 ·subst h0
  go_enter Try.func61,Try.ntmps61
  go_wp2
  go_ret
  exact ⟨_,rfl,⟨rfl,Or.inl ⟨rfl,rfl⟩⟩,Below.refl _ _⟩
 ·have hpos : (0 : Int) < (n : Int) := by omega
  go_enter Try.func61,Try.ntmps61
  go_wp2_with (at_builtin; refine q1o rfl _ _ rfl n rfl rfl (by omega) hn ?_)
  intro G w' hG HW HB
  have HW1 : Hid (World.ownsRow w' w.heap.size 52 1 (.slice (some ⟨w.heap.size,0,none⟩) 0 G) 0 (([] : List Value))) := HW
  go_wp2
  go_ret
  exact ⟨.slice (some ⟨w.heap.size,0,none⟩) 0 G,rfl,HW1.out,HB⟩
structure PcL where
 a : Option Addr
 len : Nat
 cap : Nat
 ts : List Nat
def joinW (ps : List PcL) : List Nat := ps.flatMap (·.ts)
def lensW (ps : List PcL) (k : Nat) : Nat := (joinW (ps.take k)).length
theorem q1O {ps : List PcL} {k : Nat} (h : k < ps.length) : joinW (ps.take (k + 1)) = joinW (ps.take k) ++ ps[k].ts := by
 unfold joinW; rw [List.take_add_one,List.getElem?_eq_getElem h,List.flatMap_append]; simp
theorem q4Z (ps : List PcL) (k : Nat) : (joinW (ps.take k)).length ≤ (joinW ps).length := by
 have h : joinW ps = joinW (ps.take k) ++ joinW (ps.drop k) := by
  unfold joinW; rw [← List.flatMap_append,List.take_append_drop]
 rw [h,List.length_append]; omega
theorem qX : (Try.prog.info? 27).map (·.size) = some 1 := by kernel_rfl
theorem q1E (g : Nat) (ps : List PcL) (w : World) (hc : ∀ k (h : k < ps.length),w.cell? ⟨g,k,none⟩ = some (.slice ps[k].a ps[k].len ps[k].cap)) (hg : g < w.heap.size) (hT : ∀ p ∈ ps,LtC w p.a p.len p.cap p.ts) (hn : (joinW ps).length ≤ 1000000) (hp : ps.length ≤ 1000) :
  Calls Try.prog 58 #[.slice (some ⟨g,0,none⟩) ps.length ps.length] w fun e w' => ∃ v,e = .returned v ∧ w'.ownsRow w.heap.size 52 1 v (joinW ps).length ((iW (joinW ps)).map (Value.int .u8)) ∧ Below w.heap.size w w' := by
 have hix : ∀ k w',k < ps.length → (Instr.indexAt 39 (.slice (some ⟨g,0,none⟩) ps.length ps.length) (.int .i64 (k : Nat))).run Try.prog w' = .ok (.pointer (some ⟨g,k,none⟩)) w' := fun k w' h => by
  have := qe (a := some ⟨g,0,none⟩) (cap := ps.length) (n := ps.length) Try.underlying39 qX (by simp) k w' h
  simpa [adOf,q8] using this
 have HC : Hid _ := hc
 have HT : Hid _ := hT
 clear hc hT
 have hgr := fun (n : Nat) (h : n ≤ 1000000) w' => q2R n w' h
 obtain ⟨n,hnn⟩ : ∃ n,n = ps.length := ⟨_,rfl⟩
 have HN : Hid _ := hnn
 rw [← hnn] at hp hix ⊢
 have hbk0 : ∀ k,(joinW (ps.take k)).length ≤ 1000000 := fun k => Nat.le_trans (q4Z ps k) hn
 go_enter Try.func58,Try.ntmps58
 go_wp2
 go_loopw [3,11] (fun s j wr => ∃ k : Nat,k ≤ n ∧ j = .int .i64 k ∧ s = .int .i64 (lensW ps k : Nat) ∧ wr = w) (fun _ j _ => n - (intOf j).toNat)
 case atStart => exact ⟨0,Nat.zero_le _,rfl,by simp [lensW,joinW],rfl⟩
 case round =>
  obtain ⟨k,hk,rfl,rfl,hww⟩ := hrel
  obtain rfl : w = wr := hww.symm
  by_cases hlt : k < n
  ·have hkl : k < ps.length := by rw [← HN.out]; exact hlt
   have hi := fun w' => hix k w' hlt
   have hc1 := HC.out k hkl
   have hl := ltLen (HT.out ps[k] (List.getElem_mem hkl))
   have HLL : Hid _ := hl
   have HS : Hid (lensW ps (k + 1) = lensW ps k + ps[k].len) := by
    show _ = _; unfold lensW; rw [q1O hkl,List.length_append,hl]
   have hb1 : lensW ps k + ps[k].len ≤ 1000000 := by rw [← HS.out]; exact hbk0 (k + 1)
   generalize lensW ps k = S at *
   generalize ps[k] = p at *
   obtain ⟨pa,pl,pc,pt⟩ := p
   dsimp only at *
   have hw : IntKind.i64.wrap ((S : Int) + (pl : Int)) = ((S + pl : Nat) : Int) := by rw [IntKind.wrap_i64]; omega
   have hneg : ¬ (((S + pl : Nat) : Int) < 0) := by omega
   go_wp2
   go_roundw
   case rel => exact ⟨k + 1,by omega,by go_num,by rw [HS.out]; simp [HLL.out],trivial⟩
   case measure => simp [intOf]; omega
  ·obtain rfl : k = n := by omega
   have hbn := hbk0 k
   have HJ : Hid (joinW (ps.take k) = joinW ps) := by show _ = _; rw [List.take_of_length_le (by rw [HN.out]; exact Nat.le_refl _)]
   have hgn := hgr (lensW ps k) hbn
   generalize lensW ps k = S at *
   have hix : ∀ j w',j < k → (Instr.indexAt 39 (.slice (some ⟨g,0,none⟩) k k) (.int .i64 (j : Nat))).run Try.prog w' = .ok (.pointer (some ⟨g,j,none⟩)) w' := fun j w' h => by
    have := qe (a := some ⟨g,0,none⟩) (cap := k) (n := k) Try.underlying39 qX (by simp) j w' h
    simpa [adOf,q8] using this
   go_wp2_with fail
   refine (hgn _).mono ?_
   rintro e w1 ⟨v,rfl,hown,hw1⟩
   have HO : Hid (w1.ownsRow w.heap.size 52 1 v 0 (([] : List Value))) := hown
   go_wp2
   go_loopw [6,27] (fun s j w2 => ∃ m : Nat,m ≤ k ∧ j = .int .i64 m ∧ Hid (w2.ownsRow w.heap.size 52 1 s (joinW (ps.take m)).length ((iW (joinW (ps.take m))).map (Value.int .u8))) ∧ Hid (Below w.heap.size w w2)) (fun _ j _ => k - (intOf j).toNat)
   case atStart => exact ⟨0,Nat.zero_le _,rfl,HO,hw1⟩
   case round =>
    obtain ⟨m,hm,rfl,HO2,hb2⟩ := hrel
    by_cases hltm : m < k
    ·have hml : m < ps.length := by rw [← HN.out]; exact hltm
     have hi := fun w' => hix m w' hltm
     have hc1 := (hb2.out.cell hg).trans (HC.out m hml)
     have hTm := (HT.out ps[m] (List.getElem_mem hml)).up hb2.out
     have HS : Hid _ := q1O hml
     have hbm := hbk0 m
     have hpm : ps[m].ts.length ≤ 1000000 := by
      have := hbk0 (m + 1); rw [HS.out,List.length_append] at this; omega
     have hlt := World.ownsRow.lt HO2.out
     have hsz := hb2.out.size
     generalize joinW (ps.take m) = J at *
     generalize ps[m] = p at *
     obtain ⟨pa,pl,pc,pt⟩ := p
     dsimp only at *
     go_wp2_with (at_builtin; refine q1T rfl _ _ rfl w.heap.size _ J pt pa pl pc rfl rfl HO2.out hTm (by omega) (by omega) (by omega) ?_)
     intro v3 w3 hown3 hgr3
     have HO3 : Hid (w3.ownsRow w.heap.size 52 1 v3 (J ++ pt).length ((iW (J ++ pt)).map (Value.int .u8))) := by show World.ownsRow _ _ _ _ _ _ _; rw [List.length_append]; simpa using hown3
     have hb3 : Hid _ := hb2.out.grown hgr3 hsz (fun j e => (hlt j e).1)
     go_wp2
     go_roundw
     case rel => exact ⟨m + 1,by omega,by go_num,by rw [HS.out]; exact HO3,hb3⟩
     case measure => simp [intOf]; omega
    ·obtain rfl : m = k := by omega
     have HF : Hid _ := HO2.out
     rw [HJ.out] at HF
     go_wp2
     go_ret
     exact ⟨_,rfl,HF.out,hb2.out⟩
end Go.Proofs.Ytfbefloajnkhiaa
namespace Go.Proofs.Ytfbefloajnkhiaa
open Go.RowKit Go.Maps Go.Sort
theorem AccA.f {p : Int} {nA : Nat} {N : List Gd} {gs : List Int} {bs : List Bool} {ts : List Nat} {v : Bool} {r : Int} (h : AccA p nA N gs bs ts v r) (hM : MayG p nA N gs) (ht : traceE p (ts.map Int.ofNat) = 0) : v = bs.getD (runP (rowsG N gs (2 ^ p.toNat)) 0 ts) false ∧ r = 0 := by
 rcases h with ⟨h1,_⟩ | ⟨_,h1,_⟩ | ⟨_,_,h2,h3⟩
 ·exact absurd hM h1
 ·exact absurd ht h1
 ·exact ⟨h2,h3⟩
theorem q51 {zs : List Int} (h : ∀ z ∈ zs,0 ≤ z ∧ z < 256) : ∃ ts : List Nat,zs = ts.map Int.ofNat ∧ ∀ x ∈ ts,x < 256 := by
 refine ⟨zs.map Int.toNat,?_,fun x hx => ?_⟩
 ·rw [List.map_map]
  apply List.ext_getElem?
  intro i
  rw [List.getElem?_map]
  cases e : zs[i]? with
  | none => rfl
  | some z =>
   have := h z (List.mem_of_getElem? e)
   simp; omega
 ·obtain ⟨z,hz,rfl⟩ := List.mem_map.1 hx
  have := h z hz
  omega
theorem q4L (p : Int) (aA : Option Addr) (nA cA : Nat) (aG : Option Addr) (nG cG : Nat) (aN : Option Addr) (nN cN : Nat) (bs : List Bool) (N : List Gd) (gs : List Int) (hM : MayG p nA N gs) (hok : ∀ z ∈ gs,I64 z) {w : World} (hA : AuX w aA nA cA aG nG cG aN nN cN bs gs N) {d : Option Addr} {m c : Nat} {ts : List Nat} (hL : LtC w d m c ts) (ht : traceE p (ts.map Int.ofNat) = 0) :
  Calls Try.prog 11 #[.agg #[.int .i64 p,.slice aA nA cA,.slice aG nG cG,.slice aN nN cN],.slice d m c] w fun e w' => ∃ v,e = .returned (.tuple #[.bool v,.int .i64 0]) ∧ Hid (v = bs.getD (runP (rowsG N gs (2 ^ p.toNat)) 0 ts) false) ∧ Below w.heap.size w w' :=
 (qH p aA nA cA aG nG cG aN nN cN bs N gs d m c ts w hA.bo hA.nd hA.zs hok hL).mono fun e w' ⟨hb,v,r,he,h⟩ => by
  obtain ⟨h1,rfl⟩ := h.f hM ht
  exact ⟨v,he,h1,hb⟩
end Go.Proofs.Ytfbefloajnkhiaa
