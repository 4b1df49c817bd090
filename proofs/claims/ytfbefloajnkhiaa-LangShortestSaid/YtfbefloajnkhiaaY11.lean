/- Texts of the proof, put together: what it uses. -/
import Derived.BigQuiet
import Derived.Test.YtfbefloajnkhiaaY00
import Derived.Test.YtfbefloajnkhiaaY09
import Derived.Test.YtfbefloajnkhiaaY10
set_option maxRecDepth 100000
set_option maxHeartbeats 16000000
namespace Go.Proofs.Ytfbefloajnkhiaa
open Go.RowKit Go.Maps Go.Sort
structure AuX (w : World) (aA : Option Addr) (nA cA : Nat) (aG : Option Addr) (nG cG : Nat) (aN : Option Addr) (nN cN : Nat) (bs : List Bool) (gs : List Int) (N : List Gd) : Prop where
 bo : BoSl w aA nA cA bs
 zs : ZSl w aG nG cG gs
 nd : NdSl w aN nN cN N
theorem AuX.up {w w' : World} {aA : Option Addr} {nA cA : Nat} {aG : Option Addr} {nG cG : Nat} {aN : Option Addr} {nN cN : Nat} {bs : List Bool} {gs : List Int} {N : List Gd} (h : AuX w aA nA cA aG nG cG aN nN cN bs gs N) (hb : Below w.heap.size w w') : AuX w' aA nA cA aG nG cG aN nN cN bs gs N := ⟨h.bo.up hb,h.zs.up hb,h.nd.up hb⟩
theorem q2i : ∀ z ∈ laG,I64 z := by
 intro z hz
 simp [laG] at hz
 exact ⟨by omega,by omega⟩
theorem q3T (w : World) (o : Obj) (bs : List Bool) (gs : List Int) (N : List Gd) (h1 : bs.length ≤ 1000) (h2 : gs.length ≤ 1000) (h3 : N.length ≤ 1000) (hok : ∀ t ∈ N,GdOk t) :
  AuX ((((w.alloc o).alloc (.cells (bs.map Value.bool).toArray 4)).alloc (.cells (gs.map (Value.int .i64)).toArray 3)).alloc (.cells (encGd N).toArray 74)) (some ⟨w.heap.size + 1,0,none⟩) bs.length bs.length (some ⟨w.heap.size + 1 + 1,0,none⟩) gs.length gs.length (some ⟨w.heap.size + 1 + 1 + 1,0,none⟩) N.length N.length bs gs N ∧ Below w.heap.size w ((((w.alloc o).alloc (.cells (bs.map Value.bool).toArray 4)).alloc (.cells (gs.map (Value.int .i64)).toArray 3)).alloc (.cells (encGd N).toArray 74)) := by
 have b1 := blitP (w.alloc o) bs h1
 have b2 := zlitP ((w.alloc o).alloc (.cells (bs.map Value.bool).toArray 4)) gs h2
 have b3 := q40 (((w.alloc o).alloc (.cells (bs.map Value.bool).toArray 4)).alloc (.cells (gs.map (Value.int .i64)).toArray 3)) N h3 hok
 have e : ∀ (w : World) (o : Obj),(w.alloc o).heap.size = w.heap.size + 1 := fun w o => by simp
 simp only [e] at b1 b2 b3
 exact ⟨⟨(b1.up (q6 _ _)).up (q6 _ _),b2.up (q6 _ _),b3⟩,q5 (q5 (q5 (q6 w _) (q6 _ _)) (q6 _ _)) (q6 _ _)⟩
theorem q3U : ∀ t ∈ laN,GdOk t := fun t ht => by
 simp [laN] at ht
 subst ht
 exact ⟨⟨by decide,by decide⟩,⟨by decide,by decide⟩,⟨by decide,by decide⟩⟩
theorem q29 (w : World) : Calls Try.prog 20 #[] w fun e w' => ∃ a1 c1 a2 c2 a3 c3,e = .returned (.agg #[.int .i64 1,.slice a1 2 c1,.slice a2 2 c2,.slice a3 1 c3]) ∧ Hid (AuX w' a1 2 c1 a2 2 c2 a3 1 c3 laB laG laN) ∧ Hid (Below w.heap.size w w') := by
 have HA : Hid _ := q3T w (.cells #[.int .i64 1,.slice (some ⟨w.heap.size + 1,0,none⟩) 2 2,.slice (some ⟨w.heap.size + 1 + 1,0,none⟩) 2 2,.slice (some ⟨w.heap.size + 1 + 1 + 1,0,none⟩) 1 1] 26) laB laG laN (by decide) (by decide) (by decide) q3U
 go_enter Try.func20,Try.ntmps20
 go_wp2
 refine bodyPost_ret (v := .agg #[.int .i64 1,.slice (some ⟨w.heap.size + 1,0,none⟩) 2 2,.slice (some ⟨w.heap.size + 1 + 1,0,none⟩) 2 2,.slice (some ⟨w.heap.size + 1 + 1 + 1,0,none⟩) 1 1]) ?_ rfl ⟨_,_,_,_,_,_,rfl,HA.out.1,HA.out.2⟩
 simp [results,Try.results20,go_sem]
def lgB (p : Int) (nA nG nN : Nat) : Bool := (decide (3 < p) && decide (p ≤ 8)) || (decide (10 < nA) && decide (nA ≤ 256)) || decide (259 < nA) || decide (40 < nN) || decide (300 < nG)
theorem q3I {p : Int} {nA nG nN : Nat} (h : lgB p nA nG nN = false) : ¬ (3 < p ∧ p ≤ 8) ∧ ¬ (10 < nA ∧ nA ≤ 256) ∧ nA ≤ 259 ∧ nN ≤ 40 ∧ nG ≤ 300 := by
 simp [lgB] at h
 omega
theorem q1x (p : Int) (aA : Option Addr) (nA cA : Nat) (aG : Option Addr) (nG cG : Nat) (aN : Option Addr) (nN cN : Nat) (w : World) :
    Calls Try.prog 7 #[.agg #[.int .i64 p, .slice aA nA cA, .slice aG nG cG, .slice aN nN cN]] w fun e w' => e = .returned (.bool (lgB p nA nG nN)) ∧ Below w.heap.size w w' := by
  have HB0 : Hid _ := q6 w (.cells #[.int .i64 p, .slice aA nA cA, .slice aG nG cG, .slice aN nN cN] 26 (0, 0))
  obtain ⟨c0, c1, c2, c3⟩ := qa w p aA nA cA aG nG cG aN nN cN
  have HE : Hid (∀ b, b = lgB p nA nG nN → (Ending.returned (.bool b) = .returned (.bool (lgB p nA nG nN)))) := fun b h => by rw [h]
  by_cases h1 : 3 < p ∧ p ≤ 8
  · obtain ⟨h1, h2⟩ := h1
    have HF : Hid _ := HE.out true (by simp [lgB, h1, h2])
    clear HE
    go_enter Try.func7, Try.ntmps7
    go_wp2
    go_ret
    exact ⟨HF.out, HB0.out⟩
  · have HS : Hid (∀ Q : Prop, (3 < p → ¬ p ≤ 8 → Q) → (¬ 3 < p → Q) → Q) := fun Q k1 k2 => by
      by_cases h : 3 < p
      · exact k1 h (fun h' => h1 ⟨h, h'⟩)
      · exact k2 h
    have hf1 : (decide (3 < p) && decide (p ≤ 8)) = false := by simp; omega
    clear h1
    by_cases h2 : 10 < nA ∧ nA ≤ 256
    · obtain ⟨h2, h3⟩ := h2
      have h2' : 10 < (nA : Int) := by omega
      have h3' : (nA : Int) ≤ 256 := by omega
      have HF : Hid _ := HE.out true (by simp [lgB, h2, h3])
      clear HE hf1
      refine HS.out _ (fun k1 k2 => ?_) (fun k1 => ?_)
      all_goals
        clear HS
        go_enter Try.func7, Try.ntmps7
        go_wp2
        go_ret
        exact ⟨HF.out, HB0.out⟩
    · have HT : Hid (∀ Q : Prop, (10 < (nA : Int) → ¬ (nA : Int) ≤ 256 → Q) → (¬ 10 < (nA : Int) → Q) → Q) := fun Q k1 k2 => by
        by_cases h : 10 < (nA : Int)
        · exact k1 h (fun h' => h2 ⟨by omega, by omega⟩)
        · exact k2 h
      have hf2 : (decide (10 < nA) && decide (nA ≤ 256)) = false := by simp; omega
      clear h2
      have HV : Hid (lgB p nA nG nN = (decide (259 < (nA : Int)) || decide (40 < (nN : Int)) || decide (300 < (nG : Int)))) := by
        show _ = _
        have e1 : decide (259 < nA) = decide (259 < (nA : Int)) := by congr 1; apply propext; omega
        have e2 : decide (40 < nN) = decide (40 < (nN : Int)) := by congr 1; apply propext; omega
        have e3 : decide (300 < nG) = decide (300 < (nG : Int)) := by congr 1; apply propext; omega
        rw [lgB, hf1, hf2, e1, e2, e3]; rfl
      have HK : Hid (∀ Q : Prop, (259 < (nA : Int) → lgB p nA nG nN = true → Q) → (¬ 259 < (nA : Int) → 40 < (nN : Int) → lgB p nA nG nN = true → Q) → (¬ 259 < (nA : Int) → ¬ 40 < (nN : Int) → 300 < (nG : Int) → lgB p nA nG nN = true → Q) → (¬ 259 < (nA : Int) → ¬ 40 < (nN : Int) → ¬ 300 < (nG : Int) → lgB p nA nG nN = false → Q) → Q) := fun Q k1 k2 k3 k4 => by
        have hV := HV.out
        by_cases h : 259 < (nA : Int)
        · exact k1 h (by rw [hV, decide_eq_true h]; rfl)
        · by_cases h' : 40 < (nN : Int)
          · exact k2 h h' (by rw [hV, decide_eq_true h', Bool.or_true]; rfl)
          · by_cases h'' : 300 < (nG : Int)
            · exact k3 h h' h'' (by rw [hV, decide_eq_true h'', Bool.or_true])
            · exact k4 h h' h'' (by rw [hV, decide_eq_false h, decide_eq_false h', decide_eq_false h'']; rfl)
      clear HE hf1 hf2 HV
      refine HS.out _ (fun k1 k2 => ?_) (fun k1 => ?_) <;> refine HT.out _ (fun k3 k4 => ?_) (fun k3 => ?_) <;> refine HK.out _ (fun k5 kE => ?_) (fun k5 k6 kE => ?_) (fun k5 k6 k7 kE => ?_) (fun k5 k6 k7 kE => ?_)
      all_goals first
        | (exfalso; omega)
        | (rw [kE]
           clear HS HT HK kE
           go_enter Try.func7, Try.ntmps7
           go_wp2
           go_ret
           exact ⟨rfl, HB0.out⟩)
theorem q1Y (p : Int) (aA : Option Addr) (nA cA : Nat) (aG : Option Addr) (nG cG : Nat) (aN : Option Addr) (nN cN : Nat) (w : World) (h1 : 0 < nA) (h2 : nG = nA) :
  Calls Try.prog 10 #[.agg #[.int .i64 p,.slice aA nA cA,.slice aG nG cG,.slice aN nN cN]] w fun e w' => e = .returned (.bool true) ∧ Below w.heap.size w w' := by
 subst h2
 have HB0 : Hid _ := q6 w (.cells #[.int .i64 p,.slice aA nG cA,.slice aG nG cG,.slice aN nN cN] 26 (0,0))
 obtain ⟨c0,c1,c2,c3⟩ := qa w p aA nG cA aG nG cG aN nN cN
 have h1' : 0 < (nG : Int) := by omega
 go_enter Try.func10,Try.ntmps10
 go_wp2
 go_ret
 exact ⟨rfl,HB0.out⟩
theorem qJ (d : Option Addr) (m c : Nat) (u : List Nat) (d' : Option Addr) (m' c' : Nat) (v : List Nat) (w : World) (hU : LtC w d m c u) (hV : LtC w d' m' c' v) :
  Calls Try.prog 14 #[.slice d m c,.slice d' m' c'] w fun e w' => e = .returned (.bool (ahL u v)) ∧ Below w.heap.size w w' := by
 obtain ⟨Z,eZ⟩ : ∃ Z : Ending → World → Prop,Z = fun e w' => e = .returned (.bool (ahL u v)) ∧ Below w.heap.size w w' := ⟨_,rfl⟩
 have HZ : Hid (∀ b w',ahL u v = b → Below w.heap.size w w' → Z (.returned (.bool b)) w') := fun b w' h hb => by rw [eZ,h]; exact ⟨rfl,hb⟩
 rw [← eZ]
 clear eZ
 have hlu : u.length = m := by have := hU.hlen; rwa [List.length_map] at this
 have hlv : v.length = m' := by have := hV.hlen; rwa [List.length_map] at this
 have hmb := Nat.le_trans hU.hcap hU.bd
 have hmb' := Nat.le_trans hV.hcap hV.bd
 unfold maxLen at hmb hmb'
 by_cases hm : m = m'
 ·subst hm
  have HA : Hid (ahL u v = ahG u v) := by show _ = _; rw [ahL,if_pos (by omega)]
  have HLU : Hid _ := hlu
  have HLV : Hid _ := hlv
  have HU : Hid _ := hU
  have HV : Hid _ := hV
  clear hU hV hlu hlv
  go_enter Try.func14,Try.ntmps14
  go_wp2
  go_loopw [5] (fun i wr => ∃ k : Nat,k ≤ m ∧ i = .int .i64 (k : Int) ∧ Hid (∀ i,i < k → u.getD i 0 = v.getD i 0) ∧ Hid (Below w.heap.size w wr)) (fun i _ => m - (intOf i).toNat)
  case atStart => exact ⟨0,Nat.zero_le _,rfl,fun i hi => absurd hi (by omega),Below.refl _ _⟩
  case round =>
   obtain ⟨k,hk,rfl,HS,HB⟩ := hrel
   by_cases hlt : k < m
   ·have i1 := fun w' => HU.out.idx m k w' hlt (Nat.le_refl _)
    have i2 := fun w' => HV.out.idx m k w' hlt (Nat.le_refl _)
    have c1 := (HU.out.up HB.out).cell k hlt
    have c2 := (HV.out.up HB.out).cell k hlt
    rw [qv (by rw [HLU.out]; exact hlt)] at c1
    rw [qv (by rw [HLV.out]; exact hlt)] at c2
    have HNE : Hid (u.getD k 0 ≠ v.getD k 0 → ahL u v = decide (u.getD k 0 < v.getD k 0)) := fun h => by rw [HA.out,q3R (by rw [HLU.out,HLV.out]) (by rw [HLU.out]; exact hlt) HS.out h]
    have HEQ : Hid (u.getD k 0 = v.getD k 0 → ∀ i,i < k + 1 → u.getD i 0 = v.getD i 0) := fun h i hi => by
     by_cases e : i = k
     ·rw [e]; exact h
     ·exact HS.out i (by omega)
    have HB0 : Hid (∀ q,Below w.heap.size w (wr.drewN q)) := fun q => below_drewN HB.out q
    generalize u.getD k 0 = x at *
    generalize v.getD k 0 = y at *
    generalize adOf d k = ad1 at *
    obtain ⟨a1,b1,s1⟩ := ad1
    generalize adOf d' k = ad2 at *
    obtain ⟨a2,b2,s2⟩ := ad2
    clear HS HB
    by_cases hxy : x = y
    ·subst hxy
     have HQ : Hid _ := HEQ.out rfl
     clear HNE HEQ HZ
     go_wp2
     go_quiet (fail)
     go_wp2
     go_roundw
     case rel => exact ⟨k + 1,by omega,by go_num,HQ,HB0.out _⟩
     case measure => simp [intOf]; omega
    ·have hne : ((x : Int) == (y : Int)) = false := by simp; omega
     have hE := HNE.out hxy
     by_cases hlt2 : x < y
     ·rw [decide_eq_true hlt2] at hE
      have HE : Hid (∀ w',Below w.heap.size w w' → Z (.returned (.bool true)) w') := fun w' hb => HZ.out true w' hE hb
      have hxyi : (x : Int) < (y : Int) := by omega
      clear HNE HEQ HZ hE
      go_wp2
      go_quiet (fail)
      go_wp2
      go_quiet (fail)
      go_wp2
      exact HE.out _ (by first | exact HB0.out _ | exact below_drewN (HB0.out _) _)
     ·rw [decide_eq_false hlt2] at hE
      have HE : Hid (∀ w',Below w.heap.size w w' → Z (.returned (.bool false)) w') := fun w' hb => HZ.out false w' hE hb
      have hxyi : ¬ (x : Int) < (y : Int) := by omega
      clear HNE HEQ HZ hE
      go_wp2
      go_quiet (fail)
      go_wp2
      go_quiet (fail)
      go_wp2
      exact HE.out _ (by first | exact HB0.out _ | exact below_drewN (HB0.out _) _)
   ·obtain rfl : k = m := by omega
    have HE : Hid _ := HZ.out false wr (by rw [HA.out]; exact q3k (by rw [HLU.out,HLV.out]) (by rw [HLU.out]; exact HS.out)) HB.out
    clear HZ HS HB
    go_wp2
    exact HE.out
 ·have hne : ((m : Int) == (m' : Int)) = false := by simp; omega
  by_cases hlt : m < m'
  ·have HE : Hid _ := HZ.out true w (by rw [ahL,if_neg (by omega)]; exact decide_eq_true (by omega)) (Below.refl _ _)
   have hlt2 : (m : Int) < (m' : Int) := by omega
   clear HZ hU hV hlu hlv
   go_enter Try.func14,Try.ntmps14
   go_wp2
   exact HE.out
  ·have HE : Hid _ := HZ.out false w (by rw [ahL,if_neg (by omega)]; exact decide_eq_false (by omega)) (Below.refl _ _)
   have hlt2 : ¬ (m : Int) < (m' : Int) := by omega
   clear HZ hU hV hlu hlv
   go_enter Try.func14,Try.ntmps14
   go_wp2
   exact HE.out
theorem q36 (w : World) (ts : List Nat) (hl : ts.length ≤ 1000) : LtC (w.alloc (.cells (ltV ts).toArray 52)) (some ⟨w.heap.size,0,none⟩) ts.length ts.length ts := by
 have hc := (MapKept.heap_alloc w (.cells (ltV ts).toArray 52)).1
 have had : ∀ k,adOf (some (⟨w.heap.size,0,none⟩ : Addr)) k = ⟨w.heap.size,k,none⟩ := fun k => by simp [adOf,q9]
 refine ⟨by simp,Nat.le_refl _,by unfold maxLen; omega,fun m k w hk hm => qd Try.underlying27 qO (by simp) k w hk,fun k hk => ?_,fun k hk => by rw [had]; simp,by simp⟩
 rw [had,q7 hc,qv hk]
 simpa using q2j hk
theorem q3W (w : World) : LtC w none 0 0 [] := ⟨rfl,Nat.le_refl _,Nat.zero_le _,fun m k w hk hm => absurd hk (by omega),fun k hk => absurd hk (by omega),fun k hk => absurd hk (by omega),fun _ => rfl⟩
theorem q1E {w : World} {base n : Nat} {a : Option Addr} {c : Nat} {ts : List Nat} (h : w.ownsRow base 52 1 (.slice a n c) n (ltV ts)) : LtC w a n c ts := by
 obtain ⟨hl,hh⟩ := h
 have hl' : ts.length = n := by simpa [ltV] using hl
 subst hl'
 rcases hh with ⟨e,h0⟩ | ⟨g,cap,cur,e,hg,hcell,hnc,hcm,hsz,htk⟩
 ·injection e with e1 e2 e3
  subst e1; subst e3
  have : ts = [] := List.eq_nil_of_length_eq_zero h0
  subst this
  exact q3W w
 ·injection e with e1 e2 e3
  subst e1; subst e3
  have had : ∀ k,adOf (some (⟨g,0,none⟩ : Addr)) k = ⟨g,k,none⟩ := fun k => by simp [adOf,q9]
  refine ⟨by simp,hnc,hcm,fun m k w hk hm => qd Try.underlying27 qO (by simp) k w hk,fun k hk => ?_,fun k hk => by rw [had]; exact (Array.getElem?_eq_some_iff.1 hcell).1,by simp⟩
  rw [had,qv hk]
  have := q2j hk
  rw [← htk,List.getElem?_take,if_pos (by omega)] at this
  rw [q7 hcell]
  simpa using this
theorem q3V (ts : List Nat) : runP (rowsG laN laG (2 ^ (1 : Int).toNat)) 0 ts = runP laR 0 ts := by rw [qT]
theorem AccA.la {ts : List Nat} {v : Bool} {r : Int} (h : AccA 1 2 laN laG laB ts v r) (hl : ts.length ≤ 1024) (ht : ∀ x ∈ ts,x < 2) : v = laB.getD (runP laR 0 ts) false ∧ r = 0 := by
 have h0 := qk q1j hl ht
 rcases h with ⟨h1,_⟩ | ⟨_,h1,_⟩ | ⟨_,_,h2,h3⟩
 ·exact absurd q1j h1
 ·exact absurd h0 h1
 ·rw [q3V] at h2; exact ⟨h2,h3⟩
theorem q35 : ∀ m,cntP laR laB m 0 = 2 ^ m - 1 ∧ cntP laR laB m 1 = 2 ^ m
 | 0 => ⟨rfl,rfl⟩
 | m + 1 => by
  obtain ⟨h0,h1⟩ := q35 m
  have e0 : cntP laR laB (m + 1) 0 = cntP laR laB m 0 + (cntP laR laB m 1 + 0) := rfl
  have e1 : cntP laR laB (m + 1) 1 = cntP laR laB m 1 + (cntP laR laB m 1 + 0) := rfl
  have := Nat.two_pow_pos m
  rw [e0,e1,h0,h1,Nat.pow_succ]
  omega
theorem CouA.la {m v r : Int} (h : CouA 1 2 laN laG laB m v r) : if 0 ≤ m ∧ m ≤ 1024 then (if 64 < m then v = 0 ∧ r = 15 else v = ((2 ^ m.toNat - 1 : Nat) : Int) ∧ r = 0) else v = 0 ∧ r = 2 := by
 have hc := (q35 m.toNat).1
 rcases h with ⟨h1,_⟩ | ⟨_,h1,h2,h3⟩ | ⟨_,h1,h2,h3,h4,h5⟩ | ⟨_,h1,h2,h3,h4,h5⟩
 ·exact absurd q1j h1
 ·rw [if_neg h1]; exact ⟨h2,h3⟩
 ·rw [if_pos ⟨h1,h2⟩]
  rw [qT,hc] at h3
  by_cases e : 64 < m
  ·rw [if_pos e]; exact ⟨h4,h5⟩
  ·have : 2 ^ m.toNat ≤ 2 ^ 64 := Nat.pow_le_pow_right (by omega) (by omega)
   omega
 ·rw [if_pos ⟨h1,h2⟩]
  rw [qT,hc] at h3 h4
  by_cases e : 64 < m
  ·have : 2 ^ 65 ≤ 2 ^ m.toNat := Nat.pow_le_pow_right (by omega) (by omega)
   omega
  ·rw [if_neg e]; exact ⟨h4,h5⟩
theorem ShoA.la {ts : List Nat} {is : Bool} {r : Int} (h : ShoA 1 2 laN laG laB ts is r) : ts = [1] ∧ is = true ∧ r = 0 := by
 rcases h with ⟨h1,_⟩ | ⟨_,h1,_⟩ | ⟨_,_,h2,h3⟩
 ·exact absurd q1j h1
 ·exact absurd h1 (by decide)
 ·rw [qT] at h2
  obtain ⟨h4,h5⟩ := h2.one (l := 1) (by decide) (by decide) (fun k hk => by obtain rfl : k = 0 := (by omega); decide)
  exact ⟨h4,h5,h3⟩
theorem q2X {w : World} {a1 : Option Addr} {c1 : Nat} {a2 : Option Addr} {c2 : Nat} {a3 : Option Addr} {c3 : Nat} (hA : AuX w a1 2 c1 a2 2 c2 a3 1 c3 laB laG laN) {d : Option Addr} {m c : Nat} {ts : List Nat} (hL : LtC w d m c ts) (hl : ts.length ≤ 1024) (ht : ∀ x ∈ ts,x < 2) :
  Calls Try.prog 11 #[.agg #[.int .i64 1,.slice a1 2 c1,.slice a2 2 c2,.slice a3 1 c3],.slice d m c] w fun e w' => e = .returned (.tuple #[.bool (laB.getD (runP laR 0 ts) false),.int .i64 0]) ∧ Below w.heap.size w w' :=
 (qr 1 a1 2 c1 a2 2 c2 a3 1 c3 laB laN laG d m c ts w hA.bo hA.nd hA.zs q2i hL).mono fun e w' ⟨hb,v,r,he,h⟩ => by
  obtain ⟨rfl,rfl⟩ := h.la hl ht
  exact ⟨he,hb⟩
theorem q2Z {w : World} {a1 : Option Addr} {c1 : Nat} {a2 : Option Addr} {c2 : Nat} {a3 : Option Addr} {c3 : Nat} (hA : AuX w a1 2 c1 a2 2 c2 a3 1 c3 laB laG laN) :
  Calls Try.prog 12 #[.agg #[.int .i64 1,.slice a1 2 c1,.slice a2 2 c2,.slice a3 1 c3]] w fun e w' => Below w.heap.size w w' ∧ ∃ a c,e = .returned (.tuple #[.slice a 1 c,.bool true,.int .i64 0]) ∧ LtC w' a 1 c [1] :=
 (qm 1 a1 2 c1 a2 2 c2 a3 1 c3 laB laN laG w hA.bo hA.nd hA.zs q2i).mono fun e w' ⟨hb,ts,is,r,a,c,he,ho,h⟩ => by
  obtain ⟨rfl,rfl,rfl⟩ := h.la
  exact ⟨hb,a,c,he,q1E ho⟩
theorem q2Y {w : World} {a1 : Option Addr} {c1 : Nat} {a2 : Option Addr} {c2 : Nat} {a3 : Option Addr} {c3 : Nat} (hA : AuX w a1 2 c1 a2 2 c2 a3 1 c3 laB laG laN) (m v0 r0 : Int) (h0 : ∀ v r,(if 0 ≤ m ∧ m ≤ 1024 then (if 64 < m then v = 0 ∧ r = 15 else v = ((2 ^ m.toNat - 1 : Nat) : Int) ∧ r = 0) else v = 0 ∧ r = 2) → v = v0 ∧ r = r0) :
  Calls Try.prog 16 #[.agg #[.int .i64 1,.slice a1 2 c1,.slice a2 2 c2,.slice a3 1 c3],.int .i64 m] w fun e w' => e = .returned (.tuple #[.int .u64 v0,.int .i64 r0]) ∧ Below w.heap.size w w' :=
 (q1t 1 a1 2 c1 a2 2 c2 a3 1 c3 laB laN laG m w hA.bo hA.nd hA.zs q2i).mono fun e w' ⟨hb,v,r,he,h⟩ => by
  obtain ⟨rfl,rfl⟩ := h0 v r h.la
  exact ⟨he,hb⟩
theorem q2O {w : World} {a : Option Addr} {c : Nat} {ts us : List Nat} {a' : Option Addr} {c' : Nat} (h1 : LtC w a ts.length c ts) (h2 : LtC w a' us.length c' us) : Calls Try.prog 22 #[.slice a ts.length c,.slice a' us.length c'] w fun e w' => e = .returned (.bool (decide (ts = us))) ∧ Below w.heap.size w w' :=
 (q1A a ts.length c (ts.map Int.ofNat) a' us.length c' (us.map Int.ofNat) w h1 h2).mono fun e w' ⟨he,n,hw⟩ => by
  have e1 : decide (ts.map Int.ofNat = us.map Int.ofNat) = decide (ts = us) := by
   congr 1; apply propext
   exact ⟨fun h => List.map_inj_right (fun x y h => by injection h) |>.1 h,fun h => by rw [h]⟩
  rw [e1] at he
  subst hw
  exact ⟨he,below_drewN (Below.refl _ _) n⟩
theorem q1u (w : World) : Calls Try.prog 6 #[] w fun e w' => e = .returned (.bool true) ∧ Below w.heap.size w w' := by
 have jf := q29
 have j1 := jf w
 have HJF : Hid (∀ w,Calls Try.prog 20 #[] w fun e w' => ∃ a1 c1 a2 c2 a3 c3,e = .returned (.agg #[.int .i64 1,.slice a1 2 c1,.slice a2 2 c2,.slice a3 1 c3]) ∧ Hid (AuX w' a1 2 c1 a2 2 c2 a3 1 c3 laB laG laN) ∧ Hid (Below w.heap.size w w')) := jf
 clear jf
 go_enter Try.func6,Try.ntmps6
 go_wp2_with fail
 refine j1.mono ?_
 rintro e w1 ⟨a1,c1,a2,c2,a3,c3,rfl,HA,HB⟩
 have hL : LtC (w1.alloc (.cells #[.int .u8 0,.int .u8 1] 52)) (some ⟨w1.heap.size,0,none⟩) 2 2 [0,1] := q36 w1 [0,1] (by decide)
 have j2 := q2X (HA.out.up (q6 w1 (.cells #[.int .u8 0,.int .u8 1] 52))) hL (by decide) (by decide)
 rw [show laB.getD (runP laR 0 [0,1]) false = true by decide] at j2
 have HB1 : Hid (Below w.heap.size w (w1.alloc (.cells #[.int .u8 0,.int .u8 1] 52))) := q5 HB.out (q6 _ _)
 clear j1 HA HB hL
 go_wp2_with fail
 refine j2.mono ?_
 rintro e w2 ⟨rfl,hb2⟩
 have HB2 : Hid (Below w.heap.size w w2) := q5 HB1.out hb2
 have j3 := HJF.out w2
 clear j2 hb2 HB1
 go_wp2_with fail
 refine j3.mono ?_
 rintro e w3 ⟨a1,c1,a2,c2,a3,c3,rfl,HA,HB⟩
 have j4 := q2Z HA.out
 have HB3 : Hid (Below w.heap.size w w3) := q5 HB2.out HB.out
 clear j3 HA HB HB2
 go_wp2_with fail
 refine j4.mono ?_
 rintro e w4 ⟨hb4,at4,ct4,rfl,hl4⟩
 have HB4 : Hid (Below w.heap.size w w4) := q5 HB3.out hb4
 have HL4 : Hid _ := hl4
 have j5 := HJF.out w4
 clear j4 hb4 hl4 HB3
 go_wp2_with fail
 refine j5.mono ?_
 rintro e w5 ⟨a1,c1,a2,c2,a3,c3,rfl,HA,HB⟩
 have j6 := q2Y HA.out 3 7 0 (fun v r h => by simpa using h)
 have HB5 : Hid (Below w.heap.size w w5) := q5 HB4.out HB.out
 have HL5 : Hid (LtC w5 at4 1 ct4 [1]) := HL4.out.up HB.out
 clear j5 HA HB HB4 HL4
 go_wp2_with fail
 refine j6.mono ?_
 rintro e w6 ⟨rfl,hb6⟩
 have hb7 := q5 hb6 (q6 w6 (.cells #[.int .u8 1] 52))
 have HB6 : Hid (Below w.heap.size w (w6.alloc (.cells #[.int .u8 1] 52))) := q5 HB5.out hb7
 have j7 := q2O (ts := [1]) (us := [1]) (HL5.out.up hb7) (q36 w6 [1] (by decide))
 rw [decide_eq_true rfl] at j7
 clear j6 hb6 HB5 HL5 hb7 HJF
 simp only [List.length_cons,List.length_nil,Nat.zero_add] at j7
 go_wp2_with fail
 refine j7.mono ?_
 rintro e w8 ⟨rfl,hb8⟩
 have HB8 : Hid (Below w.heap.size w w8) := q5 HB6.out hb8
 clear j7 hb8 HB6
 go_wp2
 go_ret
 exact ⟨rfl,HB8.out⟩
def ShoF (n K : Nat) (R : List (List Nat)) (bs : List Bool) (xs : List Nat) (one : Bool) : Prop :=
 (one = true ∧ (∀ l ∈ xs,l < K) ∧ bs.getD (runP R 0 xs) false = true ∧ xs.length < n ∧ ∀ u,(∀ l ∈ u,l < K) → bs.getD (runP R 0 u) false = true → ¬ ltT u xs) ∨ (one = false ∧ xs = [] ∧ ∀ u,(∀ l ∈ u,l < K) → bs.getD (runP R 0 u) false ≠ true)
def MisF (n K : Nat) (R : List (List Nat)) (bs : List Bool) (ys : List Nat) (two : Bool) : Prop :=
 (two = true ∧ ys ≠ [] ∧ (∀ l ∈ ys,l < K) ∧ bs.getD (runP R 0 ys) false = false ∧ ys.length ≤ n ∧ ∀ u,u ≠ [] → (∀ l ∈ u,l < K) → bs.getD (runP R 0 u) false = false → ¬ ltT u ys) ∨ (two = false ∧ ys = [] ∧ ∀ u,u ≠ [] → (∀ l ∈ u,l < K) → bs.getD (runP R 0 u) false ≠ false)
theorem ShoA.f {p : Int} {nA : Nat} {N : List Gd} {gs : List Int} {bs : List Bool} {ts : List Nat} {is : Bool} {r : Int} (h : ShoA p nA N gs bs ts is r) (hM : MayG p nA N gs) : r = 0 ∧ ShoF nA (2 ^ p.toNat) (rowsG N gs (2 ^ p.toNat)) bs ts is := by
 have h1n := hM.s1
 rcases h with ⟨h1,_⟩ | ⟨_,h1,rfl,h3,h4⟩ | ⟨_,h1,h2,h3⟩
 ·exact absurd hM h1
 ·refine ⟨h4,.inl ⟨h3,fun l hl => by simp at hl,h1,by simp; omega,fun u _ _ hl => ?_⟩⟩
  rcases hl with hl | ⟨_,hl⟩
  ·simp at hl
  ·simp [valT] at hl
 ·refine ⟨h3,?_⟩
  rcases h2 with ⟨k1,k2,k3,k4,k5,k6,k7⟩ | ⟨k1,k2,k3⟩
  ·refine .inl ⟨k1,k3,k4,k6 (by rw [h1]; simp),fun u hu ha => ?_⟩
   by_cases e : u = []
   ·subst e; rw [show runP (rowsG N gs (2 ^ p.toNat)) 0 [] = 0 from rfl,h1] at ha; cases ha
   ·exact k7 u e hu ha
  ·refine .inr ⟨k1,k2,fun u hu ha => ?_⟩
   by_cases e : u = []
   ·subst e; rw [show runP (rowsG N gs (2 ^ p.toNat)) 0 [] = 0 from rfl,h1] at ha; cases ha
   ·exact k3 u e hu ha
theorem MisA.f {p : Int} {nA : Nat} {N : List Gd} {gs : List Int} {bs : List Bool} {ts : List Nat} {is : Bool} {r : Int} (h : MisA p nA N gs bs ts is r) (hM : MayG p nA N gs) : r = 0 ∧ MisF nA (2 ^ p.toNat) (rowsG N gs (2 ^ p.toNat)) bs ts is := by
 rcases h with ⟨h1,_⟩ | ⟨_,h2,h3⟩
 ·exact absurd hM h1
 ·refine ⟨h3,?_⟩
  rcases h2 with ⟨k1,k2,k3,k4,k5,k6,k7⟩ | ⟨k1,k2,k3⟩
  ·exact .inl ⟨k1,k2,k3,k4,k5,k7⟩
  ·exact .inr ⟨k1,k2,k3⟩
theorem AccA.f {p : Int} {nA : Nat} {N : List Gd} {gs : List Int} {bs : List Bool} {ts : List Nat} {v : Bool} {r : Int} (h : AccA p nA N gs bs ts v r) (hM : MayG p nA N gs) (ht : traceE p (ts.map Int.ofNat) = 0) : v = bs.getD (runP (rowsG N gs (2 ^ p.toNat)) 0 ts) false ∧ r = 0 := by
 rcases h with ⟨h1,_⟩ | ⟨_,h1,_⟩ | ⟨_,_,h2,h3⟩
 ·exact absurd hM h1
 ·exact absurd ht h1
 ·exact ⟨h2,h3⟩
theorem q3u {zs : List Int} (h : ∀ z ∈ zs,0 ≤ z ∧ z < 256) : ∃ ts : List Nat,zs = ts.map Int.ofNat ∧ ∀ x ∈ ts,x < 256 := by
 refine ⟨zs.map Int.toNat,?_,fun x hx => ?_⟩
 ·rw [List.map_map]
  apply List.ext_getElem?
  intro i
  rw [List.getElem?_map]
  cases e : zs[i]? with
  | none => rfl
  | some z =>
   have := h z (List.mem_of_getElem? e)
   simp; omega
 ·obtain ⟨z,hz,rfl⟩ := List.mem_map.1 hx
  have := h z hz
  omega
theorem q16 (p : Int) (aA : Option Addr) (nA cA : Nat) (aG : Option Addr) (nG cG : Nat) (aN : Option Addr) (nN cN : Nat) (bs : List Bool) (N : List Gd) (gs : List Int) (hM : MayG p nA N gs) (hok : ∀ z ∈ gs,I64 z) {w : World} (hA : AuX w aA nA cA aG nG cG aN nN cN bs gs N) {d : Option Addr} {m c : Nat} {ts : List Nat} (hL : LtC w d m c ts) (ht : traceE p (ts.map Int.ofNat) = 0) :
  Calls Try.prog 11 #[.agg #[.int .i64 p,.slice aA nA cA,.slice aG nG cG,.slice aN nN cN],.slice d m c] w fun e w' => ∃ v,e = .returned (.tuple #[.bool v,.int .i64 0]) ∧ Hid (v = bs.getD (runP (rowsG N gs (2 ^ p.toNat)) 0 ts) false) ∧ Below w.heap.size w w' :=
 (qr p aA nA cA aG nG cG aN nN cN bs N gs d m c ts w hA.bo hA.nd hA.zs hok hL).mono fun e w' ⟨hb,v,r,he,h⟩ => by
  obtain ⟨h1,rfl⟩ := h.f hM ht
  exact ⟨v,he,h1,hb⟩
theorem q3j (p : Int) (aA : Option Addr) (nA cA : Nat) (aG : Option Addr) (nG cG : Nat) (aN : Option Addr) (nN cN : Nat) (bs : List Bool) (N : List Gd) (gs : List Int) (hM : MayG p nA N gs) (hok : ∀ z ∈ gs,I64 z) {w : World} (hA : AuX w aA nA cA aG nG cG aN nN cN bs gs N) :
  Calls Try.prog 12 #[.agg #[.int .i64 p,.slice aA nA cA,.slice aG nG cG,.slice aN nN cN]] w fun e w' => Below w.heap.size w w' ∧ ∃ xs one L a c,e = .returned (.tuple #[.slice a L c,.bool one,.int .i64 0]) ∧ L = xs.length ∧ LtC w' a L c xs ∧ ShoF nA (2 ^ p.toNat) (rowsG N gs (2 ^ p.toNat)) bs xs one :=
 (qm p aA nA cA aG nG cG aN nN cN bs N gs w hA.bo hA.nd hA.zs hok).mono fun e w' ⟨hb,ts,is,r,a,c,he,ho,h⟩ => by
  obtain ⟨rfl,h2⟩ := h.f hM
  exact ⟨hb,ts,is,_,a,c,he,rfl,q1E ho,h2⟩
theorem q3i (p : Int) (aA : Option Addr) (nA cA : Nat) (aG : Option Addr) (nG cG : Nat) (aN : Option Addr) (nN cN : Nat) (bs : List Bool) (N : List Gd) (gs : List Int) (hM : MayG p nA N gs) (hok : ∀ z ∈ gs,I64 z) {w : World} (hA : AuX w aA nA cA aG nG cG aN nN cN bs gs N) :
  Calls Try.prog 13 #[.agg #[.int .i64 p,.slice aA nA cA,.slice aG nG cG,.slice aN nN cN]] w fun e w' => Below w.heap.size w w' ∧ ∃ ys two L a c,e = .returned (.tuple #[.slice a L c,.bool two,.int .i64 0]) ∧ L = ys.length ∧ LtC w' a L c ys ∧ MisF nA (2 ^ p.toNat) (rowsG N gs (2 ^ p.toNat)) bs ys two :=
 (q17 p aA nA cA aG nG cG aN nN cN bs N gs w hA.bo hA.nd hA.zs hok).mono fun e w' ⟨hb,ts,is,r,a,c,he,ho,h⟩ => by
  obtain ⟨rfl,h2⟩ := h.f hM
  exact ⟨hb,ts,is,_,a,c,he,rfl,q1E ho,h2⟩
theorem ShoF.tr {p : Int} {nA : Nat} {N : List Gd} {gs : List Int} {bs : List Bool} {xs : List Nat} {one : Bool} (hM : MayG p nA N gs) {R : List (List Nat)} (h : ShoF nA (2 ^ p.toNat) R bs xs one) : traceE p (xs.map Int.ofNat) = 0 := by
 have h256 := hM.s2
 rcases h with ⟨_,h1,_,h2,_⟩ | ⟨_,rfl,_⟩
 ·exact qk hM (by omega) h1
 ·exact qk hM (by simp) (fun x hx => by simp at hx)
theorem MisF.tr {p : Int} {nA : Nat} {N : List Gd} {gs : List Int} {bs : List Bool} {ys : List Nat} {two : Bool} (hM : MayG p nA N gs) {R : List (List Nat)} (h : MisF nA (2 ^ p.toNat) R bs ys two) : traceE p (ys.map Int.ofNat) = 0 := by
 have h256 := hM.s2
 rcases h with ⟨_,_,h1,_,h2,_⟩ | ⟨_,rfl,_⟩
 ·exact qk hM (by omega) h1
 ·exact qk hM (by simp) (fun x hx => by simp at hx)
theorem q2U {n K : Nat} {R : List (List Nat)} {bs : List Bool} {ts xs ys : List Nat} {one two : Bool} (hK : K ≤ 256) (hS : ShoF n K R bs xs one) (hM : MisF n K R bs ys two) (ht : ∀ l ∈ ts,l < K) :
  (bs.getD (runP R 0 ts) false = true → one = true ∧ ahL ts xs = false) ∧ (bs.getD (runP R 0 ts) false = false → ts = [] ∨ two = true ∧ ahL ts ys = false) := by
 have h8 : ∀ {u : List Nat},(∀ l ∈ u,l < K) → ∀ l ∈ u,l < 256 := fun h l hl => by have := h l hl; omega
 refine ⟨fun ha => ?_,fun ha => ?_⟩
 ·rcases hS with ⟨h1,h2,_,_,h3⟩ | ⟨_,_,h3⟩
  ·refine ⟨h1,?_⟩
   have := h3 ts ht ha
   rw [← q2z (h8 ht) (h8 h2)] at this
   simpa using this
  ·exact absurd ha (h3 ts ht)
 ·by_cases e : ts = []
  ·exact .inl e
  ·rcases hM with ⟨h1,_,h2,_,_,h3⟩ | ⟨_,_,h3⟩
   ·refine .inr ⟨h1,?_⟩
    have := h3 ts e ht ha
    rw [← q2z (h8 ht) (h8 h2)] at this
    simpa using this
   ·exact absurd ha (h3 ts e ht)
theorem q1y (p : Int) (aA : Option Addr) (nA cA : Nat) (aG : Option Addr) (nG cG : Nat) (aN : Option Addr) (nN cN : Nat) (bs : List Bool) (gs : List Int) (N : List Gd) (d : Option Addr) (m c : Nat) (zs : List Int) (w : World) (hB : BoSl w aA nA cA bs) (hG : ZSl w aG nG cG gs) (hN : NdSl w aN nN cN N) (hok : ∀ z ∈ gs,I64 z) (hL0 : IntSl Try.prog 27 .u8 w d m c zs) (hz : ∀ z ∈ zs,0 ≤ z ∧ z < 256) (_ : c ≤ 140737488351232) :
  Calls Try.prog 3 #[.agg #[.int .i64 p,.slice aA nA cA,.slice aG nG cG,.slice aN nN cN],.slice d m c] w fun e w' => e = .returned (.bool true) ∧ Below w.heap.size w w' := by
 obtain ⟨Q,hQ⟩ : ∃ Q : Ending → World → Prop,Q = fun e w' => e = .returned (.bool true) ∧ Below w.heap.size w w' := ⟨_,rfl⟩
 have HQ : Hid (∀ w',Below w.heap.size w w' → Q (.returned (.bool true)) w') := fun w' h => by rw [hQ]; exact ⟨rfl,h⟩
 rw [← hQ]
 clear hQ
 obtain ⟨ts,rfl,ht8⟩ := q3u hz
 have hL : LtC w d m c ts := hL0
 have hlen : ts.length = m := by have := hL.hlen; rwa [List.length_map] at this
 have hmb := Nat.le_trans hL.hcap hL.bd
 unfold maxLen at hmb
 have HA0 : Hid _ := qa w p aA nA cA aG nG cG aN nN cN
 have HB0 : Hid (Below w.heap.size w (w.alloc (.cells #[.int .i64 p,.slice aA nA cA,.slice aG nG cG,.slice aN nN cN] 26 (0,0)))) := q6 w _
 have jw := q1u (w.alloc (.cells #[.int .i64 p,.slice aA nA cA,.slice aG nG cG,.slice aN nN cN] 26 (0,0)))
 have HX : Hid (AuX w aA nA cA aG nG cG aN nN cN bs gs N) := ⟨hB,hG,hN⟩
 have HOK : Hid _ := hok
 have HL : Hid (LtC w d m c ts) := hL
 have HLN : Hid _ := hlen
 clear hB hG hN hok hL hL0 hz hlen ht8
 go_enter Try.func3,Try.ntmps3
 go_wp2_with fail
 refine jw.mono ?_
 rintro e w1 ⟨rfl,hb1⟩
 have HB1 : Hid (Below w.heap.size w w1) := q5 HB0.out hb1
 have HA1 : Hid (AuB w1 w.heap.size p aA nA cA aG nG cG aN nN cN) := HA0.out.up hb1
 obtain ⟨c0,c1,c2,c3⟩ := HA1.out
 have js := q1x p aA nA cA aG nG cG aN nN cN w1
 clear jw hb1 HB0 HA0
 by_cases hlg : lgB p nA nG nN = true
 ·rw [hlg] at js
  have HE : Hid (∀ w3,Below w1.heap.size w1 w3 → Q (.returned (.bool true)) w3) := fun w3 h => HQ.out w3 (q5 HB1.out h)
  clear HQ hlg
  go_wp2_with fail
  refine js.mono ?_
  rintro e w3 ⟨rfl,hb3⟩
  have HE3 : Hid _ := HE.out w3 hb3
  clear js hb3 HE
  go_wp2
  exact HE3.out
 ·have hlg0 : lgB p nA nG nN = false := by simpa using hlg
  rw [hlg0] at js
  have HLG : Hid _ := q3I hlg0
  clear hlg hlg0
  by_cases hm40 : 40 < m
  ·have hm40' : 40 < (m : Int) := by omega
   have HE : Hid (∀ w3,Below w1.heap.size w1 w3 → Q (.returned (.bool true)) w3) := fun w3 h => HQ.out w3 (q5 HB1.out h)
   clear HQ
   go_wp2_with fail
   refine js.mono ?_
   rintro e w3 ⟨rfl,hb3⟩
   have HE3 : Hid _ := HE.out w3 hb3
   clear js hb3 HE
   go_wp2
   exact HE3.out
  ·have hm40' : ¬ 40 < (m : Int) := by omega
   go_wp2_with fail
   refine js.mono ?_
   rintro e w3 ⟨rfl,hb3⟩
   have HB3 : Hid (Below w.heap.size w w3) := q5 HB1.out hb3
   have HA3 : Hid (AuB w3 w.heap.size p aA nA cA aG nG cG aN nN cN) := HA1.out.up hb3
   have hX3 := HX.out.up HB3.out
   have jc := qp p aA nA cA aG nG cG aN nN cN N gs w3 hX3.nd hX3.zs HOK.out
   clear js hb3 HB1 HA1 c0 c1 c2 c3 hX3
   obtain ⟨c0,c1,c2,c3⟩ := HA3.out
   go_wp2_with fail
   refine jc.mono ?_
   rintro e w4 ⟨hb4,v4,rfl,⟨rfl,hM⟩ | ⟨rfl,hM⟩⟩
   ·have HB4 : Hid (Below w.heap.size w w4) := q5 HB3.out hb4
    have HA4 : Hid (AuB w4 w.heap.size p aA nA cA aG nG cG aN nN cN) := HA3.out.up hb4
    have jt := qs p d m c (ts.map Int.ofNat) w4 (HL.out.up HB4.out)
    have HM : Hid _ := hM
    clear jc hb4 HB3 HA3 c0 c1 c2 c3 hM
    obtain ⟨c0,c1,c2,c3⟩ := HA4.out
    by_cases hE : traceE p (ts.map Int.ofNat) = 0
    ·rw [hE] at jt
     have HT : Hid _ := hE
     have h1n : 0 < nA := by have := HM.out.s1; omega
     have hnG : nG = nA := HX.out.zs.hlen.symm.trans HM.out.len
     subst hnG
     have jr := q1Y p aA nG cA aG nG cG aN nN cN w4 h1n rfl
     clear hE
     go_wp2_with (go_at_call 9; (with_reducible refine jt.mono ?_); rintro e w' ⟨rfl,hw1⟩; obtain rfl := hw1.symm)
     refine jr.mono ?_
     rintro e w5 ⟨rfl,hb5⟩
     have HB5 : Hid (Below w.heap.size w w5) := q5 HB4.out hb5
     have HA5 : Hid (AuB w5 w.heap.size p aA nG cA aG nG cG aN nN cN) := HA4.out.up hb5
     have j1 := q16 p aA nG cA aG nG cG aN nN cN bs N gs HM.out HOK.out (HX.out.up HB5.out) (HL.out.up HB5.out) HT.out
     clear jt jr hb5 HB4 HA4 c0 c1 c2 c3
     obtain ⟨c0,c1,c2,c3⟩ := HA5.out
     have hk256 := HM.out.k256
     have HTL : Hid _ := q1Q HM.out HT.out
     go_wp2_with fail
     refine j1.mono ?_
     rintro e w6 ⟨vt,rfl,HVT,hb6⟩
     have HB6 : Hid (Below w.heap.size w w6) := q5 HB5.out hb6
     have HA6 : Hid (AuB w6 w.heap.size p aA nG cA aG nG cG aN nN cN) := HA5.out.up hb6
     have j2 := q3j p aA nG cA aG nG cG aN nN cN bs N gs HM.out HOK.out (HX.out.up HB6.out)
     clear j1 hb6 HB5 HA5 c0 c1 c2 c3
     obtain ⟨c0,c1,c2,c3⟩ := HA6.out
     go_wp2_with fail
     refine j2.mono ?_
     rintro e w7 ⟨hb7,xs,one,lx,ax,cx,rfl,hlx,hLX,hSF⟩
     have HB7 : Hid (Below w.heap.size w w7) := q5 HB6.out hb7
     have HA7 : Hid (AuB w7 w.heap.size p aA nG cA aG nG cG aN nN cN) := HA6.out.up hb7
     have HLX : Hid (LtC w7 ax lx cx xs) := hLX
     have HSF : Hid (ShoF nG (2 ^ p.toNat) (rowsG N gs (2 ^ p.toNat)) bs xs one) := hSF
     have HXL : Hid _ := hlx
     have j3 := q3i p aA nG cA aG nG cG aN nN cN bs N gs HM.out HOK.out (HX.out.up HB7.out)
     clear j2 hb7 HB6 HA6 c0 c1 c2 c3 hLX hSF hlx
     obtain ⟨c0,c1,c2,c3⟩ := HA7.out
     go_wp2_with fail
     refine j3.mono ?_
     rintro e w8 ⟨hb8,ys,two,ly,ay,cy,rfl,hly,hLY,hMF⟩
     have HB8 : Hid (Below w.heap.size w w8) := q5 HB7.out hb8
     have HA8 : Hid (AuB w8 w.heap.size p aA nG cA aG nG cG aN nN cN) := HA7.out.up hb8
     have HLX8 : Hid (LtC w8 ax lx cx xs) := HLX.out.up hb8
     have HLY : Hid (LtC w8 ay ly cy ys) := hLY
     have HMF : Hid (MisF nG (2 ^ p.toNat) (rowsG N gs (2 ^ p.toNat)) bs ys two) := hMF
     have HYL : Hid _ := hly
     have j4 := q16 p aA nG cA aG nG cG aN nN cN bs N gs HM.out HOK.out (HX.out.up HB8.out) HLX8.out (HSF.out.tr HM.out)
     clear j3 hb8 HB7 HA7 c0 c1 c2 c3 hLY hMF hly HLX
     obtain ⟨c0,c1,c2,c3⟩ := HA8.out
     go_wp2_with fail
     refine j4.mono ?_
     rintro e w9 ⟨vx,rfl,HVX,hb9⟩
     have HB9 : Hid (Below w.heap.size w w9) := q5 HB8.out hb9
     have HA9 : Hid (AuB w9 w.heap.size p aA nG cA aG nG cG aN nN cN) := HA8.out.up hb9
     have HLX9 : Hid (LtC w9 ax lx cx xs) := HLX8.out.up hb9
     have HLY9 : Hid (LtC w9 ay ly cy ys) := HLY.out.up hb9
     have j5 := q16 p aA nG cA aG nG cG aN nN cN bs N gs HM.out HOK.out (HX.out.up HB9.out) HLY9.out (HMF.out.tr HM.out)
     clear j4 hb9 HB8 HA8 c0 c1 c2 c3 HLX8 HLY
     obtain ⟨c0,c1,c2,c3⟩ := HA9.out
     go_wp2_with fail
     refine j5.mono ?_
     rintro e w10 ⟨vy,rfl,HVY,hb10⟩
     have HB10 : Hid (Below w.heap.size w w10) := q5 HB9.out hb10
     have HA10 : Hid (AuB w10 w.heap.size p aA nG cA aG nG cG aN nN cN) := HA9.out.up hb10
     have HLX10 : Hid (LtC w10 ax lx cx xs) := HLX9.out.up hb10
     have HLY10 : Hid (LtC w10 ay ly cy ys) := HLY9.out.up hb10
     have HLT10 : Hid (LtC w10 d m c ts) := HL.out.up HB10.out
     have HEN : Hid _ := q2U hk256 HSF.out HMF.out HTL.out
     have jx := qJ d m c ts ax lx cx xs w10 HLT10.out HLX10.out
     have jy := qJ d m c ts ay ly cy ys w10 HLT10.out HLY10.out
     have HSX : Hid ((one = true ∧ bs.getD (runP (rowsG N gs (2 ^ p.toNat)) 0 xs) false = true ∧ lx < nG) ∨ (one = false ∧ lx = 0)) := by
      rcases HSF.out with ⟨h1,_,h2,h3,_⟩ | ⟨h1,h2,_⟩
      ·exact .inl ⟨h1,h2,by rw [HXL.out]; exact h3⟩
      ·exact .inr ⟨h1,by rw [HXL.out,h2]; rfl⟩
     have HSY : Hid ((two = true ∧ bs.getD (runP (rowsG N gs (2 ^ p.toNat)) 0 ys) false = false ∧ 0 < ly ∧ ly ≤ nG) ∨ (two = false ∧ ly = 0)) := by
      rcases HMF.out with ⟨h1,h0,_,h2,h3,_⟩ | ⟨h1,h2,_⟩
      ·refine .inl ⟨h1,h2,?_,by rw [HYL.out]; exact h3⟩
       rw [HYL.out]
       exact List.length_pos_iff.2 h0
      ·exact .inr ⟨h1,by rw [HYL.out,h2]; rfl⟩
     have HTN : Hid (ts = [] → m = 0) := fun h => by rw [← HLN.out,h]; rfl
     have hx256 : nG ≤ 256 := HM.out.s2
     have HF : Hid (∀ w',Below w10.heap.size w10 w' → Q (.returned (.bool true)) w') := fun w' hb => HQ.out w' (q5 HB10.out hb)
     have hrf := Below.refl w10.heap.size w10
     have HF0 : Hid _ := HF.out w10 hrf
     clear j5 hb10 HB9 HA9 c0 c1 c2 c3 HLX9 HLY9 HLX10 HLY10 HLT10 HSF HMF HTL HT HQ HM HX HL HOK HLG HB10 HXL HYL hrf HLN
     obtain ⟨c0,c1,c2,c3⟩ := HA10.out
     rw [← HVT.out] at HEN
     rw [← HVX.out] at HSX
     rw [← HVY.out] at HSY
     clear HVT HVX HVY
     generalize ahL ts xs = bx at *
     generalize ahL ts ys = bY at *
     rcases HSX.out with ⟨rfl,rfl,hx1⟩ | ⟨rfl,rfl⟩ <;> rcases HSY.out with ⟨rfl,rfl,hy1,hy2⟩ | ⟨rfl,rfl⟩
     ·have hx1' : ¬ (nG : Int) ≤ (lx : Int) := by omega
      have hx2 : ¬ nG ≤ lx := by omega
      have hy1' : ((ly : Int) == 0) = false := by simp; omega
      have hy3 : ¬ ly = 0 := by omega
      have hy2' : ¬ (nG : Int) < (ly : Int) := by omega
      cases vt with
      | true =>
       obtain ⟨-,hbx⟩ := HEN.out.1 rfl
       subst hbx
       clear jy
       clear HEN HSX HSY HTN HF0
       go_wp2_with (go_at_call 14; (with_reducible refine jx.mono ?_); rintro e w11 ⟨rfl,hb11⟩; have HE : Hid _ := HF.out w11 hb11; clear hb11 HF)
       exact HE.out
      | false =>
       by_cases hm0 : m = 0
       ·subst hm0
        clear HEN HSX HSY HTN HF jx jy
        go_wp2
        exact HF0.out
       ·have hm0' : ((m : Int) == 0) = false := by simp; omega
        rcases HEN.out.2 rfl with h | ⟨-,h⟩
        ·exact absurd (HTN.out h) hm0
        ·subst h
         clear jx
         clear HEN HSX HSY HTN HF0
         go_wp2_with (go_at_call 14; (with_reducible refine jy.mono ?_); rintro e w11 ⟨rfl,hb11⟩; have HE : Hid _ := HF.out w11 hb11; clear hb11 HF)
         exact HE.out
     ·have hx1' : ¬ (nG : Int) ≤ (lx : Int) := by omega
      have hx2 : ¬ nG ≤ lx := by omega
      cases vt with
      | true =>
       obtain ⟨-,hbx⟩ := HEN.out.1 rfl
       subst hbx
       clear jy
       clear HEN HSX HSY HTN HF0
       go_wp2_with (go_at_call 14; (with_reducible refine jx.mono ?_); rintro e w11 ⟨rfl,hb11⟩; have HE : Hid _ := HF.out w11 hb11; clear hb11 HF)
       exact HE.out
      | false =>
       by_cases hm0 : m = 0
       ·subst hm0
        clear HEN HSX HSY HTN HF jx jy
        go_wp2
        exact HF0.out
       ·have hm0' : ((m : Int) == 0) = false := by simp; omega
        rcases HEN.out.2 rfl with h | ⟨h,_⟩
        ·exact absurd (HTN.out h) hm0
        ·exact absurd h (by decide)
     ·have hy1' : ((ly : Int) == 0) = false := by simp; omega
      have hy3 : ¬ ly = 0 := by omega
      have hy2' : ¬ (nG : Int) < (ly : Int) := by omega
      cases vt with
      | true =>
       exact absurd (HEN.out.1 rfl).1 (by decide)
      | false =>
       by_cases hm0 : m = 0
       ·subst hm0
        clear HEN HSX HSY HTN HF jx jy
        go_wp2
        exact HF0.out
       ·have hm0' : ((m : Int) == 0) = false := by simp; omega
        rcases HEN.out.2 rfl with h | ⟨-,h⟩
        ·exact absurd (HTN.out h) hm0
        ·subst h
         clear jx
         clear HEN HSX HSY HTN HF0
         go_wp2_with (go_at_call 14; (with_reducible refine jy.mono ?_); rintro e w11 ⟨rfl,hb11⟩; have HE : Hid _ := HF.out w11 hb11; clear hb11 HF)
         exact HE.out
     ·cases vt with
      | true =>
       exact absurd (HEN.out.1 rfl).1 (by decide)
      | false =>
       by_cases hm0 : m = 0
       ·subst hm0
        clear HEN HSX HSY HTN HF jx jy
        go_wp2
        exact HF0.out
       ·have hm0' : ((m : Int) == 0) = false := by simp; omega
        rcases HEN.out.2 rfl with h | ⟨h,_⟩
        ·exact absurd (HTN.out h) hm0
        ·exact absurd h (by decide)
    ·have hE2 : ((traceE p (ts.map Int.ofNat)) == 0) = false := by simpa using hE
     have hE3 : ((traceE p (ts.map Int.ofNat)) != 0) = true := by simpa using hE
     have HE : Hid _ := HQ.out w4 HB4.out
     clear HQ HB4
     generalize traceE p (ts.map Int.ofNat) = r at *
     go_wp2_with (go_at_call 9; (with_reducible refine jt.mono ?_); rintro e w' ⟨rfl,hw1⟩; obtain rfl := hw1.symm)
     exact HE.out
   ·have HE : Hid _ := HQ.out w4 (q5 HB3.out hb4)
    clear HQ hM jc hb4
    go_wp2
    exact HE.out
end Go.Proofs.Ytfbefloajnkhiaa
