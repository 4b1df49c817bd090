/- Texts of the proof, put together: what it uses. -/
import Derived.Deep.DeepCutAuto
import Derived.Test.YtohbphocfkgdcaaY05
set_option maxRecDepth 100000
set_option maxHeartbeats 16000000
namespace Go.Proofs.Ytohbphocfkgdcaa
open Go.RowKit Go.Maps
theorem BoRow.sl {w : World} {g n : Nat} {bs : List Bool} (h : BoRow w g (bs ++ zB 3)) (hn : bs.length = n) (hb : n ≤ 900000) : BoSl w (some ⟨g,0,none⟩) n (n + 3) bs := by
 refine ⟨hn,by omega,by unfold maxLen; omega,fun e => (by cases e),fun x hx k hk => ?_⟩
 injection hx with hx
 subst hx
 unfold BoRow at h
 rw [qb,Nat.zero_add,q8 h]
 simp only [List.getElem?_toArray,List.getElem?_map]
 rw [List.getElem?_append_left hk,List.getElem?_eq_getElem hk]
 rfl
theorem BoRow.room {w : World} {g n i : Nat} {bs : List Bool} (h : BoRow w g (bs ++ zB 3)) (hn : bs.length = n) (h1 : n ≤ i) (h2 : i < n + 3) : w.cell? ⟨g,i,none⟩ = some (.bool false) := by
 unfold BoRow at h
 rw [q8 h]
 simp only [List.getElem?_toArray,List.getElem?_map]
 rw [List.getElem?_append_right (by omega)]
 unfold zB
 rw [List.getElem?_replicate,if_pos (by omega)]
 rfl
theorem NdRow.cells {w : World} {g : Nat} {N : List Gd} (h : NdRow w g N) : ∀ j u,(encGd N)[j]? = some u → w.cell? ⟨g,j,none⟩ = some u := fun j u hj => by
 unfold NdRow at h
 rw [q8 h]
 simpa using hj
theorem NdRow.sl {w : World} {g n : Nat} {N : List Gd} (h : NdRow w g (N ++ zG 3)) (hn : N.length = n) (hb : n ≤ 900000) (hok : ∀ t ∈ N,GdOk t) : NdSl w (some ⟨g,0,none⟩) n (n + 3) N := by
 have hc : ∀ j u,(encGd N)[j]? = some u → w.cell? ((⟨g,0,none⟩ : Addr).add j) = some u := fun j u hj => by
  rw [qb,Nat.zero_add]
  refine h.cells j u ?_
  rw [qM,List.getElem?_append_left (List.getElem?_eq_some_iff.1 hj).1]
  exact hj
 refine ⟨hn,by omega,by unfold maxLen; omega,fun e => (by cases e),fun x hx k hk => ?_,fun x hx k hk => ?_,fun x hx k hk => ?_,hok⟩
 ·injection hx with hx; subst hx; exact hc _ _ (qg N k hk).1
 ·injection hx with hx; subst hx; exact hc _ _ (qg N k hk).2.1
 ·injection hx with hx; subst hx; exact hc _ _ (qg N k hk).2.2
theorem NdRow.room {w : World} {g n i : Nat} {N : List Gd} (h : NdRow w g (N ++ zG 3)) (hn : N.length = n) (h1 : n ≤ i) (h2 : i < n + 3) : w.cell? ⟨g,3 * i,none⟩ = some (.int .i64 0) ∧ w.cell? ⟨g,3 * i + 1,none⟩ = some (.int .i64 0) ∧ w.cell? ⟨g,3 * i + 2,none⟩ = some (.int .i64 0) := by
 have hl : i < (N ++ zG 3).length := by simp [zG]; omega
 have hz : (N ++ zG 3)[i] = (0,0,0) := by
  rw [List.getElem_append_right (by omega)]; exact List.getElem_replicate _
 obtain ⟨q0,q1,q2⟩ := qg (N ++ zG 3) i hl
 rw [hz] at q0 q1 q2
 exact ⟨h.cells _ _ q0,h.cells _ _ q1,h.cells _ _ q2⟩
theorem BoRow.up {w w' : World} {g : Nat} {bs : List Bool} (h : BoRow w g bs) (hb : Below w.heap.size w w') : BoRow w' g bs := (hb.block g (Array.getElem?_eq_some_iff.1 h).1).trans h
theorem NdRow.up {w w' : World} {g : Nat} {N : List Gd} (h : NdRow w g N) (hb : Below w.heap.size w w') : NdRow w' g N := (hb.block g (Array.getElem?_eq_some_iff.1 h).1).trans h
theorem q3Y {P : Program} {e : TypeId} {s : Nat} (h : (P.info? e).map (·.size) = some s) (w : World) : (sizeOf e).run P w = .ok s w := by
 cases hq : P.info? e with
 | none => simp [hq] at h
 | some i => simp [hq] at h; simp [sizeOf,typeInfo,hq,h]
theorem q2E {P : Program} {T e : TypeId} {s : Nat} (hu : P.underlying T = some (.slice e)) (hs : (P.info? e).map (·.size) = some s) (g n M : Nat) (w : World) : (Instr.sliceAt T (.slice (some ⟨g,0,none⟩) n M) none (some (.int .i64 (M : Int))) none).run P w = .ok (.slice (some ⟨g,0,none⟩) M M) w := by
 simp [Instr.sliceAt,Instr.slice,run_underlying hu,q3Y hs,go_sem]
theorem q3M (g n : Nat) (w : World) : (Instr.sliceAt 22 (.slice (some ⟨g,0,none⟩) n (n + 3)) none (some (.int .i64 ((n : Int) + 3))) none).run Try.prog w = .ok (.slice (some ⟨g,0,none⟩) (n + 3) (n + 3)) w := by
 have := q2E (P := Try.prog) Try.underlying22 qr g n (n + 3) w
 rwa [show (((n + 3 : Nat)) : Int) = (n : Int) + 3 by omega] at this
theorem q3N (g n : Nat) (w : World) : (Instr.sliceAt 24 (.slice (some ⟨g,0,none⟩) n (n + 3)) none (some (.int .i64 ((n : Int) + 3))) none).run Try.prog w = .ok (.slice (some ⟨g,0,none⟩) (n + 3) (n + 3)) w := by
 have := q2E (P := Try.prog) Try.underlying24 qc g n (n + 3) w
 rwa [show (((n + 3 : Nat)) : Int) = (n : Int) + 3 by omega] at this
theorem q2f (p : Int) (aA : Option Addr) (nA cA : Nat) (aG : Option Addr) (nG cG : Nat) (aN : Option Addr) (nN cN : Nat) (bs : List Bool) (gs : List Int) (N : List Gd) (b1 gb b2 : Nat) (w : World)
  (h1 : BoSl w aA nA cA bs) (h2 : ZSl w aG nG cG gs) (h3 : NdSl w aN nN cN N) (hA : nA ≤ 900000) (hG : nG ≤ 900000) (hN : nN ≤ 900000) (r1 : BoRow w b1 (bs ++ zB 3)) (r2 : RowI w 3 gb (lentZ gs)) (r3 : NdRow w b2 (N ++ zG 3)) :
  Calls Try.prog 22 #[.agg #[.int .i64 p,.slice (some ⟨b1,0,none⟩) nA (nA + 3),.slice (some ⟨gb,0,none⟩) nG (nG + 3),.slice (some ⟨b2,0,none⟩) nN (nN + 3)],.agg #[.int .i64 p,.slice aA nA cA,.slice aG nG cG,.slice aN nN cN]] w fun e w' => e = .returned (.bool true) ∧ Below w.heap.size w w' := by
 have hg2 : ZSl w (some ⟨gb,0,none⟩) nG (nG + 3) gs := by
  have hl := h2.hlen
  have := RowI.zsl (n := nG) r2 Try.underlying23 qe (by rw [qi]; omega) (by rw [qi]; unfold maxLen; omega)
  rw [qi,← hl,q21] at this
  rw [hl] at this
  exact this
 have hA0 := qd w p (some ⟨b1,0,none⟩) nA (nA + 3) (some ⟨gb,0,none⟩) nG (nG + 3) (some ⟨b2,0,none⟩) nN (nN + 3)
 have hb0 := q9 w (.cells #[.int .i64 p,.slice (some ⟨b1,0,none⟩) nA (nA + 3),.slice (some ⟨gb,0,none⟩) nG (nG + 3),.slice (some ⟨b2,0,none⟩) nN (nN + 3)] 26 (0,0))
 obtain ⟨w1,hw1⟩ : ∃ w1,w1 = w.alloc (.cells #[.int .i64 p,.slice (some ⟨b1,0,none⟩) nA (nA + 3),.slice (some ⟨gb,0,none⟩) nG (nG + 3),.slice (some ⟨b2,0,none⟩) nN (nN + 3)] 26 (0,0)) := ⟨_,rfl⟩
 rw [← hw1] at hA0 hb0
 have hs1 : w1.heap.size = w.heap.size + 1 := by rw [hw1]; simp
 have hb1 := q9 w1 (.cells #[.int .i64 p,.slice aA nA cA,.slice aG nG cG,.slice aN nN cN] 26 (0,0))
 have hA1 := qd w1 p aA nA cA aG nG cG aN nN cN
 rw [hs1] at hA1
 have hA0' := hA0.up hb1
 have hbb := q7 hb0 hb1
 rw [hw1] at hA1 hA0' hbb
 clear hb1 hA0 hb0 hs1 hw1
 generalize hw2 : (w.alloc (.cells #[.int .i64 p,.slice (some ⟨b1,0,none⟩) nA (nA + 3),.slice (some ⟨gb,0,none⟩) nG (nG + 3),.slice (some ⟨b2,0,none⟩) nN (nN + 3)] 26 (0,0))).alloc (.cells #[.int .i64 p,.slice aA nA cA,.slice aG nG cG,.slice aN nN cN] 26 (0,0)) = w2 at *
 have HA0 : Hid _ := hA0'
 have HA1 : Hid _ := hA1
 have HBB : Hid _ := hbb
 have j1 := q2k p (some ⟨b1,0,none⟩) nA (nA + 3) (some ⟨gb,0,none⟩) nG (nG + 3) (some ⟨b2,0,none⟩) nN (nN + 3) aA cA aG cG aN cN bs gs N w2 ((r1.up hbb).sl h1.hlen hA) (hg2.up hbb) ((r3.up hbb).sl h3.hlen hN h3.ok) (h1.up hbb) (h2.up hbb) (h3.up hbb)
 have J2 : Hid (∀ w',Below w.heap.size w w' → Calls Try.prog 47 #[.slice (some ⟨gb,0,none⟩) nG (nG + 3),.slice aG nG cG] w' fun e w'' => e = .returned (.bool true) ∧ Below w'.heap.size w' w'') := fun w' hb => q2M gb nG aG cG gs w' ((hb.block gb (Array.getElem?_eq_some_iff.1 r2).1).trans r2) (h2.up hb) hG
 have HR1 : Hid (∀ w' i,Below w.heap.size w w' → nA ≤ i → i < nA + 3 → w'.cell? ⟨b1,i,none⟩ = some (.bool false)) := fun w' i hb q1 q2 => (r1.up hb).room h1.hlen q1 q2
 have HR3 : Hid (∀ w' i,Below w.heap.size w w' → nN ≤ i → i < nN + 3 → w'.cell? ⟨b2,3 * i,none⟩ = some (.int .i64 0) ∧ w'.cell? ⟨b2,3 * i + 1,none⟩ = some (.int .i64 0) ∧ w'.cell? ⟨b2,3 * i + 2,none⟩ = some (.int .i64 0)) := fun w' i hb q1 q2 => (r3.up hb).room h3.hlen q1 q2
 have HIA : Hid (∀ (i : Nat) (w' : World),i < nA + 3 → (Instr.indexAt 22 (.slice (some ⟨b1,0,none⟩) (nA + 3) (nA + 3)) (.int .i64 (i : Int))).run Try.prog w' = .ok (.pointer (some ⟨b1,i,none⟩)) w') := fun i w' hi => by
  have := qh (P := Try.prog) (T := 22) (e := 4) Try.underlying22 qr (a := some ⟨b1,0,none⟩) (cap := nA + 3) (n := nA + 3) (by simp) i w' hi
  simpa [adOf,qb] using this
 have HIN : Hid (∀ (i : Nat) (w' : World),i < nN + 3 → (Instr.indexAt 24 (.slice (some ⟨b2,0,none⟩) (nN + 3) (nN + 3)) (.int .i64 (i : Int))).run Try.prog w' = .ok (.pointer (some ⟨b2,3 * i,none⟩)) w') := fun i w' hi => by
  simp [Instr.indexAt,run_underlying Try.underlying24,asIntOf,q1J qc,hi,Result.andThen,go_sem,qb,Nat.mul_comm]
 clear h1 h2 h3 r1 r2 r3 hg2 hA0' hA1 hbb
 obtain ⟨c0,c1,c2,c3⟩ := HA0.out
 obtain ⟨d0,d1,d2,d3⟩ := HA1.out
 subst hw2
 go_enter Try.func22,Try.ntmps22
 go_wp2_with fail
 refine j1.mono ?_
 rintro e w3 ⟨rfl,hb3⟩
 have HA3 : Hid _ := HA0.out.up hb3
 have HD3 : Hid _ := HA1.out.up hb3
 have HB3 : Hid _ := q7 HBB.out hb3
 have j2 := J2.out w3 HB3.out
 clear c0 c1 c2 c3 d0 d1 d2 d3 hb3 j1 HA0 HA1 HBB J2
 obtain ⟨c0,c1,c2,c3⟩ := HA3.out
 obtain ⟨d0,d1,d2,d3⟩ := HD3.out
 go_wp2_with fail
 refine j2.mono ?_
 rintro e w4 ⟨rfl,hb4⟩
 have HA4 : Hid (∀ nq,AuB (w4.drewN nq) w.heap.size p (some ⟨b1,0,none⟩) nA (nA + 3) (some ⟨gb,0,none⟩) nG (nG + 3) (some ⟨b2,0,none⟩) nN (nN + 3)) := fun nq => (HA3.out.up hb4).up (below_drewN (Below.refl _ _) nq)
 have HD4 : Hid (∀ nq,AuB (w4.drewN nq) (w.heap.size + 1) p aA nA cA aG nG cG aN nN cN) := fun nq => (HD3.out.up hb4).up (below_drewN (Below.refl _ _) nq)
 have HB4 : Hid (∀ nq,Below w.heap.size w (w4.drewN nq)) := fun nq => below_drewN (q7 HB3.out hb4) nq
 clear c0 c1 c2 c3 d0 d1 d2 d3 j2
 obtain ⟨c0,c1,c2,c3⟩ := HA3.out.up hb4
 have hsb := fun w => q3M b1 nA w
 have hsn := fun w => q3N b2 nN w
 clear hb4 HA3 HD3 HB3
 go_upto_region 15 with fail
 go_quiet (fail)
 have HA5 : Hid _ := HA4.out nq
 have HD5 : Hid _ := HD4.out nq
 have HB5 : Hid _ := HB4.out nq
 clear HA4 HD4 HB4 hsb hsn c0 c1 c2 c3
 generalize w4.drewN nq = w5 at *
 have d1 := HD5.out.c1
 have d3 := HD5.out.c3
 go_wp2
 go_loopw [7] (fun i wx => ∃ k : Nat,nA ≤ k ∧ k ≤ nA + 3 ∧ i = .int .i64 (k : Int) ∧ wx = w5) (fun i _ => (nA + 3) - (intOf i).toNat)
 case atStart => exact ⟨nA,Nat.le_refl _,by omega,rfl,rfl⟩
 case round =>
  obtain ⟨k,hk1,hk2,rfl,rfl⟩ := hrel
  by_cases hlt : k < nA + 3
  ·have hix := fun w' => HIA.out k w' hlt
   have hce := HR1.out wr k HB5.out hk1 hlt
   go_wp2
   go_roundw
   case rel => exact ⟨k + 1,by omega,by omega,by go_num,trivial⟩
   case measure => simp [intOf]; omega
  ·go_wp2
   generalize hww : wr = w7 at *
   go_loopw [8] (fun i wx => ∃ k : Nat,nN ≤ k ∧ k ≤ nN + 3 ∧ i = .int .i64 (k : Int) ∧ wx = w7) (fun i _ => (nN + 3) - (intOf i).toNat)
   case atStart => exact ⟨nN,Nat.le_refl _,by omega,rfl,rfl⟩
   case round =>
    obtain ⟨k2,hk3,hk4,rfl,rfl⟩ := hrel
    by_cases hlt2 : k2 < nN + 3
    ·have hix := fun w' => HIN.out k2 w' hlt2
     obtain ⟨x0,x1,x2⟩ := HR3.out wr k2 HB5.out hk3 hlt2
     have hne := fun w => q1F 0 0 0 0 0 0 w
     rw [decide_eq_true rfl] at hne
     generalize 3 * k2 = o at *
     go_wp2
     go_roundw
     case rel => exact ⟨k2 + 1,by omega,by omega,by go_num,trivial⟩
     case measure => simp [intOf]; omega
    ·go_wp2
     go_ret
     exact ⟨rfl,HB5.out⟩
end Go.Proofs.Ytohbphocfkgdcaa
