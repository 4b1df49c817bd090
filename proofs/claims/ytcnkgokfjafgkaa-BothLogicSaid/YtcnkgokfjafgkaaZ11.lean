/- Texts of the proof, put together: what it uses. -/
import Derived.Deep.WholeRow
import Derived.Test.YtcnkgokfjafgkaaZ02
import Derived.Test.YtcnkgokfjafgkaaZ09
set_option maxRecDepth 100000
set_option maxHeartbeats 16000000
namespace Go.Proofs.Ytcnkgokfjafgkaa
open Go.RowKit Go.Maps
def IzB (w : World) (g : Nat) (zs : List Int) : Prop := w.heap[g]? = some (.cells (zs.map (Value.int .i64)).toArray 3 (0,0))
theorem IzB.lt {w : World} {g : Nat} {zs : List Int} (h : IzB w g zs) : g < w.heap.size := (Array.getElem?_eq_some_iff.1 h).1
theorem IzB.up {w w' : World} {g : Nat} {zs : List Int} (h : IzB w g zs) (hb : Below w.heap.size w w') : IzB w' g zs := (hb.block g h.lt).trans h
theorem IzB.fr {w w' : World} {F F' : Nat → Prop} {g : Nat} {zs : List Int} (h : IzB w g zs) (hf : Fr w w' F F') (hg : ¬ F g) : IzB w' g zs := (hf.keep g h.lt hg).trans h
theorem IzB.cell {w : World} {g : Nat} {zs : List Int} (h : IzB w g zs) {i : Nat} (hi : i < zs.length) : w.cell? ⟨g,i,none⟩ = some (.int .i64 (zs.getD i 0)) := by
 rw [q6 h]; simp [List.getD_eq_getElem?_getD,List.getElem?_eq_getElem hi]
theorem IzB.fz {w : World} {g : Nat} {zs : List Int} (h : IzB w g zs) (i : Nat) : w.frozen? ⟨g,i,none⟩ = false := frozen_of_row w g i _ _ h
theorem IzB.set {w : World} {g : Nat} {zs : List Int} (h : IzB w g zs) (i : Nat) (z : Int) : IzB (w.setCell ⟨g,i,none⟩ (.int .i64 z)) g (zs.set i z) := by
 unfold IzB at h ⊢
 rw [heap_setCell_same w g i _ _ (.int .i64 z) h]; simp [List.map_set]
theorem qg (g n c i : Nat) (hi : i < n) (w : World) : (Instr.indexAt 23 (.slice (some ⟨g,0,none⟩) n c) (.int .i64 (i : Int))).run Try.prog w = .ok (.pointer (some ⟨g,i,none⟩)) w := by
 have := qt (P := Try.prog) (T := 23) Try.underlying23 qf (a := some ⟨g,0,none⟩) (cap := c) (n := n) (fun e => by cases e) i w hi
 simpa [adOf,q9] using this
theorem q7v : (Try.prog.info? 23).map (·.size) = some 1 := by kernel_rfl
theorem qI (g n c i : Nat) (hi : i < n) (w : World) : (Instr.indexAt 65 (.slice (some ⟨g,0,none⟩) n c) (.int .i64 (i : Int))).run Try.prog w = .ok (.pointer (some ⟨g,i,none⟩)) w := by
 have := qt (P := Try.prog) (T := 65) Try.underlying65 q7v (a := some ⟨g,0,none⟩) (cap := c) (n := n) (fun e => by cases e) i w hi
 simpa [adOf,q9] using this
theorem q25 {w : World} {g cap m : Nat} {Q : List PrP} (h : w.ownsRow 0 90 4 (.slice (some ⟨g,0,none⟩) m cap) m (encP Q)) {i : Nat} {x : PrP} (hx : Q[i]? = some x) :
  g < w.heap.size ∧ (∀ w',(Instr.indexAt 68 (.slice (some ⟨g,0,none⟩) m cap) (.int .i64 (i : Int))).run Try.prog w' = .ok (.pointer (some ⟨g,4 * i,none⟩)) w') ∧ w.cell? ⟨g,4 * i,none⟩ = some (.int .i64 (x.1 : Int)) ∧ w.cell? ⟨g,4 * i + 1,none⟩ = some (.int .i64 (x.2.1 : Int)) ∧ w.cell? ⟨g,4 * i + 2,none⟩ = some (.int .i64 (x.2.2.1 : Int)) ∧ w.cell? ⟨g,4 * i + 3,none⟩ = some (.int .u8 (x.2.2.2 : Int)) := by
 have hl : Q.length = m := by have := h.1; rw [q5R] at this; omega
 have hi : i < m := by have := (List.getElem?_eq_some_iff.1 hx).1; omega
 rcases h.2 with ⟨_,h0⟩ | ⟨g',cap',cur,e,hg,hcell,hnc,hcm,hsz,htk⟩
 ·omega
 ·injection e with e _ e3
  injection e with e
  injection e with e
  subst e; subst e3
  have key : ∀ j,j < m * 4 → w.cell? ⟨g,j,none⟩ = (encP Q)[j]? := fun j hj => by
   rw [← htk,List.getElem?_take,if_pos hj]
   simp [World.cell?,hcell]
  obtain ⟨e0,e1,e2,e3⟩ := q5Q Q i x hx
  refine ⟨(Array.getElem?_eq_some_iff.1 hcell).1,fun w' => ?_,?_,?_,?_,?_⟩
  ·simp [Instr.indexAt,run_underlying Try.underlying68,asIntOf,q6H q7s,hi,Result.andThen,go_sem,q9,Nat.mul_comm]
  ·rw [key _ (by omega),e0]
  ·rw [key _ (by omega),e1]
  ·rw [key _ (by omega),e2]
  ·rw [key _ (by omega),e3]
theorem q61 {T : List PrP} {i : Nat} (hi : i < T.length + 1) : ∃ x : PrP,(mtL T)[i]? = some x ∧ metE T i = (x.1,x.2.1) := by
 have h : i < (mtL T).length := by simpa using hi
 refine ⟨_,List.getElem?_eq_getElem h,?_⟩
 simp [metE,List.getD_eq_getElem?_getD,List.getElem?_eq_getElem h]
def rwB (R R' : List (List Nat)) (K : Nat) (T : List PrP) (i k : Nat) : List Int := (List.range K).map fun l => if l < k then (nmE (goE R R' T i K) (stp R R' (metE T i) l) : Int) else 0
theorem qay (R R' : List (List Nat)) (K : Nat) (T : List PrP) (i k : Nat) : (rwB R R' K T i k).length = K := by simp [rwB]
theorem q9D (R R' : List (List Nat)) (K : Nat) (T : List PrP) (i : Nat) : rwB R R' K T i 0 = List.replicate K 0 := by
 apply List.ext_getElem (by simp [rwB])
 intro j h1 h2
 simp [rwB]
theorem qax (R R' : List (List Nat)) (K : Nat) (T : List PrP) {i : Nat} (hi : i < T.length + 1) : rwB R R' K T i K = (rowEb R R' K (goE R R' T i K) i).map Int.ofNat := by
 unfold rwB rowEb
 rw [List.map_map,qX (q1s R R' T i K) hi]
 refine List.map_congr_left fun l hl => ?_
 rw [if_pos (List.mem_range.1 hl)]; rfl
theorem q9C (R R' : List (List Nat)) {K : Nat} (T : List PrP) (i : Nat) {k : Nat} (hk : k < K) : (rwB R R' K T i k).set k (nmE (goE R R' T i k) (stp R R' (metE T i) k) : Int) = rwB R R' K T i (k + 1) := by
 have hp : goE R R' T i (k + 1) <+: goE R R' T i K := by
  have := q3v R R' T i (k + 1) (K - (k + 1))
  rwa [show k + 1 + (K - (k + 1)) = K by omega] at this
 have hm : stp R R' (metE T i) k ∈ pqP (goE R R' T i (k + 1)) := q6V R R' T i (Nat.lt_succ_self k)
 have he : nmE (goE R R' T i K) (stp R R' (metE T i) k) = nmE (goE R R' T i k) (stp R R' (metE T i) k) := by
  rw [q3c hp hm,qW,← q76]
 apply List.ext_getElem (by simp [rwB])
 intro j h1 h2
 rw [List.getElem_set]
 simp only [rwB,List.getElem_map,List.getElem_range]
 by_cases e : k = j
 ·subst e; rw [if_pos rfl,if_pos (by omega),he]
 ·rw [if_neg e]
  by_cases e2 : j < k
  ·rw [if_pos e2,if_pos (by omega)]
  ·rw [if_neg e2,if_neg (by omega)]
def RwsR (D : PD) (T : List PrP) (i : Nat) (F : Nat → Prop) (w : World) (e : Ending) (w' : World) : Prop :=
 ∃ g,e = .returned (.slice (some ⟨g,0,none⟩) D.K D.K) ∧ w.heap.size ≤ g ∧ IzB w' g ((rowEb D.R D.R' D.K (goE D.R D.R' T i D.K) i).map Int.ofNat) ∧ ∃ F',PrS D w' F' (goE D.R D.R' T i D.K) ∧ Fr w w' F F' ∧ ¬ F' g
theorem Fr.newB {w w' : World} {G G' : Nat → Prop} (f1 : Fr w w' G G') {g : Nat} (hg : w.heap.size ≤ g) (i : Nat) (v : Value) : Fr w (w'.setCell ⟨g,i,none⟩ v) G G' :=
 ⟨f1.os,f1.tape,f1.output,by simp; exact f1.size,fun k hk hn => (Below.heap_setCell _ _ _ _ (by dsimp only; omega)).trans (f1.keep k hk hn),f1.foot⟩
theorem PrS.set {D : PD} {w w9 : World} {F F9 : Nat → Prop} {T T9 : List PrP} (h0 : PrS D w F T) (h : PrS D w9 F9 T9) (hf : Fr w w9 F F9) {g : Nat} (hg : w.heap.size ≤ g) (hg9 : ¬ F9 g) (i : Nat) (v : Value) : PrS D (w9.setCell ⟨g,i,none⟩ v) F9 T9 := by
 have hwl := h0.bel.size
 have hfr := hf.newB hg i v
 refine h.far ((Below.refl _ _).setCell (by dsimp only; omega) _) (fun k hk => Below.heap_setCell _ _ _ _ (by dsimp only; exact fun e => hg9 (e ▸ hk))) (h0.rA.fr hfr h0.noZ) (h0.rB.fr hfr h0.noZ)
structure RwL (D : PD) (T : List PrP) (i k g : Nat) (F : Nat → Prop) (w wr : World) (F' : Nat → Prop) : Prop where
 z : IzB wr g (rwB D.R D.R' D.K T i k)
 p : PrS D wr F' (goE D.R D.R' T i k)
 fr : Fr w wr F F'
 ng : ¬ F' g
 ge : w.heap.size ≤ g
theorem RwL.fin {D : PD} {T : List PrP} {i g : Nat} {F F' : Nat → Prop} {w wr : World} (h : RwL D T i D.K g F w wr F') (hi : i < T.length + 1) : RwsR D T i F w (.returned (.slice (some ⟨g,0,none⟩) D.K D.K)) wr :=
 ⟨g,rfl,h.ge,by rw [← qax D.R D.R' D.K T hi]; exact h.z,F',h.p,h.fr,h.ng⟩
theorem RwL.next {D : PD} {T : List PrP} {i k g : Nat} {F F1 : Nat → Prop} {w wr w9 : World} (h0 : PrS D w F T) (h : RwL D T i k g F w wr F1) (hk : k < D.K) {e : Ending} (h9 : NmbR D (goE D.R D.R' T i k) (stp D.R D.R' (metE T i) k) i k F1 wr.drew e w9) :
  e = .returned (.int .i64 (nmE (goE D.R D.R' T i k) (stp D.R D.R' (metE T i) k) : Int)) ∧ IzB w9 g (rwB D.R D.R' D.K T i k) ∧ ∃ F9,RwL D T i (k + 1) g F w (w9.setCell ⟨g,k,none⟩ (.int .i64 (nmE (goE D.R D.R' T i k) (stp D.R D.R' (metE T i) k) : Int))) F9 := by
 obtain ⟨he,F9,hp9,hf9⟩ := h9
 have hf := (show Fr wr wr.drew F1 F1 from Fr.ofBelow ((Below.refl _ _).drew)).trans hf9
 have hz9 := h.z.fr hf h.ng
 have hg9 : ¬ F9 g := hf.out h.ng h.z.lt
 refine ⟨he,hz9,F9,?_,?_,(h.fr.trans hf).newB h.ge _ _,hg9,h.ge⟩
 ·rw [← q9C D.R D.R' T i hk]; exact hz9.set _ _
 ·rw [qW]; exact h0.set hp9 (h.fr.trans hf) h.ge hg9 _ _
theorem q3l {D : PD} {w : World} {F : Nat → Prop} {T : List PrP} (h : PrS D w F T) (i : Nat) (hi : i < T.length + 1) (hK : D.K ≤ 256) (hR : RowsP D.nA D.K D.R) (hR' : RowsP D.nB D.K D.R') (hA : D.nA ≤ 256) (hB : D.nB ≤ 256) (hm1 : (metE T i).1 < D.nA) (hm2 : (metE T i).2 < D.nB) (hgo : ∀ k,k ≤ D.K → (goE D.R D.R' T i k).length ≤ 65536) :
  Calls Try.prog 46 #[.pointer (some ⟨D.b,0,none⟩),.int .i64 (i : Int)] w (RwsR D T i F w) := by
 obtain ⟨Q,hQ⟩ : ∃ Q,Q = RwsR D T i F w := ⟨_,rfl⟩
 rw [← hQ]
 have HQ : Hid (∀ g wr F',RwL D T i D.K g F w wr F' → Q (.returned (.slice (some ⟨g,0,none⟩) D.K D.K)) wr) := fun g wr F' hl => by rw [hQ]; exact hl.fin hi
 clear hQ
 obtain ⟨g,cap,hblk,hrow,hF⟩ := h.read
 obtain ⟨x,hx,hme⟩ := q61 hi
 obtain ⟨hgl,hix,e0,e1,_,_⟩ := q25 hrow hx
 have c5 : w.cell? ⟨D.b,5,none⟩ = some (.slice (some ⟨g,0,none⟩) (T.length + 1) cap) := q6 hblk 5
 have c2 : w.cell? ⟨D.b,2,none⟩ = some (.slice (some ⟨D.gA,0,none⟩) D.nA D.tA) := q6 hblk 2
 have c3 : w.cell? ⟨D.b,3,none⟩ = some (.slice (some ⟨D.gB,0,none⟩) D.nB D.tB) := q6 hblk 3
 have hx1 : x.1 < D.nA := by rw [hme] at hm1; exact hm1
 have hx2 : x.2.1 < D.nB := by rw [hme] at hm2; exact hm2
 obtain ⟨gi,ci,r1,hgi,s1,cu1,hcu1⟩ := h.rA.at hx1
 obtain ⟨gj,cj,r2,hgj,s2,cu2,hcu2⟩ := h.rB.at hx2
 have ixA := fun w' => qI D.gA D.nA D.tA x.1 hx1 w'
 have ixB := fun w' => qI D.gB D.nB D.tB x.2.1 hx2 w'
 have HI : Hid _ := h
 have HX : Hid (metE T i = (x.1,x.2.1)) := hme
 clear hblk hrow hF hx hm1 hm2 h
 generalize x.1 = p at *
 generalize x.2.1 = q at *
 have hbh := q5 w (.cells #[.int .i64 (p : Int),.int .i64 (q : Int)] 88 (0,0))
 have d2 := q8 c2 hbh
 have d3 := q8 c3 hbh
 have t1 := q8 r1 hbh
 have t2 := q8 r2 hbh
 have hn := (MapKept.heap_alloc w (.cells #[.int .i64 (p : Int),.int .i64 (q : Int)] 88 (0,0))).1
 have h0 : (w.alloc (.cells #[.int .i64 (p : Int),.int .i64 (q : Int)] 88 (0,0))).cell? ⟨w.heap.size,0,none⟩ = some (.int .i64 (p : Int)) := q6 hn 0
 have h1 : (w.alloc (.cells #[.int .i64 (p : Int),.int .i64 (q : Int)] 88 (0,0))).cell? ⟨w.heap.size,1,none⟩ = some (.int .i64 (q : Int)) := q6 hn 1
 have hmk := fun w => qT D.K (D.K : Int) rfl (by omega) w
 have HBH : Hid _ := hbh
 have HS1 : Hid (∀ wr F',Fr w wr F F' → ∀ k,k < D.K → wr.cell? ⟨gi,k,none⟩ = some (.int .i64 ((trP D.R p k : Nat) : Int))) := fun wr F' hf k hk => hf.cell (s1 k hk) (fun e => (HI.out.noZ gi e cu1).2 hcu1)
 have HS2 : Hid (∀ wr F',Fr w wr F F' → ∀ k,k < D.K → wr.cell? ⟨gj,k,none⟩ = some (.int .i64 ((trP D.R' q k : Nat) : Int))) := fun wr F' hf k hk => hf.cell (s2 k hk) (fun e => (HI.out.noZ gj e cu2).2 hcu2)
 clear hbh hn s1 s2 hcu1 hcu2
 go_enter Try.func46,Try.ntmps46
 go_upto_region 15 with fail
 go_quiet (fail)
 have HB2 : Hid (Below w.heap.size w (((w.alloc (.cells #[.int .i64 (p : Int),.int .i64 (q : Int)] 88 (0,0))).drewN nq).alloc (.cells ((List.replicate D.K (0 : Int)).map (Value.int .i64)).toArray 3))) := q7 (below_drewN HBH.out nq) (q5 _ _)
 have HZ2 : Hid (IzB (((w.alloc (.cells #[.int .i64 (p : Int),.int .i64 (q : Int)] 88 (0,0))).drewN nq).alloc (.cells ((List.replicate D.K (0 : Int)).map (Value.int .i64)).toArray 3)) (w.heap.size + 1) (List.replicate D.K 0)) := by
  have := (MapKept.heap_alloc ((w.alloc (.cells #[.int .i64 (p : Int),.int .i64 (q : Int)] 88 (0,0))).drewN nq) (.cells ((List.replicate D.K (0 : Int)).map (Value.int .i64)).toArray 3)).1
  have e : ((w.alloc (.cells #[.int .i64 (p : Int),.int .i64 (q : Int)] 88 (0,0))).drewN nq).heap.size = w.heap.size + 1 := by simp
  rw [e] at this
  exact this
 have HL0 : Hid (RwL D T i 0 (w.heap.size + 1) F w (((w.alloc (.cells #[.int .i64 (p : Int),.int .i64 (q : Int)] 88 (0,0))).drewN nq).alloc (.cells ((List.replicate D.K (0 : Int)).map (Value.int .i64)).toArray 3)) F) := by
  refine ⟨by rw [q9D]; exact HZ2.out,HI.out.up HB2.out,Fr.ofBelow HB2.out,fun e => ?_,by omega⟩
  have := HI.out.lt _ e; omega
 clear HB2 HZ2 c2 c3 r1 r2 d2 d3 t1 t2 h0 h1 hix ixA ixB e0 e1 c5
 go_wp2
 clear hmk
 rw [show ((List.replicate D.K (0 : Int)).map (Value.int .i64)).toArray = Array.replicate D.K (.int .i64 0) by simp] at HL0
 generalize ((w.alloc (.cells #[.int .i64 (p : Int),.int .i64 (q : Int)] 88 (0,0))).drewN nq).alloc (.cells (Array.replicate D.K (.int .i64 0)) 3) = w2 at *
 go_loopw [41] (fun v wr => ∃ (k : Nat) (F' : Nat → Prop),k ≤ D.K ∧ v = .int .i64 (k : Int) ∧ Hid (RwL D T i k (w.heap.size + 1) F w wr F')) (fun v _ => D.K - (intOf v).toNat)
 case atStart => exact ⟨0,F,Nat.zero_le _,rfl,HL0⟩
 case round =>
  obtain ⟨k,F1,hk,rfl,HL⟩ := hrel
  clear HL0
  by_cases hlt : k < D.K
  ·have hs1 := HS1.out wr F1 HL.out.fr k hlt
   have hs2 := HS2.out wr F1 HL.out.fr k hlt
   have ix1 := fun w' => qg gi D.K ci k hlt w'
   have ix2 := fun w' => qg gj D.K cj k hlt w'
   have ix3 := fun w' => qg (w.heap.size + 1) D.K D.K k hlt w'
   have jl0 := q4o (HL.out.p.up (w' := wr.drew) ((Below.refl _ _).drew)) (stp D.R D.R' (metE T i) k) i k (by
    rw [HX.out]
    have a := hR.lt p k hx1 hlt
    have b := hR'.lt q k hx2 hlt
    dsimp only [stp]
    omega) (by have := hgo k hk; omega)
   have HN : Hid (∀ e w9,NmbR D (goE D.R D.R' T i k) (stp D.R D.R' (metE T i) k) i k F1 wr.drew e w9 → _) := fun e w9 h9 => HL.out.next HI.out hlt h9
   rw [HX.out] at jl0 HN
   dsimp only [stp] at jl0 HN
   obtain ⟨z,hz⟩ : ∃ z : Int,z = ((nmE (goE D.R D.R' T i k) (trP D.R p k,trP D.R' q k) : Nat) : Int) := ⟨_,rfl⟩
   rw [← hz] at HN
   have jl : Calls Try.prog 63 #[.pointer (some ⟨D.b,0,none⟩),.agg #[.int .i64 ((trP D.R p k : Nat) : Int),.int .i64 ((trP D.R' q k : Nat) : Int),.int .i64 (i : Int),.int .u8 (k : Int)]] wr.drew fun e w9 => e = .returned (.int .i64 z) ∧ w9.cell? ⟨w.heap.size + 1,k,none⟩ = some (.int .i64 ((rwB D.R D.R' D.K T i k).getD k 0)) ∧ w9.frozen? ⟨w.heap.size + 1,k,none⟩ = false ∧ ∃ F9,Hid (RwL D T i (k + 1) (w.heap.size + 1) F w (w9.setCell ⟨w.heap.size + 1,k,none⟩ (.int .i64 z)) F9) := by
    refine jl0.mono ?_
    intro e w9 h9
    obtain ⟨a1,a2,F9,a3⟩ := HN.out e w9 h9
    exact ⟨a1,a2.cell (by rw [qay]; exact hlt),a2.fz _,F9,a3⟩
   have hw8 : IntKind.u8.wrap (k : Int) = (k : Int) := by rw [IntKind.wrap_u8]; omega
   clear jl0 HN hz HL
   generalize (rwB D.R D.R' D.K T i k).getD k 0 = z0 at *
   generalize trP D.R p k = sp at *
   generalize trP D.R' q k = sq at *
   go_wp2
   go_region_law (first
    | (revert jl; intro jl; go_simp; (with_reducible refine jl.mono ?_); rintro e w9 ⟨rfl,k9,z9,F9,HL9⟩; dsimp only)
    | fail)
   all_goals
    clear jl k9 z9
    go_wp2
    go_roundw
    case rel => exact ⟨k + 1,F9,by omega,by go_num,HL9⟩
    case measure => simp [intOf]; omega
  ·obtain rfl : k = D.K := by omega
   have HE : Hid _ := HQ.out _ wr F1 HL.out
   clear HQ HL
   go_wp2
   exact HE.out
def sgA (xs : List Nat) : Array Value := (xs.map fun (x : Nat) => Value.int .u8 (x : Int)).toArray
theorem qi (xs : List Nat) : (sgA xs).size = xs.length := by simp [sgA]
theorem q4B (xs : List Nat) {i : Nat} (h : i < xs.length) : (sgA xs)[i]? = some (.int .u8 ((xs.getD i 0 : Nat) : Int)) := by
 simp [sgA,List.getD_eq_getElem?_getD,List.getElem?_eq_getElem h]
theorem q7e (xs : List Nat) (i x : Nat) : (sgA xs).setIfInBounds i (.int .u8 (x : Int)) = sgA (xs.set i x) := by
 simp [sgA,List.map_set]
theorem q7d (xs : List Nat) : (sgA xs).all (·.oneCell') = true := by
 rw [Array.all_eq_true]
 intro i hi
 have hi' : i < xs.length := by rwa [qi] at hi
 have := q4B xs hi'
 rw [Array.getElem?_eq_some_iff] at this
 rw [this.2]
 rfl
theorem qaD {xs ys : List Nat} (h : sgA xs = sgA ys) : xs = ys := by
 have h1 := congrArg Array.toList h
 unfold sgA at h1
 refine (List.map_inj_right (f := fun (x : Nat) => Value.int .u8 (x : Int)) (fun a b e => ?_)).1 h1
 injection e with _ e
 exact Int.ofNat.inj e
theorem q3S : (Try.prog.info? 144).map (fun i => (i.zero,i.size)) = some (some (.agg (Array.replicate 257 (.int .u8 0))),257) := by kernel_rfl
theorem q9J : sgA (List.replicate 257 0) = Array.replicate 257 (.int .u8 0) := by
 apply Array.ext_getElem?
 intro i
 by_cases hi : i < 257
 ·rw [q4B _ (by rw [List.length_replicate]; exact hi),Array.getElem?_replicate,if_pos hi,List.getD_eq_getElem?_getD,List.getElem?_replicate,if_pos hi]
  rfl
 ·rw [Array.getElem?_eq_none (by rw [qi,List.length_replicate]; omega),Array.getElem?_eq_none (by rw [Array.size_replicate]; omega)]
theorem qk : (Try.prog.info? 144).map (·.size) = some 257 := (zero_of_info q3S).2
theorem q1m (w : World) : (zeroValue 144).run Try.prog w = .ok (.agg (sgA (List.replicate 257 0))) w := by rw [q9J]; exact (zero_of_info q3S).1 w
theorem q5K : Try.prog.built 144 [] = some (sgA (List.replicate 257 0)) := by kernel_rfl
theorem q6x (x : Int) : Try.prog.built 144 [(0,.int .u8 x)] = some ((sgA (List.replicate 257 0)).setIfInBounds 0 (.int .u8 x)) := by kernel_rfl
theorem q5J (w : World) : (Instr.build 144 #[]).run Try.prog w = .ok (.agg (sgA (List.replicate 257 0))) w := run_build w _ _ _ q5K
theorem q3F (x : Nat) : (sgA (List.replicate 257 0)).setIfInBounds 0 (.int .u8 (x : Int)) = sgA (x :: List.replicate 256 0) := by
 rw [q7e]; rfl
theorem q6w (x : Nat) (w : World) : (Instr.build 144 #[(0,.int .u8 (x : Int))]).run Try.prog w = .ok (.agg (sgA (x :: List.replicate 256 0))) w := by
 rw [← q3F]; exact run_build w _ _ _ (q6x x)
theorem q7S (g x : Nat) (hx : x < 257) (w : World) : (Instr.indexAt 144 (.pointer (some ⟨g,0,none⟩)) (.int .i64 (x : Int))).run Try.prog w = .ok (.pointer (some ⟨g,x,none⟩)) w := by
 simp [Instr.indexAt,run_underlying Try.underlying144,asIntOf,q15 (show (Try.prog.info? 5).map (·.size) = some 1 by kernel_rfl),hx,Result.andThen,go_sem,q9]
def SgB (w : World) (g : Nat) (xs : List Nat) : Prop := w.heap[g]? = some (.cells (sgA xs) 144 (0,0))
theorem SgB.lt {w : World} {g : Nat} {xs : List Nat} (h : SgB w g xs) : g < w.heap.size := (Array.getElem?_eq_some_iff.1 h).1
theorem SgB.up {w w' : World} {g : Nat} {xs : List Nat} (h : SgB w g xs) (hb : Below w.heap.size w w') : SgB w' g xs := (hb.block g h.lt).trans h
theorem SgB.load {w : World} {g : Nat} {xs : List Nat} (h : SgB w g xs) (hl : xs.length = 257) : (Instr.loadAt 144 (.pointer (some ⟨g,0,none⟩))).run Try.prog w = .ok (.agg (sgA xs)) w := by
 simp only [Instr.loadAt,Instr.sureAddr,Sem.run_bind,Sem.run_pure,Result.andThen]
 exact run_loadVar_row w g _ _ (sgA xs) (0,0) _ h Try.underlying144 rfl (by rw [qi,hl]; exact qk)
theorem SgB.store {w : World} {g : Nat} {xs ys : List Nat} (h : SgB w g xs) (hl : xs.length = 257) (hy : ys.length = 257) : (Instr.storeAt 144 (.pointer (some ⟨g,0,none⟩)) (.agg (sgA ys))).run Try.prog w = .ok () (w.setRow g (sgA ys)) := by
 simp only [Instr.storeAt,Instr.sureAddr,Sem.run_bind,Sem.run_pure,Result.andThen]
 exact run_storeVar_row w g _ _ (sgA xs) (sgA ys) h (by rw [qi,hy]; exact qk) (by rw [qi,qi,hl,hy]) (q7d ys)
theorem SgB.cells {w : World} {g : Nat} {xs ys : List Nat} (h : SgB w g xs) (hl : xs.length = 257) (hy : ys.length = 257) : (storeCells ⟨g,0,none⟩ (sgA ys).toList).run Try.prog w = .ok () (w.setRow g (sgA ys)) := by
 have := run_storeVar_row (P := Try.prog) w g _ 144 (sgA xs) (sgA ys) h (by rw [qi,hy]; exact qk) (by rw [qi,qi,hl,hy]) (q7d ys)
 cases hq : Try.prog.info? 144 with
 | none => have := qk; simp [hq] at this
 | some i =>
  have hs : (sgA ys).size = i.size := by have := qk; simp [hq] at this; rw [qi]; omega
  simpa [storeVar,sizeOf,typeInfo,hq,Value.cells,hs] using this
theorem SgB.row {w : World} {g : Nat} {xs ys : List Nat} (h : SgB w g xs) : SgB (w.setRow g (sgA ys)) g ys := setRow_heap _ _ _ _ _ _ h
def SigQ (xs : List Nat) (w : World) (e : Ending) (w' : World) : Prop := e = .returned (.agg (sgA xs)) ∧ Below w.heap.size w w'
theorem q5E (aA : Option Addr) (cA : Nat) (aT : Option Addr) (cT n : Nat) (bs : List Bool) (R : List (List Nat)) (s : Nat) (w : World) (hM : MvS w aA cA aT cT n bs R) (hs : s < n) :
  Calls Try.prog 93 #[.agg #[.slice aA n cA,.slice aT n cT],.int .i64 (s : Int)] w (SigQ (kindP bs s) w) := by
 have hz := fun w => q1m w
 have hb0 := fun w => q5J w
 have hb1 := fun w => q6w 1 w
 have HB1 : Hid (Below w.heap.size w ((w.alloc (.cells #[.slice aA n cA,.slice aT n cT] 126 (0,0))).alloc (.cells (sgA (List.replicate 257 0)) 144 (0,0)))) := q7 (q5 w _) (q5 _ _)
 have HV1 : Hid (SgB ((w.alloc (.cells #[.slice aA n cA,.slice aT n cT] 126 (0,0))).alloc (.cells (sgA (List.replicate 257 0)) 144 (0,0))) (w.heap.size + 1) (List.replicate 257 0)) := by
  have := (MapKept.heap_alloc (w.alloc (.cells #[.slice aA n cA,.slice aT n cT] 126 (0,0))) (.cells (sgA (List.replicate 257 0)) 144 (0,0))).1
  show SgB _ _ _
  simpa [SgB] using this
 have HM1 : Hid (MvB ((w.alloc (.cells #[.slice aA n cA,.slice aT n cT] 126 (0,0))).alloc (.cells (sgA (List.replicate 257 0)) 144 (0,0))) w.heap.size (.slice aA n cA) (.slice aT n cT)) := (q11 w _ _).up (q5 _ _)
 obtain ⟨hix0,hce⟩ := (hM.bo.up HB1.out).at s hs
 have hix := fun w' => hix0 n w' hs
 have hsl : s < bs.length := by have := hM.bo.hlen; omega
 have hgd : bs.getD s false = bs[s] := by rw [List.getD_eq_getElem?_getD,List.getElem?_eq_getElem hsl]; rfl
 have HK : Hid (∀ b,bs[s] = b → kindP bs s = (if b then 1 else 0) :: List.replicate 256 0) := fun b hb => by unfold kindP; rw [hgd,hb]
 generalize bs[s] = b at *
 have HKB : Hid _ := HK.out b rfl
 generalize adOf aA s = ad at *
 obtain ⟨ag,ao,az⟩ := ad
 have m0 := HM1.out.c0
 obtain ⟨Y,hY⟩ : ∃ Y,Y = kindP bs s := ⟨_,rfl⟩
 rw [← hY]
 rw [← hY] at HKB
 have HLY : Hid (Y.length = 257) := by show _ = _; rw [hY,q4Z]
 clear hY HK hM hix0 hsl hgd
 obtain ⟨Z,hZ⟩ : ∃ Z : List Nat,Z = List.replicate 257 0 := ⟨_,rfl⟩
 have HLZ : Hid (Z.length = 257) := by show _ = _; rw [hZ,List.length_replicate]
 have HZB : Hid (b = false → Y = Z) := fun h => by rw [HKB.out,h,hZ]; rfl
 obtain ⟨O,hO⟩ : ∃ O : List Nat,O = 1 :: List.replicate 256 0 := ⟨_,rfl⟩
 have HOB : Hid (b = true → Y = O) := fun h => by rw [HKB.out,h,hO]; rfl
 simp only [Int.cast_ofNat_Int] at hb1
 rw [← hZ] at HV1 HM1 HB1 hz hb0 m0 hce
 rw [← hO] at hb1
 have hset : (sgA Z).setIfInBounds 0 (.int .u8 1) = sgA O := by rw [hZ,hO]; exact q3F 1
 clear hZ hO HKB
 have hsz : (sgA Z).size = 257 := by rw [qi]; exact HLZ.out
 have hne : ¬ sgA Z = #[] := fun e => by rw [e] at hsz; cases hsz
 have hsy : (sgA Y).size = 257 := by rw [qi]; exact HLY.out
 have HE : Hid (SigQ Y w (.returned (.agg (sgA Y))) ((((w.alloc (.cells #[.slice aA n cA,.slice aT n cT] 126 (0,0))).alloc (.cells (sgA Z) 144 (0,0)))).setRow (w.heap.size + 1) (sgA Y))) := ⟨rfl,qz HB1.out (by omega) _⟩
 have HVY : Hid (SgB ((((w.alloc (.cells #[.slice aA n cA,.slice aT n cT] 126 (0,0))).alloc (.cells (sgA Z) 144 (0,0)))).setRow (w.heap.size + 1) (sgA Y)) (w.heap.size + 1) Y) := HV1.out.row
 cases b with
 | true =>
  obtain rfl := HOB.out rfl
  have hst := HV1.out.store HLZ.out HLY.out
  have hsc := HV1.out.cells HLZ.out HLY.out
  go_enter Try.func93,Try.ntmps93
  go_wp2
  refine bodyPost_ret (v := .agg (sgA Y)) ?_ rfl HE.out
  exact results_cell_row Try.results93 _ _ (w.heap.size + 1) 144 (sgA Y) (0,0) _ rfl HVY.out Try.underlying144 rfl (by rw [hsy]; exact qk)
 | false =>
  obtain rfl := HZB.out rfl
  have hst := HV1.out.store HLZ.out HLZ.out
  have hsc := HV1.out.cells HLZ.out HLZ.out
  go_enter Try.func93,Try.ntmps93
  go_wp2
  refine bodyPost_ret (v := .agg (sgA Y)) ?_ rfl HE.out
  exact results_cell_row Try.results93 _ _ (w.heap.size + 1) 144 (sgA Y) (0,0) _ rfl HVY.out Try.underlying144 rfl (by rw [hsy]; exact qk)
def sgTo (c row : List Nat) (x k : Nat) : List Nat := (x :: (row.take k).map fun t => c.getD t 0) ++ List.replicate (256 - k) 0
theorem q9L {c row : List Nat} {x k : Nat} (hk : k ≤ row.length) (h : row.length ≤ 256) : (sgTo c row x k).length = 257 := by
 rw [sgTo,List.length_append,List.length_cons,List.length_map,List.length_take,List.length_replicate]
 omega
theorem q8v (c row : List Nat) (x : Nat) : sgTo c row x 0 = x :: List.replicate 256 0 := rfl
theorem q8u {c row : List Nat} {x k : Nat} (hk : k < row.length) (h : row.length ≤ 256) : (sgTo c row x k).set (1 + k) (c.getD (row.getD k 0) 0) = sgTo c row x (k + 1) := by
 have hl : (x :: (row.take k).map fun t => c.getD t 0).length = 1 + k := by
  rw [List.length_cons,List.length_map,List.length_take]; omega
 have hr : List.replicate (256 - k) 0 = 0 :: List.replicate (256 - (k + 1)) 0 := by
  rw [show 256 - k = (256 - (k + 1)) + 1 by omega]; rfl
 rw [sgTo,List.set_append_right _ _ (by omega),hl,Nat.sub_self,hr,List.set_cons_zero,sgTo,List.take_add_one,List.getElem?_eq_getElem hk,Option.toList_some,List.map_append,List.getD_eq_getElem?_getD (l := row),List.getElem?_eq_getElem hk]
 simp
theorem q9K (R : List (List Nat)) (c : List Nat) (s : Nat) : sgTo c (R.getD s []) (c.getD s 0) (R.getD s []).length = sigP R c s := by
 rw [sgTo,sigP,List.take_of_length_le (Nat.le_refl _)]
theorem qD {l : List Nat} {k : Nat} (h : k < l.length) : (l.map Int.ofNat).getD k 0 = ((l.getD k 0 : Nat) : Int) := by
 simp [List.getD_eq_getElem?_getD,List.getElem?_eq_getElem h]
theorem q6y (aA : Option Addr) (cA : Nat) (aT : Option Addr) (cT n K : Nat) (bs : List Bool) (R : List (List Nat)) (aC : Option Addr) (cC : Nat) (c : List Nat) (s : Nat) (w : World) (hM : MvS w aA cA aT cT n bs R) (hR : RowsP n K R) (hK : K ≤ 256) (hC : ZSl w aC n cC (c.map Int.ofNat)) (hc : ∀ t,t < n → c.getD t 0 < 256) (hs : s < n) :
  Calls Try.prog 95 #[.agg #[.slice aA n cA,.slice aT n cT],.slice aC n cC,.int .i64 (s : Int)] w (SigQ (sigP R c s) w) := by
 have hz := fun w => q1m w
 have hcl : c.length = n := by have := hC.hlen; simpa using this
 have hrl := hR.row s hs
 obtain ⟨X,hX⟩ : ∃ X,X = c.getD s 0 := ⟨_,rfl⟩
 have hX8 : X < 256 := by rw [hX]; exact hc s hs
 have hXm : (X : Int) % 256 = X := by omega
 obtain ⟨Z,hZ⟩ : ∃ Z : List Nat,Z = List.replicate 257 0 := ⟨_,rfl⟩
 have HLZ : Hid (Z.length = 257) := by show _ = _; rw [hZ,List.length_replicate]
 have hset : (sgA Z).setIfInBounds 0 (.int .u8 (X : Int)) = sgA (sgTo c (R.getD s []) X 0) := by rw [hZ,q8v]; exact q3F X
 have hsz : (sgA Z).size = 257 := by rw [qi]; exact HLZ.out
 have hne : ¬ sgA Z = #[] := fun e => by rw [e] at hsz; cases hsz
 obtain ⟨Y,hY⟩ : ∃ Y,Y = sigP R c s := ⟨_,rfl⟩
 rw [← hY]
 have HYE : Hid (sgTo c (R.getD s []) X K = Y) := by show _ = _; rw [hY,hX,← hrl]; exact q9K R c s
 have HLT : Hid (∀ k,k ≤ K → (sgTo c (R.getD s []) X k).length = 257) := fun k hk => q9L (by omega) (by omega)
 have HNX : Hid (∀ k,k < K → (sgTo c (R.getD s []) X k).set (1 + k) (c.getD ((R.getD s []).getD k 0) 0) = sgTo c (R.getD s []) X (k + 1)) := fun k hk => q8u (by omega) (by omega)
 have HLR : Hid (∀ k,k < K → (R.getD s []).getD k 0 < n) := fun k hk => hR.lt s k hs hk
 rw [← hZ] at hz
 obtain ⟨X0,hX0⟩ : ∃ X0,X0 = sgTo c (R.getD s []) X 0 := ⟨_,rfl⟩
 rw [← hX0] at hset
 have hs0 : (sgA X0).size = 257 := by rw [qi,hX0]; exact HLT.out 0 (Nat.zero_le _)
 have HX0 : Hid (X0 = sgTo c (R.getD s []) X 0) := hX0
 have hsc : c.map Int.ofNat = c.map Int.ofNat := rfl
 have HHC : Hid _ := hC
 have HCL : Hid _ := hcl
 have HCC : Hid _ := hc
 have W1 : Hid (Below w.heap.size w ((w.alloc (.cells #[.slice aA n cA,.slice aT n cT] 126 (0,0))).alloc (.cells (sgA Z) 144 (0,0)))) := q7 (q5 w _) (q5 _ _)
 have hix := fun w' => hC.idx n s w' hs (Nat.le_refl _)
 have hce := (hC.up W1.out).cell s hs
 rw [qD (by omega),← hX] at hce
 have h2 : SgB ((w.alloc (.cells #[.slice aA n cA,.slice aT n cT] 126 (0,0))).alloc (.cells (sgA Z) 144 (0,0))) (w.heap.size + 1) Z := by
  have := (MapKept.heap_alloc (w.alloc (.cells #[.slice aA n cA,.slice aT n cT] 126 (0,0))) (.cells (sgA Z) 144 (0,0))).1
  simpa [SgB] using this
 have h3 : SgB (((w.alloc (.cells #[.slice aA n cA,.slice aT n cT] 126 (0,0))).alloc (.cells (sgA Z) 144 (0,0))).alloc (.cells (sgA Z) 144 (0,0))) (w.heap.size + 2) Z := by
  have := (MapKept.heap_alloc ((w.alloc (.cells #[.slice aA n cA,.slice aT n cT] 126 (0,0))).alloc (.cells (sgA Z) 144 (0,0))) (.cells (sgA Z) 144 (0,0))).1
  simpa [SgB] using this
 have hl0 : X0.length = 257 := by rw [hX0]; exact HLT.out 0 (Nat.zero_le _)
 have hst := h3.cells HLZ.out hl0
 have hb4 : Below w.heap.size w ((((w.alloc (.cells #[.slice aA n cA,.slice aT n cT] 126 (0,0))).alloc (.cells (sgA Z) 144 (0,0))).alloc (.cells (sgA Z) 144 (0,0))).setRow (w.heap.size + 2) (sgA X0)) := qz (q7 W1.out (q5 _ _)) (by omega) _
 have HBA : Hid (Below w.heap.size w ((((w.alloc (.cells #[.slice aA n cA,.slice aT n cT] 126 (0,0))).alloc (.cells (sgA Z) 144 (0,0))).alloc (.cells (sgA Z) 144 (0,0))).setRow (w.heap.size + 2) (sgA X0))) := hb4
 have HV2 : Hid (SgB ((((w.alloc (.cells #[.slice aA n cA,.slice aT n cT] 126 (0,0))).alloc (.cells (sgA Z) 144 (0,0))).alloc (.cells (sgA Z) 144 (0,0))).setRow (w.heap.size + 2) (sgA X0)) (w.heap.size + 2) X0) := h3.row
 have HV1 : Hid (SgB ((((w.alloc (.cells #[.slice aA n cA,.slice aT n cT] 126 (0,0))).alloc (.cells (sgA Z) 144 (0,0))).alloc (.cells (sgA Z) 144 (0,0))).setRow (w.heap.size + 2) (sgA X0)) (w.heap.size + 1) Z) := (setRow_other _ _ _ _ (by omega)).trans (h2.up (q5 _ _))
 have HM1 : MvB ((((w.alloc (.cells #[.slice aA n cA,.slice aT n cT] 126 (0,0))).alloc (.cells (sgA Z) 144 (0,0))).alloc (.cells (sgA Z) 144 (0,0))).setRow (w.heap.size + 2) (sgA X0)) w.heap.size (.slice aA n cA) (.slice aT n cT) := (setRow_other _ _ _ _ (by omega)).trans (((q11 w (.slice aA n cA) (.slice aT n cT)).up (q5 _ (.cells (sgA Z) 144 (0,0)))).up (q5 _ (.cells (sgA Z) 144 (0,0))))
 have m1 := HM1.c1
 obtain ⟨rg,ro,rz,ra,rl,rc,hrx,hrc,hrz⟩ := hM.row hs
 have hrc := q8 hrc (hb4)
 have hrlen : rl = K := by have := hrz.hlen; rw [List.length_map,hrl] at this; exact this.symm
 subst hrlen
 have HRZ : Hid (ZSl w ra rl rc ((R.getD s []).map Int.ofNat)) := hrz
 clear h2 h3 hb4 hl0
 generalize adOf aC s = ad at *
 obtain ⟨ag,ao,az⟩ := ad
 clear hC hcl hc hY hX hZ hX0 hM hR hrl HM1 W1 hrz hsc
 go_enter Try.func95,Try.ntmps95
 go_wp2
 generalize hwo : (((w.alloc (.cells #[.slice aA n cA,.slice aT n cT] 126 (0,0))).alloc (.cells (sgA Z) 144 (0,0))).alloc (.cells (sgA Z) 144 (0,0))).setRow (w.heap.size + 2) (sgA X0) = w4 at *
 clear hwo hst hset hs0 hce m1 hrc hix hrx hz hne hsz hXm
 go_loopw [22] (fun i wr => ∃ k : Nat,k ≤ rl ∧ i = .int .i64 (k : Int) ∧ Hid (SgB wr (w.heap.size + 2) (sgTo c (R.getD s []) X k)) ∧ Hid (SgB wr (w.heap.size + 1) Z) ∧ Hid (Below w.heap.size w wr)) (fun i _ => rl - (intOf i).toNat)
 case atStart => exact ⟨0,Nat.zero_le _,rfl,by rw [← HX0.out]; exact HV2,HV1,HBA⟩
 case round =>
  obtain ⟨k,hk,rfl,HV,HZ,HB⟩ := hrel
  clear HV2 HV1 HBA
  by_cases hlt : k < rl
  ·have hix := fun w' => HRZ.out.idx rl k w' hlt (Nat.le_refl _)
   have hce := (HRZ.out.up HB.out).cell k hlt
   have hrk : k < (R.getD s []).length := by have := HRZ.out.hlen; rw [List.length_map] at this; omega
   rw [qD hrk] at hce
   have htn := HLR.out k hlt
   have HNN : Hid _ := HNX.out k hlt
   generalize (R.getD s []).getD k 0 = t at *
   have hit := fun w' => HHC.out.idx n t w' htn (Nat.le_refl _)
   have hct := (HHC.out.up HB.out).cell t htn
   rw [qD (by have := HCL.out; omega)] at hct
   have hc8 := HCC.out t htn
   generalize c.getD t 0 = v at *
   have hvm : (v : Int) % 256 = v := by omega
   have his : ∀ w',(Instr.indexAt 144 (.pointer (some ⟨w.heap.size + 2,0,none⟩)) (.int .i64 (1 + (k : Int)))).run Try.prog w' = .ok (.pointer (some ⟨w.heap.size + 2,1 + k,none⟩)) w' := fun w' => by
    have := q7S (w.heap.size + 2) (1 + k) (by omega) w'
    simpa using this
   have hl1 := HLT.out k (by omega)
   obtain ⟨b,cb⟩ : ∃ b,wr.cell? ⟨w.heap.size + 2,1 + k,none⟩ = some (.int .u8 b) := ⟨_,(q6 HV.out (1 + k)).trans (q4B _ (by omega))⟩
   have zb : wr.frozen? ⟨w.heap.size + 2,1 + k,none⟩ = false := frozen_of_row _ _ _ _ _ HV.out
   have HV3 : Hid (SgB (wr.setCell ⟨w.heap.size + 2,1 + k,none⟩ (.int .u8 (v : Int))) (w.heap.size + 2) (sgTo c (R.getD s []) X (k + 1))) := by
    unfold SgB
    show _ = _
    rw [heap_setCell_same wr _ _ _ _ (.int .u8 (v : Int)) HV.out,q7e,HNN.out]
   have HZ3 : Hid (SgB (wr.setCell ⟨w.heap.size + 2,1 + k,none⟩ (.int .u8 (v : Int))) (w.heap.size + 1) Z) := (Below.heap_setCell _ _ _ _ (by dsimp only; omega)).trans HZ.out
   have HB3 : Hid (Below w.heap.size w (wr.setCell ⟨w.heap.size + 2,1 + k,none⟩ (.int .u8 (v : Int)))) := HB.out.setCell (by dsimp only; omega) _
   clear HV HZ HB HNN hl1 hrk
   generalize adOf ra k = ad1 at *
   obtain ⟨bg,bo,bz⟩ := ad1
   generalize adOf aC t = ad2 at *
   obtain ⟨dg,d0,dz⟩ := ad2
   go_wp2
   go_roundw
   case rel => exact ⟨k + 1,by omega,by go_num,HV3,HZ3,HB3⟩
   case measure => simp [intOf]; omega
  ·obtain rfl : k = rl := by omega
   have hv : SgB wr (w.heap.size + 2) Y := by have := HV.out; rw [HYE.out] at this; exact this
   have hly : Y.length = 257 := by rw [← HYE.out]; exact HLT.out k (Nat.le_refl _)
   have hsy : (sgA Y).size = 257 := by rw [qi]; exact hly
   have HVV : Hid _ := hv
   have HE : Hid (SigQ Y w (.returned (.agg (sgA Y))) (wr.setRow (w.heap.size + 1) (sgA Y))) := ⟨rfl,qz HB.out (by omega) _⟩
   have HVY : Hid (SgB (wr.setRow (w.heap.size + 1) (sgA Y)) (w.heap.size + 1) Y) := HZ.out.row
   have hst := HZ.out.store HLZ.out hly
   have hsc := HZ.out.cells HLZ.out hly
   have hld := hv.load hly
   clear HV HB hv hly HZ
   go_wp2
   refine wp_load_row 144 _ rfl (w.heap.size + 2) rfl 144 (sgA Y) (0,0) _ HVV.out Try.underlying144 rfl (by rw [hsy]; exact qk) ?_
   go_wp2
   refine bodyPost_ret (v := .agg (sgA Y)) ?_ rfl HE.out
   exact results_cell_row Try.results95 _ _ (w.heap.size + 1) 144 (sgA Y) (0,0) _ rfl HVY.out Try.underlying144 rfl (by rw [hsy]; exact qk)
def SgOk (xs : List Nat) : Prop := xs.length = 257 ∧ ∀ x ∈ xs,x < 256
def klSp (xs : List Nat) : Lit := .string (keyBytes (xs.map fun (x : Nat) => Lit.int .u8 (x : Int)))
theorem q40 {α β : Type} (f : α → Option β) (g : α → β) : ∀ (l : List α),(∀ a ∈ l,f a = some (g a)) → l.mapM f = some (l.map g)
 | [],_ => rfl
 | a :: l,h => by
  rw [List.mapM_cons,h a (by simp),q40 f g l (fun b hb => h b (by simp [hb]))]
  rfl
theorem q5o : Try.prog.keyType 144 = true := by kernel_rfl
theorem q6l : Try.prog.cellsOf 144 = 257 := by kernel_rfl
theorem q6m : Try.prog.cellsOf 5 = 1 := by kernel_rfl
theorem q4H : Keyed Try.prog 144 := Keyed.of_law (deep_law_laid q1N (m := 3) (by omega) (of_decide_eq_true (by kernel_rfl)) (by kernel_rfl) (by kernel_rfl))
theorem q5V {α β : Type} (g : α → β) : ∀ (l : List α),(l.map fun a => [g a]).flatten = l.map g
 | [] => rfl
 | a :: l => by rw [List.map_cons,List.flatten_cons,q5V g l]; rfl
theorem q26 (xs : List Nat) (h : SgOk xs) : keyOf Try.prog 144 (.agg (sgA xs)) = some (klSp xs) := by
 obtain ⟨hl,h8⟩ := h
 obtain ⟨n,hn⟩ := q1r
 have hk : Try.prog.keyLits (n + 2) 144 (sgA xs).toList = some (xs.map fun (x : Nat) => Lit.int .u8 (x : Int)) := by
  have hL : (sgA xs).toList.length = 257 := by rw [Array.length_toList,qi,hl]
  simp only [Program.keyLits,Try.underlying144]
  rw [if_pos (by rw [hL]; exact q6l.symm),q40 (g := fun i => [Lit.int .u8 ((xs.getD i 0 : Nat) : Int)]),Option.map_some,q5V]
  ·congr 1
   apply List.ext_getElem?
   intro i
   by_cases hi : i < 257
   ·simp [List.getElem?_map,hi,List.getD_eq_getElem?_getD,List.getElem?_eq_getElem (show i < xs.length by omega)]
   ·rw [List.getElem?_eq_none (by rw [List.length_map,List.length_range]; omega),List.getElem?_eq_none (by rw [List.length_map]; omega)]
  ·intro i hi
   have hi := List.mem_range.1 hi
   have hix : i < xs.length := by omega
   have e : ((sgA xs).toList.drop (i * Try.prog.cellsOf 5)).take (Try.prog.cellsOf 5) = [.int .u8 ((xs.getD i 0 : Nat) : Int)] := by
    rw [q6m,Nat.mul_one,List.drop_eq_getElem_cons (by omega)]
    simp [sgA,List.getD_eq_getElem?_getD,List.getElem?_eq_getElem hix]
   have hm : xs.getD i 0 < 256 := h8 _ (by rw [List.getD_eq_getElem?_getD,List.getElem?_eq_getElem hix]; exact List.getElem_mem hix)
   rw [e]
   simp only [Try.underlying5]
   rw [if_pos ⟨trivial,WalkArith.wf_u8 (by omega)⟩]
 unfold keyOf klSp
 rw [Try.underlying144,hn]
 have hf : Value.formed Try.prog 144 (.agg (sgA xs)) = true := by
  simp only [Value.formed,Try.underlying144,q6l,qi,hl]
  rfl
 simp only [q5o,hf,Bool.and_self,if_true]
 rw [show (Value.agg (sgA xs)).cells = sgA xs from rfl,hk]
 rfl
theorem q6s {x y : List Nat} (hx : SgOk x) (hy : SgOk y) (h : klSp x = klSp y) : x = y := by
 have := q4H.inj (q26 x hx) (by rw [h]; exact q26 y hy)
 injection this with this
 exact qaD this
theorem q3y (x : List Nat) : WideAt.IsKeyLit (klSp x) := trivial
def NumSg (w : World) (b n : Nat) (f : List Nat → Option Nat) : Prop :=
 ∃ D : DataW Unit,w.ownsMap Try.prog 144 (plainElem Try.prog 3) b n D ∧ Tidy D ∧ Maps.size D = n ∧ ∀ x,SgOk x → has D (klSp x) = (f x).isSome ∧ ∀ j,f x = some j → D.atKey (klSp x) (.lit (.int .i64 0)) = .lit (.int .i64 (j : Int))
theorem NumSg.lt {w : World} {b n : Nat} {f : List Nat → Option Nat} (h : NumSg w b n f) : b < w.heap.size := by
 obtain ⟨D,h,_⟩ := h; exact h.lt
theorem NumSg.far {w w' : World} {b n : Nat} {f : List Nat → Option Nat} (h : NumSg w b n f) (hb : w'.heap[b]? = w.heap[b]?) : NumSg w' b n f := by
 obtain ⟨D,⟨es,clock,h1,h2⟩,r⟩ := h
 exact ⟨D,⟨es,clock,hb.trans h1,h2⟩,r⟩
theorem NumSg.up {w w' : World} {b n : Nat} {f : List Nat → Option Nat} (h : NumSg w b n f) (hb : Below w.heap.size w w') : NumSg w' b n f := h.far (hb.block b h.lt)
theorem NumSg.alike {w : World} {b n : Nat} {f g : List Nat → Option Nat} (h : NumSg w b n f) (hg : ∀ x,SgOk x → f x = g x) : NumSg w b n g := by
 obtain ⟨D,h1,h2,h3,h4⟩ := h
 exact ⟨D,h1,h2,h3,fun x hx => by rw [← hg x hx]; exact h4 x hx⟩
theorem q42 (w : World) : NumSg (w.alloc (.map #[] 0)) w.heap.size 0 (fun _ => none) :=
 ⟨.map [],World.ownsMap_made _ _ _ _,tidy_empty,rfl,fun x _ => ⟨rfl,fun j hj => by cases hj⟩⟩
theorem NumSg.look {w : World} {b n : Nat} {f : List Nat → Option Nat} (h : NumSg w b n f) {x : List Nat} (hx : SgOk x) :
  (Instr.lookup 146 (.map (some b)) (.agg (sgA x)) true).run Try.prog w = .ok (.tuple #[.int .i64 (((f x).getD 0 : Nat) : Int),.bool (f x).isSome]) w := by
 obtain ⟨D,h1,h2,h3,h4⟩ := h
 obtain ⟨hh,ha⟩ := h4 x hx
 obtain ⟨v,ps,hrun,hv⟩ := h1.look_ok q4H Try.underlying146 (q1Q w) (plainElem_int Try.underlying3 (by decide)) (q26 x hx)
 obtain ⟨c,rfl,hc,hwc⟩ := plainElem_int_inv Try.underlying3 hv
 have hc' := congrArg Prod.fst hc
 rw [hrun,hh]
 cases hf : f x with
 | none =>
  rw [hf] at hh
  rw [atKey_of_not_has hh] at hc'
  injection hc' with hc'
  injection hc' with _ hc'
  subst hc'
  rfl
 | some j =>
  rw [ha j hf] at hc'
  injection hc' with hc'
  injection hc' with _ hc'
  subst hc'
  rfl
theorem NumSg.put {w : World} {b n : Nat} {f : List Nat → Option Nat} (h : NumSg w b n f) (hn : n ≤ 100000000) {x : List Nat} (hx : SgOk x) (hf : f x = none) (j : Nat) (hj : j ≤ 100000000) :
  ∃ w',(Instr.mapUpdate 146 (.map (some b)) (.agg (sgA x)) (.int .i64 (j : Int))).run Try.prog w = .ok () w' ∧ NumSg w' b (n + 1) (fun y => if y = x then some j else f y) ∧ w.grownBy w' (some b) := by
 obtain ⟨D,h1,h2,h3,h4⟩ := h
 obtain ⟨hh,_⟩ := h4 x hx
 rw [hf] at hh
 obtain ⟨w',hrun,hown,hg⟩ := h1.update q4H Try.underlying146 (by unfold maxLen; omega) (q26 x hx) (plainElem_int (a := (j : Int)) Try.underlying3 (WalkArith.wf_i64 (by omega)))
 refine ⟨w',hrun,⟨_,hown,h2.put (q3y x) _,?_,fun y hy => ?_⟩,hg⟩
 ·rw [size_put h2,hh,h3]; rfl
 ·dsimp only
  by_cases e : y = x
  ·subst e
   rw [if_pos rfl]
   refine ⟨has_put_same h2.isMap (q3y y) _,fun i hi => ?_⟩
   injection hi with hi
   subst hi
   exact atKey_put_same h2.isMap (q3y y) _ _
  ·have ne : klSp y ≠ klSp x := fun he => e (q6s hy hx he)
   rw [if_neg e,has_put_other ne]
   refine ⟨(h4 y hy).1,fun i hi => ?_⟩
   rw [atKey_put_other ne]
   exact (h4 y hy).2 i hi
theorem NumSg.len {w : World} {b n : Nat} {f : List Nat → Option Nat} (h : NumSg w b n f) (ty : TypeId) : (Builtin.len_ #[146] ty #[.map (some b)]).run Try.prog w = .ok (.int .i64 (n : Int)) w := by
 obtain ⟨D,h1,_,h3,_⟩ := h
 rw [h1.len Try.underlying146 ty,h3]
def posSg (L : List (List Nat)) (x : List Nat) : Option Nat := if x ∈ L then some (L.idxOf x) else none
theorem q1X {L : List (List Nat)} {x : List Nat} (h : x ∈ L) : posSg L x = some (L.idxOf x) := if_pos h
theorem q1h {L : List (List Nat)} {x : List Nat} (h : x ∉ L) : posSg L x = none := if_neg h
theorem q7J {L : List (List Nat)} {x : List Nat} (hx : x ∉ L) (y : List Nat) : (if y = x then some L.length else posSg L y) = posSg (L ++ [x]) y := by
 by_cases e : y = x
 ·subst e
  rw [if_pos rfl,q1X (by simp)]
  simp [List.idxOf_append,hx]
 ·rw [if_neg e]
  by_cases hm : y ∈ L
  ·rw [q1X hm,q1X (by simp [hm])]
   simp [List.idxOf_append,hm]
  ·rw [q1h hm,q1h (by simp [hm,e])]
end Go.Proofs.Ytcnkgokfjafgkaa
