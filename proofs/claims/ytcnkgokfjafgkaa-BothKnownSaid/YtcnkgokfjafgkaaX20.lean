/- Texts of the proof, put together: what it uses. -/
import Derived.Lib.QuietBelow
import Derived.BigQuiet
import Derived.Test.YtcnkgokfjafgkaaX05
import Derived.Test.YtcnkgokfjafgkaaX09
import Derived.Test.YtcnkgokfjafgkaaX12
import Derived.Test.YtcnkgokfjafgkaaX17
import Derived.Test.YtcnkgokfjafgkaaX18
import Derived.Test.YtcnkgokfjafgkaaX19
set_option maxRecDepth 100000
set_option maxHeartbeats 16000000
namespace Go.Proofs.Ytcnkgokfjafgkaa
open Go.RowKit Go.Maps
theorem q4a {D : PD} {w : World} {F : Nat → Prop} {T : List PrP} (h : PrS D w F T) (x : Nat × Nat) (n l : Nat) (hx : x.1 ≤ 1000 ∧ x.2 ≤ 1000) (hm : x ∈ pqP T) :
  Calls Try.prog 63 #[.pointer (some ⟨D.b,0,none⟩),.agg #[.int .i64 (x.1 : Int),.int .i64 (x.2 : Int),.int .i64 (n : Int),.int .u8 (l : Int)]] w fun e w' => e = .returned (.int .i64 (nmE T x : Int)) ∧ Below w.heap.size w w' := by
 have hb1 := q5 w (mtO (x.1,x.2,n,l))
 have h1 := h.up hb1
 obtain ⟨g,cap,hblk,hrow,hF⟩ := h1.read
 have c4 : (w.alloc (mtO (x.1,x.2,n,l))).cell? ⟨D.b,4,none⟩ = some (.map (some D.m)) := q6 hblk 4
 have hlk := fun k => (show NumB ((w.alloc (mtO (x.1,x.2,n,l))).drewN k) D.m T.length (posE T) from h1.num).look hx
 have HE : Hid (∀ nq,Below w.heap.size w ((w.alloc (mtO (x.1,x.2,n,l))).drewN nq)) := fun nq => below_drewN hb1 nq
 rw [show posE T x = some (nmE T x) from if_pos hm] at hlk
 generalize nmE T x = j at *
 clear h h1 hblk hrow hF hx hb1 hm
 generalize D.b = b at *
 generalize D.m = m at *
 unfold b2V at hlk
 unfold mtO at c4 HE hlk
 dsimp only [Option.getD,Option.isSome] at c4 HE hlk
 go_enter Try.func63,Try.ntmps63
 go_upto_region 15 with fail
 go_quiet (fail)
 go_wp2
 go_ret
 exact ⟨rfl,HE.out _⟩
def rwA2 (R R' : List (List Nat)) (K : Nat) (T : List PrP) (i k : Nat) : List Int := (List.range K).map fun l => if l < k then (nmE T (stp R R' (metE T i) l) : Int) else 0
theorem q99 (R R' : List (List Nat)) (K : Nat) (T : List PrP) (i k : Nat) : (rwA2 R R' K T i k).length = K := by simp [rwA2]
theorem q85 (R R' : List (List Nat)) (K : Nat) (T : List PrP) (i : Nat) : rwA2 R R' K T i 0 = List.replicate K 0 := by
 apply List.ext_getElem (by simp [rwA2])
 intro j h1 h2
 simp [rwA2]
theorem q98 (R R' : List (List Nat)) (K : Nat) (T : List PrP) (i : Nat) : rwA2 R R' K T i K = (rowEb R R' K T i).map Int.ofNat := by
 unfold rwA2 rowEb
 rw [List.map_map]
 refine List.map_congr_left fun l hl => ?_
 rw [if_pos (List.mem_range.1 hl)]; rfl
theorem q84 (R R' : List (List Nat)) {K : Nat} (T : List PrP) (i k : Nat) : (rwA2 R R' K T i k).set k (nmE T (stp R R' (metE T i) k) : Int) = rwA2 R R' K T i (k + 1) := by
 apply List.ext_getElem (by simp [rwA2])
 intro j h1 h2
 rw [List.getElem_set]
 simp only [rwA2,List.getElem_map,List.getElem_range]
 by_cases e : k = j
 ·subst e; rw [if_pos rfl,if_pos (by omega)]
 ·rw [if_neg e]
  by_cases e2 : j < k
  ·rw [if_pos e2,if_pos (by omega)]
  ·rw [if_neg e2,if_neg (by omega)]
theorem q6d {D : PD} {w : World} {F : Nat → Prop} {T : List PrP} (h : PrS D w F T) (i : Nat) (hi : i < T.length + 1) (hK : D.K ≤ 256) (hR : RowsP D.nA D.K D.R) (hR' : RowsP D.nB D.K D.R') (hA : D.nA ≤ 256) (hB : D.nB ≤ 256) (hm1 : (metE T i).1 < D.nA) (hm2 : (metE T i).2 < D.nB) (hal : ∀ l,l < D.K → stp D.R D.R' (metE T i) l ∈ pqP T) :
  Calls Try.prog 46 #[.pointer (some ⟨D.b,0,none⟩),.int .i64 (i : Int)] w fun e w' => Below w.heap.size w w' ∧ ∃ g,e = .returned (.slice (some ⟨g,0,none⟩) D.K D.K) ∧ w.heap.size ≤ g ∧ IzB w' g ((rowEb D.R D.R' D.K T i).map Int.ofNat) := by
 obtain ⟨Q,hQ⟩ : ∃ Q : Ending → World → Prop,Q = fun e w' => Below w.heap.size w w' ∧ ∃ g,e = .returned (.slice (some ⟨g,0,none⟩) D.K D.K) ∧ w.heap.size ≤ g ∧ IzB w' g ((rowEb D.R D.R' D.K T i).map Int.ofNat) := ⟨_,rfl⟩
 rw [← hQ]
 have HQ : Hid (∀ g wr,Below w.heap.size w wr → w.heap.size ≤ g → IzB wr g (rwA2 D.R D.R' D.K T i D.K) → Q (.returned (.slice (some ⟨g,0,none⟩) D.K D.K)) wr) := fun g wr hb hg hz => by rw [hQ]; exact ⟨hb,g,rfl,hg,by rw [← q98]; exact hz⟩
 have HAL : Hid _ := hal
 clear hal
 clear hQ
 obtain ⟨g,cap,hblk,hrow,hF⟩ := h.read
 obtain ⟨x,hx,hme⟩ := q5M hi
 obtain ⟨hgl,hix,e0,e1,_,_⟩ := q21 hrow hx
 have c5 : w.cell? ⟨D.b,5,none⟩ = some (.slice (some ⟨g,0,none⟩) (T.length + 1) cap) := q6 hblk 5
 have c2 : w.cell? ⟨D.b,2,none⟩ = some (.slice (some ⟨D.gA,0,none⟩) D.nA D.tA) := q6 hblk 2
 have c3 : w.cell? ⟨D.b,3,none⟩ = some (.slice (some ⟨D.gB,0,none⟩) D.nB D.tB) := q6 hblk 3
 have hx1 : x.1 < D.nA := by rw [hme] at hm1; exact hm1
 have hx2 : x.2.1 < D.nB := by rw [hme] at hm2; exact hm2
 obtain ⟨gi,ci,r1,hgi,s1,cu1,hcu1⟩ := h.rA.at hx1
 obtain ⟨gj,cj,r2,hgj,s2,cu2,hcu2⟩ := h.rB.at hx2
 have ixA := fun w' => qH D.gA D.nA D.tA x.1 hx1 w'
 have ixB := fun w' => qH D.gB D.nB D.tB x.2.1 hx2 w'
 have HI : Hid _ := h
 have HX : Hid (metE T i = (x.1,x.2.1)) := hme
 clear hblk hrow hF hx hm1 hm2 h
 generalize x.1 = p at *
 generalize x.2.1 = q at *
 have hbh := q5 w (.cells #[.int .i64 (p : Int),.int .i64 (q : Int)] 88 (0,0))
 have d2 := q8 c2 hbh
 have d3 := q8 c3 hbh
 have t1 := q8 r1 hbh
 have t2 := q8 r2 hbh
 have hn := (MapKept.heap_alloc w (.cells #[.int .i64 (p : Int),.int .i64 (q : Int)] 88 (0,0))).1
 have h0 : (w.alloc (.cells #[.int .i64 (p : Int),.int .i64 (q : Int)] 88 (0,0))).cell? ⟨w.heap.size,0,none⟩ = some (.int .i64 (p : Int)) := q6 hn 0
 have h1 : (w.alloc (.cells #[.int .i64 (p : Int),.int .i64 (q : Int)] 88 (0,0))).cell? ⟨w.heap.size,1,none⟩ = some (.int .i64 (q : Int)) := q6 hn 1
 have hmk := fun w => qR D.K (D.K : Int) rfl (by omega) w
 have HBH : Hid _ := hbh
 have HS1 : Hid (∀ wr,Below w.heap.size w wr → ∀ k,k < D.K → wr.cell? ⟨gi,k,none⟩ = some (.int .i64 ((trP D.R p k : Nat) : Int))) := fun wr hf k hk => q8 (s1 k hk) hf
 have HS2 : Hid (∀ wr,Below w.heap.size w wr → ∀ k,k < D.K → wr.cell? ⟨gj,k,none⟩ = some (.int .i64 ((trP D.R' q k : Nat) : Int))) := fun wr hf k hk => q8 (s2 k hk) hf
 clear hbh hn s1 s2 hcu1 hcu2
 go_enter Try.func46,Try.ntmps46
 go_upto_region 15 with fail
 go_quiet (fail)
 have HB2 : Hid (Below w.heap.size w (((w.alloc (.cells #[.int .i64 (p : Int),.int .i64 (q : Int)] 88 (0,0))).drewN nq).alloc (.cells ((List.replicate D.K (0 : Int)).map (Value.int .i64)).toArray 3))) := q7 (below_drewN HBH.out nq) (q5 _ _)
 have HZ2 : Hid (IzB (((w.alloc (.cells #[.int .i64 (p : Int),.int .i64 (q : Int)] 88 (0,0))).drewN nq).alloc (.cells ((List.replicate D.K (0 : Int)).map (Value.int .i64)).toArray 3)) (w.heap.size + 1) (List.replicate D.K 0)) := by
  have := (MapKept.heap_alloc ((w.alloc (.cells #[.int .i64 (p : Int),.int .i64 (q : Int)] 88 (0,0))).drewN nq) (.cells ((List.replicate D.K (0 : Int)).map (Value.int .i64)).toArray 3)).1
  have e : ((w.alloc (.cells #[.int .i64 (p : Int),.int .i64 (q : Int)] 88 (0,0))).drewN nq).heap.size = w.heap.size + 1 := by simp
  rw [e] at this
  exact this
 clear c2 c3 r1 r2 d2 d3 t1 t2 h0 h1 hix ixA ixB e0 e1 c5
 go_wp2
 clear hmk
 rw [show ((List.replicate D.K (0 : Int)).map (Value.int .i64)).toArray = Array.replicate D.K (.int .i64 0) by simp] at HB2 HZ2
 generalize ((w.alloc (.cells #[.int .i64 (p : Int),.int .i64 (q : Int)] 88 (0,0))).drewN nq).alloc (.cells (Array.replicate D.K (.int .i64 0)) 3) = w2 at *
 rw [← q85 D.R D.R' D.K T i] at HZ2
 go_loopw [41] (fun v wr => ∃ (k : Nat),k ≤ D.K ∧ v = .int .i64 (k : Int) ∧ Hid (IzB wr (w.heap.size + 1) (rwA2 D.R D.R' D.K T i k)) ∧ Hid (Below w.heap.size w wr)) (fun v _ => D.K - (intOf v).toNat)
 case atStart => exact ⟨0,Nat.zero_le _,rfl,HZ2,HB2⟩
 case round =>
  clear HZ2 HB2
  obtain ⟨k,hk,rfl,HI2,HB⟩ := hrel
  by_cases hlt : k < D.K
  ·have hs1 := HS1.out wr HB.out k hlt
   have hs2 := HS2.out wr HB.out k hlt
   have ix1 := fun w' => qg gi D.K ci k hlt w'
   have ix2 := fun w' => qg gj D.K cj k hlt w'
   have ix3 := fun w' => qg (w.heap.size + 1) D.K D.K k hlt w'
   have jl0 := q4a (HI.out.up (w' := wr.drew) (HB.out.drew)) (stp D.R D.R' (metE T i) k) i k (by
    rw [HX.out]
    have a := hR.lt p k hx1 hlt
    have b := hR'.lt q k hx2 hlt
    dsimp only [stp]
    omega) (HAL.out k hlt)
   rw [HX.out] at jl0
   dsimp only [stp] at jl0
   obtain ⟨z,hz⟩ : ∃ z : Int,z = ((nmE T (trP D.R p k,trP D.R' q k) : Nat) : Int) := ⟨_,rfl⟩
   rw [← hz] at jl0
   have HNX : Hid _ := q84 D.R D.R' (K := D.K) T i k
   rw [HX.out] at HNX
   dsimp only [stp] at HNX
   rw [← hz] at HNX
   have jl : Calls Try.prog 63 #[.pointer (some ⟨D.b,0,none⟩),.agg #[.int .i64 ((trP D.R p k : Nat) : Int),.int .i64 ((trP D.R' q k : Nat) : Int),.int .i64 (i : Int),.int .u8 (k : Int)]] wr.drew fun e w9 => e = .returned (.int .i64 z) ∧ w9.cell? ⟨w.heap.size + 1,k,none⟩ = some (.int .i64 ((rwA2 D.R D.R' D.K T i k).getD k 0)) ∧ w9.frozen? ⟨w.heap.size + 1,k,none⟩ = false ∧ Hid (IzB (w9.setCell ⟨w.heap.size + 1,k,none⟩ (.int .i64 z)) (w.heap.size + 1) (rwA2 D.R D.R' D.K T i (k + 1))) ∧ Hid (Below w.heap.size w (w9.setCell ⟨w.heap.size + 1,k,none⟩ (.int .i64 z))) := by
    refine jl0.mono ?_
    rintro e w9 ⟨a1,a2⟩
    have hz9 := HI2.out.up (q7 ((Below.refl _ _).drew) a2)
    refine ⟨a1,hz9.cell (by rw [q99]; exact hlt),hz9.fz _,?_,?_⟩
    ·show IzB _ _ _
     rw [← HNX.out]; exact hz9.set _ _
    ·exact (q7 HB.out.drew a2).setCell (by dsimp only; omega) _
   have hw8 : IntKind.u8.wrap (k : Int) = (k : Int) := by rw [IntKind.wrap_u8]; omega
   clear jl0 hz HI2 HB HNX
   generalize (rwA2 D.R D.R' D.K T i k).getD k 0 = z0 at *
   generalize trP D.R p k = sp at *
   generalize trP D.R' q k = sq at *
   go_wp2
   go_region_law (first
    | (revert jl; intro jl; go_simp; (with_reducible refine jl.mono ?_); rintro e w9 ⟨rfl,k9,z9,HI9,HB9⟩; dsimp only)
    | fail)
   all_goals
    clear jl k9 z9
    go_wp2
    go_roundw
    case rel => exact ⟨k + 1,by omega,by go_num,HI9,HB9⟩
    case measure => simp [intOf]; omega
  ·obtain rfl : k = D.K := by omega
   have HE : Hid _ := HQ.out _ wr HB.out (by omega) HI2.out
   clear HQ HI2 HB
   go_wp2
   exact HE.out
theorem q7z : VdF 22 (fun x _ => !x) := ⟨fun _ _ => rfl,fun x y w => by
 go_enter Try.func22,Try.ntmps22
 go_wp2
 go_ret
 exact ⟨rfl,rfl⟩⟩
theorem q7x : VdF 23 (fun x y => x && y) := ⟨fun _ _ => rfl,fun x y w => by
 cases x <;>
 ·go_enter Try.func23,Try.ntmps23
  go_wp2
  go_ret
  exact ⟨rfl,rfl⟩⟩
theorem q8l : VdF 24 (fun x y => x || y) := ⟨fun _ _ => rfl,fun x y w => by
 cases x <;>
 ·go_enter Try.func24,Try.ntmps24
  go_wp2
  go_ret
  exact ⟨rfl,rfl⟩⟩
theorem q7y : VdF 34 (fun x y => x && !y) := ⟨fun _ _ => rfl,fun x y w => by
 cases x <;>
 ·go_enter Try.func34,Try.ntmps34
  go_wp2
  go_ret
  exact ⟨rfl,rfl⟩⟩
theorem q7A : VdF 25 (fun x y => x != y) := ⟨fun _ _ => rfl,fun x y w => by
 go_enter Try.func25,Try.ntmps25
 go_wp2
 go_ret
 exact ⟨by cases x <;> cases y <;> rfl,rfl⟩⟩
theorem q2z (p : Int) (aA : Option Addr) (nA cA : Nat) (aG : Option Addr) (nG cG : Nat) (aN : Option Addr) (nN cN : Nat) (q : Int) (bA : Option Addr) (mA dA : Nat) (bG : Option Addr) (mG dG : Nat) (bN : Option Addr) (mN dN : Nat) (bs cs : List Bool) (N : List Gd) (gs : List Int) (M : List Gd) (hs : List Int) (w : World)
  (hB : BoSl w aA nA cA bs) (hN : NdSl w aN nN cN N) (hG : ZSl w aG nG cG gs) (hok : ∀ z ∈ gs,I64 z) (kB : BoSl w bA mA dA cs) (kN : NdSl w bN mN dN M) (kG : ZSl w bG mG dG hs) (kok : ∀ z ∈ hs,I64 z) :
  Calls Try.prog 15 #[.agg #[.int .i64 p,.slice aA nA cA,.slice aG nG cG,.slice aN nN cN],.agg #[.int .i64 q,.slice bA mA dA,.slice bG mG dG,.slice bN mN dN]] w (SrR p nA bs N gs q mA cs M hs (fun x y => x != y) w) := by
 obtain ⟨Z,eZ⟩ : ∃ Z,Z = SrR p nA bs N gs q mA cs M hs (fun x y => x != y) w := ⟨_,rfl⟩
 obtain ⟨w2,hw2⟩ : ∃ w2,w2 = (w.alloc (.cells #[.int .i64 p,.slice aA nA cA,.slice aG nG cG,.slice aN nN cN] 26 (0,0))).alloc (.cells #[.int .i64 q,.slice bA mA dA,.slice bG mG dG,.slice bN mN dN] 26 (0,0)) := ⟨_,rfl⟩
 have hb2 : Below w.heap.size w w2 := by rw [hw2]; exact q7 (q5 w _) (q5 _ _)
 have HZ : Hid (∀ e w',SrR p nA bs N gs q mA cs M hs (fun x y => x != y) w2 e w' → (∃ a n c b z,e = .returned (.tuple #[.slice a n c,.bool b,.int .i64 z])) ∧ Z e w') := fun e w' h => by
  rw [eZ]
  obtain ⟨h1,⟨z,hz,rfl,h2⟩ | ⟨h2,h3,h4,ts,is,a,c,rfl,h5,h6⟩⟩ := h
  ·exact ⟨⟨_,_,_,_,_,rfl⟩,q7 hb2 h1,.inl ⟨z,hz,rfl,h2⟩⟩
  ·exact ⟨⟨_,_,_,_,_,rfl⟩,q7 hb2 h1,.inr ⟨h2,h3,h4,ts,is,a,c,rfl,h5,qy h6 hb2.size⟩⟩
 rw [← eZ]
 clear eZ
 have k0 : BkH w2 w.heap.size (auO (.int .i64 p) (.slice aA nA cA) (.slice aG nG cG) (.slice aN nN cN)) := by
  rw [hw2]; exact (qv w _).upB (q5 _ _)
 have k1 : BkH w2 (w.heap.size + 1) (auO (.int .i64 q) (.slice bA mA dA) (.slice bG mG dG) (.slice bN mN dN)) := by
  rw [hw2]; exact qh (by simp)
 have jc := q2c p aA nA cA aG nG cG aN nN cN q bA mA dA bG mG dG bN mN dN bs cs N gs M hs w2 (hB.up hb2) (hN.up hb2) (hG.up hb2) hok (kB.up hb2) (kN.up hb2) (kG.up hb2) kok q7A
 have HW2 : Hid _ := hw2
 obtain ⟨⟨s0,s1,s2,s3⟩,_⟩ := k0.cells4
 obtain ⟨⟨v0,v1,v2,v3⟩,_⟩ := k1.cells4
 unfold vdV at jc
 clear hB hN hG hok kB kN kG kok k1 hw2 hb2 k0
 go_enter Try.func15,Try.ntmps15
 go_wp2_with (rw [← HW2.out])
 refine jc.mono ?_
 intro e w3 h3
 obtain ⟨⟨a,n,c,b,z,rfl⟩,h4⟩ := HZ.out e w3 h3
 have HE : Hid _ := h4
 clear h3 h4 jc HZ s0 s1 s2 s3 v0 v1 v2 v3
 go_wp2
 go_ret3
 exact HE.out
def ImR (p : Int) (nA : Nat) (bs : List Bool) (N : List Gd) (gs : List Int) (q : Int) (nB : Nat) (cs : List Bool) (M : List Gd) (hs : List Int) (w : World) (e : Ending) (w' : World) : Prop :=
 Below w.heap.size w w' ∧ ∃ b z,e = .returned (.tuple #[.bool b,.int .i64 z]) ∧ ((z ≠ 0 ∧ b = false ∧ ((z = 12 ∧ ¬ (MayG p nA N gs ∧ MayG q nB M hs)) ∨ (z = 2 ∧ p ≠ q))) ∨ (z = 0 ∧ MayG p nA N gs ∧ MayG q nB M hs ∧ p = q ∧ (b = true ↔ ∀ u,LtT p u → acT p bs N gs u = true → acT p cs M hs u = true)))
theorem q3c (p : Int) (aA : Option Addr) (nA cA : Nat) (aG : Option Addr) (nG cG : Nat) (aN : Option Addr) (nN cN : Nat) (q : Int) (bA : Option Addr) (mA dA : Nat) (bG : Option Addr) (mG dG : Nat) (bN : Option Addr) (mN dN : Nat) (bs cs : List Bool) (N : List Gd) (gs : List Int) (M : List Gd) (hs : List Int) (w : World)
  (hB : BoSl w aA nA cA bs) (hN : NdSl w aN nN cN N) (hG : ZSl w aG nG cG gs) (hok : ∀ z ∈ gs,I64 z) (kB : BoSl w bA mA dA cs) (kN : NdSl w bN mN dN M) (kG : ZSl w bG mG dG hs) (kok : ∀ z ∈ hs,I64 z) :
  Calls Try.prog 18 #[.agg #[.int .i64 p,.slice aA nA cA,.slice aG nG cG,.slice aN nN cN],.agg #[.int .i64 q,.slice bA mA dA,.slice bG mG dG,.slice bN mN dN]] w (ImR p nA bs N gs q mA cs M hs w) := by
 obtain ⟨Z,eZ⟩ : ∃ Z,Z = ImR p nA bs N gs q mA cs M hs w := ⟨_,rfl⟩
 obtain ⟨w2,hw2⟩ : ∃ w2,w2 = (w.alloc (.cells #[.int .i64 p,.slice aA nA cA,.slice aG nG cG,.slice aN nN cN] 26 (0,0))).alloc (.cells #[.int .i64 q,.slice bA mA dA,.slice bG mG dG,.slice bN mN dN] 26 (0,0)) := ⟨_,rfl⟩
 have hb2 : Below w.heap.size w w2 := by rw [hw2]; exact q7 (q5 w _) (q5 _ _)
 have HZ : Hid (∀ e w',SrR p nA bs N gs q mA cs M hs (fun x y => x && !y) w2 e w' → ∃ a n c b z,e = .returned (.tuple #[.slice a n c,.bool b,.int .i64 z]) ∧ Z (.returned (.tuple #[.bool (z == 0 && !b),.int .i64 z])) w') := fun e w' h => by
  rw [eZ]
  obtain ⟨h1,⟨z,hz,rfl,h2⟩ | ⟨h2,h3,h4,ts,is,a,c,rfl,h5,h6⟩⟩ := h
  ·exact ⟨_,_,_,_,_,rfl,q7 hb2 h1,_,_,rfl,.inl ⟨hz,by simp [hz],h2⟩⟩
  ·refine ⟨_,_,_,_,_,rfl,q7 hb2 h1,_,_,rfl,.inr ⟨rfl,h2,h3,h4,?_⟩⟩
   rcases h5 with ⟨rfl,g1,g2,_⟩ | ⟨rfl,_,g2⟩
   ·refine ⟨fun h => by simp at h,fun h => ?_⟩
    simp only [sayT,Bool.and_eq_true,Bool.not_eq_true'] at g2
    rw [h ts g1 g2.1] at g2
    exact absurd g2.2 (by decide)
   ·refine ⟨fun _ u hu ha => ?_,fun _ => rfl⟩
    have := g2 u hu
    simp only [sayT] at this
    rw [ha] at this
    simpa using this
 rw [← eZ]
 clear eZ
 have k0 : BkH w2 w.heap.size (auO (.int .i64 p) (.slice aA nA cA) (.slice aG nG cG) (.slice aN nN cN)) := by
  rw [hw2]; exact (qv w _).upB (q5 _ _)
 have k1 : BkH w2 (w.heap.size + 1) (auO (.int .i64 q) (.slice bA mA dA) (.slice bG mG dG) (.slice bN mN dN)) := by
  rw [hw2]; exact qh (by simp)
 have jc := q2c p aA nA cA aG nG cG aN nN cN q bA mA dA bG mG dG bN mN dN bs cs N gs M hs w2 (hB.up hb2) (hN.up hb2) (hG.up hb2) hok (kB.up hb2) (kN.up hb2) (kG.up hb2) kok q7y
 have HW2 : Hid _ := hw2
 obtain ⟨⟨s0,s1,s2,s3⟩,_⟩ := k0.cells4
 obtain ⟨⟨v0,v1,v2,v3⟩,_⟩ := k1.cells4
 unfold vdV at jc
 clear hB hN hG hok kB kN kG kok k1 hw2 hb2 k0
 go_enter Try.func18,Try.ntmps18
 go_wp2_with (rw [← HW2.out])
 refine jc.mono ?_
 intro e w3 h3
 obtain ⟨a,n,c,b,z,rfl,h4⟩ := HZ.out e w3 h3
 have HE : Hid _ := h4
 clear h3 h4 jc HZ s0 s1 s2 s3 v0 v1 v2 v3
 by_cases hz : z = 0
 ·subst hz
  go_wp2
  exact HE.out
 ·have hz2 : (z == 0) = false := by simpa using hz
  rw [hz2] at HE
  go_wp2
  exact HE.out
def EqR (p : Int) (nA : Nat) (bs : List Bool) (N : List Gd) (gs : List Int) (q : Int) (nB : Nat) (cs : List Bool) (M : List Gd) (hs : List Int) (w : World) (e : Ending) (w' : World) : Prop :=
 Below w.heap.size w w' ∧ ∃ b z,e = .returned (.tuple #[.bool b,.int .i64 z]) ∧ ((z ≠ 0 ∧ b = false ∧ ((z = 12 ∧ ¬ (MayG p nA N gs ∧ MayG q nB M hs)) ∨ (z = 2 ∧ p ≠ q))) ∨ (z = 0 ∧ MayG p nA N gs ∧ MayG q nB M hs ∧ p = q ∧ (b = true ↔ ∀ u,LtT p u → acT p bs N gs u = acT p cs M hs u)))
theorem q3Y (p : Int) (aA : Option Addr) (nA cA : Nat) (aG : Option Addr) (nG cG : Nat) (aN : Option Addr) (nN cN : Nat) (q : Int) (bA : Option Addr) (mA dA : Nat) (bG : Option Addr) (mG dG : Nat) (bN : Option Addr) (mN dN : Nat) (bs cs : List Bool) (N : List Gd) (gs : List Int) (M : List Gd) (hs : List Int) (w : World)
  (hB : BoSl w aA nA cA bs) (hN : NdSl w aN nN cN N) (hG : ZSl w aG nG cG gs) (hok : ∀ z ∈ gs,I64 z) (kB : BoSl w bA mA dA cs) (kN : NdSl w bN mN dN M) (kG : ZSl w bG mG dG hs) (kok : ∀ z ∈ hs,I64 z) :
  Calls Try.prog 17 #[.agg #[.int .i64 p,.slice aA nA cA,.slice aG nG cG,.slice aN nN cN],.agg #[.int .i64 q,.slice bA mA dA,.slice bG mG dG,.slice bN mN dN]] w (EqR p nA bs N gs q mA cs M hs w) := by
 obtain ⟨Z,eZ⟩ : ∃ Z,Z = EqR p nA bs N gs q mA cs M hs w := ⟨_,rfl⟩
 have HZ : Hid (∀ e w',EqR p nA bs N gs q mA cs M hs w e w' → Z e w') := fun e w' h => by rw [eZ]; exact h
 rw [← eZ]
 clear eZ
 obtain ⟨w2,hw2⟩ : ∃ w2,w2 = (w.alloc (.cells #[.int .i64 p,.slice aA nA cA,.slice aG nG cG,.slice aN nN cN] 26 (0,0))).alloc (.cells #[.int .i64 q,.slice bA mA dA,.slice bG mG dG,.slice bN mN dN] 26 (0,0)) := ⟨_,rfl⟩
 have hb2 : Below w.heap.size w w2 := by rw [hw2]; exact q7 (q5 w _) (q5 _ _)
 have k0 : BkH w2 w.heap.size (auO (.int .i64 p) (.slice aA nA cA) (.slice aG nG cG) (.slice aN nN cN)) := by
  rw [hw2]; exact (qv w _).upB (q5 _ _)
 have k1 : BkH w2 (w.heap.size + 1) (auO (.int .i64 q) (.slice bA mA dA) (.slice bG mG dG) (.slice bN mN dN)) := by
  rw [hw2]; exact qh (by simp)
 have jc := q15 p aA nA cA aG nG cG aN nN cN q bA mA dA bG mG dG bN mN dN bs cs N gs M hs w2 (hB.up hb2) (hN.up hb2) (hG.up hb2) hok (kB.up hb2) (kN.up hb2) (kG.up hb2) kok
 have HW2 : Hid _ := hw2
 have HB2 : Hid _ := hb2
 obtain ⟨⟨s0,s1,s2,s3⟩,_⟩ := k0.cells4
 obtain ⟨⟨v0,v1,v2,v3⟩,_⟩ := k1.cells4
 clear hB hN hG hok kB kN kG kok k1 hw2 hb2 k0
 go_enter Try.func17,Try.ntmps17
 go_wp2_with (rw [← HW2.out])
 refine jc.mono ?_
 rintro e w3 ⟨hb3,⟨z,hz,rfl,hwhy⟩ | ⟨hM,kM,hpq,bs',gs',N',a1,c1,a2,c2,a3,c3,cs',hs',M',b1,d1,b2,d2,b3,d3,rfl,hMA,hO,hMB,hP⟩⟩
 ·have HE : Hid (∀ w',Below w3.heap.size w3 w' → Z (.returned (.tuple #[.bool false,.int .i64 z])) w') := fun w' hb => HZ.out _ _ ⟨q7 (q7 HB2.out hb3) hb,_,_,rfl,.inl ⟨hz,rfl,hwhy⟩⟩
  have hz2 : (z == 0) = false := by simpa using hz
  clear jc s0 s1 s2 s3 v0 v1 v2 v3 hwhy HZ
  go_wp2
  exact HE.out _ (q7 (q5 _ _) (q5 _ _))
 ·subst hpq
  obtain ⟨w4,hw4⟩ : ∃ w4,w4 = (w3.alloc (.cells #[.int .i64 p,.slice a1 bs'.length c1,.slice a2 bs'.length c2,.slice a3 N'.length c3] 26 (0,0))).alloc (.cells #[.int .i64 p,.slice b1 cs'.length d1,.slice b2 cs'.length d2,.slice b3 M'.length d3] 26 (0,0)) := ⟨_,rfl⟩
  have hb34 : Below w3.heap.size w3 w4 := by rw [hw4]; exact q7 (q5 w3 _) (q5 _ _)
  have kx : BkH w4 w3.heap.size (auO (.int .i64 p) (.slice a1 bs'.length c1) (.slice a2 bs'.length c2) (.slice a3 N'.length c3)) := by
   rw [hw4]; exact (qv w3 _).upB (q5 _ _)
  have ky : BkH w4 (w3.heap.size + 1) (auO (.int .i64 p) (.slice b1 cs'.length d1) (.slice b2 cs'.length d2) (.slice b3 M'.length d3)) := by
   rw [hw4]; exact qh (by simp)
  have hO4 := hO.up hb34
  have hP4 := hP.up hb34
  have js := q2C p a1 bs'.length c1 a2 bs'.length c2 a3 N'.length c3 p b1 cs'.length d1 b2 cs'.length d2 b3 M'.length d3 bs' gs' N' cs' hs' M' w4 hO4.bo hO4.zs hO4.nd hP4.bo hP4.zs hP4.nd
  have HE : Hid (∀ w',Below w4.heap.size w4 w' → Z (.returned (.tuple #[.bool (sameC p bs' gs' N' p cs' hs' M'),.int .i64 0])) w') := fun w' hb => HZ.out _ _ ⟨q7 (q7 (q7 HB2.out hb3) hb34) hb,_,_,rfl,.inr ⟨rfl,hM,kM,rfl,by
   rw [show (sameC p bs' gs' N' p cs' hs' M' = true) = (bs' = cs' ∧ gs' = hs' ∧ N' = M') by simp [sameC,and_assoc]]
   exact q5L hMA hM hMB kM⟩⟩
  obtain ⟨⟨xa0,xa1,xa2,xa3⟩,_⟩ := kx.cells4
  obtain ⟨⟨ya0,ya1,ya2,ya3⟩,_⟩ := ky.cells4
  have HW4 : Hid _ := hw4
  clear jc s0 s1 s2 s3 v0 v1 v2 v3 HZ hO hP hO4 hP4 hMA hMB hM kM kx ky hb3 hb34 hw4
  generalize sameC p bs' gs' N' p cs' hs' M' = sb at *
  go_wp2_with (rw [← HW4.out])
  refine js.mono ?_
  rintro e w5 ⟨rfl,hb5⟩
  have HE5 : Hid _ := HE.out w5 hb5
  clear js HE hb5 xa0 xa1 xa2 xa3 ya0 ya1 ya2 ya3
  go_wp2
  exact HE5.out
end Go.Proofs.Ytcnkgokfjafgkaa
namespace Go.Proofs.Ytcnkgokfjafgkaa
open Go.RowKit Go.Maps Go.Sort
theorem zlitP (w : World) (zs : List Int) (hl : zs.length ≤ 1000) : ZSl (w.alloc (.cells (zs.map (Value.int .i64)).toArray 3)) (some ⟨w.heap.size,0,none⟩) zs.length zs.length zs := by
 have h : RowI (w.alloc (.cells (zs.map (Value.int .i64)).toArray 3)) 3 w.heap.size zs := (MapKept.heap_alloc w _).1
 have := RowI.zsl (n := zs.length) h Try.underlying23 qf (Nat.le_refl _) (by unfold maxLen; omega)
 rwa [List.take_of_length_le (Nat.le_refl _)] at this
theorem blitP (w : World) (bs : List Bool) (hl : bs.length ≤ 1000) : BoSl (w.alloc (.cells (bs.map Value.bool).toArray 4)) (some ⟨w.heap.size,0,none⟩) bs.length bs.length bs := by
 have hc := (MapKept.heap_alloc w (.cells (bs.map Value.bool).toArray 4)).1
 refine ⟨rfl,Nat.le_refl _,by unfold maxLen; omega,fun e => (by cases e),fun x hx k hk => ?_⟩
 injection hx with hx; subst hx
 rw [q9,Nat.zero_add,q6 hc]
 simp [List.getElem?_eq_getElem hk]
theorem qao (w : World) (N : List Gd) (hl : N.length ≤ 1000) (hok : ∀ t ∈ N,GdOk t) : NdSl (w.alloc (.cells (encGd N).toArray 45)) (some ⟨w.heap.size,0,none⟩) N.length N.length N := by
 have hc := (MapKept.heap_alloc w (.cells (encGd N).toArray 45)).1
 have hcell : ∀ j u,(encGd N)[j]? = some u → (w.alloc (.cells (encGd N).toArray 45)).cell? ((⟨w.heap.size,0,none⟩ : Addr).add j) = some u := fun j u hj => by
  rw [q9,Nat.zero_add,q6 hc]; simpa using hj
 refine ⟨rfl,Nat.le_refl _,by unfold maxLen; omega,fun e => (by cases e),fun x hx k hk => ?_,fun x hx k hk => ?_,fun x hx k hk => ?_,hok⟩
 ·injection hx with hx; subst hx; exact hcell _ _ (qA N k hk).1
 ·injection hx with hx; subst hx; exact hcell _ _ (qA N k hk).2.1
 ·injection hx with hx; subst hx; exact hcell _ _ (qA N k hk).2.2
abbrev LtN (w : World) (a : Option Addr) (len cap : Nat) (ts : List Nat) : Prop := IntSl Try.prog 27 .u8 w a len cap (ts.map Int.ofNat)
theorem q9M {w : World} {base n : Nat} {a : Option Addr} {c : Nat} {ts : List Nat} (h : w.ownsRow base 34 1 (.slice a n c) n (ltV ts)) : LtN w a n c ts := by
 have h1 : w.ownsRow base 34 1 (.slice a n c) n ((ts.map Int.ofNat).map (Value.int .u8)) := by rw [List.map_map]; exact h
 obtain ⟨a',c',e,hS,_⟩ := q5c h1 Try.underlying27 q1L
 injection e with e1 _ e3
 subst e1; subst e3
 exact hS
theorem cn_ok : ∀ t ∈ cnN,GdOk t := fun t ht => by
 simp [cnN] at ht
 subst ht
 exact ⟨⟨by decide,by decide⟩,⟨by decide,by decide⟩,⟨by decide,by decide⟩⟩
end Go.Proofs.Ytcnkgokfjafgkaa
