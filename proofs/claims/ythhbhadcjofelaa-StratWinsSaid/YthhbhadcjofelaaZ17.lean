/- Texts of the proof, put together: what it uses. -/
import Derived.Test.YthhbhadcjofelaaZ00
import Derived.Test.YthhbhadcjofelaaZ08
set_option maxRecDepth 100000
set_option maxHeartbeats 16000000
namespace Go.Proofs.Ythhbhadcjofelaa
open Go.RowKit Go.Maps Go.Sort
theorem LtC.same {w : World} {a : Option Addr} {n c : Nat} {ts : List Nat} {a' : Option Addr} {n' c' : Nat} (h1 : LtC w a n c ts) (h2 : LtC w a' n' c' ts) : Calls Try.prog 39 #[.slice a n c,.slice a' n' c'] w fun e w' => e = .returned (.bool true) ∧ Below w.heap.size w w' :=
 (q2l a n c (ts.map Int.ofNat) a' n' c' (ts.map Int.ofNat) w h1 h2).mono fun e w' ⟨he,n,hw⟩ => by
  rw [decide_eq_true rfl] at he
  subst hw
  exact ⟨he,below_drewN (Below.refl _ _) n⟩
theorem ZSl.same {w : World} {a : Option Addr} {n c : Nat} {ts : List Int} {a' : Option Addr} {n' c' : Nat} (h1 : ZSl w a n c ts) (h2 : ZSl w a' n' c' ts) : Calls Try.prog 19 #[.slice a n c,.slice a' n' c'] w fun e w' => e = .returned (.bool true) ∧ Below w.heap.size w w' :=
 (q2P a n c ts a' n' c' ts w h1 h2).mono fun e w' ⟨he,n,hw⟩ => by
  rw [decide_eq_true rfl] at he
  subst hw
  exact ⟨he,below_drewN (Below.refl _ _) n⟩
theorem q1j (aR : Option Addr) (nR cR : Nat) (aP : Option Addr) (nP cP : Nat) (aC : Option Addr) (nC cC : Nat) (bR : Option Addr) (mR dR : Nat) (bP : Option Addr) (mP dP : Nat) (bC : Option Addr) (mC dC : Nat) (x : SgX) (w : World) (hX : SgW w aR nR cR aP nP cP aC nC cC x) (hY : SgW w bR mR dR bP mP dP bC mC dC x) :
  Calls Try.prog 14 #[.agg #[.bool x.wins,.slice aR nR cR,.slice aP nP cP,.slice aC nC cC],.agg #[.bool x.wins,.slice bR mR dR,.slice bP mP dP,.slice bC mC dC]] w fun e w' => e = .returned (.bool true) ∧ Below w.heap.size w w' := by
 obtain ⟨Q,hQ⟩ : ∃ Q : Ending → World → Prop,Q = fun e w' => e = .returned (.bool true) ∧ Below w.heap.size w w' := ⟨_,rfl⟩
 have HQ : Hid (∀ w',Below w.heap.size w w' → Q (.returned (.bool true)) w') := fun w' h => by rw [hQ]; exact ⟨rfl,h⟩
 rw [← hQ]
 clear hQ
 obtain ⟨w1,hw1⟩ : ∃ w1,w1 = w.alloc (.cells #[.bool x.wins,.slice aR nR cR,.slice aP nP cP,.slice aC nC cC] 33 (0,0)) := ⟨_,rfl⟩
 have hb1 : Below w.heap.size w w1 := by rw [hw1]; exact qb _ _
 have hk1 : w1.heap[w.heap.size]? = some (.cells #[.bool x.wins,.slice aR nR cR,.slice aP nP cP,.slice aC nC cC] 33 (0,0)) := by rw [hw1]; exact (MapKept.heap_alloc w _).1
 have HW1 : Hid _ := hw1
 obtain ⟨w2,hw2⟩ : ∃ w2,w2 = w1.alloc (.cells #[.bool x.wins,.slice bR mR dR,.slice bP mP dP,.slice bC mC dC] 33 (0,0)) := ⟨_,rfl⟩
 have hb2 : Below w1.heap.size w1 w2 := by rw [hw2]; exact qb _ _
 have hk2 : w2.heap[w1.heap.size]? = some (.cells #[.bool x.wins,.slice bR mR dR,.slice bP mP dP,.slice bC mC dC] 33 (0,0)) := by rw [hw2]; exact (MapKept.heap_alloc w1 _).1
 have HW2 : Hid _ := hw2
 have hb02 : Below w.heap.size w w2 := q9 hb1 hb2
 have hk1' : w2.heap[w.heap.size]? = some (.cells #[.bool x.wins,.slice aR nR cR,.slice aP nP cP,.slice aC nC cC] 33 (0,0)) := (hb2.block _ (Array.getElem?_eq_some_iff.1 hk1).1).trans hk1
 have HC : Hid (∀ w',Below w2.heap.size w2 w' → w'.heap[w.heap.size]? = some (.cells #[.bool x.wins,.slice aR nR cR,.slice aP nP cP,.slice aC nC cC] 33 (0,0)) ∧ w'.heap[w1.heap.size]? = some (.cells #[.bool x.wins,.slice bR mR dR,.slice bP mP dP,.slice bC mC dC] 33 (0,0)) ∧ SgW w' aR nR cR aP nP cP aC nC cC x ∧ SgW w' bR mR dR bP mP dP bC mC dC x ∧ Below w.heap.size w w') := fun w' hb =>
  ⟨(hb.block _ (Array.getElem?_eq_some_iff.1 hk1').1).trans hk1',(hb.block _ (Array.getElem?_eq_some_iff.1 hk2).1).trans hk2,(hX.up hb02).up hb,(hY.up hb02).up hb,q9 hb02 hb⟩
 have hPP : nP = mP := hX.lp.symm.trans hY.lp
 subst hPP
 have e0 : (x.wins != x.wins) = false := by simp
 have e9 : ((nP : Int) != (nP : Int)) = false := by simp
 clear hw1 hb1 hk1 hk1' hw2 hb2 hk2 hb02 hX hY
 generalize x.wins = xw at *
 obtain ⟨h1,h2,hx,hy,_⟩ := HC.out w2 (Below.refl _ _)
 have p0 := q8 h1 0
 have p1 := q8 h1 1
 have q0 := q8 h2 0
 have q1 := q8 h2 1
 have j := hx.r.same hy.r
 clear h1 h2 hx hy
 go_enter Try.func14,Try.ntmps14
 go_wp2_with (first | rw [← HW2.out] | rw [← HW1.out])
 refine j.mono ?_
 rintro e w3 ⟨rfl,hb⟩
 have HB3 : Hid (Below w2.heap.size w2 w3) := hb
 clear j hb p0 p1 q0 q1 HW1 HW2
 obtain ⟨h1,h2,hx,hy,_⟩ := HC.out w3 HB3.out
 have p3 := q8 h1 3
 have q3 := q8 h2 3
 have j := hx.c.same hy.c
 clear h1 h2 hx hy
 go_wp2_with fail
 refine j.mono ?_
 rintro e w4 ⟨rfl,hb⟩
 have HB4 : Hid (Below w2.heap.size w2 w4) := q9 HB3.out hb
 clear j hb p3 q3 HB3
 obtain ⟨h1,h2,hx,hy,_⟩ := HC.out w4 HB4.out
 have p2 := q8 h1 2
 have q2 := q8 h2 2
 have hnP : nP ≤ maxLen := by obtain ⟨rs,h,_⟩ := hx.p; exact Nat.le_trans h.hcap h.bd
 unfold maxLen at hnP
 clear h1 h2 hx hy
 go_wp2
 clear e0 e9 p2 q2
 go_loopw [5] (fun i wr => ∃ k : Nat,k ≤ nP ∧ i = .int .i64 (k : Int) ∧ Hid (Below w2.heap.size w2 wr)) (fun i _ => nP - (intOf i).toNat)
 case atStart => exact ⟨0,Nat.zero_le _,rfl,HB4⟩
 case round =>
  obtain ⟨k,hk,rfl,HB⟩ := hrel
  obtain ⟨h1,h2,hx,hy,_⟩ := HC.out wr HB.out
  have p2 := q8 h1 2
  have q2 := q8 h2 2
  clear h1 h2
  by_cases hlt : k < nP
  ·have e1 : decide ((k : Int) < (nP : Int)) = true := decide_eq_true (by omega)
   obtain ⟨rs,hP,hrs⟩ := hx.p
   obtain ⟨ts,hT,hts⟩ := hy.p
   obtain ⟨g1,o1,s1,r1,hr1,i1,ce1,hz1,_⟩ := hP.at k hlt
   obtain ⟨g2,o2,s2,r2,hr2,i2,ce2,hz2,_⟩ := hT.at k hlt
   have e2 : r1.ts = r2.ts := by
    have a1 : (rs.map Lc.ts)[k]? = some r1.ts := by rw [List.getElem?_map,hr1]; rfl
    have a2 : (ts.map Lc.ts)[k]? = some r2.ts := by rw [List.getElem?_map,hr2]; rfl
    rw [hrs] at a1
    rw [hts,a1] at a2
    injection a2
   rw [e2] at hz1
   have cS : ∀ dd os,Calls Try.prog 39 #[.slice r1.a r1.len r1.cap,.slice r2.a r2.len r2.cap] (grow (redrawn wr dd) os) fun e w'' => e = .returned (.bool true) ∧ ∃ p : Regrown,w'' = grow (redrawn wr p.d) p.os := fun dd os => by
    have hb := below_regrown wr dd os
    refine (LtC.same (hz1.up hb) (hz2.up hb)).mono ?_
    rintro e w'' ⟨rfl,hq⟩
    exact ⟨rfl,regrown_of_below (q9 hb hq)⟩
   have HE : Hid (∀ dd os,Below w2.heap.size w2 (grow (redrawn wr dd) os)) := fun dd os => q9 HB.out (below_regrown wr dd os)
   have k1 := cell_regrown ce1
   have k2 := cell_regrown ce2
   have k3 := cell_regrown p2
   have k4 := cell_regrown q2
   clear hr1 hr2 ce1 ce2 hz1 hz2 HB hP hT hrs hts e2 hx hy
   go_upto_region 6 with fail
   refine wp_region_quiet_below (by kernel_rfl) (by kernel_rfl) ?_
   repeat (go_big_quiet_step (exact cS _ _))
   refine wpQuiet_nil ?_
   intro _ hw'
   obtain ⟨⟨dq,osq⟩,hw''⟩ := hw'
   subst hw''
   have HI3 : Hid _ := HE.out dq osq
   generalize grow (redrawn wr dq) osq = wx at *
   clear cS k1 k2 k3 k4 HE i1 i2 p2 q2
   go_wp2
   go_roundw
   case rel => exact ⟨k + 1,by omega,by go_num,HI3⟩
   case measure => simp [intOf]; omega
  ·obtain rfl : k = nP := by omega
   have e1 : decide ((k : Int) < (k : Int)) = false := by simp
   have HX : Hid _ := HQ.out wr (HC.out wr HB.out).2.2.2.2
   clear hx hy HB HQ
   go_wp2
   exact HX.out
theorem qg (w : World) (o1 o2 o3 : Obj) : (((w.alloc o1).alloc o2).alloc o3).heap[w.heap.size]? = some o1 ∧ (((w.alloc o1).alloc o2).alloc o3).heap[w.heap.size + 1]? = some o2 ∧ (((w.alloc o1).alloc o2).alloc o3).heap[w.heap.size + 1 + 1]? = some o3 ∧ Below w.heap.size w (((w.alloc o1).alloc o2).alloc o3) := by
 have e : ∀ (w : World) (o : Obj),(w.alloc o).heap.size = w.heap.size + 1 := fun w o => by simp
 have h1 := (MapKept.heap_alloc w o1).1
 have h2 := (MapKept.heap_alloc (w.alloc o1) o2).1
 have h3 := (MapKept.heap_alloc ((w.alloc o1).alloc o2) o3).1
 have b1 : Below w.heap.size w (w.alloc o1) := qb _ _
 have b2 : Below (w.alloc o1).heap.size (w.alloc o1) ((w.alloc o1).alloc o2) := qb _ _
 have b3 : Below ((w.alloc o1).alloc o2).heap.size ((w.alloc o1).alloc o2) (((w.alloc o1).alloc o2).alloc o3) := qb _ _
 refine ⟨?_,?_,?_,q9 (q9 b1 b2) b3⟩
 ·rw [b3.block _ (by rw [e,e]; omega),b2.block _ (by rw [e]; omega)]; exact h1
 ·rw [e] at h2
  rw [b3.block _ (by rw [e,e]; omega)]; exact h2
 ·rw [e,e] at h3; exact h3
theorem q48 (w : World) (g : Nat) (v0 v1 v2 v3 : Value) : (∀ k,k ≠ g → ((((w.setCell ⟨g,0,none⟩ v0).setCell ⟨g,1,none⟩ v1).setCell ⟨g,2,none⟩ v2).setCell ⟨g,3,none⟩ v3).heap[k]? = w.heap[k]?) ∧ ((((w.setCell ⟨g,0,none⟩ v0).setCell ⟨g,1,none⟩ v1).setCell ⟨g,2,none⟩ v2).setCell ⟨g,3,none⟩ v3).heap.size = w.heap.size := by
 refine ⟨fun k hk => ?_,by simp⟩
 rw [Below.heap_setCell _ _ _ _ (by exact hk),Below.heap_setCell _ _ _ _ (by exact hk),Below.heap_setCell _ _ _ _ (by exact hk),Below.heap_setCell _ _ _ _ (by exact hk)]
theorem q41 (w : World) :
  SgW ((((w.alloc (.cells #[.int .i64 1,.int .i64 (-1),.int .i64 0] 3)).alloc (.cells #[.int .u8 2,.int .u8 2] 27)).alloc (.cells #[.slice (some ⟨w.heap.size + 1,0,none⟩) 2 2,.slice none 0 0,.slice none 0 0] 31)).alloc (.cells #[.int .u8 0,.int .u8 0,.int .u8 0] 27))
   (some ⟨w.heap.size,0,none⟩) 3 3 (some ⟨w.heap.size + 1 + 1,0,none⟩) 3 3 (some ⟨w.heap.size + 1 + 1 + 1,0,none⟩) 3 3 unS ∧
  Below w.heap.size w ((((w.alloc (.cells #[.int .i64 1,.int .i64 (-1),.int .i64 0] 3)).alloc (.cells #[.int .u8 2,.int .u8 2] 27)).alloc (.cells #[.slice (some ⟨w.heap.size + 1,0,none⟩) 2 2,.slice none 0 0,.slice none 0 0] 31)).alloc (.cells #[.int .u8 0,.int .u8 0,.int .u8 0] 27)) := by
 have e : ∀ (w : World) (o : Obj),(w.alloc o).heap.size = w.heap.size + 1 := fun w o => by simp
 have b1 := zlitP w [1,-1,0] (by decide)
 have b2 := qs (w.alloc (.cells #[.int .i64 1,.int .i64 (-1),.int .i64 0] 3)) [2,2] (by decide)
 obtain ⟨w1,hw1⟩ : ∃ w1,w1 = w.alloc (.cells #[.int .i64 1,.int .i64 (-1),.int .i64 0] 3) := ⟨_,rfl⟩
 have s1 : w1.heap.size = w.heap.size + 1 := by rw [hw1]; exact e _ _
 have b1 : ZSl w1 (some ⟨w.heap.size,0,none⟩) 3 3 [1,-1,0] := by rw [hw1]; exact b1
 have l1 : Below w.heap.size w w1 := by rw [hw1]; exact qb _ _
 rw [← hw1] at b2 ⊢
 clear hw1
 rw [s1] at b2
 obtain ⟨w2,hw2⟩ : ∃ w2,w2 = w1.alloc (.cells #[.int .u8 2,.int .u8 2] 27) := ⟨_,rfl⟩
 have s2 : w2.heap.size = w.heap.size + 1 + 1 := by rw [hw2,e,s1]
 have b2 : LtC w2 (some ⟨w.heap.size + 1,0,none⟩) 2 2 [2,2] := by rw [hw2]; exact b2
 have l2 : Below w1.heap.size w1 w2 := by rw [hw2]; exact qb _ _
 rw [← hw2]
 clear hw2
 obtain ⟨w3,hw3⟩ : ∃ w3,w3 = w2.alloc (.cells #[.slice (some ⟨w.heap.size + 1,0,none⟩) 2 2,.slice none 0 0,.slice none 0 0] 31) := ⟨_,rfl⟩
 have s3 : w3.heap.size = w.heap.size + 1 + 1 + 1 := by rw [hw3,e,s2]
 have h3 : w3.heap[w2.heap.size]? = some (.cells #[.slice (some ⟨w.heap.size + 1,0,none⟩) 2 2,.slice none 0 0,.slice none 0 0] 31) := by rw [hw3]; exact (MapKept.heap_alloc w2 _).1
 have l3 : Below w2.heap.size w2 w3 := by rw [hw3]; exact qb _ _
 rw [← hw3]
 clear hw3
 rw [s2] at h3
 have nl : ∀ w,LtC w none 0 0 [] := fun w => qK
 have b3 : LlSl w3 (some ⟨w.heap.size + 1 + 1,0,none⟩) 3 3 [⟨some ⟨w.heap.size + 1,0,none⟩,2,2,[2,2]⟩,⟨none,0,0,[]⟩,⟨none,0,0,[]⟩] := by
  refine ⟨rfl,Nat.le_refl _,by decide,fun e => (by cases e),fun x hx k hk => ?_,fun r hr => ?_⟩
  ·injection hx with hx; subst hx
   have hk3 : k < 3 := hk
   rw [qf,Nat.zero_add]
   match k,hk3 with
   | 0,_ => exact q8 h3 0
   | 1,_ => exact q8 h3 1
   | 2,_ => exact q8 h3 2
  ·simp at hr
   rcases hr with rfl | rfl
   ·exact ⟨b2.up l3,fun z hz => by simp at hz; omega⟩
   ·exact ⟨nl _,fun z hz => by cases hz⟩
 have b4 := qs w3 [0,0,0] (by decide)
 rw [s3] at b4
 have l4 : Below w3.heap.size w3 (w3.alloc (.cells #[.int .u8 0,.int .u8 0,.int .u8 0] 27)) := qb _ _
 refine ⟨⟨((b1.up l2).up l3).up l4,fun z hz => ?_,⟨_,b3.up l4,rfl⟩,b4,fun z hz => ?_⟩,q9 (q9 (q9 l1 l2) l3) l4⟩
 ·simp [unS] at hz
  rcases hz with rfl | rfl | rfl <;> exact ⟨by decide,by decide⟩
 ·simp [unS] at hz; omega
theorem q1J (HS : Hid StgC) (b1 : Option Addr) (d1 : Nat) (b2 : Option Addr) (d2 : Nat) (b3 : Option Addr) (d3 : Nat) (w : World) (hX : AuX w b1 3 d1 b2 3 d2 b3 3 d3 uxB uxG uxN) (x y : Nat) (hx : x < 256) (hy : y < 256) (hs : x &&& y = 0 ∧ x ||| y = 3) (u : SgX) (hu : OfS uxT (acA uxB) 3 x y u) :
  Calls Try.prog 12 #[.agg #[.int .i64 2,.slice b1 3 d1,.slice b2 3 d2,.slice b3 3 d3],.agg #[.int .u8 (x : Int),.int .u8 (y : Int)]] w fun e w' => Below w.heap.size w w' ∧ ∃ aR nR cR aP nP cP aC nC cC,e = .returned (.tuple #[.agg #[.bool u.wins,.slice aR nR cR,.slice aP nP cP,.slice aC nC cC],.int .i64 0]) ∧ SgW w' aR nR cR aP nP cP aC nC cC u :=
 (HS.out.of 2 b1 3 d1 b2 3 d2 b3 3 d3 uxB uxN uxG x y w hX.bo hX.nd hX.zs q1u hx hy).mono fun e w' ⟨h1,aR,nR,cR,aP,nP,cP,aC,nC,cC,X,v,h2,h3,h4⟩ => by
  obtain ⟨rfl,h5⟩ := h3.out.real (ux_ok hs)
  obtain rfl := h5.uni hu
  exact ⟨h1,aR,nR,cR,aP,nP,cP,aC,nC,cC,h2,h4.out⟩
theorem q1Z (HS : Hid StgC) (b1 : Option Addr) (d1 : Nat) (b2 : Option Addr) (d2 : Nat) (b3 : Option Addr) (d3 : Nat) (w : World) (hX : AuX w b1 3 d1 b2 3 d2 b3 3 d3 uxB uxG uxN) (x y : Nat) (hx : x < 256) (hy : y < 256) (hs : x &&& y = 0 ∧ x ||| y = 3) (aR : Option Addr) (nR cR : Nat) (aP : Option Addr) (nP cP : Nat) (aC : Option Addr) (nC cC : Nat) (u : SgX) (hU : SgW w aR nR cR aP nP cP aC nC cC u) (hu : KeepS uxT (acA uxB) 3 x y u) (aM : Option Addr) (nM cM : Nat) (ms : List Nat) (hM : LtC w aM nM cM ms) (hms : ∀ z ∈ ms,z < 256) (hl : ms.length ≤ 1024) (l : List Nat) (hp : plyS uxT (acA uxB) x y u 0 ms = some l) :
  Calls Try.prog 17 #[.agg #[.int .i64 2,.slice b1 3 d1,.slice b2 3 d2,.slice b3 3 d3],.agg #[.int .u8 (x : Int),.int .u8 (y : Int)],.agg #[.bool u.wins,.slice aR nR cR,.slice aP nP cP,.slice aC nC cC],.slice aM nM cM] w fun e w' => Below w.heap.size w w' ∧ ∃ a c,e = .returned (.tuple #[.slice a l.length c,.int .i64 0]) ∧ ZSl w' a l.length c (l.map Int.ofNat) :=
 (HS.out.play 2 b1 3 d1 b2 3 d2 b3 3 d3 uxB uxN uxG x y aR nR cR aP nP cP aC nC cC u aM nM cM ms w hX.bo hX.nd hX.zs q1u hx hy hU hM hms).mono fun e w' ⟨h1,a,c,X,r,h2,h3,h4⟩ => by
  obtain ⟨rfl,rfl⟩ := h3.out.real (ux_ok hs) hu hl hp
  have h4 := h4.out
  rw [List.length_map] at h2 h4
  exact ⟨h1,a,c,h2,h4⟩
theorem qE (HS : Hid StgC) (w : World) : Calls Try.prog 24 #[] w fun e w' => e = .returned (.bool true) ∧ Below w.heap.size w w' := by
 obtain ⟨Q,hQ⟩ : ∃ Q : Ending → World → Prop,Q = fun e w' => e = .returned (.bool true) ∧ Below w.heap.size w w' := ⟨_,rfl⟩
 have HQ : Hid (∀ w',Below w.heap.size w w' → Q (.returned (.bool true)) w') := fun w' h => by rw [hQ]; exact ⟨rfl,h⟩
 rw [← hQ]
 clear hQ
 have j1 := qy w
 go_enter Try.func24,Try.ntmps24
 go_wp2_with fail
 refine j1.mono ?_
 rintro e w1 ⟨b1,d1,b2,d2,b3,d3,rfl,hX,hb1⟩
 have HB1 : Hid (Below w.heap.size w w1) := hb1
 have j2 := q1J HS b1 d1 b2 d2 b3 d3 w1 hX.out 1 2 (by decide) (by decide) ⟨by decide,by decide⟩ unS un_of
 clear j1 hX hb1
 go_wp2_with fail
 refine j2.mono ?_
 rintro e w2 ⟨hb2,aR,nR,cR,aP,nP,cP,aC,nC,cC,rfl,hU⟩
 have HB2 : Hid (Below w.heap.size w w2) := q9 HB1.out hb2
 have HU : Hid _ := hU
 obtain ⟨w3,hw3⟩ : ∃ w3,w3 = w2.alloc (.cells #[.bool unS.wins,.slice aR nR cR,.slice aP nP cP,.slice aC nC cC] 33 (0,0)) := ⟨_,rfl⟩
 have hb3 : Below w2.heap.size w2 w3 := by rw [hw3]; exact qb _ _
 have hk3 : w3.heap[w2.heap.size]? = some (.cells #[.bool unS.wins,.slice aR nR cR,.slice aP nP cP,.slice aC nC cC] 33 (0,0)) := by rw [hw3]; exact (MapKept.heap_alloc w2 _).1
 have HW3 : Hid _ := hw3
 have HK3 : Hid _ := hk3
 have HU3 : Hid _ := hU.up hb3
 have HB3 : Hid (Below w.heap.size w w3) := q9 HB2.out hb3
 have hlit := q41 w3
 obtain ⟨w4,hw4⟩ : ∃ w4,w4 = (((w3.alloc (.cells #[.int .i64 1,.int .i64 (-1),.int .i64 0] 3)).alloc (.cells #[.int .u8 2,.int .u8 2] 27)).alloc (.cells #[.slice (some ⟨w3.heap.size + 1,0,none⟩) 2 2,.slice none 0 0,.slice none 0 0] 31)).alloc (.cells #[.int .u8 0,.int .u8 0,.int .u8 0] 27) := ⟨_,rfl⟩
 rw [← hw4] at hlit
 obtain ⟨hV,hb4⟩ := hlit
 have HW4 : Hid _ := hw4
 obtain ⟨w5,hw5⟩ : ∃ w5,w5 = w4.alloc (.cells #[.bool true,.slice (some ⟨w3.heap.size,0,none⟩) 3 3,.slice (some ⟨w3.heap.size + 1 + 1,0,none⟩) 3 3,.slice (some ⟨w3.heap.size + 1 + 1 + 1,0,none⟩) 3 3] 33 (0,0)) := ⟨_,rfl⟩
 have hb5 : Below w4.heap.size w4 w5 := by rw [hw5]; exact qb _ _
 have hk5 : w5.heap[w4.heap.size]? = some (.cells #[.bool true,.slice (some ⟨w3.heap.size,0,none⟩) 3 3,.slice (some ⟨w3.heap.size + 1 + 1,0,none⟩) 3 3,.slice (some ⟨w3.heap.size + 1 + 1 + 1,0,none⟩) 3 3] 33 (0,0)) := by rw [hw5]; exact (MapKept.heap_alloc w4 _).1
 have HW5 : Hid _ := hw5
 have hb35 : Below w3.heap.size w3 w5 := q9 hb4 hb5
 have HB5 : Hid (Below w.heap.size w w5) := q9 HB3.out hb35
 have hk3' : w5.heap[w2.heap.size]? = _ := (hb35.block _ (Array.getElem?_eq_some_iff.1 hk3).1).trans hk3
 have HC : Hid (∀ w',Below w5.heap.size w5 w' → w'.heap[w2.heap.size]? = some (.cells #[.bool unS.wins,.slice aR nR cR,.slice aP nP cP,.slice aC nC cC] 33 (0,0)) ∧ w'.heap[w4.heap.size]? = some (.cells #[.bool true,.slice (some ⟨w3.heap.size,0,none⟩) 3 3,.slice (some ⟨w3.heap.size + 1 + 1,0,none⟩) 3 3,.slice (some ⟨w3.heap.size + 1 + 1 + 1,0,none⟩) 3 3] 33 (0,0)) ∧ SgW w' aR nR cR aP nP cP aC nC cC unS ∧ SgW w' (some ⟨w3.heap.size,0,none⟩) 3 3 (some ⟨w3.heap.size + 1 + 1,0,none⟩) 3 3 (some ⟨w3.heap.size + 1 + 1 + 1,0,none⟩) 3 3 unS ∧ Below w.heap.size w w') := fun w' hb =>
  ⟨(hb.block _ (Array.getElem?_eq_some_iff.1 hk3').1).trans hk3',(hb.block _ (Array.getElem?_eq_some_iff.1 hk5).1).trans hk5,(HU3.out.up hb35).up hb,(hV.up hb5).up hb,q9 HB5.out hb⟩
 clear j2 hb2 hU HU HU3 hk3 HK3 hk3' hb3 hw3 hw4 hw5 hb4 hb5 hk5 hV hb35 HB1 HB2 HB3 HB5
 go_upto_region 3 with (first | rw [← HW5.out] | rw [← HW4.out] | rw [← HW3.out])
 clear HW3 HW4 HW5
 generalize w2.heap.size = g2 at *
 generalize w4.heap.size = g4 at *
 generalize w3.heap.size = g3 at *
 have HT : Hid (∀ w',Below w5.heap.size w5 w' → w'.cell? ⟨g4,0,none⟩ = some (.bool true) ∧ w'.cell? ⟨g4,1,none⟩ = some (.slice (some ⟨g3,0,none⟩) 3 3) ∧ w'.cell? ⟨g4,2,none⟩ = some (.slice (some ⟨g3 + 1 + 1,0,none⟩) 3 3) ∧ w'.cell? ⟨g4,3,none⟩ = some (.slice (some ⟨g3 + 1 + 1 + 1,0,none⟩) 3 3)) := fun w' hb => by
  have h := (HC.out w' hb).2.1
  exact ⟨q8 h 0,q8 h 1,q8 h 2,q8 h 3⟩
 have HVU : Hid (∀ w',Below w5.heap.size w5 w' → SgW w' (some ⟨g3,0,none⟩) 3 3 (some ⟨g3 + 1 + 1,0,none⟩) 3 3 (some ⟨g3 + 1 + 1 + 1,0,none⟩) 3 3 unS) := fun w' hb => (HC.out w' hb).2.2.2.1
 have HPL : Hid (∀ (b1 : Option Addr) (d1 : Nat) (b2 : Option Addr) (d2 : Nat) (b3 : Option Addr) (d3 : Nat) (g : Nat) (wq : World),Below w5.heap.size w5 wq → AuX wq b1 3 d1 b2 3 d2 b3 3 d3 uxB uxG uxN → LtC wq (some ⟨g,0,none⟩) 2 2 [1,0] →
  Calls Try.prog 17 #[.agg #[.int .i64 2,.slice b1 3 d1,.slice b2 3 d2,.slice b3 3 d3],.agg #[.int .u8 1,.int .u8 2],.agg #[.bool true,.slice (some ⟨g3,0,none⟩) 3 3,.slice (some ⟨g3 + 1 + 1,0,none⟩) 3 3,.slice (some ⟨g3 + 1 + 1 + 1,0,none⟩) 3 3],.slice (some ⟨g,0,none⟩) 2 2] wq fun e w' => Below wq.heap.size wq w' ∧ ∃ a c,e = .returned (.tuple #[.slice a 2 c,.int .i64 0]) ∧ ZSl w' a 2 c [0,2]) := fun b1 d1 b2 d2 b3 d3 g wq hb hX hL =>
  q1Z HS b1 d1 b2 d2 b3 d3 wq hX 1 2 (by decide) (by decide) ⟨by decide,by decide⟩ _ _ _ _ _ _ _ _ _ unS (HVU.out wq hb) q2v _ 2 2 [1,0] hL (fun z hz => by simp at hz; omega) (by decide) [0,2] q5g
 have HBD : Hid (Below w5.heap.size w5 w5.drew) := (Below.refl _ _).drew
 have HBE : Hid (Below w5.heap.size w5 ((w5.alloc (.cells #[.int .u8 1,.int .u8 0] 27)).drew)) := q9 (qb w5 _) ((Below.refl _ _).drew)
 have HWE : Hid (LtC ((w5.alloc (.cells #[.int .u8 1,.int .u8 0] 27)).drew) (some ⟨w5.heap.size,0,none⟩) 2 2 [1,0]) := IntSl.up (qs w5 [1,0] (by decide)) ((Below.refl _ _).drew)
 have jUA := qy w5.drew
 have jUB := qy ((w5.alloc (.cells #[.int .u8 1,.int .u8 0] 27)).drew)
 obtain ⟨s0,s1,s2,s3⟩ := HT.out w5.drew HBD.out
 obtain ⟨t0,t1,t2,t3⟩ := HT.out _ HBE.out
 obtain ⟨q0,q1,q2,q3⟩ := HT.out (w5.alloc (.cells #[.int .u8 1,.int .u8 0] 27)) (qb _ _)
 obtain ⟨p0,p1,p2,p3⟩ := HT.out w5 (Below.refl _ _)
 go_cut [4,5] (fun u v wx => ∃ a c,u = .slice a 2 c ∧ v = .int .i64 0 ∧ Hid (ZSl wx a 2 c [0,2]) ∧ Hid (Below w5.heap.size w5 wx))
 case first => as_aux_lemma =>
  go_region_law (first
   | (revert HA9; intro HA9; go_simp; (with_reducible refine (HPL.out _ _ _ _ _ _ w9.heap.size (w9.alloc (.cells #[.int .u8 1,.int .u8 0] 27)) HA9.out HX9.out HW9.out).mono ?_); rintro e w10 ⟨hb10,a,c,rfl,hz⟩; have HB10 : Hid (Below w5.heap.size w5 w10) := q9 HA9.out hb10; have HZ10 : Hid (ZSl w10 a 2 c [0,2]) := hz; dsimp only)
   | (revert HB9; intro HB9; go_simp; (with_reducible refine (HPL.out _ _ _ _ _ _ w5.heap.size w9 HB9.out HX9.out HW9.out).mono ?_); rintro e w10 ⟨hb10,a,c,rfl,hz⟩; have HB10 : Hid (Below w5.heap.size w5 w10) := q9 HB9.out hb10; have HZ10 : Hid (ZSl w10 a 2 c [0,2]) := hz; dsimp only)
   | (revert jUA; intro jUA; go_simp; (with_reducible refine jUA.mono ?_); rintro e w9 ⟨b1,d1,b2,d2,b3,d3,rfl,hX,hb9⟩; have HA9 : Hid (Below w5.heap.size w5 (w9.alloc (.cells #[.int .u8 1,.int .u8 0] 27))) := q9 (q9 HBD.out hb9.out) (qb _ _); have HX9 : Hid (AuX (w9.alloc (.cells #[.int .u8 1,.int .u8 0] 27)) b1 3 d1 b2 3 d2 b3 3 d3 uxB uxG uxN) := hX.out.up (qb _ _); have HW9 : Hid (LtC (w9.alloc (.cells #[.int .u8 1,.int .u8 0] 27)) (some ⟨w9.heap.size,0,none⟩) 2 2 [1,0]) := qs w9 [1,0] (by decide); obtain ⟨u0,u1,u2,u3⟩ := HT.out w9 (q9 HBD.out hb9.out); obtain ⟨v0,v1,v2,v3⟩ := HT.out _ HA9.out; dsimp only)
   | (revert jUB; intro jUB; go_simp; (with_reducible refine jUB.mono ?_); rintro e w9 ⟨b1,d1,b2,d2,b3,d3,rfl,hX,hb9⟩; have HB9 : Hid (Below w5.heap.size w5 w9) := q9 HBE.out hb9.out; have HX9 : Hid (AuX w9 b1 3 d1 b2 3 d2 b3 3 d3 uxB uxG uxN) := hX.out; have HW9 : Hid (LtC w9 (some ⟨w5.heap.size,0,none⟩) 2 2 [1,0]) := IntSl.up HWE.out hb9.out; obtain ⟨u0,u1,u2,u3⟩ := HT.out w9 HB9.out; dsimp only)
   | fail)
  all_goals
   clear hb9 hX hb10 hz
   go_wp2_with fail
   go_meet
   exact ⟨_,_,rfl,rfl,HZ10,HB10⟩
 case rest =>
 obtain ⟨a5,c5,rfl,rfl,HZ6,HB6⟩ := hcut
 generalize wc = w6 at *
 clear jUA jUB s0 s1 s2 s3 t0 t1 t2 t3 q0 q1 q2 q3 p0 p1 p2 p3 HBD HBE HWE HT HVU HPL
 obtain ⟨h1,h2,hu,hv,hb6⟩ := HC.out w6 HB6.out
 have s0 := q8 h1 0
 have s1 := q8 h1 1
 have s2 := q8 h1 2
 have s3 := q8 h1 3
 have t0 := q8 h2 0
 have t1 := q8 h2 1
 have t2 := q8 h2 2
 have t3 := q8 h2 3
 have HB6w : Hid _ := hb6
 have j := q1j aR nR cR aP nP cP aC nC cC (some ⟨g3,0,none⟩) 3 3 (some ⟨g3 + 1 + 1,0,none⟩) 3 3 (some ⟨g3 + 1 + 1 + 1,0,none⟩) 3 3 unS w6 hu hv
 clear h1 h2 hu hv hb6 HC
 go_wp2_with fail
 refine j.mono ?_
 rintro e w7 ⟨rfl,hb⟩
 obtain ⟨w8,hw8⟩ : ∃ w8,w8 = w7.alloc (.cells #[.int .i64 0,.int .i64 2] 3) := ⟨_,rfl⟩
 have hl8 : ZSl w8 (some ⟨w7.heap.size,0,none⟩) 2 2 [0,2] := by rw [hw8]; exact zlitP w7 [0,2] (by decide)
 have hb8 : Below w7.heap.size w7 w8 := by rw [hw8]; exact qb _ _
 have HB8 : Hid (Below w.heap.size w w8) := q9 (q9 HB6w.out hb) hb8
 have HW8 : Hid _ := hw8
 have j3 := ZSl.same (HZ6.out.up (q9 hb hb8)) hl8
 clear j hb hw8 hl8 hb8 HB6w HZ6 s0 s1 s2 s3 t0 t1 t2 t3 HB6
 go_wp2_with (rw [← HW8.out])
 refine j3.mono ?_
 rintro e w9 ⟨rfl,hb⟩
 have HE : Hid _ := HQ.out w9 (q9 HB8.out hb)
 clear j3 hb HW8 HB8 HQ
 go_wp2
 exact HE.out
theorem q2R (HB : Hid BrdC) (HS : Hid StgC) (p : Int) (aA : Option Addr) (nA cA : Nat) (aG : Option Addr) (nG cG : Nat) (aN : Option Addr) (nN cN : Nat) (bs : List Bool) (gs : List Int) (N : List Gd) (x y : Nat) (aL : Option Addr) (nL cL : Nat) (zs : List Int) (w : World) (hB : BoSl w aA nA cA bs) (hG : ZSl w aG nG cG gs) (hN : NdSl w aN nN cN N) (hok : ∀ z ∈ gs,I64 z) (hx : x < 256) (hy : y < 256) (hL : ZSl w aL nL cL zs) :
  Calls Try.prog 4 #[.agg #[.int .i64 p,.slice aA nA cA,.slice aG nG cG,.slice aN nN cN],.agg #[.int .u8 (x : Int),.int .u8 (y : Int)],.slice aL nL cL] w fun e w' => e = .returned (.bool true) ∧ Below w.heap.size w w' := by
 obtain ⟨Q,hQ⟩ : ∃ Q : Ending → World → Prop,Q = fun e w' => e = .returned (.bool true) ∧ Below w.heap.size w w' := ⟨_,rfl⟩
 have HQ : Hid (∀ w',Below w.heap.size w w' → Q (.returned (.bool true)) w') := fun w' h => by rw [hQ]; exact ⟨rfl,h⟩
 rw [← hQ]
 clear hQ
 obtain ⟨w1,hw1⟩ : ∃ w1,w1 = w.alloc (.cells #[.int .i64 p,.slice aA nA cA,.slice aG nG cG,.slice aN nN cN] 26 (0,0)) := ⟨_,rfl⟩
 have hb1 : Below w.heap.size w w1 := by rw [hw1]; exact qb _ _
 have hA1 : AuB w1 w.heap.size p aA nA cA aG nG cG aN nN cN := by rw [hw1]; exact qj w p aA nA cA aG nG cG aN nN cN
 have HW1 : Hid _ := hw1
 obtain ⟨w2,hw2⟩ : ∃ w2,w2 = w1.alloc (.cells #[.int .u8 (x : Int),.int .u8 (y : Int)] 29 (0,0)) := ⟨_,rfl⟩
 have hb2 : Below w1.heap.size w1 w2 := by rw [hw2]; exact qb _ _
 have hk2 : w2.heap[w1.heap.size]? = some (.cells #[.int .u8 (x : Int),.int .u8 (y : Int)] 29 (0,0)) := by rw [hw2]; exact (MapKept.heap_alloc w1 _).1
 have HW2 : Hid _ := hw2
 have hb02 : Below w.heap.size w w2 := q9 hb1 hb2
 have HC : Hid (∀ w',Below w2.heap.size w2 w' → AuB w' w.heap.size p aA nA cA aG nG cG aN nN cN ∧ w'.heap[w1.heap.size]? = some (.cells #[.int .u8 (x : Int),.int .u8 (y : Int)] 29 (0,0)) ∧ BoSl w' aA nA cA bs ∧ NdSl w' aN nN cN N ∧ ZSl w' aG nG cG gs ∧ Below w.heap.size w w' ∧ ZSl w' aL nL cL zs) := fun w' hb =>
  ⟨(hA1.up hb2).up hb,(hb.block _ (Array.getElem?_eq_some_iff.1 hk2).1).trans hk2,(hB.up hb02).up hb,(hN.up hb02).up hb,(hG.up hb02).up hb,q9 hb02 hb,(hL.up hb02).up hb⟩
 have HOK : Hid _ := hok
 have HLG0 : Hid (gs.length = nG) := hG.hlen
 clear hB hG hN hL hok hw1 hb1 hA1 hw2 hb2 hk2 hb02
 have j := qE HS w2
 go_enter Try.func4,Try.ntmps4
 go_wp2_with (first | rw [← HW2.out] | rw [← HW1.out])
 refine j.mono ?_
 rintro e w3 ⟨rfl,hb⟩
 have HB3 : Hid (Below w2.heap.size w2 w3) := hb
 clear j hb HW1 HW2
 obtain ⟨⟨c0,c1,c2,c3⟩,hsp,_⟩ := HC.out w3 HB3.out
 have s0 := q8 hsp 0
 have s1 := q8 hsp 1
 have j := q13 p aA nA cA aG nG cG aN nN cN w3
 clear hsp
 by_cases hlg : lgB p nA nG nN = true
 ·rw [hlg] at j
  have HE : Hid (∀ w',Below w3.heap.size w3 w' → Q (.returned (.bool true)) w') := fun w' hb => HQ.out w' (HC.out w' (q9 HB3.out hb)).2.2.2.2.2.1
  clear hlg HQ
  go_wp2_with fail
  refine j.mono ?_
  rintro e w4 ⟨rfl,hb⟩
  have HF : Hid _ := HE.out w4 hb
  clear j hb HE
  go_wp2
  exact HF.out
 have hlg0 : lgB p nA nG nN = false := by simpa using hlg
 rw [hlg0] at j
 have HLG : Hid _ := q3I hlg0
 clear hlg hlg0
 go_wp2_with fail
 refine j.mono ?_
 rintro e w4 ⟨rfl,hb⟩
 have HB4 : Hid (Below w2.heap.size w2 w4) := q9 HB3.out hb
 clear j hb c0 c1 c2 c3 s0 s1 HB3
 obtain ⟨⟨c0,c1,c2,c3⟩,hsp,hbo,hnd,hzg,_⟩ := HC.out w4 HB4.out
 have s0 := q8 hsp 0
 have s1 := q8 hsp 1
 have j := HB.out.check p aA nA cA aG nG cG aN nN cN bs N gs x y w4 hbo hnd hzg HOK.out hx hy
 clear hsp hbo hnd hzg
 go_wp2_with fail
 refine j.mono ?_
 rintro e w5 ⟨hb,X,rfl,hX⟩
 have HB5 : Hid (Below w2.heap.size w2 w5) := q9 HB4.out hb
 clear j hb c0 c1 c2 c3 s0 s1 HB4
 by_cases hX0 : X = 0
 rotate_left
 ·have HE : Hid _ := HQ.out w5 (HC.out w5 HB5.out).2.2.2.2.2.1
  have e1 : (X != 0) = true := by simpa using hX0
  clear HQ hX hX0
  go_wp2
  exact HE.out
 subst hX0
 have HX : Hid (ChkN p nA bs N gs x y 0) := hX.out
 clear hX
 obtain ⟨hM,hbz,hsl⟩ := HX.out.okk
 have HM : Hid _ := hM
 have HSL : Hid _ := hsl
 have h1n : 0 < nA := by have := hM.s1; omega
 have hn10 : nA ≤ 10 := by have h2 := hM.s2; have := HLG.out.2.1; omega
 have hnG : nG = nA := HLG0.out.symm.trans hM.len
 subst hnG
 clear hM hsl
 obtain ⟨⟨c0,c1,c2,c3⟩,hsp,hbo,hnd,hzg,_⟩ := HC.out w5 HB5.out
 have s0 := q8 hsp 0
 have s1 := q8 hsp 1
 have j := HS.out.of p aA nG cA aG nG cG aN nN cN bs N gs x y w5 hbo hnd hzg HOK.out hx hy
 clear hsp hbo hnd hzg
 go_wp2_with fail
 refine j.mono ?_
 rintro e w6 ⟨hb,aR,nR,cR,aP,nP,cP,aC,nC,cC,X,u,rfl,hu,hU⟩
 obtain ⟨rfl,hof⟩ := hu.out.real HX.out
 have HT : Hid (InT (toS p N gs) nG x y) := qJ HM.out HSL.out
 have HKP : Hid (KeepS (toS p N gs) (acA bs) nG x y u) := hof.keeps HT.out
 have HR0 : Hid (u.wins = true → 1 ≤ u.r 0 ∧ u.r 0 < (nG : Int)) := fun hw => by
  have h1 := hof.rank.bd (q3h HT.out) (fun _ _ => q44) h1n
  have h2 : (0 : Int) ≤ u.r 0 := of_decide_eq_true (hof.win.symm.trans hw)
  have h3 : ¬ u.r 0 = 0 := fun h => by have h4 := h1.2.2.1 h; rw [show acA bs 0 = false from hbz] at h4; cases h4
  exact ⟨by omega,h1.2.1⟩
 have hRn : nR = nG := hU.out.r.hlen.symm.trans hof.rank.len
 subst hRn
 obtain ⟨w7,hw7⟩ : ∃ w7,w7 = w6.alloc (.cells #[.bool u.wins,.slice aR nR cR,.slice aP nP cP,.slice aC nC cC] 33 (0,0)) := ⟨_,rfl⟩
 have hb7 : Below w6.heap.size w6 w7 := by rw [hw7]; exact qb _ _
 have hk7 : w7.heap[w6.heap.size]? = some (.cells #[.bool u.wins,.slice aR nR cR,.slice aP nP cP,.slice aC nC cC] 33 (0,0)) := by rw [hw7]; exact (MapKept.heap_alloc w6 _).1
 have HW7 : Hid _ := hw7
 have HB7 : Hid (Below w2.heap.size w2 w7) := q9 (q9 HB5.out hb) hb7
 have HD : Hid (∀ w',Below w7.heap.size w7 w' → w'.heap[w6.heap.size]? = some (.cells #[.bool u.wins,.slice aR nR cR,.slice aP nP cP,.slice aC nC cC] 33 (0,0)) ∧ SgW w' aR nR cR aP nP cP aC nC cC u) := fun w' hb => ⟨(hb.block _ (Array.getElem?_eq_some_iff.1 hk7).1).trans hk7,(hU.out.up hb7).up hb⟩
 clear j hb c0 c1 c2 c3 s0 s1 HB5 hu hof hw7 hb7 hk7 hU
 obtain ⟨⟨c0,c1,c2,c3⟩,hsp,hbo,hnd,hzg,_⟩ := HC.out w7 HB7.out
 have s0 := q8 hsp 0
 have s1 := q8 hsp 1
 obtain ⟨hst,hsu⟩ := HD.out w7 (Below.refl _ _)
 have t0 := q8 hst 0
 have t1 := q8 hst 1
 have t2 := q8 hst 2
 have t3 := q8 hst 3
 have j := HS.out.check p aA nR cA aG nR cG aN nN cN bs N gs x y aR nR cR aP nP cP aC nC cC u w7 hbo hnd hzg HOK.out hx hy hsu
 clear hsp hbo hnd hzg hst hsu
 go_wp2_with (rw [← HW7.out])
 refine j.mono ?_
 rintro e w8 ⟨hb,b,X,rfl,hck⟩
 obtain ⟨rfl,hbk⟩ := hck.out.real HX.out
 obtain rfl := hbk.2 HKP.out
 have HB8 : Hid (Below w7.heap.size w7 w8) := hb
 clear j hb c0 c1 c2 c3 s0 s1 t0 t1 t2 t3 hck hbk HW7
 obtain ⟨⟨c0,c1,c2,c3⟩,_⟩ := HC.out w8 (q9 HB7.out HB8.out)
 have j := q1g p aA nR cA aG nR cG aN nN cN w8 h1n rfl
 go_wp2_with fail
 refine j.mono ?_
 rintro e w9 ⟨rfl,hb⟩
 have HB9 : Hid (Below w7.heap.size w7 w9) := q9 HB8.out hb
 clear j hb c0 c1 c2 c3 HB8
 obtain ⟨⟨c0,c1,c2,c3⟩,hsp,_,_,_,_,hzl⟩ := HC.out w9 (q9 HB7.out HB9.out)
 have s0 := q8 hsp 0
 have s1 := q8 hsp 1
 obtain ⟨hst,_⟩ := HD.out w9 HB9.out
 have t0 := q8 hst 0
 have t1 := q8 hst 1
 have e2 : ((nR : Int) != (nR : Int)) = false := by simp
 cases hw : u.wins with
 | true =>
  have j := qz HB x hx aL nL cL zs w9 hzl
  clear hsp hst hzl
  go_wp2_with fail
  refine j.mono ?_
  rintro e w10 ⟨hb,ma,mc,ms,rfl,hml,hm40,hms⟩
  have HB10 : Hid (Below w7.heap.size w7 w10) := q9 HB9.out hb
  clear j hb c0 c1 c2 c3 s0 s1 t0 t1 HB9 e2
  obtain ⟨⟨c0,c1,c2,c3⟩,hsp,hbo,hnd,hzg,_⟩ := HC.out w10 (q9 HB7.out HB10.out)
  have s0 := q8 hsp 0
  have s1 := q8 hsp 1
  obtain ⟨hst,hsu⟩ := HD.out w10 HB10.out
  have t0 := q8 hst 0
  have t1 := q8 hst 1
  have t2 := q8 hst 2
  have t3 := q8 hst 3
  have j := HS.out.play p aA nR cA aG nR cG aN nN cN bs N gs x y aR nR cR aP nP cP aC nC cC u ma ms.length mc ms w10 hbo hnd hzg HOK.out hx hy hsu hml.out (fun z hz => (hms.out z hz).1)
  rw [hw] at j
  clear hsp hbo hnd hzg hst hsu
  go_wp2_with fail
  refine j.mono ?_
  rintro e w11 ⟨hb,pa,pc,X,r,rfl,hp,hz⟩
  obtain ⟨l,hl,hA⟩ := KeepS.ply HKP.out HT.out h1n ms (fun m hm => by rw [hw]; exact hms.out m hm)
  obtain ⟨rfl,rfl⟩ := hp.out.real HX.out HKP.out (Nat.le_trans hm40 (by decide)) hl
  rw [List.length_map] at hz ⊢
  have HA : Hid _ := hA
  have HZ11 : Hid (ZSl w11 pa l.length pc (l.map Int.ofNat)) := hz.out
  have HB11 : Hid (Below w7.heap.size w7 w11) := q9 HB10.out hb
  have hl0 := hA.pos
  have hl1 := hA.le
  have ix0 : ∀ w',(Instr.indexAt 23 (.slice pa l.length pc) (.int .i64 0)).run Try.prog w' = .ok (.pointer (some (adOf pa 0))) w' := fun w' => hz.out.idx l.length 0 w' hl0 (Nat.le_refl _)
  have ce0 := hz.out.cell 0 hl0
  rw [qh hl0,hA.zero] at ce0
  clear j hb c0 c1 c2 c3 s0 s1 t0 t1 t2 t3 HB10 hp hl hA hz hml hms
  have e1 : ((l.length : Int) == 0) = false := beq_false_of_ne (by omega)
  have e2 : decide ((ms.length : Int) + 1 < (l.length : Int)) = false := decide_eq_false (by omega)
  generalize hm : ms.length = m at *
  generalize adOf pa 0 = ad at *
  obtain ⟨ad1,ad2,ad3⟩ := ad
  go_wp2
  clear e1 e2 ix0 ce0
  have HLW : Hid (Below w2.heap.size w2 w11) := q9 HB7.out HB11.out
  have HIX : Hid (∀ w',Below w11.heap.size w11 w' → ∀ i,i < l.length → (∀ w'',(Instr.indexAt 23 (.slice pa l.length pc) (.int .i64 (i : Int))).run Try.prog w'' = .ok (.pointer (some (adOf pa i))) w'') ∧ w'.cell? (adOf pa i) = some (.int .i64 ((l.getD i 0 : Nat) : Int))) := fun w' hb i hi => by
   have h := HZ11.out.up hb
   have hc := h.cell i hi
   rw [qh hi] at hc
   exact ⟨fun w'' => h.idx l.length i w'' hi (Nat.le_refl _),hc⟩
  have HRX : Hid (∀ w',Below w11.heap.size w11 w' → ∀ i,i < nR → (∀ w'',(Instr.indexAt 23 (.slice aR nR cR) (.int .i64 (i : Int))).run Try.prog w'' = .ok (.pointer (some (adOf aR i))) w'') ∧ w'.cell? (adOf aR i) = some (.int .i64 (u.r i))) := fun w' hb i hi => by
   have h := (HD.out w' (q9 HB11.out hb)).2.r
   exact ⟨fun w'' => h.idx nR i w'' hi (Nat.le_refl _),h.cell i hi⟩
  have HBX : Hid (∀ w',Below w11.heap.size w11 w' → ∀ i,i < nR → (∀ w'',(Instr.indexAt 22 (.slice aA nR cA) (.int .i64 (i : Int))).run Try.prog w'' = .ok (.pointer (some (adOf aA i))) w'') ∧ w'.cell? (adOf aA i) = some (.bool (acA bs i))) := fun w' hb i hi => by
   obtain ⟨_,_,hbo,_⟩ := HC.out w' (q9 HLW.out hb)
   exact hbo.getQ hi
  have HCX : Hid (∀ w',Below w11.heap.size w11 w' → w'.cell? ⟨w.heap.size,1,none⟩ = some (.slice aA nR cA) ∧ w'.cell? ⟨w6.heap.size,0,none⟩ = some (.bool u.wins) ∧ w'.cell? ⟨w6.heap.size,1,none⟩ = some (.slice aR nR cR)) := fun w' hb => by
   obtain ⟨⟨c0,c1,c2,c3⟩,_⟩ := HC.out w' (q9 HLW.out hb)
   obtain ⟨hst,_⟩ := HD.out w' (q9 HB11.out hb)
   exact ⟨c1,q8 hst 0,q8 hst 1⟩
  have HFIN : Hid (∀ w',Below w11.heap.size w11 w' → Q (.returned (.bool true)) w') := fun w' hb => HQ.out w' (HC.out w' (q9 HLW.out hb)).2.2.2.2.2.1
  clear HC HD HQ
  have hpl : l.length ≤ 1000 := by omega
  generalize hL : l.length = L at *
  have HL : Hid _ := hL
  have HMM : Hid _ := hm
  clear hL hm
  go_loopw [16] (fun i wr => ∃ k : Nat,k ≤ L ∧ i = .int .i64 (k : Int) ∧ Hid (Below w11.heap.size w11 wr)) (fun i _ => L - (intOf i).toNat)
  case atStart => exact ⟨0,Nat.zero_le _,rfl,Below.refl _ _⟩
  case round =>
   obtain ⟨k,hk,rfl,HB⟩ := hrel
   by_cases hlt : k < L
   ·have e1 : decide ((k : Int) < (L : Int)) = true := decide_eq_true (by omega)
    have hq := HA.out.lt k (by rw [HL.out]; exact hlt)
    obtain ⟨i1,k1⟩ := HIX.out wr HB.out k hlt
    obtain ⟨k2,k3,k4⟩ := HCX.out wr HB.out
    have d1 : decide (((l.getD k 0 : Nat) : Int) < 0) = false := decide_eq_false (by omega)
    have d2 : decide ((nR : Int) ≤ ((l.getD k 0 : Nat) : Int)) = false := decide_eq_false (by omega)
    have x1 := cell_regrown k1
    have x2 := cell_regrown k2
    have HE : Hid (∀ dd os,Below w11.heap.size w11 (grow (redrawn wr dd) os)) := fun dd os => q9 HB.out (below_regrown wr dd os)
    have HQL : Hid (l.getD k 0 = l.getD k 0) := rfl
    generalize hqq : l.getD k 0 = q at *
    have HQQ : Hid _ := hqq
    clear hqq HQL
    generalize hak : adOf pa k = ak at *
    have HAK : Hid _ := hak
    clear hak
    obtain ⟨ak1,ak2,ak3⟩ := ak
    go_upto_region 18 with fail
    refine wp_region_quiet_below (by kernel_rfl) (by kernel_rfl) ?_
    repeat (go_big_quiet_step (fail))
    refine wpQuiet_nil ?_
    intro _ hw'
    obtain ⟨⟨dq18,oq18⟩,hw''⟩ := hw'
    subst hw''
    have HB1 : Hid _ := HE.out dq18 oq18
    generalize grow (redrawn wr dq18) oq18 = wx at *
    clear x1 x2 HE k1 k2 k3 k4 HB d1 d2
    obtain ⟨_,k1⟩ := HIX.out wx HB1.out k hlt
    obtain ⟨k2,k3,k4⟩ := HCX.out wx HB1.out
    rw [hw] at k3
    rw [HAK.out,HQQ.out] at k1
    have x1 := cell_regrown k1
    have x2 := cell_regrown k2
    have x3 := cell_regrown k3
    have x4 := cell_regrown k4
    have HE : Hid (∀ dd os,Below w11.heap.size w11 (grow (redrawn wx dd) os)) := fun dd os => q9 HB1.out (below_regrown wx dd os)
    go_upto_region 20 with fail
    refine wp_region_quiet_below (by kernel_rfl) (by kernel_rfl) ?_
    repeat (go_big_quiet_step (fail))
    refine wpQuiet_nil ?_
    intro _ hw'
    obtain ⟨⟨dq20,oq20⟩,hw''⟩ := hw'
    subst hw''
    have HB2 : Hid _ := HE.out dq20 oq20
    generalize grow (redrawn wx dq20) oq20 = wy at *
    clear x1 x2 x3 x4 HE k1 k2 k3 k4 HB1
    obtain ⟨_,k1⟩ := HIX.out wy HB2.out k hlt
    obtain ⟨k2,k3,k4⟩ := HCX.out wy HB2.out
    rw [hw] at k3
    rw [HAK.out,HQQ.out] at k1
    have x1 := cell_regrown k1
    have x2 := cell_regrown k2
    have x3 := cell_regrown k3
    have x4 := cell_regrown k4
    have HE : Hid (∀ dd os,Below w11.heap.size w11 (grow (redrawn wy dd) os)) := fun dd os => q9 HB2.out (below_regrown wy dd os)
    by_cases hk0 : k = 0
    ·have d3 : decide ((0 : Int) < (k : Int)) = false := decide_eq_false (by omega)
     go_upto_region 22 with fail
     refine wp_region_quiet_below (by kernel_rfl) (by kernel_rfl) ?_
     repeat (go_big_quiet_step (fail))
     refine wpQuiet_nil ?_
     intro _ hw'
     obtain ⟨⟨dq22,oq22⟩,hw''⟩ := hw'
     subst hw''
     have HB3 : Hid _ := HE.out dq22 oq22
     generalize grow (redrawn wy dq22) oq22 = wz at *
     clear x1 x2 x3 x4 HE k1 k2 k3 k4 HB2
     go_wp2
     go_roundw
     case rel => exact ⟨k + 1,by omega,by go_num,HB3⟩
     case measure => simp [intOf]; omega
    ·obtain ⟨j,hj⟩ : ∃ j,k = j + 1 := ⟨k - 1,by omega⟩
     obtain ⟨i7,k7⟩ := HIX.out wy HB2.out j (by omega)
     have hq7 := HA.out.lt j (by rw [HL.out]; omega)
     obtain ⟨i6,k6⟩ := HRX.out wy HB2.out q hq
     obtain ⟨i8,k8⟩ := HRX.out wy HB2.out (l.getD j 0) hq7
     have hfa := HA.out.falls hw j (by rw [HL.out]; omega)
     rw [← hj,HQQ.out] at hfa
     have d3 : decide ((0 : Int) < (k : Int)) = true := decide_eq_true (by omega)
     have d6 : (k : Int) - 1 = (j : Int) := by omega
     have d7 : wrap64 (j : Int) = (j : Int) := qN (by omega)
     have d9 : 0 < k := by rw [hj]; exact Nat.succ_pos j
     have d8 : decide (0 < k) = true := decide_eq_true d9
     have HJ : Hid _ := hj
     clear hj hk0
     have d4 : decide (u.r (l.getD j 0) ≤ u.r q) = false := decide_eq_false (Int.not_le.2 hfa)
     have x6 := cell_regrown k6
     have x7 := cell_regrown k7
     have x8 := cell_regrown k8
     clear hfa
     generalize adOf aR q = rq at *
     obtain ⟨rq1,rq2,rq3⟩ := rq
     generalize adOf pa j = pq at *
     obtain ⟨pq1,pq2,pq3⟩ := pq
     generalize adOf aR (l.getD j 0) = rl at *
     obtain ⟨rl1,rl2,rl3⟩ := rl
     generalize u.r (l.getD j 0) = z1 at *
     generalize u.r q = z2 at *
     generalize l.getD j 0 = q2 at *
     go_upto_region 22 with fail
     refine wp_region_quiet_below (by kernel_rfl) (by kernel_rfl) ?_
     repeat (go_big_quiet_step (fail))
     refine wpQuiet_nil ?_
     intro _ hw'
     obtain ⟨⟨dq22,oq22⟩,hw''⟩ := hw'
     subst hw''
     clear x6 x7 x8 k6 k7 k8 i6 i7 i8 d3 d4 d6 d7 d8 d9
     have HB3 : Hid _ := HE.out dq22 oq22
     generalize grow (redrawn wy dq22) oq22 = wz at *
     clear x1 x2 x3 x4 HE k1 k2 k3 k4 HB2
     go_wp2
     go_roundw
     case rel => exact ⟨k + 1,by omega,by go_num,HB3⟩
     case measure => simp [intOf]; omega
   ·obtain rfl : k = L := by omega
    have e1 : decide ((k : Int) < (k : Int)) = false := by simp
    obtain ⟨k2,k3,k4⟩ := HCX.out wr HB.out
    rw [hw] at k3
    obtain ⟨j,hj⟩ : ∃ j,k = j + 1 := ⟨k - 1,by omega⟩
    obtain ⟨i7,k7⟩ := HIX.out wr HB.out j (by omega)
    obtain ⟨i8',k8⟩ := HRX.out wr HB.out 0 h1n
    have i8 : ∀ w'',(Instr.indexAt 23 (.slice aR nR cR) (.int .i64 0)).run Try.prog w'' = .ok (.pointer (some (adOf aR 0))) w'' := i8'
    clear i8'
    obtain ⟨i9,k9⟩ := HBX.out wr HB.out (l.getD j 0) (HA.out.lt j (by rw [HL.out]; omega))
    obtain ⟨hr1,hr2⟩ := HR0.out hw
    have hen := HA.out.ends hw
    rw [HL.out,show k - 1 = j by omega] at hen
    have x2 := cell_regrown k2
    have x3 := cell_regrown k3
    have x4 := cell_regrown k4
    have x7 := cell_regrown k7
    have x8 := cell_regrown k8
    have x9 := cell_regrown k9
    have d1 : decide ((1 : Int) ≤ u.r 0) = true := decide_eq_true hr1
    have d2 : decide (u.r 0 < (nR : Int)) = true := decide_eq_true hr2
    have d6 : (k : Int) - 1 = (j : Int) := by omega
    have d7 : wrap64 (j : Int) = (j : Int) := qN (by omega)
    have HE : Hid (∀ dd os,Q (.returned (.bool true)) (grow (redrawn wr dd) os)) := fun dd os => HFIN.out _ (q9 HB.out (below_regrown wr dd os))
    clear HFIN HB hr1 hr2 k7 k8 k9 hj
    generalize adOf pa j = pq at *
    obtain ⟨pq1,pq2,pq3⟩ := pq
    generalize adOf aR 0 = rq at *
    obtain ⟨rq1,rq2,rq3⟩ := rq
    generalize adOf aA (l.getD j 0) = bq at *
    obtain ⟨bq1,bq2,bq3⟩ := bq
    generalize acA bs (l.getD j 0) = ac at *
    generalize l.getD j 0 = q2 at *
    generalize u.r 0 = r0 at *
    by_cases hmr : (m : Int) < r0
    ·have d4 : decide ((m : Int) < r0) = true := decide_eq_true hmr
     go_upto_region 26 with fail
     refine wp_region_quiet_below (by kernel_rfl) (by kernel_rfl) ?_
     repeat (go_big_quiet_step (fail))
     refine wpQuiet_nil ?_
     intro _ hw'
     obtain ⟨⟨dq26,oq26⟩,hw''⟩ := hw'
     subst hw''
     have HF : Hid _ := HE.out dq26 oq26
     clear HE
     go_wp2
     exact HF.out
    ·have d4 : decide ((m : Int) < r0) = false := decide_eq_false hmr
     obtain rfl : ac = true := by
      rcases hen with h | h
      ·exact absurd h hmr
      ·exact h
     go_upto_region 26 with fail
     refine wp_region_quiet_below (by kernel_rfl) (by kernel_rfl) ?_
     repeat (go_big_quiet_step (fail))
     refine wpQuiet_nil ?_
     intro _ hw'
     obtain ⟨⟨dq26,oq26⟩,hw''⟩ := hw'
     subst hw''
     have HF : Hid _ := HE.out dq26 oq26
     clear HE
     go_wp2
     exact HF.out
 | false =>
  have j := qz HB y hy aL nL cL zs w9 hzl
  clear hsp hst hzl
  go_wp2_with fail
  refine j.mono ?_
  rintro e w10 ⟨hb,ma,mc,ms,rfl,hml,hm40,hms⟩
  have HB10 : Hid (Below w7.heap.size w7 w10) := q9 HB9.out hb
  clear j hb c0 c1 c2 c3 s0 s1 t0 t1 HB9 e2
  obtain ⟨⟨c0,c1,c2,c3⟩,hsp,hbo,hnd,hzg,_⟩ := HC.out w10 (q9 HB7.out HB10.out)
  have s0 := q8 hsp 0
  have s1 := q8 hsp 1
  obtain ⟨hst,hsu⟩ := HD.out w10 HB10.out
  have t0 := q8 hst 0
  have t1 := q8 hst 1
  have t2 := q8 hst 2
  have t3 := q8 hst 3
  have j := HS.out.play p aA nR cA aG nR cG aN nN cN bs N gs x y aR nR cR aP nP cP aC nC cC u ma ms.length mc ms w10 hbo hnd hzg HOK.out hx hy hsu hml.out (fun z hz => (hms.out z hz).1)
  rw [hw] at j
  clear hsp hbo hnd hzg hst hsu
  go_wp2_with fail
  refine j.mono ?_
  rintro e w11 ⟨hb,pa,pc,X,r,rfl,hp,hz⟩
  obtain ⟨l,hl,hA⟩ := KeepS.ply HKP.out HT.out h1n ms (fun m hm => by rw [hw]; exact hms.out m hm)
  obtain ⟨rfl,rfl⟩ := hp.out.real HX.out HKP.out (Nat.le_trans hm40 (by decide)) hl
  rw [List.length_map] at hz ⊢
  have HA : Hid _ := hA
  have HZ11 : Hid (ZSl w11 pa l.length pc (l.map Int.ofNat)) := hz.out
  have HB11 : Hid (Below w7.heap.size w7 w11) := q9 HB10.out hb
  have hl0 := hA.pos
  have hl1 := hA.le
  have ix0 : ∀ w',(Instr.indexAt 23 (.slice pa l.length pc) (.int .i64 0)).run Try.prog w' = .ok (.pointer (some (adOf pa 0))) w' := fun w' => hz.out.idx l.length 0 w' hl0 (Nat.le_refl _)
  have ce0 := hz.out.cell 0 hl0
  rw [qh hl0,hA.zero] at ce0
  clear j hb c0 c1 c2 c3 s0 s1 t0 t1 t2 t3 HB10 hp hl hA hz hml hms
  have e1 : ((l.length : Int) == 0) = false := beq_false_of_ne (by omega)
  have e2 : decide ((ms.length : Int) + 1 < (l.length : Int)) = false := decide_eq_false (by omega)
  generalize hm : ms.length = m at *
  generalize adOf pa 0 = ad at *
  obtain ⟨ad1,ad2,ad3⟩ := ad
  go_wp2
  clear e1 e2 ix0 ce0
  have HLW : Hid (Below w2.heap.size w2 w11) := q9 HB7.out HB11.out
  have HIX : Hid (∀ w',Below w11.heap.size w11 w' → ∀ i,i < l.length → (∀ w'',(Instr.indexAt 23 (.slice pa l.length pc) (.int .i64 (i : Int))).run Try.prog w'' = .ok (.pointer (some (adOf pa i))) w'') ∧ w'.cell? (adOf pa i) = some (.int .i64 ((l.getD i 0 : Nat) : Int))) := fun w' hb i hi => by
   have h := HZ11.out.up hb
   have hc := h.cell i hi
   rw [qh hi] at hc
   exact ⟨fun w'' => h.idx l.length i w'' hi (Nat.le_refl _),hc⟩
  have HRX : Hid (∀ w',Below w11.heap.size w11 w' → ∀ i,i < nR → (∀ w'',(Instr.indexAt 23 (.slice aR nR cR) (.int .i64 (i : Int))).run Try.prog w'' = .ok (.pointer (some (adOf aR i))) w'') ∧ w'.cell? (adOf aR i) = some (.int .i64 (u.r i))) := fun w' hb i hi => by
   have h := (HD.out w' (q9 HB11.out hb)).2.r
   exact ⟨fun w'' => h.idx nR i w'' hi (Nat.le_refl _),h.cell i hi⟩
  have HBX : Hid (∀ w',Below w11.heap.size w11 w' → ∀ i,i < nR → (∀ w'',(Instr.indexAt 22 (.slice aA nR cA) (.int .i64 (i : Int))).run Try.prog w'' = .ok (.pointer (some (adOf aA i))) w'') ∧ w'.cell? (adOf aA i) = some (.bool (acA bs i))) := fun w' hb i hi => by
   obtain ⟨_,_,hbo,_⟩ := HC.out w' (q9 HLW.out hb)
   exact hbo.getQ hi
  have HCX : Hid (∀ w',Below w11.heap.size w11 w' → w'.cell? ⟨w.heap.size,1,none⟩ = some (.slice aA nR cA) ∧ w'.cell? ⟨w6.heap.size,0,none⟩ = some (.bool u.wins) ∧ w'.cell? ⟨w6.heap.size,1,none⟩ = some (.slice aR nR cR)) := fun w' hb => by
   obtain ⟨⟨c0,c1,c2,c3⟩,_⟩ := HC.out w' (q9 HLW.out hb)
   obtain ⟨hst,_⟩ := HD.out w' (q9 HB11.out hb)
   exact ⟨c1,q8 hst 0,q8 hst 1⟩
  have HFIN : Hid (∀ w',Below w11.heap.size w11 w' → Q (.returned (.bool true)) w') := fun w' hb => HQ.out w' (HC.out w' (q9 HLW.out hb)).2.2.2.2.2.1
  clear HC HD HQ
  have hpl : l.length ≤ 1000 := by omega
  generalize hL : l.length = L at *
  have HL : Hid _ := hL
  have HMM : Hid _ := hm
  clear hL hm
  go_loopw [16] (fun i wr => ∃ k : Nat,k ≤ L ∧ i = .int .i64 (k : Int) ∧ Hid (Below w11.heap.size w11 wr)) (fun i _ => L - (intOf i).toNat)
  case atStart => exact ⟨0,Nat.zero_le _,rfl,Below.refl _ _⟩
  case round =>
   obtain ⟨k,hk,rfl,HB⟩ := hrel
   by_cases hlt : k < L
   ·have e1 : decide ((k : Int) < (L : Int)) = true := decide_eq_true (by omega)
    have hq := HA.out.lt k (by rw [HL.out]; exact hlt)
    obtain ⟨i1,k1⟩ := HIX.out wr HB.out k hlt
    obtain ⟨k2,k3,k4⟩ := HCX.out wr HB.out
    have d1 : decide (((l.getD k 0 : Nat) : Int) < 0) = false := decide_eq_false (by omega)
    have d2 : decide ((nR : Int) ≤ ((l.getD k 0 : Nat) : Int)) = false := decide_eq_false (by omega)
    have x1 := cell_regrown k1
    have x2 := cell_regrown k2
    have HE : Hid (∀ dd os,Below w11.heap.size w11 (grow (redrawn wr dd) os)) := fun dd os => q9 HB.out (below_regrown wr dd os)
    have HQL : Hid (l.getD k 0 = l.getD k 0) := rfl
    generalize hqq : l.getD k 0 = q at *
    have HQQ : Hid _ := hqq
    clear hqq HQL
    generalize hak : adOf pa k = ak at *
    have HAK : Hid _ := hak
    clear hak
    obtain ⟨ak1,ak2,ak3⟩ := ak
    go_upto_region 18 with fail
    refine wp_region_quiet_below (by kernel_rfl) (by kernel_rfl) ?_
    repeat (go_big_quiet_step (fail))
    refine wpQuiet_nil ?_
    intro _ hw'
    obtain ⟨⟨dq18,oq18⟩,hw''⟩ := hw'
    subst hw''
    have HB1 : Hid _ := HE.out dq18 oq18
    generalize grow (redrawn wr dq18) oq18 = wx at *
    clear x1 x2 HE k1 k2 k3 k4 HB d1 d2
    obtain ⟨_,k1⟩ := HIX.out wx HB1.out k hlt
    obtain ⟨k2,k3,k4⟩ := HCX.out wx HB1.out
    rw [hw] at k3
    rw [HAK.out,HQQ.out] at k1
    obtain ⟨i5,k5⟩ := HBX.out wx HB1.out q hq
    obtain ⟨i6,k6⟩ := HRX.out wx HB1.out q hq
    have hlo := (HA.out.lose hw).2 k (by rw [HL.out]; exact hlt)
    rw [HQQ.out] at hlo
    rw [hlo.1] at k5
    rw [hlo.2] at k6
    have x5 := cell_regrown k5
    have x6 := cell_regrown k6
    generalize adOf aA q = bq at *
    obtain ⟨bq1,bq2,bq3⟩ := bq
    generalize adOf aR q = rq at *
    obtain ⟨rq1,rq2,rq3⟩ := rq
    have x1 := cell_regrown k1
    have x2 := cell_regrown k2
    have x3 := cell_regrown k3
    have x4 := cell_regrown k4
    have HE : Hid (∀ dd os,Below w11.heap.size w11 (grow (redrawn wx dd) os)) := fun dd os => q9 HB1.out (below_regrown wx dd os)
    go_upto_region 20 with fail
    refine wp_region_quiet_below (by kernel_rfl) (by kernel_rfl) ?_
    repeat (go_big_quiet_step (fail))
    refine wpQuiet_nil ?_
    intro _ hw'
    obtain ⟨⟨dq20,oq20⟩,hw''⟩ := hw'
    subst hw''
    have HB2 : Hid _ := HE.out dq20 oq20
    generalize grow (redrawn wx dq20) oq20 = wy at *
    clear i5 i6 k5 k6 x5 x6 hlo
    clear x1 x2 x3 x4 HE k1 k2 k3 k4 HB1
    obtain ⟨_,k1⟩ := HIX.out wy HB2.out k hlt
    obtain ⟨k2,k3,k4⟩ := HCX.out wy HB2.out
    rw [hw] at k3
    rw [HAK.out,HQQ.out] at k1
    have x1 := cell_regrown k1
    have x2 := cell_regrown k2
    have x3 := cell_regrown k3
    have x4 := cell_regrown k4
    have HE : Hid (∀ dd os,Below w11.heap.size w11 (grow (redrawn wy dd) os)) := fun dd os => q9 HB2.out (below_regrown wy dd os)
    go_upto_region 22 with fail
    refine wp_region_quiet_below (by kernel_rfl) (by kernel_rfl) ?_
    repeat (go_big_quiet_step (fail))
    refine wpQuiet_nil ?_
    intro _ hw'
    obtain ⟨⟨dq22,oq22⟩,hw''⟩ := hw'
    subst hw''
    have HB3 : Hid _ := HE.out dq22 oq22
    generalize grow (redrawn wy dq22) oq22 = wz at *
    clear x1 x2 x3 x4 HE k1 k2 k3 k4 HB2
    go_wp2
    go_roundw
    case rel => exact ⟨k + 1,by omega,by go_num,HB3⟩
    case measure => simp [intOf]; omega
   ·obtain rfl : k = L := by omega
    have e1 : decide ((k : Int) < (k : Int)) = false := by simp
    obtain ⟨k2,k3,k4⟩ := HCX.out wr HB.out
    rw [hw] at k3
    have hle : (k : Int) = (m : Int) + 1 := by have := (HA.out.lose hw).1; rw [HL.out] at this; omega
    have e3 : ((k : Int) == (m : Int) + 1) = true := by rw [hle]; simp
    have HE : Hid _ := HFIN.out wr HB.out
    clear HFIN hle
    go_wp2
    exact HE.out
end Go.Proofs.Ythhbhadcjofelaa
