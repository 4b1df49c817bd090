/- Texts of the proof, put together: what it uses. -/
import Derived.Deep.DeepCutAuto
import Derived.Deep.RegionHeld3
import Derived.BigQuiet
import Derived.Deep.RegionLaw
import Derived.Test.YtcnkgokfjafgkaaZ02
import Derived.Test.YtcnkgokfjafgkaaZ04
set_option maxRecDepth 100000
set_option maxHeartbeats 16000000
namespace Go.Proofs.Ytcnkgokfjafgkaa
open Go.RowKit Go.Maps
def isB (m : Nat) (r : Int) : Bool := decide (r < 0) && decide (-1 - r < (m : Int))
theorem q1K (p0 : Int) (aA : Option Addr) (nA cA : Nat) (aG : Option Addr) (nG cG : Nat) (aN : Option Addr) (nN cN : Nat) (r : Int) (w : World) (hr : I64 r) :
  Calls Try.prog 66 #[.agg #[.int .i64 p0,.slice aA nA cA,.slice aG nG cG,.slice aN nN cN],.int .i64 r] w fun e w' => e = .returned (.bool (isB nA r)) ∧ Below w.heap.size w w' := by
 have HB0 : Hid _ := q5 w (.cells #[.int .i64 p0,.slice aA nA cA,.slice aG nG cG,.slice aN nN cN] 26 (0,0))
 obtain ⟨c0,c1,c2,c3⟩ := qj w p0 aA nA cA aG nG cG aN nN cN
 have HE : Hid (∀ nq,Below w.heap.size w ((w.alloc (.cells #[.int .i64 p0,.slice aA nA cA,.slice aG nG cG,.slice aN nN cN] 26 (0,0))).drewN nq)) := fun nq => below_drewN HB0.out nq
 obtain ⟨b,hb⟩ : ∃ b,b = isB nA r := ⟨_,rfl⟩
 rw [← hb]
 have jq := fun w => (q1L r w hr).mono (fun e w' h => (⟨h.1,0,h.2⟩ : e = .returned (.int .i64 (-1 - r)) ∧ ∃ n,w' = w.drewN n))
 have h0 := hr.1
 have h1 := hr.2
 clear hr
 by_cases hn : r < 0
 ·have d0 : decide (r < 0) = true := by simpa using hn
  have HX : Hid (b = decide (-1 - r < (nA : Int))) := by show _ = _; rw [hb]; simp [isB,hn]
  clear hb hn
  go_enter Try.func66,Try.ntmps66
  go_upto_region 15 with fail
  go_quiet ((go_at_call 80; exact Calls.quiet_of (jq _)))
  go_wp2
  go_ret
  exact ⟨by rw [HX.out]; rfl,HE.out _⟩
 ·have d0 : decide (r < 0) = false := by simpa using hn
  have HX : Hid (b = false) := by show _ = _; rw [hb]; simp [isB,hn]
  clear hb hn
  go_enter Try.func66,Try.ntmps66
  go_upto_region 15 with fail
  go_quiet (fail)
  go_wp2
  go_ret
  exact ⟨by rw [HX.out]; rfl,HE.out _⟩
structure MidG (w w6 : World) (g n g5 L c5 mb : Nat) (N : List Gd) (x : Gd) (v : Value) : Prop where
 blk : w6.heap[g]? = some (stO g n (.slice (some ⟨g5,0,none⟩) (L + 1) c5) mb)
 row : w6.ownsRow 0 45 3 (.slice (some ⟨g5,0,none⟩) (L + 1) c5) (L + 1) (encGd (N ++ [x]))
 num : NumG w6 mb L (posG N)
 os : w6.os = w.os
 tape : w6.tape = w.tape
 output : w6.output = w.output
 size : w.heap.size ≤ w6.heap.size
 keep : ∀ k,k < w.heap.size → k ≠ g → v.ownBlock ≠ some k → w6.heap[k]? = w.heap[k]?
 loc : v.ownBlock = some g5 ∨ w.heap.size ≤ g5
theorem qal {w w5 : World} {g n cap mb : Nat} {a : Option Addr} {N : List Gd} (h : StRG w g n a N.length cap mb N) (x : Gd) {g5 c5 : Nat}
  (hg : (w.alloc (ndO x)).drew.grownBy w5 (Value.slice a N.length cap).ownBlock) (ho : w5.ownsRow 0 45 3 (.slice (some ⟨g5,0,none⟩) (N.length + 1) c5) (N.length + 1) (encGd (N ++ [x])))
  (hl : (Value.slice a N.length cap).ownBlock = some g5 ∨ g5 = (w.alloc (ndO x)).drew.heap.size) :
  w5.heap[g]? = some (stO g n (.slice a N.length cap) mb) ∧ MidG w (w5.setCell ⟨g,2,none⟩ (.slice (some ⟨g5,0,none⟩) (N.length + 1) c5)) g n g5 N.length c5 mb N x (.slice a N.length cap) := by
 have hb1 := q5 w (ndO x)
 have hgl := (Array.getElem?_eq_some_iff.1 h.blk).1
 have hne := q2o h.row h.blk (fun cs e => by injection e with _ e _; exact absurd e (by decide))
 obtain ⟨es,cl,hmap⟩ := h.num.isMap
 have hnm := q2o h.row hmap (fun cs e => by cases e)
 have hmt : mb ≠ g := fun e => by rw [e,h.blk] at hmap; cases hmap
 have hz : (w.alloc (ndO x)).drew.heap.size = w.heap.size + 1 := by simp
 have st : ∀ k,k < w.heap.size → (Value.slice a N.length cap).ownBlock ≠ some k → w5.heap[k]? = w.heap[k]? := fun k hk hn => (hg.block k (by omega) (fun e => hn e.symm)).trans (hb1.block k hk)
 have h5 := (st g hgl hne).trans h.blk
 have hs5 := hg.size
 refine ⟨h5,⟨?_,?_,?_,hg.os,hg.tape,hg.output,?_,fun k hk hkt hkn => ?_,?_⟩⟩
 ·unfold stO at h5 ⊢
  rw [heap_setCell_same w5 g 2 _ _ _ h5]; rfl
 ·refine qb ho fun k hk => Below.heap_setCell _ _ _ _ ?_
  dsimp only
  rintro rfl
  simp [Value.ownBlock] at hk
  subst hk
  rcases hl with e | e
  ·exact hne e
  ·omega
 ·exact h.num.far ((Below.heap_setCell _ _ _ _ (by dsimp only; exact hmt)).trans (st mb h.num.lt hnm))
 ·simp; omega
 ·exact (Below.heap_setCell _ _ _ _ (by dsimp only; exact hkt)).trans (st k hk hkn)
 ·rcases hl with e | e
  ·exact .inl e
  ·right; omega
theorem q8n {w w6 w7 : World} {F : Nat → Prop} {g n cap mb : Nat} {a : Option Addr} {N : List Gd} (h : StG w F g n N) (hF : ∀ k,F k ↔ (k = g ∨ k = mb ∨ (Value.slice a N.length cap).ownBlock = some k)) {x : Gd} (hx : GdOk x) (hn : x ∉ N)
  {g5 c5 : Nat} (m : MidG w w6 g n g5 N.length c5 mb N x (.slice a N.length cap)) (hn7 : NumG w7 mb (N.length + 1) (fun y => if y = x then some N.length else posG N y)) (hg : w6.drew.grownBy w7 (some mb)) :
  ∃ F',StG w7 F' g n (N ++ [x]) ∧ Fr w w7 F F' := by
 have hsz := m.size
 have hs7 := hg.size
 have hs7' : w6.heap.size ≤ w7.heap.size := hs7
 obtain ⟨es,cl,hmap⟩ := m.num.isMap
 have hmt : g ≠ mb := fun e => by rw [← e,m.blk] at hmap; cases hmap
 have hnm := q2o m.row hmap (fun cs e => by cases e)
 have hgl := (Array.getElem?_eq_some_iff.1 m.blk).1
 have st : ∀ k,k < w6.heap.size → k ≠ mb → w7.heap[k]? = w6.heap[k]? := fun k hk hne => hg.block k hk (fun e => hne (by injection e))
 refine ⟨fun k => k = g ∨ k = mb ∨ (Value.slice (some ⟨g5,0,none⟩) (N.length + 1) c5).ownBlock = some k,⟨?_,?_,.slice (some ⟨g5,0,none⟩) (N.length + 1) c5,mb,(st g hgl hmt).trans m.blk,?_,?_,fun k => Iff.rfl⟩,?_⟩
 ·exact List.nodup_append.2 ⟨h.nd,by simp,fun a ha b hb => by simp at hb; subst hb; exact fun e => hn (e ▸ ha)⟩
 ·intro y hy
  rcases List.mem_append.1 hy with hy | hy
  ·exact h.ok y hy
  ·simp at hy; subst hy; exact hx
 ·rw [List.length_append]
  exact qb m.row fun k hk => st k (m.row.lt k hk).2 (fun e => hnm (e ▸ hk))
 ·rw [List.length_append]
  exact hn7.alike fun y _ => q57 hn y
 ·refine ⟨hg.os.trans m.os,hg.tape.trans m.tape,hg.output.trans m.output,by omega,fun k hk hf => ?_,fun k hk => ?_⟩
  ·have hf' := fun e => hf ((hF k).2 e)
   exact (st k (by omega) (fun e => hf' (Or.inr (Or.inl e)))).trans (m.keep k hk (fun e => hf' (Or.inl e)) (fun e => hf' (Or.inr (Or.inr e))))
  ·rcases hk with rfl | rfl | hk
   ·exact Or.inl ((hF k).2 (Or.inl rfl))
   ·exact Or.inl ((hF k).2 (Or.inr (Or.inl rfl)))
   ·simp [Value.ownBlock] at hk
    subst hk
    rcases m.loc with e | e
    ·exact Or.inl ((hF _).2 (Or.inr (Or.inr e)))
    ·exact Or.inr e
def PlR (g n : Nat) (N : List Gd) (x : Gd) (F : Nat → Prop) (w : World) (e : Ending) (w' : World) : Prop := e = .returned (.int .i64 (N.idxOf x : Int)) ∧ ∃ F',StG w' F' g n (if x ∈ N then N else N ++ [x]) ∧ Fr w w' F F'
theorem q4k {w : World} {F : Nat → Prop} {g n : Nat} {N : List Gd} (h : StG w F g n N) (x : Gd) (hx : GdOk x) (hN : N.length ≤ 1000000) :
  Calls Try.prog 87 #[.pointer (some ⟨g,0,none⟩),ndV x] w (PlR g n N x F w) := by
 obtain ⟨a,cap,mb,hr,hF⟩ := h.read
 have hb1 := q5 w (ndO x)
 have hr1 := hr.up hb1
 have c3 := hr1.c3
 have hlk := fun m => (show NumG ((w.alloc (ndO x)).drewN m) mb N.length (posG N) from hr1.num).look hx
 have HB1 : Hid _ := hb1
 have HR : Hid _ := hr
 have HF : Hid _ := hF
 have HI : Hid _ := h
 have HX : Hid _ := hx
 have hbx := (MapKept.heap_alloc w (ndO x)).1
 have HBX : Hid _ := hbx
 by_cases hm : x ∈ N
 ·have HE : Hid (∀ nq,PlR g n N x F w (.returned (.int .i64 (N.idxOf x : Int))) ((w.alloc (ndO x)).drewN nq)) := fun nq => by
   refine ⟨rfl,F,?_,Fr.ofBelow (below_drewN hb1 nq)⟩
   rw [if_pos hm]
   exact h.up (below_drewN hb1 nq)
  rw [qR hm] at hlk
  generalize PlR g n N x F w = Q at *
  generalize N.idxOf x = j at *
  clear h hr hr1 hF hx hb1 hbx hm HB1 HR HF HI HX HBX
  obtain ⟨P,lo,hi⟩ := x
  unfold ndV at hlk
  unfold ndO at c3 HE hlk
  dsimp only [Option.getD,Option.isSome] at c3 HE hlk
  unfold ndV
  dsimp only
  go_enter Try.func87,Try.ntmps87
  go_upto_region 15 with fail
  go_quiet (fail)
  go_wp2
  exact HE.out _
 ·have HNM : Hid _ := hm
  have HQ0 : Hid (∀ e w',(e = .returned (.int .i64 (N.length : Int)) ∧ ∃ F',StG w' F' g n (N ++ [x]) ∧ Fr w w' F F') → PlR g n N x F w e w') := fun e w' h => by
   unfold PlR
   rw [q3a hm,if_neg hm]; exact h
  rw [qM hm] at hlk
  generalize PlR g n N x F w = Q at *
  clear h hr hr1 hF hx hb1 hbx hm
  obtain ⟨P,lo,hi⟩ := x
  unfold ndV at hlk
  unfold ndO at c3 hlk HB1 HBX
  dsimp only [Option.getD,Option.isSome] at c3 hlk HB1 HBX
  unfold ndV
  dsimp only
  go_enter Try.func87,Try.ntmps87
  go_upto_region 15 with fail
  go_quiet (fail)
  have HBq : Hid _ := below_drewN HB1.out nq
  have hbq : ((w.alloc (.cells #[.int .i64 P,.int .i64 lo,.int .i64 hi] 45 (0,0))).drewN nq).heap[w.heap.size]? = some (.cells #[.int .i64 P,.int .i64 lo,.int .i64 hi] 45 (0,0)) := by simpa using HBX.out
  have HBXq : Hid _ := hbq
  clear hlk c3 hbq HB1 HBX
  generalize (w.alloc (.cells #[.int .i64 P,.int .i64 lo,.int .i64 hi] 45 (0,0))).drewN nq = w1 at *
  have hr1 := HR.out.up HBq.out
  have c2 := hr1.c2
  have b0 : w1.cell? ⟨w.heap.size,0,none⟩ = some (.int .i64 P) := q6 HBXq.out 0
  have b1 : w1.cell? ⟨w.heap.size,1,none⟩ = some (.int .i64 lo) := q6 HBXq.out 1
  have b2 : w1.cell? ⟨w.heap.size,2,none⟩ = some (.int .i64 hi) := q6 HBXq.out 2
  have hO : (w1.alloc (.cells #[.int .i64 P,.int .i64 lo,.int .i64 hi] 45 (0,0))).drew.ownsRow 0 45 3 (.slice a N.length cap) N.length (encGd N) := World.ownsRow.alloc hr1.row _
  have hB : (w1.alloc (.cells #[.int .i64 P,.int .i64 lo,.int .i64 hi] 45 (0,0))).drew.heap[w1.heap.size]? = some (ndO (P,lo,hi)) := (MapKept.heap_alloc w1 _).1
  have c2b : (w1.alloc (.cells #[.int .i64 P,.int .i64 lo,.int .i64 hi] 45 (0,0))).cell? ⟨g,2,none⟩ = some (.slice a N.length cap) := q8 c2 (q5 w1 _)
  have HM : Hid _ := fun g5 c5 w5 q1 q2 q3 => qal (w5 := w5) hr1 (P,lo,hi) (g5 := g5) (c5 := c5) q1 q2 q3
  have HNE : Hid ((Value.slice a N.length cap).ownBlock ≠ some w.heap.size) := fun e => by have := (HR.out.row.lt _ e).2; omega
  have HI1 : Hid _ := HI.out.up HBq.out
  unfold ndO at HM
  clear hr1
  generalize hL : N.length = L at *
  have HL : Hid (N.length = L) := hL
  clear hL
  go_upto_region 15 with fail
  go_region_law ((refine q5M rfl _ _ rfl 0 (.slice a L cap) L N (P,lo,hi) w1.heap.size rfl rfl hO hB (by omega) (Nat.zero_le _) ?_; intro g5 c5 w5 hown5 hgr5 hloc5; have m5 := HM.out g5 c5 w5 hgr5 hown5 hloc5; have c5' : w5.cell? ⟨g,2,none⟩ = some (.slice a L cap) := q6 m5.1 2; have z5 : w5.frozen? ⟨g,2,none⟩ = false := frozen_of_row w5 _ 2 _ _ m5.1))
  all_goals
   have HM6 : Hid _ := m5.2
   clear hO hB c2 c2b b0 b1 b2 c5' z5 m5 hown5 hgr5 hloc5
   generalize w5.setCell ⟨g,2,none⟩ (.slice (some ⟨g5,0,none⟩) (L + 1) c5) = w6 at *
   have t3 : w6.cell? ⟨g,3,none⟩ = some (.map (some mb)) := q6 HM6.out.blk 3
   have hbx6 := (HM6.out.keep w.heap.size (World.block_lt_of_cell? _ _ (q6 HBXq.out 0)) (fun e => by have := HI.out.lt g ((HF.out g).2 (.inl rfl)); omega) HNE.out).trans HBXq.out
   have b0 : w6.cell? ⟨w.heap.size,0,none⟩ = some (.int .i64 P) := q6 hbx6 0
   have b1 : w6.cell? ⟨w.heap.size,1,none⟩ = some (.int .i64 lo) := q6 hbx6 1
   have b2 : w6.cell? ⟨w.heap.size,2,none⟩ = some (.int .i64 hi) := q6 hbx6 2
   obtain ⟨w7,hrun,hn7,hg7⟩ := (show NumG w6.drew mb L (posG N) from HM6.out.num).put (by omega) (x := (P,lo,hi)) HX.out (qM HNM.out) L (by omega)
   unfold ndV at hrun
   dsimp only at hrun
   have HN7 : Hid _ := hn7
   have HG7 : Hid _ := hg7
   clear hn7 hg7 hbx6
   go_upto_region 15 with fail
   go_region
   all_goals
    clear hrun t3 b0 b1 b2
    have HE : Hid (Q (.returned (.int .i64 (L : Int))) w7) := by
     have e := HL.out
     subst e
     obtain ⟨F',q1,q2⟩ := q8n (x := (P,lo,hi)) HI1.out HF.out HX.out HNM.out HM6.out HN7.out HG7.out
     exact HQ0.out _ _ ⟨rfl,F',q1,(Fr.ofBelow HBq.out).trans q2⟩
    clear HQ0
    go_wp2
    exact HE.out
theorem qZ {P : Program} {e : TypeId} {s : Nat} (h : (P.info? e).map (·.size) = some s) (w : World) : (sizeOf e).run P w = .ok s w := by
 cases hq : P.info? e with
 | none => simp [hq] at h
 | some i => simp [hq] at h; simp [sizeOf,typeInfo,hq,h]
theorem q87 {P : Program} {T e : TypeId} {s : Nat} (hu : P.underlying T = some (.slice e)) (hs : (P.info? e).map (·.size) = some s) (a : Option Addr) (n cap lo : Nat) (hl : lo ≤ n) (hc : n ≤ cap) (hn : a = none → cap = 0) :
  ∃ a',(∀ w,(Instr.sliceAt T (.slice a n cap) (some (.int .i64 (lo : Int))) none none).run P w = .ok (.slice a' (n - lo) (cap - lo)) w) ∧ (a' = none → cap - lo = 0) ∧ (lo < n → ∀ x,a = some x → a' = some (x.add (lo * s))) := by
 cases a with
 | none =>
  have := hn rfl
  subst this
  obtain rfl : n = 0 := by omega
  obtain rfl : lo = 0 := by omega
  exact ⟨none,fun w => by simp [Instr.sliceAt,Instr.slice,run_underlying hu,qZ hs,go_sem],fun _ => rfl,fun hk => absurd hk (by omega)⟩
 | some x =>
  by_cases hz : cap = lo
  ·refine ⟨some x,fun w => ?_,(fun h => by cases h),fun hk => absurd hk (by omega)⟩
   have hz2 : cap - lo = 0 := by omega
   simp [Instr.sliceAt,Instr.slice,run_underlying hu,qZ hs,go_sem,hl,hz2]
   exact fun h => absurd hz h
  ·refine ⟨some (x.add (lo * s)),fun w => ?_,(fun h => by cases h),fun _ y hy => by injection hy with hy; rw [hy]⟩
   simp [Instr.sliceAt,Instr.slice,run_underlying hu,qZ hs,go_sem,hl]
   exact fun h => absurd h hz
theorem qaY {P : Program} {T e : TypeId} {s : Nat} (hu : P.underlying T = some (.slice e)) (hs : (P.info? e).map (·.size) = some s) (a : Option Addr) (n cap m : Nat) (hl : m ≤ n) (hc : n ≤ cap) (hn : a = none → cap = 0) (w : World) :
  (Instr.sliceAt T (.slice a n cap) none (some (.int .i64 (m : Int))) none).run P w = .ok (.slice a m cap) w := by
 cases a with
 | none =>
  have := hn rfl
  subst this
  obtain rfl : n = 0 := by omega
  obtain rfl : m = 0 := by omega
  simp [Instr.sliceAt,Instr.slice,run_underlying hu,qZ hs,go_sem]
 | some x =>
  have hmc : m ≤ cap := by omega
  simp [Instr.sliceAt,Instr.slice,run_underlying hu,qZ hs,go_sem,hmc]
theorem q9p {w : World} {base e size n m : Nat} {v : Value} {xs : List Value} (h : w.ownsRow base e size v n xs) (hm : m ≤ n) :
  ∃ a cap,v = .slice a n cap ∧ n ≤ cap ∧ cap ≤ maxLen ∧ (a = none → cap = 0) ∧ w.ownsRow base e size (.slice a m cap) m (xs.take (m * size)) ∧ (Value.slice a m cap).ownBlock = v.ownBlock := by
 obtain ⟨hl,h⟩ := h
 have hms : m * size ≤ n * size := Nat.mul_le_mul_right _ hm
 rcases h with ⟨rfl,rfl⟩ | ⟨g,cap,cur,rfl,hg,hcell,hnc,hcm,hsz,htk⟩
 ·obtain rfl : m = 0 := by omega
  exact ⟨none,0,rfl,Nat.le_refl _,Nat.zero_le _,fun _ => rfl,⟨by simp,Or.inl ⟨rfl,rfl⟩⟩,rfl⟩
 ·refine ⟨some ⟨g,0,none⟩,cap,rfl,hnc,hcm,fun h => (by cases h),⟨by simp; omega,Or.inr ⟨g,cap,cur,rfl,hg,hcell,by omega,hcm,hsz,?_⟩⟩,rfl⟩
  rw [← htk,List.take_take,Nat.min_eq_left hms]
theorem q7E (l : List Gd) (n : Nat) : (encGd l).take (n * 3) = encGd (l.take n) := by
 by_cases h : n ≤ l.length
 ·have e : encGd l = encGd (l.take n) ++ encGd (l.drop n) := by rw [← q1T,List.take_append_drop]
  have hl : (encGd (l.take n)).length = n * 3 := by rw [q1c,List.length_take,Nat.min_eq_left h]
  rw [e,← hl,List.take_left]
 ·rw [List.take_of_length_le (by rw [q1c]; omega),List.take_of_length_le (by omega)]
def MkRG (g m : Nat) (w : World) (e : Ending) (w' : World) : Prop := ∃ bx bn,e = .returned (.func (.func 85) #[] #[.pointer (some ⟨bx,0,none⟩),.pointer (some ⟨bn,0,none⟩)]) ∧ Below w.heap.size w w' ∧ w.heap.size ≤ bx ∧ w.heap.size ≤ bn ∧
 w'.heap[bx]? = some (.cells #[.pointer (some ⟨g,0,none⟩)] 81 (0,0)) ∧ w'.heap[bn]? = some (.cells #[.int .i64 (m : Int)] 3 (0,0))
theorem q5i {w : World} {F : Nat → Prop} {g n : Nat} {N : List Gd} (h : StG w F g n N) : Calls Try.prog 72 #[.pointer (some ⟨g,0,none⟩)] w (MkRG g N.length w) := by
 obtain ⟨a,cap,mb,hr,_⟩ := h.read
 have hb1 := q5 w (.cells #[.pointer (some ⟨g,0,none⟩)] 81 (0,0))
 have c2 := (hr.up hb1).c2
 have e1 := (MapKept.heap_alloc w (.cells #[.pointer (some ⟨g,0,none⟩)] 81 (0,0))).1
 have cb := q6 e1 0
 simp only [List.getElem?_toArray,List.getElem?_cons_zero] at cb
 have HE : Hid (MkRG g N.length w (.returned (.func (.func 85) #[] #[.pointer (some ⟨w.heap.size,0,none⟩),.pointer (some ⟨w.heap.size + 1,0,none⟩)])) ((w.alloc (.cells #[.pointer (some ⟨g,0,none⟩)] 81 (0,0))).alloc (.cells #[.int .i64 (N.length : Int)] 3 (0,0)))) := by
  have hb2 := q5 (w.alloc (.cells #[.pointer (some ⟨g,0,none⟩)] 81 (0,0))) (.cells #[.int .i64 (N.length : Int)] 3 (0,0))
  refine ⟨_,_,rfl,q7 hb1 hb2,Nat.le_refl _,Nat.le_succ _,(hb2.block _ (by simp)).trans e1,?_⟩
  have := (MapKept.heap_alloc (w.alloc (.cells #[.pointer (some ⟨g,0,none⟩)] 81 (0,0))) (.cells #[.int .i64 (N.length : Int)] 3 (0,0))).1
  simpa using this
 generalize MkRG g N.length w = Q at *
 go_enter Try.func72,Try.ntmps72
 go_wp2
 exact HE.out
theorem qaQ {w : World} {a : Option Addr} {n cap m : Nat} {N : List Gd} (h : w.ownsRow 0 45 3 (.slice a n cap) n (encGd N)) (hl : N.length = n) (hm : m ≤ n) :
  ∃ a',(∀ w',(Instr.sliceAt 24 (.slice a n cap) (some (.int .i64 (m : Int))) none none).run Try.prog w' = .ok (.slice a' (n - m) (cap - m)) w') ∧
   ∀ k (x : Gd),N[m + k]? = some x → ∃ g o,(∀ w',(Instr.indexAt 24 (.slice a' (n - m) (cap - m)) (.int .i64 (k : Int))).run Try.prog w' = .ok (.pointer (some ⟨g,o,none⟩)) w') ∧
    ∀ w' : World,w'.ownsRow 0 45 3 (.slice a n cap) n (encGd N) → w'.cell? ⟨g,o,none⟩ = some (.int .i64 x.1) ∧ w'.cell? ⟨g,o + 1,none⟩ = some (.int .i64 x.2.1) ∧ w'.cell? ⟨g,o + 2,none⟩ = some (.int .i64 x.2.2) := by
 rcases h.2 with ⟨e,e0⟩ | ⟨g,cap',cur,e,_,hcell,hnc,_,hsz,htk⟩
 ·injection e with e1 _ e3
  subst e1 e3 e0
  obtain ⟨a',h1,_⟩ := q87 (P := Try.prog) Try.underlying24 qp none 0 0 m hm (Nat.le_refl _) (fun _ => rfl)
  exact ⟨a',h1,fun k x hk => absurd (List.getElem?_eq_some_iff.1 hk).1 (by omega)⟩
 ·injection e with e1 _ e3
  subst e1 e3
  obtain ⟨a',h1,_,h3⟩ := q87 (P := Try.prog) Try.underlying24 qp (some ⟨g,0,none⟩) n cap m hm hnc (fun e => by cases e)
  refine ⟨a',h1,fun k x hx => ?_⟩
  obtain ⟨hk,rfl⟩ := List.getElem?_eq_some_iff.1 hx
  have ha := h3 (by omega) _ rfl
  rw [q9,Nat.zero_add] at ha
  subst ha
  have hkn : k < n - m := by omega
  refine ⟨g,3 * (m + k),fun w' => ?_,fun w' ho => ?_⟩
  ·simp [Instr.indexAt,run_underlying Try.underlying24,asIntOf,q3o qp,hkn,Result.andThen,go_sem,q9,Nat.mul_comm]
  ·rcases ho.2 with ⟨e,e0⟩ | ⟨g',cap',cur',e,_,hcell',hnc',_,hsz',htk'⟩
   ·cases e
   ·injection e with e1 _ e3
    injection e1 with e1
    injection e1 with e1 _ _
    subst e1
    have key : ∀ j,j < n * 3 → w'.cell? ⟨g,j,none⟩ = (encGd N)[j]? := fun j hj => by
     rw [← htk',List.getElem?_take,if_pos hj]
     simp [World.cell?,hcell']
    obtain ⟨q0,q1,q2⟩ := qA N (m + k) hk
    refine ⟨?_,?_,?_⟩
    ·rw [key _ (by omega)]; exact q0
    ·rw [key _ (by omega)]; exact q1
    ·rw [key _ (by omega)]; exact q2
theorem q4t {w : World} {ops : Array Oper} {o : Oper} {a : Act} {K : Act → World → Prop} {Q : Exit → Act → World → Prop} {E : Prop} (hw : Region.wanted o (yielded ops a.tmps) = true) (m x : Operand)
  (ho : o.op = .call { callee := .builtin .delete,args := #[m,x],argTypes := #[105,45] }) (b n : Nat) (f : Gd → Option Nat) (y : Gd) (hm : a.eval m = .map (some b)) (hx : a.eval x = ndV y)
  (h : NumG w b n f) (hy : GdOk y) (hf : (f y).isSome = true)
  (hK : ∀ w',NumG w' b (n - 1) (fun z => if z = y then none else f z) → w.grownBy w' (some b) → K (a.put o.dst (.tuple #[])) w') :
  if Region.wanted o (yielded ops a.tmps) = true then Oper.wp Try.prog o a w K Q else E := by
 rw [if_pos hw]
 obtain ⟨w',hr,h1,h2⟩ := h.drop hy hf o.type
 unfold Oper.wp execOp
 simp only [ho,resolve,invoke,builtin,Sem.run_bind,Sem.run_pure,Result.andThen_ok,List.map_toArray,List.map_cons,List.map_nil,hm,hx,hr]
 exact hK w' h1 h2
structure CutG (w wr : World) (mb L i n : Nat) (N : List Gd) : Prop where
 num : NumG wr mb (L - i) (outG N n i)
 gr : w.grownBy wr (some mb)
theorem CutG.blk {w wr : World} {g n mb i m cap : Nat} {a : Option Addr} {N : List Gd} (h : StRG w g n a N.length cap mb N) (c : CutG w wr mb N.length i m N) : wr.heap[g]? = some (stO g n (.slice a N.length cap) mb) ∧ wr.ownsRow 0 45 3 (.slice a N.length cap) N.length (encGd N) := by
 obtain ⟨es,cl,hmap⟩ := h.num.isMap
 have hmt : g ≠ mb := fun e => by rw [← e,h.blk] at hmap; cases hmap
 have hnm : (Value.slice a N.length cap).ownBlock ≠ some mb := q2o h.row hmap (fun cs e => by cases e)
 have st : ∀ k,k < w.heap.size → k ≠ mb → wr.heap[k]? = w.heap[k]? := fun k hk hne => c.gr.block k hk (fun e => hne (by injection e))
 exact ⟨(st g (Array.getElem?_eq_some_iff.1 h.blk).1 hmt).trans h.blk,qb h.row fun k hk => st k (h.row.lt k hk).2 (fun e => hnm (e ▸ hk))⟩
theorem q8X {w wr : World} {F : Nat → Prop} {g n mb m cap : Nat} {a : Option Addr} {N : List Gd} (hI : StG w F g n N) (h : StRG w g n a N.length cap mb N) (hF : ∀ k,F k ↔ (k = g ∨ k = mb ∨ (Value.slice a N.length cap).ownBlock = some k)) (hn : m ≤ N.length)
  (c : CutG w wr mb N.length (N.length - m) m N) : StG (wr.setCell ⟨g,2,none⟩ (.slice a m cap)) F g n (N.take m) ∧ Fr w (wr.setCell ⟨g,2,none⟩ (.slice a m cap)) F F := by
 obtain ⟨h1,h2⟩ := c.blk h
 obtain ⟨es,cl,hmap⟩ := c.num.isMap
 have hmt : mb ≠ g := fun e => by rw [e,h1] at hmap; cases hmap
 have hne := q2o h2 h1 (fun cs e => by injection e with _ e _; exact absurd e (by decide))
 have hlen : (N.take m).length = m := by simp; omega
 obtain ⟨a',cap',e,_,_,_,h4,h5⟩ := q9p h2 hn
 injection e with e1 _ e3
 subst e1 e3
 rw [q7E] at h4
 refine ⟨⟨hI.nd.sublist (List.take_sublist _ _),fun x hx => hI.ok x (List.mem_of_mem_take hx),.slice a m cap,mb,?_,?_,?_,fun k => ?_⟩,?_⟩
 ·unfold stO at h1 ⊢
  rw [heap_setCell_same wr g 2 _ _ _ h1]; rfl
 ·rw [hlen]
  refine qb h4 fun k hk => Below.heap_setCell _ _ _ _ ?_
  dsimp only
  rintro rfl
  rw [h5] at hk; exact hne hk
 ·rw [hlen]
  have := c.num
  rw [show N.length - (N.length - m) = m by omega] at this
  exact (this.far (Below.heap_setCell _ _ _ _ (by dsimp only; exact hmt))).alike fun y _ => q9o hI.nd hn y
 ·rw [h5]; exact hF k
 ·refine ⟨c.gr.os,c.gr.tape,c.gr.output,by have := c.gr.size; simpa using this,fun k hk hf => ?_,fun _ hk => Or.inl hk⟩
  have hf' := fun e => hf ((hF k).2 e)
  exact (Below.heap_setCell _ _ _ _ (by dsimp only; exact fun e => hf' (Or.inl e))).trans (c.gr.block k hk (fun e => hf' (Or.inr (Or.inl (by injection e)))))
theorem q5m {w : World} {F : Nat → Prop} {g n : Nat} {N : List Gd} (h : StG w F g n N) (m : Nat) (hn : m ≤ N.length) (bx bn : Nat) (hN : N.length ≤ 1000000)
  (hbx : w.heap[bx]? = some (.cells #[.pointer (some ⟨g,0,none⟩)] 81 (0,0))) (hbn : w.heap[bn]? = some (.cells #[.int .i64 (m : Int)] 3 (0,0))) (hfx : ¬ F bx) (hfn : ¬ F bn) :
  Calls Try.prog 85 #[.pointer (some ⟨bx,0,none⟩),.pointer (some ⟨bn,0,none⟩)] w fun e w' => e = .returned (.tuple #[]) ∧ StG w' F g n (N.take m) ∧ Fr w w' F F := by
 obtain ⟨a,cap,mb,hr,hF⟩ := h.read
 have c2 := hr.c2
 have x0 := q6 hbx 0
 have n0 := q6 hbn 0
 obtain ⟨a',hcut,hat⟩ := qaQ hr.row rfl hn
 have hpre := fun w' => qaY (P := Try.prog) Try.underlying24 qp a N.length cap m hn hr.hc hr.nn w'
 have HR : Hid _ := hr
 have HF : Hid _ := hF
 have HI : Hid _ := h
 have HAT : Hid _ := hat
 have HC1 : Hid (∀ nq,CutG w (w.drewN nq) mb N.length 0 m N) := fun nq => ⟨(show NumG (w.drewN nq) mb N.length (posG N) from hr.num).alike fun y _ => q8k N m y,⟨rfl,rfl,rfl,Nat.le_refl _,fun _ _ _ => rfl⟩⟩
 have HN : Hid _ := hn
 have HBX : Hid (∀ wr,w.grownBy wr (some mb) → wr.cell? ⟨bx,0,none⟩ = some (.pointer (some ⟨g,0,none⟩)) ∧ wr.cell? ⟨bn,0,none⟩ = some (.int .i64 (m : Int))) := fun wr hg => by
  have h1 : bx ≠ mb := fun e => hfx ((hF bx).2 (.inr (.inl e)))
  have h2 : bn ≠ mb := fun e => hfn ((hF bn).2 (.inr (.inl e)))
  exact ⟨qJ x0 hg (fun e => h1 (by injection e)),qJ n0 hg (fun e => h2 (by injection e))⟩
 generalize hL : N.length = L at *
 have HL : Hid _ := hL
 go_enter Try.func85,Try.ntmps85
 go_upto_region 15 with fail
 go_quiet (fail)
 have HC2 : Hid _ := HC1.out nq
 generalize w.drewN nq = w0 at *
 go_wp2
 go_loopw [11] (fun i wr => ∃ k : Nat,k ≤ L - m ∧ i = .int .i64 k ∧ Hid (CutG w wr mb L k m N)) (fun i _ => (L - m) - (intOf i).toNat)
 case atStart => exact ⟨0,Nat.zero_le _,rfl,HC2⟩
 case round =>
  obtain ⟨k,hk,rfl,HC⟩ := hrel
  by_cases hlt : k < L - m
  ·have hkl : m + k < N.length := by have := HL.out; omega
   have hx := List.getElem?_eq_getElem hkl
   have HX : Hid _ := HI.out.ok _ (List.getElem_mem hkl)
   have HTH : Hid _ := q7I HI.out.nd hx
   have HNX : Hid (∀ y,(if y = N[m + k] then none else outG N m k y) = outG N m (k + 1) y) := fun y => q8j HI.out.nd hx y
   obtain ⟨g1,o1,hio,hcs⟩ := HAT.out k _ hx
   have HB : Hid _ := (show CutG w wr mb N.length k m N by rw [HL.out]; exact HC.out).blk (by rw [HL.out]; exact HR.out)
   rw [HL.out] at HB
   obtain ⟨q0,q1,q2⟩ := hcs wr HB.out.2
   obtain ⟨x0,_⟩ := HBX.out wr HC.out.gr
   generalize N[m + k] = x at *
   obtain ⟨P,lo,hi⟩ := x
   dsimp only at q0 q1 q2
   have hb1 := q5 wr (.cells #[.int .i64 P,.int .i64 lo,.int .i64 hi] 45)
   have c3 := q8 (q6 HB.out.1 3) hb1
   have x0b := q8 x0 hb1
   have hnum := HC.out.num.far (hb1.block mb HC.out.num.lt)
   have HGR : Hid (w.grownBy (wr.alloc (.cells #[.int .i64 P,.int .i64 lo,.int .i64 hi] 45)).drew (some mb)) := ⟨HC.out.gr.os,HC.out.gr.tape,HC.out.gr.output,by have := HC.out.gr.size; simp; omega,fun j hj hne => (hb1.block j (by have := HC.out.gr.size; omega)).trans (HC.out.gr.block j hj hne)⟩
   go_wp2
   go_upto_region 15 with fail
   go_region_law ((refine q4t rfl _ _ rfl mb (L - k) (outG N m k) (P,lo,hi) rfl rfl hnum HX.out HTH.out ?_; intro w6 hn6 hg6))
   all_goals
    have HC6 : Hid (CutG w w6 mb L (k + 1) m N) := by
     refine ⟨?_,⟨hg6.os.trans HGR.out.os,hg6.tape.trans HGR.out.tape,hg6.output.trans HGR.out.output,Nat.le_trans HGR.out.size hg6.size,fun j hj hne => (hg6.block j (Nat.lt_of_lt_of_le hj HGR.out.size) hne).trans (HGR.out.block j hj hne)⟩⟩
     rw [show L - (k + 1) = L - k - 1 by omega]
     exact hn6.alike fun y _ => HNX.out y
    go_wp2
    go_roundw
    case rel => exact ⟨k + 1,by omega,by go_num,HC6⟩
    case measure => simp [intOf] <;> omega
  ·obtain rfl : k = L - m := by omega
   have HC' : Hid (CutG w wr mb N.length (N.length - m) m N) := by show CutG _ _ _ _ _ _ _; rw [HL.out]; exact HC.out
   have HR' : Hid (StRG w g n a N.length cap mb N) := by show StRG _ _ _ _ _ _ _ _; rw [HL.out]; exact HR.out
   have hb := HC'.out.blk HR'.out
   rw [HL.out] at hb
   obtain ⟨x0,n0⟩ := HBX.out wr HC.out.gr
   have c2 := q6 hb.1 2
   have z2 := frozen_of_row wr _ 2 _ _ hb.1
   have HFIN : Hid _ := q8X HI.out HR'.out (by rw [HL.out]; exact HF.out) (by rw [HL.out]; exact HN.out) HC'.out
   go_upto_region 15 with fail
   go_region
   all_goals
    go_wp2
    go_end0
    exact ⟨rfl,HFIN.out.1.up (Below.refl _ _).drew,HFIN.out.2.trans (Fr.ofBelow (Below.refl _ _).drew)⟩
def DeR (g n : Nat) (r : Int × List Gd) (F : Nat → Prop) (w : World) (e : Ending) (w' : World) : Prop := e = .returned (.int .i64 r.1) ∧ ∃ F',StG w' F' g n r.2 ∧ Fr w w' F F'
theorem q3K (g n : Nat) : ∀ (k M : Nat) (p : Int) (l : List Nat) (a : Option Addr) (c : Nat) (N : List Gd) (F : Nat → Prop) (w : World),M = 2 ^ k → 0 ≤ p → p + k ≤ 8 → l.length = M → (∀ v ∈ l,v ≤ 1048575) → ZSl w a M c (l.map Int.ofNat) → (∀ j,j < M → ¬ F (adOf a j).block) → StG w F g n N → N.length + M ≤ 100000 →
  Calls Try.prog 73 #[.pointer (some ⟨g,0,none⟩),.int .i64 p,.slice a M c] w (DeR g n (adM k p (fnL l) N) F w) := by
 intro k
 induction k with
 | zero =>
  intro M p l a c N F w hM hp0 hp8 hl hv hS hF hR hN
  obtain rfl : M = 1 := by simpa using hM
  have hce := hS.cell 0 (by omega)
  have hidx : ∀ w',(Instr.indexAt 23 (.slice a 1 c) (.int .i64 0)).run Try.prog w' = .ok (.pointer (some (adOf a 0))) w' := fun w' => by simpa using hS.idx 1 0 w' (by omega) (Nat.le_refl _)
  have hz : (l.map Int.ofNat).getD 0 0 = ((fnL l 0 : Nat) : Int) := by
   simp only [fnL,List.getD_eq_getElem?_getD,List.getElem?_map]
   rcases l[0]? with _ | x <;> rfl
  have hb : fnL l 0 ≤ 1048575 := by
   simp only [fnL,List.getD_eq_getElem?_getD,List.getElem?_eq_getElem (show 0 < l.length by omega),Option.getD_some]
   exact hv _ (List.getElem_mem _)
  rw [hz] at hce
  have HE : Hid (DeR g n (adM 0 p (fnL l) N) F w (.returned (.int .i64 (-1 - ((fnL l 0 : Nat) : Int)))) w) := ⟨rfl,F,hR,Fr.ofBelow (Below.refl _ _)⟩
  generalize DeR g n (adM 0 p (fnL l) N) F w = Q at *
  generalize fnL l 0 = z at *
  have jo := fun w => q1L (z : Int) w ⟨by omega,by omega⟩
  generalize adOf a 0 = ad at *
  obtain ⟨ga,oa,sa⟩ := ad
  go_enter Try.func73,Try.ntmps73
  go_wp2_with (go_at_call 80; refine (jo _).mono ?_; rintro e w' ⟨rfl,hw1⟩; obtain rfl := hw1.symm)
  exact HE.out
 | succ k ih =>
  intro M p l a c N F w hM hp0 hp8 hl hv hS hF hR hN
  obtain ⟨h,hh⟩ : ∃ h,h = 2 ^ k := ⟨_,rfl⟩
  have h1 : 1 ≤ h := by rw [hh]; exact Nat.one_le_two_pow
  have hMh : M = 2 * h := by rw [hM,hh,Nat.pow_succ]; omega
  have hlen := q5T l h (by omega)
  obtain ⟨Q,eQ⟩ : ∃ Q,Q = DeR g n (adM (k + 1) p (fnL l) N) F w := ⟨_,rfl⟩
  have HQ : Hid (∀ e w',DeR g n (adM (k + 1) p (fnL l) N) F w e w' → Q e w') := fun e w' h => by rw [eQ]; exact h
  rw [← eQ]
  have HH : Hid _ := hh
  have HR : Hid _ := hR
  have HMh : Hid _ := hMh
  have HLn : Hid _ := hlen
  have HV0 : Hid _ := hv
  have HNl : Hid _ := hN
  have hM1 : 1 < M := by omega
  have hM9 : M ≤ 100000 := by omega
  have dm : ((M : Int) == 1) = false := by simp; omega
  have jh := q3M l h M a c w hMh hl hM9 hS
  clear eQ hM hh hS hR hF hMh hlen hl hv hN
  go_enter Try.func73,Try.ntmps73
  go_wp2_with fail
  refine jh.mono ?_
  rintro e wr ⟨la,lc,ha,hc,rfl,hb9,hLS,hHS,hLb,hHb⟩
  have hR9 := HR.out.up hb9
  have HFlt : Hid (∀ x,F x → x < w.heap.size) := fun x hx => HR.out.lt x hx
  have hp1 : (0 : Int) ≤ p + 1 := by omega
  have jA := ih h (p + 1) (evL l) la lc N F wr HH.out hp1 (by omega) HLn.out.1 (fun v hv => HV0.out v ((q1U l).1 v hv)) hLS (fun x hx hf => by have := HFlt.out _ hf; have := hLb x hx; omega) hR9 (by have := HNl.out; have := HMh.out; omega)
  rcases e1 : adM k (p + 1) (fnL (evL l)) N with ⟨ra,N1⟩
  rw [e1] at jA
  have HjB : Hid (∀ w1 F1,StG w1 F1 g n N1 → Fr wr w1 F F1 → Calls Try.prog 73 #[.pointer (some ⟨g,0,none⟩),.int .i64 (p + 1),.slice ha h hc] w1 (DeR g n (adM k (p + 1) (fnL (odL l)) N1) F1 w1)) := fun w1 F1 q1 q2 => by
   have hpl := (q1R k (p + 1) (fnL (evL l)) N).2
   rw [e1] at hpl
   dsimp only at hpl
   have hnf : ∀ x,x < h → ¬ F (adOf ha x).block := fun x hx hf => by have := HFlt.out _ hf; have := hHb x hx; omega
   exact ih h (p + 1) (odL l) ha hc N1 F1 w1 HH.out hp1 (by omega) HLn.out.2 (fun v hv => HV0.out v ((q1U l).2 v hv)) (q2.intSl hHS hnf) (fun x hx => q2.out (hnf x hx) (hHS.blk x hx)) q1 (by have := HNl.out; have := HMh.out; have := HH.out; omega)
  have HFr0 : Hid (∀ w1 F1,Fr wr w1 F F1 → Fr w w1 F F1) := fun w1 F1 q => (Fr.ofBelow hb9).trans q
  have He1 : Hid _ := e1
  clear hLS hLb hHS hHb hb9 hR9 ih e1 jh
  go_wp2_with fail
  refine jA.mono ?_
  rintro e w1 ⟨rfl,F1,hR1,hF1⟩
  have HF1 : Hid _ := HFr0.out w1 F1 hF1
  have jB := HjB.out w1 F1 hR1 hF1
  clear jA HjB HFr0 hF1 hR1
  rcases e2 : adM k (p + 1) (fnL (odL l)) N1 with ⟨rb,N2⟩
  rw [e2] at jB
  have Had : Hid _ := q7B k p l N He1.out e2
  have He2 : Hid _ := e2
  clear e2
  go_wp2_with fail
  refine jB.mono ?_
  rintro e w2 ⟨rfl,F2,hR2,hF2⟩
  have HF2 : Hid _ := HF1.out.trans hF2
  have HR2 : Hid _ := hR2
  clear jB hF2 HF1 hR2
  dsimp only
  by_cases hab : ra = rb
  ·have HX : Hid (Q (.returned (.int .i64 ra)) w2) := HQ.out _ _ (by rw [Had.out,if_pos hab]; exact ⟨rfl,F2,HR2.out,HF2.out⟩)
   have d3 : (ra == rb) = true := by simpa using hab
   clear hab HQ
   go_wp2
   exact HX.out
  ·have d3 : (ra == rb) = false := by simpa using hab
   have hev := HLn.out
   have hpA := q1R k (p + 1) (fnL (evL l)) N
   rw [He1.out] at hpA
   have hpB := q1R k (p + 1) (fnL (odL l)) N1
   rw [He2.out] at hpB
   have hbA := q3T k (p + 1) (fnL (evL l)) N 1048575 (fun i hi => Nat.le_of_lt_succ (q3X (fun v hv => Nat.lt_succ_of_le (HV0.out v ((q1U l).1 v hv))) (by rw [hev.1,HH.out]; exact hi)))
   rw [He1.out] at hbA
   have hbB := q3T k (p + 1) (fnL (odL l)) N1 1048575 (fun i hi => Nat.le_of_lt_succ (q3X (fun v hv => Nat.lt_succ_of_le (HV0.out v ((q1U l).2 v hv))) (by rw [hev.2,HH.out]; exact hi)))
   rw [He2.out] at hbB
   dsimp only at hpA hpB hbA hbB
   have hN9 : N2.length ≤ 100000 := by have := HNl.out; have := HMh.out; have := HH.out; omega
   have hlB := hpB.1.length_le
   have hY : GdOk (p,ra,rb) := ⟨⟨by omega,by omega⟩,⟨by dsimp only; omega,by dsimp only; omega⟩,⟨by dsimp only; omega,by dsimp only; omega⟩⟩
   have hR2 : StG w2 F2 g n N2 := HR2.out
   have jP := q4k hR2 (p,ra,rb) hY (by omega)
   clear hR2
   unfold ndV at jP
   dsimp only at jP
   have HX : Hid (∀ e w',PlR g n N2 (p,ra,rb) F2 w2 e w' → ∃ z : Int,e = .returned (.int .i64 z) ∧ Q e w') := fun e w' q => by
    obtain ⟨q1,F',q2,q3⟩ := q
    refine ⟨_,q1,HQ.out _ _ ?_⟩
    rw [Had.out,if_neg hab]
    exact ⟨q1,F',q2,HF2.out.trans q3⟩
   clear HQ Had He1 He2 hpA hpB hbA hbB hlB hN9 hev hab hY
   go_wp2_with fail
   refine jP.mono ?_
   intro e w3 hq
   obtain ⟨z,rfl,hQ3⟩ := HX.out e w3 hq
   have HE : Hid _ := hQ3
   clear hq hQ3 HX jP
   go_wp2
   exact HE.out
theorem q8C {N N' : List Gd} (h : N <+: N') : N'.take N.length = N := by obtain ⟨t,rfl⟩ := h; simp
def SAR (g n : Nat) (r : (Int × Int) × List Gd) (F : Nat → Prop) (w : World) (e : Ending) (w' : World) : Prop := e = .returned (.tuple #[.int .i64 r.1.1,.int .i64 r.1.2]) ∧ ∃ F',StG w' F' g n r.2 ∧ Fr w w' F F'
theorem q2V (g n : Nat) (hn : n ≤ 8) (zs : List Int) (a : Option Addr) (len c : Nat) (N : List Gd) (F : Nat → Prop) (w : World) (hS : ZSl w a len c zs) (hF : ∀ j,j < len → ¬ F (adOf a j).block) (hR : StG w F g n N) (hN : N.length ≤ 4096) :
  Calls Try.prog 52 #[.pointer (some ⟨g,0,none⟩),.slice a len c] w (SAR g n (addG n N zs) F w) := by
 obtain ⟨Q,eQ⟩ : ∃ Q,Q = SAR g n (addG n N zs) F w := ⟨_,rfl⟩
 have HQ : Hid (∀ e w',SAR g n (addG n N zs) F w e w' → Q e w') := fun e w' h => by rw [eQ]; exact h
 rw [← eQ]
 have HL : Hid _ := hS.hlen
 have hbd := Nat.le_trans hS.hcap hS.bd
 unfold maxLen at hbd
 obtain ⟨aN,cN,mb,hr,_⟩ := hR.read
 have c1 := hr.c1
 have hmd := q2W hr
 have jt := fun w' (hb : Below w.heap.size w w') => q3q a len c zs w' (hS.up hb)
 have hsh := q4C n hn
 have hM : 2 ^ n ≤ 256 := Nat.pow_le_pow_right (by decide) hn
 have HArg : Hid ((zs.length ≠ 2 ^ n ∨ ¬ ∀ v ∈ zs,0 ≤ v ∧ v ≤ 1048575) → Q (.returned (.tuple #[.int .i64 0,.int .i64 2])) w) := fun h => HQ.out _ _ (by rw [q8R h]; exact ⟨rfl,F,hR,Fr.ofBelow (Below.refl _ _)⟩)
 by_cases hl : len = 2 ^ n
 ·have HMM : Hid (len = 2 ^ n) := hl
  rw [← hl] at hsh hM
  clear hl
  have dl : ((len : Int) != (len : Int)) = false := by simp
  have jt := jt w (Below.refl _ _)
  by_cases hv : ∀ v ∈ zs,0 ≤ v ∧ v ≤ 1048575
  ·rw [decide_eq_true hv] at jt
   rcases e1 : adM n 0 (fnL (zs.map Int.toNat)) N with ⟨r,N'⟩
   have HQ2 : Hid (∀ e w',SAR g n (if 4096 < N'.length then ((0,11),N) else ((r,0),N')) F w e w' → Q e w') := fun e w' q => HQ.out e w' (by rw [q9Z (by rw [HL.out]; exact HMM.out) hv e1]; exact q)
   have jm := q5i hR
   have HjA : Hid (∀ w3,Below w.heap.size w w3 → Calls Try.prog 73 #[.pointer (some ⟨g,0,none⟩),.int .i64 0,.slice a len c] w3 (DeR g n (r,N') F w3)) := fun w3 hb => by
    have := q3K g n n len 0 (zs.map Int.toNat) a c N F w3 HMM.out (by omega) (by omega) (by rw [List.length_map]; exact HL.out) (fun v hv' => by
     obtain ⟨u,hu,rfl⟩ := List.mem_map.1 hv'
     have := hv u hu; omega) (by rw [q7O hv]; exact hS.up hb) hF (hR.up hb) (by omega)
    rw [e1] at this
    exact this
   have hpre := q1R n 0 (fnL (zs.map Int.toNat)) N
   rw [e1] at hpre
   dsimp only at hpre
   have hL2 : N'.length ≤ 100000 := by have := HMM.out; omega
   have Hpre : Hid _ := hpre.1
   have Hple : Hid _ := hpre.1.length_le
   have HR : Hid _ := hR
   have HN' : Hid (N'.length ≤ 1000000) := by show _ ≤ _; omega
   go_enter Try.func52,Try.ntmps52
   go_wp2_with (first
    | (go_at_call 70; (with_reducible refine hmd.mono ?_); rintro e w' ⟨rfl,hw1⟩; obtain rfl := hw1.symm)
    | (go_at_call 71; (with_reducible refine jt.mono ?_); rintro e w' ⟨rfl,hw1⟩; obtain rfl := hw1.symm)
    | fail)
   refine jm.mono ?_
   rintro e w3 ⟨bx,bn,rfl,hb3,hx3,hn3,ex3,en3⟩
   have jA := HjA.out w3 hb3
   have HB3 : Hid _ := hb3
   have Hex : Hid _ := ex3
   have Hen : Hid _ := en3
   have Hnx : Hid (¬ F bx ∧ ¬ F bn) := ⟨fun h => by have := HR.out.lt _ h; omega,fun h => by have := HR.out.lt _ h; omega⟩
   go_wp2_with fail
   refine jA.mono ?_
   rintro e w4 ⟨rfl,F4,hR4,hF4⟩
   dsimp only at hR4
   have HF4 : Hid _ := (Fr.ofBelow HB3.out).trans hF4
   obtain ⟨a4,c4,mb4,hr4,_⟩ := hR4.read
   have t2 := hr4.c2
   have hlx := (Array.getElem?_eq_some_iff.1 Hex.out).1
   have hln := (Array.getElem?_eq_some_iff.1 Hen.out).1
   have ex4 := (hF4.keep bx hlx Hnx.out.1).trans Hex.out
   have en4 := (hF4.keep bn hln Hnx.out.2).trans Hen.out
   by_cases h4 : 4096 < N'.length
   ·have jU := q5m hR4 N.length Hple.out bx bn HN'.out ex4 en4 (hF4.out Hnx.out.1 hlx) (hF4.out Hnx.out.2 hln)
    rw [q8C Hpre.out] at jU
    have HE : Hid (∀ w5,StG w5 F4 g n N → Fr w4 w5 F4 F4 → Q (.returned (.tuple #[.int .i64 0,.int .i64 11])) w5) := fun w5 q1 q2 => HQ2.out _ _ (by rw [if_pos h4]; exact ⟨rfl,F4,q1,HF4.out.trans q2⟩)
    generalize N'.length = L4 at *
    go_wp2_with fail
    refine jU.mono ?_
    rintro e w5 ⟨rfl,q1,q2⟩
    have HE5 : Hid _ := HE.out w5 q1 q2
    go_wp2
    exact HE5.out
   ·have HE : Hid (Q (.returned (.tuple #[.int .i64 r,.int .i64 0])) w4) := HQ2.out _ _ (by rw [if_neg h4]; exact ⟨rfl,F4,hR4,HF4.out⟩)
    generalize N'.length = L4 at *
    go_wp2
    exact HE.out
  ·rw [decide_eq_false hv] at jt
   have HE : Hid _ := HArg.out (.inr hv)
   go_enter Try.func52,Try.ntmps52
   go_wp2_with (first
    | (go_at_call 70; (with_reducible refine hmd.mono ?_); rintro e w' ⟨rfl,hw1⟩; obtain rfl := hw1.symm)
    | (go_at_call 71; (with_reducible refine jt.mono ?_); rintro e w' ⟨rfl,hw1⟩; obtain rfl := hw1.symm)
    | fail)
   exact HE.out
 ·have HE : Hid _ := HArg.out (.inl (by rw [HL.out]; exact hl))
  obtain ⟨m,hm⟩ : ∃ m,m = 2 ^ n := ⟨_,rfl⟩
  rw [← hm] at hl hsh hM
  have dl : ((len : Int) != (m : Int)) = true := by simp; omega
  clear HArg HQ hl hm hS hF hR hr jt
  go_enter Try.func52,Try.ntmps52
  go_wp2_with (go_at_call 70; (with_reducible refine hmd.mono ?_); rintro e w' ⟨rfl,hw1⟩; obtain rfl := hw1.symm)
  exact HE.out
end Go.Proofs.Ytcnkgokfjafgkaa
