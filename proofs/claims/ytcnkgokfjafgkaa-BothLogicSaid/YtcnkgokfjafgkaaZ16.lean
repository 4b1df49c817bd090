/- Texts of the proof, put together: what it uses. -/
import Derived.BigQuiet
import Derived.Deep.RegionHeld3
import Derived.Test.YtcnkgokfjafgkaaZ11
import Derived.Test.YtcnkgokfjafgkaaZ13
import Derived.Test.YtcnkgokfjafgkaaZ14
import Derived.Test.YtcnkgokfjafgkaaZ15
set_option maxRecDepth 100000
set_option maxHeartbeats 16000000
namespace Go.Proofs.Ytcnkgokfjafgkaa
open Go.RowKit Go.Maps
def acH (bs : List Bool) (k : Nat) : List Nat := (List.range k).filter fun s => bs.getD s false
theorem q8N (bs : List Bool) (k : Nat) : acH bs (k + 1) = if bs.getD k false then acH bs k ++ [k] else acH bs k := by
 unfold acH
 rw [List.range_succ,List.filter_append]
 cases h : bs.getD k false <;> simp [-List.getD_eq_getElem?_getD,h]
theorem q2i {bs : List Bool} {n s : Nat} : s ∈ acH bs n ↔ s < n ∧ bs.getD s false = true := by
 simp [acH,-List.getD_eq_getElem?_getD]
theorem q80 (bs : List Bool) (n : Nat) : (acH bs n).Nodup := List.nodup_range.sublist List.filter_sublist
theorem q9X (bs : List Bool) (n : Nat) : (acH bs n).length ≤ n := by
 have : (acH bs n).length ≤ (List.range n).length := List.length_filter_le _ _
 simpa using this
structure ClL (D : PgD) (w wr : World) (gi gw k : Nat) (v0 v7 : Value) (acc : List Nat) : Prop where
 fo : IzB wr D.go (List.replicate D.S 0)
 fi : wr.heap[gi]? = some (.cells #[v0] 23 (0,0))
 fw : wr.heap[gw]? = some (.cells #[.bool false] 4 (0,0))
 blk : wr.heap[D.b]? = some (pgO D (.slice (some ⟨gi,0,none⟩) 1 1) (.slice (some ⟨gw,0,none⟩) 1 1) (.slice none 0 0))
 o0 : wr.ownsRow (w.heap.size + 4) 3 1 v0 k (izV (List.range k))
 o7 : wr.ownsRow (w.heap.size + 4) 3 1 v7 acc.length (izV acc)
 ne : ∀ k,v0.ownBlock = some k → v7.ownBlock ≠ some k
 bel : Below w.heap.size w wr
 lo : D.go = w.heap.size ∧ gi = w.heap.size + 1 ∧ gw = w.heap.size + 2 ∧ D.b = w.heap.size + 3
variable {D : PgD} {w wr : World} {gi gw k : Nat} {v0 v7 : Value} {acc : List Nat}
theorem ClL.put0 (h : ClL D w wr gi gw k v0 v7 acc) {o : Obj} {w5 : World} {g c : Nat} (ho : w5.ownsRow (w.heap.size + 4) 3 1 (.slice (some ⟨g,0,none⟩) (k + 1) c) (k + 1) (izV (List.range k ++ [k]))) (hg : (wr.alloc o).drew.grownBy w5 v0.ownBlock) (hl : v0.ownBlock = some g ∨ g = (wr.alloc o).drew.heap.size) :
  w5.heap[gi]? = some (.cells #[v0] 23 (0,0)) ∧ w5.heap[D.b]? = some (pgO D (.slice (some ⟨gi,0,none⟩) 1 1) (.slice (some ⟨gw,0,none⟩) 1 1) (.slice none 0 0)) ∧ ClL D w (w5.setCell ⟨gi,0,none⟩ (.slice (some ⟨g,0,none⟩) (k + 1) c)) gi gw (k + 1) (.slice (some ⟨g,0,none⟩) (k + 1) c) v7 acc := by
 obtain ⟨l1,l2,l3,l4⟩ := h.lo
 have hge := qm h.o0
 have hsz := (Array.getElem?_eq_some_iff.1 h.blk).1
 have hz : (wr.alloc o).drew.heap.size = wr.heap.size + 1 := by simp
 have kp : ∀ j,j < wr.heap.size → v0.ownBlock ≠ some j → w5.heap[j]? = wr.heap[j]? := fun j hj hne => (hg.block j (by omega) (fun e => hne e.symm)).trans ((q5 wr o).block j hj)
 have lo : ∀ j,j < w.heap.size + 4 → w5.heap[j]? = wr.heap[j]? := fun j hj => kp j (by omega) (fun e => by have := hge j e; omega)
 have gl : w.heap.size + 4 ≤ g := by
  rcases hl with hl | hl
  ·exact hge g hl
  ·omega
 have st : ∀ j,j ≠ gi → (w5.setCell ⟨gi,0,none⟩ (.slice (some ⟨g,0,none⟩) (k + 1) c)).heap[j]? = w5.heap[j]? := fun j hj => Below.heap_setCell _ _ _ _ (by dsimp only; exact hj)
 have hbb := (q7 h.bel (q5 wr o)).drew
 refine ⟨(lo gi (by omega)).trans h.fi,(lo D.b (by omega)).trans h.blk,((st D.go (by omega)).trans (lo D.go (by omega))).trans h.fo,?_,((st gw (by omega)).trans (lo gw (by omega))).trans h.fw,((st D.b (by omega)).trans (lo D.b (by omega))).trans h.blk,?_,qb h.o7 (fun j hj => (st j (by have := qm h.o7 j hj; omega)).trans (kp j (h.o7.lt j hj).2 (fun e => h.ne j e hj))),fun j hj hj2 => ?_,(hbb.grown hg hbb.size (fun q e => by have := hge q e; omega)).setCell (by dsimp only; omega) _,h.lo⟩
 ·rw [heap_setCell_same w5 gi 0 _ _ _ ((lo gi (by omega)).trans h.fi)]; rfl
 ·rw [List.range_succ]
  refine qb ho (fun j hj => st j ?_)
  have e : g = j := by injection hj
  omega
 ·have e : g = j := by injection hj
  subst e
  rcases hl with hl | hl
  ·exact h.ne g hl hj2
  ·have := (h.o7.lt g hj2).2; omega
theorem ClL.put7 (h : ClL D w wr gi gw k v0 v7 acc) {o : Obj} {w5 : World} {g c x : Nat} (ho : w5.ownsRow (w.heap.size + 4) 3 1 (.slice (some ⟨g,0,none⟩) (acc.length + 1) c) (acc.length + 1) (izV (acc ++ [x]))) (hg : (wr.alloc o).grownBy w5 v7.ownBlock) (hl : v7.ownBlock = some g ∨ g = (wr.alloc o).heap.size) :
  ClL D w w5 gi gw k v0 (.slice (some ⟨g,0,none⟩) (acc.length + 1) c) (acc ++ [x]) := by
 obtain ⟨l1,l2,l3,l4⟩ := h.lo
 have hge := qm h.o7
 have hsz := (Array.getElem?_eq_some_iff.1 h.blk).1
 have hz : (wr.alloc o).heap.size = wr.heap.size + 1 := by simp
 have kp : ∀ j,j < wr.heap.size → v7.ownBlock ≠ some j → w5.heap[j]? = wr.heap[j]? := fun j hj hne => qv hg hj hne
 have lo : ∀ j,j < w.heap.size + 4 → w5.heap[j]? = wr.heap[j]? := fun j hj => kp j (by omega) (fun e => by have := hge j e; omega)
 have hbb := q7 h.bel (q5 wr o)
 refine ⟨(lo D.go (by omega)).trans h.fo,(lo gi (by omega)).trans h.fi,(lo gw (by omega)).trans h.fw,(lo D.b (by omega)).trans h.blk,qb h.o0 (fun j hj => kp j (h.o0.lt j hj).2 (fun e => h.ne j hj e)),by rw [List.length_append,List.length_singleton]; exact ho,fun j hj hj2 => ?_,hbb.grown hg hbb.size (fun q e => by have := hge q e; omega),h.lo⟩
 have e : g = j := by injection hj2
 subst e
 rcases hl with hl | hl
 ·exact h.ne g hj hl
 ·have := (h.o0.lt g hj).2; omega
theorem ClL.fin (h : ClL D w wr gi gw D.S v0 v7 acc) (hw0 : D.w0 = w) (hbk : BwM w D.gB D.S D.B) : ∃ a7 c7,v7 = .slice a7 acc.length c7 ∧ PgW D wr (.slice (some ⟨gi,0,none⟩) 1 1) (.slice (some ⟨gw,0,none⟩) 1 1) (.slice none 0 0) [v0] (List.replicate D.S 0) [List.range D.S] [false] [] ∧ LsB wr D.go (.slice none 0 0) a7 acc := by
 obtain ⟨l1,l2,l3,l4⟩ := h.lo
 obtain ⟨a7,c7,e7⟩ := qe h.o7
 obtain ⟨a0,c0,e0⟩ := qe h.o0
 subst e7
 refine ⟨a7,c7,rfl,⟨by rw [hw0]; exact h.bel,fun j hj => ?_,by rw [List.map_replicate]; exact h.fo,by simp,hbk.up h.bel,h.blk,⟨rfl,.inr ⟨gi,1,_,rfl,Nat.zero_le _,h.fi,Nat.le_refl _,by decide,rfl,rfl⟩⟩,⟨rfl,.inr ⟨gw,1,_,rfl,Nat.zero_le _,h.fw,Nat.le_refl _,by decide,rfl,rfl⟩⟩,⟨rfl,.inl ⟨rfl,rfl⟩⟩,fun e => (by cases e),fun c hc => ?_⟩,q2n h.o7 (by omega) (fun j e => by cases e)⟩
 ·rw [hw0]
  rcases hj with e | e | e | e | e
  ·omega
  ·omega
  ·have e2 : gi = j := by injection e
   omega
  ·have e2 : gw = j := by injection e
   omega
  ·cases e
 ·have hc0 : c = 0 := by simpa using hc
  subst hc0
  refine ⟨a0,c0,?_,q2n (by rw [← e0]; exact h.o0) (by omega) (fun j e => by cases e)⟩
  rw [e0]; simp
def ClbR (S K : Nat) (R : List (List Nat)) (bs : List Bool) (w : World) (e : Ending) (w' : World) : Prop :=
 Below w.heap.size w w' ∧ ∃ (g : Nat) (of : List Nat),e = .returned (.tuple #[.slice (some ⟨g,0,none⟩) S S,.bool true]) ∧ w.heap.size ≤ g ∧ IzB w' g (of.map Int.ofNat) ∧ of.length = S ∧ ClsC S K R bs (fun s => of.getD s 0) ∧ ∀ s,s < S → of.getD s 0 < S
theorem PgW.popQ {vi vw vq : Value} {vs : List Value} {of : List Nat} {ins : List (List Nat)} {ws : List Bool} {qu : List Nat} {c : Nat} (h : PgW D w vi vw vq vs of ins ws (qu ++ [c])) : ∃ g cap,vq = .slice (some ⟨g,0,none⟩) (qu.length + 1) cap ∧ qu.length ≤ cap ∧ w.cell? ⟨g,qu.length,none⟩ = some (.int .i64 (c : Int)) ∧ PgW D (w.setCell ⟨D.b,4,none⟩ (.slice (some ⟨g,0,none⟩) qu.length cap)) vi vw (.slice (some ⟨g,0,none⟩) qu.length cap) vs of ins ws qu ∧ Fr w (w.setCell ⟨D.b,4,none⟩ (.slice (some ⟨g,0,none⟩) qu.length cap)) (PgF D vi vw vq) (PgF D vi vw (.slice (some ⟨g,0,none⟩) qu.length cap)) := by
 obtain ⟨n1,n2,n3,n4,n5,n6⟩ := h.nb
 have hlen : (qu ++ [c]).length = qu.length + 1 := by simp
 have hfq := h.fq
 rw [hlen] at hfq
 rcases hfq.2 with ⟨_,h0⟩ | ⟨g,cap,cur,e,hg,hcell,hnc,hcm,hsz,htk⟩
 ·omega
 ·subst e
  have hiz : izV (qu ++ [c]) = izV qu ++ [.int .i64 (c : Int)] := by rw [izV,List.map_append,List.map_append]; rfl
  have ne : ∀ k,k ≠ D.b → (w.setCell ⟨D.b,4,none⟩ (.slice (some ⟨g,0,none⟩) qu.length cap)).heap[k]? = w.heap[k]? := fun k hk => Below.heap_setCell _ _ _ _ (by dsimp only; exact hk)
  have hgb : g ≠ D.b := fun e => n4 (by rw [← e]; rfl)
  have hfr : Fr w (w.setCell ⟨D.b,4,none⟩ (.slice (some ⟨g,0,none⟩) qu.length cap)) (PgF D vi vw (.slice (some ⟨g,0,none⟩) (qu.length + 1) cap)) (PgF D vi vw (.slice (some ⟨g,0,none⟩) qu.length cap)) := ⟨rfl,rfl,rfl,by simp,fun k hk hn => ne k (fun e => hn (.inl e)),fun k hk => .inl hk⟩
  refine ⟨g,cap,rfl,by omega,?_,⟨h.bel.trans (hfr.below h.ge h.bel.size),h.ge,(ne _ n1).trans h.fo,h.ol,h.bk.fr hfr h.noW,?_,qb h.fi (fun k hk => ne k (fun e => n2 (e ▸ hk))),qb h.fw (fun k hk => ne k (fun e => n3 (e ▸ hk))),?_,h.qo,fun d hd => ?_⟩,hfr⟩
  ·have h1 : (cur.toList.take ((qu.length + 1) * 1))[qu.length]? = (izV (qu ++ [c]))[qu.length]? := by rw [htk]
   rw [List.getElem?_take,if_pos (by omega),hiz,List.getElem?_append_right (by rw [q1E]; omega),q1E,Nat.sub_self] at h1
   simp [World.cell?,hcell]
   simpa using h1
  ·have := h.blk
   unfold pgO at this ⊢
   rw [heap_setCell_same w D.b 4 _ _ _ this]; rfl
  ·refine ⟨by rw [q1E]; omega,.inr ⟨g,cap,cur,rfl,hg,(ne g hgb).trans hcell,by omega,hcm,hsz,?_⟩⟩
   have h2 := congrArg (List.take qu.length) htk
   rw [List.take_take,hiz,List.take_append_of_le_length (by rw [q1E]; omega),List.take_of_length_le (l := izV qu) (by rw [q1E]; omega)] at h2
   rw [← h2]; congr 1; omega
  ·obtain ⟨a,cap',h1,h2⟩ := h.ls d hd
   refine ⟨a,cap',h1,fun hp => ?_⟩
   obtain ⟨g',cu,h3,h4,h5,h6,h7⟩ := h2 hp
   refine ⟨g',cu,h3,(ne g' (fun e => ?_)).trans h4,h5,h6,h7⟩
   rw [e,h.blk] at h4
   injection h4 with h4
   unfold pgO at h4
   injection h4 with _ h4 _
   exact absurd h4 (by decide)
structure VdF (fid : Nat) (op : Bool → Bool → Bool) : Prop where
 ent : EntersP fid
 go : ∀ x y w,Calls Try.prog fid #[.bool x,.bool y] w fun e w' => e = .returned (.bool (op x y)) ∧ w' = w
abbrev vdV (fid : Nat) : Value := .func (.func fid) #[] #[]
theorem BoSl.getB {w : World} {a : Option Addr} {n c : Nat} {bs : List Bool} (h : BoSl w a n c bs) {i : Nat} (hi : i < n) : (∀ w',(Instr.indexAt 22 (.slice a n c) (.int .i64 (i : Int))).run Try.prog w' = .ok (.pointer (some (adOf a i))) w') ∧ w.cell? (adOf a i) = some (.bool (bs.getD i false)) := by
 obtain ⟨h1,h2⟩ := h.at i hi
 refine ⟨fun w' => h1 n w' hi,?_⟩
 rw [h2,List.getD_eq_getElem?_getD,List.getElem?_eq_getElem (by rw [h.hlen]; exact hi)]; rfl
theorem q3i {D : PD} {w : World} {F : Nat → Prop} {T : List PrP} (h : PrS D w F T) (i : Nat) (hi : i < T.length + 1) (hm1 : (metE T i).1 < D.nA) (hm2 : (metE T i).2 < D.nB) {fid : Nat} {op : Bool → Bool → Bool} (hV : VdF fid op) :
  Calls Try.prog 40 #[.pointer (some ⟨D.b,0,none⟩),.int .i64 (i : Int),vdV fid] w fun e w' => e = .returned (.bool (saysE D.bs D.bs' op (metE T i))) ∧ Below w.heap.size w w' := by
 obtain ⟨g,cap,hblk,hrow,hF⟩ := h.read
 obtain ⟨x,hx,hme⟩ := q61 hi
 obtain ⟨hgl,hix,e0,e1,_,_⟩ := q25 hrow hx
 have c5 : w.cell? ⟨D.b,5,none⟩ = some (.slice (some ⟨g,0,none⟩) (T.length + 1) cap) := q6 hblk 5
 have c0 : w.cell? ⟨D.b,0,none⟩ = some (.slice D.aA D.nA D.cA) := q6 hblk 0
 have c1 : w.cell? ⟨D.b,1,none⟩ = some (.slice D.aB D.nB D.cB) := q6 hblk 1
 rw [hme] at hm1 hm2
 dsimp only at hm1 hm2
 obtain ⟨ixA,r1⟩ := (h.bA.up h.bel).getB hm1
 obtain ⟨ixB,r2⟩ := (h.bB.up h.bel).getB hm2
 rw [hme]
 obtain ⟨hE,hgo⟩ := hV
 clear hblk hrow hF hx h hme
 unfold EntersP at hE
 unfold saysE
 dsimp only
 generalize D.bs.getD x.1 false = y1 at *
 generalize D.bs'.getD x.2.1 false = y2 at *
 generalize x.1 = p at *
 generalize x.2.1 = q at *
 generalize adOf D.aA p = ad1 at *
 obtain ⟨a1g,a1o,a1z⟩ := ad1
 generalize adOf D.aB q = ad2 at *
 obtain ⟨a2g,a2o,a2z⟩ := ad2
 have hbh := q5 w (.cells #[.int .i64 (p : Int),.int .i64 (q : Int)] 88 (0,0))
 have d2 := q8 c0 hbh
 have d3 := q8 c1 hbh
 have t1 := q8 r1 hbh
 have t2 := q8 r2 hbh
 have hn := (MapKept.heap_alloc w (.cells #[.int .i64 (p : Int),.int .i64 (q : Int)] 88 (0,0))).1
 have h0 : (w.alloc (.cells #[.int .i64 (p : Int),.int .i64 (q : Int)] 88 (0,0))).cell? ⟨w.heap.size,0,none⟩ = some (.int .i64 (p : Int)) := q6 hn 0
 have h1 : (w.alloc (.cells #[.int .i64 (p : Int),.int .i64 (q : Int)] 88 (0,0))).cell? ⟨w.heap.size,1,none⟩ = some (.int .i64 (q : Int)) := q6 hn 1
 have HBH : Hid _ := hbh
 have hgo := hgo y1 y2
 clear hbh hn
 unfold vdV
 go_enter Try.func40,Try.ntmps40
 go_upto_region 15 with fail
 go_quiet ((exact Calls.quiet_of_same (hgo _)))
 go_wp2
 go_ret
 exact ⟨rfl,below_drewN HBH.out _⟩
def TrbR (ts : List Nat) (w : World) (e : Ending) (w' : World) : Prop := Below w.heap.size w w' ∧ ∃ a c,e = .returned (.slice a ts.length c) ∧ w'.ownsRow w.heap.size 34 1 (.slice a ts.length c) ts.length (ltV ts)
theorem q5e (a : Option Addr) (c : Nat) (w : World) : Calls Try.prog 62 #[.slice a 0 c] w fun e w' => e = .returned (.tuple #[]) ∧ w' = w := by
 go_enter Try.func62,Try.ntmps62
 go_wp2
 go_loopw [2,3] (fun i j wr => i = .int .i64 0 ∧ j = .int .i64 (-1) ∧ wr = w) (fun _ _ _ => 0)
 case atStart => exact ⟨rfl,rfl,rfl⟩
 case round =>
  obtain ⟨rfl,rfl,rfl⟩ := hrel
  go_wp2
  go_end0
  exact ⟨rfl,rfl⟩
theorem q4d {D : PD} {w : World} {F : Nat → Prop} {T : List PrP} (h : PrS D w F T) (j0 : Nat) (ts : List Nat) (hm : T.length ≤ 65536) (hj : j0 < T.length + 1) (hup : upP (mtL T) ts j0) (hback : ∀ (j : Nat) (x : PrP),0 < j → (mtL T)[j]? = some x → x.2.2.1 < j ∧ x.2.2.2 < 256) :
  Calls Try.prog 45 #[.pointer (some ⟨D.b,0,none⟩),.int .i64 (j0 : Int)] w (TrbR ts.reverse w) := by
 obtain ⟨P,eP⟩ : ∃ P,P = TrbR ts.reverse w := ⟨_,rfl⟩
 have HP : Hid (∀ w' a c,Below w.heap.size w w' → w'.ownsRow w.heap.size 34 1 (.slice a ts.length c) ts.length (ltV ts.reverse) → P (.returned (.slice a ts.length c)) w') := fun w' a c hb h => by rw [eP]; exact ⟨hb,a,c,by rw [List.length_reverse],by rw [List.length_reverse]; exact h⟩
 rw [← eP]
 clear eP
 obtain ⟨g,cap,hblk,hrow,hF⟩ := h.read
 have hbl := (Array.getElem?_eq_some_iff.1 hblk).1
 have c5 : w.cell? ⟨D.b,5,none⟩ = some (.slice (some ⟨g,0,none⟩) (T.length + 1) cap) := q6 hblk 5
 have HC5 : Hid _ := c5
 have HQ : Hid _ := hrow
 have HBK : Hid _ := hback
 have HUP : Hid _ := hup
 have hts : ∀ (ts : List Nat) (j : Nat),upP (mtL T) ts j → j < T.length + 1 → ts.length ≤ j := by
  intro ts
  induction ts with
  | nil => intro j _ _; exact Nat.zero_le _
  | cons b ts ih =>
   intro j h hj
   obtain ⟨h0,x,hx,_,h1⟩ := h
   have := hback j x h0 hx
   have := ih _ h1 (by omega)
   simp; omega
 have HTL : Hid (ts.length ≤ 65536) := by show _ ≤ _; have := hts ts j0 hup hj; omega
 clear hback hup hts h hblk hF hrow c5
 generalize hM : T.length + 1 = M at *
 clear hM
 generalize mtL T = QL at *
 generalize D.b = b at *
 go_enter Try.func45,Try.ntmps45
 go_wp2
 go_loopw [1,5] (fun i v wr => ∃ (j : Nat) (ds rs : List Nat),j < M ∧ i = .int .i64 (j : Int) ∧ Hid (upP QL rs j) ∧ Hid (ds ++ rs = ts) ∧ Hid (wr.ownsRow w.heap.size 34 1 v ds.length (ltV ds)) ∧ Hid (Below w.heap.size w wr)) (fun i _ _ => (intOf i).toNat)
 case atStart => exact ⟨j0,[],ts,hj,rfl,HUP,rfl,⟨rfl,.inl ⟨rfl,rfl⟩⟩,Below.refl _ _⟩
 case round =>
  obtain ⟨j,ds,rs,hjm,rfl,HU,HD,HO,HB⟩ := hrel
  clear HUP
  obtain ⟨va,vc,rfl⟩ := qe HO.out
  by_cases h0 : 0 < j
  ·cases rs with
   | nil => exact absurd HU.out (by show ¬ j = 0; omega)
   | cons b' rs =>
    obtain ⟨_,x,hx,hb,hr⟩ := HU.out
    have HR : Hid _ := hr
    obtain ⟨hfj,hb8⟩ := HBK.out j x h0 hx
    obtain ⟨p,q,f,l⟩ := x
    dsimp only at hb hr hfj hb8 HR
    subst hb
    obtain ⟨hgl,hix,_,_,c2,c3⟩ := q25 HQ.out hx
    have hdl : ds.length ≤ 65536 := by have := HTL.out; have := congrArg List.length HD.out; simp at this; omega
    dsimp only at c2 c3
    have HC2 : Hid _ := c2
    have c5 := q8 HC5.out HB.out
    have c2 := q8 c2 HB.out
    have c3 := q8 c3 HB.out
    have HD2 : Hid ((ds ++ [l]) ++ rs = ts) := by show _ = _; rw [← HD.out]; simp
    have hsz : w.heap.size ≤ (wr.alloc (.cells #[.int .u8 (l : Int)] 34)).heap.size := by have := HB.out.size; simp; omega
    have hcl : (wr.alloc (.cells #[.int .u8 (l : Int)] 34)).cell? ⟨wr.heap.size,0,none⟩ = some (.int .u8 (l : Int)) := q6 (MapKept.heap_alloc wr _).1 0
    clear HU hx hr HD HP
    go_wp2_with (at_builtin; refine q48 rfl _ _ rfl w.heap.size _ ds.length ds rfl (World.ownsRow.alloc HO.out _) wr.heap.size l rfl hcl (by omega) hsz ?_)
    intro v7 w7 hown hgr
    have HO7 : Hid (w7.ownsRow w.heap.size 34 1 v7 (ds ++ [l]).length (ltV (ds ++ [l]))) := by show World.ownsRow _ _ _ _ _ _ _; rw [List.length_append,ltV,List.map_append]; exact hown
    have HB7 : Hid (Below w.heap.size w w7) := (HB.out.alloc HB.out.size _).grown hgr hsz (qm HO.out)
    have c5 := q8 HC5.out HB7.out
    have c2 := q8 HC2.out HB7.out
    clear hown hgr c3 hcl hsz HO HB
    go_wp2
    go_roundw
    case rel => exact ⟨f,ds ++ [l],rs,by omega,rfl,HR,HD2,HO7,HB7⟩
    case measure => simp [intOf]; omega
  ·obtain rfl : j = 0 := by omega
   have hr0 := q9Q HU.out
   subst hr0
   have hds : ds = ts := by have := HD.out; rwa [List.append_nil] at this
   subst hds
   by_cases hn : ds.length = 0
   ·have hd0 : ds = [] := List.eq_nil_of_length_eq_zero hn
    subst hd0
    have HE : Hid _ := HP.out wr va vc HB.out (by simpa using HO.out)
    have jr := q5e va vc wr
    clear HP HU HD HO
    simp only [List.length_nil] at HE ⊢
    go_wp2_with fail
    refine jr.mono ?_
    rintro e w' ⟨rfl,hw'⟩
    subst hw'
    go_wp2
    exact HE.out
   ·obtain ⟨gt,ct,et,hg1,hg2⟩ := World.ownsRow.form HO.out (by omega)
    injection et with et1 et2 et3
    subst et1; subst et3
    have jr := q3R w.heap.size gt vc ds.length ds wr (by omega) (by have := HTL.out; omega) HO.out
    have HE : Hid (∀ w',w'.ownsRow w.heap.size 34 1 (.slice (some ⟨gt,0,none⟩) ds.length vc) ds.length (ltV ds.reverse) → wr.grownBy w' (some gt) → P (.returned (.slice (some ⟨gt,0,none⟩) ds.length vc)) w') := fun w' h1 h2 => HP.out w' _ _ (HB.out.grown h2 HB.out.size (fun q e => by injection e with e; omega)) h1
    clear HP HU HD HO HB
    go_wp2_with fail
    refine jr.mono ?_
    rintro e w' ⟨rfl,h1,h2⟩
    have HE2 : Hid _ := HE.out w' h1 h2
    clear h1 h2 jr HE
    go_wp2
    exact HE2.out
def BrR (p : Int) (nA : Nat) (N : List Gd) (gs : List Int) (w : World) (e : Ending) (w' : World) : Prop :=
 Below w.heap.size w w' ∧ ∃ g c,e = .returned (.slice (some ⟨g,0,none⟩) nA c) ∧ w.heap.size ≤ g ∧ RwM w' g nA (2 ^ p.toNat) (rwA p N gs)
structure LbR (w wr : World) (K : Nat) (R : List (List Nat)) (k : Nat) (v : Value) (vs : List Value) : Prop where
 own : wr.ownsRow (w.heap.size + 1) 23 1 v k vs
 row : ∀ i,i < k → ∃ gi ci cu,vs[i]? = some (.slice (some ⟨gi,0,none⟩) K ci) ∧ wr.heap[gi]? = some (.cells cu 3 (0,0)) ∧ ∀ l,l < K → cu[l]? = some (.int .i64 ((trP R i l : Nat) : Int))
 bel : Below w.heap.size w wr
theorem LbR.fin {w wr : World} {K k : Nat} {R : List (List Nat)} {v : Value} {vs : List Value} (h : LbR w wr K R k v vs) (hk : 0 < k) : ∃ g c,v = .slice (some ⟨g,0,none⟩) k c ∧ w.heap.size ≤ g ∧ RwM wr g k K R := by
 rcases h.own.2 with ⟨_,h0⟩ | ⟨g,cap,cur,rfl,hg,hcell,hnc,hcm,hsz,htk⟩
 ·omega
 ·refine ⟨g,cap,rfl,by omega,cur,hcell,fun i hi => ?_⟩
  obtain ⟨gi,ci,cu,h1,h2,h3⟩ := h.row i hi
  refine ⟨gi,ci,cu,?_,h2,h3⟩
  rw [← htk,List.getElem?_take,if_pos (by omega)] at h1
  simpa using h1
theorem q9r {w : World} {base K : Nat} {a : Option Addr} {c : Nat} {zs : List Int} (h : w.ownsRow base 3 1 (.slice a K c) K (zs.map (Value.int .i64))) (hK : 0 < K) : ∃ g cu,a = some ⟨g,0,none⟩ ∧ base ≤ g ∧ w.heap[g]? = some (.cells cu 3 (0,0)) ∧ ∀ l,l < K → cu[l]? = some (.int .i64 (zs.getD l 0)) := by
 have hlen : zs.length = K := by have := h.1; simpa using this
 rcases h.2 with ⟨_,h0⟩ | ⟨g,cap,cur,e,hg,hcell,hnc,hcm,hsz,htk⟩
 ·omega
 ·injection e with e _ e3
  subst e; subst e3
  refine ⟨g,cur,rfl,hg,hcell,fun l hl => ?_⟩
  have h1 : (cur.toList.take (K * 1))[l]? = (zs.map (Value.int .i64))[l]? := by rw [htk]
  rw [List.getElem?_take,if_pos (by omega),List.getElem?_map,List.getElem?_eq_getElem (l := zs) (by omega)] at h1
  rw [List.getD_eq_getElem?_getD,List.getElem?_eq_getElem (by omega)]
  simpa using h1
theorem q2G (p : Int) (aA : Option Addr) (nA cA : Nat) (aG : Option Addr) (nG cG : Nat) (aN : Option Addr) (nN cN : Nat) (N : List Gd) (gs : List Int) (w : World) (hM : MayG p nA N gs) (hN : NdSl w aN nN cN N) (hG : ZSl w aG nG cG gs) :
  Calls Try.prog 55 #[.agg #[.int .i64 p,.slice aA nA cA,.slice aG nG cG,.slice aN nN cN]] w (BrR p nA N gs w) := by
 obtain ⟨Q,hQ⟩ : ∃ Q,Q = BrR p nA N gs w := ⟨_,rfl⟩
 have HQ : Hid (∀ v vs wr,LbR w wr (2 ^ p.toNat) (rwA p N gs) nA v vs → Q (.returned v) wr) := fun v vs wr h => by
  rw [hQ]
  obtain ⟨g,c,rfl,h1,h2⟩ := h.fin hM.s1
  exact ⟨h.bel,g,c,rfl,h1,h2⟩
 rw [← hQ]
 clear hQ
 have hnG : nG = nA := by have h1 := hG.hlen; have h2 := hM.len; omega
 subst hnG
 have hb0 := q5 w (.cells #[.int .i64 p,.slice aA nG cA,.slice aG nG cG,.slice aN nN cN] 26 (0,0))
 have HB0 : Hid _ := hb0
 have HV0 : Hid _ := qj w p aA nG cA aG nG cG aN nN cN
 have HM : Hid _ := hM
 have HN : Hid _ := hN
 have HG : Hid _ := hG
 have h256 := hM.s2
 have hc2 := HV0.out.c2
 clear hM hN hG
 go_enter Try.func55,Try.ntmps55
 go_wp2
 go_loopw [3,11] (fun v i wr => ∃ (k : Nat) (vs : List Value),k ≤ nG ∧ i = .int .i64 (k : Int) ∧ Hid (LbR w wr (2 ^ p.toNat) (rwA p N gs) k v vs) ∧ Hid (AuB wr w.heap.size p aA nG cA aG nG cG aN nN cN)) (fun _ i _ => nG - (intOf i).toNat)
 case atStart => exact ⟨0,[],Nat.zero_le _,rfl,⟨⟨rfl,.inl ⟨rfl,rfl⟩⟩,fun i hi => by omega,hb0⟩,HV0⟩
 case round =>
  clear hb0 hc2
  obtain ⟨k,vs,hk,rfl,HL,HV⟩ := hrel
  obtain ⟨va,vc,rfl⟩ := qe HL.out.own
  by_cases hlt : k < nG
  ·have ixg := fun w' => HG.out.idx nG k w' hlt (Nat.le_refl _)
   have cg := (HG.out.up HL.out.bel).cell k hlt
   have c0 := HV.out.c0
   have c3 := HV.out.c3
   have hi64 := q2u HM.out (q := k) (by have h2 := HM.out.len; omega)
   have jt := q1M p aN nN cN N (gs.getD k 0) wr (HN.out.up HL.out.bel) hi64
   have HT : Hid (∀ e w6,TabRO p N (gs.getD k 0) wr e w6 → ∃ g6 c6 cu,e = .returned (.tuple #[.slice (some ⟨g6,0,none⟩) (2 ^ p.toNat) c6,.int .i64 0]) ∧ Below wr.heap.size wr w6 ∧ w6.heap[g6]? = some (.cells cu 3 (0,0)) ∧ wr.heap.size ≤ g6 ∧ ∀ l,l < 2 ^ p.toNat → cu[l]? = some (.int .i64 ((trP (rwA p N gs) k l : Nat) : Int))) := fun e w6 hq2 => by
    have htab := HM.out.tab (K := 2 ^ p.toNat) hlt
    have hRr := (HM.out.rows (2 ^ p.toNat)).row k hlt
    obtain ⟨hb,⟨h1,_⟩ | ⟨_,_,⟨h3,_⟩ | ⟨l,a,c,h3,rfl,h4⟩⟩⟩ := hq2
    ·exact absurd ⟨HM.out.p0,HM.out.p8⟩ h1
    ·rw [htab] at h3; cases h3
    ·rw [htab] at h3; injection h3 with h3; subst h3
     have hl : (((rwA p N gs).getD k []).map Int.ofNat).length = 2 ^ p.toNat := by rw [List.length_map]; exact hRr
     rw [hl] at h4 ⊢
     obtain ⟨g6,cu,rfl,h5,h6,h7⟩ := q9r h4 (Nat.pow_pos (by decide))
     refine ⟨g6,c,cu,rfl,hb,h6,h5,fun x hx => ?_⟩
     rw [h7 x hx,qD (by rw [hRr]; exact hx)]; rfl
   generalize gs.getD k 0 = rq at *
   generalize adOf aG k = ag at *
   obtain ⟨ag1,ag2,ag3⟩ := ag
   clear HQ
   go_wp2_with fail
   refine jt.mono ?_
   intro e w6 hq6
   obtain ⟨g6,c6,cu,rfl,hb6,hg6,hge6,hrow6⟩ := HT.out e w6 hq6
   have HO6 := qC HL.out.own hb6
   have hsz : w.heap.size + 1 ≤ (w6.alloc (.cells #[.slice (some ⟨g6,0,none⟩) (2 ^ p.toNat) c6] 23)).heap.size := by have h1 := hb6.size; have h2 := HL.out.bel.size; have := World.block_lt_of_cell? _ _ HV.out.c0; simp at this ⊢; omega
   have hcl : (w6.alloc (.cells #[.slice (some ⟨g6,0,none⟩) (2 ^ p.toNat) c6] 23)).cell? ⟨w6.heap.size,0,none⟩ = some (.slice (some ⟨g6,0,none⟩) (2 ^ p.toNat) c6) := q6 (MapKept.heap_alloc w6 _).1 0
   have HN7 : Hid (∀ v7 w7,w7.ownsRow (w.heap.size + 1) 23 1 v7 (k + 1) (vs ++ [.slice (some ⟨g6,0,none⟩) (2 ^ p.toNat) c6]) → (w6.alloc (.cells #[.slice (some ⟨g6,0,none⟩) (2 ^ p.toNat) c6] 23)).grownBy w7 (Value.slice va k vc).ownBlock → LbR w w7 (2 ^ p.toNat) (rwA p N gs) (k + 1) v7 (vs ++ [.slice (some ⟨g6,0,none⟩) (2 ^ p.toNat) c6]) ∧ AuB w7 w.heap.size p aA nG cA aG nG cG aN nN cN) := fun v7 w7 hown hgr => by
    have hb68 := q7 hb6 (q5 w6 (.cells #[.slice (some ⟨g6,0,none⟩) (2 ^ p.toNat) c6] 23))
    have hge := qm HL.out.own
    have keep : ∀ j,j < (w6.alloc (.cells #[.slice (some ⟨g6,0,none⟩) (2 ^ p.toNat) c6] 23)).heap.size → (Value.slice va k vc).ownBlock ≠ some j → w7.heap[j]? = (w6.alloc (.cells #[.slice (some ⟨g6,0,none⟩) (2 ^ p.toNat) c6] 23)).heap[j]? := fun j hj hne => hgr.block j hj (fun e => hne e.symm)
    have hint : ∀ (W : World) (gi : Nat) (cu : Array Value),W.ownsRow (w.heap.size + 1) 23 1 (.slice va k vc) k vs → W.heap[gi]? = some (.cells cu 3 (0,0)) → (Value.slice va k vc).ownBlock ≠ some gi := fun W gi cu ho hc => q14 ho hc (fun cs e => by injection e with _ e _; exact absurd e (by decide))
    have hlen : vs.length = k := by have := HL.out.own.1; omega
    have hau := HV.out.up hb68
    have hbb := (q7 HL.out.bel hb68)
    have c : (Value.slice va k vc).ownBlock ≠ some w.heap.size := fun e => by have := hge _ e; omega
    refine ⟨⟨hown,fun i hi => ?_,hbb.grown hgr hbb.size (fun q e => by have := hge q e; omega)⟩,?_,?_,?_,?_⟩
    ·by_cases hik : i < k
     ·obtain ⟨gi,ci,cu',h1,h2,h3⟩ := HL.out.row i hik
      have h2' := (hb68.block gi (Array.getElem?_eq_some_iff.1 h2).1).trans h2
      refine ⟨gi,ci,cu',by rw [List.getElem?_append_left (by omega)]; exact h1,(keep gi (Array.getElem?_eq_some_iff.1 h2').1 (hint wr gi cu' HL.out.own h2)).trans h2',h3⟩
     ·have ei : i = k := by omega
      subst ei
      have hg6' := ((q5 w6 (.cells #[.slice (some ⟨g6,0,none⟩) (2 ^ p.toNat) c6] 23)).block g6 (Array.getElem?_eq_some_iff.1 hg6).1).trans hg6
      refine ⟨g6,c6,cu,by rw [List.getElem?_append_right (by omega),hlen]; simp,(keep g6 (Array.getElem?_eq_some_iff.1 hg6').1 (hint w6 g6 cu HO6 hg6)).trans hg6',hrow6⟩
    ·exact qJ hau.c0 hgr (fun e => c e.symm)
    ·exact qJ hau.c1 hgr (fun e => c e.symm)
    ·exact qJ hau.c2 hgr (fun e => c e.symm)
    ·exact qJ hau.c3 hgr (fun e => c e.symm)
   clear HT jt hq6 hg6 hrow6 ixg cg c0 c3 HL HV hb6
   go_wp2_with (at_builtin; refine q1p rfl _ _ rfl (w.heap.size + 1) _ k vs rfl (World.ownsRow.alloc HO6 _) w6.heap.size (some ⟨g6,0,none⟩) (2 ^ p.toNat) c6 rfl hcl (by omega) hsz ?_)
   intro g7 c7 w7 hown hgr _
   obtain ⟨hL7,hV7⟩ := HN7.out _ w7 hown hgr
   have HL7 : Hid _ := hL7
   have HV7 : Hid _ := hV7
   clear hown hgr hcl hsz HO6 HN7 hL7 hV7
   go_wp2
   go_roundw
   case rel => exact ⟨k + 1,_,by omega,by go_num,HL7,HV7⟩
   case measure => simp [intOf]; omega
  ·obtain rfl : k = nG := by omega
   have HE : Hid _ := HQ.out _ vs wr HL.out
   clear HQ HL HV
   go_wp2
   exact HE.out
theorem NumB.upB {w w' : World} {b n : Nat} {f : Nat × Nat → Option Nat} (h : NumB w b n f) (hb : Below w.heap.size w w') : NumB w' b n f := h.far (hb.block b h.lt)
def BkH (w : World) (g : Nat) (o : Obj) : Prop := w.heap[g]? = some o
theorem BkH.upB {w w' : World} {g : Nat} {o : Obj} (h : BkH w g o) (hb : Below w.heap.size w w') : BkH w' g o := (hb.block g (Array.getElem?_eq_some_iff.1 h).1).trans h
theorem qy (w : World) (o : Obj) : BkH (w.alloc o) w.heap.size o := (MapKept.heap_alloc w o).1
theorem qh {w : World} {g : Nat} {o : Obj} (h : g = w.heap.size) : BkH (w.alloc o) g o := by rw [h]; exact qy w o
theorem q7H {w : World} {g : Nat} (h : g = w.heap.size) : NumB (w.alloc (.map #[] 0)) g 0 (fun _ => none) := by rw [h]; exact q8h w
theorem q3V {W0 w w' : World} {g h : Nat} {x0 x1 x2 x3 y0 y1 y2 y3 : Value} (hb : Below w.heap.size w w')
  (hs : w.cell? ⟨g,0,none⟩ = some x0 ∧ w.cell? ⟨g,1,none⟩ = some x1 ∧ w.cell? ⟨g,2,none⟩ = some x2 ∧ w.cell? ⟨g,3,none⟩ = some x3 ∧ w.cell? ⟨h,0,none⟩ = some y0 ∧ w.cell? ⟨h,1,none⟩ = some y1 ∧ w.cell? ⟨h,2,none⟩ = some y2 ∧ w.cell? ⟨h,3,none⟩ = some y3 ∧ Hid (Below W0.heap.size W0 w)) :
  w'.cell? ⟨g,0,none⟩ = some x0 ∧ w'.cell? ⟨g,1,none⟩ = some x1 ∧ w'.cell? ⟨g,2,none⟩ = some x2 ∧ w'.cell? ⟨g,3,none⟩ = some x3 ∧ w'.cell? ⟨h,0,none⟩ = some y0 ∧ w'.cell? ⟨h,1,none⟩ = some y1 ∧ w'.cell? ⟨h,2,none⟩ = some y2 ∧ w'.cell? ⟨h,3,none⟩ = some y3 ∧ Hid (Below W0.heap.size W0 w') := by
 obtain ⟨h0,h1,h2,h3,h4,h5,h6,h7,h8⟩ := hs
 exact ⟨q8 h0 hb,q8 h1 hb,q8 h2 hb,q8 h3 hb,q8 h4 hb,q8 h5 hb,q8 h6 hb,q8 h7 hb,q7 h8.out hb⟩
theorem bgS_b {W0 w : World} {g h : Nat} {x0 x1 x2 x3 y0 y1 y2 y3 : Value}
  (hs : w.cell? ⟨g,0,none⟩ = some x0 ∧ w.cell? ⟨g,1,none⟩ = some x1 ∧ w.cell? ⟨g,2,none⟩ = some x2 ∧ w.cell? ⟨g,3,none⟩ = some x3 ∧ w.cell? ⟨h,0,none⟩ = some y0 ∧ w.cell? ⟨h,1,none⟩ = some y1 ∧ w.cell? ⟨h,2,none⟩ = some y2 ∧ w.cell? ⟨h,3,none⟩ = some y3 ∧ Hid (Below W0.heap.size W0 w)) : Hid (Below W0.heap.size W0 w) := hs.2.2.2.2.2.2.2.2
def BgnR (p : Int) (nA nB : Nat) (bs cs : List Bool) (N : List Gd) (gs : List Int) (M : List Gd) (hs : List Int) (w : World) (e : Ending) (w' : World) : Prop :=
 Below w.heap.size w w' ∧ ∃ (D : PD) (F : Nat → Prop),e = .returned (.pointer (some ⟨D.b,0,none⟩)) ∧ PrS D w' F [] ∧ D.w0 = w ∧ D.nA = nA ∧ D.nB = nB ∧ D.K = 2 ^ p.toNat ∧ D.bs = bs ∧ D.bs' = cs ∧ D.R = rwA p N gs ∧ D.R' = rwA p M hs
theorem q2F (p : Int) (aA : Option Addr) (nA cA : Nat) (aG : Option Addr) (nG cG : Nat) (aN : Option Addr) (nN cN : Nat) (bA : Option Addr) (mA dA : Nat) (bG : Option Addr) (mG dG : Nat) (bN : Option Addr) (mN dN : Nat) (bs cs : List Bool) (N : List Gd) (gs : List Int) (M : List Gd) (hs : List Int) (w : World)
  (hM : MayG p nA N gs) (hN : NdSl w aN nN cN N) (hG : ZSl w aG nG cG gs) (hB : BoSl w aA nA cA bs) (kM : MayG p mA M hs) (kN : NdSl w bN mN dN M) (kG : ZSl w bG mG dG hs) (kB : BoSl w bA mA dA cs) :
  Calls Try.prog 38 #[.agg #[.int .i64 p,.slice aA nA cA,.slice aG nG cG,.slice aN nN cN],.agg #[.int .i64 p,.slice bA mA dA,.slice bG mG dG,.slice bN mN dN]] w (BgnR p nA mA bs cs N gs M hs w) := by
 obtain ⟨Q,hQ⟩ : ∃ Q,Q = BgnR p nA mA bs cs N gs M hs w := ⟨_,rfl⟩
 have HQ : Hid (∀ W b m gm gA tA gB tB,Below w.heap.size w W → w.heap.size ≤ b → w.heap.size ≤ m → w.heap.size ≤ gm → RwM W gA nA (2 ^ p.toNat) (rwA p N gs) → RwM W gB mA (2 ^ p.toNat) (rwA p M hs) → NumB W m 0 (fun _ => none) → BkH W gm (.cells #[.int .i64 0,.int .i64 0,.int .i64 0,.int .u8 0] 90 (0,0)) →
   BkH W b (.cells #[.slice aA nA cA,.slice bA mA dA,.slice (some ⟨gA,0,none⟩) nA tA,.slice (some ⟨gB,0,none⟩) mA tB,.map (some m),.slice (some ⟨gm,0,none⟩) 1 1] 70 (0,0)) → Q (.returned (.pointer (some ⟨b,0,none⟩))) W) := fun W b m gm gA tA gB tB hb h1 h2 h3 h4 h5 h6 h7 h8 => by
  rw [hQ]
  refine ⟨hb,⟨w,b,m,aA,nA,cA,bA,mA,dA,gA,tA,gB,tB,2 ^ p.toNat,bs,cs,rwA p N gs,rwA p M hs⟩,fun k => k = b ∨ k = m ∨ k = gm,rfl,⟨hb,fun k hk => ?_,fun e he => by simp at he,h4,h5,hB,kB,h6.alike fun x => rfl,.slice (some ⟨gm,0,none⟩) 1 1,h8,⟨rfl,.inr ⟨gm,1,_,rfl,Nat.zero_le _,h7,Nat.le_refl _,by decide,rfl,rfl⟩⟩,fun k => by simp only [Value.ownBlock,Option.some.injEq,eq_comm (a := gm)]⟩,rfl,rfl,rfl,rfl,rfl,rfl,rfl,rfl⟩
  rcases hk with rfl | rfl | rfl <;> assumption
 rw [← hQ]
 clear hQ
 obtain ⟨W1,hW1⟩ : ∃ W1,W1 = (w.alloc (.cells #[.int .i64 p,.slice aA nA cA,.slice aG nG cG,.slice aN nN cN] 26 (0,0))).alloc (.cells #[.int .i64 p,.slice bA mA dA,.slice bG mG dG,.slice bN mN dN] 26 (0,0)) := ⟨_,rfl⟩
 have hb1 : Below w.heap.size w W1 := by rw [hW1]; exact q7 (q5 w _) (q5 _ _)
 have hv0 := (qj w p aA nA cA aG nG cG aN nN cN).up (q5 _ (.cells #[.int .i64 p,.slice bA mA dA,.slice bG mG dG,.slice bN mN dN] 26 (0,0)))
 have hv1 := qj (w.alloc (.cells #[.int .i64 p,.slice aA nA cA,.slice aG nG cG,.slice aN nN cN] 26 (0,0))) p bA mA dA bG mG dG bN mN dN
 rw [← hW1] at hv0 hv1
 rw [show (w.alloc (.cells #[.int .i64 p,.slice aA nA cA,.slice aG nG cG,.slice aN nN cN] 26 (0,0))).heap.size = w.heap.size + 1 by simp] at hv1
 have hs0 : W1.cell? ⟨w.heap.size,0,none⟩ = some (.int .i64 p) ∧ W1.cell? ⟨w.heap.size,1,none⟩ = some (.slice aA nA cA) ∧ W1.cell? ⟨w.heap.size,2,none⟩ = some (.slice aG nG cG) ∧ W1.cell? ⟨w.heap.size,3,none⟩ = some (.slice aN nN cN) ∧ W1.cell? ⟨w.heap.size + 1,0,none⟩ = some (.int .i64 p) ∧ W1.cell? ⟨w.heap.size + 1,1,none⟩ = some (.slice bA mA dA) ∧ W1.cell? ⟨w.heap.size + 1,2,none⟩ = some (.slice bG mG dG) ∧ W1.cell? ⟨w.heap.size + 1,3,none⟩ = some (.slice bN mN dN) ∧ Hid (Below w.heap.size w W1) := ⟨hv0.c0,hv0.c1,hv0.c2,hv0.c3,hv1.c0,hv1.c1,hv1.c2,hv1.c3,hb1⟩
 have HRA : Hid (∀ W,Hid (Below w.heap.size w W) → Calls Try.prog 55 #[.agg #[.int .i64 p,.slice aA nA cA,.slice aG nG cG,.slice aN nN cN]] W fun e w6 => ∃ g c,e = .returned (.slice (some ⟨g,0,none⟩) nA c) ∧ Hid (RwM w6 g nA (2 ^ p.toNat) (rwA p N gs)) ∧ Hid (Below W.heap.size W w6)) := fun W hb => (q2G p aA nA cA aG nG cG aN nN cN N gs W hM (hN.up hb.out) (hG.up hb.out)).mono fun e w6 ⟨h1,g,c,h2,_,h3⟩ => ⟨g,c,h2,h3,h1⟩
 have HRB : Hid (∀ W,Hid (Below w.heap.size w W) → Calls Try.prog 55 #[.agg #[.int .i64 p,.slice bA mA dA,.slice bG mG dG,.slice bN mN dN]] W fun e w6 => ∃ g c,e = .returned (.slice (some ⟨g,0,none⟩) mA c) ∧ Hid (RwM w6 g mA (2 ^ p.toNat) (rwA p M hs)) ∧ Hid (Below W.heap.size W w6)) := fun W hb => (q2G p bA mA dA bG mG dG bN mN dN M hs W kM (kN.up hb.out) (kG.up hb.out)).mono fun e w6 ⟨h1,g,c,h2,_,h3⟩ => ⟨g,c,h2,h3,h1⟩
 have hmm := @run_makeMap Try.prog
 have HW1 : Hid _ := hW1
 have HB1 : Hid _ := hb1
 clear hM hN hG hB kM kN kG kB hv0 hv1 hW1 hb1
 generalize 2 ^ p.toNat = K at *
 generalize rwA p N gs = R at *
 generalize rwA p M hs = R' at *
 go_enter Try.func38,Try.ntmps38
 go_upto_region 15 with (rw [← HW1.out])
 go_region_held3 (fun w' => w'.cell? ⟨w.heap.size,0,none⟩ = some (.int .i64 p) ∧ w'.cell? ⟨w.heap.size,1,none⟩ = some (.slice aA nA cA) ∧ w'.cell? ⟨w.heap.size,2,none⟩ = some (.slice aG nG cG) ∧ w'.cell? ⟨w.heap.size,3,none⟩ = some (.slice aN nN cN) ∧ w'.cell? ⟨w.heap.size + 1,0,none⟩ = some (.int .i64 p) ∧ w'.cell? ⟨w.heap.size + 1,1,none⟩ = some (.slice bA mA dA) ∧ w'.cell? ⟨w.heap.size + 1,2,none⟩ = some (.slice bG mG dG) ∧ w'.cell? ⟨w.heap.size + 1,3,none⟩ = some (.slice bN mN dN) ∧ Hid (Below w.heap.size w w'))
  (first | assumption | exact q3V (q5 _ _) (by assumption) | exact q3V ((Below.refl _ _).drew) (by assumption) | exact hs0 | fail) (first
  | (go_at_call 55; (with_reducible refine (HRA.out _ (bgS_b (by assumption))).mono ?_); rintro e wA ⟨gA,tA,rfl,HGA,HBA⟩; have hsA := q3V HBA.out (by assumption))
  | (go_at_call 55; (with_reducible refine (HRB.out _ (bgS_b (by assumption))).mono ?_); rintro e wB ⟨gB,tB,rfl,HGB,HBB⟩; have hsB := q3V HBB.out (by assumption))
  | fail)
 all_goals
  go_wp2
  have h1 := HBA.out.size
  have h2 := HBB.out.size
  have h3 := HB1.out.size
  (try simp at h1)
  (try simp at h2)
  refine HQ.out _ _ _ _ gA tA gB tB ?_ ?_ ?_ ?_ ?_ ?_ ?_ ?_ (qh ?_)
  ·repeat (first | exact (bgS_b hsB).out | refine q7 ?_ (q5 _ _))
  ·omega
  ·omega
  ·omega
  ·repeat (first | exact HGA.out | refine RwM.up ?_ (q5 _ _) | refine RwM.up ?_ HBB.out)
  ·repeat (first | exact HGB.out | refine RwM.up ?_ (q5 _ _))
  ·repeat (first | exact q7H (by simp) | refine NumB.upB ?_ (q5 _ _) | refine NumB.upB ?_ HBB.out | refine NumB.upB ?_ HBA.out | refine NumB.upB ?_ ((Below.refl _ _).drew))
  ·repeat (first | exact qh (by simp) | refine BkH.upB ?_ (q5 _ _) | refine BkH.upB ?_ HBB.out | refine BkH.upB ?_ HBA.out | refine BkH.upB ?_ ((Below.refl _ _).drew))
  ·simp
structure ClQ (D : PgD) (K : Nat) (R : List (List Nat)) (bs : List Bool) (w wr : World) (vi vw vq : Value) (vs : List Value) (of : List Nat) (ins : List (List Nat)) (ws : List Bool) (qu : List Nat) : Prop where
 pg : PgW D wr vi vw vq vs of ins ws qu
 hop : HopH D.S K R bs [] K of ins ws qu
 acc : ∀ s t,s < D.S → t < D.S → of.getD s 0 = of.getD t 0 → bs.getD s false = bs.getD t false
 mx : qu.length ≤ ins.length
theorem ClQ.fin {D : PgD} {K : Nat} {R : List (List Nat)} {bs : List Bool} {w wr : World} {vi vw vq : Value} {vs : List Value} {of : List Nat} {ins : List (List Nat)} {ws : List Bool} (h : ClQ D K R bs w wr vi vw vq vs of ins ws []) (hw : D.w0 = w) : ClbR D.S K R bs w (.returned (.tuple #[.slice (some ⟨D.go,0,none⟩) D.S D.S,.bool true])) wr := by
 refine ⟨by rw [← hw]; exact h.pg.bel,D.go,of,rfl,by rw [← hw]; exact h.pg.ge _ (.inr (.inl rfl)),h.pg.fo,h.pg.ol,h.hop.done h.acc,fun s hs => ?_⟩
 have := h.hop.prt.lt s hs
 have := h.hop.prt.few
 omega
def clM (D : PgD) (wr : World) : Nat := match wr.cell? ⟨D.b,2,none⟩,wr.cell? ⟨D.b,4,none⟩ with
 | some (.slice _ n _),some (.slice _ m _) => 2 * (D.S + 1 - n) + m
 | _,_ => 0
theorem ClQ.left {D : PgD} {K : Nat} {R : List (List Nat)} {bs : List Bool} {w wr : World} {vi vw vq : Value} {vs : List Value} {of : List Nat} {ins : List (List Nat)} {ws : List Bool} {qu : List Nat} (h : ClQ D K R bs w wr vi vw vq vs of ins ws qu) : clM D wr = 2 * (D.S + 1 - ins.length) + qu.length := by
 obtain ⟨_,_,c2,_,c4,_⟩ := h.pg.c
 obtain ⟨a,c,e⟩ := qe h.pg.fi
 obtain ⟨a',c',e'⟩ := qe h.pg.fq
 unfold clM
 rw [c2,c4,e,e']
theorem q3p (S K : Nat) (R : List (List Nat)) (B : List (List (Nat × Nat))) (bs : List Bool) (gB cB : Nat) (aA : Option Addr) (cA : Nat) (w : World) (hbk : BwM w gB S B) (hB : BoSl w aA S cA bs) (hR : RowsP S K R) (hBk : BkOk S K R B) (hS0 : 0 < S) (hS1 : S ≤ 256) (hK : K ≤ 256) (hBs : ∀ s,s < S → (B.getD s []).length ≤ 100000) :
  Calls Try.prog 41 #[.slice (some ⟨gB,0,none⟩) S cB,.slice aA S cA] w (ClbR S K R bs w) := by
 obtain ⟨Z,eZ⟩ : ∃ Z,Z = ClbR S K R bs w := ⟨_,rfl⟩
 obtain ⟨D,hD⟩ : ∃ D : PgD,D = ⟨w,w.heap.size + 3,w.heap.size,S,gB,cB,B⟩ := ⟨_,rfl⟩
 have d1 : D.w0 = w := by rw [hD]
 have d2 : D.b = w.heap.size + 3 := by rw [hD]
 have d3 : D.go = w.heap.size := by rw [hD]
 have d4 : D.S = S := by rw [hD]
 have d5 : D.gB = gB := by rw [hD]
 have d6 : D.cB = cB := by rw [hD]
 have d7 : D.B = B := by rw [hD]
 have HZ : Hid (∀ wr vi vw vq vs of ins ws,ClQ D K R bs w wr vi vw vq vs of ins ws [] → Z (.returned (.tuple #[.slice (some ⟨D.go,0,none⟩) S S,.bool true])) wr) := fun wr vi vw vq vs of ins ws h => by
  rw [eZ]
  have := h.fin d1
  rw [d4] at this; exact this
 rw [← eZ]
 clear eZ
 obtain ⟨w4,hw4⟩ : ∃ w4,w4 = (((w.alloc (.cells (Array.replicate S (.int .i64 0)) 3)).alloc (.cells #[.slice none 0 0] 23)).alloc (.cells #[.bool false] 4)).alloc (.cells #[.slice (some ⟨gB,0,none⟩) S cB,.slice (some ⟨w.heap.size,0,none⟩) S S,.slice (some ⟨w.heap.size + 1,0,none⟩) 1 1,.slice (some ⟨w.heap.size + 1 + 1,0,none⟩) 1 1,.slice none 0 0] 96 (0,0)) := ⟨_,rfl⟩
 have hbw : Below w.heap.size w w4 := by rw [hw4]; exact q7 (q7 (q7 (q5 w _) (q5 _ _)) (q5 _ _)) (q5 _ _)
 have HL0 : Hid (ClL D w w4 (w.heap.size + 1) (w.heap.size + 1 + 1) 0 (.slice none 0 0) (.slice none 0 0) (acH bs 0)) := by
  refine ⟨?_,?_,?_,?_,⟨rfl,.inl ⟨rfl,rfl⟩⟩,⟨rfl,.inl ⟨rfl,rfl⟩⟩,(fun k hk => by cases hk),hbw,d3,rfl,rfl,d2⟩
  ·have h1 : BkH w4 w.heap.size (.cells (Array.replicate S (.int .i64 0)) 3) := by
    rw [hw4]; exact (((qy w _).upB (q5 _ _)).upB (q5 _ _)).upB (q5 _ _)
   rw [d3,d4]
   unfold IzB
   rw [show ((List.replicate S (0 : Int)).map (Value.int .i64)).toArray = Array.replicate S (.int .i64 0) by simp]
   exact h1
  ·have h1 : BkH w4 (w.heap.size + 1) (.cells #[.slice none 0 0] 23) := by
    rw [hw4]; exact ((qh (by simp)).upB (q5 _ _)).upB (q5 _ _)
   exact h1
  ·have h1 : BkH w4 (w.heap.size + 1 + 1) (.cells #[.bool false] 4) := by
    rw [hw4]; exact (qh (by simp)).upB (q5 _ _)
   exact h1
  ·have h1 : BkH w4 (w.heap.size + 3) (.cells #[.slice (some ⟨gB,0,none⟩) S cB,.slice (some ⟨w.heap.size,0,none⟩) S S,.slice (some ⟨w.heap.size + 1,0,none⟩) 1 1,.slice (some ⟨w.heap.size + 1 + 1,0,none⟩) 1 1,.slice none 0 0] 96 (0,0)) := by
    rw [hw4]; exact qh (by simp)
   rw [d2,pgO,d5,d4,d6,d3]
   exact h1
 have hmk := fun w => qT S (S : Int) rfl (by omega) w
 rw [show ((List.replicate S (0 : Int)).map (Value.int .i64)).toArray = Array.replicate S (.int .i64 0) by simp] at hmk
 have HW4 : Hid _ := hw4
 have HBO : Hid _ := hB
 have HBW : Hid (BwM w D.gB D.S D.B) := by rw [d5,d4,d7]; exact hbk
 have HRR : Hid (RowsP D.S K R) := by rw [d4]; exact hR
 have HBK : Hid (BkOk D.S K R D.B) := by rw [d4,d7]; exact hBk
 have HBS : Hid (∀ s,s < D.S → (D.B.getD s []).length ≤ 100000) := by rw [d4,d7]; exact hBs
 have HD1 : Hid _ := d1
 have HD2 : Hid _ := d2
 have HD4 : Hid _ := d4
 clear hw4 hB hbk hR hBk hBs hbw hD d1 d3 d5 d6 d7 d4 d2
 go_enter Try.func41,Try.ntmps41
 go_wp2_with (rw [← HW4.out])
 clear hmk
 rw [show w.heap.size + 1 + 1 + 1 = D.b from HD2.out.symm]
 go_loopw [7,22] (fun v7 i wr => ∃ (k : Nat) (v0 : Value),k ≤ S ∧ i = .int .i64 (k : Int) ∧ Hid (ClL D w wr (w.heap.size + 1) (w.heap.size + 1 + 1) k v0 v7 (acH bs k))) (fun _ i _ => S - (intOf i).toNat)
 case atStart => exact ⟨0,_,Nat.zero_le _,rfl,HL0⟩
 case round =>
  clear HL0
  obtain ⟨k,v0,hk,rfl,HL⟩ := hrel
  obtain ⟨a0,c0,e0⟩ := qe HL.out.o0
  obtain ⟨a7,c7,e7⟩ := qe HL.out.o7
  subst e0 e7
  by_cases hlt : k < S
  ·obtain ⟨ixa,ca⟩ := (HBO.out.up HL.out.bel).getB hlt
   have c2 : wr.cell? ⟨D.b,2,none⟩ = some (.slice (some ⟨w.heap.size + 1,0,none⟩) 1 1) := q6 HL.out.blk 2
   have ci : wr.cell? ⟨w.heap.size + 1,0,none⟩ = some (.slice a0 k c0) := q6 HL.out.fi 0
   have hO : (wr.alloc (.cells #[.int .i64 (k : Int)] 3)).drew.ownsRow (w.heap.size + 4) 3 1 (.slice a0 k c0) k (izV (List.range k)) := World.ownsRow.alloc HL.out.o0 _
   have hcl : (wr.alloc (.cells #[.int .i64 (k : Int)] 3)).drew.cell? ⟨wr.heap.size,0,none⟩ = some (.int .i64 (k : Int)) := q6 (MapKept.heap_alloc wr _).1 0
   have hsz : w.heap.size + 4 ≤ (wr.alloc (.cells #[.int .i64 (k : Int)] 3)).drew.heap.size := by
    have h1 := (Array.getElem?_eq_some_iff.1 HL.out.blk).1
    have h2 := HL.out.lo.2.2.2
    simp; omega
   have c2b := q8 c2 (q5 wr (.cells #[.int .i64 (k : Int)] 3))
   have cib := q8 ci (q5 wr (.cells #[.int .i64 (k : Int)] 3))
   have HPUT : Hid _ := fun g c w5 q1 q2 q3 => HL.out.put0 (o := .cells #[.int .i64 (k : Int)] 3) (w5 := w5) (g := g) (c := c) q1 q2 q3
   have HAC : Hid _ := q8N bs k
   have hal := q9X bs k
   clear HL
   generalize bs.getD k false = y at *
   generalize adOf aA k = ad at *
   obtain ⟨ag,ao,az⟩ := ad
   go_upto_region 15 with fail
   go_region_law ((refine q2Z rfl _ _ rfl (w.heap.size + 4) (.slice a0 k c0) k (List.range k) k wr.heap.size rfl rfl hO hcl (by omega) hsz ?_; intro g5 d5 w5 hown5 hgr5 hloc5; have m5 := HPUT.out g5 d5 w5 hown5 hgr5 hloc5; have c5' : w5.cell? ⟨w.heap.size + 1,0,none⟩ = some (.slice a0 k c0) := q6 m5.1 0; have z5 : w5.frozen? ⟨w.heap.size + 1,0,none⟩ = false := frozen_of_row w5 _ 0 _ _ m5.1; have b5 : w5.cell? ⟨D.b,2,none⟩ = some (.slice (some ⟨w.heap.size + 1,0,none⟩) 1 1) := q6 m5.2.1 2))
   all_goals
    have HL5 : Hid _ := m5.2.2
    clear m5 hown5 hgr5 hloc5 c5' z5 b5 HPUT hO hcl c2 ci c2b cib hsz ixa ca
    generalize w5.setCell ⟨w.heap.size + 1,0,none⟩ (.slice (some ⟨g5,0,none⟩) (k + 1) d5) = w6 at *
    cases y with
    | false =>
     have HL6 : Hid (ClL D w w6 (w.heap.size + 1) (w.heap.size + 1 + 1) (k + 1) (.slice (some ⟨g5,0,none⟩) (k + 1) d5) (.slice a7 (acH bs k).length c7) (acH bs (k + 1))) := by
      show ClL _ _ _ _ _ _ _ _ _
      rw [HAC.out]; exact HL5.out
     clear HL5 HAC
     go_wp2
     go_roundw
     case rel => exact ⟨k + 1,_,by omega,by go_num,HL6⟩
     case measure => simp [intOf]; omega
    | true =>
     have hO7 := World.ownsRow.alloc HL5.out.o7 (.cells #[.int .i64 (k : Int)] 3)
     have hcl7 : (w6.alloc (.cells #[.int .i64 (k : Int)] 3)).cell? ⟨w6.heap.size,0,none⟩ = some (.int .i64 (k : Int)) := q6 (MapKept.heap_alloc w6 _).1 0
     have hsz7 : w.heap.size + 4 ≤ (w6.alloc (.cells #[.int .i64 (k : Int)] 3)).heap.size := by
      have h1 := (Array.getElem?_eq_some_iff.1 HL5.out.blk).1
      have h2 := HL5.out.lo.2.2.2
      simp; omega
     have HP7 : Hid (∀ g c w7,w7.ownsRow (w.heap.size + 4) 3 1 (.slice (some ⟨g,0,none⟩) ((acH bs k).length + 1) c) ((acH bs k).length + 1) (izV (acH bs k ++ [k])) → (w6.alloc (.cells #[.int .i64 (k : Int)] 3)).grownBy w7 (Value.slice a7 (acH bs k).length c7).ownBlock → ((Value.slice a7 (acH bs k).length c7).ownBlock = some g ∨ g = w6.heap.size + 1) → ClL D w w7 (w.heap.size + 1) (w.heap.size + 1 + 1) (k + 1) (.slice (some ⟨g5,0,none⟩) (k + 1) d5) (.slice (some ⟨g,0,none⟩) ((acH bs k).length + 1) c) (acH bs (k + 1))) := fun g c w7 q1 q2 q3 => by
      rw [HAC.out]; exact HL5.out.put7 q1 q2 (q3.imp id (fun e => by simpa using e))
     clear HL5 HAC
     generalize acH bs k = ac at *
     generalize hacl : ac.length = al at *
     clear hacl
     go_wp2_with (at_builtin; refine qQ rfl _ _ rfl (w.heap.size + 4) _ al ac rfl hO7 w6.heap.size k rfl hcl7 (by omega) hsz7 ?_)
     intro g9 c9 w9 hown hgr hloc
     have HL9 : Hid _ := HP7.out g9 c9 w9 hown hgr (hloc.imp id (fun e => by simpa using e))
     clear hown hgr hloc hO7 hcl7 hsz7 HP7
     go_wp2
     go_roundw
     case rel => exact ⟨k + 1,_,by omega,by go_num,HL9⟩
     case measure => simp [intOf]; omega
  ·obtain rfl : k = S := by omega
   have hL := HL.out
   rw [← HD4.out] at hL
   obtain ⟨a7',c7',e7',hP,hls⟩ := hL.fin HD1.out HBW.out
   rw [HD4.out] at e7'
   injection e7' with e71 _ e73
   subst e71 e73
   have HP : Hid _ := hP
   have jp := q2U hP (q3Y (K := K) (R := R) (bs := bs) (by rw [HD4.out]; exact hS0) [] K) HRR.out rfl (by rw [HD4.out]; omega) (by simp) a7 c7 (acH bs D.S) hls (fun x hx => (q2i.1 hx).1) (q80 _ _) (fun s t hs ht hst => by
    rw [q2i,q2i]
    have := hst [] (fun _ h => by cases h)
    have e : bs.getD s false = bs.getD t false := this
    rw [e]
    exact ⟨fun h => ⟨ht,h.2⟩,fun h => ⟨hs,h.2⟩⟩)
   rw [HD4.out] at jp
   have HN : Hid (∀ w5,PtgL D k K R bs [] K (List.replicate k 0) [List.range k] [] (acH bs k) 1 wr (.slice (some ⟨w.heap.size + 1,0,none⟩) 1 1) (.slice (some ⟨w.heap.size + 1 + 1,0,none⟩) 1 1) (.slice none 0 0) w5 → ∃ vi vw vq vs of ins ws qu,ClQ D K R bs w w5 vi vw vq vs of ins ws qu) := fun w5 h5 => by
    obtain ⟨of5,ins5,ws5,qu5,⟨vi5,vw5,vq5,vs5,hp5,hf5⟩,hpt⟩ := h5
    have hst := q3Y (K := K) (R := R) (bs := bs) hS0 [] K
    refine ⟨vi5,vw5,vq5,vs5,of5,ins5,ws5,qu5,hp5,by rw [HD4.out]; exact hpt.hop,fun s t hs ht e => ?_,?_⟩
    ·rw [HD4.out] at hs ht
     have := ((hpt.done hst.prt hs ht).1 e).2
     rw [q2i,q2i] at this
     cases h1 : bs.getD s false <;> cases h2 : bs.getD t false <;> simp [-List.getD_eq_getElem?_getD,h1,h2,hs,ht] at this ⊢
    ·have := hpt.cnt
     simp at this
     omega
   clear hL hP hls HL HP
   go_wp2_with fail
   refine jp.mono ?_
   rintro e w5 ⟨rfl,h5⟩
   obtain ⟨vi5,vw5,vq5,vs5,of5,ins5,ws5,qu5,hQ5⟩ := HN.out w5 h5
   have HQ0 : Hid _ := hQ5
   clear h5 HN jp hQ5
   go_wp2
   go_loopw [10] (fun _ wr => ∃ (vi vw vq : Value) (vs : List Value) (of : List Nat) (ins : List (List Nat)) (ws : List Bool) (qu : List Nat),Hid (ClQ D K R bs w wr vi vw vq vs of ins ws qu)) (fun _ wr => clM D wr)
   case atStart => exact ⟨vi5,vw5,vq5,vs5,of5,ins5,ws5,qu5,HQ0⟩
   case round =>
    clear HQ0
    obtain ⟨vi,vw,vq,vs,of,ins,ws,qu,HQ⟩ := hrel
    have hfew := HQ.out.hop.prt.few
    rw [HD4.out] at hfew
    have hmx := HQ.out.mx
    obtain ⟨ia,ic,rfl⟩ := qe HQ.out.pg.fi
    by_cases hqe : qu = []
    ·subst hqe
     obtain ⟨qa,qc,rfl⟩ := qe HQ.out.pg.fq
     obtain ⟨_,c1,c2,_,c4,_⟩ := HQ.out.pg.c
     have HE : Hid _ := HZ.out wr _ _ _ _ _ _ _ HQ.out
     rw [HD4.out] at c1
     have hno : ¬ ((256 : Int) < (ins.length : Int)) := by omega
     clear HZ HQ
     generalize ins.length = n5 at *
     go_wp2
     exact HE.out
    ·obtain ⟨qq,c,rfl⟩ : ∃ qq c,qu = qq ++ [c] := ⟨qu.dropLast,qu.getLast hqe,(List.dropLast_concat_getLast hqe).symm⟩
     have hc : c < ins.length := HQ.out.hop.ql c (by simp)
     have hcw : c < ws.length := by rw [HQ.out.hop.wl]; exact hc
     obtain ⟨_,_,c2,_,c4,fz⟩ := HQ.out.pg.c
     have f4 := fz 4
     obtain ⟨gq,cq,rfl,hcap,ccq,hP1,hF1⟩ := HQ.out.pg.popQ
     obtain ⟨_,_,_,c3,_,_⟩ := hP1.c
     obtain ⟨gw,cw,rfl,ccw,fcw,hP2,hF2⟩ := hP1.setW hcw false
     obtain ⟨gi,ci,la,lc,ei,cci,hls⟩ := hP2.inc hc
     injection ei with ei1 _ ei3
     subst ei1 ei3
     have hH := HQ.out.hop.pop HRR.out
     have hmem := fun s => HQ.out.hop.prt.mem c s hc
     have jb := q7h hP2 hH HRR.out HBK.out rfl (by rw [HD4.out]; omega) hK (by simp at hmx; omega) la lc hls (fun x hx => ((hmem x).1 hx).1) (HQ.out.hop.prt.nd c hc) (fun s t hs ht hst => by
      rw [hmem,hmem,HQ.out.hop.far s t hs ht hst]
      exact ⟨fun h => ⟨ht,h.2⟩,fun h => ⟨hs,h.2⟩⟩) HBS.out
     have HM0 : Hid _ := HQ.out.left
     have HN : Hid (∀ w9,ByL D D.S K R bs (ins.getD c []) 256 of ins qq ((wr.setCell ⟨D.b,4,none⟩ (.slice (some ⟨gq,0,none⟩) qq.length cq)).setCell ⟨gw,c,none⟩ (.bool false)) (.slice (some ⟨gi,0,none⟩) ins.length ic) (.slice (some ⟨gw,0,none⟩) ws.length cw) (.slice (some ⟨gq,0,none⟩) qq.length cq) w9 → ∃ vi vw vq vs of' ins' ws' qu',ClQ D K R bs w w9 vi vw vq vs of' ins' ws' qu' ∧ clM D w9 < clM D wr) := fun w9 h9 => by
      obtain ⟨of9,ins9,ws9,qu9,⟨vi9,vw9,vq9,vs9,hp9,hf9⟩,hh9,hr9,hc9,hi9⟩ := h9
      have hcl : ClQ D K R bs w w9 vi9 vw9 vq9 vs9 of9 ins9 ws9 qu9 := ⟨hp9,hh9.end' hK [],fun s t hs ht e => HQ.out.acc s t hs ht (hr9 s t hs ht e),by simp at hmx; omega⟩
      refine ⟨_,_,_,_,_,_,_,_,hcl,?_⟩
      rw [hcl.left,HM0.out]
      have h1 := hcl.hop.prt.few
      have h2 := HQ.out.hop.prt.few
      simp
      omega
     have ixq := fun w' => qg gq (qq.length + 1) cq qq.length (by omega) w'
     have ixw := fun w' => qt (P := Try.prog) (T := 22) Try.underlying22 q1n (a := some ⟨gw,0,none⟩) (cap := cw) (n := ws.length) (fun e => by cases e) c w' hcw
     simp only [adOf,q9,Nat.zero_add] at ixw
     have ixi := fun w' => qI gi ins.length ic c hc w'
     have c2b := hP2.c.2.2.1
     have hql : qq.length ≤ 2000 := by simp at hmx; omega
     have hle : ((ins.length : Int) ≤ 256) := by omega
     obtain ⟨w1,hw1⟩ : ∃ w1,w1 = wr.setCell ⟨D.b,4,none⟩ (.slice (some ⟨gq,0,none⟩) qq.length cq) := ⟨_,rfl⟩
     rw [← hw1] at c3 ccw fcw jb HN c2b cci
     obtain ⟨w2,hw2⟩ : ∃ w2,w2 = w1.setCell ⟨gw,c,none⟩ (.bool false) := ⟨_,rfl⟩
     rw [← hw2] at jb HN c2b cci
     have HW1 : Hid _ := hw1
     have HW2 : Hid _ := hw2
     clear hP1 hF1 hP2 hF2 hls hH hmem HQ fz hw1 hw2 hmx HM0 HZ
     generalize hqlen : qq.length = m at *
     clear hqlen
     generalize ins.length = n5 at *
     go_wp2_with (first | (rw [← HW1.out]) | (rw [← HW2.out]))
     refine jb.mono ?_
     rintro e w9 ⟨rfl,h9⟩
     obtain ⟨vi9,vw9,vq9,vs9,of9,ins9,ws9,qu9,hQ9,hlt9⟩ := HN.out w9 h9
     have HQ9 : Hid _ := hQ9
     have HLT : Hid _ := hlt9
     clear h9 HN jb hQ9 hlt9
     go_wp2
     go_roundw
     case rel => exact ⟨vi9,vw9,vq9,vs9,of9,ins9,ws9,qu9,HQ9⟩
     case measure => exact HLT.out
end Go.Proofs.Ytcnkgokfjafgkaa
