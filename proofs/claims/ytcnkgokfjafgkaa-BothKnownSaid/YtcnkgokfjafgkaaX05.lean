/- Texts of the proof, put together: what it uses. -/
import Derived.OwnWalk
import Derived.Laws.CopyRow
import Derived.Deep.RegionHeld3
import Derived.BigQuiet
import Derived.Test.YtcnkgokfjafgkaaX01
import Derived.Test.YtcnkgokfjafgkaaX02
import Derived.Test.YtcnkgokfjafgkaaX04
set_option maxRecDepth 100000
set_option maxHeartbeats 16000000
namespace Go.Proofs.Ytcnkgokfjafgkaa
open Go.RowKit Go.Maps
structure Fr (w w' : World) (F F' : Nat → Prop) : Prop where
 os : w'.os = w.os
 tape : w'.tape = w.tape
 output : w'.output = w.output
 size : w.heap.size ≤ w'.heap.size
 keep : ∀ k,k < w.heap.size → ¬ F k → w'.heap[k]? = w.heap[k]?
 foot : ∀ k,F' k → F k ∨ w.heap.size ≤ k
theorem Fr.below {w w' : World} {F F' : Nat → Prop} {B : Nat} (h : Fr w w' F F') (hF : ∀ k,F k → B ≤ k) (hB : B ≤ w.heap.size) : Below B w w' :=
 ⟨h.os,h.tape,h.output,h.size,fun k hk => h.keep k (by omega) (fun hf => by have := hF k hf; omega)⟩
theorem Fr.ge {w w' : World} {F F' : Nat → Prop} {B : Nat} (h : Fr w w' F F') (hF : ∀ k,F k → B ≤ k) (hB : B ≤ w.heap.size) : ∀ k,F' k → B ≤ k := fun k hk => by
 rcases h.foot k hk with h1 | h1
 ·exact hF k h1
 ·omega
theorem Fr.out {w w' : World} {F F' : Nat → Prop} (h : Fr w w' F F') {k : Nat} (hk : ¬ F k) (hl : k < w.heap.size) : ¬ F' k := fun hf => by
 rcases h.foot k hf with h1 | h1
 ·exact hk h1
 ·omega
theorem Fr.own {w w' : World} {F F' : Nat → Prop} (h : Fr w w' F F') {base e size n : Nat} {v : Value} {xs : List Value} (ho : w.ownsRow base e size v n xs) (hf : ∀ k,v.ownBlock = some k → ¬ F k) : w'.ownsRow base e size v n xs := by
 obtain ⟨hl,ho⟩ := ho
 refine ⟨hl,ho.imp id ?_⟩
 rintro ⟨g,cap,cur,rfl,hg,hcell,r⟩
 exact ⟨g,cap,cur,rfl,hg,(h.keep g (Array.getElem?_eq_some_iff.1 hcell).1 (hf g rfl)).trans hcell,r⟩
theorem Fr.trans {w w1 w2 : World} {F F1 F2 : Nat → Prop} (h : Fr w w1 F F1) (k : Fr w1 w2 F1 F2) : Fr w w2 F F2 := by
 refine ⟨k.os.trans h.os,k.tape.trans h.tape,k.output.trans h.output,Nat.le_trans h.size k.size,fun j hj hF => ?_,fun j hj => ?_⟩
 ·exact (k.keep j (Nat.lt_of_lt_of_le hj h.size) (h.out hF hj)).trans (h.keep j hj hF)
 ·rcases k.foot j hj with h1 | h1
  ·exact h.foot j h1
  ·exact Or.inr (Nat.le_trans h.size h1)
theorem Fr.ofBelow {w w' : World} {F : Nat → Prop} (h : Below w.heap.size w w') : Fr w w' F F := ⟨h.os,h.tape,h.output,h.size,fun k hk _ => h.block k hk,fun _ hk => Or.inl hk⟩
theorem Fr.cell {w w' : World} {F F' : Nat → Prop} (h : Fr w w' F F') {p : Addr} {v : Value} (hc : w.cell? p = some v) (hf : ¬ F p.block) : w'.cell? p = some v := by
 have := h.keep p.block (World.block_lt_of_cell? _ _ hc) hf
 unfold World.cell? at hc ⊢
 rw [this]; exact hc
theorem Fr.intSl {w w' : World} {F F' : Nat → Prop} (h : Fr w w' F F') {P : Program} {T : TypeId} {q : IntKind} {a : Option Addr} {len cap : Nat} {zs : List Int} (hS : IntSl P T q w a len cap zs) (hf : ∀ k,k < len → ¬ F (adOf a k).block) : IntSl P T q w' a len cap zs :=
 ⟨hS.hlen,hS.hcap,hS.bd,hS.idx,fun k hk => h.cell (hS.cell k hk) (hf k hk),fun k hk => Nat.lt_of_lt_of_le (hS.blk k hk) h.size,hS.nn⟩
def ChkR (p : Int) (ns : Nat) (N : List Gd) (gs : List Int) (w : World) (e : Ending) (w' : World) : Prop := Below w.heap.size w w' ∧ ∃ v,e = .returned (.int .i64 v) ∧ ((v = 0 ∧ MayG p ns N gs) ∨ (v = 12 ∧ ¬ MayG p ns N gs))
def NdMay (p : Int) (ns : Nat) (N : List Gd) (k : Nat) : Prop := 0 ≤ (N.getD k (0,0,0)).1 ∧ (N.getD k (0,0,0)).1 < p ∧ (N.getD k (0,0,0)).2.1 ≠ (N.getD k (0,0,0)).2.2 ∧ FitG ns N k (N.getD k (0,0,0)).1 (N.getD k (0,0,0)).2.1 ∧ FitG ns N k (N.getD k (0,0,0)).1 (N.getD k (0,0,0)).2.2
theorem MayG.nd {p : Int} {ns : Nat} {N : List Gd} {gs : List Int} (h : MayG p ns N gs) {k : Nat} (hk : k < N.length) : NdMay p ns N k := by
 have e : N[k]? = some (N.getD k (0,0,0)) := by simp [List.getD_eq_getElem?_getD,List.getElem?_eq_getElem hk]
 unfold NdMay
 generalize N.getD k (0,0,0) = nd at *
 obtain ⟨P,lo,hi⟩ := nd
 exact h.node k P lo hi e
theorem qal {p : Int} {ns : Nat} {N : List Gd} {gs : List Int} (h0 : 0 ≤ p) (h8 : p ≤ 8) (s1 : 1 ≤ ns) (s2 : ns ≤ 256) (hl : gs.length = ns) (hf : N.length ≤ 4096) (hn : ∀ k,k < N.length → NdMay p ns N k) (ho : N.Nodup) (hg : ∀ k,k < gs.length → FitG ns N N.length (-1) (gs.getD k 0)) : MayG p ns N gs := by
 refine ⟨h0,h8,s1,s2,hl,hf,fun i P lo hi e => ?_,ho,fun g hm => ?_⟩
 ·have hi1 := (List.getElem?_eq_some_iff.1 e).1
  have := hn i hi1
  unfold NdMay at this
  simpa [List.getD_eq_getElem?_getD,e] using this
 ·obtain ⟨i,hi,rfl⟩ := List.getElem_of_mem hm
  simpa [List.getD_eq_getElem?_getD,List.getElem?_eq_getElem hi] using hg i hi
theorem q7T {N : List Gd} {j k : Nat} (hj : j < k) (hk : k < N.length) (he : N.getD j (0,0,0) = N.getD k (0,0,0)) : ¬ N.Nodup := by
 intro h
 have ej : N[j]? = some N[j] := List.getElem?_eq_getElem (by omega)
 have ek : N[k]? = some N[k] := List.getElem?_eq_getElem hk
 simp only [List.getD_eq_getElem?_getD,ej,ek,Option.getD_some] at he
 exact List.pairwise_iff_getElem.1 h j k (by omega) hk hj he
structure NdB (w : World) (g : Nat) (P lo hi : Int) : Prop where
 c0 : w.cell? ⟨g,0,none⟩ = some (.int .i64 P)
 c1 : w.cell? ⟨g,1,none⟩ = some (.int .i64 lo)
 c2 : w.cell? ⟨g,2,none⟩ = some (.int .i64 hi)
theorem q9V (w : World) (P lo hi : Int) : NdB (w.alloc (.cells #[.int .i64 P,.int .i64 lo,.int .i64 hi] 45 (0,0))) w.heap.size P lo hi := by
 have h := (MapKept.heap_alloc w (.cells #[.int .i64 P,.int .i64 lo,.int .i64 hi] 45 (0,0))).1
 exact ⟨q6 h 0,q6 h 1,q6 h 2⟩
theorem q38 {w w' : World} (h : ∃ n,w' = w.drewN n) : Below w.heap.size w w' := by obtain ⟨n,rfl⟩ := h; exact below_drewN (Below.refl _ _) n
theorem RowI.zsl {P : Program} {T e : TypeId} {w : World} {g n : Nat} {cur : List Int} (h : RowI w e g cur) (hu : P.underlying T = some (.slice e)) (hs : (P.info? e).map (·.size) = some 1) (hn : n ≤ cur.length) (hm : cur.length ≤ maxLen) :
  IntSl P T .i64 w (some ⟨g,0,none⟩) n cur.length (cur.take n) := by
 have had : ∀ k,adOf (some ⟨g,0,none⟩) k = ⟨g,k,none⟩ := fun k => by simp [adOf,q9]
 refine ⟨by simp; omega,hn,hm,fun m k w hk hm => qw hu hs (by simp) k w hk,fun k hk => ?_,fun k hk => ?_,by simp⟩
 ·rw [had,h.cell (by omega)]; simp [List.getD_eq_getElem?_getD,hk]
 ·rw [had]; exact h.lt
theorem qR (l : Nat) (L : Int) (hl : L = l) (hb : l ≤ 1000000) (w : World) :
  (Instr.makeSlice 23 (.int .i64 L) (.int .i64 L)).run Try.prog w = .ok (.slice (some ⟨w.heap.size,0,none⟩) l l) (w.alloc (.cells ((List.replicate l (0 : Int)).map (Value.int .i64)).toArray 3)) := by
 subst hl
 rw [q1K l hb w,madeI]
theorem q37 (w : World) (o : Obj) : (w.alloc o).heap.size = w.heap.size + 1 := by simp
theorem q4c (p : Int) (aA : Option Addr) (nA cA : Nat) (aG : Option Addr) (nG cG : Nat) (aN : Option Addr) (nN cN : Nat) (bA : Option Addr) (dA : Nat) (bG : Option Addr) (dG : Nat) (bN : Option Addr) (dN : Nat) (bs : List Bool) (gs : List Int) (N : List Gd) (w : World)
  (h1 : BoSl w aA nA cA bs) (h2 : ZSl w aG nG cG gs) (h3 : NdSl w aN nN cN N) (k1 : BoSl w bA nA dA bs) (k2 : ZSl w bG nG dG gs) (k3 : NdSl w bN nN dN N) :
  Calls Try.prog 19 #[.agg #[.int .i64 p,.slice aA nA cA,.slice aG nG cG,.slice aN nN cN],.agg #[.int .i64 p,.slice bA nA dA,.slice bG nG dG,.slice bN nN dN]] w fun e w' => e = .returned (.bool true) ∧ Below w.heap.size w w' := by
 have HA0 : Hid _ := qr w p aA nA cA aG nG cG aN nN cN
 have HB0 : Hid _ := q5 w (.cells #[.int .i64 p,.slice aA nA cA,.slice aG nG cG,.slice aN nN cN] 26 (0,0))
 have HS1 : Hid (∀ w',Below w.heap.size w w' → Calls Try.prog 35 #[.slice aA nA cA,.slice bA nA dA] w' fun e w2 => e = .returned (.bool true) ∧ Below w'.heap.size w' w2) := fun w' hb => by
  have := q57 aA nA cA bs bA nA dA bs w' (h1.up hb) (k1.up hb)
  simpa using this
 have HS2 : Hid (∀ w',Below w.heap.size w w' → Calls Try.prog 36 #[.slice aG nG cG,.slice bG nG dG] w' fun e w2 => e = .returned (.bool true) ∧ Below w'.heap.size w' w2) := fun w' hb =>
  (q58 aG nG cG gs bG nG dG gs w' (h2.up hb) (k2.up hb)).mono fun e w2 ⟨he,hn⟩ => ⟨by rw [he]; simp,q38 hn⟩
 have HS3 : Hid (∀ w',Below w.heap.size w w' → Calls Try.prog 37 #[.slice aN nN cN,.slice bN nN dN] w' fun e w2 => e = .returned (.bool true) ∧ Below w'.heap.size w' w2) := fun w' hb => by
  have := q4e aN nN cN N bN nN dN N w' (h3.up hb) (k3.up hb)
  simpa using this
 clear h1 h2 h3 k1 k2 k3
 generalize hw1 : w.alloc (.cells #[.int .i64 p,.slice aA nA cA,.slice aG nG cG,.slice aN nN cN] 26 (0,0)) = w1 at *
 have Hw1 : Hid _ := hw1
 have HA1 : Hid _ := qr w1 p bA nA dA bG nG dG bN nN dN
 have HBn : Hid _ := q5 w1 (.cells #[.int .i64 p,.slice bA nA dA,.slice bG nG dG,.slice bN nN dN] 26 (0,0))
 have HB1 : Hid _ := q7 HB0.out HBn.out
 have HA2 : Hid _ := HA0.out.up HBn.out
 obtain ⟨c0,c1,c2,c3⟩ := HA2.out
 obtain ⟨d0,d1,d2,d3⟩ := HA1.out
 have j1 := HS1.out _ HB1.out
 rw [← hw1] at c0 c1 c2 c3 d0 d1 d2 d3 j1
 clear hw1
 go_enter Try.func19,Try.ntmps19
 go_wp2_with fail
 refine j1.mono ?_
 rw [Hw1.out]
 rintro e w2 ⟨rfl,hb2⟩
 have HA3 : Hid _ := HA2.out.up hb2
 have HA4 := HA1.out.up hb2
 rw [← Hw1.out,q37] at HA4
 have HA4 : Hid _ := HA4
 have HB2 : Hid _ := HB1.out.trans (hb2.mono HB1.out.size)
 clear c0 c1 c2 c3 d0 d1 d2 d3 j1 hb2
 have j2 := HS2.out _ HB2.out
 obtain ⟨c0,c1,c2,c3⟩ := HA3.out
 obtain ⟨d0,d1,d2,d3⟩ := HA4.out
 go_wp2_with fail
 refine j2.mono ?_
 rintro e w3 ⟨rfl,hb3⟩
 have HA5 : Hid _ := HA3.out.up hb3
 have HA6 : Hid _ := HA4.out.up hb3
 have HB3 : Hid _ := HB2.out.trans (hb3.mono HB2.out.size)
 clear c0 c1 c2 c3 d0 d1 d2 d3 j2 hb3
 have j3 := HS3.out _ HB3.out
 obtain ⟨c0,c1,c2,c3⟩ := HA5.out
 obtain ⟨d0,d1,d2,d3⟩ := HA6.out
 go_wp2_with fail
 refine j3.mono ?_
 rintro e w4 ⟨rfl,hb4⟩
 have HB4 : Hid _ := HB3.out.trans (hb4.mono HB3.out.size)
 clear c0 c1 c2 c3 d0 d1 d2 d3 j3 hb4
 go_wp2
 go_ret
 exact ⟨rfl,HB4.out⟩
def BoRow (w : World) (g : Nat) (bs : List Bool) : Prop := w.heap[g]? = some (.cells (bs.map Value.bool).toArray 4 (0,0))
def zB (k : Nat) : List Bool := List.replicate k false
theorem madeB (n : Nat) : madeCells #[.bool false] n = ((zB n).map Value.bool).toArray := by
 apply Array.ext_getElem?
 intro i
 by_cases h : i < n
 ·simp [madeCells,zB,h,Nat.mod_one]
 ·simp [madeCells,zB,h]
theorem q6b : (Try.prog.info? 4).map (fun i => (i.zero,i.size,i.bytes)) = some (some (.bool false),1,1) := by kernel_rfl
theorem q3C (l c : Nat) (L C : Int) (hl : L = l) (hc : C = c) (hlc : l ≤ c) (hb : c ≤ 1000000) (w : World) :
  (Instr.makeSlice 22 (.int .i64 L) (.int .i64 C)).run Try.prog w = .ok (.slice (some ⟨w.heap.size,0,none⟩) l c) (w.alloc (.cells ((zB c).map Value.bool).toArray 4)) := by
 obtain ⟨i,hi,hz0,hz1,hz2⟩ := info_parts q6b
 have := run_make (P := Try.prog) w 22 4 i (.bool false) Try.underlying22 hi hz0 .i64 .i64 L C (by omega) (by omega) (by rw [hz2]; omega) (by omega)
 rw [this,hl,hc,hz1,← madeB]
 simp only [Int.toNat_natCast,Nat.mul_one]
 rfl
theorem q66 (a : Option Addr) (len cap : Nat) (xs : List Bool) (a' : Option Addr) (len' cap' : Nat) (ys : List Bool) (w : World) (hS : BoSl w a len cap xs) (hO : BoSl w a' len' cap' ys) :
  Calls Try.prog 27 #[.slice a len cap,.slice a' len' cap'] w fun e w' => e = .returned (.bool (decide (xs = ys))) ∧ Below w.heap.size w w' := by
 have hb0 := hS.bd
 have hb1 := hS.hcap
 have hb2 := hO.bd
 have hb3 := hO.hcap
 unfold maxLen at hb0 hb2
 by_cases hll : len = len'
 ·subst hll
  go_enter Try.func27,Try.ntmps27
  go_wp2
  go_loopw [13] (fun i wr => ∃ k : Nat,k ≤ len ∧ i = .int .i64 k ∧ Hid (xs.take k = ys.take k) ∧ Hid (Below w.heap.size w wr)) (fun i _ => len - (intOf i).toNat)
  case atStart => exact ⟨0,Nat.zero_le _,rfl,by show _ = _; simp,Below.refl _ _⟩
  case round =>
   obtain ⟨k,hk,rfl,HU,hwr⟩ := hrel
   by_cases hlt : k < len
   ·obtain ⟨hi1,hx0⟩ := (hS.up hwr.out).at k hlt
    obtain ⟨hi2,hy0⟩ := (hO.up hwr.out).at k hlt
    have hidx := fun w' => hi1 len w' hlt
    have hidx' := fun w' => hi2 len w' hlt
    clear hi1 hi2
    have hxl : k < xs.length := by rw [hS.hlen]; exact hlt
    have hyl : k < ys.length := by rw [hO.hlen]; exact hlt
    have HN : Hid (xs[k] = ys[k] → xs.take (k + 1) = ys.take (k + 1)) := fun h => by
     rw [List.take_add_one,List.take_add_one,List.getElem?_eq_getElem hxl,List.getElem?_eq_getElem hyl,HU.out,h]
    have HM : Hid (xs[k] ≠ ys[k] → decide (xs = ys) = false) := fun h => decide_eq_false (fun e => h (by subst e; rfl))
    generalize xs[k] = x at *
    generalize ys[k] = y at *
    cases x <;> cases y
    all_goals
     go_wp2_with fail
     go_quiet (fail)
    ·have HN2 : Hid _ := HN.out (by simp)
     go_wp2
     go_roundw
     case rel => exact ⟨k + 1,by omega,by go_num,HN2,below_drewN hwr.out nq⟩
     case measure => simp [intOf]; omega
    ·have HM2 : Hid _ := HM.out (by decide)
     go_wp2
     go_ret
     exact ⟨by rw [HM2.out]; rfl,below_drewN hwr.out nq⟩
    ·have HM2 : Hid _ := HM.out (by decide)
     go_wp2
     go_ret
     exact ⟨by rw [HM2.out]; rfl,below_drewN hwr.out nq⟩
    ·have HN2 : Hid _ := HN.out (by simp)
     go_wp2
     go_roundw
     case rel => exact ⟨k + 1,by omega,by go_num,HN2,below_drewN hwr.out nq⟩
     case measure => simp [intOf]; omega
   ·have hx : Hid (decide (xs = ys) = true) := by
     have := HU.out
     rw [List.take_of_length_le (by rw [hS.hlen]; omega),List.take_of_length_le (by rw [hO.hlen]; omega)] at this
     exact decide_eq_true this
    go_wp2
    go_ret
    exact ⟨by rw [hx.out]; rfl,hwr.out⟩
 ·have hx : Hid (decide (xs = ys) = false) := decide_eq_false (fun e => hll (by rw [← hS.hlen,← hO.hlen,e]))
  have hll' : ((len : Int) != (len' : Int)) = true := by simp; omega
  clear hll
  go_enter Try.func27,Try.ntmps27
  go_wp2
  go_ret
  exact ⟨by rw [hx.out]; rfl,Below.refl _ _⟩
theorem q67 (a : Option Addr) (len cap : Nat) (xs : List Int) (a' : Option Addr) (len' cap' : Nat) (ys : List Int) (w : World)
  (hS : IntSl Try.prog 23 .i64 w a len cap xs) (hO : IntSl Try.prog 23 .i64 w a' len' cap' ys) :
  Calls Try.prog 28 #[.slice a len cap,.slice a' len' cap'] w fun e w' => e = .returned (.bool (decide (xs = ys))) ∧ ∃ n,w' = w.drewN n := by
 have hb0 := hS.bd
 have hb1 := hS.hcap
 have hb2 := hO.bd
 have hb3 := hO.hcap
 unfold maxLen at hb0 hb2
 by_cases hll : len = len'
 ·subst hll
  have hidx := fun (k : Nat) (w : World) (h : k < len) => hS.idx len k w h (Nat.le_refl _)
  have hidx' := fun (k : Nat) (w : World) (h : k < len) => hO.idx len k w h (Nat.le_refl _)
  go_enter Try.func28,Try.ntmps28
  go_wp2
  go_loopw [13] (fun i wr => ∃ k : Nat,k ≤ len ∧ i = .int .i64 k ∧ Hid (xs.take k = ys.take k) ∧ Hid (∃ n,wr = w.drewN n)) (fun i _ => len - (intOf i).toNat)
  case atStart => exact ⟨0,Nat.zero_le _,rfl,by show _ = _; simp,0,rfl⟩
  case round =>
   obtain ⟨k,hk,rfl,HU,hwr⟩ := hrel
   by_cases hlt : k < len
   ·have hS' : IntSl Try.prog 23 .i64 wr a len cap xs := by obtain ⟨n,hn⟩ := hwr.out; rw [hn]; exact hS.drewN n
    have hO' : IntSl Try.prog 23 .i64 wr a' len cap' ys := by obtain ⟨n,hn⟩ := hwr.out; rw [hn]; exact hO.drewN n
    have hck := hS'.cell k hlt
    have hck' := hO'.cell k hlt
    have HN : Hid (xs.getD k 0 = ys.getD k 0 → xs.take (k + 1) = ys.take (k + 1)) := fun h => q1Z (by rw [hS.hlen]; exact hlt) (by rw [hO.hlen]; exact hlt) HU.out h
    have HM : Hid (xs.getD k 0 ≠ ys.getD k 0 → decide (xs = ys) = false) := fun h => decide_eq_false (fun e => h (by rw [e]))
    clear hS' hO'
    generalize xs.getD k 0 = x at *
    generalize ys.getD k 0 = y at *
    go_wp2
    go_quiet (fail)
    rcases Bool.eq_false_or_eq_true (x != y) with ht | ht
    ·go_wp2
     go_ret
     obtain ⟨n,hn⟩ := hwr.out
     exact ⟨by rw [HM.out (by simpa using ht)]; rfl,n + nq,by rw [hn,World.drewN_drewN]⟩
    ·have HN2 : Hid _ := HN.out (by simpa using ht)
     go_wp2
     go_roundw
     case rel =>
      obtain ⟨n,hn⟩ := hwr.out
      exact ⟨k + 1,by omega,by go_num,HN2,n + nq,by rw [hn,World.drewN_drewN]⟩
     case measure => simp [intOf]; omega
   ·have hx : Hid (decide (xs = ys) = true) := by
     have := HU.out
     rw [List.take_of_length_le (by rw [hS.hlen]; omega),List.take_of_length_le (by rw [hO.hlen]; omega)] at this
     exact decide_eq_true this
    go_wp2
    go_ret
    exact ⟨by rw [hx.out]; rfl,hwr.out⟩
 ·have hx : Hid (decide (xs = ys) = false) := decide_eq_false (fun e => hll (by rw [← hS.hlen,← hO.hlen,e]))
  have hll' : ((len : Int) != (len' : Int)) = true := by simp; omega
  clear hll
  go_enter Try.func28,Try.ntmps28
  go_wp2
  go_ret
  exact ⟨by rw [hx.out]; rfl,0,rfl⟩
theorem q5j (a : Option Addr) (len cap : Nat) (xs : List Gd) (a' : Option Addr) (len' cap' : Nat) (ys : List Gd) (w : World)
  (hS : NdSl w a len cap xs) (hO : NdSl w a' len' cap' ys) :
  Calls Try.prog 29 #[.slice a len cap,.slice a' len' cap'] w fun e w' => e = .returned (.bool (decide (xs = ys))) ∧ Below w.heap.size w w' := by
 have hb0 := hS.bd
 have hb1 := hS.hcap
 have hb2 := hO.bd
 have hb3 := hO.hcap
 unfold maxLen at hb0 hb2
 by_cases hll : len = len'
 ·subst hll
  go_enter Try.func29,Try.ntmps29
  go_wp2
  go_loopw [13] (fun i wr => ∃ k : Nat,k ≤ len ∧ i = .int .i64 k ∧ Hid (xs.take k = ys.take k) ∧ Hid (Below w.heap.size w wr)) (fun i _ => len - (intOf i).toNat)
  case atStart => exact ⟨0,Nat.zero_le _,rfl,by show _ = _; simp,Below.refl _ _⟩
  case round =>
   obtain ⟨k,hk,rfl,HU,hwr⟩ := hrel
   by_cases hlt : k < len
   ·obtain ⟨g1,o1,s1,hi1,hx0,hx1,hx2,_,_,_⟩ := (hS.up hwr.out).at Try.underlying24 qj k hlt
    obtain ⟨g2,o2,s2,hi2,hy0,hy1,hy2,_,_,_⟩ := (hO.up hwr.out).at Try.underlying24 qj k hlt
    have hidx := fun w' => hi1 len w' hlt
    have hidx' := fun w' => hi2 len w' hlt
    clear hi1 hi2
    have HN : Hid (xs.getD k (0,0,0) = ys.getD k (0,0,0) → xs.take (k + 1) = ys.take (k + 1)) := fun h => q3T (by rw [hS.hlen]; exact hlt) (by rw [hO.hlen]; exact hlt) HU.out h
    have HM : Hid (xs.getD k (0,0,0) ≠ ys.getD k (0,0,0) → decide (xs = ys) = false) := fun h => decide_eq_false (fun e => h (by rw [e]))
    generalize xs.getD k (0,0,0) = x at *
    generalize ys.getD k (0,0,0) = y at *
    obtain ⟨x0,x1,x2⟩ := x
    obtain ⟨y0,y1,y2⟩ := y
    have hne := q35 x0 x1 x2 y0 y1 y2
    have HD : Hid (∀ b,decide (((x0,x1,x2) : Gd) = (y0,y1,y2)) = b → b = true → ((x0,x1,x2) : Gd) = (y0,y1,y2)) := fun b h1 h2 => of_decide_eq_true (h1.trans h2)
    have HE : Hid (∀ b,decide (((x0,x1,x2) : Gd) = (y0,y1,y2)) = b → b = false → ((x0,x1,x2) : Gd) ≠ (y0,y1,y2)) := fun b h1 h2 => of_decide_eq_false (h1.trans h2)
    generalize hq : decide (((x0,x1,x2) : Gd) = (y0,y1,y2)) = q at hne
    go_wp2_with fail
    go_quiet (fail)
    cases q with
    | false =>
     have HM2 : Hid _ := HM.out (HE.out false hq rfl)
     go_wp2
     go_ret
     exact ⟨by rw [HM2.out]; rfl,below_drewN hwr.out nq⟩
    | true =>
     have HN2 : Hid _ := HN.out (HD.out true hq rfl)
     go_wp2
     go_roundw
     case rel => exact ⟨k + 1,by omega,by go_num,HN2,below_drewN hwr.out nq⟩
     case measure => simp [intOf]; omega
   ·have hx : Hid (decide (xs = ys) = true) := by
     have := HU.out
     rw [List.take_of_length_le (by rw [hS.hlen]; omega),List.take_of_length_le (by rw [hO.hlen]; omega)] at this
     exact decide_eq_true this
    go_wp2
    go_ret
    exact ⟨by rw [hx.out]; rfl,hwr.out⟩
 ·have hx : Hid (decide (xs = ys) = false) := decide_eq_false (fun e => hll (by rw [← hS.hlen,← hO.hlen,e]))
  have hll' : ((len : Int) != (len' : Int)) = true := by simp; omega
  clear hll
  go_enter Try.func29,Try.ntmps29
  go_wp2
  go_ret
  exact ⟨by rw [hx.out]; rfl,Below.refl _ _⟩
def sameC (p : Int) (bs : List Bool) (gs : List Int) (N : List Gd) (q : Int) (cs : List Bool) (hs : List Int) (M : List Gd) : Bool := decide (p = q) && decide (bs = cs) && decide (gs = hs) && decide (N = M)
theorem q2C (p : Int) (aA : Option Addr) (nA cA : Nat) (aG : Option Addr) (nG cG : Nat) (aN : Option Addr) (nN cN : Nat) (q : Int) (bA : Option Addr) (mA dA : Nat) (bG : Option Addr) (mG dG : Nat) (bN : Option Addr) (mN dN : Nat) (bs : List Bool) (gs : List Int) (N : List Gd) (cs : List Bool) (hs : List Int) (M : List Gd) (w : World)
  (h1 : BoSl w aA nA cA bs) (h2 : ZSl w aG nG cG gs) (h3 : NdSl w aN nN cN N) (k1 : BoSl w bA mA dA cs) (k2 : ZSl w bG mG dG hs) (k3 : NdSl w bN mN dN M) :
  Calls Try.prog 13 #[.agg #[.int .i64 p,.slice aA nA cA,.slice aG nG cG,.slice aN nN cN],.agg #[.int .i64 q,.slice bA mA dA,.slice bG mG dG,.slice bN mN dN]] w fun e w' => e = .returned (.bool (sameC p bs gs N q cs hs M)) ∧ Below w.heap.size w w' := by
 obtain ⟨Q,hQ⟩ : ∃ Q : Ending → World → Prop,Q = fun e w' => e = .returned (.bool (sameC p bs gs N q cs hs M)) ∧ Below w.heap.size w w' := ⟨_,rfl⟩
 have HQ : Hid (∀ b w',b = sameC p bs gs N q cs hs M → Below w.heap.size w w' → Q (.returned (.bool b)) w') := fun b w' h hb => by rw [hQ,h]; exact ⟨rfl,hb⟩
 rw [← hQ]
 clear hQ
 have HA0 : Hid _ := qr w p aA nA cA aG nG cG aN nN cN
 have HB0 : Hid _ := q5 w (.cells #[.int .i64 p,.slice aA nA cA,.slice aG nG cG,.slice aN nN cN] 26 (0,0))
 have HS1 : Hid (∀ w',Below w.heap.size w w' → Calls Try.prog 27 #[.slice aA nA cA,.slice bA mA dA] w' fun e w2 => e = .returned (.bool (decide (bs = cs))) ∧ Below w'.heap.size w' w2) := fun w' hb => q66 aA nA cA bs bA mA dA cs w' (h1.up hb) (k1.up hb)
 have HS2 : Hid (∀ w',Below w.heap.size w w' → Calls Try.prog 28 #[.slice aG nG cG,.slice bG mG dG] w' fun e w2 => e = .returned (.bool (decide (gs = hs))) ∧ Below w'.heap.size w' w2) := fun w' hb =>
  (q67 aG nG cG gs bG mG dG hs w' (h2.up hb) (k2.up hb)).mono fun e w2 ⟨he,hn⟩ => ⟨he,q38 hn⟩
 have HS3 : Hid (∀ w',Below w.heap.size w w' → Calls Try.prog 29 #[.slice aN nN cN,.slice bN mN dN] w' fun e w2 => e = .returned (.bool (decide (N = M))) ∧ Below w'.heap.size w' w2) := fun w' hb => q5j aN nN cN N bN mN dN M w' (h3.up hb) (k3.up hb)
 clear h1 h2 h3 k1 k2 k3
 generalize hw1 : w.alloc (.cells #[.int .i64 p,.slice aA nA cA,.slice aG nG cG,.slice aN nN cN] 26 (0,0)) = w1 at *
 have Hw1 : Hid _ := hw1
 have HA1 : Hid _ := qr w1 q bA mA dA bG mG dG bN mN dN
 have HBn : Hid _ := q5 w1 (.cells #[.int .i64 q,.slice bA mA dA,.slice bG mG dG,.slice bN mN dN] 26 (0,0))
 have HB1 : Hid _ := q7 HB0.out HBn.out
 have HA2 : Hid _ := HA0.out.up HBn.out
 obtain ⟨c0,c1,c2,c3⟩ := HA2.out
 obtain ⟨d0,d1,d2,d3⟩ := HA1.out
 have j1 := HS1.out _ HB1.out
 rw [← hw1] at c0 c1 c2 c3 d0 d1 d2 d3 j1
 by_cases hpq : p = q
 ·have dpq : (p == q) = true := by simpa using hpq
  have HD : Hid (decide (p = q) = true) := decide_eq_true hpq
  clear hw1 hpq
  go_enter Try.func13,Try.ntmps13
  go_wp2_with fail
  refine j1.mono ?_
  rw [Hw1.out]
  rintro e w2 ⟨rfl,hb2⟩
  have HA3 : Hid _ := HA2.out.up hb2
  have HA4 := HA1.out.up hb2
  rw [← Hw1.out,q37] at HA4
  have HA4 : Hid _ := HA4
  have HB2 : Hid _ := HB1.out.trans (hb2.mono HB1.out.size)
  clear c0 c1 c2 c3 d0 d1 d2 d3 j1 hb2
  have j2 := HS2.out _ HB2.out
  obtain ⟨c0,c1,c2,c3⟩ := HA3.out
  obtain ⟨d0,d1,d2,d3⟩ := HA4.out
  by_cases hbc : bs = cs
  ·have HD2 : Hid (decide (bs = cs) = true) := decide_eq_true hbc
   rw [HD2.out]
   clear hbc
   go_wp2_with fail
   refine j2.mono ?_
   rintro e w3 ⟨rfl,hb3⟩
   have HA5 : Hid _ := HA3.out.up hb3
   have HA6 : Hid _ := HA4.out.up hb3
   have HB3 : Hid _ := HB2.out.trans (hb3.mono HB2.out.size)
   clear c0 c1 c2 c3 d0 d1 d2 d3 j2 hb3
   have j3 := HS3.out _ HB3.out
   obtain ⟨c0,c1,c2,c3⟩ := HA5.out
   obtain ⟨d0,d1,d2,d3⟩ := HA6.out
   by_cases hgh : gs = hs
   ·have HD3 : Hid (decide (gs = hs) = true) := decide_eq_true hgh
    rw [HD3.out]
    clear hgh
    go_wp2_with fail
    refine j3.mono ?_
    rintro e w4 ⟨rfl,hb4⟩
    have HE : Hid _ := HQ.out (decide (N = M)) w4 (by rw [sameC,HD.out,HD2.out,HD3.out]; rfl) (HB3.out.trans (hb4.mono HB3.out.size))
    clear c0 c1 c2 c3 d0 d1 d2 d3 j3 hb4
    generalize decide (N = M) = z at *
    go_wp2
    exact HE.out
   ·have HE : Hid _ := HQ.out false w3 (by rw [sameC,HD.out,HD2.out,decide_eq_false hgh]; rfl) HB3.out
    rw [decide_eq_false hgh]
    clear hgh
    go_wp2
    exact HE.out
  ·have HE : Hid _ := HQ.out false w2 (by rw [sameC,HD.out,decide_eq_false hbc]; rfl) HB2.out
   rw [decide_eq_false hbc]
   clear hbc
   go_wp2
   exact HE.out
 ·have dpq : (p == q) = false := by simpa using hpq
  have HE : Hid _ := HQ.out false _ (by rw [sameC,decide_eq_false hpq]; rfl) HB1.out
  rw [← hw1] at HE
  clear hw1 hpq
  go_enter Try.func13,Try.ntmps13
  go_wp2
  exact HE.out
end Go.Proofs.Ytcnkgokfjafgkaa
