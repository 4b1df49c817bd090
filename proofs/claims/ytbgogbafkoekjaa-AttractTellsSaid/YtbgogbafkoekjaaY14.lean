/- Texts of the proof, put together: what it uses. -/
import Derived.Deep.RegionHeld3
import Derived.Deep.AppendLies
import Derived.Test.YtbgogbafkoekjaaY02
import Derived.Test.YtbgogbafkoekjaaY04
set_option maxRecDepth 100000
set_option maxHeartbeats 16000000
namespace Go.Proofs.Ytbgogbafkoekjaa
open Go.RowKit Go.Maps
theorem q2g {P : Program} {T e : TypeId} {w : World} {base n : Nat} {v : Value} {zs : List Int} (h : w.ownsRow base e 1 v n (zs.map (Value.int .i64))) (hu : P.underlying T = some (.slice e)) (hs : (P.info? e).map (·.size) = some 1) :
  ∃ a cap,v = .slice a n cap ∧ IntSl P T .i64 w a n cap zs ∧ ∀ k,k < n → base ≤ (adOf a k).block := by
 obtain ⟨a,cap,h1,h2,h3,_⟩ := q3E h hu hs
 exact ⟨a,cap,h1,h2,h3⟩
def RowOfI (w : World) (e : TypeId) (a : Option Addr) (cur : List Int) : Prop := (a = none ∧ cur = []) ∨ ∃ g,a = some ⟨g,0,none⟩ ∧ RowI w e g cur
def xI (z : Int) : Int := bits BinOp.xor IntKind.i64 z 21845
theorem q3Y (b : BitVec 64) : BitVec.ofInt 64 (IntKind.i64.wrap (b.toNat : Int)) = b := by
 apply BitVec.eq_of_toNat_eq
 have := b.isLt
 rw [BitVec.toNat_ofInt,IntKind.wrap_i64]
 omega
theorem xI_xI {z : Int} (h0 : -9223372036854775808 ≤ z) (h1 : z < 9223372036854775808) : xI (xI z) = z := by
 show IntKind.i64.wrap ((BitVec.ofInt 64 (IntKind.i64.wrap ((BitVec.ofInt 64 z ^^^ BitVec.ofInt 64 21845).toNat : Int)) ^^^ BitVec.ofInt 64 21845).toNat : Int) = z
 rw [q3Y,BitVec.xor_assoc,BitVec.xor_self,BitVec.xor_zero,BitVec.toNat_ofInt,IntKind.wrap_i64]
 omega
theorem RowI.intSl {P : Program} {T e : TypeId} {w : World} {g n : Nat} {cur : List Int} (h : RowI w e g cur) (hu : P.underlying T = some (.slice e)) (hs : (P.info? e).map (·.size) = some 1) (hn : n ≤ cur.length) (hm : cur.length ≤ maxLen) :
  IntSl P T .i64 w (some ⟨g,0,none⟩) n cur.length (cur.take n) := by
 have had : ∀ k,adOf (some ⟨g,0,none⟩) k = ⟨g,k,none⟩ := fun k => by simp [adOf,q8]
 refine ⟨by simp; omega,hn,hm,fun m k w hk hm => qd hu hs (by simp) k w hk,fun k hk => ?_,fun k hk => ?_,by simp⟩
 ·rw [had,h.cell (by omega)]; simp [List.getD_eq_getElem?_getD,hk]
 ·rw [had]; exact h.lt
theorem q3U {P : Program} {T : TypeId} {w : World} : IntSl P T .i64 w none 0 0 [] :=
 ⟨rfl,Nat.le_refl _,Nat.zero_le _,fun m k w hk hm => absurd hk (by omega),fun k hk => absurd hk (by omega),fun k hk => absurd hk (by omega),fun _ => rfl⟩
def overToI (cur : List Int) (k : Nat) : List Int := (cur.take k).map xI ++ cur.drop k
theorem q32 (cur : List Int) : overToI cur 0 = cur := by simp [overToI]
theorem q3t (cur : List Int) : overToI cur cur.length = cur.map xI := by simp [overToI]
theorem q3v (cur : List Int) (k : Nat) : (overToI cur k).length = cur.length := by simp [overToI]; omega
theorem q3u {cur : List Int} {k : Nat} (h : k < cur.length) : (overToI cur k).getD k 0 = cur.getD k 0 := by
 unfold overToI
 rw [List.getD_eq_getElem?_getD,List.getElem?_append_right (by simp; omega)]
 simp [List.getD_eq_getElem?_getD,Nat.min_eq_left (Nat.le_of_lt h)]
theorem q3w {cur : List Int} {k : Nat} (h : k < cur.length) : (overToI cur k).set k (xI (cur.getD k 0)) = overToI cur (k + 1) := by
 unfold overToI
 have e : k - ((cur.take k).map xI).length = 0 := by simp; omega
 rw [List.drop_eq_getElem_cons h,List.set_append_right _ _ (by simp; omega),qr h,e]
 simp only [List.set_cons_zero,List.map_append,List.map_cons,List.map_nil,List.append_assoc,List.cons_append,List.nil_append]
def OverRI (e : TypeId) (a : Option Addr) (cur : List Int) (w : World) (en : Ending) (w' : World) : Prop :=
 en = .returned (.tuple #[]) ∧ RowOfI w' e a (cur.map xI) ∧ w.grownBy w' (a.map (·.block))
theorem q1G (a : Option Addr) (n : Nat) (cur : List Int) (w : World) (hR : RowOfI w 3 a cur) (hm : cur.length ≤ 1000000) :
  Calls Try.prog 36 #[.slice a n cur.length] w fun e w' => OverRI 3 a cur w e w' := by
 rcases hR with ⟨rfl,rfl⟩ | ⟨g,rfl,hrow⟩
 ·go_enter Try.func36,Try.ntmps36
  go_wp2
  refine wp_loop_rounds 1 ?_
  rw [rounds_succ]
  go_wp2
  go_end0
  exact ⟨rfl,Or.inl ⟨rfl,rfl⟩,World.grownBy.refl _ _⟩
 ·have HL : Hid (∃ M,cur.length = M) := ⟨_,rfl⟩
  obtain ⟨M,hM⟩ := HL.out
  have HM : Hid (cur.length = M) := hM
  rw [hM] at hm ⊢
  clear hM HL
  go_enter Try.func36,Try.ntmps36
  go_wp2
  go_loopw [3] (fun i wr => ∃ k : Nat,k ≤ M ∧ i = .int .i64 k ∧ RowI wr 3 g (overToI cur k) ∧ w.grownBy wr (some g)) (fun i _ => M - (intOf i).toNat)
  case atStart => exact ⟨0,Nat.zero_le _,rfl,by rw [q32]; exact hrow,World.grownBy.refl _ _⟩
  case round =>
   obtain ⟨k,hk,rfl,hr,hg⟩ := hrel
   by_cases hlt : k < M
   ·have hc1 := hr.cell (i := k) (by rw [q3v,HM.out]; exact hlt)
    rw [q3u (by rw [HM.out]; exact hlt)] at hc1
    have hf1 := hr.frozen k
    have R1 := hr.set k (xI (cur.getD k 0))
    rw [q3w (by rw [HM.out]; exact hlt)] at R1
    have R2 : w.grownBy (wr.setCell ⟨g,k,none⟩ (.int .i64 (xI (cur.getD k 0)))) (some g) :=
     ⟨hg.os,hg.tape,hg.output,by simpa using hg.size,fun j hj hne => (heap_setCell_other wr _ j _ (fun e => hne (by rw [e]))).trans (hg.block j hj hne)⟩
    generalize cur.getD k 0 = z at *
    unfold xI at R1 R2
    clear hr hg
    go_wp2
    go_roundw
    case rel => exact ⟨k + 1,by omega,by go_num,R1,R2⟩
    case measure => simp [intOf]; omega
   ·obtain rfl : k = M := by omega
    go_wp2
    go_end0
    exact ⟨rfl,Or.inr ⟨g,rfl,by rw [← q3t,HM.out]; exact hr⟩,hg⟩
def Try.CopyRI (n : Nat) (zs : List Int) (w : World) (e : Ending) (w' : World) : Prop :=
 ∃ a' cap',e = .returned (.slice a' n cap') ∧ IntSl Try.prog 23 .i64 w' a' n cap' zs ∧ (∀ k,k < n → w.heap.size ≤ (adOf a' k).block) ∧ Below w.heap.size w w'
theorem q2f (w : World) (e : TypeId) : (w.alloc (.cells #[] e)).ownsRow w.heap.size e 1 (.slice (some ⟨w.heap.size,0,none⟩) 0 0) 0 [] :=
 ⟨rfl,Or.inr ⟨w.heap.size,0,#[],rfl,Nat.le_refl _,(MapKept.heap_alloc w _).1,Nat.le_refl _,Nat.zero_le _,rfl,rfl⟩⟩
theorem q3H (a : Option Addr) (n cap : Nat) (zs : List Int) (w : World) (hS : IntSl Try.prog 23 .i64 w a n cap zs) (hn : n ≤ 1000000) :
  Calls Try.prog 35 #[.slice a n cap] w fun e w' => Try.CopyRI n zs w e w' := by
 obtain ⟨i0,hi,hz0,hz1,hz2⟩ := info_parts q1q
 have HI : Hid (Try.prog.info? 3 = some i0) := hi
 have HZ0 : Hid (i0.zero = some (.int .i64 0)) := hz0
 have HZ1 : Hid (i0.size = 1) := hz1
 have HZ2 : Hid (i0.bytes = 8) := hz2
 clear hi hz0 hz1 hz2
 have hown := q2f w 3
 have fin : ∀ (v : Value) (w1 : World),w1.ownsRow w.heap.size 3 1 v n (zs.map (Value.int .i64)) → (w.alloc (.cells #[] 3)).grownBy w1 (some w.heap.size) → Try.CopyRI n zs w (.returned v) w1 := by
  intro v w1 h1 h2
  obtain ⟨a',cap',rfl,hsl,hblk⟩ := q2g h1 Try.underlying23 qb
  exact ⟨a',cap',rfl,hsl,hblk,((Below.refl _ _).alloc (Nat.le_refl _) _).grown h2 (by simp) (fun k hk => by cases hk; exact Nat.le_refl _)⟩
 have HF : Hid _ := fin
 clear fin
 cases a with
 | none =>
  have hc0 := hS.nn rfl
  have hn0 : n = 0 := by have := hS.hcap; omega
  subst hc0 hn0
  have hzs : zs = [] := List.eq_nil_of_length_eq_zero hS.hlen
  subst hzs
  go_enter Try.func35,Try.ntmps35
  go_wp2_with (at_builtin; refine wpList_append_fits_any _ rfl _ _ 23 rfl w.heap.size 3 i0 1 Try.underlying23 HI.out HZ1.out w.heap.size 0 0 [] rfl hown none 0 0 [] rfl rfl (fun _ => ⟨rfl,rfl⟩) (fun _ h => by cases h) (fun _ h => by cases h) (Nat.le_refl _) ?_)
  intro w1 hown1 hgrow1
  have HE := HF.out _ _ hown1 hgrow1
  clear hown1 hgrow1 hown
  go_wp2
  go_ret
  exact HE
 | some x =>
  have hnews : ∀ j u,(zs.map (Value.int .i64))[j]? = some u → (w.alloc (.cells #[] 3)).cell? (x.add j) = some u := by
   intro j u hj
   have hjl : j < zs.length := by have := (List.getElem?_eq_some_iff.1 hj).1; simpa using this
   have hc := hS.cell j (by rw [← hS.hlen]; exact hjl)
   have e : u = .int .i64 (zs.getD j 0) := by
    rw [List.getElem?_map,List.getElem?_eq_getElem hjl] at hj
    simp [List.getD_eq_getElem?_getD,List.getElem?_eq_getElem hjl]
    simpa using hj.symm
   have hc2 : w.cell? (x.add j) = some u := by rw [e]; exact hc
   exact cell_later ((Below.refl _ _).alloc (Nat.le_refl _) _) hc2
  have hlz : (zs.map (Value.int .i64)).length = n * 1 := by rw [List.length_map,hS.hlen,Nat.mul_one]
  go_enter Try.func35,Try.ntmps35
  go_wp2_with (at_builtin; refine wpList_append_own _ rfl _ _ 23 rfl w.heap.size 3 i0 (.int .i64 0) 1 8 Try.underlying23 HI.out HZ0.out HZ1.out HZ2.out rfl (by decide) _ 0 _ rfl hown x n cap (zs.map (Value.int .i64)) rfl hlz hnews (ints_oneCell .i64 zs) (by unfold maxLen; omega) (by omega) (by simp) ?_)
  intro v' w1 hown1 hgrow1 _
  have HE : Hid (Try.CopyRI n zs w (.returned v') w1) := HF.out v' w1 (by simpa using hown1) hgrow1
  clear hown1 hgrow1 hown hnews hlz
  go_wp2
  go_ret
  exact HE.out
theorem RowOfI.up {w w' : World} {e : TypeId} {a : Option Addr} {cur : List Int} (h : RowOfI w e a cur) (hb : Below w.heap.size w w') : RowOfI w' e a cur := by
 rcases h with h | ⟨g,h1,h2⟩
 ·exact Or.inl h
 ·exact Or.inr ⟨g,h1,h2.up hb⟩
theorem RowOfI.lt {w : World} {e : TypeId} {a : Option Addr} {cur : List Int} (h : RowOfI w e a cur) : ∀ b,a.map (·.block) = some b → b < w.heap.size := by
 rcases h with ⟨rfl,_⟩ | ⟨g,rfl,h2⟩
 ·intro b hb; cases hb
 ·intro b hb; cases hb; exact h2.lt
theorem RowOfI.intSl {P : Program} {T e : TypeId} {w : World} {a : Option Addr} {cur : List Int} (h : RowOfI w e a cur) (hu : P.underlying T = some (.slice e)) (hs : (P.info? e).map (·.size) = some 1) (hm : cur.length ≤ maxLen) : IntSl P T .i64 w a cur.length cur.length cur := by
 rcases h with ⟨rfl,rfl⟩ | ⟨g,rfl,h2⟩
 ·exact q3U
 ·have := h2.intSl hu hs (Nat.le_refl _) hm; rwa [List.take_length] at this
theorem RowOfI.grown {w w' : World} {e : TypeId} {a : Option Addr} {cur : List Int} {row : Option Nat} (h : RowOfI w e a cur) (hg : w.grownBy w' row) (hne : a = none ∨ a.map (·.block) ≠ row) : RowOfI w' e a cur := by
 rcases h with h | ⟨g,h1,h2⟩
 ·exact Or.inl h
 ·refine Or.inr ⟨g,h1,(hg.block g h2.lt ?_).trans h2⟩
  subst h1
  rcases hne with h | h
  ·cases h
  ·exact h
theorem IntSl.grown {P : Program} {T : TypeId} {q : IntKind} {w w' : World} {a : Option Addr} {len cap : Nat} {zs : List Int} {row : Option Nat} (h : IntSl P T q w a len cap zs) (hg : w.grownBy w' row) (hne : ∀ k,k < len → some (adOf a k).block ≠ row) : IntSl P T q w' a len cap zs :=
 ⟨h.hlen,h.hcap,h.bd,h.idx,fun k hk => hg.cell (h.cell k hk) (hne k hk),fun k hk => Nat.lt_of_lt_of_le (h.blk k hk) hg.size,h.nn⟩
structure ApSI (g m : Nat) (an : Nat → Option Addr) (nn : Nat → Nat) (cu : Nat → List Int) : Prop where
 ne : ∀ j k,j < m → k < m → j ≠ k → an j = none ∨ (an j).map (·.block) ≠ (an k).map (·.block)
 gne : ∀ k,k < m → (an k).map (·.block) ≠ some g
 len : ∀ k,(cu k).length ≤ 1000000
 val : ∀ k,∀ z ∈ cu k,-9223372036854775808 ≤ z ∧ z < 9223372036854775808
 few : m ≤ 1000
structure ApartI (e : TypeId) (w : World) (g m : Nat) (an : Nat → Option Addr) (nn : Nat → Nat) (cu : Nat → List Int) : Prop where
 hd : ∀ k,k < m → w.cell? ⟨g,k,none⟩ = some (.slice (an k) (nn k) (cu k).length)
 row : ∀ k,k < m → RowOfI w e (an k) (cu k)
 glt : g < w.heap.size
theorem ApartI.up {e : TypeId} {w w' : World} {g m : Nat} {an : Nat → Option Addr} {nn : Nat → Nat} {cu : Nat → List Int} (h : ApartI e w g m an nn cu) (hb : Below w.heap.size w w') : ApartI e w' g m an nn cu :=
 ⟨fun k hk => cell_later hb (h.hd k hk),fun k hk => (h.row k hk).up hb,Nat.lt_of_lt_of_le h.glt hb.size⟩
def Try.CopiesI (w : World) (gw m : Nat) (cu : Nat → List Int) (k : Nat) : Prop :=
 ∃ H : Array Value,w.heap[gw]? = some (.cells H 23 (0,0)) ∧ H.size = m ∧
  ∀ j,j < k → ∃ a' c',H[j]? = some (.slice a' (cu j).length c') ∧ IntSl Try.prog 23 .i64 w a' (cu j).length c' (cu j) ∧ ∀ t,t < (cu j).length → gw < (adOf a' t).block
theorem Try.CopiesI.grown {w w' : World} {gw m : Nat} {cu : Nat → List Int} {k : Nat} {row : Option Nat} (h : Try.CopiesI w gw m cu k) (hg : w.grownBy w' row) (hr : ∀ b,row = some b → b < gw) : Try.CopiesI w' gw m cu k := by
 obtain ⟨H,h1,h2,h3⟩ := h
 have hlt : gw < w.heap.size := (Array.getElem?_eq_some_iff.1 h1).1
 refine ⟨H,(hg.block gw hlt (fun e => by have := hr gw e.symm; omega)).trans h1,h2,fun j hj => ?_⟩
 obtain ⟨a',c',e1,e2,e3⟩ := h3 j hj
 exact ⟨a',c',e1,e2.grown hg (fun t ht e => by have := hr _ e.symm; have := e3 t ht; omega),e3⟩
theorem Try.CopiesI.next {wr w1 : World} {gw m : Nat} {cu : Nat → List Int} {j : Nat} {a' : Option Addr} {c' : Nat} (hC : Try.CopiesI wr gw m cu j) (hjm : j < m) (hbw : Below wr.heap.size wr w1)
  (hsl : IntSl Try.prog 23 .i64 w1 a' (cu j).length c' (cu j)) (hblk : ∀ k,k < (cu j).length → wr.heap.size ≤ (adOf a' k).block) : Try.CopiesI (w1.setCell ⟨gw,j,none⟩ (.slice a' (cu j).length c')) gw m cu (j + 1) := by
 obtain ⟨H,h1,h2,h3⟩ := hC
 have hlt : gw < wr.heap.size := (Array.getElem?_eq_some_iff.1 h1).1
 have h1' := (hbw.block gw hlt).trans h1
 have hgr : w1.grownBy (w1.setCell ⟨gw,j,none⟩ (.slice a' (cu j).length c')) (some gw) := ⟨rfl,rfl,rfl,by simp,fun k hk hne => heap_setCell_other w1 _ k _ (fun e => hne (by rw [e]))⟩
 refine ⟨_,heap_setCell_same w1 gw j H _ _ h1',by simp [h2],fun t ht => ?_⟩
 by_cases e : t = j
 ·subst e
  refine ⟨a',c',by simp [h2,hjm],hsl.grown hgr (fun k hk e => ?_),fun k hk => Nat.lt_of_lt_of_le hlt (hblk k hk)⟩
  have := hblk k hk; injection e with e; omega
 ·obtain ⟨a2,c2,e1,e2,e3⟩ := h3 t (by omega)
  refine ⟨a2,c2,?_,(e2.up hbw).grown hgr (fun k hk e => ?_),e3⟩
  ·rw [Array.getElem?_setIfInBounds_ne (by omega)]; exact e1
  ·have := e3 k hk; injection e with e; omega
theorem q3Z {e : TypeId} {a : Option Addr} {cur : List Int} {W0 wr w2 w4 : World} (h0 : RowOfI W0 e a cur) (hbx : Below W0.heap.size W0 wr) (hg2 : wr.grownBy w2 (a.map (·.block))) (hg4 : w2.grownBy w4 (a.map (·.block))) (h4 : RowOfI w4 e a cur) : Below W0.heap.size W0 w4 := by
 refine ⟨hg4.os.trans (hg2.os.trans hbx.os),hg4.tape.trans (hg2.tape.trans hbx.tape),hg4.output.trans (hg2.output.trans hbx.output),Nat.le_trans hbx.size (Nat.le_trans hg2.size hg4.size),fun k hk => ?_⟩
 have k1 : k < wr.heap.size := Nat.lt_of_lt_of_le hk hbx.size
 have k2 : k < w2.heap.size := Nat.lt_of_lt_of_le k1 hg2.size
 by_cases hr : some k = a.map (·.block)
 ·rcases h0 with ⟨rfl,_⟩ | ⟨g,rfl,h0⟩
  ·cases hr
  ·rcases h4 with ⟨h4,_⟩ | ⟨g',h4',h4⟩
   ·cases h4
   ·injection h4' with h4'; injection h4' with h4'; subst h4'
    injection hr with hr; simp at hr; subst hr
    exact h4.trans h0.symm
 ·exact (hg4.block k k2 hr).trans ((hg2.block k k1 hr).trans (hbx.block k hk))
theorem q5d {cur : List Int} (h : ∀ z ∈ cur,-9223372036854775808 ≤ z ∧ z < 9223372036854775808) : (cur.map xI).map xI = cur := by
 rw [List.map_map]
 conv => rhs; rw [← List.map_id cur]
 exact List.map_congr_left fun z hz => by simp; exact xI_xI (h z hz).1 (h z hz).2
theorem q3k (l : Nat) (hb : l ≤ 1000) (w : World) :
  (Instr.makeSlice 43 (.int .i64 (l : Int)) (.int .i64 (l : Int))).run Try.prog w = .ok (.slice (some ⟨w.heap.size,0,none⟩) l l) (w.alloc (.cells (madeCells #[.slice none 0 0] l) 23)) := by
 have hinfo : (Try.prog.info? 23).map (fun i => (i.zero,i.size,i.bytes)) = some (some (.slice none 0 0),1,24) := by kernel_rfl
 obtain ⟨i,hi,hz0,hz1,hz2⟩ := info_parts hinfo
 have := run_make (P := Try.prog) w 43 23 i (.slice none 0 0) Try.underlying43 hi hz0 .i64 .i64 l l (by omega) (by omega) (by rw [hz2]; omega) (by omega)
 rw [this,hz1]
 simp only [Int.toNat_natCast,Nat.mul_one]
 rfl
theorem q39 (g m : Nat) (an : Nat → Option Addr) (nn : Nat → Nat) (cu : Nat → List Int) (w : World) (hs : ApSI g m an nn cu) (ha : ApartI 3 w g m an nn cu) :
  Calls Try.prog 18 #[.slice (some ⟨g,0,none⟩) m m] w fun e w' => e = .returned (.bool true) ∧ Below w.heap.size w w' := by
 have hfew := hs.few
 have hmk := q3k m hfew
 go_enter Try.func18,Try.ntmps18
 go_wp2
 go_loopw [3] (fun i wr => ∃ k : Nat,k ≤ m ∧ i = .int .i64 k ∧ Below w.heap.size w wr) (fun i _ => m - (intOf i).toNat)
 case atStart => exact ⟨0,Nat.zero_le _,rfl,Below.refl _ _⟩
 case round =>
  obtain ⟨i,hi,rfl,hb⟩ := hrel
  by_cases hlt : i < m
  ·rename World => W0
   have haR := ha.up hb
   go_wp2
   have hC0 : Try.CopiesI (W0.alloc (.cells (madeCells #[.slice none 0 0] m) 23)) W0.heap.size m cu 0 :=
    ⟨_,(MapKept.heap_alloc W0 _).1,size_madeCells _ _,fun j hj => absurd hj (by omega)⟩
   go_loopw [5] (fun k wx => ∃ j : Nat,j ≤ m ∧ k = .int .i64 j ∧ Below W0.heap.size W0 wx ∧ Try.CopiesI wx W0.heap.size m cu j) (fun k _ => m - (intOf k).toNat)
   case atStart => exact ⟨0,Nat.zero_le _,rfl,(Below.refl _ _).alloc (Nat.le_refl _) _,hC0⟩
   case round =>
    obtain ⟨j,hj,rfl,hbx,hC⟩ := hrel
    clear hC0
    have haX := haR.up hbx
    by_cases hjm : j < m
    ·have hcx := haX.hd j hjm
     have hcpy : Calls Try.prog 35 #[.slice (an j) (cu j).length (cu j).length] wr.drew fun e w' => Try.CopyRI (cu j).length (cu j) wr.drew e w' :=
      q3H _ _ _ _ _ (((haX.row j hjm).up (Below.refl _ _).drew).intSl Try.underlying23 qb (by have := hs.len j; unfold maxLen; omega)) (hs.len j)
     have hk1 : ∀ W,Below wr.drew.heap.size wr.drew W → W.cell? ⟨g,j,none⟩ = some (.slice (an j) (nn j) (cu j).length) := fun W hW => (hW.cell haX.glt).trans hcx
     have hk2 : ∀ W v,Below wr.drew.heap.size wr.drew W → (W.setCell ⟨W0.heap.size,j,none⟩ v).cell? ⟨g,j,none⟩ = some (.slice (an j) (nn j) (cu j).length) := fun W v hW => by
      rw [World.cell?_setCell_other _ _ _ _ (by have := haR.glt; intro e; injection e; omega)]; exact hk1 W hW
     have hst : ∀ W,Below wr.drew.heap.size wr.drew W → ∃ v,W.cell? ⟨W0.heap.size,j,none⟩ = some v := fun W hW => by
      obtain ⟨H,h1,h2,_⟩ := hC
      have hlt2 : W0.heap.size < wr.heap.size := (Array.getElem?_eq_some_iff.1 h1).1
      have := (hW.block _ hlt2).trans h1
      exact ⟨H[j],by simp [World.cell?,this,h2,hjm]⟩
     have hfr : ∀ W,Below wr.drew.heap.size wr.drew W → W.frozen? ⟨W0.heap.size,j,none⟩ = false := fun W hW => by
      obtain ⟨H,h1,h2,_⟩ := hC
      have hlt2 : W0.heap.size < wr.heap.size := (Array.getElem?_eq_some_iff.1 h1).1
      exact frozen_of_row W _ j H _ ((hW.block _ hlt2).trans h1)
     generalize hcl : (cu j).length = c at *
     have HCL : Hid ((cu j).length = c) := hcl
     clear hcl
     go_wp2
     go_region_held3 (fun w' => w'.cell? ⟨g,j,none⟩ = some (.slice (an j) (nn j) c)) (first | exact hcx | exact hk1 _ ‹_› | exact hk2 _ _ ‹_›) ((go_at_call 35; refine hcpy.mono ?_; rintro e w1 ⟨a',c',rfl,hsl,hblk,hbw⟩; obtain ⟨v0,hs1⟩ := hst w1 hbw; have hf1 := hfr w1 hbw))
     go_wp2
     go_roundw
     case rel =>
      refine ⟨j + 1,by omega,by go_num,(hbx.trans ((Below.drew (Below.refl _ _)).trans (hbw.mono (hbx.size)))).setCell (Nat.le_refl _) _,?_⟩
      have hc := HCL.out
      subst hc
      exact hC.next hjm ⟨hbw.os,hbw.tape,hbw.output,hbw.size,hbw.block⟩ hsl hblk
     case measure => simp [intOf]; omega
    ·have hcx := haX.hd i hlt
     have hov : Calls Try.prog 36 #[.slice (an i) (nn i) (cu i).length] wr fun e w' => OverRI 3 (an i) (cu i) wr e w' := q1G _ _ _ _ (haX.row i hlt) (hs.len i)
     obtain rfl : m = j := by omega
     have HR0 : Hid (RowOfI W0 3 (an i) (cu i)) := haR.row i hlt
     generalize hcl : (cu i).length = c at *
     have HCL : Hid ((cu i).length = c) := hcl
     clear hcl
     go_wp2_with (go_at_call 36; refine hov.mono ?_; rintro e w2 ⟨rfl,hrow2,hg2⟩)
     have hC2 : Try.CopiesI w2 W0.heap.size m cu m := hC.grown hg2 (HR0.out.lt)
     have hA2 : ∀ k,k < m → w2.cell? ⟨g,k,none⟩ = some (.slice (an k) (nn k) (cu k).length) := fun k hk => hg2.cell (haX.hd k hk) (fun e => hs.gne i hlt e.symm)
     have hR2 : ∀ k,k < m → k ≠ i → RowOfI w2 3 (an k) (cu k) := fun k hk hne => (haX.row k hk).grown hg2 (hs.ne k i hk hlt hne)
     have HG2 : Hid (wr.grownBy w2 ((an i).map (·.block))) := hg2
     have HBX : Hid (Below W0.heap.size W0 wr) := hbx
     clear hov hg2 hC hcx haX hbx haR hmk
     go_loopw [6] (fun k wy => ∃ j : Nat,j ≤ m ∧ k = .int .i64 j ∧ Hid (∃ n,wy = w2.drewN n)) (fun k _ => m - (intOf k).toNat)
     case atStart => exact ⟨0,Nat.zero_le _,rfl,0,rfl⟩
     case round =>
      rename World => wy
      obtain ⟨k,hk,rfl,hwy⟩ := hrel
      by_cases hkm : k < m
      ·by_cases hki : k = i
       ·subst hki
        have hd : ((k : Int) != (k : Int)) = false := by simp
        go_wp2
        go_quiet (fail)
        go_wp2
        go_roundw
        case rel =>
         obtain ⟨n,hn⟩ := hwy.out
         exact ⟨k + 1,by omega,by go_num,n + nq,by rw [hn,World.drewN_drewN]⟩
        case measure => simp [intOf]; omega
       ·have hd : ((k : Int) != (i : Int)) = true := by simp; omega
        have hcx : wy.cell? ⟨g,k,none⟩ = some (.slice (an k) (nn k) (cu k).length) := by obtain ⟨n,hn⟩ := hwy.out; rw [hn]; exact hA2 k hkm
        obtain ⟨H,hH1,hH2,hH3⟩ := hC2
        obtain ⟨a',c',e1,e2,e3⟩ := hH3 k hkm
        have hcw : wy.cell? ⟨W0.heap.size,k,none⟩ = some (.slice a' (cu k).length c') := by
         obtain ⟨n,hn⟩ := hwy.out; rw [hn]
         show w2.cell? _ = _
         simp [World.cell?,hH1,e1]
        have hI : ∀ q,IntSl Try.prog 23 .i64 (wy.drewN q) (an k) (cu k).length (cu k).length (cu k) := fun q => by
         obtain ⟨n,hn⟩ := hwy.out; rw [hn]
         exact ((((hR2 k hkm hki).intSl Try.underlying23 qb (by have := hs.len k; unfold maxLen; omega)).drewN n).drewN q)
        have hJ : ∀ q,IntSl Try.prog 23 .i64 (wy.drewN q) a' (cu k).length c' (cu k) := fun q => by
         obtain ⟨n,hn⟩ := hwy.out; rw [hn]; exact ((e2.drewN n).drewN q)
        have hsm : ∀ q,Calls Try.prog 15 #[.slice (an k) (cu k).length (cu k).length,.slice a' (cu k).length c'] (wy.drewN q) fun e w' => e = .returned (.bool true) ∧ ∃ n,w' = (wy.drewN q).drewN n := fun q =>
         (qk _ _ _ _ _ _ _ _ _ (hI q) (hJ q)).mono fun e w' ⟨he,hn⟩ => ⟨by rw [he]; simp,hn⟩
        clear hI hJ hH1 hH2 hH3 e1 e2 e3
        generalize (cu k).length = ck at *
        go_wp2
        go_quiet ((go_at_call 15; exact Calls.quiet_of (hsm _)))
        go_wp2
        go_roundw
        case rel =>
         obtain ⟨n,hn⟩ := hwy.out
         exact ⟨k + 1,by omega,by go_num,n + nq,by rw [hn,World.drewN_drewN]⟩
        case measure => simp [intOf]; omega
      ·have hcx : wy.cell? ⟨g,i,none⟩ = some (.slice (an i) (nn i) c) := by
        obtain ⟨n,hn⟩ := hwy.out; rw [hn]; have := hA2 i hlt; rw [HCL.out] at this; exact this
       have hrowY : RowOfI wy 3 (an i) ((cu i).map xI) := by obtain ⟨n,hn⟩ := hwy.out; rw [hn]; exact hrow2.up (below_drewN (Below.refl _ _) n)
       have hov : Calls Try.prog 36 #[.slice (an i) (nn i) c] wy fun e w' => OverRI 3 (an i) ((cu i).map xI) wy e w' := by
        have := q1G (an i) (nn i) ((cu i).map xI) wy hrowY (by rw [List.length_map]; exact hs.len i)
        rw [List.length_map,HCL.out] at this; exact this
       clear hC2 hA2 hR2 hrowY hrow2
       go_wp2_with (go_at_call 36; refine hov.mono ?_; rintro e w4 ⟨rfl,hrow4,hg4⟩)
       go_roundw
       case rel =>
        have hg4' : w2.grownBy w4 ((an i).map (·.block)) := by
         obtain ⟨n,hn⟩ := hwy.out; rw [hn] at hg4
         exact ⟨hg4.os,hg4.tape,hg4.output,hg4.size,hg4.block⟩
        rw [q5d (hs.val i)] at hrow4
        exact ⟨i + 1,by omega,by go_num,hb.trans ((q3Z HR0.out HBX.out HG2.out hg4' hrow4).mono hb.size)⟩
       case measure => simp [intOf]; omega
  ·go_wp2
   go_ret
   exact ⟨rfl,hb⟩
end Go.Proofs.Ytbgogbafkoekjaa
