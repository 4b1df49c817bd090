/- Texts of the proof, put together: what it uses. -/
import Derived.Laws.OwnMore
import Derived.Laws.BitsAllLaws
import Derived.Deep.RegionHeld3
import Derived.Deep.RegionWith
import Derived.Deep.AppendLies
import Derived.BigQuiet
import Derived.KernelRfl
import Derived.Maps.OwnSet
import Derived.DeepKeys4
import Derived.Test.YtbgogbafkoekjaaY00
import Derived.Test.YtbgogbafkoekjaaY01
set_option maxRecDepth 100000
set_option maxHeartbeats 16000000
namespace Go.Proofs.Ytbgogbafkoekjaa
open Go.RowKit Go.Maps
def adOf (a : Option Addr) (i : Nat) : Addr := match a with
 | some x => x.add i
 | none => ⟨0,0,none⟩
theorem q8 (g o i : Nat) : (⟨g,o,none⟩ : Addr).add i = ⟨g,o + i,none⟩ := by unfold Addr.add; split <;> simp_all
theorem q12 {P : Program} {e : TypeId} (h : (P.info? e).map (·.size) = some 1) (w : World) : (sizeOf e).run P w = .ok 1 w := by
 cases hq : P.info? e with
 | none => simp [hq] at h
 | some i => simp [hq] at h; simp [sizeOf,typeInfo,hq,h]
theorem qd {P : Program} {T e : TypeId} (hu : P.underlying T = some (.slice e)) (hs : (P.info? e).map (·.size) = some 1) {a : Option Addr} {cap n : Nat} (hn : a = none → n = 0) (k : Nat) (w : World) (hk : k < n) :
  (Instr.indexAt T (.slice a n cap) (.int .i64 k)).run P w = .ok (.pointer (some (adOf a k))) w := by
 cases a with
 | none => have := hn rfl; omega
 | some x => simp [Instr.indexAt,run_underlying hu,asIntOf,q12 hs,hk,adOf,Result.andThen,go_sem]
structure IntSl (P : Program) (T : TypeId) (q : IntKind) (w : World) (a : Option Addr) (len cap : Nat) (zs : List Int) : Prop where
 hlen : zs.length = len
 hcap : len ≤ cap
 bd : cap ≤ maxLen
 idx : ∀ (n k : Nat) (w : World),k < n → n ≤ len → (Instr.indexAt T (.slice a n cap) (.int .i64 k)).run P w = .ok (.pointer (some (adOf a k))) w
 cell : ∀ k,k < len → w.cell? (adOf a k) = some (.int q (zs.getD k 0))
 blk : ∀ k,k < len → (adOf a k).block < w.heap.size
 nn : a = none → cap = 0
theorem IntSl.later {P : Program} {T : TypeId} {q : IntKind} {w w' : World} {a : Option Addr} {len cap : Nat} {zs : List Int} (h : IntSl P T q w a len cap zs) {B : Nat} (hb : Below B w w') (hB : ∀ k,k < len → (adOf a k).block < B) : IntSl P T q w' a len cap zs :=
 ⟨h.hlen,h.hcap,h.bd,h.idx,fun k hk => (hb.cell (hB k hk)).trans (h.cell k hk),fun k hk => Nat.lt_of_lt_of_le (h.blk k hk) hb.size,h.nn⟩
theorem IntSl.up {P : Program} {T : TypeId} {q : IntKind} {w w' : World} {a : Option Addr} {len cap : Nat} {zs : List Int} (h : IntSl P T q w a len cap zs) (hb : Below w.heap.size w w') : IntSl P T q w' a len cap zs := h.later hb h.blk
theorem IntSl.drewN {P : Program} {T : TypeId} {q : IntKind} {w : World} {a : Option Addr} {len cap : Nat} {zs : List Int} (h : IntSl P T q w a len cap zs) (n : Nat) : IntSl P T q (w.drewN n) a len cap zs := h.up (below_drewN (Below.refl _ _) n)
theorem qr {zs : List Int} {k : Nat} (h : k < zs.length) : zs.take (k + 1) = zs.take k ++ [zs.getD k 0] := by
 rw [List.take_add_one,List.getElem?_eq_getElem h]; simp [List.getD_eq_getElem?_getD,List.getElem?_eq_getElem h]
theorem q37 {xs ys : List Int} {k : Nat} (hx : k < xs.length) (hy : k < ys.length) (h : xs.take k = ys.take k) (he : xs.getD k 0 = ys.getD k 0) : xs.take (k + 1) = ys.take (k + 1) := by
 rw [qr hx,qr hy,h,he]
theorem q4a {P : Program} {T : TypeId} {w : World} : IntSl P T .u8 w none 0 0 [] :=
 ⟨rfl,Nat.le_refl _,Nat.zero_le _,fun m k w hk hm => absurd hk (by omega),fun k hk => absurd hk (by omega),fun k hk => absurd hk (by omega),fun _ => rfl⟩
theorem q2K {P : Program} {T e : TypeId} {w : World} {base n : Nat} {v : Value} {zs : List Int} (h : w.ownsRow base e 1 v n (zs.map (Value.int .u8))) (hu : P.underlying T = some (.slice e)) (hs : (P.info? e).map (·.size) = some 1) :
  ∃ a cap,v = .slice a n cap ∧ IntSl P T .u8 w a n cap zs ∧ ∀ k,k < n → base ≤ (adOf a k).block := by
 obtain ⟨hl,h⟩ := h
 simp at hl
 rcases h with ⟨rfl,rfl⟩ | ⟨g,cap,cur,rfl,hg,hcell,hnc,hcm,hsz,htk⟩
 ·have : zs = [] := List.eq_nil_of_length_eq_zero hl
  subst this
  exact ⟨none,0,rfl,q4a,fun k hk => absurd hk (by omega)⟩
 ·have had : ∀ k,adOf (some ⟨g,0,none⟩) k = ⟨g,k,none⟩ := fun k => by simp [adOf,q8]
  have hlt := (Array.getElem?_eq_some_iff.1 hcell).1
  refine ⟨some ⟨g,0,none⟩,cap,rfl,⟨hl,hnc,hcm,fun m k w hk hm => qd hu hs (by simp) k w hk,fun k hk => ?_,fun k hk => by rw [had]; exact hlt,by simp⟩,fun k hk => by rw [had]; exact hg⟩
  rw [had]
  have hk2 : (cur.toList.take (n * 1))[k]? = some (.int .u8 (zs.getD k 0)) := by
   rw [htk]; simp [List.getD_eq_getElem?_getD,List.getElem?_eq_getElem (show k < zs.length by omega)]
  rw [List.getElem?_take,if_pos (by omega)] at hk2
  simp [World.cell?,hcell]
  simpa using hk2
theorem q1f {w : World} {base e size n : Nat} {v : Value} {xs : List Value} (h : w.ownsRow base e size v n xs) : ∀ k,v.ownBlock = some k → base ≤ k := by
 obtain ⟨_,h⟩ := h
 rcases h with ⟨rfl,_⟩ | ⟨g,cap,cur,rfl,hg,_⟩
 ·intro k hk; simp [Value.ownBlock] at hk
 ·intro k hk; simp [Value.ownBlock] at hk; omega
theorem q7 (w : World) (o : Obj) : Below w.heap.size w (w.alloc o) := (Below.refl _ _).alloc (Nat.le_refl _) _
theorem q5 {w w1 w2 : World} (h : Below w.heap.size w w1) (k : Below w1.heap.size w1 w2) : Below w.heap.size w w2 := h.trans (k.mono h.size)
theorem q4D {w : World} {base e size n : Nat} {v : Value} {xs : List Value} (h : w.ownsRow base e size v n xs) {p : Addr} (hp : p.block < base) (u : Value) : (w.setCell p u).ownsRow base e size v n xs := by
 refine ⟨h.1,?_⟩
 rcases h.2 with hn | ⟨g,cap,cur,h1,h2,h3,h4⟩
 ·exact Or.inl hn
 ·exact Or.inr ⟨g,cap,cur,h1,h2,(Below.heap_setCell w p u g (by omega)).trans h3,h4⟩
theorem qx {w w' : World} {base e size n : Nat} {v : Value} {xs : List Value} (h : w.ownsRow base e size v n xs) (hb : Below w.heap.size w w') : w'.ownsRow base e size v n xs := by
 refine ⟨h.1,?_⟩
 rcases h.2 with hn | ⟨g,cap,cur,h1,h2,h3,h4⟩
 ·exact Or.inl hn
 ·exact Or.inr ⟨g,cap,cur,h1,h2,(hb.block g (Array.getElem?_eq_some_iff.1 h3).1).trans h3,h4⟩
theorem q1g {w : World} {base base' e size n : Nat} {v : Value} {xs : List Value} (h : w.ownsRow base e size v n xs) (hb : base' ≤ base) : w.ownsRow base' e size v n xs := by
 refine ⟨h.1,?_⟩
 rcases h.2 with hn | ⟨g,cap,cur,h1,h2,h3,h4⟩
 ·exact Or.inl hn
 ·exact Or.inr ⟨g,cap,cur,h1,Nat.le_trans hb h2,h3,h4⟩
theorem q9 {w0 w1 : World} {p : Addr} {v : Value} (h : w0.cell? p = some v) (hb : Below w0.heap.size w0 w1) : w1.cell? p = some v := (hb.cell (World.block_lt_of_cell? _ _ h)).trans h
theorem q3T {w0 w1 : World} {p : Addr} {v : Value} {row : Option Nat} (h : w0.cell? p = some v) (hb : w0.grownBy w1 row) (hne : some p.block ≠ row) : w1.cell? p = some v := (hb.cell_far p (World.block_lt_of_cell? _ _ h) hne).trans h
theorem q6 {W : World} {g : Nat} {arr : Array Value} {e : TypeId} (h : W.heap[g]? = some (.cells arr e (0,0))) (j : Nat) : W.cell? ⟨g,j,none⟩ = arr[j]? := by simp [World.cell?,h]
theorem qz (x : Addr) (n : Nat) : (x.add n).block = x.block := by unfold Addr.add; split <;> rfl
theorem add_add (x : Addr) (m n : Nat) : (x.add m).add n = x.add (m + n) := by
 unfold Addr.add
 by_cases h : n = 0
 ·subst h; simp
 ·have h2 : ¬ (m + n = 0) := fun e => h (by omega)
  rw [if_neg h,if_neg h2]; split <;> simp_all [Nat.add_assoc]
theorem q1v {P : Program} {e : TypeId} (h : (P.info? e).map (·.size) = some 3) (w : World) : (sizeOf e).run P w = .ok 3 w := by
 cases hq : P.info? e with
 | none => simp [hq] at h
 | some i => simp [hq] at h; simp [sizeOf,typeInfo,hq,h]
def RowI (w : World) (e : TypeId) (g : Nat) (cur : List Int) : Prop := w.heap[g]? = some (.cells (cur.map (Value.int .i64)).toArray e (0,0))
theorem RowI.lt {w : World} {e : TypeId} {g : Nat} {cur : List Int} (h : RowI w e g cur) : g < w.heap.size := (Array.getElem?_eq_some_iff.1 h).1
theorem RowI.up {w w' : World} {e : TypeId} {g : Nat} {cur : List Int} (h : RowI w e g cur) (hb : Below w.heap.size w w') : RowI w' e g cur := (hb.block g h.lt).trans h
theorem RowI.cell {w : World} {e : TypeId} {g : Nat} {cur : List Int} (h : RowI w e g cur) {i : Nat} (hi : i < cur.length) : w.cell? ⟨g,i,none⟩ = some (.int .i64 (cur.getD i 0)) := by
 unfold RowI at h; simp [World.cell?,h,List.getD_eq_getElem?_getD,List.getElem?_eq_getElem hi]
theorem RowI.frozen {w : World} {e : TypeId} {g : Nat} {cur : List Int} (h : RowI w e g cur) (i : Nat) : w.frozen? ⟨g,i,none⟩ = false := frozen_of_row w g i _ e h
theorem RowI.set {w : World} {e : TypeId} {g : Nat} {cur : List Int} (h : RowI w e g cur) (i : Nat) (x : Int) : RowI (w.setCell ⟨g,i,none⟩ (.int .i64 x)) e g (cur.set i x) := by
 have := heap_setCell_same w g i _ e (.int .i64 x) h
 unfold RowI; rw [this]; simp [List.map_set]
theorem RowI.other {w : World} {e : TypeId} {g g' : Nat} {cur : List Int} (h : RowI w e g cur) (hne : g ≠ g') (i : Nat) (v : Value) : RowI (w.setCell ⟨g',i,none⟩ v) e g cur := (Below.heap_setCell _ _ _ _ hne).trans h
theorem madeI (n : Nat) : madeCells #[.int .i64 0] n = ((List.replicate n (0 : Int)).map (Value.int .i64)).toArray := by
 apply Array.ext_getElem?
 intro i
 by_cases h : i < n
 ·simp [madeCells,h,Nat.mod_one]
 ·simp [madeCells,h]
theorem q4I {xs : List Int} {n k : Nat} (hl : xs.length = n) (hk : k < n) : (xs.take k ++ List.replicate (n - k) 0).set k (xs.getD k 0) = xs.take (k + 1) ++ List.replicate (n - (k + 1)) 0 := by
 have h1 : (xs.take k).length = k := by simp; omega
 have h2 : n - k = (n - (k + 1)) + 1 := by omega
 have e : xs.getD k 0 = xs[k]'(by omega) := by simp [List.getD_eq_getElem?_getD,List.getElem?_eq_getElem (show k < xs.length by omega)]
 rw [List.set_append_right _ _ (by omega),h1,Nat.sub_self,h2,List.replicate_succ,List.set_cons_zero,List.take_add_one,List.getElem?_eq_getElem (by omega),e,List.append_assoc]
 rfl
theorem q1q : (Try.prog.info? 3).map (fun i => (i.zero,i.size,i.bytes)) = some (some (.int .i64 0),1,8) := by kernel_rfl
theorem qF (l : Nat) (hb : l ≤ 1000000) (w : World) :
  (Instr.makeSlice 23 (.int .i64 (l : Int)) (.int .i64 (l : Int))).run Try.prog w = .ok (.slice (some ⟨w.heap.size,0,none⟩) l l) (w.alloc (.cells (madeCells #[.int .i64 0] l) 3)) := by
 obtain ⟨i,hi,hz0,hz1,hz2⟩ := info_parts q1q
 have := run_make (P := Try.prog) w 23 3 i (.int .i64 0) Try.underlying23 hi hz0 .i64 .i64 (l : Int) (l : Int) (by omega) (by omega) (by rw [hz2]; omega) (by omega)
 rw [this,hz1]
 simp only [Int.toNat_natCast,Nat.mul_one]
 rfl
theorem qb : (Try.prog.info? 3).map (·.size) = some 1 := by kernel_rfl
theorem qk (a : Option Addr) (len cap : Nat) (xs : List Int) (a' : Option Addr) (len' cap' : Nat) (ys : List Int) (w : World)
  (hS : IntSl Try.prog 23 .i64 w a len cap xs) (hO : IntSl Try.prog 23 .i64 w a' len' cap' ys) :
  Calls Try.prog 15 #[.slice a len cap,.slice a' len' cap'] w fun e w' => e = .returned (.bool (decide (xs = ys))) ∧ ∃ n,w' = w.drewN n := by
 have hb0 := hS.bd
 have hb2 := hO.bd
 have hb3 := hO.hcap
 unfold maxLen at hb0 hb2
 by_cases hll : len = len'
 ·subst hll
  have hidx := fun (k : Nat) (w : World) (h : k < len) => hS.idx len k w h (Nat.le_refl _)
  have hidx' := fun (k : Nat) (w : World) (h : k < len) => hO.idx len k w h (Nat.le_refl _)
  go_enter Try.func15,Try.ntmps15
  go_wp2
  go_loopw [5] (fun i wr => ∃ k : Nat,k ≤ len ∧ i = .int .i64 k ∧ Hid (xs.take k = ys.take k) ∧ Hid (∃ n,wr = w.drewN n)) (fun i _ => len - (intOf i).toNat)
  case atStart => exact ⟨0,Nat.zero_le _,rfl,by show _ = _; simp,0,rfl⟩
  case round =>
   obtain ⟨k,hk,rfl,HU,hwr⟩ := hrel
   by_cases hlt : k < len
   ·have hS' : IntSl Try.prog 23 .i64 wr a len cap xs := by obtain ⟨n,hn⟩ := hwr.out; rw [hn]; exact hS.drewN n
    have hO' : IntSl Try.prog 23 .i64 wr a' len cap' ys := by obtain ⟨n,hn⟩ := hwr.out; rw [hn]; exact hO.drewN n
    have hck := hS'.cell k hlt
    have hck' := hO'.cell k hlt
    have HN : Hid (xs.getD k 0 = ys.getD k 0 → xs.take (k + 1) = ys.take (k + 1)) := fun h => q37 (by rw [hS.hlen]; exact hlt) (by rw [hO.hlen]; exact hlt) HU.out h
    have HM : Hid (xs.getD k 0 ≠ ys.getD k 0 → decide (xs = ys) = false) := fun h => decide_eq_false (fun e => h (by rw [e]))
    generalize xs.getD k 0 = x at *
    generalize ys.getD k 0 = y at *
    go_wp2
    go_quiet (fail)
    rcases Bool.eq_false_or_eq_true (x != y) with ht | ht
    ·go_wp2
     go_ret
     obtain ⟨n,hn⟩ := hwr.out
     exact ⟨by rw [HM.out (by simpa using ht)]; rfl,n + nq,by rw [hn,World.drewN_drewN]⟩
    ·have HN2 : Hid _ := HN.out (by simpa using ht)
     go_wp2
     go_roundw
     case rel =>
      obtain ⟨n,hn⟩ := hwr.out
      exact ⟨k + 1,by omega,by go_num,HN2,n + nq,by rw [hn,World.drewN_drewN]⟩
     case measure => simp [intOf]; omega
   ·have hx : Hid (decide (xs = ys) = true) := by
     have := HU.out
     rw [List.take_of_length_le (by rw [hS.hlen]; omega),List.take_of_length_le (by rw [hO.hlen]; omega)] at this
     exact decide_eq_true this
    go_wp2
    go_ret
    exact ⟨by rw [hx.out]; rfl,hwr.out⟩
 ·have hx : Hid (decide (xs = ys) = false) := decide_eq_false (fun e => hll (by rw [← hS.hlen,← hO.hlen,e]))
  go_enter Try.func15,Try.ntmps15
  go_wp2
  go_ret
  exact ⟨by rw [hx.out]; rfl,0,rfl⟩
def encGd (ts : List Gd) : List Value := ts.flatMap fun t => [.int .i64 t.1,.int .i64 t.2.1,.int .i64 t.2.2]
theorem q1J (t : Gd) (ts : List Gd) : encGd (t :: ts) = .int .i64 t.1 :: .int .i64 t.2.1 :: .int .i64 t.2.2 :: encGd ts := rfl
theorem qG (xs ys : List Gd) : encGd (xs ++ ys) = encGd xs ++ encGd ys := by simp [encGd]
theorem qu : ∀ ts : List Gd,(encGd ts).length = ts.length * 3
 | [] => rfl
 | t :: ts => by rw [q1J]; simp [qu ts]; omega
theorem qf : ∀ (ts : List Gd) (k : Nat) (h : k < ts.length),(encGd ts)[3 * k]? = some (.int .i64 ts[k].1) ∧ (encGd ts)[3 * k + 1]? = some (.int .i64 ts[k].2.1) ∧ (encGd ts)[3 * k + 2]? = some (.int .i64 ts[k].2.2)
 | [],k,h => absurd h (by simp)
 | t :: ts,0,_ => ⟨rfl,rfl,rfl⟩
 | t :: ts,k + 1,h => by
  have := qf ts k (by simpa using h)
  rw [q1J,show 3 * (k + 1) = 3 * k + 1 + 1 + 1 by omega,show 3 * k + 1 + 1 + 1 + 1 = (3 * k + 1) + 1 + 1 + 1 by omega,show 3 * k + 1 + 1 + 1 + 2 = (3 * k + 2) + 1 + 1 + 1 by omega]
  simpa using this
theorem q47 (ts : List Gd) : ∀ u ∈ encGd ts,u.oneCell' = true := by
 intro u hu
 unfold encGd at hu
 obtain ⟨c,_,hc⟩ := List.mem_flatMap.1 hu
 simp at hc
 rcases hc with rfl | rfl | rfl <;> rfl
def I64 (z : Int) : Prop := -9223372036854775808 ≤ z ∧ z < 9223372036854775808
def GdOk (t : Gd) : Prop := I64 t.1 ∧ I64 t.2.1 ∧ I64 t.2.2
structure NdSl (w : World) (a : Option Addr) (len cap : Nat) (ts : List Gd) : Prop where
 hlen : ts.length = len
 hcap : len ≤ cap
 bd : cap ≤ maxLen
 nn : a = none → cap = 0
 c0 : ∀ x,a = some x → ∀ k (h : k < ts.length),w.cell? (x.add (3 * k)) = some (.int .i64 ts[k].1)
 c1 : ∀ x,a = some x → ∀ k (h : k < ts.length),w.cell? (x.add (3 * k + 1)) = some (.int .i64 ts[k].2.1)
 c2 : ∀ x,a = some x → ∀ k (h : k < ts.length),w.cell? (x.add (3 * k + 2)) = some (.int .i64 ts[k].2.2)
 ok : ∀ t ∈ ts,GdOk t
theorem NdSl.some_of {w : World} {a : Option Addr} {len cap : Nat} {ts : List Gd} (h : NdSl w a len cap ts) (hl : 0 < len) : ∃ x,a = some x := by
 cases a with
 | none => have := h.nn rfl; have := h.hcap; omega
 | some x => exact ⟨x,rfl⟩
theorem NdSl.lt {w : World} {x : Addr} {len cap : Nat} {ts : List Gd} (h : NdSl w (some x) len cap ts) (hl : 0 < len) : x.block < w.heap.size := by
 have h0 := h.c0 x rfl 0 (by have := h.hlen; omega)
 have := World.block_lt_of_cell? _ _ h0
 rwa [qz] at this
theorem NdSl.keep {w w' : World} {a : Option Addr} {len cap : Nat} {ts : List Gd} (h : NdSl w a len cap ts) (hk : ∀ p v,w.cell? p = some v → (∀ x,a = some x → p.block = x.block) → w'.cell? p = some v) : NdSl w' a len cap ts := by
 have hb : ∀ x,a = some x → ∀ m,∀ y,a = some y → (x.add m).block = y.block := fun x hx m y hy => by rw [qz]; rw [hx] at hy; injection hy with hy; rw [hy]
 exact ⟨h.hlen,h.hcap,h.bd,h.nn,fun x hx k hk' => hk _ _ (h.c0 x hx k hk') (hb x hx _),fun x hx k hk' => hk _ _ (h.c1 x hx k hk') (hb x hx _),fun x hx k hk' => hk _ _ (h.c2 x hx k hk') (hb x hx _),h.ok⟩
theorem NdSl.up {w w' : World} {a : Option Addr} {len cap : Nat} {ts : List Gd} (h : NdSl w a len cap ts) (hb : Below w.heap.size w w') : NdSl w' a len cap ts :=
 h.keep fun _ _ hp _ => q9 hp hb
theorem NdSl.nil {w : World} : NdSl w none 0 0 [] :=
 ⟨rfl,Nat.le_refl _,Nat.zero_le _,fun _ => rfl,fun x hx => (by cases hx),fun x hx => (by cases hx),fun x hx => (by cases hx),fun t ht => (by simp at ht)⟩
theorem NdSl.at {w : World} {a : Option Addr} {len cap : Nat} {ts : List Gd} (h : NdSl w a len cap ts) {P : Program} {T e : TypeId} (hu : P.underlying T = some (.slice e)) (hs : (P.info? e).map (·.size) = some 3) (k : Nat) (hk : k < len) :
  ∃ g o s,(∀ (n : Nat) (w' : World),k < n → (Instr.indexAt T (.slice a n cap) (.int .i64 k)).run P w' = .ok (.pointer (some ⟨g,o,s⟩)) w') ∧ w.cell? ⟨g,o,s⟩ = some (.int .i64 (ts.getD k (0,0,0)).1) ∧ w.cell? ⟨g,o + 1,none⟩ = some (.int .i64 (ts.getD k (0,0,0)).2.1) ∧ w.cell? ⟨g,o + 2,none⟩ = some (.int .i64 (ts.getD k (0,0,0)).2.2) ∧ g < w.heap.size ∧ (∀ x,a = some x → x.block = g) ∧ GdOk (ts.getD k (0,0,0)) := by
 obtain ⟨x,rfl⟩ := h.some_of (by omega)
 have hkl : k < ts.length := by rw [h.hlen]; exact hk
 have e0 := h.c0 x rfl k hkl
 have e1 := h.c1 x rfl k hkl
 have e2 := h.c2 x rfl k hkl
 have eok := h.ok _ (List.getElem_mem hkl)
 have ex : ts[k] = ts.getD k (0,0,0) := by simp [List.getD_eq_getElem?_getD,List.getElem?_eq_getElem hkl]
 rw [ex] at e0 e1 e2 eok
 have hlt := h.lt (by omega)
 rw [← add_add] at e1 e2
 have hb := qz x (3 * k)
 have hrun : ∀ (n : Nat) (w' : World),k < n → (Instr.indexAt T (.slice (some x) n cap) (.int .i64 k)).run P w' = .ok (.pointer (some (x.add (3 * k)))) w' := fun n w' hn => by
  simp [Instr.indexAt,run_underlying hu,asIntOf,q1v hs,hn,Result.andThen,go_sem,Nat.mul_comm]
 generalize x.add (3 * k) = y at *
 obtain ⟨g,o,s⟩ := y
 refine ⟨g,o,s,hrun,e0,?_,?_,?_,?_,eok⟩
 ·simpa [Addr.add] using e1
 ·simpa [Addr.add] using e2
 ·dsimp only at hb; omega
 ·intro z hz; injection hz with hz; rw [← hz]; exact hb.symm
theorem qc : (Try.prog.info? 63).map (·.size) = some 3 := by kernel_rfl
theorem q2Q : (Try.prog.info? 63).map (fun i => (i.zero,i.size,i.bytes)) = some (some (.agg #[.int .i64 0,.int .i64 0,.int .i64 0]),3,24) := by kernel_rfl
theorem NdSl.cells {w : World} {x : Addr} {len cap : Nat} {ts : List Gd} (h : NdSl w (some x) len cap ts) : ∀ j u,(encGd ts)[j]? = some u → w.cell? (x.add j) = some u := by
 intro j u hj
 have hjl := (List.getElem?_eq_some_iff.1 hj).1
 rw [qu] at hjl
 obtain ⟨k,h0⟩ : ∃ k,j = 3 * k ∨ j = 3 * k + 1 ∨ j = 3 * k + 2 := ⟨j / 3,by omega⟩
 rcases h0 with rfl | rfl | rfl
 ·rw [(qf ts k (by omega)).1] at hj
  rw [← hj]; exact h.c0 x rfl k (by omega)
 ·rw [(qf ts k (by omega)).2.1] at hj
  rw [← hj]; exact h.c1 x rfl k (by omega)
 ·rw [(qf ts k (by omega)).2.2] at hj
  rw [← hj]; exact h.c2 x rfl k (by omega)
theorem qC {cs : List Gd} {k : Nat} (h : k < cs.length) : cs.take (k + 1) = cs.take k ++ [cs.getD k (0,0,0)] := by
 rw [List.take_add_one,List.getElem?_eq_getElem h]; simp [List.getD_eq_getElem?_getD,List.getElem?_eq_getElem h]
theorem q41 {xs ys : List Gd} {k : Nat} (hx : k < xs.length) (hy : k < ys.length) (h : xs.take k = ys.take k) (he : xs.getD k (0,0,0) = ys.getD k (0,0,0)) : xs.take (k + 1) = ys.take (k + 1) := by
 rw [qC hx,qC hy,h,he]
theorem q1Y : ∃ f0 f1 f2,(Try.prog.fieldsOf 63).toList = [f0,f1,f2] ∧ (f0.name = "P" ∧ f0.type = 3 ∧ f0.offset = 0) ∧ (f1.name = "Lo" ∧ f1.type = 3 ∧ f1.offset = 1) ∧ (f2.name = "Hi" ∧ f2.type = 3 ∧ f2.offset = 2) := by
 have hfl : (Try.prog.fieldsOf 63).toList.map (fun f => (f.name,f.type,f.offset)) = [("P",3,0),("Lo",3,1),("Hi",3,2)] := by kernel_rfl
 cases hl : (Try.prog.fieldsOf 63).toList with
 | nil => rw [hl] at hfl; simp at hfl
 | cons f0 r =>
  cases r with
  | nil => rw [hl] at hfl; simp at hfl
  | cons f1 r =>
   cases r with
   | nil => rw [hl] at hfl; simp at hfl
   | cons f2 r =>
    rw [hl] at hfl
    simp at hfl
    obtain ⟨h0,h1,h2,rfl⟩ := hfl
    exact ⟨f0,f1,f2,rfl,h0,h1,h2⟩
theorem q1o (x0 x1 x2 y0 y1 y2 : Int) (w : World) : (binOp .eql 63 (.agg #[.int .i64 x0,.int .i64 x1,.int .i64 x2]) (.agg #[.int .i64 y0,.int .i64 y1,.int .i64 y2])).run Try.prog w = .ok (.bool (decide (((x0,x1,x2) : Gd) = (y0,y1,y2)))) w := by
 have ht : Try.prog.underlying 63 = some (.struct (Try.prog.fieldsOf 63)) := by kernel_rfl
 have hp : Try.prog.stoodInHeld 63 = false := by kernel_rfl
 rw [run_eql_struct,run_equalIn_agg _ 9999 _ _ _ ht hp]
 obtain ⟨f0,f1,f2,hl,⟨a1,a2,a3⟩,⟨b1,b2,b3⟩,⟨c1,c2,c3⟩⟩ := q1Y
 rw [hl]
 by_cases h0 : x0 = y0
 ·by_cases h1 : x1 = y1
  ·by_cases h2 : x2 = y2
   ·simp [Op.eqFields,a1,a2,a3,b1,b2,b3,c1,c2,c3,go_sem,h0,h1,h2,run_equalIn_int _ 9998 _ _ _ _ _ Try.underlying3]
   ·simp [Op.eqFields,a1,a2,a3,b1,b2,b3,c1,c2,c3,go_sem,h0,h1,h2,run_equalIn_int _ 9998 _ _ _ _ _ Try.underlying3]
  ·simp [Op.eqFields,a1,a2,a3,b1,b2,b3,go_sem,h0,h1,run_equalIn_int _ 9998 _ _ _ _ _ Try.underlying3]
 ·simp [Op.eqFields,a1,a2,a3,go_sem,h0,run_equalIn_int _ 9998 _ _ _ _ _ Try.underlying3]
theorem q1t (x0 x1 x2 y0 y1 y2 : Int) (w : World) : (binOp .neq 63 (.agg #[.int .i64 x0,.int .i64 x1,.int .i64 x2]) (.agg #[.int .i64 y0,.int .i64 y1,.int .i64 y2])).run Try.prog w = .ok (.bool (!decide (((x0,x1,x2) : Gd) = (y0,y1,y2)))) w := by
 have h := q1o x0 x1 x2 y0 y1 y2 w
 rw [run_eql_struct] at h
 rw [run_neq_struct]
 cases hr : (Op.equalIn 10000 63 (.agg #[.int .i64 x0,.int .i64 x1,.int .i64 x2]) (.agg #[.int .i64 y0,.int .i64 y1,.int .i64 y2])).run Try.prog w with
 | ok b w1 =>
  rw [hr] at h
  simp [Result.andThen] at h ⊢
  obtain ⟨rfl,rfl⟩ := h
  exact ⟨rfl,rfl⟩
 | halt x w1 => rw [hr] at h; simp [Result.andThen] at h
theorem q29 (a : Option Addr) (len cap : Nat) (xs : List Gd) (a' : Option Addr) (len' cap' : Nat) (ys : List Gd) (w : World)
  (hS : NdSl w a len cap xs) (hO : NdSl w a' len' cap' ys) :
  Calls Try.prog 46 #[.slice a len cap,.slice a' len' cap'] w fun e w' => e = .returned (.bool (decide (xs = ys))) ∧ Below w.heap.size w w' := by
 have hb0 := hS.bd
 have hb2 := hO.bd
 have hb3 := hO.hcap
 unfold maxLen at hb0 hb2
 by_cases hll : len = len'
 ·subst hll
  go_enter Try.func46,Try.ntmps46
  go_wp2
  go_loopw [5] (fun i wr => ∃ k : Nat,k ≤ len ∧ i = .int .i64 k ∧ Hid (xs.take k = ys.take k) ∧ Hid (Below w.heap.size w wr)) (fun i _ => len - (intOf i).toNat)
  case atStart => exact ⟨0,Nat.zero_le _,rfl,by show _ = _; simp,Below.refl _ _⟩
  case round =>
   obtain ⟨k,hk,rfl,HU,hwr⟩ := hrel
   by_cases hlt : k < len
   ·obtain ⟨g1,o1,s1,hi1,hx0,hx1,hx2,_,_,_⟩ := (hS.up hwr.out).at Try.underlying24 qc k hlt
    obtain ⟨g2,o2,s2,hi2,hy0,hy1,hy2,_,_,_⟩ := (hO.up hwr.out).at Try.underlying24 qc k hlt
    have HN : Hid (xs.getD k (0,0,0) = ys.getD k (0,0,0) → xs.take (k + 1) = ys.take (k + 1)) := fun h => q41 (by rw [hS.hlen]; exact hlt) (by rw [hO.hlen]; exact hlt) HU.out h
    have HM : Hid (xs.getD k (0,0,0) ≠ ys.getD k (0,0,0) → decide (xs = ys) = false) := fun h => decide_eq_false (fun e => h (by rw [e]))
    generalize xs.getD k (0,0,0) = x at *
    generalize ys.getD k (0,0,0) = y at *
    obtain ⟨x0,x1,x2⟩ := x
    obtain ⟨y0,y1,y2⟩ := y
    have hne := q1t x0 x1 x2 y0 y1 y2
    have HD : Hid (∀ b,decide (((x0,x1,x2) : Gd) = (y0,y1,y2)) = b → b = true → ((x0,x1,x2) : Gd) = (y0,y1,y2)) := fun b h1 h2 => of_decide_eq_true (h1.trans h2)
    have HE : Hid (∀ b,decide (((x0,x1,x2) : Gd) = (y0,y1,y2)) = b → b = false → ((x0,x1,x2) : Gd) ≠ (y0,y1,y2)) := fun b h1 h2 => of_decide_eq_false (h1.trans h2)
    generalize hq : decide (((x0,x1,x2) : Gd) = (y0,y1,y2)) = q at hne
    go_wp2_with fail
    go_quiet (fail)
    cases q with
    | false =>
     have HM2 : Hid _ := HM.out (HE.out false hq rfl)
     go_wp2
     go_ret
     exact ⟨by rw [HM2.out]; rfl,below_drewN hwr.out nq⟩
    | true =>
     have HN2 : Hid _ := HN.out (HD.out true hq rfl)
     go_wp2
     go_roundw
     case rel => exact ⟨k + 1,by omega,by go_num,HN2,below_drewN hwr.out nq⟩
     case measure => simp [intOf]; omega
   ·have hx : Hid (decide (xs = ys) = true) := by
     have := HU.out
     rw [List.take_of_length_le (by rw [hS.hlen]; omega),List.take_of_length_le (by rw [hO.hlen]; omega)] at this
     exact decide_eq_true this
    go_wp2
    go_ret
    exact ⟨by rw [hx.out]; rfl,hwr.out⟩
 ·have hx : Hid (decide (xs = ys) = false) := decide_eq_false (fun e => hll (by rw [← hS.hlen,← hO.hlen,e]))
  go_enter Try.func46,Try.ntmps46
  go_wp2
  go_ret
  exact ⟨by rw [hx.out]; rfl,Below.refl _ _⟩
theorem q4s (l p : Nat) : (((l / 2 ^ p % 2 : Nat) : Int) == 1) = l.testBit p := by
 rw [Nat.testBit_eq_decide_div_mod_eq]
 have : l / 2 ^ p % 2 = 0 ∨ l / 2 ^ p % 2 = 1 := by omega
 rcases this with h | h <;> rw [h] <;> rfl
theorem q2M (l p : Nat) (w : World) (hl : l < 256) (hp : p ≤ 8) :
  Calls Try.prog 70 #[.int .u8 (l : Int),.int .i64 (p : Int)] w fun e w' => e = .returned (.bool (l.testBit p)) ∧ w' = w := by
 have HB : Hid _ := q4s l p
 go_enter Try.func70,Try.ntmps70
 go_wp2
 go_loop [5,6] (fun v i => ∃ k : Nat,k ≤ p ∧ i = .int .i64 k ∧ ∃ x : Nat,x < 256 ∧ v = .int .i64 (x : Int) ∧ Hid (x = l / 2 ^ k)) (fun _ i => p - (intOf i).toNat)
 case atStart => exact ⟨0,Nat.zero_le _,rfl,l,hl,rfl,by show _ = _; simp⟩
 case round =>
  obtain ⟨k,hk,rfl,x,hx,rfl,HU⟩ := hrel
  by_cases hlt : k < p
  ·have HN : Hid (x / 2 = l / 2 ^ (k + 1)) := by
    show _ = _; rw [HU.out,Nat.pow_succ,Nat.div_div_eq_div_mul]
   go_wp2
   go_round
   case rel => exact ⟨k + 1,by omega,by go_num,x / 2,by omega,rfl,HN⟩
   case measure => simp [intOf]; omega
  ·obtain rfl : k = p := by omega
   have HX : Hid (((x : Int) % 2 == 1) = l.testBit k) := by
    show _ = _; rw [← HB.out,HU.out]; rfl
   go_wp2
   go_ret
   exact ⟨by rw [← HX.out]; rfl,rfl⟩
def goV : Option Int → Value
 | some q => .tuple #[.int .i64 q,.bool true]
 | none => .tuple #[.int .i64 0,.bool false]
theorem q3A {N : List Gd} {x k : Nat} {r : Int} (h : 0 ≤ r) (hl : (N.length : Int) ≤ r) : goG N x k r = none := by
 have h0 : ¬ r < 0 := by omega
 cases k with
 | zero => simp [goG,h0]
 | succ k =>
  have : N[r.toNat]? = none := List.getElem?_eq_none (by omega)
  simp [goG,h0,this]
theorem q1x {N : List Gd} {x : Nat} {r : Int} (h : 0 ≤ r) : goG N x 0 r = none := by
 have h0 : ¬ r < 0 := by omega
 simp [goG,h0]
theorem q3z {N : List Gd} {x k i : Nat} (h : ¬ (0 ≤ (N.getD i (0,0,0)).1 ∧ (N.getD i (0,0,0)).1 ≤ 7)) : goG N x k (i : Int) = none := by
 cases k with
 | zero => exact q1x (by omega)
 | succ k =>
  have h0 : ¬ (i : Int) < 0 := by omega
  rcases e : N[i]? with _ | ⟨P,lo,hi⟩
  ·simp [goG,h0,e]
  ·simp only [List.getD_eq_getElem?_getD,e,Option.getD_some] at h
   simp only [goG,h0,if_false,Int.toNat_natCast,e,if_neg h]
theorem q2W {N : List Gd} {x k i : Nat} {P lo hi : Int} (hl : i < N.length) (e : N.getD i (0,0,0) = (P,lo,hi)) (h0 : 0 ≤ P) (h7 : P ≤ 7) : goG N x (k + 1) (i : Int) = goG N x k (if x.testBit P.toNat then hi else lo) := by
 refine q2V (P := P) (lo := lo) (hi := hi) ?_ h0 h7
 rw [← e]
 simp [List.getD_eq_getElem?_getD,List.getElem?_eq_getElem hl]
theorem q3m (a : Option Addr) (len cap : Nat) (N : List Gd) (r : Int) (x : Nat) (w : World) (hN : NdSl w a len cap N) (hr : I64 r) (hx : x < 256) :
  Calls Try.prog 68 #[.slice a len cap,.int .i64 r,.int .u8 (x : Int)] w fun e w' => e = .returned (goV (goG N x 8 r)) ∧ w' = w := by
 have hb0 := hN.bd
 have hb1 := hN.hcap
 unfold maxLen at hb0
 have HL : Hid (N.length = len) := hN.hlen
 obtain ⟨G,eG⟩ : ∃ G,G = goG N x 8 r := ⟨_,rfl⟩
 rw [← eG]
 have HG : Hid (goG N x 8 r = G) := eG.symm
 clear eG
 go_enter Try.func68,Try.ntmps68
 go_wp2
 go_loopw [1,8] (fun v i wr => ∃ (k : Nat) (z : Int),wr = w ∧ k ≤ 8 ∧ i = .int .i64 k ∧ v = .int .i64 z ∧ I64 z ∧ Hid (goG N x (8 - k) z = G)) (fun _ i _ => 9 - (intOf i).toNat)
 case atStart => exact ⟨0,r,rfl,by omega,rfl,rfl,hr,HG⟩
 case round =>
  obtain ⟨k,z,rfl,hk,rfl,rfl,hz,HU⟩ := hrel
  have hz0 := hz.1
  have hz1 := hz.2
  by_cases hneg : z < 0
  ·have HX : Hid (G = some (-1 - z)) := by show _ = _; rw [← HU.out,q2b hneg]
   go_wp2
   go_ret2
   exact ⟨by rw [HX.out]; rfl,rfl⟩
  ·by_cases hge : (len : Int) ≤ z
   ·have HX : Hid (G = none) := by show _ = _; rw [← HU.out,q3A (by omega) (by rw [HL.out]; exact hge)]
    go_wp2
    go_ret2
    exact ⟨by rw [HX.out]; rfl,rfl⟩
   ·obtain ⟨i,rfl⟩ : ∃ i : Nat,z = (i : Int) := ⟨z.toNat,by omega⟩
    have hil : i < len := by omega
    obtain ⟨g,o,s,hix,c0,c1,c2,_,_,hok⟩ := hN.at Try.underlying24 qc i hil
    have hidx := fun w' => hix len w' hil
    have HB : Hid (∀ j : Nat,¬ (0 ≤ (N.getD i (0,0,0)).1 ∧ (N.getD i (0,0,0)).1 ≤ 7) → goG N x j (i : Int) = none) := fun j h => q3z h
    have HS : Hid (∀ (j : Nat) (P lo hi : Int),N.getD i (0,0,0) = (P,lo,hi) → 0 ≤ P → P ≤ 7 → goG N x (j + 1) (i : Int) = goG N x j (if x.testBit P.toNat then hi else lo)) := fun j P lo hi e h0 h7 => q2W (by rw [HL.out]; exact hil) e h0 h7
    clear hix
    generalize N.getD i (0,0,0) = nd at *
    obtain ⟨P,lo,hi⟩ := nd
    dsimp only at c0 c1 c2
    by_cases hP : 0 ≤ P ∧ P ≤ 7
    ·obtain ⟨p,rfl⟩ : ∃ p : Nat,P = (p : Int) := ⟨P.toNat,by omega⟩
     have hp7 : p ≤ 7 := by omega
     by_cases hk8 : k = 8
     ·subst hk8
      have HX : Hid (G = none) := by show _ = _; rw [← HU.out]; exact q1x (by omega)
      go_wp2
      go_ret2
      exact ⟨by rw [HX.out]; rfl,rfl⟩
     ·have HX : Hid (goG N x (8 - (k + 1)) (if x.testBit p then hi else lo) = G) := by
       show _ = _
       have := HS.out (8 - (k + 1)) p lo hi rfl (by omega) (by omega)
       rw [show 8 - (k + 1) + 1 = 8 - k by omega,HU.out] at this
       exact this.symm
      have hlo : I64 lo := hok.2.1
      have hhi : I64 hi := hok.2.2
      have jb := fun w => q2M x p w hx (by omega)
      generalize x.testBit p = b at *
      have d1 : decide (len ≤ i) = false := by simpa using hil
      have d2 : decide ((p : Int) < 0) = false := by simp
      have d3 : decide (7 < (p : Int)) = false := by simp; omega
      have d4 : ((k : Int) == 8) = false := by simp; omega
      clear HB HS HU hok hP hz hz0 hz1 hge hneg
      cases b with
      | true =>
       have HY : Hid (goG N x (8 - (k + 1)) hi = G) := HX.out
       clear HX
       go_wp2_with (go_at_call 70; refine (jb _).mono ?_; rintro e w' ⟨rfl,hw1⟩; obtain rfl := hw1.symm)
       go_roundw
       case rel => exact ⟨k + 1,hi,trivial,by omega,by go_num,rfl,hhi,HY⟩
       case measure => simp [intOf]; omega
      | false =>
       have HY : Hid (goG N x (8 - (k + 1)) lo = G) := HX.out
       clear HX
       go_wp2_with (go_at_call 70; refine (jb _).mono ?_; rintro e w' ⟨rfl,hw1⟩; obtain rfl := hw1.symm)
       go_roundw
       case rel => exact ⟨k + 1,lo,trivial,by omega,by go_num,rfl,hlo,HY⟩
       case measure => simp [intOf]; omega
    ·have HX : Hid (G = none) := by show _ = _; rw [← HU.out,HB.out _ hP]
     by_cases hP0 : P < 0
     ·clear HB HS HU hok hP hz hz0 hz1 c1 c2 hge hneg
      go_wp2
      go_ret2
      exact ⟨by rw [HX.out]; rfl,rfl⟩
     ·have hP7 : 7 < P := by omega
      clear HB HS HU hok hP hz hz0 hz1 c1 c2 hge hneg
      go_wp2
      go_ret2
      exact ⟨by rw [HX.out]; rfl,rfl⟩
abbrev ZSl (w : World) (a : Option Addr) (len cap : Nat) (l : List Int) : Prop := IntSl Try.prog 23 .i64 w a len cap l
structure Zc where
 a : Option Addr
 len : Nat
 cap : Nat
 zs : List Int
structure ZzSl (w : World) (a : Option Addr) (len cap : Nat) (rs : List Zc) : Prop where
 hlen : rs.length = len
 hcap : len ≤ cap
 bd : cap ≤ maxLen
 nn : a = none → cap = 0
 c : ∀ x,a = some x → ∀ k (h : k < rs.length),w.cell? (x.add k) = some (.slice rs[k].a rs[k].len rs[k].cap)
 t : ∀ r ∈ rs,ZSl w r.a r.len r.cap r.zs ∧ ∀ z ∈ r.zs,I64 z
theorem q14 : (Try.prog.info? 23).map (·.size) = some 1 := by kernel_rfl
theorem ZzSl.at {w : World} {a : Option Addr} {len cap : Nat} {rs : List Zc} (h : ZzSl w a len cap rs) (k : Nat) (hk : k < len) :
  ∃ g o s,∃ r : Zc,rs[k]? = some r ∧ (∀ w',(Instr.indexAt 43 (.slice a len cap) (.int .i64 (k : Int))).run Try.prog w' = .ok (.pointer (some ⟨g,o,s⟩)) w') ∧ w.cell? ⟨g,o,s⟩ = some (.slice r.a r.len r.cap) ∧ ZSl w r.a r.len r.cap r.zs ∧ ∀ z ∈ r.zs,I64 z := by
 have hkl : k < rs.length := by rw [h.hlen]; exact hk
 cases a with
 | none => have := h.nn rfl; have := h.hcap; omega
 | some x =>
  have e0 := h.c x rfl k hkl
  have ht := h.t _ (List.getElem_mem hkl)
  have hi := fun w' => qd (P := Try.prog) (T := 43) Try.underlying43 q14 (a := some x) (cap := cap) (n := len) (fun e => by cases e) k w' hk
  simp only [adOf] at hi
  generalize x.add k = y at *
  obtain ⟨g,o,s⟩ := y
  exact ⟨g,o,s,rs[k],List.getElem?_eq_getElem hkl,hi,e0,ht.1,ht.2⟩
def fitB (m : Nat) (N : List Gd) (a : Nat) (p r : Int) : Bool := if r < 0 then decide (-(m : Int) ≤ r) else decide (r < (a : Int)) && decide (p < (N.getD r.toNat (0,0,0)).1)
theorem qs {m : Nat} {N : List Gd} {a : Nat} {p r : Int} (ha : a ≤ N.length) : fitB m N a p r = true ↔ FitG m N a p r := by
 unfold fitB FitG
 by_cases h : r < 0
 ·simp only [h,if_true,decide_eq_true_eq,true_and]
  constructor
  ·exact fun h1 => .inl h1
  ·rintro (h1 | ⟨i,e,_⟩)
   ·exact h1
   ·omega
 ·simp only [h,if_false,Bool.and_eq_true,decide_eq_true_eq,false_and,false_or]
  constructor
  ·rintro ⟨h1,h2⟩
   have hl : r.toNat < N.length := by omega
   refine ⟨r.toNat,by omega,by omega,N[r.toNat],List.getElem?_eq_getElem hl,?_⟩
   simpa [List.getD_eq_getElem?_getD,List.getElem?_eq_getElem hl] using h2
  ·rintro ⟨i,rfl,h1,nd,h2,h3⟩
   refine ⟨by omega,?_⟩
   simpa [List.getD_eq_getElem?_getD,h2] using h3
structure AuB (w : World) (g : Nat) (p : Int) (aA : Option Addr) (nA cA : Nat) (aG : Option Addr) (nG cG : Nat) (aN : Option Addr) (nN cN : Nat) : Prop where
 c0 : w.cell? ⟨g,0,none⟩ = some (.int .i64 p)
 c1 : w.cell? ⟨g,1,none⟩ = some (.slice aA nA cA)
 c2 : w.cell? ⟨g,2,none⟩ = some (.slice aG nG cG)
 c3 : w.cell? ⟨g,3,none⟩ = some (.slice aN nN cN)
theorem AuB.up {w w' : World} {g : Nat} {p : Int} {aA : Option Addr} {nA cA : Nat} {aG : Option Addr} {nG cG : Nat} {aN : Option Addr} {nN cN : Nat} (h : AuB w g p aA nA cA aG nG cG aN nN cN) (hb : Below w.heap.size w w') : AuB w' g p aA nA cA aG nG cG aN nN cN := ⟨q9 h.c0 hb,q9 h.c1 hb,q9 h.c2 hb,q9 h.c3 hb⟩
theorem qa (w : World) (p : Int) (aA : Option Addr) (nA cA : Nat) (aG : Option Addr) (nG cG : Nat) (aN : Option Addr) (nN cN : Nat) : AuB (w.alloc (.cells #[.int .i64 p,.slice aA nA cA,.slice aG nG cG,.slice aN nN cN] 26 (0,0))) w.heap.size p aA nA cA aG nG cG aN nN cN := by
 have h := (MapKept.heap_alloc w (.cells #[.int .i64 p,.slice aA nA cA,.slice aG nG cG,.slice aN nN cN] 26 (0,0))).1
 exact ⟨q6 h 0,q6 h 1,q6 h 2,q6 h 3⟩
theorem q27 (p0 : Int) (aA : Option Addr) (nA cA : Nat) (aG : Option Addr) (nG cG : Nat) (aN : Option Addr) (nN cN : Nat) (N : List Gd) (r : Int) (a : Nat) (p : Int) (w : World) (hN : NdSl w aN nN cN N) (ha : a ≤ nN) (hA : nA ≤ 1000000) :
  Calls Try.prog 55 #[.agg #[.int .i64 p0,.slice aA nA cA,.slice aG nG cG,.slice aN nN cN],.int .i64 r,.int .i64 (a : Int),.int .i64 p] w fun e w' => e = .returned (.bool (fitB nA N a p r)) ∧ Below w.heap.size w w' := by
 have HB0 : Hid _ := q7 w (.cells #[.int .i64 p0,.slice aA nA cA,.slice aG nG cG,.slice aN nN cN] 26 (0,0))
 obtain ⟨c0,c1,c2,c3⟩ := qa w p0 aA nA cA aG nG cG aN nN cN
 by_cases hr : r < 0
 ·have HX : Hid (fitB nA N a p r = decide (-(nA : Int) ≤ r)) := by show _ = _; simp [fitB,hr]
  generalize fitB nA N a p r = b at *
  go_enter Try.func55,Try.ntmps55
  go_wp2
  go_ret
  exact ⟨by rw [HX.out]; rfl,HB0.out⟩
 ·obtain ⟨i,rfl⟩ : ∃ i : Nat,r = (i : Int) := ⟨r.toNat,by omega⟩
  by_cases hi : i < a
  ·have hil : i < nN := by omega
   obtain ⟨g,o,s,hix,d0,_,_,_,_,_⟩ := (hN.up HB0.out).at Try.underlying24 qc i hil
   have hidx := fun w' => hix nN w' hil
   have HX : Hid (fitB nA N a p (i : Int) = decide (p < (N.getD i (0,0,0)).1)) := by
    have hc : (i : Int) < (a : Int) := by omega
    show _ = _; unfold fitB; rw [if_neg hr,Int.toNat_natCast,decide_eq_true hc,Bool.true_and]
   clear hix hN
   generalize (N.getD i (0,0,0)).1 = P at *
   generalize fitB nA N a p (i : Int) = b at *
   clear hr
   go_enter Try.func55,Try.ntmps55
   go_wp2
   go_ret
   exact ⟨by rw [HX.out]; rfl,HB0.out⟩
  ·have HX : Hid (fitB nA N a p (i : Int) = false) := by
    have hc : ¬ (i : Int) < (a : Int) := by omega
    show _ = _; unfold fitB; rw [if_neg hr,decide_eq_false hc,Bool.false_and]
   clear hN
   generalize fitB nA N a p (i : Int) = b at *
   clear hr
   go_enter Try.func55,Try.ntmps55
   go_wp2
   go_ret
   exact ⟨by rw [HX.out]; rfl,HB0.out⟩
structure BoSl (w : World) (a : Option Addr) (len cap : Nat) (bs : List Bool) : Prop where
 hlen : bs.length = len
 hcap : len ≤ cap
 bd : cap ≤ maxLen
 nn : a = none → cap = 0
 c : ∀ x,a = some x → ∀ k (h : k < bs.length),w.cell? (x.add k) = some (.bool bs[k])
theorem BoSl.some_of {w : World} {a : Option Addr} {len cap : Nat} {bs : List Bool} (h : BoSl w a len cap bs) (hl : 0 < len) : ∃ x,a = some x := by
 cases a with
 | none => have := h.nn rfl; have := h.hcap; omega
 | some x => exact ⟨x,rfl⟩
theorem BoSl.up {w w' : World} {a : Option Addr} {len cap : Nat} {bs : List Bool} (h : BoSl w a len cap bs) (hb : Below w.heap.size w w') : BoSl w' a len cap bs :=
 ⟨h.hlen,h.hcap,h.bd,h.nn,fun x hx k hk => q9 (h.c x hx k hk) hb⟩
theorem BoSl.nil {w : World} : BoSl w none 0 0 [] := ⟨rfl,Nat.le_refl _,Nat.zero_le _,fun _ => rfl,fun x hx => (by cases hx)⟩
theorem qg : (Try.prog.info? 4).map (·.size) = some 1 := by kernel_rfl
theorem BoSl.at {w : World} {a : Option Addr} {len cap : Nat} {bs : List Bool} (h : BoSl w a len cap bs) (k : Nat) (hk : k < len) :
  (∀ (n : Nat) (w' : World),k < n → (Instr.indexAt 22 (.slice a n cap) (.int .i64 k)).run Try.prog w' = .ok (.pointer (some (adOf a k))) w') ∧ w.cell? (adOf a k) = some (.bool (bs[k]'(by rw [h.hlen]; exact hk))) := by
 obtain ⟨x,rfl⟩ := h.some_of (by omega)
 refine ⟨fun n w' hn => qd Try.underlying22 qg (by simp) k w' hn,h.c x rfl k (by rw [h.hlen]; exact hk)⟩
theorem qA (a : Option Addr) (len cap : Nat) (xs : List Bool) (a' : Option Addr) (len' cap' : Nat) (ys : List Bool) (w : World) (hS : BoSl w a len cap xs) (hO : BoSl w a' len' cap' ys) :
  Calls Try.prog 16 #[.slice a len cap,.slice a' len' cap'] w fun e w' => e = .returned (.bool (decide (xs = ys))) ∧ Below w.heap.size w w' := by
 have hb0 := hS.bd
 have hb2 := hO.bd
 have hb3 := hO.hcap
 unfold maxLen at hb0 hb2
 by_cases hll : len = len'
 ·subst hll
  go_enter Try.func16,Try.ntmps16
  go_wp2
  go_loopw [5] (fun i wr => ∃ k : Nat,k ≤ len ∧ i = .int .i64 k ∧ Hid (xs.take k = ys.take k) ∧ Hid (Below w.heap.size w wr)) (fun i _ => len - (intOf i).toNat)
  case atStart => exact ⟨0,Nat.zero_le _,rfl,by show _ = _; simp,Below.refl _ _⟩
  case round =>
   obtain ⟨k,hk,rfl,HU,hwr⟩ := hrel
   by_cases hlt : k < len
   ·obtain ⟨hi1,hx0⟩ := (hS.up hwr.out).at k hlt
    obtain ⟨hi2,hy0⟩ := (hO.up hwr.out).at k hlt
    have hxl : k < xs.length := by rw [hS.hlen]; exact hlt
    have hyl : k < ys.length := by rw [hO.hlen]; exact hlt
    have HN : Hid (xs[k] = ys[k] → xs.take (k + 1) = ys.take (k + 1)) := fun h => by
     rw [List.take_add_one,List.take_add_one,List.getElem?_eq_getElem hxl,List.getElem?_eq_getElem hyl,HU.out,h]
    have HM : Hid (xs[k] ≠ ys[k] → decide (xs = ys) = false) := fun h => decide_eq_false (fun e => h (by subst e; rfl))
    generalize xs[k] = x at *
    generalize ys[k] = y at *
    cases x <;> cases y
    all_goals
     go_wp2_with fail
     go_quiet (fail)
    ·have HN2 : Hid _ := HN.out (by simp)
     go_wp2
     go_roundw
     case rel => exact ⟨k + 1,by omega,by go_num,HN2,below_drewN hwr.out nq⟩
     case measure => simp [intOf]; omega
    ·have HM2 : Hid _ := HM.out (by decide)
     go_wp2
     go_ret
     exact ⟨by rw [HM2.out]; rfl,below_drewN hwr.out nq⟩
    ·have HM2 : Hid _ := HM.out (by decide)
     go_wp2
     go_ret
     exact ⟨by rw [HM2.out]; rfl,below_drewN hwr.out nq⟩
    ·have HN2 : Hid _ := HN.out (by simp)
     go_wp2
     go_roundw
     case rel => exact ⟨k + 1,by omega,by go_num,HN2,below_drewN hwr.out nq⟩
     case measure => simp [intOf]; omega
   ·have hx : Hid (decide (xs = ys) = true) := by
     have := HU.out
     rw [List.take_of_length_le (by rw [hS.hlen]; omega),List.take_of_length_le (by rw [hO.hlen]; omega)] at this
     exact decide_eq_true this
    go_wp2
    go_ret
    exact ⟨by rw [hx.out]; rfl,hwr.out⟩
 ·have hx : Hid (decide (xs = ys) = false) := decide_eq_false (fun e => hll (by rw [← hS.hlen,← hO.hlen,e]))
  go_enter Try.func16,Try.ntmps16
  go_wp2
  go_ret
  exact ⟨by rw [hx.out]; rfl,Below.refl _ _⟩
def ndV (x : Gd) : Value := .agg #[.int .i64 x.1,.int .i64 x.2.1,.int .i64 x.2.2]
def klG (x : Gd) : Lit := .string (keyBytes [.int .i64 x.1,.int .i64 x.2.1,.int .i64 x.2.2])
theorem q2R : laidOutB Try.prog = true := by kernel_rfl
theorem q1E : Try.prog.keyType 63 = true := by kernel_rfl
theorem q1s : Keyed Try.prog 63 := Keyed.of_law (deep_law_laid q2R (m := 3) (by omega) (of_decide_eq_true (by kernel_rfl)) (by kernel_rfl) (by kernel_rfl))
theorem q2a : ∃ n,Try.prog.types.size + 1 = n + 2 := ⟨Try.prog.types.size - 1,by have : 0 < Try.prog.types.size := of_decide_eq_true (by kernel_rfl); omega⟩
theorem q2v : Try.prog.cellsOf 63 = 3 := by kernel_rfl
theorem q2u : Try.prog.cellsOf 3 = 1 := by kernel_rfl
theorem qI (x : Gd) (h : GdOk x) : keyOf Try.prog 63 (ndV x) = some (klG x) := by
 obtain ⟨⟨h1,h2⟩,⟨h3,h4⟩,⟨h5,h6⟩⟩ := h
 obtain ⟨n,hn⟩ := q2a
 have w1 : (Lit.int .i64 x.1).wf = true := WalkArith.wf_i64 (by omega)
 have w2 : (Lit.int .i64 x.2.1).wf = true := WalkArith.wf_i64 (by omega)
 have w3 : (Lit.int .i64 x.2.2).wf = true := WalkArith.wf_i64 (by omega)
 unfold keyOf ndV klG
 rw [Try.underlying63,hn]
 simp [q1E,Value.formed,Try.underlying63,q2v,Value.cells,Program.keyLits,q2u,Try.underlying3,w1,w2,w3]
theorem q50 {x y : Gd} (h : ndV x = ndV y) : x = y := by
 unfold ndV at h
 obtain ⟨a,b,c⟩ := x
 obtain ⟨a',b',c'⟩ := y
 simp at h
 obtain ⟨h1,h2,h3⟩ := h
 rw [h1,h2,h3]
theorem q3i {x y : Gd} (hx : GdOk x) (hy : GdOk y) (h : klG x = klG y) : x = y :=
 q50 (q1s.inj (qI x hx) (by rw [h]; exact qI y hy))
theorem q2e (x : Gd) : WideAt.IsKeyLit (klG x) := trivial
def NumG (w : World) (b n : Nat) (f : Gd → Option Nat) : Prop :=
 ∃ D : DataW Unit,w.ownsMap Try.prog 63 (plainElem Try.prog 3) b n D ∧ Tidy D ∧ Maps.size D = n ∧ ∀ x,GdOk x → has D (klG x) = (f x).isSome ∧ ∀ j,f x = some j → D.atKey (klG x) (.lit (.int .i64 0)) = .lit (.int .i64 (j : Int))
theorem NumG.lt {w : World} {b n : Nat} {f : Gd → Option Nat} (h : NumG w b n f) : b < w.heap.size := by
 obtain ⟨D,h,_⟩ := h; exact h.lt
theorem NumG.far {w w' : World} {b n : Nat} {f : Gd → Option Nat} (h : NumG w b n f) (hb : w'.heap[b]? = w.heap[b]?) : NumG w' b n f := by
 obtain ⟨D,⟨es,clock,h1,h2⟩,r⟩ := h
 exact ⟨D,⟨es,clock,hb.trans h1,h2⟩,r⟩
theorem NumG.isMap {w : World} {b n : Nat} {f : Gd → Option Nat} (h : NumG w b n f) : ∃ es c,w.heap[b]? = some (.map es c) := by
 obtain ⟨D,⟨es,clock,h1,h2⟩,r⟩ := h
 exact ⟨es,clock,h1⟩
theorem NumG.alike {w : World} {b n : Nat} {f g : Gd → Option Nat} (h : NumG w b n f) (hg : ∀ x,GdOk x → f x = g x) : NumG w b n g := by
 obtain ⟨D,h1,h2,h3,h4⟩ := h
 exact ⟨D,h1,h2,h3,fun x hx => by rw [← hg x hx]; exact h4 x hx⟩
theorem q4f (w : World) : NumG (w.alloc (.map #[] 0)) w.heap.size 0 (fun _ => none) :=
 ⟨.map [],World.ownsMap_made _ _ _ _,tidy_empty,rfl,fun x _ => ⟨rfl,fun j hj => by cases hj⟩⟩
theorem q2T (w : World) : (zeroValue 3).run Try.prog w = .ok (.int .i64 0) w := by kernel_rfl
theorem NumG.look {w : World} {b n : Nat} {f : Gd → Option Nat} (h : NumG w b n f) {x : Gd} (hx : GdOk x) :
  (Instr.lookup 87 (.map (some b)) (ndV x) true).run Try.prog w = .ok (.tuple #[.int .i64 (((f x).getD 0 : Nat) : Int),.bool (f x).isSome]) w := by
 obtain ⟨D,h1,h2,h3,h4⟩ := h
 obtain ⟨hh,ha⟩ := h4 x hx
 obtain ⟨v,ps,hrun,hv⟩ := h1.look_ok q1s Try.underlying87 (q2T w) (plainElem_int Try.underlying3 (by decide)) (qI x hx)
 obtain ⟨c,rfl,hc,hwc⟩ := plainElem_int_inv Try.underlying3 hv
 have hc' := congrArg Prod.fst hc
 rw [hrun,hh]
 cases hf : f x with
 | none =>
  rw [hf] at hh
  rw [atKey_of_not_has hh] at hc'
  injection hc' with hc'
  injection hc' with _ hc'
  subst hc'
  rfl
 | some j =>
  rw [ha j hf] at hc'
  injection hc' with hc'
  injection hc' with _ hc'
  subst hc'
  rfl
theorem NumG.put {w : World} {b n : Nat} {f : Gd → Option Nat} (h : NumG w b n f) (hn : n ≤ 100000000) {x : Gd} (hx : GdOk x) (hf : f x = none) (j : Nat) (hj : j ≤ 100000000) :
  ∃ w',(Instr.mapUpdate 87 (.map (some b)) (ndV x) (.int .i64 (j : Int))).run Try.prog w = .ok () w' ∧ NumG w' b (n + 1) (fun y => if y = x then some j else f y) ∧ w.grownBy w' (some b) := by
 obtain ⟨D,h1,h2,h3,h4⟩ := h
 obtain ⟨hh,_⟩ := h4 x hx
 rw [hf] at hh
 obtain ⟨w',hrun,hown,hg⟩ := h1.update q1s Try.underlying87 (by unfold maxLen; omega) (qI x hx) (plainElem_int (a := (j : Int)) Try.underlying3 (WalkArith.wf_i64 (by omega)))
 refine ⟨w',hrun,⟨_,hown,h2.put (q2e x) _,?_,fun y hy => ?_⟩,hg⟩
 ·rw [size_put h2,hh,h3]; rfl
 ·dsimp only
  by_cases e : y = x
  ·subst e
   rw [if_pos rfl]
   refine ⟨has_put_same h2.isMap (q2e y) _,fun i hi => ?_⟩
   injection hi with hi
   subst hi
   exact atKey_put_same h2.isMap (q2e y) _ _
  ·have ne : klG y ≠ klG x := fun he => e (q3i hy hx he)
   rw [if_neg e,has_put_other ne]
   refine ⟨(h4 y hy).1,fun i hi => ?_⟩
   rw [atKey_put_other ne]
   exact (h4 y hy).2 i hi
def posG (N : List Gd) (x : Gd) : Option Nat := if x ∈ N then some (N.idxOf x) else none
theorem q1j {N : List Gd} {x : Gd} (h : x ∈ N) : posG N x = some (N.idxOf x) := if_pos h
theorem q11 {N : List Gd} {x : Gd} (h : x ∉ N) : posG N x = none := if_neg h
theorem q4i {N : List Gd} {x : Gd} (hx : x ∉ N) (y : Gd) : (if y = x then some N.length else posG N y) = posG (N ++ [x]) y := by
 by_cases e : y = x
 ·subst e
  rw [if_pos rfl,q1j (by simp),q4R hx]
 ·rw [if_neg e]
  by_cases hm : y ∈ N
  ·rw [q1j hm,q1j (by simp [hm]),q4S (List.prefix_append _ _) hm]
  ·rw [q11 hm,q11 (by simp [hm,e])]
end Go.Proofs.Ytbgogbafkoekjaa
