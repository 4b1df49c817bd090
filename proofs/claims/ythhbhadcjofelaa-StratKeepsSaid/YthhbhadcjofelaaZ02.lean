/- Texts of the proof, put together: what it uses. -/
import Derived.Laws.OwnMore
import Derived.Laws.BitsAllLaws
import Derived.Deep.RegionHeld3
import Derived.Deep.RegionWith
import Derived.Deep.AppendLies
import Derived.BigQuiet
import Derived.KernelRfl
import Derived.Maps.OwnSet
import Derived.DeepKeys4
import Derived.Laws.CopyRow
import Derived.Test.YthhbhadcjofelaaZ00
import Derived.Test.YthhbhadcjofelaaZ01
set_option maxRecDepth 100000
set_option maxHeartbeats 16000000
namespace Go.Proofs.Ythhbhadcjofelaa
open Go.RowKit Go.Maps
def adOf (a : Option Addr) (i : Nat) : Addr := match a with
 | some x => x.add i
 | none => ⟨0,0,none⟩
theorem qf (g o i : Nat) : (⟨g,o,none⟩ : Addr).add i = ⟨g,o + i,none⟩ := by unfold Addr.add; split <;> simp_all
theorem q1c {P : Program} {e : TypeId} (h : (P.info? e).map (·.size) = some 1) (w : World) : (sizeOf e).run P w = .ok 1 w := by
 cases hq : P.info? e with
 | none => simp [hq] at h
 | some i => simp [hq] at h; simp [sizeOf,typeInfo,hq,h]
theorem qk {P : Program} {T e : TypeId} (hu : P.underlying T = some (.slice e)) (hs : (P.info? e).map (·.size) = some 1) {a : Option Addr} {cap n : Nat} (hn : a = none → n = 0) (k : Nat) (w : World) (hk : k < n) :
  (Instr.indexAt T (.slice a n cap) (.int .i64 k)).run P w = .ok (.pointer (some (adOf a k))) w := by
 cases a with
 | none => have := hn rfl; omega
 | some x => simp [Instr.indexAt,run_underlying hu,asIntOf,q1c hs,hk,adOf,Result.andThen,go_sem]
structure IntSl (P : Program) (T : TypeId) (q : IntKind) (w : World) (a : Option Addr) (len cap : Nat) (zs : List Int) : Prop where
 hlen : zs.length = len
 hcap : len ≤ cap
 bd : cap ≤ maxLen
 idx : ∀ (n k : Nat) (w : World),k < n → n ≤ len → (Instr.indexAt T (.slice a n cap) (.int .i64 k)).run P w = .ok (.pointer (some (adOf a k))) w
 cell : ∀ k,k < len → w.cell? (adOf a k) = some (.int q (zs.getD k 0))
 blk : ∀ k,k < len → (adOf a k).block < w.heap.size
 nn : a = none → cap = 0
theorem IntSl.later {P : Program} {T : TypeId} {q : IntKind} {w w' : World} {a : Option Addr} {len cap : Nat} {zs : List Int} (h : IntSl P T q w a len cap zs) {B : Nat} (hb : Below B w w') (hB : ∀ k,k < len → (adOf a k).block < B) : IntSl P T q w' a len cap zs :=
 ⟨h.hlen,h.hcap,h.bd,h.idx,fun k hk => (hb.cell (hB k hk)).trans (h.cell k hk),fun k hk => Nat.lt_of_lt_of_le (h.blk k hk) hb.size,h.nn⟩
theorem IntSl.up {P : Program} {T : TypeId} {q : IntKind} {w w' : World} {a : Option Addr} {len cap : Nat} {zs : List Int} (h : IntSl P T q w a len cap zs) (hb : Below w.heap.size w w') : IntSl P T q w' a len cap zs := h.later hb h.blk
theorem IntSl.drewN {P : Program} {T : TypeId} {q : IntKind} {w : World} {a : Option Addr} {len cap : Nat} {zs : List Int} (h : IntSl P T q w a len cap zs) (n : Nat) : IntSl P T q (w.drewN n) a len cap zs := h.up (below_drewN (Below.refl _ _) n)
theorem q1k {zs : List Int} {k : Nat} (h : k < zs.length) : zs.take (k + 1) = zs.take k ++ [zs.getD k 0] := by
 rw [List.take_add_one,List.getElem?_eq_getElem h]; simp [List.getD_eq_getElem?_getD,List.getElem?_eq_getElem h]
theorem q1t {xs ys : List Int} {k : Nat} (hx : k < xs.length) (hy : k < ys.length) (h : xs.take k = ys.take k) (he : xs.getD k 0 = ys.getD k 0) : xs.take (k + 1) = ys.take (k + 1) := by
 rw [q1k hx,q1k hy,h,he]
def enc8 (cur : List Int) : Array Value := (cur.map (Value.int .u8)).toArray
theorem q4m (cur : List Int) (i : Nat) (h : i < cur.length) : (enc8 cur)[i]? = some (.int .u8 (cur.getD i 0)) := by
 simp [enc8,List.getD_eq_getElem?_getD,List.getElem?_eq_getElem h]
theorem made8 (n : Nat) : madeCells #[.int .u8 0] n = enc8 (List.replicate n 0) := by
 apply Array.ext_getElem?
 intro i
 by_cases h : i < n
 ·rw [q4m _ _ (by simpa using h)]; simp [madeCells,h,Nat.mod_one]
 ·simp [madeCells,enc8,h]
theorem qK {P : Program} {T : TypeId} {w : World} : IntSl P T .u8 w none 0 0 [] :=
 ⟨rfl,Nat.le_refl _,Nat.zero_le _,fun m k w hk hm => absurd hk (by omega),fun k hk => absurd hk (by omega),fun k hk => absurd hk (by omega),fun _ => rfl⟩
theorem q2S {P : Program} {T e : TypeId} {w : World} {base n : Nat} {v : Value} {zs : List Int} (h : w.ownsRow base e 1 v n (zs.map (Value.int .u8))) (hu : P.underlying T = some (.slice e)) (hs : (P.info? e).map (·.size) = some 1) :
  ∃ a cap,v = .slice a n cap ∧ IntSl P T .u8 w a n cap zs ∧ ∀ k,k < n → base ≤ (adOf a k).block := by
 obtain ⟨hl,h⟩ := h
 simp at hl
 rcases h with ⟨rfl,rfl⟩ | ⟨g,cap,cur,rfl,hg,hcell,hnc,hcm,hsz,htk⟩
 ·have : zs = [] := List.eq_nil_of_length_eq_zero hl
  subst this
  exact ⟨none,0,rfl,qK,fun k hk => absurd hk (by omega)⟩
 ·have had : ∀ k,adOf (some ⟨g,0,none⟩) k = ⟨g,k,none⟩ := fun k => by simp [adOf,qf]
  have hlt := (Array.getElem?_eq_some_iff.1 hcell).1
  refine ⟨some ⟨g,0,none⟩,cap,rfl,⟨hl,hnc,hcm,fun m k w hk hm => qk hu hs (by simp) k w hk,fun k hk => ?_,fun k hk => by rw [had]; exact hlt,by simp⟩,fun k hk => by rw [had]; exact hg⟩
  rw [had]
  have hk2 : (cur.toList.take (n * 1))[k]? = some (.int .u8 (zs.getD k 0)) := by
   rw [htk]; simp [List.getD_eq_getElem?_getD,List.getElem?_eq_getElem (show k < zs.length by omega)]
  rw [List.getElem?_take,if_pos (by omega)] at hk2
  simp [World.cell?,hcell]
  simpa using hk2
theorem q4h {w : World} {base e size n : Nat} {v : Value} {xs : List Value} (h : w.ownsRow base e size v n xs) : ∀ k,v.ownBlock = some k → base ≤ k := by
 obtain ⟨_,h⟩ := h
 rcases h with ⟨rfl,_⟩ | ⟨g,cap,cur,rfl,hg,_⟩
 ·intro k hk; simp [Value.ownBlock] at hk
 ·intro k hk; simp [Value.ownBlock] at hk; omega
theorem qb (w : World) (o : Obj) : Below w.heap.size w (w.alloc o) := (Below.refl _ _).alloc (Nat.le_refl _) _
theorem q9 {w w1 w2 : World} (h : Below w.heap.size w w1) (k : Below w1.heap.size w1 w2) : Below w.heap.size w w2 := h.trans (k.mono h.size)
theorem q5b {w w' : World} {base e size n : Nat} {v : Value} {xs : List Value} (h : w.ownsRow base e size v n xs) (hb : Below w.heap.size w w') : w'.ownsRow base e size v n xs := by
 refine ⟨h.1,?_⟩
 rcases h.2 with hn | ⟨g,cap,cur,h1,h2,h3,h4⟩
 ·exact Or.inl hn
 ·exact Or.inr ⟨g,cap,cur,h1,h2,(hb.block g (Array.getElem?_eq_some_iff.1 h3).1).trans h3,h4⟩
theorem qd {w0 w1 : World} {p : Addr} {v : Value} (h : w0.cell? p = some v) (hb : Below w0.heap.size w0 w1) : w1.cell? p = some v := (hb.cell (World.block_lt_of_cell? _ _ h)).trans h
theorem q3W {w0 w1 : World} {p : Addr} {v : Value} {row : Option Nat} (h : w0.cell? p = some v) (hb : w0.grownBy w1 row) (hne : some p.block ≠ row) : w1.cell? p = some v := (hb.cell_far p (World.block_lt_of_cell? _ _ h) hne).trans h
theorem q8 {W : World} {g : Nat} {arr : Array Value} {e : TypeId} (h : W.heap[g]? = some (.cells arr e (0,0))) (j : Nat) : W.cell? ⟨g,j,none⟩ = arr[j]? := by simp [World.cell?,h]
theorem qG (x : Addr) (n : Nat) : (x.add n).block = x.block := by unfold Addr.add; split <;> rfl
theorem add_add (x : Addr) (m n : Nat) : (x.add m).add n = x.add (m + n) := by
 unfold Addr.add
 by_cases h : n = 0
 ·subst h; simp
 ·have h2 : ¬ (m + n = 0) := fun e => h (by omega)
  rw [if_neg h,if_neg h2]; split <;> simp_all [Nat.add_assoc]
theorem q3D {P : Program} {e : TypeId} (h : (P.info? e).map (·.size) = some 3) (w : World) : (sizeOf e).run P w = .ok 3 w := by
 cases hq : P.info? e with
 | none => simp [hq] at h
 | some i => simp [hq] at h; simp [sizeOf,typeInfo,hq,h]
def RowI (w : World) (e : TypeId) (g : Nat) (cur : List Int) : Prop := w.heap[g]? = some (.cells (cur.map (Value.int .i64)).toArray e (0,0))
theorem RowI.lt {w : World} {e : TypeId} {g : Nat} {cur : List Int} (h : RowI w e g cur) : g < w.heap.size := (Array.getElem?_eq_some_iff.1 h).1
theorem RowI.up {w w' : World} {e : TypeId} {g : Nat} {cur : List Int} (h : RowI w e g cur) (hb : Below w.heap.size w w') : RowI w' e g cur := (hb.block g h.lt).trans h
theorem RowI.cell {w : World} {e : TypeId} {g : Nat} {cur : List Int} (h : RowI w e g cur) {i : Nat} (hi : i < cur.length) : w.cell? ⟨g,i,none⟩ = some (.int .i64 (cur.getD i 0)) := by
 unfold RowI at h; simp [World.cell?,h,List.getD_eq_getElem?_getD,List.getElem?_eq_getElem hi]
theorem RowI.frozen {w : World} {e : TypeId} {g : Nat} {cur : List Int} (h : RowI w e g cur) (i : Nat) : w.frozen? ⟨g,i,none⟩ = false := frozen_of_row w g i _ e h
theorem RowI.set {w : World} {e : TypeId} {g : Nat} {cur : List Int} (h : RowI w e g cur) (i : Nat) (x : Int) : RowI (w.setCell ⟨g,i,none⟩ (.int .i64 x)) e g (cur.set i x) := by
 have := heap_setCell_same w g i _ e (.int .i64 x) h
 unfold RowI; rw [this]; simp [List.map_set]
theorem RowI.other {w : World} {e : TypeId} {g g' : Nat} {cur : List Int} (h : RowI w e g cur) (hne : g ≠ g') (i : Nat) (v : Value) : RowI (w.setCell ⟨g',i,none⟩ v) e g cur := (Below.heap_setCell _ _ _ _ hne).trans h
theorem madeI (n : Nat) : madeCells #[.int .i64 0] n = ((List.replicate n (0 : Int)).map (Value.int .i64)).toArray := by
 apply Array.ext_getElem?
 intro i
 by_cases h : i < n
 ·simp [madeCells,h,Nat.mod_one]
 ·simp [madeCells,h]
theorem q4H {xs : List Int} {n k : Nat} (hl : xs.length = n) (hk : k < n) : (xs.take k ++ List.replicate (n - k) 0).set k (xs.getD k 0) = xs.take (k + 1) ++ List.replicate (n - (k + 1)) 0 := by
 have h1 : (xs.take k).length = k := by simp; omega
 have h2 : n - k = (n - (k + 1)) + 1 := by omega
 have e : xs.getD k 0 = xs[k]'(by omega) := by simp [List.getD_eq_getElem?_getD,List.getElem?_eq_getElem (show k < xs.length by omega)]
 rw [List.set_append_right _ _ (by omega),h1,Nat.sub_self,h2,List.replicate_succ,List.set_cons_zero,List.take_add_one,List.getElem?_eq_getElem (by omega),e,List.append_assoc]
 rfl
theorem q1A : (Try.prog.info? 3).map (fun i => (i.zero,i.size,i.bytes)) = some (some (.int .i64 0),1,8) := by kernel_rfl
theorem q1o (l : Nat) (hb : l ≤ 1000000) (w : World) :
  (Instr.makeSlice 23 (.int .i64 (l : Int)) (.int .i64 (l : Int))).run Try.prog w = .ok (.slice (some ⟨w.heap.size,0,none⟩) l l) (w.alloc (.cells (madeCells #[.int .i64 0] l) 3)) := by
 obtain ⟨i,hi,hz0,hz1,hz2⟩ := info_parts q1A
 have := run_make (P := Try.prog) w 23 3 i (.int .i64 0) Try.underlying23 hi hz0 .i64 .i64 (l : Int) (l : Int) (by omega) (by omega) (by rw [hz2]; omega) (by omega)
 rw [this,hz1]
 simp only [Int.toNat_natCast,Nat.mul_one]
 rfl
theorem qn : (Try.prog.info? 3).map (·.size) = some 1 := by kernel_rfl
theorem q2P (a : Option Addr) (len cap : Nat) (xs : List Int) (a' : Option Addr) (len' cap' : Nat) (ys : List Int) (w : World)
  (hS : IntSl Try.prog 23 .i64 w a len cap xs) (hO : IntSl Try.prog 23 .i64 w a' len' cap' ys) :
  Calls Try.prog 19 #[.slice a len cap,.slice a' len' cap'] w fun e w' => e = .returned (.bool (decide (xs = ys))) ∧ ∃ n,w' = w.drewN n := by
 have hb0 := hS.bd
 have hb2 := hO.bd
 have hb3 := hO.hcap
 unfold maxLen at hb0 hb2
 by_cases hll : len = len'
 ·subst hll
  have hidx := fun (k : Nat) (w : World) (h : k < len) => hS.idx len k w h (Nat.le_refl _)
  have hidx' := fun (k : Nat) (w : World) (h : k < len) => hO.idx len k w h (Nat.le_refl _)
  go_enter Try.func19,Try.ntmps19
  go_wp2
  go_loopw [5] (fun i wr => ∃ k : Nat,k ≤ len ∧ i = .int .i64 k ∧ Hid (xs.take k = ys.take k) ∧ Hid (∃ n,wr = w.drewN n)) (fun i _ => len - (intOf i).toNat)
  case atStart => exact ⟨0,Nat.zero_le _,rfl,by show _ = _; simp,0,rfl⟩
  case round =>
   obtain ⟨k,hk,rfl,HU,hwr⟩ := hrel
   by_cases hlt : k < len
   ·have hS' : IntSl Try.prog 23 .i64 wr a len cap xs := by obtain ⟨n,hn⟩ := hwr.out; rw [hn]; exact hS.drewN n
    have hO' : IntSl Try.prog 23 .i64 wr a' len cap' ys := by obtain ⟨n,hn⟩ := hwr.out; rw [hn]; exact hO.drewN n
    have hck := hS'.cell k hlt
    have hck' := hO'.cell k hlt
    have HN : Hid (xs.getD k 0 = ys.getD k 0 → xs.take (k + 1) = ys.take (k + 1)) := fun h => q1t (by rw [hS.hlen]; exact hlt) (by rw [hO.hlen]; exact hlt) HU.out h
    have HM : Hid (xs.getD k 0 ≠ ys.getD k 0 → decide (xs = ys) = false) := fun h => decide_eq_false (fun e => h (by rw [e]))
    generalize xs.getD k 0 = x at *
    generalize ys.getD k 0 = y at *
    go_wp2
    go_quiet (fail)
    rcases Bool.eq_false_or_eq_true (x != y) with ht | ht
    ·go_wp2
     go_ret
     obtain ⟨n,hn⟩ := hwr.out
     exact ⟨by rw [HM.out (by simpa using ht)]; rfl,n + nq,by rw [hn,World.drewN_drewN]⟩
    ·have HN2 : Hid _ := HN.out (by simpa using ht)
     go_wp2
     go_roundw
     case rel =>
      obtain ⟨n,hn⟩ := hwr.out
      exact ⟨k + 1,by omega,by go_num,HN2,n + nq,by rw [hn,World.drewN_drewN]⟩
     case measure => simp [intOf]; omega
   ·have hx : Hid (decide (xs = ys) = true) := by
     have := HU.out
     rw [List.take_of_length_le (by rw [hS.hlen]; omega),List.take_of_length_le (by rw [hO.hlen]; omega)] at this
     exact decide_eq_true this
    go_wp2
    go_ret
    exact ⟨by rw [hx.out]; rfl,hwr.out⟩
 ·have hx : Hid (decide (xs = ys) = false) := decide_eq_false (fun e => hll (by rw [← hS.hlen,← hO.hlen,e]))
  go_enter Try.func19,Try.ntmps19
  go_wp2
  go_ret
  exact ⟨by rw [hx.out]; rfl,0,rfl⟩
def encGd (ts : List Gd) : List Value := ts.flatMap fun t => [.int .i64 t.1,.int .i64 t.2.1,.int .i64 t.2.2]
theorem q3V (t : Gd) (ts : List Gd) : encGd (t :: ts) = .int .i64 t.1 :: .int .i64 t.2.1 :: .int .i64 t.2.2 :: encGd ts := rfl
theorem qV : ∀ (ts : List Gd) (k : Nat) (h : k < ts.length),(encGd ts)[3 * k]? = some (.int .i64 ts[k].1) ∧ (encGd ts)[3 * k + 1]? = some (.int .i64 ts[k].2.1) ∧ (encGd ts)[3 * k + 2]? = some (.int .i64 ts[k].2.2)
 | [],k,h => absurd h (by simp)
 | t :: ts,0,_ => ⟨rfl,rfl,rfl⟩
 | t :: ts,k + 1,h => by
  have := qV ts k (by simpa using h)
  rw [q3V,show 3 * (k + 1) = 3 * k + 1 + 1 + 1 by omega,show 3 * k + 1 + 1 + 1 + 1 = (3 * k + 1) + 1 + 1 + 1 by omega,show 3 * k + 1 + 1 + 1 + 2 = (3 * k + 2) + 1 + 1 + 1 by omega]
  simpa using this
def I64 (z : Int) : Prop := -9223372036854775808 ≤ z ∧ z < 9223372036854775808
def GdOk (t : Gd) : Prop := I64 t.1 ∧ I64 t.2.1 ∧ I64 t.2.2
structure NdSl (w : World) (a : Option Addr) (len cap : Nat) (ts : List Gd) : Prop where
 hlen : ts.length = len
 hcap : len ≤ cap
 bd : cap ≤ maxLen
 nn : a = none → cap = 0
 c0 : ∀ x,a = some x → ∀ k (h : k < ts.length),w.cell? (x.add (3 * k)) = some (.int .i64 ts[k].1)
 c1 : ∀ x,a = some x → ∀ k (h : k < ts.length),w.cell? (x.add (3 * k + 1)) = some (.int .i64 ts[k].2.1)
 c2 : ∀ x,a = some x → ∀ k (h : k < ts.length),w.cell? (x.add (3 * k + 2)) = some (.int .i64 ts[k].2.2)
 ok : ∀ t ∈ ts,GdOk t
theorem NdSl.some_of {w : World} {a : Option Addr} {len cap : Nat} {ts : List Gd} (h : NdSl w a len cap ts) (hl : 0 < len) : ∃ x,a = some x := by
 cases a with
 | none => have := h.nn rfl; have := h.hcap; omega
 | some x => exact ⟨x,rfl⟩
theorem NdSl.lt {w : World} {x : Addr} {len cap : Nat} {ts : List Gd} (h : NdSl w (some x) len cap ts) (hl : 0 < len) : x.block < w.heap.size := by
 have h0 := h.c0 x rfl 0 (by have := h.hlen; omega)
 have := World.block_lt_of_cell? _ _ h0
 rwa [qG] at this
theorem NdSl.keep {w w' : World} {a : Option Addr} {len cap : Nat} {ts : List Gd} (h : NdSl w a len cap ts) (hk : ∀ p v,w.cell? p = some v → (∀ x,a = some x → p.block = x.block) → w'.cell? p = some v) : NdSl w' a len cap ts := by
 have hb : ∀ x,a = some x → ∀ m,∀ y,a = some y → (x.add m).block = y.block := fun x hx m y hy => by rw [qG]; rw [hx] at hy; injection hy with hy; rw [hy]
 exact ⟨h.hlen,h.hcap,h.bd,h.nn,fun x hx k hk' => hk _ _ (h.c0 x hx k hk') (hb x hx _),fun x hx k hk' => hk _ _ (h.c1 x hx k hk') (hb x hx _),fun x hx k hk' => hk _ _ (h.c2 x hx k hk') (hb x hx _),h.ok⟩
theorem NdSl.up {w w' : World} {a : Option Addr} {len cap : Nat} {ts : List Gd} (h : NdSl w a len cap ts) (hb : Below w.heap.size w w') : NdSl w' a len cap ts :=
 h.keep fun _ _ hp _ => qd hp hb
theorem NdSl.nil {w : World} : NdSl w none 0 0 [] :=
 ⟨rfl,Nat.le_refl _,Nat.zero_le _,fun _ => rfl,fun x hx => (by cases hx),fun x hx => (by cases hx),fun x hx => (by cases hx),fun t ht => (by simp at ht)⟩
theorem NdSl.at {w : World} {a : Option Addr} {len cap : Nat} {ts : List Gd} (h : NdSl w a len cap ts) {P : Program} {T e : TypeId} (hu : P.underlying T = some (.slice e)) (hs : (P.info? e).map (·.size) = some 3) (k : Nat) (hk : k < len) :
  ∃ g o s,(∀ (n : Nat) (w' : World),k < n → (Instr.indexAt T (.slice a n cap) (.int .i64 k)).run P w' = .ok (.pointer (some ⟨g,o,s⟩)) w') ∧ w.cell? ⟨g,o,s⟩ = some (.int .i64 (ts.getD k (0,0,0)).1) ∧ w.cell? ⟨g,o + 1,none⟩ = some (.int .i64 (ts.getD k (0,0,0)).2.1) ∧ w.cell? ⟨g,o + 2,none⟩ = some (.int .i64 (ts.getD k (0,0,0)).2.2) ∧ g < w.heap.size ∧ (∀ x,a = some x → x.block = g) ∧ GdOk (ts.getD k (0,0,0)) := by
 obtain ⟨x,rfl⟩ := h.some_of (by omega)
 have hkl : k < ts.length := by rw [h.hlen]; exact hk
 have e0 := h.c0 x rfl k hkl
 have e1 := h.c1 x rfl k hkl
 have e2 := h.c2 x rfl k hkl
 have eok := h.ok _ (List.getElem_mem hkl)
 have ex : ts[k] = ts.getD k (0,0,0) := by simp [List.getD_eq_getElem?_getD,List.getElem?_eq_getElem hkl]
 rw [ex] at e0 e1 e2 eok
 have hlt := h.lt (by omega)
 rw [← add_add] at e1 e2
 have hb := qG x (3 * k)
 have hrun : ∀ (n : Nat) (w' : World),k < n → (Instr.indexAt T (.slice (some x) n cap) (.int .i64 k)).run P w' = .ok (.pointer (some (x.add (3 * k)))) w' := fun n w' hn => by
  simp [Instr.indexAt,run_underlying hu,asIntOf,q3D hs,hn,Result.andThen,go_sem,Nat.mul_comm]
 generalize x.add (3 * k) = y at *
 obtain ⟨g,o,s⟩ := y
 refine ⟨g,o,s,hrun,e0,?_,?_,?_,?_,eok⟩
 ·simpa [Addr.add] using e1
 ·simpa [Addr.add] using e2
 ·dsimp only at hb; omega
 ·intro z hz; injection hz with hz; rw [← hz]; exact hb.symm
theorem qt : (Try.prog.info? 77).map (·.size) = some 3 := by kernel_rfl
theorem q3Y {cs : List Gd} {k : Nat} (h : k < cs.length) : cs.take (k + 1) = cs.take k ++ [cs.getD k (0,0,0)] := by
 rw [List.take_add_one,List.getElem?_eq_getElem h]; simp [List.getD_eq_getElem?_getD,List.getElem?_eq_getElem h]
theorem q58 {P : Program} {T e : TypeId} {w : World} {base n : Nat} {v : Value} {zs : List Int} (h : w.ownsRow base e 1 v n (zs.map (Value.int .i64))) (hu : P.underlying T = some (.slice e)) (hs : (P.info? e).map (·.size) = some 1) :
  ∃ a cap,v = .slice a n cap ∧ IntSl P T .i64 w a n cap zs ∧ (∀ k,k < n → base ≤ (adOf a k).block) ∧ ∀ x,a = some x → x.block < w.heap.size := by
 obtain ⟨hl,h⟩ := h
 simp at hl
 rcases h with ⟨rfl,rfl⟩ | ⟨g,cap,cur,rfl,hg,hcell,hnc,hcm,hsz,htk⟩
 ·have : zs = [] := List.eq_nil_of_length_eq_zero hl
  subst this
  exact ⟨none,0,rfl,⟨rfl,Nat.le_refl _,Nat.zero_le _,fun m k w hk hm => absurd hk (by omega),fun k hk => absurd hk (by omega),fun k hk => absurd hk (by omega),fun _ => rfl⟩,fun k hk => absurd hk (by omega),fun x hx => by cases hx⟩
 ·have had : ∀ k,adOf (some ⟨g,0,none⟩) k = ⟨g,k,none⟩ := fun k => by simp [adOf,qf]
  have hlt := (Array.getElem?_eq_some_iff.1 hcell).1
  refine ⟨some ⟨g,0,none⟩,cap,rfl,⟨hl,hnc,hcm,fun m k w hk hm => qk hu hs (by simp) k w hk,fun k hk => ?_,fun k hk => by rw [had]; exact hlt,by simp⟩,fun k hk => by rw [had]; exact hg,fun x hx => by injection hx with hx; rw [← hx]; exact hlt⟩
  rw [had]
  have hk2 : (cur.toList.take (n * 1))[k]? = some (.int .i64 (zs.getD k 0)) := by
   rw [htk]; simp [List.getD_eq_getElem?_getD,List.getElem?_eq_getElem (show k < zs.length by omega)]
  rw [List.getElem?_take,if_pos (by omega)] at hk2
  simp [World.cell?,hcell]
  simpa using hk2
theorem q2T {w : World} {ops : Array Oper} {rest : List Oper} {o : Oper} {a : Act} {Q : Exit → Act → World → Prop} (hgd : o.guard = none) (s x : Operand)
  (ho : o.op = .call { callee := .builtin .append,args := #[s,x],argTypes := #[23,23] }) (base : Nat)
  (v : Value) (n : Nat) (zs : List Int) (hs : a.eval s = v) (hown : w.ownsRow base 3 1 v n (zs.map (Value.int .i64))) (g' : Nat) (z : Int) (hx : a.eval x = .slice (some ⟨g',0,none⟩) 1 1) (hc : w.cell? ⟨g',0,none⟩ = some (.int .i64 z))
  (hn : n + 1 ≤ 2000000) (hbase : base ≤ w.heap.size)
  (h : ∀ v' w',w'.ownsRow base 3 1 v' (n + 1) ((zs ++ [z]).map (Value.int .i64)) → w.grownBy w' v.ownBlock → wpList Try.prog ops Q rest (a.put o.dst v') w') : wpList Try.prog ops Q (o :: rest) a w := by
 obtain ⟨i,hi,hz0,hz1,hz2⟩ := info_parts q1A
 refine wpList_append_own w hgd s x 23 ho base 3 i _ 1 8 Try.underlying23 hi hz0 hz1 hz2 rfl (by decide) v n _ hs hown ⟨g',0,none⟩ 1 1 [.int .i64 z] hx rfl ?_ (fun u hu => by simp at hu; subst hu; rfl) (by unfold maxLen; omega) (by omega) hbase ?_
 ·intro j u hj
  match j with
  | 0 => simp at hj; rw [← hj,qf]; exact hc
  | j + 1 => simp at hj
 ·intro v' w' h1 h2 _
  exact h v' w' (by rw [List.map_append]; exact h1) h2
theorem q5a {w : World} {base e size n : Nat} {v : Value} {xs : List Value} (h : w.ownsRow base e size v n xs) : ∃ a c,v = .slice a n c := by
 rcases h.2 with ⟨rfl,rfl⟩ | ⟨g,cap,cur,rfl,_⟩
 ·exact ⟨none,0,rfl⟩
 ·exact ⟨_,cap,rfl⟩
def goV : Option Int → Value
 | some q => .tuple #[.int .i64 q,.bool true]
 | none => .tuple #[.int .i64 0,.bool false]
theorem q4V {N : List Gd} {x k : Nat} {r : Int} (h : 0 ≤ r) (hl : (N.length : Int) ≤ r) : goG N x k r = none := by
 have h0 : ¬ r < 0 := by omega
 cases k with
 | zero => simp [goG,h0]
 | succ k =>
  have : N[r.toNat]? = none := List.getElem?_eq_none (by omega)
  simp [goG,h0,this]
theorem q3b {N : List Gd} {x : Nat} {r : Int} (h : 0 ≤ r) : goG N x 0 r = none := by
 have h0 : ¬ r < 0 := by omega
 simp [goG,h0]
theorem q4U {N : List Gd} {x k i : Nat} (h : ¬ (0 ≤ (N.getD i (0,0,0)).1 ∧ (N.getD i (0,0,0)).1 ≤ 7)) : goG N x k (i : Int) = none := by
 cases k with
 | zero => exact q3b (by omega)
 | succ k =>
  have h0 : ¬ (i : Int) < 0 := by omega
  rcases e : N[i]? with _ | ⟨P,lo,hi⟩
  ·simp [goG,h0,e]
  ·simp only [List.getD_eq_getElem?_getD,e,Option.getD_some] at h
   simp only [goG,h0,if_false,Int.toNat_natCast,e,if_neg h]
theorem q4p {N : List Gd} {x k i : Nat} {P lo hi : Int} (hl : i < N.length) (e : N.getD i (0,0,0) = (P,lo,hi)) (h0 : 0 ≤ P) (h7 : P ≤ 7) : goG N x (k + 1) (i : Int) = goG N x k (if x.testBit P.toNat then hi else lo) := by
 refine q3c (P := P) (lo := lo) (hi := hi) ?_ h0 h7
 rw [← e]
 simp [List.getD_eq_getElem?_getD,List.getElem?_eq_getElem hl]
abbrev ZSl (w : World) (a : Option Addr) (len cap : Nat) (l : List Int) : Prop := IntSl Try.prog 23 .i64 w a len cap l
structure Zc where
 a : Option Addr
 len : Nat
 cap : Nat
 zs : List Int
structure ZzSl (w : World) (a : Option Addr) (len cap : Nat) (rs : List Zc) : Prop where
 hlen : rs.length = len
 hcap : len ≤ cap
 bd : cap ≤ maxLen
 nn : a = none → cap = 0
 c : ∀ x,a = some x → ∀ k (h : k < rs.length),w.cell? (x.add k) = some (.slice rs[k].a rs[k].len rs[k].cap)
 t : ∀ r ∈ rs,ZSl w r.a r.len r.cap r.zs ∧ ∀ z ∈ r.zs,I64 z
theorem q1i : (Try.prog.info? 23).map (·.size) = some 1 := by kernel_rfl
theorem ZzSl.at {w : World} {a : Option Addr} {len cap : Nat} {rs : List Zc} (h : ZzSl w a len cap rs) (k : Nat) (hk : k < len) :
  ∃ g o s,∃ r : Zc,rs[k]? = some r ∧ (∀ w',(Instr.indexAt 50 (.slice a len cap) (.int .i64 (k : Int))).run Try.prog w' = .ok (.pointer (some ⟨g,o,s⟩)) w') ∧ w.cell? ⟨g,o,s⟩ = some (.slice r.a r.len r.cap) ∧ ZSl w r.a r.len r.cap r.zs ∧ ∀ z ∈ r.zs,I64 z := by
 have hkl : k < rs.length := by rw [h.hlen]; exact hk
 cases a with
 | none => have := h.nn rfl; have := h.hcap; omega
 | some x =>
  have e0 := h.c x rfl k hkl
  have ht := h.t _ (List.getElem_mem hkl)
  have hi := fun w' => qk (P := Try.prog) (T := 50) Try.underlying50 q1i (a := some x) (cap := cap) (n := len) (fun e => by cases e) k w' hk
  simp only [adOf] at hi
  generalize x.add k = y at *
  obtain ⟨g,o,s⟩ := y
  exact ⟨g,o,s,rs[k],List.getElem?_eq_getElem hkl,hi,e0,ht.1,ht.2⟩
def fitB (m : Nat) (N : List Gd) (a : Nat) (p r : Int) : Bool := if r < 0 then decide (-(m : Int) ≤ r) else decide (r < (a : Int)) && decide (p < (N.getD r.toNat (0,0,0)).1)
theorem q4n {m : Nat} {N : List Gd} {a : Nat} {p r : Int} (ha : a ≤ N.length) : fitB m N a p r = true ↔ FitG m N a p r := by
 unfold fitB FitG
 by_cases h : r < 0
 ·simp only [h,if_true,decide_eq_true_eq,true_and]
  constructor
  ·exact fun h1 => .inl h1
  ·rintro (h1 | ⟨i,e,_⟩)
   ·exact h1
   ·omega
 ·simp only [h,if_false,Bool.and_eq_true,decide_eq_true_eq,false_and,false_or]
  constructor
  ·rintro ⟨h1,h2⟩
   have hl : r.toNat < N.length := by omega
   refine ⟨r.toNat,by omega,by omega,N[r.toNat],List.getElem?_eq_getElem hl,?_⟩
   simpa [List.getD_eq_getElem?_getD,List.getElem?_eq_getElem hl] using h2
  ·rintro ⟨i,rfl,h1,nd,h2,h3⟩
   refine ⟨by omega,?_⟩
   simpa [List.getD_eq_getElem?_getD,h2] using h3
structure AuB (w : World) (g : Nat) (p : Int) (aA : Option Addr) (nA cA : Nat) (aG : Option Addr) (nG cG : Nat) (aN : Option Addr) (nN cN : Nat) : Prop where
 c0 : w.cell? ⟨g,0,none⟩ = some (.int .i64 p)
 c1 : w.cell? ⟨g,1,none⟩ = some (.slice aA nA cA)
 c2 : w.cell? ⟨g,2,none⟩ = some (.slice aG nG cG)
 c3 : w.cell? ⟨g,3,none⟩ = some (.slice aN nN cN)
theorem AuB.up {w w' : World} {g : Nat} {p : Int} {aA : Option Addr} {nA cA : Nat} {aG : Option Addr} {nG cG : Nat} {aN : Option Addr} {nN cN : Nat} (h : AuB w g p aA nA cA aG nG cG aN nN cN) (hb : Below w.heap.size w w') : AuB w' g p aA nA cA aG nG cG aN nN cN := ⟨qd h.c0 hb,qd h.c1 hb,qd h.c2 hb,qd h.c3 hb⟩
theorem qj (w : World) (p : Int) (aA : Option Addr) (nA cA : Nat) (aG : Option Addr) (nG cG : Nat) (aN : Option Addr) (nN cN : Nat) : AuB (w.alloc (.cells #[.int .i64 p,.slice aA nA cA,.slice aG nG cG,.slice aN nN cN] 26 (0,0))) w.heap.size p aA nA cA aG nG cG aN nN cN := by
 have h := (MapKept.heap_alloc w (.cells #[.int .i64 p,.slice aA nA cA,.slice aG nG cG,.slice aN nN cN] 26 (0,0))).1
 exact ⟨q8 h 0,q8 h 1,q8 h 2,q8 h 3⟩
structure BoSl (w : World) (a : Option Addr) (len cap : Nat) (bs : List Bool) : Prop where
 hlen : bs.length = len
 hcap : len ≤ cap
 bd : cap ≤ maxLen
 nn : a = none → cap = 0
 c : ∀ x,a = some x → ∀ k (h : k < bs.length),w.cell? (x.add k) = some (.bool bs[k])
theorem BoSl.some_of {w : World} {a : Option Addr} {len cap : Nat} {bs : List Bool} (h : BoSl w a len cap bs) (hl : 0 < len) : ∃ x,a = some x := by
 cases a with
 | none => have := h.nn rfl; have := h.hcap; omega
 | some x => exact ⟨x,rfl⟩
theorem BoSl.up {w w' : World} {a : Option Addr} {len cap : Nat} {bs : List Bool} (h : BoSl w a len cap bs) (hb : Below w.heap.size w w') : BoSl w' a len cap bs :=
 ⟨h.hlen,h.hcap,h.bd,h.nn,fun x hx k hk => qd (h.c x hx k hk) hb⟩
theorem BoSl.nil {w : World} : BoSl w none 0 0 [] := ⟨rfl,Nat.le_refl _,Nat.zero_le _,fun _ => rfl,fun x hx => (by cases hx)⟩
theorem q1W : (Try.prog.info? 4).map (·.size) = some 1 := by kernel_rfl
def ndV (x : Gd) : Value := .agg #[.int .i64 x.1,.int .i64 x.2.1,.int .i64 x.2.2]
def klG (x : Gd) : Lit := .string (keyBytes [.int .i64 x.1,.int .i64 x.2.1,.int .i64 x.2.2])
theorem q33 : laidOutB Try.prog = true := by kernel_rfl
theorem q1T : Try.prog.keyType 77 = true := by kernel_rfl
theorem q1B : Keyed Try.prog 77 := Keyed.of_law (deep_law_laid q33 (m := 3) (by omega) (of_decide_eq_true (by kernel_rfl)) (by kernel_rfl) (by kernel_rfl))
theorem q2m : ∃ n,Try.prog.types.size + 1 = n + 2 := ⟨Try.prog.types.size - 1,by have : 0 < Try.prog.types.size := of_decide_eq_true (by kernel_rfl); omega⟩
theorem q2H : Try.prog.cellsOf 77 = 3 := by kernel_rfl
theorem q2G : Try.prog.cellsOf 3 = 1 := by kernel_rfl
theorem qT (x : Gd) (h : GdOk x) : keyOf Try.prog 77 (ndV x) = some (klG x) := by
 obtain ⟨⟨h1,h2⟩,⟨h3,h4⟩,⟨h5,h6⟩⟩ := h
 obtain ⟨n,hn⟩ := q2m
 have w1 : (Lit.int .i64 x.1).wf = true := WalkArith.wf_i64 (by omega)
 have w2 : (Lit.int .i64 x.2.1).wf = true := WalkArith.wf_i64 (by omega)
 have w3 : (Lit.int .i64 x.2.2).wf = true := WalkArith.wf_i64 (by omega)
 unfold keyOf ndV klG
 rw [Try.underlying77,hn]
 simp [q1T,Value.formed,Try.underlying77,q2H,Value.cells,Program.keyLits,q2G,Try.underlying3,w1,w2,w3]
theorem q54 {x y : Gd} (h : ndV x = ndV y) : x = y := by
 unfold ndV at h
 obtain ⟨a,b,c⟩ := x
 obtain ⟨a',b',c'⟩ := y
 simp at h
 obtain ⟨h1,h2,h3⟩ := h
 rw [h1,h2,h3]
theorem q3u {x y : Gd} (hx : GdOk x) (hy : GdOk y) (h : klG x = klG y) : x = y :=
 q54 (q1B.inj (qT x hx) (by rw [h]; exact qT y hy))
theorem q2s (x : Gd) : WideAt.IsKeyLit (klG x) := trivial
def NumG (w : World) (b n : Nat) (f : Gd → Option Nat) : Prop :=
 ∃ D : DataW Unit,w.ownsMap Try.prog 77 (plainElem Try.prog 3) b n D ∧ Tidy D ∧ Maps.size D = n ∧ ∀ x,GdOk x → has D (klG x) = (f x).isSome ∧ ∀ j,f x = some j → D.atKey (klG x) (.lit (.int .i64 0)) = .lit (.int .i64 (j : Int))
theorem NumG.lt {w : World} {b n : Nat} {f : Gd → Option Nat} (h : NumG w b n f) : b < w.heap.size := by
 obtain ⟨D,h,_⟩ := h; exact h.lt
theorem NumG.far {w w' : World} {b n : Nat} {f : Gd → Option Nat} (h : NumG w b n f) (hb : w'.heap[b]? = w.heap[b]?) : NumG w' b n f := by
 obtain ⟨D,⟨es,clock,h1,h2⟩,r⟩ := h
 exact ⟨D,⟨es,clock,hb.trans h1,h2⟩,r⟩
theorem NumG.isMap {w : World} {b n : Nat} {f : Gd → Option Nat} (h : NumG w b n f) : ∃ es c,w.heap[b]? = some (.map es c) := by
 obtain ⟨D,⟨es,clock,h1,h2⟩,r⟩ := h
 exact ⟨es,clock,h1⟩
theorem NumG.alike {w : World} {b n : Nat} {f g : Gd → Option Nat} (h : NumG w b n f) (hg : ∀ x,GdOk x → f x = g x) : NumG w b n g := by
 obtain ⟨D,h1,h2,h3,h4⟩ := h
 exact ⟨D,h1,h2,h3,fun x hx => by rw [← hg x hx]; exact h4 x hx⟩
theorem q4g (w : World) : NumG (w.alloc (.map #[] 0)) w.heap.size 0 (fun _ => none) :=
 ⟨.map [],World.ownsMap_made _ _ _ _,tidy_empty,rfl,fun x _ => ⟨rfl,fun j hj => by cases hj⟩⟩
theorem q3a (w : World) : (zeroValue 3).run Try.prog w = .ok (.int .i64 0) w := by kernel_rfl
theorem NumG.look {w : World} {b n : Nat} {f : Gd → Option Nat} (h : NumG w b n f) {x : Gd} (hx : GdOk x) :
  (Instr.lookup 123 (.map (some b)) (ndV x) true).run Try.prog w = .ok (.tuple #[.int .i64 (((f x).getD 0 : Nat) : Int),.bool (f x).isSome]) w := by
 obtain ⟨D,h1,h2,h3,h4⟩ := h
 obtain ⟨hh,ha⟩ := h4 x hx
 obtain ⟨v,ps,hrun,hv⟩ := h1.look_ok q1B Try.underlying123 (q3a w) (plainElem_int Try.underlying3 (by decide)) (qT x hx)
 obtain ⟨c,rfl,hc,hwc⟩ := plainElem_int_inv Try.underlying3 hv
 have hc' := congrArg Prod.fst hc
 rw [hrun,hh]
 cases hf : f x with
 | none =>
  rw [hf] at hh
  rw [atKey_of_not_has hh] at hc'
  injection hc' with hc'
  injection hc' with _ hc'
  subst hc'
  rfl
 | some j =>
  rw [ha j hf] at hc'
  injection hc' with hc'
  injection hc' with _ hc'
  subst hc'
  rfl
theorem NumG.put {w : World} {b n : Nat} {f : Gd → Option Nat} (h : NumG w b n f) (hn : n ≤ 100000000) {x : Gd} (hx : GdOk x) (hf : f x = none) (j : Nat) (hj : j ≤ 100000000) :
  ∃ w',(Instr.mapUpdate 123 (.map (some b)) (ndV x) (.int .i64 (j : Int))).run Try.prog w = .ok () w' ∧ NumG w' b (n + 1) (fun y => if y = x then some j else f y) ∧ w.grownBy w' (some b) := by
 obtain ⟨D,h1,h2,h3,h4⟩ := h
 obtain ⟨hh,_⟩ := h4 x hx
 rw [hf] at hh
 obtain ⟨w',hrun,hown,hg⟩ := h1.update q1B Try.underlying123 (by unfold maxLen; omega) (qT x hx) (plainElem_int (a := (j : Int)) Try.underlying3 (WalkArith.wf_i64 (by omega)))
 refine ⟨w',hrun,⟨_,hown,h2.put (q2s x) _,?_,fun y hy => ?_⟩,hg⟩
 ·rw [size_put h2,hh,h3]; rfl
 ·dsimp only
  by_cases e : y = x
  ·subst e
   rw [if_pos rfl]
   refine ⟨has_put_same h2.isMap (q2s y) _,fun i hi => ?_⟩
   injection hi with hi
   subst hi
   exact atKey_put_same h2.isMap (q2s y) _ _
  ·have ne : klG y ≠ klG x := fun he => e (q3u hy hx he)
   rw [if_neg e,has_put_other ne]
   refine ⟨(h4 y hy).1,fun i hi => ?_⟩
   rw [atKey_put_other ne]
   exact (h4 y hy).2 i hi
def posG (N : List Gd) (x : Gd) : Option Nat := if x ∈ N then some (N.idxOf x) else none
theorem q1x {N : List Gd} {x : Gd} (h : x ∈ N) : posG N x = some (N.idxOf x) := if_pos h
theorem q1b {N : List Gd} {x : Gd} (h : x ∉ N) : posG N x = none := if_neg h
theorem q4i {N : List Gd} {x : Gd} (hx : x ∉ N) (y : Gd) : (if y = x then some N.length else posG N y) = posG (N ++ [x]) y := by
 by_cases e : y = x
 ·subst e
  rw [if_pos rfl,q1x (by simp),q4X hx]
 ·rw [if_neg e]
  by_cases hm : y ∈ N
  ·rw [q1x hm,q1x (by simp [hm]),q4Y (List.prefix_append _ _) hm]
  ·rw [q1b hm,q1b (by simp [hm,e])]
def ChkR (p : Int) (ns : Nat) (N : List Gd) (gs : List Int) (w : World) (e : Ending) (w' : World) : Prop := Below w.heap.size w w' ∧ ∃ v,e = .returned (.int .i64 v) ∧ ((v = 0 ∧ MayG p ns N gs) ∨ (v = 12 ∧ ¬ MayG p ns N gs))
def NdMay (p : Int) (ns : Nat) (N : List Gd) (k : Nat) : Prop := 0 ≤ (N.getD k (0,0,0)).1 ∧ (N.getD k (0,0,0)).1 < p ∧ (N.getD k (0,0,0)).2.1 ≠ (N.getD k (0,0,0)).2.2 ∧ FitG ns N k (N.getD k (0,0,0)).1 (N.getD k (0,0,0)).2.1 ∧ FitG ns N k (N.getD k (0,0,0)).1 (N.getD k (0,0,0)).2.2
theorem MayG.nd {p : Int} {ns : Nat} {N : List Gd} {gs : List Int} (h : MayG p ns N gs) {k : Nat} (hk : k < N.length) : NdMay p ns N k := by
 have e : N[k]? = some (N.getD k (0,0,0)) := by simp [List.getD_eq_getElem?_getD,List.getElem?_eq_getElem hk]
 unfold NdMay
 generalize N.getD k (0,0,0) = nd at *
 obtain ⟨P,lo,hi⟩ := nd
 exact h.node k P lo hi e
theorem q5l {p : Int} {ns : Nat} {N : List Gd} {gs : List Int} (h0 : 0 ≤ p) (h8 : p ≤ 8) (s1 : 1 ≤ ns) (s2 : ns ≤ 256) (hl : gs.length = ns) (hf : N.length ≤ 4096) (hn : ∀ k,k < N.length → NdMay p ns N k) (ho : N.Nodup) (hg : ∀ k,k < gs.length → FitG ns N N.length (-1) (gs.getD k 0)) : MayG p ns N gs := by
 refine ⟨h0,h8,s1,s2,hl,hf,fun i P lo hi e => ?_,ho,fun g hm => ?_⟩
 ·have hi1 := (List.getElem?_eq_some_iff.1 e).1
  have := hn i hi1
  unfold NdMay at this
  simpa [List.getD_eq_getElem?_getD,e] using this
 ·obtain ⟨i,hi,rfl⟩ := List.getElem_of_mem hm
  simpa [List.getD_eq_getElem?_getD,List.getElem?_eq_getElem hi] using hg i hi
theorem q4f {N : List Gd} {j k : Nat} (hj : j < k) (hk : k < N.length) (he : N.getD j (0,0,0) = N.getD k (0,0,0)) : ¬ N.Nodup := by
 intro h
 have ej : N[j]? = some N[j] := List.getElem?_eq_getElem (by omega)
 have ek : N[k]? = some N[k] := List.getElem?_eq_getElem hk
 simp only [List.getD_eq_getElem?_getD,ej,ek,Option.getD_some] at he
 exact List.pairwise_iff_getElem.1 h j k (by omega) hk hj he
structure NdB (w : World) (g : Nat) (P lo hi : Int) : Prop where
 c0 : w.cell? ⟨g,0,none⟩ = some (.int .i64 P)
 c1 : w.cell? ⟨g,1,none⟩ = some (.int .i64 lo)
 c2 : w.cell? ⟨g,2,none⟩ = some (.int .i64 hi)
theorem q55 (w : World) (P lo hi : Int) : NdB (w.alloc (.cells #[.int .i64 P,.int .i64 lo,.int .i64 hi] 77 (0,0))) w.heap.size P lo hi := by
 have h := (MapKept.heap_alloc w (.cells #[.int .i64 P,.int .i64 lo,.int .i64 hi] 77 (0,0))).1
 exact ⟨q8 h 0,q8 h 1,q8 h 2⟩
theorem RowI.zsl {P : Program} {T e : TypeId} {w : World} {g n : Nat} {cur : List Int} (h : RowI w e g cur) (hu : P.underlying T = some (.slice e)) (hs : (P.info? e).map (·.size) = some 1) (hn : n ≤ cur.length) (hm : cur.length ≤ maxLen) :
  IntSl P T .i64 w (some ⟨g,0,none⟩) n cur.length (cur.take n) := by
 have had : ∀ k,adOf (some ⟨g,0,none⟩) k = ⟨g,k,none⟩ := fun k => by simp [adOf,qf]
 refine ⟨by simp; omega,hn,hm,fun m k w hk hm => qk hu hs (by simp) k w hk,fun k hk => ?_,fun k hk => ?_,by simp⟩
 ·rw [had,h.cell (by omega)]; simp [List.getD_eq_getElem?_getD,hk]
 ·rw [had]; exact h.lt
theorem q36 (l : Nat) (L : Int) (hl : L = l) (hb : l ≤ 1000000) (w : World) :
  (Instr.makeSlice 23 (.int .i64 L) (.int .i64 L)).run Try.prog w = .ok (.slice (some ⟨w.heap.size,0,none⟩) l l) (w.alloc (.cells ((List.replicate l (0 : Int)).map (Value.int .i64)).toArray 3)) := by
 subst hl
 rw [q1o l hb w,madeI]
def BoRow (w : World) (g : Nat) (bs : List Bool) : Prop := w.heap[g]? = some (.cells (bs.map Value.bool).toArray 4 (0,0))
def zB (k : Nat) : List Bool := List.replicate k false
theorem madeB (n : Nat) : madeCells #[.bool false] n = ((zB n).map Value.bool).toArray := by
 apply Array.ext_getElem?
 intro i
 by_cases h : i < n
 ·simp [madeCells,zB,h,Nat.mod_one]
 ·simp [madeCells,zB,h]
theorem q3s : (Try.prog.info? 4).map (fun i => (i.zero,i.size,i.bytes)) = some (some (.bool false),1,1) := by kernel_rfl
theorem q1V (l c : Nat) (L C : Int) (hl : L = l) (hc : C = c) (hlc : l ≤ c) (hb : c ≤ 1000000) (w : World) :
  (Instr.makeSlice 22 (.int .i64 L) (.int .i64 C)).run Try.prog w = .ok (.slice (some ⟨w.heap.size,0,none⟩) l c) (w.alloc (.cells ((zB c).map Value.bool).toArray 4)) := by
 obtain ⟨i,hi,hz0,hz1,hz2⟩ := info_parts q3s
 have := run_make (P := Try.prog) w 22 4 i (.bool false) Try.underlying22 hi hz0 .i64 .i64 L C (by omega) (by omega) (by rw [hz2]; omega) (by omega)
 rw [this,hl,hc,hz1,← madeB]
 simp only [Int.toNat_natCast,Nat.mul_one]
 rfl
theorem al3 (w : World) (A B C : Obj) : (((w.alloc A).alloc B).alloc C).heap[w.heap.size]? = some A ∧ (((w.alloc A).alloc B).alloc C).heap[w.heap.size + 1]? = some B ∧ (((w.alloc A).alloc B).alloc C).heap[w.heap.size + 1 + 1]? = some C ∧ Below w.heap.size w (((w.alloc A).alloc B).alloc C) := by
 have h1 := (MapKept.heap_alloc w A).1
 have h2 := (MapKept.heap_alloc (w.alloc A) B).1
 have h3 := (MapKept.heap_alloc ((w.alloc A).alloc B) C).1
 have e1 : (w.alloc A).heap.size = w.heap.size + 1 := by simp
 have e2 : ((w.alloc A).alloc B).heap.size = w.heap.size + 1 + 1 := by simp
 have b1 := qb (w.alloc A) B
 have b2 := qb ((w.alloc A).alloc B) C
 rw [e1] at h2 b1
 rw [e2] at h3 b2
 refine ⟨?_,?_,h3,?_⟩
 ·rw [b2.block _ (by omega),b1.block _ (by omega)]; exact h1
 ·rw [b2.block _ (by omega)]; exact h2
 ·exact ((qb w A).alloc (by omega) B).alloc (by omega) C
end Go.Proofs.Ythhbhadcjofelaa
