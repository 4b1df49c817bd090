/- Texts of the proof, put together: what it uses. -/
import Derived.Laws.OwnMore
import Derived.Laws.BitsAllLaws
import Derived.Deep.RegionHeld3
import Derived.Deep.RegionWith
import Derived.Deep.AppendLies
import Derived.BigQuiet
import Derived.KernelRfl
import Derived.Maps.OwnSet
import Derived.DeepKeys4
import Derived.OwnWalk
import Derived.Laws.CopyRow
import Derived.Test.YtcnkgokfjafgkaaZ00
import Derived.Test.YtcnkgokfjafgkaaZ01
set_option maxRecDepth 100000
set_option maxHeartbeats 16000000
namespace Go.Proofs.Ytcnkgokfjafgkaa
open Go.RowKit Go.Maps
def adOf (a : Option Addr) (i : Nat) : Addr := match a with
 | some x => x.add i
 | none => ⟨0,0,none⟩
theorem q9 (g o i : Nat) : (⟨g,o,none⟩ : Addr).add i = ⟨g,o + i,none⟩ := by unfold Addr.add; split <;> simp_all
theorem q15 {P : Program} {e : TypeId} (h : (P.info? e).map (·.size) = some 1) (w : World) : (sizeOf e).run P w = .ok 1 w := by
 cases hq : P.info? e with
 | none => simp [hq] at h
 | some i => simp [hq] at h; simp [sizeOf,typeInfo,hq,h]
theorem qt {P : Program} {T e : TypeId} (hu : P.underlying T = some (.slice e)) (hs : (P.info? e).map (·.size) = some 1) {a : Option Addr} {cap n : Nat} (hn : a = none → n = 0) (k : Nat) (w : World) (hk : k < n) :
  (Instr.indexAt T (.slice a n cap) (.int .i64 k)).run P w = .ok (.pointer (some (adOf a k))) w := by
 cases a with
 | none => have := hn rfl; omega
 | some x => simp [Instr.indexAt,run_underlying hu,asIntOf,q15 hs,hk,adOf,Result.andThen,go_sem]
structure IntSl (P : Program) (T : TypeId) (q : IntKind) (w : World) (a : Option Addr) (len cap : Nat) (zs : List Int) : Prop where
 hlen : zs.length = len
 hcap : len ≤ cap
 bd : cap ≤ maxLen
 idx : ∀ (n k : Nat) (w : World),k < n → n ≤ len → (Instr.indexAt T (.slice a n cap) (.int .i64 k)).run P w = .ok (.pointer (some (adOf a k))) w
 cell : ∀ k,k < len → w.cell? (adOf a k) = some (.int q (zs.getD k 0))
 blk : ∀ k,k < len → (adOf a k).block < w.heap.size
 nn : a = none → cap = 0
theorem IntSl.later {P : Program} {T : TypeId} {q : IntKind} {w w' : World} {a : Option Addr} {len cap : Nat} {zs : List Int} (h : IntSl P T q w a len cap zs) {B : Nat} (hb : Below B w w') (hB : ∀ k,k < len → (adOf a k).block < B) : IntSl P T q w' a len cap zs :=
 ⟨h.hlen,h.hcap,h.bd,h.idx,fun k hk => (hb.cell (hB k hk)).trans (h.cell k hk),fun k hk => Nat.lt_of_lt_of_le (h.blk k hk) hb.size,h.nn⟩
theorem IntSl.up {P : Program} {T : TypeId} {q : IntKind} {w w' : World} {a : Option Addr} {len cap : Nat} {zs : List Int} (h : IntSl P T q w a len cap zs) (hb : Below w.heap.size w w') : IntSl P T q w' a len cap zs := h.later hb h.blk
theorem IntSl.drewN {P : Program} {T : TypeId} {q : IntKind} {w : World} {a : Option Addr} {len cap : Nat} {zs : List Int} (h : IntSl P T q w a len cap zs) (n : Nat) : IntSl P T q (w.drewN n) a len cap zs := h.up (below_drewN (Below.refl _ _) n)
theorem q17 {zs : List Int} {k : Nat} (h : k < zs.length) : zs.take (k + 1) = zs.take k ++ [zs.getD k 0] := by
 rw [List.take_add_one,List.getElem?_eq_getElem h]; simp [List.getD_eq_getElem?_getD,List.getElem?_eq_getElem h]
theorem q6f {xs ys : List Int} {k : Nat} (hx : k < xs.length) (hy : k < ys.length) (h : xs.take k = ys.take k) (he : xs.getD k 0 = ys.getD k 0) : xs.take (k + 1) = ys.take (k + 1) := by
 rw [q17 hx,q17 hy,h,he]
theorem q4X {P : Program} {T : TypeId} {w : World} : IntSl P T .u8 w none 0 0 [] :=
 ⟨rfl,Nat.le_refl _,Nat.zero_le _,fun m k w hk hm => absurd hk (by omega),fun k hk => absurd hk (by omega),fun k hk => absurd hk (by omega),fun _ => rfl⟩
theorem q5u {P : Program} {T e : TypeId} {w : World} {base n : Nat} {v : Value} {zs : List Int} (h : w.ownsRow base e 1 v n (zs.map (Value.int .u8))) (hu : P.underlying T = some (.slice e)) (hs : (P.info? e).map (·.size) = some 1) :
  ∃ a cap,v = .slice a n cap ∧ IntSl P T .u8 w a n cap zs ∧ ∀ k,k < n → base ≤ (adOf a k).block := by
 obtain ⟨hl,h⟩ := h
 simp at hl
 rcases h with ⟨rfl,rfl⟩ | ⟨g,cap,cur,rfl,hg,hcell,hnc,hcm,hsz,htk⟩
 ·have : zs = [] := List.eq_nil_of_length_eq_zero hl
  subst this
  exact ⟨none,0,rfl,q4X,fun k hk => absurd hk (by omega)⟩
 ·have had : ∀ k,adOf (some ⟨g,0,none⟩) k = ⟨g,k,none⟩ := fun k => by simp [adOf,q9]
  have hlt := (Array.getElem?_eq_some_iff.1 hcell).1
  refine ⟨some ⟨g,0,none⟩,cap,rfl,⟨hl,hnc,hcm,fun m k w hk hm => qt hu hs (by simp) k w hk,fun k hk => ?_,fun k hk => by rw [had]; exact hlt,by simp⟩,fun k hk => by rw [had]; exact hg⟩
  rw [had]
  have hk2 : (cur.toList.take (n * 1))[k]? = some (.int .u8 (zs.getD k 0)) := by
   rw [htk]; simp [List.getD_eq_getElem?_getD,List.getElem?_eq_getElem (show k < zs.length by omega)]
  rw [List.getElem?_take,if_pos (by omega)] at hk2
  simp [World.cell?,hcell]
  simpa using hk2
theorem qm {w : World} {base e size n : Nat} {v : Value} {xs : List Value} (h : w.ownsRow base e size v n xs) : ∀ k,v.ownBlock = some k → base ≤ k := by
 obtain ⟨_,h⟩ := h
 rcases h with ⟨rfl,_⟩ | ⟨g,cap,cur,rfl,hg,_⟩
 ·intro k hk; simp [Value.ownBlock] at hk
 ·intro k hk; simp [Value.ownBlock] at hk; omega
theorem q5 (w : World) (o : Obj) : Below w.heap.size w (w.alloc o) := (Below.refl _ _).alloc (Nat.le_refl _) _
theorem q7 {w w1 w2 : World} (h : Below w.heap.size w w1) (k : Below w1.heap.size w1 w2) : Below w.heap.size w w2 := h.trans (k.mono h.size)
theorem q8W (x y : Nat) : ((x : Int) == (y : Int)) = decide (x = y) := by
 by_cases h : x = y
 ·simp [h]
 ·rw [decide_eq_false h,beq_eq_false_iff_ne]; omega
theorem q6G {P : Program} {e : TypeId} (h : (P.info? e).map (·.size) = some 2) (w : World) : (sizeOf e).run P w = .ok 2 w := by
 cases hq : P.info? e with
 | none => simp [hq] at h
 | some i => simp [hq] at h; simp [sizeOf,typeInfo,hq,h]
theorem qab {P : Program} {T e : TypeId} (hu : P.underlying T = some (.slice e)) (hs : (P.info? e).map (·.size) = some 2) {g cap n : Nat} (k : Nat) (w : World) (hk : k < n) :
  (Instr.indexAt T (.slice (some ⟨g,0,none⟩) n cap) (.int .i64 k)).run P w = .ok (.pointer (some ⟨g,2 * k,none⟩)) w := by
 simp [Instr.indexAt,run_underlying hu,asIntOf,q6G hs,hk,Result.andThen,go_sem,q9,Nat.mul_comm]
theorem q1W {w : World} {base e size n : Nat} {v : Value} {xs : List Value} (h : w.ownsRow base e size v n xs) {p : Addr} (hp : p.block < base) (u : Value) : (w.setCell p u).ownsRow base e size v n xs := by
 refine ⟨h.1,?_⟩
 rcases h.2 with hn | ⟨g,cap,cur,h1,h2,h3,h4⟩
 ·exact Or.inl hn
 ·exact Or.inr ⟨g,cap,cur,h1,h2,(Below.heap_setCell w p u g (by omega)).trans h3,h4⟩
theorem qC {w w' : World} {base e size n : Nat} {v : Value} {xs : List Value} (h : w.ownsRow base e size v n xs) (hb : Below w.heap.size w w') : w'.ownsRow base e size v n xs := by
 refine ⟨h.1,?_⟩
 rcases h.2 with hn | ⟨g,cap,cur,h1,h2,h3,h4⟩
 ·exact Or.inl hn
 ·exact Or.inr ⟨g,cap,cur,h1,h2,(hb.block g (Array.getElem?_eq_some_iff.1 h3).1).trans h3,h4⟩
theorem qx {w : World} {base base' e size n : Nat} {v : Value} {xs : List Value} (h : w.ownsRow base e size v n xs) (hb : base' ≤ base) : w.ownsRow base' e size v n xs := by
 refine ⟨h.1,?_⟩
 rcases h.2 with hn | ⟨g,cap,cur,h1,h2,h3,h4⟩
 ·exact Or.inl hn
 ·exact Or.inr ⟨g,cap,cur,h1,Nat.le_trans hb h2,h3,h4⟩
theorem q8 {w0 w1 : World} {p : Addr} {v : Value} (h : w0.cell? p = some v) (hb : Below w0.heap.size w0 w1) : w1.cell? p = some v := (hb.cell (World.block_lt_of_cell? _ _ h)).trans h
theorem qJ {w0 w1 : World} {p : Addr} {v : Value} {row : Option Nat} (h : w0.cell? p = some v) (hb : w0.grownBy w1 row) (hne : some p.block ≠ row) : w1.cell? p = some v := (hb.cell_far p (World.block_lt_of_cell? _ _ h) hne).trans h
theorem q6 {W : World} {g : Nat} {arr : Array Value} {e : TypeId} (h : W.heap[g]? = some (.cells arr e (0,0))) (j : Nat) : W.cell? ⟨g,j,none⟩ = arr[j]? := by simp [World.cell?,h]
theorem q31 (x : Addr) (n : Nat) : (x.add n).block = x.block := by unfold Addr.add; split <;> rfl
theorem add_add (x : Addr) (m n : Nat) : (x.add m).add n = x.add (m + n) := by
 unfold Addr.add
 by_cases h : n = 0
 ·subst h; simp
 ·have h2 : ¬ (m + n = 0) := fun e => h (by omega)
  rw [if_neg h,if_neg h2]; split <;> simp_all [Nat.add_assoc]
theorem q3o {P : Program} {e : TypeId} (h : (P.info? e).map (·.size) = some 3) (w : World) : (sizeOf e).run P w = .ok 3 w := by
 cases hq : P.info? e with
 | none => simp [hq] at h
 | some i => simp [hq] at h; simp [sizeOf,typeInfo,hq,h]
def RowI (w : World) (e : TypeId) (g : Nat) (cur : List Int) : Prop := w.heap[g]? = some (.cells (cur.map (Value.int .i64)).toArray e (0,0))
theorem RowI.lt {w : World} {e : TypeId} {g : Nat} {cur : List Int} (h : RowI w e g cur) : g < w.heap.size := (Array.getElem?_eq_some_iff.1 h).1
theorem RowI.up {w w' : World} {e : TypeId} {g : Nat} {cur : List Int} (h : RowI w e g cur) (hb : Below w.heap.size w w') : RowI w' e g cur := (hb.block g h.lt).trans h
theorem RowI.cell {w : World} {e : TypeId} {g : Nat} {cur : List Int} (h : RowI w e g cur) {i : Nat} (hi : i < cur.length) : w.cell? ⟨g,i,none⟩ = some (.int .i64 (cur.getD i 0)) := by
 unfold RowI at h; simp [World.cell?,h,List.getD_eq_getElem?_getD,List.getElem?_eq_getElem hi]
theorem RowI.frozen {w : World} {e : TypeId} {g : Nat} {cur : List Int} (h : RowI w e g cur) (i : Nat) : w.frozen? ⟨g,i,none⟩ = false := frozen_of_row w g i _ e h
theorem RowI.set {w : World} {e : TypeId} {g : Nat} {cur : List Int} (h : RowI w e g cur) (i : Nat) (x : Int) : RowI (w.setCell ⟨g,i,none⟩ (.int .i64 x)) e g (cur.set i x) := by
 have := heap_setCell_same w g i _ e (.int .i64 x) h
 unfold RowI; rw [this]; simp [List.map_set]
theorem RowI.other {w : World} {e : TypeId} {g g' : Nat} {cur : List Int} (h : RowI w e g cur) (hne : g ≠ g') (i : Nat) (v : Value) : RowI (w.setCell ⟨g',i,none⟩ v) e g cur := (Below.heap_setCell _ _ _ _ hne).trans h
theorem madeI (n : Nat) : madeCells #[.int .i64 0] n = ((List.replicate n (0 : Int)).map (Value.int .i64)).toArray := by
 apply Array.ext_getElem?
 intro i
 by_cases h : i < n
 ·simp [madeCells,h,Nat.mod_one]
 ·simp [madeCells,h]
theorem q6c {xs : List Int} {n k : Nat} (hl : xs.length = n) (hk : k < n) : (xs.take k ++ List.replicate (n - k) 0).set k (xs.getD k 0) = xs.take (k + 1) ++ List.replicate (n - (k + 1)) 0 := by
 have h1 : (xs.take k).length = k := by simp; omega
 have h2 : n - k = (n - (k + 1)) + 1 := by omega
 have e : xs.getD k 0 = xs[k]'(by omega) := by simp [List.getD_eq_getElem?_getD,List.getElem?_eq_getElem (show k < xs.length by omega)]
 rw [List.set_append_right _ _ (by omega),h1,Nat.sub_self,h2,List.replicate_succ,List.set_cons_zero,List.take_add_one,List.getElem?_eq_getElem (by omega),e,List.append_assoc]
 rfl
theorem q1y : (Try.prog.info? 3).map (fun i => (i.zero,i.size,i.bytes)) = some (some (.int .i64 0),1,8) := by kernel_rfl
theorem q1O (l : Nat) (hb : l ≤ 1000000) (w : World) :
  (Instr.makeSlice 23 (.int .i64 (l : Int)) (.int .i64 (l : Int))).run Try.prog w = .ok (.slice (some ⟨w.heap.size,0,none⟩) l l) (w.alloc (.cells (madeCells #[.int .i64 0] l) 3)) := by
 obtain ⟨i,hi,hz0,hz1,hz2⟩ := info_parts q1y
 have := run_make (P := Try.prog) w 23 3 i (.int .i64 0) Try.underlying23 hi hz0 .i64 .i64 (l : Int) (l : Int) (by omega) (by omega) (by rw [hz2]; omega) (by omega)
 rw [this,hz1]
 simp only [Int.toNat_natCast,Nat.mul_one]
 rfl
theorem qf : (Try.prog.info? 3).map (·.size) = some 1 := by kernel_rfl
def encGd (ts : List Gd) : List Value := ts.flatMap fun t => [.int .i64 t.1,.int .i64 t.2.1,.int .i64 t.2.2]
theorem q3W (t : Gd) (ts : List Gd) : encGd (t :: ts) = .int .i64 t.1 :: .int .i64 t.2.1 :: .int .i64 t.2.2 :: encGd ts := rfl
theorem q1T (xs ys : List Gd) : encGd (xs ++ ys) = encGd xs ++ encGd ys := by simp [encGd]
theorem q1c : ∀ ts : List Gd,(encGd ts).length = ts.length * 3
 | [] => rfl
 | t :: ts => by rw [q3W]; simp [q1c ts]; omega
theorem qA : ∀ (ts : List Gd) (k : Nat) (h : k < ts.length),(encGd ts)[3 * k]? = some (.int .i64 ts[k].1) ∧ (encGd ts)[3 * k + 1]? = some (.int .i64 ts[k].2.1) ∧ (encGd ts)[3 * k + 2]? = some (.int .i64 ts[k].2.2)
 | [],k,h => absurd h (by simp)
 | t :: ts,0,_ => ⟨rfl,rfl,rfl⟩
 | t :: ts,k + 1,h => by
  have := qA ts k (by simpa using h)
  rw [q3W,show 3 * (k + 1) = 3 * k + 1 + 1 + 1 by omega,show 3 * k + 1 + 1 + 1 + 1 = (3 * k + 1) + 1 + 1 + 1 by omega,show 3 * k + 1 + 1 + 1 + 2 = (3 * k + 2) + 1 + 1 + 1 by omega]
  simpa using this
theorem q4M (ts : List Gd) : ∀ u ∈ encGd ts,u.oneCell' = true := by
 intro u hu
 unfold encGd at hu
 obtain ⟨c,_,hc⟩ := List.mem_flatMap.1 hu
 simp at hc
 rcases hc with rfl | rfl | rfl <;> rfl
def I64 (z : Int) : Prop := -9223372036854775808 ≤ z ∧ z < 9223372036854775808
def GdOk (t : Gd) : Prop := I64 t.1 ∧ I64 t.2.1 ∧ I64 t.2.2
structure NdSl (w : World) (a : Option Addr) (len cap : Nat) (ts : List Gd) : Prop where
 hlen : ts.length = len
 hcap : len ≤ cap
 bd : cap ≤ maxLen
 nn : a = none → cap = 0
 c0 : ∀ x,a = some x → ∀ k (h : k < ts.length),w.cell? (x.add (3 * k)) = some (.int .i64 ts[k].1)
 c1 : ∀ x,a = some x → ∀ k (h : k < ts.length),w.cell? (x.add (3 * k + 1)) = some (.int .i64 ts[k].2.1)
 c2 : ∀ x,a = some x → ∀ k (h : k < ts.length),w.cell? (x.add (3 * k + 2)) = some (.int .i64 ts[k].2.2)
 ok : ∀ t ∈ ts,GdOk t
theorem NdSl.some_of {w : World} {a : Option Addr} {len cap : Nat} {ts : List Gd} (h : NdSl w a len cap ts) (hl : 0 < len) : ∃ x,a = some x := by
 cases a with
 | none => have := h.nn rfl; have := h.hcap; omega
 | some x => exact ⟨x,rfl⟩
theorem NdSl.lt {w : World} {x : Addr} {len cap : Nat} {ts : List Gd} (h : NdSl w (some x) len cap ts) (hl : 0 < len) : x.block < w.heap.size := by
 have h0 := h.c0 x rfl 0 (by have := h.hlen; omega)
 have := World.block_lt_of_cell? _ _ h0
 rwa [q31] at this
theorem NdSl.keep {w w' : World} {a : Option Addr} {len cap : Nat} {ts : List Gd} (h : NdSl w a len cap ts) (hk : ∀ p v,w.cell? p = some v → (∀ x,a = some x → p.block = x.block) → w'.cell? p = some v) : NdSl w' a len cap ts := by
 have hb : ∀ x,a = some x → ∀ m,∀ y,a = some y → (x.add m).block = y.block := fun x hx m y hy => by rw [q31]; rw [hx] at hy; injection hy with hy; rw [hy]
 exact ⟨h.hlen,h.hcap,h.bd,h.nn,fun x hx k hk' => hk _ _ (h.c0 x hx k hk') (hb x hx _),fun x hx k hk' => hk _ _ (h.c1 x hx k hk') (hb x hx _),fun x hx k hk' => hk _ _ (h.c2 x hx k hk') (hb x hx _),h.ok⟩
theorem NdSl.up {w w' : World} {a : Option Addr} {len cap : Nat} {ts : List Gd} (h : NdSl w a len cap ts) (hb : Below w.heap.size w w') : NdSl w' a len cap ts :=
 h.keep fun _ _ hp _ => q8 hp hb
theorem NdSl.nil {w : World} : NdSl w none 0 0 [] :=
 ⟨rfl,Nat.le_refl _,Nat.zero_le _,fun _ => rfl,fun x hx => (by cases hx),fun x hx => (by cases hx),fun x hx => (by cases hx),fun t ht => (by simp at ht)⟩
theorem NdSl.at {w : World} {a : Option Addr} {len cap : Nat} {ts : List Gd} (h : NdSl w a len cap ts) {P : Program} {T e : TypeId} (hu : P.underlying T = some (.slice e)) (hs : (P.info? e).map (·.size) = some 3) (k : Nat) (hk : k < len) :
  ∃ g o s,(∀ (n : Nat) (w' : World),k < n → (Instr.indexAt T (.slice a n cap) (.int .i64 k)).run P w' = .ok (.pointer (some ⟨g,o,s⟩)) w') ∧ w.cell? ⟨g,o,s⟩ = some (.int .i64 (ts.getD k (0,0,0)).1) ∧ w.cell? ⟨g,o + 1,none⟩ = some (.int .i64 (ts.getD k (0,0,0)).2.1) ∧ w.cell? ⟨g,o + 2,none⟩ = some (.int .i64 (ts.getD k (0,0,0)).2.2) ∧ g < w.heap.size ∧ (∀ x,a = some x → x.block = g) ∧ GdOk (ts.getD k (0,0,0)) := by
 obtain ⟨x,rfl⟩ := h.some_of (by omega)
 have hkl : k < ts.length := by rw [h.hlen]; exact hk
 have e0 := h.c0 x rfl k hkl
 have e1 := h.c1 x rfl k hkl
 have e2 := h.c2 x rfl k hkl
 have eok := h.ok _ (List.getElem_mem hkl)
 have ex : ts[k] = ts.getD k (0,0,0) := by simp [List.getD_eq_getElem?_getD,List.getElem?_eq_getElem hkl]
 rw [ex] at e0 e1 e2 eok
 have hlt := h.lt (by omega)
 rw [← add_add] at e1 e2
 have hb := q31 x (3 * k)
 have hrun : ∀ (n : Nat) (w' : World),k < n → (Instr.indexAt T (.slice (some x) n cap) (.int .i64 k)).run P w' = .ok (.pointer (some (x.add (3 * k)))) w' := fun n w' hn => by
  simp [Instr.indexAt,run_underlying hu,asIntOf,q3o hs,hn,Result.andThen,go_sem,Nat.mul_comm]
 generalize x.add (3 * k) = y at *
 obtain ⟨g,o,s⟩ := y
 refine ⟨g,o,s,hrun,e0,?_,?_,?_,?_,eok⟩
 ·simpa [Addr.add] using e1
 ·simpa [Addr.add] using e2
 ·dsimp only at hb; omega
 ·intro z hz; injection hz with hz; rw [← hz]; exact hb.symm
theorem q8l {w : World} {base e n : Nat} {v : Value} {ts : List Gd} (h : w.ownsRow base e 3 v n (encGd ts)) (hok : ∀ t ∈ ts,GdOk t) :
  ∃ a cap,v = .slice a n cap ∧ NdSl w a n cap ts ∧ ∀ x,a = some x → base ≤ x.block ∧ v.ownBlock = some x.block := by
 obtain ⟨hl,h⟩ := h
 rw [q1c] at hl
 have hl' : ts.length = n := by omega
 rcases h with ⟨rfl,rfl⟩ | ⟨g,cap,cur,rfl,hg,hcell,hnc,hcm,hsz,htk⟩
 ·obtain rfl := List.eq_nil_of_length_eq_zero hl'
  exact ⟨none,0,rfl,NdSl.nil,fun x hx => by cases hx⟩
 ·have key : ∀ j,j < n * 3 → w.cell? ⟨g,j,none⟩ = (encGd ts)[j]? := fun j hj => by
   rw [← htk,List.getElem?_take,if_pos hj]
   simp [World.cell?,hcell]
  refine ⟨some ⟨g,0,none⟩,cap,rfl,⟨hl',hnc,hcm,fun hn => (by cases hn),fun x hx k hk => ?_,fun x hx k hk => ?_,fun x hx k hk => ?_,hok⟩,fun x hx => by injection hx with hx; subst hx; exact ⟨hg,rfl⟩⟩
  ·injection hx with hx; subst hx
   rw [q9,Nat.zero_add,key _ (by omega)]; exact (qA ts k hk).1
  ·injection hx with hx; subst hx
   rw [q9,Nat.zero_add,key _ (by omega)]; exact (qA ts k hk).2.1
  ·injection hx with hx; subst hx
   rw [q9,Nat.zero_add,key _ (by omega)]; exact (qA ts k hk).2.2
theorem qp : (Try.prog.info? 45).map (·.size) = some 3 := by kernel_rfl
theorem q2S : (Try.prog.info? 45).map (fun i => (i.zero,i.size,i.bytes)) = some (some (.agg #[.int .i64 0,.int .i64 0,.int .i64 0]),3,24) := by kernel_rfl
theorem NdSl.cells {w : World} {x : Addr} {len cap : Nat} {ts : List Gd} (h : NdSl w (some x) len cap ts) : ∀ j u,(encGd ts)[j]? = some u → w.cell? (x.add j) = some u := by
 intro j u hj
 have hjl := (List.getElem?_eq_some_iff.1 hj).1
 rw [q1c] at hjl
 obtain ⟨k,h0⟩ : ∃ k,j = 3 * k ∨ j = 3 * k + 1 ∨ j = 3 * k + 2 := ⟨j / 3,by omega⟩
 rcases h0 with rfl | rfl | rfl
 ·rw [(qA ts k (by omega)).1] at hj
  rw [← hj]; exact h.c0 x rfl k (by omega)
 ·rw [(qA ts k (by omega)).2.1] at hj
  rw [← hj]; exact h.c1 x rfl k (by omega)
 ·rw [(qA ts k (by omega)).2.2] at hj
  rw [← hj]; exact h.c2 x rfl k (by omega)
theorem q7z {w : World} {o : Oper} {a : Act} {K : Act → World → Prop} {Q : Exit → Act → World → Prop} (s x : Operand)
  (ho : o.op = .call { callee := .builtin .append,args := #[s,x],argTypes := #[24,24] }) (base : Nat)
  (v : Value) (xs ys : List Gd) (b : Option Addr) (len cap : Nat) (hs : a.eval s = v) (hx : a.eval x = .slice b len cap) (hown : w.ownsRow base 45 3 v xs.length (encGd xs)) (hT : NdSl w b len cap ys)
  (hn : xs.length ≤ 1000000) (hm : ys.length ≤ 1000000) (hbase : base ≤ w.heap.size)
  (h : ∀ v' w',w'.ownsRow base 45 3 v' (xs ++ ys).length (encGd (xs ++ ys)) → w.grownBy w' v.ownBlock → K (a.put o.dst v') w') : o.wp Try.prog a w K Q := by
 obtain ⟨i,hi,hz0,hz1,hz2⟩ := info_parts q2S
 have hl := hT.hlen
 cases b with
 | none =>
  have hc := hT.nn rfl
  have hcl := hT.hcap
  obtain rfl : len = 0 := by omega
  subst hc
  have hy := List.eq_nil_of_length_eq_zero hl
  subst hy
  have hrun := run_append_owned_none (P := Try.prog) w base 24 o.type 45 i 3 Try.underlying24 hi v xs.length (encGd xs) hown
  unfold Oper.wp execOp
  simp only [ho,resolve,invoke,builtin,Sem.run_bind,Sem.run_pure,Result.andThen_ok,List.map_toArray,List.map_cons,List.map_nil,hs,hx,hrun]
  exact h v w (by rw [List.append_nil]; exact hown) (World.grownBy.refl _ _)
 | some y =>
  refine wp_append_own w s x 24 ho base 45 i _ 3 24 Try.underlying24 hi hz0 hz1 hz2 rfl (by decide) v xs.length _ hs hown y len cap (encGd ys) hx (by rw [q1c,hl]) hT.cells (q4M ys) (by unfold maxLen; omega) (by omega) hbase ?_
  intro v' w' h1 h2 _
  exact h v' w' (by rw [q1T,List.length_append,hl]; exact h1) h2
theorem q49 {w : World} {ops : Array Oper} {rest : List Oper} {o : Oper} {a : Act} {Q : Exit → Act → World → Prop} (hgd : o.guard = none) (s x : Operand)
  (ho : o.op = .call { callee := .builtin .append,args := #[s,x],argTypes := #[24,24] }) (base : Nat)
  (v : Value) (xs ys : List Gd) (b : Option Addr) (len cap : Nat) (hs : a.eval s = v) (hx : a.eval x = .slice b len cap) (hown : w.ownsRow base 45 3 v xs.length (encGd xs)) (hT : NdSl w b len cap ys)
  (hn : xs.length ≤ 1000000) (hm : ys.length ≤ 1000000) (hbase : base ≤ w.heap.size)
  (h : ∀ v' w',w'.ownsRow base 45 3 v' (xs ++ ys).length (encGd (xs ++ ys)) → w.grownBy w' v.ownBlock → wpList Try.prog ops Q rest (a.put o.dst v') w') : wpList Try.prog ops Q (o :: rest) a w :=
 wpList_plain hgd fun _ hK => q7z s x ho base v xs ys b len cap hs hx hown hT hn hm hbase fun v' w' h1 h2 => hK _ _ (h v' w' h1 h2)
theorem q2C {cs : List Gd} {k : Nat} (h : k < cs.length) : cs.take (k + 1) = cs.take k ++ [cs.getD k (0,0,0)] := by
 rw [List.take_add_one,List.getElem?_eq_getElem h]; simp [List.getD_eq_getElem?_getD,List.getElem?_eq_getElem h]
theorem q7N {xs ys : List Gd} {k : Nat} (hx : k < xs.length) (hy : k < ys.length) (h : xs.take k = ys.take k) (he : xs.getD k (0,0,0) = ys.getD k (0,0,0)) : xs.take (k + 1) = ys.take (k + 1) := by
 rw [q2C hx,q2C hy,h,he]
theorem q4i : ∃ f0 f1 f2,(Try.prog.fieldsOf 45).toList = [f0,f1,f2] ∧ (f0.name = "P" ∧ f0.type = 3 ∧ f0.offset = 0) ∧ (f1.name = "Lo" ∧ f1.type = 3 ∧ f1.offset = 1) ∧ (f2.name = "Hi" ∧ f2.type = 3 ∧ f2.offset = 2) := by
 have hfl : (Try.prog.fieldsOf 45).toList.map (fun f => (f.name,f.type,f.offset)) = [("P",3,0),("Lo",3,1),("Hi",3,2)] := by kernel_rfl
 cases hl : (Try.prog.fieldsOf 45).toList with
 | nil => rw [hl] at hfl; simp at hfl
 | cons f0 r =>
  cases r with
  | nil => rw [hl] at hfl; simp at hfl
  | cons f1 r =>
   cases r with
   | nil => rw [hl] at hfl; simp at hfl
   | cons f2 r =>
    rw [hl] at hfl
    simp at hfl
    obtain ⟨h0,h1,h2,rfl⟩ := hfl
    exact ⟨f0,f1,f2,rfl,h0,h1,h2⟩
theorem q6q (x0 x1 x2 y0 y1 y2 : Int) (w : World) : (binOp .eql 45 (.agg #[.int .i64 x0,.int .i64 x1,.int .i64 x2]) (.agg #[.int .i64 y0,.int .i64 y1,.int .i64 y2])).run Try.prog w = .ok (.bool (decide (((x0,x1,x2) : Gd) = (y0,y1,y2)))) w := by
 have ht : Try.prog.underlying 45 = some (.struct (Try.prog.fieldsOf 45)) := by kernel_rfl
 have hp : Try.prog.stoodInHeld 45 = false := by kernel_rfl
 rw [run_eql_struct,run_equalIn_agg _ 9999 _ _ _ ht hp]
 obtain ⟨f0,f1,f2,hl,⟨a1,a2,a3⟩,⟨b1,b2,b3⟩,⟨c1,c2,c3⟩⟩ := q4i
 rw [hl]
 by_cases h0 : x0 = y0
 ·by_cases h1 : x1 = y1
  ·by_cases h2 : x2 = y2
   ·simp [Op.eqFields,a1,a2,a3,b1,b2,b3,c1,c2,c3,go_sem,h0,h1,h2,run_equalIn_int _ 9998 _ _ _ _ _ Try.underlying3]
   ·simp [Op.eqFields,a1,a2,a3,b1,b2,b3,c1,c2,c3,go_sem,h0,h1,h2,run_equalIn_int _ 9998 _ _ _ _ _ Try.underlying3]
  ·simp [Op.eqFields,a1,a2,a3,b1,b2,b3,go_sem,h0,h1,run_equalIn_int _ 9998 _ _ _ _ _ Try.underlying3]
 ·simp [Op.eqFields,a1,a2,a3,go_sem,h0,run_equalIn_int _ 9998 _ _ _ _ _ Try.underlying3]
theorem q6u (x0 x1 x2 y0 y1 y2 : Int) (w : World) : (binOp .neq 45 (.agg #[.int .i64 x0,.int .i64 x1,.int .i64 x2]) (.agg #[.int .i64 y0,.int .i64 y1,.int .i64 y2])).run Try.prog w = .ok (.bool (!decide (((x0,x1,x2) : Gd) = (y0,y1,y2)))) w := by
 have h := q6q x0 x1 x2 y0 y1 y2 w
 rw [run_eql_struct] at h
 rw [run_neq_struct]
 cases hr : (Op.equalIn 10000 45 (.agg #[.int .i64 x0,.int .i64 x1,.int .i64 x2]) (.agg #[.int .i64 y0,.int .i64 y1,.int .i64 y2])).run Try.prog w with
 | ok b w1 =>
  rw [hr] at h
  simp [Result.andThen] at h ⊢
  obtain ⟨rfl,rfl⟩ := h
  exact ⟨rfl,rfl⟩
 | halt x w1 => rw [hr] at h; simp [Result.andThen] at h
theorem q13 {P : Program} {T e : TypeId} {w : World} {base n : Nat} {v : Value} {zs : List Int} (h : w.ownsRow base e 1 v n (zs.map (Value.int .i64))) (hu : P.underlying T = some (.slice e)) (hs : (P.info? e).map (·.size) = some 1) :
  ∃ a cap,v = .slice a n cap ∧ IntSl P T .i64 w a n cap zs ∧ (∀ k,k < n → base ≤ (adOf a k).block) ∧ ∀ x,a = some x → x.block < w.heap.size := by
 obtain ⟨hl,h⟩ := h
 simp at hl
 rcases h with ⟨rfl,rfl⟩ | ⟨g,cap,cur,rfl,hg,hcell,hnc,hcm,hsz,htk⟩
 ·have : zs = [] := List.eq_nil_of_length_eq_zero hl
  subst this
  exact ⟨none,0,rfl,⟨rfl,Nat.le_refl _,Nat.zero_le _,fun m k w hk hm => absurd hk (by omega),fun k hk => absurd hk (by omega),fun k hk => absurd hk (by omega),fun _ => rfl⟩,fun k hk => absurd hk (by omega),fun x hx => by cases hx⟩
 ·have had : ∀ k,adOf (some ⟨g,0,none⟩) k = ⟨g,k,none⟩ := fun k => by simp [adOf,q9]
  have hlt := (Array.getElem?_eq_some_iff.1 hcell).1
  refine ⟨some ⟨g,0,none⟩,cap,rfl,⟨hl,hnc,hcm,fun m k w hk hm => qt hu hs (by simp) k w hk,fun k hk => ?_,fun k hk => by rw [had]; exact hlt,by simp⟩,fun k hk => by rw [had]; exact hg,fun x hx => by injection hx with hx; rw [← hx]; exact hlt⟩
  rw [had]
  have hk2 : (cur.toList.take (n * 1))[k]? = some (.int .i64 (zs.getD k 0)) := by
   rw [htk]; simp [List.getD_eq_getElem?_getD,List.getElem?_eq_getElem (show k < zs.length by omega)]
  rw [List.getElem?_take,if_pos (by omega)] at hk2
  simp [World.cell?,hcell]
  simpa using hk2
theorem qS {w : World} {ops : Array Oper} {rest : List Oper} {o : Oper} {a : Act} {Q : Exit → Act → World → Prop} (hgd : o.guard = none) (s x : Operand)
  (ho : o.op = .call { callee := .builtin .append,args := #[s,x],argTypes := #[23,23] }) (base : Nat)
  (v : Value) (n : Nat) (zs : List Int) (hs : a.eval s = v) (hown : w.ownsRow base 3 1 v n (zs.map (Value.int .i64))) (g' : Nat) (z : Int) (hx : a.eval x = .slice (some ⟨g',0,none⟩) 1 1) (hc : w.cell? ⟨g',0,none⟩ = some (.int .i64 z))
  (hn : n + 1 ≤ 2000000) (hbase : base ≤ w.heap.size)
  (h : ∀ v' w',w'.ownsRow base 3 1 v' (n + 1) ((zs ++ [z]).map (Value.int .i64)) → w.grownBy w' v.ownBlock → wpList Try.prog ops Q rest (a.put o.dst v') w') : wpList Try.prog ops Q (o :: rest) a w := by
 obtain ⟨i,hi,hz0,hz1,hz2⟩ := info_parts q1y
 refine wpList_append_own w hgd s x 23 ho base 3 i _ 1 8 Try.underlying23 hi hz0 hz1 hz2 rfl (by decide) v n _ hs hown ⟨g',0,none⟩ 1 1 [.int .i64 z] hx rfl ?_ (fun u hu => by simp at hu; subst hu; rfl) (by unfold maxLen; omega) (by omega) hbase ?_
 ·intro j u hj
  match j with
  | 0 => simp at hj; rw [← hj,q9]; exact hc
  | j + 1 => simp at hj
 ·intro v' w' h1 h2 _
  exact h v' w' (by rw [List.map_append]; exact h1) h2
theorem qe {w : World} {base e size n : Nat} {v : Value} {xs : List Value} (h : w.ownsRow base e size v n xs) : ∃ a c,v = .slice a n c := by
 rcases h.2 with ⟨rfl,rfl⟩ | ⟨g,cap,cur,rfl,_⟩
 ·exact ⟨none,0,rfl⟩
 ·exact ⟨_,cap,rfl⟩
def goV : Option Int → Value
 | some q => .tuple #[.int .i64 q,.bool true]
 | none => .tuple #[.int .i64 0,.bool false]
theorem qaa {N : List Gd} {x k : Nat} {r : Int} (h : 0 ≤ r) (hl : (N.length : Int) ≤ r) : goG N x k r = none := by
 have h0 : ¬ r < 0 := by omega
 cases k with
 | zero => simp [goG,h0]
 | succ k =>
  have : N[r.toNat]? = none := List.getElem?_eq_none (by omega)
  simp [goG,h0,this]
theorem q5X {N : List Gd} {x : Nat} {r : Int} (h : 0 ≤ r) : goG N x 0 r = none := by
 have h0 : ¬ r < 0 := by omega
 simp [goG,h0]
theorem qa9 {N : List Gd} {x k i : Nat} (h : ¬ (0 ≤ (N.getD i (0,0,0)).1 ∧ (N.getD i (0,0,0)).1 ≤ 7)) : goG N x k (i : Int) = none := by
 cases k with
 | zero => exact q5X (by omega)
 | succ k =>
  have h0 : ¬ (i : Int) < 0 := by omega
  rcases e : N[i]? with _ | ⟨P,lo,hi⟩
  ·simp [goG,h0,e]
  ·simp only [List.getD_eq_getElem?_getD,e,Option.getD_some] at h
   simp only [goG,h0,if_false,Int.toNat_natCast,e,if_neg h]
theorem q98 {N : List Gd} {x k i : Nat} {P lo hi : Int} (hl : i < N.length) (e : N.getD i (0,0,0) = (P,lo,hi)) (h0 : 0 ≤ P) (h7 : P ≤ 7) : goG N x (k + 1) (i : Int) = goG N x k (if x.testBit P.toNat then hi else lo) := by
 refine q1a (P := P) (lo := lo) (hi := hi) ?_ h0 h7
 rw [← e]
 simp [List.getD_eq_getElem?_getD,List.getElem?_eq_getElem hl]
abbrev ZSl (w : World) (a : Option Addr) (len cap : Nat) (l : List Int) : Prop := IntSl Try.prog 23 .i64 w a len cap l
theorem q8B {N : List Gd} {r : Int} {k : Nat} {l : List Int} {v : Int} (h : tabT N r k = some l) (hg : goG N k 8 r = some v) : tabT N r (k + 1) = some (l ++ [v]) := by
 simp [tabT,h,hg]
theorem q4C (n : Nat) (h : n ≤ 8) : wrap64 ((2 : Int) ^ n) = ((2 ^ n : Nat) : Int) := by
 have h1 : (2 : Nat) ^ n ≤ 2 ^ 8 := Nat.pow_le_pow_right (by decide) h
 rw [show (2 : Int) ^ n = ((2 ^ n : Nat) : Int) by simp]
 unfold wrap64
 generalize (2 : Nat) ^ n = q at *
 omega
structure Zc where
 a : Option Addr
 len : Nat
 cap : Nat
 zs : List Int
structure ZzSl (w : World) (a : Option Addr) (len cap : Nat) (rs : List Zc) : Prop where
 hlen : rs.length = len
 hcap : len ≤ cap
 bd : cap ≤ maxLen
 nn : a = none → cap = 0
 c : ∀ x,a = some x → ∀ k (h : k < rs.length),w.cell? (x.add k) = some (.slice rs[k].a rs[k].len rs[k].cap)
 t : ∀ r ∈ rs,ZSl w r.a r.len r.cap r.zs ∧ ∀ z ∈ r.zs,I64 z
theorem ZzSl.up {w w' : World} {a : Option Addr} {len cap : Nat} {rs : List Zc} (h : ZzSl w a len cap rs) (hb : Below w.heap.size w w') : ZzSl w' a len cap rs :=
 ⟨h.hlen,h.hcap,h.bd,h.nn,fun x hx k hk => q8 (h.c x hx k hk) hb,fun r hr => ⟨(h.t r hr).1.up hb,(h.t r hr).2⟩⟩
theorem q5q : (Try.prog.info? 23).map (·.size) = some 1 := by kernel_rfl
theorem ZzSl.at {w : World} {a : Option Addr} {len cap : Nat} {rs : List Zc} (h : ZzSl w a len cap rs) (k : Nat) (hk : k < len) :
  ∃ g o s,∃ r : Zc,rs[k]? = some r ∧ (∀ w',(Instr.indexAt 65 (.slice a len cap) (.int .i64 (k : Int))).run Try.prog w' = .ok (.pointer (some ⟨g,o,s⟩)) w') ∧ w.cell? ⟨g,o,s⟩ = some (.slice r.a r.len r.cap) ∧ ZSl w r.a r.len r.cap r.zs ∧ ∀ z ∈ r.zs,I64 z := by
 have hkl : k < rs.length := by rw [h.hlen]; exact hk
 cases a with
 | none => have := h.nn rfl; have := h.hcap; omega
 | some x =>
  have e0 := h.c x rfl k hkl
  have ht := h.t _ (List.getElem_mem hkl)
  have hi := fun w' => qt (P := Try.prog) (T := 65) Try.underlying65 q5q (a := some x) (cap := cap) (n := len) (fun e => by cases e) k w' hk
  simp only [adOf] at hi
  generalize x.add k = y at *
  obtain ⟨g,o,s⟩ := y
  exact ⟨g,o,s,rs[k],List.getElem?_eq_getElem hkl,hi,e0,ht.1,ht.2⟩
def fitB (m : Nat) (N : List Gd) (a : Nat) (p r : Int) : Bool := if r < 0 then decide (-(m : Int) ≤ r) else decide (r < (a : Int)) && decide (p < (N.getD r.toNat (0,0,0)).1)
theorem q93 {m : Nat} {N : List Gd} {a : Nat} {p r : Int} (ha : a ≤ N.length) : fitB m N a p r = true ↔ FitG m N a p r := by
 unfold fitB FitG
 by_cases h : r < 0
 ·simp only [h,if_true,decide_eq_true_eq,true_and]
  constructor
  ·exact fun h1 => .inl h1
  ·rintro (h1 | ⟨i,e,_⟩)
   ·exact h1
   ·omega
 ·simp only [h,if_false,Bool.and_eq_true,decide_eq_true_eq,false_and,false_or]
  constructor
  ·rintro ⟨h1,h2⟩
   have hl : r.toNat < N.length := by omega
   refine ⟨r.toNat,by omega,by omega,N[r.toNat],List.getElem?_eq_getElem hl,?_⟩
   simpa [List.getD_eq_getElem?_getD,List.getElem?_eq_getElem hl] using h2
  ·rintro ⟨i,rfl,h1,nd,h2,h3⟩
   refine ⟨by omega,?_⟩
   simpa [List.getD_eq_getElem?_getD,h2] using h3
structure AuB (w : World) (g : Nat) (p : Int) (aA : Option Addr) (nA cA : Nat) (aG : Option Addr) (nG cG : Nat) (aN : Option Addr) (nN cN : Nat) : Prop where
 c0 : w.cell? ⟨g,0,none⟩ = some (.int .i64 p)
 c1 : w.cell? ⟨g,1,none⟩ = some (.slice aA nA cA)
 c2 : w.cell? ⟨g,2,none⟩ = some (.slice aG nG cG)
 c3 : w.cell? ⟨g,3,none⟩ = some (.slice aN nN cN)
theorem AuB.up {w w' : World} {g : Nat} {p : Int} {aA : Option Addr} {nA cA : Nat} {aG : Option Addr} {nG cG : Nat} {aN : Option Addr} {nN cN : Nat} (h : AuB w g p aA nA cA aG nG cG aN nN cN) (hb : Below w.heap.size w w') : AuB w' g p aA nA cA aG nG cG aN nN cN := ⟨q8 h.c0 hb,q8 h.c1 hb,q8 h.c2 hb,q8 h.c3 hb⟩
theorem qj (w : World) (p : Int) (aA : Option Addr) (nA cA : Nat) (aG : Option Addr) (nG cG : Nat) (aN : Option Addr) (nN cN : Nat) : AuB (w.alloc (.cells #[.int .i64 p,.slice aA nA cA,.slice aG nG cG,.slice aN nN cN] 26 (0,0))) w.heap.size p aA nA cA aG nG cG aN nN cN := by
 have h := (MapKept.heap_alloc w (.cells #[.int .i64 p,.slice aA nA cA,.slice aG nG cG,.slice aN nN cN] 26 (0,0))).1
 exact ⟨q6 h 0,q6 h 1,q6 h 2,q6 h 3⟩
structure BoSl (w : World) (a : Option Addr) (len cap : Nat) (bs : List Bool) : Prop where
 hlen : bs.length = len
 hcap : len ≤ cap
 bd : cap ≤ maxLen
 nn : a = none → cap = 0
 c : ∀ x,a = some x → ∀ k (h : k < bs.length),w.cell? (x.add k) = some (.bool bs[k])
theorem BoSl.some_of {w : World} {a : Option Addr} {len cap : Nat} {bs : List Bool} (h : BoSl w a len cap bs) (hl : 0 < len) : ∃ x,a = some x := by
 cases a with
 | none => have := h.nn rfl; have := h.hcap; omega
 | some x => exact ⟨x,rfl⟩
theorem BoSl.up {w w' : World} {a : Option Addr} {len cap : Nat} {bs : List Bool} (h : BoSl w a len cap bs) (hb : Below w.heap.size w w') : BoSl w' a len cap bs :=
 ⟨h.hlen,h.hcap,h.bd,h.nn,fun x hx k hk => q8 (h.c x hx k hk) hb⟩
theorem BoSl.nil {w : World} : BoSl w none 0 0 [] := ⟨rfl,Nat.le_refl _,Nat.zero_le _,fun _ => rfl,fun x hx => (by cases hx)⟩
theorem q1n : (Try.prog.info? 4).map (·.size) = some 1 := by kernel_rfl
theorem BoSl.at {w : World} {a : Option Addr} {len cap : Nat} {bs : List Bool} (h : BoSl w a len cap bs) (k : Nat) (hk : k < len) :
  (∀ (n : Nat) (w' : World),k < n → (Instr.indexAt 22 (.slice a n cap) (.int .i64 k)).run Try.prog w' = .ok (.pointer (some (adOf a k))) w') ∧ w.cell? (adOf a k) = some (.bool (bs[k]'(by rw [h.hlen]; exact hk))) := by
 obtain ⟨x,rfl⟩ := h.some_of (by omega)
 refine ⟨fun n w' hn => qt Try.underlying22 q1n (by simp) k w' hn,h.c x rfl k (by rw [h.hlen]; exact hk)⟩
theorem qaW {w : World} {base e n : Nat} {v : Value} {bs : List Bool} (h : w.ownsRow base e 1 v n (bs.map Value.bool)) : ∃ a cap,v = .slice a n cap ∧ BoSl w a n cap bs := by
 obtain ⟨hl,h⟩ := h
 simp at hl
 rcases h with ⟨rfl,rfl⟩ | ⟨g,cap,cur,rfl,hg,hcell,hnc,hcm,hsz,htk⟩
 ·obtain rfl := List.eq_nil_of_length_eq_zero hl
  exact ⟨none,0,rfl,BoSl.nil⟩
 ·refine ⟨some ⟨g,0,none⟩,cap,rfl,hl,hnc,hcm,fun h => (by cases h),fun x hx k hk => ?_⟩
  injection hx with hx; subst hx
  have e1 : (cur.toList.take (n * 1))[k]? = some (.bool bs[k]) := by rw [htk]; simp [hk]
  rw [List.getElem?_take,if_pos (by omega)] at e1
  rw [q9,Nat.zero_add]
  simp [World.cell?,hcell]
  simpa using e1
def ndV (x : Gd) : Value := .agg #[.int .i64 x.1,.int .i64 x.2.1,.int .i64 x.2.2]
def klG (x : Gd) : Lit := .string (keyBytes [.int .i64 x.1,.int .i64 x.2.1,.int .i64 x.2.2])
theorem q1N : laidOutB Try.prog = true := by kernel_rfl
theorem q3N : Try.prog.keyType 45 = true := by kernel_rfl
theorem q2g : Keyed Try.prog 45 := Keyed.of_law (deep_law_laid q1N (m := 3) (by omega) (of_decide_eq_true (by kernel_rfl)) (by kernel_rfl) (by kernel_rfl))
theorem q1r : ∃ n,Try.prog.types.size + 1 = n + 2 := ⟨Try.prog.types.size - 1,by have : 0 < Try.prog.types.size := of_decide_eq_true (by kernel_rfl); omega⟩
theorem q5g : Try.prog.cellsOf 45 = 3 := by kernel_rfl
theorem q2I : Try.prog.cellsOf 3 = 1 := by kernel_rfl
theorem q1A (x : Gd) (h : GdOk x) : keyOf Try.prog 45 (ndV x) = some (klG x) := by
 obtain ⟨⟨h1,h2⟩,⟨h3,h4⟩,⟨h5,h6⟩⟩ := h
 obtain ⟨n,hn⟩ := q1r
 have w1 : (Lit.int .i64 x.1).wf = true := WalkArith.wf_i64 (by omega)
 have w2 : (Lit.int .i64 x.2.1).wf = true := WalkArith.wf_i64 (by omega)
 have w3 : (Lit.int .i64 x.2.2).wf = true := WalkArith.wf_i64 (by omega)
 unfold keyOf ndV klG
 rw [Try.underlying45,hn]
 simp [q3N,Value.formed,Try.underlying45,q5g,Value.cells,Program.keyLits,q2I,Try.underlying3,w1,w2,w3]
theorem qan {x y : Gd} (h : ndV x = ndV y) : x = y := by
 unfold ndV at h
 obtain ⟨a,b,c⟩ := x
 obtain ⟨a',b',c'⟩ := y
 simp at h
 obtain ⟨h1,h2,h3⟩ := h
 rw [h1,h2,h3]
theorem q3k {x y : Gd} (hx : GdOk x) (hy : GdOk y) (h : klG x = klG y) : x = y :=
 qan (q2g.inj (q1A x hx) (by rw [h]; exact q1A y hy))
theorem q4v (x : Gd) : WideAt.IsKeyLit (klG x) := trivial
def NumG (w : World) (b n : Nat) (f : Gd → Option Nat) : Prop :=
 ∃ D : DataW Unit,w.ownsMap Try.prog 45 (plainElem Try.prog 3) b n D ∧ Tidy D ∧ Maps.size D = n ∧ ∀ x,GdOk x → has D (klG x) = (f x).isSome ∧ ∀ j,f x = some j → D.atKey (klG x) (.lit (.int .i64 0)) = .lit (.int .i64 (j : Int))
theorem NumG.lt {w : World} {b n : Nat} {f : Gd → Option Nat} (h : NumG w b n f) : b < w.heap.size := by
 obtain ⟨D,h,_⟩ := h; exact h.lt
theorem NumG.far {w w' : World} {b n : Nat} {f : Gd → Option Nat} (h : NumG w b n f) (hb : w'.heap[b]? = w.heap[b]?) : NumG w' b n f := by
 obtain ⟨D,⟨es,clock,h1,h2⟩,r⟩ := h
 exact ⟨D,⟨es,clock,hb.trans h1,h2⟩,r⟩
theorem NumG.isMap {w : World} {b n : Nat} {f : Gd → Option Nat} (h : NumG w b n f) : ∃ es c,w.heap[b]? = some (.map es c) := by
 obtain ⟨D,⟨es,clock,h1,h2⟩,r⟩ := h
 exact ⟨es,clock,h1⟩
theorem NumG.alike {w : World} {b n : Nat} {f g : Gd → Option Nat} (h : NumG w b n f) (hg : ∀ x,GdOk x → f x = g x) : NumG w b n g := by
 obtain ⟨D,h1,h2,h3,h4⟩ := h
 exact ⟨D,h1,h2,h3,fun x hx => by rw [← hg x hx]; exact h4 x hx⟩
theorem q52 (w : World) : NumG (w.alloc (.map #[] 0)) w.heap.size 0 (fun _ => none) :=
 ⟨.map [],World.ownsMap_made _ _ _ _,tidy_empty,rfl,fun x _ => ⟨rfl,fun j hj => by cases hj⟩⟩
theorem q1Q (w : World) : (zeroValue 3).run Try.prog w = .ok (.int .i64 0) w := by kernel_rfl
theorem NumG.look {w : World} {b n : Nat} {f : Gd → Option Nat} (h : NumG w b n f) {x : Gd} (hx : GdOk x) :
  (Instr.lookup 105 (.map (some b)) (ndV x) true).run Try.prog w = .ok (.tuple #[.int .i64 (((f x).getD 0 : Nat) : Int),.bool (f x).isSome]) w := by
 obtain ⟨D,h1,h2,h3,h4⟩ := h
 obtain ⟨hh,ha⟩ := h4 x hx
 obtain ⟨v,ps,hrun,hv⟩ := h1.look_ok q2g Try.underlying105 (q1Q w) (plainElem_int Try.underlying3 (by decide)) (q1A x hx)
 obtain ⟨c,rfl,hc,hwc⟩ := plainElem_int_inv Try.underlying3 hv
 have hc' := congrArg Prod.fst hc
 rw [hrun,hh]
 cases hf : f x with
 | none =>
  rw [hf] at hh
  rw [atKey_of_not_has hh] at hc'
  injection hc' with hc'
  injection hc' with _ hc'
  subst hc'
  rfl
 | some j =>
  rw [ha j hf] at hc'
  injection hc' with hc'
  injection hc' with _ hc'
  subst hc'
  rfl
theorem NumG.put {w : World} {b n : Nat} {f : Gd → Option Nat} (h : NumG w b n f) (hn : n ≤ 100000000) {x : Gd} (hx : GdOk x) (hf : f x = none) (j : Nat) (hj : j ≤ 100000000) :
  ∃ w',(Instr.mapUpdate 105 (.map (some b)) (ndV x) (.int .i64 (j : Int))).run Try.prog w = .ok () w' ∧ NumG w' b (n + 1) (fun y => if y = x then some j else f y) ∧ w.grownBy w' (some b) := by
 obtain ⟨D,h1,h2,h3,h4⟩ := h
 obtain ⟨hh,_⟩ := h4 x hx
 rw [hf] at hh
 obtain ⟨w',hrun,hown,hg⟩ := h1.update q2g Try.underlying105 (by unfold maxLen; omega) (q1A x hx) (plainElem_int (a := (j : Int)) Try.underlying3 (WalkArith.wf_i64 (by omega)))
 refine ⟨w',hrun,⟨_,hown,h2.put (q4v x) _,?_,fun y hy => ?_⟩,hg⟩
 ·rw [size_put h2,hh,h3]; rfl
 ·dsimp only
  by_cases e : y = x
  ·subst e
   rw [if_pos rfl]
   refine ⟨has_put_same h2.isMap (q4v y) _,fun i hi => ?_⟩
   injection hi with hi
   subst hi
   exact atKey_put_same h2.isMap (q4v y) _ _
  ·have ne : klG y ≠ klG x := fun he => e (q3k hy hx he)
   rw [if_neg e,has_put_other ne]
   refine ⟨(h4 y hy).1,fun i hi => ?_⟩
   rw [atKey_put_other ne]
   exact (h4 y hy).2 i hi
theorem NumG.drop {w : World} {b n : Nat} {f : Gd → Option Nat} (h : NumG w b n f) {x : Gd} (hx : GdOk x) (hf : (f x).isSome = true) (ty : TypeId) :
  ∃ w',(Builtin.delete_ #[105,45] ty #[.map (some b),ndV x]).run Try.prog w = .ok (.tuple #[]) w' ∧ NumG w' b (n - 1) (fun y => if y = x then none else f y) ∧ w.grownBy w' (some b) := by
 obtain ⟨D,h1,h2,h3,h4⟩ := h
 obtain ⟨hh,_⟩ := h4 x hx
 rw [hf] at hh
 obtain ⟨w',hrun,hown,ht⟩ := h1.drop q2g Try.underlying105 (q1A x hx) ty
 have hsz : Maps.size (D.del (klG x)) = n - 1 := by
  have := size_del (k := klG x) h2
  rw [hh] at this
  simp at this
  omega
 have hown' : w'.ownsMap Try.prog 45 (plainElem Try.prog 3) b (n - 1) (D.del (klG x)) := by
  obtain ⟨es,clock,g1,g2,g3,g4⟩ := hown
  refine ⟨es,clock,g1,g2,?_,g4⟩
  rw [← hsz,g4]
  simp [Maps.size,length_sorted]
 refine ⟨w',hrun,⟨_,hown',h2.del _,hsz,fun y hy => ?_⟩,ht.grown⟩
 dsimp only
 by_cases e : y = x
 ·subst e
  rw [if_pos rfl]
  exact ⟨has_del_same,fun i hi => by cases hi⟩
 ·have ne : klG y ≠ klG x := fun he => e (q3k hy hx he)
  rw [if_neg e,has_del_other ne]
  refine ⟨(h4 y hy).1,fun i hi => ?_⟩
  rw [atKey_del_other ne]
  exact (h4 y hy).2 i hi
def posG (N : List Gd) (x : Gd) : Option Nat := if x ∈ N then some (N.idxOf x) else none
theorem qR {N : List Gd} {x : Gd} (h : x ∈ N) : posG N x = some (N.idxOf x) := if_pos h
theorem qM {N : List Gd} {x : Gd} (h : x ∉ N) : posG N x = none := if_neg h
theorem q57 {N : List Gd} {x : Gd} (hx : x ∉ N) (y : Gd) : (if y = x then some N.length else posG N y) = posG (N ++ [x]) y := by
 by_cases e : y = x
 ·subst e
  rw [if_pos rfl,qR (by simp),q6W hx]
 ·rw [if_neg e]
  by_cases hm : y ∈ N
  ·rw [qR hm,qR (by simp [hm]),q6X (List.prefix_append _ _) hm]
  ·rw [qM hm,qM (by simp [hm,e])]
def outG (N : List Gd) (n i : Nat) (y : Gd) : Option Nat := (posG N y).bind fun j => if n ≤ j ∧ j < n + i then none else some j
theorem q8k (N : List Gd) (n : Nat) (y : Gd) : posG N y = outG N n 0 y := by
 unfold outG
 cases posG N y with
 | none => rfl
 | some j => simp only [Option.bind_some]; rw [if_neg (by omega)]
theorem q39 {N : List Gd} (hn : N.Nodup) {i : Nat} {x : Gd} (h : N[i]? = some x) : x ∈ N ∧ N.idxOf x = i := by
 obtain ⟨hi,e⟩ := List.getElem?_eq_some_iff.1 h
 have hm := e ▸ List.getElem_mem hi
 refine ⟨hm,?_⟩
 have hl := List.idxOf_lt_length_of_mem hm
 have h1 : N[N.idxOf x] = N[i] := by rw [e]; simp
 exact (List.getElem_inj hn).1 h1
theorem q8j {N : List Gd} (hn : N.Nodup) {n i : Nat} {x : Gd} (h : N[n + i]? = some x) (y : Gd) : (if y = x then none else outG N n i y) = outG N n (i + 1) y := by
 obtain ⟨hm,hx⟩ := q39 hn h
 unfold outG
 by_cases e : y = x
 ·subst e
  rw [if_pos rfl,qR hm,hx]
  simp only [Option.bind_some]
  rw [if_pos (by omega)]
 ·rw [if_neg e]
  by_cases hy : y ∈ N
  ·rw [qR hy]
   have hne : N.idxOf y ≠ n + i := fun he => e (by
    have := q4u hy
    rw [he,h] at this
    injection this with this
    exact this.symm)
   simp only [Option.bind_some]
   by_cases c : n ≤ N.idxOf y ∧ N.idxOf y < n + i
   ·rw [if_pos c,if_pos (by omega)]
   ·rw [if_neg c,if_neg (by omega)]
  ·rw [qM hy]; rfl
theorem q7I {N : List Gd} (hn : N.Nodup) {n i : Nat} {x : Gd} (h : N[n + i]? = some x) : (outG N n i x).isSome = true := by
 obtain ⟨hm,hx⟩ := q39 hn h
 unfold outG
 rw [qR hm,hx]
 simp only [Option.bind_some]
 rw [if_neg (by omega)]
 rfl
theorem q9o {N : List Gd} (hn : N.Nodup) {n : Nat} (h : n ≤ N.length) (y : Gd) : outG N n (N.length - n) y = posG (N.take n) y := by
 unfold outG
 by_cases hy : y ∈ N
 ·rw [qR hy]
  have hl := List.idxOf_lt_length_of_mem hy
  simp only [Option.bind_some]
  by_cases c : N.idxOf y < n
  ·rw [if_neg (by omega)]
   have hg : (N.take n)[N.idxOf y]? = some y := by rw [List.getElem?_take,if_pos c]; exact q4u hy
   obtain ⟨h1,h2⟩ := q39 (hn.sublist (List.take_sublist n N)) hg
   rw [qR h1,h2]
  ·rw [if_pos (by omega)]
   refine (qM fun hm => ?_).symm
   obtain ⟨i,hi⟩ := List.mem_iff_getElem?.1 hm
   rw [List.getElem?_take] at hi
   by_cases ci : i < n
   ·rw [if_pos ci] at hi
    have := (q39 hn hi).2
    omega
   ·rw [if_neg ci] at hi; cases hi
 ·rw [qM hy,qM (fun hm => hy (List.mem_of_mem_take hm))]; rfl
structure Fr (w w' : World) (F F' : Nat → Prop) : Prop where
 os : w'.os = w.os
 tape : w'.tape = w.tape
 output : w'.output = w.output
 size : w.heap.size ≤ w'.heap.size
 keep : ∀ k,k < w.heap.size → ¬ F k → w'.heap[k]? = w.heap[k]?
 foot : ∀ k,F' k → F k ∨ w.heap.size ≤ k
theorem Fr.below {w w' : World} {F F' : Nat → Prop} {B : Nat} (h : Fr w w' F F') (hF : ∀ k,F k → B ≤ k) (hB : B ≤ w.heap.size) : Below B w w' :=
 ⟨h.os,h.tape,h.output,h.size,fun k hk => h.keep k (by omega) (fun hf => by have := hF k hf; omega)⟩
theorem Fr.ge {w w' : World} {F F' : Nat → Prop} {B : Nat} (h : Fr w w' F F') (hF : ∀ k,F k → B ≤ k) (hB : B ≤ w.heap.size) : ∀ k,F' k → B ≤ k := fun k hk => by
 rcases h.foot k hk with h1 | h1
 ·exact hF k h1
 ·omega
theorem Fr.out {w w' : World} {F F' : Nat → Prop} (h : Fr w w' F F') {k : Nat} (hk : ¬ F k) (hl : k < w.heap.size) : ¬ F' k := fun hf => by
 rcases h.foot k hf with h1 | h1
 ·exact hk h1
 ·omega
theorem Fr.own {w w' : World} {F F' : Nat → Prop} (h : Fr w w' F F') {base e size n : Nat} {v : Value} {xs : List Value} (ho : w.ownsRow base e size v n xs) (hf : ∀ k,v.ownBlock = some k → ¬ F k) : w'.ownsRow base e size v n xs := by
 obtain ⟨hl,ho⟩ := ho
 refine ⟨hl,ho.imp id ?_⟩
 rintro ⟨g,cap,cur,rfl,hg,hcell,r⟩
 exact ⟨g,cap,cur,rfl,hg,(h.keep g (Array.getElem?_eq_some_iff.1 hcell).1 (hf g rfl)).trans hcell,r⟩
theorem Fr.trans {w w1 w2 : World} {F F1 F2 : Nat → Prop} (h : Fr w w1 F F1) (k : Fr w1 w2 F1 F2) : Fr w w2 F F2 := by
 refine ⟨k.os.trans h.os,k.tape.trans h.tape,k.output.trans h.output,Nat.le_trans h.size k.size,fun j hj hF => ?_,fun j hj => ?_⟩
 ·exact (k.keep j (Nat.lt_of_lt_of_le hj h.size) (h.out hF hj)).trans (h.keep j hj hF)
 ·rcases k.foot j hj with h1 | h1
  ·exact h.foot j h1
  ·exact Or.inr (Nat.le_trans h.size h1)
theorem Fr.ofBelow {w w' : World} {F : Nat → Prop} (h : Below w.heap.size w w') : Fr w w' F F := ⟨h.os,h.tape,h.output,h.size,fun k hk _ => h.block k hk,fun _ hk => Or.inl hk⟩
theorem Fr.cell {w w' : World} {F F' : Nat → Prop} (h : Fr w w' F F') {p : Addr} {v : Value} (hc : w.cell? p = some v) (hf : ¬ F p.block) : w'.cell? p = some v := by
 have := h.keep p.block (World.block_lt_of_cell? _ _ hc) hf
 unfold World.cell? at hc ⊢
 rw [this]; exact hc
theorem Fr.intSl {w w' : World} {F F' : Nat → Prop} (h : Fr w w' F F') {P : Program} {T : TypeId} {q : IntKind} {a : Option Addr} {len cap : Nat} {zs : List Int} (hS : IntSl P T q w a len cap zs) (hf : ∀ k,k < len → ¬ F (adOf a k).block) : IntSl P T q w' a len cap zs :=
 ⟨hS.hlen,hS.hcap,hS.bd,hS.idx,fun k hk => h.cell (hS.cell k hk) (hf k hk),fun k hk => Nat.lt_of_lt_of_le (hS.blk k hk) h.size,hS.nn⟩
def ChkR (p : Int) (ns : Nat) (N : List Gd) (gs : List Int) (w : World) (e : Ending) (w' : World) : Prop := Below w.heap.size w w' ∧ ∃ v,e = .returned (.int .i64 v) ∧ ((v = 0 ∧ MayG p ns N gs) ∨ (v = 12 ∧ ¬ MayG p ns N gs))
def NdMay (p : Int) (ns : Nat) (N : List Gd) (k : Nat) : Prop := 0 ≤ (N.getD k (0,0,0)).1 ∧ (N.getD k (0,0,0)).1 < p ∧ (N.getD k (0,0,0)).2.1 ≠ (N.getD k (0,0,0)).2.2 ∧ FitG ns N k (N.getD k (0,0,0)).1 (N.getD k (0,0,0)).2.1 ∧ FitG ns N k (N.getD k (0,0,0)).1 (N.getD k (0,0,0)).2.2
theorem MayG.nd {p : Int} {ns : Nat} {N : List Gd} {gs : List Int} (h : MayG p ns N gs) {k : Nat} (hk : k < N.length) : NdMay p ns N k := by
 have e : N[k]? = some (N.getD k (0,0,0)) := by simp [List.getD_eq_getElem?_getD,List.getElem?_eq_getElem hk]
 unfold NdMay
 generalize N.getD k (0,0,0) = nd at *
 obtain ⟨P,lo,hi⟩ := nd
 exact h.node k P lo hi e
theorem qaO {p : Int} {ns : Nat} {N : List Gd} {gs : List Int} (h0 : 0 ≤ p) (h8 : p ≤ 8) (s1 : 1 ≤ ns) (s2 : ns ≤ 256) (hl : gs.length = ns) (hf : N.length ≤ 4096) (hn : ∀ k,k < N.length → NdMay p ns N k) (ho : N.Nodup) (hg : ∀ k,k < gs.length → FitG ns N N.length (-1) (gs.getD k 0)) : MayG p ns N gs := by
 refine ⟨h0,h8,s1,s2,hl,hf,fun i P lo hi e => ?_,ho,fun g hm => ?_⟩
 ·have hi1 := (List.getElem?_eq_some_iff.1 e).1
  have := hn i hi1
  unfold NdMay at this
  simpa [List.getD_eq_getElem?_getD,e] using this
 ·obtain ⟨i,hi,rfl⟩ := List.getElem_of_mem hm
  simpa [List.getD_eq_getElem?_getD,List.getElem?_eq_getElem hi] using hg i hi
theorem q8f {N : List Gd} {j k : Nat} (hj : j < k) (hk : k < N.length) (he : N.getD j (0,0,0) = N.getD k (0,0,0)) : ¬ N.Nodup := by
 intro h
 have ej : N[j]? = some N[j] := List.getElem?_eq_getElem (by omega)
 have ek : N[k]? = some N[k] := List.getElem?_eq_getElem hk
 simp only [List.getD_eq_getElem?_getD,ej,ek,Option.getD_some] at he
 exact List.pairwise_iff_getElem.1 h j k (by omega) hk hj he
structure NdB (w : World) (g : Nat) (P lo hi : Int) : Prop where
 c0 : w.cell? ⟨g,0,none⟩ = some (.int .i64 P)
 c1 : w.cell? ⟨g,1,none⟩ = some (.int .i64 lo)
 c2 : w.cell? ⟨g,2,none⟩ = some (.int .i64 hi)
theorem qao (w : World) (P lo hi : Int) : NdB (w.alloc (.cells #[.int .i64 P,.int .i64 lo,.int .i64 hi] 45 (0,0))) w.heap.size P lo hi := by
 have h := (MapKept.heap_alloc w (.cells #[.int .i64 P,.int .i64 lo,.int .i64 hi] 45 (0,0))).1
 exact ⟨q6 h 0,q6 h 1,q6 h 2⟩
theorem q6D {w w' : World} (h : ∃ n,w' = w.drewN n) : Below w.heap.size w w' := by obtain ⟨n,rfl⟩ := h; exact below_drewN (Below.refl _ _) n
theorem RowI.zsl {P : Program} {T e : TypeId} {w : World} {g n : Nat} {cur : List Int} (h : RowI w e g cur) (hu : P.underlying T = some (.slice e)) (hs : (P.info? e).map (·.size) = some 1) (hn : n ≤ cur.length) (hm : cur.length ≤ maxLen) :
  IntSl P T .i64 w (some ⟨g,0,none⟩) n cur.length (cur.take n) := by
 have had : ∀ k,adOf (some ⟨g,0,none⟩) k = ⟨g,k,none⟩ := fun k => by simp [adOf,q9]
 refine ⟨by simp; omega,hn,hm,fun m k w hk hm => qt hu hs (by simp) k w hk,fun k hk => ?_,fun k hk => ?_,by simp⟩
 ·rw [had,h.cell (by omega)]; simp [List.getD_eq_getElem?_getD,hk]
 ·rw [had]; exact h.lt
theorem qT (l : Nat) (L : Int) (hl : L = l) (hb : l ≤ 1000000) (w : World) :
  (Instr.makeSlice 23 (.int .i64 L) (.int .i64 L)).run Try.prog w = .ok (.slice (some ⟨w.heap.size,0,none⟩) l l) (w.alloc (.cells ((List.replicate l (0 : Int)).map (Value.int .i64)).toArray 3)) := by
 subst hl
 rw [q1O l hb w,madeI]
theorem q6C (w : World) (o : Obj) : (w.alloc o).heap.size = w.heap.size + 1 := by simp
end Go.Proofs.Ytcnkgokfjafgkaa
