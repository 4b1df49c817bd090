/- Texts of the proof, put together: what it uses. -/
import Derived.WalkKit
import Derived.WalkSpells
import Derived.Maps.OwnSet
import Derived.Test.YtailhklbmenaoaaGreatDoorProg
import Derived.WalkLawsBesides
import Derived.BigQuiet
import Derived.Deep.QuietTactic
import Derived.Laws.OwnMore
import Derived.Laws.BitsAllLaws
import Derived.Deep.RegionHeld3
import Derived.Deep.RegionWith
import Derived.Deep.AppendLies
import Derived.OwnWalk
import Derived.KernelRfl
import Derived.Lib.AppendZerosOnto
import Derived.DeepKeys4
import Derived.Test.YtailhklbmenaoaaGreatDoorZ01
import Derived.Test.YtailhklbmenaoaaGreatDoorZ02
import Derived.Test.YtailhklbmenaoaaGreatDoorZ03
set_option maxRecDepth 100000
set_option maxHeartbeats 16000000
namespace Go.Proofs.YtailhklbmenaoaaGreatDoor
open Go.RowKit Go.Maps
def adOf (a : Option Addr) (i : Nat) : Addr := match a with
 | some x => x.add i
 | none => ⟨0,0,none⟩
theorem qi (g o i : Nat) : (⟨g,o,none⟩ : Addr).add i = ⟨g,o + i,none⟩ := by unfold Addr.add; split <;> simp_all
theorem qd6 {P : Program} {e : TypeId} (h : (P.info? e).map (·.size) = some 1) (w : World) : (sizeOf e).run P w = .ok 1 w := by
 cases hq : P.info? e with
 | none => simp [hq] at h
 | some i => simp [hq] at h; simp [sizeOf,typeInfo,hq,h]
theorem q1j {P : Program} {T e : TypeId} (hu : P.underlying T = some (.slice e)) (hs : (P.info? e).map (·.size) = some 1) {a : Option Addr} {cap n : Nat} (hn : a = none → n = 0) (k : Nat) (w : World) (hk : k < n) :
  (Instr.indexAt T (.slice a n cap) (.int .i64 k)).run P w = .ok (.pointer (some (adOf a k))) w := by
 cases a with
 | none => have := hn rfl; omega
 | some x => simp [Instr.indexAt,run_underlying hu,asIntOf,qd6 hs,hk,adOf,Result.andThen,go_sem]
structure IntSl (P : Program) (T : TypeId) (q : IntKind) (w : World) (a : Option Addr) (len cap : Nat) (zs : List Int) : Prop where
 hlen : zs.length = len
 hcap : len ≤ cap
 bd : cap ≤ maxLen
 idx : ∀ (n k : Nat) (w : World),k < n → n ≤ len → (Instr.indexAt T (.slice a n cap) (.int .i64 k)).run P w = .ok (.pointer (some (adOf a k))) w
 cell : ∀ k,k < len → w.cell? (adOf a k) = some (.int q (zs.getD k 0))
 blk : ∀ k,k < len → (adOf a k).block < w.heap.size
 nn : a = none → cap = 0
theorem IntSl.later {P : Program} {T : TypeId} {q : IntKind} {w w' : World} {a : Option Addr} {len cap : Nat} {zs : List Int} (h : IntSl P T q w a len cap zs) {B : Nat} (hb : Below B w w') (hB : ∀ k,k < len → (adOf a k).block < B) : IntSl P T q w' a len cap zs :=
 ⟨h.hlen,h.hcap,h.bd,h.idx,fun k hk => (hb.cell (hB k hk)).trans (h.cell k hk),fun k hk => Nat.lt_of_lt_of_le (h.blk k hk) hb.size,h.nn⟩
theorem IntSl.up {P : Program} {T : TypeId} {q : IntKind} {w w' : World} {a : Option Addr} {len cap : Nat} {zs : List Int} (h : IntSl P T q w a len cap zs) (hb : Below w.heap.size w w') : IntSl P T q w' a len cap zs := h.later hb h.blk
theorem IntSl.drewN {P : Program} {T : TypeId} {q : IntKind} {w : World} {a : Option Addr} {len cap : Nat} {zs : List Int} (h : IntSl P T q w a len cap zs) (n : Nat) : IntSl P T q (w.drewN n) a len cap zs := h.up (below_drewN (Below.refl _ _) n)
theorem q4Y {zs : List Int} {k : Nat} (h : k < zs.length) : zs.take (k + 1) = zs.take k ++ [zs.getD k 0] := by
 rw [List.take_add_one,List.getElem?_eq_getElem h]; simp [List.getD_eq_getElem?_getD,List.getElem?_eq_getElem h]
theorem q3y {xs ys : List Int} {k : Nat} (hx : k < xs.length) (hy : k < ys.length) (h : xs.take k = ys.take k) (he : xs.getD k 0 = ys.getD k 0) : xs.take (k + 1) = ys.take (k + 1) := by
 rw [q4Y hx,q4Y hy,h,he]
theorem qdw {P : Program} {T : TypeId} {w : World} : IntSl P T .u8 w none 0 0 [] :=
 ⟨rfl,Nat.le_refl _,Nat.zero_le _,fun m k w hk hm => absurd hk (by omega),fun k hk => absurd hk (by omega),fun k hk => absurd hk (by omega),fun _ => rfl⟩
theorem q4X {P : Program} {T e : TypeId} {w : World} {base n : Nat} {v : Value} {zs : List Int} (h : w.ownsRow base e 1 v n (zs.map (Value.int .u8))) (hu : P.underlying T = some (.slice e)) (hs : (P.info? e).map (·.size) = some 1) :
  ∃ a cap,v = .slice a n cap ∧ IntSl P T .u8 w a n cap zs ∧ ∀ k,k < n → base ≤ (adOf a k).block := by
 obtain ⟨hl,h⟩ := h
 simp at hl
 rcases h with ⟨rfl,rfl⟩ | ⟨g,cap,cur,rfl,hg,hcell,hnc,hcm,hsz,htk⟩
 ·have : zs = [] := List.eq_nil_of_length_eq_zero hl
  subst this
  exact ⟨none,0,rfl,qdw,fun k hk => absurd hk (by omega)⟩
 ·have had : ∀ k,adOf (some ⟨g,0,none⟩) k = ⟨g,k,none⟩ := fun k => by simp [adOf,qi]
  have hlt : g < w.heap.size := (Array.getElem?_eq_some_iff.1 hcell).1
  refine ⟨some ⟨g,0,none⟩,cap,rfl,⟨hl,hnc,hcm,fun m k w hk hm => q1j hu hs (by simp) k w hk,fun k hk => ?_,fun k hk => by rw [had]; exact hlt,by simp⟩,fun k hk => by rw [had]; exact hg⟩
  rw [had]
  have hk2 : (cur.toList.take (n * 1))[k]? = some (.int .u8 (zs.getD k 0)) := by
   rw [htk]; simp [List.getD_eq_getElem?_getD,List.getElem?_eq_getElem (show k < zs.length by omega)]
  rw [List.getElem?_take,if_pos (by omega)] at hk2
  simp [World.cell?,hcell]
  simpa using hk2
theorem q2z {w : World} {base e size n : Nat} {v : Value} {xs : List Value} (h : w.ownsRow base e size v n xs) : ∀ k,v.ownBlock = some k → base ≤ k := by
 obtain ⟨_,h⟩ := h
 rcases h with ⟨rfl,_⟩ | ⟨g,cap,cur,rfl,hg,_⟩
 ·intro k hk; simp [Value.ownBlock] at hk
 ·intro k hk; simp [Value.ownBlock] at hk; omega
theorem qd (w : World) (o : Obj) : Below w.heap.size w (w.alloc o) := (Below.refl _ _).alloc (Nat.le_refl _) _
theorem qe {w w1 w2 : World} (h : Below w.heap.size w w1) (k : Below w1.heap.size w1 w2) : Below w.heap.size w w2 := h.trans (k.mono h.size)
def Blk (w : World) (g : Nat) (t : TypeId) (a b : Nat) : Prop := w.heap[g]? = some (.cells #[.int .u8 (a : Int),.int .u8 (b : Int)] t (0,0))
theorem Blk.new (w : World) (t : TypeId) (a b : Nat) : Blk (w.alloc (.cells #[.int .u8 (a : Int),.int .u8 (b : Int)] t)) w.heap.size t a b := (MapKept.heap_alloc w _).1
theorem Blk.c0 {w : World} {g : Nat} {t : TypeId} {a b : Nat} (h : Blk w g t a b) : w.cell? ⟨g,0,none⟩ = some (.int .u8 (a : Int)) := by unfold Blk at h; simp [World.cell?,h]
theorem Blk.c1 {w : World} {g : Nat} {t : TypeId} {a b : Nat} (h : Blk w g t a b) : w.cell? ⟨g,1,none⟩ = some (.int .u8 (b : Int)) := by unfold Blk at h; simp [World.cell?,h]
theorem qc5 {P : Program} {e : TypeId} (h : (P.info? e).map (·.size) = some 2) (w : World) : (sizeOf e).run P w = .ok 2 w := by
 cases hq : P.info? e with
 | none => simp [hq] at h
 | some i => simp [hq] at h; simp [sizeOf,typeInfo,hq,h]
theorem qc8 (a b : Int) : ∀ u ∈ [Value.int .u8 a,Value.int .u8 b],u.oneCell' = true := by
 intro u hu; simp at hu; rcases hu with rfl | rfl <;> rfl
theorem qdW {w : World} {base e size n : Nat} {v : Value} {xs : List Value} (h : w.ownsRow base e size v n xs) (m : Nat) : (w.drewN m).ownsRow base e size v n xs := by
 refine ⟨h.1,?_⟩
 rcases h.2 with hn | ⟨g,cap,cur,h1,h2,h3,h4⟩
 ·exact Or.inl hn
 ·have hb := below_drewN (Below.refl (g + 1) w) m
  exact Or.inr ⟨g,cap,cur,h1,h2,(hb.block g (by omega)).trans h3,h4⟩
theorem q1g {w w' : World} {base e size n : Nat} {v : Value} {xs : List Value} (h : w.ownsRow base e size v n xs) (hb : Below w.heap.size w w') : w'.ownsRow base e size v n xs := by
 refine ⟨h.1,?_⟩
 rcases h.2 with hn | ⟨g,cap,cur,h1,h2,h3,h4⟩
 ·exact Or.inl hn
 ·exact Or.inr ⟨g,cap,cur,h1,h2,(hb.block g (Array.getElem?_eq_some_iff.1 h3).1).trans h3,h4⟩
theorem qdV {w : World} {base base' e size n : Nat} {v : Value} {xs : List Value} (h : w.ownsRow base e size v n xs) (hb : base' ≤ base) : w.ownsRow base' e size v n xs := by
 refine ⟨h.1,?_⟩
 rcases h.2 with hn | ⟨g,cap,cur,h1,h2,h3,h4⟩
 ·exact Or.inl hn
 ·exact Or.inr ⟨g,cap,cur,h1,Nat.le_trans hb h2,h3,h4⟩
theorem qn {w0 w1 : World} {p : Addr} {v : Value} (h : w0.cell? p = some v) (hb : Below w0.heap.size w0 w1) : w1.cell? p = some v := (hb.cell (World.block_lt_of_cell? _ _ h)).trans h
theorem q4t {w0 w1 : World} {p : Addr} {v : Value} {row : Option Nat} (h : w0.cell? p = some v) (hb : w0.grownBy w1 row) (hne : some p.block ≠ row) : w1.cell? p = some v := (hb.cell_far p (World.block_lt_of_cell? _ _ h) hne).trans h
theorem qb {W : World} {g : Nat} {arr : Array Value} {e : TypeId} (h : W.heap[g]? = some (.cells arr e (0,0))) (j : Nat) : W.cell? ⟨g,j,none⟩ = arr[j]? := by simp [World.cell?,h]
theorem qa5 {w w' : World} (h : ∃ n,w' = w.drewN n) : Below w.heap.size w w' := by obtain ⟨n,rfl⟩ := h; exact below_drewN (Below.refl _ _) n
theorem q1I (x : Addr) (n : Nat) : (x.add n).block = x.block := by unfold Addr.add; split <;> rfl
theorem q8h (x : Addr) (m n : Nat) : (x.add m).add n = x.add (m + n) := by
 unfold Addr.add
 by_cases h : n = 0
 ·subst h; simp
 ·have h2 : ¬ (m + n = 0) := fun e => h (by omega)
  rw [if_neg h,if_neg h2]; split <;> simp_all [Nat.add_assoc]
theorem q5Z {P : Program} {e : TypeId} (h : (P.info? e).map (·.size) = some 3) (w : World) : (sizeOf e).run P w = .ok 3 w := by
 cases hq : P.info? e with
 | none => simp [hq] at h
 | some i => simp [hq] at h; simp [sizeOf,typeInfo,hq,h]
def encT (ts : List Tk) : List Value := ts.flatMap fun t => [.int .u8 (t.1 : Int),.int .u8 (t.2 : Int)]
theorem q8S (t : Tk) (ts : List Tk) : encT (t :: ts) = .int .u8 (t.1 : Int) :: .int .u8 (t.2 : Int) :: encT ts := rfl
theorem qc2 (xs ys : List Tk) : encT (xs ++ ys) = encT xs ++ encT ys := by simp [encT]
theorem q4q : ∀ ts : List Tk,(encT ts).length = ts.length * 2
 | [] => rfl
 | t :: ts => by rw [q8S]; simp [q4q ts]; omega
theorem q3o : ∀ (ts : List Tk) (k : Nat) (h : k < ts.length),(encT ts)[2 * k]? = some (.int .u8 (ts[k].1 : Int)) ∧ (encT ts)[2 * k + 1]? = some (.int .u8 (ts[k].2 : Int))
 | [],k,h => absurd h (by simp)
 | t :: ts,0,_ => ⟨rfl,rfl⟩
 | t :: ts,k + 1,h => by
  have := q3o ts k (by simpa using h)
  rw [q8S,show 2 * (k + 1) = 2 * k + 1 + 1 by omega,show 2 * k + 1 + 1 + 1 = (2 * k + 1) + 1 + 1 by omega]
  simpa using this
theorem qei (ts : List Tk) : ∀ u ∈ encT ts,u.oneCell' = true := by
 intro u hu
 unfold encT at hu
 obtain ⟨c,_,hc⟩ := List.mem_flatMap.1 hu
 exact qc8 _ _ u hc
structure TkSl (w : World) (a : Option Addr) (len cap : Nat) (ts : List Tk) : Prop where
 hlen : ts.length = len
 hcap : len ≤ cap
 bd : cap ≤ maxLen
 nn : a = none → cap = 0
 c0 : ∀ x,a = some x → ∀ k (h : k < ts.length),w.cell? (x.add (2 * k)) = some (.int .u8 (ts[k].1 : Int))
 c1 : ∀ x,a = some x → ∀ k (h : k < ts.length),w.cell? (x.add (2 * k + 1)) = some (.int .u8 (ts[k].2 : Int))
 ok : ∀ t ∈ ts,t.1 < 256 ∧ t.2 < 256
theorem TkSl.some_of {w : World} {a : Option Addr} {len cap : Nat} {ts : List Tk} (h : TkSl w a len cap ts) (hl : 0 < len) : ∃ x,a = some x := by
 cases a with
 | none => have := h.nn rfl; have := h.hcap; omega
 | some x => exact ⟨x,rfl⟩
theorem TkSl.lt {w : World} {x : Addr} {len cap : Nat} {ts : List Tk} (h : TkSl w (some x) len cap ts) (hl : 0 < len) : x.block < w.heap.size := by
 have h0 := h.c0 x rfl 0 (by have := h.hlen; omega)
 have := World.block_lt_of_cell? _ _ h0
 rwa [q1I] at this
theorem TkSl.keep {w w' : World} {a : Option Addr} {len cap : Nat} {ts : List Tk} (h : TkSl w a len cap ts) (hk : ∀ p v,w.cell? p = some v → (∀ x,a = some x → p.block = x.block) → w'.cell? p = some v) : TkSl w' a len cap ts :=
 ⟨h.hlen,h.hcap,h.bd,h.nn,fun x hx k hk' => hk _ _ (h.c0 x hx k hk') (fun y hy => by rw [q1I]; rw [hx] at hy; injection hy with hy; rw [hy]),fun x hx k hk' => hk _ _ (h.c1 x hx k hk') (fun y hy => by rw [q1I]; rw [hx] at hy; injection hy with hy; rw [hy]),h.ok⟩
theorem TkSl.up {w w' : World} {a : Option Addr} {len cap : Nat} {ts : List Tk} (h : TkSl w a len cap ts) (hb : Below w.heap.size w w') : TkSl w' a len cap ts :=
 h.keep fun _ _ hp _ => qn hp hb
theorem TkSl.nil {w : World} : TkSl w none 0 0 [] :=
 ⟨rfl,Nat.le_refl _,Nat.zero_le _,fun _ => rfl,fun x hx => (by cases hx),fun x hx => (by cases hx),fun t ht => (by simp at ht)⟩
theorem TkSl.at {w : World} {a : Option Addr} {len cap : Nat} {ts : List Tk} (h : TkSl w a len cap ts) {P : Program} {T e : TypeId} (hu : P.underlying T = some (.slice e)) (hs : (P.info? e).map (·.size) = some 2) (k : Nat) (hk : k < len) :
  ∃ g o s,(∀ (n : Nat) (w' : World),k < n → (Instr.indexAt T (.slice a n cap) (.int .i64 k)).run P w' = .ok (.pointer (some ⟨g,o,s⟩)) w') ∧ w.cell? ⟨g,o,s⟩ = some (.int .u8 ((ts[k]'(by rw [h.hlen]; exact hk)).1 : Int)) ∧ w.cell? ⟨g,o + 1,none⟩ = some (.int .u8 ((ts[k]'(by rw [h.hlen]; exact hk)).2 : Int)) ∧ g < w.heap.size ∧ ∀ x,a = some x → x.block = g := by
 obtain ⟨x,rfl⟩ := h.some_of (by omega)
 have hkl : k < ts.length := by rw [h.hlen]; exact hk
 have e0 := h.c0 x rfl k hkl
 have e1 := h.c1 x rfl k hkl
 have hlt := h.lt (by omega)
 rw [← q8h] at e1
 have hb := q1I x (2 * k)
 have hrun : ∀ (n : Nat) (w' : World),k < n → (Instr.indexAt T (.slice (some x) n cap) (.int .i64 k)).run P w' = .ok (.pointer (some (x.add (2 * k)))) w' := fun n w' hn => by
  simp [Instr.indexAt,run_underlying hu,asIntOf,qc5 hs,hn,Result.andThen,go_sem,Nat.mul_comm]
 generalize x.add (2 * k) = y at *
 obtain ⟨g,o,s⟩ := y
 refine ⟨g,o,s,hrun,e0,?_,?_,?_⟩
 ·simpa [Addr.add] using e1
 ·dsimp only at hb; omega
 ·intro z hz; injection hz with hz; rw [← hz]; exact hb.symm
theorem qdU {w : World} {base e n : Nat} {v : Value} {ts : List Tk} (h : w.ownsRow base e 2 v n (encT ts)) (hok : ∀ t ∈ ts,t.1 < 256 ∧ t.2 < 256) :
  ∃ a cap,v = .slice a n cap ∧ TkSl w a n cap ts ∧ ∀ x,a = some x → base ≤ x.block ∧ v.ownBlock = some x.block := by
 obtain ⟨hl,h⟩ := h
 rw [q4q] at hl
 have hl' : ts.length = n := by omega
 rcases h with ⟨rfl,rfl⟩ | ⟨g,cap,cur,rfl,hg,hcell,hnc,hcm,hsz,htk⟩
 ·obtain rfl := List.eq_nil_of_length_eq_zero hl'
  exact ⟨none,0,rfl,TkSl.nil,fun x hx => by cases hx⟩
 ·have key : ∀ j,j < n * 2 → w.cell? ⟨g,j,none⟩ = (encT ts)[j]? := fun j hj => by
   rw [← htk,List.getElem?_take,if_pos hj]
   simp [World.cell?,hcell]
  refine ⟨some ⟨g,0,none⟩,cap,rfl,⟨hl',hnc,hcm,fun hn => (nomatch hn),fun x hx k hk => ?_,fun x hx k hk => ?_,hok⟩,fun x hx => by injection hx with hx; subst hx; exact ⟨hg,rfl⟩⟩
  ·injection hx with hx; subst hx
   rw [qi,Nat.zero_add,key _ (by omega)]; exact (q3o ts k hk).1
  ·injection hx with hx; subst hx
   rw [qi,Nat.zero_add,key _ (by omega)]; exact (q3o ts k hk).2
theorem q1U : (Tryz.prog.info? 90).map (·.size) = some 2 := by kernel_rfl
theorem qai : (Tryz.prog.info? 90).map (fun i => (i.zero,i.size,i.bytes)) = some (some (.agg #[.int .u8 0,.int .u8 0]),2,2) := by kernel_rfl
theorem TkSl.cells {w : World} {x : Addr} {len cap : Nat} {ts : List Tk} (h : TkSl w (some x) len cap ts) : ∀ j u,(encT ts)[j]? = some u → w.cell? (x.add j) = some u := by
 intro j u hj
 have hjl := (List.getElem?_eq_some_iff.1 hj).1
 rw [q4q] at hjl
 rcases Nat.mod_two_eq_zero_or_one j with h0 | h0
 ·obtain ⟨k,rfl⟩ : ∃ k,j = 2 * k := ⟨j / 2,by omega⟩
  rw [(q3o ts k (by omega)).1] at hj
  rw [← hj]; exact h.c0 x rfl k (by omega)
 ·obtain ⟨k,rfl⟩ : ∃ k,j = 2 * k + 1 := ⟨j / 2,by omega⟩
  rw [(q3o ts k (by omega)).2] at hj
  rw [← hj]; exact h.c1 x rfl k (by omega)
theorem qc0 {w : World} {o : Oper} {a : Act} {K : Act → World → Prop} {Q : Exit → Act → World → Prop} (s x : Operand)
  (ho : o.op = .call { callee := .builtin .append,args := #[s,x],argTypes := #[22,22] }) (base : Nat)
  (v : Value) (xs ys : List Tk) (b : Option Addr) (len cap : Nat) (hs : a.eval s = v) (hx : a.eval x = .slice b len cap) (hown : w.ownsRow base 90 2 v xs.length (encT xs)) (hT : TkSl w b len cap ys)
  (hn : xs.length ≤ 10000000) (hm : ys.length ≤ 10000000) (hbase : base ≤ w.heap.size)
  (h : ∀ v' w',w'.ownsRow base 90 2 v' (xs ++ ys).length (encT (xs ++ ys)) → w.grownBy w' v.ownBlock → K (a.put o.dst v') w') : o.wp Tryz.prog a w K Q := by
 obtain ⟨i,hi,hz0,hz1,hz2⟩ := info_parts qai
 have hl := hT.hlen
 cases b with
 | none =>
  have hc := hT.nn rfl
  have hcl := hT.hcap
  obtain rfl : len = 0 := by omega
  subst hc
  have hy : ys = [] := List.eq_nil_of_length_eq_zero hl
  subst hy
  have hrun := run_append_owned_none (P := Tryz.prog) w base 22 o.type 90 i 2 Tryz.underlying22 hi v xs.length (encT xs) hown
  unfold Oper.wp execOp
  simp only [ho,resolve,invoke,builtin,Sem.run_bind,Sem.run_pure,Result.andThen_ok,List.map_toArray,List.map_cons,List.map_nil,hs,hx,hrun]
  exact h v w (by rw [List.append_nil]; exact hown) (World.grownBy.refl _ _)
 | some y =>
  refine wp_append_own w s x 22 ho base 90 i _ 2 2 Tryz.underlying22 hi hz0 hz1 hz2 rfl (by decide) v xs.length _ hs hown y len cap (encT ys) hx (by rw [q4q,hl]) hT.cells (qei ys) (by unfold maxLen; omega) (by omega) hbase ?_
  intro v' w' h1 h2 _
  exact h v' w' (by rw [qc2,List.length_append,hl]; exact h1) h2
theorem q2o {w : World} {ops : Array Oper} {rest : List Oper} {o : Oper} {a : Act} {Q : Exit → Act → World → Prop} (hgd : o.guard = none) (s x : Operand)
  (ho : o.op = .call { callee := .builtin .append,args := #[s,x],argTypes := #[22,22] }) (base : Nat)
  (v : Value) (xs ys : List Tk) (b : Option Addr) (len cap : Nat) (hs : a.eval s = v) (hx : a.eval x = .slice b len cap) (hown : w.ownsRow base 90 2 v xs.length (encT xs)) (hT : TkSl w b len cap ys)
  (hn : xs.length ≤ 10000000) (hm : ys.length ≤ 10000000) (hbase : base ≤ w.heap.size)
  (h : ∀ v' w',w'.ownsRow base 90 2 v' (xs ++ ys).length (encT (xs ++ ys)) → w.grownBy w' v.ownBlock → wpList Tryz.prog ops Q rest (a.put o.dst v') w') : wpList Tryz.prog ops Q (o :: rest) a w :=
 wpList_plain hgd fun _ hK => qc0 s x ho base v xs ys b len cap hs hx hown hT hn hm hbase fun v' w' h1 h2 => hK _ _ (h v' w' h1 h2)
structure Fr (w w' : World) (F F' : Nat → Prop) : Prop where
 os : w'.os = w.os
 tape : w'.tape = w.tape
 output : w'.output = w.output
 size : w.heap.size ≤ w'.heap.size
 keep : ∀ k,k < w.heap.size → ¬ F k → w'.heap[k]? = w.heap[k]?
 foot : ∀ k,F' k → F k ∨ w.heap.size ≤ k
theorem Fr.below {w w' : World} {F F' : Nat → Prop} {B : Nat} (h : Fr w w' F F') (hF : ∀ k,F k → B ≤ k) (hB : B ≤ w.heap.size) : Below B w w' :=
 ⟨h.os,h.tape,h.output,h.size,fun k hk => h.keep k (by omega) (fun hf => by have := hF k hf; omega)⟩
theorem Fr.ge {w w' : World} {F F' : Nat → Prop} {B : Nat} (h : Fr w w' F F') (hF : ∀ k,F k → B ≤ k) (hB : B ≤ w.heap.size) : ∀ k,F' k → B ≤ k := fun k hk => by
 rcases h.foot k hk with h1 | h1
 ·exact hF k h1
 ·omega
theorem Fr.out {w w' : World} {F F' : Nat → Prop} (h : Fr w w' F F') {k : Nat} (hk : ¬ F k) (hl : k < w.heap.size) : ¬ F' k := fun hf => by
 rcases h.foot k hf with h1 | h1
 ·exact hk h1
 ·omega
theorem Fr.tks {w w' : World} {F F' : Nat → Prop} (h : Fr w w' F F') {a : Option Addr} {len cap : Nat} {ts : List Tk} (hT : TkSl w a len cap ts) (hf : 0 < len → ∀ x,a = some x → ¬ F x.block) : TkSl w' a len cap ts := by
 by_cases hl0 : len = 0
 ·have hnil : ts = [] := List.eq_nil_of_length_eq_zero (by rw [hT.hlen]; exact hl0)
  subst hnil
  exact ⟨hT.hlen,hT.hcap,hT.bd,hT.nn,fun x hx k hk => absurd hk (by simp),fun x hx k hk => absurd hk (by simp),hT.ok⟩
 have hl : 0 < len := by omega
 cases a with
 | none => exact ⟨hT.hlen,hT.hcap,hT.bd,hT.nn,fun x hx => (by cases hx),fun x hx => (by cases hx),hT.ok⟩
 | some y =>
  refine hT.keep fun p v hp hx => ?_
  have e := hx y rfl
  have hl2 := World.block_lt_of_cell? _ _ hp
  have := h.keep p.block hl2 (by rw [e]; exact hf hl y rfl)
  unfold World.cell? at hp ⊢
  rw [this]; exact hp
theorem Fr.own {w w' : World} {F F' : Nat → Prop} (h : Fr w w' F F') {base e size n : Nat} {v : Value} {xs : List Value} (ho : w.ownsRow base e size v n xs) (hf : ∀ k,v.ownBlock = some k → ¬ F k) : w'.ownsRow base e size v n xs := by
 obtain ⟨hl,ho⟩ := ho
 refine ⟨hl,ho.imp id ?_⟩
 rintro ⟨g,cap,cur,rfl,hg,hcell,r⟩
 exact ⟨g,cap,cur,rfl,hg,(h.keep g (Array.getElem?_eq_some_iff.1 hcell).1 (hf g rfl)).trans hcell,r⟩
theorem Fr.trans {w w1 w2 : World} {F F1 F2 : Nat → Prop} (h : Fr w w1 F F1) (k : Fr w1 w2 F1 F2) : Fr w w2 F F2 := by
 refine ⟨k.os.trans h.os,k.tape.trans h.tape,k.output.trans h.output,Nat.le_trans h.size k.size,fun j hj hF => ?_,fun j hj => ?_⟩
 ·exact (k.keep j (Nat.lt_of_lt_of_le hj h.size) (h.out hF hj)).trans (h.keep j hj hF)
 ·rcases k.foot j hj with h1 | h1
  ·exact h.foot j h1
  ·exact Or.inr (Nat.le_trans h.size h1)
theorem Fr.ofBelow {w w' : World} {F : Nat → Prop} (h : Below w.heap.size w w') : Fr w w' F F := ⟨h.os,h.tape,h.output,h.size,fun k hk _ => h.block k hk,fun _ hk => Or.inl hk⟩
theorem Fr.cell {w w' : World} {F F' : Nat → Prop} (h : Fr w w' F F') {p : Addr} {v : Value} (hc : w.cell? p = some v) (hf : ¬ F p.block) : w'.cell? p = some v := by
 have := h.keep p.block (World.block_lt_of_cell? _ _ hc) hf
 unfold World.cell? at hc ⊢
 rw [this]; exact hc
theorem Fr.intSl {w w' : World} {F F' : Nat → Prop} (h : Fr w w' F F') {P : Program} {T : TypeId} {q : IntKind} {a : Option Addr} {len cap : Nat} {zs : List Int} (hS : IntSl P T q w a len cap zs) (hf : ∀ k,k < len → ¬ F (adOf a k).block) : IntSl P T q w' a len cap zs :=
 ⟨hS.hlen,hS.hcap,hS.bd,hS.idx,fun k hk => h.cell (hS.cell k hk) (hf k hk),fun k hk => Nat.lt_of_lt_of_le (hS.blk k hk) h.size,hS.nn⟩
abbrev iU (l : List Nat) : List Int := l.map fun (x : Nat) => (x : Int)
theorem qgs {a b : List Nat} (h : iU a = iU b) : a = b := by
 induction a generalizing b with
 | nil => cases b with | nil => rfl | cons y b => cases h
 | cons x a ih =>
  cases b with
  | nil => cases h
  | cons y b =>
   simp only [iU,List.map_cons,List.cons.injEq] at h
   obtain ⟨h1,h2⟩ := h
   rw [show x = y by omega,ih h2]
theorem qgj (a b : List Nat) : decide (iU a = iU b) = decide (a = b) := by
 by_cases h : a = b
 ·rw [h,decide_eq_true rfl,decide_eq_true rfl]
 ·rw [decide_eq_false h,decide_eq_false fun e => h (qgs e)]
abbrev USl (w : World) (a : Option Addr) (len cap : Nat) (l : List Nat) : Prop := IntSl Tryz.prog 46 .u64 w a len cap (iU l)
theorem USl.len {w : World} {a : Option Addr} {len cap : Nat} {l : List Nat} (h : USl w a len cap l) : len = l.length := by
 have := h.hlen
 simp [iU] at this
 omega
def Sm (l : List Nat) : Prop := ∀ x ∈ l,x < 2 ^ 64
theorem q2V : (Tryz.prog.info? 55).map (·.size) = some 1 := by kernel_rfl
theorem q5H {w : World} : USl w none 0 0 [] :=
 ⟨rfl,Nat.le_refl _,Nat.zero_le _,fun m k w hk hm => absurd hk (by omega),fun k hk => absurd hk (by omega),fun k hk => absurd hk (by omega),fun _ => rfl⟩
theorem q3l (l : List Nat) (w : World) (hl : l.length ≤ 2000) : USl (w.alloc (.cells ((iU l).map (Value.int .u64)).toArray 55)) (some ⟨w.heap.size,0,none⟩) l.length l.length l := by
 have had : ∀ k,adOf (some ⟨w.heap.size,0,none⟩) k = ⟨w.heap.size,k,none⟩ := fun k => by simp [adOf,qi]
 have hr := (MapKept.heap_alloc w (.cells ((iU l).map (Value.int .u64)).toArray 55)).1
 refine ⟨by simp,Nat.le_refl _,by unfold maxLen; omega,fun m k w hk hm => q1j Tryz.underlying46 q2V (by simp) k w hk,fun k hk => ?_,fun k hk => ?_,by simp⟩
 ·rw [had,qb hr k]
  simp [List.getD_eq_getElem?_getD,hk]
 ·rw [had]
  exact (Array.getElem?_eq_some_iff.1 hr).1
theorem q8a (a : Option Addr) (len cap : Nat) (xs : List Int) (a' : Option Addr) (len' cap' : Nat) (ys : List Int) (w : World)
  (hS : IntSl Tryz.prog 46 .u64 w a len cap xs) (hO : IntSl Tryz.prog 46 .u64 w a' len' cap' ys) :
  Calls Tryz.prog 22 #[.slice a len cap,.slice a' len' cap'] w fun e w' => e = .returned (.bool (decide (xs = ys))) ∧ ∃ n,w' = w.drewN n := by
 have hb0 := hS.bd
 have hb1 := hS.hcap
 have hb2 := hO.bd
 have hb3 := hO.hcap
 unfold maxLen at hb0 hb2
 by_cases hll : len = len'
 ·subst hll
  have hidx := fun (k : Nat) (w : World) (h : k < len) => hS.idx len k w h (Nat.le_refl _)
  have hidx' := fun (k : Nat) (w : World) (h : k < len) => hO.idx len k w h (Nat.le_refl _)
  go_enter Tryz.func22,Tryz.ntmps22
  go_wp2
  go_loopw [5] (fun i wr => ∃ k : Nat,k ≤ len ∧ i = .int .i64 k ∧ Hid (xs.take k = ys.take k) ∧ Hid (∃ n,wr = w.drewN n)) (fun i _ => len - (intOf i).toNat)
  case atStart => exact ⟨0,Nat.zero_le _,rfl,by show _ = _; simp,0,rfl⟩
  case round =>
   obtain ⟨k,hk,rfl,HU,hwr⟩ := hrel
   by_cases hlt : k < len
   ·have hS' : IntSl Tryz.prog 46 .u64 wr a len cap xs := by obtain ⟨n,hn⟩ := hwr.out; rw [hn]; exact hS.drewN n
    have hO' : IntSl Tryz.prog 46 .u64 wr a' len cap' ys := by obtain ⟨n,hn⟩ := hwr.out; rw [hn]; exact hO.drewN n
    have hck := hS'.cell k hlt
    have hck' := hO'.cell k hlt
    have HN : Hid (xs.getD k 0 = ys.getD k 0 → xs.take (k + 1) = ys.take (k + 1)) := fun h => q3y (by rw [hS.hlen]; exact hlt) (by rw [hO.hlen]; exact hlt) HU.out h
    have HM : Hid (xs.getD k 0 ≠ ys.getD k 0 → decide (xs = ys) = false) := fun h => decide_eq_false (fun e => h (by rw [e]))
    clear hS' hO'
    generalize xs.getD k 0 = x at *
    generalize ys.getD k 0 = y at *
    go_wp2
    go_quiet (fail)
    rcases Bool.eq_false_or_eq_true (x != y) with ht | ht
    ·go_wp2
     go_ret
     obtain ⟨n,hn⟩ := hwr.out
     exact ⟨by rw [HM.out (by simpa using ht)]; rfl,n + nq,by rw [hn,World.drewN_drewN]⟩
    ·have HN2 : Hid _ := HN.out (by simpa using ht)
     go_wp2
     go_roundw
     case rel =>
      obtain ⟨n,hn⟩ := hwr.out
      exact ⟨k + 1,by omega,by go_num,HN2,n + nq,by rw [hn,World.drewN_drewN]⟩
     case measure => simp [intOf]; omega
   ·have hx : Hid (decide (xs = ys) = true) := by
     have := HU.out
     rw [List.take_of_length_le (by rw [hS.hlen]; omega),List.take_of_length_le (by rw [hO.hlen]; omega)] at this
     exact decide_eq_true this
    go_wp2
    go_ret
    exact ⟨by rw [hx.out]; rfl,hwr.out⟩
 ·have hx : Hid (decide (xs = ys) = false) := decide_eq_false (fun e => hll (by rw [← hS.hlen,← hO.hlen,e]))
  have hll' : ((len : Int) != (len' : Int)) = true := by simp; omega
  clear hll
  go_enter Tryz.func22,Tryz.ntmps22
  go_wp2
  go_ret
  exact ⟨by rw [hx.out]; rfl,0,rfl⟩
def LR (r : List Nat) (w : World) (e : Ending) (w' : World) : Prop := ∃ (a : Option Addr) (c : Nat),e = .returned (.slice a r.length c) ∧ USl w' a r.length c r ∧ Below w.heap.size w w'
def LE (E : Nat) (r : List Nat) (w : World) (e : Ending) (w' : World) : Prop := ∃ (a : Option Addr) (c : Nat),e = .returned (.tuple #[.slice a r.length c,.int .i64 (E : Int)]) ∧ USl w' a r.length c r ∧ Below w.heap.size w w'
def BR (b : Bool) (w : World) (e : Ending) (w' : World) : Prop := e = .returned (.bool b) ∧ Below w.heap.size w w'
theorem qe2 (x y : Nat) (hx : x < 18446744073709551616) (hy : y < 18446744073709551616) : (x &&& (18446744073709551615 - y) = 0) ↔ y ||| x = y := by
 have hb : ∀ i,(18446744073709551615 - y).testBit i = (decide (i < 64) && !y.testBit i) := fun i => by
  have := Nat.testBit_two_pow_sub_succ (n := 64) (x := y) (by exact hy) i
  rw [show 2 ^ 64 - (y + 1) = 18446744073709551615 - y by omega] at this
  exact this
 constructor
 ·intro h
  refine Nat.eq_of_testBit_eq fun i => ?_
  have := congrArg (fun z => z.testBit i) h
  simp only [Nat.testBit_and,hb,Nat.zero_testBit] at this
  rw [Nat.testBit_or]
  by_cases hi : i < 64
  ·simp [hi] at this
   cases h1 : y.testBit i <;> cases h2 : x.testBit i <;> simp_all
  ·have : x.testBit i = false := Nat.testBit_lt_two_pow (Nat.lt_of_lt_of_le hx (by rw [show (18446744073709551616 : Nat) = 2 ^ 64 from rfl]; exact Nat.pow_le_pow_right (by decide) (by omega)))
   rw [this]; simp
 ·intro h
  refine Nat.eq_of_testBit_eq fun i => ?_
  have := congrArg (fun z => z.testBit i) h
  simp only [Nat.testBit_or] at this
  rw [Nat.testBit_and,hb,Nat.zero_testBit]
  cases h1 : y.testBit i <;> cases h2 : x.testBit i <;> simp_all
theorem or_wi {x y : Nat} : y ||| x = y ↔ Wi x y := by
 rw [q29]
 constructor
 ·intro h i hi
  rw [← h,Nat.testBit_or,hi,Bool.or_true]
 ·intro h
  apply Nat.eq_of_testBit_eq
  intro i
  rw [Nat.testBit_or]
  cases hx : x.testBit i with
  | false => rw [Bool.or_false]
  | true => rw [h i hx]; rfl
theorem qgJ (x y : Nat) (hx : x < 2 ^ 64) (hy : y < 2 ^ 64) : bits .andNot .u64 (x : Int) (y : Int) = 0 ↔ Wi x y := by
 rw [u64_andNot_nat x y hx hy,← or_wi,← qe2 x y hx hy]
 omega
theorem q6J (a : Option Addr) (len cap : Nat) (xs : List Int) (a' : Option Addr) (len' cap' : Nat) (ys : List Int) (w : World)
  (hS : IntSl Tryz.prog 46 .u64 w a len cap xs) (hO : IntSl Tryz.prog 46 .u64 w a' len' cap' ys) :
  Calls Tryz.prog 37 #[.slice a len cap,.slice a' len' cap'] w fun e w' => e = .returned (.bool (decide (xs = ys))) ∧ ∃ n,w' = w.drewN n := by
 have hb0 := hS.bd
 have hb1 := hS.hcap
 have hb2 := hO.bd
 have hb3 := hO.hcap
 unfold maxLen at hb0 hb2
 by_cases hll : len = len'
 ·subst hll
  have hidx := fun (k : Nat) (w : World) (h : k < len) => hS.idx len k w h (Nat.le_refl _)
  have hidx' := fun (k : Nat) (w : World) (h : k < len) => hO.idx len k w h (Nat.le_refl _)
  go_enter Tryz.func37,Tryz.ntmps37
  go_wp2
  go_loopw [13] (fun i wr => ∃ k : Nat,k ≤ len ∧ i = .int .i64 k ∧ Hid (xs.take k = ys.take k) ∧ Hid (∃ n,wr = w.drewN n)) (fun i _ => len - (intOf i).toNat)
  case atStart => exact ⟨0,Nat.zero_le _,rfl,by show _ = _; simp,0,rfl⟩
  case round =>
   obtain ⟨k,hk,rfl,HU,hwr⟩ := hrel
   by_cases hlt : k < len
   ·have hS' : IntSl Tryz.prog 46 .u64 wr a len cap xs := by obtain ⟨n,hn⟩ := hwr.out; rw [hn]; exact hS.drewN n
    have hO' : IntSl Tryz.prog 46 .u64 wr a' len cap' ys := by obtain ⟨n,hn⟩ := hwr.out; rw [hn]; exact hO.drewN n
    have hck := hS'.cell k hlt
    have hck' := hO'.cell k hlt
    have HN : Hid (xs.getD k 0 = ys.getD k 0 → xs.take (k + 1) = ys.take (k + 1)) := fun h => q3y (by rw [hS.hlen]; exact hlt) (by rw [hO.hlen]; exact hlt) HU.out h
    have HM : Hid (xs.getD k 0 ≠ ys.getD k 0 → decide (xs = ys) = false) := fun h => decide_eq_false (fun e => h (by rw [e]))
    clear hS' hO'
    generalize xs.getD k 0 = x at *
    generalize ys.getD k 0 = y at *
    go_wp2
    go_quiet (fail)
    rcases Bool.eq_false_or_eq_true (x != y) with ht | ht
    ·go_wp2
     go_ret
     obtain ⟨n,hn⟩ := hwr.out
     exact ⟨by rw [HM.out (by simpa using ht)]; rfl,n + nq,by rw [hn,World.drewN_drewN]⟩
    ·have HN2 : Hid _ := HN.out (by simpa using ht)
     go_wp2
     go_roundw
     case rel =>
      obtain ⟨n,hn⟩ := hwr.out
      exact ⟨k + 1,by omega,by go_num,HN2,n + nq,by rw [hn,World.drewN_drewN]⟩
     case measure => simp [intOf]; omega
   ·have hx : Hid (decide (xs = ys) = true) := by
     have := HU.out
     rw [List.take_of_length_le (by rw [hS.hlen]; omega),List.take_of_length_le (by rw [hO.hlen]; omega)] at this
     exact decide_eq_true this
    go_wp2
    go_ret
    exact ⟨by rw [hx.out]; rfl,hwr.out⟩
 ·have hx : Hid (decide (xs = ys) = false) := decide_eq_false (fun e => hll (by rw [← hS.hlen,← hO.hlen,e]))
  have hll' : ((len : Int) != (len' : Int)) = true := by simp; omega
  clear hll
  go_enter Tryz.func37,Tryz.ntmps37
  go_wp2
  go_ret
  exact ⟨by rw [hx.out]; rfl,0,rfl⟩
theorem q7b (x y : Nat) (hx : x < 2 ^ 64) (hy : y < 2 ^ 64) (w : World) : Calls Tryz.prog 89 #[.int .u64 (x : Int),.int .u64 (y : Int)] w fun e w' => e = .returned (.bool (decide (Wi x y))) ∧ w' = w := by
 have h := qgJ x y hx hy
 generalize hz : bits .andNot .u64 (x : Int) (y : Int) = z at *
 have HD : Hid ((z == 0) = decide (Wi x y)) := by
  show _ = _
  rw [Bool.eq_iff_iff,beq_iff_eq,decide_eq_true_iff]
  exact h
 clear h
 go_enter Tryz.func89,Tryz.ntmps89
 go_wp2
 go_ret
 exact ⟨by rw [← HD.out]; rfl,rfl⟩
theorem q2B (a : Option Addr) (n c : Nat) (l : List Nat) (h : Nat) (w : World) (hS : USl w a n c l) (sL : Sm l) (hh : h < 2 ^ 64) :
  Calls Tryz.prog 62 #[.slice a n c,.int .u64 (h : Int)] w (BR (hoB l h) w) := by
 have hb0 := hS.bd
 have hb1 := hS.hcap
 unfold maxLen at hb0
 have hln := hS.len
 have HL : Hid (n = l.length) := hln
 have hidx := fun (k : Nat) (w : World) (h : k < n) => hS.idx n k w h (Nat.le_refl _)
 have hcell : ∀ k,k < n → w.cell? (adOf a k) = some (.int .u64 ((l.getD k 0 : Nat) : Int)) := fun k hk => by
  rw [hS.cell k hk]
  congr 2
  simp only [List.getD_eq_getElem?_getD,iU,List.getElem?_map]
  cases l[k]? <;> rfl
 have HW : Hid (∀ k,k < n → ∀ w',Calls Tryz.prog 89 #[.int .u64 ((l.getD k 0 : Nat) : Int),.int .u64 (h : Int)] w' fun e w'' => e = .returned (.bool (decide (Wi (l.getD k 0) h))) ∧ w'' = w') := fun k hk w' => q7b _ h (by
  have hk' : k < l.length := by omega
  rw [List.getD_eq_getElem?_getD,List.getElem?_eq_getElem hk']
  exact sL _ (List.getElem_mem hk')) hh w'
 clear hS sL hln
 go_enter Tryz.func62,Tryz.ntmps62
 go_wp2
 go_loopw [9] (fun i wr => ∃ k : Nat,k ≤ n ∧ i = .int .i64 (k : Int) ∧ Hid (∀ j,j < k → ¬ Wi (l.getD j 0) h) ∧ wr = w) (fun i _ => n - (intOf i).toNat)
 case atStart => exact ⟨0,Nat.zero_le _,rfl,fun j hj => absurd hj (by omega),rfl⟩
 case round =>
  obtain ⟨k,hk,rfl,HU,rfl⟩ := hrel
  by_cases hlt : k < n
  ·have hc := hcell k hlt
   have hx := fun w' => hidx k w' hlt
   have hw := HW.out k hlt
   have HY : Hid (¬ Wi (l.getD k 0) h → ∀ j,j < k + 1 → ¬ Wi (l.getD j 0) h) := fun hn j hj => by
    by_cases e : j = k
    ·subst e; exact hn
    ·exact HU.out j (by omega)
   have HN : Hid (Wi (l.getD k 0) h → hoB l h = true) := fun hn => by
    have hk' : k < l.length := by rw [← HL.out]; exact hlt
    refine decide_eq_true ⟨l.getD k 0,?_,hn⟩
    rw [List.getD_eq_getElem?_getD,List.getElem?_eq_getElem hk']
    exact List.getElem_mem hk'
   generalize l.getD k 0 = x at *
   clear hcell hidx
   by_cases hwi : Wi x h
   ·rw [decide_eq_true hwi] at hw
    have HZ : Hid (hoB l h = true) := HN.out hwi
    clear hwi HN HY
    go_wp2_with fail
    refine (hw _).mono ?_
    rintro e w1 ⟨rfl,rfl⟩
    go_wp2_with fail
    go_ret
    exact ⟨by rw [HZ.out]; rfl,Below.refl _ _⟩
   ·rw [decide_eq_false hwi] at hw
    have HZ : Hid (∀ j,j < k + 1 → ¬ Wi (l.getD j 0) h) := HY.out hwi
    clear hwi HN HY
    go_wp2_with fail
    refine (hw _).mono ?_
    rintro e w1 ⟨rfl,rfl⟩
    go_wp2_with fail
    go_roundw
    case rel => exact ⟨k + 1,by omega,by go_num,HZ,by first | trivial | rfl⟩
    case measure => simp [intOf]; omega
  ·have HZ : Hid (hoB l h = false) := by
    refine decide_eq_false ?_
    rintro ⟨s,hs,hw⟩
    obtain ⟨j,hj,rfl⟩ := List.getElem_of_mem hs
    have := HU.out j (by have := HL.out; omega)
    rw [List.getD_eq_getElem?_getD,List.getElem?_eq_getElem hj] at this
    exact this hw
   go_wp2
   go_ret
   exact ⟨by rw [HZ.out]; rfl,Below.refl _ _⟩
structure BoSl (w : World) (a : Option Addr) (len cap : Nat) (bs : List Bool) : Prop where
 hlen : bs.length = len
 hcap : len ≤ cap
 bd : cap ≤ maxLen
 nn : a = none → cap = 0
 c : ∀ x,a = some x → ∀ k (h : k < bs.length),w.cell? (x.add k) = some (.bool bs[k])
theorem BoSl.some_of {w : World} {a : Option Addr} {len cap : Nat} {bs : List Bool} (h : BoSl w a len cap bs) (hl : 0 < len) : ∃ x,a = some x := by
 cases a with
 | none => have := h.nn rfl; have := h.hcap; omega
 | some x => exact ⟨x,rfl⟩
theorem BoSl.up {w w' : World} {a : Option Addr} {len cap : Nat} {bs : List Bool} (h : BoSl w a len cap bs) (hb : Below w.heap.size w w') : BoSl w' a len cap bs :=
 ⟨h.hlen,h.hcap,h.bd,h.nn,fun x hx k hk => qn (h.c x hx k hk) hb⟩
theorem qbU : (Tryz.prog.info? 4).map (·.size) = some 1 := by kernel_rfl
theorem BoSl.at {w : World} {a : Option Addr} {len cap : Nat} {bs : List Bool} (h : BoSl w a len cap bs) (k : Nat) (hk : k < len) :
  (∀ (n : Nat) (w' : World),k < n → (Instr.indexAt 28 (.slice a n cap) (.int .i64 k)).run Tryz.prog w' = .ok (.pointer (some (adOf a k))) w') ∧ w.cell? (adOf a k) = some (.bool (bs[k]'(by rw [h.hlen]; exact hk))) := by
 obtain ⟨x,rfl⟩ := h.some_of (by omega)
 refine ⟨fun n w' hn => q1j Tryz.underlying28 qbU (by simp) k w' hn,h.c x rfl k (by rw [h.hlen]; exact hk)⟩
theorem q88 (a : Option Addr) (len cap : Nat) (xs : List Bool) (a' : Option Addr) (len' cap' : Nat) (ys : List Bool) (w : World) (hS : BoSl w a len cap xs) (hO : BoSl w a' len' cap' ys) :
  Calls Tryz.prog 42 #[.slice a len cap,.slice a' len' cap'] w fun e w' => e = .returned (.bool (decide (xs = ys))) ∧ Below w.heap.size w w' := by
 have hb0 := hS.bd
 have hb1 := hS.hcap
 have hb2 := hO.bd
 have hb3 := hO.hcap
 unfold maxLen at hb0 hb2
 by_cases hll : len = len'
 ·subst hll
  go_enter Tryz.func42,Tryz.ntmps42
  go_wp2
  go_loopw [5] (fun i wr => ∃ k : Nat,k ≤ len ∧ i = .int .i64 k ∧ Hid (xs.take k = ys.take k) ∧ Hid (Below w.heap.size w wr)) (fun i _ => len - (intOf i).toNat)
  case atStart => exact ⟨0,Nat.zero_le _,rfl,by show _ = _; simp,Below.refl _ _⟩
  case round =>
   obtain ⟨k,hk,rfl,HU,hwr⟩ := hrel
   by_cases hlt : k < len
   ·obtain ⟨hi1,hx0⟩ := (hS.up hwr.out).at k hlt
    obtain ⟨hi2,hy0⟩ := (hO.up hwr.out).at k hlt
    have hidx := fun w' => hi1 len w' hlt
    have hidx' := fun w' => hi2 len w' hlt
    clear hi1 hi2
    have hxl : k < xs.length := by rw [hS.hlen]; exact hlt
    have hyl : k < ys.length := by rw [hO.hlen]; exact hlt
    have HN : Hid (xs[k] = ys[k] → xs.take (k + 1) = ys.take (k + 1)) := fun h => by
     rw [List.take_add_one,List.take_add_one,List.getElem?_eq_getElem hxl,List.getElem?_eq_getElem hyl,HU.out,h]
    have HM : Hid (xs[k] ≠ ys[k] → decide (xs = ys) = false) := fun h => decide_eq_false (fun e => h (by subst e; rfl))
    generalize xs[k] = x at *
    generalize ys[k] = y at *
    cases x <;> cases y
    all_goals
     go_wp2_with fail
     go_quiet (fail)
    ·have HN2 : Hid _ := HN.out (by simp)
     go_wp2
     go_roundw
     case rel => exact ⟨k + 1,by omega,by go_num,HN2,below_drewN hwr.out nq⟩
     case measure => simp [intOf]; omega
    ·have HM2 : Hid _ := HM.out (by decide)
     go_wp2
     go_ret
     exact ⟨by rw [HM2.out]; rfl,below_drewN hwr.out nq⟩
    ·have HM2 : Hid _ := HM.out (by decide)
     go_wp2
     go_ret
     exact ⟨by rw [HM2.out]; rfl,below_drewN hwr.out nq⟩
    ·have HN2 : Hid _ := HN.out (by simp)
     go_wp2
     go_roundw
     case rel => exact ⟨k + 1,by omega,by go_num,HN2,below_drewN hwr.out nq⟩
     case measure => simp [intOf]; omega
   ·have hx : Hid (decide (xs = ys) = true) := by
     have := HU.out
     rw [List.take_of_length_le (by rw [hS.hlen]; omega),List.take_of_length_le (by rw [hO.hlen]; omega)] at this
     exact decide_eq_true this
    go_wp2
    go_ret
    exact ⟨by rw [hx.out]; rfl,hwr.out⟩
 ·have hx : Hid (decide (xs = ys) = false) := decide_eq_false (fun e => hll (by rw [← hS.hlen,← hO.hlen,e]))
  have hll' : ((len : Int) != (len' : Int)) = true := by simp; omega
  clear hll
  go_enter Tryz.func42,Tryz.ntmps42
  go_wp2
  go_ret
  exact ⟨by rw [hx.out]; rfl,Below.refl _ _⟩
def RowI (w : World) (e : TypeId) (g : Nat) (cur : List Int) : Prop := w.heap[g]? = some (.cells (cur.map (Value.int .i64)).toArray e (0,0))
theorem RowI.lt {w : World} {e : TypeId} {g : Nat} {cur : List Int} (h : RowI w e g cur) : g < w.heap.size := (Array.getElem?_eq_some_iff.1 h).1
theorem RowI.cell {w : World} {e : TypeId} {g : Nat} {cur : List Int} (h : RowI w e g cur) {i : Nat} (hi : i < cur.length) : w.cell? ⟨g,i,none⟩ = some (.int .i64 (cur.getD i 0)) := by
 unfold RowI at h; simp [World.cell?,h,List.getD_eq_getElem?_getD,List.getElem?_eq_getElem hi]
theorem RowI.owns {w : World} {e : TypeId} {g base n : Nat} {cur : List Int} (h : RowI w e g cur) (hb : base ≤ g) (hl : cur.length = n) (hm : n ≤ maxLen) : w.ownsRow base e 1 (.slice (some ⟨g,0,none⟩) n n) n (cur.map (Value.int .i64)) :=
 ⟨by simp [hl],Or.inr ⟨g,n,_,rfl,hb,h,Nat.le_refl _,hm,by simp [hl],by rw [Nat.mul_one,List.take_of_length_le (by simp [hl])]⟩⟩
theorem madeI (n : Nat) : madeCells #[.int .i64 0] n = ((List.replicate n (0 : Int)).map (Value.int .i64)).toArray := by
 apply Array.ext_getElem?
 intro i
 by_cases h : i < n
 ·simp [madeCells,h,Nat.mod_one]
 ·simp [madeCells,h]
theorem q3g : (Tryz.prog.info? 3).map (fun i => (i.zero,i.size,i.bytes)) = some (some (.int .i64 0),1,8) := by kernel_rfl
theorem q1T : (Tryz.prog.info? 3).map (·.size) = some 1 := by kernel_rfl
theorem q89 (a : Option Addr) (len cap : Nat) (xs : List Int) (a' : Option Addr) (len' cap' : Nat) (ys : List Int) (w : World)
  (hS : IntSl Tryz.prog 29 .i64 w a len cap xs) (hO : IntSl Tryz.prog 29 .i64 w a' len' cap' ys) :
  Calls Tryz.prog 43 #[.slice a len cap,.slice a' len' cap'] w fun e w' => e = .returned (.bool (decide (xs = ys))) ∧ ∃ n,w' = w.drewN n := by
 have hb0 := hS.bd
 have hb1 := hS.hcap
 have hb2 := hO.bd
 have hb3 := hO.hcap
 unfold maxLen at hb0 hb2
 by_cases hll : len = len'
 ·subst hll
  have hidx := fun (k : Nat) (w : World) (h : k < len) => hS.idx len k w h (Nat.le_refl _)
  have hidx' := fun (k : Nat) (w : World) (h : k < len) => hO.idx len k w h (Nat.le_refl _)
  go_enter Tryz.func43,Tryz.ntmps43
  go_wp2
  go_loopw [5] (fun i wr => ∃ k : Nat,k ≤ len ∧ i = .int .i64 k ∧ Hid (xs.take k = ys.take k) ∧ Hid (∃ n,wr = w.drewN n)) (fun i _ => len - (intOf i).toNat)
  case atStart => exact ⟨0,Nat.zero_le _,rfl,by show _ = _; simp,0,rfl⟩
  case round =>
   obtain ⟨k,hk,rfl,HU,hwr⟩ := hrel
   by_cases hlt : k < len
   ·have hS' : IntSl Tryz.prog 29 .i64 wr a len cap xs := by obtain ⟨n,hn⟩ := hwr.out; rw [hn]; exact hS.drewN n
    have hO' : IntSl Tryz.prog 29 .i64 wr a' len cap' ys := by obtain ⟨n,hn⟩ := hwr.out; rw [hn]; exact hO.drewN n
    have hck := hS'.cell k hlt
    have hck' := hO'.cell k hlt
    have HN : Hid (xs.getD k 0 = ys.getD k 0 → xs.take (k + 1) = ys.take (k + 1)) := fun h => q3y (by rw [hS.hlen]; exact hlt) (by rw [hO.hlen]; exact hlt) HU.out h
    have HM : Hid (xs.getD k 0 ≠ ys.getD k 0 → decide (xs = ys) = false) := fun h => decide_eq_false (fun e => h (by rw [e]))
    clear hS' hO'
    generalize xs.getD k 0 = x at *
    generalize ys.getD k 0 = y at *
    go_wp2
    go_quiet (fail)
    rcases Bool.eq_false_or_eq_true (x != y) with ht | ht
    ·go_wp2
     go_ret
     obtain ⟨n,hn⟩ := hwr.out
     exact ⟨by rw [HM.out (by simpa using ht)]; rfl,n + nq,by rw [hn,World.drewN_drewN]⟩
    ·have HN2 : Hid _ := HN.out (by simpa using ht)
     go_wp2
     go_roundw
     case rel =>
      obtain ⟨n,hn⟩ := hwr.out
      exact ⟨k + 1,by omega,by go_num,HN2,n + nq,by rw [hn,World.drewN_drewN]⟩
     case measure => simp [intOf]; omega
   ·have hx : Hid (decide (xs = ys) = true) := by
     have := HU.out
     rw [List.take_of_length_le (by rw [hS.hlen]; omega),List.take_of_length_le (by rw [hO.hlen]; omega)] at this
     exact decide_eq_true this
    go_wp2
    go_ret
    exact ⟨by rw [hx.out]; rfl,hwr.out⟩
 ·have hx : Hid (decide (xs = ys) = false) := decide_eq_false (fun e => hll (by rw [← hS.hlen,← hO.hlen,e]))
  have hll' : ((len : Int) != (len' : Int)) = true := by simp; omega
  clear hll
  go_enter Tryz.func43,Tryz.ntmps43
  go_wp2
  go_ret
  exact ⟨by rw [hx.out]; rfl,0,rfl⟩
theorem qg3 {P : Program} {T e : TypeId} {w : World} {base n : Nat} {v : Value} {zs : List Int} (h : w.ownsRow base e 1 v n (zs.map (Value.int .i64))) (hu : P.underlying T = some (.slice e)) (hs : (P.info? e).map (·.size) = some 1) :
  ∃ a cap,v = .slice a n cap ∧ IntSl P T .i64 w a n cap zs ∧ (∀ k,k < n → base ≤ (adOf a k).block) ∧ ∀ x,a = some x → x.block < w.heap.size := by
 obtain ⟨hl,h⟩ := h
 simp at hl
 rcases h with ⟨rfl,rfl⟩ | ⟨g,cap,cur,rfl,hg,hcell,hnc,hcm,hsz,htk⟩
 ·have : zs = [] := List.eq_nil_of_length_eq_zero hl
  subst this
  exact ⟨none,0,rfl,⟨rfl,Nat.le_refl _,Nat.zero_le _,fun m k w hk hm => absurd hk (by omega),fun k hk => absurd hk (by omega),fun k hk => absurd hk (by omega),fun _ => rfl⟩,fun k hk => absurd hk (by omega),fun x hx => by cases hx⟩
 ·have had : ∀ k,adOf (some ⟨g,0,none⟩) k = ⟨g,k,none⟩ := fun k => by simp [adOf,qi]
  have hlt : g < w.heap.size := (Array.getElem?_eq_some_iff.1 hcell).1
  refine ⟨some ⟨g,0,none⟩,cap,rfl,⟨hl,hnc,hcm,fun m k w hk hm => q1j hu hs (by simp) k w hk,fun k hk => ?_,fun k hk => by rw [had]; exact hlt,by simp⟩,fun k hk => by rw [had]; exact hg,fun x hx => by injection hx with hx; rw [← hx]; exact hlt⟩
  rw [had]
  have hk2 : (cur.toList.take (n * 1))[k]? = some (.int .i64 (zs.getD k 0)) := by
   rw [htk]; simp [List.getD_eq_getElem?_getD,List.getElem?_eq_getElem (show k < zs.length by omega)]
  rw [List.getElem?_take,if_pos (by omega)] at hk2
  simp [World.cell?,hcell]
  simpa using hk2
def tbV (t : Nat) : Value := .pointer (some ⟨t,0,none⟩)
def itV (x : It) : Value := .agg #[.int .u8 (x.op : Int),.int .u8 (x.p : Int),.int .i64 x.a,.int .i64 x.b]
theorem qR {w : World} {base e size n : Nat} {v : Value} {xs : List Value} (h : w.ownsRow base e size v n xs) : ∀ k,v.ownBlock = some k → k < w.heap.size := by
 intro k hk
 rcases h.2 with ⟨rfl,_⟩ | ⟨g,cap,cur,rfl,_,hcell,_⟩
 ·cases hk
 ·injection hk with hk
  dsimp only at hk
  subst hk
  exact (Array.getElem?_eq_some_iff.1 hcell).1
theorem qdf {w : World} {ops : Array Oper} {rest : List Oper} {o : Oper} {a : Act} {Q : Exit → Act → World → Prop} {T E : TypeId} {z : Value} {bt : Nat} (hu : Tryz.prog.underlying T = some (.slice E)) (hin : (Tryz.prog.info? E).map (fun i => (i.zero,i.size,i.bytes)) = some (some z,1,bt)) (hzs : z.cells.size = 1) (hbt : bt ≤ 1000) (hgd : o.guard = none) (s x : Operand)
  (ho : o.op = .call { callee := .builtin .append,args := #[s,x],argTypes := #[T,T] }) (base : Nat)
  (v : Value) (n : Nat) (xs : List Value) (y : Value) (g : Nat) (hs : a.eval s = v) (hx : a.eval x = .slice (some ⟨g,0,none⟩) 1 1) (hown : w.ownsRow base E 1 v n xs)
  (hB : w.cell? ⟨g,0,none⟩ = some y) (h1 : y.oneCell' = true) (hn : n ≤ 1000000) (hbase : base ≤ w.heap.size)
  (h : ∀ v' w',w'.ownsRow base E 1 v' (n + 1) (xs ++ [y]) → w.grownBy w' v.ownBlock → (v'.ownBlock = v.ownBlock ∨ v'.ownBlock = some w.heap.size) → wpList Tryz.prog ops Q rest (a.put o.dst v') w') : wpList Tryz.prog ops Q (o :: rest) a w := by
 obtain ⟨i,hi,hz0,hz1,hz2⟩ := info_parts hin
 have hb : (n + 1) * bt ≤ (1000000 + 1) * 1000 := Nat.mul_le_mul (by omega) hbt
 refine wpList_append_own_at w hgd s x T ho base E i _ 1 bt hu hi hz0 hz1 hz2 hzs (by decide) v n _ hs hown ⟨g,0,none⟩ 1 1 [y] hx rfl ?_ ?_ (by unfold maxLen; omega) (by omega) hbase ?_
 ·intro j u hj
  match j with
  | 0 => simp at hj; rw [← hj,qi]; exact hB
  | j + 1 => simp at hj
 ·intro u hu'
  simp at hu'
  subst hu'
  exact h1
 ·intro v' w' e1 e2 _ e3
  exact h v' w' e1 e2 e3
def ItOk (x : It) : Prop := x.op < 256 ∧ x.p < 256 ∧ -1 ≤ x.a ∧ x.a < 100000000 ∧ -1 ≤ x.b ∧ x.b < 100000000
def klI (x : It) : Lit := .string (keyBytes [.int .u8 (x.op : Int),.int .u8 (x.p : Int),.int .i64 x.a,.int .i64 x.b])
theorem q9G : laidOutB Tryz.prog = true := by kernel_rfl
theorem q66 : Tryz.prog.keyType 162 = true := by kernel_rfl
theorem q3h : Keyed Tryz.prog 162 := Keyed.of_law (deep_law_laid q9G (m := 3) (by omega) (of_decide_eq_true (by kernel_rfl)) (by kernel_rfl) (by kernel_rfl))
theorem q8b : ∃ n,Tryz.prog.types.size + 1 = n + 2 := ⟨Tryz.prog.types.size - 1,by have : 0 < Tryz.prog.types.size := of_decide_eq_true (by kernel_rfl); omega⟩
theorem q7H : Tryz.prog.cellsOf 162 = 4 := by kernel_rfl
theorem q9p : Tryz.prog.cellsOf 53 = 1 := by kernel_rfl
theorem q9r : Tryz.prog.cellsOf 5 = 1 := by kernel_rfl
theorem q7G : Tryz.prog.cellsOf 3 = 1 := by kernel_rfl
theorem q2r (x : It) (h : ItOk x) : keyOf Tryz.prog 162 (itV x) = some (klI x) := by
 obtain ⟨h1,h2,h3,h4,h5,h6⟩ := h
 obtain ⟨n,hn⟩ := q8b
 have w1 : (Lit.int .u8 (x.op : Int)).wf = true := WalkArith.wf_u8 (by omega)
 have w2 : (Lit.int .u8 (x.p : Int)).wf = true := WalkArith.wf_u8 (by omega)
 have w3 : (Lit.int .i64 x.a).wf = true := WalkArith.wf_i64 (by omega)
 have w4 : (Lit.int .i64 x.b).wf = true := WalkArith.wf_i64 (by omega)
 unfold keyOf itV klI
 rw [Tryz.underlying162,hn]
 simp [q66,Value.formed,Tryz.underlying162,q7H,Value.cells,Program.keyLits,q9p,q9r,q7G,Tryz.underlying53,Tryz.underlying5,Tryz.underlying3,w1,w2,w3,w4]
theorem qfD {x y : It} (h : itV x = itV y) : x = y := by
 unfold itV at h
 obtain ⟨a,b,c,d⟩ := x
 obtain ⟨a',b',c',d'⟩ := y
 simp at h
 obtain ⟨h1,h2,h3,h4⟩ := h
 simp only [It.mk.injEq]
 omega
theorem q56 {x y : It} (hx : ItOk x) (hy : ItOk y) (h : klI x = klI y) : x = y :=
 qfD (q3h.inj (q2r x hx) (by rw [h]; exact q2r y hy))
theorem q8s (x : It) : WideAt.IsKeyLit (klI x) := trivial
def NumOf (w : World) (b n : Nat) (f : It → Option Nat) : Prop :=
 ∃ D : DataW Unit,w.ownsMap Tryz.prog 162 (plainElem Tryz.prog 3) b n D ∧ Tidy D ∧ Maps.size D = n ∧ ∀ x,ItOk x → has D (klI x) = (f x).isSome ∧ ∀ j,f x = some j → D.atKey (klI x) (.lit (.int .i64 0)) = .lit (.int .i64 (j : Int))
theorem NumOf.lt {w : World} {b n : Nat} {f : It → Option Nat} (h : NumOf w b n f) : b < w.heap.size := by
 obtain ⟨D,h,_⟩ := h; exact h.lt
theorem NumOf.far {w w' : World} {b n : Nat} {f : It → Option Nat} (h : NumOf w b n f) (hb : w'.heap[b]? = w.heap[b]?) : NumOf w' b n f := by
 obtain ⟨D,⟨es,clock,h1,h2⟩,r⟩ := h
 exact ⟨D,⟨es,clock,hb.trans h1,h2⟩,r⟩
theorem NumOf.isMap {w : World} {b n : Nat} {f : It → Option Nat} (h : NumOf w b n f) : ∃ es c,w.heap[b]? = some (.map es c) := by
 obtain ⟨D,⟨es,clock,h1,h2⟩,r⟩ := h
 exact ⟨es,clock,h1⟩
theorem NumOf.alike {w : World} {b n : Nat} {f g : It → Option Nat} (h : NumOf w b n f) (hg : ∀ x,ItOk x → f x = g x) : NumOf w b n g := by
 obtain ⟨D,h1,h2,h3,h4⟩ := h
 exact ⟨D,h1,h2,h3,fun x hx => by rw [← hg x hx]; exact h4 x hx⟩
theorem qbh (w : World) : NumOf (w.alloc (.map #[] 0)) w.heap.size 0 (fun _ => none) :=
 ⟨.map [],World.ownsMap_made _ _ _ _,tidy_empty,rfl,fun x _ => ⟨rfl,fun j hj => by cases hj⟩⟩
theorem qaO (w : World) : (zeroValue 3).run Tryz.prog w = .ok (.int .i64 0) w := by kernel_rfl
theorem NumOf.look {w : World} {b n : Nat} {f : It → Option Nat} (h : NumOf w b n f) {x : It} (hx : ItOk x) :
  (Instr.lookup 123 (.map (some b)) (itV x) true).run Tryz.prog w = .ok (.tuple #[.int .i64 (((f x).getD 0 : Nat) : Int),.bool (f x).isSome]) w := by
 obtain ⟨D,h1,h2,h3,h4⟩ := h
 obtain ⟨hh,ha⟩ := h4 x hx
 obtain ⟨v,ps,hrun,hv⟩ := h1.look_ok q3h Tryz.underlying123 (qaO w) (plainElem_int Tryz.underlying3 (by decide)) (q2r x hx)
 obtain ⟨c,rfl,hc,hwc⟩ := plainElem_int_inv Tryz.underlying3 hv
 have hc' : D.atKey (klI x) (.lit (.int .i64 0)) = .lit (.int .i64 c) := congrArg Prod.fst hc
 rw [hrun,hh]
 cases hf : f x with
 | none =>
  rw [hf] at hh
  rw [atKey_of_not_has hh] at hc'
  injection hc' with hc'
  injection hc' with _ hc'
  subst hc'
  rfl
 | some j =>
  rw [ha j hf] at hc'
  injection hc' with hc'
  injection hc' with _ hc'
  subst hc'
  rfl
theorem NumOf.put {w : World} {b n : Nat} {f : It → Option Nat} (h : NumOf w b n f) (hn : n ≤ 100000000) {x : It} (hx : ItOk x) (hf : f x = none) (j : Nat) (hj : j ≤ 100000000) :
  ∃ w',(Instr.mapUpdate 123 (.map (some b)) (itV x) (.int .i64 (j : Int))).run Tryz.prog w = .ok () w' ∧ NumOf w' b (n + 1) (fun y => if y = x then some j else f y) ∧ w.grownBy w' (some b) := by
 obtain ⟨D,h1,h2,h3,h4⟩ := h
 obtain ⟨hh,_⟩ := h4 x hx
 rw [hf] at hh
 obtain ⟨w',hrun,hown,hg⟩ := h1.update q3h Tryz.underlying123 (by unfold maxLen; omega) (q2r x hx) (plainElem_int (a := (j : Int)) Tryz.underlying3 (WalkArith.wf_i64 (by omega)))
 refine ⟨w',hrun,⟨_,hown,h2.put (q8s x) _,?_,fun y hy => ?_⟩,hg⟩
 ·rw [size_put h2,hh,h3]; rfl
 ·dsimp only
  by_cases e : y = x
  ·subst e
   rw [if_pos rfl]
   refine ⟨has_put_same h2.isMap (q8s y) _,fun i hi => ?_⟩
   injection hi with hi
   subst hi
   exact atKey_put_same h2.isMap (q8s y) _ _
  ·have ne : klI y ≠ klI x := fun he => e (q56 hy hx he)
   rw [if_neg e,has_put_other ne]
   refine ⟨(h4 y hy).1,fun i hi => ?_⟩
   rw [atKey_put_other ne]
   exact (h4 y hy).2 i hi
theorem NumOf.drop {w : World} {b n : Nat} {f : It → Option Nat} (h : NumOf w b n f) {x : It} (hx : ItOk x) (hf : (f x).isSome = true) (ty : TypeId) :
  ∃ w',(Builtin.delete_ #[123,162] ty #[.map (some b),itV x]).run Tryz.prog w = .ok (.tuple #[]) w' ∧ NumOf w' b (n - 1) (fun y => if y = x then none else f y) ∧ w.grownBy w' (some b) := by
 obtain ⟨D,h1,h2,h3,h4⟩ := h
 obtain ⟨hh,_⟩ := h4 x hx
 rw [hf] at hh
 obtain ⟨w',hrun,hown,ht⟩ := h1.drop q3h Tryz.underlying123 (q2r x hx) ty
 have hsz : Maps.size (D.del (klI x)) = n - 1 := by
  have := size_del (k := klI x) h2
  rw [hh] at this
  simp at this
  omega
 have hown' : w'.ownsMap Tryz.prog 162 (plainElem Tryz.prog 3) b (n - 1) (D.del (klI x)) := by
  obtain ⟨es,clock,g1,g2,g3,g4⟩ := hown
  refine ⟨es,clock,g1,g2,?_,g4⟩
  rw [← hsz,g4]
  simp [Maps.size,length_sorted]
 refine ⟨w',hrun,⟨_,hown',h2.del _,hsz,fun y hy => ?_⟩,ht.grown⟩
 dsimp only
 by_cases e : y = x
 ·subst e
  rw [if_pos rfl]
  exact ⟨has_del_same,fun i hi => by cases hi⟩
 ·have ne : klI y ≠ klI x := fun he => e (q56 hy hx he)
  rw [if_neg e,has_del_other ne]
  refine ⟨(h4 y hy).1,fun i hi => ?_⟩
  rw [atKey_del_other ne]
  exact (h4 y hy).2 i hi
end Go.Proofs.YtailhklbmenaoaaGreatDoor
