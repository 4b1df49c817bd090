/- Texts of the proof, put together: what it uses. -/
import Derived.Deep.DeepCutAuto
import Derived.Lib.AppendZerosOnto
import Derived.Laws.CopyRow
import Derived.Deep.RegionHeld3
import Derived.Deep.AppendLies
import Derived.Deep.RegionWith
import Derived.Test.YtohbphocfkgdcaaY01
import Derived.Test.YtohbphocfkgdcaaY02
import Derived.Test.YtohbphocfkgdcaaY03
import Derived.Test.YtohbphocfkgdcaaY05
set_option maxRecDepth 100000
set_option maxHeartbeats 16000000
namespace Go.Proofs.Ytohbphocfkgdcaa
open Go.RowKit Go.Maps
theorem q1l {ns : List Bytes} {k : Nat} {x : Bytes} (h : ns[k]? = some x) : ns.take (k + 1) = ns.take k ++ [x] := by
 rw [List.take_add_one,h]; rfl
theorem q3L (a : Option Addr) (len cap : Nat) (ad : Nat → Addr) (xs : List ByteArray) (a' : Option Addr) (len' cap' : Nat) (ad' : Nat → Addr) (ys : List ByteArray) (w : World)
  (hS : StrSl Try.prog 30 w a len cap ad xs) (hO : StrSl Try.prog 30 w a' len' cap' ad' ys) :
  Calls Try.prog 48 #[.slice a len cap,.slice a' len' cap'] w fun e w' => e = .returned (.bool (decide (nms xs = nms ys))) ∧ ∃ n,w' = w.drewN n := by
 have hb0 := hS.bd
 have hb1 := hS.hcap
 have hb2 := hO.bd
 have hb3 := hO.hcap
 have hlx : Hid ((nms xs).length = len) := by show _ = _; rw [qj,hS.hlen]
 have hly : Hid ((nms ys).length = len') := by show _ = _; rw [qj,hO.hlen]
 unfold maxLen at hb0 hb2
 by_cases hll : len = len'
 ·subst hll
  have hidx := fun (k : Nat) (w : World) (h : k < len) => hS.idx len k w h (Nat.le_refl _)
  have hidx' := fun (k : Nat) (w : World) (h : k < len) => hO.idx len k w h (Nat.le_refl _)
  go_enter Try.func48,Try.ntmps48
  go_wp2
  go_loopw [5] (fun i wr => ∃ k : Nat,k ≤ len ∧ i = .int .i64 k ∧ Hid ((nms xs).take k = (nms ys).take k) ∧ Hid (∃ n,wr = w.drewN n)) (fun i _ => len - (intOf i).toNat)
  case atStart => exact ⟨0,Nat.zero_le _,rfl,by show _ = _; simp,0,rfl⟩
  case round =>
   obtain ⟨k,hk,rfl,HU,hwr⟩ := hrel
   by_cases hlt : k < len
   ·have hS' : StrSl Try.prog 30 wr a len cap ad xs := by obtain ⟨n,hn⟩ := hwr.out; rw [hn]; exact hS.up (below_drewN (Below.refl _ _) n)
    have hO' : StrSl Try.prog 30 wr a' len cap' ad' ys := by obtain ⟨n,hn⟩ := hwr.out; rw [hn]; exact hO.up (below_drewN (Below.refl _ _) n)
    have hck := hS'.cell k hlt
    have hck' := hO'.cell k hlt
    have hgx : Hid ((nms xs)[k]? = some (xs.getD k ByteArray.empty).toList) := qE (by rw [hS.hlen]; omega)
    have hgy : Hid ((nms ys)[k]? = some (ys.getD k ByteArray.empty).toList) := qE (by rw [hO.hlen]; omega)
    clear hS' hO'
    generalize xs.getD k ByteArray.empty = x at *
    generalize ys.getD k ByteArray.empty = y at *
    go_wp2
    go_quiet (fail)
    go_wp2
    ·rename_i ht
     have HM : Hid (decide (nms xs = nms ys) = false) := by
      have e : ¬ x.toList = y.toList := by simpa using ht
      refine decide_eq_false (fun h => e ?_)
      have h1 := hgx.out; rw [h,hgy.out] at h1; injection h1 with h1; exact h1.symm
     go_ret
     obtain ⟨n,hn⟩ := hwr.out
     exact ⟨by rw [HM.out]; rfl,n + nq,by rw [hn,World.drewN_drewN]⟩
    ·rename_i ht
     have HN2 : Hid ((nms xs).take (k + 1) = (nms ys).take (k + 1)) := by
      have e : x.toList = y.toList := by simpa using ht
      show _ = _
      rw [q1l hgx.out,q1l hgy.out,HU.out,e]
     clear ht
     go_roundw
     case rel =>
      obtain ⟨n,hn⟩ := hwr.out
      exact ⟨k + 1,by omega,by go_num,HN2,n + nq,by rw [hn,World.drewN_drewN]⟩
     case measure => simp [intOf]; omega
   ·have hx : Hid (decide (nms xs = nms ys) = true) := by
     have := HU.out
     rw [List.take_of_length_le (by rw [hlx.out]; omega),List.take_of_length_le (by rw [hly.out]; omega)] at this
     exact decide_eq_true this
    go_wp2
    go_ret
    exact ⟨by rw [hx.out]; rfl,hwr.out⟩
 ·have hx : Hid (decide (nms xs = nms ys) = false) := decide_eq_false (fun e => hll (by rw [← hlx.out,← hly.out,e]))
  have hll' : ((len : Int) != (len' : Int)) = true := by simp; omega
  clear hll
  go_enter Try.func48,Try.ntmps48
  go_wp2
  go_ret
  exact ⟨by rw [hx.out]; rfl,0,rfl⟩
def encS (ss : List ByteArray) : Array Value := (ss.map Value.string).toArray
def RowS (w : World) (e : TypeId) (g : Nat) (ss : List ByteArray) : Prop := w.heap[g]? = some (.cells (encS ss) e (0,0))
theorem q3e (ss : List ByteArray) (i : Nat) (h : i < ss.length) : (encS ss)[i]? = some (.string (ss.getD i ByteArray.empty)) := by
 simp [encS,List.getD_eq_getElem?_getD,List.getElem?_eq_getElem h]
theorem RowS.cell {w : World} {e : TypeId} {g : Nat} {ss : List ByteArray} (h : RowS w e g ss) {i : Nat} (hi : i < ss.length) : w.cell? ⟨g,i,none⟩ = some (.string (ss.getD i ByteArray.empty)) := by
 unfold RowS at h; simp [World.cell?,h]; exact q3e ss i hi
theorem RowS.lt {w : World} {e : TypeId} {g : Nat} {ss : List ByteArray} (h : RowS w e g ss) : g < w.heap.size := (Array.getElem?_eq_some_iff.1 h).1
theorem RowS.up {w w' : World} {e : TypeId} {g : Nat} {ss : List ByteArray} (h : RowS w e g ss) (hb : Below w.heap.size w w') : RowS w' e g ss := (hb.block g h.lt).trans h
theorem madeS (n : Nat) : madeCells #[.string ByteArray.empty] n = encS (List.replicate n ByteArray.empty) := by
 apply Array.ext_getElem?
 intro i
 by_cases h : i < n
 ·rw [q3e _ _ (by simpa using h)]; simp [madeCells,h,Nat.mod_one,List.getD_eq_getElem?_getD]
 ·simp [madeCells,encS,h]
theorem RowS.strSl {P : Program} {T e : TypeId} {w : World} {g n : Nat} {ss : List ByteArray} (h : RowS w e g ss) (hu : P.underlying T = some (.slice e)) (hs : (P.info? e).map (·.size) = some 1) (hn : n ≤ ss.length) (hm : ss.length ≤ maxLen) (hz : ∀ s ∈ ss,s.size ≤ maxLen) :
  StrSl P T w (some ⟨g,0,none⟩) n ss.length (adOf (some ⟨g,0,none⟩)) (ss.take n) := by
 have had : ∀ k,adOf (some ⟨g,0,none⟩) k = ⟨g,k,none⟩ := fun k => by simp [adOf,qb]
 refine ⟨by simp; omega,hn,hm,fun m k w hk hm => qh hu hs (by simp) k w hk,fun k hk => ?_,fun k hk => ?_,fun k => ?_,by simp⟩
 ·rw [had,h.cell (by omega)]; simp [List.getD_eq_getElem?_getD,hk]
 ·rw [had]; exact h.lt
 ·by_cases hk : k < (ss.take n).length
  ·have e : (ss.take n).getD k ByteArray.empty = (ss.take n)[k] := by simp [List.getD_eq_getElem?_getD,List.getElem?_eq_getElem hk]
   rw [e]; exact hz _ (List.mem_of_mem_take (List.getElem_mem hk))
  ·rw [List.getD_eq_getElem?_getD,List.getElem?_eq_none (by omega)]; simp [maxLen,ByteArray.size_empty]
theorem qt : (Try.prog.info? 9).map (·.size) = some 1 := by kernel_rfl
theorem q3D : (Try.prog.info? 9).map (fun i => (i.zero,i.size,i.bytes)) = some (some (.string ByteArray.empty),1,16) := by kernel_rfl
theorem q3G (l c : Nat) (L C : Int) (hl : L = l) (hc : C = c) (hlc : l ≤ c) (hb : c ≤ 1000000) (w : World) :
  (Instr.makeSlice 30 (.int .i64 L) (.int .i64 C)).run Try.prog w = .ok (.slice (some ⟨w.heap.size,0,none⟩) l c) (w.alloc (.cells (encS (List.replicate c ByteArray.empty)) 9)) := by
 obtain ⟨i,hi,hz0,hz1,hz2⟩ := info_parts q3D
 have := run_make (P := Try.prog) w 30 9 i (.string ByteArray.empty) Try.underlying30 hi hz0 .i64 .i64 L C (by omega) (by omega) (by rw [hz2]; omega) (by omega)
 rw [this,hl,hc,hz1]
 simp only [Int.toNat_natCast,Nat.mul_one]
 have e : (Value.string ByteArray.empty).cells = #[.string ByteArray.empty] := rfl
 rw [e,madeS]
def lent (ss : List ByteArray) : List ByteArray := ss ++ List.replicate 3 ByteArray.empty
theorem qx (ss : List ByteArray) : (lent ss).length = ss.length + 3 := by simp [lent]
theorem q2x (ss : List ByteArray) : (lent ss).take ss.length = ss := by simp [lent]
theorem q3A (a : Option Addr) (len cap : Nat) (ss : List ByteArray) (w : World) (hS : StrSl Try.prog 30 w a len cap (adOf a) ss) :
  ∃ w2,(∀ ty,(Builtin.copy_ #[30,30] ty #[.slice (some ⟨w.heap.size,0,none⟩) len (len + 3),.slice a len cap]).run Try.prog (w.alloc (.cells (encS (List.replicate (len + 3) ByteArray.empty)) 9)) = .ok (goInt len) w2) ∧
   RowS w2 9 w.heap.size (lent ss) ∧ Below w.heap.size w w2 := by
 by_cases h0 : len = 0
 ·subst h0
  have hnil : ss = [] := List.eq_nil_of_length_eq_zero hS.hlen
  subst hnil
  exact ⟨_,fun ty => run_copy_none _ _ _ ty 9 _ _ _ _ _ _ Try.underlying30 qt (by simp),(MapKept.heap_alloc w _).1,(Below.refl _ _).alloc (Nat.le_refl _) _⟩
 ·cases a with
  | none => have h1 := hS.nn rfl; have h2 := hS.hcap; exact absurd h1 (by omega)
  | some x =>
   have hlm : (ss.map Value.string).length = len := by rw [List.length_map,hS.hlen]
   have hrun := fun ty => run_copy_row (P := Try.prog) (w.alloc (.cells (encS (List.replicate (len + 3) ByteArray.empty)) 9)) 30 30 ty 9 w.heap.size 0 len (len + 3) x len cap _ 9 (ss.map Value.string) Try.underlying30 qt (MapKept.heap_alloc w _).1
    (by rw [hlm]; simp) (fun j v hj => by
     have hjl : j < len := by rw [← hlm]; exact (List.getElem?_eq_some_iff.1 hj).1
     have hc := hS.cell j hjl
     have e : v = .string (ss.getD j ByteArray.empty) := by
      rw [List.getElem?_map,List.getElem?_eq_getElem (by rw [hS.hlen]; exact hjl)] at hj
      simp [List.getD_eq_getElem?_getD,List.getElem?_eq_getElem (show j < ss.length by rw [hS.hlen]; exact hjl)]
      simpa using hj.symm
     have hc2 : w.cell? (x.add j) = some v := by rw [e]; exact hc
     exact cell_later ((Below.refl _ _).alloc (Nat.le_refl _) _) hc2) (by rw [hlm]; simp [encS]) (by
     intro v hv; obtain ⟨s,_,rfl⟩ := List.mem_map.1 hv; rfl)
   rw [hlm] at hrun
   refine ⟨_,hrun,?_,?_⟩
   ·unfold RowS
    rw [setRow_heap _ _ _ _ _ _ (MapKept.heap_alloc w _).1]
    congr 2
    apply Array.ext'
    simp [encS,lent]
   ·exact qB ((Below.refl _ _).alloc (Nat.le_refl _) _) (Nat.le_refl _) _
theorem q1E (a : Option Addr) (len cap : Nat) (ss : List ByteArray) (w : World) (hS : StrSl Try.prog 30 w a len cap (adOf a) ss) (h20 : len ≤ 20) :
  Calls Try.prog 9 #[.slice a len cap] w fun e w' => e = .returned (.slice (some ⟨w.heap.size,0,none⟩) len (len + 3)) ∧ RowS w' 9 w.heap.size (lent ss) ∧ Below w.heap.size w w' := by
 obtain ⟨w2,hcp,hrow,hb⟩ := q3A a len cap ss w hS
 have hmk := fun w => q3G len (len + 3) (len : Int) ((len : Int) + 3) rfl (by omega) (by omega) (by omega) w
 go_enter Try.func9,Try.ntmps9
 go_wp2
 go_ret
 exact ⟨rfl,hrow,hb⟩
theorem q4G (ss : List ByteArray) {k : Nat} (h1 : ss.length ≤ k) (h2 : k < ss.length + 3) : (lent ss).getD k ByteArray.empty = ByteArray.empty := by
 unfold lent; rw [List.getD_eq_getElem?_getD,List.getElem?_append_right h1,List.getElem?_replicate,if_pos (by omega)]; rfl
theorem q1C (g len : Nat) (a : Option Addr) (cap : Nat) (ad : Nat → Addr) (ss : List ByteArray) (w : World) (hR : RowS w 9 g (lent ss)) (hS : StrSl Try.prog 30 w a len cap ad ss) (h20 : len ≤ 20) :
  Calls Try.prog 23 #[.slice (some ⟨g,0,none⟩) len (len + 3),.slice a len cap] w fun e w' => e = .returned (.bool true) ∧ Hid (∃ n,w' = w.drewN n) := by
 have hl := hS.hlen
 have hcell : ∀ k,len ≤ k → k < len + 3 → w.cell? ⟨g,k,none⟩ = some (.string ByteArray.empty) := fun k h1 h2 => by
  rw [hR.cell (by rw [qx]; omega),q4G ss (by omega) (by omega)]
 have hlent : StrSl Try.prog 30 w (some ⟨g,0,none⟩) len (len + 3) (adOf (some ⟨g,0,none⟩)) ss := by
  have := hR.strSl (P := Try.prog) (T := 30) (n := len) Try.underlying30 qt (by rw [qx]; omega) (by rw [qx]; unfold maxLen; omega) (fun s hs => by
   unfold lent at hs
   rcases List.mem_append.1 hs with h | h
   ·obtain ⟨i,hi⟩ := List.getElem?_of_mem h
    have := hS.sz i
    rwa [List.getD_eq_getElem?_getD,hi] at this
   ·have := List.eq_of_mem_replicate h; subst this; simp [maxLen,ByteArray.size_empty])
  rw [qx,← hl,q2x] at this
  rw [← hl]; exact this
 have hst : Calls Try.prog 48 #[.slice (some ⟨g,0,none⟩) len (len + 3),.slice a len cap] w fun e w' => e = .returned (.bool true) ∧ Hid (∃ n,w' = w.drewN n) :=
  (q3L _ _ _ _ _ _ _ _ _ _ w hlent hS).mono fun e w' ⟨he,hn⟩ => ⟨by rw [he]; simp,hn⟩
 clear hlent hl
 go_enter Try.func23,Try.ntmps23
 go_wp2
 go_loop [6] (fun i => ∃ k : Nat,len ≤ k ∧ k ≤ len + 3 ∧ i = .int .i64 k) (fun i => len + 3 - (intOf i).toNat)
 case atStart => exact ⟨len,by omega,by omega,rfl⟩
 case round =>
  obtain ⟨k,hk1,hk,rfl⟩ := hrel
  by_cases hlt : k < len + 3
  ·have hck := hcell k hk1 hlt
   go_wp2
   go_round
   case rel => exact ⟨k + 1,by omega,by omega,by go_num⟩
   case measure => simp [intOf]; omega
  ·go_wp2_with (go_at_call 48; refine hst.mono ?_; rintro e w' ⟨rfl,hw⟩)
   go_ret
   exact ⟨rfl,hw⟩
theorem q2r {P : Program} {T e : TypeId} {w : World} {base n : Nat} {v : Value} {zs : List Int} (h : w.ownsRow base e 1 v n (zs.map (Value.int .i64))) (hu : P.underlying T = some (.slice e)) (hs : (P.info? e).map (·.size) = some 1) :
  ∃ a cap,v = .slice a n cap ∧ IntSl P T .i64 w a n cap zs ∧ ∀ k,k < n → base ≤ (adOf a k).block := by
 obtain ⟨a,cap,h1,h2,h3,_⟩ := q48 h hu hs
 exact ⟨a,cap,h1,h2,h3⟩
def RowOfI (w : World) (e : TypeId) (a : Option Addr) (cur : List Int) : Prop := (a = none ∧ cur = []) ∨ ∃ g,a = some ⟨g,0,none⟩ ∧ RowI w e g cur
theorem q3P (a b : Nat) (ha : a < 1048576) (hb : b < 1048576) : bits .xor .i64 (a : Int) (b : Int) = ((a ^^^ b : Nat) : Int) := by
 have hx : a ^^^ b < 2 ^ 20 := Nat.xor_lt_two_pow (by omega) (by omega)
 have h1 : (BitVec.ofInt 64 (a : Int)).toNat = a := by
  rw [BitVec.ofInt_natCast,BitVec.toNat_ofNat]; exact Nat.mod_eq_of_lt (by omega)
 have h2 : (BitVec.ofInt 64 (b : Int)).toNat = b := by
  rw [BitVec.ofInt_natCast,BitVec.toNat_ofNat]; exact Nat.mod_eq_of_lt (by omega)
 show IntKind.i64.wrap ((BitVec.ofInt 64 (a : Int) ^^^ BitVec.ofInt 64 (b : Int)).toNat : Int) = _
 rw [BitVec.toNat_xor,h1,h2,IntKind.wrap_i64]
 omega
def xI (z : Int) : Int := bits BinOp.xor IntKind.i64 z 21845
theorem q3u {z : Int} (h0 : 0 ≤ z) (h1 : z < 1048576) : xI z = ((z.toNat ^^^ 21845 : Nat) : Int) := by
 obtain ⟨n,rfl⟩ := Int.eq_ofNat_of_zero_le h0
 exact q3P n 21845 (by omega) (by decide)
theorem xI_bd {z : Int} (h0 : 0 ≤ z) (h1 : z < 1048576) : 0 ≤ xI z ∧ xI z < 1048576 := by
 rw [q3u h0 h1]
 have : z.toNat ^^^ 21845 < 2 ^ 20 := Nat.xor_lt_two_pow (by omega) (by decide)
 omega
theorem xI_xI {z : Int} (h0 : 0 ≤ z) (h1 : z < 1048576) : xI (xI z) = z := by
 have hb := xI_bd h0 h1
 rw [q3u hb.1 hb.2,q3u h0 h1,Int.toNat_natCast,Nat.xor_assoc,Nat.xor_self,Nat.xor_zero]; omega
theorem RowI.intSl {P : Program} {T e : TypeId} {w : World} {g n : Nat} {cur : List Int} (h : RowI w e g cur) (hu : P.underlying T = some (.slice e)) (hs : (P.info? e).map (·.size) = some 1) (hn : n ≤ cur.length) (hm : cur.length ≤ maxLen) :
  IntSl P T .i64 w (some ⟨g,0,none⟩) n cur.length (cur.take n) := by
 have had : ∀ k,adOf (some ⟨g,0,none⟩) k = ⟨g,k,none⟩ := fun k => by simp [adOf,qb]
 refine ⟨by simp; omega,hn,hm,fun m k w hk hm => qh hu hs (by simp) k w hk,fun k hk => ?_,fun k hk => ?_,by simp⟩
 ·rw [had,h.cell (by omega)]; simp [List.getD_eq_getElem?_getD,hk]
 ·rw [had]; exact h.lt
theorem q4p {P : Program} {T : TypeId} {w : World} : IntSl P T .i64 w none 0 0 [] :=
 ⟨rfl,Nat.le_refl _,Nat.zero_le _,fun m k w hk hm => absurd hk (by omega),fun k hk => absurd hk (by omega),fun k hk => absurd hk (by omega),fun _ => rfl⟩
def overToI (cur : List Int) (k : Nat) : List Int := (cur.take k).map xI ++ cur.drop k
theorem q3o (cur : List Int) : overToI cur 0 = cur := by simp [overToI]
theorem q3T (cur : List Int) : overToI cur cur.length = cur.map xI := by simp [overToI]
theorem q3V (cur : List Int) (k : Nat) : (overToI cur k).length = cur.length := by simp [overToI]; omega
theorem q3U {cur : List Int} {k : Nat} (h : k < cur.length) : (overToI cur k).getD k 0 = cur.getD k 0 := by
 unfold overToI
 rw [List.getD_eq_getElem?_getD,List.getElem?_append_right (by simp; omega)]
 simp [List.getD_eq_getElem?_getD,Nat.min_eq_left (Nat.le_of_lt h)]
theorem q3W {cur : List Int} {k : Nat} (h : k < cur.length) : (overToI cur k).set k (xI (cur.getD k 0)) = overToI cur (k + 1) := by
 unfold overToI
 have e : k - ((cur.take k).map xI).length = 0 := by simp; omega
 rw [List.drop_eq_getElem_cons h,List.set_append_right _ _ (by simp; omega),qm h,e]
 simp only [List.set_cons_zero,List.map_append,List.map_cons,List.map_nil,List.append_assoc,List.cons_append,List.nil_append]
def OverRI (e : TypeId) (a : Option Addr) (cur : List Int) (w : World) (en : Ending) (w' : World) : Prop :=
 en = .returned (.tuple #[]) ∧ RowOfI w' e a (cur.map xI) ∧ w.grownBy w' (a.map (·.block))
theorem q1g (a : Option Addr) (n : Nat) (cur : List Int) (w : World) (hR : RowOfI w 3 a cur) (hm : cur.length ≤ 1000000) :
  Calls Try.prog 52 #[.slice a n cur.length] w fun e w' => OverRI 3 a cur w e w' := by
 rcases hR with ⟨rfl,rfl⟩ | ⟨g,rfl,hrow⟩
 ·go_enter Try.func52,Try.ntmps52
  go_wp2
  refine wp_loop_rounds 1 ?_
  rw [rounds_succ]
  go_wp2
  go_end0
  exact ⟨rfl,Or.inl ⟨rfl,rfl⟩,World.grownBy.refl _ _⟩
 ·have HL : Hid (∃ M,cur.length = M) := ⟨_,rfl⟩
  obtain ⟨M,hM⟩ := HL.out
  have HM : Hid (cur.length = M) := hM
  rw [hM] at hm ⊢
  clear hM HL
  go_enter Try.func52,Try.ntmps52
  go_wp2
  go_loopw [3] (fun i wr => ∃ k : Nat,k ≤ M ∧ i = .int .i64 k ∧ RowI wr 3 g (overToI cur k) ∧ w.grownBy wr (some g)) (fun i _ => M - (intOf i).toNat)
  case atStart => exact ⟨0,Nat.zero_le _,rfl,by rw [q3o]; exact hrow,World.grownBy.refl _ _⟩
  case round =>
   obtain ⟨k,hk,rfl,hr,hg⟩ := hrel
   by_cases hlt : k < M
   ·have hc1 := hr.cell (i := k) (by rw [q3V,HM.out]; exact hlt)
    rw [q3U (by rw [HM.out]; exact hlt)] at hc1
    have hf1 := hr.frozen k
    have R1 := hr.set k (xI (cur.getD k 0))
    rw [q3W (by rw [HM.out]; exact hlt)] at R1
    have R2 : w.grownBy (wr.setCell ⟨g,k,none⟩ (.int .i64 (xI (cur.getD k 0)))) (some g) :=
     ⟨hg.os,hg.tape,hg.output,by simpa using hg.size,fun j hj hne => (heap_setCell_other wr _ j _ (fun e => hne (by rw [e]))).trans (hg.block j hj hne)⟩
    generalize cur.getD k 0 = z at *
    unfold xI at R1 R2
    clear hr hg
    go_wp2
    go_roundw
    case rel => exact ⟨k + 1,by omega,by go_num,R1,R2⟩
    case measure => simp [intOf]; omega
   ·obtain rfl : k = M := by omega
    go_wp2
    go_end0
    exact ⟨rfl,Or.inr ⟨g,rfl,by rw [← q3T,HM.out]; exact hr⟩,hg⟩
def Try.CopyRI (n : Nat) (zs : List Int) (w : World) (e : Ending) (w' : World) : Prop :=
 ∃ a' cap',e = .returned (.slice a' n cap') ∧ IntSl Try.prog 23 .i64 w' a' n cap' zs ∧ (∀ k,k < n → w.heap.size ≤ (adOf a' k).block) ∧ Below w.heap.size w w'
theorem q2q (w : World) (e : TypeId) : (w.alloc (.cells #[] e)).ownsRow w.heap.size e 1 (.slice (some ⟨w.heap.size,0,none⟩) 0 0) 0 [] :=
 ⟨rfl,Or.inr ⟨w.heap.size,0,#[],rfl,Nat.le_refl _,(MapKept.heap_alloc w _).1,Nat.le_refl _,Nat.zero_le _,rfl,rfl⟩⟩
theorem q2I (a : Option Addr) (n cap : Nat) (zs : List Int) (w : World) (hS : IntSl Try.prog 23 .i64 w a n cap zs) (hn : n ≤ 1000000) :
  Calls Try.prog 51 #[.slice a n cap] w fun e w' => Try.CopyRI n zs w e w' := by
 obtain ⟨i0,hi,hz0,hz1,hz2⟩ := info_parts q1B
 have HI : Hid (Try.prog.info? 3 = some i0) := hi
 have HZ0 : Hid (i0.zero = some (.int .i64 0)) := hz0
 have HZ1 : Hid (i0.size = 1) := hz1
 have HZ2 : Hid (i0.bytes = 8) := hz2
 clear hi hz0 hz1 hz2
 have hown := q2q w 3
 have fin : ∀ (v : Value) (w1 : World),w1.ownsRow w.heap.size 3 1 v n (zs.map (Value.int .i64)) → (w.alloc (.cells #[] 3)).grownBy w1 (some w.heap.size) → Try.CopyRI n zs w (.returned v) w1 := by
  intro v w1 h1 h2
  obtain ⟨a',cap',rfl,hsl,hblk⟩ := q2r h1 Try.underlying23 qe
  exact ⟨a',cap',rfl,hsl,hblk,((Below.refl _ _).alloc (Nat.le_refl _) _).grown h2 (by simp) (fun k hk => by cases hk; exact Nat.le_refl _)⟩
 have HF : Hid _ := fin
 clear fin
 cases a with
 | none =>
  have hc0 := hS.nn rfl
  have hn0 : n = 0 := by have := hS.hcap; omega
  subst hc0 hn0
  have hzs : zs = [] := List.eq_nil_of_length_eq_zero hS.hlen
  subst hzs
  go_enter Try.func51,Try.ntmps51
  go_wp2_with (at_builtin; refine wpList_append_fits_any _ rfl _ _ 23 rfl w.heap.size 3 i0 1 Try.underlying23 HI.out HZ1.out w.heap.size 0 0 [] rfl hown none 0 0 [] rfl rfl (fun _ => ⟨rfl,rfl⟩) (fun _ h => by cases h) (fun _ h => by cases h) (Nat.le_refl _) ?_)
  intro w1 hown1 hgrow1
  have HE := HF.out _ _ hown1 hgrow1
  clear hown1 hgrow1 hown
  go_wp2
  go_ret
  exact HE
 | some x =>
  have hnews : ∀ j u,(zs.map (Value.int .i64))[j]? = some u → (w.alloc (.cells #[] 3)).cell? (x.add j) = some u := by
   intro j u hj
   have hjl : j < zs.length := by have := (List.getElem?_eq_some_iff.1 hj).1; simpa using this
   have hc := hS.cell j (by rw [← hS.hlen]; exact hjl)
   have e : u = .int .i64 (zs.getD j 0) := by
    rw [List.getElem?_map,List.getElem?_eq_getElem hjl] at hj
    simp [List.getD_eq_getElem?_getD,List.getElem?_eq_getElem hjl]
    simpa using hj.symm
   have hc2 : w.cell? (x.add j) = some u := by rw [e]; exact hc
   exact cell_later ((Below.refl _ _).alloc (Nat.le_refl _) _) hc2
  have hlz : (zs.map (Value.int .i64)).length = n * 1 := by rw [List.length_map,hS.hlen,Nat.mul_one]
  go_enter Try.func51,Try.ntmps51
  go_wp2_with (at_builtin; refine wpList_append_own _ rfl _ _ 23 rfl w.heap.size 3 i0 (.int .i64 0) 1 8 Try.underlying23 HI.out HZ0.out HZ1.out HZ2.out rfl (by decide) _ 0 _ rfl hown x n cap (zs.map (Value.int .i64)) rfl hlz hnews (ints_oneCell .i64 zs) (by unfold maxLen; omega) (by omega) (by simp) ?_)
  intro v' w1 hown1 hgrow1 _
  have HE : Hid (Try.CopyRI n zs w (.returned v') w1) := HF.out v' w1 (by simpa using hown1) hgrow1
  clear hown1 hgrow1 hown hnews hlz
  go_wp2
  go_ret
  exact HE.out
theorem RowOfI.up {w w' : World} {e : TypeId} {a : Option Addr} {cur : List Int} (h : RowOfI w e a cur) (hb : Below w.heap.size w w') : RowOfI w' e a cur := by
 rcases h with h | ⟨g,h1,h2⟩
 ·exact Or.inl h
 ·exact Or.inr ⟨g,h1,h2.up hb⟩
theorem RowOfI.lt {w : World} {e : TypeId} {a : Option Addr} {cur : List Int} (h : RowOfI w e a cur) : ∀ b,a.map (·.block) = some b → b < w.heap.size := by
 rcases h with ⟨rfl,_⟩ | ⟨g,rfl,h2⟩
 ·intro b hb; cases hb
 ·intro b hb; cases hb; exact h2.lt
theorem RowOfI.intSl {P : Program} {T e : TypeId} {w : World} {a : Option Addr} {cur : List Int} (h : RowOfI w e a cur) (hu : P.underlying T = some (.slice e)) (hs : (P.info? e).map (·.size) = some 1) (hm : cur.length ≤ maxLen) : IntSl P T .i64 w a cur.length cur.length cur := by
 rcases h with ⟨rfl,rfl⟩ | ⟨g,rfl,h2⟩
 ·exact q4p
 ·have := h2.intSl hu hs (Nat.le_refl _) hm; rwa [List.take_length] at this
theorem RowOfI.grown {w w' : World} {e : TypeId} {a : Option Addr} {cur : List Int} {row : Option Nat} (h : RowOfI w e a cur) (hg : w.grownBy w' row) (hne : a = none ∨ a.map (·.block) ≠ row) : RowOfI w' e a cur := by
 rcases h with h | ⟨g,h1,h2⟩
 ·exact Or.inl h
 ·refine Or.inr ⟨g,h1,(hg.block g h2.lt ?_).trans h2⟩
  subst h1
  rcases hne with h | h
  ·cases h
  ·exact h
theorem IntSl.grown {P : Program} {T : TypeId} {q : IntKind} {w w' : World} {a : Option Addr} {len cap : Nat} {zs : List Int} {row : Option Nat} (h : IntSl P T q w a len cap zs) (hg : w.grownBy w' row) (hne : ∀ k,k < len → some (adOf a k).block ≠ row) : IntSl P T q w' a len cap zs :=
 ⟨h.hlen,h.hcap,h.bd,h.idx,fun k hk => hg.cell (h.cell k hk) (hne k hk),fun k hk => Nat.lt_of_lt_of_le (h.blk k hk) hg.size,h.nn⟩
structure ApSI (g m : Nat) (an : Nat → Option Addr) (nn : Nat → Nat) (cu : Nat → List Int) : Prop where
 ne : ∀ j k,j < m → k < m → j ≠ k → an j = none ∨ (an j).map (·.block) ≠ (an k).map (·.block)
 gne : ∀ k,k < m → (an k).map (·.block) ≠ some g
 len : ∀ k,(cu k).length ≤ 1000000
 val : ∀ k,∀ z ∈ cu k,0 ≤ z ∧ z < 1048576
 few : m ≤ 1000
structure ApartI (e : TypeId) (w : World) (g m : Nat) (an : Nat → Option Addr) (nn : Nat → Nat) (cu : Nat → List Int) : Prop where
 hd : ∀ k,k < m → w.cell? ⟨g,k,none⟩ = some (.slice (an k) (nn k) (cu k).length)
 row : ∀ k,k < m → RowOfI w e (an k) (cu k)
 glt : g < w.heap.size
theorem ApartI.up {e : TypeId} {w w' : World} {g m : Nat} {an : Nat → Option Addr} {nn : Nat → Nat} {cu : Nat → List Int} (h : ApartI e w g m an nn cu) (hb : Below w.heap.size w w') : ApartI e w' g m an nn cu :=
 ⟨fun k hk => cell_later hb (h.hd k hk),fun k hk => (h.row k hk).up hb,Nat.lt_of_lt_of_le h.glt hb.size⟩
def Try.CopiesI (w : World) (gw m : Nat) (cu : Nat → List Int) (k : Nat) : Prop :=
 ∃ H : Array Value,w.heap[gw]? = some (.cells H 23 (0,0)) ∧ H.size = m ∧
  ∀ j,j < k → ∃ a' c',H[j]? = some (.slice a' (cu j).length c') ∧ IntSl Try.prog 23 .i64 w a' (cu j).length c' (cu j) ∧ ∀ t,t < (cu j).length → gw < (adOf a' t).block
theorem Try.CopiesI.grown {w w' : World} {gw m : Nat} {cu : Nat → List Int} {k : Nat} {row : Option Nat} (h : Try.CopiesI w gw m cu k) (hg : w.grownBy w' row) (hr : ∀ b,row = some b → b < gw) : Try.CopiesI w' gw m cu k := by
 obtain ⟨H,h1,h2,h3⟩ := h
 have hlt : gw < w.heap.size := (Array.getElem?_eq_some_iff.1 h1).1
 refine ⟨H,(hg.block gw hlt (fun e => by have := hr gw e.symm; omega)).trans h1,h2,fun j hj => ?_⟩
 obtain ⟨a',c',e1,e2,e3⟩ := h3 j hj
 exact ⟨a',c',e1,e2.grown hg (fun t ht e => by have := hr _ e.symm; have := e3 t ht; omega),e3⟩
theorem Try.CopiesI.next {wr w1 : World} {gw m : Nat} {cu : Nat → List Int} {j : Nat} {a' : Option Addr} {c' : Nat} (hC : Try.CopiesI wr gw m cu j) (hjm : j < m) (hbw : Below wr.heap.size wr w1)
  (hsl : IntSl Try.prog 23 .i64 w1 a' (cu j).length c' (cu j)) (hblk : ∀ k,k < (cu j).length → wr.heap.size ≤ (adOf a' k).block) : Try.CopiesI (w1.setCell ⟨gw,j,none⟩ (.slice a' (cu j).length c')) gw m cu (j + 1) := by
 obtain ⟨H,h1,h2,h3⟩ := hC
 have hlt : gw < wr.heap.size := (Array.getElem?_eq_some_iff.1 h1).1
 have h1' := (hbw.block gw hlt).trans h1
 have hgr : w1.grownBy (w1.setCell ⟨gw,j,none⟩ (.slice a' (cu j).length c')) (some gw) := ⟨rfl,rfl,rfl,by simp,fun k hk hne => heap_setCell_other w1 _ k _ (fun e => hne (by rw [e]))⟩
 refine ⟨_,heap_setCell_same w1 gw j H _ _ h1',by simp [h2],fun t ht => ?_⟩
 by_cases e : t = j
 ·subst e
  refine ⟨a',c',by simp [h2,hjm],hsl.grown hgr (fun k hk e => ?_),fun k hk => Nat.lt_of_lt_of_le hlt (hblk k hk)⟩
  have := hblk k hk; injection e with e; omega
 ·obtain ⟨a2,c2,e1,e2,e3⟩ := h3 t (by omega)
  refine ⟨a2,c2,?_,(e2.up hbw).grown hgr (fun k hk e => ?_),e3⟩
  ·rw [Array.getElem?_setIfInBounds_ne (by omega)]; exact e1
  ·have := e3 k hk; injection e with e; omega
theorem q4v {e : TypeId} {a : Option Addr} {cur : List Int} {W0 wr w2 w4 : World} (h0 : RowOfI W0 e a cur) (hbx : Below W0.heap.size W0 wr) (hg2 : wr.grownBy w2 (a.map (·.block))) (hg4 : w2.grownBy w4 (a.map (·.block))) (h4 : RowOfI w4 e a cur) : Below W0.heap.size W0 w4 := by
 refine ⟨hg4.os.trans (hg2.os.trans hbx.os),hg4.tape.trans (hg2.tape.trans hbx.tape),hg4.output.trans (hg2.output.trans hbx.output),Nat.le_trans hbx.size (Nat.le_trans hg2.size hg4.size),fun k hk => ?_⟩
 have k1 : k < wr.heap.size := Nat.lt_of_lt_of_le hk hbx.size
 have k2 : k < w2.heap.size := Nat.lt_of_lt_of_le k1 hg2.size
 by_cases hr : some k = a.map (·.block)
 ·rcases h0 with ⟨rfl,_⟩ | ⟨g,rfl,h0⟩
  ·cases hr
  ·rcases h4 with ⟨h4,_⟩ | ⟨g',h4',h4⟩
   ·cases h4
   ·injection h4' with h4'; injection h4' with h4'; subst h4'
    injection hr with hr; simp at hr; subst hr
    exact h4.trans h0.symm
 ·exact (hg4.block k k2 hr).trans ((hg2.block k k1 hr).trans (hbx.block k hk))
theorem q5F {cur : List Int} (h : ∀ z ∈ cur,0 ≤ z ∧ z < 1048576) : (cur.map xI).map xI = cur := by
 rw [List.map_map]
 conv => rhs; rw [← List.map_id cur]
 exact List.map_congr_left fun z hz => by simp; exact xI_xI (h z hz).1 (h z hz).2
theorem q3F (l : Nat) (hb : l ≤ 1000) (w : World) :
  (Instr.makeSlice 34 (.int .i64 (l : Int)) (.int .i64 (l : Int))).run Try.prog w = .ok (.slice (some ⟨w.heap.size,0,none⟩) l l) (w.alloc (.cells (madeCells #[.slice none 0 0] l) 23)) := by
 have hinfo : (Try.prog.info? 23).map (fun i => (i.zero,i.size,i.bytes)) = some (some (.slice none 0 0),1,24) := by kernel_rfl
 obtain ⟨i,hi,hz0,hz1,hz2⟩ := info_parts hinfo
 have := run_make (P := Try.prog) w 34 23 i (.slice none 0 0) Try.underlying34 hi hz0 .i64 .i64 l l (by omega) (by omega) (by rw [hz2]; omega) (by omega)
 rw [this,hz1]
 simp only [Int.toNat_natCast,Nat.mul_one]
 rfl
def auZ : Obj := .cells #[.int .i64 0,.slice none 0 0,.slice none 0 0,.slice none 0 0] 26 (0,0)
structure LaM (w wx : World) (p : Int) (aA : Option Addr) (nA cA : Nat) (aG : Option Addr) (nG cG : Nat) (aN : Option Addr) (nN cN : Nat) (gs : List Int) (vb gb : Nat) : Prop where
 box : AuB wx w.heap.size p aA nA cA aG nG cG aN nN cN
 res : wx.heap[w.heap.size + 1]? = some auZ
 new : wx.heap[vb]? = some (.cells #[.int .i64 p,.slice none 0 0,.slice (some ⟨gb,0,none⟩) nG (nG + 3),.slice none 0 0] 26 (0,0))
 row : RowI wx 3 gb (lentZ gs)
 vlt : w.heap.size + 1 < vb
 glt : w.heap.size + 1 < gb
 bel : Below w.heap.size w wx
theorem LaM.after {w w2 w6 : World} {p : Int} {aA : Option Addr} {nA cA : Nat} {aG : Option Addr} {nG cG : Nat} {aN : Option Addr} {nN cN : Nat} {gs : List Int} (hs : w2.heap.size = w.heap.size + 2) (hb : Below w.heap.size w w2) (hA : AuB w2 w.heap.size p aA nA cA aG nG cG aN nN cN) (hz : w2.heap[w.heap.size + 1]? = some auZ) (hr : RowI w6 3 w2.heap.size (lentZ gs)) (h6 : Below w2.heap.size w2 w6) :
  LaM w (w6.alloc (.cells #[.int .i64 p,.slice none 0 0,.slice (some ⟨w2.heap.size,0,none⟩) nG (nG + 3),.slice none 0 0] 26 (0,0))) p aA nA cA aG nG cG aN nN cN gs w6.heap.size w2.heap.size := by
 have hn := q9 w6 (.cells #[.int .i64 p,.slice none 0 0,.slice (some ⟨w2.heap.size,0,none⟩) nG (nG + 3),.slice none 0 0] 26 (0,0))
 have hb6 := q7 h6 hn
 have hsz := h6.size
 exact ⟨hA.up hb6,(hb6.block _ (by omega)).trans hz,(MapKept.heap_alloc w6 _).1,(hn.block _ (Array.getElem?_eq_some_iff.1 hr).1).trans hr,by omega,by omega,q7 hb hb6⟩
theorem LaM.ahead {w w2 w6 : World} {p : Int} {aA : Option Addr} {nA cA : Nat} {aG : Option Addr} {nG cG : Nat} {aN : Option Addr} {nN cN : Nat} {gs : List Int} (hs : w2.heap.size = w.heap.size + 2) (hb : Below w.heap.size w w2) (hA : AuB w2 w.heap.size p aA nA cA aG nG cG aN nN cN) (hz : w2.heap[w.heap.size + 1]? = some auZ) (hr : RowI w6 3 (w2.heap.size + 1) (lentZ gs)) (h6 : Below (w2.alloc auZ).heap.size (w2.alloc auZ) w6) :
  LaM w ((((w6.setCell ⟨w2.heap.size,0,none⟩ (.int .i64 p)).setCell ⟨w2.heap.size,1,none⟩ (.slice none 0 0)).setCell ⟨w2.heap.size,2,none⟩ (.slice (some ⟨w2.heap.size + 1,0,none⟩) nG (nG + 3))).setCell ⟨w2.heap.size,3,none⟩ (.slice none 0 0)) p aA nA cA aG nG cG aN nN cN gs w2.heap.size (w2.heap.size + 1) := by
 have hn := q9 w2 auZ
 have hb6 := q7 hn h6
 have hsz := hb6.size
 have h0 : w6.heap[w2.heap.size]? = some auZ := (h6.block _ (by simp)).trans (MapKept.heap_alloc w2 _).1
 unfold auZ at h0
 have e1 := heap_setCell_same w6 w2.heap.size 0 _ _ (.int .i64 p) h0
 have e2 := heap_setCell_same _ w2.heap.size 1 _ _ (.slice none 0 0) e1
 have e3 := heap_setCell_same _ w2.heap.size 2 _ _ (.slice (some ⟨w2.heap.size + 1,0,none⟩) nG (nG + 3)) e2
 have e4 := heap_setCell_same _ w2.heap.size 3 _ _ (.slice none 0 0) e3
 have far : ∀ k,k ≠ w2.heap.size → ((((w6.setCell ⟨w2.heap.size,0,none⟩ (.int .i64 p)).setCell ⟨w2.heap.size,1,none⟩ (.slice none 0 0)).setCell ⟨w2.heap.size,2,none⟩ (.slice (some ⟨w2.heap.size + 1,0,none⟩) nG (nG + 3))).setCell ⟨w2.heap.size,3,none⟩ (.slice none 0 0)).heap[k]? = w6.heap[k]? := fun k hk =>
  (Below.heap_setCell _ _ _ _ (by dsimp only; exact hk)).trans ((Below.heap_setCell _ _ _ _ (by dsimp only; exact hk)).trans ((Below.heap_setCell _ _ _ _ (by dsimp only; exact hk)).trans (Below.heap_setCell _ _ _ _ (by dsimp only; exact hk))))
 have hA6 := hA.up hb6
 have cf : ∀ (q : Addr) v,q.block ≠ w2.heap.size → w6.cell? q = some v → ((((w6.setCell ⟨w2.heap.size,0,none⟩ (.int .i64 p)).setCell ⟨w2.heap.size,1,none⟩ (.slice none 0 0)).setCell ⟨w2.heap.size,2,none⟩ (.slice (some ⟨w2.heap.size + 1,0,none⟩) nG (nG + 3))).setCell ⟨w2.heap.size,3,none⟩ (.slice none 0 0)).cell? q = some v := fun q v hq hc => by
  have := far q.block hq
  unfold World.cell? at hc ⊢
  rw [this]; exact hc
 have hne : ∀ o,(⟨w.heap.size,o,none⟩ : Addr).block ≠ w2.heap.size := fun o => by dsimp only; omega
 exact ⟨⟨cf _ _ (hne _) hA6.c0,cf _ _ (hne _) hA6.c1,cf _ _ (hne _) hA6.c2,cf _ _ (hne _) hA6.c3⟩,(far _ (by omega)).trans ((hb6.block _ (by omega)).trans hz),e4,(far _ (by omega)).trans hr,by omega,by omega,((((q7 hb hb6).setCell (by dsimp only; omega) _).setCell (by dsimp only; omega) _).setCell (by dsimp only; omega) _).setCell (by dsimp only; omega) _⟩
def LaRN (p : Int) (nA nG nN : Nat) (bs : List Bool) (gs : List Int) (N : List Gd) (w : World) (e : Ending) (w' : World) : Prop := ∃ b1 gb b2,e = .returned (.agg #[.int .i64 p,.slice (some ⟨b1,0,none⟩) nA (nA + 3),.slice (some ⟨gb,0,none⟩) nG (nG + 3),.slice (some ⟨b2,0,none⟩) nN (nN + 3)]) ∧ BoRow w' b1 (bs ++ zB 3) ∧ RowI w' 3 gb (lentZ gs) ∧ NdRow w' b2 (N ++ zG 3) ∧ Below w.heap.size w w' ∧ w.heap.size ≤ b1 ∧ w.heap.size ≤ gb ∧ w.heap.size ≤ b2
theorem q1U (p : Int) (aA : Option Addr) (nA cA : Nat) (aG : Option Addr) (nG cG : Nat) (aN : Option Addr) (nN cN : Nat) (bs : List Bool) (gs : List Int) (N : List Gd) (w : World)
  (h1 : BoSl w aA nA cA bs) (h2 : ZSl w aG nG cG gs) (h3 : NdSl w aN nN cN N) (hA : nA ≤ 900000) (hG : nG ≤ 900000) (hN : nN ≤ 900000) :
  Calls Try.prog 8 #[.agg #[.int .i64 p,.slice aA nA cA,.slice aG nG cG,.slice aN nN cN]] w (LaRN p nA nG nN bs gs N w) := by
 obtain ⟨Q,eQ⟩ : ∃ Q,Q = LaRN p nA nG nN bs gs N w := ⟨_,rfl⟩
 have HQ : Hid (∀ e w',LaRN p nA nG nN bs gs N w e w' → Q e w') := fun e w' h => by rw [eQ]; exact h
 rw [← eQ]
 clear eQ
 have HA0 : Hid _ := qd w p aA nA cA aG nG cG aN nN cN
 have HB0 : Hid _ := q9 w (.cells #[.int .i64 p,.slice aA nA cA,.slice aG nG cG,.slice aN nN cN] 26 (0,0))
 have HL : Hid (∀ w',Below w.heap.size w w' → Calls Try.prog 32 #[.slice aG nG cG] w' fun e w2 => e = .returned (.slice (some ⟨w'.heap.size,0,none⟩) nG (nG + 3)) ∧ RowI w2 3 w'.heap.size (lentZ gs) ∧ Below w'.heap.size w' w2) := fun w' hb => q1f aG nG cG gs w' (h2.up hb) hG
 have HH1 : Hid _ := h1
 have HH3 : Hid _ := h3
 clear h1 h2 h3
 generalize hw1 : w.alloc (.cells #[.int .i64 p,.slice aA nA cA,.slice aG nG cG,.slice aN nN cN] 26 (0,0)) = w1 at *
 have hs1 : w1.heap.size = w.heap.size + 1 := by rw [← hw1]; simp
 have HB1 : Hid _ := q7 HB0.out (q9 w1 auZ)
 have HA1 : Hid _ := HA0.out.up (q9 w1 auZ)
 have HZ1 : Hid ((w1.alloc auZ).heap[w.heap.size + 1]? = some auZ) := by
  have := (MapKept.heap_alloc w1 auZ).1
  rw [hs1] at this
  exact this
 have HS2 : Hid ((w1.alloc auZ).heap.size = w.heap.size + 2) := by show _ = _; simp [hs1]
 unfold auZ at HB1 HA1 HZ1 HS2
 generalize hw2 : w1.alloc (.cells #[.int .i64 0,.slice none 0 0,.slice none 0 0,.slice none 0 0] 26 (0,0)) = w2 at *
 obtain ⟨c0,c1,c2,c3⟩ := HA1.out
 have j1 := HL.out w2.drew (HB1.out.drew)
 have HB2 : Hid _ := q7 HB1.out (q9 w2 auZ)
 have HZ : Hid _ := (MapKept.heap_alloc w2 auZ).1
 have HZZ : Hid (∀ w6,Below (w2.alloc auZ).drew.heap.size (w2.alloc auZ).drew w6 → w6.heap[w2.heap.size]? = some auZ) := fun w6 hb => (hb.block _ (by simp)).trans HZ.out
 have HX1 : Hid (∀ w6,Below w2.drew.heap.size w2.drew w6 → AuB w6 w.heap.size p aA nA cA aG nG cG aN nN cN) := fun w6 hb => (HA1.out.up ((Below.refl _ _).drew)).up hb
 have HX2 : Hid (∀ w6,Below (w2.alloc auZ).drew.heap.size (w2.alloc auZ).drew w6 → AuB w6 w.heap.size p aA nA cA aG nG cG aN nN cN) := fun w6 hb => ((HA1.out.up (q9 w2 auZ)).up ((Below.refl _ _).drew)).up hb
 obtain ⟨d0,d1,d2,d3⟩ := HA1.out.up (q9 w2 auZ)
 have j2 := HL.out (w2.alloc auZ).drew (HB2.out.drew)
 have HFA : Hid (∀ w6,RowI w6 3 w2.heap.size (lentZ gs) → Below w2.drew.heap.size w2.drew w6 → _) := fun w6 q1 q2 => LaM.after (nG := nG) HS2.out HB1.out HA1.out HZ1.out q1 (q7 ((Below.refl w2.heap.size w2).drew) q2)
 have HFB : Hid (∀ w6,RowI w6 3 (w2.heap.size + 1) (lentZ gs) → Below (w2.alloc auZ).drew.heap.size (w2.alloc auZ).drew w6 → _) := fun w6 q1 q2 => LaM.ahead (nG := nG) HS2.out HB1.out HA1.out HZ1.out q1 (q7 ((Below.refl (w2.alloc auZ).heap.size (w2.alloc auZ)).drew) q2)
 unfold auZ at d0 d1 d2 d3 j2 HZZ HX2
 go_enter Try.func8,Try.ntmps8
 go_upto_region 7 with fail
 clear hw1 hw2
 go_cut [3] (fun t wx => ∃ (vb gb : Nat),t = .pointer (some ⟨vb,0,none⟩) ∧ Hid (LaM w wx p aA nA cA aG nG cG aN nN cN gs vb gb))
 case first =>
  go_region_with (first
   | (revert j1; intro j1; go_at_call 32; (with_reducible refine j1.mono ?_); rintro e w6 ⟨rfl,hr6,hb6⟩; have x0 := (HX1.out w6 hb6).c0; have x0b := qa x0 (q9 w6 (.cells #[.int .i64 0,.slice none 0 0,.slice none 0 0,.slice none 0 0] 26 (0,0))); have HE : Hid _ := HFA.out w6 hr6 hb6; clear hr6 hb6)
   | (revert j2; intro j2; go_at_call 32; (with_reducible refine j2.mono ?_); rintro e w6 ⟨rfl,hr6,hb6⟩; have x0 := (HX2.out w6 hb6).c0; have hz6 := HZZ.out w6 hb6; have HE : Hid _ := HFB.out w6 (by simpa using hr6) hb6; clear hr6 hb6; have z0 := q8 hz6 0; have z1 := q8 hz6 1; have z2 := q8 hz6 2; have z3 := q8 hz6 3; have f0 := frozen_of_row w6 _ 0 _ _ hz6; have f1 := frozen_of_row w6 _ 1 _ _ hz6; have f2 := frozen_of_row w6 _ 2 _ _ hz6; have f3 := frozen_of_row w6 _ 3 _ _ hz6; simp only [List.getElem?_toArray,List.getElem?_cons_zero,List.getElem?_cons_succ] at z0 z1 z2 z3)
   | fail)
  all_goals
   go_wp2_with fail
   go_meet
   first
    | exact ⟨_,_,rfl,HE⟩
    | exact ⟨_,_,rfl,HE.out.drew⟩
    | fail
 case rest =>
  obtain ⟨vb,gb,rfl,HM⟩ := hcut
  clear HA0 HB0 HL HB1 HA1 HZ1 HS2 HB2 HZ HZZ HX1 HX2 HFA HFB j1 j2 c0 c1 c2 c3 d0 d1 d2 d3
  have HGL : Hid (w.heap.size + 1 < gb ∧ w.heap.size ≤ wc.heap.size) := ⟨HM.out.glt,HM.out.bel.size⟩
  have k1 := HM.out.box.c1
  have hmk := fun w => q4g nA (nA + 3) (nA : Int) ((nA : Int) + 3) rfl (by omega) (by omega) (by omega) w
  have hb3 := q9 wc (.cells ((zB (nA + 3)).map Value.bool).toArray 4)
  have hr3 : BoRow (wc.alloc (.cells ((zB (nA + 3)).map Value.bool).toArray 4)) wc.heap.size (zB (nA + 3)) := (MapKept.heap_alloc wc _).1
  have hvl := (Array.getElem?_eq_some_iff.1 HM.out.new).1
  have hv3 := (hb3.block vb hvl).trans HM.out.new
  obtain ⟨Z,hZ⟩ : ∃ Z,Z = ((zB (nA + 3)).map Value.bool).toArray := ⟨_,rfl⟩
  simp only [← hZ] at hmk hb3 hr3 hv3
  clear hZ
  have k1b := qa k1 hb3
  have y1 : (wc.alloc (.cells Z 4)).cell? ⟨vb,1,none⟩ = some (.slice none 0 0) := q8 hv3 1
  have z1 : (wc.alloc (.cells Z 4)).frozen? ⟨vb,1,none⟩ = false := frozen_of_row _ _ 1 _ _ hv3
  obtain ⟨w3,hw3⟩ : ∃ w3,w3 = (wc.alloc (.cells Z 4)).setCell ⟨vb,1,none⟩ (.slice (some ⟨wc.heap.size,0,none⟩) nA (nA + 3)) := ⟨_,rfl⟩
  have hne3 : ∀ k,k ≠ vb → w3.heap[k]? = (wc.alloc (.cells Z 4)).heap[k]? := fun k hk => by rw [hw3]; exact Below.heap_setCell _ _ _ _ (by dsimp only; exact hk)
  have hw3v : w3.heap[vb]? = some (.cells #[.int .i64 p,.slice (some ⟨wc.heap.size,0,none⟩) nA (nA + 3),.slice (some ⟨gb,0,none⟩) nG (nG + 3),.slice none 0 0] 26 (0,0)) := by
   rw [hw3,heap_setCell_same _ vb 1 _ _ _ hv3]; rfl
  have hbel3 : Below w.heap.size w w3 := by rw [hw3]; exact (q7 HM.out.bel hb3).setCell (by dsimp only; have := HM.out.vlt; omega) _
  have hr3' : BoRow w3 wc.heap.size (zB (nA + 3)) := (hne3 _ (by omega)).trans hr3
  obtain ⟨w4,hcp,hrow4,hbel4,hfar4⟩ := q4b wc.heap.size aA nA cA bs w3 hr3' (HH1.out.up hbel3) w.heap.size (by have := HM.out.bel.size; omega) w hbel3
  have lk : ∀ k,k < wc.heap.size → k ≠ vb → w4.heap[k]? = wc.heap[k]? := fun k hk hv => (hfar4 k (by omega)).trans ((hne3 k hv).trans (hb3.block k hk))
  have hv4 : w4.heap[vb]? = some (.cells #[.int .i64 p,.slice (some ⟨wc.heap.size,0,none⟩) nA (nA + 3),.slice (some ⟨gb,0,none⟩) nG (nG + 3),.slice none 0 0] 26 (0,0)) := (hfar4 vb (by omega)).trans hw3v
  have hbx : ∀ {q : Addr} {v : Value},wc.cell? q = some v → q.block ≠ vb → w4.cell? q = some v := fun {q v} hc hq => by
   have hl := World.block_lt_of_cell? _ _ hc
   have := lk q.block hl hq
   unfold World.cell? at hc ⊢
   rw [this]; exact hc
  have hbne : ∀ o,(⟨w.heap.size,o,none⟩ : Addr).block ≠ vb := fun o => by have := HM.out.vlt; dsimp only; omega
  have q3 := hbx HM.out.box.c3 (hbne _)
  have y1c : w3.cell? ⟨vb,1,none⟩ = some (.slice (some ⟨wc.heap.size,0,none⟩) nA (nA + 3)) := q8 hw3v 1
  have q1c : w3.cell? ⟨w.heap.size,1,none⟩ = some (.slice aA nA cA) := by
   have := k1b
   have h2 := hne3 w.heap.size (hbne 1)
   unfold World.cell? at this ⊢
   rw [h2]; exact this
  rw [hw3] at hcp y1c q1c
  have HV4 : Hid _ := hv4
  have HRW4 : Hid _ := hrow4
  have HBL4 : Hid _ := hbel4
  have HRS4 : Hid (w4.heap[w.heap.size + 1]? = some auZ) := (lk _ (Array.getElem?_eq_some_iff.1 HM.out.res).1 (by have := HM.out.vlt; omega)).trans HM.out.res
  have HGB4 : Hid (RowI w4 3 gb (lentZ gs)) := (lk _ (Array.getElem?_eq_some_iff.1 HM.out.row).1 (fun e => by
   have h1 := HM.out.row
   have h2 := HM.out.new
   unfold RowI at h1
   rw [e,h2] at h1
   injection h1 with h1
   injection h1 with _ h1 _
   exact absurd h1 (by decide))).trans HM.out.row
  have HVL : Hid (w.heap.size + 1 < vb ∧ vb < wc.heap.size ∧ vb < w4.heap.size) := ⟨HM.out.vlt,hvl,(Array.getElem?_eq_some_iff.1 hv4).1⟩
  have HWC : Hid (wc.heap.size < w4.heap.size) := (Array.getElem?_eq_some_iff.1 hrow4).1
  have HQ4 : Hid (∀ w',Below w4.heap.size w4 w' → w'.cell? ⟨w.heap.size,3,none⟩ = some (.slice aN nN cN)) := fun w' hb => qa q3 hb
  clear hb3 hr3 hv3 hne3 hw3v hbel3 hr3' lk hv4 hbx hbne hrow4 hbel4 hfar4 hw3 HM hvl
  have hmkN := fun w => q4k nN (nN + 3) (nN : Int) ((nN : Int) + 3) rfl (by omega) (by omega) (by omega) w
  have hb5 := q9 w4 (.cells (encGd (zG (nN + 3))).toArray 75)
  have hr5 : NdRow (w4.alloc (.cells (encGd (zG (nN + 3))).toArray 75)) w4.heap.size (zG (nN + 3)) := (MapKept.heap_alloc w4 _).1
  have hv5 := (hb5.block vb HVL.out.2.2).trans HV4.out
  obtain ⟨Y,hY⟩ : ∃ Y,Y = (encGd (zG (nN + 3))).toArray := ⟨_,rfl⟩
  simp only [← hY] at hmkN hb5 hr5 hv5
  clear hY
  have y3 : (w4.alloc (.cells Y 75)).cell? ⟨vb,3,none⟩ = some (.slice none 0 0) := q8 hv5 3
  have z3 : (w4.alloc (.cells Y 75)).frozen? ⟨vb,3,none⟩ = false := frozen_of_row _ _ 3 _ _ hv5
  obtain ⟨w5,hw5⟩ : ∃ w5,w5 = (w4.alloc (.cells Y 75)).setCell ⟨vb,3,none⟩ (.slice (some ⟨w4.heap.size,0,none⟩) nN (nN + 3)) := ⟨_,rfl⟩
  have hne5 : ∀ k,k ≠ vb → w5.heap[k]? = (w4.alloc (.cells Y 75)).heap[k]? := fun k hk => by rw [hw5]; exact Below.heap_setCell _ _ _ _ (by dsimp only; exact hk)
  have hw5v : w5.heap[vb]? = some (.cells #[.int .i64 p,.slice (some ⟨wc.heap.size,0,none⟩) nA (nA + 3),.slice (some ⟨gb,0,none⟩) nG (nG + 3),.slice (some ⟨w4.heap.size,0,none⟩) nN (nN + 3)] 26 (0,0)) := by
   rw [hw5,heap_setCell_same _ vb 3 _ _ _ hv5]; rfl
  have hvv := HVL.out
  have hbel5 : Below w.heap.size w w5 := by rw [hw5]; exact (q7 HBL4.out hb5).setCell (by dsimp only; omega) _
  have hr5' : NdRow w5 w4.heap.size (zG (nN + 3)) := (hne5 _ (by omega)).trans hr5
  obtain ⟨w6,hcpN,hrow6,hbel6,hfar6⟩ := q4d w4.heap.size aN nN cN N w5 hr5' (HH3.out.up hbel5) w.heap.size (by have := HBL4.out.size; omega) w hbel5
  have lk6 : ∀ k,k < w4.heap.size → k ≠ vb → w6.heap[k]? = w4.heap[k]? := fun k hk hv => (hfar6 k (by omega)).trans ((hne5 k hv).trans (hb5.block k hk))
  have hv6 : w6.heap[vb]? = some (.cells #[.int .i64 p,.slice (some ⟨wc.heap.size,0,none⟩) nA (nA + 3),.slice (some ⟨gb,0,none⟩) nG (nG + 3),.slice (some ⟨w4.heap.size,0,none⟩) nN (nN + 3)] 26 (0,0)) := (hfar6 vb (by omega)).trans hw5v
  have y3c : w5.cell? ⟨vb,3,none⟩ = some (.slice (some ⟨w4.heap.size,0,none⟩) nN (nN + 3)) := q8 hw5v 3
  have q3b := HQ4.out _ hb5
  have q3c : w5.cell? ⟨w.heap.size,3,none⟩ = some (.slice aN nN cN) := by
   have h2 := hne5 w.heap.size (by omega)
   unfold World.cell? at q3b ⊢
   rw [h2]; exact q3b
  rw [hw5] at hcpN y3c q3c
  have v0 : w6.cell? ⟨vb,0,none⟩ = some (.int .i64 p) := q8 hv6 0
  have v1 : w6.cell? ⟨vb,1,none⟩ = some (.slice (some ⟨wc.heap.size,0,none⟩) nA (nA + 3)) := q8 hv6 1
  have v2 : w6.cell? ⟨vb,2,none⟩ = some (.slice (some ⟨gb,0,none⟩) nG (nG + 3)) := q8 hv6 2
  have v3 : w6.cell? ⟨vb,3,none⟩ = some (.slice (some ⟨w4.heap.size,0,none⟩) nN (nN + 3)) := q8 hv6 3
  have hrs6 : w6.heap[w.heap.size + 1]? = some auZ := (lk6 _ (by omega) (by omega)).trans HRS4.out
  have hlw : w.heap.size + 1 < w6.heap.size := (Array.getElem?_eq_some_iff.1 hrs6).1
  unfold auZ at hrs6
  have e1 := heap_setCell_same w6 (w.heap.size + 1) 0 _ _ (.int .i64 p) hrs6
  have e2 := heap_setCell_same _ (w.heap.size + 1) 1 _ _ (.slice (some ⟨wc.heap.size,0,none⟩) nA (nA + 3)) e1
  have e3 := heap_setCell_same _ (w.heap.size + 1) 2 _ _ (.slice (some ⟨gb,0,none⟩) nG (nG + 3)) e2
  have e4 := heap_setCell_same _ (w.heap.size + 1) 3 _ _ (.slice (some ⟨w4.heap.size,0,none⟩) nN (nN + 3)) e3
  have s0 : w6.cell? ⟨w.heap.size + 1,0,none⟩ = some (.int .i64 0) := q8 hrs6 0
  have g0 := frozen_of_row w6 _ 0 _ _ hrs6
  have s1 := q8 e1 1
  have g1 := frozen_of_row _ _ 1 _ _ e1
  have s2 := q8 e2 2
  have g2 := frozen_of_row _ _ 2 _ _ e2
  have s3 := q8 e3 3
  have g3 := frozen_of_row _ _ 3 _ _ e3
  have r0 := q8 e4 0
  have r1 := q8 e4 1
  have r2 := q8 e4 2
  have r3 := q8 e4 3
  have HE : Hid (Q (.returned (.agg #[.int .i64 p,.slice (some ⟨wc.heap.size,0,none⟩) nA (nA + 3),.slice (some ⟨gb,0,none⟩) nG (nG + 3),.slice (some ⟨w4.heap.size,0,none⟩) nN (nN + 3)])) ((((w6.setCell ⟨w.heap.size + 1,0,none⟩ (.int .i64 p)).setCell ⟨w.heap.size + 1,1,none⟩ (.slice (some ⟨wc.heap.size,0,none⟩) nA (nA + 3))).setCell ⟨w.heap.size + 1,2,none⟩ (.slice (some ⟨gb,0,none⟩) nG (nG + 3))).setCell ⟨w.heap.size + 1,3,none⟩ (.slice (some ⟨w4.heap.size,0,none⟩) nN (nN + 3)))) := by
   have far : ∀ k,k ≠ w.heap.size + 1 → ((((w6.setCell ⟨w.heap.size + 1,0,none⟩ (.int .i64 p)).setCell ⟨w.heap.size + 1,1,none⟩ (.slice (some ⟨wc.heap.size,0,none⟩) nA (nA + 3))).setCell ⟨w.heap.size + 1,2,none⟩ (.slice (some ⟨gb,0,none⟩) nG (nG + 3))).setCell ⟨w.heap.size + 1,3,none⟩ (.slice (some ⟨w4.heap.size,0,none⟩) nN (nN + 3))).heap[k]? = w6.heap[k]? := fun k hk =>
    (Below.heap_setCell _ _ _ _ (by dsimp only; exact hk)).trans ((Below.heap_setCell _ _ _ _ (by dsimp only; exact hk)).trans ((Below.heap_setCell _ _ _ _ (by dsimp only; exact hk)).trans (Below.heap_setCell _ _ _ _ (by dsimp only; exact hk))))
   have hg4 := (Array.getElem?_eq_some_iff.1 HGB4.out).1
   have hgv : gb ≠ vb := fun e => by
    have h1 := HGB4.out
    have h2 := HV4.out
    unfold RowI at h1
    rw [e,h2] at h1
    injection h1 with h1
    injection h1 with _ h1 _
    exact absurd h1 (by decide)
   have hgr : gb ≠ w.heap.size + 1 := fun e => by
    have h1 := HGB4.out
    have h2 := HRS4.out
    unfold RowI at h1
    unfold auZ at h2
    rw [e,h2] at h1
    injection h1 with h1
    injection h1 with _ h1 _
    exact absurd h1 (by decide)
   have hwc := HWC.out
   refine HQ.out _ _ ⟨wc.heap.size,gb,w4.heap.size,rfl,(far _ (by omega)).trans ((lk6 _ hwc (by omega)).trans HRW4.out),(far _ hgr).trans ((lk6 _ hg4 hgv).trans HGB4.out),(far _ (by omega)).trans hrow6,?_,HGL.out.2,by have := HGL.out.1; omega,by have := HGL.out.2; omega⟩
   exact (((hbel6.setCell (by dsimp only; omega) _).setCell (by dsimp only; omega) _).setCell (by dsimp only; omega) _).setCell (by dsimp only; omega) _
  simp only [Array.getElem?_setIfInBounds,List.getElem?_toArray,List.getElem?_cons_zero,List.getElem?_cons_succ,List.size_toArray,List.length_cons,List.length_nil] at s1 s2 s3 r0 r1 r2 r3
  clear hb5 hr5 hv5 hne5 hw5v hbel5 hr5' lk6 hv6 hrow6 hbel6 hfar6 hw5 hvv e1 e2 e3 e4 hrs6 hlw HVL HV4 HRW4 HBL4 HRS4 HGB4 HWC HQ4 HQ
  go_wp2
  refine bodyPost_ret (v := .agg #[.int .i64 p,.slice (some ⟨wc.heap.size,0,none⟩) nA (nA + 3),.slice (some ⟨gb,0,none⟩) nG (nG + 3),.slice (some ⟨w4.heap.size,0,none⟩) nN (nN + 3)]) (by simp [results,Try.results8,go_sem,r0,r1,r2,r3]) rfl HE.out
end Go.Proofs.Ytohbphocfkgdcaa
