/- Texts of the proof, put together: what it uses. -/
import Derived.WalkKit
import Derived.WalkSpells
import Derived.Maps.OwnSet
import Derived.Test.YtohbphocfkgdcaaProg
import Derived.WalkLawsBesides
import Derived.BigQuiet
import Derived.Deep.QuietTactic
import Derived.Laws.BitsAllLaws
import Derived.Test.YtohbphocfkgdcaaY00
set_option maxRecDepth 100000
set_option maxHeartbeats 16000000
namespace Go.Proofs.Ytohbphocfkgdcaa
open Go.RowKit Go.Maps
theorem qB {B g : Nat} {a w : World} (h : Below B a w) (hg : B ≤ g) (cs : Array Value) : Below B a (w.setRow g cs) :=
 h.trans ⟨rfl,rfl,rfl,by simp,fun k hk => setRow_other _ _ _ _ (by omega)⟩
end Go.Proofs.Ytohbphocfkgdcaa
namespace Go.Proofs.Ytohbphocfkgdcaa
abbrev Gd := Int × Int × Int
def goG (N : List Gd) (x : Nat) : Nat → Int → Option Int
 | 0,r => if r < 0 then some (-1 - r) else none
 | k + 1,r => if r < 0 then some (-1 - r) else
  match N[r.toNat]? with
  | none => none
  | some (P,lo,hi) => if 0 ≤ P ∧ P ≤ 7 then goG N x k (if x.testBit P.toNat then hi else lo) else none
theorem q2o {N : List Gd} {x : Nat} {r : Int} (h : r < 0) : ∀ k,goG N x k r = some (-1 - r)
 | 0 => by simp [goG,h]
 | k + 1 => by simp [goG,h]
theorem q3f {N : List Gd} {x k i : Nat} {P lo hi : Int} (h : N[i]? = some (P,lo,hi)) (h0 : 0 ≤ P) (h7 : P ≤ 7) : goG N x (k + 1) (i : Int) = goG N x k (if x.testBit P.toNat then hi else lo) := by
 have hi : ¬ (i : Int) < 0 := by omega
 simp [goG,hi,h,h0,h7]
def FitG (m : Nat) (N : List Gd) (a : Nat) (p : Int) (r : Int) : Prop :=
 (r < 0 ∧ -(m : Int) ≤ r) ∨ ∃ i,r = ((i : Nat) : Int) ∧ i < a ∧ ∃ nd,N[i]? = some nd ∧ p < nd.1
theorem q5i {N N' : List Gd} (h : N <+: N') {nd : Gd} (hm : nd ∈ N) : N'.idxOf nd = N.idxOf nd := by
 obtain ⟨t,rfl⟩ := h
 simp [List.idxOf_append,hm]
theorem q5h {N : List Gd} {nd : Gd} (h : nd ∉ N) : (N ++ [nd]).idxOf nd = N.length := by
 simp [List.idxOf_append,h]
structure MayG (props : Int) (ns : Nat) (N : List Gd) (gs : List Int) : Prop where
 p0 : 0 ≤ props
 p8 : props ≤ 8
 s1 : 1 ≤ ns
 s2 : ns ≤ 256
 len : gs.length = ns
 few : N.length ≤ 4096
 node : ∀ (i : Nat) (P lo hi : Int),N[i]? = some (P,lo,hi) → 0 ≤ P ∧ P < props ∧ lo ≠ hi ∧ FitG ns N i P lo ∧ FitG ns N i P hi
 once : N.Nodup
 gd : ∀ g ∈ gs,FitG ns N N.length (-1) g
def trP (R : List (List Nat)) (s l : Nat) : Nat := (R.getD s []).getD l 0
structure RowsP (n K : Nat) (R : List (List Nat)) : Prop where
 len : R.length = n
 row : ∀ s,s < n → (R.getD s []).length = K
 lt : ∀ s l,s < n → l < K → trP R s l < n
theorem q3h {m : Nat} {props : Int} {N : List Gd} (hp : props ≤ 8) (hN : ∀ (i : Nat) (P lo hi : Int),N[i]? = some (P,lo,hi) → 0 ≤ P ∧ P < props ∧ lo ≠ hi ∧ FitG m N i P lo ∧ FitG m N i P hi) (x : Nat) :
  ∀ (k a : Nat) (p r : Int),FitG m N a p r → 7 - p ≤ k → ∃ v : Nat,v < m ∧ goG N x k r = some (v : Int)
 | k,a,p,r,.inl ⟨h1,h2⟩,_ => ⟨(-1 - r).toNat,by omega,by rw [q2o h1]; congr 1; omega⟩
 | 0,a,p,r,.inr ⟨i,e,hi,nd,hn,hq⟩,hk => by
  obtain ⟨P,lo,hi'⟩ := nd
  have := hN i P lo hi' hn
  dsimp only at hq
  omega
 | k + 1,a,p,r,.inr ⟨i,e,hi,nd,hn,hq⟩,hk => by
  obtain ⟨P,lo,hi'⟩ := nd
  obtain ⟨h0,h1,_,h3,h4⟩ := hN i P lo hi' hn
  dsimp only at hq
  subst e
  rw [q3f hn h0 (by omega)]
  split
  ·exact q3h hp hN x k i P hi' h4 (by omega)
  ·exact q3h hp hN x k i P lo h3 (by omega)
def rowG (N : List Gd) (K : Nat) (r : Int) : List Nat := (List.range K).map fun x => ((goG N x 8 r).getD 0).toNat
def rowsG (N : List Gd) (gs : List Int) (K : Nat) : List (List Nat) := gs.map (rowG N K)
theorem q1P {N : List Gd} {gs : List Int} {K s : Nat} (h : s < gs.length) : (rowsG N gs K).getD s [] = rowG N K (gs.getD s 0) := by
 simp [rowsG,List.getD_eq_getElem?_getD,List.getElem?_eq_getElem h]
theorem q49 {N : List Gd} {K x : Nat} {r : Int} (h : x < K) : (rowG N K r).getD x 0 = ((goG N x 8 r).getD 0).toNat := by
 simp [rowG,List.getD_eq_getElem?_getD,h]
theorem q58 (N : List Gd) (K : Nat) (r : Int) : (rowG N K r).length = K := by simp [rowG]
theorem MayG.go {p : Int} {ns : Nat} {N : List Gd} {gs : List Int} (h : MayG p ns N gs) {s : Nat} (hs : s < ns) (x : Nat) : ∃ v : Nat,v < ns ∧ goG N x 8 (gs.getD s 0) = some (v : Int) := by
 have hl := h.len
 have hm : gs.getD s 0 ∈ gs := by
  rw [List.getD_eq_getElem?_getD,List.getElem?_eq_getElem (by omega),Option.getD_some]
  exact List.getElem_mem _
 exact q3h h.p8 h.node x 8 N.length (-1) _ (h.gd _ hm) (by omega)
theorem MayG.tr {p : Int} {ns : Nat} {N : List Gd} {gs : List Int} (h : MayG p ns N gs) {K s x : Nat} (hs : s < ns) (hx : x < K) : goG N x 8 (gs.getD s 0) = some ((trP (rowsG N gs K) s x : Nat) : Int) := by
 obtain ⟨v,hv,e⟩ := h.go hs x
 have hl := h.len
 rw [trP,q1P (by omega),q49 hx,e]
 simp
theorem MayG.rows {p : Int} {ns : Nat} {N : List Gd} {gs : List Int} (h : MayG p ns N gs) (K : Nat) : RowsP ns K (rowsG N gs K) := by
 have hl := h.len
 refine ⟨by simp [rowsG,hl],fun s hs => by rw [q1P (by omega),q58],fun s l hs hlk => ?_⟩
 obtain ⟨v,hv,e⟩ := h.go hs l
 rw [trP,q1P (by omega),q49 hlk,e]
 simpa using hv
variable {n K : Nat} {R : List (List Nat)} {bs : List Bool}
end Go.Proofs.Ytohbphocfkgdcaa
namespace Go.Proofs.Ytohbphocfkgdcaa
open Go.RowKit
theorem qk (c : Int) (w : World) :
  Calls Try.prog 75 #[.int .u8 c] w fun e w' => e = .returned (.bool (smallB c)) ∧ w' = w := by
 go_enter Try.func75,Try.ntmps75
 go_wp2
 ·go_ret
  exact ⟨by simp [smallB, *],rfl⟩
 ·go_ret
  exact ⟨by rw [q3q (by omega)]; rfl,rfl⟩
theorem qG (c : Int) (w : World) :
  Calls Try.prog 76 #[.int .u8 c] w fun e w' => e = .returned (.bool (digitB c)) ∧ w' = w := by
 go_enter Try.func76,Try.ntmps76
 go_wp2
 ·go_ret
  exact ⟨by simp [digitB, *],rfl⟩
 ·go_ret
  exact ⟨by rw [q1L (by omega)]; rfl,rfl⟩
theorem qf (c : Int) (w : World) :
  Calls Try.prog 78 #[.int .u8 c] w fun e w' => e = .returned (.bool (smallB c)) ∧ w' = w := by
 go_enter Try.func78,Try.ntmps78
 go_wp2
 ·go_ret
  exact ⟨by simp [smallB, *],rfl⟩
 ·go_ret
  exact ⟨by rw [q3q (by omega)]; rfl,rfl⟩
theorem q3I (s : ByteArray) (w : World) :
  Calls Try.prog 77 #[.string s] w fun e w' => e = .returned (.bool (resL s.toList)) ∧ w' = w := by
 unfold resL
 rcases Bool.eq_false_or_eq_true (s.toList == [116,114,117,101]) with h1 | h1
 ·go_enter Try.func77,Try.ntmps77
  go_wp2
  go_ret
  exact ⟨by simp [*],rfl⟩
 rcases Bool.eq_false_or_eq_true (s.toList == [102,97,108,115,101]) with h2 | h2
 ·go_enter Try.func77,Try.ntmps77
  go_wp2
  go_ret
  exact ⟨by simp [*],rfl⟩
 rcases Bool.eq_false_or_eq_true (s.toList == [108,97,115,116]) with h3 | h3
 all_goals
  go_enter Try.func77,Try.ntmps77
  go_wp2
  go_ret
  exact ⟨by simp [*],rfl⟩
theorem q1I {s : ByteArray} (h : s.size < 1 ∨ 20 < s.size) : nameL s.toList = false := by
 unfold nameL; rw [q3s]; rcases h with h | h
 ·simp [show ¬ 1 ≤ s.size by omega]
 ·simp [show ¬ s.size ≤ 20 by omega]
theorem q22 {s : ByteArray} (h : 0 < s.size) (hb : smallB (s[0].toNat : Int) = false) : nameL s.toList = false := by
 unfold nameL; rw [q4a s h,hb]; simp
theorem q19 {s : ByteArray} {k : Nat} (hk : k < s.size) (hb : byteB s[k] = false) : nameL s.toList = false := by
 unfold nameL; rw [q5c hk hb]; simp
theorem q2z {s : ByteArray} (h0 : 0 < s.size) (h1 : s.size ≤ 20) (hb : smallB (s[0].toNat : Int) = true) (hu : upB s s.size) : nameL s.toList = !resL s.toList := by
 unfold nameL; rw [q3s,q4a s h0,hb,q5y hu]; simp [h1]; omega
theorem qK (s : ByteArray) (w : World) (hs : s.size ≤ maxLen) :
  Calls Try.prog 71 #[.string s] w fun e w' => e = .returned (.bool (nameL s.toList)) ∧ w' = w := by
 unfold maxLen at hs
 by_cases hsh : s.size < 1 ∨ 20 < s.size
 ·have hn := q1I hsh
  rw [hn]; clear hn
  rcases hsh with h | h
  ·go_enter Try.func71,Try.ntmps71
   go_wp2
   go_ret
   exact ⟨rfl,rfl⟩
  ·have h' : ¬ s.size < 1 := by omega
   go_enter Try.func71,Try.ntmps71
   go_wp2
   go_ret
   exact ⟨rfl,rfl⟩
 have h0 : 0 < s.size := by omega
 have h20 : s.size ≤ 20 := by omega
 clear hsh
 rcases Bool.eq_false_or_eq_true (smallB (s[0].toNat : Int)) with hb | hb
 ·have HB : Hid (smallB (s[0].toNat : Int) = true) := hb
  go_enter Try.func71,Try.ntmps71
  go_wp2_with (go_at_call 75; refine (qk _ _).mono ?_; rintro e w' ⟨rfl,rfl⟩)
  clear hb
  go_loop [20] (fun i => ∃ k : Nat,k ≤ s.size ∧ i = .int .i64 k ∧ upB s k) (fun i => s.size - (intOf i).toNat)
  case atStart => exact ⟨0,Nat.zero_le _,rfl,q3t s⟩
  case round =>
   obtain ⟨k,hk,rfl,hu⟩ := hrel
   by_cases hlt : k < s.size
   ·rcases Bool.eq_false_or_eq_true (smallB (s[k].toNat : Int)) with c1 | c1
    ·have hB : byteB s[k] = true := by simp [byteB,c1]
     go_wp2_with (first | (go_at_call 75; refine (qk _ _).mono ?_; rintro e w' ⟨rfl,rfl⟩) | (go_at_call 76; refine (qG _ _).mono ?_; rintro e w' ⟨rfl,rfl⟩))
     go_round
     case rel => exact ⟨k + 1,by omega,by go_num,q1d hu hlt hB⟩
     case measure => simp [intOf]; omega
    ·rcases Bool.eq_false_or_eq_true (digitB (s[k].toNat : Int)) with c2 | c2
     ·have hB : byteB s[k] = true := by simp [byteB,c2]
      go_wp2_with (first | (go_at_call 75; refine (qk _ _).mono ?_; rintro e w' ⟨rfl,rfl⟩) | (go_at_call 76; refine (qG _ _).mono ?_; rintro e w' ⟨rfl,rfl⟩))
      go_round
      case rel => exact ⟨k + 1,by omega,by go_num,q1d hu hlt hB⟩
      case measure => simp [intOf]; omega
     ·have HN : Hid (nameL s.toList = false) := q19 hlt (by simp [byteB,c1,c2])
      go_wp2_with (first | (go_at_call 75; refine (qk _ _).mono ?_; rintro e w' ⟨rfl,rfl⟩) | (go_at_call 76; refine (qG _ _).mono ?_; rintro e w' ⟨rfl,rfl⟩))
      go_ret
      exact ⟨by rw [HN.out]; rfl,rfl⟩
   ·obtain rfl : k = s.size := by omega
    have HN : Hid (nameL s.toList = !resL s.toList) := q2z h0 h20 HB.out hu
    go_wp2_with (go_at_call 77; refine (q3I _ _).mono ?_; rintro e w' ⟨rfl,rfl⟩)
    go_ret
    exact ⟨by rw [HN.out]; rfl,rfl⟩
 ·rw [q22 h0 hb]
  go_enter Try.func71,Try.ntmps71
  go_wp2_with (go_at_call 75; refine (qk _ _).mono ?_; rintro e w' ⟨rfl,rfl⟩)
  go_ret
  exact ⟨rfl,rfl⟩
theorem q4L {s : ByteArray} (h : resL s.toList = true) : nameL s.toList = false := by unfold nameL; rw [h]; simp
theorem q4w {s : List UInt8} (h : resL s = false) : (s == [116,114,117,101]) = false ∧ (s == [102,97,108,115,101]) = false ∧ (s == [108,97,115,116]) = false := by
 unfold resL at h; simp only [Bool.or_eq_false_iff] at h; exact ⟨h.1.1,h.1.2,h.2⟩
theorem q1h (s : ByteArray) (w : World) (hs : s.size ≤ maxLen) :
  Calls Try.prog 72 #[.string s] w fun e w' => e = .returned (.bool (nameL s.toList)) ∧ w' = w := by
 unfold maxLen at hs
 by_cases hsh : s.size < 1 ∨ 20 < s.size
 ·have hn := q1I hsh
  rw [hn]; clear hn
  rcases hsh with h | h
  ·go_enter Try.func72,Try.ntmps72
   go_wp2
   go_ret
   exact ⟨rfl,rfl⟩
  ·have h' : ¬ s.size < 1 := by omega
   go_enter Try.func72,Try.ntmps72
   go_wp2
   go_ret
   exact ⟨rfl,rfl⟩
 have h0 : 0 < s.size := by omega
 have h20 : s.size ≤ 20 := by omega
 clear hsh
 rcases Bool.eq_false_or_eq_true (smallB (s[0].toNat : Int)) with hb | hb
 ·have HB : Hid (smallB (s[0].toNat : Int) = true) := hb
  rcases Bool.eq_false_or_eq_true (resL s.toList) with hr | hr
  ·rw [q4L hr]
   unfold resL at hr
   rcases Bool.eq_false_or_eq_true (s.toList == [116,114,117,101]) with h1 | h1
   ·clear hr
    go_enter Try.func72,Try.ntmps72
    go_wp2_with (go_at_call 78; refine (qf _ _).mono ?_; rintro e w' ⟨rfl,rfl⟩)
    go_ret
    exact ⟨rfl,rfl⟩
   rcases Bool.eq_false_or_eq_true (s.toList == [102,97,108,115,101]) with h2 | h2
   ·clear hr
    go_enter Try.func72,Try.ntmps72
    go_wp2_with (go_at_call 78; refine (qf _ _).mono ?_; rintro e w' ⟨rfl,rfl⟩)
    go_ret
    exact ⟨rfl,rfl⟩
   have h3 : (s.toList == [108,97,115,116]) = true := by rw [h1,h2] at hr; simpa using hr
   clear hr
   go_enter Try.func72,Try.ntmps72
   go_wp2_with (go_at_call 78; refine (qf _ _).mono ?_; rintro e w' ⟨rfl,rfl⟩)
   go_ret
   exact ⟨rfl,rfl⟩
  ·obtain ⟨h1,h2,h3⟩ := q4w hr
   have HR : Hid (resL s.toList = false) := hr
   clear hr
   go_enter Try.func72,Try.ntmps72
   go_wp2_with (go_at_call 78; refine (qf _ _).mono ?_; rintro e w' ⟨rfl,rfl⟩)
   clear hb h1 h2 h3
   go_loop [3] (fun i => ∃ k : Nat,k ≤ s.size ∧ i = .int .i64 k ∧ upB s k) (fun i => s.size - (intOf i).toNat)
   case atStart => exact ⟨0,Nat.zero_le _,rfl,q3t s⟩
   case round =>
    obtain ⟨k,hk,rfl,hu⟩ := hrel
    by_cases hlt : k < s.size
    ·rcases Bool.eq_false_or_eq_true (smallB (s[k].toNat : Int)) with c1 | c1
     ·have hB : byteB s[k] = true := by simp [byteB,c1]
      go_wp2_with (go_at_call 78; refine (qf _ _).mono ?_; rintro e w' ⟨rfl,rfl⟩)
      go_round
      case rel => exact ⟨k + 1,by omega,by go_num,q1d hu hlt hB⟩
      case measure => simp [intOf]; omega
     ·by_cases d1 : (s[k].toNat : Int) < 48
      ·have HN : Hid (nameL s.toList = false) := q19 hlt (by simp [byteB,c1,q1L (Or.inl d1)])
       go_wp2_with (go_at_call 78; refine (qf _ _).mono ?_; rintro e w' ⟨rfl,rfl⟩)
       go_ret
       exact ⟨by rw [HN.out]; rfl,rfl⟩
      by_cases d2 : 57 < (s[k].toNat : Int)
      ·have HN : Hid (nameL s.toList = false) := q19 hlt (by simp [byteB,c1,q1L (Or.inr d2)])
       go_wp2_with (go_at_call 78; refine (qf _ _).mono ?_; rintro e w' ⟨rfl,rfl⟩)
       go_ret
       exact ⟨by rw [HN.out]; rfl,rfl⟩
      ·have hB : byteB s[k] = true := by simp [byteB,q4T (Int.not_lt.1 d1) (Int.not_lt.1 d2)]
       go_wp2_with (go_at_call 78; refine (qf _ _).mono ?_; rintro e w' ⟨rfl,rfl⟩)
       go_round
       case rel => exact ⟨k + 1,by omega,by go_num,q1d hu hlt hB⟩
       case measure => simp [intOf]; omega
    ·obtain rfl : k = s.size := by omega
     have HN : Hid (nameL s.toList = true) := by have := q2z h0 h20 HB.out hu; rw [HR.out] at this; exact this
     go_wp2
     go_ret
     exact ⟨by rw [HN.out]; rfl,rfl⟩
 ·rw [q22 h0 hb]
  go_enter Try.func72,Try.ntmps72
  go_wp2_with (go_at_call 78; refine (qf _ _).mono ?_; rintro e w' ⟨rfl,rfl⟩)
  go_ret
  exact ⟨rfl,rfl⟩
end Go.Proofs.Ytohbphocfkgdcaa
namespace Go.Proofs.Ytohbphocfkgdcaa
open Go.RowKit Go.Maps
structure StrSl (P : Program) (T : TypeId) (w : World) (a : Option Addr) (len cap : Nat) (ad : Nat → Addr) (ss : List ByteArray) : Prop where
 hlen : ss.length = len
 hcap : len ≤ cap
 bd : cap ≤ maxLen
 idx : ∀ (n k : Nat) (w : World),k < n → n ≤ len → (Instr.indexAt T (.slice a n cap) (.int .i64 k)).run P w = .ok (.pointer (some (ad k))) w
 cell : ∀ k,k < len → w.cell? (ad k) = some (.string (ss.getD k ByteArray.empty))
 blk : ∀ k,k < len → (ad k).block < w.heap.size
 sz : ∀ k,(ss.getD k ByteArray.empty).size ≤ maxLen
 nn : a = none → cap = 0
theorem StrSl.later {P : Program} {T : TypeId} {w w' : World} {a : Option Addr} {len cap : Nat} {ad : Nat → Addr} {ss : List ByteArray} (h : StrSl P T w a len cap ad ss) {B : Nat} (hb : Below B w w') (hB : ∀ k,k < len → (ad k).block < B) : StrSl P T w' a len cap ad ss :=
 ⟨h.hlen,h.hcap,h.bd,h.idx,fun k hk => (hb.cell (hB k hk)).trans (h.cell k hk),fun k hk => Nat.lt_of_lt_of_le (h.blk k hk) hb.size,h.sz,h.nn⟩
theorem StrSl.up {P : Program} {T : TypeId} {w w' : World} {a : Option Addr} {len cap : Nat} {ad : Nat → Addr} {ss : List ByteArray} (h : StrSl P T w a len cap ad ss) (hb : Below w.heap.size w w') : StrSl P T w' a len cap ad ss := h.later hb h.blk
theorem StrSl.pre {P : Program} {T : TypeId} {w : World} {a : Option Addr} {len cap : Nat} {ad : Nat → Addr} {ss : List ByteArray} (h : StrSl P T w a len cap ad ss) {n : Nat} (hn : n ≤ len) : StrSl P T w a n cap ad (ss.take n) :=
 ⟨by simp [h.hlen]; omega,Nat.le_trans hn h.hcap,h.bd,fun m k w hk hm => h.idx m k w hk (by omega),
  fun k hk => by rw [h.cell k (by omega)]; simp [List.getD_eq_getElem?_getD,hk],fun k hk => h.blk k (by omega),
  fun k => by
   by_cases hk : k < n
   ·have := h.sz k; simpa [List.getD_eq_getElem?_getD,List.getElem?_take,hk] using this
   ·simp [List.getD_eq_getElem?_getD,List.getElem?_take,hk,maxLen,ByteArray.size_empty],h.nn⟩
def nms (ss : List ByteArray) : List Bytes := ss.map ByteArray.toList
theorem qE {ss : List ByteArray} {k : Nat} (h : k < ss.length) : (nms ss)[k]? = some (ss.getD k ByteArray.empty).toList := by
 simp [nms,List.getD_eq_getElem?_getD,List.getElem?_eq_getElem h]
theorem qj (ss : List ByteArray) : (nms ss).length = ss.length := by simp [nms]
theorem q1a (ss : List ByteArray) (n : Nat) : nms (ss.take n) = (nms ss).take n := by simp [nms,List.map_take]
theorem q14 (a : Option Addr) (len cap : Nat) (ad : Nat → Addr) (ss : List ByteArray) (s : ByteArray) (w : World) (hS : StrSl Try.prog 30 w a len cap ad ss) :
  Calls Try.prog 63 #[.slice a len cap,.string s] w fun e w' => e = .returned (.int .i64 (atI (nms ss) s.toList)) ∧ w' = w := by
 obtain ⟨hl,hcp,hbd,hidx,hc,_,_,_⟩ := hS
 unfold maxLen at hbd
 have hl' := qj ss
 have HL : Hid ((nms ss).length = len) := by rw [hl',hl]; exact rfl
 have HG : ∀ k,k < len → (nms ss)[k]? = some (ss.getD k ByteArray.empty).toList := fun k hk => qE (by omega)
 clear hl hl'
 have hidx' := fun (k : Nat) (w : World) (h : k < len) => hidx len k w h (Nat.le_refl _)
 clear hidx
 go_enter Try.func63,Try.ntmps63
 go_wp2
 go_loop [5] (fun i => ∃ k : Nat,k ≤ len ∧ i = .int .i64 k ∧ ((nms ss).take k).contains s.toList = false) (fun i => len - (intOf i).toNat)
 case atStart => exact ⟨0,Nat.zero_le _,rfl,by simp⟩
 case round =>
  obtain ⟨k,hk,rfl,hu⟩ := hrel
  have HU : Hid (((nms ss).take k).contains s.toList = false) := hu
  clear hu
  by_cases hlt : k < len
  ·have hck := hc k hlt
   have hgk : Hid ((nms ss)[k]? = some (ss.getD k ByteArray.empty).toList) := HG k hlt
   clear HG hc
   generalize ss.getD k ByteArray.empty = x at *
   rcases Bool.eq_false_or_eq_true (x.toList == s.toList) with he | he
   ·have hx : Hid (atI (nms ss) s.toList = k) := by
     have e2 : x.toList = s.toList := by simpa using he
     exact q40 (by rw [← e2]; exact hgk.out) HU.out
    go_wp2
    go_ret
    exact ⟨by rw [hx.out]; rfl,rfl⟩
   ·have hx : Hid (((nms ss).take (k + 1)).contains s.toList = false) := by
     have e2 : ¬ x.toList = s.toList := by simpa using he
     show _ = _
     rw [qp hgk.out,HU.out]; simp; exact fun h => e2 h.symm
    go_wp2
    go_round
    case rel => exact ⟨k + 1,by omega,by go_num,hx.out⟩
    case measure => simp [intOf]; omega
  ·have hx : Hid (atI (nms ss) s.toList = -1) := q4S (by have := HU.out; rwa [List.take_of_length_le (by have := HL.out; omega)] at this)
   go_wp2
   go_ret
   exact ⟨by rw [hx.out]; rfl,rfl⟩
theorem q11 (a : Option Addr) (len cap : Nat) (ad : Nat → Addr) (ss : List ByteArray) (w : World) (hS : StrSl Try.prog 30 w a len cap ad ss) :
  Calls Try.prog 62 #[.slice a len cap] w fun e w' => e = .returned (.int .i64 (checkE (nms ss))) ∧ ∃ n,w' = w.drewN n := by
 have hb0 := hS.bd
 have hb1 := hS.hcap
 have hlen : (nms ss).length = len := by rw [qj,hS.hlen]
 unfold maxLen at hb0
 by_cases h8 : 8 < len
 ·have hx : Hid (checkE (nms ss) = 3) := by show _ = _; unfold checkE; rw [if_pos (by omega)]
  clear hlen
  go_enter Try.func62,Try.ntmps62
  go_wp2
  go_ret
  exact ⟨by rw [hx.out]; rfl,0,rfl⟩
 ·have HX : Hid (checkE (nms ss) = chkAt (nms ss) 0) := by show _ = _; unfold checkE; rw [if_neg (by omega),q1Z]
  have HL : Hid ((nms ss).length = len) := hlen
  clear hlen
  have hidx := fun (k : Nat) (w : World) (h : k < len) => hS.idx len k w h (Nat.le_refl _)
  go_enter Try.func62,Try.ntmps62
  go_wp2
  go_loopw [3] (fun i wr => ∃ k : Nat,k ≤ len ∧ i = .int .i64 k ∧ checkE (nms ss) = chkAt (nms ss) k ∧ Hid (∃ n,wr = w.drewN n)) (fun i _ => len - (intOf i).toNat)
  case atStart => exact ⟨0,Nat.zero_le _,rfl,HX.out,0,rfl⟩
  case round =>
   obtain ⟨k,hk,rfl,hu,hwr⟩ := hrel
   have HU : Hid (checkE (nms ss) = chkAt (nms ss) k) := hu
   clear hu
   by_cases hlt : k < len
   ·have hS' : StrSl Try.prog 30 wr a len cap ad ss := by
     obtain ⟨n,hn⟩ := hwr.out
     rw [hn]; exact hS.up (below_drewN (Below.refl _ _) n)
    have hck := hS'.cell k hlt
    have hsz := hS'.sz k
    have hgk : Hid ((nms ss)[k]? = some (ss.getD k ByteArray.empty).toList) := qE (by rw [hS.hlen]; omega)
    have hQ : ∀ m,StrSl Try.prog 30 (wr.drewN m) a k cap ad (ss.take k) := fun m => (hS'.pre hk).up (below_drewN (Below.refl _ _) m)
    generalize ss.getD k ByteArray.empty = x at *
    rcases Bool.eq_false_or_eq_true (nameL x.toList) with hn | hn
    ·have HN : Hid (nameL x.toList = true) := hn
     go_wp2_with (first | (go_at_call 72; refine (q1h x _ hsz).mono ?_; rintro e w' ⟨rfl,rfl⟩))
     clear hn
     go_quiet ((go_at_call 63; exact Calls.quiet_of_same (q14 a k cap ad (ss.take k) x _ (hQ _))))
     rcases Bool.eq_false_or_eq_true (((nms ss).take k).contains x.toList) with ht | ht
     ·have hx : Hid (checkE (nms ss) = 5) := HU.out.trans (q1G hgk.out HN.out ht)
      have hp : 0 ≤ atI (nms (ss.take k)) x.toList := by
       have := q2n (nms (ss.take k)) x.toList; rw [q1a,ht] at this; rw [q1a]; simpa using this
      clear ht
      go_wp2
      go_ret
      obtain ⟨n,hn⟩ := hwr.out
      exact ⟨by rw [hx.out]; rfl,n + nq,by rw [hn,World.drewN_drewN]⟩
     ·have hx : Hid (checkE (nms ss) = chkAt (nms ss) (k + 1)) := HU.out.trans (q1Y hgk.out HN.out ht)
      have hp : atI (nms (ss.take k)) x.toList < 0 := by
       have := q2n (nms (ss.take k)) x.toList; rw [q1a,ht] at this; rw [q1a]; simpa using this
      clear ht
      go_wp2
      go_roundw
      case rel =>
       obtain ⟨n,hn⟩ := hwr.out
       exact ⟨k + 1,by omega,by go_num,hx.out,n + nq,by rw [hn,World.drewN_drewN]⟩
      case measure => simp [intOf]; omega
    ·have hx : Hid (checkE (nms ss) = 4) := HU.out.trans (q2t hgk.out hn)
     go_wp2_with (first | (go_at_call 72; refine (q1h x _ hsz).mono ?_; rintro e w' ⟨rfl,rfl⟩))
     go_ret
     exact ⟨by rw [hx.out]; rfl,hwr.out⟩
   ·have hx : Hid (checkE (nms ss) = 0) := by
     have := HU.out; obtain rfl : k = len := by omega
     rw [← HL.out,q2u] at this; exact this
    go_wp2
    go_ret
    exact ⟨by rw [hx.out]; rfl,hwr.out⟩
theorem q1Q {P : Program} (t k e : TypeId) (q : IntKind) (n : Int) (w : World) (h : P.underlying t = some (.map k e)) : (Instr.makeMap t (some (.int q n))).run P w = .ok (.map (some w.heap.size)) (w.alloc (.map #[] 0)) := by
 simp [Instr.makeMap,run_underlying h,asInt,asIntOf,go_sem,newObj,Result.andThen]
 rfl
theorem qZ : Keyed Try.prog 9 := string_keyed Try.underlying9
theorem qA (w : World) : (zeroValue 3).run Try.prog w = .ok (.int .i64 0) w := by kernel_rfl
theorem q3Z (s : ByteArray) (h : s.size ≤ maxLen) : keyOf Try.prog 9 (.string s) = some (.string s.toList) := by
 rw [ByteArray.toList_eq]; exact WideMaps.keyOf_string_mk Try.underlying9 h
def Try.PlacesR (ns : List Bytes) (w : World) (e : Ending) (w' : World) : Prop :=
 ∃ m,e = .returned (.tuple #[m,.int .i64 (checkE ns)]) ∧ Below w.heap.size w w' ∧
  (checkE ns = 0 → m = .map (some w.heap.size) ∧ w'.ownsMap Try.prog 9 (plainElem (H := Unit) Try.prog 3) w.heap.size ns.length (mapD ns ns.length) ∧ NDk ns ns.length)
theorem q4H {ns : List Bytes} {k : Nat} {s : Bytes} (h : ns[k]? = some s) : mapD ns (k + 1) = (mapD ns k).put (.string s) (.lit (.int .i64 k)) := by
 simp [mapD,List.getD_eq_getElem?_getD,h]
theorem q4Q {ns : List Bytes} {k : Nat} {s : Bytes} (h : NDk ns k) (hs : ns[k]? = some s) (hn : (ns.take k).contains s = false) : NDk ns (k + 1) := by
 intro j s' hj hs'
 by_cases e : j = k
 ·subst e; rw [hs] at hs'; injection hs' with hs'; subst hs'; exact hn
 ·exact h j s' (by omega) hs'
theorem q10 (a : Option Addr) (len cap : Nat) (ad : Nat → Addr) (ss : List ByteArray) (w : World) (hS : StrSl Try.prog 30 w a len cap ad ss) :
  Calls Try.prog 60 #[.slice a len cap] w fun e w' => Try.PlacesR (nms ss) w e w' := by
 have hb0 := hS.bd
 have hb1 := hS.hcap
 have hlen : (nms ss).length = len := by rw [qj,hS.hlen]
 unfold maxLen at hb0
 by_cases h8 : 8 < len
 ·have hx : Hid (checkE (nms ss) = 3) := by show _ = _; unfold checkE; rw [if_pos (by omega)]
  clear hlen
  go_enter Try.func60,Try.ntmps60
  go_wp2
  go_ret2
  exact ⟨_,by rw [hx.out]; rfl,Below.refl _ _,by rw [hx.out]; intro h; exact absurd h (by decide)⟩
 ·have HX : Hid (checkE (nms ss) = chkAt (nms ss) 0) := by show _ = _; unfold checkE; rw [if_neg (by omega),q1Z]
  have HL : Hid ((nms ss).length = len) := hlen
  clear hlen
  have hidx := fun (k : Nat) (w : World) (h : k < len) => hS.idx len k w h (Nat.le_refl _)
  have hmm := fun (n : Int) (w : World) => q1Q (P := Try.prog) 83 9 3 .i64 n w Try.underlying83
  go_enter Try.func60,Try.ntmps60
  go_wp2
  go_loopw [17] (fun i wr => ∃ k : Nat,k ≤ len ∧ i = .int .i64 k ∧ Hid (checkE (nms ss) = chkAt (nms ss) k) ∧ Hid (NDk (nms ss) k) ∧ wr.ownsMap Try.prog 9 (plainElem (H := Unit) Try.prog 3) w.heap.size k (mapD (nms ss) k) ∧ Below w.heap.size w wr) (fun i _ => len - (intOf i).toNat)
  case atStart => exact ⟨0,Nat.zero_le _,rfl,HX.out,fun j _ hj => absurd hj (by omega),World.ownsMap_made _ _ _ _,(Below.refl _ _).alloc (Nat.le_refl _) _⟩
  case round =>
   obtain ⟨k,hk,rfl,HU,HND,hown,hnx⟩ := hrel
   by_cases hlt : k < len
   ·have hS' := hS.up hnx
    have hck := hS'.cell k hlt
    have hsz := hS'.sz k
    have hgk : Hid ((nms ss)[k]? = some (ss.getD k ByteArray.empty).toList) := qE (by rw [hS.hlen]; omega)
    clear hS'
    generalize ss.getD k ByteArray.empty = x at *
    have hkey := q3Z x hsz
    have hhas := q1N (nms ss) x.toList k (by have := HL.out; omega)
    rcases Bool.eq_false_or_eq_true (nameL x.toList) with hn | hn
    ·have HN : Hid (nameL x.toList = true) := hn
     rcases Bool.eq_false_or_eq_true (((nms ss).take k).contains x.toList) with ht | ht
     ·have hx : Hid (checkE (nms ss) = 5) := HU.out.trans (q1G hgk.out HN.out ht)
      rw [ht] at hhas
      clear ht
      go_wp2_with (first | (go_at_call 71; refine (qK x _ hsz).mono ?_; rintro e w' ⟨rfl,rfl⟩) | (at_lookup; refine wpList_lookup_own_ok_int _ rfl _ _ 83 rfl 9 3 .i64 qZ Try.underlying83 Try.underlying3 (qA _) w.heap.size k _ rfl hown _ _ rfl hkey ?_; intro c hat hwc))
      go_ret2
      exact ⟨_,by rw [hx.out]; rfl,hnx,by rw [hx.out]; intro h; exact absurd h (by decide)⟩
     ·have hx : Hid (checkE (nms ss) = chkAt (nms ss) (k + 1)) := HU.out.trans (q1Y hgk.out HN.out ht)
      have HT : Hid (((nms ss).take k).contains x.toList = false) := ht
      rw [ht] at hhas
      clear ht
      go_wp2_with (first | (go_at_call 71; refine (qK x _ hsz).mono ?_; rintro e w' ⟨rfl,rfl⟩) | (at_lookup; refine wpList_lookup_own_ok_int _ rfl _ _ 83 rfl 9 3 .i64 qZ Try.underlying83 Try.underlying3 (qA _) w.heap.size k _ rfl hown _ _ rfl hkey ?_; intro c hat hwc) | (at_mapUpdate; refine wpList_mapUpdate_own _ rfl _ _ _ 83 rfl 9 3 qZ Try.underlying83 _ w.heap.size k _ rfl hown (by unfold maxLen; omega) _ _ _ rfl rfl hkey _ [] (plainElem_int Try.underlying3 (WalkArith.wf_i64 (by omega))) ?_))
      intro w1 hown1 hgrow1
      have R1 := (q4H hgk.out).symm ▸ hown1
      have R2 := hnx.grown hgrow1 hnx.size (fun j hj => by cases hj; exact Nat.le_refl _)
      have R3 := q4Q HND.out hgk.out HT.out
      clear hown1 hgrow1 hown hck hhas hat hwc
      go_wp2
      go_roundw
      case rel => exact ⟨k + 1,by omega,by go_num,hx,R3,R1,R2⟩
      case measure => simp [intOf]; omega
    ·have hx : Hid (checkE (nms ss) = 4) := HU.out.trans (q2t hgk.out hn)
     go_wp2_with (first | (go_at_call 71; refine (qK x _ hsz).mono ?_; rintro e w' ⟨rfl,rfl⟩))
     go_ret2
     exact ⟨_,by rw [hx.out]; rfl,hnx,by rw [hx.out]; intro h; exact absurd h (by decide)⟩
   ·obtain rfl : k = len := by omega
    have hx : Hid (checkE (nms ss) = 0) := by
     have := HU.out
     rw [← HL.out,q2u] at this; exact this
    go_wp2
    go_ret2
    exact ⟨_,by rw [hx.out]; rfl,hnx,fun _ => ⟨rfl,by rw [HL.out]; exact hown,by rw [HL.out]; exact HND.out⟩⟩
theorem q2P (a : Option Addr) (len cap : Nat) (ad : Nat → Addr) (ss : List ByteArray) (w : World) (hS : StrSl Try.prog 30 w a len cap ad ss) (hz : checkE (nms ss) = 0) :
  Calls Try.prog 60 #[.slice a len cap] w fun e w' => e = .returned (.tuple #[.map (some w.heap.size),.int .i64 0]) ∧ Below w.heap.size w w' ∧
   w'.ownsMap Try.prog 9 (plainElem (H := Unit) Try.prog 3) w.heap.size len (mapD (nms ss) len) ∧ NDk (nms ss) len := by
 refine (q10 a len cap ad ss w hS).mono ?_
 rintro e w' ⟨m,rfl,hb,hm⟩
 obtain ⟨rfl,hown,hnd⟩ := hm hz
 have hl : (nms ss).length = len := by rw [qj,hS.hlen]
 rw [hl] at hown hnd
 exact ⟨by rw [hz],hb,hown,hnd⟩
theorem q2i (a : Option Addr) (len cap : Nat) (ad : Nat → Addr) (ss : List ByteArray) (w : World) (hS : StrSl Try.prog 30 w a len cap ad ss) :
  Calls Try.prog 60 #[.slice a len cap] w fun e w' => ∃ m,e = .returned (.tuple #[m,.int .i64 (checkE (nms ss))]) ∧ Below w.heap.size w w' := by
 refine (q10 a len cap ad ss w hS).mono ?_
 rintro e w' ⟨m,rfl,hb,hm⟩
 exact ⟨m,rfl,hb⟩
theorem q3y (i : Int) (w : World) (h0 : 0 ≤ i) (h1 : i < 8) :
  Calls Try.prog 61 #[.int .i64 i] w fun e w' => e = .returned (.int .u8 (2 ^ i.toNat % 256)) ∧ w' = w := by
 go_enter Try.func61,Try.ntmps61
 go_wp2
 go_ret
 exact ⟨rfl,rfl⟩
def ofGo (ns : List Bytes) : List Bytes → Int → Int × Int
 | [],l => (l,0)
 | o :: r,l => if atI ns o < 0 then (0,6) else ofGo ns r (bits BinOp.or IntKind.u8 l (2 ^ (atI ns o).toNat % 256))
def ofEc (ns os : List Bytes) : Int × Int := if checkE ns = 0 then ofGo ns os 0 else (0,checkE ns)
def ofAt (ns os : List Bytes) (k : Nat) (x : Int) : Int × Int := ofGo ns (os.drop k) x
theorem q3m {ns os : List Bytes} {k : Nat} {x : Int} (h : os.length ≤ k) : ofAt ns os k x = (x,0) := by unfold ofAt; rw [List.drop_of_length_le h]; rfl
theorem q2B {ns os : List Bytes} {k : Nat} {x : Int} {o : Bytes} (h : os[k]? = some o) (hm : atI ns o < 0) : ofAt ns os k x = (0,6) := by
 obtain ⟨hk,rfl⟩ := List.getElem?_eq_some_iff.1 h
 unfold ofAt; rw [List.drop_eq_getElem_cons hk]; unfold ofGo; rw [if_pos hm]
theorem q2C {ns os : List Bytes} {k : Nat} {x : Int} {o : Bytes} (h : os[k]? = some o) (hm : 0 ≤ atI ns o) : ofAt ns os k x = ofAt ns os (k + 1) (bits BinOp.or IntKind.u8 x (2 ^ (atI ns o).toNat % 256)) := by
 obtain ⟨hk,rfl⟩ := List.getElem?_eq_some_iff.1 h
 unfold ofAt; rw [List.drop_eq_getElem_cons hk]; conv => lhs; unfold ofGo
 rw [if_neg (by omega)]
theorem q16 {ns : List Bytes} (h : checkE ns = 0) : ns.length ≤ 8 := by
 unfold checkE at h; split at h
 ·exact absurd h (by decide)
 ·omega
def OfRc (ns os : List Bytes) (e : Ending) : Prop := e = .returned (.tuple #[.int .u8 (ofEc ns os).1,.int .i64 (ofEc ns os).2])
theorem q4l (a : Option Addr) (len cap : Nat) (ad : Nat → Addr) (ss : List ByteArray) (a' : Option Addr) (len' cap' : Nat) (ad' : Nat → Addr) (os : List ByteArray) (w : World)
  (hS : StrSl Try.prog 30 w a len cap ad ss) (hO : StrSl Try.prog 30 w a' len' cap' ad' os) :
  Calls Try.prog 37 #[.slice a len cap,.slice a' len' cap'] w fun e w' => OfRc (nms ss) (nms os) e ∧ Below w.heap.size w w' := by
 have hb0 := hO.bd
 have hb1 := hO.hcap
 have hlen : (nms ss).length = len := by rw [qj,hS.hlen]
 have hlen' : (nms os).length = len' := by rw [qj,hO.hlen]
 unfold maxLen at hb0
 by_cases hz : checkE (nms ss) = 0
 ·have HX : Hid (ofEc (nms ss) (nms os) = ofAt (nms ss) (nms os) 0 0) := by show _ = _; unfold ofEc; rw [if_pos hz]; simp [ofAt]
  have H8 := q16 hz
  have HL : Hid ((nms ss).length = len) := hlen
  have HL' : Hid ((nms os).length = len') := hlen'
  have HZ : Hid (checkE (nms ss) = 0) := hz
  clear hlen hlen' hz
  have hidx := fun (k : Nat) (w : World) (h : k < len') => hO.idx len' k w h (Nat.le_refl _)
  go_enter Try.func37,Try.ntmps37
  go_wp2_with (go_at_call 60; refine (q2P a len cap ad ss _ hS HZ.out).mono ?_; rintro e w1 ⟨rfl,hb,hown,hnd⟩)
  have HND : Hid (NDk (nms ss) len) := hnd
  have hO1 := hO.up hb
  clear hnd hO
  go_loop [8,23] (fun l i => ∃ (k : Nat) (x : Int),k ≤ len' ∧ i = .int .i64 k ∧ l = .int .u8 x ∧ Hid (ofEc (nms ss) (nms os) = ofAt (nms ss) (nms os) k x)) (fun _ i => len' - (intOf i).toNat)
  case atStart => exact ⟨0,0,Nat.zero_le _,rfl,rfl,HX⟩
  case round =>
   obtain ⟨k,x,hk,rfl,rfl,HU⟩ := hrel
   by_cases hlt : k < len'
   ·have hck := hO1.cell k hlt
    have hsz := hO1.sz k
    have hgk : Hid ((nms os)[k]? = some (os.getD k ByteArray.empty).toList) := qE (by rw [hO1.hlen]; omega)
    generalize os.getD k ByteArray.empty = y at *
    have hkey := q3Z y hsz
    have hhas := q1N (nms ss) y.toList len (by rw [HL.out]; exact Nat.le_refl _)
    have HAT : Hid _ := q44 (nms ss) y.toList len (by rw [HL.out]; exact Nat.le_refl _) HND.out
    have HC := q2n (nms ss) y.toList
    have HT : (nms ss).take len = nms ss := List.take_of_length_le (by rw [HL.out]; exact Nat.le_refl _)
    rw [HT] at hhas HAT
    clear HT
    rcases Bool.eq_false_or_eq_true ((nms ss).contains y.toList) with ht | ht
    ·rw [ht] at hhas HC
     have hp : 0 ≤ atI (nms ss) y.toList := by simpa using HC
     have HI : Hid (atI (nms ss) y.toList = ((nms ss).idxOf y.toList : Int)) := by show _ = _; unfold atI; rw [if_pos ht]
     have hq := (q4C (nms ss) y.toList).2
     have HX2 : Hid _ := HU.out.trans (q2C hgk.out hp)
     have HTT : Hid _ := ht
     clear ht HC
     go_wp2_with (first | (at_lookup; refine wpList_lookup_own_ok_int _ rfl _ _ 83 rfl 9 3 .i64 qZ Try.underlying83 Try.underlying3 (qA _) w.heap.size len _ rfl hown _ _ rfl hkey ?_; intro c hat hwc) | fail)
     have HC : Hid (c = atI (nms ss) y.toList) := by
      rw [HAT.out,if_pos HTT.out] at hat
      injection hat with hat; injection hat with _ hat
      show _ = _
      rw [← hat,HI.out]
     have hc0 : 0 ≤ c := by rw [HC.out]; exact hp
     have hc8 : c < 8 := by rw [HC.out]; omega
     clear hat hwc hp hq hhas
     go_wp2_with (go_at_call 61; refine (q3y _ _ hc0 hc8).mono ?_; rintro e w' ⟨rfl,rfl⟩)
     go_round
     case rel => exact ⟨k + 1,_,by omega,by go_num,rfl,by have := HX2.out; rw [← HC.out] at this; exact this⟩
     case measure => simp [intOf]; omega
    ·rw [ht] at hhas HC
     have HX2 : Hid _ := HU.out.trans (q2B (ns := nms ss) (x := x) hgk.out (by simpa using HC))
     clear ht HC
     go_wp2_with (first | (at_lookup; refine wpList_lookup_own_ok_int _ rfl _ _ 83 rfl 9 3 .i64 qZ Try.underlying83 Try.underlying3 (qA _) w.heap.size len _ rfl hown _ _ rfl hkey ?_; intro c hat hwc) | fail)
     go_ret2
     exact ⟨by unfold OfRc; rw [HX2.out]; rfl,hb⟩
   ·have HX2 : Hid _ := HU.out.trans (q3m (ns := nms ss) (x := x) (by rw [HL'.out]; omega))
    go_wp2
    go_ret2
    exact ⟨by unfold OfRc; rw [HX2.out]; rfl,hb⟩
 ·have HX : Hid (ofEc (nms ss) (nms os) = (0,checkE (nms ss))) := by show _ = _; unfold ofEc; rw [if_neg hz]
  clear hlen hlen'
  have hz' : (checkE (nms ss) != 0) = true := by simpa using hz
  clear hz
  go_enter Try.func37,Try.ntmps37
  go_wp2_with (go_at_call 60; refine (q2i a len cap ad ss _ hS).mono ?_; rintro e w1 ⟨m,rfl,hb⟩)
  go_ret2
  exact ⟨by unfold OfRc; rw [HX.out]; rfl,hb⟩
theorem q3K (a : Option Addr) (len cap : Nat) (ad : Nat → Addr) (ss : List ByteArray) (a' : Option Addr) (len' cap' : Nat) (ad' : Nat → Addr) (os : List ByteArray) (w : World)
  (hS : StrSl Try.prog 30 w a len cap ad ss) (hO : StrSl Try.prog 30 w a' len' cap' ad' os) :
  Calls Try.prog 39 #[.slice a len cap,.slice a' len' cap'] w fun e w' => OfRc (nms ss) (nms os) e ∧ Hid (∃ n,w' = w.drewN n) := by
 have hb0 := hO.bd
 have hb1 := hO.hcap
 have hlen : (nms ss).length = len := by rw [qj,hS.hlen]
 have hlen' : (nms os).length = len' := by rw [qj,hO.hlen]
 unfold maxLen at hb0
 by_cases hz : checkE (nms ss) = 0
 ·have HX : Hid (ofEc (nms ss) (nms os) = ofAt (nms ss) (nms os) 0 0) := by show _ = _; unfold ofEc; rw [if_pos hz]; simp [ofAt]
  have H8 := q16 hz
  have HL : Hid ((nms ss).length = len) := hlen
  have HL' : Hid ((nms os).length = len') := hlen'
  have HZ : Hid (checkE (nms ss) = 0) := hz
  clear hlen hlen' hz
  have hidx := fun (k : Nat) (w : World) (h : k < len') => hO.idx len' k w h (Nat.le_refl _)
  have hrc : Calls Try.prog 62 #[.slice a len cap] w fun e w' => e = .returned (.int .i64 0) ∧ Hid (∃ n,w' = w.drewN n) :=
   (q11 a len cap ad ss w hS).mono fun e w' ⟨he,hn⟩ => ⟨by rw [he,HZ.out],hn⟩
  go_enter Try.func39,Try.ntmps39
  go_wp2_with (go_at_call 62; refine hrc.mono ?_; rintro e w1 ⟨rfl,hw1⟩)
  have hS1 : StrSl Try.prog 30 w1 a len cap ad ss := by obtain ⟨n,rfl⟩ := hw1.out; exact hS.up (below_drewN (Below.refl _ _) n)
  have hO1 : StrSl Try.prog 30 w1 a' len' cap' ad' os := by obtain ⟨n,rfl⟩ := hw1.out; exact hO.up (below_drewN (Below.refl _ _) n)
  clear hS hO hrc
  go_loop [7,8] (fun l i => ∃ (k : Nat) (x : Int),k ≤ len' ∧ i = .int .i64 k ∧ l = .int .u8 x ∧ Hid (ofEc (nms ss) (nms os) = ofAt (nms ss) (nms os) k x)) (fun _ i => len' - (intOf i).toNat)
  case atStart => exact ⟨0,0,Nat.zero_le _,rfl,rfl,HX⟩
  case round =>
   obtain ⟨k,x,hk,rfl,rfl,HU⟩ := hrel
   by_cases hlt : k < len'
   ·have hck := hO1.cell k hlt
    have hgk : Hid ((nms os)[k]? = some (os.getD k ByteArray.empty).toList) := qE (by rw [hO1.hlen]; omega)
    generalize os.getD k ByteArray.empty = y at *
    by_cases hp : 0 ≤ atI (nms ss) y.toList
    ·have hq := (q4C (nms ss) y.toList).2
     have HX2 : Hid _ := HU.out.trans (q2C hgk.out hp)
     go_wp2_with (go_at_call 63; refine (q14 a len cap ad ss y _ hS1).mono ?_; rintro e w' ⟨rfl,rfl⟩)
     go_round
     case rel => exact ⟨k + 1,_,by omega,by go_num,rfl,HX2⟩
     case measure => simp [intOf]; omega
    ·have HX2 : Hid _ := HU.out.trans (q2B (ns := nms ss) (x := x) hgk.out (by omega))
     go_wp2_with (go_at_call 63; refine (q14 a len cap ad ss y _ hS1).mono ?_; rintro e w' ⟨rfl,rfl⟩)
     go_ret2
     exact ⟨by unfold OfRc; rw [HX2.out]; rfl,hw1⟩
   ·have HX2 : Hid _ := HU.out.trans (q3m (ns := nms ss) (x := x) (by rw [HL'.out]; omega))
    go_wp2
    go_ret2
    exact ⟨by unfold OfRc; rw [HX2.out]; rfl,hw1⟩
 ·have HX : Hid (ofEc (nms ss) (nms os) = (0,checkE (nms ss))) := by show _ = _; unfold ofEc; rw [if_neg hz]
  clear hlen hlen'
  have hz' : (checkE (nms ss) != 0) = true := by simpa using hz
  clear hz
  have hrc : Calls Try.prog 62 #[.slice a len cap] w fun e w' => e = .returned (.int .i64 (checkE (nms ss))) ∧ Hid (∃ n,w' = w.drewN n) := q11 a len cap ad ss w hS
  go_enter Try.func39,Try.ntmps39
  go_wp2_with (go_at_call 62; refine hrc.mono ?_; rintro e w1 ⟨rfl,hw1⟩)
  go_ret2
  exact ⟨by unfold OfRc; rw [HX.out]; rfl,hw1⟩
def bitB (l i : Int) : Bool := decide (0 ≤ i ∧ i < 8) && decide (l / 2 ^ i.toNat % 2 = 1)
theorem q4n (x : Int) (h0 : 0 ≤ x) (h1 : x < 256) : bits BinOp.and IntKind.u8 x 1 = x % 2 := by
 rw [u8_and x 1 h0 h1 (by decide) (by decide)]
 have e : (1 : Int).toNat = 1 := rfl
 rw [e,Nat.and_one_is_mod]; omega
theorem q5C {l : Int} (n : Nat) (h0 : 0 ≤ l) (h1 : l < 256) : 0 ≤ l / 2 ^ n ∧ l / 2 ^ n < 256 := by
 have hp : (0 : Int) < 2 ^ n := Int.pow_pos (by decide)
 exact ⟨Int.ediv_nonneg h0 (Int.le_of_lt hp),Int.lt_of_le_of_lt (Int.ediv_le_self _ h0) h1⟩
theorem q1y (l i : Int) (w : World) (hl0 : 0 ≤ l) (hl1 : l < 256) :
  Calls Try.prog 42 #[.int .u8 l,.int .i64 i] w fun e w' => e = .returned (.bool (bitB l i)) ∧ w' = w := by
 have hd := q5C i.toNat hl0 hl1
 have HD : Hid _ := q4n _ hd.1 hd.2
 clear hd
 by_cases h0 : 0 ≤ i
 ·by_cases h8 : i < 8
  ·have HX : Hid (bitB l i = (l / 2 ^ i.toNat % 2 == 1)) := by
    show _ = _; unfold bitB; rw [decide_eq_true ⟨h0,h8⟩,Bool.true_and]
    by_cases e : l / 2 ^ i.toNat % 2 = 1 <;> simp [e]
   go_enter Try.func42,Try.ntmps42
   go_wp2
   go_ret
   exact ⟨by rw [HX.out,← HD.out]; rfl,rfl⟩
  ·have HX : Hid (bitB l i = false) := by show _ = _; unfold bitB; rw [decide_eq_false (by omega)]; rfl
   go_enter Try.func42,Try.ntmps42
   go_wp2
   go_ret
   exact ⟨by rw [HX.out]; rfl,rfl⟩
 ·have HX : Hid (bitB l i = false) := by show _ = _; unfold bitB; rw [decide_eq_false (by omega)]; rfl
  go_enter Try.func42,Try.ntmps42
  go_wp2
  go_ret
  exact ⟨by rw [HX.out]; rfl,rfl⟩
end Go.Proofs.Ytohbphocfkgdcaa
namespace Go.Proofs.Ytohbphocfkgdcaa
theorem q5g {α : Type} {Q : List α} {j : Nat} (h : j < Q.length) (d : α) : Q.getD j d = Q[j] := by
 rw [List.getD_eq_getElem?_getD,List.getElem?_eq_getElem h]; rfl
variable {n K : Nat} {R : List (List Nat)} {bs : List Bool}
variable {c : Nat → Nat} {Q F : List Nat}
def mvL (m : Nat) : List Nat := (List.range 256).filter fun l => l &&& m == l
def cbN (m : Nat) : Nat → Nat
 | 0 => 0
 | k + 1 => cbN m k + m / 2 ^ k % 2
theorem qD {m l : Nat} : l ∈ mvL m ↔ l < 256 ∧ l &&& m = l := by simp [mvL]
theorem qz {n : Nat} {P : Nat → Bool} (h : (List.range n).all P = true) : ∀ m,m < n → P m = true := fun m hm => List.all_eq_true.1 h m (List.mem_range.2 hm)
theorem q5q (m : Nat) (hm : m < 256) : (mvL m).length = 2 ^ cbN m 8 := by
 have h : (List.range 256).all (fun m => (mvL m).length == 2 ^ cbN m 8) = true := by decide +kernel
 exact beq_iff_eq.1 (qz h m hm)
theorem qo (m : Nat) : (mvL m).length ≤ 256 := by
 unfold mvL
 exact Nat.le_trans (List.length_filter_le _ _) (by simp)
theorem q54 (m : Nat) : (mvL m).Pairwise (· < ·) := List.Pairwise.filter _ List.pairwise_lt_range
theorem q1v (m : Nat) : 0 < (mvL m).length := List.length_pos_of_mem (a := 0) (qD.2 ⟨by decide,by simp⟩)
theorem qF {m i : Nat} (h : i < (mvL m).length) : (mvL m).getD i 0 < 256 ∧ (mvL m).getD i 0 &&& m = (mvL m).getD i 0 := by
 have : (mvL m).getD i 0 = (mvL m)[i] := by simp [List.getD_eq_getElem?_getD,List.getElem?_eq_getElem h]
 rw [this]
 exact qD.1 (List.getElem_mem h)
theorem q4J {m i j : Nat} (hij : i < j) (hj : j < (mvL m).length) : (mvL m).getD i 0 < (mvL m).getD j 0 := by
 have hi : i < (mvL m).length := Nat.lt_trans hij hj
 have e1 : (mvL m).getD i 0 = (mvL m)[i] := by simp [List.getD_eq_getElem?_getD,List.getElem?_eq_getElem hi]
 have e2 : (mvL m).getD j 0 = (mvL m)[j] := by simp [List.getD_eq_getElem?_getD,List.getElem?_eq_getElem hj]
 rw [e1,e2]
 exact List.pairwise_iff_getElem.1 (q54 m) i j hi hj hij
theorem q5p {m i j : Nat} (hi : i < (mvL m).length) (hj : j < (mvL m).length) (h : (mvL m).getD i 0 = (mvL m).getD j 0) : i = j := by
 rcases Nat.lt_trichotomy i j with h1 | h1 | h1
 ·have := q4J h1 hj; omega
 ·exact h1
 ·have := q4J h1 hi; omega
theorem q3k {m l : Nat} (hl : l < 256) (h : l &&& m = l) : ∃ i,i < (mvL m).length ∧ (mvL m).getD i 0 = l := by
 obtain ⟨i,hi,e⟩ := List.getElem_of_mem (qD.2 ⟨hl,h⟩)
 exact ⟨i,hi,by rw [← e]; simp [List.getD_eq_getElem?_getD,List.getElem?_eq_getElem hi]⟩
theorem q24 {m l : Nat} (hm : m < 256) (hl : l < 256) : (l &&& (255 - m) = 0) ↔ l &&& m = l := by
 have h : (List.range 256).all (fun m => (List.range 256).all fun l => (l &&& (255 - m) == 0) == (l &&& m == l)) = true := by decide +kernel
 have := beq_iff_eq.1 (qz (qz h m hm) l hl)
 constructor
 ·intro e; rw [e] at this; simpa using this.symm
 ·intro e; rw [e] at this; simpa using this
theorem ql {m l : Nat} (h : l &&& m = l) : l ≤ m := by rw [← h]; exact Nat.and_le_right
theorem q5B (m k : Nat) : cbN m k ≤ k := by
 induction k with
 | zero => exact Nat.le_refl _
 | succ k ih => unfold cbN; have := Nat.mod_lt (m / 2 ^ k) (show 0 < 2 by decide); omega
def sysN (p e : Nat) : Nat := (2 ^ p - 1) &&& (255 - e)
def SplitN (p e s : Nat) : Prop := e &&& s = 0 ∧ e ||| s = 2 ^ p - 1
end Go.Proofs.Ytohbphocfkgdcaa
