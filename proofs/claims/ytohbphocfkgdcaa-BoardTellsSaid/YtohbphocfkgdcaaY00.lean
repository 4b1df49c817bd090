/- Texts of the proof, put together: what it uses. -/
import Derived.WalkKit
import Derived.WalkSpells
import Derived.Maps.OwnSet
set_option maxRecDepth 100000
set_option maxHeartbeats 16000000
namespace Go.Proofs.Ytohbphocfkgdcaa
open Go.RowKit
def smallB (c : Int) : Bool := decide (97 ≤ c ∧ c ≤ 122)
def digitB (c : Int) : Bool := decide (48 ≤ c ∧ c ≤ 57)
def byteB (c : UInt8) : Bool := smallB (c.toNat : Int) || digitB (c.toNat : Int)
def resL (s : List UInt8) : Bool := s == [116,114,117,101] || s == [102,97,108,115,101] || s == [108,97,115,116]
def nameL (s : List UInt8) : Bool := decide (1 ≤ s.length) && decide (s.length ≤ 20) && smallB ((s.headD 0).toNat : Int) && s.all byteB && !resL s
theorem q3q {c : Int} (h : c < 97 ∨ 122 < c) : smallB c = false := by simp [smallB]; omega
theorem q1L {c : Int} (h : c < 48 ∨ 57 < c) : digitB c = false := by simp [digitB]; omega
theorem q4T {c : Int} (h1 : 48 ≤ c) (h2 : c ≤ 57) : digitB c = true := by simp [digitB,h1,h2]
theorem q3s (s : ByteArray) : s.toList.length = s.size := by rw [ByteArray.toList_eq]; rfl
theorem q3r (s : ByteArray) (k : Nat) (h : k < s.size) : s.toList[k]? = some s[k] := by
 rw [ByteArray.toList_eq,List.getElem?_eq_getElem (by simpa using h)]; rfl
theorem q4a (s : ByteArray) (h : 0 < s.size) : s.toList.headD 0 = s[0] := by
 have := q3r s 0 h
 cases hs : s.toList with
 | nil => rw [hs] at this; simp at this
 | cons a r => rw [hs] at this; simp at this; simp [this]
def upB (s : ByteArray) (k : Nat) : Prop := (s.toList.take k).all byteB = true
theorem q3t (s : ByteArray) : upB s 0 := by simp [upB]
theorem q1d {s : ByteArray} {k : Nat} (h : upB s k) (hk : k < s.size) (hb : byteB s[k] = true) : upB s (k + 1) := by
 have e : s.toList.take (k + 1) = s.toList.take k ++ [s[k]] := by
  rw [List.take_add_one,q3r s k hk]; rfl
 unfold upB at *
 rw [e,List.all_append,h]; simp [hb]
theorem q5y {s : ByteArray} (h : upB s s.size) : s.toList.all byteB = true := by
 unfold upB at h; rwa [List.take_of_length_le (by rw [q3s]; exact Nat.le_refl _)] at h
theorem q5c {s : ByteArray} {k : Nat} (hk : k < s.size) (hb : byteB s[k] = false) : s.toList.all byteB = false := by
 rw [List.all_eq_false]
 exact ⟨s[k],List.mem_of_getElem? (q3r s k hk),by simp [hb]⟩
abbrev Bytes := List UInt8
def chkGo : List Bytes → List Bytes → Int
 | _,[] => 0
 | seen,s :: r => if nameL s = false then 4 else if seen.contains s then 5 else chkGo (seen ++ [s]) r
def checkE (ns : List Bytes) : Int := if 8 < ns.length then 3 else chkGo [] ns
def chkAt (ns : List Bytes) (k : Nat) : Int := chkGo (ns.take k) (ns.drop k)
theorem q1Z (ns : List Bytes) : chkAt ns 0 = chkGo [] ns := by simp [chkAt]
theorem q2u (ns : List Bytes) : chkAt ns ns.length = 0 := by simp [chkAt,chkGo]
theorem q2t {ns : List Bytes} {k : Nat} {s : Bytes} (h : ns[k]? = some s) (hb : nameL s = false) : chkAt ns k = 4 := by
 obtain ⟨hk,rfl⟩ := List.getElem?_eq_some_iff.1 h
 unfold chkAt; rw [List.drop_eq_getElem_cons hk]; simp [chkGo,hb]
theorem q1G {ns : List Bytes} {k : Nat} {s : Bytes} (h : ns[k]? = some s) (hb : nameL s = true) (hs : (ns.take k).contains s = true) : chkAt ns k = 5 := by
 obtain ⟨hk,rfl⟩ := List.getElem?_eq_some_iff.1 h
 unfold chkAt; rw [List.drop_eq_getElem_cons hk]; unfold chkGo; rw [if_neg (by simp [hb]),if_pos hs]
theorem q1Y {ns : List Bytes} {k : Nat} {s : Bytes} (h : ns[k]? = some s) (hb : nameL s = true) (hs : (ns.take k).contains s = false) : chkAt ns k = chkAt ns (k + 1) := by
 obtain ⟨hk,rfl⟩ := List.getElem?_eq_some_iff.1 h
 unfold chkAt; rw [List.drop_eq_getElem_cons hk,List.take_add_one,List.getElem?_eq_getElem hk]
 conv => lhs; unfold chkGo
 rw [if_neg (by simp [hb]),if_neg (by rw [hs]; simp)]; rfl
def atI (ns : List Bytes) (s : Bytes) : Int := if ns.contains s then (ns.idxOf s : Int) else -1
theorem q40 {ns : List Bytes} {k : Nat} {s : Bytes} (h : ns[k]? = some s) (hs : (ns.take k).contains s = false) : atI ns s = k := by
 obtain ⟨hk,rfl⟩ := List.getElem?_eq_some_iff.1 h
 have hi : ns.idxOf ns[k] = k := by
  have hn : ns[k] ∉ ns.take k := by simpa using hs
  have e : ns = ns.take k ++ ns.drop k := (List.take_append_drop k ns).symm
  have e2 : ns.drop k = ns[k] :: ns.drop (k + 1) := List.drop_eq_getElem_cons hk
  generalize hx : ns[k] = x at *
  rw [e,e2,List.idxOf_append,if_neg hn]; simp; omega
 unfold atI; rw [if_pos (by simp),hi]
theorem q4S {ns : List Bytes} {s : Bytes} (hs : ns.contains s = false) : atI ns s = -1 := by unfold atI; rw [if_neg (by rw [hs]; simp)]
theorem q4C (ns : List Bytes) (s : Bytes) : -1 ≤ atI ns s ∧ atI ns s < ns.length := by
 unfold atI
 split
 ·rename_i h
  have : ns.idxOf s < ns.length := List.idxOf_lt_length_iff.2 (by simpa using h)
  omega
 ·omega
theorem q2n (ns : List Bytes) (s : Bytes) : (decide (0 ≤ atI ns s)) = ns.contains s := by
 unfold atI
 split
 ·rename_i h; rw [h]; simp
 ·rename_i h; simp at h; simp [h]
theorem qp {ns : List Bytes} {k : Nat} {s x : Bytes} (h : ns[k]? = some s) : (ns.take (k + 1)).contains x = ((ns.take k).contains x || x == s) := by
 rw [List.take_add_one,h]; by_cases e : x = s <;> simp [e]
def mapD (ns : List Bytes) : Nat → DataW Unit
 | 0 => .map []
 | k + 1 => (mapD ns k).put (.string (ns.getD k [])) (.lit (.int .i64 k))
def NDk (ns : List Bytes) (k : Nat) : Prop := ∀ j s,j < k → ns[j]? = some s → (ns.take j).contains s = false
theorem isKey (s : Bytes) : WideAt.IsKeyLit (.string s) := by trivial
theorem q17 (ns : List Bytes) : ∀ k,Maps.IsMap (mapD ns k)
 | 0 => Maps.isMap_empty
 | k + 1 => (q17 ns k).put _ _
theorem q1N (ns : List Bytes) (s : Bytes) : ∀ k,k ≤ ns.length → Maps.has (mapD ns k) (.string s) = (ns.take k).contains s
 | 0,_ => by simp [mapD,Maps.has_eq]
 | k + 1,hk => by
  have hg : ns[k]? = some (ns.getD k []) := by rw [List.getElem?_eq_getElem (by omega)]; simp [List.getD_eq_getElem?_getD,List.getElem?_eq_getElem (show k < ns.length by omega)]
  rw [qp hg,mapD,← q1N ns s k (by omega)]
  by_cases e : s = ns.getD k []
  ·subst e; rw [Maps.has_put_same (q17 ns k) (isKey _)]; simp
  ·have e2 : (s == ns.getD k []) = false := by simpa using e
   rw [Maps.has_put_other (by intro h; injection h with h; exact e h),e2,Bool.or_false]
theorem q44 (ns : List Bytes) (s : Bytes) : ∀ k,k ≤ ns.length → NDk ns k → (mapD ns k).atKey (.string s) (.lit (.int .i64 0)) = .lit (.int .i64 (if (ns.take k).contains s then (ns.idxOf s : Int) else 0))
 | 0,_,_ => by simp [mapD,DataW.atKey]
 | k + 1,hk,hn => by
  have hg : ns[k]? = some (ns.getD k []) := by rw [List.getElem?_eq_getElem (by omega)]; simp [List.getD_eq_getElem?_getD,List.getElem?_eq_getElem (show k < ns.length by omega)]
  rw [qp hg,mapD]
  by_cases e : s = ns.getD k []
  ·subst e
   rw [Maps.atKey_put_same (q17 ns k) (isKey _)]
   have h1 := q40 hg (hn k _ (by omega) hg)
   have h2 : ns.contains (ns.getD k []) = true := by
    have := List.mem_of_getElem? hg; simpa using this
   unfold atI at h1; rw [if_pos h2] at h1
   rw [h1]; simp
  ·have e2 : (s == ns.getD k []) = false := by simpa using e
   rw [Maps.atKey_put_other (by intro h; injection h with h; exact e h),q44 ns s k (by omega) (fun j s' hj => hn j s' (by omega)),e2,Bool.or_false]
end Go.Proofs.Ytohbphocfkgdcaa
