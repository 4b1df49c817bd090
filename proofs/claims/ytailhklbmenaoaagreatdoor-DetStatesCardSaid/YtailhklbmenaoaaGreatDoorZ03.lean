/- Texts of the proof, put together: what it uses. -/
import Derived.WalkKit
import Derived.WalkSpells
import Derived.Maps.OwnSet
import Derived.Test.YtailhklbmenaoaaGreatDoorProg
import Derived.WalkLawsBesides
import Derived.BigQuiet
import Derived.Deep.QuietTactic
import Derived.Lib.TrailingZeros
import Derived.Test.YtailhklbmenaoaaGreatDoorZ02
set_option maxRecDepth 100000
set_option maxHeartbeats 16000000
namespace Go.Proofs.YtailhklbmenaoaaGreatDoor
abbrev Wi (a b : Nat) : Prop := a &&& b = a
theorem q29 {a b : Nat} : Wi a b ↔ ∀ i,a.testBit i = true → b.testBit i = true := by
 unfold Wi
 constructor
 ·intro h i hi
  have := congrArg (fun x => x.testBit i) h
  simp only [Nat.testBit_and,hi,Bool.true_and] at this
  exact this
 ·intro h
  apply Nat.eq_of_testBit_eq
  intro i
  rw [Nat.testBit_and]
  cases ha : a.testBit i with
  | false => rfl
  | true => rw [h i ha]; rfl
theorem q3e (a : Nat) : Wi a a := q29.2 fun _ h => h
theorem q3B {a b c : Nat} (h : Wi a b) (k : Wi b c) : Wi a c := q29.2 fun i hi => q29.1 k i (q29.1 h i hi)
theorem qcD {a b : Nat} (h : Wi a b) (k : Wi b a) : a = b := by
 apply Nat.eq_of_testBit_eq
 intro i
 cases ha : a.testBit i with
 | true => exact (q29.1 h i ha).symm
 | false =>
  cases hb : b.testBit i with
  | false => rfl
  | true => rw [q29.1 k i hb] at ha; cases ha
theorem wi_le {a b : Nat} (h : Wi a b) : a ≤ b := by
 unfold Wi at h
 rw [← h]; exact Nat.and_le_right
abbrev HoP (l : List Nat) (h : Nat) : Prop := ∃ s ∈ l,Wi s h
def hoB (l : List Nat) (h : Nat) : Bool := decide (HoP l h)
abbrev Mini (l : List Nat) (x : Nat) : Prop := x ∈ l ∧ ∀ y ∈ l,Wi y x → y = x
structure IsLeast (l r : List Nat) : Prop where
 up : r.Pairwise (· < ·)
 mem : ∀ x,x ∈ r ↔ Mini l x
theorem q38 : ∀ {a b : List Nat},a.Pairwise (· < ·) → b.Pairwise (· < ·) → (∀ x,x ∈ a ↔ x ∈ b) → a = b
 | [],[],_,_,_ => rfl
 | [],y :: b,_,_,h => absurd ((h y).2 (by simp)) (by simp)
 | x :: a,[],_,_,h => absurd ((h x).1 (by simp)) (by simp)
 | x :: a,y :: b,ha,hb,h => by
  obtain ⟨ha1,ha2⟩ := List.pairwise_cons.1 ha
  obtain ⟨hb1,hb2⟩ := List.pairwise_cons.1 hb
  have e : x = y := by
   have h1 := (h x).1 (by simp)
   have h2 := (h y).2 (by simp)
   rcases List.mem_cons.1 h1 with h1 | h1
   ·exact h1
   ·rcases List.mem_cons.1 h2 with h2 | h2
    ·exact h2.symm
    ·have := hb1 x h1
     have := ha1 y h2
     omega
  subst e
  refine congrArg (x :: ·) (q38 ha2 hb2 fun z => ?_)
  constructor
  ·intro hz
   rcases List.mem_cons.1 ((h z).1 (by simp [hz])) with e | e
   ·have := ha1 z hz; omega
   ·exact e
  ·intro hz
   rcases List.mem_cons.1 ((h z).2 (by simp [hz])) with e | e
   ·have := hb1 z hz; omega
   ·exact e
theorem IsLeast.one {l r r' : List Nat} (h : IsLeast l r) (h' : IsLeast l r') : r = r' := q38 h.up h'.up fun x => (h.mem x).trans (h'.mem x).symm
theorem q7l (l : List Nat) : ∀ (n x : Nat),x ≤ n → x ∈ l → ∃ y,Mini l y ∧ Wi y x := by
 intro n
 induction n with
 | zero =>
  intro x hx hm
  obtain rfl : x = 0 := by omega
  exact ⟨0,⟨hm,fun y hy hw => by have := wi_le hw; omega⟩,q3e 0⟩
 | succ n ih =>
  intro x hx hm
  by_cases h : Mini l x
  ·exact ⟨x,h,q3e x⟩
  ·have : ∃ y ∈ l,Wi y x ∧ y ≠ x := by
    apply Classical.byContradiction
    intro hc
    apply h
    refine ⟨hm,fun y hy hw => ?_⟩
    apply Classical.byContradiction
    intro he
    exact hc ⟨y,hy,hw,he⟩
   obtain ⟨y,hy,hw,hne⟩ := this
   have := wi_le hw
   obtain ⟨z,hz,hzw⟩ := ih y (by omega) hy
   exact ⟨z,hz,q3B hzw hw⟩
theorem IsLeast.holds {l r : List Nat} (h : IsLeast l r) (held : Nat) : HoP r held ↔ HoP l held := by
 constructor
 ·rintro ⟨s,hs,hw⟩
  exact ⟨s,((h.mem s).1 hs).1,hw⟩
 ·rintro ⟨s,hs,hw⟩
  obtain ⟨y,hy,hyw⟩ := q7l l s s (Nat.le_refl _) hs
  exact ⟨y,(h.mem y).2 hy,q3B hyw hw⟩
theorem q92 {a b : List Nat} (h : ∀ held,HoP a held ↔ HoP b held) {x : Nat} (hx : Mini a x) : Mini b x := by
 obtain ⟨s,hs,hw⟩ := (h x).1 ⟨x,hx.1,q3e x⟩
 obtain ⟨t,ht,hw2⟩ := (h s).2 ⟨s,hs,q3e s⟩
 have e := hx.2 t ht (q3B hw2 hw)
 subst e
 have e := qcD hw hw2
 subst e
 refine ⟨hs,fun y hy hyw => ?_⟩
 obtain ⟨u,hu,huw⟩ := (h y).2 ⟨y,hy,q3e y⟩
 have e := hx.2 u hu (q3B huw hyw)
 subst e
 exact qcD hyw huw
theorem qdC {a b r r' : List Nat} (h : IsLeast a r) (h' : IsLeast b r') (hs : ∀ held,HoP a held ↔ HoP b held) : r = r' :=
 q38 h.up h'.up fun x => by
  rw [h.mem,h'.mem]
  exact ⟨q92 hs,q92 fun held => (hs held).symm⟩
theorem qcT {a b : List Nat} {h : Nat} : HoP (a ++ b) h ↔ HoP a h ∨ HoP b h := by
 unfold HoP
 constructor
 ·rintro ⟨s,hs,hw⟩
  rcases List.mem_append.1 hs with hs | hs
  ·exact Or.inl ⟨s,hs,hw⟩
  ·exact Or.inr ⟨s,hs,hw⟩
 ·rintro (⟨s,hs,hw⟩ | ⟨s,hs,hw⟩)
  ·exact ⟨s,by simp [hs],hw⟩
  ·exact ⟨s,by simp [hs],hw⟩
def uniL (a b : List Nat) : List Nat := a.flatMap fun x => b.map fun y => x ||| y
theorem q3S (a b : List Nat) : (uniL a b).length = a.length * b.length := by
 unfold uniL
 induction a with
 | nil => simp
 | cons x a ih => rw [List.flatMap_cons,List.length_append,ih,List.length_map,List.length_cons,Nat.succ_mul]; omega
def insU (x : Nat) : List Nat → List Nat
 | [] => [x]
 | y :: r => if x < y then x :: y :: r else if x = y then y :: r else y :: insU x r
theorem q6l (x z : Nat) : ∀ l : List Nat,z ∈ insU x l ↔ z = x ∨ z ∈ l
 | [] => by simp [insU]
 | y :: r => by
  unfold insU
  split
  ·simp
  ·split
   ·rename_i h1 h2; subst h2; simp
   ·simp only [List.mem_cons,q6l x z r]
    constructor
    ·rintro (h | h | h)
     ·exact Or.inr (Or.inl h)
     ·exact Or.inl h
     ·exact Or.inr (Or.inr h)
    ·rintro (h | h | h)
     ·exact Or.inr (Or.inl h)
     ·exact Or.inl h
     ·exact Or.inr (Or.inr h)
theorem qcj (x : Nat) : ∀ l : List Nat,l.Pairwise (· < ·) → (insU x l).Pairwise (· < ·)
 | [],_ => by simp [insU]
 | y :: r,h => by
  obtain ⟨h1,h2⟩ := List.pairwise_cons.1 h
  unfold insU
  split
  ·rename_i hx
   refine List.pairwise_cons.2 ⟨fun z hz => ?_,h⟩
   rcases List.mem_cons.1 hz with rfl | hz
   ·exact hx
   ·have := h1 z hz; omega
  ·split
   ·exact h
   ·rename_i hx hy
    refine List.pairwise_cons.2 ⟨fun z hz => ?_,qcj x r h2⟩
    rcases (q6l x z r).1 hz with rfl | hz
    ·omega
    ·exact h1 z hz
def sortU (l : List Nat) : List Nat := l.foldr insU []
theorem q9e (z : Nat) : ∀ l : List Nat,z ∈ sortU l ↔ z ∈ l
 | [] => by simp [sortU]
 | x :: l => by
  show z ∈ insU x (sortU l) ↔ _
  rw [q6l,q9e z l,List.mem_cons]
theorem qbq : ∀ l : List Nat,(sortU l).Pairwise (· < ·)
 | [] => by simp [sortU]
 | x :: l => qcj x _ (qbq l)
def leastL (l : List Nat) : List Nat := (sortU l).filter fun x => decide (Mini l x)
theorem q1z (l : List Nat) : IsLeast l (leastL l) := by
 refine ⟨(qbq l).filter _,fun x => ?_⟩
 unfold leastL
 rw [List.mem_filter,q9e,decide_eq_true_eq]
 exact ⟨fun h => h.2,fun h => ⟨h.1,h⟩⟩
theorem qdB {l r : List Nat} (h : IsLeast l r) : r = leastL l := h.one (q1z l)
theorem q4x {a b : List Nat} (hs : ∀ held,HoP a held ↔ HoP b held) : leastL a = leastL b := qdC (q1z a) (q1z b) hs
theorem q5o (l : List Nat) (held : Nat) : HoP (leastL l) held ↔ HoP l held := (q1z l).holds held
theorem q5n (l : List Nat) : leastL (leastL l) = leastL l := q4x fun held => q5o l held
theorem q2y {l : List Nat} {x : Nat} (h : x ∈ leastL l) : x ∈ l := ((q1z l).mem x).1 h |>.1
theorem q7s : ∀ {a l : List Nat},a.Pairwise (· < ·) → (∀ x ∈ a,x ∈ l) → a.length ≤ l.length
 | [],_,_,_ => Nat.zero_le _
 | x :: a,l,h,hs => by
  obtain ⟨h1,h2⟩ := List.pairwise_cons.1 h
  have hm := hs x (by simp)
  have := q7s (l := l.erase x) h2 (fun y hy => by
   have := h1 y hy
   exact (List.mem_erase_of_ne (by omega)).2 (hs y (by simp [hy])))
  rw [List.length_erase_of_mem hm] at this
  have hp := List.length_pos_of_mem hm
  simp only [List.length_cons]
  omega
theorem q4y (l : List Nat) : (leastL l).length ≤ l.length := q7s (q1z l).up fun _ hx => q2y hx
theorem qcX : leastL [] = [] := rfl
theorem or_lt {a b : Nat} (ha : a < 2 ^ 64) (hb : b < 2 ^ 64) : a ||| b < 2 ^ 64 := Nat.or_lt_two_pow ha hb
theorem q7k {p : List Nat} {x : Nat} (hx : ∀ y ∈ p,y ≤ x) : leastL (p ++ [x]) = if hoB (leastL p) x then leastL p else leastL p ++ [x] := by
 have hh : hoB (leastL p) x = true ↔ HoP p x := by
  unfold hoB
  rw [decide_eq_true_iff]
  exact q5o p x
 split
 ·rename_i h
  obtain ⟨s,hs,hw⟩ := hh.1 h
  refine q4x fun held => ?_
  rw [qcT]
  constructor
  ·rintro (h1 | ⟨y,hy,h1⟩)
   ·exact h1
   ·rcases List.mem_singleton.1 hy with rfl
    exact ⟨s,hs,q3B hw h1⟩
  ·exact Or.inl
 ·rename_i h
  have hn : ¬ HoP p x := fun k => h (hh.2 k)
  have hxp : x ∉ p := fun k => hn ⟨x,k,q3e x⟩
  symm
  refine qdB ⟨?_,fun y => ?_⟩
  ·refine List.pairwise_append.2 ⟨(q1z p).up,List.pairwise_singleton _ _,fun y hy z hz => ?_⟩
   rcases List.mem_singleton.1 hz with rfl
   have h1 := q2y hy
   have h2 := hx y h1
   have h3 : y ≠ z := fun e => hxp (e ▸ h1)
   omega
  ·rw [List.mem_append,(q1z p).mem,List.mem_singleton]
   constructor
   ·rintro (⟨h1,h2⟩ | rfl)
    ·refine ⟨by simp [h1],fun z hz hw => ?_⟩
     rcases List.mem_append.1 hz with hz | hz
     ·exact h2 z hz hw
     ·rcases List.mem_singleton.1 hz with rfl
      have := wi_le hw
      have := hx y h1
      omega
    ·refine ⟨by simp,fun z hz hw => ?_⟩
     rcases List.mem_append.1 hz with hz | hz
     ·exact absurd ⟨z,hz,hw⟩ hn
     ·exact List.mem_singleton.1 hz
   ·rintro ⟨h1,h2⟩
    rcases List.mem_append.1 h1 with h1 | h1
    ·exact Or.inl ⟨h1,fun z hz hw => h2 z (by simp [hz]) hw⟩
    ·exact Or.inr (List.mem_singleton.1 h1)
theorem qcZ {s : List Nat} (hs : s.Pairwise (· ≤ ·)) {k : Nat} (hk : k < s.length) : leastL (s.take (k + 1)) = if hoB (leastL (s.take k)) (s.getD k 0) then leastL (s.take k) else leastL (s.take k) ++ [s.getD k 0] := by
 have e : s.take (k + 1) = s.take k ++ [s.getD k 0] := by
  rw [List.take_add_one,List.getElem?_eq_getElem hk,List.getD_eq_getElem?_getD,List.getElem?_eq_getElem hk]; rfl
 rw [e]
 refine q7k fun y hy => ?_
 obtain ⟨j,hj,rfl⟩ := List.getElem_of_mem hy
 rw [List.length_take] at hj
 rw [List.getElem_take,List.getD_eq_getElem?_getD,List.getElem?_eq_getElem hk]
 exact List.pairwise_iff_getElem.1 hs j k (by omega) hk (by omega)
theorem qcY {s l : List Nat} (h : s.Perm l) : leastL s = leastL l := q4x fun held => by
 unfold HoP
 constructor
 ·rintro ⟨x,hx,hw⟩; exact ⟨x,h.mem_iff.1 hx,hw⟩
 ·rintro ⟨x,hx,hw⟩; exact ⟨x,h.mem_iff.2 hx,hw⟩
theorem qfc {a b : List Nat} {k : Nat} (hk : k < a.length) : uniL (a.take (k + 1)) b = uniL (a.take k) b ++ b.map fun y => a.getD k 0 ||| y := by
 have e : a.take (k + 1) = a.take k ++ [a.getD k 0] := by
  rw [List.take_add_one,List.getElem?_eq_getElem hk,List.getD_eq_getElem?_getD,List.getElem?_eq_getElem hk]; rfl
 rw [e]
 unfold uniL
 rw [List.flatMap_append]
 simp
theorem qeF {b : List Nat} {x j : Nat} (hj : j < b.length) : ((b.take (j + 1)).map fun y => x ||| y) = ((b.take j).map fun y => x ||| y) ++ [x ||| b.getD j 0] := by
 have e : b.take (j + 1) = b.take j ++ [b.getD j 0] := by
  rw [List.take_add_one,List.getElem?_eq_getElem hj,List.getD_eq_getElem?_getD,List.getElem?_eq_getElem hj]; rfl
 rw [e,List.map_append]; rfl
theorem qeX {l : List Nat} {d : List Int} (hp : d.Perm (l.map fun (x : Nat) => (x : Int))) (hu : d.Pairwise (· ≤ ·)) : ∃ s : List Nat,d = (s.map fun (x : Nat) => (x : Int)) ∧ s.Perm l ∧ s.Pairwise (· ≤ ·) := by
 have h0 : ∀ x ∈ d,((x.toNat : Nat) : Int) = x := fun x hx => by
  obtain ⟨y,_,rfl⟩ := List.mem_map.1 (hp.mem_iff.1 hx)
  simp
 have e : d = ((d.map Int.toNat).map fun (x : Nat) => (x : Int)) := by
  rw [List.map_map]
  conv => lhs; rw [← List.map_id d]
  refine List.map_congr_left fun x hx => ?_
  exact (h0 x hx).symm
 refine ⟨d.map Int.toNat,e,?_,?_⟩
 ·have := hp.map Int.toNat
  rw [List.map_map] at this
  simpa [Function.comp_def] using this
 ·rw [List.pairwise_map]
  exact hu.imp fun h => by omega
abbrev Mt := List (List Tk)
abbrev Rt := Option (List Nat × Mt)
def bindM (r : Rt) (k : List Nat → Mt → Rt) : Rt := match r with
 | some (l,M) => k l M
 | none => none
theorem qf {r : Rt} {k : List Nat → Mt → Rt} {z : List Nat × Mt} (h : bindM r k = some z) : ∃ l M,r = some (l,M) ∧ k l M = some z := by
 cases r with
 | none => cases h
 | some y => obtain ⟨l,M⟩ := y; exact ⟨l,M,rfl,h⟩
def meetM (f : List Tk) (M : Mt) : Rt := match M.findIdx? (· == f) with
 | some i => some ([2 ^ i],M)
 | none => if M.length < 64 then some ([2 ^ M.length],M ++ [f]) else none
def andM (a b : List Nat) : Option (List Nat) := if a.length * b.length ≤ 1024 then some (leastL (uniL a b)) else none
def orM (a b : List Nat) : Option (List Nat) := if a.length + b.length ≤ 1024 then some (leastL (a ++ b)) else none
def twoM (and : Bool) (a b : List Nat) (M : Mt) : Rt := (if and then andM a b else orM a b).map fun l => (l,M)
def yesM (b : Bool) : List Nat := if b then [0] else []
def needM : Tr → Mt → Rt
 | .leaf k,M => if k.1 = 0 then some ([0],M) else if k.1 = 1 then some ([],M) else meetM (Tr.leaf k).flat M
 | .un k c,M => meetM (Tr.un k c).flat M
 | .bin k c d,M => if k.1 = 11 ∨ k.1 = 12 then bindM (needM c M) fun a M1 => bindM (needM d M1) fun b M2 => twoM (k.1 == 11) a b M2 else meetM (Tr.bin k c d).flat M
def plV (x : Nat) : Tr → Bool
 | .leaf k => if k.1 = 0 then true else if k.1 = 1 then false else x.testBit k.2
 | .un _ c => !plV x c
 | .bin k c d => if k.1 = 11 then plV x c && plV x d else if k.1 = 12 then plV x c || plV x d else if k.1 = 13 then !plV x c || plV x d else plV x c == plV x d
def modeO (box : Bool) : Nat := if box then 18 else 17
def goM : Nat → Tr ⊕ (Bool × Tr × List Nat × Tr) → Nat → Mt → Rt
 | 0,_,_,_ => none
 | n + 1,.inl T,x,M => match T with
  | .leaf k => some (yesM (if k.1 = 2 then x.testBit k.2 else k.1 == 0 || k.1 == 4),M)
  | .un k c => if k.1 = 6 then some (yesM (!plV x c),M)
   else if k.1 = 7 then bindM (needM (.leaf (4,0)) M) fun a M1 => bindM (needM c M1) fun b M2 => twoM true a b M2
   else bindM (needM (.leaf (5,0)) M) fun a M1 => bindM (needM c M1) fun b M2 => twoM false a b M2
  | .bin k c d => if k.1 = 11 ∨ k.1 = 12 then bindM (goM n (.inl c) x M) fun a M1 => bindM (goM n (.inl d) x M1) fun b M2 => twoM (k.1 == 11) a b M2
   else if k.1 = 15 ∨ k.1 = 16 then bindM (goM n (.inl d) x M) fun b M1 => bindM (goM n (.inl c) x M1) fun a M2 => bindM (needM (.bin k c d) M2) fun u M3 => bindM (twoM (k.1 == 15) a u M3) fun v M4 => twoM (k.1 == 16) b v M4
   else bindM (goM n (.inl d) x M) fun s M1 => goM n (.inr (k.1 == 18,c,s,d)) x M1
 | n + 1,.inr (box,r,s,f),x,M => match r with
  | .leaf _ => none
  | .un k c => if k.1 = 19 then (if plV x c then needM f M else some (yesM box,M))
   else if k.1 = 20 then bindM (goM n (.inl (if box then (kTr c).2 else c)) x M) fun a M1 => twoM (!box) a s M1
   else bindM (goM n (.inr (box,c,yesM box,.bin (modeO box,0) (.un k c) f)) x M) fun a M1 => twoM box s a M1
  | .bin k c d => if k.1 = 21 then bindM (goM n (.inr (box,c,s,f)) x M) fun a M1 => bindM (goM n (.inr (box,d,s,f)) x M1) fun b M2 => twoM box a b M2
   else bindM (goM n (.inr (box,d,s,f)) x M) fun a M1 => goM n (.inr (box,c,a,.bin (modeO box,0) d f)) x M1
def aftM (n : Nat) (T : Tr) (x : Nat) (M : Mt) : Rt := goM n (.inl T) x M
def pthM (n : Nat) (box : Bool) (r : Tr) (s : List Nat) (f : Tr) (x : Nat) (M : Mt) : Rt := goM n (.inr (box,r,s,f)) x M
theorem qH (T : Tr) (x : Nat) (M : Mt) : aftM 0 T x M = none := rfl
theorem qD (n : Nat) (k : Tk) (x : Nat) (M : Mt) : aftM (n + 1) (.leaf k) x M = some (yesM (if k.1 = 2 then x.testBit k.2 else k.1 == 0 || k.1 == 4),M) := rfl
theorem qJ (n : Nat) (k : Tk) (c : Tr) (x : Nat) (M : Mt) : aftM (n + 1) (.un k c) x M = if k.1 = 6 then some (yesM (!plV x c),M)
  else if k.1 = 7 then bindM (needM (.leaf (4,0)) M) fun a M1 => bindM (needM c M1) fun b M2 => twoM true a b M2
  else bindM (needM (.leaf (5,0)) M) fun a M1 => bindM (needM c M1) fun b M2 => twoM false a b M2 := rfl
theorem qw (n : Nat) (k : Tk) (c d : Tr) (x : Nat) (M : Mt) : aftM (n + 1) (.bin k c d) x M = if k.1 = 11 ∨ k.1 = 12 then bindM (aftM n c x M) fun a M1 => bindM (aftM n d x M1) fun b M2 => twoM (k.1 == 11) a b M2
  else if k.1 = 15 ∨ k.1 = 16 then bindM (aftM n d x M) fun b M1 => bindM (aftM n c x M1) fun a M2 => bindM (needM (.bin k c d) M2) fun u M3 => bindM (twoM (k.1 == 15) a u M3) fun v M4 => twoM (k.1 == 16) b v M4
  else bindM (aftM n d x M) fun s M1 => pthM n (k.1 == 18) c s d x M1 := rfl
theorem q15 (box : Bool) (r : Tr) (s : List Nat) (f : Tr) (x : Nat) (M : Mt) : pthM 0 box r s f x M = none := rfl
theorem q12 (n : Nat) (box : Bool) (k : Tk) (s : List Nat) (f : Tr) (x : Nat) (M : Mt) : pthM (n + 1) box (.leaf k) s f x M = none := rfl
theorem qT (n : Nat) (box : Bool) (k : Tk) (c : Tr) (s : List Nat) (f : Tr) (x : Nat) (M : Mt) : pthM (n + 1) box (.un k c) s f x M = if k.1 = 19 then (if plV x c then needM f M else some (yesM box,M))
  else if k.1 = 20 then bindM (aftM n (if box then (kTr c).2 else c) x M) fun a M1 => twoM (!box) a s M1
  else bindM (pthM n box c (yesM box) (.bin (modeO box,0) (.un k c) f) x M) fun a M1 => twoM box s a M1 := rfl
theorem qP (n : Nat) (box : Bool) (k : Tk) (c d : Tr) (s : List Nat) (f : Tr) (x : Nat) (M : Mt) : pthM (n + 1) box (.bin k c d) s f x M = if k.1 = 21 then bindM (pthM n box c s f x M) fun a M1 => bindM (pthM n box d s f x M1) fun b M2 => twoM box a b M2
  else bindM (pthM n box d s f x M) fun a M1 => pthM n box c a (.bin (modeO box,0) d f) x M1 := rfl
def LsP (l : List Nat) (P : Nat → Prop) : Prop := ∃ s ∈ l,∀ k,s.testBit k = true → P k
theorem q91 (l : List Nat) (P : Nat → Prop) : LsP (leastL l) P ↔ LsP l P := by
 constructor
 ·rintro ⟨s,hs,h⟩
  exact ⟨s,q2y hs,h⟩
 ·rintro ⟨s,hs,h⟩
  obtain ⟨y,hy,hw⟩ := q7l l s s (Nat.le_refl _) hs
  exact ⟨y,((q1z l).mem y).2 hy,fun k hk => h k (q29.1 hw k hk)⟩
theorem qd0 (a b : List Nat) (P : Nat → Prop) : LsP (a ++ b) P ↔ LsP a P ∨ LsP b P := by
 unfold LsP
 constructor
 ·rintro ⟨s,hs,h⟩
  rcases List.mem_append.1 hs with hs | hs
  ·exact Or.inl ⟨s,hs,h⟩
  ·exact Or.inr ⟨s,hs,h⟩
 ·rintro (⟨s,hs,h⟩ | ⟨s,hs,h⟩)
  ·exact ⟨s,by simp [hs],h⟩
  ·exact ⟨s,by simp [hs],h⟩
theorem qfM (a b : List Nat) (P : Nat → Prop) : LsP (uniL a b) P ↔ LsP a P ∧ LsP b P := by
 unfold LsP uniL
 constructor
 ·rintro ⟨s,hs,h⟩
  obtain ⟨x,hx,hs⟩ := List.mem_flatMap.1 hs
  obtain ⟨y,hy,rfl⟩ := List.mem_map.1 hs
  exact ⟨⟨x,hx,fun k hk => h k (by rw [Nat.testBit_or,hk]; rfl)⟩,⟨y,hy,fun k hk => h k (by rw [Nat.testBit_or,hk,Bool.or_true])⟩⟩
 ·rintro ⟨⟨x,hx,h1⟩,y,hy,h2⟩
  refine ⟨x ||| y,List.mem_flatMap.2 ⟨x,hx,List.mem_map.2 ⟨y,hy,rfl⟩⟩,fun k hk => ?_⟩
  rw [Nat.testBit_or,Bool.or_eq_true] at hk
  rcases hk with hk | hk
  ·exact h1 k hk
  ·exact h2 k hk
theorem q2l (b : Bool) (P : Nat → Prop) : LsP (yesM b) P ↔ b = true := by
 unfold LsP yesM
 cases b with
 | false => simp
 | true => exact ⟨fun _ => rfl,fun _ => ⟨0,by simp,fun k hk => by rw [Nat.zero_testBit] at hk; cases hk⟩⟩
theorem q8w (i : Nat) (P : Nat → Prop) : LsP [2 ^ i] P ↔ P i := by
 unfold LsP
 constructor
 ·rintro ⟨s,hs,h⟩
  rcases List.mem_singleton.1 hs with rfl
  exact h i (by rw [Nat.testBit_two_pow]; simp)
 ·intro h
  refine ⟨2 ^ i,by simp,fun k hk => ?_⟩
  rw [Nat.testBit_two_pow] at hk
  have : i = k := by simpa using hk
  exact this ▸ h
theorem qdD {l : List Nat} {P Q : Nat → Prop} (h : ∀ s ∈ l,∀ k,s.testBit k = true → (P k ↔ Q k)) : LsP l P ↔ LsP l Q :=
 ⟨fun ⟨s,hs,k⟩ => ⟨s,hs,fun j hj => (h s hs j hj).1 (k j hj)⟩,fun ⟨s,hs,k⟩ => ⟨s,hs,fun j hj => (h s hs j hj).2 (k j hj)⟩⟩
def BdL (l : List Nat) (m : Nat) : Prop := ∀ s ∈ l,∀ k,s.testBit k = true → k < m
theorem BdL.mono {l : List Nat} {m n : Nat} (h : BdL l m) (hn : m ≤ n) : BdL l n := fun s hs k hk => Nat.lt_of_lt_of_le (h s hs k hk) hn
theorem q8M {l : List Nat} {m : Nat} (h : BdL l m) : BdL (leastL l) m := fun s hs => h s (q2y hs)
theorem qcO {a b : List Nat} {m : Nat} (h : BdL a m) (k : BdL b m) : BdL (a ++ b) m := fun s hs => by
 rcases List.mem_append.1 hs with hs | hs
 ·exact h s hs
 ·exact k s hs
theorem qfk {a b : List Nat} {m : Nat} (h : BdL a m) (k : BdL b m) : BdL (uniL a b) m := fun s hs j hj => by
 obtain ⟨x,hx,hs⟩ := List.mem_flatMap.1 hs
 obtain ⟨y,hy,rfl⟩ := List.mem_map.1 hs
 rw [Nat.testBit_or,Bool.or_eq_true] at hj
 rcases hj with hj | hj
 ·exact h x hx j hj
 ·exact k y hy j hj
theorem q16 (b : Bool) (m : Nat) : BdL (yesM b) m := fun s hs k hk => by
 unfold yesM at hs
 cases b with
 | false => simp at hs
 | true => simp at hs; subst hs; rw [Nat.zero_testBit] at hk; cases hk
theorem qca {i m : Nat} (h : i < m) : BdL [2 ^ i] m := fun s hs k hk => by
 rcases List.mem_singleton.1 hs with rfl
 rw [Nat.testBit_two_pow] at hk
 have : i = k := by simpa using hk
 omega
theorem qr {and : Bool} {a b : List Nat} {M M' : Mt} {l : List Nat} (h : twoM and a b M = some (l,M')) : M' = M ∧ l = if and then leastL (uniL a b) else leastL (a ++ b) := by
 unfold twoM at h
 cases and with
 | true =>
  simp only [if_true] at h ⊢
  unfold andM at h
  split at h
  ·simp at h; exact ⟨h.2.symm,h.1.symm⟩
  ·simp at h
 | false =>
  simp only [Bool.false_eq_true,if_false] at h ⊢
  unfold orM at h
  split at h
  ·simp at h; exact ⟨h.2.symm,h.1.symm⟩
  ·simp at h
theorem q5u {and : Bool} {a b : List Nat} {M M' : Mt} {l : List Nat} (h : twoM and a b M = some (l,M')) (P : Nat → Prop) : LsP l P ↔ if and then LsP a P ∧ LsP b P else LsP a P ∨ LsP b P := by
 rw [(qr h).2]
 cases and with
 | true => simp only [if_true]; rw [q91,qfM]
 | false => simp only [Bool.false_eq_true,if_false]; rw [q91,qd0]
theorem q3z {and : Bool} {a b : List Nat} {M M' : Mt} {l : List Nat} (h : twoM and a b M = some (l,M')) {m : Nat} (ha : BdL a m) (hb : BdL b m) : BdL l m := by
 rw [(qr h).2]
 cases and with
 | true => exact q8M (qfk ha hb)
 | false => exact q8M (qcO ha hb)
structure KT (T : Tr) : Prop where
 wf : T.WF
 np : pathT T = false
 kr : kerT T = true
structure KP (T : Tr) : Prop where
 wf : T.WF
 isp : pathT T = true
 kr : kerT T = true
theorem qeZ (t : List Nat) {T S : Tr} (h : T.WF) (k : S.WF) (e : T.flat = S.flat) : semTr t T = semTr t S := (q47 t T h).same (e ▸ q47 t S k)
structure GoodM (M : Mt) : Prop where
 ker : ∀ f ∈ M,∃ T,KT T ∧ f = T.flat
 few : M.length ≤ 64
def SatM (t : List Nat) (M : Mt) (i k : Nat) : Prop := ∃ T,KT T ∧ M[k]? = some T.flat ∧ (semTr t T).1 i
theorem q5s {t : List Nat} {M : Mt} {i k : Nat} {T : Tr} (hT : KT T) (h : M[k]? = some T.flat) : SatM t M i k ↔ (semTr t T).1 i := by
 constructor
 ·rintro ⟨S,hS,h1,h2⟩
  rw [h] at h1
  injection h1 with h1
  rw [qeZ t hT.wf hS.wf h1]; exact h2
 ·intro h2
  exact ⟨T,hT,h,h2⟩
theorem qcu {M M' : Mt} (h : M <+: M') {k : Nat} (hk : k < M.length) : M'[k]? = M[k]? := by
 obtain ⟨r,rfl⟩ := h
 rw [List.getElem?_append_left hk]
theorem qcw {t : List Nat} {M M' : Mt} (h : M <+: M') {i k : Nat} (hk : k < M.length) : SatM t M i k ↔ SatM t M' i k := by
 unfold SatM
 rw [qcu h hk]
theorem q3s {t : List Nat} {M M' : Mt} (h : M <+: M') {l : List Nat} (hl : BdL l M.length) (i : Nat) : LsP l (SatM t M i) ↔ LsP l (SatM t M' i) := qdD fun s hs k hk => qcw h (hl s hs k hk)
structure Ext (M : Mt) (L : List Nat) (M' : Mt) : Prop where
 pre : M <+: M'
 good : GoodM M'
 bd : BdL L M'.length
theorem q1q {M M' : Mt} (h : M <+: M') : M.length ≤ M'.length := h.length_le
theorem q8x {T : Tr} {M M' : Mt} {L : List Nat} (hM : GoodM M) (hT : KT T) (h : meetM T.flat M = some (L,M')) : Ext M L M' ∧ ∀ t i,LsP L (SatM t M' i) ↔ (semTr t T).1 i := by
 unfold meetM at h
 split at h
 ·rename_i i hi
  injection h with h
  injection h with h1 h2
  subst h1 h2
  obtain ⟨hlt,he,_⟩ := List.findIdx?_eq_some_iff_getElem.1 hi
  have he' : M[i]? = some T.flat := by rw [List.getElem?_eq_getElem hlt]; simpa using he
  exact ⟨⟨List.prefix_refl _,hM,qca hlt⟩,fun t j => by rw [q8w]; exact q5s hT he'⟩
 ·split at h
  ·rename_i hl
   injection h with h
   injection h with h1 h2
   subst h1 h2
   refine ⟨⟨List.prefix_append _ _,⟨fun f hf => ?_,by rw [List.length_append]; simp; omega⟩,qca (by rw [List.length_append]; simp)⟩,fun t j => ?_⟩
   ·rcases List.mem_append.1 hf with hf | hf
    ·exact hM.ker f hf
    ·exact ⟨T,hT,List.mem_singleton.1 hf⟩
   ·rw [q8w]
    exact q5s hT (by simp)
  ·cases h
theorem q2T {and : Bool} {a b : List Nat} {M M1 M2 M' : Mt} {l : List Nat} (h : twoM and a b M2 = some (l,M')) (h1 : Ext M a M1) (h2 : Ext M1 b M2) : Ext M l M' ∧ ∀ t i,LsP l (SatM t M' i) ↔ if and then LsP a (SatM t M1 i) ∧ LsP b (SatM t M2 i) else LsP a (SatM t M1 i) ∨ LsP b (SatM t M2 i) := by
 have e := (qr h).1
 subst e
 refine ⟨⟨h1.pre.trans h2.pre,h2.good,q3z h (h1.bd.mono (q1q h2.pre)) h2.bd⟩,fun t i => ?_⟩
 rw [q5u h,q3s h2.pre h1.bd]
theorem qB {op p : Nat} {c d : Tr} (h : KT (.bin (op,p) c d)) (ho : op = 11 ∨ op = 12 ∨ op = 15 ∨ op = 16) : KT c ∧ KT d := by
 obtain ⟨rfl,hc,hd,hf,_⟩ := qy h.wf
 have hk := h.kr
 simp only [kerT,Bool.and_eq_true] at hk
 have hn : pathT c = false ∧ pathT d = false := by
  rcases ho with rfl | rfl | rfl | rfl <;> simpa [fit2T] using hf
 exact ⟨⟨hc,hn.1,hk.2.1⟩,⟨hd,hn.2,hk.2.2⟩⟩
theorem q1l {op p : Nat} {c d : Tr} (h : KT (.bin (op,p) c d)) (ho : op = 17 ∨ op = 18) : KP c ∧ KT d := by
 obtain ⟨rfl,hc,hd,hf,_⟩ := qy h.wf
 have hk := h.kr
 simp only [kerT,Bool.and_eq_true] at hk
 have hn : pathT c = true ∧ pathT d = false := by
  rcases ho with rfl | rfl <;> simpa [fit2T] using hf
 exact ⟨⟨hc,hn.1,hk.2.1⟩,⟨hd,hn.2,hk.2.2⟩⟩
theorem q1t {op p : Nat} {c d : Tr} (h : KT (.bin (op,p) c d)) : p = 0 ∧ (op = 11 ∨ op = 12 ∨ op = 15 ∨ op = 16 ∨ op = 17 ∨ op = 18) := by
 obtain ⟨rfl,hc,hd,hf,ho⟩ := qy h.wf
 have hk := h.kr
 have hp := h.np
 refine ⟨rfl,?_⟩
 rcases ho with rfl | rfl | rfl | rfl | rfl | rfl | rfl | rfl | rfl | rfl
 ·simp
 ·simp
 ·simp [kerT] at hk
 ·simp [kerT] at hk
 ·simp
 ·simp
 ·simp
 ·simp
 ·cases hp
 ·cases hp
theorem kt_un {op p : Nat} {c : Tr} (h : KT (.un (op,p) c)) : p = 0 ∧ ((op = 6 ∧ ∃ q,c = .leaf (2,q)) ∨ ((op = 7 ∨ op = 8) ∧ KT c)) := by
 obtain ⟨rfl,hc,hf,ho⟩ := qE h.wf
 have hk := h.kr
 have hp := h.np
 refine ⟨rfl,?_⟩
 rcases ho with rfl | rfl | rfl | rfl | rfl | rfl | rfl | rfl
 ·refine Or.inl ⟨rfl,?_⟩
  match c,hk with
  | .leaf (o,q),hk => simp [kerT] at hk; exact ⟨q,by rw [hk]⟩
  | .un _ _,hk => simp [kerT] at hk
  | .bin _ _ _,hk => simp [kerT] at hk
 ·refine Or.inr ⟨Or.inl rfl,hc,by simpa [fit1T] using hf,by simpa [kerT] using hk⟩
 ·refine Or.inr ⟨Or.inr rfl,hc,by simpa [fit1T] using hf,by simpa [kerT] using hk⟩
 ·simp [kerT] at hk
 ·simp [kerT] at hk
 ·cases hp
 ·cases hp
 ·cases hp
theorem q1F {op p : Nat} (h : KT (.leaf (op,p))) : (op = 2 ∧ p ≤ 7) ∨ (p = 0 ∧ (op = 0 ∨ op = 1 ∨ op = 4 ∨ op = 5)) := by
 have hk := h.kr
 rcases qQ h.wf with h1 | ⟨h1,rfl | rfl | rfl | rfl | rfl⟩
 ·exact Or.inl h1
 ·exact Or.inr ⟨h1,by simp⟩
 ·exact Or.inr ⟨h1,by simp⟩
 ·simp [kerT] at hk
 ·exact Or.inr ⟨h1,by simp⟩
 ·exact Or.inr ⟨h1,by simp⟩
theorem kp_un {op p : Nat} {c : Tr} (h : KP (.un (op,p) c)) : p = 0 ∧ ((op = 19 ∧ c.WF ∧ plainT c = true) ∨ (op = 20 ∧ KT c) ∨ (op = 23 ∧ KP c)) := by
 obtain ⟨rfl,hc,hf,ho⟩ := qE h.wf
 have hk := h.kr
 have hp := h.isp
 refine ⟨rfl,?_⟩
 rcases ho with rfl | rfl | rfl | rfl | rfl | rfl | rfl | rfl
 ·cases hp
 ·cases hp
 ·cases hp
 ·cases hp
 ·cases hp
 ·simp [fit1T] at hf
  exact Or.inl ⟨rfl,hc,hf.2⟩
 ·exact Or.inr (Or.inl ⟨rfl,hc,by simpa [fit1T] using hf,by simpa [kerT] using hk⟩)
 ·exact Or.inr (Or.inr ⟨rfl,hc,by simpa [fit1T] using hf,by simpa [kerT] using hk⟩)
theorem q1k {op p : Nat} {c d : Tr} (h : KP (.bin (op,p) c d)) : p = 0 ∧ (op = 21 ∨ op = 22) ∧ KP c ∧ KP d := by
 obtain ⟨rfl,hc,hd,hf,ho⟩ := qy h.wf
 have hk := h.kr
 have hp := h.isp
 simp only [kerT,Bool.and_eq_true] at hk
 refine ⟨rfl,?_⟩
 rcases ho with rfl | rfl | rfl | rfl | rfl | rfl | rfl | rfl | rfl | rfl
 ·cases hp
 ·cases hp
 ·cases hp
 ·cases hp
 ·cases hp
 ·cases hp
 ·cases hp
 ·cases hp
 ·have hn : pathT c = true ∧ pathT d = true := by simpa [fit2T] using hf
  exact ⟨Or.inl rfl,⟨hc,hn.1,hk.2.1⟩,⟨hd,hn.2,hk.2.2⟩⟩
 ·have hn : pathT c = true ∧ pathT d = true := by simpa [fit2T] using hf
  exact ⟨Or.inr rfl,⟨hc,hn.1,hk.2.1⟩,⟨hd,hn.2,hk.2.2⟩⟩
theorem q2i {k : Tk} (h : KP (.leaf k)) : False := by
 obtain ⟨op,p⟩ := k
 have hp := h.isp
 rcases qQ h.wf with ⟨rfl,_⟩ | ⟨_,rfl | rfl | rfl | rfl | rfl⟩ <;> cases hp
theorem q2j {r f : Tr} (hr : KP r) (hf : KT f) (box : Bool) : KT (.bin (modeO box,0) r f) := by
 refine ⟨qA ?_ ?_ hr.wf hf.wf,?_,?_⟩
 ·cases box <;> rfl
 ·cases box <;> simp [modeO,fit2T,hr.isp,hf.np]
 ·cases box <;> rfl
 ·cases box <;> simp [modeO,kerT,hr.kr,hf.kr]
theorem q2k (op : Nat) (h : op = 4 ∨ op = 5) : KT (.leaf (op,0)) := by
 rcases h with rfl | rfl
 ·exact ⟨qL rfl (by decide),rfl,rfl⟩
 ·exact ⟨qL rfl (by decide),rfl,rfl⟩
theorem q2Y {T : Tr} (h : KT T) : KT (kTr T).2 := ⟨(kOk T h.wf).w2 h.np,(kOk T h.wf).p2 h.np,(ker_k T h.wf).2 h.np⟩
theorem qW : ∀ (T : Tr) {M M' : Mt} {L : List Nat},GoodM M → KT T → needM T M = some (L,M') → Ext M L M' ∧ ∀ t i,LsP L (SatM t M' i) ↔ (semTr t T).1 i
 | .leaf (op,p),M,M',L,hM,hT,h => by
  unfold needM at h
  dsimp only at h
  split at h
  ·rename_i h0
   injection h with h; injection h with h1 h2; subst h1 h2
   refine ⟨⟨List.prefix_refl _,hM,q16 true _⟩,fun t i => ?_⟩
   have := q2l true (SatM t M i)
   simp only [yesM,if_true] at this
   rw [this]
   simp [semTr,semT,leafV,h0]
  ·split at h
   ·rename_i h0 h1
    injection h with h; injection h with h2 h3; subst h2 h3
    refine ⟨⟨List.prefix_refl _,hM,q16 false _⟩,fun t i => ?_⟩
    have := q2l false (SatM t M i)
    simp only [yesM,Bool.false_eq_true,if_false] at this
    rw [this]
    simp [semTr,semT,leafV,h1]
   ·exact q8x hM hT h
 | .un k c,M,M',L,hM,hT,h => q8x hM hT h
 | .bin (op,p) c d,M,M',L,hM,hT,h => by
  unfold needM at h
  dsimp only at h
  split at h
  ·rename_i ho
   obtain ⟨a,M1,ha,h⟩ := qf h
   obtain ⟨b,M2,hb,h⟩ := qf h
   obtain ⟨kc,kd⟩ := qB hT (by rcases ho with h | h <;> simp [h])
   obtain ⟨e1,s1⟩ := qW c hM kc ha
   obtain ⟨e2,s2⟩ := qW d e1.good kd hb
   obtain ⟨e3,s3⟩ := q2T h e1 e2
   refine ⟨e3,fun t i => ?_⟩
   rw [s3,s1,s2]
   rcases ho with rfl | rfl
   ·simp [semTr,semT,binV]
   ·simp [semTr,semT,binV]
  ·exact q8x hM hT h
theorem q2R {t : List Nat} {i x : Nat} (hx : t[i]? = some x) : ∀ T : Tr,T.WF → pathT T = false → plainT T = true → (plV x T = true ↔ (semTr t T).1 i)
 | .leaf (op,p),h,_,hp => by
  have hi : i < t.length := (List.getElem?_eq_some_iff.1 hx).1
  have hg : t.getD i 0 = x := by rw [List.getD_eq_getElem?_getD,hx]; rfl
  rw [q7p] at hp
  rcases qQ h with ⟨rfl,_⟩ | ⟨_,rfl | rfl | rfl | rfl | rfl⟩
  ·rw [show (semTr t (Tr.leaf (2,p))).1 i = (i < t.length ∧ (t.getD i 0).testBit p = true) from rfl,hg,show plV x (Tr.leaf (2,p)) = x.testBit p from rfl]
   exact ⟨fun h => ⟨hi,h⟩,fun h => h.2⟩
  ·simp [plV,semTr,semT,leafV]
  ·simp [plV,semTr,semT,leafV]
  ·simp [plainB] at hp
  ·simp [plainB] at hp
  ·simp [plainB] at hp
 | .un (op,p) c,h,hq,hp => by
  obtain ⟨rfl,hc,hf,ho⟩ := qE h
  rw [qV] at hp
  simp only [Bool.and_eq_true] at hp
  rcases ho with rfl | rfl | rfl | rfl | rfl | rfl | rfl | rfl
  ·have ih := q2R hx c hc (by simpa [fit1T] using hf) hp.2
   simp only [plV,semTr,semT,unV,if_true]
   rw [← ih]
   simp
  ·simp [plainB] at hp
  ·simp [plainB] at hp
  ·simp [plainB] at hp
  ·simp [plainB] at hp
  ·cases hq
  ·cases hq
  ·cases hq
 | .bin (op,p) c d,h,hq,hp => by
  obtain ⟨rfl,hc,hd,hf,ho⟩ := qy h
  rw [qm] at hp
  simp only [Bool.and_eq_true] at hp
  have ih := fun hn => q2R hx c hc hn hp.2.1
  have jh := fun hn => q2R hx d hd hn hp.2.2
  rcases ho with rfl | rfl | rfl | rfl | rfl | rfl | rfl | rfl | rfl | rfl
  ·have hn : pathT c = false ∧ pathT d = false := by simpa [fit2T] using hf
   simp [plV,semTr,semT,binV,← ih hn.1,← jh hn.2]
  ·have hn : pathT c = false ∧ pathT d = false := by simpa [fit2T] using hf
   simp [plV,semTr,semT,binV,← ih hn.1,← jh hn.2]
  ·have hn : pathT c = false ∧ pathT d = false := by simpa [fit2T] using hf
   simp only [plV,semTr,semT,binV,← ih hn.1,← jh hn.2]
   cases plV x c <;> cases plV x d <;> simp
  ·have hn : pathT c = false ∧ pathT d = false := by simpa [fit2T] using hf
   simp only [plV,semTr,semT,binV,← ih hn.1,← jh hn.2]
   cases plV x c <;> cases plV x d <;> simp
  ·simp [plainB] at hp
  ·simp [plainB] at hp
  ·simp [plainB] at hp
  ·simp [plainB] at hp
  ·cases hq
  ·cases hq
def wayD (w : Nat → Nat → Prop) (i : Nat) (S : Prop) (F : Nat → Prop) : Prop := (w i i ∧ S) ∨ ∃ k,i < k ∧ w i k ∧ F k
def wayB (w : Nat → Nat → Prop) (i : Nat) (S : Prop) (F : Nat → Prop) : Prop := (w i i → S) ∧ ∀ k,i < k → w i k → F k
theorem q3A (w : Nat → Nat → Prop) (i : Nat) (S : Prop) (F : Nat → Prop) : wayB w i S F ↔ ¬ wayD w i (¬ S) (fun k => ¬ F k) := by
 unfold wayB wayD
 constructor
 ·rintro ⟨h1,h2⟩ (⟨h3,h4⟩ | ⟨k,h3,h4,h5⟩)
  ·exact h4 (h1 h3)
  ·exact h5 (h2 k h3 h4)
 ·intro h
  refine ⟨fun h1 => ?_,fun k h1 h2 => ?_⟩
  ·exact Classical.byContradiction fun h2 => h (Or.inl ⟨h1,h2⟩)
  ·exact Classical.byContradiction fun h3 => h (Or.inr ⟨k,h1,h2,h3⟩)
theorem q7B {w : Nat → Nat → Prop} {i : Nat} {S S' : Prop} {F F' : Nat → Prop} (h : S ↔ S') (k : ∀ j,F j ↔ F' j) : wayD w i S F ↔ wayD w i S' F' := by
 unfold wayD
 rw [h]
 constructor
 ·rintro (h1 | ⟨j,h1,h2,h3⟩)
  ·exact Or.inl h1
  ·exact Or.inr ⟨j,h1,h2,(k j).1 h3⟩
 ·rintro (h1 | ⟨j,h1,h2,h3⟩)
  ·exact Or.inl h1
  ·exact Or.inr ⟨j,h1,h2,(k j).2 h3⟩
def Fwd (n : Nat) (w : Nat → Nat → Prop) : Prop := ∀ i k,i ≤ n → w i k → i ≤ k ∧ k ≤ n
theorem qby {a b : Nat → Nat → Prop} {n i : Nat} (ha : Fwd n a) (hb : Fwd n b) (hi : i ≤ n) (S : Prop) (F : Nat → Prop) :
  wayD (fun i k => ∃ j,a i j ∧ b j k) i S F ↔ wayD a i (wayD b i S F) (fun j => ∃ k,b j k ∧ F k) := by
 unfold wayD
 constructor
 ·rintro (⟨⟨j,h1,h2⟩,h3⟩ | ⟨k,h0,⟨j,h1,h2⟩,h3⟩)
  ·have e1 := ha i j hi h1
   have e2 := hb j i e1.2 h2
   have : j = i := by omega
   subst this
   exact Or.inl ⟨h1,Or.inl ⟨h2,h3⟩⟩
  ·by_cases e : j = i
   ·subst e
    exact Or.inl ⟨h1,Or.inr ⟨k,h0,h2,h3⟩⟩
   ·have e1 := ha i j hi h1
    exact Or.inr ⟨j,by omega,h1,k,h2,h3⟩
 ·rintro (⟨h1,⟨h2,h3⟩ | ⟨k,h0,h2,h3⟩⟩ | ⟨j,h0,h1,k,h2,h3⟩)
  ·exact Or.inl ⟨⟨i,h1,h2⟩,h3⟩
  ·exact Or.inr ⟨k,h0,⟨i,h1,h2⟩,h3⟩
  ·have e1 := ha i j hi h1
   have e2 := hb j k e1.2 h2
   exact Or.inr ⟨k,by omega,⟨j,h1,h2⟩,h3⟩
theorem q7v {a : Nat → Nat → Prop} {n : Nat} (ha : Fwd n a) : ∀ (m i k : Nat),i ≤ n → i < k → stepsP a m i k → ∃ j,i < j ∧ a i j ∧ ∃ m,stepsP a m j k
 | 0,i,k,_,hk,h => by simp only [stepsP] at h; omega
 | m + 1,i,k,hi,hk,h => by
  obtain ⟨j,h1,h2⟩ := h
  have e1 := ha i j hi h1
  by_cases e : j = i
  ·subst e
   exact q7v ha m j k hi hk h2
  ·exact ⟨j,by omega,h1,m,h2⟩
theorem q9k {a : Nat → Nat → Prop} {n i : Nat} (ha : Fwd n a) (hi : i ≤ n) (S : Prop) (F : Nat → Prop) :
  wayD (fun i k => ∃ m,stepsP a m i k) i S F ↔ S ∨ wayD a i False (fun j => ∃ k,(∃ m,stepsP a m j k) ∧ F k) := by
 unfold wayD
 constructor
 ·rintro (⟨_,h⟩ | ⟨k,h0,⟨m,h1⟩,h2⟩)
  ·exact Or.inl h
  ·obtain ⟨j,h3,h4,h5⟩ := q7v ha m i k hi h0 h1
   exact Or.inr (Or.inr ⟨j,h3,h4,k,h5,h2⟩)
 ·rintro (h | ⟨_,h⟩ | ⟨j,h0,h1,k,⟨m,h2⟩,h3⟩)
  ·exact Or.inl ⟨⟨0,rfl⟩,h⟩
  ·cases h
  ·have e1 := ha i j hi h1
   have e2 : j ≤ k ∧ k ≤ n := q6z (fun i k hi h => ha i k hi h) m j k e1.2 h2
   exact Or.inr ⟨k,by omega,⟨m + 1,j,h1,h2⟩,h3⟩
theorem qff {a b : Nat → Nat → Prop} {n i : Nat} (ha : Fwd n a) (hb : Fwd n b) (hi : i ≤ n) (S : Prop) (F : Nat → Prop) :
  wayB (fun i k => ∃ j,a i j ∧ b j k) i S F ↔ wayB a i (wayB b i S F) (fun j => ∀ k,b j k → F k) := by
 rw [q3A,qby ha hb hi,q3A a]
 refine not_congr (q7B ?_ fun j => ?_)
 ·rw [q3A,Classical.not_not]
 ·exact ⟨fun ⟨k,h1,h2⟩ h => h2 (h k h1),fun h => Classical.byContradiction fun h2 => h fun k hk => Classical.byContradiction fun h3 => h2 ⟨k,hk,h3⟩⟩
theorem qe9 {a : Nat → Nat → Prop} {n i : Nat} (ha : Fwd n a) (hi : i ≤ n) (S : Prop) (F : Nat → Prop) :
  wayB (fun i k => ∃ m,stepsP a m i k) i S F ↔ S ∧ wayB a i True (fun j => ∀ k,(∃ m,stepsP a m j k) → F k) := by
 rw [q3A,q9k ha hi,q3A a]
 have e : wayD a i False (fun j => ∃ k,(∃ m,stepsP a m j k) ∧ ¬ F k) ↔ wayD a i (¬ True) (fun j => ¬ ∀ k,(∃ m,stepsP a m j k) → F k) := q7B (by simp) fun j =>
  ⟨fun ⟨k,h1,h2⟩ h => h2 (h k h1),fun h => Classical.byContradiction fun h2 => h fun k hk => Classical.byContradiction fun h3 => h2 ⟨k,hk,h3⟩⟩
 rw [e]
 constructor
 ·intro h
  exact ⟨Classical.byContradiction fun h1 => h (Or.inl h1),fun h1 => h (Or.inr h1)⟩
 ·rintro ⟨h1,h2⟩ (h | h)
  ·exact h h1
  ·exact h2 h
def wayS (box : Bool) (w : Nat → Nat → Prop) (i : Nat) (S : Prop) (F : Nat → Prop) : Prop := if box then wayB w i S F else wayD w i S F
theorem q48 (t : List Nat) {r : Tr} (h : r.WF) : Fwd t.length (semTr t r).2 := fun i k hi hw => q22 t r h i k hi hw
theorem qfN (t : List Nat) (i : Nat) : (semTr t (.leaf (4,0))).1 i ↔ i < t.length := Iff.rfl
theorem qfO (t : List Nat) (i : Nat) : (semTr t (.leaf (5,0))).1 i ↔ i = t.length := Iff.rfl
def AftOk (n : Nat) : Prop := ∀ (T : Tr) (x : Nat) (M M' : Mt) (L : List Nat),GoodM M → KT T → aftM n T x M = some (L,M') → Ext M L M' ∧ ∀ (t : List Nat) (i : Nat),t[i]? = some x → (LsP L (SatM t M' (i + 1)) ↔ (semTr t T).1 i)
def PthOk (n : Nat) : Prop := ∀ (box : Bool) (r f : Tr) (s : List Nat) (x : Nat) (M M' : Mt) (L : List Nat),GoodM M → KP r → KT f → BdL s M.length → pthM n box r s f x M = some (L,M') → Ext M L M' ∧ ∀ (t : List Nat) (i : Nat),t[i]? = some x → (LsP L (SatM t M' (i + 1)) ↔ wayS box (semTr t r).2 i (LsP s (SatM t M (i + 1))) fun k => (semTr t f).1 k)
theorem qd9 {t : List Nat} {i : Nat} (hi : i < t.length) (c d : Tr) : (semTr t (.bin (15,0) c d)).1 i ↔ (semTr t d).1 i ∨ ((semTr t c).1 i ∧ (semTr t (.bin (15,0) c d)).1 (i + 1)) := by
 show (∃ j,i ≤ j ∧ j < t.length ∧ (semTr t d).1 j ∧ ∀ k,i ≤ k → k < j → (semTr t c).1 k) ↔ _ ∨ (_ ∧ ∃ j,i + 1 ≤ j ∧ j < t.length ∧ (semTr t d).1 j ∧ ∀ k,i + 1 ≤ k → k < j → (semTr t c).1 k)
 constructor
 ·rintro ⟨j,h1,h2,h3,h4⟩
  by_cases e : j = i
  ·subst e; exact Or.inl h3
  ·exact Or.inr ⟨h4 i (Nat.le_refl _) (by omega),j,by omega,h2,h3,fun k hk hj => h4 k (by omega) hj⟩
 ·rintro (h | ⟨h0,j,h1,h2,h3,h4⟩)
  ·exact ⟨i,Nat.le_refl _,hi,h,fun k h1 h2 => by omega⟩
  ·refine ⟨j,by omega,h2,h3,fun k hk hj => ?_⟩
   by_cases e : k = i
   ·subst e; exact h0
   ·exact h4 k (by omega) hj
theorem qbm {t : List Nat} {i : Nat} (hi : i < t.length) (c d : Tr) : (semTr t (.bin (16,0) c d)).1 i ↔ (semTr t d).1 i ∧ ((semTr t c).1 i ∨ (semTr t (.bin (16,0) c d)).1 (i + 1)) := by
 show (∀ j,i ≤ j → j < t.length → (semTr t d).1 j ∨ ∃ k,i ≤ k ∧ k < j ∧ (semTr t c).1 k) ↔ _ ∧ (_ ∨ ∀ j,i + 1 ≤ j → j < t.length → (semTr t d).1 j ∨ ∃ k,i + 1 ≤ k ∧ k < j ∧ (semTr t c).1 k)
 constructor
 ·intro h
  refine ⟨?_,?_⟩
  ·rcases h i (Nat.le_refl _) hi with h1 | ⟨k,h1,h2,_⟩
   ·exact h1
   ·omega
  ·by_cases h0 : (semTr t c).1 i
   ·exact Or.inl h0
   ·refine Or.inr fun j h1 h2 => ?_
    rcases h j (by omega) h2 with h3 | ⟨k,h3,h4,h5⟩
    ·exact Or.inl h3
    ·by_cases e : k = i
     ·subst e; exact absurd h5 h0
     ·exact Or.inr ⟨k,by omega,h4,h5⟩
 ·rintro ⟨h0,h⟩ j h1 h2
  by_cases e : j = i
  ·subst e; exact Or.inl h0
  ·rcases h with h | h
   ·exact Or.inr ⟨i,Nat.le_refl _,by omega,h⟩
   ·rcases h j (by omega) h2 with h3 | ⟨k,h3,h4,h5⟩
    ·exact Or.inl h3
    ·exact Or.inr ⟨k,by omega,h4,h5⟩
theorem qgg (w : Nat → Nat → Prop) {n i : Nat} (hw : Fwd n w) (hi : i ≤ n) (F : Nat → Prop) : wayD w i (F i) F ↔ ∃ k,w i k ∧ F k := by
 unfold wayD
 constructor
 ·rintro (⟨h1,h2⟩ | ⟨k,_,h1,h2⟩)
  ·exact ⟨i,h1,h2⟩
  ·exact ⟨k,h1,h2⟩
 ·rintro ⟨k,h1,h2⟩
  by_cases e : k = i
  ·subst e; exact Or.inl ⟨h1,h2⟩
  ·have := hw i k hi h1
   exact Or.inr ⟨k,by omega,h1,h2⟩
theorem qfg (w : Nat → Nat → Prop) {n i : Nat} (hw : Fwd n w) (hi : i ≤ n) (F : Nat → Prop) : wayB w i (F i) F ↔ ∀ k,w i k → F k := by
 unfold wayB
 constructor
 ·rintro ⟨h1,h2⟩ k hk
  by_cases e : k = i
  ·subst e; exact h1 hk
  ·have := hw i k hi hk
   exact h2 k (by omega) hk
 ·intro h
  exact ⟨fun h1 => h i h1,fun k _ h1 => h k h1⟩
theorem qee {n : Nat} (hA : AftOk n) (hP : PthOk n) : AftOk (n + 1) := by
 intro T x M M' L hM hT h
 match T,hT,h with
 | .leaf (op,p),hT,h =>
  (first | rw [qD] at h | rw [qJ] at h | rw [qw] at h | rw [qH] at h)
  injection h with h; injection h with h1 h2; subst h1 h2
  refine ⟨⟨List.prefix_refl _,hM,q16 _ _⟩,fun t i hx => ?_⟩
  have hi : i < t.length := (List.getElem?_eq_some_iff.1 hx).1
  have hg : t.getD i 0 = x := by rw [List.getD_eq_getElem?_getD,hx]; rfl
  rw [q2l]
  rcases q1F hT with ⟨rfl,_⟩ | ⟨_,rfl | rfl | rfl | rfl⟩
  ·rw [show (semTr t (Tr.leaf (2,p))).1 i = (i < t.length ∧ (t.getD i 0).testBit p = true) from rfl,hg]
   simp [hi]
  ·simp [semTr,semT,leafV]
  ·simp [semTr,semT,leafV]
  ·simp [semTr,semT,leafV,hi]
  ·simp [semTr,semT,leafV]; omega
 | .un (op,p) c,hT,h =>
  (first | rw [qD] at h | rw [qJ] at h | rw [qw] at h | rw [qH] at h)
  dsimp only at h
  rcases kt_un hT with ⟨rfl,⟨rfl,q,rfl⟩ | ⟨ho,hc⟩⟩
  ·rw [if_pos rfl] at h
   injection h with h; injection h with h1 h2; subst h1 h2
   refine ⟨⟨List.prefix_refl _,hM,q16 _ _⟩,fun t i hx => ?_⟩
   have hl : (Tr.leaf (2,q)).WF := hT.wf.2.2
   have := q2R hx (.leaf (2,q)) hl rfl rfl
   rw [q2l]
   show _ ↔ ¬ (semTr t (.leaf (2,q))).1 i
   rw [← this]
   simp
  ·rcases ho with rfl | rfl
   ·rw [if_neg (by decide),if_pos rfl] at h
    obtain ⟨a,M1,ha,h⟩ := qf h
    obtain ⟨b,M2,hb,h⟩ := qf h
    obtain ⟨e1,s1⟩ := qW _ hM (q2k 4 (Or.inl rfl)) ha
    obtain ⟨e2,s2⟩ := qW c e1.good hc hb
    obtain ⟨e3,s3⟩ := q2T h e1 e2
    refine ⟨e3,fun t i hx => ?_⟩
    rw [s3,s1,s2,qfN]
    simp only [if_true]
    exact Iff.rfl
   ·rw [if_neg (by decide),if_neg (by decide)] at h
    obtain ⟨a,M1,ha,h⟩ := qf h
    obtain ⟨b,M2,hb,h⟩ := qf h
    obtain ⟨e1,s1⟩ := qW _ hM (q2k 5 (Or.inr rfl)) ha
    obtain ⟨e2,s2⟩ := qW c e1.good hc hb
    obtain ⟨e3,s3⟩ := q2T h e1 e2
    refine ⟨e3,fun t i hx => ?_⟩
    have hi : i < t.length := (List.getElem?_eq_some_iff.1 hx).1
    rw [s3,s1,s2,qfO]
    simp only [Bool.false_eq_true,if_false]
    show _ ↔ (i + 1 < t.length → (semTr t c).1 (i + 1))
    constructor
    ·rintro (h | h) hlt
     ·omega
     ·exact h
    ·intro h
     by_cases e : i + 1 = t.length
     ·exact Or.inl e
     ·exact Or.inr (h (by omega))
 | .bin (op,p) c d,hT,h =>
  (first | rw [qD] at h | rw [qJ] at h | rw [qw] at h | rw [qH] at h)
  dsimp only at h
  obtain ⟨rfl,ho⟩ := q1t hT
  split at h
  ·rename_i ho2
   obtain ⟨a,M1,ha,h⟩ := qf h
   obtain ⟨b,M2,hb,h⟩ := qf h
   obtain ⟨kc,kd⟩ := qB hT (by rcases ho2 with h | h <;> simp [h])
   obtain ⟨e1,s1⟩ := hA c x M M1 a hM kc ha
   obtain ⟨e2,s2⟩ := hA d x M1 M2 b e1.good kd hb
   obtain ⟨e3,s3⟩ := q2T h e1 e2
   refine ⟨e3,fun t i hx => ?_⟩
   rw [s3,s1 t i hx,s2 t i hx]
   rcases ho2 with rfl | rfl
   ·simp [semTr,semT,binV]
   ·simp [semTr,semT,binV]
  ·split at h
   ·rename_i ho1 ho2
    obtain ⟨b,M1,hb,h⟩ := qf h
    obtain ⟨a,M2,ha,h⟩ := qf h
    obtain ⟨u,M3,hu,h⟩ := qf h
    obtain ⟨v,M4,hv,h⟩ := qf h
    obtain ⟨kc,kd⟩ := qB hT (by rcases ho2 with h | h <;> simp [h])
    obtain ⟨e1,s1⟩ := hA d x M M1 b hM kd hb
    obtain ⟨e2,s2⟩ := hA c x M1 M2 a e1.good kc ha
    obtain ⟨e3,s3⟩ := qW _ e2.good hT hu
    obtain ⟨e4,s4⟩ := q2T hv e2 e3
    obtain ⟨e5,s5⟩ := q2T h e1 e4
    refine ⟨e5,fun t i hx => ?_⟩
    have hi : i < t.length := (List.getElem?_eq_some_iff.1 hx).1
    rw [s5,s4,s1 t i hx,s2 t i hx,s3]
    rcases ho2 with rfl | rfl
    ·rw [qd9 hi]; simp
    ·rw [qbm hi]; simp
   ·rename_i ho1 ho2
    obtain ⟨s,M1,hs,h⟩ := qf h
    have ho3 : op = 17 ∨ op = 18 := by omega
    obtain ⟨kc,kd⟩ := q1l hT ho3
    obtain ⟨e1,s1⟩ := hA d x M M1 s hM kd hs
    obtain ⟨e2,s2⟩ := hP (op == 18) c d s x M1 M' L e1.good kc kd e1.bd h
    refine ⟨⟨e1.pre.trans e2.pre,e2.good,e2.bd⟩,fun t i hx => ?_⟩
    have hi : i < t.length := (List.getElem?_eq_some_iff.1 hx).1
    have hf := q48 t kc.wf
    rw [s2 t i hx,s1 t i hx]
    unfold wayS
    rcases ho3 with rfl | rfl
    ·simp only [show ((17 : Nat) == 18) = false from rfl,Bool.false_eq_true,if_false]
     exact qgg _ hf (by omega) _
    ·simp only [show ((18 : Nat) == 18) = true from rfl,if_true]
     exact qfg _ hf (by omega) _
theorem qeU {n : Nat} (hA : AftOk n) (hP : PthOk n) : PthOk (n + 1) := by
 intro box r f s x M M' L hM hr hf hs h
 match r,hr,h with
 | .leaf k,hr,h => exact (q2i hr).elim
 | .un (op,p) c,hr,h =>
  (first | rw [q12] at h | rw [qT] at h | rw [qP] at h | rw [q15] at h)
  dsimp only at h
  rcases kp_un hr with ⟨rfl,⟨rfl,hc,hpl⟩ | ⟨rfl,hc⟩ | ⟨rfl,hc⟩⟩
  ·rw [if_pos rfl] at h
   have hnp : pathT c = false := by
    have hf1 := (qE hr.wf).2.2.1
    simp [fit1T] at hf1
    exact hf1.1
   split at h
   ·rename_i hv
    obtain ⟨e1,s1⟩ := qW f hM hf h
    refine ⟨e1,fun t i hx => ?_⟩
    have hi : i < t.length := (List.getElem?_eq_some_iff.1 hx).1
    have hg := (q2R hx c hc hnp hpl).1 hv
    rw [s1]
    unfold wayS wayB wayD
    have hw : ∀ k,(semTr t (.un (19,0) c)).2 i k ↔ k = i + 1 := fun k => ⟨fun h => h.1,fun h => ⟨h,hi,hg⟩⟩
    cases box with
    | true =>
     simp only [if_true,hw]
     exact ⟨fun h => ⟨fun e => by omega,fun k _ e => by rw [e]; exact h⟩,fun h => h.2 (i + 1) (by omega) rfl⟩
    | false =>
     simp only [Bool.false_eq_true,if_false,hw]
     exact ⟨fun h => Or.inr ⟨i + 1,by omega,rfl,h⟩,fun h => by
      rcases h with ⟨e,_⟩ | ⟨k,_,rfl,h⟩
      ·omega
      ·exact h⟩
   ·rename_i hv
    injection h with h; injection h with h1 h2; subst h1 h2
    refine ⟨⟨List.prefix_refl _,hM,q16 _ _⟩,fun t i hx => ?_⟩
    have hg : ¬ (semTr t c).1 i := fun h => hv ((q2R hx c hc hnp hpl).2 h)
    rw [q2l]
    unfold wayS wayB wayD
    have hw : ∀ k,¬ (semTr t (.un (19,0) c)).2 i k := fun k h => hg h.2.2
    cases box with
    | true => simp [hw]
    | false => simp [hw]
  ·rw [if_neg (by decide),if_pos rfl] at h
   obtain ⟨a,M1,ha,h⟩ := qf h
   have hk : KT (if box then (kTr c).2 else c) := by
    cases box
    ·exact hc
    ·exact q2Y hc
   obtain ⟨e1,s1⟩ := hA _ x M M1 a hM hk ha
   have e := (qr h).1
   subst e
   refine ⟨⟨e1.pre,e1.good,q3z h e1.bd (hs.mono (q1q e1.pre))⟩,fun t i hx => ?_⟩
   have hi : i < t.length := (List.getElem?_eq_some_iff.1 hx).1
   rw [q5u h,s1 t i hx,← q3s e1.pre hs]
   unfold wayS wayB wayD
   have hw : ∀ k,(semTr t (.un (20,0) c)).2 i k ↔ k = i ∧ (semTr t c).1 i := fun k => Iff.rfl
   cases box with
   | true =>
    simp only [if_true,hw,Bool.not_true,Bool.false_eq_true,if_false]
    rw [(kMn t c hc.wf).f2 hc.np i (by omega)]
    constructor
    ·rintro (h1 | h1)
     ·exact ⟨fun h => absurd h.2 h1,fun k hk h => absurd h.2 h1⟩
     ·exact ⟨fun _ => h1,fun k hk h => by omega⟩
    ·rintro ⟨h1,_⟩
     by_cases h2 : (semTr t c).1 i
     ·exact Or.inr (h1 ⟨trivial,h2⟩)
     ·exact Or.inl h2
   | false =>
    simp only [Bool.false_eq_true,if_false,hw,Bool.not_false,if_true]
    constructor
    ·rintro ⟨h1,h2⟩; exact Or.inl ⟨⟨trivial,h1⟩,h2⟩
    ·rintro (⟨⟨_,h1⟩,h2⟩ | ⟨k,hk,⟨e,_⟩,_⟩)
     ·exact ⟨h1,h2⟩
     ·omega
  ·rw [if_neg (by decide),if_neg (by decide)] at h
   obtain ⟨a,M1,ha,h⟩ := qf h
   obtain ⟨e1,s1⟩ := hP box c _ (yesM box) x M M1 a hM hc (q2j hr hf box) (q16 _ _) ha
   have e := (qr h).1
   subst e
   refine ⟨⟨e1.pre,e1.good,q3z h (hs.mono (q1q e1.pre)) e1.bd⟩,fun t i hx => ?_⟩
   have hi : i < t.length := (List.getElem?_eq_some_iff.1 hx).1
   have hfw := q48 t hc.wf
   rw [q5u h,s1 t i hx,← q3s e1.pre hs,q2l]
   cases box with
   | true =>
    simp only [if_true]
    show _ ↔ wayB (fun i k => ∃ m,stepsP (semTr t c).2 m i k) i _ _
    rw [qe9 hfw (by omega)]
    refine and_congr_right fun _ => ?_
    exact Iff.rfl
   | false =>
    simp only [Bool.false_eq_true,if_false]
    show _ ↔ wayD (fun i k => ∃ m,stepsP (semTr t c).2 m i k) i _ _
    rw [q9k hfw (by omega)]
    refine or_congr_right ?_
    exact Iff.rfl
 | .bin (op,p) c d,hr,h =>
  (first | rw [q12] at h | rw [qT] at h | rw [qP] at h | rw [q15] at h)
  dsimp only at h
  obtain ⟨rfl,ho,kc,kd⟩ := q1k hr
  rcases ho with rfl | rfl
  ·rw [if_pos rfl] at h
   obtain ⟨a,M1,ha,h⟩ := qf h
   obtain ⟨b,M2,hb,h⟩ := qf h
   obtain ⟨e1,s1⟩ := hP box c f s x M M1 a hM kc hf hs ha
   obtain ⟨e2,s2⟩ := hP box d f s x M1 M2 b e1.good kd hf (hs.mono (q1q e1.pre)) hb
   obtain ⟨e3,s3⟩ := q2T h e1 e2
   refine ⟨e3,fun t i hx => ?_⟩
   rw [s3,s1 t i hx,s2 t i hx,← q3s e1.pre hs]
   unfold wayS
   cases box with
   | true =>
    simp only [if_true]
    unfold wayB
    show _ ↔ ((semTr t c).2 i i ∨ (semTr t d).2 i i → _) ∧ ∀ k,i < k → (semTr t c).2 i k ∨ (semTr t d).2 i k → _
    constructor
    ·rintro ⟨⟨h1,h2⟩,h3,h4⟩
     exact ⟨fun h => h.elim h1 h3,fun k hk h => h.elim (h2 k hk) (h4 k hk)⟩
    ·rintro ⟨h1,h2⟩
     exact ⟨⟨fun h => h1 (Or.inl h),fun k hk h => h2 k hk (Or.inl h)⟩,fun h => h1 (Or.inr h),fun k hk h => h2 k hk (Or.inr h)⟩
   | false =>
    simp only [Bool.false_eq_true,if_false]
    unfold wayD
    show _ ↔ (((semTr t c).2 i i ∨ (semTr t d).2 i i) ∧ _) ∨ ∃ k,i < k ∧ ((semTr t c).2 i k ∨ (semTr t d).2 i k) ∧ _
    constructor
    ·rintro ((⟨h1,h2⟩ | ⟨k,h0,h1,h2⟩) | ⟨h1,h2⟩ | ⟨k,h0,h1,h2⟩)
     ·exact Or.inl ⟨Or.inl h1,h2⟩
     ·exact Or.inr ⟨k,h0,Or.inl h1,h2⟩
     ·exact Or.inl ⟨Or.inr h1,h2⟩
     ·exact Or.inr ⟨k,h0,Or.inr h1,h2⟩
    ·rintro (⟨h1 | h1,h2⟩ | ⟨k,h0,h1 | h1,h2⟩)
     ·exact Or.inl (Or.inl ⟨h1,h2⟩)
     ·exact Or.inr (Or.inl ⟨h1,h2⟩)
     ·exact Or.inl (Or.inr ⟨k,h0,h1,h2⟩)
     ·exact Or.inr (Or.inr ⟨k,h0,h1,h2⟩)
  ·rw [if_neg (by decide)] at h
   obtain ⟨a,M1,ha,h⟩ := qf h
   obtain ⟨e1,s1⟩ := hP box d f s x M M1 a hM kd hf hs ha
   obtain ⟨e2,s2⟩ := hP box c _ a x M1 M' L e1.good kc (q2j kd hf box) e1.bd h
   refine ⟨⟨e1.pre.trans e2.pre,e2.good,e2.bd⟩,fun t i hx => ?_⟩
   have hi : i < t.length := (List.getElem?_eq_some_iff.1 hx).1
   rw [s2 t i hx,s1 t i hx]
   unfold wayS
   cases box with
   | true =>
    simp only [if_true]
    show _ ↔ wayB (fun i k => ∃ j,(semTr t c).2 i j ∧ (semTr t d).2 j k) i _ _
    rw [qff (q48 t kc.wf) (q48 t kd.wf) (by omega)]
    exact Iff.rfl
   | false =>
    simp only [Bool.false_eq_true,if_false]
    show _ ↔ wayD (fun i k => ∃ j,(semTr t c).2 i j ∧ (semTr t d).2 j k) i _ _
    rw [qby (q48 t kc.wf) (q48 t kd.wf) (by omega)]
    exact Iff.rfl
theorem q1Z : ∀ n,AftOk n ∧ PthOk n
 | 0 => ⟨fun T x M M' L _ _ h => (by (first | rw [qD] at h | rw [qJ] at h | rw [qw] at h | rw [qH] at h); cases h),fun box r f s x M M' L _ _ _ _ h => (by (first | rw [q12] at h | rw [qT] at h | rw [qP] at h | rw [q15] at h); cases h)⟩
 | n + 1 => ⟨qee (q1Z n).1 (q1Z n).2,qeU (q1Z n).1 (q1Z n).2⟩
def itemsL (s : Nat) : List Nat := (List.range 64).filter fun i => s.testBit i
theorem q1n {s i : Nat} : i ∈ itemsL s ↔ i < 64 ∧ s.testBit i = true := by
 unfold itemsL; rw [List.mem_filter,List.mem_range]
theorem q8X (s : Nat) : (itemsL s).Pairwise (· < ·) := List.pairwise_lt_range.filter _
theorem qc4 : itemsL 0 = [] := by
 unfold itemsL
 rw [List.filter_eq_nil_iff]
 intro i _
 rw [Nat.zero_testBit]; simp
theorem q7g (s : Nat) : (itemsL s).length ≤ 64 := by
 unfold itemsL
 exact Nat.le_trans (List.length_filter_le _ _) (by simp)
theorem qba (x : Nat) (h0 : x ≠ 0) (h : x < 2 ^ 64) : Lib.ctz 64 x < 64 ∧ x.testBit (Lib.ctz 64 x) = true ∧ ∀ i,i < Lib.ctz 64 x → x.testBit i = false := by
 obtain ⟨m,hm,hk⟩ := Lib.ctzFrom_spec 64 x (by omega) h
 have e : Lib.ctz 64 x = Lib.ctzFrom 64 x := by simp [Lib.ctz,h0]
 rw [e]
 generalize Lib.ctzFrom 64 x = k at *
 refine ⟨hk,?_,fun i hi => ?_⟩
 ·rw [hm,Nat.mul_comm,Nat.testBit_mul_two_pow]
  simp [Nat.testBit_zero]
 ·rw [hm,Nat.mul_comm,Nat.testBit_mul_two_pow]
  simp; omega
def dropB (x k : Nat) : Nat := x &&& (18446744073709551615 - 2 ^ k)
theorem q5h {x k i : Nat} (hk : k < 64) : (dropB x k).testBit i = (x.testBit i && (decide (i < 64) && !decide (k = i))) := by
 unfold dropB
 have hb := Nat.testBit_two_pow_sub_succ (n := 64) (x := 2 ^ k) (Nat.pow_lt_pow_right (by decide) hk) i
 rw [show 2 ^ 64 - (2 ^ k + 1) = 18446744073709551615 - 2 ^ k by omega] at hb
 rw [Nat.testBit_and,hb,Nat.testBit_two_pow]
theorem qaS (x k : Nat) : dropB x k ≤ x := Nat.and_le_left
theorem qeh {x k : Nat} (hk : k < 64) (h : x.testBit k = true) : dropB x k < x := by
 refine Nat.lt_of_le_of_ne (qaS x k) fun e => ?_
 have := q5h (x := x) (k := k) (i := k) hk
 rw [e,h] at this
 simp at this
theorem qcV {x : Nat} (h0 : x ≠ 0) (h : x < 2 ^ 64) : itemsL x = Lib.ctz 64 x :: itemsL (dropB x (Lib.ctz 64 x)) := by
 obtain ⟨hk,hb,hl⟩ := qba x h0 h
 generalize Lib.ctz 64 x = k at *
 refine q38 (q8X x) (List.pairwise_cons.2 ⟨fun i hi => ?_,q8X _⟩) fun i => ?_
 ·obtain ⟨h1,h2⟩ := q1n.1 hi
  rw [q5h hk] at h2
  simp at h2
  have h3 : ¬ i < k := fun hlt => by rw [hl i hlt] at h2; simp at h2
  omega
 ·rw [List.mem_cons,q1n,q1n,q5h hk]
  constructor
  ·rintro ⟨h1,h2⟩
   by_cases e : i = k
   ·exact Or.inl e
   ·refine Or.inr ⟨h1,?_⟩
    rw [h2,decide_eq_true h1,decide_eq_false (by omega)]; rfl
  ·rintro (rfl | ⟨h1,h2⟩)
   ·exact ⟨hk,hb⟩
   ·exact ⟨h1,by rw [Bool.and_eq_true] at h2; exact h2.1⟩
end Go.Proofs.YtailhklbmenaoaaGreatDoor
