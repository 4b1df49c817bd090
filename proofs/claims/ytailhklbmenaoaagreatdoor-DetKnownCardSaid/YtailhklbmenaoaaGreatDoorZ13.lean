/- Texts of the proof, put together: what it uses. -/
import Derived.LaidEqlPtr
import Derived.Maps.OwnSet
import Derived.StringKeys
import Derived.Test.YtailhklbmenaoaaGreatDoorZ02
import Derived.Test.YtailhklbmenaoaaGreatDoorZ07
set_option maxRecDepth 100000
set_option maxHeartbeats 16000000
namespace Go.Proofs.YtailhklbmenaoaaGreatDoor
open Go.RowKit Go.Maps
def encI (l : List It) : List Value := l.flatMap fun x => [.int .u8 (x.op : Int),.int .u8 (x.p : Int),.int .i64 x.a,.int .i64 x.b]
theorem q8R (x : It) (l : List It) : encI (x :: l) = .int .u8 (x.op : Int) :: .int .u8 (x.p : Int) :: .int .i64 x.a :: .int .i64 x.b :: encI l := rfl
theorem q5U (xs ys : List It) : encI (xs ++ ys) = encI xs ++ encI ys := by simp [encI]
theorem q6e : ∀ l : List It,(encI l).length = l.length * 4
 | [] => rfl
 | t :: ts => by rw [q8R]; simp [q6e ts]; omega
theorem q4p : ∀ (l : List It) (k : Nat) (h : k < l.length),(encI l)[4 * k]? = some (.int .u8 (l[k].op : Int)) ∧ (encI l)[4 * k + 1]? = some (.int .u8 (l[k].p : Int)) ∧ (encI l)[4 * k + 2]? = some (.int .i64 l[k].a) ∧ (encI l)[4 * k + 3]? = some (.int .i64 l[k].b)
 | [],k,h => absurd h (by simp)
 | t :: ts,0,_ => ⟨rfl,rfl,rfl,rfl⟩
 | t :: ts,k + 1,h => by
  have := q4p ts k (by simpa using h)
  rw [q8R,show 4 * (k + 1) = 4 * k + 1 + 1 + 1 + 1 by omega,show 4 * k + 1 + 1 + 1 + 1 + 1 = (4 * k + 1) + 1 + 1 + 1 + 1 by omega,show 4 * k + 1 + 1 + 1 + 1 + 2 = (4 * k + 2) + 1 + 1 + 1 + 1 by omega,show 4 * k + 1 + 1 + 1 + 1 + 3 = (4 * k + 3) + 1 + 1 + 1 + 1 by omega]
  simpa using this
theorem qdn (l : List It) (n : Nat) : (encI l).take (n * 4) = encI (l.take n) := by
 by_cases h : n ≤ l.length
 ·have e : encI l = encI (l.take n) ++ encI (l.drop n) := by rw [← q5U,List.take_append_drop]
  have hl : (encI (l.take n)).length = n * 4 := by rw [q6e,List.length_take,Nat.min_eq_left h]
  rw [e,← hl,List.take_left]
 ·rw [List.take_of_length_le (by rw [q6e]; omega),List.take_of_length_le (by omega)]
theorem qaY (x : It) : ∀ u ∈ encI [x],u.oneCell' = true := by
 intro u hu
 simp [encI] at hu
 rcases hu with rfl | rfl | rfl | rfl <;> rfl
theorem q1v : (Tryz.prog.info? 162).map (·.size) = some 4 := by kernel_rfl
theorem q9y : (Tryz.prog.info? 162).map (fun i => (i.zero,i.size,i.bytes)) = some (some (.agg #[.int .u8 0,.int .u8 0,.int .i64 0,.int .i64 0]),4,24) := by kernel_rfl
def posI (items : List It) (x : It) : Option Nat := items.findIdx? (· = x)
theorem q2n {items : List It} (hn : items.Nodup) {x : It} {j : Nat} : posI items x = some j ↔ items[j]? = some x := by
 unfold posI
 rw [List.findIdx?_eq_some_iff_getElem,List.getElem?_eq_some_iff]
 constructor
 ·rintro ⟨hj,h,_⟩
  exact ⟨hj,by simpa using h⟩
 ·rintro ⟨hj,h⟩
  refine ⟨hj,by simpa using h,fun i hi => ?_⟩
  intro he
  have he' : items[i] = x := by simpa using he
  have := (List.getElem_inj hn).1 (he'.trans h.symm)
  omega
theorem q1A {items : List It} {x : It} : posI items x = none ↔ x ∉ items := by
 unfold posI
 rw [List.findIdx?_eq_none_iff]
 constructor
 ·intro h hx
  simpa using h x hx
 ·intro h y hy
  simp
  rintro rfl
  exact h hy
theorem qg6 {items : List It} {x : It} {j : Nat} (h : posI items x = some j) : j < items.length := by
 unfold posI at h
 exact (List.findIdx?_eq_some_iff_getElem.1 h).1
structure TabI (w : World) (F : Nat → Prop) (t : Nat) (items : List It) : Prop where
 nd : items.Nodup
 few : items.length ≤ 4096
 ok : ∀ x ∈ items,ItOk x
 ex : ∃ v mb,w.heap[t]? = some (.cells #[tbV t,v,.map (some mb)] 205 (0,0)) ∧ w.ownsRow 0 162 4 v items.length (encI items) ∧ NumOf w mb items.length (posI items) ∧ ∀ k,F k ↔ (k = t ∨ k = mb ∨ v.ownBlock = some k)
theorem TabI.lt {w : World} {F : Nat → Prop} {t : Nat} {items : List It} (h : TabI w F t items) : ∀ k,F k → k < w.heap.size := by
 obtain ⟨v,mb,h1,h2,h3,h4⟩ := h.ex
 intro k hk
 rcases (h4 k).1 hk with rfl | rfl | hk
 ·exact (Array.getElem?_eq_some_iff.1 h1).1
 ·exact h3.lt
 ·exact qR h2 k hk
theorem qs {w w' : World} {base e size n : Nat} {v : Value} {xs : List Value} (h : w.ownsRow base e size v n xs) (hb : ∀ k,v.ownBlock = some k → w'.heap[k]? = w.heap[k]?) : w'.ownsRow base e size v n xs := by
 obtain ⟨hl,h⟩ := h
 refine ⟨hl,h.imp id ?_⟩
 rintro ⟨g,cap,cur,rfl,hg,hcell,r⟩
 exact ⟨g,cap,cur,rfl,hg,(hb g rfl).trans hcell,r⟩
theorem TabI.far {w w' : World} {F : Nat → Prop} {t : Nat} {items : List It} (h : TabI w F t items) (hb : ∀ k,F k → w'.heap[k]? = w.heap[k]?) : TabI w' F t items := by
 obtain ⟨v,mb,h1,h2,h3,h4⟩ := h.ex
 exact ⟨h.nd,h.few,h.ok,v,mb,(hb t ((h4 t).2 (Or.inl rfl))).trans h1,qs h2 (fun k hk => hb k ((h4 k).2 (Or.inr (Or.inr hk)))),h3.far (hb mb ((h4 mb).2 (Or.inr (Or.inl rfl)))),h4⟩
theorem TabI.up {w w' : World} {F : Nat → Prop} {t : Nat} {items : List It} (h : TabI w F t items) (hb : Below w.heap.size w w') : TabI w' F t items := h.far fun k hk => hb.block k (h.lt k hk)
theorem Fr.same {w w' : World} {F : Nat → Prop} (hb : Below w.heap.size w w') : Fr w w' F F := ⟨hb.os,hb.tape,hb.output,hb.size,fun k hk _ => hb.block k hk,fun _ hk => Or.inl hk⟩
structure TabR (w : World) (t : Nat) (a : Option Addr) (n cap mb : Nat) (items : List It) : Prop where
 hn : items.length = n
 hc : n ≤ cap
 bd : cap ≤ maxLen
 nn : a = none → cap = 0
 blk : w.heap[t]? = some (.cells #[tbV t,.slice a n cap,.map (some mb)] 205 (0,0))
 row : w.ownsRow 0 162 4 (.slice a n cap) n (encI items)
 num : NumOf w mb n (posI items)
theorem TabI.read {w : World} {F : Nat → Prop} {t : Nat} {items : List It} (h : TabI w F t items) : ∃ a cap mb,TabR w t a items.length cap mb items ∧ ∀ k,F k ↔ (k = t ∨ k = mb ∨ (Value.slice a items.length cap).ownBlock = some k) := by
 obtain ⟨v,mb,h1,h2,h3,h4⟩ := h.ex
 rcases h2.2 with ⟨rfl,e0⟩ | ⟨g,cap,cur,rfl,_,_,hnc,hcm,_⟩
 ·obtain rfl : items = [] := List.eq_nil_of_length_eq_zero e0
  exact ⟨none,0,mb,⟨rfl,Nat.le_refl _,Nat.zero_le _,fun _ => rfl,h1,h2,h3⟩,h4⟩
 ·exact ⟨some ⟨g,0,none⟩,cap,mb,⟨rfl,hnc,hcm,fun e => (by cases e),h1,h2,h3⟩,h4⟩
theorem TabR.c0 {w : World} {t n cap mb : Nat} {a : Option Addr} {items : List It} (h : TabR w t a n cap mb items) : w.cell? ⟨t,0,none⟩ = some (.pointer (some ⟨t,0,none⟩)) := qb h.blk 0
theorem TabR.c1 {w : World} {t n cap mb : Nat} {a : Option Addr} {items : List It} (h : TabR w t a n cap mb items) : w.cell? ⟨t,1,none⟩ = some (.slice a n cap) := qb h.blk 1
theorem TabR.c2 {w : World} {t n cap mb : Nat} {a : Option Addr} {items : List It} (h : TabR w t a n cap mb items) : w.cell? ⟨t,2,none⟩ = some (.map (some mb)) := qb h.blk 2
theorem qY {P : Program} {e : TypeId} {s : Nat} (h : (P.info? e).map (·.size) = some s) (w : World) : (sizeOf e).run P w = .ok s w := by
 cases hq : P.info? e with
 | none => simp [hq] at h
 | some i => simp [hq] at h; simp [sizeOf,typeInfo,hq,h]
theorem TabR.at {w : World} {t n cap mb : Nat} {a : Option Addr} {items : List It} (h : TabR w t a n cap mb items) (k : Nat) (hk : k < items.length) :
  ∃ g o,(∀ w',(Instr.indexAt 122 (.slice a n cap) (.int .i64 (k : Int))).run Tryz.prog w' = .ok (.pointer (some ⟨g,o,none⟩)) w') ∧ w.cell? ⟨g,o,none⟩ = some (.int .u8 (items[k].op : Int)) ∧ w.cell? ⟨g,o + 1,none⟩ = some (.int .u8 (items[k].p : Int)) ∧ w.cell? ⟨g,o + 2,none⟩ = some (.int .i64 items[k].a) ∧ w.cell? ⟨g,o + 3,none⟩ = some (.int .i64 items[k].b) := by
 have hn := h.hn
 rcases h.row.2 with ⟨e,e0⟩ | ⟨g,cap',cur,e,_,hcell,hnc,_,hsz,htk⟩
 ·omega
 ·injection e with e1 _ e3
  subst e1 e3
  have key : ∀ j,j < n * 4 → w.cell? ⟨g,j,none⟩ = (encI items)[j]? := fun j hj => by
   rw [← htk,List.getElem?_take,if_pos hj]
   simp [World.cell?,hcell]
  have hkn : k < n := by omega
  obtain ⟨q0,q1,q2,q3⟩ := q4p items k hk
  refine ⟨g,4 * k,fun w' => ?_,?_,?_,?_,?_⟩
  ·simp [Instr.indexAt,run_underlying Tryz.underlying122,asIntOf,qY q1v,hkn,Result.andThen,go_sem,qi,Nat.mul_comm]
  ·rw [key _ (by omega)]; exact q0
  ·rw [key _ (by omega)]; exact q1
  ·rw [key _ (by omega)]; exact q2
  ·rw [key _ (by omega)]; exact q3
theorem q7a (op : Nat) (w : World) (hop : op ≤ 23) (h3 : op ≠ 3) (h9 : op ≠ 9) (h10 : op ≠ 10) : Calls Tryz.prog 157 #[.int .u8 (op : Int)] w fun e w' => e = .returned (.int .i64 (takO op : Int)) ∧ w' = w := by
 rcases q6t hop with rfl | rfl | rfl | rfl | rfl | rfl | rfl | rfl | rfl | rfl | rfl | rfl | rfl | rfl | rfl | rfl | rfl | rfl | rfl | rfl | rfl | rfl | rfl | rfl <;> first | exact absurd rfl h3 | exact absurd rfl h9 | exact absurd rfl h10 |
 ·go_enter Tryz.func157,Tryz.ntmps157
  go_wp2
  go_ret
  exact ⟨rfl,rfl⟩
theorem qaK : ∃ j, Tryz.prog.info? 205 = some j := by
  cases h : Tryz.prog.info? 205 with
  | some j => exact ⟨j, rfl⟩
  | none => exact absurd h (by have : (Tryz.prog.info? 205).isSome = true := by kernel_rfl
                               intro e; rw [e] at this; cases this)
theorem q9T (a : Addr) (w : World) : (binOp .eql 178 (.pointer (some a)) (.pointer (some a))).run Tryz.prog w = .ok (.bool true) w := by
 obtain ⟨j,hj⟩ := qaK
 exact run_eql_ptr_same w a Tryz.underlying178 hj
theorem q33 {w : World} {t n cap mb : Nat} {a : Option Addr} {items : List It} (h : TabR w t a n cap mb items) : Calls Tryz.prog 143 #[.pointer (some ⟨t,0,none⟩)] w fun e w' => e = .returned (.bool true) ∧ w' = w := by
 have c0 := h.c0
 have hp := fun w => q9T ⟨t,0,none⟩ w
 clear h
 go_enter Tryz.func143,Tryz.ntmps143
 go_wp2
 go_ret
 exact ⟨rfl,rfl⟩
theorem qf4 (w : World) (t : Nat) (ht : t = w.heap.size + 1) : TabI ((w.alloc (.map #[] 0)).alloc (.cells #[.pointer (some ⟨t,0,none⟩),.slice none 0 0,.map (some w.heap.size)] 205)) (fun k => k = t ∨ k = w.heap.size) t [] := by
 have h1 : ((w.alloc (.map #[] 0)).alloc (.cells #[.pointer (some ⟨t,0,none⟩),.slice none 0 0,.map (some w.heap.size)] 205)).heap[t]? = some (.cells #[.pointer (some ⟨t,0,none⟩),.slice none 0 0,.map (some w.heap.size)] 205 (0,0)) := by
  have := (MapKept.heap_alloc (w.alloc (.map #[] 0)) (.cells #[.pointer (some ⟨t,0,none⟩),.slice none 0 0,.map (some w.heap.size)] 205)).1
  rw [show (w.alloc (.map #[] 0)).heap.size = t by simp; omega] at this
  exact this
 have h2 : NumOf ((w.alloc (.map #[] 0)).alloc (.cells #[.pointer (some ⟨t,0,none⟩),.slice none 0 0,.map (some w.heap.size)] 205)) w.heap.size 0 (posI []) := ((qbh w).far ((qd (w.alloc (.map #[] 0)) _).block w.heap.size (by simp))).alike fun x _ => rfl
 refine ⟨by simp,by simp,fun x hx => (by simp at hx),.slice none 0 0,w.heap.size,h1,⟨rfl,Or.inl ⟨rfl,rfl⟩⟩,h2,fun k => ?_⟩
 constructor
 ·rintro (h | h)
  ·exact Or.inl h
  ·exact Or.inr (Or.inl h)
 ·rintro (h | h | h)
  ·exact Or.inl h
  ·exact Or.inr h
  ·cases h
theorem qa2 (w : World) : Calls Tryz.prog 118 #[] w fun e w' => ∃ t F,e = .returned (tbV t) ∧ TabI w' F t [] ∧ (∀ k,F k → w.heap.size ≤ k) ∧ Below w.heap.size w w' := by
 have hmm := @run_makeMap Tryz.prog
 go_enter Tryz.func118,Tryz.ntmps118
 go_wp2
 go_ret
 refine ⟨w.heap.size + 1,_,rfl,qf4 w _ rfl,fun k hk => ?_,?_⟩
 ·rcases hk with rfl | rfl
  ·omega
  ·exact Nat.le_refl _
 ·exact qe (qd w _) (qd _ _)
theorem qa1 {w : World} {F : Nat → Prop} {t : Nat} {items : List It} (h : TabI w F t items) : Calls Tryz.prog 120 #[.pointer (some ⟨t,0,none⟩)] w fun e w' => e = .returned (.int .i64 (items.length : Int)) ∧ w' = w := by
 obtain ⟨a,cap,mb,hr,_⟩ := h.read
 have c1 := hr.c1
 have hm := q33 hr
 clear h hr
 go_enter Tryz.func120,Tryz.ntmps120
 go_wp2_with (go_at_call 143; refine hm.mono ?_; rintro e w' ⟨rfl,rfl⟩)
 go_ret
 exact ⟨rfl,rfl⟩
theorem qaM {w : World} {t n cap mb : Nat} {a : Option Addr} {items : List It} (h : TabR w t a n cap mb items) (i : Nat) (hi : i < n) : Calls Tryz.prog 148 #[.pointer (some ⟨t,0,none⟩),.int .i64 (i : Int)] w fun e w' => e = .returned (.int .i64 0) ∧ w' = w := by
 have c1 := h.c1
 have hm := q33 h
 have h1 : ¬ (n : Int) ≤ (i : Int) := by omega
 have h2 : ¬ (i : Int) < 0 := by omega
 clear h
 go_enter Tryz.func148,Tryz.ntmps148
 go_wp2_with (go_at_call 143; refine hm.mono ?_; rintro e w' ⟨rfl,rfl⟩)
 go_ret
 exact ⟨rfl,rfl⟩
theorem TabR.up {w w' : World} {t n cap mb : Nat} {a : Option Addr} {items : List It} (h : TabR w t a n cap mb items) (hb : Below w.heap.size w w') : TabR w' t a n cap mb items :=
 ⟨h.hn,h.hc,h.bd,h.nn,(hb.block t (Array.getElem?_eq_some_iff.1 h.blk).1).trans h.blk,q1g h.row hb,h.num.far (hb.block mb h.num.lt)⟩
theorem q8f {w : World} {F : Nat → Prop} {t : Nat} {items : List It} (h : TabI w F t items) (i : Nat) (x : It) (hx : items[i]? = some x) : Calls Tryz.prog 121 #[.pointer (some ⟨t,0,none⟩),.int .i64 (i : Int)] w fun e w' => e = .returned (.tuple #[itV x,.int .i64 0]) ∧ Below w.heap.size w w' := by
 obtain ⟨a,cap,mb,hr,_⟩ := h.read
 obtain ⟨hi,rfl⟩ := List.getElem?_eq_some_iff.1 hx
 have hb := qd w (.cells #[.int .u8 0,.int .u8 0,.int .i64 0,.int .i64 0] 162)
 have hr1 := hr.up hb
 have c1 := hr1.c1
 have hf := qaM hr1 i hi
 obtain ⟨g,o,hio,q0,q1,q2,q3⟩ := hr1.at i hi
 generalize items[i] = x at *
 obtain ⟨op,p,xa,xb⟩ := x
 dsimp only at q0 q1 q2 q3
 clear h hr hr1
 go_enter Tryz.func121,Tryz.ntmps121
 go_wp2_with (go_at_call 148; refine hf.mono ?_; rintro e w' ⟨rfl,rfl⟩)
 refine bodyPost_ret (v := .tuple #[.agg #[.int .u8 (op : Int),.int .u8 (p : Int),.int .i64 xa,.int .i64 xb],.int .i64 0]) (by simp [results,Tryz.results121,go_sem]) rfl ⟨rfl,qd _ _⟩
def NsSl (w : World) (a : Option Addr) (len cap : Nat) (ns : List Nat) : Prop := IntSl Tryz.prog 29 .i64 w a len cap (ns.map fun n : Nat => (n : Int))
theorem NsSl.at {w : World} {a : Option Addr} {len cap : Nat} {ns : List Nat} (h : NsSl w a len cap ns) (k : Nat) (hk : k < ns.length) : ∃ g o s,(∀ w',(Instr.indexAt 29 (.slice a len cap) (.int .i64 (k : Int))).run Tryz.prog w' = .ok (.pointer (some ⟨g,o,s⟩)) w') ∧ w.cell? ⟨g,o,s⟩ = some (.int .i64 (ns[k] : Int)) := by
 have hl := h.hlen
 rw [List.length_map] at hl
 have h1 := fun w' => h.idx len k w' (by omega) (Nat.le_refl _)
 have h2 := h.cell k (by omega)
 rw [show (ns.map fun n : Nat => (n : Int)).getD k 0 = (ns[k] : Int) by simp [List.getD,hk]] at h2
 generalize adOf a k = y at *
 obtain ⟨g,o,s⟩ := y
 exact ⟨g,o,s,h1,h2⟩
theorem NsSl.up {w w' : World} {a : Option Addr} {len cap : Nat} {ns : List Nat} (h : NsSl w a len cap ns) (hb : Below w.heap.size w w') : NsSl w' a len cap ns := IntSl.up h hb
theorem q6b (op p : Nat) (a : Option Addr) (len cap : Nat) (ns : List Nat) (w : World) (hN : NsSl w a len cap ns) (hl : len ≤ 2) : Calls Tryz.prog 158 #[.agg #[.int .u8 (op : Int),.int .u8 (p : Int)],.slice a len cap] w fun e w' => e = .returned (itV (itemOf (op,p) ns)) ∧ Below w.heap.size w w' := by
 have hlen : ns.length = len := by have := hN.hlen; rwa [List.length_map] at this
 subst hlen
 have hb : ∀ u v : Int,Below w.heap.size w (((w.alloc (.cells #[.int .u8 (op : Int),.int .u8 (p : Int)] 90)).alloc (.cells #[.int .u8 0,.int .u8 0,.int .i64 0,.int .i64 0] 162)).alloc (.cells #[.int .u8 (op : Int),.int .u8 (p : Int),.int .i64 u,.int .i64 v] 162)) := fun u v => qe (qe (qd w _) (qd _ _)) (qd _ _)
 have fin : ∀ u v : Int,Below w.heap.size w (((w.alloc (.cells #[.int .u8 (op : Int),.int .u8 (p : Int)] 90)).alloc (.cells #[.int .u8 (op : Int),.int .u8 (p : Int),.int .i64 u,.int .i64 v] 162)).alloc (.cells #[.int .u8 (op : Int),.int .u8 (p : Int),.int .i64 u,.int .i64 v] 162)) := fun u v => qe (qe (qd w _) (qd _ _)) (qd _ _)
 match ns,hl,hN with
 | [],_,hN =>
  clear hN hb
  go_enter Tryz.func158,Tryz.ntmps158
  go_wp2
  refine bodyPost_ret (v := .agg #[.int .u8 (op : Int),.int .u8 (p : Int),.int .i64 (-1),.int .i64 (-1)]) (by simp [results,Tryz.results158,go_sem]) rfl ⟨rfl,fin _ _⟩
 | [x],_,hN =>
  obtain ⟨g,o,s,hi,hc⟩ := (hN.up (hb (-1) (-1))).at 0 (by simp)
  have hi' : ∀ w',(Instr.indexAt 29 (.slice a 1 cap) (.int .i64 0)).run Tryz.prog w' = .ok (.pointer (some ⟨g,o,s⟩)) w' := hi
  dsimp only [List.getElem_cons_zero] at hc
  clear hN hb hi
  go_enter Tryz.func158,Tryz.ntmps158
  go_wp2
  refine bodyPost_ret (v := .agg #[.int .u8 (op : Int),.int .u8 (p : Int),.int .i64 (x : Int),.int .i64 (-1)]) (by simp [results,Tryz.results158,go_sem]) rfl ⟨rfl,fin _ _⟩
 | [x,y],_,hN =>
  obtain ⟨g,o,s,hi,hc⟩ := (hN.up (hb (-1) (-1))).at 0 (by simp)
  obtain ⟨g2,o2,s2,hi2,hc2⟩ := (hN.up (hb x (-1))).at 1 (by simp)
  have hi' : ∀ w',(Instr.indexAt 29 (.slice a 2 cap) (.int .i64 0)).run Tryz.prog w' = .ok (.pointer (some ⟨g,o,s⟩)) w' := hi
  have hi2' : ∀ w',(Instr.indexAt 29 (.slice a 2 cap) (.int .i64 1)).run Tryz.prog w' = .ok (.pointer (some ⟨g2,o2,s2⟩)) w' := hi2
  dsimp only [List.getElem_cons_zero,List.getElem_cons_succ] at hc hc2
  clear hN hb hi hi2
  go_enter Tryz.func158,Tryz.ntmps158
  go_wp2
  refine bodyPost_ret (v := .agg #[.int .u8 (op : Int),.int .u8 (p : Int),.int .i64 (x : Int),.int .i64 (y : Int)]) (by simp [results,Tryz.results158,go_sem]) rfl ⟨rfl,fin _ _⟩
 | _ :: _ :: _ :: _,h,_ => simp at h
def SOk (x : ByteArray) : Prop := x.size ≤ 100000000
def klS (x : ByteArray) : Lit := .string x.data.toList
theorem q3R : Keyed Tryz.prog 9 := string_keyed Tryz.underlying9
theorem q4h (x : ByteArray) (h : SOk x) : keyOf Tryz.prog 9 (.string x) = some (klS x) := WideMaps.keyOf_string_mk Tryz.underlying9 (by unfold SOk at h; unfold maxLen; omega)
theorem qcl {x y : ByteArray} (h : klS x = klS y) : x = y := by
 injection h with h
 obtain ⟨⟨x⟩⟩ := x
 obtain ⟨⟨y⟩⟩ := y
 simp at h
 rw [h]
theorem q8u (x : ByteArray) : WideAt.IsKeyLit (klS x) := trivial
def NumS (w : World) (b n : Nat) (f : ByteArray → Option Nat) : Prop :=
 ∃ D : DataW Unit,w.ownsMap Tryz.prog 9 (plainElem Tryz.prog 3) b n D ∧ Tidy D ∧ Maps.size D = n ∧ ∀ x,SOk x → has D (klS x) = (f x).isSome ∧ ∀ j,f x = some j → D.atKey (klS x) (.lit (.int .i64 0)) = .lit (.int .i64 (j : Int))
theorem NumS.lt {w : World} {b n : Nat} {f : ByteArray → Option Nat} (h : NumS w b n f) : b < w.heap.size := by
 obtain ⟨D,h,_⟩ := h; exact h.lt
theorem NumS.far {w w' : World} {b n : Nat} {f : ByteArray → Option Nat} (h : NumS w b n f) (hb : w'.heap[b]? = w.heap[b]?) : NumS w' b n f := by
 obtain ⟨D,⟨es,clock,h1,h2⟩,r⟩ := h
 exact ⟨D,⟨es,clock,hb.trans h1,h2⟩,r⟩
theorem NumS.isMap {w : World} {b n : Nat} {f : ByteArray → Option Nat} (h : NumS w b n f) : ∃ es c,w.heap[b]? = some (.map es c) := by
 obtain ⟨D,⟨es,clock,h1,h2⟩,r⟩ := h
 exact ⟨es,clock,h1⟩
theorem NumS.alike {w : World} {b n : Nat} {f g : ByteArray → Option Nat} (h : NumS w b n f) (hg : ∀ x,SOk x → f x = g x) : NumS w b n g := by
 obtain ⟨D,h1,h2,h3,h4⟩ := h
 exact ⟨D,h1,h2,h3,fun x hx => by rw [← hg x hx]; exact h4 x hx⟩
theorem q94 (w : World) : NumS (w.alloc (.map #[] 0)) w.heap.size 0 (fun _ => none) :=
 ⟨.map [],World.ownsMap_made _ _ _ _,tidy_empty,rfl,fun x _ => ⟨rfl,fun j hj => by cases hj⟩⟩
theorem qa4 (w : World) : (zeroValue 3).run Tryz.prog w = .ok (.int .i64 0) w := by kernel_rfl
theorem NumS.look {w : World} {b n : Nat} {f : ByteArray → Option Nat} (h : NumS w b n f) {x : ByteArray} (hx : SOk x) :
  (Instr.lookup 76 (.map (some b)) (.string x) true).run Tryz.prog w = .ok (.tuple #[.int .i64 (((f x).getD 0 : Nat) : Int),.bool (f x).isSome]) w := by
 obtain ⟨D,h1,h2,h3,h4⟩ := h
 obtain ⟨hh,ha⟩ := h4 x hx
 obtain ⟨v,ps,hrun,hv⟩ := h1.look_ok q3R Tryz.underlying76 (qa4 w) (plainElem_int Tryz.underlying3 (by decide)) (q4h x hx)
 obtain ⟨c,rfl,hc,hwc⟩ := plainElem_int_inv Tryz.underlying3 hv
 have hc' : D.atKey (klS x) (.lit (.int .i64 0)) = .lit (.int .i64 c) := congrArg Prod.fst hc
 rw [hrun,hh]
 cases hf : f x with
 | none =>
  rw [hf] at hh
  rw [atKey_of_not_has hh] at hc'
  injection hc' with hc'
  injection hc' with _ hc'
  subst hc'
  rfl
 | some j =>
  rw [ha j hf] at hc'
  injection hc' with hc'
  injection hc' with _ hc'
  subst hc'
  rfl
theorem NumS.put {w : World} {b n : Nat} {f : ByteArray → Option Nat} (h : NumS w b n f) (hn : n ≤ 4096) {x : ByteArray} (hx : SOk x) (hf : f x = none) (j : Nat) (hj : j ≤ 4096) :
  ∃ w',(Instr.mapUpdate 76 (.map (some b)) (.string x) (.int .i64 (j : Int))).run Tryz.prog w = .ok () w' ∧ NumS w' b (n + 1) (fun y => if y = x then some j else f y) ∧ w.grownBy w' (some b) := by
 obtain ⟨D,h1,h2,h3,h4⟩ := h
 obtain ⟨hh,_⟩ := h4 x hx
 rw [hf] at hh
 obtain ⟨w',hrun,hown,hg⟩ := h1.update q3R Tryz.underlying76 (by unfold maxLen; omega) (q4h x hx) (plainElem_int (a := (j : Int)) Tryz.underlying3 (WalkArith.wf_i64 (by omega)))
 refine ⟨w',hrun,⟨_,hown,h2.put (q8u x) _,?_,fun y hy => ?_⟩,hg⟩
 ·rw [size_put h2,hh,h3]; rfl
 ·dsimp only
  by_cases e : y = x
  ·subst e
   rw [if_pos rfl]
   refine ⟨has_put_same h2.isMap (q8u y) _,fun i hi => ?_⟩
   injection hi with hi
   subst hi
   exact atKey_put_same h2.isMap (q8u y) _ _
  ·have ne : klS y ≠ klS x := fun he => e (qcl he)
   rw [if_neg e,has_put_other ne]
   refine ⟨(h4 y hy).1,fun i hi => ?_⟩
   rw [atKey_put_other ne]
   exact (h4 y hy).2 i hi
theorem NumS.drop {w : World} {b n : Nat} {f : ByteArray → Option Nat} (h : NumS w b n f) {x : ByteArray} (hx : SOk x) (hf : (f x).isSome = true) (ty : TypeId) :
  ∃ w',(Builtin.delete_ #[76,9] ty #[.map (some b),.string x]).run Tryz.prog w = .ok (.tuple #[]) w' ∧ NumS w' b (n - 1) (fun y => if y = x then none else f y) ∧ w.grownBy w' (some b) := by
 obtain ⟨D,h1,h2,h3,h4⟩ := h
 obtain ⟨hh,_⟩ := h4 x hx
 rw [hf] at hh
 obtain ⟨w',hrun,hown,ht⟩ := h1.drop q3R Tryz.underlying76 (q4h x hx) ty
 have hsz : Maps.size (D.del (klS x)) = n - 1 := by
  have := size_del (k := klS x) h2
  rw [hh] at this
  simp at this
  omega
 have hown' : w'.ownsMap Tryz.prog 9 (plainElem Tryz.prog 3) b (n - 1) (D.del (klS x)) := by
  obtain ⟨es,clock,g1,g2,g3,g4⟩ := hown
  refine ⟨es,clock,g1,g2,?_,g4⟩
  rw [← hsz,g4]
  simp [Maps.size,length_sorted]
 refine ⟨w',hrun,⟨_,hown',h2.del _,hsz,fun y hy => ?_⟩,ht.grown⟩
 dsimp only
 by_cases e : y = x
 ·subst e
  rw [if_pos rfl]
  exact ⟨has_del_same,fun i hi => by cases hi⟩
 ·have ne : klS y ≠ klS x := fun he => e (qcl he)
  rw [if_neg e,has_del_other ne]
  refine ⟨(h4 y hy).1,fun i hi => ?_⟩
  rw [atKey_del_other ne]
  exact (h4 y hy).2 i hi
theorem q6S (op : Nat) (w : World) (hop : op ≤ 23) : Calls Tryz.prog 46 #[.int .u8 (op : Int)] w fun e w' => e = .returned (.int .i64 (takO op : Int)) ∧ w' = w := by
 rcases q6t hop with rfl | rfl | rfl | rfl | rfl | rfl | rfl | rfl | rfl | rfl | rfl | rfl | rfl | rfl | rfl | rfl | rfl | rfl | rfl | rfl | rfl | rfl | rfl | rfl <;>
 ·go_enter Tryz.func46,Tryz.ntmps46
  go_wp2
  go_ret
  exact ⟨rfl,rfl⟩
theorem qU (k : Nat) (w : World) (hk : k ≤ 2) : Calls Tryz.prog 48 #[.int .u8 (k : Int),.int .u8 0] w fun e w' => e = .returned (.bool (isN k 0)) ∧ w' = w := by
 have : k = 0 ∨ k = 1 ∨ k = 2 := by omega
 rcases this with rfl | rfl | rfl <;>
 ·go_enter Tryz.func48,Tryz.ntmps48
  go_wp2
  go_ret
  exact ⟨rfl,rfl⟩
def KdSl (w : World) (a : Option Addr) (len cap : Nat) (ks : List Nat) : Prop := IntSl Tryz.prog 91 .u8 w a len cap (ks.map fun o : Nat => (o : Int))
theorem q1s {w : World} {a : Option Addr} {cap x : Nat} {r : List Nat} {n : Nat} (h : KdSl w a (n + 1) cap (x :: r)) : ∃ A,(∀ w',(Instr.indexAt 91 (.slice a (n + 1) cap) (.int .i64 0)).run Tryz.prog w' = .ok (.pointer (some A)) w') ∧ w.cell? A = some (.int .u8 (x : Int)) := ⟨adOf a 0,fun w' => IntSl.idx h (n + 1) 0 w' (by omega) (Nat.le_refl _),IntSl.cell h 0 (by omega)⟩
theorem q2X {w : World} {a : Option Addr} {cap x y : Nat} {r : List Nat} {n : Nat} (h : KdSl w a (n + 2) cap (x :: y :: r)) : ∃ A,(∀ w',(Instr.indexAt 91 (.slice a (n + 2) cap) (.int .i64 1)).run Tryz.prog w' = .ok (.pointer (some A)) w') ∧ w.cell? A = some (.int .u8 (y : Int)) := ⟨adOf a 1,fun w' => IntSl.idx h (n + 2) 1 w' (by omega) (Nat.le_refl _),IntSl.cell h 1 (by omega)⟩
theorem q1w (w : World) : Calls Tryz.prog 48 #[.int .u8 0,.int .u8 0] w fun e w' => e = .returned (.bool true) ∧ w' = w := qU 0 w (by decide)
theorem q1x (w : World) : Calls Tryz.prog 48 #[.int .u8 1,.int .u8 0] w fun e w' => e = .returned (.bool true) ∧ w' = w := qU 1 w (by decide)
theorem q1y (w : World) : Calls Tryz.prog 48 #[.int .u8 2,.int .u8 0] w fun e w' => e = .returned (.bool false) ∧ w' = w := qU 2 w (by decide)
def PutR (op : Nat) (ks : List Nat) (w : World) (e : Ending) (w' : World) : Prop := e = .returned (.tuple #[.int .u8 (kiMade op ks : Int),.bool (kiFit op ks)]) ∧ ∃ m,w' = w.drewN m
theorem qbE (a : Option Addr) (n c : Nat) (w : World) : Calls Tryz.prog 47 #[.int .u8 0,.slice a n c] w (PutR 0 [] w) := by
 go_enter Tryz.func47,Tryz.ntmps47
 go_wp2
 go_ret2
 exact ⟨rfl,0,rfl⟩
theorem qbF (a : Option Addr) (n c : Nat) (w : World) : Calls Tryz.prog 47 #[.int .u8 1,.slice a n c] w (PutR 1 [] w) := by
 go_enter Tryz.func47,Tryz.ntmps47
 go_wp2
 go_ret2
 exact ⟨rfl,0,rfl⟩
theorem qbG (a : Option Addr) (n c : Nat) (w : World) : Calls Tryz.prog 47 #[.int .u8 2,.slice a n c] w (PutR 2 [] w) := by
 go_enter Tryz.func47,Tryz.ntmps47
 go_wp2
 go_ret2
 exact ⟨rfl,0,rfl⟩
theorem qbH (a : Option Addr) (n c : Nat) (w : World) : Calls Tryz.prog 47 #[.int .u8 4,.slice a n c] w (PutR 4 [] w) := by
 go_enter Tryz.func47,Tryz.ntmps47
 go_wp2
 go_ret2
 exact ⟨rfl,0,rfl⟩
theorem qbI (a : Option Addr) (n c : Nat) (w : World) : Calls Tryz.prog 47 #[.int .u8 5,.slice a n c] w (PutR 5 [] w) := by
 go_enter Tryz.func47,Tryz.ntmps47
 go_wp2
 go_ret2
 exact ⟨rfl,0,rfl⟩
theorem qbJ (a : Option Addr) (c x : Nat) (w : World) (hx : x ≤ 2) (h : KdSl w a 1 c [x]) : Calls Tryz.prog 47 #[.int .u8 6,.slice a 1 c] w (PutR 6 [x] w) := by
 obtain ⟨⟨g0,o0,s0⟩,i0,c0⟩ := q1s h
 have hi := fun w' => qU x w' hx
 clear h
 have : x = 0 ∨ x = 1 ∨ x = 2 := by omega
 rcases this with rfl | rfl | rfl <;>
 ·clear hx
  go_enter Tryz.func47,Tryz.ntmps47
  go_wp2
  go_quiet (fail)
  go_wp2
  go_ret2
  exact ⟨rfl,by first | exact ⟨0,rfl⟩ | exact ⟨_,rfl⟩⟩
theorem qbK (a : Option Addr) (c x : Nat) (w : World) (hx : x ≤ 2) (h : KdSl w a 1 c [x]) : Calls Tryz.prog 47 #[.int .u8 7,.slice a 1 c] w (PutR 7 [x] w) := by
 obtain ⟨⟨g0,o0,s0⟩,i0,c0⟩ := q1s h
 have hi := fun w' => qU x w' hx
 clear h
 have : x = 0 ∨ x = 1 ∨ x = 2 := by omega
 rcases this with rfl | rfl | rfl <;>
 ·clear hx
  go_enter Tryz.func47,Tryz.ntmps47
  go_wp2_with (go_at_call 48; refine (hi _).mono ?_; rintro e w' ⟨rfl,rfl⟩)
  go_ret2
  exact ⟨rfl,by first | exact ⟨0,rfl⟩ | exact ⟨_,rfl⟩⟩
theorem qbL (a : Option Addr) (c x : Nat) (w : World) (hx : x ≤ 2) (h : KdSl w a 1 c [x]) : Calls Tryz.prog 47 #[.int .u8 8,.slice a 1 c] w (PutR 8 [x] w) := by
 obtain ⟨⟨g0,o0,s0⟩,i0,c0⟩ := q1s h
 have hi := fun w' => qU x w' hx
 clear h
 have : x = 0 ∨ x = 1 ∨ x = 2 := by omega
 rcases this with rfl | rfl | rfl <;>
 ·clear hx
  go_enter Tryz.func47,Tryz.ntmps47
  go_wp2_with (go_at_call 48; refine (hi _).mono ?_; rintro e w' ⟨rfl,rfl⟩)
  go_ret2
  exact ⟨rfl,by first | exact ⟨0,rfl⟩ | exact ⟨_,rfl⟩⟩
theorem qaq (a : Option Addr) (c x : Nat) (w : World) (hx : x ≤ 2) (h : KdSl w a 1 c [x]) : Calls Tryz.prog 47 #[.int .u8 19,.slice a 1 c] w (PutR 19 [x] w) := by
 obtain ⟨⟨g0,o0,s0⟩,i0,c0⟩ := q1s h
 have hi := fun w' => qU x w' hx
 clear h
 have : x = 0 ∨ x = 1 ∨ x = 2 := by omega
 rcases this with rfl | rfl | rfl <;>
 ·clear hx
  go_enter Tryz.func47,Tryz.ntmps47
  go_wp2
  go_quiet (fail)
  go_wp2
  go_ret2
  exact ⟨rfl,by first | exact ⟨0,rfl⟩ | exact ⟨_,rfl⟩⟩
theorem qar (a : Option Addr) (c x : Nat) (w : World) (hx : x ≤ 2) (h : KdSl w a 1 c [x]) : Calls Tryz.prog 47 #[.int .u8 20,.slice a 1 c] w (PutR 20 [x] w) := by
 obtain ⟨⟨g0,o0,s0⟩,i0,c0⟩ := q1s h
 have hi := fun w' => qU x w' hx
 clear h
 have : x = 0 ∨ x = 1 ∨ x = 2 := by omega
 rcases this with rfl | rfl | rfl <;>
 ·clear hx
  go_enter Tryz.func47,Tryz.ntmps47
  go_wp2_with (go_at_call 48; refine (hi _).mono ?_; rintro e w' ⟨rfl,rfl⟩)
  go_ret2
  exact ⟨rfl,by first | exact ⟨0,rfl⟩ | exact ⟨_,rfl⟩⟩
theorem qau (a : Option Addr) (c x : Nat) (w : World) (hx : x ≤ 2) (h : KdSl w a 1 c [x]) : Calls Tryz.prog 47 #[.int .u8 23,.slice a 1 c] w (PutR 23 [x] w) := by
 obtain ⟨⟨g0,o0,s0⟩,i0,c0⟩ := q1s h
 have hi := fun w' => qU x w' hx
 clear h
 have : x = 0 ∨ x = 1 ∨ x = 2 := by omega
 rcases this with rfl | rfl | rfl <;>
 ·clear hx
  go_enter Tryz.func47,Tryz.ntmps47
  go_wp2
  go_quiet (fail)
  go_wp2
  go_ret2
  exact ⟨rfl,by first | exact ⟨0,rfl⟩ | exact ⟨_,rfl⟩⟩
theorem qak (a : Option Addr) (c x y : Nat) (w : World) (hx : x ≤ 2) (hy : y ≤ 2) (h : KdSl w a 2 c [x,y]) : Calls Tryz.prog 47 #[.int .u8 11,.slice a 2 c] w (PutR 11 [x,y] w) := by
 obtain ⟨⟨g0,o0,s0⟩,i0,c0⟩ := q1s h
 obtain ⟨⟨g1,o1,s1⟩,i1,c1⟩ := q2X h
 have h0 := q1w
 have h1 := q1x
 have h2 := q1y
 clear h
 have hxx : x = 0 ∨ x = 1 ∨ x = 2 := by omega
 have hyy : y = 0 ∨ y = 1 ∨ y = 2 := by omega
 rcases hxx with rfl | rfl | rfl <;> rcases hyy with rfl | rfl | rfl <;>
 ·clear hx hy
  go_enter Tryz.func47,Tryz.ntmps47
  go_wp2_with (go_at_call 48; (with_reducible first | refine (h0 _).mono ?_ | refine (h1 _).mono ?_ | refine (h2 _).mono ?_); rintro e w' ⟨rfl,rfl⟩)
  go_ret2
  exact ⟨rfl,by first | exact ⟨0,rfl⟩ | exact ⟨_,rfl⟩⟩
theorem qal (a : Option Addr) (c x y : Nat) (w : World) (hx : x ≤ 2) (hy : y ≤ 2) (h : KdSl w a 2 c [x,y]) : Calls Tryz.prog 47 #[.int .u8 12,.slice a 2 c] w (PutR 12 [x,y] w) := by
 obtain ⟨⟨g0,o0,s0⟩,i0,c0⟩ := q1s h
 obtain ⟨⟨g1,o1,s1⟩,i1,c1⟩ := q2X h
 have h0 := q1w
 have h1 := q1x
 have h2 := q1y
 clear h
 have hxx : x = 0 ∨ x = 1 ∨ x = 2 := by omega
 have hyy : y = 0 ∨ y = 1 ∨ y = 2 := by omega
 rcases hxx with rfl | rfl | rfl <;> rcases hyy with rfl | rfl | rfl <;>
 ·clear hx hy
  go_enter Tryz.func47,Tryz.ntmps47
  go_wp2_with (go_at_call 48; (with_reducible first | refine (h0 _).mono ?_ | refine (h1 _).mono ?_ | refine (h2 _).mono ?_); rintro e w' ⟨rfl,rfl⟩)
  go_ret2
  exact ⟨rfl,by first | exact ⟨0,rfl⟩ | exact ⟨_,rfl⟩⟩
theorem qam (a : Option Addr) (c x y : Nat) (w : World) (hx : x ≤ 2) (hy : y ≤ 2) (h : KdSl w a 2 c [x,y]) : Calls Tryz.prog 47 #[.int .u8 15,.slice a 2 c] w (PutR 15 [x,y] w) := by
 obtain ⟨⟨g0,o0,s0⟩,i0,c0⟩ := q1s h
 obtain ⟨⟨g1,o1,s1⟩,i1,c1⟩ := q2X h
 have h0 := q1w
 have h1 := q1x
 have h2 := q1y
 clear h
 have hxx : x = 0 ∨ x = 1 ∨ x = 2 := by omega
 have hyy : y = 0 ∨ y = 1 ∨ y = 2 := by omega
 rcases hxx with rfl | rfl | rfl <;> rcases hyy with rfl | rfl | rfl <;>
 ·clear hx hy
  go_enter Tryz.func47,Tryz.ntmps47
  go_wp2_with (go_at_call 48; (with_reducible first | refine (h0 _).mono ?_ | refine (h1 _).mono ?_ | refine (h2 _).mono ?_); rintro e w' ⟨rfl,rfl⟩)
  go_ret2
  exact ⟨rfl,by first | exact ⟨0,rfl⟩ | exact ⟨_,rfl⟩⟩
theorem qan (a : Option Addr) (c x y : Nat) (w : World) (hx : x ≤ 2) (hy : y ≤ 2) (h : KdSl w a 2 c [x,y]) : Calls Tryz.prog 47 #[.int .u8 16,.slice a 2 c] w (PutR 16 [x,y] w) := by
 obtain ⟨⟨g0,o0,s0⟩,i0,c0⟩ := q1s h
 obtain ⟨⟨g1,o1,s1⟩,i1,c1⟩ := q2X h
 have h0 := q1w
 have h1 := q1x
 have h2 := q1y
 clear h
 have hxx : x = 0 ∨ x = 1 ∨ x = 2 := by omega
 have hyy : y = 0 ∨ y = 1 ∨ y = 2 := by omega
 rcases hxx with rfl | rfl | rfl <;> rcases hyy with rfl | rfl | rfl <;>
 ·clear hx hy
  go_enter Tryz.func47,Tryz.ntmps47
  go_wp2_with (go_at_call 48; (with_reducible first | refine (h0 _).mono ?_ | refine (h1 _).mono ?_ | refine (h2 _).mono ?_); rintro e w' ⟨rfl,rfl⟩)
  go_ret2
  exact ⟨rfl,by first | exact ⟨0,rfl⟩ | exact ⟨_,rfl⟩⟩
theorem qao (a : Option Addr) (c x y : Nat) (w : World) (hx : x ≤ 2) (hy : y ≤ 2) (h : KdSl w a 2 c [x,y]) : Calls Tryz.prog 47 #[.int .u8 17,.slice a 2 c] w (PutR 17 [x,y] w) := by
 obtain ⟨⟨g0,o0,s0⟩,i0,c0⟩ := q1s h
 obtain ⟨⟨g1,o1,s1⟩,i1,c1⟩ := q2X h
 have h0 := q1w
 have h1 := q1x
 have h2 := q1y
 clear h
 have hxx : x = 0 ∨ x = 1 ∨ x = 2 := by omega
 have hyy : y = 0 ∨ y = 1 ∨ y = 2 := by omega
 rcases hxx with rfl | rfl | rfl <;> rcases hyy with rfl | rfl | rfl <;>
 ·clear hx hy
  go_enter Tryz.func47,Tryz.ntmps47
  go_wp2_with (go_at_call 48; (with_reducible first | refine (h0 _).mono ?_ | refine (h1 _).mono ?_ | refine (h2 _).mono ?_); rintro e w' ⟨rfl,rfl⟩)
  go_ret2
  exact ⟨rfl,by first | exact ⟨0,rfl⟩ | exact ⟨_,rfl⟩⟩
theorem qap (a : Option Addr) (c x y : Nat) (w : World) (hx : x ≤ 2) (hy : y ≤ 2) (h : KdSl w a 2 c [x,y]) : Calls Tryz.prog 47 #[.int .u8 18,.slice a 2 c] w (PutR 18 [x,y] w) := by
 obtain ⟨⟨g0,o0,s0⟩,i0,c0⟩ := q1s h
 obtain ⟨⟨g1,o1,s1⟩,i1,c1⟩ := q2X h
 have h0 := q1w
 have h1 := q1x
 have h2 := q1y
 clear h
 have hxx : x = 0 ∨ x = 1 ∨ x = 2 := by omega
 have hyy : y = 0 ∨ y = 1 ∨ y = 2 := by omega
 rcases hxx with rfl | rfl | rfl <;> rcases hyy with rfl | rfl | rfl <;>
 ·clear hx hy
  go_enter Tryz.func47,Tryz.ntmps47
  go_wp2_with (go_at_call 48; (with_reducible first | refine (h0 _).mono ?_ | refine (h1 _).mono ?_ | refine (h2 _).mono ?_); rintro e w' ⟨rfl,rfl⟩)
  go_ret2
  exact ⟨rfl,by first | exact ⟨0,rfl⟩ | exact ⟨_,rfl⟩⟩
theorem qas (a : Option Addr) (c x y : Nat) (w : World) (hx : x ≤ 2) (hy : y ≤ 2) (h : KdSl w a 2 c [x,y]) : Calls Tryz.prog 47 #[.int .u8 21,.slice a 2 c] w (PutR 21 [x,y] w) := by
 obtain ⟨⟨g0,o0,s0⟩,i0,c0⟩ := q1s h
 obtain ⟨⟨g1,o1,s1⟩,i1,c1⟩ := q2X h
 have h0 := q1w
 have h1 := q1x
 have h2 := q1y
 clear h
 have hxx : x = 0 ∨ x = 1 ∨ x = 2 := by omega
 have hyy : y = 0 ∨ y = 1 ∨ y = 2 := by omega
 rcases hxx with rfl | rfl | rfl <;> rcases hyy with rfl | rfl | rfl <;>
 ·clear hx hy
  go_enter Tryz.func47,Tryz.ntmps47
  go_wp2
  go_quiet (fail)
  go_wp2
  go_ret2
  exact ⟨rfl,by first | exact ⟨0,rfl⟩ | exact ⟨_,rfl⟩⟩
theorem qat (a : Option Addr) (c x y : Nat) (w : World) (hx : x ≤ 2) (hy : y ≤ 2) (h : KdSl w a 2 c [x,y]) : Calls Tryz.prog 47 #[.int .u8 22,.slice a 2 c] w (PutR 22 [x,y] w) := by
 obtain ⟨⟨g0,o0,s0⟩,i0,c0⟩ := q1s h
 obtain ⟨⟨g1,o1,s1⟩,i1,c1⟩ := q2X h
 have h0 := q1w
 have h1 := q1x
 have h2 := q1y
 clear h
 have hxx : x = 0 ∨ x = 1 ∨ x = 2 := by omega
 have hyy : y = 0 ∨ y = 1 ∨ y = 2 := by omega
 rcases hxx with rfl | rfl | rfl <;> rcases hyy with rfl | rfl | rfl <;>
 ·clear hx hy
  go_enter Tryz.func47,Tryz.ntmps47
  go_wp2
  go_quiet (fail)
  go_wp2
  go_ret2
  exact ⟨rfl,by first | exact ⟨0,rfl⟩ | exact ⟨_,rfl⟩⟩
theorem qaV {ts : List Tk} {k : Nat} (h : k < ts.length) (hp : fewL false (ts.take k) = true) : fewL false (ts.take (k + 1)) = fewAt (lastP false (ts.take k)) ts[k].1 ts[k].2 := by
 rw [List.take_add_one,List.getElem?_eq_getElem h]
 show fewL false (ts.take k ++ [ts[k]]) = _
 rw [q2L,hp,q3q,Bool.true_and]
theorem q8j {ts : List Tk} {k : Nat} (h : fewL false (ts.take k) = false) : fewL false ts = false := by
 have : fewL false (ts.take k ++ ts.drop k) = false := by rw [q2L,h,Bool.false_and]
 rwa [List.take_append_drop] at this
theorem qfL {ts : List Tk} {k : Nat} (h : k + 1 ≤ ts.length) : lastP false (ts.take (k + 1)) = decide ((ts[k]'(by omega)).1 = 2) := by
 rw [List.take_add_one,List.getElem?_eq_getElem (by omega)]
 show lastP false (ts.take k ++ [ts[k]]) = _
 rw [q4w]
theorem few_a {b : Bool} {op p : Nat} (h : op ≠ 2) (h3 : op ≠ 3) (h9 : op ≠ 9) (h10 : op ≠ 10) (h13 : op ≠ 13) (h14 : op ≠ 14) (h6 : op = 6 → b = true) : fewAt b op p = (decide (op ≤ 23) && decide (p = 0)) := by
 unfold fewAt
 rw [if_neg h,if_neg (by omega),if_neg]
 rintro ⟨e,e'⟩
 rw [h6 e] at e'
 cases e'
theorem q9C (a : Option Addr) (len cap : Nat) (ts : List Tk) (w : World) (hT : TkSl w a len cap ts) (hln : len ≤ 1000000) :
  Calls Tryz.prog 26 #[.slice a len cap] w fun e w' => e = .returned (.bool (fewL false ts)) ∧ Below w.heap.size w w' := by
 have hlen := hT.hlen
 have HT : Hid (TkSl w a len cap ts) := hT
 have HLEN : Hid (ts.length = len) := hlen
 clear hT hlen
 go_enter Tryz.func26,Tryz.ntmps26
 go_wp2
 go_loopw [7] (fun i wr => ∃ k : Nat,k ≤ len ∧ i = .int .i64 k ∧ Hid (fewL false (ts.take k) = true) ∧ Hid (Below w.heap.size w wr)) (fun i _ => len - (intOf i).toNat)
 case atStart => exact ⟨0,Nat.zero_le _,rfl,rfl,Below.refl _ _⟩
 case round =>
  obtain ⟨k,hk,rfl,HF,HW⟩ := hrel
  by_cases hlt : k < len
  ·have hxl : k < ts.length := by have := HLEN.out; omega
   obtain ⟨g1,o1,s1,hi1,hx0,hx1,hg1,_⟩ := (HT.out.up HW.out).at Tryz.underlying22 q1U k hlt
   have hidx := fun w' => hi1 len w' hlt
   clear hi1
   have HNX : Hid (fewL false (ts.take (k + 1)) = fewAt (lastP false (ts.take k)) ts[k].1 ts[k].2) := qaV hxl HF.out
   have HOFF : Hid (fewL false (ts.take (k + 1)) = false → fewL false ts = false) := fun h => q8j h
   have hpv : k = 0 ∨ ∃ j,j + 1 = k ∧ ∃ (g2 o2 : Nat) (s2 : _) (q : Nat),(∀ w',(Instr.indexAt 22 (.slice a len cap) (.int .i64 (j : Int))).run Tryz.prog w' = .ok (.pointer (some ⟨g2,o2,s2⟩)) w') ∧ wr.cell? ⟨g2,o2,s2⟩ = some (.int .u8 (q : Int)) ∧ lastP false (ts.take k) = decide (q = 2) := by
    cases k with
    | zero => exact Or.inl rfl
    | succ j =>
     obtain ⟨g2,o2,s2,hi2,hy0,_,_⟩ := (HT.out.up HW.out).at Tryz.underlying22 q1U j (by omega)
     exact Or.inr ⟨j,rfl,g2,o2,s2,_,fun w' => hi2 len w' (by omega),hy0,qfL (by omega)⟩
   have HPV : Hid _ := hpv
   clear hpv
   have HB1 : Hid (Below w.heap.size w (wr.alloc (.cells #[.int .u8 (ts[k].1 : Int),.int .u8 (ts[k].2 : Int)] 90))) := qe HW.out (qd _ _)
   generalize ts[k] = q at *
   obtain ⟨op,p⟩ := q
   dsimp only at hx0 hx1 HNX HB1
   by_cases e2 : op = 2
   ·subst e2
    clear HPV
    have HNX2 : Hid (fewL false (ts.take (k + 1)) = decide (p < 8)) := HNX.out
    clear HNX
    by_cases hp : p < 8
    ·have HZ : Hid (fewL false (ts.take (k + 1)) = true) := HNX2.out.trans (decide_eq_true hp)
     have q8 : ¬ (8 : Int) ≤ (p : Int) := by omega
     go_wp2
     go_roundw
     case rel => exact ⟨k + 1,by omega,by go_num,HZ,HB1⟩
     case measure => simp [intOf] <;> omega
    ·have HZ : Hid (fewL false (ts.take (k + 1)) = false) := HNX2.out.trans (decide_eq_false hp)
     have q8 : (8 : Int) ≤ (p : Int) := by omega
     go_wp2
     go_ret
     exact ⟨by rw [HOFF.out HZ.out]; rfl,HB1.out⟩
   have q2 : ((op : Int) == 2) = false := by rw [beq_eq_false_iff_ne]; omega
   by_cases e3 : op = 3
   ·subst e3
    have HZ : Hid (fewL false (ts.take (k + 1)) = false) := HNX.out
    clear HPV HNX q2
    go_wp2
    go_ret
    exact ⟨by rw [HOFF.out HZ.out]; rfl,HB1.out⟩
   by_cases e9 : op = 9
   ·subst e9
    have HZ : Hid (fewL false (ts.take (k + 1)) = false) := HNX.out
    clear HPV HNX q2
    go_wp2
    go_ret
    exact ⟨by rw [HOFF.out HZ.out]; rfl,HB1.out⟩
   by_cases e10 : op = 10
   ·subst e10
    have HZ : Hid (fewL false (ts.take (k + 1)) = false) := HNX.out
    clear HPV HNX q2
    go_wp2
    go_ret
    exact ⟨by rw [HOFF.out HZ.out]; rfl,HB1.out⟩
   by_cases e13 : op = 13
   ·subst e13
    have HZ : Hid (fewL false (ts.take (k + 1)) = false) := HNX.out
    clear HPV HNX q2
    go_wp2
    go_ret
    exact ⟨by rw [HOFF.out HZ.out]; rfl,HB1.out⟩
   by_cases e14 : op = 14
   ·subst e14
    have HZ : Hid (fewL false (ts.take (k + 1)) = false) := HNX.out
    clear HPV HNX q2
    go_wp2
    go_ret
    exact ⟨by rw [HOFF.out HZ.out]; rfl,HB1.out⟩
   have q3 : ((op : Int) == 3) = false := by rw [beq_eq_false_iff_ne]; omega
   have q9 : ((op : Int) == 9) = false := by rw [beq_eq_false_iff_ne]; omega
   have q10 : ((op : Int) == 10) = false := by rw [beq_eq_false_iff_ne]; omega
   have q13 : ((op : Int) == 13) = false := by rw [beq_eq_false_iff_ne]; omega
   have q14 : ((op : Int) == 14) = false := by rw [beq_eq_false_iff_ne]; omega
   by_cases e6 : op = 6
   ·subst e6
    clear q2 q3 q9 q10 q13 q14
    rcases HPV.out with hk0 | ⟨j,hjk,g2,o2,s2,q,hj,hc,hl⟩
    ·have HZ : Hid (fewL false (ts.take (k + 1)) = false) := by show _ = _; rw [HNX.out,hk0]; rfl
     have hn0 : ((k : Int) == 0) = true := by rw [beq_iff_eq]; omega
     clear hk0
     clear HPV HNX
     go_wp2
     go_ret
     exact ⟨by rw [HOFF.out HZ.out]; rfl,HB1.out⟩
    ·have hsub : IntKind.i64.wrap ((k : Int) - 1) = (j : Int) := by rw [IntKind.wrap_i64]; omega
     have hn0 : ((k : Int) == 0) = false := by rw [beq_eq_false_iff_ne]; omega
     have HL : Hid _ := hl
     clear hl HPV
     have hcA : ∀ o,(wr.alloc o).cell? ⟨g2,o2,s2⟩ = some (.int .u8 (q : Int)) := fun o => qn hc (qd _ _)
     by_cases hq : q = 2
     ·subst hq
      have hfa := few_a (b := true) (op := 6) (p := p) (by decide) (by decide) (by decide) (by decide) (by decide) (by decide) (fun _ => rfl)
      have HNX2 : Hid (fewL false (ts.take (k + 1)) = decide (p = 0)) := by show _ = _; rw [HNX.out,HL.out]; exact hfa
      clear HNX hfa HL
      by_cases hp : p = 0
      ·subst hp
       have HZ : Hid (fewL false (ts.take (k + 1)) = true) := HNX2.out
       go_wp2
       go_roundw
       case rel => exact ⟨k + 1,by omega,by go_num,HZ,HB1⟩
       case measure => simp [intOf] <;> omega
      ·have HZ : Hid (fewL false (ts.take (k + 1)) = false) := HNX2.out.trans (decide_eq_false hp)
       have q0 : ((p : Int) == 0) = false := by rw [beq_eq_false_iff_ne]; omega
       have q0n : ((p : Int) != 0) = true := by rw [bne_iff_ne]; omega
       go_wp2
       go_ret
       exact ⟨by rw [HOFF.out HZ.out]; rfl,HB1.out⟩
     ·have HZ : Hid (fewL false (ts.take (k + 1)) = false) := by show _ = _; rw [HNX.out,HL.out,decide_eq_false hq]; rfl
      have qq : ((q : Int) == 2) = false := by rw [beq_eq_false_iff_ne]; omega
      have qqn : ((q : Int) != 2) = true := by rw [bne_iff_ne]; omega
      clear HNX HL
      go_wp2
      go_ret
      exact ⟨by rw [HOFF.out HZ.out]; rfl,HB1.out⟩
   have q6 : ((op : Int) == 6) = false := by rw [beq_eq_false_iff_ne]; omega
   have HNX2 : Hid (fewL false (ts.take (k + 1)) = (decide (op ≤ 23) && decide (p = 0))) := HNX.out.trans (few_a e2 e3 e9 e10 e13 e14 (fun h => absurd h e6))
   clear HNX HPV
   by_cases h23 : op ≤ 23
   ·have q23 : ¬ (23 : Int) < (op : Int) := by omega
    by_cases hp : p = 0
    ·subst hp
     have HZ : Hid (fewL false (ts.take (k + 1)) = true) := by show _ = _; rw [HNX2.out,decide_eq_true h23]; rfl
     go_wp2
     go_roundw
     case rel => exact ⟨k + 1,by omega,by go_num,HZ,HB1⟩
     case measure => simp [intOf] <;> omega
    ·have HZ : Hid (fewL false (ts.take (k + 1)) = false) := by show _ = _; rw [HNX2.out,decide_eq_false hp,Bool.and_false]
     have q0 : ((p : Int) == 0) = false := by rw [beq_eq_false_iff_ne]; omega
     have q0n : ((p : Int) != 0) = true := by rw [bne_iff_ne]; omega
     go_wp2
     go_ret
     exact ⟨by rw [HOFF.out HZ.out]; rfl,HB1.out⟩
   ·have q23 : (23 : Int) < (op : Int) := by omega
    have HZ : Hid (fewL false (ts.take (k + 1)) = false) := by show _ = _; rw [HNX2.out,decide_eq_false h23]; rfl
    go_wp2
    go_ret
    exact ⟨by rw [HOFF.out HZ.out]; rfl,HB1.out⟩
  ·obtain rfl : k = len := by omega
   have HZ : Hid (fewL false ts = true) := by
    show _ = _
    have := HF.out
    rwa [List.take_of_length_le (by have := HLEN.out; omega)] at this
   go_wp2
   go_ret
   exact ⟨by rw [HZ.out]; rfl,HW.out⟩
end Go.Proofs.YtailhklbmenaoaaGreatDoor
