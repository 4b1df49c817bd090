/- Texts of the proof, put together: what it uses. -/
import Derived.Test.YtejekdenpefoiaaGreatDoorY01
import Derived.Test.YtejekdenpefoiaaGreatDoorY02
import Derived.Test.YtejekdenpefoiaaGreatDoorY03
import Derived.Test.YtejekdenpefoiaaGreatDoorY05
import Derived.Test.YtejekdenpefoiaaGreatDoorY06
import Derived.Test.YtejekdenpefoiaaGreatDoorY09
set_option maxRecDepth 100000
set_option maxHeartbeats 16000000
namespace Go.Proofs.YtejekdenpefoiaaGreatDoor
open Go.RowKit Go.Maps
theorem qaB {w : World} {F : Nat → Prop} {a : Option Addr} {n c : Nat} {l : List Nat} {b : Nat} (h : US w F a n c l) {e : Int} (hb : Erc w b e) : ∀ k,k < n → (adOf a k).block ≠ b := fun k hk e => by
 have hc := h.sl.cell k hk
 unfold Erc at hb
 unfold World.cell? at hc
 rw [e,hb] at hc
 simp at hc
 match ho : (adOf a k).off,hc with
 | 0,hc => simp at hc
 | j + 1,hc => simp at hc
theorem US.grown {w w' : World} {F : Nat → Prop} {a : Option Addr} {n c : Nat} {l : List Nat} {b : Nat} (h : US w F a n c l) (hg : w.grownBy w' (some b)) (hb : ∀ k,k < n → (adOf a k).block ≠ b) : US w' F a n c l := by
 have hs := h.sl
 refine ⟨⟨hs.hlen,hs.hcap,hs.bd,hs.idx,fun k hk => ?_,fun k hk => Nat.lt_of_lt_of_le (hs.blk k hk) hg.size,hs.nn⟩,h.nf⟩
 have := hs.cell k hk
 unfold World.cell? at this ⊢
 rw [hg.block _ (hs.blk k hk) (fun e => hb k hk (by injection e))]
 exact this
def StP (T0 : Tr) (p : Nat) (vs : Value) (w : World) (F : Nat → Prop) (b3 E : Nat) (R : Rt) (w' : World) : Prop :=
 ∃ (L : List Nat) (M' : Mt) (q : Option Addr) (d : Nat) (F' : Nat → Prop) (items' : List It),R = some (L,M') ∧ w'.heap[b3]? = some (.cells #[.slice q L.length d] 33 (0,0)) ∧ PgO T0 w' F' p vs items' M' ∧ US w' F' q L.length d L ∧ ¬ F' E ∧ (∀ k,k < L.length → (adOf q k).block ≠ E) ∧ Fr w w' (fun k => F k ∨ k = b3 ∨ k = E) F' ∧ ∀ k,k < L.length → w.heap.size ≤ (adOf q k).block
def StN (T0 : Tr) (p : Nat) (vs : Value) (w : World) (F : Nat → Prop) (M : Mt) (b3 E : Nat) (R : Rt) (w' : World) : Prop :=
 R = none ∧ ∃ (M' : Mt) (F' : Nat → Prop) (items' : List It),PgO T0 w' F' p vs items' M' ∧ M <+: M' ∧ ¬ F' E ∧ Fr w w' (fun k => F k ∨ k = b3 ∨ k = E) F'
theorem StP.grown {T0 : Tr} {p : Nat} {vs : Value} {w w1 w2 : World} {F : Nat → Prop} {b3 E : Nat} {R : Rt} (h : StP T0 p vs w F b3 E R w1) (hg : w1.grownBy w2 (some E)) (hbE : b3 ≠ E) (hb3 : b3 < w1.heap.size) : StP T0 p vs w F b3 E R w2 := by
 obtain ⟨L,M',q,d,F',i',h1,h2,h3,h4,h5,h6,h7,h8⟩ := h
 refine ⟨L,M',q,d,F',i',h1,(hg.block b3 hb3 (fun e => hbE (by injection e))).trans h2,h3.far fun k hk => hg.block k (h3.lt k hk) (fun e => h5 (by injection e with e; exact e ▸ hk)),h4.grown hg h6,h5,h6,⟨hg.os.trans h7.os,hg.tape.trans h7.tape,hg.output.trans h7.output,Nat.le_trans h7.size hg.size,fun k hk hF => (hg.block k (Nat.lt_of_lt_of_le hk h7.size) (fun e => hF (Or.inr (Or.inr (by injection e))))).trans (h7.keep k hk hF),h7.foot⟩,h8⟩
theorem StN.grown {T0 : Tr} {p : Nat} {vs : Value} {w w1 w2 : World} {F : Nat → Prop} {M : Mt} {b3 E : Nat} {R : Rt} (h : StN T0 p vs w F M b3 E R w1) (hg : w1.grownBy w2 (some E)) : StN T0 p vs w F M b3 E R w2 := by
 obtain ⟨h1,M',F',i',h3,hM,h5,h7⟩ := h
 exact ⟨h1,M',F',i',h3.far fun k hk => hg.block k (h3.lt k hk) (fun e => h5 (by injection e with e; exact e ▸ hk)),hM,h5,⟨hg.os.trans h7.os,hg.tape.trans h7.tape,hg.output.trans h7.output,Nat.le_trans h7.size hg.size,fun k hk hF => (hg.block k (Nat.lt_of_lt_of_le hk h7.size) (fun e => hF (Or.inr (Or.inr (by injection e))))).trans (h7.keep k hk hF),h7.foot⟩⟩
theorem q7r : EntersF 47 := fun _ _ => rfl
theorem q5n {T0 : Tr} {p : Nat} {vs : Value} {x : Nat} (hx8 : x < 256) {w : World} {F : Nat → Prop} {items : List It} {M : Mt} (h : PgO T0 w F p vs items M) (hT : Tab64 w) (hnG : ¬ F tabG) (a : Option Addr) (c : Nat) (l : List Nat) (hL : LH w F M a c l) (b0 b1 b2 b3 : Nat) (hV : StV w F p x a l.length c (.slice none 0 0) b0 b1 b2 b3) :
  Calls Tryz.prog 41 #[.func (.func 47) #[] #[.pointer (some ⟨b0,0,none⟩),.pointer (some ⟨b2,0,none⟩),.pointer (some ⟨b1,0,none⟩),.pointer (some ⟨b3,0,none⟩)]] w fun e w' =>
   (e = .returned (.int .i64 0) ∧ StP T0 p vs w F b3 w.heap.size (stepM fuelN x l [] M) w') ∨ (e = .returned (.int .i64 9) ∧ StN T0 p vs w F M b3 w.heap.size (stepM fuelN x l [] M) w') := by
 have h3l : b3 < w.heap.size := (Array.getElem?_eq_some_iff.1 hV.h3).1
 refine (q3m 47 _ w q7r (fun w' => StP T0 p vs w F b3 w.heap.size (stepM fuelN x l [] M) w' ∧ b3 < w'.heap.size) (fun w' => StN T0 p vs w F M b3 w.heap.size (stepM fuelN x l [] M) w') ?_ ?_ ?_).mono ?_
 ·rintro w1 w2 b ⟨hp,hb⟩ hg rfl
  exact ⟨hp.grown hg (by omega) hb,Nat.lt_of_lt_of_le hb hg.size⟩
 ·rintro w1 w2 b hp hg rfl
  exact hp.grown hg
 ·intro w0 hw0
  have hb : Below w.heap.size w w0 := by rw [hw0]; exact qe _ _
  have hE : Erc w0 w.heap.size 0 := by rw [hw0]; exact (MapKept.heap_alloc w _).1
  have hz : w0.heap.size = w.heap.size + 1 := by rw [hw0]; simp
  have hnE : ¬ F w.heap.size := fun e => Nat.lt_irrefl _ (h.lt _ e)
  refine (q6d hx8 (h.up hb) (hT.up hb) hnG a c l (hL.fr (Fr.ofBelow hb) (List.prefix_refl _)) b0 b1 b2 b3 (hV.fr (Fr.ofBelow hb))).mono ?_
  rintro e w' (⟨rfl,L,M',q,d,F',i',hs,h3,hO,hU,hn3,hp,hM,fr,hnw⟩ | ⟨rfl,hs,M',F',i',hO,hn3,hp,hM,fr,h3⟩)
  ·have hE' : Erc w' w.heap.size 0 := (fr.keep _ (by omega) (fun e => by rcases e with e | e; exact hnE e; omega)).trans hE
   have hnE' : ¬ F' w.heap.size := fr.out (fun e => by rcases e with e | e; exact hnE e; omega) (by omega)
   refine Or.inl ⟨rfl,⟨⟨L,M',q,d,F',i',hs,h3,hO,hU,hnE',qaB hU hE',?_,fun k hk => Nat.le_trans hb.size (hnw k hk)⟩,(Array.getElem?_eq_some_iff.1 h3).1⟩,hE'⟩
   exact ((Fr.ofBelow hb).trans fr).alike (fun k hk => by rcases hk with e | e; exact Or.inl e; exact Or.inr (Or.inl e)) (fun k hk => hk)
  ·have hE' : Erc w' w.heap.size 0 := (fr.keep _ (by omega) (fun e => by rcases e with e | e; exact hnE e; omega)).trans hE
   have hnE' : ¬ F' w.heap.size := fr.out (fun e => by rcases e with e | e; exact hnE e; omega) (by omega)
   refine Or.inr ⟨rfl,⟨hs,M',F',i',hO,hM,hnE',?_⟩,hE'⟩
   exact ((Fr.ofBelow hb).trans fr).alike (fun k hk => by rcases hk with e | e; exact Or.inl e; exact Or.inr (Or.inl e)) (fun k hk => hk)
 ·rintro e w' (⟨h1,h2⟩ | ⟨h1,h2⟩)
  ·exact Or.inl ⟨h1,h2.1⟩
  ·exact Or.inr ⟨h1,h2⟩
theorem qd1 {M M' : Mt} (h : M <+: M') : M'.take M.length = M := by
 obtain ⟨r,rfl⟩ := h
 simp
def StepR (T0 : Tr) (p : Nat) (vs : Value) (w : World) (F : Nat → Prop) (M : Mt) (R : Rt) (e : Ending) (w' : World) : Prop :=
 ∃ (F' : Nat → Prop) (items' : List It),Fr w w' F F' ∧ ((R = none ∧ e = .returned (.tuple #[.slice none 0 0,.int .i64 9]) ∧ PgO T0 w' F' p vs items' M) ∨
  ∃ (L : List Nat) (M' : Mt) (q : Option Addr) (d : Nat),R = some (L,M') ∧ e = .returned (.tuple #[.slice q L.length d,.int .i64 0]) ∧ US w' F' q L.length d L ∧ PgO T0 w' F' p vs items' M' ∧ ∀ k,k < L.length → w.heap.size ≤ (adOf q k).block)
theorem qca {w w4 w5 : World} {F F' : Nat → Prop} {b3 E : Nat} (hb : Below w.heap.size w w4) (fr : Fr w4 w5 (fun k => F k ∨ k = b3 ∨ k = E) F') (h3 : w.heap.size ≤ b3) (hE : w.heap.size ≤ E) : Fr w w5 F F' :=
 ⟨fr.os.trans hb.os,fr.tape.trans hb.tape,fr.output.trans hb.output,Nat.le_trans hb.size fr.size,fun k hk hF => (fr.keep k (Nat.lt_of_lt_of_le hk hb.size) (fun e => by rcases e with e | e | e; exact hF e; omega; omega)).trans (hb.block k hk),fun k hk => by
  have := hb.size
  rcases fr.foot k hk with (e | e | e) | e
  ·exact Or.inl e
  ·right; omega
  ·right; omega
  ·right; omega⟩
theorem q73 {T0 : Tr} {p : Nat} {vs : Value} {x : Nat} (hx8 : x < 256) {w : World} {F : Nat → Prop} {items : List It} {M : Mt} (h : PgO T0 w F p vs items M) (hT : Tab64 w) (hnG : ¬ F tabG) (a : Option Addr) (c : Nat) (l : List Nat) (hL : LH w F M a c l) :
  Calls Tryz.prog 15 #[.pointer (some ⟨p,0,none⟩),.slice a l.length c,.int .u8 (x : Int)] w (StepR T0 p vs w F M (stepM fuelN x l [] M)) := by
 obtain ⟨w1,hw1⟩ : ∃ w1,w1 = w.alloc (.cells #[.pointer (some ⟨p,0,none⟩)] 30) := ⟨_,rfl⟩
 obtain ⟨w2,hw2⟩ : ∃ w2,w2 = w1.alloc (.cells #[.slice a l.length c] 33) := ⟨_,rfl⟩
 obtain ⟨w3,hw3⟩ : ∃ w3,w3 = w2.alloc (.cells #[.int .u8 (x : Int)] 37) := ⟨_,rfl⟩
 obtain ⟨w4,hw4⟩ : ∃ w4,w4 = w3.alloc (.cells #[.slice none 0 0] 33) := ⟨_,rfl⟩
 have z1 : w1.heap.size = w.heap.size + 1 := by rw [hw1]; simp
 have z2 : w2.heap.size = w.heap.size + 1 + 1 := by rw [hw2]; simp [z1]
 have z3 : w3.heap.size = w.heap.size + 1 + 1 + 1 := by rw [hw3]; simp [z2]
 have z4 : w4.heap.size = w.heap.size + 1 + 1 + 1 + 1 := by rw [hw4]; simp [z3]
 have b1 : Below w.heap.size w w1 := by rw [hw1]; exact qe _ _
 have b2 : Below w1.heap.size w1 w2 := by rw [hw2]; exact qe _ _
 have b3 : Below w2.heap.size w2 w3 := by rw [hw3]; exact qe _ _
 have b4 : Below w3.heap.size w3 w4 := by rw [hw4]; exact qe _ _
 have hb3 : Below w.heap.size w w3 := qf (qf b1 b2) b3
 have hb4 : Below w.heap.size w w4 := qf hb3 b4
 have v0 : w1.heap[w.heap.size]? = some (.cells #[.pointer (some ⟨p,0,none⟩)] 30 (0,0)) := by rw [hw1]; exact (MapKept.heap_alloc w _).1
 have v1 : w2.heap[w.heap.size + 1]? = some (.cells #[.slice a l.length c] 33 (0,0)) := by rw [← z1,hw2]; exact (MapKept.heap_alloc w1 _).1
 have v2 : w3.heap[w.heap.size + 1 + 1]? = some (.cells #[.int .u8 (x : Int)] 37 (0,0)) := by rw [← z2,hw3]; exact (MapKept.heap_alloc w2 _).1
 have v3 : w4.heap[w.heap.size + 1 + 1 + 1]? = some (.cells #[.slice none 0 0] 33 (0,0)) := by rw [← z3,hw4]; exact (MapKept.heap_alloc w3 _).1
 have u0 : w3.heap[w.heap.size]? = some (.cells #[.pointer (some ⟨p,0,none⟩)] 30 (0,0)) := (b3.block _ (by omega)).trans ((b2.block _ (by omega)).trans v0)
 have u1 : w3.heap[w.heap.size + 1]? = some (.cells #[.slice a l.length c] 33 (0,0)) := (b3.block _ (by omega)).trans v1
 have hlt := h.lt
 have hV : StV w4 F p x a l.length c (.slice none 0 0) w.heap.size (w.heap.size + 1) (w.heap.size + 1 + 1) (w.heap.size + 1 + 1 + 1) := ⟨(b4.block _ (by omega)).trans u0,(b4.block _ (by omega)).trans u1,(b4.block _ (by omega)).trans v2,v3,fun e => by have := hlt _ e; omega,fun e => by have := hlt _ e; omega,fun e => by have := hlt _ e; omega,fun e => by have := hlt _ e; omega,by omega⟩
 have jm := q1L (h.up hb3)
 have hL3 := hL.fr (Fr.ofBelow (F := F) hb3) (List.prefix_refl _)
 have jk := q3w (h.up hb3) a c l hL3.us.sl (hL3.lst h.good).sm hL3.len
 have jc := q5n hx8 (h.up hb4) (hT.up hb4) hnG a c l (hL.fr (Fr.ofBelow hb4) (List.prefix_refl _)) _ _ _ _ hV
 obtain ⟨G,mn,vm,met,hr,hF⟩ := (h.up hb3).ex
 have c5 := hr.c5
 obtain ⟨ma,mc,rfl⟩ := qH hr.row
 rw [hr.met.1] at c5
 have q0 : w3.cell? ⟨w.heap.size,0,none⟩ = some (.pointer (some ⟨p,0,none⟩)) := qb u0 0
 have q1 : w3.cell? ⟨w.heap.size + 1,0,none⟩ = some (.slice a l.length c) := qb u1 0
 have HBD : Hid (BdL l M.length) := hL.bd
 have HH : Hid _ := h
 have HV : Hid _ := hV
 have HB4 : Hid _ := hb4
 have Z4 : Hid _ := z4
 obtain ⟨R,hR⟩ : ∃ R,R = stepM fuelN x l [] M := ⟨_,rfl⟩
 rw [← hR] at jc ⊢
 obtain ⟨Q,hQ⟩ : ∃ Q : Ending → World → Prop,Q = StepR T0 p vs w F M R := ⟨_,rfl⟩
 have HQ : Hid (∀ e w',StepR T0 p vs w F M R e w' → Q e w') := fun e w' h => by rw [hQ]; exact h
 rw [← hQ]
 clear h hT hnG hL hL3 hV hlt hr hF hR hQ b1 b2 b3 b4 hb3 hb4 v0 v1 v2 v3 u0 u1
 have HW1 : Hid _ := hw1
 have HW2 : Hid _ := hw2
 have HW3 : Hid _ := hw3
 have HW4 : Hid _ := hw4
 have Z3 : Hid _ := z3
 clear hw1 hw2 hw3 hw4 z1 z2 z3 z4
 generalize l.length = n at *
 go_enter Tryz.func15,Tryz.ntmps15
 go_wp2_with fail
 rw [← HW1.out,← HW2.out,← HW3.out]
 refine jm.mono ?_
 rintro e w5 ⟨rfl,hw5⟩
 obtain rfl := hw5.symm
 clear jm
 go_wp2_with fail
 refine jk.mono ?_
 rintro e w5 ⟨⟨b,rfl,hbd⟩,hw5⟩
 obtain rfl := hw5.symm
 have hbt : b = true := hbd.2 HBD.out
 subst hbt
 clear jk hbd
 go_wp2_with fail
 rw [← HW4.out,Z3.out]
 refine jc.mono ?_
 clear jc
 rintro e w5 (⟨rfl,L,M',q,d,F',i',hs,h3,hO,hU,hnE,hoff,fr,hnw⟩ | ⟨rfl,hs,M',F',i',hO,hM,hnE,fr⟩)
 ·have r3 : w5.cell? ⟨w.heap.size + 1 + 1 + 1,0,none⟩ = some (.slice q L.length d) := qb h3 0
  have HE : Hid (Q (.returned (.tuple #[.slice q L.length d,.int .i64 0])) w5) := HQ.out _ _ ⟨F',i',qca HB4.out fr (by omega) (by rw [Z4.out]; omega),Or.inr ⟨L,M',q,d,hs,rfl,hU,hO,fun k hk => Nat.le_trans HB4.out.size (hnw k hk)⟩⟩
  clear hs h3 hO hU hnE hoff fr hnw
  go_wp2
  exact HE.out
 ·have r0 : w5.heap[w.heap.size]? = some (.cells #[.pointer (some ⟨p,0,none⟩)] 30 (0,0)) := (fr.keep _ (by rw [Z4.out]; omega) (fun e => by rcases e with e | e | e; exact HV.out.n0 e; omega; rw [Z4.out] at e; omega)).trans HV.out.h0
  have rc : w5.cell? ⟨w.heap.size,0,none⟩ = some (.pointer (some ⟨p,0,none⟩)) := qb r0 0
  have jf := q5w hO M.length hM.length_le
  have HFR : Hid (Fr w w5 F F') := qca HB4.out fr (by omega) (by rw [Z4.out]; omega)
  rw [qd1 hM] at jf
  clear r0 hO hnE fr
  go_wp2_with fail
  refine jf.mono ?_
  rintro e w6 ⟨rfl,F6,hO6,fr6⟩
  have HE : Hid (Q (.returned (.tuple #[.slice none 0 0,.int .i64 9])) w6) := HQ.out _ _ ⟨F6,i',HFR.out.trans fr6,Or.inl ⟨hs,rfl,hO6⟩⟩
  clear jf hs hO6 fr6
  go_wp2
  exact HE.out
theorem q6X {T0 : Tr} {p : Nat} {vs : Value} {x : Nat} {w : World} {F : Nat → Prop} {items : List It} {M : Mt} (h : PgO T0 w F p vs items M) (a : Option Addr) (c : Nat) (l : List Nat) (hU : US w F a l.length c l) (sm : Sm l) (hl : l.length ≤ 1024) (hbd : ¬ BdL l M.length) :
  Calls Tryz.prog 15 #[.pointer (some ⟨p,0,none⟩),.slice a l.length c,.int .u8 (x : Int)] w fun e w' => e = .returned (.tuple #[.slice none 0 0,.int .i64 2]) ∧ Below w.heap.size w w' := by
 obtain ⟨w1,hw1⟩ : ∃ w1,w1 = w.alloc (.cells #[.pointer (some ⟨p,0,none⟩)] 30) := ⟨_,rfl⟩
 obtain ⟨w2,hw2⟩ : ∃ w2,w2 = w1.alloc (.cells #[.slice a l.length c] 33) := ⟨_,rfl⟩
 obtain ⟨w3,hw3⟩ : ∃ w3,w3 = w2.alloc (.cells #[.int .u8 (x : Int)] 37) := ⟨_,rfl⟩
 have z1 : w1.heap.size = w.heap.size + 1 := by rw [hw1]; simp
 have z2 : w2.heap.size = w.heap.size + 1 + 1 := by rw [hw2]; simp [z1]
 have b1 : Below w.heap.size w w1 := by rw [hw1]; exact qe _ _
 have b2 : Below w1.heap.size w1 w2 := by rw [hw2]; exact qe _ _
 have b3 : Below w2.heap.size w2 w3 := by rw [hw3]; exact qe _ _
 have hb3 : Below w.heap.size w w3 := qf (qf b1 b2) b3
 have v0 : w1.heap[w.heap.size]? = some (.cells #[.pointer (some ⟨p,0,none⟩)] 30 (0,0)) := by rw [hw1]; exact (MapKept.heap_alloc w _).1
 have v1 : w2.heap[w.heap.size + 1]? = some (.cells #[.slice a l.length c] 33 (0,0)) := by rw [← z1,hw2]; exact (MapKept.heap_alloc w1 _).1
 have u0 : w3.heap[w.heap.size]? = some (.cells #[.pointer (some ⟨p,0,none⟩)] 30 (0,0)) := (b3.block _ (by omega)).trans ((b2.block _ (by omega)).trans v0)
 have u1 : w3.heap[w.heap.size + 1]? = some (.cells #[.slice a l.length c] 33 (0,0)) := (b3.block _ (by omega)).trans v1
 have jm := q1L (h.up hb3)
 have jk := q3w (h.up hb3) a c l (hU.fr (Fr.ofBelow (F := F) hb3)).sl sm hl
 have q0 : w3.cell? ⟨w.heap.size,0,none⟩ = some (.pointer (some ⟨p,0,none⟩)) := qb u0 0
 have q1 : w3.cell? ⟨w.heap.size + 1,0,none⟩ = some (.slice a l.length c) := qb u1 0
 have HBD : Hid (¬ BdL l M.length) := hbd
 have HB3 : Hid _ := hb3
 have HW1 : Hid _ := hw1
 have HW2 : Hid _ := hw2
 have HW3 : Hid _ := hw3
 clear h hU sm hl hbd b1 b2 b3 hb3 v0 v1 u0 u1 hw1 hw2 hw3 z1 z2
 generalize l.length = n at *
 go_enter Tryz.func15,Tryz.ntmps15
 go_wp2_with fail
 rw [← HW1.out,← HW2.out,← HW3.out]
 refine jm.mono ?_
 rintro e w5 ⟨rfl,hw5⟩
 obtain rfl := hw5.symm
 clear jm
 go_wp2_with fail
 refine jk.mono ?_
 rintro e w5 ⟨⟨b,rfl,hbd⟩,hw5⟩
 obtain rfl := hw5.symm
 have hbt : b = false := by
  cases b with
  | false => rfl
  | true => exact absurd (hbd.1 rfl) HBD.out
 subst hbt
 clear jk hbd
 go_wp2
 go_ret2
 exact ⟨rfl,HB3.out⟩
def EbAt (w : World) (g : Nat) (bs : List Bool) : Prop := w.heap[g]? = some (.cells (bs.map Value.bool).toArray 4 (0,0))
theorem EbAt.lt {w : World} {g : Nat} {bs : List Bool} (h : EbAt w g bs) : g < w.heap.size := (Array.getElem?_eq_some_iff.1 h).1
theorem EbAt.up {w w' : World} {g : Nat} {bs : List Bool} (h : EbAt w g bs) (hb : Below w.heap.size w w') : EbAt w' g bs := (hb.block g h.lt).trans h
theorem EbAt.cell {w : World} {g : Nat} {bs : List Bool} (h : EbAt w g bs) {i : Nat} {b : Bool} (hi : bs[i]? = some b) : w.cell? ⟨g,i,none⟩ = some (.bool b) := by
 unfold EbAt at h
 rw [qb h i]
 simp [hi]
theorem EbAt.fz {w : World} {g : Nat} {bs : List Bool} (h : EbAt w g bs) (i : Nat) : w.frozen? ⟨g,i,none⟩ = false := frozen_of_row w g i _ _ h
theorem EbAt.set {w : World} {g : Nat} {bs : List Bool} (h : EbAt w g bs) (i : Nat) (b : Bool) : EbAt (w.setCell ⟨g,i,none⟩ (.bool b)) g (bs.set i b) := by
 unfold EbAt at h ⊢
 rw [heap_setCell_same w g i _ _ _ h]
 congr 2
 simp
theorem q35 (g n i : Nat) (hi : i < n) (w : World) : (Instr.indexAt 27 (.slice (some ⟨g,0,none⟩) n n) (.int .i64 (i : Int))).run Tryz.prog w = .ok (.pointer (some ⟨g,i,none⟩)) w := by
 simp [Instr.indexAt,run_underlying Tryz.underlying27,asIntOf,q1k (show (Tryz.prog.info? 4).map (·.size) = some 1 by kernel_rfl),hi,Result.andThen,go_sem,qn]
theorem q5k {T0 : Tr} (t0 : KT T0) {items : List It} {k : Nat} {S : Tr} (hk : Rep items k S) (hS : InC T0 S) (x : It) (hx : items[k]? = some x) (g n : Nat) (bs : List Bool) (w : World) (hb : EbAt w g bs) (hn : bs.length = n) (hall : ∀ j S,j < k → Rep items j S → bs[j]? = some (endB S)) :
  Calls Tryz.prog 84 #[itV x,.slice (some ⟨g,0,none⟩) n n] w fun e w' => e = .returned (.bool (endB S)) ∧ w' = w.alloc (itO x) := by
 have hkind := q2F t0 hS
 have key : ∀ (m : Nat) (c : Tr),m < k → Rep items m c → (∀ w',(Instr.indexAt 27 (.slice (some ⟨g,0,none⟩) n n) (.int .i64 (m : Int))).run Tryz.prog w' = .ok (.pointer (some ⟨g,m,none⟩)) w') ∧ ∀ o,(w.alloc o).cell? ⟨g,m,none⟩ = some (.bool (endB c)) := fun m c hm hr => by
  have hq := hall m c hm hr
  have hlt : m < n := by rw [← hn]; exact (List.getElem?_eq_some_iff.1 hq).1
  exact ⟨fun w' => q35 g n m hlt w',fun o => (hb.up (qe w o)).cell hq⟩
 match S,hk,hS,hkind with
 | .leaf (op,pp),hk,hS,hkind =>
  obtain rfl : x = ⟨op,pp,-1,-1⟩ := by cases hk with | leaf h => rw [h] at hx; injection hx with hx; exact hx.symm
  have ho : op = 0 ∨ op = 1 ∨ op = 2 ∨ op = 4 ∨ op = 5 := by
   rcases hkind with q | q
   ·rcases q1N q with ⟨h,_⟩ | ⟨_,h⟩ <;> omega
   ·exact (q2p q).elim
  rcases ho with rfl | rfl | rfl | rfl | rfl
  ·exact q1x _ _ _ _ _ _ _ _ (by simp)
  ·exact q1C _ _ _ _ _ _ _ _ (by simp)
  ·exact q1C _ _ _ _ _ _ _ _ (by simp)
  ·exact q1C _ _ _ _ _ _ _ _ (by simp)
  ·exact q1x _ _ _ _ _ _ _ _ (by simp)
 | .un (op,pp) c,hk,hS,hkind =>
  obtain ⟨m,rfl,hm,hr⟩ : ∃ m : Nat,x = ⟨op,pp,(m : Int),-1⟩ ∧ m < k ∧ Rep items m c := by cases hk with | un h h1 h2 => rw [h] at hx; injection hx with hx; exact ⟨_,hx.symm,h1,h2⟩
  obtain ⟨hi,hc⟩ := key m c hm hr
  have ho : op = 6 ∨ op = 7 ∨ op = 8 ∨ op = 19 ∨ op = 20 ∨ op = 23 := by
   rcases hkind with q | q
   ·rcases kt_un q with ⟨_,⟨h,_⟩ | ⟨h,_⟩⟩ <;> omega
   ·rcases kp_un q with ⟨_,⟨h,_⟩ | ⟨h,_⟩ | ⟨h,_⟩⟩ <;> omega
  rcases ho with rfl | rfl | rfl | rfl | rfl | rfl
  ·exact q1x _ _ _ _ _ _ _ _ (by simp)
  ·exact q1C _ _ _ _ _ _ _ _ (by simp)
  ·exact q1x _ _ _ _ _ _ _ _ (by simp)
  ·exact q1C _ _ _ _ _ _ _ _ (by simp)
  ·exact q6q _ _ _ _ _ _ _ g _ rfl m (endB c) (hi _) (hc _)
  ·exact q1x _ _ _ _ _ _ _ _ (by simp)
 | .bin (op,pp) c d,hk,hS,hkind =>
  obtain ⟨m,l,rfl,hm,hl,hr,hr2⟩ : ∃ m l : Nat,x = ⟨op,pp,(m : Int),(l : Int)⟩ ∧ m < k ∧ l < k ∧ Rep items m c ∧ Rep items l d := by cases hk with | bin h h1 h2 h3 h4 => rw [h] at hx; injection hx with hx; exact ⟨_,_,hx.symm,h1,h2,h3,h4⟩
  obtain ⟨hi,hc⟩ := key m c hm hr
  obtain ⟨hi2,hc2⟩ := key l d hl hr2
  have ho : op = 11 ∨ op = 12 ∨ op = 15 ∨ op = 16 ∨ op = 17 ∨ op = 18 ∨ op = 21 ∨ op = 22 := by
   rcases hkind with q | q
   ·have := (q1A q).2; omega
   ·have := (q1t q).2.1; omega
  rcases ho with rfl | rfl | rfl | rfl | rfl | rfl | rfl | rfl
  ·exact q2H _ _ _ _ _ _ _ g _ (by simp) m l (endB c) (endB d) (hi _) (hc _) (hi2 _) (hc2 _)
  ·exact q4t _ _ _ _ _ _ _ g _ (by simp) m l (endB c) (endB d) (hi _) (hc _) (hi2 _) (hc2 _)
  ·exact q1C _ _ _ _ _ _ _ _ (by simp)
  ·exact q1x _ _ _ _ _ _ _ _ (by simp)
  ·exact q2H _ _ _ _ _ _ _ g _ (by simp) m l (endB c) (endB d) (hi _) (hc _) (hi2 _) (hc2 _)
  ·exact q7k _ _ _ _ _ _ _ g _ rfl m l (endB c) (endB d) (hi _) (hc _) (hi2 _) (hc2 _)
  ·exact q4t _ _ _ _ _ _ _ g _ (by simp) m l (endB c) (endB d) (hi _) (hc _) (hi2 _) (hc2 _)
  ·exact q2H _ _ _ _ _ _ _ g _ (by simp) m l (endB c) (endB d) (hi _) (hc _) (hi2 _) (hc2 _)
theorem qau : (Tryz.prog.info? 4).map (fun i => (i.zero,i.size,i.bytes)) = some (some (.bool false),1,1) := by kernel_rfl
theorem qem (n : Nat) : madeCells #[.bool false] n = Array.replicate n (.bool false) := by
 unfold madeCells
 apply Array.ext
 ·simp
 ·intro i h1 h2
  simp [Nat.mod_one]
theorem qao (l : Nat) (hb : l ≤ 100000000) (w : World) :
  (Instr.makeSlice 27 (.int .i64 (l : Int)) (.int .i64 (l : Int))).run Tryz.prog w = .ok (.slice (some ⟨w.heap.size,0,none⟩) l l) (w.alloc (.cells (Array.replicate l (Value.bool false)) 4)) := by
 obtain ⟨i,hi,hz0,hz1,hz2⟩ := info_parts qau
 have := run_make (P := Tryz.prog) w 27 4 i (.bool false) Tryz.underlying27 hi hz0 .i64 .i64 (l : Int) (l : Int) (by omega) (by omega) (by rw [hz2]; omega) (by omega)
 rw [this,hz1]
 simp only [Int.toNat_natCast,Nat.mul_one]
 have e : (Value.bool false).cells = #[.bool false] := rfl
 rw [e,qem]
theorem EbAt.made (w : World) (l : Nat) : EbAt (w.alloc (.cells (Array.replicate l (Value.bool false)) 4)) w.heap.size (List.replicate l false) := by
 unfold EbAt
 rw [(MapKept.heap_alloc w _).1]
 simp
structure EndL (items : List It) (bs : List Bool) : Prop where
 len : bs.length = items.length
 all : ∀ j S,Rep items j S → bs[j]? = some (endB S)
theorem q3R {T0 : Tr} {w : World} {G : Nat → Prop} {b : Nat} {T : TypeId} {rest : List Value} {items : List It} (h : PtO T0 w G b T rest items) :
  Calls Tryz.prog 52 #[.pointer (some ⟨b,0,none⟩)] w fun e w' => e = .returned (.slice (some ⟨w.heap.size,0,none⟩) items.length items.length) ∧ (∃ bs,EndL items bs ∧ EbAt w' w.heap.size bs) ∧ Below w.heap.size w w' := by
 have hfew := h.few
 obtain ⟨texts,hp,_⟩ := h.ex
 obtain ⟨vi,mp,vt,hr,_⟩ := hp.ex
 obtain ⟨ai,ci,rfl⟩ := qH hr.ri
 have c0 := hr.c0
 have c0b : (w.alloc (.cells (Array.replicate items.length (Value.bool false)) 4)).cell? ⟨b,0,none⟩ = some (.slice ai items.length ci) := (hr.up (qe w _)).c0
 have hmk := qao items.length (by omega) w
 have HH : Hid _ := h
 have HE0 : Hid _ := EbAt.made w items.length
 have HB0 : Hid _ := qe w (.cells (Array.replicate items.length (Value.bool false)) 4)
 have HC : Hid (w.cell? ⟨b,0,none⟩ = some (.slice ai items.length ci)) := c0
 clear h hp hr
 generalize hL : items.length = L at *
 have HL : Hid (items.length = L) := hL
 clear hL
 go_enter Tryz.func52,Tryz.ntmps52
 go_wp2
 go_loopw [17] (fun i wr => ∃ (k : Nat) (bs : List Bool),k ≤ L ∧ i = .int .i64 (k : Int) ∧ Hid (EbAt wr w.heap.size bs) ∧ Hid (bs.length = L) ∧ Hid (∀ j S,j < k → Rep items j S → bs[j]? = some (endB S)) ∧ Hid (Below w.heap.size w wr)) (fun i _ => L - (intOf i).toNat)
 case atStart => exact ⟨0,List.replicate L false,Nat.zero_le _,rfl,HE0,by simp [Hid],fun j S hj => absurd hj (by omega),HB0⟩
 case round =>
  clear HE0 HB0 c0 c0b hmk
  obtain ⟨k,bs,hk,rfl,HE,HLN,HALL,HB⟩ := hrel
  by_cases hlt : k < L
  ·have hki : k < items.length := by have := HL.out; omega
   obtain ⟨S,hrep,hS⟩ := HH.out.cov k hki
   obtain ⟨a,n,cap,g,o,d0,hidx,x0,x1,x2,x3⟩ := (HH.out.up HB.out).at (List.getElem?_eq_getElem hki)
   have ea : Value.slice a n cap = .slice ai L ci := by
    have e1 := qL HC.out HB.out
    rw [d0] at e1
    injection e1
   injection ea with e1 e2 e3
   subst e1 e2 e3
   have hb1 := qe wr (itO items[k])
   have je := q5k HH.out.t0.kt hrep hS items[k] (List.getElem?_eq_getElem hki) w.heap.size n bs (wr.alloc (itO items[k])) (HE.out.up hb1) HLN.out HALL.out
   have hz : (wr.alloc (itO items[k])).heap.size = wr.heap.size + 1 := by simp
   have hbx := (MapKept.heap_alloc wr (itO items[k])).1
   have y0 : (wr.alloc (itO items[k])).cell? ⟨wr.heap.size,0,none⟩ = some (.int .u8 (items[k].op : Int)) := qb hbx 0
   have y1 : (wr.alloc (itO items[k])).cell? ⟨wr.heap.size,1,none⟩ = some (.int .u8 (items[k].p : Int)) := qb hbx 1
   have y2 : (wr.alloc (itO items[k])).cell? ⟨wr.heap.size,2,none⟩ = some (.int .i64 items[k].a) := qb hbx 2
   have y3 : (wr.alloc (itO items[k])).cell? ⟨wr.heap.size,3,none⟩ = some (.int .i64 items[k].b) := qb hbx 3
   have hb2 : Below wr.heap.size wr ((wr.alloc (itO items[k])).alloc (itO items[k])) := qf hb1 (qe _ _)
   have HE2 : Hid (EbAt ((wr.alloc (itO items[k])).alloc (itO items[k])) w.heap.size bs) := EbAt.up HE.out hb2
   have HB2 : Hid _ := qf HB.out hb2
   have hix := fun w' => q35 w.heap.size n k hlt w'
   have hbk : bs[k]? = some (bs[k]'(by rw [HLN.out]; exact hlt)) := List.getElem?_eq_getElem _
   have cB := HE2.out.cell hbk
   have zB := HE2.out.fz k
   have HNX : Hid (∀ j S',j < k + 1 → Rep items j S' → (bs.set k (endB S))[j]? = some (endB S')) := fun j S' hj hr => by
    by_cases e : j = k
    ·subst e
     have := Rep.tree hrep hr
     subst this
     rw [List.getElem?_set_self (by rw [HLN.out]; exact hlt)]
    ·rw [List.getElem?_set_ne (fun h => e h.symm)]
     exact HALL.out j S' (by omega) hr
   have HES : Hid (EbAt (((wr.alloc (itO items[k])).alloc (itO items[k])).setCell ⟨w.heap.size,k,none⟩ (.bool (endB S))) w.heap.size (bs.set k (endB S))) := HE2.out.set k _
   have HBS : Hid (Below w.heap.size w (((wr.alloc (itO items[k])).alloc (itO items[k])).setCell ⟨w.heap.size,k,none⟩ (.bool (endB S)))) := ⟨HB2.out.os,HB2.out.tape,HB2.out.output,by simp; have := HB2.out.size; simp at this; omega,fun j hj => (Below.heap_setCell _ _ _ _ (by dsimp only; omega)).trans (HB2.out.block j hj)⟩
   generalize items[k] = xx at *
   obtain ⟨op,pp,xa,xb⟩ := xx
   generalize endB S = bv at *
   unfold itO itV at *
   dsimp only at *
   clear hbx hb1 hb2 hrep hS HB HE HALL HE2 HB2 hbk
   go_wp2_with fail
   refine je.mono ?_
   rintro e w5 ⟨rfl,rfl⟩
   clear je y0 y1 y2 y3 x0 x1 x2 x3 d0 hidx
   have HLN2 : Hid ((bs.set k bv).length = n) := by show _ = _; rw [List.length_set]; exact HLN.out
   go_wp2
   go_roundw
   case rel => exact ⟨k + 1,bs.set k bv,by omega,by go_num,HES,HLN2,HNX,HBS⟩
   case measure => simp [intOf] <;> omega
  ·obtain rfl : k = L := by omega
   have HEND : Hid (∃ bs,EndL items bs ∧ EbAt wr w.heap.size bs) := ⟨bs,⟨by rw [HLN.out,HL.out],fun j S hr => HALL.out j S (by have := hr.lt; have := HL.out; omega) hr⟩,HE.out⟩
   clear HE HALL
   go_wp2
   go_ret
   exact ⟨rfl,HEND.out,HB.out⟩
def noTx (n : Nat) : List ByteArray := List.replicate n ⟨#[]⟩
theorem qc9 (n : Nat) : noTx n ++ [⟨#[]⟩] = noTx (n + 1) := by
 unfold noTx
 rw [List.replicate_succ']
structure PtN (w : World) (B b : Nat) (vi : Value) (mp : Nat) (vt : Value) (T : Tr) (items : List It) (n : Nat) : Prop where
 k : PtK T items n
 ok : ∀ x ∈ items,ItOk x
 r : PtR w b 76 [] vi mp vt items (noTx items.length) items.length (posI items)
 ge : ∀ k,FP b mp vi vt k → B ≤ k
theorem qds {w3 : World} {b : Nat} (hb : w3.heap[b]? = some (.cells #[.slice none 0 0,.map none,.slice none 0 0] 76 (0,0))) :
  Pts ((w3.setCell ⟨b,1,none⟩ (.map (some w3.heap.size))).alloc (.map #[] 0)) (fun k => k = b ∨ k = w3.heap.size) b 76 [] [] [] := by
 have hl : b < w3.heap.size := (Array.getElem?_eq_some_iff.1 hb).1
 have h1 := heap_setCell_same _ b 1 _ _ (.map (some w3.heap.size)) hb
 have hz : (w3.setCell ⟨b,1,none⟩ (.map (some w3.heap.size))).heap.size = w3.heap.size := by simp
 have hn := q8Q (w3.setCell ⟨b,1,none⟩ (.map (some w3.heap.size)))
 rw [hz] at hn
 refine ⟨by simp,rfl,by simp,fun x hx => (by cases hx),fun x hx => (by cases hx),.slice none 0 0,w3.heap.size,.slice none 0 0,⟨Or.inl rfl,?_,⟨rfl,Or.inl ⟨rfl,rfl⟩⟩,⟨rfl,Or.inl ⟨rfl,rfl⟩⟩,hn.alike fun x _ => rfl⟩,fun k => ?_⟩
 ·rw [(qe _ _).block b (by rw [hz]; exact hl),h1]; rfl
 ·constructor
  ·rintro (h | h)
   ·exact Or.inl h
   ·exact Or.inr (Or.inl h)
  ·rintro (h | h | h | h)
   ·exact Or.inl h
   ·exact Or.inr h
   ·cases h
   ·cases h
theorem PtR.again {w : World} {b mp n : Nat} {T : TypeId} {vi vt : Value} {items : List It} {texts : List ByteArray} {f : It → Option Nat} (h : PtR w b T [] vi mp vt items texts n f) :
  PtR (((w.setCell ⟨b,0,none⟩ vi).setCell ⟨b,1,none⟩ (.map (some mp))).setCell ⟨b,2,none⟩ vt) b T [] vi mp vt items texts n f ∧ ∀ k : Nat,(((w.setCell ⟨b,0,none⟩ vi).setCell ⟨b,1,none⟩ (.map (some mp))).setCell ⟨b,2,none⟩ vt).heap[k]? = w.heap[k]? := by
 have k1 := heap_setCell_same w b 0 _ _ vi h.blk
 have k2 := heap_setCell_same _ b 1 _ _ (.map (some mp)) k1
 have k3 := heap_setCell_same _ b 2 _ _ vt k2
 have all : ∀ k : Nat,(((w.setCell ⟨b,0,none⟩ vi).setCell ⟨b,1,none⟩ (.map (some mp))).setCell ⟨b,2,none⟩ vt).heap[k]? = w.heap[k]? := fun k => by
  by_cases e : k = b
  ·subst e; rw [k3,h.blk]; rfl
  ·exact (Below.heap_setCell _ _ _ _ e).trans ((Below.heap_setCell _ _ _ _ e).trans (Below.heap_setCell _ _ _ _ e))
 exact ⟨h.far fun k _ => all k,all⟩
theorem q2K {B : Nat} {w w' : World} (h : Below B w w') (a : Addr) (v : Value) (ha : B ≤ a.block) : Below B w (w'.setCell a v) :=
 ⟨h.os,h.tape,h.output,by simp; exact h.size,fun k hk => (Below.heap_setCell _ _ _ _ (by omega)).trans (h.block k hk)⟩
structure PtG (w wr : World) (b t : Nat) (F : Nat → Prop) (items : List It) (k : Nat) : Prop where
 p : ∃ G,Pts wr G b 76 [] (items.take k) (noTx k) ∧ (∀ j,G j → w.heap.size ≤ j) ∧ ∀ j,F j → ¬ G j
 t : TabI wr F t items
 b : Below w.heap.size w wr
theorem qcn {items : List It} (hn : items.Nodup) {k : Nat} (hk : k < items.length) : items[k] ∉ items.take k := fun h => by
 obtain ⟨j,hj,e⟩ := List.getElem_of_mem h
 rw [List.getElem_take] at e
 have := (List.getElem_inj hn).1 e
 simp at hj
 omega
theorem PtG.up {w wr w' : World} {b t : Nat} {F : Nat → Prop} {items : List It} {k : Nat} (h : PtG w wr b t F items k) (hb : Below wr.heap.size wr w') : PtG w w' b t F items k := by
 obtain ⟨G,hp,h1,h2⟩ := h.p
 exact ⟨⟨G,hp.up hb,h1,h2⟩,h.t.up hb,qf h.b hb⟩
theorem q6g {w wr : World} {b t : Nat} {F : Nat → Prop} {items : List It} {k : Nat} (h : PtG w wr b t F items k) (hk : k < items.length) : Calls Tryz.prog 75 #[.pointer (some ⟨b,0,none⟩),itV items[k]] wr fun e w' => (∃ j,e = .returned (.int .i64 j)) ∧ PtG w w' b t F items (k + 1) := by
 obtain ⟨G,hp,h1,h2⟩ := h.p
 have hnd := h.t.nd
 have hfew := h.t.few
 refine (q3T hp items[k] (h.t.ok _ (List.getElem_mem hk)) (qcn hnd hk) (by simp; omega)).mono ?_
 rintro e w' ⟨rfl,G',hp',fr⟩
 rw [qc9,List.take_append_getElem hk] at hp'
 refine ⟨⟨_,rfl⟩,⟨G',hp',fr.ge h1 h.b.size,fun j hj hG => ?_⟩,h.t.far fun j hj => fr.keep j (h.t.lt j hj) (h2 j hj),h.b.trans (fr.below h1 h.b.size)⟩
 rcases fr.foot j hG with e | e
 ·exact h2 j hj e
 ·have := h.t.lt j hj; omega
theorem PtG.fin {w wr : World} {b t : Nat} {F : Nat → Prop} {items : List It} (h : PtG w wr b t F items items.length) : ∃ vi mp vt,PtR wr b 76 [] vi mp vt items (noTx items.length) items.length (posI items) ∧ ∀ k,FP b mp vi vt k → w.heap.size ≤ k := by
 obtain ⟨G,hp,h1,_⟩ := h.p
 rw [List.take_length] at hp
 obtain ⟨vi,mp,vt,hr,hG⟩ := hp.ex
 exact ⟨vi,mp,vt,hr,fun k hk => h1 k ((hG k).2 hk)⟩
theorem q2Z (a : Option Addr) (len cap : Nat) (ts : List Tk) (w : World) (hT : TkSl w a len cap ts) :
  Calls Tryz.prog 40 #[.slice a len cap] w fun e w' => Below w.heap.size w w' ∧ ((chkE ts ≠ 0 ∧ e = .returned (.tuple #[.agg #[.slice none 0 0,.map none,.slice none 0 0],.int .i64 0,.int .i64 (chkE ts : Int)])) ∨
   (chkE ts = 0 ∧ ∃ T items n b vi mp vt,KT T ∧ T.size ≤ 2048 ∧ ts = T.flat ∧ PtN w' w.heap.size b vi mp vt T items n ∧ e = .returned (.tuple #[.agg #[vi,.map (some mp),vt],.int .i64 (n : Int),.int .i64 0]))) := by
 obtain ⟨w0,hw0⟩ : ∃ w0,w0 = w.alloc (.cells #[.slice none 0 0,.map none,.slice none 0 0] 76) := ⟨_,rfl⟩
 have hb0 : Below w.heap.size w w0 := by rw [hw0]; exact qe _ _
 have hz0 : w0.heap.size = w.heap.size + 1 := by rw [hw0]; simp
 have hv0 : w0.heap[w.heap.size]? = some (.cells #[.slice none 0 0,.map none,.slice none 0 0] 76 (0,0)) := by rw [hw0]; exact (MapKept.heap_alloc w _).1
 have jn := q8A w0
 have hmm := @run_makeMap Tryz.prog
 have HT : Hid _ := hT.up hb0
 have HTS : Hid (∀ x,a = some x → 0 < len → x.block < w0.heap.size) := fun x hx hl => by
  have h1 := (hT.up hb0)
  subst hx
  exact h1.lt hl
 have HB0 : Hid _ := hb0
 have HZ0 : Hid _ := hz0
 have HV0 : Hid _ := hv0
 have HW0 : Hid _ := hw0
 clear hT hb0 hz0 hv0 hw0
 by_cases hc : chkE ts = 0
 ·obtain ⟨T,kT,hsz,hts,hE,hK⟩ := qcf hc
  obtain ⟨items,hi⟩ : ∃ items,items = keepI [] ts := ⟨_,rfl⟩
  obtain ⟨n,hn⟩ : ∃ n,n = keepN [] ts := ⟨_,rfl⟩
  rw [← hi,← hn] at hK
  have HFIN : Hid (∀ w' vi mp vt,PtN w' w.heap.size w.heap.size vi mp vt T items n → ∃ T' items' n' b vi' mp' vt',KT T' ∧ T'.size ≤ 2048 ∧ ts = T'.flat ∧ PtN w' w.heap.size b vi' mp' vt' T' items' n' ∧ (Ending.returned (.tuple #[.agg #[vi,.map (some mp),vt],.int .i64 (n : Int),.int .i64 0])) = .returned (.tuple #[.agg #[vi',.map (some mp'),vt'],.int .i64 (n' : Int),.int .i64 0])) := fun w' vi mp vt h => ⟨T,items,n,_,vi,mp,vt,kT,hsz,hts,h,rfl⟩
  have HK : Hid _ := hK
  have HI : Hid _ := hi
  have HN : Hid _ := hn
  have HE : Hid _ := hE
  have HC : Hid _ := hc
  clear kT hsz hts hK hi hn hE hc
  go_enter Tryz.func40,Tryz.ntmps40
  go_wp2_with fail
  rw [← HW0.out]
  refine jn.mono ?_
  rintro e w1 ⟨t,F,rfl,hTab,hge,hb1⟩
  have jk := q3K a len cap ts ⟨hTab,q7Q⟩ (HT.out.up hb1) (fun hl x hx e => by have := HTS.out x hx hl; have := hge _ e; omega)
  rw [HE.out,← HI.out,← HN.out] at jk
  have HGE : Hid (∀ k,F k → w0.heap.size ≤ k) := hge
  have HB1 : Hid _ := hb1
  clear jn hTab hge hb1
  unfold tbV
  go_wp2_with fail
  refine jk.mono ?_
  rintro e w2 ⟨rfl,F2,hTab2,fr2⟩
  have hb2 : Below w0.heap.size w1 w2 := fr2.below HGE.out HB1.out.size
  have hbb : Below w0.heap.size w0 w2 := HB1.out.trans hb2
  have hv2 : w2.heap[w.heap.size]? = some (.cells #[.slice none 0 0,.map none,.slice none 0 0] 76 (0,0)) := (hbb.block _ (by have := HZ0.out; omega)).trans HV0.out
  have hg2 : ∀ k,F2 k → w0.heap.size ≤ k := fr2.ge HGE.out HB1.out.size
  have hp0 := qds hv2
  have HB2 : Hid (Below w.heap.size w w2) := HB0.out.trans (hbb.mono (by have := HZ0.out; omega))
  have hl2 : w.heap.size < w2.heap.size := (Array.getElem?_eq_some_iff.1 hv2).1
  have d1 : w2.cell? ⟨w.heap.size,1,none⟩ = some (.map none) := qb hv2 1
  have z1 : w2.frozen? ⟨w.heap.size,1,none⟩ = false := frozen_of_row _ _ 1 _ _ hv2
  have hzs : (w2.setCell ⟨w.heap.size,1,none⟩ (.map (some w2.heap.size))).heap.size = w2.heap.size := by simp
  have HG0 : Hid (PtG w ((w2.setCell ⟨w.heap.size,1,none⟩ (.map (some w2.heap.size))).alloc (.map #[] 0)) w.heap.size t F2 items 0) := by
   refine ⟨⟨_,hp0,fun j hj => ?_,fun j hj hG => ?_⟩,hTab2.1.far fun k hk => ?_,?_⟩
   ·rcases hj with rfl | rfl <;> omega
   ·have h1 := hg2 j hj
    have h2 := hTab2.1.lt j hj
    have := HZ0.out
    rcases hG with e | e <;> omega
   ·have h1 := hg2 k hk
    have h2 := hTab2.1.lt k hk
    have := HZ0.out
    exact ((qe _ _).block k (by rw [hzs]; exact h2)).trans (Below.heap_setCell _ _ _ _ (by dsimp only; omega))
   ·exact qf (q2K HB2.out _ _ (Nat.le_refl _)) (qe _ _)
  clear jk hTab2 fr2 hb2 hbb hv2 hg2 hp0 hzs
  have hfew : items.length ≤ 2048 := HK.out.few
  generalize hL : items.length = L at *
  have HL : Hid (items.length = L) := hL
  clear hL
  go_wp2_with fail
  generalize (w2.setCell ⟨w.heap.size,1,none⟩ (.map (some w2.heap.size))).alloc (.map #[] 0) = w3 at *
  have jl := q85 HG0.out.t
  rw [HL.out] at jl
  refine jl.mono ?_
  rintro e w4 ⟨rfl,hw4⟩
  obtain rfl := hw4.symm
  clear jl d1 z1
  go_wp2
  go_loopw [24] (fun i wr => ∃ k : Nat,k ≤ L ∧ i = .int .i64 (k : Int) ∧ Hid (PtG w wr w.heap.size t F2 items k)) (fun i _ => L - (intOf i).toNat)
  case atStart => exact ⟨0,Nat.zero_le _,rfl,HG0⟩
  case round =>
   clear HG0
   obtain ⟨k,hk,rfl,HG⟩ := hrel
   by_cases hlt : k < L
   ·have hki : k < items.length := by have := HL.out; omega
    have ji := q6I HG.out.t k items[k] (List.getElem?_eq_getElem hki)
    have HKN : Hid (∀ w',Below wr.heap.size wr w' → Calls Tryz.prog 75 #[.pointer (some ⟨w.heap.size,0,none⟩),itV items[k]] (w'.alloc (itO items[k])) fun e w'' => (∃ j,e = .returned (.int .i64 j)) ∧ PtG w w'' w.heap.size t F2 items (k + 1)) := fun w' hb => q6g ((HG.out.up hb).up (qe w' _)) hki
    obtain ⟨x,hx⟩ : ∃ x,x = items[k] := ⟨_,rfl⟩
    rw [← hx] at ji HKN
    clear hx HG
    obtain ⟨op,p,xa,xb⟩ := x
    unfold itV at *
    unfold itO at *
    dsimp only at *
    go_wp2_with fail
    refine ji.mono ?_
    rintro e w5 ⟨rfl,hb5⟩
    have jk := HKN.out w5 hb5
    clear ji hb5
    go_wp2_with fail
    refine jk.mono ?_
    rintro e w6 ⟨⟨j,rfl⟩,hG6⟩
    have HG6 : Hid _ := hG6
    clear jk hG6
    go_wp2
    go_roundw
    case rel => exact ⟨k + 1,by omega,by go_num,HG6⟩
    case measure => simp [intOf] <;> omega
   ·obtain rfl : k = L := by omega
    have hg := HG.out
    rw [← HL.out] at hg
    obtain ⟨vi,mp,vt,hr,hge⟩ := hg.fin
    have h3 := hr.again
    obtain ⟨ai,ci,rfl⟩ := qH hr.ri
    obtain ⟨at',ct,rfl⟩ := qH hr.rt
    have f0 := hr.c0
    have f1 := hr.c1
    have f2 := hr.c2
    have z0 : wr.frozen? ⟨w.heap.size,0,none⟩ = false := frozen_of_row _ _ 0 _ _ hr.blk
    have z1 : wr.frozen? ⟨w.heap.size,1,none⟩ = false := frozen_of_row _ _ 1 _ _ hr.blk
    have z2 : wr.frozen? ⟨w.heap.size,2,none⟩ = false := frozen_of_row _ _ 2 _ _ hr.blk
    have HQ : Hid _ := HFIN.out _ _ _ _ ⟨HK.out,HG.out.t.ok,h3.1,hge⟩
    have HBW : Hid _ := q2K (q2K (q2K HG.out.b ⟨w.heap.size,0,none⟩ (.slice ai items.length ci) (Nat.le_refl _)) ⟨w.heap.size,1,none⟩ (.map (some mp)) (Nat.le_refl _)) ⟨w.heap.size,2,none⟩ (.slice at' (noTx items.length).length ct) (Nat.le_refl _)
    have g0 := h3.1.c0
    have g1 := h3.1.c1
    have g2 := h3.1.c2
    clear hr hg h3 hge HG
    go_wp2
    generalize (((wr.setCell ⟨w.heap.size,0,none⟩ (.slice ai items.length ci)).setCell ⟨w.heap.size,1,none⟩ (.map (some mp))).setCell ⟨w.heap.size,2,none⟩ (.slice at' (noTx items.length).length ct)) = W at *
    refine bodyPost_ret (v := .tuple #[.agg #[.slice ai items.length ci,.map (some mp),.slice at' (noTx items.length).length ct],.int .i64 (n : Int),.int .i64 0]) (by simp [results,Tryz.results40,go_sem,g0,g1,g2]) rfl ⟨HBW.out,Or.inr ⟨HC.out,HQ.out⟩⟩
 ·obtain ⟨h1,h2,h3⟩ := q8Z (items := []) hc
  have hne : (((chkE ts : Nat) : Int) != 0) = true := by simp; omega
  have HC : Hid _ := hc
  have H1 : Hid _ := h1
  have H3 : Hid _ := h3
  clear hc h1 h2 h3
  obtain ⟨E,hE⟩ : ∃ E,E = chkE ts := ⟨_,rfl⟩
  have HE : Hid _ := hE
  rw [← hE] at hne
  rw [← hE]
  clear hE
  go_enter Tryz.func40,Tryz.ntmps40
  go_wp2_with fail
  rw [← HW0.out]
  refine jn.mono ?_
  rintro e w1 ⟨t,F,rfl,hTab,hge,hb1⟩
  have jk := q3K a len cap ts ⟨hTab,q7Q⟩ (HT.out.up hb1) (fun hl x hx e => by have := HTS.out x hx hl; have := hge _ e; omega)
  rw [H1.out,H3.out,← HE.out] at jk
  have HGE : Hid (∀ k,F k → w0.heap.size ≤ k) := hge
  have HB1 : Hid _ := hb1
  clear jn hTab hge hb1 hmm
  unfold tbV
  go_wp2_with fail
  refine jk.mono ?_
  rintro e w2 ⟨rfl,F2,hTab2,fr2⟩
  have hb2 : Below w0.heap.size w1 w2 := fr2.below HGE.out HB1.out.size
  have hbb : Below w0.heap.size w0 w2 := HB1.out.trans hb2
  have hv2 : w2.heap[w.heap.size]? = some (.cells #[.slice none 0 0,.map none,.slice none 0 0] 76 (0,0)) := (hbb.block _ (by have := HZ0.out; omega)).trans HV0.out
  have HB2 : Hid (Below w.heap.size w w2) := HB0.out.trans (hbb.mono (by have := HZ0.out; omega))
  have f0 : w2.cell? ⟨w.heap.size,0,none⟩ = some (.slice none 0 0) := qb hv2 0
  have f1 : w2.cell? ⟨w.heap.size,1,none⟩ = some (.map none) := qb hv2 1
  have f2 : w2.cell? ⟨w.heap.size,2,none⟩ = some (.slice none 0 0) := qb hv2 2
  have z0 : w2.frozen? ⟨w.heap.size,0,none⟩ = false := frozen_of_row _ _ 0 _ _ hv2
  have z1 : w2.frozen? ⟨w.heap.size,1,none⟩ = false := frozen_of_row _ _ 1 _ _ hv2
  have z2 : w2.frozen? ⟨w.heap.size,2,none⟩ = false := frozen_of_row _ _ 2 _ _ hv2
  have HBW : Hid _ := q2K (q2K (q2K HB2.out ⟨w.heap.size,0,none⟩ (.slice none 0 0) (Nat.le_refl _)) ⟨w.heap.size,1,none⟩ (.map none) (Nat.le_refl _)) ⟨w.heap.size,2,none⟩ (.slice none 0 0) (Nat.le_refl _)
  have k1 := heap_setCell_same w2 _ 0 _ _ (.slice none 0 0) hv2
  have k2 := heap_setCell_same _ _ 1 _ _ (.map none) k1
  have k3 := heap_setCell_same _ _ 2 _ _ (.slice none 0 0) k2
  have g0 : (((w2.setCell ⟨w.heap.size,0,none⟩ (.slice none 0 0)).setCell ⟨w.heap.size,1,none⟩ (.map none)).setCell ⟨w.heap.size,2,none⟩ (.slice none 0 0)).cell? ⟨w.heap.size,0,none⟩ = some (.slice none 0 0) := qb k3 0
  have g1 : (((w2.setCell ⟨w.heap.size,0,none⟩ (.slice none 0 0)).setCell ⟨w.heap.size,1,none⟩ (.map none)).setCell ⟨w.heap.size,2,none⟩ (.slice none 0 0)).cell? ⟨w.heap.size,1,none⟩ = some (.map none) := qb k3 1
  have g2 : (((w2.setCell ⟨w.heap.size,0,none⟩ (.slice none 0 0)).setCell ⟨w.heap.size,1,none⟩ (.map none)).setCell ⟨w.heap.size,2,none⟩ (.slice none 0 0)).cell? ⟨w.heap.size,2,none⟩ = some (.slice none 0 0) := qb k3 2
  clear jk hTab2 fr2 hb2 hbb hv2 k1 k2 k3
  go_wp2
  generalize (((w2.setCell ⟨w.heap.size,0,none⟩ (.slice none 0 0)).setCell ⟨w.heap.size,1,none⟩ (.map none)).setCell ⟨w.heap.size,2,none⟩ (.slice none 0 0)) = W at *
  have HCE : Hid (E ≠ 0) := by have := HC.out; rw [← HE.out] at this; exact this
  refine bodyPost_ret (v := .tuple #[.agg #[.slice none 0 0,.map none,.slice none 0 0],.int .i64 0,.int .i64 (E : Int)]) (by simp [results,Tryz.results40,go_sem,g0,g1,g2]) rfl ⟨HBW.out,Or.inl ⟨HCE.out,rfl⟩⟩
theorem PgO.start {T0 : Tr} {w : World} {F : Nat → Prop} {p : Nat} {vs : Value} {items : List It} {M : Mt} (h : PgO T0 w F p vs items M) (v : Value) : PgO T0 (w.setCell ⟨p,6,none⟩ v) F p v items M ∧ F p ∧ w.cell? ⟨p,6,none⟩ = some vs ∧ w.frozen? ⟨p,6,none⟩ = false := by
 obtain ⟨G,mn,vm,met,hr,hF⟩ := h.ex
 have st : ∀ k,k ≠ p → (w.setCell ⟨p,6,none⟩ v).heap[k]? = w.heap[k]? := fun k hk => Below.heap_setCell _ _ _ _ hk
 refine ⟨⟨h.few,h.nd,h.of,G,mn,vm,met,⟨hr.po.setRest (j := 3) v,qy hr.row fun k hk => st k fun e => hr.nv k hk (e ▸ hr.gp),hr.num.far (st mn fun e => hr.ng (e ▸ hr.gp)),hr.met,hr.ng,hr.nv⟩,hF⟩,(hF p).2 (Or.inl hr.gp),hr.c6,hr.fz 6⟩
theorem qer {w1 W : World} {B b : Nat} {vi : Value} {mp : Nat} {vt : Value} {T : Tr} {items : List It} {n p mn : Nat} (kT : KT T) (hsz : T.size ≤ 2048) (h : PtN w1 B b vi mp vt T items n) (hb : Below w1.heap.size w1 W) (hp : w1.heap.size ≤ p) (hm : w1.heap.size ≤ mn) (hB : B ≤ w1.heap.size)
  (hP : W.heap[p]? = some (.cells (ptA vi mp vt (pgRest p mn (.slice none 0 0) (.slice none 0 0))) 82 (0,0))) (hN : NumS W mn 0 (fun _ => none)) :
  ∃ F,PgO T W F p (.slice none 0 0) items [] ∧ ∀ k,F k → B ≤ k ∧ (k < w1.heap.size ∨ k = p ∨ k = mn) := by
 obtain ⟨es,c,hmap⟩ := hN.isMap
 have hpm : p ≠ mn := fun e => by rw [e,hmap] at hP; cases hP
 have hlt := h.r.lt
 have hR : PtR W p 82 (pgRest p mn (.slice none 0 0) (.slice none 0 0)) vi mp vt items (noTx items.length) items.length (posI items) :=
  ⟨Or.inr rfl,hP,qZ h.r.ri hb,qZ h.r.rt hb,h.r.num.far (hb.block mp h.r.num.lt)⟩
 have hG : ∀ k,FP p mp vi vt k → k = p ∨ FP b mp vi vt k := fun k hk => by
  rcases hk with e | e
  ·exact Or.inl e
  ·exact Or.inr (Or.inr e)
 have hpo : PtO T W (FP p mp vi vt) p 82 (pgRest p mn (.slice none 0 0) (.slice none 0 0)) items := by
  refine ⟨⟨kT,hsz⟩,h.k.low,h.k.cov,noTx items.length,⟨h.k.nd,by simp [noTx],by have := h.k.few; omega,h.ok,fun s hs => ?_,vi,mp,vt,hR,fun k => Iff.rfl⟩,fun j S hr => Or.inl ?_⟩
  ·have := List.eq_of_mem_replicate hs
   subst this
   unfold SOk
   decide
  ·unfold noTx
   rw [List.getElem?_replicate,if_pos hr.lt]
 refine ⟨FQ (FP p mp vi vt) mn (.slice none 0 0),⟨by simp,by simp,fun f hf => (by cases hf),FP p mp vi vt,mn,.slice none 0 0,[],⟨hpo,⟨rfl,Or.inl ⟨rfl,rfl⟩⟩,hN.alike fun x _ => rfl,⟨rfl,fun n i hi => (by simp at hi)⟩,fun e => ?_,fun k hk => (by cases hk)⟩,fun k => Iff.rfl⟩,fun k hk => ?_⟩
 ·rcases hG _ e with e | e
  ·exact hpm e.symm
  ·have := hlt _ e; omega
 ·rcases hk with e | e | e
  ·rcases hG _ e with e | e
   ·exact ⟨by omega,Or.inr (Or.inl e)⟩
   ·exact ⟨h.ge k e,Or.inl (hlt _ e)⟩
  ·exact ⟨by omega,Or.inr (Or.inr e)⟩
  ·cases e
structure NwV (w : World) (F : Nat → Prop) (p n bp bw : Nat) : Prop where
 h0 : w.heap[bp]? = some (.cells #[.pointer (some ⟨p,0,none⟩)] 30 (0,0))
 h1 : w.heap[bw]? = some (.cells #[.int .i64 (n : Int)] 3 (0,0))
 n0 : ¬ F bp
 n1 : ¬ F bw
theorem NwV.fr {w w' : World} {F F' : Nat → Prop} {p n bp bw : Nat} (h : NwV w F p n bp bw) (fr : Fr w w' F F') : NwV w' F' p n bp bw :=
 ⟨(qi h.h0 h.n0 fr).1,(qi h.h1 h.n1 fr).1,(qi h.h0 h.n0 fr).2,(qi h.h1 h.n1 fr).2⟩
theorem NwV.cells {w : World} {F : Nat → Prop} {p n bp bw : Nat} (h : NwV w F p n bp bw) : w.cell? ⟨bp,0,none⟩ = some (.pointer (some ⟨p,0,none⟩)) ∧ w.cell? ⟨bw,0,none⟩ = some (.int .i64 (n : Int)) := ⟨qb h.h0 0,qb h.h1 0⟩
theorem NwV.set {w : World} {F : Nat → Prop} {p n bp bw : Nat} (h : NwV w F p n bp bw) (hp : F p) (j : Nat) (v : Value) : (w.setCell ⟨p,j,none⟩ v).cell? ⟨bp,0,none⟩ = some (.pointer (some ⟨p,0,none⟩)) ∧ (w.setCell ⟨p,j,none⟩ v).cell? ⟨bw,0,none⟩ = some (.int .i64 (n : Int)) :=
 ⟨qb ((Below.heap_setCell _ _ _ _ (fun e => h.n0 (by have e' : bp = p := e; rw [e']; exact hp))).trans h.h0) 0,qb ((Below.heap_setCell _ _ _ _ (fun e => h.n1 (by have e' : bw = p := e; rw [e']; exact hp))).trans h.h1) 0⟩
theorem qes {w : World} {F : Nat → Prop} {a : Option Addr} {n c : Nat} {l : List Nat} (h : US w F a n c l) {p : Nat} (hp : F p) (j : Nat) (v : Value) : US (w.setCell ⟨p,j,none⟩ v) F a n c l := by
 have hs := h.sl
 refine ⟨⟨hs.hlen,hs.hcap,hs.bd,hs.idx,fun k hk => ?_,fun k hk => by simp; exact hs.blk k hk,hs.nn⟩,h.nf⟩
 have := hs.cell k hk
 unfold World.cell? at this ⊢
 rw [Below.heap_setCell _ _ _ _ (fun e => h.nf k hk (by rw [e]; exact hp))]
 exact this
theorem qet {w w1 : World} {F F1 : Nat → Prop} (fr : Fr w w1 F F1) {p : Nat} (hp : F1 p) (j : Nat) (v : Value) : Fr w (w1.setCell ⟨p,j,none⟩ v) F F1 := by
 refine fr.trans ⟨rfl,rfl,rfl,by simp,fun k hk hF => Below.heap_setCell _ _ _ _ (fun e => hF (e ▸ hp)),fun k hk => Or.inl hk⟩
def NewQ (T0 : Tr) (p : Nat) (w : World) (F : Nat → Prop) (R : Rt) (e : Ending) (w' : World) : Prop :=
 (e = .returned (.tuple #[]) ∧ ∃ (L : List Nat) (M' : Mt) (q : Option Addr) (d : Nat) (F' : Nat → Prop) (items' : List It),R = some (L,M') ∧ PgO T0 w' F' p (.slice q L.length d) items' M' ∧ US w' F' q L.length d L ∧ Fr w w' F F') ∨
 (e = .panicked thrownP ∧ R = none ∧ ∃ (F' : Nat → Prop),Fr w w' F F')
theorem qde {T0 : Tr} {p : Nat} {w w1 : World} {F F1 : Nat → Prop} {items : List It} {M : Mt} {R : Rt} {L : List Nat} {q : Option Addr} {d : Nat} {vs : Value} (hR : R = some (L,M)) (fr : Fr w w1 F F1) (hU : US w1 F1 q L.length d L) (hO : PgO T0 w1 F1 p vs items M) : NewQ T0 p w F R (.returned (.tuple #[])) (w1.setCell ⟨p,6,none⟩ (.slice q L.length d)) := by
 obtain ⟨h1,h2,_,_⟩ := hO.start (.slice q L.length d)
 exact Or.inl ⟨rfl,L,M,q,d,F1,items,hR,h1,qes hU h2 _ _,qet fr h2 _ _⟩
theorem q7y {T0 : Tr} (kT : KT T0) {p n : Nat} {w : World} {F : Nat → Prop} {items : List It} (h : PgO T0 w F p (.slice none 0 0) items []) (hn : Rep items n T0) (bp bw : Nat) (hV : NwV w F p n bp bw) :
  Calls Tryz.prog 42 #[.pointer (some ⟨bp,0,none⟩),.pointer (some ⟨bw,0,none⟩)] w (NewQ T0 p w F (needM T0 [])) := by
 have hVd := hV.fr (Fr.ofBelow (F := F) (Below.refl w.heap.size w).drew)
 have hk0 := hVd.cells
 have hk00 := hV.cells
 have jn := q2c (T0 := T0) (p := p) (vs := .slice none 0 0) T0 kT (qcV T0) w.drew F items [] n (h.up (Below.refl w.heap.size w).drew) hn
 have HV : Hid _ := hVd
 obtain ⟨R,hR⟩ : ∃ R,R = needM T0 [] := ⟨_,rfl⟩
 rw [← hR] at jn ⊢
 obtain ⟨Q,hQ⟩ : ∃ Q : Ending → World → Prop,Q = NewQ T0 p w F R := ⟨_,rfl⟩
 have HQ : Hid (∀ e w',NewQ T0 p w F R e w' → Q e w') := fun e w' h => by rw [hQ]; exact h
 rw [← hQ]
 clear h hn hV hVd hR hQ
 go_enter Tryz.func42,Tryz.ntmps42
 go_wp2_with fail
 go_region_held2 (fun w' => w'.cell? ⟨bp,0,none⟩ = some (.pointer (some ⟨p,0,none⟩)) ∧ w'.cell? ⟨bw,0,none⟩ = some (.int .i64 (n : Int))) (first | exact hk0 | exact hk00 | assumption | fail) (first
   | (revert jn; intro jn; go_at_call 43; (with_reducible refine jn.mono ?_); rintro e w1 ⟨F1,i1,fr1,hp1,⟨L1,M1,q1,d1,hs1,rfl,hU1,hO1⟩ | ⟨hs1,rfl,M1,hpm1,hO1⟩⟩; (case inr => exact ⟨rfl,HQ.out _ _ (Or.inr ⟨rfl,hs1,F1,(Fr.ofBelow (Below.refl _ _).drew).trans fr1⟩)⟩); have hV1 := HV.out.fr fr1; have hk1 := hV1.cells; have hst := hO1.start (.slice q1 L1.length d1); have hk2 := hV1.set hst.2.1 6 (.slice q1 L1.length d1); have z2 := hst.2.2.1; have zf := hst.2.2.2; have HE : Hid (Q (.returned (.tuple #[])) (w1.setCell ⟨p,6,none⟩ (.slice q1 L1.length d1))) := HQ.out _ _ (qde hs1 ((Fr.ofBelow (Below.refl _ _).drew).trans fr1) hU1 hO1))
   | fail)
 all_goals
  clear jn
  go_wp2
  go_end0
  exact HE.out
def NwP (T0 : Tr) (p : Nat) (w : World) (F : Nat → Prop) (E : Nat) (R : Rt) (w' : World) : Prop :=
 ∃ (L : List Nat) (M' : Mt) (q : Option Addr) (d : Nat) (F' : Nat → Prop) (items' : List It),R = some (L,M') ∧ PgO T0 w' F' p (.slice q L.length d) items' M' ∧ US w' F' q L.length d L ∧ ¬ F' E ∧ (∀ k,k < L.length → (adOf q k).block ≠ E) ∧ Fr w w' (fun k => F k ∨ k = E) F'
def NwN (w : World) (F : Nat → Prop) (E : Nat) (R : Rt) (w' : World) : Prop := R = none ∧ ∃ F' : Nat → Prop,Fr w w' (fun k => F k ∨ k = E) F'
theorem q9E {w w1 w2 : World} {F F' : Nat → Prop} {E : Nat} (h7 : Fr w w1 (fun k => F k ∨ k = E) F') (hg : w1.grownBy w2 (some E)) : Fr w w2 (fun k => F k ∨ k = E) F' :=
 ⟨hg.os.trans h7.os,hg.tape.trans h7.tape,hg.output.trans h7.output,Nat.le_trans h7.size hg.size,fun k hk hF => (hg.block k (Nat.lt_of_lt_of_le hk h7.size) (fun e => hF (Or.inr (by injection e)))).trans (h7.keep k hk hF),h7.foot⟩
theorem NwP.grown {T0 : Tr} {p : Nat} {w w1 w2 : World} {F : Nat → Prop} {E : Nat} {R : Rt} (h : NwP T0 p w F E R w1) (hg : w1.grownBy w2 (some E)) : NwP T0 p w F E R w2 := by
 obtain ⟨L,M',q,d,F',i',h1,h3,h4,h5,h6,h7⟩ := h
 exact ⟨L,M',q,d,F',i',h1,h3.far fun k hk => hg.block k (h3.lt k hk) (fun e => h5 (by injection e with e; exact e ▸ hk)),h4.grown hg h6,h5,h6,q9E h7 hg⟩
theorem q8B : EntersF 42 := fun _ _ => rfl
theorem q5J {T0 : Tr} (kT : KT T0) {p n : Nat} {w : World} {F : Nat → Prop} {items : List It} (h : PgO T0 w F p (.slice none 0 0) items []) (hn : Rep items n T0) (bp bw : Nat) (hV : NwV w F p n bp bw) :
  Calls Tryz.prog 41 #[.func (.func 42) #[] #[.pointer (some ⟨bp,0,none⟩),.pointer (some ⟨bw,0,none⟩)]] w fun e w' =>
   (e = .returned (.int .i64 0) ∧ NwP T0 p w F w.heap.size (needM T0 []) w') ∨ (e = .returned (.int .i64 9) ∧ NwN w F w.heap.size (needM T0 []) w') := by
 refine (q3m 42 _ w q8B (fun w' => NwP T0 p w F w.heap.size (needM T0 []) w') (fun w' => NwN w F w.heap.size (needM T0 []) w') ?_ ?_ ?_).mono ?_
 ·rintro w1 w2 b hp hg rfl
  exact hp.grown hg
 ·rintro w1 w2 b ⟨h1,F',h7⟩ hg rfl
  exact ⟨h1,F',q9E h7 hg⟩
 ·intro w0 hw0
  have hb : Below w.heap.size w w0 := by rw [hw0]; exact qe _ _
  have hE : Erc w0 w.heap.size 0 := by rw [hw0]; exact (MapKept.heap_alloc w _).1
  have hz : w0.heap.size = w.heap.size + 1 := by rw [hw0]; simp
  have hnE : ¬ F w.heap.size := fun e => Nat.lt_irrefl _ (h.lt _ e)
  refine (q7y kT (h.up hb) hn bp bw (hV.fr (Fr.ofBelow hb))).mono ?_
  rintro e w' (⟨rfl,L,M',q,d,F',i',hs,hO,hU,fr⟩ | ⟨rfl,hs,F',fr⟩)
  ·have hE' : Erc w' w.heap.size 0 := (fr.keep _ (by omega) hnE).trans hE
   exact Or.inl ⟨rfl,⟨L,M',q,d,F',i',hs,hO,hU,fr.out hnE (by omega),qaB hU hE',((Fr.ofBelow hb).trans fr).alike (fun k hk => Or.inl hk) (fun k hk => hk)⟩,hE'⟩
  ·have hE' : Erc w' w.heap.size 0 := (fr.keep _ (by omega) hnE).trans hE
   exact Or.inr ⟨rfl,⟨hs,F',((Fr.ofBelow hb).trans fr).alike (fun k hk => Or.inl hk) (fun k hk => hk)⟩,hE'⟩
 ·rintro e w' (⟨h1,h2⟩ | ⟨h1,h2⟩)
  ·exact Or.inl ⟨h1,h2⟩
  ·exact Or.inr ⟨h1,h2⟩
theorem qcS {w w1 : World} {b : Nat} {vi : Value} {mp : Nat} {vt : Value} {T : Tr} {items : List It} {n : Nat} (kT : KT T) (hsz : T.size ≤ 2048) (hb1 : Below w.heap.size w w1) (hN : PtN w1 w.heap.size b vi mp vt T items n) (o : Obj) :
  ∃ W,W = ((((w1.alloc o).alloc (.cells #[.int .i64 (n : Int)] 3)).alloc (.map #[] 0)).alloc (.cells #[vi,.map (some mp),vt,.pointer (some ⟨w1.heap.size + 1 + 1 + 1,0,none⟩),.map (some (w1.heap.size + 1 + 1)),.slice none 0 0,.slice none 0 0] 82)).alloc (.cells #[.pointer (some ⟨w1.heap.size + 1 + 1 + 1,0,none⟩)] 30) ∧
   Below w.heap.size w W ∧ ∃ F,PgO T W F (w1.heap.size + 1 + 1 + 1) (.slice none 0 0) items [] ∧ (∀ k,F k → w.heap.size ≤ k) ∧ NwV W F (w1.heap.size + 1 + 1 + 1) n (w1.heap.size + 1 + 1 + 1 + 1) (w1.heap.size + 1) := by
 obtain ⟨u1,hu1⟩ : ∃ u,u = w1.alloc o := ⟨_,rfl⟩
 obtain ⟨u2,hu2⟩ : ∃ u,u = u1.alloc (.cells #[.int .i64 (n : Int)] 3) := ⟨_,rfl⟩
 obtain ⟨u3,hu3⟩ : ∃ u,u = u2.alloc (.map #[] 0) := ⟨_,rfl⟩
 obtain ⟨u4,hu4⟩ : ∃ u,u = u3.alloc (.cells #[vi,.map (some mp),vt,.pointer (some ⟨w1.heap.size + 1 + 1 + 1,0,none⟩),.map (some (w1.heap.size + 1 + 1)),.slice none 0 0,.slice none 0 0] 82) := ⟨_,rfl⟩
 obtain ⟨u5,hu5⟩ : ∃ u,u = u4.alloc (.cells #[.pointer (some ⟨w1.heap.size + 1 + 1 + 1,0,none⟩)] 30) := ⟨_,rfl⟩
 refine ⟨u5,by rw [hu5,hu4,hu3,hu2,hu1],?_⟩
 have z1 : u1.heap.size = w1.heap.size + 1 := by rw [hu1]; simp
 have z2 : u2.heap.size = w1.heap.size + 1 + 1 := by rw [hu2]; simp [z1]
 have z3 : u3.heap.size = w1.heap.size + 1 + 1 + 1 := by rw [hu3]; simp [z2]
 have z4 : u4.heap.size = w1.heap.size + 1 + 1 + 1 + 1 := by rw [hu4]; simp [z3]
 have b1 : Below w1.heap.size w1 u1 := by rw [hu1]; exact qe _ _
 have b2 : Below u1.heap.size u1 u2 := by rw [hu2]; exact qe _ _
 have b3 : Below u2.heap.size u2 u3 := by rw [hu3]; exact qe _ _
 have b4 : Below u3.heap.size u3 u4 := by rw [hu4]; exact qe _ _
 have b5 : Below u4.heap.size u4 u5 := by rw [hu5]; exact qe _ _
 have hB : Below w1.heap.size w1 u5 := qf (qf (qf (qf b1 b2) b3) b4) b5
 have v2 : u2.heap[w1.heap.size + 1]? = some (.cells #[.int .i64 (n : Int)] 3 (0,0)) := by rw [← z1,hu2]; exact (MapKept.heap_alloc u1 _).1
 have hnum : NumS u3 (w1.heap.size + 1 + 1) 0 (fun _ => none) := by rw [← z2,hu3]; exact qbB u2
 have v4 : u4.heap[w1.heap.size + 1 + 1 + 1]? = some (.cells #[vi,.map (some mp),vt,.pointer (some ⟨w1.heap.size + 1 + 1 + 1,0,none⟩),.map (some (w1.heap.size + 1 + 1)),.slice none 0 0,.slice none 0 0] 82 (0,0)) := by
  have := (MapKept.heap_alloc u3 (.cells #[vi,.map (some mp),vt,.pointer (some ⟨w1.heap.size + 1 + 1 + 1,0,none⟩),.map (some (w1.heap.size + 1 + 1)),.slice none 0 0,.slice none 0 0] 82)).1
  rw [← hu4,z3] at this
  exact this
 have v5 : u5.heap[w1.heap.size + 1 + 1 + 1 + 1]? = some (.cells #[.pointer (some ⟨w1.heap.size + 1 + 1 + 1,0,none⟩)] 30 (0,0)) := by
  have := (MapKept.heap_alloc u4 (.cells #[.pointer (some ⟨w1.heap.size + 1 + 1 + 1,0,none⟩)] 30)).1
  rw [← hu5,z4] at this
  exact this
 obtain ⟨F,hO,hF⟩ := qer (W := u5) (p := w1.heap.size + 1 + 1 + 1) (mn := w1.heap.size + 1 + 1) kT hsz hN hB (by omega) (by omega) hb1.size ((b5.block _ (by omega)).trans v4) (hnum.far ((b5.block _ (by omega)).trans (b4.block _ (by omega))))
 refine ⟨qf hb1 hB,F,hO,fun k hk => (hF k hk).1,v5,?_,fun e => ?_,fun e => ?_⟩
 ·exact (b5.block _ (by omega)).trans ((b4.block _ (by omega)).trans ((b3.block _ (by omega)).trans v2))
 ·have := (hF _ e).2; omega
 ·have := (hF _ e).2; omega
def NewR (w : World) (ts : List Tk) (e : Ending) (w' : World) : Prop := Below w.heap.size w w' ∧ ((chkE ts ≠ 0 ∧ e = .returned (.tuple #[.pointer none,.int .i64 (chkE ts : Int)])) ∨
 ∃ T,KT T ∧ ts = T.flat ∧ chkE ts = 0 ∧ ((needM T [] = none ∧ e = .returned (.tuple #[.pointer none,.int .i64 9])) ∨
  ∃ (l0 : List Nat) (M : Mt) (p : Nat) (F : Nat → Prop) (q : Option Addr) (d : Nat) (items : List It),needM T [] = some (l0,M) ∧ e = .returned (.tuple #[pgV p,.int .i64 0]) ∧ PgO T w' F p (.slice q l0.length d) items M ∧ US w' F q l0.length d l0 ∧ (∀ k,F k → w.heap.size ≤ k)))
theorem q8J (a : Option Addr) (len cap : Nat) (ts : List Tk) (w : World) (hT : TkSl w a len cap ts) : Calls Tryz.prog 13 #[.slice a len cap] w (NewR w ts) := by
 have jp := q2Z a len cap ts w hT
 have hmm := @run_makeMap Tryz.prog
 obtain ⟨Q,hQ⟩ : ∃ Q : Ending → World → Prop,Q = NewR w ts := ⟨_,rfl⟩
 have HQ : Hid (∀ e w',NewR w ts e w' → Q e w') := fun e w' h => by rw [hQ]; exact h
 rw [← hQ]
 clear hT hQ
 go_enter Tryz.func13,Tryz.ntmps13
 go_wp2_with fail
 refine jp.mono ?_
 rintro e w1 ⟨hb1,⟨hc,rfl⟩ | ⟨hc,T,items,n,b,vi,mp,vt,kT,hsz,hts,hN,rfl⟩⟩
 ·have hne : (((chkE ts : Nat) : Int) != 0) = true := by simp; omega
  have HC : Hid _ := hc
  have HB1 : Hid _ := hb1
  clear jp hc hb1 hmm
  generalize hE : chkE ts = E at *
  have HE : Hid _ := hE
  clear hE
  go_wp2
  exact HQ.out _ _ ⟨qf HB1.out (qf (qe _ _) (qe _ _)),Or.inl ⟨by rw [HE.out]; exact HC.out,by rw [HE.out]; rfl⟩⟩
 ·obtain ⟨ai,ci,rfl⟩ := qH hN.r.ri
  obtain ⟨at',ct,rfl⟩ := qH hN.r.rt
  obtain ⟨W,hW,hbW,F,hO,hF,hV⟩ := qcS kT hsz hb1 hN (.cells #[.slice ai items.length ci,.map (some mp),.slice at' (noTx items.length).length ct] 76)
  have jc := q5J kT hO hN.k.rep _ _ hV
  have HW : Hid _ := hW
  have HBW : Hid _ := hbW
  have HF : Hid _ := hF
  have HV : Hid _ := hV
  have HC : Hid _ := hc
  have HTS : Hid _ := hts
  have HKT : Hid _ := kT
  clear jp hc hb1 hN hts hW hbW hF hV hO kT hsz
  go_wp2_with fail
  rw [← HW.out]
  refine jc.mono ?_
  rintro e w6 (⟨rfl,L,M',q,d,F',i',hs,hO,hU,hnE,_,fr⟩ | ⟨rfl,hs,F',fr⟩)
  ·have hge : ∀ k,F k ∨ k = W.heap.size → w.heap.size ≤ k := fun k hk => by
    rcases hk with hk | hk
    ·exact HF.out k hk
    ·have := HBW.out.size; omega
   have hb6 : Below w.heap.size w w6 := HBW.out.trans (fr.below hge HBW.out.size)
   have hl0 := (Array.getElem?_eq_some_iff.1 HV.out.h0).1
   have hc0 : w6.cell? ⟨w1.heap.size + 1 + 1 + 1 + 1,0,none⟩ = some (.pointer (some ⟨w1.heap.size + 1 + 1 + 1,0,none⟩)) := qb ((fr.keep _ hl0 (fun e => by rcases e with e | e; exact HV.out.n0 e; omega)).trans HV.out.h0) 0
   have HE : Hid (Q (.returned (.tuple #[pgV (w1.heap.size + 1 + 1 + 1),.int .i64 0])) w6) := HQ.out _ _ ⟨hb6,Or.inr ⟨T,HKT.out,HTS.out,HC.out,Or.inr ⟨L,M',_,F',q,d,i',hs,rfl,hO,hU,fr.ge hge HBW.out.size⟩⟩⟩
   clear jc hs hO hU hnE fr hge hb6 hl0
   unfold pgV at HE
   go_wp2
   exact HE.out
  ·have hge : ∀ k,F k ∨ k = W.heap.size → w.heap.size ≤ k := fun k hk => by
    rcases hk with hk | hk
    ·exact HF.out k hk
    ·have := HBW.out.size; omega
   have hb6 : Below w.heap.size w w6 := HBW.out.trans (fr.below hge HBW.out.size)
   have HE : Hid (Q (.returned (.tuple #[.pointer none,.int .i64 9])) w6) := HQ.out _ _ ⟨hb6,Or.inr ⟨T,HKT.out,HTS.out,HC.out,Or.inl ⟨hs,rfl⟩⟩⟩
   clear jc hs fr hge hb6
   go_wp2
   exact HE.out
def HeldN (M : Mt) (k h : Nat) : Prop := h < 2 ^ k ∧ ∀ j,h.testBit j = true ↔ j < k ∧ SatM [] M 0 j
theorem qc3 (M : Mt) : HeldN M 0 0 := ⟨by decide,fun j => by simp⟩
theorem qci {M : Mt} {k h : Nat} (hh : HeldN M k h) (hs : SatM [] M 0 k) : HeldN M (k + 1) (h ||| 2 ^ k) := by
 refine ⟨Nat.or_lt_two_pow (Nat.lt_of_lt_of_le hh.1 (Nat.pow_le_pow_right (by decide) (by omega))) (Nat.pow_lt_pow_right (by decide) (by omega)),fun j => ?_⟩
 rw [Nat.testBit_or,Bool.or_eq_true,hh.2 j,Nat.testBit_two_pow]
 constructor
 ·rintro (⟨h1,h2⟩ | h1)
  ·exact ⟨by omega,h2⟩
  ·have : k = j := by simpa using h1
   subst this
   exact ⟨by omega,hs⟩
 ·rintro ⟨h1,h2⟩
  by_cases e : j < k
  ·exact Or.inl ⟨e,h2⟩
  ·have : k = j := by omega
   exact Or.inr (by simpa using this)
theorem qdg {M : Mt} {k h : Nat} (hh : HeldN M k h) (hs : ¬ SatM [] M 0 k) : HeldN M (k + 1) h := by
 refine ⟨Nat.lt_of_lt_of_le hh.1 (Nat.pow_le_pow_right (by decide) (by omega)),fun j => ?_⟩
 rw [hh.2 j]
 constructor
 ·rintro ⟨h1,h2⟩
  exact ⟨by omega,h2⟩
 ·rintro ⟨h1,h2⟩
  by_cases e : j < k
  ·exact ⟨e,h2⟩
  ·have : j = k := by omega
   subst this
   exact absurd h2 hs
theorem qcR {M : Mt} {h : Nat} {l : List Nat} (hh : HeldN M M.length h) : hoB l h = true ↔ FinP M l := by
 show decide (HoP l h) = true ↔ _
 rw [decide_eq_true_iff]
 unfold FinP LsP HoP
 constructor
 ·rintro ⟨s,hs,hw⟩
  exact ⟨s,hs,fun k hk => ((hh.2 k).1 (q2i.1 hw k hk)).2⟩
 ·rintro ⟨s,hs,hw⟩
  refine ⟨s,hs,q2i.2 fun k hk => (hh.2 k).2 ⟨?_,hw k hk⟩⟩
  obtain ⟨T,_,h2,_⟩ := hw k hk
  exact (List.getElem?_eq_some_iff.1 h2).1
theorem PgR.metAt {T0 : Tr} {w w2 : World} {G : Nat → Prop} {p mn : Nat} {va : Option Addr} {m vc : Nat} {vs : Value} {items : List It} {met : List Nat} {M : Mt} (h : PgR T0 w G p mn (.slice va m vc) vs items met M) (hof : ∀ f ∈ M,∃ S,KT S ∧ InC T0 S ∧ f = S.flat) (hb : Below w.heap.size w w2) (k : Nat) (hk : k < m) (hm : met.length = m) : ∃ g o j S,(∀ w',(Instr.indexAt 80 (.slice va m vc) (.int .i64 (k : Int))).run Tryz.prog w' = .ok (.pointer (some ⟨g,o,none⟩)) w') ∧ w2.cell? ⟨g,o,none⟩ = some (.int .i64 ((j : Nat) : Int)) ∧ Rep items j S ∧ KT S ∧ M[k]? = some S.flat := by
 have hkm : k < met.length := by omega
 obtain ⟨S,hrep,hMk⟩ := h.met.2 k met[k] (List.getElem?_eq_getElem hkm)
 obtain ⟨S2,k2,i2,e2⟩ := hof S.flat (List.mem_of_getElem? hMk)
 have hw : S.WF := by
  obtain ⟨S3,h3,h4⟩ := h.po.cov _ hrep.lt
  have := Rep.tree hrep h3
  subst this
  rcases q2F h.po.t0.kt h4 with q | q <;> exact q.wf
 have e := q5Q hw k2.wf e2
 subst e
 rcases (qZ h.row hb).2 with ⟨e,e0⟩ | ⟨g,cap,cur,e,_,hcell,hnc,hcm,hsz,htk⟩
 ·omega
 ·injection e with e1 e2 e3
  subst e1 e3
  refine ⟨g,k,met[k],S,fun w' => ?_,?_,hrep,k2,hMk⟩
  ·simp [Instr.indexAt,run_underlying Tryz.underlying80,asIntOf,q1k (show (Tryz.prog.info? 3).map (·.size) = some 1 by kernel_rfl),hk,Result.andThen,go_sem,qn]
  ·rw [qb hcell k]
   have : cur.toList[k]? = (encM met)[k]? := by rw [← htk,List.getElem?_take,if_pos (by omega)]
   rw [← Array.getElem?_toList,this]
   simp [encM,hkm]
theorem q6F {T0 : Tr} {p : Nat} {vs : Value} {w : World} {F : Nat → Prop} {items : List It} {M : Mt} (h : PgO T0 w F p vs items M) (a : Option Addr) (c : Nat) (l : List Nat) (hU : USl w a l.length c l) (sm : Sm l) :
  Calls Tryz.prog 18 #[.pointer (some ⟨p,0,none⟩),.slice a l.length c] w fun e w' => (∃ b,e = .returned (.bool b) ∧ (b = true ↔ FinP M l)) ∧ Below w.heap.size w w' := by
 have jm := q1L h
 obtain ⟨G,mn,vm,met,hr,hF⟩ := h.ex
 have je := q3R hr.po
 have c5 := hr.c5
 obtain ⟨ma,mc,rfl⟩ := qH hr.row
 have hml : met.length = M.length := hr.met.1
 have hfew : M.length ≤ 64 := h.few
 have hm64 : met.length ≤ 64 := by omega
 have HH : Hid _ := h
 have HR : Hid _ := hr
 have HU : Hid _ := hU
 have HSM : Hid (Sm l) := sm
 have HML : Hid (met.length = M.length) := hml
 have HC5 : Hid _ := c5
 clear h hr hF hU sm hml c5
 generalize hmm : met.length = m at *
 have HM : Hid (met.length = m) := hmm
 clear hmm
 generalize hil0 : items.length = il at *
 have HIL : Hid (items.length = il) := hil0
 clear hil0
 generalize hn0 : l.length = n at *
 have HNN : Hid (l.length = n) := hn0
 clear hn0
 go_enter Tryz.func18,Tryz.ntmps18
 go_wp2_with fail
 refine jm.mono ?_
 rintro e w1 ⟨rfl,hw1⟩
 obtain rfl := hw1.symm
 clear jm
 go_wp2_with fail
 refine je.mono ?_
 rintro e w2 ⟨rfl,⟨bs,hEL,hEb⟩,hb2⟩
 have c5 : w2.cell? ⟨p,5,none⟩ = some (.slice ma m mc) := qL HC5.out hb2
 have HEL : Hid (EndL items bs) := hEL
 have HEB : Hid (EbAt w2 w.heap.size bs) := hEb
 have HB2 : Hid (Below w.heap.size w w2) := hb2
 clear je hEL hEb hb2
 go_wp2
 go_loopw [6,21] (fun v i wr => ∃ (k hd : Nat),k ≤ m ∧ i = .int .i64 (k : Int) ∧ v = .int .u64 (hd : Int) ∧ wr = w2 ∧ Hid (HeldN M k hd)) (fun _ i _ => m - (intOf i).toNat)
 case atStart => exact ⟨0,0,Nat.zero_le _,rfl,rfl,rfl,qc3 M⟩
 case round =>
  clear c5
  obtain ⟨k,hd,hk,rfl,rfl,rfl,HHD⟩ := hrel
  by_cases hlt : k < m
  ·obtain ⟨g,o,j,S,hidx,hcj,hrep,kS,hMk⟩ := HR.out.metAt HH.out.of HB2.out k hlt HM.out
   have hbj := HEL.out.all j S hrep
   have hjl : j < bs.length := (List.getElem?_eq_some_iff.1 hbj).1
   have hil : bs.length = items.length := HEL.out.len
   have hcb := HEB.out.cell hbj
   have hsat : SatM [] M 0 k ↔ endB S = true := (q4Q kS hMk).trans ((qY S).1 kS).symm
   have hix := fun w' => q35 w.heap.size il j (by have := HIL.out; omega) w'
   have HE : Hid (bits BinOp.or IntKind.u64 (hd : Int) (IntKind.u64.wrap (2 ^ k)) = ((hd ||| 2 ^ k : Nat) : Int)) := by
    have h1 : (2 : Nat) ^ k < 2 ^ 64 := Nat.pow_lt_pow_right (by decide) (by omega)
    have h2 : hd < 2 ^ 64 := Nat.lt_of_lt_of_le HHD.out.1 (Nat.pow_le_pow_right (by decide) (by omega))
    have e3 : IntKind.u64.wrap (2 ^ k) = ((2 ^ k : Nat) : Int) := by
     rw [IntKind.wrap_u64,show ((2 : Int) ^ k) = ((2 ^ k : Nat) : Int) by simp]
     generalize 2 ^ k = y at h1 ⊢
     omega
    show _ = _
    rw [e3]
    exact u64_or_nat _ _ h2 h1
   cases hv : endB S with
   | true =>
    rw [hv] at hcb hsat
    have HN : Hid (HeldN M (k + 1) (hd ||| 2 ^ k)) := qci HHD.out (hsat.2 rfl)
    clear hsat HHD hrep kS hMk hbj hjl hil hv
    have hmin : min k 64 = k := by omega
    go_wp2
    go_roundw
    case rel => exact ⟨k + 1,hd ||| 2 ^ k,by omega,by go_num,congrArg (Value.int .u64) HE.out,by first | trivial | rfl,HN⟩
    case measure => simp [intOf] <;> omega
   | false =>
    rw [hv] at hcb hsat
    have HN : Hid (HeldN M (k + 1) hd) := qdg HHD.out (fun e => by have := hsat.1 e; cases this)
    clear hsat HHD hrep kS hMk hbj hjl hil hv HE
    go_wp2
    go_roundw
    case rel => exact ⟨k + 1,hd,by omega,by go_num,rfl,by first | trivial | rfl,HN⟩
    case measure => simp [intOf] <;> omega
  ·obtain rfl : k = m := by omega
   have hdm : HeldN M M.length hd := by have := HHD.out; rw [show k = M.length by have := HML.out; omega] at this; exact this
   have h2 : hd < 2 ^ 64 := Nat.lt_of_lt_of_le hdm.1 (Nat.pow_le_pow_right (by decide) (by omega))
   have jh := q2G a l.length c l hd wr ((show USl w a l.length c l by rw [HNN.out]; exact HU.out).up HB2.out) HSM.out h2
   rw [HNN.out] at jh
   have HFI : Hid (hoB l hd = true ↔ FinP M l) := qcR hdm
   clear HHD hdm h2
   go_wp2_with fail
   refine jh.mono ?_
   rintro e w4 ⟨rfl,hb4⟩
   have HB4 : Hid (Below w.heap.size w w4) := qf HB2.out hb4
   clear jh hb4
   generalize hoB l hd = bb at *
   go_wp2
   go_ret
   exact ⟨⟨bb,rfl,HFI.out⟩,HB4.out⟩
theorem PtN.at {w1 W : World} {B b : Nat} {vi : Value} {mp : Nat} {vt : Value} {T : Tr} {items : List It} {n g : Nat} (kT : KT T) (hsz : T.size ≤ 2048) (h : PtN w1 B b vi mp vt T items n) (hb : Below w1.heap.size w1 W) (hg : W.heap[g]? = some (.cells #[vi,.map (some mp),vt] 76 (0,0))) :
  PtO T W (FP g mp vi vt) g 76 [] items := by
 have hR : PtR W g 76 [] vi mp vt items (noTx items.length) items.length (posI items) :=
  ⟨Or.inl rfl,hg,qZ h.r.ri hb,qZ h.r.rt hb,h.r.num.far (hb.block mp h.r.num.lt)⟩
 refine ⟨⟨kT,hsz⟩,h.k.low,h.k.cov,noTx items.length,⟨h.k.nd,by simp [noTx],by have := h.k.few; omega,h.ok,fun s hs => ?_,vi,mp,vt,hR,fun k => Iff.rfl⟩,fun j S hr => Or.inl ?_⟩
 ·have := List.eq_of_mem_replicate hs
  subst this
  unfold SOk
  decide
 ·unfold noTx
  rw [List.getElem?_replicate,if_pos hr.lt]
theorem q74 (a : Option Addr) (len cap : Nat) (ts : List Tk) (w : World) (hT : TkSl w a len cap ts) :
  Calls Tryz.prog 17 #[.slice a len cap] w fun e w' => Below w.heap.size w w' ∧
   ((chkE ts ≠ 0 ∧ e = .returned (.tuple #[.bool false,.int .i64 (chkE ts : Int)])) ∨ ∃ T b,KT T ∧ ts = T.flat ∧ chkE ts = 0 ∧ e = .returned (.tuple #[.bool b,.int .i64 0]) ∧ (b = true ↔ (semTr [] T).1 0)) := by
 have jp := q2Z a len cap ts w hT
 obtain ⟨Q,hQ⟩ : ∃ Q : Ending → World → Prop,Q = fun e w' => Below w.heap.size w w' ∧ ((chkE ts ≠ 0 ∧ e = .returned (.tuple #[.bool false,.int .i64 (chkE ts : Int)])) ∨ ∃ T b,KT T ∧ ts = T.flat ∧ chkE ts = 0 ∧ e = .returned (.tuple #[.bool b,.int .i64 0]) ∧ (b = true ↔ (semTr [] T).1 0)) := ⟨_,rfl⟩
 have HQ : Hid (∀ e w',Below w.heap.size w w' → ((chkE ts ≠ 0 ∧ e = .returned (.tuple #[.bool false,.int .i64 (chkE ts : Int)])) ∨ ∃ T b,KT T ∧ ts = T.flat ∧ chkE ts = 0 ∧ e = .returned (.tuple #[.bool b,.int .i64 0]) ∧ (b = true ↔ (semTr [] T).1 0)) → Q e w') := fun e w' h1 h2 => by rw [hQ]; exact ⟨h1,h2⟩
 rw [← hQ]
 clear hT hQ
 go_enter Tryz.func17,Tryz.ntmps17
 go_wp2_with fail
 refine jp.mono ?_
 rintro e w1 ⟨hb1,⟨hc,rfl⟩ | ⟨hc,T,items,n,b,vi,mp,vt,kT,hsz,hts,hN,rfl⟩⟩
 ·have hne : (((chkE ts : Nat) : Int) != 0) = true := by simp; omega
  have HC : Hid _ := hc
  have HB1 : Hid _ := hb1
  clear jp hc hb1
  generalize hE : chkE ts = E at *
  have HE : Hid _ := hE
  clear hE
  go_wp2
  exact HQ.out _ _ (qf HB1.out (qe _ _)) (Or.inl ⟨HC.out,rfl⟩)
 ·obtain ⟨ai,ci,rfl⟩ := qH hN.r.ri
  obtain ⟨at',ct,rfl⟩ := qH hN.r.rt
  have hbn := qe w1 (.cells #[.slice ai items.length ci,.map (some mp),.slice at' (noTx items.length).length ct] 76)
  have hO := hN.at kT hsz hbn (MapKept.heap_alloc w1 _).1
  have je := q3R hO
  have hfew : items.length ≤ 2048 := hN.k.few
  have hlt := hN.k.rep.lt
  have HREP : Hid _ := hN.k.rep
  have HEB : Hid (endB T = true ↔ (semTr [] T).1 0) := (qY T).1 kT
  have HB1 : Hid _ := qf hb1 hbn
  have HC : Hid _ := hc
  have HTS : Hid _ := hts
  have HKT : Hid _ := kT
  have hz : (w1.alloc (.cells #[.slice ai items.length ci,.map (some mp),.slice at' (noTx items.length).length ct] 76)).heap.size = w1.heap.size + 1 := by simp
  rw [hz] at je
  clear jp hc hb1 hN hts hbn hO kT hsz hz
  generalize hil : items.length = il at *
  have HIL : Hid _ := hil
  clear hil
  go_wp2_with fail
  refine je.mono ?_
  rintro e w2 ⟨rfl,⟨bs,hEL,hEb⟩,hb2⟩
  have hbn := hEL.all n T HREP.out
  have hcb := hEb.cell hbn
  have hix := fun w' => q35 (w1.heap.size + 1) il n hlt w'
  have HB2 : Hid (Below w.heap.size w w2) := HB1.out.trans (hb2.mono (by have := HB1.out.size; simp at this; omega))
  clear je hEL hEb hb2 hbn
  generalize endB T = v at *
  go_wp2
  exact HQ.out _ _ HB2.out (Or.inr ⟨T,v,HKT.out,HTS.out,HC.out,rfl,HEB.out⟩)
structure PrgAt (w : World) (F : Nat → Prop) (p : Nat) (l0 : List Nat) (M : Mt) (T0 : Tr) (q : Option Addr) (d : Nat) (items : List It) : Prop where
 o : PgO T0 w F p (.slice q l0.length d) items M
 u : US w F q l0.length d l0
 l : LstH l0
 g : ¬ F tabG
def Prg (w : World) (F : Nat → Prop) (p : Nat) (l0 : List Nat) (M : Mt) : Prop := ∃ T0 q d items,PrgAt w F p l0 M T0 q d items
theorem qee {w w' : World} {F : Nat → Prop} {l : List Nat} {e : Ending} (hF : ∀ k,F k → k < w.heap.size) (h : CloU l w e w') : Below w.heap.size w w' ∧ ∃ a c,e = .returned (.slice a l.length c) ∧ US w' F a l.length c l := by
 refine ⟨h.1,?_⟩
 rcases h.2 with ⟨rfl,p,rfl⟩ | ⟨G,t,_,rfl,hS,h1,h2⟩
 ·exact ⟨p,0,rfl,⟨⟨rfl,Nat.le_refl _,Nat.zero_le _,fun m k w hk hm => absurd hk (by simp at hm; omega),fun k hk => absurd hk (by simp),fun k hk => absurd hk (by simp),fun _ => rfl⟩,fun k hk => absurd hk (by simp)⟩⟩
 ·refine ⟨_,G,rfl,hS.usl rfl rfl h1 h2,fun k hk e => ?_⟩
  have := hF _ e
  simp [adOf,qn] at this
  omega
theorem q69 : ProgC Prg where
 lt := fun ⟨_,_,_,_,h⟩ => h.o.lt
 up := fun ⟨T0,q,d,items,h⟩ hb => ⟨T0,q,d,items,h.o.up hb,h.u.up hb,h.l,h.g⟩
 new := fun a len cap ts w hT hB => (q8J a len cap ts w hT).mono fun e w' ⟨hb,h⟩ => ⟨hb,h.imp id fun ⟨T,kT,hts,hc,h2⟩ => ⟨T,kT,hts,hc,h2.imp id fun ⟨l0,M,p,F,q,d,items,hn,he,hO,hU,hF⟩ => ⟨l0,M,p,F,hn,he,⟨T,q,d,items,hO,hU,⟨qW (q1c T q98 kT hn).1.bd hO.few,q1P T hn⟩,fun e => by
   have h1 := hF _ e
   have h2 := World.block_lt_of_cell? _ _ (hB 0 (by decide))
   exact Nat.lt_irrefl _ (Nat.lt_of_lt_of_le h2 h1)⟩,hF⟩⟩⟩
 start := fun {w F p l0 M} ⟨T0,q,d,items,h⟩ => (q63 h.o h.u h.l.few).mono fun e w' hc => by
  obtain ⟨hb,a,c,he,hU⟩ := qee h.o.lt hc
  exact ⟨a,c,F,he,hU,⟨T0,q,d,items,h.o.up hb,h.u.up hb,h.l,h.g⟩,Fr.ofBelow hb⟩
 step := fun {w F p l0 M} a n c l x ⟨T0,q,d,items,h⟩ hB hU hs hn hb hx => by
  obtain rfl : l.length = n := hU.sl.len.symm
  refine (q73 hx h.o hB h.g a c l ⟨hU,hn,hb⟩).mono ?_
  have htl := World.block_lt_of_cell? _ _ (hB 0 (by decide))
  rintro e w' ⟨F',i',fr,⟨h1,rfl,hO⟩ | ⟨L,M',q',d',h1,rfl,hU',hO,_⟩⟩
  ·exact ⟨F',fr,Or.inl ⟨none,0,h1,rfl,q6H _ _,T0,q,d,i',hO,h.u.fr fr,h.l,fr.out h.g htl⟩⟩
  ·exact ⟨F',fr,Or.inr ⟨L,M',q',d',h1,rfl,hU',T0,q,d,i',hO,h.u.fr fr,h.l,fr.out h.g htl⟩⟩
 arg := fun {w F p l0 M} a n c l x ⟨T0,q,d,items,h⟩ hU hs hn hb hx => by
  obtain rfl : l.length = n := hU.sl.len.symm
  refine (q6X (x := x) h.o a c l hU hs hn hb).mono ?_
  rintro e w' ⟨rfl,hbw⟩
  exact ⟨F,none,0,rfl,q6H _ _,⟨T0,q,d,items,h.o.up hbw,h.u.up hbw,h.l,h.g⟩,Fr.ofBelow hbw⟩
 fin := fun {w F p l0 M} a n c l ⟨T0,q,d,items,h⟩ hB hU hs hn => by
  obtain rfl : l.length = n := hU.sl.len.symm
  refine (q6F h.o a c l hU.sl hs).mono ?_
  rintro e w' ⟨⟨b,rfl,hbb⟩,hbw⟩
  exact ⟨b,F,rfl,hbb,⟨T0,q,d,items,h.o.up hbw,h.u.up hbw,h.l,h.g⟩,Fr.ofBelow hbw⟩
 ends := fun a len cap ts w hT => q74 a len cap ts w hT
theorem q6t (a : Option Addr) (la ca : Nat) (xs : List Tk) (d : Option Addr) (m c : Nat) (zs : List Int) (z : Nat) (w : World) (hT : Tab64 w) (hA : TkSl w a la ca xs) (hL : LtSl w d m c zs) (hz : z < 256) :
  Calls Tryz.prog 4 #[.slice a la ca,.slice d m c,.int .u8 (z : Int)] w (BR true w) := q6C q69 q3B a la ca xs d m c zs z w hA hL hz hT
def RowK (w : World) (g : Nat) (cur : List Tk) : Prop := w.heap[g]? = some (.cells (encT cur).toArray 61 (0,0))
theorem RowK.c0 {w : World} {g : Nat} {cur : List Tk} (h : RowK w g cur) {i : Nat} (hi : i < cur.length) : w.cell? ⟨g,2 * i,none⟩ = some (.int .u8 (cur[i].1 : Int)) := by
 unfold RowK at h; simp only [World.cell?,h]; simpa using (q1R cur i hi).1
theorem RowK.c1 {w : World} {g : Nat} {cur : List Tk} (h : RowK w g cur) {i : Nat} (hi : i < cur.length) : w.cell? ⟨g,2 * i + 1,none⟩ = some (.int .u8 (cur[i].2 : Int)) := by
 unfold RowK at h; simp only [World.cell?,h]; simpa using (q1R cur i hi).2
theorem RowK.frozen {w : World} {g : Nat} {cur : List Tk} (h : RowK w g cur) (i : Nat) : w.frozen? ⟨g,i,none⟩ = false := frozen_of_row w g i _ _ h
theorem q9i : ∀ (cur : List Tk) (i : Nat) (t : Tk),((encT cur).set (2 * i) (.int .u8 (t.1 : Int))).set (2 * i + 1) (.int .u8 (t.2 : Int)) = encT (cur.set i t)
 | [],i,t => by simp [encT]
 | c :: cur,0,t => by simp [q2V]
 | c :: cur,i + 1,t => by
  rw [List.set_cons_succ,q2V,q2V,← q9i cur i t,show 2 * (i + 1) = 2 * i + 1 + 1 by omega]
  simp
theorem RowK.set {w : World} {g : Nat} {cur : List Tk} (h : RowK w g cur) (i : Nat) (t : Tk) : RowK ((w.setCell ⟨g,2 * i,none⟩ (.int .u8 (t.1 : Int))).setCell ⟨g,2 * i + 1,none⟩ (.int .u8 (t.2 : Int))) g (cur.set i t) := by
 have h1 := heap_setCell_same w g (2 * i) _ _ (.int .u8 (t.1 : Int)) h
 have h2 := heap_setCell_same _ g (2 * i + 1) _ _ (.int .u8 (t.2 : Int)) h1
 unfold RowK; rw [h2]; simp [← q9i]
theorem RowK.tk {w : World} {g : Nat} {cur : List Tk} (h : RowK w g cur) (hm : cur.length ≤ maxLen) (hok : ∀ t ∈ cur,t.1 < 256 ∧ t.2 < 256) : TkSl w (some ⟨g,0,none⟩) cur.length cur.length cur := by
 refine ⟨rfl,Nat.le_refl _,hm,fun hn => (by cases hn),fun x hx k hk => ?_,fun x hx k hk => ?_,hok⟩
 ·injection hx with hx; subst hx
  rw [qn,Nat.zero_add,h.c0 hk]
 ·injection hx with hx; subst hx
  rw [qn,Nat.zero_add,h.c1 hk]
theorem madeQ (n : Nat) : madeCells (Value.agg #[.int .u8 0,.int .u8 0]).cells (n * 2) = (encT (List.replicate n (0,0))).toArray := by
 apply Array.ext_getElem?
 intro i
 have e : (Value.agg #[.int .u8 0,.int .u8 0]).cells = #[.int .u8 0,.int .u8 0] := rfl
 rw [e]
 by_cases h : i < n * 2
 ·have hl : ∀ i,i < n * 2 → (encT (List.replicate n (0,0)))[i]? = some (.int .u8 0) := by
   intro i h
   rcases Nat.mod_two_eq_zero_or_one i with h0 | h0
   ·obtain ⟨k,rfl⟩ : ∃ k,i = 2 * k := ⟨i / 2,by omega⟩
    rw [(q1R _ k (by simp; omega)).1]; simp
   ·obtain ⟨k,rfl⟩ : ∃ k,i = 2 * k + 1 := ⟨i / 2,by omega⟩
    rw [(q1R _ k (by simp; omega)).2]; simp
  have hr : (encT (List.replicate n (0,0))).toArray[i]? = some (.int .u8 0) := by simpa using hl i h
  rw [hr]
  rcases Nat.mod_two_eq_zero_or_one i with h0 | h0 <;> simp [madeCells,h,h0]
 ·have hr : (encT (List.replicate n ((0 : Nat),(0 : Nat)))).toArray[i]? = none := by
   rw [Array.getElem?_eq_none]; rw [List.size_toArray,q3i]; simp; omega
  rw [hr,Array.getElem?_eq_none]
  simp [madeCells]; omega
theorem q8C : (Tryz.prog.info? 61).map (fun i => (i.zero,i.size,i.bytes)) = some (some (.agg #[.int .u8 0,.int .u8 0]),2,2) := by kernel_rfl
theorem q86 (l : Nat) (hb : l ≤ 100000000) (w : World) :
  (Instr.makeSlice 22 (.int .i64 (l : Int)) (.int .i64 (l : Int))).run Tryz.prog w = .ok (.slice (some ⟨w.heap.size,0,none⟩) l l) (w.alloc (.cells (encT (List.replicate l (0,0))).toArray 61)) := by
 obtain ⟨i,hi,hz0,hz1,hz2⟩ := info_parts q8C
 have := run_make (P := Tryz.prog) w 22 61 i (.agg #[.int .u8 0,.int .u8 0]) Tryz.underlying22 hi hz0 .i64 .i64 (l : Int) (l : Int) (by omega) (by omega) (by rw [hz2]; omega) (by omega)
 rw [this,hz1,← madeQ]
 simp only [Int.toNat_natCast]
theorem q8b : (Tryz.prog.info? 61).map (·.size) = some 2 := by kernel_rfl
theorem qbQ (g n i : Nat) (hi : i < n) (w : World) : (Instr.indexAt 22 (.slice (some ⟨g,0,none⟩) n n) (.int .i64 (i : Int))).run Tryz.prog w = .ok (.pointer (some ⟨g,2 * i,none⟩)) w := by
 simp [Instr.indexAt,run_underlying Tryz.underlying22,asIntOf,q1k q8b,hi,Result.andThen,go_sem,qn,Nat.mul_comm]
theorem qb3 (f : List Tk) (i : Nat) (hi : i < f.length) (hs : f[i].1 ≤ 23 ∧ f[i].2 ≤ 7) (w : World) : (Instr.index 9 (.string (txOf f)) (.int .i64 (i : Int))).run Tryz.prog w = .ok (.int .u8 ((f[i].1 * 8 + f[i].2 : Nat) : Int)) w := by
 have hz : (txOf f).size = f.length := by unfold txOf; simp [ByteArray.size]
 rw [run_index_string w 9 (txOf f) .i64 (i : Int) Tryz.underlying9,dif_pos ⟨by omega,by rw [hz]; omega⟩]
 congr 2
 have : ((txOf f)[((i : Int)).toNat]'(by rw [hz]; omega)).toNat = f[i].1 * 8 + f[i].2 := by
  show (((f.map fun k => UInt8.ofNat (k.1 * 8 + k.2)).toArray)[i]'(by simpa using hi)).toNat = _
  simp
  omega
 first | exact congrArg (fun n : Nat => (n : Int)) this | (rw [this])
theorem qb5 {op p : Nat} (ho : op ≤ 23) (hp : p ≤ 7) : bits .and .u8 ((op * 8 + p : Nat) : Int) 7 = (p : Int) ∧ ((op * 8 + p : Nat) : Int) / 8 = (op : Int) := by
 refine ⟨?_,by omega⟩
 rcases q26 ho with rfl | rfl | rfl | rfl | rfl | rfl | rfl | rfl | rfl | rfl | rfl | rfl | rfl | rfl | rfl | rfl | rfl | rfl | rfl | rfl | rfl | rfl | rfl | rfl <;>
 ·have : p = 0 ∨ p = 1 ∨ p = 2 ∨ p = 3 ∨ p = 4 ∨ p = 5 ∨ p = 6 ∨ p = 7 := by omega
  rcases this with rfl | rfl | rfl | rfl | rfl | rfl | rfl | rfl <;> decide
theorem q5v (f : List Tk) (hs : SmT f) (hl : f.length ≤ 20000000) (w : World) :
  Calls Tryz.prog 57 #[.string (txOf f)] w fun e w' => e = .returned (.slice (some ⟨w.heap.size,0,none⟩) f.length f.length) ∧ RowK w' w.heap.size f ∧ Below w.heap.size w w' := by
 have hz : (txOf f).size = f.length := by unfold txOf; simp [ByteArray.size]
 have hmk := q86 f.length (by omega) w
 have HR0 : Hid (RowK (w.alloc (.cells (encT (List.replicate f.length (0,0))).toArray 61)) w.heap.size (List.replicate f.length (0,0))) := (MapKept.heap_alloc w _).1
 have HB0 : Hid _ := qe w (.cells (encT (List.replicate f.length (0,0))).toArray 61)
 have HS : Hid _ := hs
 have HBY : Hid (∀ (i : Nat) (t : Tk),f[i]? = some t → ∀ w',(Instr.index 9 (.string (txOf f)) (.int .i64 (i : Int))).run Tryz.prog w' = .ok (.int .u8 ((t.1 * 8 + t.2 : Nat) : Int)) w') := fun i t h w' => by
  obtain ⟨h1,rfl⟩ := List.getElem?_eq_some_iff.1 h
  exact qb3 f i h1 (hs _ (List.getElem_mem h1)) w'
 clear hs
 generalize txOf f = s at *
 generalize hL : f.length = L at *
 have HL : Hid (f.length = L) := hL
 clear hL
 go_enter Tryz.func57,Tryz.ntmps57
 go_wp2
 go_loopw [10] (fun i wr => ∃ (k : Nat) (cur : List Tk),k ≤ L ∧ i = .int .i64 (k : Int) ∧ Hid (RowK wr w.heap.size cur) ∧ Hid (cur.length = L) ∧ Hid (∀ j,j < k → cur[j]? = f[j]?) ∧ Hid (Below w.heap.size w wr)) (fun i _ => L - (intOf i).toNat)
 case atStart => exact ⟨0,List.replicate L (0,0),Nat.zero_le _,rfl,HR0,by simp [Hid],fun j hj => absurd hj (by omega),HB0⟩
 case round =>
  clear HR0 HB0 hmk
  obtain ⟨k,cur,hk,rfl,HR,HCL,HALL,HB⟩ := hrel
  by_cases hlt : k < L
  ·have hkf : k < f.length := by have := HL.out; omega
   have hkc : k < cur.length := by have := HCL.out; omega
   have hby := HBY.out k f[k] (List.getElem?_eq_getElem hkf)
   have hsm := HS.out f[k] (List.getElem_mem hkf)
   have hix := fun w' => qbQ w.heap.size L k hlt w'
   obtain ⟨y0,c0⟩ : ∃ y : Int,wr.cell? ⟨w.heap.size,2 * k,none⟩ = some (.int .u8 y) := ⟨_,HR.out.c0 hkc⟩
   obtain ⟨y1,c1⟩ : ∃ y : Int,wr.cell? ⟨w.heap.size,2 * k + 1,none⟩ = some (.int .u8 y) := ⟨_,HR.out.c1 hkc⟩
   have z0 := HR.out.frozen (2 * k)
   have z1 := HR.out.frozen (2 * k + 1)
   have hbp := qb5 hsm.1 hsm.2
   have HRS : Hid _ := HR.out.set k f[k]
   have HCS : Hid ((cur.set k f[k]).length = L) := by show _ = _; rw [List.length_set]; exact HCL.out
   have HAS : Hid (∀ j,j < k + 1 → (cur.set k f[k])[j]? = f[j]?) := fun j hj => by
    by_cases e : j = k
    ·subst e
     rw [List.getElem?_set_self hkc,List.getElem?_eq_getElem hkf]
    ·rw [List.getElem?_set_ne (fun h => e h.symm)]
     exact HALL.out j (by omega)
   have HBS : Hid (Below w.heap.size w ((wr.setCell ⟨w.heap.size,2 * k,none⟩ (.int .u8 (f[k].1 : Int))).setCell ⟨w.heap.size,2 * k + 1,none⟩ (.int .u8 (f[k].2 : Int)))) := (HB.out.setCell (Nat.le_refl _) _).setCell (Nat.le_refl _) _
   obtain ⟨t,ht⟩ : ∃ t,t = f[k] := ⟨_,rfl⟩
   rw [← ht] at hby hsm hbp HRS HCS HAS HBS
   obtain ⟨op,p⟩ := t
   dsimp only at *
   clear ht HR HALL HB hkf hkc hsm
   have HE1 : Hid (((op : Int) * 8 + (p : Int)) / 8 = (op : Int)) := by show _ = _; have := hbp.2; simpa using this
   have HE2 : Hid (bits .and .u8 ((op : Int) * 8 + (p : Int)) 7 = (p : Int)) := by show _ = _; have := hbp.1; simpa using this
   clear hbp
   go_upto_region 40 with fail
   go_region
   rw [HE1.out,HE2.out]
   go_wp2
   go_roundw
   case rel => exact ⟨k + 1,cur.set k (op,p),by omega,by go_num,HRS,HCS,HAS,HBS.out.drew⟩
   case measure => simp [intOf] <;> omega
  ·obtain rfl : k = L := by omega
   have e : cur = f := List.ext_getElem? fun j => by
    by_cases hj : j < k
    ·exact HALL.out j hj
    ·rw [List.getElem?_eq_none (by have := HCL.out; omega),List.getElem?_eq_none (by have := HL.out; omega)]
   subst e
   go_wp2
   go_ret
   exact ⟨rfl,HR.out,HB.out⟩
def SlAt (w : World) (g : Nat) (rs : List Pc) : Prop := w.heap[g]? = some (.cells (rs.map fun r => Value.slice r.a r.len r.cap).toArray 22 (0,0))
theorem SlAt.lt {w : World} {g : Nat} {rs : List Pc} (h : SlAt w g rs) : g < w.heap.size := (Array.getElem?_eq_some_iff.1 h).1
theorem SlAt.cell {w : World} {g : Nat} {rs : List Pc} (h : SlAt w g rs) {i : Nat} (hi : i < rs.length) : w.cell? ⟨g,i,none⟩ = some (.slice rs[i].a rs[i].len rs[i].cap) := by
 unfold SlAt at h
 rw [qb h i]
 simp [hi]
theorem SlAt.fz {w : World} {g : Nat} {rs : List Pc} (h : SlAt w g rs) (i : Nat) : w.frozen? ⟨g,i,none⟩ = false := frozen_of_row w g i _ _ h
theorem SlAt.set {w : World} {g : Nat} {rs : List Pc} (h : SlAt w g rs) (i : Nat) (r : Pc) : SlAt (w.setCell ⟨g,i,none⟩ (.slice r.a r.len r.cap)) g (rs.set i r) := by
 unfold SlAt at h ⊢
 rw [heap_setCell_same w g i _ _ _ h]
 congr 2
 simp
theorem q9q : (Tryz.prog.info? 22).map (·.size) = some 1 := by kernel_rfl
theorem qbq (g n i : Nat) (hi : i < n) (w : World) : (Instr.indexAt 50 (.slice (some ⟨g,0,none⟩) n n) (.int .i64 (i : Int))).run Tryz.prog w = .ok (.pointer (some ⟨g,i,none⟩)) w := by
 simp [Instr.indexAt,run_underlying Tryz.underlying50,asIntOf,q1k q9q,hi,Result.andThen,go_sem,qn]
theorem q9U : (Tryz.prog.info? 22).map (fun i => (i.zero,i.size,i.bytes)) = some (some (.slice none 0 0),1,24) := by kernel_rfl
theorem qdX (n : Nat) : madeCells #[.slice none 0 0] n = Array.replicate n (Value.slice none 0 0) := by
 unfold madeCells
 apply Array.ext
 ·simp
 ·intro i h1 h2
  simp [Nat.mod_one]
theorem q9D (l : Nat) (hb : l ≤ 100) (w : World) :
  (Instr.makeSlice 50 (.int .i64 (l : Int)) (.int .i64 (l : Int))).run Tryz.prog w = .ok (.slice (some ⟨w.heap.size,0,none⟩) l l) (w.alloc (.cells (Array.replicate l (Value.slice none 0 0)) 22)) := by
 obtain ⟨i,hi,hz0,hz1,hz2⟩ := info_parts q9U
 have := run_make (P := Tryz.prog) w 50 22 i (.slice none 0 0) Tryz.underlying50 hi hz0 .i64 .i64 (l : Int) (l : Int) (by omega) (by omega) (by rw [hz2]; omega) (by omega)
 rw [this,hz1]
 simp only [Int.toNat_natCast,Nat.mul_one]
 have e : (Value.slice none 0 0).cells = #[.slice none 0 0] := rfl
 rw [e,qdX]
structure AtL (wr : World) (gA m k : Nat) (rs : List Pc) (M : Mt) : Prop where
 row : SlAt wr gA rs
 len : rs.length = m
 ts : ∀ j : Nat,j < k → (rs[j]?).map (·.ts) = M[j]?
 tk : ∀ r ∈ rs,TkSl wr r.a r.len r.cap r.ts ∧ ∀ x,r.a = some x → gA < x.block
theorem AtL.fr {wr w' : World} {gA m k : Nat} {rs : List Pc} {M : Mt} {F F' : Nat → Prop} (h : AtL wr gA m k rs M) (fr : Fr wr w' F F') (hF : ∀ k,F k → k < gA) : AtL w' gA m k rs M :=
 ⟨(fr.keep gA h.row.lt (fun e => Nat.lt_irrefl _ (hF _ e))).trans h.row,h.len,h.ts,fun r hr => ⟨fr.tks (h.tk r hr).1 (fun _ x hx e => by have := hF _ e; have := (h.tk r hr).2 x hx; omega),(h.tk r hr).2⟩⟩
theorem AtL.set {wr : World} {gA m k : Nat} {rs : List Pc} {M : Mt} (h : AtL wr gA m k rs M) {f : List Tk} {g : Nat} (hk : k < m) (hM : M[k]? = some f) (hR : TkSl wr (some ⟨g,0,none⟩) f.length f.length f) (hg : gA < g) : AtL (wr.setCell ⟨gA,k,none⟩ (.slice (some ⟨g,0,none⟩) f.length f.length)) gA m (k + 1) (rs.set k ⟨some ⟨g,0,none⟩,f.length,f.length,f⟩) M := by
 have hkeep : ∀ {a : Option Addr} {len cap : Nat} {ts : List Tk},TkSl wr a len cap ts → (∀ x,a = some x → gA < x.block) → TkSl (wr.setCell ⟨gA,k,none⟩ (.slice (some ⟨g,0,none⟩) f.length f.length)) a len cap ts := fun {a len cap ts} hT hx => by
  have fr : Fr wr (wr.setCell ⟨gA,k,none⟩ (.slice (some ⟨g,0,none⟩) f.length f.length)) (fun j => j = gA) (fun j => j = gA) := ⟨rfl,rfl,rfl,by simp,fun j hj hF => Below.heap_setCell _ _ _ _ hF,fun j hj => Or.inl hj⟩
  exact fr.tks hT (fun _ x e e2 => by have := hx x e; omega)
 refine ⟨h.row.set k ⟨some ⟨g,0,none⟩,f.length,f.length,f⟩,by simp [h.len],fun j hj => ?_,fun r hr => ?_⟩
 ·by_cases e : j = k
  ·subst e
   rw [List.getElem?_set_self (by rw [h.len]; exact hk),hM]; rfl
  ·rw [List.getElem?_set_ne (fun h => e h.symm)]
   exact h.ts j (by omega)
 ·rcases List.mem_or_eq_of_mem_set hr with hr | rfl
  ·exact ⟨hkeep (h.tk r hr).1 (h.tk r hr).2,(h.tk r hr).2⟩
  ·refine ⟨hkeep hR fun x hx => ?_,fun x hx => ?_⟩ <;> (injection hx with hx; subst hx; exact hg)
theorem AtL.fin {wr : World} {gA m : Nat} {rs : List Pc} {M : Mt} (h : AtL wr gA m m rs M) (hm : m = M.length) (h100 : m ≤ 100) : RwSl wr (some ⟨gA,0,none⟩) m m rs ∧ rs.map (·.ts) = M := by
 refine ⟨⟨h.len,Nat.le_refl _,by unfold maxLen; omega,fun e => (by cases e),fun x hx k hk => ?_,fun r hr => (h.tk r hr).1⟩,List.ext_getElem? fun j => ?_⟩
 ·injection hx with hx
  subst hx
  rw [qn,Nat.zero_add]
  exact h.row.cell hk
 ·by_cases hj : j < m
  ·rw [List.getElem?_map]; exact h.ts j hj
  ·rw [List.getElem?_eq_none (by simp [h.len]; omega),List.getElem?_eq_none (by omega)]
theorem AtL.new (w : World) (m : Nat) (M : Mt) : AtL (w.alloc (.cells (Array.replicate m (Value.slice none 0 0)) 22)) w.heap.size m 0 (List.replicate m ⟨none,0,0,[]⟩) M := by
 refine ⟨?_,by simp,fun j hj => absurd hj (by omega),fun r hr => ?_⟩
 ·unfold SlAt
  rw [(MapKept.heap_alloc w _).1]
  simp
 have := List.eq_of_mem_replicate hr
 subst this
 exact ⟨⟨rfl,Nat.le_refl _,Nat.zero_le _,fun _ => rfl,fun x hx => (by cases hx),fun x hx => (by cases hx),fun t ht => (by cases ht)⟩,fun x hx => (by cases hx)⟩
structure AtG (T0 : Tr) (w wr : World) (F G : Nat → Prop) (p mn : Nat) (vm vs : Value) (items : List It) (met : List Nat) (M : Mt) (m k : Nat) (rs : List Pc) : Prop where
 r : PgR T0 wr G p mn vm vs items met M
 fr : Fr w wr F F
 l : AtL wr w.heap.size m k rs M
theorem q6D {T0 : Tr} {p : Nat} {vs : Value} {w : World} {F : Nat → Prop} {items : List It} {M : Mt} (h : PgO T0 w F p vs items M) :
  Calls Tryz.prog 24 #[.pointer (some ⟨p,0,none⟩)] w fun e w' => ∃ rs,e = .returned (.slice (some ⟨w.heap.size,0,none⟩) M.length M.length) ∧ RwSl w' (some ⟨w.heap.size,0,none⟩) M.length M.length rs ∧ rs.map (·.ts) = M ∧ PgO T0 w' F p vs items M ∧ Fr w w' F F ∧ ∀ r ∈ rs,∀ x,r.a = some x → w.heap.size < x.block := by
 have jm := q1L h
 obtain ⟨G,mn,vm,met,hr,hF⟩ := h.ex
 have hml : met.length = M.length := hr.met.1
 have hfew : M.length ≤ 64 := h.few
 obtain ⟨ma,mc,rfl⟩ := qH hr.row
 rw [hml] at hr hF
 have hlt := h.lt
 have c5 := hr.c5
 have hmk := q9D M.length (by omega) w
 have hb0 := qe w (.cells (Array.replicate M.length (Value.slice none 0 0)) 22)
 have hr0 := hr.far (w' := w.alloc (.cells (Array.replicate M.length (Value.slice none 0 0)) 22)) fun k hk => hb0.block k (hr.lt k hk)
 have c5b := hr0.c5
 have HG0 : Hid (AtG T0 w _ F G p mn _ vs items met M M.length 0 _) := ⟨hr0,Fr.ofBelow hb0,AtL.new w M.length M⟩
 have HH : Hid _ := h
 have HF : Hid _ := hF
 have HLT : Hid _ := hlt
 have HML : Hid _ := hml
 have HX : Hid (M.length = M.length) := rfl
 clear h hr hF hlt hml hb0 hr0
 obtain ⟨m,hm⟩ : ∃ m,m = M.length := ⟨_,rfl⟩
 rw [← hm] at HG0 HML HF c5 c5b hmk hfew ⊢
 have HM : Hid _ := hm
 clear hm HX
 go_enter Tryz.func24,Tryz.ntmps24
 go_wp2_with fail
 refine jm.mono ?_
 rintro e w1 ⟨rfl,hw1⟩
 obtain rfl := hw1.symm
 clear jm
 go_wp2
 go_loopw [20] (fun i wr => ∃ (k : Nat) (rs : List Pc),k ≤ m ∧ i = .int .i64 (k : Int) ∧ Hid (AtG T0 w wr F G p mn (.slice ma m mc) vs items met M m k rs)) (fun i _ => m - (intOf i).toNat)
 case atStart => exact ⟨0,_,Nat.zero_le _,rfl,HG0⟩
 case round =>
  clear HG0 c5 c5b hmk
  obtain ⟨k,rs,hk,rfl,HG⟩ := hrel
  by_cases hlt : k < m
  ·obtain ⟨g,o,j,S,hidx,hcj,hrep,kS,hMk⟩ := HG.out.r.metAt HH.out.of (Below.refl _ _) k hlt HML.out
   have hS : InC T0 S := by
    obtain ⟨S2,h2,h3⟩ := HG.out.r.po.cov j hrep.lt
    have := Rep.tree hrep h2
    subst this; exact h3
   have jt := q2N HG.out.r.po j S hrep hS
   have hsm : SmT S.flat := q6j HG.out.r.po.t0.kt hS
   have hsz : S.flat.length ≤ 20000000 := by rw [q1T]; exact (q3d HG.out.r.po.t0.sz hS).1
   have HTX : Hid (txB S = txOf S.flat) := rfl
   have HSM : Hid _ := hsm
   have HSZ : Hid _ := hsz
   have HMK : Hid _ := hMk
   clear hrep kS hMk hS hsm hsz
   generalize S.flat = f at *
   go_wp2_with fail
   refine jt.mono ?_
   rintro e w2 ⟨rfl,hTx⟩
   have hp2 := HG.out.r.part hTx.1 (List.prefix_refl _) hTx.2
   rw [HTX.out]
   have jk := q5v f HSM.out HSZ.out w2
   have fr2 : Fr wr w2 F F := hp2.2.alike (fun k hk => (HF.out k).2 hk) (fun k hk => (HF.out k).1 hk)
   have HL2 : Hid _ := HG.out.l.fr fr2 HLT.out
   have HR2 : Hid _ := hp2.1
   have HFR2 : Hid _ := HG.out.fr.trans fr2
   clear jt hTx hp2 fr2 hcj hidx HTX
   generalize txOf f = tx at *
   generalize hfl : f.length = fl at *
   have HFL : Hid _ := hfl
   clear hfl
   go_wp2_with fail
   refine jk.mono ?_
   rintro e w3 ⟨rfl,hRow,hb3⟩
   have hl3 : AtL w3 w.heap.size m k rs M := HL2.out.fr (Fr.ofBelow (F := F) hb3) HLT.out
   have hkr : k < rs.length := by rw [hl3.len]; exact hlt
   have cS := hl3.row.cell hkr
   have zS := hl3.row.fz k
   have hix := fun w' => qbq w.heap.size m k hlt w'
   have hgt : w.heap.size < w2.heap.size := HL2.out.row.lt
   have hTk := hRow.tk (by have := HSZ.out; have := HFL.out; unfold maxLen; omega) (fun t ht => by have := HSM.out t ht; omega)
   have HNX : Hid _ := hl3.set hlt HMK.out hTk hgt
   have HRX : Hid (PgR T0 (w3.setCell ⟨w.heap.size,k,none⟩ (.slice (some ⟨w2.heap.size,0,none⟩) f.length f.length)) G p mn (.slice ma m mc) vs items met M) := HR2.out.far fun j hj => by
    have h1 := HLT.out j ((HF.out j).2 hj)
    exact (Below.heap_setCell _ _ _ _ (by dsimp only; omega)).trans (hb3.block j (HR2.out.lt j hj))
   have HFX : Hid (Fr w (w3.setCell ⟨w.heap.size,k,none⟩ (.slice (some ⟨w2.heap.size,0,none⟩) f.length f.length)) F F) := by
    have h1 := HFR2.out.trans (Fr.ofBelow hb3)
    exact ⟨h1.os,h1.tape,h1.output,by simp; exact h1.size,fun j hj hn => (Below.heap_setCell _ _ _ _ (by dsimp only; omega)).trans (h1.keep j hj hn),h1.foot⟩
   have HG3 : Hid _ := AtG.mk HRX.out HFX.out HNX.out
   rw [HFL.out] at HG3
   obtain ⟨qa,ql,qc,hcs⟩ : ∃ qa ql qc,w3.cell? ⟨w.heap.size,k,none⟩ = some (.slice qa ql qc) := ⟨_,_,_,cS⟩
   clear jk hRow hb3 hl3 hkr cS hTk HNX HRX HFX HL2 HR2 HFR2 HG
   go_wp2
   go_roundw
   case rel => exact ⟨k + 1,_,by omega,by go_num,HG3⟩
   case measure => simp [intOf] <;> omega
  ·obtain rfl : k = m := by omega
   have hfin := HG.out.l.fin HM.out (by omega)
   have HE : Hid (∃ rs,RwSl wr (some ⟨w.heap.size,0,none⟩) k k rs ∧ rs.map (·.ts) = M ∧ PgO T0 wr F p vs items M ∧ Fr w wr F F ∧ ∀ r ∈ rs,∀ x,r.a = some x → w.heap.size < x.block) :=
    ⟨rs,hfin.1,hfin.2,⟨HH.out.few,HH.out.nd,HH.out.of,G,mn,_,met,HG.out.r,HF.out⟩,HG.out.fr,fun r hr => (HG.out.l.tk r hr).2⟩
   clear hfin HG
   go_wp2
   go_ret
   obtain ⟨rs,h1,h2,h3,h4,h5⟩ := HE.out
   exact ⟨rs,rfl,h1,h2,h3,h4,h5⟩
theorem qa8 : ProgC2 Prg where
 atoms := fun {_ F _ _ _} ⟨T0,q,d,items,h⟩ => (q6D h.o).mono fun _ _ ⟨rs,he,h1,h2,hO,fr,_⟩ => ⟨_,_,F,rs,he,h1,h2,⟨T0,q,d,items,hO,h.u.fr fr,h.l,h.g⟩,fr⟩
theorem qda (w : World) (hT : Tab64 w) : Calls Tryz.prog 5 #[] w (BR true w) := q6v q69 qa8 w hT
end Go.Proofs.YtejekdenpefoiaaGreatDoor
