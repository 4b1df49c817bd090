/- Texts of the proof, put together: what it uses. -/
import Derived.Deep.RegionLaw
import Derived.Deep.RegionHeld3
import Derived.Test.YthhbhadcjofelaaZ02
import Derived.Test.YthhbhadcjofelaaZ08
import Derived.Test.YthhbhadcjofelaaZ12
import Derived.Test.YthhbhadcjofelaaZ13
set_option maxRecDepth 100000
set_option maxHeartbeats 16000000
namespace Go.Proofs.Ythhbhadcjofelaa
open Go.RowKit Go.Maps Go.Sort
def saidS (u : SgX) (q i : Nat) : Nat := if u.wins then (u.p q).getD i 0 else u.c q
theorem q38 (n q i : Nat) (aR : Option Addr) (cR : Nat) (aP : Option Addr) (cP : Nat) (aC : Option Addr) (cC : Nat) (u : SgX) (w : World) (hU : SgW w aR n cR aP n cP aC n cC u) (hq : q < n) (hi : u.wins = true → i < (u.p q).length) :
  Calls Try.prog 71 #[.agg #[.bool u.wins,.slice aR n cR,.slice aP n cP,.slice aC n cC],.int .i64 (q : Int),.int .i64 (i : Int)] w fun e w' => e = .returned (.int .u8 ((saidS u q i : Nat) : Int)) ∧ Below w.heap.size w w' := by
 obtain ⟨Q,hQ⟩ : ∃ Q : Ending → World → Prop,Q = fun e w' => e = .returned (.int .u8 ((saidS u q i : Nat) : Int)) ∧ Below w.heap.size w w' := ⟨_,rfl⟩
 have HQ : Hid (∀ w',Below w.heap.size w w' → Q (.returned (.int .u8 ((saidS u q i : Nat) : Int))) w') := fun w' h => by rw [hQ]; exact ⟨rfl,h⟩
 rw [← hQ]
 clear hQ
 obtain ⟨w1,hw1⟩ : ∃ w1,w1 = w.alloc (.cells #[.bool u.wins,.slice aR n cR,.slice aP n cP,.slice aC n cC] 33 (0,0)) := ⟨_,rfl⟩
 have hb1 : Below w.heap.size w w1 := by rw [hw1]; exact qb _ _
 have hk1 : w1.heap[w.heap.size]? = some (.cells #[.bool u.wins,.slice aR n cR,.slice aP n cP,.slice aC n cC] 33 (0,0)) := by rw [hw1]; exact (MapKept.heap_alloc w _).1
 have HW1 : Hid _ := hw1
 have hU1 := hU.up hb1
 have t0 := q8 hk1 0
 have t2 := q8 hk1 2
 have t3 := q8 hk1 3
 cases hw : u.wins with
 | true =>
  have hlt := hi hw
  rw [saidS,if_pos hw] at HQ
  have HE : Hid _ := HQ.out w1 hb1
  obtain ⟨rs,hP,hrs⟩ := hU1.p
  obtain ⟨g,o,sp,r,hr,hi,hc,hl,hz⟩ := hP.at q hq
  have hpq : u.p q = r.ts := by
   have : u.rep[q]? = some r.ts := by rw [← hrs,List.getElem?_map,hr]; rfl
   rw [SgX.p,List.getD_eq_getElem?_getD,this]; rfl
  rw [hpq] at hlt HE
  have hrl : r.ts.length = r.len := by have := hl.hlen; rwa [List.length_map] at this
  obtain ⟨ra,rn,rc,rt⟩ := r
  dsimp only at *
  obtain rfl : rt.length = rn := hrl
  have ixi := fun w' => hl.idx rt.length i w' hlt (Nat.le_refl _)
  have cei := hl.cell i hlt
  rw [qh hlt] at cei
  rw [hw] at t0 HW1
  clear HQ hw1 hb1 hk1 hU hU1 hP hrs hr hl hz hpq hlt t3 hw
  generalize rt.getD i 0 = z at *
  generalize adOf ra i = ad at *
  obtain ⟨ad1,ad2,ad3⟩ := ad
  go_enter Try.func71,Try.ntmps71
  go_wp2_with (rw [← HW1.out])
  exact HE.out
 | false =>
  rw [saidS,if_neg (by rw [hw]; decide)] at HQ
  have HE : Hid _ := HQ.out w1 hb1
  have hcl : u.cho.length = n := by have := hU1.c.hlen; rwa [List.length_map] at this
  have ixc := fun w' => hU1.c.idx n q w' hq (Nat.le_refl _)
  have cec := hU1.c.cell q hq
  rw [qh (by rw [hcl]; exact hq)] at cec
  obtain ⟨z,hz⟩ : ∃ z,u.c q = z := ⟨_,rfl⟩
  rw [hz] at HE
  rw [show u.cho.getD q 0 = z from hz] at cec
  rw [hw] at t0 HW1
  clear HQ hw1 hb1 hk1 hU hU1 hcl hz t2 hw hi
  generalize adOf aC q = ad at *
  obtain ⟨ad1,ad2,ad3⟩ := ad
  go_enter Try.func71,Try.ntmps71
  go_wp2_with (rw [← HW1.out])
  exact HE.out
theorem q4C {x y q m i mv : Nat} {u : SgX} (hmv : mv = if u.wins then x else y) (hm : m &&& mv = m) (hi : i < (mvL mv).length) (h : (mvL mv).getD i 0 = m) : rndS x y u q m = some (saidS u q i ||| m) := by
 unfold rndS saidS
 cases hw : u.wins with
 | true =>
  rw [hw,if_pos rfl] at hmv
  subst hmv
  have := q3F hi
  rw [h] at this
  rw [if_pos rfl,if_pos hm,if_pos rfl,this]
 | false =>
  rw [hw,if_neg (by decide)] at hmv
  subst hmv
  rw [if_neg (by decide),if_pos hm,if_neg (by decide)]
theorem q5r {x y q m mv : Nat} {u : SgX} (hmv : mv = if u.wins then x else y) (hm : ¬ m &&& mv = m) : rndS x y u q m = none := by
 unfold rndS
 cases hw : u.wins with
 | true =>
  rw [hw,if_pos rfl] at hmv
  subst hmv
  rw [if_pos rfl,if_neg hm]
 | false =>
  rw [hw,if_neg (by decide)] at hmv
  subst hmv
  rw [if_neg (by decide),if_neg hm]
theorem q5d {G : GmP} (hO : GmO G) {q m i mv : Nat} {u : SgX} (hK : KeepS G.t (acA G.bs) G.nA G.x G.y u) (hq : q < G.nA) (hmv : mv = if u.wins then G.x else G.y) (hm : m &&& mv = m) (hi : i < (mvL mv).length) (h : (mvL mv).getD i 0 = m) (h0 : u.wins = true → 0 < u.r q) (h1 : u.wins = false → u.r q < 0) : m ||| saidS u q i < 2 ^ G.p.toNat ∧ (u.wins = true → i < (u.p q).length) ∧ saidS u q i < 256 := by
 unfold saidS
 cases hw : u.wins with
 | true =>
  rw [hw,if_pos rfl] at hmv
  subst hmv
  obtain ⟨k1,_,k3⟩ := (hK.one q hq).2.2.2.1 (h0 hw)
  have k4 := (k3 i hi).1
  rw [if_pos rfl]
  exact ⟨hO.lt hm k4,fun _ => by rw [k1]; exact hi,q15 hO.y8 k4⟩
 | false =>
  rw [hw,if_neg (by decide)] at hmv
  subst hmv
  obtain ⟨_,k2,_⟩ := (hK.one q hq).2.2.2.2 (h1 hw)
  rw [if_neg (by decide),Nat.or_comm]
  exact ⟨hO.lt k2 hm,fun h => (by cases h),q15 hO.x8 k2⟩
def PlyR (G : GmP) (u : SgX) (ms : List Nat) (X : Int) (r : List Int) : Prop :=
 (plyS G.t (acA G.bs) G.x G.y u 0 ms = none ∧ X = 14 ∧ r = []) ∨ ∃ l,plyS G.t (acA G.bs) G.x G.y u 0 ms = some l ∧ X = 0 ∧ r = l.map Int.ofNat
theorem q1O (w : World) : ZSl w none 0 0 [] := ⟨rfl,Nat.le_refl _,Nat.zero_le _,fun m k w hk hm => absurd hk (by omega),fun k hk => absurd hk (by omega),fun k hk => absurd hk (by omega),fun _ => rfl⟩
theorem q2L (G : GmP) (aR : Option Addr) (cR : Nat) (aP : Option Addr) (cP : Nat) (aC : Option Addr) (cC : Nat) (u : SgX) (aM : Option Addr) (nM cM : Nat) (ms : List Nat) (w : World) (hO : GmO G) (hW : GmW G w) (hU : SgW w aR G.nA cR aP G.nA cP aC G.nA cC u) (hMs : LtC w aM nM cM ms) (hms : ∀ z ∈ ms,z < 256) (hK : KeepS G.t (acA G.bs) G.nA G.x G.y u) (hm4 : nM ≤ 1024) :
  Calls Try.prog 43 #[G.v,.agg #[.bool u.wins,.slice aR G.nA cR,.slice aP G.nA cP,.slice aC G.nA cC],.slice aM nM cM] w fun e w' => Below w.heap.size w w' ∧ ∃ (a : Option Addr) (c : Nat) (X : Int) (r : List Int),e = .returned (.tuple #[.slice a r.length c,.int .i64 X]) ∧ Hid (PlyR G u ms X r) ∧ Hid (ZSl w' a r.length c r) := by
 obtain ⟨Q,hQ⟩ : ∃ Q : Ending → World → Prop,Q = fun e w' => Below w.heap.size w w' ∧ ∃ (a : Option Addr) (c : Nat) (X : Int) (r : List Int),e = .returned (.tuple #[.slice a r.length c,.int .i64 X]) ∧ Hid (PlyR G u ms X r) ∧ Hid (ZSl w' a r.length c r) := ⟨_,rfl⟩
 have HQ : Hid (∀ w' a c X r,Below w.heap.size w w' → PlyR G u ms X r → ZSl w' a r.length c r → Q (.returned (.tuple #[.slice a r.length c,.int .i64 X])) w') := fun w' a c X r h h1 h2 => by rw [hQ]; exact ⟨h,a,c,X,r,rfl,h1,h2⟩
 have HQ0 : Hid (∀ w',Below w.heap.size w w' → plyS G.t (acA G.bs) G.x G.y u 0 ms = none → Q (.returned (.tuple #[.slice none 0 0,.int .i64 14])) w') := fun w' h h1 => HQ.out w' none 0 14 [] h (.inl ⟨h1,rfl,rfl⟩) (q1O w')
 rw [← hQ]
 clear hQ
 have hml : ms.length = nM := by have := hMs.hlen; rwa [List.length_map] at this
 obtain ⟨w2,hw2,hb2,hm2⟩ := q3f G aR G.nA cR aP G.nA cP aC G.nA cC u w hW hU
 have HW2 : Hid _ := hw2
 have HB2 : Hid (Below w.heap.size w w2) := hb2
 have HC : Hid (∀ w',Below w2.heap.size w2 w' → GsM G w' w.heap.size (w.heap.size + 1) aR G.nA cR aP G.nA cP aC G.nA cC u ∧ LtC w' aM nM cM ms) := fun w' hb => ⟨hm2.up hb,(hMs.up hb2).up hb⟩
 have HO : Hid (GmO G) := hO
 have HMS : Hid (∀ z ∈ ms,z < 256) := hms
 have HKP : Hid (KeepS G.t (acA G.bs) G.nA G.x G.y u) := hK
 have HAO : Hid (PyP.Ok ⟨G.t,acA G.bs,G.nA,G.x,G.y,u⟩) := ⟨qJ hO.may hO.sp,by have := hO.may.s1; show 0 < G.nA; omega,hO.x8,hO.y8,hO.sp.1,hK⟩
 have g4 := q8 hm2.g 4
 have g5 := q8 hm2.g 5
 have t0 := q8 hm2.st 0
 have hx := hO.x8
 have hy := hO.y8
 clear hw2 hb2 hm2 hW hU hMs hms hK hO
 obtain ⟨mv,hmv⟩ : ∃ mv,mv = if u.wins then G.x else G.y := ⟨_,rfl⟩
 have HMV : Hid (mv = if u.wins then G.x else G.y) := hmv
 have hmv8 : mv < 256 := by rw [hmv]; split <;> assumption
 clear hmv
 have hO6 : (w2.alloc (.cells #[.int .i64 0] 3)).ownsRow w2.heap.size 3 1 (.slice (some ⟨w2.heap.size,0,none⟩) 1 1) 1 (([] ++ [(0 : Int)]).map (Value.int .i64)) := ⟨rfl,.inr ⟨w2.heap.size,1,#[.int .i64 0],rfl,Nat.le_refl _,(MapKept.heap_alloc w2 _).1,Nat.le_refl _,by decide,rfl,rfl⟩⟩
 obtain ⟨w6,hw6⟩ : ∃ w6,w6 = w2.alloc (.cells #[.int .i64 0] 3) := ⟨_,rfl⟩
 have hb6 : Below w2.heap.size w2 w6 := by rw [hw6]; exact qb _ _
 rw [← hw6] at hO6
 have HO6 : Hid _ := hO6
 have HW6 : Hid _ := hw6
 have HB6 : Hid (Below w2.heap.size w2 w6) := hb6
 clear hw6 hb6 hO6
 go_enter Try.func43,Try.ntmps43
 go_upto_if 19 with (rw [← HW2.out])
 go_cut [1,8,19] (fun p v t wx => p = .agg #[.bool u.wins,.slice aR G.nA cR,.slice aP G.nA cP,.slice aC G.nA cC] ∧ v = .int .u8 (mv : Int) ∧ t = .bool u.wins ∧ wx = w2)
 case first => as_aux_lemma =>
  cases hw : u.wins with
  | true =>
   have hmv := HMV.out
   rw [hw,if_pos rfl] at hmv
   clear HMV
   subst hmv
   clear hmv8
   go_wp2_with fail
   go_meet
   exact ⟨by rw [hw],rfl,by rw [hw],rfl⟩
  | false =>
   have hmv := HMV.out
   rw [hw,if_neg (by decide)] at hmv
   clear HMV
   subst hmv
   clear hmv8
   go_wp2_with fail
   go_meet
   exact ⟨by rw [hw],rfl,by rw [hw],rfl⟩
 case rest =>
 obtain ⟨rfl,rfl,rfl,hwc⟩ := hcut
 obtain rfl := hwc.symm
 clear hwc
 go_wp2_with (rw [← HW6.out])
 clear HW6 g4 g5 t0
 go_loopw [9,10,26] (fun v a i wr => ∃ (k q : Nat) (l : List Nat),k ≤ nM ∧ a = .int .i64 (q : Int) ∧ i = .int .i64 (k : Int) ∧ Hid (l.length = k) ∧ q < G.nA ∧ Hid (wr.ownsRow w2.heap.size 3 1 v (k + 1) ((l.map Int.ofNat ++ [(q : Int)]).map (Value.int .i64))) ∧ Hid (PlyB G.t (acA G.bs) G.x G.y u (ms.take k) l q) ∧ Hid (Below w2.heap.size w2 wr)) (fun _ _ i _ => nM - (intOf i).toNat)
 case atStart => exact ⟨0,0,[],Nat.zero_le _,rfl,rfl,rfl,HAO.out.hn,HO6,by rw [List.take_zero]; exact .nil,HB6⟩
 case round =>
  clear HO6 HB6
  obtain ⟨k,q,l,hk,rfl,rfl,HLK,hq,HOW,HPB,HB⟩ := hrel
  obtain ⟨a,c,rfl,hsl,_⟩ := q58 HOW.out Try.underlying23 qn
  have hfin : plyS G.t (acA G.bs) G.x G.y u q (ms.drop k) = some [q] → Q (.returned (.tuple #[.slice a (k + 1) c,.int .i64 0])) wr := fun h => by
   have hp := HPB.out.bind (ms.drop k)
   rw [List.take_append_drop,h] at hp
   have hr : (l.map Int.ofNat ++ [(q : Int)]) = (l ++ [q]).map Int.ofNat := by rw [List.map_append]; rfl
   have hlen : ((l ++ [q]).map Int.ofNat).length = k + 1 := by rw [List.length_map,List.length_append,HLK.out]; rfl
   rw [hr] at hsl
   have := HQ.out wr a c 0 ((l ++ [q]).map Int.ofNat) (q9 HB2.out HB.out) (.inr ⟨_,hp,rfl,rfl⟩) (by rw [hlen]; exact hsl)
   rw [hlen] at this
   exact this
  have HFI : Hid _ := hfin
  clear hfin hsl
  by_cases hlt : k < nM
  ·have e1 : decide ((k : Int) < (nM : Int)) = true := decide_eq_true (by omega)
   obtain ⟨hm,hMs⟩ := HC.out wr HB.out
   have c1 := q8 hm.g 1
   obtain ⟨ixa,cea⟩ := hm.gw.bo.getQ hq
   have hkl : k < ms.length := by rw [hml]; exact hlt
   have ixm := fun w' => hMs.idx nM k w' hlt (Nat.le_refl _)
   have cem := hMs.cell k hlt
   rw [qh hkl] at cem
   have hm8 : ms.getD k 0 < 256 := HMS.out _ (by rw [qe 0 hkl]; exact List.getElem_mem _)
   obtain ⟨m,hmm⟩ : ∃ z,ms.getD k 0 = z := ⟨_,rfl⟩
   rw [hmm] at cem hm8
   have HMM : Hid _ := hmm
   obtain ⟨aq,haq⟩ : ∃ z,acA G.bs q = z := ⟨_,rfl⟩
   rw [show G.bs.getD q false = aq from haq] at cea
   have HAQ : Hid _ := haq
   clear haq hmm
   generalize adOf G.aA q = aa at *
   obtain ⟨aa1,aa2,aa3⟩ := aa
   generalize adOf aM k = am at *
   obtain ⟨am1,am2,am3⟩ := am
   cases aq with
   | true =>
    have HE : Hid _ := HFI.out (q4x HAQ.out _)
    clear HQ HQ0 HFI hm hMs HOW HPB
    go_wp2
    exact HE.out
   | false =>
    have hinv := PlyB.inv HAO.out HPB.out (fun z hz => HMS.out z (List.mem_of_mem_take hz))
    have hup : u.wins = true → 0 < u.r q := fun hw => by
     have h1 := hinv.2.2.1 hw
     have h2 : ¬ u.r q = 0 := fun h3 => by have := (HKP.out.one q hq).2.1.1 h3; rw [HAQ.out] at this; cases this
     exact Int.lt_iff_le_and_ne.2 ⟨h1,fun e => h2 e.symm⟩
    have hdn : u.wins = false → u.r q < 0 := fun hw => by have : u.r q = -1 := hinv.2.2.2 hw; rw [this]; decide
    have HRD : Hid (∀ t,rndS G.x G.y u q m = some t → G.t q t < G.nA ∧ PlyB G.t (acA G.bs) G.x G.y u (ms.take (k + 1)) (l ++ [q]) (G.t q t)) := fun t ht => by
     have h1 := HAO.out.round hq hm8 hinv.2.2.1 hinv.2.2.2 HAQ.out ht
     have h2 : ms.take (k + 1) = ms.take k ++ [m] := by rw [List.take_add_one,List.getElem?_eq_getElem hkl,← qe 0 hkl,HMM.out]; rfl
     exact ⟨h1.2.2.1,by rw [h2]; exact .cons HPB.out HAQ.out ht⟩
    have HNO : Hid (rndS G.x G.y u q m = none → plyS G.t (acA G.bs) G.x G.y u 0 ms = none) := fun h => by
     have hp := HPB.out.bind (ms.drop k)
     have h2 : ms.drop k = m :: ms.drop (k + 1) := by rw [List.drop_eq_getElem_cons hkl,← qe 0 hkl,HMM.out]
     rw [List.take_append_drop,h2,plyS,if_neg (by rw [HAQ.out]; decide),h] at hp
     rw [hp]; rfl
    have HUP : Hid _ := hup
    have HDN : Hid _ := hdn
    have jnum := qO mv m wr hmv8 hm8
    clear hinv hup hdn hm hMs
    go_wp2_with fail
    refine jnum.mono ?_
    rintro e w8 ⟨rfl,n,E,rfl,hN⟩
    have HN : Hid _ := hN
    clear jnum hN c1 ixa cea ixm cem
    rcases HN.out with ⟨hmm,rfl,i,rfl,hi,hiv⟩ | ⟨hmm,rfl,rfl⟩
    rotate_left
    ·have HE : Hid _ := HQ0.out w8 (q9 HB2.out HB.out) (HNO.out (q5r HMV.out hmm))
     clear HQ HQ0 HFI HNO HRD HN hmm HOW HPB HUP HDN
     go_wp2
     exact HE.out
    have hrs := q4C (q := q) HMV.out hmm hi hiv
    obtain ⟨hlo,hil,hs8⟩ := q5d HO.out HKP.out hq HMV.out hmm hi hiv HUP.out HDN.out
    obtain ⟨hq2,hpb2⟩ := HRD.out _ hrs
    rw [Nat.or_comm] at hq2 hpb2
    have hm := (HC.out w8 HB.out).1
    have kS : ∀ dd os,Calls Try.prog 71 #[.agg #[.bool u.wins,.slice aR G.nA cR,.slice aP G.nA cP,.slice aC G.nA cC],.int .i64 (q : Int),.int .i64 (i : Int)] (grow (redrawn w8 dd) os) fun e w'' => e = .returned (.int .u8 ((saidS u q i : Nat) : Int)) ∧ ∃ p : Regrown,w'' = grow (redrawn w8 p.d) p.os := fun dd os => by
     have hb := below_regrown w8 dd os
     refine (q38 G.nA q i aR cR aP cP aC cC u _ (hm.sg.up hb) hq hil).mono ?_
     rintro e w'' ⟨rfl,h2⟩
     exact ⟨rfl,regrown_of_below (q9 hb h2)⟩
    have kN : ∀ dd os,Calls Try.prog 70 #[G.v,.int .i64 (q : Int),.int .u8 ((m ||| saidS u q i : Nat) : Int)] (grow (redrawn w8 dd) os) fun e w'' => e = .returned (.int .i64 ((G.t q (m ||| saidS u q i) : Nat) : Int)) ∧ ∃ p : Regrown,w'' = grow (redrawn w8 p.d) p.os := fun dd os => by
     have hb := below_regrown w8 dd os
     refine (qx G q _ _ HO.out (hm.gw.up hb) hq hlo).mono ?_
     rintro e w'' ⟨rfl,h2⟩
     exact ⟨rfl,regrown_of_below (q9 hb h2)⟩
    have hor := u8_or_nat m (saidS u q i) hm8 hs8
    have HPB2 : Hid _ := hpb2
    have HE : Hid (∀ dd os,Below w8.heap.size w8 (grow (redrawn w8 dd) os)) := fun dd os => below_regrown w8 dd os
    have x0 := cell_regrown (q8 hm.g 0)
    have x1 := cell_regrown (q8 hm.g 1)
    have x2 := cell_regrown (q8 hm.g 2)
    have x3 := cell_regrown (q8 hm.g 3)
    have x4 := cell_regrown (q8 hm.g 4)
    have x5 := cell_regrown (q8 hm.g 5)
    have x6 := cell_regrown (q8 hm.g 6)
    have x7 := cell_regrown (q8 hm.g 7)
    have y0 := cell_regrown (q8 hm.st 0)
    have y1 := cell_regrown (q8 hm.st 1)
    have y2 := cell_regrown (q8 hm.st 2)
    have y3 := cell_regrown (q8 hm.st 3)
    clear hm hpb2 hrs hil hlo hmm HN HNO HRD HUP HDN HQ0 HQ HFI HPB hiv hi
    dsimp only [GmP.v,GmP.cs] at kN
    generalize G.t q (m ||| saidS u q i) = q2 at *
    generalize m ||| saidS u q i = lt at *
    generalize saidS u q i = sd at *
    go_upto_region 13 with fail
    refine wp_region_quiet_below (by kernel_rfl) (by kernel_rfl) ?_
    repeat (go_big_quiet_step (first | (with_reducible exact kS _ _) | (with_reducible exact kN _ _)))
    refine wpQuiet_nil ?_
    intro _ hw'
    obtain ⟨⟨dq,oq⟩,hw''⟩ := hw'
    subst hw''
    have HBZ : Hid (Below w8.heap.size w8 (grow (redrawn w8 dq) oq)) := HE.out dq oq
    clear HE kS kN x0 x1 x2 x3 x4 x5 x6 x7 y0 y1 y2 y3
    generalize grow (redrawn w8 dq) oq = wz at *
    have HOz : Hid (wz.ownsRow w2.heap.size 3 1 (.slice a (k + 1) c) (k + 1) ((l.map Int.ofNat ++ [(q : Int)]).map (Value.int .i64))) := q5b HOW.out HBZ.out
    have HBz : Hid (Below w2.heap.size w2 wz) := HB.out.trans (HBZ.out.mono HB.out.size)
    have HOA : Hid ((wz.alloc (.cells #[.int .i64 (q2 : Int)] 3)).ownsRow w2.heap.size 3 1 (.slice a (k + 1) c) (k + 1) ((l.map Int.ofNat ++ [(q : Int)]).map (Value.int .i64))) := World.ownsRow.alloc HOz.out _
    have HCA : Hid ((wz.alloc (.cells #[.int .i64 (q2 : Int)] 3)).cell? ⟨wz.heap.size,0,none⟩ = some (.int .i64 (q2 : Int))) := q8 (MapKept.heap_alloc wz _).1 0
    have HWA : Hid (Below w2.heap.size w2 (wz.alloc (.cells #[.int .i64 (q2 : Int)] 3))) := HBz.out.alloc HBz.out.size _
    have hszA : w2.heap.size ≤ (wz.alloc (.cells #[.int .i64 (q2 : Int)] 3)).heap.size := HWA.out.size
    have HGE : Hid (∀ q,(Value.slice a (k + 1) c).ownBlock = some q → w2.heap.size ≤ q) := q4h HOz.out
    clear HOz HBz HOW HB HBZ
    go_wp2_with (at_builtin; refine q2T rfl _ _ rfl w2.heap.size _ (k + 1) (l.map Int.ofNat ++ [(q : Int)]) rfl HOA.out wz.heap.size (q2 : Int) rfl HCA.out (by omega) hszA ?_)
    intro v7 w7 hown7 hgr7
    have HO7 : Hid (w7.ownsRow w2.heap.size 3 1 v7 (k + 1 + 1) (((l ++ [q]).map Int.ofNat ++ [(q2 : Int)]).map (Value.int .i64))) := by
     show World.ownsRow _ _ _ _ _ _ _
     have e : (l ++ [q]).map Int.ofNat = l.map Int.ofNat ++ [(q : Int)] := by rw [List.map_append]; rfl
     rw [e]; simpa using hown7
    have HW7 : Hid (Below w2.heap.size w2 w7) := HWA.out.grown hgr7 hszA (fun q e => HGE.out q e)
    have HL7 : Hid ((l ++ [q]).length = k + 1) := by show _ = _; rw [List.length_append,HLK.out]; rfl
    clear hown7 hgr7 HOA HCA HWA hszA HGE
    go_wp2
    go_roundw
    case rel => exact ⟨k + 1,q2,l ++ [q],hlt,rfl,by go_num,HL7,hq2,HO7,HPB2,HW7⟩
    case measure => simp [intOf]; omega
  ·obtain rfl : k = nM := by omega
   have e1 : decide ((k : Int) < (k : Int)) = false := by simp
   have HE : Hid _ := HFI.out (by rw [List.drop_of_length_le (by omega)]; rfl)
   clear HQ HQ0 HFI HOW HPB
   go_wp2
   exact HE.out
theorem q2y (w : World) (g : Nat) (v0 v1 v2 v3 v4 v5 v6 v7 : Value) : (∀ k,k ≠ g → ((((((((w.setCell ⟨g,0,none⟩ v0).setCell ⟨g,1,none⟩ v1).setCell ⟨g,2,none⟩ v2).setCell ⟨g,3,none⟩ v3).setCell ⟨g,4,none⟩ v4).setCell ⟨g,5,none⟩ v5).setCell ⟨g,6,none⟩ v6).setCell ⟨g,7,none⟩ v7).heap[k]? = w.heap[k]?) ∧ ((((((((w.setCell ⟨g,0,none⟩ v0).setCell ⟨g,1,none⟩ v1).setCell ⟨g,2,none⟩ v2).setCell ⟨g,3,none⟩ v3).setCell ⟨g,4,none⟩ v4).setCell ⟨g,5,none⟩ v5).setCell ⟨g,6,none⟩ v6).setCell ⟨g,7,none⟩ v7).heap.size = w.heap.size := by
 refine ⟨fun k hk => ?_,by simp⟩
 rw [Below.heap_setCell _ _ _ _ (by exact hk),Below.heap_setCell _ _ _ _ (by exact hk),Below.heap_setCell _ _ _ _ (by exact hk),Below.heap_setCell _ _ _ _ (by exact hk),Below.heap_setCell _ _ _ _ (by exact hk),Below.heap_setCell _ _ _ _ (by exact hk),Below.heap_setCell _ _ _ _ (by exact hk),Below.heap_setCell _ _ _ _ (by exact hk)]
def zeroGm : Obj := .cells #[.int .i64 0,.slice none 0 0,.slice none 0 0,.slice none 0 0,.int .u8 0,.int .u8 0,.slice none 0 0,.slice none 0 0] 64 (0,0)
theorem q22 {p : Int} {aA : Option Addr} {nA cA : Nat} {aG : Option Addr} {nG cG : Nat} {aN : Option Addr} {nN cN : Nat} {x y b0 b1 : Nat} {W w0 w1 : World} (hb : Below w0.heap.size w0 w1) (h : w0.cell? ⟨b0,0,none⟩ = some (.int .i64 p) ∧ w0.cell? ⟨b0,1,none⟩ = some (.slice aA nA cA) ∧ w0.cell? ⟨b0,2,none⟩ = some (.slice aG nG cG) ∧ w0.cell? ⟨b0,3,none⟩ = some (.slice aN nN cN) ∧ w0.cell? ⟨b1,0,none⟩ = some (.int .u8 (x : Int)) ∧ w0.cell? ⟨b1,1,none⟩ = some (.int .u8 (y : Int)) ∧ Hid (Below W.heap.size W w0)) : w1.cell? ⟨b0,0,none⟩ = some (.int .i64 p) ∧ w1.cell? ⟨b0,1,none⟩ = some (.slice aA nA cA) ∧ w1.cell? ⟨b0,2,none⟩ = some (.slice aG nG cG) ∧ w1.cell? ⟨b0,3,none⟩ = some (.slice aN nN cN) ∧ w1.cell? ⟨b1,0,none⟩ = some (.int .u8 (x : Int)) ∧ w1.cell? ⟨b1,1,none⟩ = some (.int .u8 (y : Int)) ∧ Hid (Below W.heap.size W w1) := by
 obtain ⟨h1,h2,h3,h4,h5,h6,h7⟩ := h
 exact ⟨qd h1 hb,qd h2 hb,qd h3 hb,qd h4 hb,qd h5 hb,qd h6 hb,q9 h7.out hb⟩
theorem ngS_b {p : Int} {aA : Option Addr} {nA cA : Nat} {aG : Option Addr} {nG cG : Nat} {aN : Option Addr} {nN cN : Nat} {x y b0 b1 : Nat} {W w0 : World} (h : w0.cell? ⟨b0,0,none⟩ = some (.int .i64 p) ∧ w0.cell? ⟨b0,1,none⟩ = some (.slice aA nA cA) ∧ w0.cell? ⟨b0,2,none⟩ = some (.slice aG nG cG) ∧ w0.cell? ⟨b0,3,none⟩ = some (.slice aN nN cN) ∧ w0.cell? ⟨b1,0,none⟩ = some (.int .u8 (x : Int)) ∧ w0.cell? ⟨b1,1,none⟩ = some (.int .u8 (y : Int)) ∧ Hid (Below W.heap.size W w0)) : Hid (Below W.heap.size W w0) := h.2.2.2.2.2.2
theorem q3J {p : Int} {aA : Option Addr} {nA cA : Nat} {aG : Option Addr} {nG cG : Nat} {aN : Option Addr} {nN cN : Nat} {x y b0 b1 : Nat} {W w0 : World} {g : Nat} {v0 v1 v2 v3 v4 v5 v6 v7 : Value} (h0 : b0 ≠ g) (h1 : b1 ≠ g) (hg : W.heap.size ≤ g) (h : w0.cell? ⟨b0,0,none⟩ = some (.int .i64 p) ∧ w0.cell? ⟨b0,1,none⟩ = some (.slice aA nA cA) ∧ w0.cell? ⟨b0,2,none⟩ = some (.slice aG nG cG) ∧ w0.cell? ⟨b0,3,none⟩ = some (.slice aN nN cN) ∧ w0.cell? ⟨b1,0,none⟩ = some (.int .u8 (x : Int)) ∧ w0.cell? ⟨b1,1,none⟩ = some (.int .u8 (y : Int)) ∧ Hid (Below W.heap.size W w0)) : ((((((((w0.setCell ⟨g,0,none⟩ v0).setCell ⟨g,1,none⟩ v1).setCell ⟨g,2,none⟩ v2).setCell ⟨g,3,none⟩ v3).setCell ⟨g,4,none⟩ v4).setCell ⟨g,5,none⟩ v5).setCell ⟨g,6,none⟩ v6).setCell ⟨g,7,none⟩ v7).cell? ⟨b0,0,none⟩ = some (.int .i64 p) ∧ ((((((((w0.setCell ⟨g,0,none⟩ v0).setCell ⟨g,1,none⟩ v1).setCell ⟨g,2,none⟩ v2).setCell ⟨g,3,none⟩ v3).setCell ⟨g,4,none⟩ v4).setCell ⟨g,5,none⟩ v5).setCell ⟨g,6,none⟩ v6).setCell ⟨g,7,none⟩ v7).cell? ⟨b0,1,none⟩ = some (.slice aA nA cA) ∧ ((((((((w0.setCell ⟨g,0,none⟩ v0).setCell ⟨g,1,none⟩ v1).setCell ⟨g,2,none⟩ v2).setCell ⟨g,3,none⟩ v3).setCell ⟨g,4,none⟩ v4).setCell ⟨g,5,none⟩ v5).setCell ⟨g,6,none⟩ v6).setCell ⟨g,7,none⟩ v7).cell? ⟨b0,2,none⟩ = some (.slice aG nG cG) ∧ ((((((((w0.setCell ⟨g,0,none⟩ v0).setCell ⟨g,1,none⟩ v1).setCell ⟨g,2,none⟩ v2).setCell ⟨g,3,none⟩ v3).setCell ⟨g,4,none⟩ v4).setCell ⟨g,5,none⟩ v5).setCell ⟨g,6,none⟩ v6).setCell ⟨g,7,none⟩ v7).cell? ⟨b0,3,none⟩ = some (.slice aN nN cN) ∧ ((((((((w0.setCell ⟨g,0,none⟩ v0).setCell ⟨g,1,none⟩ v1).setCell ⟨g,2,none⟩ v2).setCell ⟨g,3,none⟩ v3).setCell ⟨g,4,none⟩ v4).setCell ⟨g,5,none⟩ v5).setCell ⟨g,6,none⟩ v6).setCell ⟨g,7,none⟩ v7).cell? ⟨b1,0,none⟩ = some (.int .u8 (x : Int)) ∧ ((((((((w0.setCell ⟨g,0,none⟩ v0).setCell ⟨g,1,none⟩ v1).setCell ⟨g,2,none⟩ v2).setCell ⟨g,3,none⟩ v3).setCell ⟨g,4,none⟩ v4).setCell ⟨g,5,none⟩ v5).setCell ⟨g,6,none⟩ v6).setCell ⟨g,7,none⟩ v7).cell? ⟨b1,1,none⟩ = some (.int .u8 (y : Int)) ∧ Hid (Below W.heap.size W ((((((((w0.setCell ⟨g,0,none⟩ v0).setCell ⟨g,1,none⟩ v1).setCell ⟨g,2,none⟩ v2).setCell ⟨g,3,none⟩ v3).setCell ⟨g,4,none⟩ v4).setCell ⟨g,5,none⟩ v5).setCell ⟨g,6,none⟩ v6).setCell ⟨g,7,none⟩ v7)) := by
 have hq := q2y w0 g v0 v1 v2 v3 v4 v5 v6 v7
 obtain ⟨k1,k2,k3,k4,k5,k6,k7⟩ := h
 have hw : Below W.heap.size W ((((((((w0.setCell ⟨g,0,none⟩ v0).setCell ⟨g,1,none⟩ v1).setCell ⟨g,2,none⟩ v2).setCell ⟨g,3,none⟩ v3).setCell ⟨g,4,none⟩ v4).setCell ⟨g,5,none⟩ v5).setCell ⟨g,6,none⟩ v6).setCell ⟨g,7,none⟩ v7) := (((((((k7.out.setCell hg _).setCell hg _).setCell hg _).setCell hg _).setCell hg _).setCell hg _).setCell hg _).setCell hg _
 have key : ∀ {a : Addr} {v : Value},a.block ≠ g → w0.cell? a = some v → ((((((((w0.setCell ⟨g,0,none⟩ v0).setCell ⟨g,1,none⟩ v1).setCell ⟨g,2,none⟩ v2).setCell ⟨g,3,none⟩ v3).setCell ⟨g,4,none⟩ v4).setCell ⟨g,5,none⟩ v5).setCell ⟨g,6,none⟩ v6).setCell ⟨g,7,none⟩ v7).cell? a = some v := fun {a v} ha hv => by
  unfold World.cell? at hv ⊢
  rw [hq.1 _ ha]
  exact hv
 exact ⟨key h0 k1,key h0 k2,key h0 k3,key h0 k4,key h1 k5,key h1 k6,hw⟩
theorem qD (p : Int) (aA : Option Addr) (nA cA : Nat) (aG : Option Addr) (nG cG : Nat) (aN : Option Addr) (nN cN : Nat) (x y : Nat) (w : World) (hx : x < 256) (hy : y < 256) :
  Calls Try.prog 33 #[.agg #[.int .i64 p,.slice aA nA cA,.slice aG nG cG,.slice aN nN cN],.agg #[.int .u8 (x : Int),.int .u8 (y : Int)]] w fun e w' => Below w.heap.size w w' ∧ ∃ (aE : Option Addr) (cE : Nat) (aS : Option Addr) (cS : Nat),e = .returned (.agg #[.int .i64 p,.slice aA nA cA,.slice aG nG cG,.slice aN nN cN,.int .u8 (x : Int),.int .u8 (y : Int),.slice aE (mvL x).length cE,.slice aS (mvL y).length cS]) ∧ Hid (LtC w' aE (mvL x).length cE (mvL x)) ∧ Hid (LtC w' aS (mvL y).length cS (mvL y)) := by
 obtain ⟨w1,hw1⟩ : ∃ w1,w1 = w.alloc (.cells #[.int .i64 p,.slice aA nA cA,.slice aG nG cG,.slice aN nN cN] 26 (0,0)) := ⟨_,rfl⟩
 have hb1 : Below w.heap.size w w1 := by rw [hw1]; exact qb _ _
 have hA1 : w1.heap[w.heap.size]? = some (.cells #[.int .i64 p,.slice aA nA cA,.slice aG nG cG,.slice aN nN cN] 26 (0,0)) := by rw [hw1]; exact (MapKept.heap_alloc w _).1
 have HW1 : Hid _ := hw1
 obtain ⟨w2,hw2⟩ : ∃ w2,w2 = w1.alloc (.cells #[.int .u8 (x : Int),.int .u8 (y : Int)] 29 (0,0)) := ⟨_,rfl⟩
 have hb2 : Below w1.heap.size w1 w2 := by rw [hw2]; exact qb _ _
 have hk2 : w2.heap[w1.heap.size]? = some (.cells #[.int .u8 (x : Int),.int .u8 (y : Int)] 29 (0,0)) := by rw [hw2]; exact (MapKept.heap_alloc w1 _).1
 have HW2 : Hid _ := hw2
 obtain ⟨w3,hw3⟩ : ∃ w3,w3 = w2.alloc zeroGm := ⟨_,rfl⟩
 have hb3 : Below w2.heap.size w2 w3 := by rw [hw3]; exact qb _ _
 have hk3 : w3.heap[w2.heap.size]? = some zeroGm := by rw [hw3]; exact (MapKept.heap_alloc w2 _).1
 have HW3 : Hid (w3 = w2.alloc zeroGm) := hw3
 have h12 : w.heap.size ≤ w1.heap.size := hb1.size
 have h23 : w1.heap.size ≤ w2.heap.size := hb2.size
 have HS2 : Hid (w.heap.size ≤ w2.heap.size ∧ Below w.heap.size w w3) := ⟨Nat.le_trans h12 h23,q9 (q9 hb1 hb2) hb3⟩
 have HS3 : Hid (w2.heap.size < w3.heap.size) := (Array.getElem?_eq_some_iff.1 hk3).1
 have HNE : Hid (w.heap.size ≠ w2.heap.size ∧ w1.heap.size ≠ w2.heap.size ∧ w.heap.size ≤ w2.heap.size) := by
  have h1 := (Array.getElem?_eq_some_iff.1 hA1).1
  have h2 := (Array.getElem?_eq_some_iff.1 hk2).1
  exact ⟨by omega,by omega,by omega⟩
 have HC : Hid (∀ w',Below w3.heap.size w3 w' → w'.heap[w.heap.size]? = some (.cells #[.int .i64 p,.slice aA nA cA,.slice aG nG cG,.slice aN nN cN] 26 (0,0)) ∧ w'.heap[w1.heap.size]? = some (.cells #[.int .u8 (x : Int),.int .u8 (y : Int)] 29 (0,0)) ∧ w'.heap[w2.heap.size]? = some zeroGm) := fun w' hb => by
  have h1 := (hb2.block _ (Array.getElem?_eq_some_iff.1 hA1).1).trans hA1
  have h2 := (hb3.block _ (Array.getElem?_eq_some_iff.1 h1).1).trans h1
  have h3 := (hb3.block _ (Array.getElem?_eq_some_iff.1 hk2).1).trans hk2
  exact ⟨(hb.block _ (Array.getElem?_eq_some_iff.1 h2).1).trans h2,(hb.block _ (Array.getElem?_eq_some_iff.1 h3).1).trans h3,(hb.block _ (Array.getElem?_eq_some_iff.1 hk3).1).trans hk3⟩
 have HK1 : Hid (∀ wx,Calls Try.prog 52 #[.int .u8 (x : Int)] wx fun e w' => Below wx.heap.size wx w' ∧ ∃ a,e = .returned (.slice (some ⟨a,0,none⟩) (mvL x).length (mvL x).length) ∧ wx.heap.size ≤ a ∧ LtRow w' a ((mvL x).map Int.ofNat)) := fun wx => (qq x wx hx).mono fun e w' h => ⟨h.2.2,_,h.1,Nat.le_refl _,h.2.1⟩
 have HK2 : Hid (∀ wx,Calls Try.prog 52 #[.int .u8 (y : Int)] wx fun e w' => Below wx.heap.size wx w' ∧ ∃ a,e = .returned (.slice (some ⟨a,0,none⟩) (mvL y).length (mvL y).length) ∧ wx.heap.size ≤ a ∧ LtRow w' a ((mvL y).map Int.ofNat)) := fun wx => (qq y wx hy).mono fun e w' h => ⟨h.2.2,_,h.1,Nat.le_refl _,h.2.1⟩
 obtain ⟨hA,hS,hZ⟩ := HC.out w3 (Below.refl _ _)
 have hs0 : w3.cell? ⟨w.heap.size,0,none⟩ = some (.int .i64 p) ∧ w3.cell? ⟨w.heap.size,1,none⟩ = some (.slice aA nA cA) ∧ w3.cell? ⟨w.heap.size,2,none⟩ = some (.slice aG nG cG) ∧ w3.cell? ⟨w.heap.size,3,none⟩ = some (.slice aN nN cN) ∧ w3.cell? ⟨w1.heap.size,0,none⟩ = some (.int .u8 (x : Int)) ∧ w3.cell? ⟨w1.heap.size,1,none⟩ = some (.int .u8 (y : Int)) ∧ Hid (Below w.heap.size w w3) := ⟨q8 hA 0,q8 hA 1,q8 hA 2,q8 hA 3,q8 hS 0,q8 hS 1,HS2.out.2⟩
 clear hw1 hb1 hA1 hw2 hb2 hk2 hw3 hb3 hk3 hA hS hZ h12 h23
 unfold zeroGm at HW3
 go_enter Try.func33,Try.ntmps33
 go_upto_region 1 with (first | rw [← HW3.out] | rw [← HW2.out] | rw [← HW1.out])
 go_region_held3 (fun w' => w'.cell? ⟨w.heap.size,0,none⟩ = some (.int .i64 p) ∧ w'.cell? ⟨w.heap.size,1,none⟩ = some (.slice aA nA cA) ∧ w'.cell? ⟨w.heap.size,2,none⟩ = some (.slice aG nG cG) ∧ w'.cell? ⟨w.heap.size,3,none⟩ = some (.slice aN nN cN) ∧ w'.cell? ⟨w1.heap.size,0,none⟩ = some (.int .u8 (x : Int)) ∧ w'.cell? ⟨w1.heap.size,1,none⟩ = some (.int .u8 (y : Int)) ∧ Hid (Below w.heap.size w w'))
  (first | with_reducible assumption | with_reducible exact q3J HNE.out.1 HNE.out.2.1 HNE.out.2.2 hsB | with_reducible exact hs0 | with_reducible exact q22 ((Below.refl _ _).drew) hs0 | fail) (first
  | (go_at_call 52; (with_reducible refine (HK1.out _).mono ?_); rintro e wA ⟨hbA,a1,rfl,hn1,hl1⟩; have HLA : Hid (LtRow wA a1 ((mvL x).map Int.ofNat)) := hl1; have HN1 : Hid (w3.heap.size ≤ a1) := Nat.le_trans (show w3.heap.size ≤ w3.drew.heap.size from Nat.le_refl _) hn1; have HBA : Hid (Below w3.heap.size w3 wA) := q9 ((Below.refl w3.heap.size w3).drew) hbA; have hsA := q22 hbA (q22 ((Below.refl _ _).drew) hs0); clear hl1 hbA hn1)
  | (go_at_call 52; (with_reducible refine (HK2.out _).mono ?_); rintro e wB ⟨hbB,a2,rfl,hn2,hl2⟩; have HLB : Hid (LtRow wB a2 ((mvL y).map Int.ofNat)) := hl2; have HLC : Hid (LtRow wB a1 ((mvL x).map Int.ofNat)) := (hbB.block a1 (Array.getElem?_eq_some_iff.1 HLA.out).1).trans HLA.out; have HN2 : Hid (w3.heap.size ≤ a2) := Nat.le_trans HBA.out.size hn2; have hsB := q22 hbB hsA; have HBB : Hid (Below w3.heap.size w3 wB) := q9 HBA.out hbB; obtain ⟨_,_,hZ⟩ := HC.out wB HBB.out; have HZ : Hid (wB.heap[w2.heap.size]? = some zeroGm) := hZ; unfold zeroGm at hZ; have z0 := q8 hZ 0; have z1 := q8 hZ 1; have z2 := q8 hZ 2; have z3 := q8 hZ 3; have z4 := q8 hZ 4; have z5 := q8 hZ 5; have z6 := q8 hZ 6; have z7 := q8 hZ 7; have f0 := frozen_of_row wB _ 0 _ _ hZ; have f1 := frozen_of_row wB _ 1 _ _ hZ; have f2 := frozen_of_row wB _ 2 _ _ hZ; have f3 := frozen_of_row wB _ 3 _ _ hZ; have f4 := frozen_of_row wB _ 4 _ _ hZ; have f5 := frozen_of_row wB _ 5 _ _ hZ; have f6 := frozen_of_row wB _ 6 _ _ hZ; have f7 := frozen_of_row wB _ 7 _ _ hZ; clear hZ hl2 hbB hn2)
  | fail)
 all_goals
  go_wp2
  have hq := q2y wB w2.heap.size (.int .i64 p) (.slice aA nA cA) (.slice aG nG cG) (.slice aN nN cN) (.int .u8 (x : Int)) (.int .u8 (y : Int)) (.slice (some ⟨a1,0,none⟩) (mvL x).length (mvL x).length) (.slice (some ⟨a2,0,none⟩) (mvL y).length (mvL y).length)
  have hr := heap_setCell_same _ _ 7 _ _ (.slice (some ⟨a2,0,none⟩) (mvL y).length (mvL y).length) (heap_setCell_same _ _ 6 _ _ (.slice (some ⟨a1,0,none⟩) (mvL x).length (mvL x).length) (heap_setCell_same _ _ 5 _ _ (.int .u8 (y : Int)) (heap_setCell_same _ _ 4 _ _ (.int .u8 (x : Int)) (heap_setCell_same _ _ 3 _ _ (.slice aN nN cN) (heap_setCell_same _ _ 2 _ _ (.slice aG nG cG) (heap_setCell_same _ _ 1 _ _ (.slice aA nA cA) (heap_setCell_same _ _ 0 _ _ (.int .i64 p) HZ.out)))))))
  have hb7 : Hid (Below w.heap.size w ((((((((wB.setCell ⟨w2.heap.size,0,none⟩ (.int .i64 p)).setCell ⟨w2.heap.size,1,none⟩ (.slice aA nA cA)).setCell ⟨w2.heap.size,2,none⟩ (.slice aG nG cG)).setCell ⟨w2.heap.size,3,none⟩ (.slice aN nN cN)).setCell ⟨w2.heap.size,4,none⟩ (.int .u8 (x : Int))).setCell ⟨w2.heap.size,5,none⟩ (.int .u8 (y : Int))).setCell ⟨w2.heap.size,6,none⟩ (.slice (some ⟨a1,0,none⟩) (mvL x).length (mvL x).length)).setCell ⟨w2.heap.size,7,none⟩ (.slice (some ⟨a2,0,none⟩) (mvL y).length (mvL y).length))) := ngS_b (q3J HNE.out.1 HNE.out.2.1 HNE.out.2.2 hsB)
  generalize ((((((((wB.setCell ⟨w2.heap.size,0,none⟩ (.int .i64 p)).setCell ⟨w2.heap.size,1,none⟩ (.slice aA nA cA)).setCell ⟨w2.heap.size,2,none⟩ (.slice aG nG cG)).setCell ⟨w2.heap.size,3,none⟩ (.slice aN nN cN)).setCell ⟨w2.heap.size,4,none⟩ (.int .u8 (x : Int))).setCell ⟨w2.heap.size,5,none⟩ (.int .u8 (y : Int))).setCell ⟨w2.heap.size,6,none⟩ (.slice (some ⟨a1,0,none⟩) (mvL x).length (mvL x).length)).setCell ⟨w2.heap.size,7,none⟩ (.slice (some ⟨a2,0,none⟩) (mvL y).length (mvL y).length)) = w7 at *
  obtain ⟨h1,_⟩ := hq
  have n1 := HN1.out
  have n2 := HN2.out
  have n3 := HS3.out
  have l1 : LtRow w7 a1 ((mvL x).map Int.ofNat) := (h1 a1 (by omega)).trans HLC.out
  have l2 : LtRow w7 a2 ((mvL y).map Int.ofNat) := (h1 a2 (by omega)).trans HLB.out
  have b1 := ql x
  have b2 := ql y
  have HE : Hid _ := l1.sl (by omega)
  have HE2 : Hid _ := l2.sl (by omega)
  clear hs0 hsA hsB z0 z1 z2 z3 z4 z5 z6 z7 f0 f1 f2 f3 f4 f5 f6 f7 h1 l1 l2
  have q0 := q8 hr 0
  have q1 := q8 hr 1
  have q2 := q8 hr 2
  have q3 := q8 hr 3
  have q4 := q8 hr 4
  have q5 := q8 hr 5
  have q6 := q8 hr 6
  have q7 := q8 hr 7
  refine bodyPost_ret (v := .agg #[.int .i64 p,.slice aA nA cA,.slice aG nG cG,.slice aN nN cN,.int .u8 (x : Int),.int .u8 (y : Int),.slice (some ⟨a1,0,none⟩) (mvL x).length (mvL x).length,.slice (some ⟨a2,0,none⟩) (mvL y).length (mvL y).length]) ?_ rfl ?_
  ·simp [results,Try.results33,go_sem,q0,q1,q2,q3,q4,q5,q6,q7]
  ·exact ⟨hb7.out,_,_,_,_,rfl,HE,HE2⟩
theorem qL {c0 c1 c2 c3 d0 d1 e0 e1 e2 e3 : Value} {b0 b1 b2 : Nat} {W w0 w1 : World} (hb : Below w0.heap.size w0 w1) (h : w0.cell? ⟨b0,0,none⟩ = some c0 ∧ w0.cell? ⟨b0,1,none⟩ = some c1 ∧ w0.cell? ⟨b0,2,none⟩ = some c2 ∧ w0.cell? ⟨b0,3,none⟩ = some c3 ∧ w0.cell? ⟨b1,0,none⟩ = some d0 ∧ w0.cell? ⟨b1,1,none⟩ = some d1 ∧ w0.cell? ⟨b2,0,none⟩ = some e0 ∧ w0.cell? ⟨b2,1,none⟩ = some e1 ∧ w0.cell? ⟨b2,2,none⟩ = some e2 ∧ w0.cell? ⟨b2,3,none⟩ = some e3 ∧ Hid (Below W.heap.size W w0)) : w1.cell? ⟨b0,0,none⟩ = some c0 ∧ w1.cell? ⟨b0,1,none⟩ = some c1 ∧ w1.cell? ⟨b0,2,none⟩ = some c2 ∧ w1.cell? ⟨b0,3,none⟩ = some c3 ∧ w1.cell? ⟨b1,0,none⟩ = some d0 ∧ w1.cell? ⟨b1,1,none⟩ = some d1 ∧ w1.cell? ⟨b2,0,none⟩ = some e0 ∧ w1.cell? ⟨b2,1,none⟩ = some e1 ∧ w1.cell? ⟨b2,2,none⟩ = some e2 ∧ w1.cell? ⟨b2,3,none⟩ = some e3 ∧ Hid (Below W.heap.size W w1) := by
 obtain ⟨h1,h2,h3,h4,h5,h6,h7,h8,h9,h10,h11⟩ := h
 exact ⟨qd h1 hb,qd h2 hb,qd h3 hb,qd h4 hb,qd h5 hb,qd h6 hb,qd h7 hb,qd h8 hb,qd h9 hb,qd h10 hb,q9 h11.out hb⟩
theorem qU (p : Int) (aA : Option Addr) (nA cA : Nat) (aG : Option Addr) (nG cG : Nat) (aN : Option Addr) (nN cN : Nat) (bs : List Bool) (N : List Gd) (gs : List Int) (x y : Nat) (aR : Option Addr) (nR cR : Nat) (aP : Option Addr) (nP cP : Nat) (aC : Option Addr) (nC cC : Nat) (u : SgX) (w : World) (hB : BoSl w aA nA cA bs) (hN : NdSl w aN nN cN N) (hG : ZSl w aG nG cG gs) (hok : ∀ z ∈ gs,I64 z) (hx : x < 256) (hy : y < 256) (hU : SgW w aR nR cR aP nP cP aC nC cC u) :
  Calls Try.prog 15 #[.agg #[.int .i64 p,.slice aA nA cA,.slice aG nG cG,.slice aN nN cN],.agg #[.int .u8 (x : Int),.int .u8 (y : Int)],.agg #[.bool u.wins,.slice aR nR cR,.slice aP nP cP,.slice aC nC cC]] w fun e w' => Below w.heap.size w w' ∧ ∃ (b : Bool) (X : Int),e = .returned (.tuple #[.bool b,.int .i64 X]) ∧ Hid (CkS p nA bs N gs x y u X b) := by
 obtain ⟨Q,hQ⟩ : ∃ Q : Ending → World → Prop,Q = fun e w' => Below w.heap.size w w' ∧ ∃ (b : Bool) (X : Int),e = .returned (.tuple #[.bool b,.int .i64 X]) ∧ Hid (CkS p nA bs N gs x y u X b) := ⟨_,rfl⟩
 have HQ : Hid (∀ w' b X,Below w.heap.size w w' → CkS p nA bs N gs x y u X b → Q (.returned (.tuple #[.bool b,.int .i64 X])) w') := fun w' b X h h1 => by rw [hQ]; exact ⟨h,b,X,rfl,h1⟩
 rw [← hQ]
 clear hQ
 obtain ⟨w3,hw3,hb3,hm3⟩ := q1C w p aA nA cA aG nG cG aN nN cN N gs x y aR nR cR aP nP cP aC nC cC u hN hG hU
 have HW3 : Hid _ := hw3
 have HB3 : Hid (Below w.heap.size w w3) := hb3
 have HC : Hid (∀ w',Below w3.heap.size w3 w' → SgM w' w.heap.size (w.heap.size + 1) (w.heap.size + 1 + 1) p aA nA cA aG nG cG aN nN cN N gs x y aR nR cR aP nP cP aC nC cC u ∧ BoSl w' aA nA cA bs) := fun w' hb => ⟨hm3.up hb,(hB.up hb3).up hb⟩
 obtain ⟨c0,c1,c2,c3⟩ := hm3.au
 have s0 := q8 hm3.sp 0
 have s1 := q8 hm3.sp 1
 have j := qv p aA nA cA aG nG cG aN nN cN bs N gs x y w3 (hB.up hb3) hm3.nd hm3.zg hok hx hy
 clear hw3 hb3 hm3 hB hN hG hU hok
 go_enter Try.func15,Try.ntmps15
 go_wp2_with (rw [← HW3.out])
 refine j.mono ?_
 rintro e w4 ⟨hb,X,rfl,hX⟩
 have HB4 : Hid (Below w3.heap.size w3 w4) := hb
 clear j hb c0 c1 c2 c3 s0 s1 HW3
 by_cases hX0 : X = 0
 rotate_left
 ·have HE : Hid _ := HQ.out w4 false X (q9 HB3.out HB4.out) (.inl ⟨hX0,hX.out,rfl⟩)
  have e1 : (X != 0) = true := by simpa using hX0
  clear HQ hX hX0
  go_wp2
  exact HE.out
 subst hX0
 obtain ⟨hM,_,hsl⟩ := hX.out.okk
 have HX : Hid (ChkN p nA bs N gs x y 0) := hX.out
 have HM : Hid _ := hM
 have HSL : Hid _ := hsl
 clear hX hM hsl
 have HKN : Hid (∀ wx,Calls Try.prog 33 #[.agg #[.int .i64 p,.slice aA nA cA,.slice aG nG cG,.slice aN nN cN],.agg #[.int .u8 (x : Int),.int .u8 (y : Int)]] wx fun e w' => Below wx.heap.size wx w' ∧ ∃ (aE : Option Addr) (cE : Nat) (aS : Option Addr) (cS : Nat),e = .returned (.agg #[.int .i64 p,.slice aA nA cA,.slice aG nG cG,.slice aN nN cN,.int .u8 (x : Int),.int .u8 (y : Int),.slice aE (mvL x).length cE,.slice aS (mvL y).length cS]) ∧ Hid (LtC w' aE (mvL x).length cE (mvL x)) ∧ Hid (LtC w' aS (mvL y).length cS (mvL y))) := fun wx => qD p aA nA cA aG nG cG aN nN cN x y wx hx hy
 have HKK : Hid (∀ wx aE cE aS cS,Below w3.heap.size w3 wx → LtC wx aE (mvL x).length cE (mvL x) → LtC wx aS (mvL y).length cS (mvL y) → Calls Try.prog 40 #[.agg #[.int .i64 p,.slice aA nA cA,.slice aG nG cG,.slice aN nN cN,.int .u8 (x : Int),.int .u8 (y : Int),.slice aE (mvL x).length cE,.slice aS (mvL y).length cS],.agg #[.bool u.wins,.slice aR nR cR,.slice aP nP cP,.slice aC nC cC]] wx fun e w' => Below wx.heap.size wx w' ∧ ∃ b : Bool,e = .returned (.bool b) ∧ (b = true ↔ KeepS (toS p N gs) (acA bs) nA x y u)) := fun wx aE cE aS cS hb h1 h2 => by
  have h := HC.out wx hb
  exact q2e ⟨p,aA,nA,cA,aG,nG,cG,aN,nN,cN,bs,N,gs,x,y,aE,cE,aS,cS⟩ aR nR cR aP nP cP aC nC cC u wx ⟨HM.out,HSL.out,hx,hy⟩ ⟨h.2,h.1.nd,h.1.zg,h1,h2⟩ h.1.sg
 obtain ⟨hm4,_⟩ := HC.out w4 HB4.out
 have hs0 : w4.cell? ⟨w.heap.size,0,none⟩ = some (.int .i64 p) ∧ w4.cell? ⟨w.heap.size,1,none⟩ = some (.slice aA nA cA) ∧ w4.cell? ⟨w.heap.size,2,none⟩ = some (.slice aG nG cG) ∧ w4.cell? ⟨w.heap.size,3,none⟩ = some (.slice aN nN cN) ∧ w4.cell? ⟨w.heap.size + 1,0,none⟩ = some (.int .u8 (x : Int)) ∧ w4.cell? ⟨w.heap.size + 1,1,none⟩ = some (.int .u8 (y : Int)) ∧ w4.cell? ⟨w.heap.size + 1 + 1,0,none⟩ = some (.bool u.wins) ∧ w4.cell? ⟨w.heap.size + 1 + 1,1,none⟩ = some (.slice aR nR cR) ∧ w4.cell? ⟨w.heap.size + 1 + 1,2,none⟩ = some (.slice aP nP cP) ∧ w4.cell? ⟨w.heap.size + 1 + 1,3,none⟩ = some (.slice aC nC cC) ∧ Hid (Below w3.heap.size w3 w4) := ⟨hm4.au.c0,hm4.au.c1,hm4.au.c2,hm4.au.c3,q8 hm4.sp 0,q8 hm4.sp 1,q8 hm4.st 0,q8 hm4.st 1,q8 hm4.st 2,q8 hm4.st 3,HB4.out⟩
 clear hm4
 go_upto_region 4 with fail
 go_region_held3 (fun w' => w'.cell? ⟨w.heap.size,0,none⟩ = some (.int .i64 p) ∧ w'.cell? ⟨w.heap.size,1,none⟩ = some (.slice aA nA cA) ∧ w'.cell? ⟨w.heap.size,2,none⟩ = some (.slice aG nG cG) ∧ w'.cell? ⟨w.heap.size,3,none⟩ = some (.slice aN nN cN) ∧ w'.cell? ⟨w.heap.size + 1,0,none⟩ = some (.int .u8 (x : Int)) ∧ w'.cell? ⟨w.heap.size + 1,1,none⟩ = some (.int .u8 (y : Int)) ∧ w'.cell? ⟨w.heap.size + 1 + 1,0,none⟩ = some (.bool u.wins) ∧ w'.cell? ⟨w.heap.size + 1 + 1,1,none⟩ = some (.slice aR nR cR) ∧ w'.cell? ⟨w.heap.size + 1 + 1,2,none⟩ = some (.slice aP nP cP) ∧ w'.cell? ⟨w.heap.size + 1 + 1,3,none⟩ = some (.slice aC nC cC) ∧ Hid (Below w3.heap.size w3 w'))
  (first | with_reducible assumption | with_reducible exact hs0 | with_reducible exact qL ((Below.refl _ _).drew) hs0 | fail) (first
  | (go_at_call 33; (with_reducible refine (HKN.out _).mono ?_); rintro e wA ⟨hbA,aE,cE,aS,cS,rfl,hE,hS⟩; have HLE : Hid _ := hE.out; have HLS : Hid _ := hS.out; have hsA := qL hbA (qL ((Below.refl _ _).drew) hs0); have HBA : Hid (Below w3.heap.size w3 wA) := hsA.2.2.2.2.2.2.2.2.2.2.out; clear hbA hE hS)
  | (go_at_call 40; (with_reducible refine (HKK.out wA aE cE aS cS HBA.out HLE.out HLS.out).mono ?_); rintro e wB ⟨hbB,b,rfl,hbb⟩; have HBB : Hid (Below w3.heap.size w3 wB) := q9 HBA.out hbB; have HBK : Hid _ := hbb; have hsB := qL hbB hsA; clear hbB hbb)
  | fail)
 all_goals
  have HE : Hid _ := HQ.out wB b 0 (q9 HB3.out HBB.out) (.inr ⟨rfl,HX.out,HBK.out⟩)
  clear HQ hs0 hsA hsB
  go_wp2
  exact HE.out
theorem q2q (p : Int) (aA : Option Addr) (nA cA : Nat) (aG : Option Addr) (nG cG : Nat) (aN : Option Addr) (nN cN : Nat) (bs : List Bool) (N : List Gd) (gs : List Int) (x y : Nat) (aR : Option Addr) (nR cR : Nat) (aP : Option Addr) (nP cP : Nat) (aC : Option Addr) (nC cC : Nat) (u : SgX) (aM : Option Addr) (nM cM : Nat) (ms : List Nat) (w : World) (hB : BoSl w aA nA cA bs) (hN : NdSl w aN nN cN N) (hG : ZSl w aG nG cG gs) (hok : ∀ z ∈ gs,I64 z) (hx : x < 256) (hy : y < 256) (hU : SgW w aR nR cR aP nP cP aC nC cC u) (hMs : LtC w aM nM cM ms) (hms : ∀ z ∈ ms,z < 256) :
  Calls Try.prog 17 #[.agg #[.int .i64 p,.slice aA nA cA,.slice aG nG cG,.slice aN nN cN],.agg #[.int .u8 (x : Int),.int .u8 (y : Int)],.agg #[.bool u.wins,.slice aR nR cR,.slice aP nP cP,.slice aC nC cC],.slice aM nM cM] w fun e w' => Below w.heap.size w w' ∧ ∃ (a : Option Addr) (c : Nat) (X : Int) (r : List Int),e = .returned (.tuple #[.slice a r.length c,.int .i64 X]) ∧ Hid (PlS p nA bs N gs x y u ms X r) ∧ Hid (ZSl w' a r.length c r) := by
 obtain ⟨Q,hQ⟩ : ∃ Q : Ending → World → Prop,Q = fun e w' => Below w.heap.size w w' ∧ ∃ (a : Option Addr) (c : Nat) (X : Int) (r : List Int),e = .returned (.tuple #[.slice a r.length c,.int .i64 X]) ∧ Hid (PlS p nA bs N gs x y u ms X r) ∧ Hid (ZSl w' a r.length c r) := ⟨_,rfl⟩
 have HQ : Hid (∀ w' a c X r,Below w.heap.size w w' → PlS p nA bs N gs x y u ms X r → ZSl w' a r.length c r → Q (.returned (.tuple #[.slice a r.length c,.int .i64 X])) w') := fun w' a c X r h h1 h2 => by rw [hQ]; exact ⟨h,a,c,X,r,rfl,h1,h2⟩
 have HQ0 : Hid (∀ w' X,Below w.heap.size w w' → PlS p nA bs N gs x y u ms X [] → Q (.returned (.tuple #[.slice none 0 0,.int .i64 X])) w') := fun w' X h h1 => HQ.out w' none 0 X [] h h1 (q1O w')
 rw [← hQ]
 clear hQ
 have hml : ms.length = nM := by have := hMs.hlen; rwa [List.length_map] at this
 have hnM := Nat.le_trans hMs.hcap hMs.bd
 unfold maxLen at hnM
 obtain ⟨w3,hw3,hb3,hm3⟩ := q1C w p aA nA cA aG nG cG aN nN cN N gs x y aR nR cR aP nP cP aC nC cC u hN hG hU
 have HW3 : Hid _ := hw3
 have HB3 : Hid (Below w.heap.size w w3) := hb3
 have HC : Hid (∀ w',Below w3.heap.size w3 w' → SgM w' w.heap.size (w.heap.size + 1) (w.heap.size + 1 + 1) p aA nA cA aG nG cG aN nN cN N gs x y aR nR cR aP nP cP aC nC cC u ∧ BoSl w' aA nA cA bs ∧ LtC w' aM nM cM ms) := fun w' hb => ⟨hm3.up hb,(hB.up hb3).up hb,(hMs.up hb3).up hb⟩
 have HMS : Hid (∀ z ∈ ms,z < 256) := hms
 obtain ⟨c0,c1,c2,c3⟩ := hm3.au
 have s0 := q8 hm3.sp 0
 have s1 := q8 hm3.sp 1
 have t0 := q8 hm3.st 0
 have t1 := q8 hm3.st 1
 have t2 := q8 hm3.st 2
 have t3 := q8 hm3.st 3
 have j := qU p aA nA cA aG nG cG aN nN cN bs N gs x y aR nR cR aP nP cP aC nC cC u w3 (hB.up hb3) hm3.nd hm3.zg hok hx hy hm3.sg
 clear hw3 hb3 hm3 hB hN hG hU hok hMs hms
 go_enter Try.func17,Try.ntmps17
 go_wp2_with (rw [← HW3.out])
 refine j.mono ?_
 rintro e w4 ⟨hb,b,X,rfl,hX⟩
 have HB4 : Hid (Below w3.heap.size w3 w4) := hb
 have HX : Hid _ := hX.out
 clear j hb hX c0 c1 c2 c3 s0 s1 t0 t1 t2 t3 HW3
 rcases HX.out with ⟨hX0,hX1,rfl⟩ | ⟨rfl,hX1,hkp⟩
 ·have HE : Hid _ := HQ0.out w4 X (q9 HB3.out HB4.out) (.inl ⟨hX0,hX1,rfl⟩)
  have e1 : (X != 0) = true := by simpa using hX0
  clear HQ HQ0 HX hX0 hX1
  go_wp2
  exact HE.out
 have H0 : Hid (ChkN p nA bs N gs x y 0) := hX1
 cases b with
 | false =>
  have HE : Hid _ := HQ0.out w4 340 (q9 HB3.out HB4.out) (.inr (.inl ⟨hX1,fun h => (by have := hkp.2 h; cases this),rfl,rfl⟩))
  clear HQ HQ0 HX hX1 hkp
  go_wp2
  exact HE.out
 | true =>
 have HKP : Hid (KeepS (toS p N gs) (acA bs) nA x y u) := hkp.1 rfl
 clear HX hX1 hkp
 by_cases hm4 : nM ≤ 1024
 rotate_left
 ·have e1 : decide ((1024 : Int) < (nM : Int)) = true := decide_eq_true (by omega)
  have HE : Hid _ := HQ0.out w4 3 (q9 HB3.out HB4.out) (.inr (.inr (.inl ⟨H0.out,HKP.out,by rw [hml]; omega,rfl,rfl⟩)))
  clear HQ HQ0
  go_wp2
  exact HE.out
 have e1 : decide ((1024 : Int) < (nM : Int)) = false := decide_eq_false (by omega)
 obtain ⟨hM,_,hsl⟩ := H0.out.okk
 have HM : Hid _ := hM
 have HSL : Hid _ := hsl
 obtain ⟨hm5,_,_⟩ := HC.out w4 HB4.out
 have hR2 : nA = nR := HKP.out.lR.symm.trans hm5.sg.r.hlen
 have hP2 : nA = nP := HKP.out.lp.symm.trans hm5.sg.lp
 have hC2 : nA = nC := HKP.out.lc.symm.trans (by have := hm5.sg.c.hlen; rwa [List.length_map] at this)
 subst hR2 hP2 hC2
 clear hM hsl
 have HKN : Hid (∀ wx,Calls Try.prog 33 #[.agg #[.int .i64 p,.slice aA nA cA,.slice aG nG cG,.slice aN nN cN],.agg #[.int .u8 (x : Int),.int .u8 (y : Int)]] wx fun e w' => Below wx.heap.size wx w' ∧ ∃ (aE : Option Addr) (cE : Nat) (aS : Option Addr) (cS : Nat),e = .returned (.agg #[.int .i64 p,.slice aA nA cA,.slice aG nG cG,.slice aN nN cN,.int .u8 (x : Int),.int .u8 (y : Int),.slice aE (mvL x).length cE,.slice aS (mvL y).length cS]) ∧ Hid (LtC w' aE (mvL x).length cE (mvL x)) ∧ Hid (LtC w' aS (mvL y).length cS (mvL y))) := fun wx => qD p aA nA cA aG nG cG aN nN cN x y wx hx hy
 have HKK : Hid (∀ wx aE cE aS cS,Below w3.heap.size w3 wx → LtC wx aE (mvL x).length cE (mvL x) → LtC wx aS (mvL y).length cS (mvL y) → Calls Try.prog 43 #[.agg #[.int .i64 p,.slice aA nA cA,.slice aG nG cG,.slice aN nN cN,.int .u8 (x : Int),.int .u8 (y : Int),.slice aE (mvL x).length cE,.slice aS (mvL y).length cS],.agg #[.bool u.wins,.slice aR nA cR,.slice aP nA cP,.slice aC nA cC],.slice aM nM cM] wx fun e w' => Below wx.heap.size wx w' ∧ ∃ (a : Option Addr) (c : Nat) (X : Int) (r : List Int),e = .returned (.tuple #[.slice a r.length c,.int .i64 X]) ∧ Hid (PlS p nA bs N gs x y u ms X r) ∧ Hid (ZSl w' a r.length c r)) := fun wx aE cE aS cS hb h1 h2 => by
  have h := HC.out wx hb
  refine (q2L ⟨p,aA,nA,cA,aG,nG,cG,aN,nN,cN,bs,N,gs,x,y,aE,cE,aS,cS⟩ aR cR aP cP aC cC u aM nM cM ms wx ⟨HM.out,HSL.out,hx,hy⟩ ⟨h.2.1,h.1.nd,h.1.zg,h1,h2⟩ h.1.sg h.2.2 HMS.out HKP.out hm4).mono ?_
  rintro e w' ⟨h3,a,c,X,r,rfl,h4,h5⟩
  refine ⟨h3,a,c,X,r,rfl,?_,h5⟩
  rcases h4.out with ⟨k1,k2,k3⟩ | ⟨l,k1,k2,k3⟩
  ·exact .inr (.inr (.inr (.inl ⟨H0.out,HKP.out,by rw [hml]; exact hm4,k1,k2,k3⟩)))
  ·exact .inr (.inr (.inr (.inr ⟨H0.out,HKP.out,by rw [hml]; exact hm4,l,k1,k2,k3⟩)))
 have hs0 : w4.cell? ⟨w.heap.size,0,none⟩ = some (.int .i64 p) ∧ w4.cell? ⟨w.heap.size,1,none⟩ = some (.slice aA nA cA) ∧ w4.cell? ⟨w.heap.size,2,none⟩ = some (.slice aG nG cG) ∧ w4.cell? ⟨w.heap.size,3,none⟩ = some (.slice aN nN cN) ∧ w4.cell? ⟨w.heap.size + 1,0,none⟩ = some (.int .u8 (x : Int)) ∧ w4.cell? ⟨w.heap.size + 1,1,none⟩ = some (.int .u8 (y : Int)) ∧ w4.cell? ⟨w.heap.size + 1 + 1,0,none⟩ = some (.bool u.wins) ∧ w4.cell? ⟨w.heap.size + 1 + 1,1,none⟩ = some (.slice aR nA cR) ∧ w4.cell? ⟨w.heap.size + 1 + 1,2,none⟩ = some (.slice aP nA cP) ∧ w4.cell? ⟨w.heap.size + 1 + 1,3,none⟩ = some (.slice aC nA cC) ∧ Hid (Below w3.heap.size w3 w4) := ⟨hm5.au.c0,hm5.au.c1,hm5.au.c2,hm5.au.c3,q8 hm5.sp 0,q8 hm5.sp 1,q8 hm5.st 0,q8 hm5.st 1,q8 hm5.st 2,q8 hm5.st 3,HB4.out⟩
 clear hm5
 go_upto_region 8 with fail
 go_region_held3 (fun w' => w'.cell? ⟨w.heap.size,0,none⟩ = some (.int .i64 p) ∧ w'.cell? ⟨w.heap.size,1,none⟩ = some (.slice aA nA cA) ∧ w'.cell? ⟨w.heap.size,2,none⟩ = some (.slice aG nG cG) ∧ w'.cell? ⟨w.heap.size,3,none⟩ = some (.slice aN nN cN) ∧ w'.cell? ⟨w.heap.size + 1,0,none⟩ = some (.int .u8 (x : Int)) ∧ w'.cell? ⟨w.heap.size + 1,1,none⟩ = some (.int .u8 (y : Int)) ∧ w'.cell? ⟨w.heap.size + 1 + 1,0,none⟩ = some (.bool u.wins) ∧ w'.cell? ⟨w.heap.size + 1 + 1,1,none⟩ = some (.slice aR nA cR) ∧ w'.cell? ⟨w.heap.size + 1 + 1,2,none⟩ = some (.slice aP nA cP) ∧ w'.cell? ⟨w.heap.size + 1 + 1,3,none⟩ = some (.slice aC nA cC) ∧ Hid (Below w3.heap.size w3 w'))
  (first | with_reducible assumption | with_reducible exact hs0 | with_reducible exact qL ((Below.refl _ _).drew) hs0 | fail) (first
  | (go_at_call 33; (with_reducible refine (HKN.out _).mono ?_); rintro e wA ⟨hbA,aE,cE,aS,cS,rfl,hE,hS⟩; have HLE : Hid _ := hE.out; have HLS : Hid _ := hS.out; have hsA := qL hbA (qL ((Below.refl _ _).drew) hs0); have HBA : Hid (Below w3.heap.size w3 wA) := hsA.2.2.2.2.2.2.2.2.2.2.out; clear hbA hE hS)
  | (go_at_call 43; (with_reducible refine (HKK.out wA aE cE aS cS HBA.out HLE.out HLS.out).mono ?_); rintro e wB ⟨hbB,a,c,X,r,rfl,hr1,hr2⟩; have HBB : Hid (Below w3.heap.size w3 wB) := q9 HBA.out hbB; have HR1 : Hid _ := hr1.out; have HR2 : Hid _ := hr2.out; have hsB := qL hbB hsA; clear hbB hr1 hr2)
  | fail)
 all_goals
  have HE : Hid _ := HQ.out wB a c X r (q9 HB3.out HBB.out) HR1.out HR2.out
  clear HQ HQ0 hs0 hsA hsB
  go_wp2
  exact HE.out
end Go.Proofs.Ythhbhadcjofelaa
