/- Texts of the proof, put together: what it uses. -/
import Derived.BigQuiet
import Derived.Lib.QuietBelow
import Derived.Test.YtailhklbmenaoaaGreatDoorZ18
import Derived.Test.YtailhklbmenaoaaGreatDoorZ21
import Derived.Test.YtailhklbmenaoaaGreatDoorZ32
import Derived.Test.YtailhklbmenaoaaGreatDoorZ33
set_option maxRecDepth 100000
set_option maxHeartbeats 16000000
namespace Go.Proofs.YtailhklbmenaoaaGreatDoor
open Go.RowKit Go.Maps
theorem qgo : DetX 0 [(0,0)] (.ok ([-1],[],[[0]],[])) := DetX.ofDet ⟨by decide,by decide⟩ (q5g qdz (by decide)) (by decide) qdz rfl dk2
theorem dk_of {x : DtV} {S : List (List Nat)} (h : dkOf x = some S) : ∃ R N M,x = .ok (R,N,S,M) := by
 match x,h with
 | .ok (R,N,S1,M),h =>
  have : S1 = S := by injection h
  subst this
  exact ⟨R,N,M,rfl⟩
theorem qgl {x : DtV} {E : Nat} (h : dkErr x = E) (h0 : E ≠ 0) : x = .error E := by
 match x,h with
 | .ok _,h => exact absurd h.symm h0
 | .error e,h => have : e = E := h; rw [this]
theorem qgp : ∃ R N M,DetX 2 [(2,0),(2,1),(15,0)] (.ok (R,N,[[1],[],[0]],M)) := by
 obtain ⟨R,N,M,h⟩ := dk_of dk3
 exact ⟨R,N,M,DetX.ofDet ⟨by decide,by decide⟩ (q5g qdA (by decide)) (by decide) qdA rfl h⟩
def p1T : Tr := .leaf (2,1)
theorem kt_p1 : KT p1T := ⟨⟨rfl,rfl⟩,rfl,rfl⟩
theorem dx_p1 : DetX 1 [(2,1)] (.error 2) := DetX.ofArg ⟨by decide,by decide⟩ (q5g kt_p1 (by decide)) (by decide)
theorem qfr (ts : List Tk) : DetX 9 ts (.error 2) := DetX.ofFar (by decide)
theorem qgn : DetX 1 [(2,0),(9,0)] (.error 7) := by
 have hc : chkE [(2,0),(9,0)] = 7 := by
  unfold chkE
  rw [if_neg (by decide),if_neg]
  intro h
  obtain ⟨T,kT,e⟩ := qb6 h
  have h1 := q2h kT.1
  rw [← e] at h1
  have h2 : growT [(2,0),(9,0)] = .un (9,0) (.leaf (2,0)) := by rfl
  rw [h2] at h1
  have h3 := kT.kr
  rw [← h1] at h3
  revert h3
  decide
 have h := DetX.ofChk (n := 1) (ts := [(2,0),(9,0)]) ⟨by decide,by decide⟩ (by rw [hc]; decide)
 rw [hc] at h
 exact h
def nextTs (k : Nat) : List Tk := (2,0) :: List.replicate k (7,0)
theorem q5W (k : Nat) : nextTs k ++ [(7,0)] = nextTs (k + 1) := by
 unfold nextTs
 rw [List.cons_append,List.replicate_succ']
theorem q3M : ∀ k,(nextN k).flat = nextTs k
 | 0 => rfl
 | k + 1 => by
  show (nextN k).flat ++ [(7,0)] = _
  rw [q3M k,q5W]
theorem q7n (k : Nat) : (nextTs k).length = k + 1 := by simp [nextTs]
theorem qeK : ∀ k,pathT (nextN k) = false
 | 0 => rfl
 | _ + 1 => rfl
theorem qcp : ∀ k,(nextN k).WF
 | 0 => ⟨rfl,rfl⟩
 | k + 1 => by
  refine ⟨rfl,?_,qcp k⟩
  cases k <;> rfl
theorem qcm : KT (nextN 70) := ⟨qcp 70,qeK 70,by kernel_rfl⟩
theorem qfq : DetX 1 (nextTs 70) (.error 9) := by
 rw [← q3M]
 refine DetX.ofDet ⟨by decide,by decide⟩ (q5g qcm (by rw [q3M,q7n]; decide)) ?_ qcm rfl (qgl dk4 (by decide))
 rw [q3M]
 decide
theorem qbQ {w : World} {a : Option Addr} {c : Nat} (hT : TkSl w a 1 c [(0,0)]) (h64 : Tab64 w) (h10 : Tab10 w) : Calls Tryz.prog 10 #[.int .i64 0,.slice a 1 c] w fun e w' => ∃ aA aG cG aN cN,e = .returned (.tuple #[.agg #[.int .i64 0,.slice aA 1 1,.slice aG 1 cG,.slice aN 0 cN],.int .i64 0]) ∧ Hid (AutD w.heap.size w' [true] aA aG cG aN cN [-1] []) ∧ Hid (Below w.heap.size w w') := by
 refine (q2p 0 a 1 c [(0,0)] w hT h64 h10).mono ?_
 intro e w' h
 obtain ⟨bs,aA,aG,cG,aN,cN,rfl,hA,hl,hf,hb⟩ := h.known qgo
 obtain rfl : bs = [true] := by
  match bs,hl with
  | [b0],_ =>
   have e0 : b0 = true := (hf 0 b0 rfl).2 (q8T _)
   rw [e0]
 exact ⟨aA,aG,cG,aN,cN,rfl,hA,hb⟩
theorem q2U {n : Int} {ts : List Tk} {w : World} {a : Option Addr} {len c : Nat} (hT : TkSl w a len c ts) (h64 : Tab64 w) (h10 : Tab10 w) {E : Nat} (hX : DetX n ts (.error E)) : Calls Tryz.prog 10 #[.int .i64 n,.slice a len c] w fun e w' => e = .returned (.tuple #[.agg #[.int .i64 0,.slice none 0 0,.slice none 0 0,.slice none 0 0],.int .i64 (E : Int)]) ∧ Hid (Below w.heap.size w w') := by
 refine (q2p n a len c ts w hT h64 h10).mono ?_
 intro e w' h
 obtain ⟨rfl,hb⟩ := h.err hX
 exact ⟨rfl,hb⟩
theorem qge (w5 w6 : World) (hw6 : w6 = (w5.alloc (.cells #[.bool true] 4)).alloc (.cells #[.int .i64 (-1)] 3)) :
  Below w5.heap.size w5 w6 ∧ BoSl w6 (some ⟨w5.heap.size,0,none⟩) 1 1 [true] ∧ ZSl w6 (some ⟨w5.heap.size + 1,0,none⟩) 1 1 [-1] ∧ NdSl w6 none 0 0 [] := by
 obtain ⟨wa,ha⟩ : ∃ wa,wa = w5.alloc (.cells #[.bool true] 4) := ⟨_,rfl⟩
 rw [← ha] at hw6
 have za : wa.heap.size = w5.heap.size + 1 := by rw [ha]; simp
 have b1 : Below w5.heap.size w5 wa := by rw [ha]; exact qd _ _
 have b2 : Below wa.heap.size wa w6 := by rw [hw6]; exact qd _ _
 have h1 : BoSl wa (some ⟨w5.heap.size,0,none⟩) 1 1 [true] := by rw [ha]; exact bolit w5 [true] (by decide)
 have h2 : ZSl w6 (some ⟨w5.heap.size + 1,0,none⟩) 1 1 [-1] := by rw [hw6,← za]; exact zlit wa [-1] (by decide)
 exact ⟨qe b1 b2,h1.up b2,h2,NdSl.nil⟩
theorem q3f (z : Int) (t : Tk) (w : World) (he : tokOf z = t) (hz : 0 ≤ z ∧ z < 356) : Calls Tryz.prog 19 #[.slice (some ⟨w.heap.size,0,none⟩) 1 1] (w.alloc (.cells #[.int .i64 z] 3)) fun e w' => ∃ a cap,e = .returned (.slice a 1 cap) ∧ Hid (w'.ownsRow w.heap.size 90 2 (.slice a 1 cap) 1 (encT [t])) ∧ Hid (TkSl w' a 1 cap [t]) ∧ Hid (Below w.heap.size w w') :=
 (q24 [z] [t] w (by simp [he]) (fun x hx => by have : x = z := (by simpa using hx); subst this; exact hz) (by simp)).mono fun e w' ⟨a,c,h1,h2,h3,h4⟩ => ⟨a,c,h1,h2,h3,h4⟩
theorem qdG (k : Nat) : ∀ t ∈ nextTs k,t.1 < 256 ∧ t.2 < 256 := fun t ht => by
 rcases List.mem_cons.1 ht with rfl | ht
 ·decide
 ·have := List.eq_of_mem_replicate ht
  subst this
  decide
theorem q6H (w : World) (h64 : Tab64 w) (h10 : Tab10 w) : Calls Tryz.prog 5 #[] w (BR true w) := by
 have H64 : Hid _ := h64
 have H10 : Hid _ := h10
 have HOP : Hid (∀ (op : Nat) (z r : Int),z = (op : Int) → r = 100 + (op : Int) → op < 256 → ∀ w,Calls Tryz.prog 20 #[.int .u8 z] w fun e w' => e = .returned (.int .i64 r) ∧ w' = w) := fun op z r h1 h2 h w => by subst h1 h2; exact qac op w h
 clear h64 h10
 go_enter Tryz.func5,Tryz.ntmps5
 go_wp2_with fail
 refine (HOP.out 0 0 100 rfl rfl (by decide) _).mono ?_
 rintro e w' ⟨rfl,hw'⟩
 obtain rfl := hw'.symm
 clear hw'
 have j1 := q3f 100 (0,0) w rfl (by decide)
 go_wp2_with fail
 refine j1.mono ?_
 rintro e w1 ⟨a1,c1,rfl,_,HT1,HB1⟩
 have j2 := qbQ HT1.out (Tab64.up H64.out HB1.out) (Tab10.up H10.out HB1.out)
 clear j1 HT1
 go_wp2_with fail
 refine j2.mono ?_
 rintro e w2 ⟨aA,aG,cG,aN,cN,rfl,HA2,HB2⟩
 obtain ⟨w3,hw3⟩ : ∃ w3,w3 = w2.alloc (.cells #[.int .i64 0,.slice aA 1 1,.slice aG 1 cG,.slice aN 0 cN] 32 (0,0)) := ⟨_,rfl⟩
 have HW3 : Hid _ := hw3
 have b3 : Below w2.heap.size w2 w3 := by rw [hw3]; exact qd _ _
 have z3 : w3.heap.size = w2.heap.size + 1 := by rw [hw3]; simp
 have HB3 : Hid (Below w.heap.size w w3) := qe (qe HB1.out HB2.out) b3
 obtain ⟨w4,hw4⟩ : ∃ w4,w4 = (w3.alloc (.cells #[.bool true] 4)).alloc (.cells #[.int .i64 (-1)] 3) := ⟨_,rfl⟩
 have HW4 : Hid _ := hw4
 obtain ⟨b34,k1,k2,k3⟩ := qge w3 w4 hw4
 have h4 := (HA2.out.up b3).up b34
 have jS := q3G 0 aA 1 1 aG 1 cG aN 0 cN _ 1 _ 1 _ 0 [true] [-1] [] w4 h4.bo h4.zs h4.nd k1 k2 k3
 have HB4 : Hid _ := qe HB3.out b34
 have hv3 : AuB w3 w2.heap.size 0 aA 1 1 aG 1 cG aN 0 cN := by rw [hw3]; exact q1p w2 0 aA 1 1 aG 1 cG aN 0 cN
 obtain ⟨x0,x1,x2,x3⟩ := hv3
 rw [z3] at jS
 rw [hw3] at x0 x1 x2 x3
 have HJS : Hid _ := jS
 clear j2 b3 b34 k1 k2 k3 h4 jS HB1 HB2 HA2 hw3 hw4 z3
 go_wp2_with fail
 rw [← HW3.out,← HW4.out]
 refine Calls.mono HJS.out ?_
 rintro e w5 ⟨rfl,hb5⟩
 have HB5 : Hid _ := qe HB4.out hb5
 clear HJS hb5 x0 x1 x2 x3 HW3 HW4 HB3 HB4
 go_wp2_with fail
 refine (HOP.out 15 15 115 rfl rfl (by decide) _).mono ?_
 rintro e w' ⟨rfl,hw'⟩
 obtain rfl := hw'.symm
 clear hw'
 have j6 := q24 [0,1,115] [(2,0),(2,1),(15,0)] w5 rfl (by decide) (by decide)
 dsimp only [List.map_cons,List.map_nil,List.length_cons,List.length_nil,Nat.zero_add,Nat.reduceAdd] at j6
 go_wp2_with fail
 refine j6.mono ?_
 rintro e w6 ⟨a6,c6,rfl,_,hT6,hb6⟩
 have HB6 : Hid _ := qe HB5.out hb6
 obtain ⟨Ru,Nu,Mu,hXu⟩ := qgp
 have j7 := q76 hT6 (Tab64.up H64.out HB6.out) (Tab10.up H10.out HB6.out) hXu
 clear j6 hT6 hb6 HB5 hXu
 go_wp2_with fail
 refine j7.mono ?_
 rintro e w7 ⟨g,c,b0,d0,b1,d1,b2,d2,rfl,HL7,HBa⟩
 have HB7 : Hid _ := qe HB6.out HBa.out
 have hx0 : ∀ w',(Instr.indexAt 41 (.slice (some ⟨g,0,none⟩) 3 c) (.int .i64 0)).run Tryz.prog w' = .ok (.pointer (some ⟨g,0,none⟩)) w' := fun w' => q1a g 3 c 0 (by decide) w'
 have hx1 : ∀ w',(Instr.indexAt 41 (.slice (some ⟨g,0,none⟩) 3 c) (.int .i64 1)).run Tryz.prog w' = .ok (.pointer (some ⟨g,1,none⟩)) w' := fun w' => q1a g 3 c 1 (by decide) w'
 have hx2 : ∀ w',(Instr.indexAt 41 (.slice (some ⟨g,0,none⟩) 3 c) (.int .i64 2)).run Tryz.prog w' = .ok (.pointer (some ⟨g,2,none⟩)) w' := fun w' => q1a g 3 c 2 (by decide) w'
 have i0 := HL7.out.i0
 have j8 : Calls Tryz.prog 22 #[.slice b0 1 d0,.slice (some ⟨w7.heap.size,0,none⟩) 1 1] (w7.alloc (.cells #[.int .u64 1] 55)) fun e w' => e = .returned (.bool true) ∧ Below w7.heap.size w7 w' := q2a HL7.out.u0 rfl
 clear j7 HBa HB6
 go_wp2_with fail
 refine j8.mono ?_
 rintro e w8 ⟨rfl,hb8⟩
 have HB8 : Hid _ := qe HB7.out hb8
 have hL8 := HL7.out.up hb8
 have i1 := hL8.i1
 have i2 := hL8.i2
 have j9 : Calls Tryz.prog 22 #[.slice b2 1 d2,.slice (some ⟨w8.heap.size,0,none⟩) 1 1] (w8.alloc (.cells #[.int .u64 0] 55)) fun e w' => e = .returned (.bool true) ∧ Below w8.heap.size w8 w' := q2a hL8.u2 rfl
 clear j8 hb8 HL7 i0 hL8 HB7
 go_wp2_with fail
 refine j9.mono ?_
 rintro e w9 ⟨rfl,hb9⟩
 have HB9 : Hid _ := qe HB8.out hb9
 clear j9 hb9 HB8 i1 i2 hx0 hx1 hx2
 have j10 := q3f 1 (2,1) w9 rfl (by decide)
 go_wp2_with fail
 refine j10.mono ?_
 rintro e w10 ⟨a10,c10,rfl,_,HT10,HBa⟩
 have HB10 : Hid _ := qe HB9.out HBa.out
 have j11 := q2U HT10.out (Tab64.up H64.out HB10.out) (Tab10.up H10.out HB10.out) dx_p1
 clear j10 HT10 HBa HB9
 go_wp2_with fail
 refine j11.mono ?_
 rintro e w11 ⟨rfl,HBa⟩
 obtain ⟨w12,hw12⟩ : ∃ w12,w12 = w11.alloc (.cells #[.int .i64 0,.slice none 0 0,.slice none 0 0,.slice none 0 0] 32 (0,0)) := ⟨_,rfl⟩
 have HW12 : Hid _ := hw12
 have z12 : w12.heap.size = w11.heap.size + 1 := by rw [hw12]; simp
 have HB12 : Hid (Below w.heap.size w w12) := qe (qe HB10.out HBa.out) (by rw [hw12]; exact qd _ _)
 have j13 := q3f 0 (2,0) w12 rfl (by decide)
 have HZ12 : Hid _ := z12
 rw [z12] at j13
 clear j11 HBa HB10 hw12 z12
 go_wp2_with fail
 rw [← HW12.out]
 refine j13.mono ?_
 rintro e w13 ⟨a13,c13,rfl,_,HT13,HBa⟩
 rw [← HZ12.out] at HBa
 have HB13 : Hid _ := qe HB12.out HBa.out
 have j14 := q2U HT13.out (Tab64.up H64.out HB13.out) (Tab10.up H10.out HB13.out) (qfr _)
 clear j13 HT13 HBa HB12 HZ12 HW12
 go_wp2_with fail
 refine j14.mono ?_
 rintro e w14 ⟨rfl,HBa⟩
 obtain ⟨w15,hw15⟩ : ∃ w15,w15 = w14.alloc (.cells #[.int .i64 0,.slice none 0 0,.slice none 0 0,.slice none 0 0] 32 (0,0)) := ⟨_,rfl⟩
 have HW15 : Hid _ := hw15
 have z15 : w15.heap.size = w14.heap.size + 1 := by rw [hw15]; simp
 have HZ15 : Hid _ := z15
 have HB15 : Hid (Below w.heap.size w w15) := qe (qe HB13.out HBa.out) (by rw [hw15]; exact qd _ _)
 clear j14 HBa HB13 hw15 z15
 go_wp2_with fail
 rw [← HW15.out]
 refine (HOP.out 9 9 109 rfl rfl (by decide) _).mono ?_
 rintro e w' ⟨rfl,hw'⟩
 obtain rfl := hw'.symm
 clear hw'
 have j16 := q24 [0,109] [(2,0),(9,0)] w15 rfl (by decide) (by decide)
 dsimp only [List.map_cons,List.map_nil,List.length_cons,List.length_nil,Nat.zero_add,Nat.reduceAdd] at j16
 clear HW15
 go_wp2_with fail
 refine j16.mono ?_
 rintro e w16 ⟨a16,c16,rfl,_,hT16,hb16⟩
 have HB16 : Hid _ := qe HB15.out hb16
 have j17 := q2U hT16 (Tab64.up H64.out HB16.out) (Tab10.up H10.out HB16.out) qgn
 clear j16 hT16 hb16 HB15 HZ15
 go_wp2_with fail
 refine j17.mono ?_
 rintro e w17 ⟨rfl,HBa⟩
 obtain ⟨w18,hw18⟩ : ∃ w18,w18 = w17.alloc (.cells #[.int .i64 0,.slice none 0 0,.slice none 0 0,.slice none 0 0] 32 (0,0)) := ⟨_,rfl⟩
 have HW18 : Hid _ := hw18
 have z18 : w18.heap.size = w17.heap.size + 1 := by rw [hw18]; simp
 have HB18 : Hid (Below w.heap.size w w18) := qe (qe HB16.out HBa.out) (by rw [hw18]; exact qd _ _)
 have j19 := q3f 0 (2,0) w18 rfl (by decide)
 have HZ18 : Hid _ := z18
 rw [z18] at j19
 clear j17 HBa HB16 hw18 z18
 go_wp2_with fail
 rw [← HW18.out]
 refine j19.mono ?_
 rintro e w19 ⟨a19,c19,rfl,HO0,_,HB0⟩
 rw [← HZ18.out] at HB0 HO0
 clear j19 HZ18 HW18
 go_wp2
 go_loopw [13,14] (fun v i wr => ∃ j : Nat,j ≤ 70 ∧ i = .int .i64 j ∧ Hid (wr.ownsRow w18.heap.size 90 2 v (j + 1) (encT (nextTs j))) ∧ Hid (Below w18.heap.size w18 wr)) (fun _ i _ => 70 - (intOf i).toNat)
 case atStart => exact ⟨0,Nat.zero_le _,rfl,HO0,HB0⟩
 case round =>
  obtain ⟨j,hj,rfl,HO,HBW⟩ := hrel
  clear HO0 HB0
  obtain ⟨va,vc,rfl⟩ := q1G HO.out
  by_cases hlt : j < 70
  ·have hlt' : (j : Int) < 70 := by omega
   have HNX : Hid (nextTs (j + 1) = nextTs j ++ [(7,0)]) := (q5W j).symm
   have hnl : (nextTs j).length = j + 1 := q7n j
   have HNL : Hid _ := hnl
   have tt := fun w' => q3f 107 (7,0) w' rfl (by decide)
   clear hnl
   generalize nextTs j = cu at *
   go_wp2_with fail
   refine ((HOP.out 7 7 107 rfl rfl (by decide)) _).mono ?_
   rintro e w' ⟨rfl,hw'⟩
   obtain rfl := hw'.symm
   clear hw'
   go_wp2_with fail
   refine (tt _).mono ?_
   rintro e y1 ⟨ay,cy,rfl,_,HT1,HBy⟩
   have HO1 : Hid (y1.ownsRow w18.heap.size 90 2 (.slice va (j + 1) vc) cu.length (encT cu)) := by show World.ownsRow _ _ _ _ _ _ _; rw [HNL.out]; exact q1g HO.out HBy.out
   have HB1 : Hid (Below w18.heap.size w18 y1) := qe HBW.out HBy.out
   have HGE : Hid (∀ q,(Value.slice va (j + 1) vc).ownBlock = some q → w18.heap.size ≤ q) := q2z HO.out
   have hz1 : w18.heap.size ≤ y1.heap.size := HB1.out.size
   clear tt HBy HO HBW
   go_wp2_with (at_builtin; refine q2o rfl _ _ rfl w18.heap.size _ cu [(7,0)] ay 1 cy rfl rfl HO1.out HT1.out (by have := HNL.out; omega) (by decide) hz1 ?_)
   intro v8 y2 hown8 hgr8
   have HO2 : Hid (y2.ownsRow w18.heap.size 90 2 v8 (j + 1 + 1) (encT (nextTs (j + 1)))) := by
    show World.ownsRow _ _ _ _ _ _ _
    rw [HNX.out]
    have h := hown8
    rw [HNL.out] at h
    exact h
   have HB2 : Hid (Below w18.heap.size w18 y2) := HB1.out.grown hgr8 hz1 (fun q e => HGE.out q e)
   clear hown8 hgr8 HO1 HT1 HB1 HGE hz1 HNX HNL
   go_wp2
   go_roundw
   case rel => exact ⟨j + 1,by omega,by go_num,HO2,HB2⟩
   case measure => simp [intOf] <;> omega
  ·obtain rfl : j = 70 := by omega
   obtain ⟨aN2,cN2,hsv,hTN,_⟩ := qdU HO.out (qdG 70)
   injection hsv with hva _ hvc
   subst hva hvc
   have HB20 : Hid _ := qe HB18.out HBW.out
   have j20 := q2U hTN (Tab64.up H64.out HB20.out) (Tab10.up H10.out HB20.out) qfq
   clear hTN HO HBW HB18
   go_wp2_with fail
   refine j20.mono ?_
   rintro e w20 ⟨rfl,HBa⟩
   obtain ⟨w21,hw21⟩ : ∃ w21,w21 = w20.alloc (.cells #[.int .i64 0,.slice none 0 0,.slice none 0 0,.slice none 0 0] 32 (0,0)) := ⟨_,rfl⟩
   have HW21 : Hid _ := hw21
   have HB21 : Hid (Below w.heap.size w w21) := qe (qe HB20.out HBa.out) (by rw [hw21]; exact qd _ _)
   have j22 := q3C w21 (Tab64.up H64.out HB21.out) (Tab10.up H10.out HB21.out)
   clear j20 HBa HB20 hw21
   go_wp2_with fail
   rw [← HW21.out]
   refine j22.mono ?_
   rintro e w22 ⟨rfl,hb22⟩
   have HB22 : Hid _ := qe HB21.out hb22
   clear j22 hb22 HB21 HW21
   go_wp2
   go_ret
   exact ⟨rfl,HB22.out⟩
end Go.Proofs.YtailhklbmenaoaaGreatDoor
namespace Go.Proofs.YtailhklbmenaoaaGreatDoor
open Go.RowKit Go.Maps Go.Sort
structure DsH (w : World) (ga n : Nat) (bs : List Bool) (aA aG : Option Addr) (cG : Nat) (aN : Option Addr) (cN : Nat) (R : List Int) (N : List Gd) (gL cL : Nat) (ps : List PcU) (S : List (List Nat)) (B : Nat) (wr : World) : Prop where
 bel : Below w.heap.size w wr
 av : AuB wr ga (n : Int) aA bs.length bs.length aG R.length cG aN N.length cN
 au : AutD B wr bs aA aG cG aN cN R N
 ls : LsD wr (some ⟨gL,0,none⟩) cL ps S
theorem DsH.up {w : World} {ga n : Nat} {bs : List Bool} {aA aG : Option Addr} {cG : Nat} {aN : Option Addr} {cN : Nat} {R : List Int} {N : List Gd} {gL cL : Nat} {ps : List PcU} {S : List (List Nat)} {B : Nat} {wr w' : World} (h : DsH w ga n bs aA aG cG aN cN R N gL cL ps S B wr) (hb : Below wr.heap.size wr w') : DsH w ga n bs aA aG cG aN cN R N gL cL ps S B w' := ⟨qe h.bel hb,h.av.up hb,h.au.up hb,h.ls.up hb⟩
theorem LsD.at {w : World} {g c : Nat} {ps : List PcU} {S : List (List Nat)} (h : LsD w (some ⟨g,0,none⟩) c ps S) {q : Nat} (hq : q < ps.length) : w.cell? ⟨g,q,none⟩ = some (.slice ps[q].a ps[q].len ps[q].cap) ∧ USl w ps[q].a ps[q].len ps[q].cap (atD S q) := by
 obtain ⟨g',cap,e1,_,_,k,_,_⟩ := q20 h.row hq (.bool true)
 injection e1 with e1 _ e2
 injection e1 with e1; injection e1 with e1
 subst e1
 rw [List.getElem?_map,List.getElem?_eq_getElem hq] at k
 have hu := h.us ps[q] (List.getElem_mem hq)
 have e : atD S q = ps[q].ts := by
  unfold atD
  rw [← h.is,List.getD_eq_getElem?_getD,List.getElem?_map,List.getElem?_eq_getElem hq]
  rfl
 rw [e]
 exact ⟨k,hu⟩
theorem LsD.some {w : World} {a : Option Addr} {c : Nat} {ps : List PcU} {S : List (List Nat)} (h : LsD w a c ps S) (h0 : 0 < ps.length) : ∃ g,a = some ⟨g,0,none⟩ := by
 obtain ⟨g',cap,e1,_⟩ := q20 h.row h0 (.bool true)
 injection e1 with e1 _ e2
 exact ⟨g',e1⟩
theorem qcf {n : Nat} {ns : Nat} {N : List Gd} {R : List Int} (h : MayG (n : Int) ns N R) {q : Nat} (hq : q < R.length) : I64 (R.getD q 0) := by
 have hg : R.getD q 0 ∈ R := by rw [List.getD_eq_getElem?_getD,List.getElem?_eq_getElem hq]; exact List.getElem_mem hq
 have h1 := h.few
 have h4 := h.s2
 unfold I64
 rcases h.gd _ hg with ⟨h2,h3⟩ | ⟨j,h2,h3,_⟩
 ·constructor <;> omega
 ·rw [h2]; constructor <;> omega
theorem qfQ {K : List (List Nat)} {s q m : Nat} (h : metF 1 K.flatten = some s) (hq : metF 1 (K.take q).flatten = some m) : m ≤ s := by
 have e : K.flatten = (K.take q).flatten ++ (K.drop q).flatten := by rw [← List.flatten_append,List.take_append_drop]
 rw [e,qX,hq] at h
 exact q6r h
theorem qeG {l : List Nat} {s i m b : Nat} (h : metF m l = some s) (hq : metF m (l.take i) = some b) : b ≤ s := by
 have e : l = l.take i ++ l.drop i := (List.take_append_drop i l).symm
 rw [e,qX,hq] at h
 exact q6r h
theorem q9t (n : Int) (a : Option Addr) (la ca : Nat) (xs : List Tk) (w : World) (h64 : Tab64 w) (h10 : Tab10 w) (hA : TkSl w a la ca xs) :
  Calls Tryz.prog 4 #[.int .i64 n,.slice a la ca] w (BR true w) := by
 have H64 : Hid (Tab64 w) := h64
 have H10 : Hid (Tab10 w) := h10
 have HA : Hid (TkSl w a la ca xs) := hA
 have j0 := q3C w h64 h10
 clear h64 h10 hA
 go_enter Tryz.func4,Tryz.ntmps4
 go_wp2_with fail
 refine j0.mono ?_
 rintro e w0 ⟨rfl,hb⟩
 have HB0 : Hid (Below w.heap.size w w0) := hb
 clear j0 hb
 by_cases c1 : (40 : Int) < (la : Int)
 case pos =>
  have c1b : decide ((40 : Int) < (la : Int)) = true := decide_eq_true c1
  go_wp2_with fail
  go_ret
  exact ⟨rfl,HB0.out⟩
 have c1b : decide ((40 : Int) < (la : Int)) = false := decide_eq_false c1
 by_cases c2 : n < 0
 case pos =>
  have c2b : decide (n < 0) = true := decide_eq_true c2
  go_wp2_with fail
  go_ret
  exact ⟨rfl,HB0.out⟩
 have c2b : decide (n < 0) = false := decide_eq_false c2
 by_cases c3 : 3 < n
 case pos =>
  have c3b : decide (3 < n) = true := decide_eq_true c3
  go_wp2_with fail
  go_ret
  exact ⟨rfl,HB0.out⟩
 have c3b : decide (3 < n) = false := decide_eq_false c3
 obtain ⟨k,rfl⟩ := Int.eq_ofNat_of_zero_le (by omega : 0 ≤ n)
 have hk3 : k ≤ 3 := by omega
 have jo := q2p (k : Int) a la ca xs w0 (HA.out.up HB0.out) (Tab64.up H64.out HB0.out) (Tab10.up H10.out HB0.out)
 clear c1 c2 c3
 go_wp2_with fail
 refine jo.mono ?_
 rintro e w1 ⟨hb1,⟨E,h0,hX,rfl⟩ | ⟨T,R,N,S,M,bs,aA,aG,cG,aN,cN,kT,hts,hX,hD,rfl,hAu,hbl,hfi⟩⟩
 ·obtain ⟨w2,hw2⟩ : ∃ w2,w2 = w1.alloc (.cells #[.int .i64 0,.slice none 0 0,.slice none 0 0,.slice none 0 0] 32 (0,0)) := ⟨_,rfl⟩
  have HW2 : Hid _ := hw2
  have b2 : Below w1.heap.size w1 w2 := by rw [hw2]; exact qd _ _
  have HB2 : Hid _ := qe (qe HB0.out hb1) b2
  have js := q2b (k : Int) a la ca xs w2 (HA.out.up HB2.out) (Tab64.up H64.out HB2.out) (Tab10.up H10.out HB2.out)
  have HX : Hid _ := hX
  have hne : ((E : Int) != 0) = true := by simp; omega
  have hee : ((E : Int) != (E : Int)) = false := by simp
  have HN : Hid (∀ e w',StD2 (k : Int) xs w2 e w' → e = .returned (.tuple #[.slice none 0 0,.int .i64 (E : Int)]) ∧ Below w2.heap.size w2 w') := fun e w' h => by
   rcases h with ⟨hb,⟨E1,_,hx,rfl⟩ | ⟨T1,R1,N1,S1,M1,aL,cL,ps,_,_,hx,_⟩⟩
   ·have h := HX.out.one hx
    injection h with h
    subst h
    exact ⟨rfl,hb⟩
   ·cases HX.out.one hx
  clear jo hb1 hX h0 hw2 b2
  unfold autV
  go_wp2_with fail
  rw [← HW2.out]
  refine js.mono ?_
  intro e w3 hq
  obtain ⟨rfl,hb3⟩ := HN.out e w3 hq
  have HB3 : Hid _ := qe HB2.out hb3
  clear js hq hb3 HN HX
  go_wp2
  go_ret
  exact ⟨rfl,HB3.out⟩
 ·have ekk : ((k : Nat) : Int).toNat = k := Int.toNat_natCast k
  rw [ekk] at hD
  have hmay := hD.may (by omega)
  obtain ⟨w2,hw2⟩ : ∃ w2,w2 = w1.alloc (.cells #[.int .i64 (k : Int),.slice aA bs.length bs.length,.slice aG R.length cG,.slice aN N.length cN] 32 (0,0)) := ⟨_,rfl⟩
  have HW2 : Hid _ := hw2
  have b2 : Below w1.heap.size w1 w2 := by rw [hw2]; exact qd _ _
  have HB2 : Hid _ := qe (qe HB0.out hb1) b2
  have HV2 : Hid (AuB w2 w1.heap.size (k : Int) aA bs.length bs.length aG R.length cG aN N.length cN) := by rw [hw2]; exact q1p w1 _ aA _ _ aG _ cG aN _ cN
  have HA2 : Hid _ := hAu.up b2
  have js := q2b (k : Int) a la ca xs w2 (HA.out.up HB2.out) (Tab64.up H64.out HB2.out) (Tab10.up H10.out HB2.out)
  have HD : Hid _ := hD
  have HM : Hid _ := hmay
  have HBL : Hid _ := hbl
  have HX : Hid _ := hX
  have HN : Hid (∀ e w',StD2 (k : Int) xs w2 e w' → ∃ gL cL ps,e = .returned (.tuple #[.slice (some ⟨gL,0,none⟩) ps.length cL,.int .i64 0]) ∧ ps.length = S.length ∧ DsH w w1.heap.size k bs aA aG cG aN cN R N gL cL ps S w0.heap.size w') := fun e w' h => by
   obtain ⟨aL,cL,ps,rfl,hL,hb⟩ := h.known HX.out
   have hpl : ps.length = S.length := by rw [← hL.is]; simp
   obtain ⟨g,rfl⟩ := hL.some (by have := HM.out.s1; omega)
   exact ⟨g,cL,ps,rfl,hpl,qe HB2.out hb,HV2.out.up hb,HA2.out.up hb,hL⟩
  clear jo hb1 hX hw2 b2 hmay hD hbl hfi hAu kT hts HB0 H64 H10 HA
  unfold autV
  go_wp2_with fail
  rw [← HW2.out]
  refine js.mono ?_
  intro e w3 hq
  obtain ⟨gL,cL,ps,rfl,hpl,hH3⟩ := HN.out e w3 hq
  have HH3 : Hid _ := hH3
  have HPL : Hid _ := hpl
  have hS1 := HM.out.s1
  have hS2 := HM.out.s2
  have hlR := HM.out.len
  have HRL : Hid _ := hlR
  have hau := hH3.au
  have jk := q9w (k : Int) aA bs.length bs.length aG R.length cG aN N.length cN N R w3 hau.nd hau.zs (fun z hz => by
   obtain ⟨j,hj,rfl⟩ := List.mem_iff_getElem.1 hz
   have := qcf HM.out (q := j) hj
   rwa [List.getD_eq_getElem?_getD,List.getElem?_eq_getElem hj] at this) (by have := HM.out.few; omega)
  have HK : Hid (∀ e w',ChkR (k : Int) bs.length N R w3 e w' → e = .returned (.int .i64 0) ∧ Below w3.heap.size w3 w') := fun e w' h => by
   obtain ⟨hb,v,rfl,⟨rfl,_⟩ | ⟨_,hn⟩⟩ := h
   ·exact ⟨rfl,hb⟩
   ·exact absurd (by rw [HBL.out]; exact HM.out) hn
  obtain ⟨x0,x1,x2,x3⟩ := hH3.av
  clear js hq HN hau hH3 HX HV2 HA2 HB2 HW2
  have l1 : ((ps.length : Int) != (bs.length : Int)) = false := by rw [hpl,HBL.out]; simp
  have l2 : ((ps.length : Int) != (R.length : Int)) = false := by rw [hpl,hlR]; simp
  have l3 : decide ((ps.length : Int) < 1) = false := by simp; omega
  have l0 : ((k : Int) != (k : Int)) = false := by simp
  have hKn : ps.length ≤ 256 := by omega
  clear hpl hlR hS1 hS2
  go_wp2_with fail
  refine jk.mono ?_
  intro e w4 hq
  obtain ⟨rfl,hb4⟩ := HK.out e w4 hq
  have HH4 : Hid _ := DsH.up HH3.out hb4
  obtain ⟨y0,y1,y2,y3⟩ := HH4.out.av
  obtain ⟨K,hKl,hKm,hrows⟩ := HD.out.rows
  have HKM : Hid _ := hKm
  have HRW : Hid _ := hrows
  have HKL : Hid _ := hKl
  clear jk hq hb4 HK HH3 x0 x1 x2 x3 hKm hrows hKl
  go_wp2
  clear y0 y1 y2 y3 l0 l1 l2 l3
  go_loopw [10,11] (fun mv qv wr => ∃ (q m : Nat),q ≤ ps.length ∧ m ≤ 256 ∧ qv = .int .i64 (q : Int) ∧ mv = .int .i64 (m : Int) ∧ Hid (DsH w w1.heap.size k bs aA aG cG aN cN R N gL cL ps S w0.heap.size wr) ∧ Hid (metF 1 (K.take q).flatten = some m)) (fun _ j _ => ps.length - (intOf j).toNat)
  case atStart => exact ⟨0,1,Nat.zero_le _,by omega,rfl,rfl,HH4,rfl⟩
  case round =>
   clear HH4
   obtain ⟨q,m,hq,hm,rfl,rfl,HH,HMT⟩ := hrel
   by_cases hlt : q < ps.length
   ·have hqS : q < S.length := by rw [← HPL.out]; exact hlt
    obtain ⟨r1,r2,m0,m1,r3,r4,r5,r6⟩ := HRW.out q hqS
    have hm0 : m0 = m := by
     have h := HMT.out
     rw [h] at r3
     injection r3 with r3
     exact r3.symm
    subst hm0
    have hm1 : m1 ≤ 256 := by have := qfQ HKM.out r4; have := HM.out.s2; omega
    obtain ⟨cq,uq⟩ := HH.out.ls.at hlt
    have hix := fun w' => q1a gL ps.length cL q hlt w'
    have hle := HD.out.least hqS
    have hlq := uq.len
    obtain ⟨KD,hAD⟩ := HD.out.all
    have hsm : Sm (atD S q) := qM (hAD.ok.bd _ (q2I hqS)) hAD.ok.good.few
    have jc := q72 ps[q].a ps[q].len ps[q].cap (atD S q) wr uq hsm (by have := hle.2; omega)
    rw [decide_eq_true hle.1] at jc
    have HUN : Hid (∀ r,r < q → atD S q ≠ atD S r) := fun r hr => HD.out.unlike hqS hr
    have H1 : Hid _ := r1
    have H2 : Hid _ := r2
    have H5 : Hid _ := r5
    have H4 : Hid _ := r4
    have HQS : Hid _ := hqS
    have hqm : decide (m0 ≤ q) = false := by simp; exact r6
    clear r1 r2 r3 r4 r5 r6 uq hle hlq hsm hAD hqS HMT
    go_wp2_with fail
    refine jc.mono ?_
    rintro e w5 ⟨rfl,hb5⟩
    have HH5 : Hid _ := HH.out.up hb5
    clear jc hb5 cq HH
    go_wp2
    go_loopw [12] (fun rv wr => ∃ (r : Nat),r ≤ q ∧ rv = .int .i64 (r : Int) ∧ Hid (DsH w w1.heap.size k bs aA aG cG aN cN R N gL cL ps S w0.heap.size wr)) (fun j _ => q - (intOf j).toNat)
    case atStart => exact ⟨0,Nat.zero_le _,rfl,HH5⟩
    case round =>
     clear HH5
     obtain ⟨r,hr,rfl,HH⟩ := hrel
     by_cases hrq : r < q
     ·have hrl : r < ps.length := by omega
      obtain ⟨cq,uq⟩ := HH.out.ls.at hlt
      obtain ⟨cr,ur⟩ := HH.out.ls.at hrl
      have hir := fun w' => q1a gL ps.length cL r hrl w'
      have cS : ∀ d os,Calls Tryz.prog 17 #[.slice ps[q].a ps[q].len ps[q].cap,.slice ps[r].a ps[r].len ps[r].cap] (grow (redrawn wr d) os) fun e w'' => e = .returned (.bool false) ∧ ∃ p : Regrown,w'' = grow (redrawn wr p.d) p.os := fun d os => by
       have hb := below_regrown wr d os
       have := q44 ps[q].a ps[q].len ps[q].cap (atD S q) ps[r].a ps[r].len ps[r].cap (atD S r) _ (uq.up hb) (ur.up hb)
       rw [decide_eq_false (HUN.out r hrq)] at this
       refine this.mono ?_
       rintro e w'' ⟨rfl,h2⟩
       exact ⟨rfl,regrown_of_below (qe hb h2)⟩
      have HE : Hid (∀ d os,DsH w w1.heap.size k bs aA aG cG aN cN R N gL cL ps S w0.heap.size (grow (redrawn wr d) os)) := fun d os => HH.out.up (below_regrown wr d os)
      have kq := cell_regrown cq
      have kr := cell_regrown cr
      clear uq ur cq cr HH HUN
      generalize ps[q] = pq at *
      generalize ps[r] = pr at *
      obtain ⟨qa,ql,qc,qt⟩ := pq
      obtain ⟨ra,rl,rc,rt⟩ := pr
      dsimp only at cS kq kr
      go_wp2_with fail
      refine wp_region_quiet_below (by kernel_rfl) (by kernel_rfl) ?_
      repeat (go_big_quiet_step (exact cS _ _))
      refine wpQuiet_nil ?_
      intro _ hw'
      obtain ⟨⟨dq,osq⟩,hw''⟩ := hw'
      subst hw''
      have HH9 : Hid _ := HE.out dq osq
      generalize grow (redrawn wr dq) osq = wx at *
      clear cS kq kr HE
      go_wp2
      go_roundw
      case rel => exact ⟨r + 1,by omega,by go_num,HH9⟩
      case measure => simp [intOf] <;> omega
     ·obtain rfl : r = q := by omega
      obtain ⟨z0,z1,z2,z3⟩ := HH.out.av
      have hau := HH.out.au
      have hrR : r < R.length := by rw [HRL.out]; exact HQS.out
      have hixg := fun w' => hau.zs.idx R.length r w' hrR (Nat.le_refl _)
      have hcg := hau.zs.cell r hrR
      have hbd : Below wr.heap.size wr wr.drew := (Below.refl _ _).drew
      have jT : Calls Tryz.prog 18 #[.int .i64 (k : Int),.slice aN N.length cN,.int .i64 (R.getD r 0)] wr.drew fun e w6 => ∃ aW cW,e = .returned (.tuple #[.slice aW (2 ^ k) cW,.int .i64 0]) ∧ Hid (ZSl w6 aW (2 ^ k) cW ((K.getD r []).map Int.ofNat)) ∧ Hid (DsH w w1.heap.size k bs aA aG cG aN cN R N gL cL ps S w0.heap.size w6) := by
       refine (q9x (k : Int) aN N.length cN N (R.getD r 0) wr.drew (hau.nd.up hbd) (qcf HM.out hrR)).mono ?_
       rintro e w6 ⟨hb6,⟨h,_⟩ | ⟨_,_,⟨h,_⟩ | ⟨l,aW,cW,h,rfl,hz⟩⟩⟩
       ·exact absurd ⟨by omega,by omega⟩ h
       ·rw [Int.toNat_natCast,H2.out] at h; cases h
       ·rw [Int.toNat_natCast,H2.out] at h
        injection h with h
        subst h
        rw [List.length_map,H1.out] at hz ⊢
        exact ⟨aW,cW,rfl,hz,HH.out.up (qe hbd hb6)⟩
      have hP8 : 2 ^ k ≤ 8 := Nat.pow_le_pow_right (n := 2) (by decide) hk3
      clear HH hau hbd HRL HUN H2 HQS hix
      generalize R.getD r 0 = rq at *
      generalize adOf aG r = ag at *
      obtain ⟨g1,g2,g3⟩ := ag
      go_wp2_with fail
      go_region_with (first
       | (revert jT; intro jT; go_at_call 18; (with_reducible refine jT.mono ?_); rintro e w6 ⟨aW,cW,rfl,HZ,HH⟩)
       | fail)
      all_goals
       clear jT hixg hcg z0 z1 z2 z3
       generalize hPP : 2 ^ k = P at *
       have HPP : Hid _ := hPP
       clear hPP
       go_wp2
       go_loopw [10,15] (fun mv iv wr => ∃ (i b : Nat),i ≤ P ∧ b ≤ 256 ∧ iv = .int .i64 (i : Int) ∧ mv = .int .i64 (b : Int) ∧ Hid (DsH w w1.heap.size k bs aA aG cG aN cN R N gL cL ps S w0.heap.size wr) ∧ Hid (ZSl wr aW P cW ((K.getD r []).map Int.ofNat)) ∧ Hid (metF m0 ((K.getD r []).take i) = some b)) (fun _ j _ => P - (intOf j).toNat)
       case atStart => exact ⟨0,m0,Nat.zero_le _,hm,rfl,rfl,HH,HZ,rfl⟩
       case round =>
        clear HH HZ
        obtain ⟨i,b,hi,hb9,rfl,rfl,HH,HZ,HMI⟩ := hrel
        by_cases hiP : i < P
        ·obtain ⟨b2,t1,t2,t3⟩ := qdE H5.out (i := i) (by rw [H1.out]; exact hiP)
         have hb2 : b2 = b := by
          rw [HMI.out] at t1
          injection t1 with t1
          exact t1.symm
         subst hb2
         have hb3 := qeG H5.out t3
         have hiw := fun w' => HZ.out.idx P i w' hiP (Nat.le_refl _)
         have hcw := HZ.out.cell i hiP
         have hgw : ((K.getD r []).map Int.ofNat).getD i 0 = (((K.getD r []).getD i 0 : Nat) : Int) := by
          simp only [List.getD_eq_getElem?_getD,List.getElem?_map]
          rcases (K[r]?.getD [])[i]? with _ | x <;> rfl
         rw [hgw] at hcw
         have HT3 : Hid _ := t3
         clear hgw t1 t3 HMI
         generalize (K.getD r []).getD i 0 = v at *
         generalize adOf aW i = ad at *
         obtain ⟨g1',g2',g3'⟩ := ad
         have dv : decide ((b2 : Int) < (v : Int)) = false := by simp; exact t2
         by_cases hv : v = b2
         ·subst hv
          have dvv : ((v : Int) == (v : Int)) = true := by simp
          have HT4 : Hid (metF m0 ((K.getD r []).take (i + 1)) = some (v + 1)) := by
           have h := HT3.out
           rw [if_pos rfl] at h
           exact h
          rw [if_pos rfl] at hb3
          clear HT3 t2
          go_wp2
          go_roundw
          case rel => exact ⟨i + 1,v + 1,by omega,by omega,by go_num,by go_num,HH,HZ,HT4⟩
          case measure => simp [intOf] <;> omega
         ·have dvv : ((v : Int) == (b2 : Int)) = false := by rw [beq_eq_false_iff_ne]; omega
          have HT4 : Hid (metF m0 ((K.getD r []).take (i + 1)) = some b2) := by
           have h := HT3.out
           rw [if_neg hv] at h
           exact h
          clear HT3 hv hb3
          go_wp2
          go_roundw
          case rel => exact ⟨i + 1,b2,by omega,hb9,by go_num,rfl,HH,HZ,HT4⟩
          case measure => simp [intOf] <;> omega
        ·obtain rfl : i = P := by omega
         have hbm : b = m1 := by
          have h := HMI.out
          rw [List.take_of_length_le (by rw [H1.out]; exact Nat.le_refl _),H5.out] at h
          injection h with h
          exact h.symm
         subst hbm
         clear HZ HMI
         go_wp2
         go_roundw
         case rel => exact ⟨r + 1,b,by omega,hm1,by go_num,rfl,HH,H4⟩
         case measure => simp [intOf] <;> omega
   ·obtain rfl : q = ps.length := by omega
    have hfin : m = ps.length := by
     have h := HMT.out
     rw [List.take_of_length_le (by rw [HKL.out,HPL.out]; exact Nat.le_refl _),HKM.out] at h
     injection h with h
     rw [HPL.out]; exact h.symm
    subst hfin
    have dd : ((ps.length : Int) == (ps.length : Int)) = true := by simp
    have HBE : Hid _ := HH.out.bel
    clear HMT HH HKM HRW HPL HKL HRL HM HD HBL
    generalize ps.length = Kn at *
    go_wp2
    go_ret
    exact ⟨rfl,HBE.out⟩
end Go.Proofs.YtailhklbmenaoaaGreatDoor
