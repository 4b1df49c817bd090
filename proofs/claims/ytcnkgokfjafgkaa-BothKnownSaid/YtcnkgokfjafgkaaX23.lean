/- Texts of the proof, put together: what it uses. -/
import Derived.Deep.CutBlock
import Derived.Test.YtcnkgokfjafgkaaX22
set_option maxRecDepth 100000
set_option maxHeartbeats 16000000
namespace Go.Proofs.Ytcnkgokfjafgkaa
open Go.RowKit Go.Maps
structure AuV where
 aA : Option Addr
 nA : Nat
 cA : Nat
 aG : Option Addr
 nG : Nat
 cG : Nat
 aN : Option Addr
 nN : Nat
 cN : Nat
 bs : List Bool
 gs : List Int
 N : List Gd
def AuV.In (V : AuV) (w : World) : Prop := AuW w V.aA V.nA V.cA V.aG V.nG V.cG V.aN V.nN V.cN V.bs V.gs V.N
theorem AuV.In.up {V : AuV} {w w' : World} (h : V.In w) (hb : Below w.heap.size w w') : V.In w' := AuW.up h hb
structure VarB (w : World) (g : Nat) (p : Int) (V : AuV) : Prop where
 box : AuB w g p V.aA V.nA V.cA V.aG V.nG V.cG V.aN V.nN V.cN
 mem : V.In w
theorem VarB.up {w w' : World} {g : Nat} {p : Int} {V : AuV} (h : VarB w g p V) (hb : Below w.heap.size w w') : VarB w' g p V := ⟨h.box.up hb,h.mem.up hb⟩
theorem q1s {w : World} {g : Nat} {p : Int} {V : AuV} (h : V.In w) (e : g = w.heap.size) : VarB (w.alloc (.cells #[.int .i64 p,.slice V.aA V.nA V.cA,.slice V.aG V.nG V.cG,.slice V.aN V.nN V.cN] 26 (0,0))) g p V := by
 rw [e]; exact ⟨qr _ _ _ _ _ _ _ _ _ _ _,h.up (q5 _ _)⟩
def AuV.May (V : AuV) (p : Int) : Prop := MayG p V.nA V.N V.gs
def AuV.acc (V : AuV) (p : Int) (u : List Nat) : Bool := acT p V.bs V.N V.gs u
def PuV (L : Nat) (p : Int) (f : List Nat → Bool) (w : World) (e : Ending) (w' : World) : Prop :=
 ∃ V : AuV,e = .returned (.tuple #[.agg #[.int .i64 p,.slice V.aA V.nA V.cA,.slice V.aG V.nG V.cG,.slice V.aN V.nN V.cN],.int .i64 0]) ∧ Hid (PutKb p f V.bs V.N V.gs) ∧ Hid (V.In w') ∧ Hid (V.May p) ∧ V.nA ≤ L ∧ Hid (Below w.heap.size w w')
theorem PuO.v {L : Nat} {p : Int} {f : List Nat → Bool} {w : World} {e : Ending} {w' : World} (h : PuO L p f w e w') : PuV L p f w e w' := by
 obtain ⟨bs',gs',N',a1,c1,a2,c2,a3,c3,h1,h2,h3,h4,h5⟩ := h
 exact ⟨⟨a1,bs'.length,c1,a2,bs'.length,c2,a3,N'.length,c3,bs',gs',N'⟩,h1,h2,h3.out.w,h2.out.can.may,h4,h5⟩
def MnV (p : Int) (V : AuV) (w : World) (e : Ending) (w' : World) : Prop :=
 ∃ W : AuV,e = .returned (.tuple #[.agg #[.int .i64 p,.slice W.aA W.nA W.cA,.slice W.aG W.nG W.cG,.slice W.aN W.nN W.cN],.int .i64 0]) ∧ Hid (MinA p V.nA V.bs V.N V.gs W.bs W.gs W.N) ∧ Hid (W.In w') ∧ Hid (Below w.heap.size w w')
theorem q8m (p : Int) (V : AuV) (w : World) (hM : V.May p) (hA : V.In w) :
  Calls Try.prog 16 #[.agg #[.int .i64 p,.slice V.aA V.nA V.cA,.slice V.aG V.nG V.cG,.slice V.aN V.nN V.cN]] w (MnV p V w) :=
 (q1F p V.aA V.nA V.cA V.aG V.nG V.cG V.aN V.nN V.cN V.bs V.N V.gs w hA.bo hA.nd hA.zs hM.ok64).mono fun e w' h => by
  obtain ⟨hb,⟨h,_⟩ | ⟨_,bs',gs',N',a1,c1,a2,c2,a3,c3,h1,h2,h3⟩⟩ := h
  ·exact absurd hM h
  ·exact ⟨⟨a1,bs'.length,c1,a2,bs'.length,c2,a3,N'.length,c3,bs',gs',N'⟩,h1,h2,h3.w,hb⟩
theorem q4u (p : Int) (V W : AuV) (w : World) (hV : V.In w) (hW : W.In w) :
  Calls Try.prog 13 #[.agg #[.int .i64 p,.slice V.aA V.nA V.cA,.slice V.aG V.nG V.cG,.slice V.aN V.nN V.cN],.agg #[.int .i64 p,.slice W.aA W.nA W.cA,.slice W.aG W.nG W.cG,.slice W.aN W.nN W.cN]] w fun e w' => e = .returned (.bool (decide (V.bs = W.bs ∧ V.gs = W.gs ∧ V.N = W.N))) ∧ Below w.heap.size w w' :=
 (q2C p V.aA V.nA V.cA V.aG V.nG V.cG V.aN V.nN V.cN p W.aA W.nA W.cA W.aG W.nG W.cG W.aN W.nN W.cN V.bs V.gs V.N W.bs W.gs W.N w hV.bo hV.zs hV.nd hW.bo hW.zs hW.nd).mono fun e w' ⟨h1,h2⟩ => by
  refine ⟨?_,h2⟩
  rw [h1,sameC,decide_eq_true rfl,Bool.true_and,Bool.decide_and,Bool.decide_and,Bool.and_assoc]
theorem q5v (p : Int) (V W : AuV) (w : World) (hM : V.May p) (kM : W.May p) (hV : V.In w) (hW : W.In w) :
  Calls Try.prog 18 #[.agg #[.int .i64 p,.slice V.aA V.nA V.cA,.slice V.aG V.nG V.cG,.slice V.aN V.nN V.cN],.agg #[.int .i64 p,.slice W.aA W.nA W.cA,.slice W.aG W.nG W.cG,.slice W.aN W.nN W.cN]] w fun e w' => ∃ b,e = .returned (.tuple #[.bool b,.int .i64 0]) ∧ Hid (b = true ↔ ∀ u,LtT p u → V.acc p u = true → W.acc p u = true) ∧ Below w.heap.size w w' :=
 (q3c p V.aA V.nA V.cA V.aG V.nG V.cG V.aN V.nN V.cN p W.aA W.nA W.cA W.aG W.nG W.cG W.aN W.nN W.cN V.bs W.bs V.N V.gs W.N W.gs w hV.bo hV.nd hV.zs hM.ok64 hW.bo hW.nd hW.zs kM.ok64).mono fun e w' h => by
  obtain ⟨hb,b,z,rfl,⟨_,_,⟨_,h⟩ | ⟨_,h⟩⟩ | ⟨rfl,_,_,_,h⟩⟩ := h
  ·exact absurd ⟨hM,kM⟩ h
  ·exact absurd rfl h
  ·exact ⟨b,rfl,h,hb⟩
theorem q8n (L : Nat) (hL : L ≤ 256) (p : Int) (V : AuV) (w : World) (hM : V.May p) (hV : V.In w) (hp : p ≤ 3) (hf : V.nA + 1 ≤ L) :
  Calls Try.prog 8 #[.agg #[.int .i64 p,.slice V.aA V.nA V.cA,.slice V.aG V.nG V.cG,.slice V.aN V.nN V.cN]] w (PuV L p (fun u => !V.acc p u) w) :=
 (q5e L hL p V.aA V.nA V.cA V.aG V.nG V.cG V.aN V.nN V.cN V.bs V.N V.gs w hV.bo hV.nd hV.zs hM.ok64 hp hf).mono fun _ _ h => (h.o hM hM).v
theorem q8k (L : Nat) (hL : L ≤ 256) (p : Int) (V W : AuV) (w : World) (hM : V.May p) (kM : W.May p) (hV : V.In w) (hW : W.In w) (hp : p ≤ 3) (hf : V.nA * W.nA + 1 ≤ L) :
  Calls Try.prog 9 #[.agg #[.int .i64 p,.slice V.aA V.nA V.cA,.slice V.aG V.nG V.cG,.slice V.aN V.nN V.cN],.agg #[.int .i64 p,.slice W.aA W.nA W.cA,.slice W.aG W.nG W.cG,.slice W.aN W.nN W.cN]] w (PuV L p (fun u => V.acc p u && W.acc p u) w) :=
 (q5d L hL p V.aA V.nA V.cA V.aG V.nG V.cG V.aN V.nN V.cN p W.aA W.nA W.cA W.aG W.nG W.cG W.aN W.nN W.cN V.bs W.bs V.N V.gs W.N W.gs w hV.bo hV.nd hV.zs hM.ok64 hW.bo hW.nd hW.zs kM.ok64 hp hf).mono fun _ _ h => (h.o hM kM).v
theorem q9s (L : Nat) (hL : L ≤ 256) (p : Int) (V W : AuV) (w : World) (hM : V.May p) (kM : W.May p) (hV : V.In w) (hW : W.In w) (hp : p ≤ 3) (hf : V.nA * W.nA + 1 ≤ L) :
  Calls Try.prog 10 #[.agg #[.int .i64 p,.slice V.aA V.nA V.cA,.slice V.aG V.nG V.cG,.slice V.aN V.nN V.cN],.agg #[.int .i64 p,.slice W.aA W.nA W.cA,.slice W.aG W.nG W.cG,.slice W.aN W.nN W.cN]] w (PuV L p (fun u => V.acc p u || W.acc p u) w) :=
 (q61 L hL p V.aA V.nA V.cA V.aG V.nG V.cG V.aN V.nN V.cN p W.aA W.nA W.cA W.aG W.nG W.cG W.aN W.nN W.cN V.bs W.bs V.N V.gs W.N W.gs w hV.bo hV.nd hV.zs hM.ok64 hW.bo hW.nd hW.zs kM.ok64 hp hf).mono fun _ _ h => (h.o hM kM).v
theorem q5s : (Try.prog.info? 34).map (·.size) = some 1 := by kernel_rfl
theorem q4d (a : Option Addr) (len cap : Nat) (xs : List Int) (a' : Option Addr) (len' cap' : Nat) (ys : List Int) (w : World)
  (hS : IntSl Try.prog 27 .u8 w a len cap xs) (hO : IntSl Try.prog 27 .u8 w a' len' cap' ys) :
  Calls Try.prog 20 #[.slice a len cap,.slice a' len' cap'] w fun e w' => e = .returned (.bool (decide (xs = ys))) ∧ ∃ n,w' = w.drewN n := by
 have hb0 := hS.bd
 have hb1 := hS.hcap
 have hb2 := hO.bd
 have hb3 := hO.hcap
 unfold maxLen at hb0 hb2
 by_cases hll : len = len'
 ·subst hll
  have hidx := fun (k : Nat) (w : World) (h : k < len) => hS.idx len k w h (Nat.le_refl _)
  have hidx' := fun (k : Nat) (w : World) (h : k < len) => hO.idx len k w h (Nat.le_refl _)
  go_enter Try.func20,Try.ntmps20
  go_wp2
  go_loopw [5] (fun i wr => ∃ k : Nat,k ≤ len ∧ i = .int .i64 k ∧ Hid (xs.take k = ys.take k) ∧ Hid (∃ n,wr = w.drewN n)) (fun i _ => len - (intOf i).toNat)
  case atStart => exact ⟨0,Nat.zero_le _,rfl,by show _ = _; simp,0,rfl⟩
  case round =>
   obtain ⟨k,hk,rfl,HU,hwr⟩ := hrel
   by_cases hlt : k < len
   ·have hS' : IntSl Try.prog 27 .u8 wr a len cap xs := by obtain ⟨n,hn⟩ := hwr.out; rw [hn]; exact hS.drewN n
    have hO' : IntSl Try.prog 27 .u8 wr a' len cap' ys := by obtain ⟨n,hn⟩ := hwr.out; rw [hn]; exact hO.drewN n
    have hck := hS'.cell k hlt
    have hck' := hO'.cell k hlt
    have HN : Hid (xs.getD k 0 = ys.getD k 0 → xs.take (k + 1) = ys.take (k + 1)) := fun h => q1Z (by rw [hS.hlen]; exact hlt) (by rw [hO.hlen]; exact hlt) HU.out h
    have HM : Hid (xs.getD k 0 ≠ ys.getD k 0 → decide (xs = ys) = false) := fun h => decide_eq_false (fun e => h (by rw [e]))
    clear hS' hO'
    generalize xs.getD k 0 = x at *
    generalize ys.getD k 0 = y at *
    go_wp2
    go_quiet (fail)
    rcases Bool.eq_false_or_eq_true (x != y) with ht | ht
    ·go_wp2
     go_ret
     obtain ⟨n,hn⟩ := hwr.out
     exact ⟨by rw [HM.out (by simpa using ht)]; rfl,n + nq,by rw [hn,World.drewN_drewN]⟩
    ·have HN2 : Hid _ := HN.out (by simpa using ht)
     go_wp2
     go_roundw
     case rel =>
      obtain ⟨n,hn⟩ := hwr.out
      exact ⟨k + 1,by omega,by go_num,HN2,n + nq,by rw [hn,World.drewN_drewN]⟩
     case measure => simp [intOf]; omega
   ·have hx : Hid (decide (xs = ys) = true) := by
     have := HU.out
     rw [List.take_of_length_le (by rw [hS.hlen]; omega),List.take_of_length_le (by rw [hO.hlen]; omega)] at this
     exact decide_eq_true this
    go_wp2
    go_ret
    exact ⟨by rw [hx.out]; rfl,hwr.out⟩
 ·have hx : Hid (decide (xs = ys) = false) := decide_eq_false (fun e => hll (by rw [← hS.hlen,← hO.hlen,e]))
  have hll' : ((len : Int) != (len' : Int)) = true := by simp; omega
  clear hll
  go_enter Try.func20,Try.ntmps20
  go_wp2
  go_ret
  exact ⟨by rw [hx.out]; rfl,0,rfl⟩
end Go.Proofs.Ytcnkgokfjafgkaa
namespace Go.Proofs.Ytcnkgokfjafgkaa
open Go.RowKit Go.Maps Go.Sort
theorem qaj (w : World) (ts : List Nat) (hl : ts.length ≤ 1000) : LtC (w.alloc (.cells (ltV ts).toArray 34)) (some ⟨w.heap.size,0,none⟩) ts.length ts.length ts := by
 have hc := (MapKept.heap_alloc w (.cells (ltV ts).toArray 34)).1
 have had : ∀ k,adOf (some (⟨w.heap.size,0,none⟩ : Addr)) k = ⟨w.heap.size,k,none⟩ := fun k => by simp [adOf,q9]
 refine ⟨by simp,Nat.le_refl _,by unfold maxLen; omega,fun m k w hk hm => qw Try.underlying27 q5s (by simp) k w hk,fun k hk => ?_,fun k hk => by rw [had]; simp,by simp⟩
 rw [had,q6 hc,qC hk]
 simpa using q7Q hk
theorem q6e {w : World} {a : Option Addr} {c : Nat} {ts us : List Nat} {a' : Option Addr} {c' : Nat} (h1 : LtC w a ts.length c ts) (h2 : LtC w a' us.length c' us) : Calls Try.prog 20 #[.slice a ts.length c,.slice a' us.length c'] w fun e w' => e = .returned (.bool (decide (ts = us))) ∧ Below w.heap.size w w' :=
 (q4d a ts.length c (ts.map Int.ofNat) a' us.length c' (us.map Int.ofNat) w h1 h2).mono fun e w' ⟨he,n,hw⟩ => by
  have e1 : decide (ts.map Int.ofNat = us.map Int.ofNat) = decide (ts = us) := by
   congr 1; apply propext
   exact ⟨fun h => List.map_inj_right (fun x y h => by injection h) |>.1 h,fun h => by rw [h]⟩
  rw [e1] at he
  subst hw
  exact ⟨he,below_drewN (Below.refl _ _) n⟩
theorem q7G (w : World) (bs : List Bool) (gs : List Int) (h1 : bs.length ≤ 1000) (h2 : gs.length ≤ 1000) :
  AuW ((w.alloc (.cells (bs.map Value.bool).toArray 4)).alloc (.cells (gs.map (Value.int .i64)).toArray 3)) (some ⟨w.heap.size,0,none⟩) bs.length bs.length (some ⟨w.heap.size + 1,0,none⟩) gs.length gs.length none 0 0 bs gs [] ∧ Below w.heap.size w ((w.alloc (.cells (bs.map Value.bool).toArray 4)).alloc (.cells (gs.map (Value.int .i64)).toArray 3)) := by
 have b1 := blitP w bs h1
 have b2 := zlitP (w.alloc (.cells (bs.map Value.bool).toArray 4)) gs h2
 have e : ∀ (w : World) (o : Obj),(w.alloc o).heap.size = w.heap.size + 1 := fun w o => by simp
 simp only [e] at b2
 exact ⟨⟨b1.up (q5 _ _),NdSl.nil,b2⟩,q7 (q5 w _) (q5 _ _)⟩
theorem q69 (V : AuV) (w : World) (hM : V.May 1) (hV : V.In w) :
  Calls Try.prog 15 #[.agg #[.int .i64 1,.slice V.aA V.nA V.cA,.slice V.aG V.nG V.cG,.slice V.aN V.nN V.cN],.agg #[.int .i64 1,.slice V.aA V.nA V.cA,.slice V.aG V.nG V.cG,.slice V.aN V.nN V.cN]] w fun e w' => ∃ a n c,e = .returned (.tuple #[.slice a n c,.bool false,.int .i64 0]) ∧ Below w.heap.size w w' :=
 (q2z 1 V.aA V.nA V.cA V.aG V.nG V.cG V.aN V.nN V.cN 1 V.aA V.nA V.cA V.aG V.nG V.cG V.aN V.nN V.cN V.bs V.bs V.N V.gs V.N V.gs w hV.bo hV.nd hV.zs hM.ok64 hV.bo hV.nd hV.zs hM.ok64).mono fun e w' h => by
  obtain ⟨ts,is,a,c,rfl,HS,HL,HB⟩ := h.o hM hM
  rcases HS.out with ⟨_,_,h3,_⟩ | ⟨rfl,_⟩
  ·simp at h3
  ·exact ⟨a,_,c,rfl,HB.out⟩
theorem q7s (V : AuV) (w : World) (hM : V.May 1) (hV : V.In w) (a1 : Option Addr) (c1 : Nat) (a2 : Option Addr) (c2 : Nat) (hx : AuW w a1 1 c1 a2 1 c2 none 0 0 [false] [-1] []) :
  Calls Try.prog 17 #[.agg #[.int .i64 1,.slice V.aA V.nA V.cA,.slice V.aG V.nG V.cG,.slice V.aN V.nN V.cN],.agg #[.int .i64 2,.slice a1 1 c1,.slice a2 1 c2,.slice none 0 0]] w fun e w' => ∃ b,e = .returned (.tuple #[.bool b,.int .i64 2]) ∧ Below w.heap.size w w' :=
 (q3Y 1 V.aA V.nA V.cA V.aG V.nG V.cG V.aN V.nN V.cN 2 a1 1 c1 a2 1 c2 none 0 0 V.bs [false] V.N V.gs [] [-1] w hV.bo hV.nd hV.zs hM.ok64 hx.bo hx.nd hx.zs qaB.ok64).mono fun e w' h => by
  obtain ⟨hb,b,z,rfl,⟨_,_,⟨_,h⟩ | ⟨rfl,_⟩⟩ | ⟨_,_,_,h,_⟩⟩ := h
  ·exact absurd ⟨hM,qaB⟩ h
  ·exact ⟨b,rfl,hb⟩
  ·exact absurd h (by decide)
theorem q76 (V : AuV) (w : World) (hU : V.bs = cnB ∧ V.gs = cnG ∧ V.N = noN) (hV : V.In w) (a1 : Option Addr) (c1 : Nat) (a2 : Option Addr) (c2 : Nat) (a3 : Option Addr) (c3 : Nat) (hx : AuW w a1 2 c1 a2 2 c2 a3 1 c3 cnB cnG noN) :
  Calls Try.prog 19 #[.agg #[.int .i64 1,.slice V.aA V.nA V.cA,.slice V.aG V.nG V.cG,.slice V.aN V.nN V.cN],.agg #[.int .i64 1,.slice a1 2 c1,.slice a2 2 c2,.slice a3 1 c3]] w fun e w' => e = .returned (.bool true) ∧ Below w.heap.size w w' := by
 have e1 := hV.bo.hlen
 have e2 := hV.zs.hlen
 have e3 := hV.nd.hlen
 have h1 := hV.bo
 have h2 := hV.zs
 have h3 := hV.nd
 rw [hU.1] at e1 h1
 rw [hU.2.1] at e2 h2
 rw [hU.2.2] at e3 h3
 have e1 : 2 = V.nA := e1
 have e2 : 2 = V.nG := e2
 have e3 : 1 = V.nN := e3
 rw [← e1] at h1
 rw [← e2] at h2
 rw [← e3] at h3
 rw [← e1,← e2,← e3]
 exact q4c 1 V.aA 2 V.cA V.aG 2 V.cG V.aN 1 V.cN a1 c1 a2 c2 a3 c3 cnB cnG noN w h1 h2 h3 hx.bo hx.zs hx.nd
theorem q3Z (w : World) : Calls Try.prog 5 #[] w fun e w' => e = .returned (.bool true) ∧ Below w.heap.size w w' := by
 obtain ⟨hx,hb3⟩ := q7H w cnB cnG cnN (by decide) (by decide) (by decide) cn_ok
 obtain ⟨w3,hw3⟩ : ∃ w3,w3 = (((w.alloc (.cells #[.bool false,.bool true] 4)).alloc (.cells #[.int .i64 0,.int .i64 0] 3)).alloc (.cells #[.int .i64 0,.int .i64 (-1),.int .i64 (-2)] 45)) := ⟨_,rfl⟩
 obtain ⟨A,hA⟩ : ∃ A : AuV,A = ⟨some ⟨w.heap.size,0,none⟩,2,2,some ⟨w.heap.size + 1,0,none⟩,2,2,some ⟨w.heap.size + 1 + 1,0,none⟩,1,1,cnB,cnG,cnN⟩ := ⟨_,rfl⟩
 have hx3 : A.In w3 := by rw [hw3,hA]; exact hx
 have hb3' : Below w.heap.size w w3 := by rw [hw3]; exact hb3
 have hs3 : w3.heap.size = w.heap.size + 1 + 1 + 1 := by rw [hw3]; simp
 obtain ⟨w4,hw4⟩ : ∃ w4,w4 = w3.alloc (.cells #[.int .i64 1,.slice (some ⟨w.heap.size,0,none⟩) 2 2,.slice (some ⟨w.heap.size + 1,0,none⟩) 2 2,.slice (some ⟨w.heap.size + 1 + 1,0,none⟩) 1 1] 26 (0,0)) := ⟨_,rfl⟩
 have hb4 : Below w3.heap.size w3 w4 := by rw [hw4]; exact q5 _ _
 have hA4 : VarB w4 (w.heap.size + 1 + 1 + 1) 1 A := by
  have := q1s (p := 1) hx3 hs3.symm
  rw [hw4]
  rw [hA] at this ⊢
  exact this
 obtain ⟨kx,kb6⟩ := q7G w4 cnB eaG (by decide) (by decide)
 obtain ⟨w6,hw6⟩ : ∃ w6,w6 = (w4.alloc (.cells #[.bool false,.bool true] 4)).alloc (.cells #[.int .i64 (-2),.int .i64 (-2)] 3) := ⟨_,rfl⟩
 obtain ⟨B,hB⟩ : ∃ B : AuV,B = ⟨some ⟨w4.heap.size,0,none⟩,2,2,some ⟨w4.heap.size + 1,0,none⟩,2,2,none,0,0,cnB,eaG,[]⟩ := ⟨_,rfl⟩
 have hx6 : B.In w6 := by rw [hw6,hB]; exact kx
 have hb6 : Below w4.heap.size w4 w6 := by rw [hw6]; exact kb6
 have hs6 : w6.heap.size = w4.heap.size + 1 + 1 := by rw [hw6]; simp
 obtain ⟨w7,hw7⟩ : ∃ w7,w7 = w6.alloc (.cells #[.int .i64 1,.slice (some ⟨w4.heap.size,0,none⟩) 2 2,.slice (some ⟨w4.heap.size + 1,0,none⟩) 2 2,.slice none 0 0] 26 (0,0)) := ⟨_,rfl⟩
 have hb7 : Below w6.heap.size w6 w7 := by rw [hw7]; exact q5 _ _
 have HB7 : Hid (VarB w7 (w4.heap.size + 1 + 1) 1 B) := by
  show VarB _ _ _ _
  have := q1s (p := 1) hx6 hs6.symm
  rw [hw7]
  rw [hB] at this ⊢
  exact this
 have HA7 : Hid (VarB w7 (w.heap.size + 1 + 1 + 1) 1 A) := hA4.up (q7 hb6 hb7)
 have HR7 : Hid (Below w.heap.size w w7) := q7 (q7 hb3' hb4) (q7 hb6 hb7)
 have hAA : Hid (∀ u,A.acc 1 u = acT 1 cnB cnN cnG u) := fun u => by rw [hA]; rfl
 have hBB : Hid (∀ u,B.acc 1 u = acT 1 cnB [] eaG u) := fun u => by rw [hB]; rfl
 have HAL : Hid (A.bs = cnB ∧ A.gs = cnG ∧ A.N = cnN) := by rw [hA]; exact ⟨rfl,rfl,rfl⟩
 have HBL : Hid (B.bs = cnB ∧ B.gs = eaG ∧ B.N = []) := by rw [hB]; exact ⟨rfl,rfl,rfl⟩
 have HAN : Hid (A.nA = 2) := by show A.nA = 2; rw [hA]
 have HBN : Hid (B.nA = 2) := by show B.nA = 2; rw [hB]
 have HMA : Hid (A.May 1) := by show MayG _ _ _ _; rw [hA]; exact cn_k.may
 have HMB : Hid (B.May 1) := by show MayG _ _ _ _; rw [hB]; exact q7M
 have HE0 : Hid (acT 1 A.bs A.N A.gs [] = acT 1 B.bs B.N B.gs []) := by rw [hA,hB]; exact ex_a0.trans ex_e0.symm
 have HE1 : Hid (acT 1 A.bs A.N A.gs [0] = false) := by rw [hA]; exact ex_a1
 have HE2 : Hid (acT 1 B.bs B.N B.gs [0] = true) := by rw [hB]; exact ex_e1
 have HIM : Hid (∀ u,LtT 1 u → A.acc 1 u = true → B.acc 1 u = true) := fun u hu h => by rw [hAA.out] at h; rw [hBB.out]; exact qai hu h
 have HIN : Hid (¬ ∀ u,LtT 1 u → B.acc 1 u = true → A.acc 1 u = true) := fun h => by
  have := h [0] (fun l hl => by simp at hl; subst hl; decide) (by rw [hBB.out]; exact ex_e1)
  rw [hAA.out,ex_a1] at this
  cases this
 have HW3 : Hid _ := hw3
 have HW4 : Hid _ := hw4
 have HW6 : Hid _ := hw6
 have HW7 : Hid _ := hw7
 clear hx hb3 hA hx3 hb3' hs3 hw3 hb4 hw4 hA4 kx kb6 hB hx6 hb6 hs6 hw6 hb7 hw7
 go_enter Try.func5,Try.ntmps5
 go_upto_region 3 with (first | rw [← HW3.out,← HW4.out] | rw [← HW6.out,← HW7.out])
 generalize w4.heap.size + 1 + 1 = g2 at *
 generalize w.heap.size + 1 + 1 + 1 = g1 at *
 clear HW3 HW4 HW6 HW7
 have j7 := q8n 3 (by decide) 1 A w7 HMA.out HA7.out.mem (by decide) (by have := HAN.out; omega)
 obtain ⟨c0,c1,c2,c3⟩ := HA7.out.box
 go_wp2_with fail
 refine j7.mono ?_
 rintro e u7 ⟨N,rfl,HPN,HIN,HMN,hnN,HX⟩
 obtain ⟨w8,hw⟩ : ∃ x,x = u7.alloc (.cells #[.int .i64 1,.slice N.aA N.nA N.cA,.slice N.aG N.nG N.cG,.slice N.aN N.nN N.cN] 26 (0,0)) := ⟨_,rfl⟩
 have hba : Below u7.heap.size u7 w8 := by rw [hw]; exact q5 _ _
 have hbb := q7 HX.out hba
 have HN8 : Hid (VarB w8 u7.heap.size 1 N) := by show VarB _ _ _ _; rw [hw]; exact q1s HIN.out rfl
 have HA8 : Hid (VarB w8 g1 1 A) := HA7.out.up hbb
 have HB8 : Hid (VarB w8 g2 1 B) := HB7.out.up hbb
 have HR8 : Hid (Below w.heap.size w w8) := q7 HR7.out hbb
 have HW8 : Hid _ := hw
 clear HA7 HB7 HR7 j7 c0 c1 c2 c3 hba hbb hw HIN HX
 have j8 := q8k 5 (by decide) 1 A B w8 HMA.out HMB.out HA8.out.mem HB8.out.mem (by decide) (Nat.le_of_eq (by rw [HAN.out,HBN.out]))
 obtain ⟨c0,c1,c2,c3⟩ := HA8.out.box
 obtain ⟨d0,d1,d2,d3⟩ := HB8.out.box
 go_wp2_with (rw [← HW8.out])
 generalize u7.heap.size = bN at *
 clear HW8
 refine j8.mono ?_
 rintro e u8 ⟨X,rfl,HPX,HIX,HMX,hnX,HX⟩
 obtain ⟨w9,hw⟩ : ∃ x,x = u8.alloc (.cells #[.int .i64 1,.slice X.aA X.nA X.cA,.slice X.aG X.nG X.cG,.slice X.aN X.nN X.cN] 26 (0,0)) := ⟨_,rfl⟩
 have hba : Below u8.heap.size u8 w9 := by rw [hw]; exact q5 _ _
 have hbb := q7 HX.out hba
 have HX9 : Hid (VarB w9 u8.heap.size 1 X) := by show VarB _ _ _ _; rw [hw]; exact q1s HIX.out rfl
 have HA9 : Hid (VarB w9 g1 1 A) := HA8.out.up hbb
 have HB9 : Hid (VarB w9 g2 1 B) := HB8.out.up hbb
 have HN9 : Hid (VarB w9 bN 1 N) := HN8.out.up hbb
 have HR9 : Hid (Below w.heap.size w w9) := q7 HR8.out hbb
 have HW9 : Hid _ := hw
 clear HA8 HB8 HN8 HR8 j8 c0 c1 c2 c3 d0 d1 d2 d3 hba hbb hw HIX HX
 have j9 := q9s 5 (by decide) 1 A B w9 HMA.out HMB.out HA9.out.mem HB9.out.mem (by decide) (Nat.le_of_eq (by rw [HAN.out,HBN.out]))
 obtain ⟨c0,c1,c2,c3⟩ := HA9.out.box
 obtain ⟨d0,d1,d2,d3⟩ := HB9.out.box
 go_wp2_with (rw [← HW9.out])
 generalize u8.heap.size = bX at *
 clear HW9
 refine j9.mono ?_
 rintro e u9 ⟨Y,rfl,HPY,HIY,HMY,hnY,HX⟩
 obtain ⟨w10,hw⟩ : ∃ x,x = u9.alloc (.cells #[.int .i64 1,.slice Y.aA Y.nA Y.cA,.slice Y.aG Y.nG Y.cG,.slice Y.aN Y.nN Y.cN] 26 (0,0)) := ⟨_,rfl⟩
 have hba : Below u9.heap.size u9 w10 := by rw [hw]; exact q5 _ _
 have hbb := q7 HX.out hba
 have HY10 : Hid (VarB w10 u9.heap.size 1 Y) := by show VarB _ _ _ _; rw [hw]; exact q1s HIY.out rfl
 have HA10 : Hid (VarB w10 g1 1 A) := HA9.out.up hbb
 have HB10 : Hid (VarB w10 g2 1 B) := HB9.out.up hbb
 have HN10 : Hid (VarB w10 bN 1 N) := HN9.out.up hbb
 have HX10 : Hid (VarB w10 bX 1 X) := HX9.out.up hbb
 have HR10 : Hid (Below w.heap.size w w10) := q7 HR9.out hbb
 have HW10 : Hid _ := hw
 clear HA9 HB9 HN9 HX9 HR9 j9 c0 c1 c2 c3 d0 d1 d2 d3 hba hbb hw HIY HX
 have j10 := q8m 1 B w10 HMB.out HB10.out.mem
 obtain ⟨c0,c1,c2,c3⟩ := HB10.out.box
 go_wp2_with (rw [← HW10.out])
 generalize u9.heap.size = bY at *
 clear HW10
 refine j10.mono ?_
 rintro e u10 ⟨M,rfl,HPM,HIM,HX⟩
 obtain ⟨w11,hw⟩ : ∃ x,x = u10.alloc (.cells #[.int .i64 1,.slice M.aA M.nA M.cA,.slice M.aG M.nG M.cG,.slice M.aN M.nN M.cN] 26 (0,0)) := ⟨_,rfl⟩
 have hba : Below u10.heap.size u10 w11 := by rw [hw]; exact q5 _ _
 have hbb := q7 HX.out hba
 have HM11 : Hid (VarB w11 u10.heap.size 1 M) := by show VarB _ _ _ _; rw [hw]; exact q1s HIM.out rfl
 have HA11 : Hid (VarB w11 g1 1 A) := HA10.out.up hbb
 have HB11 : Hid (VarB w11 g2 1 B) := HB10.out.up hbb
 have HN11 : Hid (VarB w11 bN 1 N) := HN10.out.up hbb
 have HX11 : Hid (VarB w11 bX 1 X) := HX10.out.up hbb
 have HY11 : Hid (VarB w11 bY 1 Y) := HY10.out.up hbb
 have HR11 : Hid (Below w.heap.size w w11) := q7 HR10.out hbb
 have HW11 : Hid _ := hw
 clear HA10 HB10 HN10 HX10 HY10 HR10 j10 c0 c1 c2 c3 hba hbb hw HIM HX
 have j11 := q6X HA11.out.mem HB11.out.mem HMA.out HMB.out HE0.out HE1.out HE2.out
 obtain ⟨c0,c1,c2,c3⟩ := HA11.out.box
 obtain ⟨d0,d1,d2,d3⟩ := HB11.out.box
 go_wp2_with (rw [← HW11.out])
 generalize u10.heap.size = bM at *
 clear HW11
 refine j11.mono ?_
 rintro e w12 ⟨tA,tC,rfl,HT12,hb⟩
 have HA12 : Hid (VarB w12 g1 1 A) := HA11.out.up hb.out
 have HB12 : Hid (VarB w12 g2 1 B) := HB11.out.up hb.out
 have HN12 : Hid (VarB w12 bN 1 N) := HN11.out.up hb.out
 have HX12 : Hid (VarB w12 bX 1 X) := HX11.out.up hb.out
 have HY12 : Hid (VarB w12 bY 1 Y) := HY11.out.up hb.out
 have HM12 : Hid (VarB w12 bM 1 M) := HM11.out.up hb.out
 have HR12 : Hid (Below w.heap.size w w12) := q7 HR11.out hb.out
 clear HA11 HB11 HN11 HX11 HY11 HM11 HR11 j11 hb c0 c1 c2 c3 d0 d1 d2 d3
 have j12 := q69 A w12 HMA.out HA12.out.mem
 obtain ⟨c0,c1,c2,c3⟩ := HA12.out.box
 go_wp2_with fail
 refine j12.mono ?_
 rintro e w13 ⟨sA,sN,sC,rfl,hb⟩
 have HA13 : Hid (VarB w13 g1 1 A) := HA12.out.up hb
 have HB13 : Hid (VarB w13 g2 1 B) := HB12.out.up hb
 have HN13 : Hid (VarB w13 bN 1 N) := HN12.out.up hb
 have HX13 : Hid (VarB w13 bX 1 X) := HX12.out.up hb
 have HY13 : Hid (VarB w13 bY 1 Y) := HY12.out.up hb
 have HM13 : Hid (VarB w13 bM 1 M) := HM12.out.up hb
 have HT13 : Hid (LtC w13 tA 1 tC [0]) := HT12.out.up hb
 have HR13 : Hid (Below w.heap.size w w13) := q7 HR12.out hb
 clear HA12 HB12 HN12 HX12 HY12 HM12 HR12 HT12 j12 hb c0 c1 c2 c3
 have j13 := q5v 1 A B w13 HMA.out HMB.out HA13.out.mem HB13.out.mem
 obtain ⟨c0,c1,c2,c3⟩ := HA13.out.box
 obtain ⟨d0,d1,d2,d3⟩ := HB13.out.box
 go_wp2_with fail
 refine j13.mono ?_
 rintro e w14 ⟨one,rfl,h1,hb⟩
 have HA14 : Hid (VarB w14 g1 1 A) := HA13.out.up hb
 have HB14 : Hid (VarB w14 g2 1 B) := HB13.out.up hb
 have HN14 : Hid (VarB w14 bN 1 N) := HN13.out.up hb
 have HX14 : Hid (VarB w14 bX 1 X) := HX13.out.up hb
 have HY14 : Hid (VarB w14 bY 1 Y) := HY13.out.up hb
 have HM14 : Hid (VarB w14 bM 1 M) := HM13.out.up hb
 have HT14 : Hid (LtC w14 tA 1 tC [0]) := HT13.out.up hb
 have HR14 : Hid (Below w.heap.size w w14) := q7 HR13.out hb
 clear HA13 HB13 HN13 HX13 HY13 HM13 HR13 HT13 j13 hb c0 c1 c2 c3 d0 d1 d2 d3
 have h1 := h1.out.2 HIM.out
 subst h1
 have j14 := q5v 1 B A w14 HMB.out HMA.out HB14.out.mem HA14.out.mem
 obtain ⟨c0,c1,c2,c3⟩ := HA14.out.box
 obtain ⟨d0,d1,d2,d3⟩ := HB14.out.box
 go_wp2_with fail
 refine j14.mono ?_
 rintro e w15 ⟨two,rfl,h1,hb⟩
 have HA15 : Hid (VarB w15 g1 1 A) := HA14.out.up hb
 have HB15 : Hid (VarB w15 g2 1 B) := HB14.out.up hb
 have HN15 : Hid (VarB w15 bN 1 N) := HN14.out.up hb
 have HX15 : Hid (VarB w15 bX 1 X) := HX14.out.up hb
 have HY15 : Hid (VarB w15 bY 1 Y) := HY14.out.up hb
 have HM15 : Hid (VarB w15 bM 1 M) := HM14.out.up hb
 have HT15 : Hid (LtC w15 tA 1 tC [0]) := HT14.out.up hb
 have HR15 : Hid (Below w.heap.size w w15) := q7 HR14.out hb
 clear HA14 HB14 HN14 HX14 HY14 HM14 HR14 HT14 j14 hb c0 c1 c2 c3 d0 d1 d2 d3
 have h1 : two = false := by
  cases two with
  | false => rfl
  | true => exact absurd (h1.out.1 rfl) HIN.out
 subst h1
 obtain ⟨c0,c1,c2,c3⟩ := HA15.out.box
 obtain ⟨hx,hbx⟩ := q7G w15 [false] [-1] (by decide) (by decide)
 obtain ⟨w16,hw⟩ : ∃ x,x = (w15.alloc (.cells #[.bool false] 4)).alloc (.cells #[.int .i64 (-1)] 3) := ⟨_,rfl⟩
 have hb : Below w15.heap.size w15 w16 := by rw [hw]; exact hbx
 have hx2 : AuW w16 (some ⟨w15.heap.size,0,none⟩) 1 1 (some ⟨w15.heap.size + 1,0,none⟩) 1 1 none 0 0 [false] [-1] [] := by rw [hw]; exact hx
 have HW16 : Hid _ := hw
 have HA16 : Hid (VarB w16 g1 1 A) := HA15.out.up hb
 have HB16 : Hid (VarB w16 g2 1 B) := HB15.out.up hb
 have HN16 : Hid (VarB w16 bN 1 N) := HN15.out.up hb
 have HX16 : Hid (VarB w16 bX 1 X) := HX15.out.up hb
 have HY16 : Hid (VarB w16 bY 1 Y) := HY15.out.up hb
 have HM16 : Hid (VarB w16 bM 1 M) := HM15.out.up hb
 have HT16 : Hid (LtC w16 tA 1 tC [0]) := HT15.out.up hb
 have HR16 : Hid (Below w.heap.size w w16) := q7 HR15.out hb
 clear HA15 HB15 HN15 HX15 HY15 HM15 HR15 HT15 hx hbx hw hb
 have j16 := q7s A w16 HMA.out HA16.out.mem _ _ _ _ hx2
 clear hx2
 go_wp2_with (rw [← HW16.out])
 clear HW16
 refine j16.mono ?_
 rintro e w17 ⟨bb,rfl,hb⟩
 have HA17 : Hid (VarB w17 g1 1 A) := HA16.out.up hb
 have HB17 : Hid (VarB w17 g2 1 B) := HB16.out.up hb
 have HN17 : Hid (VarB w17 bN 1 N) := HN16.out.up hb
 have HX17 : Hid (VarB w17 bX 1 X) := HX16.out.up hb
 have HY17 : Hid (VarB w17 bY 1 Y) := HY16.out.up hb
 have HM17 : Hid (VarB w17 bM 1 M) := HM16.out.up hb
 have HT17 : Hid (LtC w17 tA 1 tC [0]) := HT16.out.up hb
 have HR17 : Hid (Below w.heap.size w w17) := q7 HR16.out hb
 clear HA16 HB16 HN16 HX16 HY16 HM16 HR16 HT16 j16 hb c0 c1 c2 c3
 obtain ⟨c0,c1,c2,c3⟩ := HN17.out.box
 obtain ⟨hx,hbx⟩ := q7H w17 cnB cnG noN (by decide) (by decide) (by decide) qaq
 obtain ⟨w18,hw⟩ : ∃ x,x = ((w17.alloc (.cells #[.bool false,.bool true] 4)).alloc (.cells #[.int .i64 0,.int .i64 0] 3)).alloc (.cells #[.int .i64 0,.int .i64 (-2),.int .i64 (-1)] 45) := ⟨_,rfl⟩
 have hb : Below w17.heap.size w17 w18 := by rw [hw]; exact hbx
 have hx2 : AuW w18 (some ⟨w17.heap.size,0,none⟩) 2 2 (some ⟨w17.heap.size + 1,0,none⟩) 2 2 (some ⟨w17.heap.size + 1 + 1,0,none⟩) 1 1 cnB cnG noN := by rw [hw]; exact hx
 have HW18 : Hid _ := hw
 have HA18 : Hid (VarB w18 g1 1 A) := HA17.out.up hb
 have HB18 : Hid (VarB w18 g2 1 B) := HB17.out.up hb
 have HN18 : Hid (VarB w18 bN 1 N) := HN17.out.up hb
 have HX18 : Hid (VarB w18 bX 1 X) := HX17.out.up hb
 have HY18 : Hid (VarB w18 bY 1 Y) := HY17.out.up hb
 have HM18 : Hid (VarB w18 bM 1 M) := HM17.out.up hb
 have HT18 : Hid (LtC w18 tA 1 tC [0]) := HT17.out.up hb
 have HR18 : Hid (Below w.heap.size w w18) := q7 HR17.out hb
 clear HA17 HB17 HN17 HX17 HY17 HM17 HR17 HT17 hx hbx hw hb
 have j18 := q76 N w18 (qat (by have := HPN.out; simp only [hAA.out] at this; exact this)) HN18.out.mem _ _ _ _ _ _ hx2
 clear hx2
 go_wp2_with (rw [← HW18.out])
 clear HW18
 refine j18.mono ?_
 rintro e w19 ⟨rfl,hb⟩
 have HA19 : Hid (VarB w19 g1 1 A) := HA18.out.up hb
 have HB19 : Hid (VarB w19 g2 1 B) := HB18.out.up hb
 have HN19 : Hid (VarB w19 bN 1 N) := HN18.out.up hb
 have HX19 : Hid (VarB w19 bX 1 X) := HX18.out.up hb
 have HY19 : Hid (VarB w19 bY 1 Y) := HY18.out.up hb
 have HM19 : Hid (VarB w19 bM 1 M) := HM18.out.up hb
 have HT19 : Hid (LtC w19 tA 1 tC [0]) := HT18.out.up hb
 have HR19 : Hid (Below w.heap.size w w19) := q7 HR18.out hb
 clear HA18 HB18 HN18 HX18 HY18 HM18 HR18 HT18 j18 hb c0 c1 c2 c3
 have j19 := q4u 1 X A w19 HX19.out.mem HA19.out.mem
 rw [decide_eq_true (by have := HPX.out; simp only [hAA.out,hBB.out] at this; rw [HAL.out.1,HAL.out.2.1,HAL.out.2.2]; exact qah this)] at j19
 obtain ⟨c0,c1,c2,c3⟩ := HX19.out.box
 obtain ⟨d0,d1,d2,d3⟩ := HA19.out.box
 go_wp2_with fail
 refine j19.mono ?_
 rintro e w20 ⟨rfl,hb⟩
 have HA20 : Hid (VarB w20 g1 1 A) := HA19.out.up hb
 have HB20 : Hid (VarB w20 g2 1 B) := HB19.out.up hb
 have HN20 : Hid (VarB w20 bN 1 N) := HN19.out.up hb
 have HX20 : Hid (VarB w20 bX 1 X) := HX19.out.up hb
 have HY20 : Hid (VarB w20 bY 1 Y) := HY19.out.up hb
 have HM20 : Hid (VarB w20 bM 1 M) := HM19.out.up hb
 have HT20 : Hid (LtC w20 tA 1 tC [0]) := HT19.out.up hb
 have HR20 : Hid (Below w.heap.size w w20) := q7 HR19.out hb
 clear HA19 HB19 HN19 HX19 HY19 HM19 HR19 HT19 j19 hb c0 c1 c2 c3 d0 d1 d2 d3
 have j20 := q4u 1 Y M w20 HY20.out.mem HM20.out.mem
 rw [decide_eq_true (by have := HPY.out; have h2 := HPM.out; simp only [hAA.out,hBB.out] at this; rw [HBL.out.1,HBL.out.2.1,HBL.out.2.2,HBN.out] at h2; exact ex_or this h2)] at j20
 obtain ⟨c0,c1,c2,c3⟩ := HY20.out.box
 obtain ⟨d0,d1,d2,d3⟩ := HM20.out.box
 go_wp2_with fail
 refine j20.mono ?_
 rintro e w21 ⟨rfl,hb⟩
 have HA21 : Hid (VarB w21 g1 1 A) := HA20.out.up hb
 have HB21 : Hid (VarB w21 g2 1 B) := HB20.out.up hb
 have HN21 : Hid (VarB w21 bN 1 N) := HN20.out.up hb
 have HX21 : Hid (VarB w21 bX 1 X) := HX20.out.up hb
 have HY21 : Hid (VarB w21 bY 1 Y) := HY20.out.up hb
 have HM21 : Hid (VarB w21 bM 1 M) := HM20.out.up hb
 have HT21 : Hid (LtC w21 tA 1 tC [0]) := HT20.out.up hb
 have HR21 : Hid (Below w.heap.size w w21) := q7 HR20.out hb
 clear HA20 HB20 HN20 HX20 HY20 HM20 HR20 HT20 j20 hb c0 c1 c2 c3 d0 d1 d2 d3
 have hba := q5 w21 (.cells #[.int .u8 0] 34)
 have j21 := q6e (ts := [0]) (us := [0]) (HT21.out.up hba) (qaj w21 [0] (by decide))
 rw [decide_eq_true rfl] at j21
 simp only [List.length_cons,List.length_nil,Nat.zero_add] at j21
 have HF : Hid (∀ w',Below (w21.alloc (.cells #[.int .u8 0] 34)).heap.size (w21.alloc (.cells #[.int .u8 0] 34)) w' → Below w.heap.size w w') := fun w' h => q7 (q7 HR21.out hba) h
 clear hba HT21 HR21 HA21 HB21 HN21 HX21 HY21 HM21
 go_wp2_with fail
 refine j21.mono ?_
 rintro e w22 ⟨rfl,hb⟩
 have HF2 : Hid _ := HF.out w22 hb
 clear j21 hb HF
 go_wp2
 go_ret
 exact ⟨rfl,HF2.out⟩
end Go.Proofs.Ytcnkgokfjafgkaa
