/- Texts of the proof, put together: what it uses. -/
import Derived.Lib.QuietBelow
import Derived.BigQuiet
import Derived.Test.YtcnkgokfjafgkaaZ02
import Derived.Test.YtcnkgokfjafgkaaZ08
import Derived.Test.YtcnkgokfjafgkaaZ13
import Derived.Test.YtcnkgokfjafgkaaZ18
import Derived.Test.YtcnkgokfjafgkaaZ19
import Derived.Test.YtcnkgokfjafgkaaZ20
set_option maxRecDepth 100000
set_option maxHeartbeats 16000000
namespace Go.Proofs.Ytcnkgokfjafgkaa
open Go.RowKit Go.Maps
def SrR (p : Int) (nA : Nat) (bs : List Bool) (N : List Gd) (gs : List Int) (q : Int) (nB : Nat) (cs : List Bool) (M : List Gd) (hs : List Int) (op : Bool → Bool → Bool) (w : World) (e : Ending) (w' : World) : Prop :=
 Below w.heap.size w w' ∧ ((∃ z : Int,z ≠ 0 ∧ e = .returned (.tuple #[.slice none 0 0,.bool false,.int .i64 z]) ∧ ((z = 12 ∧ ¬ (MayG p nA N gs ∧ MayG q nB M hs)) ∨ (z = 2 ∧ p ≠ q))) ∨
  (MayG p nA N gs ∧ MayG q nB M hs ∧ p = q ∧ ∃ ts is a c,e = .returned (.tuple #[.slice a ts.length c,.bool is,.int .i64 0]) ∧ SchT p (nA * nB) (sayT p op bs N gs cs M hs) ts is ∧ w'.ownsRow w.heap.size 34 1 (.slice a ts.length c) ts.length (ltV ts)))
structure SrL (D : PD) (op : Bool → Bool → Bool) (w wr : World) (F : Nat → Prop) (j : Nat) (T : List PrP) : Prop where
 pr : PrS D wr F T
 bf : BfE D.nA D.nB D.K D.R D.R' j 0 T
 no : ∀ i,i < j → i < T.length + 1 → saysE D.bs D.bs' op (metE T i) = false
 jl : j ≤ T.length + 1
 b0 : Below w.heap.size w D.w0
theorem SrL.bel {D : PD} {op : Bool → Bool → Bool} {w wr : World} {F : Nat → Prop} {j : Nat} {T : List PrP} (h : SrL D op w wr F j T) : Below w.heap.size w wr := q7 h.b0 h.pr.bel
structure PDok (D : PD) : Prop where
 nA : 0 < D.nA
 nB : 0 < D.nB
 a2 : D.nA ≤ 256
 b2 : D.nB ≤ 256
 k2 : D.K ≤ 256
 rA : RowsP D.nA D.K D.R
 rB : RowsP D.nB D.K D.R'
theorem PDok.sq {D : PD} (h : PDok D) : D.nA * D.nB ≤ 65536 := Nat.mul_le_mul h.a2 h.b2
theorem SrL.go {D : PD} {op : Bool → Bool → Bool} {w wr : World} {F : Nat → Prop} {j : Nat} {T : List PrP} (h : SrL D op w wr F j T) (ok : PDok D) (hj : j < T.length + 1) : ∀ k,k ≤ D.K → (goE D.R D.R' T j k).length ≤ 65536 := fun k hk => by
 have := (h.bf.to ok.rA ok.rB ok.nA ok.nB ok.k2 hj k hk).few
 have := ok.sq
 omega
theorem SrL.next {D : PD} {op : Bool → Bool → Bool} {w wr w' : World} {F : Nat → Prop} {j : Nat} {T : List PrP} (h : SrL D op w wr F j T) (ok : PDok D) (hj : j < T.length + 1) (hs : saysE D.bs D.bs' op (metE T j) = false) {w1 : World} {e : Ending} (hr : RwsR D T j F w1 e w') : ∃ v F',e = .returned v ∧ SrL D op w w' F' (j + 1) (goE D.R D.R' T j D.K) := by
 obtain ⟨g,rfl,hg,_,F',hp,hf,_⟩ := hr
 have hpre := q1s D.R D.R' T j D.K
 have hl := hpre.length_le
 refine ⟨_,F',rfl,hp,h.bf.row ok.rA ok.rB ok.nA ok.nB ok.k2 hj,fun i hi hi2 => ?_,by omega,h.b0⟩
 ·by_cases e : i = j
  ·subst e; rw [qX hpre hj]; exact hs
  ·rw [qX hpre (by omega)]; exact h.no i (by omega) (by omega)
theorem SrL.up {D : PD} {op : Bool → Bool → Bool} {w wr w' : World} {F : Nat → Prop} {j : Nat} {T : List PrP} (h : SrL D op w wr F j T) (hb : Below wr.heap.size wr w') : SrL D op w w' F j T := ⟨h.pr.up hb,h.bf,h.no,h.jl,h.b0⟩
theorem q4r (p : Int) (aA : Option Addr) (nA cA : Nat) (aG : Option Addr) (nG cG : Nat) (aN : Option Addr) (nN cN : Nat) (q : Int) (bA : Option Addr) (mA dA : Nat) (bG : Option Addr) (mG dG : Nat) (bN : Option Addr) (mN dN : Nat) (bs cs : List Bool) (N : List Gd) (gs : List Int) (M : List Gd) (hs : List Int) (w : World)
  (hB : BoSl w aA nA cA bs) (hN : NdSl w aN nN cN N) (hG : ZSl w aG nG cG gs) (hok : ∀ z ∈ gs,I64 z) (kB : BoSl w bA mA dA cs) (kN : NdSl w bN mN dN M) (kG : ZSl w bG mG dG hs) (kok : ∀ z ∈ hs,I64 z) {fid : Nat} {op : Bool → Bool → Bool} (hV : VdF fid op) :
  Calls Try.prog 30 #[.agg #[.int .i64 p,.slice aA nA cA,.slice aG nG cG,.slice aN nN cN],.agg #[.int .i64 q,.slice bA mA dA,.slice bG mG dG,.slice bN mN dN],vdV fid] w (SrR p nA bs N gs q mA cs M hs op w) := by
 obtain ⟨Z,eZ⟩ : ∃ Z,Z = SrR p nA bs N gs q mA cs M hs op w := ⟨_,rfl⟩
 have HZ : Hid (∀ e w',SrR p nA bs N gs q mA cs M hs op w e w' → Z e w') := fun e w' h => by rw [eZ]; exact h
 rw [← eZ]
 clear eZ
 obtain ⟨w2,hw2⟩ : ∃ w2,w2 = (w.alloc (.cells #[.int .i64 p,.slice aA nA cA,.slice aG nG cG,.slice aN nN cN] 26 (0,0))).alloc (.cells #[.int .i64 q,.slice bA mA dA,.slice bG mG dG,.slice bN mN dN] 26 (0,0)) := ⟨_,rfl⟩
 have hb2 : Below w.heap.size w w2 := by rw [hw2]; exact q7 (q5 w _) (q5 _ _)
 have k0 : BkH w2 w.heap.size (auO (.int .i64 p) (.slice aA nA cA) (.slice aG nG cG) (.slice aN nN cN)) := by
  rw [hw2]; exact (qy w _).upB (q5 _ _)
 have k1 : BkH w2 (w.heap.size + 1) (auO (.int .i64 q) (.slice bA mA dA) (.slice bG mG dG) (.slice bN mN dN)) := by
  rw [hw2]; exact qh (by simp)
 have jc := q1P p aA nA cA aG nG cG aN nN cN q bA mA dA bG mG dG bN mN dN bs cs N gs M hs w2 (hB.up hb2) (hN.up hb2) (hG.up hb2) hok (kB.up hb2) (kN.up hb2) (kG.up hb2) kok
 have HW2 : Hid _ := hw2
 have HB2 : Hid _ := hb2
 obtain ⟨⟨s0,s1,s2,s3⟩,_⟩ := k0.cells4
 obtain ⟨⟨v0,v1,v2,v3⟩,_⟩ := k1.cells4
 clear hB hN hG hok kB kN kG kok k1 hw2 hb2 k0
 unfold vdV
 go_enter Try.func30,Try.ntmps30
 go_wp2_with (rw [← HW2.out])
 refine jc.mono ?_
 rintro e w3 ⟨hb3,⟨z,hz,rfl,hwhy⟩ | ⟨hM,kM,hpq,bs',gs',N',a1,c1,a2,c2,a3,c3,cs',hs',M',b1,d1,b2,d2,b3,d3,rfl,hMA,hO,hMB,hP⟩⟩
 ·have HE : Hid (∀ w',Below w3.heap.size w3 w' → Z (.returned (.tuple #[.slice none 0 0,.bool false,.int .i64 z])) w') := fun w' hb => HZ.out _ _ ⟨q7 (q7 HB2.out hb3) hb,.inl ⟨z,hz,rfl,hwhy⟩⟩
  have hz1 : (z != 0) = true := by simpa using hz
  clear jc s0 s1 s2 s3 v0 v1 v2 v3 hwhy HZ
  go_wp2
  go_ret3
  exact HE.out _ (q7 (q5 _ _) (q5 _ _))
 ·subst hpq
  obtain ⟨w4,hw4⟩ : ∃ w4,w4 = (w3.alloc (.cells #[.int .i64 p,.slice a1 bs'.length c1,.slice a2 bs'.length c2,.slice a3 N'.length c3] 26 (0,0))).alloc (.cells #[.int .i64 p,.slice b1 cs'.length d1,.slice b2 cs'.length d2,.slice b3 M'.length d3] 26 (0,0)) := ⟨_,rfl⟩
  have hb34 : Below w3.heap.size w3 w4 := by rw [hw4]; exact q7 (q5 w3 _) (q5 _ _)
  have kx : BkH w4 w3.heap.size (auO (.int .i64 p) (.slice a1 bs'.length c1) (.slice a2 bs'.length c2) (.slice a3 N'.length c3)) := by
   rw [hw4]; exact (qy w3 _).upB (q5 _ _)
  have ky : BkH w4 (w3.heap.size + 1) (auO (.int .i64 p) (.slice b1 cs'.length d1) (.slice b2 cs'.length d2) (.slice b3 M'.length d3)) := by
   rw [hw4]; exact qh (by simp)
  have hA := hMA.all hM
  have hBB := hMB.all kM
  have HA : Hid _ := hA
  have HBB : Hid _ := hBB
  have hO4 := hO.up hb34
  have hP4 := hP.up hb34
  have jb := q2F p a1 bs'.length c1 a2 bs'.length c2 a3 N'.length c3 b1 cs'.length d1 b2 cs'.length d2 b3 M'.length d3 bs' cs' N' gs' M' hs' w4 hA.may hO4.nd hO4.zs hO4.bo hBB.may hP4.nd hP4.zs hP4.bo
  have HFIN : Hid (∀ ts is a c w',Below w.heap.size w w' → SchA bs'.length cs'.length (2 ^ p.toNat) (rwA p N' gs') (rwA p M' hs') bs' cs' op ts is → w'.ownsRow w.heap.size 34 1 (.slice a ts.length c) ts.length (ltV ts) → Z (.returned (.tuple #[.slice a ts.length c,.bool is,.int .i64 0])) w') := fun ts is a c w' hb hS hw => HZ.out _ _ ⟨hb,.inr ⟨hM,kM,rfl,ts,is,a,c,rfl,SchT.min hA hBB hS,hw⟩⟩
  have HB4 : Hid _ := q7 (q7 HB2.out hb3) hb34
  obtain ⟨⟨xa0,xa1,xa2,xa3⟩,_⟩ := kx.cells4
  obtain ⟨⟨ya0,ya1,ya2,ya3⟩,_⟩ := ky.cells4
  have HW4 : Hid _ := hw4
  clear jc s0 s1 s2 s3 v0 v1 v2 v3 HZ hO hP hO4 hP4 hMA hMB hM kM kx ky hb3 hb34 hw4 hA hBB
  go_wp2_with (rw [← HW4.out])
  refine jb.mono ?_
  rintro e w5 ⟨hb5,D,F,rfl,hpr,hD0,hDA,hDB,hDK,hDb,hDb',hDR,hDR'⟩
  have HOK : Hid (PDok D) := ⟨by rw [hDA]; exact HA.out.may.s1,by rw [hDB]; exact HBB.out.may.s1,by rw [hDA]; exact HA.out.may.s2,by rw [hDB]; exact HBB.out.may.s2,by rw [hDK]; exact HA.out.may.k256,by rw [hDA,hDK,hDR]; exact HA.out.may.rows _,by rw [hDB,hDK,hDR']; exact HBB.out.may.rows _⟩
  have HL0 : Hid (SrL D op w w5 F 0 []) := ⟨hpr,q4L,fun i hi => by omega,by omega,by rw [hD0]; exact HB4.out⟩
  have HFN : Hid (∀ ts is a c w',Below w.heap.size w w' → SchA D.nA D.nB D.K D.R D.R' D.bs D.bs' op ts is → w'.ownsRow w.heap.size 34 1 (.slice a ts.length c) ts.length (ltV ts) → Z (.returned (.tuple #[.slice a ts.length c,.bool is,.int .i64 0])) w') := by rw [hDA,hDB,hDK,hDR,hDR',hDb,hDb']; exact HFIN.out
  clear jb HFIN hpr hD0 hDA hDB hDK hDb hDb' hDR hDR' hb5 xa0 xa1 xa2 xa3 ya0 ya1 ya2 ya3 HA HBB HB4 HW4
  have HV : Hid (VdF fid op) := hV
  clear hV
  generalize hNN : D.nA * D.nB = NN at *
  have HNN : Hid _ := hNN
  clear hNN
  go_wp2
  go_loopw [13] (fun v wr => ∃ (j : Nat) (T : List PrP) (F' : Nat → Prop),v = .int .i64 (j : Int) ∧ j ≤ NN + 1 ∧ Hid (SrL D op w wr F' j T)) (fun v _ => NN + 1 - (intOf v).toNat)
  case atStart => exact ⟨0,[],F,rfl,by omega,HL0⟩
  case round =>
   clear HL0
   obtain ⟨j,T,F1,rfl,hjN,HL⟩ := hrel
   obtain ⟨g,cap,hblk,_,_⟩ := HL.out.pr.read
   have c5 : wr.cell? ⟨D.b,5,none⟩ = some (.slice (some ⟨g,0,none⟩) (T.length + 1) cap) := q6 hblk 5
   have hfew := HL.out.bf.few
   rw [HNN.out] at hfew
   have hsq := HOK.out.sq
   rw [HNN.out] at hsq
   clear hblk
   by_cases hlt : j < T.length + 1
   ·obtain ⟨hm1,hm2⟩ := HL.out.bf.mt HOK.out.nA HOK.out.nB hlt
    have ji := q3i HL.out.pr j hlt hm1 hm2 HV.out
    have HM : Hid ((metE T j).1 < D.nA ∧ (metE T j).2 < D.nB) := ⟨hm1,hm2⟩
    clear hm1 hm2
    have HS : Hid (saysE D.bs D.bs' op (metE T j) = saysE D.bs D.bs' op (metE T j)) := rfl
    generalize hb : saysE D.bs D.bs' op (metE T j) = b at ji HS
    have HSB : Hid _ := hb
    clear hb HS
    have HLL : Hid (j < T.length + 1) := hlt
    generalize hL : T.length = L at *
    have HTL : Hid _ := hL
    clear hL
    go_wp2_with fail
    refine ji.mono ?_
    rintro e w6 ⟨rfl,hb6⟩
    have HL6 : Hid _ := HL.out.up hb6
    clear HL ji c5
    cases b with
    | true =>
     have hbk := HL6.out.bf.back
     obtain ⟨ts,hup,htl⟩ := q8F hbk j j (Nat.le_refl _) (by rw [HTL.out]; exact hlt)
     have jt := q4d HL6.out.pr j ts (by rw [HTL.out]; omega) (by rw [HTL.out]; exact hlt) hup hbk
     have HE : Hid (∀ w7 a c,Below w6.heap.size w6 w7 → w7.ownsRow w6.heap.size 34 1 (.slice a ts.reverse.length c) ts.reverse.length (ltV ts.reverse) → Z (.returned (.tuple #[.slice a ts.reverse.length c,.bool true,.int .i64 0])) w7) := fun w7 a c hb7 how => HFN.out _ _ a c w7 (q7 HL6.out.bel hb7) (HL6.out.bf.found HOK.out.rA HOK.out.rB HOK.out.nA HOK.out.nB HL6.out.no (by rw [HTL.out]; exact hlt) HSB.out hup) (qx how HL6.out.bel.size)
     clear HFN hup hbk htl HL6
     generalize ts.reverse = tr at *
     go_wp2_with fail
     refine jt.mono ?_
     rintro e w7 ⟨hb7,a,c,rfl,how⟩
     have HE2 : Hid _ := HE.out w7 a c hb7 how
     clear HE jt how hb7
     go_wp2
     go_ret3
     exact HE2.out
    | false =>
     have jr := q3l HL6.out.pr j (by rw [HTL.out]; exact hlt) HOK.out.k2 HOK.out.rA HOK.out.rB HOK.out.a2 HOK.out.b2 HM.out.1 HM.out.2 (HL6.out.go HOK.out (by rw [HTL.out]; exact hlt))
     have HN : Hid (∀ e w7,RwsR D T j F1 w6 e w7 → ∃ v F',e = .returned v ∧ SrL D op w w7 F' (j + 1) (goE D.R D.R' T j D.K)) := fun e w7 hr => HL6.out.next HOK.out (by rw [HTL.out]; exact hlt) HSB.out hr
     clear HFN HL6
     go_wp2_with fail
     refine jr.mono ?_
     intro e w7 hr
     obtain ⟨v,F9,rfl,hL9⟩ := HN.out e w7 hr
     have HL9 : Hid _ := hL9
     clear hr hL9 HN jr
     go_wp2
     go_roundw
     case rel => exact ⟨j + 1,_,F9,by go_num,by omega,HL9⟩
     case measure => simp [intOf]; omega
   ·have hj : j = T.length + 1 := by have := HL.out.jl; omega
    have HE : Hid _ := HFN.out [] false none 0 wr HL.out.bel (HL.out.bf.none HOK.out.rA HOK.out.rB HOK.out.nA HOK.out.nB HL.out.no (by omega)) ⟨rfl,.inl ⟨rfl,rfl⟩⟩
    subst hj
    clear HFN HL
    go_wp2
    go_ret3
    exact HE.out
def WyF (B0 : Nat) (w : World) (G : Nat → Prop) : Prop := ∀ k,G k → B0 ≤ k ∧ ∃ cs,w.heap[k]? = some (.cells cs 91 (0,0)) ∨ w.heap[k]? = some (.cells cs 93 (0,0))
theorem WyF.no {B0 : Nat} {w : World} {G : Nat → Prop} (h : WyF B0 w G) {k : Nat} {e : TypeId} {cs : Array Value} (hk : w.heap[k]? = some (.cells cs e (0,0))) (h1 : e ≠ 91) (h2 : e ≠ 93) : ¬ G k := fun hG => by
 obtain ⟨_,cs',h3 | h3⟩ := h k hG
 ·rw [hk] at h3; injection h3 with h3; injection h3 with _ h3 _; exact h1 h3
 ·rw [hk] at h3; injection h3 with h3; injection h3 with _ h3 _; exact h2 h3
theorem Fr.new2 {w wr w5 : World} {F F' G G' : Nat → Prop} (h : Fr w wr F F') (hf : Fr wr w5 G G') (hG : ∀ k,G k → w.heap.size ≤ k) : Fr w w5 F F' :=
 ⟨hf.os.trans h.os,hf.tape.trans h.tape,hf.output.trans h.output,Nat.le_trans h.size hf.size,fun k hk hn => (hf.keep k (Nat.lt_of_lt_of_le hk h.size) (fun e => by have := hG k e; omega)).trans (h.keep k hk hn),h.foot⟩
theorem PrS.way {D : PD} {wr w5 : World} {F G G' : Nat → Prop} {T : List PrP} (h : PrS D wr F T) (hf : Fr wr w5 G G') (hG : WyF D.w0.heap.size wr G) : PrS D w5 F T := by
 have hz : NoZ wr G := fun k hk cs => ⟨fun e => hG.no e (by decide) (by decide) hk,fun e => hG.no e (by decide) (by decide) hk⟩
 refine h.far (hf.below (fun k hk => (hG k hk).1) h.bel.size) (fun k hk => hf.keep k (h.lt k hk) ?_) (h.rA.fr hf hz) (h.rB.fr hf hz)
 obtain ⟨v,h1,h2,h3⟩ := h.ex
 rcases (h3 k).1 hk with rfl | rfl | e
 ·exact hG.no h1 (by decide) (by decide)
 ·obtain ⟨es,cl,hm⟩ := h.num.isMap
  intro hk2
  obtain ⟨_,cs',h4 | h4⟩ := hG _ hk2
  ·rw [hm] at h4; cases h4
  ·rw [hm] at h4; cases h4
 ·obtain ⟨cs,hc⟩ := qw h2 e
  exact hG.no hc (by decide) (by decide)
theorem PrS.noW {D : PD} {w : World} {F : Nat → Prop} {T : List PrP} (h : PrS D w F T) : NoW w F := by
 obtain ⟨v,h1,h2,h3⟩ := h.ex
 obtain ⟨es,cl,hm⟩ := h.num.isMap
 intro k hk cs
 rcases (h3 k).1 hk with rfl | rfl | hk
 ·rw [h1]
  exact ⟨fun e => by injection e with e; unfold prO at e; injection e with _ e _; exact absurd e (by decide),fun e => by injection e with e; unfold prO at e; injection e with _ e _; exact absurd e (by decide)⟩
 ·rw [hm]
  exact ⟨(fun e => by cases e),(fun e => by cases e)⟩
 ·obtain ⟨cs',hc⟩ := qw h2 hk
  rw [hc]
  exact ⟨fun e => by injection e with e; injection e with _ e _; exact absurd e (by decide),fun e => by injection e with e; injection e with _ e _; exact absurd e (by decide)⟩
def lenV : Value → Nat
 | .slice _ n _ => n
 | _ => 0
def GtR (D : PD) (F : Nat → Prop) (w : World) (e : Ending) (w' : World) : Prop :=
 ∃ (T : List PrP) (F' : Nat → Prop) (B : List (List (Nat × Nat))) (g c : Nat),e = .returned (.slice (some ⟨g,0,none⟩) (T.length + 1) c) ∧ PrS D w' F' T ∧ Fr w w' F F' ∧ w.heap.size ≤ g ∧ BwM w' g (T.length + 1) B ∧ BkOk (T.length + 1) D.K (rowsE D.R D.R' D.K T) B ∧ BfE D.nA D.nB D.K D.R D.R' (T.length + 1) 0 T ∧ RchE D.R D.R' D.K (T.length + 1) T
structure GtL (D : PD) (F : Nat → Prop) (w wr : World) (vb : Value) (vs : List Value) (F' : Nat → Prop) (n k : Nat) (T : List PrP) (B : List (List (Nat × Nat))) : Prop where
 pr : PrS D wr F' T
 fr : Fr w wr F F'
 gb : GbM w.heap.size wr vb vs B
 bi : BiE D.R D.R' D.K T n k B
theorem GtL.grow {D : PD} {F F' : Nat → Prop} {w wr w5 : World} {vb : Value} {vs : List Value} {n k : Nat} {T : List PrP} {B : List (List (Nat × Nat))} (h : GtL D F w wr vb vs F' n k T B) (hw : D.w0.heap.size ≤ w.heap.size) {G G' : Nat → Prop} (hf : Fr wr w5 G G') (hG : WyF w.heap.size wr G) {vb' : Value} {vs' : List Value} {k' : Nat} {B' : List (List (Nat × Nat))} (hb : GbM w.heap.size w5 vb' vs' B') (hi : BiE D.R D.R' D.K T n k' B') : GtL D F w w5 vb' vs' F' n k' T B' :=
 ⟨h.pr.way hf (fun k hk => ⟨by have := (hG k hk).1; omega,(hG k hk).2⟩),h.fr.new2 hf (fun k hk => (hG k hk).1),hb,hi⟩
theorem q5Y {wr w5 : World} {o : Obj} {v : Value} (hg : (wr.alloc o).grownBy w5 v.ownBlock) : Fr wr w5 (fun k => v.ownBlock = some k) (fun _ => False) :=
 ⟨hg.os,hg.tape,hg.output,by have := hg.size; simp at this; omega,fun k hk hn => qv hg hk hn,fun _ h => h.elim⟩
theorem q3e {D : PD} {w : World} {F : Nat → Prop} (h : PrS D w F []) (ok : PDok D) (hK0 : 0 < D.K) :
  Calls Try.prog 39 #[.pointer (some ⟨D.b,0,none⟩)] w (GtR D F w) := by
 obtain ⟨Z,eZ⟩ : ∃ Z,Z = GtR D F w := ⟨_,rfl⟩
 have HZ : Hid (∀ e w',GtR D F w e w' → Z e w') := fun e w' h => by rw [eZ]; exact h
 rw [← eZ]
 clear eZ
 have HOK : Hid _ := ok
 have hw0 := h.bel.size
 have HL0 : Hid (GtL D F w w (.slice none 0 0) [] F 0 0 [] []) := ⟨h,Fr.ofBelow (Below.refl _ _),qa8 _ _,q85 _ _ _ _⟩
 have hsq := ok.sq
 have hk256 := ok.k2
 clear h ok
 generalize hNN : D.nA * D.nB = NN at *
 have HNN : Hid _ := hNN
 clear hNN
 go_enter Try.func39,Try.ntmps39
 go_wp2
 go_loopw [3,4] (fun vb i wr => ∃ (n : Nat) (T : List PrP) (F' : Nat → Prop) (vs : List Value) (B : List (List (Nat × Nat))),i = .int .i64 (n : Int) ∧ n ≤ T.length + 1 ∧ (0 < n → B.length = T.length + 1) ∧ (n = 0 → B.length = 0) ∧ T.length ≤ NN ∧ Hid (GtL D F w wr vb vs F' n 0 T B) ∧ Hid (BfE D.nA D.nB D.K D.R D.R' n 0 T) ∧ Hid (RchE D.R D.R' D.K n T)) (fun _ i _ => NN + 1 - (intOf i).toNat)
 case atStart => exact ⟨0,[],F,[],[],rfl,by omega,fun h => by omega,fun _ => rfl,Nat.zero_le _,HL0,q4L,q7M⟩
 case round =>
  clear HL0
  obtain ⟨n,T,F1,vs,B,rfl,hn,hBl,hB0,hTN,HL,HBF,HRC⟩ := hrel
  obtain ⟨ba,bc,rfl⟩ := qe HL.out.gb.out
  obtain ⟨gm,cap,hblk,_,_⟩ := HL.out.pr.read
  have c5 : wr.cell? ⟨D.b,5,none⟩ = some (.slice (some ⟨gm,0,none⟩) (T.length + 1) cap) := q6 hblk 5
  clear hblk
  by_cases hlt : n < T.length + 1
  ·obtain ⟨hm1,hm2⟩ := HBF.out.mt HOK.out.nA HOK.out.nB hlt
   have hgo : ∀ k,k ≤ D.K → (goE D.R D.R' T n k).length ≤ NN := fun k hk => by
    have := (HBF.out.to HOK.out.rA HOK.out.rB HOK.out.nA HOK.out.nB HOK.out.k2 hlt k hk).few
    rw [HNN.out] at this; exact this
   have jr := q3l HL.out.pr n hlt HOK.out.k2 HOK.out.rA HOK.out.rB HOK.out.a2 HOK.out.b2 hm1 hm2 (fun k hk => by have := hgo k hk; omega)
   have hT2 := hgo D.K (Nat.le_refl _)
   have hpre := q1s D.R D.R' T n D.K
   have hpl := hpre.length_le
   have HBF2 : Hid _ := HBF.out.row HOK.out.rA HOK.out.rB HOK.out.nA HOK.out.nB HOK.out.k2 hlt
   have HRC2 : Hid _ := HRC.out.row hlt
   have HMM : Hid (∀ x l,gone n 0 x l → l < D.K → stp D.R D.R' (metE T x) l ∈ pqP T) := fun x l hg hl => by
    obtain ⟨Q,hQ,hm⟩ := HBF.out
    obtain ⟨y,hy,hs,_,h2⟩ := hm.code HOK.out.nB (i := x) (by unfold gone at hg; omega)
    have hyl := hQ.lt y (List.mem_of_getElem? hy)
    obtain ⟨z,hz,e,_⟩ := hQ.met x y l hy hl hg
    rw [q22 hyl hl,hs] at e
    exact (hm.codes (HOK.out.rB.lt _ l h2 hl)).1 (by rw [← e]; exact List.mem_map_of_mem hz)
   have HN : Hid (∀ e w5,RwsR D T n F1 wr e w5 → ∃ g F2,e = .returned (.slice (some ⟨g,0,none⟩) D.K D.K) ∧ IzB w5 g ((rowEb D.R D.R' D.K (goE D.R D.R' T n D.K) n).map Int.ofNat) ∧ GtL D F w w5 (.slice ba B.length bc) vs F2 n 0 (goE D.R D.R' T n D.K) B) := fun e w5 h5 => by
    obtain ⟨g,rfl,hg,hz,F2,hp2,hf2,hng⟩ := h5
    exact ⟨g,F2,rfl,hz,hp2,HL.out.fr.trans hf2,HL.out.gb.fr hf2 HL.out.pr.noW,HL.out.bi.pre hpre (.inl hlt) HMM.out⟩
   have hmt := qX hpre hlt
   have HNM : Hid (∀ l,l < D.K → (rowEb D.R D.R' D.K (goE D.R D.R' T n D.K) n).getD l 0 = nmE (goE D.R D.R' T n D.K) (stp D.R D.R' (metE (goE D.R D.R' T n D.K) n) l) ∧ nmE (goE D.R D.R' T n D.K) (stp D.R D.R' (metE (goE D.R D.R' T n D.K) n) l) < (goE D.R D.R' T n D.K).length + 1) := fun l hl => ⟨q3D hl,by rw [hmt]; exact q63 (q6V D.R D.R' T n hl)⟩
   have HRL : Hid ((rowEb D.R D.R' D.K (goE D.R D.R' T n D.K) n).length = D.K) := q1C n
   clear HL HBF HRC HMM hgo hm1 hm2 hpre hmt
   generalize goE D.R D.R' T n D.K = T2 at *
   generalize rowEb D.R D.R' D.K T2 n = row at *
   go_wp2_with fail
   refine jr.mono ?_
   intro e w5 h5
   obtain ⟨g,F2,rfl,hz5,hL5⟩ := HN.out e w5 h5
   have HZ5 : Hid (IzB w5 g (row.map Int.ofNat)) := hz5
   have HL5 : Hid _ := hL5
   clear h5 HN jr hz5 hL5 c5
   go_wp2
   go_loopw [3] (fun vb wr => ∃ (vs : List Value) (B : List (List (Nat × Nat))) (ba : Option Addr) (bc : Nat),vb = .slice ba B.length bc ∧ B.length ≤ T2.length + 1 ∧ Hid (GtL D F w wr vb vs F2 n 0 T2 B) ∧ Hid (IzB wr g (row.map Int.ofNat))) (fun vb _ => T2.length + 1 - lenV vb)
   case atStart => exact ⟨vs,B,ba,bc,rfl,by omega,HL5,HZ5⟩
   case round =>
    clear HL5 HZ5
    obtain ⟨vs,B,ba,bc,rfl,hBT,HL,HI⟩ := hrel
    obtain ⟨gm,cap,hblk,_,_⟩ := HL.out.pr.read
    have c5 : wr.cell? ⟨D.b,5,none⟩ = some (.slice (some ⟨gm,0,none⟩) (T2.length + 1) cap) := q6 hblk 5
    clear hblk
    have hws := HL.out.fr.size
    by_cases hlt2 : B.length < T2.length + 1
    ·have hO := World.ownsRow.alloc HL.out.gb.out (.cells #[.slice none 0 0] 91)
     have hcl : (wr.alloc (.cells #[.slice none 0 0] 91)).cell? ⟨wr.heap.size,0,none⟩ = some (.slice none 0 0) := q6 (MapKept.heap_alloc wr _).1 0
     have hsz : w.heap.size ≤ (wr.alloc (.cells #[.slice none 0 0] 91)).heap.size := by simp; omega
     have HNX : Hid (∀ g5 c5 w5,w5.ownsRow w.heap.size 91 1 (.slice (some ⟨g5,0,none⟩) (B.length + 1) c5) (B.length + 1) (vs ++ [.slice none 0 0]) → (wr.alloc (.cells #[.slice none 0 0] 91)).grownBy w5 (Value.slice ba B.length bc).ownBlock → GtL D F w w5 (.slice (some ⟨g5,0,none⟩) (B.length + 1) c5) (vs ++ [.slice none 0 0]) F2 n 0 T2 (B ++ [[]]) ∧ IzB w5 g (row.map Int.ofNat)) := fun g5 c5 w5 q1 q2 => by
      have hf := q5Y q2
      have hG : WyF w.heap.size wr (fun k => (Value.slice ba B.length bc).ownBlock = some k) := fun k hk => ⟨qm HL.out.gb.out k hk,by obtain ⟨cs,hc⟩ := qw HL.out.gb.out hk; exact ⟨cs,.inl hc⟩⟩
      exact ⟨HL.out.grow hw0 hf hG (HL.out.gb.nil q1 q2) HL.out.bi.nil,HI.out.fr hf (hG.no HI.out (by decide) (by decide))⟩
     have HLB : Hid ((B ++ [[]] : List (List (Nat × Nat))).length = B.length + 1) := by show _ = _; simp
     clear HL HI
     generalize hbl : B.length = bl at *
     clear hbl
     go_wp2_with (at_builtin; refine q5b rfl _ _ rfl w.heap.size _ bl vs rfl hO wr.heap.size rfl hcl (by omega) hsz ?_)
     intro g5 c5' w5 hown hgr _
     obtain ⟨h1,h2⟩ := HNX.out g5 c5' w5 hown hgr
     have HL7 : Hid (GtL D F w w5 (.slice (some ⟨g5,0,none⟩) (B ++ [[]]).length c5') (vs ++ [.slice none 0 0]) F2 n 0 T2 (B ++ [[]])) := by
      show GtL _ _ _ _ _ _ _ _ _ _ _
      rw [HLB.out]; exact h1
     have HI7 : Hid (IzB w5 g (row.map Int.ofNat)) := h2
     clear h1 h2 HNX hown hgr hO hcl hsz c5
     go_wp2
     go_roundw
     case rel => exact ⟨vs ++ [.slice none 0 0],B ++ [[]],some ⟨g5,0,none⟩,c5',by rw [HLB.out],by rw [HLB.out]; omega,by rw [HLB.out] at HL7; exact HL7,HI7⟩
     case measure => simp [lenV]; omega
    ·have hBe : B.length = T2.length + 1 := by omega
     have HBE : Hid _ := hBe
     obtain ⟨w6,hw6⟩ : ∃ w6,w6 = wr := ⟨_,rfl⟩
     subst hw6
     rw [hBe] at HL ⊢
     clear hBT hlt2
     go_wp2
     clear c5
     go_loopw [33] (fun i wr => ∃ (k : Nat) (vs : List Value) (B : List (List (Nat × Nat))),k ≤ D.K ∧ i = .int .i64 (k : Int) ∧ B.length = T2.length + 1 ∧ Hid (GtL D F w wr (.slice ba (T2.length + 1) bc) vs F2 n k T2 B) ∧ Hid (IzB wr g (row.map Int.ofNat))) (fun i _ => D.K - (intOf i).toNat)
     case atStart => exact ⟨0,vs,B,Nat.zero_le _,rfl,hBe,HL,HI⟩
     case round =>
      clear HL HI HBE hBe
      obtain ⟨k,vs,B,hk,rfl,hBe,HL,HI⟩ := hrel
      have hws := HL.out.fr.size
      by_cases hkK : k < D.K
      ·obtain ⟨hn1,hn2⟩ := HNM.out k hkK
       have cw := HI.out.cell (i := k) (by rw [List.length_map,HRL.out]; exact hkK)
       rw [qD (by rw [HRL.out]; exact hkK),hn1] at cw
       have ixw := fun w' => qg g D.K D.K k hkK w'
       have HPT : Hid _ := HL.out.bi.put hkK (by rw [hBe]; exact hn2)
       clear hn1
       generalize nmE T2 (stp D.R D.R' (metE T2 n) k) = t at *
       have htB : t < B.length := by omega
       obtain ⟨gb,cb,a,c,e1,hgb,cc,hvt,hot⟩ := HL.out.gb.at htB
       have e1' := e1
       rw [hBe] at e1
       injection e1 with e11 _ e13
       subst e11 e13
       have ixb := fun w' => q4F gb (T2.length + 1) bc t hn2 w'
       have hfew : (B.getD t []).length ≤ 20000000 := by
        have h1 : ((B.getD t []).map fun x => x.1 * 256 + x.2).Nodup := by
         rw [List.Nodup,List.pairwise_map]
         refine (List.Pairwise.and_mem.1 (HL.out.bi.nd t)).imp fun {a b} hab e => ?_
         obtain ⟨ha,hb,hne⟩ := hab
         have h2 := ((HL.out.bi.mem t a.1 a.2).1 ha).2.1
         have h3 := ((HL.out.bi.mem t b.1 b.2).1 hb).2.1
         exact hne (Prod.ext (by omega) (by omega))
        have := qr (n := 20000000) h1 (fun z hz => by
         obtain ⟨x,hx,rfl⟩ := List.mem_map.1 hz
         obtain ⟨h2,h3,_⟩ := (HL.out.bi.mem t x.1 x.2).1 hx
         unfold gone at h2
         omega)
        rw [List.length_map] at this
        omega
       have hw32 : IntKind.i32.wrap (n : Int) = (n : Int) := by rw [IntKind.wrap_i32]; omega
       have hw8 : IntKind.u8.wrap (k : Int) = (k : Int) := by rw [IntKind.wrap_u8]; omega
       have hO := World.ownsRow.alloc hot (.cells #[.int .i32 (n : Int),.int .u8 (k : Int)] 93)
       have hcl : (wr.alloc (.cells #[.int .i32 (n : Int),.int .u8 (k : Int)] 93)).heap[wr.heap.size]? = some (.cells #[.int .i32 (n : Int),.int .u8 (k : Int)] 93 (0,0)) := (MapKept.heap_alloc wr _).1
       have hsz : w.heap.size ≤ (wr.alloc (.cells #[.int .i32 (n : Int),.int .u8 (k : Int)] 93)).heap.size := by simp; omega
       have HNX : Hid (∀ g5 c5 w5,w5.ownsRow w.heap.size 93 2 (.slice (some ⟨g5,0,none⟩) ((B.getD t []).length + 1) c5) ((B.getD t []).length + 1) (encW (B.getD t [] ++ [(n,k)])) → (wr.alloc (.cells #[.int .i32 (n : Int),.int .u8 (k : Int)] 93)).grownBy w5 (Value.slice a (B.getD t []).length c).ownBlock → ((Value.slice a (B.getD t []).length c).ownBlock = some g5 ∨ g5 = (wr.alloc (.cells #[.int .i32 (n : Int),.int .u8 (k : Int)] 93)).heap.size) → (∃ u,w5.cell? ⟨gb,t,none⟩ = some u) ∧ w5.frozen? ⟨gb,t,none⟩ = false ∧ GtL D F w (w5.setCell ⟨gb,t,none⟩ (.slice (some ⟨g5,0,none⟩) ((B.getD t []).length + 1) c5)) (.slice (some ⟨gb,0,none⟩) (T2.length + 1) bc) (vs.set t (.slice (some ⟨g5,0,none⟩) ((B.getD t []).length + 1) c5)) F2 n (k + 1) T2 (B.set t (B.getD t [] ++ [(n,k)])) ∧ IzB (w5.setCell ⟨gb,t,none⟩ (.slice (some ⟨g5,0,none⟩) ((B.getD t []).length + 1) c5)) g (row.map Int.ofNat)) := fun g5 c5 w5 q1 q2 q3 => by
        obtain ⟨p1,p2,p3,p4⟩ := HL.out.gb.put e1' htB hvt q1 q2 q3
        have hob : (Value.slice (some ⟨gb,0,none⟩) (T2.length + 1) bc).ownBlock = some gb := rfl
        have hf : Fr wr (w5.setCell ⟨gb,t,none⟩ (.slice (some ⟨g5,0,none⟩) ((B.getD t []).length + 1) c5)) (fun j => (Value.slice a (B.getD t []).length c).ownBlock = some j ∨ j = gb) (fun _ => False) := by
         have hf1 := q5Y q2
         exact ⟨hf1.os,hf1.tape,hf1.output,by have := hf1.size; simp; omega,fun j hj hn => (Below.heap_setCell _ _ _ _ (by dsimp only; exact fun e => hn (.inr e))).trans (hf1.keep j hj (fun e => hn (.inl e))),fun _ h => h.elim⟩
        have hG : WyF w.heap.size wr (fun j => (Value.slice a (B.getD t []).length c).ownBlock = some j ∨ j = gb) := fun j hj => by
         rcases hj with hj | rfl
         ·obtain ⟨cs,hc⟩ := qw hot hj
          exact ⟨qm hot j hj,cs,.inr hc⟩
         ·obtain ⟨cs,hc⟩ := qw HL.out.gb.out hob
          exact ⟨hgb,cs,.inl hc⟩
        exact ⟨p1,p2,HL.out.grow hw0 hf hG p3 HPT.out,HI.out.fr hf (hG.no HI.out (by decide) (by decide))⟩
       have HBS : Hid ((B.set t (B.getD t [] ++ [(n,k)])).length = T2.length + 1) := by show _ = _; rw [List.length_set]; exact hBe
       clear HL HI HPT hot hvt e1'
       generalize B.getD t [] = Y at *
       generalize hfl : Y.length = fl at *
       clear hfl
       go_wp2_with (at_builtin; refine q5c rfl _ _ rfl w.heap.size _ fl Y (n,k) rfl hO wr.heap.size rfl hcl (by omega) hsz ?_)
       intro g5 c5' w5 hown hgr hloc
       obtain ⟨⟨u,cu⟩,fu,h1,h2⟩ := HNX.out g5 c5' w5 hown hgr (hloc.imp id (fun e => by simpa using e))
       have HL7 : Hid _ := h1
       have HI7 : Hid (IzB (w5.setCell ⟨gb,t,none⟩ (.slice (some ⟨g5,0,none⟩) (fl + 1) c5')) g (row.map Int.ofNat)) := h2
       clear h1 h2 HNX hown hgr hloc hO hcl hsz cc cw
       go_wp2
       go_roundw
       case rel => exact ⟨k + 1,_,_,by omega,by go_num,HBS.out,HL7,HI7⟩
       case measure => simp [intOf]; omega
      ·obtain rfl : k = D.K := by omega
       have HL8 : Hid (GtL D F w wr (.slice ba (T2.length + 1) bc) vs F2 (n + 1) 0 T2 B) := ⟨HL.out.pr,HL.out.fr,HL.out.gb,HL.out.bi.next⟩
       clear HL HI
       go_wp2
       go_roundw
       case rel => exact ⟨n + 1,T2,F2,vs,B,by go_num,by omega,fun _ => hBe,fun h => by omega,hT2,HL8,HBF2,HRC2⟩
       case measure => simp [intOf]; omega
  ·have hne : n = T.length + 1 := by omega
   have hBe := hBl (by omega)
   subst hne
   obtain ⟨g,c,e,hg,hbw⟩ := HL.out.gb.bw (by omega)
   rw [hBe] at hbw e
   injection e with e1 _ e3
   subst e1 e3
   have HE : Hid _ := HZ.out _ wr ⟨T,F1,B,g,bc,rfl,HL.out.pr,HL.out.fr,hg,hbw,HL.out.bi.ok,HBF.out,HRC.out⟩
   clear HZ HL HBF HRC hbw
   rw [hBe]
   go_wp2
   exact HE.out
theorem q4p {D : PD} {w : World} {F : Nat → Prop} {T : List PrP} (h : PrS D w F T) (x : Nat × Nat) (n l : Nat) (hx : x.1 ≤ 1000 ∧ x.2 ≤ 1000) (hm : x ∈ pqP T) :
  Calls Try.prog 63 #[.pointer (some ⟨D.b,0,none⟩),.agg #[.int .i64 (x.1 : Int),.int .i64 (x.2 : Int),.int .i64 (n : Int),.int .u8 (l : Int)]] w fun e w' => e = .returned (.int .i64 (nmE T x : Int)) ∧ Below w.heap.size w w' := by
 have hb1 := q5 w (mtO (x.1,x.2,n,l))
 have h1 := h.up hb1
 obtain ⟨g,cap,hblk,hrow,hF⟩ := h1.read
 have c4 : (w.alloc (mtO (x.1,x.2,n,l))).cell? ⟨D.b,4,none⟩ = some (.map (some D.m)) := q6 hblk 4
 have hlk := fun k => (show NumB ((w.alloc (mtO (x.1,x.2,n,l))).drewN k) D.m T.length (posE T) from h1.num).look hx
 have HE : Hid (∀ nq,Below w.heap.size w ((w.alloc (mtO (x.1,x.2,n,l))).drewN nq)) := fun nq => below_drewN hb1 nq
 rw [show posE T x = some (nmE T x) from if_pos hm] at hlk
 generalize nmE T x = j at *
 clear h h1 hblk hrow hF hx hb1 hm
 generalize D.b = b at *
 generalize D.m = m at *
 unfold b2V at hlk
 unfold mtO at c4 HE hlk
 dsimp only [Option.getD,Option.isSome] at c4 HE hlk
 go_enter Try.func63,Try.ntmps63
 go_upto_region 15 with fail
 go_quiet (fail)
 go_wp2
 go_ret
 exact ⟨rfl,HE.out _⟩
def rwA2 (R R' : List (List Nat)) (K : Nat) (T : List PrP) (i k : Nat) : List Int := (List.range K).map fun l => if l < k then (nmE T (stp R R' (metE T i) l) : Int) else 0
theorem q9B (R R' : List (List Nat)) (K : Nat) (T : List PrP) (i k : Nat) : (rwA2 R R' K T i k).length = K := by simp [rwA2]
theorem q8r (R R' : List (List Nat)) (K : Nat) (T : List PrP) (i : Nat) : rwA2 R R' K T i 0 = List.replicate K 0 := by
 apply List.ext_getElem (by simp [rwA2])
 intro j h1 h2
 simp [rwA2]
theorem q9A (R R' : List (List Nat)) (K : Nat) (T : List PrP) (i : Nat) : rwA2 R R' K T i K = (rowEb R R' K T i).map Int.ofNat := by
 unfold rwA2 rowEb
 rw [List.map_map]
 refine List.map_congr_left fun l hl => ?_
 rw [if_pos (List.mem_range.1 hl)]; rfl
theorem q8q (R R' : List (List Nat)) {K : Nat} (T : List PrP) (i k : Nat) : (rwA2 R R' K T i k).set k (nmE T (stp R R' (metE T i) k) : Int) = rwA2 R R' K T i (k + 1) := by
 apply List.ext_getElem (by simp [rwA2])
 intro j h1 h2
 rw [List.getElem_set]
 simp only [rwA2,List.getElem_map,List.getElem_range]
 by_cases e : k = j
 ·subst e; rw [if_pos rfl,if_pos (by omega)]
 ·rw [if_neg e]
  by_cases e2 : j < k
  ·rw [if_pos e2,if_pos (by omega)]
  ·rw [if_neg e2,if_neg (by omega)]
theorem q6v {D : PD} {w : World} {F : Nat → Prop} {T : List PrP} (h : PrS D w F T) (i : Nat) (hi : i < T.length + 1) (hK : D.K ≤ 256) (hR : RowsP D.nA D.K D.R) (hR' : RowsP D.nB D.K D.R') (hA : D.nA ≤ 256) (hB : D.nB ≤ 256) (hm1 : (metE T i).1 < D.nA) (hm2 : (metE T i).2 < D.nB) (hal : ∀ l,l < D.K → stp D.R D.R' (metE T i) l ∈ pqP T) :
  Calls Try.prog 46 #[.pointer (some ⟨D.b,0,none⟩),.int .i64 (i : Int)] w fun e w' => Below w.heap.size w w' ∧ ∃ g,e = .returned (.slice (some ⟨g,0,none⟩) D.K D.K) ∧ w.heap.size ≤ g ∧ IzB w' g ((rowEb D.R D.R' D.K T i).map Int.ofNat) := by
 obtain ⟨Q,hQ⟩ : ∃ Q : Ending → World → Prop,Q = fun e w' => Below w.heap.size w w' ∧ ∃ g,e = .returned (.slice (some ⟨g,0,none⟩) D.K D.K) ∧ w.heap.size ≤ g ∧ IzB w' g ((rowEb D.R D.R' D.K T i).map Int.ofNat) := ⟨_,rfl⟩
 rw [← hQ]
 have HQ : Hid (∀ g wr,Below w.heap.size w wr → w.heap.size ≤ g → IzB wr g (rwA2 D.R D.R' D.K T i D.K) → Q (.returned (.slice (some ⟨g,0,none⟩) D.K D.K)) wr) := fun g wr hb hg hz => by rw [hQ]; exact ⟨hb,g,rfl,hg,by rw [← q9A]; exact hz⟩
 have HAL : Hid _ := hal
 clear hal
 clear hQ
 obtain ⟨g,cap,hblk,hrow,hF⟩ := h.read
 obtain ⟨x,hx,hme⟩ := q61 hi
 obtain ⟨hgl,hix,e0,e1,_,_⟩ := q25 hrow hx
 have c5 : w.cell? ⟨D.b,5,none⟩ = some (.slice (some ⟨g,0,none⟩) (T.length + 1) cap) := q6 hblk 5
 have c2 : w.cell? ⟨D.b,2,none⟩ = some (.slice (some ⟨D.gA,0,none⟩) D.nA D.tA) := q6 hblk 2
 have c3 : w.cell? ⟨D.b,3,none⟩ = some (.slice (some ⟨D.gB,0,none⟩) D.nB D.tB) := q6 hblk 3
 have hx1 : x.1 < D.nA := by rw [hme] at hm1; exact hm1
 have hx2 : x.2.1 < D.nB := by rw [hme] at hm2; exact hm2
 obtain ⟨gi,ci,r1,hgi,s1,cu1,hcu1⟩ := h.rA.at hx1
 obtain ⟨gj,cj,r2,hgj,s2,cu2,hcu2⟩ := h.rB.at hx2
 have ixA := fun w' => qI D.gA D.nA D.tA x.1 hx1 w'
 have ixB := fun w' => qI D.gB D.nB D.tB x.2.1 hx2 w'
 have HI : Hid _ := h
 have HX : Hid (metE T i = (x.1,x.2.1)) := hme
 clear hblk hrow hF hx hm1 hm2 h
 generalize x.1 = p at *
 generalize x.2.1 = q at *
 have hbh := q5 w (.cells #[.int .i64 (p : Int),.int .i64 (q : Int)] 88 (0,0))
 have d2 := q8 c2 hbh
 have d3 := q8 c3 hbh
 have t1 := q8 r1 hbh
 have t2 := q8 r2 hbh
 have hn := (MapKept.heap_alloc w (.cells #[.int .i64 (p : Int),.int .i64 (q : Int)] 88 (0,0))).1
 have h0 : (w.alloc (.cells #[.int .i64 (p : Int),.int .i64 (q : Int)] 88 (0,0))).cell? ⟨w.heap.size,0,none⟩ = some (.int .i64 (p : Int)) := q6 hn 0
 have h1 : (w.alloc (.cells #[.int .i64 (p : Int),.int .i64 (q : Int)] 88 (0,0))).cell? ⟨w.heap.size,1,none⟩ = some (.int .i64 (q : Int)) := q6 hn 1
 have hmk := fun w => qT D.K (D.K : Int) rfl (by omega) w
 have HBH : Hid _ := hbh
 have HS1 : Hid (∀ wr,Below w.heap.size w wr → ∀ k,k < D.K → wr.cell? ⟨gi,k,none⟩ = some (.int .i64 ((trP D.R p k : Nat) : Int))) := fun wr hf k hk => q8 (s1 k hk) hf
 have HS2 : Hid (∀ wr,Below w.heap.size w wr → ∀ k,k < D.K → wr.cell? ⟨gj,k,none⟩ = some (.int .i64 ((trP D.R' q k : Nat) : Int))) := fun wr hf k hk => q8 (s2 k hk) hf
 clear hbh hn s1 s2 hcu1 hcu2
 go_enter Try.func46,Try.ntmps46
 go_upto_region 15 with fail
 go_quiet (fail)
 have HB2 : Hid (Below w.heap.size w (((w.alloc (.cells #[.int .i64 (p : Int),.int .i64 (q : Int)] 88 (0,0))).drewN nq).alloc (.cells ((List.replicate D.K (0 : Int)).map (Value.int .i64)).toArray 3))) := q7 (below_drewN HBH.out nq) (q5 _ _)
 have HZ2 : Hid (IzB (((w.alloc (.cells #[.int .i64 (p : Int),.int .i64 (q : Int)] 88 (0,0))).drewN nq).alloc (.cells ((List.replicate D.K (0 : Int)).map (Value.int .i64)).toArray 3)) (w.heap.size + 1) (List.replicate D.K 0)) := by
  have := (MapKept.heap_alloc ((w.alloc (.cells #[.int .i64 (p : Int),.int .i64 (q : Int)] 88 (0,0))).drewN nq) (.cells ((List.replicate D.K (0 : Int)).map (Value.int .i64)).toArray 3)).1
  have e : ((w.alloc (.cells #[.int .i64 (p : Int),.int .i64 (q : Int)] 88 (0,0))).drewN nq).heap.size = w.heap.size + 1 := by simp
  rw [e] at this
  exact this
 clear c2 c3 r1 r2 d2 d3 t1 t2 h0 h1 hix ixA ixB e0 e1 c5
 go_wp2
 clear hmk
 rw [show ((List.replicate D.K (0 : Int)).map (Value.int .i64)).toArray = Array.replicate D.K (.int .i64 0) by simp] at HB2 HZ2
 generalize ((w.alloc (.cells #[.int .i64 (p : Int),.int .i64 (q : Int)] 88 (0,0))).drewN nq).alloc (.cells (Array.replicate D.K (.int .i64 0)) 3) = w2 at *
 rw [← q8r D.R D.R' D.K T i] at HZ2
 go_loopw [41] (fun v wr => ∃ (k : Nat),k ≤ D.K ∧ v = .int .i64 (k : Int) ∧ Hid (IzB wr (w.heap.size + 1) (rwA2 D.R D.R' D.K T i k)) ∧ Hid (Below w.heap.size w wr)) (fun v _ => D.K - (intOf v).toNat)
 case atStart => exact ⟨0,Nat.zero_le _,rfl,HZ2,HB2⟩
 case round =>
  clear HZ2 HB2
  obtain ⟨k,hk,rfl,HI2,HB⟩ := hrel
  by_cases hlt : k < D.K
  ·have hs1 := HS1.out wr HB.out k hlt
   have hs2 := HS2.out wr HB.out k hlt
   have ix1 := fun w' => qg gi D.K ci k hlt w'
   have ix2 := fun w' => qg gj D.K cj k hlt w'
   have ix3 := fun w' => qg (w.heap.size + 1) D.K D.K k hlt w'
   have jl0 := q4p (HI.out.up (w' := wr.drew) (HB.out.drew)) (stp D.R D.R' (metE T i) k) i k (by
    rw [HX.out]
    have a := hR.lt p k hx1 hlt
    have b := hR'.lt q k hx2 hlt
    dsimp only [stp]
    omega) (HAL.out k hlt)
   rw [HX.out] at jl0
   dsimp only [stp] at jl0
   obtain ⟨z,hz⟩ : ∃ z : Int,z = ((nmE T (trP D.R p k,trP D.R' q k) : Nat) : Int) := ⟨_,rfl⟩
   rw [← hz] at jl0
   have HNX : Hid _ := q8q D.R D.R' (K := D.K) T i k
   rw [HX.out] at HNX
   dsimp only [stp] at HNX
   rw [← hz] at HNX
   have jl : Calls Try.prog 63 #[.pointer (some ⟨D.b,0,none⟩),.agg #[.int .i64 ((trP D.R p k : Nat) : Int),.int .i64 ((trP D.R' q k : Nat) : Int),.int .i64 (i : Int),.int .u8 (k : Int)]] wr.drew fun e w9 => e = .returned (.int .i64 z) ∧ w9.cell? ⟨w.heap.size + 1,k,none⟩ = some (.int .i64 ((rwA2 D.R D.R' D.K T i k).getD k 0)) ∧ w9.frozen? ⟨w.heap.size + 1,k,none⟩ = false ∧ Hid (IzB (w9.setCell ⟨w.heap.size + 1,k,none⟩ (.int .i64 z)) (w.heap.size + 1) (rwA2 D.R D.R' D.K T i (k + 1))) ∧ Hid (Below w.heap.size w (w9.setCell ⟨w.heap.size + 1,k,none⟩ (.int .i64 z))) := by
    refine jl0.mono ?_
    rintro e w9 ⟨a1,a2⟩
    have hz9 := HI2.out.up (q7 ((Below.refl _ _).drew) a2)
    refine ⟨a1,hz9.cell (by rw [q9B]; exact hlt),hz9.fz _,?_,?_⟩
    ·show IzB _ _ _
     rw [← HNX.out]; exact hz9.set _ _
    ·exact (q7 HB.out.drew a2).setCell (by dsimp only; omega) _
   have hw8 : IntKind.u8.wrap (k : Int) = (k : Int) := by rw [IntKind.wrap_u8]; omega
   clear jl0 hz HI2 HB HNX
   generalize (rwA2 D.R D.R' D.K T i k).getD k 0 = z0 at *
   generalize trP D.R p k = sp at *
   generalize trP D.R' q k = sq at *
   go_wp2
   go_region_law (first
    | (revert jl; intro jl; go_simp; (with_reducible refine jl.mono ?_); rintro e w9 ⟨rfl,k9,z9,HI9,HB9⟩; dsimp only)
    | fail)
   all_goals
    clear jl k9 z9
    go_wp2
    go_roundw
    case rel => exact ⟨k + 1,by omega,by go_num,HI9,HB9⟩
    case measure => simp [intOf]; omega
  ·obtain rfl : k = D.K := by omega
   have HE : Hid _ := HQ.out _ wr HB.out (by omega) HI2.out
   clear HQ HI2 HB
   go_wp2
   exact HE.out
theorem q7W : VdF 22 (fun x _ => !x) := ⟨fun _ _ => rfl,fun x y w => by
 go_enter Try.func22,Try.ntmps22
 go_wp2
 go_ret
 exact ⟨rfl,rfl⟩⟩
theorem q7V : VdF 23 (fun x y => x && y) := ⟨fun _ _ => rfl,fun x y w => by
 cases x <;>
 ·go_enter Try.func23,Try.ntmps23
  go_wp2
  go_ret
  exact ⟨rfl,rfl⟩⟩
theorem q8K : VdF 24 (fun x y => x || y) := ⟨fun _ _ => rfl,fun x y w => by
 cases x <;>
 ·go_enter Try.func24,Try.ntmps24
  go_wp2
  go_ret
  exact ⟨rfl,rfl⟩⟩
theorem q4I : VdF 25 (fun x y => x != y) := ⟨fun _ _ => rfl,fun x y w => by
 go_enter Try.func25,Try.ntmps25
 go_wp2
 go_ret
 exact ⟨by cases x <;> cases y <;> rfl,rfl⟩⟩
theorem q5d (p : Int) (aA : Option Addr) (nA cA : Nat) (aG : Option Addr) (nG cG : Nat) (aN : Option Addr) (nN cN : Nat) (q : Int) (bA : Option Addr) (mA dA : Nat) (bG : Option Addr) (mG dG : Nat) (bN : Option Addr) (mN dN : Nat) (bs cs : List Bool) (N : List Gd) (gs : List Int) (M : List Gd) (hs : List Int) (w : World)
  (hB : BoSl w aA nA cA bs) (hN : NdSl w aN nN cN N) (hG : ZSl w aG nG cG gs) (hok : ∀ z ∈ gs,I64 z) (kB : BoSl w bA mA dA cs) (kN : NdSl w bN mN dN M) (kG : ZSl w bG mG dG hs) (kok : ∀ z ∈ hs,I64 z) :
  Calls Try.prog 15 #[.agg #[.int .i64 p,.slice aA nA cA,.slice aG nG cG,.slice aN nN cN],.agg #[.int .i64 q,.slice bA mA dA,.slice bG mG dG,.slice bN mN dN]] w (SrR p nA bs N gs q mA cs M hs (fun x y => x != y) w) := by
 obtain ⟨Z,eZ⟩ : ∃ Z,Z = SrR p nA bs N gs q mA cs M hs (fun x y => x != y) w := ⟨_,rfl⟩
 obtain ⟨w2,hw2⟩ : ∃ w2,w2 = (w.alloc (.cells #[.int .i64 p,.slice aA nA cA,.slice aG nG cG,.slice aN nN cN] 26 (0,0))).alloc (.cells #[.int .i64 q,.slice bA mA dA,.slice bG mG dG,.slice bN mN dN] 26 (0,0)) := ⟨_,rfl⟩
 have hb2 : Below w.heap.size w w2 := by rw [hw2]; exact q7 (q5 w _) (q5 _ _)
 have HZ : Hid (∀ e w',SrR p nA bs N gs q mA cs M hs (fun x y => x != y) w2 e w' → (∃ a n c b z,e = .returned (.tuple #[.slice a n c,.bool b,.int .i64 z])) ∧ Z e w') := fun e w' h => by
  rw [eZ]
  obtain ⟨h1,⟨z,hz,rfl,h2⟩ | ⟨h2,h3,h4,ts,is,a,c,rfl,h5,h6⟩⟩ := h
  ·exact ⟨⟨_,_,_,_,_,rfl⟩,q7 hb2 h1,.inl ⟨z,hz,rfl,h2⟩⟩
  ·exact ⟨⟨_,_,_,_,_,rfl⟩,q7 hb2 h1,.inr ⟨h2,h3,h4,ts,is,a,c,rfl,h5,qx h6 hb2.size⟩⟩
 rw [← eZ]
 clear eZ
 have k0 : BkH w2 w.heap.size (auO (.int .i64 p) (.slice aA nA cA) (.slice aG nG cG) (.slice aN nN cN)) := by
  rw [hw2]; exact (qy w _).upB (q5 _ _)
 have k1 : BkH w2 (w.heap.size + 1) (auO (.int .i64 q) (.slice bA mA dA) (.slice bG mG dG) (.slice bN mN dN)) := by
  rw [hw2]; exact qh (by simp)
 have jc := q4r p aA nA cA aG nG cG aN nN cN q bA mA dA bG mG dG bN mN dN bs cs N gs M hs w2 (hB.up hb2) (hN.up hb2) (hG.up hb2) hok (kB.up hb2) (kN.up hb2) (kG.up hb2) kok q4I
 have HW2 : Hid _ := hw2
 obtain ⟨⟨s0,s1,s2,s3⟩,_⟩ := k0.cells4
 obtain ⟨⟨v0,v1,v2,v3⟩,_⟩ := k1.cells4
 unfold vdV at jc
 clear hB hN hG hok kB kN kG kok k1 hw2 hb2 k0
 go_enter Try.func15,Try.ntmps15
 go_wp2_with (rw [← HW2.out])
 refine jc.mono ?_
 intro e w3 h3
 obtain ⟨⟨a,n,c,b,z,rfl⟩,h4⟩ := HZ.out e w3 h3
 have HE : Hid _ := h4
 clear h3 h4 jc HZ s0 s1 s2 s3 v0 v1 v2 v3
 go_wp2
 go_ret3
 exact HE.out
end Go.Proofs.Ytcnkgokfjafgkaa
namespace Go.Proofs.Ytcnkgokfjafgkaa
open Go.RowKit Go.Maps Go.Sort
theorem zlitP (w : World) (zs : List Int) (hl : zs.length ≤ 1000) : ZSl (w.alloc (.cells (zs.map (Value.int .i64)).toArray 3)) (some ⟨w.heap.size,0,none⟩) zs.length zs.length zs := by
 have h : RowI (w.alloc (.cells (zs.map (Value.int .i64)).toArray 3)) 3 w.heap.size zs := (MapKept.heap_alloc w _).1
 have := RowI.zsl (n := zs.length) h Try.underlying23 qf (Nat.le_refl _) (by unfold maxLen; omega)
 rwa [List.take_of_length_le (Nat.le_refl _)] at this
theorem blitP (w : World) (bs : List Bool) (hl : bs.length ≤ 1000) : BoSl (w.alloc (.cells (bs.map Value.bool).toArray 4)) (some ⟨w.heap.size,0,none⟩) bs.length bs.length bs := by
 have hc := (MapKept.heap_alloc w (.cells (bs.map Value.bool).toArray 4)).1
 refine ⟨rfl,Nat.le_refl _,by unfold maxLen; omega,fun e => (by cases e),fun x hx k hk => ?_⟩
 injection hx with hx; subst hx
 rw [q9,Nat.zero_add,q6 hc]
 simp [List.getElem?_eq_getElem hk]
theorem qaR (w : World) (N : List Gd) (hl : N.length ≤ 1000) (hok : ∀ t ∈ N,GdOk t) : NdSl (w.alloc (.cells (encGd N).toArray 45)) (some ⟨w.heap.size,0,none⟩) N.length N.length N := by
 have hc := (MapKept.heap_alloc w (.cells (encGd N).toArray 45)).1
 have hcell : ∀ j u,(encGd N)[j]? = some u → (w.alloc (.cells (encGd N).toArray 45)).cell? ((⟨w.heap.size,0,none⟩ : Addr).add j) = some u := fun j u hj => by
  rw [q9,Nat.zero_add,q6 hc]; simpa using hj
 refine ⟨rfl,Nat.le_refl _,by unfold maxLen; omega,fun e => (by cases e),fun x hx k hk => ?_,fun x hx k hk => ?_,fun x hx k hk => ?_,hok⟩
 ·injection hx with hx; subst hx; exact hcell _ _ (qA N k hk).1
 ·injection hx with hx; subst hx; exact hcell _ _ (qA N k hk).2.1
 ·injection hx with hx; subst hx; exact hcell _ _ (qA N k hk).2.2
abbrev LtN (w : World) (a : Option Addr) (len cap : Nat) (ts : List Nat) : Prop := IntSl Try.prog 27 .u8 w a len cap (ts.map Int.ofNat)
def cutN (K : Nat) (zs : List Int) : List Nat := zs.map fun z => z.toNat % K
theorem q7D {K : Nat} (hK : 0 < K) (zs : List Int) : ∀ x ∈ cutN K zs,x < K := fun x hx => by
 obtain ⟨z,_,rfl⟩ := List.mem_map.1 hx
 exact Nat.mod_lt _ hK
theorem q86 {K : Nat} {zs : List Int} {i : Nat} (h : i < zs.length) : (cutN K zs).take (i + 1) = (cutN K zs).take i ++ [(zs.getD i 0).toNat % K] := by
 have hl : i < (cutN K zs).length := by rw [cutN,List.length_map]; exact h
 rw [List.take_add_one,List.getElem?_eq_getElem hl]
 simp [cutN,List.getD_eq_getElem?_getD,List.getElem?_eq_getElem h]
theorem maskP {z k : Nat} (hz : z < 256) (hk : k ≤ 4) : bits BinOp.and IntKind.u8 (z : Int) (IntKind.u8.wrap (IntKind.u8.wrap (2 ^ k) - 1)) = ((z % 2 ^ k : Nat) : Int) := by
 have hkk : k = 0 ∨ k = 1 ∨ k = 2 ∨ k = 3 ∨ k = 4 := by omega
 have key : ∀ j,j ≤ 4 → IntKind.u8.wrap (IntKind.u8.wrap (2 ^ j) - 1) = ((2 ^ j - 1 : Nat) : Int) := by decide
 rw [key k hk]
 have h2 : 2 ^ k - 1 < 256 := by rcases hkk with rfl | rfl | rfl | rfl | rfl <;> decide
 rw [u8_and_nat z (2 ^ k - 1) hz h2,Nat.and_two_pow_sub_one_eq_mod]
theorem q5t {w : World} {ops : Array Oper} {o : Oper} {a : Act} {K : Act → World → Prop} {Q : Exit → Act → World → Prop} {E : Prop} (hw : Region.wanted o (yielded ops a.tmps) = true) (s x : Operand)
  (ho : o.op = .call { callee := .builtin .append,args := #[s,x],argTypes := #[27,27] }) (base : Nat)
  (v : Value) (n : Nat) (xs : List Value) (y : Int) (g : Nat) (hs : a.eval s = v) (hx : a.eval x = .slice (some ⟨g,0,none⟩) 1 1) (hown : w.ownsRow base 34 1 v n xs)
  (hB : w.cell? ⟨g,0,none⟩ = some (.int .u8 y)) (hn : n + 1 ≤ 140737488355328) (hbase : base ≤ w.heap.size)
  (h : ∀ v' w',w'.ownsRow base 34 1 v' (n + 1) (xs ++ [.int .u8 y]) → w.grownBy w' v.ownBlock → K (a.put o.dst v') w') :
  if Region.wanted o (yielded ops a.tmps) = true then Oper.wp Try.prog o a w K Q else E := by
 rw [if_pos hw]
 obtain ⟨i,hi,hz0,hz1,hz2⟩ := info_parts q2R
 obtain ⟨v',w',hr,h2,h3,_,_⟩ := run_append_own_at (P := Try.prog) w base 27 o.type 34 i _ 1 1 Try.underlying27 hi hz0 hz1 hz2 rfl (by decide) v n _ hown ⟨g,0,none⟩ 1 1 [.int .u8 y] rfl (fun j u hj => by
  match j with
  | 0 => simp at hj; rw [← hj,q9]; exact hB
  | j + 1 => simp at hj) (fun u hu => by simp at hu; subst hu; rfl) (by unfold maxLen; omega) (by omega) hbase
 unfold Oper.wp execOp
 simp only [ho,resolve,invoke,builtin,Sem.run_bind,Sem.run_pure,Result.andThen_ok,List.map_toArray,List.map_cons,List.map_nil,hs,hx,hr]
 exact h v' w' h2 h3
theorem q70 {w : World} {base n : Nat} {a : Option Addr} {c : Nat} {ts : List Nat} (h : w.ownsRow base 34 1 (.slice a n c) n (ltV ts)) : LtN w a n c ts := by
 have h1 : w.ownsRow base 34 1 (.slice a n c) n ((ts.map Int.ofNat).map (Value.int .u8)) := by rw [List.map_map]; exact h
 obtain ⟨a',c',e,hS,_⟩ := q5u h1 Try.underlying27 q1o
 injection e with e1 _ e3
 subst e1; subst e3
 exact hS
theorem cn_ok : ∀ t ∈ cnN,GdOk t := fun t ht => by
 simp [cnN] at ht
 subst ht
 exact ⟨⟨by decide,by decide⟩,⟨by decide,by decide⟩,⟨by decide,by decide⟩⟩
end Go.Proofs.Ytcnkgokfjafgkaa
