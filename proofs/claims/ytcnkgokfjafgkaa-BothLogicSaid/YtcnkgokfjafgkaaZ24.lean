/- Texts of the proof, put together: what it uses. -/
import Derived.Deep.CutBlock
import Derived.Test.YtcnkgokfjafgkaaZ23
set_option maxRecDepth 100000
set_option maxHeartbeats 16000000
namespace Go.Proofs.Ytcnkgokfjafgkaa
open Go.RowKit Go.Maps
structure AuV where
 aA : Option Addr
 nA : Nat
 cA : Nat
 aG : Option Addr
 nG : Nat
 cG : Nat
 aN : Option Addr
 nN : Nat
 cN : Nat
 bs : List Bool
 gs : List Int
 N : List Gd
def AuV.In (V : AuV) (w : World) : Prop := AuW w V.aA V.nA V.cA V.aG V.nG V.cG V.aN V.nN V.cN V.bs V.gs V.N
theorem AuV.In.up {V : AuV} {w w' : World} (h : V.In w) (hb : Below w.heap.size w w') : V.In w' := AuW.up h hb
structure VarB (w : World) (g : Nat) (p : Int) (V : AuV) : Prop where
 box : AuB w g p V.aA V.nA V.cA V.aG V.nG V.cG V.aN V.nN V.cN
 mem : V.In w
theorem VarB.up {w w' : World} {g : Nat} {p : Int} {V : AuV} (h : VarB w g p V) (hb : Below w.heap.size w w') : VarB w' g p V := ⟨h.box.up hb,h.mem.up hb⟩
theorem qG {w : World} {g : Nat} {p : Int} {V : AuV} (h : V.In w) (e : g = w.heap.size) : VarB (w.alloc (.cells #[.int .i64 p,.slice V.aA V.nA V.cA,.slice V.aG V.nG V.cG,.slice V.aN V.nN V.cN] 26 (0,0))) g p V := by
 rw [e]; exact ⟨qj _ _ _ _ _ _ _ _ _ _ _,h.up (q5 _ _)⟩
def AuV.May (V : AuV) (p : Int) : Prop := MayG p V.nA V.N V.gs
def AuV.acc (V : AuV) (p : Int) (u : List Nat) : Bool := acT p V.bs V.N V.gs u
def PuV (L : Nat) (p : Int) (f : List Nat → Bool) (w : World) (e : Ending) (w' : World) : Prop :=
 ∃ V : AuV,e = .returned (.tuple #[.agg #[.int .i64 p,.slice V.aA V.nA V.cA,.slice V.aG V.nG V.cG,.slice V.aN V.nN V.cN],.int .i64 0]) ∧ Hid (PutKb p f V.bs V.N V.gs) ∧ Hid (V.In w') ∧ Hid (V.May p) ∧ V.nA ≤ L ∧ Hid (Below w.heap.size w w')
theorem PuO.v {L : Nat} {p : Int} {f : List Nat → Bool} {w : World} {e : Ending} {w' : World} (h : PuO L p f w e w') : PuV L p f w e w' := by
 obtain ⟨bs',gs',N',a1,c1,a2,c2,a3,c3,h1,h2,h3,h4,h5⟩ := h
 exact ⟨⟨a1,bs'.length,c1,a2,bs'.length,c2,a3,N'.length,c3,bs',gs',N'⟩,h1,h2,h3.out.w,h2.out.can.may,h4,h5⟩
theorem PuR.form {L : Nat} {p : Int} {nA : Nat} {bs : List Bool} {N : List Gd} {gs : List Int} {q : Int} {nB : Nat} {cs : List Bool} {M : List Gd} {hs : List Int} {op : Bool → Bool → Bool} {w : World} {e : Ending} {w' : World} (h : PuR L p nA bs N gs q nB cs M hs op w e w') :
  ∃ (p0 : Int) (s1 : Option Addr) (n1 k1 : Nat) (s2 : Option Addr) (n2 k2 : Nat) (s3 : Option Addr) (n3 k3 : Nat) (z : Int),e = .returned (.tuple #[.agg #[.int .i64 p0,.slice s1 n1 k1,.slice s2 n2 k2,.slice s3 n3 k3],.int .i64 z]) ∧ Hid (Below w.heap.size w w') ∧ Hid (¬ (MayG p nA N gs ∧ MayG q nB M hs ∧ p = q) → z ≠ 0) := by
 obtain ⟨hb,⟨z,hz,h,_⟩ | ⟨h2,h3,h4,bs',gs',N',a1,c1,a2,c2,a3,c3,h1,_⟩⟩ := h
 ·exact ⟨_,_,_,_,_,_,_,_,_,_,_,h,hb,fun _ => hz⟩
 ·exact ⟨_,_,_,_,_,_,_,_,_,_,_,h1,hb,fun h => absurd ⟨h2,h3,h4⟩ h⟩
theorem q18 (p : Int) (V : AuV) (d : Option Addr) (m c : Nat) (ts : List Nat) (w : World) (hM : V.May p) (hA : V.In w) (hL : LtC w d m c ts) (hl : ts.length ≤ 1024) (ht : LtT p ts) :
  Calls Try.prog 12 #[.agg #[.int .i64 p,.slice V.aA V.nA V.cA,.slice V.aG V.nG V.cG,.slice V.aN V.nN V.cN],.slice d m c] w fun e w' => e = .returned (.bool (V.acc p ts)) ∧ Below w.heap.size w w' :=
 q5v p V.aA V.nA V.cA V.aG V.nG V.cG V.aN V.nN V.cN V.bs V.gs V.N d m c ts w hM hA hL hl ht
theorem q7X (p : Int) (V W : AuV) (w : World) (hV : V.In w) (hW : W.In w) :
  Calls Try.prog 13 #[.agg #[.int .i64 p,.slice V.aA V.nA V.cA,.slice V.aG V.nG V.cG,.slice V.aN V.nN V.cN],.agg #[.int .i64 p,.slice W.aA W.nA W.cA,.slice W.aG W.nG W.cG,.slice W.aN W.nN W.cN]] w fun e w' => e = .returned (.bool (decide (V.bs = W.bs ∧ V.gs = W.gs ∧ V.N = W.N))) ∧ Below w.heap.size w w' :=
 (q2H p V.aA V.nA V.cA V.aG V.nG V.cG V.aN V.nN V.cN p W.aA W.nA W.cA W.aG W.nG W.cG W.aN W.nN W.cN V.bs V.gs V.N W.bs W.gs W.N w hV.bo hV.zs hV.nd hW.bo hW.zs hW.nd).mono fun e w' ⟨h1,h2⟩ => by
  refine ⟨?_,h2⟩
  rw [h1,sameC,decide_eq_true rfl,Bool.true_and,Bool.decide_and,Bool.decide_and,Bool.and_assoc]
theorem q2t (L : Nat) (hL : L ≤ 256) (p : Int) (V : AuV) (w : World) (hM : V.May p) (hV : V.In w) (hp : p ≤ 3) (hf : V.nA + 1 ≤ L) :
  Calls Try.prog 8 #[.agg #[.int .i64 p,.slice V.aA V.nA V.cA,.slice V.aG V.nG V.cG,.slice V.aN V.nN V.cN]] w (PuV L p (fun u => !V.acc p u) w) :=
 (q1H L hL p V.aA V.nA V.cA V.aG V.nG V.cG V.aN V.nN V.cN V.bs V.N V.gs w hV.bo hV.nd hV.zs hM.ok64 hp hf).mono fun _ _ h => (h.o hM hM).v
theorem q8J (L : Nat) (hL : L ≤ 256) (p : Int) (V W : AuV) (w : World) (hM : V.May p) (kM : W.May p) (hV : V.In w) (hW : W.In w) (hp : p ≤ 3) (hf : V.nA * W.nA + 1 ≤ L) :
  Calls Try.prog 9 #[.agg #[.int .i64 p,.slice V.aA V.nA V.cA,.slice V.aG V.nG V.cG,.slice V.aN V.nN V.cN],.agg #[.int .i64 p,.slice W.aA W.nA W.cA,.slice W.aG W.nG W.cG,.slice W.aN W.nN W.cN]] w (PuV L p (fun u => V.acc p u && W.acc p u) w) :=
 (q2L L hL p V.aA V.nA V.cA V.aG V.nG V.cG V.aN V.nN V.cN p W.aA W.nA W.cA W.aG W.nG W.cG W.aN W.nN W.cN V.bs W.bs V.N V.gs W.N W.gs w hV.bo hV.nd hV.zs hM.ok64 hW.bo hW.nd hW.zs kM.ok64 hp hf).mono fun _ _ h => (h.o hM kM).v
theorem q6K (L : Nat) (hL : L ≤ 256) (p : Int) (V W : AuV) (w : World) (hM : V.May p) (kM : W.May p) (hV : V.In w) (hW : W.In w) (hp : p ≤ 3) (hf : V.nA * W.nA + 1 ≤ L) :
  Calls Try.prog 10 #[.agg #[.int .i64 p,.slice V.aA V.nA V.cA,.slice V.aG V.nG V.cG,.slice V.aN V.nN V.cN],.agg #[.int .i64 p,.slice W.aA W.nA W.cA,.slice W.aG W.nG W.cG,.slice W.aN W.nN W.cN]] w (PuV L p (fun u => V.acc p u || W.acc p u) w) :=
 (q3h L hL p V.aA V.nA V.cA V.aG V.nG V.cG V.aN V.nN V.cN p W.aA W.nA W.cA W.aG W.nG W.cG W.aN W.nN W.cN V.bs W.bs V.N V.gs W.N W.gs w hV.bo hV.nd hV.zs hM.ok64 hW.bo hW.nd hW.zs kM.ok64 hp hf).mono fun _ _ h => (h.o hM kM).v
theorem q8M (L : Nat) (hL : L ≤ 256) (p : Int) (V W : AuV) (w : World) (hM : V.May p) (kM : W.May p) (hV : V.In w) (hW : W.In w) (hp : p ≤ 3) (hf : V.nA * W.nA + 1 ≤ L) :
  Calls Try.prog 11 #[.agg #[.int .i64 p,.slice V.aA V.nA V.cA,.slice V.aG V.nG V.cG,.slice V.aN V.nN V.cN],.agg #[.int .i64 p,.slice W.aA W.nA W.cA,.slice W.aG W.nG W.cG,.slice W.aN W.nN W.cN]] w (PuV L p (fun u => V.acc p u != W.acc p u) w) :=
 (q2M L hL p V.aA V.nA V.cA V.aG V.nG V.cG V.aN V.nN V.cN p W.aA W.nA W.cA W.aG W.nG W.cG W.aN W.nN W.cN V.bs W.bs V.N V.gs W.N W.gs w hV.bo hV.nd hV.zs hM.ok64 hW.bo hW.nd hW.zs kM.ok64 hp hf).mono fun _ _ h => (h.o hM kM).v
def BdV (good : Prop) (w : World) (e : Ending) (w' : World) : Prop :=
 ∃ (p0 : Int) (V : AuV) (z : Int),e = .returned (.tuple #[.agg #[.int .i64 p0,.slice V.aA V.nA V.cA,.slice V.aG V.nG V.cG,.slice V.aN V.nN V.cN],.int .i64 z]) ∧ Hid (Below w.heap.size w w') ∧ Hid (¬ good → z ≠ 0)
theorem PuR.bd {L : Nat} {p : Int} {nA : Nat} {bs : List Bool} {N : List Gd} {gs : List Int} {q : Int} {nB : Nat} {cs : List Bool} {M : List Gd} {hs : List Int} {op : Bool → Bool → Bool} {w : World} {e : Ending} {w' : World} (h : PuR L p nA bs N gs q nB cs M hs op w e w') : BdV (MayG p nA N gs ∧ MayG q nB M hs ∧ p = q) w e w' := by
 obtain ⟨p0,s1,n1,k1,s2,n2,k2,s3,n3,k3,z,h1,h2,h3⟩ := h.form
 exact ⟨p0,⟨s1,n1,k1,s2,n2,k2,s3,n3,k3,[],[],[]⟩,z,h1,h2,h3⟩
theorem q4J (p : Int) (V : AuV) (w : World) (hV : V.In w) (hok : ∀ z ∈ V.gs,I64 z) (hp : p ≤ 3) (hf : V.nA + 1 ≤ 9) :
  Calls Try.prog 8 #[.agg #[.int .i64 p,.slice V.aA V.nA V.cA,.slice V.aG V.nG V.cG,.slice V.aN V.nN V.cN]] w (BdV (V.May p ∧ V.May p ∧ p = p) w) :=
 (q1H 9 (by decide) p V.aA V.nA V.cA V.aG V.nG V.cG V.aN V.nN V.cN V.bs V.N V.gs w hV.bo hV.nd hV.zs hok hp hf).mono fun _ _ h => h.bd
theorem q7U (p q : Int) (V W : AuV) (w : World) (hV : V.In w) (hok : ∀ z ∈ V.gs,I64 z) (hW : W.In w) (kok : ∀ z ∈ W.gs,I64 z) (hp : p ≤ 3) (hf : V.nA * W.nA + 1 ≤ 65) :
  Calls Try.prog 9 #[.agg #[.int .i64 p,.slice V.aA V.nA V.cA,.slice V.aG V.nG V.cG,.slice V.aN V.nN V.cN],.agg #[.int .i64 q,.slice W.aA W.nA W.cA,.slice W.aG W.nG W.cG,.slice W.aN W.nN W.cN]] w (BdV (V.May p ∧ W.May q ∧ p = q) w) :=
 (q2L 65 (by decide) p V.aA V.nA V.cA V.aG V.nG V.cG V.aN V.nN V.cN q W.aA W.nA W.cA W.aG W.nG W.cG W.aN W.nN W.cN V.bs W.bs V.N V.gs W.N W.gs w hV.bo hV.nd hV.zs hok hW.bo hW.nd hW.zs kok hp hf).mono fun _ _ h => h.bd
theorem q8L (p q : Int) (V W : AuV) (w : World) (hV : V.In w) (hok : ∀ z ∈ V.gs,I64 z) (hW : W.In w) (kok : ∀ z ∈ W.gs,I64 z) (hp : p ≤ 3) (hf : V.nA * W.nA + 1 ≤ 65) :
  Calls Try.prog 10 #[.agg #[.int .i64 p,.slice V.aA V.nA V.cA,.slice V.aG V.nG V.cG,.slice V.aN V.nN V.cN],.agg #[.int .i64 q,.slice W.aA W.nA W.cA,.slice W.aG W.nG W.cG,.slice W.aN W.nN W.cN]] w (BdV (V.May p ∧ W.May q ∧ p = q) w) :=
 (q3h 65 (by decide) p V.aA V.nA V.cA V.aG V.nG V.cG V.aN V.nN V.cN q W.aA W.nA W.cA W.aG W.nG W.cG W.aN W.nN W.cN V.bs W.bs V.N V.gs W.N W.gs w hV.bo hV.nd hV.zs hok hW.bo hW.nd hW.zs kok hp hf).mono fun _ _ h => h.bd
theorem q7Y (p q : Int) (V W : AuV) (w : World) (hV : V.In w) (hok : ∀ z ∈ V.gs,I64 z) (hW : W.In w) (kok : ∀ z ∈ W.gs,I64 z) (hp : p ≤ 3) (hf : V.nA * W.nA + 1 ≤ 65) :
  Calls Try.prog 11 #[.agg #[.int .i64 p,.slice V.aA V.nA V.cA,.slice V.aG V.nG V.cG,.slice V.aN V.nN V.cN],.agg #[.int .i64 q,.slice W.aA W.nA W.cA,.slice W.aG W.nG W.cG,.slice W.aN W.nN W.cN]] w (BdV (V.May p ∧ W.May q ∧ p = q) w) :=
 (q2M 65 (by decide) p V.aA V.nA V.cA V.aG V.nG V.cG V.aN V.nN V.cN q W.aA W.nA W.cA W.aG W.nG W.cG W.aN W.nN W.cN V.bs W.bs V.N V.gs W.N W.gs w hV.bo hV.nd hV.zs hok hW.bo hW.nd hW.zs kok hp hf).mono fun _ _ h => h.bd
theorem q9I (p : Int) (bs : List Bool) (gs : List Int) (N : List Gd) : sameC p bs gs N p bs gs N = true := by simp [sameC]
theorem q9V (p : Int) (V : AuV) (w : World) (hC : CanK p V.bs V.N V.gs) (hV : V.In w) :
  Calls Try.prog 14 #[.agg #[.int .i64 p,.slice V.aA V.nA V.cA,.slice V.aG V.nG V.cG,.slice V.aN V.nN V.cN]] w fun e w' => e = .returned (.tuple #[.bool true,.int .i64 0]) ∧ Below w.heap.size w w' :=
 (q6j p V.aA V.nA V.cA V.aG V.nG V.cG V.aN V.nN V.cN V.bs V.N V.gs w hV.bo hV.nd hV.zs hC.may.ok64).mono fun e w' h => by
  have hl := hV.bo.hlen
  obtain ⟨hb,⟨h,_⟩ | ⟨_,bs',gs',N',hm,rfl⟩⟩ := h
  ·exact absurd (hl ▸ hC.may) h
  ·rw [← hl] at hm
   obtain ⟨rfl,rfl,rfl⟩ := hC.min hm
   rw [q9I]
   exact ⟨rfl,hb⟩
end Go.Proofs.Ytcnkgokfjafgkaa
namespace Go.Proofs.Ytcnkgokfjafgkaa
open Go.RowKit Go.Maps Go.Sort
theorem q6I {P : Program} {e : TypeId} (h : (P.info? e).map (·.size) = some 4) (w : World) : (sizeOf e).run P w = .ok 4 w := by
 cases hq : P.info? e with
 | none => simp [hq] at h
 | some i => simp [hq] at h; simp [sizeOf,typeInfo,hq,h]
theorem qac {P : Program} {T e : TypeId} (hu : P.underlying T = some (.slice e)) (hs : (P.info? e).map (·.size) = some 4) {g cap n : Nat} (k : Nat) (w : World) (hk : k < n) :
  (Instr.indexAt T (.slice (some ⟨g,0,none⟩) n cap) (.int .i64 k)).run P w = .ok (.pointer (some ⟨g,4 * k,none⟩)) w := by
 simp [Instr.indexAt,run_underlying hu,asIntOf,q6I hs,hk,Result.andThen,go_sem,q9,Nat.mul_comm]
theorem q6z : (Try.prog.info? 26).map (·.size) = some 4 := by kernel_rfl
structure FrB (w : World) (g : Nat) (p : Int) (k : Nat) (V : AuV) : Prop where
 c0 : w.cell? ⟨g,4 * k,none⟩ = some (.int .i64 p)
 c1 : w.cell? ⟨g,4 * k + 1,none⟩ = some (.slice V.aA V.nA V.cA)
 c2 : w.cell? ⟨g,4 * k + 2,none⟩ = some (.slice V.aG V.nG V.cG)
 c3 : w.cell? ⟨g,4 * k + 3,none⟩ = some (.slice V.aN V.nN V.cN)
 mem : V.In w
 can : CanK p V.bs V.N V.gs
 zero : V.bs.getD 0 false = false
theorem q36 {w w' : World} {x : Addr} {v : Value} (h : w.cell? x = some v) (hb : Below w.heap.size w w') : w'.cell? x = some v := by
 rw [← h]; exact hb.cell (World.block_lt_of_cell? _ _ h)
theorem FrB.up {w w' : World} {g : Nat} {p : Int} {k : Nat} {V : AuV} (h : FrB w g p k V) (hb : Below w.heap.size w w') : FrB w' g p k V :=
 ⟨q36 h.c0 hb,q36 h.c1 hb,q36 h.c2 hb,q36 h.c3 hb,h.mem.up hb,h.can,h.zero⟩
theorem q95 {w : World} {p : Int} {N X Y Z : AuV} {f1 f2 f3 f4 : List Nat → Bool} (hN : N.In w) (hX : X.In w) (hY : Y.In w) (hZ : Z.In w) (h1 : PutKb p f1 N.bs N.N N.gs) (h2 : PutKb p f2 X.bs X.N X.gs) (h3 : PutKb p f3 Y.bs Y.N Y.gs) (h4 : PutKb p f4 Z.bs Z.N Z.gs) :
  ∀ k,k < 4 → ∃ V,FrB (w.alloc (.cells #[.int .i64 p,.slice N.aA N.nA N.cA,.slice N.aG N.nG N.cG,.slice N.aN N.nN N.cN,.int .i64 p,.slice X.aA X.nA X.cA,.slice X.aG X.nG X.cG,.slice X.aN X.nN X.cN,.int .i64 p,.slice Y.aA Y.nA Y.cA,.slice Y.aG Y.nG Y.cG,.slice Y.aN Y.nN Y.cN,.int .i64 p,.slice Z.aA Z.nA Z.cA,.slice Z.aG Z.nG Z.cG,.slice Z.aN Z.nN Z.cN] 26)) w.heap.size p k V := by
 intro k hk
 have hc := (MapKept.heap_alloc w (.cells #[.int .i64 p,.slice N.aA N.nA N.cA,.slice N.aG N.nG N.cG,.slice N.aN N.nN N.cN,.int .i64 p,.slice X.aA X.nA X.cA,.slice X.aG X.nG X.cG,.slice X.aN X.nN X.cN,.int .i64 p,.slice Y.aA Y.nA Y.cA,.slice Y.aG Y.nG Y.cG,.slice Y.aN Y.nN Y.cN,.int .i64 p,.slice Z.aA Z.nA Z.cA,.slice Z.aG Z.nG Z.cG,.slice Z.aN Z.nN Z.cN] 26)).1
 match k,hk with
 | 0,_ => exact ⟨N,q6 hc 0,q6 hc 1,q6 hc 2,q6 hc 3,hN.up (q5 _ _),h1.can,h1.zero⟩
 | 1,_ => exact ⟨X,q6 hc 4,q6 hc 5,q6 hc 6,q6 hc 7,hX.up (q5 _ _),h2.can,h2.zero⟩
 | 2,_ => exact ⟨Y,q6 hc 8,q6 hc 9,q6 hc 10,q6 hc 11,hY.up (q5 _ _),h3.can,h3.zero⟩
 | 3,_ => exact ⟨Z,q6 hc 12,q6 hc 13,q6 hc 14,q6 hc 15,hZ.up (q5 _ _),h4.can,h4.zero⟩
theorem q6h (p q : Int) (A B : AuV) (d : Option Addr) (m c : Nat) (zs : List Int) (w : World) (hA : A.In w) (hok : ∀ z ∈ A.gs,I64 z) (kA : B.In w) (kok : ∀ z ∈ B.gs,I64 z) (hL0 : IntSl Try.prog 27 .u8 w d m c zs) (hz : ∀ z ∈ zs,0 ≤ z ∧ z < 256) :
  Calls Try.prog 3 #[.agg #[.int .i64 p,.slice A.aA A.nA A.cA,.slice A.aG A.nG A.cG,.slice A.aN A.nN A.cN],.agg #[.int .i64 q,.slice B.aA B.nA B.cA,.slice B.aG B.nG B.cG,.slice B.aN B.nN B.cN],.slice d m c] w fun e w' => e = .returned (.bool true) ∧ Below w.heap.size w w' := by
 obtain ⟨Q,hQ⟩ : ∃ Q : Ending → World → Prop,Q = fun e w' => e = .returned (.bool true) ∧ Below w.heap.size w w' := ⟨_,rfl⟩
 have HQ0 : Hid (∀ w',Below w.heap.size w w' → Q (.returned (.bool true)) w') := fun w' h => by rw [hQ]; exact ⟨rfl,h⟩
 rw [← hQ]
 clear hQ
 obtain ⟨w2,hw2⟩ : ∃ w2,w2 = (w.alloc (.cells #[.int .i64 p,.slice A.aA A.nA A.cA,.slice A.aG A.nG A.cG,.slice A.aN A.nN A.cN] 26 (0,0))).alloc (.cells #[.int .i64 q,.slice B.aA B.nA B.cA,.slice B.aG B.nG B.cG,.slice B.aN B.nN B.cN] 26 (0,0)) := ⟨_,rfl⟩
 have hb2 : Below w.heap.size w w2 := by rw [hw2]; exact q7 (q5 w _) (q5 _ _)
 have hv1 : VarB w2 w.heap.size p A := by rw [hw2]; exact (qG hA rfl).up (q5 _ _)
 have hv2 : VarB w2 (w.heap.size + 1) q B := by rw [hw2]; exact qG (kA.up (q5 _ _)) (by simp)
 have HW2 : Hid _ := hw2
 have HL : Hid (IntSl Try.prog 27 .u8 w2 d m c zs) := hL0.up hb2
 have HZ : Hid _ := hz
 have HOK : Hid (∀ z ∈ A.gs,I64 z) := hok
 have KOK : Hid (∀ z ∈ B.gs,I64 z) := kok
 have jw := q4a w2
 have HQ : Hid (∀ w',Below w2.heap.size w2 w' → Q (.returned (.bool true)) w') := fun w' h => HQ0.out w' (q7 hb2 h)
 clear HQ0
 have HV1 : Hid (VarB w2 w.heap.size p A) := hv1
 have HV2 : Hid (VarB w2 (w.heap.size + 1) q B) := hv2
 have hmc := Nat.le_trans hL0.hcap hL0.bd
 unfold maxLen at hmc
 clear hw2 hb2 hv1 hv2 hA hok kA kok hL0 hz
 go_enter Try.func3,Try.ntmps3
 go_wp2_with (rw [← HW2.out])
 generalize w.heap.size + 1 = g2 at *
 generalize w.heap.size = g1 at *
 clear HW2
 refine jw.mono ?_
 rintro e w3 ⟨rfl,hb3⟩
 have HB3 : Hid (Below w2.heap.size w2 w3) := hb3
 have HV3 : Hid (VarB w3 g1 p A) := HV1.out.up hb3
 have HU3 : Hid (VarB w3 g2 q B) := HV2.out.up hb3
 have js := q24 p A.aA A.nA A.cA A.aG A.nG A.cG A.aN A.nN A.cN w3
 clear jw hb3
 obtain ⟨c0,c1,c2,c3⟩ := HV3.out.box
 generalize hsa : smBb p A.nA A.nG A.nN = sa at *
 have HSA : Hid _ := hsa
 clear hsa
 go_wp2_with fail
 refine js.mono ?_
 rintro e w4 ⟨rfl,hb4⟩
 have HB4 : Hid (Below w2.heap.size w2 w4) := q7 HB3.out hb4
 have HV4 : Hid (VarB w4 g1 p A) := HV3.out.up hb4
 have HU4 : Hid (VarB w4 g2 q B) := HU3.out.up hb4
 clear js hb4 c0 c1 c2 c3 HB3 HV3 HU3
 cases sa with
 | false =>
  have HE : Hid _ := HQ.out _ HB4.out
  clear HQ
  go_wp2
  exact HE.out
 | true =>
 have js := q24 q B.aA B.nA B.cA B.aG B.nG B.cG B.aN B.nN B.cN w4
 obtain ⟨c0,c1,c2,c3⟩ := HU4.out.box
 generalize hsb : smBb q B.nA B.nG B.nN = sb at *
 have HSB : Hid _ := hsb
 clear hsb
 go_wp2_with fail
 refine js.mono ?_
 rintro e w5 ⟨rfl,hb5⟩
 have HB5 : Hid (Below w2.heap.size w2 w5) := q7 HB4.out hb5
 have HV5 : Hid (VarB w5 g1 p A) := HV4.out.up hb5
 have HU5 : Hid (VarB w5 g2 q B) := HU4.out.up hb5
 clear js hb5 c0 c1 c2 c3 HB4 HV4 HU4
 cases sb with
 | false =>
  have HE : Hid _ := HQ.out _ HB5.out
  clear HQ
  go_wp2
  exact HE.out
 | true =>
 have hsa := q8w HSA.out
 have hsb := q8w HSB.out
 have hp3 : p ≤ 3 := hsa.2.1
 have hn64 : A.nA * B.nA ≤ 64 := Nat.le_trans (Nat.mul_le_mul hsa.1 hsb.1) (by decide)
 have hnA : A.nA ≤ 8 := hsa.1
 have hnB : B.nA ≤ 8 := hsb.1
 have hq3 : q ≤ 3 := hsb.2.1
 have HR5 : Hid (Below w2.heap.size w2 w5) := HB5.out
 have HA5 : Hid (VarB w5 g1 p A) := HV5.out
 have HB6 : Hid (VarB w5 g2 q B) := HU5.out
 clear hsa hsb HSA HSB HB5 HV5 HU5
 have HB5 : Hid (VarB w5 g2 q B) := HB6.out
 clear HB6
 by_cases hg : A.May p ∧ B.May q ∧ p = q
 rotate_left
 ·as_aux_lemma =>
  have j5 := q4J p A w5 HA5.out.mem HOK.out hp3 (by omega)
  obtain ⟨c0,c1,c2,c3⟩ := HA5.out.box
  go_wp2_with fail
  refine j5.mono ?_
  rintro e u5 ⟨pN,N,zN,rfl,HO5,HZN⟩
  obtain ⟨w6,hw⟩ : ∃ x,x = u5.alloc (.cells #[.int .i64 pN,.slice N.aA N.nA N.cA,.slice N.aG N.nG N.cG,.slice N.aN N.nN N.cN] 26 (0,0)) := ⟨_,rfl⟩
  have hba : Below u5.heap.size u5 w6 := by rw [hw]; exact q5 _ _
  have hbb := q7 HO5.out hba
  have HA6 : Hid (VarB w6 g1 p A) := HA5.out.up hbb
  have HB6 : Hid (VarB w6 g2 q B) := HB5.out.up hbb
  have HR6 : Hid (Below w2.heap.size w2 w6) := q7 HR5.out hbb
  have HW6 : Hid _ := hw
  clear j5 c0 c1 c2 c3 hba hbb hw  HO5 HA5 HB5 HR5
  have j6 := q4J q B w6 HB6.out.mem KOK.out hq3 (by omega)
  obtain ⟨c0,c1,c2,c3⟩ := HB6.out.box
  go_wp2_with (rw [← HW6.out])
  generalize u5.heap.size = bN at *
  clear HW6
  refine j6.mono ?_
  rintro e u6 ⟨pM,M,zM,rfl,HO6,HZM⟩
  obtain ⟨w7,hw⟩ : ∃ x,x = u6.alloc (.cells #[.int .i64 pM,.slice M.aA M.nA M.cA,.slice M.aG M.nG M.cG,.slice M.aN M.nN M.cN] 26 (0,0)) := ⟨_,rfl⟩
  have hba : Below u6.heap.size u6 w7 := by rw [hw]; exact q5 _ _
  have hbb := q7 HO6.out hba
  have HA7 : Hid (VarB w7 g1 p A) := HA6.out.up hbb
  have HB7 : Hid (VarB w7 g2 q B) := HB6.out.up hbb
  have HR7 : Hid (Below w2.heap.size w2 w7) := q7 HR6.out hbb
  have HW7 : Hid _ := hw
  clear j6 c0 c1 c2 c3 hba hbb hw  HO6 HA6 HB6 HR6
  have j7 := q7U p q A B w7 HA7.out.mem HOK.out HB7.out.mem KOK.out hp3 (by omega)
  obtain ⟨c0,c1,c2,c3⟩ := HA7.out.box
  obtain ⟨d0,d1,d2,d3⟩ := HB7.out.box
  go_wp2_with (rw [← HW7.out])
  generalize u6.heap.size = bM at *
  clear HW7
  refine j7.mono ?_
  rintro e u7 ⟨pX,X,zX,rfl,HO7,HZX⟩
  obtain ⟨w8,hw⟩ : ∃ x,x = u7.alloc (.cells #[.int .i64 pX,.slice X.aA X.nA X.cA,.slice X.aG X.nG X.cG,.slice X.aN X.nN X.cN] 26 (0,0)) := ⟨_,rfl⟩
  have hba : Below u7.heap.size u7 w8 := by rw [hw]; exact q5 _ _
  have hbb := q7 HO7.out hba
  have HA8 : Hid (VarB w8 g1 p A) := HA7.out.up hbb
  have HB8 : Hid (VarB w8 g2 q B) := HB7.out.up hbb
  have HR8 : Hid (Below w2.heap.size w2 w8) := q7 HR7.out hbb
  have HW8 : Hid _ := hw
  clear j7 c0 c1 c2 c3 d0 d1 d2 d3 hba hbb hw  HO7 HA7 HB7 HR7
  have j8 := q8L p q A B w8 HA8.out.mem HOK.out HB8.out.mem KOK.out hp3 (by omega)
  obtain ⟨c0,c1,c2,c3⟩ := HA8.out.box
  obtain ⟨d0,d1,d2,d3⟩ := HB8.out.box
  go_wp2_with (rw [← HW8.out])
  generalize u7.heap.size = bX at *
  clear HW8
  refine j8.mono ?_
  rintro e u8 ⟨pY,Y,zY,rfl,HO8,HZY⟩
  obtain ⟨w9,hw⟩ : ∃ x,x = u8.alloc (.cells #[.int .i64 pY,.slice Y.aA Y.nA Y.cA,.slice Y.aG Y.nG Y.cG,.slice Y.aN Y.nN Y.cN] 26 (0,0)) := ⟨_,rfl⟩
  have hba : Below u8.heap.size u8 w9 := by rw [hw]; exact q5 _ _
  have hbb := q7 HO8.out hba
  have HA9 : Hid (VarB w9 g1 p A) := HA8.out.up hbb
  have HB9 : Hid (VarB w9 g2 q B) := HB8.out.up hbb
  have HR9 : Hid (Below w2.heap.size w2 w9) := q7 HR8.out hbb
  have HW9 : Hid _ := hw
  clear j8 c0 c1 c2 c3 d0 d1 d2 d3 hba hbb hw  HO8 HA8 HB8 HR8
  have j9 := q7Y p q A B w9 HA9.out.mem HOK.out HB9.out.mem KOK.out hp3 (by omega)
  obtain ⟨c0,c1,c2,c3⟩ := HA9.out.box
  obtain ⟨d0,d1,d2,d3⟩ := HB9.out.box
  go_wp2_with (rw [← HW9.out])
  generalize u8.heap.size = bY at *
  clear HW9
  refine j9.mono ?_
  rintro e u9 ⟨pZ,Z,zZ,rfl,HO9,HZZ⟩
  obtain ⟨w10,hw⟩ : ∃ x,x = u9.alloc (.cells #[.int .i64 pZ,.slice Z.aA Z.nA Z.cA,.slice Z.aG Z.nG Z.cG,.slice Z.aN Z.nN Z.cN] 26 (0,0)) := ⟨_,rfl⟩
  have hba : Below u9.heap.size u9 w10 := by rw [hw]; exact q5 _ _
  have hbb := q7 HO9.out hba
  have HA10 : Hid (VarB w10 g1 p A) := HA9.out.up hbb
  have HB10 : Hid (VarB w10 g2 q B) := HB9.out.up hbb
  have HR10 : Hid (Below w2.heap.size w2 w10) := q7 HR9.out hbb
  have HW10 : Hid _ := hw
  clear j9 c0 c1 c2 c3 d0 d1 d2 d3 hba hbb hw  HO9 HA9 HB9 HR9
  have HE : Hid _ := HQ.out _ HR10.out
  have hzX := HZX.out hg
  clear HQ HR10 HZX HZY HZZ HZN HZM HA10 HB10 HV1 HV2 HL HZ HOK KOK hg
  by_cases y1 : zN = 0
  ·subst y1
   by_cases y2 : zM = 0
   ·subst y2
    have y3 : (zX != 0) = true := by simpa using hzX
    go_wp2_with (rw [← HW10.out])
    exact HE.out
   ·have y3 : (zM != 0) = true := by simpa using y2
    go_wp2_with (rw [← HW10.out])
    exact HE.out
  ·have y3 : (zN != 0) = true := by simpa using y1
   go_wp2_with (rw [← HW10.out])
   exact HE.out
 obtain ⟨hM,kM,rfl⟩ := hg
 have hp0 := hM.p0
 have HMA : Hid (A.May p) := hM
 have HMB : Hid (B.May p) := kM
 clear hM kM HOK KOK hq3
 obtain ⟨P,rfl⟩ := Int.eq_ofNat_of_zero_le hp0
 have hP4 : P ≤ 3 := by omega
 have hmin : min P 64 = P := by omega
 have j5 := q2t 9 (by decide) (P : Int) A w5 HMA.out HA5.out.mem hp3 (by omega)
 obtain ⟨c0,c1,c2,c3⟩ := HA5.out.box
 go_wp2_with fail
 refine j5.mono ?_
 rintro e u5 ⟨N,rfl,HPN,HIN,HMN,hnN,HO5⟩
 obtain ⟨w6,hw⟩ : ∃ x,x = u5.alloc (.cells #[.int .i64 (P : Int),.slice N.aA N.nA N.cA,.slice N.aG N.nG N.cG,.slice N.aN N.nN N.cN] 26 (0,0)) := ⟨_,rfl⟩
 have hba : Below u5.heap.size u5 w6 := by rw [hw]; exact q5 _ _
 have hbb := q7 HO5.out hba
 have HN6 : Hid (VarB w6 u5.heap.size (P : Int) N) := by show VarB _ _ _ _; rw [hw]; exact qG HIN.out rfl
 have HA6 : Hid (VarB w6 g1 (P : Int) A) := HA5.out.up hbb
 have HB6 : Hid (VarB w6 g2 (P : Int) B) := HB5.out.up hbb
 have HR6 : Hid (Below w2.heap.size w2 w6) := q7 HR5.out hbb
 have HW6 : Hid _ := hw
 clear j5 c0 c1 c2 c3 hba hbb hw HIN HO5 HA5 HB5 HR5
 have j6 := q2t 9 (by decide) (P : Int) B w6 HMB.out HB6.out.mem hp3 (by omega)
 obtain ⟨c0,c1,c2,c3⟩ := HB6.out.box
 go_wp2_with (rw [← HW6.out])
 generalize u5.heap.size = bN at *
 clear HW6
 refine j6.mono ?_
 rintro e u6 ⟨M,rfl,HPM,HIM,HMM,hnM,HO6⟩
 obtain ⟨w7,hw⟩ : ∃ x,x = u6.alloc (.cells #[.int .i64 (P : Int),.slice M.aA M.nA M.cA,.slice M.aG M.nG M.cG,.slice M.aN M.nN M.cN] 26 (0,0)) := ⟨_,rfl⟩
 have hba : Below u6.heap.size u6 w7 := by rw [hw]; exact q5 _ _
 have hbb := q7 HO6.out hba
 have HM7 : Hid (VarB w7 u6.heap.size (P : Int) M) := by show VarB _ _ _ _; rw [hw]; exact qG HIM.out rfl
 have HA7 : Hid (VarB w7 g1 (P : Int) A) := HA6.out.up hbb
 have HB7 : Hid (VarB w7 g2 (P : Int) B) := HB6.out.up hbb
 have HN7 : Hid (VarB w7 bN (P : Int) N) := HN6.out.up hbb
 have HR7 : Hid (Below w2.heap.size w2 w7) := q7 HR6.out hbb
 have HW7 : Hid _ := hw
 clear j6 c0 c1 c2 c3 hba hbb hw HIM HO6 HA6 HB6 HN6 HR6
 have j7 := q8J 65 (by decide) (P : Int) A B w7 HMA.out HMB.out HA7.out.mem HB7.out.mem hp3 (by omega)
 obtain ⟨c0,c1,c2,c3⟩ := HA7.out.box
 obtain ⟨d0,d1,d2,d3⟩ := HB7.out.box
 go_wp2_with (rw [← HW7.out])
 generalize u6.heap.size = bM at *
 clear HW7
 refine j7.mono ?_
 rintro e u7 ⟨X,rfl,HPX,HIX,HMX,hnX,HO7⟩
 obtain ⟨w8,hw⟩ : ∃ x,x = u7.alloc (.cells #[.int .i64 (P : Int),.slice X.aA X.nA X.cA,.slice X.aG X.nG X.cG,.slice X.aN X.nN X.cN] 26 (0,0)) := ⟨_,rfl⟩
 have hba : Below u7.heap.size u7 w8 := by rw [hw]; exact q5 _ _
 have hbb := q7 HO7.out hba
 have HX8 : Hid (VarB w8 u7.heap.size (P : Int) X) := by show VarB _ _ _ _; rw [hw]; exact qG HIX.out rfl
 have HA8 : Hid (VarB w8 g1 (P : Int) A) := HA7.out.up hbb
 have HB8 : Hid (VarB w8 g2 (P : Int) B) := HB7.out.up hbb
 have HN8 : Hid (VarB w8 bN (P : Int) N) := HN7.out.up hbb
 have HM8 : Hid (VarB w8 bM (P : Int) M) := HM7.out.up hbb
 have HR8 : Hid (Below w2.heap.size w2 w8) := q7 HR7.out hbb
 have HW8 : Hid _ := hw
 clear j7 c0 c1 c2 c3 d0 d1 d2 d3 hba hbb hw HIX HO7 HA7 HB7 HN7 HM7 HR7
 have j8 := q6K 65 (by decide) (P : Int) A B w8 HMA.out HMB.out HA8.out.mem HB8.out.mem hp3 (by omega)
 obtain ⟨c0,c1,c2,c3⟩ := HA8.out.box
 obtain ⟨d0,d1,d2,d3⟩ := HB8.out.box
 go_wp2_with (rw [← HW8.out])
 generalize u7.heap.size = bX at *
 clear HW8
 refine j8.mono ?_
 rintro e u8 ⟨Y,rfl,HPY,HIY,HMY,hnY,HO8⟩
 obtain ⟨w9,hw⟩ : ∃ x,x = u8.alloc (.cells #[.int .i64 (P : Int),.slice Y.aA Y.nA Y.cA,.slice Y.aG Y.nG Y.cG,.slice Y.aN Y.nN Y.cN] 26 (0,0)) := ⟨_,rfl⟩
 have hba : Below u8.heap.size u8 w9 := by rw [hw]; exact q5 _ _
 have hbb := q7 HO8.out hba
 have HY9 : Hid (VarB w9 u8.heap.size (P : Int) Y) := by show VarB _ _ _ _; rw [hw]; exact qG HIY.out rfl
 have HA9 : Hid (VarB w9 g1 (P : Int) A) := HA8.out.up hbb
 have HB9 : Hid (VarB w9 g2 (P : Int) B) := HB8.out.up hbb
 have HN9 : Hid (VarB w9 bN (P : Int) N) := HN8.out.up hbb
 have HM9 : Hid (VarB w9 bM (P : Int) M) := HM8.out.up hbb
 have HX9 : Hid (VarB w9 bX (P : Int) X) := HX8.out.up hbb
 have HR9 : Hid (Below w2.heap.size w2 w9) := q7 HR8.out hbb
 have HW9 : Hid _ := hw
 clear j8 c0 c1 c2 c3 d0 d1 d2 d3 hba hbb hw HIY HO8 HA8 HB8 HN8 HM8 HX8 HR8
 have j9 := q8M 65 (by decide) (P : Int) A B w9 HMA.out HMB.out HA9.out.mem HB9.out.mem hp3 (by omega)
 obtain ⟨c0,c1,c2,c3⟩ := HA9.out.box
 obtain ⟨d0,d1,d2,d3⟩ := HB9.out.box
 go_wp2_with (rw [← HW9.out])
 generalize u8.heap.size = bY at *
 clear HW9
 refine j9.mono ?_
 rintro e u9 ⟨Z,rfl,HPZ,HIZ,HMZ,hnZ,HO9⟩
 obtain ⟨w10,hw⟩ : ∃ x,x = u9.alloc (.cells #[.int .i64 (P : Int),.slice Z.aA Z.nA Z.cA,.slice Z.aG Z.nG Z.cG,.slice Z.aN Z.nN Z.cN] 26 (0,0)) := ⟨_,rfl⟩
 have hba : Below u9.heap.size u9 w10 := by rw [hw]; exact q5 _ _
 have hbb := q7 HO9.out hba
 have HZ10 : Hid (VarB w10 u9.heap.size (P : Int) Z) := by show VarB _ _ _ _; rw [hw]; exact qG HIZ.out rfl
 have HA10 : Hid (VarB w10 g1 (P : Int) A) := HA9.out.up hbb
 have HB10 : Hid (VarB w10 g2 (P : Int) B) := HB9.out.up hbb
 have HN10 : Hid (VarB w10 bN (P : Int) N) := HN9.out.up hbb
 have HM10 : Hid (VarB w10 bM (P : Int) M) := HM9.out.up hbb
 have HX10 : Hid (VarB w10 bX (P : Int) X) := HX9.out.up hbb
 have HY10 : Hid (VarB w10 bY (P : Int) Y) := HY9.out.up hbb
 have HR10 : Hid (Below w2.heap.size w2 w10) := q7 HR9.out hbb
 have HW10 : Hid _ := hw
 clear j9 c0 c1 c2 c3 d0 d1 d2 d3 hba hbb hw HIZ HO9 HA9 HB9 HN9 HM9 HX9 HY9 HR9
 obtain ⟨wg,hwg⟩ : ∃ wg,wg = w10 := ⟨_,rfl⟩
 subst hwg
 have HVg : Hid (VarB wg g1 (P : Int) A) := HA10.out
 have HLg : Hid (IntSl Try.prog 27 .u8 wg d m c zs) := HL.out.up HR10.out
 clear HL
 go_upto_block 0 with (rw [← HW10.out])
 generalize u9.heap.size = bZ at *
 clear HW10
 go_cut [18,19] from 90 to 111 (fun v j wx => ∃ (ts : List Nat) (fa : Option Addr) (fc : Nat),v = .slice fa ts.length fc ∧ ts.length ≤ 1024 ∧ Hid (LtT (P : Int) ts) ∧ Hid (LtC wx fa ts.length fc ts) ∧ Hid (Below wg.heap.size wg wx))
 case first => as_aux_lemma =>
  go_wp2
  go_loopw [18,19] (fun v j wr => ∃ (i : Nat),i ≤ m ∧ i ≤ 1024 ∧ j = .int .i64 (i : Int) ∧ Hid (wr.ownsRow wg.heap.size 34 1 v i (ltV ((cutN (2 ^ P) zs).take i))) ∧ Hid (Below wg.heap.size wg wr)) (fun _ j _ => m - (intOf j).toNat)
  case atStart => exact ⟨0,Nat.zero_le _,Nat.zero_le _,rfl,⟨rfl,Or.inl ⟨rfl,rfl⟩⟩,Below.refl _ _⟩
  case round =>
   obtain ⟨i,hi,hi2,rfl,HO,HB⟩ := hrel
   by_cases hlt : i < m ∧ i < 1024
   ·obtain ⟨hlt,hlt2⟩ := hlt
    have hiz : i < zs.length := by have := HLg.out.hlen; omega
    have hS := HLg.out.up HB.out
    have hidx := fun w' => hS.idx m i w' hlt (Nat.le_refl _)
    have hce := hS.cell i hlt
    have hok := HZ.out (zs.getD i 0) (by rw [List.getD_eq_getElem?_getD,List.getElem?_eq_getElem hiz]; exact List.getElem_mem hiz)
    have HTK : Hid _ := q86 (K := 2 ^ P) hiz
    generalize zs.getD i 0 = zz at *
    obtain ⟨z,rfl⟩ := Int.eq_ofNat_of_zero_le hok.1
    obtain ⟨av,cv,rfl⟩ := qe HO.out
    generalize adOf d i = ad at *
    obtain ⟨ga,oa,sa⟩ := ad
    have HMK : Hid _ := maskP (z := z) (k := P) (by omega) (by omega)
    have hO8 : (wr.alloc (.cells #[.int .u8 (bits BinOp.and IntKind.u8 (z : Int) (IntKind.u8.wrap (IntKind.u8.wrap (2 ^ P) - 1)))] 34)).drew.ownsRow wg.heap.size 34 1 (.slice av i cv) i (ltV ((cutN (2 ^ P) zs).take i)) := World.ownsRow.alloc HO.out _
    have hc8 : (wr.alloc (.cells #[.int .u8 (bits BinOp.and IntKind.u8 (z : Int) (IntKind.u8.wrap (IntKind.u8.wrap (2 ^ P) - 1)))] 34)).drew.cell? ⟨wr.heap.size,0,none⟩ = some (.int .u8 (bits BinOp.and IntKind.u8 (z : Int) (IntKind.u8.wrap (IntKind.u8.wrap (2 ^ P) - 1)))) := q6 (MapKept.heap_alloc wr _).1 0
    have hw0 : wg.heap.size ≤ wr.heap.size := HB.out.size
    have c0 := (HVg.out.up HB.out).box.c0
    have q1 : ga < wr.heap.size := World.block_lt_of_cell? _ _ hce
    have q2 : g1 < wr.heap.size := World.block_lt_of_cell? _ _ c0
    have him : i + 1 ≤ 140737488355328 := by omega
    have e1 : decide ((i : Int) < (m : Int)) = true := decide_eq_true (by omega)
    have e2 : decide ((i : Int) < 1024) = true := decide_eq_true (by omega)
    clear hS
    go_wp2
    go_region_law ((refine q5t rfl _ _ rfl wg.heap.size (.slice av i cv) i _ _ wr.heap.size rfl rfl hO8 hc8 him (by simp; omega) ?_; intro v5 w5 hown5 hgr5; obtain ⟨a5,k5,rfl⟩ := qe hown5))
    all_goals
     have HO5 : Hid (w5.ownsRow wg.heap.size 34 1 (.slice a5 (i + 1) k5) (i + 1) (ltV ((cutN (2 ^ P) zs).take (i + 1)))) := by
      show _
      rw [HTK.out,ltV,List.map_append]
      have h5 := hown5
      rw [HMK.out] at h5
      exact h5
     have HB5 : Hid (Below wg.heap.size wg w5) := by
      have h1 := HB.out.trans ((q5 wr (.cells #[.int .u8 (bits BinOp.and IntKind.u8 (z : Int) (IntKind.u8.wrap (IntKind.u8.wrap (2 ^ P) - 1)))] 34)).mono hw0)
      exact h1.drew.grown hgr5 (by simp; omega) (fun j hj => qm hO8 j hj)
     clear hO8 hc8 hown5 hgr5 hce hidx c0 q1 q2 HO HB HMK HTK
     go_wp2
     go_roundw
     case rel => exact ⟨i + 1,by omega,by omega,by go_num,HO5,HB5⟩
     case measure => simp [intOf] <;> omega
   ·have hzl := HLg.out.hlen
    obtain ⟨fa,fc,rfl⟩ := qe HO.out
    have hcl : ((cutN (2 ^ P) zs).take i).length = i := by rw [List.length_take,cutN,List.length_map]; omega
    have HCL : Hid _ := hcl
    have HLf : Hid (LtC wr fa i fc ((cutN (2 ^ P) zs).take i)) := q70 HO.out
    have HSL : Hid (LtT (P : Int) ((cutN (2 ^ P) zs).take i)) := fun l hl => by rw [Int.toNat_natCast]; exact q7D (Nat.two_pow_pos P) zs l (List.mem_of_mem_take hl)
    clear hzl HO hcl
    rcases (show ¬ i < m ∨ (i < m ∧ ¬ i < 1024) by omega) with hE | ⟨hE,hE2⟩
    all_goals
     clear hlt
     go_wp2
     go_meet
     refine ⟨(cutN (2 ^ P) zs).take i,fa,fc,?_,?_,HSL,?_,HB⟩
     ·rw [HCL.out]
     ·rw [HCL.out]; exact hi2
     ·show LtC _ _ _ _ _
      rw [HCL.out]; exact HLf.out
 case rest =>
 obtain ⟨ts,fa,fc,rfl,hti,HSL,HLf,HBf⟩ := hcut
 obtain ⟨wr,hwr⟩ : ∃ wr,wr = wc := ⟨_,rfl⟩
 subst hwr
 have HAr : Hid (VarB wr g1 (P : Int) A) := HA10.out.up HBf.out
 have HBr : Hid (VarB wr g2 (P : Int) B) := HB10.out.up HBf.out
 have HNr : Hid (VarB wr bN (P : Int) N) := HN10.out.up HBf.out
 have HMr : Hid (VarB wr bM (P : Int) M) := HM10.out.up HBf.out
 have HXr : Hid (VarB wr bX (P : Int) X) := HX10.out.up HBf.out
 have HYr : Hid (VarB wr bY (P : Int) Y) := HY10.out.up HBf.out
 have HZr : Hid (VarB wr bZ (P : Int) Z) := HZ10.out.up HBf.out
 have HRr : Hid (Below w2.heap.size w2 wr) := q7 HR10.out HBf.out
 clear HLg HVg HR10 HBf HZ HA10 HB10 HN10 HM10 HX10 HY10 HZ10 HV1 HV2
 obtain ⟨bg,hbg⟩ : ∃ b : Bool,b = !ts.isEmpty := ⟨_,rfl⟩
 have hgt : decide (0 < ts.length) = bg := by
  rw [hbg]
  cases ts with
  | nil => rfl
  | cons a t => exact decide_eq_true (by simp)
 have HBG : Hid _ := hbg
 clear hbg
 have HJA : Hid (∀ W,Hid (Below wr.heap.size wr W) → Calls Try.prog 12 #[.agg #[.int .i64 (P : Int),.slice A.aA A.nA A.cA,.slice A.aG A.nG A.cG,.slice A.aN A.nN A.cN],.slice fa ts.length fc] W fun e w' => e = .returned (.bool (A.acc (P : Int) ts)) ∧ Below W.heap.size W w') := fun W hb => q18 (P : Int) A fa ts.length fc ts W HMA.out (HAr.out.mem.up hb.out) (HLf.out.up hb.out) hti HSL.out
 have HJB : Hid (∀ W,Hid (Below wr.heap.size wr W) → Calls Try.prog 12 #[.agg #[.int .i64 (P : Int),.slice B.aA B.nA B.cA,.slice B.aG B.nG B.cG,.slice B.aN B.nN B.cN],.slice fa ts.length fc] W fun e w' => e = .returned (.bool (B.acc (P : Int) ts)) ∧ Below W.heap.size W w') := fun W hb => q18 (P : Int) B fa ts.length fc ts W HMB.out (HBr.out.mem.up hb.out) (HLf.out.up hb.out) hti HSL.out
 obtain ⟨yN,hyN⟩ : ∃ y : Bool,(bg && !A.acc (P : Int) ts) = y := ⟨_,rfl⟩
 have HAN : Hid (N.acc (P : Int) ts = yN) := by show _ = _; rw [← hyN,HBG.out]; exact HPN.out.acc ts HSL.out
 have HJN : Hid (∀ W,Hid (Below wr.heap.size wr W) → Calls Try.prog 12 #[.agg #[.int .i64 (P : Int),.slice N.aA N.nA N.cA,.slice N.aG N.nG N.cG,.slice N.aN N.nN N.cN],.slice fa ts.length fc] W fun e w' => e = .returned (.bool yN) ∧ Below W.heap.size W w') := fun W hb => by
  have := q18 (P : Int) N fa ts.length fc ts W HMN.out (HNr.out.mem.up hb.out) (HLf.out.up hb.out) hti HSL.out
  rw [HAN.out] at this; exact this
 have HYN : Hid _ := hyN
 clear hyN
 obtain ⟨yX,hyX⟩ : ∃ y : Bool,(bg && (A.acc (P : Int) ts && B.acc (P : Int) ts)) = y := ⟨_,rfl⟩
 have HAX : Hid (X.acc (P : Int) ts = yX) := by show _ = _; rw [← hyX,HBG.out]; exact HPX.out.acc ts HSL.out
 have HJX : Hid (∀ W,Hid (Below wr.heap.size wr W) → Calls Try.prog 12 #[.agg #[.int .i64 (P : Int),.slice X.aA X.nA X.cA,.slice X.aG X.nG X.cG,.slice X.aN X.nN X.cN],.slice fa ts.length fc] W fun e w' => e = .returned (.bool yX) ∧ Below W.heap.size W w') := fun W hb => by
  have := q18 (P : Int) X fa ts.length fc ts W HMX.out (HXr.out.mem.up hb.out) (HLf.out.up hb.out) hti HSL.out
  rw [HAX.out] at this; exact this
 have HYX : Hid _ := hyX
 clear hyX
 obtain ⟨yY,hyY⟩ : ∃ y : Bool,(bg && (A.acc (P : Int) ts || B.acc (P : Int) ts)) = y := ⟨_,rfl⟩
 have HAY : Hid (Y.acc (P : Int) ts = yY) := by show _ = _; rw [← hyY,HBG.out]; exact HPY.out.acc ts HSL.out
 have HJY : Hid (∀ W,Hid (Below wr.heap.size wr W) → Calls Try.prog 12 #[.agg #[.int .i64 (P : Int),.slice Y.aA Y.nA Y.cA,.slice Y.aG Y.nG Y.cG,.slice Y.aN Y.nN Y.cN],.slice fa ts.length fc] W fun e w' => e = .returned (.bool yY) ∧ Below W.heap.size W w') := fun W hb => by
  have := q18 (P : Int) Y fa ts.length fc ts W HMY.out (HYr.out.mem.up hb.out) (HLf.out.up hb.out) hti HSL.out
  rw [HAY.out] at this; exact this
 have HYY : Hid _ := hyY
 clear hyY
 obtain ⟨yZ,hyZ⟩ : ∃ y : Bool,(bg && (A.acc (P : Int) ts != B.acc (P : Int) ts)) = y := ⟨_,rfl⟩
 have HAZ : Hid (Z.acc (P : Int) ts = yZ) := by show _ = _; rw [← hyZ,HBG.out]; exact HPZ.out.acc ts HSL.out
 have HJZ : Hid (∀ W,Hid (Below wr.heap.size wr W) → Calls Try.prog 12 #[.agg #[.int .i64 (P : Int),.slice Z.aA Z.nA Z.cA,.slice Z.aG Z.nG Z.cG,.slice Z.aN Z.nN Z.cN],.slice fa ts.length fc] W fun e w' => e = .returned (.bool yZ) ∧ Below W.heap.size W w') := fun W hb => by
  have := q18 (P : Int) Z fa ts.length fc ts W HMZ.out (HZr.out.mem.up hb.out) (HLf.out.up hb.out) hti HSL.out
  rw [HAZ.out] at this; exact this
 have HYZ : Hid _ := hyZ
 clear hyZ
 generalize A.acc (P : Int) ts = xa at *
 generalize B.acc (P : Int) ts = xb at *
 go_upto_region 16 with fail
 go_cut [20,21,22] (fun v1 v2 v3 wx => v1 = .bool xa ∧ v2 = .bool xb ∧ v3 = .bool bg ∧ Hid (Below wr.heap.size wr wx))
 case first => as_aux_lemma =>
  clear HJN HJX HJY HJZ HYN HYX HYY HYZ
  have kA : ∀ d os,Calls Try.prog 12 #[.agg #[.int .i64 (P : Int),.slice A.aA A.nA A.cA,.slice A.aG A.nG A.cG,.slice A.aN A.nN A.cN],.slice fa ts.length fc] (grow (redrawn wr d) os) fun e w'' => e = .returned (.bool xa) ∧ ∃ p : Regrown,w'' = grow (redrawn wr p.d) p.os := fun d os => (HJA.out _ (below_regrown wr d os)).mono fun e w'' ⟨h1,h2⟩ => ⟨h1,regrown_of_below (q7 (below_regrown wr d os) h2)⟩
  have kB : ∀ d os,Calls Try.prog 12 #[.agg #[.int .i64 (P : Int),.slice B.aA B.nA B.cA,.slice B.aG B.nG B.cG,.slice B.aN B.nN B.cN],.slice fa ts.length fc] (grow (redrawn wr d) os) fun e w'' => e = .returned (.bool xb) ∧ ∃ p : Regrown,w'' = grow (redrawn wr p.d) p.os := fun d os => (HJB.out _ (below_regrown wr d os)).mono fun e w'' ⟨h1,h2⟩ => ⟨h1,regrown_of_below (q7 (below_regrown wr d os) h2)⟩
  obtain ⟨b00,b01,b02,b03⟩ := HAr.out.box
  replace b00 := cell_regrown b00
  replace b01 := cell_regrown b01
  replace b02 := cell_regrown b02
  replace b03 := cell_regrown b03
  obtain ⟨b10,b11,b12,b13⟩ := HBr.out.box
  replace b10 := cell_regrown b10
  replace b11 := cell_regrown b11
  replace b12 := cell_regrown b12
  replace b13 := cell_regrown b13
  refine wp_region_quiet_below (by kernel_rfl) (by kernel_rfl) ?_
  repeat (go_big_quiet_step (first | (with_reducible exact kA _ _) | (with_reducible exact kB _ _)))
  refine wpQuiet_nil ?_
  intro _ hw'
  obtain ⟨⟨dq,osq⟩,hw''⟩ := hw'
  subst hw''
  have HI3 : Hid (Below wr.heap.size wr (grow (redrawn wr dq) osq)) := below_regrown wr dq osq
  generalize grow (redrawn wr dq) osq = wx at *
  clear kA kB b00 b01 b02 b03 b10 b11 b12 b13
  go_wp2
  go_meet
  exact ⟨rfl,rfl,rfl,HI3⟩
 case rest =>
 obtain ⟨rfl,rfl,rfl,HBs⟩ := hcut
 obtain ⟨ws,hws⟩ : ∃ ws,ws = wc := ⟨_,rfl⟩
 subst hws
 have HNs : Hid (VarB ws bN (P : Int) N) := HNr.out.up HBs.out
 have HMs : Hid (VarB ws bM (P : Int) M) := HMr.out.up HBs.out
 have HXs : Hid (VarB ws bX (P : Int) X) := HXr.out.up HBs.out
 have HYs : Hid (VarB ws bY (P : Int) Y) := HYr.out.up HBs.out
 have HZs : Hid (VarB ws bZ (P : Int) Z) := HZr.out.up HBs.out
 clear HJA HJB hgt HAr HBr
 go_upto_region 17 with fail
 go_cut [167] (fun v wx => v = .bool false ∧ Hid (Below wr.heap.size wr wx))
 case first => as_aux_lemma =>
  have hyN := HYN.out
  have hyX := HYX.out
  have hyY := HYY.out
  have hyZ := HYZ.out
  clear HYN HYX HYY HYZ HPN HPM HPX HPY HPZ HAN HAX HAY HAZ HBG
  have hcs : bg = false ∨ (bg = true ∧ xa = false ∧ xb = false) ∨ (bg = true ∧ xa = false ∧ xb = true) ∨ (bg = true ∧ xa = true ∧ xb = false) ∨ (bg = true ∧ xa = true ∧ xb = true) := by
   cases bg <;> cases xa <;> cases xb <;> simp
  rcases hcs with rfl | ⟨rfl,rfl,rfl⟩ | ⟨rfl,rfl,rfl⟩ | ⟨rfl,rfl,rfl⟩ | ⟨rfl,rfl,rfl⟩
  all_goals (
   first | (have q : false = yN := hyN; clear hyN; subst q) | (have q : true = yN := hyN; clear hyN; subst q)
   first | (have q : false = yX := hyX; clear hyX; subst q) | (have q : true = yX := hyX; clear hyX; subst q)
   first | (have q : false = yY := hyY; clear hyY; subst q) | (have q : true = yY := hyY; clear hyY; subst q)
   first | (have q : false = yZ := hyZ; clear hyZ; subst q) | (have q : true = yZ := hyZ; clear hyZ; subst q)
   have j := HJN.out ws HBs
   obtain ⟨c0,c1,c2,c3⟩ := HNs.out.box
   go_wp2_with fail
   refine j.mono ?_
   rintro e t0 ⟨rfl,hb⟩
   have HB0 : Hid (Below wr.heap.size wr t0) := q7 HBs.out hb
   have HX0 : Hid (VarB t0 bX (P : Int) X) := HXs.out.up hb
   have HY0 : Hid (VarB t0 bY (P : Int) Y) := HYs.out.up hb
   have HZ0 : Hid (VarB t0 bZ (P : Int) Z) := HZs.out.up hb
   clear j hb c0 c1 c2 c3 HBs HNs HMs HXs HYs HZs
   have j := HJX.out t0 HB0
   obtain ⟨c0,c1,c2,c3⟩ := HX0.out.box
   go_wp2_with fail
   refine j.mono ?_
   rintro e t1 ⟨rfl,hb⟩
   have HB1 : Hid (Below wr.heap.size wr t1) := q7 HB0.out hb
   have HY1 : Hid (VarB t1 bY (P : Int) Y) := HY0.out.up hb
   have HZ1 : Hid (VarB t1 bZ (P : Int) Z) := HZ0.out.up hb
   clear j hb c0 c1 c2 c3 HB0 HX0 HY0 HZ0
   have j := HJY.out t1 HB1
   obtain ⟨c0,c1,c2,c3⟩ := HY1.out.box
   go_wp2_with fail
   refine j.mono ?_
   rintro e t2 ⟨rfl,hb⟩
   have HB2 : Hid (Below wr.heap.size wr t2) := q7 HB1.out hb
   have HZ2 : Hid (VarB t2 bZ (P : Int) Z) := HZ1.out.up hb
   clear j hb c0 c1 c2 c3 HB1 HY1 HZ1
   have j := HJZ.out t2 HB2
   obtain ⟨c0,c1,c2,c3⟩ := HZ2.out.box
   go_wp2_with fail
   refine j.mono ?_
   rintro e t3 ⟨rfl,hb⟩
   have HB3 : Hid (Below wr.heap.size wr t3) := q7 HB2.out hb
   clear j hb c0 c1 c2 c3 HB2 HZ2
   go_wp2
   go_meet
   exact ⟨rfl,HB3⟩)
 case rest =>
 obtain ⟨rfl,HBt⟩ := hcut
 obtain ⟨w20,hwt⟩ : ∃ wt,wt = wc := ⟨_,rfl⟩
 subst hwt
 have HN20 : Hid (VarB w20 bN (P : Int) N) := HNr.out.up HBt.out
 have HM20 : Hid (VarB w20 bM (P : Int) M) := HMr.out.up HBt.out
 have HX20 : Hid (VarB w20 bX (P : Int) X) := HXr.out.up HBt.out
 have HY20 : Hid (VarB w20 bY (P : Int) Y) := HYr.out.up HBt.out
 have HZ20 : Hid (VarB w20 bZ (P : Int) Z) := HZr.out.up HBt.out
 have HLt : Hid (LtC w20 fa ts.length fc ts) := HLf.out.up HBt.out
 have HR20 : Hid (Below w2.heap.size w2 w20) := q7 HRr.out HBt.out
 have hnm : N.nA * M.nA ≤ 81 := Nat.mul_le_mul hnN hnM
 clear HJN HJX HJY HJZ HNr HMr HXr HYr HZr HNs HMs HXs HYs HZs HBs HRr HYX HYY HYZ HAX HAY HAZ
 have j20 := q2t 66 (by decide) (P : Int) X w20 HMX.out HX20.out.mem hp3 (by omega)
 obtain ⟨c0,c1,c2,c3⟩ := HX20.out.box
 go_wp2_with fail
 refine j20.mono ?_
 rintro e u20 ⟨E,rfl,HPE,HIE,HME,hnE,HO20⟩
 obtain ⟨w21,hw⟩ : ∃ x,x = u20.alloc (.cells #[.int .i64 (P : Int),.slice E.aA E.nA E.cA,.slice E.aG E.nG E.cG,.slice E.aN E.nN E.cN] 26 (0,0)) := ⟨_,rfl⟩
 have hba : Below u20.heap.size u20 w21 := by rw [hw]; exact q5 _ _
 have hbb := q7 HO20.out hba
 have HE21 : Hid (VarB w21 u20.heap.size (P : Int) E) := by show VarB _ _ _ _; rw [hw]; exact qG HIE.out rfl
 have HN21 : Hid (VarB w21 bN (P : Int) N) := HN20.out.up hbb
 have HM21 : Hid (VarB w21 bM (P : Int) M) := HM20.out.up hbb
 have HX21 : Hid (VarB w21 bX (P : Int) X) := HX20.out.up hbb
 have HY21 : Hid (VarB w21 bY (P : Int) Y) := HY20.out.up hbb
 have HZ21 : Hid (VarB w21 bZ (P : Int) Z) := HZ20.out.up hbb
 have HLf21 : Hid (LtC w21 fa ts.length fc ts) := HLt.out.up hbb
 have HR21 : Hid (Below w2.heap.size w2 w21) := q7 HR20.out hbb
 have HW21 : Hid _ := hw
 clear j20 c0 c1 c2 c3 hba hbb hw HIE HO20 HN20 HM20 HX20 HY20 HZ20 HR20
 have j21 := q6K 82 (by decide) (P : Int) N M w21 HMN.out HMM.out HN21.out.mem HM21.out.mem hp3 (by omega)
 obtain ⟨c0,c1,c2,c3⟩ := HN21.out.box
 obtain ⟨d0,d1,d2,d3⟩ := HM21.out.box
 go_wp2_with (rw [← HW21.out])
 generalize u20.heap.size = bE at *
 clear HW21
 refine j21.mono ?_
 rintro e u21 ⟨F,rfl,HPF,HIF,HMF,hnF,HO21⟩
 obtain ⟨w22,hw⟩ : ∃ x,x = u21.alloc (.cells #[.int .i64 (P : Int),.slice F.aA F.nA F.cA,.slice F.aG F.nG F.cG,.slice F.aN F.nN F.cN] 26 (0,0)) := ⟨_,rfl⟩
 have hba : Below u21.heap.size u21 w22 := by rw [hw]; exact q5 _ _
 have hbb := q7 HO21.out hba
 have HF22 : Hid (VarB w22 u21.heap.size (P : Int) F) := by show VarB _ _ _ _; rw [hw]; exact qG HIF.out rfl
 have HN22 : Hid (VarB w22 bN (P : Int) N) := HN21.out.up hbb
 have HM22 : Hid (VarB w22 bM (P : Int) M) := HM21.out.up hbb
 have HX22 : Hid (VarB w22 bX (P : Int) X) := HX21.out.up hbb
 have HY22 : Hid (VarB w22 bY (P : Int) Y) := HY21.out.up hbb
 have HZ22 : Hid (VarB w22 bZ (P : Int) Z) := HZ21.out.up hbb
 have HE22 : Hid (VarB w22 bE (P : Int) E) := HE21.out.up hbb
 have HLf22 : Hid (LtC w22 fa ts.length fc ts) := HLf21.out.up hbb
 have HR22 : Hid (Below w2.heap.size w2 w22) := q7 HR21.out hbb
 have HW22 : Hid _ := hw
 clear j21 c0 c1 c2 c3 d0 d1 d2 d3 hba hbb hw HIF HO21 HN21 HM21 HX21 HY21 HZ21 HE21 HR21
 have j22 := q2t 10 (by decide) (P : Int) N w22 HMN.out HN22.out.mem hp3 (by omega)
 obtain ⟨c0,c1,c2,c3⟩ := HN22.out.box
 go_wp2_with (rw [← HW22.out])
 generalize u21.heap.size = bF at *
 clear HW22
 refine j22.mono ?_
 rintro e u22 ⟨G,rfl,HPG,HIG,HMG,hnG,HO22⟩
 obtain ⟨w23,hw⟩ : ∃ x,x = u22.alloc (.cells #[.int .i64 (P : Int),.slice G.aA G.nA G.cA,.slice G.aG G.nG G.cG,.slice G.aN G.nN G.cN] 26 (0,0)) := ⟨_,rfl⟩
 have hba : Below u22.heap.size u22 w23 := by rw [hw]; exact q5 _ _
 have hbb := q7 HO22.out hba
 have HG23 : Hid (VarB w23 u22.heap.size (P : Int) G) := by show VarB _ _ _ _; rw [hw]; exact qG HIG.out rfl
 have HN23 : Hid (VarB w23 bN (P : Int) N) := HN22.out.up hbb
 have HM23 : Hid (VarB w23 bM (P : Int) M) := HM22.out.up hbb
 have HX23 : Hid (VarB w23 bX (P : Int) X) := HX22.out.up hbb
 have HY23 : Hid (VarB w23 bY (P : Int) Y) := HY22.out.up hbb
 have HZ23 : Hid (VarB w23 bZ (P : Int) Z) := HZ22.out.up hbb
 have HE23 : Hid (VarB w23 bE (P : Int) E) := HE22.out.up hbb
 have HF23 : Hid (VarB w23 bF (P : Int) F) := HF22.out.up hbb
 have HLf23 : Hid (LtC w23 fa ts.length fc ts) := HLf22.out.up hbb
 have HR23 : Hid (Below w2.heap.size w2 w23) := q7 HR22.out hbb
 have HW23 : Hid _ := hw
 clear j22 c0 c1 c2 c3 hba hbb hw HIG HO22 HN22 HM22 HX22 HY22 HZ22 HE22 HF22 HR22
 go_upto_region 22 with (rw [← HW23.out])
 generalize u22.heap.size = bG at *
 clear HW23
 go_cut [209] (fun v wx => v = .bool false ∧ Hid (Below w23.heap.size w23 wx))
 case first => as_aux_lemma =>
  have hse : E.bs = F.bs ∧ E.gs = F.gs ∧ E.N = F.N := (HPX.out.flip HPE.out).eq (PutKb.two (fun a b => a || b) HPN.out HPM.out HPF.out) (fun u hu hne => by show (!(A.acc (P : Int) u && B.acc (P : Int) u)) = (!A.acc (P : Int) u || !B.acc (P : Int) u); cases A.acc (P : Int) u <;> cases B.acc (P : Int) u <;> rfl)
  have js := q7X (P : Int) E F w23 HE23.out.mem HF23.out.mem
  rw [decide_eq_true hse] at js
  have hga : G.acc (P : Int) ts = (bg && xa) := by
   have h1 : G.acc (P : Int) ts = (!ts.isEmpty && !N.acc (P : Int) ts) := HPG.out.acc ts HSL.out
   rw [h1,← HBG.out,HAN.out,← HYN.out]
   cases bg <;> cases xa <;> rfl
  have HJG : Hid (∀ W,Hid (Below w23.heap.size w23 W) → Calls Try.prog 12 #[.agg #[.int .i64 (P : Int),.slice G.aA G.nA G.cA,.slice G.aG G.nG G.cG,.slice G.aN G.nN G.cN],.slice fa ts.length fc] W fun e w' => e = .returned (.bool (bg && xa)) ∧ Below W.heap.size W w') := fun W hb => by
   have := q18 (P : Int) G fa ts.length fc ts W HMG.out (HG23.out.mem.up hb.out) (HLf23.out.up hb.out) hti HSL.out
   rw [hga] at this
   exact this
  obtain ⟨c0,c1,c2,c3⟩ := HE23.out.box
  obtain ⟨d0,d1,d2,d3⟩ := HF23.out.box
  clear hse hga HPN HPM HPX HPY HPZ HPE HPF HPG HAN HBG HYN HSL HLf23
  go_wp2_with fail
  refine js.mono ?_
  rintro e t1 ⟨rfl,hb⟩
  have HT1 : Hid (Below w23.heap.size w23 t1) := hb
  have HG1 : Hid (VarB t1 bG (P : Int) G) := HG23.out.up hb
  have j2 := HJG.out t1 hb
  clear js hb c0 c1 c2 c3 d0 d1 d2 d3 HJG HE23 HF23 HG23 HN23 HM23 HX23 HY23 HZ23
  obtain ⟨c0,c1,c2,c3⟩ := HG1.out.box
  obtain ⟨yy,hyy⟩ : ∃ y : Bool,(bg && xa) = y := ⟨_,rfl⟩
  rw [hyy] at j2
  have hcs : bg = false ∨ (bg = true ∧ xa = false) ∨ (bg = true ∧ xa = true) := by cases bg <;> cases xa <;> simp
  rcases hcs with rfl | ⟨rfl,rfl⟩ | ⟨rfl,rfl⟩
  all_goals
   first | (have q : false = yy := hyy; clear hyy; subst q) | (have q : true = yy := hyy; clear hyy; subst q)
   go_wp2_with fail
   refine j2.mono ?_
   rintro e t2 ⟨rfl,hb⟩
   have HT2 : Hid (Below w23.heap.size w23 t2) := q7 HT1.out hb
   clear j2 hb c0 c1 c2 c3
   go_wp2
   go_meet
   exact ⟨rfl,HT2⟩
 case rest =>
 obtain ⟨rfl,HBu⟩ := hcut
 obtain ⟨w24,hwt⟩ : ∃ wt,wt = wc := ⟨_,rfl⟩
 subst hwt
 have HN24 : Hid (VarB w24 bN (P : Int) N) := HN23.out.up HBu.out
 have HX24 : Hid (VarB w24 bX (P : Int) X) := HX23.out.up HBu.out
 have HY24 : Hid (VarB w24 bY (P : Int) Y) := HY23.out.up HBu.out
 have HZ24 : Hid (VarB w24 bZ (P : Int) Z) := HZ23.out.up HBu.out
 have HR24 : Hid (Below w2.heap.size w2 w24) := q7 HR23.out HBu.out
 clear HBu HR23 HN23 HM23 HX23 HY23 HZ23 HE23 HF23 HG23 HPE HPF HPG HME HMF HMG HPM HAN HYN HBG HSL HLf HLf23 hti
 obtain ⟨a0,a1,a2,a3⟩ := HN24.out.box
 obtain ⟨b0,b1,b2,b3⟩ := HX24.out.box
 obtain ⟨c0,c1,c2,c3⟩ := HY24.out.box
 obtain ⟨d0,d1,d2,d3⟩ := HZ24.out.box
 obtain ⟨w25,hw⟩ : ∃ x,x = w24.alloc (.cells #[.int .i64 (P : Int),.slice N.aA N.nA N.cA,.slice N.aG N.nG N.cG,.slice N.aN N.nN N.cN,.int .i64 (P : Int),.slice X.aA X.nA X.cA,.slice X.aG X.nG X.cG,.slice X.aN X.nN X.cN,.int .i64 (P : Int),.slice Y.aA Y.nA Y.cA,.slice Y.aG Y.nG Y.cG,.slice Y.aN Y.nN Y.cN,.int .i64 (P : Int),.slice Z.aA Z.nA Z.cA,.slice Z.aG Z.nG Z.cG,.slice Z.aN Z.nN Z.cN] 26) := ⟨_,rfl⟩
 have HFR : Hid (∀ k,k < 4 → ∃ V,FrB w25 w24.heap.size (P : Int) k V) := by
  show ∀ k,k < 4 → ∃ V,FrB w25 w24.heap.size (P : Int) k V
  rw [hw]
  exact q95 HN24.out.mem HX24.out.mem HY24.out.mem HZ24.out.mem HPN.out HPX.out HPY.out HPZ.out
 have HR25 : Hid (Below w2.heap.size w2 w25) := q7 HR24.out (by rw [hw]; exact q5 _ _)
 have HW25 : Hid _ := hw
 clear hw HN24 HX24 HY24 HZ24 HPN HPX HPY HPZ HR24
 go_upto_block 2 with (rw [← HW25.out])
 generalize w24.heap.size = gv at *
 clear HW25 a0 a1 a2 a3 b0 b1 b2 b3 c0 c1 c2 c3 d0 d1 d2 d3
 as_aux_lemma =>
  go_wp2
  go_loopw [216] (fun j wr => ∃ (k : Nat),k ≤ 4 ∧ j = .int .i64 (k : Int) ∧ Hid (Below w25.heap.size w25 wr)) (fun j _ => 4 - (intOf j).toNat)
  case atStart => exact ⟨0,Nat.zero_le _,rfl,Below.refl _ _⟩
  case round =>
   obtain ⟨k,hk,rfl,HB⟩ := hrel
   by_cases hlt : k < 4
   ·obtain ⟨V,hF⟩ := HFR.out k hlt
    have HF : Hid (FrB wr gv (P : Int) k V) := hF.up HB.out
    have ix := fun w' => qac (P := Try.prog) (T := 37) Try.underlying37 q6z (g := gv) (cap := 4) (n := 4) k w' hlt
    obtain ⟨x,hx⟩ : ∃ x,x = wr.alloc (.cells #[.int .i64 (P : Int),.slice V.aA V.nA V.cA,.slice V.aG V.nG V.cG,.slice V.aN V.nN V.cN] 26 (0,0)) := ⟨_,rfl⟩
    have HVx : Hid (VarB x wr.heap.size (P : Int) V) := by show VarB _ _ _ _; rw [hx]; exact qG HF.out.mem rfl
    have HBx : Hid (Below w25.heap.size w25 x) := q7 HB.out (by rw [hx]; exact q5 _ _)
    have HX : Hid _ := hx
    have js := q9V (P : Int) V x HF.out.can HVx.out.mem
    obtain ⟨e0,e1,e2,e3⟩ := HVx.out.box
    have f0 := HF.out.c0
    have f1 := HF.out.c1
    have f2 := HF.out.c2
    have f3 := HF.out.c3
    clear hx hF HB
    go_wp2_with (rw [← HX.out])
    generalize wr.heap.size = gb at *
    refine js.mono ?_
    rintro e t1 ⟨rfl,hb⟩
    have HV1 : Hid (VarB t1 gb (P : Int) V) := HVx.out.up hb
    have HB1 : Hid (Below w25.heap.size w25 t1) := q7 HBx.out hb
    have hpos : 0 < V.nA := by have := HF.out.can.may.s1; have := HF.out.mem.bo.hlen; omega
    obtain ⟨ib,cb⟩ : (∀ w' : World,(Instr.indexAt 22 (.slice V.aA V.nA V.cA) (.int .i64 0)).run Try.prog w' = .ok (.pointer (some (adOf V.aA 0))) w') ∧ t1.cell? (adOf V.aA 0) = some (.bool false) := by
     obtain ⟨ib,cb⟩ := HV1.out.mem.bo.at 0 hpos
     rw [← qd,HF.out.zero] at cb
     exact ⟨fun w' => ib V.nA w' hpos,cb⟩
    generalize adOf V.aA 0 = ad at *
    obtain ⟨y1,y2,y3⟩ := ad
    clear js hb e0 e1 e2 e3 f0 f1 f2 f3 HX HBx HVx HF ix
    obtain ⟨e0,e1,e2,e3⟩ := HV1.out.box
    go_wp2
    go_roundw
    case rel => exact ⟨k + 1,by omega,by go_num,HB1⟩
    case measure => simp [intOf] <;> omega
   ·have HE : Hid (Q (.returned (.bool true)) wr) := HQ.out wr (q7 HR25.out HB.out)
    clear HQ
    go_wp2
    exact HE.out
end Go.Proofs.Ytcnkgokfjafgkaa
namespace Go.Proofs.Ytcnkgokfjafgkaa
open Go.RowKit Go.Maps
theorem q4b (p : Int) (aA : Option Addr) (nA cA : Nat) (aG : Option Addr) (nG cG : Nat) (aN : Option Addr) (nN cN : Nat) (bs : List Bool) (gs : List Int) (N : List Gd) (q : Int) (bA : Option Addr) (mA dA : Nat) (bG : Option Addr) (mG dG : Nat) (bN : Option Addr) (mN dN : Nat) (cs : List Bool) (hs : List Int) (M : List Gd) (d : Option Addr) (m c : Nat) (zs : List Int) (w : World) (hB : BoSl w aA nA cA bs) (hG : ZSl w aG nG cG gs) (hN : NdSl w aN nN cN N) (hok : ∀ z ∈ gs,I64 z) (kB : BoSl w bA mA dA cs) (kG : ZSl w bG mG dG hs) (kN : NdSl w bN mN dN M) (kok : ∀ z ∈ hs,I64 z) (hL : IntSl Try.prog 27 .u8 w d m c zs) (hz : ∀ z ∈ zs,0 ≤ z ∧ z < 256) (_ : c ≤ 140737488351232) :
  Calls Try.prog 3 #[.agg #[.int .i64 p,.slice aA nA cA,.slice aG nG cG,.slice aN nN cN],.agg #[.int .i64 q,.slice bA mA dA,.slice bG mG dG,.slice bN mN dN],.slice d m c] w fun e w' => e = .returned (.bool true) ∧ Below w.heap.size w w' :=
 q6h p q ⟨aA,nA,cA,aG,nG,cG,aN,nN,cN,bs,gs,N⟩ ⟨bA,mA,dA,bG,mG,dG,bN,mN,dN,cs,hs,M⟩ d m c zs w ⟨hB,hN,hG⟩ hok ⟨kB,kN,kG⟩ kok hL hz
end Go.Proofs.Ytcnkgokfjafgkaa
