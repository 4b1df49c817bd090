/- Texts of the proof, put together: what it uses. -/
import Derived.Deep.AppendLies
import Derived.Lib.QuietBelow
import Derived.BigQuiet
import Derived.Test.YtjpggahiddhanaaY00
import Derived.Test.YtjpggahiddhanaaY04
import Derived.Test.YtjpggahiddhanaaY07
set_option maxRecDepth 100000
set_option maxHeartbeats 16000000
namespace Go.Proofs.Ytjpggahiddhanaa
open Go.RowKit Go.Maps Go.Sort
def nzV (l : List Nat) : List Value := (l.map Int.ofNat).map (Value.int .i64)
theorem q1a {w : World} {ops : Array Oper} {rest : List Oper} {o : Oper} {a : Act} {Q : Exit → Act → World → Prop} (hgd : o.guard = none) (s x : Operand)
  (ho : o.op = .call { callee := .builtin .append,args := #[s,x],argTypes := #[23,23] }) (base : Nat)
  (v : Value) (n : Nat) (zs : List Nat) (hs : a.eval s = v) (hown : w.ownsRow base 3 1 v n (nzV zs)) (g' z : Nat) (hx : a.eval x = .slice (some ⟨g',0,none⟩) 1 1) (hc : w.cell? ⟨g',0,none⟩ = some (.int .i64 (z : Int)))
  (hn : n + 1 ≤ 2000000) (hbase : base ≤ w.heap.size)
  (h : ∀ g c w',w'.ownsRow base 3 1 (.slice (some ⟨g,0,none⟩) (n + 1) c) (n + 1) (nzV (zs ++ [z])) → w.grownBy w' v.ownBlock → (v.ownBlock = some g ∨ g = w.heap.size) → wpList Try.prog ops Q rest (a.put o.dst (.slice (some ⟨g,0,none⟩) (n + 1) c)) w') : wpList Try.prog ops Q (o :: rest) a w := by
 have hI : (Try.prog.info? 3).map (fun i => (i.zero,i.size,i.bytes)) = some (some (.int .i64 0),1,8) := by kernel_rfl
 obtain ⟨i,hi,hz0,hz1,hz2⟩ := info_parts hI
 refine wpList_append_lies w hgd s x 23 ho base 3 i _ 1 8 Try.underlying23 hi hz0 hz1 hz2 rfl (by decide) v n _ hs hown ⟨g',0,none⟩ 1 1 [.int .i64 (z : Int)] hx rfl ?_ (fun u hu => by simp at hu; subst hu; rfl) (by decide) (by unfold maxLen; omega) (by omega) hbase _ rfl ?_
 ·intro j u hj
  match j with
  | 0 => simp at hj; rw [← hj,q9]; exact hc
  | j + 1 => simp at hj
 ·intro g c w' h1 h2 h3 _
  exact h g c w' (by rw [nzV,List.map_append,List.map_append]; exact h1) h2 h3
theorem q3O {w : World} {base e size n g : Nat} {v : Value} {xs : List Value} {o : Obj} (h : w.ownsRow base e size v n xs) (hg : w.heap[g]? = some o) (ho : ∀ cs,o ≠ .cells cs e (0,0)) : v.ownBlock ≠ some g := by
 rcases h.2 with ⟨rfl,_⟩ | ⟨g',cap,cur,rfl,_,hc,_⟩
 ·intro e; cases e
 ·intro e
  injection e with e
  dsimp only at e
  subst e
  rw [hc] at hg
  injection hg with hg
  exact ho _ hg.symm
theorem q1J {w w5 : World} {o : Obj} {v : Value} (hg : (w.alloc o).grownBy w5 v.ownBlock) {k : Nat} (hk : k < w.heap.size) (hne : v.ownBlock ≠ some k) : w5.heap[k]? = w.heap[k]? :=
 (hg.block k (by simp; omega) (fun e => hne e.symm)).trans ((q7 w o).block k hk)
theorem shl8W {n : Nat} (h : n ≤ 8) : IntKind.i64.wrap (2 ^ n) = ((2 ^ n : Nat) : Int) := by
 have HP : (2 : Nat) ^ n ≤ 256 := Nat.pow_le_pow_right (n := 2) (by decide) h
 rw [IntKind.wrap_i64,show ((2 : Int) ^ n) = ((2 ^ n : Nat) : Int) by simp]
 generalize 2 ^ n = y at HP ⊢
 omega
structure TwI (w1 wr : World) (v f : Value) (st lv : List Nat) : Prop where
 bel : Below w1.heap.size w1 wr
 o1 : wr.ownsRow w1.heap.size 3 1 v st.length (nzV st)
 o2 : wr.ownsRow w1.heap.size 3 1 f lv.length (nzV lv)
 ne : ∀ k,v.ownBlock = some k → f.ownBlock ≠ some k
theorem TwI.sym {w1 wr : World} {v f : Value} {st lv : List Nat} (h : TwI w1 wr v f st lv) : TwI w1 wr f v lv st := ⟨h.bel,h.o2,h.o1,fun k h1 h2 => h.ne k h2 h1⟩
theorem TwI.up {w1 wr w' : World} {v f : Value} {st lv : List Nat} (h : TwI w1 wr v f st lv) (hb : Below wr.heap.size wr w') : TwI w1 w' v f st lv := ⟨q5 h.bel hb,qF h.o1 hb,qF h.o2 hb,h.ne⟩
theorem TwI.put {w1 wr w5 : World} {v f : Value} {st lv : List Nat} (h : TwI w1 wr v f st lv) {o : Obj} {g c x : Nat} (ho : w5.ownsRow w1.heap.size 3 1 (.slice (some ⟨g,0,none⟩) (st.length + 1) c) (st.length + 1) (nzV (st ++ [x]))) (hg : (wr.alloc o).grownBy w5 v.ownBlock) (hl : v.ownBlock = some g ∨ g = (wr.alloc o).heap.size) : TwI w1 w5 (.slice (some ⟨g,0,none⟩) (st.length + 1) c) f (st ++ [x]) lv := by
 have hb := q5 h.bel (q7 wr o)
 have hge := qw h.o1
 refine ⟨hb.grown hg hb.size (fun k e => hge k e),by rw [List.length_append,List.length_singleton]; exact ho,q1Q (World.ownsRow.alloc h.o2 o) (fun k hk => ?_),fun k hk hk2 => ?_⟩
 ·have hlt := (h.o2.lt k hk).2
  exact hg.block k (by simp; omega) (fun e => h.ne k e.symm hk)
 ·have e : g = k := by injection hk
  subst e
  rcases hl with hl | hl
  ·exact h.ne g hl hk2
  ·have := (h.o2.lt g hk2).2
   simp at hl; omega
theorem TwI.no {w1 wr : World} {v f : Value} {st lv : List Nat} (h : TwI w1 wr v f st lv) {g : Nat} {ms : List Bool} (hg : BoRow wr g ms) : v.ownBlock ≠ some g ∧ f.ownBlock ≠ some g :=
 ⟨q3O h.o1 hg (fun cs e => by injection e with _ e _; exact absurd e (by decide)),q3O h.o2 hg (fun cs e => by injection e with _ e _; exact absurd e (by decide))⟩
theorem TwI.set {w1 wr : World} {v f : Value} {st lv : List Nat} (h : TwI w1 wr v f st lv) {g s : Nat} {ms : List Bool} (hg : BoRow wr g ms) (hge : w1.heap.size ≤ g) (y : Bool) : TwI w1 (wr.setCell ⟨g,s,none⟩ (.bool y)) v f st lv := by
 obtain ⟨n1,n2⟩ := h.no hg
 have ne : ∀ k,k ≠ g → (wr.setCell ⟨g,s,none⟩ (.bool y)).heap[k]? = wr.heap[k]? := fun k hk => Below.heap_setCell _ _ _ _ (by dsimp only; exact hk)
 exact ⟨h.bel.setCell (by dsimp only; omega) _,q1Q h.o1 (fun k hk => ne k (fun e => n1 (e ▸ hk))),q1Q h.o2 (fun k hk => ne k (fun e => n2 (e ▸ hk))),h.ne⟩
structure RcW (w1 wr : World) (g n : Nat) (v f : Value) (Q : List (Nat × List Nat)) : Prop where
 tw : TwI w1 wr v f (Q.map (·.1)) (Q.map (·.2.length))
 met : MeS wr g n (Q.map (·.1))
 ge : w1.heap.size ≤ g
theorem RcW.up {w1 wr w' : World} {g n : Nat} {v f : Value} {Q : List (Nat × List Nat)} (h : RcW w1 wr g n v f Q) (hb : Below wr.heap.size wr w') : RcW w1 w' g n v f Q := ⟨h.tw.up hb,h.met.up hb,h.ge⟩
def RcdR (p : Int) (n : Nat) (N : List Gd) (gs : List Int) (q : Nat) (w : World) (e : Ending) (w' : World) : Prop :=
 Below w.heap.size w w' ∧ ∃ (Q : List (Nat × List Nat)) (a : Option Addr) (c : Nat) (a' : Option Addr) (c' : Nat),e = .returned (.tuple #[.slice a Q.length c,.slice a' Q.length c']) ∧ Hid (BfS n (2 ^ p.toNat) (rwA p N gs) q Q.length 0 Q) ∧ Hid (ZSl w' a Q.length c ((Q.map (·.1)).map Int.ofNat)) ∧ Hid (ZSl w' a' Q.length c' ((Q.map (·.2.length)).map Int.ofNat))
theorem qQ (p : Int) (aA : Option Addr) (nA cA : Nat) (aG : Option Addr) (nG cG : Nat) (aN : Option Addr) (nN cN : Nat) (N : List Gd) (gs : List Int) (q : Nat) (w : World) (hM : MayG p nA N gs) (hN : NdSl w aN nN cN N) (hG : ZSl w aG nG cG gs) (hq : q < nA) :
  Calls Try.prog 62 #[.agg #[.int .i64 p,.slice aA nA cA,.slice aG nG cG,.slice aN nN cN],.int .i64 (q : Int)] w (RcdR p nA N gs q w) := by
 obtain ⟨Z,eZ⟩ : ∃ Z,Z = RcdR p nA N gs q w := ⟨_,rfl⟩
 have HZ : Hid (∀ e w',RcdR p nA N gs q w e w' → Z e w') := fun e w' h => by rw [eZ]; exact h
 rw [← eZ]
 clear eZ
 have hp0 := hM.p0
 have hp8 := hM.p8
 have hs2 := hM.s2
 obtain ⟨P,rfl⟩ := Int.eq_ofNat_of_zero_le hp0
 have hP8 : P ≤ 8 := by omega
 have hsh := shl8W hP8
 obtain ⟨K,hK⟩ : ∃ K,2 ^ P = K := ⟨_,rfl⟩
 have hK2 : 2 ^ (P : Int).toNat = K := by rw [Int.toNat_natCast]; exact hK
 have hK256 : K ≤ 256 := by rw [← hK]; exact hM.k256
 rw [hK] at hsh
 have HK2 : Hid _ := hK2
 clear hK
 have hmin : min P 64 = P := by omega
 have hmk := fun w => q1W nA nA (nA : Int) (nA : Int) rfl rfl (Nat.le_refl _) (by omega) w
 obtain ⟨C,hC⟩ : ∃ C,C = ((zB nA).map Value.bool).toArray := ⟨_,rfl⟩
 rw [← hC] at hmk
 obtain ⟨w1,hw1⟩ : ∃ w1,w1 = w.alloc (.cells #[.int .i64 (P : Int),.slice aA nA cA,.slice aG nG cG,.slice aN nN cN] 26 (0,0)) := ⟨_,rfl⟩
 have hs1 : w1.heap.size = w.heap.size + 1 := by rw [hw1]; simp
 have HV1 : Hid (AuB w1 w.heap.size (P : Int) aA nA cA aG nG cG aN nN cN) := by show AuB _ _ _ _ _ _ _ _ _ _ _ _; rw [hw1]; exact qe _ _ _ _ _ _ _ _ _ _ _
 have hb1 : Below w.heap.size w w1 := by rw [hw1]; exact q7 _ _
 obtain ⟨w3,hw3⟩ : ∃ w3,w3 = (w1.alloc (.cells #[.int .i64 (q : Int)] 3)).alloc (.cells #[.int .i64 0] 3) := ⟨_,rfl⟩
 have hs3 : w3.heap.size = w1.heap.size + 1 + 1 := by rw [hw3]; simp
 have hb13 : Below w1.heap.size w1 w3 := by rw [hw3]; exact q5 (q7 _ _) (q7 _ _)
 have HV3 : Hid (AuB w3 w.heap.size (P : Int) aA nA cA aG nG cG aN nN cN) := HV1.out.up hb13
 obtain ⟨w4,hw4⟩ : ∃ w4,w4 = w3.alloc (.cells C 4) := ⟨_,rfl⟩
 have hb34 : Below w3.heap.size w3 w4 := by rw [hw4]; exact q7 _ _
 have hm4 : MeS w4 w3.heap.size nA [] := by
  have := q4V w3 nA
  rw [← hC] at this
  rw [hw4]
  exact this
 have ht3 : TwI w1 w3 (.slice (some ⟨w1.heap.size,0,none⟩) 1 1) (.slice (some ⟨w1.heap.size + 1,0,none⟩) 1 1) [q] [0] := by
  have b1 := (MapKept.heap_alloc w1 (.cells #[.int .i64 (q : Int)] 3)).1
  have b2 := (MapKept.heap_alloc (w1.alloc (.cells #[.int .i64 (q : Int)] 3)) (.cells #[.int .i64 0] 3)).1
  have hb : Below (w1.alloc (.cells #[.int .i64 (q : Int)] 3)).heap.size (w1.alloc (.cells #[.int .i64 (q : Int)] 3)) w3 := by rw [hw3]; exact q7 _ _
  refine ⟨hb13,⟨rfl,.inr ⟨w1.heap.size,1,_,rfl,Nat.le_refl _,(hb.block _ (by simp)).trans b1,Nat.le_refl _,by decide,rfl,rfl⟩⟩,⟨rfl,.inr ⟨w1.heap.size + 1,1,_,rfl,by omega,(by rw [hw3]; simpa using b2),Nat.le_refl _,by decide,rfl,rfl⟩⟩,fun k h1 h2 => ?_⟩
  injection h1 with h1
  injection h2 with h2
  dsimp only at h1 h2
  omega
 have ht4 := ht3.up hb34
 obtain ⟨cm,fm⟩ := hm4.at (a := q) hq
 have HR0 : Hid (RcW w1 (w4.setCell ⟨w3.heap.size,q,none⟩ (.bool true)) w3.heap.size nA (.slice (some ⟨w1.heap.size,0,none⟩) 1 1) (.slice (some ⟨w1.heap.size + 1,0,none⟩) 1 1) [(q,[])]) := by
  have hm5 := hm4
  obtain ⟨ms,h1,_⟩ := hm4
  exact ⟨ht4.set h1 (by omega) true,hm5.put hq,by omega⟩
 have HF0 : Hid (BfS nA K (rwA (P : Int) N gs) q 0 0 [(q,[])]) := q4e hq
 have hix0 : ∀ w',(Instr.indexAt 22 (.slice (some ⟨w3.heap.size,0,none⟩) nA nA) (.int .i64 (q : Int))).run Try.prog w' = .ok (.pointer (some ⟨w3.heap.size,q,none⟩)) w' := fun w' => q1T _ nA q hq w'
 have HS1 : Hid _ := hs1
 have HW1 : Hid _ := hw1
 have HW3 : Hid _ := hw3
 have HW4 : Hid _ := hw4
 have HS3 : Hid _ := hs3
 have HB1 : Hid _ := hb1
 have HM : Hid (MayG (P : Int) nA N gs) := hM
 have HRW : Hid (RowsP nA K (rwA (P : Int) N gs)) := by
  show RowsP nA K (rowsG N gs (2 ^ (P : Int).toNat))
  have h := hM.rows (2 ^ (P : Int).toNat)
  generalize rowsG N gs (2 ^ (P : Int).toNat) = RR at h ⊢
  rw [HK2.out] at h
  exact h
 have HN : Hid _ := hN
 have HG : Hid _ := hG
 clear hs1 hw1 hw3 hw4 hb1 hs3 hb13 hb34 hM hN hG ht3 ht4 hm4 hC
 obtain ⟨c0,c1,c2,c3⟩ := HV3.out
 go_enter Try.func62,Try.ntmps62
 go_wp2_with (first | rw [← HW1.out] | rw [← HW3.out] | rw [← HW4.out])
 clear hix0 hmk cm fm c0 c1 c2 c3 HW1 HW3 HW4
 generalize w4.setCell ⟨w3.heap.size,q,none⟩ (.bool true) = w5 at *
 generalize w3.heap.size = gs8 at *
 go_loopw [6,7,9] (fun v f i wr => ∃ (j : Nat) (Q : List (Nat × List Nat)),i = .int .i64 (j : Int) ∧ j ≤ Q.length ∧ Hid (BfS nA K (rwA (P : Int) N gs) q j 0 Q) ∧ Hid (RcW w1 wr gs8 nA v f Q)) (fun _ _ i _ => nA - (intOf i).toNat)
 case atStart => exact ⟨0,[(q,[])],rfl,Nat.zero_le _,HF0,HR0⟩
 case round =>
  obtain ⟨j,Q,rfl,hjQ,HF,HR⟩ := hrel
  clear HF0 HR0
  have hQl := HF.out.few
  obtain ⟨va,vc,rfl⟩ := qs HR.out.tw.o1
  obtain ⟨fa,fc,rfl⟩ := qs HR.out.tw.o2
  simp only [List.length_map] at *
  by_cases hlt : j < Q.length
  ·have e1 : decide ((j : Int) < (Q.length : Int)) = true := decide_eq_true (by omega)
   go_wp2
   go_loopw [6,7,10] (fun v f i wy => ∃ (k : Nat) (Q2 : List (Nat × List Nat)),k ≤ K ∧ i = .int .i64 (k : Int) ∧ j < Q2.length ∧ Hid (BfS nA K (rwA (P : Int) N gs) q j k Q2) ∧ Hid (RcW w1 wy gs8 nA v f Q2)) (fun _ _ i _ => K - (intOf i).toNat)
   case atStart => exact ⟨0,Q,Nat.zero_le _,rfl,hlt,HF,HR⟩
   case round =>
    obtain ⟨k,Q2,hk,rfl,hjQ2,HF2,HR2⟩ := hrel
    clear HF HR hlt hjQ hQl e1
    have hQ2l := HF2.out.few
    obtain ⟨ua,uc,hv1,hU,hUb,_⟩ := qm HR2.out.tw.o1 Try.underlying23 q8
    obtain ⟨ta,tc,hv2,hT,hTb,_⟩ := qm HR2.out.tw.o2 Try.underlying23 q8
    subst hv1
    subst hv2
    simp only [List.length_map] at *
    have HBW : Hid (Below w.heap.size w wr) := q5 HB1.out HR2.out.tw.bel
    obtain ⟨c0,c1,c2,c3⟩ := HV1.out.up HR2.out.tw.bel
    by_cases hkK : k < K
    ·have e2 : decide ((k : Int) < (K : Int)) = true := decide_eq_true (by omega)
     obtain ⟨x,hx⟩ : ∃ x,Q2[j]? = some x := ⟨_,List.getElem?_eq_getElem hjQ2⟩
     have hxn := HF2.out.lt x (List.mem_of_getElem? hx)
     have ix1 := fun w' => hU.idx Q2.length j w' hjQ2 (Nat.le_refl _)
     have ce1 := hU.cell j hjQ2
     rw [qt (by rw [List.length_map]; exact hjQ2),show (Q2.map (·.1)).getD j 0 = x.1 by rw [List.getD_eq_getElem?_getD,List.getElem?_map,hx]; rfl] at ce1
     have cS : ∀ d os,Calls Try.prog 63 #[.agg #[.int .i64 (P : Int),.slice aA nA cA,.slice aG nG cG,.slice aN nN cN],.int .i64 (x.1 : Int),.int .u8 (k : Int)] (grow (redrawn wr d) os) fun e w'' => e = .returned (.int .i64 ((trP (rwA (P : Int) N gs) x.1 k : Nat) : Int)) ∧ ∃ p : Regrown,w'' = grow (redrawn wr p.d) p.os := fun d os => by
      have hb := below_regrown wr d os
      have hbb := q5 HBW.out hb
      refine (q1d (P : Int) aA nA cA aG nG cG aN nN cN N gs x.1 k _ HM.out (HN.out.up hbb) (HG.out.up hbb) hxn (by rw [HK2.out]; exact hkK)).mono ?_
      rintro e w'' ⟨rfl,h2⟩
      exact ⟨rfl,regrown_of_below (q5 hb h2)⟩
     have htn : trP (rwA (P : Int) N gs) x.1 k < nA := (HM.out.rows _).lt _ _ hxn (by rw [HK2.out]; exact hkK)
     have hwk : IntKind.u8.wrap (k : Int) = (k : Int) := by rw [IntKind.wrap_u8]; omega
     have HX : Hid _ := hx
     have HRG : Hid (∀ d os,RcW w1 (grow (redrawn wr d) os) gs8 nA (.slice ua Q2.length uc) (.slice ta Q2.length tc) Q2) := fun d os => HR2.out.up (below_regrown wr d os)
     clear hU hUb hT hTb hx
     generalize adOf ua j = ad at *
     obtain ⟨ag,ao,az⟩ := ad
     have k0 := cell_regrown c0
     have k1 := cell_regrown c1
     have k2 := cell_regrown c2
     have k3 := cell_regrown c3
     have k4 := cell_regrown ce1
     go_wp2_with fail
     refine wp_region_quiet_below (by kernel_rfl) (by kernel_rfl) ?_
     repeat (go_big_quiet_step (exact cS _ _))
     refine wpQuiet_nil ?_
     intro _ hw'
     obtain ⟨⟨dq,osq⟩,hw''⟩ := hw'
     subst hw''
     have HR3 : Hid _ := HRG.out dq osq
     generalize grow (redrawn wr dq) osq = wx at *
     clear cS k0 k1 k2 k3 k4 HRG HR2 ix1 ce1 c0 c1 c2 c3 HBW
     have HSK : Hid (trP (rwA (P : Int) N gs) x.1 k ∈ Q2.map (·.1) → BfS nA K (rwA (P : Int) N gs) q j (k + 1) Q2) := fun h => HF2.out.skip hK256 HX.out h
     have HPU : Hid (trP (rwA (P : Int) N gs) x.1 k ∉ Q2.map (·.1) → BfS nA K (rwA (P : Int) N gs) q j (k + 1) (Q2 ++ [(trP (rwA (P : Int) N gs) x.1 k,x.2 ++ [k])])) := fun h => HF2.out.push HRW.out hK256 HX.out hkK h
     have hxl := HF2.out.len j x HX.out
     have HXL : Hid ((Q2.map (·.2.length)).getD j 0 = x.2.length) := by show _ = _; rw [List.getD_eq_getElem?_getD,List.getElem?_map,HX.out]; rfl
     generalize trP (rwA (P : Int) N gs) x.1 k = sn at *
     obtain ⟨cm,fm⟩ := HR3.out.met.at htn
     have hixm := fun w' => q1T gs8 nA sn htn w'
     clear HF2 hwk
     by_cases hm : sn ∈ Q2.map (·.1)
     ·rw [decide_eq_true hm] at cm
      have HFS : Hid _ := HSK.out hm
      clear HSK HPU hm
      go_wp2
      go_roundw
      case rel => exact ⟨k + 1,Q2,by omega,by go_num,hjQ2,HFS,HR3⟩
      case measure => simp [intOf] <;> omega
     ·rw [decide_eq_false hm] at cm
      have HFP : Hid _ := HPU.out hm
      clear HSK HPU hm
      obtain ⟨ms,hms⟩ : ∃ ms,BoRow wx gs8 ms := by obtain ⟨ms,h1,_⟩ := HR3.out.met; exact ⟨ms,h1⟩
      have HT6 : Hid (TwI w1 (wx.setCell ⟨gs8,sn,none⟩ (.bool true)) (.slice ua Q2.length uc) (.slice ta Q2.length tc) (Q2.map (·.1)) (Q2.map (·.2.length))) := HR3.out.tw.set hms HR3.out.ge true
      have HM6 : Hid (MeS (wx.setCell ⟨gs8,sn,none⟩ (.bool true)) gs8 nA (Q2.map (·.1) ++ [sn])) := HR3.out.met.put htn
      have HGE : Hid _ := HR3.out.ge
      clear HR3 hms ms
      obtain ⟨w6,hw6⟩ : ∃ w6,w6 = wx.setCell ⟨gs8,sn,none⟩ (.bool true) := ⟨_,rfl⟩
      rw [← hw6] at HT6 HM6
      have HW6 : Hid _ := hw6
      clear hw6
      have HO6 : Hid ((w6.alloc (.cells #[.int .i64 (sn : Int)] 3)).ownsRow w1.heap.size 3 1 (.slice ua Q2.length uc) Q2.length (nzV (Q2.map (·.1)))) := by
       have := World.ownsRow.alloc HT6.out.o1 (.cells #[.int .i64 (sn : Int)] 3)
       rw [List.length_map] at this
       exact this
      have hs6 : w6.heap.size = wx.heap.size := by rw [HW6.out]; simp
      have hc6 : (w6.alloc (.cells #[.int .i64 (sn : Int)] 3)).cell? ⟨wx.heap.size,0,none⟩ = some (.int .i64 (sn : Int)) := by rw [← hs6]; exact q6 (MapKept.heap_alloc w6 (.cells #[.int .i64 (sn : Int)] 3)).1 0
      have hb6 : w1.heap.size ≤ (w6.alloc (.cells #[.int .i64 (sn : Int)] 3)).heap.size := by have := HT6.out.bel.size; simp; omega
      have hQ26 : Q2.length + 1 ≤ 2000000 := by omega
      go_wp2_with (first | rw [← HW6.out] | (at_builtin; refine q1a rfl _ _ rfl w1.heap.size (.slice ua Q2.length uc) Q2.length (Q2.map (·.1)) rfl HO6.out wx.heap.size sn rfl hc6 hQ26 hb6 ?_))
      intro g7 c7 w7 ho7 hg7 hl7
      have HT7 : Hid (TwI w1 w7 (.slice (some ⟨g7,0,none⟩) (Q2.length + 1) c7) (.slice ta Q2.length tc) (Q2.map (·.1) ++ [sn]) (Q2.map (·.2.length))) := by
       have := HT6.out.put (x := sn) (by rw [List.length_map]; exact ho7) hg7 (hl7.imp_right fun h => by simp; omega)
       rw [List.length_map] at this
       exact this
      have HM7 : Hid (MeS w7 gs8 nA (Q2.map (·.1) ++ [sn])) := HM6.out.far (q1J hg7 HM6.out.lt (by obtain ⟨ms,h1,_⟩ := HM6.out; exact (HT6.out.no h1).1))
      clear ho7 hg7 hl7 HO6 hc6 hb6 HT6 HM6 HW6 cm fm hixm hs6
      obtain ⟨ta2,tc2,hv2,hT,_,_⟩ := qm HT7.out.o2 Try.underlying23 q8
      injection hv2 with e1 e2 e3
      clear e2
      subst e1
      subst e3
      rw [List.length_map] at hT
      have ix2 := fun w' => hT.idx Q2.length j w' hjQ2 (Nat.le_refl _)
      have ce2 := hT.cell j hjQ2
      rw [qt (by rw [List.length_map]; exact hjQ2),HXL.out] at ce2
      obtain ⟨y,hy⟩ : ∃ y : Nat,y = x.2.length + 1 := ⟨_,rfl⟩
      have hwy : IntKind.i64.wrap ((x.2.length : Int) + 1) = (y : Int) := by rw [IntKind.wrap_i64]; omega
      have HO8 : Hid ((w7.alloc (.cells #[.int .i64 (y : Int)] 3)).ownsRow w1.heap.size 3 1 (.slice ta Q2.length tc) Q2.length (nzV (Q2.map (·.2.length)))) := by
       have := World.ownsRow.alloc HT7.out.o2 (.cells #[.int .i64 (y : Int)] 3)
       rw [List.length_map] at this
       exact this
      have hc8 : (w7.alloc (.cells #[.int .i64 (y : Int)] 3)).cell? ⟨w7.heap.size,0,none⟩ = some (.int .i64 (y : Int)) := q6 (MapKept.heap_alloc w7 (.cells #[.int .i64 (y : Int)] 3)).1 0
      have hb8 : w1.heap.size ≤ (w7.alloc (.cells #[.int .i64 (y : Int)] 3)).heap.size := by have := HT7.out.bel.size; simp; omega
      have HYE : Hid (∀ w9 v9,TwI w1 w9 v9 (.slice (some ⟨g7,0,none⟩) (Q2.length + 1) c7) (Q2.map (·.2.length) ++ [y]) (Q2.map (·.1) ++ [sn]) → MeS w9 gs8 nA (Q2.map (·.1) ++ [sn]) → RcW w1 w9 gs8 nA (.slice (some ⟨g7,0,none⟩) (Q2.length + 1) c7) v9 (Q2 ++ [(sn,x.2 ++ [k])])) := fun w9 v9 h1 h2 => by
       refine ⟨?_,by rw [List.map_append]; exact h2,HGE.out⟩
       rw [List.map_append,List.map_append]
       have h3 := h1.sym
       rw [hy] at h3
       simpa using h3
      generalize x.2.length = xl at *
      generalize adOf ta j = ad at *
      obtain ⟨ag,ao,az⟩ := ad
      clear hT hy
      go_wp2_with (at_builtin; refine q1a rfl _ _ rfl w1.heap.size (.slice ta Q2.length tc) Q2.length (Q2.map (·.2.length)) rfl HO8.out w7.heap.size y rfl hc8 hQ26 hb8 ?_)
      intro g9 c9 w9 ho9 hg9 hl9
      have HR9 : Hid _ := HYE.out w9 (.slice (some ⟨g9,0,none⟩) (Q2.length + 1) c9) (by
       have := HT7.out.sym.put (x := y) (by rw [List.length_map]; exact ho9) hg9 (hl9.imp_right fun h => by simp; omega)
       rw [List.length_map] at this
       exact this) (HM7.out.far (q1J hg9 HM7.out.lt (by obtain ⟨ms,h1,_⟩ := HM7.out; exact (HT7.out.no h1).2)))
      clear ho9 hg9 hl9 HYE HO8 hc8 hb8 ce2 ix2 HT7 HM7 hwy
      go_wp2
      go_roundw
      case rel => exact ⟨k + 1,Q2 ++ [(sn,x.2 ++ [k])],by omega,by go_num,by simp; omega,HFP,by simpa using HR9⟩
      case measure => simp [intOf] <;> omega
    ·obtain rfl : k = K := by omega
     have HF3 : Hid _ := HF2.out.next
     clear HF2
     go_wp2
     go_roundw
     case rel => exact ⟨j + 1,Q2,by go_num,by omega,HF3,HR2⟩
     case measure => simp [intOf] <;> omega
  ·obtain rfl : j = Q.length := by omega
   obtain ⟨va2,vc2,hv1,hU,_,_⟩ := qm HR.out.tw.o1 Try.underlying23 q8
   obtain ⟨fa2,fc2,hv2,hT,_,_⟩ := qm HR.out.tw.o2 Try.underlying23 q8
   injection hv1 with e1 e2 e3
   clear e2
   subst e1
   subst e3
   injection hv2 with e1 e2 e3
   clear e2
   subst e1
   subst e3
   rw [List.length_map] at hU hT
   have HE : Hid _ := HZ.out (.returned (.tuple #[.slice va Q.length vc,.slice fa Q.length fc])) wr ⟨q5 HB1.out HR.out.tw.bel,Q,va,vc,fa,fc,rfl,by rw [HK2.out]; exact HF,hU,hT⟩
   clear HZ HF HR hU hT
   go_wp2
   exact HE.out
theorem q4O (bs : List Bool) (Q : List (Nat × List Nat)) : cntW bs Q ≤ Q.length := List.length_filter_le _ _
theorem q4g {bs : List Bool} {Q : List (Nat × List Nat)} {i : Nat} {x : Nat × List Nat} (h : Q[i]? = some x) : cntW bs (Q.take (i + 1)) = cntW bs (Q.take i) + if bs.getD x.1 false = true then 1 else 0 := by
 rw [List.take_add_one,h,cntW,List.filter_append,List.length_append,cntW]
 congr 1
 simp only [Option.toList_some,List.filter_cons,List.filter_nil]
 split <;> rfl
def VrdR (p : Int) (bs : List Bool) (N : List Gd) (gs : List Int) (q : Nat) (w : World) (e : Ending) (w' : World) : Prop :=
 Below w.heap.size w w' ∧ ∃ v : Nat,e = .returned (.int .u8 (v : Int)) ∧ Hid (TolW (2 ^ p.toNat) (rwA p N gs) bs q v)
theorem qC (p : Int) (aA : Option Addr) (nA cA : Nat) (aG : Option Addr) (nG cG : Nat) (aN : Option Addr) (nN cN : Nat) (bs : List Bool) (N : List Gd) (gs : List Int) (q : Nat) (w : World) (hM : MayG p nA N gs) (hB : BoSl w aA nA cA bs) (hN : NdSl w aN nN cN N) (hG : ZSl w aG nG cG gs) (hq : q < nA) :
  Calls Try.prog 43 #[.agg #[.int .i64 p,.slice aA nA cA,.slice aG nG cG,.slice aN nN cN],.int .i64 (q : Int)] w (VrdR p bs N gs q w) := by
 obtain ⟨Z,eZ⟩ : ∃ Z,Z = VrdR p bs N gs q w := ⟨_,rfl⟩
 have HZ : Hid (∀ w' (v : Nat),Below w.heap.size w w' → TolW (2 ^ p.toNat) (rwA p N gs) bs q v → Z (.returned (.int .u8 (v : Int))) w') := fun w' v h1 h2 => by rw [eZ]; exact ⟨h1,v,rfl,h2⟩
 rw [← eZ]
 clear eZ
 obtain ⟨w1,hw1⟩ : ∃ w1,w1 = w.alloc (.cells #[.int .i64 p,.slice aA nA cA,.slice aG nG cG,.slice aN nN cN] 26 (0,0)) := ⟨_,rfl⟩
 have HV1 : Hid (AuB w1 w.heap.size p aA nA cA aG nG cG aN nN cN) := by show AuB _ _ _ _ _ _ _ _ _ _ _ _; rw [hw1]; exact qe _ _ _ _ _ _ _ _ _ _ _
 have hb1 : Below w.heap.size w w1 := by rw [hw1]; exact q7 _ _
 have j1 := qQ p aA nA cA aG nG cG aN nN cN N gs q w1 hM (hN.up hb1) (hG.up hb1) hq
 have HB1 : Hid _ := hb1
 have HBo : Hid _ := hB
 have hbl := hB.hlen
 have HQ : Hid _ := hq
 have hs2 := hM.s2
 have HW1 : Hid _ := hw1
 clear hw1 hb1 hM hN hG hB
 obtain ⟨c0,c1,c2,c3⟩ := HV1.out
 go_enter Try.func43,Try.ntmps43
 go_wp2_with (rw [← HW1.out])
 refine j1.mono ?_
 rintro e w2 ⟨hb2,Q,a,c,a',c',rfl,HF,HL,_⟩
 have HV2 : Hid (AuB w2 w.heap.size p aA nA cA aG nG cG aN nN cN) := HV1.out.up hb2
 have HB2 : Hid (Below w.heap.size w w2) := q5 HB1.out hb2
 have HQN : Hid (Q.length ≤ nA) := HF.out.few
 have HQL : Hid (∀ x ∈ Q,x.1 < nA) := HF.out.lt
 have HTD : Hid (TolW (2 ^ p.toNat) (rwA p N gs) bs q (if cntW bs Q = Q.length then 3 else if cntW bs Q = 0 then 2 else if bs.getD q false = true then 1 else 0)) := HF.out.told (Nat.le_refl _)
 clear j1 hb2 c0 c1 c2 c3 HF HV1 HB1 HW1
 go_wp2
 go_loopw [7,8] (fun v i wr => ∃ (k : Nat),k ≤ Q.length ∧ v = .int .i64 ((cntW bs (Q.take k) : Nat) : Int) ∧ i = .int .i64 (k : Int) ∧ Hid (Below w2.heap.size w2 wr)) (fun _ i _ => Q.length - (intOf i).toNat)
 case atStart => exact ⟨0,Nat.zero_le _,rfl,rfl,Below.refl _ _⟩
 case round =>
  obtain ⟨k,hk,rfl,rfl,HB⟩ := hrel
  have hqn := HQN.out
  have hck : cntW bs (Q.take k) ≤ k := Nat.le_trans (q4O _ _) (by rw [List.length_take]; omega)
  obtain ⟨c0,c1,c2,c3⟩ := HV2.out.up HB.out
  by_cases hlt : k < Q.length
  ·obtain ⟨x,hx⟩ : ∃ x,Q[k]? = some x := ⟨_,List.getElem?_eq_getElem hlt⟩
   have hxn := HQL.out x (List.mem_of_getElem? hx)
   have hU := HL.out.up HB.out
   have ix1 := fun w' => hU.idx Q.length k w' hlt (Nat.le_refl _)
   have ce1 := hU.cell k hlt
   rw [qt (by rw [List.length_map]; exact hlt),show (Q.map (·.1)).getD k 0 = x.1 by rw [List.getD_eq_getElem?_getD,List.getElem?_map,hx]; rfl] at ce1
   obtain ⟨ib,cb⟩ : (∀ w' : World,(Instr.indexAt 22 (.slice aA nA cA) (.int .i64 (x.1 : Int))).run Try.prog w' = .ok (.pointer (some (adOf aA x.1))) w') ∧ wr.cell? (adOf aA x.1) = some (.bool (bs.getD x.1 false)) := by
    obtain ⟨ib,cb⟩ := ((HBo.out.up HB2.out).up HB.out).at x.1 hxn
    rw [← q1w] at cb
    exact ⟨fun w' => ib nA w' hxn,cb⟩
   have HNX : Hid _ := q4g (bs := bs) hx
   generalize bs.getD x.1 false = bb at *
   generalize x.1 = xs at *
   generalize adOf a k = ad at *
   obtain ⟨ag,ao,az⟩ := ad
   generalize adOf aA xs = ad2 at *
   obtain ⟨bg,bo,bz⟩ := ad2
   have e1 : decide ((k : Int) < (Q.length : Int)) = true := decide_eq_true (by omega)
   have HBD : Hid (∀ nq,Below w2.heap.size w2 (wr.drewN nq)) := fun nq => q5 HB.out (qA ⟨_,rfl⟩)
   generalize cntW bs (Q.take k) = cc at *
   clear hU hx
   cases bb with
   | true =>
    rw [if_pos rfl] at HNX
    go_wp2
    go_quiet (fail)
    have HB5 : Hid _ := HBD.out nq
    generalize wr.drewN nq = wy at *
    clear HBD ix1 ce1 ib cb c0 c1 c2 c3 HB
    go_wp2
    go_roundw
    case rel => exact ⟨k + 1,by omega,by rw [HNX.out]; go_num,by go_num,HB5⟩
    case measure => simp [intOf] <;> omega
   | false =>
    have HNY : Hid (cntW bs (Q.take (k + 1)) = cc) := by show _ = _; have := HNX.out; simpa using this
    clear HNX
    go_wp2
    go_quiet (fail)
    have HB5 : Hid _ := HBD.out nq
    generalize wr.drewN nq = wy at *
    clear HBD ix1 ce1 ib cb c0 c1 c2 c3 HB
    go_wp2
    go_roundw
    case rel => exact ⟨k + 1,by omega,by rw [HNY.out],by go_num,HB5⟩
    case measure => simp [intOf] <;> omega
  ·obtain rfl : k = Q.length := by omega
   rw [List.take_length] at hck ⊢
   have HBz : Hid (Below w.heap.size w wr) := q5 HB2.out HB.out
   have hqn2 := HQ.out
   obtain ⟨ib,cb⟩ : (∀ w' : World,(Instr.indexAt 22 (.slice aA nA cA) (.int .i64 (q : Int))).run Try.prog w' = .ok (.pointer (some (adOf aA q))) w') ∧ wr.cell? (adOf aA q) = some (.bool (bs.getD q false)) := by
    obtain ⟨ib,cb⟩ := ((HBo.out.up HB2.out).up HB.out).at q hqn2
    rw [← q1w] at cb
    exact ⟨fun w' => ib nA w' hqn2,cb⟩
   have HE : Hid (Z (.returned (.int .u8 ((if cntW bs Q = Q.length then 3 else if cntW bs Q = 0 then 2 else if bs.getD q false = true then 1 else 0 : Nat) : Int))) wr) := HZ.out wr _ HBz.out HTD.out
   clear HTD HZ
   generalize bs.getD q false = bb at *
   generalize cntW bs Q = cc at *
   generalize Q.length = qn at *
   generalize adOf aA q = ad2 at *
   obtain ⟨bg,bo,bz⟩ := ad2
   have e1 : decide ((qn : Int) < (qn : Int)) = false := by simp
   by_cases h1 : cc = qn
   ·have e2 : ((cc : Int) == (qn : Int)) = true := by simp [h1]
    rw [if_pos h1] at HE
    clear HB
    go_wp2
    exact HE.out
   ·have e2 : ((cc : Int) == (qn : Int)) = false := by simp; omega
    rw [if_neg h1] at HE
    clear HB
    by_cases h2 : cc = 0
    ·have e3 : ((cc : Int) == 0) = true := by simp [h2]
     rw [if_pos h2] at HE
     go_wp2
     exact HE.out
    ·have e3 : ((cc : Int) == 0) = false := by simp; omega
     rw [if_neg h2] at HE
     cases bb with
     | true =>
      rw [if_pos rfl] at HE
      go_wp2
      exact HE.out
     | false =>
      rw [if_neg (by decide)] at HE
      go_wp2
      exact HE.out
def OfdR (p : Int) (bs : List Bool) (N : List Gd) (gs : List Int) (q : Nat) (w : World) (e : Ending) (w' : World) : Prop :=
 Below w.heap.size w w' ∧ ((∃ d : Nat,e = .returned (.tuple #[.int .i64 (d : Int),.int .i64 0]) ∧ Hid (OffW (2 ^ p.toNat) (rwA p N gs) bs q d)) ∨ (e = .returned (.tuple #[.int .i64 0,.int .i64 6]) ∧ Hid (NoW (2 ^ p.toNat) (rwA p N gs) bs q)))
theorem q37 (p : Int) (aA : Option Addr) (nA cA : Nat) (aG : Option Addr) (nG cG : Nat) (aN : Option Addr) (nN cN : Nat) (bs : List Bool) (N : List Gd) (gs : List Int) (q : Nat) (w : World) (hM : MayG p nA N gs) (hB : BoSl w aA nA cA bs) (hN : NdSl w aN nN cN N) (hG : ZSl w aG nG cG gs) (hq : q < nA) :
  Calls Try.prog 45 #[.agg #[.int .i64 p,.slice aA nA cA,.slice aG nG cG,.slice aN nN cN],.int .i64 (q : Int)] w (OfdR p bs N gs q w) := by
 obtain ⟨Z,eZ⟩ : ∃ Z,Z = OfdR p bs N gs q w := ⟨_,rfl⟩
 have HZ : Hid (∀ w' (d : Nat),Below w.heap.size w w' → OffW (2 ^ p.toNat) (rwA p N gs) bs q d → Z (.returned (.tuple #[.int .i64 (d : Int),.int .i64 0])) w') := fun w' d h1 h2 => by rw [eZ]; exact ⟨h1,.inl ⟨d,rfl,h2⟩⟩
 have HY : Hid (∀ w',Below w.heap.size w w' → NoW (2 ^ p.toNat) (rwA p N gs) bs q → Z (.returned (.tuple #[.int .i64 0,.int .i64 6])) w') := fun w' h1 h2 => by rw [eZ]; exact ⟨h1,.inr ⟨rfl,h2⟩⟩
 rw [← eZ]
 clear eZ
 obtain ⟨w1,hw1⟩ : ∃ w1,w1 = w.alloc (.cells #[.int .i64 p,.slice aA nA cA,.slice aG nG cG,.slice aN nN cN] 26 (0,0)) := ⟨_,rfl⟩
 have HV1 : Hid (AuB w1 w.heap.size p aA nA cA aG nG cG aN nN cN) := by show AuB _ _ _ _ _ _ _ _ _ _ _ _; rw [hw1]; exact qe _ _ _ _ _ _ _ _ _ _ _
 have hb1 : Below w.heap.size w w1 := by rw [hw1]; exact q7 _ _
 have j1 := qQ p aA nA cA aG nG cG aN nN cN N gs q w1 hM (hN.up hb1) (hG.up hb1) hq
 have HB1 : Hid _ := hb1
 have HBo : Hid _ := hB
 have hbl := hB.hlen
 have HQ : Hid _ := hq
 have hs2 := hM.s2
 have HW1 : Hid _ := hw1
 clear hw1 hb1 hM hN hG hB
 obtain ⟨c0,c1,c2,c3⟩ := HV1.out
 go_enter Try.func45,Try.ntmps45
 go_wp2_with (rw [← HW1.out])
 refine j1.mono ?_
 rintro e w2 ⟨hb2,Q,a,c,a',c',rfl,HF,HL,HFA⟩
 have HV2 : Hid (AuB w2 w.heap.size p aA nA cA aG nG cG aN nN cN) := HV1.out.up hb2
 have HB2 : Hid (Below w.heap.size w w2) := q5 HB1.out hb2
 have HQN : Hid (Q.length ≤ nA) := HF.out.few
 have HQL : Hid (∀ x ∈ Q,x.1 < nA) := HF.out.lt
 clear j1 hb2 c0 c1 c2 c3 HV1 HB1 HW1
 go_wp2
 go_loopw [8] (fun i wr => ∃ (k : Nat),k ≤ Q.length ∧ i = .int .i64 (k : Int) ∧ Hid (∀ (i' : Nat) (y : Nat × List Nat),i' < k → Q[i']? = some y → bs.getD y.1 false = false) ∧ Hid (Below w2.heap.size w2 wr)) (fun i _ => Q.length - (intOf i).toNat)
 case atStart => exact ⟨0,Nat.zero_le _,rfl,fun i' y h => absurd h (by omega),Below.refl _ _⟩
 case round =>
  obtain ⟨k,hk,rfl,HNO,HB⟩ := hrel
  have hqn := HQN.out
  obtain ⟨c0,c1,c2,c3⟩ := HV2.out.up HB.out
  by_cases hlt : k < Q.length
  ·obtain ⟨x,hx⟩ : ∃ x,Q[k]? = some x := ⟨_,List.getElem?_eq_getElem hlt⟩
   have hxn := HQL.out x (List.mem_of_getElem? hx)
   have hU := HL.out.up HB.out
   have ix1 := fun w' => hU.idx Q.length k w' hlt (Nat.le_refl _)
   have ce1 := hU.cell k hlt
   rw [qt (by rw [List.length_map]; exact hlt),show (Q.map (·.1)).getD k 0 = x.1 by rw [List.getD_eq_getElem?_getD,List.getElem?_map,hx]; rfl] at ce1
   obtain ⟨ib,cb⟩ : (∀ w' : World,(Instr.indexAt 22 (.slice aA nA cA) (.int .i64 (x.1 : Int))).run Try.prog w' = .ok (.pointer (some (adOf aA x.1))) w') ∧ wr.cell? (adOf aA x.1) = some (.bool (bs.getD x.1 false)) := by
    obtain ⟨ib,cb⟩ := ((HBo.out.up HB2.out).up HB.out).at x.1 hxn
    rw [← q1w] at cb
    exact ⟨fun w' => ib nA w' hxn,cb⟩
   have HNX : Hid (bs.getD x.1 false = false → ∀ (i' : Nat) (y : Nat × List Nat),i' < k + 1 → Q[i']? = some y → bs.getD y.1 false = false) := fun hb i' y hi hy => by
    by_cases e : i' = k
    ·subst e; rw [hx] at hy; injection hy with hy; subst hy; exact hb
    ·exact HNO.out i' y (by omega) hy
   have HOF : Hid (bs.getD x.1 false = true → OffW (2 ^ p.toNat) (rwA p N gs) bs q x.2.length) := fun hb => HF.out.off (Nat.le_refl _) hx hb HNO.out
   have HFC : Hid (∀ nq,∃ ad,(∀ w' : World,(Instr.indexAt 23 (.slice a' Q.length c') (.int .i64 (k : Int))).run Try.prog w' = .ok (.pointer (some ad)) w') ∧ (wr.drewN nq).cell? ad = some (.int .i64 (x.2.length : Int))) := fun nq => by
    have hT := HFA.out.up (q5 HB.out (qA ⟨nq,rfl⟩))
    have ce := hT.cell k hlt
    rw [qt (by rw [List.length_map]; exact hlt),show (Q.map (·.2.length)).getD k 0 = x.2.length by rw [List.getD_eq_getElem?_getD,List.getElem?_map,hx]; rfl] at ce
    exact ⟨_,fun w' => hT.idx Q.length k w' hlt (Nat.le_refl _),ce⟩
   generalize x.2.length = xl at *
   generalize bs.getD x.1 false = bb at *
   generalize x.1 = xs at *
   generalize adOf a k = ad at *
   obtain ⟨ag,ao,az⟩ := ad
   generalize adOf aA xs = ad2 at *
   obtain ⟨bg,bo,bz⟩ := ad2
   have e1 : decide ((k : Int) < (Q.length : Int)) = true := decide_eq_true (by omega)
   have HBD : Hid (∀ nq,Below w2.heap.size w2 (wr.drewN nq)) := fun nq => q5 HB.out (qA ⟨_,rfl⟩)
   clear hU hx
   cases bb with
   | true =>
    have HOF2 : Hid (OffW (2 ^ p.toNat) (rwA p N gs) bs q xl) := HOF.out rfl
    clear HNX HOF
    go_wp2
    go_quiet (fail)
    have HE : Hid _ := HZ.out _ xl (q5 HB2.out (HBD.out nq)) HOF2.out
    obtain ⟨⟨fg,fo,fz⟩,ixf,cef⟩ := HFC.out nq
    generalize wr.drewN nq = wy at *
    clear HBD ix1 ce1 ib cb c0 c1 c2 c3 HB HZ HY HFC
    go_wp2
    exact HE.out
   | false =>
    have HNY : Hid (∀ (i' : Nat) (y : Nat × List Nat),i' < k + 1 → Q[i']? = some y → bs.getD y.1 false = false) := HNX.out rfl
    clear HNX HOF HFC
    go_wp2
    go_quiet (fail)
    have HB5 : Hid _ := HBD.out nq
    generalize wr.drewN nq = wy at *
    clear HBD ix1 ce1 ib cb c0 c1 c2 c3 HB
    go_wp2
    go_roundw
    case rel => exact ⟨k + 1,by omega,by go_num,HNY,HB5⟩
    case measure => simp [intOf] <;> omega
  ·obtain rfl : k = Q.length := by omega
   have HE : Hid _ := HY.out wr (q5 HB2.out HB.out) (HF.out.no (Nat.le_refl _) fun i' y hy => HNO.out i' y (List.getElem?_eq_some_iff.1 hy).1 hy)
   clear HZ HY HNO HB
   generalize Q.length = qn at *
   have e1 : decide ((qn : Int) < (qn : Int)) = false := by simp
   go_wp2
   exact HE.out
structure RwB (w : World) (g : Nat) (p : Int) (aA : Option Addr) (nA cA : Nat) (aG : Option Addr) (nG cG : Nat) (aN : Option Addr) (nN cN : Nat) (d : Option Addr) (m c : Nat) : Prop where
 blk : w.heap[g]? = some (.cells #[.int .i64 p,.slice aA nA cA,.slice aG nG cG,.slice aN nN cN,.slice d m c] 43 (0,0))
theorem RwB.up {w w' : World} {g : Nat} {p : Int} {aA : Option Addr} {nA cA : Nat} {aG : Option Addr} {nG cG : Nat} {aN : Option Addr} {nN cN : Nat} {d : Option Addr} {m c : Nat} (h : RwB w g p aA nA cA aG nG cG aN nN cN d m c) (hb : Below w.heap.size w w') : RwB w' g p aA nA cA aG nG cG aN nN cN d m c :=
 ⟨(hb.block g (Array.getElem?_eq_some_iff.1 h.blk).1).trans h.blk⟩
theorem RwB.lt {w : World} {g : Nat} {p : Int} {aA : Option Addr} {nA cA : Nat} {aG : Option Addr} {nG cG : Nat} {aN : Option Addr} {nN cN : Nat} {d : Option Addr} {m c : Nat} (h : RwB w g p aA nA cA aG nG cG aN nN cN d m c) : g < w.heap.size := (Array.getElem?_eq_some_iff.1 h.blk).1
theorem RwB.c {w : World} {g : Nat} {p : Int} {aA : Option Addr} {nA cA : Nat} {aG : Option Addr} {nG cG : Nat} {aN : Option Addr} {nN cN : Nat} {d : Option Addr} {m c : Nat} (h : RwB w g p aA nA cA aG nG cG aN nN cN d m c) :
  w.cell? ⟨g,0,none⟩ = some (.int .i64 p) ∧ w.cell? ⟨g,1,none⟩ = some (.slice aA nA cA) ∧ w.cell? ⟨g,2,none⟩ = some (.slice aG nG cG) ∧ w.cell? ⟨g,3,none⟩ = some (.slice aN nN cN) ∧ w.cell? ⟨g,4,none⟩ = some (.slice d m c) :=
 ⟨q6 h.blk 0,q6 h.blk 1,q6 h.blk 2,q6 h.blk 3,q6 h.blk 4⟩
def RnwR (p : Int) (aA : Option Addr) (nA cA : Nat) (aG : Option Addr) (nG cG : Nat) (aN : Option Addr) (nN cN : Nat) (N : List Gd) (gs : List Int) (w : World) (e : Ending) (w' : World) : Prop :=
 Below w.heap.size w w' ∧ ((¬ MayG p nA N gs ∧ e = .returned (.tuple #[.pointer none,.int .i64 12])) ∨ (MayG p nA N gs ∧ ∃ g,e = .returned (.tuple #[.pointer (some ⟨g,0,none⟩),.int .i64 0]) ∧ w.heap.size ≤ g ∧ Hid (RwB w' g p aA nA cA aG nG cG aN nN cN none 0 0)))
theorem q1e (p : Int) (aA : Option Addr) (nA cA : Nat) (aG : Option Addr) (nG cG : Nat) (aN : Option Addr) (nN cN : Nat) (N : List Gd) (gs : List Int) (w : World) (hN : NdSl w aN nN cN N) (hG : ZSl w aG nG cG gs) (hA : nA ≤ 1000000) (hNN : nN ≤ 1000000) :
  Calls Try.prog 12 #[.agg #[.int .i64 p,.slice aA nA cA,.slice aG nG cG,.slice aN nN cN]] w (RnwR p aA nA cA aG nG cG aN nN cN N gs w) := by
 obtain ⟨Z,eZ⟩ : ∃ Z,Z = RnwR p aA nA cA aG nG cG aN nN cN N gs w := ⟨_,rfl⟩
 have HZ : Hid (∀ e w',RnwR p aA nA cA aG nG cG aN nN cN N gs w e w' → Z e w') := fun e w' h => by rw [eZ]; exact h
 rw [← eZ]
 clear eZ
 obtain ⟨w1,hw1⟩ : ∃ w1,w1 = w.alloc (.cells #[.int .i64 p,.slice aA nA cA,.slice aG nG cG,.slice aN nN cN] 26 (0,0)) := ⟨_,rfl⟩
 have HV1 : Hid (AuB w1 w.heap.size p aA nA cA aG nG cG aN nN cN) := by show AuB _ _ _ _ _ _ _ _ _ _ _ _; rw [hw1]; exact qe _ _ _ _ _ _ _ _ _ _ _
 have hb1 : Below w.heap.size w w1 := by rw [hw1]; exact q7 _ _
 have j1 := q2O p aA nA cA aG nG cG aN nN cN N gs w1 (hN.up hb1) (hG.up hb1) hA hNN
 have HB1 : Hid _ := hb1
 have HW1 : Hid _ := hw1
 clear hw1 hb1 hN hG
 obtain ⟨c0,c1,c2,c3⟩ := HV1.out
 go_enter Try.func12,Try.ntmps12
 go_wp2_with (rw [← HW1.out])
 refine j1.mono ?_
 rintro e w2 ⟨hb2,v,rfl,⟨rfl,hM⟩ | ⟨rfl,hM⟩⟩
 ·obtain ⟨w3,hw3⟩ : ∃ w3,w3 = w2.alloc (.cells #[.int .i64 p,.slice aA nA cA,.slice aG nG cG,.slice aN nN cN,.slice none 0 0] 43 (0,0)) := ⟨_,rfl⟩
  have hb3 : Below w2.heap.size w2 w3 := by rw [hw3]; exact q7 _ _
  have hR : RwB w3 w2.heap.size p aA nA cA aG nG cG aN nN cN none 0 0 := ⟨by rw [hw3]; exact (MapKept.heap_alloc w2 _).1⟩
  have hsz := (q5 HB1.out hb2).size
  have HE : Hid _ := HZ.out (.returned (.tuple #[.pointer (some ⟨w2.heap.size,0,none⟩),.int .i64 0])) w3 ⟨q5 (q5 HB1.out hb2) hb3,.inr ⟨hM,w2.heap.size,rfl,hsz,hR⟩⟩
  clear c0 c1 c2 c3 j1 HZ
  obtain ⟨c0,c1,c2,c3⟩ := HV1.out.up hb2
  have HW3 : Hid _ := hw3
  clear hw3 hb2 hb3 hR hM hsz HV1 HB1
  go_wp2_with (rw [← HW3.out])
  exact HE.out
 ·have HE : Hid _ := HZ.out (.returned (.tuple #[.pointer none,.int .i64 12])) w2 ⟨q5 HB1.out hb2,.inl ⟨hM,rfl⟩⟩
  clear c0 c1 c2 c3 j1 HZ hb2 hM HV1 HB1
  go_wp2
  exact HE.out
theorem qx (p : Int) (aA : Option Addr) (nA cA : Nat) (aG : Option Addr) (nG cG : Nat) (aN : Option Addr) (nN cN : Nat) (N : List Gd) (gs : List Int) (g : Nat) (d : Option Addr) (m c : Nat) (ts : List Nat) (w : World) (hM : MayG p nA N gs) (hN : NdSl w aN nN cN N) (hG : ZSl w aG nG cG gs) (hW : RwB w g p aA nA cA aG nG cG aN nN cN d m c) (hL : LtC w d m c ts) (ht : ∀ x ∈ ts,x < 2 ^ p.toNat) :
  Calls Try.prog 44 #[.pointer (some ⟨g,0,none⟩)] w fun e w' => e = .returned (.int .i64 ((runP (rwA p N gs) 0 ts : Nat) : Int)) ∧ Below w.heap.size w w' := by
 obtain ⟨Z,eZ⟩ : ∃ Z : Ending → World → Prop,Z = fun e w' => e = .returned (.int .i64 ((runP (rwA p N gs) 0 ts : Nat) : Int)) ∧ Below w.heap.size w w' := ⟨_,rfl⟩
 have HZ : Hid (∀ w' (q : Nat),q = runP (rwA p N gs) 0 ts → Below w.heap.size w w' → Z (.returned (.int .i64 (q : Int))) w') := fun w' q h1 h2 => by rw [eZ,h1]; exact ⟨rfl,h2⟩
 rw [← eZ]
 clear eZ
 have h1n := hM.s1
 have hs2 := hM.s2
 have hk256 := hM.k256
 have hmc := Nat.le_trans hL.hcap hL.bd
 unfold maxLen at hmc
 have HM : Hid (MayG p nA N gs) := hM
 have HR : Hid _ := hM.rows (2 ^ p.toNat)
 have HN : Hid _ := hN
 have HG : Hid _ := hG
 have HW : Hid (RwB w g p aA nA cA aG nG cG aN nN cN d m c) := hW
 have HL : Hid (LtC w d m c ts) := hL
 have HT : Hid _ := ht
 have HLN : Hid (ts.length = m) := by have := hL.hlen; rw [List.length_map] at this; exact this
 clear hM hN hG hW hL ht
 go_enter Try.func44,Try.ntmps44
 go_wp2
 go_loopw [3,4] (fun v j wr => ∃ (i q : Nat),i ≤ m ∧ j = .int .i64 (i : Int) ∧ v = .int .i64 (q : Int) ∧ Hid (Below w.heap.size w wr ∧ q < nA ∧ q = runP (rwA p N gs) 0 (ts.take i))) (fun _ j _ => m - (intOf j).toNat)
 case atStart => exact ⟨0,0,Nat.zero_le _,rfl,rfl,Below.refl _ _,by omega,rfl⟩
 case round =>
  obtain ⟨i,q,hi,rfl,rfl,HI⟩ := hrel
  have hq := HI.out.2.1
  have hbw := HI.out.1
  obtain ⟨c0,c1,c2,c3,c4⟩ := (HW.out.up hbw).c
  by_cases hlt : i < m
  ·have hit : i < ts.length := by have := HLN.out; omega
   have hS := HL.out.up hbw
   have hix := fun w' => hS.idx m i w' hlt (Nat.le_refl _)
   have hcl := hS.cell i hlt
   rw [qt hit] at hcl
   have hzn : ts.getD i 0 < 2 ^ p.toNat := HT.out _ (by rw [List.getD_eq_getElem?_getD,List.getElem?_eq_getElem hit]; exact List.getElem_mem hit)
   have hv2 := HR.out.lt q (ts.getD i 0) hq hzn
   have HJS : Hid (∀ wx,Below wr.heap.size wr wx → Calls Try.prog 63 #[.agg #[.int .i64 p,.slice aA nA cA,.slice aG nG cG,.slice aN nN cN],.int .i64 (q : Int),.int .u8 ((ts.getD i 0 : Nat) : Int)] wx fun e w' => e = .returned (.int .i64 ((trP (rwA p N gs) q (ts.getD i 0) : Nat) : Int)) ∧ Below wx.heap.size wx w') := fun wx hb => q1d p aA nA cA aG nG cG aN nN cN N gs q (ts.getD i 0) wx HM.out ((HN.out.up hbw).up hb) ((HG.out.up hbw).up hb) hq hzn
   have HI2 : Hid (∀ wx,Below wr.heap.size wr wx → Below w.heap.size w wx ∧ trP (rwA p N gs) q (ts.getD i 0) < nA ∧ trP (rwA p N gs) q (ts.getD i 0) = runP (rwA p N gs) 0 (ts.take (i + 1))) := fun wx hb => ⟨q5 HI.out.1 hb,hv2,by
    rw [q4v hit,qZ,← HI.out.2.2]⟩
   generalize ts.getD i 0 = z at *
   have hz256 : z < 256 := by omega
   clear hS HI hv2 hzn hbw
   have cS : ∀ d os,Calls Try.prog 63 #[.agg #[.int .i64 p,.slice aA nA cA,.slice aG nG cG,.slice aN nN cN],.int .i64 (q : Int),.int .u8 (z : Int)] (grow (redrawn wr d) os) fun e w'' => e = .returned (.int .i64 ((trP (rwA p N gs) q z : Nat) : Int)) ∧ ∃ p : Regrown,w'' = grow (redrawn wr p.d) p.os := fun d os => by
    have hb := below_regrown wr d os
    refine (HJS.out _ hb).mono ?_
    rintro e w'' ⟨rfl,h2⟩
    exact ⟨rfl,regrown_of_below (q5 hb h2)⟩
   have HE : Hid (∀ d os,Below wr.heap.size wr (grow (redrawn wr d) os)) := fun d os => below_regrown wr d os
   have k0 := cell_regrown c0
   have k1 := cell_regrown c1
   have k2 := cell_regrown c2
   have k3 := cell_regrown c3
   have k4 := cell_regrown c4
   have kl := cell_regrown hcl
   have e1 : decide ((i : Int) < (m : Int)) = true := decide_eq_true (by omega)
   clear HJS
   generalize trP (rwA p N gs) q z = v at *
   generalize adOf d i = al at *
   obtain ⟨al1,al2,al3⟩ := al
   go_wp2_with fail
   clear c0 c1 c2 c3 c4 hcl
   refine wp_region_quiet_below (by kernel_rfl) (by kernel_rfl) ?_
   repeat (go_big_quiet_step (exact cS _ _))
   refine wpQuiet_nil ?_
   intro _ hw'
   obtain ⟨⟨dq,osq⟩,hw''⟩ := hw'
   subst hw''
   have HI3 : Hid _ := HI2.out _ (HE.out dq osq)
   generalize grow (redrawn wr dq) osq = wx at *
   clear cS k0 k1 k2 k3 k4 kl HI2 HE
   go_wp2
   go_roundw
   case rel => exact ⟨i + 1,_,by omega,by go_num,rfl,HI3⟩
   case measure => simp [intOf] <;> omega
  ·obtain rfl : i = m := by omega
   have hfin : q = runP (rwA p N gs) 0 ts := by rw [HI.out.2.2,List.take_of_length_le (by rw [HLN.out]; exact Nat.le_refl _)]
   have HE : Hid _ := HZ.out wr q hfin hbw
   have e1 : decide ((i : Int) < (i : Int)) = false := by simp
   clear HI hfin hbw HZ
   go_wp2
   exact HE.out
def vdV (l : List Nat) : List Value := (l.map Int.ofNat).map (Value.int .u8)
theorem q3V : (Try.prog.info? 59).map (fun i => (i.zero,i.size,i.bytes)) = some (some (.int .u8 0),1,1) := by kernel_rfl
def TolL (K : Nat) (R : List (List Nat)) (bs : List Bool) (n : Nat) (vs : List Nat) : Prop := vs.length = n ∧ ∀ q,q < n → TolW K R bs q (vs.getD q 0)
def smBp (p : Int) (nA nG nN : Nat) : Bool := decide (nA ≤ 24) && decide (p ≤ 4) && decide (nN ≤ 400) && decide (nG ≤ 300)
theorem q2e (p : Int) (aA : Option Addr) (nA cA : Nat) (aG : Option Addr) (nG cG : Nat) (aN : Option Addr) (nN cN : Nat) (w : World) :
  Calls Try.prog 9 #[.agg #[.int .i64 p,.slice aA nA cA,.slice aG nG cG,.slice aN nN cN]] w fun e w' => e = .returned (.bool (smBp p nA nG nN)) ∧ Below w.heap.size w w' := by
 have HB0 : Hid _ := q7 w (.cells #[.int .i64 p,.slice aA nA cA,.slice aG nG cG,.slice aN nN cN] 26 (0,0))
 obtain ⟨c0,c1,c2,c3⟩ := qe w p aA nA cA aG nG cG aN nN cN
 have HE : Hid (∀ b,b = smBp p nA nG nN → (Ending.returned (.bool b) = .returned (.bool (smBp p nA nG nN)))) := fun b h => by rw [h]
 by_cases h1 : nA ≤ 24
 ·have h1' : (nA : Int) ≤ 24 := by omega
  by_cases h2 : p ≤ 4
  ·by_cases h3 : nN ≤ 400
   ·have h3' : (nN : Int) ≤ 400 := by omega
    by_cases h4 : nG ≤ 300
    ·have h4' : (nG : Int) ≤ 300 := by omega
     have HF : Hid _ := HE.out true (by simp [smBp,h1,h2,h3,h4])
     clear HE
     go_enter Try.func9,Try.ntmps9
     go_wp2
     go_ret
     exact ⟨HF.out,HB0.out⟩
    ·have h4' : ¬ (nG : Int) ≤ 300 := by omega
     have HF : Hid _ := HE.out false (by simp [smBp,h4])
     clear HE
     go_enter Try.func9,Try.ntmps9
     go_wp2
     go_ret
     exact ⟨HF.out,HB0.out⟩
   ·have h3' : ¬ (nN : Int) ≤ 400 := by omega
    have HF : Hid _ := HE.out false (by simp [smBp,h3])
    clear HE
    go_enter Try.func9,Try.ntmps9
    go_wp2
    go_ret
    exact ⟨HF.out,HB0.out⟩
  ·have HF : Hid _ := HE.out false (by simp [smBp,h2])
   clear HE
   go_enter Try.func9,Try.ntmps9
   go_wp2
   go_ret
   exact ⟨HF.out,HB0.out⟩
 ·have h1' : ¬ (nA : Int) ≤ 24 := by omega
  have HF : Hid _ := HE.out false (by simp [smBp,h1])
  clear HE
  go_enter Try.func9,Try.ntmps9
  go_wp2
  go_ret
  exact ⟨HF.out,HB0.out⟩
end Go.Proofs.Ytjpggahiddhanaa
