/- Texts of the proof, put together: what it uses. -/
import Derived.BigQuiet
import Derived.Lib.QuietBelow
import Derived.Test.YtjpggahiddhanaaY04
import Derived.Test.YtjpggahiddhanaaY09
import Derived.Test.YtjpggahiddhanaaY11
import Derived.Test.YtjpggahiddhanaaY14
set_option maxRecDepth 100000
set_option maxHeartbeats 16000000
namespace Go.Proofs.Ytjpggahiddhanaa
open Go.RowKit Go.Maps Go.Sort
theorem q42 : (Try.prog.info? 34).map (·.size) = some 1 := by kernel_rfl
theorem q44 : (Try.prog.info? 30).map (·.size) = some 1 := by kernel_rfl
structure BsW (w0 : World) (A : AuP) (aA : Option Addr) (cA : Nat) (aG : Option Addr) (nG cG : Nat) (aN : Option Addr) (nN cN : Nat) : Prop where
 may : MayG A.p A.nA A.N A.gs
 bo : BoSl w0 aA A.nA cA A.bs
 nd : NdSl w0 aN nN cN A.N
 zs : ZSl w0 aG nG cG A.gs
structure ScW (w0 w : World) (A : AuP) (aA : Option Addr) (cA : Nat) (aG : Option Addr) (nG cG : Nat) (aN : Option Addr) (nN cN : Nat) (V : KV) (sB mB : Nat) (G S C D Y : Nat → Nat) (X : Nat → Option Addr) (T : Nat → List Nat) : Prop where
 pr : PrW w w0.heap.size A V sB G S C T
 dx : DoW w w0.heap.size A aA cA aG nG cG aN nN cN mB D Y X T
 bel : Below w0.heap.size w0 w
def ScX (w0 w : World) (A : AuP) (aA : Option Addr) (cA : Nat) (aG : Option Addr) (nG cG : Nat) (aN : Option Addr) (nN cN : Nat) (V : KV) (sB mB : Nat) : Prop := ∃ G S C D Y X T,ScW w0 w A aA cA aG nG cG aN nN cN V sB mB G S C D Y X T
section
variable {w0 w : World} {A : AuP} {aA : Option Addr} {cA : Nat} {aG : Option Addr} {nG cG : Nat} {aN : Option Addr} {nN cN : Nat} {V : KV} {sB mB : Nat} {G S C D Y : Nat → Nat} {X : Nat → Option Addr} {T : Nat → List Nat}
theorem ScW.up {w' : World} (h : ScW w0 w A aA cA aG nG cG aN nN cN V sB mB G S C D Y X T) (hb : Below w.heap.size w w') : ScW w0 w' A aA cA aG nG cG aN nN cN V sB mB G S C D Y X T :=
 ⟨h.pr.keep (KpT.of hb),h.dx.keep (KpT.of hb),q5 h.bel hb⟩
theorem ScW.ix (_ : ScW w0 w A aA cA aG nG cG aN nN cN V sB mB G S C D Y X T) {i : Nat} (hi : i < 2) :
  (∀ w',(Instr.indexAt 40 (.slice (some ⟨sB,0,none⟩) 2 2) (.int .i64 (i : Int))).run Try.prog w' = .ok (.pointer (some ⟨sB,i,none⟩)) w') ∧ (∀ w',(Instr.indexAt 44 (.slice (some ⟨mB,0,none⟩) 2 2) (.int .i64 (i : Int))).run Try.prog w' = .ok (.pointer (some ⟨mB,i,none⟩)) w') := by
 refine ⟨fun w' => ?_,fun w' => ?_⟩
 ·have := qj (P := Try.prog) (T := 40) Try.underlying40 q44 (a := some ⟨sB,0,none⟩) (cap := 2) (n := 2) (fun e => by cases e) i w' hi
  simpa [adOf,q9] using this
 ·have := qj (P := Try.prog) (T := 44) Try.underlying44 q42 (a := some ⟨mB,0,none⟩) (cap := 2) (n := 2) (fun e => by cases e) i w' hi
  simpa [adOf,q9] using this
end
theorem ScW.fed {w0 w w2 w3 : World} {A : AuP} {aA : Option Addr} {cA : Nat} {aG : Option Addr} {nG cG : Nat} {aN : Option Addr} {nN cN : Nat} {V : KV} {sB mB : Nat} {G S C D Y : Nat → Nat} {X : Nat → Option Addr} {T : Nat → List Nat} (h : ScW w0 w A aA cA aG nG cG aN nN cN V sB mB G S C D Y X T) {i l : Nat} (hi : i < 2) (hF : FedW A (G i) (T i) V (S i) l w w2) {d : Option Addr} {c : Nat} (hR : RwB w3 (D i) A.p aA A.nA cA aG nG cG aN nN cN d ((T i).length + 1) c) (hL : w3.ownsRow w2.heap.size 46 1 (.slice d ((T i).length + 1) c) ((T i).length + 1) (ltV (T i ++ [l]))) (hO : OneW w2 w3 (D i)) :
  ScX w0 w3 A aA cA aG nG cG aN nN cN V sB mB := by
 obtain ⟨S',C',hW,hFr⟩ := hF
 have h2 : PrW w2 w0.heap.size A V sB G (updN S i S') (updN C i C') (updN T i (T i ++ [l])) := h.pr.step h.bel.size hi hW hFr
 have hb2 : Below w0.heap.size w0 w2 := by
  have hx : Below w0.heap.size w w2 := hFr.below (fun k hk => by have := h.pr.ge i hi; rcases hk with rfl | rfl <;> omega) h.bel.size
  exact h.bel.trans hx
 have d2 := h.dx.keep (q20 (h.pr.wa i hi) hFr)
 have hl : (T i ++ [l]).length = (T i).length + 1 := by simp
 refine ⟨G,_,_,D,_,_,_,h2.keep (q3N (d2.dw i hi).blk hO),d2.step (us := T i ++ [l]) hi (by rw [hl]; exact hR) ?_ hO,hO.below hb2 (h.dx.ge i hi)⟩
 rw [hl]; exact qk hL hb2.size
theorem ScW.backed {w0 w w2 w3 : World} {A : AuP} {aA : Option Addr} {cA : Nat} {aG : Option Addr} {nG cG : Nat} {aN : Option Addr} {nN cN : Nat} {V : KV} {sB mB : Nat} {G S C D Y : Nat → Nat} {X : Nat → Option Addr} {T : Nat → List Nat} (h : ScW w0 w A aA cA aG nG cG aN nN cN V sB mB G S C D Y X T) {i l : Nat} {us : List Nat} (hi : i < 2) (hT : T i = us ++ [l]) (hF : BakW A (G i) us V (S i) (C i) w w2) (hR : RwB w3 (D i) A.p aA A.nA cA aG nG cG aN nN cN (X i) us.length (Y i)) (hO : OneW w2 w3 (D i)) :
  ScX w0 w3 A aA cA aG nG cG aN nN cN V sB mB := by
 obtain ⟨hW,hFr⟩ := hF
 have h2 : PrW w2 w0.heap.size A V sB G (updN S i (S i)) (updN C i (C i)) (updN T i us) := h.pr.step h.bel.size hi hW hFr
 have hb2 : Below w0.heap.size w0 w2 := by
  have hx : Below w0.heap.size w w2 := hFr.below (fun k hk => by have := h.pr.ge i hi; rcases hk with rfl | rfl <;> omega) h.bel.size
  exact h.bel.trans hx
 have d2 := h.dx.keep (q20 (h.pr.wa i hi) hFr)
 have hl2 := d2.dl i hi
 have hlen : (T i).length = us.length + 1 := by rw [hT]; simp
 rw [hlen,hT] at hl2
 obtain ⟨a,cap,e,_,_,_,h5,_⟩ := q1R (m := us.length) hl2 (by omega)
 injection e with e1 _ e3
 subst e1; subst e3
 rw [show (ltV (us ++ [l])).take (us.length * 1) = ltV us by
  simp only [ltV,List.map_append,Nat.mul_one]
  rw [List.take_append_of_le_length (by simp),List.take_of_length_le (by simp)]] at h5
 refine ⟨G,_,_,D,_,_,_,h2.keep (q3N (d2.dw i hi).blk hO),d2.step (us := us) hi hR ?_ hO,hO.below hb2 (h.dx.ge i hi)⟩
 refine qf h5 fun q hq => hO.block q (h5.lt q hq).2 ?_
 obtain ⟨cs,hc⟩ := qi h5 hq
 exact ty_ne hc (d2.dw i hi).blk (by decide)
theorem q57 {w w' : World} {A : AuP} {ts : List Nat} {V : KV} {g gS cS k : Nat} {F : Nat → Prop} {cs : Array Value} {U : TypeId} (h : WaO w g A ts V gS cS) (hF : Fr w w' (moW g gS) F) (hk : w.heap[k]? = some (.cells cs U (0,0))) (h1 : U ≠ 65) (h2 : U ≠ 3) : w'.heap[k]? = w.heap[k]? := by
 refine hF.keep k (Array.getElem?_eq_some_iff.1 hk).1 fun hm => ?_
 obtain ⟨c2,hc2⟩ := qi h.st rfl
 rcases hm with rfl | rfl
 ·exact ty_ne hk h.blk h1 rfl
 ·exact ty_ne hk hc2 h2 rfl
theorem q2Q {w : World} {ops : Array Oper} {o : Oper} {a : Act} {K : Act → World → Prop} {Q : Exit → Act → World → Prop} {Z : Prop} (hw : Region.wanted o (yielded ops a.tmps) = true) (s x : Operand)
  (ho : o.op = .call { callee := .builtin .append,args := #[s,x],argTypes := #[41,41] }) (base : Nat)
  (v : Value) (n : Nat) (xs ys : List Nat) (b : Option Addr) (len cap : Nat) (hs : a.eval s = v) (hx : a.eval x = .slice b len cap) (hown : w.ownsRow base 46 1 v n (ltV xs)) (hT : LtC w b len cap ys)
  (hn : n ≤ 10000000) (hm : len ≤ 10000000) (hbase : base ≤ w.heap.size)
  (h : ∀ v' w',w'.ownsRow base 46 1 v' (n + len) (ltV (xs ++ ys)) → w.grownBy w' v.ownBlock → K (a.put o.dst v') w') :
  if Region.wanted o (yielded ops a.tmps) = true then Oper.wp Try.prog o a w K Q else Z := by
 rw [if_pos hw]
 obtain ⟨i,hi,hz0,hz1,hz2⟩ := info_parts qP
 have hl : ys.length = len := by have := hT.hlen; rw [List.length_map] at this; exact this
 cases b with
 | none =>
  have hc := hT.nn rfl
  have hcl := hT.hcap
  obtain rfl : len = 0 := by omega
  subst hc
  have hy := List.eq_nil_of_length_eq_zero hl
  subst hy
  have hrun := run_append_owned_none (P := Try.prog) w base 41 o.type 46 i 1 Try.underlying41 hi v n _ hown
  unfold Oper.wp execOp
  simp only [ho,resolve,invoke,builtin,Sem.run_bind,Sem.run_pure,Result.andThen_ok,List.map_toArray,List.map_cons,List.map_nil,hs,hx,hrun]
  exact h v w (by rw [List.append_nil]; exact hown) (World.grownBy.refl _ _)
 | some y =>
  obtain ⟨v',w',hr,h2,h3,_,_⟩ := run_append_own_at (P := Try.prog) w base 41 o.type 46 i _ 1 1 Try.underlying41 hi hz0 hz1 hz2 rfl (by decide) v n _ hown y len cap (ltV ys) (by simp [ltV,hl]) (q22 hT) (fun u hu => by obtain ⟨z,_,rfl⟩ := List.mem_map.1 hu; rfl) (by unfold maxLen; omega) (by omega) hbase
  unfold Oper.wp execOp
  simp only [ho,resolve,invoke,builtin,Sem.run_bind,Sem.run_pure,Result.andThen_ok,List.map_toArray,List.map_cons,List.map_nil,hs,hx,hr]
  exact h v' w' (by rw [ltV,List.map_append]; exact h2) h3
theorem PrW.forked {w : World} {B : Nat} {A : AuP} {V : KV} {sB : Nat} {G S C : Nat → Nat} {T : Nat → List Nat} (h : PrW w B A V sB G S C T) {j g2 S2 C2 : Nat} {ts : List Nat} (hj : j < 2) (hW : WaO w g2 A ts V S2 C2) (hn : ∀ k,k < 2 → G k ≠ g2 ∧ S k ≠ S2) (hg : B ≤ g2 ∧ B ≤ S2) :
  PrW (w.setCell ⟨sB,j,none⟩ (.pointer (some ⟨g2,0,none⟩))) B A V sB (updN G j g2) (updN S j S2) (updN C j C2) (updN T j ts) := by
 have hset : ∀ k,k ≠ sB → (w.setCell ⟨sB,j,none⟩ (.pointer (some ⟨g2,0,none⟩))).heap[k]? = w.heap[k]? := fun k hk => Below.heap_setCell _ _ _ _ (by dsimp only; exact hk)
 have far : ∀ {g : Nat} {us : List Nat} {s c : Nat},WaO w g A us V s c → WaO (w.setCell ⟨sB,j,none⟩ (.pointer (some ⟨g2,0,none⟩))) g A us V s c := fun {g us s c} hO => by
  obtain ⟨c2,hc2⟩ := qi hO.st rfl
  refine hO.far (fun k hm => hset k ?_) (fun k hm => hset k ?_)
  ·rcases hm with rfl | rfl
   ·exact ty_ne hO.blk h.sb (by decide)
   ·exact ty_ne hc2 h.sb (by decide)
  ·obtain ⟨cs,U,hc,hU⟩ := kn_ty hO.kn hm
   exact ty_ne hc h.sb (by rcases hU with rfl | rfl | rfl <;> decide)
 have hh := heap_setCell_same w sB j _ _ (.pointer (some ⟨g2,0,none⟩)) h.sb
 refine ⟨fun k hk => ?_,?_,fun k hk => ?_,h.sge,?_,?_⟩
 ·by_cases e : k = j
  ·subst e
   rw [qb,qb,qb,qb]; exact far hW
  ·rw [qc _ _ e,qc _ _ e,qc _ _ e,qc _ _ e]; exact far (h.wa k hk)
 ·rw [hh]
  rcases (show j = 0 ∨ j = 1 by omega) with rfl | rfl <;> rfl
 ·by_cases e : k = j
  ·subst e
   rw [qb,qb]; exact hg
  ·rw [qc _ _ e,qc _ _ e]; exact h.ge k hk
 ·rcases (show j = 0 ∨ j = 1 by omega) with rfl | rfl
  ·rw [qb,qc _ _ (by decide)]; exact Ne.symm (hn 1 (by decide)).1
  ·rw [qb,qc _ _ (by decide)]; exact (hn 0 (by decide)).1
 ·rcases (show j = 0 ∨ j = 1 by omega) with rfl | rfl
  ·rw [qb,qc _ _ (by decide)]; exact Ne.symm (hn 1 (by decide)).2
  ·rw [qb,qc _ _ (by decide)]; exact (hn 0 (by decide)).2
theorem DoW.forked {w : World} {B : Nat} {A : AuP} {aA : Option Addr} {cA : Nat} {aG : Option Addr} {nG cG : Nat} {aN : Option Addr} {nN cN : Nat} {mB : Nat} {D Y : Nat → Nat} {X : Nat → Option Addr} {T : Nat → List Nat} (h : DoW w B A aA cA aG nG cG aN nN cN mB D Y X T) {j gd c : Nat} {d : Option Addr} {ts : List Nat} (hj : j < 2) (hR : RwB w gd A.p aA A.nA cA aG nG cG aN nN cN d ts.length c) (hL : w.ownsRow B 46 1 (.slice d ts.length c) ts.length (ltV ts)) (hn : ∀ k,k < 2 → D k ≠ gd) (hg : B ≤ gd) :
  DoW (w.setCell ⟨mB,j,none⟩ (.pointer (some ⟨gd,0,none⟩))) B A aA cA aG nG cG aN nN cN mB (updN D j gd) (updN Y j c) (updN X j d) (updN T j ts) := by
 have hset : ∀ k,k ≠ mB → (w.setCell ⟨mB,j,none⟩ (.pointer (some ⟨gd,0,none⟩))).heap[k]? = w.heap[k]? := fun k hk => Below.heap_setCell _ _ _ _ (by dsimp only; exact hk)
 have farR : ∀ {g : Nat} {x : Option Addr} {m y : Nat},RwB w g A.p aA A.nA cA aG nG cG aN nN cN x m y → RwB (w.setCell ⟨mB,j,none⟩ (.pointer (some ⟨gd,0,none⟩))) g A.p aA A.nA cA aG nG cG aN nN cN x m y := fun {g x m y} hO => ⟨(hset g (ty_ne hO.blk h.mb (by decide))).trans hO.blk⟩
 have farL : ∀ {x : Option Addr} {y : Nat} {us : List Nat},w.ownsRow B 46 1 (.slice x us.length y) us.length (ltV us) → (w.setCell ⟨mB,j,none⟩ (.pointer (some ⟨gd,0,none⟩))).ownsRow B 46 1 (.slice x us.length y) us.length (ltV us) := fun {x y us} hO => qf hO fun q hq => by
  obtain ⟨cs,hc⟩ := qi hO hq
  exact hset q (ty_ne hc h.mb (by decide))
 have hh := heap_setCell_same w mB j _ _ (.pointer (some ⟨gd,0,none⟩)) h.mb
 refine ⟨fun k hk => ?_,fun k hk => ?_,?_,fun k hk => ?_,h.sge,?_⟩
 ·by_cases e : k = j
  ·subst e
   rw [qb,qb,qb,qb]; exact farR hR
  ·rw [qc _ _ e,qc _ _ e,qc _ _ e,qc _ _ e]; exact farR (h.dw k hk)
 ·by_cases e : k = j
  ·subst e
   rw [qb,qb,qb]; exact farL hL
  ·rw [qc _ _ e,qc _ _ e,qc _ _ e]; exact farL (h.dl k hk)
 ·rw [hh]
  rcases (show j = 0 ∨ j = 1 by omega) with rfl | rfl <;> rfl
 ·by_cases e : k = j
  ·subst e
   rw [qb]; exact hg
  ·rw [qc _ _ e]; exact h.ge k hk
 ·rcases (show j = 0 ∨ j = 1 by omega) with rfl | rfl
  ·rw [qb,qc _ _ (by decide)]; exact Ne.symm (hn 1 (by decide))
  ·rw [qb,qc _ _ (by decide)]; exact hn 0 (by decide)
theorem q50 {w : World} {g j : Nat} {u : Value} {cs : Array Value} (hg : w.heap[g]? = some (.cells cs 34 (0,0))) : KpT w (w.setCell ⟨g,j,none⟩ u) PTy := fun k c2 T hk hT => by
 refine Below.heap_setCell _ _ _ _ ?_
 intro e
 dsimp only at e
 subst e
 rw [hk] at hg
 injection hg with h1
 injection h1 with _ h1 _
 subst h1
 rcases hT with h | h | h | h | h <;> exact absurd h (by decide)
theorem q4Z {w : World} {g j : Nat} {u : Value} {cs : Array Value} (hg : w.heap[g]? = some (.cells cs 30 (0,0))) : KpT w (w.setCell ⟨g,j,none⟩ u) DTy := fun k c2 T hk hT => by
 refine Below.heap_setCell _ _ _ _ ?_
 intro e
 dsimp only at e
 subst e
 rw [hk] at hg
 injection hg with h1
 injection h1 with _ h1 _
 subst h1
 rcases hT with h | h | h <;> exact absurd h (by decide)
theorem q2U {a b : Nat} {ca cb : Array Value} {ta tb : TypeId} {w : World} (hne : a ≠ b) (ha : w.heap[a]? = some (.cells ca ta (0,0))) (hb : w.heap[b]? = some (.cells cb tb (0,0))) : (binOp .eql 30 (.pointer (some ⟨a,0,none⟩)) (.pointer (some ⟨b,0,none⟩))).run Try.prog w = .ok (.bool false) w := by
 obtain ⟨j,hj⟩ := q1I
 refine run_eql_ptr_other w Try.underlying30 hj ?_ (by intro e; injection e with e; exact hne e) ha hb
 have : (Try.prog.info? 65).map (·.size) = some 7 := by kernel_rfl
 rw [hj] at this
 simp at this
 omega
theorem qR (a : Addr) (w : World) : (binOp .eql 30 (.pointer (some a)) (.pointer none)).run Try.prog w = .ok (.bool false) w := by
 have h : ∀ d : Nat,(Op.equalIn (d + 1) 30 (.pointer (some a)) (.pointer none)).run Try.prog w = .ok false w := fun d => by
  simp [Op.equalIn,run_underlying Try.underlying30]
 simp only [binOp]
 simp [Op.equal,Op.maxDepth,h 9999]
theorem ScW.forked {w0 w4 w5 : World} {A : AuP} {aA : Option Addr} {cA : Nat} {aG : Option Addr} {nG cG : Nat} {aN : Option Addr} {nN cN : Nat} {V : KV} {sB mB : Nat} {G S C D Y : Nat → Nat} {X : Nat → Option Addr} {T : Nat → List Nat} {i j g2 S2 C2 : Nat} {v5 : Value} (hi : i < 2) (hj : j < 2)
  (hP : PrW w4 w0.heap.size A V sB (updN G j g2) (updN S j S2) (updN C j C2) (updN T j (T i))) (hD : DoW w4 w0.heap.size A aA cA aG nG cG aN nN cN mB D Y X T) (hB : Below w0.heap.size w0 w4)
  (ho : w5.ownsRow w0.heap.size 46 1 v5 (T i).length (ltV (T i))) (hg : (w4.alloc (.cells #[] 46)).drew.grownBy w5 (some w4.heap.size)) :
  ∃ a5 k5,v5 = .slice a5 (T i).length k5 ∧ RwB w5 (D i) A.p aA A.nA cA aG nG cG aN nN cN (X i) (T i).length (Y i) ∧
   (w5.alloc (.cells #[.int .i64 A.p,.slice aA A.nA cA,.slice aG nG cG,.slice aN nN cN,.slice a5 (T i).length k5] 43 (0,0))).cell? ⟨mB,j,none⟩ = some (.pointer (some ⟨D j,0,none⟩)) ∧
   (w5.alloc (.cells #[.int .i64 A.p,.slice aA A.nA cA,.slice aG nG cG,.slice aN nN cN,.slice a5 (T i).length k5] 43 (0,0))).frozen? ⟨mB,j,none⟩ = false ∧
   ScX w0 ((w5.alloc (.cells #[.int .i64 A.p,.slice aA A.nA cA,.slice aG nG cG,.slice aN nN cN,.slice a5 (T i).length k5] 43 (0,0))).setCell ⟨mB,j,none⟩ (.pointer (some ⟨w5.heap.size,0,none⟩))) A aA cA aG nG cG aN nN cN V sB mB := by
 obtain ⟨a5,k5,rfl⟩ := qs ho
 have hb45 : Below w4.heap.size w4 w5 := ((Below.refl w4.heap.size w4).alloc (Nat.le_refl _) _).drew.grown hg (by simp) (fun k hk => by injection hk with hk; omega)
 have hD5 := hD.keep (KpT.of hb45)
 obtain ⟨w6,hw6⟩ : ∃ w6,w6 = w5.alloc (.cells #[.int .i64 A.p,.slice aA A.nA cA,.slice aG nG cG,.slice aN nN cN,.slice a5 (T i).length k5] 43 (0,0)) := ⟨_,rfl⟩
 have hb56 : Below w5.heap.size w5 w6 := by rw [hw6]; exact q7 _ _
 have hD6 := hD5.keep (KpT.of hb56)
 have hP6 := (hP.keep (KpT.of hb45)).keep (KpT.of hb56)
 have hblk : w6.heap[w5.heap.size]? = some (.cells #[.int .i64 A.p,.slice aA A.nA cA,.slice aG nG cG,.slice aN nN cN,.slice a5 (T i).length k5] 43 (0,0)) := by rw [hw6]; exact (MapKept.heap_alloc w5 _).1
 have hs5 : w0.heap.size ≤ w5.heap.size := Nat.le_trans hB.size hb45.size
 refine ⟨a5,k5,rfl,hD5.dw i hi,?_⟩
 rw [← hw6]
 refine ⟨ hD6.cell hj,frozen_of_row w6 mB j _ _ hD6.mb,updN G j g2,updN S j S2,updN C j C2,updN D j w5.heap.size,updN Y j k5,updN X j a5,updN T j (T i),hP6.keep (q50 hD6.mb),hD6.forked hj ⟨hblk⟩ (qF ho hb56) (fun k hk => by have := (hD5.dw k hk).lt; omega) hs5,?_⟩
 exact (q5 hB (q5 hb45 hb56)).setCell (by dsimp only; exact hD.sge) _
theorem q10 {w0 w : World} {A : AuP} {aA : Option Addr} {cA : Nat} {aG : Option Addr} {nG cG : Nat} {aN : Option Addr} {nN cN : Nat} {V : KV} {sB mB : Nat} (hX : ScX w0 w A aA cA aG nG cG aN nN cN V sB mB) (hS : BsW w0 A aA cA aG nG cG aN nN cN) (kind on l : Nat) (hon : on < 256) (hl : l < 256) :
  Calls Try.prog 16 #[.slice (some ⟨sB,0,none⟩) 2 2,.slice (some ⟨mB,0,none⟩) 2 2,.agg #[.int .u8 (kind : Int),.int .u8 (on : Int),.int .u8 (l : Int)]] w fun e w' => e = .returned (.bool true) ∧ Hid (ScX w0 w' A aA cA aG nG cG aN nN cN V sB mB) := by
 obtain ⟨Q,hQ⟩ : ∃ Q : Ending → World → Prop,Q = fun e w' => e = .returned (.bool true) ∧ Hid (ScX w0 w' A aA cA aG nG cG aN nN cN V sB mB) := ⟨_,rfl⟩
 have HQ : Hid (∀ w',ScX w0 w' A aA cA aG nG cG aN nN cN V sB mB → Q (.returned (.bool true)) w') := fun w' h => by rw [hQ]; exact ⟨rfl,h⟩
 rw [← hQ]
 clear hQ
 obtain ⟨G,S,C,D,Y,X,T,hC⟩ := hX
 obtain ⟨w1,hw1⟩ : ∃ w1,w1 = (w.alloc (.cells #[.int .u8 (kind : Int),.int .u8 (on : Int),.int .u8 (l : Int)] 48 (0,0))) := ⟨_,rfl⟩
 have hb1 : Below w.heap.size w w1 := by rw [hw1]; exact q7 _ _
 have hbk : w1.heap[w.heap.size]? = some (.cells #[.int .u8 (kind : Int),.int .u8 (on : Int),.int .u8 (l : Int)] 48 (0,0)) := by rw [hw1]; exact (MapKept.heap_alloc w _).1
 have hC1 := hC.up hb1
 have HC0 : Hid _ := hC1.up ((Below.refl w1.heap.size w1).drew)
 have HW1 : Hid _ := hw1
 have HS : Hid _ := hS
 have b0 := q6 hbk 0
 have b1 := q6 hbk 1
 have b2 := q6 hbk 2
 have HBK : Hid (w1.drew.heap[w.heap.size]? = some (.cells #[.int .u8 (kind : Int),.int .u8 (on : Int),.int .u8 (l : Int)] 48 (0,0))) := hbk
 obtain ⟨i,hi⟩ : ∃ i,i = on % 2 := ⟨_,rfl⟩
 have hi2 : i < 2 := by omega
 have ei : (on : Int) % 2 = (i : Int) := by omega
 obtain ⟨ix1,ix2⟩ := hC1.ix hi2
 have p1 := hC1.pr.cell hi2
 have p2 := hC1.dx.cell hi2
 clear hw1 hb1 hC hbk hC1 hi
 go_enter Try.func16,Try.ntmps16
 go_upto_region 2 with (rw [← HW1.out])
 rw [ei]
 clear ei HW1
 go_region
 clear ix1 ix2 p1 p2
 generalize w1.drew = w2 at *
 generalize w.heap.size = wb at *
 have b0 := q6 HBK.out 0
 have hcases : kind = 0 ∨ kind = 1 ∨ kind = 2 ∨ kind = 3 ∨ 4 ≤ kind := by omega
 have kf : ∀ c : Nat,kind ≠ c → ((kind : Int) == (c : Int)) = false := fun c h => beq_false_of_ne (by omega)
 have kt : ∀ c : Nat,kind = c → ((kind : Int) == (c : Int)) = true := fun c h => beq_iff_eq.2 (by omega)
 rcases hcases with hk | hk | hk | hk | hk
 ·have e0 : ((kind : Int) == 0) = true := kt 0 hk
  have b2 := q6 HBK.out 2
  have j1 := q2S (HC0.out.pr.wa i hi2) (l := l)
  clear kf kt hk
  go_wp2_with fail
  refine j1.mono ?_
  have hst : ∀ w3 : World,(w3.heap[wb]? = w2.heap[wb]?) → w3.cell? ⟨wb,2,none⟩ = some (Value.int .u8 (l : Int)) := fun w3 h => q6 (h.trans HBK.out) 2
  have j2 := fun (w3 : World) (hd : DoW w3 w0.heap.size A aA cA aG nG cG aN nN cN mB D Y X T) (hb : Below w0.heap.size w0 w3) => q2M A.p aA A.nA cA aG nG cG aN nN cN A.bs A.N A.gs (D i) (X i) (Y i) (T i) l w0 w3 HS.out.may HS.out.bo HS.out.nd HS.out.zs hb (hd.ge i hi2) (hd.dw i hi2) (qL (hd.dl i hi2)) ((HC0.out.pr.wa i hi2).lt) hl
  have hfit := fitsW HS.out.may (l := l)
  rintro e w3 (⟨hlK,rfl,hb⟩ | ⟨hlK,hn,rfl,hb⟩ | ⟨hlK,hn,v,rfl,hT,hF⟩)
  ·have HC3 : Hid _ := HC0.out.up hb
   have j3 := j2 w3 HC3.out.dx HC3.out.bel
   have x2 := hst w3 (hb.block wb (Array.getElem?_eq_some_iff.1 HBK.out).1)
   clear j1 j2 hst b0 b2 HC0 hb
   go_wp2_with fail
   refine j3.mono ?_
   rintro e w4 (⟨_,rfl,hb4⟩ | ⟨h1,_⟩ | ⟨h1,_⟩)
   ·have HE : Hid _ := HQ.out w4 ⟨G,S,C,D,Y,X,T,HC3.out.up hb4⟩
    clear j3 HQ HC3 hb4 x2 hlK
    go_wp2
    exact HE.out
   ·rw [hfit,decide_eq_false hlK] at h1; cases h1
   ·rw [hfit,decide_eq_false hlK] at h1; cases h1
  ·have HC3 : Hid _ := HC0.out.up hb
   have j3 := j2 w3 HC3.out.dx HC3.out.bel
   have x2 := hst w3 (hb.block wb (Array.getElem?_eq_some_iff.1 HBK.out).1)
   clear j1 j2 hst b0 b2 HC0 hb
   go_wp2_with fail
   refine j3.mono ?_
   rintro e w4 (⟨h1,_⟩ | ⟨_,_,rfl,hb4⟩ | ⟨_,h1,_⟩)
   ·rw [hfit,decide_eq_true hlK] at h1; cases h1
   ·have HE : Hid _ := HQ.out w4 ⟨G,S,C,D,Y,X,T,HC3.out.up hb4⟩
    clear j3 HQ HC3 hb4 x2 hlK hn
    go_wp2
    exact HE.out
   ·omega
  ·obtain ⟨S',C',hW,hFr⟩ := hF
   have hd3 := HC0.out.dx.keep (q20 (HC0.out.pr.wa i hi2) hFr)
   have hb3 : Below w0.heap.size w0 w3 := HC0.out.bel.trans (hFr.below (fun k hk => by have := HC0.out.pr.ge i hi2; rcases hk with rfl | rfl <;> omega) HC0.out.bel.size)
   have j3 := j2 w3 hd3 hb3
   have x2 := hst w3 (q57 (HC0.out.pr.wa i hi2) hFr HBK.out (by decide) (by decide))
   have HF : Hid (FedW A (G i) (T i) V (S i) l w2 w3) := ⟨S',C',hW,hFr⟩
   have HT : Hid (TolW A.K A.R A.bs (A.at (T i ++ [l])) v) := hT
   clear j1 j2 hst b0 b2 hd3 hb3 hW hFr hT
   go_wp2_with fail
   refine j3.mono ?_
   rintro e w4 (⟨h1,_⟩ | ⟨_,h1,_⟩ | ⟨_,_,u,d,c,rfl,hTu,hR,hL,hO⟩)
   ·rw [hfit,decide_eq_true hlK] at h1; cases h1
   ·omega
   ·obtain rfl := TolW.uni HT.out (show TolW A.K A.R A.bs (A.at (T i ++ [l])) u from hTu.out)
    have HE : Hid _ := HQ.out w4 (HC0.out.fed hi2 HF.out hR.out hL.out hO.out)
    clear j3 HQ HC0 x2 hlK hn HF HT hTu hR hL hO HS
    go_wp2
    exact HE.out
 ·have e0 : ((kind : Int) == 0) = false := kf 0 (by omega)
  have e1 : ((kind : Int) == 1) = true := kt 1 hk
  have j1 := q2k (HC0.out.pr.wa i hi2)
  clear kf kt hk
  go_wp2_with fail
  refine j1.mono ?_
  have j2 := fun (w3 : World) (hd : DoW w3 w0.heap.size A aA cA aG nG cG aN nN cN mB D Y X T) (hb : Below w0.heap.size w0 w3) => q2L A.p aA A.nA cA aG nG cG aN nN cN A.bs A.N A.gs (D i) (X i) (Y i) (T i) w0 w3 HS.out.may HS.out.bo HS.out.nd HS.out.zs hb (hd.ge i hi2) (hd.dw i hi2) (qL (hd.dl i hi2)) (fun k hk => by
    have hn : 0 < (T i).length := by omega
    obtain ⟨g,c,e,_,_⟩ := q16 (hd.dl i hi2) hn
    injection e with e1 _ _
    obtain ⟨cs,hc⟩ := qi (g := g) (hd.dl i hi2) (by rw [e1]; rfl)
    have h7 : g ≠ D i := ty_ne hc (hd.dw i hi2).blk (by decide)
    rw [e1]
    simpa [adOf,q9] using h7) ((HC0.out.pr.wa i hi2).lt)
  rintro e w3 (⟨hT0,rfl,hb⟩ | ⟨us,x,v,hTe,rfl,hT,hF⟩)
  ·have HC3 : Hid _ := HC0.out.up hb
   have j3 := j2 w3 HC3.out.dx HC3.out.bel
   clear j1 j2 b0 HC0 hb
   go_wp2_with fail
   refine j3.mono ?_
   rintro e w4 (⟨_,rfl,hb4⟩ | ⟨vs,y,u,h1,_⟩)
   ·have HE : Hid _ := HQ.out w4 ⟨G,S,C,D,Y,X,T,HC3.out.up hb4⟩
    clear j3 HQ HC3 hb4 hT0
    go_wp2
    exact HE.out
   ·rw [hT0] at h1; cases vs <;> cases h1
  ·obtain ⟨hW,hFr⟩ := hF
   have hd3 := HC0.out.dx.keep (q20 (HC0.out.pr.wa i hi2) hFr)
   have hb3 : Below w0.heap.size w0 w3 := HC0.out.bel.trans (hFr.below (fun k hk => by have := HC0.out.pr.ge i hi2; rcases hk with rfl | rfl <;> omega) HC0.out.bel.size)
   have j3 := j2 w3 hd3 hb3
   have HF : Hid (BakW A (G i) us V (S i) (C i) w2 w3) := ⟨hW,hFr⟩
   have HT : Hid (TolW A.K A.R A.bs (A.at us) v) := hT
   have HTE : Hid _ := hTe
   clear j1 j2 b0 hd3 hb3 hW hFr hT hTe
   go_wp2_with fail
   refine j3.mono ?_
   rintro e w4 (⟨h1,_⟩ | ⟨vs,y,u,h1,rfl,hTu,hR,_,hO⟩)
   ·rw [HTE.out] at h1; cases us <;> cases h1
   ·have h2 := HTE.out
    rw [h1] at h2
    obtain ⟨rfl,e2⟩ := List.append_inj' h2 rfl
    obtain rfl := TolW.uni HT.out (show TolW A.K A.R A.bs (A.at vs) u from hTu.out)
    have HE : Hid _ := HQ.out w4 (HC0.out.backed hi2 HTE.out HF.out hR.out hO.out)
    clear j3 HQ HC0 HF HT hTu hR hO HS HTE h1 h2 e2
    go_wp2
    exact HE.out
 ·have e0 : ((kind : Int) == 0) = false := kf 0 (by omega)
  have e1 : ((kind : Int) == 1) = false := kf 1 (by omega)
  have e2 : ((kind : Int) == 2) = true := kt 2 hk
  obtain ⟨v,hv⟩ := q2p A.K A.R A.bs (A.at (T i))
  have hq := AuP.at_lt HS.out.may (HC0.out.pr.wa i hi2).lt
  have cV : ∀ d os,Calls Try.prog 27 #[.pointer (some ⟨G i,0,none⟩)] (grow (redrawn w2 d) os) fun e w'' => e = .returned (.int .u8 (v : Int)) ∧ ∃ p : Regrown,w'' = grow (redrawn w2 p.d) p.os := fun d os => by
   have hb := below_regrown w2 d os
   refine (qJ ((HC0.out.pr.wa i hi2).up hb)).mono ?_
   rintro e w'' ⟨v',rfl,hT,h2⟩
   obtain rfl := hv.uni hT
   exact ⟨rfl,regrown_of_below (q5 hb h2)⟩
  have cS : ∀ d os,Calls Try.prog 28 #[.pointer (some ⟨G i,0,none⟩)] (grow (redrawn w2 d) os) fun e w'' => e = .returned (.int .i64 ((A.at (T i) : Nat) : Int)) ∧ ∃ p : Regrown,w'' = grow (redrawn w2 p.d) p.os := fun d os => by
   have hb := below_regrown w2 d os
   refine (qy ((HC0.out.pr.wa i hi2).up hb)).mono ?_
   rintro e w'' ⟨rfl,h2⟩
   exact ⟨rfl,regrown_of_below (q5 hb h2)⟩
  have cL : ∀ d os,Calls Try.prog 29 #[.pointer (some ⟨G i,0,none⟩)] (grow (redrawn w2 d) os) fun e w'' => e = .returned (.int .i64 ((T i).length : Int)) ∧ ∃ p : Regrown,w'' = grow (redrawn w2 p.d) p.os := fun d os => by
   have hb := below_regrown w2 d os
   refine (qu ((HC0.out.pr.wa i hi2).up hb)).mono ?_
   rintro e w'' ⟨rfl,rfl⟩
   exact ⟨rfl,⟨⟨d,os⟩,rfl⟩⟩
  have cR : ∀ d os,Calls Try.prog 44 #[.pointer (some ⟨D i,0,none⟩)] (grow (redrawn w2 d) os) fun e w'' => e = .returned (.int .i64 ((A.at (T i) : Nat) : Int)) ∧ ∃ p : Regrown,w'' = grow (redrawn w2 p.d) p.os := fun d os => by
   have hb := below_regrown w2 d os
   have hbb := q5 HC0.out.bel hb
   refine (qx A.p aA A.nA cA aG nG cG aN nN cN A.N A.gs (D i) (X i) (T i).length (Y i) (T i) _ HS.out.may (HS.out.nd.up hbb) (HS.out.zs.up hbb) ((HC0.out.dx.dw i hi2).up hb) ((qL (HC0.out.dx.dl i hi2)).up hb) (HC0.out.pr.wa i hi2).lt).mono ?_
   rintro e w'' ⟨rfl,h2⟩
   exact ⟨rfl,regrown_of_below (q5 hb h2)⟩
  have cW : ∀ d os,Calls Try.prog 43 #[.agg #[.int .i64 A.p,.slice aA A.nA cA,.slice aG nG cG,.slice aN nN cN],.int .i64 ((A.at (T i) : Nat) : Int)] (grow (redrawn w2 d) os) fun e w'' => e = .returned (.int .u8 (v : Int)) ∧ ∃ p : Regrown,w'' = grow (redrawn w2 p.d) p.os := fun d os => by
   have hb := below_regrown w2 d os
   have hbb := q5 HC0.out.bel hb
   refine (qC A.p aA A.nA cA aG nG cG aN nN cN A.bs A.N A.gs (A.at (T i)) _ HS.out.may (HS.out.bo.up hbb) (HS.out.nd.up hbb) (HS.out.zs.up hbb) hq).mono ?_
   rintro e w'' ⟨h2,v',rfl,hT⟩
   obtain rfl := hv.uni hT.out
   exact ⟨rfl,regrown_of_below (q5 hb h2)⟩
  obtain ⟨y0,y1,y2,y3,y4⟩ := (HC0.out.dx.dw i hi2).c
  have z0 := cell_regrown y0
  have z1 := cell_regrown y1
  have z2 := cell_regrown y2
  have z3 := cell_regrown y3
  have z4 := cell_regrown y4
  have HE : Hid (∀ d os,Q (.returned (.bool true)) (grow (redrawn w2 d) os)) := fun d os => HQ.out _ ⟨G,S,C,D,Y,X,T,HC0.out.up (below_regrown w2 d os)⟩
  clear kf kt hk HQ HC0 HS y0 y1 y2 y3 y4 hv hq HBK
  generalize A.at (T i) = q at *
  generalize (T i).length = n at *
  go_upto_region 13 with fail
  clear b0 e0 e1 e2
  refine wp_region_quiet_below (by kernel_rfl) (by kernel_rfl) ?_
  repeat (go_big_quiet_step (first | (with_reducible exact cV _ _) | (with_reducible exact cS _ _) | (with_reducible exact cL _ _) | (with_reducible exact cR _ _) | (with_reducible exact cW _ _)))
  refine wpQuiet_nil ?_
  intro _ hw'
  obtain ⟨⟨dq,osq⟩,hw''⟩ := hw'
  subst hw''
  have HE3 : Hid _ := HE.out dq osq
  generalize grow (redrawn w2 dq) osq = wx at *
  clear cS cV cL cR cW HE z0 z1 z2 z3 z4
  go_wp2
  exact HE3.out
 ·have e0 : ((kind : Int) == 0) = false := kf 0 (by omega)
  have e1 : ((kind : Int) == 1) = false := kf 1 (by omega)
  have e2 : ((kind : Int) == 2) = false := kf 2 (by omega)
  have e3 : ((kind : Int) == 3) = true := kt 3 hk
  have hq := AuP.at_lt HS.out.may (HC0.out.pr.wa i hi2).lt
  have j1 := q3f (HC0.out.pr.wa i hi2)
  clear kf kt hk
  go_wp2_with fail
  refine j1.mono ?_
  rintro e w3 ⟨d,E,rfl,hOF,hb⟩
  have HC3 : Hid _ := HC0.out.up hb
  have cR : ∀ d os,Calls Try.prog 44 #[.pointer (some ⟨D i,0,none⟩)] (grow (redrawn w3 d) os) fun e w'' => e = .returned (.int .i64 ((A.at (T i) : Nat) : Int)) ∧ ∃ p : Regrown,w'' = grow (redrawn w3 p.d) p.os := fun d os => by
   have hb := below_regrown w3 d os
   have hbb := q5 HC3.out.bel hb
   refine (qx A.p aA A.nA cA aG nG cG aN nN cN A.N A.gs (D i) (X i) (T i).length (Y i) (T i) _ HS.out.may (HS.out.nd.up hbb) (HS.out.zs.up hbb) ((HC3.out.dx.dw i hi2).up hb) ((qL (HC3.out.dx.dl i hi2)).up hb) (HC3.out.pr.wa i hi2).lt).mono ?_
   rintro e w'' ⟨rfl,h2⟩
   exact ⟨rfl,regrown_of_below (q5 hb h2)⟩
  have cO : ∀ dd os,Calls Try.prog 45 #[.agg #[.int .i64 A.p,.slice aA A.nA cA,.slice aG nG cG,.slice aN nN cN],.int .i64 ((A.at (T i) : Nat) : Int)] (grow (redrawn w3 dd) os) fun e w'' => e = .returned (.tuple #[.int .i64 d,.int .i64 E]) ∧ ∃ p : Regrown,w'' = grow (redrawn w3 p.d) p.os := fun dd os => by
   have hb := below_regrown w3 dd os
   have hbb := q5 HC3.out.bel hb
   refine (q37 A.p aA A.nA cA aG nG cG aN nN cN A.bs A.N A.gs (A.at (T i)) _ HS.out.may (HS.out.bo.up hbb) (HS.out.nd.up hbb) (HS.out.zs.up hbb) hq).mono ?_
   rintro e w'' ⟨h2,⟨d',rfl,hD⟩ | ⟨rfl,hD⟩⟩ <;> rcases hOF.out with ⟨n,rfl,_,rfl,hN⟩ | ⟨rfl,rfl,hN⟩
   ·obtain rfl := OffW.uni (show OffW A.K A.R A.bs (A.at (T i)) d' from hD.out) hN
    exact ⟨rfl,regrown_of_below (q5 hb h2)⟩
   ·exact absurd hN (fun hN => OffW.no (show OffW A.K A.R A.bs (A.at (T i)) d' from hD.out) hN)
   ·exact absurd hN (fun hN => OffW.no hN (show NoW A.K A.R A.bs (A.at (T i)) from hD.out))
   ·exact ⟨rfl,regrown_of_below (q5 hb h2)⟩
  obtain ⟨y0,y1,y2,y3,y4⟩ := (HC3.out.dx.dw i hi2).c
  have z0 := cell_regrown y0
  have z1 := cell_regrown y1
  have z2 := cell_regrown y2
  have z3 := cell_regrown y3
  have HE : Hid (∀ d os,Q (.returned (.bool true)) (grow (redrawn w3 d) os)) := fun d os => HQ.out _ ⟨G,S,C,D,Y,X,T,HC3.out.up (below_regrown w3 d os)⟩
  clear HQ HC0 HC3 HS y0 y1 y2 y3 y4 hq HBK hOF hb j1 b0 e0 e1 e2 e3
  generalize A.at (T i) = q at *
  go_upto_region 16 with fail
  refine wp_region_quiet_below (by kernel_rfl) (by kernel_rfl) ?_
  repeat (go_big_quiet_step (first | (with_reducible exact cR _ _) | (with_reducible exact cO _ _)))
  refine wpQuiet_nil ?_
  intro _ hw'
  obtain ⟨⟨dq,osq⟩,hw''⟩ := hw'
  subst hw''
  have HE3 : Hid _ := HE.out dq osq
  generalize grow (redrawn w3 dq) osq = wx at *
  clear cR cO HE z0 z1 z2 z3
  go_wp2
  exact HE3.out
 ·have e0 : ((kind : Int) == 0) = false := kf 0 (by omega)
  have e1 : ((kind : Int) == 1) = false := kf 1 (by omega)
  have e2 : ((kind : Int) == 2) = false := kf 2 (by omega)
  have e3 : ((kind : Int) == 3) = false := kf 3 (by omega)
  have j1 := q1h (HC0.out.pr.wa i hi2)
  clear kf kt hk
  go_wp2_with fail
  refine j1.mono ?_
  rintro e w3 ⟨hb,g2,S2,C2,rfl,hW,hg2,hS2⟩
  have HC3 : Hid _ := HC0.out.up hb
  have hGi := (HC0.out.pr.wa i hi2).glt
  have q1 := qR ⟨g2,0,none⟩ w3
  have q2 := q2U (show g2 ≠ G i by omega) hW.blk (HC3.out.pr.wa i hi2).blk
  obtain ⟨j,hj⟩ : ∃ j,j = 1 - i := ⟨_,rfl⟩
  have hj2 : j < 2 := by omega
  have ej : ((1 : Int) - (i : Int)) = (j : Int) := by omega
  have ej2 : IntKind.i64.wrap ((1 : Int) - (i : Int)) = (j : Int) := by rw [IntKind.wrap_i64]; omega
  have ej3 : IntKind.i64.wrap (j : Int) = (j : Int) := by rw [IntKind.wrap_i64]; omega
  obtain ⟨ix1,ix2⟩ := HC3.out.ix hj2
  have p1 := HC3.out.pr.cell hj2
  have f1 := frozen_of_row w3 sB j _ _ HC3.out.pr.sb
  have HN : Hid (∀ k,k < 2 → G k ≠ g2 ∧ S k ≠ S2) := fun k hk => ⟨by have := (HC0.out.pr.wa k hk).glt; omega,by have := (HC0.out.pr.wa k hk).slt; omega⟩
  have hsz0 := HC0.out.bel.size
  have HP4 : Hid _ := HC3.out.pr.forked hj2 hW HN.out ⟨by omega,by omega⟩
  have HD4 : Hid _ := HC3.out.dx.keep (q4Z (j := j) (u := .pointer (some ⟨g2,0,none⟩)) HC3.out.pr.sb)
  have HB4 : Hid (Below w0.heap.size w0 (w3.setCell ⟨sB,j,none⟩ (.pointer (some ⟨g2,0,none⟩)))) := HC3.out.bel.setCell (by dsimp only; exact HC3.out.pr.sge) _
  obtain ⟨w4,hw4⟩ : ∃ w4,w4 = w3.setCell ⟨sB,j,none⟩ (.pointer (some ⟨g2,0,none⟩)) := ⟨_,rfl⟩
  rw [← hw4] at HP4 HD4 HB4
  have HW4 : Hid _ := hw4
  have HFK : Hid (∀ w5 v5,w5.ownsRow w0.heap.size 46 1 v5 (T i).length (ltV (T i)) → (w4.alloc (.cells #[] 46)).drew.grownBy w5 (some w4.heap.size) → _) := fun w5 v5 ho hg => ScW.forked hi2 hj2 HP4.out HD4.out HB4.out ho hg
  have hO5 : (w4.alloc (.cells #[] 46)).ownsRow w0.heap.size 46 1 (.slice (some ⟨w4.heap.size,0,none⟩) 0 0) 0 (ltV []) := qk (q1K w4 _) HB4.out.size
  have hL5 : LtC (w4.alloc (.cells #[] 46)).drew (X i) (T i).length (Y i) (T i) := ((qL (HD4.out.dl i hi2)).up (q7 _ _)).up ((Below.refl _ _).drew)
  have hlen : (T i).length ≤ 10000000 := by have := (HC3.out.pr.wa i hi2).fw; omega
  have hbs : w0.heap.size ≤ (w4.alloc (.cells #[] 46)).heap.size := by have := HB4.out.size; simp; omega
  obtain ⟨y0,y1,y2,y3,y4⟩ := (HD4.out.dw i hi2).c
  obtain ⟨z0,z1,z2,z3,z4⟩ := ((HD4.out.dw i hi2).up (q7 w4 (.cells #[] 46))).c
  clear HC0 HC3 hW hb hGi HN j1 b0 hj hw4 hsz0 HP4 HD4 HB4
  go_upto_region 22 with (rw [← HW4.out])
  clear HW4 q1 q2 ix1 p1 f1
  generalize hTi : T i = ts at *
  generalize hnn : ts.length = n at *
  clear hTi hnn
  go_region_law (first
   | (revert hO5; intro hO5; refine q2Q rfl _ _ rfl w0.heap.size (.slice (some ⟨w4.heap.size,0,none⟩) 0 0) 0 [] ts (X i) n (Y i) rfl rfl hO5 hL5 (by omega) hlen hbs ?_; intro v5 w5 ho5 hg5; rw [List.nil_append,Nat.zero_add] at ho5; obtain ⟨a5,k5,rfl,hRW5,m5,mf5,HX5⟩ := HFK.out w5 v5 ho5 hg5; obtain ⟨u0,u1,u2,u3,u4⟩ := hRW5.c)
   | fail)
  all_goals
   have HE : Hid _ := HQ.out _ HX5
   clear HQ HX5 hO5 hL5 HFK hRW5 ho5 hg5
   go_wp2
   exact HE.out
theorem q4s {w0 w : World} {A : AuP} {aA : Option Addr} {cA : Nat} {aG : Option Addr} {nG cG : Nat} {aN : Option Addr} {nN cN : Nat} {V : KV} {sB mB g0 S0 C0 g1 S1 C1 d0 d1 : Nat} (h0 : WaO w g0 A [] V S0 C0) (h1 : WaO w g1 A [] V S1 C1) (k0 : RwB w d0 A.p aA A.nA cA aG nG cG aN nN cN none 0 0) (k1 : RwB w d1 A.p aA A.nA cA aG nG cG aN nN cN none 0 0)
  (sb : w.heap[sB]? = some (.cells #[.pointer (some ⟨g0,0,none⟩),.pointer (some ⟨g1,0,none⟩)] 30 (0,0))) (mb : w.heap[mB]? = some (.cells #[.pointer (some ⟨d0,0,none⟩),.pointer (some ⟨d1,0,none⟩)] 34 (0,0)))
  (ge : w0.heap.size ≤ g0 ∧ w0.heap.size ≤ S0 ∧ w0.heap.size ≤ g1 ∧ w0.heap.size ≤ S1 ∧ w0.heap.size ≤ d0 ∧ w0.heap.size ≤ d1 ∧ w0.heap.size ≤ sB ∧ w0.heap.size ≤ mB) (ne : g0 ≠ g1 ∧ S0 ≠ S1 ∧ d0 ≠ d1) (hb : Below w0.heap.size w0 w) : ScX w0 w A aA cA aG nG cG aN nN cN V sB mB := by
 refine ⟨fun k => if k = 0 then g0 else g1,fun k => if k = 0 then S0 else S1,fun k => if k = 0 then C0 else C1,fun k => if k = 0 then d0 else d1,fun _ => 0,fun _ => none,fun _ => [],⟨fun i hi => ?_,sb,fun i hi => ?_,ge.2.2.2.2.2.2.1,ne.1,ne.2.1⟩,⟨fun i hi => ?_,fun i hi => ⟨rfl,.inl ⟨rfl,rfl⟩⟩,mb,fun i hi => ?_,ge.2.2.2.2.2.2.2,ne.2.2⟩,hb⟩
 all_goals rcases (show i = 0 ∨ i = 1 by omega) with rfl | rfl
 ·exact h0
 ·exact h1
 ·exact ⟨ge.1,ge.2.1⟩
 ·exact ⟨ge.2.2.1,ge.2.2.2.1⟩
 ·exact k0
 ·exact k1
 ·exact ge.2.2.2.2.1
 ·exact ge.2.2.2.2.2.1
theorem q3D (w : World) : (binOp .eql 30 (.pointer none) (.pointer none)).run Try.prog w = .ok (.bool true) w := by
 have h : ∀ d : Nat,(Op.equalIn (d + 1) 30 (.pointer none) (.pointer none)).run Try.prog w = .ok true w := fun d => by
  simp [Op.equalIn,run_underlying Try.underlying30]
 simp only [binOp]
 simp [Op.equal,Op.maxDepth,h 9999]
theorem q1F (w : World) : (binOp .eql 34 (.pointer none) (.pointer none)).run Try.prog w = .ok (.bool true) w := by
 have h : ∀ d : Nat,(Op.equalIn (d + 1) 34 (.pointer none) (.pointer none)).run Try.prog w = .ok true w := fun d => by
  simp [Op.equalIn,run_underlying Try.underlying34]
 simp only [binOp]
 simp [Op.equal,Op.maxDepth,h 9999]
theorem q38 (a : Addr) (w : World) : (binOp .eql 34 (.pointer (some a)) (.pointer none)).run Try.prog w = .ok (.bool false) w := by
 have h : ∀ d : Nat,(Op.equalIn (d + 1) 34 (.pointer (some a)) (.pointer none)).run Try.prog w = .ok false w := fun d => by
  simp [Op.equalIn,run_underlying Try.underlying34]
 simp only [binOp]
 simp [Op.equal,Op.maxDepth,h 9999]
theorem ExB.below {w0 w w' : World} {F : Nat → Prop} (h : ExB w w' F) (h0 : Below w0.heap.size w0 w) (hF : ∀ k,F k → w0.heap.size ≤ k) : Below w0.heap.size w0 w' :=
 ⟨h.os.trans h0.os,h.tape.trans h0.tape,h.output.trans h0.output,Nat.le_trans h0.size h.size,fun k hk => (h.keep k (Nat.lt_of_lt_of_le hk h0.size) (fun e => by have := hF k e; omega)).trans (h0.block k hk)⟩
theorem q1Y (p : Int) (aA : Option Addr) (nA cA : Nat) (aG : Option Addr) (nG cG : Nat) (aN : Option Addr) (nN cN : Nat) (bs : List Bool) (gs : List Int) (N : List Gd) (d : Option Addr) (m c : Nat) (acts : List AcT) (w : World) (hB : BoSl w aA nA cA bs) (hG : ZSl w aG nG cG gs) (hN : NdSl w aN nN cN N) (hok : ∀ z ∈ gs,I64 z) (hL : AcSl w d m c acts) :
  Calls Try.prog 3 #[.agg #[.int .i64 p,.slice aA nA cA,.slice aG nG cG,.slice aN nN cN],.slice d m c] w fun e w' => e = .returned (.bool true) ∧ Below w.heap.size w w' := by
 obtain ⟨Q,hQ⟩ : ∃ Q : Ending → World → Prop,Q = fun e w' => e = .returned (.bool true) ∧ Below w.heap.size w w' := ⟨_,rfl⟩
 have HQ : Hid (∀ w',Below w.heap.size w w' → Q (.returned (.bool true)) w') := fun w' h => by rw [hQ]; exact ⟨rfl,h⟩
 rw [← hQ]
 clear hQ
 obtain ⟨w1,hw1⟩ : ∃ w1,w1 = w.alloc (.cells #[.int .i64 p,.slice aA nA cA,.slice aG nG cG,.slice aN nN cN] 26 (0,0)) := ⟨_,rfl⟩
 have HV1 : Hid (AuB w1 w.heap.size p aA nA cA aG nG cG aN nN cN) := by show AuB _ _ _ _ _ _ _ _ _ _ _ _; rw [hw1]; exact qe _ _ _ _ _ _ _ _ _ _ _
 have hb1 : Below w.heap.size w w1 := by rw [hw1]; exact q7 _ _
 have js := q2e p aA nA cA aG nG cG aN nN cN w1
 have HB1 : Hid _ := hb1
 have HW1 : Hid _ := hw1
 have HBo : Hid _ := hB
 have HN : Hid _ := hN
 have HG : Hid _ := hG
 have HOK : Hid (∀ z ∈ gs,I64 z) := hok
 have HL : Hid (AcSl w d m c acts) := hL
 have hmc := Nat.le_trans hL.hcap hL.bd
 unfold maxLen at hmc
 clear hw1 hb1 hN hG hB hL hok
 generalize hsb : smBp p nA nG nN = sb at *
 have HSB : Hid _ := hsb
 clear hsb
 obtain ⟨c0,c1,c2,c3⟩ := HV1.out
 go_enter Try.func3,Try.ntmps3
 go_upto_region 1 with (rw [← HW1.out])
 clear HW1
 go_cut [21] (fun v wx => ∃ r : Bool,v = .bool r ∧ Hid (r = false → sb = true ∧ m ≤ 60) ∧ Hid (Below w1.heap.size w1 wx))
 case first =>
  cases sb with
  | false =>
   go_wp2_with fail
   refine js.mono ?_
   rintro e w2 ⟨rfl,hb⟩
   have HB2 : Hid (Below w1.heap.size w1 w2) := hb
   clear js hb c0 c1 c2 c3 HV1 HB1
   go_wp2
   go_meet
   exact ⟨true,rfl,(fun h => by cases h),HB2⟩
  | true =>
   go_wp2_with fail
   refine js.mono ?_
   rintro e w2 ⟨rfl,hb⟩
   have HB2 : Hid (Below w1.heap.size w1 w2) := hb
   clear js hb c0 c1 c2 c3 HV1 HB1
   by_cases h : m ≤ 60
   ·have e1 : decide ((60 : Int) < (m : Int)) = false := decide_eq_false (by omega)
    go_wp2
    go_meet
    exact ⟨false,rfl,(fun _ => ⟨by simp,h⟩),HB2⟩
   ·have e1 : decide ((60 : Int) < (m : Int)) = true := decide_eq_true (by omega)
    go_wp2
    go_meet
    exact ⟨true,rfl,(fun h => by cases h),HB2⟩
 case rest =>
 obtain ⟨r,rfl,HRF,HBx⟩ := hcut
 obtain ⟨w2,hw2⟩ : ∃ w2,w2 = wc := ⟨_,rfl⟩
 subst hw2
 have HB2 : Hid (Below w.heap.size w w2) := q5 HB1.out HBx.out
 have HV2 : Hid (AuB w2 w.heap.size p aA nA cA aG nG cG aN nN cN) := HV1.out.up HBx.out
 clear js c0 c1 c2 c3 HB1 HBx HV1
 cases r with
 | true =>
  have HE : Hid _ := HQ.out w2 HB2.out
  clear HQ
  go_wp2
  exact HE.out
 | false =>
 obtain ⟨rfl,hm⟩ := HRF.out rfl
 have hsm : nA ≤ 24 ∧ nN ≤ 400 ∧ nG ≤ 300 := by have := HSB.out; simp [smBp] at this; omega
 obtain ⟨hnA,hnN,hnG⟩ := hsm
 clear HRF
 have jl := q1V p aA nA cA aG nG cG aN nN cN bs gs N w2 (HBo.out.up HB2.out) (HG.out.up HB2.out) (HN.out.up HB2.out) (by omega) (by omega) (by omega)
 obtain ⟨c0,c1,c2,c3⟩ := HV2.out
 go_wp2_with fail
 refine jl.mono ?_
 rintro e w3 ⟨b1,gb,b2,rfl,r1,r2,r3,hb3,n1,n2,n3⟩
 have HB3 : Hid (Below w.heap.size w w3) := q5 HB2.out hb3
 have HV3 : Hid (AuB w3 w.heap.size p aA nA cA aG nG cG aN nN cN) := HV2.out.up hb3
 have HRR : Hid (BoRow w3 b1 (bs ++ zB 3) ∧ RowI w3 3 gb (lentZ gs) ∧ NdRow w3 b2 (N ++ zG 3)) := ⟨r1,r2,r3⟩
 have hs2 : w.heap.size < w2.heap.size := World.block_lt_of_cell? _ _ HV2.out.c0
 have HNN : Hid (w.heap.size < b1 ∧ w.heap.size < gb ∧ w.heap.size < b2) := ⟨by omega,by omega,by omega⟩
 have HLL : Hid (b1 < w3.heap.size ∧ gb < w3.heap.size ∧ b2 < w3.heap.size) := ⟨(Array.getElem?_eq_some_iff.1 r1).1,(Array.getElem?_eq_some_iff.1 r2).1,(Array.getElem?_eq_some_iff.1 r3).1⟩
 obtain ⟨w5,hw5⟩ : ∃ w5,w5 = w3.alloc (.cells #[.int .i64 p,.slice (some ⟨b1,0,none⟩) nA (nA + 3),.slice (some ⟨gb,0,none⟩) nG (nG + 3),.slice (some ⟨b2,0,none⟩) nN (nN + 3)] 26 (0,0)) := ⟨_,rfl⟩
 have hb35 : Below w3.heap.size w3 w5 := by rw [hw5]; exact q7 _ _
 have HB5 : Hid (Below w.heap.size w w5) := q5 HB3.out hb35
 have HV5 : Hid (AuB w5 w.heap.size p aA nA cA aG nG cG aN nN cN) := HV3.out.up hb35
 have HI5 : Hid (AuB w5 w3.heap.size p (some ⟨b1,0,none⟩) nA (nA + 3) (some ⟨gb,0,none⟩) nG (nG + 3) (some ⟨b2,0,none⟩) nN (nN + 3)) := by show AuB _ _ _ _ _ _ _ _ _ _ _ _; rw [hw5]; exact qe _ _ _ _ _ _ _ _ _ _ _
 have HRR5 : Hid (BoRow w5 b1 (bs ++ zB 3) ∧ RowI w5 3 gb (lentZ gs) ∧ NdRow w5 b2 (N ++ zG 3)) := ⟨BoRow.up HRR.out.1 hb35,RowI.up (e := 3) HRR.out.2.1 hb35,HRR.out.2.2.up hb35⟩
 have HS35 : Hid (w3.heap.size < w5.heap.size) := by show _ < _; rw [hw5]; simp
 have HW5 : Hid _ := hw5
 clear jl hb3 r1 r2 r3 n1 n2 n3 hs2 hb35 hw5 HB2 HV2 HB3 HRR
 obtain ⟨lb1,lg,ln⟩ : BoSl w5 (some ⟨b1,0,none⟩) nA (nA + 3) bs ∧ ZSl w5 (some ⟨gb,0,none⟩) nG (nG + 3) gs ∧ NdSl w5 (some ⟨b2,0,none⟩) nN (nN + 3) N := by
  have h1 := (HBo.out.up HB5.out).hlen
  have h2 := (HG.out.up HB5.out).hlen
  have h3 := (HN.out.up HB5.out).hlen
  refine ⟨BoRow.sl HRR5.out.1 h1 (by omega),?_,NdRow.sl HRR5.out.2.2 h3 (by omega) (HN.out.ok)⟩
  have := RowI.zsl (n := nG) HRR5.out.2.1 Try.underlying23 q8 (by rw [qh]; omega) (by rw [qh]; unfold maxLen; omega)
  rw [qh,← h2,q21] at this
  rw [h2] at this
  exact this
 have j1 := q3e ⟨p,nA,bs,N,gs⟩ (some ⟨b1,0,none⟩) (nA + 3) (some ⟨gb,0,none⟩) nG (nG + 3) (some ⟨b2,0,none⟩) nN (nN + 3) w5 lb1 ln lg HOK.out
 clear lb1 lg ln c0 c1 c2 c3
 obtain ⟨c0,c1,c2,c3⟩ := HI5.out
 go_wp2_with (rw [← HW5.out])
 clear HW5
 refine j1.mono ?_
 rintro e w6 ⟨hb6,⟨hM,rfl⟩ | ⟨hM,g,V,gS,cS,rfl,hW,hge⟩⟩
 ·have HB6 : Hid (Below w.heap.size w w6) := q5 HB5.out hb6
  have HV6 : Hid (AuB w6 w.heap.size p aA nA cA aG nG cG aN nN cN) := HV5.out.up hb6
  have HI6 : Hid (AuB w6 w3.heap.size p (some ⟨b1,0,none⟩) nA (nA + 3) (some ⟨gb,0,none⟩) nG (nG + 3) (some ⟨b2,0,none⟩) nN (nN + 3)) := HI5.out.up hb6
  have HRR6 : Hid (BoRow w6 b1 (bs ++ zB 3) ∧ RowI w6 3 gb (lentZ gs) ∧ NdRow w6 b2 (N ++ zG 3)) := ⟨BoRow.up HRR5.out.1 hb6,RowI.up (e := 3) HRR5.out.2.1 hb6,HRR5.out.2.2.up hb6⟩
  have HM : Hid (¬ MayG p nA N gs) := hM
  have j2 := q1e p aA nA cA aG nG cG aN nN cN N gs w6 (HN.out.up HB6.out) (HG.out.up HB6.out) (by omega) (by omega)
  clear j1 c0 c1 c2 c3 hM hb6 HB5 HV5 HI5 HRR5 HS35
  obtain ⟨c0,c1,c2,c3⟩ := HV6.out
  go_wp2_with fail
  refine j2.mono ?_
  rintro e w7 ⟨hb7,⟨_,rfl⟩ | ⟨h,_⟩⟩
  ·have HB7 : Hid (Below w.heap.size w w7) := q5 HB6.out hb7
   have HV7 : Hid (AuB w7 w.heap.size p aA nA cA aG nG cG aN nN cN) := HV6.out.up hb7
   have HI7 : Hid (AuB w7 w3.heap.size p (some ⟨b1,0,none⟩) nA (nA + 3) (some ⟨gb,0,none⟩) nG (nG + 3) (some ⟨b2,0,none⟩) nN (nN + 3)) := HI6.out.up hb7
   have jk := q12 p aA nA cA aG nG cG aN nN cN bs gs N b1 gb b2 w7 (HBo.out.up HB7.out) (HG.out.up HB7.out) (HN.out.up HB7.out) (by omega) (by omega) (by omega) (BoRow.up HRR6.out.1 hb7) (RowI.up (e := 3) HRR6.out.2.1 hb7) (HRR6.out.2.2.up hb7)
   have q1 := q3D w7
   have q2 := q1F w7
   have q3 := fun w => q1F w
   clear j2 c0 c1 c2 c3 hb7 HB6 HV6 HI6 HRR6
   obtain ⟨c0,c1,c2,c3⟩ := HV7.out
   obtain ⟨x0,x1,x2,x3⟩ := HI7.out
   go_wp2_with fail
   refine jk.mono ?_
   rintro e w8 ⟨rfl,hb8⟩
   have HE : Hid _ := HQ.out w8 (q5 HB7.out hb8)
   clear jk HQ HB7 HV7 HI7 hb8 q1 q2 c0 c1 c2 c3 x0 x1 x2 x3
   go_wp2
   exact HE.out
  ·exact absurd h HM.out
 have HS56 : Hid (w5.heap.size ≤ w6.heap.size) := hb6.size
 have HB6 : Hid (Below w.heap.size w w6) := q5 HB5.out hb6
 have HV6 : Hid (AuB w6 w.heap.size p aA nA cA aG nG cG aN nN cN) := HV5.out.up hb6
 have HI6 : Hid (AuB w6 w3.heap.size p (some ⟨b1,0,none⟩) nA (nA + 3) (some ⟨gb,0,none⟩) nG (nG + 3) (some ⟨b2,0,none⟩) nN (nN + 3)) := HI5.out.up hb6
 have HRR6 : Hid (BoRow w6 b1 (bs ++ zB 3) ∧ RowI w6 3 gb (lentZ gs) ∧ NdRow w6 b2 (N ++ zG 3)) := ⟨BoRow.up HRR5.out.1 hb6,RowI.up (e := 3) HRR5.out.2.1 hb6,HRR5.out.2.2.up hb6⟩
 have HM : Hid (MayG p nA N gs) := hM
 have HW6 : Hid (WaO w6 g ⟨p,nA,bs,N,gs⟩ [] V gS cS) := hW
 have HGE : Hid (∀ k,moW g gS k ∨ V.bk ⟨p,nA,bs,N,gs⟩ k → w5.heap.size ≤ k) := hge
 have j2 := q1e p aA nA cA aG nG cG aN nN cN N gs w6 (HN.out.up HB6.out) (HG.out.up HB6.out) (by omega) (by omega)
 clear j1 c0 c1 c2 c3 hM hb6 HV5 HI5 HRR5 hW hge
 obtain ⟨c0,c1,c2,c3⟩ := HV6.out
 go_wp2_with fail
 refine j2.mono ?_
 rintro e w7 ⟨hb7,⟨h,_⟩ | ⟨_,d0,rfl,hd0,hR0⟩⟩
 ·exact absurd HM.out h
 have HB7 : Hid (Below w.heap.size w w7) := q5 HB6.out hb7
 have HV7 : Hid (AuB w7 w.heap.size p aA nA cA aG nG cG aN nN cN) := HV6.out.up hb7
 have HI7 : Hid (AuB w7 w3.heap.size p (some ⟨b1,0,none⟩) nA (nA + 3) (some ⟨gb,0,none⟩) nG (nG + 3) (some ⟨b2,0,none⟩) nN (nN + 3)) := HI6.out.up hb7
 have HW7 : Hid (WaO w7 g ⟨p,nA,bs,N,gs⟩ [] V gS cS) := HW6.out.up hb7
 have HR7 : Hid (RwB w7 d0 p aA nA cA aG nG cG aN nN cN none 0 0) := hR0
 have HD0 : Hid (w6.heap.size ≤ d0) := hd0
 have hh1 := (HBo.out.up HB7.out).hlen
 have hh3 := (HN.out.up HB7.out).hlen
 have hrr1 := BoRow.up HRR6.out.1 hb7
 have hrr2 := RowI.up (e := 3) HRR6.out.2.1 hb7
 have hrr3 := HRR6.out.2.2.up hb7
 have HCS : Hid (CsB isBoW w7 b1 4 (nA + 3) ∧ CsB isInW w7 gb 3 (nG + 3) ∧ CsB isInW w7 b2 77 (3 * (nN + 3))) :=
  ⟨BoRow.cs hrr1 (by simp [zB]; omega),RowI.cs hrr2 (by rw [qh]; have := (HG.out).hlen; omega),NdRow.cs hrr3 (by simp [zG]; omega)⟩
 have jk := q12 p aA nA cA aG nG cG aN nN cN bs gs N b1 gb b2 w7 (HBo.out.up HB7.out) (HG.out.up HB7.out) (HN.out.up HB7.out) (by omega) (by omega) (by omega) hrr1 hrr2 hrr3
 have q1 := fun w => qR ⟨g,0,none⟩ w
 have q2 := fun w => q38 ⟨d0,0,none⟩ w
 have hs67 := hb7.size
 have HS6 : Hid (w6.heap.size ≤ w7.heap.size) := hs67
 clear j2 c0 c1 c2 c3 hb7 HB6 HV6 HI6 HRR6 HW6 hR0 hd0 hh1 hh3 hrr1 hrr2 hrr3 hs67
 obtain ⟨c0,c1,c2,c3⟩ := HV7.out
 obtain ⟨x0,x1,x2,x3⟩ := HI7.out
 go_wp2_with fail
 refine jk.mono ?_
 rintro e w8 ⟨rfl,hb8⟩
 have HB8 : Hid (Below w.heap.size w w8) := q5 HB7.out hb8
 have HV8 : Hid (AuB w8 w.heap.size p aA nA cA aG nG cG aN nN cN) := HV7.out.up hb8
 have HI8 : Hid (AuB w8 w3.heap.size p (some ⟨b1,0,none⟩) nA (nA + 3) (some ⟨gb,0,none⟩) nG (nG + 3) (some ⟨b2,0,none⟩) nN (nN + 3)) := HI7.out.up hb8
 have HW8 : Hid (WaO w8 g ⟨p,nA,bs,N,gs⟩ [] V gS cS) := HW7.out.up hb8
 have HR8 : Hid (RwB w8 d0 p aA nA cA aG nG cG aN nN cN none 0 0) := HR7.out.up hb8
 have HS8 : Hid (w7.heap.size ≤ w8.heap.size) := hb8.size
 have jo := q2d p b1 nA gb nG b2 nN w8 (HCS.out.1.far (hb8.block _ HCS.out.1.lt)) (HCS.out.2.1.far (hb8.block _ HCS.out.2.1.lt)) (HCS.out.2.2.far (hb8.block _ HCS.out.2.2.lt)) (by omega) (by omega) (by omega)
 clear jk hb8 c0 c1 c2 c3 x0 x1 x2 x3 HV7 HI7 HW7 HR7 HCS
 obtain ⟨c0,c1,c2,c3⟩ := HV8.out
 obtain ⟨x0,x1,x2,x3⟩ := HI8.out
 go_wp2_with fail
 refine jo.mono ?_
 rintro e w9 ⟨rfl,hx9⟩
 have hfar : ∀ k,k < w8.heap.size → (k ≤ w.heap.size ∨ w5.heap.size ≤ k) → w9.heap[k]? = w8.heap[k]? := fun k hk h => hx9.keep k hk (by
  have h1 := HNN.out
  have h2 := HLL.out
  have h3 := HS35.out
  rintro (e | e | e) <;> omega)
 have HB9 : Hid (Below w.heap.size w w9) := hx9.below HB8.out (by
  have h1 := HNN.out
  rintro k (e | e | e) <;> omega)
 have hlw : w.heap.size < w8.heap.size := World.block_lt_of_cell? _ _ HV8.out.c0
 have hfw := hfar w.heap.size hlw (.inl (Nat.le_refl _))
 have HV9 : Hid (AuB w9 w.heap.size p aA nA cA aG nG cG aN nN cN) := ⟨(qI (a := ⟨w.heap.size,0,none⟩) hfw).trans HV8.out.c0,(qI (a := ⟨w.heap.size,1,none⟩) hfw).trans HV8.out.c1,(qI (a := ⟨w.heap.size,2,none⟩) hfw).trans HV8.out.c2,(qI (a := ⟨w.heap.size,3,none⟩) hfw).trans HV8.out.c3⟩
 have HW9 : Hid (WaO w9 g ⟨p,nA,bs,N,gs⟩ [] V gS cS) := HW8.out.far (fun k hk => hfar k (by rcases hk with rfl | rfl; exact HW8.out.glt; exact HW8.out.slt) (.inr (HGE.out k (.inl hk)))) (fun k hk => hfar k (HW8.out.kn.lt k hk).2 (.inr (HGE.out k (.inr hk))))
 have h56 : w5.heap.size ≤ d0 := by
  have h1 := HD0.out
  have h2 := HGE.out g (.inl (.inl rfl))
  have h3 := HS56.out
  omega
 have HR9 : Hid (RwB w9 d0 p aA nA cA aG nG cG aN nN cN none 0 0) := ⟨(hfar d0 HR8.out.lt (.inr h56)).trans HR8.out.blk⟩
 have j3 := q1h HW9.out
 have HQ1 : Hid (w.heap.size ≤ g ∧ w.heap.size ≤ gS ∧ w.heap.size ≤ d0) := by
  have h1 := HB5.out.size
  have h2 := HGE.out g (.inl (.inl rfl))
  have h3 := HGE.out gS (.inl (.inr rfl))
  exact ⟨by omega,by omega,by omega⟩
 clear jo hx9 hfar hlw hfw h56 c0 c1 c2 c3 x0 x1 x2 x3 HB5 HS35 HNN HLL HB7 HD0 HS6 HS8 HGE HB8 HV8 HI8 HW8 HR8 HS56 q1 q2
 go_wp2_with fail
 refine j3.mono ?_
 rintro e w10 ⟨hb10,g2,gS2,cS2,rfl,hW2,hg2,hgS2⟩
 have HBx : Hid (Below w9.heap.size w9 w10) := hb10
 obtain ⟨w11,hw11⟩ : ∃ w11,w11 = w10.alloc (.cells #[.pointer (some ⟨g,0,none⟩),.pointer (some ⟨g2,0,none⟩)] 30) := ⟨_,rfl⟩
 obtain ⟨w13,hw13⟩ : ∃ w13,w13 = (w11.alloc (.cells #[.int .i64 p,.slice aA nA cA,.slice aG nG cG,.slice aN nN cN,.slice none 0 0] 43 (0,0))).alloc (.cells #[.pointer (some ⟨d0,0,none⟩),.pointer (some ⟨w11.heap.size,0,none⟩)] 34) := ⟨_,rfl⟩
 have hb11 : Below w10.heap.size w10 w11 := by rw [hw11]; exact q7 _ _
 have hs11 : w11.heap.size = w10.heap.size + 1 := by rw [hw11]; simp
 have hb13 : Below w11.heap.size w11 w13 := by rw [hw13]; exact q5 (q7 w11 _) (q7 _ _)
 have hk11 : w11.heap[w10.heap.size]? = some (.cells #[.pointer (some ⟨g,0,none⟩),.pointer (some ⟨g2,0,none⟩)] 30 (0,0)) := by rw [hw11]; exact (MapKept.heap_alloc w10 _).1
 have hk12 : w13.heap[w11.heap.size]? = some (.cells #[.int .i64 p,.slice aA nA cA,.slice aG nG cG,.slice aN nN cN,.slice none 0 0] 43 (0,0)) := by
  rw [hw13,(q7 (w11.alloc (.cells #[.int .i64 p,.slice aA nA cA,.slice aG nG cG,.slice aN nN cN,.slice none 0 0] 43 (0,0))) _).block w11.heap.size (by simp)]
  exact (MapKept.heap_alloc w11 _).1
 have hk13 : w13.heap[w11.heap.size + 1]? = some (.cells #[.pointer (some ⟨d0,0,none⟩),.pointer (some ⟨w11.heap.size,0,none⟩)] 34 (0,0)) := by
  have := (MapKept.heap_alloc (w11.alloc (.cells #[.int .i64 p,.slice aA nA cA,.slice aG nG cG,.slice aN nN cN,.slice none 0 0] 43 (0,0))) (.cells #[.pointer (some ⟨d0,0,none⟩),.pointer (some ⟨w11.heap.size,0,none⟩)] 34)).1
  rw [hw13]
  simpa using this
 have hb911 := q5 hb10 hb11
 have hb913 := q5 hb911 hb13
 have hsz9 := HB9.out.size
 have hszx := hb10.size
 have HX : Hid (ScX w w13 ⟨p,nA,bs,N,gs⟩ aA cA aG nG cG aN nN cN V w10.heap.size (w11.heap.size + 1)) := by
  have hq := HQ1.out
  have hgl := HW9.out.glt
  have hgs := HW9.out.slt
  have hdl := HR9.out.lt
  exact q4s (HW9.out.up hb913) (hW2.up (q5 hb11 hb13)) (HR9.out.up hb913) ⟨hk12⟩ ((hb13.block _ (by omega)).trans hk11) hk13 ⟨by omega,by omega,by omega,by omega,by omega,by omega,by omega,by omega⟩ ⟨by omega,by omega,by omega⟩ (q5 HB9.out hb913)
 have HS : Hid (BsW w ⟨p,nA,bs,N,gs⟩ aA cA aG nG cG aN nN cN) := ⟨HM.out,HBo.out,HN.out,HG.out⟩
 have q1 := fun w => qR ⟨g2,0,none⟩ w
 obtain ⟨c0,c1,c2,c3⟩ := HV9.out.up hb911
 have HW11 : Hid _ := hw11
 have HW13 : Hid _ := hw13
 have HSZ : Hid _ := hs11
 clear j3 hb10 hW2 hg2 hgS2 hw11 hw13 hb11 hs11 hb13 hk11 hk12 hk13 hb911 hb913 hsz9 hszx HBx HQ1 HV9 HW9 HR9 HB9
 go_wp2_with (first | rw [← HW11.out] | rw [← HW13.out])
 clear HW11 HW13 q1 c0 c1 c2 c3
 go_loopw [13] (fun i wr => ∃ k : Nat,k ≤ m ∧ i = .int .i64 (k : Int) ∧ Hid (ScX w wr ⟨p,nA,bs,N,gs⟩ aA cA aG nG cG aN nN cN V w10.heap.size (w11.heap.size + 1))) (fun i _ => m - (intOf i).toNat)
 case atStart => exact ⟨0,Nat.zero_le _,rfl,HX⟩
 case round =>
  obtain ⟨k,hk,rfl,HXr⟩ := hrel
  clear HX
  have hbr : Below w.heap.size w wr := by
   obtain ⟨G,S,C,D,Y,X,T,h⟩ := HXr.out
   exact h.bel
  by_cases hlt : k < m
  ·have e1 : decide ((k : Int) < (m : Int)) = true := decide_eq_true (by omega)
   obtain ⟨sg,so,ss,hix,a0,a1,a2,o0,o1,o2⟩ := q3u (HL.out.up hbr) k hlt
   have ja := q10 HXr.out HS.out ((acts.getD k (0,0,0)).1) ((acts.getD k (0,0,0)).2.1) ((acts.getD k (0,0,0)).2.2) o1 o2
   clear hbr HXr
   generalize (acts.getD k (0,0,0)).1 = x1 at *
   generalize (acts.getD k (0,0,0)).2.1 = x2 at *
   generalize (acts.getD k (0,0,0)).2.2 = x3 at *
   go_wp2_with fail
   refine ja.mono ?_
   rintro e w14 ⟨rfl,HX14⟩
   clear ja hix a0 a1 a2
   go_wp2
   go_roundw
   case rel => exact ⟨k + 1,by omega,by go_num,HX14⟩
   case measure => simp [intOf]; omega
  ·obtain rfl : k = m := by omega
   have e1 : decide ((k : Int) < (k : Int)) = false := by simp
   have ja := q10 HXr.out HS.out 2 0 0 (by decide) (by decide)
   clear hbr HXr
   go_wp2_with fail
   refine ja.mono ?_
   rintro e w14 ⟨rfl,HX14⟩
   have jb := q10 HX14.out HS.out 2 1 0 (by decide) (by decide)
   clear ja
   go_wp2_with fail
   refine jb.mono ?_
   rintro e w15 ⟨rfl,HX15⟩
   have HE : Hid _ := HQ.out w15 (by obtain ⟨G,S,C,D,Y,X,T,h⟩ := HX15.out; exact h.bel)
   clear jb HX14 HX15 HQ
   go_wp2
   exact HE.out
end Go.Proofs.Ytjpggahiddhanaa
