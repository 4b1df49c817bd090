/- Texts of the proof, put together: what it uses. -/
import Derived.Deep.RegionLaw
import Derived.Deep.RegionLawGrows
import Derived.LaidEqlPtr
import Derived.Lib.LazyBuf
import Derived.Test.YtcnkgokfjafgkaaZ02
set_option maxRecDepth 100000
set_option maxHeartbeats 16000000
namespace Go.Proofs.Ytcnkgokfjafgkaa
open Go.RowKit Go.Maps
structure Hv (w0 w : World) (vl vh : Value) (lo hi : List Int) : Prop where
 ol : w.ownsRow w0.heap.size 3 1 vl lo.length (lo.map (Value.int .i64))
 oh : w.ownsRow w0.heap.size 3 1 vh hi.length (hi.map (Value.int .i64))
 dis : ∀ x,vl.ownBlock = some x → vh.ownBlock ≠ some x
 bel : Below w0.heap.size w0 w
theorem Hv.nil (w : World) : Hv w w (.slice none 0 0) (.slice none 0 0) [] [] := ⟨⟨rfl,Or.inl ⟨rfl,rfl⟩⟩,⟨rfl,Or.inl ⟨rfl,rfl⟩⟩,fun x h => by simp [Value.ownBlock] at h,Below.refl _ _⟩
theorem Hv.swap {w0 w : World} {vl vh : Value} {lo hi : List Int} (h : Hv w0 w vl vh lo hi) : Hv w0 w vh vl hi lo := ⟨h.oh,h.ol,fun x hx he => h.dis x he hx,h.bel⟩
theorem Hv.push {w0 w w' : World} {vl vh : Value} {lo hi : List Int} (h : Hv w0 w vl vh lo hi) (z : Int) (o : Obj) {g cap : Nat} (hown : w'.ownsRow w0.heap.size 3 1 (.slice (some ⟨g,0,none⟩) (lo.length + 1) cap) (lo.length + 1) ((lo ++ [z]).map (Value.int .i64))) (hg : (w.alloc o).grownBy w' vl.ownBlock) (hl : vl.ownBlock = some g ∨ g = (w.alloc o).heap.size) :
  Hv w0 w' (.slice (some ⟨g,0,none⟩) (lo.length + 1) cap) vh (lo ++ [z]) hi := by
 refine ⟨by rw [List.length_append]; exact hown,(h.oh.alloc o).kept hg ?_,fun x hx he => ?_,?_⟩
 ·rcases e : vh.ownBlock with _ | x
  ·exact .inl rfl
  ·refine .inr fun e2 => ?_
   exact h.dis x e2.symm e
 ·simp [Value.ownBlock] at hx
  subst hx
  rcases hl with hl | hl
  ·exact h.dis _ hl he
  ·have := (h.oh.alloc o).lt _ he; omega
 ·exact (h.bel.alloc h.bel.size o).grown hg (h.bel.alloc h.bel.size o).size (fun q e => (h.ol.lt q e).1)
theorem q2E {w : World} {ops : Array Oper} {rest : List Oper} {o : Oper} {a : Act} {Q : Exit → Act → World → Prop} (hgd : o.guard = none) (s x : Operand)
  (ho : o.op = .call { callee := .builtin .append,args := #[s,x],argTypes := #[23,23] }) (base : Nat)
  (v : Value) (n : Nat) (zs : List Int) (hs : a.eval s = v) (hown : w.ownsRow base 3 1 v n (zs.map (Value.int .i64))) (g' : Nat) (z : Int) (hx : a.eval x = .slice (some ⟨g',0,none⟩) 1 1) (hc : w.cell? ⟨g',0,none⟩ = some (.int .i64 z))
  (hn : n + 1 ≤ 2000000) (hbase : base ≤ w.heap.size)
  (h : ∀ g cap w',w'.ownsRow base 3 1 (.slice (some ⟨g,0,none⟩) (n + 1) cap) (n + 1) ((zs ++ [z]).map (Value.int .i64)) → w.grownBy w' v.ownBlock → (v.ownBlock = some g ∨ g = w.heap.size) → wpList Try.prog ops Q rest (a.put o.dst (.slice (some ⟨g,0,none⟩) (n + 1) cap)) w') : wpList Try.prog ops Q (o :: rest) a w := by
 obtain ⟨i,hi,hz0,hz1,hz2⟩ := info_parts q1y
 refine wpList_append_lies w hgd s x 23 ho base 3 i _ 1 8 Try.underlying23 hi hz0 hz1 hz2 rfl (by decide) v n _ hs hown ⟨g',0,none⟩ 1 1 [.int .i64 z] hx rfl ?_ (fun u hu => by simp at hu; subst hu; rfl) (by decide) (by unfold maxLen; omega) (by omega) hbase _ rfl ?_
 ·intro j u hj
  match j with
  | 0 => simp at hj; rw [← hj,q9]; exact hc
  | j + 1 => simp at hj
 ·intro g cap w' h1 h2 h3 _
  exact h g cap w' (by rw [List.map_append]; exact h1) h2 h3
def ndO (y : Gd) : Obj := .cells #[.int .i64 y.1,.int .i64 y.2.1,.int .i64 y.2.2] 45 (0,0)
theorem q7y {w : World} {o : Oper} {a : Act} {K : Act → World → Prop} {Q : Exit → Act → World → Prop} (s x : Operand)
  (ho : o.op = .call { callee := .builtin .append,args := #[s,x],argTypes := #[24,24] }) (base : Nat)
  (v : Value) (n : Nat) (N : List Gd) (y : Gd) (g' : Nat) (hs : a.eval s = v) (hx : a.eval x = .slice (some ⟨g',0,none⟩) 1 1) (hown : w.ownsRow base 45 3 v n (encGd N)) (hB : w.heap[g']? = some (ndO y)) (hn : n ≤ 1000000) (hbase : base ≤ w.heap.size)
  (h : ∀ g cap w',w'.ownsRow base 45 3 (.slice (some ⟨g,0,none⟩) (n + 1) cap) (n + 1) (encGd (N ++ [y])) → w.grownBy w' v.ownBlock → (v.ownBlock = some g ∨ g = w.heap.size) → K (a.put o.dst (.slice (some ⟨g,0,none⟩) (n + 1) cap)) w') : o.wp Try.prog a w K Q := by
 obtain ⟨i,hi,hz0,hz1,hz2⟩ := info_parts q2S
 refine wp_append_lies w s x 24 ho base 45 i _ 3 24 Try.underlying24 hi hz0 hz1 hz2 rfl (by decide) v n _ hs hown ⟨g',0,none⟩ 1 1 (encGd [y]) hx rfl (fun j u hj => ?_) (q4M [y]) (by decide) (by unfold maxLen; omega) (by omega) hbase _ rfl ?_
 ·rw [q9,Nat.zero_add,q6 hB]
  simpa [encGd] using hj
 ·intro g cap w' h1 h2 h3 _
  exact h g cap w' (by rw [q1T]; exact h1) h2 h3
theorem q5M {w : World} {ops : Array Oper} {o : Oper} {a : Act} {K : Act → World → Prop} {Q : Exit → Act → World → Prop} {E : Prop} (hw : Region.wanted o (yielded ops a.tmps) = true) (s x : Operand)
  (ho : o.op = .call { callee := .builtin .append,args := #[s,x],argTypes := #[24,24] }) (base : Nat)
  (v : Value) (n : Nat) (N : List Gd) (y : Gd) (g' : Nat) (hs : a.eval s = v) (hx : a.eval x = .slice (some ⟨g',0,none⟩) 1 1) (hown : w.ownsRow base 45 3 v n (encGd N)) (hB : w.heap[g']? = some (ndO y)) (hn : n ≤ 1000000) (hbase : base ≤ w.heap.size)
  (h : ∀ g cap w',w'.ownsRow base 45 3 (.slice (some ⟨g,0,none⟩) (n + 1) cap) (n + 1) (encGd (N ++ [y])) → w.grownBy w' v.ownBlock → (v.ownBlock = some g ∨ g = w.heap.size) → K (a.put o.dst (.slice (some ⟨g,0,none⟩) (n + 1) cap)) w') :
  if Region.wanted o (yielded ops a.tmps) = true then Oper.wp Try.prog o a w K Q else E := by
 rw [if_pos hw]
 exact q7y s x ho base v n N y g' hs hx hown hB hn hbase h
theorem q3T : ∀ (k : Nat) (p : Int) (f : Nat → Nat) (N : List Gd) (M : Nat),(∀ i,i < 2 ^ k → f i ≤ M) → -(M : Int) - 1 ≤ (adM k p f N).1 ∧ (adM k p f N).1 ≤ (adM k p f N).2.length
 | 0,p,f,N,M,h => by have := h 0 (by simp); simp [adM]; omega
 | k + 1,p,f,N,M,h => by
  have e : 2 ^ (k + 1) = 2 * 2 ^ k := by rw [Nat.pow_succ]; omega
  have hA := q3T k (p + 1) (fun i => f (2 * i)) N M (fun i hi => h _ (by omega))
  rcases e1 : adM k (p + 1) (fun i => f (2 * i)) N with ⟨a,N1⟩
  have hB := q3T k (p + 1) (fun i => f (2 * i + 1)) N1 M (fun i hi => h _ (by omega))
  have hP := (q1R k (p + 1) (fun i => f (2 * i + 1)) N1).1.length_le
  rcases e2 : adM k (p + 1) (fun i => f (2 * i + 1)) N1 with ⟨b,N2⟩
  rw [e1] at hA; rw [e2] at hB hP
  dsimp only at hA hB hP
  rw [qU k p f N e1 e2]
  split
  ·exact ⟨hA.1,by dsimp only; omega⟩
  ·dsimp only
   refine ⟨by omega,?_⟩
   split
   ·rename_i hm; have := List.idxOf_lt_length_of_mem hm; omega
   ·rename_i hm; rw [q3a hm]; simp; omega
theorem qa3 (l : List Nat) (j : Nat) : ((evL l).map Int.ofNat).getD j 0 = (l.map Int.ofNat).getD (2 * j) 0 := by
 have := ev_at l j
 simp only [fnL,List.getD_eq_getElem?_getD] at this
 simp only [List.getD_eq_getElem?_getD,List.getElem?_map]
 rcases h1 : (evL l)[j]? with _ | x <;> rcases h2 : l[2 * j]? with _ | y <;> simp_all <;> omega
theorem qar (l : List Nat) (j : Nat) : ((odL l).map Int.ofNat).getD j 0 = (l.map Int.ofNat).getD (2 * j + 1) 0 := by
 have := od_at l j
 simp only [fnL,List.getD_eq_getElem?_getD] at this
 simp only [List.getD_eq_getElem?_getD,List.getElem?_map]
 rcases h1 : (odL l)[j]? with _ | x <;> rcases h2 : l[2 * j + 1]? with _ | y <;> simp_all <;> omega
theorem q46 {cs : List Int} {k : Nat} (h : k < cs.length) : cs.take (k + 1) = cs.take k ++ [cs.getD k 0] := by
 rw [List.take_add_one,List.getElem?_eq_getElem h]; simp [List.getD_eq_getElem?_getD,List.getElem?_eq_getElem h]
theorem q1U : ∀ (l : List Nat),(∀ v ∈ evL l,v ∈ l) ∧ ∀ v ∈ odL l,v ∈ l
 | a :: b :: l => by
  have h := q1U l
  refine ⟨fun v hv => ?_,fun v hv => ?_⟩
  ·simp only [evL,List.mem_cons] at hv ⊢
   rcases hv with rfl | hv
   ·exact .inl rfl
   ·exact .inr (.inr (h.1 v hv))
  ·simp only [odL,List.mem_cons] at hv ⊢
   rcases hv with rfl | hv
   ·exact .inr (.inl rfl)
   ·exact .inr (.inr (h.2 v hv))
 | [a] => ⟨fun v hv => by simpa [evL] using hv,fun v hv => by simp [odL] at hv⟩
 | [] => ⟨fun v hv => by simp [evL] at hv,fun v hv => by simp [odL] at hv⟩
theorem q4z (w : World) : (w.alloc (.cells #[] 45)).ownsRow w.heap.size 45 3 (.slice (some ⟨w.heap.size,0,none⟩) 0 0) 0 (encGd []) :=
 ⟨rfl,Or.inr ⟨w.heap.size,0,#[],rfl,Nat.le_refl _,(MapKept.heap_alloc w _).1,Nat.le_refl _,by unfold maxLen; omega,by simp,by simp [encGd]⟩⟩
theorem q8R {n : Nat} {N : List Gd} {l : List Int} (h : l.length ≠ 2 ^ n ∨ ¬ ∀ v ∈ l,0 ≤ v ∧ v ≤ 1048575) : addG n N l = ((0,2),N) := by unfold addG; rw [if_pos h]
theorem q9Z {n : Nat} {N : List Gd} {l : List Int} (h1 : l.length = 2 ^ n) (h2 : ∀ v ∈ l,0 ≤ v ∧ v ≤ 1048575) {r : Int} {N' : List Gd} (e : adM n 0 (fnL (l.map Int.toNat)) N = (r,N')) : addG n N l = if 4096 < N'.length then ((0,11),N) else ((r,0),N') := by
 unfold addG
 rw [if_neg (by rintro (h | h); exact h h1; exact h h2),e]
theorem q7O {l : List Int} (h : ∀ v ∈ l,0 ≤ v ∧ v ≤ 1048575) : (l.map Int.toNat).map Int.ofNat = l := by
 rw [List.map_map]
 refine (List.map_congr_left (g := id) fun v hv => ?_).trans (List.map_id l)
 have := (h v hv).1
 simp; omega
theorem qb {w w' : World} {base e size n : Nat} {v : Value} {xs : List Value} (h : w.ownsRow base e size v n xs) (hb : ∀ k,v.ownBlock = some k → w'.heap[k]? = w.heap[k]?) : w'.ownsRow base e size v n xs := by
 obtain ⟨hl,h⟩ := h
 refine ⟨hl,h.imp id ?_⟩
 rintro ⟨g,cap,cur,rfl,hg,hcell,r⟩
 exact ⟨g,cap,cur,rfl,hg,(hb g rfl).trans hcell,r⟩
theorem q2o {w : World} {base n g : Nat} {v : Value} {xs : List Value} {o : Obj} (h : w.ownsRow base 45 3 v n xs) (hg : w.heap[g]? = some o) (ho : ∀ cs,o ≠ .cells cs 45 (0,0)) : v.ownBlock ≠ some g := by
 rcases h.2 with ⟨rfl,_⟩ | ⟨g',cap,cur,rfl,_,hc,_⟩
 ·intro e; cases e
 ·intro e
  injection e with e
  dsimp only at e
  subst e
  rw [hg] at hc
  injection hc with hc
  exact ho _ hc
def stO (g n : Nat) (v : Value) (mb : Nat) : Obj := .cells #[.pointer (some ⟨g,0,none⟩),.int .i64 (n : Int),v,.map (some mb)] 111 (0,0)
structure StRG (w : World) (g n : Nat) (a : Option Addr) (len cap mb : Nat) (N : List Gd) : Prop where
 hn : N.length = len
 hc : len ≤ cap
 bd : cap ≤ maxLen
 nn : a = none → cap = 0
 blk : w.heap[g]? = some (stO g n (.slice a len cap) mb)
 row : w.ownsRow 0 45 3 (.slice a len cap) len (encGd N)
 num : NumG w mb len (posG N)
structure StG (w : World) (F : Nat → Prop) (g n : Nat) (N : List Gd) : Prop where
 nd : N.Nodup
 ok : ∀ t ∈ N,GdOk t
 ex : ∃ v mb,w.heap[g]? = some (stO g n v mb) ∧ w.ownsRow 0 45 3 v N.length (encGd N) ∧ NumG w mb N.length (posG N) ∧ ∀ k,F k ↔ (k = g ∨ k = mb ∨ v.ownBlock = some k)
theorem StG.lt {w : World} {F : Nat → Prop} {g n : Nat} {N : List Gd} (h : StG w F g n N) : ∀ k,F k → k < w.heap.size := by
 obtain ⟨v,mb,h1,h2,h3,h4⟩ := h.ex
 intro k hk
 rcases (h4 k).1 hk with rfl | rfl | hk
 ·exact (Array.getElem?_eq_some_iff.1 h1).1
 ·exact h3.lt
 ·exact (h2.lt k hk).2
theorem StG.far {w w' : World} {F : Nat → Prop} {g n : Nat} {N : List Gd} (h : StG w F g n N) (hb : ∀ k,F k → w'.heap[k]? = w.heap[k]?) : StG w' F g n N := by
 obtain ⟨v,mb,h1,h2,h3,h4⟩ := h.ex
 exact ⟨h.nd,h.ok,v,mb,(hb g ((h4 g).2 (Or.inl rfl))).trans h1,qb h2 (fun k hk => hb k ((h4 k).2 (Or.inr (Or.inr hk)))),h3.far (hb mb ((h4 mb).2 (Or.inr (Or.inl rfl)))),h4⟩
theorem StG.up {w w' : World} {F : Nat → Prop} {g n : Nat} {N : List Gd} (h : StG w F g n N) (hb : Below w.heap.size w w') : StG w' F g n N := h.far fun k hk => hb.block k (h.lt k hk)
theorem StG.read {w : World} {F : Nat → Prop} {g n : Nat} {N : List Gd} (h : StG w F g n N) : ∃ a cap mb,StRG w g n a N.length cap mb N ∧ ∀ k,F k ↔ (k = g ∨ k = mb ∨ (Value.slice a N.length cap).ownBlock = some k) := by
 obtain ⟨v,mb,h1,h2,h3,h4⟩ := h.ex
 rcases h2.2 with ⟨rfl,e0⟩ | ⟨g',cap,cur,rfl,_,_,hnc,hcm,_⟩
 ·have hnil : N = [] := List.eq_nil_of_length_eq_zero e0
  subst hnil
  exact ⟨none,0,mb,⟨rfl,Nat.le_refl _,Nat.zero_le _,fun _ => rfl,h1,h2,h3⟩,h4⟩
 ·exact ⟨some ⟨g',0,none⟩,cap,mb,⟨rfl,hnc,hcm,fun e => (by cases e),h1,h2,h3⟩,h4⟩
theorem StRG.up {w w' : World} {g n len cap mb : Nat} {a : Option Addr} {N : List Gd} (h : StRG w g n a len cap mb N) (hb : Below w.heap.size w w') : StRG w' g n a len cap mb N :=
 ⟨h.hn,h.hc,h.bd,h.nn,(hb.block g (Array.getElem?_eq_some_iff.1 h.blk).1).trans h.blk,qC h.row hb,h.num.far (hb.block mb h.num.lt)⟩
theorem StRG.c0 {w : World} {g n len cap mb : Nat} {a : Option Addr} {N : List Gd} (h : StRG w g n a len cap mb N) : w.cell? ⟨g,0,none⟩ = some (.pointer (some ⟨g,0,none⟩)) := q6 h.blk 0
theorem StRG.c1 {w : World} {g n len cap mb : Nat} {a : Option Addr} {N : List Gd} (h : StRG w g n a len cap mb N) : w.cell? ⟨g,1,none⟩ = some (.int .i64 (n : Int)) := q6 h.blk 1
theorem StRG.c2 {w : World} {g n len cap mb : Nat} {a : Option Addr} {N : List Gd} (h : StRG w g n a len cap mb N) : w.cell? ⟨g,2,none⟩ = some (.slice a len cap) := q6 h.blk 2
theorem StRG.c3 {w : World} {g n len cap mb : Nat} {a : Option Addr} {N : List Gd} (h : StRG w g n a len cap mb N) : w.cell? ⟨g,3,none⟩ = some (.map (some mb)) := q6 h.blk 3
theorem StRG.nds {w : World} {g n len cap mb : Nat} {a : Option Addr} {N : List Gd} (h : StRG w g n a len cap mb N) (hok : ∀ t ∈ N,GdOk t) : NdSl w a len cap N := by
 obtain ⟨a',cap',e,hs,_⟩ := q8l h.row hok
 injection e with e1 _ e3
 subst e1 e3
 exact hs
theorem q1q (n : Int) (w : World) : Calls Try.prog 64 #[.int .i64 n] w fun e w' => e = .returned (.bool (decide (0 ≤ n ∧ n ≤ 8))) ∧ w' = w := by
 obtain ⟨b,hb⟩ : ∃ b,b = decide (0 ≤ n ∧ n ≤ 8) := ⟨_,rfl⟩
 rw [← hb]
 have HB : Hid _ := hb
 clear hb
 by_cases h0 : 0 ≤ n
 ·have d0 : decide (0 ≤ n) = true := by simpa using h0
  have HX : Hid (b = decide (n ≤ 8)) := by show _ = _; rw [HB.out]; simp [h0]
  go_enter Try.func64,Try.ntmps64
  go_wp2
  go_ret
  exact ⟨by rw [HX.out]; rfl,rfl⟩
 ·have d0 : decide (0 ≤ n) = false := by simpa using h0
  have HX : Hid (b = false) := by show _ = _; rw [HB.out]; simp [h0]
  go_enter Try.func64,Try.ntmps64
  go_wp2
  go_ret
  exact ⟨by rw [HX.out]; rfl,rfl⟩
theorem q5k (n : Int) (w : World) : Calls Try.prog 78 #[.int .i64 n] w fun e w' => e = .returned (.bool (decide (0 ≤ n ∧ n ≤ 7))) ∧ w' = w := by
 obtain ⟨b,hb⟩ : ∃ b,b = decide (0 ≤ n ∧ n ≤ 7) := ⟨_,rfl⟩
 rw [← hb]
 have HB : Hid _ := hb
 clear hb
 by_cases h0 : 0 ≤ n
 ·have d0 : decide (0 ≤ n) = true := by simpa using h0
  have HX : Hid (b = decide (n < 8)) := by
   show _ = _; rw [HB.out]
   by_cases h7 : n ≤ 7
   ·have : n < 8 := by omega
    simp [h0,h7,this]
   ·have : ¬ n < 8 := by omega
    simp [h7,this]
  go_enter Try.func78,Try.ntmps78
  go_wp2
  go_ret
  exact ⟨by rw [HX.out]; rfl,rfl⟩
 ·have d0 : decide (0 ≤ n) = false := by simpa using h0
  have HX : Hid (b = false) := by show _ = _; rw [HB.out]; simp [h0]
  go_enter Try.func78,Try.ntmps78
  go_wp2
  go_ret
  exact ⟨by rw [HX.out]; rfl,rfl⟩
theorem q1L (n : Int) (w : World) (hn : I64 n) : Calls Try.prog 80 #[.int .i64 n] w fun e w' => e = .returned (.int .i64 (-1 - n)) ∧ w' = w := by
 have h0 := hn.1
 have h1 := hn.2
 go_enter Try.func80,Try.ntmps80
 go_wp2
 go_ret
 exact ⟨rfl,rfl⟩
theorem q6B : ∃ j, Try.prog.info? 111 = some j := by
  cases h : Try.prog.info? 111 with
  | some j => exact ⟨j, rfl⟩
  | none => exact absurd h (by have : (Try.prog.info? 111).isSome = true := by kernel_rfl
                               intro e; rw [e] at this; cases this)
theorem q5s (a : Addr) (w : World) : (binOp .eql 81 (.pointer (some a)) (.pointer (some a))).run Try.prog w = .ok (.bool true) w := by
 obtain ⟨j,hj⟩ := q6B
 exact run_eql_ptr_same w a Try.underlying81 hj
theorem q2W {w : World} {g n len cap mb : Nat} {a : Option Addr} {N : List Gd} (h : StRG w g n a len cap mb N) : Calls Try.prog 70 #[.pointer (some ⟨g,0,none⟩)] w fun e w' => e = .returned (.bool true) ∧ w' = w := by
 have c0 := h.c0
 have hp := fun w => q5s ⟨g,0,none⟩ w
 go_enter Try.func70,Try.ntmps70
 go_wp2
 go_ret
 exact ⟨rfl,rfl⟩
theorem qaG (w : World) (n g : Nat) (hg : g = w.heap.size + 1) : StG ((w.alloc (.map #[] 0)).alloc (stO g n (.slice none 0 0) w.heap.size)) (fun k => k = g ∨ k = w.heap.size) g n [] := by
 have h1 : ((w.alloc (.map #[] 0)).alloc (stO g n (.slice none 0 0) w.heap.size)).heap[g]? = some (stO g n (.slice none 0 0) w.heap.size) := by
  have := (MapKept.heap_alloc (w.alloc (.map #[] 0)) (stO g n (.slice none 0 0) w.heap.size)).1
  rw [show (w.alloc (.map #[] 0)).heap.size = g by simp; omega] at this
  exact this
 have h2 : NumG ((w.alloc (.map #[] 0)).alloc (stO g n (.slice none 0 0) w.heap.size)) w.heap.size 0 (posG []) := ((q52 w).far ((q5 (w.alloc (.map #[] 0)) _).block w.heap.size (by simp))).alike fun x _ => rfl
 refine ⟨by simp,fun x hx => (by simp at hx),.slice none 0 0,w.heap.size,h1,⟨rfl,Or.inl ⟨rfl,rfl⟩⟩,h2,fun k => ?_⟩
 constructor
 ·rintro (h | h)
  ·exact Or.inl h
  ·exact Or.inr (Or.inl h)
 ·rintro (h | h | h)
  ·exact Or.inl h
  ·exact Or.inr h
  ·cases h
def SnR (n : Int) (w : World) (e : Ending) (w' : World) : Prop := Below w.heap.size w w' ∧
 ((¬ (0 ≤ n ∧ n ≤ 8) ∧ e = .returned (.tuple #[.pointer none,.int .i64 2])) ∨
  (0 ≤ n ∧ n ≤ 8 ∧ ∃ g F,e = .returned (.tuple #[.pointer (some ⟨g,0,none⟩),.int .i64 0]) ∧ (∀ k,F k → w.heap.size ≤ k) ∧ StG w' F g n.toNat []))
theorem q2X (n : Int) (w : World) : Calls Try.prog 51 #[.int .i64 n] w (SnR n w) := by
 have hmm := @run_makeMap Try.prog
 have hc := fun w => q1q n w
 by_cases h : 0 ≤ n ∧ n ≤ 8
 ·rw [decide_eq_true h] at hc
  have HE : Hid (SnR n w (.returned (.tuple #[.pointer (some ⟨w.heap.size + 1,0,none⟩),.int .i64 0])) ((w.alloc (.map #[] 0)).alloc (.cells #[.pointer (some ⟨w.heap.size + 1,0,none⟩),.int .i64 n,.slice none 0 0,.map (some w.heap.size)] 111 (0,0)))) := by
   refine ⟨q7 (q5 w _) (q5 _ _),.inr ⟨h.1,h.2,w.heap.size + 1,fun k => k = w.heap.size + 1 ∨ k = w.heap.size,rfl,fun k hk => by omega,?_⟩⟩
   have := qaG w n.toNat (w.heap.size + 1) rfl
   unfold stO at this
   rw [Int.toNat_of_nonneg h.1] at this
   exact this
  generalize SnR n w = Q at *
  go_enter Try.func51,Try.ntmps51
  go_wp2_with (go_at_call 64; refine (hc _).mono ?_; rintro e w' ⟨rfl,hw1⟩; obtain rfl := hw1.symm)
  exact HE.out
 ·rw [decide_eq_false h] at hc
  have HE : Hid (SnR n w (.returned (.tuple #[.pointer none,.int .i64 2])) w) := ⟨Below.refl _ _,.inl ⟨h,rfl⟩⟩
  generalize SnR n w = Q at *
  go_enter Try.func51,Try.ntmps51
  go_wp2_with (go_at_call 64; refine (hc _).mono ?_; rintro e w' ⟨rfl,hw1⟩; obtain rfl := hw1.symm)
  exact HE.out
def NdsR (N : List Gd) (w : World) (e : Ending) (w' : World) : Prop := Below w.heap.size w w' ∧ ∃ v,e = .returned v ∧ w'.ownsRow w.heap.size 45 3 v N.length (encGd N)
theorem q4h (a : Option Addr) (n c : Nat) (N : List Gd) (w : World) (hS : NdSl w a n c N) (hn : n ≤ 1000000) :
  Calls Try.prog 75 #[.slice a n c] w (NdsR N w) := by
 have hln := hS.hlen
 cases a with
 | none =>
  have hc0 := hS.nn rfl
  have hn0 : n = 0 := by have := hS.hcap; omega
  subst hc0 hn0
  have hl := List.eq_nil_of_length_eq_zero hln
  subst hl
  have hnil := fun w => _root_.Go.run_eql_slice_nil (P := Try.prog) w 24 45 none 0 0 Try.underlying24
  dsimp only [Option.isNone] at hnil
  go_enter Try.func75,Try.ntmps75
  go_wp2
  go_ret
  exact ⟨Below.refl _ _,_,rfl,⟨rfl,Or.inl ⟨rfl,rfl⟩⟩⟩
 | some x =>
  have hnil := fun w => _root_.Go.run_eql_slice_nil (P := Try.prog) w 24 45 (some x) n c Try.underlying24
  dsimp only [Option.isNone] at hnil
  have hE := q4z w
  have hb1 := q5 w (.cells #[] 45)
  have hT := hS.up hb1
  have hsz := hb1.size
  have HNl : Hid (N.length ≤ 1000000) := by show _ ≤ _; omega
  have HB : Hid (∀ w1,(w.alloc (.cells #[] 45)).grownBy w1 (some w.heap.size) → Below w.heap.size w w1) := fun w1 h2 => ((Below.refl _ _).alloc (Nat.le_refl _) _).grown h2 (by simp) (fun k hk => by cases hk; exact Nat.le_refl _)
  clear hS hln hb1
  go_enter Try.func75,Try.ntmps75
  go_wp2_with (at_builtin; refine q49 rfl _ _ rfl w.heap.size _ [] N (some x) n c rfl rfl hE hT (Nat.zero_le _) HNl.out hsz ?_)
  intro v3 w3 hown3 hgr3
  obtain ⟨a3,c3,rfl⟩ := qe hown3
  have HO : Hid _ := hown3
  have HG : Hid _ := HB.out w3 hgr3
  go_wp2
  go_ret
  exact ⟨HG.out,_,rfl,HO.out⟩
theorem q2h {w : World} {F : Nat → Prop} {g n : Nat} {N : List Gd} (h : StG w F g n N) (hN : N.length ≤ 1000000) : Calls Try.prog 54 #[.pointer (some ⟨g,0,none⟩)] w (NdsR N w) := by
 obtain ⟨a,cap,mb,hr,_⟩ := h.read
 have c2 := hr.c2
 have hm := q2W hr
 have hj := q4h a N.length cap N w (hr.nds h.ok) hN
 generalize hQ : NdsR N w = Q at *
 have HQ2 : Hid _ := hQ
 go_enter Try.func54,Try.ntmps54
 go_wp2_with (go_at_call 70; refine hm.mono ?_; rintro e w' ⟨rfl,hw1⟩; obtain rfl := hw1.symm)
 refine hj.mono ?_
 intro e w2 hq
 rw [← HQ2.out] at hq
 obtain ⟨hb,v,rfl,ho⟩ := hq
 obtain ⟨a3,c3,rfl⟩ := qe ho
 have HE : Hid (Q (.returned (.slice a3 N.length c3)) w2) := by rw [← HQ2.out]; exact ⟨hb,_,rfl,ho⟩
 go_wp2
 exact HE.out
theorem qaI (x : Int) (k : Nat) (h0 : 0 ≤ x) (h1 : x < 256) : (bits .and .u8 (x / 2 ^ k) 1 == 1) = x.toNat.testBit k := by
 obtain ⟨n,rfl⟩ : ∃ n : Nat,x = (n : Int) := ⟨x.toNat,by omega⟩
 have e : ((n : Int) / 2 ^ k) = ((n / 2 ^ k : Nat) : Int) := by simp
 have hd : n / 2 ^ k ≤ n := Nat.div_le_self _ _
 rw [e]
 have := u8_and_nat (n / 2 ^ k) 1 (by omega) (by decide)
 rw [show ((1 : Nat) : Int) = 1 from rfl] at this
 rw [this,Nat.and_one_is_mod,Int.toNat_natCast,Nat.testBit_eq_decide_div_mod_eq]
 by_cases h : n / 2 ^ k % 2 = 1 <;> simp [h] <;> omega
theorem q5l (P lo hi : Int) (p x : Nat) (w : World) (hP : P = (p : Int)) (hp : p ≤ 7) (hx : x < 256) :
  Calls Try.prog 79 #[.agg #[.int .i64 P,.int .i64 lo,.int .i64 hi],.int .u8 (x : Int)] w fun e w' => e = .returned (.int .i64 (if x.testBit p then hi else lo)) ∧ Below w.heap.size w w' := by
 subst hP
 have HB0 : Hid _ := q5 w (.cells #[.int .i64 (p : Int),.int .i64 lo,.int .i64 hi] 45 (0,0))
 have h := (MapKept.heap_alloc w (.cells #[.int .i64 (p : Int),.int .i64 lo,.int .i64 hi] 45 (0,0))).1
 have c0 := q6 h 0
 have c1 := q6 h 1
 have c2 := q6 h 2
 simp only [List.getElem?_toArray,List.getElem?_cons_zero,List.getElem?_cons_succ] at c0 c1 c2
 have hbs : (bits BinOp.and IntKind.u8 ((x : Int) / 2 ^ p) 1 == 1) = x.testBit p := by simpa using qaI (x : Int) p (by omega) (by omega)
 generalize x.testBit p = b at *
 cases b with
 | true =>
  go_enter Try.func79,Try.ntmps79
  go_wp2
  go_ret
  exact ⟨rfl,HB0.out⟩
 | false =>
  go_enter Try.func79,Try.ntmps79
  go_wp2
  go_ret
  exact ⟨rfl,HB0.out⟩
theorem q3j (a : Option Addr) (len cap : Nat) (N : List Gd) (r : Int) (x : Nat) (w : World) (hN : NdSl w a len cap N) (hr : I64 r) (hx : x < 256) :
  Calls Try.prog 61 #[.slice a len cap,.int .i64 r,.int .u8 (x : Int)] w fun e w' => e = .returned (goV (goG N x 8 r)) ∧ Below w.heap.size w w' := by
 have hb0 := hN.bd
 unfold maxLen at hb0
 have HL : Hid _ := hN.hlen
 have HN : Hid _ := hN
 obtain ⟨G,eG⟩ : ∃ G,G = goG N x 8 r := ⟨_,rfl⟩
 rw [← eG]
 have HG : Hid _ := eG.symm
 clear eG hN
 go_enter Try.func61,Try.ntmps61
 go_wp2
 go_loopw [1,8] (fun v i wr => ∃ (k : Nat) (z : Int),k ≤ 8 ∧ i = .int .i64 k ∧ v = .int .i64 z ∧ I64 z ∧ Hid (goG N x (8 - k) z = G) ∧ Hid (Below w.heap.size w wr)) (fun _ i _ => 9 - (intOf i).toNat)
 case atStart => exact ⟨0,r,by omega,rfl,rfl,hr,HG,Below.refl _ _⟩
 case round =>
  obtain ⟨k,z,hk,rfl,rfl,hz,HU,HB⟩ := hrel
  by_cases hneg : z < 0
  ·have HX : Hid (G = some (-1 - z)) := by show _ = _; rw [← HU.out,q1t hneg]
   have jo := fun w => q1L z w hz
   have d0 : decide (0 ≤ z) = false := by simp; omega
   go_wp2_with (go_at_call 80; refine (jo _).mono ?_; rintro e w' ⟨rfl,hw1⟩; obtain rfl := hw1.symm)
   go_ret2
   exact ⟨by rw [HX.out]; rfl,HB.out⟩
  ·have d0 : decide (0 ≤ z) = true := by simp; omega
   by_cases hk8 : k = 8
   ·subst hk8
    have HX : Hid (G = none) := by show _ = _; rw [← HU.out]; exact q5X (by omega)
    go_wp2
    go_ret2
    exact ⟨by rw [HX.out]; rfl,HB.out⟩
   ·have d4 : ((k : Int) == 8) = false := by simp; omega
    by_cases hge : (len : Int) ≤ z
    ·have HX : Hid (G = none) := by show _ = _; rw [← HU.out,qaa (by omega) (by rw [HL.out]; exact hge)]
     go_wp2
     go_ret2
     exact ⟨by rw [HX.out]; rfl,HB.out⟩
    ·obtain ⟨i,rfl⟩ : ∃ i : Nat,z = (i : Int) := ⟨z.toNat,by omega⟩
     have hil : i < len := by omega
     obtain ⟨g,o,s,hix,c0,c1,c2,_,_,hok⟩ := (HN.out.up HB.out).at Try.underlying24 qp i hil
     have HBd : Hid (∀ j : Nat,¬ (0 ≤ (N.getD i (0,0,0)).1 ∧ (N.getD i (0,0,0)).1 ≤ 7) → goG N x j (i : Int) = none) := fun j h => qa9 h
     have HS : Hid (∀ (j : Nat) (P lo hi : Int),N.getD i (0,0,0) = (P,lo,hi) → 0 ≤ P → P ≤ 7 → goG N x (j + 1) (i : Int) = goG N x j (if x.testBit P.toNat then hi else lo)) := fun j P lo hi e h0 h7 => q98 (by rw [HL.out]; exact hil) e h0 h7
     generalize N.getD i (0,0,0) = nd at *
     obtain ⟨P,lo,hi⟩ := nd
     dsimp only at c0 c1 c2
     have jp := fun w => q5k P w
     by_cases hP : 0 ≤ P ∧ P ≤ 7
     ·obtain ⟨p,rfl⟩ : ∃ p : Nat,P = (p : Int) := ⟨P.toNat,by omega⟩
      have hp7 : p ≤ 7 := by omega
      rw [decide_eq_true hP] at jp
      have HX : Hid (goG N x (8 - (k + 1)) (if x.testBit p then hi else lo) = G) := by
       show _ = _
       have := HS.out (8 - (k + 1)) p lo hi rfl (by omega) (by omega)
       rw [show 8 - (k + 1) + 1 = 8 - k by omega,HU.out] at this
       exact this.symm
      have hlo : I64 (if x.testBit p then hi else lo) := by split; exact hok.2.2; exact hok.2.1
      have js := q5l (p : Int) lo hi p x wr rfl hp7 hx
      generalize (if x.testBit p then hi else lo) = z2 at *
      go_wp2_with (first
       | (go_at_call 78; refine (jp _).mono ?_; rintro e w' ⟨rfl,hw1⟩; obtain rfl := hw1.symm)
       | (go_at_call 79; (with_reducible refine js.mono ?_); rintro e w6 ⟨rfl,hb6⟩; have HB6 : Hid _ := q7 HB.out hb6; clear hb6))
      go_roundw
      case rel => exact ⟨k + 1,z2,by omega,by go_num,rfl,hlo,HX,HB6⟩
      case measure => simp [intOf]; omega
     ·have HX : Hid (G = none) := by show _ = _; rw [← HU.out,HBd.out _ hP]
      rw [decide_eq_false hP] at jp
      go_wp2_with (go_at_call 78; refine (jp _).mono ?_; rintro e w' ⟨rfl,hw1⟩; obtain rfl := hw1.symm)
      go_ret2
      exact ⟨by rw [HX.out]; rfl,HB.out⟩
def LtRow (w : World) (g : Nat) (zs : List Int) : Prop := w.heap[g]? = some (.cells (zs.map (Value.int .u8)).toArray 34 (0,0))
def allTo (k M : Nat) : List Int := (List.range M).map fun i => if i < k then (i : Int) else 0
theorem q29 (k M : Nat) : (allTo k M).length = M := by simp [allTo]
theorem q28 {k M i : Nat} (h : i < M) : (allTo k M)[i]? = some (if i < k then (i : Int) else 0) := by simp [allTo,h]
theorem q83 {k M : Nat} (h : k < M) : (allTo k M).set k (k : Int) = allTo (k + 1) M := by
 apply List.ext_getElem?
 intro i
 rw [List.getElem?_set]
 by_cases hi : i < M
 ·rw [q28 hi,q28 hi]
  by_cases e : k = i
  ·subst e; simp [q29,h]
  ·rw [if_neg e]
   by_cases hk : i < k
   ·rw [if_pos hk,if_pos (by omega)]
   ·rw [if_neg hk,if_neg (by omega)]
 ·have h1 : (allTo k M)[i]? = none := List.getElem?_eq_none (by rw [q29]; omega)
  have h2 : (allTo (k + 1) M)[i]? = none := List.getElem?_eq_none (by rw [q29]; omega)
  rw [h1,h2,q29]
  split <;> simp; omega
theorem madeL (n : Nat) : madeCells #[.int .u8 0] n = ((allTo 0 n).map (Value.int .u8)).toArray := by
 apply Array.ext_getElem?
 intro i
 by_cases h : i < n
 ·simp [madeCells,allTo,h,Nat.mod_one]
 ·simp [madeCells,allTo,h]
theorem q7r : (Try.prog.info? 34).map (·.size) = some 1 := by kernel_rfl
theorem q7l : (Try.prog.info? 34).map (fun i => (i.zero,i.size,i.bytes)) = some (some (.int .u8 0),1,1) := by kernel_rfl
theorem q7n (c : Nat) (hb : c ≤ 1000000) (w : World) :
  (Instr.makeSlice 27 (.int .i64 (c : Int)) (.int .i64 (c : Int))).run Try.prog w = .ok (.slice (some ⟨w.heap.size,0,none⟩) c c) (w.alloc (.cells ((allTo 0 c).map (Value.int .u8)).toArray 34)) := by
 obtain ⟨i,hi,hz0,hz1,hz2⟩ := info_parts q7l
 have := run_make (P := Try.prog) w 27 34 i (.int .u8 0) Try.underlying27 hi hz0 .i64 .i64 c c (by omega) (by omega) (by rw [hz2]; omega) (by omega)
 rw [this,hz1,← madeL]
 simp only [Int.toNat_natCast,Nat.mul_one]
 rfl
theorem q4E (g c k : Nat) (hk : k < c) (w : World) : (Instr.indexAt 27 (.slice (some ⟨g,0,none⟩) c c) (.int .i64 (k : Int))).run Try.prog w = .ok (.pointer (some ⟨g,k,none⟩)) w := by
 have := qt (P := Try.prog) (T := 27) (e := 34) Try.underlying27 q7r (a := some ⟨g,0,none⟩) (cap := c) (n := c) (by simp) k w hk
 simpa [adOf,q9] using this
theorem q4n (n : Int) (w : World) (h0 : 0 ≤ n) (h8 : n ≤ 8) : Calls Try.prog 59 #[.int .i64 n] w fun e w' => e = .returned (.bool true) ∧ w' = w := by
 go_enter Try.func59,Try.ntmps59
 go_wp2
 go_ret
 exact ⟨rfl,rfl⟩
theorem q5G (m : Nat) (hm : m ≤ 8) (w : World) : Calls Try.prog 88 #[.int .i64 (m : Int)] w fun e w' => ∃ g,e = .returned (.slice (some ⟨g,0,none⟩) (2 ^ m) (2 ^ m)) ∧ LtRow w' g (allTo (2 ^ m) (2 ^ m)) ∧ Below w.heap.size w w' := by
 have hsh := q4C m hm
 have hM : 2 ^ m ≤ 256 := Nat.pow_le_pow_right (by decide) hm
 have jc := fun w => q4n (m : Int) w (by omega) (by omega)
 generalize hMM : 2 ^ m = M at *
 have hmk := fun w => q7n M (by omega) w
 have HR0 : Hid (LtRow (w.alloc (.cells ((allTo 0 M).map (Value.int .u8)).toArray 34)) w.heap.size (allTo 0 M)) := (MapKept.heap_alloc w _).1
 have HB0 : Hid _ := q5 w (.cells ((allTo 0 M).map (Value.int .u8)).toArray 34)
 go_enter Try.func88,Try.ntmps88
 go_wp2_with (go_at_call 59; refine (jc _).mono ?_; rintro e w' ⟨rfl,hw1⟩; obtain rfl := hw1.symm)
 go_loopw [13] (fun i wr => ∃ k : Nat,k ≤ M ∧ i = .int .i64 (k : Int) ∧ Hid (LtRow wr w.heap.size (allTo k M)) ∧ Hid (Below w.heap.size w wr)) (fun i _ => M - (intOf i).toNat)
 case atStart => exact ⟨0,Nat.zero_le _,rfl,HR0,HB0⟩
 case round =>
  obtain ⟨k,hk,rfl,HR,HB⟩ := hrel
  by_cases hlt : k < M
  ·have hix := fun w' => q4E w.heap.size M k hlt w'
   obtain ⟨b,cb⟩ : ∃ b,wr.cell? ⟨w.heap.size,k,none⟩ = some (.int .u8 b) := ⟨_,(q6 HR.out k).trans (by simp [q28 hlt]; rfl)⟩
   have zb := frozen_of_row _ _ k _ _ HR.out
   have HRN : Hid (LtRow (wr.setCell ⟨w.heap.size,k,none⟩ (.int .u8 (k : Int))) w.heap.size (allTo (k + 1) M)) := by
    unfold LtRow
    show _ = _
    rw [heap_setCell_same wr _ k _ _ (.int .u8 (k : Int)) HR.out,← q83 hlt]
    simp [List.map_set]
   have HBN : Hid (Below w.heap.size w (wr.setCell ⟨w.heap.size,k,none⟩ (.int .u8 (k : Int)))) := HB.out.setCell (Nat.le_refl _) _
   go_wp2
   go_roundw
   case rel => exact ⟨k + 1,by omega,by go_num,HRN,HBN⟩
   case measure => simp [intOf] <;> omega
  ·obtain rfl : k = M := by omega
   go_wp2
   go_ret
   exact ⟨w.heap.size,rfl,HR.out,HB.out⟩
theorem q5I (c : Nat) (hb : c ≤ 1000000) (w : World) :
  (Instr.makeSlice 23 (.int .i64 0) (.int .i64 (c : Int))).run Try.prog w = .ok (.slice (some ⟨w.heap.size,0,none⟩) 0 c) (w.alloc (.cells ((List.replicate c (0 : Int)).map (Value.int .i64)).toArray 3)) := by
 obtain ⟨i,hi,hz0,hz1,hz2⟩ := info_parts q1y
 have := run_make (P := Try.prog) w 23 3 i (.int .i64 0) Try.underlying23 hi hz0 .i64 .i64 0 c (by omega) (by omega) (by rw [hz2]; omega) (by omega)
 rw [this,hz1,← madeI]
 simp only [Int.toNat_natCast,Nat.mul_one]
 rfl
theorem q9q (w : World) (c : Nat) (hc : c ≤ 1000000) : (w.alloc (.cells ((List.replicate c (0 : Int)).map (Value.int .i64)).toArray 3)).ownsRow w.heap.size 3 1 (.slice (some ⟨w.heap.size,0,none⟩) 0 c) 0 [] :=
 ⟨rfl,Or.inr ⟨w.heap.size,c,_,rfl,Nat.le_refl _,(MapKept.heap_alloc w _).1,Nat.zero_le _,by unfold maxLen; omega,by simp,by simp⟩⟩
theorem qas {w : World} {base n g : Nat} {v : Value} {xs : List Value} {zs : List Int} (h : w.ownsRow base 3 1 v n xs) (hg : LtRow w g zs) : v.ownBlock ≠ some g := by
 rcases h.2 with ⟨rfl,_⟩ | ⟨g',cap,cur,rfl,_,hc,_⟩
 ·intro e; cases e
 ·intro e
  injection e with e
  dsimp only at e
  subst e
  unfold LtRow at hg
  rw [hg] at hc
  injection hc with hc
  injection hc with _ hc _
  exact absurd hc (by decide)
theorem LtRow.up {w w' : World} {g : Nat} {zs : List Int} (h : LtRow w g zs) (hb : Below w.heap.size w w') : LtRow w' g zs := (hb.block g (Array.getElem?_eq_some_iff.1 h).1).trans h
theorem LtRow.grown {w w' : World} {g : Nat} {zs : List Int} {v : Option Nat} (h : LtRow w g zs) (hb : w.grownBy w' v) (hn : v ≠ some g) : LtRow w' g zs := (hb.block g (Array.getElem?_eq_some_iff.1 h).1 (fun e => hn e.symm)).trans h
def TabRO (n : Int) (N : List Gd) (r : Int) (w : World) (e : Ending) (w' : World) : Prop :=
 Below w.heap.size w w' ∧ ((¬ (0 ≤ n ∧ n ≤ 8) ∧ e = .returned (.tuple #[.slice none 0 0,.int .i64 2])) ∨ (0 ≤ n ∧ n ≤ 8 ∧ ((tabT N r (2 ^ n.toNat) = none ∧ e = .returned (.tuple #[.slice none 0 0,.int .i64 12])) ∨ ∃ l a c,tabT N r (2 ^ n.toNat) = some l ∧ e = .returned (.tuple #[.slice a l.length c,.int .i64 0]) ∧ w'.ownsRow w.heap.size 3 1 (.slice a l.length c) l.length (l.map (Value.int .i64)))))
def TabRN (n : Int) (N : List Gd) (r : Int) (w : World) (e : Ending) (w' : World) : Prop :=
 Below w.heap.size w w' ∧ ((¬ (0 ≤ n ∧ n ≤ 8) ∧ e = .returned (.tuple #[.slice none 0 0,.int .i64 2])) ∨ (0 ≤ n ∧ n ≤ 8 ∧ ((tabT N r (2 ^ n.toNat) = none ∧ e = .returned (.tuple #[.slice none 0 0,.int .i64 12])) ∨ ∃ l a c,tabT N r (2 ^ n.toNat) = some l ∧ e = .returned (.tuple #[.slice a l.length c,.int .i64 0]) ∧ ZSl w' a l.length c l ∧ ∀ k,k < l.length → w.heap.size ≤ (adOf a k).block)))
theorem q1M (n : Int) (a : Option Addr) (len cap : Nat) (N : List Gd) (r : Int) (w : World) (hN : NdSl w a len cap N) (hr : I64 r) :
  Calls Try.prog 74 #[.int .i64 n,.slice a len cap,.int .i64 r] w (TabRO n N r w) := by
 obtain ⟨Q,eQ⟩ : ∃ Q,Q = TabRO n N r w := ⟨_,rfl⟩
 have HQ : Hid (∀ e w',TabRO n N r w e w' → Q e w') := fun e w' h => by rw [eQ]; exact h
 rw [← eQ]
 have jc := fun w => q1q n w
 by_cases h08 : 0 ≤ n ∧ n ≤ 8
 ·rw [decide_eq_true h08] at jc
  obtain ⟨m,rfl⟩ : ∃ m : Nat,n = (m : Int) := ⟨n.toNat,by omega⟩
  have hm8 : m ≤ 8 := by omega
  have hsh := q4C m hm8
  have hM : 2 ^ m ≤ 256 := Nat.pow_le_pow_right (by decide) hm8
  have HR : Hid (∀ e w',Below w.heap.size w w' → ((tabT N r (2 ^ m) = none ∧ e = .returned (.tuple #[.slice none 0 0,.int .i64 12])) ∨ ∃ l a c,tabT N r (2 ^ m) = some l ∧ e = .returned (.tuple #[.slice a l.length c,.int .i64 0]) ∧ w'.ownsRow w.heap.size 3 1 (.slice a l.length c) l.length (l.map (Value.int .i64))) → Q e w') := fun e w' hb h => HQ.out e w' ⟨hb,.inr ⟨by omega,by omega,by simpa using h⟩⟩
  have jl := fun w => q5G m hm8 w
  generalize hMM : 2 ^ m = M at *
  have hmk := fun w => q5I M (by omega) w
  have HO0 : Hid ((w.alloc (.cells ((List.replicate M (0 : Int)).map (Value.int .i64)).toArray 3)).ownsRow w.heap.size 3 1 (.slice (some ⟨w.heap.size,0,none⟩) 0 M) 0 []) := q9q w M (by omega)
  have HB0 : Hid _ := q5 w (.cells ((List.replicate M (0 : Int)).map (Value.int .i64)).toArray 3)
  have HN : Hid _ := hN
  obtain ⟨Z,hZ⟩ : ∃ Z,Z = ((List.replicate M (0 : Int)).map (Value.int .i64)).toArray := ⟨_,rfl⟩
  simp only [← hZ] at hmk HO0 HB0
  clear hZ
  have jl := jl (w.alloc (.cells Z 3))
  go_enter Try.func74,Try.ntmps74
  go_wp2_with (go_at_call 64; (with_reducible refine (jc _).mono ?_); rintro e w' ⟨rfl,hw1⟩; obtain rfl := hw1.symm)
  refine jl.mono ?_
  rintro e w2 ⟨g,rfl,hrow,hb2⟩
  have HL2 : Hid _ := hrow
  have HO2 : Hid (w2.ownsRow w.heap.size 3 1 (.slice (some ⟨w.heap.size,0,none⟩) 0 M) 0 []) := qC HO0.out hb2
  have HB2 : Hid _ := q7 HB0.out hb2
  go_wp2
  go_loopw [8,22] (fun v i wr => ∃ (k : Nat) (l : List Int),k ≤ M ∧ i = .int .i64 k ∧ Hid (tabT N r k = some l) ∧ Hid (wr.ownsRow w.heap.size 3 1 v k (l.map (Value.int .i64))) ∧ Hid (Below w.heap.size w wr) ∧ Hid (LtRow wr g (allTo M M))) (fun _ i _ => M - (intOf i).toNat)
  case atStart => exact ⟨0,[],Nat.zero_le _,rfl,rfl,HO2,HB2,HL2⟩
  case round =>
   obtain ⟨k,l,hk,rfl,HT,HO,HB,HL⟩ := hrel
   by_cases hlt : k < M
   ·have hix := fun w' => q4E g M k hlt w'
    have hce : wr.cell? ⟨g,k,none⟩ = some (.int .u8 (k : Int)) := (q6 HL.out k).trans (by simp [q28 hlt,hlt])
    have jg := q3j a len cap N r k wr (HN.out.up HB.out) hr (by omega)
    rcases hg : goG N k 8 r with _ | v
    ·have HE : Hid (∀ w6,Below wr.heap.size wr w6 → Q (.returned (.tuple #[.slice none 0 0,.int .i64 12])) w6) := fun w6 hb => HR.out _ _ (q7 HB.out hb) (.inl ⟨q59 hg M hlt,rfl⟩)
     rw [hg] at jg
     go_wp2_with (go_at_call 61; (with_reducible refine jg.mono ?_); rintro e w6 ⟨rfl,hb6⟩; dsimp only [goV]; have HE6 : Hid _ := HE.out w6 hb6; clear hb6 HE)
     exact HE6.out
    ·have HT2 : Hid (tabT N r (k + 1) = some (l ++ [v])) := q8B HT.out hg
     rw [hg] at jg
     obtain ⟨va,vc,rfl⟩ := qe HO.out
     have HS : Hid (∀ w6,Below wr.heap.size wr w6 → (w6.alloc (.cells #[.int .i64 v] 3)).ownsRow w.heap.size 3 1 (.slice va k vc) k (l.map (Value.int .i64)) ∧ (w6.alloc (.cells #[.int .i64 v] 3)).cell? ⟨w6.heap.size,0,none⟩ = some (.int .i64 v) ∧ Below w.heap.size w (w6.alloc (.cells #[.int .i64 v] 3)) ∧ LtRow (w6.alloc (.cells #[.int .i64 v] 3)) g (allTo M M)) := fun w6 hb =>
      ⟨World.ownsRow.alloc (qC HO.out hb) _,q6 (MapKept.heap_alloc w6 _).1 0,(q7 HB.out hb).alloc (q7 HB.out hb).size _,(HL.out.up hb).up (q5 w6 _)⟩
     have HNE : Hid _ := qas HO.out HL.out
     have HGE : Hid _ := qm HO.out
     go_wp2_with (first
      | (go_at_call 61; (with_reducible refine jg.mono ?_); rintro e w6 ⟨rfl,hb6⟩; dsimp only [goV]; have HS6 : Hid _ := HS.out w6 hb6; have hszA : w.heap.size ≤ (w6.alloc (.cells #[.int .i64 v] 3)).heap.size := HS6.out.2.2.1.size; clear hb6)
      | (revert hszA; intro hszA; at_builtin; refine qS rfl _ _ rfl w.heap.size _ k l rfl HS6.out.1 w6.heap.size v rfl HS6.out.2.1 (by omega) hszA ?_)
      | fail)
     intro v7 w7 hown7 hgr7
     have HO7 : Hid (w7.ownsRow w.heap.size 3 1 v7 (k + 1) ((l ++ [v]).map (Value.int .i64))) := by show World.ownsRow _ _ _ _ _ _ _; simpa using hown7
     have HW7 : Hid _ := HS6.out.2.2.1.grown hgr7 hszA (fun q e => HGE.out q e)
     have HL7 : Hid _ := HS6.out.2.2.2.grown hgr7 HNE.out
     go_wp2
     go_roundw
     case rel => exact ⟨k + 1,l ++ [v],by omega,by go_num,HT2,HO7,HW7,HL7⟩
     case measure => simp [intOf]; omega
   ·obtain rfl : k = M := by omega
    obtain ⟨va,vc,rfl,hU,hnw,_⟩ := q13 HO.out Try.underlying23 qf
    have hl := hU.hlen
    have HE : Hid _ := HR.out _ _ HB.out (.inr ⟨l,va,vc,HT.out,rfl,by rw [hl]; exact HO.out⟩)
    rw [hl] at HE
    go_wp2
    exact HE.out
 ·have HE : Hid _ := HQ.out _ _ ⟨Below.refl _ _,.inl ⟨h08,rfl⟩⟩
  rw [decide_eq_false h08] at jc
  go_enter Try.func74,Try.ntmps74
  go_wp2_with (go_at_call 64; (with_reducible refine (jc _).mono ?_); rintro e w' ⟨rfl,hw1⟩; obtain rfl := hw1.symm)
  exact HE.out
theorem q5D (n : Int) (a : Option Addr) (len cap : Nat) (N : List Gd) (r : Int) (w : World) (hN : NdSl w a len cap N) (hr : I64 r) :
  Calls Try.prog 74 #[.int .i64 n,.slice a len cap,.int .i64 r] w (TabRN n N r w) :=
 (q1M n a len cap N r w hN hr).mono fun _ _ h => by
  obtain ⟨h1,h2 | ⟨h2,h3,h4 | ⟨l,a,c,h5,h6,h7⟩⟩⟩ := h
  ·exact ⟨h1,.inl h2⟩
  ·exact ⟨h1,.inr ⟨h2,h3,.inl h4⟩⟩
  ·obtain ⟨va,vc,e,hU,hnw,_⟩ := q13 h7 Try.underlying23 qf
   injection e with e1 _ e3
   subst e1 e3
   exact ⟨h1,.inr ⟨h2,h3,.inr ⟨l,a,c,h5,h6,hU,hnw⟩⟩⟩
theorem q3q (a : Option Addr) (len c : Nat) (zs : List Int) (w : World) (hS : ZSl w a len c zs) :
  Calls Try.prog 71 #[.slice a len c] w fun e w' => e = .returned (.bool (decide (∀ v ∈ zs,0 ≤ v ∧ v ≤ 1048575))) ∧ w' = w := by
 obtain ⟨b,hb⟩ : ∃ b,b = decide (∀ v ∈ zs,0 ≤ v ∧ v ≤ 1048575) := ⟨_,rfl⟩
 rw [← hb]
 have HB : Hid _ := hb
 have HL : Hid _ := hS.hlen
 have hbd := Nat.le_trans hS.hcap hS.bd
 unfold maxLen at hbd
 have HS : Hid _ := hS
 clear hb hS
 go_enter Try.func71,Try.ntmps71
 go_wp2
 go_loopw [7] (fun i wr => ∃ x : Nat,wr = w ∧ x ≤ len ∧ i = .int .i64 x ∧ Hid (∀ y,y < x → 0 ≤ zs.getD y 0 ∧ zs.getD y 0 ≤ 1048575)) (fun i _ => len - (intOf i).toNat)
 case atStart => exact ⟨0,rfl,Nat.zero_le _,rfl,fun y hy => absurd hy (by omega)⟩
 case round =>
  obtain ⟨x,rfl,hx,rfl,HX⟩ := hrel
  by_cases hxl : x < len
  ·have hidx := fun w' => HS.out.idx len x w' hxl (Nat.le_refl _)
   have hce := HS.out.cell x hxl
   have HXN : Hid (0 ≤ zs.getD x 0 ∧ zs.getD x 0 ≤ 1048575 → ∀ y,y < x + 1 → 0 ≤ zs.getD y 0 ∧ zs.getD y 0 ≤ 1048575) := fun h y hy => by
    by_cases e : y = x
    ·rw [e]; exact h
    ·exact HX.out y (by omega)
   have HXY : Hid (¬ (0 ≤ zs.getD x 0 ∧ zs.getD x 0 ≤ 1048575) → b = false) := fun h => by
    rw [HB.out,decide_eq_false]
    exact fun hall => h (hall _ (by
     have hl : x < zs.length := by rw [HL.out]; exact hxl
     simp [List.getD_eq_getElem?_getD,List.getElem?_eq_getElem hl]))
   generalize zs.getD x 0 = z at *
   generalize adOf a x = ad at *
   obtain ⟨ga,oa,sa⟩ := ad
   by_cases hz : 0 ≤ z ∧ z ≤ 1048575
   ·have d1 : decide (z < 0) = false := by simp; omega
    have HX2 : Hid _ := HXN.out hz
    go_wp2
    go_roundw
    case rel => exact ⟨x + 1,trivial,by omega,by go_num,HX2⟩
    case measure => simp [intOf]; omega
   ·have HE : Hid _ := HXY.out hz
    by_cases hz0 : z < 0
    ·clear hz
     go_wp2
     go_ret
     exact ⟨by rw [HE.out]; rfl,rfl⟩
    ·have hz1 : 1048575 < z := by omega
     go_wp2
     go_ret
     exact ⟨by rw [HE.out]; rfl,rfl⟩
  ·have hxe : x = len := by omega
   have HE : Hid (b = true) := by
    show _ = _
    rw [HB.out,decide_eq_true]
    intro v hv
    obtain ⟨i,hi,e⟩ := List.getElem_of_mem hv
    have := HX.out i (by rw [HL.out] at hi; omega)
    simpa [List.getD_eq_getElem?_getD,List.getElem?_eq_getElem hi,e] using this
   subst hxe
   go_wp2
   go_ret
   exact ⟨by rw [HE.out]; rfl,rfl⟩
def HalR (l : List Nat) (h : Nat) (w : World) (e : Ending) (w' : World) : Prop := ∃ la lc ha hc,e = .returned (.tuple #[.slice la h lc,.slice ha h hc]) ∧ Below w.heap.size w w' ∧
 ZSl w' la h lc ((evL l).map Int.ofNat) ∧ ZSl w' ha h hc ((odL l).map Int.ofNat) ∧ (∀ x,x < h → w.heap.size ≤ (adOf la x).block) ∧ (∀ x,x < h → w.heap.size ≤ (adOf ha x).block)
theorem q3M (l : List Nat) (h M : Nat) (a : Option Addr) (c : Nat) (w : World) (hMh : M = 2 * h) (hl : l.length = M) (hM9 : M ≤ 100000) (hS : ZSl w a M c (l.map Int.ofNat)) :
  Calls Try.prog 86 #[.slice a M c] w (HalR l h w) := by
 obtain ⟨Q,eQ⟩ : ∃ Q,Q = HalR l h w := ⟨_,rfl⟩
 have HQ : Hid (∀ e w',HalR l h w e w' → Q e w') := fun e w' h => by rw [eQ]; exact h
 rw [← eQ]
 have hlen := q5T l h (by omega)
 have HS : Hid _ := hS
 have HEg : Hid _ := qa3 l
 have HOg : Hid _ := qar l
 have HEl : Hid (((evL l).map Int.ofNat).length = h) := by show _ = _; rw [List.length_map]; exact hlen.1
 have HOl : Hid (((odL l).map Int.ofNat).length = h) := by show _ = _; rw [List.length_map]; exact hlen.2
 have HQ2 : Hid (∀ e w' (E O : List Int),E = (evL l).map Int.ofNat → O = (odL l).map Int.ofNat → (∃ la lc ha hc,e = .returned (.tuple #[.slice la h lc,.slice ha h hc]) ∧ Below w.heap.size w w' ∧ ZSl w' la h lc E ∧ ZSl w' ha h hc O ∧ (∀ x,x < h → w.heap.size ≤ (adOf la x).block) ∧ (∀ x,x < h → w.heap.size ≤ (adOf ha x).block)) → Q e w') := fun e w' E O h1 h2 h => HQ.out e w' (by subst h1; subst h2; exact h)
 obtain ⟨E,eE⟩ : ∃ E,E = (evL l).map Int.ofNat := ⟨_,rfl⟩
 obtain ⟨O,eO⟩ : ∃ O,O = (odL l).map Int.ofNat := ⟨_,rfl⟩
 rw [← eE] at HEg HEl
 rw [← eO] at HOg HOl
 have HQ3 : Hid _ := fun e w' => HQ2.out e w' E O eE eO
 have HMh : Hid _ := hMh
 clear HQ HQ2 eQ eE eO hS hMh hlen hl
 go_enter Try.func86,Try.ntmps86
 go_wp2
 go_loopw [2,3,4] (fun vl vh i wr => ∃ (j J : Nat),J ≤ M ∧ i = .int .i64 (J : Int) ∧ Hid (J = 2 * j) ∧ Hid (Hv w wr vl vh (E.take j) (O.take j))) (fun _ _ i _ => M - (intOf i).toNat)
 case atStart => exact ⟨0,0,Nat.zero_le _,rfl,rfl,Hv.nil w⟩
 case round =>
  obtain ⟨j,J,hj,rfl,HJ,HV⟩ := hrel
  by_cases hlt : J < M
  ·have hjh : j < h := by have := HJ.out; have := HMh.out; omega
   have hk1 : J + 1 < M := by have := HJ.out; have := HMh.out; omega
   have hjb : j + 1 ≤ 100000 := by have := HJ.out; omega
   have hEt : E.take (j + 1) = E.take j ++ [(l.map Int.ofNat).getD J 0] := by rw [q46 (by rw [HEl.out]; exact hjh),HEg.out,HJ.out]
   have hOt : O.take (j + 1) = O.take j ++ [(l.map Int.ofNat).getD (J + 1) 0] := by rw [q46 (by rw [HOl.out]; exact hjh),HOg.out,HJ.out]
   have hEn : (E.take j).length = j := by rw [List.length_take,HEl.out]; omega
   have hOn : (O.take j).length = j := by rw [List.length_take,HOl.out]; omega
   have HEt : Hid _ := hEt
   have HOt : Hid _ := hOt
   have HOn : Hid _ := hOn
   have hS0 := HS.out.up HV.out.bel
   have hidx0 := fun w' => HS.out.idx M J w' hlt (Nat.le_refl _)
   have hidx1 : ∀ w',(Instr.indexAt 23 (.slice a M c) (.int .i64 ((J : Int) + 1))).run Try.prog w' = .ok (.pointer (some (adOf a (J + 1)))) w' := fun w' => by simpa using HS.out.idx M (J + 1) w' hk1 (Nat.le_refl _)
   have hce0 := hS0.cell J hlt
   have HC1 : Hid (∀ w',Below w.heap.size w w' → w'.cell? (adOf a (J + 1)) = some (.int .i64 ((l.map Int.ofNat).getD (J + 1) 0))) := fun w' hb => (HS.out.up hb).cell (J + 1) hk1
   obtain ⟨va,vc,hva⟩ := qe HV.out.ol
   obtain ⟨vb,vd,hvb⟩ := qe HV.out.oh
   rw [hEn] at hva
   rw [hOn] at hvb
   subst hva
   subst hvb
   generalize (l.map Int.ofNat).getD (J) 0 = z0 at *
   generalize (l.map Int.ofNat).getD (J + 1) 0 = z1 at *
   generalize adOf a (J) = ad0 at *
   generalize adOf a (J + 1) = ad1 at *
   obtain ⟨g0,o0,s0⟩ := ad0
   obtain ⟨g1,o1,s1⟩ := ad1
   have HOA : Hid ((wr.alloc (.cells #[.int .i64 z0] 3)).ownsRow w.heap.size 3 1 (.slice va j vc) j ((E.take j).map (Value.int .i64))) := by
    have := HV.out.ol.alloc (.cells #[.int .i64 z0] 3)
    rw [hEn] at this
    exact this
   have HCA : Hid ((wr.alloc (.cells #[.int .i64 z0] 3)).cell? ⟨wr.heap.size,0,none⟩ = some (.int .i64 z0)) := q6 (MapKept.heap_alloc wr _).1 0
   have hszA : w.heap.size ≤ (wr.alloc (.cells #[.int .i64 z0] 3)).heap.size := (HV.out.bel.alloc HV.out.bel.size _).size
   have HPU : Hid (∀ g7 c7 w7,w7.ownsRow w.heap.size 3 1 (.slice (some ⟨g7,0,none⟩) (j + 1) c7) (j + 1) ((E.take j).map (Value.int .i64) ++ [.int .i64 z0]) → (wr.alloc (.cells #[.int .i64 z0] 3)).grownBy w7 (Value.slice va j vc).ownBlock → ((Value.slice va j vc).ownBlock = some g7 ∨ g7 = (wr.alloc (.cells #[.int .i64 z0] 3)).heap.size) → Hv w w7 (.slice (some ⟨g7,0,none⟩) (j + 1) c7) (.slice vb j vd) (E.take (j + 1)) (O.take j)) := fun g7 c7 w7 q1 q2 q3 => by
    have := HV.out.push (w' := w7) (g := g7) (cap := c7) z0 (.cells #[.int .i64 z0] 3) (by rw [hEn]; simpa using q1) q2 q3
    rw [hEn,← HEt.out] at this
    exact this
   go_wp2_with (at_builtin; refine q2E rfl _ _ rfl w.heap.size _ j (E.take j) rfl HOA.out wr.heap.size z0 rfl HCA.out (by omega) hszA ?_)
   intro g7 c7 w7 hown7 hgr7 hl7
   have HV7 : Hid _ := HPU.out g7 c7 w7 (by simpa using hown7) hgr7 (by simpa using hl7)
   have hce1 := HC1.out w7 HV7.out.bel
   have HOB : Hid ((w7.alloc (.cells #[.int .i64 z1] 3)).ownsRow w.heap.size 3 1 (.slice vb j vd) j ((O.take j).map (Value.int .i64))) := by
    have := HV7.out.oh.alloc (.cells #[.int .i64 z1] 3)
    rw [HOn.out] at this
    exact this
   have HCB : Hid ((w7.alloc (.cells #[.int .i64 z1] 3)).cell? ⟨w7.heap.size,0,none⟩ = some (.int .i64 z1)) := q6 (MapKept.heap_alloc w7 _).1 0
   have hszB : w.heap.size ≤ (w7.alloc (.cells #[.int .i64 z1] 3)).heap.size := (HV7.out.bel.alloc HV7.out.bel.size _).size
   have HPV : Hid (∀ g8 c8 w8,w8.ownsRow w.heap.size 3 1 (.slice (some ⟨g8,0,none⟩) (j + 1) c8) (j + 1) ((O.take j).map (Value.int .i64) ++ [.int .i64 z1]) → (w7.alloc (.cells #[.int .i64 z1] 3)).grownBy w8 (Value.slice vb j vd).ownBlock → ((Value.slice vb j vd).ownBlock = some g8 ∨ g8 = (w7.alloc (.cells #[.int .i64 z1] 3)).heap.size) → Hv w w8 (.slice (some ⟨g7,0,none⟩) (j + 1) c7) (.slice (some ⟨g8,0,none⟩) (j + 1) c8) (E.take (j + 1)) (O.take (j + 1))) := fun g8 c8 w8 q1 q2 q3 => by
    have := HV7.out.swap.push (w' := w8) (g := g8) (cap := c8) z1 (.cells #[.int .i64 z1] 3) (by rw [HOn.out]; simpa using q1) q2 q3
    rw [HOn.out,← HOt.out] at this
    exact this.swap
   go_wp2_with (at_builtin; refine q2E rfl _ _ rfl w.heap.size _ j (O.take j) rfl HOB.out w7.heap.size z1 rfl HCB.out (by omega) hszB ?_)
   intro g8 c8 w8 hown8 hgr8 hl8
   have HV8 : Hid _ := HPV.out g8 c8 w8 (by simpa using hown8) hgr8 (by simpa using hl8)
   have HJ2 : Hid (J + 2 = 2 * (j + 1)) := by show _ = _; rw [HJ.out]; omega
   go_wp2
   go_roundw
   case rel => exact ⟨j + 1,J + 2,by omega,by go_num,HJ2,HV8⟩
   case measure => simp [intOf]; omega
  ·have hJM : J = M := by omega
   have hjh : j = h := by have := HJ.out; have := HMh.out; omega
   have hv9 := HV.out
   rw [hjh,List.take_of_length_le (by rw [HEl.out]; exact Nat.le_refl _),List.take_of_length_le (by rw [HOl.out]; exact Nat.le_refl _)] at hv9
   obtain ⟨la,lc,hla,hLS,hLb,_⟩ := q13 hv9.ol Try.underlying23 qf
   obtain ⟨ha,hc,hha,hHS,hHb,_⟩ := q13 hv9.oh Try.underlying23 qf
   rw [HEl.out] at hla hLS hLb
   rw [HOl.out] at hha hHS hHb
   subst hla
   subst hha
   have HE : Hid _ := HQ3.out _ wr ⟨la,lc,ha,hc,rfl,hv9.bel,hLS,hHS,hLb,hHb⟩
   subst hJM
   go_wp2
   exact HE.out
end Go.Proofs.Ytcnkgokfjafgkaa
