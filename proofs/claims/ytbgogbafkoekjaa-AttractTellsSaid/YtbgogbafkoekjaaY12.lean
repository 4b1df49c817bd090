/- Texts of the proof, put together: what it uses. -/
import Derived.Test.YtbgogbafkoekjaaY00
import Derived.Test.YtbgogbafkoekjaaY09
import Derived.Test.YtbgogbafkoekjaaY11
set_option maxRecDepth 100000
set_option maxHeartbeats 16000000
namespace Go.Proofs.Ytbgogbafkoekjaa
open Go.RowKit Go.Maps Go.Sort
theorem GoM.other {w : World} {g x : Nat} {hs : List Nat} {L S : Nat} {rs : List (List Int)} (h : GoM w x hs L S rs) (hg : g < x) (k : Nat) (v : Value) : GoM (w.setCell ⟨g,k,none⟩ v) x hs L S rs :=
 ⟨(Below.heap_setCell _ _ _ _ (by dsimp only; omega)).trans h.out,fun j hj => (h.row j hj).other (by have := h.lt j hj; omega) _ _,h.lt,h.inc⟩
structure L3M (w : World) (g : Nat) (T : List (Nat × List Nat)) (L S n : Nat) (G : Nat → List (List Int)) : Prop where
 out : w.heap[g]? = some (.cells ((T.map fun t => Value.slice (some ⟨t.1,0,none⟩) L L) ++ List.replicate (n - T.length) (Value.slice none 0 0)).toArray 43 (0,0))
 row : ∀ (j : Nat) (t : Nat × List Nat),T[j]? = some t → g < t.1 ∧ t.2.length = L ∧ GoM w t.1 t.2 L S (G j)
theorem L3M.up {w w' : World} {g : Nat} {T : List (Nat × List Nat)} {L S n : Nat} {G : Nat → List (List Int)} (h : L3M w g T L S n G) (hb : Below w.heap.size w w') : L3M w' g T L S n G :=
 ⟨(hb.block g (Array.getElem?_eq_some_iff.1 h.out).1).trans h.out,fun j t ht => ⟨(h.row j t ht).1,(h.row j t ht).2.1,(h.row j t ht).2.2.up hb⟩⟩
theorem L3M.put {w : World} {g : Nat} {T : List (Nat × List Nat)} {L S n x : Nat} {hs : List Nat} {G : Nat → List (List Int)} (h : L3M w g T L S n G) (hk : T.length < n) (hx : GoM w x hs L S (G T.length)) (hl : hs.length = L) (hg : g < x) :
  L3M (w.setCell ⟨g,T.length,none⟩ (.slice (some ⟨x,0,none⟩) L L)) g (T ++ [(x,hs)]) L S n G := by
 refine ⟨?_,fun j t ht => ?_⟩
 ·rw [heap_setCell_same w g T.length _ _ _ h.out]
  congr 2
  rw [List.setIfInBounds_toArray]
  congr 1
  rw [List.set_append_right _ _ (by simp),List.length_map,Nat.sub_self]
  obtain ⟨d,hd⟩ : ∃ d,n - T.length = d + 1 := ⟨n - T.length - 1,by omega⟩
  have hd2 : n - (T ++ [(x,hs)]).length = d := by simp; omega
  rw [hd,hd2,List.replicate_succ,List.set_cons_zero]
  simp
 ·by_cases e : j < T.length
  ·rw [List.getElem?_append_left e] at ht
   obtain ⟨h1,h2,h3⟩ := h.row j t ht
   exact ⟨h1,h2,h3.other h1 _ _⟩
  ·have e2 : j = T.length := by
    have := (List.getElem?_eq_some_iff.1 ht).1
    rw [List.length_append,List.length_singleton] at this
    omega
   subst e2
   simp at ht
   subst ht
   exact ⟨hg,hl,hx.other hg _ _⟩
theorem q2J : (Try.prog.info? 43).map (·.size) = some 1 := by kernel_rfl
theorem q1D (g n k : Nat) (hk : k < n) (w : World) : (Instr.indexAt 58 (.slice (some ⟨g,0,none⟩) n n) (.int .i64 (k : Int))).run Try.prog w = .ok (.pointer (some ⟨g,k,none⟩)) w := by
 have := qd (P := Try.prog) (T := 58) Try.underlying58 q2J (a := some ⟨g,0,none⟩) (cap := n) (n := n) (fun e => by cases e) k w hk
 simpa [adOf,q8] using this
theorem q3h : (Try.prog.info? 43).map (fun i => (i.zero,i.size,i.bytes)) = some (some (.slice none 0 0),1,24) := by kernel_rfl
theorem q3j (c : Nat) (hb : c ≤ 1000000) (w : World) :
  (Instr.makeSlice 58 (.int .i64 (c : Int)) (.int .i64 (c : Int))).run Try.prog w = .ok (.slice (some ⟨w.heap.size,0,none⟩) c c) (w.alloc (.cells (Array.replicate c (Value.slice none 0 0)) 43)) := by
 obtain ⟨i,hi,hz0,hz1,hz2⟩ := info_parts q3h
 have := run_make (P := Try.prog) w 58 43 i (.slice none 0 0) Try.underlying58 hi hz0 .i64 .i64 c c (by omega) (by omega) (by rw [hz2]; omega) (by omega)
 rw [this,hz1,← List.toArray_replicate,← q4b]
 simp only [Int.toNat_natCast,Nat.mul_one]
 rfl
theorem L3M.r3 {w : World} {g : Nat} {T : List (Nat × List Nat)} {p : Int} {nA : Nat} {N : List Gd} {gs : List Int} {e s : Nat} (h : L3M w g T (mvL e).length (mvL s).length nA (goeL p N gs e s)) (hT : T.length = nA) (hM : MayG p nA N gs) (hS : SplitN p.toNat e s) : R3S w (some ⟨g,0,none⟩) nA nA (gfA p N gs e s) nA := by
 have hn := hM.s2
 have h1 := qp e
 have h2 := qp s
 refine ⟨by omega,fun q hq => ?_⟩
 have hqT : q < T.length := by omega
 obtain ⟨h3,h4,h5⟩ := h.row q T[q] (List.getElem?_eq_getElem hqT)
 have hlen : (gfA p N gs e s q).length = (mvL e).length := by simp [gfA]
 obtain ⟨hz,hm⟩ := h5.zz h4 (by omega) (by omega) (by simp [goeL]) (fun j hj => by rw [q2c hj]; simp [goR]) (q2Y hM hq hS)
 refine ⟨g,q,none,some ⟨T[q].1,0,none⟩,(mvL e).length,fun w' => q1D g nA q hq w',?_,?_⟩
 ·rw [q6 h.out,hlen]
  simp [List.getElem?_append_left (show q < (T.map fun t => Value.slice (some ⟨t.1,0,none⟩) (mvL e).length (mvL e).length).length by simp; omega),List.getElem?_eq_getElem hqT]
 ·rw [hlen]
  exact hz.rwS (hm.trans (q3y p N gs e s q)) (by omega) (qV hM hS q hq) (fun row hr => by
   obtain ⟨x,_,rfl⟩ := List.mem_map.1 hr
   rw [List.length_map]; omega)
theorem q18 (p : Int) (aA : Option Addr) (nA cA : Nat) (aG : Option Addr) (nG cG : Nat) (aN : Option Addr) (nN cN : Nat) (bs : List Bool) (N : List Gd) (gs : List Int) (x y : Nat) (w : World) (hB : BoSl w aA nA cA bs) (hN : NdSl w aN nN cN N) (hG : ZSl w aG nG cG gs) (hok : ∀ z ∈ gs,I64 z) (hx : x < 256) (hy : y < 256) (hX : ChkN p nA bs N gs x y 0) :
  Calls Try.prog 29 #[.agg #[.int .i64 p,.slice aA nA cA,.slice aG nG cG,.slice aN nN cN],.agg #[.int .u8 (x : Int),.int .u8 (y : Int)]] w fun e w' => Below w.heap.size w w' ∧ ∃ a,e = .returned (.slice a nA nA) ∧ Hid (R3S w' a nA nA (gfA p N gs x y) nA) := by
 obtain ⟨Q,hQ⟩ : ∃ Q : Ending → World → Prop,Q = fun e w' => Below w.heap.size w w' ∧ ∃ a,e = .returned (.slice a nA nA) ∧ Hid (R3S w' a nA nA (gfA p N gs x y) nA) := ⟨_,rfl⟩
 have HQ : Hid (∀ w' a,Below w.heap.size w w' → R3S w' a nA nA (gfA p N gs x y) nA → Q (.returned (.slice a nA nA)) w') := fun w' a h1 h2 => by rw [hQ]; exact ⟨h1,a,rfl,h2⟩
 rw [← hQ]
 clear hQ
 obtain ⟨hM,_,hS⟩ := hX.ok
 have hn256 := hM.s2
 have HFN : Hid (∀ w' g T,L3M w' g T (mvL x).length (mvL y).length nA (goeL p N gs x y) → T.length = nA → R3S w' (some ⟨g,0,none⟩) nA nA (gfA p N gs x y) nA) := fun w' g T h1 h2 => h1.r3 h2 hM hS
 obtain ⟨w1,hw1⟩ : ∃ w1,w1 = w.alloc (.cells #[.int .i64 p,.slice aA nA cA,.slice aG nG cG,.slice aN nN cN] 26 (0,0)) := ⟨_,rfl⟩
 have hb1 : Below w.heap.size w w1 := by rw [hw1]; exact q7 _ _
 have hA1 : AuB w1 w.heap.size p aA nA cA aG nG cG aN nN cN := by rw [hw1]; exact qa w p aA nA cA aG nG cG aN nN cN
 have HW1 : Hid _ := hw1
 obtain ⟨w2,hw2⟩ : ∃ w2,w2 = w1.alloc (.cells #[.int .u8 (x : Int),.int .u8 (y : Int)] 29 (0,0)) := ⟨_,rfl⟩
 have hb2 : Below w1.heap.size w1 w2 := by rw [hw2]; exact q7 _ _
 have hk2 : w2.heap[w1.heap.size]? = some (.cells #[.int .u8 (x : Int),.int .u8 (y : Int)] 29 (0,0)) := by rw [hw2]; exact (MapKept.heap_alloc w1 _).1
 have HW2 : Hid _ := hw2
 have hb02 : Below w.heap.size w w2 := q5 hb1 hb2
 have HC : Hid (∀ w',Below w2.heap.size w2 w' → AuB w' w.heap.size p aA nA cA aG nG cG aN nN cN ∧ w'.heap[w1.heap.size]? = some (.cells #[.int .u8 (x : Int),.int .u8 (y : Int)] 29 (0,0)) ∧ BoSl w' aA nA cA bs ∧ NdSl w' aN nN cN N ∧ ZSl w' aG nG cG gs ∧ Below w.heap.size w w') := fun w' hb =>
  ⟨(hA1.up hb2).up hb,(hb.block _ (Array.getElem?_eq_some_iff.1 hk2).1).trans hk2,(hB.up hb02).up hb,(hN.up hb02).up hb,(hG.up hb02).up hb,q5 hb02 hb⟩
 have HOK : Hid _ := hok
 have HX : Hid (ChkN p nA bs N gs x y 0) := hX
 clear hB hN hG hok hX hM hS hw1 hb1 hA1 hw2 hb2 hk2 hb02
 obtain ⟨⟨c0,c1,c2,c3⟩,_⟩ := HC.out w2 (Below.refl _ _)
 have hmk := fun w => q3j nA (by omega) w
 obtain ⟨w3,hw3⟩ : ∃ w3,w3 = w2.alloc (.cells (Array.replicate nA (Value.slice none 0 0)) 43) := ⟨_,rfl⟩
 have hb3 : Below w2.heap.size w2 w3 := by rw [hw3]; exact q7 _ _
 have hc3 : w3.heap[w2.heap.size]? = some (.cells (Array.replicate nA (Value.slice none 0 0)) 43 (0,0)) := by rw [hw3]; exact (MapKept.heap_alloc w2 _).1
 have HW3 : Hid _ := hw3
 obtain ⟨g,hg⟩ : ∃ g,g = w2.heap.size := ⟨_,rfl⟩
 rw [← hg] at hb3 hc3 HC
 have HB3 : Hid (Below g w2 w3) := hb3
 have HG3 : Hid (L3M w3 g [] (mvL x).length (mvL y).length nA (goeL p N gs x y)) := ⟨by simpa using hc3,fun j t ht => (by cases ht)⟩
 clear hw3 hb3 hc3
 go_enter Try.func29,Try.ntmps29
 go_wp2_with (first | rw [← HW3.out] | rw [← HW2.out] | rw [← HW1.out])
 rw [← hg]
 have HGS : Hid (g = w2.heap.size) := hg
 clear hmk hg HW1 HW2 HW3 c0 c1 c2 c3
 have hLx := qp x
 generalize hLX : (mvL x).length = LX at *
 have HLX : Hid _ := hLX
 generalize hLY : (mvL y).length = LY at *
 have HLY : Hid _ := hLY
 clear hLX hLY
 go_loopw [13] (fun i wr => ∃ k : Nat,∃ T : List (Nat × List Nat),k ≤ nA ∧ i = .int .i64 (k : Int) ∧ Hid (T.length = k) ∧ Hid (Below g w2 wr) ∧ Hid (L3M wr g T LX LY nA (goeL p N gs x y))) (fun i _ => nA - (intOf i).toNat)
 case atStart => exact ⟨0,[],Nat.zero_le _,rfl,rfl,HB3,HG3⟩
 case round =>
  obtain ⟨k,T,hk,rfl,HT,HB,HG⟩ := hrel
  clear HB3 HG3
  by_cases hlt : k < nA
  ·have e1 : decide ((k : Int) < (nA : Int)) = true := decide_eq_true (by omega)
   obtain ⟨⟨c0,c1,c2,c3⟩,hsp,hbo,hnd,hzg,_⟩ := HC.out wr HB.out
   have s0 := q6 hsp 0
   have s1 := q6 hsp 1
   have jg := q1U p aA nA cA aG nG cG aN nN cN bs N gs x y (k : Int) wr hbo hnd hzg HOK.out hx hy
   have ixw := fun w' => q1D g nA k hlt w'
   clear hsp hbo hnd hzg
   go_wp2_with fail
   refine jg.mono ?_
   rintro e w6 ⟨hb6,X,hcase⟩
   obtain ⟨k2,hs,g6,rfl,hkk,hg6,hl6,HM6⟩ : ∃ (k2 : Nat) (hs : List Nat) (g6 : Nat),e = .returned (.tuple #[.slice (some ⟨g6,0,none⟩) LX LX,.int .i64 0]) ∧ k2 = k ∧ wr.heap.size ≤ g6 ∧ hs.length = LX ∧ Hid (GoM w6 g6 hs LX LY (goeL p N gs x y k)) := by
    rcases hcase with ⟨h0,_,h2⟩ | ⟨rfl,_,k2,g6,hs,h1,h2,h3,h4,h5,h6⟩
    ·exfalso
     rcases h2.out with ⟨_,h3,_⟩ | ⟨_,h3,_⟩ | ⟨_,h3,_⟩
     ·exact h0 (h3.uni HX.out)
     ·exact h3 ⟨by omega,by omega⟩
     ·exact h0 h3
    ·obtain rfl : k2 = k := by omega
     rw [HLX.out] at h4 h5 h6
     rw [HLY.out] at h6
     exact ⟨k2,hs,g6,h5,rfl,h3,h4,h6⟩
   subst hkk
   have hgl : g < wr.heap.size := (Array.getElem?_eq_some_iff.1 HG.out.out).1
   have hG6 := HG.out.up hb6
   have HG7 : Hid (L3M (w6.setCell ⟨g,k2,none⟩ (.slice (some ⟨g6,0,none⟩) LX LX)) g (T ++ [(g6,hs)]) LX LY nA (goeL p N gs x y)) := by
    have h := hG6.put (x := g6) (hs := hs) (by rw [HT.out]; exact hlt) (by rw [HT.out]; exact HM6.out) hl6 (by omega)
    rw [HT.out] at h
    exact h
   have HB7 : Hid (Below g w2 (w6.setCell ⟨g,k2,none⟩ (.slice (some ⟨g6,0,none⟩) LX LX))) := by
    show Below g w2 _
    have h := HB.out
    rw [HGS.out] at h ⊢
    exact (q5 h hb6).setCell (Nat.le_refl _) _
   obtain ⟨v6,cv6⟩ : ∃ v,w6.cell? ⟨g,k2,none⟩ = some v := ⟨_,(q6 hG6.out k2).trans (by rw [List.getElem?_toArray,List.getElem?_eq_getElem (by simp; have := HT.out; omega)])⟩
   have fz6 := frozen_of_row _ _ k2 _ _ hG6.out
   have HTN : Hid ((T ++ [(g6,hs)]).length = k2 + 1) := by show (T ++ [(g6,hs)]).length = k2 + 1; rw [List.length_append,List.length_singleton,HT.out]
   clear jg hcase hb6 hG6 hg6 hl6 hgl c0 c1 c2 c3 s0 s1 HG HB HT
   go_wp2
   go_roundw
   case rel => exact ⟨k2 + 1,_,by omega,by go_num,HTN,HB7,HG7⟩
   case measure => simp [intOf]; omega
  ·obtain rfl : k = nA := by omega
   have e1 : decide ((k : Int) < (k : Int)) = false := by simp
   have HE : Hid _ := HQ.out wr (some ⟨g,0,none⟩) (HC.out wr HB.out).2.2.2.2.2 (HFN.out wr g T HG.out HT.out)
   clear HQ HB HG HT
   go_wp2
   exact HE.out
theorem q4V (l : List Nat) : ltV l = (l.map Int.ofNat).map (Value.int .u8) := by simp [ltV]
theorem q33 {w : World} {base n : Nat} {v : Value} {l : List Nat} (h : w.ownsRow base 27 1 v n (ltV l)) : ∃ a c,v = .slice a n c ∧ LtC w a n c l := by
 rw [q4V] at h
 obtain ⟨a,c,e,h1,_⟩ := q2K h Try.underlying67 qY
 exact ⟨a,c,e,h1⟩
theorem q2k (w : World) (base : Nat) : w.ownsRow base 27 1 (.slice none 0 0) 0 (ltV []) := ⟨rfl,Or.inl ⟨rfl,rfl⟩⟩
theorem qo {w : World} {base e n : Nat} {v : Value} {xs : List Value} (h : w.ownsRow base e 1 v n xs) : ∃ a c,v = .slice a n c := by
 rcases h with ⟨_,⟨rfl,rfl⟩ | ⟨g,cap,cur,rfl,_⟩⟩
 ·exact ⟨none,0,rfl⟩
 ·exact ⟨_,_,rfl⟩
theorem q2D (w : World) : Calls Try.prog 66 #[.int .i64 8] w fun e w' => Below w.heap.size w w' ∧ ∃ a c,e = .returned (.slice a 256 c) ∧ LtC w' a 256 c (List.range 256) := by
 obtain ⟨Q,hQ⟩ : ∃ Q : Ending → World → Prop,Q = fun e w' => Below w.heap.size w w' ∧ ∃ a c,e = .returned (.slice a 256 c) ∧ LtC w' a 256 c (List.range 256) := ⟨_,rfl⟩
 have HQ : Hid (∀ v w',Below w.heap.size w w' → w'.ownsRow w.heap.size 27 1 v 256 (ltV (List.range 256)) → Q (.returned v) w') := fun v w' h1 h2 => by
  rw [hQ]
  obtain ⟨a,c,rfl,h3⟩ := q33 h2
  exact ⟨h1,a,c,rfl,h3⟩
 rw [← hQ]
 clear hQ
 have HO0 : Hid (w.ownsRow w.heap.size 27 1 (.slice none 0 0) 0 (ltV (List.range 0))) := q2k w _
 go_enter Try.func66,Try.ntmps66
 go_wp2
 go_loopw [3,4] (fun v i wr => ∃ k : Nat,k ≤ 256 ∧ i = .int .i64 (k : Int) ∧ Hid (wr.ownsRow w.heap.size 27 1 v k (ltV (List.range k))) ∧ Hid (Below w.heap.size w wr)) (fun _ i _ => 256 - (intOf i).toNat)
 case atStart => exact ⟨0,Nat.zero_le _,rfl,HO0,Below.refl _ _⟩
 case round =>
  obtain ⟨k,hk,rfl,HO,HB⟩ := hrel
  clear HO0
  by_cases hlt : k < 256
  ·obtain ⟨va,vc,rfl⟩ := qo HO.out
   have e1 : decide ((k : Int) < 256) = true := decide_eq_true (by omega)
   have hkw : IntKind.u8.wrap (k : Int) = (k : Int) := by rw [IntKind.wrap_u8]; omega
   have HOA : Hid ((wr.alloc (.cells #[.int .u8 (k : Int)] 27)).ownsRow w.heap.size 27 1 (.slice va k vc) k (ltV (List.range k))) := World.ownsRow.alloc HO.out _
   have HCA : Hid ((wr.alloc (.cells #[.int .u8 (k : Int)] 27)).cell? ⟨wr.heap.size,0,none⟩ = some (.int .u8 (k : Int))) := q6 (MapKept.heap_alloc wr _).1 0
   have HWA : Hid (Below w.heap.size w (wr.alloc (.cells #[.int .u8 (k : Int)] 27))) := HB.out.alloc HB.out.size _
   have hszA : w.heap.size ≤ (wr.alloc (.cells #[.int .u8 (k : Int)] 27)).heap.size := HWA.out.size
   have HGE : Hid (∀ q,(Value.slice va k vc).ownBlock = some q → w.heap.size ≤ q) := q1f HO.out
   have HS : Hid (List.range k ++ [k] = List.range (k + 1)) := List.range_succ.symm
   clear HO HB
   go_wp2_with (at_builtin; refine qP rfl _ _ rfl w.heap.size _ k (List.range k) rfl HOA.out wr.heap.size k rfl HCA.out (by omega) hszA ?_)
   intro v7 w7 hown7 hgr7
   have HO7 : Hid (w7.ownsRow w.heap.size 27 1 v7 (k + 1) (ltV (List.range (k + 1)))) := by rw [← HS.out]; show World.ownsRow _ _ _ _ _ _ _; simpa using hown7
   have HW7 : Hid (Below w.heap.size w w7) := HWA.out.grown hgr7 hszA (fun q e => HGE.out q e)
   clear hown7 hgr7 HOA HCA HWA hszA HGE HS
   go_wp2
   go_roundw
   case rel => exact ⟨k + 1,by omega,by go_num,HO7,HW7⟩
   case measure => simp [intOf]; omega
  ·obtain rfl : k = 256 := by omega
   have HE : Hid _ := fun v h => HQ.out v wr HB.out h
   have HF : Hid _ := HE.out _ HO.out
   clear HQ HO HB HE
   go_wp2
   exact HF.out
theorem q2I (m l : Nat) (w : World) (hm : m < 256) (hl : l < 256) : Calls Try.prog 67 #[.int .u8 (m : Int),.int .u8 (l : Int)] w fun e w' => e = .returned (.bool (decide (l &&& m = l))) ∧ w' = w := by
 have h := u8_and_nat l m hl hm
 have HE : Hid ((((l &&& m : Nat) : Int) == (l : Int)) = decide (l &&& m = l)) := by
  by_cases e : l &&& m = l
  ·simp [e,Hid]
  ·rw [decide_eq_false e]; exact beq_false_of_ne (by omega)
 generalize l &&& m = k at *
 go_enter Try.func67,Try.ntmps67
 go_wp2
 go_ret
 exact ⟨by rw [← HE.out]; rfl,rfl⟩
def mvK (m k : Nat) : List Nat := (List.range k).filter fun l => l &&& m == l
theorem q4X (m : Nat) : mvK m 256 = mvL m := rfl
theorem q4z (m k : Nat) : mvK m (k + 1) = mvK m k ++ if k &&& m = k then [k] else [] := by
 unfold mvK
 rw [List.range_succ,List.filter_append]
 congr 1
 by_cases h : k &&& m = k <;> simp [h]
theorem q4Y (m k : Nat) : (mvK m k).length ≤ k := by
 unfold mvK
 exact Nat.le_trans (List.length_filter_le _ _) (by simp)
theorem qS (m : Nat) (w : World) (hm : m < 256) : Calls Try.prog 56 #[.int .u8 (m : Int)] w fun e w' => Below w.heap.size w w' ∧ ∃ a c,e = .returned (.slice a (mvL m).length c) ∧ LtC w' a (mvL m).length c (mvL m) := by
 obtain ⟨Q,hQ⟩ : ∃ Q : Ending → World → Prop,Q = fun e w' => Below w.heap.size w w' ∧ ∃ a c,e = .returned (.slice a (mvL m).length c) ∧ LtC w' a (mvL m).length c (mvL m) := ⟨_,rfl⟩
 obtain ⟨M,hM⟩ : ∃ M : Nat,M = 256 := ⟨_,rfl⟩
 have HQ : Hid (∀ v w',Below w.heap.size w w' → (∃ base,w'.ownsRow base 27 1 v (mvK m M).length (ltV (mvK m M))) → Q (.returned v) w') := fun v w' h1 h2 => by
  rw [hQ]
  obtain ⟨base,h2⟩ := h2
  rw [hM,q4X] at h2
  obtain ⟨a,c,rfl,h3⟩ := q33 h2
  exact ⟨h1,a,c,rfl,h3⟩
 rw [← hQ]
 clear hQ
 have HM : Hid _ := hM
 have ja := q2D w
 rw [← hM] at ja
 clear hM
 go_enter Try.func56,Try.ntmps56
 go_wp2_with fail
 refine ja.mono ?_
 rintro e w1 ⟨hb1,la,lc,rfl,hl⟩
 have HB1 : Hid _ := hb1
 have HL1 : Hid _ := hl
 have HO0 : Hid (w1.ownsRow w1.heap.size 27 1 (.slice none 0 0) (mvK m 0).length (ltV (mvK m 0))) := q2k w1 _
 clear ja hb1 hl
 go_wp2
 go_loopw [3,5] (fun v i wr => ∃ k n : Nat,k ≤ M ∧ n = (mvK m k).length ∧ i = .int .i64 (k : Int) ∧ Hid (wr.ownsRow w1.heap.size 27 1 v n (ltV (mvK m k))) ∧ Hid (Below w1.heap.size w1 wr)) (fun _ i _ => M - (intOf i).toNat)
 case atStart => exact ⟨0,_,Nat.zero_le _,rfl,rfl,HO0,Below.refl _ _⟩
 case round =>
  obtain ⟨k,n,hk,hn,rfl,HO,HB⟩ := hrel
  clear HO0
  by_cases hlt : k < M
  ·obtain ⟨va,vc,rfl⟩ := qo HO.out
   have e1 : decide ((k : Int) < (M : Int)) = true := decide_eq_true (by omega)
   have hM2 : M = 256 := HM.out
   have hn2 : n ≤ k := by rw [hn]; exact q4Y m k
   have hL := HL1.out.up HB.out
   have ix := fun w' => hL.idx M k w' hlt (Nat.le_refl _)
   have ce := hL.cell k hlt
   clear hL
   rw [q1e (by simpa using hlt)] at ce
   have hkk : (List.range M).getD k 0 = k := by simp [List.getD_eq_getElem?_getD,hlt]
   rw [hkk] at ce
   have hk256 : k < 256 := by omega
   clear hkk
   have jw := fun w => q2I m k w hm (by omega)
   have hnx := q4z m k
   by_cases hin : k &&& m = k
   ·rw [if_pos hin] at hnx
    rw [decide_eq_true hin] at jw
    have HNX : Hid _ := hnx
    have HNN : Hid _ := hn
    have HOA : Hid ((wr.alloc (.cells #[.int .u8 (k : Int)] 27)).ownsRow w1.heap.size 27 1 (.slice va n vc) n (ltV (mvK m k))) := World.ownsRow.alloc HO.out _
    have HCA : Hid ((wr.alloc (.cells #[.int .u8 (k : Int)] 27)).cell? ⟨wr.heap.size,0,none⟩ = some (.int .u8 (k : Int))) := q6 (MapKept.heap_alloc wr _).1 0
    have HWA : Hid (Below w1.heap.size w1 (wr.alloc (.cells #[.int .u8 (k : Int)] 27))) := HB.out.alloc HB.out.size _
    have hszA : w1.heap.size ≤ (wr.alloc (.cells #[.int .u8 (k : Int)] 27)).heap.size := HWA.out.size
    have HGE : Hid (∀ q,(Value.slice va n vc).ownBlock = some q → w1.heap.size ≤ q) := q1f HO.out
    have HLA : Hid ((wr.alloc (.cells #[.int .u8 (k : Int)] 27)).cell? (adOf la k) = some (.int .u8 (k : Int))) := q9 ce (q7 wr _)
    clear HO HB hnx hn hM2 hin
    generalize adOf la k = ak at *
    obtain ⟨ak1,ak2,ak3⟩ := ak
    go_wp2_with (first
     | (go_at_call 67; refine (jw _).mono ?_; rintro e w' ⟨rfl,hw'⟩; obtain rfl := hw'.symm; clear hw')
     | (at_builtin; refine qP rfl _ _ rfl w1.heap.size _ n (mvK m k) rfl HOA.out wr.heap.size k rfl HCA.out (by omega) hszA ?_))
    intro v7 w7 hown7 hgr7
    have HO7 : Hid (w7.ownsRow w1.heap.size 27 1 v7 (n + 1) (ltV (mvK m (k + 1)))) := by rw [HNX.out]; show World.ownsRow _ _ _ _ _ _ _; simpa using hown7
    have HN7 : Hid (n + 1 = (mvK m (k + 1)).length) := by rw [HNX.out,List.length_append,← HNN.out]; rfl
    have HW7 : Hid (Below w1.heap.size w1 w7) := HWA.out.grown hgr7 hszA (fun q e => HGE.out q e)
    clear hown7 hgr7 HOA HCA HWA hszA HGE HNX HNN HLA
    go_wp2
    go_roundw
    case rel => exact ⟨k + 1,n + 1,by omega,HN7.out,by go_num,HO7,HW7⟩
    case measure => simp [intOf]; omega
   ·rw [if_neg hin,List.append_nil] at hnx
    rw [decide_eq_false hin] at jw
    have HN2 : Hid (n = (mvK m (k + 1)).length) := by rw [hnx]; exact hn
    have HO2 : Hid (wr.ownsRow w1.heap.size 27 1 (.slice va n vc) n (ltV (mvK m (k + 1)))) := by rw [hnx]; exact HO.out
    clear hnx hn hin HO hM2
    generalize adOf la k = ak at *
    obtain ⟨ak1,ak2,ak3⟩ := ak
    go_wp2_with (go_at_call 67; refine (jw _).mono ?_; rintro e w' ⟨rfl,hw'⟩; obtain rfl := hw'.symm; clear hw')
    go_roundw
    case rel => exact ⟨k + 1,n,by omega,HN2.out,by go_num,HO2,HB⟩
    case measure => simp [intOf]; omega
  ·obtain rfl : k = M := by omega
   have e1 : decide ((k : Int) < (k : Int)) = false := by simp
   rw [hn] at HO
   have HE : Hid _ := fun v h => HQ.out v wr (q5 HB1.out HB.out) ⟨w1.heap.size,h⟩
   have HF : Hid _ := HE.out _ HO.out
   clear HQ HO HB HE
   go_wp2
   exact HF.out
theorem q1M {P e s : Nat} (he : e < 256) (hs : s < 256) (hP : P ≤ 8) : SplitN P e s ↔ ∀ q,q < 8 → (q < P → e.testBit q ≠ s.testBit q) ∧ (P ≤ q → e.testBit q = false ∧ s.testBit q = false) := by
 have far : ∀ {x q : Nat},x < 256 → 8 ≤ q → x.testBit q = false := fun {x q} hx hq => Nat.testBit_lt_two_pow (Nat.lt_of_lt_of_le hx (show 2 ^ 8 ≤ 2 ^ q from Nat.pow_le_pow_right (by decide) hq))
 unfold SplitN
 constructor
 ·rintro ⟨h1,h2⟩ q hq
  have k1 := congrArg (fun x => x.testBit q) h1
  have k2 := congrArg (fun x => x.testBit q) h2
  simp only [Nat.testBit_and,Nat.testBit_or,Nat.zero_testBit,Nat.testBit_two_pow_sub_one] at k1 k2
  refine ⟨fun h => ?_,fun h => ?_⟩
  ·rw [decide_eq_true h] at k2
   cases hx : e.testBit q <;> cases hy : s.testBit q <;> simp_all
  ·rw [decide_eq_false (by omega)] at k2
   simpa using k2
 ·intro h
  refine ⟨Nat.eq_of_testBit_eq fun q => ?_,Nat.eq_of_testBit_eq fun q => ?_⟩
  ·simp only [Nat.testBit_and,Nat.zero_testBit]
   by_cases hq : q < 8
   ·by_cases hp : q < P
    ·have := (h q hq).1 hp
     cases hx : e.testBit q <;> cases hy : s.testBit q <;> simp_all
    ·have := (h q hq).2 (by omega)
     simp [this.1]
   ·rw [far he (by omega)]; rfl
  ·simp only [Nat.testBit_or,Nat.testBit_two_pow_sub_one]
   by_cases hq : q < 8
   ·by_cases hp : q < P
    ·have := (h q hq).1 hp
     rw [decide_eq_true hp]
     cases hx : e.testBit q <;> cases hy : s.testBit q <;> simp_all
    ·have := (h q hq).2 (by omega)
     rw [decide_eq_false hp,this.1,this.2]; rfl
   ·rw [far he (by omega),far hs (by omega),decide_eq_false (by omega)]; rfl
theorem q2U {x k : Nat} (hk : k < 8) : bitB (x : Int) (k : Int) = x.testBit k := by
 have e : (x : Int) / 2 ^ k % 2 = ((x / 2 ^ k % 2 : Nat) : Int) := by
  have h2 : ((2 ^ k : Nat) : Int) = (2 : Int) ^ k := by simp
  rw [← h2]; simp
 unfold bitB
 rw [decide_eq_true (by omega),Bool.true_and,Int.toNat_natCast,e,Nat.testBit_eq_decide_div_mod_eq]
 by_cases h : x / 2 ^ k % 2 = 1
 ·rw [decide_eq_true h,decide_eq_true (by omega)]
 ·rw [decide_eq_false h,decide_eq_false (by omega)]
theorem q1I (p : Int) (aA : Option Addr) (nA cA : Nat) (aG : Option Addr) (nG cG : Nat) (aN : Option Addr) (nN cN : Nat) (bs : List Bool) (N : List Gd) (gs : List Int) (x y : Nat) (w : World) (hB : BoSl w aA nA cA bs) (hX : ∀ w0 : World,Below w.heap.size w w0 → Calls Try.prog 42 #[.agg #[.int .i64 p,.slice aA nA cA,.slice aG nG cG,.slice aN nN cN]] w0 (ChkR p nA N gs w0)) (hx : x < 256) (hy : y < 256) :
  Calls Try.prog 30 #[.agg #[.int .i64 p,.slice aA nA cA,.slice aG nG cG,.slice aN nN cN],.agg #[.int .u8 (x : Int),.int .u8 (y : Int)]] w fun e w' => Below w.heap.size w w' ∧ ∃ X : Int,e = .returned (.int .i64 X) ∧ Hid (ChkN p nA bs N gs x y X) := by
 obtain ⟨Q,hQ⟩ : ∃ Q : Ending → World → Prop,Q = fun e w' => Below w.heap.size w w' ∧ ∃ X : Int,e = .returned (.int .i64 X) ∧ Hid (ChkN p nA bs N gs x y X) := ⟨_,rfl⟩
 have HQ : Hid (∀ w' X,Below w.heap.size w w' → ChkN p nA bs N gs x y X → Q (.returned (.int .i64 X)) w') := fun w' X h hb => by rw [hQ]; exact ⟨h,X,rfl,hb⟩
 rw [← hQ]
 clear hQ
 obtain ⟨w1,hw1⟩ : ∃ w1,w1 = w.alloc (.cells #[.int .i64 p,.slice aA nA cA,.slice aG nG cG,.slice aN nN cN] 26 (0,0)) := ⟨_,rfl⟩
 have hb1 : Below w.heap.size w w1 := by rw [hw1]; exact q7 _ _
 have HA1 : Hid (AuB w1 w.heap.size p aA nA cA aG nG cG aN nN cN) := by rw [hw1]; exact qa w p aA nA cA aG nG cG aN nN cN
 have HW1 : Hid _ := hw1
 have hsz : w1.heap.size = w.heap.size + 1 := by rw [hw1]; exact Array.size_push _
 obtain ⟨w2,hw2⟩ : ∃ w2,w2 = w1.alloc (.cells #[.int .u8 (x : Int),.int .u8 (y : Int)] 29 (0,0)) := ⟨_,rfl⟩
 have hb2 : Below w1.heap.size w1 w2 := by rw [hw2]; exact q7 _ _
 have hk2 : w2.heap[w1.heap.size]? = some (.cells #[.int .u8 (x : Int),.int .u8 (y : Int)] 29 (0,0)) := by rw [hw2]; exact (MapKept.heap_alloc w1 _).1
 have HW2 : Hid _ := hw2
 have HB2 : Hid (Below w.heap.size w w2) := q5 hb1 hb2
 have HA2 : Hid (AuB w2 w.heap.size p aA nA cA aG nG cG aN nN cN) := HA1.out.up hb2
 have HK2 : Hid (w2.heap[w1.heap.size]? = some (.cells #[.int .u8 (x : Int),.int .u8 (y : Int)] 29 (0,0))) := hk2
 have HL2 : Hid (w1.heap.size < w2.heap.size) := (Array.getElem?_eq_some_iff.1 hk2).1
 have jc := hX w2 HB2.out
 have HBB : Hid _ := hB
 obtain ⟨c0,c1,c2,c3⟩ := HA2.out
 clear hB hX hw1 hb1 hw2 hb2 hk2 HA1
 go_enter Try.func30,Try.ntmps30
 go_wp2_with (first | rw [← HW2.out] | rw [← HW1.out])
 refine jc.mono ?_
 rintro e w3 ⟨hb3,v,rfl,⟨rfl,hM⟩ | ⟨rfl,hM⟩⟩
 rotate_left
 ·have HE : Hid _ := HQ.out w3 12 (q5 HB2.out hb3) (.inl ⟨hM,rfl⟩)
  clear HQ hM hb3 jc hsz
  go_wp2
  exact HE.out
 have HB3 : Hid (Below w.heap.size w w3) := q5 HB2.out hb3
 have HA3 : Hid (AuB w3 w.heap.size p aA nA cA aG nG cG aN nN cN) := HA2.out.up hb3
 have hk3 : w3.heap[w.heap.size + 1]? = some (.cells #[.int .u8 (x : Int),.int .u8 (y : Int)] 29 (0,0)) := by rw [← hsz]; exact (hb3.block _ HL2.out).trans HK2.out
 have HK3 : Hid _ := hk3
 have HM : Hid _ := hM
 have h1n : 0 < nA := by have := hM.s1; omega
 obtain ⟨P,rfl⟩ := Int.eq_ofNat_of_zero_le hM.p0
 have hP : P ≤ 8 := by have := hM.p8; omega
 clear jc hb3 hM c0 c1 c2 c3 HA2 HK2 HL2 HB2 hk3
 obtain ⟨c0,c1,c2,c3⟩ := HA3.out
 obtain ⟨ix0,ce0⟩ : (∀ w',(Instr.indexAt 22 (.slice aA nA cA) (.int .i64 0)).run Try.prog w' = .ok (.pointer (some (adOf aA 0))) w') ∧ w3.cell? (adOf aA 0) = some (.bool (bs.getD 0 false)) := (HBB.out.up HB3.out).getQ h1n
 generalize adOf aA 0 = ad at *
 obtain ⟨ad1,ad2,ad3⟩ := ad
 cases hb0 : bs.getD 0 false with
 | true =>
  rw [hb0] at ce0
  have HE : Hid _ := HQ.out w3 12 HB3.out (.inr (.inl ⟨HM.out,hb0,rfl⟩))
  clear HQ hb0 hsz
  go_wp2
  exact HE.out
 | false =>
 rw [hb0] at ce0
 have HOK : Hid ((∀ q,q < 8 → (q < P → x.testBit q ≠ y.testBit q) ∧ (P ≤ q → x.testBit q = false ∧ y.testBit q = false)) → ChkN (P : Int) nA bs N gs x y 0) := fun h => .inr (.inr (.inr ⟨HM.out,hb0,by rw [Int.toNat_natCast]; exact (q1M hx hy hP).2 h,rfl⟩))
 have HNO : Hid (∀ q,q < 8 → ¬ ((q < P → x.testBit q ≠ y.testBit q) ∧ (P ≤ q → x.testBit q = false ∧ y.testBit q = false)) → ChkN (P : Int) nA bs N gs x y 13) := fun q hq h => .inr (.inr (.inl ⟨HM.out,hb0,(fun hs => h ((q1M hx hy hP).1 (by rw [Int.toNat_natCast] at hs; exact hs) q hq)),rfl⟩))
 clear hb0 hsz
 go_wp2
 clear ix0 ce0 c0 c1 c2 c3
 go_loopw [6] (fun i wr => ∃ k : Nat,k ≤ 8 ∧ i = .int .i64 (k : Int) ∧ Hid (Below w3.heap.size w3 wr) ∧ Hid (∀ q,q < k → (q < P → x.testBit q ≠ y.testBit q) ∧ (P ≤ q → x.testBit q = false ∧ y.testBit q = false))) (fun i _ => 8 - (intOf i).toNat)
 case atStart => exact ⟨0,Nat.zero_le _,rfl,Below.refl _ _,fun q h => absurd h (Nat.not_lt_zero _)⟩
 case round =>
  obtain ⟨k,hk,rfl,HB,HC⟩ := hrel
  by_cases hlt : k < 8
  ·have e1 : decide ((k : Int) < 8) = true := decide_eq_true (by omega)
   have HBN : Hid (∀ dd os,Below w3.heap.size w3 (grow (redrawn wr dd) os)) := fun dd os => q5 HB.out (below_regrown wr dd os)
   have hk3 := (HB.out.block _ (Array.getElem?_eq_some_iff.1 HK3.out).1).trans HK3.out
   have z0 := cell_regrown (q6 hk3 0)
   have z1 := cell_regrown (q6 hk3 1)
   have cX : ∀ dd os,Calls Try.prog 43 #[.int .u8 (x : Int),.int .i64 (k : Int)] (grow (redrawn wr dd) os) fun e w'' => e = .returned (.bool (x.testBit k)) ∧ ∃ p : Regrown,w'' = grow (redrawn wr p.d) p.os := fun dd os => by
    refine (q1m (x : Int) (k : Int) _ (by omega) (by omega)).mono ?_
    rintro e w'' ⟨rfl,rfl⟩
    rw [q2U hlt]
    exact ⟨rfl,regrown_of_below (below_regrown wr dd os)⟩
   have cY : ∀ dd os,Calls Try.prog 43 #[.int .u8 (y : Int),.int .i64 (k : Int)] (grow (redrawn wr dd) os) fun e w'' => e = .returned (.bool (y.testBit k)) ∧ ∃ p : Regrown,w'' = grow (redrawn wr p.d) p.os := fun dd os => by
    refine (q1m (y : Int) (k : Int) _ (by omega) (by omega)).mono ?_
    rintro e w'' ⟨rfl,rfl⟩
    rw [q2U hlt]
    exact ⟨rfl,regrown_of_below (below_regrown wr dd os)⟩
   have HNX : Hid (((k < P → x.testBit k ≠ y.testBit k) ∧ (P ≤ k → x.testBit k = false ∧ y.testBit k = false)) → ∀ q,q < k + 1 → (q < P → x.testBit q ≠ y.testBit q) ∧ (P ≤ q → x.testBit q = false ∧ y.testBit q = false)) := fun h q hq => by
    by_cases e : q = k
    ·subst e; exact h
    ·exact HC.out q (by omega)
   have HFX : Hid _ := HNO.out k hlt
   clear HC hk3
   generalize x.testBit k = bx at *
   generalize y.testBit k = bY at *
   go_upto_region 9 with fail
   refine wp_region_quiet_below (by kernel_rfl) (by kernel_rfl) ?_
   repeat (go_big_quiet_step (first | (with_reducible exact cX _ _) | (with_reducible exact cY _ _)))
   refine wpQuiet_nil ?_
   intro _ hw'
   obtain ⟨⟨dq,osq⟩,hw''⟩ := hw'
   subst hw''
   have HI3 : Hid _ := HBN.out dq osq
   generalize grow (redrawn wr dq) osq = wx at *
   have c0 := (HA3.out.up HI3.out).c0
   clear cX cY HBN z0 z1
   by_cases hP2 : k < P
   ·have d1 : decide ((k : Int) < (P : Int)) = true := decide_eq_true (by omega)
    have d2 : decide ((P : Int) ≤ (k : Int)) = false := decide_eq_false (by omega)
    cases bx <;> cases bY
    ·have HE : Hid _ := HQ.out wx 13 (q5 HB3.out HI3.out) (HFX.out (fun h => (h.1 hP2) rfl))
     clear HQ HFX HNX HOK HNO
     go_wp2
     exact HE.out
    ·have HC2 : Hid _ := HNX.out ⟨fun _ => (by decide),fun h => absurd h (by omega)⟩
     clear HFX HNX
     go_wp2
     go_roundw
     case rel => exact ⟨k + 1,by omega,by go_num,HI3,HC2⟩
     case measure => simp [intOf]; omega
    ·have HC2 : Hid _ := HNX.out ⟨fun _ => (by decide),fun h => absurd h (by omega)⟩
     clear HFX HNX
     go_wp2
     go_roundw
     case rel => exact ⟨k + 1,by omega,by go_num,HI3,HC2⟩
     case measure => simp [intOf]; omega
    ·have HE : Hid _ := HQ.out wx 13 (q5 HB3.out HI3.out) (HFX.out (fun h => (h.1 hP2) rfl))
     clear HQ HFX HNX HOK HNO
     go_wp2
     exact HE.out
   ·have d1 : decide ((k : Int) < (P : Int)) = false := decide_eq_false (by omega)
    have d2 : decide ((P : Int) ≤ (k : Int)) = true := decide_eq_true (by omega)
    have hP3 : P ≤ k := by omega
    cases bx <;> cases bY
    ·have HC2 : Hid _ := HNX.out ⟨fun h => absurd h hP2,fun _ => ⟨rfl,rfl⟩⟩
     clear HFX HNX
     go_wp2
     go_roundw
     case rel => exact ⟨k + 1,by omega,by go_num,HI3,HC2⟩
     case measure => simp [intOf]; omega
    ·have HE : Hid _ := HQ.out wx 13 (q5 HB3.out HI3.out) (HFX.out (fun h => absurd (h.2 hP3).2 (by decide)))
     clear HQ HFX HNX HOK HNO
     go_wp2
     exact HE.out
    ·have HE : Hid _ := HQ.out wx 13 (q5 HB3.out HI3.out) (HFX.out (fun h => absurd (h.2 hP3).1 (by decide)))
     clear HQ HFX HNX HOK HNO
     go_wp2
     exact HE.out
    ·have HE : Hid _ := HQ.out wx 13 (q5 HB3.out HI3.out) (HFX.out (fun h => absurd (h.2 hP3).1 (by decide)))
     clear HQ HFX HNX HOK HNO
     go_wp2
     exact HE.out
  ·obtain rfl : k = 8 := by omega
   have HE : Hid _ := HQ.out wr 0 (q5 HB3.out HB.out) (HOK.out HC.out)
   clear HQ HC HOK HNO
   go_wp2
   exact HE.out
abbrev Zc.vv (r : Zc) : Value := .slice r.a r.zs.length r.cap
theorem q53 {w : World} {base e s n base' e' s' n' : Nat} {v v' : Value} {vs vs' : List Value} (h1 : w.ownsRow base e s v n vs) (h2 : w.ownsRow base' e' s' v' n' vs') (hne : e ≠ e') {b : Nat} (hb : v.ownBlock = some b) : v'.ownBlock ≠ some b := fun hb' => by
 rcases h1.2 with ⟨rfl,_⟩ | ⟨g,cap,cur,rfl,_,k1,_⟩
 ·cases hb
 ·injection hb with hb
  dsimp only at hb
  subst hb
  rcases h2.2 with ⟨rfl,_⟩ | ⟨g',cap',cur',rfl,_,k2,_⟩
  ·cases hb'
  ·injection hb' with hb'
   dsimp only at hb'
   subst hb'
   rw [k1] at k2
   injection k2 with k2
   injection k2 with _ k2 _
   exact hne k2
theorem q4h {w w' : World} {base e s n : Nat} {v : Value} {vs : List Value} (h : w.ownsRow base e s v n vs) (hb : ∀ g,v.ownBlock = some g → w'.heap[g]? = w.heap[g]?) : w'.ownsRow base e s v n vs := by
 obtain ⟨hl,⟨rfl,h0⟩ | ⟨g,cap,cur,rfl,h1,h2,h3⟩⟩ := h
 ·exact ⟨hl,.inl ⟨rfl,h0⟩⟩
 ·exact ⟨hl,.inr ⟨g,cap,cur,rfl,h1,(hb g rfl).trans h2,h3⟩⟩
abbrev izV (zs : List Int) : List Value := zs.map (Value.int .i64)
structure RoO (w : World) (base : Nat) (v : Value) (L : List Zc) : Prop where
 row : w.ownsRow base 23 1 v L.length (L.map Zc.vv)
 ints : ∀ r ∈ L,r.len = r.zs.length ∧ w.ownsRow 0 3 1 r.vv r.zs.length (izV r.zs)
theorem RoO.up {w w' : World} {base : Nat} {v : Value} {L : List Zc} (h : RoO w base v L) (hb : Below w.heap.size w w') : RoO w' base v L := ⟨qx h.row hb,fun r hr => ⟨(h.ints r hr).1,qx (h.ints r hr).2 hb⟩⟩
theorem q56 (w : World) (base : Nat) : RoO w base (.slice none 0 0) [] := ⟨⟨rfl,.inl ⟨rfl,rfl⟩⟩,fun r hr => (by cases hr)⟩
theorem RoO.add {w3 w7 : World} {base : Nat} {v : Value} {L : List Zc} (h : RoO w3 base v L) {y : Zc} (hl : y.len = y.zs.length) (hy : w3.ownsRow 0 3 1 y.vv y.zs.length (izV y.zs)) {o : Obj} {v7 : Value} (hq : w7.ownsRow base 23 1 v7 (L.length + 1) (L.map Zc.vv ++ [y.vv])) (hg : (w3.alloc o).grownBy w7 v.ownBlock) : RoO w7 base v7 (L ++ [y]) := by
 have hr3 : (w3.alloc o).ownsRow base 23 1 v L.length (L.map Zc.vv) := World.ownsRow.alloc h.row o
 have keep : ∀ {u : Value} {n : Nat} {xs : List Value},w3.ownsRow 0 3 1 u n xs → w7.ownsRow 0 3 1 u n xs := fun {u n xs} hu => by
  have hu2 := World.ownsRow.alloc hu o
  refine q4h hu2 (fun g hg1 => hg.block g (hu2.lt g hg1).2 (fun e => ?_))
  exact q53 hr3 hu2 (by decide) e.symm hg1
 refine ⟨by rw [List.length_append,List.length_singleton,List.map_append]; exact hq,fun b hb1 => ?_⟩
 rcases List.mem_append.1 hb1 with hb1 | hb1
 ·exact ⟨(h.ints b hb1).1,keep (h.ints b hb1).2⟩
 ·simp only [List.mem_singleton] at hb1
  subst hb1
  exact ⟨hl,keep hy⟩
theorem RoO.zz {w : World} {base : Nat} {v : Value} {L : List Zc} (h : RoO w base v L) (hz : ∀ r ∈ L,∀ z ∈ r.zs,I64 z) : ∃ a c,v = .slice a L.length c ∧ ZzSl w a L.length c L := by
 have hints : ∀ r ∈ L,ZSl w r.a r.len r.cap r.zs ∧ ∀ z ∈ r.zs,I64 z := fun r hr => by
  obtain ⟨h1,h2⟩ := h.ints r hr
  obtain ⟨a,c,e,h3,_⟩ := q3E h2 Try.underlying23 qb
  injection e with e1 e2 e3
  refine ⟨?_,hz r hr⟩
  rw [h1,e1,e3]
  exact h3
 rcases h.row.2 with ⟨rfl,h0⟩ | ⟨g,cap,cur,rfl,_,k1,k2,k3,k4,k5⟩
 ·have hL : L = [] := List.eq_nil_of_length_eq_zero h0
  subst hL
  exact ⟨none,0,rfl,rfl,Nat.le_refl _,by decide,fun _ => rfl,fun x hx => (by cases hx),hints⟩
 ·refine ⟨some ⟨g,0,none⟩,cap,rfl,rfl,k2,k3,fun e => (by cases e),fun x hx k hk => ?_,hints⟩
  injection hx with hx
  subst hx
  rw [q8,Nat.zero_add,q6 k1]
  have h5 : cur[k]? = (L.map Zc.vv)[k]? := by
   rw [← k5,List.getElem?_take,if_pos (by omega)]
   simp
  rw [h5,List.getElem?_map,List.getElem?_eq_getElem hk,(h.ints L[k] (List.getElem_mem _)).1]
  rfl
theorem q2S {w : World} {ops : Array Oper} {o : Oper} {a : Act} {K : Act → World → Prop} {Q : Exit → Act → World → Prop} {X : Prop} (hw : Region.wanted o (yielded ops a.tmps) = true) (s x : Operand)
  (ho : o.op = .call { callee := .builtin .append,args := #[s,x],argTypes := #[23,23] }) (base : Nat)
  (v : Value) (n : Nat) (xs : List Value) (y : Value) (g : Nat) (hs : a.eval s = v) (hx : a.eval x = .slice (some ⟨g,0,none⟩) 1 1) (hown : w.ownsRow base 3 1 v n xs)
  (hB : w.cell? ⟨g,0,none⟩ = some y) (h1 : y.oneCell' = true) (hn : n ≤ 1000000) (hbase : base ≤ w.heap.size)
  (h : ∀ v' w',w'.ownsRow base 3 1 v' (n + 1) (xs ++ [y]) → w.grownBy w' v.ownBlock → K (a.put o.dst v') w') :
  if Region.wanted o (yielded ops a.tmps) = true then Oper.wp Try.prog o a w K Q else X := by
 rw [if_pos hw]
 have hI : (Try.prog.info? 3).map (fun i => (i.zero,i.size,i.bytes)) = some (some (.int .i64 0),1,8) := by kernel_rfl
 obtain ⟨i,hi,hz0,hz1,hz2⟩ := info_parts hI
 obtain ⟨v',w',hr,h2,h3,_,h5⟩ := run_append_own_at (P := Try.prog) w base 23 o.type 3 i _ 1 8 Try.underlying23 hi hz0 hz1 hz2 rfl (by decide) v n _ hown ⟨g,0,none⟩ 1 1 [y] rfl (fun j u hj => by
  match j with
  | 0 => simp at hj; rw [← hj,q8]; exact hB
  | j + 1 => simp at hj) (fun u hu => by simp at hu; subst hu; exact h1) (by unfold maxLen; omega) (by omega) hbase
 unfold Oper.wp execOp
 simp only [ho,resolve,invoke,builtin,Sem.run_bind,Sem.run_pure,Result.andThen_ok,List.map_toArray,List.map_cons,List.map_nil,hs,hx,hr]
 exact h v' w' h2 h3
theorem q4t {p : Int} {N : List Gd} {gs : List Int} {q x : Nat} {ys : List Nat} {j : Nat} (h : j < ys.length) : (goR p N gs q x ys).take j ++ [((trP (rwA p N gs) q (x ||| ys.getD j 0) : Nat) : Int)] = (goR p N gs q x ys).take (j + 1) := by
 have hl : j < (goR p N gs q x ys).length := by rw [goR,List.length_map]; exact h
 have h2 : (goR p N gs q x ys).getD j 0 = ((trP (rwA p N gs) q (x ||| ys.getD j 0) : Nat) : Int) := by
  simp [goR,List.getD_eq_getElem?_getD,List.getElem?_eq_getElem h]
 rw [qr hl,h2]
theorem q2G (p : Int) (aA : Option Addr) (nA cA : Nat) (aG : Option Addr) (nG cG : Nat) (aN : Option Addr) (nN cN : Nat) (N : List Gd) (gs : List Int) (x y k : Nat) (w : World) (hM : MayG p nA N gs) (hN : NdSl w aN nN cN N) (hG : ZSl w aG nG cG gs) (hS : SplitN p.toNat x y) (hk : k < nA) (hx : x < 256) (hy : y < 256) :
  Calls Try.prog 45 #[.agg #[.int .i64 p,.slice aA nA cA,.slice aG nG cG,.slice aN nN cN],.agg #[.int .u8 (x : Int),.int .u8 (y : Int)],.int .i64 (k : Int)] w fun e w' => Below w.heap.size w w' ∧ ∃ v L,e = .returned v ∧ RoO w' w.heap.size v L ∧ L.map Zc.zs = goeL p N gs x y k := by
 obtain ⟨Q,hQ⟩ : ∃ Q : Ending → World → Prop,Q = fun e w' => Below w.heap.size w w' ∧ ∃ v L,e = .returned v ∧ RoO w' w.heap.size v L ∧ L.map Zc.zs = goeL p N gs x y k := ⟨_,rfl⟩
 have HQ : Hid (∀ w' v L,Below w.heap.size w w' → RoO w' w.heap.size v L → L.map Zc.zs = goeL p N gs x y k → Q (.returned v) w') := fun w' v L h1 h2 h3 => by rw [hQ]; exact ⟨h1,v,L,rfl,h2,h3⟩
 rw [← hQ]
 clear hQ
 obtain ⟨w1,hw1⟩ : ∃ w1,w1 = w.alloc (.cells #[.int .i64 p,.slice aA nA cA,.slice aG nG cG,.slice aN nN cN] 26 (0,0)) := ⟨_,rfl⟩
 have hb1 : Below w.heap.size w w1 := by rw [hw1]; exact q7 _ _
 have hA1 : AuB w1 w.heap.size p aA nA cA aG nG cG aN nN cN := by rw [hw1]; exact qa w p aA nA cA aG nG cG aN nN cN
 have HW1 : Hid _ := hw1
 obtain ⟨w2,hw2⟩ : ∃ w2,w2 = w1.alloc (.cells #[.int .u8 (x : Int),.int .u8 (y : Int)] 29 (0,0)) := ⟨_,rfl⟩
 have hb2 : Below w1.heap.size w1 w2 := by rw [hw2]; exact q7 _ _
 have hk2 : w2.heap[w1.heap.size]? = some (.cells #[.int .u8 (x : Int),.int .u8 (y : Int)] 29 (0,0)) := by rw [hw2]; exact (MapKept.heap_alloc w1 _).1
 have HW2 : Hid _ := hw2
 have HB2 : Hid (Below w.heap.size w w2) := q5 hb1 hb2
 have HN : Hid (∀ w',Below w2.heap.size w2 w' → NdSl w' aN nN cN N ∧ ZSl w' aG nG cG gs ∧ AuB w' w.heap.size p aA nA cA aG nG cG aN nN cN) := fun w' hb => ⟨hN.up (q5 HB2.out hb),hG.up (q5 HB2.out hb),(hA1.up hb2).up hb⟩
 have HM : Hid _ := hM
 have hbd : Below w2.heap.size w2 w2.drew := (Below.refl _ _).drew
 have k1 : Calls Try.prog 56 #[.int .u8 (x : Int)] w2.drew fun e w' => Below w2.heap.size w2 w' ∧ ∃ a c,e = .returned (.slice a (mvL x).length c) ∧ LtC w' a (mvL x).length c (mvL x) := (qS x w2.drew hx).mono fun e w' h => ⟨q5 hbd h.1,h.2⟩
 have k2 : ∀ wx,Calls Try.prog 56 #[.int .u8 (y : Int)] wx fun e w' => Below wx.heap.size wx w' ∧ ∃ a c,e = .returned (.slice a (mvL y).length c) ∧ LtC w' a (mvL y).length c (mvL y) := fun wx => qS y wx hy
 have s0 := q6 hk2 0
 have s1 := q6 hk2 1
 have HTT : Hid (∀ wx,Below w2.heap.size w2 wx → wx.cell? ⟨w1.heap.size,0,none⟩ = some (.int .u8 (x : Int)) ∧ wx.cell? ⟨w1.heap.size,1,none⟩ = some (.int .u8 (y : Int))) := fun wx hb => by
  have := (hb.block _ (Array.getElem?_eq_some_iff.1 hk2).1).trans hk2
  exact ⟨q6 this 0,q6 this 1⟩
 have HSP : Hid _ := hS
 clear hM hN hG hS hw1 hb1 hw2 hb2 hk2 hA1 hbd
 go_enter Try.func45,Try.ntmps45
 go_upto_region 1 with (first | rw [← HW2.out] | rw [← HW1.out])
 go_cut [7,8] (fun u v wx => ∃ a1 c1 a2 c2,u = .slice a1 (mvL x).length c1 ∧ v = .slice a2 (mvL y).length c2 ∧ Hid (LtC wx a1 (mvL x).length c1 (mvL x)) ∧ Hid (LtC wx a2 (mvL y).length c2 (mvL y)) ∧ Hid (Below w2.heap.size w2 wx))
 case first => as_aux_lemma =>
  go_region_law (first
   | (revert HB9; intro HB9; go_simp; (with_reducible refine (k2 w9).mono ?_); rintro e w10 ⟨hb10,a2,q2,rfl,hl2⟩; have HB10 : Hid (Below w2.heap.size w2 w10) := q5 HB9.out hb10; have HL2 : Hid (LtC w10 a2 (mvL y).length q2 (mvL y)) := hl2; have HL1 : Hid (LtC w10 a1 (mvL x).length q1 (mvL x)) := HL9.out.up hb10; obtain ⟨v0,v1⟩ := HTT.out w10 HB10.out; dsimp only)
   | (revert k1; intro k1; go_simp; (with_reducible refine k1.mono ?_); rintro e w9 ⟨hb9,a1,q1,rfl,hl1⟩; have HB9 : Hid (Below w2.heap.size w2 w9) := hb9; have HL9 : Hid (LtC w9 a1 (mvL x).length q1 (mvL x)) := hl1; obtain ⟨u0,u1⟩ := HTT.out w9 HB9.out; dsimp only)
   | fail)
  all_goals
   clear hb9 hl1 hb10 hl2
   go_wp2_with fail
   go_meet
   exact ⟨_,_,_,_,rfl,rfl,HL1,HL2,HB10⟩
 case rest =>
 obtain ⟨a1,q1,a2,q2,rfl,rfl,HL1,HL2,HB4⟩ := hcut
 generalize wc = w4 at *
 clear k1 k2 HTT s0 s1 HW1 HW2
 have hLx := qp x
 have hLy := qp y
 have HROW : Hid (∀ j,j < (mvL x).length → (goeL p N gs x y k).getD j [] = goR p N gs k ((mvL x).getD j 0) (mvL y)) := fun j hj => q2c hj
 have HGL : Hid ((goeL p N gs x y k).length = (mvL x).length) := q4w
 have HRND : Hid (∀ i j,i < (mvL x).length → j < (mvL y).length → (mvL x).getD i 0 < 256 ∧ (mvL y).getD j 0 < 256 ∧ (mvL x).getD i 0 ||| (mvL y).getD j 0 < 2 ^ p.toNat) := fun i j hi hj => by
  obtain ⟨h1,h2⟩ := q1d hi
  obtain ⟨h3,h4⟩ := q1d hj
  have h5 : x ||| y = 2 ^ p.toNat - 1 := HSP.out.2
  have h6 : 0 < 2 ^ p.toNat := Nat.two_pow_pos _
  have h7 : x ≤ x ||| y := Nat.left_le_or
  have h8 : y ≤ x ||| y := Nat.right_le_or
  exact ⟨h1,h3,Nat.or_lt_two_pow (by have := qi h2; omega) (by have := qi h4; omega)⟩
 have HTK : Hid (∀ e j,j < (mvL y).length → (goR p N gs k e (mvL y)).take j ++ [((trP (rwA p N gs) k (e ||| (mvL y).getD j 0) : Nat) : Int)] = (goR p N gs k e (mvL y)).take (j + 1)) := fun e j hj => q4t hj
 have HRL : Hid (∀ e,(goR p N gs k e (mvL y)).length = (mvL y).length) := fun e => by simp [goR]
 clear HSP
 generalize goeL p N gs x y k = rs at *
 generalize hLX : (mvL x).length = LX at *
 have HLX : Hid _ := hLX
 generalize hLY : (mvL y).length = LY at *
 have HLY : Hid _ := hLY
 clear hLX hLY
 go_wp2
 go_loopw [9,10] (fun v i wr => ∃ j : Nat,∃ L : List Zc,j ≤ LX ∧ L.length = j ∧ i = .int .i64 (j : Int) ∧ Hid (RoO wr w4.heap.size v L) ∧ Hid (L.map Zc.zs = rs.take j) ∧ Hid (Below w4.heap.size w4 wr)) (fun _ i _ => LX - (intOf i).toNat)
 case atStart => exact ⟨0,[],Nat.zero_le _,rfl,rfl,q56 _ _,rfl,Below.refl _ _⟩
 case round =>
  obtain ⟨j,L,hj,hLj,rfl,HR,HZ,HB⟩ := hrel
  by_cases hlt : j < LX
  ·have e1 : decide ((j : Int) < (LX : Int)) = true := decide_eq_true (by omega)
   obtain ⟨va,vc,rfl⟩ := qo HR.out.row
   have HROJ : Hid _ := HROW.out j hlt
   have HLJ : Hid (L.length = j) := hLj
   rw [hLj] at HR ⊢
   clear hLj
   obtain ⟨ex,hex⟩ : ∃ ex,ex = (mvL x).getD j 0 := ⟨_,rfl⟩
   have HEX : Hid _ := hex
   obtain ⟨row,hrow⟩ : ∃ row,row = goR p N gs k ex (mvL y) := ⟨_,rfl⟩
   have HRW : Hid _ := hrow
   clear hex hrow
   obtain ⟨wo,hwo⟩ : ∃ wo,wo = wr := ⟨_,rfl⟩
   subst hwo
   go_wp2
   go_loopw [11,12] (fun u i wy => ∃ m : Nat,m ≤ LY ∧ i = .int .i64 (m : Int) ∧ Hid (wy.ownsRow wo.heap.size 3 1 u m (izV (row.take m))) ∧ Hid (Below wo.heap.size wo wy)) (fun _ i _ => LY - (intOf i).toNat)
   case atStart => exact ⟨0,Nat.zero_le _,rfl,⟨rfl,.inl ⟨rfl,rfl⟩⟩,Below.refl _ _⟩
   case round =>
    obtain ⟨m,hm,rfl,HO,HBy⟩ := hrel
    by_cases hlm : m < LY
    ·have e2 : decide ((m : Int) < (LY : Int)) = true := decide_eq_true (by omega)
     obtain ⟨ua,uc,rfl⟩ := qo HO.out
     have HB4y : Hid (Below w4.heap.size w4 wr) := q5 HB.out HBy.out
     have hlx := HL1.out.up HB4y.out
     have hly := HL2.out.up HB4y.out
     have ixx := fun w' => hlx.idx LX j w' hlt (Nat.le_refl _)
     have cex := hlx.cell j hlt
     rw [q1e (by rw [HLX.out]; exact hlt),← HEX.out] at cex
     have ixy := fun w' => hly.idx LY m w' hlm (Nat.le_refl _)
     have cey := hly.cell m hlm
     rw [q1e (by rw [HLY.out]; exact hlm)] at cey
     obtain ⟨hx8,hy8,hlo⟩ := HRND.out j m hlt hlm
     rw [← HEX.out] at hx8 hlo
     have hor := u8_or_nat _ _ hx8 hy8
     have htk := HTK.out ex m hlm
     rw [← HRW.out] at htk
     obtain ⟨_,_,⟨c0,c1,c2,c3⟩⟩ := HN.out wr (q5 HB4.out HB4y.out)
     have jn0 : ∀ w',Below wr.heap.size wr w' → Calls Try.prog 57 #[.agg #[.int .i64 p,.slice aA nA cA,.slice aG nG cG,.slice aN nN cN],.int .i64 (k : Int),.int .u8 ((ex ||| (mvL y).getD m 0 : Nat) : Int)] w' fun e w'' => e = .returned (.int .i64 ((trP (rwA p N gs) k (ex ||| (mvL y).getD m 0) : Nat) : Int)) ∧ Below w'.heap.size w' w'' := fun w' hb => by
      obtain ⟨h1,h2,_⟩ := HN.out w' (q5 HB4.out (q5 HB4y.out hb))
      exact q2F p aA nA cA aG nG cG aN nN cN N gs k (ex ||| (mvL y).getD m 0) w' HM.out h1 h2 hk hlo
     generalize trP (rwA p N gs) k (ex ||| (mvL y).getD m 0) = t at *
     generalize (mvL y).getD m 0 = ey at *
     generalize ex ||| ey = l at *
     have HTKK : Hid (row.take m ++ [(t : Int)] = row.take (m + 1)) := htk
     have jn : Calls Try.prog 57 #[.agg #[.int .i64 p,.slice aA nA cA,.slice aG nG cG,.slice aN nN cN],.int .i64 (k : Int),.int .u8 (l : Int)] wr.drew fun e w9 => e = .returned (.int .i64 (t : Int)) ∧ Hid (Below wo.heap.size wo (w9.alloc (.cells #[.int .i64 (t : Int)] 3))) ∧ (w9.alloc (.cells #[.int .i64 (t : Int)] 3)).ownsRow wo.heap.size 3 1 (.slice ua m uc) m (izV (row.take m)) ∧ (w9.alloc (.cells #[.int .i64 (t : Int)] 3)).cell? ⟨w9.heap.size,0,none⟩ = some (.int .i64 (t : Int)) ∧ wo.heap.size ≤ (w9.alloc (.cells #[.int .i64 (t : Int)] 3)).heap.size := (jn0 wr.drew ((Below.refl _ _).drew)).mono fun e w9 h => by
      obtain ⟨rfl,hb⟩ := h
      have hb9 : Below wr.heap.size wr w9 := q5 ((Below.refl _ _).drew) hb
      have hba := q5 (q5 HBy.out hb9) (q7 w9 (.cells #[.int .i64 (t : Int)] 3))
      exact ⟨rfl,hba,World.ownsRow.alloc (qx HO.out hb9) _,q6 (MapKept.heap_alloc w9 _).1 0,hba.size⟩
     have HGE : Hid (∀ q,(Value.slice ua m uc).ownBlock = some q → wo.heap.size ≤ q) := q1f HO.out
     clear hlx hly hx8 hy8 hlo htk jn0 HB4y HO HBy
     generalize adOf a1 j = ax at *
     generalize adOf a2 m = ay at *
     obtain ⟨ax1,ax2,ax3⟩ := ax
     obtain ⟨ay1,ay2,ay3⟩ := ay
     generalize hzz : izV (row.take m) = zz at *
     have HZZ : Hid _ := hzz
     clear hzz
     go_upto_region 10 with fail
     go_region_law (first
      | (revert hO9; intro hO9; refine q2S rfl _ _ rfl wo.heap.size (.slice ua m uc) m zz (.int .i64 (t : Int)) w9.heap.size rfl rfl hO9 hc9 rfl (by omega) hs9 ?_; intro v5 w5 hown5 hgr5; obtain ⟨a5,k5,rfl⟩ := qo hown5; have HB5 : Hid (Below wo.heap.size wo w5) := HB9.out.grown hgr5 hs9 (fun q e => HGE.out q e))
      | (revert jn; intro jn; go_simp; (with_reducible refine jn.mono ?_); rintro e w9 ⟨rfl,HB9,hO9,hc9,hs9⟩; dsimp only)
      | fail)
     all_goals
      have HO5 : Hid (w5.ownsRow wo.heap.size 3 1 (.slice a5 (m + 1) k5) (m + 1) (izV (row.take (m + 1)))) := by
       rw [← HTKK.out]
       have h := hown5
       rw [← HZZ.out] at h
       show World.ownsRow _ _ _ _ _ _ _
       simpa [izV] using h
      clear jn hO9 hc9 hs9 hown5 hgr5 hor ixx ixy cex cey c0 c1 c2 c3
      go_wp2
      go_roundw
      case rel => exact ⟨m + 1,by omega,by go_num,HO5,HB5⟩
      case measure => simp [intOf]; omega
    ·obtain rfl : m = LY := by omega
     have e2 : decide ((m : Int) < (m : Int)) = false := by simp
     obtain ⟨ua,uc,rfl⟩ := qo HO.out
     have hrl : row.length = m := by rw [HRW.out]; exact HRL.out ex
     have hO := HO.out
     rw [List.take_of_length_le (by omega)] at hO
     have HRO : Hid (RoO wr w4.heap.size (.slice va j vc) L) := HR.out.up HBy.out
     have HYY : Hid (wr.ownsRow 0 3 1 (.slice ua m uc) m (izV row)) := q1g hO (Nat.zero_le _)
     have HOA : Hid ((wr.alloc (.cells #[.slice ua m uc] 23)).ownsRow w4.heap.size 23 1 (.slice va j vc) j (L.map Zc.vv)) := by have h := World.ownsRow.alloc HRO.out.row (.cells #[.slice ua m uc] 23); rw [HLJ.out] at h; exact h
     have HCA : Hid ((wr.alloc (.cells #[.slice ua m uc] 23)).cell? ⟨wr.heap.size,0,none⟩ = some (.slice ua m uc)) := q6 (MapKept.heap_alloc wr _).1 0
     have HWA : Hid (Below w4.heap.size w4 (wr.alloc (.cells #[.slice ua m uc] 23))) := q5 (q5 HB.out HBy.out) (q7 _ _)
     have hszA : w4.heap.size ≤ (wr.alloc (.cells #[.slice ua m uc] 23)).heap.size := HWA.out.size
     have HGE : Hid (∀ q,(Value.slice va j vc).ownBlock = some q → w4.heap.size ≤ q) := q1f HRO.out.row
     have HRLN : Hid _ := hrl
     have HZN : Hid ((L ++ [(⟨ua,m,uc,row⟩ : Zc)]).map Zc.zs = rs.take (j + 1)) := by
      have h3 : j < rs.length := by rw [HGL.out]; exact hlt
      rw [List.map_append,HZ.out,List.take_add_one,List.getElem?_eq_getElem h3]
      have h4 := HROJ.out
      rw [List.getD_eq_getElem?_getD,List.getElem?_eq_getElem h3,Option.getD_some,← HEX.out,← HRW.out] at h4
      simp [h4,Hid]
     clear HR HZ HB HO HBy hO hrl
     generalize hvs : L.map Zc.vv = vs at *
     have HVS : Hid _ := hvs
     clear hvs
     go_wp2_with (at_builtin; refine q1Q rfl _ _ rfl w4.heap.size _ j vs rfl HOA.out wr.heap.size ua m uc rfl HCA.out (by omega) hszA ?_)
     intro g7 c7 w7 hown7 hgr7 hlie7
     have HR7 : Hid (RoO w7 w4.heap.size (.slice (some ⟨g7,0,none⟩) (j + 1) c7) (L ++ [⟨ua,m,uc,row⟩])) := by
      refine RoO.add (o := .cells #[.slice ua m uc] 23) HRO.out HRLN.out.symm ?_ ?_ hgr7
      ·show World.ownsRow _ _ _ _ _ _ _
       simp only [Zc.vv,HRLN.out]; exact HYY.out
      ·rw [HVS.out,HLJ.out]
       show World.ownsRow _ _ _ _ _ _ _
       simp only [Zc.vv,HRLN.out]
       exact hown7
     have HB7 : Hid (Below w4.heap.size w4 w7) := HWA.out.grown hgr7 hszA (fun q e => HGE.out q e)
     clear hown7 hgr7 hlie7 HOA HCA HWA hszA HGE HRO HYY
     go_wp2
     go_roundw
     case rel => exact ⟨j + 1,_,by omega,by rw [List.length_append,List.length_singleton,HLJ.out],by go_num,HR7,HZN,HB7⟩
     case measure => simp [intOf]; omega
  ·obtain rfl : j = LX := by omega
   have e1 : decide ((j : Int) < (j : Int)) = false := by simp
   obtain ⟨va,vc,rfl⟩ := qo HR.out.row
   have hsz := (q5 HB2.out HB4.out).size
   have HE : Hid _ := HQ.out wr _ L (q5 HB2.out (q5 HB4.out HB.out)) ⟨q1g HR.out.row hsz,HR.out.ints⟩ (by rw [HZ.out,← HGL.out,List.take_length])
   rw [hLj] at HE ⊢
   clear HQ HR HZ HB hsz hLj
   go_wp2
   exact HE.out
theorem qJ (p : Int) (aA : Option Addr) (nA cA : Nat) (aG : Option Addr) (nG cG : Nat) (aN : Option Addr) (nN cN : Nat) (bs : List Bool) (N : List Gd) (gs : List Int) (x y : Nat) (w : World) (hB : BoSl w aA nA cA bs) (hN : NdSl w aN nN cN N) (hG : ZSl w aG nG cG gs) (hl : nA ≤ 1000000) (hl2 : nN ≤ 1000000) (hx : x < 256) (hy : y < 256) :
  Calls Try.prog 30 #[.agg #[.int .i64 p,.slice aA nA cA,.slice aG nG cG,.slice aN nN cN],.agg #[.int .u8 (x : Int),.int .u8 (y : Int)]] w fun e w' => Below w.heap.size w w' ∧ ∃ X : Int,e = .returned (.int .i64 X) ∧ Hid (ChkN p nA bs N gs x y X) :=
 q1I p aA nA cA aG nG cG aN nN cN bs N gs x y w hB (fun w0 hb => q2E p aA nA cA aG nG cG aN nN cN N gs w0 (hN.up hb) (hG.up hb) hl hl2) hx hy
end Go.Proofs.Ytbgogbafkoekjaa
