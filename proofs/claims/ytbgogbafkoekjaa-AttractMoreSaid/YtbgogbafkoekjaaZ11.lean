/- Texts of the proof, put together: what it uses. -/
import Derived.Test.YtbgogbafkoekjaaZ10
set_option maxRecDepth 100000
set_option maxHeartbeats 16000000
namespace Go.Proofs.Ytbgogbafkoekjaa
open Go.RowKit Go.Maps Go.Sort
theorem GoM.other {w : World} {g x : Nat} {hs : List Nat} {L S : Nat} {rs : List (List Int)} (h : GoM w x hs L S rs) (hg : g < x) (k : Nat) (v : Value) : GoM (w.setCell ⟨g,k,none⟩ v) x hs L S rs :=
 ⟨(Below.heap_setCell _ _ _ _ (by dsimp only; omega)).trans h.out,fun j hj => (h.row j hj).other (by have := h.lt j hj; omega) _ _,h.lt,h.inc⟩
structure L3M (w : World) (g : Nat) (T : List (Nat × List Nat)) (L S n : Nat) (G : Nat → List (List Int)) : Prop where
 out : w.heap[g]? = some (.cells ((T.map fun t => Value.slice (some ⟨t.1,0,none⟩) L L) ++ List.replicate (n - T.length) (Value.slice none 0 0)).toArray 43 (0,0))
 row : ∀ (j : Nat) (t : Nat × List Nat),T[j]? = some t → g < t.1 ∧ t.2.length = L ∧ GoM w t.1 t.2 L S (G j)
theorem L3M.up {w w' : World} {g : Nat} {T : List (Nat × List Nat)} {L S n : Nat} {G : Nat → List (List Int)} (h : L3M w g T L S n G) (hb : Below w.heap.size w w') : L3M w' g T L S n G :=
 ⟨(hb.block g (Array.getElem?_eq_some_iff.1 h.out).1).trans h.out,fun j t ht => ⟨(h.row j t ht).1,(h.row j t ht).2.1,(h.row j t ht).2.2.up hb⟩⟩
theorem L3M.put {w : World} {g : Nat} {T : List (Nat × List Nat)} {L S n x : Nat} {hs : List Nat} {G : Nat → List (List Int)} (h : L3M w g T L S n G) (hk : T.length < n) (hx : GoM w x hs L S (G T.length)) (hl : hs.length = L) (hg : g < x) :
  L3M (w.setCell ⟨g,T.length,none⟩ (.slice (some ⟨x,0,none⟩) L L)) g (T ++ [(x,hs)]) L S n G := by
 refine ⟨?_,fun j t ht => ?_⟩
 ·rw [heap_setCell_same w g T.length _ _ _ h.out]
  congr 2
  rw [List.setIfInBounds_toArray]
  congr 1
  rw [List.set_append_right _ _ (by simp),List.length_map,Nat.sub_self]
  obtain ⟨d,hd⟩ : ∃ d,n - T.length = d + 1 := ⟨n - T.length - 1,by omega⟩
  have hd2 : n - (T ++ [(x,hs)]).length = d := by simp; omega
  rw [hd,hd2,List.replicate_succ,List.set_cons_zero]
  simp
 ·by_cases e : j < T.length
  ·rw [List.getElem?_append_left e] at ht
   obtain ⟨h1,h2,h3⟩ := h.row j t ht
   exact ⟨h1,h2,h3.other h1 _ _⟩
  ·have e2 : j = T.length := by
    have := (List.getElem?_eq_some_iff.1 ht).1
    rw [List.length_append,List.length_singleton] at this
    omega
   subst e2
   simp at ht
   subst ht
   exact ⟨hg,hl,hx.other hg _ _⟩
theorem q21 : (Try.prog.info? 43).map (·.size) = some 1 := by kernel_rfl
theorem q1g (g n k : Nat) (hk : k < n) (w : World) : (Instr.indexAt 58 (.slice (some ⟨g,0,none⟩) n n) (.int .i64 (k : Int))).run Try.prog w = .ok (.pointer (some ⟨g,k,none⟩)) w := by
 have := qf (P := Try.prog) (T := 58) Try.underlying58 q21 (a := some ⟨g,0,none⟩) (cap := n) (n := n) (fun e => by cases e) k w hk
 simpa [adOf,qa] using this
theorem q2t : (Try.prog.info? 43).map (fun i => (i.zero,i.size,i.bytes)) = some (some (.slice none 0 0),1,24) := by kernel_rfl
theorem q2v (c : Nat) (hb : c ≤ 1000000) (w : World) :
  (Instr.makeSlice 58 (.int .i64 (c : Int)) (.int .i64 (c : Int))).run Try.prog w = .ok (.slice (some ⟨w.heap.size,0,none⟩) c c) (w.alloc (.cells (Array.replicate c (Value.slice none 0 0)) 43)) := by
 obtain ⟨i,hi,hz0,hz1,hz2⟩ := info_parts q2t
 have := run_make (P := Try.prog) w 58 43 i (.slice none 0 0) Try.underlying58 hi hz0 .i64 .i64 c c (by omega) (by omega) (by rw [hz2]; omega) (by omega)
 rw [this,hz1,← List.toArray_replicate,← q37]
 simp only [Int.toNat_natCast,Nat.mul_one]
 rfl
theorem L3M.r3 {w : World} {g : Nat} {T : List (Nat × List Nat)} {p : Int} {nA : Nat} {N : List Gd} {gs : List Int} {e s : Nat} (h : L3M w g T (mvL e).length (mvL s).length nA (goeL p N gs e s)) (hT : T.length = nA) (hM : MayG p nA N gs) (hS : SplitN p.toNat e s) : R3S w (some ⟨g,0,none⟩) nA nA (gfA p N gs e s) nA := by
 have hn := hM.s2
 have h1 := qk e
 have h2 := qk s
 refine ⟨by omega,fun q hq => ?_⟩
 have hqT : q < T.length := by omega
 obtain ⟨h3,h4,h5⟩ := h.row q T[q] (List.getElem?_eq_getElem hqT)
 have hlen : (gfA p N gs e s q).length = (mvL e).length := by simp [gfA]
 obtain ⟨hz,hm⟩ := h5.zz h4 (by omega) (by omega) (by simp [goeL]) (fun j hj => by rw [q1z hj]; simp [goR]) (q2e hM hq hS)
 refine ⟨g,q,none,some ⟨T[q].1,0,none⟩,(mvL e).length,fun w' => q1g g nA q hq w',?_,?_⟩
 ·rw [q7 h.out,hlen]
  simp [List.getElem?_append_left (show q < (T.map fun t => Value.slice (some ⟨t.1,0,none⟩) (mvL e).length (mvL e).length).length by simp; omega),List.getElem?_eq_getElem hqT]
 ·rw [hlen]
  exact hz.rwS (hm.trans (q2z p N gs e s q)) (by omega) (qt hM hS q hq) (fun row hr => by
   obtain ⟨x,_,rfl⟩ := List.mem_map.1 hr
   rw [List.length_map]; omega)
theorem qV (p : Int) (aA : Option Addr) (nA cA : Nat) (aG : Option Addr) (nG cG : Nat) (aN : Option Addr) (nN cN : Nat) (bs : List Bool) (N : List Gd) (gs : List Int) (x y : Nat) (w : World) (hB : BoSl w aA nA cA bs) (hN : NdSl w aN nN cN N) (hG : ZSl w aG nG cG gs) (hok : ∀ z ∈ gs,I64 z) (hx : x < 256) (hy : y < 256) (hX : ChkN p nA bs N gs x y 0) :
  Calls Try.prog 29 #[.agg #[.int .i64 p,.slice aA nA cA,.slice aG nG cG,.slice aN nN cN],.agg #[.int .u8 (x : Int),.int .u8 (y : Int)]] w fun e w' => Below w.heap.size w w' ∧ ∃ a,e = .returned (.slice a nA nA) ∧ Hid (R3S w' a nA nA (gfA p N gs x y) nA) := by
 obtain ⟨Q,hQ⟩ : ∃ Q : Ending → World → Prop,Q = fun e w' => Below w.heap.size w w' ∧ ∃ a,e = .returned (.slice a nA nA) ∧ Hid (R3S w' a nA nA (gfA p N gs x y) nA) := ⟨_,rfl⟩
 have HQ : Hid (∀ w' a,Below w.heap.size w w' → R3S w' a nA nA (gfA p N gs x y) nA → Q (.returned (.slice a nA nA)) w') := fun w' a h1 h2 => by rw [hQ]; exact ⟨h1,a,rfl,h2⟩
 rw [← hQ]
 clear hQ
 obtain ⟨hM,_,hS⟩ := hX.ok
 have hn256 := hM.s2
 have HFN : Hid (∀ w' g T,L3M w' g T (mvL x).length (mvL y).length nA (goeL p N gs x y) → T.length = nA → R3S w' (some ⟨g,0,none⟩) nA nA (gfA p N gs x y) nA) := fun w' g T h1 h2 => h1.r3 h2 hM hS
 obtain ⟨w1,hw1⟩ : ∃ w1,w1 = w.alloc (.cells #[.int .i64 p,.slice aA nA cA,.slice aG nG cG,.slice aN nN cN] 26 (0,0)) := ⟨_,rfl⟩
 have hb1 : Below w.heap.size w w1 := by rw [hw1]; exact q8 _ _
 have hA1 : AuB w1 w.heap.size p aA nA cA aG nG cG aN nN cN := by rw [hw1]; exact qb w p aA nA cA aG nG cG aN nN cN
 have HW1 : Hid _ := hw1
 obtain ⟨w2,hw2⟩ : ∃ w2,w2 = w1.alloc (.cells #[.int .u8 (x : Int),.int .u8 (y : Int)] 29 (0,0)) := ⟨_,rfl⟩
 have hb2 : Below w1.heap.size w1 w2 := by rw [hw2]; exact q8 _ _
 have hk2 : w2.heap[w1.heap.size]? = some (.cells #[.int .u8 (x : Int),.int .u8 (y : Int)] 29 (0,0)) := by rw [hw2]; exact (MapKept.heap_alloc w1 _).1
 have HW2 : Hid _ := hw2
 have hb02 : Below w.heap.size w w2 := q6 hb1 hb2
 have HC : Hid (∀ w',Below w2.heap.size w2 w' → AuB w' w.heap.size p aA nA cA aG nG cG aN nN cN ∧ w'.heap[w1.heap.size]? = some (.cells #[.int .u8 (x : Int),.int .u8 (y : Int)] 29 (0,0)) ∧ BoSl w' aA nA cA bs ∧ NdSl w' aN nN cN N ∧ ZSl w' aG nG cG gs ∧ Below w.heap.size w w') := fun w' hb =>
  ⟨(hA1.up hb2).up hb,(hb.block _ (Array.getElem?_eq_some_iff.1 hk2).1).trans hk2,(hB.up hb02).up hb,(hN.up hb02).up hb,(hG.up hb02).up hb,q6 hb02 hb⟩
 have HOK : Hid _ := hok
 have HX : Hid (ChkN p nA bs N gs x y 0) := hX
 clear hB hN hG hok hX hM hS hw1 hb1 hA1 hw2 hb2 hk2 hb02
 obtain ⟨⟨c0,c1,c2,c3⟩,_⟩ := HC.out w2 (Below.refl _ _)
 have hmk := fun w => q2v nA (by omega) w
 obtain ⟨w3,hw3⟩ : ∃ w3,w3 = w2.alloc (.cells (Array.replicate nA (Value.slice none 0 0)) 43) := ⟨_,rfl⟩
 have hb3 : Below w2.heap.size w2 w3 := by rw [hw3]; exact q8 _ _
 have hc3 : w3.heap[w2.heap.size]? = some (.cells (Array.replicate nA (Value.slice none 0 0)) 43 (0,0)) := by rw [hw3]; exact (MapKept.heap_alloc w2 _).1
 have HW3 : Hid _ := hw3
 obtain ⟨g,hg⟩ : ∃ g,g = w2.heap.size := ⟨_,rfl⟩
 rw [← hg] at hb3 hc3 HC
 have HB3 : Hid (Below g w2 w3) := hb3
 have HG3 : Hid (L3M w3 g [] (mvL x).length (mvL y).length nA (goeL p N gs x y)) := ⟨by simpa using hc3,fun j t ht => (by cases ht)⟩
 clear hw3 hb3 hc3
 go_enter Try.func29,Try.ntmps29
 go_wp2_with (first | rw [← HW3.out] | rw [← HW2.out] | rw [← HW1.out])
 rw [← hg]
 have HGS : Hid (g = w2.heap.size) := hg
 clear hmk hg HW1 HW2 HW3 c0 c1 c2 c3
 have hLx := qk x
 generalize hLX : (mvL x).length = LX at *
 have HLX : Hid _ := hLX
 generalize hLY : (mvL y).length = LY at *
 have HLY : Hid _ := hLY
 clear hLX hLY
 go_loopw [13] (fun i wr => ∃ k : Nat,∃ T : List (Nat × List Nat),k ≤ nA ∧ i = .int .i64 (k : Int) ∧ Hid (T.length = k) ∧ Hid (Below g w2 wr) ∧ Hid (L3M wr g T LX LY nA (goeL p N gs x y))) (fun i _ => nA - (intOf i).toNat)
 case atStart => exact ⟨0,[],Nat.zero_le _,rfl,rfl,HB3,HG3⟩
 case round =>
  obtain ⟨k,T,hk,rfl,HT,HB,HG⟩ := hrel
  clear HB3 HG3
  by_cases hlt : k < nA
  ·have e1 : decide ((k : Int) < (nA : Int)) = true := decide_eq_true (by omega)
   obtain ⟨⟨c0,c1,c2,c3⟩,hsp,hbo,hnd,hzg,_⟩ := HC.out wr HB.out
   have s0 := q7 hsp 0
   have s1 := q7 hsp 1
   have jg := qD p aA nA cA aG nG cG aN nN cN bs N gs x y (k : Int) wr hbo hnd hzg HOK.out hx hy
   have ixw := fun w' => q1g g nA k hlt w'
   clear hsp hbo hnd hzg
   go_wp2_with fail
   refine jg.mono ?_
   rintro e w6 ⟨hb6,X,hcase⟩
   obtain ⟨k2,hs,g6,rfl,hkk,hg6,hl6,HM6⟩ : ∃ (k2 : Nat) (hs : List Nat) (g6 : Nat),e = .returned (.tuple #[.slice (some ⟨g6,0,none⟩) LX LX,.int .i64 0]) ∧ k2 = k ∧ wr.heap.size ≤ g6 ∧ hs.length = LX ∧ Hid (GoM w6 g6 hs LX LY (goeL p N gs x y k)) := by
    rcases hcase with ⟨h0,_,h2⟩ | ⟨rfl,_,k2,g6,hs,h1,h2,h3,h4,h5,h6⟩
    ·exfalso
     rcases h2.out with ⟨_,h3,_⟩ | ⟨_,h3,_⟩ | ⟨_,h3,_⟩
     ·exact h0 (h3.uni HX.out)
     ·exact h3 ⟨by omega,by omega⟩
     ·exact h0 h3
    ·obtain rfl : k2 = k := by omega
     rw [HLX.out] at h4 h5 h6
     rw [HLY.out] at h6
     exact ⟨k2,hs,g6,h5,rfl,h3,h4,h6⟩
   subst hkk
   have hgl : g < wr.heap.size := (Array.getElem?_eq_some_iff.1 HG.out.out).1
   have hG6 := HG.out.up hb6
   have HG7 : Hid (L3M (w6.setCell ⟨g,k2,none⟩ (.slice (some ⟨g6,0,none⟩) LX LX)) g (T ++ [(g6,hs)]) LX LY nA (goeL p N gs x y)) := by
    have h := hG6.put (x := g6) (hs := hs) (by rw [HT.out]; exact hlt) (by rw [HT.out]; exact HM6.out) hl6 (by omega)
    rw [HT.out] at h
    exact h
   have HB7 : Hid (Below g w2 (w6.setCell ⟨g,k2,none⟩ (.slice (some ⟨g6,0,none⟩) LX LX))) := by
    show Below g w2 _
    have h := HB.out
    rw [HGS.out] at h ⊢
    exact (q6 h hb6).setCell (Nat.le_refl _) _
   obtain ⟨v6,cv6⟩ : ∃ v,w6.cell? ⟨g,k2,none⟩ = some v := ⟨_,(q7 hG6.out k2).trans (by rw [List.getElem?_toArray,List.getElem?_eq_getElem (by simp; have := HT.out; omega)])⟩
   have fz6 := frozen_of_row _ _ k2 _ _ hG6.out
   have HTN : Hid ((T ++ [(g6,hs)]).length = k2 + 1) := by show (T ++ [(g6,hs)]).length = k2 + 1; rw [List.length_append,List.length_singleton,HT.out]
   clear jg hcase hb6 hG6 hg6 hl6 hgl c0 c1 c2 c3 s0 s1 HG HB HT
   go_wp2
   go_roundw
   case rel => exact ⟨k2 + 1,_,by omega,by go_num,HTN,HB7,HG7⟩
   case measure => simp [intOf]; omega
  ·obtain rfl : k = nA := by omega
   have e1 : decide ((k : Int) < (k : Int)) = false := by simp
   have HE : Hid _ := HQ.out wr (some ⟨g,0,none⟩) (HC.out wr HB.out).2.2.2.2.2 (HFN.out wr g T HG.out HT.out)
   clear HQ HB HG HT
   go_wp2
   exact HE.out
end Go.Proofs.Ytbgogbafkoekjaa
