/- Texts of the proof, put together: what it uses. -/
import Derived.Test.YthhbhadcjofelaaZ11
import Derived.Test.YthhbhadcjofelaaZ12
set_option maxRecDepth 100000
set_option maxHeartbeats 16000000
namespace Go.Proofs.Ythhbhadcjofelaa
open Go.RowKit Go.Maps Go.Sort
theorem GoM.other {w : World} {g x : Nat} {hs : List Nat} {L S : Nat} {rs : List (List Int)} (h : GoM w x hs L S rs) (hg : g < x) (k : Nat) (v : Value) : GoM (w.setCell ⟨g,k,none⟩ v) x hs L S rs :=
 ⟨(Below.heap_setCell _ _ _ _ (by dsimp only; omega)).trans h.out,fun j hj => (h.row j hj).other (by have := h.lt j hj; omega) _ _,h.lt,h.inc⟩
structure L3M (w : World) (g : Nat) (T : List (Nat × List Nat)) (L S n : Nat) (G : Nat → List (List Int)) : Prop where
 out : w.heap[g]? = some (.cells ((T.map fun t => Value.slice (some ⟨t.1,0,none⟩) L L) ++ List.replicate (n - T.length) (Value.slice none 0 0)).toArray 50 (0,0))
 row : ∀ (j : Nat) (t : Nat × List Nat),T[j]? = some t → g < t.1 ∧ t.2.length = L ∧ GoM w t.1 t.2 L S (G j)
theorem L3M.up {w w' : World} {g : Nat} {T : List (Nat × List Nat)} {L S n : Nat} {G : Nat → List (List Int)} (h : L3M w g T L S n G) (hb : Below w.heap.size w w') : L3M w' g T L S n G :=
 ⟨(hb.block g (Array.getElem?_eq_some_iff.1 h.out).1).trans h.out,fun j t ht => ⟨(h.row j t ht).1,(h.row j t ht).2.1,(h.row j t ht).2.2.up hb⟩⟩
theorem L3M.put {w : World} {g : Nat} {T : List (Nat × List Nat)} {L S n x : Nat} {hs : List Nat} {G : Nat → List (List Int)} (h : L3M w g T L S n G) (hk : T.length < n) (hx : GoM w x hs L S (G T.length)) (hl : hs.length = L) (hg : g < x) :
  L3M (w.setCell ⟨g,T.length,none⟩ (.slice (some ⟨x,0,none⟩) L L)) g (T ++ [(x,hs)]) L S n G := by
 refine ⟨?_,fun j t ht => ?_⟩
 ·rw [heap_setCell_same w g T.length _ _ _ h.out]
  congr 2
  rw [List.setIfInBounds_toArray]
  congr 1
  rw [List.set_append_right _ _ (by simp),List.length_map,Nat.sub_self]
  obtain ⟨d,hd⟩ : ∃ d,n - T.length = d + 1 := ⟨n - T.length - 1,by omega⟩
  have hd2 : n - (T ++ [(x,hs)]).length = d := by simp; omega
  rw [hd,hd2,List.replicate_succ,List.set_cons_zero]
  simp
 ·by_cases e : j < T.length
  ·rw [List.getElem?_append_left e] at ht
   obtain ⟨h1,h2,h3⟩ := h.row j t ht
   exact ⟨h1,h2,h3.other h1 _ _⟩
  ·have e2 : j = T.length := by
    have := (List.getElem?_eq_some_iff.1 ht).1
    rw [List.length_append,List.length_singleton] at this
    omega
   subst e2
   simp at ht
   subst ht
   exact ⟨hg,hl,hx.other hg _ _⟩
theorem q2Q : (Try.prog.info? 50).map (·.size) = some 1 := by kernel_rfl
theorem q1S (g n k : Nat) (hk : k < n) (w : World) : (Instr.indexAt 84 (.slice (some ⟨g,0,none⟩) n n) (.int .i64 (k : Int))).run Try.prog w = .ok (.pointer (some ⟨g,k,none⟩)) w := by
 have := qk (P := Try.prog) (T := 84) Try.underlying84 q2Q (a := some ⟨g,0,none⟩) (cap := n) (n := n) (fun e => by cases e) k w hk
 simpa [adOf,qf] using this
theorem q3t : (Try.prog.info? 50).map (fun i => (i.zero,i.size,i.bytes)) = some (some (.slice none 0 0),1,24) := by kernel_rfl
theorem q3w (c : Nat) (hb : c ≤ 1000000) (w : World) :
  (Instr.makeSlice 84 (.int .i64 (c : Int)) (.int .i64 (c : Int))).run Try.prog w = .ok (.slice (some ⟨w.heap.size,0,none⟩) c c) (w.alloc (.cells (Array.replicate c (Value.slice none 0 0)) 50)) := by
 obtain ⟨i,hi,hz0,hz1,hz2⟩ := info_parts q3t
 have := run_make (P := Try.prog) w 84 50 i (.slice none 0 0) Try.underlying84 hi hz0 .i64 .i64 c c (by omega) (by omega) (by rw [hz2]; omega) (by omega)
 rw [this,hz1,← List.toArray_replicate,← q3i]
 simp only [Int.toNat_natCast,Nat.mul_one]
 rfl
theorem L3M.r3 {w : World} {g : Nat} {T : List (Nat × List Nat)} {p : Int} {nA : Nat} {N : List Gd} {gs : List Int} {e s : Nat} (h : L3M w g T (mvL e).length (mvL s).length nA (goeL p N gs e s)) (hT : T.length = nA) (hM : MayG p nA N gs) (hS : SplitN p.toNat e s) : R3S w (some ⟨g,0,none⟩) nA nA (gfA p N gs e s) nA := by
 have hn := hM.s2
 have h1 := ql e
 have h2 := ql s
 refine ⟨by omega,fun q hq => ?_⟩
 have hqT : q < T.length := by omega
 obtain ⟨h3,h4,h5⟩ := h.row q T[q] (List.getElem?_eq_getElem hqT)
 have hlen : (gfA p N gs e s q).length = (mvL e).length := by simp [gfA]
 obtain ⟨hz,hm⟩ := h5.zz h4 (by omega) (by omega) (by simp [goeL]) (fun j hj => by rw [q2r hj]; simp [goR]) (q3e hM hq hS)
 refine ⟨g,q,none,some ⟨T[q].1,0,none⟩,(mvL e).length,fun w' => q1S g nA q hq w',?_,?_⟩
 ·rw [q8 h.out,hlen]
  simp [List.getElem?_append_left (show q < (T.map fun t => Value.slice (some ⟨t.1,0,none⟩) (mvL e).length (mvL e).length).length by simp; omega),List.getElem?_eq_getElem hqT]
 ·rw [hlen]
  exact hz.rwS (hm.trans (q4T p N gs e s q)) (by omega) (qH hM hS q hq) (fun row hr => by
   obtain ⟨x,_,rfl⟩ := List.mem_map.1 hr
   rw [List.length_map]; omega)
theorem q34 (p : Int) (aA : Option Addr) (nA cA : Nat) (aG : Option Addr) (nG cG : Nat) (aN : Option Addr) (nN cN : Nat) (bs : List Bool) (N : List Gd) (gs : List Int) (x y : Nat) (w : World) (hB : BoSl w aA nA cA bs) (hN : NdSl w aN nN cN N) (hG : ZSl w aG nG cG gs) (hok : ∀ z ∈ gs,I64 z) (hx : x < 256) (hy : y < 256) (hX : ChkN p nA bs N gs x y 0) :
  Calls Try.prog 55 #[.agg #[.int .i64 p,.slice aA nA cA,.slice aG nG cG,.slice aN nN cN],.agg #[.int .u8 (x : Int),.int .u8 (y : Int)]] w fun e w' => Below w.heap.size w w' ∧ ∃ a,e = .returned (.slice a nA nA) ∧ Hid (R3S w' a nA nA (gfA p N gs x y) nA) := by
 obtain ⟨Q,hQ⟩ : ∃ Q : Ending → World → Prop,Q = fun e w' => Below w.heap.size w w' ∧ ∃ a,e = .returned (.slice a nA nA) ∧ Hid (R3S w' a nA nA (gfA p N gs x y) nA) := ⟨_,rfl⟩
 have HQ : Hid (∀ w' a,Below w.heap.size w w' → R3S w' a nA nA (gfA p N gs x y) nA → Q (.returned (.slice a nA nA)) w') := fun w' a h1 h2 => by rw [hQ]; exact ⟨h1,a,rfl,h2⟩
 rw [← hQ]
 clear hQ
 obtain ⟨hM,_,hS⟩ := hX.ok
 have hn256 := hM.s2
 have HFN : Hid (∀ w' g T,L3M w' g T (mvL x).length (mvL y).length nA (goeL p N gs x y) → T.length = nA → R3S w' (some ⟨g,0,none⟩) nA nA (gfA p N gs x y) nA) := fun w' g T h1 h2 => h1.r3 h2 hM hS
 obtain ⟨w1,hw1⟩ : ∃ w1,w1 = w.alloc (.cells #[.int .i64 p,.slice aA nA cA,.slice aG nG cG,.slice aN nN cN] 26 (0,0)) := ⟨_,rfl⟩
 have hb1 : Below w.heap.size w w1 := by rw [hw1]; exact qb _ _
 have hA1 : AuB w1 w.heap.size p aA nA cA aG nG cG aN nN cN := by rw [hw1]; exact qj w p aA nA cA aG nG cG aN nN cN
 have HW1 : Hid _ := hw1
 obtain ⟨w2,hw2⟩ : ∃ w2,w2 = w1.alloc (.cells #[.int .u8 (x : Int),.int .u8 (y : Int)] 29 (0,0)) := ⟨_,rfl⟩
 have hb2 : Below w1.heap.size w1 w2 := by rw [hw2]; exact qb _ _
 have hk2 : w2.heap[w1.heap.size]? = some (.cells #[.int .u8 (x : Int),.int .u8 (y : Int)] 29 (0,0)) := by rw [hw2]; exact (MapKept.heap_alloc w1 _).1
 have HW2 : Hid _ := hw2
 have hb02 : Below w.heap.size w w2 := q9 hb1 hb2
 have HC : Hid (∀ w',Below w2.heap.size w2 w' → AuB w' w.heap.size p aA nA cA aG nG cG aN nN cN ∧ w'.heap[w1.heap.size]? = some (.cells #[.int .u8 (x : Int),.int .u8 (y : Int)] 29 (0,0)) ∧ BoSl w' aA nA cA bs ∧ NdSl w' aN nN cN N ∧ ZSl w' aG nG cG gs ∧ Below w.heap.size w w') := fun w' hb =>
  ⟨(hA1.up hb2).up hb,(hb.block _ (Array.getElem?_eq_some_iff.1 hk2).1).trans hk2,(hB.up hb02).up hb,(hN.up hb02).up hb,(hG.up hb02).up hb,q9 hb02 hb⟩
 have HOK : Hid _ := hok
 have HX : Hid (ChkN p nA bs N gs x y 0) := hX
 clear hB hN hG hok hX hM hS hw1 hb1 hA1 hw2 hb2 hk2 hb02
 obtain ⟨⟨c0,c1,c2,c3⟩,_⟩ := HC.out w2 (Below.refl _ _)
 have hmk := fun w => q3w nA (by omega) w
 obtain ⟨w3,hw3⟩ : ∃ w3,w3 = w2.alloc (.cells (Array.replicate nA (Value.slice none 0 0)) 50) := ⟨_,rfl⟩
 have hb3 : Below w2.heap.size w2 w3 := by rw [hw3]; exact qb _ _
 have hc3 : w3.heap[w2.heap.size]? = some (.cells (Array.replicate nA (Value.slice none 0 0)) 50 (0,0)) := by rw [hw3]; exact (MapKept.heap_alloc w2 _).1
 have HW3 : Hid _ := hw3
 obtain ⟨g,hg⟩ : ∃ g,g = w2.heap.size := ⟨_,rfl⟩
 rw [← hg] at hb3 hc3 HC
 have HB3 : Hid (Below g w2 w3) := hb3
 have HG3 : Hid (L3M w3 g [] (mvL x).length (mvL y).length nA (goeL p N gs x y)) := ⟨by simpa using hc3,fun j t ht => (by cases ht)⟩
 clear hw3 hb3 hc3
 go_enter Try.func55,Try.ntmps55
 go_wp2_with (first | rw [← HW3.out] | rw [← HW2.out] | rw [← HW1.out])
 rw [← hg]
 have HGS : Hid (g = w2.heap.size) := hg
 clear hmk hg HW1 HW2 HW3 c0 c1 c2 c3
 have hLx := ql x
 generalize hLX : (mvL x).length = LX at *
 have HLX : Hid _ := hLX
 generalize hLY : (mvL y).length = LY at *
 have HLY : Hid _ := hLY
 clear hLX hLY
 go_loopw [13] (fun i wr => ∃ k : Nat,∃ T : List (Nat × List Nat),k ≤ nA ∧ i = .int .i64 (k : Int) ∧ Hid (T.length = k) ∧ Hid (Below g w2 wr) ∧ Hid (L3M wr g T LX LY nA (goeL p N gs x y))) (fun i _ => nA - (intOf i).toNat)
 case atStart => exact ⟨0,[],Nat.zero_le _,rfl,rfl,HB3,HG3⟩
 case round =>
  obtain ⟨k,T,hk,rfl,HT,HB,HG⟩ := hrel
  clear HB3 HG3
  by_cases hlt : k < nA
  ·have e1 : decide ((k : Int) < (nA : Int)) = true := decide_eq_true (by omega)
   obtain ⟨⟨c0,c1,c2,c3⟩,hsp,hbo,hnd,hzg,_⟩ := HC.out wr HB.out
   have s0 := q8 hsp 0
   have s1 := q8 hsp 1
   have jg := qZ p aA nA cA aG nG cG aN nN cN bs N gs x y (k : Int) wr hbo hnd hzg HOK.out hx hy
   have ixw := fun w' => q1S g nA k hlt w'
   clear hsp hbo hnd hzg
   go_wp2_with fail
   refine jg.mono ?_
   rintro e w6 ⟨hb6,X,hcase⟩
   obtain ⟨k2,hs,g6,rfl,hkk,hg6,hl6,HM6⟩ : ∃ (k2 : Nat) (hs : List Nat) (g6 : Nat),e = .returned (.tuple #[.slice (some ⟨g6,0,none⟩) LX LX,.int .i64 0]) ∧ k2 = k ∧ wr.heap.size ≤ g6 ∧ hs.length = LX ∧ Hid (GoM w6 g6 hs LX LY (goeL p N gs x y k)) := by
    rcases hcase with ⟨h0,_,h2⟩ | ⟨rfl,_,k2,g6,hs,h1,h2,h3,h4,h5,h6⟩
    ·exfalso
     rcases h2.out with ⟨_,h3,_⟩ | ⟨_,h3,_⟩ | ⟨_,h3,_⟩
     ·exact h0 (h3.uni HX.out)
     ·exact h3 ⟨by omega,by omega⟩
     ·exact h0 h3
    ·obtain rfl : k2 = k := by omega
     rw [HLX.out] at h4 h5 h6
     rw [HLY.out] at h6
     exact ⟨k2,hs,g6,h5,rfl,h3,h4,h6⟩
   subst hkk
   have hgl : g < wr.heap.size := (Array.getElem?_eq_some_iff.1 HG.out.out).1
   have hG6 := HG.out.up hb6
   have HG7 : Hid (L3M (w6.setCell ⟨g,k2,none⟩ (.slice (some ⟨g6,0,none⟩) LX LX)) g (T ++ [(g6,hs)]) LX LY nA (goeL p N gs x y)) := by
    have h := hG6.put (x := g6) (hs := hs) (by rw [HT.out]; exact hlt) (by rw [HT.out]; exact HM6.out) hl6 (by omega)
    rw [HT.out] at h
    exact h
   have HB7 : Hid (Below g w2 (w6.setCell ⟨g,k2,none⟩ (.slice (some ⟨g6,0,none⟩) LX LX))) := by
    show Below g w2 _
    have h := HB.out
    rw [HGS.out] at h ⊢
    exact (q9 h hb6).setCell (Nat.le_refl _) _
   obtain ⟨v6,cv6⟩ : ∃ v,w6.cell? ⟨g,k2,none⟩ = some v := ⟨_,(q8 hG6.out k2).trans (by rw [List.getElem?_toArray,List.getElem?_eq_getElem (by simp; have := HT.out; omega)])⟩
   have fz6 := frozen_of_row _ _ k2 _ _ hG6.out
   have HTN : Hid ((T ++ [(g6,hs)]).length = k2 + 1) := by show (T ++ [(g6,hs)]).length = k2 + 1; rw [List.length_append,List.length_singleton,HT.out]
   clear jg hcase hb6 hG6 hg6 hl6 hgl c0 c1 c2 c3 s0 s1 HG HB HT
   go_wp2
   go_roundw
   case rel => exact ⟨k2 + 1,_,by omega,by go_num,HTN,HB7,HG7⟩
   case measure => simp [intOf]; omega
  ·obtain rfl : k = nA := by omega
   have e1 : decide ((k : Int) < (k : Int)) = false := by simp
   have HE : Hid _ := HQ.out wr (some ⟨g,0,none⟩) (HC.out wr HB.out).2.2.2.2.2 (HFN.out wr g T HG.out HT.out)
   clear HQ HB HG HT
   go_wp2
   exact HE.out
def FalA (G : GmP) (R : List Int) (q : Nat) (rt : List Nat) : Prop := rt.length = (mvL G.x).length ∧ ∀ i,i < (mvL G.x).length → rt.getD i 0 &&& G.y = rt.getD i 0 ∧ 0 ≤ R.getD (G.t q ((mvL G.x).getD i 0 ||| rt.getD i 0)) 0 ∧ R.getD (G.t q ((mvL G.x).getD i 0 ||| rt.getD i 0)) 0 < R.getD q 0
theorem q2b (G : GmP) (q : Nat) (aL : Option Addr) (cL : Nat) (rt : List Nat) (aR : Option Addr) (cR : Nat) (R : List Int) (w : World) (hO : GmO G) (hW : GmW G w) (hL : LtC w aL rt.length cL rt) (h8 : ∀ z ∈ rt,z < 256) (hR : ZSl w aR G.nA cR R) (hq : q < G.nA) :
  Calls Try.prog 93 #[G.v,.int .i64 (q : Int),.slice aL rt.length cL,.slice aR G.nA cR] w fun e w' => Below w.heap.size w w' ∧ ∃ b : Bool,e = .returned (.bool b) ∧ (b = true ↔ FalA G R q rt) := by
 obtain ⟨Q,hQ⟩ : ∃ Q : Ending → World → Prop,Q = fun e w' => Below w.heap.size w w' ∧ ∃ b : Bool,e = .returned (.bool b) ∧ (b = true ↔ FalA G R q rt) := ⟨_,rfl⟩
 have HT : Hid (∀ w',Below w.heap.size w w' → FalA G R q rt → Q (.returned (.bool true)) w') := fun w' h h1 => by rw [hQ]; exact ⟨h,true,rfl,fun _ => h1,fun _ => rfl⟩
 have HF : Hid (∀ w',Below w.heap.size w w' → ¬ FalA G R q rt → Q (.returned (.bool false)) w') := fun w' h h1 => by rw [hQ]; exact ⟨h,false,rfl,fun e => (by cases e),fun h3 => absurd h3 h1⟩
 rw [← hQ]
 clear hQ
 have hkb := ql G.x
 have hrb := Nat.le_trans hL.hcap hL.bd
 unfold maxLen at hrb
 obtain ⟨w1,hw1,hb1,hk1,_⟩ := qI G w
 have HW1 : Hid _ := hw1
 have HB1 : Hid (Below w.heap.size w w1) := hb1
 have HC : Hid (∀ w',Below w1.heap.size w1 w' → GmB G w' w.heap.size ∧ GmW G w' ∧ ZSl w' aR G.nA cR R ∧ LtC w' aL rt.length cL rt) := fun w' hb => ⟨hk1.up hb,(hW.up hb1).up hb,(hR.up hb1).up hb,(hL.up hb1).up hb⟩
 have HK1 : Hid (∀ i,i < (mvL G.x).length → (mvL G.x).getD i 0 < 256 ∧ (mvL G.x).getD i 0 &&& G.x = (mvL G.x).getD i 0) := fun i hi => qi hi
 have HO : Hid (GmO G) := hO
 have H8 : Hid _ := h8
 have c6 := q8 hk1 6
 have hy8 := hO.y8
 clear hw1 hb1 hk1 hW hR hO hL h8
 by_cases hll : rt.length = (mvL G.x).length
 rotate_left
 ·have e1 : ((rt.length : Int) != ((mvL G.x).length : Int)) = true := by rw [bne_iff_ne]; omega
  have HE : Hid _ := HF.out w1 HB1.out fun h => hll h.1
  clear HT HF
  go_enter Try.func93,Try.ntmps93
  go_wp2_with (rw [← HW1.out])
  exact HE.out
 have e1 : (((mvL G.x).length : Int) != ((mvL G.x).length : Int)) = false := by simp
 have HLN : Hid (rt.length = (mvL G.x).length) := hll
 rw [hll] at HC ⊢
 clear hll hrb
 go_enter Try.func93,Try.ntmps93
 go_wp2_with (rw [← HW1.out])
 clear c6 e1
 go_loopw [21] (fun i wr => ∃ k : Nat,k ≤ (mvL G.x).length ∧ i = .int .i64 (k : Int) ∧ Hid (Below w1.heap.size w1 wr) ∧ Hid (∀ i,i < k → rt.getD i 0 &&& G.y = rt.getD i 0 ∧ 0 ≤ R.getD (G.t q ((mvL G.x).getD i 0 ||| rt.getD i 0)) 0 ∧ R.getD (G.t q ((mvL G.x).getD i 0 ||| rt.getD i 0)) 0 < R.getD q 0)) (fun i _ => (mvL G.x).length - (intOf i).toNat)
 case atStart => exact ⟨0,Nat.zero_le _,rfl,Below.refl _ _,fun i hi => absurd hi (Nat.not_lt_zero _)⟩
 case round =>
  obtain ⟨k,hk,rfl,HB,HA⟩ := hrel
  by_cases hlt : k < (mvL G.x).length
  ·have e1 : decide ((k : Int) < ((mvL G.x).length : Int)) = true := decide_eq_true (by omega)
   obtain ⟨hg,hw,hr,hl⟩ := HC.out wr HB.out
   have c5 := q8 hg 5
   have z5 := cell_regrown c5
   have ixe := fun w' => hw.le.idx _ k w' hlt (Nat.le_refl _)
   have cee := hw.le.cell k hlt
   rw [qh hlt] at cee
   have hkr : k < rt.length := by rw [HLN.out]; exact hlt
   have ixl := fun w' => hl.idx _ k w' hlt (Nat.le_refl _)
   have cel := hl.cell k hlt
   rw [qh hkr] at cel
   have zel := cell_regrown cel
   have hm8 : rt.getD k 0 < 256 := H8.out _ (by rw [qe 0 hkr]; exact List.getElem_mem hkr)
   obtain ⟨hx8,hxm⟩ := HK1.out k hlt
   have hnot := q2u hy8 hm8
   have kI : ∀ dd os,Calls Try.prog 92 #[.int .u8 (G.y : Int),.int .u8 ((rt.getD k 0 : Nat) : Int)] (grow (redrawn wr dd) os) fun e w'' => e = .returned (.bool (decide (rt.getD k 0 &&& G.y = rt.getD k 0))) ∧ ∃ p : Regrown,w'' = grow (redrawn wr p.d) p.os := fun dd os => by
    refine (qR G.y _ _ _ hnot).mono ?_
    rintro e w'' ⟨rfl,rfl⟩
    exact ⟨rfl,regrown_of_below (below_regrown wr dd os)⟩
   have HE : Hid (∀ dd os,Below wr.heap.size wr (grow (redrawn wr dd) os)) := fun dd os => below_regrown wr dd os
   have HNX : Hid (∀ (w' : World),Below wr.heap.size wr w' → rt.getD k 0 &&& G.y = rt.getD k 0 → ∀ dd os,Calls Try.prog 70 #[G.v,.int .i64 (q : Int),.int .u8 (((mvL G.x).getD k 0 ||| rt.getD k 0 : Nat) : Int)] (grow (redrawn w' dd) os) fun e w'' => e = .returned (.int .i64 ((G.t q ((mvL G.x).getD k 0 ||| rt.getD k 0) : Nat) : Int)) ∧ ∃ p : Regrown,w'' = grow (redrawn w' p.d) p.os) := fun w' hb hmy dd os => by
    have hb2 := below_regrown w' dd os
    refine (qx G q _ _ HO.out ((HC.out w' (q9 HB.out hb)).2.1.up hb2) hq (HO.out.lt hxm hmy)).mono ?_
    rintro e w'' ⟨rfl,h2⟩
    exact ⟨rfl,regrown_of_below (q9 hb2 h2)⟩
   have HTO : Hid (rt.getD k 0 &&& G.y = rt.getD k 0 → G.t q ((mvL G.x).getD k 0 ||| rt.getD k 0) < G.nA) := fun hmy => HO.out.to hq hxm hmy
   have hor := u8_or_nat _ _ hx8 hm8
   have HNO : Hid (¬ (rt.getD k 0 &&& G.y = rt.getD k 0 ∧ 0 ≤ R.getD (G.t q ((mvL G.x).getD k 0 ||| rt.getD k 0)) 0 ∧ R.getD (G.t q ((mvL G.x).getD k 0 ||| rt.getD k 0)) 0 < R.getD q 0) → ∀ w',Below w.heap.size w w' → Q (.returned (.bool false)) w') := fun h w' hb => HF.out w' hb fun h3 => h (h3.2 k hlt)
   have HYE : Hid ((rt.getD k 0 &&& G.y = rt.getD k 0 ∧ 0 ≤ R.getD (G.t q ((mvL G.x).getD k 0 ||| rt.getD k 0)) 0 ∧ R.getD (G.t q ((mvL G.x).getD k 0 ||| rt.getD k 0)) 0 < R.getD q 0) → ∀ i,i < k + 1 → rt.getD i 0 &&& G.y = rt.getD i 0 ∧ 0 ≤ R.getD (G.t q ((mvL G.x).getD i 0 ||| rt.getD i 0)) 0 ∧ R.getD (G.t q ((mvL G.x).getD i 0 ||| rt.getD i 0)) 0 < R.getD q 0) := fun h i hi => by
    rcases Nat.lt_succ_iff_lt_or_eq.1 hi with h1 | rfl
    ·exact HA.out i h1
    ·exact h
   have HRR : Hid (∀ t,t < G.nA → ∀ w',Below wr.heap.size wr w' → (∀ w'',(Instr.indexAt 23 (.slice aR G.nA cR) (.int .i64 (t : Int))).run Try.prog w'' = .ok (.pointer (some (adOf aR t))) w'') ∧ w'.cell? (adOf aR t) = some (.int .i64 (R.getD t 0))) := fun t ht w' hb => by
    have h := (HC.out w' (q9 HB.out hb)).2.2.1
    exact ⟨fun w'' => h.idx _ t w'' ht (Nat.le_refl _),h.cell t ht⟩
   have HLL : Hid (∀ w',Below wr.heap.size wr w' → GmB G w' w.heap.size ∧ w'.cell? (adOf aL k) = some (.int .u8 ((rt.getD k 0 : Nat) : Int))) := fun w' hb => by
    have h := HC.out w' (q9 HB.out hb)
    have h2 := h.2.2.2.cell k hlt
    rw [qh hkr] at h2
    exact ⟨h.1,h2⟩
   clear hg hw hr hl hnot hxm HA HF HT H8
   generalize G.t q ((mvL G.x).getD k 0 ||| rt.getD k 0) = t at *
   generalize (mvL G.x).getD k 0 ||| rt.getD k 0 = l at *
   generalize (mvL G.x).getD k 0 = xe at *
   generalize rt.getD k 0 = m at *
   generalize adOf G.aE k = ak at *
   obtain ⟨ak1,ak2,ak3⟩ := ak
   generalize adOf aL k = al at *
   obtain ⟨al1,al2,al3⟩ := al
   by_cases hmy : m &&& G.y = m
   rotate_left
   ·rw [decide_eq_false hmy] at kI
    go_upto_region 6 with fail
    refine wp_region_quiet_below (by kernel_rfl) (by kernel_rfl) ?_
    repeat (go_big_quiet_step (exact kI _ _))
    refine wpQuiet_nil ?_
    intro _ hw'
    obtain ⟨⟨dq,oq⟩,hw''⟩ := hw'
    subst hw''
    have HX : Hid _ := HNO.out (fun h => hmy h.1) _ (q9 HB1.out (q9 HB.out (HE.out dq oq)))
    clear HNO HYE HE
    generalize grow (redrawn wr dq) oq = wx at *
    go_wp2
    exact HX.out
   rw [decide_eq_true hmy] at kI
   go_upto_region 6 with fail
   refine wp_region_quiet_below (by kernel_rfl) (by kernel_rfl) ?_
   repeat (go_big_quiet_step (exact kI _ _))
   refine wpQuiet_nil ?_
   intro _ hw'
   obtain ⟨⟨dq,oq⟩,hw''⟩ := hw'
   subst hw''
   have HBX : Hid (Below wr.heap.size wr (grow (redrawn wr dq) oq)) := HE.out dq oq
   clear HE kI z5 c5 zel cel ixe cee
   generalize grow (redrawn wr dq) oq = wx at *
   have htn := HTO.out hmy
   obtain ⟨hgx,clx⟩ := HLL.out wx HBX.out
   have x0 := cell_regrown (q8 hgx 0)
   have x1 := cell_regrown (q8 hgx 1)
   have x2 := cell_regrown (q8 hgx 2)
   have x3 := cell_regrown (q8 hgx 3)
   have x4 := cell_regrown (q8 hgx 4)
   have x5 := cell_regrown (q8 hgx 5)
   have x6 := cell_regrown (q8 hgx 6)
   have x7 := cell_regrown (q8 hgx 7)
   have zl := cell_regrown clx
   obtain ⟨ixt,cet⟩ := HRR.out t htn wx HBX.out
   have zt := cell_regrown cet
   have kN := HNX.out wx HBX.out hmy
   have HE : Hid (∀ dd os,Below wr.heap.size wr (grow (redrawn wx dd) os)) := fun dd os => q9 HBX.out (below_regrown wx dd os)
   have HRQ : Hid _ := HRR.out q hq
   clear hgx clx cet HNX HLL HRR
   dsimp only [GmP.v,GmP.cs] at kN
   generalize R.getD t 0 = rt2 at *
   obtain ⟨rq,hrq⟩ : ∃ z,R.getD q 0 = z := ⟨_,rfl⟩
   have HRQ0 : Hid _ := hrq
   clear hrq
   generalize adOf aR t = at1 at *
   obtain ⟨at1,at2,at3⟩ := at1
   generalize adOf aR q = aq at *
   obtain ⟨aq1,aq2,aq3⟩ := aq
   go_upto_region 8 with fail
   refine wp_region_quiet_below (by kernel_rfl) (by kernel_rfl) ?_
   repeat (go_big_quiet_step (exact kN _ _))
   refine wpQuiet_nil ?_
   intro _ hw'
   obtain ⟨⟨dq,oq⟩,hw''⟩ := hw'
   subst hw''
   have HBZ : Hid (Below wr.heap.size wr (grow (redrawn wx dq) oq)) := HE.out dq oq
   clear HE kN x0 x1 x2 x3 x4 x5 x6 x7 zl zt ixt
   generalize grow (redrawn wx dq) oq = wz at *
   obtain ⟨ixq,ceq⟩ := HRQ.out wz HBZ.out
   rw [HRQ0.out] at ceq
   have HB2 : Hid (Below w1.heap.size w1 wz) := q9 HB.out HBZ.out
   by_cases h0 : 0 ≤ rt2
   rotate_left
   ·have d1 : decide (rt2 < 0) = true := decide_eq_true (by omega)
    have HX : Hid _ := HNO.out (fun h => h0 h.2.1) wz (q9 HB1.out HB2.out)
    clear HNO HYE HRQ
    go_wp2
    exact HX.out
   have d1 : decide (rt2 < 0) = false := decide_eq_false (by omega)
   by_cases h1 : rt2 < rq
   rotate_left
   ·have d2 : decide (rq ≤ rt2) = true := decide_eq_true (by omega)
    have HX : Hid _ := HNO.out (fun h => h1 (by have := h.2.2; rwa [HRQ0.out] at this)) wz (q9 HB1.out HB2.out)
    clear HNO HYE HRQ
    go_wp2
    exact HX.out
   have d2 : decide (rq ≤ rt2) = false := decide_eq_false (by omega)
   have HA2 : Hid _ := HYE.out ⟨hmy,h0,by rw [HRQ0.out]; exact h1⟩
   clear HNO HYE HRQ
   go_wp2
   go_roundw
   case rel => exact ⟨k + 1,hlt,by go_num,HB2,HA2⟩
   case measure => simp [intOf]; omega
  ·obtain rfl : k = (mvL G.x).length := by omega
   have e1 : decide (((mvL G.x).length : Int) < ((mvL G.x).length : Int)) = false := by simp
   have HE : Hid _ := HT.out wr (q9 HB1.out HB.out) ⟨HLN.out,HA.out⟩
   clear HT HF HA
   go_wp2
   exact HE.out
structure GsM (G : GmP) (w : World) (b0 b1 : Nat) (aR : Option Addr) (nR cR : Nat) (aP : Option Addr) (nP cP : Nat) (aC : Option Addr) (nC cC : Nat) (u : SgX) : Prop where
 g : GmB G w b0
 st : w.heap[b1]? = some (.cells #[.bool u.wins,.slice aR nR cR,.slice aP nP cP,.slice aC nC cC] 33 (0,0))
 gw : GmW G w
 sg : SgW w aR nR cR aP nP cP aC nC cC u
theorem GsM.up {G : GmP} {w w' : World} {b0 b1 : Nat} {aR : Option Addr} {nR cR : Nat} {aP : Option Addr} {nP cP : Nat} {aC : Option Addr} {nC cC : Nat} {u : SgX} (h : GsM G w b0 b1 aR nR cR aP nP cP aC nC cC u) (hb : Below w.heap.size w w') : GsM G w' b0 b1 aR nR cR aP nP cP aC nC cC u :=
 ⟨h.g.up hb,(hb.block _ (Array.getElem?_eq_some_iff.1 h.st).1).trans h.st,h.gw.up hb,h.sg.up hb⟩
theorem q3f (G : GmP) (aR : Option Addr) (nR cR : Nat) (aP : Option Addr) (nP cP : Nat) (aC : Option Addr) (nC cC : Nat) (u : SgX) (w : World) (hW : GmW G w) (hU : SgW w aR nR cR aP nP cP aC nC cC u) : ∃ w2,w2 = (w.alloc (.cells G.cs 64 (0,0))).alloc (.cells #[.bool u.wins,.slice aR nR cR,.slice aP nP cP,.slice aC nC cC] 33 (0,0)) ∧ Below w.heap.size w w2 ∧ GsM G w2 w.heap.size (w.heap.size + 1) aR nR cR aP nP cP aC nC cC u := by
 obtain ⟨w1,hw1,b1,k1,s1⟩ := qI G w
 obtain ⟨w2,hw2⟩ : ∃ w2,w2 = w1.alloc (.cells #[.bool u.wins,.slice aR nR cR,.slice aP nP cP,.slice aC nC cC] 33 (0,0)) := ⟨_,rfl⟩
 have b2 : Below w1.heap.size w1 w2 := by rw [hw2]; exact qb _ _
 have k2 : w2.heap[w1.heap.size]? = some (.cells #[.bool u.wins,.slice aR nR cR,.slice aP nP cP,.slice aC nC cC] 33 (0,0)) := by rw [hw2]; exact (MapKept.heap_alloc w1 _).1
 exact ⟨w2,by rw [hw2,hw1],q9 b1 b2,k1.up b2,by rw [← s1]; exact k2,hW.up (q9 b1 b2),hU.up (q9 b1 b2)⟩
theorem q1F (G : GmP) (q : Nat) (aR : Option Addr) (cR : Nat) (aP : Option Addr) (cP : Nat) (aC : Option Addr) (cC : Nat) (u : SgX) (w : World) (hO : GmO G) (hW : GmW G w) (hU : SgW w aR G.nA cR aP G.nA cP aC G.nA cC u) (hq : q < G.nA) :
  Calls Try.prog 64 #[G.v,.int .i64 (q : Int),.agg #[.bool u.wins,.slice aR G.nA cR,.slice aP G.nA cP,.slice aC G.nA cC]] w fun e w' => Below w.heap.size w w' ∧ ∃ b : Bool,e = .returned (.bool b) ∧ (b = true ↔ OneS G.t (acA G.bs) G.x G.y u q) := by
 obtain ⟨Q,hQ⟩ : ∃ Q : Ending → World → Prop,Q = fun e w' => Below w.heap.size w w' ∧ ∃ b : Bool,e = .returned (.bool b) ∧ (b = true ↔ OneS G.t (acA G.bs) G.x G.y u q) := ⟨_,rfl⟩
 have HT : Hid (∀ w',Below w.heap.size w w' → OneS G.t (acA G.bs) G.x G.y u q → Q (.returned (.bool true)) w') := fun w' h h1 => by rw [hQ]; exact ⟨h,true,rfl,fun _ => h1,fun _ => rfl⟩
 have HF : Hid (∀ w',Below w.heap.size w w' → ¬ OneS G.t (acA G.bs) G.x G.y u q → Q (.returned (.bool false)) w') := fun w' h h1 => by rw [hQ]; exact ⟨h,false,rfl,fun e => (by cases e),fun h3 => absurd h3 h1⟩
 have HQ : Hid (∀ w' b,Below w.heap.size w w' → (b = true ↔ OneS G.t (acA G.bs) G.x G.y u q) → Q (.returned (.bool b)) w') := fun w' b h h1 => by rw [hQ]; exact ⟨h,b,rfl,h1⟩
 rw [← hQ]
 clear hQ
 obtain ⟨w2,hw2,hb2,hm2⟩ := q3f G aR G.nA cR aP G.nA cP aC G.nA cC u w hW hU
 have HW2 : Hid _ := hw2
 have HB2 : Hid (Below w.heap.size w w2) := hb2
 have HC : Hid (∀ w',Below w2.heap.size w2 w' → GsM G w' w.heap.size (w.heap.size + 1) aR G.nA cR aP G.nA cP aC G.nA cC u) := fun w' hb => hm2.up hb
 have HO : Hid (GmO G) := hO
 obtain ⟨rs,hP,hrs⟩ := hm2.sg.p
 obtain ⟨g,o,sp,r,hr,hi,hc,hlt,hz⟩ := hP.at q hq
 have hpq : u.p q = r.ts := by
  have : u.rep[q]? = some r.ts := by rw [← hrs,List.getElem?_map,hr]; rfl
  rw [SgX.p,List.getD_eq_getElem?_getD,this]; rfl
 have hrl : r.ts.length = r.len := by have := hlt.hlen; rwa [List.length_map] at this
 obtain ⟨ra,rn,rc,rt⟩ := r
 dsimp only at *
 obtain rfl : rt.length = rn := hrl
 have HPQ : Hid (u.p q = rt) := hpq
 have HRL : Hid (∀ w',Below w2.heap.size w2 w' → LtC w' ra rt.length rc rt) := fun w' hb => hlt.up hb
 have HRZ : Hid (∀ z ∈ rt,z < 256) := hz
 have hcl : u.cho.length = G.nA := by have := hm2.sg.c.hlen; rwa [List.length_map] at this
 have ixc := fun w' => hm2.sg.c.idx G.nA q w' hq (Nat.le_refl _)
 have cec := hm2.sg.c.cell q hq
 rw [qh (by rw [hcl]; exact hq)] at cec
 have hc8 : u.c q < 256 := hm2.sg.ci _ (by rw [SgX.c,qe 0 (by rw [hcl]; exact hq)]; exact List.getElem_mem _)
 have ixr := fun w' => hm2.sg.r.idx G.nA q w' hq (Nat.le_refl _)
 have cer := hm2.sg.r.cell q hq
 obtain ⟨ixa,cea⟩ := hm2.gw.bo.getQ hq
 have t1 := q8 hm2.st 1
 have t2 := q8 hm2.st 2
 have t3 := q8 hm2.st 3
 have g1 := q8 hm2.g 1
 have z1 := cell_regrown t1
 have z2 := cell_regrown t2
 have z3 := cell_regrown t3
 have zc := cell_regrown cec
 have zr := cell_regrown cer
 have zp := cell_regrown hc
 have ya := cell_regrown cea
 have yg := cell_regrown g1
 have HE : Hid (∀ dd os,Below w2.heap.size w2 (grow (redrawn w2 dd) os)) := fun dd os => below_regrown w2 dd os
 have HX8 : Hid (G.x < 256) := hO.x8
 clear hw2 hb2 hm2 hW hU hO hP hrs hr hlt hz hpq hcl t1 t2 t3 g1 cec cer hc cea
 obtain ⟨rq,hrq⟩ : ∃ z,u.r q = z := ⟨_,rfl⟩
 have hrq2 : u.R.getD q 0 = rq := hrq
 rw [hrq2] at zr
 obtain ⟨cq,hcq⟩ : ∃ z,u.c q = z := ⟨_,rfl⟩
 have hcq2 : u.cho.getD q 0 = cq := hcq
 rw [hcq2] at zc
 rw [hcq] at hc8
 obtain ⟨ac,hac⟩ : ∃ z,acA G.bs q = z := ⟨_,rfl⟩
 have hac2 : G.bs.getD q false = ac := hac
 rw [hac2] at ya
 have HRQ : Hid (u.r q = rq) := hrq
 have HCQ : Hid (u.c q = cq) := hcq
 have HAC : Hid (acA G.bs q = ac) := hac
 have HON : Hid (OneS G.t (acA G.bs) G.x G.y u q ↔ -1 ≤ rq ∧ (rq = 0 ↔ ac = true) ∧ (rq = 0 → rt = [] ∧ cq = 0) ∧ (0 < rq → cq = 0 ∧ FalA G u.R q rt) ∧ (rq < 0 → rt = [] ∧ cq &&& G.x = cq ∧ ∀ z ∈ mvL G.y,u.R.getD (G.t q (cq ||| z)) 0 = -1)) := by
  show _ ↔ _
  rw [OneS,AbvS,BlwS,HRQ.out,HCQ.out,HAC.out,HPQ.out,FalA,show u.R.getD q 0 = rq from HRQ.out]
  constructor
  ·rintro ⟨h1,h2,h3,h4,h5⟩
   exact ⟨h1,h2,h3,fun h => ⟨(h4 h).2.1,(h4 h).1,(h4 h).2.2⟩,h5⟩
  ·rintro ⟨h1,h2,h3,h4,h5⟩
   exact ⟨h1,h2,h3,fun h => ⟨(h4 h).2.1,(h4 h).1,(h4 h).2.2⟩,h5⟩
 clear hrq hrq2 hcq hcq2 hac hac2 HPQ HRQ HCQ HAC
 generalize adOf aC q = akc at *
 obtain ⟨ac1,ac2,ac3⟩ := akc
 generalize adOf aR q = akr at *
 obtain ⟨ar1,ar2,ar3⟩ := akr
 generalize adOf G.aA q = aka at *
 obtain ⟨aa1,aa2,aa3⟩ := aka
 go_enter Try.func64,Try.ntmps64
 go_upto_region 1 with (rw [← HW2.out])
 refine wp_region_quiet_below (by kernel_rfl) (by kernel_rfl) ?_
 repeat (go_big_quiet_step (fail))
 refine wpQuiet_nil ?_
 intro _ hw'
 obtain ⟨⟨dq,oq⟩,hw''⟩ := hw'
 subst hw''
 have HBX : Hid (Below w2.heap.size w2 (grow (redrawn w2 dq) oq)) := HE.out dq oq
 have c1 := yg dq oq
 have ca := ya dq oq
 clear HE z1 z2 z3 zc zr zp ya yg hi ixc ixr
 generalize grow (redrawn w2 dq) oq = wx at *
 have HXW : Hid (Below w.heap.size w wx) := q9 HB2.out HBX.out
 by_cases hm : rq = 0 ↔ ac = true
 rotate_left
 ·have HE : Hid _ := HF.out wx HXW.out fun h => hm ((HON.out.1 h).2.1)
  clear HT HF HQ HON
  by_cases h0 : rq = 0
  ·have e0 : (rq == 0) = true := by rw [h0]; rfl
   cases ac with
   | true => exact absurd ⟨fun _ => rfl,fun _ => h0⟩ hm
   | false =>
    clear hm
    go_wp2
    exact HE.out
  ·have e0 : (rq == 0) = false := by simpa using h0
   cases ac with
   | false => exact absurd ⟨fun h => absurd h h0,fun h => (by cases h)⟩ hm
   | true =>
    clear hm
    go_wp2
    exact HE.out
 by_cases h0 : rq = 0
 ·subst h0
  obtain rfl : ac = true := hm.1 rfl
  clear hm
  by_cases hrt : rt = []
  ·subst hrt
   by_cases hc0 : cq = 0
   ·subst hc0
    have HE : Hid _ := HT.out wx HXW.out (HON.out.2 ⟨by decide,⟨fun _ => rfl,fun _ => rfl⟩,fun _ => ⟨rfl,rfl⟩,fun h => absurd h (by decide),fun h => absurd h (by decide)⟩)
    clear HT HF HQ HON
    go_wp2
    exact HE.out
   ·have e2 : ((cq : Int) == 0) = false := by simp; omega
    have HE : Hid _ := HF.out wx HXW.out fun h => hc0 ((HON.out.1 h).2.2.1 rfl).2
    clear HT HF HQ HON
    go_wp2
    exact HE.out
  ·have hl0 : rt.length ≠ 0 := fun h => hrt (List.eq_nil_of_length_eq_zero h)
   have e2 : ((rt.length : Int) == 0) = false := by rw [beq_eq_false_iff_ne]; omega
   have HE : Hid _ := HF.out wx HXW.out fun h => hrt ((HON.out.1 h).2.2.1 rfl).1
   clear HT HF HQ HON hrt
   go_wp2
   exact HE.out
 have e0 : (rq == 0) = false := by simpa using h0
 have hac : ac = false := by
  cases ac with
  | false => rfl
  | true => exact absurd (hm.2 rfl) h0
 subst hac
 clear hm
 by_cases h1 : rq < -1
 ·have e1 : decide (rq < -1) = true := decide_eq_true h1
  have HE : Hid _ := HF.out wx HXW.out fun h => by have := (HON.out.1 h).1; omega
  clear HT HF HQ HON
  go_wp2
  exact HE.out
 have e1 : decide (rq < -1) = false := decide_eq_false h1
 by_cases h2 : rq = -1
 ·subst h2
  clear h0 h1
  by_cases hrt : rt = []
  rotate_left
  ·have hl0 : rt.length ≠ 0 := fun h => hrt (List.eq_nil_of_length_eq_zero h)
   have e2 : ((rt.length : Int) == 0) = false := by rw [beq_eq_false_iff_ne]; omega
   have HE : Hid _ := HF.out wx HXW.out fun h => hrt ((HON.out.1 h).2.2.2.2 (by decide)).1
   clear HT HF HQ HON hrt
   go_wp2
   exact HE.out
  subst hrt
  have hm3 := HC.out wx HBX.out
  have c4 := q8 hm3.g 4
  have hnot := q2u HX8.out hc8
  have jI := fun w => qR G.x cq w _ hnot
  by_cases hcx : cq &&& G.x = cq
  rotate_left
  ·rw [decide_eq_false hcx] at jI
   have HE : Hid _ := HF.out wx HXW.out fun h => hcx ((HON.out.1 h).2.2.2.2 (by decide)).2.1
   clear HT HF HQ HON hm3 hnot hcx
   go_wp2_with (go_at_call 92; refine (jI _).mono ?_; rintro e w' ⟨rfl,hw'⟩; obtain rfl := hw'.symm; clear hw')
   exact HE.out
  rw [decide_eq_true hcx] at jI
  have js := q12 G q cq aR cR u.R wx HO.out hm3.gw hm3.sg.r hq hcx
  have HE : Hid (∀ w' b,Below w.heap.size w w' → (b = true ↔ ∀ z ∈ mvL G.y,u.R.getD (G.t q (cq ||| z)) 0 = -1) → Q (.returned (.bool b)) w') := fun w' b hb h => HQ.out w' b hb (h.trans ⟨fun h => HON.out.2 ⟨by decide,⟨fun h => absurd h (by decide),fun h => (by cases h)⟩,fun h => absurd h (by decide),fun h => absurd h (by decide),fun _ => ⟨rfl,hcx,h⟩⟩,fun h => ((HON.out.1 h).2.2.2.2 (by decide)).2.2⟩)
  have c0 := q8 hm3.g 0
  have c1 := q8 hm3.g 1
  have c2 := q8 hm3.g 2
  have c3 := q8 hm3.g 3
  have c5 := q8 hm3.g 5
  have c6 := q8 hm3.g 6
  have c7 := q8 hm3.g 7
  have t1 := q8 hm3.st 1
  clear HT HF HQ HON hm3 hnot hcx
  dsimp only [GmP.v,GmP.cs] at js
  go_wp2_with (go_at_call 92; refine (jI _).mono ?_; rintro e w' ⟨rfl,hw'⟩; obtain rfl := hw'.symm; clear hw')
  refine js.mono ?_
  rintro e w5 ⟨hb5,b,rfl,hb⟩
  have HX : Hid _ := HE.out w5 b (q9 HXW.out hb5) hb
  clear js hb5 hb HE
  go_wp2
  exact HX.out
 have e2 : (rq == -1) = false := by simpa using h2
 have h3 : 0 < rq := by omega
 by_cases hc0 : cq = 0
 rotate_left
 ·have e3 : ((cq : Int) == 0) = false := by simp; omega
  have HE : Hid _ := HF.out wx HXW.out fun h => hc0 ((HON.out.1 h).2.2.2.1 h3).1
  clear HT HF HQ HON
  go_wp2
  exact HE.out
 subst hc0
 have hm3 := HC.out wx HBX.out
 have jf := q2b G q ra rc rt aR cR u.R wx HO.out hm3.gw (HRL.out wx HBX.out) HRZ.out hm3.sg.r hq
 have HE : Hid (∀ w' b,Below w.heap.size w w' → (b = true ↔ FalA G u.R q rt) → Q (.returned (.bool b)) w') := fun w' b hb h => HQ.out w' b hb (h.trans ⟨fun h => HON.out.2 ⟨by omega,⟨fun h => absurd h h0,fun h => (by cases h)⟩,fun h => absurd h h0,fun _ => ⟨rfl,h⟩,fun h => absurd h (by omega)⟩,fun h => ((HON.out.1 h).2.2.2.1 h3).2⟩)
 have c0 := q8 hm3.g 0
 have c2 := q8 hm3.g 2
 have c3 := q8 hm3.g 3
 have c4 := q8 hm3.g 4
 have c5 := q8 hm3.g 5
 have c6 := q8 hm3.g 6
 have c7 := q8 hm3.g 7
 have t1 := q8 hm3.st 1
 clear HT HF HQ HON hm3
 dsimp only [GmP.v,GmP.cs] at jf
 go_wp2_with fail
 refine jf.mono ?_
 rintro e w5 ⟨hb5,b,rfl,hb⟩
 have HX : Hid _ := HE.out w5 b (q9 HXW.out hb5) hb
 clear jf hb5 hb HE
 go_wp2
 exact HX.out
theorem q2e (G : GmP) (aR : Option Addr) (nR cR : Nat) (aP : Option Addr) (nP cP : Nat) (aC : Option Addr) (nC cC : Nat) (u : SgX) (w : World) (hO : GmO G) (hW : GmW G w) (hU : SgW w aR nR cR aP nP cP aC nC cC u) :
  Calls Try.prog 40 #[G.v,.agg #[.bool u.wins,.slice aR nR cR,.slice aP nP cP,.slice aC nC cC]] w fun e w' => Below w.heap.size w w' ∧ ∃ b : Bool,e = .returned (.bool b) ∧ (b = true ↔ KeepS G.t (acA G.bs) G.nA G.x G.y u) := by
 obtain ⟨Q,hQ⟩ : ∃ Q : Ending → World → Prop,Q = fun e w' => Below w.heap.size w w' ∧ ∃ b : Bool,e = .returned (.bool b) ∧ (b = true ↔ KeepS G.t (acA G.bs) G.nA G.x G.y u) := ⟨_,rfl⟩
 have HF : Hid (∀ w',Below w.heap.size w w' → ¬ KeepS G.t (acA G.bs) G.nA G.x G.y u → Q (.returned (.bool false)) w') := fun w' h h1 => by rw [hQ]; exact ⟨h,false,rfl,fun e => (by cases e),fun h3 => absurd h3 h1⟩
 have HQ : Hid (∀ w' b,Below w.heap.size w w' → (b = true ↔ KeepS G.t (acA G.bs) G.nA G.x G.y u) → Q (.returned (.bool b)) w') := fun w' b h h1 => by rw [hQ]; exact ⟨h,b,rfl,h1⟩
 rw [← hQ]
 clear hQ
 obtain ⟨w2,hw2,hb2,hm2⟩ := q3f G aR nR cR aP nP cP aC nC cC u w hW hU
 have HW2 : Hid _ := hw2
 have HB2 : Hid (Below w.heap.size w w2) := hb2
 have HC : Hid (∀ w',Below w2.heap.size w2 w' → GsM G w' w.heap.size (w.heap.size + 1) aR nR cR aP nP cP aC nC cC u) := fun w' hb => hm2.up hb
 have HO : Hid (GmO G) := hO
 have h1n : 0 < G.nA := by have := hO.may.s1; omega
 have hn2 : G.nA ≤ 256 := hO.may.s2
 have hRl : u.R.length = nR := hm2.sg.r.hlen
 have hPl : u.rep.length = nP := hm2.sg.lp
 have hCl : u.cho.length = nC := by have := hm2.sg.c.hlen; rwa [List.length_map] at this
 have g1 := q8 hm2.g 1
 have t1 := q8 hm2.st 1
 have t2 := q8 hm2.st 2
 have t3 := q8 hm2.st 3
 clear hw2 hb2 hm2 hW hU hO
 by_cases hR : nR = G.nA
 rotate_left
 ·have e1 : ((nR : Int) != (G.nA : Int)) = true := by rw [bne_iff_ne]; omega
  have HE : Hid _ := HF.out w2 HB2.out fun h => hR (by rw [← hRl]; exact h.lR)
  clear HQ HF HC
  go_enter Try.func40,Try.ntmps40
  go_wp2_with (rw [← HW2.out])
  exact HE.out
 have e1 : ((nR : Int) != (G.nA : Int)) = false := by rw [hR]; simp
 by_cases hP : nP = G.nA
 rotate_left
 ·have e2 : ((nP : Int) != (G.nA : Int)) = true := by rw [bne_iff_ne]; omega
  have HE : Hid _ := HF.out w2 HB2.out fun h => hP (by rw [← hPl]; exact h.lp)
  clear HQ HF HC hR
  go_enter Try.func40,Try.ntmps40
  go_wp2_with (rw [← HW2.out])
  exact HE.out
 have e2 : ((nP : Int) != (G.nA : Int)) = false := by rw [hP]; simp
 by_cases hC : nC = G.nA
 rotate_left
 ·have e3 : ((nC : Int) != (G.nA : Int)) = true := by rw [bne_iff_ne]; omega
  have HE : Hid _ := HF.out w2 HB2.out fun h => hC (by rw [← hCl]; exact h.lc)
  clear HQ HF HC hR hP
  go_enter Try.func40,Try.ntmps40
  go_wp2_with (rw [← HW2.out])
  exact HE.out
 have e3 : ((nC : Int) != (G.nA : Int)) = false := by rw [hC]; simp
 subst hR hP hC
 obtain ⟨n,hn⟩ : ∃ n,n = G.nA := ⟨_,rfl⟩
 have HLR : Hid (u.R.length = G.nA) := hRl
 have HLP : Hid (u.rep.length = G.nA) := hPl
 have HLC : Hid (u.cho.length = G.nA) := hCl
 clear hRl hPl hCl hn
 go_enter Try.func40,Try.ntmps40
 go_wp2_with (rw [← HW2.out])
 clear e1 e2 e3 g1 t1 t2 t3
 go_loopw [31] (fun i wr => ∃ k : Nat,k ≤ G.nA ∧ i = .int .i64 (k : Int) ∧ Hid (Below w2.heap.size w2 wr) ∧ Hid (∀ i,i < k → OneS G.t (acA G.bs) G.x G.y u i)) (fun i _ => G.nA - (intOf i).toNat)
 case atStart => exact ⟨0,Nat.zero_le _,rfl,Below.refl _ _,fun i hi => absurd hi (Nat.not_lt_zero _)⟩
 case round =>
  obtain ⟨k,hk,rfl,HB,HA⟩ := hrel
  have hm := HC.out wr HB.out
  have t0 := q8 hm.st 0
  have t1 := q8 hm.st 1
  by_cases hlt : k < G.nA
  ·have e1 : decide ((k : Int) < (G.nA : Int)) = true := decide_eq_true (by omega)
   have jk := q1F G k aR cR aP cP aC cC u wr HO.out hm.gw hm.sg hlt
   have c0 := q8 hm.g 0
   have c1 := q8 hm.g 1
   have c2 := q8 hm.g 2
   have c3 := q8 hm.g 3
   have c4 := q8 hm.g 4
   have c5 := q8 hm.g 5
   have c6 := q8 hm.g 6
   have c7 := q8 hm.g 7
   have t2 := q8 hm.st 2
   have t3 := q8 hm.st 3
   have HKT : Hid (OneS G.t (acA G.bs) G.x G.y u k → ∀ i,i < k + 1 → OneS G.t (acA G.bs) G.x G.y u i) := fun h i hi => by
    rcases Nat.lt_succ_iff_lt_or_eq.1 hi with h1 | rfl
    ·exact HA.out i h1
    ·exact h
   have HKF : Hid (¬ OneS G.t (acA G.bs) G.x G.y u k → ∀ w',Below w.heap.size w w' → Q (.returned (.bool false)) w') := fun h w' hb => HF.out w' hb fun h3 => h (h3.one k hlt)
   clear hm HA HF HQ
   generalize OneS G.t (acA G.bs) G.x G.y u k = P at *
   dsimp only [GmP.v,GmP.cs] at jk
   go_wp2_with fail
   refine jk.mono ?_
   rintro e w4 ⟨hb4,b,rfl,hb⟩
   have HB4 : Hid (Below w2.heap.size w2 w4) := q9 HB.out hb4
   clear jk hb4
   cases b with
   | false =>
    have HE : Hid _ := HKF.out (fun h => by have := hb.2 h; cases this) w4 (q9 HB2.out HB4.out)
    clear HKT HKF hb
    go_wp2
    exact HE.out
   | true =>
    have HN : Hid _ := HKT.out (hb.1 rfl)
    clear HKT HKF hb
    go_wp2
    go_roundw
    case rel => exact ⟨k + 1,hlt,by go_num,HB4,HN⟩
    case measure => simp [intOf]; omega
  ·obtain rfl : k = G.nA := by omega
   have e1 : decide ((G.nA : Int) < (G.nA : Int)) = false := by simp
   have HK0 : Hid (KeepS G.t (acA G.bs) G.nA G.x G.y u ↔ u.wins = decide (0 ≤ u.r 0)) := ⟨fun h => h.win,fun h => ⟨HLR.out,HLP.out,HLC.out,h,HA.out⟩⟩
   have ix0 : ∀ w',(Instr.indexAt 23 (.slice aR G.nA cR) (.int .i64 0)).run Try.prog w' = .ok (.pointer (some (adOf aR 0))) w' := fun w' => hm.sg.r.idx G.nA 0 w' h1n (Nat.le_refl _)
   have ce0 := hm.sg.r.cell 0 h1n
   have hge : -1 ≤ u.R.getD 0 0 := (HA.out 0 h1n).1
   have hd : decide (0 ≤ u.R.getD 0 0) = (u.R.getD 0 0 != -1) := by
    by_cases h : u.R.getD 0 0 = -1
    ·rw [h]; rfl
    ·rw [decide_eq_true (by omega)]; symm; rw [bne_iff_ne]; exact h
   have HE : Hid (Q (.returned (.bool (u.wins == (u.R.getD 0 0 != -1)))) wr.drew) := HQ.out wr.drew _ (q9 (q9 HB2.out HB.out) ((Below.refl _ _).drew)) (by rw [HK0.out,show u.r 0 = u.R.getD 0 0 from rfl,hd,beq_iff_eq])
   clear HQ HF HA HK0 hm hge hd
   generalize u.R.getD 0 0 = r0 at *
   generalize u.wins = uw at *
   generalize adOf aR 0 = ar at *
   obtain ⟨ar1,ar2,ar3⟩ := ar
   go_upto_region 10 with fail
   go_region
   all_goals
    go_wp2
    exact HE.out
end Go.Proofs.Ythhbhadcjofelaa
