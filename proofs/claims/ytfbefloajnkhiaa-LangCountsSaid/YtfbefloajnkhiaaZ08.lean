/- Texts of the proof, put together: what it uses. -/
import Derived.Maps.OwnSet
import Derived.Deep.WholeRow
import Derived.BigQuiet
import Derived.Lib.QuietBelow
import Derived.Test.YtfbefloajnkhiaaZ00
import Derived.Test.YtfbefloajnkhiaaZ02
import Derived.Test.YtfbefloajnkhiaaZ06
set_option maxRecDepth 100000
set_option maxHeartbeats 16000000
namespace Go.Proofs.Ytfbefloajnkhiaa
open Go.RowKit Go.Maps
def LeR (p : Int) (aA : Option Addr) (nA cA : Nat) (bs : List Bool) (N : List Gd) (gs : List Int) (w : World) (e : Ending) (w' : World) : Prop :=
 Below w.heap.size w w' ∧ ((¬ MayG p nA N gs ∧ e = .returned (.tuple #[.agg #[.slice none 0 0,.slice none 0 0],.int .i64 12])) ∨
  (MayG p nA N gs ∧ ∃ aT cT,e = .returned (.tuple #[.agg #[.slice aA nA cA,.slice aT nA cT],.int .i64 0]) ∧ MvS w' aA cA aT cT nA bs (rowsG N gs (2 ^ p.toNat))))
def MvG (w : World) (g : Nat) (u v : Value) : Prop := w.heap[g]? = some (.cells #[u,v] 62 (0,0))
theorem MvG.lt {w : World} {g : Nat} {u v : Value} (h : MvG w g u v) : g < w.heap.size := (Array.getElem?_eq_some_iff.1 h).1
theorem MvG.up {w w' : World} {g : Nat} {u v : Value} (h : MvG w g u v) (hb : Below w.heap.size w w') : MvG w' g u v := (hb.block g h.lt).trans h
theorem qa (w : World) (u v : Value) : MvG (w.alloc (.cells #[u,v] 62 (0,0))) w.heap.size u v := (MapKept.heap_alloc w _).1
theorem MvG.c0 {w : World} {g : Nat} {u v : Value} (h : MvG w g u v) : w.cell? ⟨g,0,none⟩ = some u := q7 h 0
theorem MvG.c1 {w : World} {g : Nat} {u v : Value} (h : MvG w g u v) : w.cell? ⟨g,1,none⟩ = some v := q7 h 1
theorem MvG.fz {w : World} {g : Nat} {u v : Value} (h : MvG w g u v) (i : Nat) : w.frozen? ⟨g,i,none⟩ = false := frozen_of_row w g i _ _ h
structure LdG (w wr : World) (g : Nat) (p : Int) (aA : Option Addr) (nA cA : Nat) (aG : Option Addr) (nG cG : Nat) (aN : Option Addr) (nN cN : Nat) (N : List Gd) (gs : List Int) (k : Nat) (mv : Value) (rs : List Zc) : Prop where
 au : AuB wr w.heap.size p aA nA cA aG nG cG aN nN cN
 rz : MvG wr (w.heap.size + 1) (.slice none 0 0) (.slice none 0 0)
 mb : MvG wr g (.slice aA nA cA) mv
 gl : w.heap.size + 2 ≤ g
 bel : Below w.heap.size w wr
 hl : rs.length = k
 own : wr.ownsRow (g + 1) 23 1 mv k (rs.map fun r => .slice r.a r.len r.cap)
 zs : rs.map (·.zs) = (rowsG N (gs.take k) (2 ^ p.toNat)).map (·.map Int.ofNat)
 row : ∀ r ∈ rs,ZSl wr r.a r.len r.cap r.zs ∧ ∀ j,j < r.len → g < (adOf r.a j).block ∧ mv.ownBlock ≠ some (adOf r.a j).block
theorem LdG.next {w wr w6 w7 : World} {g : Nat} {p : Int} {aA : Option Addr} {nA cA : Nat} {aG : Option Addr} {nG cG : Nat} {aN : Option Addr} {nN cN : Nat} {N : List Gd} {gs : List Int} {k : Nat} {mv : Value} {rs : List Zc}
  (h : LdG w wr g p aA nA cA aG nG cG aN nN cN N gs k mv rs) (hk : k < gs.length) (hb : Below wr.heap.size wr w6) {a : Option Addr} {len c : Nat} (hz : ZSl w6 a len c ((rowG N (2 ^ p.toNat) (gs.getD k 0)).map Int.ofNat)) (hnw : ∀ j,j < len → wr.heap.size ≤ (adOf a j).block)
  {o : Obj} {gv cv : Nat} (hown : w7.ownsRow (g + 1) 23 1 (.slice (some ⟨gv,0,none⟩) (k + 1) cv) (k + 1) (rs.map (fun r => Value.slice r.a r.len r.cap) ++ [.slice a len c])) (hg : (w6.alloc o).grownBy w7 mv.ownBlock) (hl : mv.ownBlock = some gv ∨ gv = (w6.alloc o).heap.size) :
  LdG w (w7.setCell ⟨g,1,none⟩ (.slice (some ⟨gv,0,none⟩) (k + 1) cv)) g p aA nA cA aG nG cG aN nN cN N gs (k + 1) (.slice (some ⟨gv,0,none⟩) (k + 1) cv) (rs ++ [⟨a,len,c,(rowG N (2 ^ p.toNat) (gs.getD k 0)).map Int.ofNat⟩]) := by
 have hvs := h.own
 have h1 := h.hl
 have h3 := h.zs
 have h4 := h.row
 have hb1 := q5 hb (q6 w6 o)
 have hsz : (w6.alloc o).heap.size = w6.heap.size + 1 := by simp
 have hgl := h.gl
 have hgw := h.mb.lt
 have hge := qf hvs
 have hlt : ∀ q,mv.ownBlock = some q → q < wr.heap.size := fun q hq => (hvs.lt q hq).2
 have hgv : g + 1 ≤ gv := by
  rcases hl with e | e
  ·exact hge _ e
  ·have := hb.size; omega
 have keep : ∀ b,b < wr.heap.size → mv.ownBlock ≠ some b → b ≠ g → (w7.setCell ⟨g,1,none⟩ (.slice (some ⟨gv,0,none⟩) (k + 1) cv)).heap[b]? = wr.heap[b]? := fun b hb2 hn hne => by
  rw [Below.heap_setCell _ _ _ _ hne,hg.block b (by have := hb1.size; omega) (fun e => hn e.symm),hb1.block b hb2]
 have keep6 : ∀ b,b < w6.heap.size → mv.ownBlock ≠ some b → b ≠ g → (w7.setCell ⟨g,1,none⟩ (.slice (some ⟨gv,0,none⟩) (k + 1) cv)).heap[b]? = w6.heap[b]? := fun b hb2 hn hne => by
  rw [Below.heap_setCell _ _ _ _ hne,hg.block b (by omega) (fun e => hn e.symm),(q6 w6 o).block b hb2]
 have hs7 : w6.heap.size ≤ (w7.setCell ⟨g,1,none⟩ (.slice (some ⟨gv,0,none⟩) (k + 1) cv)).heap.size := by have := hg.size; simp; omega
 have nlow : ∀ b,b ≤ g → mv.ownBlock ≠ some b := fun b hb e => by have := hge b e; omega
 refine ⟨?_,?_,?_,hgl,?_,by simp [h1],?_,?_,?_⟩
 ·have e := keep w.heap.size (by omega) (nlow _ (by omega)) (by omega)
  have f : ∀ i,(w7.setCell ⟨g,1,none⟩ (.slice (some ⟨gv,0,none⟩) (k + 1) cv)).cell? ⟨w.heap.size,i,none⟩ = wr.cell? ⟨w.heap.size,i,none⟩ := fun i => World.cell?_of_block e
  exact ⟨(f 0).trans h.au.c0,(f 1).trans h.au.c1,(f 2).trans h.au.c2,(f 3).trans h.au.c3⟩
 ·exact (keep _ h.rz.lt (nlow _ (by omega)) (by omega)).trans h.rz
 ·have e : w7.heap[g]? = some (.cells #[.slice aA nA cA,mv] 62 (0,0)) := by
   rw [hg.block g (by have := hb1.size; omega) (fun e => nlow g (Nat.le_refl _) e.symm),hb1.block g hgw]
   exact h.mb
  have := heap_setCell_same w7 g 1 _ _ (.slice (some ⟨gv,0,none⟩) (k + 1) cv) e
  exact this
 ·exact ((q5 h.bel hb1).grown hg (q5 h.bel hb1).size (fun q e => by have := hge q e; omega)).setCell (by dsimp only; omega) _
 ·rw [List.map_append]
  exact q19 hown (by dsimp only; omega) _
 ·have e : gs.take (k + 1) = gs.take k ++ [gs.getD k 0] := qq hk
  rw [e,rowsG,List.map_append,List.map_append,List.map_append,h3]
  rfl
 ·intro r hr
  rcases List.mem_append.1 hr with hr | hr
  ·obtain ⟨z1,z2⟩ := h4 r hr
   refine ⟨q2n z1 (by have := hb.size; omega) (fun j hj => keep _ (z1.blk j hj) (z2 j hj).2 (by have := (z2 j hj).1; omega)),fun j hj => ⟨(z2 j hj).1,fun e => ?_⟩⟩
   injection e with e
   dsimp only at e
   rcases hl with hl | hl
   ·exact (z2 j hj).2 (by rw [hl,e])
   ·have := z1.blk j hj; have := hb.size; omega
  ·simp only [List.mem_singleton] at hr
   subst hr
   dsimp only
   have nn : ∀ j,j < len → mv.ownBlock ≠ some (adOf a j).block := fun j hj e => by have := hlt _ e; have := hnw j hj; omega
   refine ⟨q2n hz (by omega) (fun j hj => keep6 _ (hz.blk j hj) (nn j hj) (by have := hnw j hj; omega)),fun j hj => ⟨by have := hnw j hj; omega,fun e => ?_⟩⟩
   injection e with e
   dsimp only at e
   rcases hl with hl | hl
   ·exact nn j hj (by rw [hl,e])
   ·have := hz.blk j hj; omega
theorem LdG.fin {w wr : World} {g : Nat} {p : Int} {aA : Option Addr} {nA cA : Nat} {aG : Option Addr} {nG cG : Nat} {aN : Option Addr} {nN cN : Nat} {N : List Gd} {gs : List Int} {mv : Value} {rs : List Zc} {bs : List Bool}
  (h : LdG w wr g p aA nA cA aG nG cG aN nN cN N gs nA mv rs) (hl : gs.length = nA) (hB : BoSl w aA nA cA bs) (hi : ∀ r ∈ rs,∀ z ∈ r.zs,I64 z) :
  ∃ aT cT,mv = .slice aT nA cT ∧ MvS (two2 wr (w.heap.size + 1) (.slice aA nA cA) mv) aA cA aT cT nA bs (rowsG N gs (2 ^ p.toNat)) ∧ Below w.heap.size w (two2 wr (w.heap.size + 1) (.slice aA nA cA) mv) := by
 have hb : Below w.heap.size w (two2 wr (w.heap.size + 1) (.slice aA nA cA) mv) := qs h.bel (by omega) _ _
 have hgl := h.gl
 have far : ∀ b,b ≠ w.heap.size + 1 → (two2 wr (w.heap.size + 1) (.slice aA nA cA) mv).heap[b]? = wr.heap[b]? := fun b hne => (Below.heap_setCell _ _ _ _ hne).trans (Below.heap_setCell _ _ _ _ hne)
 have hsz : (two2 wr (w.heap.size + 1) (.slice aA nA cA) mv).heap.size = wr.heap.size := by simp [two2]
 have hz := h.zs
 rw [List.take_of_length_le (by omega)] at hz
 have hrow : ∀ r ∈ rs,ZSl (two2 wr (w.heap.size + 1) (.slice aA nA cA) mv) r.a r.len r.cap r.zs ∧ ∀ z ∈ r.zs,I64 z := fun r hr => ⟨q2n (h.row r hr).1 (by rw [hsz]; exact Nat.le_refl _) (fun j hj => far _ (by have := ((h.row r hr).2 j hj).1; omega)),hi r hr⟩
 rcases h.own.2 with ⟨e,hn⟩ | ⟨gb,cap,cur,rfl,h2,h3,h4,h5,h6,h7⟩
 ·subst e; subst hn
  have : rs = [] := List.eq_nil_of_length_eq_zero h.hl
  subst this
  exact ⟨none,0,rfl,⟨hB.up hb,[],⟨rfl,Nat.le_refl _,Nat.zero_le _,fun _ => rfl,fun x hx => (by cases hx),fun r hr => (by cases hr)⟩,hz⟩,hb⟩
 ·refine ⟨some ⟨gb,0,none⟩,cap,rfl,⟨hB.up hb,rs,⟨h.hl,h4,h5,fun e => (by cases e),fun x hx k hk => ?_,hrow⟩,hz⟩,hb⟩
  injection hx with hx
  subst hx
  rw [q8,Nat.zero_add,World.cell?_of_block (far gb (by omega)),q7 h3]
  have hk2 : (cur.toList.take (nA * 1))[k]? = some (.slice rs[k].a rs[k].len rs[k].cap) := by
   rw [h7]; simp [List.getElem?_eq_getElem hk]
  have hkn : k < nA := by have := h.hl; omega
  rw [List.getElem?_take,if_pos (by omega)] at hk2
  simpa using hk2
theorem qm (p : Int) (aA : Option Addr) (nA cA : Nat) (aG : Option Addr) (nG cG : Nat) (aN : Option Addr) (nN cN : Nat) (bs : List Bool) (N : List Gd) (gs : List Int) (w : World) (hB : BoSl w aA nA cA bs) (hN : NdSl w aN nN cN N) (hG : ZSl w aG nG cG gs) (hok : ∀ z ∈ gs,I64 z) :
  Calls Try.prog 31 #[.agg #[.int .i64 p,.slice aA nA cA,.slice aG nG cG,.slice aN nN cN]] w (LeR p aA nA cA bs N gs w) := by
 obtain ⟨Q,eQ⟩ : ∃ Q,Q = LeR p aA nA cA bs N gs w := ⟨_,rfl⟩
 have HA : Hid (∀ w',Below w.heap.size w w' → ¬ MayG p nA N gs → Q (.returned (.tuple #[.agg #[.slice none 0 0,.slice none 0 0],.int .i64 12])) w') := fun w' hb h => by rw [eQ]; exact ⟨hb,.inl ⟨h,rfl⟩⟩
 have HY : Hid (∀ w' aT cT,Below w.heap.size w w' → MayG p nA N gs → MvS w' aA cA aT cT nA bs (rowsG N gs (2 ^ p.toNat)) → Q (.returned (.tuple #[.agg #[.slice aA nA cA,.slice aT nA cT],.int .i64 0])) w') := fun w' aT cT hb h h3 => by rw [eQ]; exact ⟨hb,.inr ⟨h,aT,cT,rfl,h3⟩⟩
 rw [← eQ]
 clear eQ
 have HA0 : Hid _ := qd w p aA nA cA aG nG cG aN nN cN
 have HB0 : Hid (Below w.heap.size w (w.alloc (.cells #[.int .i64 p,.slice aA nA cA,.slice aG nG cG,.slice aN nN cN] 26 (0,0)))) := q6 w _
 have HA1 : Hid (AuB ((w.alloc (.cells #[.int .i64 p,.slice aA nA cA,.slice aG nG cG,.slice aN nN cN] 26 (0,0))).alloc (.cells #[.slice none 0 0,.slice none 0 0] 62 (0,0))) w.heap.size p aA nA cA aG nG cG aN nN cN) := HA0.out.up (q6 _ _)
 have HB1 : Hid (Below w.heap.size w ((w.alloc (.cells #[.int .i64 p,.slice aA nA cA,.slice aG nG cG,.slice aN nN cN] 26 (0,0))).alloc (.cells #[.slice none 0 0,.slice none 0 0] 62 (0,0)))) := q5 HB0.out (q6 _ _)
 have HR1 : Hid (MvG ((w.alloc (.cells #[.int .i64 p,.slice aA nA cA,.slice aG nG cG,.slice aN nN cN] 26 (0,0))).alloc (.cells #[.slice none 0 0,.slice none 0 0] 62 (0,0))) (w.heap.size + 1) (.slice none 0 0) (.slice none 0 0)) := by
  have := qa (w.alloc (.cells #[.int .i64 p,.slice aA nA cA,.slice aG nG cG,.slice aN nN cN] 26 (0,0))) (.slice none 0 0) (.slice none 0 0)
  show MvG _ _ _ _; simpa using this
 have jc := qE p aA nA cA aG nG cG aN nN cN N gs _ (hN.up HB1.out) (hG.up HB1.out) hok
 obtain ⟨c0,c1,c2,c3⟩ := HA1.out
 have HHB : Hid _ := hB
 have HHN : Hid _ := hN
 have HHG : Hid _ := hG
 have HOK : Hid _ := hok
 clear HA0 HB0 hB hN hG hok
 go_enter Try.func31,Try.ntmps31
 go_wp2_with fail
 refine jc.mono ?_
 rintro e w2 ⟨hb2,v2,rfl,hv2⟩
 have HB2 : Hid (Below w.heap.size w w2) := q5 HB1.out hb2
 have HA2 : Hid (AuB w2 w.heap.size p aA nA cA aG nG cG aN nN cN) := HA1.out.up hb2
 have HR2 : Hid (MvG w2 (w.heap.size + 1) (.slice none 0 0) (.slice none 0 0)) := HR1.out.up hb2
 clear jc hb2 HA1 HB1 HR1 c0 c1 c2 c3
 have z0 := HR2.out.c0
 have z1 := HR2.out.c1
 have f0 := HR2.out.fz 0
 have f1 := HR2.out.fz 1
 rcases hv2 with ⟨rfl,hM⟩ | ⟨rfl,hM⟩
 ·have HM : Hid _ := hM
  have hbG := Nat.le_trans HHG.out.hcap HHG.out.bd
  unfold maxLen at hbG
  clear z0 z1 f0 f1 hM
  have c1 := HA2.out.c1
  have HLN : Hid (gs.length = nG) := HHG.out.hlen
  have HnG : Hid (nG = nA) := HHG.out.hlen.symm.trans HM.out.len
  have hn256 : nG ≤ 256 := by have := HM.out.s2; have := HnG.out; omega
  have hgs : w.heap.size + 2 ≤ w2.heap.size := by have := HR2.out.lt; omega
  have HL0 : Hid (LdG w (w2.alloc (.cells #[.slice aA nA cA,.slice none 0 0] 62 (0,0))) w2.heap.size p aA nA cA aG nG cG aN nN cN N gs 0 (.slice none 0 0) []) :=
   ⟨HA2.out.up (q6 _ _),HR2.out.up (q6 _ _),qa _ _ _,hgs,q5 HB2.out (q6 _ _),rfl,⟨rfl,.inl ⟨rfl,rfl⟩⟩,rfl,fun r hr => by cases hr⟩
  have c2 := HL0.out.au.c2
  clear HA HA2 HR2 HB2
  have HGS : Hid _ := hgs
  clear hgs
  go_wp2
  generalize w2.heap.size = gm at *
  generalize w2.alloc (.cells #[.slice aA nA cA,.slice none 0 0] 62 (0,0)) = w4 at *
  clear c1 c2
  go_loopw [22] (fun i wx => ∃ (k : Nat) (mv : Value) (rs : List Zc),k ≤ nG ∧ i = .int .i64 (k : Int) ∧ Hid (LdG w wx gm p aA nA cA aG nG cG aN nN cN N gs k mv rs) ∧ Hid (∀ r ∈ rs,∀ z ∈ r.zs,I64 z)) (fun i _ => nG - (intOf i).toNat)
  case atStart => exact ⟨0,_,[],Nat.zero_le _,rfl,HL0,fun r hr => by cases hr⟩
  case round =>
   clear HL0
   obtain ⟨k,mv,rs,hk,rfl,HL,HI⟩ := hrel
   by_cases hlt : k < nG
   ·have hks : k < gs.length := by have := HLN.out; omega
    have hidx := fun w' => HHG.out.idx nG k w' hlt (Nat.le_refl _)
    have hce := (HHG.out.up HL.out.bel).cell k hlt
    have hkA : k < nA := by have := HnG.out; omega
    have hi64 := HOK.out (gs.getD k 0) (by rw [List.getD_eq_getElem?_getD,List.getElem?_eq_getElem hks]; exact List.getElem_mem hks)
    have jt := q31 p aN nN cN N (gs.getD k 0) wr (HHN.out.up HL.out.bel) hi64
    have HT : Hid (∀ e w6,TabRN p N (gs.getD k 0) wr e w6 → ∃ a len c,e = .returned (.tuple #[.slice a len c,.int .i64 0]) ∧ Below wr.heap.size wr w6 ∧ ZSl w6 a len c ((rowG N (2 ^ p.toNat) (gs.getD k 0)).map Int.ofNat) ∧ ∀ j,j < len → wr.heap.size ≤ (adOf a j).block) := fun e w6 hq => by
     have ht := HM.out.tab (K := 2 ^ p.toNat) hkA
     rw [qu hks] at ht
     obtain ⟨hb,⟨h1,_⟩ | ⟨_,_,⟨h3,_⟩ | ⟨l,a,c,h3,rfl,h4,h5⟩⟩⟩ := hq
     ·exact absurd ⟨HM.out.p0,HM.out.p8⟩ h1
     ·rw [ht] at h3; cases h3
     ·rw [ht] at h3; injection h3 with h3; subst h3
      exact ⟨a,_,c,rfl,hb,h4,h5⟩
    have HR64 : Hid (∀ z ∈ (rowG N (2 ^ p.toNat) (gs.getD k 0)).map Int.ofNat,I64 z) := fun z hz => by
     obtain ⟨v,hv,rfl⟩ := List.mem_map.1 hz
     have hr := HM.out.rows (2 ^ p.toNat)
     obtain ⟨x,hx,rfl⟩ := List.getElem_of_mem hv
     have h1 := hr.lt k x hkA (by rw [q3u] at hx; exact hx)
     rw [trP,qu hks,List.getD_eq_getElem?_getD,List.getElem?_eq_getElem hx] at h1
     have := HM.out.s2
     simp only [Option.getD_some] at h1
     generalize (rowG N (2 ^ p.toNat) (gs.getD k 0))[x] = v at *
     have e : Int.ofNat v = (v : Int) := rfl
     exact ⟨by omega,by omega⟩
    obtain ⟨va,vc,rfl⟩ := qg HL.out.own
    have HS : Hid (∀ w6 (y : Option Addr) (ly cy : Nat),Below wr.heap.size wr w6 → (w6.alloc (.cells #[.slice y ly cy] 23)).ownsRow (gm + 1) 23 1 (.slice va k vc) k (rs.map fun r => .slice r.a r.len r.cap) ∧ (w6.alloc (.cells #[.slice y ly cy] 23)).cell? ⟨w6.heap.size,0,none⟩ = some (.slice y ly cy) ∧ gm + 1 ≤ (w6.alloc (.cells #[.slice y ly cy] 23)).heap.size) := fun w6 y ly cy hb =>
     ⟨World.ownsRow.alloc (qb HL.out.own hb) _,q7 (MapKept.heap_alloc w6 _).1 0,by have := HL.out.mb.lt; have := hb.size; simp; omega⟩
    have a0 := HL.out.au.c0
    have a3 := HL.out.au.c3
    generalize hz : gs.getD k 0 = z at *
    have HZ : Hid _ := hz
    clear hz hi64
    generalize adOf aG k = ad at *
    obtain ⟨ag,ao,az⟩ := ad
    clear HY HHB HHN HHG HOK HLN HnG HGS HM
    go_wp2_with fail
    refine jt.mono ?_
    intro e w6 hq
    obtain ⟨y,ly,cy,rfl,hb6,hz6,hn6⟩ := HT.out e w6 hq
    obtain ⟨hs1,hs2,hs3⟩ := HS.out w6 y ly cy hb6
    have HO6 : Hid _ := hs1
    have HB6 : Hid _ := hb6
    have HZ6 : Hid _ := hz6
    have HN6 : Hid _ := hn6
    have m1 : w6.cell? ⟨gm,1,none⟩ = some (.slice va k vc) := (HL.out.mb.up hb6).c1
    clear hq jt HT HS hs1 hb6 hz6 hn6 a0 a3 hidx hce
    go_wp2_with (at_builtin; refine q1V rfl _ _ rfl (gm + 1) _ k _ rfl HO6.out w6.heap.size y ly cy rfl hs2 (by omega) hs3 ?_)
    intro gv cv w7 hown hgr hlies
    have hzz : ZSl w6 y ly cy ((rowG N (2 ^ p.toNat) (gs.getD k 0)).map Int.ofNat) := by rw [HZ.out]; exact HZ6.out
    have HL7 : Hid _ := HL.out.next hks HB6.out hzz HN6.out hown hgr (by simpa using hlies)
    have hgm : gm < (w6.alloc (.cells #[.slice y ly cy] 23)).heap.size := by omega
    have hbk : w7.heap[gm]? = some (.cells #[.slice aA nA cA,.slice va k vc] 62 (0,0)) := by
     have h1 := (HL.out.mb.up HB6.out).up (q6 w6 (.cells #[.slice y ly cy] 23))
     exact (hgr.block gm hgm (fun e => by have := qf HL.out.own gm e.symm; omega)).trans h1
    have m1 : w7.cell? ⟨gm,1,none⟩ = some (.slice va k vc) := q7 hbk 1
    have mf : w7.frozen? ⟨gm,1,none⟩ = false := frozen_of_row w7 gm 1 _ _ hbk
    have HI7 : Hid (∀ r ∈ rs ++ [⟨y,ly,cy,(rowG N (2 ^ p.toNat) (gs.getD k 0)).map Int.ofNat⟩],∀ z ∈ r.zs,I64 z) := fun r hr => by
     rcases List.mem_append.1 hr with hr | hr
     ·exact HI.out r hr
     ·simp only [List.mem_singleton] at hr
      subst hr
      rw [HZ.out]
      exact HR64.out
    clear hown hgr hlies hzz hbk hgm HO6 HB6 HZ6 HN6 HL HI hs2 hs3 HZ
    go_wp2
    go_roundw
    case rel => exact ⟨k + 1,_,_,by omega,by go_num,HL7,HI7⟩
    case measure => simp [intOf]; omega
   ·obtain rfl : k = nG := by omega
    have c0 := HL.out.mb.c0
    have c1 := HL.out.mb.c1
    have z0 := HL.out.rz.c0
    have z1 := HL.out.rz.c1
    have f0 := HL.out.rz.fz 0
    have f1 := HL.out.rz.fz 1
    have hL := HL.out
    rw [HnG.out] at hL
    obtain ⟨aT,cT,rfl,hm,hbm⟩ := hL.fin HM.out.len HHB.out HI.out
    have HE : Hid _ := HY.out _ aT cT hbm HM.out hm
    have hne : ¬ gm = w.heap.size + 1 := by have := HL.out.gl; omega
    clear hL hm hbm HY HL HI HM HHB HHN HHG HOK HLN HnG HGS
    go_wp2
    refine bodyPost_ret (v := .tuple #[.agg #[.slice aA nA cA,.slice aT nA cT],.int .i64 0]) (by simp [results,Try.results31,go_sem,z0,z1]) rfl ?_
    exact HE.out
 ·have HE : Hid _ := HA.out (two2 w2 (w.heap.size + 1) (.slice none 0 0) (.slice none 0 0)) (qs HB2.out (by omega) _ _) hM
  clear HY HA hM
  go_wp2
  refine bodyPost_ret (v := .tuple #[.agg #[.slice none 0 0,.slice none 0 0],.int .i64 12]) (by simp [results,Try.results31,go_sem,z0,z1]) rfl ?_
  exact HE.out
theorem q1y (a : Option Addr) (c : Nat) (w : World) : Calls Try.prog 54 #[.slice a 0 c] w fun e w' => e = .returned (.tuple #[]) ∧ w' = w := by
 go_enter Try.func54,Try.ntmps54
 go_wp2
 go_loopw [2,3] (fun i j wr => i = .int .i64 0 ∧ j = .int .i64 (-1) ∧ wr = w) (fun _ _ _ => 0)
 case atStart => exact ⟨rfl,rfl,rfl⟩
 case round =>
  obtain ⟨rfl,rfl,rfl⟩ := hrel
  go_wp2
  go_end0
  exact ⟨rfl,rfl⟩
def TrcR (ts : List Nat) (w : World) (e : Ending) (w' : World) : Prop := Below w.heap.size w w' ∧ ∃ a c,e = .returned (.slice a ts.length c) ∧ w'.ownsRow w.heap.size 52 1 (.slice a ts.length c) ts.length (ltV ts)
def klS (x : Nat) : Lit := .int .i64 (x : Int)
theorem qW : Keyed Try.prog 3 := int_keyed Try.underlying3
theorem qV (x : Nat) (h : x < 256) : keyOf Try.prog 3 (.int .i64 (x : Int)) = some (klS x) := keyOf_int_mk Try.underlying3 (WalkArith.wf_i64 (by omega))
theorem q5i {x y : Nat} (h : klS x = klS y) : x = y := by
 injection h with _ h
 omega
theorem q2i (x : Nat) : WideAt.IsKeyLit (klS x) := trivial
def NumL (w : World) (b n : Nat) (f : Nat → Option Nat) : Prop :=
 ∃ D : DataW Unit,w.ownsMap Try.prog 3 (plainElem Try.prog 52) b n D ∧ Tidy D ∧ Maps.size D = n ∧ ∀ x,x < 256 → has D (klS x) = (f x).isSome ∧ ∀ j,f x = some j → D.atKey (klS x) (.lit (.int .u8 0)) = .lit (.int .u8 (j : Int))
theorem NumL.lt {w : World} {b n : Nat} {f : Nat → Option Nat} (h : NumL w b n f) : b < w.heap.size := by
 obtain ⟨D,h,_⟩ := h; exact h.lt
theorem NumL.far {w w' : World} {b n : Nat} {f : Nat → Option Nat} (h : NumL w b n f) (hb : w'.heap[b]? = w.heap[b]?) : NumL w' b n f := by
 obtain ⟨D,⟨es,clock,h1,h2⟩,r⟩ := h
 exact ⟨D,⟨es,clock,hb.trans h1,h2⟩,r⟩
theorem q4F (w : World) : NumL (w.alloc (.map #[] 0)) w.heap.size 0 (fun _ => none) :=
 ⟨.map [],World.ownsMap_made _ _ _ _,tidy_empty,rfl,fun x _ => ⟨rfl,fun j hj => by cases hj⟩⟩
theorem q1h (w : World) : (zeroValue 52).run Try.prog w = .ok (.int .u8 0) w := by kernel_rfl
theorem NumL.look {w : World} {b n : Nat} {f : Nat → Option Nat} (h : NumL w b n f) {x : Nat} (hx : x < 256) :
  (Instr.lookup 83 (.map (some b)) (.int .i64 (x : Int)) true).run Try.prog w = .ok (.tuple #[.int .u8 (((f x).getD 0 : Nat) : Int),.bool (f x).isSome]) w := by
 obtain ⟨D,h1,h2,h3,h4⟩ := h
 obtain ⟨hh,ha⟩ := h4 x hx
 obtain ⟨v,ps,hrun,hv⟩ := h1.look_ok qW Try.underlying83 (q1h w) (plainElem_int Try.underlying52 (by decide)) (qV x hx)
 obtain ⟨c,rfl,hc,hwc⟩ := plainElem_int_inv Try.underlying52 hv
 have hc' : D.atKey (klS x) (.lit (.int .u8 0)) = .lit (.int .u8 c) := congrArg Prod.fst hc
 rw [hrun,hh]
 cases hf : f x with
 | none =>
  rw [hf] at hh
  rw [atKey_of_not_has hh] at hc'
  injection hc' with hc'
  injection hc' with _ hc'
  subst hc'
  rfl
 | some j =>
  rw [ha j hf] at hc'
  injection hc' with hc'
  injection hc' with _ hc'
  subst hc'
  rfl
theorem NumL.get {w : World} {b n : Nat} {f : Nat → Option Nat} (h : NumL w b n f) {x j : Nat} (hx : x < 256) (hf : f x = some j) :
  (Instr.lookup 83 (.map (some b)) (.int .i64 (x : Int)) false).run Try.prog w = .ok (.int .u8 (j : Int)) w := by
 obtain ⟨D,h1,h2,h3,h4⟩ := h
 obtain ⟨hh,ha⟩ := h4 x hx
 obtain ⟨c,hrun,hc,_⟩ := h1.lookup_int qW Try.underlying83 Try.underlying52 (q1h w) (qV x hx)
 rw [ha j hf] at hc
 injection hc with hc
 injection hc with _ hc
 subst hc
 exact hrun
theorem NumL.put {w : World} {b n : Nat} {f : Nat → Option Nat} (h : NumL w b n f) (hn : n ≤ 4096) {x : Nat} (hx : x < 256) (hf : f x = none) (j : Nat) (hj : j < 256) :
  ∃ w',(Instr.mapUpdate 83 (.map (some b)) (.int .i64 (x : Int)) (.int .u8 (j : Int))).run Try.prog w = .ok () w' ∧ NumL w' b (n + 1) (fun y => if y = x then some j else f y) ∧ w.grownBy w' (some b) := by
 obtain ⟨D,h1,h2,h3,h4⟩ := h
 obtain ⟨hh,_⟩ := h4 x hx
 rw [hf] at hh
 obtain ⟨w',hrun,hown,hg⟩ := h1.update qW Try.underlying83 (by unfold maxLen; omega) (qV x hx) (plainElem_int (a := (j : Int)) Try.underlying52 (WalkArith.wf_u8 (by omega)))
 refine ⟨w',hrun,⟨_,hown,h2.put (q2i x) _,?_,fun y hy => ?_⟩,hg⟩
 ·rw [size_put h2,hh,h3]; rfl
 ·dsimp only
  by_cases e : y = x
  ·subst e
   rw [if_pos rfl]
   refine ⟨has_put_same h2.isMap (q2i y) _,fun i hi => ?_⟩
   injection hi with hi
   subst hi
   exact atKey_put_same h2.isMap (q2i y) _ _
  ·have ne : klS y ≠ klS x := fun he => e (q5i he)
   rw [if_neg e,has_put_other ne]
   refine ⟨(h4 y hy).1,fun i hi => ?_⟩
   rw [atKey_put_other ne]
   exact (h4 y hy).2 i hi
def encM (M : List (Nat × Nat)) : List Value := M.flatMap fun x => [.int .i64 (x.1 : Int),.int .i64 (x.2 : Int)]
theorem q2u (t : Nat × Nat) (M : List (Nat × Nat)) : encM (t :: M) = .int .i64 (t.1 : Int) :: .int .i64 (t.2 : Int) :: encM M := rfl
theorem q4S (X Y : List (Nat × Nat)) : encM (X ++ Y) = encM X ++ encM Y := by simp [encM]
theorem q3e : ∀ M : List (Nat × Nat),(encM M).length = M.length * 2
 | [] => rfl
 | t :: M => by rw [q2u]; simp [q3e M]; omega
theorem q3d : ∀ (M : List (Nat × Nat)) (k : Nat) (x : Nat × Nat),M[k]? = some x → (encM M)[2 * k]? = some (.int .i64 (x.1 : Int)) ∧ (encM M)[2 * k + 1]? = some (.int .i64 (x.2 : Int))
 | [],k,x,h => by simp at h
 | t :: M,0,x,h => by simp at h; subst h; exact ⟨rfl,rfl⟩
 | t :: M,k + 1,x,h => by
  have := q3d M k x (by simpa using h)
  rw [q2u,show 2 * (k + 1) = 2 * k + 1 + 1 by omega,show 2 * k + 1 + 1 + 1 = (2 * k + 1) + 1 + 1 by omega]
  simpa using this
theorem q4T (M : List (Nat × Nat)) : ∀ u ∈ encM M,u.oneCell' = true := by
 intro u hu
 unfold encM at hu
 obtain ⟨c,_,hc⟩ := List.mem_flatMap.1 hu
 simp at hc
 rcases hc with rfl | rfl <;> rfl
theorem q3G : (Try.prog.info? 81).map (fun i => (i.zero,i.size,i.bytes)) = some (some (.agg #[.int .i64 0,.int .i64 0]),2,16) := by kernel_rfl
theorem q3K : (Try.prog.info? 81).map (·.size) = some 2 := by kernel_rfl
abbrev MqO (w : World) (base : Nat) (v : Value) (m : Nat) (M : List (Nat × Nat)) : Prop := w.ownsRow base 81 2 v m (encM M)
theorem MqO.len {w : World} {base m : Nat} {v : Value} {M : List (Nat × Nat)} (h : MqO w base v m M) : M.length = m := by
 have := h.1
 rw [q3e] at this
 omega
theorem MqO.at {w : World} {base m : Nat} {v : Value} {M : List (Nat × Nat)} (h : MqO w base v m M) {i : Nat} {x : Nat × Nat} (hx : M[i]? = some x) :
  ∃ g cap oo,v = .slice (some ⟨g,0,none⟩) m cap ∧ base ≤ g ∧ g < w.heap.size ∧ (∀ w',(Instr.indexAt 82 (.slice (some ⟨g,0,none⟩) m cap) (.int .i64 (i : Int))).run Try.prog w' = .ok (.pointer (some ⟨g,oo,none⟩)) w') ∧ w.cell? ⟨g,oo,none⟩ = some (.int .i64 (x.1 : Int)) ∧ w.cell? ⟨g,oo + 1,none⟩ = some (.int .i64 (x.2 : Int)) := by
 have hl := h.len
 have hi : i < m := by have := (List.getElem?_eq_some_iff.1 hx).1; omega
 rcases h.2 with ⟨_,h0⟩ | ⟨g,cap,cur,rfl,hg,hcell,hnc,hcm,hsz,htk⟩
 ·omega
 ·have key : ∀ j,j < m * 2 → w.cell? ⟨g,j,none⟩ = (encM M)[j]? := fun j hj => by
   rw [← htk,List.getElem?_take,if_pos hj]
   simp [World.cell?,hcell]
  obtain ⟨e0,e1⟩ := q3d M i x hx
  refine ⟨g,cap,2 * i,rfl,hg,(Array.getElem?_eq_some_iff.1 hcell).1,fun w' => ?_,?_,?_⟩
  ·simp [Instr.indexAt,run_underlying Try.underlying82,asIntOf,qY q3K,hi,Result.andThen,go_sem,q8,Nat.mul_comm]
  ·rw [key _ (by omega),e0]
  ·rw [key _ (by omega),e1]
structure LnkQ (Q : List (Nat × List Nat)) (M : List (Nat × Nat)) (f : Nat → Option Nat) : Prop where
 fst : M.map (·.1) = Q.map (·.1)
 up : ∀ (i : Nat) (m : Nat × Nat),0 < i → M[i]? = some m → m.2 < i ∧ ∃ (y : List Nat) (s l : Nat),Q[m.2]? = some (s,y) ∧ f m.1 = some l ∧ l < 256 ∧ Q[i]? = some (m.1,y ++ [l])
 dom : ∀ s,(f s).isSome = true ↔ s ∈ Q.map (·.1)
theorem LnkQ.len {Q : List (Nat × List Nat)} {M : List (Nat × Nat)} {f : Nat → Option Nat} (h : LnkQ Q M f) : M.length = Q.length := by
 have := congrArg List.length h.fst; simpa using this
theorem LnkQ.push {Q : List (Nat × List Nat)} {M : List (Nat × Nat)} {f : Nat → Option Nat} (h : LnkQ Q M f) {s j k : Nat} {x : Nat × List Nat} (hx : Q[j]? = some x) (hk : k < 256) (hs : s ∉ Q.map (·.1)) :
  LnkQ (Q ++ [(s,x.2 ++ [k])]) (M ++ [(s,j)]) (fun y => if y = s then some k else f y) := by
 have hj := (List.getElem?_eq_some_iff.1 hx).1
 have hl := h.len
 refine ⟨by rw [List.map_append,List.map_append,h.fst]; rfl,fun i m hi hm => ?_,fun y => ?_⟩
 ·rw [List.getElem?_append] at hm
  split at hm
  ·obtain ⟨h1,y,s',l,h2,h3,h4,h5⟩ := h.up i m hi hm
   have hq := (List.getElem?_eq_some_iff.1 h5).1
   have hm2 := (List.getElem?_eq_some_iff.1 h2).1
   have hne : m.1 ≠ s := fun e => hs (by rw [← e]; exact List.mem_map.2 ⟨_,List.mem_of_getElem? h5,rfl⟩)
   exact ⟨h1,y,s',l,by rw [List.getElem?_append_left hm2]; exact h2,by rw [if_neg hne]; exact h3,h4,by rw [List.getElem?_append_left hq]; exact h5⟩
  ·have := (List.getElem?_eq_some_iff.1 hm).1
   simp at this
   have e0 : i - M.length = 0 := by omega
   rw [e0] at hm
   simp at hm
   subst hm
   have ei : i = Q.length := by omega
   subst ei
   refine ⟨hj,x.2,x.1,k,by rw [List.getElem?_append_left hj]; exact hx,by simp,hk,?_⟩
   rw [List.getElem?_append_right (Nat.le_refl _)]; simp
 ·rw [List.map_append,List.mem_append]
  by_cases e : y = s
  ·subst e; simp
  ·rw [if_neg e,h.dom y]
   simp [e]
theorem q4k : LnkQ [(0,[])] [(0,0)] (fun y => if y = 0 then some 0 else none) := by
 refine ⟨rfl,fun i m hi hm => ?_,fun s => ?_⟩
 ·have := (List.getElem?_eq_some_iff.1 hm).1
  simp at this; omega
 ·by_cases e : s = 0 <;> simp [e]
theorem q29 (base m mb nb : Nat) (g cap : Nat) (Q : List (Nat × List Nat)) (M : List (Nat × Nat)) (f : Nat → Option Nat) (j0 : Nat) (x0 : Nat × List Nat) (w : World) (hQ : MqO w base (.slice (some ⟨g,0,none⟩) m cap) m M) (hL : LnkQ Q M f) (hF : NumL w mb nb f) (h0Q : ∃ s,Q[0]? = some (s,[])) (hlt : ∀ x ∈ Q,x.1 < 256) (hj : Q[j0]? = some x0) (hlen : x0.2.length ≤ 256) :
  Calls Try.prog 44 #[.slice (some ⟨g,0,none⟩) m cap,.map (some mb),.int .i64 (j0 : Int)] w (TrcR x0.2 w) := by
 obtain ⟨P,eP⟩ : ∃ P,P = TrcR x0.2 w := ⟨_,rfl⟩
 have HP : Hid (∀ w' a L c ts,L = ts.length → ts = x0.2 → Below w.heap.size w w' → w'.ownsRow w.heap.size 52 1 (.slice a L c) L (ltV ts) → P (.returned (.slice a L c)) w') := fun w' a L c ts hL ht hb h => by subst hL; subst ht; rw [eP]; exact ⟨hb,a,c,rfl,h⟩
 rw [← eP]
 clear eP
 have hML : M.length = m := hQ.len
 have hQL : Q.length = m := by have := hL.len; omega
 have hj0 : j0 < m := by have := (List.getElem?_eq_some_iff.1 hj).1; omega
 have HQ : Hid _ := hQ
 have HL : Hid _ := hL
 have HF : Hid (NumL w mb nb f) := hF
 have H0 : Hid _ := h0Q
 have HML : Hid _ := hML
 have HLT : Hid _ := hlt
 have HJ : Hid _ := hj
 have HLN : Hid _ := hlen
 clear hQ hL hF h0Q hML hQL hlt hj hlen
 go_enter Try.func44,Try.ntmps44
 go_wp2
 go_loopw [2,7] (fun i v wr => ∃ (j : Nat) (ds : List Nat) (x : Nat × List Nat),j < m ∧ i = .int .i64 (j : Int) ∧ Hid (Q[j]? = some x) ∧ Hid (x.2 ++ ds.reverse = x0.2) ∧ Hid (wr.ownsRow w.heap.size 52 1 v ds.length (ltV ds)) ∧ Hid (Below w.heap.size w wr)) (fun i _ _ => (intOf i).toNat)
 case atStart => exact ⟨j0,[],x0,hj0,rfl,HJ,by show _ = _; simp,⟨rfl,.inl ⟨rfl,rfl⟩⟩,Below.refl _ _⟩
 case round =>
  obtain ⟨j,ds,x,hjm,rfl,HX,HD,HO,HB⟩ := hrel
  clear HJ hj0
  obtain ⟨va,vc,rfl⟩ := qg HO.out
  by_cases h0 : 0 < j
  ·obtain ⟨mm,hmm⟩ : ∃ mm,M[j]? = some mm := ⟨_,List.getElem?_eq_getElem (by have := HML.out; omega)⟩
   obtain ⟨hfj,y,s,l,q1,q2,q3,q4⟩ := HL.out.up j mm h0 hmm
   obtain ⟨g1,cap1,oo,e1,_,hgl,hix,c0,c1⟩ := MqO.at HQ.out hmm
   injection e1 with e1 _ e3
   injection e1 with e1
   injection e1 with e1
   subst e1; subst e3
   have hxe : x = (mm.1,y ++ [l]) := by have := HX.out; rw [q4] at this; injection this with this; exact this.symm
   have hm256 : mm.1 < 256 := HLT.out _ (List.mem_of_getElem? q4)
   have hlook := NumL.get (HF.out.far (HB.out.block mb HF.out.lt)) hm256 q2
   have HY : Hid _ := q1
   have HD2 : Hid (y ++ (ds ++ [l]).reverse = x0.2) := by show _ = _; rw [← HD.out,hxe]; simp
   have hdl : ds.length ≤ 256 := by have h1 := HLN.out; have h2 := congrArg List.length HD.out; rw [List.length_append,List.length_reverse] at h2; omega
   have c0 := (HB.out.cell (p := ⟨g,oo,none⟩) hgl).trans c0
   have c1 := (HB.out.cell (p := ⟨g,oo + 1,none⟩) hgl).trans c1
   have hsz : w.heap.size ≤ (wr.alloc (.cells #[.int .u8 (l : Int)] 52)).heap.size := by have := HB.out.size; simp; omega
   have hcl : (wr.alloc (.cells #[.int .u8 (l : Int)] 52)).cell? ⟨wr.heap.size,0,none⟩ = some (.int .u8 (l : Int)) := q7 (MapKept.heap_alloc wr _).1 0
   clear HX HD hmm q1 q2 q4 hxe HP hm256
   generalize mm.1 = ms at *
   generalize mm.2 = mf at *
   go_wp2_with (at_builtin; refine qZ rfl _ _ rfl w.heap.size _ ds.length ds rfl (World.ownsRow.alloc HO.out _) wr.heap.size l rfl hcl (by omega) hsz ?_)
   intro v7 w7 hown hgr
   have HO7 : Hid (w7.ownsRow w.heap.size 52 1 v7 (ds ++ [l]).length (ltV (ds ++ [l]))) := by show World.ownsRow _ _ _ _ _ _ _; rw [List.length_append,ltV,List.map_append]; exact hown
   have HB7 : Hid (Below w.heap.size w w7) := (HB.out.alloc HB.out.size _).grown hgr hsz (qf HO.out)
   have c1 : w7.cell? ⟨g,oo + 1,none⟩ = some (.int .i64 (mf : Int)) := by
    have h1 : (wr.alloc (.cells #[.int .u8 (l : Int)] 52)).cell? ⟨g,oo + 1,none⟩ = some (.int .i64 (mf : Int)) := q9 c1 (q6 _ _)
    refine q1N h1 hgr (fun e => ?_)
    have := qf HO.out g e.symm
    omega
   clear hown hgr c0 hcl hsz HO HB hlook
   go_wp2
   go_roundw
   case rel => exact ⟨mf,ds ++ [l],_,by omega,rfl,HY,HD2,HO7,HB7⟩
   case measure => simp [intOf]; omega
  ·obtain rfl : j = 0 := by omega
   obtain ⟨s0,h00⟩ := H0.out
   have hx0 : x.2 = [] := by have := HX.out; rw [h00] at this; injection this with this; rw [← this]
   have hds : ds.reverse = x0.2 := by have := HD.out; rwa [hx0,List.nil_append] at this
   by_cases hn : ds.length = 0
   ·have hd0 : ds = [] := List.eq_nil_of_length_eq_zero hn
    subst hd0
    have HE : Hid _ := HP.out wr va 0 vc [] rfl hds HB.out (by simpa using HO.out)
    have jr := q1y va vc wr
    clear HP HX HD HO hds hx0 h00
    simp only [List.length_nil] at HE ⊢
    go_wp2_with fail
    refine jr.mono ?_
    rintro e w' ⟨rfl,hw'⟩
    subst hw'
    go_wp2
    exact HE.out
   ·obtain ⟨gt,ct,et,hg1,hg2⟩ := World.ownsRow.form HO.out (by omega)
    injection et with et1 et2 et3
    subst et1; subst et3
    have jr := q1L w.heap.size gt vc ds.length ds wr (by omega) (by have h1 := HLN.out; have h2 := congrArg List.length hds; rw [List.length_reverse] at h2; omega) HO.out
    have HE : Hid (∀ w',w'.ownsRow w.heap.size 52 1 (.slice (some ⟨gt,0,none⟩) ds.length vc) ds.length (ltV ds.reverse) → wr.grownBy w' (some gt) → P (.returned (.slice (some ⟨gt,0,none⟩) ds.length vc)) w') := fun w' h1 h2 => HP.out w' _ _ _ ds.reverse (by rw [List.length_reverse]) hds (HB.out.grown h2 HB.out.size (fun q e => by injection e with e; omega)) h1
    clear HP HX HD HO HB hds hx0 h00
    go_wp2_with fail
    refine jr.mono ?_
    rintro e w' ⟨rfl,h1,h2⟩
    have HE2 : Hid _ := HE.out w' h1 h2
    clear h1 h2 jr HE
    go_wp2
    exact HE2.out
theorem qi {l : List Nat} {k : Nat} (h : k < l.length) : (l.map Int.ofNat).getD k 0 = ((l.getD k 0 : Nat) : Int) := by
 simp [List.getD_eq_getElem?_getD,List.getElem?_eq_getElem h]
theorem qk {w w' : World} {base e s n : Nat} {v : Value} {vs : List Value} (h : w.ownsRow base e s v n vs) (hb : ∀ g,v.ownBlock = some g → w'.heap[g]? = w.heap[g]?) : w'.ownsRow base e s v n vs := by
 obtain ⟨h1,h2⟩ := h
 refine ⟨h1,?_⟩
 rcases h2 with h2 | ⟨g,cap,cur,rfl,a1,a2,a3⟩
 ·exact .inl h2
 ·exact .inr ⟨g,cap,cur,rfl,a1,(hb g rfl).trans a2,a3⟩
def MeB (w : World) (g : Nat) (x : Nat × Nat) : Prop := w.heap[g]? = some (.cells #[.int .i64 (x.1 : Int),.int .i64 (x.2 : Int)] 81 (0,0))
theorem q5m (w : World) (x : Nat × Nat) : MeB (w.alloc (.cells #[.int .i64 (x.1 : Int),.int .i64 (x.2 : Int)] 81 (0,0))) w.heap.size x := (MapKept.heap_alloc w _).1
theorem q1U {w : World} {ops : Array Oper} {rest : List Oper} {o : Oper} {a : Act} {K : Exit → Act → World → Prop} (hgd : o.guard = none) (s x : Operand)
  (ho : o.op = .call { callee := .builtin .append,args := #[s,x],argTypes := #[82,82] }) (base : Nat)
  (v : Value) (n : Nat) (Q : List (Nat × Nat)) (y : Nat × Nat) (hs : a.eval s = v) (hown : MqO w base v n Q) (g' : Nat) (hx : a.eval x = .slice (some ⟨g',0,none⟩) 1 1) (hB : MeB w g' y)
  (hn : n + 1 ≤ 2000000) (hbase : base ≤ w.heap.size)
  (h : ∀ g c w',MqO w' base (.slice (some ⟨g,0,none⟩) (n + 1) c) (n + 1) (Q ++ [y]) → w.grownBy w' v.ownBlock → (v.ownBlock = some g ∨ g = w.heap.size) → wpList Try.prog ops K rest (a.put o.dst (.slice (some ⟨g,0,none⟩) (n + 1) c)) w') : wpList Try.prog ops K (o :: rest) a w := by
 obtain ⟨i,hi,hz0,hz1,hz2⟩ := info_parts q3G
 refine wpList_append_lies w hgd s x 82 ho base 81 i _ 2 16 Try.underlying82 hi hz0 hz1 hz2 rfl (by decide) v n _ hs hown ⟨g',0,none⟩ 1 1 (encM [y]) hx rfl (fun j u hj => ?_) (q4T [y]) (by decide) (by unfold maxLen; omega) (by omega) hbase _ rfl ?_
 ·rw [q8,Nat.zero_add,q7 hB]
  simpa [encM] using hj
 ·intro g c w' h1 h2 h3 _
  exact h g c w' (by unfold MqO; rw [q4S]; exact h1) h2 h3
structure FiM (w wr : World) (aA : Option Addr) (cA : Nat) (aT : Option Addr) (cT n : Nat) (v : Value) (M : List (Nat × Nat)) (f : Nat → Option Nat) : Prop where
 mv : MvG wr w.heap.size (.slice aA n cA) (.slice aT n cT)
 mq : MqO wr (w.heap.size + 1) v M.length M
 nm : NumL wr (w.heap.size + 2) M.length f
 off : v.ownBlock ≠ some (w.heap.size + 2)
 bel : Below w.heap.size w wr
theorem FiM.up {w wr w' : World} {aA : Option Addr} {cA : Nat} {aT : Option Addr} {cT n : Nat} {v : Value} {M : List (Nat × Nat)} {f : Nat → Option Nat} (h : FiM w wr aA cA aT cT n v M f) (hb : Below wr.heap.size wr w') : FiM w w' aA cA aT cT n v M f := ⟨h.mv.up hb,qb h.mq hb,h.nm.far (hb.block _ h.nm.lt),h.off,q5 h.bel hb⟩
theorem FiM.mid {w wr w4 : World} {aA : Option Addr} {cA : Nat} {aT : Option Addr} {cT n : Nat} {v : Value} {M : List (Nat × Nat)} {f : Nat → Option Nat} (h : FiM w wr aA cA aT cT n v M f) (hg : wr.grownBy w4 (some (w.heap.size + 2))) : MvG w4 w.heap.size (.slice aA n cA) (.slice aT n cT) ∧ MqO w4 (w.heap.size + 1) v M.length M ∧ Below w.heap.size w w4 :=
 ⟨(hg.block _ h.mv.lt (fun e => by injection e with e; omega)).trans h.mv,qk h.mq (fun g hg1 => hg.block g (h.mq.lt g hg1).2 (fun e => by injection e with e; exact h.off (by rw [hg1,e]))),h.bel.grown hg h.bel.size (fun q e => by injection e with e; omega)⟩
theorem FiM.push {w wr w4 w7 : World} {aA : Option Addr} {cA : Nat} {aT : Option Addr} {cT n : Nat} {v : Value} {M : List (Nat × Nat)} {f f' : Nat → Option Nat} (h : FiM w wr aA cA aT cT n v M f) (hg : wr.grownBy w4 (some (w.heap.size + 2))) (hn : NumL w4 (w.heap.size + 2) (M.length + 1) f') {x : Nat × Nat} {o : Obj} {g c : Nat}
  (hq : MqO w7 (w.heap.size + 1) (.slice (some ⟨g,0,none⟩) (M.length + 1) c) (M.length + 1) (M ++ [x])) (hg7 : (w4.alloc o).grownBy w7 v.ownBlock) (hl : v.ownBlock = some g ∨ g = (w4.alloc o).heap.size) :
  FiM w w7 aA cA aT cT n (.slice (some ⟨g,0,none⟩) (M.length + 1) c) (M ++ [x]) f' := by
 obtain ⟨h1,h2,h3⟩ := h.mid hg
 have hge := qf h.mq
 have hsz : w4.heap.size < (w4.alloc o).heap.size := by simp
 have hn4 := hn.lt
 have keep : ∀ b,b < w4.heap.size → v.ownBlock ≠ some b → w7.heap[b]? = w4.heap[b]? := fun b hb hne => by
  rw [hg7.block b (by omega) (fun e => hne e.symm)]
  exact (q6 w4 o).block b hb
 refine ⟨(keep _ h1.lt (fun e => by have := hge _ e; omega)).trans h1,by rw [List.length_append,List.length_singleton]; exact hq,?_,fun e => ?_,?_⟩
 ·rw [List.length_append,List.length_singleton]
  exact hn.far (keep _ hn4 h.off)
 ·injection e with e
  dsimp only at e
  rcases hl with hl | hl
  ·exact h.off (by rw [hl,e])
  ·omega
 ·have h4 := h3.alloc h3.size o
  exact h4.grown hg7 h4.size (fun q e => by have := hge q e; omega)
def FirR (n K : Nat) (R : List (List Nat)) (bs : List Bool) (acc : Bool) (w : World) (e : Ending) (w' : World) : Prop :=
 Below w.heap.size w w' ∧ ∃ ts is a c,e = .returned (.tuple #[.slice a ts.length c,.bool is]) ∧ FirA n K R bs acc ts is ∧ w'.ownsRow w.heap.size 52 1 (.slice a ts.length c) ts.length (ltV ts)
theorem q26 (aA : Option Addr) (cA : Nat) (aT : Option Addr) (cT n K : Nat) (bs : List Bool) (R : List (List Nat)) (acc : Bool) (w : World) (hM : MvS w aA cA aT cT n bs R) (hR : RowsP n K R) (hK : K ≤ 256) (h1n : 0 < n) (h256 : n ≤ 256) :
  Calls Try.prog 32 #[.agg #[.slice aA n cA,.slice aT n cT],.bool acc] w (FirR n K R bs acc w) := by
 obtain ⟨Z,eZ⟩ : ∃ Z,Z = FirR n K R bs acc w := ⟨_,rfl⟩
 have HZ : Hid (∀ w' ts is a L c,L = ts.length → Below w.heap.size w w' → FirA n K R bs acc ts is → w'.ownsRow w.heap.size 52 1 (.slice a L c) L (ltV ts) → Z (.returned (.tuple #[.slice a L c,.bool is])) w') := fun w' ts is a L c hL hb h1 h2 => by subst hL; rw [eZ]; exact ⟨hb,ts,is,a,c,rfl,h1,h2⟩
 rw [← eZ]
 clear eZ
 obtain ⟨w1,hw1⟩ : ∃ w1,w1 = ((w.alloc (.cells #[.slice aA n cA,.slice aT n cT] 62 (0,0))).alloc (.cells #[.int .i64 0,.int .i64 0] 81)).alloc (.map #[] 0) := ⟨_,rfl⟩
 have hN1 : NumL w1 (w.heap.size + 2) 0 (fun _ => none) := by
  have := q4F ((w.alloc (.cells #[.slice aA n cA,.slice aT n cT] 62 (0,0))).alloc (.cells #[.int .i64 0,.int .i64 0] 81))
  rw [hw1]; simpa using this
 obtain ⟨w2,hput,hN2,hg2⟩ := hN1.put (by omega) (x := 0) (by omega) rfl 0 (by omega)
 have HM0 : Hid (FiM w w2 aA cA aT cT n (.slice (some ⟨w.heap.size + 1,0,none⟩) 1 1) [(0,0)] (fun y => if y = 0 then some 0 else none)) := by
  have hmv := ((qa w (.slice aA n cA) (.slice aT n cT)).up (q6 _ (.cells #[.int .i64 0,.int .i64 0] 81))).up (q6 _ (.map #[] 0))
  have hmq := (MapKept.heap_alloc (w.alloc (.cells #[.slice aA n cA,.slice aT n cT] 62 (0,0))) (.cells #[.int .i64 0,.int .i64 0] 81)).1
  have hb1 : Below w.heap.size w w1 := by rw [hw1]; exact q5 (q5 (q6 w _) (q6 _ _)) (q6 _ _)
  have hl1 := hN1.lt
  rw [← hw1] at hmv
  have hmq1 : w1.heap[w.heap.size + 1]? = some (.cells #[.int .i64 0,.int .i64 0] 81 (0,0)) := by
   rw [hw1,(q6 _ (.map #[] 0)).block _ (by simp)]
   simpa using hmq
  refine ⟨(hg2.block _ (by omega) (fun e => by injection e with e; omega)).trans hmv,⟨rfl,.inr ⟨w.heap.size + 1,1,_,rfl,Nat.le_refl _,(hg2.block _ (by omega) (fun e => by injection e with e; omega)).trans hmq1,Nat.le_refl _,by decide,rfl,rfl⟩⟩,hN2,fun e => by injection e with e; dsimp only at e; omega,hb1.grown hg2 hb1.size (fun q e => by injection e with e; omega)⟩
 have HB0 : Hid (BfQ n K R 0 0 [(0,[])]) := q2s h1n
 have HHM : Hid _ := hM
 have HR : Hid _ := hR
 have HW1 : Hid (w1 = ((w.alloc (.cells #[.slice aA n cA,.slice aT n cT] 62 (0,0))).alloc (.cells #[.int .i64 0,.int .i64 0] 81)).alloc (.map #[] 0)) := hw1
 have hput0 : (Instr.mapUpdate 83 (.map (some (w.heap.size + 2))) (.int .i64 0) (.int .u8 0)).run Try.prog w1 = .ok () w2 := hput
 clear hM hR hw1 hN1 hN2 hg2 h1n hput
 have hmm := @run_makeMap Try.prog
 go_enter Try.func32,Try.ntmps32
 go_wp2_with (rw [← HW1.out])
 clear hput0 hmm
 rw [show w.heap.size + 1 + 1 = w.heap.size + 2 from rfl]
 go_loopw [6,8] (fun v i wr => ∃ (j : Nat) (Q : List (Nat × List Nat)) (M : List (Nat × Nat)) (f : Nat → Option Nat),i = .int .i64 (j : Int) ∧ Hid (BfQ n K R j 0 Q) ∧ Hid (NoQ K R bs acc j 0 Q) ∧ Hid (LnkQ Q M f) ∧ Hid (FiM w wr aA cA aT cT n v M f) ∧ j ≤ M.length) (fun _ i _ => n - (intOf i).toNat)
 case atStart => exact ⟨0,[(0,[])],[(0,0)],_,rfl,HB0,q4B _,q4k,HM0,Nat.zero_le _⟩
 case round =>
  obtain ⟨j,Q,M,f,rfl,HB,HN,HL,HM,hjM⟩ := hrel
  clear HB0 HM0
  have hML : M.length = Q.length := HL.out.len
  have hQn : M.length ≤ n := by rw [hML]; exact HB.out.few
  obtain ⟨gq,cq,rfl,hgq1,hgq2⟩ := World.ownsRow.form HM.out.mq (by have h1 := (List.getElem?_eq_some_iff.1 HB.out.zero).1; omega)
  by_cases hlt : j < M.length
  ·obtain ⟨x,hx⟩ : ∃ x,Q[j]? = some x := ⟨_,List.getElem?_eq_getElem (by omega)⟩
   obtain ⟨mm,hmm⟩ : ∃ mm,M[j]? = some mm := ⟨_,List.getElem?_eq_getElem hlt⟩
   have hmx : mm.1 = x.1 := by
    have := congrArg (fun l => l[j]?) HL.out.fst
    simp only [List.getElem?_map,hmm,hx,Option.map_some,Option.some.injEq] at this
    exact this
   obtain ⟨g1,cap1,oo,e1,_,hgl,hix,c0,c1⟩ := MqO.at HM.out.mq hmm
   injection e1 with e1 _ e3
   injection e1 with e1
   injection e1 with e1
   subst e1; subst e3
   have hqn : x.1 < n := HB.out.lt x (List.mem_of_getElem? hx)
   rw [hmx] at c0
   obtain ⟨rg,ro,rz,ra,rl,rc,hrx,hrc,hrz⟩ := HHM.out.row hqn
   have hrc := q9 hrc HM.out.bel
   have hrl : rl = K := by have := hrz.hlen; rw [List.length_map,HR.out.row x.1 hqn] at this; exact this.symm
   subst hrl
   have m1 := HM.out.mv.c1
   have HX : Hid _ := hx
   have HRZ : Hid (ZSl w ra rl rc ((R.getD x.1 []).map Int.ofNat)) := hrz
   have HXN : Hid _ := hqn
   have HP0 : Hid (∀ nq,FiM w (wr.drewN nq) aA cA aT cT n (.slice (some ⟨gq,0,none⟩) M.length cq) M f) := fun nq => HM.out.up (below_drewN (Below.refl _ _) nq)
   have HML : Hid _ := hML
   clear hx hmm hmx c1 hrz hqn hjM HM hML
   go_wp2
   go_quiet (fail)
   go_wp2
   have HPN : Hid _ := HP0.out nq
   clear HP0 hix c0 hrx hrc m1
   generalize wr.drewN nq = wz at *
   go_loopw [6,33] (fun v i wy => ∃ (k : Nat) (Q2 : List (Nat × List Nat)) (M2 : List (Nat × Nat)) (f2 : Nat → Option Nat),k ≤ rl ∧ i = .int .i64 (k : Int) ∧ Hid (BfQ n rl R j k Q2) ∧ Hid (NoQ rl R bs acc j k Q2) ∧ Hid (LnkQ Q2 M2 f2) ∧ Hid (FiM w wy aA cA aT cT n v M2 f2) ∧ Hid (Q2[j]? = some x)) (fun _ i _ => rl - (intOf i).toNat)
   case atStart => exact ⟨0,Q,M,f,Nat.zero_le _,rfl,HB,HN,HL,HPN,HX⟩
   case round =>
    clear HPN HB HN HL HX
    obtain ⟨k,Q2,M2,f2,hk,rfl,HB,HN,HL,HM,HX⟩ := hrel
    have hML2 : M2.length = Q2.length := HL.out.len
    have hQn2 : M2.length ≤ n := by rw [hML2]; exact HB.out.few
    have HJQ : Hid (j < Q2.length) := (List.getElem?_eq_some_iff.1 HX.out).1
    have hjQ2 : j < M2.length := by have h1 := HJQ.out; omega
    clear hML2
    obtain ⟨gv,cv,rfl,hgv1,hgv2⟩ := World.ownsRow.form HM.out.mq (by omega)
    by_cases hkK : k < rl
    ·have ik1 := fun w' => HRZ.out.idx rl k w' hkK (Nat.le_refl _)
     have ck1 := (HRZ.out.up HM.out.bel).cell k hkK
     rw [qi (by rw [HR.out.row x.1 HXN.out]; exact hkK)] at ck1
     have hs := HR.out.lt x.1 k HXN.out hkK
     change wr.cell? _ = some (.int .i64 ((trP R x.1 k : Nat) : Int)) at ck1
     have HSK : Hid (trP R x.1 k ∈ Q2.map (·.1) → bs.getD (trP R x.1 k) false ≠ acc → BfQ n rl R j (k + 1) Q2 ∧ NoQ rl R bs acc j (k + 1) Q2) := fun h h2 => ⟨HB.out.skip hK HX.out h,HN.out.skip HX.out h2⟩
     have HPU : Hid (trP R x.1 k ∉ Q2.map (·.1) → bs.getD (trP R x.1 k) false ≠ acc → BfQ n rl R j (k + 1) (Q2 ++ [(trP R x.1 k,x.2 ++ [k])]) ∧ NoQ rl R bs acc j (k + 1) (Q2 ++ [(trP R x.1 k,x.2 ++ [k])]) ∧ LnkQ (Q2 ++ [(trP R x.1 k,x.2 ++ [k])]) (M2 ++ [(trP R x.1 k,j)]) (fun y => if y = trP R x.1 k then some k else f2 y)) := fun h h2 => ⟨HB.out.push HR.out hK HX.out hkK h,(HN.out.skip HX.out h2).push HJQ.out _,HL.out.push HX.out (by omega) h⟩
     have HFO : Hid (bs.getD (trP R x.1 k) false = acc → FirA n rl R bs acc (x.2 ++ [k]) true) := fun h => HB.out.found HR.out hK HN.out HX.out hkK h
     generalize trP R x.1 k = s at *
     obtain ⟨ib1,cb1⟩ := (HHM.out.bo.up HM.out.bel).at s hs
     have ib1 := fun w' => ib1 n w' hs
     have hbl := HHM.out.bo.hlen
     have gb1 : bs.getD s false = bs[s] := by rw [List.getD_eq_getElem?_getD,List.getElem?_eq_getElem (by omega)]; rfl
     rw [gb1] at HSK HPU HFO
     clear gb1
     generalize bs[s] = y at *
     have m0 := HM.out.mv.c0
     have hkm : (k : Int) % 256 = k := by omega
     have hs256 : s < 256 := by omega
     generalize adOf ra k = ad3 at *
     obtain ⟨b1g,b1o,b1z⟩ := ad3
     generalize adOf aA s = ad4 at *
     obtain ⟨b2g,b2o,b2z⟩ := ad4
     by_cases hy : y = acc
     ·subst hy
      have HF : Hid (FirA n rl R bs y (x.2 ++ [k]) true) := HFO.out rfl
      obtain ⟨s0,hs0⟩ : ∃ s,Q2[0]? = some (s,[]) := ⟨0,HB.out.zero⟩
      have hxl := HB.out.len j x HX.out
      have jt := q29 (w.heap.size + 1) M2.length (w.heap.size + 2) M2.length gv cv Q2 M2 f2 j x wr HM.out.mq HL.out HM.out.nm ⟨s0,hs0⟩ (fun z hz => by have := HB.out.lt z hz; omega) HX.out (by omega)
      have HB0 : Hid (Below w.heap.size w wr) := HM.out.bel
      have hxl2 : x.2.length ≤ 256 := by omega
      clear HSK HPU HFO HB HN HL HM HX hs0 hxl
      go_wp2_with fail
      (with_reducible refine jt.mono ?_)
      rintro e w3 ⟨hb3,ta,tc,rfl,how⟩
      have HO3 : Hid (w3.ownsRow w.heap.size 52 1 (.slice ta x.2.length tc) x.2.length (ltV x.2)) := qj how HB0.out.size
      have HB3 : Hid (Below w.heap.size w w3) := q5 HB0.out hb3
      have hsz : w.heap.size ≤ (w3.alloc (.cells #[.int .u8 (k : Int)] 52)).heap.size := by have := HB3.out.size; simp; omega
      have hcl : (w3.alloc (.cells #[.int .u8 (k : Int)] 52)).cell? ⟨w3.heap.size,0,none⟩ = some (.int .u8 (k : Int)) := q7 (MapKept.heap_alloc w3 _).1 0
      clear how hb3 jt
      go_wp2_with (at_builtin; refine qZ rfl _ _ rfl w.heap.size _ x.2.length x.2 rfl (World.ownsRow.alloc HO3.out _) w3.heap.size k rfl hcl (by omega) hsz ?_)
      intro v7 w7 hown hgr
      obtain ⟨va,vc,rfl⟩ := qg hown
      have HE : Hid _ := HZ.out w7 (x.2 ++ [k]) true va (x.2.length + 1) vc (by simp) ((HB3.out.alloc HB3.out.size _).grown hgr hsz (qf HO3.out)) HF.out (by rw [ltV,List.map_append]; exact hown)
      clear hown hgr hcl hsz HO3 HB3 HZ
      go_wp2
      exact HE.out
     ·have hyb : (y == acc) = false := by cases y <;> cases acc <;> simp_all
      have hlook := HM.out.nm.look hs256
      by_cases hm : s ∈ Q2.map (·.1)
      ·have HQ3 : Hid _ := HSK.out hm hy
       have hsome : (f2 s).isSome = true := (HL.out.dom s).2 hm
       rw [hsome] at hlook
       clear HSK HPU HFO hm HB HN hy hsome
       go_wp2
       go_roundw
       case rel => exact ⟨k + 1,Q2,M2,f2,by omega,by go_num,HQ3.out.1,HQ3.out.2,HL,HM,HX⟩
       case measure => simp [intOf]; omega
      ·have HQ3 : Hid _ := HPU.out hm hy
       have hsome : f2 s = none := by
        cases e : f2 s with
        | none => rfl
        | some z => exact absurd ((HL.out.dom s).1 (by rw [e]; rfl)) hm
       obtain ⟨w4,hput,hN4,hg4⟩ := HM.out.nm.put (by omega) hs256 hsome k (by omega)
       obtain ⟨h4a,h4b,h4c⟩ := HM.out.mid hg4
       rw [hsome] at hlook
       simp only [Option.isSome_none,Option.getD_none] at hlook
       have HN4 : Hid (NumL w4 (w.heap.size + 2) (M2.length + 1) (fun y => if y = s then some k else f2 y)) := hN4
       have HG4 : Hid _ := hg4
       have HO6 : Hid (MqO (w4.alloc (.cells #[.int .i64 (s : Int),.int .i64 (j : Int)] 81)) (w.heap.size + 1) (.slice (some ⟨gv,0,none⟩) M2.length cv) M2.length M2) := World.ownsRow.alloc h4b _
       have HP6 : Hid (MeB (w4.alloc (.cells #[.int .i64 (s : Int),.int .i64 (j : Int)] 81)) w4.heap.size (s,j)) := q5m w4 (s,j)
       have hb6 : w.heap.size + 1 ≤ (w4.alloc (.cells #[.int .i64 (s : Int),.int .i64 (j : Int)] 81)).heap.size := by
        have := hN4.lt
        simp; omega
       have hQ26 : M2.length + 1 ≤ 2000000 := by omega
       clear HSK HPU HFO hm HB HN hy hsome hN4 hg4 h4a h4b h4c
       go_wp2_with (at_builtin; refine q1U rfl _ _ rfl (w.heap.size + 1) _ M2.length M2 (s,j) rfl HO6.out w4.heap.size rfl HP6.out hQ26 hb6 ?_)
       intro g7 c7 w7 hq7 hg7 hl7
       have HM7 : Hid _ := HM.out.push HG4.out HN4.out hq7 hg7 (by simpa using hl7)
       have HX7 : Hid ((Q2 ++ [(s,x.2 ++ [k])])[j]? = some x) := by
        show _ = _
        rw [List.getElem?_append_left (List.getElem?_eq_some_iff.1 HX.out).1]
        exact HX.out
       clear hq7 hg7 hl7 HO6 HP6 hb6 HM HX HZ HN4 HG4 hput hlook
       go_wp2
       go_roundw
       case rel => exact ⟨k + 1,_,_,_,by omega,by go_num,HQ3.out.1,HQ3.out.2.1,HQ3.out.2.2,HM7,HX7⟩
       case measure => simp [intOf]; omega
    ·obtain rfl : k = rl := by omega
     have HB3 : Hid _ := HB.out.next
     have HN3 : Hid _ := HN.out.next
     have hj2 : j < n := by omega
     clear HB HN HZ HX
     go_wp2
     go_roundw
     case rel => exact ⟨j + 1,Q2,M2,f2,by go_num,HB3,HN3,HL,HM,by omega⟩
     case measure => simp [intOf]; omega
  ·have HF : Hid (FirA n K R bs acc [] false) := HB.out.none HN.out (by omega)
   have HE : Hid _ := HZ.out wr [] false none 0 0 rfl HM.out.bel HF.out ⟨rfl,.inl ⟨rfl,rfl⟩⟩
   have hdj : ¬ (j : Int) < (M.length : Int) := by omega
   clear HZ HF HB HN HL HM
   go_wp2
   exact HE.out
theorem MayG.k256 {p : Int} {ns : Nat} {N : List Gd} {gs : List Int} (h : MayG p ns N gs) : 2 ^ p.toNat ≤ 256 := by
 have h8 := h.p8
 have : 2 ^ p.toNat ≤ 2 ^ 8 := Nat.pow_le_pow_right (by decide) (by omega)
 omega
end Go.Proofs.Ytfbefloajnkhiaa
namespace Go.Proofs.Ytfbefloajnkhiaa
open Go.RowKit Go.Maps Go.Sort
theorem q3l {p : Int} {ns : Nat} {N : List Gd} {gs : List Int} (h : MayG p ns N gs) {q : Nat} (hq : q < gs.length) : I64 (gs.getD q 0) := by
 have hg : gs.getD q 0 ∈ gs := by rw [q5d hq]; exact List.getElem_mem hq
 have h1 := h.few
 have h0 := h.s2
 unfold I64
 rcases h.gd _ hg with ⟨h2,h3⟩ | ⟨j,h2,h3,_⟩
 ·constructor <;> omega
 ·rw [h2]; constructor <;> omega
theorem q2w {p : Int} {ns : Nat} {N : List Gd} {gs : List Int} (h : MayG p ns N gs) (x : Nat) : fitsB p (x : Int) = decide (x < 2 ^ p.toNat) := by
 have h0 := h.p0
 have h8 := h.p8
 rw [q3S h0 h8]
 have e : (x : Int) / 2 ^ p.toNat = ((x / 2 ^ p.toNat : Nat) : Int) := by simp
 rw [e,Bool.eq_iff_iff,beq_iff_eq,decide_eq_true_iff]
 have hp := Nat.two_pow_pos p.toNat
 constructor
 ·intro h1
  have : x / 2 ^ p.toNat = 0 := by omega
  rcases Nat.div_eq_zero_iff.1 this with h | h
  ·omega
  ·exact h
 ·intro h1
  rw [Nat.div_eq_of_lt h1]; rfl
theorem q2F {p : Int} {nA : Nat} {N : List Gd} {gs : List Int} (h : MayG p nA N gs) {ts : List Nat} (ht : traceE p (ts.map Int.ofNat) = 0) : ∀ x ∈ ts,x < 2 ^ p.toNat := fun x hx => by
 have h0 := h.p0
 have h8 := h.p8
 unfold traceE at ht
 rw [if_pos ⟨h0,h8⟩] at ht
 split at ht
 ·cases ht
 ·split at ht
  ·rename_i h1
   rw [List.all_eq_true] at h1
   have := h1 (x : Int) (List.mem_map.2 ⟨x,hx,rfl⟩)
   rw [q2w h] at this
   exact of_decide_eq_true this
  ·cases ht
theorem q2G {p : Int} {nA : Nat} {N : List Gd} {gs : List Int} (h : MayG p nA N gs) {ts : List Nat} (hl : ts.length ≤ 1024) (ht : ∀ x ∈ ts,x < 2 ^ p.toNat) : traceE p (ts.map Int.ofNat) = 0 := by
 have h0 := h.p0
 have h8 := h.p8
 unfold traceE
 rw [if_pos ⟨h0,h8⟩,if_neg (by rw [List.length_map]; omega),if_pos]
 rw [List.all_eq_true]
 intro z hz
 obtain ⟨x,hx,rfl⟩ := List.mem_map.1 hz
 exact (q2w h x).trans (decide_eq_true (ht x hx))
abbrev LtC (w : World) (a : Option Addr) (len cap : Nat) (ts : List Nat) : Prop := IntSl Try.prog 27 .u8 w a len cap (ts.map Int.ofNat)
end Go.Proofs.Ytfbefloajnkhiaa
